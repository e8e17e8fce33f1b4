/- Rows of records that lie apart: each block bears a label, a row its own one. What is drawn is held so. -/
import Derived.Test.YteikpekffgifoaaRow
import Derived.Test.YteikpekffgifoaaL2b
import Derived.Test.YteikpekffgifoaaDraw
namespace Go.Proofs.Yteikpekffgifoaa
open Go.ChangeShapes Go.WideShapes Go.ChangeAt Go.RowKit Go.Joins

/-- Blocks with labels of P may have been written, and new ones made; all else is as it was. -/
structure Wr (P : List Nat → Prop) (L : Nat → List Nat) (w w' : World) : Prop where
  os : w'.os = w.os
  tape : w'.tape = w.tape
  output : w'.output = w.output
  size : w.heap.size ≤ w'.heap.size
  block : ∀ k, k < w.heap.size → ¬ P (L k) → w'.heap[k]? = w.heap[k]?

def LExt (w : World) (L L' : Nat → List Nat) : Prop := ∀ k, k < w.heap.size → L' k = L k
/-- All that is new bears the label p. -/
def relab (L : Nat → List Nat) (n : Nat) (p : List Nat) : Nat → List Nat := fun k => if k < n then L k else p
theorem relab_ext (w : World) (L : Nat → List Nat) (p : List Nat) : LExt w L (relab L w.heap.size p) := fun _ h => if_pos h
theorem relab_new {L : Nat → List Nat} {n k : Nat} (p : List Nat) (h : n ≤ k) : relab L n p k = p := if_neg (by omega)
theorem LExt.refl (w : World) (L : Nat → List Nat) : LExt w L L := fun _ _ => rfl
theorem LExt.trans {w w' : World} {L L' L'' : Nat → List Nat} (h : LExt w L L') (k : LExt w' L' L'') (hs : w.heap.size ≤ w'.heap.size) : LExt w L L'' := fun i hi => (k i (Nat.lt_of_lt_of_le hi hs)).trans (h i hi)

theorem Wr.refl (P : List Nat → Prop) (L : Nat → List Nat) (w : World) : Wr P L w w := ⟨rfl, rfl, rfl, Nat.le_refl _, fun _ _ _ => rfl⟩
theorem Wr.trans {P : List Nat → Prop} {L L' : Nat → List Nat} {a b c : World} (h : Wr P L a b) (k : Wr P L' b c) (hL : LExt a L L') : Wr P L a c :=
  ⟨k.os.trans h.os, k.tape.trans h.tape, k.output.trans h.output, Nat.le_trans h.size k.size, fun i hi hn => (k.block i (Nat.lt_of_lt_of_le hi h.size) (by rw [hL i hi]; exact hn)).trans (h.block i hi hn)⟩
theorem Wr.mono {P Q : List Nat → Prop} {L : Nat → List Nat} {a b : World} (h : Wr P L a b) (hPQ : ∀ p, P p → Q p) : Wr Q L a b := ⟨h.os, h.tape, h.output, h.size, fun k hk hn => h.block k hk fun hp => hn (hPQ _ hp)⟩
theorem Wr.grown {P : List Nat → Prop} {L : Nat → List Nat} {a b : World} {row : Option Nat} (h : a.grownBy b row) (hr : ∀ g, row = some g → P (L g)) : Wr P L a b :=
  ⟨h.os, h.tape, h.output, h.size, fun k hk hn => h.block k hk fun e => hn (hr k e.symm)⟩
theorem Wr.below {P : List Nat → Prop} {L : Nat → List Nat} {a b : World} (h : Below a.heap.size a b) : Wr P L a b := ⟨h.os, h.tape, h.output, h.size, fun k hk _ => h.block k hk⟩
theorem Wr.toBelow {P : List Nat → Prop} {L : Nat → List Nat} {a b : World} {B : Nat} (h : Wr P L a b) (hB : B ≤ a.heap.size) (hn : ∀ k, k < B → ¬ P (L k)) : Below B a b := ⟨h.os, h.tape, h.output, h.size, fun k hk => h.block k (Nat.lt_of_lt_of_le hk hB) (hn k hk)⟩
theorem Wr.drewN {P : List Nat → Prop} {L : Nat → List Nat} {a b : World} (h : Wr P L a b) (n : Nat) : Wr P L a (b.drewN n) := ⟨h.os, h.tape, h.output, h.size, h.block⟩
theorem Wr.alloc {P : List Nat → Prop} {L : Nat → List Nat} {a b : World} (h : Wr P L a b) (o : Obj) : Wr P L a (b.alloc o) :=
  ⟨h.os, h.tape, h.output, Nat.le_trans h.size (by simp), fun k hk hn => (Below.heap_alloc b o k (Nat.lt_of_lt_of_le hk h.size)).trans (h.block k hk hn)⟩
theorem Wr.set {P : List Nat → Prop} {L : Nat → List Nat} {a b : World} (h : Wr P L a b) {g : Nat} (hg : g < a.heap.size → P (L g)) (o : Nat) (u : Value) : Wr P L a (b.setCell ⟨g, o, none⟩ u) :=
  ⟨h.os, h.tape, h.output, by simpa using h.size, fun k hk hn => (Below.heap_setCell b ⟨g, o, none⟩ u k (fun e => by
    have : k = g := e
    subst this
    exact hn (hg hk))).trans (h.block k hk hn)⟩
theorem Wr.cell {P : List Nat → Prop} {L : Nat → List Nat} {a b : World} (h : Wr P L a b) {g : Nat} (hg : g < a.heap.size) (hn : ¬ P (L g)) (o : Nat) : b.cell? ⟨g, o, none⟩ = a.cell? ⟨g, o, none⟩ := World.cell?_of_block (a := ⟨g, o, none⟩) (h.block g hg hn)

def Lb (L : Nat → List Nat) (v : Value) (p : List Nat) : Prop := ∀ g, v.ownBlock = some g → L g = p

/-- The slice v is a row of its own, of label p, and holds the records X. -/
def LR {α : Type} (w : World) (B : Nat) (T : TypeId) (S : Nat) (L : Nat → List Nat) (p : List Nat) (E : Nat → α → List Value → Prop) (v : Value) (X : List α) : Prop :=
  ∃ xs : List Value, w.ownsRow B T S v X.length xs ∧ Lb L v p ∧ ∀ (k : Nat) x, X[k]? = some x → ∃ cs, E k x cs ∧ cs.length = S ∧ ∀ (j : Nat) u, cs[j]? = some u → xs[k * S + j]? = some u

section
variable {α : Type} {w w' : World} {B : Nat} {T : TypeId} {S : Nat} {L L' : Nat → List Nat} {p : List Nat} {E E' : Nat → α → List Value → Prop} {v : Value} {X : List α}
theorem LR.nil (w : World) (B : Nat) (T : TypeId) (S : Nat) (L : Nat → List Nat) (p : List Nat) (E : Nat → α → List Value → Prop) : LR w B T S L p E (.slice none 0 0) [] :=
  ⟨[], World.ownsRow_nil _ _ _ _, fun g h => by simp [Value.ownBlock] at h, fun k x h => by simp at h⟩
theorem LR.keep (h : LR w B T S L p E v X) {P : List Nat → Prop} (hw : Wr P L w w') (hL : LExt w L L') (hp : ¬ P p) (hE : ∀ k x cs, E k x cs → E' k x cs) : LR w' B T S L' p E' v X := by
  obtain ⟨xs, h1, h2, h3⟩ := h
  have hlt := World.ownsRow.lt h1
  refine ⟨xs, ?_, fun g hg => (hL g (hlt g hg).2).trans (h2 g hg), fun k x hx => ?_⟩
  · refine ⟨h1.1, ?_⟩
    rcases h1.2 with h4 | ⟨g, cap, cur, rfl, hb, hg, r⟩
    · exact .inl h4
    · exact .inr ⟨g, cap, cur, rfl, hb, (hw.block g (hlt g rfl).2 (by rw [h2 g rfl]; exact hp)).trans hg, r⟩
  · obtain ⟨cs, hc, h5⟩ := h3 k x hx
    exact ⟨cs, hE k x cs hc, h5⟩
theorem LR.len (h : LR w B T S L p E v X) : X.length ≤ 9223372036854775807 := by
  obtain ⟨xs, h1, _⟩ := h
  rcases h1.2 with ⟨_, h4⟩ | ⟨_, cap, _, _, _, _, h5, h6, _⟩
  · omega
  · rw [maxLen_is] at h6; omega
theorem LR.form (h : LR w B T S L p E v X) : ∃ A c, v = .slice A X.length c ∧ (X ≠ [] → ∃ g, A = some ⟨g, 0, none⟩ ∧ L g = p ∧ B ≤ g ∧ g < w.heap.size) := by
  obtain ⟨xs, h1, h2, _⟩ := h
  have hlt := World.ownsRow.lt h1
  rcases h1.2 with ⟨rfl, h4⟩ | ⟨g, cap, cur, rfl, hb, hg, r⟩
  · exact ⟨none, 0, by rw [h4], fun hne => absurd (List.length_eq_zero_iff.1 h4) hne⟩
  · exact ⟨_, cap, rfl, fun _ => ⟨g, rfl, h2 g rfl, hb, (hlt g rfl).2⟩⟩
theorem LR.get {n c g : Nat} (h : LR w B T S L p E (.slice (some ⟨g, 0, none⟩) n c) X) {k : Nat} {x : α} (hx : X[k]? = some x) : ∃ cs, E k x cs ∧ cs.length = S ∧ ∀ (j : Nat) u, cs[j]? = some u → w.cell? ⟨g, k * S + j, none⟩ = some u ∧ w.frozen? ⟨g, k * S + j, none⟩ = false := by
  obtain ⟨xs, h1, _, h3⟩ := h
  obtain ⟨cs, hc, hl, h4⟩ := h3 k x hx
  refine ⟨cs, hc, hl, fun j u hu => ?_⟩
  have hk : k < X.length := (List.getElem?_eq_some_iff.1 hx).1
  have hj : j < S := by rw [← hl]; exact (List.getElem?_eq_some_iff.1 hu).1
  have hlt : k * S + j < X.length * S := by
    have : (k + 1) * S ≤ X.length * S := Nat.mul_le_mul_right _ (by omega)
    rw [Nat.add_mul, Nat.one_mul] at this
    omega
  rcases h1.2 with ⟨h', _⟩ | ⟨g', cap', cur, h', _, hg, hnc, _, hcs, htake⟩
  · simp at h'
  · simp only [Value.slice.injEq, Option.some.injEq, Addr.mk.injEq, and_true] at h'
    obtain ⟨rfl, rfl, rfl⟩ := h'
    have hxs := h4 j u hu
    rw [← htake, List.getElem?_take, if_pos hlt] at hxs
    exact ⟨(cell_of_row w g _ cur T (0, 0) hg).trans (by simpa using hxs), frozen_of_row w g _ cur T hg⟩

/-- A row read as a slice. -/
theorem LR.row {Z : Zn} {F : α → List Value → Prop} (h : LR w B T S L p E v X) (hZ : ∀ k, B ≤ k → k < w.heap.size → Z.D k) (hF : ∀ k x cs, E k x cs → F x cs) : Row w Z S F v X := by
  obtain ⟨A, c, rfl, hA⟩ := h.form
  refine ⟨h.len, A, c, rfl, fun hne => ?_⟩
  obtain ⟨g, rfl, _, hb, hg⟩ := hA hne
  refine ⟨g, 0, rfl, hZ g hb hg, fun k x hx => ?_⟩
  obtain ⟨cs, hE, _, hc⟩ := h.get hx
  exact ⟨cs, hF k x cs hE, fun j u hu => ⟨by rw [Nat.zero_add]; exact (hc j u hu).1, fun _ => by rw [Nat.zero_add]; exact (hc j u hu).2⟩⟩

/-- One record more. -/
theorem LR.snoc {xs cs : List Value} {v' : Value} {y : α} (h1 : w.ownsRow B T S v X.length xs) (h3 : ∀ (k : Nat) x, X[k]? = some x → ∃ cs, E k x cs ∧ cs.length = S ∧ ∀ (j : Nat) u, cs[j]? = some u → xs[k * S + j]? = some u)
    (h' : w'.ownsRow B T S v' (X.length + 1) (xs ++ cs)) (hl : cs.length = S) (hL : Lb L' v' p) (hE : ∀ k x ds, E k x ds → E' k x ds) (hy : E' X.length y cs) : LR w' B T S L' p E' v' (X ++ [y]) := by
  refine ⟨xs ++ cs, by rw [List.length_append]; exact h', hL, fun k x hx => ?_⟩
  rcases Nat.lt_trichotomy k X.length with hk | hk | hk
  · rw [List.getElem?_append_left hk] at hx
    obtain ⟨ds, hd, hdl, hc⟩ := h3 k x hx
    refine ⟨ds, hE k x ds hd, hdl, fun j u hu => ?_⟩
    have := hc j u hu
    rw [List.getElem?_append_left (List.getElem?_eq_some_iff.1 this).1]
    exact this
  · subst hk
    rw [List.getElem?_append_right (Nat.le_refl _), Nat.sub_self] at hx
    simp at hx
    subst hx
    refine ⟨cs, hy, hl, fun j u hu => ?_⟩
    rw [← h1.1, List.getElem?_append_right (by omega), Nat.add_sub_cancel_left]
    exact hu
  · rw [List.getElem?_eq_none (by simp; omega)] at hx
    cases hx

/-- A cell of a record is written anew. -/
theorem LR.set {n c g k j : Nat} {x y : α} {u : Value} (h : LR w B T S L p E (.slice (some ⟨g, 0, none⟩) n c) X) (hx : X[k]? = some x) (hj : j < S)
    (hcs : ∀ cs, E k x cs → cs.length = S → (∀ (i : Nat) q, cs[i]? = some q → w.cell? ⟨g, k * S + i, none⟩ = some q) → E' k y (cs.set j u)) (hE : ∀ i z ds, i ≠ k → E i z ds → E' i z ds) :
    LR (w.setCell ⟨g, k * S + j, none⟩ u) B T S L p E' (.slice (some ⟨g, 0, none⟩) n c) (X.set k y) := by
  have hget := h.get hx
  obtain ⟨xs, h1, h2, h3⟩ := h
  have hn : n = X.length := by
    rcases h1.2 with ⟨h', _⟩ | ⟨_, _, _, h', _⟩
    · simp at h'
    · simp only [Value.slice.injEq] at h'; exact h'.2.1
  subst hn
  have hk : k < X.length := (List.getElem?_eq_some_iff.1 hx).1
  have hst := (World.ownsRow.stored h1 (k * S + j) u).1
  refine ⟨xs.set (k * S + j) u, by rw [List.length_set]; exact hst, h2, fun i z hz => ?_⟩
  by_cases e : i = k
  · subst e
    rw [List.getElem?_set, if_pos rfl, if_pos hk] at hz
    injection hz with hz
    subst hz
    obtain ⟨ds, hd, hl, hc⟩ := h3 i x hx
    have hE' := hcs ds hd hl fun m q hq => by
      obtain ⟨ds', hd', hl', hc'⟩ := hget
      have h5 := hc m q hq
      rcases h1.2 with ⟨h', _⟩ | ⟨g', cap', cur, h', _, hg, hnc, _, hcs', htake⟩
      · simp at h'
      · simp only [Value.slice.injEq, Option.some.injEq, Addr.mk.injEq, and_true] at h'
        obtain ⟨rfl, _⟩ := h'
        have hm : m < S := by rw [← hl]; exact (List.getElem?_eq_some_iff.1 hq).1
        have hlt : i * S + m < X.length * S := by
          have : (i + 1) * S ≤ X.length * S := Nat.mul_le_mul_right _ (by omega)
          rw [Nat.add_mul, Nat.one_mul] at this
          omega
        rw [← htake, List.getElem?_take, if_pos hlt] at h5
        exact (cell_of_row w g _ cur T (0, 0) hg).trans (by simpa using h5)
    refine ⟨ds.set j u, hE', by simpa using hl, fun m q hq => ?_⟩
    rw [List.getElem?_set] at hq ⊢
    by_cases e2 : j = m
    · subst e2
      rw [if_pos rfl, if_pos (by omega)] at hq
      rw [if_pos rfl, if_pos ?_]
      · exact hq
      · rw [h1.1]
        have : (i + 1) * S ≤ X.length * S := Nat.mul_le_mul_right _ (by omega)
        rw [Nat.add_mul, Nat.one_mul] at this
        omega
    · rw [if_neg e2] at hq
      rw [if_neg (by omega)]
      exact hc m q hq
  · rw [List.getElem?_set, if_neg (by omega)] at hz
    obtain ⟨ds, hd, hl, hc⟩ := h3 i z hz
    refine ⟨ds, hE i z ds e hd, hl, fun m q hq => ?_⟩
    rw [List.getElem?_set, if_neg ?_]
    · exact hc m q hq
    · have hm : m < S := by rw [← hl]; exact (List.getElem?_eq_some_iff.1 hq).1
      rcases Nat.lt_or_gt_of_ne e with h | h
      · have : (i + 1) * S ≤ k * S := Nat.mul_le_mul_right _ (by omega)
        rw [Nat.add_mul, Nat.one_mul] at this
        omega
      · have : (k + 1) * S ≤ i * S := Nat.mul_le_mul_right _ (by omega)
        rw [Nat.add_mul, Nat.one_mul] at this
        omega
end

/-- The numbers of a slice type ST of records T. -/
structure RowT (ST T : TypeId) (S bytes : Nat) : Prop where
  slice : Try.prog.underlying ST = some (.slice T)
  info : ∃ z : Value, (Try.prog.info? T).map (fun i => (i.zero, i.size, i.bytes)) = some (some z, S, bytes) ∧ z.cells.size = S
  pos : 0 < S
  small : bytes ≤ 1024

theorem rt_int : RowT 36 2 1 8 := ⟨Try.underlying36, ⟨.int .i64 0, by kernel_rfl, rfl⟩, by decide, by decide⟩
theorem rt_Phi : RowT 39 104 2 32 := ⟨Try.underlying39, ⟨.agg #[.int .i64 0, .slice none 0 0], by kernel_rfl, rfl⟩, by decide, by decide⟩
theorem rt_Move : RowT 40 99 2 16 := ⟨Try.underlying40, ⟨.agg #[.int .i64 0, .int .i64 0], by kernel_rfl, rfl⟩, by decide, by decide⟩
theorem rt_Ins : RowT 41 101 4 32 := ⟨Try.underlying41, ⟨.agg #[.int .i64 0, .int .i64 0, .int .i64 0, .int .i64 0], by kernel_rfl, rfl⟩, by decide, by decide⟩
theorem rt_End : RowT 106 29 4 32 := ⟨Try.underlying106, ⟨.agg #[.int .i64 0, .int .i64 0, .int .i64 0, .int .i64 0], by kernel_rfl, rfl⟩, by decide, by decide⟩
theorem rt_Block : RowT 24 43 8 128 := ⟨Try.underlying24, ⟨.agg #[.slice none 0 0, .slice none 0 0, .slice none 0 0, .slice none 0 0, .int .i64 0, .int .i64 0, .int .i64 0, .int .i64 0], by kernel_rfl, rfl⟩, by decide, by decide⟩

/-- What an append of one record leaves. -/
structure Snoc {α : Type} (w w' : World) (B : Nat) (T : TypeId) (S : Nat) (L : Nat → List Nat) (p : List Nat) (E : Nat → α → List Value → Prop) (X : List α) (cs : List Value) (g cap : Nat) : Prop where
  lr : ∀ (E' : Nat → α → List Value → Prop) (y : α), (∀ k z ds, E k z ds → E' k z ds) → E' X.length y cs → LR w' B T S (relab L w.heap.size p) p E' (.slice (some ⟨g, 0, none⟩) (X.length + 1) cap) (X ++ [y])
  wr : Wr (· = p) L w w'
  lab : relab L w.heap.size p g = p
  lt : g < w'.heap.size
  ge : B ≤ g

theorem snoc_of {α : Type} {w w' : World} {B : Nat} {T : TypeId} {S : Nat} {L : Nat → List Nat} {p : List Nat} {E : Nat → α → List Value → Prop} {X : List α} {cs xs : List Value} {g cap : Nat} {v : Value}
    (h1 : w.ownsRow B T S v X.length xs) (h2 : Lb L v p) (h3 : ∀ (k : Nat) x, X[k]? = some x → ∃ cs, E k x cs ∧ cs.length = S ∧ ∀ (j : Nat) u, cs[j]? = some u → xs[k * S + j]? = some u) (hl : cs.length = S)
    (h' : w'.ownsRow B T S (.slice (some ⟨g, 0, none⟩) (X.length + 1) cap) (X.length + 1) (xs ++ cs)) (hg : w.grownBy w' v.ownBlock) (hat : v.ownBlock = some g ∨ g = w.heap.size) (hlt : g < w'.heap.size) : Snoc w w' B T S L p E X cs g cap := by
  have hlab : relab L w.heap.size p g = p := by
    rcases hat with h | h
    · exact (relab_ext w L p g (World.ownsRow.lt h1 g h).2).trans (h2 g h)
    · exact relab_new p (by omega)
  refine ⟨fun E' y hE hy => LR.snoc h1 h3 h' hl (fun g' hg' => ?_) hE hy, Wr.grown hg fun g' h => h2 g' h, hlab, hlt, (World.ownsRow.lt h' g rfl).1⟩
  simp [Value.ownBlock] at hg'
  subst hg'
  exact hlab

section
variable {α : Type} {B : Nat} {ST T : TypeId} {S bytes : Nat} {L : Nat → List Nat} {p : List Nat} {E : Nat → α → List Value → Prop} {v : Value} {X : List α}
theorem LR.wp_append (hT : RowT ST T S bytes) {ops : Array Oper} {rest : List Oper} {o : Oper} {a : Act} {Q : Exit → Act → World → Prop} (hgd : o.guard = none) (s x : Operand)
    (ho : o.op = .call { callee := .builtin .append, args := #[s, x], argTypes := #[ST, ST] }) (w : World) (q : Nat) (cs : Array Value)
    (hs : a.eval s = v) (h : LR w B T S L p E v X) (hx : a.eval x = .slice (some ⟨q, 0, none⟩) 1 1) (hq : w.heap[q]? = some (.cells cs T (0, 0))) (hl : cs.toList.length = S) (h1 : ∀ u ∈ cs.toList, u.oneCell' = true) (hb : B ≤ w.heap.size) (hn : X.length ≤ 1000000)
    (hk : ∀ g cap w', Snoc w w' B T S L p E X cs.toList g cap → wpList Try.prog ops Q rest (a.put o.dst (.slice (some ⟨g, 0, none⟩) (X.length + 1) cap)) w') : wpList Try.prog ops Q (o :: rest) a w := by
  obtain ⟨xs, h2, h3, h4⟩ := h
  obtain ⟨z, hinfo, hz⟩ := hT.info
  obtain ⟨i0, hi, hz0, hz1, hz2⟩ := info_parts hinfo
  have hsm := hT.small
  have hby : (X.length + 1) * bytes ≤ 140737488355328 := Nat.le_trans (Nat.mul_le_mul (show X.length + 1 ≤ 1000001 by omega) hsm) (by decide)
  refine wpList_append_lies (P := Try.prog) w hgd s x ST ho B T i0 z S bytes hT.slice hi hz0 hz1 hz2 hz hT.pos v X.length xs hs h2 ⟨q, 0, none⟩ 1 1 cs.toList hx (by rw [hl, Nat.one_mul]) (World.news_of_block hq) h1 (by omega) (by rw [maxLen_is]; omega) hby hb w.heap.size rfl fun g cap w' h' hg hat hlt => hk g cap w' (snoc_of h2 h3 h4 hl h' hg hat hlt)

theorem LR.step_append (hT : RowT ST T S bytes) {ops : Array Oper} {o : Oper} {a : Act} {K : Act → World → Prop} {Q : Exit → Act → World → Prop} {F : Prop} (hgd : o.guard = none) (s x : Operand)
    (ho : o.op = .call { callee := .builtin .append, args := #[s, x], argTypes := #[ST, ST] }) (w : World) (q : Nat) (cs : Array Value)
    (hs : a.eval s = v) (h : LR w B T S L p E v X) (hx : a.eval x = .slice (some ⟨q, 0, none⟩) 1 1) (hq : w.heap[q]? = some (.cells cs T (0, 0))) (hl : cs.toList.length = S) (h1 : ∀ u ∈ cs.toList, u.oneCell' = true) (hb : B ≤ w.heap.size) (hn : X.length ≤ 1000000)
    (hk : ∀ g cap w', Snoc w w' B T S L p E X cs.toList g cap → K (a.put o.dst (.slice (some ⟨g, 0, none⟩) (X.length + 1) cap)) w') : if Region.wanted o (yielded ops a.tmps) = true then Oper.wp Try.prog o a w K Q else F := by
  obtain ⟨xs, h2, h3, h4⟩ := h
  obtain ⟨z, hinfo, hz⟩ := hT.info
  obtain ⟨i0, hi, hz0, hz1, hz2⟩ := info_parts hinfo
  have hsm := hT.small
  have hby : (X.length + 1) * bytes ≤ 140737488355328 := Nat.le_trans (Nat.mul_le_mul (show X.length + 1 ≤ 1000001 by omega) hsm) (by decide)
  refine step_append_lies (P := Try.prog) w hgd s x ST ho B T i0 z S bytes hT.slice hi hz0 hz1 hz2 hz hT.pos v X.length xs hs h2 ⟨q, 0, none⟩ 1 1 cs.toList hx (by rw [hl, Nat.one_mul]) (World.news_of_block hq) h1 (by omega) (by rw [maxLen_is]; omega) hby hb w.heap.size rfl fun g cap w' h' hg hat hlt => hk g cap w' (snoc_of h2 h3 h4 hl h' hg hat hlt)
end

end Go.Proofs.Yteikpekffgifoaa
