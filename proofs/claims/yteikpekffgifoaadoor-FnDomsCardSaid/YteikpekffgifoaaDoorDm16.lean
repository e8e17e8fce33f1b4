/- Lab, Lab2, Dr1, joined. -/
import Derived.Test.YteikpekffgifoaaDoorDm2
import Derived.Test.YteikpekffgifoaaDoorDm3
import Derived.Test.YteikpekffgifoaaDoorDm8
import Derived.Deep.CutRange
namespace Go.Proofs.YteikpekffgifoaaDoor

/- Rows of records that lie apart: each block bears a label, a row its own one. What is drawn is held so. -/
section
open Go.ChangeShapes Go.WideShapes Go.ChangeAt Go.RowKit Go.Joins

/-- Blocks with labels of P may have been written, and new ones made; all else is as it was. -/
structure Wr (P : List Nat → Prop) (L : Nat → List Nat) (w w' : World) : Prop where
  os : w'.os = w.os
  tape : w'.tape = w.tape
  output : w'.output = w.output
  size : w.heap.size ≤ w'.heap.size
  block : ∀ k, k < w.heap.size → ¬ P (L k) → w'.heap[k]? = w.heap[k]?

def LExt (w : World) (L L' : Nat → List Nat) : Prop := ∀ k, k < w.heap.size → L' k = L k
/-- All that is new bears the label p. -/
def relab (L : Nat → List Nat) (n : Nat) (p : List Nat) : Nat → List Nat := fun k => if k < n then L k else p
theorem relab_ext (w : World) (L : Nat → List Nat) (p : List Nat) : LExt w L (relab L w.heap.size p) := fun _ h => if_pos h
theorem relab_new {L : Nat → List Nat} {n k : Nat} (p : List Nat) (h : n ≤ k) : relab L n p k = p := if_neg (by omega)
theorem LExt.refl (w : World) (L : Nat → List Nat) : LExt w L L := fun _ _ => rfl
theorem LExt.trans {w w' : World} {L L' L'' : Nat → List Nat} (h : LExt w L L') (k : LExt w' L' L'') (hs : w.heap.size ≤ w'.heap.size) : LExt w L L'' := fun i hi => (k i (Nat.lt_of_lt_of_le hi hs)).trans (h i hi)

theorem Wr.refl (P : List Nat → Prop) (L : Nat → List Nat) (w : World) : Wr P L w w := ⟨rfl, rfl, rfl, Nat.le_refl _, fun _ _ _ => rfl⟩
theorem Wr.trans {P : List Nat → Prop} {L L' : Nat → List Nat} {a b c : World} (h : Wr P L a b) (k : Wr P L' b c) (hL : LExt a L L') : Wr P L a c :=
  ⟨k.os.trans h.os, k.tape.trans h.tape, k.output.trans h.output, Nat.le_trans h.size k.size, fun i hi hn => (k.block i (Nat.lt_of_lt_of_le hi h.size) (by rw [hL i hi]; exact hn)).trans (h.block i hi hn)⟩
theorem Wr.mono {P Q : List Nat → Prop} {L : Nat → List Nat} {a b : World} (h : Wr P L a b) (hPQ : ∀ p, P p → Q p) : Wr Q L a b := ⟨h.os, h.tape, h.output, h.size, fun k hk hn => h.block k hk fun hp => hn (hPQ _ hp)⟩
theorem Wr.grown {P : List Nat → Prop} {L : Nat → List Nat} {a b : World} {row : Option Nat} (h : a.grownBy b row) (hr : ∀ g, row = some g → P (L g)) : Wr P L a b :=
  ⟨h.os, h.tape, h.output, h.size, fun k hk hn => h.block k hk fun e => hn (hr k e.symm)⟩
theorem Wr.below {P : List Nat → Prop} {L : Nat → List Nat} {a b : World} (h : Below a.heap.size a b) : Wr P L a b := ⟨h.os, h.tape, h.output, h.size, fun k hk _ => h.block k hk⟩
theorem Wr.toBelow {P : List Nat → Prop} {L : Nat → List Nat} {a b : World} {B : Nat} (h : Wr P L a b) (hB : B ≤ a.heap.size) (hn : ∀ k, k < B → ¬ P (L k)) : Below B a b := ⟨h.os, h.tape, h.output, h.size, fun k hk => h.block k (Nat.lt_of_lt_of_le hk hB) (hn k hk)⟩
theorem Wr.drewN {P : List Nat → Prop} {L : Nat → List Nat} {a b : World} (h : Wr P L a b) (n : Nat) : Wr P L a (b.drewN n) := ⟨h.os, h.tape, h.output, h.size, h.block⟩
theorem Wr.alloc {P : List Nat → Prop} {L : Nat → List Nat} {a b : World} (h : Wr P L a b) (o : Obj) : Wr P L a (b.alloc o) :=
  ⟨h.os, h.tape, h.output, Nat.le_trans h.size (by simp), fun k hk hn => (Below.heap_alloc b o k (Nat.lt_of_lt_of_le hk h.size)).trans (h.block k hk hn)⟩
theorem Wr.set {P : List Nat → Prop} {L : Nat → List Nat} {a b : World} (h : Wr P L a b) {g : Nat} (hg : g < a.heap.size → P (L g)) (o : Nat) (u : Value) : Wr P L a (b.setCell ⟨g, o, none⟩ u) :=
  ⟨h.os, h.tape, h.output, by simpa using h.size, fun k hk hn => (Below.heap_setCell b ⟨g, o, none⟩ u k (fun e => by
    have : k = g := e
    subst this
    exact hn (hg hk))).trans (h.block k hk hn)⟩
theorem Wr.cell {P : List Nat → Prop} {L : Nat → List Nat} {a b : World} (h : Wr P L a b) {g : Nat} (hg : g < a.heap.size) (hn : ¬ P (L g)) (o : Nat) : b.cell? ⟨g, o, none⟩ = a.cell? ⟨g, o, none⟩ := World.cell?_of_block (a := ⟨g, o, none⟩) (h.block g hg hn)

def Lb (L : Nat → List Nat) (v : Value) (p : List Nat) : Prop := ∀ g, v.ownBlock = some g → L g = p

/-- The slice v is a row of its own, of label p, and holds the records X. -/
def LR {α : Type} (w : World) (B : Nat) (T : TypeId) (S : Nat) (L : Nat → List Nat) (p : List Nat) (E : Nat → α → List Value → Prop) (v : Value) (X : List α) : Prop :=
  ∃ xs : List Value, w.ownsRow B T S v X.length xs ∧ Lb L v p ∧ ∀ (k : Nat) x, X[k]? = some x → ∃ cs, E k x cs ∧ cs.length = S ∧ ∀ (j : Nat) u, cs[j]? = some u → xs[k * S + j]? = some u

section
variable {α : Type} {w w' : World} {B : Nat} {T : TypeId} {S : Nat} {L L' : Nat → List Nat} {p : List Nat} {E E' : Nat → α → List Value → Prop} {v : Value} {X : List α}
theorem LR.nil (w : World) (B : Nat) (T : TypeId) (S : Nat) (L : Nat → List Nat) (p : List Nat) (E : Nat → α → List Value → Prop) : LR w B T S L p E (.slice none 0 0) [] :=
  ⟨[], World.ownsRow_nil _ _ _ _, fun g h => by simp [Value.ownBlock] at h, fun k x h => by simp at h⟩
theorem LR.keep (h : LR w B T S L p E v X) {P : List Nat → Prop} (hw : Wr P L w w') (hL : LExt w L L') (hp : ¬ P p) (hE : ∀ k x cs, E k x cs → E' k x cs) : LR w' B T S L' p E' v X := by
  obtain ⟨xs, h1, h2, h3⟩ := h
  have hlt := World.ownsRow.lt h1
  refine ⟨xs, ?_, fun g hg => (hL g (hlt g hg).2).trans (h2 g hg), fun k x hx => ?_⟩
  · refine ⟨h1.1, ?_⟩
    rcases h1.2 with h4 | ⟨g, cap, cur, rfl, hb, hg, r⟩
    · exact .inl h4
    · exact .inr ⟨g, cap, cur, rfl, hb, (hw.block g (hlt g rfl).2 (by rw [h2 g rfl]; exact hp)).trans hg, r⟩
  · obtain ⟨cs, hc, h5⟩ := h3 k x hx
    exact ⟨cs, hE k x cs hc, h5⟩
theorem LR.len (h : LR w B T S L p E v X) : X.length ≤ 9223372036854775807 := by
  obtain ⟨xs, h1, _⟩ := h
  rcases h1.2 with ⟨_, h4⟩ | ⟨_, cap, _, _, _, _, h5, h6, _⟩
  · omega
  · rw [maxLen_is] at h6; omega
theorem LR.form (h : LR w B T S L p E v X) : ∃ A c, v = .slice A X.length c ∧ (X ≠ [] → ∃ g, A = some ⟨g, 0, none⟩ ∧ L g = p ∧ B ≤ g ∧ g < w.heap.size) := by
  obtain ⟨xs, h1, h2, _⟩ := h
  have hlt := World.ownsRow.lt h1
  rcases h1.2 with ⟨rfl, h4⟩ | ⟨g, cap, cur, rfl, hb, hg, r⟩
  · exact ⟨none, 0, by rw [h4], fun hne => absurd (List.length_eq_zero_iff.1 h4) hne⟩
  · exact ⟨_, cap, rfl, fun _ => ⟨g, rfl, h2 g rfl, hb, (hlt g rfl).2⟩⟩
theorem LR.get {n c g : Nat} (h : LR w B T S L p E (.slice (some ⟨g, 0, none⟩) n c) X) {k : Nat} {x : α} (hx : X[k]? = some x) : ∃ cs, E k x cs ∧ cs.length = S ∧ ∀ (j : Nat) u, cs[j]? = some u → w.cell? ⟨g, k * S + j, none⟩ = some u ∧ w.frozen? ⟨g, k * S + j, none⟩ = false := by
  obtain ⟨xs, h1, _, h3⟩ := h
  obtain ⟨cs, hc, hl, h4⟩ := h3 k x hx
  refine ⟨cs, hc, hl, fun j u hu => ?_⟩
  have hk : k < X.length := (List.getElem?_eq_some_iff.1 hx).1
  have hj : j < S := by rw [← hl]; exact (List.getElem?_eq_some_iff.1 hu).1
  have hlt : k * S + j < X.length * S := by
    have : (k + 1) * S ≤ X.length * S := Nat.mul_le_mul_right _ (by omega)
    rw [Nat.add_mul, Nat.one_mul] at this
    omega
  rcases h1.2 with ⟨h', _⟩ | ⟨g', cap', cur, h', _, hg, hnc, _, hcs, htake⟩
  · simp at h'
  · simp only [Value.slice.injEq, Option.some.injEq, Addr.mk.injEq, and_true] at h'
    obtain ⟨rfl, rfl, rfl⟩ := h'
    have hxs := h4 j u hu
    rw [← htake, List.getElem?_take, if_pos hlt] at hxs
    exact ⟨(cell_of_row w g _ cur T (0, 0) hg).trans (by simpa using hxs), frozen_of_row w g _ cur T hg⟩

/-- A row read as a slice. -/
theorem LR.row {Z : Zn} {F : α → List Value → Prop} (h : LR w B T S L p E v X) (hZ : ∀ k, B ≤ k → k < w.heap.size → Z.D k) (hF : ∀ k x cs, E k x cs → F x cs) : Row w Z S F v X := by
  obtain ⟨A, c, rfl, hA⟩ := h.form
  refine ⟨h.len, A, c, rfl, fun hne => ?_⟩
  obtain ⟨g, rfl, _, hb, hg⟩ := hA hne
  refine ⟨g, 0, rfl, hZ g hb hg, fun k x hx => ?_⟩
  obtain ⟨cs, hE, _, hc⟩ := h.get hx
  exact ⟨cs, hF k x cs hE, fun j u hu => ⟨by rw [Nat.zero_add]; exact (hc j u hu).1, fun _ => by rw [Nat.zero_add]; exact (hc j u hu).2⟩⟩

/-- One record more. -/
theorem LR.snoc {xs cs : List Value} {v' : Value} {y : α} (h1 : w.ownsRow B T S v X.length xs) (h3 : ∀ (k : Nat) x, X[k]? = some x → ∃ cs, E k x cs ∧ cs.length = S ∧ ∀ (j : Nat) u, cs[j]? = some u → xs[k * S + j]? = some u)
    (h' : w'.ownsRow B T S v' (X.length + 1) (xs ++ cs)) (hl : cs.length = S) (hL : Lb L' v' p) (hE : ∀ k x ds, E k x ds → E' k x ds) (hy : E' X.length y cs) : LR w' B T S L' p E' v' (X ++ [y]) := by
  refine ⟨xs ++ cs, by rw [List.length_append]; exact h', hL, fun k x hx => ?_⟩
  rcases Nat.lt_trichotomy k X.length with hk | hk | hk
  · rw [List.getElem?_append_left hk] at hx
    obtain ⟨ds, hd, hdl, hc⟩ := h3 k x hx
    refine ⟨ds, hE k x ds hd, hdl, fun j u hu => ?_⟩
    have := hc j u hu
    rw [List.getElem?_append_left (List.getElem?_eq_some_iff.1 this).1]
    exact this
  · subst hk
    rw [List.getElem?_append_right (Nat.le_refl _), Nat.sub_self] at hx
    simp at hx
    subst hx
    refine ⟨cs, hy, hl, fun j u hu => ?_⟩
    rw [← h1.1, List.getElem?_append_right (by omega), Nat.add_sub_cancel_left]
    exact hu
  · rw [List.getElem?_eq_none (by simp; omega)] at hx
    cases hx

/-- A cell of a record is written anew. -/
theorem LR.set {n c g k j : Nat} {x y : α} {u : Value} (h : LR w B T S L p E (.slice (some ⟨g, 0, none⟩) n c) X) (hx : X[k]? = some x) (hj : j < S)
    (hcs : ∀ cs, E k x cs → cs.length = S → (∀ (i : Nat) q, cs[i]? = some q → w.cell? ⟨g, k * S + i, none⟩ = some q) → E' k y (cs.set j u)) (hE : ∀ i z ds, i ≠ k → E i z ds → E' i z ds) :
    LR (w.setCell ⟨g, k * S + j, none⟩ u) B T S L p E' (.slice (some ⟨g, 0, none⟩) n c) (X.set k y) := by
  have hget := h.get hx
  obtain ⟨xs, h1, h2, h3⟩ := h
  have hn : n = X.length := by
    rcases h1.2 with ⟨h', _⟩ | ⟨_, _, _, h', _⟩
    · simp at h'
    · simp only [Value.slice.injEq] at h'; exact h'.2.1
  subst hn
  have hk : k < X.length := (List.getElem?_eq_some_iff.1 hx).1
  have hst := (World.ownsRow.stored h1 (k * S + j) u).1
  refine ⟨xs.set (k * S + j) u, by rw [List.length_set]; exact hst, h2, fun i z hz => ?_⟩
  by_cases e : i = k
  · subst e
    rw [List.getElem?_set, if_pos rfl, if_pos hk] at hz
    injection hz with hz
    subst hz
    obtain ⟨ds, hd, hl, hc⟩ := h3 i x hx
    have hE' := hcs ds hd hl fun m q hq => by
      obtain ⟨ds', hd', hl', hc'⟩ := hget
      have h5 := hc m q hq
      rcases h1.2 with ⟨h', _⟩ | ⟨g', cap', cur, h', _, hg, hnc, _, hcs', htake⟩
      · simp at h'
      · simp only [Value.slice.injEq, Option.some.injEq, Addr.mk.injEq, and_true] at h'
        obtain ⟨rfl, _⟩ := h'
        have hm : m < S := by rw [← hl]; exact (List.getElem?_eq_some_iff.1 hq).1
        have hlt : i * S + m < X.length * S := by
          have : (i + 1) * S ≤ X.length * S := Nat.mul_le_mul_right _ (by omega)
          rw [Nat.add_mul, Nat.one_mul] at this
          omega
        rw [← htake, List.getElem?_take, if_pos hlt] at h5
        exact (cell_of_row w g _ cur T (0, 0) hg).trans (by simpa using h5)
    refine ⟨ds.set j u, hE', by simpa using hl, fun m q hq => ?_⟩
    rw [List.getElem?_set] at hq ⊢
    by_cases e2 : j = m
    · subst e2
      rw [if_pos rfl, if_pos (by omega)] at hq
      rw [if_pos rfl, if_pos ?_]
      · exact hq
      · rw [h1.1]
        have : (i + 1) * S ≤ X.length * S := Nat.mul_le_mul_right _ (by omega)
        rw [Nat.add_mul, Nat.one_mul] at this
        omega
    · rw [if_neg e2] at hq
      rw [if_neg (by omega)]
      exact hc m q hq
  · rw [List.getElem?_set, if_neg (by omega)] at hz
    obtain ⟨ds, hd, hl, hc⟩ := h3 i z hz
    refine ⟨ds, hE i z ds e hd, hl, fun m q hq => ?_⟩
    rw [List.getElem?_set, if_neg ?_]
    · exact hc m q hq
    · have hm : m < S := by rw [← hl]; exact (List.getElem?_eq_some_iff.1 hq).1
      rcases Nat.lt_or_gt_of_ne e with h | h
      · have : (i + 1) * S ≤ k * S := Nat.mul_le_mul_right _ (by omega)
        rw [Nat.add_mul, Nat.one_mul] at this
        omega
      · have : (k + 1) * S ≤ i * S := Nat.mul_le_mul_right _ (by omega)
        rw [Nat.add_mul, Nat.one_mul] at this
        omega
end

/-- The numbers of a slice type ST of records T. -/
structure RowT (ST T : TypeId) (S bytes : Nat) : Prop where
  slice : Tryd.prog.underlying ST = some (.slice T)
  info : ∃ z : Value, (Tryd.prog.info? T).map (fun i => (i.zero, i.size, i.bytes)) = some (some z, S, bytes) ∧ z.cells.size = S
  pos : 0 < S
  small : bytes ≤ 1024

theorem rt_int : RowT 29 2 1 8 := ⟨Tryd.underlying29, ⟨.int .i64 0, by kernel_rfl, rfl⟩, by decide, by decide⟩
theorem rt_Phi : RowT 65 94 2 32 := ⟨Tryd.underlying65, ⟨.agg #[.int .i64 0, .slice none 0 0], by kernel_rfl, rfl⟩, by decide, by decide⟩
theorem rt_Move : RowT 66 89 2 16 := ⟨Tryd.underlying66, ⟨.agg #[.int .i64 0, .int .i64 0], by kernel_rfl, rfl⟩, by decide, by decide⟩
theorem rt_Ins : RowT 67 91 4 32 := ⟨Tryd.underlying67, ⟨.agg #[.int .i64 0, .int .i64 0, .int .i64 0, .int .i64 0], by kernel_rfl, rfl⟩, by decide, by decide⟩
theorem rt_End : RowT 116 69 4 32 := ⟨Tryd.underlying116, ⟨.agg #[.int .i64 0, .int .i64 0, .int .i64 0, .int .i64 0], by kernel_rfl, rfl⟩, by decide, by decide⟩
theorem rt_Block : RowT 24 71 8 128 := ⟨Tryd.underlying24, ⟨.agg #[.slice none 0 0, .slice none 0 0, .slice none 0 0, .slice none 0 0, .int .i64 0, .int .i64 0, .int .i64 0, .int .i64 0], by kernel_rfl, rfl⟩, by decide, by decide⟩

/-- What an append of one record leaves. -/
structure Snoc {α : Type} (w w' : World) (B : Nat) (T : TypeId) (S : Nat) (L : Nat → List Nat) (p : List Nat) (E : Nat → α → List Value → Prop) (X : List α) (cs : List Value) (g cap : Nat) : Prop where
  lr : ∀ (E' : Nat → α → List Value → Prop) (y : α), (∀ k z ds, E k z ds → E' k z ds) → E' X.length y cs → LR w' B T S (relab L w.heap.size p) p E' (.slice (some ⟨g, 0, none⟩) (X.length + 1) cap) (X ++ [y])
  wr : Wr (· = p) L w w'
  lab : relab L w.heap.size p g = p
  lt : g < w'.heap.size
  ge : B ≤ g

theorem snoc_of {α : Type} {w w' : World} {B : Nat} {T : TypeId} {S : Nat} {L : Nat → List Nat} {p : List Nat} {E : Nat → α → List Value → Prop} {X : List α} {cs xs : List Value} {g cap : Nat} {v : Value}
    (h1 : w.ownsRow B T S v X.length xs) (h2 : Lb L v p) (h3 : ∀ (k : Nat) x, X[k]? = some x → ∃ cs, E k x cs ∧ cs.length = S ∧ ∀ (j : Nat) u, cs[j]? = some u → xs[k * S + j]? = some u) (hl : cs.length = S)
    (h' : w'.ownsRow B T S (.slice (some ⟨g, 0, none⟩) (X.length + 1) cap) (X.length + 1) (xs ++ cs)) (hg : w.grownBy w' v.ownBlock) (hat : v.ownBlock = some g ∨ g = w.heap.size) (hlt : g < w'.heap.size) : Snoc w w' B T S L p E X cs g cap := by
  have hlab : relab L w.heap.size p g = p := by
    rcases hat with h | h
    · exact (relab_ext w L p g (World.ownsRow.lt h1 g h).2).trans (h2 g h)
    · exact relab_new p (by omega)
  refine ⟨fun E' y hE hy => LR.snoc h1 h3 h' hl (fun g' hg' => ?_) hE hy, Wr.grown hg fun g' h => h2 g' h, hlab, hlt, (World.ownsRow.lt h' g rfl).1⟩
  simp [Value.ownBlock] at hg'
  subst hg'
  exact hlab

section
variable {α : Type} {B : Nat} {ST T : TypeId} {S bytes : Nat} {L : Nat → List Nat} {p : List Nat} {E : Nat → α → List Value → Prop} {v : Value} {X : List α}
theorem LR.wp_append (hT : RowT ST T S bytes) {ops : Array Oper} {rest : List Oper} {o : Oper} {a : Act} {Q : Exit → Act → World → Prop} (hgd : o.guard = none) (s x : Operand)
    (ho : o.op = .call { callee := .builtin .append, args := #[s, x], argTypes := #[ST, ST] }) (w : World) (q : Nat) (cs : Array Value)
    (hs : a.eval s = v) (h : LR w B T S L p E v X) (hx : a.eval x = .slice (some ⟨q, 0, none⟩) 1 1) (hq : w.heap[q]? = some (.cells cs T (0, 0))) (hl : cs.toList.length = S) (h1 : ∀ u ∈ cs.toList, u.oneCell' = true) (hb : B ≤ w.heap.size) (hn : X.length ≤ 1000000)
    (hk : ∀ g cap w', Snoc w w' B T S L p E X cs.toList g cap → wpList Tryd.prog ops Q rest (a.put o.dst (.slice (some ⟨g, 0, none⟩) (X.length + 1) cap)) w') : wpList Tryd.prog ops Q (o :: rest) a w := by
  obtain ⟨xs, h2, h3, h4⟩ := h
  obtain ⟨z, hinfo, hz⟩ := hT.info
  obtain ⟨i0, hi, hz0, hz1, hz2⟩ := info_parts hinfo
  have hsm := hT.small
  have hby : (X.length + 1) * bytes ≤ 140737488355328 := Nat.le_trans (Nat.mul_le_mul (show X.length + 1 ≤ 1000001 by omega) hsm) (by decide)
  refine wpList_append_lies (P := Tryd.prog) w hgd s x ST ho B T i0 z S bytes hT.slice hi hz0 hz1 hz2 hz hT.pos v X.length xs hs h2 ⟨q, 0, none⟩ 1 1 cs.toList hx (by rw [hl, Nat.one_mul]) (World.news_of_block hq) h1 (by omega) (by rw [maxLen_is]; omega) hby hb w.heap.size rfl fun g cap w' h' hg hat hlt => hk g cap w' (snoc_of h2 h3 h4 hl h' hg hat hlt)

theorem LR.step_append (hT : RowT ST T S bytes) {ops : Array Oper} {o : Oper} {a : Act} {K : Act → World → Prop} {Q : Exit → Act → World → Prop} {F : Prop} (hgd : o.guard = none) (s x : Operand)
    (ho : o.op = .call { callee := .builtin .append, args := #[s, x], argTypes := #[ST, ST] }) (w : World) (q : Nat) (cs : Array Value)
    (hs : a.eval s = v) (h : LR w B T S L p E v X) (hx : a.eval x = .slice (some ⟨q, 0, none⟩) 1 1) (hq : w.heap[q]? = some (.cells cs T (0, 0))) (hl : cs.toList.length = S) (h1 : ∀ u ∈ cs.toList, u.oneCell' = true) (hb : B ≤ w.heap.size) (hn : X.length ≤ 1000000)
    (hk : ∀ g cap w', Snoc w w' B T S L p E X cs.toList g cap → K (a.put o.dst (.slice (some ⟨g, 0, none⟩) (X.length + 1) cap)) w') : if Region.wanted o (yielded ops a.tmps) = true then Oper.wp Tryd.prog o a w K Q else F := by
  obtain ⟨xs, h2, h3, h4⟩ := h
  obtain ⟨z, hinfo, hz⟩ := hT.info
  obtain ⟨i0, hi, hz0, hz1, hz2⟩ := info_parts hinfo
  have hsm := hT.small
  have hby : (X.length + 1) * bytes ≤ 140737488355328 := Nat.le_trans (Nat.mul_le_mul (show X.length + 1 ≤ 1000001 by omega) hsm) (by decide)
  refine step_append_lies (P := Tryd.prog) w hgd s x ST ho B T i0 z S bytes hT.slice hi hz0 hz1 hz2 hz hT.pos v X.length xs hs h2 ⟨q, 0, none⟩ 1 1 cs.toList hx (by rw [hl, Nat.one_mul]) (World.news_of_block hq) h1 (by omega) (by rw [maxLen_is]; omega) hby hb w.heap.size rfl fun g cap w' h' hg hat hlt => hk g cap w' (snoc_of h2 h3 h4 hl h' hg hat hlt)
end
end

/- The blocks of a function that is being drawn. -/
section
open Go.ChangeShapes Go.WideShapes Go.ChangeAt Go.RowKit Go.Joins

def EPhiL (w : World) (B : Nat) (L : Nat → List Nat) (i j : Nat) (p : PhiD) (cs : List Value) : Prop := ∃ u, cs = [.int .i64 p.v, u] ∧ LR w B 2 1 L [5, i, j] (fun _ => EInt) u p.args
def EBlockL (w : World) (B : Nat) (L : Nat → List Nat) (i : Nat) (x : BlockD) (cs : List Value) : Prop :=
  ∃ v0 v1 v2 v3, cs = [v0, v1, v2, v3, .int .i64 x.fin.k, .int .i64 x.fin.a, .int .i64 x.fin.t, .int .i64 x.fin.l] ∧
    LR w B 94 2 L [1, i] (EPhiL w B L i) v0 x.phis ∧ LR w B 89 2 L [2, i] (fun _ => EMove) v1 x.head ∧ LR w B 91 4 L [3, i] (fun _ => EIns) v2 x.body ∧ LR w B 89 2 L [4, i] (fun _ => EMove) v3 x.tail
def LBl (w : World) (B : Nat) (L : Nat → List Nat) (v : Value) (xs : List BlockD) : Prop := LR w B 71 8 L [0] (EBlockL w B L) v xs

/-- No label of the rows of block i. -/
def NotB (i : Nat) (p : List Nat) : Prop := p ≠ [1, i] ∧ p ≠ [2, i] ∧ p ≠ [3, i] ∧ p ≠ [4, i] ∧ ∀ j, p ≠ [5, i, j]

section
variable {w w' : World} {B : Nat} {L L' : Nat → List Nat} {P : List Nat → Prop} {v : Value} {xs : List BlockD}
theorem EPhiL.keep {i j : Nat} {p : PhiD} {cs : List Value} (h : EPhiL w B L i j p cs) (hw : Wr P L w w') (hL : LExt w L L') (hP : ¬ P [5, i, j]) : EPhiL w' B L' i j p cs := by
  obtain ⟨u, rfl, h1⟩ := h
  exact ⟨u, rfl, h1.keep hw hL hP fun _ _ _ h => h⟩
theorem EBlockL.keep {i : Nat} {x : BlockD} {cs : List Value} (h : EBlockL w B L i x cs) (hw : Wr P L w w') (hL : LExt w L L') (hP : ∀ p, P p → NotB i p) : EBlockL w' B L' i x cs := by
  obtain ⟨v0, v1, v2, v3, rfl, h0, h1, h2, h3⟩ := h
  exact ⟨v0, v1, v2, v3, rfl, h0.keep hw hL (fun h => (hP _ h).1 rfl) fun j _ _ h => h.keep hw hL fun h => (hP _ h).2.2.2.2 j rfl, h1.keep hw hL (fun h => (hP _ h).2.1 rfl) fun _ _ _ h => h,
    h2.keep hw hL (fun h => (hP _ h).2.2.1 rfl) fun _ _ _ h => h, h3.keep hw hL (fun h => (hP _ h).2.2.2.1 rfl) fun _ _ _ h => h⟩
theorem LBl.keep (h : LBl w B L v xs) (hw : Wr P L w w') (hL : LExt w L L') (hP : ∀ p, P p → p ≠ [0] ∧ ∀ i, NotB i p) : LBl w' B L' v xs :=
  LR.keep h hw hL (fun h => (hP _ h).1 rfl) fun i _ _ h => h.keep hw hL fun p hp => (hP p hp).2 i

/-- What is written of one block. -/
theorem LBl.upd {w1 : World} {n c G b j : Nat} {x y : BlockD} {u : Value} (h : LBl w B L (.slice (some ⟨G, 0, none⟩) n c) xs) (hx : xs[b]? = some x) (hj : j < 8) (hw : Wr P L w w1) (hL : LExt w L L') (hP : ∀ p, P p → p ≠ [0] ∧ ∀ i, i ≠ b → NotB i p)
    (hy : ∀ cs, EBlockL w B L b x cs → EBlockL (w1.setCell ⟨G, b * 8 + j, none⟩ u) B L' b y (cs.set j u)) : LBl (w1.setCell ⟨G, b * 8 + j, none⟩ u) B L' (.slice (some ⟨G, 0, none⟩) n c) (xs.set b y) := by
  have hG : ∀ g, (Value.slice (some ⟨G, 0, none⟩) n c).ownBlock = some g → g < w.heap.size ∧ L g = [0] := by
    obtain ⟨ys, h1, h2, _⟩ := h
    exact fun g hg => ⟨(World.ownsRow.lt h1 g hg).2, h2 g hg⟩
  obtain ⟨hGl, hG0⟩ := hG G rfl
  have hw2 : Wr (fun p => P p ∨ p = [0]) L w (w1.setCell ⟨G, b * 8 + j, none⟩ u) := (hw.mono fun _ h => .inl h).set (fun _ => .inr hG0) _ _
  have h1 : LR w1 B 71 8 L' [0] (fun i z cs => (i ≠ b → EBlockL (w1.setCell ⟨G, b * 8 + j, none⟩ u) B L' i z cs) ∧ (i = b → EBlockL w B L b z cs)) (.slice (some ⟨G, 0, none⟩) n c) xs :=
    LR.keep h hw hL (fun h => (hP _ h).1 rfl) fun i z cs hz => ⟨fun hi => hz.keep hw2 hL fun p hp => by
      rcases hp with hp | rfl
      · exact (hP p hp).2 i hi
      · exact ⟨by simp, by simp, by simp, by simp, fun j => by simp⟩, fun hi => by subst hi; exact hz⟩
  exact h1.set hx hj (fun cs hcs _ _ => hy cs (hcs.2 rfl)) fun i z ds hi hz => hz.1 hi

theorem wr_set0 {w1 : World} {G o : Nat} {u : Value} (hG0 : L G = [0]) : Wr (· = [0]) L w1 (w1.setCell ⟨G, o, none⟩ u) := (Wr.refl _ L w1).set (fun _ => hG0) _ _
theorem notB0 (i : Nat) : NotB i [0] := ⟨by simp, by simp, by simp, by simp, fun j => by simp⟩

theorem LBl.lab {n c G : Nat} (h : LBl w B L (.slice (some ⟨G, 0, none⟩) n c) xs) : G < w.heap.size ∧ L G = [0] := by
  obtain ⟨ys, h1, h2, _⟩ := h
  exact ⟨(World.ownsRow.lt h1 G rfl).2, h2 G rfl⟩

theorem notB_other {a b i : Nat} (h : i ≠ b) : NotB i [a, b] := ⟨by simp; intro _ e; exact h e.symm, by simp; intro _ e; exact h e.symm, by simp; intro _ e; exact h e.symm, by simp; intro _ e; exact h e.symm, fun j => by simp⟩

theorem LBl.setBody {w1 : World} {n c G b : Nat} {x : BlockD} {u : Value} {body : List InsD} (h : LBl w B L (.slice (some ⟨G, 0, none⟩) n c) xs) (hx : xs[b]? = some x) (hw : Wr (· = [3, b]) L w w1) (hL : LExt w L L')
    (hr : LR w1 B 91 4 L' [3, b] (fun _ => EIns) u body) : LBl (w1.setCell ⟨G, b * 8 + 2, none⟩ u) B L' (.slice (some ⟨G, 0, none⟩) n c) (xs.set b { x with body := body }) := by
  obtain ⟨hGl, hG0⟩ := h.lab
  have hG0' : L' G = [0] := (hL G hGl).trans hG0
  have hw2 : Wr (fun p => p = [3, b] ∨ p = [0]) L w (w1.setCell ⟨G, b * 8 + 2, none⟩ u) := (hw.mono fun _ h => .inl h).set (fun _ => .inr hG0) _ _
  refine h.upd hx (by omega) hw hL (fun p hp => by subst hp; exact ⟨by simp, fun i hi => notB_other hi⟩) fun cs hcs => ?_
  obtain ⟨v0, v1, v2, v3, rfl, r0, r1, r2, r3⟩ := hcs
  exact ⟨v0, v1, u, v3, rfl, r0.keep hw2 hL (by simp) fun j _ _ h => h.keep hw2 hL (by simp), r1.keep hw2 hL (by simp) fun _ _ _ h => h, hr.keep (wr_set0 hG0') (LExt.refl _ _) (by simp) fun _ _ _ h => h, r3.keep hw2 hL (by simp) fun _ _ _ h => h⟩

theorem LBl.setTail {w1 : World} {n c G b : Nat} {x : BlockD} {u : Value} {tail : List MoveD} (h : LBl w B L (.slice (some ⟨G, 0, none⟩) n c) xs) (hx : xs[b]? = some x) (hw : Wr (· = [4, b]) L w w1) (hL : LExt w L L')
    (hr : LR w1 B 89 2 L' [4, b] (fun _ => EMove) u tail) : LBl (w1.setCell ⟨G, b * 8 + 3, none⟩ u) B L' (.slice (some ⟨G, 0, none⟩) n c) (xs.set b { x with tail := tail }) := by
  obtain ⟨hGl, hG0⟩ := h.lab
  have hG0' : L' G = [0] := (hL G hGl).trans hG0
  have hw2 : Wr (fun p => p = [4, b] ∨ p = [0]) L w (w1.setCell ⟨G, b * 8 + 3, none⟩ u) := (hw.mono fun _ h => .inl h).set (fun _ => .inr hG0) _ _
  refine h.upd hx (by omega) hw hL (fun p hp => by subst hp; exact ⟨by simp, fun i hi => notB_other hi⟩) fun cs hcs => ?_
  obtain ⟨v0, v1, v2, v3, rfl, r0, r1, r2, r3⟩ := hcs
  exact ⟨v0, v1, v2, u, rfl, r0.keep hw2 hL (by simp) fun j _ _ h => h.keep hw2 hL (by simp), r1.keep hw2 hL (by simp) fun _ _ _ h => h, r2.keep hw2 hL (by simp) fun _ _ _ h => h, hr.keep (wr_set0 hG0') (LExt.refl _ _) (by simp) fun _ _ _ h => h⟩

theorem LBl.setPhis {w1 : World} {n c G b : Nat} {x : BlockD} {u : Value} {phis : List PhiD} (h : LBl w B L (.slice (some ⟨G, 0, none⟩) n c) xs) (hx : xs[b]? = some x) (hw : Wr (· = [1, b]) L w w1) (hL : LExt w L L')
    (hr : LR w1 B 94 2 L' [1, b] (EPhiL w1 B L' b) u phis) : LBl (w1.setCell ⟨G, b * 8, none⟩ u) B L' (.slice (some ⟨G, 0, none⟩) n c) (xs.set b { x with phis := phis }) := by
  obtain ⟨hGl, hG0⟩ := h.lab
  have hG0' : L' G = [0] := (hL G hGl).trans hG0
  have hw2 : Wr (fun p => p = [1, b] ∨ p = [0]) L w (w1.setCell ⟨G, b * 8, none⟩ u) := (hw.mono fun _ h => .inl h).set (fun _ => .inr hG0) _ _
  refine LBl.upd (j := 0) h hx (by omega) hw hL (fun p hp => by subst hp; exact ⟨by simp, fun i hi => notB_other hi⟩) fun cs hcs => ?_
  obtain ⟨v0, v1, v2, v3, rfl, r0, r1, r2, r3⟩ := hcs
  exact ⟨u, v1, v2, v3, rfl, hr.keep (wr_set0 hG0') (LExt.refl _ _) (by simp) fun j _ _ h => h.keep (wr_set0 hG0') (LExt.refl _ _) (by simp), r1.keep hw2 hL (by simp) fun _ _ _ h => h, r2.keep hw2 hL (by simp) fun _ _ _ h => h, r3.keep hw2 hL (by simp) fun _ _ _ h => h⟩

/-- An End's number is written. -/
theorem LBl.setEnd {n c G b j : Nat} {x : BlockD} {z : Int} {e : EndD} (h : LBl w B L (.slice (some ⟨G, 0, none⟩) n c) xs) (hx : xs[b]? = some x) (hj : j < 4)
    (he : ([.int .i64 x.fin.k, .int .i64 x.fin.a, .int .i64 x.fin.t, .int .i64 x.fin.l] : List Value).set j (.int .i64 z) = [.int .i64 e.k, .int .i64 e.a, .int .i64 e.t, .int .i64 e.l]) :
    LBl (w.setCell ⟨G, b * 8 + (4 + j), none⟩ (.int .i64 z)) B L (.slice (some ⟨G, 0, none⟩) n c) (xs.set b { x with fin := e }) := by
  obtain ⟨hGl, hG0⟩ := h.lab
  refine h.upd (P := fun _ => False) hx (by omega) (Wr.refl _ _ _) (LExt.refl _ _) (fun p hp => hp.elim) fun cs hcs => ?_
  obtain ⟨v0, v1, v2, v3, rfl, r0, r1, r2, r3⟩ := hcs
  have hs : ([v0, v1, v2, v3, .int .i64 x.fin.k, .int .i64 x.fin.a, .int .i64 x.fin.t, .int .i64 x.fin.l] : List Value).set (4 + j) (.int .i64 z) = [v0, v1, v2, v3] ++ ([.int .i64 x.fin.k, .int .i64 x.fin.a, .int .i64 x.fin.t, .int .i64 x.fin.l] : List Value).set j (.int .i64 z) := by
    have : j = 0 ∨ j = 1 ∨ j = 2 ∨ j = 3 := by omega
    rcases this with rfl | rfl | rfl | rfl <;> rfl
  rw [hs, he]
  have hw2 : Wr (· = [0]) L w (w.setCell ⟨G, b * 8 + (4 + j), none⟩ (.int .i64 z)) := wr_set0 hG0
  exact ⟨v0, v1, v2, v3, rfl, r0.keep hw2 (LExt.refl _ _) (by simp) fun j _ _ h => h.keep hw2 (LExt.refl _ _) (by simp), r1.keep hw2 (LExt.refl _ _) (by simp) fun _ _ _ h => h, r2.keep hw2 (LExt.refl _ _) (by simp) fun _ _ _ h => h, r3.keep hw2 (LExt.refl _ _) (by simp) fun _ _ _ h => h⟩

theorem LBl.row {Z : Zn} (h : LBl w B L v xs) (hZ : ∀ k, B ≤ k → k < w.heap.size → Z.D k) : Row w Z 8 (EBlock w Z) v xs :=
  LR.row h hZ fun _ _ cs hcs => by
    obtain ⟨v0, v1, v2, v3, rfl, r0, r1, r2, r3⟩ := hcs
    exact ⟨v0, v1, v2, v3, rfl, r0.row hZ fun _ _ cs hcs => by
      obtain ⟨u, rfl, hu⟩ := hcs
      exact ⟨u, rfl, hu.row hZ fun _ _ _ h => h⟩, r1.row hZ fun _ _ _ h => h, r2.row hZ fun _ _ _ h => h, r3.row hZ fun _ _ _ h => h⟩
end
end

/- The state of a drawing; the ends of blocks. -/
section
open Go.ChangeShapes Go.WideShapes Go.ChangeAt Go.RowKit Go.Joins

/-- The cursor lies in block g, what it reads below Bc. -/
structure DSta (w : World) (Bc g : Nat) (L : Nat → List Nat) : Prop where
  cur : Cur w Bc g
  lg : L g = [9]
  code : ∀ k, k < Bc → L k = [8]

theorem DSta.lt {w : World} {Bc g : Nat} {L : Nat → List Nat} (h : DSta w Bc g L) : g < w.heap.size ∧ Bc ≤ g := ⟨cur_lt h.cur, h.cur.1⟩
theorem DSta.keep {w w' : World} {Bc g : Nat} {L L' : Nat → List Nat} {P : List Nat → Prop} (h : DSta w Bc g L) (hw : Wr P L w w') (hL : LExt w L L') (h9 : ¬ P [9]) (h8 : ¬ P [8]) : DSta w' Bc g L' := by
  have hlt := h.lt
  obtain ⟨⟨hB, v, n, i, x, hv, hi, hg⟩, lg, code⟩ := h
  refine ⟨⟨hB, v, n, i, x, hv.keep fun b o hb => hw.cell (by omega) (by rw [code b hb]; exact h8) o, hi, (hw.block g hlt.1 (by rw [lg]; exact h9)).trans hg⟩, (hL g hlt.1).trans lg, fun k hk => (hL k (by omega)).trans (code k hk)⟩
theorem DSta.alloc {w : World} {Bc g : Nat} {L : Nat → List Nat} (h : DSta w Bc g L) (o : Obj) : DSta (w.alloc o) Bc g L := h.keep ((Wr.refl (fun _ => False) L w).alloc o) (LExt.refl _ _) (fun h => h) fun h => h
theorem DSta.grown {w w' : World} {Bc g : Nat} {L : Nat → List Nat} (h : DSta w Bc g L) (hc : Cur w' Bc g) : DSta w' Bc g L := ⟨hc, h.lg, h.code⟩
theorem wr9 {w w' : World} {Bc g : Nat} {L : Nat → List Nat} (h : DSta w Bc g L) (hg : w.grownBy w' (some g)) : Wr (· = [9]) L w w' := Wr.grown hg fun g' e => by injection e with e; rw [← e]; exact h.lg

def GBool (w : World) (Bc g : Nat) (L : Nat → List Nat) (e : Ending) (w' : World) : Prop := ∃ b : Bool, e = .returned (.bool b) ∧ DSta w' Bc g L ∧ Wr (· = [9]) L w w'
def GNum (lo hi : Int) (w : World) (Bc g : Nat) (L : Nat → List Nat) (e : Ending) (w' : World) : Prop := ∃ x : Int, e = .returned (.int .i64 x) ∧ lo ≤ x ∧ x ≤ hi ∧ DSta w' Bc g L ∧ Wr (· = [9]) L w w'
theorem once_st (n : Int) (w : World) (Bc g : Nat) (L : Nat → List Nat) (h : DSta w Bc g L) : Calls Tryd.prog 53 #[.pointer (some ⟨g, 0, none⟩), .int .i64 n] w (GBool w Bc g L) :=
  (l1Once_any Bc g n w h.cur).mono fun _ _ ⟨b, he, hc, hg⟩ => ⟨b, he, h.grown hc, wr9 h hg⟩
theorem below_st (n : Int) (w : World) (Bc g : Nat) (L : Nat → List Nat) (h : DSta w Bc g L) (hn : 0 < n) : Calls Tryd.prog 54 #[.pointer (some ⟨g, 0, none⟩), .int .i64 n] w (GNum 0 (n - 1) w Bc g L) :=
  (l1Below_any Bc g n w h.cur).mono fun _ _ ⟨x, he, h0, h1, hc, hg⟩ => ⟨x, he, h0, by omega, h.grown hc, wr9 h hg⟩
theorem from_st (lo hi : Int) (w : World) (Bc g : Nat) (L : Nat → List Nat) (h : DSta w Bc g L) (h0 : -1000 ≤ lo) (h1 : lo ≤ hi) (h2 : hi ≤ 1000000000) : Calls Tryd.prog 33 #[.pointer (some ⟨g, 0, none⟩), .int .i64 lo, .int .i64 hi] w (GNum lo hi w Bc g L) :=
  (l1From_any Bc g lo hi w h.cur h0 h1 h2).mono fun _ _ ⟨x, he, h0, h1, hc, hg⟩ => ⟨x, he, h0, h1, h.grown hc, wr9 h hg⟩

theorem relab_relab (L : Nat → List Nat) {n m : Nat} (p : List Nat) (h : n ≤ m) : relab (relab L n p) m p = relab L n p := by
  funext k
  unfold relab
  by_cases h1 : k < m
  · rw [if_pos h1]
  · rw [if_neg h1, if_neg (by omega)]

def EEnd (e : EndD) (cs : List Value) : Prop := cs = [.int .i64 e.k, .int .i64 e.a, .int .i64 e.t, .int .i64 e.l]
/-- All targets are below n. -/
def EndT (n : Int) (e : EndD) : Prop := ∀ u ∈ toL e.k e.t e.l, 0 ≤ u ∧ u < n
theorem endT_ret (n a : Int) : EndT n ⟨1, a, 0, 0⟩ := fun u hu => by simp [toL] at hu
theorem endT_jump {n t a : Int} (h : 0 ≤ t ∧ t < n) : EndT n ⟨2, a, t, 0⟩ := fun u hu => by simp [toL] at hu; omega
theorem endT_if {n t l a : Int} (h : 0 ≤ t ∧ t < n) (h' : 0 ≤ l ∧ l < n) : EndT n ⟨3, a, t, l⟩ := fun u hu => by simp [toL] at hu; omega

/-- Block q is an End. -/
def EndB (w : World) (q : Nat) (k a t l : Int) : Prop := w.heap[q]? = some (.cells #[.int .i64 k, .int .i64 a, .int .i64 t, .int .i64 l] 69 (0, 0))
theorem EndB.cells {w : World} {q : Nat} {k a t l : Int} (h : EndB w q k a t l) : (w.cell? ⟨q, 0, none⟩ = some (.int .i64 k) ∧ w.cell? ⟨q, 1, none⟩ = some (.int .i64 a) ∧ w.cell? ⟨q, 2, none⟩ = some (.int .i64 t) ∧ w.cell? ⟨q, 3, none⟩ = some (.int .i64 l)) ∧ (∀ j, w.frozen? ⟨q, j, none⟩ = false) :=
  ⟨⟨cell_of_row w q 0 _ _ _ h, cell_of_row w q 1 _ _ _ h, cell_of_row w q 2 _ _ _ h, cell_of_row w q 3 _ _ _ h⟩, fun j => frozen_of_row w q j _ _ h⟩
theorem EndB.wr {w w' : World} {q : Nat} {k a t l : Int} {L : Nat → List Nat} {P : List Nat → Prop} (h : EndB w q k a t l) (hw : Wr P L w w') (hn : ¬ P (L q)) : EndB w' q k a t l := (hw.block q (Array.getElem?_eq_some_iff.1 h).1 hn).trans h

def GivesEnds (n : Nat) (B : Nat) (w : World) (Bc g : Nat) (L : Nat → List Nat) (e : Ending) (w' : World) : Prop :=
  ∃ r es, e = .returned r ∧ es.length = n ∧ (∀ (i : Nat) x, es[i]? = some x → EndT n x) ∧ LR w' B 69 4 (relab L w.heap.size [11]) [11] (fun _ => EEnd) r es ∧ DSta w' Bc g (relab L w.heap.size [11]) ∧ Wr (fun p => p = [9] ∨ p = [11]) L w w'

theorem LR.lit0 {α : Type} (w : World) {B : Nat} {T : TypeId} {S : Nat} {L : Nat → List Nat} {p : List Nat} {E : Nat → α → List Value → Prop} (hB : B ≤ w.heap.size) (hL : L w.heap.size = p) : LR (w.alloc (.cells #[] T)) B T S L p E (.slice (some ⟨w.heap.size, 0, none⟩) 0 0) [] :=
  ⟨[], World.ownsRow_lit (base := B) (e := T) (size := S) w #[] 0 hB (by rw [maxLen_is]; omega) (by simp), fun g hg => by simp [Value.ownBlock] at hg; rw [← hg]; exact hL, fun k x h => by simp at h⟩
theorem endT_snoc {n : Int} {es : List EndD} {e : EndD} (h : ∀ (i : Nat) x, es[i]? = some x → EndT n x) (he : EndT n e) : ∀ (i : Nat) x, (es ++ [e])[i]? = some x → EndT n x := fun i x hx => by
  rcases Nat.lt_trichotomy i es.length with h' | h' | h'
  · rw [List.getElem?_append_left h'] at hx; exact h i x hx
  · subst h'
    rw [List.getElem?_append_right (Nat.le_refl _), Nat.sub_self] at hx
    simp at hx
    subst hx
    exact he
  · rw [List.getElem?_eq_none (by simp; omega)] at hx; cases hx

theorem LR.far {α : Type} {w : World} {B : Nat} {T : TypeId} {S : Nat} {L : Nat → List Nat} {p : List Nat} {E : Nat → α → List Value → Prop} {v : Value} {X : List α} {q : Nat} (h : LR w B T S L p E v X) (hne : ∀ g, v.ownBlock = some g → g ≠ q) (o : Nat) (u : Value) : LR (w.setCell ⟨q, o, none⟩ u) B T S L p E v X := by
  obtain ⟨xs, h1, h2, h3⟩ := h
  refine ⟨xs, World.ownsRow.kept h1 (set_grown w q o u) ?_, h2, h3⟩
  rcases hob : v.ownBlock with _ | k
  · exact .inl rfl
  · exact .inr fun e => hne k hob (by injection e)

/-- The state while an End is made in block q. -/
structure ESt (w0 w : World) (n : Nat) (Bc g q : Nat) (L0 L : Nat → List Nat) (v : Value) (es : List EndD) (k a t l : Int) : Prop where
  E : EndB w q k a t l
  D : DSta w Bc g L
  W : Wr (fun p => p = [9] ∨ p = [11]) L0 w0 w
  O : LR w w0.heap.size 69 4 L [11] (fun _ => EEnd) v es
  lq : L q = [11]
  ge : w0.heap.size ≤ q
  ext : LExt w0 L0 L
  far : ∀ g, v.ownBlock = some g → g ≠ q

theorem ESt.call {w0 w w' : World} {n Bc g q : Nat} {L0 L : Nat → List Nat} {v : Value} {es : List EndD} {k a t l : Int} (h : ESt w0 w n Bc g q L0 L v es k a t l) (hd : DSta w' Bc g L) (hw : Wr (· = [9]) L w w') : ESt w0 w' n Bc g q L0 L v es k a t l :=
  ⟨h.E.wr hw (by rw [h.lq]; simp), hd, h.W.trans (hw.mono fun _ h => .inl h) h.ext, h.O.keep hw (LExt.refl _ _) (by simp) fun _ _ _ h => h, h.lq, h.ge, h.ext, h.far⟩
theorem ESt.set {w0 w : World} {n Bc g q j : Nat} {u : Value} {L0 L : Nat → List Nat} {v : Value} {es : List EndD} {k a t l k' a' t' l' : Int} (h : ESt w0 w n Bc g q L0 L v es k a t l) (hE : EndB (w.setCell ⟨q, j, none⟩ u) q k' a' t' l') : ESt w0 (w.setCell ⟨q, j, none⟩ u) n Bc g q L0 L v es k' a' t' l' :=
  ⟨hE, h.D.keep ((Wr.refl (· = [11]) L w).set (fun _ => h.lq) _ _) (LExt.refl _ _) (by simp) (by simp), h.W.set (fun hlt => by have := h.ge; omega) _ _, h.O.far h.far _ _, h.lq, h.ge, h.ext, h.far⟩
theorem EndB.set0 {w : World} {q : Nat} {k a t l : Int} (h : EndB w q k a t l) (x : Int) : EndB (w.setCell ⟨q, 0, none⟩ (.int .i64 x)) q x a t l := heap_setCell_same w q 0 _ _ _ h
theorem EndB.set1 {w : World} {q : Nat} {k a t l : Int} (h : EndB w q k a t l) (x : Int) : EndB (w.setCell ⟨q, 1, none⟩ (.int .i64 x)) q k x t l := heap_setCell_same w q 1 _ _ _ h
theorem EndB.set2 {w : World} {q : Nat} {k a t l : Int} (h : EndB w q k a t l) (x : Int) : EndB (w.setCell ⟨q, 2, none⟩ (.int .i64 x)) q k a x l := heap_setCell_same w q 2 _ _ _ h
theorem EndB.set3 {w : World} {q : Nat} {k a t l : Int} (h : EndB w q k a t l) (x : Int) : EndB (w.setCell ⟨q, 3, none⟩ (.int .i64 x)) q k a t x := heap_setCell_same w q 3 _ _ _ h
theorem ESt.set4 {w0 w : World} {n Bc g q : Nat} {L0 L : Nat → List Nat} {v : Value} {es : List EndD} {k a t l : Int} (h : ESt w0 w n Bc g q L0 L v es k a t l) (k' a' t' l' : Int) :
    ESt w0 ((((w.setCell ⟨q, 0, none⟩ (.int .i64 k')).setCell ⟨q, 1, none⟩ (.int .i64 a')).setCell ⟨q, 2, none⟩ (.int .i64 t')).setCell ⟨q, 3, none⟩ (.int .i64 l')) n Bc g q L0 L v es k' a' t' l' := by
  have h0 := h.set (h.E.set0 k')
  have h1 := h0.set (h0.E.set1 a')
  have h2 := h1.set (h1.E.set2 t')
  exact h2.set (h2.E.set3 l')

set_option maxRecDepth 10000 in
set_option maxHeartbeats 2000000 in
theorem l2DrawEnds_any (n : Nat) (w : World) (Bc g : Nat) (L : Nat → List Nat) (hd : DSta w Bc g L) (hn1 : 1 ≤ n) (hn2 : n ≤ 6) :
    Calls Tryd.prog 76 #[.pointer (some ⟨g, 0, none⟩), .int .i64 n] w (GivesEnds n w.heap.size w Bc g L) := by
  have HD0 := Lib.hid hd
  clear hd
  go_enter Tryd.func76, Tryd.ntmps76
  go_wp2_with fail
  go_loopw [5, 6] (fun q i wr => ∃ k : Nat, k ≤ n ∧ i = .int .i64 k ∧ ∃ es : List EndD, k = es.length ∧ Hid (∀ (i : Nat) x, es[i]? = some x → EndT n x) ∧ Hid (LR wr w.heap.size 69 4 (relab L w.heap.size [11]) [11] (fun _ => EEnd) q es) ∧ Hid (DSta wr Bc g (relab L w.heap.size [11])) ∧ Hid (Wr (fun p => p = [9] ∨ p = [11]) L w wr)) (fun _ i _ => n - (intOf i).toNat)
  case atStart => exact ⟨0, Nat.zero_le _, rfl, [], rfl, fun i x hx => by simp at hx, LR.lit0 w (Nat.le_refl _) (relab_new _ (Nat.le_refl _)), (HD0.out.keep (Wr.refl (fun _ => False) _ _) (relab_ext w L _) (fun h => h) fun h => h).alloc _, (Wr.refl _ _ _).alloc _⟩
  case round =>
    obtain ⟨k, hk, rfl, es, rfl, HE, HO, HD, HW⟩ := hrel
    by_cases hlt : es.length < n
    case neg =>
      go_wp2
      go_ret
      exact ⟨_, es, rfl, by omega, HE.out, HO.out, HD.out, HW.out⟩
    have hlt' : (es.length : Int) < (n : Int) := by omega
    have hn1' : 1 ≤ (n : Int) := by omega
    have hn2' : (n : Int) ≤ 6 := by omega
    obtain ⟨Lr, hLr⟩ : ∃ Lr, Lr = relab L w.heap.size [11] := ⟨_, rfl⟩
    have hext : Hid (LExt w L Lr) := by rw [hLr]; exact relab_ext _ _ _
    have hidem : Hid (∀ m, w.heap.size ≤ m → relab Lr m [11] = Lr) := fun m hm => by rw [hLr]; exact relab_relab _ _ hm
    rw [← hLr] at HO HD
    have HLR := Lib.hid hLr
    clear hLr
    have hsr := HW.out.size
    obtain ⟨A5, c5, rfl, _⟩ := HO.out.form
    go_upto_if 21 with fail
    go_cut [8] from 10 to 53 (fun _ wx => ∃ k a t l : Int, Hid (EndB wx wr.heap.size k a t l) ∧ Hid (EndT n ⟨k, a, t, l⟩) ∧ Hid (DSta wx Bc g Lr) ∧ Hid (Wr (fun p => p = [9] ∨ p = [11]) L w wx) ∧ Hid (LR wx w.heap.size 69 4 Lr [11] (fun _ => EEnd) (.slice A5 es.length c5) es))
    case first =>
      have hst : ESt w (wr.alloc (.cells #[.int .i64 2, .int .i64 0, .int .i64 ((es.length : Int) + 1), .int .i64 0] 69)) n Bc g wr.heap.size L Lr (.slice A5 es.length c5) es 2 0 ((es.length : Int) + 1) 0 :=
        ⟨heap_alloc_new wr _, HD.out.alloc _, HW.out.alloc _, HO.out.keep ((Wr.refl (fun _ => False) _ _).alloc _) (LExt.refl _ _) (fun h => h) fun _ _ _ h => h, by rw [HLR.out]; exact relab_new _ hsr, hsr, hext.out, fun g' hg' => by
          obtain ⟨xs, h1, _⟩ := HO.out
          have := (World.ownsRow.lt h1 g' hg').2
          omega⟩
      have HST := Lib.hid hst
      clear hst
      generalize wr.alloc (.cells #[.int .i64 2, .int .i64 0, .int .i64 ((es.length : Int) + 1), .int .i64 0] 69) = w1 at *
      obtain ⟨⟨e0, e1, e2, e3⟩, ef⟩ := HST.out.E.cells
      have f0 := ef 0
      have f1 := ef 1
      have f2 := ef 2
      have f3 := ef 3
      clear ef
      by_cases hlast : es.length + 1 = n
      · have hb : ((es.length : Int) == (n : Int) - 1) = true := by simp; omega
        clear hlast
        go_wp2_with fail
        go_meet
        have h := HST.out.set4 1 0 0 0
        exact ⟨1, 0, 0, 0, h.E, endT_ret _ _, h.D, h.W, h.O⟩
      have hb : ((es.length : Int) == (n : Int) - 1) = false := by simp; omega
      have hjump : Hid (EndT n ⟨2, 0, (es.length : Int) + 1, 0⟩) := endT_jump (by omega)
      clear e0 e1 e2 e3 f0 f1 f2 f3
      by_cases h2 : 2 < (n : Int)
      case neg =>
        have h2' : (n : Int) ≤ 2 := by omega
        clear h2
        go_wp2_with fail
        go_meet
        exact ⟨2, 0, _, 0, HST.out.E, hjump.out, HST.out.D, HST.out.W, HST.out.O⟩
      go_wp2_with fail
      refine (once_st _ _ Bc g Lr HST.out.D).mono ?_
      rintro e w2 ⟨b, rfl, hd2, hw2⟩
      have HS2 := Lib.hid (HST.out.call hd2 hw2)
      clear hd2 hw2 HST
      cases b
      case true =>
        go_wp2_with fail
        go_meet
        exact ⟨2, 0, _, 0, HS2.out.E, hjump.out, HS2.out.D, HS2.out.W, HS2.out.O⟩
      go_wp2_with fail
      refine (below_st _ _ Bc g Lr HS2.out.D (by omega)).mono ?_
      rintro e w3 ⟨x, rfl, hx0, hx1, hd3, hw3⟩
      have HS3 := Lib.hid (HS2.out.call hd3 hw3)
      clear hd3 hw3 HS2
      by_cases hx : 1 + x = (es.length : Int) + 1
      · have hb2 : ((1 + x) != (es.length : Int) + 1) = false := by simpa using hx
        clear hx
        go_wp2_with fail
        go_meet
        exact ⟨2, 0, _, 0, HS3.out.E, hjump.out, HS3.out.D, HS3.out.W, HS3.out.O⟩
      have hb2 : ((1 + x) != (es.length : Int) + 1) = true := by simpa using hx
      clear hx
      obtain ⟨⟨e0, e1, e2, e3⟩, ef⟩ := HS3.out.E.cells
      have f0 := ef 0
      have f1 := ef 1
      have f2 := ef 2
      have f3 := ef 3
      clear ef
      go_wp2_with fail
      have h4 := HS3.out.set4 3 0 ((es.length : Int) + 1) (1 + x)
      have HS4 := Lib.hid h4
      refine (once_st _ _ Bc g Lr h4.D).mono ?_
      rintro e w5 ⟨b, rfl, hd5, hw5⟩
      have HS5 := Lib.hid (HS4.out.call hd5 hw5)
      clear hd5 hw5 h4 HS4 HS3 e0 e1 e2 e3 f0 f1 f2 f3
      cases b
      · go_wp2_with fail
        go_meet
        exact ⟨3, 0, _, _, HS5.out.E, endT_if (by omega) (by omega), HS5.out.D, HS5.out.W, HS5.out.O⟩
      · obtain ⟨⟨e0, e1, e2, e3⟩, ef⟩ := HS5.out.E.cells
        have f2 := ef 2
        have f3 := ef 3
        clear ef
        go_wp2_with fail
        go_meet
        have h6 := HS5.out.set (HS5.out.E.set2 (1 + x))
        have h7 := h6.set (h6.E.set3 ((es.length : Int) + 1))
        exact ⟨3, 0, _, _, h7.E, endT_if (by omega) (by omega), h7.D, h7.W, h7.O⟩
    case rest =>
      obtain ⟨k, a, t, l, EB, ET, HDx, HWx, HOx⟩ := hcut
      obtain ⟨⟨e0, e1, e2, e3⟩, ef⟩ := EB.out.cells
      have hsz := HWx.out.size
      have HQ := Lib.hid (heap_alloc_new wc (.cells #[.int .i64 k, .int .i64 a, .int .i64 t, .int .i64 l] 69))
      have hwr0 := (Wr.refl (fun _ => False) Lr wc).alloc (.cells #[.int .i64 k, .int .i64 a, .int .i64 t, .int .i64 l] 69)
      have HW0 := Lib.hid hwr0
      clear hwr0
      go_wp2_with (at_builtin; go_must (refine LR.wp_append rt_End rfl (.tmp 50) (.tmp 52) rfl _ wc.heap.size _ rfl (HOx.out.keep HW0.out (LExt.refl _ _) (fun h => h) fun _ _ _ h => h) rfl HQ.out rfl (by simp [Value.oneCell']) (by simp; omega) (by omega) ?_; intro gg cap w9 hs9; have HS := Lib.hid hs9; clear hs9))
      have HO9 := Lib.hid (HS.out.lr (fun _ => EEnd) ⟨k, a, t, l⟩ (fun _ _ _ h => h) rfl)
      rw [hidem.out _ (by simp; omega)] at HO9
      have hwr := (HW0.out.mono (Q := (· = [11])) fun _ h => h.elim).trans HS.out.wr (LExt.refl _ _)
      have HD9 := Lib.hid (HDx.out.keep hwr (LExt.refl _ _) (by simp) (by simp))
      have HW9 : Hid (Wr (fun p => p = [9] ∨ p = [11]) L w w9) := HWx.out.trans (hwr.mono fun _ h => .inr h) hext.out
      have HE9 := Lib.hid (endT_snoc HE.out ET.out)
      rw [HLR.out] at HO9 HD9
      clear hwr HS HO HD HW HE EB e0 e1 e2 e3 ef HQ HW0 HDx HWx HOx HLR hidem hext
      go_roundw
      case rel => exact ⟨es.length + 1, by omega, by go_num, es ++ [⟨k, a, t, l⟩], by simp, HE9, HO9, HD9, HW9⟩
      case measure => simp [intOf]; omega
end

end Go.Proofs.YteikpekffgifoaaDoor
