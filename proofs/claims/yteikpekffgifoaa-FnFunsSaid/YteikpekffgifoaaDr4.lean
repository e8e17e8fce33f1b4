/- The state while a block is being filled. -/
import Derived.Test.YteikpekffgifoaaDr3
namespace Go.Proofs.Yteikpekffgifoaa
open Go.ChangeShapes Go.WideShapes Go.ChangeAt Go.RowKit Go.Joins

theorem Wr.drew {P : List Nat → Prop} {L : Nat → List Nat} {a b : World} (h : Wr P L a b) : Wr P L a b.drew := ⟨h.os, h.tape, h.output, h.size, h.block⟩
theorem LR.ofOI {w : World} {B : Nat} {v : Value} {xs : List Int} {L : Nat → List Nat} {p : List Nat} (h : OI w B v xs) (hL : Lb L v p) : LR w B 2 1 L p (fun _ => EInt) v xs :=
  ⟨xs.map iv, h, hL, fun k x hx => ⟨[.int .i64 x], rfl, rfl, fun j u hu => by
    cases j with
    | zero =>
      simp at hu
      subst hu
      rw [Nat.mul_one, Nat.add_zero, List.getElem?_map, hx]
      rfl
    | succ j => simp at hu⟩⟩
theorem predsK_lt (g : EndD → List Int) (xs : List BlockD) (k : Nat) (j : Int) : ∀ (i : Nat) x, (predsK g xs k j)[i]? = some x → ∃ m : Nat, x = m ∧ m < k := fun i x hx => by
  have hm := List.mem_of_getElem? hx
  unfold predsK at hm
  obtain ⟨m, hm2, hm3⟩ := List.mem_map.1 hm
  exact ⟨m, hm3.symm, List.mem_range.1 (List.mem_filter.1 hm2).1⟩

/-- What may be written of block b, and beside it. -/
def FP (b : Nat) (p : List Nat) : Prop := p = [0] ∨ p = [1, b] ∨ p = [3, b] ∨ p = [9] ∨ p = [16] ∨ ∃ j, p = [5, b, j]

structure FSt (w0 w : World) (B Bc g G n c b q : Nat) (L0 L : Nat → List Nat) (ph nm : Int) (vf : Value) (fs : List Int) (bl : List BlockD) : Prop where
  ext : LExt w0 L0 L
  wr : Wr (FP b) L0 w0 w
  sta : DSta w Bc g L
  rows : LBl w B L (.slice (some ⟨G, 0, none⟩) n c) bl
  len : bl.length = n
  tgt : ∀ (i : Nat) x, bl[i]? = some x → EndT n x.fin
  box : w.heap[q]? = some (.cells #[.int .i64 ph, .int .i64 nm, .slice (some ⟨G, 0, none⟩) n c] 26 (0, 0))
  res : w.heap[q + 1]? = some (.cells #[.int .i64 0, .int .i64 0, .slice none 0 0] 26 (0, 0))
  lq : L q = [15] ∧ L (q + 1) = [15]
  hq : w0.heap.size ≤ q
  fst : LR w B 2 1 L [6] (fun _ => EInt) vf fs
  BB : B ≤ w0.heap.size

section
variable {w0 w w' : World} {B Bc g G n c b q : Nat} {L0 L L' : Nat → List Nat} {ph nm : Int} {vf : Value} {fs : List Int} {bl : List BlockD}

theorem EBlockL.keepJ {P : List Nat → Prop} {i m : Nat} {x : BlockD} {cs : List Value} (h : EBlockL w B L i x cs) (hw : Wr P L w w') (hL : LExt w L L') (hm : x.phis.length ≤ m) (hP : ∀ p, P p → NotB i p ∨ p = [5, i, m]) : EBlockL w' B L' i x cs := by
  obtain ⟨v0, v1, v2, v3, rfl, h0, h1, h2, h3⟩ := h
  have hn : ∀ p, P p → p ≠ [1, i] ∧ p ≠ [2, i] ∧ p ≠ [3, i] ∧ p ≠ [4, i] := fun p hp => by
    rcases hP p hp with h | rfl
    · exact ⟨h.1, h.2.1, h.2.2.1, h.2.2.2.1⟩
    · simp
  refine ⟨v0, v1, v2, v3, rfl, ?_, h1.keep hw hL (fun h => (hn _ h).2.1 rfl) fun _ _ _ h => h,
    h2.keep hw hL (fun h => (hn _ h).2.2.1 rfl) fun _ _ _ h => h, h3.keep hw hL (fun h => (hn _ h).2.2.2 rfl) fun _ _ _ h => h⟩
  obtain ⟨xs, g1, g2, g3⟩ := h0
  have hk := LR.keep (E := EPhiL w B L i) (E' := EPhiL w B L i) ⟨xs, g1, g2, g3⟩ hw hL (fun h => (hn _ h).1 rfl) fun _ _ _ h => h
  obtain ⟨ys, k1, k2, k3⟩ := hk
  refine ⟨ys, k1, k2, fun k p hp => ?_⟩
  obtain ⟨ds, hd, hr⟩ := k3 k p hp
  have hkl : k < x.phis.length := (List.getElem?_eq_some_iff.1 hp).1
  exact ⟨ds, hd.keep hw hL fun hh => by
    rcases hP _ hh with h | h
    · exact h.2.2.2.2 k rfl
    · simp at h; omega, hr⟩

/-- What leaves the blocks as they are. -/
theorem FSt.keep {P : List Nat → Prop} {m : Nat} (h : FSt w0 w B Bc g G n c b q L0 L ph nm vf fs bl) (hw : Wr P L w w') (hL : LExt w L L') (hP : ∀ p, P p → p = [9] ∨ p = [16] ∨ p = [5, b, m]) (hm : ∀ x, bl[b]? = some x → x.phis.length ≤ m) (hs : DSta w' Bc g L') : FSt w0 w' B Bc g G n c b q L0 L' ph nm vf fs bl := by
  have hql : q < w.heap.size := (Array.getElem?_eq_some_iff.1 h.box).1
  have hql' : q + 1 < w.heap.size := (Array.getElem?_eq_some_iff.1 h.res).1
  have hn : ∀ p, (p = [15] ∨ p = [6] ∨ p = [0]) → ¬ P p := fun p hp hh => by
    rcases hP p hh with e | e | e <;> rcases hp with e' | e' | e' <;> rw [e] at e' <;> simp at e'
  refine ⟨h.ext.trans hL h.wr.size, h.wr.trans (hw.mono fun p hp => ?_) h.ext, hs, ?_, h.len, h.tgt, (hw.block q hql (by rw [h.lq.1]; exact hn _ (.inl rfl))).trans h.box, (hw.block _ hql' (by rw [h.lq.2]; exact hn _ (.inl rfl))).trans h.res,
    ⟨(hL _ hql).trans h.lq.1, (hL _ hql').trans h.lq.2⟩, h.hq, h.fst.keep hw hL (hn _ (.inr (.inl rfl))) fun _ _ _ h => h, h.BB⟩
  · unfold FP
    rcases hP p hp with e | e | e
    · simp [e]
    · simp [e]
    · simp [e]
  · have h1 : LR w' B 43 8 L' [0] (EBlockL w B L) (.slice (some ⟨G, 0, none⟩) n c) bl := LR.keep h.rows hw hL (hn _ (.inr (.inr rfl))) fun _ _ _ h => h
    obtain ⟨ys, k1, k2, k3⟩ := h1
    refine ⟨ys, k1, k2, fun k x hx => ?_⟩
    obtain ⟨ds, hd, hr⟩ := k3 k x hx
    refine ⟨ds, ?_, hr⟩
    by_cases e : k = b
    · subst e
      exact hd.keepJ hw hL (hm x hx) fun p hp => by
        rcases hP p hp with e | e | e
        · subst e; exact .inl ⟨by simp, by simp, by simp, by simp, fun j => by simp⟩
        · subst e; exact .inl ⟨by simp, by simp, by simp, by simp, fun j => by simp⟩
        · exact .inr e
    · exact hd.keep hw hL fun p hp => by
        rcases hP p hp with e' | e' | e'
        · subst e'; exact ⟨by simp, by simp, by simp, by simp, fun j => by simp⟩
        · subst e'; exact ⟨by simp, by simp, by simp, by simp, fun j => by simp⟩
        · subst e'; exact ⟨by simp, by simp, by simp, by simp, fun j => by simp; intro e2; exact absurd e2.symm e⟩

theorem exists_phis (bl : List BlockD) (b : Nat) : ∃ m, ∀ x, bl[b]? = some x → x.phis.length ≤ m := by
  cases h : bl[b]? with
  | none => exact ⟨0, fun x hx => by cases hx⟩
  | some y => exact ⟨y.phis.length, fun x hx => by injection hx with hx; subst hx; exact Nat.le_refl _⟩
theorem FSt.call (h : FSt w0 w B Bc g G n c b q L0 L ph nm vf fs bl) (hs : DSta w' Bc g L) (hw : Wr (· = [9]) L w w') : FSt w0 w' B Bc g G n c b q L0 L ph nm vf fs bl := by
  obtain ⟨m, hm⟩ := exists_phis bl b
  exact h.keep hw (LExt.refl _ _) (fun p hp => .inl hp) hm hs
theorem FSt.tmp {P : List Nat → Prop} (h : FSt w0 w B Bc g G n c b q L0 L ph nm vf fs bl) (hw : Wr P L w w') (hL : LExt w L L') (hP : ∀ p, P p → p = [16]) : FSt w0 w' B Bc g G n c b q L0 L' ph nm vf fs bl := by
  obtain ⟨m, hm⟩ := exists_phis bl b
  exact h.keep hw hL (fun p hp => .inr (.inl (hP p hp))) hm (h.sta.keep hw hL (fun h => by have := hP _ h; simp at this) fun h => by have := hP _ h; simp at this)
theorem FSt.alloc (h : FSt w0 w B Bc g G n c b q L0 L ph nm vf fs bl) (o : Obj) : FSt w0 (w.alloc o) B Bc g G n c b q L0 L ph nm vf fs bl := h.tmp ((Wr.refl (fun _ => False) L w).alloc o) (LExt.refl _ _) fun _ h => h.elim
theorem FSt.drew (h : FSt w0 w B Bc g G n c b q L0 L ph nm vf fs bl) : FSt w0 w.drew B Bc g G n c b q L0 L ph nm vf fs bl := h.tmp (Wr.refl (fun _ => False) L w).drew (LExt.refl _ _) fun _ h => h.elim
theorem FSt.args {m : Nat} (h : FSt w0 w B Bc g G n c b q L0 L ph nm vf fs bl) (hw : Wr (· = [5, b, m]) L w w') (hL : LExt w L L') (hm : ∀ x, bl[b]? = some x → x.phis.length ≤ m) : FSt w0 w' B Bc g G n c b q L0 L' ph nm vf fs bl :=
  h.keep hw hL (fun p hp => .inr (.inr hp)) hm (h.sta.keep hw hL (by simp) (by simp))
/-- Block b is written. -/
theorem FSt.upd {P : List Nat → Prop} {y : BlockD} (h : FSt w0 w B Bc g G n c b q L0 L ph nm vf fs bl) (hw : Wr P L w w') (hL : LExt w L L') (hP : ∀ p, P p → p = [0] ∨ p = [1, b] ∨ p = [3, b])
    (hb : LBl w' B L' (.slice (some ⟨G, 0, none⟩) n c) (bl.set b y)) (hy : EndT n y.fin) : FSt w0 w' B Bc g G n c b q L0 L' ph nm vf fs (bl.set b y) := by
  have hql : q < w.heap.size := (Array.getElem?_eq_some_iff.1 h.box).1
  have hql' : q + 1 < w.heap.size := (Array.getElem?_eq_some_iff.1 h.res).1
  have hn : ∀ p, (p = [15] ∨ p = [6] ∨ p = [9] ∨ p = [8]) → ¬ P p := fun p hp hh => by
    rcases hP p hh with e | e | e <;> rcases hp with e' | e' | e' | e' <;> rw [e] at e' <;> simp at e'
  refine ⟨h.ext.trans hL h.wr.size, h.wr.trans (hw.mono fun p hp => ?_) h.ext, h.sta.keep hw hL (hn _ (by simp)) (hn _ (by simp)), hb, by simpa using h.len, fun i x hx => ?_, (hw.block q hql (by rw [h.lq.1]; exact hn _ (.inl rfl))).trans h.box, (hw.block _ hql' (by rw [h.lq.2]; exact hn _ (.inl rfl))).trans h.res,
    ⟨(hL _ hql).trans h.lq.1, (hL _ hql').trans h.lq.2⟩, h.hq, h.fst.keep hw hL (hn _ (.inr (.inl rfl))) fun _ _ _ h => h, h.BB⟩
  · unfold FP
    rcases hP p hp with e | e | e <;> simp [e]
  · rw [List.getElem?_set] at hx
    by_cases e : b = i
    · rw [if_pos e] at hx
      split at hx
      · injection hx with hx; subst hx; exact hy
      · cases hx
    · rw [if_neg e] at hx; exact h.tgt i x hx

theorem FSt.box_cells (h : FSt w0 w B Bc g G n c b q L0 L ph nm vf fs bl) : w.cell? ⟨q, 0, none⟩ = some (.int .i64 ph) ∧ w.cell? ⟨q, 1, none⟩ = some (.int .i64 nm) ∧ w.cell? ⟨q, 2, none⟩ = some (.slice (some ⟨G, 0, none⟩) n c) ∧ q < w.heap.size ∧ q + 1 < w.heap.size :=
  ⟨cell_of_row w q 0 _ _ _ h.box, cell_of_row w q 1 _ _ _ h.box, cell_of_row w q 2 _ _ _ h.box, (Array.getElem?_eq_some_iff.1 h.box).1, (Array.getElem?_eq_some_iff.1 h.res).1⟩
theorem FSt.efun (h : FSt w0 w B Bc g G n c b q L0 L ph nm vf fs bl) : EFun w (Zn.new B w.heap.size) ⟨ph, nm, bl⟩ (.agg #[.int .i64 ph, .int .i64 nm, .slice (some ⟨G, 0, none⟩) n c]) :=
  ⟨_, rfl, h.rows.row fun _ h1 h2 => ⟨h1, h2⟩⟩

/-- One pick. -/
theorem FSt.pick (h : FSt w0 w B Bc g G n c b q L0 L ph nm vf fs bl) (i : Nat) (below : Int) (hn : n ≤ 100) (hi : i < n) (hp : 1 ≤ ph ∧ ph ≤ 10) (hfl : fs.length = n + 1) (hfb : ∀ (i : Nat) x, fs[i]? = some x → 0 ≤ x ∧ x ≤ 1000) :
    Calls Try.prog 94 #[.pointer (some ⟨g, 0, none⟩), .agg #[.int .i64 ph, .int .i64 nm, .slice (some ⟨G, 0, none⟩) n c], .int .i64 i, vf, .int .i64 below] w (fun e w' => ∃ x : Int, e = .returned (.int .i64 x) ∧ FSt w0 w' B Bc g G n c b q L0 L ph nm vf fs bl ∧ Wr (· = [9]) L w w') := by
  have hlen := h.len
  refine (l2Pick_any ⟨ph, nm, bl⟩ _ vf fs i below w (Zn.new B w.heap.size) Bc g L h.efun (fun b hb => hb.2) ⟨by show 1 ≤ bl.length; omega, fun i x hx => by show EndT bl.length x.fin; rw [hlen]; exact h.tgt i x hx⟩ (by show bl.length ≤ 100; omega) (by show i < bl.length; omega) hp (h.fst.row (fun _ h1 h2 => ⟨h1, h2⟩) fun _ _ _ h => h) (by show fs.length = bl.length + 1; omega) hfb h.sta).mono ?_
  rintro e w' ⟨x, rfl, hd, hw⟩
  exact ⟨x, rfl, h.call hd hw, hw⟩

/-- The cells of block b. -/
theorem FSt.block (h : FSt w0 w B Bc g G n c b q L0 L ph nm vf fs bl) {x : BlockD} (hx : bl[b]? = some x) : ∃ v0 v2,
    (w.cell? ⟨G, b * 8, none⟩ = some v0 ∧ w.frozen? ⟨G, b * 8, none⟩ = false ∧ LR w B 104 2 L [1, b] (EPhiL w B L b) v0 x.phis) ∧
    (w.cell? ⟨G, b * 8 + 2, none⟩ = some v2 ∧ w.frozen? ⟨G, b * 8 + 2, none⟩ = false ∧ LR w B 101 4 L [3, b] (fun _ => EIns) v2 x.body) ∧
    (w.cell? ⟨G, b * 8 + 4, none⟩ = some (.int .i64 x.fin.k) ∧ (∃ z, w.cell? ⟨G, b * 8 + 5, none⟩ = some z) ∧ w.frozen? ⟨G, b * 8 + 5, none⟩ = false) ∧ G < w.heap.size := by
  obtain ⟨cs, ⟨v0, v1, v2, v3, rfl, r0, r1, r2, r3⟩, _, hc⟩ := LR.get h.rows hx
  exact ⟨v0, v2, ⟨(hc 0 _ rfl).1, (hc 0 _ rfl).2, r0⟩, ⟨(hc 2 _ rfl).1, (hc 2 _ rfl).2, r2⟩, ⟨(hc 4 _ rfl).1, ⟨_, (hc 5 _ rfl).1⟩, (hc 5 _ rfl).2⟩, (h.rows.lab).1⟩
theorem FSt.num {g6 N c6 : Nat} (h : FSt w0 w B Bc g G n c b q L0 L ph nm (.slice (some ⟨g6, 0, none⟩) N c6) fs bl) {k : Nat} {x : Int} (hx : fs[k]? = some x) : w.cell? ⟨g6, k, none⟩ = some (.int .i64 x) ∧ g6 < w.heap.size := by
  obtain ⟨cs, rfl, _, hc⟩ := LR.get h.fst hx
  have := (hc 0 _ rfl).1
  rw [Nat.mul_one] at this
  refine ⟨this, ?_⟩
  obtain ⟨xs, h1, _⟩ := h.fst
  exact (World.ownsRow.lt h1 g6 rfl).2

theorem set_at {α : Type} {l : List α} {i : Nat} (h : i < l.length) (x : α) : (l.set i x)[i]? = some x := by rw [List.getElem?_set, if_pos rfl, if_pos h]
theorem phis_keep {v : Value} {X : List PhiD} (h : LR w B 104 2 L [1, b] (EPhiL w B L b) v X) (hw : Wr (fun _ => False) L w w') : LR w' B 104 2 L [1, b] (EPhiL w' B L b) v X :=
  h.keep hw (LExt.refl _ _) (fun h => h) fun _ _ _ h => h.keep hw (LExt.refl _ _) fun h => h
theorem wr_alloc (w : World) (L : Nat → List Nat) (o : Obj) : Wr (fun _ => False) L w (w.alloc o) := (Wr.refl _ _ _).alloc o
theorem wr_drew (w : World) (L : Nat → List Nat) : Wr (fun _ => False) L w w.drew := (Wr.refl _ _ _).drew

theorem FSt.putPhi {y : BlockD} {k gg cap : Nat} {var : Int} {pa : List Int} {u : Value} {wa w9 : World} (h : FSt w0 w B Bc g G n c b q L0 L ph nm vf fs (bl.set b y)) (hk : y.phis.length = k) (hb : b < n) (hu : LR w B 2 1 L [5, b, k] (fun _ => EInt) u pa)
    (hwa : Wr (fun _ => False) L w wa) (hs : Snoc wa w9 B 104 2 L [1, b] (EPhiL wa B L b) y.phis [.int .i64 var, u] gg cap) :
    FSt w0 (w9.setCell ⟨G, b * 8, none⟩ (.slice (some ⟨gg, 0, none⟩) (y.phis.length + 1) cap)) B Bc g G n c b q L0 (relab L wa.heap.size [1, b]) ph nm vf fs (bl.set b { y with phis := y.phis ++ [⟨var, pa⟩] }) ∧
    Wr (fun p => p = [0] ∨ p = [1, b]) L w (w9.setCell ⟨G, b * 8, none⟩ (.slice (some ⟨gg, 0, none⟩) (y.phis.length + 1) cap)) ∧ LExt w L (relab L wa.heap.size [1, b]) := by
  have hbl : b < bl.length := by have := h.len; simp at this; omega
  have hLa : LExt wa L (relab L wa.heap.size [1, b]) := relab_ext _ _ _
  have hL : LExt w L (relab L wa.heap.size [1, b]) := fun j hj => hLa j (Nat.lt_of_lt_of_le hj hwa.size)
  have hw : Wr (· = [1, b]) L w w9 := (hwa.mono fun _ h => h.elim).trans hs.wr (LExt.refl _ _)
  have hG := h.rows.lab
  have hw2 : Wr (fun p => p = [0] ∨ p = [1, b]) L w (w9.setCell ⟨G, b * 8, none⟩ (.slice (some ⟨gg, 0, none⟩) (y.phis.length + 1) cap)) := (hw.mono fun _ h => .inr h).set (fun _ => .inl hG.2) _ _
  have hrow := hs.lr (EPhiL w9 B (relab L wa.heap.size [1, b]) b) ⟨var, pa⟩ (fun j z ds hz => hz.keep hs.wr hLa (by simp)) ⟨u, rfl, by
    rw [hk]
    exact hu.keep hw hL (by simp) fun _ _ _ h => h⟩
  have hset := h.rows.setPhis (set_at hbl y) hw hL hrow
  rw [List.set_set] at hset
  have h2 := h.upd (y := { y with phis := y.phis ++ [⟨var, pa⟩] }) hw2 hL (fun p hp => by rcases hp with e | e <;> simp [e]) (by rw [List.set_set]; exact hset) (h.tgt b y (set_at hbl y))
  rw [List.set_set] at h2
  exact ⟨h2, hw2, hL⟩

theorem FSt.putIns {y : BlockD} {gg cap : Nat} {i : InsD} {wa w9 : World} (h : FSt w0 w B Bc g G n c b q L0 L ph nm vf fs (bl.set b y)) (hb : b < n)
    (hwa : Wr (fun _ => False) L w wa) (hs : Snoc wa w9 B 101 4 L [3, b] (fun _ => EIns) y.body [.int .i64 i.op, .int .i64 i.v, .int .i64 i.a, .int .i64 i.b] gg cap) :
    FSt w0 (w9.setCell ⟨G, b * 8 + 2, none⟩ (.slice (some ⟨gg, 0, none⟩) (y.body.length + 1) cap)) B Bc g G n c b q L0 (relab L wa.heap.size [3, b]) ph nm vf fs (bl.set b { y with body := y.body ++ [i] }) ∧
    Wr (fun p => p = [0] ∨ p = [3, b]) L w (w9.setCell ⟨G, b * 8 + 2, none⟩ (.slice (some ⟨gg, 0, none⟩) (y.body.length + 1) cap)) ∧ LExt w L (relab L wa.heap.size [3, b]) := by
  have hbl : b < bl.length := by have := h.len; simp at this; omega
  have hLa : LExt wa L (relab L wa.heap.size [3, b]) := relab_ext _ _ _
  have hL : LExt w L (relab L wa.heap.size [3, b]) := fun j hj => hLa j (Nat.lt_of_lt_of_le hj hwa.size)
  have hw : Wr (· = [3, b]) L w w9 := (hwa.mono fun _ h => h.elim).trans hs.wr (LExt.refl _ _)
  have hG := h.rows.lab
  have hw2 : Wr (fun p => p = [0] ∨ p = [3, b]) L w (w9.setCell ⟨G, b * 8 + 2, none⟩ (.slice (some ⟨gg, 0, none⟩) (y.body.length + 1) cap)) := (hw.mono fun _ h => .inr h).set (fun _ => .inl hG.2) _ _
  have hrow := hs.lr (fun _ => EIns) i (fun _ _ _ h => h) rfl
  have hset := h.rows.setBody (set_at hbl y) hw hL hrow
  rw [List.set_set] at hset
  have h2 := h.upd (y := { y with body := y.body ++ [i] }) hw2 hL (fun p hp => by rcases hp with e | e <;> simp [e]) (by rw [List.set_set]; exact hset) (h.tgt b y (set_at hbl y))
  rw [List.set_set] at h2
  exact ⟨h2, hw2, hL⟩

/-- The name that the End takes is written. -/
theorem FSt.putEnd {y : BlockD} {z : Int} (h : FSt w0 w B Bc g G n c b q L0 L ph nm vf fs (bl.set b y)) (hb : b < n) :
    FSt w0 (w.setCell ⟨G, b * 8 + 5, none⟩ (.int .i64 z)) B Bc g G n c b q L0 L ph nm vf fs (bl.set b { y with fin := { y.fin with a := z } }) := by
  have hbl : b < bl.length := by have := h.len; simp at this; omega
  have hG := h.rows.lab
  have hset := h.rows.setEnd (j := 1) (z := z) (e := { y.fin with a := z }) (set_at hbl y) (by omega) rfl
  rw [List.set_set] at hset
  have h2 := h.upd (P := (· = [0])) (y := { y with fin := { y.fin with a := z } }) (wr_set0 hG.2) (LExt.refl _ _) (fun p hp => by simp [hp]) (by rw [List.set_set]; exact hset) (h.tgt b y (set_at hbl y))
  rw [List.set_set] at h2
  exact h2

theorem snoc_cell {α : Type} {T : TypeId} {S : Nat} {p : List Nat} {E : Nat → α → List Value → Prop} {X : List α} {cs : List Value} {gg cap k : Nat} {wa w9 : World} (hwa : Wr (fun _ => False) L w wa) (hs : Snoc wa w9 B T S L p E X cs gg cap) (hk : k < w.heap.size) (hn : L k ≠ p) (o : Nat) :
    w9.cell? ⟨k, o, none⟩ = w.cell? ⟨k, o, none⟩ ∧ w9.frozen? ⟨k, o, none⟩ = w.frozen? ⟨k, o, none⟩ := by
  have h : w9.heap[k]? = w.heap[k]? := (hs.wr.block k (Nat.lt_of_lt_of_le hk hwa.size) hn).trans (hwa.block k hk fun h => h)
  exact ⟨World.cell?_of_block (a := ⟨k, o, none⟩) h, World.frozen?_of_block (a := ⟨k, o, none⟩) h⟩

theorem FSt.putArg {y : BlockD} {k gg cap q3 : Nat} {var xx : Int} {pa : List Int} {u : Value} {wa w9 : World} (h : FSt w0 w B Bc g G n c b q L0 L ph nm vf fs (bl.set b y)) (hk : y.phis.length = k) (hb : b < n) (hB : w.heap[q3]? = some (.cells #[.int .i64 var, u] 104 (0, 0))) (hl : L q3 = [16])
    (hwa : Wr (fun _ => False) L w wa) (hs : Snoc wa w9 B 2 1 L [5, b, k] (fun _ => EInt) pa [.int .i64 xx] gg cap) :
    FSt w0 (w9.setCell ⟨q3, 1, none⟩ (.slice (some ⟨gg, 0, none⟩) (pa.length + 1) cap)) B Bc g G n c b q L0 (relab L wa.heap.size [5, b, k]) ph nm vf fs (bl.set b y) ∧
    Wr (fun p => p = [16] ∨ p = [5, b, k]) L w (w9.setCell ⟨q3, 1, none⟩ (.slice (some ⟨gg, 0, none⟩) (pa.length + 1) cap)) ∧ LExt w L (relab L wa.heap.size [5, b, k]) ∧
    LR (w9.setCell ⟨q3, 1, none⟩ (.slice (some ⟨gg, 0, none⟩) (pa.length + 1) cap)) B 2 1 (relab L wa.heap.size [5, b, k]) [5, b, k] (fun _ => EInt) (.slice (some ⟨gg, 0, none⟩) (pa.length + 1) cap) (pa ++ [xx]) ∧
    (w9.setCell ⟨q3, 1, none⟩ (.slice (some ⟨gg, 0, none⟩) (pa.length + 1) cap)).heap[q3]? = some (.cells #[.int .i64 var, .slice (some ⟨gg, 0, none⟩) (pa.length + 1) cap] 104 (0, 0)) ∧ relab L wa.heap.size [5, b, k] q3 = [16] := by
  have hbl : b < bl.length := by have := h.len; simp at this; omega
  have hLa : LExt wa L (relab L wa.heap.size [5, b, k]) := relab_ext _ _ _
  have hL : LExt w L (relab L wa.heap.size [5, b, k]) := fun j hj => hLa j (Nat.lt_of_lt_of_le hj hwa.size)
  have hw : Wr (· = [5, b, k]) L w w9 := (hwa.mono fun _ h => h.elim).trans hs.wr (LExt.refl _ _)
  have hlt : q3 < w.heap.size := (Array.getElem?_eq_some_iff.1 hB).1
  have hl2 : relab L wa.heap.size [5, b, k] q3 = [16] := (hL q3 hlt).trans hl
  have hw2 : Wr (fun p => p = [16] ∨ p = [5, b, k]) L w (w9.setCell ⟨q3, 1, none⟩ (.slice (some ⟨gg, 0, none⟩) (pa.length + 1) cap)) := (hw.mono fun _ h => .inr h).set (fun _ => .inl hl) _ _
  have hrow := hs.lr (fun _ => EInt) xx (fun _ _ _ h => h) rfl
  have h9 : w9.heap[q3]? = some (.cells #[.int .i64 var, u] 104 (0, 0)) := (hw.block q3 hlt (by rw [hl]; simp)).trans hB
  refine ⟨h.keep (m := k) hw2 hL (fun p hp => by rcases hp with e | e <;> simp [e]) (fun x hx => by
    rw [set_at hbl y] at hx
    injection hx with hx
    subst hx
    omega) (h.sta.keep hw2 hL (by simp) (by simp)), hw2, hL, ?_, heap_setCell_same w9 q3 1 _ _ _ h9, hl2⟩
  exact hrow.keep ((Wr.refl (· = [16]) _ w9).set (fun _ => hl2) _ _) (LExt.refl _ _) (by simp) fun _ _ _ h => h
end

end Go.Proofs.Yteikpekffgifoaa
