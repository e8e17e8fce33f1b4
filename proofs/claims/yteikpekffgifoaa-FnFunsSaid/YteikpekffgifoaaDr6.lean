/- The state while a function is being drawn (l2Draw). -/
import Derived.Test.YteikpekffgifoaaDr4
namespace Go.Proofs.Yteikpekffgifoaa
open Go.ChangeShapes Go.WideShapes Go.ChangeAt Go.RowKit Go.Joins

structure GSt (w0 w : World) (Bc g q2 q4 : Nat) (L0 L : Nat → List Nat) (ph nm : Int) (bv : Value) (bl : List BlockD) : Prop where
  ext : LExt w0 L0 L
  wr : Wr (fun p => p ≠ [8]) L0 w0 w
  sta : DSta w Bc g L
  rows : LBl w w0.heap.size L bv bl
  box : w.heap[q4]? = some (.cells #[.int .i64 ph, .int .i64 nm, bv] 26 (0, 0))
  res : w.heap[q2]? = some (.cells #[.int .i64 0, .int .i64 0, .slice none 0 0] 26 (0, 0))
  l2 : L q2 = [15]
  l4 : L q4 = [17]
  hq : w0.heap.size ≤ q2 ∧ w0.heap.size ≤ q4

section
variable {w0 w w' : World} {Bc g q2 q4 : Nat} {L0 L L' : Nat → List Nat} {ph nm : Int} {bv : Value} {bl : List BlockD}
theorem GSt.lt (h : GSt w0 w Bc g q2 q4 L0 L ph nm bv bl) : q2 < w.heap.size ∧ q4 < w.heap.size := ⟨(Array.getElem?_eq_some_iff.1 h.res).1, (Array.getElem?_eq_some_iff.1 h.box).1⟩
theorem GSt.keep {P : List Nat → Prop} (h : GSt w0 w Bc g q2 q4 L0 L ph nm bv bl) (hw : Wr P L w w') (hL : LExt w L L') (hP : ∀ p, P p → p = [9] ∨ p = [6] ∨ p = [7] ∨ p = [11] ∨ p = [14] ∨ p = [16]) (hs : DSta w' Bc g L') : GSt w0 w' Bc g q2 q4 L0 L' ph nm bv bl := by
  obtain ⟨hl2, hl4⟩ := h.lt
  have hn : ∀ p, (p = [15] ∨ p = [17] ∨ p = [8]) → ¬ P p := fun p hp hh => by
    rcases hP p hh with e | e | e | e | e | e <;> rcases hp with e' | e' | e' <;> rw [e] at e' <;> simp at e'
  exact ⟨h.ext.trans hL h.wr.size, h.wr.trans (hw.mono fun p hp e => hn p (.inr (.inr e)) hp) h.ext, hs, h.rows.keep hw hL fun p hp => by
      rcases hP p hp with e | e | e | e | e | e <;> subst e <;> exact ⟨by simp, fun i => ⟨by simp, by simp, by simp, by simp, fun j => by simp⟩⟩,
    (hw.block q4 hl4 (by rw [h.l4]; exact hn _ (by simp))).trans h.box, (hw.block q2 hl2 (by rw [h.l2]; exact hn _ (by simp))).trans h.res, (hL q2 hl2).trans h.l2, (hL q4 hl4).trans h.l4, h.hq⟩
theorem GSt.call (h : GSt w0 w Bc g q2 q4 L0 L ph nm bv bl) (hs : DSta w' Bc g L) (hw : Wr (· = [9]) L w w') : GSt w0 w' Bc g q2 q4 L0 L ph nm bv bl := h.keep hw (LExt.refl _ _) (fun _ hp => .inl hp) hs
theorem GSt.row {P : List Nat → Prop} (h : GSt w0 w Bc g q2 q4 L0 L ph nm bv bl) (hw : Wr P L w w') (hL : LExt w L L') (hP : ∀ p, P p → p = [6] ∨ p = [7] ∨ p = [11] ∨ p = [14] ∨ p = [16]) : GSt w0 w' Bc g q2 q4 L0 L' ph nm bv bl :=
  h.keep hw hL (fun p hp => .inr (hP p hp)) (h.sta.keep hw hL (fun hh => by rcases hP _ hh with e | e | e | e | e <;> simp at e) fun hh => by rcases hP _ hh with e | e | e | e | e <;> simp at e)
theorem GSt.drew (h : GSt w0 w Bc g q2 q4 L0 L ph nm bv bl) : GSt w0 w.drew Bc g q2 q4 L0 L ph nm bv bl := h.row (wr_drew w L) (LExt.refl _ _) fun _ h => h.elim
theorem GSt.alloc (h : GSt w0 w Bc g q2 q4 L0 L ph nm bv bl) (o : Obj) : GSt w0 (w.alloc o) Bc g q2 q4 L0 L ph nm bv bl := h.row (wr_alloc w L o) (LExt.refl _ _) fun _ h => h.elim
theorem GSt.cells (h : GSt w0 w Bc g q2 q4 L0 L ph nm bv bl) : w.cell? ⟨q4, 0, none⟩ = some (.int .i64 ph) ∧ w.cell? ⟨q4, 1, none⟩ = some (.int .i64 nm) ∧ w.cell? ⟨q4, 2, none⟩ = some bv ∧ (∀ j, w.frozen? ⟨q4, j, none⟩ = false) :=
  ⟨cell_of_row w q4 0 _ _ _ h.box, cell_of_row w q4 1 _ _ _ h.box, cell_of_row w q4 2 _ _ _ h.box, fun j => frozen_of_row w q4 j _ _ h.box⟩
theorem GSt.efun (h : GSt w0 w Bc g q2 q4 L0 L ph nm bv bl) : EFun w (Zn.new w0.heap.size w.heap.size) ⟨ph, nm, bl⟩ (.agg #[.int .i64 ph, .int .i64 nm, bv]) := ⟨_, rfl, h.rows.row fun _ h1 h2 => ⟨h1, h2⟩⟩

/-- The number of names is written. -/
theorem GSt.setNm (h : GSt w0 w Bc g q2 q4 L0 L ph nm bv bl) (nm' : Int) : GSt w0 (w.setCell ⟨q4, 1, none⟩ (.int .i64 nm')) Bc g q2 q4 L0 L ph nm' bv bl := by
  have hw : Wr (· = [17]) L w (w.setCell ⟨q4, 1, none⟩ (.int .i64 nm')) := (Wr.refl _ _ _).set (fun _ => h.l4) _ _
  exact ⟨h.ext, h.wr.set (fun hlt => by have := h.hq; omega) _ _, h.sta.keep hw (LExt.refl _ _) (by simp) (by simp), h.rows.keep hw (LExt.refl _ _) fun p hp => by
    subst hp; exact ⟨by simp, fun i => ⟨by simp, by simp, by simp, by simp, fun j => by simp⟩⟩, heap_setCell_same w q4 1 _ _ _ h.box, (hw.block q2 h.lt.1 (by rw [h.l2]; simp)).trans h.res, h.l2, h.l4, h.hq⟩

/-- A block more. -/
theorem GSt.putBlock {e : EndD} {wa w9 : World} {gg cap : Nat} (h : GSt w0 w Bc g q2 q4 L0 L ph nm bv bl) (hwa : Wr (fun _ => False) L w wa)
    (hs : Snoc wa w9 w0.heap.size 43 8 L [0] (EBlockL wa w0.heap.size L) bl [.slice none 0 0, .slice none 0 0, .slice none 0 0, .slice none 0 0, .int .i64 e.k, .int .i64 e.a, .int .i64 e.t, .int .i64 e.l] gg cap) :
    GSt w0 (w9.setCell ⟨q4, 2, none⟩ (.slice (some ⟨gg, 0, none⟩) (bl.length + 1) cap)) Bc g q2 q4 L0 (relab L wa.heap.size [0]) ph nm (.slice (some ⟨gg, 0, none⟩) (bl.length + 1) cap) (bl ++ [⟨[], [], [], [], e⟩]) ∧
    Wr (fun p => p = [17] ∨ p = [0]) L w (w9.setCell ⟨q4, 2, none⟩ (.slice (some ⟨gg, 0, none⟩) (bl.length + 1) cap)) ∧ LExt w L (relab L wa.heap.size [0]) := by
  obtain ⟨hl2, hl4⟩ := h.lt
  have hLa : LExt wa L (relab L wa.heap.size [0]) := relab_ext _ _ _
  have hL : LExt w L (relab L wa.heap.size [0]) := fun j hj => hLa j (Nat.lt_of_lt_of_le hj hwa.size)
  have hw : Wr (· = [0]) L w w9 := (hwa.mono fun _ h => h.elim).trans hs.wr (LExt.refl _ _)
  have hw2 : Wr (fun p => p = [17] ∨ p = [0]) L w (w9.setCell ⟨q4, 2, none⟩ (.slice (some ⟨gg, 0, none⟩) (bl.length + 1) cap)) := (hw.mono fun _ h => .inr h).set (fun _ => .inl h.l4) _ _
  have h44 : relab L wa.heap.size [0] q4 = [17] := (hL q4 hl4).trans h.l4
  have hrow : LBl w9 w0.heap.size (relab L wa.heap.size [0]) (.slice (some ⟨gg, 0, none⟩) (bl.length + 1) cap) (bl ++ [⟨[], [], [], [], e⟩]) :=
    hs.lr (EBlockL w9 w0.heap.size (relab L wa.heap.size [0])) ⟨[], [], [], [], e⟩ (fun j z ds hz => hz.keep hs.wr hLa fun p hp => by subst hp; exact notB0 j)
      ⟨_, _, _, _, rfl, LR.nil _ _ _ _ _ _ _, LR.nil _ _ _ _ _ _ _, LR.nil _ _ _ _ _ _ _, LR.nil _ _ _ _ _ _ _⟩
  have hb9 : w9.heap[q4]? = some (.cells #[.int .i64 ph, .int .i64 nm, bv] 26 (0, 0)) := (hw.block q4 hl4 (by rw [h.l4]; simp)).trans h.box
  refine ⟨⟨h.ext.trans hL h.wr.size, h.wr.trans (hw2.mono fun p hp e => by rcases hp with e' | e' <;> rw [e] at e' <;> simp at e') h.ext, h.sta.keep hw2 hL (by simp) (by simp), ?_, heap_setCell_same w9 q4 2 _ _ _ hb9,
    (hw2.block q2 hl2 (by rw [h.l2]; simp)).trans h.res, (hL q2 hl2).trans h.l2, h44, h.hq⟩, hw2, hL⟩
  exact hrow.keep ((Wr.refl (· = [17]) _ w9).set (fun _ => h44) _ _) (LExt.refl _ _) fun p hp => by
    subst hp; exact ⟨by simp, fun i => ⟨by simp, by simp, by simp, by simp, fun j => by simp⟩⟩

theorem not17 {p : List Nat} (hp : p = [17]) : p ≠ [0] ∧ ∀ i, NotB i p := by subst hp; exact ⟨by simp, fun i => ⟨by simp, by simp, by simp, by simp, fun j => by simp⟩⟩
theorem not15 {p : List Nat} (hp : p = [15]) : p ≠ [0] ∧ ∀ i, NotB i p := by subst hp; exact ⟨by simp, fun i => ⟨by simp, by simp, by simp, by simp, fun j => by simp⟩⟩
theorem GSt.wr3 (h : GSt w0 w Bc g q2 q4 L0 L ph nm bv bl) (u0 u1 u2 : Value) : Wr (· = [17]) L w (((w.setCell ⟨q4, 0, none⟩ u0).setCell ⟨q4, 1, none⟩ u1).setCell ⟨q4, 2, none⟩ u2) :=
  (((Wr.refl _ _ _).set (fun _ => h.l4) _ _).set (fun _ => h.l4) _ _).set (fun _ => h.l4) _ _
/-- The same is stored again. -/
theorem GSt.store3 (h : GSt w0 w Bc g q2 q4 L0 L ph nm bv bl) : GSt w0 (((w.setCell ⟨q4, 0, none⟩ (.int .i64 ph)).setCell ⟨q4, 1, none⟩ (.int .i64 nm)).setCell ⟨q4, 2, none⟩ bv) Bc g q2 q4 L0 L ph nm bv bl := by
  have hw := h.wr3 (.int .i64 ph) (.int .i64 nm) bv
  have hlt : ∀ P : Prop, q4 < w0.heap.size → P := fun P hlt => by have := h.hq; omega
  exact ⟨h.ext, ((h.wr.set (hlt _) _ _).set (hlt _) _ _).set (hlt _) _ _, h.sta.keep hw (LExt.refl _ _) (by simp) (by simp), h.rows.keep hw (LExt.refl _ _) fun _ hp => not17 hp,
    heap_setCell_same _ q4 2 _ _ _ (heap_setCell_same _ q4 1 _ _ _ (heap_setCell_same w q4 0 _ _ _ h.box)), (hw.block q2 h.lt.1 (by rw [h.l2]; simp)).trans h.res, h.l2, h.l4, h.hq⟩
/-- A block was filled. -/
theorem GSt.fill {P : List Nat → Prop} {bl2 : List BlockD} (h : GSt w0 w Bc g q2 q4 L0 L ph nm bv bl) (hw : Wr P L w w') (hL : LExt w L L') (h8 : ¬ P [8]) (h15 : ¬ P [15]) (h17 : ¬ P [17]) (hs : DSta w' Bc g L') (hr : LBl w' w0.heap.size L' bv bl2) : GSt w0 w' Bc g q2 q4 L0 L' ph nm bv bl2 := by
  obtain ⟨hl2, hl4⟩ := h.lt
  exact ⟨h.ext.trans hL h.wr.size, h.wr.trans (hw.mono fun p hp e => h8 (e ▸ hp)) h.ext, hs, hr, (hw.block q4 hl4 (by rw [h.l4]; exact h17)).trans h.box, (hw.block q2 hl2 (by rw [h.l2]; exact h15)).trans h.res, (hL q2 hl2).trans h.l2, (hL q4 hl4).trans h.l4, h.hq⟩
/-- The result is stored. -/
theorem GSt.out3 (h : GSt w0 w Bc g q2 q4 L0 L ph nm bv bl) (u0 u1 u2 : Value) :
    LExt w0 L0 L ∧ Wr (fun p => p ≠ [8]) L0 w0 (((w.setCell ⟨q2, 0, none⟩ u0).setCell ⟨q2, 1, none⟩ u1).setCell ⟨q2, 2, none⟩ u2) ∧ DSta (((w.setCell ⟨q2, 0, none⟩ u0).setCell ⟨q2, 1, none⟩ u1).setCell ⟨q2, 2, none⟩ u2) Bc g L ∧
    LBl (((w.setCell ⟨q2, 0, none⟩ u0).setCell ⟨q2, 1, none⟩ u1).setCell ⟨q2, 2, none⟩ u2) w0.heap.size L bv bl := by
  have hw : Wr (· = [15]) L w (((w.setCell ⟨q2, 0, none⟩ u0).setCell ⟨q2, 1, none⟩ u1).setCell ⟨q2, 2, none⟩ u2) := (((Wr.refl _ _ _).set (fun _ => h.l2) _ _).set (fun _ => h.l2) _ _).set (fun _ => h.l2) _ _
  have hlt : ∀ P : Prop, q2 < w0.heap.size → P := fun P hlt => by have := h.hq; omega
  exact ⟨h.ext, ((h.wr.set (hlt _) _ _).set (hlt _) _ _).set (hlt _) _ _, h.sta.keep hw (LExt.refl _ _) (by simp) (by simp), h.rows.keep hw (LExt.refl _ _) fun _ hp => not15 hp⟩
theorem fp_not (b : Nat) : ¬ FP b [8] ∧ ¬ FP b [15] ∧ ¬ FP b [17] ∧ ¬ FP b [7] := by simp [FP]
end

structure FOut (w0 w : World) (B Bc g G n c b : Nat) (L0 L : Nat → List Nat) (vf : Value) (fs : List Int) (bl : List BlockD) : Prop where
  ext : LExt w0 L0 L
  wr : Wr (FP b) L0 w0 w
  sta : DSta w Bc g L
  rows : LBl w B L (.slice (some ⟨G, 0, none⟩) n c) bl
  len : bl.length = n
  tgt : ∀ (i : Nat) x, bl[i]? = some x → EndT n x.fin
  fst : LR w B 2 1 L [6] (fun _ => EInt) vf fs
theorem FSt.out3 {w0 w : World} {B Bc g G n c b q : Nat} {L0 L : Nat → List Nat} {ph nm : Int} {vf : Value} {fs : List Int} {bl : List BlockD} (h : FSt w0 w B Bc g G n c b q L0 L ph nm vf fs bl) (u0 u1 u2 : Value) :
    FOut w0 (((w.setCell ⟨q + 1, 0, none⟩ u0).setCell ⟨q + 1, 1, none⟩ u1).setCell ⟨q + 1, 2, none⟩ u2) B Bc g G n c b L0 L vf fs bl := by
  have hw : Wr (· = [15]) L w (((w.setCell ⟨q + 1, 0, none⟩ u0).setCell ⟨q + 1, 1, none⟩ u1).setCell ⟨q + 1, 2, none⟩ u2) := (((Wr.refl _ _ _).set (fun _ => h.lq.2) _ _).set (fun _ => h.lq.2) _ _).set (fun _ => h.lq.2) _ _
  have hlt : ∀ P : Prop, q + 1 < w0.heap.size → P := fun P hlt => by have := h.hq; omega
  exact ⟨h.ext, ((h.wr.set (hlt _) _ _).set (hlt _) _ _).set (hlt _) _ _, h.sta.keep hw (LExt.refl _ _) (by simp) (by simp), h.rows.keep hw (LExt.refl _ _) fun p hp => by
    subst hp
    exact ⟨by simp, fun i => ⟨by simp, by simp, by simp, by simp, fun j => by simp⟩⟩, h.len, h.tgt, h.fst.keep hw (LExt.refl _ _) (by simp) fun _ _ _ h => h⟩

def GivesFill (w : World) (B Bc g G n c b : Nat) (L0 : Nat → List Nat) (ph nm : Int) (vf : Value) (fs : List Int) (bl : List BlockD) (x : BlockD) (e : Ending) (w' : World) : Prop :=
  ∃ L' y, e = .returned (.agg #[.int .i64 ph, .int .i64 nm, .slice (some ⟨G, 0, none⟩) n c]) ∧ FOut w w' B Bc g G n c b L0 L' vf fs (bl.set b y) ∧ y.phis.length ≤ 10000 ∧ y.body.length ≤ 10000 ∧ y.tail = x.tail


end Go.Proofs.Yteikpekffgifoaa
