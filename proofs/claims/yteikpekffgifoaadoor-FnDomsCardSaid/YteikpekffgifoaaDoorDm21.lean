/- Dr8, DrawIns, joined. -/
import Derived.Test.YteikpekffgifoaaDoorDm8
import Derived.Test.YteikpekffgifoaaDoorDm20
namespace Go.Proofs.YteikpekffgifoaaDoor

/- What is known of any function that is drawn: lemmas for l2DrawAny. -/
section
open Go.ChangeShapes Go.WideShapes Go.ChangeAt Go.RowKit Go.Joins

/-- Another bound below, other labels below. -/
theorem LR.lower {α : Type} {w : World} {B B' : Nat} {T : TypeId} {S : Nat} {L L' : Nat → List Nat} {p : List Nat} {E E' : Nat → α → List Value → Prop} {v : Value} {X : List α} (h : LR w B T S L p E v X) (hB : B' ≤ B) (hL : ∀ k, B ≤ k → L' k = L k) (hE : ∀ k x cs, E k x cs → E' k x cs) : LR w B' T S L' p E' v X := by
  obtain ⟨xs, h1, h2, h3⟩ := h
  have hlt := World.ownsRow.lt h1
  refine ⟨xs, ?_, fun g hg => (hL g (hlt g hg).1).trans (h2 g hg), fun k x hx => ?_⟩
  · refine ⟨h1.1, ?_⟩
    rcases h1.2 with h4 | ⟨g, cap, cur, rfl, hb, r⟩
    · exact .inl h4
    · exact .inr ⟨g, cap, cur, rfl, Nat.le_trans hB hb, r⟩
  · obtain ⟨cs, hc, h5⟩ := h3 k x hx
    exact ⟨cs, hE k x cs hc, h5⟩
theorem LBl.lower {w : World} {B B' : Nat} {L L' : Nat → List Nat} {v : Value} {xs : List BlockD} (h : LBl w B L v xs) (hB : B' ≤ B) (hL : ∀ k, B ≤ k → L' k = L k) : LBl w B' L' v xs :=
  LR.lower h hB hL fun i x cs hcs => by
    obtain ⟨v0, v1, v2, v3, rfl, r0, r1, r2, r3⟩ := hcs
    exact ⟨v0, v1, v2, v3, rfl, r0.lower hB hL fun j p cs hp => by
      obtain ⟨u, rfl, hu⟩ := hp
      exact ⟨u, rfl, hu.lower hB hL fun _ _ _ h => h⟩, r1.lower hB hL fun _ _ _ h => h, r2.lower hB hL fun _ _ _ h => h, r3.lower hB hL fun _ _ _ h => h⟩

/-- A row read as a slice, its label being known. -/
theorem LR.rowL {α : Type} {w : World} {B : Nat} {T : TypeId} {S : Nat} {L : Nat → List Nat} {p : List Nat} {E : Nat → α → List Value → Prop} {v : Value} {X : List α} {Z : Zn} {F : α → List Value → Prop} (h : LR w B T S L p E v X) (hZ : ∀ k, B ≤ k → k < w.heap.size → L k = p → Z.D k) (hF : ∀ k x cs, E k x cs → F x cs) : Row w Z S F v X := by
  obtain ⟨A, c, rfl, hA⟩ := h.form
  refine ⟨h.len, A, c, rfl, fun hne => ?_⟩
  obtain ⟨g, rfl, hl, hb, hg⟩ := hA hne
  refine ⟨g, 0, rfl, hZ g hb hg hl, fun k x hx => ?_⟩
  obtain ⟨cs, hE, _, hc⟩ := h.get hx
  exact ⟨cs, hF k x cs hE, fun j u hu => ⟨by rw [Nat.zero_add]; exact (hc j u hu).1, fun _ => by rw [Nat.zero_add]; exact (hc j u hu).2⟩⟩

/-- Where the rows of a drawn function may lie: not in the result's block. -/
def Zr (B : Nat) (L : Nat → List Nat) (w : World) : Zn := ⟨fun b => B ≤ b ∧ b < w.heap.size ∧ L b ≠ [15], true⟩
theorem EBlockL.rowZ {w : World} {B : Nat} {L : Nat → List Nat} {i : Nat} {x : BlockD} {cs : List Value} (h : EBlockL w B L i x cs) : EBlock w (Zr B L w) x cs := by
  have hZ : ∀ p, p ≠ [15] → ∀ k, B ≤ k → k < w.heap.size → L k = p → (Zr B L w).D k := fun p hp k h1 h2 h3 => ⟨h1, h2, by rw [h3]; exact hp⟩
  obtain ⟨v0, v1, v2, v3, rfl, r0, r1, r2, r3⟩ := h
  exact ⟨v0, v1, v2, v3, rfl, r0.rowL (hZ _ (by simp)) fun j _ cs hcs => by
    obtain ⟨u, rfl, hu⟩ := hcs
    exact ⟨u, rfl, hu.rowL (hZ _ (by simp)) fun _ _ _ h => h⟩, r1.rowL (hZ _ (by simp)) fun _ _ _ h => h, r2.rowL (hZ _ (by simp)) fun _ _ _ h => h, r3.rowL (hZ _ (by simp)) fun _ _ _ h => h⟩
theorem LBl.rowZ {w : World} {B : Nat} {L : Nat → List Nat} {v : Value} {xs : List BlockD} (h : LBl w B L v xs) : Row w (Zr B L w) 8 (EBlock w (Zr B L w)) v xs :=
  LR.rowL h (fun k h1 h2 h3 => ⟨h1, h2, by rw [h3]; simp⟩) fun _ _ _ h => h.rowZ

/-- The state behind the change. -/
structure AOut (w0 w : World) (Bc g q2 q4 : Nat) (L0 L : Nat → List Nat) (ph nm : Int) (bv : Value) (bl : List BlockD) : Prop where
  ext : LExt w0 L0 L
  wr : Wr (fun p => p ≠ [8]) L0 w0 w
  sta : DSta w Bc g L
  rows : Row w (Zr w0.heap.size L w) 8 (EBlock w (Zr w0.heap.size L w)) bv bl
  box : w.heap[q4]? = some (.cells #[.int .i64 ph, .int .i64 nm, bv] 26 (0, 0))
  res : w.heap[q2]? = some (.cells #[.int .i64 0, .int .i64 0, .slice none 0 0] 26 (0, 0))
  l2 : L q2 = [15]
  hq : w0.heap.size ≤ q2
  len : bl.length ≤ 7

def GivesAny (w : World) (Bc g : Nat) (L0 : Nat → List Nat) (e : Ending) (w' : World) : Prop :=
  ∃ (L' : Nat → List Nat) (fd : FunD) (v : Value), e = .returned v ∧ LExt w L0 L' ∧ Wr (fun p => p ≠ [8]) L0 w w' ∧ DSta w' Bc g L' ∧ EFun w' (Zn.new w.heap.size w'.heap.size) fd v ∧ fd.blocks.length ≤ 7

section
variable {w0 w w' : World} {Bc g q2 q4 : Nat} {L0 L L' : Nat → List Nat} {ph nm : Int} {bv : Value} {bl : List BlockD}
theorem AOut.of (h : GSt w0 w Bc g q2 q4 L0 L ph nm bv bl) (hl : bl.length ≤ 7) : AOut w0 w Bc g q2 q4 L0 L ph nm bv bl :=
  ⟨h.ext, h.wr, h.sta, h.rows.rowZ, h.box, h.res, h.l2, h.hq.1, hl⟩
theorem AOut.cells (h : AOut w0 w Bc g q2 q4 L0 L ph nm bv bl) : (w.cell? ⟨q4, 0, none⟩ = some (.int .i64 ph) ∧ w.cell? ⟨q4, 1, none⟩ = some (.int .i64 nm) ∧ w.cell? ⟨q4, 2, none⟩ = some bv) ∧
    (w.cell? ⟨q2, 0, none⟩ = some (.int .i64 0) ∧ w.cell? ⟨q2, 1, none⟩ = some (.int .i64 0) ∧ w.cell? ⟨q2, 2, none⟩ = some (.slice none 0 0)) ∧ (w.frozen? ⟨q2, 0, none⟩ = false ∧ w.frozen? ⟨q2, 1, none⟩ = false ∧ w.frozen? ⟨q2, 2, none⟩ = false) :=
  ⟨⟨cell_of_row w q4 0 _ _ _ h.box, cell_of_row w q4 1 _ _ _ h.box, cell_of_row w q4 2 _ _ _ h.box⟩, ⟨cell_of_row w q2 0 _ _ _ h.res, cell_of_row w q2 1 _ _ _ h.res, cell_of_row w q2 2 _ _ _ h.res⟩, frozen_of_row w q2 0 _ _ h.res, frozen_of_row w q2 1 _ _ h.res, frozen_of_row w q2 2 _ _ h.res⟩
theorem AOut.res_cells (h : AOut w0 w Bc g q2 q4 L0 L ph nm bv bl) : w.cell? ⟨q2, 0, none⟩ = some (.int .i64 0) ∧ w.cell? ⟨q2, 1, none⟩ = some (.int .i64 0) ∧ w.cell? ⟨q2, 2, none⟩ = some (.slice none 0 0) ∧ w.frozen? ⟨q2, 0, none⟩ = false ∧ w.frozen? ⟨q2, 1, none⟩ = false ∧ w.frozen? ⟨q2, 2, none⟩ = false :=
  have c := h.cells
  ⟨c.2.1.1, c.2.1.2.1, c.2.1.2.2, c.2.2.1, c.2.2.2.1, c.2.2.2.2⟩
theorem AOut.gives (h : AOut w0 w Bc g q2 q4 L0 L ph nm bv bl) (u0 u1 u2 : Value) : GivesAny w0 Bc g L0 (.returned (.agg #[.int .i64 ph, .int .i64 nm, bv])) (((w.setCell ⟨q2, 0, none⟩ u0).setCell ⟨q2, 1, none⟩ u1).setCell ⟨q2, 2, none⟩ u2) := by
  have hw : Wr (· = [15]) L w (((w.setCell ⟨q2, 0, none⟩ u0).setCell ⟨q2, 1, none⟩ u1).setCell ⟨q2, 2, none⟩ u2) := (((Wr.refl _ _ _).set (fun _ => h.l2) _ _).set (fun _ => h.l2) _ _).set (fun _ => h.l2) _ _
  have hlt : ∀ P : Prop, q2 < w0.heap.size → P := fun P hlt => by have := h.hq; omega
  refine ⟨L, ⟨ph, nm, bl⟩, _, rfl, h.ext, ((h.wr.set (hlt _) _ _).set (hlt _) _ _).set (hlt _) _ _, h.sta.keep hw (LExt.refl _ _) (by simp) (by simp), ?_, h.len⟩
  have hE : EFun w (Zr w0.heap.size L w) ⟨ph, nm, bl⟩ (.agg #[.int .i64 ph, .int .i64 nm, bv]) := ⟨_, rfl, h.rows⟩
  exact hE.keep ⟨fun b hb => ⟨hb.1, Nat.lt_of_lt_of_le hb.2.1 hw.size⟩, fun _ => rfl, fun b hb => hw.block b hb.2.1 hb.2.2⟩

theorem AOut.drew (h : AOut w0 w Bc g q2 q4 L0 L ph nm bv bl) : AOut w0 w.drew Bc g q2 q4 L0 L ph nm bv bl :=
  have hk : Kept (Zr w0.heap.size L w) (Zr w0.heap.size L w.drew) w w.drew := ⟨fun _ hb => hb, fun _ => rfl, fun _ _ => rfl⟩
  ⟨h.ext, h.wr.drew, h.sta.keep (wr_drew w L) (LExt.refl _ _) (fun h => h) (fun h => h), h.rows.keep hk fun _ _ h => h.keep hk, h.box, h.res, h.l2, h.hq, h.len⟩

theorem GSt.setPh (h : GSt w0 w Bc g q2 q4 L0 L ph nm bv bl) (ph' : Int) : GSt w0 (w.setCell ⟨q4, 0, none⟩ (.int .i64 ph')) Bc g q2 q4 L0 L ph' nm bv bl := by
  have hw : Wr (· = [17]) L w (w.setCell ⟨q4, 0, none⟩ (.int .i64 ph')) := (Wr.refl _ _ _).set (fun _ => h.l4) _ _
  exact ⟨h.ext, h.wr.set (fun hlt => by have := h.hq; omega) _ _, h.sta.keep hw (LExt.refl _ _) (by simp) (by simp), h.rows.keep hw (LExt.refl _ _) fun p hp => by
    subst hp; exact ⟨by simp, fun i => ⟨by simp, by simp, by simp, by simp, fun j => by simp⟩⟩, heap_setCell_same w q4 0 _ _ _ h.box, (hw.block q2 h.lt.1 (by rw [h.l2]; simp)).trans h.res, h.l2, h.l4, h.hq⟩
end

section
variable {w0 w w' : World} {Bc g q2 q4 G n c b : Nat} {L0 L L' : Nat → List Nat} {ph nm : Int} {bl : List BlockD} {x : BlockD}
theorem GSt.block (h : GSt w0 w Bc g q2 q4 L0 L ph nm (.slice (some ⟨G, 0, none⟩) n c) bl) (hx : bl[b]? = some x) : ∃ v0 v2 v3,
    (w.cell? ⟨G, b * 8, none⟩ = some v0 ∧ w.frozen? ⟨G, b * 8, none⟩ = false ∧ LR w w0.heap.size 94 2 L [1, b] (EPhiL w w0.heap.size L b) v0 x.phis) ∧
    (w.cell? ⟨G, b * 8 + 2, none⟩ = some v2 ∧ w.frozen? ⟨G, b * 8 + 2, none⟩ = false ∧ LR w w0.heap.size 91 4 L [3, b] (fun _ => EIns) v2 x.body) ∧
    (w.cell? ⟨G, b * 8 + 3, none⟩ = some v3 ∧ w.frozen? ⟨G, b * 8 + 3, none⟩ = false ∧ LR w w0.heap.size 89 2 L [4, b] (fun _ => EMove) v3 x.tail) ∧
    ((∃ z, w.cell? ⟨G, b * 8 + 4, none⟩ = some z) ∧ w.frozen? ⟨G, b * 8 + 4, none⟩ = false) ∧ ((∃ z, w.cell? ⟨G, b * 8 + 5, none⟩ = some z) ∧ w.frozen? ⟨G, b * 8 + 5, none⟩ = false) ∧ ((∃ z, w.cell? ⟨G, b * 8 + 6, none⟩ = some z) ∧ w.frozen? ⟨G, b * 8 + 6, none⟩ = false) := by
  obtain ⟨cs, ⟨v0, v1, v2, v3, rfl, r0, r1, r2, r3⟩, _, hc⟩ := LR.get h.rows hx
  exact ⟨v0, v2, v3, ⟨(hc 0 _ rfl).1, (hc 0 _ rfl).2, r0⟩, ⟨(hc 2 _ rfl).1, (hc 2 _ rfl).2, r2⟩, ⟨(hc 3 _ rfl).1, (hc 3 _ rfl).2, r3⟩, ⟨⟨_, (hc 4 _ rfl).1⟩, (hc 4 _ rfl).2⟩, ⟨⟨_, (hc 5 _ rfl).1⟩, (hc 5 _ rfl).2⟩, ⟨⟨_, (hc 6 _ rfl).1⟩, (hc 6 _ rfl).2⟩⟩

theorem GSt.putEnd (h : GSt w0 w Bc g q2 q4 L0 L ph nm (.slice (some ⟨G, 0, none⟩) n c) bl) (hx : bl[b]? = some x) {j : Nat} (hj : j < 4) {z : Int} {e : EndD}
    (he : ([.int .i64 x.fin.k, .int .i64 x.fin.a, .int .i64 x.fin.t, .int .i64 x.fin.l] : List Value).set j (.int .i64 z) = [.int .i64 e.k, .int .i64 e.a, .int .i64 e.t, .int .i64 e.l]) :
    GSt w0 (w.setCell ⟨G, b * 8 + (4 + j), none⟩ (.int .i64 z)) Bc g q2 q4 L0 L ph nm (.slice (some ⟨G, 0, none⟩) n c) (bl.set b { x with fin := e }) :=
  h.fill (P := (· = [0])) (wr_set0 h.rows.lab.2) (LExt.refl _ _) (by simp) (by simp) (by simp) (h.sta.keep (wr_set0 h.rows.lab.2) (LExt.refl _ _) (by simp) (by simp)) (h.rows.setEnd hx hj he)

theorem GSt.addIns {gg cap : Nat} {i : InsD} {wa w9 : World} (h : GSt w0 w Bc g q2 q4 L0 L ph nm (.slice (some ⟨G, 0, none⟩) n c) bl) (hx : bl[b]? = some x) (hwa : Wr (fun _ => False) L w wa)
    (hs : Snoc wa w9 w0.heap.size 91 4 L [3, b] (fun _ => EIns) x.body [.int .i64 i.op, .int .i64 i.v, .int .i64 i.a, .int .i64 i.b] gg cap) :
    GSt w0 (w9.setCell ⟨G, b * 8 + 2, none⟩ (.slice (some ⟨gg, 0, none⟩) (x.body.length + 1) cap)) Bc g q2 q4 L0 (relab L wa.heap.size [3, b]) ph nm (.slice (some ⟨G, 0, none⟩) n c) (bl.set b { x with body := x.body ++ [i] }) := by
  have hLa : LExt wa L (relab L wa.heap.size [3, b]) := relab_ext _ _ _
  have hL : LExt w L (relab L wa.heap.size [3, b]) := fun j hj => hLa j (Nat.lt_of_lt_of_le hj hwa.size)
  have hw : Wr (· = [3, b]) L w w9 := (hwa.mono fun _ h => h.elim).trans hs.wr (LExt.refl _ _)
  have hG := h.rows.lab
  have hw2 : Wr (fun p => p = [0] ∨ p = [3, b]) L w (w9.setCell ⟨G, b * 8 + 2, none⟩ (.slice (some ⟨gg, 0, none⟩) (x.body.length + 1) cap)) := (hw.mono fun _ h => .inr h).set (fun _ => .inl hG.2) _ _
  have hrow := hs.lr (fun _ => EIns) i (fun _ _ _ h => h) rfl
  exact h.fill hw2 hL (by simp) (by simp) (by simp) (h.sta.keep hw2 hL (by simp) (by simp)) (h.rows.setBody hx hw hL hrow)

theorem GSt.addMove {gg cap : Nat} {i : MoveD} {wa w9 : World} (h : GSt w0 w Bc g q2 q4 L0 L ph nm (.slice (some ⟨G, 0, none⟩) n c) bl) (hx : bl[b]? = some x) (hwa : Wr (fun _ => False) L w wa)
    (hs : Snoc wa w9 w0.heap.size 89 2 L [4, b] (fun _ => EMove) x.tail [.int .i64 i.dst, .int .i64 i.src] gg cap) :
    GSt w0 (w9.setCell ⟨G, b * 8 + 3, none⟩ (.slice (some ⟨gg, 0, none⟩) (x.tail.length + 1) cap)) Bc g q2 q4 L0 (relab L wa.heap.size [4, b]) ph nm (.slice (some ⟨G, 0, none⟩) n c) (bl.set b { x with tail := x.tail ++ [i] }) := by
  have hLa : LExt wa L (relab L wa.heap.size [4, b]) := relab_ext _ _ _
  have hL : LExt w L (relab L wa.heap.size [4, b]) := fun j hj => hLa j (Nat.lt_of_lt_of_le hj hwa.size)
  have hw : Wr (· = [4, b]) L w w9 := (hwa.mono fun _ h => h.elim).trans hs.wr (LExt.refl _ _)
  have hG := h.rows.lab
  have hw2 : Wr (fun p => p = [0] ∨ p = [4, b]) L w (w9.setCell ⟨G, b * 8 + 3, none⟩ (.slice (some ⟨gg, 0, none⟩) (x.tail.length + 1) cap)) := (hw.mono fun _ h => .inr h).set (fun _ => .inl hG.2) _ _
  have hrow := hs.lr (fun _ => EMove) i (fun _ _ _ h => h) rfl
  exact h.fill hw2 hL (by simp) (by simp) (by simp) (h.sta.keep hw2 hL (by simp) (by simp)) (h.rows.setTail hx hw hL hrow)

theorem GSt.addPhi {gg cap : Nat} {var : Int} {pa : List Int} {u : Value} {wa w9 : World} (h : GSt w0 w Bc g q2 q4 L0 L ph nm (.slice (some ⟨G, 0, none⟩) n c) bl) (hx : bl[b]? = some x) (hu : LR w w0.heap.size 2 1 L [5, b, x.phis.length] (fun _ => EInt) u pa) (hwa : Wr (fun _ => False) L w wa)
    (hs : Snoc wa w9 w0.heap.size 94 2 L [1, b] (EPhiL wa w0.heap.size L b) x.phis [.int .i64 var, u] gg cap) :
    GSt w0 (w9.setCell ⟨G, b * 8, none⟩ (.slice (some ⟨gg, 0, none⟩) (x.phis.length + 1) cap)) Bc g q2 q4 L0 (relab L wa.heap.size [1, b]) ph nm (.slice (some ⟨G, 0, none⟩) n c) (bl.set b { x with phis := x.phis ++ [⟨var, pa⟩] }) := by
  have hLa : LExt wa L (relab L wa.heap.size [1, b]) := relab_ext _ _ _
  have hL : LExt w L (relab L wa.heap.size [1, b]) := fun j hj => hLa j (Nat.lt_of_lt_of_le hj hwa.size)
  have hw : Wr (· = [1, b]) L w w9 := (hwa.mono fun _ h => h.elim).trans hs.wr (LExt.refl _ _)
  have hG := h.rows.lab
  have hw2 : Wr (fun p => p = [0] ∨ p = [1, b]) L w (w9.setCell ⟨G, b * 8, none⟩ (.slice (some ⟨gg, 0, none⟩) (x.phis.length + 1) cap)) := (hw.mono fun _ h => .inr h).set (fun _ => .inl hG.2) _ _
  have hrow := hs.lr (EPhiL w9 w0.heap.size (relab L wa.heap.size [1, b]) b) ⟨var, pa⟩ (fun j z ds hz => hz.keep hs.wr hLa (by simp)) ⟨u, rfl, hu.keep hw hL (by simp) fun _ _ _ h => h⟩
  exact h.fill hw2 hL (by simp) (by simp) (by simp) (h.sta.keep hw2 hL (by simp) (by simp)) (h.rows.setPhis hx hw hL hrow)

theorem GSt.args {bv : Value} {k : Nat} {o : Obj} {w1 : World} (h : GSt w0 w1 Bc g q2 q4 L0 L ph nm bv bl) (hL : LExt w1 L (relab L w1.heap.size [5, b, k])) (hw : Wr (fun _ => False) L w1 (w1.alloc o)) : GSt w0 (w1.alloc o) Bc g q2 q4 L0 (relab L w1.heap.size [5, b, k]) ph nm bv bl :=
  h.row hw hL fun _ h => h.elim
theorem phisG {B : Nat} {v : Value} {X : List PhiD} {P : List Nat → Prop} (h : LR w B 94 2 L [1, b] (EPhiL w B L b) v X) (hw : Wr P L w w') (hL : LExt w L L') (h1 : ¬ P [1, b] := by simp) (h5 : ∀ j, ¬ P [5, b, j] := by simp) : LR w' B 94 2 L' [1, b] (EPhiL w' B L' b) v X :=
  h.keep hw hL h1 fun j _ _ h => h.keep hw hL (h5 j)
theorem lit2 {B : Nat} {p : List Nat} (w : World) (x0 x1 : Int) (hB : B ≤ w.heap.size) (hL : L w.heap.size = p) : LR (w.alloc (.cells #[.int .i64 x0, .int .i64 x1] 2)) B 2 1 L p (fun _ => EInt) (.slice (some ⟨w.heap.size, 0, none⟩) 2 2) [x0, x1] := by
  refine ⟨[.int .i64 x0, .int .i64 x1], ⟨rfl, .inr ⟨w.heap.size, 2, _, rfl, hB, heap_alloc_new w _, Nat.le_refl _, by rw [maxLen_is]; decide, ?_, ?_⟩⟩, fun g hg => by simp [Value.ownBlock] at hg; subst hg; exact hL, fun k x hx => ?_⟩
  · simp
  · simp
  · rcases k with _ | _ | k
    · simp at hx; subst hx; exact ⟨_, rfl, rfl, fun j u hu => by rcases j with _ | j <;> simp at hu ⊢; exact hu⟩
    · simp at hx; subst hx; exact ⟨_, rfl, rfl, fun j u hu => by rcases j with _ | j <;> simp at hu ⊢; exact hu⟩
    · simp at hx
theorem LR.room {α : Type} {B : Nat} {T : TypeId} {S : Nat} {p : List Nat} {E : Nat → α → List Value → Prop} {v : Value} {X : List α} {y : α} {r : List α} (h : LR w B T S L p E v X) (hX : X = y :: r) : ∃ gb cb, v = .slice (some ⟨gb, 0, none⟩) (r.length + 1) cb ∧ r.length + 1 ≤ cb := by
  obtain ⟨xs, h1, _⟩ := h
  subst hX
  rcases h1.2 with ⟨_, h4⟩ | ⟨g', cap, cur, rfl, _, _, h5, _⟩
  · simp at h4
  · exact ⟨g', cap, rfl, by simpa using h5⟩

/-- The first instruction of a block is left out. -/
theorem GSt.dropIns {gb cb : Nat} {A : Option Addr} {i : InsD} {rest : List InsD} (hA : rest ≠ [] → A = some ⟨gb, 4, none⟩) (h : GSt w0 w Bc g q2 q4 L0 L ph nm (.slice (some ⟨G, 0, none⟩) n c) bl) (hx : bl[b]? = some x) (hb : x.body = i :: rest) (hl : bl.length ≤ 7)
    (hr : LR w w0.heap.size 91 4 L [3, b] (fun _ => EIns) (.slice (some ⟨gb, 0, none⟩) x.body.length cb) x.body) :
    AOut w0 (w.setCell ⟨G, b * 8 + 2, none⟩ (.slice A rest.length (cb - 1))) Bc g q2 q4 L0 L ph nm (.slice (some ⟨G, 0, none⟩) n c) (bl.set b { x with body := rest }) := by
  have hG := h.rows.lab
  have hw : Wr (· = [0]) L w (w.setCell ⟨G, b * 8 + 2, none⟩ (.slice A rest.length (cb - 1))) := wr_set0 hG.2
  have hZ : ∀ k, (Zr w0.heap.size L w).D k → (Zr w0.heap.size L (w.setCell ⟨G, b * 8 + 2, none⟩ (.slice A rest.length (cb - 1)))).D k := fun k hk => ⟨hk.1, Nat.lt_of_lt_of_le hk.2.1 hw.size, hk.2.2⟩
  obtain ⟨hl2, hl4⟩ := h.lt
  refine ⟨h.ext, h.wr.trans (hw.mono fun p hp => by rw [hp]; simp) h.ext, h.sta.keep hw (LExt.refl _ _) (by simp) (by simp), ?_, (hw.block q4 hl4 (by rw [h.l4]; simp)).trans h.box, (hw.block q2 hl2 (by rw [h.l2]; simp)).trans h.res, h.l2, h.hq.1, by simpa using hl⟩
  have hrow : LR (w.setCell ⟨G, b * 8 + 2, none⟩ (.slice A rest.length (cb - 1))) w0.heap.size 71 8 L [0] (fun _ => EBlock (w.setCell ⟨G, b * 8 + 2, none⟩ (.slice A rest.length (cb - 1))) (Zr w0.heap.size L (w.setCell ⟨G, b * 8 + 2, none⟩ (.slice A rest.length (cb - 1))))) (.slice (some ⟨G, 0, none⟩) n c) (bl.set b { x with body := rest }) := by
    refine LR.set h.rows hx (by omega) (fun cs hcs _ _ => ?_) fun i z ds hi hz => (hz.keep hw (LExt.refl _ _) fun p hp => by subst hp; exact notB0 i).rowZ
    have hk := hcs.keep hw (LExt.refl _ _) fun p hp => by subst hp; exact notB0 b
    obtain ⟨v0, v1, v2, v3, rfl, r0, r1, r2, r3⟩ := hk.rowZ
    refine ⟨v0, v1, _, v3, rfl, r0, r1, ?_, r3⟩
    have hr2 := hr.keep (E' := fun _ => EIns) hw (LExt.refl _ _) (by simp) fun _ _ _ h => h
    have hgb := (World.ownsRow.lt hr2.choose_spec.1 gb rfl)
    have hlb := hr2.choose_spec.2.1 gb rfl
    refine ⟨by have := hr2.len; rw [hb] at this; simp at this; show rest.length ≤ _; omega, _, _, rfl, fun hne => ⟨gb, 4, hA hne, ⟨hgb.1, hgb.2, by rw [hlb]; simp⟩, fun k y hy => ?_⟩⟩
    obtain ⟨cs, hE, _, hc⟩ := hr2.get (k := k + 1) (x := y) (by rw [hb]; simpa using hy)
    refine ⟨cs, hE, fun j u hu => ?_⟩
    have h1 := hc j u hu
    rw [show (k + 1) * 4 + j = 4 + k * 4 + j by omega] at h1
    exact ⟨h1.1, fun _ => h1.2⟩
  exact LR.rowL hrow (fun k h1 h2 h3 => ⟨h1, h2, by rw [h3]; simp⟩) fun _ _ _ h => h
end
end

/- The drawing of an instruction. -/
section
open Go.ChangeShapes Go.WideShapes Go.ChangeAt Go.RowKit Go.Joins

/-- Block q is the four integers of an impl.Ins. -/
def InsB (w : World) (q : Nat) (o v a b : Int) : Prop := w.heap[q]? = some (.cells #[.int .i64 o, .int .i64 v, .int .i64 a, .int .i64 b] 91 (0, 0))
theorem InsB.lt {w : World} {q : Nat} {o v a b : Int} (h : InsB w q o v a b) : q < w.heap.size := by
  unfold InsB at h
  rcases Nat.lt_or_ge q w.heap.size with hlt | hge
  · exact hlt
  · rw [Array.getElem?_eq_none hge] at h; cases h
theorem InsB.cells {w : World} {q : Nat} {o v a b : Int} (h : InsB w q o v a b) :
    (w.cell? ⟨q, 0, none⟩ = some (.int .i64 o) ∧ w.cell? ⟨q, 1, none⟩ = some (.int .i64 v) ∧ w.cell? ⟨q, 2, none⟩ = some (.int .i64 a) ∧ w.cell? ⟨q, 3, none⟩ = some (.int .i64 b)) ∧
    (w.frozen? ⟨q, 0, none⟩ = false ∧ w.frozen? ⟨q, 1, none⟩ = false ∧ w.frozen? ⟨q, 2, none⟩ = false ∧ w.frozen? ⟨q, 3, none⟩ = false) :=
  ⟨⟨cell_of_row w q 0 _ _ _ h, cell_of_row w q 1 _ _ _ h, cell_of_row w q 2 _ _ _ h, cell_of_row w q 3 _ _ _ h⟩, ⟨frozen_of_row w q 0 _ _ h, frozen_of_row w q 1 _ _ h, frozen_of_row w q 2 _ _ h, frozen_of_row w q 3 _ _ h⟩⟩
theorem InsB.grown {w w1 : World} {q g : Nat} {o v a b : Int} (h : InsB w q o v a b) (hg : w.grownBy w1 (some g)) (hne : q ≠ g) : InsB w1 q o v a b :=
  (hg.block q h.lt (fun e => hne (by injection e))).trans h

theorem grown_new {w w1 : World} {r : Option Nat} (h : w.grownBy w1 r) {p : Nat} (hp : w.heap.size ≤ p) (j : Nat) (u : Value) : w.grownBy (w1.setCell ⟨p, j, none⟩ u) r :=
  ⟨h.os, h.tape, h.output, by simpa [World.setCell] using h.size, fun k hk hne => (Below.heap_setCell w1 ⟨p, j, none⟩ u k (show k ≠ p by omega)).trans (h.block k hk hne)⟩
theorem cur_set {w : World} {B g : Nat} (h : Cur w B g) {p : Nat} (hp : p ≠ g) (hB : B ≤ p) (j : Nat) (u : Value) : Cur (w.setCell ⟨p, j, none⟩ u) B g := by
  obtain ⟨hB', v, n, i, k, hv, hi, hg⟩ := h
  exact ⟨hB', v, n, i, k, hv.keep fun b o' hb => World.cell?_of_block (Below.heap_setCell w ⟨p, j, none⟩ u b (show b ≠ p by omega)), hi, (Below.heap_setCell w ⟨p, j, none⟩ u g (fun e => hp e.symm)).trans hg⟩

def GivesIns (B g : Nat) (w : World) (e : Ending) (w' : World) : Prop := ∃ o v a b : Int, e = .returned (.agg #[.int .i64 o, .int .i64 v, .int .i64 a, .int .i64 b]) ∧ Cur w' B g ∧ w.grownBy w' (some g)

set_option maxHeartbeats 1000000 in
theorem l1DrawIns_any (B g : Nat) (w : World) (hc : Cur w B g) :
    Calls Tryd.prog 55 #[.pointer (some ⟨g, 0, none⟩)] w (GivesIns B g w) := by
  have HC := Lib.hid hc
  clear hc
  have hgl := cur_lt HC.out
  have hBl := cur_le HC.out
  go_enter Tryd.func55, Tryd.ntmps55
  go_wp2_with fail
  refine (l1Below_any B g _ _ (cur_alloc HC.out _)).mono ?_
  rintro e w1 ⟨x, rfl, hx0, hx1, hc1, HG1⟩
  have HC1 := Lib.hid hc1
  clear hc1
  go_wp2_with fail
  refine (l1Below_any B g _ _ HC1.out).mono ?_
  rintro e w2 ⟨y, rfl, hy0, hy1, hc2, HG2⟩
  have HC2 := Lib.hid hc2
  clear hc2
  go_wp2_with fail
  refine (l1Below_any B g _ _ HC2.out).mono ?_
  rintro e w3 ⟨z, rfl, hz0, hz1, hc3, HG3⟩
  have HC3 := Lib.hid hc3
  clear hc3
  have hR : InsB (w.alloc (.cells #[.int .i64 0, .int .i64 0, .int .i64 0, .int .i64 0] 91)) w.heap.size 0 0 0 0 := heap_alloc_new w _
  have hR3 := ((hR.grown HG1 (by omega)).grown HG2 (by omega)).grown HG3 (by omega)
  have hl3 := hR3.lt
  have HW3 := Lib.hid ((grown_of_alloc HG1).trans HG2 |>.trans HG3)
  have HR3 := Lib.hid hR3
  clear hR hR3 HG1 HG2 HG3
  by_cases hx : 3 ≤ 1 + x ∧ 1 + x ≤ 6
  · obtain ⟨hxa, hxb⟩ := hx
    have hx7 : (1 + x == 7) = false := by simp; omega
    go_wp2_with fail
    refine (l1Below_any B g _ _ (cur_alloc HC3.out _)).mono ?_
    rintro e w4 ⟨b, rfl, hb0, hb1, hc4, HG4⟩
    have HC4 := Lib.hid hc4
    clear hc4
    have hV : InsB (w3.alloc (.cells #[.int .i64 (1 + x), .int .i64 y, .int .i64 z, .int .i64 0] 91)) w3.heap.size (1 + x) y z 0 := heap_alloc_new w3 _
    have hV4 := hV.grown HG4 (by omega)
    have hR4 := HR3.out.grown (grown_of_alloc HG4) (by omega)
    have hl4 := hV4.lt
    obtain ⟨⟨p0, p1, p2, p3⟩, ⟨q0, q1, q2, q3⟩⟩ := hR4.cells
    obtain ⟨⟨s0, s1, s2, s3⟩, ⟨t0, t1, t2, t3⟩⟩ := hV4.cells
    have HW4 := Lib.hid (HW3.out.trans (grown_of_alloc HG4))
    clear hV hV4 hR4 HG4
    go_wp2_with fail
    refine bodyPost_ret (v := .agg #[.int .i64 (1 + x), .int .i64 y, .int .i64 z, .int .i64 b]) (by simp [results, Tryd.results55, go_sem, p0, p1, p2, p3]) rfl ⟨_, _, _, _, rfl, ?_, ?_⟩
    · repeat (first | with_reducible exact HC4.out | with_reducible refine cur_alloc ?_ _ | with_reducible refine cur_set ?_ (by omega) (by omega) _ _)
    · repeat (first | with_reducible exact HW4.out | with_reducible refine grown_alloc ?_ _ | with_reducible refine grown_new ?_ (by omega) _ _)
  · by_cases hx7 : 1 + x = 7
    · obtain rfl : x = 6 := by omega
      clear hx hx7
      have hV : InsB (w3.alloc (.cells #[.int .i64 7, .int .i64 y, .int .i64 z, .int .i64 0] 91)) w3.heap.size 7 y z 0 := heap_alloc_new w3 _
      have hR4 : InsB (w3.alloc (.cells #[.int .i64 7, .int .i64 y, .int .i64 z, .int .i64 0] 91)) w.heap.size 0 0 0 0 := (Below.heap_alloc w3 _ _ hl3).trans HR3.out
      obtain ⟨⟨p0, p1, p2, p3⟩, ⟨q0, q1, q2, q3⟩⟩ := HR3.out.cells
      clear hV hR4
      go_wp2_with fail
      refine bodyPost_ret (v := .agg #[.int .i64 7, .int .i64 (-1), .int .i64 z, .int .i64 0]) (by simp [results, Tryd.results55, go_sem, p0, p1, p2, p3, hl3]) rfl ⟨_, _, _, _, rfl, ?_, ?_⟩
      · repeat (first | with_reducible exact HC3.out | with_reducible refine cur_alloc ?_ _ | with_reducible refine cur_set ?_ (by omega) (by omega) _ _)
      · repeat (first | with_reducible exact HW3.out | with_reducible refine grown_alloc ?_ _ | with_reducible refine grown_new ?_ (by omega) _ _)
    · have hx7' : (1 + x == 7) = false := by simpa using hx7
      have hx3 : 1 + x < 3 := by omega
      clear hx hx7
      have hV : InsB (w3.alloc (.cells #[.int .i64 (1 + x), .int .i64 y, .int .i64 z, .int .i64 0] 91)) w3.heap.size (1 + x) y z 0 := heap_alloc_new w3 _
      have hR4 : InsB (w3.alloc (.cells #[.int .i64 (1 + x), .int .i64 y, .int .i64 z, .int .i64 0] 91)) w.heap.size 0 0 0 0 := (Below.heap_alloc w3 _ _ hl3).trans HR3.out
      obtain ⟨⟨p0, p1, p2, p3⟩, ⟨q0, q1, q2, q3⟩⟩ := HR3.out.cells
      clear hV hR4
      go_wp2_with fail
      refine bodyPost_ret (v := .agg #[.int .i64 (1 + x), .int .i64 y, .int .i64 z, .int .i64 0]) (by simp [results, Tryd.results55, go_sem, p0, p1, p2, p3, hl3]) rfl ⟨_, _, _, _, rfl, ?_, ?_⟩
      · repeat (first | with_reducible exact HC3.out | with_reducible refine cur_alloc ?_ _ | with_reducible refine cur_set ?_ (by omega) (by omega) _ _)
      · repeat (first | with_reducible exact HW3.out | with_reducible refine grown_alloc ?_ _ | with_reducible refine grown_new ?_ (by omega) _ _)
end

end Go.Proofs.YteikpekffgifoaaDoor
