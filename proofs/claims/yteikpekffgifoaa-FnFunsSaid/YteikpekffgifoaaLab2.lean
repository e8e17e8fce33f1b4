/- The blocks of a function that is being drawn. -/
import Derived.Test.YteikpekffgifoaaLab
namespace Go.Proofs.Yteikpekffgifoaa
open Go.ChangeShapes Go.WideShapes Go.ChangeAt Go.RowKit Go.Joins

def EPhiL (w : World) (B : Nat) (L : Nat → List Nat) (i j : Nat) (p : PhiD) (cs : List Value) : Prop := ∃ u, cs = [.int .i64 p.v, u] ∧ LR w B 2 1 L [5, i, j] (fun _ => EInt) u p.args
def EBlockL (w : World) (B : Nat) (L : Nat → List Nat) (i : Nat) (x : BlockD) (cs : List Value) : Prop :=
  ∃ v0 v1 v2 v3, cs = [v0, v1, v2, v3, .int .i64 x.fin.k, .int .i64 x.fin.a, .int .i64 x.fin.t, .int .i64 x.fin.l] ∧
    LR w B 104 2 L [1, i] (EPhiL w B L i) v0 x.phis ∧ LR w B 99 2 L [2, i] (fun _ => EMove) v1 x.head ∧ LR w B 101 4 L [3, i] (fun _ => EIns) v2 x.body ∧ LR w B 99 2 L [4, i] (fun _ => EMove) v3 x.tail
def LBl (w : World) (B : Nat) (L : Nat → List Nat) (v : Value) (xs : List BlockD) : Prop := LR w B 43 8 L [0] (EBlockL w B L) v xs

/-- No label of the rows of block i. -/
def NotB (i : Nat) (p : List Nat) : Prop := p ≠ [1, i] ∧ p ≠ [2, i] ∧ p ≠ [3, i] ∧ p ≠ [4, i] ∧ ∀ j, p ≠ [5, i, j]

section
variable {w w' : World} {B : Nat} {L L' : Nat → List Nat} {P : List Nat → Prop} {v : Value} {xs : List BlockD}
theorem EPhiL.keep {i j : Nat} {p : PhiD} {cs : List Value} (h : EPhiL w B L i j p cs) (hw : Wr P L w w') (hL : LExt w L L') (hP : ¬ P [5, i, j]) : EPhiL w' B L' i j p cs := by
  obtain ⟨u, rfl, h1⟩ := h
  exact ⟨u, rfl, h1.keep hw hL hP fun _ _ _ h => h⟩
theorem EBlockL.keep {i : Nat} {x : BlockD} {cs : List Value} (h : EBlockL w B L i x cs) (hw : Wr P L w w') (hL : LExt w L L') (hP : ∀ p, P p → NotB i p) : EBlockL w' B L' i x cs := by
  obtain ⟨v0, v1, v2, v3, rfl, h0, h1, h2, h3⟩ := h
  exact ⟨v0, v1, v2, v3, rfl, h0.keep hw hL (fun h => (hP _ h).1 rfl) fun j _ _ h => h.keep hw hL fun h => (hP _ h).2.2.2.2 j rfl, h1.keep hw hL (fun h => (hP _ h).2.1 rfl) fun _ _ _ h => h,
    h2.keep hw hL (fun h => (hP _ h).2.2.1 rfl) fun _ _ _ h => h, h3.keep hw hL (fun h => (hP _ h).2.2.2.1 rfl) fun _ _ _ h => h⟩
theorem LBl.keep (h : LBl w B L v xs) (hw : Wr P L w w') (hL : LExt w L L') (hP : ∀ p, P p → p ≠ [0] ∧ ∀ i, NotB i p) : LBl w' B L' v xs :=
  LR.keep h hw hL (fun h => (hP _ h).1 rfl) fun i _ _ h => h.keep hw hL fun p hp => (hP p hp).2 i

/-- What is written of one block. -/
theorem LBl.upd {w1 : World} {n c G b j : Nat} {x y : BlockD} {u : Value} (h : LBl w B L (.slice (some ⟨G, 0, none⟩) n c) xs) (hx : xs[b]? = some x) (hj : j < 8) (hw : Wr P L w w1) (hL : LExt w L L') (hP : ∀ p, P p → p ≠ [0] ∧ ∀ i, i ≠ b → NotB i p)
    (hy : ∀ cs, EBlockL w B L b x cs → EBlockL (w1.setCell ⟨G, b * 8 + j, none⟩ u) B L' b y (cs.set j u)) : LBl (w1.setCell ⟨G, b * 8 + j, none⟩ u) B L' (.slice (some ⟨G, 0, none⟩) n c) (xs.set b y) := by
  have hG : ∀ g, (Value.slice (some ⟨G, 0, none⟩) n c).ownBlock = some g → g < w.heap.size ∧ L g = [0] := by
    obtain ⟨ys, h1, h2, _⟩ := h
    exact fun g hg => ⟨(World.ownsRow.lt h1 g hg).2, h2 g hg⟩
  obtain ⟨hGl, hG0⟩ := hG G rfl
  have hw2 : Wr (fun p => P p ∨ p = [0]) L w (w1.setCell ⟨G, b * 8 + j, none⟩ u) := (hw.mono fun _ h => .inl h).set (fun _ => .inr hG0) _ _
  have h1 : LR w1 B 43 8 L' [0] (fun i z cs => (i ≠ b → EBlockL (w1.setCell ⟨G, b * 8 + j, none⟩ u) B L' i z cs) ∧ (i = b → EBlockL w B L b z cs)) (.slice (some ⟨G, 0, none⟩) n c) xs :=
    LR.keep h hw hL (fun h => (hP _ h).1 rfl) fun i z cs hz => ⟨fun hi => hz.keep hw2 hL fun p hp => by
      rcases hp with hp | rfl
      · exact (hP p hp).2 i hi
      · exact ⟨by simp, by simp, by simp, by simp, fun j => by simp⟩, fun hi => by subst hi; exact hz⟩
  exact h1.set hx hj (fun cs hcs _ _ => hy cs (hcs.2 rfl)) fun i z ds hi hz => hz.1 hi

theorem wr_set0 {w1 : World} {G o : Nat} {u : Value} (hG0 : L G = [0]) : Wr (· = [0]) L w1 (w1.setCell ⟨G, o, none⟩ u) := (Wr.refl _ L w1).set (fun _ => hG0) _ _
theorem notB0 (i : Nat) : NotB i [0] := ⟨by simp, by simp, by simp, by simp, fun j => by simp⟩

theorem LBl.lab {n c G : Nat} (h : LBl w B L (.slice (some ⟨G, 0, none⟩) n c) xs) : G < w.heap.size ∧ L G = [0] := by
  obtain ⟨ys, h1, h2, _⟩ := h
  exact ⟨(World.ownsRow.lt h1 G rfl).2, h2 G rfl⟩

theorem notB_other {a b i : Nat} (h : i ≠ b) : NotB i [a, b] := ⟨by simp; intro _ e; exact h e.symm, by simp; intro _ e; exact h e.symm, by simp; intro _ e; exact h e.symm, by simp; intro _ e; exact h e.symm, fun j => by simp⟩

theorem LBl.setBody {w1 : World} {n c G b : Nat} {x : BlockD} {u : Value} {body : List InsD} (h : LBl w B L (.slice (some ⟨G, 0, none⟩) n c) xs) (hx : xs[b]? = some x) (hw : Wr (· = [3, b]) L w w1) (hL : LExt w L L')
    (hr : LR w1 B 101 4 L' [3, b] (fun _ => EIns) u body) : LBl (w1.setCell ⟨G, b * 8 + 2, none⟩ u) B L' (.slice (some ⟨G, 0, none⟩) n c) (xs.set b { x with body := body }) := by
  obtain ⟨hGl, hG0⟩ := h.lab
  have hG0' : L' G = [0] := (hL G hGl).trans hG0
  have hw2 : Wr (fun p => p = [3, b] ∨ p = [0]) L w (w1.setCell ⟨G, b * 8 + 2, none⟩ u) := (hw.mono fun _ h => .inl h).set (fun _ => .inr hG0) _ _
  refine h.upd hx (by omega) hw hL (fun p hp => by subst hp; exact ⟨by simp, fun i hi => notB_other hi⟩) fun cs hcs => ?_
  obtain ⟨v0, v1, v2, v3, rfl, r0, r1, r2, r3⟩ := hcs
  exact ⟨v0, v1, u, v3, rfl, r0.keep hw2 hL (by simp) fun j _ _ h => h.keep hw2 hL (by simp), r1.keep hw2 hL (by simp) fun _ _ _ h => h, hr.keep (wr_set0 hG0') (LExt.refl _ _) (by simp) fun _ _ _ h => h, r3.keep hw2 hL (by simp) fun _ _ _ h => h⟩

theorem LBl.setTail {w1 : World} {n c G b : Nat} {x : BlockD} {u : Value} {tail : List MoveD} (h : LBl w B L (.slice (some ⟨G, 0, none⟩) n c) xs) (hx : xs[b]? = some x) (hw : Wr (· = [4, b]) L w w1) (hL : LExt w L L')
    (hr : LR w1 B 99 2 L' [4, b] (fun _ => EMove) u tail) : LBl (w1.setCell ⟨G, b * 8 + 3, none⟩ u) B L' (.slice (some ⟨G, 0, none⟩) n c) (xs.set b { x with tail := tail }) := by
  obtain ⟨hGl, hG0⟩ := h.lab
  have hG0' : L' G = [0] := (hL G hGl).trans hG0
  have hw2 : Wr (fun p => p = [4, b] ∨ p = [0]) L w (w1.setCell ⟨G, b * 8 + 3, none⟩ u) := (hw.mono fun _ h => .inl h).set (fun _ => .inr hG0) _ _
  refine h.upd hx (by omega) hw hL (fun p hp => by subst hp; exact ⟨by simp, fun i hi => notB_other hi⟩) fun cs hcs => ?_
  obtain ⟨v0, v1, v2, v3, rfl, r0, r1, r2, r3⟩ := hcs
  exact ⟨v0, v1, v2, u, rfl, r0.keep hw2 hL (by simp) fun j _ _ h => h.keep hw2 hL (by simp), r1.keep hw2 hL (by simp) fun _ _ _ h => h, r2.keep hw2 hL (by simp) fun _ _ _ h => h, hr.keep (wr_set0 hG0') (LExt.refl _ _) (by simp) fun _ _ _ h => h⟩

theorem LBl.setPhis {w1 : World} {n c G b : Nat} {x : BlockD} {u : Value} {phis : List PhiD} (h : LBl w B L (.slice (some ⟨G, 0, none⟩) n c) xs) (hx : xs[b]? = some x) (hw : Wr (· = [1, b]) L w w1) (hL : LExt w L L')
    (hr : LR w1 B 104 2 L' [1, b] (EPhiL w1 B L' b) u phis) : LBl (w1.setCell ⟨G, b * 8, none⟩ u) B L' (.slice (some ⟨G, 0, none⟩) n c) (xs.set b { x with phis := phis }) := by
  obtain ⟨hGl, hG0⟩ := h.lab
  have hG0' : L' G = [0] := (hL G hGl).trans hG0
  have hw2 : Wr (fun p => p = [1, b] ∨ p = [0]) L w (w1.setCell ⟨G, b * 8, none⟩ u) := (hw.mono fun _ h => .inl h).set (fun _ => .inr hG0) _ _
  refine LBl.upd (j := 0) h hx (by omega) hw hL (fun p hp => by subst hp; exact ⟨by simp, fun i hi => notB_other hi⟩) fun cs hcs => ?_
  obtain ⟨v0, v1, v2, v3, rfl, r0, r1, r2, r3⟩ := hcs
  exact ⟨u, v1, v2, v3, rfl, hr.keep (wr_set0 hG0') (LExt.refl _ _) (by simp) fun j _ _ h => h.keep (wr_set0 hG0') (LExt.refl _ _) (by simp), r1.keep hw2 hL (by simp) fun _ _ _ h => h, r2.keep hw2 hL (by simp) fun _ _ _ h => h, r3.keep hw2 hL (by simp) fun _ _ _ h => h⟩

/-- An End's number is written. -/
theorem LBl.setEnd {n c G b j : Nat} {x : BlockD} {z : Int} {e : EndD} (h : LBl w B L (.slice (some ⟨G, 0, none⟩) n c) xs) (hx : xs[b]? = some x) (hj : j < 4)
    (he : ([.int .i64 x.fin.k, .int .i64 x.fin.a, .int .i64 x.fin.t, .int .i64 x.fin.l] : List Value).set j (.int .i64 z) = [.int .i64 e.k, .int .i64 e.a, .int .i64 e.t, .int .i64 e.l]) :
    LBl (w.setCell ⟨G, b * 8 + (4 + j), none⟩ (.int .i64 z)) B L (.slice (some ⟨G, 0, none⟩) n c) (xs.set b { x with fin := e }) := by
  obtain ⟨hGl, hG0⟩ := h.lab
  refine h.upd (P := fun _ => False) hx (by omega) (Wr.refl _ _ _) (LExt.refl _ _) (fun p hp => hp.elim) fun cs hcs => ?_
  obtain ⟨v0, v1, v2, v3, rfl, r0, r1, r2, r3⟩ := hcs
  have hs : ([v0, v1, v2, v3, .int .i64 x.fin.k, .int .i64 x.fin.a, .int .i64 x.fin.t, .int .i64 x.fin.l] : List Value).set (4 + j) (.int .i64 z) = [v0, v1, v2, v3] ++ ([.int .i64 x.fin.k, .int .i64 x.fin.a, .int .i64 x.fin.t, .int .i64 x.fin.l] : List Value).set j (.int .i64 z) := by
    have : j = 0 ∨ j = 1 ∨ j = 2 ∨ j = 3 := by omega
    rcases this with rfl | rfl | rfl | rfl <;> rfl
  rw [hs, he]
  have hw2 : Wr (· = [0]) L w (w.setCell ⟨G, b * 8 + (4 + j), none⟩ (.int .i64 z)) := wr_set0 hG0
  exact ⟨v0, v1, v2, v3, rfl, r0.keep hw2 (LExt.refl _ _) (by simp) fun j _ _ h => h.keep hw2 (LExt.refl _ _) (by simp), r1.keep hw2 (LExt.refl _ _) (by simp) fun _ _ _ h => h, r2.keep hw2 (LExt.refl _ _) (by simp) fun _ _ _ h => h, r3.keep hw2 (LExt.refl _ _) (by simp) fun _ _ _ h => h⟩

theorem LBl.row {Z : Zn} (h : LBl w B L v xs) (hZ : ∀ k, B ≤ k → k < w.heap.size → Z.D k) : Row w Z 8 (EBlock w Z) v xs :=
  LR.row h hZ fun _ _ cs hcs => by
    obtain ⟨v0, v1, v2, v3, rfl, r0, r1, r2, r3⟩ := hcs
    exact ⟨v0, v1, v2, v3, rfl, r0.row hZ fun _ _ cs hcs => by
      obtain ⟨u, rfl, hu⟩ := hcs
      exact ⟨u, rfl, hu.row hZ fun _ _ _ h => h⟩, r1.row hZ fun _ _ _ h => h, r2.row hZ fun _ _ _ h => h, r3.row hZ fun _ _ _ h => h⟩
end

end Go.Proofs.Yteikpekffgifoaa
