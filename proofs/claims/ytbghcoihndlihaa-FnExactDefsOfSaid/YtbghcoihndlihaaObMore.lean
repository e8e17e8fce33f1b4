/- Rows of bools of the call's own, kept. -/
import Derived.Test.YtbghcoihndlihaaFr
import Derived.Test.YtbghcoihndlihaaMarkD
namespace Go.Proofs.Ytbghcoihndlihaa
open Go.ChangeShapes Go.WideShapes Go.ChangeAt Go.RowKit Go.Joins

theorem OB.below {w w' : World} {B B' : Nat} {v : Value} {xs : List Bool} (h : OB w B v xs) (hb : Below B' w w') (hB : ∀ k, v.ownBlock = some k → k < B') : OB w' B v xs := by
  obtain ⟨h1, h2⟩ := h
  refine ⟨h1, ?_⟩
  rcases h2 with h2 | ⟨g, cap, cur, rfl, hg, hh, r⟩
  · exact .inl h2
  · exact .inr ⟨g, cap, cur, rfl, hg, (hb.block g (hB g rfl)).trans hh, r⟩
theorem OB.grown {w w' : World} {B : Nat} {v : Value} {xs : List Bool} (h : OB w B v xs) {row : Option Nat} (hg : w.grownBy w' row) (hne : v.ownBlock = none ∨ v.ownBlock ≠ row) : OB w' B v xs := World.ownsRow.kept h hg hne
theorem OB.drewN {w : World} {B : Nat} {v : Value} {xs : List Bool} (h : OB w B v xs) (n : Nat) : OB (w.drewN n) B v xs := h
theorem OB.marked {D : Nat → Prop} {w w' : World} {B : Nat} {v : Value} {xs : List Bool} (h : OB w B v xs) (hm : Marked D w w') (hn : ∀ k, v.ownBlock = some k → ¬ D k) : OB w' B v xs := by
  have hlt := h.lt
  obtain ⟨h1, h2⟩ := h
  refine ⟨h1, ?_⟩
  rcases h2 with h2 | ⟨g, cap, cur, rfl, hg, hh, r⟩
  · exact .inl h2
  · exact .inr ⟨g, cap, cur, rfl, hg, (hm.far g (hlt g rfl).2 (hn g rfl)).trans hh, r⟩

end Go.Proofs.Ytbghcoihndlihaa
