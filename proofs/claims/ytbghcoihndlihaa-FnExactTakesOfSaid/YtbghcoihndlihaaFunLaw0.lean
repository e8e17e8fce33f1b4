/- Small lemmas of the exact laws over functions. -/
import Derived.Test.YtbghcoihndlihaaSz
import Derived.Test.YtbghcoihndlihaaMarkD
namespace Go.Proofs.Ytbghcoihndlihaa
open Go.ChangeShapes Go.WideShapes Go.ChangeAt Go.RowKit Go.Joins

theorem EFun.form {w : World} {Z : Zn} {f : FunD} {v : Value} (h : EFun w Z f v) : ∃ A c, v = .agg #[.int .i64 f.params, .int .i64 f.names, .slice A f.blocks.length c] := by
  obtain ⟨u, rfl, _, A, c, rfl, _⟩ := h
  exact ⟨A, c, rfl⟩
theorem leftI_yes' {f : FunD} (h : szFunN f ≤ 1048576) : 0 ≤ leftI 1048576 (szFunN f) := by unfold leftI; split <;> omega
theorem leftI_no' {f : FunD} (h : ¬ szFunN f ≤ 1048576) : leftI 1048576 (szFunN f) < 0 := by unfold leftI; split <;> omega

theorem Marked.belowB {D : Nat → Prop} {w w' : World} {B : Nat} (h : Marked D w w') (hD : ∀ b, D b → B ≤ b) (hB : B ≤ w.heap.size) : Below B w w' :=
  ⟨h.os, h.tape, h.output, h.size, fun b hb => h.far b (Nat.lt_of_lt_of_le hb hB) fun hd => by have := hD b hd; omega⟩
theorem OI.marked {D : Nat → Prop} {w w' : World} {B : Nat} {v : Value} {xs : List Int} (h : OI w B v xs) (hm : Marked D w w') (hn : ∀ k, v.ownBlock = some k → ¬ D k) : OI w' B v xs := by
  have hlt := h.lt
  obtain ⟨h1, h2⟩ := h
  refine ⟨h1, ?_⟩
  rcases h2 with h2 | ⟨g, cap, cur, rfl, hg, hh, r⟩
  · exact .inl h2
  · exact .inr ⟨g, cap, cur, rfl, hg, (hm.far g (hlt g rfl).2 (hn g rfl)).trans hh, r⟩

end Go.Proofs.Ytbghcoihndlihaa
