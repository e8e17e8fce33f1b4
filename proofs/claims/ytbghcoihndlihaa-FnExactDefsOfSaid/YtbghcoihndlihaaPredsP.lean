/- Preds and targets: pure facts. -/
import Derived.Test.YtbghcoihndlihaaL2d
import Derived.Test.YtbghcoihndlihaaFr
namespace Go.Proofs.Ytbghcoihndlihaa
open Go.ChangeShapes Go.WideShapes Go.ChangeAt Go.RowKit Go.Joins

theorem targets_of {f : FunD} (h : FunP f) : TargetsOk f.blocks := fun k x hx => by
  have he := (h.1.2.2.2.2 k x hx).1
  refine ⟨he.1, fun t ht => ?_⟩
  have hr := endOk_range he.1
  have h1 := he.1
  have h2 := he.2.2
  unfold toL at ht
  rcases hr with e | e | e
  · rw [e] at ht; simp at ht
  · rw [e] at ht h1
    simp at ht
    subst ht
    simp [endOkB, isBelowB] at h1
    omega
  · rw [e] at ht h1
    simp at ht
    simp [endOkB, isBelowB] at h1
    omega


theorem mem_predsF {f : FunD} {j : Int} {b : Nat} {x : BlockD} (hx : f.blocks[b]? = some x) (hj : j ∈ toL x.fin.k x.fin.t x.fin.l) : (b : Int) ∈ predsF f j := by
  unfold predsF predsK
  rw [List.mem_map]
  exact ⟨b, List.mem_filter.2 ⟨List.mem_range.2 (List.getElem?_eq_some_iff.1 hx).1, by unfold hasT; rw [hx]; exact hasB_iff.2 hj⟩, rfl⟩
theorem of_mem_predsF {f : FunD} {j y : Int} (h : y ∈ predsF f j) : ∃ (m : Nat) (x : BlockD), y = m ∧ f.blocks[m]? = some x ∧ j ∈ toL x.fin.k x.fin.t x.fin.l := by
  unfold predsF predsK at h
  rw [List.mem_map] at h
  obtain ⟨m, hm, rfl⟩ := h
  rw [List.mem_filter] at hm
  obtain ⟨h1, h2⟩ := hm
  have hlt := List.mem_range.1 h1
  have hx : f.blocks[m]? = some f.blocks[m] := List.getElem?_eq_getElem hlt
  unfold hasT at h2
  rw [hx] at h2
  exact ⟨m, _, rfl, hx, hasB_iff.1 h2⟩
theorem predsF_pair (f : FunD) (j : Int) : (predsF f j).Pairwise (· < ·) := by
  unfold predsF predsK
  rw [List.pairwise_map]
  exact (List.pairwise_lt_range.filter _).imp fun h => by omega
theorem predsF_lt {f : FunD} {j y z : Int} {i : Nat} (h1 : (predsF f j)[i]? = some y) (h2 : (predsF f j)[i + 1]? = some z) : y < z := by
  obtain ⟨hi, rfl⟩ := List.getElem?_eq_some_iff.1 h1
  obtain ⟨hk, rfl⟩ := List.getElem?_eq_some_iff.1 h2
  exact List.pairwise_iff_getElem.1 (predsF_pair f j) i (i + 1) hi hk (by omega)
theorem preds_of {f : FunD} {j : Int} {xs : List Int} (hp : FunP f) (hj : 0 ≤ j ∧ j < f.blocks.length) (h : PredsRes f j xs) : xs = predsF f j := by
  rcases h with ⟨_, _, h⟩ | ⟨h, _⟩
  · exact h
  · exact absurd ⟨hp, by simp [isBelowB]; omega⟩ h
theorem succs_of {f : FunD} {b : Nat} {x : BlockD} (hp : FunP f) (hx : f.blocks[b]? = some x) : succsL x.fin.k x.fin.a x.fin.t x.fin.l = toL x.fin.k x.fin.t x.fin.l ∧ ∀ y ∈ toL x.fin.k x.fin.t x.fin.l, 0 ≤ y ∧ y < (f.blocks.length : Int) := by
  have h := targets_of hp b x hx
  exact ⟨by unfold succsL; rw [if_pos h.1], h.2⟩

end Go.Proofs.Ytbghcoihndlihaa
