/- FnGraphs: at every draw of at most 4096 bytes the functions of chapter 3 answer as their models, and each block that is reached is once in the order, behind one of its preds; longer draws are true at once. -/
import Derived.Test.YteikpekffgifoaaGr24
namespace Go.Proofs.Yteikpekffgifoaa
open Go.ChangeShapes Go.WideShapes Go.ChangeAt Go.RowKit Go.Joins

set_option maxHeartbeats 400000 in
theorem FnGraphs_big (A : Option Addr) (n c : Nat) (w : World) (h : 4096 < n) :
    Calls Try.prog 4 #[.slice A n c] w (Fine w) := by
  go_enter Try.func4, Try.ntmps4
  go_wp2_with fail
  refine (big_yes A n c _ h).mono ?_
  rintro e w' ⟨rfl, rfl⟩
  go_wp2_with fail
  go_ret
  exact ⟨rfl, Below.refl _ _⟩

set_option maxRecDepth 100000 in
theorem FnGraphs_lifted (os : Os) (started : os.Started) (H : Type) (enc : TypeId × Value → H) :
    ReturnsInHanded {} Try.checked os 4 .any (Rows.fnGraphsSpec.pre6 enc Try.prog Try.f4 Rows.fnGraphsRow.domain false) (Rows.fnGraphsSpec.post enc Try.prog Try.f4 false true false false) := by
  refine returnsInHanded_of_change (C := Try.checked) Try.own started (by kernel_rfl) Try.func4
    (ChangeSpec.witness6 (enc := enc) (C := Try.checked) false ⟨#[], #[.slice none 0 0], []⟩ 8 (by kernel_rfl) (by kernel_rfl) (by kernel_rfl) (by kernel_rfl)) ?_
  intro W base args ds gs before hval0 hW _ _
  have hval : ∀ (j : Nat) t v, Try.f4.params[j]? = some t → args[j]? = some v → Value.okWide Try.prog W .any base t v := hval0
  have hW' : DataW.Whole enc Try.prog Try.f4.params.toList Rows.fnGraphsSpec.vars false W args.toList ds gs before := hW
  have hlt := hW'.lt
  obtain ⟨p, q, hA, hV, rfl, _, _⟩ := hW'
  rw [Try.params4] at hA hval
  obtain ⟨v0, d0, rfl, rfl, h0⟩ := trodAll_one hA
  obtain ⟨rfl, rfl⟩ := trodVars_none hV
  obtain ⟨A, n, c, rfl, hc⟩ := code_open (hval 0 _ v0 rfl rfl) h0
  have walk : Calls Try.prog 4 #[.slice A n c] W (Fine W) := by
    by_cases hn : n ≤ 4096
    · exact FnGraphs_any _ n W hn (hc hn)
    · exact FnGraphs_big A n c W (by omega)
  refine walk.mono fun e W' ⟨he, hb⟩ => ⟨_, he, ?_⟩
  exact law_done (t := 4) Try.laidOut (by kernel_rfl) (by kernel_rfl) Try.underlying4 rfl hW ⟨rfl, rfl, rfl⟩ hb

theorem FnGraphs_holds : Rows.FnGraphsSaid :=
  OpenClaim.holds_of_wide 4 Try.f4 rfl rfl rfl rfl rfl rfl rfl ⟨rfl, rfl, rfl, rfl, rfl⟩ rfl rfl rfl rfl rfl (by kernel_rfl) Try.func4 (by kernel_rfl)
    (of_decide_eq_true (by kernel_rfl)) (by unfold Func.isWrapper; first | (rw [if_pos (by decide +kernel)]; kernel_rfl) | (rw [if_neg (by decide +kernel)]; exact ⟨rfl, rfl⟩))
    (fun os started H enc _ => FnGraphs_lifted os started H enc)

end Go.Proofs.Yteikpekffgifoaa
