/- Slices of int64: what markInt64S and heldInt64S of the laws do. -/
import Derived.Test.YteikpekffgifoaaDoorInts
namespace Go.Proofs.YteikpekffgifoaaDoor
open Go.ChangeShapes Go.WideShapes Go.ChangeAt Go.RowKit Go.Joins

set_option maxHeartbeats 400000 in
theorem markInt64S_any (B : Nat) (v : Value) (xs : List Int) (k : Int) (w : World) (hv : OI w B v xs) (hk0 : 0 ≤ k) (hk1 : k + xs.length ≤ 9223372036854775807) :
    Calls Tryd.prog 22 #[v, .int .i64 k] w fun e w' => e = .returned (.int .i64 (k + xs.length)) ∧ OI w' B v (markL k xs.length) ∧ w.grownBy w' v.ownBlock := by
  have hlen := hv.ri.1
  by_cases h0 : xs.length = 0
  · obtain rfl := List.length_eq_zero_iff.1 h0
    obtain ⟨_, A, c, rfl, _⟩ := hv.ri
    simp only [List.length_nil] at *
    go_enter Tryd.func22, Tryd.ntmps22
    go_wp2
    go_loopw [1, 5] (fun q i wr => i = .int .i64 0 ∧ q = .int .i64 k ∧ wr = w) (fun _ _ _ => 0)
    case atStart => exact ⟨rfl, rfl, rfl⟩
    case round =>
      obtain ⟨rfl, rfl, rfl⟩ := hrel
      go_wp2
      go_ret
      exact ⟨by simp, by rw [markL_zero]; exact hv, World.grownBy.refl _ _⟩
  · obtain ⟨g, cap, rfl, hBg, hg⟩ := World.ownsRow.form hv (by omega)
    have HV := Lib.hid hv
    clear hv
    have hpos : 0 < xs.length := by omega
    clear h0
    go_enter Tryd.func22, Tryd.ntmps22
    go_wp2
    go_loopw [1, 5] (fun q i wr => ∃ j : Nat, j ≤ xs.length ∧ i = .int .i64 j ∧ q = .int .i64 (k + j) ∧ Hid (wr.ownsRow B 2 1 (.slice (some ⟨g, 0, none⟩) xs.length cap) xs.length ((markL k j ++ xs.drop j).map iv)) ∧ Hid (w.grownBy wr (some g))) (fun _ i _ => xs.length - (intOf i).toNat)
    case atStart => exact ⟨0, Nat.zero_le _, rfl, by simp, (by rw [markL_zero]; exact HV.out), World.grownBy.refl _ _⟩
    case round =>
      obtain ⟨j, hj, rfl, rfl, HO, HG⟩ := hrel
      by_cases hlt : j < xs.length
      · have hcl : (markL k j ++ xs.drop j).length = xs.length := by simp [markL_length]; omega
        obtain ⟨x, hx⟩ : ∃ x, (markL k j ++ xs.drop j)[j]? = some x := ⟨_, List.getElem?_eq_getElem (by rw [hcl]; exact hlt)⟩
        have hcell : wr.cell? ⟨g, j, none⟩ = some (iv x) := by
          rw [World.ownsRow.cellAt HO.out j (by omega), List.getElem?_map, hx]; rfl
        unfold iv at hcell
        have hfr : wr.frozen? ⟨g, j, none⟩ = false := World.ownsRow.frozenAt HO.out j
        clear hx hcl
        go_wp2
        go_roundw
        case rel =>
          refine ⟨j + 1, by omega, by go_num, by go_num, ?_, ?_⟩
          · have h := (World.ownsRow.stored HO.out j (iv (k + j))).1
            rw [set_step k xs hlt] at h
            exact h
          · exact World.grownBy.trans HG.out (World.ownsRow.stored HO.out j (iv (k + j))).2
        case measure => simp [intOf]; omega
      · obtain rfl : j = xs.length := by omega
        go_wp2
        go_ret
        refine ⟨rfl, ?_, HG.out⟩
        have h := HO.out
        rw [List.drop_length, List.append_nil] at h
        unfold OI
        rw [markL_length]
        exact h

set_option maxHeartbeats 400000 in
theorem heldInt64S_any (v : Value) (k : Int) (n : Nat) (w : World) (hv : RI w v (markL k n)) (hk0 : 0 ≤ k) (hk1 : k + n ≤ 9223372036854775807) :
    Calls Tryd.prog 23 #[v, .int .i64 k] w fun e w' => e = .returned (.int .i64 (k + n)) ∧ w = w' := by
  obtain ⟨hl, A, c, rfl, hx⟩ := hv
  rw [markL_length] at hl ⊢
  go_enter Tryd.func23, Tryd.ntmps23
  go_wp2
  go_loop [1, 5] (fun q i => ∃ j : Nat, j ≤ n ∧ i = .int .i64 j ∧ q = .int .i64 (k + j)) (fun _ i => n - (intOf i).toNat)
  case atStart => exact ⟨0, Nat.zero_le _, rfl, by simp⟩
  case round =>
    obtain ⟨j, hj, rfl, rfl⟩ := hrel
    by_cases hlt : j < n
    · obtain ⟨b, off, rfl, hx'⟩ := hx (by intro h; have := congrArg List.length h; rw [markL_length] at this; simp at this; omega)
      have hc := hx' j _ (markL_get k hlt)
      clear hx hx'
      go_wp2
      go_round
      case rel => exact ⟨j + 1, by omega, by go_num, by go_num⟩
      case measure => simp [intOf]; omega
    · obtain rfl : j = n := by omega
      go_wp2
      go_ret
      exact ⟨rfl, rfl⟩

end Go.Proofs.YteikpekffgifoaaDoor
