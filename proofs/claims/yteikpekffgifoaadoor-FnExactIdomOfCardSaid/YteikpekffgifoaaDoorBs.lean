/- Sets of blocks as bits: with, both and has of the program. -/
import Derived.Test.YteikpekffgifoaaDoorEnd
import Derived.Laws.ShiftsVarLaws
namespace Go.Proofs.YteikpekffgifoaaDoor
open Go.ChangeShapes Go.WideShapes Go.ChangeAt Go.RowKit Go.Joins

theorem pow_lt64 {b : Nat} (hb : b < 64) : 2 ^ b < 18446744073709551616 := Nat.pow_lt_pow_right (m := b) (n := 64) (a := 2) (by decide) hb
theorem wrap_pow (b : Nat) (hb : b < 64) : IntKind.u64.wrap (2 ^ b) = ((2 ^ b : Nat) : Int) := by
  have h := pow_lt64 hb
  rw [IntKind.wrap_u64, show ((2 : Int) ^ b) = ((2 ^ b : Nat) : Int) by simp]
  generalize 2 ^ b = p at *
  omega

set_option maxHeartbeats 400000 in
theorem with_any (s b : Nat) (w : World) (hs : s < 18446744073709551616) (hb : b < 64) :
    Calls Tryd.prog 50 #[.int .u64 (s : Int), .int .i64 (b : Int)] w fun e w' => e = .returned (.int .u64 ((s ||| 2 ^ b : Nat) : Int)) ∧ w = w' := by
  have hb0 : ¬ (b : Int) < 0 := by omega
  have h1 := wrap_pow b hb
  have h2 := u64_or_nat s (2 ^ b) hs (pow_lt64 hb)
  generalize hp : 2 ^ b = p at *
  go_enter Tryd.func50, Tryd.ntmps50
  go_wp2
  go_ret
  exact ⟨rfl, rfl⟩
set_option maxHeartbeats 400000 in
theorem both_any (s t : Nat) (w : World) (hs : s < 18446744073709551616) (ht : t < 18446744073709551616) :
    Calls Tryd.prog 75 #[.int .u64 (s : Int), .int .u64 (t : Int)] w fun e w' => e = .returned (.int .u64 ((s &&& t : Nat) : Int)) ∧ w = w' := by
  have h := u64_and_nat s t hs ht
  go_enter Tryd.func75, Tryd.ntmps75
  go_wp2
  go_ret
  exact ⟨rfl, rfl⟩

theorem and_pow_ne (s b : Nat) : (((s &&& 2 ^ b : Nat) : Int) != 0) = s.testBit b := by
  rw [nat_bit, Nat.testBit_eq_decide_div_mod_eq]
  have hp := Nat.two_pow_pos b
  have h2 : s / 2 ^ b % 2 = 0 ∨ s / 2 ^ b % 2 = 1 := by omega
  rcases h2 with h2 | h2
  · rw [h2]; simp
  · rw [h2]
    generalize 2 ^ b = p at *
    simp
    omega

set_option maxHeartbeats 400000 in
theorem has_yes (s b : Nat) (w : World) (hs : s < 18446744073709551616) (hb : b < 40) :
    Calls Tryd.prog 38 #[.int .u64 (s : Int), .int .i64 (b : Int)] w fun e w' => e = .returned (.bool (s.testBit b)) ∧ w = w' := by
  have hb0 : ¬ (b : Int) < 0 := by omega
  have h1 := wrap_pow b (by omega)
  have h2 := u64_and_nat s (2 ^ b) hs (pow_lt64 (by omega))
  have h3 := and_pow_ne s b
  have h4 : isBelowB (b : Int) 40 = true := by simp [isBelowB]; omega
  generalize hp : 2 ^ b = p at *
  go_enter Tryd.func38, Tryd.ntmps38
  go_wp2_with (go_at_call 61; refine (isBlock_any _ _).mono ?_; rintro e w' ⟨rfl, rfl⟩)
  go_ret
  exact ⟨rfl, rfl⟩
set_option maxHeartbeats 400000 in
theorem has_no (s : Nat) (j : Int) (w : World) (hj : isBelowB j 40 = false) :
    Calls Tryd.prog 38 #[.int .u64 (s : Int), .int .i64 j] w fun e w' => e = .returned (.bool false) ∧ w = w' := by
  go_enter Tryd.func38, Tryd.ntmps38
  go_wp2_with (go_at_call 61; refine (isBlock_any _ _).mono ?_; rintro e w' ⟨rfl, rfl⟩)
  go_ret
  exact ⟨rfl, rfl⟩
theorem hasS_any (s : Nat) (j : Int) (w : World) (hs : s < 18446744073709551616) :
    Calls Tryd.prog 38 #[.int .u64 (s : Int), .int .i64 j] w fun e w' => e = .returned (.bool (isBelowB j 40 && s.testBit j.toNat)) ∧ w = w' := by
  cases h : isBelowB j 40
  · exact has_no s j w h
  · have hr : 0 ≤ j ∧ j < 40 := by simpa [isBelowB] using h
    obtain ⟨b, rfl⟩ : ∃ b : Nat, j = b := ⟨j.toNat, by omega⟩
    rw [Int.toNat_natCast, Bool.true_and]
    exact has_yes s b w hs (by omega)

end Go.Proofs.YteikpekffgifoaaDoor
