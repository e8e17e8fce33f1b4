/- bits.TrailingZeros64 at what is not 0: the lowest bit; its table. -/
import Derived.Test.YteikpekffgifoaaDoorBs
namespace Go.Proofs.YteikpekffgifoaaDoor
open Go.ChangeShapes Go.WideShapes Go.ChangeAt Go.RowKit Go.Joins

/-- What the table holds. -/
def tzL : List Int := [0, 1, 56, 2, 57, 49, 28, 3, 61, 58, 42, 50, 38, 29, 17, 4, 62, 47, 59, 36, 45, 43, 51, 22, 53, 39, 33, 30, 24, 18, 12, 5, 63, 55, 48, 27, 60, 41, 37, 16, 46, 35, 44, 21, 52, 32, 23, 11, 54, 26, 40, 15, 34, 20, 31, 10, 25, 14, 19, 9, 13, 8, 7, 6]
/-- The table lies there. -/
def Tab (w : World) : Prop := ∀ (k : Nat) (u : Int), tzL[k]? = some u → w.cell? ⟨0, k, none⟩ = some (.int .u8 u)
theorem Tab.lt {w : World} (h : Tab w) : 0 < w.heap.size := World.block_lt_of_cell? w ⟨_, 0, none⟩ (h 0 0 rfl)
theorem Tab.keep {w w' : World} (h : Tab w) (hb : Below w.heap.size w w') : Tab w' := fun k u hu => (hb.cell (p := ⟨_, k, none⟩) h.lt).trans (h k u hu)
theorem tz_at : ∀ t : Nat, t < 64 → tzL[(2 ^ t * 285870213051353865 % 18446744073709551616) / 288230376151711744]? = some (t : Int) := by decide
theorem tz_len : tzL.length = 64 := rfl

/-- A number that is not 0 is an odd one times a power of two. -/
theorem low_bit : ∀ (s : Nat), s ≠ 0 → ∃ t m, s = 2 ^ t * (2 * m + 1) := by
  intro s
  induction s using Nat.strongRecOn with
  | ind s ih =>
    intro h0
    by_cases hp : s % 2 = 1
    · exact ⟨0, s / 2, by omega⟩
    · obtain ⟨t, m, h⟩ := ih (s / 2) (by omega) (by omega)
      exact ⟨t + 1, m, by rw [Nat.pow_succ, Nat.mul_right_comm, ← h]; omega⟩
theorem odd_bit (t m i : Nat) : (2 ^ t * (2 * m + 1)).testBit i = (decide (t ≤ i) && (decide (i = t) || (decide (t < i) && m.testBit (i - t - 1)))) := by
  rw [Nat.testBit_two_pow_mul]
  by_cases h : t ≤ i
  · by_cases e : i = t
    · subst e; simp
    · obtain ⟨j, rfl⟩ : ∃ j, i = t + 1 + j := ⟨i - t - 1, by omega⟩
      have h3 : t < t + 1 + j := by omega
      rw [show t + 1 + j - t = j + 1 by omega, show j + 1 - 1 = j by omega, Nat.testBit_succ, show (2 * m + 1) / 2 = m by omega]
      simp [h, e, h3]
  · simp [h]
theorem pred_bit (t m i : Nat) : (2 ^ t * (2 * m + 1) - 1).testBit i = if i < t then true else (decide (t < i) && m.testBit (i - t - 1)) := by
  have hp := Nat.two_pow_pos t
  have e : 2 ^ t * (2 * m + 1) - 1 = 2 ^ t * (2 * m) + (2 ^ t - 1) := by rw [Nat.mul_add]; omega
  rw [e, Nat.testBit_two_pow_mul_add _ (by omega)]
  by_cases h : i < t
  · rw [if_pos h, if_pos h, Nat.testBit_two_pow_sub_one]; simpa using h
  · rw [if_neg h, if_neg h]
    by_cases e : i = t
    · subst e; simp
    · obtain ⟨j, rfl⟩ : ∃ j, i = t + 1 + j := ⟨i - t - 1, by omega⟩
      have h3 : t < t + 1 + j := by omega
      rw [show t + 1 + j - t = j + 1 by omega, show j + 1 - 1 = j by omega, Nat.testBit_succ, show 2 * m / 2 = m by omega]
      simp [h3]
theorem and_neg {s t m : Nat} (h : s = 2 ^ t * (2 * m + 1)) (hs : s < 18446744073709551616) : s &&& (18446744073709551616 - s) = 2 ^ t := by
  have hpos : 0 < s := by rw [h]; exact Nat.mul_pos (Nat.two_pow_pos t) (by omega)
  have ht64 : 2 ^ t < 2 ^ 64 := Nat.lt_of_le_of_lt (by rw [h]; exact Nat.le_mul_of_pos_right _ (by omega)) hs
  have htl : t < 64 := (Nat.pow_lt_pow_iff_right (a := 2) (by decide)).1 ht64
  apply Nat.eq_of_testBit_eq
  intro i
  have e : 18446744073709551616 - s = 2 ^ 64 - ((s - 1) + 1) := by rw [Nat.sub_add_cancel hpos]
  rw [Nat.testBit_and, e, Nat.testBit_two_pow_sub_succ (by omega), h, odd_bit, pred_bit, Nat.testBit_two_pow]
  by_cases h1 : i < t
  · have h2 : ¬ t ≤ i := by omega
    have h3 : ¬ t = i := by omega
    simp [h1, h2, h3]
  · by_cases h2 : i = t
    · subst h2; simp [htl]
    · have h3 : t < i := by omega
      have h4 : ¬ t = i := by omega
      have h5 : t ≤ i := by omega
      simp only [h1, h2, h3, h4, h5, decide_true, decide_false, Bool.true_and, Bool.false_or, if_false]
      cases m.testBit (i - t - 1) <;> simp

theorem tz_neg (s : Nat) (h0 : 0 < s) (hs : s < 18446744073709551616) : IntKind.u64.wrap (-(s : Int)) = ((18446744073709551616 - s : Nat) : Int) := by rw [IntKind.wrap_u64]; omega
theorem tz_mul (p : Nat) : IntKind.u64.wrap ((p : Int) * 285870213051353865) = ((p * 285870213051353865 % 18446744073709551616 : Nat) : Int) := by rw [IntKind.wrap_u64]; omega
theorem tz_div (q : Nat) : (q : Int) / 288230376151711744 = ((q / 288230376151711744 : Nat) : Int) := by omega
theorem tz_facts {s t m : Nat} (h : s = 2 ^ t * (2 * m + 1)) (hs : s < 18446744073709551616) (htl : t < 64) : 0 < s ∧ ∃ n p q r : Nat, IntKind.u64.wrap (-(s : Int)) = (n : Int) ∧ bits .and .u64 (s : Int) (n : Int) = (p : Int) ∧ IntKind.u64.wrap ((p : Int) * 285870213051353865) = (q : Int) ∧ (q : Int) / 288230376151711744 = (r : Int) ∧ r < 64 ∧ tzL[r]? = some (t : Int) := by
  have hpos : 0 < s := by rw [h]; exact Nat.mul_pos (Nat.two_pow_pos t) (by omega)
  have h2 := u64_and_nat s (18446744073709551616 - s) hs (by omega)
  rw [and_neg h hs] at h2
  have hz := tz_at t htl
  refine ⟨hpos, 18446744073709551616 - s, 2 ^ t, 2 ^ t * 285870213051353865 % 18446744073709551616, 2 ^ t * 285870213051353865 % 18446744073709551616 / 288230376151711744, tz_neg s hpos hs, h2, tz_mul _, tz_div _, ?_, hz⟩
  have := (List.getElem?_eq_some_iff.1 hz).1
  rwa [tz_len] at this

set_option maxHeartbeats 400000 in
theorem TrailingZeros64_any (s t m : Nat) (w : World) (h : s = 2 ^ t * (2 * m + 1)) (hs : s < 18446744073709551616) (htl : t < 64) (hT : Tab w) :
    Calls Tryd.prog 43 #[.int .u64 (s : Int)] w fun e w' => e = .returned (.int .i64 (t : Int)) ∧ w = w' := by
  obtain ⟨hpos, n, p, q, r, h1, h2, h3, h5, hr, hz⟩ := tz_facts h hs htl
  have h0 : ((s : Int) == 0) = false := by simp; omega
  have hc := hT _ _ hz
  have hr' : (r : Int) < 64 := by omega
  have hr0 : 0 ≤ (r : Int) := by omega
  have ht64 : (t : Int) < 64 := by omega
  clear h hz hpos hT
  go_enter Tryd.func43, Tryd.ntmps43
  go_wp2
  go_ret
  exact ⟨rfl, rfl⟩

end Go.Proofs.YteikpekffgifoaaDoor
