/- Contracts of the small functions of chapter 1. -/
import Derived.Test.YtbghcoihndlihaaLaw
namespace Go.Proofs.Ytbghcoihndlihaa
open Go.RowKit

def isNameB (n : Int) : Bool := decide (0 ≤ n) && decide (n < 150)
def isValueB (n : Int) : Bool := decide (0 ≤ n) && decide (n < 1000003)

set_option maxHeartbeats 400000 in
theorem isName_any (n : Int) (w : World) :
    Calls Try.prog 88 #[.int .i64 n] w fun e w' => e = .returned (.bool (isNameB n)) ∧ w = w' := by
  by_cases h0 : 0 ≤ n
  all_goals go_enter Try.func88, Try.ntmps88
  all_goals go_wp2
  all_goals go_ret
  all_goals exact ⟨by simp [isNameB]; try omega, rfl⟩

set_option maxHeartbeats 400000 in
theorem isValue_any (n : Int) (w : World) :
    Calls Try.prog 89 #[.int .i64 n] w fun e w' => e = .returned (.bool (isValueB n)) ∧ w = w' := by
  by_cases h0 : 0 ≤ n
  all_goals go_enter Try.func89, Try.ntmps89
  all_goals go_wp2
  all_goals go_ret
  all_goals exact ⟨by simp [isValueB]; try omega, rfl⟩

set_option maxHeartbeats 400000 in
theorem l1In_any (n a b : Int) (w : World) :
    Calls Try.prog 54 #[.int .i64 n, .int .i64 a, .int .i64 b] w fun e w' => e = .returned (.bool (decide (a ≤ n) && decide (n ≤ b))) ∧ w = w' := by
  by_cases h0 : a ≤ n
  all_goals go_enter Try.func54, Try.ntmps54
  all_goals go_wp2
  all_goals go_ret
  all_goals exact ⟨by simp; try omega, rfl⟩

set_option maxHeartbeats 400000 in
theorem l1Name_any (n : Int) (w : World) :
    Calls Try.prog 77 #[.int .i64 n] w fun e w' => e = .returned (.bool (isNameB n)) ∧ w = w' := by
  have h : (decide (0 ≤ n) && decide (n ≤ 149)) = isNameB n := by unfold isNameB; congr 1; rw [decide_eq_decide]; omega
  go_enter Try.func77, Try.ntmps77
  go_wp2_with (go_at_call 54; refine (l1In_any _ _ _ _).mono ?_; rintro e w' ⟨rfl, rfl⟩)
  go_ret
  exact ⟨rfl, rfl⟩

set_option maxHeartbeats 400000 in
theorem l1Value_any (n : Int) (w : World) :
    Calls Try.prog 91 #[.int .i64 n] w fun e w' => e = .returned (.bool (isValueB n)) ∧ w = w' := by
  have h : (decide (0 ≤ n) && decide (n ≤ 1000002)) = isValueB n := by unfold isValueB; congr 1; rw [decide_eq_decide]; omega
  go_enter Try.func91, Try.ntmps91
  go_wp2_with (go_at_call 54; refine (l1In_any _ _ _ _).mono ?_; rintro e w' ⟨rfl, rfl⟩)
  go_ret
  exact ⟨rfl, rfl⟩

def insOkB (o v a b : Int) : Bool :=
  if o = 1 then isNameB v && isValueB a && (b == 0)
  else if o = 2 then isNameB v && isNameB a && (b == 0)
  else if 3 ≤ o ∧ o ≤ 6 then isNameB v && isNameB a && isNameB b
  else if o = 7 then (v == -1) && isNameB a && (b == 0)
  else false


set_option maxHeartbeats 400000 in
theorem InsOk_1 (v a b : Int) (w : World) :
    Calls Try.prog 74 #[.agg #[.int .i64 1, .int .i64 v, .int .i64 a, .int .i64 b]] w fun e w' => e = .returned (.bool (insOkB 1 v a b)) ∧ Below w.heap.size w w' := by
  cases hv : isNameB v <;> cases ha : isValueB a
  all_goals go_enter Try.func74, Try.ntmps74
  all_goals go_wp2_with (first
    | (go_at_call 88; refine (isName_any _ _).mono ?_; rintro e w' ⟨rfl, rfl⟩)
    | (go_at_call 89; refine (isValue_any _ _).mono ?_; rintro e w' ⟨rfl, rfl⟩))
  all_goals go_ret
  all_goals exact ⟨by simp [insOkB, hv, ha], (Below.refl _ _).alloc (Nat.le_refl _) _⟩

set_option maxHeartbeats 400000 in
theorem InsOk_2 (v a b : Int) (w : World) :
    Calls Try.prog 74 #[.agg #[.int .i64 2, .int .i64 v, .int .i64 a, .int .i64 b]] w fun e w' => e = .returned (.bool (insOkB 2 v a b)) ∧ Below w.heap.size w w' := by
  cases hv : isNameB v <;> cases ha : isNameB a
  all_goals go_enter Try.func74, Try.ntmps74
  all_goals go_wp2_with (first
    | (go_at_call 88; refine (isName_any _ _).mono ?_; rintro e w' ⟨rfl, rfl⟩))
  all_goals go_ret
  all_goals exact ⟨by simp [insOkB, hv, ha], (Below.refl _ _).alloc (Nat.le_refl _) _⟩

set_option maxHeartbeats 400000 in
theorem InsOk_3 (o v a b : Int) (w : World) (h : o = 3 ∨ o = 4 ∨ o = 5 ∨ o = 6) :
    Calls Try.prog 74 #[.agg #[.int .i64 o, .int .i64 v, .int .i64 a, .int .i64 b]] w fun e w' => e = .returned (.bool (insOkB o v a b)) ∧ Below w.heap.size w w' := by
  rcases h with rfl | rfl | rfl | rfl
  all_goals cases hv : isNameB v <;> cases ha : isNameB a
  all_goals go_enter Try.func74, Try.ntmps74
  all_goals go_wp2_with (first
    | (go_at_call 88; refine (isName_any _ _).mono ?_; rintro e w' ⟨rfl, rfl⟩))
  all_goals go_ret
  all_goals exact ⟨by simp [insOkB, hv, ha], (Below.refl _ _).alloc (Nat.le_refl _) _⟩

set_option maxHeartbeats 400000 in
theorem InsOk_7 (v a b : Int) (w : World) :
    Calls Try.prog 74 #[.agg #[.int .i64 7, .int .i64 v, .int .i64 a, .int .i64 b]] w fun e w' => e = .returned (.bool (insOkB 7 v a b)) ∧ Below w.heap.size w w' := by
  by_cases hv : v = -1
  · subst hv
    cases ha : isNameB a
    all_goals go_enter Try.func74, Try.ntmps74
    all_goals go_wp2_with (first
      | (go_at_call 88; refine (isName_any _ _).mono ?_; rintro e w' ⟨rfl, rfl⟩))
    all_goals go_ret
    all_goals exact ⟨by simp [insOkB, ha], (Below.refl _ _).alloc (Nat.le_refl _) _⟩
  · have hb : (v == -1) = false := by simpa using hv
    go_enter Try.func74, Try.ntmps74
    go_wp2_with (first
      | (go_at_call 88; refine (isName_any _ _).mono ?_; rintro e w' ⟨rfl, rfl⟩))
    go_ret
    exact ⟨by simp [insOkB, hv], (Below.refl _ _).alloc (Nat.le_refl _) _⟩

set_option maxHeartbeats 400000 in
theorem InsOk_0 (o v a b : Int) (w : World) (h : o < 1 ∨ 7 < o) :
    Calls Try.prog 74 #[.agg #[.int .i64 o, .int .i64 v, .int .i64 a, .int .i64 b]] w fun e w' => e = .returned (.bool (insOkB o v a b)) ∧ Below w.heap.size w w' := by
  have h1 : (o == 1) = false := by simp; omega
  have h2 : (o == 2) = false := by simp; omega
  have h3 : (o == 3) = false := by simp; omega
  have h4 : (o == 4) = false := by simp; omega
  have h5 : (o == 5) = false := by simp; omega
  have h6 : (o == 6) = false := by simp; omega
  have h7 : (o == 7) = false := by simp; omega
  go_enter Try.func74, Try.ntmps74
  go_wp2
  go_ret
  refine ⟨?_, (Below.refl _ _).alloc (Nat.le_refl _) _⟩
  have : insOkB o v a b = false := by
    unfold insOkB
    rw [if_neg (by omega), if_neg (by omega), if_neg (by omega), if_neg (by omega)]
  rw [this]; rfl

theorem InsOk_any (o v a b : Int) (w : World) :
    Calls Try.prog 74 #[.agg #[.int .i64 o, .int .i64 v, .int .i64 a, .int .i64 b]] w fun e w' => e = .returned (.bool (insOkB o v a b)) ∧ Below w.heap.size w w' := by
  by_cases h0 : o < 1 ∨ 7 < o
  · exact InsOk_0 o v a b w h0
  · by_cases h1 : o = 1
    · subst h1; exact InsOk_1 v a b w
    · by_cases h2 : o = 2
      · subst h2; exact InsOk_2 v a b w
      · by_cases h7 : o = 7
        · subst h7; exact InsOk_7 v a b w
        · exact InsOk_3 o v a b w (by omega)

set_option maxHeartbeats 400000 in
theorem sInsOk_any (o v a b : Int) (w : World) :
    Calls Try.prog 79 #[.agg #[.int .i64 o, .int .i64 v, .int .i64 a, .int .i64 b]] w fun e w' => e = .returned (.bool (insOkB o v a b)) ∧ Below w.heap.size w w' := by
  by_cases h1 : o = 1
  · subst h1
    cases hv : isNameB v <;> cases ha : isValueB a
    all_goals go_enter Try.func79, Try.ntmps79
    all_goals go_wp2_with (first
      | (go_at_call 77; refine (l1Name_any _ _).mono ?_; rintro e w' ⟨rfl, rfl⟩)
      | (go_at_call 91; refine (l1Value_any _ _).mono ?_; rintro e w' ⟨rfl, rfl⟩))
    all_goals go_ret
    all_goals exact ⟨by simp [insOkB, hv, ha], (Below.refl _ _).alloc (Nat.le_refl _) _⟩
  by_cases h2 : o = 2
  · subst h2
    cases hv : isNameB v <;> cases ha : isNameB a
    all_goals go_enter Try.func79, Try.ntmps79
    all_goals go_wp2_with (first
      | (go_at_call 77; refine (l1Name_any _ _).mono ?_; rintro e w' ⟨rfl, rfl⟩))
    all_goals go_ret
    all_goals exact ⟨by simp [insOkB, hv, ha], (Below.refl _ _).alloc (Nat.le_refl _) _⟩
  have hb1 : (o == 1) = false := by simpa using h1
  have hb2 : (o == 2) = false := by simpa using h2
  by_cases h3 : 3 ≤ o ∧ o ≤ 6
  · obtain ⟨h3, h6⟩ := h3
    have hE : Hid (insOkB o v a b = (isNameB v && isNameB a && isNameB b)) := by unfold Hid insOkB; rw [if_neg h1, if_neg h2, if_pos ⟨h3, h6⟩]
    clear h1 h2
    cases hv : isNameB v <;> cases ha : isNameB a
    all_goals go_enter Try.func79, Try.ntmps79
    all_goals go_wp2_with (first
      | (go_at_call 77; refine (l1Name_any _ _).mono ?_; rintro e w' ⟨rfl, rfl⟩))
    all_goals go_ret
    all_goals exact ⟨by rw [hE.out, hv, ha]; rfl, (Below.refl _ _).alloc (Nat.le_refl _) _⟩
  by_cases h7 : o = 7
  · subst h7
    by_cases hv : v = -1
    · subst hv
      cases ha : isNameB a
      all_goals go_enter Try.func79, Try.ntmps79
      all_goals go_wp2_with (first
        | (go_at_call 77; refine (l1Name_any _ _).mono ?_; rintro e w' ⟨rfl, rfl⟩))
      all_goals go_ret
      all_goals exact ⟨by simp [insOkB, ha], (Below.refl _ _).alloc (Nat.le_refl _) _⟩
    · have hb : (v == -1) = false := by simpa using hv
      go_enter Try.func79, Try.ntmps79
      go_wp2_with (first
        | (go_at_call 77; refine (l1Name_any _ _).mono ?_; rintro e w' ⟨rfl, rfl⟩))
      go_ret
      exact ⟨by simp [insOkB, hb], (Below.refl _ _).alloc (Nat.le_refl _) _⟩
  · have hb7 : (o == 7) = false := by simpa using h7
    have hE : Hid (insOkB o v a b = false) := by unfold Hid insOkB; rw [if_neg h1, if_neg h2, if_neg h3, if_neg h7]
    clear h1 h2 h7
    by_cases h3' : 3 ≤ o
    · have h6 : ¬ o ≤ 6 := fun h => h3 ⟨h3', h⟩
      clear h3
      go_enter Try.func79, Try.ntmps79
      go_wp2
      go_ret
      exact ⟨by rw [hE.out]; rfl, (Below.refl _ _).alloc (Nat.le_refl _) _⟩
    · clear h3
      go_enter Try.func79, Try.ntmps79
      go_wp2
      go_ret
      exact ⟨by rw [hE.out]; rfl, (Below.refl _ _).alloc (Nat.le_refl _) _⟩

end Go.Proofs.Ytbghcoihndlihaa
