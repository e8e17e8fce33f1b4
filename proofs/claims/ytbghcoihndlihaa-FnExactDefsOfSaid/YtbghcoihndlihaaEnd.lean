/- EndOk and SuccsOf of both sides, and toEnd of the laws. -/
import Derived.Test.YtbghcoihndlihaaUses
namespace Go.Proofs.Ytbghcoihndlihaa
open Go.ChangeShapes Go.WideShapes Go.ChangeAt Go.RowKit Go.Joins

def isBelowB (n m : Int) : Bool := decide (0 ≤ n) && decide (n < m)

set_option maxHeartbeats 400000 in
theorem isBelow_any (n m : Int) (w : World) :
    Calls Try.prog 21 #[.int .i64 n, .int .i64 m] w fun e w' => e = .returned (.bool (isBelowB n m)) ∧ w = w' := by
  by_cases h0 : 0 ≤ n
  all_goals go_enter Try.func21, Try.ntmps21
  all_goals go_wp2
  all_goals go_ret
  all_goals exact ⟨by simp [isBelowB]; try omega, rfl⟩

set_option maxHeartbeats 400000 in
theorem isBlock_any (n : Int) (w : World) :
    Calls Try.prog 93 #[.int .i64 n] w fun e w' => e = .returned (.bool (isBelowB n 40)) ∧ w = w' := by
  go_enter Try.func93, Try.ntmps93
  go_wp2_with (go_at_call 21; refine (isBelow_any _ _ _).mono ?_; rintro e w' ⟨rfl, rfl⟩)
  go_ret
  exact ⟨rfl, rfl⟩

set_option maxHeartbeats 400000 in
theorem l2Block_any (n : Int) (w : World) :
    Calls Try.prog 78 #[.int .i64 n] w fun e w' => e = .returned (.bool (isBelowB n 40)) ∧ w = w' := by
  have h : (decide (0 ≤ n) && decide (n ≤ 39)) = isBelowB n 40 := by unfold isBelowB; congr 1; rw [decide_eq_decide]; omega
  go_enter Try.func78, Try.ntmps78
  go_wp2_with (go_at_call 54; refine (l1In_any _ _ _ _).mono ?_; rintro e w' ⟨rfl, rfl⟩)
  go_ret
  exact ⟨rfl, rfl⟩

/-- The End, as a value. -/
def vEnd (k a t l : Int) : Value := .agg #[.int .i64 k, .int .i64 a, .int .i64 t, .int .i64 l]

def endOkB (k a t l : Int) : Bool :=
  if k = 1 then isNameB a && (t == 0) && (l == 0)
  else if k = 2 then (a == 0) && isBelowB t 40 && (l == 0)
  else if k = 3 then isNameB a && isBelowB t 40 && isBelowB l 40 && (t != l)
  else false

set_option maxHeartbeats 400000 in
theorem EndOk_1 (a t l : Int) (w : World) :
    Calls Try.prog 83 #[.agg #[.int .i64 1, .int .i64 a, .int .i64 t, .int .i64 l]] w fun e w' => e = .returned (.bool (endOkB 1 a t l)) ∧ Below w.heap.size w w' := by
  cases ha : isNameB a <;> cases ht : (t == 0)
  all_goals go_enter Try.func83, Try.ntmps83
  all_goals go_wp2_with (go_at_call 88; refine (isName_any _ _).mono ?_; rintro e w' ⟨rfl, rfl⟩)
  all_goals go_ret
  all_goals exact ⟨by simp [endOkB, ha, ht], (Below.refl _ _).alloc (Nat.le_refl _) _⟩

set_option maxHeartbeats 400000 in
theorem EndOk_2 (a t l : Int) (w : World) :
    Calls Try.prog 83 #[.agg #[.int .i64 2, .int .i64 a, .int .i64 t, .int .i64 l]] w fun e w' => e = .returned (.bool (endOkB 2 a t l)) ∧ Below w.heap.size w w' := by
  cases ha : (a == 0) <;> cases ht : isBelowB t 40
  all_goals go_enter Try.func83, Try.ntmps83
  all_goals go_wp2_with (go_at_call 93; refine (isBlock_any _ _).mono ?_; rintro e w' ⟨rfl, rfl⟩)
  all_goals go_ret
  all_goals exact ⟨by simp [endOkB, ha, ht], (Below.refl _ _).alloc (Nat.le_refl _) _⟩

set_option maxHeartbeats 400000 in
theorem EndOk_3 (a t l : Int) (w : World) :
    Calls Try.prog 83 #[.agg #[.int .i64 3, .int .i64 a, .int .i64 t, .int .i64 l]] w fun e w' => e = .returned (.bool (endOkB 3 a t l)) ∧ Below w.heap.size w w' := by
  cases ha : isNameB a <;> cases ht : isBelowB t 40 <;> cases hl : isBelowB l 40
  all_goals go_enter Try.func83, Try.ntmps83
  all_goals go_wp2_with (first
    | (go_at_call 93; refine (isBlock_any _ _).mono ?_; rintro e w' ⟨rfl, rfl⟩)
    | (go_at_call 88; refine (isName_any _ _).mono ?_; rintro e w' ⟨rfl, rfl⟩))
  all_goals go_ret
  all_goals exact ⟨by simp [endOkB, ha, ht, hl], (Below.refl _ _).alloc (Nat.le_refl _) _⟩

set_option maxHeartbeats 400000 in
theorem EndOk_0 (k a t l : Int) (w : World) (h1 : (k == 1) = false) (h2 : (k == 2) = false) (h3 : (k == 3) = false) :
    Calls Try.prog 83 #[.agg #[.int .i64 k, .int .i64 a, .int .i64 t, .int .i64 l]] w fun e w' => e = .returned (.bool (endOkB k a t l)) ∧ Below w.heap.size w w' := by
  have hE : Hid (endOkB k a t l = false) := by
    unfold Hid endOkB
    rw [if_neg (by simpa using h1), if_neg (by simpa using h2), if_neg (by simpa using h3)]
  go_enter Try.func83, Try.ntmps83
  go_wp2
  go_ret
  exact ⟨by rw [hE.out]; rfl, (Below.refl _ _).alloc (Nat.le_refl _) _⟩

theorem EndOk_any (k a t l : Int) (w : World) :
    Calls Try.prog 83 #[vEnd k a t l] w fun e w' => e = .returned (.bool (endOkB k a t l)) ∧ Below w.heap.size w w' := by
  by_cases h1 : k = 1
  · subst h1; exact EndOk_1 a t l w
  by_cases h2 : k = 2
  · subst h2; exact EndOk_2 a t l w
  by_cases h3 : k = 3
  · subst h3; exact EndOk_3 a t l w
  exact EndOk_0 k a t l w (by simpa using h1) (by simpa using h2) (by simpa using h3)

set_option maxHeartbeats 400000 in
theorem sEndOk_1 (a t l : Int) (w : World) :
    Calls Try.prog 55 #[.agg #[.int .i64 1, .int .i64 a, .int .i64 t, .int .i64 l]] w fun e w' => e = .returned (.bool (endOkB 1 a t l)) ∧ Below w.heap.size w w' := by
  cases ha : isNameB a <;> cases ht : (t == 0)
  all_goals go_enter Try.func55, Try.ntmps55
  all_goals go_wp2_with (go_at_call 77; refine (l1Name_any _ _).mono ?_; rintro e w' ⟨rfl, rfl⟩)
  all_goals go_ret
  all_goals exact ⟨by simp [endOkB, ha, ht], (Below.refl _ _).alloc (Nat.le_refl _) _⟩

set_option maxHeartbeats 400000 in
theorem sEndOk_2 (a t l : Int) (w : World) :
    Calls Try.prog 55 #[.agg #[.int .i64 2, .int .i64 a, .int .i64 t, .int .i64 l]] w fun e w' => e = .returned (.bool (endOkB 2 a t l)) ∧ Below w.heap.size w w' := by
  cases ha : (a == 0) <;> cases ht : isBelowB t 40
  all_goals go_enter Try.func55, Try.ntmps55
  all_goals go_wp2_with (go_at_call 78; refine (l2Block_any _ _).mono ?_; rintro e w' ⟨rfl, rfl⟩)
  all_goals go_ret
  all_goals exact ⟨by simp [endOkB, ha, ht], (Below.refl _ _).alloc (Nat.le_refl _) _⟩

set_option maxHeartbeats 400000 in
theorem sEndOk_3 (a t l : Int) (w : World) :
    Calls Try.prog 55 #[.agg #[.int .i64 3, .int .i64 a, .int .i64 t, .int .i64 l]] w fun e w' => e = .returned (.bool (endOkB 3 a t l)) ∧ Below w.heap.size w w' := by
  cases ha : isNameB a <;> cases ht : isBelowB t 40 <;> cases hl : isBelowB l 40
  all_goals go_enter Try.func55, Try.ntmps55
  all_goals go_wp2_with (first
    | (go_at_call 78; refine (l2Block_any _ _).mono ?_; rintro e w' ⟨rfl, rfl⟩)
    | (go_at_call 77; refine (l1Name_any _ _).mono ?_; rintro e w' ⟨rfl, rfl⟩))
  all_goals go_ret
  all_goals exact ⟨by simp [endOkB, ha, ht, hl], (Below.refl _ _).alloc (Nat.le_refl _) _⟩

set_option maxHeartbeats 400000 in
theorem sEndOk_0 (k a t l : Int) (w : World) (h1 : (k == 1) = false) (h2 : (k == 2) = false) (h3 : (k == 3) = false) :
    Calls Try.prog 55 #[.agg #[.int .i64 k, .int .i64 a, .int .i64 t, .int .i64 l]] w fun e w' => e = .returned (.bool (endOkB k a t l)) ∧ Below w.heap.size w w' := by
  have hE : Hid (endOkB k a t l = false) := by
    unfold Hid endOkB
    rw [if_neg (by simpa using h1), if_neg (by simpa using h2), if_neg (by simpa using h3)]
  go_enter Try.func55, Try.ntmps55
  go_wp2
  go_ret
  exact ⟨by rw [hE.out]; rfl, (Below.refl _ _).alloc (Nat.le_refl _) _⟩

theorem sEndOk_any (k a t l : Int) (w : World) :
    Calls Try.prog 55 #[vEnd k a t l] w fun e w' => e = .returned (.bool (endOkB k a t l)) ∧ Below w.heap.size w w' := by
  by_cases h1 : k = 1
  · subst h1; exact sEndOk_1 a t l w
  by_cases h2 : k = 2
  · subst h2; exact sEndOk_2 a t l w
  by_cases h3 : k = 3
  · subst h3; exact sEndOk_3 a t l w
  exact sEndOk_0 k a t l w (by simpa using h1) (by simpa using h2) (by simpa using h3)

/-- The targets of an End, whatever else is in it. -/
def toL (k t l : Int) : List Int := if k = 2 then [t] else if k = 3 then [t, l] else []
def succsL (k a t l : Int) : List Int := if endOkB k a t l = true then toL k t l else []
theorem toL_len (k t l : Int) : (toL k t l).length ≤ 2 := by unfold toL; split <;> (try split) <;> simp
theorem succsL_len (k a t l : Int) : (succsL k a t l).length ≤ 2 := by
  unfold succsL; split
  · exact toL_len k t l
  · simp

/-- A call that gives a slice of int64 of its own. -/
def GivesI (xs : List Int) (w : World) (e : Ending) (w' : World) : Prop := ∃ r, e = .returned r ∧ OI w' w.heap.size r xs ∧ Below w.heap.size w w'

set_option maxHeartbeats 400000 in
theorem SuccsOf_bad (k a t l : Int) (w : World) (hok : endOkB k a t l = false) :
    Calls Try.prog 63 #[.agg #[.int .i64 k, .int .i64 a, .int .i64 t, .int .i64 l]] w (GivesI [] w) := by
  go_enter Try.func63, Try.ntmps63
  go_wp2_with (go_at_call 83; refine (EndOk_any _ _ _ _ _).mono ?_; rintro e w1 ⟨rfl, hb1⟩; obtain ⟨hc1, hf1⟩ := bcell hb1; have hz1 : w.heap.size < w1.heap.size := (by have := hb1.size; simp at this; omega))
  go_ret
  exact ⟨_, rfl, OI_lit0 _ rfl (by omega), below1 hb1⟩

set_option maxHeartbeats 400000 in
theorem SuccsOf_1 (a t l : Int) (w : World) (hok : endOkB 1 a t l = true) :
    Calls Try.prog 63 #[.agg #[.int .i64 1, .int .i64 a, .int .i64 t, .int .i64 l]] w (GivesI [] w) := by
  go_enter Try.func63, Try.ntmps63
  go_wp2_with (go_at_call 83; refine (EndOk_any _ _ _ _ _).mono ?_; rintro e w1 ⟨rfl, hb1⟩; obtain ⟨hc1, hf1⟩ := bcell hb1; have hz1 : w.heap.size < w1.heap.size := (by have := hb1.size; simp at this; omega))
  go_ret
  exact ⟨_, rfl, OI_lit0 _ rfl (by omega), below1 hb1⟩

set_option maxHeartbeats 400000 in
theorem SuccsOf_2 (a t l : Int) (w : World) (hok : endOkB 2 a t l = true) :
    Calls Try.prog 63 #[.agg #[.int .i64 2, .int .i64 a, .int .i64 t, .int .i64 l]] w (GivesI [t] w) := by
  go_enter Try.func63, Try.ntmps63
  go_wp2_with (go_at_call 83; refine (EndOk_any _ _ _ _ _).mono ?_; rintro e w1 ⟨rfl, hb1⟩; obtain ⟨hc1, hf1⟩ := bcell hb1; have hz1 : w.heap.size < w1.heap.size := (by have := hb1.size; simp at this; omega))
  go_ret
  exact ⟨_, rfl, OI_lit1 _ _ rfl (by omega), below1 hb1⟩

set_option maxHeartbeats 400000 in
theorem SuccsOf_3 (a t l : Int) (w : World) (hok : endOkB 3 a t l = true) :
    Calls Try.prog 63 #[.agg #[.int .i64 3, .int .i64 a, .int .i64 t, .int .i64 l]] w (GivesI [t, l] w) := by
  go_enter Try.func63, Try.ntmps63
  go_wp2_with (go_at_call 83; refine (EndOk_any _ _ _ _ _).mono ?_; rintro e w1 ⟨rfl, hb1⟩; obtain ⟨hc1, hf1⟩ := bcell hb1; have hz1 : w.heap.size < w1.heap.size := (by have := hb1.size; simp at this; omega))
  go_ret
  exact ⟨_, rfl, OI_lit2 _ _ _ rfl (by omega), below1 hb1⟩

theorem endOk_range {k a t l : Int} (h : endOkB k a t l = true) : k = 1 ∨ k = 2 ∨ k = 3 := by
  unfold endOkB at h
  by_cases h1 : k = 1
  · exact .inl h1
  by_cases h2 : k = 2
  · exact .inr (.inl h2)
  by_cases h3 : k = 3
  · exact .inr (.inr h3)
  rw [if_neg h1, if_neg h2, if_neg h3] at h
  cases h

theorem SuccsOf_any (k a t l : Int) (w : World) :
    Calls Try.prog 63 #[vEnd k a t l] w (GivesI (succsL k a t l) w) := by
  cases hok : endOkB k a t l
  · have e : succsL k a t l = [] := by simp [succsL, hok]
    rw [e]; exact SuccsOf_bad k a t l w hok
  · have e : succsL k a t l = toL k t l := by simp [succsL, hok]
    rw [e]
    rcases endOk_range hok with rfl | rfl | rfl
    · exact SuccsOf_1 a t l w hok
    · exact SuccsOf_2 a t l w hok
    · exact SuccsOf_3 a t l w hok

set_option maxHeartbeats 400000 in
theorem l2Succs_2 (a t l : Int) (w : World) :
    Calls Try.prog 44 #[.agg #[.int .i64 2, .int .i64 a, .int .i64 t, .int .i64 l]] w (GivesI [t] w) := by
  go_enter Try.func44, Try.ntmps44
  go_wp2
  go_ret
  refine ⟨_, rfl, ?_, ((Below.refl _ _).alloc (Nat.le_refl _) _).alloc (by simp) _⟩
  exact OI_lit1 (w.alloc _) _ (by simp) (by omega)

set_option maxHeartbeats 400000 in
theorem l2Succs_3 (a t l : Int) (w : World) :
    Calls Try.prog 44 #[.agg #[.int .i64 3, .int .i64 a, .int .i64 t, .int .i64 l]] w (GivesI [t, l] w) := by
  go_enter Try.func44, Try.ntmps44
  go_wp2
  go_ret
  refine ⟨_, rfl, ?_, ((Below.refl _ _).alloc (Nat.le_refl _) _).alloc (by simp) _⟩
  exact OI_lit2 (w.alloc _) _ _ (by simp) (by omega)

set_option maxHeartbeats 400000 in
theorem l2Succs_0 (k a t l : Int) (w : World) (h2 : (k == 2) = false) (h3 : (k == 3) = false) :
    Calls Try.prog 44 #[.agg #[.int .i64 k, .int .i64 a, .int .i64 t, .int .i64 l]] w (GivesI [] w) := by
  go_enter Try.func44, Try.ntmps44
  go_wp2
  go_ret
  refine ⟨_, rfl, ?_, ((Below.refl _ _).alloc (Nat.le_refl _) _).alloc (by simp) _⟩
  exact OI_lit0 (w.alloc _) (by simp) (by omega)

theorem l2Succs_any (k a t l : Int) (w : World) :
    Calls Try.prog 44 #[vEnd k a t l] w (GivesI (toL k t l) w) := by
  by_cases h2 : k = 2
  · subst h2; exact l2Succs_2 a t l w
  by_cases h3 : k = 3
  · subst h3; exact l2Succs_3 a t l w
  have e : toL k t l = [] := by unfold toL; rw [if_neg h2, if_neg h3]
  rw [e]
  exact l2Succs_0 k a t l w (by simpa using h2) (by simpa using h3)

set_option maxHeartbeats 400000 in
theorem toEnd_any (k a t l : Int) (w : World) :
    Calls Try.prog 62 #[.agg #[.int .i64 k, .int .i64 a, .int .i64 t, .int .i64 l]] w fun e w' => e = .returned (vEnd k a t l) ∧ Below w.heap.size w w' := by
  go_enter Try.func62, Try.ntmps62
  go_wp2
  refine bodyPost_ret (v := .agg #[.int .i64 k, .int .i64 a, .int .i64 t, .int .i64 l]) (by simp [results, Try.results62, go_sem]) rfl ⟨rfl, ?_⟩
  repeat (first | exact Below.refl _ _ | refine Below.alloc ?_ (by first | (simp; done) | (simp; omega)) _ | refine Below.setCell ?_ (by simp) _)

end Go.Proofs.Ytbghcoihndlihaa
