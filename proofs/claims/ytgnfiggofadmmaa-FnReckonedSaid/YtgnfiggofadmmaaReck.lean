/- FnExactReckoned: for every operation and operands Reckoned answers as its model does; no condition. -/
import Derived.Test.YtgnfiggofadmmaaLeaf
import Derived.Laws.EntriesVeiled
namespace Go.Proofs.Ytgnfiggofadmmaa
open Go.ChangeShapes Go.WideShapes Go.ChangeAt Go.RowKit Go.Joins

def lessB (a b : Int) : Int := if a < b then 1 else 0
def reckB (o a b : Int) : Int :=
  if isValueB a = true ∧ isValueB b = true then
    (if o = 3 then (a + b) % 1000003 else if o = 4 then (a - b + 1000003) % 1000003 else if o = 5 then (a * b) % 1000003 else if o = 6 then lessB a b else -1)
  else -1

theorem isValueB_iff {n : Int} : isValueB n = true ↔ 0 ≤ n ∧ n < 1000003 := by simp [isValueB]
theorem mul_bound {a b : Int} (ha : 0 ≤ a) (ha' : a < 1000003) (hb : 0 ≤ b) (hb' : b < 1000003) : 0 ≤ a * b ∧ a * b ≤ 1000004000004 := by
  refine ⟨Int.mul_nonneg ha hb, ?_⟩
  have : a * b ≤ 1000002 * 1000002 := Int.mul_le_mul (by omega) (by omega) hb (by omega)
  omega

set_option maxHeartbeats 400000 in
theorem sum_any (a b : Int) (w : World) (ha : 0 ≤ a) (ha' : a < 1000003) (hb : 0 ≤ b) (hb' : b < 1000003) :
    Calls Try.prog 40 #[.int .i64 a, .int .i64 b] w fun e w' => e = .returned (.int .i64 ((a + b) % 1000003)) ∧ w = w' := by
  go_enter Try.func40, Try.ntmps40
  go_wp2
  go_ret
  exact ⟨rfl, rfl⟩

set_option maxHeartbeats 400000 in
theorem difference_any (a b : Int) (w : World) (ha : 0 ≤ a) (ha' : a < 1000003) (hb : 0 ≤ b) (hb' : b < 1000003) :
    Calls Try.prog 41 #[.int .i64 a, .int .i64 b] w fun e w' => e = .returned (.int .i64 ((a - b + 1000003) % 1000003)) ∧ w = w' := by
  go_enter Try.func41, Try.ntmps41
  go_wp2
  go_ret
  exact ⟨rfl, rfl⟩

set_option maxHeartbeats 400000 in
theorem product_any (a b : Int) (w : World) (ha : 0 ≤ a) (ha' : a < 1000003) (hb : 0 ≤ b) (hb' : b < 1000003) :
    Calls Try.prog 42 #[.int .i64 a, .int .i64 b] w fun e w' => e = .returned (.int .i64 ((a * b) % 1000003)) ∧ w = w' := by
  obtain ⟨hm, hm'⟩ := mul_bound ha ha' hb hb'
  go_enter Try.func42, Try.ntmps42
  go_wp2
  go_ret
  exact ⟨rfl, rfl⟩

set_option maxHeartbeats 400000 in
theorem less_any (a b : Int) (w : World) :
    Calls Try.prog 43 #[.int .i64 a, .int .i64 b] w fun e w' => e = .returned (.int .i64 (lessB a b)) ∧ w = w' := by
  by_cases h : a < b
  · have HE : Hid (lessB a b = 1) := if_pos h
    go_enter Try.func43, Try.ntmps43
    go_wp2
    go_ret
    exact ⟨by rw [HE.out]; rfl, rfl⟩
  · have HE : Hid (lessB a b = 0) := if_neg h
    go_enter Try.func43, Try.ntmps43
    go_wp2
    go_ret
    exact ⟨by rw [HE.out]; rfl, rfl⟩

set_option maxHeartbeats 400000 in
theorem reckoners_any (w : World) :
    Calls Try.prog 31 #[] w fun e w' => e = .returned (.agg #[.func (.func 40) #[] #[], .func (.func 41) #[] #[], .func (.func 42) #[] #[], .func (.func 43) #[] #[]]) ∧ Below w.heap.size w w' := by
  go_enter Try.func31, Try.ntmps31
  go_wp2
  refine bodyPost_ret (v := .agg #[.func (.func 40) #[] #[], .func (.func 41) #[] #[], .func (.func 42) #[] #[], .func (.func 43) #[] #[]]) (by simp [results, Try.results31, go_sem]) rfl ⟨rfl, ?_⟩
  repeat (first | exact Below.refl _ _ | refine Below.alloc ?_ (by first | (simp; done) | (simp; omega)) _ | refine Below.setCell ?_ (by simp) _)

theorem table_0 (w : World) : (Instr.index 52 (.agg #[.func (.func 40) #[] #[], .func (.func 41) #[] #[], .func (.func 42) #[] #[], .func (.func 43) #[] #[]]) (.int .i64 0)).run Try.prog w = .ok (.func (.func 40) #[] #[]) w := by kernel_rfl

set_option maxHeartbeats 400000 in
theorem Reckoned_3 (a b : Int) (w : World) (ha : isValueB a = true) (hb : isValueB b = true) :
    Calls Try.prog 10 #[.int .i64 3, .int .i64 a, .int .i64 b] w fun e w' => e = .returned (.int .i64 (reckB 3 a b)) ∧ Below w.heap.size w w' := by
  obtain ⟨ha1, ha2⟩ := isValueB_iff.1 ha
  obtain ⟨hq1, hq2⟩ := isValueB_iff.1 hb
  have HE : Hid (reckB 3 a b = (a + b) % 1000003) := by simp [Hid, reckB, ha, hb]
  have ht := table_0
  go_enter Try.func10, Try.ntmps10
  go_wp2_with (first
    | (go_at_call 30; refine (isValue_any _ _).mono ?_; rintro e w' ⟨rfl, rfl⟩)
    | (go_at_call 31; refine (reckoners_any _).mono ?_; rintro e w1 ⟨rfl, hb1⟩)
    | (go_at_call 40; refine (sum_any _ _ _ ha1 ha2 hq1 hq2).mono ?_; rintro e w' ⟨rfl, rfl⟩))
  go_ret
  exact ⟨by rw [HE.out]; rfl, hb1⟩

theorem table_1 (w : World) : (Instr.index 52 (.agg #[.func (.func 40) #[] #[], .func (.func 41) #[] #[], .func (.func 42) #[] #[], .func (.func 43) #[] #[]]) (.int .i64 1)).run Try.prog w = .ok (.func (.func 41) #[] #[]) w := by kernel_rfl

set_option maxHeartbeats 400000 in
theorem Reckoned_4 (a b : Int) (w : World) (ha : isValueB a = true) (hb : isValueB b = true) :
    Calls Try.prog 10 #[.int .i64 4, .int .i64 a, .int .i64 b] w fun e w' => e = .returned (.int .i64 (reckB 4 a b)) ∧ Below w.heap.size w w' := by
  obtain ⟨ha1, ha2⟩ := isValueB_iff.1 ha
  obtain ⟨hq1, hq2⟩ := isValueB_iff.1 hb
  have HE : Hid (reckB 4 a b = (a - b) % 1000003) := by simp [Hid, reckB, ha, hb]
  have ht := table_1
  go_enter Try.func10, Try.ntmps10
  go_wp2_with (first
    | (go_at_call 30; refine (isValue_any _ _).mono ?_; rintro e w' ⟨rfl, rfl⟩)
    | (go_at_call 31; refine (reckoners_any _).mono ?_; rintro e w1 ⟨rfl, hb1⟩)
    | (go_at_call 41; refine (difference_any _ _ _ ha1 ha2 hq1 hq2).mono ?_; rintro e w' ⟨rfl, rfl⟩))
  go_ret
  exact ⟨by rw [HE.out]; rfl, hb1⟩

theorem table_2 (w : World) : (Instr.index 52 (.agg #[.func (.func 40) #[] #[], .func (.func 41) #[] #[], .func (.func 42) #[] #[], .func (.func 43) #[] #[]]) (.int .i64 2)).run Try.prog w = .ok (.func (.func 42) #[] #[]) w := by kernel_rfl

set_option maxHeartbeats 400000 in
theorem Reckoned_5 (a b : Int) (w : World) (ha : isValueB a = true) (hb : isValueB b = true) :
    Calls Try.prog 10 #[.int .i64 5, .int .i64 a, .int .i64 b] w fun e w' => e = .returned (.int .i64 (reckB 5 a b)) ∧ Below w.heap.size w w' := by
  obtain ⟨ha1, ha2⟩ := isValueB_iff.1 ha
  obtain ⟨hq1, hq2⟩ := isValueB_iff.1 hb
  have HE : Hid (reckB 5 a b = (a * b) % 1000003) := by simp [Hid, reckB, ha, hb]
  have ht := table_2
  go_enter Try.func10, Try.ntmps10
  go_wp2_with (first
    | (go_at_call 30; refine (isValue_any _ _).mono ?_; rintro e w' ⟨rfl, rfl⟩)
    | (go_at_call 31; refine (reckoners_any _).mono ?_; rintro e w1 ⟨rfl, hb1⟩)
    | (go_at_call 42; refine (product_any _ _ _ ha1 ha2 hq1 hq2).mono ?_; rintro e w' ⟨rfl, rfl⟩))
  go_ret
  exact ⟨by rw [HE.out]; rfl, hb1⟩

theorem table_3 (w : World) : (Instr.index 52 (.agg #[.func (.func 40) #[] #[], .func (.func 41) #[] #[], .func (.func 42) #[] #[], .func (.func 43) #[] #[]]) (.int .i64 3)).run Try.prog w = .ok (.func (.func 43) #[] #[]) w := by kernel_rfl

set_option maxHeartbeats 400000 in
theorem Reckoned_6 (a b : Int) (w : World) (ha : isValueB a = true) (hb : isValueB b = true) :
    Calls Try.prog 10 #[.int .i64 6, .int .i64 a, .int .i64 b] w fun e w' => e = .returned (.int .i64 (reckB 6 a b)) ∧ Below w.heap.size w w' := by
  obtain ⟨ha1, ha2⟩ := isValueB_iff.1 ha
  obtain ⟨hq1, hq2⟩ := isValueB_iff.1 hb
  have HE : Hid (reckB 6 a b = lessB a b) := by simp [Hid, reckB, ha, hb]
  have ht := table_3
  go_enter Try.func10, Try.ntmps10
  go_wp2_with (first
    | (go_at_call 30; refine (isValue_any _ _).mono ?_; rintro e w' ⟨rfl, rfl⟩)
    | (go_at_call 31; refine (reckoners_any _).mono ?_; rintro e w1 ⟨rfl, hb1⟩)
    | (go_at_call 43; refine (less_any _ _ _ ).mono ?_; rintro e w' ⟨rfl, rfl⟩))
  go_ret
  exact ⟨by rw [HE.out]; rfl, hb1⟩

set_option maxHeartbeats 400000 in
theorem Reckoned_any (o a b : Int) (w : World) :
    Calls Try.prog 10 #[.int .i64 o, .int .i64 a, .int .i64 b] w fun e w' => e = .returned (.int .i64 (reckB o a b)) ∧ Below w.heap.size w w' := by
  by_cases ho : 3 ≤ o ∧ o ≤ 6
  · by_cases ha : isValueB a = true
    · by_cases hb : isValueB b = true
      · by_cases h3 : o = 3
        · subst h3; exact Reckoned_3 a b w ha hb
        by_cases h4 : o = 4
        · subst h4; exact Reckoned_4 a b w ha hb
        by_cases h5 : o = 5
        · subst h5; exact Reckoned_5 a b w ha hb
        obtain rfl : o = 6 := by omega
        exact Reckoned_6 a b w ha hb
      · have HE : Hid (reckB o a b = -1) := by simp [Hid, reckB, hb]
        simp only [Bool.not_eq_true] at hb
        obtain ⟨h3, h6⟩ := ho
        go_enter Try.func10, Try.ntmps10
        go_wp2_with (go_at_call 30; refine (isValue_any _ _).mono ?_; rintro e w' ⟨rfl, rfl⟩)
        go_ret
        exact ⟨by rw [HE.out]; rfl, Below.refl _ _⟩
    · have HE : Hid (reckB o a b = -1) := by simp [Hid, reckB, ha]
      simp only [Bool.not_eq_true] at ha
      obtain ⟨h3, h6⟩ := ho
      go_enter Try.func10, Try.ntmps10
      go_wp2_with (go_at_call 30; refine (isValue_any _ _).mono ?_; rintro e w' ⟨rfl, rfl⟩)
      go_ret
      exact ⟨by rw [HE.out]; rfl, Below.refl _ _⟩
  · have HE : Hid (reckB o a b = -1) := by
      unfold Hid reckB
      split
      · rw [if_neg (by omega), if_neg (by omega), if_neg (by omega), if_neg (by omega)]
      · rfl
    by_cases h3 : o < 3
    · clear ho
      go_enter Try.func10, Try.ntmps10
      go_wp2
      go_ret
      exact ⟨by rw [HE.out]; rfl, Below.refl _ _⟩
    · have h6 : 6 < o := by omega
      clear ho
      go_enter Try.func10, Try.ntmps10
      go_wp2
      go_ret
      exact ⟨by rw [HE.out]; rfl, Below.refl _ _⟩

set_option maxHeartbeats 400000 in
theorem sReckoned_any (o a b : Int) (w : World) :
    Calls Try.prog 14 #[.int .i64 o, .int .i64 a, .int .i64 b] w fun e w' => e = .returned (.int .i64 (reckB o a b)) ∧ w = w' := by
  by_cases ha : isValueB a = true
  · by_cases hb : isValueB b = true
    · obtain ⟨ha1, ha2⟩ := isValueB_iff.1 ha
      obtain ⟨hb1, hb2⟩ := isValueB_iff.1 hb
      obtain ⟨hm, hm'⟩ := mul_bound ha1 ha2 hb1 hb2
      by_cases h3 : o = 3
      · subst h3
        have HE : Hid (reckB 3 a b = (a + b) % 1000003) := by simp [Hid, reckB, ha, hb]
        go_enter Try.func14, Try.ntmps14
        go_wp2_with (go_at_call 34; refine (l1Value_any _ _).mono ?_; rintro e w' ⟨rfl, rfl⟩)
        go_ret
        exact ⟨by rw [HE.out]; rfl, rfl⟩
      by_cases h4 : o = 4
      · subst h4
        have HE : Hid (reckB 4 a b = (a - b + 1000003) % 1000003) := by simp [Hid, reckB, ha, hb]
        go_enter Try.func14, Try.ntmps14
        go_wp2_with (go_at_call 34; refine (l1Value_any _ _).mono ?_; rintro e w' ⟨rfl, rfl⟩)
        go_ret
        exact ⟨by rw [HE.out]; rfl, rfl⟩
      by_cases h5 : o = 5
      · subst h5
        have HE : Hid (reckB 5 a b = (a * b) % 1000003) := by simp [Hid, reckB, ha, hb]
        go_enter Try.func14, Try.ntmps14
        go_wp2_with (go_at_call 34; refine (l1Value_any _ _).mono ?_; rintro e w' ⟨rfl, rfl⟩)
        go_ret
        exact ⟨by rw [HE.out]; rfl, rfl⟩
      by_cases h6 : o = 6
      · subst h6
        have HE : Hid (reckB 6 a b = lessB a b) := by simp [Hid, reckB, ha, hb]
        by_cases hlt : a < b
        · have H1 : Hid (lessB a b = 1) := if_pos hlt
          go_enter Try.func14, Try.ntmps14
          go_wp2_with (go_at_call 34; refine (l1Value_any _ _).mono ?_; rintro e w' ⟨rfl, rfl⟩)
          go_ret
          exact ⟨by rw [HE.out, H1.out]; rfl, rfl⟩
        · have H1 : Hid (lessB a b = 0) := if_neg hlt
          go_enter Try.func14, Try.ntmps14
          go_wp2_with (go_at_call 34; refine (l1Value_any _ _).mono ?_; rintro e w' ⟨rfl, rfl⟩)
          go_ret
          exact ⟨by rw [HE.out, H1.out]; rfl, rfl⟩
      have HE : Hid (reckB o a b = -1) := by simp [Hid, reckB, ha, hb, h3, h4, h5, h6]
      have b3 : (o == 3) = false := by simpa using h3
      have b4 : (o == 4) = false := by simpa using h4
      have b5 : (o == 5) = false := by simpa using h5
      have b6 : (o == 6) = false := by simpa using h6
      clear h3 h4 h5 h6
      go_enter Try.func14, Try.ntmps14
      go_wp2_with (go_at_call 34; refine (l1Value_any _ _).mono ?_; rintro e w' ⟨rfl, rfl⟩)
      go_ret
      exact ⟨by rw [HE.out]; rfl, rfl⟩
    · have HE : Hid (reckB o a b = -1) := by simp [Hid, reckB, hb]
      simp only [Bool.not_eq_true] at hb
      go_enter Try.func14, Try.ntmps14
      go_wp2_with (go_at_call 34; refine (l1Value_any _ _).mono ?_; rintro e w' ⟨rfl, rfl⟩)
      go_ret
      exact ⟨by rw [HE.out]; rfl, rfl⟩
  · have HE : Hid (reckB o a b = -1) := by simp [Hid, reckB, ha]
    simp only [Bool.not_eq_true] at ha
    go_enter Try.func14, Try.ntmps14
    go_wp2_with (go_at_call 34; refine (l1Value_any _ _).mono ?_; rintro e w' ⟨rfl, rfl⟩)
    go_ret
    exact ⟨by rw [HE.out]; rfl, rfl⟩

set_option maxHeartbeats 400000 in
theorem FnExactReckoned_any (o a b : Int) (w : World) :
    Calls Try.prog 6 #[.int .i64 o, .int .i64 a, .int .i64 b] w fun e w' => e = .returned (.bool true) ∧ Below w.heap.size w w' := by
  go_enter Try.func6, Try.ntmps6
  go_wp2_with fail
  refine (sReckoned_any _ _ _ _).mono ?_
  rintro e w' ⟨rfl, rfl⟩
  go_wp2_with fail
  refine (Reckoned_any _ _ _ _).mono ?_
  rintro e w1 ⟨rfl, hb1⟩
  go_wp2_with fail
  go_ret
  exact ⟨rfl, hb1⟩

set_option maxRecDepth 100000 in
theorem FnExactReckoned_lifted (os : Os) (started : os.Started) (H : Type) (enc : TypeId × Value → H) :
    ReturnsInHanded {} Try.checked os 6 .any (Rows.fnExactReckonedSpec.pre6 enc Try.prog Try.f6 Rows.fnExactReckonedRow.domain false) (Rows.fnExactReckonedSpec.post enc Try.prog Try.f6 false true false false) := by
  refine returnsInHanded_of_change (C := Try.checked) Try.own started (by kernel_rfl) Try.func6
    (ChangeSpec.witness6 (enc := enc) (C := Try.checked) false ⟨#[], #[.int .i64 0, .int .i64 0, .int .i64 0], []⟩ 8 (by kernel_rfl) (by kernel_rfl) (by kernel_rfl) (by kernel_rfl)) ?_
  intro W base args ds gs before hval0 hW _ _
  have hval : ∀ (j : Nat) t v, Try.f6.params[j]? = some t → args[j]? = some v → Value.okWide Try.prog W .any base t v := hval0
  have hW' : DataW.Whole enc Try.prog Try.f6.params.toList Rows.fnExactReckonedSpec.vars false W args.toList ds gs before := hW
  obtain ⟨p, q, hA, hV, rfl, _, _⟩ := hW'
  rw [Try.params6] at hA hval
  obtain ⟨v0, v1, v2, d0, d1, d2, p0, p1, p2, rfl, rfl, rfl, h0, h1, h2⟩ := trodAll_three hA
  obtain ⟨rfl, rfl⟩ := trodVars_none hV
  obtain ⟨a0, rfl, rfl, rfl, -⟩ := open_int Try.underlying2 (hval 0 _ v0 rfl rfl) h0
  obtain ⟨a1, rfl, rfl, rfl, -⟩ := open_int Try.underlying2 (hval 1 _ v1 rfl rfl) h1
  obtain ⟨a2, rfl, rfl, rfl, -⟩ := open_int Try.underlying2 (hval 2 _ v2 rfl rfl) h2
  refine (FnExactReckoned_any a0 a1 a2 W).mono fun e W' ⟨he, hb⟩ => ⟨_, he, ?_⟩
  exact law_done (t := 4) Try.laidOut (by kernel_rfl) (by kernel_rfl) Try.underlying4 rfl hW ⟨rfl, rfl, rfl⟩ hb

theorem FnExactReckoned_holds : Rows.FnExactReckonedSaid :=
  OpenClaim.holds_of_wide 6 Try.f6 rfl rfl rfl rfl rfl rfl rfl ⟨rfl, rfl, rfl, rfl, rfl⟩ rfl rfl rfl rfl rfl (by kernel_rfl) Try.func6 (by kernel_rfl)
    (of_decide_eq_true (by kernel_rfl)) (by unfold Func.isWrapper; first | (rw [if_pos (by decide +kernel)]; kernel_rfl) | (rw [if_neg (by decide +kernel)]; exact ⟨rfl, rfl⟩))
    (fun os started H enc _ => FnExactReckoned_lifted os started H enc)

end Go.Proofs.Ytgnfiggofadmmaa
