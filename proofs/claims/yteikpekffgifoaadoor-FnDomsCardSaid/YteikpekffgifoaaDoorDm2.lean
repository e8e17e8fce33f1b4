/- Leaf, ToIns, Uses, End, Bs, Bools, Row, joined. -/
import Derived.Test.YteikpekffgifoaaDoorDm1
import Derived.Deep.Onto
import Derived.Laws.ShiftsVarLaws
import Derived.Laws.MakeOwn
import Derived.Laws.Rows
namespace Go.Proofs.YteikpekffgifoaaDoor

/- Contracts of the small functions of chapter 1. -/
section
open Go.RowKit

def isNameB (n : Int) : Bool := decide (0 ≤ n) && decide (n < 150)
def isValueB (n : Int) : Bool := decide (0 ≤ n) && decide (n < 1000003)

set_option maxHeartbeats 400000 in
theorem isName_any (n : Int) (w : World) :
    Calls Tryd.prog 111 #[.int .i64 n] w fun e w' => e = .returned (.bool (isNameB n)) ∧ w = w' := by
  by_cases h0 : 0 ≤ n
  all_goals go_enter Tryd.func111, Tryd.ntmps111
  all_goals go_wp2
  all_goals go_ret
  all_goals exact ⟨by simp [isNameB]; try omega, rfl⟩

set_option maxHeartbeats 400000 in
theorem isValue_any (n : Int) (w : World) :
    Calls Tryd.prog 112 #[.int .i64 n] w fun e w' => e = .returned (.bool (isValueB n)) ∧ w = w' := by
  by_cases h0 : 0 ≤ n
  all_goals go_enter Tryd.func112, Tryd.ntmps112
  all_goals go_wp2
  all_goals go_ret
  all_goals exact ⟨by simp [isValueB]; try omega, rfl⟩

set_option maxHeartbeats 400000 in
theorem l1In_any (n a b : Int) (w : World) :
    Calls Tryd.prog 59 #[.int .i64 n, .int .i64 a, .int .i64 b] w fun e w' => e = .returned (.bool (decide (a ≤ n) && decide (n ≤ b))) ∧ w = w' := by
  by_cases h0 : a ≤ n
  all_goals go_enter Tryd.func59, Tryd.ntmps59
  all_goals go_wp2
  all_goals go_ret
  all_goals exact ⟨by simp; try omega, rfl⟩

set_option maxHeartbeats 400000 in
theorem l1Name_any (n : Int) (w : World) :
    Calls Tryd.prog 100 #[.int .i64 n] w fun e w' => e = .returned (.bool (isNameB n)) ∧ w = w' := by
  have h : (decide (0 ≤ n) && decide (n ≤ 149)) = isNameB n := by unfold isNameB; congr 1; rw [decide_eq_decide]; omega
  go_enter Tryd.func100, Tryd.ntmps100
  go_wp2_with (go_at_call 59; refine (l1In_any _ _ _ _).mono ?_; rintro e w' ⟨rfl, rfl⟩)
  go_ret
  exact ⟨rfl, rfl⟩

set_option maxHeartbeats 400000 in
theorem l1Value_any (n : Int) (w : World) :
    Calls Tryd.prog 114 #[.int .i64 n] w fun e w' => e = .returned (.bool (isValueB n)) ∧ w = w' := by
  have h : (decide (0 ≤ n) && decide (n ≤ 1000002)) = isValueB n := by unfold isValueB; congr 1; rw [decide_eq_decide]; omega
  go_enter Tryd.func114, Tryd.ntmps114
  go_wp2_with (go_at_call 59; refine (l1In_any _ _ _ _).mono ?_; rintro e w' ⟨rfl, rfl⟩)
  go_ret
  exact ⟨rfl, rfl⟩

def insOkB (o v a b : Int) : Bool :=
  if o = 1 then isNameB v && isValueB a && (b == 0)
  else if o = 2 then isNameB v && isNameB a && (b == 0)
  else if 3 ≤ o ∧ o ≤ 6 then isNameB v && isNameB a && isNameB b
  else if o = 7 then (v == -1) && isNameB a && (b == 0)
  else false


set_option maxHeartbeats 400000 in
theorem InsOk_1 (v a b : Int) (w : World) :
    Calls Tryd.prog 97 #[.agg #[.int .i64 1, .int .i64 v, .int .i64 a, .int .i64 b]] w fun e w' => e = .returned (.bool (insOkB 1 v a b)) ∧ Below w.heap.size w w' := by
  cases hv : isNameB v <;> cases ha : isValueB a
  all_goals go_enter Tryd.func97, Tryd.ntmps97
  all_goals go_wp2_with (first
    | (go_at_call 111; refine (isName_any _ _).mono ?_; rintro e w' ⟨rfl, rfl⟩)
    | (go_at_call 112; refine (isValue_any _ _).mono ?_; rintro e w' ⟨rfl, rfl⟩))
  all_goals go_ret
  all_goals exact ⟨by simp [insOkB, hv, ha], (Below.refl _ _).alloc (Nat.le_refl _) _⟩

set_option maxHeartbeats 400000 in
theorem InsOk_2 (v a b : Int) (w : World) :
    Calls Tryd.prog 97 #[.agg #[.int .i64 2, .int .i64 v, .int .i64 a, .int .i64 b]] w fun e w' => e = .returned (.bool (insOkB 2 v a b)) ∧ Below w.heap.size w w' := by
  cases hv : isNameB v <;> cases ha : isNameB a
  all_goals go_enter Tryd.func97, Tryd.ntmps97
  all_goals go_wp2_with (first
    | (go_at_call 111; refine (isName_any _ _).mono ?_; rintro e w' ⟨rfl, rfl⟩))
  all_goals go_ret
  all_goals exact ⟨by simp [insOkB, hv, ha], (Below.refl _ _).alloc (Nat.le_refl _) _⟩

set_option maxHeartbeats 400000 in
theorem InsOk_3 (o v a b : Int) (w : World) (h : o = 3 ∨ o = 4 ∨ o = 5 ∨ o = 6) :
    Calls Tryd.prog 97 #[.agg #[.int .i64 o, .int .i64 v, .int .i64 a, .int .i64 b]] w fun e w' => e = .returned (.bool (insOkB o v a b)) ∧ Below w.heap.size w w' := by
  rcases h with rfl | rfl | rfl | rfl
  all_goals cases hv : isNameB v <;> cases ha : isNameB a
  all_goals go_enter Tryd.func97, Tryd.ntmps97
  all_goals go_wp2_with (first
    | (go_at_call 111; refine (isName_any _ _).mono ?_; rintro e w' ⟨rfl, rfl⟩))
  all_goals go_ret
  all_goals exact ⟨by simp [insOkB, hv, ha], (Below.refl _ _).alloc (Nat.le_refl _) _⟩

set_option maxHeartbeats 400000 in
theorem InsOk_7 (v a b : Int) (w : World) :
    Calls Tryd.prog 97 #[.agg #[.int .i64 7, .int .i64 v, .int .i64 a, .int .i64 b]] w fun e w' => e = .returned (.bool (insOkB 7 v a b)) ∧ Below w.heap.size w w' := by
  by_cases hv : v = -1
  · subst hv
    cases ha : isNameB a
    all_goals go_enter Tryd.func97, Tryd.ntmps97
    all_goals go_wp2_with (first
      | (go_at_call 111; refine (isName_any _ _).mono ?_; rintro e w' ⟨rfl, rfl⟩))
    all_goals go_ret
    all_goals exact ⟨by simp [insOkB, ha], (Below.refl _ _).alloc (Nat.le_refl _) _⟩
  · have hb : (v == -1) = false := by simpa using hv
    go_enter Tryd.func97, Tryd.ntmps97
    go_wp2_with (first
      | (go_at_call 111; refine (isName_any _ _).mono ?_; rintro e w' ⟨rfl, rfl⟩))
    go_ret
    exact ⟨by simp [insOkB, hv], (Below.refl _ _).alloc (Nat.le_refl _) _⟩

set_option maxHeartbeats 400000 in
theorem InsOk_0 (o v a b : Int) (w : World) (h : o < 1 ∨ 7 < o) :
    Calls Tryd.prog 97 #[.agg #[.int .i64 o, .int .i64 v, .int .i64 a, .int .i64 b]] w fun e w' => e = .returned (.bool (insOkB o v a b)) ∧ Below w.heap.size w w' := by
  have h1 : (o == 1) = false := by simp; omega
  have h2 : (o == 2) = false := by simp; omega
  have h3 : (o == 3) = false := by simp; omega
  have h4 : (o == 4) = false := by simp; omega
  have h5 : (o == 5) = false := by simp; omega
  have h6 : (o == 6) = false := by simp; omega
  have h7 : (o == 7) = false := by simp; omega
  go_enter Tryd.func97, Tryd.ntmps97
  go_wp2
  go_ret
  refine ⟨?_, (Below.refl _ _).alloc (Nat.le_refl _) _⟩
  have : insOkB o v a b = false := by
    unfold insOkB
    rw [if_neg (by omega), if_neg (by omega), if_neg (by omega), if_neg (by omega)]
  rw [this]; rfl

theorem InsOk_any (o v a b : Int) (w : World) :
    Calls Tryd.prog 97 #[.agg #[.int .i64 o, .int .i64 v, .int .i64 a, .int .i64 b]] w fun e w' => e = .returned (.bool (insOkB o v a b)) ∧ Below w.heap.size w w' := by
  by_cases h0 : o < 1 ∨ 7 < o
  · exact InsOk_0 o v a b w h0
  · by_cases h1 : o = 1
    · subst h1; exact InsOk_1 v a b w
    · by_cases h2 : o = 2
      · subst h2; exact InsOk_2 v a b w
      · by_cases h7 : o = 7
        · subst h7; exact InsOk_7 v a b w
        · exact InsOk_3 o v a b w (by omega)

set_option maxHeartbeats 400000 in
theorem sInsOk_any (o v a b : Int) (w : World) :
    Calls Tryd.prog 102 #[.agg #[.int .i64 o, .int .i64 v, .int .i64 a, .int .i64 b]] w fun e w' => e = .returned (.bool (insOkB o v a b)) ∧ Below w.heap.size w w' := by
  by_cases h1 : o = 1
  · subst h1
    cases hv : isNameB v <;> cases ha : isValueB a
    all_goals go_enter Tryd.func102, Tryd.ntmps102
    all_goals go_wp2_with (first
      | (go_at_call 100; refine (l1Name_any _ _).mono ?_; rintro e w' ⟨rfl, rfl⟩)
      | (go_at_call 114; refine (l1Value_any _ _).mono ?_; rintro e w' ⟨rfl, rfl⟩))
    all_goals go_ret
    all_goals exact ⟨by simp [insOkB, hv, ha], (Below.refl _ _).alloc (Nat.le_refl _) _⟩
  by_cases h2 : o = 2
  · subst h2
    cases hv : isNameB v <;> cases ha : isNameB a
    all_goals go_enter Tryd.func102, Tryd.ntmps102
    all_goals go_wp2_with (first
      | (go_at_call 100; refine (l1Name_any _ _).mono ?_; rintro e w' ⟨rfl, rfl⟩))
    all_goals go_ret
    all_goals exact ⟨by simp [insOkB, hv, ha], (Below.refl _ _).alloc (Nat.le_refl _) _⟩
  have hb1 : (o == 1) = false := by simpa using h1
  have hb2 : (o == 2) = false := by simpa using h2
  by_cases h3 : 3 ≤ o ∧ o ≤ 6
  · obtain ⟨h3, h6⟩ := h3
    have hE : Hid (insOkB o v a b = (isNameB v && isNameB a && isNameB b)) := by unfold Hid insOkB; rw [if_neg h1, if_neg h2, if_pos ⟨h3, h6⟩]
    clear h1 h2
    cases hv : isNameB v <;> cases ha : isNameB a
    all_goals go_enter Tryd.func102, Tryd.ntmps102
    all_goals go_wp2_with (first
      | (go_at_call 100; refine (l1Name_any _ _).mono ?_; rintro e w' ⟨rfl, rfl⟩))
    all_goals go_ret
    all_goals exact ⟨by rw [hE.out, hv, ha]; rfl, (Below.refl _ _).alloc (Nat.le_refl _) _⟩
  by_cases h7 : o = 7
  · subst h7
    by_cases hv : v = -1
    · subst hv
      cases ha : isNameB a
      all_goals go_enter Tryd.func102, Tryd.ntmps102
      all_goals go_wp2_with (first
        | (go_at_call 100; refine (l1Name_any _ _).mono ?_; rintro e w' ⟨rfl, rfl⟩))
      all_goals go_ret
      all_goals exact ⟨by simp [insOkB, ha], (Below.refl _ _).alloc (Nat.le_refl _) _⟩
    · have hb : (v == -1) = false := by simpa using hv
      go_enter Tryd.func102, Tryd.ntmps102
      go_wp2_with (first
        | (go_at_call 100; refine (l1Name_any _ _).mono ?_; rintro e w' ⟨rfl, rfl⟩))
      go_ret
      exact ⟨by simp [insOkB, hb], (Below.refl _ _).alloc (Nat.le_refl _) _⟩
  · have hb7 : (o == 7) = false := by simpa using h7
    have hE : Hid (insOkB o v a b = false) := by unfold Hid insOkB; rw [if_neg h1, if_neg h2, if_neg h3, if_neg h7]
    clear h1 h2 h7
    by_cases h3' : 3 ≤ o
    · have h6 : ¬ o ≤ 6 := fun h => h3 ⟨h3', h⟩
      clear h3
      go_enter Tryd.func102, Tryd.ntmps102
      go_wp2
      go_ret
      exact ⟨by rw [hE.out]; rfl, (Below.refl _ _).alloc (Nat.le_refl _) _⟩
    · clear h3
      go_enter Tryd.func102, Tryd.ntmps102
      go_wp2
      go_ret
      exact ⟨by rw [hE.out]; rfl, (Below.refl _ _).alloc (Nat.le_refl _) _⟩
end

/- toIns of the laws. -/
section
open Go.ChangeShapes Go.WideShapes Go.ChangeAt Go.RowKit Go.Joins

set_option maxHeartbeats 400000 in
theorem toIns_any (o v a b : Int) (w : World) :
    Calls Tryd.prog 107 #[.agg #[.int .i64 o, .int .i64 v, .int .i64 a, .int .i64 b]] w fun e w' => e = .returned (.agg #[.int .i64 o, .int .i64 v, .int .i64 a, .int .i64 b]) ∧ Below w.heap.size w w' := by
  go_enter Tryd.func107, Tryd.ntmps107
  go_wp2
  refine bodyPost_ret (v := .agg #[.int .i64 o, .int .i64 v, .int .i64 a, .int .i64 b]) (by simp [results, Tryd.results107, go_sem]) rfl ⟨rfl, ?_⟩
  repeat (first | exact Below.refl _ _ | refine Below.alloc ?_ (by first | (simp; done) | (simp; omega)) _ | refine Below.setCell ?_ (by simp) _)
end

/- UsesOf and its model answer the same names. -/
section
open Go.ChangeShapes Go.WideShapes Go.ChangeAt Go.RowKit Go.Joins

def usesL (o v a b : Int) : List Int := if insOkB o v a b = true then (if o = 1 then [] else if 3 ≤ o ∧ o ≤ 6 then [a, b] else [a]) else []

theorem OI_lit0 (w : World) {B g : Nat} (hg : w.heap.size = g) (hB : B ≤ g) : OI (w.alloc (.cells #[] 2)) B (.slice (some ⟨g, 0, none⟩) 0 0) [] := by
  subst hg
  exact World.ownsRow_lit (base := B) (e := 2) (size := 1) w #[] 0 hB (by simp) rfl
theorem OI_lit1 (w : World) (a : Int) {B g : Nat} (hg : w.heap.size = g) (hB : B ≤ g) : OI (w.alloc (.cells #[.int .i64 a] 2)) B (.slice (some ⟨g, 0, none⟩) 1 1) [a] := by
  subst hg
  exact World.ownsRow_lit (base := B) (e := 2) (size := 1) w #[.int .i64 a] 1 hB (by rw [maxLen_is]; omega) rfl
theorem OI_lit2 (w : World) (a b : Int) {B g : Nat} (hg : w.heap.size = g) (hB : B ≤ g) : OI (w.alloc (.cells #[.int .i64 a, .int .i64 b] 2)) B (.slice (some ⟨g, 0, none⟩) 2 2) [a, b] := by
  subst hg
  exact World.ownsRow_lit (base := B) (e := 2) (size := 1) w #[.int .i64 a, .int .i64 b] 2 hB (by rw [maxLen_is]; omega) rfl

theorem below1 {w w1 : World} {o o' : Obj} (hb : Below (w.alloc o).heap.size (w.alloc o) w1) : Below w.heap.size w (w1.alloc o') :=
  (((Below.refl _ _).alloc (Nat.le_refl _) _).trans (hb.mono (by simp))).alloc (by have := hb.size; simp at this; omega) _

set_option maxHeartbeats 400000 in
theorem UsesOf_bad (o v a b : Int) (w : World) (hok : insOkB o v a b = false) :
    Calls Tryd.prog 98 #[.agg #[.int .i64 o, .int .i64 v, .int .i64 a, .int .i64 b]] w fun e w' => ∃ r, e = .returned r ∧ OI w' w.heap.size r (usesL o v a b) ∧ Below w.heap.size w w' := by
  have HE : Hid (usesL o v a b = []) := by simp [Hid, usesL, hok]
  go_enter Tryd.func98, Tryd.ntmps98
  go_wp2_with (go_at_call 97; refine (InsOk_any _ _ _ _ _).mono ?_; rintro e w1 ⟨rfl, hb1⟩; obtain ⟨hc1, hf1⟩ := bcell hb1; have hz1 : w.heap.size < w1.heap.size := (by have := hb1.size; simp at this; omega))
  go_ret
  exact ⟨_, rfl, by rw [HE.out]; exact OI_lit0 _ rfl (by omega), below1 hb1⟩

set_option maxHeartbeats 400000 in
theorem UsesOf_1 (v a b : Int) (w : World) (hok : insOkB 1 v a b = true) :
    Calls Tryd.prog 98 #[.agg #[.int .i64 1, .int .i64 v, .int .i64 a, .int .i64 b]] w fun e w' => ∃ r, e = .returned r ∧ OI w' w.heap.size r (usesL 1 v a b) ∧ Below w.heap.size w w' := by
  have HE : Hid (usesL 1 v a b = []) := by simp [Hid, usesL, hok]
  go_enter Tryd.func98, Tryd.ntmps98
  go_wp2_with (go_at_call 97; refine (InsOk_any _ _ _ _ _).mono ?_; rintro e w1 ⟨rfl, hb1⟩; obtain ⟨hc1, hf1⟩ := bcell hb1; have hz1 : w.heap.size < w1.heap.size := (by have := hb1.size; simp at this; omega))
  go_ret
  exact ⟨_, rfl, by rw [HE.out]; exact OI_lit0 _ rfl (by omega), below1 hb1⟩

set_option maxHeartbeats 400000 in
theorem UsesOf_2 (v a b : Int) (w : World) (hok : insOkB 2 v a b = true) :
    Calls Tryd.prog 98 #[.agg #[.int .i64 2, .int .i64 v, .int .i64 a, .int .i64 b]] w fun e w' => ∃ r, e = .returned r ∧ OI w' w.heap.size r (usesL 2 v a b) ∧ Below w.heap.size w w' := by
  have HE : Hid (usesL 2 v a b = [a]) := by simp [Hid, usesL, hok]
  go_enter Tryd.func98, Tryd.ntmps98
  go_wp2_with (go_at_call 97; refine (InsOk_any _ _ _ _ _).mono ?_; rintro e w1 ⟨rfl, hb1⟩; obtain ⟨hc1, hf1⟩ := bcell hb1; have hz1 : w.heap.size < w1.heap.size := (by have := hb1.size; simp at this; omega))
  go_ret
  exact ⟨_, rfl, by rw [HE.out]; exact OI_lit1 _ _ rfl (by omega), below1 hb1⟩

set_option maxHeartbeats 400000 in
theorem UsesOf_3 (v a b : Int) (w : World) (hok : insOkB 3 v a b = true) :
    Calls Tryd.prog 98 #[.agg #[.int .i64 3, .int .i64 v, .int .i64 a, .int .i64 b]] w fun e w' => ∃ r, e = .returned r ∧ OI w' w.heap.size r (usesL 3 v a b) ∧ Below w.heap.size w w' := by
  have HE : Hid (usesL 3 v a b = [a, b]) := by simp [Hid, usesL, hok]
  go_enter Tryd.func98, Tryd.ntmps98
  go_wp2_with (go_at_call 97; refine (InsOk_any _ _ _ _ _).mono ?_; rintro e w1 ⟨rfl, hb1⟩; obtain ⟨hc1, hf1⟩ := bcell hb1; have hz1 : w.heap.size < w1.heap.size := (by have := hb1.size; simp at this; omega))
  go_ret
  exact ⟨_, rfl, by rw [HE.out]; exact OI_lit2 _ _ _ rfl (by omega), below1 hb1⟩

set_option maxHeartbeats 400000 in
theorem UsesOf_4 (v a b : Int) (w : World) (hok : insOkB 4 v a b = true) :
    Calls Tryd.prog 98 #[.agg #[.int .i64 4, .int .i64 v, .int .i64 a, .int .i64 b]] w fun e w' => ∃ r, e = .returned r ∧ OI w' w.heap.size r (usesL 4 v a b) ∧ Below w.heap.size w w' := by
  have HE : Hid (usesL 4 v a b = [a, b]) := by simp [Hid, usesL, hok]
  go_enter Tryd.func98, Tryd.ntmps98
  go_wp2_with (go_at_call 97; refine (InsOk_any _ _ _ _ _).mono ?_; rintro e w1 ⟨rfl, hb1⟩; obtain ⟨hc1, hf1⟩ := bcell hb1; have hz1 : w.heap.size < w1.heap.size := (by have := hb1.size; simp at this; omega))
  go_ret
  exact ⟨_, rfl, by rw [HE.out]; exact OI_lit2 _ _ _ rfl (by omega), below1 hb1⟩

set_option maxHeartbeats 400000 in
theorem UsesOf_5 (v a b : Int) (w : World) (hok : insOkB 5 v a b = true) :
    Calls Tryd.prog 98 #[.agg #[.int .i64 5, .int .i64 v, .int .i64 a, .int .i64 b]] w fun e w' => ∃ r, e = .returned r ∧ OI w' w.heap.size r (usesL 5 v a b) ∧ Below w.heap.size w w' := by
  have HE : Hid (usesL 5 v a b = [a, b]) := by simp [Hid, usesL, hok]
  go_enter Tryd.func98, Tryd.ntmps98
  go_wp2_with (go_at_call 97; refine (InsOk_any _ _ _ _ _).mono ?_; rintro e w1 ⟨rfl, hb1⟩; obtain ⟨hc1, hf1⟩ := bcell hb1; have hz1 : w.heap.size < w1.heap.size := (by have := hb1.size; simp at this; omega))
  go_ret
  exact ⟨_, rfl, by rw [HE.out]; exact OI_lit2 _ _ _ rfl (by omega), below1 hb1⟩

set_option maxHeartbeats 400000 in
theorem UsesOf_6 (v a b : Int) (w : World) (hok : insOkB 6 v a b = true) :
    Calls Tryd.prog 98 #[.agg #[.int .i64 6, .int .i64 v, .int .i64 a, .int .i64 b]] w fun e w' => ∃ r, e = .returned r ∧ OI w' w.heap.size r (usesL 6 v a b) ∧ Below w.heap.size w w' := by
  have HE : Hid (usesL 6 v a b = [a, b]) := by simp [Hid, usesL, hok]
  go_enter Tryd.func98, Tryd.ntmps98
  go_wp2_with (go_at_call 97; refine (InsOk_any _ _ _ _ _).mono ?_; rintro e w1 ⟨rfl, hb1⟩; obtain ⟨hc1, hf1⟩ := bcell hb1; have hz1 : w.heap.size < w1.heap.size := (by have := hb1.size; simp at this; omega))
  go_ret
  exact ⟨_, rfl, by rw [HE.out]; exact OI_lit2 _ _ _ rfl (by omega), below1 hb1⟩

set_option maxHeartbeats 400000 in
theorem UsesOf_7 (v a b : Int) (w : World) (hok : insOkB 7 v a b = true) :
    Calls Tryd.prog 98 #[.agg #[.int .i64 7, .int .i64 v, .int .i64 a, .int .i64 b]] w fun e w' => ∃ r, e = .returned r ∧ OI w' w.heap.size r (usesL 7 v a b) ∧ Below w.heap.size w w' := by
  have HE : Hid (usesL 7 v a b = [a]) := by simp [Hid, usesL, hok]
  go_enter Tryd.func98, Tryd.ntmps98
  go_wp2_with (go_at_call 97; refine (InsOk_any _ _ _ _ _).mono ?_; rintro e w1 ⟨rfl, hb1⟩; obtain ⟨hc1, hf1⟩ := bcell hb1; have hz1 : w.heap.size < w1.heap.size := (by have := hb1.size; simp at this; omega))
  go_ret
  exact ⟨_, rfl, by rw [HE.out]; exact OI_lit1 _ _ rfl (by omega), below1 hb1⟩

theorem ok_range {o v a b : Int} (h : insOkB o v a b = true) : 1 ≤ o ∧ o ≤ 7 := by
  unfold insOkB at h
  by_cases h1 : o = 1
  · omega
  by_cases h2 : o = 2
  · omega
  by_cases h3 : 3 ≤ o ∧ o ≤ 6
  · omega
  by_cases h7 : o = 7
  · omega
  rw [if_neg h1, if_neg h2, if_neg h3, if_neg h7] at h
  cases h

theorem UsesOf_any (o v a b : Int) (w : World) :
    Calls Tryd.prog 98 #[.agg #[.int .i64 o, .int .i64 v, .int .i64 a, .int .i64 b]] w fun e w' => ∃ r, e = .returned r ∧ OI w' w.heap.size r (usesL o v a b) ∧ Below w.heap.size w w' := by
  cases hok : insOkB o v a b
  · exact UsesOf_bad o v a b w hok
  · obtain ⟨h1, h7⟩ := ok_range hok
    have : o = 1 ∨ o = 2 ∨ o = 3 ∨ o = 4 ∨ o = 5 ∨ o = 6 ∨ o = 7 := by omega
    rcases this with rfl | rfl | rfl | rfl | rfl | rfl | rfl
    · exact UsesOf_1 v a b w hok
    · exact UsesOf_2 v a b w hok
    · exact UsesOf_3 v a b w hok
    · exact UsesOf_4 v a b w hok
    · exact UsesOf_5 v a b w hok
    · exact UsesOf_6 v a b w hok
    · exact UsesOf_7 v a b w hok

set_option maxHeartbeats 400000 in
theorem l1Uses_1 (v a b : Int) (w : World) :
    Calls Tryd.prog 103 #[.agg #[.int .i64 1, .int .i64 v, .int .i64 a, .int .i64 b]] w fun e w' => ∃ r, e = .returned r ∧ OI w' w.heap.size r [] ∧ Below w.heap.size w w' := by
  go_enter Tryd.func103, Tryd.ntmps103
  go_wp2
  go_ret
  refine ⟨_, rfl, ?_, ((Below.refl _ _).alloc (Nat.le_refl _) _).alloc (by simp) _⟩
  exact OI_lit0 (w.alloc _) (by simp) (by omega)

set_option maxHeartbeats 400000 in
theorem l1Uses_2 (v a b : Int) (w : World) :
    Calls Tryd.prog 103 #[.agg #[.int .i64 2, .int .i64 v, .int .i64 a, .int .i64 b]] w fun e w' => ∃ r, e = .returned r ∧ OI w' w.heap.size r [a] ∧ Below w.heap.size w w' := by
  go_enter Tryd.func103, Tryd.ntmps103
  go_wp2
  go_ret
  refine ⟨_, rfl, ?_, ((Below.refl _ _).alloc (Nat.le_refl _) _).alloc (by simp) _⟩
  exact OI_lit1 (w.alloc _) _ (by simp) (by omega)

set_option maxHeartbeats 400000 in
theorem l1Uses_3 (v a b : Int) (w : World) :
    Calls Tryd.prog 103 #[.agg #[.int .i64 3, .int .i64 v, .int .i64 a, .int .i64 b]] w fun e w' => ∃ r, e = .returned r ∧ OI w' w.heap.size r [a, b] ∧ Below w.heap.size w w' := by
  go_enter Tryd.func103, Tryd.ntmps103
  go_wp2
  go_ret
  refine ⟨_, rfl, ?_, ((Below.refl _ _).alloc (Nat.le_refl _) _).alloc (by simp) _⟩
  exact OI_lit2 (w.alloc _) _ _ (by simp) (by omega)

set_option maxHeartbeats 400000 in
theorem l1Uses_4 (v a b : Int) (w : World) :
    Calls Tryd.prog 103 #[.agg #[.int .i64 4, .int .i64 v, .int .i64 a, .int .i64 b]] w fun e w' => ∃ r, e = .returned r ∧ OI w' w.heap.size r [a, b] ∧ Below w.heap.size w w' := by
  go_enter Tryd.func103, Tryd.ntmps103
  go_wp2
  go_ret
  refine ⟨_, rfl, ?_, ((Below.refl _ _).alloc (Nat.le_refl _) _).alloc (by simp) _⟩
  exact OI_lit2 (w.alloc _) _ _ (by simp) (by omega)

set_option maxHeartbeats 400000 in
theorem l1Uses_5 (v a b : Int) (w : World) :
    Calls Tryd.prog 103 #[.agg #[.int .i64 5, .int .i64 v, .int .i64 a, .int .i64 b]] w fun e w' => ∃ r, e = .returned r ∧ OI w' w.heap.size r [a, b] ∧ Below w.heap.size w w' := by
  go_enter Tryd.func103, Tryd.ntmps103
  go_wp2
  go_ret
  refine ⟨_, rfl, ?_, ((Below.refl _ _).alloc (Nat.le_refl _) _).alloc (by simp) _⟩
  exact OI_lit2 (w.alloc _) _ _ (by simp) (by omega)

set_option maxHeartbeats 400000 in
theorem l1Uses_6 (v a b : Int) (w : World) :
    Calls Tryd.prog 103 #[.agg #[.int .i64 6, .int .i64 v, .int .i64 a, .int .i64 b]] w fun e w' => ∃ r, e = .returned r ∧ OI w' w.heap.size r [a, b] ∧ Below w.heap.size w w' := by
  go_enter Tryd.func103, Tryd.ntmps103
  go_wp2
  go_ret
  refine ⟨_, rfl, ?_, ((Below.refl _ _).alloc (Nat.le_refl _) _).alloc (by simp) _⟩
  exact OI_lit2 (w.alloc _) _ _ (by simp) (by omega)

set_option maxHeartbeats 400000 in
theorem l1Uses_7 (v a b : Int) (w : World) :
    Calls Tryd.prog 103 #[.agg #[.int .i64 7, .int .i64 v, .int .i64 a, .int .i64 b]] w fun e w' => ∃ r, e = .returned r ∧ OI w' w.heap.size r [a] ∧ Below w.heap.size w w' := by
  go_enter Tryd.func103, Tryd.ntmps103
  go_wp2
  go_ret
  refine ⟨_, rfl, ?_, ((Below.refl _ _).alloc (Nat.le_refl _) _).alloc (by simp) _⟩
  exact OI_lit1 (w.alloc _) _ (by simp) (by omega)

theorem l1Uses_any (o v a b : Int) (w : World) (hok : insOkB o v a b = true) :
    Calls Tryd.prog 103 #[.agg #[.int .i64 o, .int .i64 v, .int .i64 a, .int .i64 b]] w fun e w' => ∃ r, e = .returned r ∧ OI w' w.heap.size r (usesL o v a b) ∧ Below w.heap.size w w' := by
  obtain ⟨h1, h7⟩ := ok_range hok
  have : o = 1 ∨ o = 2 ∨ o = 3 ∨ o = 4 ∨ o = 5 ∨ o = 6 ∨ o = 7 := by omega
  rcases this with rfl | rfl | rfl | rfl | rfl | rfl | rfl <;> simp only [usesL, hok]
  · exact l1Uses_1 v a b w
  · exact l1Uses_2 v a b w
  · exact l1Uses_3 v a b w
  · exact l1Uses_4 v a b w
  · exact l1Uses_5 v a b w
  · exact l1Uses_6 v a b w
  · exact l1Uses_7 v a b w

theorem usesL_len (o v a b : Int) : (usesL o v a b).length ≤ 2 := by
  unfold usesL; split <;> (try split) <;> (try split) <;> simp

theorem OI.below {w w' : World} {B B' : Nat} {v : Value} {xs : List Int} (h : OI w B v xs) (hb : Below B' w w') (hB : ∀ k, v.ownBlock = some k → k < B') : OI w' B v xs := by
  obtain ⟨h1, h2⟩ := h
  refine ⟨h1, ?_⟩
  rcases h2 with h2 | ⟨g, cap, cur, rfl, hg, hh, r⟩
  · exact .inl h2
  · exact .inr ⟨g, cap, cur, rfl, hg, by rw [hb.block g (hB g rfl)]; exact hh, r⟩

theorem OI.lt {w : World} {B : Nat} {v : Value} {xs : List Int} (h : OI w B v xs) : ∀ k, v.ownBlock = some k → B ≤ k ∧ k < w.heap.size := World.ownsRow.lt h
theorem OI.grown {w w' : World} {B : Nat} {v : Value} {xs : List Int} (h : OI w B v xs) {row : Option Nat} (hg : w.grownBy w' row) (hne : v.ownBlock = none ∨ v.ownBlock ≠ row) : OI w' B v xs := World.ownsRow.kept h hg hne
theorem OI.drewN {w : World} {B : Nat} {v : Value} {xs : List Int} (h : OI w B v xs) (n : Nat) : OI (w.drewN n) B v xs := h
theorem below_drewN {B : Nat} {a w : World} (h : Below B a w) (n : Nat) : Below B a (w.drewN n) := ⟨h.os, h.tape, h.output, h.size, h.block⟩
end

/- EndOk and SuccsOf of both sides, and toEnd of the laws. -/
section
open Go.ChangeShapes Go.WideShapes Go.ChangeAt Go.RowKit Go.Joins

def isBelowB (n m : Int) : Bool := decide (0 ≤ n) && decide (n < m)

set_option maxHeartbeats 400000 in
theorem isBelow_any (n m : Int) (w : World) :
    Calls Tryd.prog 47 #[.int .i64 n, .int .i64 m] w fun e w' => e = .returned (.bool (isBelowB n m)) ∧ w = w' := by
  by_cases h0 : 0 ≤ n
  all_goals go_enter Tryd.func47, Tryd.ntmps47
  all_goals go_wp2
  all_goals go_ret
  all_goals exact ⟨by simp [isBelowB]; try omega, rfl⟩

set_option maxHeartbeats 400000 in
theorem isBlock_any (n : Int) (w : World) :
    Calls Tryd.prog 61 #[.int .i64 n] w fun e w' => e = .returned (.bool (isBelowB n 40)) ∧ w = w' := by
  go_enter Tryd.func61, Tryd.ntmps61
  go_wp2_with (go_at_call 47; refine (isBelow_any _ _ _).mono ?_; rintro e w' ⟨rfl, rfl⟩)
  go_ret
  exact ⟨rfl, rfl⟩

set_option maxHeartbeats 400000 in
theorem l2Block_any (n : Int) (w : World) :
    Calls Tryd.prog 101 #[.int .i64 n] w fun e w' => e = .returned (.bool (isBelowB n 40)) ∧ w = w' := by
  have h : (decide (0 ≤ n) && decide (n ≤ 39)) = isBelowB n 40 := by unfold isBelowB; congr 1; rw [decide_eq_decide]; omega
  go_enter Tryd.func101, Tryd.ntmps101
  go_wp2_with (go_at_call 59; refine (l1In_any _ _ _ _).mono ?_; rintro e w' ⟨rfl, rfl⟩)
  go_ret
  exact ⟨rfl, rfl⟩

/-- The End, as a value. -/
def vEnd (k a t l : Int) : Value := .agg #[.int .i64 k, .int .i64 a, .int .i64 t, .int .i64 l]

def endOkB (k a t l : Int) : Bool :=
  if k = 1 then isNameB a && (t == 0) && (l == 0)
  else if k = 2 then (a == 0) && isBelowB t 40 && (l == 0)
  else if k = 3 then isNameB a && isBelowB t 40 && isBelowB l 40 && (t != l)
  else false

set_option maxHeartbeats 400000 in
theorem EndOk_1 (a t l : Int) (w : World) :
    Calls Tryd.prog 95 #[.agg #[.int .i64 1, .int .i64 a, .int .i64 t, .int .i64 l]] w fun e w' => e = .returned (.bool (endOkB 1 a t l)) ∧ Below w.heap.size w w' := by
  cases ha : isNameB a <;> cases ht : (t == 0)
  all_goals go_enter Tryd.func95, Tryd.ntmps95
  all_goals go_wp2_with (go_at_call 111; refine (isName_any _ _).mono ?_; rintro e w' ⟨rfl, rfl⟩)
  all_goals go_ret
  all_goals exact ⟨by simp [endOkB, ha, ht], (Below.refl _ _).alloc (Nat.le_refl _) _⟩

set_option maxHeartbeats 400000 in
theorem EndOk_2 (a t l : Int) (w : World) :
    Calls Tryd.prog 95 #[.agg #[.int .i64 2, .int .i64 a, .int .i64 t, .int .i64 l]] w fun e w' => e = .returned (.bool (endOkB 2 a t l)) ∧ Below w.heap.size w w' := by
  cases ha : (a == 0) <;> cases ht : isBelowB t 40
  all_goals go_enter Tryd.func95, Tryd.ntmps95
  all_goals go_wp2_with (go_at_call 61; refine (isBlock_any _ _).mono ?_; rintro e w' ⟨rfl, rfl⟩)
  all_goals go_ret
  all_goals exact ⟨by simp [endOkB, ha, ht], (Below.refl _ _).alloc (Nat.le_refl _) _⟩

set_option maxHeartbeats 400000 in
theorem EndOk_3 (a t l : Int) (w : World) :
    Calls Tryd.prog 95 #[.agg #[.int .i64 3, .int .i64 a, .int .i64 t, .int .i64 l]] w fun e w' => e = .returned (.bool (endOkB 3 a t l)) ∧ Below w.heap.size w w' := by
  cases ha : isNameB a <;> cases ht : isBelowB t 40 <;> cases hl : isBelowB l 40
  all_goals go_enter Tryd.func95, Tryd.ntmps95
  all_goals go_wp2_with (first
    | (go_at_call 61; refine (isBlock_any _ _).mono ?_; rintro e w' ⟨rfl, rfl⟩)
    | (go_at_call 111; refine (isName_any _ _).mono ?_; rintro e w' ⟨rfl, rfl⟩))
  all_goals go_ret
  all_goals exact ⟨by simp [endOkB, ha, ht, hl], (Below.refl _ _).alloc (Nat.le_refl _) _⟩

set_option maxHeartbeats 400000 in
theorem EndOk_0 (k a t l : Int) (w : World) (h1 : (k == 1) = false) (h2 : (k == 2) = false) (h3 : (k == 3) = false) :
    Calls Tryd.prog 95 #[.agg #[.int .i64 k, .int .i64 a, .int .i64 t, .int .i64 l]] w fun e w' => e = .returned (.bool (endOkB k a t l)) ∧ Below w.heap.size w w' := by
  have hE : Hid (endOkB k a t l = false) := by
    unfold Hid endOkB
    rw [if_neg (by simpa using h1), if_neg (by simpa using h2), if_neg (by simpa using h3)]
  go_enter Tryd.func95, Tryd.ntmps95
  go_wp2
  go_ret
  exact ⟨by rw [hE.out]; rfl, (Below.refl _ _).alloc (Nat.le_refl _) _⟩

theorem EndOk_any (k a t l : Int) (w : World) :
    Calls Tryd.prog 95 #[vEnd k a t l] w fun e w' => e = .returned (.bool (endOkB k a t l)) ∧ Below w.heap.size w w' := by
  by_cases h1 : k = 1
  · subst h1; exact EndOk_1 a t l w
  by_cases h2 : k = 2
  · subst h2; exact EndOk_2 a t l w
  by_cases h3 : k = 3
  · subst h3; exact EndOk_3 a t l w
  exact EndOk_0 k a t l w (by simpa using h1) (by simpa using h2) (by simpa using h3)

set_option maxHeartbeats 400000 in
theorem sEndOk_1 (a t l : Int) (w : World) :
    Calls Tryd.prog 79 #[.agg #[.int .i64 1, .int .i64 a, .int .i64 t, .int .i64 l]] w fun e w' => e = .returned (.bool (endOkB 1 a t l)) ∧ Below w.heap.size w w' := by
  cases ha : isNameB a <;> cases ht : (t == 0)
  all_goals go_enter Tryd.func79, Tryd.ntmps79
  all_goals go_wp2_with (go_at_call 100; refine (l1Name_any _ _).mono ?_; rintro e w' ⟨rfl, rfl⟩)
  all_goals go_ret
  all_goals exact ⟨by simp [endOkB, ha, ht], (Below.refl _ _).alloc (Nat.le_refl _) _⟩

set_option maxHeartbeats 400000 in
theorem sEndOk_2 (a t l : Int) (w : World) :
    Calls Tryd.prog 79 #[.agg #[.int .i64 2, .int .i64 a, .int .i64 t, .int .i64 l]] w fun e w' => e = .returned (.bool (endOkB 2 a t l)) ∧ Below w.heap.size w w' := by
  cases ha : (a == 0) <;> cases ht : isBelowB t 40
  all_goals go_enter Tryd.func79, Tryd.ntmps79
  all_goals go_wp2_with (go_at_call 101; refine (l2Block_any _ _).mono ?_; rintro e w' ⟨rfl, rfl⟩)
  all_goals go_ret
  all_goals exact ⟨by simp [endOkB, ha, ht], (Below.refl _ _).alloc (Nat.le_refl _) _⟩

set_option maxHeartbeats 400000 in
theorem sEndOk_3 (a t l : Int) (w : World) :
    Calls Tryd.prog 79 #[.agg #[.int .i64 3, .int .i64 a, .int .i64 t, .int .i64 l]] w fun e w' => e = .returned (.bool (endOkB 3 a t l)) ∧ Below w.heap.size w w' := by
  cases ha : isNameB a <;> cases ht : isBelowB t 40 <;> cases hl : isBelowB l 40
  all_goals go_enter Tryd.func79, Tryd.ntmps79
  all_goals go_wp2_with (first
    | (go_at_call 101; refine (l2Block_any _ _).mono ?_; rintro e w' ⟨rfl, rfl⟩)
    | (go_at_call 100; refine (l1Name_any _ _).mono ?_; rintro e w' ⟨rfl, rfl⟩))
  all_goals go_ret
  all_goals exact ⟨by simp [endOkB, ha, ht, hl], (Below.refl _ _).alloc (Nat.le_refl _) _⟩

set_option maxHeartbeats 400000 in
theorem sEndOk_0 (k a t l : Int) (w : World) (h1 : (k == 1) = false) (h2 : (k == 2) = false) (h3 : (k == 3) = false) :
    Calls Tryd.prog 79 #[.agg #[.int .i64 k, .int .i64 a, .int .i64 t, .int .i64 l]] w fun e w' => e = .returned (.bool (endOkB k a t l)) ∧ Below w.heap.size w w' := by
  have hE : Hid (endOkB k a t l = false) := by
    unfold Hid endOkB
    rw [if_neg (by simpa using h1), if_neg (by simpa using h2), if_neg (by simpa using h3)]
  go_enter Tryd.func79, Tryd.ntmps79
  go_wp2
  go_ret
  exact ⟨by rw [hE.out]; rfl, (Below.refl _ _).alloc (Nat.le_refl _) _⟩

theorem sEndOk_any (k a t l : Int) (w : World) :
    Calls Tryd.prog 79 #[vEnd k a t l] w fun e w' => e = .returned (.bool (endOkB k a t l)) ∧ Below w.heap.size w w' := by
  by_cases h1 : k = 1
  · subst h1; exact sEndOk_1 a t l w
  by_cases h2 : k = 2
  · subst h2; exact sEndOk_2 a t l w
  by_cases h3 : k = 3
  · subst h3; exact sEndOk_3 a t l w
  exact sEndOk_0 k a t l w (by simpa using h1) (by simpa using h2) (by simpa using h3)

/-- The targets of an End, whatever else is in it. -/
def toL (k t l : Int) : List Int := if k = 2 then [t] else if k = 3 then [t, l] else []
def succsL (k a t l : Int) : List Int := if endOkB k a t l = true then toL k t l else []
theorem toL_len (k t l : Int) : (toL k t l).length ≤ 2 := by unfold toL; split <;> (try split) <;> simp
theorem succsL_len (k a t l : Int) : (succsL k a t l).length ≤ 2 := by
  unfold succsL; split
  · exact toL_len k t l
  · simp

/-- A call that gives a slice of int64 of its own. -/
def GivesI (xs : List Int) (w : World) (e : Ending) (w' : World) : Prop := ∃ r, e = .returned r ∧ OI w' w.heap.size r xs ∧ Below w.heap.size w w'

set_option maxHeartbeats 400000 in
theorem SuccsOf_bad (k a t l : Int) (w : World) (hok : endOkB k a t l = false) :
    Calls Tryd.prog 68 #[.agg #[.int .i64 k, .int .i64 a, .int .i64 t, .int .i64 l]] w (GivesI [] w) := by
  go_enter Tryd.func68, Tryd.ntmps68
  go_wp2_with (go_at_call 95; refine (EndOk_any _ _ _ _ _).mono ?_; rintro e w1 ⟨rfl, hb1⟩; obtain ⟨hc1, hf1⟩ := bcell hb1; have hz1 : w.heap.size < w1.heap.size := (by have := hb1.size; simp at this; omega))
  go_ret
  exact ⟨_, rfl, OI_lit0 _ rfl (by omega), below1 hb1⟩

set_option maxHeartbeats 400000 in
theorem SuccsOf_1 (a t l : Int) (w : World) (hok : endOkB 1 a t l = true) :
    Calls Tryd.prog 68 #[.agg #[.int .i64 1, .int .i64 a, .int .i64 t, .int .i64 l]] w (GivesI [] w) := by
  go_enter Tryd.func68, Tryd.ntmps68
  go_wp2_with (go_at_call 95; refine (EndOk_any _ _ _ _ _).mono ?_; rintro e w1 ⟨rfl, hb1⟩; obtain ⟨hc1, hf1⟩ := bcell hb1; have hz1 : w.heap.size < w1.heap.size := (by have := hb1.size; simp at this; omega))
  go_ret
  exact ⟨_, rfl, OI_lit0 _ rfl (by omega), below1 hb1⟩

set_option maxHeartbeats 400000 in
theorem SuccsOf_2 (a t l : Int) (w : World) (hok : endOkB 2 a t l = true) :
    Calls Tryd.prog 68 #[.agg #[.int .i64 2, .int .i64 a, .int .i64 t, .int .i64 l]] w (GivesI [t] w) := by
  go_enter Tryd.func68, Tryd.ntmps68
  go_wp2_with (go_at_call 95; refine (EndOk_any _ _ _ _ _).mono ?_; rintro e w1 ⟨rfl, hb1⟩; obtain ⟨hc1, hf1⟩ := bcell hb1; have hz1 : w.heap.size < w1.heap.size := (by have := hb1.size; simp at this; omega))
  go_ret
  exact ⟨_, rfl, OI_lit1 _ _ rfl (by omega), below1 hb1⟩

set_option maxHeartbeats 400000 in
theorem SuccsOf_3 (a t l : Int) (w : World) (hok : endOkB 3 a t l = true) :
    Calls Tryd.prog 68 #[.agg #[.int .i64 3, .int .i64 a, .int .i64 t, .int .i64 l]] w (GivesI [t, l] w) := by
  go_enter Tryd.func68, Tryd.ntmps68
  go_wp2_with (go_at_call 95; refine (EndOk_any _ _ _ _ _).mono ?_; rintro e w1 ⟨rfl, hb1⟩; obtain ⟨hc1, hf1⟩ := bcell hb1; have hz1 : w.heap.size < w1.heap.size := (by have := hb1.size; simp at this; omega))
  go_ret
  exact ⟨_, rfl, OI_lit2 _ _ _ rfl (by omega), below1 hb1⟩

theorem endOk_range {k a t l : Int} (h : endOkB k a t l = true) : k = 1 ∨ k = 2 ∨ k = 3 := by
  unfold endOkB at h
  by_cases h1 : k = 1
  · exact .inl h1
  by_cases h2 : k = 2
  · exact .inr (.inl h2)
  by_cases h3 : k = 3
  · exact .inr (.inr h3)
  rw [if_neg h1, if_neg h2, if_neg h3] at h
  cases h

theorem SuccsOf_any (k a t l : Int) (w : World) :
    Calls Tryd.prog 68 #[vEnd k a t l] w (GivesI (succsL k a t l) w) := by
  cases hok : endOkB k a t l
  · have e : succsL k a t l = [] := by simp [succsL, hok]
    rw [e]; exact SuccsOf_bad k a t l w hok
  · have e : succsL k a t l = toL k t l := by simp [succsL, hok]
    rw [e]
    rcases endOk_range hok with rfl | rfl | rfl
    · exact SuccsOf_1 a t l w hok
    · exact SuccsOf_2 a t l w hok
    · exact SuccsOf_3 a t l w hok

set_option maxHeartbeats 400000 in
theorem l2Succs_2 (a t l : Int) (w : World) :
    Calls Tryd.prog 83 #[.agg #[.int .i64 2, .int .i64 a, .int .i64 t, .int .i64 l]] w (GivesI [t] w) := by
  go_enter Tryd.func83, Tryd.ntmps83
  go_wp2
  go_ret
  refine ⟨_, rfl, ?_, ((Below.refl _ _).alloc (Nat.le_refl _) _).alloc (by simp) _⟩
  exact OI_lit1 (w.alloc _) _ (by simp) (by omega)

set_option maxHeartbeats 400000 in
theorem l2Succs_3 (a t l : Int) (w : World) :
    Calls Tryd.prog 83 #[.agg #[.int .i64 3, .int .i64 a, .int .i64 t, .int .i64 l]] w (GivesI [t, l] w) := by
  go_enter Tryd.func83, Tryd.ntmps83
  go_wp2
  go_ret
  refine ⟨_, rfl, ?_, ((Below.refl _ _).alloc (Nat.le_refl _) _).alloc (by simp) _⟩
  exact OI_lit2 (w.alloc _) _ _ (by simp) (by omega)

set_option maxHeartbeats 400000 in
theorem l2Succs_0 (k a t l : Int) (w : World) (h2 : (k == 2) = false) (h3 : (k == 3) = false) :
    Calls Tryd.prog 83 #[.agg #[.int .i64 k, .int .i64 a, .int .i64 t, .int .i64 l]] w (GivesI [] w) := by
  go_enter Tryd.func83, Tryd.ntmps83
  go_wp2
  go_ret
  refine ⟨_, rfl, ?_, ((Below.refl _ _).alloc (Nat.le_refl _) _).alloc (by simp) _⟩
  exact OI_lit0 (w.alloc _) (by simp) (by omega)

theorem l2Succs_any (k a t l : Int) (w : World) :
    Calls Tryd.prog 83 #[vEnd k a t l] w (GivesI (toL k t l) w) := by
  by_cases h2 : k = 2
  · subst h2; exact l2Succs_2 a t l w
  by_cases h3 : k = 3
  · subst h3; exact l2Succs_3 a t l w
  have e : toL k t l = [] := by unfold toL; rw [if_neg h2, if_neg h3]
  rw [e]
  exact l2Succs_0 k a t l w (by simpa using h2) (by simpa using h3)

set_option maxHeartbeats 400000 in
theorem toEnd_any (k a t l : Int) (w : World) :
    Calls Tryd.prog 90 #[.agg #[.int .i64 k, .int .i64 a, .int .i64 t, .int .i64 l]] w fun e w' => e = .returned (vEnd k a t l) ∧ Below w.heap.size w w' := by
  go_enter Tryd.func90, Tryd.ntmps90
  go_wp2
  refine bodyPost_ret (v := .agg #[.int .i64 k, .int .i64 a, .int .i64 t, .int .i64 l]) (by simp [results, Tryd.results90, go_sem]) rfl ⟨rfl, ?_⟩
  repeat (first | exact Below.refl _ _ | refine Below.alloc ?_ (by first | (simp; done) | (simp; omega)) _ | refine Below.setCell ?_ (by simp) _)
end

/- Sets of blocks as bits: with, both and has of the program. -/
section
open Go.ChangeShapes Go.WideShapes Go.ChangeAt Go.RowKit Go.Joins

theorem pow_lt64 {b : Nat} (hb : b < 64) : 2 ^ b < 18446744073709551616 := Nat.pow_lt_pow_right (m := b) (n := 64) (a := 2) (by decide) hb
theorem wrap_pow (b : Nat) (hb : b < 64) : IntKind.u64.wrap (2 ^ b) = ((2 ^ b : Nat) : Int) := by
  have h := pow_lt64 hb
  rw [IntKind.wrap_u64, show ((2 : Int) ^ b) = ((2 ^ b : Nat) : Int) by simp]
  generalize 2 ^ b = p at *
  omega

set_option maxHeartbeats 400000 in
theorem with_any (s b : Nat) (w : World) (hs : s < 18446744073709551616) (hb : b < 64) :
    Calls Tryd.prog 50 #[.int .u64 (s : Int), .int .i64 (b : Int)] w fun e w' => e = .returned (.int .u64 ((s ||| 2 ^ b : Nat) : Int)) ∧ w = w' := by
  have hb0 : ¬ (b : Int) < 0 := by omega
  have h1 := wrap_pow b hb
  have h2 := u64_or_nat s (2 ^ b) hs (pow_lt64 hb)
  generalize hp : 2 ^ b = p at *
  go_enter Tryd.func50, Tryd.ntmps50
  go_wp2
  go_ret
  exact ⟨rfl, rfl⟩
set_option maxHeartbeats 400000 in
theorem both_any (s t : Nat) (w : World) (hs : s < 18446744073709551616) (ht : t < 18446744073709551616) :
    Calls Tryd.prog 75 #[.int .u64 (s : Int), .int .u64 (t : Int)] w fun e w' => e = .returned (.int .u64 ((s &&& t : Nat) : Int)) ∧ w = w' := by
  have h := u64_and_nat s t hs ht
  go_enter Tryd.func75, Tryd.ntmps75
  go_wp2
  go_ret
  exact ⟨rfl, rfl⟩

theorem and_pow_ne (s b : Nat) : (((s &&& 2 ^ b : Nat) : Int) != 0) = s.testBit b := by
  rw [nat_bit, Nat.testBit_eq_decide_div_mod_eq]
  have hp := Nat.two_pow_pos b
  have h2 : s / 2 ^ b % 2 = 0 ∨ s / 2 ^ b % 2 = 1 := by omega
  rcases h2 with h2 | h2
  · rw [h2]; simp
  · rw [h2]
    generalize 2 ^ b = p at *
    simp
    omega

set_option maxHeartbeats 400000 in
theorem has_yes (s b : Nat) (w : World) (hs : s < 18446744073709551616) (hb : b < 40) :
    Calls Tryd.prog 38 #[.int .u64 (s : Int), .int .i64 (b : Int)] w fun e w' => e = .returned (.bool (s.testBit b)) ∧ w = w' := by
  have hb0 : ¬ (b : Int) < 0 := by omega
  have h1 := wrap_pow b (by omega)
  have h2 := u64_and_nat s (2 ^ b) hs (pow_lt64 (by omega))
  have h3 := and_pow_ne s b
  have h4 : isBelowB (b : Int) 40 = true := by simp [isBelowB]; omega
  generalize hp : 2 ^ b = p at *
  go_enter Tryd.func38, Tryd.ntmps38
  go_wp2_with (go_at_call 61; refine (isBlock_any _ _).mono ?_; rintro e w' ⟨rfl, rfl⟩)
  go_ret
  exact ⟨rfl, rfl⟩
set_option maxHeartbeats 400000 in
theorem has_no (s : Nat) (j : Int) (w : World) (hj : isBelowB j 40 = false) :
    Calls Tryd.prog 38 #[.int .u64 (s : Int), .int .i64 j] w fun e w' => e = .returned (.bool false) ∧ w = w' := by
  go_enter Tryd.func38, Tryd.ntmps38
  go_wp2_with (go_at_call 61; refine (isBlock_any _ _).mono ?_; rintro e w' ⟨rfl, rfl⟩)
  go_ret
  exact ⟨rfl, rfl⟩
theorem hasS_any (s : Nat) (j : Int) (w : World) (hs : s < 18446744073709551616) :
    Calls Tryd.prog 38 #[.int .u64 (s : Int), .int .i64 j] w fun e w' => e = .returned (.bool (isBelowB j 40 && s.testBit j.toNat)) ∧ w = w' := by
  cases h : isBelowB j 40
  · exact has_no s j w h
  · have hr : 0 ≤ j ∧ j < 40 := by simpa [isBelowB] using h
    obtain ⟨b, rfl⟩ : ∃ b : Nat, j = b := ⟨j.toNat, by omega⟩
    rw [Int.toNat_natCast, Bool.true_and]
    exact has_yes s b w hs (by omega)
end

/- Slices of bool: how they read, and whose they are. -/
section
open Go.ChangeShapes Go.WideShapes Go.ChangeAt Go.RowKit Go.Joins

def bv (b : Bool) : Value := .bool b

/-- The slice value v reads as the bools xs. -/
def RB (w : World) (v : Value) (xs : List Bool) : Prop :=
  xs.length ≤ 9223372036854775807 ∧ ∃ A c, v = .slice A xs.length c ∧ (xs ≠ [] → ∃ b off, A = some ⟨b, off, none⟩ ∧ ∀ k u, xs[k]? = some u → w.cell? ⟨b, off + k, none⟩ = some (.bool u))

/-- The slice value v is the call's own, from block B on, and reads as xs. -/
def OB (w : World) (B : Nat) (v : Value) (xs : List Bool) : Prop := w.ownsRow B 4 1 v xs.length (xs.map bv)

theorem OB.rb {w : World} {B : Nat} {v : Value} {xs : List Bool} (h : OB w B v xs) : RB w v xs := by
  have h0 := h
  rcases h.2 with ⟨rfl, hn⟩ | ⟨g, cap, cur, rfl, _, hg, hnc, hcm, hs, ht⟩
  · exact ⟨by omega, none, 0, by rw [hn], fun hne => absurd (List.length_eq_zero_iff.1 hn) hne⟩
  · refine ⟨by rw [maxLen_is] at hcm; omega, _, cap, rfl, fun _ => ⟨g, 0, rfl, fun k u hu => ?_⟩⟩
    have hk : k < xs.length := by
      rcases Nat.lt_or_ge k xs.length with h | h
      · exact h
      · rw [List.getElem?_eq_none h] at hu; cases hu
    have := World.ownsRow.cellAt h0 k (by omega)
    rw [Nat.zero_add, this, List.getElem?_map, hu]; rfl

theorem take_eq_ofB {xs ys : List Bool} {k : Nat} {x : Bool} (h : xs.take k = ys.take k) (hx : xs[k]? = some x) (hy : ys[k]? = some x) : xs.take (k + 1) = ys.take (k + 1) := by
  rw [List.take_add_one, List.take_add_one, h, hx, hy]

def markB (k : Int) (n : Nat) : List Bool := (List.range n).map fun (i : Nat) => (k + (i : Int)) % 3 == 0
theorem markB_length (k : Int) (n : Nat) : (markB k n).length = n := by simp [markB]
theorem markB_get (k : Int) {n j : Nat} (h : j < n) : (markB k n)[j]? = some ((k + j) % 3 == 0) := by simp [markB, h]
theorem markB_zero (k : Int) : markB k 0 = [] := rfl

theorem set_stepB (k : Int) (xs : List Bool) {j : Nat} (h : j < xs.length) :
    (((markB k j ++ xs.drop j).map bv).set j (bv ((k + j) % 3 == 0))) = (markB k (j + 1) ++ xs.drop (j + 1)).map bv := by
  apply List.ext_getElem?
  intro i
  rw [List.getElem?_set, List.getElem?_map, List.getElem?_map]
  have hl : (List.map bv (markB k j ++ List.drop j xs)).length = xs.length := by simp [markB_length]; omega
  rw [hl]
  by_cases hij : j = i
  · subst hij
    rw [if_pos rfl, if_pos h, List.getElem?_append_left (by rw [markB_length]; omega), markB_get k (by omega)]; rfl
  · rw [if_neg hij]
    by_cases hlt : i < j
    · rw [List.getElem?_append_left (by rw [markB_length]; exact hlt), List.getElem?_append_left (by rw [markB_length]; omega), markB_get k hlt, markB_get k (by omega)]
    · rw [List.getElem?_append_right (by rw [markB_length]; omega), List.getElem?_append_right (by rw [markB_length]; omega), markB_length, markB_length, List.getElem?_drop, List.getElem?_drop]
      congr 2; omega
end

/- Slices of records: what a slice value reads as, in a zone of blocks, and how it is kept. -/
section
open Go.ChangeShapes Go.WideShapes Go.ChangeAt Go.RowKit Go.Joins

/-- Blocks in which something lies; own: and none of its cells is frozen. -/
structure Zn where
  D : Nat → Prop
  own : Bool

def Zn.new (lo hi : Nat) : Zn := ⟨fun b => lo ≤ b ∧ b < hi, true⟩
def Zn.old (hi : Nat) : Zn := ⟨fun b => b < hi, false⟩

def At (w : World) (Z : Zn) (b o : Nat) (u : Value) : Prop := w.cell? ⟨b, o, none⟩ = some u ∧ (Z.own = true → w.frozen? ⟨b, o, none⟩ = false)

def RowAt {α : Type} (w : World) (Z : Zn) (size : Nat) (E : α → List Value → Prop) (xs : List α) (b off : Nat) : Prop :=
  Z.D b ∧ ∀ k x, xs[k]? = some x → ∃ cs, E x cs ∧ ∀ j u, cs[j]? = some u → At w Z b (off + k * size + j) u

def Row {α : Type} (w : World) (Z : Zn) (size : Nat) (E : α → List Value → Prop) (v : Value) (xs : List α) : Prop :=
  xs.length ≤ 9223372036854775807 ∧ ∃ A c, v = .slice A xs.length c ∧ (xs ≠ [] → ∃ b off, A = some ⟨b, off, none⟩ ∧ RowAt w Z size E xs b off)

/-- What lay in zone Z of w lies in zone Z' of w'. -/
structure Kept (Z Z' : Zn) (w w' : World) : Prop where
  D : ∀ b, Z.D b → Z'.D b
  own : Z'.own = true → Z.own = true
  heap : ∀ b, Z.D b → w'.heap[b]? = w.heap[b]?

theorem Kept.refl (Z : Zn) (w : World) : Kept Z Z w w := ⟨fun _ h => h, fun h => h, fun _ _ => rfl⟩
theorem Kept.trans {Z Z' Z'' : Zn} {w w' w'' : World} (h : Kept Z Z' w w') (k : Kept Z' Z'' w' w'') : Kept Z Z'' w w'' :=
  ⟨fun b hb => k.D b (h.D b hb), fun ho => h.own (k.own ho), fun b hb => (k.heap b (h.D b hb)).trans (h.heap b hb)⟩
theorem Kept.drewN (Z : Zn) (w : World) (n : Nat) : Kept Z Z w (w.drewN n) := ⟨fun _ h => h, fun h => h, fun _ _ => rfl⟩
theorem Kept.below {Z : Zn} {w w' : World} {B : Nat} (hb : Below B w w') (hB : ∀ b, Z.D b → b < B) : Kept Z Z w w' := ⟨fun _ h => h, fun h => h, fun b h => hb.block b (hB b h)⟩
theorem Kept.grown {Z : Zn} {w w' : World} {row : Option Nat} (hg : w.grownBy w' row) (hB : ∀ b, Z.D b → b < w.heap.size) (hr : ∀ b, row = some b → ¬ Z.D b) : Kept Z Z w w' :=
  ⟨fun _ h => h, fun h => h, fun b h => hg.block b (hB b h) fun e => hr b e.symm h⟩

theorem At.keep {Z Z' : Zn} {w w' : World} {b o : Nat} {u : Value} (h : At w Z b o u) (hk : Kept Z Z' w w') (hD : Z.D b) : At w' Z' b o u :=
  ⟨(World.cell?_of_block (hk.heap b hD)).trans h.1, fun ho => (World.frozen?_of_block (a := ⟨b, o, none⟩) (hk.heap b hD)).trans (h.2 (hk.own ho))⟩

theorem Row.keep {α : Type} {w w' : World} {Z Z' : Zn} {size : Nat} {E E' : α → List Value → Prop} {v : Value} {xs : List α} (h : Row w Z size E v xs) (hk : Kept Z Z' w w')
    (hE : ∀ x cs, E x cs → E' x cs) : Row w' Z' size E' v xs := by
  obtain ⟨h1, A, c, rfl, h2⟩ := h
  refine ⟨h1, A, c, rfl, fun hne => ?_⟩
  obtain ⟨b, off, rfl, hD, h3⟩ := h2 hne
  refine ⟨b, off, rfl, hk.D b hD, fun k x hx => ?_⟩
  obtain ⟨cs, hcs, h4⟩ := h3 k x hx
  exact ⟨cs, hE x cs hcs, fun j u hu => (h4 j u hu).keep hk hD⟩

structure MoveD where
  dst : Int
  src : Int
structure InsD where
  op : Int
  v : Int
  a : Int
  b : Int
structure EndD where
  k : Int
  a : Int
  t : Int
  l : Int
structure PhiD where
  v : Int
  args : List Int
structure BlockD where
  phis : List PhiD
  head : List MoveD
  body : List InsD
  tail : List MoveD
  fin : EndD
structure FunD where
  params : Int
  names : Int
  blocks : List BlockD

def EInt (x : Int) (cs : List Value) : Prop := cs = [.int .i64 x]
def EMove (m : MoveD) (cs : List Value) : Prop := cs = [.int .i64 m.dst, .int .i64 m.src]
def EIns (i : InsD) (cs : List Value) : Prop := cs = [.int .i64 i.op, .int .i64 i.v, .int .i64 i.a, .int .i64 i.b]
def EPhi (w : World) (Z : Zn) (p : PhiD) (cs : List Value) : Prop := ∃ v, cs = [.int .i64 p.v, v] ∧ Row w Z 1 EInt v p.args
def EBlock (w : World) (Z : Zn) (x : BlockD) (cs : List Value) : Prop :=
  ∃ v0 v1 v2 v3, cs = [v0, v1, v2, v3, .int .i64 x.fin.k, .int .i64 x.fin.a, .int .i64 x.fin.t, .int .i64 x.fin.l] ∧
    Row w Z 2 (EPhi w Z) v0 x.phis ∧ Row w Z 2 EMove v1 x.head ∧ Row w Z 4 EIns v2 x.body ∧ Row w Z 2 EMove v3 x.tail
def EFun (w : World) (Z : Zn) (f : FunD) (v : Value) : Prop := ∃ u, v = .agg #[.int .i64 f.params, .int .i64 f.names, u] ∧ Row w Z 8 (EBlock w Z) u f.blocks

theorem EPhi.keep {w w' : World} {Z Z' : Zn} {p : PhiD} {cs : List Value} (h : EPhi w Z p cs) (hk : Kept Z Z' w w') : EPhi w' Z' p cs := by
  obtain ⟨v, rfl, h1⟩ := h
  exact ⟨v, rfl, h1.keep hk fun _ _ h => h⟩
theorem EBlock.keep {w w' : World} {Z Z' : Zn} {x : BlockD} {cs : List Value} (h : EBlock w Z x cs) (hk : Kept Z Z' w w') : EBlock w' Z' x cs := by
  obtain ⟨v0, v1, v2, v3, rfl, h0, h1, h2, h3⟩ := h
  exact ⟨v0, v1, v2, v3, rfl, h0.keep hk fun _ _ h => h.keep hk, h1.keep hk fun _ _ h => h, h2.keep hk fun _ _ h => h, h3.keep hk fun _ _ h => h⟩
theorem EFun.keep {w w' : World} {Z Z' : Zn} {f : FunD} {v : Value} (h : EFun w Z f v) (hk : Kept Z Z' w w') : EFun w' Z' f v := by
  obtain ⟨u, rfl, h1⟩ := h
  exact ⟨u, rfl, h1.keep hk fun _ _ h => h.keep hk⟩

/-- Row g is filled with the first k of xs. -/
def Fill {α : Type} (w : World) (g : Nat) (T : TypeId) (size n k : Nat) (E : α → List Value → Prop) (xs : List α) : Prop :=
  ∃ cur : Array Value, w.heap[g]? = some (.cells cur T (0, 0)) ∧ cur.size = n * size ∧ ∀ j x, j < k → xs[j]? = some x → ∃ cs, E x cs ∧ ∀ i u, cs[i]? = some u → cur[j * size + i]? = some u

theorem Fill.row {α : Type} {w : World} {g : Nat} {T : TypeId} {size n : Nat} {E : α → List Value → Prop} {xs : List α} {Z : Zn} (h : Fill w g T size n n E xs) (hn : n = xs.length) (hm : n ≤ 9223372036854775807) (hZ : Z.D g) (c : Nat) :
    Row w Z size E (.slice (some ⟨g, 0, none⟩) n c) xs := by
  obtain ⟨cur, h1, h2, h3⟩ := h
  subst hn
  refine ⟨hm, _, c, rfl, fun _ => ⟨g, 0, rfl, hZ, fun k x hx => ?_⟩⟩
  obtain ⟨cs, hE, h4⟩ := h3 k x (List.getElem?_eq_some_iff.1 hx).1 hx
  refine ⟨cs, hE, fun j u hu => ⟨?_, fun _ => ?_⟩⟩
  · rw [Nat.zero_add]
    exact (cell_of_row w g _ cur T (0, 0) h1).trans (h4 j u hu)
  · simp [World.frozen?, h1]

/-- One element more. -/
theorem Fill.step {α : Type} {w w' : World} {g : Nat} {T : TypeId} {size n k : Nat} {E E' : α → List Value → Prop} {xs : List α} {x : α} {cs : List Value} (h : Fill w g T size n k E xs) (hx : xs[k]? = some x) (hE' : E' x cs)
    (hE : ∀ y ds, E y ds → E' y ds) (hs : ∀ y ds, E y ds → ds.length = size)
    (hw : ∀ cur, w.heap[g]? = some (.cells cur T (0, 0)) → cur.size = n * size → ∃ cur' : Array Value, w'.heap[g]? = some (.cells cur' T (0, 0)) ∧ cur'.size = cur.size ∧ (∀ i, i < k * size → cur'[i]? = cur[i]?) ∧ ∀ i u, cs[i]? = some u → cur'[k * size + i]? = some u) :
    Fill w' g T size n (k + 1) E' xs := by
  obtain ⟨cur, h1, h2, h3⟩ := h
  obtain ⟨cur', h1', h2', h3', h4'⟩ := hw cur h1 h2
  refine ⟨cur', h1', h2'.trans h2, fun j y hj hy => ?_⟩
  by_cases hjk : j = k
  · subst hjk
    rw [hx] at hy
    injection hy with hy
    subst hy
    exact ⟨cs, hE', h4'⟩
  · obtain ⟨ds, hd, h5⟩ := h3 j y (by omega) hy
    refine ⟨ds, hE y ds hd, fun i u hu => ?_⟩
    have hi : i < size := by
      rw [← hs y ds hd]; exact (List.getElem?_eq_some_iff.1 hu).1
    have hlt : j * size + i < k * size := by
      have : (j + 1) * size ≤ k * size := Nat.mul_le_mul_right _ (by omega)
      rw [Nat.add_mul, Nat.one_mul] at this
      omega
    rw [h3' _ hlt]
    exact h5 i u hu

theorem Fill.zero {α : Type} {w : World} {g : Nat} {T : TypeId} {size n : Nat} {E : α → List Value → Prop} {xs : List α} {cur : Array Value} (h1 : w.heap[g]? = some (.cells cur T (0, 0))) (h2 : cur.size = n * size) : Fill w g T size n 0 E xs :=
  ⟨cur, h1, h2, fun _ _ h => absurd h (by omega)⟩

theorem Fill.keep {α : Type} {w w' : World} {g : Nat} {T : TypeId} {size n k : Nat} {E E' : α → List Value → Prop} {xs : List α} (h : Fill w g T size n k E xs) (hw : w'.heap[g]? = w.heap[g]?) (hE : ∀ y ds, E y ds → E' y ds) : Fill w' g T size n k E' xs := by
  obtain ⟨cur, h1, h2, h3⟩ := h
  refine ⟨cur, hw.trans h1, h2, fun j y hj hy => ?_⟩
  obtain ⟨ds, hd, h5⟩ := h3 j y hj hy
  exact ⟨ds, hE y ds hd, h5⟩

/-- Cells of one row, written one behind the other. -/
def setAll (cur : Array Value) (o : Nat) : List Value → Array Value
  | [] => cur
  | u :: us => setAll (cur.setIfInBounds o u) (o + 1) us
theorem setAll_size : ∀ (us : List Value) (cur : Array Value) (o : Nat), (setAll cur o us).size = cur.size
  | [], _, _ => rfl
  | u :: us, cur, o => by rw [setAll, setAll_size us]; simp
theorem setAll_below : ∀ (us : List Value) (cur : Array Value) (o i : Nat), i < o → (setAll cur o us)[i]? = cur[i]?
  | [], _, _, _, _ => rfl
  | u :: us, cur, o, i, h => by
    rw [setAll, setAll_below us _ (o + 1) i (by omega), Array.getElem?_setIfInBounds, if_neg (by omega)]
theorem setAll_in : ∀ (us : List Value) (cur : Array Value) (o i : Nat) (u : Value), o + us.length ≤ cur.size → us[i]? = some u → (setAll cur o us)[o + i]? = some u
  | [], _, _, _, _, _, h => by simp at h
  | v :: us, cur, o, 0, u, hl, h => by
    simp only [List.getElem?_cons_zero, Option.some.injEq] at h
    subst h
    rw [setAll, setAll_below us _ (o + 1) (o + 0) (by omega), Array.getElem?_setIfInBounds]
    simp at hl ⊢
    omega
  | v :: us, cur, o, i + 1, u, hl, h => by
    rw [setAll, show o + (i + 1) = (o + 1) + i by omega]
    exact setAll_in us _ (o + 1) i u (by simp at hl ⊢; omega) (by simpa using h)

/-- Stores into row g, one behind the other. -/
def storeAll (w : World) (g o : Nat) : List Value → World
  | [] => w
  | u :: us => storeAll (w.setCell ⟨g, o, none⟩ u) g (o + 1) us
theorem storeAll_heap : ∀ (us : List Value) (w : World) (g o : Nat) (cur : Array Value) (T : TypeId), w.heap[g]? = some (.cells cur T (0, 0)) → (storeAll w g o us).heap[g]? = some (.cells (setAll cur o us) T (0, 0))
  | [], _, _, _, _, _, h => h
  | u :: us, w, g, o, cur, T, h => storeAll_heap us _ g (o + 1) _ T (heap_setCell_same w g o cur T u h)
theorem nblk_set (w : World) (a : Addr) (v : Value) : (w.setCell a v).heap.size = w.heap.size := by simp
theorem set_grown (w : World) (g o : Nat) (u : Value) : w.grownBy (w.setCell ⟨g, o, none⟩ u) (some g) :=
  ⟨rfl, rfl, rfl, by simp, fun k _ hne => Below.heap_setCell w ⟨g, o, none⟩ u k (fun e => hne (congrArg some e))⟩
theorem storeAll_grown : ∀ (us : List Value) (w : World) (g o : Nat), w.grownBy (storeAll w g o us) (some g)
  | [], w, _, _ => World.grownBy.refl w _
  | u :: us, w, g, o => World.grownBy.trans (set_grown w g o u) (storeAll_grown us _ g (o + 1))

theorem Fill.store {α : Type} {w : World} {g : Nat} {T : TypeId} {size n k : Nat} {E E' : α → List Value → Prop} {xs : List α} {x : α} {cs : List Value} (h : Fill w g T size n k E xs) (hx : xs[k]? = some x) (hk : k < n) (hE' : E' x cs) (hl : cs.length = size)
    (hE : ∀ y ds, E y ds → E' y ds) (hs : ∀ y ds, E y ds → ds.length = size) : Fill (storeAll w g (k * size) cs) g T size n (k + 1) E' xs := by
  refine h.step hx hE' hE hs fun cur h1 h2 => ⟨setAll cur (k * size) cs, storeAll_heap cs w g _ cur T h1, setAll_size _ _ _, fun i hi => setAll_below _ _ _ i hi, fun i u hu => setAll_in _ _ _ i u ?_ hu⟩
  rw [h2, hl]
  have : (k + 1) * size ≤ n * size := Nat.mul_le_mul_right _ (by omega)
  rw [Nat.add_mul, Nat.one_mul] at this
  omega

theorem Fill.cell {α : Type} {w : World} {g : Nat} {T : TypeId} {size n k : Nat} {E : α → List Value → Prop} {xs : List α} (h : Fill w g T size n k E xs) {m j : Nat} (hm : m < n) (hj : j < size) : ∃ u, w.cell? ⟨g, m * size + j, none⟩ = some u := by
  obtain ⟨cur, h1, h2, _⟩ := h
  have hlt : m * size + j < cur.size := by
    have : (m + 1) * size ≤ n * size := Nat.mul_le_mul_right _ (by omega)
    rw [Nat.add_mul, Nat.one_mul] at this
    omega
  exact ⟨cur[m * size + j], (cell_of_row w g _ cur T (0, 0) h1).trans (Array.getElem?_eq_getElem hlt)⟩
theorem Fill.frozen {α : Type} {w : World} {g : Nat} {T : TypeId} {size n k : Nat} {E : α → List Value → Prop} {xs : List α} (h : Fill w g T size n k E xs) (o : Nat) : w.frozen? ⟨g, o, none⟩ = false := by
  obtain ⟨cur, h1, _⟩ := h
  simp [World.frozen?, h1]

section
variable {P : Program}
theorem run_make_rowN (t e : TypeId) (i : TypeInfo) (z : Value) (ht : P.underlying t = some (.slice e)) (hi : P.info? e = some i) (hz : i.zero = some z)
    (kl kc : IntKind) (n c : Nat) (hnc : n ≤ c) (hbytes : i.bytes * c ≤ 281474976710656) (h63 : c ≤ 9223372036854775807) (w : World) :
    (Instr.makeSlice t (.int kl (n : Int)) (.int kc (c : Int))).run P w = .ok (.slice (some ⟨w.heap.size, 0, none⟩) n c) (w.alloc (.cells (madeCells z.cells (c * i.size)) e)) := by
  have hb : (i.bytes : Int) * (c : Int) ≤ 281474976710656 := by
    have h : ((i.bytes * c : Nat) : Int) ≤ 281474976710656 := by omega
    rwa [Int.natCast_mul] at h
  have hr := run_make (P := P) w t e i z ht hi hz kl kc n c (by omega) (by omega) hb (by omega)
  simp only [Int.toNat_natCast] at hr
  exact hr
end
end

end Go.Proofs.YteikpekffgifoaaDoor
