/- End, Eq, Bools, FunP, joined. -/
import Derived.Test.YtnjmlhokkhkaaaaGreatDoorQ1
import Derived.Deep.RegionHeld3
import Derived.Deep.QuietTactic
import Derived.BigQuiet
namespace Go.Proofs.YtnjmlhokkhkaaaaGreatDoor

/- EndOk and SuccsOf of both sides, and toEnd of the laws. -/
section
open Go.ChangeShapes Go.WideShapes Go.ChangeAt Go.RowKit Go.Joins

def isBelowB (n m : Int) : Bool := decide (0 ≤ n) && decide (n < m)

set_option maxHeartbeats 400000 in
theorem isBelow_any (n m : Int) (w : World) :
    Calls Tryz.prog 24 #[.int .i64 n, .int .i64 m] w fun e w' => e = .returned (.bool (isBelowB n m)) ∧ w = w' := by
  by_cases h0 : 0 ≤ n
  all_goals go_enter Tryz.func24, Tryz.ntmps24
  all_goals go_wp2
  all_goals go_ret
  all_goals exact ⟨by simp [isBelowB]; try omega, rfl⟩

set_option maxHeartbeats 400000 in
theorem isBlock_any (n : Int) (w : World) :
    Calls Tryz.prog 81 #[.int .i64 n] w fun e w' => e = .returned (.bool (isBelowB n 40)) ∧ w = w' := by
  go_enter Tryz.func81, Tryz.ntmps81
  go_wp2_with (go_at_call 24; refine (isBelow_any _ _ _).mono ?_; rintro e w' ⟨rfl, rfl⟩)
  go_ret
  exact ⟨rfl, rfl⟩

set_option maxHeartbeats 400000 in
theorem l2Block_any (n : Int) (w : World) :
    Calls Tryz.prog 137 #[.int .i64 n] w fun e w' => e = .returned (.bool (isBelowB n 40)) ∧ w = w' := by
  have h : (decide (0 ≤ n) && decide (n ≤ 39)) = isBelowB n 40 := by unfold isBelowB; congr 1; rw [decide_eq_decide]; omega
  go_enter Tryz.func137, Tryz.ntmps137
  go_wp2_with (go_at_call 100; refine (l1In_any _ _ _ _).mono ?_; rintro e w' ⟨rfl, rfl⟩)
  go_ret
  exact ⟨rfl, rfl⟩

/-- The End, as a value. -/
def vEnd (k a t l : Int) : Value := .agg #[.int .i64 k, .int .i64 a, .int .i64 t, .int .i64 l]

def endOkB (k a t l : Int) : Bool :=
  if k = 1 then isNameB a && (t == 0) && (l == 0)
  else if k = 2 then (a == 0) && isBelowB t 40 && (l == 0)
  else if k = 3 then isNameB a && isBelowB t 40 && isBelowB l 40 && (t != l)
  else false

set_option maxHeartbeats 400000 in
theorem EndOk_1 (a t l : Int) (w : World) :
    Calls Tryz.prog 128 #[.agg #[.int .i64 1, .int .i64 a, .int .i64 t, .int .i64 l]] w fun e w' => e = .returned (.bool (endOkB 1 a t l)) ∧ Below w.heap.size w w' := by
  cases ha : isNameB a <;> cases ht : (t == 0)
  all_goals go_enter Tryz.func128, Tryz.ntmps128
  all_goals go_wp2_with (go_at_call 130; refine (isName_any _ _).mono ?_; rintro e w' ⟨rfl, rfl⟩)
  all_goals go_ret
  all_goals exact ⟨by simp [endOkB, ha, ht], (Below.refl _ _).alloc (Nat.le_refl _) _⟩

set_option maxHeartbeats 400000 in
theorem EndOk_2 (a t l : Int) (w : World) :
    Calls Tryz.prog 128 #[.agg #[.int .i64 2, .int .i64 a, .int .i64 t, .int .i64 l]] w fun e w' => e = .returned (.bool (endOkB 2 a t l)) ∧ Below w.heap.size w w' := by
  cases ha : (a == 0) <;> cases ht : isBelowB t 40
  all_goals go_enter Tryz.func128, Tryz.ntmps128
  all_goals go_wp2_with (go_at_call 81; refine (isBlock_any _ _).mono ?_; rintro e w' ⟨rfl, rfl⟩)
  all_goals go_ret
  all_goals exact ⟨by simp [endOkB, ha, ht], (Below.refl _ _).alloc (Nat.le_refl _) _⟩

set_option maxHeartbeats 400000 in
theorem EndOk_3 (a t l : Int) (w : World) :
    Calls Tryz.prog 128 #[.agg #[.int .i64 3, .int .i64 a, .int .i64 t, .int .i64 l]] w fun e w' => e = .returned (.bool (endOkB 3 a t l)) ∧ Below w.heap.size w w' := by
  cases ha : isNameB a <;> cases ht : isBelowB t 40 <;> cases hl : isBelowB l 40
  all_goals go_enter Tryz.func128, Tryz.ntmps128
  all_goals go_wp2_with (first
    | (go_at_call 81; refine (isBlock_any _ _).mono ?_; rintro e w' ⟨rfl, rfl⟩)
    | (go_at_call 130; refine (isName_any _ _).mono ?_; rintro e w' ⟨rfl, rfl⟩))
  all_goals go_ret
  all_goals exact ⟨by simp [endOkB, ha, ht, hl], (Below.refl _ _).alloc (Nat.le_refl _) _⟩

set_option maxHeartbeats 400000 in
theorem EndOk_0 (k a t l : Int) (w : World) (h1 : (k == 1) = false) (h2 : (k == 2) = false) (h3 : (k == 3) = false) :
    Calls Tryz.prog 128 #[.agg #[.int .i64 k, .int .i64 a, .int .i64 t, .int .i64 l]] w fun e w' => e = .returned (.bool (endOkB k a t l)) ∧ Below w.heap.size w w' := by
  have hE : Hid (endOkB k a t l = false) := by
    unfold Hid endOkB
    rw [if_neg (by simpa using h1), if_neg (by simpa using h2), if_neg (by simpa using h3)]
  go_enter Tryz.func128, Tryz.ntmps128
  go_wp2
  go_ret
  exact ⟨by rw [hE.out]; rfl, (Below.refl _ _).alloc (Nat.le_refl _) _⟩

theorem EndOk_any (k a t l : Int) (w : World) :
    Calls Tryz.prog 128 #[vEnd k a t l] w fun e w' => e = .returned (.bool (endOkB k a t l)) ∧ Below w.heap.size w w' := by
  by_cases h1 : k = 1
  · subst h1; exact EndOk_1 a t l w
  by_cases h2 : k = 2
  · subst h2; exact EndOk_2 a t l w
  by_cases h3 : k = 3
  · subst h3; exact EndOk_3 a t l w
  exact EndOk_0 k a t l w (by simpa using h1) (by simpa using h2) (by simpa using h3)

set_option maxHeartbeats 400000 in
theorem sEndOk_1 (a t l : Int) (w : World) :
    Calls Tryz.prog 101 #[.agg #[.int .i64 1, .int .i64 a, .int .i64 t, .int .i64 l]] w fun e w' => e = .returned (.bool (endOkB 1 a t l)) ∧ Below w.heap.size w w' := by
  cases ha : isNameB a <;> cases ht : (t == 0)
  all_goals go_enter Tryz.func101, Tryz.ntmps101
  all_goals go_wp2_with (go_at_call 136; refine (l1Name_any _ _).mono ?_; rintro e w' ⟨rfl, rfl⟩)
  all_goals go_ret
  all_goals exact ⟨by simp [endOkB, ha, ht], (Below.refl _ _).alloc (Nat.le_refl _) _⟩

set_option maxHeartbeats 400000 in
theorem sEndOk_2 (a t l : Int) (w : World) :
    Calls Tryz.prog 101 #[.agg #[.int .i64 2, .int .i64 a, .int .i64 t, .int .i64 l]] w fun e w' => e = .returned (.bool (endOkB 2 a t l)) ∧ Below w.heap.size w w' := by
  cases ha : (a == 0) <;> cases ht : isBelowB t 40
  all_goals go_enter Tryz.func101, Tryz.ntmps101
  all_goals go_wp2_with (go_at_call 137; refine (l2Block_any _ _).mono ?_; rintro e w' ⟨rfl, rfl⟩)
  all_goals go_ret
  all_goals exact ⟨by simp [endOkB, ha, ht], (Below.refl _ _).alloc (Nat.le_refl _) _⟩

set_option maxHeartbeats 400000 in
theorem sEndOk_3 (a t l : Int) (w : World) :
    Calls Tryz.prog 101 #[.agg #[.int .i64 3, .int .i64 a, .int .i64 t, .int .i64 l]] w fun e w' => e = .returned (.bool (endOkB 3 a t l)) ∧ Below w.heap.size w w' := by
  cases ha : isNameB a <;> cases ht : isBelowB t 40 <;> cases hl : isBelowB l 40
  all_goals go_enter Tryz.func101, Tryz.ntmps101
  all_goals go_wp2_with (first
    | (go_at_call 137; refine (l2Block_any _ _).mono ?_; rintro e w' ⟨rfl, rfl⟩)
    | (go_at_call 136; refine (l1Name_any _ _).mono ?_; rintro e w' ⟨rfl, rfl⟩))
  all_goals go_ret
  all_goals exact ⟨by simp [endOkB, ha, ht, hl], (Below.refl _ _).alloc (Nat.le_refl _) _⟩

set_option maxHeartbeats 400000 in
theorem sEndOk_0 (k a t l : Int) (w : World) (h1 : (k == 1) = false) (h2 : (k == 2) = false) (h3 : (k == 3) = false) :
    Calls Tryz.prog 101 #[.agg #[.int .i64 k, .int .i64 a, .int .i64 t, .int .i64 l]] w fun e w' => e = .returned (.bool (endOkB k a t l)) ∧ Below w.heap.size w w' := by
  have hE : Hid (endOkB k a t l = false) := by
    unfold Hid endOkB
    rw [if_neg (by simpa using h1), if_neg (by simpa using h2), if_neg (by simpa using h3)]
  go_enter Tryz.func101, Tryz.ntmps101
  go_wp2
  go_ret
  exact ⟨by rw [hE.out]; rfl, (Below.refl _ _).alloc (Nat.le_refl _) _⟩

theorem sEndOk_any (k a t l : Int) (w : World) :
    Calls Tryz.prog 101 #[vEnd k a t l] w fun e w' => e = .returned (.bool (endOkB k a t l)) ∧ Below w.heap.size w w' := by
  by_cases h1 : k = 1
  · subst h1; exact sEndOk_1 a t l w
  by_cases h2 : k = 2
  · subst h2; exact sEndOk_2 a t l w
  by_cases h3 : k = 3
  · subst h3; exact sEndOk_3 a t l w
  exact sEndOk_0 k a t l w (by simpa using h1) (by simpa using h2) (by simpa using h3)

/-- The targets of an End, whatever else is in it. -/
def toL (k t l : Int) : List Int := if k = 2 then [t] else if k = 3 then [t, l] else []
def succsL (k a t l : Int) : List Int := if endOkB k a t l = true then toL k t l else []
theorem toL_len (k t l : Int) : (toL k t l).length ≤ 2 := by unfold toL; split <;> (try split) <;> simp
theorem succsL_len (k a t l : Int) : (succsL k a t l).length ≤ 2 := by
  unfold succsL; split
  · exact toL_len k t l
  · simp

/-- A call that gives a slice of int64 of its own. -/
def GivesI (xs : List Int) (w : World) (e : Ending) (w' : World) : Prop := ∃ r, e = .returned r ∧ OI w' w.heap.size r xs ∧ Below w.heap.size w w'

set_option maxHeartbeats 400000 in
theorem SuccsOf_bad (k a t l : Int) (w : World) (hok : endOkB k a t l = false) :
    Calls Tryz.prog 85 #[.agg #[.int .i64 k, .int .i64 a, .int .i64 t, .int .i64 l]] w (GivesI [] w) := by
  go_enter Tryz.func85, Tryz.ntmps85
  go_wp2_with (go_at_call 128; refine (EndOk_any _ _ _ _ _).mono ?_; rintro e w1 ⟨rfl, hb1⟩; obtain ⟨hc1, hf1⟩ := bcell hb1; have hz1 : w.heap.size < w1.heap.size := (by have := hb1.size; simp at this; omega))
  go_ret
  exact ⟨_, rfl, OI_lit0 _ rfl (by omega), below1 hb1⟩

set_option maxHeartbeats 400000 in
theorem SuccsOf_1 (a t l : Int) (w : World) (hok : endOkB 1 a t l = true) :
    Calls Tryz.prog 85 #[.agg #[.int .i64 1, .int .i64 a, .int .i64 t, .int .i64 l]] w (GivesI [] w) := by
  go_enter Tryz.func85, Tryz.ntmps85
  go_wp2_with (go_at_call 128; refine (EndOk_any _ _ _ _ _).mono ?_; rintro e w1 ⟨rfl, hb1⟩; obtain ⟨hc1, hf1⟩ := bcell hb1; have hz1 : w.heap.size < w1.heap.size := (by have := hb1.size; simp at this; omega))
  go_ret
  exact ⟨_, rfl, OI_lit0 _ rfl (by omega), below1 hb1⟩

set_option maxHeartbeats 400000 in
theorem SuccsOf_2 (a t l : Int) (w : World) (hok : endOkB 2 a t l = true) :
    Calls Tryz.prog 85 #[.agg #[.int .i64 2, .int .i64 a, .int .i64 t, .int .i64 l]] w (GivesI [t] w) := by
  go_enter Tryz.func85, Tryz.ntmps85
  go_wp2_with (go_at_call 128; refine (EndOk_any _ _ _ _ _).mono ?_; rintro e w1 ⟨rfl, hb1⟩; obtain ⟨hc1, hf1⟩ := bcell hb1; have hz1 : w.heap.size < w1.heap.size := (by have := hb1.size; simp at this; omega))
  go_ret
  exact ⟨_, rfl, OI_lit1 _ _ rfl (by omega), below1 hb1⟩

set_option maxHeartbeats 400000 in
theorem SuccsOf_3 (a t l : Int) (w : World) (hok : endOkB 3 a t l = true) :
    Calls Tryz.prog 85 #[.agg #[.int .i64 3, .int .i64 a, .int .i64 t, .int .i64 l]] w (GivesI [t, l] w) := by
  go_enter Tryz.func85, Tryz.ntmps85
  go_wp2_with (go_at_call 128; refine (EndOk_any _ _ _ _ _).mono ?_; rintro e w1 ⟨rfl, hb1⟩; obtain ⟨hc1, hf1⟩ := bcell hb1; have hz1 : w.heap.size < w1.heap.size := (by have := hb1.size; simp at this; omega))
  go_ret
  exact ⟨_, rfl, OI_lit2 _ _ _ rfl (by omega), below1 hb1⟩

theorem endOk_range {k a t l : Int} (h : endOkB k a t l = true) : k = 1 ∨ k = 2 ∨ k = 3 := by
  unfold endOkB at h
  by_cases h1 : k = 1
  · exact .inl h1
  by_cases h2 : k = 2
  · exact .inr (.inl h2)
  by_cases h3 : k = 3
  · exact .inr (.inr h3)
  rw [if_neg h1, if_neg h2, if_neg h3] at h
  cases h

theorem SuccsOf_any (k a t l : Int) (w : World) :
    Calls Tryz.prog 85 #[vEnd k a t l] w (GivesI (succsL k a t l) w) := by
  cases hok : endOkB k a t l
  · have e : succsL k a t l = [] := by simp [succsL, hok]
    rw [e]; exact SuccsOf_bad k a t l w hok
  · have e : succsL k a t l = toL k t l := by simp [succsL, hok]
    rw [e]
    rcases endOk_range hok with rfl | rfl | rfl
    · exact SuccsOf_1 a t l w hok
    · exact SuccsOf_2 a t l w hok
    · exact SuccsOf_3 a t l w hok

set_option maxHeartbeats 400000 in
theorem l2Succs_2 (a t l : Int) (w : World) :
    Calls Tryz.prog 64 #[.agg #[.int .i64 2, .int .i64 a, .int .i64 t, .int .i64 l]] w (GivesI [t] w) := by
  go_enter Tryz.func64, Tryz.ntmps64
  go_wp2
  go_ret
  refine ⟨_, rfl, ?_, ((Below.refl _ _).alloc (Nat.le_refl _) _).alloc (by simp) _⟩
  exact OI_lit1 (w.alloc _) _ (by simp) (by omega)

set_option maxHeartbeats 400000 in
theorem l2Succs_3 (a t l : Int) (w : World) :
    Calls Tryz.prog 64 #[.agg #[.int .i64 3, .int .i64 a, .int .i64 t, .int .i64 l]] w (GivesI [t, l] w) := by
  go_enter Tryz.func64, Tryz.ntmps64
  go_wp2
  go_ret
  refine ⟨_, rfl, ?_, ((Below.refl _ _).alloc (Nat.le_refl _) _).alloc (by simp) _⟩
  exact OI_lit2 (w.alloc _) _ _ (by simp) (by omega)

set_option maxHeartbeats 400000 in
theorem l2Succs_0 (k a t l : Int) (w : World) (h2 : (k == 2) = false) (h3 : (k == 3) = false) :
    Calls Tryz.prog 64 #[.agg #[.int .i64 k, .int .i64 a, .int .i64 t, .int .i64 l]] w (GivesI [] w) := by
  go_enter Tryz.func64, Tryz.ntmps64
  go_wp2
  go_ret
  refine ⟨_, rfl, ?_, ((Below.refl _ _).alloc (Nat.le_refl _) _).alloc (by simp) _⟩
  exact OI_lit0 (w.alloc _) (by simp) (by omega)

theorem l2Succs_any (k a t l : Int) (w : World) :
    Calls Tryz.prog 64 #[vEnd k a t l] w (GivesI (toL k t l) w) := by
  by_cases h2 : k = 2
  · subst h2; exact l2Succs_2 a t l w
  by_cases h3 : k = 3
  · subst h3; exact l2Succs_3 a t l w
  have e : toL k t l = [] := by unfold toL; rw [if_neg h2, if_neg h3]
  rw [e]
  exact l2Succs_0 k a t l w (by simpa using h2) (by simpa using h3)

set_option maxHeartbeats 400000 in
theorem toEnd_any (k a t l : Int) (w : World) :
    Calls Tryz.prog 123 #[.agg #[.int .i64 k, .int .i64 a, .int .i64 t, .int .i64 l]] w fun e w' => e = .returned (vEnd k a t l) ∧ Below w.heap.size w w' := by
  go_enter Tryz.func123, Tryz.ntmps123
  go_wp2
  refine bodyPost_ret (v := .agg #[.int .i64 k, .int .i64 a, .int .i64 t, .int .i64 l]) (by simp [results, Tryz.results123, go_sem]) rfl ⟨rfl, ?_⟩
  repeat (first | exact Below.refl _ _ | refine Below.alloc ?_ (by first | (simp; done) | (simp; omega)) _ | refine Below.setCell ?_ (by simp) _)
end

/- eqFun of the laws and what it calls: at two values that read alike it answers true. -/
section
open Go.ChangeShapes Go.WideShapes Go.ChangeAt Go.RowKit Go.Joins

theorem Row.ri {w : World} {Z : Zn} {v : Value} {xs : List Int} (h : Row w Z 1 EInt v xs) : RI w v xs := by
  obtain ⟨h1, A, c, rfl, h2⟩ := h
  refine ⟨h1, A, c, rfl, fun hne => ?_⟩
  obtain ⟨b, off, rfl, _, h3⟩ := h2 hne
  refine ⟨b, off, rfl, fun k u hu => ?_⟩
  obtain ⟨cs, rfl, h4⟩ := h3 k u hu
  have := (h4 0 _ rfl).1
  rwa [Nat.mul_one] at this

/-- The call answers true, and old memory stays. -/
def Says (b : Bool) (w : World) (e : Ending) (w' : World) : Prop := e = .returned (.bool b) ∧ Below w.heap.size w w'
theorem below_drew {w : World} : Below w.heap.size w w.drew := (Below.refl w.heap.size w).drew

set_option maxHeartbeats 400000 in
theorem eqMove_same (a b : Int) (w : World) : Calls Tryz.prog 147 #[.agg #[.int .i64 a, .int .i64 b], .agg #[.int .i64 a, .int .i64 b]] w (Says true w) := by
  go_enter Tryz.func147, Tryz.ntmps147
  go_wp2
  go_ret
  exact ⟨rfl, ((Below.refl _ _).alloc (Nat.le_refl _) _).alloc (by simp) _⟩

set_option maxHeartbeats 400000 in
theorem eqIns_same (a b c d : Int) (w : World) : Calls Tryz.prog 148 #[.agg #[.int .i64 a, .int .i64 b, .int .i64 c, .int .i64 d], .agg #[.int .i64 a, .int .i64 b, .int .i64 c, .int .i64 d]] w (Says true w) := by
  go_enter Tryz.func148, Tryz.ntmps148
  go_wp2
  go_ret
  exact ⟨rfl, ((Below.refl _ _).alloc (Nat.le_refl _) _).alloc (by simp) _⟩

set_option maxHeartbeats 400000 in
theorem eqEnd_same (a b c d : Int) (w : World) : Calls Tryz.prog 127 #[.agg #[.int .i64 a, .int .i64 b, .int .i64 c, .int .i64 d], .agg #[.int .i64 a, .int .i64 b, .int .i64 c, .int .i64 d]] w (Says true w) := by
  go_enter Tryz.func127, Tryz.ntmps127
  go_wp2
  go_ret
  exact ⟨rfl, ((Below.refl _ _).alloc (Nat.le_refl _) _).alloc (by simp) _⟩

set_option maxHeartbeats 400000 in
theorem eqPhi_same (a : Int) (u v : Value) (xs : List Int) (w : World) (Z Z' : Zn) (hu : Row w Z 1 EInt u xs) (hv : Row w Z' 1 EInt v xs) (hD : ∀ b, Z.D b → b < w.heap.size) (hD' : ∀ b, Z'.D b → b < w.heap.size) :
    Calls Tryz.prog 146 #[.agg #[.int .i64 a, u], .agg #[.int .i64 a, v]] w (Says true w) := by
  have HU := Lib.hid hu
  have HV := Lib.hid hv
  obtain ⟨_, A, c, rfl, _⟩ := hu
  obtain ⟨_, A', c', rfl, _⟩ := hv
  go_enter Tryz.func146, Tryz.ntmps146
  go_wp2_with fail
  have hK : ∀ V : World, Below w.heap.size w V → (∀ Z : Zn, (∀ b, Z.D b → b < w.heap.size) → Kept Z Z w V) := fun V hb Z hD => Kept.below hb hD
  refine (eqInt64S_same _ _ xs _ (HU.out.keep (hK _ (((Below.refl _ _).alloc (Nat.le_refl _) _).alloc (by simp) _) _ hD) fun _ _ h => h).ri (HV.out.keep (hK _ (((Below.refl _ _).alloc (Nat.le_refl _) _).alloc (by simp) _) _ hD') fun _ _ h => h).ri).mono ?_
  rintro e w1 ⟨rfl, n, rfl⟩
  go_wp2_with fail
  go_ret
  exact ⟨rfl, below_drewN (((Below.refl _ _).alloc (Nat.le_refl _) _).alloc (by simp) _) n⟩

set_option maxHeartbeats 400000 in
theorem eqMoveS_same (u v : Value) (xs : List MoveD) (w : World) (Z Z' : Zn) (hu : Row w Z 2 EMove u xs) (hv : Row w Z' 2 EMove v xs) (hD : ∀ b, Z.D b → b < w.heap.size) (hD' : ∀ b, Z'.D b → b < w.heap.size) :
    Calls Tryz.prog 125 #[u, v] w (Says true w) := by
  obtain ⟨hle, A, c, rfl, hx⟩ := hu
  obtain ⟨_, A', c', rfl, hy⟩ := hv
  go_enter Tryz.func125, Tryz.ntmps125
  go_wp2
  go_loopw [5] (fun i wr => ∃ k : Nat, k ≤ xs.length ∧ i = .int .i64 k ∧ Hid (Below w.heap.size w wr)) (fun i _ => xs.length - (intOf i).toNat)
  case atStart => exact ⟨0, Nat.zero_le _, rfl, Below.refl _ _⟩
  case round =>
    obtain ⟨k, hk, rfl, HB⟩ := hrel
    by_cases hlt : k < xs.length
    · have hxk : xs[k]? = some xs[k] := List.getElem?_eq_getElem hlt
      generalize xs[k] = x at hxk
      obtain ⟨b, off, rfl, hDb, hrow⟩ := hx (by rintro rfl; simp at hlt)
      obtain ⟨b', off', rfl, hDb', hrow'⟩ := hy (by rintro rfl; simp at hlt)
      obtain ⟨cs, hE, hcs⟩ := hrow k x hxk
      obtain ⟨cs', hE', hcs'⟩ := hrow' k x hxk
      have hbl := hD b hDb
      have hbl' := hD' b' hDb'
      have hz := HB.out.size
      have hbw : b < wr.heap.size := by omega
      have hbw' : b' < wr.heap.size := by omega
      subst hE hE'
      have c0 : wr.cell? ⟨b, off + k * 2, none⟩ = some (.int .i64 x.dst) := (HB.out.cell (p := ⟨b, _, none⟩) hbl).trans (hcs 0 _ rfl).1
      have c1 : wr.cell? ⟨b, off + k * 2 + 1, none⟩ = some (.int .i64 x.src) := (HB.out.cell (p := ⟨b, _, none⟩) hbl).trans (hcs 1 _ rfl).1
      have p0 : wr.cell? ⟨b', off' + k * 2, none⟩ = some (.int .i64 x.dst) := (HB.out.cell (p := ⟨b', _, none⟩) hbl').trans (hcs' 0 _ rfl).1
      have p1 : wr.cell? ⟨b', off' + k * 2 + 1, none⟩ = some (.int .i64 x.src) := (HB.out.cell (p := ⟨b', _, none⟩) hbl').trans (hcs' 1 _ rfl).1
      clear hcs hrow hx hcs' hrow' hy hxk
      have keepS : ∀ w1 : World, Below wr.heap.size wr w1 → (fun w' => Below wr.heap.size wr w' ∧ w'.cell? ⟨b, off + k * 2, none⟩ = some (.int .i64 x.dst) ∧ w'.cell? ⟨b, off + k * 2 + 1, none⟩ = some (.int .i64 x.src) ∧ w'.cell? ⟨b', off' + k * 2, none⟩ = some (.int .i64 x.dst) ∧ w'.cell? ⟨b', off' + k * 2 + 1, none⟩ = some (.int .i64 x.src)) w1 := fun w1 hb => ⟨hb, (hb.cell (p := ⟨b, _, none⟩) hbw).trans c0, (hb.cell (p := ⟨b, _, none⟩) hbw).trans c1, (hb.cell (p := ⟨b', _, none⟩) hbw').trans p0, (hb.cell (p := ⟨b', _, none⟩) hbw').trans p1⟩
      have K := keepS _ (Below.refl _ _)
      have Kd := keepS _ below_drew
      go_wp2_with fail
      go_region_held3 (fun w' => Below wr.heap.size wr w' ∧ w'.cell? ⟨b, off + k * 2, none⟩ = some (.int .i64 x.dst) ∧ w'.cell? ⟨b, off + k * 2 + 1, none⟩ = some (.int .i64 x.src) ∧ w'.cell? ⟨b', off' + k * 2, none⟩ = some (.int .i64 x.dst) ∧ w'.cell? ⟨b', off' + k * 2 + 1, none⟩ = some (.int .i64 x.src)) (first | exact Kd | exact K | exact K5 | fail)
        (first
        | (go_at_call 147; have := (show _ ∧ _ by assumption); refine (eqMove_same _ _ _).mono ?_; rintro e w5 ⟨rfl, hb5⟩; have K5 := keepS _ (this.1.trans (hb5.mono this.1.size))))
      go_wp2_with fail
      have HB5 := Lib.hid (HB.out.trans (K5.1.mono hz))
      clear K Kd K5 keepS
      go_roundw
      case rel => exact ⟨k + 1, by omega, by go_num, HB5.out⟩
      case measure => simp [intOf]; omega
    · obtain rfl : k = xs.length := by omega
      go_wp2
      go_ret
      exact ⟨rfl, HB.out⟩

set_option maxHeartbeats 400000 in
theorem eqInsS_same (u v : Value) (xs : List InsD) (w : World) (Z Z' : Zn) (hu : Row w Z 4 EIns u xs) (hv : Row w Z' 4 EIns v xs) (hD : ∀ b, Z.D b → b < w.heap.size) (hD' : ∀ b, Z'.D b → b < w.heap.size) :
    Calls Tryz.prog 126 #[u, v] w (Says true w) := by
  obtain ⟨hle, A, c, rfl, hx⟩ := hu
  obtain ⟨_, A', c', rfl, hy⟩ := hv
  go_enter Tryz.func126, Tryz.ntmps126
  go_wp2
  go_loopw [5] (fun i wr => ∃ k : Nat, k ≤ xs.length ∧ i = .int .i64 k ∧ Hid (Below w.heap.size w wr)) (fun i _ => xs.length - (intOf i).toNat)
  case atStart => exact ⟨0, Nat.zero_le _, rfl, Below.refl _ _⟩
  case round =>
    obtain ⟨k, hk, rfl, HB⟩ := hrel
    by_cases hlt : k < xs.length
    · have hxk : xs[k]? = some xs[k] := List.getElem?_eq_getElem hlt
      generalize xs[k] = x at hxk
      obtain ⟨b, off, rfl, hDb, hrow⟩ := hx (by rintro rfl; simp at hlt)
      obtain ⟨b', off', rfl, hDb', hrow'⟩ := hy (by rintro rfl; simp at hlt)
      obtain ⟨cs, hE, hcs⟩ := hrow k x hxk
      obtain ⟨cs', hE', hcs'⟩ := hrow' k x hxk
      have hbl := hD b hDb
      have hbl' := hD' b' hDb'
      have hz := HB.out.size
      have hbw : b < wr.heap.size := by omega
      have hbw' : b' < wr.heap.size := by omega
      subst hE hE'
      have c0 : wr.cell? ⟨b, off + k * 4, none⟩ = some (.int .i64 x.op) := (HB.out.cell (p := ⟨b, _, none⟩) hbl).trans (hcs 0 _ rfl).1
      have c1 : wr.cell? ⟨b, off + k * 4 + 1, none⟩ = some (.int .i64 x.v) := (HB.out.cell (p := ⟨b, _, none⟩) hbl).trans (hcs 1 _ rfl).1
      have c2 : wr.cell? ⟨b, off + k * 4 + 2, none⟩ = some (.int .i64 x.a) := (HB.out.cell (p := ⟨b, _, none⟩) hbl).trans (hcs 2 _ rfl).1
      have c3 : wr.cell? ⟨b, off + k * 4 + 3, none⟩ = some (.int .i64 x.b) := (HB.out.cell (p := ⟨b, _, none⟩) hbl).trans (hcs 3 _ rfl).1
      have p0 : wr.cell? ⟨b', off' + k * 4, none⟩ = some (.int .i64 x.op) := (HB.out.cell (p := ⟨b', _, none⟩) hbl').trans (hcs' 0 _ rfl).1
      have p1 : wr.cell? ⟨b', off' + k * 4 + 1, none⟩ = some (.int .i64 x.v) := (HB.out.cell (p := ⟨b', _, none⟩) hbl').trans (hcs' 1 _ rfl).1
      have p2 : wr.cell? ⟨b', off' + k * 4 + 2, none⟩ = some (.int .i64 x.a) := (HB.out.cell (p := ⟨b', _, none⟩) hbl').trans (hcs' 2 _ rfl).1
      have p3 : wr.cell? ⟨b', off' + k * 4 + 3, none⟩ = some (.int .i64 x.b) := (HB.out.cell (p := ⟨b', _, none⟩) hbl').trans (hcs' 3 _ rfl).1
      clear hcs hrow hx hcs' hrow' hy hxk
      have keepS : ∀ w1 : World, Below wr.heap.size wr w1 → (fun w' => Below wr.heap.size wr w' ∧ w'.cell? ⟨b, off + k * 4, none⟩ = some (.int .i64 x.op) ∧ w'.cell? ⟨b, off + k * 4 + 1, none⟩ = some (.int .i64 x.v) ∧ w'.cell? ⟨b, off + k * 4 + 2, none⟩ = some (.int .i64 x.a) ∧ w'.cell? ⟨b, off + k * 4 + 3, none⟩ = some (.int .i64 x.b) ∧ w'.cell? ⟨b', off' + k * 4, none⟩ = some (.int .i64 x.op) ∧ w'.cell? ⟨b', off' + k * 4 + 1, none⟩ = some (.int .i64 x.v) ∧ w'.cell? ⟨b', off' + k * 4 + 2, none⟩ = some (.int .i64 x.a) ∧ w'.cell? ⟨b', off' + k * 4 + 3, none⟩ = some (.int .i64 x.b)) w1 := fun w1 hb => ⟨hb, (hb.cell (p := ⟨b, _, none⟩) hbw).trans c0, (hb.cell (p := ⟨b, _, none⟩) hbw).trans c1, (hb.cell (p := ⟨b, _, none⟩) hbw).trans c2, (hb.cell (p := ⟨b, _, none⟩) hbw).trans c3, (hb.cell (p := ⟨b', _, none⟩) hbw').trans p0, (hb.cell (p := ⟨b', _, none⟩) hbw').trans p1, (hb.cell (p := ⟨b', _, none⟩) hbw').trans p2, (hb.cell (p := ⟨b', _, none⟩) hbw').trans p3⟩
      have K := keepS _ (Below.refl _ _)
      have Kd := keepS _ below_drew
      go_wp2_with fail
      go_region_held3 (fun w' => Below wr.heap.size wr w' ∧ w'.cell? ⟨b, off + k * 4, none⟩ = some (.int .i64 x.op) ∧ w'.cell? ⟨b, off + k * 4 + 1, none⟩ = some (.int .i64 x.v) ∧ w'.cell? ⟨b, off + k * 4 + 2, none⟩ = some (.int .i64 x.a) ∧ w'.cell? ⟨b, off + k * 4 + 3, none⟩ = some (.int .i64 x.b) ∧ w'.cell? ⟨b', off' + k * 4, none⟩ = some (.int .i64 x.op) ∧ w'.cell? ⟨b', off' + k * 4 + 1, none⟩ = some (.int .i64 x.v) ∧ w'.cell? ⟨b', off' + k * 4 + 2, none⟩ = some (.int .i64 x.a) ∧ w'.cell? ⟨b', off' + k * 4 + 3, none⟩ = some (.int .i64 x.b)) (first | exact Kd | exact K | exact K5 | fail)
        (first
        | (go_at_call 148; have := (show _ ∧ _ by assumption); refine (eqIns_same _ _ _ _ _).mono ?_; rintro e w5 ⟨rfl, hb5⟩; have K5 := keepS _ (this.1.trans (hb5.mono this.1.size))))
      go_wp2_with fail
      have HB5 := Lib.hid (HB.out.trans (K5.1.mono hz))
      clear K Kd K5 keepS
      go_roundw
      case rel => exact ⟨k + 1, by omega, by go_num, HB5.out⟩
      case measure => simp [intOf]; omega
    · obtain rfl : k = xs.length := by omega
      go_wp2
      go_ret
      exact ⟨rfl, HB.out⟩

set_option maxHeartbeats 400000 in
theorem eqPhiS_same (u v : Value) (xs : List PhiD) (w : World) (Z Z' : Zn) (hu : Row w Z 2 (EPhi w Z) u xs) (hv : Row w Z' 2 (EPhi w Z') v xs) (hD : ∀ b, Z.D b → b < w.heap.size) (hD' : ∀ b, Z'.D b → b < w.heap.size) :
    Calls Tryz.prog 124 #[u, v] w (Says true w) := by
  obtain ⟨hle, A, c, rfl, hx⟩ := hu
  obtain ⟨_, A', c', rfl, hy⟩ := hv
  go_enter Tryz.func124, Tryz.ntmps124
  go_wp2
  go_loopw [5] (fun i wr => ∃ k : Nat, k ≤ xs.length ∧ i = .int .i64 k ∧ Hid (Below w.heap.size w wr)) (fun i _ => xs.length - (intOf i).toNat)
  case atStart => exact ⟨0, Nat.zero_le _, rfl, Below.refl _ _⟩
  case round =>
    obtain ⟨k, hk, rfl, HB⟩ := hrel
    by_cases hlt : k < xs.length
    · have hxk : xs[k]? = some xs[k] := List.getElem?_eq_getElem hlt
      generalize xs[k] = x at hxk
      obtain ⟨b, off, rfl, hDb, hrow⟩ := hx (by rintro rfl; simp at hlt)
      obtain ⟨b', off', rfl, hDb', hrow'⟩ := hy (by rintro rfl; simp at hlt)
      obtain ⟨cs, hE, hcs⟩ := hrow k x hxk
      obtain ⟨cs', hE', hcs'⟩ := hrow' k x hxk
      have hbl := hD b hDb
      have hbl' := hD' b' hDb'
      have hz := HB.out.size
      have hbw : b < wr.heap.size := by omega
      have hbw' : b' < wr.heap.size := by omega
      obtain ⟨q, rfl, hq⟩ := hE
      obtain ⟨q', rfl, hq'⟩ := hE'
      have HQ := Lib.hid (hq.keep (Kept.below HB.out hD) fun _ _ h => h)
      have HQ' := Lib.hid (hq'.keep (Kept.below HB.out hD') fun _ _ h => h)
      clear hq hq'

      have c0 : wr.cell? ⟨b, off + k * 2, none⟩ = some (.int .i64 x.v) := (HB.out.cell (p := ⟨b, _, none⟩) hbl).trans (hcs 0 _ rfl).1
      have c1 : wr.cell? ⟨b, off + k * 2 + 1, none⟩ = some q := (HB.out.cell (p := ⟨b, _, none⟩) hbl).trans (hcs 1 _ rfl).1
      have p0 : wr.cell? ⟨b', off' + k * 2, none⟩ = some (.int .i64 x.v) := (HB.out.cell (p := ⟨b', _, none⟩) hbl').trans (hcs' 0 _ rfl).1
      have p1 : wr.cell? ⟨b', off' + k * 2 + 1, none⟩ = some q' := (HB.out.cell (p := ⟨b', _, none⟩) hbl').trans (hcs' 1 _ rfl).1
      clear hcs hrow hx hcs' hrow' hy hxk
      have keepS : ∀ w1 : World, Below wr.heap.size wr w1 → (fun w' => Below wr.heap.size wr w' ∧ w'.cell? ⟨b, off + k * 2, none⟩ = some (.int .i64 x.v) ∧ w'.cell? ⟨b, off + k * 2 + 1, none⟩ = some q ∧ w'.cell? ⟨b', off' + k * 2, none⟩ = some (.int .i64 x.v) ∧ w'.cell? ⟨b', off' + k * 2 + 1, none⟩ = some q') w1 := fun w1 hb => ⟨hb, (hb.cell (p := ⟨b, _, none⟩) hbw).trans c0, (hb.cell (p := ⟨b, _, none⟩) hbw).trans c1, (hb.cell (p := ⟨b', _, none⟩) hbw').trans p0, (hb.cell (p := ⟨b', _, none⟩) hbw').trans p1⟩
      have K := keepS _ (Below.refl _ _)
      have Kd := keepS _ below_drew
      go_wp2_with fail
      go_region_held3 (fun w' => Below wr.heap.size wr w' ∧ w'.cell? ⟨b, off + k * 2, none⟩ = some (.int .i64 x.v) ∧ w'.cell? ⟨b, off + k * 2 + 1, none⟩ = some q ∧ w'.cell? ⟨b', off' + k * 2, none⟩ = some (.int .i64 x.v) ∧ w'.cell? ⟨b', off' + k * 2 + 1, none⟩ = some q') (first | exact Kd | exact K | exact K5 | fail)
        (first
        | (go_at_call 146; have := (show _ ∧ _ by assumption); refine (eqPhi_same _ _ _ _ _ Z Z' (HQ.out.keep (Kept.below this.1 fun b hb => by have h1 := hD b hb; omega) fun _ _ h => h) (HQ'.out.keep (Kept.below this.1 fun b hb => by have h1 := hD' b hb; omega) fun _ _ h => h) (fun b hb => by have h1 := hD b hb; have h2 := this.1.size; omega) (fun b hb => by have h1 := hD' b hb; have h2 := this.1.size; omega)).mono ?_; rintro e w5 ⟨rfl, hb5⟩; have K5 := keepS _ (this.1.trans (hb5.mono this.1.size))))
      go_wp2_with fail
      have HB5 := Lib.hid (HB.out.trans (K5.1.mono hz))
      clear K Kd K5 keepS
      go_roundw
      case rel => exact ⟨k + 1, by omega, by go_num, HB5.out⟩
      case measure => simp [intOf]; omega
    · obtain rfl : k = xs.length := by omega
      go_wp2
      go_ret
      exact ⟨rfl, HB.out⟩

theorem EBlock.rows {w : World} {Z : Zn} {x : BlockD} {v0 v1 v2 v3 a b c d : Value} (h : EBlock w Z x [v0, v1, v2, v3, a, b, c, d]) : a = .int .i64 x.fin.k ∧ b = .int .i64 x.fin.a ∧ c = .int .i64 x.fin.t ∧ d = .int .i64 x.fin.l ∧ Row w Z 2 (EPhi w Z) v0 x.phis ∧ Row w Z 2 EMove v1 x.head ∧ Row w Z 4 EIns v2 x.body ∧ Row w Z 2 EMove v3 x.tail := by
  obtain ⟨_, _, _, _, he, h0, h1, h2, h3⟩ := h
  simp only [List.cons.injEq, and_true] at he
  obtain ⟨rfl, rfl, rfl, rfl, rfl, rfl, rfl, rfl⟩ := he
  exact ⟨rfl, rfl, rfl, rfl, h0, h1, h2, h3⟩

set_option maxHeartbeats 1000000 in
theorem eqBlock_same (x : BlockD) (cs cs' : List Value) (w : World) (Z Z' : Zn) (hu : EBlock w Z x cs) (hv : EBlock w Z' x cs') (hD : ∀ b, Z.D b → b < w.heap.size) (hD' : ∀ b, Z'.D b → b < w.heap.size) :
    Calls Tryz.prog 84 #[.agg cs.toArray, .agg cs'.toArray] w (Says true w) := by
  obtain ⟨v0, v1, v2, v3, rfl, hv0, hv1, hv2, hv3⟩ := hu
  obtain ⟨u0, u1, u2, u3, rfl, hu0, hu1, hu2, hu3⟩ := hv
  have HV0 := Lib.hid hv0
  have HV1 := Lib.hid hv1
  have HV2 := Lib.hid hv2
  have HV3 := Lib.hid hv3
  have HU0 := Lib.hid hu0
  have HU1 := Lib.hid hu1
  have HU2 := Lib.hid hu2
  have HU3 := Lib.hid hu3
  obtain ⟨_, A0, c0, rfl, _⟩ := hv0
  obtain ⟨_, A1, c1, rfl, _⟩ := hv1
  obtain ⟨_, A2, c2, rfl, _⟩ := hv2
  obtain ⟨_, A3, c3, rfl, _⟩ := hv3
  obtain ⟨_, B0, d0, rfl, _⟩ := hu0
  obtain ⟨_, B1, d1, rfl, _⟩ := hu1
  obtain ⟨_, B2, d2, rfl, _⟩ := hu2
  obtain ⟨_, B3, d3, rfl, _⟩ := hu3
  go_enter Tryz.func84, Tryz.ntmps84
  go_wp2_with fail
  have hK : ∀ V : World, Below w.heap.size w V → Kept Z Z w V := fun V hb => Kept.below hb hD
  have hK' : ∀ V : World, Below w.heap.size w V → Kept Z' Z' w V := fun V hb => Kept.below hb hD'
  refine (eqPhiS_same _ _ _ _ Z Z' (HV0.out.keep (hK _ (((Below.refl _ _).alloc (Nat.le_refl _) _).alloc (by simp) _)) fun _ _ h => h.keep (hK _ (((Below.refl _ _).alloc (Nat.le_refl _) _).alloc (by simp) _))) (HU0.out.keep (hK' _ (((Below.refl _ _).alloc (Nat.le_refl _) _).alloc (by simp) _)) fun _ _ h => h.keep (hK' _ (((Below.refl _ _).alloc (Nat.le_refl _) _).alloc (by simp) _))) (fun b hb => by have := hD b hb; simp; omega) (fun b hb => by have := hD' b hb; simp; omega)).mono ?_
  rintro e w1 ⟨rfl, hb1⟩
  have HB1 : Hid (Below w.heap.size w w1) := (((Below.refl _ _).alloc (Nat.le_refl _) _).alloc (by simp) _).trans (hb1.mono (by simp; omega))
  obtain ⟨hc1, hf1⟩ := bcellB (hb1.mono (B' := w.heap.size + 2) (by simp))
  have hz1 : w.heap.size + 2 ≤ w1.heap.size := by have := hb1.size; simp at this; omega
  clear hb1 hf1
  go_wp2_with fail
  refine (eqMoveS_same _ _ _ _ Z Z' (HV1.out.keep (hK _ HB1.out) fun _ _ h => h) (HU1.out.keep (hK' _ HB1.out) fun _ _ h => h) (fun b hb => by have := hD b hb; omega) (fun b hb => by have := hD' b hb; omega)).mono ?_
  rintro e w2 ⟨rfl, hb2⟩
  have HB2 : Hid (Below w.heap.size w w2) := HB1.out.trans (hb2.mono (by omega))
  obtain ⟨hc2, hf2⟩ := bcellB (hb2.mono (B' := w.heap.size + 2) (by omega))
  have hz2 : w.heap.size + 2 ≤ w2.heap.size := by have := hb2.size; omega
  clear hb2 hf2
  go_wp2_with fail
  refine (eqInsS_same _ _ _ _ Z Z' (HV2.out.keep (hK _ HB2.out) fun _ _ h => h) (HU2.out.keep (hK' _ HB2.out) fun _ _ h => h) (fun b hb => by have := hD b hb; omega) (fun b hb => by have := hD' b hb; omega)).mono ?_
  rintro e w3 ⟨rfl, hb3⟩
  have HB3 : Hid (Below w.heap.size w w3) := HB2.out.trans (hb3.mono (by omega))
  obtain ⟨hc3, hf3⟩ := bcellB (hb3.mono (B' := w.heap.size + 2) (by omega))
  have hz3 : w.heap.size + 2 ≤ w3.heap.size := by have := hb3.size; omega
  clear hb3 hf3
  go_wp2_with fail
  refine (eqMoveS_same _ _ _ _ Z Z' (HV3.out.keep (hK _ HB3.out) fun _ _ h => h) (HU3.out.keep (hK' _ HB3.out) fun _ _ h => h) (fun b hb => by have := hD b hb; omega) (fun b hb => by have := hD' b hb; omega)).mono ?_
  rintro e w4 ⟨rfl, hb4⟩
  have HB4 : Hid (Below w.heap.size w w4) := HB3.out.trans (hb4.mono (by omega))
  obtain ⟨hc4, hf4⟩ := bcellB (hb4.mono (B' := w.heap.size + 2) (by omega))
  have hz4 : w.heap.size + 2 ≤ w4.heap.size := by have := hb4.size; omega
  clear hb4 hf4
  go_wp2_with fail
  refine (eqEnd_same _ _ _ _ _).mono ?_
  rintro e w5 ⟨rfl, hb5⟩
  have HB5 : Hid (Below w.heap.size w w5) := HB4.out.trans (hb5.mono (by omega))
  go_wp2_with fail
  go_ret
  exact ⟨rfl, HB5.out⟩

set_option maxHeartbeats 1000000 in
theorem eqBlockS_same (u v : Value) (xs : List BlockD) (w : World) (Z Z' : Zn) (hu : Row w Z 8 (EBlock w Z) u xs) (hv : Row w Z' 8 (EBlock w Z') v xs) (hD : ∀ b, Z.D b → b < w.heap.size) (hD' : ∀ b, Z'.D b → b < w.heap.size) :
    Calls Tryz.prog 44 #[u, v] w (Says true w) := by
  obtain ⟨hle, A, c, rfl, hx⟩ := hu
  obtain ⟨_, A', c', rfl, hy⟩ := hv
  go_enter Tryz.func44, Tryz.ntmps44
  go_wp2
  go_loopw [5] (fun i wr => ∃ k : Nat, k ≤ xs.length ∧ i = .int .i64 k ∧ Hid (Below w.heap.size w wr)) (fun i _ => xs.length - (intOf i).toNat)
  case atStart => exact ⟨0, Nat.zero_le _, rfl, Below.refl _ _⟩
  case round =>
    obtain ⟨k, hk, rfl, HB⟩ := hrel
    by_cases hlt : k < xs.length
    · have hxk : xs[k]? = some xs[k] := List.getElem?_eq_getElem hlt
      generalize xs[k] = x at hxk
      obtain ⟨b, off, rfl, hDb, hrow⟩ := hx (by rintro rfl; simp at hlt)
      obtain ⟨b', off', rfl, hDb', hrow'⟩ := hy (by rintro rfl; simp at hlt)
      obtain ⟨cs, hE, hcs⟩ := hrow k x hxk
      obtain ⟨cs', hE', hcs'⟩ := hrow' k x hxk
      have hbl := hD b hDb
      have hbl' := hD' b' hDb'
      have hz := HB.out.size
      have hbw : b < wr.heap.size := by omega
      have hbw' : b' < wr.heap.size := by omega
      have HQ := Lib.hid (hE.keep (Kept.below HB.out hD))
      have HQ' := Lib.hid (hE'.keep (Kept.below HB.out hD'))
      obtain ⟨a0, a1, a2, a3, rfl, _⟩ := hE
      obtain ⟨a0', a1', a2', a3', rfl, _⟩ := hE'

      have c0 : wr.cell? ⟨b, off + k * 8, none⟩ = some a0 := (HB.out.cell (p := ⟨b, _, none⟩) hbl).trans (hcs 0 _ rfl).1
      have c1 : wr.cell? ⟨b, off + k * 8 + 1, none⟩ = some a1 := (HB.out.cell (p := ⟨b, _, none⟩) hbl).trans (hcs 1 _ rfl).1
      have c2 : wr.cell? ⟨b, off + k * 8 + 2, none⟩ = some a2 := (HB.out.cell (p := ⟨b, _, none⟩) hbl).trans (hcs 2 _ rfl).1
      have c3 : wr.cell? ⟨b, off + k * 8 + 3, none⟩ = some a3 := (HB.out.cell (p := ⟨b, _, none⟩) hbl).trans (hcs 3 _ rfl).1
      have c4 : wr.cell? ⟨b, off + k * 8 + 4, none⟩ = some (.int .i64 x.fin.k) := (HB.out.cell (p := ⟨b, _, none⟩) hbl).trans (hcs 4 _ rfl).1
      have c5 : wr.cell? ⟨b, off + k * 8 + 5, none⟩ = some (.int .i64 x.fin.a) := (HB.out.cell (p := ⟨b, _, none⟩) hbl).trans (hcs 5 _ rfl).1
      have c6 : wr.cell? ⟨b, off + k * 8 + 6, none⟩ = some (.int .i64 x.fin.t) := (HB.out.cell (p := ⟨b, _, none⟩) hbl).trans (hcs 6 _ rfl).1
      have c7 : wr.cell? ⟨b, off + k * 8 + 7, none⟩ = some (.int .i64 x.fin.l) := (HB.out.cell (p := ⟨b, _, none⟩) hbl).trans (hcs 7 _ rfl).1
      have p0 : wr.cell? ⟨b', off' + k * 8, none⟩ = some a0' := (HB.out.cell (p := ⟨b', _, none⟩) hbl').trans (hcs' 0 _ rfl).1
      have p1 : wr.cell? ⟨b', off' + k * 8 + 1, none⟩ = some a1' := (HB.out.cell (p := ⟨b', _, none⟩) hbl').trans (hcs' 1 _ rfl).1
      have p2 : wr.cell? ⟨b', off' + k * 8 + 2, none⟩ = some a2' := (HB.out.cell (p := ⟨b', _, none⟩) hbl').trans (hcs' 2 _ rfl).1
      have p3 : wr.cell? ⟨b', off' + k * 8 + 3, none⟩ = some a3' := (HB.out.cell (p := ⟨b', _, none⟩) hbl').trans (hcs' 3 _ rfl).1
      have p4 : wr.cell? ⟨b', off' + k * 8 + 4, none⟩ = some (.int .i64 x.fin.k) := (HB.out.cell (p := ⟨b', _, none⟩) hbl').trans (hcs' 4 _ rfl).1
      have p5 : wr.cell? ⟨b', off' + k * 8 + 5, none⟩ = some (.int .i64 x.fin.a) := (HB.out.cell (p := ⟨b', _, none⟩) hbl').trans (hcs' 5 _ rfl).1
      have p6 : wr.cell? ⟨b', off' + k * 8 + 6, none⟩ = some (.int .i64 x.fin.t) := (HB.out.cell (p := ⟨b', _, none⟩) hbl').trans (hcs' 6 _ rfl).1
      have p7 : wr.cell? ⟨b', off' + k * 8 + 7, none⟩ = some (.int .i64 x.fin.l) := (HB.out.cell (p := ⟨b', _, none⟩) hbl').trans (hcs' 7 _ rfl).1
      clear hcs hrow hx hcs' hrow' hy hxk
      have keepS : ∀ w1 : World, Below wr.heap.size wr w1 → (fun w' => Below wr.heap.size wr w' ∧ w'.cell? ⟨b, off + k * 8, none⟩ = some a0 ∧ w'.cell? ⟨b, off + k * 8 + 1, none⟩ = some a1 ∧ w'.cell? ⟨b, off + k * 8 + 2, none⟩ = some a2 ∧ w'.cell? ⟨b, off + k * 8 + 3, none⟩ = some a3 ∧ w'.cell? ⟨b, off + k * 8 + 4, none⟩ = some (.int .i64 x.fin.k) ∧ w'.cell? ⟨b, off + k * 8 + 5, none⟩ = some (.int .i64 x.fin.a) ∧ w'.cell? ⟨b, off + k * 8 + 6, none⟩ = some (.int .i64 x.fin.t) ∧ w'.cell? ⟨b, off + k * 8 + 7, none⟩ = some (.int .i64 x.fin.l) ∧ w'.cell? ⟨b', off' + k * 8, none⟩ = some a0' ∧ w'.cell? ⟨b', off' + k * 8 + 1, none⟩ = some a1' ∧ w'.cell? ⟨b', off' + k * 8 + 2, none⟩ = some a2' ∧ w'.cell? ⟨b', off' + k * 8 + 3, none⟩ = some a3' ∧ w'.cell? ⟨b', off' + k * 8 + 4, none⟩ = some (.int .i64 x.fin.k) ∧ w'.cell? ⟨b', off' + k * 8 + 5, none⟩ = some (.int .i64 x.fin.a) ∧ w'.cell? ⟨b', off' + k * 8 + 6, none⟩ = some (.int .i64 x.fin.t) ∧ w'.cell? ⟨b', off' + k * 8 + 7, none⟩ = some (.int .i64 x.fin.l)) w1 := fun w1 hb => ⟨hb, (hb.cell (p := ⟨b, _, none⟩) hbw).trans c0, (hb.cell (p := ⟨b, _, none⟩) hbw).trans c1, (hb.cell (p := ⟨b, _, none⟩) hbw).trans c2, (hb.cell (p := ⟨b, _, none⟩) hbw).trans c3, (hb.cell (p := ⟨b, _, none⟩) hbw).trans c4, (hb.cell (p := ⟨b, _, none⟩) hbw).trans c5, (hb.cell (p := ⟨b, _, none⟩) hbw).trans c6, (hb.cell (p := ⟨b, _, none⟩) hbw).trans c7, (hb.cell (p := ⟨b', _, none⟩) hbw').trans p0, (hb.cell (p := ⟨b', _, none⟩) hbw').trans p1, (hb.cell (p := ⟨b', _, none⟩) hbw').trans p2, (hb.cell (p := ⟨b', _, none⟩) hbw').trans p3, (hb.cell (p := ⟨b', _, none⟩) hbw').trans p4, (hb.cell (p := ⟨b', _, none⟩) hbw').trans p5, (hb.cell (p := ⟨b', _, none⟩) hbw').trans p6, (hb.cell (p := ⟨b', _, none⟩) hbw').trans p7⟩
      have K := keepS _ (Below.refl _ _)
      have Kd := keepS _ below_drew
      go_wp2_with fail
      go_region_held3 (fun w' => Below wr.heap.size wr w' ∧ w'.cell? ⟨b, off + k * 8, none⟩ = some a0 ∧ w'.cell? ⟨b, off + k * 8 + 1, none⟩ = some a1 ∧ w'.cell? ⟨b, off + k * 8 + 2, none⟩ = some a2 ∧ w'.cell? ⟨b, off + k * 8 + 3, none⟩ = some a3 ∧ w'.cell? ⟨b, off + k * 8 + 4, none⟩ = some (.int .i64 x.fin.k) ∧ w'.cell? ⟨b, off + k * 8 + 5, none⟩ = some (.int .i64 x.fin.a) ∧ w'.cell? ⟨b, off + k * 8 + 6, none⟩ = some (.int .i64 x.fin.t) ∧ w'.cell? ⟨b, off + k * 8 + 7, none⟩ = some (.int .i64 x.fin.l) ∧ w'.cell? ⟨b', off' + k * 8, none⟩ = some a0' ∧ w'.cell? ⟨b', off' + k * 8 + 1, none⟩ = some a1' ∧ w'.cell? ⟨b', off' + k * 8 + 2, none⟩ = some a2' ∧ w'.cell? ⟨b', off' + k * 8 + 3, none⟩ = some a3' ∧ w'.cell? ⟨b', off' + k * 8 + 4, none⟩ = some (.int .i64 x.fin.k) ∧ w'.cell? ⟨b', off' + k * 8 + 5, none⟩ = some (.int .i64 x.fin.a) ∧ w'.cell? ⟨b', off' + k * 8 + 6, none⟩ = some (.int .i64 x.fin.t) ∧ w'.cell? ⟨b', off' + k * 8 + 7, none⟩ = some (.int .i64 x.fin.l)) (first | exact Kd | exact K | exact K5 | fail)
        (first
        | (go_at_call 84; have := (show _ ∧ _ by assumption); refine (eqBlock_same _ _ _ _ Z Z' (HQ.out.keep (Kept.below this.1 fun b hb => by have h1 := hD b hb; omega)) (HQ'.out.keep (Kept.below this.1 fun b hb => by have h1 := hD' b hb; omega)) (fun b hb => by have h1 := hD b hb; have h2 := this.1.size; omega) (fun b hb => by have h1 := hD' b hb; have h2 := this.1.size; omega)).mono ?_; rintro e w5 ⟨rfl, hb5⟩; have K5 := keepS _ (this.1.trans (hb5.mono this.1.size))))
      go_wp2_with fail
      have HB5 := Lib.hid (HB.out.trans (K5.1.mono hz))
      clear K Kd K5 keepS
      go_roundw
      case rel => exact ⟨k + 1, by omega, by go_num, HB5.out⟩
      case measure => simp [intOf]; omega
    · obtain rfl : k = xs.length := by omega
      go_wp2
      go_ret
      exact ⟨rfl, HB.out⟩

set_option maxHeartbeats 400000 in
theorem eqFun_same (f : FunD) (u v : Value) (w : World) (Z Z' : Zn) (hu : EFun w Z f u) (hv : EFun w Z' f v) (hD : ∀ b, Z.D b → b < w.heap.size) (hD' : ∀ b, Z'.D b → b < w.heap.size) :
    Calls Tryz.prog 21 #[u, v] w (Says true w) := by
  obtain ⟨r, rfl, hr⟩ := hu
  obtain ⟨r', rfl, hr'⟩ := hv
  have HV0 := Lib.hid hr
  have HU0 := Lib.hid hr'
  obtain ⟨_, A0, c0, rfl, _⟩ := hr
  obtain ⟨_, B0, d0, rfl, _⟩ := hr'
  go_enter Tryz.func21, Tryz.ntmps21
  go_wp2_with fail
  have hK : ∀ V : World, Below w.heap.size w V → Kept Z Z w V := fun V hb => Kept.below hb hD
  have hK' : ∀ V : World, Below w.heap.size w V → Kept Z' Z' w V := fun V hb => Kept.below hb hD'
  refine (eqBlockS_same _ _ _ _ Z Z' (HV0.out.keep (hK _ (((Below.refl _ _).alloc (Nat.le_refl _) _).alloc (by simp) _)) fun _ _ h => h.keep (hK _ (((Below.refl _ _).alloc (Nat.le_refl _) _).alloc (by simp) _))) (HU0.out.keep (hK' _ (((Below.refl _ _).alloc (Nat.le_refl _) _).alloc (by simp) _)) fun _ _ h => h.keep (hK' _ (((Below.refl _ _).alloc (Nat.le_refl _) _).alloc (by simp) _))) (fun b hb => by have := hD b hb; simp; omega) (fun b hb => by have := hD' b hb; simp; omega)).mono ?_
  rintro e w1 ⟨rfl, hb1⟩
  have HB1 : Hid (Below w.heap.size w w1) := (((Below.refl _ _).alloc (Nat.le_refl _) _).alloc (by simp) _).trans (hb1.mono (by simp; omega))
  clear hb1
  go_wp2_with fail
  go_ret
  exact ⟨rfl, HB1.out⟩
end

/- Slices of bool: how they read, and whose they are. -/
section
open Go.ChangeShapes Go.WideShapes Go.ChangeAt Go.RowKit Go.Joins

def bv (b : Bool) : Value := .bool b

/-- The slice value v reads as the bools xs. -/
def RB (w : World) (v : Value) (xs : List Bool) : Prop :=
  xs.length ≤ 9223372036854775807 ∧ ∃ A c, v = .slice A xs.length c ∧ (xs ≠ [] → ∃ b off, A = some ⟨b, off, none⟩ ∧ ∀ k u, xs[k]? = some u → w.cell? ⟨b, off + k, none⟩ = some (.bool u))

/-- The slice value v is the call's own, from block B on, and reads as xs. -/
def OB (w : World) (B : Nat) (v : Value) (xs : List Bool) : Prop := w.ownsRow B 4 1 v xs.length (xs.map bv)

theorem OB.rb {w : World} {B : Nat} {v : Value} {xs : List Bool} (h : OB w B v xs) : RB w v xs := by
  have h0 := h
  rcases h.2 with ⟨rfl, hn⟩ | ⟨g, cap, cur, rfl, _, hg, hnc, hcm, hs, ht⟩
  · exact ⟨by omega, none, 0, by rw [hn], fun hne => absurd (List.length_eq_zero_iff.1 hn) hne⟩
  · refine ⟨by rw [maxLen_is] at hcm; omega, _, cap, rfl, fun _ => ⟨g, 0, rfl, fun k u hu => ?_⟩⟩
    have hk : k < xs.length := by
      rcases Nat.lt_or_ge k xs.length with h | h
      · exact h
      · rw [List.getElem?_eq_none h] at hu; cases hu
    have := World.ownsRow.cellAt h0 k (by omega)
    rw [Nat.zero_add, this, List.getElem?_map, hu]; rfl

theorem take_eq_ofB {xs ys : List Bool} {k : Nat} {x : Bool} (h : xs.take k = ys.take k) (hx : xs[k]? = some x) (hy : ys[k]? = some x) : xs.take (k + 1) = ys.take (k + 1) := by
  rw [List.take_add_one, List.take_add_one, h, hx, hy]

def markB (k : Int) (n : Nat) : List Bool := (List.range n).map fun (i : Nat) => (k + (i : Int)) % 3 == 0
theorem markB_length (k : Int) (n : Nat) : (markB k n).length = n := by simp [markB]
theorem markB_get (k : Int) {n j : Nat} (h : j < n) : (markB k n)[j]? = some ((k + j) % 3 == 0) := by simp [markB, h]
theorem markB_zero (k : Int) : markB k 0 = [] := rfl

theorem set_stepB (k : Int) (xs : List Bool) {j : Nat} (h : j < xs.length) :
    (((markB k j ++ xs.drop j).map bv).set j (bv ((k + j) % 3 == 0))) = (markB k (j + 1) ++ xs.drop (j + 1)).map bv := by
  apply List.ext_getElem?
  intro i
  rw [List.getElem?_set, List.getElem?_map, List.getElem?_map]
  have hl : (List.map bv (markB k j ++ List.drop j xs)).length = xs.length := by simp [markB_length]; omega
  rw [hl]
  by_cases hij : j = i
  · subst hij
    rw [if_pos rfl, if_pos h, List.getElem?_append_left (by rw [markB_length]; omega), markB_get k (by omega)]; rfl
  · rw [if_neg hij]
    by_cases hlt : i < j
    · rw [List.getElem?_append_left (by rw [markB_length]; exact hlt), List.getElem?_append_left (by rw [markB_length]; omega), markB_get k hlt, markB_get k (by omega)]
    · rw [List.getElem?_append_right (by rw [markB_length]; omega), List.getElem?_append_right (by rw [markB_length]; omega), markB_length, markB_length, List.getElem?_drop, List.getElem?_drop]
      congr 2; omega
end

/- What a right function is, in plain words; and the small functions of both sides on moves. -/
section
open Go.ChangeShapes Go.WideShapes Go.ChangeAt Go.RowKit Go.Joins

def InsP (names : Int) (i : InsD) : Prop := insOkB i.op i.v i.a i.b = true ∧ i.v < names ∧ ∀ u ∈ usesL i.op i.v i.a i.b, u < names
def BodyP (names : Int) (l : List InsD) : Prop := l.length ≤ 80 ∧ ∀ (j : Nat) i, l[j]? = some i → InsP names i
def MoveP (names : Int) (m : MoveD) : Prop := isBelowB m.dst names = true ∧ isBelowB m.src names = true
def MovesP (names : Int) (l : List MoveD) : Prop := l.length ≤ 40 ∧ (∀ (j : Nat) m, l[j]? = some m → MoveP names m) ∧ ∀ (i k : Nat) m m', k < i → l[i]? = some m → l[k]? = some m' → m'.dst ≠ m.dst
def PhiP (names : Int) (preds : Nat) (p : PhiD) : Prop := isBelowB p.v names = true ∧ p.args.length = preds ∧ ∀ (j : Nat) a, p.args[j]? = some a → isBelowB a names = true
def PhisP (names : Int) (preds : Nat) (l : List PhiD) : Prop := l.length ≤ 4 ∧ ∀ (j : Nat) p, l[j]? = some p → PhiP names preds p
def EndP (names : Int) (blocks : Nat) (e : EndD) : Prop := endOkB e.k e.a e.t e.l = true ∧ (e.k = 2 ∨ e.a < names) ∧ e.t < blocks ∧ e.l < blocks
def BlockP (names : Int) (blocks : Nat) (x : BlockD) : Prop := EndP names blocks x.fin ∧ MovesP names x.head ∧ MovesP names x.tail ∧ BodyP names x.body
def FrameP (f : FunD) : Prop := (1 ≤ f.blocks.length ∧ f.blocks.length ≤ 40) ∧ (0 ≤ f.names ∧ f.names ≤ 150) ∧ (0 ≤ f.params ∧ f.params ≤ 6) ∧ f.params ≤ f.names ∧ ∀ (j : Nat) x, f.blocks[j]? = some x → BlockP f.names f.blocks.length x

/-- Is j in the list? -/
def hasB (xs : List Int) (j : Int) : Bool := decide (j ∈ xs)
theorem hasB_iff {xs : List Int} {j : Int} : hasB xs j = true ↔ j ∈ xs := by simp [hasB]

/-- Is j a target of the i-th block? -/
def hasT (g : EndD → List Int) (xs : List BlockD) (j : Int) (i : Nat) : Bool :=
  match xs[i]? with
  | some x => hasB (g x.fin) j
  | none => false
/-- The first k blocks of which j is a target. -/
def predsK (g : EndD → List Int) (xs : List BlockD) (k : Nat) (j : Int) : List Int := ((List.range k).filter (hasT g xs j)).map fun (i : Nat) => (i : Int)
def toE (e : EndD) : List Int := toL e.k e.t e.l
def succsE (e : EndD) : List Int := succsL e.k e.a e.t e.l
def predsF (f : FunD) (j : Int) : List Int := predsK toE f.blocks f.blocks.length j
def FunP (f : FunD) : Prop := FrameP f ∧ predsF f 0 = [] ∧ (∀ x, f.blocks[0]? = some x → x.phis = []) ∧ ∀ (i : Nat) x, f.blocks[i]? = some x → PhisP f.names (predsF f i).length x.phis

theorem predsK_zero (g : EndD → List Int) (xs : List BlockD) (j : Int) : predsK g xs 0 j = [] := rfl
theorem predsK_succ (g : EndD → List Int) {xs : List BlockD} {k : Nat} {x : BlockD} (j : Int) (h : xs[k]? = some x) : predsK g xs (k + 1) j = predsK g xs k j ++ if hasB (g x.fin) j then [(k : Int)] else [] := by
  unfold predsK
  rw [List.range_succ, List.filter_append, List.map_append]
  congr 1
  have e : hasT g xs j k = hasB (g x.fin) j := by unfold hasT; rw [h]
  by_cases hc : hasB (g x.fin) j = true
  · rw [List.filter_cons_of_pos (by rw [e]; exact hc), if_pos hc]; rfl
  · rw [List.filter_cons_of_neg (by rw [e]; exact hc), if_neg hc]; rfl
theorem predsK_len (g : EndD → List Int) (xs : List BlockD) (k : Nat) (j : Int) : (predsK g xs k j).length ≤ k := by
  unfold predsK
  rw [List.length_map]
  exact Nat.le_trans (List.length_filter_le _ _) (by simp)
/-- Where the ends are right it is all one whether they are asked. -/
theorem predsK_congr {g h : EndD → List Int} {xs : List BlockD} (hg : ∀ (i : Nat) x, xs[i]? = some x → g x.fin = h x.fin) (k : Nat) (j : Int) : predsK g xs k j = predsK h xs k j := by
  unfold predsK
  congr 2
  funext i
  unfold hasT
  cases hx : xs[i]? with
  | none => rfl
  | some x =>
    show hasB (g x.fin) j = hasB (h x.fin) j
    rw [hg i x hx]

/-- The call answers whether P, and old memory stays. -/
def GivesB (P : Prop) (w : World) (e : Ending) (w' : World) : Prop := ∃ b : Bool, e = .returned (.bool b) ∧ (b = true ↔ P) ∧ Below w.heap.size w w'
theorem gives_yes {P : Prop} {w w' : World} (h : P) (hb : Below w.heap.size w w') : GivesB P w (.returned (.bool true)) w' := ⟨true, rfl, by simpa using h, hb⟩
theorem gives_no {P : Prop} {w w' : World} (h : ¬ P) (hb : Below w.heap.size w w') : GivesB P w (.returned (.bool false)) w' := ⟨false, rfl, by simpa using h, hb⟩

theorem hasB_snoc (xs : List Int) (j : Int) (k : Nat) (x : Int) (h : xs[k]? = some x) (hk : ∀ i, i < k → xs[i]? ≠ some j) : (hasB xs j = true ∧ x = j) ∨ (x ≠ j ∧ ∀ i, i < k + 1 → xs[i]? ≠ some j) := by
  by_cases hx : x = j
  · exact .inl ⟨by rw [hasB_iff]; subst hx; exact List.mem_of_getElem? h, hx⟩
  · refine .inr ⟨hx, fun i hi => ?_⟩
    by_cases hik : i = k
    · subst hik; rw [h]; intro e; exact hx (Option.some.inj e)
    · exact hk i (by omega)
theorem not_hasB {xs : List Int} {j : Int} (h : ∀ i, i < xs.length → xs[i]? ≠ some j) : hasB xs j = false := by
  cases hc : hasB xs j with
  | false => rfl
  | true =>
    rw [hasB_iff] at hc
    obtain ⟨i, hi⟩ := List.mem_iff_getElem?.1 hc
    exact absurd hi (h i (List.getElem?_eq_some_iff.1 hi).1)

set_option maxHeartbeats 400000 in
theorem l1Has_any (v : Value) (xs : List Int) (j : Int) (w : World) (hv : RI w v xs) :
    Calls Tryz.prog 104 #[v, .int .i64 j] w fun e w' => e = .returned (.bool (hasB xs j)) ∧ w = w' := by
  obtain ⟨hl, A, c, rfl, hx⟩ := hv
  go_enter Tryz.func104, Tryz.ntmps104
  go_wp2
  go_loop [5] (fun i => ∃ k : Nat, k ≤ xs.length ∧ i = .int .i64 k ∧ Hid (∀ i, i < k → xs[i]? ≠ some j)) (fun i => xs.length - (intOf i).toNat)
  case atStart => exact ⟨0, Nat.zero_le _, rfl, fun i hi => absurd hi (by omega)⟩
  case round =>
    obtain ⟨k, hk, rfl, HN⟩ := hrel
    by_cases hlt : k < xs.length
    · have hxk : xs[k]? = some xs[k] := List.getElem?_eq_getElem hlt
      generalize xs[k] = x at hxk
      obtain ⟨b, off, rfl, hx'⟩ := hx (by rintro rfl; simp at hlt)
      have hc := hx' k _ hxk
      have hs := hasB_snoc xs j k x hxk HN.out
      clear hx hx' hxk
      rcases hs with ⟨hs, rfl⟩ | ⟨hs, hn⟩
      · have HS := Lib.hid hs
        clear hs
        go_wp2
        go_ret
        exact ⟨by rw [HS.out]; rfl, rfl⟩
      · have hb : (x == j) = false := by simpa using hs
        have HN' := Lib.hid hn
        clear hs hn
        go_wp2
        go_round
        case rel => exact ⟨k + 1, by omega, by go_num, HN'⟩
        case measure => simp [intOf]; omega
    · obtain rfl : k = xs.length := by omega
      have HS := Lib.hid (not_hasB HN.out)
      go_wp2
      go_ret
      exact ⟨by rw [HS.out]; rfl, rfl⟩

set_option maxHeartbeats 400000 in
theorem l1In_below (n names : Int) (w : World) :
    Calls Tryz.prog 100 #[.int .i64 n, .int .i64 0, .int .i64 (names - 1)] w fun e w' => e = .returned (.bool (isBelowB n names)) ∧ w = w' := by
  have h : (decide (0 ≤ n) && decide (n ≤ names - 1)) = isBelowB n names := by unfold isBelowB; congr 1; rw [decide_eq_decide]; omega
  rw [← h]
  exact l1In_any n 0 (names - 1) w
end

end Go.Proofs.YtnjmlhokkhkaaaaGreatDoor
