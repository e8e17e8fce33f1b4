/- End, FunP, L2a, L2b, joined. -/
import Derived.Test.YtnjmlhokkhkaaaaGreatQ1
import Derived.Deep.QuietTactic
import Derived.BigQuiet
import Derived.Maps.AppendAt
namespace Go.Proofs.YtnjmlhokkhkaaaaGreat

/- EndOk and SuccsOf of both sides, and toEnd of the laws. -/
section
open Go.ChangeShapes Go.WideShapes Go.ChangeAt Go.RowKit Go.Joins

def isBelowB (n m : Int) : Bool := decide (0 ≤ n) && decide (n < m)

set_option maxHeartbeats 400000 in
theorem isBelow_any (n m : Int) (w : World) :
    Calls Tryz.prog 93 #[.int .i64 n, .int .i64 m] w fun e w' => e = .returned (.bool (isBelowB n m)) ∧ w = w' := by
  by_cases h0 : 0 ≤ n
  all_goals go_enter Tryz.func93, Tryz.ntmps93
  all_goals go_wp2
  all_goals go_ret
  all_goals exact ⟨by simp [isBelowB]; try omega, rfl⟩

set_option maxHeartbeats 400000 in
theorem isBlock_any (n : Int) (w : World) :
    Calls Tryz.prog 145 #[.int .i64 n] w fun e w' => e = .returned (.bool (isBelowB n 40)) ∧ w = w' := by
  go_enter Tryz.func145, Tryz.ntmps145
  go_wp2_with (go_at_call 93; refine (isBelow_any _ _ _).mono ?_; rintro e w' ⟨rfl, rfl⟩)
  go_ret
  exact ⟨rfl, rfl⟩

set_option maxHeartbeats 400000 in
theorem l2Block_any (n : Int) (w : World) :
    Calls Tryz.prog 127 #[.int .i64 n] w fun e w' => e = .returned (.bool (isBelowB n 40)) ∧ w = w' := by
  have h : (decide (0 ≤ n) && decide (n ≤ 39)) = isBelowB n 40 := by unfold isBelowB; congr 1; rw [decide_eq_decide]; omega
  go_enter Tryz.func127, Tryz.ntmps127
  go_wp2_with (go_at_call 71; refine (l1In_any _ _ _ _).mono ?_; rintro e w' ⟨rfl, rfl⟩)
  go_ret
  exact ⟨rfl, rfl⟩

/-- The End, as a value. -/
def vEnd (k a t l : Int) : Value := .agg #[.int .i64 k, .int .i64 a, .int .i64 t, .int .i64 l]

def endOkB (k a t l : Int) : Bool :=
  if k = 1 then isNameB a && (t == 0) && (l == 0)
  else if k = 2 then (a == 0) && isBelowB t 40 && (l == 0)
  else if k = 3 then isNameB a && isBelowB t 40 && isBelowB l 40 && (t != l)
  else false

set_option maxHeartbeats 400000 in
theorem EndOk_1 (a t l : Int) (w : World) :
    Calls Tryz.prog 124 #[.agg #[.int .i64 1, .int .i64 a, .int .i64 t, .int .i64 l]] w fun e w' => e = .returned (.bool (endOkB 1 a t l)) ∧ Below w.heap.size w w' := by
  cases ha : isNameB a <;> cases ht : (t == 0)
  all_goals go_enter Tryz.func124, Tryz.ntmps124
  all_goals go_wp2_with (go_at_call 144; refine (isName_any _ _).mono ?_; rintro e w' ⟨rfl, rfl⟩)
  all_goals go_ret
  all_goals exact ⟨by simp [endOkB, ha, ht], (Below.refl _ _).alloc (Nat.le_refl _) _⟩

set_option maxHeartbeats 400000 in
theorem EndOk_2 (a t l : Int) (w : World) :
    Calls Tryz.prog 124 #[.agg #[.int .i64 2, .int .i64 a, .int .i64 t, .int .i64 l]] w fun e w' => e = .returned (.bool (endOkB 2 a t l)) ∧ Below w.heap.size w w' := by
  cases ha : (a == 0) <;> cases ht : isBelowB t 40
  all_goals go_enter Tryz.func124, Tryz.ntmps124
  all_goals go_wp2_with (go_at_call 145; refine (isBlock_any _ _).mono ?_; rintro e w' ⟨rfl, rfl⟩)
  all_goals go_ret
  all_goals exact ⟨by simp [endOkB, ha, ht], (Below.refl _ _).alloc (Nat.le_refl _) _⟩

set_option maxHeartbeats 400000 in
theorem EndOk_3 (a t l : Int) (w : World) :
    Calls Tryz.prog 124 #[.agg #[.int .i64 3, .int .i64 a, .int .i64 t, .int .i64 l]] w fun e w' => e = .returned (.bool (endOkB 3 a t l)) ∧ Below w.heap.size w w' := by
  cases ha : isNameB a <;> cases ht : isBelowB t 40 <;> cases hl : isBelowB l 40
  all_goals go_enter Tryz.func124, Tryz.ntmps124
  all_goals go_wp2_with (first
    | (go_at_call 145; refine (isBlock_any _ _).mono ?_; rintro e w' ⟨rfl, rfl⟩)
    | (go_at_call 144; refine (isName_any _ _).mono ?_; rintro e w' ⟨rfl, rfl⟩))
  all_goals go_ret
  all_goals exact ⟨by simp [endOkB, ha, ht, hl], (Below.refl _ _).alloc (Nat.le_refl _) _⟩

set_option maxHeartbeats 400000 in
theorem EndOk_0 (k a t l : Int) (w : World) (h1 : (k == 1) = false) (h2 : (k == 2) = false) (h3 : (k == 3) = false) :
    Calls Tryz.prog 124 #[.agg #[.int .i64 k, .int .i64 a, .int .i64 t, .int .i64 l]] w fun e w' => e = .returned (.bool (endOkB k a t l)) ∧ Below w.heap.size w w' := by
  have hE : Hid (endOkB k a t l = false) := by
    unfold Hid endOkB
    rw [if_neg (by simpa using h1), if_neg (by simpa using h2), if_neg (by simpa using h3)]
  go_enter Tryz.func124, Tryz.ntmps124
  go_wp2
  go_ret
  exact ⟨by rw [hE.out]; rfl, (Below.refl _ _).alloc (Nat.le_refl _) _⟩

theorem EndOk_any (k a t l : Int) (w : World) :
    Calls Tryz.prog 124 #[vEnd k a t l] w fun e w' => e = .returned (.bool (endOkB k a t l)) ∧ Below w.heap.size w w' := by
  by_cases h1 : k = 1
  · subst h1; exact EndOk_1 a t l w
  by_cases h2 : k = 2
  · subst h2; exact EndOk_2 a t l w
  by_cases h3 : k = 3
  · subst h3; exact EndOk_3 a t l w
  exact EndOk_0 k a t l w (by simpa using h1) (by simpa using h2) (by simpa using h3)

set_option maxHeartbeats 400000 in
theorem sEndOk_1 (a t l : Int) (w : World) :
    Calls Tryz.prog 97 #[.agg #[.int .i64 1, .int .i64 a, .int .i64 t, .int .i64 l]] w fun e w' => e = .returned (.bool (endOkB 1 a t l)) ∧ Below w.heap.size w w' := by
  cases ha : isNameB a <;> cases ht : (t == 0)
  all_goals go_enter Tryz.func97, Tryz.ntmps97
  all_goals go_wp2_with (go_at_call 126; refine (l1Name_any _ _).mono ?_; rintro e w' ⟨rfl, rfl⟩)
  all_goals go_ret
  all_goals exact ⟨by simp [endOkB, ha, ht], (Below.refl _ _).alloc (Nat.le_refl _) _⟩

set_option maxHeartbeats 400000 in
theorem sEndOk_2 (a t l : Int) (w : World) :
    Calls Tryz.prog 97 #[.agg #[.int .i64 2, .int .i64 a, .int .i64 t, .int .i64 l]] w fun e w' => e = .returned (.bool (endOkB 2 a t l)) ∧ Below w.heap.size w w' := by
  cases ha : (a == 0) <;> cases ht : isBelowB t 40
  all_goals go_enter Tryz.func97, Tryz.ntmps97
  all_goals go_wp2_with (go_at_call 127; refine (l2Block_any _ _).mono ?_; rintro e w' ⟨rfl, rfl⟩)
  all_goals go_ret
  all_goals exact ⟨by simp [endOkB, ha, ht], (Below.refl _ _).alloc (Nat.le_refl _) _⟩

set_option maxHeartbeats 400000 in
theorem sEndOk_3 (a t l : Int) (w : World) :
    Calls Tryz.prog 97 #[.agg #[.int .i64 3, .int .i64 a, .int .i64 t, .int .i64 l]] w fun e w' => e = .returned (.bool (endOkB 3 a t l)) ∧ Below w.heap.size w w' := by
  cases ha : isNameB a <;> cases ht : isBelowB t 40 <;> cases hl : isBelowB l 40
  all_goals go_enter Tryz.func97, Tryz.ntmps97
  all_goals go_wp2_with (first
    | (go_at_call 127; refine (l2Block_any _ _).mono ?_; rintro e w' ⟨rfl, rfl⟩)
    | (go_at_call 126; refine (l1Name_any _ _).mono ?_; rintro e w' ⟨rfl, rfl⟩))
  all_goals go_ret
  all_goals exact ⟨by simp [endOkB, ha, ht, hl], (Below.refl _ _).alloc (Nat.le_refl _) _⟩

set_option maxHeartbeats 400000 in
theorem sEndOk_0 (k a t l : Int) (w : World) (h1 : (k == 1) = false) (h2 : (k == 2) = false) (h3 : (k == 3) = false) :
    Calls Tryz.prog 97 #[.agg #[.int .i64 k, .int .i64 a, .int .i64 t, .int .i64 l]] w fun e w' => e = .returned (.bool (endOkB k a t l)) ∧ Below w.heap.size w w' := by
  have hE : Hid (endOkB k a t l = false) := by
    unfold Hid endOkB
    rw [if_neg (by simpa using h1), if_neg (by simpa using h2), if_neg (by simpa using h3)]
  go_enter Tryz.func97, Tryz.ntmps97
  go_wp2
  go_ret
  exact ⟨by rw [hE.out]; rfl, (Below.refl _ _).alloc (Nat.le_refl _) _⟩

theorem sEndOk_any (k a t l : Int) (w : World) :
    Calls Tryz.prog 97 #[vEnd k a t l] w fun e w' => e = .returned (.bool (endOkB k a t l)) ∧ Below w.heap.size w w' := by
  by_cases h1 : k = 1
  · subst h1; exact sEndOk_1 a t l w
  by_cases h2 : k = 2
  · subst h2; exact sEndOk_2 a t l w
  by_cases h3 : k = 3
  · subst h3; exact sEndOk_3 a t l w
  exact sEndOk_0 k a t l w (by simpa using h1) (by simpa using h2) (by simpa using h3)

/-- The targets of an End, whatever else is in it. -/
def toL (k t l : Int) : List Int := if k = 2 then [t] else if k = 3 then [t, l] else []
def succsL (k a t l : Int) : List Int := if endOkB k a t l = true then toL k t l else []
theorem toL_len (k t l : Int) : (toL k t l).length ≤ 2 := by unfold toL; split <;> (try split) <;> simp
theorem succsL_len (k a t l : Int) : (succsL k a t l).length ≤ 2 := by
  unfold succsL; split
  · exact toL_len k t l
  · simp

/-- A call that gives a slice of int64 of its own. -/
def GivesI (xs : List Int) (w : World) (e : Ending) (w' : World) : Prop := ∃ r, e = .returned r ∧ OI w' w.heap.size r xs ∧ Below w.heap.size w w'

set_option maxHeartbeats 400000 in
theorem SuccsOf_bad (k a t l : Int) (w : World) (hok : endOkB k a t l = false) :
    Calls Tryz.prog 92 #[.agg #[.int .i64 k, .int .i64 a, .int .i64 t, .int .i64 l]] w (GivesI [] w) := by
  go_enter Tryz.func92, Tryz.ntmps92
  go_wp2_with (go_at_call 124; refine (EndOk_any _ _ _ _ _).mono ?_; rintro e w1 ⟨rfl, hb1⟩; obtain ⟨hc1, hf1⟩ := bcell hb1; have hz1 : w.heap.size < w1.heap.size := (by have := hb1.size; simp at this; omega))
  go_ret
  exact ⟨_, rfl, OI_lit0 _ rfl (by omega), below1 hb1⟩

set_option maxHeartbeats 400000 in
theorem SuccsOf_1 (a t l : Int) (w : World) (hok : endOkB 1 a t l = true) :
    Calls Tryz.prog 92 #[.agg #[.int .i64 1, .int .i64 a, .int .i64 t, .int .i64 l]] w (GivesI [] w) := by
  go_enter Tryz.func92, Tryz.ntmps92
  go_wp2_with (go_at_call 124; refine (EndOk_any _ _ _ _ _).mono ?_; rintro e w1 ⟨rfl, hb1⟩; obtain ⟨hc1, hf1⟩ := bcell hb1; have hz1 : w.heap.size < w1.heap.size := (by have := hb1.size; simp at this; omega))
  go_ret
  exact ⟨_, rfl, OI_lit0 _ rfl (by omega), below1 hb1⟩

set_option maxHeartbeats 400000 in
theorem SuccsOf_2 (a t l : Int) (w : World) (hok : endOkB 2 a t l = true) :
    Calls Tryz.prog 92 #[.agg #[.int .i64 2, .int .i64 a, .int .i64 t, .int .i64 l]] w (GivesI [t] w) := by
  go_enter Tryz.func92, Tryz.ntmps92
  go_wp2_with (go_at_call 124; refine (EndOk_any _ _ _ _ _).mono ?_; rintro e w1 ⟨rfl, hb1⟩; obtain ⟨hc1, hf1⟩ := bcell hb1; have hz1 : w.heap.size < w1.heap.size := (by have := hb1.size; simp at this; omega))
  go_ret
  exact ⟨_, rfl, OI_lit1 _ _ rfl (by omega), below1 hb1⟩

set_option maxHeartbeats 400000 in
theorem SuccsOf_3 (a t l : Int) (w : World) (hok : endOkB 3 a t l = true) :
    Calls Tryz.prog 92 #[.agg #[.int .i64 3, .int .i64 a, .int .i64 t, .int .i64 l]] w (GivesI [t, l] w) := by
  go_enter Tryz.func92, Tryz.ntmps92
  go_wp2_with (go_at_call 124; refine (EndOk_any _ _ _ _ _).mono ?_; rintro e w1 ⟨rfl, hb1⟩; obtain ⟨hc1, hf1⟩ := bcell hb1; have hz1 : w.heap.size < w1.heap.size := (by have := hb1.size; simp at this; omega))
  go_ret
  exact ⟨_, rfl, OI_lit2 _ _ _ rfl (by omega), below1 hb1⟩

theorem endOk_range {k a t l : Int} (h : endOkB k a t l = true) : k = 1 ∨ k = 2 ∨ k = 3 := by
  unfold endOkB at h
  by_cases h1 : k = 1
  · exact .inl h1
  by_cases h2 : k = 2
  · exact .inr (.inl h2)
  by_cases h3 : k = 3
  · exact .inr (.inr h3)
  rw [if_neg h1, if_neg h2, if_neg h3] at h
  cases h

theorem SuccsOf_any (k a t l : Int) (w : World) :
    Calls Tryz.prog 92 #[vEnd k a t l] w (GivesI (succsL k a t l) w) := by
  cases hok : endOkB k a t l
  · have e : succsL k a t l = [] := by simp [succsL, hok]
    rw [e]; exact SuccsOf_bad k a t l w hok
  · have e : succsL k a t l = toL k t l := by simp [succsL, hok]
    rw [e]
    rcases endOk_range hok with rfl | rfl | rfl
    · exact SuccsOf_1 a t l w hok
    · exact SuccsOf_2 a t l w hok
    · exact SuccsOf_3 a t l w hok

set_option maxHeartbeats 400000 in
theorem l2Succs_2 (a t l : Int) (w : World) :
    Calls Tryz.prog 101 #[.agg #[.int .i64 2, .int .i64 a, .int .i64 t, .int .i64 l]] w (GivesI [t] w) := by
  go_enter Tryz.func101, Tryz.ntmps101
  go_wp2
  go_ret
  refine ⟨_, rfl, ?_, ((Below.refl _ _).alloc (Nat.le_refl _) _).alloc (by simp) _⟩
  exact OI_lit1 (w.alloc _) _ (by simp) (by omega)

set_option maxHeartbeats 400000 in
theorem l2Succs_3 (a t l : Int) (w : World) :
    Calls Tryz.prog 101 #[.agg #[.int .i64 3, .int .i64 a, .int .i64 t, .int .i64 l]] w (GivesI [t, l] w) := by
  go_enter Tryz.func101, Tryz.ntmps101
  go_wp2
  go_ret
  refine ⟨_, rfl, ?_, ((Below.refl _ _).alloc (Nat.le_refl _) _).alloc (by simp) _⟩
  exact OI_lit2 (w.alloc _) _ _ (by simp) (by omega)

set_option maxHeartbeats 400000 in
theorem l2Succs_0 (k a t l : Int) (w : World) (h2 : (k == 2) = false) (h3 : (k == 3) = false) :
    Calls Tryz.prog 101 #[.agg #[.int .i64 k, .int .i64 a, .int .i64 t, .int .i64 l]] w (GivesI [] w) := by
  go_enter Tryz.func101, Tryz.ntmps101
  go_wp2
  go_ret
  refine ⟨_, rfl, ?_, ((Below.refl _ _).alloc (Nat.le_refl _) _).alloc (by simp) _⟩
  exact OI_lit0 (w.alloc _) (by simp) (by omega)

theorem l2Succs_any (k a t l : Int) (w : World) :
    Calls Tryz.prog 101 #[vEnd k a t l] w (GivesI (toL k t l) w) := by
  by_cases h2 : k = 2
  · subst h2; exact l2Succs_2 a t l w
  by_cases h3 : k = 3
  · subst h3; exact l2Succs_3 a t l w
  have e : toL k t l = [] := by unfold toL; rw [if_neg h2, if_neg h3]
  rw [e]
  exact l2Succs_0 k a t l w (by simpa using h2) (by simpa using h3)

set_option maxHeartbeats 400000 in
theorem toEnd_any (k a t l : Int) (w : World) :
    Calls Tryz.prog 108 #[.agg #[.int .i64 k, .int .i64 a, .int .i64 t, .int .i64 l]] w fun e w' => e = .returned (vEnd k a t l) ∧ Below w.heap.size w w' := by
  go_enter Tryz.func108, Tryz.ntmps108
  go_wp2
  refine bodyPost_ret (v := .agg #[.int .i64 k, .int .i64 a, .int .i64 t, .int .i64 l]) (by simp [results, Tryz.results108, go_sem]) rfl ⟨rfl, ?_⟩
  repeat (first | exact Below.refl _ _ | refine Below.alloc ?_ (by first | (simp; done) | (simp; omega)) _ | refine Below.setCell ?_ (by simp) _)
end

/- What a right function is, in plain words; and the small functions of both sides on moves. -/
section
open Go.ChangeShapes Go.WideShapes Go.ChangeAt Go.RowKit Go.Joins

def InsP (names : Int) (i : InsD) : Prop := insOkB i.op i.v i.a i.b = true ∧ i.v < names ∧ ∀ u ∈ usesL i.op i.v i.a i.b, u < names
def BodyP (names : Int) (l : List InsD) : Prop := l.length ≤ 80 ∧ ∀ (j : Nat) i, l[j]? = some i → InsP names i
def MoveP (names : Int) (m : MoveD) : Prop := isBelowB m.dst names = true ∧ isBelowB m.src names = true
def MovesP (names : Int) (l : List MoveD) : Prop := l.length ≤ 40 ∧ (∀ (j : Nat) m, l[j]? = some m → MoveP names m) ∧ ∀ (i k : Nat) m m', k < i → l[i]? = some m → l[k]? = some m' → m'.dst ≠ m.dst
def PhiP (names : Int) (preds : Nat) (p : PhiD) : Prop := isBelowB p.v names = true ∧ p.args.length = preds ∧ ∀ (j : Nat) a, p.args[j]? = some a → isBelowB a names = true
def PhisP (names : Int) (preds : Nat) (l : List PhiD) : Prop := l.length ≤ 4 ∧ ∀ (j : Nat) p, l[j]? = some p → PhiP names preds p
def EndP (names : Int) (blocks : Nat) (e : EndD) : Prop := endOkB e.k e.a e.t e.l = true ∧ (e.k = 2 ∨ e.a < names) ∧ e.t < blocks ∧ e.l < blocks
def BlockP (names : Int) (blocks : Nat) (x : BlockD) : Prop := EndP names blocks x.fin ∧ MovesP names x.head ∧ MovesP names x.tail ∧ BodyP names x.body
def FrameP (f : FunD) : Prop := (1 ≤ f.blocks.length ∧ f.blocks.length ≤ 40) ∧ (0 ≤ f.names ∧ f.names ≤ 150) ∧ (0 ≤ f.params ∧ f.params ≤ 6) ∧ f.params ≤ f.names ∧ ∀ (j : Nat) x, f.blocks[j]? = some x → BlockP f.names f.blocks.length x

/-- Is j in the list? -/
def hasB (xs : List Int) (j : Int) : Bool := decide (j ∈ xs)
theorem hasB_iff {xs : List Int} {j : Int} : hasB xs j = true ↔ j ∈ xs := by simp [hasB]

/-- Is j a target of the i-th block? -/
def hasT (g : EndD → List Int) (xs : List BlockD) (j : Int) (i : Nat) : Bool :=
  match xs[i]? with
  | some x => hasB (g x.fin) j
  | none => false
/-- The first k blocks of which j is a target. -/
def predsK (g : EndD → List Int) (xs : List BlockD) (k : Nat) (j : Int) : List Int := ((List.range k).filter (hasT g xs j)).map fun (i : Nat) => (i : Int)
def toE (e : EndD) : List Int := toL e.k e.t e.l
def succsE (e : EndD) : List Int := succsL e.k e.a e.t e.l
def predsF (f : FunD) (j : Int) : List Int := predsK toE f.blocks f.blocks.length j
def FunP (f : FunD) : Prop := FrameP f ∧ predsF f 0 = [] ∧ (∀ x, f.blocks[0]? = some x → x.phis = []) ∧ ∀ (i : Nat) x, f.blocks[i]? = some x → PhisP f.names (predsF f i).length x.phis

theorem predsK_zero (g : EndD → List Int) (xs : List BlockD) (j : Int) : predsK g xs 0 j = [] := rfl
theorem predsK_succ (g : EndD → List Int) {xs : List BlockD} {k : Nat} {x : BlockD} (j : Int) (h : xs[k]? = some x) : predsK g xs (k + 1) j = predsK g xs k j ++ if hasB (g x.fin) j then [(k : Int)] else [] := by
  unfold predsK
  rw [List.range_succ, List.filter_append, List.map_append]
  congr 1
  have e : hasT g xs j k = hasB (g x.fin) j := by unfold hasT; rw [h]
  by_cases hc : hasB (g x.fin) j = true
  · rw [List.filter_cons_of_pos (by rw [e]; exact hc), if_pos hc]; rfl
  · rw [List.filter_cons_of_neg (by rw [e]; exact hc), if_neg hc]; rfl
theorem predsK_len (g : EndD → List Int) (xs : List BlockD) (k : Nat) (j : Int) : (predsK g xs k j).length ≤ k := by
  unfold predsK
  rw [List.length_map]
  exact Nat.le_trans (List.length_filter_le _ _) (by simp)
/-- Where the ends are right it is all one whether they are asked. -/
theorem predsK_congr {g h : EndD → List Int} {xs : List BlockD} (hg : ∀ (i : Nat) x, xs[i]? = some x → g x.fin = h x.fin) (k : Nat) (j : Int) : predsK g xs k j = predsK h xs k j := by
  unfold predsK
  congr 2
  funext i
  unfold hasT
  cases hx : xs[i]? with
  | none => rfl
  | some x =>
    show hasB (g x.fin) j = hasB (h x.fin) j
    rw [hg i x hx]

/-- The call answers whether P, and old memory stays. -/
def GivesB (P : Prop) (w : World) (e : Ending) (w' : World) : Prop := ∃ b : Bool, e = .returned (.bool b) ∧ (b = true ↔ P) ∧ Below w.heap.size w w'
theorem gives_yes {P : Prop} {w w' : World} (h : P) (hb : Below w.heap.size w w') : GivesB P w (.returned (.bool true)) w' := ⟨true, rfl, by simpa using h, hb⟩
theorem gives_no {P : Prop} {w w' : World} (h : ¬ P) (hb : Below w.heap.size w w') : GivesB P w (.returned (.bool false)) w' := ⟨false, rfl, by simpa using h, hb⟩

theorem hasB_snoc (xs : List Int) (j : Int) (k : Nat) (x : Int) (h : xs[k]? = some x) (hk : ∀ i, i < k → xs[i]? ≠ some j) : (hasB xs j = true ∧ x = j) ∨ (x ≠ j ∧ ∀ i, i < k + 1 → xs[i]? ≠ some j) := by
  by_cases hx : x = j
  · exact .inl ⟨by rw [hasB_iff]; subst hx; exact List.mem_of_getElem? h, hx⟩
  · refine .inr ⟨hx, fun i hi => ?_⟩
    by_cases hik : i = k
    · subst hik; rw [h]; intro e; exact hx (Option.some.inj e)
    · exact hk i (by omega)
theorem not_hasB {xs : List Int} {j : Int} (h : ∀ i, i < xs.length → xs[i]? ≠ some j) : hasB xs j = false := by
  cases hc : hasB xs j with
  | false => rfl
  | true =>
    rw [hasB_iff] at hc
    obtain ⟨i, hi⟩ := List.mem_iff_getElem?.1 hc
    exact absurd hi (h i (List.getElem?_eq_some_iff.1 hi).1)

set_option maxHeartbeats 400000 in
theorem l1Has_any (v : Value) (xs : List Int) (j : Int) (w : World) (hv : RI w v xs) :
    Calls Tryz.prog 100 #[v, .int .i64 j] w fun e w' => e = .returned (.bool (hasB xs j)) ∧ w = w' := by
  obtain ⟨hl, A, c, rfl, hx⟩ := hv
  go_enter Tryz.func100, Tryz.ntmps100
  go_wp2
  go_loop [5] (fun i => ∃ k : Nat, k ≤ xs.length ∧ i = .int .i64 k ∧ Hid (∀ i, i < k → xs[i]? ≠ some j)) (fun i => xs.length - (intOf i).toNat)
  case atStart => exact ⟨0, Nat.zero_le _, rfl, fun i hi => absurd hi (by omega)⟩
  case round =>
    obtain ⟨k, hk, rfl, HN⟩ := hrel
    by_cases hlt : k < xs.length
    · have hxk : xs[k]? = some xs[k] := List.getElem?_eq_getElem hlt
      generalize xs[k] = x at hxk
      obtain ⟨b, off, rfl, hx'⟩ := hx (by rintro rfl; simp at hlt)
      have hc := hx' k _ hxk
      have hs := hasB_snoc xs j k x hxk HN.out
      clear hx hx' hxk
      rcases hs with ⟨hs, rfl⟩ | ⟨hs, hn⟩
      · have HS := Lib.hid hs
        clear hs
        go_wp2
        go_ret
        exact ⟨by rw [HS.out]; rfl, rfl⟩
      · have hb : (x == j) = false := by simpa using hs
        have HN' := Lib.hid hn
        clear hs hn
        go_wp2
        go_round
        case rel => exact ⟨k + 1, by omega, by go_num, HN'⟩
        case measure => simp [intOf]; omega
    · obtain rfl : k = xs.length := by omega
      have HS := Lib.hid (not_hasB HN.out)
      go_wp2
      go_ret
      exact ⟨by rw [HS.out]; rfl, rfl⟩

set_option maxHeartbeats 400000 in
theorem l1In_below (n names : Int) (w : World) :
    Calls Tryz.prog 71 #[.int .i64 n, .int .i64 0, .int .i64 (names - 1)] w fun e w' => e = .returned (.bool (isBelowB n names)) ∧ w = w' := by
  have h : (decide (0 ≤ n) && decide (n ≤ names - 1)) = isBelowB n names := by unfold isBelowB; congr 1; rw [decide_eq_decide]; omega
  rw [← h]
  exact l1In_any n 0 (names - 1) w
end

/- The model's l2Moves, l2Body and l2Phis. -/
section
open Go.ChangeShapes Go.WideShapes Go.ChangeAt Go.RowKit Go.Joins

theorem movesP_first {names : Int} {l : List MoveD} {i : Nat} {m : MoveD} (hx : l[i]? = some m) (h : ¬ MoveP names m) : ¬ MovesP names l := fun hp => h (hp.2.1 i m hx)
theorem moveP_dst {names : Int} {m : MoveD} (h : isBelowB m.dst names = false) : ¬ MoveP names m := fun hp => by have := hp.1; rw [h] at this; cases this
theorem moveP_src {names : Int} {m : MoveD} (h : isBelowB m.src names = false) : ¬ MoveP names m := fun hp => by have := hp.2; rw [h] at this; cases this

set_option maxHeartbeats 1000000 in
theorem l2Moves_any (v : Value) (ms : List MoveD) (names : Int) (w : World) (Z : Zn) (hv : Row w Z 2 EMove v ms) (hD : ∀ b, Z.D b → b < w.heap.size) (h0 : 0 ≤ names) (h1 : names ≤ 150) :
    Calls Tryz.prog 98 #[v, .int .i64 names] w (GivesB (MovesP names ms) w) := by
  obtain ⟨hle, A, c, rfl, hx⟩ := hv
  by_cases hlen : ms.length ≤ 40
  case neg =>
    have h' : (40 : Int) < (ms.length : Int) := by omega
    have HN : Hid (¬ MovesP names ms) := fun h => hlen h.1
    clear hlen
    go_enter Tryz.func98, Tryz.ntmps98
    go_wp2
    go_ret
    exact gives_no HN.out (Below.refl _ _)
  have h' : (ms.length : Int) ≤ 40 := by omega
  go_enter Tryz.func98, Tryz.ntmps98
  go_wp2
  go_loopw [5, 6] (fun i _ wr => ∃ k : Nat, k ≤ ms.length ∧ i = .int .i64 k ∧ Hid (Below w.heap.size w wr) ∧ Hid (∀ (j : Nat) m, j < k → ms[j]? = some m → MoveP names m) ∧ Hid (∀ (i j : Nat) m m', i < k → j < i → ms[i]? = some m → ms[j]? = some m' → m'.dst ≠ m.dst)) (fun i _ _ => ms.length - (intOf i).toNat)
  case atStart => exact ⟨0, Nat.zero_le _, rfl, Below.refl _ _, fun _ _ h => absurd h (by omega), fun _ _ _ _ h => absurd h (by omega)⟩
  case round =>
    obtain ⟨k, hk, rfl, HB, H1, H2⟩ := hrel
    by_cases hlt : k < ms.length
    · have hxk : ms[k]? = some ms[k] := List.getElem?_eq_getElem hlt
      generalize ms[k] = x at hxk
      obtain ⟨b, off, rfl, hDb, hrow⟩ := hx (by rintro rfl; simp at hlt)
      obtain ⟨cs, rfl, hcs⟩ := hrow k x hxk
      have hbl := hD b hDb
      have c0 : wr.cell? ⟨b, off + k * 2, none⟩ = some (.int .i64 x.dst) := (HB.out.cell (p := ⟨b, _, none⟩) hbl).trans (hcs 0 _ rfl).1
      have c1 : wr.cell? ⟨b, off + k * 2 + 1, none⟩ = some (.int .i64 x.src) := (HB.out.cell (p := ⟨b, _, none⟩) hbl).trans (hcs 1 _ rfl).1
      have Hxk := Lib.hid hxk
      have HR := Lib.hid hrow
      clear hcs hx hxk hrow
      cases hd : isBelowB x.dst names
      · have HN : Hid (¬ MovesP names ms) := movesP_first Hxk.out (moveP_dst hd)
        go_wp2_with (go_at_call 71; refine (l1In_below _ _ _).mono ?_; rintro e w' ⟨rfl, rfl⟩)
        go_ret
        exact gives_no HN.out HB.out
      cases hs : isBelowB x.src names
      · have HN : Hid (¬ MovesP names ms) := movesP_first Hxk.out (moveP_src hs)
        go_wp2_with (go_at_call 71; refine (l1In_below _ _ _).mono ?_; rintro e w' ⟨rfl, rfl⟩)
        go_ret
        exact gives_no HN.out HB.out
      have H1' : Hid (∀ (j : Nat) m, j < k + 1 → ms[j]? = some m → MoveP names m) := fun j m hj hm => by
        by_cases hjk : j = k
        · subst hjk
          rw [Hxk.out] at hm
          injection hm with hm
          subst hm
          exact ⟨hd, hs⟩
        · exact H1.out j m (by omega) hm
      go_wp2_with (go_at_call 71; refine (l1In_below _ _ _).mono ?_; rintro e w' ⟨rfl, rfl⟩)
      obtain ⟨wo, hwo⟩ : ∃ wo : World, wo = wr := ⟨_, rfl⟩
      have HB0 := HB
      rw [← hwo] at HB0 c0 c1
      have HB00 := Lib.hid HB0.out
      clear HB HB0
      subst hwo
      go_loopw [6] (fun q wq => ∃ j : Nat, j ≤ k ∧ q = .int .i64 j ∧ Hid (∃ n, wq = wo.drewN n) ∧ Hid (∀ (j' : Nat) m', j' < j → ms[j']? = some m' → m'.dst ≠ x.dst)) (fun q _ => k - (intOf q).toNat)
      case atStart => exact ⟨0, Nat.zero_le _, rfl, ⟨0, rfl⟩, fun _ _ h => absurd h (by omega)⟩
      case round =>
        obtain ⟨j, hj, rfl, HW, H3⟩ := hrel
        obtain ⟨n, rfl⟩ := HW.out
        by_cases hjk : j < k
        · have hxj : ms[j]? = some ms[j] := List.getElem?_eq_getElem (by omega)
          generalize ms[j] = y at hxj
          obtain ⟨cs, rfl, hcs⟩ := HR.out j y hxj
          have p0 : wo.cell? ⟨b, off + j * 2, none⟩ = some (.int .i64 y.dst) := (HB00.out.cell (p := ⟨b, _, none⟩) hbl).trans (hcs 0 _ rfl).1
          have Hxj := Lib.hid hxj
          clear hcs hxj
          by_cases hyx : y.dst = x.dst
          · have hb' : (y.dst == x.dst) = true := by simpa using hyx
            have HN : Hid (¬ MovesP names ms) := fun h => h.2.2 k j x y hjk Hxk.out Hxj.out hyx
            clear hyx
            go_wp2
            go_quiet (fail)
            go_wp2
            go_ret
            exact gives_no HN.out (below_drewN (below_drewN HB00.out _) _)
          · have hb' : (y.dst == x.dst) = false := by simpa using hyx
            have H3' : Hid (∀ (j' : Nat) m', j' < j + 1 → ms[j']? = some m' → m'.dst ≠ x.dst) := fun j' m' hj' hm' => by
              by_cases e : j' = j
              · subst e
                rw [Hxj.out] at hm'
                injection hm' with hm'
                subst hm'
                exact hyx
              · exact H3.out j' m' (by omega) hm'
            clear hyx
            go_wp2
            go_quiet (fail)
            go_wp2
            go_roundw
            case rel => exact ⟨j + 1, by omega, by go_num, ⟨n + nq, by go_simp⟩, H3'⟩
            case measure => simp [intOf]; omega
        · obtain rfl : j = k := by omega
          have H2' : Hid (∀ (i j' : Nat) m m', i < j + 1 → j' < i → ms[i]? = some m → ms[j']? = some m' → m'.dst ≠ m.dst) := fun i j' m m' hi hj' hm hm' => by
            by_cases e : i = j
            · subst e
              rw [Hxk.out] at hm
              injection hm with hm
              subst hm
              exact H3.out j' m' hj' hm'
            · exact H2.out i j' m m' (by omega) hj' hm hm'
          go_wp2
          go_roundw
          case rel => exact ⟨j + 1, by omega, by go_num, below_drewN HB00.out _, H1', H2'⟩
          case measure => simp [intOf]; omega
    · obtain rfl : k = ms.length := by omega
      go_wp2
      go_ret
      exact gives_yes ⟨hlen, fun j m hm => H1.out j m (List.getElem?_eq_some_iff.1 hm).1 hm, fun i j m m' hj hm hm' => H2.out i j m m' (List.getElem?_eq_some_iff.1 hm).1 hj hm hm'⟩ HB.out

set_option maxHeartbeats 1000000 in
theorem l2Body_any (v : Value) (l : List InsD) (names : Int) (w : World) (Z : Zn) (hv : Row w Z 4 EIns v l) (hD : ∀ b, Z.D b → b < w.heap.size) :
    Calls Tryz.prog 99 #[v, .int .i64 names] w (GivesB (BodyP names l) w) := by
  obtain ⟨hle, A, c, rfl, hx⟩ := hv
  by_cases hlen : l.length ≤ 80
  case neg =>
    have h' : (80 : Int) < (l.length : Int) := by omega
    have HN : Hid (¬ BodyP names l) := fun h => hlen h.1
    clear hlen
    go_enter Tryz.func99, Tryz.ntmps99
    go_wp2
    go_ret
    exact gives_no HN.out (Below.refl _ _)
  have h' : (l.length : Int) ≤ 80 := by omega
  go_enter Tryz.func99, Tryz.ntmps99
  go_wp2
  go_loopw [5, 6, 7] (fun i _ _ wr => ∃ k : Nat, k ≤ l.length ∧ i = .int .i64 k ∧ Hid (Below w.heap.size w wr) ∧ Hid (∀ (j : Nat) m, j < k → l[j]? = some m → InsP names m)) (fun i _ _ _ => l.length - (intOf i).toNat)
  case atStart => exact ⟨0, Nat.zero_le _, rfl, Below.refl _ _, fun _ _ h => absurd h (by omega)⟩
  case round =>
    obtain ⟨k, hk, rfl, HB, H1⟩ := hrel
    by_cases hlt : k < l.length
    case neg =>
      obtain rfl : k = l.length := by omega
      go_wp2
      go_ret
      exact gives_yes ⟨hlen, fun j m hm => H1.out j m (List.getElem?_eq_some_iff.1 hm).1 hm⟩ HB.out
    have hxk : l[k]? = some l[k] := List.getElem?_eq_getElem hlt
    generalize l[k] = x at hxk
    obtain ⟨b, off, rfl, hDb, hrow⟩ := hx (by rintro rfl; simp at hlt)
    obtain ⟨cs, rfl, hcs⟩ := hrow k x hxk
    have hbl := hD b hDb
    have c0 : wr.cell? ⟨b, off + k * 4, none⟩ = some (.int .i64 x.op) := (HB.out.cell (p := ⟨b, _, none⟩) hbl).trans (hcs 0 _ rfl).1
    have c1 : wr.cell? ⟨b, off + k * 4 + 1, none⟩ = some (.int .i64 x.v) := (HB.out.cell (p := ⟨b, _, none⟩) hbl).trans (hcs 1 _ rfl).1
    have c2 : wr.cell? ⟨b, off + k * 4 + 2, none⟩ = some (.int .i64 x.a) := (HB.out.cell (p := ⟨b, _, none⟩) hbl).trans (hcs 2 _ rfl).1
    have c3 : wr.cell? ⟨b, off + k * 4 + 3, none⟩ = some (.int .i64 x.b) := (HB.out.cell (p := ⟨b, _, none⟩) hbl).trans (hcs 3 _ rfl).1
    have Hxk := Lib.hid hxk
    clear hcs hx hxk hrow
    go_wp2_with fail
    refine (sInsOk_any _ _ _ _ _).mono ?_
    rintro e w1 ⟨rfl, hb1⟩
    have hz1 := hb1.size
    obtain ⟨hc1, hf1⟩ := bcellB (hb1.mono HB.out.size)
    have HB1 := Lib.hid (HB.out.trans (hb1.mono HB.out.size))
    clear hb1 hf1
    cases hok : insOkB x.op x.v x.a x.b
    · have HN : Hid (¬ BodyP names l) := fun h => by have := (h.2 k x Hxk.out).1; rw [hok] at this; cases this
      go_wp2_with fail
      go_ret
      exact gives_no HN.out HB1.out
    by_cases hvn : x.v < names
    case neg =>
      have HN : Hid (¬ BodyP names l) := fun h => hvn (h.2 k x Hxk.out).2.1
      have hvn' : names ≤ x.v := by omega
      clear hvn
      go_wp2_with fail
      go_ret
      exact gives_no HN.out HB1.out
    have HV := Lib.hid hok
    go_wp2_with fail
    refine (l1Uses_any _ _ _ _ _ HV.out).mono ?_
    rintro e w2 ⟨r, rfl, hr, hb2⟩
    have HB2 := Lib.hid (HB1.out.trans (hb2.mono HB1.out.size))
    have hu := hr.ri
    have hul := usesL_len x.op x.v x.a x.b
    have HU : Hid (∀ u, u ∈ usesL x.op x.v x.a x.b ↔ ∃ j, (usesL x.op x.v x.a x.b)[j]? = some u) := fun u => List.mem_iff_getElem?
    clear hr hb2 HB1 hc1 c0 c1 c2 c3 hok
    generalize husl : usesL x.op x.v x.a x.b = us at hu hul HU
    have HUS := Lib.hid husl
    clear husl
    obtain ⟨_, A1, c1, rfl, hux⟩ := hu
    go_wp2_with fail
    go_loop [7] (fun q => ∃ j : Nat, j ≤ us.length ∧ q = .int .i64 j ∧ Hid (∀ (j' : Nat) u, j' < j → us[j']? = some u → u < names)) (fun q => us.length - (intOf q).toNat)
    case atStart => exact ⟨0, Nat.zero_le _, rfl, fun _ _ h => absurd h (by omega)⟩
    case round =>
      obtain ⟨j, hj, rfl, H3⟩ := hrel
      by_cases hjl : j < us.length
      case neg =>
        obtain rfl : j = us.length := by omega
        have H1' : Hid (∀ (j : Nat) m, j < k + 1 → l[j]? = some m → InsP names m) := fun j m hj hm => by
          by_cases hjk : j = k
          · subst hjk
            rw [Hxk.out] at hm
            injection hm with hm
            subst hm
            refine ⟨HV.out, hvn, fun u hu => ?_⟩
            rw [HUS.out] at hu
            obtain ⟨i, hi⟩ := (HU.out u).1 hu
            exact H3.out i u (List.getElem?_eq_some_iff.1 hi).1 hi
          · exact H1.out j m (by omega) hm
        go_wp2
        go_roundw
        case rel => exact ⟨k + 1, by omega, by go_num, HB2, H1'⟩
        case measure => simp [intOf]; omega
      have hxj : us[j]? = some us[j] := List.getElem?_eq_getElem hjl
      generalize us[j] = u at hxj
      obtain ⟨b', off', rfl, hcell⟩ := hux (by rintro rfl; simp at hjl)
      have p0 := hcell j u hxj
      have Hxj := Lib.hid hxj
      clear hcell hux hxj
      by_cases hun : u < names
      · have H3' : Hid (∀ (j' : Nat) u, j' < j + 1 → us[j']? = some u → u < names) := fun j' u' hj' hm' => by
          by_cases e : j' = j
          · subst e
            rw [Hxj.out] at hm'
            injection hm' with hm'
            subst hm'
            exact hun
          · exact H3.out j' u' (by omega) hm'
        go_wp2
        go_round
        case rel => exact ⟨j + 1, by omega, by go_num, H3'⟩
        case measure => simp [intOf]; omega
      · have HN : Hid (¬ BodyP names l) := fun h => hun ((h.2 k x Hxk.out).2.2 u (by rw [HUS.out]; exact (HU.out u).2 ⟨j, Hxj.out⟩))
        have hun' : names ≤ u := by omega
        clear hun
        go_wp2
        go_ret
        exact gives_no HN.out HB2.out

set_option maxHeartbeats 1000000 in
theorem l2Phis_any (v : Value) (l : List PhiD) (names : Int) (preds : Nat) (w : World) (Z : Zn) (hv : Row w Z 2 (EPhi w Z) v l) (h0 : 0 ≤ names) (h1 : names ≤ 150) :
    Calls Tryz.prog 70 #[v, .int .i64 names, .int .i64 preds] w (GivesB (PhisP names preds l) w) := by
  obtain ⟨hle, A, c, rfl, hx⟩ := hv
  by_cases hlen : l.length ≤ 4
  case neg =>
    have h' : (4 : Int) < (l.length : Int) := by omega
    have HN : Hid (¬ PhisP names preds l) := fun h => hlen h.1
    clear hlen
    go_enter Tryz.func70, Tryz.ntmps70
    go_wp2
    go_ret
    exact gives_no HN.out (Below.refl _ _)
  have h' : (l.length : Int) ≤ 4 := by omega
  go_enter Tryz.func70, Tryz.ntmps70
  go_wp2
  go_loop [7, 8] (fun i _ => ∃ k : Nat, k ≤ l.length ∧ i = .int .i64 k ∧ Hid (∀ (j : Nat) m, j < k → l[j]? = some m → PhiP names preds m)) (fun i _ => l.length - (intOf i).toNat)
  case atStart => exact ⟨0, Nat.zero_le _, rfl, fun _ _ h => absurd h (by omega)⟩
  case round =>
    obtain ⟨k, hk, rfl, H1⟩ := hrel
    by_cases hlt : k < l.length
    case neg =>
      obtain rfl : k = l.length := by omega
      go_wp2
      go_ret
      exact gives_yes ⟨hlen, fun j m hm => H1.out j m (List.getElem?_eq_some_iff.1 hm).1 hm⟩ (Below.refl _ _)
    have hxk : l[k]? = some l[k] := List.getElem?_eq_getElem hlt
    generalize l[k] = x at hxk
    obtain ⟨b, off, rfl, hDb, hrow⟩ := hx (by rintro rfl; simp at hlt)
    obtain ⟨cs, ⟨u, rfl, hle1, A1, c1, rfl, hux⟩, hcs⟩ := hrow k x hxk
    have c0 : w.cell? ⟨b, off + k * 2, none⟩ = some (.int .i64 x.v) := (hcs 0 _ rfl).1
    have c1 : w.cell? ⟨b, off + k * 2 + 1, none⟩ = some (.slice A1 x.args.length c1) := (hcs 1 _ rfl).1
    have Hxk := Lib.hid hxk
    clear hcs hx hxk hrow
    cases hd : isBelowB x.v names
    · have HN : Hid (¬ PhisP names preds l) := fun h => by have := (h.2 k x Hxk.out).1; rw [hd] at this; cases this
      go_wp2_with (go_at_call 71; refine (l1In_below _ _ _).mono ?_; rintro e w' ⟨rfl, rfl⟩)
      go_ret
      exact gives_no HN.out (Below.refl _ _)
    by_cases hpl : x.args.length = preds
    case neg =>
      have hb' : ((x.args.length : Int) != (preds : Int)) = true := by simp; omega
      have HN : Hid (¬ PhisP names preds l) := fun h => hpl (h.2 k x Hxk.out).2.1
      clear hpl
      go_wp2_with (go_at_call 71; refine (l1In_below _ _ _).mono ?_; rintro e w' ⟨rfl, rfl⟩)
      go_ret
      exact gives_no HN.out (Below.refl _ _)
    have hb' : ((x.args.length : Int) != (preds : Int)) = false := by simp [hpl]
    have HPL := Lib.hid hpl
    clear hpl
    have HD := Lib.hid hd
    go_wp2_with (go_at_call 71; refine (l1In_below _ _ _).mono ?_; rintro e w' ⟨rfl, rfl⟩)
    go_loop [8] (fun q => ∃ j : Nat, j ≤ x.args.length ∧ q = .int .i64 j ∧ Hid (∀ (j' : Nat) u, j' < j → x.args[j']? = some u → isBelowB u names = true)) (fun q => x.args.length - (intOf q).toNat)
    case atStart => exact ⟨0, Nat.zero_le _, rfl, fun _ _ h => absurd h (by omega)⟩
    case round =>
      obtain ⟨j, hj, rfl, H3⟩ := hrel
      by_cases hjl : j < x.args.length
      case neg =>
        obtain rfl : j = x.args.length := by omega
        have H1' : Hid (∀ (j : Nat) m, j < k + 1 → l[j]? = some m → PhiP names preds m) := fun j m hj hm => by
          by_cases hjk : j = k
          · subst hjk
            rw [Hxk.out] at hm
            injection hm with hm
            subst hm
            exact ⟨HD.out, HPL.out, fun i a ha => H3.out i a (List.getElem?_eq_some_iff.1 ha).1 ha⟩
          · exact H1.out j m (by omega) hm
        go_wp2
        go_round
        case rel => exact ⟨k + 1, by omega, by go_num, H1'⟩
        case measure => simp [intOf]; omega
      have hxj : x.args[j]? = some x.args[j] := List.getElem?_eq_getElem hjl
      generalize x.args[j] = u at hxj
      obtain ⟨b', off', rfl, _, hcell⟩ := hux (by intro h; rw [h] at hjl; simp at hjl)
      obtain ⟨cs, rfl, hcs⟩ := hcell j u hxj
      have p0 : w.cell? ⟨b', off' + j, none⟩ = some (.int .i64 u) := by have := (hcs 0 _ rfl).1; rwa [Nat.mul_one] at this
      have Hxj := Lib.hid hxj
      clear hcell hux hxj hcs
      cases hun : isBelowB u names
      · have HN : Hid (¬ PhisP names preds l) := fun h => by have := (h.2 k x Hxk.out).2.2 j u Hxj.out; rw [hun] at this; cases this
        go_wp2_with (go_at_call 71; refine (l1In_below _ _ _).mono ?_; rintro e w' ⟨rfl, rfl⟩)
        go_ret
        exact gives_no HN.out (Below.refl _ _)
      · have H3' : Hid (∀ (j' : Nat) u, j' < j + 1 → x.args[j']? = some u → isBelowB u names = true) := fun j' u' hj' hm' => by
          by_cases e : j' = j
          · subst e
            rw [Hxj.out] at hm'
            injection hm' with hm'
            subst hm'
            exact hun
          · exact H3.out j' u' (by omega) hm'
        go_wp2_with (go_at_call 71; refine (l1In_below _ _ _).mono ?_; rintro e w' ⟨rfl, rfl⟩)
        go_round
        case rel => exact ⟨j + 1, by omega, by go_num, H3'⟩
        case measure => simp [intOf]; omega
end

/- The model's l2Preds. -/
section
open Go.ChangeShapes Go.WideShapes Go.ChangeAt Go.RowKit Go.Joins

theorem info_int : (Tryz.prog.info? 2).map (fun i => (i.zero, i.size, i.bytes)) = some (some (.int .i64 0), 1, 8) := by kernel_rfl

theorem wpList_append_int {ops : Array Oper} {rest : List Oper} {o : Oper} {a : Act} {Q : Exit → Act → World → Prop} (hgd : o.guard = none) (s x : Operand)
    (ho : o.op = .call { callee := .builtin .append, args := #[s, x], argTypes := #[27, 27] })
    (B : Nat) (v : Value) (xs : List Int) (y : Int) (w : World) (hs : a.eval s = v) (hown : OI w B v xs) (hx : a.eval x = .slice (some ⟨w.heap.size, 0, none⟩) 1 1) (hb : B ≤ w.heap.size) (hlen : xs.length ≤ 1048576)
    (h : ∀ v' w', OI w' B v' (xs ++ [y]) → w.grownBy w' v.ownBlock → (v'.ownBlock = v.ownBlock ∨ ∃ k, v'.ownBlock = some k ∧ w.heap.size ≤ k) → wpList Tryz.prog ops Q rest (a.put o.dst v') w') :
    wpList Tryz.prog ops Q (o :: rest) a (w.alloc (.cells #[.int .i64 y] 2)) := by
  obtain ⟨i0, hi, hz0, hz1, hz2⟩ := info_parts info_int
  refine wpList_append_own_at (P := Tryz.prog) _ hgd s x _ ho B 2 i0 (.int .i64 0) 1 8 Tryz.underlying27 hi hz0 hz1 hz2 rfl (by decide) v xs.length (xs.map iv) hs (World.ownsRow.alloc hown _) ⟨w.heap.size, 0, none⟩ 1 1 [.int .i64 y] hx rfl (cell_one_new w _ _) (by simp [Value.oneCell']) (by rw [maxLen_is]; omega) (by omega) (by simp; omega) ?_
  intro v' w' hown' hg _ hat
  refine h v' w' ?_ ((World.grownBy_alloc w _ _).trans hg) ?_
  · unfold OI
    rw [List.map_append, List.length_append]
    exact hown'
  · rcases hat with h | h
    · exact .inl h
    · exact .inr ⟨_, h, by simp⟩

set_option maxRecDepth 10000 in
set_option maxHeartbeats 1000000 in
theorem l2Preds_any (f : FunD) (v : Value) (j : Int) (w : World) (Z : Zn) (hv : EFun w Z f v) (hD : ∀ b, Z.D b → b < w.heap.size) (hn : f.blocks.length ≤ 1048576) :
    Calls Tryz.prog 69 #[v, .int .i64 j] w (GivesI (predsF f j) w) := by
  obtain ⟨u, rfl, hle, A, c, rfl, hx⟩ := hv
  go_enter Tryz.func69, Tryz.ntmps69
  go_wp2
  go_loopw [5, 6] (fun q i wr => ∃ k : Nat, k ≤ f.blocks.length ∧ i = .int .i64 k ∧ Hid (OI wr (w.heap.size + 1) q (predsK toE f.blocks k j)) ∧ Hid (Below (w.heap.size + 1) (w.alloc (.cells #[.int .i64 f.params, .int .i64 f.names, .slice A f.blocks.length c] 26)) wr)) (fun _ i _ => f.blocks.length - (intOf i).toNat)
  case atStart => exact ⟨0, Nat.zero_le _, rfl, OI_lit0 _ (by simp) (by omega), (Below.refl _ _).alloc (by simp) _⟩
  case round =>
    obtain ⟨k, hk, rfl, HO, HB⟩ := hrel
    have hB0 : Below w.heap.size w wr := ((Below.refl _ _).alloc (Nat.le_refl _) _).trans (HB.out.mono (by omega))
    have hzw : w.heap.size + 1 ≤ wr.heap.size := by have := HB.out.size; simp at this; omega
    have HB0 := Lib.hid hB0
    have f2 : wr.cell? ⟨w.heap.size, 2, none⟩ = some (.slice A f.blocks.length c) := (HB.out.cell (p := ⟨w.heap.size, 2, none⟩) (by simp)).trans (by go_simp)
    clear hB0
    by_cases hlt : k < f.blocks.length
    case neg =>
      obtain rfl : k = f.blocks.length := by omega
      go_wp2
      go_ret
      exact ⟨_, rfl, World.ownsRow.mono HO.out (by omega), HB0.out⟩
    have hxk : f.blocks[k]? = some f.blocks[k] := List.getElem?_eq_getElem hlt
    generalize f.blocks[k] = x at hxk
    obtain ⟨b, off, rfl, hDb, hrow⟩ := hx (by intro h; rw [h] at hlt; simp at hlt)
    obtain ⟨cs, hE, hcs⟩ := hrow k x hxk
    have hbl := hD b hDb
    obtain ⟨_, _, _, _, rfl, _⟩ := hE
    have c4 : wr.cell? ⟨b, off + k * 8 + 4, none⟩ = some (.int .i64 x.fin.k) := (HB0.out.cell (p := ⟨b, _, none⟩) hbl).trans (hcs 4 _ rfl).1
    have c5 : wr.cell? ⟨b, off + k * 8 + 4 + 1, none⟩ = some (.int .i64 x.fin.a) := (HB0.out.cell (p := ⟨b, _, none⟩) hbl).trans (hcs 5 _ rfl).1
    have c6 : wr.cell? ⟨b, off + k * 8 + 4 + 2, none⟩ = some (.int .i64 x.fin.t) := (HB0.out.cell (p := ⟨b, _, none⟩) hbl).trans (hcs 6 _ rfl).1
    have c7 : wr.cell? ⟨b, off + k * 8 + 4 + 3, none⟩ = some (.int .i64 x.fin.l) := (HB0.out.cell (p := ⟨b, _, none⟩) hbl).trans (hcs 7 _ rfl).1
    have Hsucc := Lib.hid (predsK_succ toE j hxk)
    have hpl := predsK_len toE f.blocks k j
    clear hcs hx hxk hrow
    go_wp2_with fail
    refine (l2Succs_any _ _ _ _ _).mono ?_
    rintro e w1 ⟨r, rfl, hr, hb1⟩
    have hz1 := hb1.size
    have HO1 := Lib.hid (HO.out.below hb1 fun k hk => (HO.out.lt k hk).2)
    have HB1 := Lib.hid (HB.out.trans (hb1.mono hzw))
    have HR := Lib.hid hr.ri
    clear hr hb1 HO HB HB0 f2 c4 c5 c6 c7
    go_wp2_with fail
    refine (l1Has_any _ _ _ _ HR.out).mono ?_
    rintro e w' ⟨rfl, rfl⟩
    have HT : Hid (toL x.fin.k x.fin.t x.fin.l = toE x.fin) := rfl
    rw [HT.out]
    cases hh : hasB (toE x.fin) j
    · have HS : Hid (predsK toE f.blocks (k + 1) j = predsK toE f.blocks k j) := by rw [Hid, Hsucc.out, hh]; simp
      clear Hsucc
      go_wp2
      go_roundw
      case rel => exact ⟨k + 1, by omega, by go_num, (by rw [HS.out]; exact HO1.out), HB1.out⟩
      case measure => simp [intOf]; omega
    · have HS : Hid (predsK toE f.blocks (k + 1) j = predsK toE f.blocks k j ++ [(k : Int)]) := by rw [Hid, Hsucc.out, hh]; simp
      clear Hsucc
      go_wp2_with (at_builtin; refine wpList_append_int rfl (.tmp 24) (.tmp 26) rfl (w.heap.size + 1) _ (predsK toE f.blocks k j) k w1 rfl HO1.out rfl (by omega) (by omega) ?_; intro v' w2 hown2 hg2 hat2; have HO2 := Lib.hid hown2; have HB2 := Lib.hid (HB1.out.grown hg2 (by omega) (fun k hk => (HO1.out.lt k hk).1)); clear hown2 hg2 hat2)
      go_roundw
      case rel => exact ⟨k + 1, by omega, by go_num, (by rw [HS.out]; exact HO2.out), HB2.out⟩
      case measure => simp [intOf]; omega
end

end Go.Proofs.YtnjmlhokkhkaaaaGreat
