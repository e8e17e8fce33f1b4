/- ReckI, RunP, Zer, Off, joined. -/
import Derived.Test.YtnjmlhokkhkaaaaGreatQ1
import Derived.Test.YtnjmlhokkhkaaaaGreatQ2
import Derived.Test.YtnjmlhokkhkaaaaGreatQ6
import Derived.Laws.EntriesVeiled
import Derived.Laws.CopyRow
import Derived.Laws.AppendOwn
import Derived.Maps.AppendAt
import Derived.Lib.AppendZeros
import Derived.Deep.RegionHeld3
namespace Go.Proofs.YtnjmlhokkhkaaaaGreat

/- Reckoned of both sides. -/
section
open Go.ChangeShapes Go.WideShapes Go.ChangeAt Go.RowKit Go.Joins

def lessB (a b : Int) : Int := if a < b then 1 else 0
def reckB (o a b : Int) : Int :=
  if isValueB a = true ∧ isValueB b = true then
    (if o = 3 then (a + b) % 1000003 else if o = 4 then (a - b + 1000003) % 1000003 else if o = 5 then (a * b) % 1000003 else if o = 6 then lessB a b else -1)
  else -1

theorem isValueB_iff {n : Int} : isValueB n = true ↔ 0 ≤ n ∧ n < 1000003 := by simp [isValueB]
theorem mul_bound {a b : Int} (ha : 0 ≤ a) (ha' : a < 1000003) (hb : 0 ≤ b) (hb' : b < 1000003) : 0 ≤ a * b ∧ a * b ≤ 1000004000004 := by
  refine ⟨Int.mul_nonneg ha hb, ?_⟩
  have : a * b ≤ 1000002 * 1000002 := Int.mul_le_mul (by omega) (by omega) hb (by omega)
  omega

set_option maxHeartbeats 400000 in
theorem sum_any (a b : Int) (w : World) (ha : 0 ≤ a) (ha' : a < 1000003) (hb : 0 ≤ b) (hb' : b < 1000003) :
    Calls Tryz.prog 146 #[.int .i64 a, .int .i64 b] w fun e w' => e = .returned (.int .i64 ((a + b) % 1000003)) ∧ w = w' := by
  go_enter Tryz.func146, Tryz.ntmps146
  go_wp2
  go_ret
  exact ⟨rfl, rfl⟩

set_option maxHeartbeats 400000 in
theorem difference_any (a b : Int) (w : World) (ha : 0 ≤ a) (ha' : a < 1000003) (hb : 0 ≤ b) (hb' : b < 1000003) :
    Calls Tryz.prog 147 #[.int .i64 a, .int .i64 b] w fun e w' => e = .returned (.int .i64 ((a - b + 1000003) % 1000003)) ∧ w = w' := by
  go_enter Tryz.func147, Tryz.ntmps147
  go_wp2
  go_ret
  exact ⟨rfl, rfl⟩

set_option maxHeartbeats 400000 in
theorem product_any (a b : Int) (w : World) (ha : 0 ≤ a) (ha' : a < 1000003) (hb : 0 ≤ b) (hb' : b < 1000003) :
    Calls Tryz.prog 148 #[.int .i64 a, .int .i64 b] w fun e w' => e = .returned (.int .i64 ((a * b) % 1000003)) ∧ w = w' := by
  obtain ⟨hm, hm'⟩ := mul_bound ha ha' hb hb'
  go_enter Tryz.func148, Tryz.ntmps148
  go_wp2
  go_ret
  exact ⟨rfl, rfl⟩

set_option maxHeartbeats 400000 in
theorem less_any (a b : Int) (w : World) :
    Calls Tryz.prog 149 #[.int .i64 a, .int .i64 b] w fun e w' => e = .returned (.int .i64 (lessB a b)) ∧ w = w' := by
  by_cases h : a < b
  · have HE : Hid (lessB a b = 1) := if_pos h
    go_enter Tryz.func149, Tryz.ntmps149
    go_wp2
    go_ret
    exact ⟨by rw [HE.out]; rfl, rfl⟩
  · have HE : Hid (lessB a b = 0) := if_neg h
    go_enter Tryz.func149, Tryz.ntmps149
    go_wp2
    go_ret
    exact ⟨by rw [HE.out]; rfl, rfl⟩

set_option maxHeartbeats 400000 in
theorem reckoners_any (w : World) :
    Calls Tryz.prog 125 #[] w fun e w' => e = .returned (.agg #[.func (.func 146) #[] #[], .func (.func 147) #[] #[], .func (.func 148) #[] #[], .func (.func 149) #[] #[]]) ∧ Below w.heap.size w w' := by
  go_enter Tryz.func125, Tryz.ntmps125
  go_wp2
  refine bodyPost_ret (v := .agg #[.func (.func 146) #[] #[], .func (.func 147) #[] #[], .func (.func 148) #[] #[], .func (.func 149) #[] #[]]) (by simp [results, Tryz.results125, go_sem]) rfl ⟨rfl, ?_⟩
  repeat (first | exact Below.refl _ _ | refine Below.alloc ?_ (by first | (simp; done) | (simp; omega)) _ | refine Below.setCell ?_ (by simp) _)

theorem table_0 (w : World) : (Instr.index 176 (.agg #[.func (.func 146) #[] #[], .func (.func 147) #[] #[], .func (.func 148) #[] #[], .func (.func 149) #[] #[]]) (.int .i64 0)).run Tryz.prog w = .ok (.func (.func 146) #[] #[]) w := by kernel_rfl

set_option maxHeartbeats 400000 in
theorem Reckoned_3 (a b : Int) (w : World) (ha : isValueB a = true) (hb : isValueB b = true) :
    Calls Tryz.prog 95 #[.int .i64 3, .int .i64 a, .int .i64 b] w fun e w' => e = .returned (.int .i64 (reckB 3 a b)) ∧ Below w.heap.size w w' := by
  obtain ⟨ha1, ha2⟩ := isValueB_iff.1 ha
  obtain ⟨hq1, hq2⟩ := isValueB_iff.1 hb
  have HE : Hid (reckB 3 a b = (a + b) % 1000003) := by simp [Hid, reckB, ha, hb]
  have ht := table_0
  go_enter Tryz.func95, Tryz.ntmps95
  go_wp2_with (first
    | (go_at_call 61; refine (isValue_any _ _).mono ?_; rintro e w' ⟨rfl, rfl⟩)
    | (go_at_call 125; refine (reckoners_any _).mono ?_; rintro e w1 ⟨rfl, hb1⟩)
    | (go_at_call 146; refine (sum_any _ _ _ ha1 ha2 hq1 hq2).mono ?_; rintro e w' ⟨rfl, rfl⟩))
  go_ret
  exact ⟨by rw [HE.out]; rfl, hb1⟩

theorem table_1 (w : World) : (Instr.index 176 (.agg #[.func (.func 146) #[] #[], .func (.func 147) #[] #[], .func (.func 148) #[] #[], .func (.func 149) #[] #[]]) (.int .i64 1)).run Tryz.prog w = .ok (.func (.func 147) #[] #[]) w := by kernel_rfl

set_option maxHeartbeats 400000 in
theorem Reckoned_4 (a b : Int) (w : World) (ha : isValueB a = true) (hb : isValueB b = true) :
    Calls Tryz.prog 95 #[.int .i64 4, .int .i64 a, .int .i64 b] w fun e w' => e = .returned (.int .i64 (reckB 4 a b)) ∧ Below w.heap.size w w' := by
  obtain ⟨ha1, ha2⟩ := isValueB_iff.1 ha
  obtain ⟨hq1, hq2⟩ := isValueB_iff.1 hb
  have HE : Hid (reckB 4 a b = (a - b) % 1000003) := by simp [Hid, reckB, ha, hb]
  have ht := table_1
  go_enter Tryz.func95, Tryz.ntmps95
  go_wp2_with (first
    | (go_at_call 61; refine (isValue_any _ _).mono ?_; rintro e w' ⟨rfl, rfl⟩)
    | (go_at_call 125; refine (reckoners_any _).mono ?_; rintro e w1 ⟨rfl, hb1⟩)
    | (go_at_call 147; refine (difference_any _ _ _ ha1 ha2 hq1 hq2).mono ?_; rintro e w' ⟨rfl, rfl⟩))
  go_ret
  exact ⟨by rw [HE.out]; rfl, hb1⟩

theorem table_2 (w : World) : (Instr.index 176 (.agg #[.func (.func 146) #[] #[], .func (.func 147) #[] #[], .func (.func 148) #[] #[], .func (.func 149) #[] #[]]) (.int .i64 2)).run Tryz.prog w = .ok (.func (.func 148) #[] #[]) w := by kernel_rfl

set_option maxHeartbeats 400000 in
theorem Reckoned_5 (a b : Int) (w : World) (ha : isValueB a = true) (hb : isValueB b = true) :
    Calls Tryz.prog 95 #[.int .i64 5, .int .i64 a, .int .i64 b] w fun e w' => e = .returned (.int .i64 (reckB 5 a b)) ∧ Below w.heap.size w w' := by
  obtain ⟨ha1, ha2⟩ := isValueB_iff.1 ha
  obtain ⟨hq1, hq2⟩ := isValueB_iff.1 hb
  have HE : Hid (reckB 5 a b = (a * b) % 1000003) := by simp [Hid, reckB, ha, hb]
  have ht := table_2
  go_enter Tryz.func95, Tryz.ntmps95
  go_wp2_with (first
    | (go_at_call 61; refine (isValue_any _ _).mono ?_; rintro e w' ⟨rfl, rfl⟩)
    | (go_at_call 125; refine (reckoners_any _).mono ?_; rintro e w1 ⟨rfl, hb1⟩)
    | (go_at_call 148; refine (product_any _ _ _ ha1 ha2 hq1 hq2).mono ?_; rintro e w' ⟨rfl, rfl⟩))
  go_ret
  exact ⟨by rw [HE.out]; rfl, hb1⟩

theorem table_3 (w : World) : (Instr.index 176 (.agg #[.func (.func 146) #[] #[], .func (.func 147) #[] #[], .func (.func 148) #[] #[], .func (.func 149) #[] #[]]) (.int .i64 3)).run Tryz.prog w = .ok (.func (.func 149) #[] #[]) w := by kernel_rfl

set_option maxHeartbeats 400000 in
theorem Reckoned_6 (a b : Int) (w : World) (ha : isValueB a = true) (hb : isValueB b = true) :
    Calls Tryz.prog 95 #[.int .i64 6, .int .i64 a, .int .i64 b] w fun e w' => e = .returned (.int .i64 (reckB 6 a b)) ∧ Below w.heap.size w w' := by
  obtain ⟨ha1, ha2⟩ := isValueB_iff.1 ha
  obtain ⟨hq1, hq2⟩ := isValueB_iff.1 hb
  have HE : Hid (reckB 6 a b = lessB a b) := by simp [Hid, reckB, ha, hb]
  have ht := table_3
  go_enter Tryz.func95, Tryz.ntmps95
  go_wp2_with (first
    | (go_at_call 61; refine (isValue_any _ _).mono ?_; rintro e w' ⟨rfl, rfl⟩)
    | (go_at_call 125; refine (reckoners_any _).mono ?_; rintro e w1 ⟨rfl, hb1⟩)
    | (go_at_call 149; refine (less_any _ _ _ ).mono ?_; rintro e w' ⟨rfl, rfl⟩))
  go_ret
  exact ⟨by rw [HE.out]; rfl, hb1⟩

set_option maxHeartbeats 400000 in
theorem Reckoned_any (o a b : Int) (w : World) :
    Calls Tryz.prog 95 #[.int .i64 o, .int .i64 a, .int .i64 b] w fun e w' => e = .returned (.int .i64 (reckB o a b)) ∧ Below w.heap.size w w' := by
  by_cases ho : 3 ≤ o ∧ o ≤ 6
  · by_cases ha : isValueB a = true
    · by_cases hb : isValueB b = true
      · by_cases h3 : o = 3
        · subst h3; exact Reckoned_3 a b w ha hb
        by_cases h4 : o = 4
        · subst h4; exact Reckoned_4 a b w ha hb
        by_cases h5 : o = 5
        · subst h5; exact Reckoned_5 a b w ha hb
        obtain rfl : o = 6 := by omega
        exact Reckoned_6 a b w ha hb
      · have HE : Hid (reckB o a b = -1) := by simp [Hid, reckB, hb]
        simp only [Bool.not_eq_true] at hb
        obtain ⟨h3, h6⟩ := ho
        go_enter Tryz.func95, Tryz.ntmps95
        go_wp2_with (go_at_call 61; refine (isValue_any _ _).mono ?_; rintro e w' ⟨rfl, rfl⟩)
        go_ret
        exact ⟨by rw [HE.out]; rfl, Below.refl _ _⟩
    · have HE : Hid (reckB o a b = -1) := by simp [Hid, reckB, ha]
      simp only [Bool.not_eq_true] at ha
      obtain ⟨h3, h6⟩ := ho
      go_enter Tryz.func95, Tryz.ntmps95
      go_wp2_with (go_at_call 61; refine (isValue_any _ _).mono ?_; rintro e w' ⟨rfl, rfl⟩)
      go_ret
      exact ⟨by rw [HE.out]; rfl, Below.refl _ _⟩
  · have HE : Hid (reckB o a b = -1) := by
      unfold Hid reckB
      split
      · rw [if_neg (by omega), if_neg (by omega), if_neg (by omega), if_neg (by omega)]
      · rfl
    by_cases h3 : o < 3
    · clear ho
      go_enter Tryz.func95, Tryz.ntmps95
      go_wp2
      go_ret
      exact ⟨by rw [HE.out]; rfl, Below.refl _ _⟩
    · have h6 : 6 < o := by omega
      clear ho
      go_enter Tryz.func95, Tryz.ntmps95
      go_wp2
      go_ret
      exact ⟨by rw [HE.out]; rfl, Below.refl _ _⟩

set_option maxHeartbeats 400000 in
theorem sReckoned_any (o a b : Int) (w : World) :
    Calls Tryz.prog 73 #[.int .i64 o, .int .i64 a, .int .i64 b] w fun e w' => e = .returned (.int .i64 (reckB o a b)) ∧ w = w' := by
  by_cases ha : isValueB a = true
  · by_cases hb : isValueB b = true
    · obtain ⟨ha1, ha2⟩ := isValueB_iff.1 ha
      obtain ⟨hb1, hb2⟩ := isValueB_iff.1 hb
      obtain ⟨hm, hm'⟩ := mul_bound ha1 ha2 hb1 hb2
      by_cases h3 : o = 3
      · subst h3
        have HE : Hid (reckB 3 a b = (a + b) % 1000003) := by simp [Hid, reckB, ha, hb]
        go_enter Tryz.func73, Tryz.ntmps73
        go_wp2_with (go_at_call 72; refine (l1Value_any _ _).mono ?_; rintro e w' ⟨rfl, rfl⟩)
        go_ret
        exact ⟨by rw [HE.out]; rfl, rfl⟩
      by_cases h4 : o = 4
      · subst h4
        have HE : Hid (reckB 4 a b = (a - b + 1000003) % 1000003) := by simp [Hid, reckB, ha, hb]
        go_enter Tryz.func73, Tryz.ntmps73
        go_wp2_with (go_at_call 72; refine (l1Value_any _ _).mono ?_; rintro e w' ⟨rfl, rfl⟩)
        go_ret
        exact ⟨by rw [HE.out]; rfl, rfl⟩
      by_cases h5 : o = 5
      · subst h5
        have HE : Hid (reckB 5 a b = (a * b) % 1000003) := by simp [Hid, reckB, ha, hb]
        go_enter Tryz.func73, Tryz.ntmps73
        go_wp2_with (go_at_call 72; refine (l1Value_any _ _).mono ?_; rintro e w' ⟨rfl, rfl⟩)
        go_ret
        exact ⟨by rw [HE.out]; rfl, rfl⟩
      by_cases h6 : o = 6
      · subst h6
        have HE : Hid (reckB 6 a b = lessB a b) := by simp [Hid, reckB, ha, hb]
        by_cases hlt : a < b
        · have H1 : Hid (lessB a b = 1) := if_pos hlt
          go_enter Tryz.func73, Tryz.ntmps73
          go_wp2_with (go_at_call 72; refine (l1Value_any _ _).mono ?_; rintro e w' ⟨rfl, rfl⟩)
          go_ret
          exact ⟨by rw [HE.out, H1.out]; rfl, rfl⟩
        · have H1 : Hid (lessB a b = 0) := if_neg hlt
          go_enter Tryz.func73, Tryz.ntmps73
          go_wp2_with (go_at_call 72; refine (l1Value_any _ _).mono ?_; rintro e w' ⟨rfl, rfl⟩)
          go_ret
          exact ⟨by rw [HE.out, H1.out]; rfl, rfl⟩
      have HE : Hid (reckB o a b = -1) := by simp [Hid, reckB, ha, hb, h3, h4, h5, h6]
      have b3 : (o == 3) = false := by simpa using h3
      have b4 : (o == 4) = false := by simpa using h4
      have b5 : (o == 5) = false := by simpa using h5
      have b6 : (o == 6) = false := by simpa using h6
      clear h3 h4 h5 h6
      go_enter Tryz.func73, Tryz.ntmps73
      go_wp2_with (go_at_call 72; refine (l1Value_any _ _).mono ?_; rintro e w' ⟨rfl, rfl⟩)
      go_ret
      exact ⟨by rw [HE.out]; rfl, rfl⟩
    · have HE : Hid (reckB o a b = -1) := by simp [Hid, reckB, hb]
      simp only [Bool.not_eq_true] at hb
      go_enter Tryz.func73, Tryz.ntmps73
      go_wp2_with (go_at_call 72; refine (l1Value_any _ _).mono ?_; rintro e w' ⟨rfl, rfl⟩)
      go_ret
      exact ⟨by rw [HE.out]; rfl, rfl⟩
  · have HE : Hid (reckB o a b = -1) := by simp [Hid, reckB, ha]
    simp only [Bool.not_eq_true] at ha
    go_enter Tryz.func73, Tryz.ntmps73
    go_wp2_with (go_at_call 72; refine (l1Value_any _ _).mono ?_; rintro e w' ⟨rfl, rfl⟩)
    go_ret
    exact ⟨by rw [HE.out]; rfl, rfl⟩
end

/- What a run does: the values of the names, what was told, where it goes on. -/
section

def gN (σ : List Int) (x : Int) : Int := σ.getD x.toNat 0
def pN (σ : List Int) (x v : Int) : List Int := σ.set x.toNat v
theorem pN_len (σ : List Int) (x v : Int) : (pN σ x v).length = σ.length := by simp [pN]
theorem gN_get {σ : List Int} {x : Int} {k : Nat} (hx : x = k) (hk : k < σ.length) : σ[k]? = some (gN σ x) := by
  subst hx
  unfold gN
  rw [Int.toNat_natCast, List.getD_eq_getElem?_getD, List.getElem?_eq_getElem hk]; rfl

/-- The first k of some moves, all at once: what they take is of σ. -/
def mvS (l : List MoveD) (σ : List Int) : Nat → List Int
  | 0 => σ
  | k + 1 => match l[k]? with
    | some m => pN (mvS l σ k) m.dst (gN σ m.src)
    | none => mvS l σ k
def mvA (l : List MoveD) (σ : List Int) : List Int := mvS l σ l.length
theorem mvS_succ {l : List MoveD} {σ : List Int} {k : Nat} {m : MoveD} (h : l[k]? = some m) : mvS l σ (k + 1) = pN (mvS l σ k) m.dst (gN σ m.src) := by simp [mvS, h]
theorem mvS_len (l : List MoveD) (σ : List Int) : ∀ k, (mvS l σ k).length = σ.length
  | 0 => rfl
  | k + 1 => by
    unfold mvS
    split
    · rw [pN_len, mvS_len l σ k]
    · exact mvS_len l σ k
theorem mvA_len (l : List MoveD) (σ : List Int) : (mvA l σ).length = σ.length := mvS_len l σ _

structure BSt where
  σ : List Int
  em : List Int
def insS (i : InsD) (s : BSt) : BSt :=
  if i.op = 1 then ⟨pN s.σ i.v i.a, s.em⟩
  else if i.op = 2 then ⟨pN s.σ i.v (gN s.σ i.a), s.em⟩
  else if i.op = 7 then ⟨s.σ, s.em ++ [gN s.σ i.a]⟩
  else ⟨pN s.σ i.v (reckB i.op (gN s.σ i.a) (gN s.σ i.b)), s.em⟩
def bodyS (l : List InsD) (s : BSt) : Nat → BSt
  | 0 => s
  | k + 1 => match l[k]? with
    | some i => insS i (bodyS l s k)
    | none => bodyS l s k
theorem bodyS_succ {l : List InsD} {s : BSt} {k : Nat} {i : InsD} (h : l[k]? = some i) : bodyS l s (k + 1) = insS i (bodyS l s k) := by simp [bodyS, h]
theorem insS_len (i : InsD) (s : BSt) : (insS i s).σ.length = s.σ.length := by
  unfold insS
  split
  · exact pN_len _ _ _
  · split
    · exact pN_len _ _ _
    · split
      · rfl
      · exact pN_len _ _ _
theorem bodyS_len (l : List InsD) (s : BSt) : ∀ k, (bodyS l s k).σ.length = s.σ.length
  | 0 => rfl
  | k + 1 => by
    unfold bodyS
    split
    · rw [insS_len, bodyS_len l s k]
    · exact bodyS_len l s k
theorem insS_em (i : InsD) (s : BSt) : (insS i s).em.length ≤ s.em.length + 1 := by
  unfold insS
  split
  · simp
  · split
    · simp
    · split <;> simp
theorem bodyS_em (l : List InsD) (s : BSt) : ∀ k, (bodyS l s k).em.length ≤ s.em.length + k
  | 0 => Nat.le_refl _
  | k + 1 => by
    unfold bodyS
    split
    · have h1 := bodyS_em l s k
      have h2 := insS_em
      have := h2 ‹InsD› (bodyS l s k)
      omega
    · have := bodyS_em l s k; omega

/-- The Phis of a block as moves, by the way that was come. -/
def phM (way : Nat) (l : List PhiD) : List MoveD := l.map fun p => ⟨p.v, p.args.getD way 0⟩
theorem phM_len (way : Nat) (l : List PhiD) : (phM way l).length = l.length := by simp [phM]
theorem phM_get {way : Nat} {l : List PhiD} {k : Nat} {p : PhiD} (h : l[k]? = some p) : (phM way l)[k]? = some ⟨p.v, p.args.getD way 0⟩ := by simp [phM, h]

/-- Where a run is: the values, what was told, the block that comes next, the one that was before. -/
structure VSt where
  σ : List Int
  em : List Int
  at_ : Nat
  bef : Nat
def phS (f : FunD) (x : BlockD) (s : VSt) : List Int := mvA (phM (wayF f s.at_ s.bef) x.phis) s.σ
def visB (f : FunD) (x : BlockD) (s : VSt) : BSt :=
  ⟨mvA x.tail (bodyS x.body ⟨mvA x.head (phS f x s), s.em⟩ x.body.length).σ, (bodyS x.body ⟨mvA x.head (phS f x s), s.em⟩ x.body.length).em⟩
theorem visB_len (f : FunD) (x : BlockD) (s : VSt) : (visB f x s).σ.length = s.σ.length := by
  unfold visB phS
  simp only [mvA_len, bodyS_len]
theorem visB_em (f : FunD) (x : BlockD) (s : VSt) : (visB f x s).em.length ≤ s.em.length + x.body.length := bodyS_em _ _ _

structure OutD where
  st : Int
  val : Int
  em : List Int
  vis : Int
def zOut : OutD := ⟨0, 0, [], 0⟩
/-- Where a run goes on behind a block; none: it ends. -/
def nextS (x : BlockD) (σ : List Int) : Option Int := if x.fin.k = 1 then none else if x.fin.k = 3 then (if gN σ x.fin.a = 0 then some x.fin.l else some x.fin.t) else some x.fin.t
def runS (f : FunD) : Nat → Nat → VSt → OutD
  | 0, vis, s => ⟨1, 0, s.em, vis⟩
  | n + 1, vis, s => match f.blocks[s.at_]? with
    | none => zOut
    | some x => match nextS x (visB f x s).σ with
      | none => ⟨2, gN (visB f x s).σ x.fin.a, (visB f x s).em, ((vis + 1 : Nat) : Int)⟩
      | some t => runS f n (vis + 1) ⟨(visB f x s).σ, (visB f x s).em, t.toNat, s.at_⟩
theorem runS_end {f : FunD} {n vis : Nat} {s : VSt} {x : BlockD} (hx : f.blocks[s.at_]? = some x) (hn : nextS x (visB f x s).σ = none) : runS f (n + 1) vis s = ⟨2, gN (visB f x s).σ x.fin.a, (visB f x s).em, ((vis + 1 : Nat) : Int)⟩ := by simp [runS, hx, hn]
theorem runS_on {f : FunD} {n vis : Nat} {s : VSt} {x : BlockD} {t : Int} (hx : f.blocks[s.at_]? = some x) (hn : nextS x (visB f x s).σ = some t) : runS f (n + 1) vis s = runS f n (vis + 1) ⟨(visB f x s).σ, (visB f x s).em, t.toNat, s.at_⟩ := by simp [runS, hx, hn]

def CanRun (f : FunD) (args : List Int) (fuel : Int) : Prop := FunP f ∧ (args.length : Int) = f.params ∧ (0 ≤ fuel ∧ fuel ≤ 500) ∧ ∀ a ∈ args, 0 ≤ a ∧ a < 1000003
def startS (f : FunD) (args : List Int) : VSt := ⟨args ++ List.replicate (f.names - f.params).toNat 0, [], 0, 0⟩
/-- What a run answers. -/
def RunG (f : FunD) (args : List Int) (fuel : Int) (o : OutD) : Prop := (¬ CanRun f args fuel ∧ o = zOut) ∨ (CanRun f args fuel ∧ o = runS f fuel.toNat 0 (startS f args))
theorem RunG.one {f : FunD} {args : List Int} {fuel : Int} {o o' : OutD} (h : RunG f args fuel o) (h' : RunG f args fuel o') : o = o' := by
  rcases h with ⟨h1, rfl⟩ | ⟨h1, rfl⟩ <;> rcases h' with ⟨h2, rfl⟩ | ⟨h2, rfl⟩
  · rfl
  · exact absurd h2 h1
  · exact absurd h1 h2
  · rfl

/-- Whence a run came it can be asked for: at the start there are no Phis. -/
def CameOk (f : FunD) (s : VSt) : Prop := ∃ x, f.blocks[s.at_]? = some x ∧ (x.phis = [] ∨ (s.bef : Int) ∈ predsF f s.at_)
theorem CameOk.start {f : FunD} (hp : FunP f) (args : List Int) : CameOk f (startS f args) := by
  have h1 := hp.1.1.1
  have hx : f.blocks[0]? = some f.blocks[0] := List.getElem?_eq_getElem (by omega)
  exact ⟨_, hx, .inl (hp.2.2.1 _ hx)⟩
theorem nextS_mem {f : FunD} (hp : FunP f) {k : Nat} {x : BlockD} (hx : f.blocks[k]? = some x) {σ : List Int} {t : Int} (h : nextS x σ = some t) : (0 ≤ t ∧ t < (f.blocks.length : Int)) ∧ t ∈ toL x.fin.k x.fin.t x.fin.l := by
  have ht := targets_of hp k x hx
  have he : t ∈ toL x.fin.k x.fin.t x.fin.l := by
    have hk := ht.1
    unfold nextS at h
    unfold endOkB at hk
    unfold toL
    by_cases h1 : x.fin.k = 1
    · simp [h1] at h
    · by_cases h3 : x.fin.k = 3
      · rw [if_neg h1, if_pos h3] at h
        split at h <;> injection h with h <;> subst h <;> simp [h3]
      · by_cases h2 : x.fin.k = 2
        · rw [if_neg h1, if_neg h3] at h
          injection h with h
          subst h
          simp [h2]
        · simp [h1, h2, h3] at hk
  exact ⟨ht.2 t he, he⟩
theorem CameOk.next {f : FunD} (hp : FunP f) {s : VSt} {x : BlockD} (hx : f.blocks[s.at_]? = some x) {σ em : List Int} {t : Int} (h : nextS x σ = some t) : CameOk f ⟨σ, em, t.toNat, s.at_⟩ := by
  obtain ⟨⟨h0, h1⟩, hm⟩ := nextS_mem hp hx h
  have hy : f.blocks[t.toNat]? = some f.blocks[t.toNat] := List.getElem?_eq_getElem (by omega)
  refine ⟨_, hy, .inr ?_⟩
  have := mem_predsF hx hm
  rw [show ((t.toNat : Nat) : Int) = t by omega]
  exact this
end

/- append of so many zeros, and a copy of a list of numbers. -/
section
open Go.ChangeShapes Go.WideShapes Go.ChangeAt Go.RowKit Go.Joins

theorem zc_list (n : Nat) : (Builtin.zeroCells #[Value.int .i64 0] n).toList = List.replicate n (Value.int .i64 0) := by
  simp only [Builtin.zeroCells, Array.toList_map, Array.toList_range]
  apply List.ext_getElem?
  intro k
  simp only [List.getElem?_map, List.getElem?_replicate, List.size_toArray, List.length_singleton, Nat.mul_one, Nat.mod_one]
  rcases Nat.lt_or_ge k n with h | h
  · rw [if_pos h, List.getElem?_range h]; rfl
  · rw [if_neg (by omega), List.getElem?_eq_none (by simpa using h)]; rfl

set_option maxHeartbeats 1000000 in
theorem run_append_zeros (ty : TypeId) (B : Nat) (v : Value) (xs : List Int) (n : Nat) (w : World) (hown : OI w B v xs) (hb : B ≤ w.heap.size) (hlen : xs.length + n ≤ 1000000) :
    ∃ v' w', (Builtin.append_ #[27, 2] ty #[v, .int .i64 n]).run Tryz.prog w = .ok v' w' ∧ OI w' B v' (xs ++ List.replicate n 0) ∧ w.grownBy w' v.ownBlock := by
  obtain ⟨i0, hi, hz0, hz1, hz2⟩ := info_parts info_int
  have ht := Tryz.underlying27
  have htn := Tryz.underlying2
  have hw : IntKind.i64.wrap (n : Int) = n := by rw [IntKind.wrap_i64]; omega
  have hneg : ¬ ((n : Int) < 0) := by omega
  have h48i : ¬ (281474976710656 < (n : Int) * 8) := by omega
  have hmap : (xs ++ List.replicate n 0).map iv = xs.map iv ++ List.replicate n (Value.int .i64 0) := by rw [List.map_append, List.map_replicate]; rfl
  have hlen2 : (xs ++ List.replicate n (0 : Int)).length = xs.length + n := by simp
  have hown0 := hown
  by_cases hn0 : n = 0
  · subst hn0
    have hw0 : IntKind.i64.wrap 0 = 0 := by rw [IntKind.wrap_i64]; rfl
    refine ⟨v, w, ?_, by simpa using hown, World.grownBy.refl _ _⟩
    rcases hown.2 with ⟨rfl, hl0⟩ | ⟨g, cap, cur, rfl, hBg, hg, hnc, hcm, hcs, htake⟩
    · simp [Builtin.append_, run_underlying ht, run_underlying htn, sizeOf, typeInfo, hi, hz2, asInt, asIntOf, hw0]
    · simp [Builtin.append_, run_underlying ht, run_underlying htn, sizeOf, typeInfo, hi, hz2, asInt, asIntOf, hw0, hnc, storeCells]
  have grown : ∀ (old : Nat), old < xs.length + n → ∀ (row : Option Nat),
      OI (w.drew.alloc (.cells ((xs.map iv).toArray ++ (Builtin.zeroCells #[Value.int .i64 0] n) ++ Builtin.zeroCells #[Value.int .i64 0] (grownCap w (xs.length + n) old 2 - (xs.length + n))) 2)) B
        (.slice (some ⟨w.heap.size, 0, none⟩) (xs.length + n) (grownCap w (xs.length + n) old 2)) (xs ++ List.replicate n 0) ∧
      w.grownBy (w.drew.alloc (.cells ((xs.map iv).toArray ++ (Builtin.zeroCells #[Value.int .i64 0] n) ++ Builtin.zeroCells #[Value.int .i64 0] (grownCap w (xs.length + n) old 2 - (xs.length + n))) 2)) row := by
    intro old ho row
    have hge := grownCap_ge w (xs.length + n) old 2
    have hcm : grownCap w (xs.length + n) old 2 ≤ maxLen := grownCap_le_maxLen w (xs.length + n) old 2 (by rw [maxLen_is]; omega)
    refine ⟨?_, ⟨rfl, rfl, rfl, by simp, fun k hk _ => Below.heap_alloc w.drew _ k hk⟩⟩
    unfold OI
    rw [hlen2, hmap]
    refine ⟨by simp, .inr ⟨w.heap.size, _, _, rfl, hb, heap_alloc_new w.drew _, hge, hcm, ?_, ?_⟩⟩
    · simp only [Array.size_append, List.size_toArray, size_zeroCells, List.length_map, List.length_singleton]
      omega
    · simp only [Array.toList_append, zc_list]
      exact List.take_left' (by simp)
  rcases hown.2 with ⟨rfl, hl0⟩ | ⟨g, cap, cur, rfl, hBg, hg, hnc, hcm, hcs, htake⟩
  · have hx : xs = [] := List.eq_nil_of_length_eq_zero hl0
    subst hx
    have hr := Go.Lib.run_append_nil_zeros (P := Tryz.prog) w 27 2 ty 2 i0 (.int .i64 0) .i64 .i64 ht htn hi hz0 n (by omega) (by rw [hz1]; decide) (by omega) (by rw [hz2]; omega)
    have hgr := grown 0 (by simp; omega) (Value.ownBlock (.slice none 0 0))
    simp only [List.length_nil, Nat.zero_add, List.map_nil, List.nil_append, Array.empty_append] at hgr ⊢
    exact ⟨_, _, hr, hgr.1, hgr.2⟩
  · by_cases hroom : xs.length + n ≤ cap
    · have hst := run_storeCells_at Tryz.prog g xs.length 2 (List.replicate n (Value.int .i64 0)) 0 cur w hg (by simp; omega) (by intro u hu; rw [List.mem_replicate] at hu; rw [hu.2]; rfl)
      refine ⟨.slice (some ⟨g, 0, none⟩) (xs.length + n) cap, w.setRow g (cur.toList.take (xs.length + 0) ++ List.replicate n (Value.int .i64 0) ++ cur.toList.drop (xs.length + 0 + (List.replicate n (Value.int .i64 0)).length)).toArray, ?_, ?_, ⟨rfl, rfl, rfl, by simp, fun k _ hk => setRow_other w g k _ (fun e => hk (by simp [Value.ownBlock, e]))⟩⟩
      · have hadd : (⟨g, 0, none⟩ : Addr).add xs.length = ⟨g, xs.length, none⟩ := by unfold Addr.add; split <;> simp_all
        simp [Builtin.append_, run_underlying ht, run_underlying htn, sizeOf, typeInfo, zeroValue, hi, hz0, hz1, hz2, asInt, asIntOf, hw, hneg, h48i, hroom, hn0, zc_list, hadd, hst, Value.cells]
      · unfold OI
        rw [hlen2, hmap]
        refine ⟨by simp, .inr ⟨g, cap, _, rfl, hBg, setRow_heap w g cur _ 2 _ hg, hroom, hcm, ?_, ?_⟩⟩
        · simp only [List.size_toArray, List.length_append, List.length_take, List.length_drop, Array.length_toList, List.length_replicate]
          omega
        · simp only [Nat.mul_one] at htake
          simp only [Nat.add_zero, htake, Nat.mul_one]
          exact List.take_left' (by simp)
    · have hfo := run_firstCells_some (P := Tryz.prog) w.drew 1 xs.length ⟨g, 0, none⟩ xs.length cap (xs.map iv) (by simp) (by
        have holds : ∀ j u, (xs.map iv)[j]? = some u → w.cell? ((⟨g, 0, none⟩ : Addr).add j) = some u := World.ownsRow.cells hown0 (g := g) rfl
        simpa using holds)
      have hgr := grown cap (by omega) (Value.ownBlock (.slice (some ⟨g, 0, none⟩) xs.length cap))
      have hfit := growslice_fits (need := xs.length + n) (old := cap) (bytes := 8) (by omega) (by omega)
      have h48' : ¬ (281474976710656 < Builtin.nextslicecap (xs.length + n) cap * 8) := by omega
      have h63' : ¬ (9223372036854775807 < ((xs.length : Int) + (n : Int))) := by omega
      refine ⟨_, _, ?_, hgr.1, hgr.2⟩
      simp [Builtin.append_, run_underlying ht, run_underlying htn, sizeOf, typeInfo, zeroValue, hi, hz0, hz1, hz2, asInt, asIntOf, hw, hneg, h48i, hroom, hn0, h48', h63', Question.forced, hfo, newRow, grownCap, Value.cells]

/-- append of a list that reads as ys onto one of the call's own. -/
theorem run_append_ri (ty : TypeId) (B : Nat) (v vy : Value) (xs ys : List Int) (w : World) (hown : OI w B v xs) (hy : RI w vy ys) (hb : B ≤ w.heap.size) (hlen : xs.length + ys.length ≤ 1048576) :
    ∃ v' w', (Builtin.append_ #[27, 27] ty #[v, vy]).run Tryz.prog w = .ok v' w' ∧ OI w' B v' (xs ++ ys) ∧ w.grownBy w' v.ownBlock := by
  obtain ⟨i0, hi, hz0, hz1, hz2⟩ := info_parts info_int
  have ht := Tryz.underlying27
  obtain ⟨hyl, A, c, rfl, hyc⟩ := hy
  by_cases hy0 : ys = []
  · subst hy0
    refine ⟨v, w, ?_, by simpa using hown, World.grownBy.refl _ _⟩
    have hl : ∀ (x : Addr), (loadCells x 0).run Tryz.prog w = .ok #[] w := fun x => by simpa using run_loadCells_list (P := Tryz.prog) w x [] (by simp)
    rcases hown.2 with ⟨rfl, hl0⟩ | ⟨g, cap, cur, rfl, hBg, hg, hnc, hcm, hcs, htake⟩
    · cases A <;> simp [Builtin.append_, run_underlying ht, sizeOf, typeInfo, hi, Builtin.lenOf, Builtin.firstCells, hl]
    · cases A <;> simp [Builtin.append_, run_underlying ht, sizeOf, typeInfo, hi, Builtin.lenOf, Builtin.firstCells, hnc, storeCells, hl]
  · obtain ⟨b, off, rfl, hc⟩ := hyc hy0
    obtain ⟨v', w', hr, h2, h3, _, _⟩ := run_append_own_at (P := Tryz.prog) w B 27 ty 2 i0 (.int .i64 0) 1 8 ht hi hz0 hz1 hz2 rfl (by decide) v xs.length (xs.map iv) hown ⟨b, off, none⟩ ys.length c (ys.map iv) (by simp) (fun j u hu => by
      rw [show (⟨b, off, none⟩ : Addr).add j = ⟨b, off + j, none⟩ by simp [Addr.add]]
      rw [List.getElem?_map] at hu
      cases hj : ys[j]? with
      | none => rw [hj] at hu; cases hu
      | some x =>
        rw [hj] at hu
        simp only [Option.map_some, Option.some.injEq] at hu
        subst hu
        exact hc j x hj) (by intro u hu; obtain ⟨x, _, rfl⟩ := List.mem_map.1 hu; rfl) (by rw [maxLen_is]; omega) (by omega) hb
    refine ⟨v', w', hr, ?_, h3⟩
    unfold OI
    rw [List.map_append, List.length_append]
    exact h2

set_option maxHeartbeats 1000000 in
theorem l1Copy_any (v : Value) (xs : List Int) (w : World) (hv : RI w v xs) (hl : xs.length ≤ 1000000) : Calls Tryz.prog 36 #[v] w (GivesI xs w) := by
  have hB : Below w.heap.size w (w.alloc (.cells #[] 2)) := (Below.refl _ _).alloc (Nat.le_refl _) _
  have hO : OI (w.alloc (.cells #[] 2)) w.heap.size (.slice (some ⟨w.heap.size, 0, none⟩) 0 0) [] := OI_lit0 w rfl (Nat.le_refl _)
  have hv' : RI (w.alloc (.cells #[] 2)) v xs := by
    obtain ⟨h1, A, c, rfl, h2⟩ := hv
    refine ⟨h1, A, c, rfl, fun hne => ?_⟩
    obtain ⟨b, off, rfl, h3⟩ := h2 hne
    exact ⟨b, off, rfl, fun k u hu => (hB.cell (p := ⟨b, _, none⟩) (World.block_lt_of_cell? w ⟨b, _, none⟩ (h3 k u hu))).trans (h3 k u hu)⟩
  obtain ⟨v2, w2, hr, ho, hg⟩ := run_append_ri 27 w.heap.size _ v [] xs _ hO hv' (by simp) (by simp; omega)
  have HO := Lib.hid ho
  have HB : Hid (Below w.heap.size w w2) := hB.grown hg (by simp) fun k hk => (hO.lt k hk).1
  obtain ⟨_, A, c, rfl, _⟩ := hv
  have HR := Lib.hid hr
  clear ho hg hO hv' hB hr
  go_enter Tryz.func36, Tryz.ntmps36
  go_wp2_with (at_builtin; refine Go.Lib.wpList_append_run _ rfl (.tmp 3) (.tmp 4) _ _ rfl _ _ rfl rfl _ _ HR.out ?_)
  go_ret
  exact ⟨v2, rfl, HO.out, HB.out⟩
end

/- A region whose last operation waits for all others: it may be walked without that one first. -/
section
open Go.ChangeShapes Go.WideShapes Go.ChangeAt Go.RowKit Go.Joins

section
variable {P : Program} {ops : Array Oper} {o : Oper} {Q : Exit → Act → World → Prop} {S : World → Prop} {md : Region.Mode}

/-- What is asked behind the others: that the last one may be carried out. -/
def offQ (P : Program) (ops : Array Oper) (Q : Exit → Act → World → Prop) (n : Nat) : Exit → Act → World → Prop
  | .normal, a, w => wpOp P ops Q n (Q .normal) a w
  | e, a, w => Q e a w

def AllListed (n : Nat) (listed : Array Bool) : Prop := ∀ j, j < n → listed.getD j true = true

/-- Who is listed has those listed that he waits for. -/
def Closed (ops : Array Oper) (md : Region.Mode) (l : Array Bool) : Prop := ∀ j p, ops[j]? = some p → l.getD j false = true → (p.after.all fun e => !Region.binds md e || l.getD e.on false) = true
theorem Closed.start (ops : Array Oper) (md : Region.Mode) (n : Nat) : Closed ops md (Array.replicate n false) := by
  intro j p _ h
  rw [Array.getD_eq_getD_getElem?, Array.getElem?_replicate] at h
  split at h <;> simp at h
theorem getD_set (l : Array Bool) (i j : Nat) (h : l.getD j false = true) : (l.setIfInBounds i true).getD j false = true := by
  rw [Array.getD_eq_getD_getElem?, Array.getElem?_setIfInBounds]
  by_cases e : i = j
  · subst e
    rw [if_pos rfl]
    rw [Array.getD_eq_getD_getElem?] at h
    by_cases hl : i < l.size
    · rw [if_pos hl]; rfl
    · rw [Array.getElem?_eq_none (by omega)] at h; simp at h
  · rw [if_neg e, ← Array.getD_eq_getD_getElem?]; exact h
theorem Closed.step {ops : Array Oper} {md : Region.Mode} {l : Array Bool} (h : Closed ops md l) {i : Nat} (hi : i ∈ Region.ready md ops l) : Closed ops md (l.setIfInBounds i true) := by
  intro j p hp hj
  have key : (p.after.all fun e => !Region.binds md e || l.getD e.on false) = true := by
    by_cases e : i = j
    · subst e
      unfold Region.ready at hi
      have h1 := (List.mem_filter.1 hi).2
      rw [hp] at h1
      simp only [Option.map_some, Option.getD_some, Bool.and_eq_true] at h1
      exact h1.2
    · refine h j p hp ?_
      rw [Array.getD_eq_getD_getElem?, Array.getElem?_setIfInBounds, if_neg e, ← Array.getD_eq_getD_getElem?] at hj
      exact hj
  rw [Array.all_eq_true'] at key ⊢
  intro e he
  have := key e he
  cases hb : Region.binds md e
  · rfl
  · rw [hb] at this
    have h2 : l.getD e.on false = true := by simpa using this
    rw [getD_set l i _ h2]; rfl

theorem getD_push {l : Array Bool} {j : Nat} {d : Bool} (h : j < l.size) (b : Bool) : (l.push b).getD j d = l.getD j d := by
  simp [Array.getD_eq_getD_getElem?, Array.getElem?_push, Nat.ne_of_lt h]
theorem getD_push_false (l : Array Bool) (j : Nat) : (l.push false).getD j false = l.getD j false := by
  rcases Nat.lt_trichotomy j l.size with h | h | h
  · exact getD_push h false
  · subst h; simp [Array.getD_eq_getD_getElem?]
  · simp only [Array.getD_eq_getD_getElem?, Array.getElem?_push]
    rw [if_neg (by omega)]
theorem getD_both {l : Array Bool} {j : Nat} (h : j < l.size) : l.getD j true = l.getD j false := by
  simp [Array.getD_eq_getD_getElem?, h]

theorem ready_push {l : Array Bool} (hl : l.size = ops.size) (hcl : Closed ops md l) (hw : (List.range ops.size).all (fun j => (o.after.any fun e => Region.binds md e && e.on == j) || (List.range ops.size).any fun k => decide (j < k) && ((ops[k]?).map fun p => p.after.any fun e => Region.binds md e && e.on == j).getD false) = true) (hb : (o.after.all fun e => !Region.binds md e || decide (e.on < ops.size)) = true) :
    (AllListed ops.size l → Region.ready md ops l = [] ∧ Region.ready md (ops.push o) (l.push false) = [ops.size]) ∧ (¬ AllListed ops.size l → Region.ready md (ops.push o) (l.push false) = Region.ready md ops l) := by
  have hsame : (List.range ops.size).filter (fun i => !(l.push false).getD i true && (((ops.push o)[i]?).map (·.after.all fun e => !Region.binds md e || (l.push false).getD e.on false)).getD false) = Region.ready md ops l := by
    unfold Region.ready
    apply List.filter_congr
    intro i hi
    have hi' := List.mem_range.1 hi
    rw [getD_push (by omega) false, Array.getElem?_push, if_neg (by omega)]
    congr 2
    congr 1
    funext p
    congr 1
    funext e
    rw [getD_push_false]
  have hall : Region.ready md (ops.push o) (l.push false) = Region.ready md ops l ++ (if (o.after.all fun e => !Region.binds md e || l.getD e.on false) = true then [ops.size] else []) := by
    rw [← hsame]
    unfold Region.ready
    rw [Array.size_push, List.range_succ, List.filter_append]
    congr 1
    have h1 : (l.push false).getD ops.size true = false := by simp [Array.getD_eq_getD_getElem?, ← hl]
    have h2 : (ops.push o)[ops.size]? = some o := by simp
    rw [List.filter_cons, List.filter_nil, h1, h2]
    simp only [Bool.not_false, Bool.true_and, Option.map_some, Option.getD_some, getD_push_false]
  refine ⟨fun ha => ⟨?_, ?_⟩, fun hn => ?_⟩
  · unfold Region.ready
    rw [List.filter_eq_nil_iff]
    intro i hi
    rw [ha i (List.mem_range.1 hi)]
    simp
  · have h0 : Region.ready md ops l = [] := by
      unfold Region.ready
      rw [List.filter_eq_nil_iff]
      intro i hi
      rw [ha i (List.mem_range.1 hi)]
      simp
    rw [hall, h0, if_pos]
    · rfl
    · rw [Array.all_eq_true'] at hb ⊢
      intro e he
      have := hb e he
      cases hbe : Region.binds md e
      · rfl
      · rw [hbe] at this
        have hlt : e.on < ops.size := by simpa using this
        have h3 := ha e.on hlt
        rw [getD_both (by omega)] at h3
        rw [h3]; rfl
  · rw [hall, if_neg, List.append_nil]
    intro h
    apply hn
    have key : ∀ m j, ops.size - m ≤ j → j < ops.size → l.getD j false = true := by
      intro m
      induction m with
      | zero => intro j h1 h2; omega
      | succ m ih =>
        intro j h1 hj
        rw [List.all_eq_true] at hw
        have h3 := hw j (List.mem_range.2 hj)
        rw [Bool.or_eq_true] at h3
        rcases h3 with h3 | h3
        · rw [Array.any_eq_true'] at h3
          obtain ⟨e, he, hbe⟩ := h3
          simp only [Bool.and_eq_true, beq_iff_eq] at hbe
          rw [Array.all_eq_true'] at h
          have h2 := h e he
          rw [hbe.1, hbe.2] at h2
          simpa using h2
        · rw [List.any_eq_true] at h3
          obtain ⟨k, hk, h3⟩ := h3
          have hk' := List.mem_range.1 hk
          rw [Array.getElem?_eq_getElem hk'] at h3
          simp only [Option.map_some, Option.getD_some, Bool.and_eq_true, decide_eq_true_eq] at h3
          have h4 := h3.2
          rw [Array.any_eq_true'] at h4
          obtain ⟨e, he, hbe⟩ := h4
          simp only [Bool.and_eq_true, beq_iff_eq] at hbe
          have h5 := hcl k _ (Array.getElem?_eq_getElem hk') (ih k (by omega) hk')
          rw [Array.all_eq_true'] at h5
          have h2 := h5 e he
          rw [hbe.1, hbe.2] at h2
          simpa using h2
    intro j hj
    rw [getD_both (by omega)]
    exact key ops.size j (by omega) hj

/-- Somebody who is not listed is ready, where each waits for earlier ones alone. -/
theorem ready_some {l : Array Bool} (hb : (List.range ops.size).all (fun i => ((ops[i]?).map fun p => p.after.all fun e => !Region.binds md e || decide (e.on < i)).getD false) = true) (hl : l.size = ops.size) (hn : ¬ AllListed ops.size l) : Region.ready md ops l ≠ [] := by
  -- the least one
  have hex : ∃ j, j < ops.size ∧ l.getD j true = false ∧ ∀ i, i < j → l.getD i true = true := by
    have key : ∀ n, n ≤ ops.size → (∃ j, j < n ∧ l.getD j true = false ∧ ∀ i, i < j → l.getD i true = true) ∨ ∀ i, i < n → l.getD i true = true := by
      intro n
      induction n with
      | zero => intro _; exact .inr fun i hi => absurd hi (by omega)
      | succ n ih =>
        intro hle
        rcases ih (by omega) with ⟨j, h1, h2, h3⟩ | h
        · exact .inl ⟨j, by omega, h2, h3⟩
        · cases hv : l.getD n true
          · exact .inl ⟨n, by omega, hv, h⟩
          · refine .inr fun i hi => ?_
            by_cases e : i = n
            · subst e; exact hv
            · exact h i (by omega)
    rcases key ops.size (Nat.le_refl _) with h | h
    · exact h
    · exact absurd h hn
  obtain ⟨j, hj, hf, hlow⟩ := hex
  intro h0
  unfold Region.ready at h0
  rw [List.filter_eq_nil_iff] at h0
  apply h0 j (List.mem_range.2 hj)
  rw [hf, Array.getElem?_eq_getElem hj]
  simp only [Bool.not_false, Bool.true_and, Option.map_some, Option.getD_some]
  rw [List.all_eq_true] at hb
  have h1 := hb j (List.mem_range.2 hj)
  rw [Array.getElem?_eq_getElem hj] at h1
  simp only [Option.map_some, Option.getD_some] at h1
  rw [Array.all_eq_true'] at h1 ⊢
  intro e he
  have h2 := h1 e he
  cases hbe : Region.binds md e
  · rfl
  · rw [hbe] at h2
    have hlt : e.on < j := by simpa using h2
    have h3 := hlow e.on hlt
    rw [getD_both (by omega)] at h3
    rw [h3]; rfl

theorem wpAny_nil {l : Array Bool} {a : Act} {w : World} (h : Region.ready md ops l = []) (hq : Q .normal a w) : ∀ k, wpAny P md ops Q k l a w
  | 0 => ⟨h, hq⟩
  | _ + 1 => ⟨fun _ => hq, fun i hi => (by rw [h] at hi; cases hi)⟩

theorem wp_off {p : Oper} {a : Act} {w : World} {K : Act → World → Prop} {n : Nat} (h : p.wp P a w K (offQ P ops Q n)) : p.wp P a w K Q := by
  unfold Oper.wp at *
  generalize (execOp a.eval p).run P w = r at *
  cases r with
  | ok x w' =>
    cases x <;> simp only [Oper.upon] at h ⊢ <;>
      first
        | exact h
        | exact Calls.mono h (fun e w'' he => by cases e <;> exact he)
  | halt x w' => cases x <;> simp only [Oper.upon] at h ⊢ <;> exact h

theorem wpOp_off {a : Act} {w : World} {K : Act → World → Prop} {i : Nat} (hg : ((ops.push o).all fun p => p.guard.isNone) = true) (hi : i < ops.size) (h : wpOp P ops (offQ P (ops.push o) Q ops.size) i K a w) : wpOp P (ops.push o) Q i K a w := by
  have hi1 : ops[i]? = some ops[i] := Array.getElem?_eq_getElem hi
  have hi2 : (ops.push o)[i]? = some ops[i] := by rw [Array.getElem?_push, if_neg (by omega)]; exact hi1
  have hgi : ops[i].guard = none := by
    rw [Array.all_eq_true'] at hg
    have := hg ops[i] (Array.mem_push_of_mem _ (Array.getElem_mem hi))
    simpa using this
  have hw1 : ∀ y, Region.wanted ops[i] y = true := fun y => by unfold Region.wanted; rw [hgi]
  unfold wpOp at h ⊢
  simp only [hi1, hi2, hw1, if_true] at h ⊢
  rcases h with h | ⟨h1, a', w', h2⟩
  · exact .inl (wp_off h)
  · exact .inr ⟨h1, a', w', h2⟩

theorem wpAny_off (hg : ((ops.push o).all fun p => p.guard.isNone) = true) (hw : (List.range ops.size).all (fun j => (o.after.any fun e => Region.binds md e && e.on == j) || (List.range ops.size).any fun k => decide (j < k) && ((ops[k]?).map fun p => p.after.any fun e => Region.binds md e && e.on == j).getD false) = true) (hb : (o.after.all fun e => !Region.binds md e || decide (e.on < ops.size)) = true)
    (hc : (List.range ops.size).all (fun i => ((ops[i]?).map fun p => p.after.all fun e => !Region.binds md e || decide (e.on < i)).getD false) = true) :
    ∀ (k : Nat) (l : Array Bool) (a : Act) (w : World), l.size = ops.size → Closed ops md l → wpAnyH P md ops (offQ P (ops.push o) Q ops.size) S k l a w → wpAny P md (ops.push o) Q (k + 1) (l.push false) a w := by
  have hlast : ∀ (k : Nat) (l : Array Bool) (a : Act) (w : World), l.size = ops.size → Closed ops md l → AllListed ops.size l → wpOp P (ops.push o) Q ops.size (Q .normal) a w → wpAny P md (ops.push o) Q (k + 1) (l.push false) a w := by
    intro k l a w hl hcl ha hq
    have hr := ((ready_push (md := md) hl hcl hw hb).1 ha).2
    refine ⟨fun h => (by rw [hr] at h; cases h), fun i hi => ?_⟩
    rw [hr] at hi
    simp only [List.mem_singleton] at hi
    subst hi
    refine wpOp_mono (fun a' w' h => wpAny_nil ?_ h k) hq
    unfold Region.ready
    rw [List.filter_eq_nil_iff]
    intro i hi
    have hi' := List.mem_range.1 hi
    rw [Array.size_push] at hi'
    have : ((l.push false).setIfInBounds ops.size true).getD i true = true := by
      rw [Array.getD_eq_getD_getElem?, Array.getElem?_setIfInBounds]
      by_cases e : ops.size = i
      · subst e; rw [if_pos rfl, if_pos (by simp; omega)]; rfl
      · rw [if_neg e, ← Array.getD_eq_getD_getElem?, getD_push (by omega) false]
        exact ha i (by omega)
    rw [this]
    simp
  intro k
  induction k with
  | zero =>
    intro l a w hl hcl h
    by_cases ha : AllListed ops.size l
    · exact hlast 0 l a w hl hcl ha h.2
    · exact absurd h.1 (ready_some hc hl ha)
  | succ k ih =>
    intro l a w hl hcl h
    by_cases ha : AllListed ops.size l
    · exact hlast (k + 1) l a w hl hcl ha (h.1 ((ready_push (md := md) hl hcl hw hb).1 ha).1)
    · have hr := (ready_push (md := md) hl hcl hw hb).2 ha
      refine ⟨fun h0 => by rw [hr] at h0; exact absurd h0 (ready_some hc hl ha), fun i hi => ?_⟩
      rw [hr] at hi
      have hlt : i < ops.size := by
        unfold Region.ready at hi
        exact List.mem_range.1 (List.mem_filter.1 hi).1
      refine wpOp_mono (fun a' w' hK => ?_) (wpOp_off hg hlt (h.2 i hi))
      have := ih (l.setIfInBounds i true) a' w' (by simpa using hl) (hcl.step hi) hK.2
      rwa [show (l.push false).setIfInBounds i true = (l.setIfInBounds i true).push false by
        apply Array.ext_getElem?
        intro j
        simp only [Array.getElem?_setIfInBounds, Array.getElem?_push, Array.size_setIfInBounds, Array.size_push]
        by_cases e : i = j
        · subst e
          rw [if_pos rfl, if_pos (by omega), if_neg (by omega), if_pos rfl, if_pos (by omega)]
        · rw [if_neg e, if_neg e]]

/-- The region is walked without its last operation; that one behind them. -/
theorem wp_region_off {id : Nat} {a : Act} {w : World} (hm : P.follows .mixedOrders = true) (hg : ((ops.push o).all fun p => p.guard.isNone) = true) (hw : (List.range ops.size).all (fun j => (o.after.any fun e => Region.binds .any e && e.on == j) || (List.range ops.size).any fun k => decide (j < k) && ((ops[k]?).map fun p => p.after.any fun e => Region.binds .any e && e.on == j).getD false) = true)
    (hb : (o.after.all fun e => !Region.binds .any e || decide (e.on < ops.size)) = true) (hc : (List.range ops.size).all (fun i => ((ops[i]?).map fun p => p.after.all fun e => !Region.binds .any e || decide (e.on < i)).getD false) = true)
    (hS : S w.drew) (h : S w.drew → wpAnyH P .any ops (offQ P (ops.push o) Q ops.size) S ops.size (Array.replicate ops.size false) a w.drew) : (Code.region id (ops.push o) true).wp P Q a w := by
  refine wp_region_any hm ?_
  have := wpAny_off (P := P) (Q := Q) (S := S) hg hw hb hc ops.size (Array.replicate ops.size false) a w.drew (by simp) (Closed.start _ _ _) (h hS)
  rw [Array.size_push]
  rwa [show Array.replicate (ops.size + 1) false = (Array.replicate ops.size false).push false by simp [Array.replicate_succ]]

/-- The same for a list of operations as it stands. -/
theorem wp_region_offL {l : List Oper} {id : Nat} {a : Act} {w : World} (hne : l ≠ []) (hm : P.follows .mixedOrders = true) (hg : (l.toArray.all fun p => p.guard.isNone) = true)
    (hw : (List.range l.dropLast.length).all (fun j => ((l.getLast hne).after.any fun e => Region.binds .any e && e.on == j) || (List.range l.dropLast.length).any fun k => decide (j < k) && ((l.dropLast[k]?).map fun p => p.after.any fun e => Region.binds .any e && e.on == j).getD false) = true)
    (hb : ((l.getLast hne).after.all fun e => !Region.binds .any e || decide (e.on < l.dropLast.length)) = true) (hc : (List.range l.dropLast.length).all (fun i => ((l.dropLast[i]?).map fun p => p.after.all fun e => !Region.binds .any e || decide (e.on < i)).getD false) = true)
    (hS : S w.drew) (h : S w.drew → wpAnyH P .any l.dropLast.toArray (offQ P l.toArray Q l.dropLast.length) S l.dropLast.length (Array.replicate l.dropLast.length false) a w.drew) : (Code.region id l.toArray true).wp P Q a w := by
  have e : l.toArray = l.dropLast.toArray.push (l.getLast hne) := by
    rw [List.push_toArray, List.dropLast_concat_getLast]
  rw [e] at hg h ⊢
  exact wp_region_off hm hg (by simpa using hw) (by simpa using hb) (by simpa using hc) hS (by simpa using h)
theorem offQ_last {n : Nat} {a : Act} {w : World} {o' : Oper} (ho : ops[n]? = some o') (h : ∀ K' : Act → World → Prop, Hid (∀ a w, Q .normal a w → K' a w) → if Region.wanted o' (yielded ops a.tmps) = true then Oper.wp P o' a w K' Q else K' (a.put o'.dst undef) w) : offQ P ops Q n .normal a w :=
  wpOp_step ho fun K' hK => h K' hK
end
end

end Go.Proofs.YtnjmlhokkhkaaaaGreat
