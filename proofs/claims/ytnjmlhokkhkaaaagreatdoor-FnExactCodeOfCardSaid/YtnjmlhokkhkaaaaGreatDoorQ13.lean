/- DomP, Bs, Dom, Come, Reach, Rev, DomAll, WalkF, joined. -/
import Derived.Test.YtnjmlhokkhkaaaaGreatDoorQ1
import Derived.Test.YtnjmlhokkhkaaaaGreatDoorQ2
import Derived.Test.YtnjmlhokkhkaaaaGreatDoorQ7
import Derived.Test.YtnjmlhokkhkaaaaGreatDoorQ8
import Derived.Test.YtnjmlhokkhkaaaaGreatDoorQ12
import Derived.Laws.ShiftsVarLaws
import Derived.WalkSmall
import Derived.RegionTactic
namespace Go.Proofs.YtnjmlhokkhkaaaaGreatDoor

/- Dominance by sets of blocks that shrink till nothing changes: lists of numbers alone. -/
section

/-- All blocks, as bits. -/
def allBits : Nat := 1099511627775
theorem allBits_bit (a : Nat) : allBits.testBit a = decide (a < 40) := Nat.testBit_two_pow_sub_one 40 a
theorem bit_zero (a : Nat) : (0 : Nat).testBit a = false := Nat.zero_testBit a
theorem bit_pow (b a : Nat) : (2 ^ b).testBit a = decide (b = a) := Nat.testBit_two_pow
theorem le_of_sub {x y : Nat} (h : ∀ a, x.testBit a = true → y.testBit a = true) : x ≤ y := by
  have e : x &&& y = x := by
    apply Nat.eq_of_testBit_eq
    intro a
    rw [Nat.testBit_and]
    cases hx : x.testBit a
    · rfl
    · rw [h a hx]; rfl
  rw [← e]
  exact Nat.and_le_right

/-- What all preds have, of those that have any. -/
def meetD (D : List Nat) (ps : List Int) : Nat := ps.foldl (fun s p => if D.getD p.toNat 0 = 0 then s else s &&& D.getD p.toNat 0) allBits
theorem meetD_take {D : List Nat} {ps : List Int} {k : Nat} {p : Int} (h : ps[k]? = some p) : meetD D (ps.take (k + 1)) = if D.getD p.toNat 0 = 0 then meetD D (ps.take k) else meetD D (ps.take k) &&& D.getD p.toNat 0 := by
  unfold meetD
  rw [List.take_add_one, h, Option.toList_some, List.foldl_append]; rfl
theorem foldl_bit (D : List Nat) : ∀ (ps : List Int) (s a : Nat), (ps.foldl (fun s p => if D.getD p.toNat 0 = 0 then s else s &&& D.getD p.toNat 0) s).testBit a = true ↔ s.testBit a = true ∧ ∀ p ∈ ps, D.getD p.toNat 0 ≠ 0 → (D.getD p.toNat 0).testBit a = true
  | [], s, a => by simp
  | p :: ps, s, a => by
    rw [List.foldl_cons, foldl_bit D ps]
    by_cases h : D.getD p.toNat 0 = 0
    · rw [if_pos h]
      constructor
      · rintro ⟨h1, h2⟩
        refine ⟨h1, fun q hq hn => ?_⟩
        rcases List.mem_cons.1 hq with rfl | hq
        · exact absurd h hn
        · exact h2 q hq hn
      · rintro ⟨h1, h2⟩
        exact ⟨h1, fun q hq hn => h2 q (by simp [hq]) hn⟩
    · rw [if_neg h, Nat.testBit_and, Bool.and_eq_true]
      constructor
      · rintro ⟨⟨h1, h3⟩, h2⟩
        refine ⟨h1, fun q hq hn => ?_⟩
        rcases List.mem_cons.1 hq with rfl | hq
        · exact h3
        · exact h2 q hq hn
      · rintro ⟨h1, h2⟩
        exact ⟨⟨h1, h2 p (by simp) h⟩, fun q hq hn => h2 q (by simp [hq]) hn⟩
theorem meetD_bit (D : List Nat) (ps : List Int) (a : Nat) : (meetD D ps).testBit a = true ↔ a < 40 ∧ ∀ p ∈ ps, D.getD p.toNat 0 ≠ 0 → (D.getD p.toNat 0).testBit a = true := by
  unfold meetD
  rw [foldl_bit, allBits_bit, decide_eq_true_iff]
theorem meetD_le (D : List Nat) (ps : List Int) : meetD D ps ≤ allBits := le_of_sub fun a h => by rw [allBits_bit, decide_eq_true_iff]; exact ((meetD_bit D ps a).1 h).1

/-- What dominates b, by its preds. -/
def stepD (D : List Nat) (ps : List Int) (b : Nat) : Nat := meetD D ps ||| 2 ^ b
theorem stepD_bit (D : List Nat) (ps : List Int) (b a : Nat) : (stepD D ps b).testBit a = true ↔ (a < 40 ∧ ∀ p ∈ ps, D.getD p.toNat 0 ≠ 0 → (D.getD p.toNat 0).testBit a = true) ∨ b = a := by
  unfold stepD
  rw [Nat.testBit_or, Bool.or_eq_true, meetD_bit, bit_pow, decide_eq_true_iff]
theorem stepD_le (D : List Nat) (ps : List Int) {b : Nat} (hb : b < 40) : stepD D ps b ≤ allBits := le_of_sub fun a h => by
  rw [allBits_bit, decide_eq_true_iff]
  rcases (stepD_bit D ps b a).1 h with h | h
  · exact h.1
  · omega

/-- The preds are those from whom one comes to it. -/
def IsPreds (sc : Int → List Int) (N : Nat) (pr : Nat → List Int) : Prop := ∀ (j : Nat) (p : Int), j < N → (p ∈ pr j ↔ ∃ m : Nat, p = (m : Int) ∧ m < N ∧ (j : Int) ∈ sc m)

structure DInv (sc : Int → List Int) (N : Nat) (pr : Nat → List Int) (D : List Nat) : Prop where
  len : D.length = N
  zer : D.getD 0 0 = 1
  un : ∀ i : Nat, i < N → ¬ Rch sc (-1) i → D.getD i 0 = 0
  self : ∀ i : Nat, i < N → Rch sc (-1) i → (D.getD i 0).testBit i = true
  sup : ∀ (i a : Nat), i < N → a < 40 → Rch sc (-1) i → ¬ Rch sc a i → (D.getD i 0).testBit a = true
  lt : ∀ i : Nat, D.getD i 0 ≤ allBits
  pre : ∀ (i a : Nat), i < N → i ≠ 0 → Rch sc (-1) i → (stepD D (pr i) i).testBit a = true → (D.getD i 0).testBit a = true

theorem getD_set_same {D : List Nat} {i : Nat} (h : i < D.length) (x : Nat) : (D.set i x).getD i 0 = x := by
  rw [List.getD_eq_getElem?_getD, List.getElem?_set_self h]; rfl
theorem getD_set_other {D : List Nat} {i j : Nat} (h : i ≠ j) (x : Nat) : (D.set i x).getD j 0 = D.getD j 0 := by
  rw [List.getD_eq_getElem?_getD, List.getElem?_set_ne h, ← List.getD_eq_getElem?_getD]

def sumD (D : List Nat) : Nat := D.foldr (· + ·) 0
theorem sumD_set : ∀ {D : List Nat} {i : Nat}, i < D.length → ∀ x, sumD (D.set i x) + D.getD i 0 = sumD D + x
  | [], i, h, x => by simp at h
  | d :: D, 0, _, x => by simp [sumD]; omega
  | d :: D, i + 1, h, x => by
    have := sumD_set (D := D) (i := i) (by simpa using h) x
    simp only [sumD, List.set_cons_succ, List.foldr_cons, List.getD_cons_succ] at this ⊢
    omega

section
variable {sc : Int → List Int} {N : Nat} {pr : Nat → List Int} {D : List Nat} (h40 : N ≤ 40) (hpr : IsPreds sc N pr)
include h40 hpr

/-- A block's set is made anew. -/
theorem DInv.step (h : DInv sc N pr D) {b : Nat} (hb : b < N) (hb0 : b ≠ 0) (hr : Rch sc (-1) b) : DInv sc N pr (D.set b (stepD D (pr b) b)) := by
  have hbl : b < D.length := by rw [h.len]; exact hb
  have hsame := getD_set_same hbl (stepD D (pr b) b)
  have hoth := fun (j : Nat) (hj : b ≠ j) => getD_set_other (D := D) hj (stepD D (pr b) b)
  -- all sets are parts of what they were
  have hsub : ∀ j a, ((D.set b (stepD D (pr b) b)).getD j 0).testBit a = true → (D.getD j 0).testBit a = true := fun j a hja => by
    by_cases e : b = j
    · subst e
      rw [hsame] at hja
      exact h.pre b a hb hb0 hr hja
    · rw [hoth j e] at hja; exact hja
  have hnz : ∀ j, j < N → ((D.set b (stepD D (pr b) b)).getD j 0 ≠ 0 ↔ D.getD j 0 ≠ 0) := fun j hj => by
    by_cases e : b = j
    · subst e
      rw [hsame]
      constructor
      · intro _ h0
        have := h.self b hb hr
        rw [h0, bit_zero] at this; cases this
      · intro _ h0
        have : (stepD D (pr b) b).testBit b = true := (stepD_bit _ _ _ _).2 (.inr rfl)
        rw [h0, bit_zero] at this; cases this
    · rw [hoth j e]
  refine ⟨by simp [h.len], ?_, fun i hi hn => ?_, fun i hi hri => ?_, fun i a hi ha hri hna => ?_, fun i => ?_, fun i a hi hi0 hri hst => ?_⟩
  · rw [hoth 0 hb0]; exact h.zer
  · by_cases e : b = i
    · subst e; exact absurd hr hn
    · rw [hoth i e]; exact h.un i hi hn
  · by_cases e : b = i
    · subst e; rw [hsame]; exact (stepD_bit _ _ _ _).2 (.inr rfl)
    · rw [hoth i e]; exact h.self i hi hri
  · by_cases e : b = i
    · subst e
      rw [hsame, stepD_bit]
      by_cases hab : b = a
      · exact .inr hab
      · refine .inl ⟨ha, fun p hp hne => ?_⟩
        obtain ⟨m, rfl, hm, hbm⟩ := (hpr b p hb).1 hp
        rw [Int.toNat_natCast] at hne ⊢
        have hrm : Rch sc (-1) m := Classical.byContradiction fun hnm => hne (h.un m hm hnm)
        refine h.sup m a hm ha hrm fun hram => hna (.step hram hbm (by omega))
    · rw [hoth i e]; exact h.sup i a hi ha hri hna
  · by_cases e : b = i
    · subst e; rw [hsame]; exact stepD_le _ _ (by omega)
    · rw [hoth i e]; exact h.lt i
  · have key : (stepD D (pr i) i).testBit a = true := by
      rw [stepD_bit] at hst ⊢
      rcases hst with ⟨h1, h2⟩ | h1
      · refine .inl ⟨h1, fun p hp hne => ?_⟩
        obtain ⟨m, rfl, hm, _⟩ := (hpr i p hi).1 hp
        rw [Int.toNat_natCast] at hne ⊢
        have h3 := h2 m hp (by rw [Int.toNat_natCast]; exact (hnz m hm).2 hne)
        rw [Int.toNat_natCast] at h3
        exact hsub m a h3
      · exact .inr h1
    by_cases e : b = i
    · subst e; rw [hsame]; exact key
    · rw [hoth i e]; exact h.pre i a hi hi0 hri key
omit h40 hpr in
theorem DInv.sum (h : DInv sc N pr D) {b : Nat} (hb : b < N) (hb0 : b ≠ 0) (hr : Rch sc (-1) b) : sumD (D.set b (stepD D (pr b) b)) ≤ sumD D ∧ (stepD D (pr b) b ≠ D.getD b 0 → sumD (D.set b (stepD D (pr b) b)) < sumD D) := by
  have h1 := sumD_set (show b < D.length by rw [h.len]; exact hb) (stepD D (pr b) b)
  have h2 : stepD D (pr b) b ≤ D.getD b 0 := le_of_sub fun a ha => h.pre b a hb hb0 hr ha
  exact ⟨by omega, fun hne => by omega⟩

/-- Where nothing changes any more, each set holds just those that dominate. -/
theorem DInv.done (h : DInv sc N pr D) (hfix : ∀ b : Nat, b < N → b ≠ 0 → Rch sc (-1) b → stepD D (pr b) b = D.getD b 0) (hsc : ∀ b : Nat, b < N → ∀ t ∈ sc b, 0 ≤ t ∧ t < (N : Int)) {b a : Nat} (hb : b < N) (ha : a < 40) (hr : Rch sc (-1) b) :
    (D.getD b 0).testBit a = true ↔ ¬ Rch sc a b := by
  refine ⟨fun hbit hra => ?_, fun hn => h.sup b a hb ha hr hn⟩
  have key : ∀ x : Int, Rch sc a x → 0 ≤ x ∧ x < (N : Int) ∧ Rch sc (-1) x ∧ (D.getD x.toNat 0).testBit a = false := by
    intro x hx
    induction hx with
    | zero h0 =>
      refine ⟨by omega, by omega, .zero (by omega), ?_⟩
      rw [Int.toNat_zero, h.zer]
      cases hv : (1 : Nat).testBit a
      · rfl
      · rw [show (1 : Nat) = 2 ^ 0 by rfl, bit_pow, decide_eq_true_iff] at hv
        omega
    | @step x y _ hy hya ih =>
      obtain ⟨hx0, hxN, hxr, hxb⟩ := ih
      obtain ⟨k, rfl⟩ : ∃ k : Nat, x = k := ⟨x.toNat, by omega⟩
      have hyr := hsc k (by omega) y hy
      obtain ⟨j, rfl⟩ : ∃ j : Nat, y = j := ⟨y.toNat, by omega⟩
      have hrj : Rch sc (-1) j := .step hxr hy (by omega)
      refine ⟨hyr.1, hyr.2, hrj, ?_⟩
      rw [Int.toNat_natCast] at hxb ⊢
      by_cases hj0 : j = 0
      · subst hj0
        rw [h.zer]
        cases hv : (1 : Nat).testBit a
        · rfl
        · rw [show (1 : Nat) = 2 ^ 0 by rfl, bit_pow, decide_eq_true_iff] at hv
          omega
      · cases hv : (D.getD j 0).testBit a
        · rfl
        · rw [← hfix j (by omega) hj0 hrj, stepD_bit] at hv
          rcases hv with ⟨_, hv⟩ | hv
          · have hk := hv (k : Int) ((hpr j k (by omega)).2 ⟨k, rfl, by omega, hy⟩) (by
              rw [Int.toNat_natCast]
              intro h0
              have := h.self k (by omega) hxr
              rw [h0, bit_zero] at this; cases this)
            rw [Int.toNat_natCast, hxb] at hk
            cases hk
          · omega
  have := (key b hra).2.2.2
  rw [Int.toNat_natCast, hbit] at this
  cases this
end

/-- What the sets are at first. -/
theorem DInv.start {sc : Int → List Int} {N : Nat} {pr : Nat → List Int} {D : List Nat} (h40 : N ≤ 40) (hN : 1 ≤ N) (hl : D.length = N) (h0 : D.getD 0 0 = 1) (hr : ∀ i : Nat, i < N → i ≠ 0 → Rch sc (-1) i → D.getD i 0 = allBits) (hu : ∀ i : Nat, i < N → ¬ Rch sc (-1) i → D.getD i 0 = 0) : DInv sc N pr D := by
  refine ⟨hl, h0, hu, fun i hi hri => ?_, fun i a hi ha hri hna => ?_, fun i => ?_, fun i a hi hi0 hri hst => ?_⟩
  · by_cases e : i = 0
    · subst e; rw [h0]; rfl
    · rw [hr i hi e hri, allBits_bit, decide_eq_true_iff]; omega
  · by_cases e : i = 0
    · subst e
      rw [h0]
      have : a = 0 := Classical.byContradiction fun hne => hna (.zero (by omega))
      subst this; rfl
    · rw [hr i hi e hri, allBits_bit, decide_eq_true_iff]; exact ha
  · by_cases hi : i < N
    · by_cases e : i = 0
      · subst e; rw [h0]; decide
      · by_cases hri : Rch sc (-1) i
        · rw [hr i hi e hri]; exact Nat.le_refl _
        · rw [hu i hi hri]; exact Nat.zero_le _
    · rw [List.getD_eq_getElem?_getD, List.getElem?_eq_none (by omega)]; exact Nat.zero_le _
  · rw [hr i hi hi0 hri, allBits_bit, decide_eq_true_iff]
    rcases (stepD_bit _ _ _ _).1 hst with h | h
    · exact h.1
    · omega
end

/- Sets of blocks as bits: with, both and has of the program. -/
section
open Go.ChangeShapes Go.WideShapes Go.ChangeAt Go.RowKit Go.Joins

theorem pow_lt64 {b : Nat} (hb : b < 64) : 2 ^ b < 18446744073709551616 := Nat.pow_lt_pow_right (m := b) (n := 64) (a := 2) (by decide) hb
theorem wrap_pow (b : Nat) (hb : b < 64) : IntKind.u64.wrap (2 ^ b) = ((2 ^ b : Nat) : Int) := by
  have h := pow_lt64 hb
  rw [IntKind.wrap_u64, show ((2 : Int) ^ b) = ((2 ^ b : Nat) : Int) by simp]
  generalize 2 ^ b = p at *
  omega

set_option maxHeartbeats 400000 in
theorem with_any (s b : Nat) (w : World) (hs : s < 18446744073709551616) (hb : b < 64) :
    Calls Tryz.prog 114 #[.int .u64 (s : Int), .int .i64 (b : Int)] w fun e w' => e = .returned (.int .u64 ((s ||| 2 ^ b : Nat) : Int)) ∧ w = w' := by
  have hb0 : ¬ (b : Int) < 0 := by omega
  have h1 := wrap_pow b hb
  have h2 := u64_or_nat s (2 ^ b) hs (pow_lt64 hb)
  generalize hp : 2 ^ b = p at *
  go_enter Tryz.func114, Tryz.ntmps114
  go_wp2
  go_ret
  exact ⟨rfl, rfl⟩
set_option maxHeartbeats 400000 in
theorem both_any (s t : Nat) (w : World) (hs : s < 18446744073709551616) (ht : t < 18446744073709551616) :
    Calls Tryz.prog 141 #[.int .u64 (s : Int), .int .u64 (t : Int)] w fun e w' => e = .returned (.int .u64 ((s &&& t : Nat) : Int)) ∧ w = w' := by
  have h := u64_and_nat s t hs ht
  go_enter Tryz.func141, Tryz.ntmps141
  go_wp2
  go_ret
  exact ⟨rfl, rfl⟩

theorem and_pow_ne (s b : Nat) : (((s &&& 2 ^ b : Nat) : Int) != 0) = s.testBit b := by
  rw [nat_bit, Nat.testBit_eq_decide_div_mod_eq]
  have hp := Nat.two_pow_pos b
  have h2 : s / 2 ^ b % 2 = 0 ∨ s / 2 ^ b % 2 = 1 := by omega
  rcases h2 with h2 | h2
  · rw [h2]; simp
  · rw [h2]
    generalize 2 ^ b = p at *
    simp
    omega

set_option maxHeartbeats 400000 in
theorem has_yes (s b : Nat) (w : World) (hs : s < 18446744073709551616) (hb : b < 40) :
    Calls Tryz.prog 41 #[.int .u64 (s : Int), .int .i64 (b : Int)] w fun e w' => e = .returned (.bool (s.testBit b)) ∧ w = w' := by
  have hb0 : ¬ (b : Int) < 0 := by omega
  have h1 := wrap_pow b (by omega)
  have h2 := u64_and_nat s (2 ^ b) hs (pow_lt64 (by omega))
  have h3 := and_pow_ne s b
  have h4 : isBelowB (b : Int) 40 = true := by simp [isBelowB]; omega
  generalize hp : 2 ^ b = p at *
  go_enter Tryz.func41, Tryz.ntmps41
  go_wp2_with (go_at_call 81; refine (isBlock_any _ _).mono ?_; rintro e w' ⟨rfl, rfl⟩)
  go_ret
  exact ⟨rfl, rfl⟩
set_option maxHeartbeats 400000 in
theorem has_no (s : Nat) (j : Int) (w : World) (hj : isBelowB j 40 = false) :
    Calls Tryz.prog 41 #[.int .u64 (s : Int), .int .i64 j] w fun e w' => e = .returned (.bool false) ∧ w = w' := by
  go_enter Tryz.func41, Tryz.ntmps41
  go_wp2_with (go_at_call 81; refine (isBlock_any _ _).mono ?_; rintro e w' ⟨rfl, rfl⟩)
  go_ret
  exact ⟨rfl, rfl⟩
theorem hasS_any (s : Nat) (j : Int) (w : World) (hs : s < 18446744073709551616) :
    Calls Tryz.prog 41 #[.int .u64 (s : Int), .int .i64 j] w fun e w' => e = .returned (.bool (isBelowB j 40 && s.testBit j.toNat)) ∧ w = w' := by
  cases h : isBelowB j 40
  · exact has_no s j w h
  · have hr : 0 ≤ j ∧ j < 40 := by simpa [isBelowB] using h
    obtain ⟨b, rfl⟩ : ∃ b : Nat, j = b := ⟨j.toNat, by omega⟩
    rw [Int.toNat_natCast, Bool.true_and]
    exact has_yes s b w hs (by omega)
end

/- domsByPreds of the program, and rows of sets. -/
section
open Go.ChangeShapes Go.WideShapes Go.ChangeAt Go.RowKit Go.Joins

def uv (n : Nat) : Value := .int .u64 (n : Int)

/-- The n sets of block q. -/
def UL (w : World) (q n : Nat) (D : List Nat) : Prop := D.length = n ∧ w.ownsRow q 75 1 (.slice (some ⟨q, 0, none⟩) n n) n (D.map uv)
theorem UL.cell {w : World} {q n k : Nat} {D : List Nat} (h : UL w q n D) (hk : k < n) : w.cell? ⟨q, k, none⟩ = some (.int .u64 ((D.getD k 0 : Nat) : Int)) := by
  have hlt : k < D.length := by rw [h.1]; exact hk
  rw [World.ownsRow.cellAt h.2 k (by omega), List.getElem?_map, List.getElem?_eq_getElem hlt, List.getD_eq_getElem?_getD, List.getElem?_eq_getElem hlt]; rfl
theorem UL.frozen {w : World} {q n : Nat} {D : List Nat} (h : UL w q n D) (k : Nat) : w.frozen? ⟨q, k, none⟩ = false := World.ownsRow.frozenAt h.2 k
theorem UL.set {w : World} {q n : Nat} {D : List Nat} (h : UL w q n D) (k x : Nat) : UL (w.setCell ⟨q, k, none⟩ (.int .u64 (x : Int))) q n (D.set k x) := by
  refine ⟨by simp [h.1], ?_⟩
  have := (World.ownsRow.stored h.2 k (uv x)).1
  rw [← List.map_set] at this
  exact this
theorem UL.fw {w w' : World} {q n : Nat} {D : List Nat} {P : Nat → Prop} (h : UL w q n D) (hf : Fw P w w') (hn : ¬ P q) : UL w' q n D :=
  ⟨h.1, own_fw h.2 hf fun k hk => by injection hk with hk; subst hk; exact hn⟩
theorem UL.lt {w : World} {q n : Nat} {D : List Nat} (h : UL w q n D) : q < w.heap.size := (World.ownsRow.lt h.2 q rfl).2
theorem UL.start (w : World) (n : Nat) (hm : n ≤ maxLen) : UL (w.alloc (.cells (madeCells #[.int .u64 0] n) 75)) w.heap.size n (List.replicate n 0) := by
  refine ⟨by simp, by simp, .inr ⟨w.heap.size, n, _, rfl, Nat.le_refl _, heap_alloc_new w _, Nat.le_refl _, hm, by simp [size_madeCells], ?_⟩⟩
  rw [toList_madeCells_one]
  simp [uv]
/-- The sum of the numbers that lie there. -/
def sumAt (w : World) (q n : Nat) : Nat := sumD ((List.range n).map fun k => match w.cell? ⟨q, k, none⟩ with
  | some (.int _ m) => m.toNat
  | _ => 0)
theorem UL.sum {w : World} {q n : Nat} {D : List Nat} (h : UL w q n D) : sumAt w q n = sumD D := by
  unfold sumAt
  congr 1
  apply List.ext_getElem?
  intro k
  by_cases hk : k < n
  · have hlt : k < D.length := by rw [h.1]; exact hk
    rw [List.getElem?_map, List.getElem?_range hk, Option.map_some, h.cell hk, List.getElem?_eq_getElem hlt, List.getD_eq_getElem?_getD, List.getElem?_eq_getElem hlt]; rfl
  · rw [List.getElem?_eq_none (by simp; omega), List.getElem?_eq_none (by rw [h.1]; omega)]

theorem all_lt {x : Nat} (h : x ≤ allBits) : x < 18446744073709551616 := Nat.lt_of_le_of_lt h (by decide)

set_option maxHeartbeats 1000000 in
theorem domsByPreds_any (D : List Nat) (q n : Nat) (v : Value) (ps : List Int) (w : World) (hD : UL w q n D) (hv : RI w v ps) (hps : ∀ p ∈ ps, 0 ≤ p ∧ p < (n : Int)) (hlt : ∀ i : Nat, D.getD i 0 ≤ allBits) :
    Calls Tryz.prog 115 #[.slice (some ⟨q, 0, none⟩) n n, v] w fun e w' => e = .returned (.int .u64 ((meetD D ps : Nat) : Int)) ∧ w = w' := by
  obtain ⟨hle, A, c, rfl, hx⟩ := hv
  go_enter Tryz.func115, Tryz.ntmps115
  go_wp2_with fail
  go_loopw [5, 10] (fun s i wr => ∃ k : Nat, k ≤ ps.length ∧ i = .int .i64 k ∧ s = .int .u64 ((meetD D (ps.take k) : Nat) : Int) ∧ wr = w) (fun _ i _ => ps.length - (intOf i).toNat)
  case atStart => exact ⟨0, Nat.zero_le _, rfl, rfl, rfl⟩
  case round =>
    obtain ⟨k, hk, rfl, rfl, rfl⟩ := hrel
    by_cases hkl : k < ps.length
    case neg =>
      obtain rfl : k = ps.length := by omega
      go_wp2_with fail
      go_ret
      exact ⟨by simp, rfl⟩
    have hxk : ps[k]? = some ps[k] := List.getElem?_eq_getElem hkl
    have hp := hps ps[k] (List.getElem_mem hkl)
    generalize ps[k] = p at hxk hp
    obtain ⟨b, off, rfl, hx'⟩ := hx (by rintro rfl; simp at hkl)
    have hc := hx' k _ hxk
    have ht := meetD_take (D := D) hxk
    obtain ⟨m, rfl⟩ : ∃ m : Nat, p = m := ⟨p.toNat, by omega⟩
    rw [Int.toNat_natCast] at ht
    have hm : m < n := by omega
    have hm' : (m : Int) < (n : Int) := by omega
    have hm0 : 0 ≤ (m : Int) := by omega
    have hcm := hD.cell hm
    have hl := all_lt (hlt m)
    have hml := all_lt (meetD_le D (ps.take k))
    generalize D.getD m 0 = d at ht hcm hl
    clear hx' hxk hp
    by_cases h0 : d = 0
    · subst h0
      rw [if_pos rfl] at ht
      have hne : ((((0 : Nat)) : Int) != 0) = false := rfl
      have HT := Lib.hid ht
      clear ht
      go_wp2_with fail
      go_roundw
      case rel => exact ⟨k + 1, by omega, by go_num, by rw [HT.out], trivial⟩
      case measure => simp [intOf]; omega
    · rw [if_neg h0] at ht
      have hne : ((d : Int) != 0) = true := by simp; omega
      have HT := Lib.hid ht
      clear ht h0
      generalize meetD D (ps.take k) = s at *
      go_wp2_with (first
        | (go_at_call 141; refine (both_any s d _ hml hl).mono ?_; rintro e w' ⟨rfl, rfl⟩))
      go_roundw
      case rel => exact ⟨k + 1, by omega, by go_num, by rw [HT.out], trivial⟩
      case measure => simp [intOf]; omega
end

/- comeTo: the walk in depth of the program. -/
section
open Go.ChangeShapes Go.WideShapes Go.ChangeAt Go.RowKit Go.Joins

/-- The walk's record W, its row q of those seen, its row of those finished. -/
structure CSt (w : World) (W q B N : Nat) (A : Option Addr) (c : Nat) (fin : Value) (st : List Bool × List Int) : Prop where
  hw : w.heap[W]? = some (.cells #[.slice A N c, .slice (some ⟨q, 0, none⟩) N N, fin] 177 (0, 0))
  hb : BL w q N st.1
  hf : OI w B fin st.2

/-- What the walk may turn. -/
def CP (W q : Nat) (fin : Value) (k : Nat) : Prop := k = W ∨ k = q ∨ fin.ownBlock = some k

theorem CSt.cells {w : World} {W q B N : Nat} {A : Option Addr} {c : Nat} {fin : Value} {st : List Bool × List Int} (h : CSt w W q B N A c fin st) :
    w.cell? ⟨W, 0, none⟩ = some (.slice A N c) ∧ w.cell? ⟨W, 1, none⟩ = some (.slice (some ⟨q, 0, none⟩) N N) ∧ w.cell? ⟨W, 2, none⟩ = some fin ∧ ∀ j, w.frozen? ⟨W, j, none⟩ = false :=
  ⟨cell_of_row w W 0 _ _ (0, 0) h.hw, cell_of_row w W 1 _ _ (0, 0) h.hw, cell_of_row w W 2 _ _ (0, 0) h.hw, fun j => by simp [World.frozen?, h.hw]⟩

theorem CSt.fw {w w' : World} {W q B N : Nat} {A : Option Addr} {c : Nat} {fin : Value} {st : List Bool × List Int} {P : Nat → Prop} (h : CSt w W q B N A c fin st) (hf : Fw P w w') (hn : ∀ k, CP W q fin k → ¬ P k) : CSt w' W q B N A c fin st :=
  ⟨(hf.block W (Array.getElem?_eq_some_iff.1 h.hw).1 (hn W (.inl rfl))).trans h.hw, h.hb.fw hf (hn q (.inr (.inl rfl))), h.hf.fw hf fun k hk => hn k (.inr (.inr hk))⟩

theorem CSt.seen {w : World} {W q B N : Nat} {A : Option Addr} {c : Nat} {fin : Value} {s : List Bool} {o : List Int} (h : CSt w W q B N A c fin (s, o)) (hq : q < B) (hWq : W ≠ q) (k : Nat) : CSt (w.setCell ⟨q, k, none⟩ (.bool true)) W q B N A c fin (s.set k true, o) :=
  ⟨(Below.heap_setCell w ⟨q, k, none⟩ _ W hWq).trans h.hw, h.hb.set k true, h.hf.grown (set_grown w q k _) (by
    rcases hob : fin.ownBlock with _ | kk
    · exact .inl rfl
    · refine .inr fun e => ?_
      injection e with e
      have := (h.hf.lt kk hob).1
      omega)⟩

theorem CSt.done {w w' : World} {W q B N : Nat} {A : Option Addr} {c : Nat} {fin fin' : Value} {s : List Bool} {o o' : List Int} (h : CSt w W q B N A c fin (s, o)) (hg : w.grownBy w' fin.ownBlock) (ho : OI w' B fin' o') (hqB : q < B) (hW : W < B) (hWq : W ≠ q) : CSt (w'.setCell ⟨W, 2, none⟩ fin') W q B N A c fin' (s, o') := by
  have hne : ∀ k, k < B → some k ≠ fin.ownBlock := fun k hk e => by have := (h.hf.lt k e.symm).1; omega
  have h1 := (hg.block W (Array.getElem?_eq_some_iff.1 h.hw).1 (hne W hW)).trans h.hw
  refine ⟨heap_setCell_same w' W 2 _ _ _ h1, ?_, ?_⟩
  · have hb1 : BL w' q N s := h.hb.fw (Fw.grown (P := fun k => fin.ownBlock = some k) hg fun g e _ => e) fun e => hne q hqB e.symm
    exact hb1.fw (Fw.set (P := fun k => k = W) w' rfl 2 fin') fun e => hWq e.symm
  · exact ho.grown (set_grown w' W 2 _) (by
      rcases hob : fin'.ownBlock with _ | kk
      · exact .inl rfl
      · refine .inr fun e => ?_
        injection e with e
        have := (ho.lt kk hob).1
        omega)

def ComeTo (w : World) (W q B N : Nat) (A : Option Addr) (c : Nat) (fin : Value) (st : List Bool × List Int) (e : Ending) (w' : World) : Prop :=
  ∃ v fin', e = .returned v ∧ CSt w' W q B N A c fin' st ∧ Fw (CP W q fin) w w' ∧ (fin'.ownBlock = fin.ownBlock ∨ ∃ k, fin'.ownBlock = some k ∧ w.heap.size ≤ k)

set_option maxRecDepth 10000 in
set_option maxHeartbeats 2000000 in
theorem comeTo_any (bs : List BlockD) (b0 off : Nat) (c : Nat) (Z : Zn) (W q B K : Nat) (ht : TargetsOk bs) (hn : bs.length ≤ 1000) (hK : K ≤ 1000000) (hD : ∀ b, Z.D b → b < B ∧ b ≠ W ∧ b ≠ q) (hW : W < B) (hq : q < B) (hWq : W ≠ q) :
    ∀ (n b : Nat) (w : World) (fin : Value) (st : List Bool × List Int), CSt w W q B bs.length (some ⟨b0, off, none⟩) c fin st → Row w Z 8 (EBlock w Z) (.slice (some ⟨b0, off, none⟩) bs.length c) bs → B ≤ w.heap.size → Inv bs.length K st → cf st.1 ≤ n → st.1[b]? = some false →
    Calls Tryz.prog 140 #[.pointer (some ⟨W, 0, none⟩), .int .i64 b] w (ComeTo w W q B bs.length (some ⟨b0, off, none⟩) c fin (dfs (scF bs) n b st)) := by
  intro n
  induction n with
  | zero => intro b w fin st _ _ _ _ hcf hb; have := cf_pos hb; omega
  | succ n ih =>
    intro b w fin st hst hrow hBw hinv hcf hb
    obtain ⟨s, o⟩ := st
    have hsc := Lib.hid ht.sc
    have hbN : b < bs.length := by rw [← hinv.len]; exact (List.getElem?_eq_some_iff.1 hb).1
    have hbN' : (b : Int) < (bs.length : Int) := by omega
    have hb0 : 0 ≤ (b : Int) := by omega
    have h1000 : (bs.length : Int) ≤ 1000 := by omega
    obtain ⟨c0, c1, c2, cz⟩ := hst.cells
    have q0 := hst.hb.cell hb
    have qz := hst.hb.frozen b
    have HS1 := Lib.hid (hst.seen hq hWq b)
    obtain ⟨e0, e1, e2, ez⟩ := HS1.out.cells
    have HINV1 : Hid (Inv bs.length K (s.set b true, o)) := ⟨by have := hinv.len; simpa using this, by have h1 := hinv.cap; have h2 := cf_set hb; show o.length + cf (s.set b true) ≤ K; simp only at h1 h2; omega, hinv.mem⟩
    have HCF1 : Hid (cf (s.set b true) ≤ n) := by have h2 := cf_set hb; simp only at h2 hcf; show _ ≤ _; omega
    have hxk : bs[b]? = some bs[b] := List.getElem?_eq_getElem hbN
    generalize bs[b] = x at hxk
    have HROW := Lib.hid hrow
    obtain ⟨_, A', c', he, hx⟩ := hrow
    obtain ⟨b', off', eA, hDb, hrow'⟩ := hx (by intro h; rw [h] at hbN; simp at hbN)
    injection he with he _ hcc
    subst hcc
    subst eA
    injection he with he
    injection he with he1 he2 _
    subst he1 he2
    obtain ⟨cs, hE, hcs⟩ := hrow' b x hxk
    obtain ⟨_, _, _, _, rfl, _⟩ := hE
    have hDb' := hD b0 hDb
    have c4 : (w.setCell ⟨q, b, none⟩ (.bool true)).cell? ⟨b0, off + b * 8 + 4, none⟩ = some (.int .i64 x.fin.k) := (World.cell?_setCell_other _ _ _ _ (by intro e; injection e with e1 e2; omega)).trans (hcs 4 _ rfl).1
    have c5 : (w.setCell ⟨q, b, none⟩ (.bool true)).cell? ⟨b0, off + b * 8 + 4 + 1, none⟩ = some (.int .i64 x.fin.a) := (World.cell?_setCell_other _ _ _ _ (by intro e; injection e with e1 e2; omega)).trans (hcs 5 _ rfl).1
    have c6 : (w.setCell ⟨q, b, none⟩ (.bool true)).cell? ⟨b0, off + b * 8 + 4 + 2, none⟩ = some (.int .i64 x.fin.t) := (World.cell?_setCell_other _ _ _ _ (by intro e; injection e with e1 e2; omega)).trans (hcs 6 _ rfl).1
    have c7 : (w.setCell ⟨q, b, none⟩ (.bool true)).cell? ⟨b0, off + b * 8 + 4 + 3, none⟩ = some (.int .i64 x.fin.l) := (World.cell?_setCell_other _ _ _ _ (by intro e; injection e with e1 e2; omega)).trans (hcs 7 _ rfl).1
    have HSU := Lib.hid (ht.succs hxk)
    have HST := Lib.hid hst
    have HRNG := Lib.hid (ht.sc b hbN)
    have hs1 : (w.setCell ⟨q, b, none⟩ (.bool true)).heap.size = w.heap.size := nblk_set _ _ _
    have HF1 := Lib.hid (Fw.set (P := CP W q fin) w (.inr (.inl rfl)) b (.bool true))
    clear hst hcs hx hrow' hxk hb hcf hinv c2 e2
    go_enter Tryz.func140, Tryz.ntmps140
    go_wp2_with fail
    refine (SuccsOf_any _ _ _ _ _).mono ?_
    rintro e w2 ⟨r, rfl, hr, hb2⟩
    have HS2 : Hid (CSt w2 W q B bs.length (some ⟨b0, off, none⟩) c fin (s.set b true, o)) := HS1.out.fw (Fw.below (P := fun _ => False) hb2) (fun _ _ h => h)
    have HF2 : Hid (Fw (CP W q fin) w w2) := HF1.out.trans (Fw.below (P := fun _ => False) hb2) (fun _ _ h => h.elim)
    rw [HSU.out, hs1] at hr
    obtain ⟨us, hus⟩ : ∃ us, us = scF bs b := ⟨_, rfl⟩
    rw [← hus] at hr HRNG
    have HUS := Lib.hid hus
    have hul := hr.ri.1
    have hz2 := HF2.out.size
    have HU2 := Lib.hid hr
    obtain ⟨_, A5, c5', rfl, _⟩ := hr.ri
    clear hb2 hr hus e0 e1 ez c4 c5 c6 c7 c0 c1 q0 qz cz hs1 HS1 HF1
    go_wp2_with fail
    go_loopw [22] (fun i wr => ∃ (m : Nat) (fin' : Value), m ≤ us.length ∧ i = .int .i64 m ∧ Hid (CSt wr W q B bs.length (some ⟨b0, off, none⟩) c fin' (dlist (scF bs) n (us.take m) (s.set b true, o))) ∧ Hid (Fw (CP W q fin) w wr) ∧ Hid (OI wr w.heap.size (.slice A5 us.length c5') us) ∧ Hid (fin'.ownBlock = fin.ownBlock ∨ ∃ k, fin'.ownBlock = some k ∧ w2.heap.size ≤ k) ∧ w2.heap.size ≤ wr.heap.size) (fun i _ => us.length - (intOf i).toNat)
    case atStart => exact ⟨0, fin, Nat.zero_le _, rfl, HS2.out, HF2.out, HU2.out, .inl rfl, Nat.le_refl _⟩
    case round =>
      obtain ⟨m, fin', hm, rfl, HS, HF, HU, HA, hsz⟩ := hrel
      have HINV : Hid (Inv bs.length K (dlist (scF bs) n (us.take m) (s.set b true, o)) ∧ cf (dlist (scF bs) n (us.take m) (s.set b true, o)).1 ≤ n) := by
        have h := dlist_inv hsc.out n (us.take m) (s.set b true, o) (fun t ht => HRNG.out t (List.mem_of_mem_take ht)) HINV1.out
        exact ⟨h.1, Nat.le_trans h.2.1 HCF1.out⟩
      by_cases hml : m < us.length
      case neg =>
        obtain rfl : m = us.length := by omega
        have HDF : Hid (dfs (scF bs) (n + 1) b (s, o) = ((dlist (scF bs) n (us.take us.length) (s.set b true, o)).1, (dlist (scF bs) n (us.take us.length) (s.set b true, o)).2 ++ [(b : Int)])) := by
          rw [Hid, List.take_length, HUS.out, dfs_succ, Int.toNat_natCast]
        generalize dlist (scF bs) n (us.take us.length) (s.set b true, o) = st' at HS HINV HDF
        obtain ⟨s', o'⟩ := st'
        obtain ⟨d0, d1, d2, dz⟩ := HS.out.cells
        have hol : o'.length ≤ 1000000 := by have := HINV.out.1.cap; simp only at this; omega
        have HO := Lib.hid HS.out.hf
        have hWr : W < wr.heap.size := by omega
        have hneW : some W ≠ fin'.ownBlock := fun e => by have := (HO.out.lt W e.symm).1; omega
        have hlt' := HO.out.lt
        have HLT := Lib.hid hlt'
        clear hlt'
        have hBr : B ≤ wr.heap.size := by omega
        obtain ⟨_, A6, c6, rfl, _⟩ := HS.out.hf.ri
        clear d0 d1
        go_wp2_with (at_builtin; go_must (refine wpList_append_int rfl (.tmp 42) (.tmp 44) rfl B _ o' b wr rfl HO.out rfl (by omega) (by omega) ?_; intro v' w9 hown9 hg9 hat9; have HO9 := Lib.hid hown9; have HG9 := Lib.hid hg9; have HA9 := Lib.hid hat9; obtain ⟨_, A8, q8, rfl, _⟩ := hown9.ri; have x2 := (World.cell?_of_block (a := ⟨W, 2, none⟩) (hg9.block _ hWr hneW)).trans d2; have xf := (World.frozen?_of_block (a := ⟨W, 2, none⟩) (hg9.block _ hWr hneW)).trans (dz 2); clear hown9 hg9 hat9))
        go_end0
        have el : (o' ++ [(b : Int)]).length = o'.length + 1 := by simp
        have HA9' := HA9.out
        have HS9 := HS.out.done HG9.out HO9.out hq hW hWq
        rw [el] at HS9 HA9'
        refine ⟨_, .slice A8 (o'.length + 1) q8, rfl, ?_, ?_, ?_⟩
        · rw [HDF.out]
          exact HS9
        · refine (HF.out.trans (Fw.grown (P := CP W q (.slice A6 o'.length c6)) HG9.out fun g e _ => .inr (.inr e)) ?_).trans (Fw.set (P := fun k => k = W) w9 rfl 2 _) fun i _ e => .inl e
          intro i hi hP
          rcases hP with e | e | e
          · exact .inl e
          · exact .inr (.inl e)
          · rcases HA.out with h | ⟨k, h, hk⟩
            · exact .inr (.inr (h ▸ e))
            · rw [h] at e
              injection e with e
              omega
        · rcases HA9' with h | ⟨k, h, hk⟩
          · rcases HA.out with h' | ⟨k, h', hk⟩
            · exact .inl (h.trans h')
            · exact .inr ⟨k, h.trans h', by omega⟩
          · exact .inr ⟨k, h, by omega⟩
      have hum : us[m]? = some us[m] := List.getElem?_eq_getElem hml
      have hur := HRNG.out us[m] (List.getElem_mem hml)
      generalize us[m] = u at hum hur
      obtain ⟨k2, rfl⟩ : ∃ k2 : Nat, u = k2 := ⟨u.toNat, by omega⟩
      have hk2 : k2 < bs.length := by omega
      have hk2' : (k2 : Int) < (bs.length : Int) := by omega
      have hk20 : 0 ≤ (k2 : Int) := by omega
      obtain ⟨_, A5', c5'', he5, hux⟩ := HU.out.ri
      injection he5 with q1 _ q2
      subst q1 q2
      obtain ⟨b', off', rfl, hcell⟩ := hux (by rintro rfl; simp at hml)
      have p0 := hcell m _ hum
      have HDT : Hid (dlist (scF bs) n (us.take (m + 1)) (s.set b true, o) = dstep (scF bs) n (dlist (scF bs) n (us.take m) (s.set b true, o)) k2) := dlist_take _ _ hum _
      generalize dlist (scF bs) n (us.take m) (s.set b true, o) = st' at HS HINV HDT
      obtain ⟨s', o'⟩ := st'
      have hk2l : k2 < s'.length := by have := HINV.out.1.len; simp only at this; omega
      have hs' : s'[k2]? = some s'[k2] := List.getElem?_eq_getElem hk2l
      generalize s'[k2] = bb at hs'
      obtain ⟨d0, d1, d2, dz⟩ := HS.out.cells
      have g0 := HS.out.hb.cell hs'
      have Hs' := Lib.hid hs'
      have hsa := seenAt_of hs'
      clear hcell hux hum hur d0 d2 dz hs'
      cases bb
      case true =>
        have HDE : Hid (dlist (scF bs) n (us.take (m + 1)) (s.set b true, o) = (s', o')) := by rw [Hid, HDT.out, dstep, hsa, if_pos rfl]
        clear hsa
        go_wp2_with fail
        go_roundw
        case rel => exact ⟨m + 1, fin', by omega, by go_num, by rw [HDE.out]; exact HS.out, HF.out, HU.out, HA.out, hsz⟩
        case measure => simp [intOf]; omega
      have HDE : Hid (dlist (scF bs) n (us.take (m + 1)) (s.set b true, o) = dfs (scF bs) n k2 (s', o')) := by rw [Hid, HDT.out, dstep, hsa, if_neg (by decide)]
      have HR := Lib.hid (HROW.out.keep (Z' := Z) ⟨fun _ h => h, fun h => h, fun b1 hb1 => HF.out.block b1 (by have := (hD b1 hb1).1; omega) (by
        have h1 := hD b1 hb1
        rintro (e | e | e)
        · exact h1.2.1 e
        · exact h1.2.2 e
        · have := (HST.out.hf.lt b1 e).1; omega)⟩ fun _ _ h => h.keep ⟨fun _ h => h, fun h => h, fun b1 hb1 => HF.out.block b1 (by have := (hD b1 hb1).1; omega) (by
        have h1 := hD b1 hb1
        rintro (e | e | e)
        · exact h1.2.1 e
        · exact h1.2.2 e
        · have := (HST.out.hf.lt b1 e).1; omega)⟩)
      clear hsa
      go_wp2_with fail
      refine (ih k2 _ fin' (s', o') HS.out HR.out (by omega) HINV.out.1 HINV.out.2 Hs'.out).mono ?_
      rintro e w3 ⟨_, fin3, rfl, hS3, hF3, hA3⟩
      have hz3 := hF3.size
      have HS3 := Lib.hid hS3
      have HF3 : Hid (Fw (CP W q fin) w w3) := HF.out.trans hF3 (by
        rintro i hi (e | e | e)
        · exact .inl e
        · exact .inr (.inl e)
        · rcases HA.out with h | ⟨k, h, hk⟩
          · exact .inr (.inr (h ▸ e))
          · rw [h] at e
            injection e with e
            omega)
      have HU3 : Hid (OI w3 w.heap.size (.slice (some ⟨b', off', none⟩) us.length c5') us) := HU.out.fw hF3 (by
        intro k hk
        have h1 := HU.out.lt k hk
        have h2 := (HU2.out.lt k hk).2
        rintro (e | e | e)
        · omega
        · omega
        · rcases HA.out with h | ⟨k', h, hk'⟩
          · have := (HST.out.hf.lt k (h ▸ e)).2
            omega
          · rw [h] at e
            injection e with e
            omega)
      have HA3 : Hid (fin3.ownBlock = fin.ownBlock ∨ ∃ k, fin3.ownBlock = some k ∧ w2.heap.size ≤ k) := by
        rcases hA3 with h | ⟨k, h, hk⟩
        · rcases HA.out with h' | ⟨k, h', hk⟩
          · exact .inl (h.trans h')
          · exact .inr ⟨k, h.trans h', hk⟩
        · exact .inr ⟨k, h, by omega⟩
      clear hS3 hF3 hA3 p0 g0 d1
      go_wp2_with fail
      go_roundw
      case rel => exact ⟨m + 1, fin3, by omega, by go_num, by rw [HDE.out]; exact HS3.out, HF3.out, HU3.out, HA3.out, by omega⟩
      case measure => simp [intOf]; omega
end

/- walkFromStart and Reached of the program. -/
section
open Go.ChangeShapes Go.WideShapes Go.ChangeAt Go.RowKit Go.Joins

theorem info_boolr : (Tryz.prog.info? 4).map (fun i => (i.zero, i.size, i.bytes)) = some (some (.bool false), 1, 1) := by kernel_rfl

def GivesWalk (bs : List BlockD) (v : Value) (w : World) (e : Ending) (w' : World) : Prop :=
  ∃ q fin, e = .returned (.agg #[v, .slice (some ⟨q, 0, none⟩) bs.length bs.length, fin]) ∧ BL w' q bs.length (dfs0 (scF bs) bs.length).1 ∧ OI w' w.heap.size fin (dfs0 (scF bs) bs.length).2 ∧ w.heap.size ≤ q ∧ Below w.heap.size w w'

set_option maxRecDepth 10000 in
set_option maxHeartbeats 2000000 in
theorem walkFromStart_any (bs : List BlockD) (v : Value) (w : World) (Z : Zn) (hv : Row w Z 8 (EBlock w Z) v bs) (hD : ∀ b, Z.D b → b < w.heap.size) (ht : TargetsOk bs) (h1 : 1 ≤ bs.length) (hn : bs.length ≤ 1000) :
    Calls Tryz.prog 112 #[v] w (GivesWalk bs v w) := by
  have HV := Lib.hid hv
  obtain ⟨_, A, c, rfl, hx⟩ := hv
  obtain ⟨b0, off, rfl, hDb, _⟩ := hx (by intro h; rw [h] at h1; simp at h1)
  clear hx
  obtain ⟨i0, hi, hz0, hz1, hz2⟩ := info_parts info_boolr
  have hmk := fun W => run_make_rowN (P := Tryz.prog) 174 4 i0 _ Tryz.underlying174 hi hz0 .i64 .i64 bs.length bs.length (Nat.le_refl _) (by rw [hz2]; omega) (by omega) W
  rw [hz1] at hmk
  clear hi hz0 hz1 hz2
  obtain ⟨w3, hw3⟩ : ∃ w3, w3 = (((w.alloc (.cells #[.slice none 0 0, .slice none 0 0, .slice none 0 0] 177)).alloc (.cells (madeCells #[.bool false] bs.length) 4)).alloc (.cells #[.slice (some ⟨b0, off, none⟩) bs.length c, .slice (some ⟨w.heap.size + 1, 0, none⟩) bs.length bs.length, .slice none 0 0] 177)) := ⟨_, rfl⟩
  have hz3 : w3.heap.size = w.heap.size + 1 + 1 + 1 := by rw [hw3]; simp
  have HB3 : Hid (Below w.heap.size w w3) := by rw [hw3]; exact (((Below.refl _ _).alloc (Nat.le_refl _) _).alloc (by simp) _).alloc (by simp; omega) _
  have HR0 : Hid (w3.heap[w.heap.size]? = some (.cells #[.slice none 0 0, .slice none 0 0, .slice none 0 0] 177 (0, 0))) := by
    rw [hw3, Hid, Below.heap_alloc _ _ _ (by simp; omega), Below.heap_alloc _ _ _ (by simp)]
    exact heap_alloc_new w _
  have HS : Hid (CSt w3 (w.heap.size + 1 + 1) (w.heap.size + 1) (w.heap.size + 1 + 1 + 1) bs.length (some ⟨b0, off, none⟩) c (.slice none 0 0) (List.replicate bs.length false, [])) := by
    rw [hw3]
    have hs1 : (w.alloc (.cells #[.slice none 0 0, .slice none 0 0, .slice none 0 0] 177)).heap.size = w.heap.size + 1 := by simp
    have hs2 : ((w.alloc (.cells #[.slice none 0 0, .slice none 0 0, .slice none 0 0] 177)).alloc (.cells (madeCells #[.bool false] bs.length) 4)).heap.size = w.heap.size + 1 + 1 := by simp
    have hb := BL.start (w.alloc (.cells #[.slice none 0 0, .slice none 0 0, .slice none 0 0] 177)) bs.length (by rw [maxLen_is]; omega)
    rw [hs1] at hb
    refine ⟨?_, hb.fw (Fw.alloc (fun _ => False) _ _) (fun h => h), World.ownsRow_nil _ _ _ _⟩
    have := heap_alloc_new ((w.alloc (.cells #[.slice none 0 0, .slice none 0 0, .slice none 0 0] 177)).alloc (.cells (madeCells #[.bool false] bs.length) 4)) (.cells #[.slice (some ⟨b0, off, none⟩) bs.length c, .slice (some ⟨w.heap.size + 1, 0, none⟩) bs.length bs.length, .slice none 0 0] 177)
    rw [hs2] at this
    exact this
  have HV3 := Lib.hid (HV.out.keep (Kept.below HB3.out hD) fun _ _ h => h.keep (Kept.below HB3.out hD))
  have HW3 := Lib.hid hw3
  clear hw3
  go_enter Tryz.func112, Tryz.ntmps112
  go_wp2_with fail
  rw [← HW3.out]
  refine (comeTo_any bs b0 off c Z (w.heap.size + 1 + 1) (w.heap.size + 1) (w.heap.size + 1 + 1 + 1) bs.length ht hn (by omega) (fun b hb => by have := hD b hb; omega) (by omega) (by omega) (by omega) bs.length 0 w3 (.slice none 0 0) (List.replicate bs.length false, []) HS.out HV3.out (by omega) (inv0 _) (by show cf (List.replicate bs.length false) ≤ bs.length; rw [cf_replicate]; omega) (get_replicate h1)).mono ?_
  rintro e w4 ⟨_, fin4, rfl, hS4, hF4, -⟩
  have hz4 := hF4.size
  have HS4 : Hid (CSt w4 (w.heap.size + 1 + 1) (w.heap.size + 1) (w.heap.size + 1 + 1 + 1) bs.length (some ⟨b0, off, none⟩) c fin4 (dfs0 (scF bs) bs.length)) := hS4
  have HB4 : Hid (Below w.heap.size w w4) := HB3.out.trans (hF4.toBelow (by omega) (by rintro k hk (e | e | e) <;> first | omega | cases e))
  have HR4 := (hF4.block w.heap.size (by omega) (by rintro (e | e | e) <;> first | omega | cases e)).trans HR0.out
  have r0 : w4.cell? ⟨w.heap.size, 0, none⟩ = some (.slice none 0 0) := cell_of_row w4 _ 0 _ _ (0, 0) HR4
  have r1 : w4.cell? ⟨w.heap.size, 1, none⟩ = some (.slice none 0 0) := cell_of_row w4 _ 1 _ _ (0, 0) HR4
  have r2 : w4.cell? ⟨w.heap.size, 2, none⟩ = some (.slice none 0 0) := cell_of_row w4 _ 2 _ _ (0, 0) HR4
  have rz : ∀ j, w4.frozen? ⟨w.heap.size, j, none⟩ = false := fun j => by simp [World.frozen?, HR4]
  have rz0 := rz 0
  have rz1 := rz 1
  have rz2 := rz 2
  obtain ⟨d0, d1, d2, _⟩ := HS4.out.cells
  obtain ⟨_, A4, c4, rfl, _⟩ := HS4.out.hf.ri
  clear hS4 hF4 HR4 rz
  go_wp2_with fail
  refine bodyPost_ret (v := .agg #[.slice (some ⟨b0, off, none⟩) bs.length c, .slice (some ⟨w.heap.size + 1, 0, none⟩) bs.length bs.length, .slice A4 (dfs0 (scF bs) bs.length).2.length c4]) (by simp [results, Tryz.results112, go_sem, r0, r1, r2]) rfl ⟨_, _, rfl, ?_, ?_, by omega, ?_⟩
  · exact ((HS4.out.hb.fw (Fw.set (P := fun k => k = w.heap.size) w4 rfl 0 _) (by omega)).fw (Fw.set (P := fun k => k = w.heap.size) _ rfl 1 _) (by omega)).fw (Fw.set (P := fun k => k = w.heap.size) _ rfl 2 _) (by omega)
  · have hlo := fun k hk => (HS4.out.hf.lt k hk).1
    exact World.ownsRow.mono (((HS4.out.hf.fw (Fw.set (P := fun k => k = w.heap.size) w4 rfl 0 _) (fun k hk => by have := hlo k hk; omega)).fw (Fw.set (P := fun k => k = w.heap.size) _ rfl 1 _) (fun k hk => by have := hlo k hk; omega)).fw (Fw.set (P := fun k => k = w.heap.size) _ rfl 2 _) (fun k hk => by have := hlo k hk; omega)) (by omega)
  · exact ((HB4.out.setCell (Nat.le_refl _) _).setCell (Nat.le_refl _) _).setCell (Nat.le_refl _) _
end

/- slices.Reverse at a row of the call's own; the model's loop that builds the same list. -/
section
open Go.ChangeShapes Go.WideShapes Go.ChangeAt Go.RowKit Go.Joins

/-- The first i and the last i have changed their places. -/
def revK (xs : List Int) (i : Nat) : List Int := (List.range xs.length).map fun k => if k < i ∨ xs.length - i ≤ k then xs.getD (xs.length - 1 - k) 0 else xs.getD k 0
theorem revK_len (xs : List Int) (i : Nat) : (revK xs i).length = xs.length := by simp [revK]
theorem revK_get (xs : List Int) (i : Nat) {k : Nat} (hk : k < xs.length) : (revK xs i)[k]? = some (if k < i ∨ xs.length - i ≤ k then xs.getD (xs.length - 1 - k) 0 else xs.getD k 0) := by simp [revK, hk]
theorem getD_some {xs : List Int} {k : Nat} (hk : k < xs.length) : xs[k]? = some (xs.getD k 0) := by
  rw [List.getD_eq_getElem?_getD, List.getElem?_eq_getElem hk]; rfl
theorem revK_zero (xs : List Int) : revK xs 0 = xs := by
  apply List.ext_getElem?
  intro k
  by_cases hk : k < xs.length
  · rw [revK_get xs 0 hk, if_neg (by omega), getD_some hk]
  · rw [List.getElem?_eq_none (by rw [revK_len]; omega), List.getElem?_eq_none (by omega)]
theorem revK_end (xs : List Int) {i : Nat} (hi : xs.length ≤ 2 * i + 1) : revK xs i = xs.reverse := by
  apply List.ext_getElem?
  intro k
  by_cases hk : k < xs.length
  · rw [revK_get xs i hk, List.getElem?_reverse hk, getD_some (by omega)]
    split
    · rfl
    · rename_i h
      have : k = xs.length - 1 - k := by omega
      rw [← this]
  · rw [List.getElem?_eq_none (by rw [revK_len]; omega), List.getElem?_eq_none (by simp; omega)]
theorem revK_step (xs : List Int) {i : Nat} (hi : 2 * i + 1 < xs.length) :
    (((revK xs i).map iv).set i (iv (xs.getD (xs.length - 1 - i) 0))).set (xs.length - 1 - i) (iv (xs.getD i 0)) = (revK xs (i + 1)).map iv := by
  apply List.ext_getElem?
  intro k
  have hl : ((revK xs i).map iv).length = xs.length := by simp [revK_len]
  rw [List.getElem?_set, List.length_set, hl, List.getElem?_set, hl, List.getElem?_map, List.getElem?_map]
  by_cases hk : k < xs.length
  · rw [revK_get xs i hk, revK_get xs (i + 1) hk]
    by_cases e1 : xs.length - 1 - i = k
    · subst e1
      rw [if_pos rfl, if_pos (by omega), if_pos (by omega), Option.map_some]
      congr 3; omega
    · rw [if_neg e1]
      by_cases e2 : i = k
      · subst e2
        rw [if_pos rfl, if_pos (by omega), if_pos (by omega)]; rfl
      · rw [if_neg e2]
        by_cases h : k < i ∨ xs.length - i ≤ k
        · rw [if_pos h, if_pos (by omega)]
        · rw [if_neg h, if_neg (by omega)]
  · rw [List.getElem?_eq_none (l := revK xs i) (by rw [revK_len]; omega), List.getElem?_eq_none (l := revK xs (i + 1)) (by rw [revK_len]; omega), if_neg (by omega), if_neg (by omega)]

theorem grown_drew {a b : World} {r : Option Nat} (h : a.grownBy b r) : a.grownBy b.drew r := ⟨h.os, h.tape, h.output, h.size, h.block⟩

set_option maxHeartbeats 400000 in
theorem Reverse_any (B : Nat) (v : Value) (xs : List Int) (w : World) (hv : OI w B v xs) :
    Calls Tryz.prog 113 #[v] w fun e w' => (∃ u, e = .returned u) ∧ OI w' B v xs.reverse ∧ w.grownBy w' v.ownBlock := by
  have hlen := hv.ri.1
  by_cases h0 : xs.length = 0
  · obtain rfl := List.length_eq_zero_iff.1 h0
    obtain ⟨_, A, c, rfl, _⟩ := hv.ri
    simp only [List.length_nil] at *
    go_enter Tryz.func113, Tryz.ntmps113
    go_wp2
    go_loopw [2, 3] (fun i q wr => i = .int .i64 0 ∧ q = .int .i64 (-1) ∧ wr = w) (fun _ _ _ => 0)
    case atStart => exact ⟨rfl, rfl, rfl⟩
    case round =>
      obtain ⟨rfl, rfl, rfl⟩ := hrel
      go_wp2
      go_end0
      exact ⟨⟨_, rfl⟩, hv, World.grownBy.refl _ _⟩
  · obtain ⟨g, cap, rfl, hBg, hg⟩ := World.ownsRow.form hv (by omega)
    have HV := Lib.hid hv
    clear hv
    have hpos : 0 < xs.length := by omega
    clear h0
    go_enter Tryz.func113, Tryz.ntmps113
    go_wp2
    go_loopw [2, 3] (fun i q wr => ∃ (k : Nat) (jz : Int), k ≤ xs.length ∧ i = .int .i64 k ∧ q = .int .i64 jz ∧ jz = (xs.length : Int) - 1 - (k : Int) ∧ Hid (wr.ownsRow B 2 1 (.slice (some ⟨g, 0, none⟩) xs.length cap) xs.length ((revK xs k).map iv)) ∧ Hid (w.grownBy wr (some g))) (fun i _ _ => xs.length - (intOf i).toNat)
    case atStart => exact ⟨0, _, Nat.zero_le _, rfl, rfl, by omega, (by rw [revK_zero]; exact HV.out), World.grownBy.refl _ _⟩
    case round =>
      obtain ⟨k, jz, hk, rfl, rfl, hjz, HO, HG⟩ := hrel
      have HJ := Lib.hid hjz
      by_cases hlt : 2 * k + 1 < xs.length
      · obtain ⟨jn, rfl⟩ : ∃ jn : Nat, jz = jn := ⟨jz.toNat, by omega⟩
        have hjn : jn = xs.length - 1 - k := by omega
        have h1 : (k : Int) < (jn : Int) := by omega
        have h2 : (jn : Int) < (xs.length : Int) := by omega
        have h3 : 0 ≤ (k : Int) := by omega
        have h4 : (k : Int) < (xs.length : Int) := by omega
        have h5 : 0 ≤ (jn : Int) := by omega
        have hci : wr.cell? ⟨g, k, none⟩ = some (.int .i64 (xs.getD k 0)) := by
          rw [World.ownsRow.cellAt HO.out k (by omega), List.getElem?_map, revK_get xs k (by omega), if_neg (by omega)]; rfl
        have hcj : wr.cell? ⟨g, jn, none⟩ = some (.int .i64 (xs.getD jn 0)) := by
          rw [World.ownsRow.cellAt HO.out jn (by omega), List.getElem?_map, revK_get xs k (by omega), if_neg (by omega)]; rfl
        have hfi : wr.frozen? ⟨g, k, none⟩ = false := World.ownsRow.frozenAt HO.out k
        have hfj : wr.frozen? ⟨g, jn, none⟩ = false := World.ownsRow.frozenAt HO.out jn
        have HJN := Lib.hid hjn
        generalize hx : xs.getD k 0 = x at *
        generalize hy : xs.getD jn 0 = y at *
        have HX := Lib.hid hx
        have HY := Lib.hid hy
        clear hjz hjn hx hy
        go_wp2
        go_region
        go_wp2
        go_roundw
        case rel =>
          refine ⟨k + 1, (jn : Int) - 1, by omega, by go_num, rfl, by have := HJN.out; omega, ?_, ?_⟩
          · have h := (World.ownsRow.stored (World.ownsRow.stored HO.out k (iv y)).1 jn (iv x)).1
            have hs := revK_step xs (i := k) (by have := HJN.out; omega)
            rw [← HJN.out, HX.out, HY.out] at hs
            rw [hs] at h
            exact h
          · exact grown_drew (World.grownBy.trans (World.grownBy.trans HG.out (World.ownsRow.stored HO.out k (iv y)).2) (World.ownsRow.stored (World.ownsRow.stored HO.out k (iv y)).1 jn (iv x)).2)
        case measure => simp [intOf]; omega
      · have hge : jz ≤ (k : Int) := by omega
        clear hjz
        go_wp2
        go_end0
        refine ⟨⟨_, rfl⟩, ?_, HG.out⟩
        have h := HO.out
        rw [revK_end xs (by omega)] at h
        unfold OI
        rw [List.length_reverse]
        exact h
end

/- domsOfAll of the program: the sets of all blocks. -/
section
open Go.ChangeShapes Go.WideShapes Go.ChangeAt Go.RowKit Go.Joins

/-- All that are in the list have all bits. -/
def markD (L : List Int) (D : List Nat) : List Nat := L.foldl (fun D x => D.set x.toNat allBits) D
theorem markD_take {L : List Int} {k : Nat} {x : Int} (h : L[k]? = some x) (D : List Nat) : markD (L.take (k + 1)) D = (markD (L.take k) D).set x.toNat allBits := by
  unfold markD
  rw [List.take_add_one, h, Option.toList_some, List.foldl_append]; rfl
theorem markD_len (L : List Int) : ∀ D : List Nat, (markD L D).length = D.length := by
  induction L with
  | nil => intro D; rfl
  | cons x L ih => intro D; show (markD L (D.set x.toNat allBits)).length = _; rw [ih]; simp
theorem markD_get : ∀ (L : List Int) (D : List Nat) (i : Nat), (∀ x ∈ L, 0 ≤ x) → i < D.length → (markD L D).getD i 0 = if (i : Int) ∈ L then allBits else D.getD i 0
  | [], D, i, _, _ => by simp [markD]
  | x :: L, D, i, h0, hi => by
    show (markD L (D.set x.toNat allBits)).getD i 0 = _
    rw [markD_get L _ i (fun y hy => h0 y (by simp [hy])) (by simpa using hi)]
    have hx := h0 x (by simp)
    by_cases e : x.toNat = i
    · have : (i : Int) = x := by omega
      subst e
      rw [getD_set_same hi, if_pos (show ((x.toNat : Nat) : Int) ∈ x :: L by rw [this]; simp)]
      split <;> rfl
    · rw [getD_set_other e]
      have : (i : Int) ∈ x :: L ↔ (i : Int) ∈ L := by
        rw [List.mem_cons]
        constructor
        · rintro (h | h)
          · omega
          · exact h
        · exact .inr
      by_cases hm : (i : Int) ∈ L
      · rw [if_pos hm, if_pos (this.2 hm)]
      · rw [if_neg hm, if_neg (fun h => hm (this.1 h))]

theorem isPreds_of {f : FunD} : IsPreds (scF f.blocks) f.blocks.length fun j => predsF f j := fun j p hj => by
  constructor
  · intro h
    obtain ⟨m, x, rfl, hx, ht⟩ := of_mem_predsF h
    exact ⟨m, rfl, (List.getElem?_eq_some_iff.1 hx).1, by rw [scF_at hx]; exact ht⟩
  · rintro ⟨m, rfl, hm, ht⟩
    have hx : f.blocks[m]? = some f.blocks[m] := List.getElem?_eq_getElem hm
    rw [scF_at hx] at ht
    exact mem_predsF hx ht

/-- The sets of the blocks, as they should be. -/
def DomsD (f : FunD) (D : List Nat) : Prop := DInv (scF f.blocks) f.blocks.length (fun j => predsF f j) D ∧ ∀ b : Nat, b < f.blocks.length → b ≠ 0 → Rch (scF f.blocks) (-1) b → stepD D (predsF f b) b = D.getD b 0
def GivesDoms (f : FunD) (w : World) (e : Ending) (w' : World) : Prop := ∃ q D, e = .returned (.slice (some ⟨q, 0, none⟩) f.blocks.length f.blocks.length) ∧ UL w' q f.blocks.length D ∧ w.heap.size ≤ q ∧ DomsD f D ∧ Below w.heap.size w w'

theorem info_sets : (Tryz.prog.info? 75).map (fun i => (i.zero, i.size, i.bytes)) = some (some (.int .u64 0), 1, 8) := by kernel_rfl

/-- How the round over the blocks has gone so far. -/
def InRound (f : FunD) (T : List Int) (D D' : List Nat) (k : Nat) (c : Bool) : Prop :=
  DInv (scF f.blocks) f.blocks.length (fun j => predsF f j) D' ∧ sumD D' ≤ sumD D ∧ (c = true → sumD D' < sumD D) ∧ (c = false → D' = D ∧ ∀ j x, j < k → T[j]? = some x → stepD D (predsF f x) x.toNat = D.getD x.toNat 0)

theorem InRound.go {f : FunD} (h40 : f.blocks.length ≤ 40) {T : List Int} {D D' : List Nat} {k m : Nat} {c : Bool} (h : InRound f T D D' k c) (hm : m < f.blocks.length) (hm0 : m ≠ 0) (hr : Rch (scF f.blocks) (-1) m) (hT : T[k]? = some (m : Int)) :
    InRound f T D (D'.set m (stepD D' (predsF f m) m)) (k + 1) (c || decide (stepD D' (predsF f m) m ≠ D'.getD m 0)) := by
  obtain ⟨h1, h2, h3, h4⟩ := h
  have hs := h1.sum hm hm0 hr
  refine ⟨h1.step h40 isPreds_of hm hm0 hr, Nat.le_trans hs.1 h2, fun hc => ?_, fun hc => ?_⟩
  · rw [Bool.or_eq_true, decide_eq_true_iff] at hc
    rcases hc with hc | hc
    · exact Nat.lt_of_le_of_lt hs.1 (h3 hc)
    · exact Nat.lt_of_lt_of_le (hs.2 hc) h2
  · rw [Bool.or_eq_false_iff, decide_eq_false_iff_not, Decidable.not_not] at hc
    obtain ⟨rfl, h5⟩ := h4 hc.1
    have hl : m < D'.length := by rw [h1.len]; exact hm
    refine ⟨?_, fun j x hj hx => ?_⟩
    · rw [hc.2, List.getD_eq_getElem?_getD, List.getElem?_eq_getElem hl]
      exact List.set_getElem_self hl
    · by_cases e : j = k
      · subst e
        rw [hT] at hx
        injection hx with hx
        subst hx
        rw [Int.toNat_natCast]; exact hc.2
      · exact h5 j x (by omega) hx
end

/- The fields of a walk. -/
section
open Go.ChangeShapes Go.WideShapes Go.ChangeAt Go.RowKit Go.Joins

theorem field_walk1 (A0 A1 A2 : Option Addr) (n0 c0 n1 c1 n2 c2 : Nat) (w : World) : (Instr.field 177 (.agg #[.slice A0 n0 c0, .slice A1 n1 c1, .slice A2 n2 c2]) 1).run Tryz.prog w = .ok (.slice A1 n1 c1) w := by kernel_rfl
theorem field_walk2 (A0 A1 A2 : Option Addr) (n0 c0 n1 c1 n2 c2 : Nat) (w : World) : (Instr.field 177 (.agg #[.slice A0 n0 c0, .slice A1 n1 c1, .slice A2 n2 c2]) 2).run Tryz.prog w = .ok (.slice A2 n2 c2) w := by kernel_rfl
end

end Go.Proofs.YtnjmlhokkhkaaaaGreatDoor
