/- Dominance by sets of blocks that shrink till nothing changes: lists of numbers alone. -/
import Derived.Test.YteikpekffgifoaaDoorDfs2
namespace Go.Proofs.YteikpekffgifoaaDoor

/-- All blocks, as bits. -/
def allBits : Nat := 1099511627775
theorem allBits_bit (a : Nat) : allBits.testBit a = decide (a < 40) := Nat.testBit_two_pow_sub_one 40 a
theorem bit_zero (a : Nat) : (0 : Nat).testBit a = false := Nat.zero_testBit a
theorem bit_pow (b a : Nat) : (2 ^ b).testBit a = decide (b = a) := Nat.testBit_two_pow
theorem le_of_sub {x y : Nat} (h : ∀ a, x.testBit a = true → y.testBit a = true) : x ≤ y := by
  have e : x &&& y = x := by
    apply Nat.eq_of_testBit_eq
    intro a
    rw [Nat.testBit_and]
    cases hx : x.testBit a
    · rfl
    · rw [h a hx]; rfl
  rw [← e]
  exact Nat.and_le_right

/-- What all preds have, of those that have any. -/
def meetD (D : List Nat) (ps : List Int) : Nat := ps.foldl (fun s p => if D.getD p.toNat 0 = 0 then s else s &&& D.getD p.toNat 0) allBits
theorem meetD_take {D : List Nat} {ps : List Int} {k : Nat} {p : Int} (h : ps[k]? = some p) : meetD D (ps.take (k + 1)) = if D.getD p.toNat 0 = 0 then meetD D (ps.take k) else meetD D (ps.take k) &&& D.getD p.toNat 0 := by
  unfold meetD
  rw [List.take_add_one, h, Option.toList_some, List.foldl_append]; rfl
theorem foldl_bit (D : List Nat) : ∀ (ps : List Int) (s a : Nat), (ps.foldl (fun s p => if D.getD p.toNat 0 = 0 then s else s &&& D.getD p.toNat 0) s).testBit a = true ↔ s.testBit a = true ∧ ∀ p ∈ ps, D.getD p.toNat 0 ≠ 0 → (D.getD p.toNat 0).testBit a = true
  | [], s, a => by simp
  | p :: ps, s, a => by
    rw [List.foldl_cons, foldl_bit D ps]
    by_cases h : D.getD p.toNat 0 = 0
    · rw [if_pos h]
      constructor
      · rintro ⟨h1, h2⟩
        refine ⟨h1, fun q hq hn => ?_⟩
        rcases List.mem_cons.1 hq with rfl | hq
        · exact absurd h hn
        · exact h2 q hq hn
      · rintro ⟨h1, h2⟩
        exact ⟨h1, fun q hq hn => h2 q (by simp [hq]) hn⟩
    · rw [if_neg h, Nat.testBit_and, Bool.and_eq_true]
      constructor
      · rintro ⟨⟨h1, h3⟩, h2⟩
        refine ⟨h1, fun q hq hn => ?_⟩
        rcases List.mem_cons.1 hq with rfl | hq
        · exact h3
        · exact h2 q hq hn
      · rintro ⟨h1, h2⟩
        exact ⟨⟨h1, h2 p (by simp) h⟩, fun q hq hn => h2 q (by simp [hq]) hn⟩
theorem meetD_bit (D : List Nat) (ps : List Int) (a : Nat) : (meetD D ps).testBit a = true ↔ a < 40 ∧ ∀ p ∈ ps, D.getD p.toNat 0 ≠ 0 → (D.getD p.toNat 0).testBit a = true := by
  unfold meetD
  rw [foldl_bit, allBits_bit, decide_eq_true_iff]
theorem meetD_le (D : List Nat) (ps : List Int) : meetD D ps ≤ allBits := le_of_sub fun a h => by rw [allBits_bit, decide_eq_true_iff]; exact ((meetD_bit D ps a).1 h).1

/-- What dominates b, by its preds. -/
def stepD (D : List Nat) (ps : List Int) (b : Nat) : Nat := meetD D ps ||| 2 ^ b
theorem stepD_bit (D : List Nat) (ps : List Int) (b a : Nat) : (stepD D ps b).testBit a = true ↔ (a < 40 ∧ ∀ p ∈ ps, D.getD p.toNat 0 ≠ 0 → (D.getD p.toNat 0).testBit a = true) ∨ b = a := by
  unfold stepD
  rw [Nat.testBit_or, Bool.or_eq_true, meetD_bit, bit_pow, decide_eq_true_iff]
theorem stepD_le (D : List Nat) (ps : List Int) {b : Nat} (hb : b < 40) : stepD D ps b ≤ allBits := le_of_sub fun a h => by
  rw [allBits_bit, decide_eq_true_iff]
  rcases (stepD_bit D ps b a).1 h with h | h
  · exact h.1
  · omega

/-- The preds are those from whom one comes to it. -/
def IsPreds (sc : Int → List Int) (N : Nat) (pr : Nat → List Int) : Prop := ∀ (j : Nat) (p : Int), j < N → (p ∈ pr j ↔ ∃ m : Nat, p = (m : Int) ∧ m < N ∧ (j : Int) ∈ sc m)

structure DInv (sc : Int → List Int) (N : Nat) (pr : Nat → List Int) (D : List Nat) : Prop where
  len : D.length = N
  zer : D.getD 0 0 = 1
  un : ∀ i : Nat, i < N → ¬ Rch sc (-1) i → D.getD i 0 = 0
  self : ∀ i : Nat, i < N → Rch sc (-1) i → (D.getD i 0).testBit i = true
  sup : ∀ (i a : Nat), i < N → a < 40 → Rch sc (-1) i → ¬ Rch sc a i → (D.getD i 0).testBit a = true
  lt : ∀ i : Nat, D.getD i 0 ≤ allBits
  pre : ∀ (i a : Nat), i < N → i ≠ 0 → Rch sc (-1) i → (stepD D (pr i) i).testBit a = true → (D.getD i 0).testBit a = true

theorem getD_set_same {D : List Nat} {i : Nat} (h : i < D.length) (x : Nat) : (D.set i x).getD i 0 = x := by
  rw [List.getD_eq_getElem?_getD, List.getElem?_set_self h]; rfl
theorem getD_set_other {D : List Nat} {i j : Nat} (h : i ≠ j) (x : Nat) : (D.set i x).getD j 0 = D.getD j 0 := by
  rw [List.getD_eq_getElem?_getD, List.getElem?_set_ne h, ← List.getD_eq_getElem?_getD]

def sumD (D : List Nat) : Nat := D.foldr (· + ·) 0
theorem sumD_set : ∀ {D : List Nat} {i : Nat}, i < D.length → ∀ x, sumD (D.set i x) + D.getD i 0 = sumD D + x
  | [], i, h, x => by simp at h
  | d :: D, 0, _, x => by simp [sumD]; omega
  | d :: D, i + 1, h, x => by
    have := sumD_set (D := D) (i := i) (by simpa using h) x
    simp only [sumD, List.set_cons_succ, List.foldr_cons, List.getD_cons_succ] at this ⊢
    omega

section
variable {sc : Int → List Int} {N : Nat} {pr : Nat → List Int} {D : List Nat} (h40 : N ≤ 40) (hpr : IsPreds sc N pr)
include h40 hpr

/-- A block's set is made anew. -/
theorem DInv.step (h : DInv sc N pr D) {b : Nat} (hb : b < N) (hb0 : b ≠ 0) (hr : Rch sc (-1) b) : DInv sc N pr (D.set b (stepD D (pr b) b)) := by
  have hbl : b < D.length := by rw [h.len]; exact hb
  have hsame := getD_set_same hbl (stepD D (pr b) b)
  have hoth := fun (j : Nat) (hj : b ≠ j) => getD_set_other (D := D) hj (stepD D (pr b) b)
  -- all sets are parts of what they were
  have hsub : ∀ j a, ((D.set b (stepD D (pr b) b)).getD j 0).testBit a = true → (D.getD j 0).testBit a = true := fun j a hja => by
    by_cases e : b = j
    · subst e
      rw [hsame] at hja
      exact h.pre b a hb hb0 hr hja
    · rw [hoth j e] at hja; exact hja
  have hnz : ∀ j, j < N → ((D.set b (stepD D (pr b) b)).getD j 0 ≠ 0 ↔ D.getD j 0 ≠ 0) := fun j hj => by
    by_cases e : b = j
    · subst e
      rw [hsame]
      constructor
      · intro _ h0
        have := h.self b hb hr
        rw [h0, bit_zero] at this; cases this
      · intro _ h0
        have : (stepD D (pr b) b).testBit b = true := (stepD_bit _ _ _ _).2 (.inr rfl)
        rw [h0, bit_zero] at this; cases this
    · rw [hoth j e]
  refine ⟨by simp [h.len], ?_, fun i hi hn => ?_, fun i hi hri => ?_, fun i a hi ha hri hna => ?_, fun i => ?_, fun i a hi hi0 hri hst => ?_⟩
  · rw [hoth 0 hb0]; exact h.zer
  · by_cases e : b = i
    · subst e; exact absurd hr hn
    · rw [hoth i e]; exact h.un i hi hn
  · by_cases e : b = i
    · subst e; rw [hsame]; exact (stepD_bit _ _ _ _).2 (.inr rfl)
    · rw [hoth i e]; exact h.self i hi hri
  · by_cases e : b = i
    · subst e
      rw [hsame, stepD_bit]
      by_cases hab : b = a
      · exact .inr hab
      · refine .inl ⟨ha, fun p hp hne => ?_⟩
        obtain ⟨m, rfl, hm, hbm⟩ := (hpr b p hb).1 hp
        rw [Int.toNat_natCast] at hne ⊢
        have hrm : Rch sc (-1) m := Classical.byContradiction fun hnm => hne (h.un m hm hnm)
        refine h.sup m a hm ha hrm fun hram => hna (.step hram hbm (by omega))
    · rw [hoth i e]; exact h.sup i a hi ha hri hna
  · by_cases e : b = i
    · subst e; rw [hsame]; exact stepD_le _ _ (by omega)
    · rw [hoth i e]; exact h.lt i
  · have key : (stepD D (pr i) i).testBit a = true := by
      rw [stepD_bit] at hst ⊢
      rcases hst with ⟨h1, h2⟩ | h1
      · refine .inl ⟨h1, fun p hp hne => ?_⟩
        obtain ⟨m, rfl, hm, _⟩ := (hpr i p hi).1 hp
        rw [Int.toNat_natCast] at hne ⊢
        have h3 := h2 m hp (by rw [Int.toNat_natCast]; exact (hnz m hm).2 hne)
        rw [Int.toNat_natCast] at h3
        exact hsub m a h3
      · exact .inr h1
    by_cases e : b = i
    · subst e; rw [hsame]; exact key
    · rw [hoth i e]; exact h.pre i a hi hi0 hri key
omit h40 hpr in
theorem DInv.sum (h : DInv sc N pr D) {b : Nat} (hb : b < N) (hb0 : b ≠ 0) (hr : Rch sc (-1) b) : sumD (D.set b (stepD D (pr b) b)) ≤ sumD D ∧ (stepD D (pr b) b ≠ D.getD b 0 → sumD (D.set b (stepD D (pr b) b)) < sumD D) := by
  have h1 := sumD_set (show b < D.length by rw [h.len]; exact hb) (stepD D (pr b) b)
  have h2 : stepD D (pr b) b ≤ D.getD b 0 := le_of_sub fun a ha => h.pre b a hb hb0 hr ha
  exact ⟨by omega, fun hne => by omega⟩

/-- Where nothing changes any more, each set holds just those that dominate. -/
theorem DInv.done (h : DInv sc N pr D) (hfix : ∀ b : Nat, b < N → b ≠ 0 → Rch sc (-1) b → stepD D (pr b) b = D.getD b 0) (hsc : ∀ b : Nat, b < N → ∀ t ∈ sc b, 0 ≤ t ∧ t < (N : Int)) {b a : Nat} (hb : b < N) (ha : a < 40) (hr : Rch sc (-1) b) :
    (D.getD b 0).testBit a = true ↔ ¬ Rch sc a b := by
  refine ⟨fun hbit hra => ?_, fun hn => h.sup b a hb ha hr hn⟩
  have key : ∀ x : Int, Rch sc a x → 0 ≤ x ∧ x < (N : Int) ∧ Rch sc (-1) x ∧ (D.getD x.toNat 0).testBit a = false := by
    intro x hx
    induction hx with
    | zero h0 =>
      refine ⟨by omega, by omega, .zero (by omega), ?_⟩
      rw [Int.toNat_zero, h.zer]
      cases hv : (1 : Nat).testBit a
      · rfl
      · rw [show (1 : Nat) = 2 ^ 0 by rfl, bit_pow, decide_eq_true_iff] at hv
        omega
    | @step x y _ hy hya ih =>
      obtain ⟨hx0, hxN, hxr, hxb⟩ := ih
      obtain ⟨k, rfl⟩ : ∃ k : Nat, x = k := ⟨x.toNat, by omega⟩
      have hyr := hsc k (by omega) y hy
      obtain ⟨j, rfl⟩ : ∃ j : Nat, y = j := ⟨y.toNat, by omega⟩
      have hrj : Rch sc (-1) j := .step hxr hy (by omega)
      refine ⟨hyr.1, hyr.2, hrj, ?_⟩
      rw [Int.toNat_natCast] at hxb ⊢
      by_cases hj0 : j = 0
      · subst hj0
        rw [h.zer]
        cases hv : (1 : Nat).testBit a
        · rfl
        · rw [show (1 : Nat) = 2 ^ 0 by rfl, bit_pow, decide_eq_true_iff] at hv
          omega
      · cases hv : (D.getD j 0).testBit a
        · rfl
        · rw [← hfix j (by omega) hj0 hrj, stepD_bit] at hv
          rcases hv with ⟨_, hv⟩ | hv
          · have hk := hv (k : Int) ((hpr j k (by omega)).2 ⟨k, rfl, by omega, hy⟩) (by
              rw [Int.toNat_natCast]
              intro h0
              have := h.self k (by omega) hxr
              rw [h0, bit_zero] at this; cases this)
            rw [Int.toNat_natCast, hxb] at hk
            cases hk
          · omega
  have := (key b hra).2.2.2
  rw [Int.toNat_natCast, hbit] at this
  cases this
end

/-- What the sets are at first. -/
theorem DInv.start {sc : Int → List Int} {N : Nat} {pr : Nat → List Int} {D : List Nat} (h40 : N ≤ 40) (hN : 1 ≤ N) (hl : D.length = N) (h0 : D.getD 0 0 = 1) (hr : ∀ i : Nat, i < N → i ≠ 0 → Rch sc (-1) i → D.getD i 0 = allBits) (hu : ∀ i : Nat, i < N → ¬ Rch sc (-1) i → D.getD i 0 = 0) : DInv sc N pr D := by
  refine ⟨hl, h0, hu, fun i hi hri => ?_, fun i a hi ha hri hna => ?_, fun i => ?_, fun i a hi hi0 hri hst => ?_⟩
  · by_cases e : i = 0
    · subst e; rw [h0]; rfl
    · rw [hr i hi e hri, allBits_bit, decide_eq_true_iff]; omega
  · by_cases e : i = 0
    · subst e
      rw [h0]
      have : a = 0 := Classical.byContradiction fun hne => hna (.zero (by omega))
      subst this; rfl
    · rw [hr i hi e hri, allBits_bit, decide_eq_true_iff]; exact ha
  · by_cases hi : i < N
    · by_cases e : i = 0
      · subst e; rw [h0]; decide
      · by_cases hri : Rch sc (-1) i
        · rw [hr i hi e hri]; exact Nat.le_refl _
        · rw [hu i hi hri]; exact Nat.zero_le _
    · rw [List.getD_eq_getElem?_getD, List.getElem?_eq_none (by omega)]; exact Nat.zero_le _
  · rw [hr i hi hi0 hri, allBits_bit, decide_eq_true_iff]
    rcases (stepD_bit _ _ _ _).1 hst with h | h
    · exact h.1
    · omega

end Go.Proofs.YteikpekffgifoaaDoor
