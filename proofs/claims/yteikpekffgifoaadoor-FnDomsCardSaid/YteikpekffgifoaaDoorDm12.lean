/- Tz, Tz2, DomQ, To1, To2, joined. -/
import Derived.Test.YteikpekffgifoaaDoorDm1
import Derived.Test.YteikpekffgifoaaDoorDm2
import Derived.Test.YteikpekffgifoaaDoorDm3
import Derived.Test.YteikpekffgifoaaDoorDm11
namespace Go.Proofs.YteikpekffgifoaaDoor

/- bits.TrailingZeros64 at what is not 0: the lowest bit; its table. -/
section
open Go.ChangeShapes Go.WideShapes Go.ChangeAt Go.RowKit Go.Joins

/-- What the table holds. -/
def tzL : List Int := [0, 1, 56, 2, 57, 49, 28, 3, 61, 58, 42, 50, 38, 29, 17, 4, 62, 47, 59, 36, 45, 43, 51, 22, 53, 39, 33, 30, 24, 18, 12, 5, 63, 55, 48, 27, 60, 41, 37, 16, 46, 35, 44, 21, 52, 32, 23, 11, 54, 26, 40, 15, 34, 20, 31, 10, 25, 14, 19, 9, 13, 8, 7, 6]
/-- The table lies there. -/
def Tab (w : World) : Prop := ∀ (k : Nat) (u : Int), tzL[k]? = some u → w.cell? ⟨0, k, none⟩ = some (.int .u8 u)
theorem Tab.lt {w : World} (h : Tab w) : 0 < w.heap.size := World.block_lt_of_cell? w ⟨_, 0, none⟩ (h 0 0 rfl)
theorem Tab.keep {w w' : World} (h : Tab w) (hb : Below w.heap.size w w') : Tab w' := fun k u hu => (hb.cell (p := ⟨_, k, none⟩) h.lt).trans (h k u hu)
theorem tz_at : ∀ t : Nat, t < 64 → tzL[(2 ^ t * 285870213051353865 % 18446744073709551616) / 288230376151711744]? = some (t : Int) := by decide
theorem tz_len : tzL.length = 64 := rfl

/-- A number that is not 0 is an odd one times a power of two. -/
theorem low_bit : ∀ (s : Nat), s ≠ 0 → ∃ t m, s = 2 ^ t * (2 * m + 1) := by
  intro s
  induction s using Nat.strongRecOn with
  | ind s ih =>
    intro h0
    by_cases hp : s % 2 = 1
    · exact ⟨0, s / 2, by omega⟩
    · obtain ⟨t, m, h⟩ := ih (s / 2) (by omega) (by omega)
      exact ⟨t + 1, m, by rw [Nat.pow_succ, Nat.mul_right_comm, ← h]; omega⟩
theorem odd_bit (t m i : Nat) : (2 ^ t * (2 * m + 1)).testBit i = (decide (t ≤ i) && (decide (i = t) || (decide (t < i) && m.testBit (i - t - 1)))) := by
  rw [Nat.testBit_two_pow_mul]
  by_cases h : t ≤ i
  · by_cases e : i = t
    · subst e; simp
    · obtain ⟨j, rfl⟩ : ∃ j, i = t + 1 + j := ⟨i - t - 1, by omega⟩
      have h3 : t < t + 1 + j := by omega
      rw [show t + 1 + j - t = j + 1 by omega, show j + 1 - 1 = j by omega, Nat.testBit_succ, show (2 * m + 1) / 2 = m by omega]
      simp [h, e, h3]
  · simp [h]
theorem pred_bit (t m i : Nat) : (2 ^ t * (2 * m + 1) - 1).testBit i = if i < t then true else (decide (t < i) && m.testBit (i - t - 1)) := by
  have hp := Nat.two_pow_pos t
  have e : 2 ^ t * (2 * m + 1) - 1 = 2 ^ t * (2 * m) + (2 ^ t - 1) := by rw [Nat.mul_add]; omega
  rw [e, Nat.testBit_two_pow_mul_add _ (by omega)]
  by_cases h : i < t
  · rw [if_pos h, if_pos h, Nat.testBit_two_pow_sub_one]; simpa using h
  · rw [if_neg h, if_neg h]
    by_cases e : i = t
    · subst e; simp
    · obtain ⟨j, rfl⟩ : ∃ j, i = t + 1 + j := ⟨i - t - 1, by omega⟩
      have h3 : t < t + 1 + j := by omega
      rw [show t + 1 + j - t = j + 1 by omega, show j + 1 - 1 = j by omega, Nat.testBit_succ, show 2 * m / 2 = m by omega]
      simp [h3]
theorem and_neg {s t m : Nat} (h : s = 2 ^ t * (2 * m + 1)) (hs : s < 18446744073709551616) : s &&& (18446744073709551616 - s) = 2 ^ t := by
  have hpos : 0 < s := by rw [h]; exact Nat.mul_pos (Nat.two_pow_pos t) (by omega)
  have ht64 : 2 ^ t < 2 ^ 64 := Nat.lt_of_le_of_lt (by rw [h]; exact Nat.le_mul_of_pos_right _ (by omega)) hs
  have htl : t < 64 := (Nat.pow_lt_pow_iff_right (a := 2) (by decide)).1 ht64
  apply Nat.eq_of_testBit_eq
  intro i
  have e : 18446744073709551616 - s = 2 ^ 64 - ((s - 1) + 1) := by rw [Nat.sub_add_cancel hpos]
  rw [Nat.testBit_and, e, Nat.testBit_two_pow_sub_succ (by omega), h, odd_bit, pred_bit, Nat.testBit_two_pow]
  by_cases h1 : i < t
  · have h2 : ¬ t ≤ i := by omega
    have h3 : ¬ t = i := by omega
    simp [h1, h2, h3]
  · by_cases h2 : i = t
    · subst h2; simp [htl]
    · have h3 : t < i := by omega
      have h4 : ¬ t = i := by omega
      have h5 : t ≤ i := by omega
      simp only [h1, h2, h3, h4, h5, decide_true, decide_false, Bool.true_and, Bool.false_or, if_false]
      cases m.testBit (i - t - 1) <;> simp

theorem tz_neg (s : Nat) (h0 : 0 < s) (hs : s < 18446744073709551616) : IntKind.u64.wrap (-(s : Int)) = ((18446744073709551616 - s : Nat) : Int) := by rw [IntKind.wrap_u64]; omega
theorem tz_mul (p : Nat) : IntKind.u64.wrap ((p : Int) * 285870213051353865) = ((p * 285870213051353865 % 18446744073709551616 : Nat) : Int) := by rw [IntKind.wrap_u64]; omega
theorem tz_div (q : Nat) : (q : Int) / 288230376151711744 = ((q / 288230376151711744 : Nat) : Int) := by omega
theorem tz_facts {s t m : Nat} (h : s = 2 ^ t * (2 * m + 1)) (hs : s < 18446744073709551616) (htl : t < 64) : 0 < s ∧ ∃ n p q r : Nat, IntKind.u64.wrap (-(s : Int)) = (n : Int) ∧ bits .and .u64 (s : Int) (n : Int) = (p : Int) ∧ IntKind.u64.wrap ((p : Int) * 285870213051353865) = (q : Int) ∧ (q : Int) / 288230376151711744 = (r : Int) ∧ r < 64 ∧ tzL[r]? = some (t : Int) := by
  have hpos : 0 < s := by rw [h]; exact Nat.mul_pos (Nat.two_pow_pos t) (by omega)
  have h2 := u64_and_nat s (18446744073709551616 - s) hs (by omega)
  rw [and_neg h hs] at h2
  have hz := tz_at t htl
  refine ⟨hpos, 18446744073709551616 - s, 2 ^ t, 2 ^ t * 285870213051353865 % 18446744073709551616, 2 ^ t * 285870213051353865 % 18446744073709551616 / 288230376151711744, tz_neg s hpos hs, h2, tz_mul _, tz_div _, ?_, hz⟩
  have := (List.getElem?_eq_some_iff.1 hz).1
  rwa [tz_len] at this

set_option maxHeartbeats 400000 in
theorem TrailingZeros64_any (s t m : Nat) (w : World) (h : s = 2 ^ t * (2 * m + 1)) (hs : s < 18446744073709551616) (htl : t < 64) (hT : Tab w) :
    Calls Tryd.prog 43 #[.int .u64 (s : Int)] w fun e w' => e = .returned (.int .i64 (t : Int)) ∧ w = w' := by
  obtain ⟨hpos, n, p, q, r, h1, h2, h3, h5, hr, hz⟩ := tz_facts h hs htl
  have h0 : ((s : Int) == 0) = false := by simp; omega
  have hc := hT _ _ hz
  have hr' : (r : Int) < 64 := by omega
  have hr0 : 0 ≤ (r : Int) := by omega
  have ht64 : (t : Int) < 64 := by omega
  clear h hz hpos hT
  go_enter Tryd.func43, Tryd.ntmps43
  go_wp2
  go_ret
  exact ⟨rfl, rfl⟩
end

/- without and list of the program's sets. -/
section
open Go.ChangeShapes Go.WideShapes Go.ChangeAt Go.RowKit Go.Joins

/-- s without b. -/
def clr (s b : Nat) : Nat := s &&& (18446744073709551615 - 2 ^ b)
theorem clr_bit {s b : Nat} (hs : s < 18446744073709551616) (hb : b < 64) (i : Nat) : (clr s b).testBit i = (s.testBit i && decide (b ≠ i)) := by
  have h64 : 2 ^ b < 2 ^ 64 := pow_lt64 hb
  have e : 18446744073709551615 - 2 ^ b = 2 ^ 64 - (2 ^ b + 1) := by omega
  unfold clr
  rw [Nat.testBit_and, e, Nat.testBit_two_pow_sub_succ h64, bit_pow]
  by_cases h : i < 64
  · by_cases hbi : b = i <;> simp [h, hbi]
  · have : s.testBit i = false := Nat.testBit_lt_two_pow (Nat.lt_of_lt_of_le hs (Nat.pow_le_pow_right (n := 2) (i := 64) (by decide) (by omega)))
    rw [this]; simp
theorem clr_le {s b n : Nat} (h : s ≤ n) : clr s b ≤ n := Nat.le_trans Nat.and_le_left h

set_option maxHeartbeats 400000 in
theorem without_any (s b : Nat) (w : World) (hs : s < 18446744073709551616) (hb : b < 64) :
    Calls Tryd.prog 30 #[.int .u64 (s : Int), .int .i64 (b : Int)] w fun e w' => e = .returned (.int .u64 ((clr s b : Nat) : Int)) ∧ w = w' := by
  have hb0 : ¬ (b : Int) < 0 := by omega
  have h1 := wrap_pow b hb
  have h2 : bits .andNot .u64 (s : Int) ((2 ^ b : Nat) : Int) = ((clr s b : Nat) : Int) := u64_andNot_nat s (2 ^ b) hs (pow_lt64 hb)
  generalize clr s b = c at *
  generalize hp : 2 ^ b = p at *
  go_enter Tryd.func30, Tryd.ntmps30
  go_wp2
  go_ret
  exact ⟨rfl, rfl⟩

/-- The bits below k, rising. -/
def bitsTo (s k : Nat) : List Int := ((List.range k).filter fun i => s.testBit i).map fun (i : Nat) => (i : Int)
theorem bitsTo_len (s k : Nat) : (bitsTo s k).length ≤ k := by
  unfold bitsTo
  rw [List.length_map]
  exact Nat.le_trans (List.length_filter_le _ _) (by simp)
theorem bitsTo_mem (s k : Nat) (x : Int) : x ∈ bitsTo s k ↔ ∃ i : Nat, x = (i : Int) ∧ i < k ∧ s.testBit i = true := by
  unfold bitsTo
  rw [List.mem_map]
  constructor
  · rintro ⟨i, hi, rfl⟩
    rw [List.mem_filter, List.mem_range] at hi
    exact ⟨i, rfl, hi.1, hi.2⟩
  · rintro ⟨i, rfl, h1, h2⟩
    exact ⟨i, List.mem_filter.2 ⟨List.mem_range.2 h1, h2⟩, rfl⟩
theorem bitsTo_same {s : Nat} : ∀ {j k : Nat}, k ≤ j → (∀ i, k ≤ i → i < j → s.testBit i = false) → bitsTo s j = bitsTo s k
  | 0, k, h, _ => by rw [show k = 0 by omega]
  | j + 1, k, h, hf => by
    by_cases e : k = j + 1
    · rw [e]
    · rw [← bitsTo_same (s := s) (j := j) (k := k) (by omega) fun i h1 h2 => hf i h1 (by omega)]
      unfold bitsTo
      rw [List.range_succ, List.filter_append, List.filter_cons, hf j (by omega) (by omega)]
      simp
theorem bitsTo_next {s k t : Nat} (hk : k ≤ t) (hf : ∀ i, k ≤ i → i < t → s.testBit i = false) (ht : s.testBit t = true) : bitsTo s (t + 1) = bitsTo s k ++ [(t : Int)] := by
  rw [← bitsTo_same hk hf]
  unfold bitsTo
  rw [List.range_succ, List.filter_append, List.filter_cons, if_pos ht]
  simp

theorem low_lt {l t m : Nat} (h : l = 2 ^ t * (2 * m + 1)) (hl : l ≤ allBits) : t < 40 := by
  have h1 : l.testBit t = true := by rw [h, odd_bit]; simp
  have h2 : 2 ^ t ≤ l := Nat.ge_two_pow_of_testBit h1
  have h3 : 2 ^ t < 2 ^ 40 := Nat.lt_of_le_of_lt (Nat.le_trans h2 hl) (by decide)
  exact (Nat.pow_lt_pow_iff_right (a := 2) (by decide)).1 h3
/-- A round: the lowest one is taken off. -/
theorem list_step {s k l t m : Nat} (hl : l ≤ allBits) (hk : ∀ i, l.testBit i = (decide (k ≤ i) && s.testBit i)) (h : l = 2 ^ t * (2 * m + 1)) : k ≤ t ∧ bitsTo s (t + 1) = bitsTo s k ++ [(t : Int)] ∧ (∀ i, (clr l t).testBit i = (decide (t + 1 ≤ i) && s.testBit i)) ∧ clr l t < l := by
  have ht := low_lt h hl
  have hls : l < 18446744073709551616 := Nat.lt_of_le_of_lt hl (by decide)
  have h1 : l.testBit t = true := by rw [h, odd_bit]; simp
  have h2 : ∀ i, i < t → l.testBit i = false := fun i hi => by rw [h, odd_bit, decide_eq_false (by omega)]; rfl
  have h3 := hk t
  rw [h1] at h3
  have h4 : decide (k ≤ t) = true ∧ s.testBit t = true := by simpa using h3.symm
  have hkt : k ≤ t := by simpa using h4.1
  have h5 : ∀ i, k ≤ i → i < t → s.testBit i = false := fun i hi hit => by
    have := hk i
    rw [h2 i hit, decide_eq_true hi, Bool.true_and] at this
    exact this.symm
  refine ⟨hkt, bitsTo_next hkt h5 h4.2, fun i => ?_, ?_⟩
  · rw [clr_bit hls (by omega), hk i]
    by_cases hi : t + 1 ≤ i
    · have e1 : k ≤ i := by omega
      have e2 : t ≠ i := by omega
      simp [hi, e1, e2]
    · by_cases e : t = i
      · subst e; rw [decide_eq_false hi]; simp
      · by_cases hki : k ≤ i
        · rw [h5 i hki (by omega)]; simp
        · simp [hi, hki]
  · have h6 : clr l t ≤ l := clr_le (Nat.le_refl _)
    have h7 : clr l t ≠ l := fun e => by
      have := clr_bit hls (show t < 64 by omega) t
      rw [e, h1] at this
      simp at this
    omega

def GivesList (s : Nat) (w : World) (e : Ending) (w' : World) : Prop := ∃ r, e = .returned r ∧ OI w' w.heap.size r (bitsTo s 40) ∧ Below w.heap.size w w'

set_option maxRecDepth 10000 in
set_option maxHeartbeats 1000000 in
theorem list_any (s : Nat) (w : World) (hs : s ≤ allBits) (hT : Tab w) :
    Calls Tryd.prog 26 #[.int .u64 (s : Int)] w (GivesList s w) := by
  have HT := Lib.hid hT
  clear hT
  go_enter Tryd.func26, Tryd.ntmps26
  go_wp2
  go_loopw [3, 4] (fun lv iv wr => ∃ k l : Nat, iv = .int .u64 (l : Int) ∧ k ≤ 40 ∧ Hid (OI wr w.heap.size lv (bitsTo s k)) ∧ Hid (∀ i, l.testBit i = (decide (k ≤ i) && s.testBit i)) ∧ Hid (Below w.heap.size w wr) ∧ l ≤ allBits) (fun _ iv _ => (intOf iv).toNat)
  case atStart => exact ⟨0, s, rfl, by omega, OI_lit0 w rfl (Nat.le_refl _), fun i => by simp, (Below.refl _ _).alloc (Nat.le_refl _) _, hs⟩
  case round =>
    obtain ⟨k, l, rfl, hk, HO, HK, HB, hl⟩ := hrel
    by_cases h0 : l = 0
    · subst h0
      have hne : (((0 : Nat) : Int) != 0) = false := rfl
      have he : bitsTo s 40 = bitsTo s k := bitsTo_same hk fun i hi _ => by
        have := HK.out i
        rw [bit_zero, decide_eq_true hi, Bool.true_and] at this
        exact this.symm
      have HE := Lib.hid he
      clear he
      go_wp2
      go_ret
      exact ⟨_, rfl, by rw [HE.out]; exact HO.out, HB.out⟩
    have hne : ((l : Int) != 0) = true := by simp; omega
    obtain ⟨t, m, hlow⟩ := low_bit l h0
    have ht := low_lt hlow hl
    have hst := list_step hl HK.out hlow
    have HST := Lib.hid hst
    have HLO := Lib.hid hlow
    have hls : l < 18446744073709551616 := Nat.lt_of_le_of_lt hl (by decide)
    have hlen := bitsTo_len s k
    have hz := HB.out.size
    have HTr : Hid (Tab wr) := HT.out.keep HB.out
    obtain ⟨_, A, c, rfl, _⟩ := HO.out.ri
    clear hlow hst h0
    go_wp2_with fail
    refine (TrailingZeros64_any l t m _ HLO.out hls (by omega) HTr.out).mono ?_
    rintro e w' ⟨rfl, rfl⟩
    go_wp2_with (first
      | (at_builtin; go_must (refine wpList_append_int rfl (.tmp 12) (.tmp 14) rfl w.heap.size _ (bitsTo s k) t wr rfl HO.out rfl (by omega) (by omega) ?_; intro v' w2 hown2 hg2 hat2; have HO2 := Lib.hid hown2; have HG2 := Lib.hid hg2; obtain ⟨_, A8, q8, rfl, _⟩ := hown2.ri; clear hown2 hg2 hat2))
      | fail)
    refine (without_any l t _ hls (by omega)).mono ?_
    rintro e w' ⟨rfl, rfl⟩
    have el : (bitsTo s k ++ [(t : Int)]).length = (bitsTo s k).length + 1 := by simp
    rw [el] at HO2
    clear el
    have HBn : Hid (Below w.heap.size w w2) := HB.out.grown HG2.out hz fun k hk => (HO.out.lt k hk).1
    go_wp2_with fail
    go_roundw
    case rel => exact ⟨t + 1, clr l t, rfl, by omega, by rw [HST.out.2.1]; exact HO2.out, HST.out.2.2.1, HBn.out, clr_le hl⟩
    case measure => have := HST.out.2.2.2; simp [intOf]; omega
end

/- Dominance is that of a tree; who is next above: propositions alone. -/
section
open Go.ChangeShapes Go.WideShapes Go.ChangeAt Go.RowKit Go.Joins

theorem rch_ne {sc : Int → List Int} {wo x : Int} (h : Rch sc wo x) : x ≠ wo := by
  cases h with
  | zero h => exact h
  | step _ _ h => exact h
/-- What is not reached may be left aside. -/
theorem rch_aside {sc : Int → List Int} {c b : Int} (hc : ¬ Rch sc (-1) c) (h : Rch sc (-1) b) : Rch sc c b := by
  induction h with
  | zero h0 => exact .zero (by rintro rfl; exact hc (.zero h0))
  | @step x y hx hy hn ih => exact .step ih hy (by rintro rfl; exact hc (.step hx hy hn))

theorem dom_reached {f : FunD} {a b : Int} (h : DomP f a b) : Rch (scF f.blocks) (-1) a := Classical.byContradiction fun hn => h.2.2.2.2 (rch_aside hn h.2.2.2.1)
theorem dom_refl {f : FunD} {b : Int} (hp : FunP f) (hb : isBelowB b f.blocks.length = true) (hr : Rch (scF f.blocks) (-1) b) : DomP f b b := ⟨hp, hb, hb, hr, fun h => rch_ne h rfl⟩
theorem dom_trans {f : FunD} {a c b : Int} (h : DomP f a c) (k : DomP f c b) : DomP f a b := by
  refine ⟨h.1, h.2.1, k.2.2.1, k.2.2.2.1, fun hab => k.2.2.2.2 ?_⟩
  have h0 : (0 : Int) ≠ a → (0 : Int) ≠ c := fun h0 e => h.2.2.2.2 (by rw [← e]; exact .zero h0)
  have key : ∀ x : Int, Rch (scF f.blocks) a x → Rch (scF f.blocks) c x := by
    intro x hx
    induction hx with
    | zero hz => exact .zero (h0 hz)
    | @step x y hx hy hya ih => exact .step ih hy (by rintro rfl; exact h.2.2.2.2 (.step hx hy hya))
  exact key b hab
theorem dom_anti {f : FunD} {a c : Int} (h : DomP f a c) (k : DomP f c a) : a = c := by
  refine Classical.byContradiction fun hne => k.2.2.2.2 ?_
  have key : ∀ x : Int, Rch (scF f.blocks) (-1) x → Rch (scF f.blocks) a x ∧ Rch (scF f.blocks) c x := by
    intro x hx
    induction hx with
    | zero _ =>
      have ha : (0 : Int) ≠ a := fun e => k.2.2.2.2 (by rw [← e]; exact .zero (by rw [e]; exact hne))
      have hc : (0 : Int) ≠ c := fun e => h.2.2.2.2 (by rw [← e]; exact .zero ha)
      exact ⟨.zero ha, .zero hc⟩
    | @step x y _ hy _ ih =>
      have ha : y ≠ a := by rintro rfl; exact k.2.2.2.2 (.step ih.2 hy hne)
      have hc : y ≠ c := by rintro rfl; exact h.2.2.2.2 (.step ih.1 hy ha)
      exact ⟨.step ih.1 hy ha, .step ih.2 hy hc⟩
  exact (key a k.2.2.2.1).2
theorem dom_chain {f : FunD} {a c b : Int} (h : DomP f a b) (k : DomP f c b) : DomP f a c ∨ DomP f c a := by
  by_cases h1 : Rch (scF f.blocks) a c
  · by_cases h2 : Rch (scF f.blocks) c a
    · exfalso
      have hac : a ≠ c := fun e => rch_ne h1 e.symm
      have key : ∀ x : Int, Rch (scF f.blocks) (-1) x → Rch (scF f.blocks) a x ∨ Rch (scF f.blocks) c x := by
        intro x hx
        induction hx with
        | zero _ =>
          by_cases e : (0 : Int) = a
          · exact .inr (.zero (by rw [e]; exact hac))
          · exact .inl (.zero e)
        | @step x y _ hy _ ih =>
          rcases ih with ih | ih
          · by_cases e : y = a
            · subst e; exact .inr h2
            · exact .inl (.step ih hy e)
          · by_cases e : y = c
            · subst e; exact .inl h1
            · exact .inr (.step ih hy e)
      rcases key b h.2.2.2.1 with g | g
      · exact h.2.2.2.2 g
      · exact k.2.2.2.2 g
    · exact .inr ⟨h.1, k.2.1, h.2.1, dom_reached h, h2⟩
  · exact .inl ⟨h.1, h.2.1, k.2.1, dom_reached k, h1⟩
theorem dom_range {f : FunD} {a b : Int} (h : DomP f a b) : 0 ≤ a ∧ a < f.blocks.length := by
  have := h.2.1
  simp [isBelowB] at this
  omega

/-- The list of all that dominate b, rising. -/
def IsDoms (f : FunD) (b : Int) (xs : List Int) : Prop := xs.Pairwise (· < ·) ∧ ∀ x, x ∈ xs ↔ DomP f x b
theorem sorted_ext : ∀ {xs ys : List Int}, xs.Pairwise (· < ·) → ys.Pairwise (· < ·) → (∀ x, x ∈ xs ↔ x ∈ ys) → xs = ys
  | [], [], _, _, _ => rfl
  | [], y :: ys, _, _, h => by have := (h y).2 (by simp); cases this
  | x :: xs, [], _, _, h => by have := (h x).1 (by simp); cases this
  | x :: xs, y :: ys, hx, hy, h => by
    obtain ⟨hx1, hx2⟩ := List.pairwise_cons.1 hx
    obtain ⟨hy1, hy2⟩ := List.pairwise_cons.1 hy
    have e : x = y := by
      have h1 := (h x).1 (by simp)
      have h2 := (h y).2 (by simp)
      rcases List.mem_cons.1 h1 with e | h1
      · exact e
      rcases List.mem_cons.1 h2 with e | h2
      · exact e.symm
      have := hx1 y h2
      have := hy1 x h1
      omega
    subst e
    congr 1
    refine sorted_ext hx2 hy2 fun z => ⟨fun hz => ?_, fun hz => ?_⟩
    · have := hx1 z hz
      rcases List.mem_cons.1 ((h z).1 (by simp [hz])) with e | h'
      · omega
      · exact h'
    · have := hy1 z hz
      rcases List.mem_cons.1 ((h z).2 (by simp [hz])) with e | h'
      · omega
      · exact h'
theorem IsDoms.one {f : FunD} {b : Int} {xs ys : List Int} (h : IsDoms f b xs) (k : IsDoms f b ys) : xs = ys := sorted_ext h.1 k.1 fun x => (h.2 x).trans (k.2 x).symm
theorem bitsTo_sorted (s k : Nat) : (bitsTo s k).Pairwise (· < ·) := by
  unfold bitsTo
  rw [List.pairwise_map]
  exact (List.pairwise_lt_range.filter _).imp fun h => by omega
theorem SetRes.doms {f : FunD} {j : Int} {s : Nat} (h : SetRes f j s) : IsDoms f j (bitsTo s 40) := by
  refine ⟨bitsTo_sorted s 40, fun x => ?_⟩
  rw [bitsTo_mem]
  constructor
  · rintro ⟨i, rfl, _, hi⟩
    exact (h.bit i).1 hi
  · intro hd
    have hr := dom_range hd
    have h40 := hd.1.1.1.2
    obtain ⟨i, rfl⟩ : ∃ i : Nat, x = i := ⟨x.toNat, by omega⟩
    exact ⟨i, rfl, by omega, (h.bit i).2 hd⟩
theorem IsDoms.len {f : FunD} {b : Int} {xs : List Int} (h : IsDoms f b xs) : xs.length ≤ f.blocks.length := by
  have h2 : ∀ x ∈ xs, 0 ≤ x ∧ x < (f.blocks.length : Int) := fun x hx => dom_range ((h.2 x).1 hx)
  have key : ∀ (ys : List Int) (lo hi : Int), lo ≤ hi → ys.Pairwise (· < ·) → (∀ y ∈ ys, lo ≤ y ∧ y < hi) → (ys.length : Int) ≤ hi - lo := by
    intro ys
    induction ys with
    | nil => intro lo hi h _ _; simp; omega
    | cons y ys ih =>
      intro lo hi hlh hp hm
      obtain ⟨h3, h4⟩ := List.pairwise_cons.1 hp
      have hy := hm y (by simp)
      have := ih (y + 1) hi (by omega) h4 fun z hz => ⟨by have := h3 z hz; omega, (hm z (by simp [hz])).2⟩
      simp only [List.length_cons, Int.natCast_add]
      omega
  have := key xs 0 f.blocks.length (by omega) h.1 h2
  omega

/-- r is next above b; -1 where none is. -/
def IsIdom (f : FunD) (b r : Int) : Prop := (r = -1 ∧ ∀ x, DomP f x b → x = b) ∨ (DomP f r b ∧ r ≠ b ∧ ∀ x, DomP f x b → x ≠ b → DomP f x r)
theorem IsIdom.one {f : FunD} {b r s : Int} (h : IsIdom f b r) (k : IsIdom f b s) : r = s := by
  rcases h with ⟨rfl, h⟩ | ⟨h1, h2, h3⟩ <;> rcases k with ⟨rfl, k⟩ | ⟨k1, k2, k3⟩
  · rfl
  · exact absurd (h s k1) k2
  · exact absurd (k r h1) h2
  · exact dom_anti (k3 r h1 h2) (h3 s k1 k2)
/-- The one among these that all of them dominate, but b. -/
def BestL (f : FunD) (b : Int) (xs : List Int) (r : Int) : Prop := (r = -1 ∧ ∀ x ∈ xs, x = b) ∨ (r ∈ xs ∧ r ≠ b ∧ ∀ x ∈ xs, x ≠ b → DomP f x r)
theorem BestL.nil (f : FunD) (b : Int) : BestL f b [] (-1) := .inl ⟨rfl, fun x hx => by cases hx⟩
theorem BestL.own {f : FunD} {b : Int} {xs : List Int} {r : Int} (h : BestL f b xs r) : BestL f b (xs ++ [b]) r := by
  rcases h with ⟨h1, h2⟩ | ⟨h1, h2, h3⟩
  · exact .inl ⟨h1, fun x hx => by rcases List.mem_append.1 hx with hx | hx; exact h2 x hx; simpa using hx⟩
  · exact .inr ⟨List.mem_append_left _ h1, h2, fun x hx hn => by rcases List.mem_append.1 hx with hx | hx; exact h3 x hx hn; exact absurd (by simpa using hx) hn⟩
theorem BestL.take {f : FunD} {b : Int} {xs : List Int} {r x : Int} (h : BestL f b xs r) (hx : DomP f x b) (hxb : x ≠ b) (hc : r = -1 ∨ DomP f r x) : BestL f b (xs ++ [x]) x := by
  have hxx : DomP f x x := dom_refl hx.1 hx.2.1 (dom_reached hx)
  refine .inr ⟨by simp, hxb, fun y hy hn => ?_⟩
  rcases List.mem_append.1 hy with hy | hy
  · rcases h with ⟨_, h2⟩ | ⟨h1, h2, h3⟩
    · exact absurd (h2 y hy) hn
    · rcases hc with rfl | hc
      · have := (dom_range (h3 (-1) h1 h2)).1; omega
      · exact dom_trans (h3 y hy hn) hc
  · have : y = x := by simpa using hy
    subst this; exact hxx
theorem BestL.keep {f : FunD} {b : Int} {xs : List Int} {r x : Int} (h : BestL f b xs r) (hall : ∀ y ∈ xs, DomP f y b) (hx : DomP f x b) (hr : r ≠ -1) (hc : ¬ DomP f r x) : BestL f b (xs ++ [x]) r := by
  rcases h with ⟨h1, _⟩ | ⟨h1, h2, h3⟩
  · exact absurd h1 hr
  · refine .inr ⟨List.mem_append_left _ h1, h2, fun y hy hn => ?_⟩
    rcases List.mem_append.1 hy with hy | hy
    · exact h3 y hy hn
    · have : y = x := by simpa using hy
      subst this
      rcases dom_chain hx (hall r h1) with g | g
      · exact g
      · exact absurd g hc
theorem BestL.idom {f : FunD} {b : Int} {xs : List Int} {r : Int} (h : BestL f b xs r) (hd : IsDoms f b xs) : IsIdom f b r := by
  rcases h with ⟨h1, h2⟩ | ⟨h1, h2, h3⟩
  · exact .inl ⟨h1, fun x hx => h2 x ((hd.2 x).2 hx)⟩
  · exact .inr ⟨(hd.2 r).1 h1, h2, fun x hx hn => h3 x ((hd.2 x).2 hx) hn⟩
theorem best_exists {f : FunD} {b : Int} : ∀ (ys xs : List Int) (r : Int), BestL f b xs r → (∀ y ∈ xs ++ ys, DomP f y b) → ∃ s, BestL f b (xs ++ ys) s
  | [], xs, r, h, _ => ⟨r, by rw [List.append_nil]; exact h⟩
  | y :: ys, xs, r, h, hall => by
    have hy := hall y (by simp)
    have hxs : ∀ z ∈ xs, DomP f z b := fun z hz => hall z (by simp [hz])
    have : ∃ s, BestL f b (xs ++ [y]) s := by
      by_cases hyb : y = b
      · subst hyb; exact ⟨r, h.own⟩
      · by_cases hc : r = -1 ∨ DomP f r y
        · exact ⟨y, h.take hy hyb hc⟩
        · exact ⟨r, h.keep hxs hy (fun e => hc (.inl e)) fun e => hc (.inr e)⟩
    obtain ⟨s, hs⟩ := this
    have := best_exists ys (xs ++ [y]) s hs (by simpa using hall)
    simpa using this

/-- The others above t, as bits. -/
theorem others_bit {f : FunD} {D : List Nat} (hp : FunP f) (hd : DomsD f D) {t : Nat} (ht : t < f.blocks.length) (i : Nat) : (clr (D.getD t 0) t).testBit i = true ↔ DomP f i t ∧ (i : Int) ≠ t := by
  have h40 := hp.1.1.2
  have hb := (show SetRes f t (D.getD t 0) from .inl ⟨t, D, rfl, ht, hp, hd, rfl⟩).bit i
  rw [clr_bit (all_lt (hd.1.lt t)) (by omega), Bool.and_eq_true, hb, decide_eq_true_iff]
  constructor
  · rintro ⟨h1, h2⟩; exact ⟨h1, by omega⟩
  · rintro ⟨h1, h2⟩; exact ⟨h1, by omega⟩
theorem idom_of_eq {f : FunD} {D : List Nat} (hp : FunP f) (hd : DomsD f D) {t a : Nat} (ht : t < f.blocks.length) (ha : DomP f a t) (hat : (a : Int) ≠ t) (he : D.getD a 0 = clr (D.getD t 0) t) : IsIdom f t a := by
  refine .inr ⟨ha, hat, fun x hx hxt => ?_⟩
  have hxr := dom_range hx
  have har := dom_range ha
  obtain ⟨i, rfl⟩ : ∃ i : Nat, x = i := ⟨x.toNat, by omega⟩
  have hb := (show SetRes f a (D.getD a 0) from .inl ⟨a, D, rfl, by omega, hp, hd, rfl⟩).bit i
  exact hb.1 (by rw [he]; exact (others_bit hp hd ht i).2 ⟨hx, hxt⟩)
theorem idom_none {f : FunD} {D : List Nat} (hp : FunP f) (hd : DomsD f D) {t : Nat} (ht : t < f.blocks.length) (hno : ∀ x ∈ bitsTo (clr (D.getD t 0) t) 40, D.getD x.toNat 0 ≠ clr (D.getD t 0) t) : IsIdom f t (-1) := by
  have h40 := hp.1.1.2
  have hds : IsDoms f t (bitsTo (D.getD t 0) 40) := (show SetRes f t (D.getD t 0) from .inl ⟨t, D, rfl, ht, hp, hd, rfl⟩).doms
  obtain ⟨s, hs⟩ := best_exists (f := f) (b := (t : Int)) (bitsTo (D.getD t 0) 40) [] (-1) (BestL.nil f t) (fun y hy => (hds.2 y).1 (by simpa using hy))
  rw [List.nil_append] at hs
  rcases hs with ⟨rfl, h2⟩ | ⟨h1, h2, h3⟩
  · exact .inl ⟨rfl, fun x hx => h2 x ((hds.2 x).2 hx)⟩
  · exfalso
    have hsd := (hds.2 s).1 h1
    have hsr := dom_range hsd
    obtain ⟨m, rfl⟩ : ∃ m : Nat, s = m := ⟨s.toNat, by omega⟩
    refine hno m ((bitsTo_mem _ _ _).2 ⟨m, rfl, by omega, (others_bit hp hd ht m).2 ⟨hsd, h2⟩⟩) ?_
    rw [Int.toNat_natCast]
    apply Nat.eq_of_testBit_eq
    intro i
    rw [Bool.eq_iff_iff, others_bit hp hd ht i, (show SetRes f m (D.getD m 0) from .inl ⟨m, D, rfl, by omega, hp, hd, rfl⟩).bit i]
    constructor
    · intro hi
      refine ⟨dom_trans hi hsd, ?_⟩
      intro e
      rw [e] at hi
      exact h2 (dom_anti hsd hi)
    · rintro ⟨hi, hn⟩
      exact h3 i ((hds.2 i).2 hi) hn
end

/- toMoveS and toInsS of the laws. -/
section
open Go.ChangeShapes Go.WideShapes Go.ChangeAt Go.RowKit Go.Joins

def GivesV (R : World → Zn → Value → Prop) (w : World) (e : Ending) (w' : World) : Prop := ∃ r, e = .returned r ∧ R w' (Zn.new w.heap.size w'.heap.size) r ∧ Below w.heap.size w w'

set_option maxHeartbeats 400000 in
theorem toMove_any (a b : Int) (w : World) :
    Calls Tryd.prog 106 #[.agg #[.int .i64 a, .int .i64 b]] w fun e w' => e = .returned (.agg #[.int .i64 a, .int .i64 b]) ∧ Below w.heap.size w w' := by
  go_enter Tryd.func106, Tryd.ntmps106
  go_wp2
  refine bodyPost_ret (v := .agg #[.int .i64 a, .int .i64 b]) (by simp [results, Tryd.results106, go_sem]) rfl ⟨rfl, ?_⟩
  repeat (first | exact Below.refl _ _ | refine Below.alloc ?_ (by first | (simp; done) | (simp; omega)) _ | refine Below.setCell ?_ (by simp) _)

theorem info_Move : (Tryd.prog.info? 89).map (fun i => (i.zero, i.size, i.bytes)) = some (some (.agg #[.int .i64 0, .int .i64 0]), 2, 16) := by kernel_rfl

set_option maxHeartbeats 400000 in
theorem toMoveS_any (v : Value) (xs : List MoveD) (w : World) (Z : Zn) (hv : Row w Z 2 EMove v xs) (hD : ∀ b, Z.D b → b < w.heap.size) (hn : xs.length ≤ 1048576) :
    Calls Tryd.prog 88 #[v] w (GivesV (fun w Z v => Row w Z 2 EMove v xs) w) := by
  obtain ⟨_, A, c, rfl, hx⟩ := hv
  obtain ⟨i0, hi, hz0, hz1, hz2⟩ := info_parts info_Move
  have hmk := fun W => run_make_rowN (P := Tryd.prog) 66 89 i0 _ Tryd.underlying66 hi hz0 .i64 .i64 xs.length xs.length (Nat.le_refl _) (by rw [hz2]; omega) (by omega) W
  rw [hz1] at hmk
  clear hi hz0 hz1 hz2
  go_enter Tryd.func88, Tryd.ntmps88
  go_wp2
  go_loopw [4] (fun i wr => ∃ k : Nat, k ≤ xs.length ∧ i = .int .i64 k ∧ Hid (Below w.heap.size w wr) ∧ w.heap.size < wr.heap.size ∧ Hid (Fill wr w.heap.size 89 2 xs.length k EMove xs)) (fun i _ => xs.length - (intOf i).toNat)
  case atStart => exact ⟨0, Nat.zero_le _, rfl, (Below.refl _ _).alloc (Nat.le_refl _) _, by simp, Fill.zero (heap_alloc_new w _) (size_madeCells _ _)⟩
  case round =>
    obtain ⟨k, hk, rfl, HB, hsz, HF⟩ := hrel
    by_cases hlt : k < xs.length
    · have hxk : xs[k]? = some xs[k] := List.getElem?_eq_getElem hlt
      generalize xs[k] = x at hxk
      obtain ⟨b, off, rfl, hDb, hrow⟩ := hx (by rintro rfl; simp at hlt)
      obtain ⟨cs, rfl, hcs⟩ := hrow k x hxk
      have hbl := hD b hDb
      have c0 : wr.cell? ⟨b, off + k * 2, none⟩ = some (.int .i64 x.dst) := (HB.out.cell (p := ⟨b, _, none⟩) hbl).trans (hcs 0 _ rfl).1
      have c1 : wr.cell? ⟨b, off + k * 2 + 1, none⟩ = some (.int .i64 x.src) := (HB.out.cell (p := ⟨b, _, none⟩) hbl).trans (hcs 1 _ rfl).1
      clear hcs hrow hx
      have Hxk := Lib.hid hxk
      clear hxk
      go_wp2_with fail
      refine (toMove_any _ _ _).mono ?_
      rintro e w1 ⟨rfl, hb1⟩
      have hsz1 := hb1.size
      have HF1 : Hid (Fill w1 w.heap.size 89 2 xs.length k EMove xs) := HF.out.keep (hb1.block _ hsz) fun _ _ h => h
      obtain ⟨u0, d0⟩ := HF1.out.cell (j := 0) hlt (by omega)
      obtain ⟨u1, d1⟩ := HF1.out.cell (j := 1) hlt (by omega)
      have f0 := HF1.out.frozen (k * 2)
      have f1 := HF1.out.frozen (k * 2 + 1)
      rw [Nat.add_zero] at d0
      have HB1 : Hid (Below w.heap.size w w1) := HB.out.trans (hb1.mono (by omega))
      clear hb1 HB HF
      go_wp2_with fail
      go_roundw
      case rel =>
        exact ⟨k + 1, by omega, by go_num, (HB1.out.setCell (by simp) _).setCell (by simp) _, by simp; omega, HF1.out.store (cs := [.int .i64 x.dst, .int .i64 x.src]) Hxk.out hlt rfl rfl (fun _ _ h => h) (fun _ _ h => by rw [h]; rfl)⟩
      case measure => simp [intOf]; omega
    · obtain rfl : k = xs.length := by omega
      go_wp2
      go_ret
      exact ⟨_, rfl, HF.out.row (Z := Zn.new _ _) rfl (by omega) ⟨Nat.le_refl _, hsz⟩ _, HB.out⟩

theorem info_Ins : (Tryd.prog.info? 91).map (fun i => (i.zero, i.size, i.bytes)) = some (some (.agg #[.int .i64 0, .int .i64 0, .int .i64 0, .int .i64 0]), 4, 32) := by kernel_rfl

set_option maxHeartbeats 400000 in
theorem toInsS_any (v : Value) (xs : List InsD) (w : World) (Z : Zn) (hv : Row w Z 4 EIns v xs) (hD : ∀ b, Z.D b → b < w.heap.size) (hn : xs.length ≤ 1048576) :
    Calls Tryd.prog 89 #[v] w (GivesV (fun w Z v => Row w Z 4 EIns v xs) w) := by
  obtain ⟨_, A, c, rfl, hx⟩ := hv
  obtain ⟨i0, hi, hz0, hz1, hz2⟩ := info_parts info_Ins
  have hmk := fun W => run_make_rowN (P := Tryd.prog) 67 91 i0 _ Tryd.underlying67 hi hz0 .i64 .i64 xs.length xs.length (Nat.le_refl _) (by rw [hz2]; omega) (by omega) W
  rw [hz1] at hmk
  clear hi hz0 hz1 hz2
  go_enter Tryd.func89, Tryd.ntmps89
  go_wp2
  go_loopw [4] (fun i wr => ∃ k : Nat, k ≤ xs.length ∧ i = .int .i64 k ∧ Hid (Below w.heap.size w wr) ∧ w.heap.size < wr.heap.size ∧ Hid (Fill wr w.heap.size 91 4 xs.length k EIns xs)) (fun i _ => xs.length - (intOf i).toNat)
  case atStart => exact ⟨0, Nat.zero_le _, rfl, (Below.refl _ _).alloc (Nat.le_refl _) _, by simp, Fill.zero (heap_alloc_new w _) (size_madeCells _ _)⟩
  case round =>
    obtain ⟨k, hk, rfl, HB, hsz, HF⟩ := hrel
    by_cases hlt : k < xs.length
    · have hxk : xs[k]? = some xs[k] := List.getElem?_eq_getElem hlt
      generalize xs[k] = x at hxk
      obtain ⟨b, off, rfl, hDb, hrow⟩ := hx (by rintro rfl; simp at hlt)
      obtain ⟨cs, rfl, hcs⟩ := hrow k x hxk
      have hbl := hD b hDb
      have c0 : wr.cell? ⟨b, off + k * 4, none⟩ = some (.int .i64 x.op) := (HB.out.cell (p := ⟨b, _, none⟩) hbl).trans (hcs 0 _ rfl).1
      have c1 : wr.cell? ⟨b, off + k * 4 + 1, none⟩ = some (.int .i64 x.v) := (HB.out.cell (p := ⟨b, _, none⟩) hbl).trans (hcs 1 _ rfl).1
      have c2 : wr.cell? ⟨b, off + k * 4 + 2, none⟩ = some (.int .i64 x.a) := (HB.out.cell (p := ⟨b, _, none⟩) hbl).trans (hcs 2 _ rfl).1
      have c3 : wr.cell? ⟨b, off + k * 4 + 3, none⟩ = some (.int .i64 x.b) := (HB.out.cell (p := ⟨b, _, none⟩) hbl).trans (hcs 3 _ rfl).1
      clear hcs hrow hx
      have Hxk := Lib.hid hxk
      clear hxk
      go_wp2_with fail
      refine (toIns_any _ _ _ _ _).mono ?_
      rintro e w1 ⟨rfl, hb1⟩
      have hsz1 := hb1.size
      have HF1 : Hid (Fill w1 w.heap.size 91 4 xs.length k EIns xs) := HF.out.keep (hb1.block _ hsz) fun _ _ h => h
      obtain ⟨u0, d0⟩ := HF1.out.cell (j := 0) hlt (by omega)
      obtain ⟨u1, d1⟩ := HF1.out.cell (j := 1) hlt (by omega)
      obtain ⟨u2, d2⟩ := HF1.out.cell (j := 2) hlt (by omega)
      obtain ⟨u3, d3⟩ := HF1.out.cell (j := 3) hlt (by omega)
      have f2 := HF1.out.frozen (k * 4 + 2)
      have f3 := HF1.out.frozen (k * 4 + 3)
      have f0 := HF1.out.frozen (k * 4)
      have f1 := HF1.out.frozen (k * 4 + 1)
      rw [Nat.add_zero] at d0
      have HB1 : Hid (Below w.heap.size w w1) := HB.out.trans (hb1.mono (by omega))
      clear hb1 HB HF
      go_wp2_with fail
      go_roundw
      case rel =>
        exact ⟨k + 1, by omega, by go_num, (((HB1.out.setCell (by simp) _).setCell (by simp) _).setCell (by simp) _).setCell (by simp) _, by simp; omega, HF1.out.store (cs := [.int .i64 x.op, .int .i64 x.v, .int .i64 x.a, .int .i64 x.b]) Hxk.out hlt rfl rfl (fun _ _ h => h) (fun _ _ h => by rw [h]; rfl)⟩
      case measure => simp [intOf]; omega
    · obtain rfl : k = xs.length := by omega
      go_wp2
      go_ret
      exact ⟨_, rfl, HF.out.row (Z := Zn.new _ _) rfl (by omega) ⟨Nat.le_refl _, hsz⟩ _, HB.out⟩

theorem info_Int : (Tryd.prog.info? 2).map (fun i => (i.zero, i.size, i.bytes)) = some (some (.int .i64 0), 1, 8) := by kernel_rfl

set_option maxHeartbeats 400000 in
theorem toInt64S_any (v : Value) (xs : List Int) (w : World) (Z : Zn) (hv : Row w Z 1 EInt v xs) (hD : ∀ b, Z.D b → b < w.heap.size) (hn : xs.length ≤ 1048576) :
    Calls Tryd.prog 116 #[v] w (GivesV (fun w Z v => Row w Z 1 EInt v xs) w) := by
  obtain ⟨_, A, c, rfl, hx⟩ := hv
  obtain ⟨i0, hi, hz0, hz1, hz2⟩ := info_parts info_Int
  have hmk := fun W => run_make_rowN (P := Tryd.prog) 29 2 i0 _ Tryd.underlying29 hi hz0 .i64 .i64 xs.length xs.length (Nat.le_refl _) (by rw [hz2]; omega) (by omega) W
  rw [hz1] at hmk
  clear hi hz0 hz1 hz2
  go_enter Tryd.func116, Tryd.ntmps116
  go_wp2
  go_loopw [4] (fun i wr => ∃ k : Nat, k ≤ xs.length ∧ i = .int .i64 k ∧ Hid (Below w.heap.size w wr) ∧ w.heap.size < wr.heap.size ∧ Hid (Fill wr w.heap.size 2 1 xs.length k EInt xs)) (fun i _ => xs.length - (intOf i).toNat)
  case atStart => exact ⟨0, Nat.zero_le _, rfl, (Below.refl _ _).alloc (Nat.le_refl _) _, by simp, Fill.zero (heap_alloc_new w _) (by simp [size_madeCells])⟩
  case round =>
    obtain ⟨k, hk, rfl, HB, hsz, HF⟩ := hrel
    by_cases hlt : k < xs.length
    · have hxk : xs[k]? = some xs[k] := List.getElem?_eq_getElem hlt
      generalize xs[k] = x at hxk
      obtain ⟨b, off, rfl, hDb, hrow⟩ := hx (by rintro rfl; simp at hlt)
      obtain ⟨cs, rfl, hcs⟩ := hrow k x hxk
      have hbl := hD b hDb
      have c0 : wr.cell? ⟨b, off + k, none⟩ = some (.int .i64 x) := (HB.out.cell (p := ⟨b, _, none⟩) hbl).trans (by have := (hcs 0 _ rfl).1; rwa [Nat.mul_one] at this)
      clear hcs hrow hx
      have Hxk := Lib.hid hxk
      clear hxk
      obtain ⟨u0, d0⟩ := HF.out.cell (j := 0) hlt (by omega)
      have f0 := HF.out.frozen k
      rw [Nat.mul_one, Nat.add_zero] at d0
      go_wp2
      go_roundw
      case rel =>
        refine ⟨k + 1, by omega, by go_num, HB.out.setCell (by simp) _, by simp; omega, ?_⟩
        have h := HF.out.store (cs := [.int .i64 x]) Hxk.out hlt rfl rfl (fun _ _ h => h) (fun _ _ h => by rw [h]; rfl)
        rw [Nat.mul_one] at h
        exact h
      case measure => simp [intOf]; omega
    · obtain rfl : k = xs.length := by omega
      go_wp2
      go_ret
      exact ⟨_, rfl, HF.out.row (Z := Zn.new _ _) rfl (by omega) ⟨Nat.le_refl _, hsz⟩ _, HB.out⟩
end

/- toPhi and toPhiS of the laws. -/
section
open Go.ChangeShapes Go.WideShapes Go.ChangeAt Go.RowKit Go.Joins

def GivesE (R : World → Zn → List Value → Prop) (w : World) (e : Ending) (w' : World) : Prop := ∃ cs, e = .returned (.agg cs.toArray) ∧ R w' (Zn.new w.heap.size w'.heap.size) cs ∧ Below w.heap.size w w'

theorem Zn.new_mono {lo lo' hi hi' : Nat} (h1 : lo' ≤ lo) (h2 : hi ≤ hi') : ∀ b, (Zn.new lo hi).D b → (Zn.new lo' hi').D b := fun _ h => ⟨Nat.le_trans h1 h.1, Nat.lt_of_lt_of_le h.2 h2⟩
theorem Kept.new {lo lo' hi hi' : Nat} {w w' : World} (h1 : lo' ≤ lo) (h2 : hi ≤ hi') (hw : ∀ b, lo ≤ b → b < hi → w'.heap[b]? = w.heap[b]?) : Kept (Zn.new lo hi) (Zn.new lo' hi') w w' :=
  ⟨Zn.new_mono h1 h2, fun h => h, fun b h => hw b h.1 h.2⟩

set_option maxHeartbeats 400000 in
theorem toPhi_any (a : Int) (u : Value) (xs : List Int) (w : World) (Z : Zn) (hv : Row w Z 1 EInt u xs) (hD : ∀ b, Z.D b → b < w.heap.size) (hn : xs.length ≤ 1048576) :
    Calls Tryd.prog 105 #[.agg #[.int .i64 a, u]] w (GivesE (fun w Z cs => EPhi w Z ⟨a, xs⟩ cs) w) := by
  have HV := Lib.hid hv
  obtain ⟨_, A, c, rfl, _⟩ := hv
  go_enter Tryd.func105, Tryd.ntmps105
  go_wp2_with fail
  refine (toInt64S_any _ _ _ Z (HV.out.keep (Kept.below (B := w.heap.size) (by repeat (first | exact Below.refl _ _ | refine Below.alloc ?_ (by first | (simp; done) | (simp; omega)) _ | refine Below.setCell ?_ (by simp) _)) hD) fun _ _ h => h) (fun b hb => by have := hD b hb; simp; omega) hn).mono ?_
  rintro e w1 ⟨r, rfl, hr, hb1⟩
  have HR := Lib.hid hr
  obtain ⟨_, A1, c1, rfl, _⟩ := hr
  obtain ⟨hc, hf⟩ := bcell hb1
  have hz : w.heap.size + 3 ≤ w1.heap.size := by have := hb1.size; simp at this; omega
  have HB := Lib.hid hb1
  clear hb1
  go_wp2_with fail
  refine bodyPost_ret (v := .agg #[.int .i64 a, .slice A1 xs.length c1]) (by simp [results, Tryd.results105, go_sem, hc]) rfl ?_
  refine ⟨[.int .i64 a, .slice A1 xs.length c1], rfl, ⟨_, rfl, HR.out.keep (Kept.new (by simp; omega) (by simp) fun b h1 h2 => ?_) fun _ _ h => h⟩, ?_⟩
  · simp at h1
    repeat (first | rfl | refine (Below.heap_setCell _ _ _ _ (by simp; omega)).trans ?_)
  · refine Below.setCell (Below.setCell (Below.setCell (Below.trans ?_ (HB.out.mono (by simp; omega))) (by simp; omega) _) (by simp) _) (by simp) _
    repeat (first | exact Below.refl _ _ | refine Below.alloc ?_ (by first | (simp; done) | (simp; omega)) _ | refine Below.setCell ?_ (by simp) _)

theorem info_Phi : (Tryd.prog.info? 94).map (fun i => (i.zero, i.size, i.bytes)) = some (some (.agg #[.int .i64 0, .slice none 0 0]), 2, 32) := by kernel_rfl

theorem EPhi.len {w : World} {Z : Zn} (p : PhiD) (cs : List Value) (h : EPhi w Z p cs) : cs.length = 2 := by
  obtain ⟨v, rfl, _⟩ := h
  rfl

def smallPhi (p : PhiD) : Prop := p.args.length ≤ 1048576

set_option maxHeartbeats 400000 in
theorem toPhiS_any (v : Value) (xs : List PhiD) (w : World) (Z : Zn) (hv : Row w Z 2 (EPhi w Z) v xs) (hD : ∀ b, Z.D b → b < w.heap.size) (hn : xs.length ≤ 1048576) (hm : ∀ p ∈ xs, smallPhi p) :
    Calls Tryd.prog 87 #[v] w (GivesV (fun w Z v => Row w Z 2 (EPhi w Z) v xs) w) := by
  obtain ⟨_, A, c, rfl, hx⟩ := hv
  obtain ⟨i0, hi, hz0, hz1, hz2⟩ := info_parts info_Phi
  have hmk := fun W => run_make_rowN (P := Tryd.prog) 65 94 i0 _ Tryd.underlying65 hi hz0 .i64 .i64 xs.length xs.length (Nat.le_refl _) (by rw [hz2]; omega) (by omega) W
  rw [hz1] at hmk
  clear hi hz0 hz1 hz2
  go_enter Tryd.func87, Tryd.ntmps87
  go_wp2
  go_loopw [4] (fun i wr => ∃ k : Nat, k ≤ xs.length ∧ i = .int .i64 k ∧ Hid (Below w.heap.size w wr) ∧ w.heap.size < wr.heap.size ∧ Hid (Fill wr w.heap.size 94 2 xs.length k (EPhi wr (Zn.new (w.heap.size + 1) wr.heap.size)) xs)) (fun i _ => xs.length - (intOf i).toNat)
  case atStart => exact ⟨0, Nat.zero_le _, rfl, (Below.refl _ _).alloc (Nat.le_refl _) _, by simp, Fill.zero (heap_alloc_new w _) (size_madeCells _ _)⟩
  case round =>
    obtain ⟨k, hk, rfl, HB, hsz, HF⟩ := hrel
    by_cases hlt : k < xs.length
    · have hxk : xs[k]? = some xs[k] := List.getElem?_eq_getElem hlt
      have hmk := hm _ (List.getElem_mem hlt)
      generalize xs[k] = x at hxk hmk
      obtain ⟨b, off, rfl, hDb, hrow⟩ := hx (by rintro rfl; simp at hlt)
      obtain ⟨cs, ⟨u, rfl, hu⟩, hcs⟩ := hrow k x hxk
      have hbl := hD b hDb
      have c0 : wr.cell? ⟨b, off + k * 2, none⟩ = some (.int .i64 x.v) := (HB.out.cell (p := ⟨b, _, none⟩) hbl).trans (hcs 0 _ rfl).1
      have c1 : wr.cell? ⟨b, off + k * 2 + 1, none⟩ = some u := (HB.out.cell (p := ⟨b, _, none⟩) hbl).trans (hcs 1 _ rfl).1
      have HU := Lib.hid (hu.keep (Kept.below HB.out hD) fun _ _ h => h)
      have Hxk := Lib.hid hxk
      have Hm := Lib.hid hmk
      clear hcs hrow hx hxk hu hmk
      go_wp2_with fail
      refine (toPhi_any x.v u x.args wr Z HU.out (fun b hb => by have := hD b hb; have := HB.out.size; omega) Hm.out).mono ?_
      rintro e w1 ⟨cs, rfl, ⟨r, rfl, hr⟩, hb1⟩
      have HR := Lib.hid hr
      obtain ⟨_, A1, c1', rfl, _⟩ := hr
      have hsz1 := hb1.size
      have HF1 : Hid (Fill w1 w.heap.size 94 2 xs.length k (EPhi w1 (Zn.new (w.heap.size + 1) w1.heap.size)) xs) := HF.out.keep (hb1.block _ hsz) fun _ _ h => h.keep (Kept.new (Nat.le_refl _) hsz1 fun b _ h2 => hb1.block b h2)
      obtain ⟨u0, d0⟩ := HF1.out.cell (j := 0) hlt (by omega)
      obtain ⟨u1, d1⟩ := HF1.out.cell (j := 1) hlt (by omega)
      have f0 := HF1.out.frozen (k * 2)
      have f1 := HF1.out.frozen (k * 2 + 1)
      rw [Nat.add_zero] at d0
      have HB1 : Hid (Below w.heap.size w w1) := HB.out.trans (hb1.mono (by omega))
      clear hb1 HB HF
      go_wp2_with fail
      go_roundw
      case rel =>
        refine ⟨k + 1, by omega, by go_num, (HB1.out.setCell (by simp) _).setCell (by simp) _, by simp; omega, ?_⟩
        have hg := storeAll_grown [.int .i64 x.v, .slice A1 x.args.length c1'] w1 w.heap.size (k * 2)
        have hK : ∀ lo, w.heap.size + 1 ≤ lo → Kept (Zn.new lo w1.heap.size) (Zn.new (w.heap.size + 1) w1.heap.size) w1 _ := fun lo hlo => Kept.new hlo (Nat.le_refl _) fun b h1 h2 => hg.block b h2 (by simp; omega)
        have h := HF1.out.store (cs := [.int .i64 x.v, .slice A1 x.args.length c1']) (E' := EPhi (storeAll w1 w.heap.size (k * 2) [.int .i64 x.v, .slice A1 x.args.length c1']) (Zn.new (w.heap.size + 1) w1.heap.size)) Hxk.out hlt ⟨_, rfl, HR.out.keep (hK _ (by omega)) fun _ _ h => h⟩ rfl (fun _ _ h => h.keep (hK _ (Nat.le_refl _))) (fun _ _ h => h.len)
        simpa [storeAll, Hid] using h
      case measure => simp [intOf]; omega
    · obtain rfl : k = xs.length := by omega
      go_wp2
      go_ret
      exact ⟨_, rfl, (HF.out.keep rfl fun _ _ h => h.keep (Kept.new (by omega) (Nat.le_refl _) fun _ _ _ => rfl)).row (Z := Zn.new _ _) rfl (by omega) ⟨Nat.le_refl _, hsz⟩ _, HB.out⟩
end

end Go.Proofs.YteikpekffgifoaaDoor
