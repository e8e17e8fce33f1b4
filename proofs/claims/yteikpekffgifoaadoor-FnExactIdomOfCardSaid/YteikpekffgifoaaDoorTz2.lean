/- without and list of the program's sets. -/
import Derived.Test.YteikpekffgifoaaDoorTz
import Derived.Test.YteikpekffgifoaaDoorDomP
import Derived.Test.YteikpekffgifoaaDoorL2b
namespace Go.Proofs.YteikpekffgifoaaDoor
open Go.ChangeShapes Go.WideShapes Go.ChangeAt Go.RowKit Go.Joins

/-- s without b. -/
def clr (s b : Nat) : Nat := s &&& (18446744073709551615 - 2 ^ b)
theorem clr_bit {s b : Nat} (hs : s < 18446744073709551616) (hb : b < 64) (i : Nat) : (clr s b).testBit i = (s.testBit i && decide (b ≠ i)) := by
  have h64 : 2 ^ b < 2 ^ 64 := pow_lt64 hb
  have e : 18446744073709551615 - 2 ^ b = 2 ^ 64 - (2 ^ b + 1) := by omega
  unfold clr
  rw [Nat.testBit_and, e, Nat.testBit_two_pow_sub_succ h64, bit_pow]
  by_cases h : i < 64
  · by_cases hbi : b = i <;> simp [h, hbi]
  · have : s.testBit i = false := Nat.testBit_lt_two_pow (Nat.lt_of_lt_of_le hs (Nat.pow_le_pow_right (n := 2) (i := 64) (by decide) (by omega)))
    rw [this]; simp
theorem clr_le {s b n : Nat} (h : s ≤ n) : clr s b ≤ n := Nat.le_trans Nat.and_le_left h

set_option maxHeartbeats 400000 in
theorem without_any (s b : Nat) (w : World) (hs : s < 18446744073709551616) (hb : b < 64) :
    Calls Tryd.prog 30 #[.int .u64 (s : Int), .int .i64 (b : Int)] w fun e w' => e = .returned (.int .u64 ((clr s b : Nat) : Int)) ∧ w = w' := by
  have hb0 : ¬ (b : Int) < 0 := by omega
  have h1 := wrap_pow b hb
  have h2 : bits .andNot .u64 (s : Int) ((2 ^ b : Nat) : Int) = ((clr s b : Nat) : Int) := u64_andNot_nat s (2 ^ b) hs (pow_lt64 hb)
  generalize clr s b = c at *
  generalize hp : 2 ^ b = p at *
  go_enter Tryd.func30, Tryd.ntmps30
  go_wp2
  go_ret
  exact ⟨rfl, rfl⟩

/-- The bits below k, rising. -/
def bitsTo (s k : Nat) : List Int := ((List.range k).filter fun i => s.testBit i).map fun (i : Nat) => (i : Int)
theorem bitsTo_len (s k : Nat) : (bitsTo s k).length ≤ k := by
  unfold bitsTo
  rw [List.length_map]
  exact Nat.le_trans (List.length_filter_le _ _) (by simp)
theorem bitsTo_mem (s k : Nat) (x : Int) : x ∈ bitsTo s k ↔ ∃ i : Nat, x = (i : Int) ∧ i < k ∧ s.testBit i = true := by
  unfold bitsTo
  rw [List.mem_map]
  constructor
  · rintro ⟨i, hi, rfl⟩
    rw [List.mem_filter, List.mem_range] at hi
    exact ⟨i, rfl, hi.1, hi.2⟩
  · rintro ⟨i, rfl, h1, h2⟩
    exact ⟨i, List.mem_filter.2 ⟨List.mem_range.2 h1, h2⟩, rfl⟩
theorem bitsTo_same {s : Nat} : ∀ {j k : Nat}, k ≤ j → (∀ i, k ≤ i → i < j → s.testBit i = false) → bitsTo s j = bitsTo s k
  | 0, k, h, _ => by rw [show k = 0 by omega]
  | j + 1, k, h, hf => by
    by_cases e : k = j + 1
    · rw [e]
    · rw [← bitsTo_same (s := s) (j := j) (k := k) (by omega) fun i h1 h2 => hf i h1 (by omega)]
      unfold bitsTo
      rw [List.range_succ, List.filter_append, List.filter_cons, hf j (by omega) (by omega)]
      simp
theorem bitsTo_next {s k t : Nat} (hk : k ≤ t) (hf : ∀ i, k ≤ i → i < t → s.testBit i = false) (ht : s.testBit t = true) : bitsTo s (t + 1) = bitsTo s k ++ [(t : Int)] := by
  rw [← bitsTo_same hk hf]
  unfold bitsTo
  rw [List.range_succ, List.filter_append, List.filter_cons, if_pos ht]
  simp

theorem low_lt {l t m : Nat} (h : l = 2 ^ t * (2 * m + 1)) (hl : l ≤ allBits) : t < 40 := by
  have h1 : l.testBit t = true := by rw [h, odd_bit]; simp
  have h2 : 2 ^ t ≤ l := Nat.ge_two_pow_of_testBit h1
  have h3 : 2 ^ t < 2 ^ 40 := Nat.lt_of_le_of_lt (Nat.le_trans h2 hl) (by decide)
  exact (Nat.pow_lt_pow_iff_right (a := 2) (by decide)).1 h3
/-- A round: the lowest one is taken off. -/
theorem list_step {s k l t m : Nat} (hl : l ≤ allBits) (hk : ∀ i, l.testBit i = (decide (k ≤ i) && s.testBit i)) (h : l = 2 ^ t * (2 * m + 1)) : k ≤ t ∧ bitsTo s (t + 1) = bitsTo s k ++ [(t : Int)] ∧ (∀ i, (clr l t).testBit i = (decide (t + 1 ≤ i) && s.testBit i)) ∧ clr l t < l := by
  have ht := low_lt h hl
  have hls : l < 18446744073709551616 := Nat.lt_of_le_of_lt hl (by decide)
  have h1 : l.testBit t = true := by rw [h, odd_bit]; simp
  have h2 : ∀ i, i < t → l.testBit i = false := fun i hi => by rw [h, odd_bit, decide_eq_false (by omega)]; rfl
  have h3 := hk t
  rw [h1] at h3
  have h4 : decide (k ≤ t) = true ∧ s.testBit t = true := by simpa using h3.symm
  have hkt : k ≤ t := by simpa using h4.1
  have h5 : ∀ i, k ≤ i → i < t → s.testBit i = false := fun i hi hit => by
    have := hk i
    rw [h2 i hit, decide_eq_true hi, Bool.true_and] at this
    exact this.symm
  refine ⟨hkt, bitsTo_next hkt h5 h4.2, fun i => ?_, ?_⟩
  · rw [clr_bit hls (by omega), hk i]
    by_cases hi : t + 1 ≤ i
    · have e1 : k ≤ i := by omega
      have e2 : t ≠ i := by omega
      simp [hi, e1, e2]
    · by_cases e : t = i
      · subst e; rw [decide_eq_false hi]; simp
      · by_cases hki : k ≤ i
        · rw [h5 i hki (by omega)]; simp
        · simp [hi, hki]
  · have h6 : clr l t ≤ l := clr_le (Nat.le_refl _)
    have h7 : clr l t ≠ l := fun e => by
      have := clr_bit hls (show t < 64 by omega) t
      rw [e, h1] at this
      simp at this
    omega

def GivesList (s : Nat) (w : World) (e : Ending) (w' : World) : Prop := ∃ r, e = .returned r ∧ OI w' w.heap.size r (bitsTo s 40) ∧ Below w.heap.size w w'

set_option maxRecDepth 10000 in
set_option maxHeartbeats 1000000 in
theorem list_any (s : Nat) (w : World) (hs : s ≤ allBits) (hT : Tab w) :
    Calls Tryd.prog 26 #[.int .u64 (s : Int)] w (GivesList s w) := by
  have HT := Lib.hid hT
  clear hT
  go_enter Tryd.func26, Tryd.ntmps26
  go_wp2
  go_loopw [3, 4] (fun lv iv wr => ∃ k l : Nat, iv = .int .u64 (l : Int) ∧ k ≤ 40 ∧ Hid (OI wr w.heap.size lv (bitsTo s k)) ∧ Hid (∀ i, l.testBit i = (decide (k ≤ i) && s.testBit i)) ∧ Hid (Below w.heap.size w wr) ∧ l ≤ allBits) (fun _ iv _ => (intOf iv).toNat)
  case atStart => exact ⟨0, s, rfl, by omega, OI_lit0 w rfl (Nat.le_refl _), fun i => by simp, (Below.refl _ _).alloc (Nat.le_refl _) _, hs⟩
  case round =>
    obtain ⟨k, l, rfl, hk, HO, HK, HB, hl⟩ := hrel
    by_cases h0 : l = 0
    · subst h0
      have hne : (((0 : Nat) : Int) != 0) = false := rfl
      have he : bitsTo s 40 = bitsTo s k := bitsTo_same hk fun i hi _ => by
        have := HK.out i
        rw [bit_zero, decide_eq_true hi, Bool.true_and] at this
        exact this.symm
      have HE := Lib.hid he
      clear he
      go_wp2
      go_ret
      exact ⟨_, rfl, by rw [HE.out]; exact HO.out, HB.out⟩
    have hne : ((l : Int) != 0) = true := by simp; omega
    obtain ⟨t, m, hlow⟩ := low_bit l h0
    have ht := low_lt hlow hl
    have hst := list_step hl HK.out hlow
    have HST := Lib.hid hst
    have HLO := Lib.hid hlow
    have hls : l < 18446744073709551616 := Nat.lt_of_le_of_lt hl (by decide)
    have hlen := bitsTo_len s k
    have hz := HB.out.size
    have HTr : Hid (Tab wr) := HT.out.keep HB.out
    obtain ⟨_, A, c, rfl, _⟩ := HO.out.ri
    clear hlow hst h0
    go_wp2_with fail
    refine (TrailingZeros64_any l t m _ HLO.out hls (by omega) HTr.out).mono ?_
    rintro e w' ⟨rfl, rfl⟩
    go_wp2_with (first
      | (at_builtin; go_must (refine wpList_append_int rfl (.tmp 12) (.tmp 14) rfl w.heap.size _ (bitsTo s k) t wr rfl HO.out rfl (by omega) (by omega) ?_; intro v' w2 hown2 hg2 hat2; have HO2 := Lib.hid hown2; have HG2 := Lib.hid hg2; obtain ⟨_, A8, q8, rfl, _⟩ := hown2.ri; clear hown2 hg2 hat2))
      | fail)
    refine (without_any l t _ hls (by omega)).mono ?_
    rintro e w' ⟨rfl, rfl⟩
    have el : (bitsTo s k ++ [(t : Int)]).length = (bitsTo s k).length + 1 := by simp
    rw [el] at HO2
    clear el
    have HBn : Hid (Below w.heap.size w w2) := HB.out.grown HG2.out hz fun k hk => (HO.out.lt k hk).1
    go_wp2_with fail
    go_roundw
    case rel => exact ⟨t + 1, clr l t, rfl, by omega, by rw [HST.out.2.1]; exact HO2.out, HST.out.2.2.1, HBn.out, clr_le hl⟩
    case measure => have := HST.out.2.2.2; simp [intOf]; omega

end Go.Proofs.YteikpekffgifoaaDoor
