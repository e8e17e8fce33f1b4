/- endOk and ok of a block, by the program. -/
import Derived.Test.YtbghcoihndlihaaM2
namespace Go.Proofs.Ytbghcoihndlihaa
open Go.ChangeShapes Go.WideShapes Go.ChangeAt Go.RowKit Go.Joins

theorem endOk_cases {e : EndD} (h : endOkB e.k e.a e.t e.l = true) : (e.k = 1 ∧ 0 ≤ e.a ∧ e.t = 0 ∧ e.l = 0) ∨ (e.k = 2 ∧ 0 ≤ e.t ∧ e.l = 0) ∨ (e.k = 3 ∧ 0 ≤ e.a ∧ 0 ≤ e.t ∧ 0 ≤ e.l ∧ e.t ≠ e.l) := by
  unfold endOkB at h
  by_cases h1 : e.k = 1
  · rw [if_pos h1] at h
    simp [isNameB] at h
    exact .inl ⟨h1, h.1.1.1, h.1.2, h.2⟩
  rw [if_neg h1] at h
  by_cases h2 : e.k = 2
  · rw [if_pos h2] at h
    simp [isBelowB] at h
    exact .inr (.inl ⟨h2, h.1.2.1, h.2⟩)
  rw [if_neg h2] at h
  by_cases h3 : e.k = 3
  · rw [if_pos h3] at h
    simp [isBelowB, isNameB] at h
    exact .inr (.inr ⟨h3, h.1.1.1.1, h.1.1.2.1, h.1.2.1, h.2⟩)
  rw [if_neg h3] at h
  cases h

theorem succs_below {e : EndD} {blocks : Nat} (h : endOkB e.k e.a e.t e.l = true) (hb : 1 ≤ blocks) : (∀ u ∈ succsL e.k e.a e.t e.l, isBelowB u blocks = true) ↔ (e.t < blocks ∧ e.l < blocks) := by
  have hs : succsL e.k e.a e.t e.l = toL e.k e.t e.l := by simp [succsL, h]
  rw [hs]
  rcases endOk_cases h with ⟨h1, h2, h3, h4⟩ | ⟨h1, h2, h3⟩ | ⟨h1, h2, h3, h4, h5⟩
  · rw [h1]; simp [toL]; omega
  · rw [h1]; simp [toL, isBelowB]; omega
  · rw [h1]; simp [toL, isBelowB]; omega

theorem end_a {e : EndD} {names : Int} (h : endOkB e.k e.a e.t e.l = true) (h2 : e.k ≠ 2) : isBelowB e.a names = true ↔ e.a < names := by
  rcases endOk_cases h with ⟨h1, h3, _⟩ | ⟨h1, _⟩ | ⟨h1, h3, _⟩
  · simp [isBelowB]; omega
  · exact absurd h1 h2
  · simp [isBelowB]; omega

set_option maxRecDepth 10000 in
set_option maxHeartbeats 1000000 in
theorem endOk_any (x : BlockD) (cs : List Value) (names : Int) (blocks preds : Nat) (w : World) (Z : Zn) (hv : EBlock w Z x cs) (hb : 1 ≤ blocks) :
    Calls Try.prog 68 #[.agg cs.toArray, .agg #[.int .i64 names, .int .i64 blocks, .int .i64 preds]] w (GivesB (EndP names blocks x.fin) w) := by
  obtain ⟨A0, c0, A1, c1, A2, c2, A3, c3, rfl, _, _, _, _⟩ := hv.parts
  clear hv
  go_enter Try.func68, Try.ntmps68
  go_wp2_with fail
  refine (EndOk_any _ _ _ _ _).mono ?_
  rintro e w1 ⟨rfl, hb1⟩
  have HB1 := Lib.hid (hb1.mono (B' := w.heap.size + 2) (by simp))
  have HB01 : Hid (Below w.heap.size w w1) := (((Below.refl _ _).alloc (Nat.le_refl _) _).alloc (by simp) _).trans (HB1.out.mono (by omega))
  have hz1 : w.heap.size + 2 ≤ w1.heap.size := by have := hb1.size; simp at this; omega
  obtain ⟨hc1, hf1⟩ := bcellB HB1.out
  clear hb1 hf1
  cases hok : endOkB x.fin.k x.fin.a x.fin.t x.fin.l
  · have HN : Hid (¬ EndP names blocks x.fin) := fun h => by have := h.1; rw [hok] at this; cases this
    go_wp2_with fail
    go_ret
    exact gives_no HN.out HB01.out
  have HOK := Lib.hid hok
  clear hok
  go_wp2_with fail
  refine (SuccsOf_any _ _ _ _ _).mono ?_
  rintro e w2 ⟨r, rfl, hr, hb2⟩
  have HB2 := Lib.hid (HB1.out.trans (hb2.mono hz1))
  have HB02 : Hid (Below w.heap.size w w2) := (((Below.refl _ _).alloc (Nat.le_refl _) _).alloc (by simp) _).trans (HB2.out.mono (by omega))
  obtain ⟨hc2, hf2⟩ := bcellB (hb2.mono hz1)
  have hu := hr.ri
  have hul := succsL_len x.fin.k x.fin.a x.fin.t x.fin.l
  have HU : Hid (∀ u, u ∈ succsL x.fin.k x.fin.a x.fin.t x.fin.l ↔ ∃ j, (succsL x.fin.k x.fin.a x.fin.t x.fin.l)[j]? = some u) := fun u => List.mem_iff_getElem?
  have HSB := Lib.hid (succs_below HOK.out hb)
  clear hr hb2 hf2
  generalize succsL x.fin.k x.fin.a x.fin.t x.fin.l = us at hu hul HU HSB
  obtain ⟨_, A5, c8, rfl, hux⟩ := hu
  go_wp2_with fail
  go_loop [15] (fun q => ∃ j : Nat, j ≤ us.length ∧ q = .int .i64 j ∧ Hid (∀ (j' : Nat) u, j' < j → us[j']? = some u → isBelowB u blocks = true)) (fun q => us.length - (intOf q).toNat)
  case atStart => exact ⟨0, Nat.zero_le _, rfl, fun _ _ h => absurd h (by omega)⟩
  case round =>
    obtain ⟨j, hj, rfl, H3⟩ := hrel
    by_cases hjl : j < us.length
    case neg =>
      obtain rfl : j = us.length := by omega
      have HTL : Hid (x.fin.t < blocks ∧ x.fin.l < blocks) := HSB.out.1 fun u hu => by
        obtain ⟨i, hi⟩ := (HU.out u).1 hu
        exact H3.out i u (List.getElem?_eq_some_iff.1 hi).1 hi
      by_cases hk2 : x.fin.k = 2
      · have g1 : (x.fin.k == 2) = true := by simpa using hk2
        have HY : Hid (EndP names blocks x.fin) := ⟨HOK.out, .inl hk2, HTL.out.1, HTL.out.2⟩
        clear hk2
        go_wp2_with (go_at_call 21; refine (isBelow_any _ _ _).mono ?_; rintro e w' ⟨rfl, rfl⟩)
        go_ret
        exact gives_yes HY.out HB02.out
      · have g1 : (x.fin.k == 2) = false := by simpa using hk2
        cases hA : isBelowB x.fin.a names
        · have HN : Hid (¬ EndP names blocks x.fin) := fun h => by
            rcases h.2.1 with h | h
            · exact hk2 h
            · have := (end_a (names := names) HOK.out hk2).2 h
              rw [hA] at this; cases this
          clear hk2
          go_wp2_with (go_at_call 21; refine (isBelow_any _ _ _).mono ?_; rintro e w' ⟨rfl, rfl⟩)
          go_ret
          exact gives_no HN.out HB02.out
        · have HY : Hid (EndP names blocks x.fin) := ⟨HOK.out, .inr ((end_a HOK.out hk2).1 hA), HTL.out.1, HTL.out.2⟩
          clear hk2
          go_wp2_with (go_at_call 21; refine (isBelow_any _ _ _).mono ?_; rintro e w' ⟨rfl, rfl⟩)
          go_ret
          exact gives_yes HY.out HB02.out
    have hxj : us[j]? = some us[j] := List.getElem?_eq_getElem hjl
    generalize us[j] = u at hxj
    obtain ⟨b', off', rfl, hcell⟩ := hux (by rintro rfl; simp at hjl)
    have Hxj := Lib.hid hxj
    have hp0 : w2.cell? ⟨b', off' + j, none⟩ = some (.int .i64 u) := hcell j u hxj
    clear hcell hux hxj
    cases hun : isBelowB u blocks
    · have HN : Hid (¬ EndP names blocks x.fin) := fun h => by
        have := HSB.out.2 ⟨h.2.2.1, h.2.2.2⟩ u ((HU.out u).2 ⟨j, Hxj.out⟩)
        rw [hun] at this; cases this
      go_wp2_with (go_at_call 21; refine (isBelow_any _ _ _).mono ?_; rintro e w' ⟨rfl, rfl⟩)
      go_ret
      exact gives_no HN.out HB02.out
    · have H3' : Hid (∀ (j' : Nat) u, j' < j + 1 → us[j']? = some u → isBelowB u blocks = true) := fun j' u' hj' hm' => by
        by_cases e : j' = j
        · subst e
          rw [Hxj.out] at hm'
          injection hm' with hm'
          subst hm'
          exact hun
        · exact H3.out j' u' (by omega) hm'
      go_wp2_with (go_at_call 21; refine (isBelow_any _ _ _).mono ?_; rintro e w' ⟨rfl, rfl⟩)
      go_round
      case rel => exact ⟨j + 1, by omega, by go_num, H3'⟩
      case measure => simp [intOf]; omega

end Go.Proofs.Ytbghcoihndlihaa
