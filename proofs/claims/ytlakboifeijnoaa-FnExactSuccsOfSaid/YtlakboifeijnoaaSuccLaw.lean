/- FnExactSuccsOf: for every End SuccsOf answers as its model does, in memory of its own; no condition. -/
import Derived.Test.YtlakboifeijnoaaEnd
namespace Go.Proofs.Ytlakboifeijnoaa
open Go.ChangeShapes Go.WideShapes Go.ChangeAt Go.RowKit Go.Joins

set_option maxHeartbeats 1000000 in
theorem FnExactSuccsOf_any (o v a b : Int) (w : World) :
    Calls Try.prog 5 #[.agg #[.int .i64 o, .int .i64 v, .int .i64 a, .int .i64 b]] w fun e w' => e = .returned (.bool true) ∧ Below w.heap.size w w' := by
  have hlen := succsL_len o v a b
  generalize hxs : succsL o v a b = xs at hlen
  have HX := Lib.hid hxs
  clear hxs
  go_enter Try.func5, Try.ntmps5
  go_wp2_with fail
  refine (toEnd_any _ _ _ _ _).mono ?_
  rintro e w1 ⟨rfl, hb1⟩
  have hs0 : (w.alloc (.cells #[.int .i64 o, .int .i64 v, .int .i64 a, .int .i64 b] 45)).heap.size = w.heap.size + 1 := by simp
  rw [hs0] at hb1
  have hz1 : w.heap.size + 1 ≤ w1.heap.size := by have := hb1.size; rw [hs0] at this; exact this
  clear hs0
  obtain ⟨hc, hf⟩ := bcellB hb1
  go_wp2_with fail
  refine (sSuccsOf_any _ _ _ _ _).mono ?_
  rintro e w2 ⟨r0, rfl, hr0, hb2⟩
  have hz2 : w1.heap.size ≤ w2.heap.size := hb2.size
  replace hb2 := hb1.trans (hb2.mono hz1)
  clear hc hf
  obtain ⟨hc, hf⟩ := bcellB hb2
  rw [HX.out] at hr0
  go_wp2_with fail
  refine (toEnd_any _ _ _ _ _).mono ?_
  rintro e w3 ⟨rfl, hq3⟩
  have hz3 : w2.heap.size ≤ w3.heap.size := hq3.size
  have hb3 := hb2.trans (hq3.mono (by omega))
  clear hc hf
  obtain ⟨hc, hf⟩ := bcellB hb3
  go_wp2_with fail
  refine (SuccsOf_any _ _ _ _ _).mono ?_
  rintro e w4 ⟨r1, rfl, hr1, hq4⟩
  have hz4 : w3.heap.size ≤ w4.heap.size := hq4.size
  have hb4 := hb3.trans (hq4.mono (by omega))
  clear hc hf
  obtain ⟨hc, hf⟩ := bcellB hb4
  rw [HX.out] at hr1
  have hr0' : OI w4 w1.heap.size r0 xs := (hr0.below hq3 fun k hk => (hr0.lt k hk).2).below hq4 fun k hk => by have := (hr0.lt k hk).2; omega
  go_wp2_with fail
  refine (eqInt64S_same _ _ _ _ hr1.ri hr0'.ri).mono ?_
  rintro e w5 ⟨rfl, n5, rfl⟩
  go_wp2_with fail
  refine (markInt64S_any _ _ _ _ _ (hr1.drewN n5) (by omega) (by omega)).mono ?_
  rintro e w6 ⟨rfl, hm6, hg6⟩
  have hz6 : w4.heap.size ≤ w6.heap.size := hg6.size
  have hr0'' : OI w6 w1.heap.size r0 xs := (hr0'.drewN n5).grown hg6 (by
    rcases hob : r0.ownBlock with _ | k
    · exact .inl rfl
    · refine .inr fun h => ?_
      have h1 := (hr0.lt k hob).2
      have h2 := (hr1.lt k h.symm).1
      omega)
  have hb6 : Below (w.heap.size + 1) _ w6 := Below.grown (below_drewN hb4 n5) hg6 (by show _ ≤ w4.heap.size; omega) fun k hk => by have := (hr1.lt k hk).1; omega
  clear hc hf
  obtain ⟨hc, hf⟩ := bcellB hb6
  go_wp2_with fail
  refine (heldInt64S_any _ _ _ _ hm6.ri (by omega) (by omega)).mono ?_
  rintro e w7 ⟨rfl, rfl⟩
  go_wp2_with fail
  refine (toEnd_any _ _ _ _ _).mono ?_
  rintro e w8 ⟨rfl, hq8⟩
  have hz8 : w6.heap.size ≤ w8.heap.size := hq8.size
  have hb8 := hb6.trans (hq8.mono (by omega))
  clear hc hf
  obtain ⟨hc, hf⟩ := bcellB hb8
  go_wp2_with fail
  refine (SuccsOf_any _ _ _ _ _).mono ?_
  rintro e w9 ⟨r2, rfl, hr2, hq9⟩
  have hz9 : w8.heap.size ≤ w9.heap.size := hq9.size
  have hb9 := hb8.trans (hq9.mono (by omega))
  rw [HX.out] at hr2
  have hr09 : OI w9 w1.heap.size r0 xs := (hr0''.below hq8 fun k hk => by have := (hr0.lt k hk).2; omega).below hq9 fun k hk => by have := (hr0.lt k hk).2; omega
  have hm9 : OI w9 w3.heap.size r1 (markL 1 xs.length) := (hm6.below hq8 fun k hk => (hm6.lt k hk).2).below hq9 fun k hk => by have := (hm6.lt k hk).2; omega
  clear hc hf
  go_wp2_with fail
  refine (eqInt64S_same _ _ _ _ hr2.ri hr09.ri).mono ?_
  rintro e w10 ⟨rfl, n10, rfl⟩
  go_wp2_with fail
  refine (heldInt64S_any _ _ _ _ (hm9.drewN n10).ri (by omega) (by omega)).mono ?_
  rintro e w11 ⟨rfl, rfl⟩
  go_wp2_with fail
  go_ret
  have hw : Below w.heap.size w (w.alloc (.cells #[.int .i64 o, .int .i64 v, .int .i64 a, .int .i64 b] 45)) := (Below.refl _ _).alloc (Nat.le_refl _) _
  exact ⟨rfl, hw.trans ((below_drewN hb9 n10).mono (by omega))⟩

set_option maxRecDepth 100000 in
theorem FnExactSuccsOf_lifted (os : Os) (started : os.Started) (H : Type) (enc : TypeId × Value → H) :
    ReturnsInHanded {} Try.checked os 5 .any (Rows.fnExactSuccsOfSpec.pre6 enc Try.prog Try.f5 Rows.fnExactSuccsOfRow.domain false) (Rows.fnExactSuccsOfSpec.post enc Try.prog Try.f5 false true false false) := by
  refine returnsInHanded_of_change (C := Try.checked) Try.own started (by kernel_rfl) Try.func5
    (ChangeSpec.witness6 (enc := enc) (C := Try.checked) false ⟨#[], #[.agg #[.int .i64 0, .int .i64 0, .int .i64 0, .int .i64 0]], []⟩ 8 (by kernel_rfl) (by kernel_rfl) (by kernel_rfl) (by kernel_rfl)) ?_
  intro W base args ds gs before hval0 hW _ _
  have hval : ∀ (j : Nat) t v, Try.f5.params[j]? = some t → args[j]? = some v → Value.okWide Try.prog W .any base t v := hval0
  have hW' : DataW.Whole enc Try.prog Try.f5.params.toList Rows.fnExactSuccsOfSpec.vars false W args.toList ds gs before := hW
  obtain ⟨p, q, hA, hV, rfl, _, _⟩ := hW'
  rw [Try.params5] at hA hval
  obtain ⟨v0, d0, rfl, rfl, h0⟩ := trodAll_one hA
  obtain ⟨rfl, rfl⟩ := trodVars_none hV
  obtain ⟨c0, c1, c2, c3, y0, y1, y2, y3, m, rfl, rfl, rfl, hy0, hy1, hy2, hy3⟩ := open_agg4 Try.underlying45 (by kernel_rfl) (by kernel_rfl) (hval 0 _ v0 rfl rfl) h0
  obtain ⟨a0, e0, rfl, -⟩ := DataW.trod_int Try.underlying2 hy0
  obtain ⟨a1, e1, rfl, -⟩ := DataW.trod_int Try.underlying2 hy1
  obtain ⟨a2, e2, rfl, -⟩ := DataW.trod_int Try.underlying2 hy2
  obtain ⟨a3, e3, rfl, -⟩ := DataW.trod_int Try.underlying2 hy3
  simp at e0 e1 e2 e3
  subst e0 e1 e2 e3
  refine (FnExactSuccsOf_any a0 a1 a2 a3 W).mono fun e W' ⟨he, hb⟩ => ⟨_, he, ?_⟩
  exact law_done (t := 4) Try.laidOut (by kernel_rfl) (by kernel_rfl) Try.underlying4 rfl hW ⟨rfl, rfl, rfl⟩ hb

theorem FnExactSuccsOf_holds : Rows.FnExactSuccsOfSaid :=
  OpenClaim.holds_of_wide 5 Try.f5 rfl rfl rfl rfl rfl rfl rfl ⟨rfl, rfl, rfl, rfl, rfl⟩ rfl rfl rfl rfl rfl (by kernel_rfl) Try.func5 (by kernel_rfl)
    (of_decide_eq_true (by kernel_rfl)) (by unfold Func.isWrapper; first | (rw [if_pos (by decide +kernel)]; kernel_rfl) | (rw [if_neg (by decide +kernel)]; exact ⟨rfl, rfl⟩))
    (fun os started H enc _ => FnExactSuccsOf_lifted os started H enc)

end Go.Proofs.Ytlakboifeijnoaa
