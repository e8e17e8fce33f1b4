/- FnExactCodeOf: for every function CodeOf answers as its model does, and writes into nothing; the listed errors are tied to their text; no other condition (a function that holds more than 1048576 things is true at once). -/
import Derived.Test.YtnjmlhokkhkaaaaGreatDoorQ7
import Derived.Test.YtnjmlhokkhkaaaaGreatDoorQ8
import Derived.Test.YtnjmlhokkhkaaaaGreatDoorQ23
import Derived.Test.YtnjmlhokkhkaaaaGreatDoorQ24
import Derived.Deep.RegionHeld3
namespace Go.Proofs.YtnjmlhokkhkaaaaGreatDoor
open Go.ChangeShapes Go.WideShapes Go.ChangeAt Go.RowKit Go.Joins

set_option maxRecDepth 10000 in
set_option maxHeartbeats 1000000 in
theorem FnExactCodeOf_any (f : FunD) (v : Value) (w : World) (Z : Zn) (hv : EFun w Z f v) (hD : ∀ b, Z.D b → b < w.heap.size) (hT : Tab w) : Calls Tryz.prog 4 #[v] w (Says true w) := by
  have HF := Lib.hid hv
  have HT := Lib.hid hT
  clear hT
  obtain ⟨A, c, rfl⟩ := hv.form
  clear hv
  go_enter Tryz.func4, Tryz.ntmps4
  go_wp2_with fail
  refine (szFun_any f _ _ _ Z (HF.out.keep (Kept.below ((Below.refl _ _).alloc (Nat.le_refl _) _) hD)) (fun b hb => by have := hD b hb; simp; omega) (by omega) (by omega)).mono ?_
  rintro e w1 ⟨rfl, hb1⟩
  have HB1 := Lib.hid (hb1.mono (B' := w.heap.size + 1) (by simp))
  have HB01 : Hid (Below w.heap.size w w1) := ((Below.refl _ _).alloc (Nat.le_refl _) _).trans (HB1.out.mono (by omega))
  have hz1 : w.heap.size + 1 ≤ w1.heap.size := by have := hb1.size; simp at this; omega
  obtain ⟨hc, hf⟩ := bcellB HB1.out
  clear hb1
  by_cases hsz : szFunN f ≤ 1048576
  case neg =>
    have h0 := leftI_no' hsz
    clear hsz
    go_wp2_with fail
    go_ret
    exact ⟨rfl, HB01.out⟩
  have h0 := leftI_yes' hsz
  have HS := Lib.hid (small_of_sz hsz)
  have hn : f.blocks.length ≤ 1048576 := HS.out.1
  clear hsz
  go_wp2_with fail
  refine (toFun_any f _ _ Z (HF.out.keep (Kept.below HB01.out hD)) (fun b hb => by have := hD b hb; omega) HS.out).mono ?_
  rintro e w2 ⟨r2, rfl, hr2, hb2⟩
  have HB2 := Lib.hid (HB1.out.trans (hb2.mono hz1))
  have HB02 : Hid (Below w.heap.size w w2) := HB01.out.trans (hb2.mono (by omega))
  have hz2 : w.heap.size + 1 ≤ w2.heap.size := by have := hb2.size; omega
  have HR2 := Lib.hid hr2
  clear hc hf hb2 hr2
  obtain ⟨hc, hf⟩ := bcellB HB2.out
  go_wp2_with fail
  refine (sCodeOf_any f _ _ _ HR2.out (fun _ hb => hb.2) hn).mono ?_
  rintro e w3 ⟨b3, rfl, hb3', hb3⟩
  have HB3 := Lib.hid (HB2.out.trans (hb3.mono hz2))
  have HB03 : Hid (Below w.heap.size w w3) := HB02.out.trans (hb3.mono (by omega))
  have hz3 : w.heap.size + 1 ≤ w3.heap.size := by have := hb3.size; omega
  have HP3 := Lib.hid hb3'
  clear hc hf hb3 hb3' HR2
  obtain ⟨hc, hf⟩ := bcellB HB3.out
  go_wp2_with fail
  refine (toFun_any f _ _ Z (HF.out.keep (Kept.below HB03.out hD)) (fun b hb => by have := hD b hb; omega) HS.out).mono ?_
  rintro e w4 ⟨r4, rfl, hr4, hb4⟩
  have HB4 := Lib.hid (HB3.out.trans (hb4.mono hz3))
  have HB04 : Hid (Below w.heap.size w w4) := HB03.out.trans (hb4.mono (by omega))
  have hz4 : w.heap.size + 1 ≤ w4.heap.size := by have := hb4.size; omega
  have HR4 := Lib.hid hr4
  obtain ⟨A4, c4, rfl⟩ := hr4.form
  clear hc hf hb4 hr4
  go_wp2_with fail
  have d0 : (w4.alloc (.cells #[.int .i64 f.params, .int .i64 f.names, .slice A4 f.blocks.length c4] 26)).cell? ⟨w4.heap.size, 0, none⟩ = some (.int .i64 f.params) := by go_simp
  have d1 : (w4.alloc (.cells #[.int .i64 f.params, .int .i64 f.names, .slice A4 f.blocks.length c4] 26)).cell? ⟨w4.heap.size, 1, none⟩ = some (.int .i64 f.names) := by go_simp
  have d2 : (w4.alloc (.cells #[.int .i64 f.params, .int .i64 f.names, .slice A4 f.blocks.length c4] 26)).cell? ⟨w4.heap.size, 2, none⟩ = some (.slice A4 f.blocks.length c4) := by go_simp
  have hB5 : Below w4.heap.size w4 (w4.alloc (.cells #[.int .i64 f.params, .int .i64 f.names, .slice A4 f.blocks.length c4] 26)) := (Below.refl _ _).alloc (Nat.le_refl _) _
  have hs5 : (w4.alloc (.cells #[.int .i64 f.params, .int .i64 f.names, .slice A4 f.blocks.length c4] 26)).heap.size = w4.heap.size + 1 := by simp
  generalize w4.alloc (.cells #[.int .i64 f.params, .int .i64 f.names, .slice A4 f.blocks.length c4] 26) = w5 at *
  have HB5 := Lib.hid (HB4.out.trans (hB5.mono hz4))
  have HB05 : Hid (Below w.heap.size w w5) := HB04.out.trans (hB5.mono (by omega))
  have HX5 := Lib.hid (HR4.out.keep (Kept.new (Nat.le_refl _) (Nat.le_refl _) fun b _ h2 => hB5.block b h2))
  have hz5 : w4.heap.size < w5.heap.size := by omega
  clear hB5 HR4
  refine (CodeOfT_any f _ _ _ HX5.out (fun b hb => by have := hb.2; omega) hn (HT.out.keep HB05.out)).mono ?_
  rintro e w6 ⟨b6, rfl, hb6', hb6⟩
  have hbb : b6 = b3 := hb6'.one HP3.out
  subst hbb
  have hne : (b6 != b6) = false := by simp
  have HB6 := Lib.hid (HB5.out.trans (hb6.mono (by omega)))
  have HB06 : Hid (Below w.heap.size w w6) := HB05.out.trans (hb6.mono (by omega))
  have hz6 : w.heap.size + 1 ≤ w6.heap.size := by have := hb6.size; omega
  have hz56 := hb6.size
  have HX6 := Lib.hid (HX5.out.keep (Kept.below hb6 fun b hb => by have := hb.2; omega))
  have g0 := (hb6.cell (p := ⟨w4.heap.size, 0, none⟩) hz5).trans d0
  have g1 := (hb6.cell (p := ⟨w4.heap.size, 1, none⟩) hz5).trans d1
  have g2 := (hb6.cell (p := ⟨w4.heap.size, 2, none⟩) hz5).trans d2
  clear hb6' hb6 HX5 d0 d1 d2
  go_wp2_with fail
  have e0 : w6.cell? ⟨w.heap.size, 0, none⟩ = some (.int .i64 f.params) := (HB6.out.cell (p := ⟨w.heap.size, 0, none⟩) (by simp)).trans (by go_simp)
  have e1 : w6.cell? ⟨w.heap.size, 1, none⟩ = some (.int .i64 f.names) := (HB6.out.cell (p := ⟨w.heap.size, 1, none⟩) (by simp)).trans (by go_simp)
  have e2 : w6.cell? ⟨w.heap.size, 2, none⟩ = some (.slice A f.blocks.length c) := (HB6.out.cell (p := ⟨w.heap.size, 2, none⟩) (by simp)).trans (by go_simp)
  have hfw : w.heap.size < w6.heap.size := by omega
  have hxw : w4.heap.size < w6.heap.size := by omega
  have keepS : ∀ w7 : World, Below w6.heap.size w6 w7 → (fun w' => Below w6.heap.size w6 w' ∧ w'.cell? ⟨w.heap.size, 0, none⟩ = some (.int .i64 f.params) ∧ w'.cell? ⟨w.heap.size, 1, none⟩ = some (.int .i64 f.names) ∧ w'.cell? ⟨w.heap.size, 2, none⟩ = some (.slice A f.blocks.length c) ∧ w'.cell? ⟨w4.heap.size, 0, none⟩ = some (.int .i64 f.params) ∧ w'.cell? ⟨w4.heap.size, 1, none⟩ = some (.int .i64 f.names) ∧ w'.cell? ⟨w4.heap.size, 2, none⟩ = some (.slice A4 f.blocks.length c4)) w7 := fun w7 hb => ⟨hb, (hb.cell (p := ⟨w.heap.size, 0, none⟩) hfw).trans e0, (hb.cell (p := ⟨w.heap.size, 1, none⟩) hfw).trans e1, (hb.cell (p := ⟨w.heap.size, 2, none⟩) hfw).trans e2, (hb.cell (p := ⟨w4.heap.size, 0, none⟩) hxw).trans g0, (hb.cell (p := ⟨w4.heap.size, 1, none⟩) hxw).trans g1, (hb.cell (p := ⟨w4.heap.size, 2, none⟩) hxw).trans g2⟩
  have K := keepS _ (Below.refl _ _)
  have Kd := keepS _ below_drew
  have HFr := Lib.hid (HF.out.keep (Kept.below HB06.out hD))
  clear e0 e1 e2 g0 g1 g2
  go_region_held3 (fun w' => Below w6.heap.size w6 w' ∧ w'.cell? ⟨w.heap.size, 0, none⟩ = some (.int .i64 f.params) ∧ w'.cell? ⟨w.heap.size, 1, none⟩ = some (.int .i64 f.names) ∧ w'.cell? ⟨w.heap.size, 2, none⟩ = some (.slice A f.blocks.length c) ∧ w'.cell? ⟨w4.heap.size, 0, none⟩ = some (.int .i64 f.params) ∧ w'.cell? ⟨w4.heap.size, 1, none⟩ = some (.int .i64 f.names) ∧ w'.cell? ⟨w4.heap.size, 2, none⟩ = some (.slice A4 f.blocks.length c4)) (first | exact Kd | exact K | exact K7 | exact K8 | fail)
    (first
    | (go_at_call 20; have := (show _ ∧ _ by assumption); refine (toFun_any f _ _ Z (HFr.out.keep (Kept.below this.1 fun b hb => by have h1 := hD b hb; omega)) (fun b hb => by have h1 := hD b hb; have h2 := this.1.size; omega) HS.out).mono ?_; rintro e w7 ⟨r7, rfl, hr7, hb7⟩; have HR7 := Lib.hid hr7; have K7 := keepS _ (this.1.trans (hb7.mono this.1.size)); have h7 := this.1.size; clear hr7 hb7 this)
    | (go_at_call 21; refine (eqFun_same f _ _ _ _ _ (HX6.out.keep (Kept.below K7.1 fun b hb => by have h1 := hb.2; omega)) HR7.out (fun b hb => by have h1 := hb.2; have h2 := K7.1.size; omega) (fun b hb => hb.2)).mono ?_; rintro e w8 ⟨rfl, hb8⟩; have K8 := keepS _ (K7.1.trans (hb8.mono K7.1.size)); clear hb8))
  have HB8 := Lib.hid (HB6.out.trans (K8.1.mono hz6))
  have HB08 : Hid (Below w.heap.size w w8) := HB06.out.trans (K8.1.mono (by omega))
  clear K Kd K7 K8 keepS
  go_wp2_with fail
  go_ret
  exact ⟨rfl, HB08.out⟩

set_option maxRecDepth 100000 in
theorem FnExactCodeOf_lifted (os : Os) (started : os.Started) (H : Type) (enc : TypeId × Value → H) :
    ReturnsInHanded {} Tryz.checked os 4 .any (fun w args => (Rows.fnExactCodeOfSpec.pre enc Tryz.prog Tryz.f4 Rows.fnExactCodeOfRow.domain false w args ∧ laidMetH Tryz.prog Rows.fnExactCodeOfRow.laid w) ∧ sizedMet enc Tryz.prog Tryz.f4 (OpenSpec.ofChange Rows.fnExactCodeOfSpec) false w args) (Rows.fnExactCodeOfSpec.post enc Tryz.prog Tryz.f4 false true false false) := by
  refine returnsInHanded_of_change_and (C := Tryz.checked) (X := fun w _ => laidMetH Tryz.prog Rows.fnExactCodeOfRow.laid w) (fun _ _ _ hh h => h.of_heap hh) Tryz.own started (by kernel_rfl) Tryz.func4
    (ChangeSpec.witness_shaped (enc := enc) (C := Tryz.checked) (os := os) (X := fun w _ => laidMetH Tryz.prog Rows.fnExactCodeOfRow.laid w) false (witW os) #[.agg #[.int .i64 0, .int .i64 0, .slice none 0 0]] 8 (witW_os _)
      (World.shaped_of_ZipB (by kernel_rfl) (by kernel_rfl)) (by kernel_rfl) (by kernel_rfl) (by kernel_rfl)
      (witW_met _ _)) ?_
  intro W base args ds gs before hval0 hW _ _ hL _
  have HT : Tab W := tab_of_laid hL
  have hval : ∀ (j : Nat) t v, Tryz.f4.params[j]? = some t → args[j]? = some v → Value.okWide Tryz.prog W .any base t v := hval0
  have hW' : DataW.Whole enc Tryz.prog Tryz.f4.params.toList Rows.fnExactCodeOfSpec.vars false W args.toList ds gs before := hW
  obtain ⟨p, q, hA0, hV, rfl, _, _⟩ := hW'
  have hA : DataW.TrodAll enc Tryz.prog W 0 (fun _ => true) true Tryz.f4.params.toList args.toList ds p := hA0
  rw [Tryz.params4] at hA hval
  obtain ⟨v0, d0, rfl, rfl, h0⟩ := trodAll_one hA
  obtain ⟨g1, g2, g3, g4, g5, g6, rfl⟩ := trodVars_six hV
  obtain ⟨f, hf⟩ := open_Fun (hval 0 _ v0 rfl rfl) h0
  refine (FnExactCodeOf_any f v0 W _ hf (fun _ h => h) HT).mono fun e W' ⟨he, hb⟩ => ⟨_, he, ?_⟩
  exact law_doneV (t := 4) Tryz.laidOut (by kernel_rfl) (by kernel_rfl) Tryz.underlying4 (vars_of_laid hL) hW ⟨rfl, rfl, rfl⟩ hb

theorem FnExactCodeOf_row : Rows.FnExactCodeOfSaid :=
  OpenClaim.holds_of_wide 4 Tryz.f4 rfl rfl rfl rfl rfl rfl rfl ⟨rfl, rfl, rfl, rfl, rfl⟩ rfl rfl rfl rfl rfl (by kernel_rfl) Tryz.func4 (by kernel_rfl)
    (of_decide_eq_true (by kernel_rfl)) (by unfold Func.isWrapper; first | (rw [if_pos (by decide +kernel)]; kernel_rfl) | (rw [if_neg (by decide +kernel)]; exact ⟨rfl, rfl⟩))
    (fun os started H enc _ => FnExactCodeOf_lifted os started H enc)

theorem FnExactCodeOf_holds : Rows.FnExactCodeOfCardSaid :=
  Claim7.holds_tied_plain_at .later [] [.handle, .sentinel, .sentinel, .sentinel, .sentinel, .sentinel, .sentinel] true _ true
    FnExactCodeOf_row (fun _ h => by cases h) (by kernel_rfl) (fun _ h => by cases h) fnExactCodeOf_row_tie rfl ⟨rfl, rfl⟩ (by kernel_rfl) rfl
    (fun f fn hf hfn => by
      obtain rfl : f = 4 := Option.some.inj ((show Tryz.prog.funcNamed "loop.example/g00823/laws.FnExactCodeOf" = some 4 by kernel_rfl).symm.trans hf) |>.symm
      obtain rfl : fn = Tryz.f4 := (Option.some.inj (Tryz.func4.symm.trans hfn)).symm
      exact ⟨by kernel_rfl, fun j t ht => by
        rw [Tryz.params4] at ht
        have hm : t ∈ [40] := by simpa using Array.mem_of_getElem? ht
        have hall : ([40].all fun u => !Tryz.prog.wantsStandIn u) = true := by kernel_rfl
        exact (show Tryz.prog.wantsStandIn t = false by simpa using List.all_eq_true.1 hall t hm)⟩)
    (by kernel_rfl)

end Go.Proofs.YtnjmlhokkhkaaaaGreatDoor
