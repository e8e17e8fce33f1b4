/- FnExactDefsOf: for every function and name DefsOf answers as its model does, in memory of its own, and writes into nothing; no condition (a function that holds more than 1048576 things is true at once). -/
import Derived.Test.YtbghcoihndlihaaDefM
import Derived.Test.YtbghcoihndlihaaTo3
import Derived.Test.YtbghcoihndlihaaSz
import Derived.Test.YtbghcoihndlihaaOpen
import Derived.Test.YtbghcoihndlihaaMark
import Derived.Test.YtbghcoihndlihaaFunLaw0
import Derived.Test.YtbghcoihndlihaaPlM
import Derived.Deep.RegionHeld3
namespace Go.Proofs.Ytbghcoihndlihaa
open Go.ChangeShapes Go.WideShapes Go.ChangeAt Go.RowKit Go.Joins

set_option maxRecDepth 10000 in
set_option maxHeartbeats 2000000 in
theorem FnExactDefsOf_any (f : FunD) (v : Value) (j : Int) (w : World) (Z : Zn) (hv : EFun w Z f v) (hD : ∀ b, Z.D b → b < w.heap.size) : Calls Try.prog 3 #[v, .int .i64 j] w (Says true w) := by
  have HF := Lib.hid hv
  obtain ⟨A, c, rfl⟩ := hv.form
  clear hv
  go_enter Try.func3, Try.ntmps3
  go_wp2_with fail
  refine (szFun_any f _ _ _ Z (HF.out.keep (Kept.below ((Below.refl _ _).alloc (Nat.le_refl _) _) hD)) (fun b hb => by have := hD b hb; simp; omega) (by omega) (by omega)).mono ?_
  rintro e w1 ⟨rfl, hb1⟩
  have HB1 := Lib.hid (hb1.mono (B' := w.heap.size + 1) (by simp))
  have HB01 : Hid (Below w.heap.size w w1) := ((Below.refl _ _).alloc (Nat.le_refl _) _).trans (HB1.out.mono (by omega))
  have hz1 : w.heap.size + 1 ≤ w1.heap.size := by have := hb1.size; simp at this; omega
  obtain ⟨hc, hf⟩ := bcellB HB1.out
  clear hb1
  by_cases hsz : szFunN f ≤ 1048576
  case neg =>
    have h0 := leftI_no' hsz
    clear hsz
    go_wp2_with fail
    go_ret
    exact ⟨rfl, HB01.out⟩
  have h0 := leftI_yes' hsz
  have HS := Lib.hid (small_of_sz hsz)
  have hn : f.blocks.length ≤ 1048576 := HS.out.1
  have hcnt := cntF_le hsz
  clear hsz
  go_wp2_with fail
  refine (toFun_any f _ _ Z (HF.out.keep (Kept.below HB01.out hD)) (fun b hb => by have := hD b hb; omega) HS.out).mono ?_
  rintro e w2 ⟨r2, rfl, hr2, hb2⟩
  have HB2 := Lib.hid (HB1.out.trans (hb2.mono hz1))
  have HB02 : Hid (Below w.heap.size w w2) := HB01.out.trans (hb2.mono (by omega))
  have hz2 : w.heap.size + 1 ≤ w2.heap.size := by have := hb2.size; omega
  have hy2 := hb2.size
  have HR2 := Lib.hid hr2
  clear hc hf hb2 hr2
  obtain ⟨hc, hf⟩ := bcellB HB2.out
  go_wp2_with fail
  refine (sDefsOf_any f _ j _ _ HR2.out (fun _ hb => hb.2) hn).mono ?_
  rintro e w3 ⟨xs, u0, rfl, hx0, ho0, hb3⟩
  have HB3 := Lib.hid (HB2.out.trans (hb3.mono hz2))
  have HB03 : Hid (Below w.heap.size w w3) := HB02.out.trans (hb3.mono (by omega))
  have hz3 : w.heap.size + 1 ≤ w3.heap.size := by have := hb3.size; omega
  have hy3 := hb3.size
  have HXS := Lib.hid hx0
  have hlen : xs.length ≤ 1048576 := Nat.le_trans HXS.out.len (by omega)
  have HU3 := Lib.hid ho0
  clear hc hf hb3 hx0 ho0 HR2
  obtain ⟨hc, hf⟩ := bcellB HB3.out
  go_wp2_with fail
  refine (toFun_any f _ _ Z (HF.out.keep (Kept.below HB03.out hD)) (fun b hb => by have := hD b hb; omega) HS.out).mono ?_
  rintro e w4 ⟨r4, rfl, hr4, hb4⟩
  have HB4 := Lib.hid (HB3.out.trans (hb4.mono hz3))
  have HB04 : Hid (Below w.heap.size w w4) := HB03.out.trans (hb4.mono (by omega))
  have hz4 : w.heap.size + 1 ≤ w4.heap.size := by have := hb4.size; omega
  have hy4 := hb4.size
  have HR4 := Lib.hid hr4
  have HU4 := Lib.hid (HU3.out.below hb4 fun k hk => (HU3.out.lt k hk).2)
  obtain ⟨A4, c4, rfl⟩ := hr4.form
  clear hc hf hb4 hr4
  go_wp2_with fail
  have d0 : (w4.alloc (.cells #[.int .i64 f.params, .int .i64 f.names, .slice A4 f.blocks.length c4] 30)).cell? ⟨w4.heap.size, 0, none⟩ = some (.int .i64 f.params) := by go_simp
  have d1 : (w4.alloc (.cells #[.int .i64 f.params, .int .i64 f.names, .slice A4 f.blocks.length c4] 30)).cell? ⟨w4.heap.size, 1, none⟩ = some (.int .i64 f.names) := by go_simp
  have d2 : (w4.alloc (.cells #[.int .i64 f.params, .int .i64 f.names, .slice A4 f.blocks.length c4] 30)).cell? ⟨w4.heap.size, 2, none⟩ = some (.slice A4 f.blocks.length c4) := by go_simp
  have hB5 : Below w4.heap.size w4 (w4.alloc (.cells #[.int .i64 f.params, .int .i64 f.names, .slice A4 f.blocks.length c4] 30)) := (Below.refl _ _).alloc (Nat.le_refl _) _
  have hs5 : (w4.alloc (.cells #[.int .i64 f.params, .int .i64 f.names, .slice A4 f.blocks.length c4] 30)).heap.size = w4.heap.size + 1 := by simp
  generalize w4.alloc (.cells #[.int .i64 f.params, .int .i64 f.names, .slice A4 f.blocks.length c4] 30) = w5 at *
  have HB5 := Lib.hid (HB4.out.trans (hB5.mono hz4))
  have HB05 : Hid (Below w.heap.size w w5) := HB04.out.trans (hB5.mono (by omega))
  have HK5 := Lib.hid hB5
  have HX5 := Lib.hid (HR4.out.keep (Kept.new (Nat.le_refl _) (Nat.le_refl _) fun b _ h2 => hB5.block b h2))
  have hz5 : w4.heap.size < w5.heap.size := by omega
  clear hB5 HR4 hs5
  have HU5 := Lib.hid (HU4.out.below HK5.out fun k hk => (HU4.out.lt k hk).2)
  refine (DefsOf_any f _ j _ _ HX5.out (fun b hb => by have := hb.2; omega) hn).mono ?_
  rintro e w6 ⟨ys, u6, rfl, hx6, ho6, hb6⟩
  obtain rfl : xs = ys := HXS.out.one hx6
  have HB6 := Lib.hid (HB5.out.trans (hb6.mono (by omega)))
  have HB06 : Hid (Below w.heap.size w w6) := HB05.out.trans (hb6.mono (by omega))
  have hz6 : w.heap.size + 1 ≤ w6.heap.size := by have := hb6.size; omega
  have hz56 := hb6.size
  have HX6 := Lib.hid (HX5.out.keep (Kept.below hb6 fun b hb => by have := hb.2; omega))
  have HU6 := Lib.hid (HU5.out.below hb6 fun k hk => (HU5.out.lt k hk).2)
  have HG6 := Lib.hid ho6
  have g0 := (hb6.cell (p := ⟨w4.heap.size, 0, none⟩) hz5).trans d0
  have g1 := (hb6.cell (p := ⟨w4.heap.size, 1, none⟩) hz5).trans d1
  have g2 := (hb6.cell (p := ⟨w4.heap.size, 2, none⟩) hz5).trans d2
  clear hb6 hx6 ho6 HX5 d0 d1 d2
  go_wp2_with fail
  refine (eqPlaceS_same _ _ _ _ _ _ HG6.out.row HU6.out.row (fun _ h => h) (fun _ h => h)).mono ?_
  rintro e w6' ⟨rfl, hq6⟩
  have hqz := hq6.size
  have hx6' : w4.heap.size < w6.heap.size := by omega
  replace HB6 := Lib.hid (HB6.out.trans (hq6.mono (by omega)))
  replace HB06 := Lib.hid (HB06.out.trans (hq6.mono (by omega)))
  replace HX6 := Lib.hid (HX6.out.keep (Kept.below hq6 fun b hb => by have := hb.2; omega))
  replace HU6 := Lib.hid (HU6.out.below hq6 fun k hk => (HU6.out.lt k hk).2)
  replace HG6 := Lib.hid (HG6.out.below hq6 fun k hk => (HG6.out.lt k hk).2)
  replace g0 := (hq6.cell (p := ⟨w4.heap.size, 0, none⟩) hx6').trans g0
  replace g1 := (hq6.cell (p := ⟨w4.heap.size, 1, none⟩) hx6').trans g1
  replace g2 := (hq6.cell (p := ⟨w4.heap.size, 2, none⟩) hx6').trans g2
  replace hz6 : w.heap.size + 1 ≤ w6'.heap.size := by omega
  replace hz56 : w5.heap.size ≤ w6'.heap.size := by omega
  clear hq6 hx6' hqz
  obtain ⟨w6, hw6⟩ : ∃ x, x = w6' := ⟨_, rfl⟩
  subst hw6
  go_wp2_with fail
  have e0 : w6.cell? ⟨w.heap.size, 0, none⟩ = some (.int .i64 f.params) := (HB6.out.cell (p := ⟨w.heap.size, 0, none⟩) (by simp)).trans (by go_simp)
  have e1 : w6.cell? ⟨w.heap.size, 1, none⟩ = some (.int .i64 f.names) := (HB6.out.cell (p := ⟨w.heap.size, 1, none⟩) (by simp)).trans (by go_simp)
  have e2 : w6.cell? ⟨w.heap.size, 2, none⟩ = some (.slice A f.blocks.length c) := (HB6.out.cell (p := ⟨w.heap.size, 2, none⟩) (by simp)).trans (by go_simp)
  have hfw : w.heap.size < w6.heap.size := by omega
  have hxw : w4.heap.size < w6.heap.size := by omega
  have keepS : ∀ w7 : World, Below w6.heap.size w6 w7 → (fun w' => Below w6.heap.size w6 w' ∧ w'.cell? ⟨w.heap.size, 0, none⟩ = some (.int .i64 f.params) ∧ w'.cell? ⟨w.heap.size, 1, none⟩ = some (.int .i64 f.names) ∧ w'.cell? ⟨w.heap.size, 2, none⟩ = some (.slice A f.blocks.length c) ∧ w'.cell? ⟨w4.heap.size, 0, none⟩ = some (.int .i64 f.params) ∧ w'.cell? ⟨w4.heap.size, 1, none⟩ = some (.int .i64 f.names) ∧ w'.cell? ⟨w4.heap.size, 2, none⟩ = some (.slice A4 f.blocks.length c4)) w7 := fun w7 hb => ⟨hb, (hb.cell (p := ⟨w.heap.size, 0, none⟩) hfw).trans e0, (hb.cell (p := ⟨w.heap.size, 1, none⟩) hfw).trans e1, (hb.cell (p := ⟨w.heap.size, 2, none⟩) hfw).trans e2, (hb.cell (p := ⟨w4.heap.size, 0, none⟩) hxw).trans g0, (hb.cell (p := ⟨w4.heap.size, 1, none⟩) hxw).trans g1, (hb.cell (p := ⟨w4.heap.size, 2, none⟩) hxw).trans g2⟩
  have K := keepS _ (Below.refl _ _)
  have Kd := keepS _ below_drew
  have HFr := Lib.hid (HF.out.keep (Kept.below HB06.out hD))
  clear e0 e1 e2 g0 g1 g2
  go_region_held3 (fun w' => Below w6.heap.size w6 w' ∧ w'.cell? ⟨w.heap.size, 0, none⟩ = some (.int .i64 f.params) ∧ w'.cell? ⟨w.heap.size, 1, none⟩ = some (.int .i64 f.names) ∧ w'.cell? ⟨w.heap.size, 2, none⟩ = some (.slice A f.blocks.length c) ∧ w'.cell? ⟨w4.heap.size, 0, none⟩ = some (.int .i64 f.params) ∧ w'.cell? ⟨w4.heap.size, 1, none⟩ = some (.int .i64 f.names) ∧ w'.cell? ⟨w4.heap.size, 2, none⟩ = some (.slice A4 f.blocks.length c4)) (first | exact Kd | exact K | exact K7 | exact K8 | fail)
    (first
    | (go_at_call 7; have := (show _ ∧ _ by assumption); refine (toFun_any f _ _ Z (HFr.out.keep (Kept.below this.1 fun b hb => by have h1 := hD b hb; omega)) (fun b hb => by have h1 := hD b hb; have h2 := this.1.size; omega) HS.out).mono ?_; rintro e w7 ⟨r7, rfl, hr7, hb7⟩; have HR7 := Lib.hid hr7; have K7 := keepS _ (this.1.trans (hb7.mono this.1.size)); have h7 := this.1.size; clear hr7 hb7 this)
    | (go_at_call 10; refine (eqFun_same f _ _ _ _ _ (HX6.out.keep (Kept.below K7.1 fun b hb => by have h1 := hb.2; omega)) HR7.out (fun b hb => by have h1 := hb.2; have h2 := K7.1.size; omega) (fun b hb => hb.2)).mono ?_; rintro e w8 ⟨rfl, hb8⟩; have K8 := keepS _ (K7.1.trans (hb8.mono K7.1.size)); clear hb8))
  have HB8 := Lib.hid (HB6.out.trans (K8.1.mono hz6))
  have HB08 : Hid (Below w.heap.size w w8) := HB06.out.trans (K8.1.mono (by omega))
  have HK8 := Lib.hid K8.1
  have hy8 := K8.1.size
  have HX8 := Lib.hid (HX6.out.keep (Kept.below K8.1 fun b hb => by have h1 := hb.2; omega))
  have HU8 := Lib.hid (HU6.out.below K8.1 fun k hk => (HU6.out.lt k hk).2)
  have HG8 := Lib.hid (HG6.out.below K8.1 fun k hk => (HG6.out.lt k hk).2)
  obtain ⟨-, -, -, -, q0, q1, q2⟩ := K8
  clear K Kd K7 keepS HX6 HU6 HG6
  go_wp2_with fail
  refine (markFun_sh (Zn.new w3.heap.size w4.heap.size).D _ _ _ (f.blocks.map blockS) 1 _ (HX8.out.sblocks rfl) (by omega) (by omega)).mono ?_
  rintro e w9 ⟨rfl, hm9⟩
  obtain ⟨kk, hkk⟩ : ∃ kk : Int, kk = 1 + (cntS (f.blocks.map blockS) : Nat) := ⟨_, rfl⟩
  have hkk0 : 0 ≤ kk := by omega
  rw [← hkk]
  have hy9 := hm9.size
  have hb9 : Below (w.heap.size + 1) w8 w9 := hm9.belowB (fun b hb => by have h1 := hb.1; omega) (by omega)
  have HB9 := Lib.hid (HB8.out.trans hb9)
  have HB09 : Hid (Below w.heap.size w w9) := HB08.out.trans (hb9.mono (by omega))
  have HU9 := Lib.hid (OP.marked HU8.out hm9 fun k hk hd => by have h1 := (HU3.out.lt k hk).2; have h2 := hd.1; omega)
  have HG9 := Lib.hid (OP.marked HG8.out hm9 fun k hk hd => by have h1 := (HG8.out.lt k hk).1; have h2 := hd.2; omega)
  clear hkk hcnt hm9 hb9 HX8 HU8 HG8 q0 q1 q2
  go_wp2_with fail
  refine (eqPlaceS_same _ _ _ _ _ _ HG9.out.row HU9.out.row (fun _ h => h) (fun _ h => h)).mono ?_
  rintro e w9' ⟨rfl, hq9⟩
  have hqz := hq9.size
  replace HB9 := Lib.hid (HB9.out.trans (hq9.mono (by omega)))
  replace HB09 := Lib.hid (HB09.out.trans (hq9.mono (by omega)))
  replace HU9 := Lib.hid (HU9.out.below hq9 fun k hk => (HU9.out.lt k hk).2)
  replace HG9 := Lib.hid (HG9.out.below hq9 fun k hk => (HG9.out.lt k hk).2)
  replace hy9 : w8.heap.size ≤ w9'.heap.size := by omega
  clear hq9 hqz
  obtain ⟨w9, hw9⟩ : ∃ x, x = w9' := ⟨_, rfl⟩
  subst hw9
  go_wp2_with fail
  refine (markPlaceS_any _ _ _ 1 _ HG9.out (by omega) (by omega)).mono ?_
  rintro e w10 ⟨rfl, hm10, hg10⟩
  have hy10 := hg10.size
  have hown : ∀ k, u6.ownBlock = some k → w5.heap.size ≤ k := fun k hk => (HG9.out.lt k hk).1
  have HB10 := Lib.hid (HB9.out.grown hg10 (by omega) fun k hk => by have := hown k hk; omega)
  have HB010 : Hid (Below w.heap.size w w10) := HB09.out.grown hg10 (by omega) fun k hk => by have := hown k hk; omega
  have HU10 := Lib.hid (HU9.out.grown hg10 (by
    rcases hob : u0.ownBlock with _ | k
    · exact .inl rfl
    · refine .inr fun h => ?_
      have h1 := (HU3.out.lt k hob).2
      have h2 := hown k h.symm
      omega))
  have HM10 := Lib.hid hm10
  clear hm10 hg10 HU9 HG9
  obtain ⟨hc, hf⟩ := bcellB HB10.out
  go_wp2_with fail
  refine (heldPlaceS_any _ _ _ _ _ HM10.out (by omega) (by omega)).mono ?_
  rintro e w' ⟨rfl, rfl⟩
  go_wp2_with fail
  refine (toFun_any f _ _ Z (HF.out.keep (Kept.below HB010.out hD)) (fun b hb => by have := hD b hb; omega) HS.out).mono ?_
  rintro e w11 ⟨r11, rfl, hr11, hb11⟩
  have HB11 := Lib.hid (HB10.out.trans (hb11.mono (by omega)))
  have HB011 : Hid (Below w.heap.size w w11) := HB010.out.trans (hb11.mono (by omega))
  have hz11 : w.heap.size + 1 ≤ w11.heap.size := by have := hb11.size; omega
  have hy11 := hb11.size
  have HR11 := Lib.hid hr11
  have HU11 := Lib.hid (HU10.out.below hb11 fun k hk => (HU10.out.lt k hk).2)
  have HM11 := Lib.hid (HM10.out.below hb11 fun k hk => (HM10.out.lt k hk).2)
  clear hc hf hb11 hr11 HU10 HM10
  go_wp2_with fail
  refine (DefsOf_any f _ j _ _ HR11.out (fun b hb => hb.2) hn).mono ?_
  rintro e w12 ⟨ys, u12, rfl, hx12, ho12, hb12⟩
  obtain rfl : xs = ys := HXS.out.one hx12
  have HB012 : Hid (Below w.heap.size w w12) := HB011.out.trans (hb12.mono (by omega))
  have HU12 := Lib.hid (HU11.out.below hb12 fun k hk => (HU11.out.lt k hk).2)
  have HM12 := Lib.hid (HM11.out.below hb12 fun k hk => (HM11.out.lt k hk).2)
  have HG12 := Lib.hid ho12
  clear hb12 hx12 ho12 HU11 HM11
  go_wp2_with fail
  refine (eqPlaceS_same _ _ _ _ _ _ HG12.out.row HU12.out.row (fun _ h => h) (fun _ h => h)).mono ?_
  rintro e w13 ⟨rfl, hq13⟩
  have HM13 := Lib.hid (HM12.out.below hq13 fun k hk => (HM12.out.lt k hk).2)
  have HB013 := Lib.hid (HB012.out.trans (hq13.mono HB012.out.size))
  clear hq13
  go_wp2_with fail
  refine (heldPlaceS_any _ _ _ _ _ HM13.out (by omega) (by omega)).mono ?_
  rintro e w' ⟨rfl, rfl⟩
  go_wp2_with fail
  go_ret
  exact ⟨rfl, HB013.out⟩

set_option maxRecDepth 100000 in
theorem FnExactDefsOf_lifted (os : Os) (started : os.Started) (H : Type) (enc : TypeId × Value → H) :
    ReturnsInHanded {} Try.checked os 3 .any (Rows.fnExactDefsOfSpec.pre6 enc Try.prog Try.f3 Rows.fnExactDefsOfRow.domain false) (Rows.fnExactDefsOfSpec.post enc Try.prog Try.f3 false true false false) := by
  refine returnsInHanded_of_change (C := Try.checked) Try.own started (by kernel_rfl) Try.func3
    (ChangeSpec.witness6 (enc := enc) (C := Try.checked) false ⟨#[], #[.agg #[.int .i64 0, .int .i64 0, .slice none 0 0], .int .i64 0], []⟩ 8 (by kernel_rfl) (by kernel_rfl) (by kernel_rfl) (by kernel_rfl)) ?_
  intro W base args ds gs before hval0 hW _ _
  have hval : ∀ (j : Nat) t v, Try.f3.params[j]? = some t → args[j]? = some v → Value.okWide Try.prog W .any base t v := hval0
  have hW' : DataW.Whole enc Try.prog Try.f3.params.toList Rows.fnExactDefsOfSpec.vars false W args.toList ds gs before := hW
  obtain ⟨p, q, hA, hV, rfl, _, _⟩ := hW'
  rw [Try.params3] at hA hval
  obtain ⟨v0, v1, d0, d1, p0, p1, rfl, rfl, rfl, h0, h1⟩ := trodAll_two hA
  obtain ⟨rfl, rfl⟩ := trodVars_none hV
  obtain ⟨f, hf⟩ := open_Fun (hval 0 _ v0 rfl rfl) h0
  obtain ⟨j, rfl, rfl, rfl, -⟩ := open_int Try.underlying2 (hval 1 _ v1 rfl rfl) h1
  refine (FnExactDefsOf_any f v0  j W _ hf (fun _ h => h)).mono fun e W' ⟨he, hb⟩ => ⟨_, he, ?_⟩
  exact law_done (t := 4) Try.laidOut (by kernel_rfl) (by kernel_rfl) Try.underlying4 rfl hW ⟨rfl, rfl, rfl⟩ hb

theorem FnExactDefsOf_holds : Rows.FnExactDefsOfSaid :=
  OpenClaim.holds_of_wide 3 Try.f3 rfl rfl rfl rfl rfl rfl rfl ⟨rfl, rfl, rfl, rfl, rfl⟩ rfl rfl rfl rfl rfl (by kernel_rfl) Try.func3 (by kernel_rfl)
    (of_decide_eq_true (by kernel_rfl)) (by unfold Func.isWrapper; first | (rw [if_pos (by decide +kernel)]; kernel_rfl) | (rw [if_neg (by decide +kernel)]; exact ⟨rfl, rfl⟩))
    (fun os started H enc _ => FnExactDefsOf_lifted os started H enc)

end Go.Proofs.Ytbghcoihndlihaa
