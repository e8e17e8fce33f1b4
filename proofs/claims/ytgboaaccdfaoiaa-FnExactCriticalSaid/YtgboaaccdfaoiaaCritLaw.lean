/- FnExactCritical: for every function and edge Critical answers as its model does, and writes into nothing; no condition (a function that holds more than 1048576 things is true at once). -/
import Derived.Test.YtgboaaccdfaoiaaCrit3
import Derived.Test.YtgboaaccdfaoiaaTo3
import Derived.Test.YtgboaaccdfaoiaaSz
import Derived.Test.YtgboaaccdfaoiaaOpen
import Derived.Test.YtgboaaccdfaoiaaFunLaw0
import Derived.Deep.RegionHeld3
import Derived.Deep.DeepCutAuto
namespace Go.Proofs.Ytgboaaccdfaoiaa
open Go.ChangeShapes Go.WideShapes Go.ChangeAt Go.RowKit Go.Joins

def BoxesL (w : World) (q : Nat) (f : FunD) (A : Option Addr) (c : Nat) (a b : Int) : Prop := w.heap[q]? = some (.cells #[.int .i64 f.params, .int .i64 f.names, .slice A f.blocks.length c] 57 (0, 0)) ∧ w.heap[q + 1]? = some (.cells #[.int .i64 a, .int .i64 b] 68 (0, 0))
theorem BoxesL.below {w w' : World} {q B : Nat} {f : FunD} {A : Option Addr} {c : Nat} {a b : Int} (h : BoxesL w q f A c a b) (hb : Below B w w') (hB : q + 1 < B) : BoxesL w' q f A c a b :=
  ⟨(hb.block _ (by omega)).trans h.1, (hb.block _ (by omega)).trans h.2⟩
theorem BoxesL.cells {w : World} {q : Nat} {f : FunD} {A : Option Addr} {c : Nat} {a b : Int} (h : BoxesL w q f A c a b) : w.cell? ⟨q, 0, none⟩ = some (.int .i64 f.params) ∧ w.cell? ⟨q, 1, none⟩ = some (.int .i64 f.names) ∧ w.cell? ⟨q, 2, none⟩ = some (.slice A f.blocks.length c) ∧ w.cell? ⟨q + 1, 0, none⟩ = some (.int .i64 a) ∧ w.cell? ⟨q + 1, 1, none⟩ = some (.int .i64 b) :=
  ⟨cell_of_row w _ 0 _ _ (0, 0) h.1, cell_of_row w _ 1 _ _ (0, 0) h.1, cell_of_row w _ 2 _ _ (0, 0) h.1, cell_of_row w _ 0 _ _ (0, 0) h.2, cell_of_row w _ 1 _ _ (0, 0) h.2⟩
theorem BoxesL.start (w : World) (f : FunD) (A : Option Addr) (c : Nat) (a b : Int) : BoxesL ((w.alloc (.cells #[.int .i64 f.params, .int .i64 f.names, .slice A f.blocks.length c] 57)).alloc (.cells #[.int .i64 a, .int .i64 b] 68)) w.heap.size f A c a b := by
  refine ⟨?_, ?_⟩
  · rw [Below.heap_alloc _ _ _ (by simp)]; exact heap_alloc_new w _
  · have := heap_alloc_new (w.alloc (.cells #[.int .i64 f.params, .int .i64 f.names, .slice A f.blocks.length c] 57)) (.cells #[.int .i64 a, .int .i64 b] 68)
    rw [World.size_alloc] at this
    exact this
theorem sCritical_at {w5 w : World} {lo : Nat} {f : FunD} {r : Value} {a b : Int} (hk : Below w5.heap.size w5 w) (hr : EFun w5 (Zn.new lo w5.heap.size) f r) (hn : f.blocks.length ≤ 1048576) :
    Calls Try.prog 32 #[r, .agg #[.int .i64 a, .int .i64 b]] w (GivesCrit f a b w) :=
  sCritical_any f r a b w (Zn.new lo w5.heap.size) (hr.keep (Kept.below hk fun b hb => hb.2)) (fun b hb => by have h1 := hk.size; have h2 := hb.2; omega) hn

set_option maxRecDepth 100000 in
set_option maxHeartbeats 4000000 in
theorem FnExactCritical_any (f : FunD) (v : Value) (a b : Int) (w : World) (Z : Zn) (hv : EFun w Z f v) (hD : ∀ b, Z.D b → b < w.heap.size) (wa : wf64 a) (wb : wf64 b) : Calls Try.prog 8 #[v, .agg #[.int .i64 a, .int .i64 b]] w (Says true w) := by
  have HF := Lib.hid hv
  obtain ⟨A, c, rfl⟩ := hv.form
  clear hv
  obtain ⟨w0, hw0⟩ : ∃ w0, w0 = (w.alloc (.cells #[.int .i64 f.params, .int .i64 f.names, .slice A f.blocks.length c] 57)).alloc (.cells #[.int .i64 a, .int .i64 b] 68) := ⟨_, rfl⟩
  have hB0 : Below w.heap.size w w0 := by rw [hw0]; exact ((Below.refl _ _).alloc (Nat.le_refl _) _).alloc (by simp) _
  have hs0 : w0.heap.size = w.heap.size + 1 + 1 := by rw [hw0]; simp
  have hbx : BoxesL w0 w.heap.size f A c a b := by rw [hw0]; exact BoxesL.start w f A c a b
  have HB00 := Lib.hid hB0
  have HW0 := Lib.hid hw0
  have HBX := Lib.hid hbx
  clear hB0 hw0 hbx
  go_enter Try.func8, Try.ntmps8
  go_wp2_with fail
  rw [← HW0.out]
  refine (szFun_any f _ _ _ Z (HF.out.keep (Kept.below HB00.out hD)) (fun b hb => by have := hD b hb; omega) (by omega) (by omega)).mono ?_
  rintro e w1 ⟨rfl, hb1⟩
  have HB1 : Hid (Below (w.heap.size + 1 + 1) w0 w1) := hb1.mono (by omega)
  have HB01 : Hid (Below w.heap.size w w1) := HB00.out.trans (HB1.out.mono (by omega))
  have hz1 : w.heap.size + 1 + 1 ≤ w1.heap.size := by have := hb1.size; omega
  have HBX1 := Lib.hid (HBX.out.below HB1.out (by omega))
  obtain ⟨z0, z1, z2, z3, z4⟩ := HBX1.out.cells
  clear hb1
  by_cases hsz : szFunN f ≤ 1048576
  case neg =>
    have h0 := leftI_no' hsz
    clear hsz
    go_wp2_with fail
    go_ret
    exact ⟨rfl, HB01.out⟩
  have h0 := leftI_yes' hsz
  have HS := Lib.hid (small_of_sz hsz)
  have hn : f.blocks.length ≤ 1048576 := HS.out.1
  clear hsz
  have HFr1 := Lib.hid (HF.out.keep (Kept.below HB01.out hD))
  have keepS : ∀ w7 : World, Below w1.heap.size w1 w7 → (fun w' => Below w1.heap.size w1 w' ∧ w'.cell? ⟨w.heap.size, 0, none⟩ = some (.int .i64 f.params) ∧ w'.cell? ⟨w.heap.size, 1, none⟩ = some (.int .i64 f.names) ∧ w'.cell? ⟨w.heap.size, 2, none⟩ = some (.slice A f.blocks.length c) ∧ w'.cell? ⟨w.heap.size + 1, 0, none⟩ = some (.int .i64 a) ∧ w'.cell? ⟨w.heap.size + 1, 1, none⟩ = some (.int .i64 b)) w7 := fun w7 hb => ⟨hb, (HBX1.out.below hb (by omega)).cells⟩
  have HKS := Lib.hid keepS
  clear keepS
  go_upto_region 5 with (fail)
  go_cut [6] (fun s6 wx => ∃ b3 : Bool, s6 = .bool b3 ∧ Hid (CritRes f a b b3) ∧ Hid (Below w1.heap.size w1 wx))
  case first =>
    have keepS := HKS.out
    have K := keepS _ (Below.refl _ w1).drew
    clear z0 z1 z2 z3 z4
    first
    | go_region_held3 (fun w' => Below w1.heap.size w1 w' ∧ w'.cell? ⟨w.heap.size, 0, none⟩ = some (.int .i64 f.params) ∧ w'.cell? ⟨w.heap.size, 1, none⟩ = some (.int .i64 f.names) ∧ w'.cell? ⟨w.heap.size, 2, none⟩ = some (.slice A f.blocks.length c) ∧ w'.cell? ⟨w.heap.size + 1, 0, none⟩ = some (.int .i64 a) ∧ w'.cell? ⟨w.heap.size + 1, 1, none⟩ = some (.int .i64 b)) (first | exact K | exact K5 | exact K6 | exact K7 | fail)
        (first
        | (go_at_call 34; have := (show _ ∧ _ by assumption); refine (toFun_any f _ _ Z (HFr1.out.keep (Kept.below this.1 fun b hb => by have h1 := hD b hb; omega)) (fun b hb => by have h1 := hD b hb; have h2 := this.1.size; omega) HS.out).mono ?_; rintro e w5 ⟨r5, rfl, hr5, hb5⟩; have HR5 := Lib.hid hr5; have K5 := keepS _ (this.1.trans (hb5.mono this.1.size)); clear hr5 hb5 this)
        | (go_at_call 46; have := (show _ ∧ _ by assumption); refine (toEdge_any a b _).mono ?_; rintro e w6 ⟨rfl, hb6⟩; have K6 := keepS _ (this.1.trans (hb6.mono this.1.size)); have HBE := Lib.hid hb6; clear hb6 this)
        | (go_at_call 32; have := (show _ ∧ _ by assumption); refine (sCritical_at (a := a) (b := b) (by first | exact Below.refl _ _ | exact HBE.out) HR5.out hn).mono ?_; rintro e w7 ⟨rr, rfl, hcr, hb7⟩; have K7 := keepS _ (this.1.trans (hb7.mono this.1.size)); have HCR := Lib.hid hcr; clear hcr hb7 this)
        | fail)
    | fail
    all_goals (have HB7 := Lib.hid K7.1; clear K K5 K6 K7 keepS; go_wp2_with fail; go_meet; exact ⟨rr, rfl, HCR, HB7⟩)
  case rest =>
    obtain ⟨b3, rfl, HP3, HB3⟩ := hcut
    have HB03 : Hid (Below w.heap.size w wc) := HB01.out.trans (HB3.out.mono (by omega))
    have hz3 := HB3.out.size
    obtain ⟨y0, y1, y2, y3, y4⟩ := (HBX1.out.below HB3.out (by omega)).cells
    clear z0 z1 z2 z3 z4
    go_wp2_with fail
    refine (toFun_any f _ _ Z (HF.out.keep (Kept.below HB03.out hD)) (fun b hb => by have := hD b hb; omega) HS.out).mono ?_
    rintro e w4 ⟨r4, rfl, hr4, hb4⟩
    have HB4 : Hid (Below w1.heap.size w1 w4) := HB3.out.trans (hb4.mono hz3)
    have hz4 := hb4.size
    have HR4 := Lib.hid hr4
    obtain ⟨A4, c4, rfl⟩ := hr4.form
    clear hb4 hr4 y0 y1 y2 y3 y4
    obtain ⟨w5, hw5⟩ : ∃ w5, w5 = w4.alloc (.cells #[.int .i64 f.params, .int .i64 f.names, .slice A4 f.blocks.length c4] 26) := ⟨_, rfl⟩
    have hB5 : Below w4.heap.size w4 w5 := by rw [hw5]; exact (Below.refl _ _).alloc (Nat.le_refl _) _
    have hs5 : w5.heap.size = w4.heap.size + 1 := by rw [hw5]; simp
    have hx5 : w5.heap[w4.heap.size]? = some (.cells #[.int .i64 f.params, .int .i64 f.names, .slice A4 f.blocks.length c4] 26 (0, 0)) := by rw [hw5]; exact heap_alloc_new w4 _
    have HX5 := Lib.hid (HR4.out.keep (Kept.below hB5 fun b hb => hb.2))
    have HB5 : Hid (Below w1.heap.size w1 w5) := HB4.out.trans (hB5.mono (by omega))
    have HBX5 := Lib.hid (HBX1.out.below HB5.out (by omega))
    have HXB := Lib.hid hx5
    have HW5 := Lib.hid hw5
    have keepX : ∀ w7 : World, Below w5.heap.size w5 w7 → (w7.cell? ⟨w4.heap.size, 0, none⟩ = some (.int .i64 f.params) ∧ w7.cell? ⟨w4.heap.size, 1, none⟩ = some (.int .i64 f.names) ∧ w7.cell? ⟨w4.heap.size, 2, none⟩ = some (.slice A4 f.blocks.length c4)) ∧ (w7.cell? ⟨w.heap.size, 0, none⟩ = some (.int .i64 f.params) ∧ w7.cell? ⟨w.heap.size, 1, none⟩ = some (.int .i64 f.names) ∧ w7.cell? ⟨w.heap.size, 2, none⟩ = some (.slice A f.blocks.length c) ∧ w7.cell? ⟨w.heap.size + 1, 0, none⟩ = some (.int .i64 a) ∧ w7.cell? ⟨w.heap.size + 1, 1, none⟩ = some (.int .i64 b)) := fun w7 hb =>
      ⟨⟨cell_of_row w7 _ 0 _ _ (0, 0) ((hb.block _ (by omega)).trans HXB.out), cell_of_row w7 _ 1 _ _ (0, 0) ((hb.block _ (by omega)).trans HXB.out), cell_of_row w7 _ 2 _ _ (0, 0) ((hb.block _ (by omega)).trans HXB.out)⟩, (HBX5.out.below hb (by omega)).cells⟩
    have HKX := Lib.hid keepX
    clear keepX hx5 hw5 hB5
    go_wp2_with fail
    rw [← HW5.out]
    have keepT : ∀ w7 : World, Below w5.heap.size w5 w7 → (fun w' => Below w5.heap.size w5 w' ∧ w'.cell? ⟨w4.heap.size, 0, none⟩ = some (.int .i64 f.params) ∧ w'.cell? ⟨w4.heap.size, 1, none⟩ = some (.int .i64 f.names) ∧ w'.cell? ⟨w4.heap.size, 2, none⟩ = some (.slice A4 f.blocks.length c4) ∧ w'.cell? ⟨w.heap.size, 0, none⟩ = some (.int .i64 f.params) ∧ w'.cell? ⟨w.heap.size, 1, none⟩ = some (.int .i64 f.names) ∧ w'.cell? ⟨w.heap.size, 2, none⟩ = some (.slice A f.blocks.length c) ∧ w'.cell? ⟨w.heap.size + 1, 0, none⟩ = some (.int .i64 a) ∧ w'.cell? ⟨w.heap.size + 1, 1, none⟩ = some (.int .i64 b)) w7 := fun w7 hb => by
      obtain ⟨⟨p0, p1, p2⟩, q⟩ := HKX.out w7 hb
      exact ⟨hb, p0, p1, p2, q⟩
    have K := keepT _ (Below.refl _ w5).drew
    first
    | go_region_held3 (fun w' => Below w5.heap.size w5 w' ∧ w'.cell? ⟨w4.heap.size, 0, none⟩ = some (.int .i64 f.params) ∧ w'.cell? ⟨w4.heap.size, 1, none⟩ = some (.int .i64 f.names) ∧ w'.cell? ⟨w4.heap.size, 2, none⟩ = some (.slice A4 f.blocks.length c4) ∧ w'.cell? ⟨w.heap.size, 0, none⟩ = some (.int .i64 f.params) ∧ w'.cell? ⟨w.heap.size, 1, none⟩ = some (.int .i64 f.names) ∧ w'.cell? ⟨w.heap.size, 2, none⟩ = some (.slice A f.blocks.length c) ∧ w'.cell? ⟨w.heap.size + 1, 0, none⟩ = some (.int .i64 a) ∧ w'.cell? ⟨w.heap.size + 1, 1, none⟩ = some (.int .i64 b)) (first | exact K | exact K6 | exact K7 | fail)
        (first
        | (go_at_call 46; have := (show _ ∧ _ by assumption); refine (toEdge_any a b _).mono ?_; rintro e w6 ⟨rfl, hb6⟩; have K6 := keepT _ (this.1.trans (hb6.mono this.1.size)); clear hb6 this)
        | (go_at_call 31; have := (show _ ∧ _ by assumption); refine (Critical_any f _ a b _ (Zn.new wc.heap.size w4.heap.size) (HX5.out.keep (Kept.below this.1 fun b hb => by have := hb.2; omega)) (fun b hb => by have h1 := hb.2; have h2 := this.1.size; omega) hn wa wb).mono ?_; rintro e w7 ⟨rr, rfl, hcr, hb7⟩; have K7 := keepT _ (this.1.trans (hb7.mono this.1.size)); have HCR := Lib.hid hcr; clear hcr hb7 this)
        | fail)
    | fail
    have HK7 := Lib.hid K7.1
    clear K K6 K7 keepT
    obtain rfl : b3 = rr := HP3.out.one HCR.out
    have hne : (b3 != b3) = false := by simp
    go_wp2_with fail
    have hz7 := HK7.out.size
    have keepU : ∀ w8 : World, Below w7.heap.size w7 w8 → (fun w' => Below w7.heap.size w7 w' ∧ w'.cell? ⟨w4.heap.size, 0, none⟩ = some (.int .i64 f.params) ∧ w'.cell? ⟨w4.heap.size, 1, none⟩ = some (.int .i64 f.names) ∧ w'.cell? ⟨w4.heap.size, 2, none⟩ = some (.slice A4 f.blocks.length c4) ∧ w'.cell? ⟨w.heap.size, 0, none⟩ = some (.int .i64 f.params) ∧ w'.cell? ⟨w.heap.size, 1, none⟩ = some (.int .i64 f.names) ∧ w'.cell? ⟨w.heap.size, 2, none⟩ = some (.slice A f.blocks.length c) ∧ w'.cell? ⟨w.heap.size + 1, 0, none⟩ = some (.int .i64 a) ∧ w'.cell? ⟨w.heap.size + 1, 1, none⟩ = some (.int .i64 b)) w8 := fun w8 hb => by
      obtain ⟨⟨p0, p1, p2⟩, q⟩ := HKX.out w8 (HK7.out.trans (hb.mono hz7))
      exact ⟨hb, p0, p1, p2, q⟩
    have K := keepU _ (Below.refl _ w7).drew
    have HB07 : Hid (Below w.heap.size w w7) := HB01.out.trans ((HB5.out.trans (HK7.out.mono (by omega))).mono (by omega))
    have HF7 := Lib.hid (HF.out.keep (Kept.below HB07.out hD))
    have HX7 := Lib.hid (HX5.out.keep (Kept.below HK7.out fun b hb => by have := hb.2; omega))
    first
    | go_region_held3 (fun w' => Below w7.heap.size w7 w' ∧ w'.cell? ⟨w4.heap.size, 0, none⟩ = some (.int .i64 f.params) ∧ w'.cell? ⟨w4.heap.size, 1, none⟩ = some (.int .i64 f.names) ∧ w'.cell? ⟨w4.heap.size, 2, none⟩ = some (.slice A4 f.blocks.length c4) ∧ w'.cell? ⟨w.heap.size, 0, none⟩ = some (.int .i64 f.params) ∧ w'.cell? ⟨w.heap.size, 1, none⟩ = some (.int .i64 f.names) ∧ w'.cell? ⟨w.heap.size, 2, none⟩ = some (.slice A f.blocks.length c) ∧ w'.cell? ⟨w.heap.size + 1, 0, none⟩ = some (.int .i64 a) ∧ w'.cell? ⟨w.heap.size + 1, 1, none⟩ = some (.int .i64 b)) (first | exact K | exact K8 | exact K9 | fail)
        (first
        | (go_at_call 34; have := (show _ ∧ _ by assumption); refine (toFun_any f _ _ Z (HF7.out.keep (Kept.below this.1 fun b hb => by have h1 := hD b hb; omega)) (fun b hb => by have h1 := hD b hb; have h2 := this.1.size; omega) HS.out).mono ?_; rintro e w8 ⟨r8, rfl, hr8, hb8⟩; have HR8 := Lib.hid hr8; have K8 := keepU _ (this.1.trans (hb8.mono this.1.size)); have h8 := this.1.size; clear hr8 hb8 this)
        | (go_at_call 36; refine (eqFun_same f _ _ _ _ _ (HX7.out.keep (Kept.below K8.1 fun b hb => by have h1 := hb.2; omega)) HR8.out (fun b hb => by have h1 := hb.2; have h2 := K8.1.size; omega) (fun b hb => hb.2)).mono ?_; rintro e w9 ⟨rfl, hb9⟩; have K9 := keepU _ (K8.1.trans (hb9.mono K8.1.size)); clear hb9)
        | fail)
    | fail
    have HB9 : Hid (Below w.heap.size w w9) := HB07.out.trans (K9.1.mono (by omega))
    clear K K8 K9 keepU
    go_wp2_with fail
    go_ret
    exact ⟨rfl, HB9.out⟩

set_option maxRecDepth 100000 in
theorem FnExactCritical_lifted (os : Os) (started : os.Started) (H : Type) (enc : TypeId × Value → H) :
    ReturnsInHanded {} Try.checked os 8 .any (Rows.fnExactCriticalSpec.pre6 enc Try.prog Try.f8 Rows.fnExactCriticalRow.domain false) (Rows.fnExactCriticalSpec.post enc Try.prog Try.f8 false true false false) := by
  refine returnsInHanded_of_change (C := Try.checked) Try.own started (by kernel_rfl) Try.func8
    (ChangeSpec.witness6 (enc := enc) (C := Try.checked) false ⟨#[], #[.agg #[.int .i64 0, .int .i64 0, .slice none 0 0], .agg #[.int .i64 0, .int .i64 0]], []⟩ 8 (by kernel_rfl) (by kernel_rfl) (by kernel_rfl) (by kernel_rfl)) ?_
  intro W base args ds gs before hval0 hW _ _
  have hval : ∀ (j : Nat) t v, Try.f8.params[j]? = some t → args[j]? = some v → Value.okWide Try.prog W .any base t v := hval0
  have hW' : DataW.Whole enc Try.prog Try.f8.params.toList Rows.fnExactCriticalSpec.vars false W args.toList ds gs before := hW
  obtain ⟨p, q, hA, hV, rfl, _, _⟩ := hW'
  rw [Try.params8] at hA hval
  obtain ⟨v0, v1, d0, d1, p0, p1, rfl, rfl, rfl, h0, h1⟩ := trodAll_two hA
  obtain ⟨rfl, rfl⟩ := trodVars_none hV
  obtain ⟨f, hf⟩ := open_Fun (hval 0 _ v0 rfl rfl) h0
  obtain ⟨c0, c1, y0, y1, m, rfl, rfl, rfl, g0, g1⟩ := open_agg2 Try.underlying68 (by kernel_rfl) (by kernel_rfl) (hval 1 _ v1 rfl rfl) h1
  obtain ⟨a, ea, _, wa⟩ := DataW.trod_int Try.underlying2 g0
  obtain ⟨b, eb, _, wb⟩ := DataW.trod_int Try.underlying2 g1
  simp at ea eb
  subst ea eb
  refine (FnExactCritical_any f v0 a b W _ hf (fun _ h => h) wa wb).mono fun e W' ⟨he, hb⟩ => ⟨_, he, ?_⟩
  exact law_done (t := 4) Try.laidOut (by kernel_rfl) (by kernel_rfl) Try.underlying4 rfl hW ⟨rfl, rfl, rfl⟩ hb

theorem FnExactCritical_holds : Rows.FnExactCriticalSaid :=
  OpenClaim.holds_of_wide 8 Try.f8 rfl rfl rfl rfl rfl rfl rfl ⟨rfl, rfl, rfl, rfl, rfl⟩ rfl rfl rfl rfl rfl (by kernel_rfl) Try.func8 (by kernel_rfl)
    (of_decide_eq_true (by kernel_rfl)) (by unfold Func.isWrapper; first | (rw [if_pos (by decide +kernel)]; kernel_rfl) | (rw [if_neg (by decide +kernel)]; exact ⟨rfl, rfl⟩))
    (fun os started H enc _ => FnExactCritical_lifted os started H enc)

end Go.Proofs.Ytgboaaccdfaoiaa
