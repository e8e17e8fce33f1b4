/- FnFuns. -/
import Derived.Test.YteikpekffgifoaaAt
import Derived.Test.YteikpekffgifoaaEndD
import Derived.Test.YteikpekffgifoaaM7
import Derived.Test.YteikpekffgifoaaL2d
import Derived.Test.YteikpekffgifoaaLike
import Derived.Test.YteikpekffgifoaaFunLaw0
import Derived.Test.YteikpekffgifoaaUses
import Derived.Test.YteikpekffgifoaaCome
import Derived.Test.YteikpekffgifoaaSkip
import Derived.Test.YteikpekffgifoaaLawK
import Derived.Deep.RegionHeld3
namespace Go.Proofs.Yteikpekffgifoaa
open Go.ChangeShapes Go.WideShapes Go.ChangeAt Go.RowKit Go.Joins

set_option maxRecDepth 10000 in
set_option maxHeartbeats 8000000 in
theorem FnFuns_any (v : Value) (n : Nat) (w : World) (hn : n ≤ 4096) (hv : Code w w.heap.size v n) :
    Calls Try.prog 3 #[v] w (Fine w) := by
  have HV := Lib.hid hv
  obtain ⟨_, A0, c0, rfl, -⟩ := hv
  go_enter Try.func3, Try.ntmps3
  go_wp2_with fail
  refine (big_no A0 n c0 _ hn).mono ?_
  rintro e w' ⟨rfl, rfl⟩
  go_wp2_with fail
  refine (DrawFunOk_any _ _ _ _ HV.out (Nat.le_refl _)).mono ?_
  rintro e w1 ⟨fd, v1, rfl, he, hfl, hb1⟩
  have HE1 := Lib.hid he
  obtain ⟨u, rfl, hu⟩ := he
  obtain ⟨_, A, c, rfl, _⟩ := hu
  have hb1a : Below w.heap.size w (w1.alloc (.cells #[.int .i64 fd.params, .int .i64 fd.names, .slice A fd.blocks.length c] 26)) := hb1.alloc hb1.size _
  have HB1 := Lib.hid hb1a
  have HF1 : Hid (EFun (w1.alloc (.cells #[.int .i64 fd.params, .int .i64 fd.names, .slice A fd.blocks.length c] 26)) (Zn.new w.heap.size w1.heap.size) fd (.agg #[.int .i64 fd.params, .int .i64 fd.names, .slice A fd.blocks.length c])) := HE1.out.old ((Below.refl _ _).alloc (Nat.le_refl _) _)
  have HQF := Lib.hid (heap_alloc_new w1 (.cells #[.int .i64 fd.params, .int .i64 fd.names, .slice A fd.blocks.length c] 26))
  clear hb1 hb1a HE1
  go_upto_region 4 with fail
  have hzf : w1.heap.size < (w1.alloc (.cells #[.int .i64 fd.params, .int .i64 fd.names, .slice A fd.blocks.length c] 26)).heap.size := by simp
  generalize w1.alloc (.cells #[.int .i64 fd.params, .int .i64 fd.names, .slice A fd.blocks.length c] 26) = w1a at *
  generalize hqf : w1.heap.size = qf at *
  go_wp2_with fail
  refine (DrawEndOk_any _ _ _ _ (HV.out.keep fun b o hb => HB1.out.cell (p := ⟨b, o, none⟩) hb) HB1.out.size).mono ?_
  rintro e w2 ⟨k, a, t, l, rfl, hb2⟩
  have HB2 : Hid (Below w.heap.size w (w2.alloc (.cells #[.int .i64 k, .int .i64 a, .int .i64 t, .int .i64 l] 29))) := HB1.out.trans ((hb2.mono HB1.out.size).alloc (Nat.le_trans HB1.out.size hb2.size) _)
  have hb2a : Below w1a.heap.size w1a (w2.alloc (.cells #[.int .i64 k, .int .i64 a, .int .i64 t, .int .i64 l] 29)) := hb2.alloc hb2.size _
  have HF2 := Lib.hid (HF1.out.old (hb2a.mono (by omega)))
  have HQF2 := Lib.hid (kept_row HQF.out hb2a)
  have HQE := Lib.hid (heap_alloc_new w2 (.cells #[.int .i64 k, .int .i64 a, .int .i64 t, .int .i64 l] 29))
  have hzs := hb2.size
  clear HB1 hb2 hb2a HF1 HQF
  go_upto_region 5 with fail
  have hze : w2.heap.size < (w2.alloc (.cells #[.int .i64 k, .int .i64 a, .int .i64 t, .int .i64 l] 29)).heap.size := by simp
  generalize w2.alloc (.cells #[.int .i64 k, .int .i64 a, .int .i64 t, .int .i64 l] 29) = w2a at *
  generalize hqe : w2.heap.size = qe at *
  go_wp2_with fail
  refine (DrawPredsOf_any _ _ _ _ (HV.out.keep fun b o hb => HB2.out.cell (p := ⟨b, o, none⟩) hb) HB2.out.size).mono ?_
  rintro e w3 ⟨gd, v3, at3, rfl, he, hgl, hb3⟩
  have HE3 := Lib.hid he
  obtain ⟨u, rfl, hu⟩ := he
  obtain ⟨_, Ag, cg, rfl, _⟩ := hu
  have HB3 : Hid (Below w.heap.size w (w3.alloc (.cells #[.int .i64 gd.params, .int .i64 gd.names, .slice Ag gd.blocks.length cg] 26))) := HB2.out.trans ((hb3.mono HB2.out.size).alloc (Nat.le_trans HB2.out.size hb3.size) _)
  have hb3a : Below w2a.heap.size w2a (w3.alloc (.cells #[.int .i64 gd.params, .int .i64 gd.names, .slice Ag gd.blocks.length cg] 26)) := hb3.alloc hb3.size _
  have HF3 := Lib.hid (HF2.out.old (hb3a.mono (by omega)))
  have HQF3 := Lib.hid (kept_row HQF2.out hb3a)
  have HQE3 := Lib.hid (kept_row HQE.out hb3a)
  have HG3 : Hid (EFun (w3.alloc (.cells #[.int .i64 gd.params, .int .i64 gd.names, .slice Ag gd.blocks.length cg] 26)) (Zn.new w2a.heap.size w3.heap.size) gd (.agg #[.int .i64 gd.params, .int .i64 gd.names, .slice Ag gd.blocks.length cg])) := HE3.out.old ((Below.refl _ _).alloc (Nat.le_refl _) _)
  have HQG := Lib.hid (heap_alloc_new w3 (.cells #[.int .i64 gd.params, .int .i64 gd.names, .slice Ag gd.blocks.length cg] 26))
  have hzt := hb3.size
  clear HB2 hb3 hb3a HF2 HQF2 HQE HE3
  go_upto_region 6 with fail
  have hzg : w3.heap.size < (w3.alloc (.cells #[.int .i64 gd.params, .int .i64 gd.names, .slice Ag gd.blocks.length cg] 26)).heap.size := by simp
  generalize w3.alloc (.cells #[.int .i64 gd.params, .int .i64 gd.names, .slice Ag gd.blocks.length cg] 26) = w3a at *
  generalize hqg : w3.heap.size = qg at *
  have HKS : Hid (∀ w7 : World, Below w3a.heap.size w3a w7 → (fun w' => w'.cell? ⟨qf, 0, none⟩ = some (.int .i64 fd.params) ∧ w'.cell? ⟨qf, 1, none⟩ = some (.int .i64 fd.names) ∧ w'.cell? ⟨qf, 2, none⟩ = some (.slice A fd.blocks.length c) ∧ w'.cell? ⟨qe, 0, none⟩ = some (.int .i64 k) ∧ w'.cell? ⟨qe, 1, none⟩ = some (.int .i64 a) ∧ w'.cell? ⟨qe, 2, none⟩ = some (.int .i64 t) ∧ w'.cell? ⟨qe, 3, none⟩ = some (.int .i64 l) ∧ w'.cell? ⟨qg, 0, none⟩ = some (.int .i64 gd.params) ∧ w'.cell? ⟨qg, 1, none⟩ = some (.int .i64 gd.names) ∧ w'.cell? ⟨qg, 2, none⟩ = some (.slice Ag gd.blocks.length cg)) w7) := fun w7 hb => by
    have f := kept_row HQF3.out hb
    have e := kept_row HQE3.out hb
    have g := kept_row HQG.out hb
    exact ⟨cell_of_row w7 _ 0 _ _ (0, 0) f, cell_of_row w7 _ 1 _ _ (0, 0) f, cell_of_row w7 _ 2 _ _ (0, 0) f, cell_of_row w7 _ 0 _ _ (0, 0) e, cell_of_row w7 _ 1 _ _ (0, 0) e, cell_of_row w7 _ 2 _ _ (0, 0) e, cell_of_row w7 _ 3 _ _ (0, 0) e, cell_of_row w7 _ 0 _ _ (0, 0) g, cell_of_row w7 _ 1 _ _ (0, 0) g, cell_of_row w7 _ 2 _ _ (0, 0) g⟩
  have HW0 : Hid (Below w3a.heap.size w3a w3a.drew) := (Below.refl _ _).drew
  have hzz : w.heap.size ≤ w3a.heap.size := HB3.out.size
  have hes : (endOkB k a t l != endOkB k a t l) = false := by simp
  go_region_held3 (fun w' => w'.cell? ⟨qf, 0, none⟩ = some (.int .i64 fd.params) ∧ w'.cell? ⟨qf, 1, none⟩ = some (.int .i64 fd.names) ∧ w'.cell? ⟨qf, 2, none⟩ = some (.slice A fd.blocks.length c) ∧ w'.cell? ⟨qe, 0, none⟩ = some (.int .i64 k) ∧ w'.cell? ⟨qe, 1, none⟩ = some (.int .i64 a) ∧ w'.cell? ⟨qe, 2, none⟩ = some (.int .i64 t) ∧ w'.cell? ⟨qe, 3, none⟩ = some (.int .i64 l) ∧ w'.cell? ⟨qg, 0, none⟩ = some (.int .i64 gd.params) ∧ w'.cell? ⟨qg, 1, none⟩ = some (.int .i64 gd.names) ∧ w'.cell? ⟨qg, 2, none⟩ = some (.slice Ag gd.blocks.length cg)) (first | exact HKS.out _ HW0.out | exact HKS.out _ HW5.out | exact HKS.out _ HW6.out | exact HKS.out _ HW7.out | exact HKS.out _ HW8.out | exact HKS.out _ HW9.out | exact HKS.out _ HW10.out | exact HKS.out _ HW11.out | exact HKS.out _ HW12.out | exact HKS.out _ HW13.out | exact HKS.out _ HW14.out | fail)
    (first
    | (go_at_call 10; refine (FunOk_any fd _ _ _ (HF3.out.old (HW0.out.mono (by omega))) (fun b hb => by have := hb.2; show b < w3a.heap.size; omega) (by omega)).mono ?_; rintro e w5 ⟨b5, rfl, hb5, hw5⟩; have HW5 : Hid (Below w3a.heap.size w3a w5) := HW0.out.trans hw5; have HI5 := Lib.hid hb5; clear hb5 hw5)
    | (go_at_call 11; refine (sFunOk_any fd _ _ _ (HF3.out.old (HW5.out.mono (by omega))) (fun b hb => by have h1 := hb.2; have h2 := HW5.out.size; omega) (by omega)).mono ?_; rintro e w6 ⟨b6, rfl, hb6, hw6⟩; have HW6 : Hid (Below w3a.heap.size w3a w6) := HW5.out.trans (hw6.mono HW5.out.size); (obtain rfl : b6 = b5 := (by rw [Bool.eq_iff_iff, hb6, HI5.out])); have hne : (b6 != b6) = false := (by simp); clear hb6 hw6)
    | (go_at_call 12; refine (EndOk_any _ _ _ _ _).mono ?_; rintro e w7 ⟨rfl, hw7⟩; have HW7 : Hid (Below w3a.heap.size w3a w7) := HW6.out.trans (hw7.mono HW6.out.size); clear hw7)
    | (go_at_call 13; refine (sEndOk_any _ _ _ _ _).mono ?_; rintro e w8 ⟨rfl, hw8⟩; have HW8 : Hid (Below w3a.heap.size w3a w8) := HW7.out.trans (hw8.mono HW7.out.size); clear hw8)
    | (go_at_call 15; refine (SuccsOf_any _ _ _ _ _).mono ?_; rintro e w9 ⟨r9, rfl, hr9, hw9⟩; have HW9 : Hid (Below w3a.heap.size w3a w9) := HW8.out.trans (hw9.mono HW8.out.size); have HU9 := Lib.hid hr9; clear hw9 hr9)
    | (go_at_call 16; refine (sSuccsOf_any _ _ _ _ _).mono ?_; rintro e w10 ⟨r10, rfl, hr10, hw10⟩; have HW10 : Hid (Below w3a.heap.size w3a w10) := HW9.out.trans (hw10.mono HW9.out.size); have HU10 := Lib.hid (HU9.out.below hw10 fun k hk => (HU9.out.lt k hk).2); have HV10 := Lib.hid hr10; clear hw10 hr10)
    | (go_at_call 17; refine (PredsOf_any gd _ _ _ _ (HG3.out.old (HW11.out.mono (by omega))) (fun b hb => by have h1 := hb.2; have h2 := HW11.out.size; omega) (by omega)).mono ?_; rintro e w12 ⟨xs, r12, rfl, hx12, hr12, hw12⟩; have HW12 : Hid (Below w3a.heap.size w3a w12) := HW11.out.trans (hw12.mono HW11.out.size); have HU12 := Lib.hid hr12; have HX12 := Lib.hid hx12; clear hw12 hr12 hx12)
    | (go_at_call 18; refine (sPredsOf_any gd _ _ _ _ (HG3.out.old (HW12.out.mono (by omega))) (fun b hb => by have h1 := hb.2; have h2 := HW12.out.size; omega) (by omega)).mono ?_; rintro e w13 ⟨ys, r13, rfl, hx13, hr13, hw13⟩; have HW13 : Hid (Below w3a.heap.size w3a w13) := HW12.out.trans (hw13.mono HW12.out.size); (obtain rfl : xs = ys := HX12.out.one hx13); have HU13 := Lib.hid (HU12.out.below hw13 fun k hk => (HU12.out.lt k hk).2); have HV13 := Lib.hid hr13; clear hw13 hr13 hx13)
    | (go_at_call 14; refine (likeInts_same _ _ _ _ HU13.out.ri HV13.out.ri).mono ?_; rintro e w9' ⟨rfl, n14, rfl⟩; have HW14 : Hid (Below w3a.heap.size w3a (w13.drewN n14)) := below_drewN HW13.out n14)
    | (go_at_call 14; refine (likeInts_same _ _ _ _ HU10.out.ri HV10.out.ri).mono ?_; rintro e w9' ⟨rfl, n11, hw11⟩; have HW11 : Hid (Below w3a.heap.size w3a w9') := (by rw [hw11]; exact below_drewN HW10.out n11); clear hw11)
    | fail)
  replace HW14 : Hid (Below w3a.heap.size w3a (w13.drewN n14)) := HW14
  generalize w13.drewN n14 = w14 at *
  clear HKS HW0 HW5 HW6 HW7 HW8 HW9 HW10 HW11 HW12 HW13 HU9 HU10 HV10 HU12 HX12 HU13 HV13 HG3 HQE3 HQG hne hes HI5
  go_wp2_with fail
  go_loopw [7] (fun bv wr => ∃ b : Nat, bv = .int .i64 b ∧ b ≤ fd.blocks.length ∧ Hid (Below w3a.heap.size w3a wr)) (fun bv _ => fd.blocks.length - (intOf bv).toNat)
  case atStart => exact ⟨0, rfl, Nat.zero_le _, HW14⟩
  case round =>
    obtain ⟨b, rfl, hbl, HW⟩ := hrel
    have hq := kept_row HQF3.out HW.out
    have f0 := cell_of_row wr _ 0 _ _ (0, 0) hq
    have f1 := cell_of_row wr _ 1 _ _ (0, 0) hq
    have f2 := cell_of_row wr _ 2 _ _ (0, 0) hq
    have hzw : w3a.heap.size ≤ wr.heap.size := HW.out.size
    clear hq HW14
    by_cases hlt : (b : Int) < (fd.blocks.length : Int)
    case neg =>
      go_wp2_with fail
      go_ret
      exact ⟨rfl, HB3.out.trans (HW.out.mono hzz)⟩
    go_wp2_with fail
    refine (sFunOk_any fd _ _ _ (HF3.out.old (HW.out.mono (by omega))) (fun b hb => by have h1 := hb.2; omega) (by omega)).mono ?_
    rintro e w15 ⟨b7, rfl, hb7, hw15⟩
    have HW15 : Hid (Below w3a.heap.size w3a w15) := HW.out.trans (hw15.mono hzw)
    have hz15 := hw15.size
    clear hw15 f0 f1 f2
    cases b7
    · clear hb7
      go_wp2_with fail
      go_ret
      exact ⟨rfl, HB3.out.trans (HW15.out.mono hzz)⟩
    have HP := Lib.hid (hb7.1 rfl)
    clear hb7
    have hx : fd.blocks[b]? = some fd.blocks[b] := List.getElem?_eq_getElem (by omega)
    generalize fd.blocks[b] = x at hx
    have HX := Lib.hid hx
    have hE15 := HF3.out.old (HW15.out.mono (by omega))
    have HE15 := Lib.hid hE15
    obtain ⟨u, hu, hrow⟩ := hE15
    obtain rfl : u = .slice A fd.blocks.length c := by injection hu with hu; simp at hu; exact hu.symm
    obtain ⟨_, A', c', hAc, hxr⟩ := hrow
    injection hAc with hA1 _ hA3
    subst hA1
    subst hA3
    obtain ⟨bq, off, hbq, hDb, hcells⟩ := hxr (by intro h; rw [h] at hx; simp at hx)
    subst hbq
    obtain ⟨cs, hE, hcs⟩ := hcells b x hx
    obtain ⟨_, _, _, _, rfl, _⟩ := hE
    have d4 := (hcs 4 _ rfl).1
    have d5 := (hcs 5 _ rfl).1
    have d6 := (hcs 6 _ rfl).1
    have d7 := (hcs 7 _ rfl).1
    have hq := kept_row HQF3.out HW15.out
    have f0 := cell_of_row w15 _ 0 _ _ (0, 0) hq
    have f1 := cell_of_row w15 _ 1 _ _ (0, 0) hq
    have f2 := cell_of_row w15 _ 2 _ _ (0, 0) hq
    have hb0 : 0 ≤ (b : Int) := by omega
    clear hq hcs hcells hxr hu hx
    go_wp2_with fail
    refine (SuccsOf_any _ _ _ _ _).mono ?_
    rintro e w16 ⟨r16, rfl, hr16, hw16⟩
    have HW16 : Hid (Below w3a.heap.size w3a w16) := HW15.out.trans (hw16.mono (by omega))
    have hz16 := hw16.size
    have HU16 := Lib.hid hr16
    obtain ⟨_, Al, cl, rfl, hal⟩ := hr16.ri
    have hso := succs_of HP.out HX.out
    have hxsl := succsL_len x.fin.k x.fin.a x.fin.t x.fin.l
    have HXS : Hid (∀ y ∈ succsL x.fin.k x.fin.a x.fin.t x.fin.l, (0 ≤ y ∧ y < (fd.blocks.length : Int)) ∧ (b : Int) ∈ predsF fd y) := fun y hy => by
      rw [hso.1] at hy
      exact ⟨hso.2 y hy, mem_predsF HX.out hy⟩
    generalize succsL x.fin.k x.fin.a x.fin.t x.fin.l = xs at *
    have HAL := Lib.hid hal
    clear hso hr16 hw16 hal d4 d5 d6 d7 f0 f1 f2
    go_wp2_with fail
    go_loopw [9] (fun iv wq => ∃ i : Nat, iv = .int .i64 i ∧ i ≤ xs.length ∧ Hid (Below w16.heap.size w16 wq)) (fun iv _ => xs.length - (intOf iv).toNat)
    case atStart => exact ⟨0, rfl, Nat.zero_le _, Below.refl _ _⟩
    case round =>
      obtain ⟨i, rfl, hil, HWi⟩ := hrel
      have HWr : Hid (Below w3a.heap.size w3a wr) := HW16.out.trans (HWi.out.mono (by omega))
      have hzr := HWi.out.size
      have hq := kept_row HQF3.out HWr.out
      have f0 := cell_of_row wr _ 0 _ _ (0, 0) hq
      have f1 := cell_of_row wr _ 1 _ _ (0, 0) hq
      have f2 := cell_of_row wr _ 2 _ _ (0, 0) hq
      by_cases hli : (i : Int) < (xs.length : Int)
      · have hxi : xs[i]? = some xs[i] := List.getElem?_eq_getElem (by omega)
        have HY := Lib.hid (HXS.out xs[i] (List.getElem_mem (by omega)))
        generalize xs[i] = y at hxi HY
        obtain ⟨gl, ol, hgl1, hcl⟩ := HAL.out (by intro h; rw [h] at hxi; simp at hxi)
        subst hgl1
        have hcell : w16.cell? ⟨gl, ol + i, none⟩ = some (.int .i64 y) := hcl i y hxi
        have hgl2 : gl < w16.heap.size := by
          rcases Nat.lt_or_ge gl w16.heap.size with h | h
          · exact h
          · rw [World.cell?_of_block (w := w16) (a := ⟨gl, ol + i, none⟩) (w' := w16) rfl] at hcell
            simp [World.cell?, Array.getElem?_eq_none h] at hcell
        have pl : wr.cell? ⟨gl, ol + i, none⟩ = some (.int .i64 y) := (HWi.out.cell (p := ⟨gl, ol + i, none⟩) hgl2).trans hcell
        have hi0 : 0 ≤ (i : Int) := by omega
        have HKS : Hid (∀ w7 : World, Below wr.heap.size wr w7 → (fun w' => w'.cell? ⟨qf, 0, none⟩ = some (.int .i64 fd.params) ∧ w'.cell? ⟨qf, 1, none⟩ = some (.int .i64 fd.names) ∧ w'.cell? ⟨qf, 2, none⟩ = some (.slice (some ⟨bq, off, none⟩) fd.blocks.length c) ∧ w'.cell? ⟨gl, ol + i, none⟩ = some (.int .i64 y)) w7) := fun w7 hb => by
          have f := kept_row hq hb
          exact ⟨cell_of_row w7 _ 0 _ _ (0, 0) f, cell_of_row w7 _ 1 _ _ (0, 0) f, cell_of_row w7 _ 2 _ _ (0, 0) f, (hb.cell (p := ⟨gl, ol + i, none⟩) (Nat.lt_of_lt_of_le hgl2 hzr)).trans pl⟩
        have HW0 : Hid (Below wr.heap.size wr wr.drew) := (Below.refl _ _).drew
        have HPC : Hid (∀ W : World, Below wr.heap.size wr W → Calls Try.prog 17 #[.agg #[.int .i64 fd.params, .int .i64 fd.names, .slice (some ⟨bq, off, none⟩) fd.blocks.length c], .int .i64 y] W (GivesPreds fd y W)) := fun W hW => by
          have h1 : Below w3a.heap.size w3a W := HWr.out.trans (hW.mono (by omega))
          exact PredsOf_any fd _ y W _ (HF3.out.old (h1.mono (by omega))) (fun b hb => by have h2 := hb.2; have h3 := h1.size; omega) (by omega)
        clear hcl hcell hq HX HE15 HAL HU16 HXS HB3 HF3 HQF3 HWr HW16 HW15 HW f0 f1 f2 pl hxi hgl2
        go_upto_region 15 with fail
        refine wp_region_held_drew (S := fun w' => w'.cell? ⟨qf, 0, none⟩ = some (.int .i64 fd.params) ∧ w'.cell? ⟨qf, 1, none⟩ = some (.int .i64 fd.names) ∧ w'.cell? ⟨qf, 2, none⟩ = some (.slice (some ⟨bq, off, none⟩) fd.blocks.length c) ∧ w'.cell? ⟨gl, ol + i, none⟩ = some (.int .i64 y)) (by kernel_rfl) (HKS.out _ HW0.out) (fun hHeld => ?_)
        refine wpAnyH_take (i := 0) (v := ?_) rfl (by kernel_rfl) (by kernel_rfl) (by kernel_rfl) (fun _ _ _ h => h) (Or.inl ⟨by rfl, ?_⟩) (by assumption) ?_
        rotate_left
        · intro w hSw
          simp only [List.getElem_toArray, List.getElem_cons_zero]
          (try dsimp only at hSw)
          go_simp
          first | done | (with_reducible rfl)
        simp only [List.getElem_toArray, List.getElem_cons_zero, Act.put, List.setIfInBounds_toArray, List.set_cons_zero, List.set_cons_succ]
        refine wpAnyH_take (i := 1) (v := ?_) rfl (by kernel_rfl) (by kernel_rfl) (by kernel_rfl) (fun _ _ _ h => h) (Or.inl ⟨by rfl, ?_⟩) (by assumption) ?_
        rotate_left
        · intro w hSw
          simp only [List.getElem_toArray, List.getElem_cons_succ, List.getElem_cons_zero]
          (try dsimp only at hSw)
          go_simp
          first | done | (with_reducible rfl)
        simp only [List.getElem_toArray, List.getElem_cons_succ, List.getElem_cons_zero, Act.put, List.setIfInBounds_toArray, List.set_cons_zero, List.set_cons_succ]
        refine wpAnyH_take (i := 2) (v := ?_) rfl (by kernel_rfl) (by kernel_rfl) (by kernel_rfl) (fun _ _ _ h => h) (Or.inl ⟨by rfl, ?_⟩) (by assumption) ?_
        rotate_left
        · intro w hSw
          simp only [List.getElem_toArray, List.getElem_cons_succ, List.getElem_cons_zero]
          (try dsimp only at hSw)
          go_simp
          first | done | (with_reducible rfl)
        simp only [List.getElem_toArray, List.getElem_cons_succ, List.getElem_cons_zero, Act.put, List.setIfInBounds_toArray, List.set_cons_zero, List.set_cons_succ]
        refine wpAnyH_take (i := 3) (v := ?_) rfl (by kernel_rfl) (by kernel_rfl) (by kernel_rfl) (fun _ _ _ h => h) (Or.inl ⟨by rfl, ?_⟩) (by assumption) ?_
        rotate_left
        · intro w hSw
          simp only [List.getElem_toArray, List.getElem_cons_succ, List.getElem_cons_zero]
          (try dsimp only at hSw)
          go_simp
          first | done | (with_reducible rfl)
        simp only [List.getElem_toArray, List.getElem_cons_succ, List.getElem_cons_zero, Act.put, List.setIfInBounds_toArray, List.set_cons_zero, List.set_cons_succ]
        refine wpAnyH_take (i := 4) (v := ?_) rfl (by kernel_rfl) (by kernel_rfl) (by kernel_rfl) (fun _ _ _ h => h) (Or.inl ⟨by rfl, ?_⟩) (by assumption) ?_
        rotate_left
        · intro w hSw
          simp only [List.getElem_toArray, List.getElem_cons_succ, List.getElem_cons_zero]
          (try dsimp only at hSw)
          go_simp
          first | done | (with_reducible rfl)
        simp only [List.getElem_toArray, List.getElem_cons_succ, List.getElem_cons_zero, Act.put, List.setIfInBounds_toArray, List.set_cons_zero, List.set_cons_succ]
        refine wpAnyH_take (i := 6) (v := ?_) rfl (by kernel_rfl) (by kernel_rfl) (by kernel_rfl) (fun _ _ _ h => h) (Or.inl ⟨by rfl, ?_⟩) (by assumption) ?_
        rotate_left
        · intro w hSw
          simp only [List.getElem_toArray, List.getElem_cons_succ, List.getElem_cons_zero]
          (try dsimp only at hSw)
          go_simp
          first | done | (with_reducible rfl)
        simp only [List.getElem_toArray, List.getElem_cons_succ, List.getElem_cons_zero, Act.put, List.setIfInBounds_toArray, List.set_cons_zero, List.set_cons_succ]
        refine wpAnyH_ready (rs := [5]) (by kernel_rfl) (by simp) ?_
        refine AllReadyH.cons rfl (fun K hK => ?_) AllReadyH.nil
        simp only [List.getElem_toArray, List.getElem_cons_succ, List.getElem_cons_zero]
        go_simp
        go_at_call 17; refine (HPC.out _ HW0.out).mono ?_; rintro e w17 ⟨ps, r17, rfl, hx17, hr17, hw17⟩; have HW17 : Hid (Below wr.heap.size wr w17) := HW0.out.trans hw17; (obtain rfl := preds_of HP.out HY.out.1 hx17); have HU17 := Lib.hid hr17; obtain ⟨_, A17, c17, rfl, _⟩ := hr17.ri; have hhas : hasB (predsF fd y) b = true := hasB_iff.2 HY.out.2; clear hw17 hx17 hr17
        go_wp2_with fail
        refine hK.out _ _ (HKS.out _ HW17.out) (fun hHeld => ?_)
        clear hK K
        refine wpAnyH_ready (rs := [7]) (by kernel_rfl) (by simp) ?_
        refine AllReadyH.cons rfl (fun K hK => ?_) AllReadyH.nil
        simp only [List.getElem_toArray, List.getElem_cons_succ, List.getElem_cons_zero]
        go_simp
        go_at_call 19; refine (has_any _ _ _ _ HU17.out.ri).mono ?_; rintro e w18 ⟨rfl, rfl⟩; rw [hhas]
        go_wp2_with fail
        refine hK.out _ _ (HKS.out _ HW17.out) (fun hHeld => ?_)
        clear hK K
        refine wpAnyH_take (i := 8) (v := ?_) rfl (by kernel_rfl) (by kernel_rfl) (by kernel_rfl) (fun _ _ _ h => h) (Or.inl ⟨by rfl, ?_⟩) (by assumption) ?_
        rotate_left
        · intro w hSw
          simp only [List.getElem_toArray, List.getElem_cons_succ, List.getElem_cons_zero]
          (try dsimp only at hSw)
          go_simp
          first | done | (with_reducible rfl)
        simp only [List.getElem_toArray, List.getElem_cons_succ, List.getElem_cons_zero, Act.put, List.setIfInBounds_toArray, List.set_cons_zero, List.set_cons_succ]
        refine wpAnyH_done (by kernel_rfl) ?_ _
        have HWn : Hid (Below w16.heap.size w16 w17) := HWi.out.trans (HW17.out.mono hzr)
        clear HKS HW0 HU17 hhas HPC
        go_wp2_with fail
        go_roundw
        case rel => exact ⟨i + 1, by go_num, by omega, HWn⟩
        case measure => simp [intOf]; omega
      go_wp2_with fail
      refine (PredsOf_any fd _ _ wr _ (HF3.out.old (HWr.out.mono (by omega))) (fun b hb => by have h2 := hb.2; have h3 := HWr.out.size; omega) (by omega)).mono ?_
      rintro e w20 ⟨ps, r20, rfl, hx20, hr20, hw20⟩
      have HW20 : Hid (Below w3a.heap.size w3a w20) := HWr.out.trans (hw20.mono (by omega))
      obtain rfl := preds_of HP.out ⟨by omega, by omega⟩ hx20
      obtain ⟨hple, Ap, cp, rfl, hap⟩ := hr20.ri
      have HPS : Hid (∀ (i : Nat) (y : Int), (predsF fd b)[i]? = some y → ∃ (m : Nat) (x : BlockD), y = m ∧ fd.blocks[m]? = some x ∧ (b : Int) ∈ toL x.fin.k x.fin.t x.fin.l) := fun i y h => of_mem_predsF (List.mem_of_getElem? h)
      have HPL : Hid (∀ (i : Nat) (y z : Int), (predsF fd b)[i]? = some y → (predsF fd b)[i + 1]? = some z → y < z) := fun i y z => predsF_lt
      generalize predsF fd b = ps at *
      have HAP := Lib.hid hap
      have hz20 := hw20.size
      have hz20a : w3a.heap.size ≤ w20.heap.size := HW20.out.size
      clear hx20 hw20 hap hr20 f0 f1 f2 HWr HWi HAL
      go_wp2_with fail
      go_loopw [11] (fun iv wq => ∃ i : Nat, iv = .int .i64 i ∧ i ≤ ps.length ∧ Hid (Below w20.heap.size w20 wq)) (fun iv _ => ps.length - (intOf iv).toNat)
      case atStart => exact ⟨0, rfl, Nat.zero_le _, Below.refl _ _⟩
      case round =>
        obtain ⟨i, rfl, hil, HWi⟩ := hrel
        have HWr : Hid (Below w3a.heap.size w3a wr) := HW20.out.trans (HWi.out.mono (by omega))
        have hzr := HWi.out.size
        have hq := kept_row HQF3.out HWr.out
        by_cases hli : (i : Int) < (ps.length : Int)
        · have hxi : ps[i]? = some ps[i] := List.getElem?_eq_getElem (by omega)
          obtain ⟨m, y, hym, hxm, hjm⟩ := HPS.out i _ hxi
          generalize ps[i] = ym at hxi hym
          subst hym
          have hmN : (m : Int) < (fd.blocks.length : Int) := by have := (List.getElem?_eq_some_iff.1 hxm).1; omega
          have hm0 : 0 ≤ (m : Int) := by omega
          have hm1 : decide ((m : Int) < 0) = false := by simp
          have hm2 : decide ((fd.blocks.length : Int) ≤ (m : Int)) = false := by simp; omega
          have hm3 : decide (fd.blocks.length ≤ m) = false := by simp; omega
          have hhas : hasB (succsL y.fin.k y.fin.a y.fin.t y.fin.l) b = true := by rw [(succs_of HP.out hxm).1]; exact hasB_iff.2 hjm
          obtain ⟨gl, ol, hgl1, hcl⟩ := HAP.out (by intro h; rw [h] at hxi; simp at hxi)
          subst hgl1
          have hcell : w20.cell? ⟨gl, ol + i, none⟩ = some (.int .i64 m) := hcl i _ hxi
          have hgl2 : gl < w20.heap.size := World.block_lt_of_cell? w20 ⟨gl, ol + i, none⟩ hcell
          have hgl3 : gl < wr.heap.size := by omega
          have pl : wr.cell? ⟨gl, ol + i, none⟩ = some (.int .i64 m) := (HWi.out.cell (p := ⟨gl, ol + i, none⟩) hgl2).trans hcell
          have hE20 := HF3.out.old (HWr.out.mono (by omega))
          obtain ⟨u, hu, hrow⟩ := hE20
          obtain rfl : u = .slice (some ⟨bq, off, none⟩) fd.blocks.length c := by injection hu with hu; simp at hu; exact hu.symm
          obtain ⟨_, A', c', hAc, hxr⟩ := hrow
          injection hAc with hA1 _ hA3
          subst hA1
          subst hA3
          obtain ⟨bq', off', hbq, hDb', hcells⟩ := hxr (by intro h; rw [h] at hxm; simp at hxm)
          obtain ⟨rfl, rfl⟩ : bq = bq' ∧ off = off' := by injection hbq with hbq; injection hbq with h1 h2; exact ⟨h1, h2⟩
          obtain ⟨cs, hE, hcs⟩ := hcells m y hxm
          obtain ⟨_, _, _, _, rfl, _⟩ := hE
          have d4 := (hcs 4 _ rfl).1
          have d5 := (hcs 5 _ rfl).1
          have d6 := (hcs 6 _ rfl).1
          have d7 := (hcs 7 _ rfl).1
          have hbq3 : bq < wr.heap.size := World.block_lt_of_cell? wr ⟨bq, off + m * 8 + 4, none⟩ d4
          clear hcs hcells hxr hu hjm hxm hcell hgl2 hDb' hbq
          by_cases hi0 : i = 0
          · subst hi0
            clear hcl hxi
            rw [Nat.add_zero] at pl
            have HKS : Hid (∀ w7 : World, Below wr.heap.size wr w7 → (fun w' => w'.cell? ⟨qf, 0, none⟩ = some (.int .i64 fd.params) ∧ w'.cell? ⟨qf, 1, none⟩ = some (.int .i64 fd.names) ∧ w'.cell? ⟨qf, 2, none⟩ = some (.slice (some ⟨bq, off, none⟩) fd.blocks.length c) ∧ w'.cell? ⟨gl, ol, none⟩ = some (.int .i64 m) ∧ w'.cell? ⟨bq, off + m * 8 + 4, none⟩ = some (.int .i64 y.fin.k) ∧ w'.cell? ⟨bq, off + m * 8 + 4 + 1, none⟩ = some (.int .i64 y.fin.a) ∧ w'.cell? ⟨bq, off + m * 8 + 4 + 2, none⟩ = some (.int .i64 y.fin.t) ∧ w'.cell? ⟨bq, off + m * 8 + 4 + 3, none⟩ = some (.int .i64 y.fin.l)) w7) := fun w7 hb => by
              have f := kept_row hq hb
              exact ⟨cell_of_row w7 _ 0 _ _ (0, 0) f, cell_of_row w7 _ 1 _ _ (0, 0) f, cell_of_row w7 _ 2 _ _ (0, 0) f, (hb.cell (p := ⟨gl, _, none⟩) hgl3).trans pl, (hb.cell (p := ⟨bq, _, none⟩) hbq3).trans d4, (hb.cell (p := ⟨bq, _, none⟩) hbq3).trans d5, (hb.cell (p := ⟨bq, _, none⟩) hbq3).trans d6, (hb.cell (p := ⟨bq, _, none⟩) hbq3).trans d7⟩
            have HW0 : Hid (Below wr.heap.size wr wr.drew) := (Below.refl _ _).drew
            clear hq HX HE15 HU16 HXS HB3 HF3 HQF3 HWr HW16 HW15 HW HW20 HPS HPL HAP hgl3 hbq3 d4 d5 d6 d7 pl
            go_upto_region 21 with fail
            refine wp_region_held_drew (S := fun w' => w'.cell? ⟨qf, 0, none⟩ = some (.int .i64 fd.params) ∧ w'.cell? ⟨qf, 1, none⟩ = some (.int .i64 fd.names) ∧ w'.cell? ⟨qf, 2, none⟩ = some (.slice (some ⟨bq, off, none⟩) fd.blocks.length c) ∧ w'.cell? ⟨gl, ol, none⟩ = some (.int .i64 m) ∧ w'.cell? ⟨bq, off + m * 8 + 4, none⟩ = some (.int .i64 y.fin.k) ∧ w'.cell? ⟨bq, off + m * 8 + 4 + 1, none⟩ = some (.int .i64 y.fin.a) ∧ w'.cell? ⟨bq, off + m * 8 + 4 + 2, none⟩ = some (.int .i64 y.fin.t) ∧ w'.cell? ⟨bq, off + m * 8 + 4 + 3, none⟩ = some (.int .i64 y.fin.l)) (by kernel_rfl) (HKS.out _ HW0.out) (fun hHeld => ?_)
            refine wpAnyH_take (i := 0) (v := ?_) rfl (by kernel_rfl) (by kernel_rfl) (by kernel_rfl) (fun _ _ _ h => h) (Or.inl ⟨by rfl, ?_⟩) (by assumption) ?_
            rotate_left
            · intro w hSw
              simp only [List.getElem_toArray, List.getElem_cons_zero]
              (try dsimp only at hSw)
              go_simp
              first | done | (with_reducible rfl)
            simp only [List.getElem_toArray, List.getElem_cons_zero, Act.put, List.setIfInBounds_toArray, List.set_cons_zero, List.set_cons_succ]
            refine wpAnyH_take (i := 1) (v := ?_) rfl (by kernel_rfl) (by kernel_rfl) (by kernel_rfl) (fun _ _ _ h => h) (Or.inl ⟨by rfl, ?_⟩) (by assumption) ?_
            rotate_left
            · intro w hSw
              simp only [List.getElem_toArray, List.getElem_cons_succ, List.getElem_cons_zero]
              (try dsimp only at hSw)
              go_simp
              first | done | (with_reducible rfl)
            simp only [List.getElem_toArray, List.getElem_cons_succ, List.getElem_cons_zero, Act.put, List.setIfInBounds_toArray, List.set_cons_zero, List.set_cons_succ]
            refine wpAnyH_take (i := 2) (v := ?_) rfl (by kernel_rfl) (by kernel_rfl) (by kernel_rfl) (fun _ _ _ h => h) (Or.inl ⟨by rfl, ?_⟩) (by assumption) ?_
            rotate_left
            · intro w hSw
              simp only [List.getElem_toArray, List.getElem_cons_succ, List.getElem_cons_zero]
              (try dsimp only at hSw)
              go_simp
              first | done | (with_reducible rfl)
            simp only [List.getElem_toArray, List.getElem_cons_succ, List.getElem_cons_zero, Act.put, List.setIfInBounds_toArray, List.set_cons_zero, List.set_cons_succ]
            refine wpAnyH_take (i := 3) (v := ?_) rfl (by kernel_rfl) (by kernel_rfl) (by kernel_rfl) (fun _ _ _ h => h) (Or.inl ⟨by rfl, ?_⟩) (by assumption) ?_
            rotate_left
            · intro w hSw
              simp only [List.getElem_toArray, List.getElem_cons_succ, List.getElem_cons_zero]
              (try dsimp only at hSw)
              go_simp
              first | done | (with_reducible rfl)
            simp only [List.getElem_toArray, List.getElem_cons_succ, List.getElem_cons_zero, Act.put, List.setIfInBounds_toArray, List.set_cons_zero, List.set_cons_succ]
            refine wpAnyH_take (i := 4) (v := ?_) rfl (by kernel_rfl) (by kernel_rfl) (by kernel_rfl) (fun _ _ _ h => h) (Or.inl ⟨by rfl, ?_⟩) (by assumption) ?_
            rotate_left
            · intro w hSw
              simp only [List.getElem_toArray, List.getElem_cons_succ, List.getElem_cons_zero]
              (try dsimp only at hSw)
              go_simp
              first | done | (with_reducible rfl)
            simp only [List.getElem_toArray, List.getElem_cons_succ, List.getElem_cons_zero, Act.put, List.setIfInBounds_toArray, List.set_cons_zero, List.set_cons_succ]
            refine wpAnyH_take (i := 5) (v := ?_) rfl (by kernel_rfl) (by kernel_rfl) (by kernel_rfl) (fun _ _ _ h => h) (Or.inl ⟨by rfl, ?_⟩) (by assumption) ?_
            rotate_left
            · intro w hSw
              simp only [List.getElem_toArray, List.getElem_cons_succ, List.getElem_cons_zero]
              (try dsimp only at hSw)
              go_simp
              first | done | (with_reducible rfl)
            simp only [List.getElem_toArray, List.getElem_cons_succ, List.getElem_cons_zero, Act.put, List.setIfInBounds_toArray, List.set_cons_zero, List.set_cons_succ]
            refine wpAnyH_take (i := 6) (v := ?_) rfl (by kernel_rfl) (by kernel_rfl) (by kernel_rfl) (fun _ _ _ h => h) (Or.inl ⟨by rfl, ?_⟩) (by assumption) ?_
            rotate_left
            · intro w hSw
              simp only [List.getElem_toArray, List.getElem_cons_succ, List.getElem_cons_zero]
              (try dsimp only at hSw)
              go_simp
              first | done | (with_reducible rfl)
            simp only [List.getElem_toArray, List.getElem_cons_succ, List.getElem_cons_zero, Act.put, List.setIfInBounds_toArray, List.set_cons_zero, List.set_cons_succ]
            refine wpAnyH_take (i := 7) (v := ?_) rfl (by kernel_rfl) (by kernel_rfl) (by kernel_rfl) (fun _ _ _ h => h) (Or.inl ⟨by rfl, ?_⟩) (by assumption) ?_
            rotate_left
            · intro w hSw
              simp only [List.getElem_toArray, List.getElem_cons_succ, List.getElem_cons_zero]
              (try dsimp only at hSw)
              go_simp
              first | done | (with_reducible rfl)
            simp only [List.getElem_toArray, List.getElem_cons_succ, List.getElem_cons_zero, Act.put, List.setIfInBounds_toArray, List.set_cons_zero, List.set_cons_succ]
            refine wpAnyH_take (i := 8) (v := ?_) rfl (by kernel_rfl) (by kernel_rfl) (by kernel_rfl) (fun _ _ _ h => h) (Or.inl ⟨by rfl, ?_⟩) (by assumption) ?_
            rotate_left
            · intro w hSw
              simp only [List.getElem_toArray, List.getElem_cons_succ, List.getElem_cons_zero]
              (try dsimp only at hSw)
              go_simp
              first | done | (with_reducible rfl)
            simp only [List.getElem_toArray, List.getElem_cons_succ, List.getElem_cons_zero, Act.put, List.setIfInBounds_toArray, List.set_cons_zero, List.set_cons_succ]
            refine wpAnyH_take (i := 9) (v := ?_) rfl (by kernel_rfl) (by kernel_rfl) (by kernel_rfl) (fun _ _ _ h => h) (Or.inl ⟨by rfl, ?_⟩) (by assumption) ?_
            rotate_left
            · intro w hSw
              simp only [List.getElem_toArray, List.getElem_cons_succ, List.getElem_cons_zero]
              (try dsimp only at hSw)
              go_simp
              first | done | (with_reducible rfl)
            simp only [List.getElem_toArray, List.getElem_cons_succ, List.getElem_cons_zero, Act.put, List.setIfInBounds_toArray, List.set_cons_zero, List.set_cons_succ]
            refine wpAnyH_take (i := 10) (v := ?_) rfl (by kernel_rfl) (by kernel_rfl) (by kernel_rfl) (fun _ _ _ h => h) (Or.inl ⟨by rfl, ?_⟩) (by assumption) ?_
            rotate_left
            · intro w hSw
              simp only [List.getElem_toArray, List.getElem_cons_succ, List.getElem_cons_zero]
              (try dsimp only at hSw)
              go_simp
              first | done | (with_reducible rfl)
            simp only [List.getElem_toArray, List.getElem_cons_succ, List.getElem_cons_zero, Act.put, List.setIfInBounds_toArray, List.set_cons_zero, List.set_cons_succ]
            refine wpAnyH_take (i := 11) (v := ?_) rfl (by kernel_rfl) (by kernel_rfl) (by kernel_rfl) (fun _ _ _ h => h) (Or.inl ⟨by rfl, ?_⟩) (by assumption) ?_
            rotate_left
            · intro w hSw
              simp only [List.getElem_toArray, List.getElem_cons_succ, List.getElem_cons_zero]
              (try dsimp only at hSw)
              go_simp
              first | done | (with_reducible rfl)
            simp only [List.getElem_toArray, List.getElem_cons_succ, List.getElem_cons_zero, Act.put, List.setIfInBounds_toArray, List.set_cons_zero, List.set_cons_succ]
            refine wpAnyH_take (i := 12) (v := ?_) rfl (by kernel_rfl) (by kernel_rfl) (by kernel_rfl) (fun _ _ _ h => h) (Or.inl ⟨by rfl, ?_⟩) (by assumption) ?_
            rotate_left
            · intro w hSw
              simp only [List.getElem_toArray, List.getElem_cons_succ, List.getElem_cons_zero]
              (try dsimp only at hSw)
              go_simp
              first | done | (with_reducible rfl)
            simp only [List.getElem_toArray, List.getElem_cons_succ, List.getElem_cons_zero, Act.put, List.setIfInBounds_toArray, List.set_cons_zero, List.set_cons_succ]
            refine wpAnyH_take (i := 13) (v := ?_) rfl (by kernel_rfl) (by kernel_rfl) (by kernel_rfl) (fun _ _ _ h => h) (Or.inl ⟨by rfl, ?_⟩) (by assumption) ?_
            rotate_left
            · intro w hSw
              simp only [List.getElem_toArray, List.getElem_cons_succ, List.getElem_cons_zero]
              (try dsimp only at hSw)
              go_simp
              first | done | (with_reducible rfl)
            simp only [List.getElem_toArray, List.getElem_cons_succ, List.getElem_cons_zero, Act.put, List.setIfInBounds_toArray, List.set_cons_zero, List.set_cons_succ]
            refine wpAnyH_take (i := 14) (v := ?_) rfl (by kernel_rfl) (by kernel_rfl) (by kernel_rfl) (fun _ _ _ h => h) (Or.inl ⟨by rfl, ?_⟩) (by assumption) ?_
            rotate_left
            · intro w hSw
              simp only [List.getElem_toArray, List.getElem_cons_succ, List.getElem_cons_zero]
              (try dsimp only at hSw)
              go_simp
              first | done | (with_reducible rfl)
            simp only [List.getElem_toArray, List.getElem_cons_succ, List.getElem_cons_zero, Act.put, List.setIfInBounds_toArray, List.set_cons_zero, List.set_cons_succ]
            refine wpAnyH_take (i := 15) (v := ?_) rfl (by kernel_rfl) (by kernel_rfl) (by kernel_rfl) (fun _ _ _ h => h) (Or.inl ⟨by rfl, ?_⟩) (by assumption) ?_
            rotate_left
            · intro w hSw
              simp only [List.getElem_toArray, List.getElem_cons_succ, List.getElem_cons_zero]
              (try dsimp only at hSw)
              go_simp
              first | done | (with_reducible rfl)
            simp only [List.getElem_toArray, List.getElem_cons_succ, List.getElem_cons_zero, Act.put, List.setIfInBounds_toArray, List.set_cons_zero, List.set_cons_succ]
            refine wpAnyH_take (i := 16) (v := ?_) rfl (by kernel_rfl) (by kernel_rfl) (by kernel_rfl) (fun _ _ _ h => h) (Or.inl ⟨by rfl, ?_⟩) (by assumption) ?_
            rotate_left
            · intro w hSw
              simp only [List.getElem_toArray, List.getElem_cons_succ, List.getElem_cons_zero]
              (try dsimp only at hSw)
              go_simp
              first | done | (with_reducible rfl)
            simp only [List.getElem_toArray, List.getElem_cons_succ, List.getElem_cons_zero, Act.put, List.setIfInBounds_toArray, List.set_cons_zero, List.set_cons_succ]
            refine wpAnyH_take (i := 17) (v := ?_) rfl (by kernel_rfl) (by kernel_rfl) (by kernel_rfl) (fun _ _ _ h => h) (Or.inl ⟨by rfl, ?_⟩) (by assumption) ?_
            rotate_left
            · intro w hSw
              simp only [List.getElem_toArray, List.getElem_cons_succ, List.getElem_cons_zero]
              (try dsimp only at hSw)
              go_simp
              first | done | (with_reducible rfl)
            simp only [List.getElem_toArray, List.getElem_cons_succ, List.getElem_cons_zero, Act.put, List.setIfInBounds_toArray, List.set_cons_zero, List.set_cons_succ]
            refine wpAnyH_take (i := 18) (v := ?_) rfl (by kernel_rfl) (by kernel_rfl) (by kernel_rfl) (fun _ _ _ h => h) (Or.inl ⟨by rfl, ?_⟩) (by assumption) ?_
            rotate_left
            · intro w hSw
              simp only [List.getElem_toArray, List.getElem_cons_succ, List.getElem_cons_zero]
              (try dsimp only at hSw)
              go_simp
              first | done | (with_reducible rfl)
            simp only [List.getElem_toArray, List.getElem_cons_succ, List.getElem_cons_zero, Act.put, List.setIfInBounds_toArray, List.set_cons_zero, List.set_cons_succ]
            refine wpAnyH_take (i := 19) (v := ?_) rfl (by kernel_rfl) (by kernel_rfl) (by kernel_rfl) (fun _ _ _ h => h) (Or.inl ⟨by rfl, ?_⟩) (by assumption) ?_
            rotate_left
            · intro w hSw
              simp only [List.getElem_toArray, List.getElem_cons_succ, List.getElem_cons_zero]
              (try dsimp only at hSw)
              go_simp
              first | done | (with_reducible rfl)
            simp only [List.getElem_toArray, List.getElem_cons_succ, List.getElem_cons_zero, Act.put, List.setIfInBounds_toArray, List.set_cons_zero, List.set_cons_succ]
            refine wpAnyH_take (i := 20) (v := ?_) rfl (by kernel_rfl) (by kernel_rfl) (by kernel_rfl) (fun _ _ _ h => h) (Or.inl ⟨by rfl, ?_⟩) (by assumption) ?_
            rotate_left
            · intro w hSw
              simp only [List.getElem_toArray, List.getElem_cons_succ, List.getElem_cons_zero]
              (try dsimp only at hSw)
              go_simp
              first | done | (with_reducible rfl)
            simp only [List.getElem_toArray, List.getElem_cons_succ, List.getElem_cons_zero, Act.put, List.setIfInBounds_toArray, List.set_cons_zero, List.set_cons_succ]
            refine wpAnyH_take (i := 21) (v := ?_) rfl (by kernel_rfl) (by kernel_rfl) (by kernel_rfl) (fun _ _ _ h => h) (Or.inl ⟨by rfl, ?_⟩) (by assumption) ?_
            rotate_left
            · intro w hSw
              simp only [List.getElem_toArray, List.getElem_cons_succ, List.getElem_cons_zero]
              (try dsimp only at hSw)
              go_simp
              first | done | (with_reducible rfl)
            simp only [List.getElem_toArray, List.getElem_cons_succ, List.getElem_cons_zero, Act.put, List.setIfInBounds_toArray, List.set_cons_zero, List.set_cons_succ]
            refine wpAnyH_take (i := 22) (v := ?_) rfl (by kernel_rfl) (by kernel_rfl) (by kernel_rfl) (fun _ _ _ h => h) (Or.inl ⟨by rfl, ?_⟩) (by assumption) ?_
            rotate_left
            · intro w hSw
              simp only [List.getElem_toArray, List.getElem_cons_succ, List.getElem_cons_zero]
              (try dsimp only at hSw)
              go_simp
              first | done | (with_reducible rfl)
            simp only [List.getElem_toArray, List.getElem_cons_succ, List.getElem_cons_zero, Act.put, List.setIfInBounds_toArray, List.set_cons_zero, List.set_cons_succ]
            refine wpAnyH_take (i := 23) (v := ?_) rfl (by kernel_rfl) (by kernel_rfl) (by kernel_rfl) (fun _ _ _ h => h) (Or.inl ⟨by rfl, ?_⟩) (by assumption) ?_
            rotate_left
            · intro w hSw
              simp only [List.getElem_toArray, List.getElem_cons_succ, List.getElem_cons_zero]
              (try dsimp only at hSw)
              go_simp
              first | done | (with_reducible rfl)
            simp only [List.getElem_toArray, List.getElem_cons_succ, List.getElem_cons_zero, Act.put, List.setIfInBounds_toArray, List.set_cons_zero, List.set_cons_succ]
            refine wpAnyH_take (i := 24) (v := ?_) rfl (by kernel_rfl) (by kernel_rfl) (by kernel_rfl) (fun _ _ _ h => h) (Or.inl ⟨by rfl, ?_⟩) (by assumption) ?_
            rotate_left
            · intro w hSw
              simp only [List.getElem_toArray, List.getElem_cons_succ, List.getElem_cons_zero]
              (try dsimp only at hSw)
              go_simp
              first | done | (with_reducible rfl)
            simp only [List.getElem_toArray, List.getElem_cons_succ, List.getElem_cons_zero, Act.put, List.setIfInBounds_toArray, List.set_cons_zero, List.set_cons_succ]
            refine wpAnyH_take (i := 26) (v := ?_) rfl (by kernel_rfl) (by kernel_rfl) (by kernel_rfl) (fun _ _ _ h => h) (Or.inl ⟨by rfl, ?_⟩) (by assumption) ?_
            rotate_left
            · intro w hSw
              simp only [List.getElem_toArray, List.getElem_cons_succ, List.getElem_cons_zero]
              (try dsimp only at hSw)
              go_simp
              first | done | (with_reducible rfl)
            simp only [List.getElem_toArray, List.getElem_cons_succ, List.getElem_cons_zero, Act.put, List.setIfInBounds_toArray, List.set_cons_zero, List.set_cons_succ]
            refine wpAnyH_ready (rs := [25]) (by kernel_rfl) (by simp) ?_
            refine AllReadyH.cons rfl (fun K hK => ?_) AllReadyH.nil
            simp only [List.getElem_toArray, List.getElem_cons_succ, List.getElem_cons_zero]
            go_simp
            go_at_call 15; refine (SuccsOf_any _ _ _ _ _).mono ?_; rintro e w21 ⟨r21, rfl, hr21, hb21⟩; have HW21 : Hid (Below wr.heap.size wr w21) := HW0.out.trans (hb21.mono HW0.out.size); have HU21 := Lib.hid hr21; obtain ⟨_, A21, c21, rfl, _⟩ := hr21.ri; clear hb21 hr21
            go_wp2_with fail
            refine hK.out _ _ (HKS.out _ HW21.out) (fun hHeld => ?_)
            clear hK K
            refine wpAnyH_ready (rs := [27]) (by kernel_rfl) (by simp) ?_
            refine AllReadyH.cons rfl (fun K hK => ?_) AllReadyH.nil
            simp only [List.getElem_toArray, List.getElem_cons_succ, List.getElem_cons_zero]
            go_simp
            go_at_call 19; refine (has_any _ _ _ _ HU21.out.ri).mono ?_; rintro e w22 ⟨rfl, rfl⟩; rw [hhas]
            go_wp2_with fail
            refine hK.out _ _ (HKS.out _ HW21.out) (fun hHeld => ?_)
            clear hK K
            refine wpAnyH_take (i := 28) (v := ?_) rfl (by kernel_rfl) (by kernel_rfl) (by kernel_rfl) (fun _ _ _ h => h) (Or.inl ⟨by rfl, ?_⟩) (by assumption) ?_
            rotate_left
            · intro w hSw
              simp only [List.getElem_toArray, List.getElem_cons_succ, List.getElem_cons_zero]
              (try dsimp only at hSw)
              go_simp
              first | done | (with_reducible rfl)
            simp only [List.getElem_toArray, List.getElem_cons_succ, List.getElem_cons_zero, Act.put, List.setIfInBounds_toArray, List.set_cons_zero, List.set_cons_succ]
            refine wpAnyH_take (i := 29) (v := ?_) rfl (by kernel_rfl) (by kernel_rfl) (by kernel_rfl) (fun _ _ _ h => h) (Or.inl ⟨by rfl, ?_⟩) (by assumption) ?_
            rotate_left
            · intro w hSw
              simp only [List.getElem_toArray, List.getElem_cons_succ, List.getElem_cons_zero]
              (try dsimp only at hSw)
              go_simp
              first | done | (with_reducible rfl)
            simp only [List.getElem_toArray, List.getElem_cons_succ, List.getElem_cons_zero, Act.put, List.setIfInBounds_toArray, List.set_cons_zero, List.set_cons_succ]
            refine wpAnyH_take (i := 30) (v := ?_) rfl (by kernel_rfl) (by kernel_rfl) (by kernel_rfl) (fun _ _ _ h => h) (Or.inl ⟨by rfl, ?_⟩) (by assumption) ?_
            rotate_left
            · intro w hSw
              simp only [List.getElem_toArray, List.getElem_cons_succ, List.getElem_cons_zero]
              (try dsimp only at hSw)
              go_simp
              first | done | (with_reducible rfl)
            simp only [List.getElem_toArray, List.getElem_cons_succ, List.getElem_cons_zero, Act.put, List.setIfInBounds_toArray, List.set_cons_zero, List.set_cons_succ]
            refine wpAnyH_take (i := 31) (v := ?_) rfl (by kernel_rfl) (by kernel_rfl) (by kernel_rfl) (fun _ _ _ h => h) (Or.inl ⟨by rfl, ?_⟩) (by assumption) ?_
            rotate_left
            · intro w hSw
              simp only [List.getElem_toArray, List.getElem_cons_succ, List.getElem_cons_zero]
              (try dsimp only at hSw)
              go_simp
              first | done | (with_reducible rfl)
            simp only [List.getElem_toArray, List.getElem_cons_succ, List.getElem_cons_zero, Act.put, List.setIfInBounds_toArray, List.set_cons_zero, List.set_cons_succ]
            refine wpAnyH_take (i := 32) (v := ?_) rfl (by kernel_rfl) (by kernel_rfl) (by kernel_rfl) (fun _ _ _ h => h) (Or.inl ⟨by rfl, ?_⟩) (by assumption) ?_
            rotate_left
            · intro w hSw
              simp only [List.getElem_toArray, List.getElem_cons_succ, List.getElem_cons_zero]
              (try dsimp only at hSw)
              go_simp
              first | done | (with_reducible rfl)
            simp only [List.getElem_toArray, List.getElem_cons_succ, List.getElem_cons_zero, Act.put, List.setIfInBounds_toArray, List.set_cons_zero, List.set_cons_succ]
            refine wpAnyH_take (i := 33) (v := ?_) rfl (by kernel_rfl) (by kernel_rfl) (by kernel_rfl) (fun _ _ _ h => h) (Or.inl ⟨by rfl, ?_⟩) (by assumption) ?_
            rotate_left
            · intro w hSw
              simp only [List.getElem_toArray, List.getElem_cons_succ, List.getElem_cons_zero]
              (try dsimp only at hSw)
              go_simp
              first | done | (with_reducible rfl)
            simp only [List.getElem_toArray, List.getElem_cons_succ, List.getElem_cons_zero, Act.put, List.setIfInBounds_toArray, List.set_cons_zero, List.set_cons_succ]
            refine wpAnyH_take (i := 34) (v := undef) rfl (by kernel_rfl) (by kernel_rfl) (by kernel_rfl) (fun _ _ _ h => h) (Or.inr ⟨by rfl, rfl⟩) (by assumption) ?_
            simp only [List.getElem_toArray, List.getElem_cons_succ, List.getElem_cons_zero, Act.put, List.setIfInBounds_toArray, List.set_cons_zero, List.set_cons_succ]
            refine wpAnyH_take (i := 35) (v := undef) rfl (by kernel_rfl) (by kernel_rfl) (by kernel_rfl) (fun _ _ _ h => h) (Or.inr ⟨by rfl, rfl⟩) (by assumption) ?_
            simp only [List.getElem_toArray, List.getElem_cons_succ, List.getElem_cons_zero, Act.put, List.setIfInBounds_toArray, List.set_cons_zero, List.set_cons_succ]
            refine wpAnyH_take (i := 36) (v := undef) rfl (by kernel_rfl) (by kernel_rfl) (by kernel_rfl) (fun _ _ _ h => h) (Or.inr ⟨by rfl, rfl⟩) (by assumption) ?_
            simp only [List.getElem_toArray, List.getElem_cons_succ, List.getElem_cons_zero, Act.put, List.setIfInBounds_toArray, List.set_cons_zero, List.set_cons_succ]
            refine wpAnyH_take (i := 37) (v := undef) rfl (by kernel_rfl) (by kernel_rfl) (by kernel_rfl) (fun _ _ _ h => h) (Or.inr ⟨by rfl, rfl⟩) (by assumption) ?_
            simp only [List.getElem_toArray, List.getElem_cons_succ, List.getElem_cons_zero, Act.put, List.setIfInBounds_toArray, List.set_cons_zero, List.set_cons_succ]
            refine wpAnyH_take (i := 38) (v := undef) rfl (by kernel_rfl) (by kernel_rfl) (by kernel_rfl) (fun _ _ _ h => h) (Or.inr ⟨by rfl, rfl⟩) (by assumption) ?_
            simp only [List.getElem_toArray, List.getElem_cons_succ, List.getElem_cons_zero, Act.put, List.setIfInBounds_toArray, List.set_cons_zero, List.set_cons_succ]
            refine wpAnyH_take (i := 39) (v := undef) rfl (by kernel_rfl) (by kernel_rfl) (by kernel_rfl) (fun _ _ _ h => h) (Or.inr ⟨by rfl, rfl⟩) (by assumption) ?_
            simp only [List.getElem_toArray, List.getElem_cons_succ, List.getElem_cons_zero, Act.put, List.setIfInBounds_toArray, List.set_cons_zero, List.set_cons_succ]
            refine wpAnyH_take (i := 40) (v := undef) rfl (by kernel_rfl) (by kernel_rfl) (by kernel_rfl) (fun _ _ _ h => h) (Or.inr ⟨by rfl, rfl⟩) (by assumption) ?_
            simp only [List.getElem_toArray, List.getElem_cons_succ, List.getElem_cons_zero, Act.put, List.setIfInBounds_toArray, List.set_cons_zero, List.set_cons_succ]
            refine wpAnyH_take (i := 41) (v := undef) rfl (by kernel_rfl) (by kernel_rfl) (by kernel_rfl) (fun _ _ _ h => h) (Or.inr ⟨by rfl, rfl⟩) (by assumption) ?_
            simp only [List.getElem_toArray, List.getElem_cons_succ, List.getElem_cons_zero, Act.put, List.setIfInBounds_toArray, List.set_cons_zero, List.set_cons_succ]
            refine wpAnyH_take (i := 42) (v := undef) rfl (by kernel_rfl) (by kernel_rfl) (by kernel_rfl) (fun _ _ _ h => h) (Or.inr ⟨by rfl, rfl⟩) (by assumption) ?_
            simp only [List.getElem_toArray, List.getElem_cons_succ, List.getElem_cons_zero, Act.put, List.setIfInBounds_toArray, List.set_cons_zero, List.set_cons_succ]
            refine wpAnyH_take (i := 43) (v := undef) rfl (by kernel_rfl) (by kernel_rfl) (by kernel_rfl) (fun _ _ _ h => h) (Or.inr ⟨by rfl, rfl⟩) (by assumption) ?_
            simp only [List.getElem_toArray, List.getElem_cons_succ, List.getElem_cons_zero, Act.put, List.setIfInBounds_toArray, List.set_cons_zero, List.set_cons_succ]
            refine wpAnyH_take (i := 44) (v := ?_) rfl (by kernel_rfl) (by kernel_rfl) (by kernel_rfl) (fun _ _ _ h => h) (Or.inl ⟨by rfl, ?_⟩) (by assumption) ?_
            rotate_left
            · intro w hSw
              simp only [List.getElem_toArray, List.getElem_cons_succ, List.getElem_cons_zero]
              (try dsimp only at hSw)
              go_simp
              first | done | (with_reducible rfl)
            simp only [List.getElem_toArray, List.getElem_cons_succ, List.getElem_cons_zero, Act.put, List.setIfInBounds_toArray, List.set_cons_zero, List.set_cons_succ]
            refine wpAnyH_take (i := 45) (v := ?_) rfl (by kernel_rfl) (by kernel_rfl) (by kernel_rfl) (fun _ _ _ h => h) (Or.inl ⟨by rfl, ?_⟩) (by assumption) ?_
            rotate_left
            · intro w hSw
              simp only [List.getElem_toArray, List.getElem_cons_succ, List.getElem_cons_zero]
              (try dsimp only at hSw)
              go_simp
              first | done | (with_reducible rfl)
            simp only [List.getElem_toArray, List.getElem_cons_succ, List.getElem_cons_zero, Act.put, List.setIfInBounds_toArray, List.set_cons_zero, List.set_cons_succ]
            refine wpAnyH_done (by kernel_rfl) ?_ _
            have HWn : Hid (Below w20.heap.size w20 w21) := HWi.out.trans (HW21.out.mono hzr)
            clear HKS HW0 HU21 hhas
            go_wp2_with fail
            go_roundw
            case rel => exact ⟨1, by go_num, by omega, HWn⟩
            case measure => simp [intOf]; omega
          · obtain ⟨j, rfl⟩ : ∃ j, i = j + 1 := ⟨i - 1, by omega⟩
            have hxj : ps[j]? = some ps[j] := List.getElem?_eq_getElem (by omega)
            have hzm := HPL.out j _ _ hxj hxi
            generalize ps[j] = z at hxj hzm
            have pz : wr.cell? ⟨gl, ol + j, none⟩ = some (.int .i64 z) := (HWi.out.cell (p := ⟨gl, ol + j, none⟩) (World.block_lt_of_cell? w20 ⟨gl, ol + j, none⟩ (hcl j _ hxj))).trans (hcl j _ hxj)
            have hj0 : 0 ≤ (j : Int) := by omega
            have hj1 : 0 ≤ (j : Int) + 1 := by omega
            have hj2 : (j : Int) + 1 < (ps.length : Int) := by omega
            have hj3 : (j : Int) < (ps.length : Int) := by omega
            have hj6 : IntKind.i64.wrap (j : Int) = (j : Int) := IntWalk.i64_in _ ⟨by omega, by omega⟩
            have hj4 : decide (0 < (j : Int) + 1) = true := by first | (simp; done) | (simp; omega)
            have hj5 : decide ((m : Int) ≤ z) = false := by simp; omega
            clear hcl hxi hxj hi0
            have HKS : Hid (∀ w7 : World, Below wr.heap.size wr w7 → (fun w' => w'.cell? ⟨qf, 0, none⟩ = some (.int .i64 fd.params) ∧ w'.cell? ⟨qf, 1, none⟩ = some (.int .i64 fd.names) ∧ w'.cell? ⟨qf, 2, none⟩ = some (.slice (some ⟨bq, off, none⟩) fd.blocks.length c) ∧ w'.cell? ⟨gl, ol + (j + 1), none⟩ = some (.int .i64 m) ∧ w'.cell? ⟨bq, off + m * 8 + 4, none⟩ = some (.int .i64 y.fin.k) ∧ w'.cell? ⟨bq, off + m * 8 + 4 + 1, none⟩ = some (.int .i64 y.fin.a) ∧ w'.cell? ⟨bq, off + m * 8 + 4 + 2, none⟩ = some (.int .i64 y.fin.t) ∧ w'.cell? ⟨bq, off + m * 8 + 4 + 3, none⟩ = some (.int .i64 y.fin.l) ∧ w'.cell? ⟨gl, ol + j, none⟩ = some (.int .i64 z)) w7) := fun w7 hb => by
              have f := kept_row hq hb
              exact ⟨cell_of_row w7 _ 0 _ _ (0, 0) f, cell_of_row w7 _ 1 _ _ (0, 0) f, cell_of_row w7 _ 2 _ _ (0, 0) f, (hb.cell (p := ⟨gl, _, none⟩) hgl3).trans pl, (hb.cell (p := ⟨bq, _, none⟩) hbq3).trans d4, (hb.cell (p := ⟨bq, _, none⟩) hbq3).trans d5, (hb.cell (p := ⟨bq, _, none⟩) hbq3).trans d6, (hb.cell (p := ⟨bq, _, none⟩) hbq3).trans d7, (hb.cell (p := ⟨gl, _, none⟩) hgl3).trans pz⟩
            have HW0 : Hid (Below wr.heap.size wr wr.drew) := (Below.refl _ _).drew
            clear hq HX HE15 HU16 HXS HB3 HF3 HQF3 HWr HW16 HW15 HW HW20 HPS HPL HAP hgl3 hbq3 d4 d5 d6 d7 pl pz
            go_upto_region 21 with fail
            refine wp_region_held_drew (S := fun w' => w'.cell? ⟨qf, 0, none⟩ = some (.int .i64 fd.params) ∧ w'.cell? ⟨qf, 1, none⟩ = some (.int .i64 fd.names) ∧ w'.cell? ⟨qf, 2, none⟩ = some (.slice (some ⟨bq, off, none⟩) fd.blocks.length c) ∧ w'.cell? ⟨gl, ol + (j + 1), none⟩ = some (.int .i64 m) ∧ w'.cell? ⟨bq, off + m * 8 + 4, none⟩ = some (.int .i64 y.fin.k) ∧ w'.cell? ⟨bq, off + m * 8 + 4 + 1, none⟩ = some (.int .i64 y.fin.a) ∧ w'.cell? ⟨bq, off + m * 8 + 4 + 2, none⟩ = some (.int .i64 y.fin.t) ∧ w'.cell? ⟨bq, off + m * 8 + 4 + 3, none⟩ = some (.int .i64 y.fin.l) ∧ w'.cell? ⟨gl, ol + j, none⟩ = some (.int .i64 z)) (by kernel_rfl) (HKS.out _ HW0.out) (fun hHeld => ?_)
            refine wpAnyH_take (i := 0) (v := ?_) rfl (by kernel_rfl) (by kernel_rfl) (by kernel_rfl) (fun _ _ _ h => h) (Or.inl ⟨by rfl, ?_⟩) (by assumption) ?_
            rotate_left
            · intro w hSw
              simp only [List.getElem_toArray, List.getElem_cons_zero]
              (try dsimp only at hSw)
              go_simp
              first | done | (with_reducible rfl)
            simp only [List.getElem_toArray, List.getElem_cons_zero, Act.put, List.setIfInBounds_toArray, List.set_cons_zero, List.set_cons_succ]
            refine wpAnyH_take (i := 1) (v := ?_) rfl (by kernel_rfl) (by kernel_rfl) (by kernel_rfl) (fun _ _ _ h => h) (Or.inl ⟨by rfl, ?_⟩) (by assumption) ?_
            rotate_left
            · intro w hSw
              simp only [List.getElem_toArray, List.getElem_cons_succ, List.getElem_cons_zero]
              (try dsimp only at hSw)
              go_simp
              first | done | (with_reducible rfl)
            simp only [List.getElem_toArray, List.getElem_cons_succ, List.getElem_cons_zero, Act.put, List.setIfInBounds_toArray, List.set_cons_zero, List.set_cons_succ]
            refine wpAnyH_take (i := 2) (v := ?_) rfl (by kernel_rfl) (by kernel_rfl) (by kernel_rfl) (fun _ _ _ h => h) (Or.inl ⟨by rfl, ?_⟩) (by assumption) ?_
            rotate_left
            · intro w hSw
              simp only [List.getElem_toArray, List.getElem_cons_succ, List.getElem_cons_zero]
              (try dsimp only at hSw)
              go_simp
              first | done | (with_reducible rfl)
            simp only [List.getElem_toArray, List.getElem_cons_succ, List.getElem_cons_zero, Act.put, List.setIfInBounds_toArray, List.set_cons_zero, List.set_cons_succ]
            refine wpAnyH_take (i := 3) (v := ?_) rfl (by kernel_rfl) (by kernel_rfl) (by kernel_rfl) (fun _ _ _ h => h) (Or.inl ⟨by rfl, ?_⟩) (by assumption) ?_
            rotate_left
            · intro w hSw
              simp only [List.getElem_toArray, List.getElem_cons_succ, List.getElem_cons_zero]
              (try dsimp only at hSw)
              go_simp
              first | done | (with_reducible rfl)
            simp only [List.getElem_toArray, List.getElem_cons_succ, List.getElem_cons_zero, Act.put, List.setIfInBounds_toArray, List.set_cons_zero, List.set_cons_succ]
            refine wpAnyH_take (i := 4) (v := ?_) rfl (by kernel_rfl) (by kernel_rfl) (by kernel_rfl) (fun _ _ _ h => h) (Or.inl ⟨by rfl, ?_⟩) (by assumption) ?_
            rotate_left
            · intro w hSw
              simp only [List.getElem_toArray, List.getElem_cons_succ, List.getElem_cons_zero]
              (try dsimp only at hSw)
              go_simp
              first | done | (with_reducible rfl)
            simp only [List.getElem_toArray, List.getElem_cons_succ, List.getElem_cons_zero, Act.put, List.setIfInBounds_toArray, List.set_cons_zero, List.set_cons_succ]
            refine wpAnyH_take (i := 5) (v := ?_) rfl (by kernel_rfl) (by kernel_rfl) (by kernel_rfl) (fun _ _ _ h => h) (Or.inl ⟨by rfl, ?_⟩) (by assumption) ?_
            rotate_left
            · intro w hSw
              simp only [List.getElem_toArray, List.getElem_cons_succ, List.getElem_cons_zero]
              (try dsimp only at hSw)
              go_simp
              first | done | (with_reducible rfl)
            simp only [List.getElem_toArray, List.getElem_cons_succ, List.getElem_cons_zero, Act.put, List.setIfInBounds_toArray, List.set_cons_zero, List.set_cons_succ]
            refine wpAnyH_take (i := 6) (v := ?_) rfl (by kernel_rfl) (by kernel_rfl) (by kernel_rfl) (fun _ _ _ h => h) (Or.inl ⟨by rfl, ?_⟩) (by assumption) ?_
            rotate_left
            · intro w hSw
              simp only [List.getElem_toArray, List.getElem_cons_succ, List.getElem_cons_zero]
              (try dsimp only at hSw)
              go_simp
              first | done | (with_reducible rfl)
            simp only [List.getElem_toArray, List.getElem_cons_succ, List.getElem_cons_zero, Act.put, List.setIfInBounds_toArray, List.set_cons_zero, List.set_cons_succ]
            refine wpAnyH_take (i := 7) (v := ?_) rfl (by kernel_rfl) (by kernel_rfl) (by kernel_rfl) (fun _ _ _ h => h) (Or.inl ⟨by rfl, ?_⟩) (by assumption) ?_
            rotate_left
            · intro w hSw
              simp only [List.getElem_toArray, List.getElem_cons_succ, List.getElem_cons_zero]
              (try dsimp only at hSw)
              go_simp
              first | done | (with_reducible rfl)
            simp only [List.getElem_toArray, List.getElem_cons_succ, List.getElem_cons_zero, Act.put, List.setIfInBounds_toArray, List.set_cons_zero, List.set_cons_succ]
            refine wpAnyH_take (i := 8) (v := ?_) rfl (by kernel_rfl) (by kernel_rfl) (by kernel_rfl) (fun _ _ _ h => h) (Or.inl ⟨by rfl, ?_⟩) (by assumption) ?_
            rotate_left
            · intro w hSw
              simp only [List.getElem_toArray, List.getElem_cons_succ, List.getElem_cons_zero]
              (try dsimp only at hSw)
              go_simp
              first | done | (with_reducible rfl)
            simp only [List.getElem_toArray, List.getElem_cons_succ, List.getElem_cons_zero, Act.put, List.setIfInBounds_toArray, List.set_cons_zero, List.set_cons_succ]
            refine wpAnyH_take (i := 9) (v := ?_) rfl (by kernel_rfl) (by kernel_rfl) (by kernel_rfl) (fun _ _ _ h => h) (Or.inl ⟨by rfl, ?_⟩) (by assumption) ?_
            rotate_left
            · intro w hSw
              simp only [List.getElem_toArray, List.getElem_cons_succ, List.getElem_cons_zero]
              (try dsimp only at hSw)
              go_simp
              first | done | (with_reducible rfl)
            simp only [List.getElem_toArray, List.getElem_cons_succ, List.getElem_cons_zero, Act.put, List.setIfInBounds_toArray, List.set_cons_zero, List.set_cons_succ]
            refine wpAnyH_take (i := 10) (v := ?_) rfl (by kernel_rfl) (by kernel_rfl) (by kernel_rfl) (fun _ _ _ h => h) (Or.inl ⟨by rfl, ?_⟩) (by assumption) ?_
            rotate_left
            · intro w hSw
              simp only [List.getElem_toArray, List.getElem_cons_succ, List.getElem_cons_zero]
              (try dsimp only at hSw)
              go_simp
              first | done | (with_reducible rfl)
            simp only [List.getElem_toArray, List.getElem_cons_succ, List.getElem_cons_zero, Act.put, List.setIfInBounds_toArray, List.set_cons_zero, List.set_cons_succ]
            refine wpAnyH_take (i := 11) (v := ?_) rfl (by kernel_rfl) (by kernel_rfl) (by kernel_rfl) (fun _ _ _ h => h) (Or.inl ⟨by rfl, ?_⟩) (by assumption) ?_
            rotate_left
            · intro w hSw
              simp only [List.getElem_toArray, List.getElem_cons_succ, List.getElem_cons_zero]
              (try dsimp only at hSw)
              go_simp
              first | done | (with_reducible rfl)
            simp only [List.getElem_toArray, List.getElem_cons_succ, List.getElem_cons_zero, Act.put, List.setIfInBounds_toArray, List.set_cons_zero, List.set_cons_succ]
            refine wpAnyH_take (i := 12) (v := ?_) rfl (by kernel_rfl) (by kernel_rfl) (by kernel_rfl) (fun _ _ _ h => h) (Or.inl ⟨by rfl, ?_⟩) (by assumption) ?_
            rotate_left
            · intro w hSw
              simp only [List.getElem_toArray, List.getElem_cons_succ, List.getElem_cons_zero]
              (try dsimp only at hSw)
              go_simp
              first | done | (with_reducible rfl)
            simp only [List.getElem_toArray, List.getElem_cons_succ, List.getElem_cons_zero, Act.put, List.setIfInBounds_toArray, List.set_cons_zero, List.set_cons_succ]
            refine wpAnyH_take (i := 13) (v := ?_) rfl (by kernel_rfl) (by kernel_rfl) (by kernel_rfl) (fun _ _ _ h => h) (Or.inl ⟨by rfl, ?_⟩) (by assumption) ?_
            rotate_left
            · intro w hSw
              simp only [List.getElem_toArray, List.getElem_cons_succ, List.getElem_cons_zero]
              (try dsimp only at hSw)
              go_simp
              first | done | (with_reducible rfl)
            simp only [List.getElem_toArray, List.getElem_cons_succ, List.getElem_cons_zero, Act.put, List.setIfInBounds_toArray, List.set_cons_zero, List.set_cons_succ]
            refine wpAnyH_take (i := 14) (v := ?_) rfl (by kernel_rfl) (by kernel_rfl) (by kernel_rfl) (fun _ _ _ h => h) (Or.inl ⟨by rfl, ?_⟩) (by assumption) ?_
            rotate_left
            · intro w hSw
              simp only [List.getElem_toArray, List.getElem_cons_succ, List.getElem_cons_zero]
              (try dsimp only at hSw)
              go_simp
              first | done | (with_reducible rfl)
            simp only [List.getElem_toArray, List.getElem_cons_succ, List.getElem_cons_zero, Act.put, List.setIfInBounds_toArray, List.set_cons_zero, List.set_cons_succ]
            refine wpAnyH_take (i := 15) (v := ?_) rfl (by kernel_rfl) (by kernel_rfl) (by kernel_rfl) (fun _ _ _ h => h) (Or.inl ⟨by rfl, ?_⟩) (by assumption) ?_
            rotate_left
            · intro w hSw
              simp only [List.getElem_toArray, List.getElem_cons_succ, List.getElem_cons_zero]
              (try dsimp only at hSw)
              go_simp
              first | done | (with_reducible rfl)
            simp only [List.getElem_toArray, List.getElem_cons_succ, List.getElem_cons_zero, Act.put, List.setIfInBounds_toArray, List.set_cons_zero, List.set_cons_succ]
            refine wpAnyH_take (i := 16) (v := ?_) rfl (by kernel_rfl) (by kernel_rfl) (by kernel_rfl) (fun _ _ _ h => h) (Or.inl ⟨by rfl, ?_⟩) (by assumption) ?_
            rotate_left
            · intro w hSw
              simp only [List.getElem_toArray, List.getElem_cons_succ, List.getElem_cons_zero]
              (try dsimp only at hSw)
              go_simp
              first | done | (with_reducible rfl)
            simp only [List.getElem_toArray, List.getElem_cons_succ, List.getElem_cons_zero, Act.put, List.setIfInBounds_toArray, List.set_cons_zero, List.set_cons_succ]
            refine wpAnyH_take (i := 17) (v := ?_) rfl (by kernel_rfl) (by kernel_rfl) (by kernel_rfl) (fun _ _ _ h => h) (Or.inl ⟨by rfl, ?_⟩) (by assumption) ?_
            rotate_left
            · intro w hSw
              simp only [List.getElem_toArray, List.getElem_cons_succ, List.getElem_cons_zero]
              (try dsimp only at hSw)
              go_simp
              first | done | (with_reducible rfl)
            simp only [List.getElem_toArray, List.getElem_cons_succ, List.getElem_cons_zero, Act.put, List.setIfInBounds_toArray, List.set_cons_zero, List.set_cons_succ]
            refine wpAnyH_take (i := 18) (v := ?_) rfl (by kernel_rfl) (by kernel_rfl) (by kernel_rfl) (fun _ _ _ h => h) (Or.inl ⟨by rfl, ?_⟩) (by assumption) ?_
            rotate_left
            · intro w hSw
              simp only [List.getElem_toArray, List.getElem_cons_succ, List.getElem_cons_zero]
              (try dsimp only at hSw)
              go_simp
              first | done | (with_reducible rfl)
            simp only [List.getElem_toArray, List.getElem_cons_succ, List.getElem_cons_zero, Act.put, List.setIfInBounds_toArray, List.set_cons_zero, List.set_cons_succ]
            refine wpAnyH_take (i := 19) (v := ?_) rfl (by kernel_rfl) (by kernel_rfl) (by kernel_rfl) (fun _ _ _ h => h) (Or.inl ⟨by rfl, ?_⟩) (by assumption) ?_
            rotate_left
            · intro w hSw
              simp only [List.getElem_toArray, List.getElem_cons_succ, List.getElem_cons_zero]
              (try dsimp only at hSw)
              go_simp
              first | done | (with_reducible rfl)
            simp only [List.getElem_toArray, List.getElem_cons_succ, List.getElem_cons_zero, Act.put, List.setIfInBounds_toArray, List.set_cons_zero, List.set_cons_succ]
            refine wpAnyH_take (i := 20) (v := ?_) rfl (by kernel_rfl) (by kernel_rfl) (by kernel_rfl) (fun _ _ _ h => h) (Or.inl ⟨by rfl, ?_⟩) (by assumption) ?_
            rotate_left
            · intro w hSw
              simp only [List.getElem_toArray, List.getElem_cons_succ, List.getElem_cons_zero]
              (try dsimp only at hSw)
              go_simp
              first | done | (with_reducible rfl)
            simp only [List.getElem_toArray, List.getElem_cons_succ, List.getElem_cons_zero, Act.put, List.setIfInBounds_toArray, List.set_cons_zero, List.set_cons_succ]
            refine wpAnyH_take (i := 21) (v := ?_) rfl (by kernel_rfl) (by kernel_rfl) (by kernel_rfl) (fun _ _ _ h => h) (Or.inl ⟨by rfl, ?_⟩) (by assumption) ?_
            rotate_left
            · intro w hSw
              simp only [List.getElem_toArray, List.getElem_cons_succ, List.getElem_cons_zero]
              (try dsimp only at hSw)
              go_simp
              first | done | (with_reducible rfl)
            simp only [List.getElem_toArray, List.getElem_cons_succ, List.getElem_cons_zero, Act.put, List.setIfInBounds_toArray, List.set_cons_zero, List.set_cons_succ]
            refine wpAnyH_take (i := 22) (v := ?_) rfl (by kernel_rfl) (by kernel_rfl) (by kernel_rfl) (fun _ _ _ h => h) (Or.inl ⟨by rfl, ?_⟩) (by assumption) ?_
            rotate_left
            · intro w hSw
              simp only [List.getElem_toArray, List.getElem_cons_succ, List.getElem_cons_zero]
              (try dsimp only at hSw)
              go_simp
              first | done | (with_reducible rfl)
            simp only [List.getElem_toArray, List.getElem_cons_succ, List.getElem_cons_zero, Act.put, List.setIfInBounds_toArray, List.set_cons_zero, List.set_cons_succ]
            refine wpAnyH_take (i := 23) (v := ?_) rfl (by kernel_rfl) (by kernel_rfl) (by kernel_rfl) (fun _ _ _ h => h) (Or.inl ⟨by rfl, ?_⟩) (by assumption) ?_
            rotate_left
            · intro w hSw
              simp only [List.getElem_toArray, List.getElem_cons_succ, List.getElem_cons_zero]
              (try dsimp only at hSw)
              go_simp
              first | done | (with_reducible rfl)
            simp only [List.getElem_toArray, List.getElem_cons_succ, List.getElem_cons_zero, Act.put, List.setIfInBounds_toArray, List.set_cons_zero, List.set_cons_succ]
            refine wpAnyH_take (i := 24) (v := ?_) rfl (by kernel_rfl) (by kernel_rfl) (by kernel_rfl) (fun _ _ _ h => h) (Or.inl ⟨by rfl, ?_⟩) (by assumption) ?_
            rotate_left
            · intro w hSw
              simp only [List.getElem_toArray, List.getElem_cons_succ, List.getElem_cons_zero]
              (try dsimp only at hSw)
              go_simp
              first | done | (with_reducible rfl)
            simp only [List.getElem_toArray, List.getElem_cons_succ, List.getElem_cons_zero, Act.put, List.setIfInBounds_toArray, List.set_cons_zero, List.set_cons_succ]
            refine wpAnyH_take (i := 26) (v := ?_) rfl (by kernel_rfl) (by kernel_rfl) (by kernel_rfl) (fun _ _ _ h => h) (Or.inl ⟨by rfl, ?_⟩) (by assumption) ?_
            rotate_left
            · intro w hSw
              simp only [List.getElem_toArray, List.getElem_cons_succ, List.getElem_cons_zero]
              (try dsimp only at hSw)
              go_simp
              first | done | (with_reducible rfl)
            simp only [List.getElem_toArray, List.getElem_cons_succ, List.getElem_cons_zero, Act.put, List.setIfInBounds_toArray, List.set_cons_zero, List.set_cons_succ]
            refine wpAnyH_ready (rs := [25]) (by kernel_rfl) (by simp) ?_
            refine AllReadyH.cons rfl (fun K hK => ?_) AllReadyH.nil
            simp only [List.getElem_toArray, List.getElem_cons_succ, List.getElem_cons_zero]
            go_simp
            go_at_call 15; refine (SuccsOf_any _ _ _ _ _).mono ?_; rintro e w21 ⟨r21, rfl, hr21, hb21⟩; have HW21 : Hid (Below wr.heap.size wr w21) := HW0.out.trans (hb21.mono HW0.out.size); have HU21 := Lib.hid hr21; obtain ⟨_, A21, c21, rfl, _⟩ := hr21.ri; clear hb21 hr21
            go_wp2_with fail
            refine hK.out _ _ (HKS.out _ HW21.out) (fun hHeld => ?_)
            clear hK K
            refine wpAnyH_ready (rs := [27]) (by kernel_rfl) (by simp) ?_
            refine AllReadyH.cons rfl (fun K hK => ?_) AllReadyH.nil
            simp only [List.getElem_toArray, List.getElem_cons_succ, List.getElem_cons_zero]
            go_simp
            go_at_call 19; refine (has_any _ _ _ _ HU21.out.ri).mono ?_; rintro e w22 ⟨rfl, rfl⟩; rw [hhas]
            go_wp2_with fail
            refine hK.out _ _ (HKS.out _ HW21.out) (fun hHeld => ?_)
            clear hK K
            refine wpAnyH_take (i := 28) (v := ?_) rfl (by kernel_rfl) (by kernel_rfl) (by kernel_rfl) (fun _ _ _ h => h) (Or.inl ⟨by rfl, ?_⟩) (by assumption) ?_
            rotate_left
            · intro w hSw
              simp only [List.getElem_toArray, List.getElem_cons_succ, List.getElem_cons_zero]
              (try dsimp only at hSw)
              go_simp
              first | done | (with_reducible rfl)
            simp only [List.getElem_toArray, List.getElem_cons_succ, List.getElem_cons_zero, Act.put, List.setIfInBounds_toArray, List.set_cons_zero, List.set_cons_succ]
            refine wpAnyH_take (i := 29) (v := ?_) rfl (by kernel_rfl) (by kernel_rfl) (by kernel_rfl) (fun _ _ _ h => h) (Or.inl ⟨by rfl, ?_⟩) (by assumption) ?_
            rotate_left
            · intro w hSw
              simp only [List.getElem_toArray, List.getElem_cons_succ, List.getElem_cons_zero]
              (try dsimp only at hSw)
              go_simp
              first | done | (with_reducible rfl)
            simp only [List.getElem_toArray, List.getElem_cons_succ, List.getElem_cons_zero, Act.put, List.setIfInBounds_toArray, List.set_cons_zero, List.set_cons_succ]
            refine wpAnyH_take (i := 30) (v := ?_) rfl (by kernel_rfl) (by kernel_rfl) (by kernel_rfl) (fun _ _ _ h => h) (Or.inl ⟨by rfl, ?_⟩) (by assumption) ?_
            rotate_left
            · intro w hSw
              simp only [List.getElem_toArray, List.getElem_cons_succ, List.getElem_cons_zero]
              (try dsimp only at hSw)
              go_simp
              first | done | (with_reducible rfl)
            simp only [List.getElem_toArray, List.getElem_cons_succ, List.getElem_cons_zero, Act.put, List.setIfInBounds_toArray, List.set_cons_zero, List.set_cons_succ]
            refine wpAnyH_take (i := 31) (v := ?_) rfl (by kernel_rfl) (by kernel_rfl) (by kernel_rfl) (fun _ _ _ h => h) (Or.inl ⟨by rfl, ?_⟩) (by assumption) ?_
            rotate_left
            · intro w hSw
              simp only [List.getElem_toArray, List.getElem_cons_succ, List.getElem_cons_zero]
              (try dsimp only at hSw)
              go_simp
              first | done | (with_reducible rfl)
            simp only [List.getElem_toArray, List.getElem_cons_succ, List.getElem_cons_zero, Act.put, List.setIfInBounds_toArray, List.set_cons_zero, List.set_cons_succ]
            refine wpAnyH_take (i := 32) (v := ?_) rfl (by kernel_rfl) (by kernel_rfl) (by kernel_rfl) (fun _ _ _ h => h) (Or.inl ⟨by rfl, ?_⟩) (by assumption) ?_
            rotate_left
            · intro w hSw
              simp only [List.getElem_toArray, List.getElem_cons_succ, List.getElem_cons_zero]
              (try dsimp only at hSw)
              go_simp
              first | done | (with_reducible rfl)
            simp only [List.getElem_toArray, List.getElem_cons_succ, List.getElem_cons_zero, Act.put, List.setIfInBounds_toArray, List.set_cons_zero, List.set_cons_succ]
            refine wpAnyH_take (i := 33) (v := ?_) rfl (by kernel_rfl) (by kernel_rfl) (by kernel_rfl) (fun _ _ _ h => h) (Or.inl ⟨by rfl, ?_⟩) (by assumption) ?_
            rotate_left
            · intro w hSw
              simp only [List.getElem_toArray, List.getElem_cons_succ, List.getElem_cons_zero]
              (try dsimp only at hSw)
              go_simp
              first | done | (with_reducible rfl)
            simp only [List.getElem_toArray, List.getElem_cons_succ, List.getElem_cons_zero, Act.put, List.setIfInBounds_toArray, List.set_cons_zero, List.set_cons_succ]
            refine wpAnyH_take (i := 34) (v := ?_) rfl (by kernel_rfl) (by kernel_rfl) (by kernel_rfl) (fun _ _ _ h => h) (Or.inl ⟨by rfl, ?_⟩) (by assumption) ?_
            rotate_left
            · intro w hSw
              simp only [List.getElem_toArray, List.getElem_cons_succ, List.getElem_cons_zero]
              (try dsimp only at hSw)
              go_simp
              first | done | (with_reducible rfl)
            simp only [List.getElem_toArray, List.getElem_cons_succ, List.getElem_cons_zero, Act.put, List.setIfInBounds_toArray, List.set_cons_zero, List.set_cons_succ]
            refine wpAnyH_take (i := 35) (v := ?_) rfl (by kernel_rfl) (by kernel_rfl) (by kernel_rfl) (fun _ _ _ h => h) (Or.inl ⟨by rfl, ?_⟩) (by assumption) ?_
            rotate_left
            · intro w hSw
              simp only [List.getElem_toArray, List.getElem_cons_succ, List.getElem_cons_zero]
              (try dsimp only at hSw)
              go_simp
              first | done | (with_reducible rfl)
            simp only [List.getElem_toArray, List.getElem_cons_succ, List.getElem_cons_zero, Act.put, List.setIfInBounds_toArray, List.set_cons_zero, List.set_cons_succ]
            refine wpAnyH_take (i := 36) (v := ?_) rfl (by kernel_rfl) (by kernel_rfl) (by kernel_rfl) (fun _ _ _ h => h) (Or.inl ⟨by rfl, ?_⟩) (by assumption) ?_
            rotate_left
            · intro w hSw
              simp only [List.getElem_toArray, List.getElem_cons_succ, List.getElem_cons_zero]
              (try dsimp only at hSw)
              go_simp
              first | done | (with_reducible rfl)
            simp only [List.getElem_toArray, List.getElem_cons_succ, List.getElem_cons_zero, Act.put, List.setIfInBounds_toArray, List.set_cons_zero, List.set_cons_succ]
            refine wpAnyH_take (i := 37) (v := ?_) rfl (by kernel_rfl) (by kernel_rfl) (by kernel_rfl) (fun _ _ _ h => h) (Or.inl ⟨by rfl, ?_⟩) (by assumption) ?_
            rotate_left
            · intro w hSw
              simp only [List.getElem_toArray, List.getElem_cons_succ, List.getElem_cons_zero]
              (try dsimp only at hSw)
              go_simp
              first | done | (with_reducible rfl)
            simp only [List.getElem_toArray, List.getElem_cons_succ, List.getElem_cons_zero, Act.put, List.setIfInBounds_toArray, List.set_cons_zero, List.set_cons_succ]
            refine wpAnyH_take (i := 38) (v := ?_) rfl (by kernel_rfl) (by kernel_rfl) (by kernel_rfl) (fun _ _ _ h => h) (Or.inl ⟨by rfl, ?_⟩) (by assumption) ?_
            rotate_left
            · intro w hSw
              simp only [List.getElem_toArray, List.getElem_cons_succ, List.getElem_cons_zero]
              (try dsimp only at hSw)
              go_simp
              first | done | (with_reducible rfl)
            simp only [List.getElem_toArray, List.getElem_cons_succ, List.getElem_cons_zero, Act.put, List.setIfInBounds_toArray, List.set_cons_zero, List.set_cons_succ]
            refine wpAnyH_take (i := 39) (v := ?_) rfl (by kernel_rfl) (by kernel_rfl) (by kernel_rfl) (fun _ _ _ h => h) (Or.inl ⟨by rfl, ?_⟩) (by assumption) ?_
            rotate_left
            · intro w hSw
              simp only [List.getElem_toArray, List.getElem_cons_succ, List.getElem_cons_zero]
              (try dsimp only at hSw)
              go_simp
              first | done | (with_reducible rfl)
            simp only [List.getElem_toArray, List.getElem_cons_succ, List.getElem_cons_zero, Act.put, List.setIfInBounds_toArray, List.set_cons_zero, List.set_cons_succ]
            refine wpAnyH_take (i := 40) (v := ?_) rfl (by kernel_rfl) (by kernel_rfl) (by kernel_rfl) (fun _ _ _ h => h) (Or.inl ⟨by rfl, ?_⟩) (by assumption) ?_
            rotate_left
            · intro w hSw
              simp only [List.getElem_toArray, List.getElem_cons_succ, List.getElem_cons_zero]
              (try dsimp only at hSw)
              go_simp
              first | done | (with_reducible rfl)
            simp only [List.getElem_toArray, List.getElem_cons_succ, List.getElem_cons_zero, Act.put, List.setIfInBounds_toArray, List.set_cons_zero, List.set_cons_succ]
            refine wpAnyH_take (i := 41) (v := ?_) rfl (by kernel_rfl) (by kernel_rfl) (by kernel_rfl) (fun _ _ _ h => h) (Or.inl ⟨by rfl, ?_⟩) (by assumption) ?_
            rotate_left
            · intro w hSw
              simp only [List.getElem_toArray, List.getElem_cons_succ, List.getElem_cons_zero]
              (try dsimp only at hSw)
              go_simp
              first | done | (with_reducible rfl)
            simp only [List.getElem_toArray, List.getElem_cons_succ, List.getElem_cons_zero, Act.put, List.setIfInBounds_toArray, List.set_cons_zero, List.set_cons_succ]
            refine wpAnyH_take (i := 42) (v := ?_) rfl (by kernel_rfl) (by kernel_rfl) (by kernel_rfl) (fun _ _ _ h => h) (Or.inl ⟨by rfl, ?_⟩) (by assumption) ?_
            rotate_left
            · intro w hSw
              simp only [List.getElem_toArray, List.getElem_cons_succ, List.getElem_cons_zero]
              (try dsimp only at hSw)
              go_simp
              first | done | (with_reducible rfl)
            simp only [List.getElem_toArray, List.getElem_cons_succ, List.getElem_cons_zero, Act.put, List.setIfInBounds_toArray, List.set_cons_zero, List.set_cons_succ]
            refine wpAnyH_take (i := 43) (v := ?_) rfl (by kernel_rfl) (by kernel_rfl) (by kernel_rfl) (fun _ _ _ h => h) (Or.inl ⟨by rfl, ?_⟩) (by assumption) ?_
            rotate_left
            · intro w hSw
              simp only [List.getElem_toArray, List.getElem_cons_succ, List.getElem_cons_zero]
              (try dsimp only at hSw)
              go_simp
              first | done | (with_reducible rfl)
            simp only [List.getElem_toArray, List.getElem_cons_succ, List.getElem_cons_zero, Act.put, List.setIfInBounds_toArray, List.set_cons_zero, List.set_cons_succ]
            refine wpAnyH_take (i := 44) (v := ?_) rfl (by kernel_rfl) (by kernel_rfl) (by kernel_rfl) (fun _ _ _ h => h) (Or.inl ⟨by rfl, ?_⟩) (by assumption) ?_
            rotate_left
            · intro w hSw
              simp only [List.getElem_toArray, List.getElem_cons_succ, List.getElem_cons_zero]
              (try dsimp only at hSw)
              go_simp
              first | done | (with_reducible rfl)
            simp only [List.getElem_toArray, List.getElem_cons_succ, List.getElem_cons_zero, Act.put, List.setIfInBounds_toArray, List.set_cons_zero, List.set_cons_succ]
            refine wpAnyH_take (i := 45) (v := ?_) rfl (by kernel_rfl) (by kernel_rfl) (by kernel_rfl) (fun _ _ _ h => h) (Or.inl ⟨by rfl, ?_⟩) (by assumption) ?_
            rotate_left
            · intro w hSw
              simp only [List.getElem_toArray, List.getElem_cons_succ, List.getElem_cons_zero]
              (try dsimp only at hSw)
              go_simp
              first | done | (with_reducible rfl)
            simp only [List.getElem_toArray, List.getElem_cons_succ, List.getElem_cons_zero, Act.put, List.setIfInBounds_toArray, List.set_cons_zero, List.set_cons_succ]
            refine wpAnyH_done (by kernel_rfl) ?_ _
            have HWn : Hid (Below w20.heap.size w20 w21) := HWi.out.trans (HW21.out.mono hzr)
            clear HKS HW0 HU21 hhas
            go_wp2_with fail
            go_roundw
            case rel => exact ⟨j + 1 + 1, by go_num, by omega, HWn⟩
            case measure => simp [intOf]; omega
        · clear hq
          go_wp2_with fail
          go_roundw
          case rel => exact ⟨b + 1, by go_num, by omega, HWr⟩
          case measure => simp [intOf]; omega

end Go.Proofs.Yteikpekffgifoaa
