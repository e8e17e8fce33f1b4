/- FG, joined. -/
import Derived.Test.YteikpekffgifoaaGr9
import Derived.Test.YteikpekffgifoaaGr18
import Derived.Test.YteikpekffgifoaaGr20
import Derived.Test.YteikpekffgifoaaGr21
import Derived.Test.YteikpekffgifoaaGr22
import Derived.Test.YteikpekffgifoaaGr23
import Derived.Deep.RegionHeld3
namespace Go.Proofs.Yteikpekffgifoaa

/- FnGraphs: its walk. -/
section
open Go.ChangeShapes Go.WideShapes Go.ChangeAt Go.RowKit Go.Joins

theorem RI.take {w : World} {A : Option Addr} {n c k : Nat} {xs : List Int} (h : RI w (.slice A n c) xs) (hk : k ≤ n) : RI w (.slice A k c) (xs.take k) := by
  obtain ⟨h1, A', c', he, hx⟩ := h
  injection he with e1 e2 e3
  subst e1 e2 e3
  have hl : (xs.take k).length = k := by rw [List.length_take]; omega
  refine ⟨by rw [hl]; omega, A, c, by rw [hl], fun hne => ?_⟩
  obtain ⟨b, off, rfl, hc⟩ := hx (by rintro rfl; simp at hne)
  refine ⟨b, off, rfl, fun i u hu => hc i u ?_⟩
  rw [List.getElem?_take] at hu
  split at hu
  · exact hu
  · cases hu
theorem any_snoc {α : Type} {f : α → Bool} {xs : List α} {m : Nat} {p : α} (h : xs[m]? = some p) : (xs.take (m + 1)).any f = ((xs.take m).any f || f p) := by
  rw [List.take_add_one, h, Option.toList_some, List.any_append]
  simp

set_option maxRecDepth 10000 in
set_option maxHeartbeats 8000000 in
theorem FnGraphs_any (v : Value) (n : Nat) (w : World) (hn : n ≤ 4096) (hv : Code w w.heap.size v n) :
    Calls Try.prog 4 #[v] w (Fine w) := by
  have HV := Lib.hid hv
  obtain ⟨_, A0, c0, rfl, -⟩ := hv
  go_enter Try.func4, Try.ntmps4
  go_wp2_with fail
  refine (big_no A0 n c0 _ hn).mono ?_
  rintro e w' ⟨rfl, rfl⟩
  go_wp2_with fail
  refine (DrawOrderOf_any _ _ _ _ HV.out (Nat.le_refl _)).mono ?_
  rintro e w1 ⟨fd, v1, rfl, he, hfl, hb1⟩
  have HE1 := Lib.hid he
  obtain ⟨u, rfl, hu⟩ := he
  obtain ⟨_, A, c, rfl, _⟩ := hu
  have hb1a : Below w.heap.size w (w1.alloc (.cells #[.int .i64 fd.params, .int .i64 fd.names, .slice A fd.blocks.length c] 26)) := hb1.alloc hb1.size _
  have HB := Lib.hid hb1a
  have HF : Hid (EFun (w1.alloc (.cells #[.int .i64 fd.params, .int .i64 fd.names, .slice A fd.blocks.length c] 26)) (Zn.new w.heap.size w1.heap.size) fd (.agg #[.int .i64 fd.params, .int .i64 fd.names, .slice A fd.blocks.length c])) := HE1.out.old ((Below.refl _ _).alloc (Nat.le_refl _) _)
  have HQF := Lib.hid (heap_alloc_new w1 (.cells #[.int .i64 fd.params, .int .i64 fd.names, .slice A fd.blocks.length c] 26))
  have hzs := hb1.size
  clear hb1 hb1a HE1
  go_upto_region 4 with fail
  have hzf : w1.heap.size < (w1.alloc (.cells #[.int .i64 fd.params, .int .i64 fd.names, .slice A fd.blocks.length c] 26)).heap.size := by simp
  generalize w1.alloc (.cells #[.int .i64 fd.params, .int .i64 fd.names, .slice A fd.blocks.length c] 26) = w2 at *
  generalize hqf : w1.heap.size = qf at *
  have f0 := cell_of_row w2 _ 0 _ _ (0, 0) HQF.out
  have f1 := cell_of_row w2 _ 1 _ _ (0, 0) HQF.out
  have f2 := cell_of_row w2 _ 2 _ _ (0, 0) HQF.out
  go_wp2_with fail
  refine (OrderOf_any fd _ _ _ HF.out (fun b hb => by have := hb.2; omega) (by omega)).mono ?_
  rintro e w3 ⟨L, vL, rfl, hx, hr, hb⟩
  have hzw3 := hb.size
  clear f0 f1 f2
  replace HB : Hid (Below w.heap.size w w3) := HB.out.trans (hb.mono HB.out.size)
  replace HF := Lib.hid (HF.out.old (hb.mono (by omega)))
  replace HQF := Lib.hid (kept_row HQF.out hb)
  have HLr := Lib.hid hx
  have HL : Hid (OI w3 w.heap.size vL L) := World.ownsRow.mono hr (by omega)
  obtain ⟨_, AL, cL, rfl, _⟩ := hr.ri
  clear hb hx hr
  have f0 := cell_of_row w3 _ 0 _ _ (0, 0) HQF.out
  have f1 := cell_of_row w3 _ 1 _ _ (0, 0) HQF.out
  have f2 := cell_of_row w3 _ 2 _ _ (0, 0) HQF.out
  go_wp2_with fail
  refine (Reached_any fd _ _ _ HF.out (fun b hb => by have := hb.2; omega) (by omega)).mono ?_
  rintro e w4 ⟨R, vR, rfl, hx, hr, hb⟩
  have hzw4 := hb.size
  clear f0 f1 f2
  replace HB : Hid (Below w.heap.size w w4) := HB.out.trans (hb.mono HB.out.size)
  replace HF := Lib.hid (HF.out.old (hb.mono (by omega)))
  replace HQF := Lib.hid (kept_row HQF.out hb)
  replace HL := Lib.hid (HL.out.below hb fun k hk => (HL.out.lt k hk).2)
  have HRr := Lib.hid hx
  have HR : Hid (OB w4 w.heap.size vR R) := World.ownsRow.mono hr (by omega)
  obtain ⟨_, AR, cR, rfl, _⟩ := hr.rb
  clear hb hx hr
  have f0 := cell_of_row w4 _ 0 _ _ (0, 0) HQF.out
  have f1 := cell_of_row w4 _ 1 _ _ (0, 0) HQF.out
  have f2 := cell_of_row w4 _ 2 _ _ (0, 0) HQF.out
  go_wp2_with fail
  refine (sReached_any fd _ _ _ HF.out (fun b hb => by have := hb.2; omega) (by omega)).mono ?_
  rintro e w5 ⟨R1, vW, rfl, hx, hr, hb⟩
  have hzw5 := hb.size
  clear f0 f1 f2
  replace HB : Hid (Below w.heap.size w w5) := HB.out.trans (hb.mono HB.out.size)
  replace HF := Lib.hid (HF.out.old (hb.mono (by omega)))
  replace HQF := Lib.hid (kept_row HQF.out hb)
  replace HL := Lib.hid (HL.out.below hb fun k hk => (HL.out.lt k hk).2)
  replace HR := Lib.hid (HR.out.below hb fun k hk => (HR.out.lt k hk).2)
  have e1 : R1 = R := hx.one HRr.out
  subst e1
  have HW : Hid (OB w5 w.heap.size vW R1) := World.ownsRow.mono hr (by omega)
  obtain ⟨_, AW, cW, rfl, _⟩ := hr.rb
  clear hb hx hr
  have f0 := cell_of_row w5 _ 0 _ _ (0, 0) HQF.out
  have f1 := cell_of_row w5 _ 1 _ _ (0, 0) HQF.out
  have f2 := cell_of_row w5 _ 2 _ _ (0, 0) HQF.out
  go_wp2_with fail
  refine (EdgesOf_any fd _ _ _ HF.out (fun b hb => by have := hb.2; omega) (by omega)).mono ?_
  rintro e w6 ⟨E, vE, rfl, hx, hr, hb⟩
  have hzw6 := hb.size
  clear f0 f1 f2
  replace HB : Hid (Below w.heap.size w w6) := HB.out.trans (hb.mono HB.out.size)
  replace HF := Lib.hid (HF.out.old (hb.mono (by omega)))
  replace HQF := Lib.hid (kept_row HQF.out hb)
  replace HL := Lib.hid (HL.out.below hb fun k hk => (HL.out.lt k hk).2)
  replace HR := Lib.hid (HR.out.below hb fun k hk => (HR.out.lt k hk).2)
  replace HW := Lib.hid (HW.out.below hb fun k hk => (HW.out.lt k hk).2)
  have HEr := Lib.hid hx
  have HE : Hid (OE w6 w.heap.size vE E) := World.ownsRow.mono hr (by omega)
  obtain ⟨AE, cE, rfl⟩ := hr.form
  clear hb hx hr
  have f0 := cell_of_row w6 _ 0 _ _ (0, 0) HQF.out
  have f1 := cell_of_row w6 _ 1 _ _ (0, 0) HQF.out
  have f2 := cell_of_row w6 _ 2 _ _ (0, 0) HQF.out
  go_wp2_with fail
  refine (sEdgesOf_any fd _ _ _ HF.out (fun b hb => by have := hb.2; omega) (by omega)).mono ?_
  rintro e w7 ⟨E1, vM, rfl, hx, hr, hb⟩
  have hzw7 := hb.size
  clear f0 f1 f2
  replace HB : Hid (Below w.heap.size w w7) := HB.out.trans (hb.mono HB.out.size)
  replace HF := Lib.hid (HF.out.old (hb.mono (by omega)))
  replace HQF := Lib.hid (kept_row HQF.out hb)
  replace HL := Lib.hid (HL.out.below hb fun k hk => (HL.out.lt k hk).2)
  replace HR := Lib.hid (HR.out.below hb fun k hk => (HR.out.lt k hk).2)
  replace HW := Lib.hid (HW.out.below hb fun k hk => (HW.out.lt k hk).2)
  replace HE := Lib.hid (HE.out.below hb fun k hk => (HE.out.lt k hk).2)
  have e1 : E1 = E := hx.one HEr.out
  subst e1
  have HM : Hid (OE w7 w.heap.size vM E1) := World.ownsRow.mono hr (by omega)
  obtain ⟨AM, cM, rfl⟩ := hr.form
  clear hb hx hr
  go_wp2_with fail
  refine (DrawCritical_any _ _ _ _ (HV.out.keep fun b o hb => HB.out.cell (p := ⟨b, o, none⟩) hb) HB.out.size).mono ?_
  rintro e w8 ⟨gd, vg, xa, xb, rfl, he, hgl, wa, wb, hb⟩
  have hzw8 := hb.size
  replace HB : Hid (Below w.heap.size w w8) := HB.out.trans (hb.mono HB.out.size)
  replace HF := Lib.hid (HF.out.old (hb.mono (by omega)))
  replace HQF := Lib.hid (kept_row HQF.out hb)
  replace HL := Lib.hid (HL.out.below hb fun k hk => (HL.out.lt k hk).2)
  replace HR := Lib.hid (HR.out.below hb fun k hk => (HR.out.lt k hk).2)
  replace HW := Lib.hid (HW.out.below hb fun k hk => (HW.out.lt k hk).2)
  replace HE := Lib.hid (HE.out.below hb fun k hk => (HE.out.lt k hk).2)
  replace HM := Lib.hid (HM.out.below hb fun k hk => (HM.out.lt k hk).2)
  have HG0 := Lib.hid he
  obtain ⟨u, rfl, hu⟩ := he
  obtain ⟨_, Ag, cg, rfl, _⟩ := hu
  clear hb
  go_upto_region 10 with fail
  have HQG : Hid (((w8.alloc (.cells #[.int .i64 gd.params, .int .i64 gd.names, .slice Ag gd.blocks.length cg] 26)).alloc (.cells #[.int .i64 xa, .int .i64 xb] 51)).heap[w8.heap.size]? = some (.cells #[.int .i64 gd.params, .int .i64 gd.names, .slice Ag gd.blocks.length cg] 26 (0, 0))) := (Below.heap_alloc _ (.cells #[.int .i64 xa, .int .i64 xb] 51) _ (by simp)).trans (heap_alloc_new w8 (.cells #[.int .i64 gd.params, .int .i64 gd.names, .slice Ag gd.blocks.length cg] 26))
  have HQX : Hid (((w8.alloc (.cells #[.int .i64 gd.params, .int .i64 gd.names, .slice Ag gd.blocks.length cg] 26)).alloc (.cells #[.int .i64 xa, .int .i64 xb] 51)).heap[w8.heap.size + 1]? = some (.cells #[.int .i64 xa, .int .i64 xb] 51 (0, 0))) := by
    have := heap_alloc_new (w8.alloc (.cells #[.int .i64 gd.params, .int .i64 gd.names, .slice Ag gd.blocks.length cg] 26)) (.cells #[.int .i64 xa, .int .i64 xb] 51)
    rw [World.size_alloc] at this
    exact this
  have hb : Below w8.heap.size w8 ((w8.alloc (.cells #[.int .i64 gd.params, .int .i64 gd.names, .slice Ag gd.blocks.length cg] 26)).alloc (.cells #[.int .i64 xa, .int .i64 xb] 51)) := ((Below.refl _ _).alloc (Nat.le_refl _) _).alloc (by simp) _
  have hzw9 : ((w8.alloc (.cells #[.int .i64 gd.params, .int .i64 gd.names, .slice Ag gd.blocks.length cg] 26)).alloc (.cells #[.int .i64 xa, .int .i64 xb] 51)).heap.size = w8.heap.size + 1 + 1 := by simp
  have HG : Hid (EFun ((w8.alloc (.cells #[.int .i64 gd.params, .int .i64 gd.names, .slice Ag gd.blocks.length cg] 26)).alloc (.cells #[.int .i64 xa, .int .i64 xb] 51)) (Zn.new w7.heap.size w8.heap.size) gd (.agg #[.int .i64 gd.params, .int .i64 gd.names, .slice Ag gd.blocks.length cg])) := HG0.out.old hb
  generalize hw9 : (w8.alloc (.cells #[.int .i64 gd.params, .int .i64 gd.names, .slice Ag gd.blocks.length cg] 26)).alloc (.cells #[.int .i64 xa, .int .i64 xb] 51) = w9 at *
  generalize hqg : w8.heap.size = qg at *
  clear hw9 HG0
  have hb9 : Below w8.heap.size w8 w9 := by rw [hqg]; exact hb
  clear hb
  replace HB : Hid (Below w.heap.size w w9) := HB.out.trans (hb9.mono HB.out.size)
  replace HF := Lib.hid (HF.out.old (hb9.mono (by omega)))
  replace HQF := Lib.hid (kept_row HQF.out hb9)
  replace HL := Lib.hid (HL.out.below hb9 fun k hk => (HL.out.lt k hk).2)
  replace HR := Lib.hid (HR.out.below hb9 fun k hk => (HR.out.lt k hk).2)
  replace HW := Lib.hid (HW.out.below hb9 fun k hk => (HW.out.lt k hk).2)
  replace HE := Lib.hid (HE.out.below hb9 fun k hk => (HE.out.lt k hk).2)
  replace HM := Lib.hid (HM.out.below hb9 fun k hk => (HM.out.lt k hk).2)
  have HKS : Hid (∀ w' : World, Below w9.heap.size w9 w' → (fun w' => w'.cell? ⟨qf, 0, none⟩ = some (.int .i64 fd.params) ∧ w'.cell? ⟨qf, 1, none⟩ = some (.int .i64 fd.names) ∧ w'.cell? ⟨qf, 2, none⟩ = some (.slice A fd.blocks.length c) ∧ w'.cell? ⟨qg, 0, none⟩ = some (.int .i64 gd.params) ∧ w'.cell? ⟨qg, 1, none⟩ = some (.int .i64 gd.names) ∧ w'.cell? ⟨qg, 2, none⟩ = some (.slice Ag gd.blocks.length cg) ∧ w'.cell? ⟨qg + 1, 0, none⟩ = some (.int .i64 xa) ∧ w'.cell? ⟨qg + 1, 1, none⟩ = some (.int .i64 xb)) w') := fun w' hb => by
    have f := kept_row HQF.out hb
    have g := kept_row HQG.out hb
    have x := kept_row HQX.out hb
    exact ⟨cell_of_row w' _ 0 _ _ (0, 0) f, cell_of_row w' _ 1 _ _ (0, 0) f, cell_of_row w' _ 2 _ _ (0, 0) f, cell_of_row w' _ 0 _ _ (0, 0) g, cell_of_row w' _ 1 _ _ (0, 0) g, cell_of_row w' _ 2 _ _ (0, 0) g, cell_of_row w' _ 0 _ _ (0, 0) x, cell_of_row w' _ 1 _ _ (0, 0) x⟩
  have HD0 : Hid (Below w9.heap.size w9 w9.drew) := (Below.refl _ _).drew
  refine wp_region_held_drew (S := (fun w' => w'.cell? ⟨qf, 0, none⟩ = some (.int .i64 fd.params) ∧ w'.cell? ⟨qf, 1, none⟩ = some (.int .i64 fd.names) ∧ w'.cell? ⟨qf, 2, none⟩ = some (.slice A fd.blocks.length c) ∧ w'.cell? ⟨qg, 0, none⟩ = some (.int .i64 gd.params) ∧ w'.cell? ⟨qg, 1, none⟩ = some (.int .i64 gd.names) ∧ w'.cell? ⟨qg, 2, none⟩ = some (.slice Ag gd.blocks.length cg) ∧ w'.cell? ⟨qg + 1, 0, none⟩ = some (.int .i64 xa) ∧ w'.cell? ⟨qg + 1, 1, none⟩ = some (.int .i64 xb))) (by kernel_rfl) ?_ (fun hHeld => ?_)
  · (try dsimp only)
    (first | exact HKS.out _ HD0.out | exact HKS.out _ HD1.out | exact HKS.out _ HD2.out | exact HKS.out _ HD3.out | exact HKS.out _ HD4.out)
  refine wpAnyH_take (i := 0) (v := ?_) rfl (by kernel_rfl) (by kernel_rfl) (by kernel_rfl) (fun _ _ _ h => h) (Or.inl ⟨by rfl, ?_⟩) (by assumption) ?_
  rotate_left
  · intro w hSw
    simp only [List.getElem_toArray, List.getElem_cons_zero]
    (try dsimp only at hSw)
    go_simp
    first | done | (with_reducible rfl)
  simp only [List.getElem_toArray, List.getElem_cons_zero, Act.put, List.setIfInBounds_toArray, List.set_cons_zero, List.set_cons_succ]
  refine wpAnyH_take (i := 1) (v := ?_) rfl (by kernel_rfl) (by kernel_rfl) (by kernel_rfl) (fun _ _ _ h => h) (Or.inl ⟨by rfl, ?_⟩) (by assumption) ?_
  rotate_left
  · intro w hSw
    simp only [List.getElem_toArray, List.getElem_cons_succ, List.getElem_cons_zero]
    (try dsimp only at hSw)
    go_simp
    first | done | (with_reducible rfl)
  simp only [List.getElem_toArray, List.getElem_cons_succ, List.getElem_cons_zero, Act.put, List.setIfInBounds_toArray, List.set_cons_zero, List.set_cons_succ]
  refine wpAnyH_ready (rs := [2]) (by kernel_rfl) (by simp) ?_
  refine AllReadyH.cons rfl (fun K hK => ?_) AllReadyH.nil
  simp only [List.getElem_toArray, List.getElem_cons_succ, List.getElem_cons_zero]
  go_simp
  (first | (go_at_call 27; refine (sOrderOf_any fd _ _ _ (HF.out.old (HD0.out.mono (by omega))) (fun b hb => by have h1 := hb.2; have h2 := HD0.out.size; omega) (by omega)).mono ?_; rintro e w11 ⟨L1, vL1, rfl, hx, hr, hb⟩; have HD1 : Hid (Below w9.heap.size w9 w11) := HD0.out.trans (hb.mono HD0.out.size); have e1 : L1 = L := hx.one HLr.out; subst e1; have HLa := Lib.hid (HL.out.below HD1.out fun k hk => (HL.out.lt k hk).2); have HLb := Lib.hid hr; obtain ⟨_, AL1, cL1, rfl, _⟩ := hr.ri; clear hx hr hb) | (go_at_call 14; refine (likeInts_same _ _ _ _ HLa.out.ri HLb.out.ri).mono ?_; rintro e w12 ⟨rfl, n12, hw12⟩; have HD2 : Hid (Below w9.heap.size w9 w12) := (by rw [hw12]; exact below_drewN HD1.out n12); clear hw12) | (go_at_call 28; refine (Critical_any gd _ xa xb _ _ (HG.out.old (HD2.out.mono (by omega))) (fun b hb => by have h1 := hb.2; have h2 := HD2.out.size; omega) (by omega) wa wb).mono ?_; rintro e w13 ⟨rr, rfl, hx, hb⟩; have HD3 : Hid (Below w9.heap.size w9 w13) := HD2.out.trans (hb.mono HD2.out.size); have HC := Lib.hid hx; clear hx hb) | (go_at_call 29; refine (sCritical_any gd _ xa xb _ _ (HG.out.old (HD3.out.mono (by omega))) (fun b hb => by have h1 := hb.2; have h2 := HD3.out.size; omega) (by omega)).mono ?_; rintro e w14 ⟨r2, rfl, hx, hb⟩; have HD4 : Hid (Below w9.heap.size w9 w14) := HD3.out.trans (hb.mono HD3.out.size); (obtain rfl : r2 = rr := hx.one HC.out); have hne : (r2 != r2) = false := (by simp); clear hx hb) | fail)
  go_wp2_with fail
  refine hK.out _ _ ?_ (fun hHeld => ?_)
  · (try dsimp only)
    (first | exact HKS.out _ HD0.out | exact HKS.out _ HD1.out | exact HKS.out _ HD2.out | exact HKS.out _ HD3.out | exact HKS.out _ HD4.out)
  clear hK K
  (try simp only [List.getElem_toArray, List.getElem_cons_succ, List.getElem_cons_zero, Act.put, List.setIfInBounds_toArray, List.set_cons_zero, List.set_cons_succ])
  refine wpAnyH_ready (rs := [3]) (by kernel_rfl) (by simp) ?_
  refine AllReadyH.cons rfl (fun K hK => ?_) AllReadyH.nil
  simp only [List.getElem_toArray, List.getElem_cons_succ, List.getElem_cons_zero]
  go_simp
  (first | (go_at_call 27; refine (sOrderOf_any fd _ _ _ (HF.out.old (HD0.out.mono (by omega))) (fun b hb => by have h1 := hb.2; have h2 := HD0.out.size; omega) (by omega)).mono ?_; rintro e w11 ⟨L1, vL1, rfl, hx, hr, hb⟩; have HD1 : Hid (Below w9.heap.size w9 w11) := HD0.out.trans (hb.mono HD0.out.size); have e1 : L1 = L := hx.one HLr.out; subst e1; have HLa := Lib.hid (HL.out.below HD1.out fun k hk => (HL.out.lt k hk).2); have HLb := Lib.hid hr; obtain ⟨_, AL1, cL1, rfl, _⟩ := hr.ri; clear hx hr hb) | (go_at_call 14; refine (likeInts_same _ _ _ _ HLa.out.ri HLb.out.ri).mono ?_; rintro e w12 ⟨rfl, n12, hw12⟩; have HD2 : Hid (Below w9.heap.size w9 w12) := (by rw [hw12]; exact below_drewN HD1.out n12); clear hw12) | (go_at_call 28; refine (Critical_any gd _ xa xb _ _ (HG.out.old (HD2.out.mono (by omega))) (fun b hb => by have h1 := hb.2; have h2 := HD2.out.size; omega) (by omega) wa wb).mono ?_; rintro e w13 ⟨rr, rfl, hx, hb⟩; have HD3 : Hid (Below w9.heap.size w9 w13) := HD2.out.trans (hb.mono HD2.out.size); have HC := Lib.hid hx; clear hx hb) | (go_at_call 29; refine (sCritical_any gd _ xa xb _ _ (HG.out.old (HD3.out.mono (by omega))) (fun b hb => by have h1 := hb.2; have h2 := HD3.out.size; omega) (by omega)).mono ?_; rintro e w14 ⟨r2, rfl, hx, hb⟩; have HD4 : Hid (Below w9.heap.size w9 w14) := HD3.out.trans (hb.mono HD3.out.size); (obtain rfl : r2 = rr := hx.one HC.out); have hne : (r2 != r2) = false := (by simp); clear hx hb) | fail)
  go_wp2_with fail
  refine hK.out _ _ ?_ (fun hHeld => ?_)
  · (try dsimp only)
    (first | exact HKS.out _ HD0.out | exact HKS.out _ HD1.out | exact HKS.out _ HD2.out | exact HKS.out _ HD3.out | exact HKS.out _ HD4.out)
  clear hK K
  (try simp only [List.getElem_toArray, List.getElem_cons_succ, List.getElem_cons_zero, Act.put, List.setIfInBounds_toArray, List.set_cons_zero, List.set_cons_succ])
  refine wpAnyH_take (i := 4) (v := ?_) rfl (by kernel_rfl) (by kernel_rfl) (by kernel_rfl) (fun _ _ _ h => h) (Or.inl ⟨by rfl, ?_⟩) (by assumption) ?_
  rotate_left
  · intro w hSw
    simp only [List.getElem_toArray, List.getElem_cons_succ, List.getElem_cons_zero]
    (try dsimp only at hSw)
    go_simp
    first | done | (with_reducible rfl)
  simp only [List.getElem_toArray, List.getElem_cons_succ, List.getElem_cons_zero, Act.put, List.setIfInBounds_toArray, List.set_cons_zero, List.set_cons_succ]
  refine wpAnyH_take (i := 5) (v := ?_) rfl (by kernel_rfl) (by kernel_rfl) (by kernel_rfl) (fun _ _ _ h => h) (Or.inl ⟨by rfl, ?_⟩) (by assumption) ?_
  rotate_left
  · intro w hSw
    simp only [List.getElem_toArray, List.getElem_cons_succ, List.getElem_cons_zero]
    (try dsimp only at hSw)
    go_simp
    first | done | (with_reducible rfl)
  simp only [List.getElem_toArray, List.getElem_cons_succ, List.getElem_cons_zero, Act.put, List.setIfInBounds_toArray, List.set_cons_zero, List.set_cons_succ]
  refine wpAnyH_take (i := 6) (v := ?_) rfl (by kernel_rfl) (by kernel_rfl) (by kernel_rfl) (fun _ _ _ h => h) (Or.inl ⟨by rfl, ?_⟩) (by assumption) ?_
  rotate_left
  · intro w hSw
    simp only [List.getElem_toArray, List.getElem_cons_succ, List.getElem_cons_zero]
    (try dsimp only at hSw)
    go_simp
    first | done | (with_reducible rfl)
  simp only [List.getElem_toArray, List.getElem_cons_succ, List.getElem_cons_zero, Act.put, List.setIfInBounds_toArray, List.set_cons_zero, List.set_cons_succ]
  refine wpAnyH_take (i := 7) (v := ?_) rfl (by kernel_rfl) (by kernel_rfl) (by kernel_rfl) (fun _ _ _ h => h) (Or.inl ⟨by rfl, ?_⟩) (by assumption) ?_
  rotate_left
  · intro w hSw
    simp only [List.getElem_toArray, List.getElem_cons_succ, List.getElem_cons_zero]
    (try dsimp only at hSw)
    go_simp
    first | done | (with_reducible rfl)
  simp only [List.getElem_toArray, List.getElem_cons_succ, List.getElem_cons_zero, Act.put, List.setIfInBounds_toArray, List.set_cons_zero, List.set_cons_succ]
  refine wpAnyH_take (i := 8) (v := ?_) rfl (by kernel_rfl) (by kernel_rfl) (by kernel_rfl) (fun _ _ _ h => h) (Or.inl ⟨by rfl, ?_⟩) (by assumption) ?_
  rotate_left
  · intro w hSw
    simp only [List.getElem_toArray, List.getElem_cons_succ, List.getElem_cons_zero]
    (try dsimp only at hSw)
    go_simp
    first | done | (with_reducible rfl)
  simp only [List.getElem_toArray, List.getElem_cons_succ, List.getElem_cons_zero, Act.put, List.setIfInBounds_toArray, List.set_cons_zero, List.set_cons_succ]
  refine wpAnyH_take (i := 9) (v := ?_) rfl (by kernel_rfl) (by kernel_rfl) (by kernel_rfl) (fun _ _ _ h => h) (Or.inl ⟨by rfl, ?_⟩) (by assumption) ?_
  rotate_left
  · intro w hSw
    simp only [List.getElem_toArray, List.getElem_cons_succ, List.getElem_cons_zero]
    (try dsimp only at hSw)
    go_simp
    first | done | (with_reducible rfl)
  simp only [List.getElem_toArray, List.getElem_cons_succ, List.getElem_cons_zero, Act.put, List.setIfInBounds_toArray, List.set_cons_zero, List.set_cons_succ]
  refine wpAnyH_take (i := 10) (v := ?_) rfl (by kernel_rfl) (by kernel_rfl) (by kernel_rfl) (fun _ _ _ h => h) (Or.inl ⟨by rfl, ?_⟩) (by assumption) ?_
  rotate_left
  · intro w hSw
    simp only [List.getElem_toArray, List.getElem_cons_succ, List.getElem_cons_zero]
    (try dsimp only at hSw)
    go_simp
    first | done | (with_reducible rfl)
  simp only [List.getElem_toArray, List.getElem_cons_succ, List.getElem_cons_zero, Act.put, List.setIfInBounds_toArray, List.set_cons_zero, List.set_cons_succ]
  refine wpAnyH_take (i := 11) (v := ?_) rfl (by kernel_rfl) (by kernel_rfl) (by kernel_rfl) (fun _ _ _ h => h) (Or.inl ⟨by rfl, ?_⟩) (by assumption) ?_
  rotate_left
  · intro w hSw
    simp only [List.getElem_toArray, List.getElem_cons_succ, List.getElem_cons_zero]
    (try dsimp only at hSw)
    go_simp
    first | done | (with_reducible rfl)
  simp only [List.getElem_toArray, List.getElem_cons_succ, List.getElem_cons_zero, Act.put, List.setIfInBounds_toArray, List.set_cons_zero, List.set_cons_succ]
  refine wpAnyH_take (i := 12) (v := ?_) rfl (by kernel_rfl) (by kernel_rfl) (by kernel_rfl) (fun _ _ _ h => h) (Or.inl ⟨by rfl, ?_⟩) (by assumption) ?_
  rotate_left
  · intro w hSw
    simp only [List.getElem_toArray, List.getElem_cons_succ, List.getElem_cons_zero]
    (try dsimp only at hSw)
    go_simp
    first | done | (with_reducible rfl)
  simp only [List.getElem_toArray, List.getElem_cons_succ, List.getElem_cons_zero, Act.put, List.setIfInBounds_toArray, List.set_cons_zero, List.set_cons_succ]
  refine wpAnyH_take (i := 13) (v := ?_) rfl (by kernel_rfl) (by kernel_rfl) (by kernel_rfl) (fun _ _ _ h => h) (Or.inl ⟨by rfl, ?_⟩) (by assumption) ?_
  rotate_left
  · intro w hSw
    simp only [List.getElem_toArray, List.getElem_cons_succ, List.getElem_cons_zero]
    (try dsimp only at hSw)
    go_simp
    first | done | (with_reducible rfl)
  simp only [List.getElem_toArray, List.getElem_cons_succ, List.getElem_cons_zero, Act.put, List.setIfInBounds_toArray, List.set_cons_zero, List.set_cons_succ]
  refine wpAnyH_take (i := 14) (v := ?_) rfl (by kernel_rfl) (by kernel_rfl) (by kernel_rfl) (fun _ _ _ h => h) (Or.inl ⟨by rfl, ?_⟩) (by assumption) ?_
  rotate_left
  · intro w hSw
    simp only [List.getElem_toArray, List.getElem_cons_succ, List.getElem_cons_zero]
    (try dsimp only at hSw)
    go_simp
    first | done | (with_reducible rfl)
  simp only [List.getElem_toArray, List.getElem_cons_succ, List.getElem_cons_zero, Act.put, List.setIfInBounds_toArray, List.set_cons_zero, List.set_cons_succ]
  refine wpAnyH_take (i := 15) (v := ?_) rfl (by kernel_rfl) (by kernel_rfl) (by kernel_rfl) (fun _ _ _ h => h) (Or.inl ⟨by rfl, ?_⟩) (by assumption) ?_
  rotate_left
  · intro w hSw
    simp only [List.getElem_toArray, List.getElem_cons_succ, List.getElem_cons_zero]
    (try dsimp only at hSw)
    go_simp
    first | done | (with_reducible rfl)
  simp only [List.getElem_toArray, List.getElem_cons_succ, List.getElem_cons_zero, Act.put, List.setIfInBounds_toArray, List.set_cons_zero, List.set_cons_succ]
  refine wpAnyH_take (i := 16) (v := ?_) rfl (by kernel_rfl) (by kernel_rfl) (by kernel_rfl) (fun _ _ _ h => h) (Or.inl ⟨by rfl, ?_⟩) (by assumption) ?_
  rotate_left
  · intro w hSw
    simp only [List.getElem_toArray, List.getElem_cons_succ, List.getElem_cons_zero]
    (try dsimp only at hSw)
    go_simp
    first | done | (with_reducible rfl)
  simp only [List.getElem_toArray, List.getElem_cons_succ, List.getElem_cons_zero, Act.put, List.setIfInBounds_toArray, List.set_cons_zero, List.set_cons_succ]
  refine wpAnyH_take (i := 17) (v := ?_) rfl (by kernel_rfl) (by kernel_rfl) (by kernel_rfl) (fun _ _ _ h => h) (Or.inl ⟨by rfl, ?_⟩) (by assumption) ?_
  rotate_left
  · intro w hSw
    simp only [List.getElem_toArray, List.getElem_cons_succ, List.getElem_cons_zero]
    (try dsimp only at hSw)
    go_simp
    first | done | (with_reducible rfl)
  simp only [List.getElem_toArray, List.getElem_cons_succ, List.getElem_cons_zero, Act.put, List.setIfInBounds_toArray, List.set_cons_zero, List.set_cons_succ]
  refine wpAnyH_take (i := 18) (v := ?_) rfl (by kernel_rfl) (by kernel_rfl) (by kernel_rfl) (fun _ _ _ h => h) (Or.inl ⟨by rfl, ?_⟩) (by assumption) ?_
  rotate_left
  · intro w hSw
    simp only [List.getElem_toArray, List.getElem_cons_succ, List.getElem_cons_zero]
    (try dsimp only at hSw)
    go_simp
    first | done | (with_reducible rfl)
  simp only [List.getElem_toArray, List.getElem_cons_succ, List.getElem_cons_zero, Act.put, List.setIfInBounds_toArray, List.set_cons_zero, List.set_cons_succ]
  refine wpAnyH_take (i := 19) (v := ?_) rfl (by kernel_rfl) (by kernel_rfl) (by kernel_rfl) (fun _ _ _ h => h) (Or.inl ⟨by rfl, ?_⟩) (by assumption) ?_
  rotate_left
  · intro w hSw
    simp only [List.getElem_toArray, List.getElem_cons_succ, List.getElem_cons_zero]
    (try dsimp only at hSw)
    go_simp
    first | done | (with_reducible rfl)
  simp only [List.getElem_toArray, List.getElem_cons_succ, List.getElem_cons_zero, Act.put, List.setIfInBounds_toArray, List.set_cons_zero, List.set_cons_succ]
  refine wpAnyH_take (i := 20) (v := ?_) rfl (by kernel_rfl) (by kernel_rfl) (by kernel_rfl) (fun _ _ _ h => h) (Or.inl ⟨by rfl, ?_⟩) (by assumption) ?_
  rotate_left
  · intro w hSw
    simp only [List.getElem_toArray, List.getElem_cons_succ, List.getElem_cons_zero]
    (try dsimp only at hSw)
    go_simp
    first | done | (with_reducible rfl)
  simp only [List.getElem_toArray, List.getElem_cons_succ, List.getElem_cons_zero, Act.put, List.setIfInBounds_toArray, List.set_cons_zero, List.set_cons_succ]
  refine wpAnyH_take (i := 21) (v := ?_) rfl (by kernel_rfl) (by kernel_rfl) (by kernel_rfl) (fun _ _ _ h => h) (Or.inl ⟨by rfl, ?_⟩) (by assumption) ?_
  rotate_left
  · intro w hSw
    simp only [List.getElem_toArray, List.getElem_cons_succ, List.getElem_cons_zero]
    (try dsimp only at hSw)
    go_simp
    first | done | (with_reducible rfl)
  simp only [List.getElem_toArray, List.getElem_cons_succ, List.getElem_cons_zero, Act.put, List.setIfInBounds_toArray, List.set_cons_zero, List.set_cons_succ]
  refine wpAnyH_take (i := 23) (v := ?_) rfl (by kernel_rfl) (by kernel_rfl) (by kernel_rfl) (fun _ _ _ h => h) (Or.inl ⟨by rfl, ?_⟩) (by assumption) ?_
  rotate_left
  · intro w hSw
    simp only [List.getElem_toArray, List.getElem_cons_succ, List.getElem_cons_zero]
    (try dsimp only at hSw)
    go_simp
    first | done | (with_reducible rfl)
  simp only [List.getElem_toArray, List.getElem_cons_succ, List.getElem_cons_zero, Act.put, List.setIfInBounds_toArray, List.set_cons_zero, List.set_cons_succ]
  refine wpAnyH_take (i := 24) (v := ?_) rfl (by kernel_rfl) (by kernel_rfl) (by kernel_rfl) (fun _ _ _ h => h) (Or.inl ⟨by rfl, ?_⟩) (by assumption) ?_
  rotate_left
  · intro w hSw
    simp only [List.getElem_toArray, List.getElem_cons_succ, List.getElem_cons_zero]
    (try dsimp only at hSw)
    go_simp
    first | done | (with_reducible rfl)
  simp only [List.getElem_toArray, List.getElem_cons_succ, List.getElem_cons_zero, Act.put, List.setIfInBounds_toArray, List.set_cons_zero, List.set_cons_succ]
  refine wpAnyH_ready (rs := [22]) (by kernel_rfl) (by simp) ?_
  refine AllReadyH.cons rfl (fun K hK => ?_) AllReadyH.nil
  simp only [List.getElem_toArray, List.getElem_cons_succ, List.getElem_cons_zero]
  go_simp
  (first | (go_at_call 27; refine (sOrderOf_any fd _ _ _ (HF.out.old (HD0.out.mono (by omega))) (fun b hb => by have h1 := hb.2; have h2 := HD0.out.size; omega) (by omega)).mono ?_; rintro e w11 ⟨L1, vL1, rfl, hx, hr, hb⟩; have HD1 : Hid (Below w9.heap.size w9 w11) := HD0.out.trans (hb.mono HD0.out.size); have e1 : L1 = L := hx.one HLr.out; subst e1; have HLa := Lib.hid (HL.out.below HD1.out fun k hk => (HL.out.lt k hk).2); have HLb := Lib.hid hr; obtain ⟨_, AL1, cL1, rfl, _⟩ := hr.ri; clear hx hr hb) | (go_at_call 14; refine (likeInts_same _ _ _ _ HLa.out.ri HLb.out.ri).mono ?_; rintro e w12 ⟨rfl, n12, hw12⟩; have HD2 : Hid (Below w9.heap.size w9 w12) := (by rw [hw12]; exact below_drewN HD1.out n12); clear hw12) | (go_at_call 28; refine (Critical_any gd _ xa xb _ _ (HG.out.old (HD2.out.mono (by omega))) (fun b hb => by have h1 := hb.2; have h2 := HD2.out.size; omega) (by omega) wa wb).mono ?_; rintro e w13 ⟨rr, rfl, hx, hb⟩; have HD3 : Hid (Below w9.heap.size w9 w13) := HD2.out.trans (hb.mono HD2.out.size); have HC := Lib.hid hx; clear hx hb) | (go_at_call 29; refine (sCritical_any gd _ xa xb _ _ (HG.out.old (HD3.out.mono (by omega))) (fun b hb => by have h1 := hb.2; have h2 := HD3.out.size; omega) (by omega)).mono ?_; rintro e w14 ⟨r2, rfl, hx, hb⟩; have HD4 : Hid (Below w9.heap.size w9 w14) := HD3.out.trans (hb.mono HD3.out.size); (obtain rfl : r2 = rr := hx.one HC.out); have hne : (r2 != r2) = false := (by simp); clear hx hb) | fail)
  go_wp2_with fail
  refine hK.out _ _ ?_ (fun hHeld => ?_)
  · (try dsimp only)
    (first | exact HKS.out _ HD0.out | exact HKS.out _ HD1.out | exact HKS.out _ HD2.out | exact HKS.out _ HD3.out | exact HKS.out _ HD4.out)
  clear hK K
  (try simp only [List.getElem_toArray, List.getElem_cons_succ, List.getElem_cons_zero, Act.put, List.setIfInBounds_toArray, List.set_cons_zero, List.set_cons_succ])
  refine wpAnyH_ready (rs := [25]) (by kernel_rfl) (by simp) ?_
  refine AllReadyH.cons rfl (fun K hK => ?_) AllReadyH.nil
  simp only [List.getElem_toArray, List.getElem_cons_succ, List.getElem_cons_zero]
  go_simp
  (first | (go_at_call 27; refine (sOrderOf_any fd _ _ _ (HF.out.old (HD0.out.mono (by omega))) (fun b hb => by have h1 := hb.2; have h2 := HD0.out.size; omega) (by omega)).mono ?_; rintro e w11 ⟨L1, vL1, rfl, hx, hr, hb⟩; have HD1 : Hid (Below w9.heap.size w9 w11) := HD0.out.trans (hb.mono HD0.out.size); have e1 : L1 = L := hx.one HLr.out; subst e1; have HLa := Lib.hid (HL.out.below HD1.out fun k hk => (HL.out.lt k hk).2); have HLb := Lib.hid hr; obtain ⟨_, AL1, cL1, rfl, _⟩ := hr.ri; clear hx hr hb) | (go_at_call 14; refine (likeInts_same _ _ _ _ HLa.out.ri HLb.out.ri).mono ?_; rintro e w12 ⟨rfl, n12, hw12⟩; have HD2 : Hid (Below w9.heap.size w9 w12) := (by rw [hw12]; exact below_drewN HD1.out n12); clear hw12) | (go_at_call 28; refine (Critical_any gd _ xa xb _ _ (HG.out.old (HD2.out.mono (by omega))) (fun b hb => by have h1 := hb.2; have h2 := HD2.out.size; omega) (by omega) wa wb).mono ?_; rintro e w13 ⟨rr, rfl, hx, hb⟩; have HD3 : Hid (Below w9.heap.size w9 w13) := HD2.out.trans (hb.mono HD2.out.size); have HC := Lib.hid hx; clear hx hb) | (go_at_call 29; refine (sCritical_any gd _ xa xb _ _ (HG.out.old (HD3.out.mono (by omega))) (fun b hb => by have h1 := hb.2; have h2 := HD3.out.size; omega) (by omega)).mono ?_; rintro e w14 ⟨r2, rfl, hx, hb⟩; have HD4 : Hid (Below w9.heap.size w9 w14) := HD3.out.trans (hb.mono HD3.out.size); (obtain rfl : r2 = rr := hx.one HC.out); have hne : (r2 != r2) = false := (by simp); clear hx hb) | fail)
  go_wp2_with fail
  refine hK.out _ _ ?_ (fun hHeld => ?_)
  · (try dsimp only)
    (first | exact HKS.out _ HD0.out | exact HKS.out _ HD1.out | exact HKS.out _ HD2.out | exact HKS.out _ HD3.out | exact HKS.out _ HD4.out)
  clear hK K
  (try simp only [List.getElem_toArray, List.getElem_cons_succ, List.getElem_cons_zero, Act.put, List.setIfInBounds_toArray, List.set_cons_zero, List.set_cons_succ])
  refine wpAnyH_take (i := 26) (v := ?_) rfl (by kernel_rfl) (by kernel_rfl) (by kernel_rfl) (fun _ _ _ h => h) (Or.inl ⟨by rfl, ?_⟩) (by assumption) ?_
  rotate_left
  · intro w hSw
    simp only [List.getElem_toArray, List.getElem_cons_succ, List.getElem_cons_zero]
    (try dsimp only at hSw)
    go_simp
    first | done | (with_reducible rfl)
  simp only [List.getElem_toArray, List.getElem_cons_succ, List.getElem_cons_zero, Act.put, List.setIfInBounds_toArray, List.set_cons_zero, List.set_cons_succ]
  refine wpAnyH_take (i := 27) (v := ?_) rfl (by kernel_rfl) (by kernel_rfl) (by kernel_rfl) (fun _ _ _ h => h) (Or.inl ⟨by rfl, ?_⟩) (by assumption) ?_
  rotate_left
  · intro w hSw
    simp only [List.getElem_toArray, List.getElem_cons_succ, List.getElem_cons_zero]
    (try dsimp only at hSw)
    go_simp
    first | done | (with_reducible rfl)
  simp only [List.getElem_toArray, List.getElem_cons_succ, List.getElem_cons_zero, Act.put, List.setIfInBounds_toArray, List.set_cons_zero, List.set_cons_succ]
  refine wpAnyH_done (by kernel_rfl) ?_ _
  have hb := HD4.out
  have hzw14 := hb.size
  clear HKS HD0 HD1 HD2 HD3 HLa HLb HC
  replace HB : Hid (Below w.heap.size w w14) := HB.out.trans (hb.mono HB.out.size)
  replace HF := Lib.hid (HF.out.old (hb.mono (by omega)))
  replace HQF := Lib.hid (kept_row HQF.out hb)
  replace HL := Lib.hid (HL.out.below hb fun k hk => (HL.out.lt k hk).2)
  replace HR := Lib.hid (HR.out.below hb fun k hk => (HR.out.lt k hk).2)
  replace HW := Lib.hid (HW.out.below hb fun k hk => (HW.out.lt k hk).2)
  replace HE := Lib.hid (HE.out.below hb fun k hk => (HE.out.lt k hk).2)
  replace HM := Lib.hid (HM.out.below hb fun k hk => (HM.out.lt k hk).2)
  replace HG := Lib.hid (HG.out.old (hb.mono (by omega)))
  replace HQG := Lib.hid (kept_row HQG.out hb)
  replace HQX := Lib.hid (kept_row HQX.out hb)
  clear hb HD4
  have HOR := Lib.hid (order_reached HLr.out HRr.out)
  have HLc : Hid (L1.length ≤ cL) := by
    rcases HL.out.2 with ⟨h1, h2⟩ | ⟨_, _, _, h1, _, _, h2, _⟩
    · show L1.length ≤ cL; omega
    · injection h1 with _ _ h3; show L1.length ≤ cL; omega
  have hL7 : L1.length ≤ 7 := Nat.le_trans HLr.out.len hfl
  have hR7 : R1.length ≤ 7 := Nat.le_trans HRr.out.len hfl
  have hE80 : E1.length ≤ 80 := HEr.out.len
  clear HG HQG HQX HV
  go_wp2_with fail
  go_loopw [11, 12] (fun mv iv wq => ∃ k : Nat, k ≤ R1.length ∧ iv = .int .i64 k ∧ mv = .int .i64 ((manyB R1 k : Nat) : Int) ∧ Hid (Below w14.heap.size w14 wq)) (fun _ iv _ => R1.length - (intOf iv).toNat)
  case atStart => exact ⟨0, Nat.zero_le _, rfl, by rw [manyB_zero]; rfl, Below.refl _ _⟩
  case round =>
    obtain ⟨k, hk, rfl, rfl, HBk⟩ := hrel
    have hzk := HBk.out.size
    by_cases hkl : (k : Int) < (R1.length : Int)
    · have hxk : R1[k]? = some R1[k] := List.getElem?_eq_getElem (by omega)
      generalize R1[k] = b at hxk
      have hbL := HOR.out.1 k b hxk
      have hms := manyB_succ hxk
      have hml := manyB_le R1 k
      obtain ⟨_, A5, c5, he5, hx5⟩ := (HR.out.below HBk.out fun k hk => (HR.out.lt k hk).2).rb
      injection he5 with e1 _ e2
      subst e1
      subst e2
      obtain ⟨b5, off5, ha5, hc5⟩ := hx5 (by intro h; rw [h] at hxk; simp at hxk)
      subst ha5
      have p5 := hc5 k _ hxk
      have hl5 := World.block_lt_of_cell? wr ⟨b5, off5 + k, none⟩ p5
      clear hc5 hx5
      obtain ⟨_, A6, c6, he6, hx6⟩ := (HW.out.below HBk.out fun k hk => (HW.out.lt k hk).2).rb
      injection he6 with e1 _ e2
      subst e1
      subst e2
      obtain ⟨b6, off6, ha6, hc6⟩ := hx6 (by intro h; rw [h] at hxk; simp at hxk)
      subst ha6
      have p6 := hc6 k _ hxk
      have hl6 := World.block_lt_of_cell? wr ⟨b6, off6 + k, none⟩ p6
      clear hc6 hx6
      have hk0 : 0 ≤ (k : Int) := by omega
      have hne : (b != b) = false := by simp
      have HKS : Hid (∀ w' : World, Below wr.heap.size wr w' → (fun w' => w'.cell? ⟨b5, off5 + k, none⟩ = some (.bool b) ∧ w'.cell? ⟨b6, off6 + k, none⟩ = some (.bool b)) w') := fun w' hb => ⟨(hb.cell (p := ⟨b5, off5 + k, none⟩) hl5).trans p5, (hb.cell (p := ⟨b6, off6 + k, none⟩) hl6).trans p6⟩
      have HD0 : Hid (Below wr.heap.size wr wr.drew) := (Below.refl _ _).drew
      have HBn : Hid (Below w14.heap.size w14 wr.drew) := HBk.out.drew
      have HLd := Lib.hid (HL.out.below HBn.out fun k hk => (HL.out.lt k hk).2).ri
      have HMS := Lib.hid hms
      clear hms hxk p5 p6
      generalize manyB R1 k = mk at *
      go_upto_region 16 with fail
      refine wp_region_held_drew (S := (fun w' => w'.cell? ⟨b5, off5 + k, none⟩ = some (.bool b) ∧ w'.cell? ⟨b6, off6 + k, none⟩ = some (.bool b))) (by kernel_rfl) ?_ (fun hHeld => ?_)
      · (try dsimp only)
        (first | exact HKS.out _ HD0.out)
      refine wpAnyH_take (i := 0) (v := ?_) rfl (by kernel_rfl) (by kernel_rfl) (by kernel_rfl) (fun _ _ _ h => h) (Or.inl ⟨by rfl, ?_⟩) (by assumption) ?_
      rotate_left
      · intro w hSw
        simp only [List.getElem_toArray, List.getElem_cons_zero]
        (try dsimp only at hSw)
        go_simp
        first | done | (with_reducible rfl)
      simp only [List.getElem_toArray, List.getElem_cons_zero, Act.put, List.setIfInBounds_toArray, List.set_cons_zero, List.set_cons_succ]
      refine wpAnyH_take (i := 1) (v := ?_) rfl (by kernel_rfl) (by kernel_rfl) (by kernel_rfl) (fun _ _ _ h => h) (Or.inl ⟨by rfl, ?_⟩) (by assumption) ?_
      rotate_left
      · intro w hSw
        simp only [List.getElem_toArray, List.getElem_cons_succ, List.getElem_cons_zero]
        (try dsimp only at hSw)
        go_simp
        first | done | (with_reducible rfl)
      simp only [List.getElem_toArray, List.getElem_cons_succ, List.getElem_cons_zero, Act.put, List.setIfInBounds_toArray, List.set_cons_zero, List.set_cons_succ]
      refine wpAnyH_take (i := 2) (v := ?_) rfl (by kernel_rfl) (by kernel_rfl) (by kernel_rfl) (fun _ _ _ h => h) (Or.inl ⟨by rfl, ?_⟩) (by assumption) ?_
      rotate_left
      · intro w hSw
        simp only [List.getElem_toArray, List.getElem_cons_succ, List.getElem_cons_zero]
        (try dsimp only at hSw)
        go_simp
        first | done | (with_reducible rfl)
      simp only [List.getElem_toArray, List.getElem_cons_succ, List.getElem_cons_zero, Act.put, List.setIfInBounds_toArray, List.set_cons_zero, List.set_cons_succ]
      refine wpAnyH_take (i := 3) (v := ?_) rfl (by kernel_rfl) (by kernel_rfl) (by kernel_rfl) (fun _ _ _ h => h) (Or.inl ⟨by rfl, ?_⟩) (by assumption) ?_
      rotate_left
      · intro w hSw
        simp only [List.getElem_toArray, List.getElem_cons_succ, List.getElem_cons_zero]
        (try dsimp only at hSw)
        go_simp
        first | done | (with_reducible rfl)
      simp only [List.getElem_toArray, List.getElem_cons_succ, List.getElem_cons_zero, Act.put, List.setIfInBounds_toArray, List.set_cons_zero, List.set_cons_succ]
      refine wpAnyH_take (i := 4) (v := ?_) rfl (by kernel_rfl) (by kernel_rfl) (by kernel_rfl) (fun _ _ _ h => h) (Or.inl ⟨by rfl, ?_⟩) (by assumption) ?_
      rotate_left
      · intro w hSw
        simp only [List.getElem_toArray, List.getElem_cons_succ, List.getElem_cons_zero]
        (try dsimp only at hSw)
        go_simp
        first | done | (with_reducible rfl)
      simp only [List.getElem_toArray, List.getElem_cons_succ, List.getElem_cons_zero, Act.put, List.setIfInBounds_toArray, List.set_cons_zero, List.set_cons_succ]
      refine wpAnyH_take (i := 5) (v := ?_) rfl (by kernel_rfl) (by kernel_rfl) (by kernel_rfl) (fun _ _ _ h => h) (Or.inl ⟨by rfl, ?_⟩) (by assumption) ?_
      rotate_left
      · intro w hSw
        simp only [List.getElem_toArray, List.getElem_cons_succ, List.getElem_cons_zero]
        (try dsimp only at hSw)
        go_simp
        first | done | (with_reducible rfl)
      simp only [List.getElem_toArray, List.getElem_cons_succ, List.getElem_cons_zero, Act.put, List.setIfInBounds_toArray, List.set_cons_zero, List.set_cons_succ]
      refine wpAnyH_take (i := 6) (v := ?_) rfl (by kernel_rfl) (by kernel_rfl) (by kernel_rfl) (fun _ _ _ h => h) (Or.inl ⟨by rfl, ?_⟩) (by assumption) ?_
      rotate_left
      · intro w hSw
        simp only [List.getElem_toArray, List.getElem_cons_succ, List.getElem_cons_zero]
        (try dsimp only at hSw)
        go_simp
        first | done | (with_reducible rfl)
      simp only [List.getElem_toArray, List.getElem_cons_succ, List.getElem_cons_zero, Act.put, List.setIfInBounds_toArray, List.set_cons_zero, List.set_cons_succ]
      refine wpAnyH_take (i := 7) (v := ?_) rfl (by kernel_rfl) (by kernel_rfl) (by kernel_rfl) (fun _ _ _ h => h) (Or.inl ⟨by rfl, ?_⟩) (by assumption) ?_
      rotate_left
      · intro w hSw
        simp only [List.getElem_toArray, List.getElem_cons_succ, List.getElem_cons_zero]
        (try dsimp only at hSw)
        go_simp
        first | done | (with_reducible rfl)
      simp only [List.getElem_toArray, List.getElem_cons_succ, List.getElem_cons_zero, Act.put, List.setIfInBounds_toArray, List.set_cons_zero, List.set_cons_succ]
      refine wpAnyH_take (i := 8) (v := ?_) rfl (by kernel_rfl) (by kernel_rfl) (by kernel_rfl) (fun _ _ _ h => h) (Or.inl ⟨by rfl, ?_⟩) (by assumption) ?_
      rotate_left
      · intro w hSw
        simp only [List.getElem_toArray, List.getElem_cons_succ, List.getElem_cons_zero]
        (try dsimp only at hSw)
        go_simp
        first | done | (with_reducible rfl)
      simp only [List.getElem_toArray, List.getElem_cons_succ, List.getElem_cons_zero, Act.put, List.setIfInBounds_toArray, List.set_cons_zero, List.set_cons_succ]
      refine wpAnyH_take (i := 9) (v := ?_) rfl (by kernel_rfl) (by kernel_rfl) (by kernel_rfl) (fun _ _ _ h => h) (Or.inl ⟨by rfl, ?_⟩) (by assumption) ?_
      rotate_left
      · intro w hSw
        simp only [List.getElem_toArray, List.getElem_cons_succ, List.getElem_cons_zero]
        (try dsimp only at hSw)
        go_simp
        first | done | (with_reducible rfl)
      simp only [List.getElem_toArray, List.getElem_cons_succ, List.getElem_cons_zero, Act.put, List.setIfInBounds_toArray, List.set_cons_zero, List.set_cons_succ]
      refine wpAnyH_take (i := 10) (v := ?_) rfl (by kernel_rfl) (by kernel_rfl) (by kernel_rfl) (fun _ _ _ h => h) (Or.inl ⟨by rfl, ?_⟩) (by assumption) ?_
      rotate_left
      · intro w hSw
        simp only [List.getElem_toArray, List.getElem_cons_succ, List.getElem_cons_zero]
        (try dsimp only at hSw)
        go_simp
        first | done | (with_reducible rfl)
      simp only [List.getElem_toArray, List.getElem_cons_succ, List.getElem_cons_zero, Act.put, List.setIfInBounds_toArray, List.set_cons_zero, List.set_cons_succ]
      refine wpAnyH_take (i := 11) (v := ?_) rfl (by kernel_rfl) (by kernel_rfl) (by kernel_rfl) (fun _ _ _ h => h) (Or.inl ⟨by rfl, ?_⟩) (by assumption) ?_
      rotate_left
      · intro w hSw
        simp only [List.getElem_toArray, List.getElem_cons_succ, List.getElem_cons_zero]
        (try dsimp only at hSw)
        go_simp
        first | done | (with_reducible rfl)
      simp only [List.getElem_toArray, List.getElem_cons_succ, List.getElem_cons_zero, Act.put, List.setIfInBounds_toArray, List.set_cons_zero, List.set_cons_succ]
      refine wpAnyH_take (i := 12) (v := ?_) rfl (by kernel_rfl) (by kernel_rfl) (by kernel_rfl) (fun _ _ _ h => h) (Or.inl ⟨by rfl, ?_⟩) (by assumption) ?_
      rotate_left
      · intro w hSw
        simp only [List.getElem_toArray, List.getElem_cons_succ, List.getElem_cons_zero]
        (try dsimp only at hSw)
        go_simp
        first | done | (with_reducible rfl)
      simp only [List.getElem_toArray, List.getElem_cons_succ, List.getElem_cons_zero, Act.put, List.setIfInBounds_toArray, List.set_cons_zero, List.set_cons_succ]
      refine wpAnyH_take (i := 13) (v := ?_) rfl (by kernel_rfl) (by kernel_rfl) (by kernel_rfl) (fun _ _ _ h => h) (Or.inl ⟨by rfl, ?_⟩) (by assumption) ?_
      rotate_left
      · intro w hSw
        simp only [List.getElem_toArray, List.getElem_cons_succ, List.getElem_cons_zero]
        (try dsimp only at hSw)
        go_simp
        first | done | (with_reducible rfl)
      simp only [List.getElem_toArray, List.getElem_cons_succ, List.getElem_cons_zero, Act.put, List.setIfInBounds_toArray, List.set_cons_zero, List.set_cons_succ]
      refine wpAnyH_take (i := 14) (v := ?_) rfl (by kernel_rfl) (by kernel_rfl) (by kernel_rfl) (fun _ _ _ h => h) (Or.inl ⟨by rfl, ?_⟩) (by assumption) ?_
      rotate_left
      · intro w hSw
        simp only [List.getElem_toArray, List.getElem_cons_succ, List.getElem_cons_zero]
        (try dsimp only at hSw)
        go_simp
        first | done | (with_reducible rfl)
      simp only [List.getElem_toArray, List.getElem_cons_succ, List.getElem_cons_zero, Act.put, List.setIfInBounds_toArray, List.set_cons_zero, List.set_cons_succ]
      refine wpAnyH_take (i := 15) (v := ?_) rfl (by kernel_rfl) (by kernel_rfl) (by kernel_rfl) (fun _ _ _ h => h) (Or.inl ⟨by rfl, ?_⟩) (by assumption) ?_
      rotate_left
      · intro w hSw
        simp only [List.getElem_toArray, List.getElem_cons_succ, List.getElem_cons_zero]
        (try dsimp only at hSw)
        go_simp
        first | done | (with_reducible rfl)
      simp only [List.getElem_toArray, List.getElem_cons_succ, List.getElem_cons_zero, Act.put, List.setIfInBounds_toArray, List.set_cons_zero, List.set_cons_succ]
      refine wpAnyH_ready (rs := [16]) (by kernel_rfl) (by simp) ?_
      refine AllReadyH.cons rfl (fun K hK => ?_) AllReadyH.nil
      simp only [List.getElem_toArray, List.getElem_cons_succ, List.getElem_cons_zero]
      go_simp
      (first | (go_at_call 19; refine (has_any _ _ _ _ HLd.out).mono ?_; rintro e w' ⟨rfl, rfl⟩; rw [hbL]) | fail)
      go_wp2_with fail
      refine hK.out _ _ ?_ (fun hHeld => ?_)
      · (try dsimp only)
        (first | exact HKS.out _ HD0.out)
      clear hK K
      (try simp only [List.getElem_toArray, List.getElem_cons_succ, List.getElem_cons_zero, Act.put, List.setIfInBounds_toArray, List.set_cons_zero, List.set_cons_succ])
      refine wpAnyH_take (i := 17) (v := ?_) rfl (by kernel_rfl) (by kernel_rfl) (by kernel_rfl) (fun _ _ _ h => h) (Or.inl ⟨by rfl, ?_⟩) (by assumption) ?_
      rotate_left
      · intro w hSw
        simp only [List.getElem_toArray, List.getElem_cons_succ, List.getElem_cons_zero]
        (try dsimp only at hSw)
        go_simp
        first | done | (with_reducible rfl)
      simp only [List.getElem_toArray, List.getElem_cons_succ, List.getElem_cons_zero, Act.put, List.setIfInBounds_toArray, List.set_cons_zero, List.set_cons_succ]
      refine wpAnyH_take (i := 18) (v := ?_) rfl (by kernel_rfl) (by kernel_rfl) (by kernel_rfl) (fun _ _ _ h => h) (Or.inl ⟨by rfl, ?_⟩) (by assumption) ?_
      rotate_left
      · intro w hSw
        simp only [List.getElem_toArray, List.getElem_cons_succ, List.getElem_cons_zero]
        (try dsimp only at hSw)
        go_simp
        first | done | (with_reducible rfl)
      simp only [List.getElem_toArray, List.getElem_cons_succ, List.getElem_cons_zero, Act.put, List.setIfInBounds_toArray, List.set_cons_zero, List.set_cons_succ]
      refine wpAnyH_done (by kernel_rfl) ?_ _
      obtain ⟨q5, q6⟩ := HKS.out _ HD0.out
      clear HKS HD0 HLd q6 hbL
      cases b
      · rw [if_neg (by simp)] at HMS
        go_wp2_with fail
        go_roundw
        case rel => exact ⟨k + 1, by omega, by go_num, by rw [HMS.out, Nat.add_zero], HBn.out⟩
        case measure => simp [intOf]; omega
      · rw [if_pos rfl] at HMS
        go_wp2_with fail
        go_roundw
        case rel => exact ⟨k + 1, by omega, by go_num, by rw [HMS.out]; go_num, HBn.out⟩
        case measure => simp [intOf]; omega
    · obtain rfl : k = R1.length := by omega
      rw [manyB_all, HOR.out.2.1]
      clear hzk
      go_wp2_with fail
      go_loopw [13] (fun iv wq => ∃ k : Nat, k ≤ E1.length ∧ iv = .int .i64 k ∧ Hid (Below w14.heap.size w14 wq)) (fun iv _ => E1.length - (intOf iv).toNat)
      case atStart => exact ⟨0, Nat.zero_le _, rfl, HBk.out⟩
      case round =>
        replace HBk := HBk
        obtain ⟨k, hk, rfl, HBk⟩ := hrel
        have hzk := HBk.out.size
        by_cases hkl : (k : Int) < (E1.length : Int)
        · have hxk : E1[k]? = some E1[k] := List.getElem?_eq_getElem (by omega)
          generalize E1[k] = ed at hxk
          obtain ⟨ge, ce, hfe, _, _⟩ := World.ownsRow.form HE.out (show 0 < E1.length by omega)
          injection hfe with e1 _ e2
          subst e1
          subst e2
          obtain ⟨gm, cm, hfm, _, _⟩ := World.ownsRow.form HM.out (show 0 < E1.length by omega)
          injection hfm with e1 _ e2
          subst e1
          subst e2
          have hE := HE.out.below HBk.out fun k hk => (HE.out.lt k hk).2
          have hM := HM.out.below HBk.out fun k hk => (HM.out.lt k hk).2
          have p0 := (World.ownsRow.cellAt hE (k * 2) (by omega)).trans (fl_get hxk).1
          have p1 := (World.ownsRow.cellAt hE (k * 2 + 1) (by omega)).trans (fl_get hxk).2
          have p2 := (World.ownsRow.cellAt hM (k * 2) (by omega)).trans (fl_get hxk).1
          have p3 := (World.ownsRow.cellAt hM (k * 2 + 1) (by omega)).trans (fl_get hxk).2
          have hk0 : 0 ≤ (k : Int) := by omega
          have n0 : (ed.dst != ed.dst) = false := by simp
          have n1 : (ed.src != ed.src) = false := by simp
          have HK0 : Hid ((fun w' => w'.cell? ⟨ge, k * 2, none⟩ = some (.int .i64 ed.dst) ∧ w'.cell? ⟨ge, k * 2 + 1, none⟩ = some (.int .i64 ed.src) ∧ w'.cell? ⟨gm, k * 2, none⟩ = some (.int .i64 ed.dst) ∧ w'.cell? ⟨gm, k * 2 + 1, none⟩ = some (.int .i64 ed.src)) wr.drew) := ⟨p0, p1, p2, p3⟩
          have HBn : Hid (Below w14.heap.size w14 wr.drew) := HBk.out.drew
          clear hE hM p0 p1 p2 p3 hxk
          go_upto_region 23 with fail
          refine wp_region_held_drew (S := (fun w' => w'.cell? ⟨ge, k * 2, none⟩ = some (.int .i64 ed.dst) ∧ w'.cell? ⟨ge, k * 2 + 1, none⟩ = some (.int .i64 ed.src) ∧ w'.cell? ⟨gm, k * 2, none⟩ = some (.int .i64 ed.dst) ∧ w'.cell? ⟨gm, k * 2 + 1, none⟩ = some (.int .i64 ed.src))) (by kernel_rfl) ?_ (fun hHeld => ?_)
          · (try dsimp only)
            (first | exact HK0.out)
          refine wpAnyH_take (i := 0) (v := ?_) rfl (by kernel_rfl) (by kernel_rfl) (by kernel_rfl) (fun _ _ _ h => h) (Or.inl ⟨by rfl, ?_⟩) (by assumption) ?_
          rotate_left
          · intro w hSw
            simp only [List.getElem_toArray, List.getElem_cons_zero]
            (try dsimp only at hSw)
            go_simp
            first | done | (with_reducible rfl)
          simp only [List.getElem_toArray, List.getElem_cons_zero, Act.put, List.setIfInBounds_toArray, List.set_cons_zero, List.set_cons_succ]
          refine wpAnyH_take (i := 1) (v := ?_) rfl (by kernel_rfl) (by kernel_rfl) (by kernel_rfl) (fun _ _ _ h => h) (Or.inl ⟨by rfl, ?_⟩) (by assumption) ?_
          rotate_left
          · intro w hSw
            simp only [List.getElem_toArray, List.getElem_cons_succ, List.getElem_cons_zero]
            (try dsimp only at hSw)
            go_simp
            first | done | (with_reducible rfl)
          simp only [List.getElem_toArray, List.getElem_cons_succ, List.getElem_cons_zero, Act.put, List.setIfInBounds_toArray, List.set_cons_zero, List.set_cons_succ]
          refine wpAnyH_take (i := 2) (v := ?_) rfl (by kernel_rfl) (by kernel_rfl) (by kernel_rfl) (fun _ _ _ h => h) (Or.inl ⟨by rfl, ?_⟩) (by assumption) ?_
          rotate_left
          · intro w hSw
            simp only [List.getElem_toArray, List.getElem_cons_succ, List.getElem_cons_zero]
            (try dsimp only at hSw)
            go_simp
            first | done | (with_reducible rfl)
          simp only [List.getElem_toArray, List.getElem_cons_succ, List.getElem_cons_zero, Act.put, List.setIfInBounds_toArray, List.set_cons_zero, List.set_cons_succ]
          refine wpAnyH_take (i := 3) (v := ?_) rfl (by kernel_rfl) (by kernel_rfl) (by kernel_rfl) (fun _ _ _ h => h) (Or.inl ⟨by rfl, ?_⟩) (by assumption) ?_
          rotate_left
          · intro w hSw
            simp only [List.getElem_toArray, List.getElem_cons_succ, List.getElem_cons_zero]
            (try dsimp only at hSw)
            go_simp
            first | done | (with_reducible rfl)
          simp only [List.getElem_toArray, List.getElem_cons_succ, List.getElem_cons_zero, Act.put, List.setIfInBounds_toArray, List.set_cons_zero, List.set_cons_succ]
          refine wpAnyH_take (i := 4) (v := ?_) rfl (by kernel_rfl) (by kernel_rfl) (by kernel_rfl) (fun _ _ _ h => h) (Or.inl ⟨by rfl, ?_⟩) (by assumption) ?_
          rotate_left
          · intro w hSw
            simp only [List.getElem_toArray, List.getElem_cons_succ, List.getElem_cons_zero]
            (try dsimp only at hSw)
            go_simp
            first | done | (with_reducible rfl)
          simp only [List.getElem_toArray, List.getElem_cons_succ, List.getElem_cons_zero, Act.put, List.setIfInBounds_toArray, List.set_cons_zero, List.set_cons_succ]
          refine wpAnyH_take (i := 5) (v := ?_) rfl (by kernel_rfl) (by kernel_rfl) (by kernel_rfl) (fun _ _ _ h => h) (Or.inl ⟨by rfl, ?_⟩) (by assumption) ?_
          rotate_left
          · intro w hSw
            simp only [List.getElem_toArray, List.getElem_cons_succ, List.getElem_cons_zero]
            (try dsimp only at hSw)
            go_simp
            first | done | (with_reducible rfl)
          simp only [List.getElem_toArray, List.getElem_cons_succ, List.getElem_cons_zero, Act.put, List.setIfInBounds_toArray, List.set_cons_zero, List.set_cons_succ]
          refine wpAnyH_take (i := 6) (v := ?_) rfl (by kernel_rfl) (by kernel_rfl) (by kernel_rfl) (fun _ _ _ h => h) (Or.inl ⟨by rfl, ?_⟩) (by assumption) ?_
          rotate_left
          · intro w hSw
            simp only [List.getElem_toArray, List.getElem_cons_succ, List.getElem_cons_zero]
            (try dsimp only at hSw)
            go_simp
            first | done | (with_reducible rfl)
          simp only [List.getElem_toArray, List.getElem_cons_succ, List.getElem_cons_zero, Act.put, List.setIfInBounds_toArray, List.set_cons_zero, List.set_cons_succ]
          refine wpAnyH_take (i := 7) (v := ?_) rfl (by kernel_rfl) (by kernel_rfl) (by kernel_rfl) (fun _ _ _ h => h) (Or.inl ⟨by rfl, ?_⟩) (by assumption) ?_
          rotate_left
          · intro w hSw
            simp only [List.getElem_toArray, List.getElem_cons_succ, List.getElem_cons_zero]
            (try dsimp only at hSw)
            go_simp
            first | done | (with_reducible rfl)
          simp only [List.getElem_toArray, List.getElem_cons_succ, List.getElem_cons_zero, Act.put, List.setIfInBounds_toArray, List.set_cons_zero, List.set_cons_succ]
          refine wpAnyH_take (i := 8) (v := ?_) rfl (by kernel_rfl) (by kernel_rfl) (by kernel_rfl) (fun _ _ _ h => h) (Or.inl ⟨by rfl, ?_⟩) (by assumption) ?_
          rotate_left
          · intro w hSw
            simp only [List.getElem_toArray, List.getElem_cons_succ, List.getElem_cons_zero]
            (try dsimp only at hSw)
            go_simp
            first | done | (with_reducible rfl)
          simp only [List.getElem_toArray, List.getElem_cons_succ, List.getElem_cons_zero, Act.put, List.setIfInBounds_toArray, List.set_cons_zero, List.set_cons_succ]
          refine wpAnyH_done (by kernel_rfl) ?_ _
          go_wp2_with fail
          go_roundw
          case rel => exact ⟨k + 1, by omega, by go_num, HBn.out⟩
          case measure => simp [intOf]; omega
        · clear hzk
          go_wp2_with fail
          go_loopw [14] (fun iv wq => ∃ k : Nat, 1 ≤ k ∧ (k ≤ L1.length ∨ k = 1) ∧ iv = .int .i64 k ∧ Hid (Below w14.heap.size w14 wq)) (fun iv _ => L1.length - (intOf iv).toNat)
          case atStart => exact ⟨1, Nat.le_refl _, .inr rfl, rfl, HBk.out⟩
          case round =>
            replace HBk := HBk
            obtain ⟨k, hk1, hk2, rfl, HBk⟩ := hrel
            have hzk := HBk.out.size
            by_cases hkl : (k : Int) < (L1.length : Int)
            · have hxk : L1[k]? = some L1[k] := List.getElem?_eq_getElem (by omega)
              generalize L1[k] = x at hxk
              obtain ⟨hfp, hxr, hany⟩ := order_preds HLr.out hk1 hxk
              have HFP := Lib.hid hfp
              have HXR := Lib.hid hxr
              obtain ⟨_, A4, c4, he4, hx4⟩ := (HL.out.below HBk.out fun k hk => (HL.out.lt k hk).2).ri
              injection he4 with e1 _ e2
              subst e1
              subst e2
              obtain ⟨b4, off4, ha4, hc4⟩ := hx4 (by intro h; rw [h] at hxk; simp at hxk)
              subst ha4
              have p4 := hc4 k _ hxk
              have hl4 := World.block_lt_of_cell? wr ⟨b4, off4 + k, none⟩ p4
              clear hc4 hx4
              have hk0 : 0 ≤ (k : Int) := by omega
              have hkc : (k : Int) ≤ (cL : Int) := by have := HLc.out; omega
              have HF9 := Lib.hid (HF.out.old (HBk.out.mono (by omega)))
              have hq := kept_row HQF.out HBk.out
              have HKS : Hid (∀ w' : World, Below wr.heap.size wr w' → (fun w' => w'.cell? ⟨qf, 0, none⟩ = some (.int .i64 fd.params) ∧ w'.cell? ⟨qf, 1, none⟩ = some (.int .i64 fd.names) ∧ w'.cell? ⟨qf, 2, none⟩ = some (.slice A fd.blocks.length c) ∧ w'.cell? ⟨b4, off4 + k, none⟩ = some (.int .i64 x)) w') := fun w' hb => by
                have f := kept_row hq hb
                exact ⟨cell_of_row w' _ 0 _ _ (0, 0) f, cell_of_row w' _ 1 _ _ (0, 0) f, cell_of_row w' _ 2 _ _ (0, 0) f, (hb.cell (p := ⟨b4, off4 + k, none⟩) hl4).trans p4⟩
              have HD0 : Hid (Below wr.heap.size wr wr.drew) := (Below.refl _ _).drew
              have HAN : Hid ((predsF fd x).any (fun p => hasB (L1.take k) p) = true) := hany
              clear hq hfp hxr hxk hany
              go_upto_region 28 with fail
              refine wp_region_held_drew (S := (fun w' => w'.cell? ⟨qf, 0, none⟩ = some (.int .i64 fd.params) ∧ w'.cell? ⟨qf, 1, none⟩ = some (.int .i64 fd.names) ∧ w'.cell? ⟨qf, 2, none⟩ = some (.slice A fd.blocks.length c) ∧ w'.cell? ⟨b4, off4 + k, none⟩ = some (.int .i64 x))) (by kernel_rfl) ?_ (fun hHeld => ?_)
              · (try dsimp only)
                (first | exact HKS.out _ HD0.out | exact HKS.out _ HDp.out)
              refine wpAnyH_take (i := 0) (v := ?_) rfl (by kernel_rfl) (by kernel_rfl) (by kernel_rfl) (fun _ _ _ h => h) (Or.inl ⟨by rfl, ?_⟩) (by assumption) ?_
              rotate_left
              · intro w hSw
                simp only [List.getElem_toArray, List.getElem_cons_zero]
                (try dsimp only at hSw)
                go_simp
                first | done | (with_reducible rfl)
              simp only [List.getElem_toArray, List.getElem_cons_zero, Act.put, List.setIfInBounds_toArray, List.set_cons_zero, List.set_cons_succ]
              refine wpAnyH_take (i := 1) (v := ?_) rfl (by kernel_rfl) (by kernel_rfl) (by kernel_rfl) (fun _ _ _ h => h) (Or.inl ⟨by rfl, ?_⟩) (by assumption) ?_
              rotate_left
              · intro w hSw
                simp only [List.getElem_toArray, List.getElem_cons_succ, List.getElem_cons_zero]
                (try dsimp only at hSw)
                go_simp
                first | done | (with_reducible rfl)
              simp only [List.getElem_toArray, List.getElem_cons_succ, List.getElem_cons_zero, Act.put, List.setIfInBounds_toArray, List.set_cons_zero, List.set_cons_succ]
              refine wpAnyH_take (i := 2) (v := ?_) rfl (by kernel_rfl) (by kernel_rfl) (by kernel_rfl) (fun _ _ _ h => h) (Or.inl ⟨by rfl, ?_⟩) (by assumption) ?_
              rotate_left
              · intro w hSw
                simp only [List.getElem_toArray, List.getElem_cons_succ, List.getElem_cons_zero]
                (try dsimp only at hSw)
                go_simp
                first | done | (with_reducible rfl)
              simp only [List.getElem_toArray, List.getElem_cons_succ, List.getElem_cons_zero, Act.put, List.setIfInBounds_toArray, List.set_cons_zero, List.set_cons_succ]
              refine wpAnyH_take (i := 3) (v := ?_) rfl (by kernel_rfl) (by kernel_rfl) (by kernel_rfl) (fun _ _ _ h => h) (Or.inl ⟨by rfl, ?_⟩) (by assumption) ?_
              rotate_left
              · intro w hSw
                simp only [List.getElem_toArray, List.getElem_cons_succ, List.getElem_cons_zero]
                (try dsimp only at hSw)
                go_simp
                first | done | (with_reducible rfl)
              simp only [List.getElem_toArray, List.getElem_cons_succ, List.getElem_cons_zero, Act.put, List.setIfInBounds_toArray, List.set_cons_zero, List.set_cons_succ]
              refine wpAnyH_take (i := 4) (v := ?_) rfl (by kernel_rfl) (by kernel_rfl) (by kernel_rfl) (fun _ _ _ h => h) (Or.inl ⟨by rfl, ?_⟩) (by assumption) ?_
              rotate_left
              · intro w hSw
                simp only [List.getElem_toArray, List.getElem_cons_succ, List.getElem_cons_zero]
                (try dsimp only at hSw)
                go_simp
                first | done | (with_reducible rfl)
              simp only [List.getElem_toArray, List.getElem_cons_succ, List.getElem_cons_zero, Act.put, List.setIfInBounds_toArray, List.set_cons_zero, List.set_cons_succ]
              refine wpAnyH_ready (rs := [5]) (by kernel_rfl) (by simp) ?_
              refine AllReadyH.cons rfl (fun K hK => ?_) AllReadyH.nil
              simp only [List.getElem_toArray, List.getElem_cons_succ, List.getElem_cons_zero]
              go_simp
              (first | (go_at_call 18; refine (sPredsOf_any fd _ x _ _ (HF9.out.old (HD0.out.mono (by omega))) (fun b hb => by have h1 := hb.2; have h2 := HD0.out.size; omega) (by omega)).mono ?_; rintro e w20 ⟨ps, vp, rfl, hx, hr, hb⟩; have e1 := preds_of HFP.out HXR.out hx; rw [← e1] at HAN; have HDp : Hid (Below wr.heap.size wr w20) := HD0.out.trans (hb.mono HD0.out.size); have HP := Lib.hid hr; obtain ⟨hpl, AP, cP, rfl, _⟩ := hr.ri; clear hx hr hb e1) | fail)
              go_wp2_with fail
              refine hK.out _ _ ?_ (fun hHeld => ?_)
              · (try dsimp only)
                (first | exact HKS.out _ HD0.out | exact HKS.out _ HDp.out)
              clear hK K
              (try simp only [List.getElem_toArray, List.getElem_cons_succ, List.getElem_cons_zero, Act.put, List.setIfInBounds_toArray, List.set_cons_zero, List.set_cons_succ])
              refine wpAnyH_take (i := 6) (v := ?_) rfl (by kernel_rfl) (by kernel_rfl) (by kernel_rfl) (fun _ _ _ h => h) (Or.inl ⟨by rfl, ?_⟩) (by assumption) ?_
              rotate_left
              · intro w hSw
                simp only [List.getElem_toArray, List.getElem_cons_succ, List.getElem_cons_zero]
                (try dsimp only at hSw)
                go_simp
                first | done | (with_reducible rfl)
              simp only [List.getElem_toArray, List.getElem_cons_succ, List.getElem_cons_zero, Act.put, List.setIfInBounds_toArray, List.set_cons_zero, List.set_cons_succ]
              refine wpAnyH_done (by kernel_rfl) ?_ _
              have HB20 : Hid (Below w14.heap.size w14 w20) := HBk.out.trans (HDp.out.mono hzk)
              have hz20 := HDp.out.size
              have HL20 := Lib.hid (HL.out.below HB20.out fun k hk => (HL.out.lt k hk).2)
              clear HKS HD0 HDp p4 HF9
              go_wp2_with fail
              go_loopw [16, 17] (fun sv kv wq => ∃ m : Nat, m ≤ ps.length ∧ kv = .int .i64 m ∧ sv = .bool ((ps.take m).any fun p => hasB (L1.take k) p) ∧ Hid (Below w20.heap.size w20 wq)) (fun _ kv _ => ps.length - (intOf kv).toNat)
              case atStart => exact ⟨0, Nat.zero_le _, rfl, by simp, Below.refl _ _⟩
              case round =>
                obtain ⟨m, hm, rfl, rfl, HBm⟩ := hrel
                have hzm := HBm.out.size
                by_cases hml : (m : Int) < (ps.length : Int)
                · have hpm : ps[m]? = some ps[m] := List.getElem?_eq_getElem (by omega)
                  generalize ps[m] = p at hpm
                  obtain ⟨_, A7, c7, he7, hx7⟩ := (HP.out.below HBm.out fun k hk => (HP.out.lt k hk).2).ri
                  injection he7 with e1 _ e2
                  subst e1
                  subst e2
                  obtain ⟨b7, off7, ha7, hc7⟩ := hx7 (by intro h; rw [h] at hpm; simp at hpm)
                  subst ha7
                  have p7 := hc7 m _ hpm
                  have hl7 := World.block_lt_of_cell? wr ⟨b7, off7 + m, none⟩ p7
                  have hm0 : 0 ≤ (m : Int) := by omega
                  have HSN := Lib.hid (any_snoc (f := fun p => hasB (L1.take k) p) hpm)
                  have HBn : Hid (Below w20.heap.size w20 wr.drew) := HBm.out.drew
                  have HLt : Hid (∀ {w' : World}, Below wr.heap.size wr w' → RI w' (.slice (some ⟨b4, off4, none⟩) k cL) (L1.take k)) := fun {w'} hb => RI.take ((HL20.out.below (HBm.out.trans (hb.mono hzm)) fun k hk => (HL20.out.lt k hk).2).ri) (by omega)
                  clear hc7 hx7 hpm
                  cases hany : ((ps.take m).any fun p => hasB (L1.take k) p)
                  · rw [hany] at HSN
                    have HKS : Hid (∀ w' : World, Below wr.heap.size wr w' → (fun w' => w'.cell? ⟨b7, off7 + m, none⟩ = some (.int .i64 p)) w') := fun w' hb => (hb.cell (p := ⟨b7, off7 + m, none⟩) hl7).trans p7
                    have HD0 : Hid (Below wr.heap.size wr wr.drew) := (Below.refl _ _).drew
                    go_upto_region 33 with fail
                    refine wp_region_held_drew (S := (fun w' => w'.cell? ⟨b7, off7 + m, none⟩ = some (.int .i64 p))) (by kernel_rfl) ?_ (fun hHeld => ?_)
                    · (try dsimp only)
                      (first | exact HKS.out _ HD0.out)
                    refine wpAnyH_take (i := 0) (v := ?_) rfl (by kernel_rfl) (by kernel_rfl) (by kernel_rfl) (fun _ _ _ h => h) (Or.inl ⟨by rfl, ?_⟩) (by assumption) ?_
                    rotate_left
                    · intro w hSw
                      simp only [List.getElem_toArray, List.getElem_cons_zero]
                      (try dsimp only at hSw)
                      go_simp
                      first | done | (with_reducible rfl)
                    simp only [List.getElem_toArray, List.getElem_cons_zero, Act.put, List.setIfInBounds_toArray, List.set_cons_zero, List.set_cons_succ]
                    refine wpAnyH_take (i := 1) (v := ?_) rfl (by kernel_rfl) (by kernel_rfl) (by kernel_rfl) (fun _ _ _ h => h) (Or.inl ⟨by rfl, ?_⟩) (by assumption) ?_
                    rotate_left
                    · intro w hSw
                      simp only [List.getElem_toArray, List.getElem_cons_succ, List.getElem_cons_zero]
                      (try dsimp only at hSw)
                      go_simp
                      first | done | (with_reducible rfl)
                    simp only [List.getElem_toArray, List.getElem_cons_succ, List.getElem_cons_zero, Act.put, List.setIfInBounds_toArray, List.set_cons_zero, List.set_cons_succ]
                    refine wpAnyH_take (i := 2) (v := ?_) rfl (by kernel_rfl) (by kernel_rfl) (by kernel_rfl) (fun _ _ _ h => h) (Or.inl ⟨by rfl, ?_⟩) (by assumption) ?_
                    rotate_left
                    · intro w hSw
                      simp only [List.getElem_toArray, List.getElem_cons_succ, List.getElem_cons_zero]
                      (try dsimp only at hSw)
                      go_simp
                      first | done | (with_reducible rfl)
                    simp only [List.getElem_toArray, List.getElem_cons_succ, List.getElem_cons_zero, Act.put, List.setIfInBounds_toArray, List.set_cons_zero, List.set_cons_succ]
                    refine wpAnyH_take (i := 3) (v := ?_) rfl (by kernel_rfl) (by kernel_rfl) (by kernel_rfl) (fun _ _ _ h => h) (Or.inl ⟨by rfl, ?_⟩) (by assumption) ?_
                    rotate_left
                    · intro w hSw
                      simp only [List.getElem_toArray, List.getElem_cons_succ, List.getElem_cons_zero]
                      (try dsimp only at hSw)
                      go_simp
                      first | done | (with_reducible rfl)
                    simp only [List.getElem_toArray, List.getElem_cons_succ, List.getElem_cons_zero, Act.put, List.setIfInBounds_toArray, List.set_cons_zero, List.set_cons_succ]
                    refine wpAnyH_take (i := 4) (v := ?_) rfl (by kernel_rfl) (by kernel_rfl) (by kernel_rfl) (fun _ _ _ h => h) (Or.inl ⟨by rfl, ?_⟩) (by assumption) ?_
                    rotate_left
                    · intro w hSw
                      simp only [List.getElem_toArray, List.getElem_cons_succ, List.getElem_cons_zero]
                      (try dsimp only at hSw)
                      go_simp
                      first | done | (with_reducible rfl)
                    simp only [List.getElem_toArray, List.getElem_cons_succ, List.getElem_cons_zero, Act.put, List.setIfInBounds_toArray, List.set_cons_zero, List.set_cons_succ]
                    refine wpAnyH_take (i := 5) (v := ?_) rfl (by kernel_rfl) (by kernel_rfl) (by kernel_rfl) (fun _ _ _ h => h) (Or.inl ⟨by rfl, ?_⟩) (by assumption) ?_
                    rotate_left
                    · intro w hSw
                      simp only [List.getElem_toArray, List.getElem_cons_succ, List.getElem_cons_zero]
                      (try dsimp only at hSw)
                      go_simp
                      first | done | (with_reducible rfl)
                    simp only [List.getElem_toArray, List.getElem_cons_succ, List.getElem_cons_zero, Act.put, List.setIfInBounds_toArray, List.set_cons_zero, List.set_cons_succ]
                    refine wpAnyH_take (i := 6) (v := ?_) rfl (by kernel_rfl) (by kernel_rfl) (by kernel_rfl) (fun _ _ _ h => h) (Or.inl ⟨by rfl, ?_⟩) (by assumption) ?_
                    rotate_left
                    · intro w hSw
                      simp only [List.getElem_toArray, List.getElem_cons_succ, List.getElem_cons_zero]
                      (try dsimp only at hSw)
                      go_simp
                      first | done | (with_reducible rfl)
                    simp only [List.getElem_toArray, List.getElem_cons_succ, List.getElem_cons_zero, Act.put, List.setIfInBounds_toArray, List.set_cons_zero, List.set_cons_succ]
                    refine wpAnyH_take (i := 7) (v := ?_) rfl (by kernel_rfl) (by kernel_rfl) (by kernel_rfl) (fun _ _ _ h => h) (Or.inl ⟨by rfl, ?_⟩) (by assumption) ?_
                    rotate_left
                    · intro w hSw
                      simp only [List.getElem_toArray, List.getElem_cons_succ, List.getElem_cons_zero]
                      (try dsimp only at hSw)
                      go_simp
                      first | done | (with_reducible rfl)
                    simp only [List.getElem_toArray, List.getElem_cons_succ, List.getElem_cons_zero, Act.put, List.setIfInBounds_toArray, List.set_cons_zero, List.set_cons_succ]
                    refine wpAnyH_take (i := 8) (v := ?_) rfl (by kernel_rfl) (by kernel_rfl) (by kernel_rfl) (fun _ _ _ h => h) (Or.inl ⟨by rfl, ?_⟩) (by assumption) ?_
                    rotate_left
                    · intro w hSw
                      simp only [List.getElem_toArray, List.getElem_cons_succ, List.getElem_cons_zero]
                      (try dsimp only at hSw)
                      go_simp
                      first | done | (with_reducible rfl)
                    simp only [List.getElem_toArray, List.getElem_cons_succ, List.getElem_cons_zero, Act.put, List.setIfInBounds_toArray, List.set_cons_zero, List.set_cons_succ]
                    refine wpAnyH_ready (rs := [9]) (by kernel_rfl) (by simp) ?_
                    refine AllReadyH.cons rfl (fun K hK => ?_) AllReadyH.nil
                    simp only [List.getElem_toArray, List.getElem_cons_succ, List.getElem_cons_zero]
                    go_simp
                    (first | (go_at_call 19; refine (has_any _ _ _ _ (HLt.out HD0.out)).mono ?_; rintro e w' ⟨rfl, rfl⟩) | fail)
                    go_wp2_with fail
                    refine hK.out _ _ ?_ (fun hHeld => ?_)
                    · (try dsimp only)
                      (first | exact HKS.out _ HD0.out)
                    clear hK K
                    (try simp only [List.getElem_toArray, List.getElem_cons_succ, List.getElem_cons_zero, Act.put, List.setIfInBounds_toArray, List.set_cons_zero, List.set_cons_succ])
                    refine wpAnyH_take (i := 10) (v := ?_) rfl (by kernel_rfl) (by kernel_rfl) (by kernel_rfl) (fun _ _ _ h => h) (Or.inl ⟨by rfl, ?_⟩) (by assumption) ?_
                    rotate_left
                    · intro w hSw
                      simp only [List.getElem_toArray, List.getElem_cons_succ, List.getElem_cons_zero]
                      (try dsimp only at hSw)
                      go_simp
                      first | done | (with_reducible rfl)
                    simp only [List.getElem_toArray, List.getElem_cons_succ, List.getElem_cons_zero, Act.put, List.setIfInBounds_toArray, List.set_cons_zero, List.set_cons_succ]
                    refine wpAnyH_take (i := 11) (v := ?_) rfl (by kernel_rfl) (by kernel_rfl) (by kernel_rfl) (fun _ _ _ h => h) (Or.inl ⟨by rfl, ?_⟩) (by assumption) ?_
                    rotate_left
                    · intro w hSw
                      simp only [List.getElem_toArray, List.getElem_cons_succ, List.getElem_cons_zero]
                      (try dsimp only at hSw)
                      go_simp
                      first | done | (with_reducible rfl)
                    simp only [List.getElem_toArray, List.getElem_cons_succ, List.getElem_cons_zero, Act.put, List.setIfInBounds_toArray, List.set_cons_zero, List.set_cons_succ]
                    refine wpAnyH_done (by kernel_rfl) ?_ _
                    rw [Bool.false_or] at HSN
                    go_wp2_with fail
                    go_roundw
                    case rel => exact ⟨m + 1, by omega, by go_num, by rw [HSN.out], HBn.out⟩
                    case measure => simp [intOf]; omega
                  · rw [hany] at HSN
                    have HKS : Hid (∀ w' : World, Below wr.heap.size wr w' → (fun w' => w'.cell? ⟨b7, off7 + m, none⟩ = some (.int .i64 p)) w') := fun w' hb => (hb.cell (p := ⟨b7, off7 + m, none⟩) hl7).trans p7
                    have HD0 : Hid (Below wr.heap.size wr wr.drew) := (Below.refl _ _).drew
                    go_upto_region 33 with fail
                    refine wp_region_held_drew (S := (fun w' => w'.cell? ⟨b7, off7 + m, none⟩ = some (.int .i64 p))) (by kernel_rfl) ?_ (fun hHeld => ?_)
                    · (try dsimp only)
                      (first | exact HKS.out _ HD0.out)
                    refine wpAnyH_take (i := 0) (v := ?_) rfl (by kernel_rfl) (by kernel_rfl) (by kernel_rfl) (fun _ _ _ h => h) (Or.inl ⟨by rfl, ?_⟩) (by assumption) ?_
                    rotate_left
                    · intro w hSw
                      simp only [List.getElem_toArray, List.getElem_cons_zero]
                      (try dsimp only at hSw)
                      go_simp
                      first | done | (with_reducible rfl)
                    simp only [List.getElem_toArray, List.getElem_cons_zero, Act.put, List.setIfInBounds_toArray, List.set_cons_zero, List.set_cons_succ]
                    refine wpAnyH_take (i := 1) (v := ?_) rfl (by kernel_rfl) (by kernel_rfl) (by kernel_rfl) (fun _ _ _ h => h) (Or.inl ⟨by rfl, ?_⟩) (by assumption) ?_
                    rotate_left
                    · intro w hSw
                      simp only [List.getElem_toArray, List.getElem_cons_succ, List.getElem_cons_zero]
                      (try dsimp only at hSw)
                      go_simp
                      first | done | (with_reducible rfl)
                    simp only [List.getElem_toArray, List.getElem_cons_succ, List.getElem_cons_zero, Act.put, List.setIfInBounds_toArray, List.set_cons_zero, List.set_cons_succ]
                    refine wpAnyH_take (i := 2) (v := undef) rfl (by kernel_rfl) (by kernel_rfl) (by kernel_rfl) (fun _ _ _ h => h) (Or.inr ⟨by rfl, rfl⟩) (by assumption) ?_
                    simp only [List.getElem_toArray, List.getElem_cons_succ, List.getElem_cons_zero, Act.put, List.setIfInBounds_toArray, List.set_cons_zero, List.set_cons_succ]
                    refine wpAnyH_take (i := 3) (v := undef) rfl (by kernel_rfl) (by kernel_rfl) (by kernel_rfl) (fun _ _ _ h => h) (Or.inr ⟨by rfl, rfl⟩) (by assumption) ?_
                    simp only [List.getElem_toArray, List.getElem_cons_succ, List.getElem_cons_zero, Act.put, List.setIfInBounds_toArray, List.set_cons_zero, List.set_cons_succ]
                    refine wpAnyH_take (i := 4) (v := undef) rfl (by kernel_rfl) (by kernel_rfl) (by kernel_rfl) (fun _ _ _ h => h) (Or.inr ⟨by rfl, rfl⟩) (by assumption) ?_
                    simp only [List.getElem_toArray, List.getElem_cons_succ, List.getElem_cons_zero, Act.put, List.setIfInBounds_toArray, List.set_cons_zero, List.set_cons_succ]
                    refine wpAnyH_take (i := 5) (v := undef) rfl (by kernel_rfl) (by kernel_rfl) (by kernel_rfl) (fun _ _ _ h => h) (Or.inr ⟨by rfl, rfl⟩) (by assumption) ?_
                    simp only [List.getElem_toArray, List.getElem_cons_succ, List.getElem_cons_zero, Act.put, List.setIfInBounds_toArray, List.set_cons_zero, List.set_cons_succ]
                    refine wpAnyH_take (i := 6) (v := undef) rfl (by kernel_rfl) (by kernel_rfl) (by kernel_rfl) (fun _ _ _ h => h) (Or.inr ⟨by rfl, rfl⟩) (by assumption) ?_
                    simp only [List.getElem_toArray, List.getElem_cons_succ, List.getElem_cons_zero, Act.put, List.setIfInBounds_toArray, List.set_cons_zero, List.set_cons_succ]
                    refine wpAnyH_take (i := 7) (v := undef) rfl (by kernel_rfl) (by kernel_rfl) (by kernel_rfl) (fun _ _ _ h => h) (Or.inr ⟨by rfl, rfl⟩) (by assumption) ?_
                    simp only [List.getElem_toArray, List.getElem_cons_succ, List.getElem_cons_zero, Act.put, List.setIfInBounds_toArray, List.set_cons_zero, List.set_cons_succ]
                    refine wpAnyH_take (i := 8) (v := undef) rfl (by kernel_rfl) (by kernel_rfl) (by kernel_rfl) (fun _ _ _ h => h) (Or.inr ⟨by rfl, rfl⟩) (by assumption) ?_
                    simp only [List.getElem_toArray, List.getElem_cons_succ, List.getElem_cons_zero, Act.put, List.setIfInBounds_toArray, List.set_cons_zero, List.set_cons_succ]
                    refine wpAnyH_take (i := 9) (v := undef) rfl (by kernel_rfl) (by kernel_rfl) (by kernel_rfl) (fun _ _ _ h => h) (Or.inr ⟨by rfl, rfl⟩) (by assumption) ?_
                    simp only [List.getElem_toArray, List.getElem_cons_succ, List.getElem_cons_zero, Act.put, List.setIfInBounds_toArray, List.set_cons_zero, List.set_cons_succ]
                    refine wpAnyH_take (i := 10) (v := ?_) rfl (by kernel_rfl) (by kernel_rfl) (by kernel_rfl) (fun _ _ _ h => h) (Or.inl ⟨by rfl, ?_⟩) (by assumption) ?_
                    rotate_left
                    · intro w hSw
                      simp only [List.getElem_toArray, List.getElem_cons_succ, List.getElem_cons_zero]
                      (try dsimp only at hSw)
                      go_simp
                      first | done | (with_reducible rfl)
                    simp only [List.getElem_toArray, List.getElem_cons_succ, List.getElem_cons_zero, Act.put, List.setIfInBounds_toArray, List.set_cons_zero, List.set_cons_succ]
                    refine wpAnyH_take (i := 11) (v := ?_) rfl (by kernel_rfl) (by kernel_rfl) (by kernel_rfl) (fun _ _ _ h => h) (Or.inl ⟨by rfl, ?_⟩) (by assumption) ?_
                    rotate_left
                    · intro w hSw
                      simp only [List.getElem_toArray, List.getElem_cons_succ, List.getElem_cons_zero]
                      (try dsimp only at hSw)
                      go_simp
                      first | done | (with_reducible rfl)
                    simp only [List.getElem_toArray, List.getElem_cons_succ, List.getElem_cons_zero, Act.put, List.setIfInBounds_toArray, List.set_cons_zero, List.set_cons_succ]
                    refine wpAnyH_done (by kernel_rfl) ?_ _
                    rw [Bool.true_or] at HSN
                    go_wp2_with fail
                    go_roundw
                    case rel => exact ⟨m + 1, by omega, by go_num, by rw [HSN.out], HBn.out⟩
                    case measure => simp [intOf]; omega
                · obtain rfl : m = ps.length := by omega
                  rw [List.take_length, HAN.out]
                  have HBn : Hid (Below w14.heap.size w14 wr) := HB20.out.trans (HBm.out.mono (by omega))
                  go_wp2_with fail
                  go_roundw
                  case rel => exact ⟨k + 1, by omega, by omega, by go_num, HBn.out⟩
                  case measure => simp [intOf]; omega
            · clear hzk
              have hLk := HL.out.below HBk.out fun k hk => (HL.out.lt k hk).2
              rcases HOR.out.2.2 with rfl | ⟨T, rfl⟩
              · simp only [List.length_nil] at *
                go_wp2_with fail
                go_ret
                exact ⟨rfl, HB.out.trans (HBk.out.mono HB.out.size)⟩
              · obtain ⟨_, A4, c4, he4, hx4⟩ := hLk.ri
                injection he4 with e1 _ e2
                subst e1
                subst e2
                obtain ⟨b4, off4, ha4, hc4⟩ := hx4 (by simp)
                subst ha4
                have p4 := hc4 0 0 rfl
                rw [Nat.add_zero] at p4
                have hl0 : (((0 :: T).length : Int) == 0) = false := by first | (simp; done) | (simp; omega)
                have hl1 : (0 : Int) < ((0 :: T).length : Int) := by first | (simp; done) | (simp; omega)
                generalize hTl : (0 :: T).length = tl at *
                clear hc4 hx4
                go_wp2_with fail
                go_ret
                exact ⟨rfl, HB.out.trans (HBk.out.mono HB.out.size)⟩
end

end Go.Proofs.Yteikpekffgifoaa
