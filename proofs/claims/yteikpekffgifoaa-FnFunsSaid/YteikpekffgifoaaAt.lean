/- l2DrawAt, DrawPredsOf. -/
import Derived.Test.YteikpekffgifoaaTop
namespace Go.Proofs.Yteikpekffgifoaa
open Go.ChangeShapes Go.WideShapes Go.ChangeAt Go.RowKit Go.Joins

def GivesFAt (w : World) (e : Ending) (w' : World) : Prop := ∃ (fd : FunD) (v : Value) (x : Int), e = .returned (.tuple #[v, .int .i64 x]) ∧ EFun w' (Zn.new w.heap.size w'.heap.size) fd v ∧ fd.blocks.length ≤ 7 ∧ Below w.heap.size w w'

theorem set3_cell (w : World) {k q : Nat} (h : k ≠ q) (u0 u1 u2 : Value) (j : Nat) : (((w.setCell ⟨q, 0, none⟩ u0).setCell ⟨q, 1, none⟩ u1).setCell ⟨q, 2, none⟩ u2).cell? ⟨k, j, none⟩ = w.cell? ⟨k, j, none⟩ :=
  World.cell?_of_block (a := ⟨k, j, none⟩) ((Below.heap_setCell _ ⟨q, 2, none⟩ u2 k h).trans ((Below.heap_setCell _ ⟨q, 1, none⟩ u1 k h).trans (Below.heap_setCell w ⟨q, 0, none⟩ u0 k h)))

set_option maxRecDepth 10000 in
set_option maxHeartbeats 2000000 in
theorem l2DrawAt_any (B n : Nat) (v : Value) (w : World) (hv : Code w B v n) (hB : B ≤ w.heap.size) :
    Calls Try.prog 42 #[v] w (GivesFAt w) := by
  have HV := Lib.hid hv
  have hs0 : (w.alloc (.cells #[.int .i64 0, .int .i64 0, .slice none 0 0] 26)).heap.size = w.heap.size + 1 := by simp
  have HR0 := Lib.hid (heap_alloc_new w (.cells #[.int .i64 0, .int .i64 0, .slice none 0 0] 26))
  clear hv
  go_enter Try.func42, Try.ntmps42
  go_wp2_with fail
  refine (l1New_any B n v _ (HV.out.keep fun b o' hb => World.cell?_alloc_lt w _ ⟨b, o', none⟩ (show b < w.heap.size by omega)) (by simp; omega)).mono ?_
  rintro e w1 ⟨rfl, hc1, hg1⟩
  have hd1 := dsta_start (by rw [hs0]; omega) hc1
  have HZ := Lib.hid hg1.size
  have hl1 := cur_lt hc1
  rw [hs0] at hd1 HZ hl1 ⊢
  have HD1 := Lib.hid hd1
  have HG1 := Lib.hid hg1
  clear hc1 hd1 hg1
  go_wp2_with fail
  refine (l2DrawAny_any _ B _ _ HD1.out).mono ?_
  rintro e w2 ⟨L2, fd, v2, rfl, _, hw2, hd2, he, hl⟩
  have hb2 : Below (w.heap.size + 1) (w.alloc (.cells #[.int .i64 0, .int .i64 0, .slice none 0 0] 26)) w2 := by have := below_start HG1.out (by rw [hs0]; exact hw2); rwa [hs0] at this
  have hr2 := (hb2.block w.heap.size (by omega)).trans HR0.out
  have HBW : Hid (Below w.heap.size w w2) := ((Below.refl _ _).alloc (Nat.le_refl _) _).trans (hb2.mono (by omega))
  have hz2 := hw2.size
  have HE := Lib.hid he
  obtain ⟨u, rfl, hu⟩ := he
  obtain ⟨_, A, c, rfl, _⟩ := hu
  have HD3 : Hid (DSta (w2.alloc (.cells #[.int .i64 fd.params, .int .i64 fd.names, .slice A fd.blocks.length c] 26)).drew B (w.heap.size + 1) L2) := (hd2.alloc _).keep (wr_drew _ _) (LExt.refl _ _) (fun h => h) fun h => h
  have HB3 := Lib.hid (heap_alloc_new w2 (.cells #[.int .i64 fd.params, .int .i64 fd.names, .slice A fd.blocks.length c] 26))
  have HR3 : Hid ((w2.alloc (.cells #[.int .i64 fd.params, .int .i64 fd.names, .slice A fd.blocks.length c] 26)).heap[w.heap.size]? = some (.cells #[.int .i64 0, .int .i64 0, .slice none 0 0] 26 (0, 0))) := (Below.heap_alloc w2 _ _ (Array.getElem?_eq_some_iff.1 hr2).1).trans hr2
  have hq : w.heap.size + 1 < w2.heap.size := by omega
  have HK0 : Hid ((fun w' => w'.cell? ⟨w2.heap.size, 0, none⟩ = some (.int .i64 fd.params) ∧ w'.cell? ⟨w2.heap.size, 1, none⟩ = some (.int .i64 fd.names) ∧ w'.cell? ⟨w2.heap.size, 2, none⟩ = some (.slice A fd.blocks.length c)) (w2.alloc (.cells #[.int .i64 fd.params, .int .i64 fd.names, .slice A fd.blocks.length c] 26)).drew) := ⟨cell_of_row _ _ 0 _ _ (0, 0) HB3.out, cell_of_row _ _ 1 _ _ (0, 0) HB3.out, cell_of_row _ _ 2 _ _ (0, 0) HB3.out⟩
  clear hw2 hb2 hr2 hd2
  go_upto_region 3 with fail
  refine wp_region_offL (S := (fun w' => w'.cell? ⟨w2.heap.size, 0, none⟩ = some (.int .i64 fd.params) ∧ w'.cell? ⟨w2.heap.size, 1, none⟩ = some (.int .i64 fd.names) ∧ w'.cell? ⟨w2.heap.size, 2, none⟩ = some (.slice A fd.blocks.length c))) (by simp) (by kernel_rfl) (by kernel_rfl) (by kernel_rfl) (by kernel_rfl) (by kernel_rfl) ?_ (fun hHeld => ?_)
  · (try dsimp only)
    (first | exact HK0.out | exact HK4.out | exact HK5.out)
  simp only [List.dropLast_cons_cons, List.dropLast_singleton, List.length_cons, List.length_nil]
  refine wpAnyH_take (i := 0) (v := ?_) rfl (by kernel_rfl) (by kernel_rfl) (by kernel_rfl) (fun _ _ _ h => h) (Or.inl ⟨by rfl, ?_⟩) (by assumption) ?_
  rotate_left
  · intro w hSw
    simp only [List.getElem_toArray, List.getElem_cons_zero]
    (try dsimp only at hSw)
    go_simp
    first | done | (with_reducible rfl)
  simp only [List.getElem_toArray, List.getElem_cons_zero, Act.put, List.setIfInBounds_toArray, List.set_cons_zero, List.set_cons_succ]
  refine wpAnyH_take (i := 1) (v := ?_) rfl (by kernel_rfl) (by kernel_rfl) (by kernel_rfl) (fun _ _ _ h => h) (Or.inl ⟨by rfl, ?_⟩) (by assumption) ?_
  rotate_left
  · intro w hSw
    simp only [List.getElem_toArray, List.getElem_cons_succ, List.getElem_cons_zero]
    (try dsimp only at hSw)
    go_simp
    first | done | (with_reducible rfl)
  simp only [List.getElem_toArray, List.getElem_cons_succ, List.getElem_cons_zero, Act.put, List.setIfInBounds_toArray, List.set_cons_zero, List.set_cons_succ]
  refine wpAnyH_take (i := 2) (v := ?_) rfl (by kernel_rfl) (by kernel_rfl) (by kernel_rfl) (fun _ _ _ h => h) (Or.inl ⟨by rfl, ?_⟩) (by assumption) ?_
  rotate_left
  · intro w hSw
    simp only [List.getElem_toArray, List.getElem_cons_succ, List.getElem_cons_zero]
    (try dsimp only at hSw)
    go_simp
    first | done | (with_reducible rfl)
  simp only [List.getElem_toArray, List.getElem_cons_succ, List.getElem_cons_zero, Act.put, List.setIfInBounds_toArray, List.set_cons_zero, List.set_cons_succ]
  refine wpAnyH_take (i := 3) (v := ?_) rfl (by kernel_rfl) (by kernel_rfl) (by kernel_rfl) (fun _ _ _ h => h) (Or.inl ⟨by rfl, ?_⟩) (by assumption) ?_
  rotate_left
  · intro w hSw
    simp only [List.getElem_toArray, List.getElem_cons_succ, List.getElem_cons_zero]
    (try dsimp only at hSw)
    go_simp
    first | done | (with_reducible rfl)
  simp only [List.getElem_toArray, List.getElem_cons_succ, List.getElem_cons_zero, Act.put, List.setIfInBounds_toArray, List.set_cons_zero, List.set_cons_succ]
  refine wpAnyH_take (i := 4) (v := ?_) rfl (by kernel_rfl) (by kernel_rfl) (by kernel_rfl) (fun _ _ _ h => h) (Or.inl ⟨by rfl, ?_⟩) (by assumption) ?_
  rotate_left
  · intro w hSw
    simp only [List.getElem_toArray, List.getElem_cons_succ, List.getElem_cons_zero]
    (try dsimp only at hSw)
    go_simp
    first | done | (with_reducible rfl)
  simp only [List.getElem_toArray, List.getElem_cons_succ, List.getElem_cons_zero, Act.put, List.setIfInBounds_toArray, List.set_cons_zero, List.set_cons_succ]
  refine wpAnyH_ready (rs := [5]) (by kernel_rfl) (by simp) ?_
  refine AllReadyH.cons rfl (fun K hK => ?_) AllReadyH.nil
  simp only [List.getElem_toArray, List.getElem_cons_succ, List.getElem_cons_zero]
  go_simp
  (first | (go_at_call 37; refine (l1From_any B (w.heap.size + 1) (-1) fd.blocks.length _ HD3.out.cur (by omega) (by omega) (by omega)).mono ?_; rintro e w4 ⟨x, rfl, hx0, hx1, hc4, hg4⟩; have HG4 := Lib.hid hg4; have hb4 := (HG4.out.block w2.heap.size (by show w2.heap.size < (w2.alloc _).heap.size; simp) (by intro e; injection e; omega)).trans HB3.out; have HK4 : Hid ((fun w' => w'.cell? ⟨w2.heap.size, 0, none⟩ = some (.int .i64 fd.params) ∧ w'.cell? ⟨w2.heap.size, 1, none⟩ = some (.int .i64 fd.names) ∧ w'.cell? ⟨w2.heap.size, 2, none⟩ = some (.slice A fd.blocks.length c)) w4) := ⟨cell_of_row w4 _ 0 _ _ (0, 0) hb4, cell_of_row w4 _ 1 _ _ (0, 0) hb4, cell_of_row w4 _ 2 _ _ (0, 0) hb4⟩; have hr4 := (HG4.out.block w.heap.size (by show w.heap.size < (w2.alloc _).heap.size; simp; omega) (by intro e; injection e; omega)).trans HR3.out; have hR0 := cell_of_row w4 w.heap.size 0 _ _ _ hr4; have hR1 := cell_of_row w4 w.heap.size 1 _ _ _ hr4; have hR2 := cell_of_row w4 w.heap.size 2 _ _ _ hr4; have hRf0 := frozen_of_row w4 w.heap.size 0 _ _ hr4; have hRf1 := frozen_of_row w4 w.heap.size 1 _ _ hr4; have hRf2 := frozen_of_row w4 w.heap.size 2 _ _ hr4; have HK5 : Hid ((fun w' => w'.cell? ⟨w2.heap.size, 0, none⟩ = some (.int .i64 fd.params) ∧ w'.cell? ⟨w2.heap.size, 1, none⟩ = some (.int .i64 fd.names) ∧ w'.cell? ⟨w2.heap.size, 2, none⟩ = some (.slice A fd.blocks.length c)) (((w4.setCell ⟨w.heap.size, 0, none⟩ (.int .i64 fd.params)).setCell ⟨w.heap.size, 1, none⟩ (.int .i64 fd.names)).setCell ⟨w.heap.size, 2, none⟩ (.slice A fd.blocks.length c))) := ⟨(set3_cell w4 (by omega) _ _ _ 0).trans HK4.out.1, (set3_cell w4 (by omega) _ _ _ 1).trans HK4.out.2.1, (set3_cell w4 (by omega) _ _ _ 2).trans HK4.out.2.2⟩; clear hg4 hc4 hb4 hr4) | fail)
  go_wp2_with fail
  refine hK.out _ _ ?_ (fun hHeld => ?_)
  · (try dsimp only)
    (first | exact HK0.out | exact HK4.out | exact HK5.out)
  clear hK K
  (try simp only [List.getElem_toArray, List.getElem_cons_succ, List.getElem_cons_zero, Act.put, List.setIfInBounds_toArray, List.set_cons_zero, List.set_cons_succ])
  refine wpAnyH_ready (rs := [6]) (by kernel_rfl) (by simp) ?_
  refine AllReadyH.cons rfl (fun K hK => ?_) AllReadyH.nil
  simp only [List.getElem_toArray, List.getElem_cons_succ, List.getElem_cons_zero]
  go_simp
  refine hK.out _ _ ?_ (fun hHeld => ?_)
  · (try dsimp only)
    (first | exact HK0.out | exact HK4.out | exact HK5.out)
  clear hK K
  (try simp only [List.getElem_toArray, List.getElem_cons_succ, List.getElem_cons_zero, Act.put, List.setIfInBounds_toArray, List.set_cons_zero, List.set_cons_succ])
  refine wpAnyH_done (by kernel_rfl) ?_ _
  refine offQ_last rfl (fun KL hKL => ?_)
  go_simp
  refine hKL.out _ _ ?_
  have HE4 : EFun w4 (Zn.new w1.heap.size w2.heap.size) fd (.agg #[.int .i64 fd.params, .int .i64 fd.names, .slice A fd.blocks.length c]) := HE.out.keep ⟨fun _ hb => hb, fun h => h, fun b hb => (HG4.out.block b (by have := hb.2; show b < (w2.alloc _).heap.size; simp; omega) (by intro e; injection e; have := hb.1; omega)).trans (Below.heap_alloc w2 _ b hb.2)⟩
  have hs4 : w2.heap.size ≤ w4.heap.size := by have := HG4.out.size; have h2 : ((w2.alloc (.cells #[.int .i64 fd.params, .int .i64 fd.names, .slice A fd.blocks.length c] 26)).drew).heap.size = w2.heap.size + 1 := by show (w2.alloc _).heap.size = _; simp
                                               omega
  have HBW4 : Below w.heap.size w w4 := HBW.out.trans ⟨HG4.out.os, HG4.out.tape, HG4.out.output, hs4, fun k hk => (HG4.out.block k (by show k < (w2.alloc _).heap.size; simp; omega) (by intro e; injection e; omega)).trans (Below.heap_alloc w2 _ k (by omega))⟩
  have HO := Lib.hid (gives_set3 HE4 HZ.out hs4 HBW4 (.int .i64 fd.params) (.int .i64 fd.names) (.slice A fd.blocks.length c))
  clear HE4 hs4 HBW4
  go_wp2_with fail
  (try simp only [Exit.inBlock, Exit.then])
  refine bodyPost_ret (v := .tuple #[.agg #[.int .i64 fd.params, .int .i64 fd.names, .slice A fd.blocks.length c], .int .i64 x]) (by simp [results, Try.results42, go_sem, hR0, hR1, hR2]) rfl ?_
  exact ⟨fd, _, x, rfl, HO.out.1, hl, HO.out.2⟩

set_option maxRecDepth 10000 in
set_option maxHeartbeats 2000000 in
theorem DrawPredsOf_any (B n : Nat) (v : Value) (w : World) (hv : Code w B v n) (hB : B ≤ w.heap.size) :
    Calls Try.prog 9 #[v] w (GivesFAt w) := by
  have HV := Lib.hid hv
  have hs0 : (w.alloc (.cells #[.int .i64 0, .int .i64 0, .slice none 0 0] 26)).heap.size = w.heap.size + 1 := by simp
  have HR0 := Lib.hid (heap_alloc_new w (.cells #[.int .i64 0, .int .i64 0, .slice none 0 0] 26))
  clear hv
  go_enter Try.func9, Try.ntmps9
  go_wp2_with fail
  refine (l2DrawAt_any B n v _ (HV.out.keep fun b o' hb => World.cell?_alloc_lt w _ ⟨b, o', none⟩ (show b < w.heap.size by omega)) (by simp; omega)).mono ?_
  rintro e w2 ⟨fd, v2, x, rfl, he, hl, hb2⟩
  rw [hs0] at he hb2
  have HE := Lib.hid he
  obtain ⟨u, rfl, hu⟩ := he
  obtain ⟨_, A, c, rfl, _⟩ := hu
  have hr2 := (hb2.block w.heap.size (by omega)).trans HR0.out
  have HBW : Hid (Below w.heap.size w w2) := ((Below.refl _ _).alloc (Nat.le_refl _) _).trans (hb2.mono (by omega))
  have hR0 := cell_of_row w2 w.heap.size 0 _ _ _ hr2
  have hR1 := cell_of_row w2 w.heap.size 1 _ _ _ hr2
  have hR2 := cell_of_row w2 w.heap.size 2 _ _ _ hr2
  have hRf0 := frozen_of_row w2 w.heap.size 0 _ _ hr2
  have hRf1 := frozen_of_row w2 w.heap.size 1 _ _ hr2
  have hRf2 := frozen_of_row w2 w.heap.size 2 _ _ hr2
  have HO := Lib.hid (gives_set3 HE.out (Nat.lt_succ_self _) (Nat.le_refl _) HBW.out (.int .i64 fd.params) (.int .i64 fd.names) (.slice A fd.blocks.length c))
  clear hb2 hr2
  go_wp2_with fail
  refine bodyPost_ret (v := .tuple #[.agg #[.int .i64 fd.params, .int .i64 fd.names, .slice A fd.blocks.length c], .int .i64 x]) (by simp [results, Try.results9, go_sem, hR0, hR1, hR2]) rfl ?_
  exact ⟨fd, _, x, rfl, HO.out.1, hl, HO.out.2⟩

end Go.Proofs.Yteikpekffgifoaa
