/- Top, At, DomD, Like, joined. -/
import Derived.Test.YteikpekffgifoaaDoorDm1
import Derived.Test.YteikpekffgifoaaDoorDm8
import Derived.Test.YteikpekffgifoaaDoorDm22
namespace Go.Proofs.YteikpekffgifoaaDoor

/- The drawings of functions, each from its own code. -/
section
open Go.ChangeShapes Go.WideShapes Go.ChangeAt Go.RowKit Go.Joins

def GivesCur (B : Nat) (w : World) (e : Ending) (w' : World) : Prop := e = .returned (.pointer (some ⟨w.heap.size, 0, none⟩)) ∧ Cur w' B w.heap.size ∧ w.grownBy w' none

set_option maxHeartbeats 1000000 in
theorem l1New_any (B n : Nat) (v : Value) (w : World) (hv : Code w B v n) (hB : B ≤ w.heap.size) :
    Calls Tryd.prog 31 #[v] w (GivesCur B w) := by
  have HV := Lib.hid hv
  obtain ⟨hn, A, c, rfl, hv⟩ := hv
  have hfin : ∀ (h : Int), GivesCur B w (.returned (.pointer (some ⟨w.heap.size, 0, none⟩))) (w.alloc (.cells #[.slice A n c, .int .i64 0, .int .i64 h] 85)) := fun h =>
    ⟨rfl, ⟨hB, _, n, 0, h, HV.out.keep fun b o' hb => World.cell?_alloc_lt w _ ⟨b, o', none⟩ (show b < w.heap.size by omega), by omega, heap_alloc_new w _⟩, grown_alloc (World.grownBy.refl _ _) _⟩
  have HF := Lib.hid hfin
  clear hfin
  go_enter Tryd.func31, Tryd.ntmps31
  go_wp2
  go_loop [3, 4] (fun q i => ∃ (k : Nat) (h : Int), k ≤ n ∧ i = .int .i64 k ∧ q = .int .i64 h) (fun _ i => n - (intOf i).toNat)
  case atStart => exact ⟨0, _, Nat.zero_le _, rfl, rfl⟩
  case round =>
    obtain ⟨k, h, hk, rfl, rfl⟩ := hrel
    by_cases hlt : k < n
    · obtain ⟨b, off, rfl, hb, hcell⟩ := hv (by omega)
      obtain ⟨u, hu0, hu1, hcu⟩ := hcell k hlt
      clear hv hcell
      go_wp2
      go_round
      case rel => exact ⟨k + 1, _, by omega, by go_num, rfl⟩
      case measure => simp [intOf]; omega
    · obtain rfl : k = n := by omega
      clear hv
      go_wp2
      go_ret
      exact HF.out h

/-- All that was there bears the label 8, all that is new the label 9. -/
def L89 (n : Nat) : Nat → List Nat := relab (fun _ => [8]) n [9]
theorem dsta_start {w w1 : World} {B : Nat} (hB : B ≤ w.heap.size) (hc : Cur w1 B w.heap.size) : DSta w1 B w.heap.size (L89 w.heap.size) := ⟨hc, relab_new _ (Nat.le_refl _), fun k hk => if_pos (by omega)⟩
theorem below_start {w w1 w2 : World} (hg : w.grownBy w1 none) (hw : Wr (fun p => p ≠ [8]) (L89 w.heap.size) w1 w2) : Below w.heap.size w w2 := by
  have h1 : Below w.heap.size w w1 := ⟨hg.os, hg.tape, hg.output, hg.size, fun k hk => hg.block k hk (by simp)⟩
  exact h1.trans (hw.toBelow hg.size fun k hk h => h (if_pos hk))

def GivesF (w : World) (e : Ending) (w' : World) : Prop := ∃ (fd : FunD) (v : Value), e = .returned v ∧ EFun w' (Zn.new w.heap.size w'.heap.size) fd v ∧ fd.blocks.length ≤ 7 ∧ Below w.heap.size w w'

theorem EFun.wider {w : World} {lo lo' hi : Nat} {f : FunD} {v : Value} (h : EFun w (Zn.new lo hi) f v) (hl : lo' ≤ lo) : EFun w (Zn.new lo' hi) f v :=
  h.keep ⟨fun _ hb => ⟨Nat.le_trans hl hb.1, hb.2⟩, fun h => h, fun _ _ => rfl⟩

theorem below_set {B q : Nat} {w w' : World} (h : Below B w w') (hq : B ≤ q) (j : Nat) (u : Value) : Below B w (w'.setCell ⟨q, j, none⟩ u) :=
  ⟨h.os, h.tape, h.output, by simpa using h.size, fun k hk => (Below.heap_setCell w' ⟨q, j, none⟩ u k (by show k ≠ q; omega)).trans (h.block k hk)⟩
theorem EFun.set {w : World} {lo hi q : Nat} {f : FunD} {v : Value} (h : EFun w (Zn.new lo hi) f v) (hq : q < lo) (j : Nat) (u : Value) : EFun (w.setCell ⟨q, j, none⟩ u) (Zn.new lo hi) f v :=
  h.keep ⟨fun _ hb => hb, fun h => h, fun b hb => Below.heap_setCell w ⟨q, j, none⟩ u b (by have := hb.1; show b ≠ q; omega)⟩
theorem EFun.top {w : World} {lo hi hi' : Nat} {f : FunD} {v : Value} (h : EFun w (Zn.new lo hi) f v) (hl : hi ≤ hi') : EFun w (Zn.new lo hi') f v :=
  h.keep ⟨fun _ hb => ⟨hb.1, Nat.lt_of_lt_of_le hb.2 hl⟩, fun h => h, fun _ _ => rfl⟩

/-- What is stored in the result's block behind a drawing. -/
theorem gives_set3 {w w2 : World} {lo hi : Nat} {f : FunD} {v : Value} (h : EFun w2 (Zn.new lo hi) f v) (hlo : w.heap.size < lo) (hhi : hi ≤ w2.heap.size) (hb : Below w.heap.size w w2) (u0 u1 u2 : Value) :
    EFun (((w2.setCell ⟨w.heap.size, 0, none⟩ u0).setCell ⟨w.heap.size, 1, none⟩ u1).setCell ⟨w.heap.size, 2, none⟩ u2) (Zn.new w.heap.size (((w2.setCell ⟨w.heap.size, 0, none⟩ u0).setCell ⟨w.heap.size, 1, none⟩ u1).setCell ⟨w.heap.size, 2, none⟩ u2).heap.size) f v ∧
    Below w.heap.size w (((w2.setCell ⟨w.heap.size, 0, none⟩ u0).setCell ⟨w.heap.size, 1, none⟩ u1).setCell ⟨w.heap.size, 2, none⟩ u2) :=
  ⟨((((h.set hlo 0 u0).set hlo 1 u1).set hlo 2 u2).wider (Nat.le_of_lt hlo)).top (by simpa using hhi), below_set (below_set (below_set hb (Nat.le_refl _) 0 u0) (Nat.le_refl _) 1 u1) (Nat.le_refl _) 2 u2⟩
end

/- l2DrawAt, DrawPredsOf. -/
section
open Go.ChangeShapes Go.WideShapes Go.ChangeAt Go.RowKit Go.Joins

def GivesFAt (w : World) (e : Ending) (w' : World) : Prop := ∃ (fd : FunD) (v : Value) (x : Int), e = .returned (.tuple #[v, .int .i64 x]) ∧ EFun w' (Zn.new w.heap.size w'.heap.size) fd v ∧ fd.blocks.length ≤ 7 ∧ Below w.heap.size w w'

theorem set3_cell (w : World) {k q : Nat} (h : k ≠ q) (u0 u1 u2 : Value) (j : Nat) : (((w.setCell ⟨q, 0, none⟩ u0).setCell ⟨q, 1, none⟩ u1).setCell ⟨q, 2, none⟩ u2).cell? ⟨k, j, none⟩ = w.cell? ⟨k, j, none⟩ :=
  World.cell?_of_block (a := ⟨k, j, none⟩) ((Below.heap_setCell _ ⟨q, 2, none⟩ u2 k h).trans ((Below.heap_setCell _ ⟨q, 1, none⟩ u1 k h).trans (Below.heap_setCell w ⟨q, 0, none⟩ u0 k h)))

set_option maxRecDepth 10000 in
set_option maxHeartbeats 2000000 in
theorem l2DrawAt_any (B n : Nat) (v : Value) (w : World) (hv : Code w B v n) (hB : B ≤ w.heap.size) :
    Calls Tryd.prog 24 #[v] w (GivesFAt w) := by
  have HV := Lib.hid hv
  have hs0 : (w.alloc (.cells #[.int .i64 0, .int .i64 0, .slice none 0 0] 26)).heap.size = w.heap.size + 1 := by simp
  have HR0 := Lib.hid (heap_alloc_new w (.cells #[.int .i64 0, .int .i64 0, .slice none 0 0] 26))
  clear hv
  go_enter Tryd.func24, Tryd.ntmps24
  go_wp2_with fail
  refine (l1New_any B n v _ (HV.out.keep fun b o' hb => World.cell?_alloc_lt w _ ⟨b, o', none⟩ (show b < w.heap.size by omega)) (by simp; omega)).mono ?_
  rintro e w1 ⟨rfl, hc1, hg1⟩
  have hd1 := dsta_start (by rw [hs0]; omega) hc1
  have HZ := Lib.hid hg1.size
  have hl1 := cur_lt hc1
  rw [hs0] at hd1 HZ hl1 ⊢
  have HD1 := Lib.hid hd1
  have HG1 := Lib.hid hg1
  clear hc1 hd1 hg1
  go_wp2_with fail
  refine (l2DrawAny_any _ B _ _ HD1.out).mono ?_
  rintro e w2 ⟨L2, fd, v2, rfl, _, hw2, hd2, he, hl⟩
  have hb2 : Below (w.heap.size + 1) (w.alloc (.cells #[.int .i64 0, .int .i64 0, .slice none 0 0] 26)) w2 := by have := below_start HG1.out (by rw [hs0]; exact hw2); rwa [hs0] at this
  have hr2 := (hb2.block w.heap.size (by omega)).trans HR0.out
  have HBW : Hid (Below w.heap.size w w2) := ((Below.refl _ _).alloc (Nat.le_refl _) _).trans (hb2.mono (by omega))
  have hz2 := hw2.size
  have HE := Lib.hid he
  obtain ⟨u, rfl, hu⟩ := he
  obtain ⟨_, A, c, rfl, _⟩ := hu
  have HD3 : Hid (DSta (w2.alloc (.cells #[.int .i64 fd.params, .int .i64 fd.names, .slice A fd.blocks.length c] 26)).drew B (w.heap.size + 1) L2) := (hd2.alloc _).keep (wr_drew _ _) (LExt.refl _ _) (fun h => h) fun h => h
  have HB3 := Lib.hid (heap_alloc_new w2 (.cells #[.int .i64 fd.params, .int .i64 fd.names, .slice A fd.blocks.length c] 26))
  have HR3 : Hid ((w2.alloc (.cells #[.int .i64 fd.params, .int .i64 fd.names, .slice A fd.blocks.length c] 26)).heap[w.heap.size]? = some (.cells #[.int .i64 0, .int .i64 0, .slice none 0 0] 26 (0, 0))) := (Below.heap_alloc w2 _ _ (Array.getElem?_eq_some_iff.1 hr2).1).trans hr2
  have hq : w.heap.size + 1 < w2.heap.size := by omega
  have HK0 : Hid ((fun w' => w'.cell? ⟨w2.heap.size, 0, none⟩ = some (.int .i64 fd.params) ∧ w'.cell? ⟨w2.heap.size, 1, none⟩ = some (.int .i64 fd.names) ∧ w'.cell? ⟨w2.heap.size, 2, none⟩ = some (.slice A fd.blocks.length c)) (w2.alloc (.cells #[.int .i64 fd.params, .int .i64 fd.names, .slice A fd.blocks.length c] 26)).drew) := ⟨cell_of_row _ _ 0 _ _ (0, 0) HB3.out, cell_of_row _ _ 1 _ _ (0, 0) HB3.out, cell_of_row _ _ 2 _ _ (0, 0) HB3.out⟩
  clear hw2 hb2 hr2 hd2
  go_upto_region 3 with fail
  refine wp_region_offL (S := (fun w' => w'.cell? ⟨w2.heap.size, 0, none⟩ = some (.int .i64 fd.params) ∧ w'.cell? ⟨w2.heap.size, 1, none⟩ = some (.int .i64 fd.names) ∧ w'.cell? ⟨w2.heap.size, 2, none⟩ = some (.slice A fd.blocks.length c))) (by simp) (by kernel_rfl) (by kernel_rfl) (by kernel_rfl) (by kernel_rfl) (by kernel_rfl) ?_ (fun hHeld => ?_)
  · (try dsimp only)
    (first | exact HK0.out | exact HK4.out | exact HK5.out)
  simp only [List.dropLast_cons_cons, List.dropLast_singleton, List.length_cons, List.length_nil]
  refine wpAnyH_take (i := 0) (v := ?_) rfl (by kernel_rfl) (by kernel_rfl) (by kernel_rfl) (fun _ _ _ h => h) (Or.inl ⟨by rfl, ?_⟩) (by assumption) ?_
  rotate_left
  · intro w hSw
    simp only [List.getElem_toArray, List.getElem_cons_zero]
    (try dsimp only at hSw)
    go_simp
    first | done | (with_reducible rfl)
  simp only [List.getElem_toArray, List.getElem_cons_zero, Act.put, List.setIfInBounds_toArray, List.set_cons_zero, List.set_cons_succ]
  refine wpAnyH_take (i := 1) (v := ?_) rfl (by kernel_rfl) (by kernel_rfl) (by kernel_rfl) (fun _ _ _ h => h) (Or.inl ⟨by rfl, ?_⟩) (by assumption) ?_
  rotate_left
  · intro w hSw
    simp only [List.getElem_toArray, List.getElem_cons_succ, List.getElem_cons_zero]
    (try dsimp only at hSw)
    go_simp
    first | done | (with_reducible rfl)
  simp only [List.getElem_toArray, List.getElem_cons_succ, List.getElem_cons_zero, Act.put, List.setIfInBounds_toArray, List.set_cons_zero, List.set_cons_succ]
  refine wpAnyH_take (i := 2) (v := ?_) rfl (by kernel_rfl) (by kernel_rfl) (by kernel_rfl) (fun _ _ _ h => h) (Or.inl ⟨by rfl, ?_⟩) (by assumption) ?_
  rotate_left
  · intro w hSw
    simp only [List.getElem_toArray, List.getElem_cons_succ, List.getElem_cons_zero]
    (try dsimp only at hSw)
    go_simp
    first | done | (with_reducible rfl)
  simp only [List.getElem_toArray, List.getElem_cons_succ, List.getElem_cons_zero, Act.put, List.setIfInBounds_toArray, List.set_cons_zero, List.set_cons_succ]
  refine wpAnyH_take (i := 3) (v := ?_) rfl (by kernel_rfl) (by kernel_rfl) (by kernel_rfl) (fun _ _ _ h => h) (Or.inl ⟨by rfl, ?_⟩) (by assumption) ?_
  rotate_left
  · intro w hSw
    simp only [List.getElem_toArray, List.getElem_cons_succ, List.getElem_cons_zero]
    (try dsimp only at hSw)
    go_simp
    first | done | (with_reducible rfl)
  simp only [List.getElem_toArray, List.getElem_cons_succ, List.getElem_cons_zero, Act.put, List.setIfInBounds_toArray, List.set_cons_zero, List.set_cons_succ]
  refine wpAnyH_take (i := 4) (v := ?_) rfl (by kernel_rfl) (by kernel_rfl) (by kernel_rfl) (fun _ _ _ h => h) (Or.inl ⟨by rfl, ?_⟩) (by assumption) ?_
  rotate_left
  · intro w hSw
    simp only [List.getElem_toArray, List.getElem_cons_succ, List.getElem_cons_zero]
    (try dsimp only at hSw)
    go_simp
    first | done | (with_reducible rfl)
  simp only [List.getElem_toArray, List.getElem_cons_succ, List.getElem_cons_zero, Act.put, List.setIfInBounds_toArray, List.set_cons_zero, List.set_cons_succ]
  refine wpAnyH_ready (rs := [5]) (by kernel_rfl) (by simp) ?_
  refine AllReadyH.cons rfl (fun K hK => ?_) AllReadyH.nil
  simp only [List.getElem_toArray, List.getElem_cons_succ, List.getElem_cons_zero]
  go_simp
  (first | (go_at_call 33; refine (l1From_any B (w.heap.size + 1) (-1) fd.blocks.length _ HD3.out.cur (by omega) (by omega) (by omega)).mono ?_; rintro e w4 ⟨x, rfl, hx0, hx1, hc4, hg4⟩; have HG4 := Lib.hid hg4; have hb4 := (HG4.out.block w2.heap.size (by show w2.heap.size < (w2.alloc _).heap.size; simp) (by intro e; injection e; omega)).trans HB3.out; have HK4 : Hid ((fun w' => w'.cell? ⟨w2.heap.size, 0, none⟩ = some (.int .i64 fd.params) ∧ w'.cell? ⟨w2.heap.size, 1, none⟩ = some (.int .i64 fd.names) ∧ w'.cell? ⟨w2.heap.size, 2, none⟩ = some (.slice A fd.blocks.length c)) w4) := ⟨cell_of_row w4 _ 0 _ _ (0, 0) hb4, cell_of_row w4 _ 1 _ _ (0, 0) hb4, cell_of_row w4 _ 2 _ _ (0, 0) hb4⟩; have hr4 := (HG4.out.block w.heap.size (by show w.heap.size < (w2.alloc _).heap.size; simp; omega) (by intro e; injection e; omega)).trans HR3.out; have hR0 := cell_of_row w4 w.heap.size 0 _ _ _ hr4; have hR1 := cell_of_row w4 w.heap.size 1 _ _ _ hr4; have hR2 := cell_of_row w4 w.heap.size 2 _ _ _ hr4; have hRf0 := frozen_of_row w4 w.heap.size 0 _ _ hr4; have hRf1 := frozen_of_row w4 w.heap.size 1 _ _ hr4; have hRf2 := frozen_of_row w4 w.heap.size 2 _ _ hr4; have HK5 : Hid ((fun w' => w'.cell? ⟨w2.heap.size, 0, none⟩ = some (.int .i64 fd.params) ∧ w'.cell? ⟨w2.heap.size, 1, none⟩ = some (.int .i64 fd.names) ∧ w'.cell? ⟨w2.heap.size, 2, none⟩ = some (.slice A fd.blocks.length c)) (((w4.setCell ⟨w.heap.size, 0, none⟩ (.int .i64 fd.params)).setCell ⟨w.heap.size, 1, none⟩ (.int .i64 fd.names)).setCell ⟨w.heap.size, 2, none⟩ (.slice A fd.blocks.length c))) := ⟨(set3_cell w4 (by omega) _ _ _ 0).trans HK4.out.1, (set3_cell w4 (by omega) _ _ _ 1).trans HK4.out.2.1, (set3_cell w4 (by omega) _ _ _ 2).trans HK4.out.2.2⟩; clear hg4 hc4 hb4 hr4) | fail)
  go_wp2_with fail
  refine hK.out _ _ ?_ (fun hHeld => ?_)
  · (try dsimp only)
    (first | exact HK0.out | exact HK4.out | exact HK5.out)
  clear hK K
  (try simp only [List.getElem_toArray, List.getElem_cons_succ, List.getElem_cons_zero, Act.put, List.setIfInBounds_toArray, List.set_cons_zero, List.set_cons_succ])
  refine wpAnyH_ready (rs := [6]) (by kernel_rfl) (by simp) ?_
  refine AllReadyH.cons rfl (fun K hK => ?_) AllReadyH.nil
  simp only [List.getElem_toArray, List.getElem_cons_succ, List.getElem_cons_zero]
  go_simp
  refine hK.out _ _ ?_ (fun hHeld => ?_)
  · (try dsimp only)
    (first | exact HK0.out | exact HK4.out | exact HK5.out)
  clear hK K
  (try simp only [List.getElem_toArray, List.getElem_cons_succ, List.getElem_cons_zero, Act.put, List.setIfInBounds_toArray, List.set_cons_zero, List.set_cons_succ])
  refine wpAnyH_done (by kernel_rfl) ?_ _
  refine offQ_last rfl (fun KL hKL => ?_)
  go_simp
  refine hKL.out _ _ ?_
  have HE4 : EFun w4 (Zn.new w1.heap.size w2.heap.size) fd (.agg #[.int .i64 fd.params, .int .i64 fd.names, .slice A fd.blocks.length c]) := HE.out.keep ⟨fun _ hb => hb, fun h => h, fun b hb => (HG4.out.block b (by have := hb.2; show b < (w2.alloc _).heap.size; simp; omega) (by intro e; injection e; have := hb.1; omega)).trans (Below.heap_alloc w2 _ b hb.2)⟩
  have hs4 : w2.heap.size ≤ w4.heap.size := by have := HG4.out.size; have h2 : ((w2.alloc (.cells #[.int .i64 fd.params, .int .i64 fd.names, .slice A fd.blocks.length c] 26)).drew).heap.size = w2.heap.size + 1 := by show (w2.alloc _).heap.size = _; simp
                                               omega
  have HBW4 : Below w.heap.size w w4 := HBW.out.trans ⟨HG4.out.os, HG4.out.tape, HG4.out.output, hs4, fun k hk => (HG4.out.block k (by show k < (w2.alloc _).heap.size; simp; omega) (by intro e; injection e; omega)).trans (Below.heap_alloc w2 _ k (by omega))⟩
  have HO := Lib.hid (gives_set3 HE4 HZ.out hs4 HBW4 (.int .i64 fd.params) (.int .i64 fd.names) (.slice A fd.blocks.length c))
  clear HE4 hs4 HBW4
  go_wp2_with fail
  (try simp only [Exit.inBlock, Exit.then])
  refine bodyPost_ret (v := .tuple #[.agg #[.int .i64 fd.params, .int .i64 fd.names, .slice A fd.blocks.length c], .int .i64 x]) (by simp [results, Tryd.results24, go_sem, hR0, hR1, hR2]) rfl ?_
  exact ⟨fd, _, x, rfl, HO.out.1, hl, HO.out.2⟩
end

/- DrawDominates, DrawDomsOf. -/
section
open Go.ChangeShapes Go.WideShapes Go.ChangeAt Go.RowKit Go.Joins

theorem curT_below {w w' : World} {B g : Nat} (h : Cur w B g) (hb : Below w.heap.size w w') : Cur w' B g := by
  have hlt := cur_lt h
  obtain ⟨hB, v, n, i, k, hv, hi, hg⟩ := h
  exact ⟨hB, v, n, i, k, hv.keep fun b o' hb' => hb.cell (p := ⟨b, o', none⟩) (show b < w.heap.size by omega), hi, (hb.block g hlt).trans hg⟩
theorem setT_same (w : World) {q : Nat} {t : TypeId} {a b c : Value} (h : w.heap[q]? = some (.cells #[a, b, c] t (0, 0))) (u0 u1 u2 : Value) : (((w.setCell ⟨q, 0, none⟩ u0).setCell ⟨q, 1, none⟩ u1).setCell ⟨q, 2, none⟩ u2).heap[q]? = some (.cells #[u0, u1, u2] t (0, 0)) :=
  heap_setCell_same _ q 2 _ _ _ (heap_setCell_same _ q 1 _ _ _ (heap_setCell_same w q 0 _ _ _ h))

/-- A function and two numbers, of memory of its own. -/
def GivesF2 (w : World) (e : Ending) (w' : World) : Prop := ∃ (fd : FunD) (v : Value) (a b : Int), e = .returned (.tuple #[v, .int .i64 a, .int .i64 b]) ∧ EFun w' (Zn.new w.heap.size w'.heap.size) fd v ∧ fd.blocks.length ≤ 7 ∧ Below w.heap.size w w'

/-- What lies there behind the drawing of f, the result still empty, and stays but for the cursor. -/
structure KT (B g R F lo hi : Nat) (w wk : World) (fd : FunD) (A : Option Addr) (c : Nat) : Prop where
  cur : Cur wk B g
  r0 : wk.heap[R]? = some (.cells #[.int .i64 0, .int .i64 0, .slice none 0 0] 26 (0, 0))
  box : wk.heap[F]? = some (.cells #[.int .i64 fd.params, .int .i64 fd.names, .slice A fd.blocks.length c] 26 (0, 0))
  fn : EFun wk (Zn.new lo hi) fd (.agg #[.int .i64 fd.params, .int .i64 fd.names, .slice A fd.blocks.length c])
  below : Below w.heap.size w wk
  ge : w.heap.size ≤ R ∧ R < g ∧ g < lo ∧ lo ≤ hi ∧ hi ≤ wk.heap.size ∧ F < wk.heap.size ∧ lo ≤ F ∧ B ≤ w.heap.size
theorem KT.fw {B g R F lo hi : Nat} {w wk w' : World} {fd : FunD} {A : Option Addr} {c : Nat} (h : KT B g R F lo hi w wk fd A c) (hc : Cur w' B g) (hf : Fw (· = g) wk w') : KT B g R F lo hi w w' fd A c := by
  obtain ⟨g1, g2, g3, g4, g5, g6, g7, g8⟩ := h.ge
  exact ⟨hc, (hf.block R (by omega) (by omega)).trans h.r0, (hf.block F g6 (by omega)).trans h.box,
    h.fn.keep ⟨fun _ hb => hb, fun h => h, fun b hb => hf.block b (by have := hb.2; omega) (by have := hb.1; omega)⟩,
    h.below.trans (hf.toBelow h.below.size fun k hk e => by omega), g1, g2, g3, g4, Nat.le_trans g5 hf.size, Nat.lt_of_lt_of_le g6 hf.size, g7, g8⟩
theorem KT.step {B g R F lo hi : Nat} {w wk w' : World} {fd : FunD} {A : Option Addr} {c : Nat} (h : KT B g R F lo hi w wk fd A c) (hc : Cur w' B g) (hg : wk.grownBy w' (some g)) : KT B g R F lo hi w w' fd A c :=
  h.fw hc (Fw.grown hg fun k hk _ => by injection hk with hk; exact hk.symm)
theorem KT.drew {B g R F lo hi : Nat} {w wk : World} {fd : FunD} {A : Option Addr} {c : Nat} (h : KT B g R F lo hi w wk fd A c) : KT B g R F lo hi w wk.drew fd A c :=
  h.fw (curT_below h.cur (Below.refl _ wk).drew) (Fw.below (Below.refl _ wk).drew)
theorem KT.fcells {B g R F lo hi : Nat} {w wk : World} {fd : FunD} {A : Option Addr} {c : Nat} (h : KT B g R F lo hi w wk fd A c) : wk.cell? ⟨F, 0, none⟩ = some (.int .i64 fd.params) ∧ wk.cell? ⟨F, 1, none⟩ = some (.int .i64 fd.names) ∧ wk.cell? ⟨F, 2, none⟩ = some (.slice A fd.blocks.length c) :=
  ⟨cell_of_row wk _ 0 _ _ (0, 0) h.box, cell_of_row wk _ 1 _ _ (0, 0) h.box, cell_of_row wk _ 2 _ _ (0, 0) h.box⟩

set_option maxRecDepth 10000 in
set_option maxHeartbeats 2000000 in
theorem DrawDominates_any (B n : Nat) (v : Value) (w : World) (hv : Code w B v n) (hB : B ≤ w.heap.size) :
    Calls Tryd.prog 10 #[v] w (GivesF2 w) := by
  have HV := Lib.hid hv
  have hs0 : (w.alloc (.cells #[.int .i64 0, .int .i64 0, .slice none 0 0] 26)).heap.size = w.heap.size + 1 := by simp
  have HR0 := Lib.hid (heap_alloc_new w (.cells #[.int .i64 0, .int .i64 0, .slice none 0 0] 26))
  have HB0 : Hid (Below w.heap.size w (w.alloc (.cells #[.int .i64 0, .int .i64 0, .slice none 0 0] 26))) := (Below.refl _ _).alloc (Nat.le_refl _) _
  clear hv
  go_enter Tryd.func10, Tryd.ntmps10
  go_wp2_with fail
  refine (l1New_any B n v _ (HV.out.keep fun b o' hb => World.cell?_alloc_lt w _ ⟨b, o', none⟩ (show b < w.heap.size by omega)) (by simp; omega)).mono ?_
  rintro e w1 ⟨rfl, hc1, hg1⟩
  have hd1 := dsta_start (by rw [hs0]; omega) hc1
  have hl1 := cur_lt hc1
  rw [hs0] at hd1 hl1 ⊢
  have HG1 := Lib.hid hg1
  have HD1 := Lib.hid hd1
  clear hc1 hd1 hg1
  go_wp2_with fail
  refine (l2DrawAny_any _ B _ _ HD1.out).mono ?_
  rintro e w2 ⟨L2, fd, v2, rfl, _, hw2, hd2, he, hl⟩
  have hb2 : Below (w.heap.size + 1) (w.alloc (.cells #[.int .i64 0, .int .i64 0, .slice none 0 0] 26)) w2 := by have := below_start HG1.out (by rw [hs0]; exact hw2); rwa [hs0] at this
  have hz2 := hw2.size
  have HE := Lib.hid he
  obtain ⟨u, rfl, hu⟩ := he
  obtain ⟨_, A, c, rfl, _⟩ := hu
  have HK : Hid (KT B (w.heap.size + 1) w.heap.size w2.heap.size w1.heap.size w2.heap.size w (w2.alloc (.cells #[.int .i64 fd.params, .int .i64 fd.names, .slice A fd.blocks.length c] 26)) fd A c) :=
    ⟨cur_alloc hd2.cur _, (Below.heap_alloc w2 _ _ (by omega)).trans ((hb2.block _ (by omega)).trans HR0.out), heap_alloc_new w2 _, HE.out.old ((Below.refl _ _).alloc (Nat.le_refl _) _), HB0.out.trans ((hb2.alloc (by omega) _).mono (by omega)), (by have h1 : (w2.alloc (.cells #[.int .i64 fd.params, .int .i64 fd.names, .slice A fd.blocks.length c] 26)).heap.size = w2.heap.size + 1 := (by simp); exact (by refine ⟨?_, ?_, ?_, ?_, ?_, ?_, ?_, ?_⟩ <;> omega))⟩
  clear hw2 hb2 hd2 HE HG1 HD1 HV HR0 HB0 hs0 hz2
  go_upto_region 3 with fail
  generalize w2.alloc (.cells #[.int .i64 fd.params, .int .i64 fd.names, .slice A fd.blocks.length c] 26) = w3 at *
  generalize w2.heap.size = F at *
  have HS : Hid (∀ wk : World, KT B (w.heap.size + 1) w.heap.size F w1.heap.size F w wk fd A c → (fun w' => w'.cell? ⟨F, 0, none⟩ = some (.int .i64 fd.params) ∧ w'.cell? ⟨F, 1, none⟩ = some (.int .i64 fd.names) ∧ w'.cell? ⟨F, 2, none⟩ = some (.slice A fd.blocks.length c)) wk) := fun wk h => h.fcells
  have hRF : w.heap.size ≠ F := by have := HK.out.ge; omega
  have HS3 : Hid (∀ wk : World, (fun w' => w'.cell? ⟨F, 0, none⟩ = some (.int .i64 fd.params) ∧ w'.cell? ⟨F, 1, none⟩ = some (.int .i64 fd.names) ∧ w'.cell? ⟨F, 2, none⟩ = some (.slice A fd.blocks.length c)) wk → (fun w' => w'.cell? ⟨F, 0, none⟩ = some (.int .i64 fd.params) ∧ w'.cell? ⟨F, 1, none⟩ = some (.int .i64 fd.names) ∧ w'.cell? ⟨F, 2, none⟩ = some (.slice A fd.blocks.length c)) (((wk.setCell ⟨w.heap.size, 0, none⟩ (.int .i64 fd.params)).setCell ⟨w.heap.size, 1, none⟩ (.int .i64 fd.names)).setCell ⟨w.heap.size, 2, none⟩ (.slice A fd.blocks.length c))) := fun wk h => ⟨(set3_cell wk (Ne.symm hRF) _ _ _ 0).trans h.1, (set3_cell wk (Ne.symm hRF) _ _ _ 1).trans h.2.1, (set3_cell wk (Ne.symm hRF) _ _ _ 2).trans h.2.2⟩
  obtain ⟨f0, f1, f2⟩ := HK.out.fcells
  go_wp2_with fail
  refine (l1From_any B _ (-1) fd.blocks.length _ HK.out.cur (by omega) (by omega) (by omega)).mono ?_
  rintro e w6 ⟨x, rfl, hx0, hx1, hc, hg⟩
  have HK6 := Lib.hid (HK.out.step hc hg)
  have HKd := Lib.hid HK6.out.drew
  clear hc hg f0 f1 f2
  go_upto_region 4 with fail
  refine wp_region_offL (S := (fun w' => w'.cell? ⟨F, 0, none⟩ = some (.int .i64 fd.params) ∧ w'.cell? ⟨F, 1, none⟩ = some (.int .i64 fd.names) ∧ w'.cell? ⟨F, 2, none⟩ = some (.slice A fd.blocks.length c))) (by simp) (by kernel_rfl) (by kernel_rfl) (by kernel_rfl) (by kernel_rfl) (by kernel_rfl) ?_ (fun hHeld => ?_)
  · (try dsimp only)
    (first | exact HS.out _ HKd.out | exact HS.out _ HK7.out | exact HS3.out _ (HS.out _ HK7.out))
  simp only [List.dropLast_cons_cons, List.dropLast_singleton, List.length_cons, List.length_nil]
  refine wpAnyH_take (i := 0) (v := ?_) rfl (by kernel_rfl) (by kernel_rfl) (by kernel_rfl) (fun _ _ _ h => h) (Or.inl ⟨by rfl, ?_⟩) (by assumption) ?_
  rotate_left
  · intro w hSw
    simp only [List.getElem_toArray, List.getElem_cons_zero]
    (try dsimp only at hSw)
    go_simp
    first | done | (with_reducible rfl)
  simp only [List.getElem_toArray, List.getElem_cons_zero, Act.put, List.setIfInBounds_toArray, List.set_cons_zero, List.set_cons_succ]
  refine wpAnyH_take (i := 1) (v := ?_) rfl (by kernel_rfl) (by kernel_rfl) (by kernel_rfl) (fun _ _ _ h => h) (Or.inl ⟨by rfl, ?_⟩) (by assumption) ?_
  rotate_left
  · intro w hSw
    simp only [List.getElem_toArray, List.getElem_cons_succ, List.getElem_cons_zero]
    (try dsimp only at hSw)
    go_simp
    first | done | (with_reducible rfl)
  simp only [List.getElem_toArray, List.getElem_cons_succ, List.getElem_cons_zero, Act.put, List.setIfInBounds_toArray, List.set_cons_zero, List.set_cons_succ]
  refine wpAnyH_take (i := 2) (v := ?_) rfl (by kernel_rfl) (by kernel_rfl) (by kernel_rfl) (fun _ _ _ h => h) (Or.inl ⟨by rfl, ?_⟩) (by assumption) ?_
  rotate_left
  · intro w hSw
    simp only [List.getElem_toArray, List.getElem_cons_succ, List.getElem_cons_zero]
    (try dsimp only at hSw)
    go_simp
    first | done | (with_reducible rfl)
  simp only [List.getElem_toArray, List.getElem_cons_succ, List.getElem_cons_zero, Act.put, List.setIfInBounds_toArray, List.set_cons_zero, List.set_cons_succ]
  refine wpAnyH_take (i := 3) (v := ?_) rfl (by kernel_rfl) (by kernel_rfl) (by kernel_rfl) (fun _ _ _ h => h) (Or.inl ⟨by rfl, ?_⟩) (by assumption) ?_
  rotate_left
  · intro w hSw
    simp only [List.getElem_toArray, List.getElem_cons_succ, List.getElem_cons_zero]
    (try dsimp only at hSw)
    go_simp
    first | done | (with_reducible rfl)
  simp only [List.getElem_toArray, List.getElem_cons_succ, List.getElem_cons_zero, Act.put, List.setIfInBounds_toArray, List.set_cons_zero, List.set_cons_succ]
  refine wpAnyH_take (i := 4) (v := ?_) rfl (by kernel_rfl) (by kernel_rfl) (by kernel_rfl) (fun _ _ _ h => h) (Or.inl ⟨by rfl, ?_⟩) (by assumption) ?_
  rotate_left
  · intro w hSw
    simp only [List.getElem_toArray, List.getElem_cons_succ, List.getElem_cons_zero]
    (try dsimp only at hSw)
    go_simp
    first | done | (with_reducible rfl)
  simp only [List.getElem_toArray, List.getElem_cons_succ, List.getElem_cons_zero, Act.put, List.setIfInBounds_toArray, List.set_cons_zero, List.set_cons_succ]
  refine wpAnyH_take (i := 5) (v := ?_) rfl (by kernel_rfl) (by kernel_rfl) (by kernel_rfl) (fun _ _ _ h => h) (Or.inl ⟨by rfl, ?_⟩) (by assumption) ?_
  rotate_left
  · intro w hSw
    simp only [List.getElem_toArray, List.getElem_cons_succ, List.getElem_cons_zero]
    (try dsimp only at hSw)
    go_simp
    first | done | (with_reducible rfl)
  simp only [List.getElem_toArray, List.getElem_cons_succ, List.getElem_cons_zero, Act.put, List.setIfInBounds_toArray, List.set_cons_zero, List.set_cons_succ]
  refine wpAnyH_ready (rs := [6]) (by kernel_rfl) (by simp) ?_
  refine AllReadyH.cons rfl (fun K hK => ?_) AllReadyH.nil
  simp only [List.getElem_toArray, List.getElem_cons_succ, List.getElem_cons_zero]
  go_simp
  (first | (go_at_call 33; refine (l1From_any B _ (-1) fd.blocks.length _ HKd.out.cur (by omega) (by omega) (by omega)).mono ?_; rintro e w7 ⟨y, rfl, hy0, hy1, hc, hg⟩; have HK7 := Lib.hid (HKd.out.step hc hg); have hR0 := cell_of_row w7 w.heap.size 0 _ _ _ HK7.out.r0; have hR1 := cell_of_row w7 w.heap.size 1 _ _ _ HK7.out.r0; have hR2 := cell_of_row w7 w.heap.size 2 _ _ _ HK7.out.r0; have hRf0 := frozen_of_row w7 w.heap.size 0 _ _ HK7.out.r0; have hRf1 := frozen_of_row w7 w.heap.size 1 _ _ HK7.out.r0; have hRf2 := frozen_of_row w7 w.heap.size 2 _ _ HK7.out.r0; clear hc hg) | fail)
  go_wp2_with fail
  refine hK.out _ _ ?_ (fun hHeld => ?_)
  · (try dsimp only)
    (first | exact HS.out _ HKd.out | exact HS.out _ HK7.out | exact HS3.out _ (HS.out _ HK7.out))
  clear hK K
  (try simp only [List.getElem_toArray, List.getElem_cons_succ, List.getElem_cons_zero, Act.put, List.setIfInBounds_toArray, List.set_cons_zero, List.set_cons_succ])
  refine wpAnyH_ready (rs := [7]) (by kernel_rfl) (by simp) ?_
  refine AllReadyH.cons rfl (fun K hK => ?_) AllReadyH.nil
  simp only [List.getElem_toArray, List.getElem_cons_succ, List.getElem_cons_zero]
  go_simp
  refine hK.out _ _ ?_ (fun hHeld => ?_)
  · (try dsimp only)
    (first | exact HS.out _ HKd.out | exact HS.out _ HK7.out | exact HS3.out _ (HS.out _ HK7.out))
  clear hK K
  (try simp only [List.getElem_toArray, List.getElem_cons_succ, List.getElem_cons_zero, Act.put, List.setIfInBounds_toArray, List.set_cons_zero, List.set_cons_succ])
  refine wpAnyH_take (i := 8) (v := ?_) rfl (by kernel_rfl) (by kernel_rfl) (by kernel_rfl) (fun _ _ _ h => h) (Or.inl ⟨by rfl, ?_⟩) (by assumption) ?_
  rotate_left
  · intro w hSw
    simp only [List.getElem_toArray, List.getElem_cons_succ, List.getElem_cons_zero]
    (try dsimp only at hSw)
    go_simp
    first | done | (with_reducible rfl)
  simp only [List.getElem_toArray, List.getElem_cons_succ, List.getElem_cons_zero, Act.put, List.setIfInBounds_toArray, List.set_cons_zero, List.set_cons_succ]
  refine wpAnyH_done (by kernel_rfl) ?_ _
  have HR8 : Hid ((((w7.setCell ⟨w.heap.size, 0, none⟩ (.int .i64 fd.params)).setCell ⟨w.heap.size, 1, none⟩ (.int .i64 fd.names)).setCell ⟨w.heap.size, 2, none⟩ (.slice A fd.blocks.length c)).heap[w.heap.size]? = some (.cells #[.int .i64 fd.params, .int .i64 fd.names, .slice A fd.blocks.length c] 26 (0, 0))) := setT_same w7 HK7.out.r0 _ _ _
  have HE8 : Hid (EFun (((w7.setCell ⟨w.heap.size, 0, none⟩ (.int .i64 fd.params)).setCell ⟨w.heap.size, 1, none⟩ (.int .i64 fd.names)).setCell ⟨w.heap.size, 2, none⟩ (.slice A fd.blocks.length c)) (Zn.new w1.heap.size F) fd (.agg #[.int .i64 fd.params, .int .i64 fd.names, .slice A fd.blocks.length c])) := ((HK7.out.fn.set (by have := HK7.out.ge; omega) 0 _).set (by have := HK7.out.ge; omega) 1 _).set (by have := HK7.out.ge; omega) 2 _
  have HB8 : Hid (Below w.heap.size w (((w7.setCell ⟨w.heap.size, 0, none⟩ (.int .i64 fd.params)).setCell ⟨w.heap.size, 1, none⟩ (.int .i64 fd.names)).setCell ⟨w.heap.size, 2, none⟩ (.slice A fd.blocks.length c))) := below_set (below_set (below_set HK7.out.below (Nat.le_refl _) 0 _) (Nat.le_refl _) 1 _) (Nat.le_refl _) 2 _
  have hz8 : F ≤ (((w7.setCell ⟨w.heap.size, 0, none⟩ (.int .i64 fd.params)).setCell ⟨w.heap.size, 1, none⟩ (.int .i64 fd.names)).setCell ⟨w.heap.size, 2, none⟩ (.slice A fd.blocks.length c)).heap.size := by rw [nblk_set, nblk_set, nblk_set]; have := HK7.out.ge; omega
  have hge := HK7.out.ge
  generalize (((w7.setCell ⟨w.heap.size, 0, none⟩ (.int .i64 fd.params)).setCell ⟨w.heap.size, 1, none⟩ (.int .i64 fd.names)).setCell ⟨w.heap.size, 2, none⟩ (.slice A fd.blocks.length c)) = w8 at *
  clear hR0 hR1 hR2 hRf0 hRf1 hRf2
  refine offQ_last rfl (fun KL hKL => ?_)
  go_simp
  refine hKL.out _ _ ?_
  have hR0 := cell_of_row w8 w.heap.size 0 _ _ _ HR8.out
  have hR1 := cell_of_row w8 w.heap.size 1 _ _ _ HR8.out
  have hR2 := cell_of_row w8 w.heap.size 2 _ _ _ HR8.out
  go_wp2_with fail
  (try simp only [Exit.inBlock, Exit.then])
  refine bodyPost_ret (v := .tuple #[.agg #[.int .i64 fd.params, .int .i64 fd.names, .slice A fd.blocks.length c], .int .i64 x, .int .i64 y]) (by simp [results, Tryd.results10, go_sem, hR0, hR1, hR2]) rfl ?_
  exact ⟨fd, _, _, _, rfl, (HE8.out.wider (by omega)).top hz8, hl, HB8.out⟩

set_option maxRecDepth 10000 in
set_option maxHeartbeats 2000000 in
theorem DrawDomsOf_any (B n : Nat) (v : Value) (w : World) (hv : Code w B v n) (hB : B ≤ w.heap.size) :
    Calls Tryd.prog 7 #[v] w (GivesFAt w) := by
  have HV := Lib.hid hv
  have hs0 : (w.alloc (.cells #[.int .i64 0, .int .i64 0, .slice none 0 0] 26)).heap.size = w.heap.size + 1 := by simp
  have HR0 := Lib.hid (heap_alloc_new w (.cells #[.int .i64 0, .int .i64 0, .slice none 0 0] 26))
  clear hv
  go_enter Tryd.func7, Tryd.ntmps7
  go_wp2_with fail
  refine (l2DrawAt_any B n v _ (HV.out.keep fun b o' hb => World.cell?_alloc_lt w _ ⟨b, o', none⟩ (show b < w.heap.size by omega)) (by simp; omega)).mono ?_
  rintro e w2 ⟨fd, v2, x, rfl, he, hl, hb2⟩
  rw [hs0] at he hb2
  have HE := Lib.hid he
  obtain ⟨u, rfl, hu⟩ := he
  obtain ⟨_, A, c, rfl, _⟩ := hu
  have hr2 := (hb2.block w.heap.size (by omega)).trans HR0.out
  have HBW : Hid (Below w.heap.size w w2) := ((Below.refl _ _).alloc (Nat.le_refl _) _).trans (hb2.mono (by omega))
  have hR0 := cell_of_row w2 w.heap.size 0 _ _ _ hr2
  have hR1 := cell_of_row w2 w.heap.size 1 _ _ _ hr2
  have hR2 := cell_of_row w2 w.heap.size 2 _ _ _ hr2
  have hRf0 := frozen_of_row w2 w.heap.size 0 _ _ hr2
  have hRf1 := frozen_of_row w2 w.heap.size 1 _ _ hr2
  have hRf2 := frozen_of_row w2 w.heap.size 2 _ _ hr2
  have HO := Lib.hid (gives_set3 HE.out (Nat.lt_succ_self _) (Nat.le_refl _) HBW.out (.int .i64 fd.params) (.int .i64 fd.names) (.slice A fd.blocks.length c))
  clear hb2 hr2
  go_wp2_with fail
  refine bodyPost_ret (v := .tuple #[.agg #[.int .i64 fd.params, .int .i64 fd.names, .slice A fd.blocks.length c], .int .i64 x]) (by simp [results, Tryd.results7, go_sem, hR0, hR1, hR2]) rfl ?_
  exact ⟨fd, _, x, rfl, HO.out.1, hl, HO.out.2⟩
end

/- likeInts of the laws. -/
section
open Go.ChangeShapes Go.WideShapes Go.ChangeAt Go.RowKit Go.Joins

set_option maxHeartbeats 400000 in
theorem likeInts_any (u v : Value) (xs ys : List Int) (w : World) (hu : RI w u xs) (hv : RI w v ys) :
    Calls Tryd.prog 11 #[u, v] w fun e w' => e = .returned (.bool (decide (xs = ys))) ∧ ∃ n, w' = w.drewN n := by
  obtain ⟨lx, A, c, rfl, hx⟩ := hu
  obtain ⟨ly, A', c', rfl, hy⟩ := hv
  by_cases hl : xs.length = ys.length
  · have hb : ((xs.length : Int) != (ys.length : Int)) = false := by simp [hl]
    have HL := Lib.hid hl
    clear hl
    have hle : (xs.length : Int) ≤ 9223372036854775807 := by omega
    go_enter Tryd.func11, Tryd.ntmps11
    go_wp2
    go_loopw [5] (fun i wr => ∃ k : Nat, k ≤ xs.length ∧ i = .int .i64 k ∧ Hid (xs.take k = ys.take k) ∧ ∃ m, wr = w.drewN m) (fun i _ => xs.length - (intOf i).toNat)
    case atStart => exact ⟨0, Nat.zero_le _, rfl, rfl, 0, rfl⟩
    case round =>
      obtain ⟨k, hk, rfl, htk, m, rfl⟩ := hrel
      by_cases hlt : k < xs.length
      · have hxk : xs[k]? = some xs[k] := List.getElem?_eq_getElem hlt
        have hlt' : k < ys.length := by have := HL.out; omega
        have hyk : ys[k]? = some ys[k] := List.getElem?_eq_getElem hlt'
        obtain ⟨b, off, rfl, hx'⟩ := hx (by rintro rfl; simp at hlt)
        obtain ⟨b', off', rfl, hy'⟩ := hy (by rintro rfl; simp at hlt')
        have hcx := hx' k _ hxk
        have hcy := hy' k _ hyk
        have Hxk := Lib.hid hxk
        have Hyk := Lib.hid hyk
        clear hx hy hx' hy' hxk hyk
        generalize hex : xs[k] = x at *
        generalize hey : ys[k] = y at *
        clear hex hey
        by_cases hxy : x = y
        · subst hxy
          go_wp2
          go_quiet (fail)
          go_wp2
          go_roundw
          case rel => exact ⟨k + 1, by omega, by go_num, take_eq_of htk.out Hxk.out Hyk.out, m + nq, by go_simp⟩
          case measure => simp [intOf]; omega
        · have hb' : (x != y) = true := by simpa using hxy
          have HE : Hid (decide (xs = ys) = false) := by
            have h : xs ≠ ys := by
              rintro rfl
              have h1 := Hxk.out
              rw [Hyk.out] at h1
              exact hxy (by injection h1 with h1; exact h1.symm)
            simpa [Hid] using h
          clear hxy
          go_wp2
          go_quiet (fail)
          go_wp2
          go_ret
          exact ⟨by rw [HE.out]; rfl, m + nq, by go_simp⟩
      · have hk' : k = xs.length := by omega
        have HE : Hid (decide (xs = ys) = true) := by
          have h := htk.out
          rw [hk', List.take_length, HL.out, List.take_length] at h
          simpa [Hid] using h
        subst hk'
        go_wp2
        go_ret
        exact ⟨by rw [HE.out]; rfl, m, rfl⟩
  · have hb : ((xs.length : Int) != (ys.length : Int)) = true := by simp; omega
    have hne : xs ≠ ys := fun h => hl (by rw [h])
    have HE : Hid (decide (xs = ys) = false) := by simp [Hid, hne]
    clear hne hl
    go_enter Tryd.func11, Tryd.ntmps11
    go_wp2
    go_ret
    exact ⟨by rw [HE.out]; rfl, 0, rfl⟩

theorem likeInts_same (u v : Value) (xs : List Int) (w : World) (hu : RI w u xs) (hv : RI w v xs) :
    Calls Tryd.prog 11 #[u, v] w fun e w' => e = .returned (.bool true) ∧ ∃ n, w' = w.drewN n :=
  (likeInts_any u v xs xs w hu hv).mono fun _ _ ⟨he, hw⟩ => ⟨by rw [he]; simp, hw⟩
end

end Go.Proofs.YteikpekffgifoaaDoor
