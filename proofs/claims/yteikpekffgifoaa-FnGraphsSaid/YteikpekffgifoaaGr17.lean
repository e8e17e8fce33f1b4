/- Top, At, To1, To2, To3, joined. -/
import Derived.Test.YteikpekffgifoaaGr2
import Derived.Test.YteikpekffgifoaaGr16
namespace Go.Proofs.Yteikpekffgifoaa

/- The drawings of functions, each from its own code. -/
section
open Go.ChangeShapes Go.WideShapes Go.ChangeAt Go.RowKit Go.Joins

def GivesCur (B : Nat) (w : World) (e : Ending) (w' : World) : Prop := e = .returned (.pointer (some ⟨w.heap.size, 0, none⟩)) ∧ Cur w' B w.heap.size ∧ w.grownBy w' none

set_option maxHeartbeats 1000000 in
theorem l1New_any (B n : Nat) (v : Value) (w : World) (hv : Code w B v n) (hB : B ≤ w.heap.size) :
    Calls Try.prog 35 #[v] w (GivesCur B w) := by
  have HV := Lib.hid hv
  obtain ⟨hn, A, c, rfl, hv⟩ := hv
  have hfin : ∀ (h : Int), GivesCur B w (.returned (.pointer (some ⟨w.heap.size, 0, none⟩))) (w.alloc (.cells #[.slice A n c, .int .i64 0, .int .i64 h] 97)) := fun h =>
    ⟨rfl, ⟨hB, _, n, 0, h, HV.out.keep fun b o' hb => World.cell?_alloc_lt w _ ⟨b, o', none⟩ (show b < w.heap.size by omega), by omega, heap_alloc_new w _⟩, grown_alloc (World.grownBy.refl _ _) _⟩
  have HF := Lib.hid hfin
  clear hfin
  go_enter Try.func35, Try.ntmps35
  go_wp2
  go_loop [3, 4] (fun q i => ∃ (k : Nat) (h : Int), k ≤ n ∧ i = .int .i64 k ∧ q = .int .i64 h) (fun _ i => n - (intOf i).toNat)
  case atStart => exact ⟨0, _, Nat.zero_le _, rfl, rfl⟩
  case round =>
    obtain ⟨k, h, hk, rfl, rfl⟩ := hrel
    by_cases hlt : k < n
    · obtain ⟨b, off, rfl, hb, hcell⟩ := hv (by omega)
      obtain ⟨u, hu0, hu1, hcu⟩ := hcell k hlt
      clear hv hcell
      go_wp2
      go_round
      case rel => exact ⟨k + 1, _, by omega, by go_num, rfl⟩
      case measure => simp [intOf]; omega
    · obtain rfl : k = n := by omega
      clear hv
      go_wp2
      go_ret
      exact HF.out h

/-- All that was there bears the label 8, all that is new the label 9. -/
def L89 (n : Nat) : Nat → List Nat := relab (fun _ => [8]) n [9]
theorem dsta_start {w w1 : World} {B : Nat} (hB : B ≤ w.heap.size) (hc : Cur w1 B w.heap.size) : DSta w1 B w.heap.size (L89 w.heap.size) := ⟨hc, relab_new _ (Nat.le_refl _), fun k hk => if_pos (by omega)⟩
theorem below_start {w w1 w2 : World} (hg : w.grownBy w1 none) (hw : Wr (fun p => p ≠ [8]) (L89 w.heap.size) w1 w2) : Below w.heap.size w w2 := by
  have h1 : Below w.heap.size w w1 := ⟨hg.os, hg.tape, hg.output, hg.size, fun k hk => hg.block k hk (by simp)⟩
  exact h1.trans (hw.toBelow hg.size fun k hk h => h (if_pos hk))

def GivesF (w : World) (e : Ending) (w' : World) : Prop := ∃ (fd : FunD) (v : Value), e = .returned v ∧ EFun w' (Zn.new w.heap.size w'.heap.size) fd v ∧ fd.blocks.length ≤ 7 ∧ Below w.heap.size w w'

theorem EFun.wider {w : World} {lo lo' hi : Nat} {f : FunD} {v : Value} (h : EFun w (Zn.new lo hi) f v) (hl : lo' ≤ lo) : EFun w (Zn.new lo' hi) f v :=
  h.keep ⟨fun _ hb => ⟨Nat.le_trans hl hb.1, hb.2⟩, fun h => h, fun _ _ => rfl⟩

theorem below_set {B q : Nat} {w w' : World} (h : Below B w w') (hq : B ≤ q) (j : Nat) (u : Value) : Below B w (w'.setCell ⟨q, j, none⟩ u) :=
  ⟨h.os, h.tape, h.output, by simpa using h.size, fun k hk => (Below.heap_setCell w' ⟨q, j, none⟩ u k (by show k ≠ q; omega)).trans (h.block k hk)⟩
theorem EFun.set {w : World} {lo hi q : Nat} {f : FunD} {v : Value} (h : EFun w (Zn.new lo hi) f v) (hq : q < lo) (j : Nat) (u : Value) : EFun (w.setCell ⟨q, j, none⟩ u) (Zn.new lo hi) f v :=
  h.keep ⟨fun _ hb => hb, fun h => h, fun b hb => Below.heap_setCell w ⟨q, j, none⟩ u b (by have := hb.1; show b ≠ q; omega)⟩
theorem EFun.top {w : World} {lo hi hi' : Nat} {f : FunD} {v : Value} (h : EFun w (Zn.new lo hi) f v) (hl : hi ≤ hi') : EFun w (Zn.new lo hi') f v :=
  h.keep ⟨fun _ hb => ⟨hb.1, Nat.lt_of_lt_of_le hb.2 hl⟩, fun h => h, fun _ _ => rfl⟩

/-- What is stored in the result's block behind a drawing. -/
theorem gives_set3 {w w2 : World} {lo hi : Nat} {f : FunD} {v : Value} (h : EFun w2 (Zn.new lo hi) f v) (hlo : w.heap.size < lo) (hhi : hi ≤ w2.heap.size) (hb : Below w.heap.size w w2) (u0 u1 u2 : Value) :
    EFun (((w2.setCell ⟨w.heap.size, 0, none⟩ u0).setCell ⟨w.heap.size, 1, none⟩ u1).setCell ⟨w.heap.size, 2, none⟩ u2) (Zn.new w.heap.size (((w2.setCell ⟨w.heap.size, 0, none⟩ u0).setCell ⟨w.heap.size, 1, none⟩ u1).setCell ⟨w.heap.size, 2, none⟩ u2).heap.size) f v ∧
    Below w.heap.size w (((w2.setCell ⟨w.heap.size, 0, none⟩ u0).setCell ⟨w.heap.size, 1, none⟩ u1).setCell ⟨w.heap.size, 2, none⟩ u2) :=
  ⟨((((h.set hlo 0 u0).set hlo 1 u1).set hlo 2 u2).wider (Nat.le_of_lt hlo)).top (by simpa using hhi), below_set (below_set (below_set hb (Nat.le_refl _) 0 u0) (Nat.le_refl _) 1 u1) (Nat.le_refl _) 2 u2⟩

set_option maxHeartbeats 1000000 in
theorem DrawFunOk_any (B n : Nat) (v : Value) (w : World) (hv : Code w B v n) (hB : B ≤ w.heap.size) :
    Calls Try.prog 7 #[v] w (GivesF w) := by
  have HV := Lib.hid hv
  have hs0 : (w.alloc (.cells #[.int .i64 0, .int .i64 0, .slice none 0 0] 26)).heap.size = w.heap.size + 1 := by simp
  have HR0 := Lib.hid (heap_alloc_new w (.cells #[.int .i64 0, .int .i64 0, .slice none 0 0] 26))
  clear hv
  go_enter Try.func7, Try.ntmps7
  go_wp2_with fail
  refine (l1New_any B n v _ (HV.out.keep fun b o' hb => World.cell?_alloc_lt w _ ⟨b, o', none⟩ (show b < w.heap.size by omega)) (by simp; omega)).mono ?_
  rintro e w1 ⟨rfl, hc1, hg1⟩
  have hd1 := dsta_start (by rw [hs0]; omega) hc1
  have HZ := Lib.hid hg1.size
  rw [hs0] at hd1 HZ ⊢
  have HD1 := Lib.hid hd1
  have HG1 := Lib.hid hg1
  clear hc1 hd1 hg1
  go_wp2_with fail
  refine (l2DrawAny_any _ B _ _ HD1.out).mono ?_
  rintro e w2 ⟨L2, fd, v2, rfl, _, hw2, _, he, hl⟩
  have hb2 : Below (w.heap.size + 1) (w.alloc (.cells #[.int .i64 0, .int .i64 0, .slice none 0 0] 26)) w2 := by have := below_start HG1.out (by rw [hs0]; exact hw2); rwa [hs0] at this
  have hr2 := (hb2.block w.heap.size (by omega)).trans HR0.out
  have HBW : Hid (Below w.heap.size w w2) := ((Below.refl _ _).alloc (Nat.le_refl _) _).trans (hb2.mono (by omega))
  have HE := Lib.hid he
  obtain ⟨u, rfl, hu⟩ := he
  obtain ⟨_, A, c, rfl, _⟩ := hu
  have hR0 := cell_of_row w2 w.heap.size 0 _ _ _ hr2
  have hR1 := cell_of_row w2 w.heap.size 1 _ _ _ hr2
  have hR2 := cell_of_row w2 w.heap.size 2 _ _ _ hr2
  have hRf0 := frozen_of_row w2 w.heap.size 0 _ _ hr2
  have hRf1 := frozen_of_row w2 w.heap.size 1 _ _ hr2
  have hRf2 := frozen_of_row w2 w.heap.size 2 _ _ hr2
  clear hw2 hb2 hr2
  go_wp2_with fail
  refine bodyPost_ret (v := .agg #[.int .i64 fd.params, .int .i64 fd.names, .slice A fd.blocks.length c]) (by simp [results, Try.results7, go_sem, hR0, hR1, hR2]) rfl ?_
  obtain ⟨o1, o2⟩ := gives_set3 HE.out HZ.out (Nat.le_refl _) HBW.out (.int .i64 fd.params) (.int .i64 fd.names) (.slice A fd.blocks.length c)
  exact ⟨fd, _, rfl, o1, hl, o2⟩

set_option maxHeartbeats 1000000 in
theorem DrawOrderOf_any (B n : Nat) (v : Value) (w : World) (hv : Code w B v n) (hB : B ≤ w.heap.size) :
    Calls Try.prog 20 #[v] w (GivesF w) := by
  have HV := Lib.hid hv
  have hs0 : (w.alloc (.cells #[.int .i64 0, .int .i64 0, .slice none 0 0] 26)).heap.size = w.heap.size + 1 := by simp
  have HR0 := Lib.hid (heap_alloc_new w (.cells #[.int .i64 0, .int .i64 0, .slice none 0 0] 26))
  clear hv
  go_enter Try.func20, Try.ntmps20
  go_wp2_with fail
  refine (l1New_any B n v _ (HV.out.keep fun b o' hb => World.cell?_alloc_lt w _ ⟨b, o', none⟩ (show b < w.heap.size by omega)) (by simp; omega)).mono ?_
  rintro e w1 ⟨rfl, hc1, hg1⟩
  have hd1 := dsta_start (by rw [hs0]; omega) hc1
  have HZ := Lib.hid hg1.size
  rw [hs0] at hd1 HZ ⊢
  have HD1 := Lib.hid hd1
  have HG1 := Lib.hid hg1
  clear hc1 hd1 hg1
  go_wp2_with fail
  refine (l2DrawAny_any _ B _ _ HD1.out).mono ?_
  rintro e w2 ⟨L2, fd, v2, rfl, _, hw2, _, he, hl⟩
  have hb2 : Below (w.heap.size + 1) (w.alloc (.cells #[.int .i64 0, .int .i64 0, .slice none 0 0] 26)) w2 := by have := below_start HG1.out (by rw [hs0]; exact hw2); rwa [hs0] at this
  have hr2 := (hb2.block w.heap.size (by omega)).trans HR0.out
  have HBW : Hid (Below w.heap.size w w2) := ((Below.refl _ _).alloc (Nat.le_refl _) _).trans (hb2.mono (by omega))
  have HE := Lib.hid he
  obtain ⟨u, rfl, hu⟩ := he
  obtain ⟨_, A, c, rfl, _⟩ := hu
  have hR0 := cell_of_row w2 w.heap.size 0 _ _ _ hr2
  have hR1 := cell_of_row w2 w.heap.size 1 _ _ _ hr2
  have hR2 := cell_of_row w2 w.heap.size 2 _ _ _ hr2
  have hRf0 := frozen_of_row w2 w.heap.size 0 _ _ hr2
  have hRf1 := frozen_of_row w2 w.heap.size 1 _ _ hr2
  have hRf2 := frozen_of_row w2 w.heap.size 2 _ _ hr2
  clear hw2 hb2 hr2
  go_wp2_with fail
  refine bodyPost_ret (v := .agg #[.int .i64 fd.params, .int .i64 fd.names, .slice A fd.blocks.length c]) (by simp [results, Try.results20, go_sem, hR0, hR1, hR2]) rfl ?_
  obtain ⟨o1, o2⟩ := gives_set3 HE.out HZ.out (Nat.le_refl _) HBW.out (.int .i64 fd.params) (.int .i64 fd.names) (.slice A fd.blocks.length c)
  exact ⟨fd, _, rfl, o1, hl, o2⟩
end

/- l2DrawAt, DrawPredsOf. -/
section
open Go.ChangeShapes Go.WideShapes Go.ChangeAt Go.RowKit Go.Joins

def GivesFAt (w : World) (e : Ending) (w' : World) : Prop := ∃ (fd : FunD) (v : Value) (x : Int), e = .returned (.tuple #[v, .int .i64 x]) ∧ EFun w' (Zn.new w.heap.size w'.heap.size) fd v ∧ fd.blocks.length ≤ 7 ∧ Below w.heap.size w w'

theorem set3_cell (w : World) {k q : Nat} (h : k ≠ q) (u0 u1 u2 : Value) (j : Nat) : (((w.setCell ⟨q, 0, none⟩ u0).setCell ⟨q, 1, none⟩ u1).setCell ⟨q, 2, none⟩ u2).cell? ⟨k, j, none⟩ = w.cell? ⟨k, j, none⟩ :=
  World.cell?_of_block (a := ⟨k, j, none⟩) ((Below.heap_setCell _ ⟨q, 2, none⟩ u2 k h).trans ((Below.heap_setCell _ ⟨q, 1, none⟩ u1 k h).trans (Below.heap_setCell w ⟨q, 0, none⟩ u0 k h)))

set_option maxRecDepth 10000 in
set_option maxHeartbeats 2000000 in
theorem l2DrawAt_any (B n : Nat) (v : Value) (w : World) (hv : Code w B v n) (hB : B ≤ w.heap.size) :
    Calls Try.prog 42 #[v] w (GivesFAt w) := by
  have HV := Lib.hid hv
  have hs0 : (w.alloc (.cells #[.int .i64 0, .int .i64 0, .slice none 0 0] 26)).heap.size = w.heap.size + 1 := by simp
  have HR0 := Lib.hid (heap_alloc_new w (.cells #[.int .i64 0, .int .i64 0, .slice none 0 0] 26))
  clear hv
  go_enter Try.func42, Try.ntmps42
  go_wp2_with fail
  refine (l1New_any B n v _ (HV.out.keep fun b o' hb => World.cell?_alloc_lt w _ ⟨b, o', none⟩ (show b < w.heap.size by omega)) (by simp; omega)).mono ?_
  rintro e w1 ⟨rfl, hc1, hg1⟩
  have hd1 := dsta_start (by rw [hs0]; omega) hc1
  have HZ := Lib.hid hg1.size
  have hl1 := cur_lt hc1
  rw [hs0] at hd1 HZ hl1 ⊢
  have HD1 := Lib.hid hd1
  have HG1 := Lib.hid hg1
  clear hc1 hd1 hg1
  go_wp2_with fail
  refine (l2DrawAny_any _ B _ _ HD1.out).mono ?_
  rintro e w2 ⟨L2, fd, v2, rfl, _, hw2, hd2, he, hl⟩
  have hb2 : Below (w.heap.size + 1) (w.alloc (.cells #[.int .i64 0, .int .i64 0, .slice none 0 0] 26)) w2 := by have := below_start HG1.out (by rw [hs0]; exact hw2); rwa [hs0] at this
  have hr2 := (hb2.block w.heap.size (by omega)).trans HR0.out
  have HBW : Hid (Below w.heap.size w w2) := ((Below.refl _ _).alloc (Nat.le_refl _) _).trans (hb2.mono (by omega))
  have hz2 := hw2.size
  have HE := Lib.hid he
  obtain ⟨u, rfl, hu⟩ := he
  obtain ⟨_, A, c, rfl, _⟩ := hu
  have HD3 : Hid (DSta (w2.alloc (.cells #[.int .i64 fd.params, .int .i64 fd.names, .slice A fd.blocks.length c] 26)).drew B (w.heap.size + 1) L2) := (hd2.alloc _).keep (wr_drew _ _) (LExt.refl _ _) (fun h => h) fun h => h
  have HB3 := Lib.hid (heap_alloc_new w2 (.cells #[.int .i64 fd.params, .int .i64 fd.names, .slice A fd.blocks.length c] 26))
  have HR3 : Hid ((w2.alloc (.cells #[.int .i64 fd.params, .int .i64 fd.names, .slice A fd.blocks.length c] 26)).heap[w.heap.size]? = some (.cells #[.int .i64 0, .int .i64 0, .slice none 0 0] 26 (0, 0))) := (Below.heap_alloc w2 _ _ (Array.getElem?_eq_some_iff.1 hr2).1).trans hr2
  have hq : w.heap.size + 1 < w2.heap.size := by omega
  have HK0 : Hid ((fun w' => w'.cell? ⟨w2.heap.size, 0, none⟩ = some (.int .i64 fd.params) ∧ w'.cell? ⟨w2.heap.size, 1, none⟩ = some (.int .i64 fd.names) ∧ w'.cell? ⟨w2.heap.size, 2, none⟩ = some (.slice A fd.blocks.length c)) (w2.alloc (.cells #[.int .i64 fd.params, .int .i64 fd.names, .slice A fd.blocks.length c] 26)).drew) := ⟨cell_of_row _ _ 0 _ _ (0, 0) HB3.out, cell_of_row _ _ 1 _ _ (0, 0) HB3.out, cell_of_row _ _ 2 _ _ (0, 0) HB3.out⟩
  clear hw2 hb2 hr2 hd2
  go_upto_region 3 with fail
  refine wp_region_offL (S := (fun w' => w'.cell? ⟨w2.heap.size, 0, none⟩ = some (.int .i64 fd.params) ∧ w'.cell? ⟨w2.heap.size, 1, none⟩ = some (.int .i64 fd.names) ∧ w'.cell? ⟨w2.heap.size, 2, none⟩ = some (.slice A fd.blocks.length c))) (by simp) (by kernel_rfl) (by kernel_rfl) (by kernel_rfl) (by kernel_rfl) (by kernel_rfl) ?_ (fun hHeld => ?_)
  · (try dsimp only)
    (first | exact HK0.out | exact HK4.out | exact HK5.out)
  simp only [List.dropLast_cons_cons, List.dropLast_singleton, List.length_cons, List.length_nil]
  refine wpAnyH_take (i := 0) (v := ?_) rfl (by kernel_rfl) (by kernel_rfl) (by kernel_rfl) (fun _ _ _ h => h) (Or.inl ⟨by rfl, ?_⟩) (by assumption) ?_
  rotate_left
  · intro w hSw
    simp only [List.getElem_toArray, List.getElem_cons_zero]
    (try dsimp only at hSw)
    go_simp
    first | done | (with_reducible rfl)
  simp only [List.getElem_toArray, List.getElem_cons_zero, Act.put, List.setIfInBounds_toArray, List.set_cons_zero, List.set_cons_succ]
  refine wpAnyH_take (i := 1) (v := ?_) rfl (by kernel_rfl) (by kernel_rfl) (by kernel_rfl) (fun _ _ _ h => h) (Or.inl ⟨by rfl, ?_⟩) (by assumption) ?_
  rotate_left
  · intro w hSw
    simp only [List.getElem_toArray, List.getElem_cons_succ, List.getElem_cons_zero]
    (try dsimp only at hSw)
    go_simp
    first | done | (with_reducible rfl)
  simp only [List.getElem_toArray, List.getElem_cons_succ, List.getElem_cons_zero, Act.put, List.setIfInBounds_toArray, List.set_cons_zero, List.set_cons_succ]
  refine wpAnyH_take (i := 2) (v := ?_) rfl (by kernel_rfl) (by kernel_rfl) (by kernel_rfl) (fun _ _ _ h => h) (Or.inl ⟨by rfl, ?_⟩) (by assumption) ?_
  rotate_left
  · intro w hSw
    simp only [List.getElem_toArray, List.getElem_cons_succ, List.getElem_cons_zero]
    (try dsimp only at hSw)
    go_simp
    first | done | (with_reducible rfl)
  simp only [List.getElem_toArray, List.getElem_cons_succ, List.getElem_cons_zero, Act.put, List.setIfInBounds_toArray, List.set_cons_zero, List.set_cons_succ]
  refine wpAnyH_take (i := 3) (v := ?_) rfl (by kernel_rfl) (by kernel_rfl) (by kernel_rfl) (fun _ _ _ h => h) (Or.inl ⟨by rfl, ?_⟩) (by assumption) ?_
  rotate_left
  · intro w hSw
    simp only [List.getElem_toArray, List.getElem_cons_succ, List.getElem_cons_zero]
    (try dsimp only at hSw)
    go_simp
    first | done | (with_reducible rfl)
  simp only [List.getElem_toArray, List.getElem_cons_succ, List.getElem_cons_zero, Act.put, List.setIfInBounds_toArray, List.set_cons_zero, List.set_cons_succ]
  refine wpAnyH_take (i := 4) (v := ?_) rfl (by kernel_rfl) (by kernel_rfl) (by kernel_rfl) (fun _ _ _ h => h) (Or.inl ⟨by rfl, ?_⟩) (by assumption) ?_
  rotate_left
  · intro w hSw
    simp only [List.getElem_toArray, List.getElem_cons_succ, List.getElem_cons_zero]
    (try dsimp only at hSw)
    go_simp
    first | done | (with_reducible rfl)
  simp only [List.getElem_toArray, List.getElem_cons_succ, List.getElem_cons_zero, Act.put, List.setIfInBounds_toArray, List.set_cons_zero, List.set_cons_succ]
  refine wpAnyH_ready (rs := [5]) (by kernel_rfl) (by simp) ?_
  refine AllReadyH.cons rfl (fun K hK => ?_) AllReadyH.nil
  simp only [List.getElem_toArray, List.getElem_cons_succ, List.getElem_cons_zero]
  go_simp
  (first | (go_at_call 37; refine (l1From_any B (w.heap.size + 1) (-1) fd.blocks.length _ HD3.out.cur (by omega) (by omega) (by omega)).mono ?_; rintro e w4 ⟨x, rfl, hx0, hx1, hc4, hg4⟩; have HG4 := Lib.hid hg4; have hb4 := (HG4.out.block w2.heap.size (by show w2.heap.size < (w2.alloc _).heap.size; simp) (by intro e; injection e; omega)).trans HB3.out; have HK4 : Hid ((fun w' => w'.cell? ⟨w2.heap.size, 0, none⟩ = some (.int .i64 fd.params) ∧ w'.cell? ⟨w2.heap.size, 1, none⟩ = some (.int .i64 fd.names) ∧ w'.cell? ⟨w2.heap.size, 2, none⟩ = some (.slice A fd.blocks.length c)) w4) := ⟨cell_of_row w4 _ 0 _ _ (0, 0) hb4, cell_of_row w4 _ 1 _ _ (0, 0) hb4, cell_of_row w4 _ 2 _ _ (0, 0) hb4⟩; have hr4 := (HG4.out.block w.heap.size (by show w.heap.size < (w2.alloc _).heap.size; simp; omega) (by intro e; injection e; omega)).trans HR3.out; have hR0 := cell_of_row w4 w.heap.size 0 _ _ _ hr4; have hR1 := cell_of_row w4 w.heap.size 1 _ _ _ hr4; have hR2 := cell_of_row w4 w.heap.size 2 _ _ _ hr4; have hRf0 := frozen_of_row w4 w.heap.size 0 _ _ hr4; have hRf1 := frozen_of_row w4 w.heap.size 1 _ _ hr4; have hRf2 := frozen_of_row w4 w.heap.size 2 _ _ hr4; have HK5 : Hid ((fun w' => w'.cell? ⟨w2.heap.size, 0, none⟩ = some (.int .i64 fd.params) ∧ w'.cell? ⟨w2.heap.size, 1, none⟩ = some (.int .i64 fd.names) ∧ w'.cell? ⟨w2.heap.size, 2, none⟩ = some (.slice A fd.blocks.length c)) (((w4.setCell ⟨w.heap.size, 0, none⟩ (.int .i64 fd.params)).setCell ⟨w.heap.size, 1, none⟩ (.int .i64 fd.names)).setCell ⟨w.heap.size, 2, none⟩ (.slice A fd.blocks.length c))) := ⟨(set3_cell w4 (by omega) _ _ _ 0).trans HK4.out.1, (set3_cell w4 (by omega) _ _ _ 1).trans HK4.out.2.1, (set3_cell w4 (by omega) _ _ _ 2).trans HK4.out.2.2⟩; clear hg4 hc4 hb4 hr4) | fail)
  go_wp2_with fail
  refine hK.out _ _ ?_ (fun hHeld => ?_)
  · (try dsimp only)
    (first | exact HK0.out | exact HK4.out | exact HK5.out)
  clear hK K
  (try simp only [List.getElem_toArray, List.getElem_cons_succ, List.getElem_cons_zero, Act.put, List.setIfInBounds_toArray, List.set_cons_zero, List.set_cons_succ])
  refine wpAnyH_ready (rs := [6]) (by kernel_rfl) (by simp) ?_
  refine AllReadyH.cons rfl (fun K hK => ?_) AllReadyH.nil
  simp only [List.getElem_toArray, List.getElem_cons_succ, List.getElem_cons_zero]
  go_simp
  refine hK.out _ _ ?_ (fun hHeld => ?_)
  · (try dsimp only)
    (first | exact HK0.out | exact HK4.out | exact HK5.out)
  clear hK K
  (try simp only [List.getElem_toArray, List.getElem_cons_succ, List.getElem_cons_zero, Act.put, List.setIfInBounds_toArray, List.set_cons_zero, List.set_cons_succ])
  refine wpAnyH_done (by kernel_rfl) ?_ _
  refine offQ_last rfl (fun KL hKL => ?_)
  go_simp
  refine hKL.out _ _ ?_
  have HE4 : EFun w4 (Zn.new w1.heap.size w2.heap.size) fd (.agg #[.int .i64 fd.params, .int .i64 fd.names, .slice A fd.blocks.length c]) := HE.out.keep ⟨fun _ hb => hb, fun h => h, fun b hb => (HG4.out.block b (by have := hb.2; show b < (w2.alloc _).heap.size; simp; omega) (by intro e; injection e; have := hb.1; omega)).trans (Below.heap_alloc w2 _ b hb.2)⟩
  have hs4 : w2.heap.size ≤ w4.heap.size := by have := HG4.out.size; have h2 : ((w2.alloc (.cells #[.int .i64 fd.params, .int .i64 fd.names, .slice A fd.blocks.length c] 26)).drew).heap.size = w2.heap.size + 1 := by show (w2.alloc _).heap.size = _; simp
                                               omega
  have HBW4 : Below w.heap.size w w4 := HBW.out.trans ⟨HG4.out.os, HG4.out.tape, HG4.out.output, hs4, fun k hk => (HG4.out.block k (by show k < (w2.alloc _).heap.size; simp; omega) (by intro e; injection e; omega)).trans (Below.heap_alloc w2 _ k (by omega))⟩
  have HO := Lib.hid (gives_set3 HE4 HZ.out hs4 HBW4 (.int .i64 fd.params) (.int .i64 fd.names) (.slice A fd.blocks.length c))
  clear HE4 hs4 HBW4
  go_wp2_with fail
  (try simp only [Exit.inBlock, Exit.then])
  refine bodyPost_ret (v := .tuple #[.agg #[.int .i64 fd.params, .int .i64 fd.names, .slice A fd.blocks.length c], .int .i64 x]) (by simp [results, Try.results42, go_sem, hR0, hR1, hR2]) rfl ?_
  exact ⟨fd, _, x, rfl, HO.out.1, hl, HO.out.2⟩

set_option maxRecDepth 10000 in
set_option maxHeartbeats 2000000 in
theorem DrawPredsOf_any (B n : Nat) (v : Value) (w : World) (hv : Code w B v n) (hB : B ≤ w.heap.size) :
    Calls Try.prog 9 #[v] w (GivesFAt w) := by
  have HV := Lib.hid hv
  have hs0 : (w.alloc (.cells #[.int .i64 0, .int .i64 0, .slice none 0 0] 26)).heap.size = w.heap.size + 1 := by simp
  have HR0 := Lib.hid (heap_alloc_new w (.cells #[.int .i64 0, .int .i64 0, .slice none 0 0] 26))
  clear hv
  go_enter Try.func9, Try.ntmps9
  go_wp2_with fail
  refine (l2DrawAt_any B n v _ (HV.out.keep fun b o' hb => World.cell?_alloc_lt w _ ⟨b, o', none⟩ (show b < w.heap.size by omega)) (by simp; omega)).mono ?_
  rintro e w2 ⟨fd, v2, x, rfl, he, hl, hb2⟩
  rw [hs0] at he hb2
  have HE := Lib.hid he
  obtain ⟨u, rfl, hu⟩ := he
  obtain ⟨_, A, c, rfl, _⟩ := hu
  have hr2 := (hb2.block w.heap.size (by omega)).trans HR0.out
  have HBW : Hid (Below w.heap.size w w2) := ((Below.refl _ _).alloc (Nat.le_refl _) _).trans (hb2.mono (by omega))
  have hR0 := cell_of_row w2 w.heap.size 0 _ _ _ hr2
  have hR1 := cell_of_row w2 w.heap.size 1 _ _ _ hr2
  have hR2 := cell_of_row w2 w.heap.size 2 _ _ _ hr2
  have hRf0 := frozen_of_row w2 w.heap.size 0 _ _ hr2
  have hRf1 := frozen_of_row w2 w.heap.size 1 _ _ hr2
  have hRf2 := frozen_of_row w2 w.heap.size 2 _ _ hr2
  have HO := Lib.hid (gives_set3 HE.out (Nat.lt_succ_self _) (Nat.le_refl _) HBW.out (.int .i64 fd.params) (.int .i64 fd.names) (.slice A fd.blocks.length c))
  clear hb2 hr2
  go_wp2_with fail
  refine bodyPost_ret (v := .tuple #[.agg #[.int .i64 fd.params, .int .i64 fd.names, .slice A fd.blocks.length c], .int .i64 x]) (by simp [results, Try.results9, go_sem, hR0, hR1, hR2]) rfl ?_
  exact ⟨fd, _, x, rfl, HO.out.1, hl, HO.out.2⟩
end

/- toMoveS and toInsS of the laws. -/
section
open Go.ChangeShapes Go.WideShapes Go.ChangeAt Go.RowKit Go.Joins

def GivesV (R : World → Zn → Value → Prop) (w : World) (e : Ending) (w' : World) : Prop := ∃ r, e = .returned r ∧ R w' (Zn.new w.heap.size w'.heap.size) r ∧ Below w.heap.size w w'

set_option maxHeartbeats 400000 in
theorem toMove_any (a b : Int) (w : World) :
    Calls Try.prog 117 #[.agg #[.int .i64 a, .int .i64 b]] w fun e w' => e = .returned (.agg #[.int .i64 a, .int .i64 b]) ∧ Below w.heap.size w w' := by
  go_enter Try.func117, Try.ntmps117
  go_wp2
  refine bodyPost_ret (v := .agg #[.int .i64 a, .int .i64 b]) (by simp [results, Try.results117, go_sem]) rfl ⟨rfl, ?_⟩
  repeat (first | exact Below.refl _ _ | refine Below.alloc ?_ (by first | (simp; done) | (simp; omega)) _ | refine Below.setCell ?_ (by simp) _)

theorem info_Move : (Try.prog.info? 99).map (fun i => (i.zero, i.size, i.bytes)) = some (some (.agg #[.int .i64 0, .int .i64 0]), 2, 16) := by kernel_rfl

set_option maxHeartbeats 400000 in
theorem toMoveS_any (v : Value) (xs : List MoveD) (w : World) (Z : Zn) (hv : Row w Z 2 EMove v xs) (hD : ∀ b, Z.D b → b < w.heap.size) (hn : xs.length ≤ 1048576) :
    Calls Try.prog 104 #[v] w (GivesV (fun w Z v => Row w Z 2 EMove v xs) w) := by
  obtain ⟨_, A, c, rfl, hx⟩ := hv
  obtain ⟨i0, hi, hz0, hz1, hz2⟩ := info_parts info_Move
  have hmk := fun W => run_make_rowN (P := Try.prog) 40 99 i0 _ Try.underlying40 hi hz0 .i64 .i64 xs.length xs.length (Nat.le_refl _) (by rw [hz2]; omega) (by omega) W
  rw [hz1] at hmk
  clear hi hz0 hz1 hz2
  go_enter Try.func104, Try.ntmps104
  go_wp2
  go_loopw [4] (fun i wr => ∃ k : Nat, k ≤ xs.length ∧ i = .int .i64 k ∧ Hid (Below w.heap.size w wr) ∧ w.heap.size < wr.heap.size ∧ Hid (Fill wr w.heap.size 99 2 xs.length k EMove xs)) (fun i _ => xs.length - (intOf i).toNat)
  case atStart => exact ⟨0, Nat.zero_le _, rfl, (Below.refl _ _).alloc (Nat.le_refl _) _, by simp, Fill.zero (heap_alloc_new w _) (size_madeCells _ _)⟩
  case round =>
    obtain ⟨k, hk, rfl, HB, hsz, HF⟩ := hrel
    by_cases hlt : k < xs.length
    · have hxk : xs[k]? = some xs[k] := List.getElem?_eq_getElem hlt
      generalize xs[k] = x at hxk
      obtain ⟨b, off, rfl, hDb, hrow⟩ := hx (by rintro rfl; simp at hlt)
      obtain ⟨cs, rfl, hcs⟩ := hrow k x hxk
      have hbl := hD b hDb
      have c0 : wr.cell? ⟨b, off + k * 2, none⟩ = some (.int .i64 x.dst) := (HB.out.cell (p := ⟨b, _, none⟩) hbl).trans (hcs 0 _ rfl).1
      have c1 : wr.cell? ⟨b, off + k * 2 + 1, none⟩ = some (.int .i64 x.src) := (HB.out.cell (p := ⟨b, _, none⟩) hbl).trans (hcs 1 _ rfl).1
      clear hcs hrow hx
      have Hxk := Lib.hid hxk
      clear hxk
      go_wp2_with fail
      refine (toMove_any _ _ _).mono ?_
      rintro e w1 ⟨rfl, hb1⟩
      have hsz1 := hb1.size
      have HF1 : Hid (Fill w1 w.heap.size 99 2 xs.length k EMove xs) := HF.out.keep (hb1.block _ hsz) fun _ _ h => h
      obtain ⟨u0, d0⟩ := HF1.out.cell (j := 0) hlt (by omega)
      obtain ⟨u1, d1⟩ := HF1.out.cell (j := 1) hlt (by omega)
      have f0 := HF1.out.frozen (k * 2)
      have f1 := HF1.out.frozen (k * 2 + 1)
      rw [Nat.add_zero] at d0
      have HB1 : Hid (Below w.heap.size w w1) := HB.out.trans (hb1.mono (by omega))
      clear hb1 HB HF
      go_wp2_with fail
      go_roundw
      case rel =>
        exact ⟨k + 1, by omega, by go_num, (HB1.out.setCell (by simp) _).setCell (by simp) _, by simp; omega, HF1.out.store (cs := [.int .i64 x.dst, .int .i64 x.src]) Hxk.out hlt rfl rfl (fun _ _ h => h) (fun _ _ h => by rw [h]; rfl)⟩
      case measure => simp [intOf]; omega
    · obtain rfl : k = xs.length := by omega
      go_wp2
      go_ret
      exact ⟨_, rfl, HF.out.row (Z := Zn.new _ _) rfl (by omega) ⟨Nat.le_refl _, hsz⟩ _, HB.out⟩

theorem info_Ins : (Try.prog.info? 101).map (fun i => (i.zero, i.size, i.bytes)) = some (some (.agg #[.int .i64 0, .int .i64 0, .int .i64 0, .int .i64 0]), 4, 32) := by kernel_rfl

set_option maxHeartbeats 400000 in
theorem toInsS_any (v : Value) (xs : List InsD) (w : World) (Z : Zn) (hv : Row w Z 4 EIns v xs) (hD : ∀ b, Z.D b → b < w.heap.size) (hn : xs.length ≤ 1048576) :
    Calls Try.prog 105 #[v] w (GivesV (fun w Z v => Row w Z 4 EIns v xs) w) := by
  obtain ⟨_, A, c, rfl, hx⟩ := hv
  obtain ⟨i0, hi, hz0, hz1, hz2⟩ := info_parts info_Ins
  have hmk := fun W => run_make_rowN (P := Try.prog) 41 101 i0 _ Try.underlying41 hi hz0 .i64 .i64 xs.length xs.length (Nat.le_refl _) (by rw [hz2]; omega) (by omega) W
  rw [hz1] at hmk
  clear hi hz0 hz1 hz2
  go_enter Try.func105, Try.ntmps105
  go_wp2
  go_loopw [4] (fun i wr => ∃ k : Nat, k ≤ xs.length ∧ i = .int .i64 k ∧ Hid (Below w.heap.size w wr) ∧ w.heap.size < wr.heap.size ∧ Hid (Fill wr w.heap.size 101 4 xs.length k EIns xs)) (fun i _ => xs.length - (intOf i).toNat)
  case atStart => exact ⟨0, Nat.zero_le _, rfl, (Below.refl _ _).alloc (Nat.le_refl _) _, by simp, Fill.zero (heap_alloc_new w _) (size_madeCells _ _)⟩
  case round =>
    obtain ⟨k, hk, rfl, HB, hsz, HF⟩ := hrel
    by_cases hlt : k < xs.length
    · have hxk : xs[k]? = some xs[k] := List.getElem?_eq_getElem hlt
      generalize xs[k] = x at hxk
      obtain ⟨b, off, rfl, hDb, hrow⟩ := hx (by rintro rfl; simp at hlt)
      obtain ⟨cs, rfl, hcs⟩ := hrow k x hxk
      have hbl := hD b hDb
      have c0 : wr.cell? ⟨b, off + k * 4, none⟩ = some (.int .i64 x.op) := (HB.out.cell (p := ⟨b, _, none⟩) hbl).trans (hcs 0 _ rfl).1
      have c1 : wr.cell? ⟨b, off + k * 4 + 1, none⟩ = some (.int .i64 x.v) := (HB.out.cell (p := ⟨b, _, none⟩) hbl).trans (hcs 1 _ rfl).1
      have c2 : wr.cell? ⟨b, off + k * 4 + 2, none⟩ = some (.int .i64 x.a) := (HB.out.cell (p := ⟨b, _, none⟩) hbl).trans (hcs 2 _ rfl).1
      have c3 : wr.cell? ⟨b, off + k * 4 + 3, none⟩ = some (.int .i64 x.b) := (HB.out.cell (p := ⟨b, _, none⟩) hbl).trans (hcs 3 _ rfl).1
      clear hcs hrow hx
      have Hxk := Lib.hid hxk
      clear hxk
      go_wp2_with fail
      refine (toIns_any _ _ _ _ _).mono ?_
      rintro e w1 ⟨rfl, hb1⟩
      have hsz1 := hb1.size
      have HF1 : Hid (Fill w1 w.heap.size 101 4 xs.length k EIns xs) := HF.out.keep (hb1.block _ hsz) fun _ _ h => h
      obtain ⟨u0, d0⟩ := HF1.out.cell (j := 0) hlt (by omega)
      obtain ⟨u1, d1⟩ := HF1.out.cell (j := 1) hlt (by omega)
      obtain ⟨u2, d2⟩ := HF1.out.cell (j := 2) hlt (by omega)
      obtain ⟨u3, d3⟩ := HF1.out.cell (j := 3) hlt (by omega)
      have f2 := HF1.out.frozen (k * 4 + 2)
      have f3 := HF1.out.frozen (k * 4 + 3)
      have f0 := HF1.out.frozen (k * 4)
      have f1 := HF1.out.frozen (k * 4 + 1)
      rw [Nat.add_zero] at d0
      have HB1 : Hid (Below w.heap.size w w1) := HB.out.trans (hb1.mono (by omega))
      clear hb1 HB HF
      go_wp2_with fail
      go_roundw
      case rel =>
        exact ⟨k + 1, by omega, by go_num, (((HB1.out.setCell (by simp) _).setCell (by simp) _).setCell (by simp) _).setCell (by simp) _, by simp; omega, HF1.out.store (cs := [.int .i64 x.op, .int .i64 x.v, .int .i64 x.a, .int .i64 x.b]) Hxk.out hlt rfl rfl (fun _ _ h => h) (fun _ _ h => by rw [h]; rfl)⟩
      case measure => simp [intOf]; omega
    · obtain rfl : k = xs.length := by omega
      go_wp2
      go_ret
      exact ⟨_, rfl, HF.out.row (Z := Zn.new _ _) rfl (by omega) ⟨Nat.le_refl _, hsz⟩ _, HB.out⟩

theorem info_Int : (Try.prog.info? 2).map (fun i => (i.zero, i.size, i.bytes)) = some (some (.int .i64 0), 1, 8) := by kernel_rfl

set_option maxHeartbeats 400000 in
theorem toInt64S_any (v : Value) (xs : List Int) (w : World) (Z : Zn) (hv : Row w Z 1 EInt v xs) (hD : ∀ b, Z.D b → b < w.heap.size) (hn : xs.length ≤ 1048576) :
    Calls Try.prog 124 #[v] w (GivesV (fun w Z v => Row w Z 1 EInt v xs) w) := by
  obtain ⟨_, A, c, rfl, hx⟩ := hv
  obtain ⟨i0, hi, hz0, hz1, hz2⟩ := info_parts info_Int
  have hmk := fun W => run_make_rowN (P := Try.prog) 36 2 i0 _ Try.underlying36 hi hz0 .i64 .i64 xs.length xs.length (Nat.le_refl _) (by rw [hz2]; omega) (by omega) W
  rw [hz1] at hmk
  clear hi hz0 hz1 hz2
  go_enter Try.func124, Try.ntmps124
  go_wp2
  go_loopw [4] (fun i wr => ∃ k : Nat, k ≤ xs.length ∧ i = .int .i64 k ∧ Hid (Below w.heap.size w wr) ∧ w.heap.size < wr.heap.size ∧ Hid (Fill wr w.heap.size 2 1 xs.length k EInt xs)) (fun i _ => xs.length - (intOf i).toNat)
  case atStart => exact ⟨0, Nat.zero_le _, rfl, (Below.refl _ _).alloc (Nat.le_refl _) _, by simp, Fill.zero (heap_alloc_new w _) (by simp [size_madeCells])⟩
  case round =>
    obtain ⟨k, hk, rfl, HB, hsz, HF⟩ := hrel
    by_cases hlt : k < xs.length
    · have hxk : xs[k]? = some xs[k] := List.getElem?_eq_getElem hlt
      generalize xs[k] = x at hxk
      obtain ⟨b, off, rfl, hDb, hrow⟩ := hx (by rintro rfl; simp at hlt)
      obtain ⟨cs, rfl, hcs⟩ := hrow k x hxk
      have hbl := hD b hDb
      have c0 : wr.cell? ⟨b, off + k, none⟩ = some (.int .i64 x) := (HB.out.cell (p := ⟨b, _, none⟩) hbl).trans (by have := (hcs 0 _ rfl).1; rwa [Nat.mul_one] at this)
      clear hcs hrow hx
      have Hxk := Lib.hid hxk
      clear hxk
      obtain ⟨u0, d0⟩ := HF.out.cell (j := 0) hlt (by omega)
      have f0 := HF.out.frozen k
      rw [Nat.mul_one, Nat.add_zero] at d0
      go_wp2
      go_roundw
      case rel =>
        refine ⟨k + 1, by omega, by go_num, HB.out.setCell (by simp) _, by simp; omega, ?_⟩
        have h := HF.out.store (cs := [.int .i64 x]) Hxk.out hlt rfl rfl (fun _ _ h => h) (fun _ _ h => by rw [h]; rfl)
        rw [Nat.mul_one] at h
        exact h
      case measure => simp [intOf]; omega
    · obtain rfl : k = xs.length := by omega
      go_wp2
      go_ret
      exact ⟨_, rfl, HF.out.row (Z := Zn.new _ _) rfl (by omega) ⟨Nat.le_refl _, hsz⟩ _, HB.out⟩
end

/- toPhi and toPhiS of the laws. -/
section
open Go.ChangeShapes Go.WideShapes Go.ChangeAt Go.RowKit Go.Joins

def GivesE (R : World → Zn → List Value → Prop) (w : World) (e : Ending) (w' : World) : Prop := ∃ cs, e = .returned (.agg cs.toArray) ∧ R w' (Zn.new w.heap.size w'.heap.size) cs ∧ Below w.heap.size w w'

theorem Zn.new_mono {lo lo' hi hi' : Nat} (h1 : lo' ≤ lo) (h2 : hi ≤ hi') : ∀ b, (Zn.new lo hi).D b → (Zn.new lo' hi').D b := fun _ h => ⟨Nat.le_trans h1 h.1, Nat.lt_of_lt_of_le h.2 h2⟩
theorem Kept.new {lo lo' hi hi' : Nat} {w w' : World} (h1 : lo' ≤ lo) (h2 : hi ≤ hi') (hw : ∀ b, lo ≤ b → b < hi → w'.heap[b]? = w.heap[b]?) : Kept (Zn.new lo hi) (Zn.new lo' hi') w w' :=
  ⟨Zn.new_mono h1 h2, fun h => h, fun b h => hw b h.1 h.2⟩

set_option maxHeartbeats 400000 in
theorem toPhi_any (a : Int) (u : Value) (xs : List Int) (w : World) (Z : Zn) (hv : Row w Z 1 EInt u xs) (hD : ∀ b, Z.D b → b < w.heap.size) (hn : xs.length ≤ 1048576) :
    Calls Try.prog 116 #[.agg #[.int .i64 a, u]] w (GivesE (fun w Z cs => EPhi w Z ⟨a, xs⟩ cs) w) := by
  have HV := Lib.hid hv
  obtain ⟨_, A, c, rfl, _⟩ := hv
  go_enter Try.func116, Try.ntmps116
  go_wp2_with fail
  refine (toInt64S_any _ _ _ Z (HV.out.keep (Kept.below (B := w.heap.size) (by repeat (first | exact Below.refl _ _ | refine Below.alloc ?_ (by first | (simp; done) | (simp; omega)) _ | refine Below.setCell ?_ (by simp) _)) hD) fun _ _ h => h) (fun b hb => by have := hD b hb; simp; omega) hn).mono ?_
  rintro e w1 ⟨r, rfl, hr, hb1⟩
  have HR := Lib.hid hr
  obtain ⟨_, A1, c1, rfl, _⟩ := hr
  obtain ⟨hc, hf⟩ := bcell hb1
  have hz : w.heap.size + 3 ≤ w1.heap.size := by have := hb1.size; simp at this; omega
  have HB := Lib.hid hb1
  clear hb1
  go_wp2_with fail
  refine bodyPost_ret (v := .agg #[.int .i64 a, .slice A1 xs.length c1]) (by simp [results, Try.results116, go_sem, hc]) rfl ?_
  refine ⟨[.int .i64 a, .slice A1 xs.length c1], rfl, ⟨_, rfl, HR.out.keep (Kept.new (by simp; omega) (by simp) fun b h1 h2 => ?_) fun _ _ h => h⟩, ?_⟩
  · simp at h1
    repeat (first | rfl | refine (Below.heap_setCell _ _ _ _ (by simp; omega)).trans ?_)
  · refine Below.setCell (Below.setCell (Below.setCell (Below.trans ?_ (HB.out.mono (by simp; omega))) (by simp; omega) _) (by simp) _) (by simp) _
    repeat (first | exact Below.refl _ _ | refine Below.alloc ?_ (by first | (simp; done) | (simp; omega)) _ | refine Below.setCell ?_ (by simp) _)

theorem info_Phi : (Try.prog.info? 104).map (fun i => (i.zero, i.size, i.bytes)) = some (some (.agg #[.int .i64 0, .slice none 0 0]), 2, 32) := by kernel_rfl

theorem EPhi.len {w : World} {Z : Zn} (p : PhiD) (cs : List Value) (h : EPhi w Z p cs) : cs.length = 2 := by
  obtain ⟨v, rfl, _⟩ := h
  rfl

def smallPhi (p : PhiD) : Prop := p.args.length ≤ 1048576

set_option maxHeartbeats 400000 in
theorem toPhiS_any (v : Value) (xs : List PhiD) (w : World) (Z : Zn) (hv : Row w Z 2 (EPhi w Z) v xs) (hD : ∀ b, Z.D b → b < w.heap.size) (hn : xs.length ≤ 1048576) (hm : ∀ p ∈ xs, smallPhi p) :
    Calls Try.prog 103 #[v] w (GivesV (fun w Z v => Row w Z 2 (EPhi w Z) v xs) w) := by
  obtain ⟨_, A, c, rfl, hx⟩ := hv
  obtain ⟨i0, hi, hz0, hz1, hz2⟩ := info_parts info_Phi
  have hmk := fun W => run_make_rowN (P := Try.prog) 39 104 i0 _ Try.underlying39 hi hz0 .i64 .i64 xs.length xs.length (Nat.le_refl _) (by rw [hz2]; omega) (by omega) W
  rw [hz1] at hmk
  clear hi hz0 hz1 hz2
  go_enter Try.func103, Try.ntmps103
  go_wp2
  go_loopw [4] (fun i wr => ∃ k : Nat, k ≤ xs.length ∧ i = .int .i64 k ∧ Hid (Below w.heap.size w wr) ∧ w.heap.size < wr.heap.size ∧ Hid (Fill wr w.heap.size 104 2 xs.length k (EPhi wr (Zn.new (w.heap.size + 1) wr.heap.size)) xs)) (fun i _ => xs.length - (intOf i).toNat)
  case atStart => exact ⟨0, Nat.zero_le _, rfl, (Below.refl _ _).alloc (Nat.le_refl _) _, by simp, Fill.zero (heap_alloc_new w _) (size_madeCells _ _)⟩
  case round =>
    obtain ⟨k, hk, rfl, HB, hsz, HF⟩ := hrel
    by_cases hlt : k < xs.length
    · have hxk : xs[k]? = some xs[k] := List.getElem?_eq_getElem hlt
      have hmk := hm _ (List.getElem_mem hlt)
      generalize xs[k] = x at hxk hmk
      obtain ⟨b, off, rfl, hDb, hrow⟩ := hx (by rintro rfl; simp at hlt)
      obtain ⟨cs, ⟨u, rfl, hu⟩, hcs⟩ := hrow k x hxk
      have hbl := hD b hDb
      have c0 : wr.cell? ⟨b, off + k * 2, none⟩ = some (.int .i64 x.v) := (HB.out.cell (p := ⟨b, _, none⟩) hbl).trans (hcs 0 _ rfl).1
      have c1 : wr.cell? ⟨b, off + k * 2 + 1, none⟩ = some u := (HB.out.cell (p := ⟨b, _, none⟩) hbl).trans (hcs 1 _ rfl).1
      have HU := Lib.hid (hu.keep (Kept.below HB.out hD) fun _ _ h => h)
      have Hxk := Lib.hid hxk
      have Hm := Lib.hid hmk
      clear hcs hrow hx hxk hu hmk
      go_wp2_with fail
      refine (toPhi_any x.v u x.args wr Z HU.out (fun b hb => by have := hD b hb; have := HB.out.size; omega) Hm.out).mono ?_
      rintro e w1 ⟨cs, rfl, ⟨r, rfl, hr⟩, hb1⟩
      have HR := Lib.hid hr
      obtain ⟨_, A1, c1', rfl, _⟩ := hr
      have hsz1 := hb1.size
      have HF1 : Hid (Fill w1 w.heap.size 104 2 xs.length k (EPhi w1 (Zn.new (w.heap.size + 1) w1.heap.size)) xs) := HF.out.keep (hb1.block _ hsz) fun _ _ h => h.keep (Kept.new (Nat.le_refl _) hsz1 fun b _ h2 => hb1.block b h2)
      obtain ⟨u0, d0⟩ := HF1.out.cell (j := 0) hlt (by omega)
      obtain ⟨u1, d1⟩ := HF1.out.cell (j := 1) hlt (by omega)
      have f0 := HF1.out.frozen (k * 2)
      have f1 := HF1.out.frozen (k * 2 + 1)
      rw [Nat.add_zero] at d0
      have HB1 : Hid (Below w.heap.size w w1) := HB.out.trans (hb1.mono (by omega))
      clear hb1 HB HF
      go_wp2_with fail
      go_roundw
      case rel =>
        refine ⟨k + 1, by omega, by go_num, (HB1.out.setCell (by simp) _).setCell (by simp) _, by simp; omega, ?_⟩
        have hg := storeAll_grown [.int .i64 x.v, .slice A1 x.args.length c1'] w1 w.heap.size (k * 2)
        have hK : ∀ lo, w.heap.size + 1 ≤ lo → Kept (Zn.new lo w1.heap.size) (Zn.new (w.heap.size + 1) w1.heap.size) w1 _ := fun lo hlo => Kept.new hlo (Nat.le_refl _) fun b h1 h2 => hg.block b h2 (by simp; omega)
        have h := HF1.out.store (cs := [.int .i64 x.v, .slice A1 x.args.length c1']) (E' := EPhi (storeAll w1 w.heap.size (k * 2) [.int .i64 x.v, .slice A1 x.args.length c1']) (Zn.new (w.heap.size + 1) w1.heap.size)) Hxk.out hlt ⟨_, rfl, HR.out.keep (hK _ (by omega)) fun _ _ h => h⟩ rfl (fun _ _ h => h.keep (hK _ (Nat.le_refl _))) (fun _ _ h => h.len)
        simpa [storeAll, Hid] using h
      case measure => simp [intOf]; omega
    · obtain rfl : k = xs.length := by omega
      go_wp2
      go_ret
      exact ⟨_, rfl, (HF.out.keep rfl fun _ _ h => h.keep (Kept.new (by omega) (Nat.le_refl _) fun _ _ _ => rfl)).row (Z := Zn.new _ _) rfl (by omega) ⟨Nat.le_refl _, hsz⟩ _, HB.out⟩
end

/- toBlock, toBlockS and toFun of the laws. -/
section
open Go.ChangeShapes Go.WideShapes Go.ChangeAt Go.RowKit Go.Joins

theorem kept_step {lo g o : Nat} {u : Value} {w V w' : World} (hV : V = w.setCell ⟨g, o, none⟩ u) (hg : g < lo) (hb : Below V.heap.size V w') : Kept (Zn.new lo w.heap.size) (Zn.new lo w'.heap.size) w w' := by
  subst hV
  have hs := hb.size
  simp only [nblk_set] at hs
  refine Kept.new (Nat.le_refl _) hs fun b h1 h2 => ?_
  exact (hb.block b (by rw [nblk_set]; exact h2)).trans (Below.heap_setCell _ _ _ _ (by first | omega | (simp; done) | (simp; omega)))

def smallBlock (x : BlockD) : Prop := x.phis.length ≤ 1048576 ∧ (∀ p ∈ x.phis, smallPhi p) ∧ x.head.length ≤ 1048576 ∧ x.body.length ≤ 1048576 ∧ x.tail.length ≤ 1048576
def smallFun (f : FunD) : Prop := f.blocks.length ≤ 1048576 ∧ ∀ x ∈ f.blocks, smallBlock x

set_option maxHeartbeats 1000000 in
theorem toBlock_any (x : BlockD) (cs : List Value) (w : World) (Z : Zn) (hv : EBlock w Z x cs) (hD : ∀ b, Z.D b → b < w.heap.size) (hn : smallBlock x) :
    Calls Try.prog 91 #[.agg cs.toArray] w (GivesE (fun w Z cs => EBlock w Z x cs) w) := by
  obtain ⟨v0, v1, v2, v3, rfl, hv0, hv1, hv2, hv3⟩ := hv
  obtain ⟨hn0, hn1, hn2, hn3, hn4⟩ := hn
  have HV0 := Lib.hid hv0
  have HV1 := Lib.hid hv1
  have HV2 := Lib.hid hv2
  have HV3 := Lib.hid hv3
  have HN1 := Lib.hid hn1
  obtain ⟨_, A0, c0, rfl, _⟩ := hv0
  obtain ⟨_, A1, c1, rfl, _⟩ := hv1
  obtain ⟨_, A2, c2, rfl, _⟩ := hv2
  obtain ⟨_, A3, c3, rfl, _⟩ := hv3
  clear hn1
  go_enter Try.func91, Try.ntmps91
  go_wp2_with fail
  have hK1 : ∀ V : World, Below w.heap.size w V → Kept Z Z w V := fun V hb => Kept.below hb hD
  refine (toPhiS_any _ _ _ Z (HV0.out.keep (hK1 _ (by repeat (first | exact Below.refl _ _ | refine Below.alloc ?_ (by first | (simp; done) | (simp; omega)) _ | refine Below.setCell ?_ (by simp) _))) fun _ _ h => h.keep (hK1 _ (by repeat (first | exact Below.refl _ _ | refine Below.alloc ?_ (by first | (simp; done) | (simp; omega)) _ | refine Below.setCell ?_ (by simp) _)))) (fun b hb => by have := hD b hb; first | omega | (simp; omega)) hn0 HN1.out).mono ?_
  rintro e w1 ⟨r, rfl, hr, hb1⟩
  have HB1 : Hid (Below w.heap.size w w1) := Below.trans (by repeat (first | exact Below.refl _ _ | refine Below.alloc ?_ (by first | (simp; done) | (simp; omega)) _ | refine Below.setCell ?_ (by simp) _)) (hb1.mono (by first | omega | (simp; done) | (simp; omega)))
  have HR0 : Hid (Row w1 (Zn.new (w.heap.size + 3) w1.heap.size) 2 (EPhi w1 (Zn.new (w.heap.size + 3) w1.heap.size)) r x.phis) := by simpa [Hid] using hr
  obtain ⟨_, B0, d0, rfl, _⟩ := hr
  obtain ⟨hc1, hf1⟩ := bcellB (hb1.mono (B' := w.heap.size + 3) (by simp))
  have hz1 : w.heap.size + 3 ≤ w1.heap.size := by have := hb1.size; simp at this; omega
  clear hb1
  go_wp2_with fail
  refine (toMoveS_any _ _ _ Z (HV1.out.keep (hK1 _ (HB1.out.setCell (by first | omega | (simp; done) | (simp; omega)) _)) fun _ _ h => h) (fun b hb => by have := hD b hb; first | omega | (simp; omega)) hn2).mono ?_
  rintro e w2 ⟨r, rfl, hr, hb2⟩
  have HB2 : Hid (Below w.heap.size w w2) := (HB1.out.setCell (by first | omega | (simp; done) | (simp; omega)) _).trans (hb2.mono (by first | omega | (simp; done) | (simp; omega)))
  have HK : Hid (Kept (Zn.new (w.heap.size + 3) w1.heap.size) (Zn.new (w.heap.size + 3) w2.heap.size) w1 w2) := kept_step rfl (by omega) hb2
  have hz2 : w1.heap.size ≤ w2.heap.size := by have := hb2.size; first | omega | (simp at this; omega)
  replace HR0 := Lib.hid (HR0.out.keep HK.out fun _ _ h => h.keep HK.out)
  have HR1 : Hid (Row w2 (Zn.new (w.heap.size + 3) w2.heap.size) 2 EMove r x.head) := hr.keep (Kept.new (by first | omega | (simp; done) | (simp; omega)) (Nat.le_refl _) fun _ _ _ => rfl) fun _ _ h => h
  obtain ⟨_, B1, d1, rfl, _⟩ := hr
  obtain ⟨hc2, hf2⟩ := bcellB (hb2.mono (B' := w.heap.size + 3) (by first | omega | (simp; omega)))
  clear hb2 HK
  go_wp2_with fail
  refine (toInsS_any _ _ _ Z (HV2.out.keep (hK1 _ (HB2.out.setCell (by first | omega | (simp; done) | (simp; omega)) _)) fun _ _ h => h) (fun b hb => by have := hD b hb; first | omega | (simp; omega)) hn3).mono ?_
  rintro e w3 ⟨r, rfl, hr, hb3⟩
  have HB3 : Hid (Below w.heap.size w w3) := (HB2.out.setCell (by first | omega | (simp; done) | (simp; omega)) _).trans (hb3.mono (by first | omega | (simp; done) | (simp; omega)))
  have HK : Hid (Kept (Zn.new (w.heap.size + 3) w2.heap.size) (Zn.new (w.heap.size + 3) w3.heap.size) w2 w3) := kept_step rfl (by omega) hb3
  have hz3 : w2.heap.size ≤ w3.heap.size := by have := hb3.size; first | omega | (simp at this; omega)
  replace HR0 := Lib.hid (HR0.out.keep HK.out fun _ _ h => h.keep HK.out)
  replace HR1 := Lib.hid (HR1.out.keep HK.out fun _ _ h => h)
  have HR2 : Hid (Row w3 (Zn.new (w.heap.size + 3) w3.heap.size) 4 EIns r x.body) := hr.keep (Kept.new (by first | omega | (simp; done) | (simp; omega)) (Nat.le_refl _) fun _ _ _ => rfl) fun _ _ h => h
  obtain ⟨_, B2, d2, rfl, _⟩ := hr
  obtain ⟨hc3, hf3⟩ := bcellB (hb3.mono (B' := w.heap.size + 3) (by first | omega | (simp; omega)))
  clear hb3 HK
  go_wp2_with fail
  refine (toMoveS_any _ _ _ Z (HV3.out.keep (hK1 _ (HB3.out.setCell (by first | omega | (simp; done) | (simp; omega)) _)) fun _ _ h => h) (fun b hb => by have := hD b hb; first | omega | (simp; omega)) hn4).mono ?_
  rintro e w4 ⟨r, rfl, hr, hb4⟩
  have HB4 : Hid (Below w.heap.size w w4) := (HB3.out.setCell (by first | omega | (simp; done) | (simp; omega)) _).trans (hb4.mono (by first | omega | (simp; done) | (simp; omega)))
  have HK : Hid (Kept (Zn.new (w.heap.size + 3) w3.heap.size) (Zn.new (w.heap.size + 3) w4.heap.size) w3 w4) := kept_step rfl (by omega) hb4
  have hz4 : w3.heap.size ≤ w4.heap.size := by have := hb4.size; first | omega | (simp at this; omega)
  replace HR0 := Lib.hid (HR0.out.keep HK.out fun _ _ h => h.keep HK.out)
  replace HR1 := Lib.hid (HR1.out.keep HK.out fun _ _ h => h)
  replace HR2 := Lib.hid (HR2.out.keep HK.out fun _ _ h => h)
  have HR3 : Hid (Row w4 (Zn.new (w.heap.size + 3) w4.heap.size) 2 EMove r x.tail) := hr.keep (Kept.new (by first | omega | (simp; done) | (simp; omega)) (Nat.le_refl _) fun _ _ _ => rfl) fun _ _ h => h
  obtain ⟨_, B3, d3, rfl, _⟩ := hr
  obtain ⟨hc4, hf4⟩ := bcellB (hb4.mono (B' := w.heap.size + 3) (by first | omega | (simp; omega)))
  clear hb4 HK
  go_wp2_with fail
  refine (toEnd_any _ _ _ _ _).mono ?_
  rintro e w5 ⟨rfl, hb5⟩
  have HB5 : Hid (Below w.heap.size w w5) := (HB4.out.setCell (by first | omega | (simp; done) | (simp; omega)) _).trans (hb5.mono (by first | omega | (simp; done) | (simp; omega)))
  have HK : Hid (Kept (Zn.new (w.heap.size + 3) w4.heap.size) (Zn.new (w.heap.size + 3) w5.heap.size) w4 w5) := kept_step rfl (by omega) hb5
  have hz5 : w4.heap.size ≤ w5.heap.size := by have := hb5.size; first | omega | (simp at this; omega)
  replace HR0 := Lib.hid (HR0.out.keep HK.out fun _ _ h => h.keep HK.out)
  replace HR1 := Lib.hid (HR1.out.keep HK.out fun _ _ h => h)
  replace HR2 := Lib.hid (HR2.out.keep HK.out fun _ _ h => h)
  replace HR3 := Lib.hid (HR3.out.keep HK.out fun _ _ h => h)
  obtain ⟨hc5, hf5⟩ := bcellB (hb5.mono (B' := w.heap.size + 3) (by first | omega | (simp; omega)))
  clear hb5 HK
  unfold vEnd
  go_wp2_with fail
  refine bodyPost_ret (v := .agg #[.slice B0 x.phis.length d0, .slice B1 x.head.length d1, .slice B2 x.body.length d2, .slice B3 x.tail.length d3, .int .i64 x.fin.k, .int .i64 x.fin.a, .int .i64 x.fin.t, .int .i64 x.fin.l]) (by simp [results, Try.results91, go_sem, hc5, hc4, hc3, hc2, hc1]) rfl ?_
  refine ⟨[.slice B0 x.phis.length d0, .slice B1 x.head.length d1, .slice B2 x.body.length d2, .slice B3 x.tail.length d3, .int .i64 x.fin.k, .int .i64 x.fin.a, .int .i64 x.fin.t, .int .i64 x.fin.l], rfl, ?_, ?_⟩
  · refine EBlock.keep (w := w5) (Z := Zn.new (w.heap.size + 3) w5.heap.size) ⟨_, _, _, _, rfl, HR0.out, HR1.out, HR2.out, HR3.out⟩ (Kept.new (by omega) (by simp) fun b hb _ => ?_)
    repeat (refine (Below.heap_setCell _ _ _ _ (by simp; omega)).trans ?_)
    with_reducible rfl
  repeat (refine Below.setCell ?_ (by first | (simp; done) | (simp; omega)) _)
  exact HB5.out


theorem info_Block : (Try.prog.info? 43).map (fun i => (i.zero, i.size, i.bytes)) = some (some (.agg #[.slice none 0 0, .slice none 0 0, .slice none 0 0, .slice none 0 0, .int .i64 0, .int .i64 0, .int .i64 0, .int .i64 0]), 8, 128) := by kernel_rfl

theorem EBlock.len {w : World} {Z : Zn} (p : BlockD) (cs : List Value) (h : EBlock w Z p cs) : cs.length = 8 := by
  obtain ⟨_, _, _, _, rfl, _⟩ := h
  rfl

set_option maxHeartbeats 1000000 in
theorem toBlockS_any (v : Value) (xs : List BlockD) (w : World) (Z : Zn) (hv : Row w Z 8 (EBlock w Z) v xs) (hD : ∀ b, Z.D b → b < w.heap.size) (hn : xs.length ≤ 1048576) (hm : ∀ p ∈ xs, smallBlock p) :
    Calls Try.prog 67 #[v] w (GivesV (fun w Z v => Row w Z 8 (EBlock w Z) v xs) w) := by
  obtain ⟨_, A, c, rfl, hx⟩ := hv
  obtain ⟨i0, hi, hz0, hz1, hz2⟩ := info_parts info_Block
  have hmk := fun W => run_make_rowN (P := Try.prog) 24 43 i0 _ Try.underlying24 hi hz0 .i64 .i64 xs.length xs.length (Nat.le_refl _) (by rw [hz2]; omega) (by omega) W
  rw [hz1] at hmk
  clear hi hz0 hz1 hz2
  go_enter Try.func67, Try.ntmps67
  go_wp2
  go_loopw [4] (fun i wr => ∃ k : Nat, k ≤ xs.length ∧ i = .int .i64 k ∧ Hid (Below w.heap.size w wr) ∧ w.heap.size < wr.heap.size ∧ Hid (Fill wr w.heap.size 43 8 xs.length k (EBlock wr (Zn.new (w.heap.size + 1) wr.heap.size)) xs)) (fun i _ => xs.length - (intOf i).toNat)
  case atStart => exact ⟨0, Nat.zero_le _, rfl, (Below.refl _ _).alloc (Nat.le_refl _) _, by simp, Fill.zero (heap_alloc_new w _) (size_madeCells _ _)⟩
  case round =>
    obtain ⟨k, hk, rfl, HB, hsz, HF⟩ := hrel
    by_cases hlt : k < xs.length
    · have hxk : xs[k]? = some xs[k] := List.getElem?_eq_getElem hlt
      have hmk := hm _ (List.getElem_mem hlt)
      generalize xs[k] = x at hxk hmk
      obtain ⟨b, off, rfl, hDb, hrow⟩ := hx (by rintro rfl; simp at hlt)
      obtain ⟨cs, hu, hcs⟩ := hrow k x hxk
      have HU := Lib.hid (hu.keep (Kept.below HB.out hD))
      obtain ⟨v0, v1, v2, v3, rfl, _⟩ := hu
      have hbl := hD b hDb
      have c0 : wr.cell? ⟨b, off + k * 8, none⟩ = some v0 := (HB.out.cell (p := ⟨b, _, none⟩) hbl).trans (hcs 0 _ rfl).1
      have c1 : wr.cell? ⟨b, off + k * 8 + 1, none⟩ = some v1 := (HB.out.cell (p := ⟨b, _, none⟩) hbl).trans (hcs 1 _ rfl).1
      have c2 : wr.cell? ⟨b, off + k * 8 + 2, none⟩ = some v2 := (HB.out.cell (p := ⟨b, _, none⟩) hbl).trans (hcs 2 _ rfl).1
      have c3 : wr.cell? ⟨b, off + k * 8 + 3, none⟩ = some v3 := (HB.out.cell (p := ⟨b, _, none⟩) hbl).trans (hcs 3 _ rfl).1
      have c4 : wr.cell? ⟨b, off + k * 8 + 4, none⟩ = some (.int .i64 x.fin.k) := (HB.out.cell (p := ⟨b, _, none⟩) hbl).trans (hcs 4 _ rfl).1
      have c5 : wr.cell? ⟨b, off + k * 8 + 5, none⟩ = some (.int .i64 x.fin.a) := (HB.out.cell (p := ⟨b, _, none⟩) hbl).trans (hcs 5 _ rfl).1
      have c6 : wr.cell? ⟨b, off + k * 8 + 6, none⟩ = some (.int .i64 x.fin.t) := (HB.out.cell (p := ⟨b, _, none⟩) hbl).trans (hcs 6 _ rfl).1
      have c7 : wr.cell? ⟨b, off + k * 8 + 7, none⟩ = some (.int .i64 x.fin.l) := (HB.out.cell (p := ⟨b, _, none⟩) hbl).trans (hcs 7 _ rfl).1
      have Hxk := Lib.hid hxk
      have Hm := Lib.hid hmk
      clear hcs hrow hx hxk hmk
      go_wp2_with fail
      refine (toBlock_any x _ wr Z HU.out (fun b hb => by have := hD b hb; have := HB.out.size; omega) Hm.out).mono ?_
      rintro e w1 ⟨cs, rfl, hr, hb1⟩
      have HR := Lib.hid hr
      obtain ⟨r0, r1, r2, r3, rfl, ⟨_, A0, c0, rfl, _⟩, ⟨_, A1, c1, rfl, _⟩, ⟨_, A2, c2, rfl, _⟩, ⟨_, A3, c3, rfl, _⟩⟩ := hr
      have hsz1 := hb1.size
      have HF1 : Hid (Fill w1 w.heap.size 43 8 xs.length k (EBlock w1 (Zn.new (w.heap.size + 1) w1.heap.size)) xs) := HF.out.keep (hb1.block _ hsz) fun _ _ h => h.keep (Kept.new (Nat.le_refl _) hsz1 fun b _ h2 => hb1.block b h2)
      obtain ⟨u0, d0⟩ := HF1.out.cell (j := 0) hlt (by omega)
      have f0 := HF1.out.frozen (k * 8)
      obtain ⟨u1, d1⟩ := HF1.out.cell (j := 1) hlt (by omega)
      have f1 := HF1.out.frozen (k * 8 + 1)
      obtain ⟨u2, d2⟩ := HF1.out.cell (j := 2) hlt (by omega)
      have f2 := HF1.out.frozen (k * 8 + 2)
      obtain ⟨u3, d3⟩ := HF1.out.cell (j := 3) hlt (by omega)
      have f3 := HF1.out.frozen (k * 8 + 3)
      obtain ⟨u4, d4⟩ := HF1.out.cell (j := 4) hlt (by omega)
      have f4 := HF1.out.frozen (k * 8 + 4)
      obtain ⟨u5, d5⟩ := HF1.out.cell (j := 5) hlt (by omega)
      have f5 := HF1.out.frozen (k * 8 + 5)
      obtain ⟨u6, d6⟩ := HF1.out.cell (j := 6) hlt (by omega)
      have f6 := HF1.out.frozen (k * 8 + 6)
      obtain ⟨u7, d7⟩ := HF1.out.cell (j := 7) hlt (by omega)
      have f7 := HF1.out.frozen (k * 8 + 7)
      rw [Nat.add_zero] at d0
      have HB1 : Hid (Below w.heap.size w w1) := HB.out.trans (hb1.mono (by omega))
      clear hb1 HB HF
      go_wp2_with fail
      go_roundw
      case rel =>
        refine ⟨k + 1, by omega, by go_num, (((((((HB1.out.setCell (by simp) _).setCell (by simp) _).setCell (by simp) _).setCell (by simp) _).setCell (by simp) _).setCell (by simp) _).setCell (by simp) _).setCell (by simp) _, by simp; omega, ?_⟩
        have hg := storeAll_grown [.slice A0 x.phis.length c0, .slice A1 x.head.length c1, .slice A2 x.body.length c2, .slice A3 x.tail.length c3, .int .i64 x.fin.k, .int .i64 x.fin.a, .int .i64 x.fin.t, .int .i64 x.fin.l] w1 w.heap.size (k * 8)
        have hK : ∀ lo, w.heap.size + 1 ≤ lo → Kept (Zn.new lo w1.heap.size) (Zn.new (w.heap.size + 1) w1.heap.size) w1 _ := fun lo hlo => Kept.new hlo (Nat.le_refl _) fun b h1 h2 => hg.block b h2 (by simp; omega)
        have h := HF1.out.store (cs := [.slice A0 x.phis.length c0, .slice A1 x.head.length c1, .slice A2 x.body.length c2, .slice A3 x.tail.length c3, .int .i64 x.fin.k, .int .i64 x.fin.a, .int .i64 x.fin.t, .int .i64 x.fin.l]) (E' := EBlock (storeAll w1 w.heap.size (k * 8) [.slice A0 x.phis.length c0, .slice A1 x.head.length c1, .slice A2 x.body.length c2, .slice A3 x.tail.length c3, .int .i64 x.fin.k, .int .i64 x.fin.a, .int .i64 x.fin.t, .int .i64 x.fin.l]) (Zn.new (w.heap.size + 1) w1.heap.size)) Hxk.out hlt (HR.out.keep (hK _ (by omega))) rfl (fun _ _ h => h.keep (hK _ (Nat.le_refl _))) (fun _ _ h => h.len)
        simpa [storeAll, Hid] using h
      case measure => simp [intOf]; omega
    · obtain rfl : k = xs.length := by omega
      go_wp2
      go_ret
      exact ⟨_, rfl, (HF.out.keep rfl fun _ _ h => h.keep (Kept.new (by omega) (Nat.le_refl _) fun _ _ _ => rfl)).row (Z := Zn.new _ _) rfl (by omega) ⟨Nat.le_refl _, hsz⟩ _, HB.out⟩

set_option maxHeartbeats 400000 in
theorem toFun_any (f : FunD) (v : Value) (w : World) (Z : Zn) (hv : EFun w Z f v) (hD : ∀ b, Z.D b → b < w.heap.size) (hn : smallFun f) :
    Calls Try.prog 32 #[v] w (GivesV (fun w Z v => EFun w Z f v) w) := by
  obtain ⟨u, rfl, hu⟩ := hv
  have HV := Lib.hid hu
  obtain ⟨_, A, c, rfl, _⟩ := hu
  go_enter Try.func32, Try.ntmps32
  go_wp2_with fail
  have hK1 : ∀ V : World, Below w.heap.size w V → Kept Z Z w V := fun V hb => Kept.below hb hD
  refine (toBlockS_any _ _ _ Z (HV.out.keep (hK1 _ (by repeat (first | exact Below.refl _ _ | refine Below.alloc ?_ (by first | (simp; done) | (simp; omega)) _ | refine Below.setCell ?_ (by simp) _))) fun _ _ h => h.keep (hK1 _ (by repeat (first | exact Below.refl _ _ | refine Below.alloc ?_ (by first | (simp; done) | (simp; omega)) _ | refine Below.setCell ?_ (by simp) _)))) (fun b hb => by have := hD b hb; simp; omega) hn.1 hn.2).mono ?_
  rintro e w1 ⟨r, rfl, hr, hb1⟩
  have HB1 : Hid (Below w.heap.size w w1) := Below.trans (by repeat (first | exact Below.refl _ _ | refine Below.alloc ?_ (by first | (simp; done) | (simp; omega)) _ | refine Below.setCell ?_ (by simp) _)) (hb1.mono (by simp; omega))
  have HR0 : Hid (Row w1 (Zn.new (w.heap.size + 3) w1.heap.size) 8 (EBlock w1 (Zn.new (w.heap.size + 3) w1.heap.size)) r f.blocks) := by simpa [Hid] using hr
  obtain ⟨_, B0, d0, rfl, _⟩ := hr
  obtain ⟨hc1, hf1⟩ := bcellB (hb1.mono (B' := w.heap.size + 3) (by simp))
  have hz1 : w.heap.size + 3 ≤ w1.heap.size := by have := hb1.size; simp at this; omega
  clear hb1
  go_wp2_with fail
  refine bodyPost_ret (v := .agg #[.int .i64 f.params, .int .i64 f.names, .slice B0 f.blocks.length d0]) (by simp [results, Try.results32, go_sem, hc1]) rfl ?_
  refine ⟨_, rfl, ?_, ?_⟩
  · refine EFun.keep (w := w1) (Z := Zn.new (w.heap.size + 3) w1.heap.size) ⟨_, rfl, HR0.out⟩ (Kept.new (by omega) (by simp) fun b hb _ => ?_)
    repeat (refine (Below.heap_setCell _ _ _ _ (by simp; omega)).trans ?_)
    with_reducible rfl
  repeat (refine Below.setCell ?_ (by first | (simp; done) | (simp; omega)) _)
  exact HB1.out
end

end Go.Proofs.Yteikpekffgifoaa
