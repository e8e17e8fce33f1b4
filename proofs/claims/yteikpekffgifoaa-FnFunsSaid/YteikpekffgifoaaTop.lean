/- The drawings of functions, each from its own code. -/
import Derived.Test.YteikpekffgifoaaDr9
namespace Go.Proofs.Yteikpekffgifoaa
open Go.ChangeShapes Go.WideShapes Go.ChangeAt Go.RowKit Go.Joins

def GivesCur (B : Nat) (w : World) (e : Ending) (w' : World) : Prop := e = .returned (.pointer (some ⟨w.heap.size, 0, none⟩)) ∧ Cur w' B w.heap.size ∧ w.grownBy w' none

set_option maxHeartbeats 1000000 in
theorem l1New_any (B n : Nat) (v : Value) (w : World) (hv : Code w B v n) (hB : B ≤ w.heap.size) :
    Calls Try.prog 35 #[v] w (GivesCur B w) := by
  have HV := Lib.hid hv
  obtain ⟨hn, A, c, rfl, hv⟩ := hv
  have hfin : ∀ (h : Int), GivesCur B w (.returned (.pointer (some ⟨w.heap.size, 0, none⟩))) (w.alloc (.cells #[.slice A n c, .int .i64 0, .int .i64 h] 97)) := fun h =>
    ⟨rfl, ⟨hB, _, n, 0, h, HV.out.keep fun b o' hb => World.cell?_alloc_lt w _ ⟨b, o', none⟩ (show b < w.heap.size by omega), by omega, heap_alloc_new w _⟩, grown_alloc (World.grownBy.refl _ _) _⟩
  have HF := Lib.hid hfin
  clear hfin
  go_enter Try.func35, Try.ntmps35
  go_wp2
  go_loop [3, 4] (fun q i => ∃ (k : Nat) (h : Int), k ≤ n ∧ i = .int .i64 k ∧ q = .int .i64 h) (fun _ i => n - (intOf i).toNat)
  case atStart => exact ⟨0, _, Nat.zero_le _, rfl, rfl⟩
  case round =>
    obtain ⟨k, h, hk, rfl, rfl⟩ := hrel
    by_cases hlt : k < n
    · obtain ⟨b, off, rfl, hb, hcell⟩ := hv (by omega)
      obtain ⟨u, hu0, hu1, hcu⟩ := hcell k hlt
      clear hv hcell
      go_wp2
      go_round
      case rel => exact ⟨k + 1, _, by omega, by go_num, rfl⟩
      case measure => simp [intOf]; omega
    · obtain rfl : k = n := by omega
      clear hv
      go_wp2
      go_ret
      exact HF.out h

/-- All that was there bears the label 8, all that is new the label 9. -/
def L89 (n : Nat) : Nat → List Nat := relab (fun _ => [8]) n [9]
theorem dsta_start {w w1 : World} {B : Nat} (hB : B ≤ w.heap.size) (hc : Cur w1 B w.heap.size) : DSta w1 B w.heap.size (L89 w.heap.size) := ⟨hc, relab_new _ (Nat.le_refl _), fun k hk => if_pos (by omega)⟩
theorem below_start {w w1 w2 : World} (hg : w.grownBy w1 none) (hw : Wr (fun p => p ≠ [8]) (L89 w.heap.size) w1 w2) : Below w.heap.size w w2 := by
  have h1 : Below w.heap.size w w1 := ⟨hg.os, hg.tape, hg.output, hg.size, fun k hk => hg.block k hk (by simp)⟩
  exact h1.trans (hw.toBelow hg.size fun k hk h => h (if_pos hk))

def GivesF (w : World) (e : Ending) (w' : World) : Prop := ∃ (fd : FunD) (v : Value), e = .returned v ∧ EFun w' (Zn.new w.heap.size w'.heap.size) fd v ∧ fd.blocks.length ≤ 7 ∧ Below w.heap.size w w'

theorem EFun.wider {w : World} {lo lo' hi : Nat} {f : FunD} {v : Value} (h : EFun w (Zn.new lo hi) f v) (hl : lo' ≤ lo) : EFun w (Zn.new lo' hi) f v :=
  h.keep ⟨fun _ hb => ⟨Nat.le_trans hl hb.1, hb.2⟩, fun h => h, fun _ _ => rfl⟩

theorem below_set {B q : Nat} {w w' : World} (h : Below B w w') (hq : B ≤ q) (j : Nat) (u : Value) : Below B w (w'.setCell ⟨q, j, none⟩ u) :=
  ⟨h.os, h.tape, h.output, by simpa using h.size, fun k hk => (Below.heap_setCell w' ⟨q, j, none⟩ u k (by show k ≠ q; omega)).trans (h.block k hk)⟩
theorem EFun.set {w : World} {lo hi q : Nat} {f : FunD} {v : Value} (h : EFun w (Zn.new lo hi) f v) (hq : q < lo) (j : Nat) (u : Value) : EFun (w.setCell ⟨q, j, none⟩ u) (Zn.new lo hi) f v :=
  h.keep ⟨fun _ hb => hb, fun h => h, fun b hb => Below.heap_setCell w ⟨q, j, none⟩ u b (by have := hb.1; show b ≠ q; omega)⟩
theorem EFun.top {w : World} {lo hi hi' : Nat} {f : FunD} {v : Value} (h : EFun w (Zn.new lo hi) f v) (hl : hi ≤ hi') : EFun w (Zn.new lo hi') f v :=
  h.keep ⟨fun _ hb => ⟨hb.1, Nat.lt_of_lt_of_le hb.2 hl⟩, fun h => h, fun _ _ => rfl⟩

/-- What is stored in the result's block behind a drawing. -/
theorem gives_set3 {w w2 : World} {lo hi : Nat} {f : FunD} {v : Value} (h : EFun w2 (Zn.new lo hi) f v) (hlo : w.heap.size < lo) (hhi : hi ≤ w2.heap.size) (hb : Below w.heap.size w w2) (u0 u1 u2 : Value) :
    EFun (((w2.setCell ⟨w.heap.size, 0, none⟩ u0).setCell ⟨w.heap.size, 1, none⟩ u1).setCell ⟨w.heap.size, 2, none⟩ u2) (Zn.new w.heap.size (((w2.setCell ⟨w.heap.size, 0, none⟩ u0).setCell ⟨w.heap.size, 1, none⟩ u1).setCell ⟨w.heap.size, 2, none⟩ u2).heap.size) f v ∧
    Below w.heap.size w (((w2.setCell ⟨w.heap.size, 0, none⟩ u0).setCell ⟨w.heap.size, 1, none⟩ u1).setCell ⟨w.heap.size, 2, none⟩ u2) :=
  ⟨((((h.set hlo 0 u0).set hlo 1 u1).set hlo 2 u2).wider (Nat.le_of_lt hlo)).top (by simpa using hhi), below_set (below_set (below_set hb (Nat.le_refl _) 0 u0) (Nat.le_refl _) 1 u1) (Nat.le_refl _) 2 u2⟩

set_option maxHeartbeats 1000000 in
theorem DrawFunOk_any (B n : Nat) (v : Value) (w : World) (hv : Code w B v n) (hB : B ≤ w.heap.size) :
    Calls Try.prog 7 #[v] w (GivesF w) := by
  have HV := Lib.hid hv
  have hs0 : (w.alloc (.cells #[.int .i64 0, .int .i64 0, .slice none 0 0] 26)).heap.size = w.heap.size + 1 := by simp
  have HR0 := Lib.hid (heap_alloc_new w (.cells #[.int .i64 0, .int .i64 0, .slice none 0 0] 26))
  clear hv
  go_enter Try.func7, Try.ntmps7
  go_wp2_with fail
  refine (l1New_any B n v _ (HV.out.keep fun b o' hb => World.cell?_alloc_lt w _ ⟨b, o', none⟩ (show b < w.heap.size by omega)) (by simp; omega)).mono ?_
  rintro e w1 ⟨rfl, hc1, hg1⟩
  have hd1 := dsta_start (by rw [hs0]; omega) hc1
  have HZ := Lib.hid hg1.size
  rw [hs0] at hd1 HZ ⊢
  have HD1 := Lib.hid hd1
  have HG1 := Lib.hid hg1
  clear hc1 hd1 hg1
  go_wp2_with fail
  refine (l2DrawAny_any _ B _ _ HD1.out).mono ?_
  rintro e w2 ⟨L2, fd, v2, rfl, _, hw2, _, he, hl⟩
  have hb2 : Below (w.heap.size + 1) (w.alloc (.cells #[.int .i64 0, .int .i64 0, .slice none 0 0] 26)) w2 := by have := below_start HG1.out (by rw [hs0]; exact hw2); rwa [hs0] at this
  have hr2 := (hb2.block w.heap.size (by omega)).trans HR0.out
  have HBW : Hid (Below w.heap.size w w2) := ((Below.refl _ _).alloc (Nat.le_refl _) _).trans (hb2.mono (by omega))
  have HE := Lib.hid he
  obtain ⟨u, rfl, hu⟩ := he
  obtain ⟨_, A, c, rfl, _⟩ := hu
  have hR0 := cell_of_row w2 w.heap.size 0 _ _ _ hr2
  have hR1 := cell_of_row w2 w.heap.size 1 _ _ _ hr2
  have hR2 := cell_of_row w2 w.heap.size 2 _ _ _ hr2
  have hRf0 := frozen_of_row w2 w.heap.size 0 _ _ hr2
  have hRf1 := frozen_of_row w2 w.heap.size 1 _ _ hr2
  have hRf2 := frozen_of_row w2 w.heap.size 2 _ _ hr2
  clear hw2 hb2 hr2
  go_wp2_with fail
  refine bodyPost_ret (v := .agg #[.int .i64 fd.params, .int .i64 fd.names, .slice A fd.blocks.length c]) (by simp [results, Try.results7, go_sem, hR0, hR1, hR2]) rfl ?_
  obtain ⟨o1, o2⟩ := gives_set3 HE.out HZ.out (Nat.le_refl _) HBW.out (.int .i64 fd.params) (.int .i64 fd.names) (.slice A fd.blocks.length c)
  exact ⟨fd, _, rfl, o1, hl, o2⟩

set_option maxHeartbeats 1000000 in
theorem DrawOrderOf_any (B n : Nat) (v : Value) (w : World) (hv : Code w B v n) (hB : B ≤ w.heap.size) :
    Calls Try.prog 20 #[v] w (GivesF w) := by
  have HV := Lib.hid hv
  have hs0 : (w.alloc (.cells #[.int .i64 0, .int .i64 0, .slice none 0 0] 26)).heap.size = w.heap.size + 1 := by simp
  have HR0 := Lib.hid (heap_alloc_new w (.cells #[.int .i64 0, .int .i64 0, .slice none 0 0] 26))
  clear hv
  go_enter Try.func20, Try.ntmps20
  go_wp2_with fail
  refine (l1New_any B n v _ (HV.out.keep fun b o' hb => World.cell?_alloc_lt w _ ⟨b, o', none⟩ (show b < w.heap.size by omega)) (by simp; omega)).mono ?_
  rintro e w1 ⟨rfl, hc1, hg1⟩
  have hd1 := dsta_start (by rw [hs0]; omega) hc1
  have HZ := Lib.hid hg1.size
  rw [hs0] at hd1 HZ ⊢
  have HD1 := Lib.hid hd1
  have HG1 := Lib.hid hg1
  clear hc1 hd1 hg1
  go_wp2_with fail
  refine (l2DrawAny_any _ B _ _ HD1.out).mono ?_
  rintro e w2 ⟨L2, fd, v2, rfl, _, hw2, _, he, hl⟩
  have hb2 : Below (w.heap.size + 1) (w.alloc (.cells #[.int .i64 0, .int .i64 0, .slice none 0 0] 26)) w2 := by have := below_start HG1.out (by rw [hs0]; exact hw2); rwa [hs0] at this
  have hr2 := (hb2.block w.heap.size (by omega)).trans HR0.out
  have HBW : Hid (Below w.heap.size w w2) := ((Below.refl _ _).alloc (Nat.le_refl _) _).trans (hb2.mono (by omega))
  have HE := Lib.hid he
  obtain ⟨u, rfl, hu⟩ := he
  obtain ⟨_, A, c, rfl, _⟩ := hu
  have hR0 := cell_of_row w2 w.heap.size 0 _ _ _ hr2
  have hR1 := cell_of_row w2 w.heap.size 1 _ _ _ hr2
  have hR2 := cell_of_row w2 w.heap.size 2 _ _ _ hr2
  have hRf0 := frozen_of_row w2 w.heap.size 0 _ _ hr2
  have hRf1 := frozen_of_row w2 w.heap.size 1 _ _ hr2
  have hRf2 := frozen_of_row w2 w.heap.size 2 _ _ hr2
  clear hw2 hb2 hr2
  go_wp2_with fail
  refine bodyPost_ret (v := .agg #[.int .i64 fd.params, .int .i64 fd.names, .slice A fd.blocks.length c]) (by simp [results, Try.results20, go_sem, hR0, hR1, hR2]) rfl ?_
  obtain ⟨o1, o2⟩ := gives_set3 HE.out HZ.out (Nat.le_refl _) HBW.out (.int .i64 fd.params) (.int .i64 fd.names) (.slice A fd.blocks.length c)
  exact ⟨fd, _, rfl, o1, hl, o2⟩

end Go.Proofs.Yteikpekffgifoaa
