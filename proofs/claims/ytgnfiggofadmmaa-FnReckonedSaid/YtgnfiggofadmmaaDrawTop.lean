/- What starts a drawing, and the drawings of chapter 1. -/
import Derived.Test.YtgnfiggofadmmaaDrawAny
namespace Go.Proofs.Ytgnfiggofadmmaa
open Go.ChangeShapes Go.WideShapes Go.ChangeAt Go.RowKit Go.Joins

def GivesCur (B : Nat) (w : World) (e : Ending) (w' : World) : Prop := e = .returned (.pointer (some ⟨w.heap.size, 0, none⟩)) ∧ Cur w' B w.heap.size ∧ w.grownBy w' none

set_option maxHeartbeats 1000000 in
theorem l1New_any (B n : Nat) (v : Value) (w : World) (hv : Code w B v n) (hB : B ≤ w.heap.size) :
    Calls Try.prog 24 #[v] w (GivesCur B w) := by
  have HV := Lib.hid hv
  obtain ⟨hn, A, c, rfl, hv⟩ := hv
  have hfin : ∀ (h : Int), GivesCur B w (.returned (.pointer (some ⟨w.heap.size, 0, none⟩))) (w.alloc (.cells #[.slice A n c, .int .i64 0, .int .i64 h] 58)) := fun h =>
    ⟨rfl, ⟨hB, _, n, 0, h, HV.out.keep fun b o' hb => World.cell?_alloc_lt w _ ⟨b, o', none⟩ (show b < w.heap.size by omega), by omega, heap_alloc_new w _⟩, grown_alloc (World.grownBy.refl _ _) _⟩
  have HF := Lib.hid hfin
  clear hfin
  go_enter Try.func24, Try.ntmps24
  go_wp2
  go_loop [3, 4] (fun q i => ∃ (k : Nat) (h : Int), k ≤ n ∧ i = .int .i64 k ∧ q = .int .i64 h) (fun _ i => n - (intOf i).toNat)
  case atStart => exact ⟨0, _, Nat.zero_le _, rfl, rfl⟩
  case round =>
    obtain ⟨k, h, hk, rfl, rfl⟩ := hrel
    by_cases hlt : k < n
    · obtain ⟨b, off, rfl, hb, hcell⟩ := hv (by omega)
      obtain ⟨u, hu0, hu1, hcu⟩ := hcell k hlt
      clear hv hcell
      go_wp2
      go_round
      case rel => exact ⟨k + 1, _, by omega, by go_num, rfl⟩
      case measure => simp [intOf]; omega
    · obtain rfl : k = n := by omega
      clear hv
      go_wp2
      go_ret
      exact HF.out h

def GivesInsTop (w : World) (e : Ending) (w' : World) : Prop := ∃ o v a b : Int, e = .returned (.agg #[.int .i64 o, .int .i64 v, .int .i64 a, .int .i64 b]) ∧ w.grownBy w' none

/-- What only a cursor, which was made here, and new blocks were written in, is as it was. -/
theorem grown_own {w w1 w2 : World} {g : Nat} (h1 : w.grownBy w1 none) (h2 : w1.grownBy w2 (some g)) (hg : w.heap.size ≤ g) : w.grownBy w2 none :=
  ⟨h2.os.trans h1.os, h2.tape.trans h1.tape, h2.output.trans h1.output, Nat.le_trans h1.size h2.size, fun k hk _ => (h2.block k (Nat.lt_of_lt_of_le hk h1.size) (fun e => by injection e; omega)).trans (h1.block k hk (by simp))⟩

set_option maxHeartbeats 1000000 in
theorem DrawInsOk_any (B n : Nat) (v : Value) (w : World) (hv : Code w B v n) (hB : B ≤ w.heap.size) :
    Calls Try.prog 8 #[v] w (GivesInsTop w) := by
  have HV := Lib.hid hv
  clear hv
  go_enter Try.func8, Try.ntmps8
  go_wp2_with fail
  refine (l1New_any B n v _ (HV.out.keep fun b o' hb => World.cell?_alloc_lt w _ ⟨b, o', none⟩ (show b < w.heap.size by omega)) (by simp; omega)).mono ?_
  have hs0 : (w.alloc (.cells #[.int .i64 0, .int .i64 0, .int .i64 0, .int .i64 0] 25)).heap.size = w.heap.size + 1 := by simp
  unfold GivesCur
  rw [hs0]
  rintro e w1 ⟨rfl, hc1, HG1⟩
  clear hs0
  have HC1 := Lib.hid hc1
  clear hc1
  go_wp2_with fail
  refine (l1DrawAny_any B _ _ HC1.out).mono ?_
  rintro e w2 ⟨o, v, a, b, rfl, hc2, HG2⟩
  have hR : InsB (w.alloc (.cells #[.int .i64 0, .int .i64 0, .int .i64 0, .int .i64 0] 25)) w.heap.size 0 0 0 0 := heap_alloc_new w _
  have hR1 : InsB w1 w.heap.size 0 0 0 0 := (HG1.block _ hR.lt (by simp)).trans hR
  have hR2 := hR1.grown HG2 (by omega)
  have HG := Lib.hid (grown_own (World.grownBy.trans (grown_alloc (World.grownBy.refl _ _) _) HG1) HG2 (by omega))
  obtain ⟨⟨p0, p1, p2, p3⟩, ⟨q0, q1, q2, q3⟩⟩ := hR2.cells
  clear hR hR1 hR2 HG1 HG2 hc2
  go_wp2_with fail
  refine bodyPost_ret (v := .agg #[.int .i64 o, .int .i64 v, .int .i64 a, .int .i64 b]) (by simp [results, Try.results8, go_sem, p0, p1, p2, p3]) rfl ⟨_, _, _, _, rfl, ?_⟩
  exact grown_new (grown_new (grown_new (grown_new HG.out (Nat.le_refl _) _ _) (Nat.le_refl _) _ _) (Nat.le_refl _) _ _) (Nat.le_refl _) _ _

def GivesReck (w : World) (e : Ending) (w' : World) : Prop := ∃ o a b : Int, e = .returned (.tuple #[.int .i64 o, .int .i64 a, .int .i64 b]) ∧ w.grownBy w' none

set_option maxHeartbeats 1000000 in
theorem DrawReckoned_any (B n : Nat) (v : Value) (w : World) (hv : Code w B v n) (hB : B ≤ w.heap.size) :
    Calls Try.prog 9 #[v] w (GivesReck w) := by
  have HV := Lib.hid hv
  clear hv
  go_enter Try.func9, Try.ntmps9
  go_wp2_with fail
  refine (l1New_any B n v _ HV.out hB).mono ?_
  rintro e w1 ⟨rfl, hc1, HG1⟩
  have HC1 := Lib.hid hc1
  clear hc1
  go_wp2_with fail
  refine (l1From_any B _ 0 8 _ HC1.out (by omega) (by omega) (by omega)).mono ?_
  rintro e w2 ⟨o, rfl, ho0, ho1, hc2, HG2⟩
  have HC2 := Lib.hid hc2
  clear hc2
  go_wp2_with fail
  refine (l1Once_any B _ _ _ HC2.out).mono ?_
  rintro e w3 ⟨x, rfl, hc3, HG3⟩
  have HC3 := Lib.hid hc3
  have HGA := Lib.hid (HG2.trans HG3)
  clear hc3 HG2 HG3
  cases x
  · go_wp2_with fail
    refine (l1Below_any B _ _ _ HC3.out).mono ?_
    rintro e w4 ⟨a, rfl, ha0, ha1, hc4, HG4⟩
    have HC4 := Lib.hid hc4
    clear hc4
    go_wp2_with fail
    refine (l1Below_any B _ _ _ HC4.out).mono ?_
    rintro e w5 ⟨b, rfl, hb0, hb1, hc5, HG5⟩
    have HG := Lib.hid (grown_own HG1 (HGA.out.trans (HG4.trans HG5)) (Nat.le_refl _))
    clear hc5 HG4 HG5
    go_wp2_with fail
    go_ret3
    exact ⟨_, _, _, rfl, HG.out⟩
  · go_wp2_with fail
    refine (l1Num_any B _ _ _ HC3.out (by omega) (by omega)).mono ?_
    rintro e w4 ⟨a, rfl, hc4, HG4⟩
    have HC4 := Lib.hid hc4
    clear hc4
    go_wp2_with fail
    refine (l1Num_any B _ _ _ HC4.out (by omega) (by omega)).mono ?_
    rintro e w5 ⟨b, rfl, hc5, HG5⟩
    have HG := Lib.hid (grown_own HG1 (HGA.out.trans (HG4.trans HG5)) (Nat.le_refl _))
    clear hc5 HG4 HG5
    go_wp2_with fail
    go_ret3
    exact ⟨_, _, _, rfl, HG.out⟩

end Go.Proofs.Ytgnfiggofadmmaa
