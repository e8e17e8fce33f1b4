/- big, likeInts, roll, below and same of the laws. -/
import Derived.Test.YtgnfiggofadmmaaDrawTop
namespace Go.Proofs.Ytgnfiggofadmmaa
open Go.ChangeShapes Go.WideShapes Go.ChangeAt Go.RowKit Go.Joins

set_option maxHeartbeats 400000 in
theorem big_yes (A : Option Addr) (n c : Nat) (w : World) (h : 4096 < n) : Calls Try.prog 7 #[.slice A n c] w fun e w' => e = .returned (.bool true) ∧ w = w' := by
  have hb : decide ((4096 : Int) < (n : Int)) = true := by simp; omega
  go_enter Try.func7, Try.ntmps7
  go_wp2
  go_ret
  exact ⟨rfl, rfl⟩
set_option maxHeartbeats 400000 in
theorem big_no (A : Option Addr) (n c : Nat) (w : World) (h : n ≤ 4096) : Calls Try.prog 7 #[.slice A n c] w fun e w' => e = .returned (.bool false) ∧ w = w' := by
  have hb : decide ((4096 : Int) < (n : Int)) = false := by simp; omega
  go_enter Try.func7, Try.ntmps7
  go_wp2
  go_ret
  exact ⟨rfl, rfl⟩

def sameB (a b : Int) : Int := if a = b then 1 else 0
set_option maxHeartbeats 400000 in
theorem same_any (a b : Int) (w : World) : Calls Try.prog 19 #[.int .i64 a, .int .i64 b] w fun e w' => e = .returned (.int .i64 (sameB a b)) ∧ w = w' := by
  by_cases h : a = b
  · subst h
    have HE : Hid (sameB a a = 1) := if_pos rfl
    go_enter Try.func19, Try.ntmps19
    go_wp2
    go_ret
    exact ⟨by rw [HE.out]; rfl, rfl⟩
  · have hb : (a == b) = false := by simpa using h
    have HE : Hid (sameB a b = 0) := if_neg h
    clear h
    go_enter Try.func19, Try.ntmps19
    go_wp2
    go_ret
    exact ⟨by rw [HE.out]; rfl, rfl⟩

/-- Block g is a dice. -/
def Dice (w : World) (B g : Nat) : Prop :=
  B ≤ g ∧ ∃ (v : Value) (n i : Nat) (h : Int), Code w B v n ∧ i ≤ n ∧ w.heap[g]? = some (.cells #[v, .int .i64 i, .int .u64 h] 55 (0, 0))
theorem dice_lt {w : World} {B g : Nat} (h : Dice w B g) : g < w.heap.size := by
  obtain ⟨_, _, _, _, _, _, _, hg⟩ := h
  rcases Nat.lt_or_ge g w.heap.size with hlt | hge
  · exact hlt
  · rw [Array.getElem?_eq_none hge] at hg; cases hg
theorem dice_back {w w' : World} {B g : Nat} (hB : B ≤ g) (hs : g < w.heap.size) {v : Value} {n i : Nat} {h : Int} (hv : Code w B v n) (hi : i ≤ n) (hg : w.grownBy w' (some g)) (hh : w'.heap[g]? = some (.cells #[v, .int .i64 i, .int .u64 h] 55 (0, 0))) : Dice w' B g :=
  ⟨hB, v, n, i, h, hv.keep (keepB hB (by omega) hg), hi, hh⟩

theorem and24 (a : Int) : 0 ≤ bits .and .u64 a 16777215 ∧ bits .and .u64 a 16777215 ≤ 16777215 := by
  have h : bits .and .u64 a 16777215 = IntKind.u64.wrap (((BitVec.ofInt 64 a) &&& (BitVec.ofInt 64 16777215)).toNat : Int) := rfl
  have h2 : ((BitVec.ofInt 64 a) &&& (BitVec.ofInt 64 16777215)).toNat ≤ 16777215 := by
    rw [BitVec.toNat_and]
    exact Nat.le_trans Nat.and_le_right (by decide)
  have h3 : ∀ m : Int, IntKind.u64.wrap m = m % 18446744073709551616 := fun m => by simp [IntKind.wrap, IntKind.signed, IntKind.bits]
  rw [h, h3]
  omega

set_option maxHeartbeats 1000000 in
theorem below_any (B g : Nat) (n : Int) (w : World) (hc : Dice w B g) (hn0 : 0 < n) :
    Calls Try.prog 18 #[.pointer (some ⟨g, 0, none⟩), .int .i64 n] w fun e w' => ∃ x : Int, e = .returned (.int .i64 x) ∧ 0 ≤ x ∧ x < n ∧ Dice w' B g ∧ w.grownBy w' (some g) := by
  have hlt0 := dice_lt hc
  obtain ⟨hB, v, m, i, h, hv0, hi, hg⟩ := hc
  have c0 : w.cell? ⟨g, 0, none⟩ = some v := cell_of_row w g 0 _ _ _ hg
  have c1 : w.cell? ⟨g, 1, none⟩ = some (.int .i64 i) := cell_of_row w g 1 _ _ _ hg
  have c2 : w.cell? ⟨g, 2, none⟩ = some (.int .u64 h) := cell_of_row w g 2 _ _ _ hg
  have f1 : w.frozen? ⟨g, 1, none⟩ = false := frozen_of_row w g 1 _ _ hg
  have f2 : w.frozen? ⟨g, 2, none⟩ = false := frozen_of_row w g 2 _ _ hg
  have HG := Lib.hid hg
  clear hg
  have HV := Lib.hid hv0
  obtain ⟨hn, A, c, rfl, hv⟩ := hv0
  by_cases hlt : i < m
  · obtain ⟨b, off, rfl, hb, hcell⟩ := hv (by omega)
    obtain ⟨u, hu0, hu1, hcu⟩ := hcell i hlt
    have hne : b ≠ g := by omega
    clear hcell hv
    go_enter Try.func18, Try.ntmps18
    go_wp2
    generalize IntKind.u64.wrap (IntKind.u64.wrap (h * 6364136223846793005) + 1442695040888963407) = y
    obtain ⟨hx0, hx1⟩ := and24 (y / 8589934592)
    generalize bits .and .u64 (y / 8589934592) 16777215 = x at *
    rw [IntWalk.wrap64_in x ⟨by omega, by omega⟩]
    go_quiet (fail)
    go_wp2
    go_quiet (fail)
    go_wp2
    go_ret
    have H1 := heap_setCell_same w g 2 _ _ (.int .u64 y) HG.out
    have H2 := heap_setCell_same (w.setCell ⟨g, 2, none⟩ (.int .u64 y)) g 1 _ _ (.int .i64 ((i + 1 : Nat) : Int)) H1
    have hgr : w.grownBy ((w.setCell ⟨g, 2, none⟩ (.int .u64 y)).setCell ⟨g, 1, none⟩ (.int .i64 ((i + 1 : Nat) : Int))) (some g) := grown_set (grown_set (World.grownBy.refl _ _) _ _) _ _
    exact ⟨_, rfl, (mod_range hn0).1, (mod_range hn0).2, dice_back hB hlt0 HV.out (i := i + 1) (by omega) (grown_drewN hgr _) H2, grown_drewN hgr _⟩
  · have hii : i = m := by omega
    subst hii
    clear hv
    go_enter Try.func18, Try.ntmps18
    go_wp2
    generalize IntKind.u64.wrap (IntKind.u64.wrap (h * 6364136223846793005) + 1442695040888963407) = y
    obtain ⟨hx0, hx1⟩ := and24 (y / 8589934592)
    generalize bits .and .u64 (y / 8589934592) 16777215 = x at *
    rw [IntWalk.wrap64_in x ⟨by omega, by omega⟩]
    go_quiet (fail)
    go_wp2
    go_ret
    have H1 := heap_setCell_same w g 2 _ _ (.int .u64 y) HG.out
    have hgr : w.grownBy (w.setCell ⟨g, 2, none⟩ (.int .u64 y)) (some g) := grown_set (World.grownBy.refl _ _) _ _
    exact ⟨_, rfl, (mod_range hn0).1, (mod_range hn0).2, dice_back hB hlt0 HV.out (Nat.le_refl _) (grown_drewN hgr _) H1, grown_drewN hgr _⟩

def GivesDice (B : Nat) (w : World) (e : Ending) (w' : World) : Prop := e = .returned (.pointer (some ⟨w.heap.size, 0, none⟩)) ∧ Dice w' B w.heap.size ∧ w.grownBy w' none

set_option maxHeartbeats 1000000 in
theorem roll_any (B n : Nat) (v : Value) (seed : Int) (w : World) (hv : Code w B v n) (hB : B ≤ w.heap.size) :
    Calls Try.prog 17 #[v, .int .u64 seed] w (GivesDice B w) := by
  have HV := Lib.hid hv
  obtain ⟨hn, A, c, rfl, hv⟩ := hv
  go_enter Try.func17, Try.ntmps17
  go_wp2
  go_loopw [6] (fun i wr => ∃ k : Nat, k ≤ n ∧ i = .int .i64 k ∧ Hid (w.grownBy wr none) ∧ ∃ h : Int, Hid (wr.heap[w.heap.size]? = some (.cells #[.slice A n c, .int .i64 0, .int .u64 h] 55 (0, 0)))) (fun i _ => n - (intOf i).toNat)
  case atStart => exact ⟨0, Nat.zero_le _, rfl, grown_alloc (World.grownBy.refl _ _) _, _, heap_alloc_new w _⟩
  case round =>
    obtain ⟨k, hk, rfl, HG, h, HH⟩ := hrel
    have c2 : wr.cell? ⟨w.heap.size, 2, none⟩ = some (.int .u64 h) := cell_of_row wr _ 2 _ _ _ HH.out
    have f2 : wr.frozen? ⟨w.heap.size, 2, none⟩ = false := frozen_of_row wr _ 2 _ _ HH.out
    by_cases hlt : k < n
    · obtain ⟨b, off, rfl, hb, hcell⟩ := hv (by omega)
      obtain ⟨u, hu0, hu1, hcu⟩ := hcell k hlt
      have hcw : wr.cell? ⟨b, off + k, none⟩ = some (.int .u8 u) := (World.cell?_of_block (HG.out.block b (by omega) (by simp))).trans hcu
      clear hv hcell hcu
      go_wp2
      go_region
      go_wp2
      go_roundw
      case rel =>
        refine ⟨k + 1, by omega, by go_num, ?_, _, heap_setCell_same wr w.heap.size 2 _ _ _ HH.out⟩
        exact ⟨HG.out.os, HG.out.tape, HG.out.output, by simpa [World.setCell] using HG.out.size, fun j hj hne => (Below.heap_setCell wr ⟨w.heap.size, 2, none⟩ _ j (show j ≠ w.heap.size by omega)).trans (HG.out.block j hj hne)⟩
      case measure => simp [intOf]; omega
    · obtain rfl : k = n := by omega
      clear hv
      go_wp2
      go_ret
      exact ⟨rfl, ⟨hB, _, _, 0, h, HV.out.keep fun b o' hb => World.cell?_of_block (HG.out.block b (by omega) (by simp)), by omega, HH.out⟩, HG.out⟩

theorem cell_lt {w : World} {a : Addr} {v : Value} (h : w.cell? a = some v) : a.block < w.heap.size ∧ a.spot = none := by
  unfold World.cell? at h
  rcases Nat.lt_or_ge a.block w.heap.size with hlt | hge
  · refine ⟨hlt, ?_⟩
    split at h
    · split at h
      · cases h
      · rename_i hs; simpa using hs
    · cases h
  · rw [Array.getElem?_eq_none hge] at h; cases h

/-- A []byte that came in: a code, where it is not too long. -/
theorem code_open {H : Type} {enc : TypeId × Value → H} {W : World} {base : Nat} {v : Value} {d : DataW H} {p : List MemPlace} (hv : Value.okWide Try.prog W .any base 22 v) (h : DataW.Trod enc Try.prog W 0 (fun _ => true) true 22 v d p) :
    ∃ A n c, v = .slice A n c ∧ (n ≤ 4096 → Code W W.heap.size v n) := by
  obtain ⟨a0, len, cap, rfl⟩ := okWide_slice Try.underlying22 hv
  obtain ⟨fuel, hf⟩ := h
  refine ⟨a0, len, cap, rfl, fun hn => ?_⟩
  rcases open_ints Try.underlying22 Try.underlying5 (by kernel_rfl) hf with ⟨hcs, hx⟩ | ⟨a, len', cap', zs, hcs, _, hl, hm, hz, hx, hcell, hwz⟩
  · simp [Value.cells] at hcs
    obtain ⟨rfl, rfl, rfl⟩ := hcs
    exact ⟨hn, _, _, rfl, fun h => absurd h (by omega)⟩
  · simp [Value.cells] at hcs
    obtain ⟨rfl, rfl, rfl⟩ := hcs
    simp only [if_true] at hz
    refine ⟨hn, _, _, rfl, fun h0 => ?_⟩
    have hc0 := hcell 0 (by omega)
    have ha0 : a.add 0 = a := by simp [Addr.add]
    rw [ha0] at hc0
    obtain ⟨hb, hs⟩ := cell_lt hc0
    obtain ⟨b, off, spot⟩ := a
    simp only at hs hb
    subst hs
    refine ⟨b, off, rfl, hb, fun k hk => ?_⟩
    have hk' : k < zs.length := by omega
    have hw := hwz _ (List.getElem_mem hk')
    simp only [Lit.wf, IntKind.min, IntKind.max, IntKind.signed, IntKind.bits, Bool.and_eq_true] at hw
    refine ⟨zs[k], by simpa using hw.1, ?_, ?_⟩
    · have := hw.2; simp at this; omega
    · have hck := hcell k hk'
      have hadd : (⟨b, off, none⟩ : Addr).add k = ⟨b, off + k, none⟩ := by unfold Addr.add; split <;> simp_all
      rw [hadd] at hck
      rw [hck, List.getD_eq_getElem?_getD, List.getElem?_eq_getElem hk']; rfl

end Go.Proofs.Ytgnfiggofadmmaa
