/- What the drawing functions of the model give: some number in its range; they write into their cursor alone. -/
import Derived.Test.YteikpekffgifoaaDoorInts
import Derived.Deep.Draws
namespace Go.Proofs.YteikpekffgifoaaDoor
open Go.ChangeShapes Go.WideShapes Go.ChangeAt Go.RowKit Go.Joins

/-- v is a slice of n bytes that can be read, in blocks below B. -/
def Code (w : World) (B : Nat) (v : Value) (n : Nat) : Prop :=
  n ≤ 4096 ∧ ∃ A c, v = .slice A n c ∧ (0 < n → ∃ b off, A = some ⟨b, off, none⟩ ∧ b < B ∧ ∀ k, k < n → ∃ u : Int, 0 ≤ u ∧ u ≤ 255 ∧ w.cell? ⟨b, off + k, none⟩ = some (.int .u8 u))

theorem Code.keep {w w' : World} {B : Nat} {v : Value} {n : Nat} (h : Code w B v n) (hk : ∀ b o, b < B → w'.cell? ⟨b, o, none⟩ = w.cell? ⟨b, o, none⟩) : Code w' B v n := by
  obtain ⟨hn, A, c, rfl, h⟩ := h
  refine ⟨hn, A, c, rfl, fun h0 => ?_⟩
  obtain ⟨b, off, rfl, hb, hc⟩ := h h0
  exact ⟨b, off, rfl, hb, fun k hk' => by rw [hk b _ hb]; exact hc k hk'⟩

/-- Block g is a cursor. -/
def Cur (w : World) (B g : Nat) : Prop :=
  B ≤ g ∧ ∃ (v : Value) (n i : Nat) (h : Int), Code w B v n ∧ i ≤ n ∧ w.heap[g]? = some (.cells #[v, .int .i64 i, .int .i64 h] 85 (0, 0))

theorem keepB {w w' : World} {B g : Nat} (hB : B ≤ g) (hs : B ≤ w.heap.size) (hg : w.grownBy w' (some g)) : ∀ b o, b < B → w'.cell? ⟨b, o, none⟩ = w.cell? ⟨b, o, none⟩ :=
  fun b o hb => World.cell?_of_block (hg.block b (by omega) (fun h => by injection h with h; omega))

theorem and255 (a : Int) : 0 ≤ bits .and .i64 a 255 ∧ bits .and .i64 a 255 ≤ 255 := by
  have h : bits .and .i64 a 255 = IntKind.i64.wrap (((BitVec.ofInt 64 a) &&& (BitVec.ofInt 64 255)).toNat : Int) := rfl
  have h2 : ((BitVec.ofInt 64 a) &&& (BitVec.ofInt 64 255)).toNat ≤ 255 := by
    rw [BitVec.toNat_and]
    exact Nat.le_trans Nat.and_le_right (by decide)
  rw [h, IntKind.wrap_i64]
  omega

theorem grown_set {w w1 : World} {g : Nat} (h : w.grownBy w1 (some g)) (j : Nat) (u : Value) : w.grownBy (w1.setCell ⟨g, j, none⟩ u) (some g) :=
  World.grownBy.trans h ⟨rfl, rfl, rfl, by simp [World.setCell], fun k _ hk => heap_setCell_other w1 ⟨g, j, none⟩ k u (fun e => hk (by simp [e]))⟩
theorem grown_drewN {w w1 : World} {r : Option Nat} (h : w.grownBy w1 r) (n : Nat) : w.grownBy (w1.drewN n) r := ⟨h.os, h.tape, h.output, h.size, h.block⟩
theorem grown_alloc {w w1 : World} {r : Option Nat} (h : w.grownBy w1 r) (o : Obj) : w.grownBy (w1.alloc o) r :=
  ⟨h.os, h.tape, h.output, Nat.le_trans h.size (by simp), fun k hk hne => (Below.heap_alloc w1 o k (Nat.lt_of_lt_of_le hk h.size)).trans (h.block k hk hne)⟩

/-- A cursor whose block has been written anew, all else below B as it was. -/
theorem cur_back {w w' : World} {B g : Nat} (hB : B ≤ g) (hs : g < w.heap.size) {v : Value} {n i : Nat} {h : Int} (hv : Code w B v n) (hi : i ≤ n) (hg : w.grownBy w' (some g)) (hh : w'.heap[g]? = some (.cells #[v, .int .i64 i, .int .i64 h] 85 (0, 0))) : Cur w' B g :=
  ⟨hB, v, n, i, h, hv.keep (keepB hB (by omega) hg), hi, hh⟩

theorem cur_lt {w : World} {B g : Nat} (h : Cur w B g) : g < w.heap.size := by
  obtain ⟨_, _, _, _, _, _, _, hg⟩ := h
  rcases Nat.lt_or_ge g w.heap.size with hlt | hge
  · exact hlt
  · rw [Array.getElem?_eq_none hge] at hg; cases hg

set_option maxHeartbeats 1000000 in
theorem l1Byte_any (B g : Nat) (w : World) (hc : Cur w B g) :
    Calls Tryd.prog 78 #[.pointer (some ⟨g, 0, none⟩)] w fun e w' => ∃ x : Int, e = .returned (.int .i64 x) ∧ 0 ≤ x ∧ x ≤ 255 ∧ Cur w' B g ∧ w.grownBy w' (some g) := by
  have hlt0 := cur_lt hc
  obtain ⟨hB, v, n, i, h, hv0, hi, hg⟩ := hc
  have c0 : w.cell? ⟨g, 0, none⟩ = some v := cell_of_row w g 0 _ _ _ hg
  have c1 : w.cell? ⟨g, 1, none⟩ = some (.int .i64 i) := cell_of_row w g 1 _ _ _ hg
  have c2 : w.cell? ⟨g, 2, none⟩ = some (.int .i64 h) := cell_of_row w g 2 _ _ _ hg
  have f1 : w.frozen? ⟨g, 1, none⟩ = false := frozen_of_row w g 1 _ _ hg
  have f2 : w.frozen? ⟨g, 2, none⟩ = false := frozen_of_row w g 2 _ _ hg
  have HG := Lib.hid hg
  clear hg
  have HV := Lib.hid hv0
  obtain ⟨hn, A, c, rfl, hv⟩ := hv0
  by_cases hlt : i < n
  · obtain ⟨b, off, rfl, hb, hcell⟩ := hv (by omega)
    obtain ⟨u, hu0, hu1, hcu⟩ := hcell i hlt
    have hne : b ≠ g := by omega
    clear hcell hv
    go_enter Tryd.func78, Tryd.ntmps78
    go_wp2
    go_quiet (fail)
    generalize wrap64 (wrap64 (h * 6364136223846793005) + 1442695040888963407) = y
    generalize bits .xor .i64 (y / 8589934592) (y / 35184372088832) = z
    obtain ⟨hx0, hx1⟩ := and255 z
    generalize bits .and .i64 z 255 = x at *
    go_wp2
    go_quiet (fail)
    go_wp2
    go_quiet (fail)
    obtain ⟨hy0, hy1⟩ := and255 (x + u)
    generalize bits .and .i64 (x + u) 255 = x' at *
    go_wp2
    go_ret
    have H1 := heap_setCell_same w g 2 _ _ (.int .i64 y) HG.out
    have H2 := heap_setCell_same (w.setCell ⟨g, 2, none⟩ (.int .i64 y)) g 1 _ _ (.int .i64 ((i + 1 : Nat) : Int)) H1
    have hgr : w.grownBy ((w.setCell ⟨g, 2, none⟩ (.int .i64 y)).setCell ⟨g, 1, none⟩ (.int .i64 ((i + 1 : Nat) : Int))) (some g) := grown_set (grown_set (World.grownBy.refl _ _) _ _) _ _
    exact ⟨x', rfl, hy0, hy1, cur_back hB hlt0 HV.out (i := i + 1) (by omega) (grown_drewN hgr _) H2, grown_drewN hgr _⟩
  · have hii : i = n := by omega
    subst hii
    clear hv
    go_enter Tryd.func78, Tryd.ntmps78
    go_wp2
    go_quiet (fail)
    generalize wrap64 (wrap64 (h * 6364136223846793005) + 1442695040888963407) = y
    generalize bits .xor .i64 (y / 8589934592) (y / 35184372088832) = z
    obtain ⟨hx0, hx1⟩ := and255 z
    generalize bits .and .i64 z 255 = x at *
    go_wp2
    go_quiet (fail)
    go_wp2
    go_ret
    have H1 := heap_setCell_same w g 2 _ _ (.int .i64 y) HG.out
    have hgr : w.grownBy (w.setCell ⟨g, 2, none⟩ (.int .i64 y)) (some g) := grown_set (World.grownBy.refl _ _) _ _
    exact ⟨x, rfl, hx0, hx1, cur_back hB hlt0 HV.out (Nat.le_refl _) (grown_drewN (grown_drewN hgr _) _) H1, grown_drewN (grown_drewN hgr _) _⟩

theorem mod_range {x n : Int} (hn : 0 < n) : 0 ≤ x % n ∧ x % n < n := ⟨Int.emod_nonneg _ (by omega), Int.emod_lt_of_pos _ hn⟩

set_option maxHeartbeats 1000000 in
theorem l1Below_any (B g : Nat) (n : Int) (w : World) (hc : Cur w B g) :
    Calls Tryd.prog 54 #[.pointer (some ⟨g, 0, none⟩), .int .i64 n] w fun e w' => ∃ x : Int, e = .returned (.int .i64 x) ∧ 0 ≤ x ∧ (x < n ∨ x = 0) ∧ Cur w' B g ∧ w.grownBy w' (some g) := by
  by_cases h0 : n ≤ 0
  · go_enter Tryd.func54, Tryd.ntmps54
    go_wp2
    go_ret
    exact ⟨0, rfl, by omega, .inr rfl, hc, World.grownBy.refl _ _⟩
  · by_cases h1 : n ≤ 256
    · have HC := Lib.hid hc
      clear hc
      go_enter Tryd.func54, Tryd.ntmps54
      go_wp2_with (go_at_call 78; refine (l1Byte_any _ _ _ HC.out).mono ?_; rintro e w1 ⟨x, rfl, hx0, hx1, HC1, HG1⟩)
      go_ret
      exact ⟨_, rfl, (mod_range (by omega)).1, .inl (mod_range (by omega)).2, HC1, HG1⟩
    · have hn : 0 < n := by omega
      clear h0
      have HC := Lib.hid hc
      clear hc
      go_enter Tryd.func54, Tryd.ntmps54
      go_wp2_with fail
      refine (l1Byte_any _ _ _ HC.out).mono ?_
      rintro e w1 ⟨x, rfl, hx0, hx1, hc1, HG1⟩
      have HC1 := Lib.hid hc1
      clear hc1
      go_wp2_with fail
      refine (l1Byte_any _ _ _ HC1.out).mono ?_
      rintro e w2 ⟨y, rfl, hy0, hy1, hc2, HG2⟩
      have HC2 := Lib.hid hc2
      clear hc2
      go_wp2_with fail
      refine (l1Byte_any _ _ _ HC2.out).mono ?_
      rintro e w3 ⟨z, rfl, hz0, hz1, hc3, HG3⟩
      have HC3 := Lib.hid hc3
      clear hc3
      go_wp2_with fail
      refine (l1Byte_any _ _ _ HC3.out).mono ?_
      rintro e w4 ⟨q, rfl, hq0, hq1, hc4, HG4⟩
      have HC4 := Lib.hid hc4
      clear hc4
      go_wp2_with fail
      go_ret
      exact ⟨_, rfl, (mod_range hn).1, .inl (mod_range hn).2, HC4.out, ((HG1.trans HG2).trans HG3).trans HG4⟩

set_option maxHeartbeats 1000000 in
theorem l1Once_any (B g : Nat) (n : Int) (w : World) (hc : Cur w B g) :
    Calls Tryd.prog 53 #[.pointer (some ⟨g, 0, none⟩), .int .i64 n] w fun e w' => ∃ x : Bool, e = .returned (.bool x) ∧ Cur w' B g ∧ w.grownBy w' (some g) := by
  have HC := Lib.hid hc
  clear hc
  go_enter Tryd.func53, Tryd.ntmps53
  go_wp2_with fail
  refine (l1Below_any _ _ _ _ HC.out).mono ?_
  rintro e w1 ⟨x, rfl, hx0, hx1, hc1, HG1⟩
  have HC1 := Lib.hid hc1
  clear hc1
  go_wp2_with fail
  go_ret
  exact ⟨_, rfl, HC1.out, HG1⟩

theorem i64_in' {n : Int} (h : 0 ≤ n) (h' : n ≤ 9223372036854775807) : IntKind.i64.wrap n = n := by rw [IntKind.wrap_i64]; omega

set_option maxHeartbeats 1000000 in
theorem l1From_any (B g : Nat) (lo hi : Int) (w : World) (hc : Cur w B g) (h0 : -1000 ≤ lo) (h1 : lo ≤ hi) (h2 : hi ≤ 1000000000) :
    Calls Tryd.prog 33 #[.pointer (some ⟨g, 0, none⟩), .int .i64 lo, .int .i64 hi] w fun e w' => ∃ x : Int, e = .returned (.int .i64 x) ∧ lo ≤ x ∧ x ≤ hi ∧ Cur w' B g ∧ w.grownBy w' (some g) := by
  have HC := Lib.hid hc
  clear hc
  go_enter Tryd.func33, Tryd.ntmps33
  go_wp2_with fail
  refine (l1Below_any _ _ _ _ HC.out).mono ?_
  rintro e w1 ⟨x, rfl, hx0, hx1, hc1, HG1⟩
  have HC1 := Lib.hid hc1
  clear hc1
  have hx2 : x ≤ hi - lo := by omega
  clear hx1
  go_wp2_with fail
  go_ret
  exact ⟨_, rfl, by omega, by omega, HC1.out, HG1⟩

set_option maxHeartbeats 1000000 in
theorem l1Min_any (a b : Int) (w : World) :
    Calls Tryd.prog 113 #[.int .i64 a, .int .i64 b] w fun e w' => e = .returned (.int .i64 (min a b)) ∧ w = w' := by
  by_cases h : a < b
  · have HE : Hid (min a b = a) := by unfold Hid; omega
    go_enter Tryd.func113, Tryd.ntmps113
    go_wp2
    go_ret
    exact ⟨by rw [HE.out]; rfl, rfl⟩
  · have HE : Hid (min a b = b) := by unfold Hid; omega
    go_enter Tryd.func113, Tryd.ntmps113
    go_wp2
    go_ret
    exact ⟨by rw [HE.out]; rfl, rfl⟩

theorem cur_alloc {w : World} {B g : Nat} (h : Cur w B g) (o : Obj) : Cur (w.alloc o) B g := by
  have hlt := cur_lt h
  obtain ⟨hB, v, n, i, k, hv, hi, hg⟩ := h
  exact ⟨hB, v, n, i, k, hv.keep fun b o' hb => World.cell?_alloc_lt w o ⟨b, o', none⟩ (show b < w.heap.size by omega), hi, (Below.heap_alloc w o g hlt).trans hg⟩
theorem cur_le {w : World} {B g : Nat} (h : Cur w B g) : B ≤ w.heap.size := Nat.le_of_lt (Nat.lt_of_le_of_lt h.1 (cur_lt h))

/-- What was grown from a world with one block more has grown from that world. -/
theorem grown_of_alloc {w w1 : World} {o : Obj} {r : Option Nat} (h : (w.alloc o).grownBy w1 r) : w.grownBy w1 r :=
  World.grownBy.trans (grown_alloc (World.grownBy.refl _ _) o) h

/-- A cell of the block that was made last reads as it was made. -/
theorem cell_last {w w1 : World} {g : Nat} {cs : Array Value} {t : TypeId} (hg : g < w.heap.size) (h : (w.alloc (.cells cs t)).grownBy w1 (some g)) (j : Nat) : w1.cell? ⟨w.heap.size, j, none⟩ = cs[j]? := by
  have h1 : w1.heap[w.heap.size]? = (w.alloc (.cells cs t)).heap[w.heap.size]? := h.block _ (by simp) (fun e => by injection e with e; omega)
  rw [heap_alloc_new] at h1
  exact cell_of_row w1 w.heap.size j cs t (0, 0) h1

theorem at10 {a b c d e f p q r s : Int} {j : Nat} (h : j < 10) : ∃ u : Int, (#[Value.int .i64 a, .int .i64 b, .int .i64 c, .int .i64 d, .int .i64 e, .int .i64 f, .int .i64 p, .int .i64 q, .int .i64 r, .int .i64 s] : Array Value)[j]? = some (.int .i64 u) := by
  have : j = 0 ∨ j = 1 ∨ j = 2 ∨ j = 3 ∨ j = 4 ∨ j = 5 ∨ j = 6 ∨ j = 7 ∨ j = 8 ∨ j = 9 := by omega
  rcases this with rfl | rfl | rfl | rfl | rfl | rfl | rfl | rfl | rfl | rfl <;> exact ⟨_, rfl⟩
theorem at4 {a b c d : Int} {j : Nat} (h : j < 4) : ∃ u : Int, (#[Value.int .i64 a, .int .i64 b, .int .i64 c, .int .i64 d] : Array Value)[j]? = some (.int .i64 u) := by
  have : j = 0 ∨ j = 1 ∨ j = 2 ∨ j = 3 := by omega
  rcases this with rfl | rfl | rfl | rfl <;> exact ⟨_, rfl⟩

end Go.Proofs.YteikpekffgifoaaDoor
