/- Draw, Code, LawK, DomAll, WalkF, joined. -/
import Derived.Test.YteikpekffgifoaaDoorDm1
import Derived.Test.YteikpekffgifoaaDoorDm6
import Derived.Test.YteikpekffgifoaaDoorDm7
import Derived.Deep.Draws
namespace Go.Proofs.YteikpekffgifoaaDoor

/- What the drawing functions of the model give: some number in its range; they write into their cursor alone. -/
section
open Go.ChangeShapes Go.WideShapes Go.ChangeAt Go.RowKit Go.Joins

/-- v is a slice of n bytes that can be read, in blocks below B. -/
def Code (w : World) (B : Nat) (v : Value) (n : Nat) : Prop :=
  n ≤ 4096 ∧ ∃ A c, v = .slice A n c ∧ (0 < n → ∃ b off, A = some ⟨b, off, none⟩ ∧ b < B ∧ ∀ k, k < n → ∃ u : Int, 0 ≤ u ∧ u ≤ 255 ∧ w.cell? ⟨b, off + k, none⟩ = some (.int .u8 u))

theorem Code.keep {w w' : World} {B : Nat} {v : Value} {n : Nat} (h : Code w B v n) (hk : ∀ b o, b < B → w'.cell? ⟨b, o, none⟩ = w.cell? ⟨b, o, none⟩) : Code w' B v n := by
  obtain ⟨hn, A, c, rfl, h⟩ := h
  refine ⟨hn, A, c, rfl, fun h0 => ?_⟩
  obtain ⟨b, off, rfl, hb, hc⟩ := h h0
  exact ⟨b, off, rfl, hb, fun k hk' => by rw [hk b _ hb]; exact hc k hk'⟩

/-- Block g is a cursor. -/
def Cur (w : World) (B g : Nat) : Prop :=
  B ≤ g ∧ ∃ (v : Value) (n i : Nat) (h : Int), Code w B v n ∧ i ≤ n ∧ w.heap[g]? = some (.cells #[v, .int .i64 i, .int .i64 h] 85 (0, 0))

theorem keepB {w w' : World} {B g : Nat} (hB : B ≤ g) (hs : B ≤ w.heap.size) (hg : w.grownBy w' (some g)) : ∀ b o, b < B → w'.cell? ⟨b, o, none⟩ = w.cell? ⟨b, o, none⟩ :=
  fun b o hb => World.cell?_of_block (hg.block b (by omega) (fun h => by injection h with h; omega))

theorem and255 (a : Int) : 0 ≤ bits .and .i64 a 255 ∧ bits .and .i64 a 255 ≤ 255 := by
  have h : bits .and .i64 a 255 = IntKind.i64.wrap (((BitVec.ofInt 64 a) &&& (BitVec.ofInt 64 255)).toNat : Int) := rfl
  have h2 : ((BitVec.ofInt 64 a) &&& (BitVec.ofInt 64 255)).toNat ≤ 255 := by
    rw [BitVec.toNat_and]
    exact Nat.le_trans Nat.and_le_right (by decide)
  rw [h, IntKind.wrap_i64]
  omega

theorem grown_set {w w1 : World} {g : Nat} (h : w.grownBy w1 (some g)) (j : Nat) (u : Value) : w.grownBy (w1.setCell ⟨g, j, none⟩ u) (some g) :=
  World.grownBy.trans h ⟨rfl, rfl, rfl, by simp [World.setCell], fun k _ hk => heap_setCell_other w1 ⟨g, j, none⟩ k u (fun e => hk (by simp [e]))⟩
theorem grown_drewN {w w1 : World} {r : Option Nat} (h : w.grownBy w1 r) (n : Nat) : w.grownBy (w1.drewN n) r := ⟨h.os, h.tape, h.output, h.size, h.block⟩
theorem grown_alloc {w w1 : World} {r : Option Nat} (h : w.grownBy w1 r) (o : Obj) : w.grownBy (w1.alloc o) r :=
  ⟨h.os, h.tape, h.output, Nat.le_trans h.size (by simp), fun k hk hne => (Below.heap_alloc w1 o k (Nat.lt_of_lt_of_le hk h.size)).trans (h.block k hk hne)⟩

/-- A cursor whose block has been written anew, all else below B as it was. -/
theorem cur_back {w w' : World} {B g : Nat} (hB : B ≤ g) (hs : g < w.heap.size) {v : Value} {n i : Nat} {h : Int} (hv : Code w B v n) (hi : i ≤ n) (hg : w.grownBy w' (some g)) (hh : w'.heap[g]? = some (.cells #[v, .int .i64 i, .int .i64 h] 85 (0, 0))) : Cur w' B g :=
  ⟨hB, v, n, i, h, hv.keep (keepB hB (by omega) hg), hi, hh⟩

theorem cur_lt {w : World} {B g : Nat} (h : Cur w B g) : g < w.heap.size := by
  obtain ⟨_, _, _, _, _, _, _, hg⟩ := h
  rcases Nat.lt_or_ge g w.heap.size with hlt | hge
  · exact hlt
  · rw [Array.getElem?_eq_none hge] at hg; cases hg

set_option maxHeartbeats 1000000 in
theorem l1Byte_any (B g : Nat) (w : World) (hc : Cur w B g) :
    Calls Tryd.prog 78 #[.pointer (some ⟨g, 0, none⟩)] w fun e w' => ∃ x : Int, e = .returned (.int .i64 x) ∧ 0 ≤ x ∧ x ≤ 255 ∧ Cur w' B g ∧ w.grownBy w' (some g) := by
  have hlt0 := cur_lt hc
  obtain ⟨hB, v, n, i, h, hv0, hi, hg⟩ := hc
  have c0 : w.cell? ⟨g, 0, none⟩ = some v := cell_of_row w g 0 _ _ _ hg
  have c1 : w.cell? ⟨g, 1, none⟩ = some (.int .i64 i) := cell_of_row w g 1 _ _ _ hg
  have c2 : w.cell? ⟨g, 2, none⟩ = some (.int .i64 h) := cell_of_row w g 2 _ _ _ hg
  have f1 : w.frozen? ⟨g, 1, none⟩ = false := frozen_of_row w g 1 _ _ hg
  have f2 : w.frozen? ⟨g, 2, none⟩ = false := frozen_of_row w g 2 _ _ hg
  have HG := Lib.hid hg
  clear hg
  have HV := Lib.hid hv0
  obtain ⟨hn, A, c, rfl, hv⟩ := hv0
  by_cases hlt : i < n
  · obtain ⟨b, off, rfl, hb, hcell⟩ := hv (by omega)
    obtain ⟨u, hu0, hu1, hcu⟩ := hcell i hlt
    have hne : b ≠ g := by omega
    clear hcell hv
    go_enter Tryd.func78, Tryd.ntmps78
    go_wp2
    go_quiet (fail)
    generalize wrap64 (wrap64 (h * 6364136223846793005) + 1442695040888963407) = y
    generalize bits .xor .i64 (y / 8589934592) (y / 35184372088832) = z
    obtain ⟨hx0, hx1⟩ := and255 z
    generalize bits .and .i64 z 255 = x at *
    go_wp2
    go_quiet (fail)
    go_wp2
    go_quiet (fail)
    obtain ⟨hy0, hy1⟩ := and255 (x + u)
    generalize bits .and .i64 (x + u) 255 = x' at *
    go_wp2
    go_ret
    have H1 := heap_setCell_same w g 2 _ _ (.int .i64 y) HG.out
    have H2 := heap_setCell_same (w.setCell ⟨g, 2, none⟩ (.int .i64 y)) g 1 _ _ (.int .i64 ((i + 1 : Nat) : Int)) H1
    have hgr : w.grownBy ((w.setCell ⟨g, 2, none⟩ (.int .i64 y)).setCell ⟨g, 1, none⟩ (.int .i64 ((i + 1 : Nat) : Int))) (some g) := grown_set (grown_set (World.grownBy.refl _ _) _ _) _ _
    exact ⟨x', rfl, hy0, hy1, cur_back hB hlt0 HV.out (i := i + 1) (by omega) (grown_drewN hgr _) H2, grown_drewN hgr _⟩
  · have hii : i = n := by omega
    subst hii
    clear hv
    go_enter Tryd.func78, Tryd.ntmps78
    go_wp2
    go_quiet (fail)
    generalize wrap64 (wrap64 (h * 6364136223846793005) + 1442695040888963407) = y
    generalize bits .xor .i64 (y / 8589934592) (y / 35184372088832) = z
    obtain ⟨hx0, hx1⟩ := and255 z
    generalize bits .and .i64 z 255 = x at *
    go_wp2
    go_quiet (fail)
    go_wp2
    go_ret
    have H1 := heap_setCell_same w g 2 _ _ (.int .i64 y) HG.out
    have hgr : w.grownBy (w.setCell ⟨g, 2, none⟩ (.int .i64 y)) (some g) := grown_set (World.grownBy.refl _ _) _ _
    exact ⟨x, rfl, hx0, hx1, cur_back hB hlt0 HV.out (Nat.le_refl _) (grown_drewN (grown_drewN hgr _) _) H1, grown_drewN (grown_drewN hgr _) _⟩

theorem mod_range {x n : Int} (hn : 0 < n) : 0 ≤ x % n ∧ x % n < n := ⟨Int.emod_nonneg _ (by omega), Int.emod_lt_of_pos _ hn⟩

set_option maxHeartbeats 1000000 in
theorem l1Below_any (B g : Nat) (n : Int) (w : World) (hc : Cur w B g) :
    Calls Tryd.prog 54 #[.pointer (some ⟨g, 0, none⟩), .int .i64 n] w fun e w' => ∃ x : Int, e = .returned (.int .i64 x) ∧ 0 ≤ x ∧ (x < n ∨ x = 0) ∧ Cur w' B g ∧ w.grownBy w' (some g) := by
  by_cases h0 : n ≤ 0
  · go_enter Tryd.func54, Tryd.ntmps54
    go_wp2
    go_ret
    exact ⟨0, rfl, by omega, .inr rfl, hc, World.grownBy.refl _ _⟩
  · by_cases h1 : n ≤ 256
    · have HC := Lib.hid hc
      clear hc
      go_enter Tryd.func54, Tryd.ntmps54
      go_wp2_with (go_at_call 78; refine (l1Byte_any _ _ _ HC.out).mono ?_; rintro e w1 ⟨x, rfl, hx0, hx1, HC1, HG1⟩)
      go_ret
      exact ⟨_, rfl, (mod_range (by omega)).1, .inl (mod_range (by omega)).2, HC1, HG1⟩
    · have hn : 0 < n := by omega
      clear h0
      have HC := Lib.hid hc
      clear hc
      go_enter Tryd.func54, Tryd.ntmps54
      go_wp2_with fail
      refine (l1Byte_any _ _ _ HC.out).mono ?_
      rintro e w1 ⟨x, rfl, hx0, hx1, hc1, HG1⟩
      have HC1 := Lib.hid hc1
      clear hc1
      go_wp2_with fail
      refine (l1Byte_any _ _ _ HC1.out).mono ?_
      rintro e w2 ⟨y, rfl, hy0, hy1, hc2, HG2⟩
      have HC2 := Lib.hid hc2
      clear hc2
      go_wp2_with fail
      refine (l1Byte_any _ _ _ HC2.out).mono ?_
      rintro e w3 ⟨z, rfl, hz0, hz1, hc3, HG3⟩
      have HC3 := Lib.hid hc3
      clear hc3
      go_wp2_with fail
      refine (l1Byte_any _ _ _ HC3.out).mono ?_
      rintro e w4 ⟨q, rfl, hq0, hq1, hc4, HG4⟩
      have HC4 := Lib.hid hc4
      clear hc4
      go_wp2_with fail
      go_ret
      exact ⟨_, rfl, (mod_range hn).1, .inl (mod_range hn).2, HC4.out, ((HG1.trans HG2).trans HG3).trans HG4⟩

set_option maxHeartbeats 1000000 in
theorem l1Once_any (B g : Nat) (n : Int) (w : World) (hc : Cur w B g) :
    Calls Tryd.prog 53 #[.pointer (some ⟨g, 0, none⟩), .int .i64 n] w fun e w' => ∃ x : Bool, e = .returned (.bool x) ∧ Cur w' B g ∧ w.grownBy w' (some g) := by
  have HC := Lib.hid hc
  clear hc
  go_enter Tryd.func53, Tryd.ntmps53
  go_wp2_with fail
  refine (l1Below_any _ _ _ _ HC.out).mono ?_
  rintro e w1 ⟨x, rfl, hx0, hx1, hc1, HG1⟩
  have HC1 := Lib.hid hc1
  clear hc1
  go_wp2_with fail
  go_ret
  exact ⟨_, rfl, HC1.out, HG1⟩

theorem i64_in' {n : Int} (h : 0 ≤ n) (h' : n ≤ 9223372036854775807) : IntKind.i64.wrap n = n := by rw [IntKind.wrap_i64]; omega

set_option maxHeartbeats 1000000 in
theorem l1From_any (B g : Nat) (lo hi : Int) (w : World) (hc : Cur w B g) (h0 : -1000 ≤ lo) (h1 : lo ≤ hi) (h2 : hi ≤ 1000000000) :
    Calls Tryd.prog 33 #[.pointer (some ⟨g, 0, none⟩), .int .i64 lo, .int .i64 hi] w fun e w' => ∃ x : Int, e = .returned (.int .i64 x) ∧ lo ≤ x ∧ x ≤ hi ∧ Cur w' B g ∧ w.grownBy w' (some g) := by
  have HC := Lib.hid hc
  clear hc
  go_enter Tryd.func33, Tryd.ntmps33
  go_wp2_with fail
  refine (l1Below_any _ _ _ _ HC.out).mono ?_
  rintro e w1 ⟨x, rfl, hx0, hx1, hc1, HG1⟩
  have HC1 := Lib.hid hc1
  clear hc1
  have hx2 : x ≤ hi - lo := by omega
  clear hx1
  go_wp2_with fail
  go_ret
  exact ⟨_, rfl, by omega, by omega, HC1.out, HG1⟩

set_option maxHeartbeats 1000000 in
theorem l1Min_any (a b : Int) (w : World) :
    Calls Tryd.prog 113 #[.int .i64 a, .int .i64 b] w fun e w' => e = .returned (.int .i64 (min a b)) ∧ w = w' := by
  by_cases h : a < b
  · have HE : Hid (min a b = a) := by unfold Hid; omega
    go_enter Tryd.func113, Tryd.ntmps113
    go_wp2
    go_ret
    exact ⟨by rw [HE.out]; rfl, rfl⟩
  · have HE : Hid (min a b = b) := by unfold Hid; omega
    go_enter Tryd.func113, Tryd.ntmps113
    go_wp2
    go_ret
    exact ⟨by rw [HE.out]; rfl, rfl⟩

theorem cur_alloc {w : World} {B g : Nat} (h : Cur w B g) (o : Obj) : Cur (w.alloc o) B g := by
  have hlt := cur_lt h
  obtain ⟨hB, v, n, i, k, hv, hi, hg⟩ := h
  exact ⟨hB, v, n, i, k, hv.keep fun b o' hb => World.cell?_alloc_lt w o ⟨b, o', none⟩ (show b < w.heap.size by omega), hi, (Below.heap_alloc w o g hlt).trans hg⟩
theorem cur_le {w : World} {B g : Nat} (h : Cur w B g) : B ≤ w.heap.size := Nat.le_of_lt (Nat.lt_of_le_of_lt h.1 (cur_lt h))

/-- What was grown from a world with one block more has grown from that world. -/
theorem grown_of_alloc {w w1 : World} {o : Obj} {r : Option Nat} (h : (w.alloc o).grownBy w1 r) : w.grownBy w1 r :=
  World.grownBy.trans (grown_alloc (World.grownBy.refl _ _) o) h

/-- A cell of the block that was made last reads as it was made. -/
theorem cell_last {w w1 : World} {g : Nat} {cs : Array Value} {t : TypeId} (hg : g < w.heap.size) (h : (w.alloc (.cells cs t)).grownBy w1 (some g)) (j : Nat) : w1.cell? ⟨w.heap.size, j, none⟩ = cs[j]? := by
  have h1 : w1.heap[w.heap.size]? = (w.alloc (.cells cs t)).heap[w.heap.size]? := h.block _ (by simp) (fun e => by injection e with e; omega)
  rw [heap_alloc_new] at h1
  exact cell_of_row w1 w.heap.size j cs t (0, 0) h1

theorem at10 {a b c d e f p q r s : Int} {j : Nat} (h : j < 10) : ∃ u : Int, (#[Value.int .i64 a, .int .i64 b, .int .i64 c, .int .i64 d, .int .i64 e, .int .i64 f, .int .i64 p, .int .i64 q, .int .i64 r, .int .i64 s] : Array Value)[j]? = some (.int .i64 u) := by
  have : j = 0 ∨ j = 1 ∨ j = 2 ∨ j = 3 ∨ j = 4 ∨ j = 5 ∨ j = 6 ∨ j = 7 ∨ j = 8 ∨ j = 9 := by omega
  rcases this with rfl | rfl | rfl | rfl | rfl | rfl | rfl | rfl | rfl | rfl <;> exact ⟨_, rfl⟩
theorem at4 {a b c d : Int} {j : Nat} (h : j < 4) : ∃ u : Int, (#[Value.int .i64 a, .int .i64 b, .int .i64 c, .int .i64 d] : Array Value)[j]? = some (.int .i64 u) := by
  have : j = 0 ∨ j = 1 ∨ j = 2 ∨ j = 3 := by omega
  rcases this with rfl | rfl | rfl | rfl <;> exact ⟨_, rfl⟩
end

/- An argument that is a code, opened. -/
section
open Go.ChangeShapes Go.WideShapes Go.ChangeAt Go.RowKit Go.Joins

theorem cell_lt {w : World} {a : Addr} {v : Value} (h : w.cell? a = some v) : a.block < w.heap.size ∧ a.spot = none := by
  unfold World.cell? at h
  rcases Nat.lt_or_ge a.block w.heap.size with hlt | hge
  · refine ⟨hlt, ?_⟩
    split at h
    · split at h
      · cases h
      · rename_i hs; simpa using hs
    · cases h
  · rw [Array.getElem?_eq_none hge] at h; cases h

set_option maxRecDepth 100000 in
theorem code_open {H : Type} {enc : TypeId × Value → H} {W : World} {base : Nat} {v : Value} {d : DataW H} {p : List MemPlace} (hv : Value.okWide Tryd.prog W .any base 22 v) (h : DataW.Trod enc Tryd.prog W 0 (fun _ => true) true 22 v d p) :
    ∃ A n c, v = .slice A n c ∧ (n ≤ 4096 → Code W W.heap.size v n) := by
  obtain ⟨a0, len, cap, rfl⟩ := okWide_slice Tryd.underlying22 hv
  obtain ⟨fuel, hf⟩ := h
  refine ⟨a0, len, cap, rfl, fun hn => ?_⟩
  rcases open_ints Tryd.underlying22 Tryd.underlying5 (by kernel_rfl) hf with ⟨hcs, hx⟩ | ⟨a, len', cap', zs, hcs, _, hl, hm, hz, hx, hcell, hwz⟩
  · simp [Value.cells] at hcs
    obtain ⟨rfl, rfl, rfl⟩ := hcs
    exact ⟨hn, _, _, rfl, fun h => absurd h (by omega)⟩
  · simp [Value.cells] at hcs
    obtain ⟨rfl, rfl, rfl⟩ := hcs
    simp only [if_true] at hz
    refine ⟨hn, _, _, rfl, fun h0 => ?_⟩
    have hc0 := hcell 0 (by omega)
    have ha0 : a.add 0 = a := by simp [Addr.add]
    rw [ha0] at hc0
    obtain ⟨hb, hs⟩ := cell_lt hc0
    obtain ⟨b, off, spot⟩ := a
    simp only at hs hb
    subst hs
    refine ⟨b, off, rfl, hb, fun k hk => ?_⟩
    have hk' : k < zs.length := by omega
    have hw := hwz _ (List.getElem_mem hk')
    simp only [Lit.wf, IntKind.min, IntKind.max, IntKind.signed, IntKind.bits, Bool.and_eq_true] at hw
    refine ⟨zs[k], by simpa using hw.1, ?_, ?_⟩
    · have := hw.2; simp at this; omega
    · have hck := hcell k hk'
      have hadd : (⟨b, off, none⟩ : Addr).add k = ⟨b, off + k, none⟩ := by unfold Addr.add; split <;> simp_all
      rw [hadd] at hck
      rw [hck, List.getD_eq_getElem?_getD, List.getElem?_eq_getElem hk']; rfl
end

/- What the laws over codes share. -/
section
open Go.ChangeShapes Go.WideShapes Go.ChangeAt Go.RowKit Go.Joins

set_option maxHeartbeats 400000 in
theorem big_yes (A : Option Addr) (n c : Nat) (w : World) (h : 4096 < n) : Calls Tryd.prog 6 #[.slice A n c] w fun e w' => e = .returned (.bool true) ∧ w = w' := by
  have hb : decide ((4096 : Int) < (n : Int)) = true := by simp; omega
  go_enter Tryd.func6, Tryd.ntmps6
  go_wp2
  go_ret
  exact ⟨rfl, rfl⟩
set_option maxHeartbeats 400000 in
theorem big_no (A : Option Addr) (n c : Nat) (w : World) (h : n ≤ 4096) : Calls Tryd.prog 6 #[.slice A n c] w fun e w' => e = .returned (.bool false) ∧ w = w' := by
  have hb : decide ((4096 : Int) < (n : Int)) = false := by simp; omega
  go_enter Tryd.func6, Tryd.ntmps6
  go_wp2
  go_ret
  exact ⟨rfl, rfl⟩


theorem mem_predsF {f : FunD} {j : Int} {b : Nat} {x : BlockD} (hx : f.blocks[b]? = some x) (hj : j ∈ toL x.fin.k x.fin.t x.fin.l) : (b : Int) ∈ predsF f j := by
  unfold predsF predsK
  rw [List.mem_map]
  exact ⟨b, List.mem_filter.2 ⟨List.mem_range.2 (List.getElem?_eq_some_iff.1 hx).1, by unfold hasT; rw [hx]; exact hasB_iff.2 hj⟩, rfl⟩
theorem of_mem_predsF {f : FunD} {j y : Int} (h : y ∈ predsF f j) : ∃ (m : Nat) (x : BlockD), y = m ∧ f.blocks[m]? = some x ∧ j ∈ toL x.fin.k x.fin.t x.fin.l := by
  unfold predsF predsK at h
  rw [List.mem_map] at h
  obtain ⟨m, hm, rfl⟩ := h
  rw [List.mem_filter] at hm
  obtain ⟨h1, h2⟩ := hm
  have hlt := List.mem_range.1 h1
  have hx : f.blocks[m]? = some f.blocks[m] := List.getElem?_eq_getElem hlt
  unfold hasT at h2
  rw [hx] at h2
  exact ⟨m, _, rfl, hx, hasB_iff.1 h2⟩
theorem predsF_pair (f : FunD) (j : Int) : (predsF f j).Pairwise (· < ·) := by
  unfold predsF predsK
  rw [List.pairwise_map]
  exact (List.pairwise_lt_range.filter _).imp fun h => by omega
theorem predsF_lt {f : FunD} {j y z : Int} {i : Nat} (h1 : (predsF f j)[i]? = some y) (h2 : (predsF f j)[i + 1]? = some z) : y < z := by
  obtain ⟨hi, rfl⟩ := List.getElem?_eq_some_iff.1 h1
  obtain ⟨hk, rfl⟩ := List.getElem?_eq_some_iff.1 h2
  exact List.pairwise_iff_getElem.1 (predsF_pair f j) i (i + 1) hi hk (by omega)
theorem preds_of {f : FunD} {j : Int} {xs : List Int} (hp : FunP f) (hj : 0 ≤ j ∧ j < f.blocks.length) (h : PredsRes f j xs) : xs = predsF f j := by
  rcases h with ⟨_, _, h⟩ | ⟨h, _⟩
  · exact h
  · exact absurd ⟨hp, by simp [isBelowB]; omega⟩ h
theorem succs_of {f : FunD} {b : Nat} {x : BlockD} (hp : FunP f) (hx : f.blocks[b]? = some x) : succsL x.fin.k x.fin.a x.fin.t x.fin.l = toL x.fin.k x.fin.t x.fin.l ∧ ∀ y ∈ toL x.fin.k x.fin.t x.fin.l, 0 ≤ y ∧ y < (f.blocks.length : Int) := by
  have h := targets_of hp b x hx
  exact ⟨by unfold succsL; rw [if_pos h.1], h.2⟩

set_option maxHeartbeats 400000 in
theorem has_any (v : Value) (xs : List Int) (j : Int) (w : World) (hv : RI w v xs) :
    Calls Tryd.prog 16 #[v, .int .i64 j] w fun e w' => e = .returned (.bool (hasB xs j)) ∧ w = w' := by
  obtain ⟨hl, A, c, rfl, hx⟩ := hv
  go_enter Tryd.func16, Tryd.ntmps16
  go_wp2
  go_loop [5] (fun i => ∃ k : Nat, k ≤ xs.length ∧ i = .int .i64 k ∧ Hid (∀ i, i < k → xs[i]? ≠ some j)) (fun i => xs.length - (intOf i).toNat)
  case atStart => exact ⟨0, Nat.zero_le _, rfl, fun i hi => absurd hi (by omega)⟩
  case round =>
    obtain ⟨k, hk, rfl, HN⟩ := hrel
    by_cases hlt : k < xs.length
    · have hxk : xs[k]? = some xs[k] := List.getElem?_eq_getElem hlt
      generalize xs[k] = x at hxk
      obtain ⟨b, off, rfl, hx'⟩ := hx (by rintro rfl; simp at hlt)
      have hc := hx' k _ hxk
      have hs := hasB_snoc xs j k x hxk HN.out
      clear hx hx' hxk
      rcases hs with ⟨hs, rfl⟩ | ⟨hs, hn⟩
      · have HS := Lib.hid hs
        clear hs
        go_wp2
        go_ret
        exact ⟨by rw [HS.out]; rfl, rfl⟩
      · have hb : (x == j) = false := by simpa using hs
        have HN' := Lib.hid hn
        clear hs hn
        go_wp2
        go_round
        case rel => exact ⟨k + 1, by omega, by go_num, HN'⟩
        case measure => simp [intOf]; omega
    · obtain rfl : k = xs.length := by omega
      have HS := Lib.hid (not_hasB HN.out)
      go_wp2
      go_ret
      exact ⟨by rw [HS.out]; rfl, rfl⟩

def Fine (w : World) (e : Ending) (w' : World) : Prop := e = .returned (.bool true) ∧ Below w.heap.size w w'

/-- A block that was there is there still. -/
theorem kept_row {w w' : World} {q : Nat} {o : Obj} (h : w.heap[q]? = some o) (hb : Below w.heap.size w w') : w'.heap[q]? = some o := (hb.block q (Array.getElem?_eq_some_iff.1 h).1).trans h
theorem EFun.old {w w' : World} {lo hi : Nat} {f : FunD} {v : Value} (h : EFun w (Zn.new lo hi) f v) (hb : Below hi w w') : EFun w' (Zn.new lo hi) f v := h.keep (Kept.below hb fun _ hb => hb.2)
end

/- domsOfAll of the program: the sets of all blocks. -/
section
open Go.ChangeShapes Go.WideShapes Go.ChangeAt Go.RowKit Go.Joins

/-- All that are in the list have all bits. -/
def markD (L : List Int) (D : List Nat) : List Nat := L.foldl (fun D x => D.set x.toNat allBits) D
theorem markD_take {L : List Int} {k : Nat} {x : Int} (h : L[k]? = some x) (D : List Nat) : markD (L.take (k + 1)) D = (markD (L.take k) D).set x.toNat allBits := by
  unfold markD
  rw [List.take_add_one, h, Option.toList_some, List.foldl_append]; rfl
theorem markD_len (L : List Int) : ∀ D : List Nat, (markD L D).length = D.length := by
  induction L with
  | nil => intro D; rfl
  | cons x L ih => intro D; show (markD L (D.set x.toNat allBits)).length = _; rw [ih]; simp
theorem markD_get : ∀ (L : List Int) (D : List Nat) (i : Nat), (∀ x ∈ L, 0 ≤ x) → i < D.length → (markD L D).getD i 0 = if (i : Int) ∈ L then allBits else D.getD i 0
  | [], D, i, _, _ => by simp [markD]
  | x :: L, D, i, h0, hi => by
    show (markD L (D.set x.toNat allBits)).getD i 0 = _
    rw [markD_get L _ i (fun y hy => h0 y (by simp [hy])) (by simpa using hi)]
    have hx := h0 x (by simp)
    by_cases e : x.toNat = i
    · have : (i : Int) = x := by omega
      subst e
      rw [getD_set_same hi, if_pos (show ((x.toNat : Nat) : Int) ∈ x :: L by rw [this]; simp)]
      split <;> rfl
    · rw [getD_set_other e]
      have : (i : Int) ∈ x :: L ↔ (i : Int) ∈ L := by
        rw [List.mem_cons]
        constructor
        · rintro (h | h)
          · omega
          · exact h
        · exact .inr
      by_cases hm : (i : Int) ∈ L
      · rw [if_pos hm, if_pos (this.2 hm)]
      · rw [if_neg hm, if_neg (fun h => hm (this.1 h))]

theorem isPreds_of {f : FunD} : IsPreds (scF f.blocks) f.blocks.length fun j => predsF f j := fun j p hj => by
  constructor
  · intro h
    obtain ⟨m, x, rfl, hx, ht⟩ := of_mem_predsF h
    exact ⟨m, rfl, (List.getElem?_eq_some_iff.1 hx).1, by rw [scF_at hx]; exact ht⟩
  · rintro ⟨m, rfl, hm, ht⟩
    have hx : f.blocks[m]? = some f.blocks[m] := List.getElem?_eq_getElem hm
    rw [scF_at hx] at ht
    exact mem_predsF hx ht

/-- The sets of the blocks, as they should be. -/
def DomsD (f : FunD) (D : List Nat) : Prop := DInv (scF f.blocks) f.blocks.length (fun j => predsF f j) D ∧ ∀ b : Nat, b < f.blocks.length → b ≠ 0 → Rch (scF f.blocks) (-1) b → stepD D (predsF f b) b = D.getD b 0
def GivesDoms (f : FunD) (w : World) (e : Ending) (w' : World) : Prop := ∃ q D, e = .returned (.slice (some ⟨q, 0, none⟩) f.blocks.length f.blocks.length) ∧ UL w' q f.blocks.length D ∧ w.heap.size ≤ q ∧ DomsD f D ∧ Below w.heap.size w w'

theorem info_sets : (Tryd.prog.info? 47).map (fun i => (i.zero, i.size, i.bytes)) = some (some (.int .u64 0), 1, 8) := by kernel_rfl

/-- How the round over the blocks has gone so far. -/
def InRound (f : FunD) (T : List Int) (D D' : List Nat) (k : Nat) (c : Bool) : Prop :=
  DInv (scF f.blocks) f.blocks.length (fun j => predsF f j) D' ∧ sumD D' ≤ sumD D ∧ (c = true → sumD D' < sumD D) ∧ (c = false → D' = D ∧ ∀ j x, j < k → T[j]? = some x → stepD D (predsF f x) x.toNat = D.getD x.toNat 0)

theorem InRound.go {f : FunD} (h40 : f.blocks.length ≤ 40) {T : List Int} {D D' : List Nat} {k m : Nat} {c : Bool} (h : InRound f T D D' k c) (hm : m < f.blocks.length) (hm0 : m ≠ 0) (hr : Rch (scF f.blocks) (-1) m) (hT : T[k]? = some (m : Int)) :
    InRound f T D (D'.set m (stepD D' (predsF f m) m)) (k + 1) (c || decide (stepD D' (predsF f m) m ≠ D'.getD m 0)) := by
  obtain ⟨h1, h2, h3, h4⟩ := h
  have hs := h1.sum hm hm0 hr
  refine ⟨h1.step h40 isPreds_of hm hm0 hr, Nat.le_trans hs.1 h2, fun hc => ?_, fun hc => ?_⟩
  · rw [Bool.or_eq_true, decide_eq_true_iff] at hc
    rcases hc with hc | hc
    · exact Nat.lt_of_le_of_lt hs.1 (h3 hc)
    · exact Nat.lt_of_lt_of_le (hs.2 hc) h2
  · rw [Bool.or_eq_false_iff, decide_eq_false_iff_not, Decidable.not_not] at hc
    obtain ⟨rfl, h5⟩ := h4 hc.1
    have hl : m < D'.length := by rw [h1.len]; exact hm
    refine ⟨?_, fun j x hj hx => ?_⟩
    · rw [hc.2, List.getD_eq_getElem?_getD, List.getElem?_eq_getElem hl]
      exact List.set_getElem_self hl
    · by_cases e : j = k
      · subst e
        rw [hT] at hx
        injection hx with hx
        subst hx
        rw [Int.toNat_natCast]; exact hc.2
      · exact h5 j x (by omega) hx
end

/- The fields of a walk. -/
section
open Go.ChangeShapes Go.WideShapes Go.ChangeAt Go.RowKit Go.Joins

theorem field_walk1 (A0 A1 A2 : Option Addr) (n0 c0 n1 c1 n2 c2 : Nat) (w : World) : (Instr.field 80 (.agg #[.slice A0 n0 c0, .slice A1 n1 c1, .slice A2 n2 c2]) 1).run Tryd.prog w = .ok (.slice A1 n1 c1) w := by kernel_rfl
theorem field_walk2 (A0 A1 A2 : Option Addr) (n0 c0 n1 c1 n2 c2 : Nat) (w : World) : (Instr.field 80 (.agg #[.slice A0 n0 c0, .slice A1 n1 c1, .slice A2 n2 c2]) 2).run Tryd.prog w = .ok (.slice A2 n2 c2) w := by kernel_rfl
end

end Go.Proofs.YteikpekffgifoaaDoor
