/- Sz, MarkD, ObMore, Edge, Edges, Iter, joined. -/
import Derived.Test.YteikpekffgifoaaGr2
import Derived.Test.YteikpekffgifoaaGr6
import Derived.Test.YteikpekffgifoaaGr7
import Derived.Test.YteikpekffgifoaaGr8
import Derived.Test.YteikpekffgifoaaGr17
import Derived.Deep.RegionHeld3
import Derived.Maps.AppendAt
import Derived.Deep.AppendLies
import Derived.RangeFuncNested
import Derived.RangeFuncBound
import Derived.RangeFuncBox
import Derived.RangeFuncCalls
import Derived.RangeFuncLeaves
import Derived.Shelf.Abstract
import Derived.Shelf.RegionOpen
import Derived.OwnWalkIn
import Derived.TacticsInMore
import Derived.LoopNIn
import Derived.LoopIn
namespace Go.Proofs.Yteikpekffgifoaa

/- szFun of the laws: what is left of a number when all that a function holds is taken off. -/
section
open Go.ChangeShapes Go.WideShapes Go.ChangeAt Go.RowKit Go.Joins

def leftI (left : Int) (n : Nat) : Int := if (n : Int) ≤ left then left - n else -1
theorem leftI_yes {left : Int} {n : Nat} (h : (n : Int) ≤ left) : leftI left n = left - n := if_pos h
theorem leftI_no {left : Int} {n : Nat} (h : ¬ (n : Int) ≤ left) : leftI left n = -1 := if_neg h
theorem leftI_le {left : Int} {n : Nat} (h : 0 ≤ left) : leftI left n ≤ left := by
  unfold leftI; split <;> omega
theorem leftI_add {left : Int} {a b : Nat} (h : 0 ≤ leftI left a) : leftI (leftI left a) b = leftI left (a + b) := by
  unfold leftI at h ⊢
  split at h
  · split <;> split <;> omega
  · omega
theorem leftI_more {left : Int} {a b : Nat} (h : leftI left a < 0) (hab : a ≤ b) : leftI left b = -1 := by
  unfold leftI at h ⊢
  split at h
  · omega
  · rw [if_neg (by omega)]
def pre {α : Type} (f : α → Nat) (xs : List α) (k : Nat) : Nat := ((xs.take k).map f).sum
theorem pre_zero {α : Type} (f : α → Nat) (xs : List α) : pre f xs 0 = 0 := rfl
theorem pre_succ {α : Type} (f : α → Nat) {xs : List α} {k : Nat} {x : α} (h : xs[k]? = some x) : pre f xs (k + 1) = pre f xs k + f x := by
  unfold pre
  rw [List.take_add_one, h]
  simp
theorem pre_all {α : Type} (f : α → Nat) (xs : List α) : pre f xs xs.length = (xs.map f).sum := by
  unfold pre; rw [List.take_length]
theorem sum_append_le (xs ys : List Nat) : xs.sum ≤ (xs ++ ys).sum := by simp
theorem pre_le {α : Type} (f : α → Nat) (xs : List α) (k : Nat) : pre f xs k ≤ (xs.map f).sum := by
  unfold pre
  conv => rhs; rw [← List.take_append_drop k xs, List.map_append]
  exact sum_append_le _ _
theorem mem_le_sum {α : Type} (f : α → Nat) : ∀ (xs : List α), ∀ x ∈ xs, f x ≤ (xs.map f).sum
  | [], _, h => by simp at h
  | y :: ys, x, h => by
    rw [List.map_cons, List.sum_cons]
    rcases List.mem_cons.1 h with rfl | h
    · omega
    · have := mem_le_sum f ys x h; omega

def szPhiN (p : PhiD) : Nat := p.args.length
def szPhisN (xs : List PhiD) : Nat := xs.length + (xs.map szPhiN).sum
def szBlockN (x : BlockD) : Nat := szPhisN x.phis + x.head.length + x.body.length + x.tail.length
def szFunN (f : FunD) : Nat := f.blocks.length + (f.blocks.map szBlockN).sum

theorem small_of_sz {f : FunD} (h : szFunN f ≤ 1048576) : smallFun f := by
  unfold szFunN at h
  refine ⟨by omega, fun x hx => ?_⟩
  have h1 := mem_le_sum szBlockN f.blocks x hx
  have e1 : szBlockN x = szPhisN x.phis + x.head.length + x.body.length + x.tail.length := rfl
  have e2 : szPhisN x.phis = x.phis.length + (x.phis.map szPhiN).sum := rfl
  refine ⟨by omega, fun p hp => ?_, by omega, by omega, by omega⟩
  have h2 := mem_le_sum szPhiN x.phis p hp
  have e3 : szPhiN p = p.args.length := rfl
  unfold smallPhi
  omega

set_option maxHeartbeats 400000 in
theorem szInt64S_any (A : Option Addr) (n c : Nat) (left : Int) (w : World) (hn : n ≤ 9223372036854775807) (h0 : 0 ≤ left) (h1 : left ≤ 1048576) :
    Calls Try.prog 123 #[.slice A n c, .int .i64 left] w fun e w' => e = .returned (.int .i64 (leftI left n)) ∧ w = w' := by
  by_cases h : (n : Int) ≤ left
  · have HE := Lib.hid (leftI_yes h)
    go_enter Try.func123, Try.ntmps123
    go_wp2
    go_ret
    exact ⟨by rw [HE.out]; rfl, rfl⟩
  · have HE := Lib.hid (leftI_no h)
    have h' : left - (n : Int) < 0 := by omega
    clear h
    go_enter Try.func123, Try.ntmps123
    go_wp2
    go_ret
    exact ⟨by rw [HE.out]; rfl, rfl⟩

set_option maxHeartbeats 400000 in
theorem szMoveS_any (A : Option Addr) (n c : Nat) (left : Int) (w : World) (hn : n ≤ 9223372036854775807) (h0 : 0 ≤ left) (h1 : left ≤ 1048576) :
    Calls Try.prog 101 #[.slice A n c, .int .i64 left] w fun e w' => e = .returned (.int .i64 (leftI left n)) ∧ w = w' := by
  by_cases h : (n : Int) ≤ left
  · have HE := Lib.hid (leftI_yes h)
    go_enter Try.func101, Try.ntmps101
    go_wp2
    go_ret
    exact ⟨by rw [HE.out]; rfl, rfl⟩
  · have HE := Lib.hid (leftI_no h)
    have h' : left - (n : Int) < 0 := by omega
    clear h
    go_enter Try.func101, Try.ntmps101
    go_wp2
    go_ret
    exact ⟨by rw [HE.out]; rfl, rfl⟩

set_option maxHeartbeats 400000 in
theorem szInsS_any (A : Option Addr) (n c : Nat) (left : Int) (w : World) (hn : n ≤ 9223372036854775807) (h0 : 0 ≤ left) (h1 : left ≤ 1048576) :
    Calls Try.prog 102 #[.slice A n c, .int .i64 left] w fun e w' => e = .returned (.int .i64 (leftI left n)) ∧ w = w' := by
  by_cases h : (n : Int) ≤ left
  · have HE := Lib.hid (leftI_yes h)
    go_enter Try.func102, Try.ntmps102
    go_wp2
    go_ret
    exact ⟨by rw [HE.out]; rfl, rfl⟩
  · have HE := Lib.hid (leftI_no h)
    have h' : left - (n : Int) < 0 := by omega
    clear h
    go_enter Try.func102, Try.ntmps102
    go_wp2
    go_ret
    exact ⟨by rw [HE.out]; rfl, rfl⟩

/-- The call answers this number, and old memory stays. -/
def GivesN (n : Int) (w : World) (e : Ending) (w' : World) : Prop := e = .returned (.int .i64 n) ∧ Below w.heap.size w w'

set_option maxHeartbeats 400000 in
theorem szPhi_any (a : Int) (A : Option Addr) (n c : Nat) (left : Int) (w : World) (hn : n ≤ 9223372036854775807) (h0 : 0 ≤ left) (h1 : left ≤ 1048576) :
    Calls Try.prog 115 #[.agg #[.int .i64 a, .slice A n c], .int .i64 left] w (GivesN (leftI left n) w) := by
  by_cases h : (n : Int) ≤ left
  · have HE := Lib.hid (leftI_yes h)
    have h' : 0 ≤ leftI left n := by rw [HE.out]; omega
    go_enter Try.func115, Try.ntmps115
    go_wp2_with (go_at_call 123; refine (szInt64S_any _ _ _ _ _ hn h0 h1).mono ?_; rintro e w' ⟨rfl, rfl⟩)
    go_ret
    exact ⟨rfl, (Below.refl _ _).alloc (Nat.le_refl _) _⟩
  · have HE := Lib.hid (leftI_no h)
    have h' : leftI left n < 0 := by rw [HE.out]; omega
    clear h
    go_enter Try.func115, Try.ntmps115
    go_wp2_with (go_at_call 123; refine (szInt64S_any _ _ _ _ _ hn h0 h1).mono ?_; rintro e w' ⟨rfl, rfl⟩)
    go_ret
    exact ⟨by rw [HE.out]; rfl, (Below.refl _ _).alloc (Nat.le_refl _) _⟩

set_option maxHeartbeats 1000000 in
theorem szPhiS_any (v : Value) (xs : List PhiD) (left : Int) (w : World) (Z : Zn) (hv : Row w Z 2 (EPhi w Z) v xs) (hD : ∀ b, Z.D b → b < w.heap.size) (h0 : 0 ≤ left) (h1 : left ≤ 1048576) :
    Calls Try.prog 100 #[v, .int .i64 left] w (GivesN (leftI left (xs.length + (xs.map szPhiN).sum)) w) := by
  obtain ⟨hle, A, c, rfl, hx⟩ := hv
  by_cases hl0 : (xs.length : Int) ≤ left
  · have hxe : leftI left (xs.length + pre szPhiN xs 0) = left - xs.length := by rw [pre_zero, Nat.add_zero, leftI_yes hl0]
    have HXE := Lib.hid hxe
    clear hxe
    go_enter Try.func100, Try.ntmps100
    go_wp2
    go_loopw [1, 5] (fun q i wr => ∃ k : Nat, k ≤ xs.length ∧ i = .int .i64 k ∧ q = .int .i64 (leftI left (xs.length + pre szPhiN xs k)) ∧ 0 ≤ leftI left (xs.length + pre szPhiN xs k) ∧ Hid (Below w.heap.size w wr)) (fun _ i _ => xs.length - (intOf i).toNat)
    case atStart => exact ⟨0, Nat.zero_le _, rfl, by rw [HXE.out], by rw [HXE.out]; omega, Below.refl _ _⟩
    case round =>
      obtain ⟨k, hk, rfl, rfl, hpos, HB⟩ := hrel
      have hub := Int.le_trans (leftI_le (n := xs.length + pre szPhiN xs k) h0) h1
      by_cases hlt : k < xs.length
      · have hxk : xs[k]? = some xs[k] := List.getElem?_eq_getElem hlt
        generalize xs[k] = x at hxk
        obtain ⟨b, off, rfl, hDb, hrow⟩ := hx (by rintro rfl; simp at hlt)
        obtain ⟨cs, hE, hcs⟩ := hrow k x hxk
        have hbl := hD b hDb
        obtain ⟨q, rfl, hq⟩ := hE
        obtain ⟨hle1, A1, c1, rfl, _⟩ := hq
        have c0 : wr.cell? ⟨b, off + k * 2, none⟩ = some (.int .i64 x.v) := (HB.out.cell (p := ⟨b, _, none⟩) hbl).trans (hcs 0 _ rfl).1
        have c1 : wr.cell? ⟨b, off + k * 2 + 1, none⟩ = some (.slice A1 x.args.length c1) := (HB.out.cell (p := ⟨b, _, none⟩) hbl).trans (hcs 1 _ rfl).1
        have hnext : leftI (leftI left (xs.length + pre szPhiN xs k)) (szPhiN x) = leftI left (xs.length + pre szPhiN xs (k + 1)) := by rw [leftI_add hpos, pre_succ szPhiN hxk, Nat.add_assoc]
        have HN := Lib.hid hnext
        have hall := pre_le szPhiN xs (k + 1)
        clear hcs hrow hx hxk hnext
        generalize hq : leftI left (xs.length + pre szPhiN xs k) = q at *
        clear hq
        by_cases hneg : 0 ≤ leftI left (xs.length + pre szPhiN xs (k + 1))
        · go_wp2_with fail
          refine (szPhi_any _ _ _ _ _ _ hle1 hpos hub).mono ?_
          rintro e w5 ⟨he, hb5⟩
          obtain rfl : e = .returned (.int .i64 (leftI q (szPhiN x))) := he
          rw [HN.out]
          have HB5 := Lib.hid (HB.out.trans (hb5.mono HB.out.size))
          clear hb5
          go_wp2_with fail
          go_roundw
          case rel => exact ⟨k + 1, by omega, by go_num, rfl, hneg, HB5.out⟩
          case measure => simp [intOf]; omega
        · have hneg' : leftI left (xs.length + pre szPhiN xs (k + 1)) < 0 := by omega
          have HE := Lib.hid (leftI_more (b := xs.length + (xs.map szPhiN).sum) hneg' (by omega))
          clear hneg
          go_wp2_with fail
          refine (szPhi_any _ _ _ _ _ _ hle1 hpos hub).mono ?_
          rintro e w5 ⟨he, hb5⟩
          obtain rfl : e = .returned (.int .i64 (leftI q (szPhiN x))) := he
          rw [HN.out]
          have HB5 := Lib.hid (HB.out.trans (hb5.mono HB.out.size))
          clear hb5
          go_wp2_with fail
          go_ret
          exact ⟨by rw [HE.out]; rfl, HB5.out⟩
      · obtain rfl : k = xs.length := by omega
        have HP := Lib.hid (pre_all szPhiN xs)
        go_wp2
        go_ret
        exact ⟨by rw [HP.out]; rfl, HB.out⟩
  · have HE := Lib.hid (leftI_more (left := left) (a := xs.length) (b := xs.length + (xs.map szPhiN).sum) (by rw [leftI_no hl0]; omega) (by omega))
    have h' : left - (xs.length : Int) < 0 := by omega
    clear hl0
    go_enter Try.func100, Try.ntmps100
    go_wp2
    go_ret
    exact ⟨by rw [HE.out]; rfl, Below.refl _ _⟩

theorem szBlock_end {left : Int} {a b : Nat} (h : leftI left a < 0) (hab : a ≤ b) : Ending.returned (.int .i64 (-1)) = .returned (.int .i64 (leftI left b)) := by rw [leftI_more h hab]

set_option maxHeartbeats 1000000 in
theorem szBlock_any (x : BlockD) (cs : List Value) (left : Int) (w : World) (Z : Zn) (hv : EBlock w Z x cs) (hD : ∀ b, Z.D b → b < w.heap.size) (h0 : 0 ≤ left) (h1 : left ≤ 1048576) :
    Calls Try.prog 90 #[.agg cs.toArray, .int .i64 left] w (GivesN (leftI left (szBlockN x)) w) := by
  obtain ⟨v0, v1, v2, v3, rfl, hv0, ⟨hl1, A1, c1, rfl, _⟩, ⟨hl2, A2, c2, rfl, _⟩, ⟨hl3, A3, c3, rfl, _⟩⟩ := hv
  have HV0 := Lib.hid hv0
  obtain ⟨_, A0, c0, rfl, _⟩ := hv0
  have HS : Hid (szBlockN x = szPhisN x.phis + x.head.length + x.body.length + x.tail.length) := rfl
  have HS0 : Hid (szPhisN x.phis = x.phis.length + (x.phis.map szPhiN).sum) := rfl
  go_enter Try.func90, Try.ntmps90
  go_wp2_with fail
  refine (szPhiS_any _ _ _ _ Z (HV0.out.keep (Kept.below ((Below.refl _ _).alloc (Nat.le_refl _) _) hD) fun _ _ h => h.keep (Kept.below ((Below.refl _ _).alloc (Nat.le_refl _) _) hD)) (fun b hb => by have := hD b hb; simp; omega) h0 h1).mono ?_
  rintro e w1 ⟨he, hb1⟩
  rw [← HS0.out] at he
  subst he
  have HB1 : Hid (Below w.heap.size w w1) := ((Below.refl _ _).alloc (Nat.le_refl _) _).trans (hb1.mono (by simp))
  obtain ⟨hc1, hf1⟩ := bcellB (hb1.mono (B' := w.heap.size + 1) (by simp))
  have hz1 : w.heap.size + 1 ≤ w1.heap.size := by have := hb1.size; simp at this; omega
  clear hb1 hf1
  by_cases g1 : 0 ≤ leftI left (szPhisN x.phis)
  case neg =>
    have g1' : leftI left (szPhisN x.phis) < 0 := by omega
    clear g1
    go_wp2_with fail
    go_ret
    exact ⟨szBlock_end g1' (by rw [HS.out]; omega), HB1.out⟩
  have u1 := Int.le_trans (leftI_le (n := szPhisN x.phis) h0) h1
  go_wp2_with fail
  refine (szMoveS_any _ _ _ _ _ hl1 g1 u1).mono ?_
  rintro e w' ⟨he, rfl⟩
  rw [leftI_add g1] at he
  subst he
  by_cases g2 : 0 ≤ leftI left (szPhisN x.phis + x.head.length)
  case neg =>
    have g' : leftI left (szPhisN x.phis + x.head.length) < 0 := by omega
    clear g2 g1 u1
    go_wp2_with fail
    go_ret
    exact ⟨szBlock_end g' (by rw [HS.out]; omega), HB1.out⟩
  have u2 := Int.le_trans (leftI_le (n := szPhisN x.phis + x.head.length) h0) h1
  clear g1 u1
  go_wp2_with fail
  refine (szInsS_any _ _ _ _ _ hl2 g2 u2).mono ?_
  rintro e w' ⟨he, rfl⟩
  rw [leftI_add g2] at he
  subst he
  by_cases g3 : 0 ≤ leftI left (szPhisN x.phis + x.head.length + x.body.length)
  case neg =>
    have g' : leftI left (szPhisN x.phis + x.head.length + x.body.length) < 0 := by omega
    clear g3 g2 u2
    go_wp2_with fail
    go_ret
    exact ⟨szBlock_end g' (by rw [HS.out]; omega), HB1.out⟩
  have u3 := Int.le_trans (leftI_le (n := szPhisN x.phis + x.head.length + x.body.length) h0) h1
  clear g2 u2
  go_wp2_with fail
  refine (szMoveS_any _ _ _ _ _ hl3 g3 u3).mono ?_
  rintro e w' ⟨he, rfl⟩
  rw [leftI_add g3] at he
  subst he
  by_cases g4 : 0 ≤ leftI left (szPhisN x.phis + x.head.length + x.body.length + x.tail.length)
  case neg =>
    have g' : leftI left (szPhisN x.phis + x.head.length + x.body.length + x.tail.length) < 0 := by omega
    clear g4 g3 u3
    go_wp2_with fail
    go_ret
    exact ⟨szBlock_end g' (by rw [HS.out]; omega), HB1.out⟩
  have u4 := Int.le_trans (leftI_le (n := szPhisN x.phis + x.head.length + x.body.length + x.tail.length) h0) h1
  clear g3 u3
  go_wp2_with fail
  go_ret
  exact ⟨by rw [HS.out]; rfl, HB1.out⟩

set_option maxHeartbeats 1000000 in
theorem szBlockS_any (v : Value) (xs : List BlockD) (left : Int) (w : World) (Z : Zn) (hv : Row w Z 8 (EBlock w Z) v xs) (hD : ∀ b, Z.D b → b < w.heap.size) (h0 : 0 ≤ left) (h1 : left ≤ 1048576) :
    Calls Try.prog 65 #[v, .int .i64 left] w (GivesN (leftI left (xs.length + (xs.map szBlockN).sum)) w) := by
  obtain ⟨hle, A, c, rfl, hx⟩ := hv
  by_cases hl0 : (xs.length : Int) ≤ left
  · have hxe : leftI left (xs.length + pre szBlockN xs 0) = left - xs.length := by rw [pre_zero, Nat.add_zero, leftI_yes hl0]
    have HXE := Lib.hid hxe
    clear hxe
    go_enter Try.func65, Try.ntmps65
    go_wp2
    go_loopw [1, 5] (fun q i wr => ∃ k : Nat, k ≤ xs.length ∧ i = .int .i64 k ∧ q = .int .i64 (leftI left (xs.length + pre szBlockN xs k)) ∧ 0 ≤ leftI left (xs.length + pre szBlockN xs k) ∧ Hid (Below w.heap.size w wr)) (fun _ i _ => xs.length - (intOf i).toNat)
    case atStart => exact ⟨0, Nat.zero_le _, rfl, by rw [HXE.out], by rw [HXE.out]; omega, Below.refl _ _⟩
    case round =>
      obtain ⟨k, hk, rfl, rfl, hpos, HB⟩ := hrel
      have hub := Int.le_trans (leftI_le (n := xs.length + pre szBlockN xs k) h0) h1
      by_cases hlt : k < xs.length
      · have hxk : xs[k]? = some xs[k] := List.getElem?_eq_getElem hlt
        generalize xs[k] = x at hxk
        obtain ⟨b, off, rfl, hDb, hrow⟩ := hx (by rintro rfl; simp at hlt)
        obtain ⟨cs, hE, hcs⟩ := hrow k x hxk
        have hbl := hD b hDb
        have HQ := Lib.hid (hE.keep (Kept.below HB.out hD))
        obtain ⟨_, _, _, _, rfl, ⟨_, A0, c0, rfl, _⟩, ⟨_, A1, c1, rfl, _⟩, ⟨_, A2, c2, rfl, _⟩, ⟨_, A3, c3, rfl, _⟩⟩ := hE
        have c0 : wr.cell? ⟨b, off + k * 8, none⟩ = some (.slice A0 x.phis.length c0) := (HB.out.cell (p := ⟨b, _, none⟩) hbl).trans (hcs 0 _ rfl).1
        have c1 : wr.cell? ⟨b, off + k * 8 + 1, none⟩ = some (.slice A1 x.head.length c1) := (HB.out.cell (p := ⟨b, _, none⟩) hbl).trans (hcs 1 _ rfl).1
        have c2 : wr.cell? ⟨b, off + k * 8 + 2, none⟩ = some (.slice A2 x.body.length c2) := (HB.out.cell (p := ⟨b, _, none⟩) hbl).trans (hcs 2 _ rfl).1
        have c3 : wr.cell? ⟨b, off + k * 8 + 3, none⟩ = some (.slice A3 x.tail.length c3) := (HB.out.cell (p := ⟨b, _, none⟩) hbl).trans (hcs 3 _ rfl).1
        have c4 : wr.cell? ⟨b, off + k * 8 + 4, none⟩ = some (.int .i64 x.fin.k) := (HB.out.cell (p := ⟨b, _, none⟩) hbl).trans (hcs 4 _ rfl).1
        have c5 : wr.cell? ⟨b, off + k * 8 + 5, none⟩ = some (.int .i64 x.fin.a) := (HB.out.cell (p := ⟨b, _, none⟩) hbl).trans (hcs 5 _ rfl).1
        have c6 : wr.cell? ⟨b, off + k * 8 + 6, none⟩ = some (.int .i64 x.fin.t) := (HB.out.cell (p := ⟨b, _, none⟩) hbl).trans (hcs 6 _ rfl).1
        have c7 : wr.cell? ⟨b, off + k * 8 + 7, none⟩ = some (.int .i64 x.fin.l) := (HB.out.cell (p := ⟨b, _, none⟩) hbl).trans (hcs 7 _ rfl).1
        have hnext : leftI (leftI left (xs.length + pre szBlockN xs k)) (szBlockN x) = leftI left (xs.length + pre szBlockN xs (k + 1)) := by rw [leftI_add hpos, pre_succ szBlockN hxk, Nat.add_assoc]
        have HN := Lib.hid hnext
        have hall := pre_le szBlockN xs (k + 1)
        clear hcs hrow hx hxk hnext
        generalize hq : leftI left (xs.length + pre szBlockN xs k) = q at *
        clear hq
        by_cases hneg : 0 ≤ leftI left (xs.length + pre szBlockN xs (k + 1))
        · go_wp2_with fail
          refine (szBlock_any x _ _ _ Z HQ.out (fun b hb => by have h1 := hD b hb; have h2 := HB.out.size; omega) hpos hub).mono ?_
          rintro e w5 ⟨he, hb5⟩
          obtain rfl : e = .returned (.int .i64 (leftI q (szBlockN x))) := he
          rw [HN.out]
          have HB5 := Lib.hid (HB.out.trans (hb5.mono HB.out.size))
          clear hb5
          go_wp2_with fail
          go_roundw
          case rel => exact ⟨k + 1, by omega, by go_num, rfl, hneg, HB5.out⟩
          case measure => simp [intOf]; omega
        · have hneg' : leftI left (xs.length + pre szBlockN xs (k + 1)) < 0 := by omega
          have HE := Lib.hid (leftI_more (b := xs.length + (xs.map szBlockN).sum) hneg' (by omega))
          clear hneg
          go_wp2_with fail
          refine (szBlock_any x _ _ _ Z HQ.out (fun b hb => by have h1 := hD b hb; have h2 := HB.out.size; omega) hpos hub).mono ?_
          rintro e w5 ⟨he, hb5⟩
          obtain rfl : e = .returned (.int .i64 (leftI q (szBlockN x))) := he
          rw [HN.out]
          have HB5 := Lib.hid (HB.out.trans (hb5.mono HB.out.size))
          clear hb5
          go_wp2_with fail
          go_ret
          exact ⟨by rw [HE.out]; rfl, HB5.out⟩
      · obtain rfl : k = xs.length := by omega
        have HP := Lib.hid (pre_all szBlockN xs)
        go_wp2
        go_ret
        exact ⟨by rw [HP.out]; rfl, HB.out⟩
  · have HE := Lib.hid (leftI_more (left := left) (a := xs.length) (b := xs.length + (xs.map szBlockN).sum) (by rw [leftI_no hl0]; omega) (by omega))
    have h' : left - (xs.length : Int) < 0 := by omega
    clear hl0
    go_enter Try.func65, Try.ntmps65
    go_wp2
    go_ret
    exact ⟨by rw [HE.out]; rfl, Below.refl _ _⟩

set_option maxHeartbeats 400000 in
theorem szFun_any (f : FunD) (v : Value) (left : Int) (w : World) (Z : Zn) (hv : EFun w Z f v) (hD : ∀ b, Z.D b → b < w.heap.size) (h0 : 0 ≤ left) (h1 : left ≤ 1048576) :
    Calls Try.prog 30 #[v, .int .i64 left] w (GivesN (leftI left (szFunN f)) w) := by
  obtain ⟨u, rfl, hu⟩ := hv
  have HV := Lib.hid hu
  obtain ⟨_, A, c, rfl, _⟩ := hu
  have HS : Hid (szFunN f = f.blocks.length + (f.blocks.map szBlockN).sum) := rfl
  go_enter Try.func30, Try.ntmps30
  go_wp2_with fail
  refine (szBlockS_any _ _ _ _ Z (HV.out.keep (Kept.below ((Below.refl _ _).alloc (Nat.le_refl _) _) hD) fun _ _ h => h.keep (Kept.below ((Below.refl _ _).alloc (Nat.le_refl _) _) hD)) (fun b hb => by have := hD b hb; simp; omega) h0 h1).mono ?_
  rintro e w1 ⟨he, hb1⟩
  rw [← HS.out] at he
  subst he
  have HB1 : Hid (Below w.heap.size w w1) := ((Below.refl _ _).alloc (Nat.le_refl _) _).trans (hb1.mono (by simp))
  clear hb1
  by_cases g1 : 0 ≤ leftI left (szFunN f)
  · go_wp2_with fail
    go_ret
    exact ⟨rfl, HB1.out⟩
  · have g1' : leftI left (szFunN f) < 0 := by omega
    clear g1
    go_wp2_with fail
    go_ret
    exact ⟨szBlock_end g1' (Nat.le_refl _), HB1.out⟩
end

/- What a call that writes numbers where numbers were leaves as it was. -/
section
open Go.ChangeShapes Go.WideShapes Go.ChangeAt Go.RowKit Go.Joins

def isI (u : Value) : Prop := ∃ x : Int, u = .int .i64 x

/-- Within the blocks D numbers may have been written where numbers were; all else is as it was. -/
structure Marked (D : Nat → Prop) (w w' : World) : Prop where
  os : w'.os = w.os
  tape : w'.tape = w.tape
  output : w'.output = w.output
  size : w.heap.size ≤ w'.heap.size
  far : ∀ b, b < w.heap.size → ¬ D b → w'.heap[b]? = w.heap[b]?
  num : ∀ b o u, D b → w.cell? ⟨b, o, none⟩ = some u → isI u → ∃ u', w'.cell? ⟨b, o, none⟩ = some u' ∧ isI u'
  same : ∀ b o u, D b → w.cell? ⟨b, o, none⟩ = some u → ¬ isI u → w'.cell? ⟨b, o, none⟩ = some u
  frozen : ∀ b o, D b → b < w.heap.size → w'.frozen? ⟨b, o, none⟩ = w.frozen? ⟨b, o, none⟩

theorem lt_of_cell {w : World} {b o : Nat} {u : Value} (h : w.cell? ⟨b, o, none⟩ = some u) : b < w.heap.size := World.block_lt_of_cell? w ⟨b, o, none⟩ h

theorem Marked.refl (D : Nat → Prop) (w : World) : Marked D w w := ⟨rfl, rfl, rfl, Nat.le_refl _, fun _ _ _ => rfl, fun _ _ u _ h hi => ⟨u, h, hi⟩, fun _ _ _ _ h _ => h, fun _ _ _ _ => rfl⟩
theorem Marked.trans {D : Nat → Prop} {a b c : World} (h : Marked D a b) (k : Marked D b c) : Marked D a c := by
  refine ⟨k.os.trans h.os, k.tape.trans h.tape, k.output.trans h.output, Nat.le_trans h.size k.size, fun i hi hn => (k.far i (Nat.lt_of_lt_of_le hi h.size) hn).trans (h.far i hi hn), fun i o u hD hu hi => ?_, fun i o u hD hu hi => ?_, fun i o hD hi => (k.frozen i o hD (Nat.lt_of_lt_of_le hi h.size)).trans (h.frozen i o hD hi)⟩
  · obtain ⟨u', hu', hi'⟩ := h.num i o u hD hu hi
    exact k.num i o u' hD hu' hi'
  · exact k.same i o u hD (h.same i o u hD hu hi) hi
theorem Marked.below {D : Nat → Prop} {w w' : World} (hb : Below w.heap.size w w') : Marked D w w' :=
  ⟨hb.os, hb.tape, hb.output, hb.size, fun b h _ => hb.block b h, fun b o u _ hu hi => ⟨u, (hb.cell (p := ⟨b, o, none⟩) (lt_of_cell hu)).trans hu, hi⟩, fun b o _ _ hu _ => (hb.cell (p := ⟨b, o, none⟩) (lt_of_cell hu)).trans hu, fun b o _ h => hb.frozen (p := ⟨b, o, none⟩) h⟩
theorem Marked.set {D : Nat → Prop} {w : World} {b o : Nat} {u : Value} (hD : D b) (hu : w.cell? ⟨b, o, none⟩ = some u) (hi : isI u) (x : Int) : Marked D w (w.setCell ⟨b, o, none⟩ (.int .i64 x)) := by
  have hg := set_grown w b o (.int .i64 x)
  refine ⟨hg.os, hg.tape, hg.output, hg.size, fun i h hn => hg.block i h (fun e => hn (by injection e with e; rw [e]; exact hD)), fun i o' u' _ hu' hi' => ?_, fun i o' u' _ hu' hn => ?_, fun i o' _ _ => World.frozen?_setCell w _ _ _⟩
  · by_cases e : (⟨b, o, none⟩ : Addr) = ⟨i, o', none⟩
    · rw [← e]
      exact ⟨_, World.cell?_setCell_same w _ _ hu, x, rfl⟩
    · exact ⟨u', by rw [World.cell?_setCell_other _ _ _ _ (by first | exact e | exact Ne.symm e)]; exact hu', hi'⟩
  · by_cases e : (⟨b, o, none⟩ : Addr) = ⟨i, o', none⟩
    · rw [← e, hu] at hu'
      injection hu' with hu'
      subst hu'
      exact absurd hi hn
    · rw [World.cell?_setCell_other _ _ _ _ (by first | exact e | exact Ne.symm e)]; exact hu'

/-- A number lies there, and may be written. -/
def SInt (w : World) (b o : Nat) : Prop := (∃ x : Int, w.cell? ⟨b, o, none⟩ = some (.int .i64 x)) ∧ w.frozen? ⟨b, o, none⟩ = false
/-- n records of S numbers each. -/
def SFlat (D : Nat → Prop) (w : World) (S : Nat) (v : Value) (n : Nat) : Prop :=
  n ≤ 9223372036854775807 ∧ ∃ A c, v = .slice A n c ∧ (0 < n → ∃ b off, A = some ⟨b, off, none⟩ ∧ D b ∧ ∀ k j, k < n → j < S → SInt w b (off + k * S + j))
def SPhis (D : Nat → Prop) (w : World) (v : Value) (ns : List Nat) : Prop :=
  ns.length ≤ 9223372036854775807 ∧ ∃ A c, v = .slice A ns.length c ∧ (0 < ns.length → ∃ b off, A = some ⟨b, off, none⟩ ∧ D b ∧ ∀ (k : Nat) n, ns[k]? = some n → SInt w b (off + k * 2) ∧ ∃ u, w.cell? ⟨b, off + k * 2 + 1, none⟩ = some u ∧ SFlat D w 1 u n)
structure BShape where
  phis : List Nat
  head : Nat
  body : Nat
  tail : Nat
def SBlocks (D : Nat → Prop) (w : World) (v : Value) (ss : List BShape) : Prop :=
  ss.length ≤ 9223372036854775807 ∧ ∃ A c, v = .slice A ss.length c ∧ (0 < ss.length → ∃ b off, A = some ⟨b, off, none⟩ ∧ D b ∧ ∀ (k : Nat) s, ss[k]? = some s → ∃ u0 u1 u2 u3, w.cell? ⟨b, off + k * 8, none⟩ = some u0 ∧ w.cell? ⟨b, off + k * 8 + 1, none⟩ = some u1 ∧ w.cell? ⟨b, off + k * 8 + 2, none⟩ = some u2 ∧ w.cell? ⟨b, off + k * 8 + 3, none⟩ = some u3 ∧
    SPhis D w u0 s.phis ∧ SFlat D w 2 u1 s.head ∧ SFlat D w 4 u2 s.body ∧ SFlat D w 2 u3 s.tail ∧ SInt w b (off + k * 8 + 4) ∧ SInt w b (off + k * 8 + 5) ∧ SInt w b (off + k * 8 + 6) ∧ SInt w b (off + k * 8 + 7))

theorem not_isI_slice {A : Option Addr} {n c : Nat} : ¬ isI (.slice A n c) := fun ⟨_, h⟩ => by cases h
theorem SInt.marked {D : Nat → Prop} {w w' : World} {b o : Nat} (h : SInt w b o) (hD : D b) (hm : Marked D w w') : SInt w' b o := by
  obtain ⟨⟨x, hx⟩, hf⟩ := h
  obtain ⟨u', hu', y, rfl⟩ := hm.num b o _ hD hx ⟨x, rfl⟩
  exact ⟨⟨y, hu'⟩, (hm.frozen b o hD (lt_of_cell hx)).trans hf⟩
theorem SFlat.marked {D : Nat → Prop} {w w' : World} {S n : Nat} {v : Value} (h : SFlat D w S v n) (hm : Marked D w w') : SFlat D w' S v n := by
  obtain ⟨h1, A, c, rfl, h2⟩ := h
  refine ⟨h1, A, c, rfl, fun hn => ?_⟩
  obtain ⟨b, off, rfl, hD, h3⟩ := h2 hn
  exact ⟨b, off, rfl, hD, fun k j hk hj => (h3 k j hk hj).marked hD hm⟩
theorem SFlat.form {D : Nat → Prop} {w : World} {S n : Nat} {v : Value} (h : SFlat D w S v n) : ¬ isI v := by
  obtain ⟨_, A, c, rfl, _⟩ := h
  exact not_isI_slice
theorem SPhis.form {D : Nat → Prop} {w : World} {ns : List Nat} {v : Value} (h : SPhis D w v ns) : ¬ isI v := by
  obtain ⟨_, A, c, rfl, _⟩ := h
  exact not_isI_slice
theorem SPhis.marked {D : Nat → Prop} {w w' : World} {ns : List Nat} {v : Value} (h : SPhis D w v ns) (hm : Marked D w w') : SPhis D w' v ns := by
  obtain ⟨h1, A, c, rfl, h2⟩ := h
  refine ⟨h1, A, c, rfl, fun hn => ?_⟩
  obtain ⟨b, off, rfl, hD, h3⟩ := h2 hn
  refine ⟨b, off, rfl, hD, fun k n hk => ?_⟩
  obtain ⟨h4, u, hu, h5⟩ := h3 k n hk
  exact ⟨h4.marked hD hm, u, hm.same _ _ _ hD hu h5.form, h5.marked hm⟩
theorem SBlocks.marked {D : Nat → Prop} {w w' : World} {ss : List BShape} {v : Value} (h : SBlocks D w v ss) (hm : Marked D w w') : SBlocks D w' v ss := by
  obtain ⟨h1, A, c, rfl, h2⟩ := h
  refine ⟨h1, A, c, rfl, fun hn => ?_⟩
  obtain ⟨b, off, rfl, hD, h3⟩ := h2 hn
  refine ⟨b, off, rfl, hD, fun k s hk => ?_⟩
  obtain ⟨u0, u1, u2, u3, c0, c1, c2, c3, s0, s1, s2, s3, i0, i1, i2, i3⟩ := h3 k s hk
  exact ⟨u0, u1, u2, u3, hm.same _ _ _ hD c0 s0.form, hm.same _ _ _ hD c1 s1.form, hm.same _ _ _ hD c2 s2.form, hm.same _ _ _ hD c3 s3.form, s0.marked hm, s1.marked hm, s2.marked hm, s3.marked hm, i0.marked hD hm, i1.marked hD hm, i2.marked hD hm, i3.marked hD hm⟩

def phisS (l : List PhiD) : List Nat := l.map fun p => p.args.length
def blockS (x : BlockD) : BShape := ⟨phisS x.phis, x.head.length, x.body.length, x.tail.length⟩
theorem At.sint {w : World} {Z : Zn} {b o : Nat} {x : Int} (h : At w Z b o (.int .i64 x)) (ho : Z.own = true) : SInt w b o := ⟨⟨x, h.1⟩, h.2 ho⟩

theorem Row.sflat {α : Type} {w : World} {Z : Zn} {S : Nat} {E : α → List Value → Prop} {v : Value} {xs : List α} (h : Row w Z S E v xs) (ho : Z.own = true) (hE : ∀ x cs, E x cs → ∀ j, j < S → ∃ y : Int, cs[j]? = some (.int .i64 y)) : SFlat Z.D w S v xs.length := by
  obtain ⟨h1, A, c, rfl, h2⟩ := h
  refine ⟨h1, A, c, rfl, fun hn => ?_⟩
  obtain ⟨b, off, rfl, hD, h3⟩ := h2 (List.length_pos_iff.1 hn)
  refine ⟨b, off, rfl, hD, fun k j hk hj => ?_⟩
  obtain ⟨cs, hcs, h4⟩ := h3 k _ (List.getElem?_eq_getElem hk)
  obtain ⟨y, hy⟩ := hE _ cs hcs j hj
  exact (h4 j _ hy).sint ho
theorem Row.sints {w : World} {Z : Zn} {v : Value} {xs : List Int} (h : Row w Z 1 EInt v xs) (ho : Z.own = true) : SFlat Z.D w 1 v xs.length :=
  h.sflat ho fun x cs hcs j hj => by
    subst hcs
    obtain rfl : j = 0 := by omega
    exact ⟨_, rfl⟩
theorem Row.smoves {w : World} {Z : Zn} {v : Value} {xs : List MoveD} (h : Row w Z 2 EMove v xs) (ho : Z.own = true) : SFlat Z.D w 2 v xs.length :=
  h.sflat ho fun x cs hcs j hj => by
    subst hcs
    match j, hj with
    | 0, _ => exact ⟨_, rfl⟩
    | 1, _ => exact ⟨_, rfl⟩
theorem Row.sinss {w : World} {Z : Zn} {v : Value} {xs : List InsD} (h : Row w Z 4 EIns v xs) (ho : Z.own = true) : SFlat Z.D w 4 v xs.length :=
  h.sflat ho fun x cs hcs j hj => by
    subst hcs
    match j, hj with
    | 0, _ => exact ⟨_, rfl⟩
    | 1, _ => exact ⟨_, rfl⟩
    | 2, _ => exact ⟨_, rfl⟩
    | 3, _ => exact ⟨_, rfl⟩
theorem Row.sphis {w : World} {Z : Zn} {v : Value} {xs : List PhiD} (h : Row w Z 2 (EPhi w Z) v xs) (ho : Z.own = true) : SPhis Z.D w v (phisS xs) := by
  have hl : (phisS xs).length = xs.length := by simp [phisS]
  obtain ⟨h1, A, c, rfl, h2⟩ := h
  refine ⟨by rw [hl]; exact h1, A, c, by rw [hl], fun hn => ?_⟩
  obtain ⟨b, off, rfl, hD, h3⟩ := h2 (List.length_pos_iff.1 (by omega))
  refine ⟨b, off, rfl, hD, fun k n hk => ?_⟩
  have hk' : k < xs.length := by
    have := (List.getElem?_eq_some_iff.1 hk).1
    omega
  have hxk : xs[k]? = some xs[k] := List.getElem?_eq_getElem hk'
  obtain ⟨cs, ⟨u, rfl, hu⟩, h4⟩ := h3 k _ hxk
  have hn : n = xs[k].args.length := by
    unfold phisS at hk
    rw [List.getElem?_map, hxk] at hk
    simpa using hk.symm
  subst hn
  exact ⟨(h4 0 _ rfl).sint ho, u, (h4 1 _ rfl).1, hu.sints ho⟩
theorem EFun.sblocks {w : World} {Z : Zn} {f : FunD} {a b u : Value} (h : EFun w Z f (.agg #[a, b, u])) (ho : Z.own = true) : SBlocks Z.D w u (f.blocks.map blockS) := by
  obtain ⟨u', he, h⟩ := h
  injection he with he
  have : u = u' := by
    have := congrArg (fun l : Array Value => l[2]?) he
    simpa using this
  subst this
  have hl : (f.blocks.map blockS).length = f.blocks.length := by simp
  obtain ⟨h1, A, c, rfl, h2⟩ := h
  refine ⟨by rw [hl]; exact h1, A, c, by rw [hl], fun hn => ?_⟩
  obtain ⟨b, off, rfl, hD, h3⟩ := h2 (List.length_pos_iff.1 (by omega))
  refine ⟨b, off, rfl, hD, fun k s hk => ?_⟩
  have hk' : k < f.blocks.length := by
    have := (List.getElem?_eq_some_iff.1 hk).1
    omega
  have hxk : f.blocks[k]? = some f.blocks[k] := List.getElem?_eq_getElem hk'
  obtain ⟨cs, ⟨v0, v1, v2, v3, rfl, r0, r1, r2, r3⟩, h4⟩ := h3 k _ hxk
  have hs : s = blockS f.blocks[k] := by
    rw [List.getElem?_map, hxk] at hk
    simpa using hk.symm
  subst hs
  exact ⟨v0, v1, v2, v3, (h4 0 _ rfl).1, (h4 1 _ rfl).1, (h4 2 _ rfl).1, (h4 3 _ rfl).1, r0.sphis ho, r1.smoves ho, r2.sinss ho, r3.smoves ho, (h4 4 _ rfl).sint ho, (h4 5 _ rfl).sint ho, (h4 6 _ rfl).sint ho, (h4 7 _ rfl).sint ho⟩
end

/- Rows of bools of the call's own, kept. -/
section
open Go.ChangeShapes Go.WideShapes Go.ChangeAt Go.RowKit Go.Joins

theorem OB.below {w w' : World} {B B' : Nat} {v : Value} {xs : List Bool} (h : OB w B v xs) (hb : Below B' w w') (hB : ∀ k, v.ownBlock = some k → k < B') : OB w' B v xs := by
  obtain ⟨h1, h2⟩ := h
  refine ⟨h1, ?_⟩
  rcases h2 with h2 | ⟨g, cap, cur, rfl, hg, hh, r⟩
  · exact .inl h2
  · exact .inr ⟨g, cap, cur, rfl, hg, (hb.block g (hB g rfl)).trans hh, r⟩
theorem OB.grown {w w' : World} {B : Nat} {v : Value} {xs : List Bool} (h : OB w B v xs) {row : Option Nat} (hg : w.grownBy w' row) (hne : v.ownBlock = none ∨ v.ownBlock ≠ row) : OB w' B v xs := World.ownsRow.kept h hg hne
theorem OB.drewN {w : World} {B : Nat} {v : Value} {xs : List Bool} (h : OB w B v xs) (n : Nat) : OB (w.drewN n) B v xs := h
theorem OB.marked {D : Nat → Prop} {w w' : World} {B : Nat} {v : Value} {xs : List Bool} (h : OB w B v xs) (hm : Marked D w w') (hn : ∀ k, v.ownBlock = some k → ¬ D k) : OB w' B v xs := by
  have hlt := h.lt
  obtain ⟨h1, h2⟩ := h
  refine ⟨h1, ?_⟩
  rcases h2 with h2 | ⟨g, cap, cur, rfl, hg, hh, r⟩
  · exact .inl h2
  · exact .inr ⟨g, cap, cur, rfl, hg, (hm.far g (hlt g rfl).2 (hn g rfl)).trans hh, r⟩
end

/- Rows of edges: how they read, and whose they are. -/
section
open Go.ChangeShapes Go.WideShapes Go.ChangeAt Go.RowKit Go.Joins

/-- The cells of edges (dst: From; src: To). -/
def fl (es : List MoveD) : List Value := es.flatMap fun e => [iv e.dst, iv e.src]
theorem fl_nil : fl [] = [] := rfl
theorem fl_cons (e : MoveD) (es : List MoveD) : fl (e :: es) = iv e.dst :: iv e.src :: fl es := rfl
theorem fl_append (a b : List MoveD) : fl (a ++ b) = fl a ++ fl b := by simp [fl, List.flatMap_append]
theorem fl_len : ∀ (es : List MoveD), (fl es).length = es.length * 2
  | [] => rfl
  | e :: es => by rw [fl_cons]; simp [fl_len es]; omega
theorem fl_get : ∀ {es : List MoveD} {k : Nat} {e : MoveD}, es[k]? = some e → (fl es)[k * 2]? = some (iv e.dst) ∧ (fl es)[k * 2 + 1]? = some (iv e.src)
  | [], k, e, h => by simp at h
  | a :: es, 0, e, h => by
    simp at h
    subst h
    exact ⟨rfl, rfl⟩
  | a :: es, k + 1, e, h => by
    have := fl_get (es := es) (k := k) (e := e) (by simpa using h)
    rw [fl_cons, show (k + 1) * 2 = k * 2 + 1 + 1 by omega]
    simpa using this

/-- The slice value v is the call's own, from block B on, and reads as the edges es. -/
def OE (w : World) (B : Nat) (v : Value) (es : List MoveD) : Prop := w.ownsRow B 51 2 v es.length (fl es)
theorem OE.lt {w : World} {B : Nat} {v : Value} {es : List MoveD} (h : OE w B v es) : ∀ k, v.ownBlock = some k → B ≤ k ∧ k < w.heap.size := World.ownsRow.lt h
theorem OE.fw {w w' : World} {B : Nat} {v : Value} {xs : List MoveD} {P : Nat → Prop} (h : OE w B v xs) (hf : Fw P w w') (hn : ∀ k, v.ownBlock = some k → ¬ P k) : OE w' B v xs := own_fw h hf hn
theorem OE.drewN {w : World} {B : Nat} {v : Value} {xs : List MoveD} (h : OE w B v xs) (n : Nat) : OE (w.drewN n) B v xs := h
theorem OE.grown {w w' : World} {B : Nat} {v : Value} {xs : List MoveD} (h : OE w B v xs) {row : Option Nat} (hg : w.grownBy w' row) (hne : v.ownBlock = none ∨ v.ownBlock ≠ row) : OE w' B v xs := World.ownsRow.kept h hg hne
theorem OE.below {w w' : World} {B B' : Nat} {v : Value} {xs : List MoveD} (h : OE w B v xs) (hb : Below B' w w') (hB : ∀ k, v.ownBlock = some k → k < B') : OE w' B v xs := by
  obtain ⟨h1, h2⟩ := h
  refine ⟨h1, ?_⟩
  rcases h2 with h2 | ⟨g, cap, cur, rfl, hg, hh, r⟩
  · exact .inl h2
  · exact .inr ⟨g, cap, cur, rfl, hg, (hb.block g (hB g rfl)).trans hh, r⟩
theorem OE.marked {D : Nat → Prop} {w w' : World} {B : Nat} {v : Value} {xs : List MoveD} (h : OE w B v xs) (hm : Marked D w w') (hn : ∀ k, v.ownBlock = some k → ¬ D k) : OE w' B v xs := by
  have hlt := h.lt
  obtain ⟨h1, h2⟩ := h
  refine ⟨h1, ?_⟩
  rcases h2 with h2 | ⟨g, cap, cur, rfl, hg, hh, r⟩
  · exact .inl h2
  · exact .inr ⟨g, cap, cur, rfl, hg, (hm.far g (hlt g rfl).2 (hn g rfl)).trans hh, r⟩
/-- It reads as a row. -/
theorem OE.row {w : World} {B : Nat} {v : Value} {es : List MoveD} (h : OE w B v es) : Row w (Zn.old w.heap.size) 2 EMove v es := by
  have h0 := h
  rcases h.2 with ⟨rfl, hn⟩ | ⟨g, cap, cur, rfl, _, hg, hnc, hcm, hs, ht⟩
  · exact ⟨by omega, none, 0, by rw [hn], fun hne => absurd (List.length_eq_zero_iff.1 hn) hne⟩
  · refine ⟨by rw [maxLen_is] at hcm; omega, _, cap, rfl, fun _ => ⟨g, 0, rfl, (Array.getElem?_eq_some_iff.1 hg).1, fun k e he => ⟨_, rfl, fun j u hu => ⟨?_, fun h => by cases h⟩⟩⟩⟩
    have hk := (List.getElem?_eq_some_iff.1 he).1
    have hget := fl_get he
    match j, hu with
    | 0, hu =>
      have hu' : iv e.dst = u := by simpa [iv] using hu
      rw [← hu', World.ownsRow.cellAt h0 _ (by omega), Nat.zero_add, Nat.add_zero]
      exact hget.1
    | 1, hu =>
      have hu' : iv e.src = u := by simpa [iv] using hu
      rw [← hu', World.ownsRow.cellAt h0 _ (by omega), Nat.zero_add]
      exact hget.2
    | j + 2, hu => simp at hu
theorem OE.form {w : World} {B : Nat} {v : Value} {es : List MoveD} (h : OE w B v es) : ∃ A c, v = .slice A es.length c := by
  obtain ⟨_, A, c, rfl, _⟩ := h.row
  exact ⟨A, c, rfl⟩

/-- Edges that are numbered on from k. -/
def markE (k : Int) (n : Nat) : List MoveD := (List.range n).map fun (i : Nat) => ⟨k + ((i * 2 : Nat) : Int), k + ((i * 2 : Nat) : Int) + 1⟩
theorem markE_length (k : Int) (n : Nat) : (markE k n).length = n := by simp [markE]
theorem markE_get (k : Int) {n j : Nat} (h : j < n) : (markE k n)[j]? = some ⟨k + ((j * 2 : Nat) : Int), k + ((j * 2 : Nat) : Int) + 1⟩ := by simp [markE, h]
theorem markE_zero (k : Int) : markE k 0 = [] := rfl
theorem markE_succ (k : Int) (j : Nat) : markE k (j + 1) = markE k j ++ [⟨k + ((j * 2 : Nat) : Int), k + ((j * 2 : Nat) : Int) + 1⟩] := by simp [markE, List.range_succ]
theorem set_two {α : Type} (A R : List α) (x y u v : α) (j : Nat) (h : A.length = j) : ((A ++ x :: y :: R).set j u).set (j + 1) v = A ++ u :: v :: R := by
  subst h
  rw [List.set_append_right _ _ (Nat.le_refl _), Nat.sub_self, List.set_cons_zero, List.set_append_right _ _ (by omega), show A.length + 1 - A.length = 1 by omega]
  rfl
theorem set_stepE (k : Int) (es : List MoveD) {j : Nat} (h : j < es.length) :
    ((fl (markE k j ++ es.drop j)).set (j * 2) (iv (k + ((j * 2 : Nat) : Int)))).set (j * 2 + 1) (iv (k + ((j * 2 : Nat) : Int) + 1)) = fl (markE k (j + 1) ++ es.drop (j + 1)) := by
  rw [List.drop_eq_getElem_cons h, fl_append, fl_cons, set_two _ _ _ _ _ _ _ (by rw [fl_len, markE_length]), markE_succ, fl_append, fl_append, List.append_assoc]
  rfl
end

/- The edges of a function's blocks; l3Edges of the model. -/
section
open Go.ChangeShapes Go.WideShapes Go.ChangeAt Go.RowKit Go.Joins

/-- The edges of the first k blocks. -/
def edgesK (bs : List BlockD) (k : Nat) : List MoveD := (List.range k).flatMap fun (i : Nat) => (scF bs (i : Int)).map fun t => ⟨(i : Int), t⟩
def edgesOf (bs : List BlockD) : List MoveD := edgesK bs bs.length
theorem edgesK_zero (bs : List BlockD) : edgesK bs 0 = [] := rfl
theorem edgesK_succ (bs : List BlockD) (k : Nat) : edgesK bs (k + 1) = edgesK bs k ++ (scF bs k).map fun t => ⟨(k : Int), t⟩ := by
  simp [edgesK, List.range_succ, List.flatMap_append]
theorem scF_len (bs : List BlockD) (x : Int) : (scF bs x).length ≤ 2 := by
  unfold scF
  split
  · exact toL_len _ _ _
  · simp
theorem edgesK_len (bs : List BlockD) : ∀ k, (edgesK bs k).length ≤ 2 * k
  | 0 => by simp [edgesK_zero]
  | k + 1 => by
    rw [edgesK_succ, List.length_append, List.length_map]
    have := edgesK_len bs k
    have := scF_len bs k
    omega
theorem take_map_snoc {us : List Int} {m : Nat} {u : Int} (h : us[m]? = some u) (g : Int → MoveD) : (us.take (m + 1)).map g = (us.take m).map g ++ [g u] := by
  rw [List.take_add_one, h]; simp

theorem info_edge : (Try.prog.info? 51).map (fun i => (i.zero, i.size, i.bytes)) = some (some (.agg #[.int .i64 0, .int .i64 0]), 2, 16) := by kernel_rfl

theorem edge_news (w : World) (x y : Int) : ∀ j u, [Value.int .i64 x, Value.int .i64 y][j]? = some u → (w.alloc (.cells #[.int .i64 x, .int .i64 y] 51)).cell? ((⟨w.heap.size, 0, none⟩ : Addr).add j) = some u := World.news_of_block (heap_alloc_new w _)

theorem wpList_append_edge {ops : Array Oper} {rest : List Oper} {o : Oper} {a : Act} {Q : Exit → Act → World → Prop} (hgd : o.guard = none) (s x : Operand)
    (ho : o.op = .call { callee := .builtin .append, args := #[s, x], argTypes := #[48, 48] })
    (B : Nat) (v : Value) (es : List MoveD) (p q : Int) (w : World) (g : Nat) (hg : w.heap.size = g) (hs : a.eval s = v) (hown : OE w B v es) (hx : a.eval x = .slice (some ⟨g, 0, none⟩) 1 1) (hb : B ≤ w.heap.size) (hlen : es.length ≤ 1048576)
    (h : ∀ v' w', OE w' B v' (es ++ [⟨p, q⟩]) → w.grownBy w' v.ownBlock → (v'.ownBlock = v.ownBlock ∨ ∃ k, v'.ownBlock = some k ∧ w.heap.size ≤ k) → wpList Try.prog ops Q rest (a.put o.dst v') w') :
    wpList Try.prog ops Q (o :: rest) a (w.alloc (.cells #[.int .i64 p, .int .i64 q] 51)) := by
  subst hg
  obtain ⟨i0, hi, hz0, hz1, hz2⟩ := info_parts info_edge
  refine wpList_append_own_at (P := Try.prog) _ hgd s x _ ho B 51 i0 (.agg #[.int .i64 0, .int .i64 0]) 2 16 Try.underlying48 hi hz0 hz1 hz2 rfl (by decide) v es.length (fl es) hs (World.ownsRow.alloc hown _) ⟨w.heap.size, 0, none⟩ 1 1 [.int .i64 p, .int .i64 q] hx rfl (edge_news w p q) (by simp [Value.oneCell']) (by rw [maxLen_is]; omega) (by omega) (by simp; omega) ?_
  intro v' w' hown' hgr _ hat
  refine h v' w' ?_ ((World.grownBy_alloc w _ _).trans hgr) ?_
  · unfold OE
    rw [fl_append, List.length_append]
    exact hown'
  · rcases hat with h | h
    · exact .inl h
    · exact .inr ⟨_, h, by simp⟩

theorem OE_lit0 (w : World) {B g : Nat} (hg : w.heap.size = g) (hB : B ≤ g) : OE (w.alloc (.cells #[] 51)) B (.slice (some ⟨g, 0, none⟩) 0 0) [] := by
  subst hg
  exact World.ownsRow_lit (base := B) (e := 51) (size := 2) w #[] 0 hB (by simp) rfl

def GivesEs (es : List MoveD) (w : World) (e : Ending) (w' : World) : Prop := ∃ r, e = .returned r ∧ OE w' w.heap.size r es ∧ Below w.heap.size w w'

set_option maxRecDepth 10000 in
set_option maxHeartbeats 2000000 in
theorem l3Edges_any (f : FunD) (v : Value) (w : World) (Z : Zn) (hv : EFun w Z f v) (hD : ∀ b, Z.D b → b < w.heap.size) (hn : f.blocks.length ≤ 1000) :
    Calls Try.prog 61 #[v] w (GivesEs (edgesOf f.blocks) w) := by
  obtain ⟨u, rfl, hle, A, c, rfl, hx⟩ := hv
  go_enter Try.func61, Try.ntmps61
  go_wp2_with fail
  go_loopw [3, 4, 5, 6] (fun ov i _ _ wr => ∃ k : Nat, k ≤ f.blocks.length ∧ i = .int .i64 k ∧ Hid (Below (w.heap.size + 1) (w.alloc (.cells #[.int .i64 f.params, .int .i64 f.names, .slice A f.blocks.length c] 26)) wr) ∧ Hid (OE wr (w.heap.size + 1) ov (edgesK f.blocks k))) (fun _ i _ _ _ => f.blocks.length - (intOf i).toNat)
  case atStart => exact ⟨0, Nat.zero_le _, rfl, (Below.refl _ _).alloc (by simp) _, OE_lit0 _ (by simp) (by omega)⟩
  case round =>
    obtain ⟨k, hk, rfl, HB, HO⟩ := hrel
    have HB0 : Hid (Below w.heap.size w wr) := ((Below.refl _ _).alloc (Nat.le_refl _) _).trans (HB.out.mono (by omega))
    have hzw : w.heap.size + 1 ≤ wr.heap.size := by have := HB.out.size; simp at this; omega
    have f2 : wr.cell? ⟨w.heap.size, 2, none⟩ = some (.slice A f.blocks.length c) := (HB.out.cell (p := ⟨w.heap.size, 2, none⟩) (by simp)).trans (by go_simp)
    have HO1 : Hid (OE wr (w.heap.size + 1) u3 (edgesK f.blocks k)) := HO.out
    by_cases hlt : k < f.blocks.length
    case neg =>
      obtain rfl : k = f.blocks.length := by omega
      go_wp2
      go_ret
      exact ⟨_, rfl, World.ownsRow.mono HO1.out (by omega), HB0.out⟩
    have hxk : f.blocks[k]? = some f.blocks[k] := List.getElem?_eq_getElem hlt
    generalize f.blocks[k] = x at hxk
    have hkl : (k : Int) < (f.blocks.length : Int) := by omega
    have hk0 : 0 ≤ (k : Int) := by omega
    obtain ⟨b, off, rfl, hDb, hrow⟩ := hx (by intro h; rw [h] at hlt; simp at hlt)
    obtain ⟨cs, hE, hcs⟩ := hrow k x hxk
    have hbl := hD b hDb
    obtain ⟨_, _, _, _, rfl, _⟩ := hE
    have c4 : wr.cell? ⟨b, off + k * 8 + 4, none⟩ = some (.int .i64 x.fin.k) := (HB0.out.cell (p := ⟨b, _, none⟩) hbl).trans (hcs 4 _ rfl).1
    have c5 : wr.cell? ⟨b, off + k * 8 + 4 + 1, none⟩ = some (.int .i64 x.fin.a) := (HB0.out.cell (p := ⟨b, _, none⟩) hbl).trans (hcs 5 _ rfl).1
    have c6 : wr.cell? ⟨b, off + k * 8 + 4 + 2, none⟩ = some (.int .i64 x.fin.t) := (HB0.out.cell (p := ⟨b, _, none⟩) hbl).trans (hcs 6 _ rfl).1
    have c7 : wr.cell? ⟨b, off + k * 8 + 4 + 3, none⟩ = some (.int .i64 x.fin.l) := (HB0.out.cell (p := ⟨b, _, none⟩) hbl).trans (hcs 7 _ rfl).1
    have HSK := Lib.hid (scF_at hxk)
    have HES := Lib.hid (edgesK_succ f.blocks k)
    clear hcs hx hxk hrow HO
    go_wp2_with fail
    refine (l2Succs_any _ _ _ _ _).mono ?_
    rintro e w1 ⟨r, rfl, hr, hb1⟩
    have hz1 := hb1.size
    have HB1 := Lib.hid (HB.out.trans (hb1.mono hzw))
    have hlo : Hid (∀ kk, u3.ownBlock = some kk → kk < wr.heap.size ∨ w1.heap.size ≤ kk) := fun kk hkk => .inl (HO1.out.lt kk hkk).2
    have HOw := Lib.hid (HO1.out.below hb1 fun kk hkk => (HO1.out.lt kk hkk).2)
    rw [← HSK.out] at hr
    generalize hus : scF f.blocks k = us at hr
    have HUS := Lib.hid hus
    have hul : us.length ≤ 2 := by rw [← hus]; exact scF_len _ _
    have HU1 := Lib.hid hr
    obtain ⟨lo, hlo'⟩ : ∃ lo, lo = wr.heap.size := ⟨_, rfl⟩
    rw [← hlo'] at HU1 hlo hz1
    have hlw : w.heap.size + 1 ≤ lo := by omega
    obtain ⟨_, A5, c5', rfl, _⟩ := hr.ri
    have HU2 : Hid (OI w1 lo (.slice A5 us.length c5') us) := HU1.out
    clear hb1 hus hr c4 c5 c6 c7 f2 HB HB0 hzw hlo' HU1 HSK
    go_wp2_with fail
    go_loopw [3, 6] (fun ov i wq => ∃ m : Nat, m ≤ us.length ∧ i = .int .i64 m ∧ Hid (Below (w.heap.size + 1) (w.alloc (.cells #[.int .i64 f.params, .int .i64 f.names, .slice (some ⟨b, off, none⟩) f.blocks.length c] 26)) wq) ∧ Hid (OE wq (w.heap.size + 1) ov (edgesK f.blocks k ++ (us.take m).map fun t => ⟨(k : Int), t⟩)) ∧ w1.heap.size ≤ wq.heap.size ∧ Hid (∀ kk, ov.ownBlock = some kk → kk < lo ∨ w1.heap.size ≤ kk) ∧ Hid (OI wq lo (.slice A5 us.length c5') us)) (fun _ i _ => us.length - (intOf i).toNat)
    case atStart => exact ⟨0, Nat.zero_le _, rfl, HB1.out, (by rw [Hid, List.take_zero, List.map_nil, List.append_nil]; exact HOw.out), Nat.le_refl _, hlo.out, HU2.out⟩
    case round =>
      obtain ⟨m, hm, rfl, HB, HO, hsz, HAV, HU⟩ := hrel
      by_cases hml : m < us.length
      case neg =>
        obtain rfl : m = us.length := by omega
        have HO2 : Hid (OE wr (w.heap.size + 1) u3 (edgesK f.blocks (k + 1))) := by
          rw [HES.out, HUS.out]
          have := HO.out
          rw [List.take_length] at this
          exact this
        go_wp2
        go_roundw
        case rel => exact ⟨k + 1, by omega, by go_num, HB.out, HO2.out⟩
        case measure => simp [intOf]; omega
      have hum : us[m]? = some us[m] := List.getElem?_eq_getElem hml
      generalize us[m] = u at hum
      obtain ⟨_, A5', c5'', he5, hux⟩ := HU.out.ri
      injection he5 with q1 _ q2
      subst q1 q2
      obtain ⟨b', off', rfl, hcell⟩ := hux (by rintro rfl; simp at hml)
      have p0 := hcell m _ hum
      have hb5 := HU.out.lt b' rfl
      have HTM := Lib.hid (take_map_snoc hum fun t => ⟨(k : Int), t⟩)
      have hel : (edgesK f.blocks k ++ (us.take m).map fun t => (⟨(k : Int), t⟩ : MoveD)).length ≤ 1048576 := by
        have := edgesK_len f.blocks k
        simp only [List.length_append, List.length_map, List.length_take]
        omega
      generalize hes : edgesK f.blocks k ++ (us.take m).map (fun t => (⟨(k : Int), t⟩ : MoveD)) = es at HO hel
      have HESM := Lib.hid hes
      have HO' : Hid (OE wr (w.heap.size + 1) u3 es) := HO.out
      obtain ⟨A6, c6, rfl⟩ := HO.out.form
      have hB1 : w.heap.size + 1 ≤ wr.heap.size := by omega
      clear hcell hux hum hes
      go_wp2_with (at_builtin; go_must (refine wpList_append_edge rfl (.tmp 28) (.tmp 35) rfl (w.heap.size + 1) _ es k u wr wr.heap.size rfl rfl HO'.out rfl hB1 hel ?_; intro v' w9 hown9 hg9 hat9; have HO9 := Lib.hid hown9; have HG9 := Lib.hid hg9; have HA9 := Lib.hid hat9; clear hown9 hg9 hat9))
      have hg9 := HG9.out
      have hz9 := hg9.size
      have HB9 : Hid (Below (w.heap.size + 1) (w.alloc (.cells #[.int .i64 f.params, .int .i64 f.names, .slice (some ⟨b, off, none⟩) f.blocks.length c] 26)) w9) := HB.out.grown hg9 hB1 fun kk hkk => (HO'.out.lt kk hkk).1
      have HU9 := Lib.hid (HU.out.grown hg9 (.inr fun e => by
        have h1 := HU2.out.lt b' rfl
        rcases HAV.out b' e.symm with h | h <;> omega))
      have HAV9 : Hid (∀ kk, v'.ownBlock = some kk → kk < lo ∨ w1.heap.size ≤ kk) := fun kk hkk => by
        rcases HA9.out with h | ⟨k9, h, hk9⟩
        · exact HAV.out kk (h.symm.trans hkk)
        · rw [h] at hkk
          injection hkk with hkk
          exact .inr (by omega)
      go_roundw
      case rel => exact ⟨m + 1, by omega, by go_num, HB9.out, by rw [HTM.out, ← List.append_assoc, HESM.out]; exact HO9.out, by omega, HAV9.out, HU9.out⟩
      case measure => simp [intOf]; omega
end

/- allEdges of the program: the iterator over the edges. -/
section
open Go.ChangeShapes Go.WideShapes Go.ChangeAt Go.RowKit Go.Joins Go.Shelf

attribute [local go_sem] Oper.semAt_some

/-- Blocks of numbers stay as they are. -/
def IntsKept (w w' : World) : Prop := ∀ (k : Nat) cur fz, w.heap[k]? = some (.cells cur 2 fz) → w'.heap[k]? = w.heap[k]?
theorem IntsKept.refl (w : World) : IntsKept w w := fun _ _ _ _ => rfl
theorem IntsKept.trans {a b c : World} (h : IntsKept a b) (k : IntsKept b c) : IntsKept a c := fun i cur fz hi => (k i cur fz ((h i cur fz hi).trans hi)).trans (h i cur fz hi)
theorem IntsKept.below {a b : World} (h : Below a.heap.size a b) : IntsKept a b := fun i _ _ hi => h.block i (Array.getElem?_eq_some_iff.1 hi).1
/-- What a round of the loop's body keeps, for the iterator. -/
def EKp (n₀ : Nat) (w w' : World) : Prop := Below n₀ w w' ∧ IntsKept w w'
theorem EKp.t {n₀ : Nat} {A B C : World} (h : EKp n₀ A B) (k : EKp n₀ B C) : EKp n₀ A C := ⟨h.1.trans k.1, h.2.trans k.2⟩
theorem EKp.b {n₀ : Nat} {w : World} (hn : n₀ ≤ w.heap.size) (W : World) (l : Nat) (o o' : Obj) (hl : w.heap.size ≤ l) (h : W.heap[l]? = some o) (hc : o.isCells = false) (hw : o.isWalk = false) : EKp n₀ W (W.putObj l o') :=
  ⟨belowK_b hn W l o o' hl h hc hw, fun k cur fz hk => by
    have hne : k ≠ l := by
      rintro rfl
      rw [h] at hk
      injection hk with hk
      subst hk
      cases hc
    simp only [World.putObj]
    rw [Array.getElem?_setIfInBounds_ne (by omega)]⟩
theorem OI.ikept {w w' : World} {B : Nat} {v : Value} {xs : List Int} (h : OI w B v xs) (hk : IntsKept w w') : OI w' B v xs := by
  obtain ⟨h1, h2⟩ := h
  refine ⟨h1, ?_⟩
  rcases h2 with h2 | ⟨g, cap, cur, rfl, hg, hh, r⟩
  · exact .inl h2
  · exact .inr ⟨g, cap, cur, rfl, hg, (hk g _ _ hh).trans hh, r⟩
theorem grown_none {a b : World} (h : Below a.heap.size a b) : a.grownBy b none := ⟨h.os, h.tape, h.output, h.size, fun k hk _ => h.block k hk⟩
def encE (x : MoveD) : Array Value := #[.agg #[.int .i64 x.dst, .int .i64 x.src]]

set_option maxRecDepth 100000 in
set_option maxHeartbeats 4000000 in
theorem edges1_in (n l Bs n₀ : Nat) (bs : List BlockD) (A : Option Addr) (c : Nat) (Z : Zn) (hn : bs.length ≤ 1000) (ht : TargetsOk bs) (hn1 : 1 ≤ n) (hZ : ∀ b, Z.D b → b < n₀) (J Jx : List MoveD → World → Prop) (B0 : Nat) (hJ : AbidesFrom B0 J) (Pd : MoveD → Prop) (hPd : ∀ (k : Nat) t, k < bs.length → t ∈ scF bs k → Pd ⟨(k : Int), t⟩)
    (hY : ∀ pre x W, Pd x → J pre W → pre.length < 2 * bs.length → YieldAt Fence.wide (n - 1) Try.prog l (encE x) W fun e W' =>
      (e = .returned (.bool true) ∧ J (pre ++ [x]) W' ∧ EKp n₀ W W') ∨ (e = .returned (.bool false) ∧ Jx (pre ++ [x]) W'))
    (W : World) (hn0 : n₀ ≤ W.heap.size) (hBs : W.cell? ⟨Bs, 0, none⟩ = some (.slice A bs.length c)) (hrow : Row W Z 8 (EBlock W Z) (.slice A bs.length c) bs) (h0 : J [] W) :
    CallsIn Fence.wide n Try.prog 89 #[.func (.yield l) #[] #[], .pointer (some ⟨Bs, 0, none⟩)] W fun e W' => (∃ v, e = .returned v) ∧
      ((∃ ys, ys = edgesOf bs ∧ J ys W') ∨ (∃ pre : List MoveD, True ∧ Jx pre W')) := by
  obtain ⟨hle, A', c', he, hx⟩ := hrow
  injection he with hA _ hc
  subst hA hc
  refine callsIn_of_wp Try.func89 rfl trivial ?_
  simp only [Try.ntmps89, List.size_toArray, List.length_cons, List.length_nil, Nat.reduceAdd, Nat.reduceSub, Array.replicate_succ, Array.replicate_zero, List.push_toArray, List.append_toArray, List.nil_append, List.cons_append]
  gi_wp2
  gi_loopw [9] (fun i wr => ∃ k : Nat, k ≤ bs.length ∧ i = .int .i64 k ∧ J (edgesK bs k) wr ∧ Hid (Below n₀ W wr)) (fun i _ => bs.length - (intOf i).toNat)
  case atStart => exact ⟨0, Nat.zero_le _, rfl, h0, Below.refl _ _⟩
  case round =>
    obtain ⟨k, hk, rfl, hJs, HB⟩ := hrel
    have HJ := Lib.hid hJs
    clear hJs
    by_cases hlt : k < bs.length
    case neg =>
      obtain rfl : k = bs.length := by omega
      gi_wp2
      go_end0
      exact ⟨⟨_, rfl⟩, .inl ⟨_, rfl, HJ.out⟩⟩
    have hxk : bs[k]? = some bs[k] := List.getElem?_eq_getElem hlt
    generalize bs[k] = x at hxk
    obtain ⟨b, off, rfl, hDb, hrow⟩ := hx (by rintro rfl; simp at hlt)
    obtain ⟨cs, hE, hcs⟩ := hrow k x hxk
    have hbl := hZ b hDb
    obtain ⟨v0, v1, v2, v3, rfl, ⟨_, A0, q0, rfl, _⟩, ⟨_, A1, q1, rfl, _⟩, ⟨_, A2, q2, rfl, _⟩, ⟨_, A3, q3, rfl, _⟩⟩ := hE
    have c0 : wr.cell? ⟨b, off + k * 8, none⟩ = some (.slice A0 x.phis.length q0) := (HB.out.cell (p := ⟨b, _, none⟩) hbl).trans (hcs 0 _ rfl).1
    have c1 : wr.cell? ⟨b, off + k * 8 + 1, none⟩ = some (.slice A1 x.head.length q1) := (HB.out.cell (p := ⟨b, _, none⟩) hbl).trans (hcs 1 _ rfl).1
    have c2 : wr.cell? ⟨b, off + k * 8 + 2, none⟩ = some (.slice A2 x.body.length q2) := (HB.out.cell (p := ⟨b, _, none⟩) hbl).trans (hcs 2 _ rfl).1
    have c3 : wr.cell? ⟨b, off + k * 8 + 3, none⟩ = some (.slice A3 x.tail.length q3) := (HB.out.cell (p := ⟨b, _, none⟩) hbl).trans (hcs 3 _ rfl).1
    have c4 : wr.cell? ⟨b, off + k * 8 + 4, none⟩ = some (.int .i64 x.fin.k) := (HB.out.cell (p := ⟨b, _, none⟩) hbl).trans (hcs 4 _ rfl).1
    have c5 : wr.cell? ⟨b, off + k * 8 + 5, none⟩ = some (.int .i64 x.fin.a) := (HB.out.cell (p := ⟨b, _, none⟩) hbl).trans (hcs 5 _ rfl).1
    have c6 : wr.cell? ⟨b, off + k * 8 + 6, none⟩ = some (.int .i64 x.fin.t) := (HB.out.cell (p := ⟨b, _, none⟩) hbl).trans (hcs 6 _ rfl).1
    have c7 : wr.cell? ⟨b, off + k * 8 + 7, none⟩ = some (.int .i64 x.fin.l) := (HB.out.cell (p := ⟨b, _, none⟩) hbl).trans (hcs 7 _ rfl).1
    have HSU := Lib.hid (ht.succs hxk)
    have HES := Lib.hid (edgesK_succ bs k)
    have hkl : (k : Int) < (bs.length : Int) := by omega
    have hk0 : 0 ≤ (k : Int) := by omega
    have hzw := HB.out.size
    clear hcs hx hxk hrow
    gi_wp2_with (refine ⟨trivial, ?_⟩; gi_at_call 15; refine (callsIn_wide.2 (SuccsOf_any _ _ _ _ _)).mono ?_; rintro e w1 ⟨r, rfl, hr, hb1⟩; obtain ⟨_, A5, c5', rfl, hx5⟩ := hr.ri; clear hx5)
    have hb1' := hb1
    simp only [World.size_alloc] at hb1'
    have hz1 := hb1'.size
    have HB1 : Hid (Below n₀ W w1) := (HB.out.alloc (by omega) _).trans (hb1.mono (by simp; omega))
    have HJ1 : Hid (J (edgesK bs k) w1) := hJ _ _ _ none (hJ _ _ _ none HJ.out (World.grownBy_alloc wr _ none) (fun _ e => by cases e)) (grown_none hb1) (fun _ e => by cases e)
    rw [HSU.out] at hr
    generalize hus : scF bs k = us at hr
    have HUS := Lib.hid hus
    have hul : us.length ≤ 2 := by rw [← hus]; exact scF_len _ _
    have hlen0 : (succsL x.fin.k x.fin.a x.fin.t x.fin.l).length = us.length := by rw [HSU.out, hus]
    rw [hlen0]
    have HU := Lib.hid hr
    clear hr hb1 hb1' hus hlen0 c0 c1 c2 c3 c4 c5 c6 c7 hJ
    gi_loopw [18] (fun i wq => ∃ m : Nat, m ≤ us.length ∧ i = .int .i64 m ∧ Hid (J (edgesK bs k ++ (us.take m).map fun t => ⟨(k : Int), t⟩) wq) ∧ Hid (Below n₀ W wq) ∧ Hid (OI wq 0 (.slice A5 us.length c5') us)) (fun i _ => us.length - (intOf i).toNat)
    case atStart => exact ⟨0, Nat.zero_le _, rfl, (by rw [Hid, List.take_zero, List.map_nil, List.append_nil]; exact HJ1.out), HB1.out, World.ownsRow.mono HU.out (Nat.zero_le _)⟩
    case round =>
      obtain ⟨m, hm, rfl, HJ, HB, HO⟩ := hrel
      by_cases hml : m < us.length
      case neg =>
        obtain rfl : m = us.length := by omega
        have HJ2 : Hid (J (edgesK bs (k + 1)) wr) := by
          have := HJ.out
          rw [List.take_length] at this
          rw [Hid, HES.out, HUS.out]
          exact this
        gi_wp2
        go_roundw
        case rel => exact ⟨k + 1, by omega, by go_num, HJ2.out, HB.out⟩
        case measure => simp [intOf]; omega
      have hum : us[m]? = some us[m] := List.getElem?_eq_getElem hml
      generalize us[m] = u at hum
      obtain ⟨_, A5', c5'', he5, hux⟩ := HO.out.ri
      injection he5 with q1 _ q2
      subst q1 q2
      obtain ⟨b', off', rfl, hcell⟩ := hux (by rintro rfl; simp at hml)
      have p0 := hcell m _ hum
      have HTM := Lib.hid (take_map_snoc hum fun t => ⟨(k : Int), t⟩)
      have hel : (edgesK bs k ++ (us.take m).map fun t => (⟨(k : Int), t⟩ : MoveD)).length < 2 * bs.length := by
        have h1 := edgesK_len bs k
        have h2 := HUS.out
        simp only [List.length_append, List.length_map, List.length_take]
        omega
      obtain ⟨fn, tmps, assign, body, hy, hR⟩ := hY _ ⟨(k : Int), u⟩ wr (hPd k u hlt (by rw [HUS.out]; exact List.mem_of_getElem? hum)) HJ.out hel
      have HR := Lib.hid hR
      dsimp only [encE] at hy
      clear hcell hux hum hel hR
      gi_wp2
      refine HR.out.mono ?_
      rintro e W3 (⟨rfl, hJ3, hk3⟩ | ⟨rfl, hJx3⟩)
      · have HJ3 : Hid (J (edgesK bs k ++ (us.take (m + 1)).map fun t => ⟨(k : Int), t⟩) W3) := by
          rw [Hid, HTM.out, ← List.append_assoc]; exact hJ3
        have HB3 := Lib.hid (HB.out.trans hk3.1)
        have HO3 := Lib.hid (HO.out.ikept hk3.2)
        clear hJ3 hk3 hy p0
        gi_wp2
        go_roundw
        case rel => exact ⟨m + 1, by omega, by go_num, HJ3.out, HB3.out, HO3.out⟩
        case measure => simp [intOf]; omega
      · clear hy p0
        gi_wp2
        refine bodyPost_ret (results_none rfl _ _ _) rfl ?_
        exact ⟨⟨_, rfl⟩, .inr ⟨_, trivial, hJx3⟩⟩
end

end Go.Proofs.Yteikpekffgifoaa
