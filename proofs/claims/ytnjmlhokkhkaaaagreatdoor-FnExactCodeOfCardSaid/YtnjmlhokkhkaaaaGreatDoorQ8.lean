/- Sz, MarkD, ObMore, Fl, Pl, QRow, PredsP, joined. -/
import Derived.Test.YtnjmlhokkhkaaaaGreatDoorQ1
import Derived.Test.YtnjmlhokkhkaaaaGreatDoorQ2
import Derived.Test.YtnjmlhokkhkaaaaGreatDoorQ4
import Derived.Test.YtnjmlhokkhkaaaaGreatDoorQ6
import Derived.Test.YtnjmlhokkhkaaaaGreatDoorQ7
import Derived.Deep.RegionHeld3
import Derived.Maps.AppendAt
import Derived.Deep.AppendLies
namespace Go.Proofs.YtnjmlhokkhkaaaaGreatDoor

/- szFun of the laws: what is left of a number when all that a function holds is taken off. -/
section
open Go.ChangeShapes Go.WideShapes Go.ChangeAt Go.RowKit Go.Joins

def leftI (left : Int) (n : Nat) : Int := if (n : Int) ≤ left then left - n else -1
theorem leftI_yes {left : Int} {n : Nat} (h : (n : Int) ≤ left) : leftI left n = left - n := if_pos h
theorem leftI_no {left : Int} {n : Nat} (h : ¬ (n : Int) ≤ left) : leftI left n = -1 := if_neg h
theorem leftI_le {left : Int} {n : Nat} (h : 0 ≤ left) : leftI left n ≤ left := by
  unfold leftI; split <;> omega
theorem leftI_add {left : Int} {a b : Nat} (h : 0 ≤ leftI left a) : leftI (leftI left a) b = leftI left (a + b) := by
  unfold leftI at h ⊢
  split at h
  · split <;> split <;> omega
  · omega
theorem leftI_more {left : Int} {a b : Nat} (h : leftI left a < 0) (hab : a ≤ b) : leftI left b = -1 := by
  unfold leftI at h ⊢
  split at h
  · omega
  · rw [if_neg (by omega)]
def pre {α : Type} (f : α → Nat) (xs : List α) (k : Nat) : Nat := ((xs.take k).map f).sum
theorem pre_zero {α : Type} (f : α → Nat) (xs : List α) : pre f xs 0 = 0 := rfl
theorem pre_succ {α : Type} (f : α → Nat) {xs : List α} {k : Nat} {x : α} (h : xs[k]? = some x) : pre f xs (k + 1) = pre f xs k + f x := by
  unfold pre
  rw [List.take_add_one, h]
  simp
theorem pre_all {α : Type} (f : α → Nat) (xs : List α) : pre f xs xs.length = (xs.map f).sum := by
  unfold pre; rw [List.take_length]
theorem sum_append_le (xs ys : List Nat) : xs.sum ≤ (xs ++ ys).sum := by simp
theorem pre_le {α : Type} (f : α → Nat) (xs : List α) (k : Nat) : pre f xs k ≤ (xs.map f).sum := by
  unfold pre
  conv => rhs; rw [← List.take_append_drop k xs, List.map_append]
  exact sum_append_le _ _
theorem mem_le_sum {α : Type} (f : α → Nat) : ∀ (xs : List α), ∀ x ∈ xs, f x ≤ (xs.map f).sum
  | [], _, h => by simp at h
  | y :: ys, x, h => by
    rw [List.map_cons, List.sum_cons]
    rcases List.mem_cons.1 h with rfl | h
    · omega
    · have := mem_le_sum f ys x h; omega

def szPhiN (p : PhiD) : Nat := p.args.length
def szPhisN (xs : List PhiD) : Nat := xs.length + (xs.map szPhiN).sum
def szBlockN (x : BlockD) : Nat := szPhisN x.phis + x.head.length + x.body.length + x.tail.length
def szFunN (f : FunD) : Nat := f.blocks.length + (f.blocks.map szBlockN).sum

theorem small_of_sz {f : FunD} (h : szFunN f ≤ 1048576) : smallFun f := by
  unfold szFunN at h
  refine ⟨by omega, fun x hx => ?_⟩
  have h1 := mem_le_sum szBlockN f.blocks x hx
  have e1 : szBlockN x = szPhisN x.phis + x.head.length + x.body.length + x.tail.length := rfl
  have e2 : szPhisN x.phis = x.phis.length + (x.phis.map szPhiN).sum := rfl
  refine ⟨by omega, fun p hp => ?_, by omega, by omega, by omega⟩
  have h2 := mem_le_sum szPhiN x.phis p hp
  have e3 : szPhiN p = p.args.length := rfl
  unfold smallPhi
  omega

set_option maxHeartbeats 400000 in
theorem szInt64S_any (A : Option Addr) (n c : Nat) (left : Int) (w : World) (hn : n ≤ 9223372036854775807) (h0 : 0 ≤ left) (h1 : left ≤ 1048576) :
    Calls Tryz.prog 152 #[.slice A n c, .int .i64 left] w fun e w' => e = .returned (.int .i64 (leftI left n)) ∧ w = w' := by
  by_cases h : (n : Int) ≤ left
  · have HE := Lib.hid (leftI_yes h)
    go_enter Tryz.func152, Tryz.ntmps152
    go_wp2
    go_ret
    exact ⟨by rw [HE.out]; rfl, rfl⟩
  · have HE := Lib.hid (leftI_no h)
    have h' : left - (n : Int) < 0 := by omega
    clear h
    go_enter Tryz.func152, Tryz.ntmps152
    go_wp2
    go_ret
    exact ⟨by rw [HE.out]; rfl, rfl⟩

set_option maxHeartbeats 400000 in
theorem szMoveS_any (A : Option Addr) (n c : Nat) (left : Int) (w : World) (hn : n ≤ 9223372036854775807) (h0 : 0 ≤ left) (h1 : left ≤ 1048576) :
    Calls Tryz.prog 118 #[.slice A n c, .int .i64 left] w fun e w' => e = .returned (.int .i64 (leftI left n)) ∧ w = w' := by
  by_cases h : (n : Int) ≤ left
  · have HE := Lib.hid (leftI_yes h)
    go_enter Tryz.func118, Tryz.ntmps118
    go_wp2
    go_ret
    exact ⟨by rw [HE.out]; rfl, rfl⟩
  · have HE := Lib.hid (leftI_no h)
    have h' : left - (n : Int) < 0 := by omega
    clear h
    go_enter Tryz.func118, Tryz.ntmps118
    go_wp2
    go_ret
    exact ⟨by rw [HE.out]; rfl, rfl⟩

set_option maxHeartbeats 400000 in
theorem szInsS_any (A : Option Addr) (n c : Nat) (left : Int) (w : World) (hn : n ≤ 9223372036854775807) (h0 : 0 ≤ left) (h1 : left ≤ 1048576) :
    Calls Tryz.prog 119 #[.slice A n c, .int .i64 left] w fun e w' => e = .returned (.int .i64 (leftI left n)) ∧ w = w' := by
  by_cases h : (n : Int) ≤ left
  · have HE := Lib.hid (leftI_yes h)
    go_enter Tryz.func119, Tryz.ntmps119
    go_wp2
    go_ret
    exact ⟨by rw [HE.out]; rfl, rfl⟩
  · have HE := Lib.hid (leftI_no h)
    have h' : left - (n : Int) < 0 := by omega
    clear h
    go_enter Tryz.func119, Tryz.ntmps119
    go_wp2
    go_ret
    exact ⟨by rw [HE.out]; rfl, rfl⟩

/-- The call answers this number, and old memory stays. -/
def GivesN (n : Int) (w : World) (e : Ending) (w' : World) : Prop := e = .returned (.int .i64 n) ∧ Below w.heap.size w w'

set_option maxHeartbeats 400000 in
theorem szPhi_any (a : Int) (A : Option Addr) (n c : Nat) (left : Int) (w : World) (hn : n ≤ 9223372036854775807) (h0 : 0 ≤ left) (h1 : left ≤ 1048576) :
    Calls Tryz.prog 142 #[.agg #[.int .i64 a, .slice A n c], .int .i64 left] w (GivesN (leftI left n) w) := by
  by_cases h : (n : Int) ≤ left
  · have HE := Lib.hid (leftI_yes h)
    have h' : 0 ≤ leftI left n := by rw [HE.out]; omega
    go_enter Tryz.func142, Tryz.ntmps142
    go_wp2_with (go_at_call 152; refine (szInt64S_any _ _ _ _ _ hn h0 h1).mono ?_; rintro e w' ⟨rfl, rfl⟩)
    go_ret
    exact ⟨rfl, (Below.refl _ _).alloc (Nat.le_refl _) _⟩
  · have HE := Lib.hid (leftI_no h)
    have h' : leftI left n < 0 := by rw [HE.out]; omega
    clear h
    go_enter Tryz.func142, Tryz.ntmps142
    go_wp2_with (go_at_call 152; refine (szInt64S_any _ _ _ _ _ hn h0 h1).mono ?_; rintro e w' ⟨rfl, rfl⟩)
    go_ret
    exact ⟨by rw [HE.out]; rfl, (Below.refl _ _).alloc (Nat.le_refl _) _⟩

set_option maxHeartbeats 1000000 in
theorem szPhiS_any (v : Value) (xs : List PhiD) (left : Int) (w : World) (Z : Zn) (hv : Row w Z 2 (EPhi w Z) v xs) (hD : ∀ b, Z.D b → b < w.heap.size) (h0 : 0 ≤ left) (h1 : left ≤ 1048576) :
    Calls Tryz.prog 117 #[v, .int .i64 left] w (GivesN (leftI left (xs.length + (xs.map szPhiN).sum)) w) := by
  obtain ⟨hle, A, c, rfl, hx⟩ := hv
  by_cases hl0 : (xs.length : Int) ≤ left
  · have hxe : leftI left (xs.length + pre szPhiN xs 0) = left - xs.length := by rw [pre_zero, Nat.add_zero, leftI_yes hl0]
    have HXE := Lib.hid hxe
    clear hxe
    go_enter Tryz.func117, Tryz.ntmps117
    go_wp2
    go_loopw [1, 5] (fun q i wr => ∃ k : Nat, k ≤ xs.length ∧ i = .int .i64 k ∧ q = .int .i64 (leftI left (xs.length + pre szPhiN xs k)) ∧ 0 ≤ leftI left (xs.length + pre szPhiN xs k) ∧ Hid (Below w.heap.size w wr)) (fun _ i _ => xs.length - (intOf i).toNat)
    case atStart => exact ⟨0, Nat.zero_le _, rfl, by rw [HXE.out], by rw [HXE.out]; omega, Below.refl _ _⟩
    case round =>
      obtain ⟨k, hk, rfl, rfl, hpos, HB⟩ := hrel
      have hub := Int.le_trans (leftI_le (n := xs.length + pre szPhiN xs k) h0) h1
      by_cases hlt : k < xs.length
      · have hxk : xs[k]? = some xs[k] := List.getElem?_eq_getElem hlt
        generalize xs[k] = x at hxk
        obtain ⟨b, off, rfl, hDb, hrow⟩ := hx (by rintro rfl; simp at hlt)
        obtain ⟨cs, hE, hcs⟩ := hrow k x hxk
        have hbl := hD b hDb
        obtain ⟨q, rfl, hq⟩ := hE
        obtain ⟨hle1, A1, c1, rfl, _⟩ := hq
        have c0 : wr.cell? ⟨b, off + k * 2, none⟩ = some (.int .i64 x.v) := (HB.out.cell (p := ⟨b, _, none⟩) hbl).trans (hcs 0 _ rfl).1
        have c1 : wr.cell? ⟨b, off + k * 2 + 1, none⟩ = some (.slice A1 x.args.length c1) := (HB.out.cell (p := ⟨b, _, none⟩) hbl).trans (hcs 1 _ rfl).1
        have hnext : leftI (leftI left (xs.length + pre szPhiN xs k)) (szPhiN x) = leftI left (xs.length + pre szPhiN xs (k + 1)) := by rw [leftI_add hpos, pre_succ szPhiN hxk, Nat.add_assoc]
        have HN := Lib.hid hnext
        have hall := pre_le szPhiN xs (k + 1)
        clear hcs hrow hx hxk hnext
        generalize hq : leftI left (xs.length + pre szPhiN xs k) = q at *
        clear hq
        by_cases hneg : 0 ≤ leftI left (xs.length + pre szPhiN xs (k + 1))
        · go_wp2_with fail
          refine (szPhi_any _ _ _ _ _ _ hle1 hpos hub).mono ?_
          rintro e w5 ⟨he, hb5⟩
          obtain rfl : e = .returned (.int .i64 (leftI q (szPhiN x))) := he
          rw [HN.out]
          have HB5 := Lib.hid (HB.out.trans (hb5.mono HB.out.size))
          clear hb5
          go_wp2_with fail
          go_roundw
          case rel => exact ⟨k + 1, by omega, by go_num, rfl, hneg, HB5.out⟩
          case measure => simp [intOf]; omega
        · have hneg' : leftI left (xs.length + pre szPhiN xs (k + 1)) < 0 := by omega
          have HE := Lib.hid (leftI_more (b := xs.length + (xs.map szPhiN).sum) hneg' (by omega))
          clear hneg
          go_wp2_with fail
          refine (szPhi_any _ _ _ _ _ _ hle1 hpos hub).mono ?_
          rintro e w5 ⟨he, hb5⟩
          obtain rfl : e = .returned (.int .i64 (leftI q (szPhiN x))) := he
          rw [HN.out]
          have HB5 := Lib.hid (HB.out.trans (hb5.mono HB.out.size))
          clear hb5
          go_wp2_with fail
          go_ret
          exact ⟨by rw [HE.out]; rfl, HB5.out⟩
      · obtain rfl : k = xs.length := by omega
        have HP := Lib.hid (pre_all szPhiN xs)
        go_wp2
        go_ret
        exact ⟨by rw [HP.out]; rfl, HB.out⟩
  · have HE := Lib.hid (leftI_more (left := left) (a := xs.length) (b := xs.length + (xs.map szPhiN).sum) (by rw [leftI_no hl0]; omega) (by omega))
    have h' : left - (xs.length : Int) < 0 := by omega
    clear hl0
    go_enter Tryz.func117, Tryz.ntmps117
    go_wp2
    go_ret
    exact ⟨by rw [HE.out]; rfl, Below.refl _ _⟩

theorem szBlock_end {left : Int} {a b : Nat} (h : leftI left a < 0) (hab : a ≤ b) : Ending.returned (.int .i64 (-1)) = .returned (.int .i64 (leftI left b)) := by rw [leftI_more h hab]

set_option maxHeartbeats 1000000 in
theorem szBlock_any (x : BlockD) (cs : List Value) (left : Int) (w : World) (Z : Zn) (hv : EBlock w Z x cs) (hD : ∀ b, Z.D b → b < w.heap.size) (h0 : 0 ≤ left) (h1 : left ≤ 1048576) :
    Calls Tryz.prog 82 #[.agg cs.toArray, .int .i64 left] w (GivesN (leftI left (szBlockN x)) w) := by
  obtain ⟨v0, v1, v2, v3, rfl, hv0, ⟨hl1, A1, c1, rfl, _⟩, ⟨hl2, A2, c2, rfl, _⟩, ⟨hl3, A3, c3, rfl, _⟩⟩ := hv
  have HV0 := Lib.hid hv0
  obtain ⟨_, A0, c0, rfl, _⟩ := hv0
  have HS : Hid (szBlockN x = szPhisN x.phis + x.head.length + x.body.length + x.tail.length) := rfl
  have HS0 : Hid (szPhisN x.phis = x.phis.length + (x.phis.map szPhiN).sum) := rfl
  go_enter Tryz.func82, Tryz.ntmps82
  go_wp2_with fail
  refine (szPhiS_any _ _ _ _ Z (HV0.out.keep (Kept.below ((Below.refl _ _).alloc (Nat.le_refl _) _) hD) fun _ _ h => h.keep (Kept.below ((Below.refl _ _).alloc (Nat.le_refl _) _) hD)) (fun b hb => by have := hD b hb; simp; omega) h0 h1).mono ?_
  rintro e w1 ⟨he, hb1⟩
  rw [← HS0.out] at he
  subst he
  have HB1 : Hid (Below w.heap.size w w1) := ((Below.refl _ _).alloc (Nat.le_refl _) _).trans (hb1.mono (by simp))
  obtain ⟨hc1, hf1⟩ := bcellB (hb1.mono (B' := w.heap.size + 1) (by simp))
  have hz1 : w.heap.size + 1 ≤ w1.heap.size := by have := hb1.size; simp at this; omega
  clear hb1 hf1
  by_cases g1 : 0 ≤ leftI left (szPhisN x.phis)
  case neg =>
    have g1' : leftI left (szPhisN x.phis) < 0 := by omega
    clear g1
    go_wp2_with fail
    go_ret
    exact ⟨szBlock_end g1' (by rw [HS.out]; omega), HB1.out⟩
  have u1 := Int.le_trans (leftI_le (n := szPhisN x.phis) h0) h1
  go_wp2_with fail
  refine (szMoveS_any _ _ _ _ _ hl1 g1 u1).mono ?_
  rintro e w' ⟨he, rfl⟩
  rw [leftI_add g1] at he
  subst he
  by_cases g2 : 0 ≤ leftI left (szPhisN x.phis + x.head.length)
  case neg =>
    have g' : leftI left (szPhisN x.phis + x.head.length) < 0 := by omega
    clear g2 g1 u1
    go_wp2_with fail
    go_ret
    exact ⟨szBlock_end g' (by rw [HS.out]; omega), HB1.out⟩
  have u2 := Int.le_trans (leftI_le (n := szPhisN x.phis + x.head.length) h0) h1
  clear g1 u1
  go_wp2_with fail
  refine (szInsS_any _ _ _ _ _ hl2 g2 u2).mono ?_
  rintro e w' ⟨he, rfl⟩
  rw [leftI_add g2] at he
  subst he
  by_cases g3 : 0 ≤ leftI left (szPhisN x.phis + x.head.length + x.body.length)
  case neg =>
    have g' : leftI left (szPhisN x.phis + x.head.length + x.body.length) < 0 := by omega
    clear g3 g2 u2
    go_wp2_with fail
    go_ret
    exact ⟨szBlock_end g' (by rw [HS.out]; omega), HB1.out⟩
  have u3 := Int.le_trans (leftI_le (n := szPhisN x.phis + x.head.length + x.body.length) h0) h1
  clear g2 u2
  go_wp2_with fail
  refine (szMoveS_any _ _ _ _ _ hl3 g3 u3).mono ?_
  rintro e w' ⟨he, rfl⟩
  rw [leftI_add g3] at he
  subst he
  by_cases g4 : 0 ≤ leftI left (szPhisN x.phis + x.head.length + x.body.length + x.tail.length)
  case neg =>
    have g' : leftI left (szPhisN x.phis + x.head.length + x.body.length + x.tail.length) < 0 := by omega
    clear g4 g3 u3
    go_wp2_with fail
    go_ret
    exact ⟨szBlock_end g' (by rw [HS.out]; omega), HB1.out⟩
  have u4 := Int.le_trans (leftI_le (n := szPhisN x.phis + x.head.length + x.body.length + x.tail.length) h0) h1
  clear g3 u3
  go_wp2_with fail
  go_ret
  exact ⟨by rw [HS.out]; rfl, HB1.out⟩

set_option maxHeartbeats 1000000 in
theorem szBlockS_any (v : Value) (xs : List BlockD) (left : Int) (w : World) (Z : Zn) (hv : Row w Z 8 (EBlock w Z) v xs) (hD : ∀ b, Z.D b → b < w.heap.size) (h0 : 0 ≤ left) (h1 : left ≤ 1048576) :
    Calls Tryz.prog 42 #[v, .int .i64 left] w (GivesN (leftI left (xs.length + (xs.map szBlockN).sum)) w) := by
  obtain ⟨hle, A, c, rfl, hx⟩ := hv
  by_cases hl0 : (xs.length : Int) ≤ left
  · have hxe : leftI left (xs.length + pre szBlockN xs 0) = left - xs.length := by rw [pre_zero, Nat.add_zero, leftI_yes hl0]
    have HXE := Lib.hid hxe
    clear hxe
    go_enter Tryz.func42, Tryz.ntmps42
    go_wp2
    go_loopw [1, 5] (fun q i wr => ∃ k : Nat, k ≤ xs.length ∧ i = .int .i64 k ∧ q = .int .i64 (leftI left (xs.length + pre szBlockN xs k)) ∧ 0 ≤ leftI left (xs.length + pre szBlockN xs k) ∧ Hid (Below w.heap.size w wr)) (fun _ i _ => xs.length - (intOf i).toNat)
    case atStart => exact ⟨0, Nat.zero_le _, rfl, by rw [HXE.out], by rw [HXE.out]; omega, Below.refl _ _⟩
    case round =>
      obtain ⟨k, hk, rfl, rfl, hpos, HB⟩ := hrel
      have hub := Int.le_trans (leftI_le (n := xs.length + pre szBlockN xs k) h0) h1
      by_cases hlt : k < xs.length
      · have hxk : xs[k]? = some xs[k] := List.getElem?_eq_getElem hlt
        generalize xs[k] = x at hxk
        obtain ⟨b, off, rfl, hDb, hrow⟩ := hx (by rintro rfl; simp at hlt)
        obtain ⟨cs, hE, hcs⟩ := hrow k x hxk
        have hbl := hD b hDb
        have HQ := Lib.hid (hE.keep (Kept.below HB.out hD))
        obtain ⟨_, _, _, _, rfl, ⟨_, A0, c0, rfl, _⟩, ⟨_, A1, c1, rfl, _⟩, ⟨_, A2, c2, rfl, _⟩, ⟨_, A3, c3, rfl, _⟩⟩ := hE
        have c0 : wr.cell? ⟨b, off + k * 8, none⟩ = some (.slice A0 x.phis.length c0) := (HB.out.cell (p := ⟨b, _, none⟩) hbl).trans (hcs 0 _ rfl).1
        have c1 : wr.cell? ⟨b, off + k * 8 + 1, none⟩ = some (.slice A1 x.head.length c1) := (HB.out.cell (p := ⟨b, _, none⟩) hbl).trans (hcs 1 _ rfl).1
        have c2 : wr.cell? ⟨b, off + k * 8 + 2, none⟩ = some (.slice A2 x.body.length c2) := (HB.out.cell (p := ⟨b, _, none⟩) hbl).trans (hcs 2 _ rfl).1
        have c3 : wr.cell? ⟨b, off + k * 8 + 3, none⟩ = some (.slice A3 x.tail.length c3) := (HB.out.cell (p := ⟨b, _, none⟩) hbl).trans (hcs 3 _ rfl).1
        have c4 : wr.cell? ⟨b, off + k * 8 + 4, none⟩ = some (.int .i64 x.fin.k) := (HB.out.cell (p := ⟨b, _, none⟩) hbl).trans (hcs 4 _ rfl).1
        have c5 : wr.cell? ⟨b, off + k * 8 + 5, none⟩ = some (.int .i64 x.fin.a) := (HB.out.cell (p := ⟨b, _, none⟩) hbl).trans (hcs 5 _ rfl).1
        have c6 : wr.cell? ⟨b, off + k * 8 + 6, none⟩ = some (.int .i64 x.fin.t) := (HB.out.cell (p := ⟨b, _, none⟩) hbl).trans (hcs 6 _ rfl).1
        have c7 : wr.cell? ⟨b, off + k * 8 + 7, none⟩ = some (.int .i64 x.fin.l) := (HB.out.cell (p := ⟨b, _, none⟩) hbl).trans (hcs 7 _ rfl).1
        have hnext : leftI (leftI left (xs.length + pre szBlockN xs k)) (szBlockN x) = leftI left (xs.length + pre szBlockN xs (k + 1)) := by rw [leftI_add hpos, pre_succ szBlockN hxk, Nat.add_assoc]
        have HN := Lib.hid hnext
        have hall := pre_le szBlockN xs (k + 1)
        clear hcs hrow hx hxk hnext
        generalize hq : leftI left (xs.length + pre szBlockN xs k) = q at *
        clear hq
        by_cases hneg : 0 ≤ leftI left (xs.length + pre szBlockN xs (k + 1))
        · go_wp2_with fail
          refine (szBlock_any x _ _ _ Z HQ.out (fun b hb => by have h1 := hD b hb; have h2 := HB.out.size; omega) hpos hub).mono ?_
          rintro e w5 ⟨he, hb5⟩
          obtain rfl : e = .returned (.int .i64 (leftI q (szBlockN x))) := he
          rw [HN.out]
          have HB5 := Lib.hid (HB.out.trans (hb5.mono HB.out.size))
          clear hb5
          go_wp2_with fail
          go_roundw
          case rel => exact ⟨k + 1, by omega, by go_num, rfl, hneg, HB5.out⟩
          case measure => simp [intOf]; omega
        · have hneg' : leftI left (xs.length + pre szBlockN xs (k + 1)) < 0 := by omega
          have HE := Lib.hid (leftI_more (b := xs.length + (xs.map szBlockN).sum) hneg' (by omega))
          clear hneg
          go_wp2_with fail
          refine (szBlock_any x _ _ _ Z HQ.out (fun b hb => by have h1 := hD b hb; have h2 := HB.out.size; omega) hpos hub).mono ?_
          rintro e w5 ⟨he, hb5⟩
          obtain rfl : e = .returned (.int .i64 (leftI q (szBlockN x))) := he
          rw [HN.out]
          have HB5 := Lib.hid (HB.out.trans (hb5.mono HB.out.size))
          clear hb5
          go_wp2_with fail
          go_ret
          exact ⟨by rw [HE.out]; rfl, HB5.out⟩
      · obtain rfl : k = xs.length := by omega
        have HP := Lib.hid (pre_all szBlockN xs)
        go_wp2
        go_ret
        exact ⟨by rw [HP.out]; rfl, HB.out⟩
  · have HE := Lib.hid (leftI_more (left := left) (a := xs.length) (b := xs.length + (xs.map szBlockN).sum) (by rw [leftI_no hl0]; omega) (by omega))
    have h' : left - (xs.length : Int) < 0 := by omega
    clear hl0
    go_enter Tryz.func42, Tryz.ntmps42
    go_wp2
    go_ret
    exact ⟨by rw [HE.out]; rfl, Below.refl _ _⟩

set_option maxHeartbeats 400000 in
theorem szFun_any (f : FunD) (v : Value) (left : Int) (w : World) (Z : Zn) (hv : EFun w Z f v) (hD : ∀ b, Z.D b → b < w.heap.size) (h0 : 0 ≤ left) (h1 : left ≤ 1048576) :
    Calls Tryz.prog 19 #[v, .int .i64 left] w (GivesN (leftI left (szFunN f)) w) := by
  obtain ⟨u, rfl, hu⟩ := hv
  have HV := Lib.hid hu
  obtain ⟨_, A, c, rfl, _⟩ := hu
  have HS : Hid (szFunN f = f.blocks.length + (f.blocks.map szBlockN).sum) := rfl
  go_enter Tryz.func19, Tryz.ntmps19
  go_wp2_with fail
  refine (szBlockS_any _ _ _ _ Z (HV.out.keep (Kept.below ((Below.refl _ _).alloc (Nat.le_refl _) _) hD) fun _ _ h => h.keep (Kept.below ((Below.refl _ _).alloc (Nat.le_refl _) _) hD)) (fun b hb => by have := hD b hb; simp; omega) h0 h1).mono ?_
  rintro e w1 ⟨he, hb1⟩
  rw [← HS.out] at he
  subst he
  have HB1 : Hid (Below w.heap.size w w1) := ((Below.refl _ _).alloc (Nat.le_refl _) _).trans (hb1.mono (by simp))
  clear hb1
  by_cases g1 : 0 ≤ leftI left (szFunN f)
  · go_wp2_with fail
    go_ret
    exact ⟨rfl, HB1.out⟩
  · have g1' : leftI left (szFunN f) < 0 := by omega
    clear g1
    go_wp2_with fail
    go_ret
    exact ⟨szBlock_end g1' (Nat.le_refl _), HB1.out⟩
end

/- What a call that writes numbers where numbers were leaves as it was. -/
section
open Go.ChangeShapes Go.WideShapes Go.ChangeAt Go.RowKit Go.Joins

def isI (u : Value) : Prop := ∃ x : Int, u = .int .i64 x

/-- Within the blocks D numbers may have been written where numbers were; all else is as it was. -/
structure Marked (D : Nat → Prop) (w w' : World) : Prop where
  os : w'.os = w.os
  tape : w'.tape = w.tape
  output : w'.output = w.output
  size : w.heap.size ≤ w'.heap.size
  far : ∀ b, b < w.heap.size → ¬ D b → w'.heap[b]? = w.heap[b]?
  num : ∀ b o u, D b → w.cell? ⟨b, o, none⟩ = some u → isI u → ∃ u', w'.cell? ⟨b, o, none⟩ = some u' ∧ isI u'
  same : ∀ b o u, D b → w.cell? ⟨b, o, none⟩ = some u → ¬ isI u → w'.cell? ⟨b, o, none⟩ = some u
  frozen : ∀ b o, D b → b < w.heap.size → w'.frozen? ⟨b, o, none⟩ = w.frozen? ⟨b, o, none⟩

theorem lt_of_cell {w : World} {b o : Nat} {u : Value} (h : w.cell? ⟨b, o, none⟩ = some u) : b < w.heap.size := World.block_lt_of_cell? w ⟨b, o, none⟩ h

theorem Marked.refl (D : Nat → Prop) (w : World) : Marked D w w := ⟨rfl, rfl, rfl, Nat.le_refl _, fun _ _ _ => rfl, fun _ _ u _ h hi => ⟨u, h, hi⟩, fun _ _ _ _ h _ => h, fun _ _ _ _ => rfl⟩
theorem Marked.trans {D : Nat → Prop} {a b c : World} (h : Marked D a b) (k : Marked D b c) : Marked D a c := by
  refine ⟨k.os.trans h.os, k.tape.trans h.tape, k.output.trans h.output, Nat.le_trans h.size k.size, fun i hi hn => (k.far i (Nat.lt_of_lt_of_le hi h.size) hn).trans (h.far i hi hn), fun i o u hD hu hi => ?_, fun i o u hD hu hi => ?_, fun i o hD hi => (k.frozen i o hD (Nat.lt_of_lt_of_le hi h.size)).trans (h.frozen i o hD hi)⟩
  · obtain ⟨u', hu', hi'⟩ := h.num i o u hD hu hi
    exact k.num i o u' hD hu' hi'
  · exact k.same i o u hD (h.same i o u hD hu hi) hi
theorem Marked.below {D : Nat → Prop} {w w' : World} (hb : Below w.heap.size w w') : Marked D w w' :=
  ⟨hb.os, hb.tape, hb.output, hb.size, fun b h _ => hb.block b h, fun b o u _ hu hi => ⟨u, (hb.cell (p := ⟨b, o, none⟩) (lt_of_cell hu)).trans hu, hi⟩, fun b o _ _ hu _ => (hb.cell (p := ⟨b, o, none⟩) (lt_of_cell hu)).trans hu, fun b o _ h => hb.frozen (p := ⟨b, o, none⟩) h⟩
theorem Marked.set {D : Nat → Prop} {w : World} {b o : Nat} {u : Value} (hD : D b) (hu : w.cell? ⟨b, o, none⟩ = some u) (hi : isI u) (x : Int) : Marked D w (w.setCell ⟨b, o, none⟩ (.int .i64 x)) := by
  have hg := set_grown w b o (.int .i64 x)
  refine ⟨hg.os, hg.tape, hg.output, hg.size, fun i h hn => hg.block i h (fun e => hn (by injection e with e; rw [e]; exact hD)), fun i o' u' _ hu' hi' => ?_, fun i o' u' _ hu' hn => ?_, fun i o' _ _ => World.frozen?_setCell w _ _ _⟩
  · by_cases e : (⟨b, o, none⟩ : Addr) = ⟨i, o', none⟩
    · rw [← e]
      exact ⟨_, World.cell?_setCell_same w _ _ hu, x, rfl⟩
    · exact ⟨u', by rw [World.cell?_setCell_other _ _ _ _ (by first | exact e | exact Ne.symm e)]; exact hu', hi'⟩
  · by_cases e : (⟨b, o, none⟩ : Addr) = ⟨i, o', none⟩
    · rw [← e, hu] at hu'
      injection hu' with hu'
      subst hu'
      exact absurd hi hn
    · rw [World.cell?_setCell_other _ _ _ _ (by first | exact e | exact Ne.symm e)]; exact hu'

/-- A number lies there, and may be written. -/
def SInt (w : World) (b o : Nat) : Prop := (∃ x : Int, w.cell? ⟨b, o, none⟩ = some (.int .i64 x)) ∧ w.frozen? ⟨b, o, none⟩ = false
/-- n records of S numbers each. -/
def SFlat (D : Nat → Prop) (w : World) (S : Nat) (v : Value) (n : Nat) : Prop :=
  n ≤ 9223372036854775807 ∧ ∃ A c, v = .slice A n c ∧ (0 < n → ∃ b off, A = some ⟨b, off, none⟩ ∧ D b ∧ ∀ k j, k < n → j < S → SInt w b (off + k * S + j))
def SPhis (D : Nat → Prop) (w : World) (v : Value) (ns : List Nat) : Prop :=
  ns.length ≤ 9223372036854775807 ∧ ∃ A c, v = .slice A ns.length c ∧ (0 < ns.length → ∃ b off, A = some ⟨b, off, none⟩ ∧ D b ∧ ∀ (k : Nat) n, ns[k]? = some n → SInt w b (off + k * 2) ∧ ∃ u, w.cell? ⟨b, off + k * 2 + 1, none⟩ = some u ∧ SFlat D w 1 u n)
structure BShape where
  phis : List Nat
  head : Nat
  body : Nat
  tail : Nat
def SBlocks (D : Nat → Prop) (w : World) (v : Value) (ss : List BShape) : Prop :=
  ss.length ≤ 9223372036854775807 ∧ ∃ A c, v = .slice A ss.length c ∧ (0 < ss.length → ∃ b off, A = some ⟨b, off, none⟩ ∧ D b ∧ ∀ (k : Nat) s, ss[k]? = some s → ∃ u0 u1 u2 u3, w.cell? ⟨b, off + k * 8, none⟩ = some u0 ∧ w.cell? ⟨b, off + k * 8 + 1, none⟩ = some u1 ∧ w.cell? ⟨b, off + k * 8 + 2, none⟩ = some u2 ∧ w.cell? ⟨b, off + k * 8 + 3, none⟩ = some u3 ∧
    SPhis D w u0 s.phis ∧ SFlat D w 2 u1 s.head ∧ SFlat D w 4 u2 s.body ∧ SFlat D w 2 u3 s.tail ∧ SInt w b (off + k * 8 + 4) ∧ SInt w b (off + k * 8 + 5) ∧ SInt w b (off + k * 8 + 6) ∧ SInt w b (off + k * 8 + 7))

theorem not_isI_slice {A : Option Addr} {n c : Nat} : ¬ isI (.slice A n c) := fun ⟨_, h⟩ => by cases h
theorem SInt.marked {D : Nat → Prop} {w w' : World} {b o : Nat} (h : SInt w b o) (hD : D b) (hm : Marked D w w') : SInt w' b o := by
  obtain ⟨⟨x, hx⟩, hf⟩ := h
  obtain ⟨u', hu', y, rfl⟩ := hm.num b o _ hD hx ⟨x, rfl⟩
  exact ⟨⟨y, hu'⟩, (hm.frozen b o hD (lt_of_cell hx)).trans hf⟩
theorem SFlat.marked {D : Nat → Prop} {w w' : World} {S n : Nat} {v : Value} (h : SFlat D w S v n) (hm : Marked D w w') : SFlat D w' S v n := by
  obtain ⟨h1, A, c, rfl, h2⟩ := h
  refine ⟨h1, A, c, rfl, fun hn => ?_⟩
  obtain ⟨b, off, rfl, hD, h3⟩ := h2 hn
  exact ⟨b, off, rfl, hD, fun k j hk hj => (h3 k j hk hj).marked hD hm⟩
theorem SFlat.form {D : Nat → Prop} {w : World} {S n : Nat} {v : Value} (h : SFlat D w S v n) : ¬ isI v := by
  obtain ⟨_, A, c, rfl, _⟩ := h
  exact not_isI_slice
theorem SPhis.form {D : Nat → Prop} {w : World} {ns : List Nat} {v : Value} (h : SPhis D w v ns) : ¬ isI v := by
  obtain ⟨_, A, c, rfl, _⟩ := h
  exact not_isI_slice
theorem SPhis.marked {D : Nat → Prop} {w w' : World} {ns : List Nat} {v : Value} (h : SPhis D w v ns) (hm : Marked D w w') : SPhis D w' v ns := by
  obtain ⟨h1, A, c, rfl, h2⟩ := h
  refine ⟨h1, A, c, rfl, fun hn => ?_⟩
  obtain ⟨b, off, rfl, hD, h3⟩ := h2 hn
  refine ⟨b, off, rfl, hD, fun k n hk => ?_⟩
  obtain ⟨h4, u, hu, h5⟩ := h3 k n hk
  exact ⟨h4.marked hD hm, u, hm.same _ _ _ hD hu h5.form, h5.marked hm⟩
theorem SBlocks.marked {D : Nat → Prop} {w w' : World} {ss : List BShape} {v : Value} (h : SBlocks D w v ss) (hm : Marked D w w') : SBlocks D w' v ss := by
  obtain ⟨h1, A, c, rfl, h2⟩ := h
  refine ⟨h1, A, c, rfl, fun hn => ?_⟩
  obtain ⟨b, off, rfl, hD, h3⟩ := h2 hn
  refine ⟨b, off, rfl, hD, fun k s hk => ?_⟩
  obtain ⟨u0, u1, u2, u3, c0, c1, c2, c3, s0, s1, s2, s3, i0, i1, i2, i3⟩ := h3 k s hk
  exact ⟨u0, u1, u2, u3, hm.same _ _ _ hD c0 s0.form, hm.same _ _ _ hD c1 s1.form, hm.same _ _ _ hD c2 s2.form, hm.same _ _ _ hD c3 s3.form, s0.marked hm, s1.marked hm, s2.marked hm, s3.marked hm, i0.marked hD hm, i1.marked hD hm, i2.marked hD hm, i3.marked hD hm⟩

def phisS (l : List PhiD) : List Nat := l.map fun p => p.args.length
def blockS (x : BlockD) : BShape := ⟨phisS x.phis, x.head.length, x.body.length, x.tail.length⟩
theorem At.sint {w : World} {Z : Zn} {b o : Nat} {x : Int} (h : At w Z b o (.int .i64 x)) (ho : Z.own = true) : SInt w b o := ⟨⟨x, h.1⟩, h.2 ho⟩

theorem Row.sflat {α : Type} {w : World} {Z : Zn} {S : Nat} {E : α → List Value → Prop} {v : Value} {xs : List α} (h : Row w Z S E v xs) (ho : Z.own = true) (hE : ∀ x cs, E x cs → ∀ j, j < S → ∃ y : Int, cs[j]? = some (.int .i64 y)) : SFlat Z.D w S v xs.length := by
  obtain ⟨h1, A, c, rfl, h2⟩ := h
  refine ⟨h1, A, c, rfl, fun hn => ?_⟩
  obtain ⟨b, off, rfl, hD, h3⟩ := h2 (List.length_pos_iff.1 hn)
  refine ⟨b, off, rfl, hD, fun k j hk hj => ?_⟩
  obtain ⟨cs, hcs, h4⟩ := h3 k _ (List.getElem?_eq_getElem hk)
  obtain ⟨y, hy⟩ := hE _ cs hcs j hj
  exact (h4 j _ hy).sint ho
theorem Row.sints {w : World} {Z : Zn} {v : Value} {xs : List Int} (h : Row w Z 1 EInt v xs) (ho : Z.own = true) : SFlat Z.D w 1 v xs.length :=
  h.sflat ho fun x cs hcs j hj => by
    subst hcs
    obtain rfl : j = 0 := by omega
    exact ⟨_, rfl⟩
theorem Row.smoves {w : World} {Z : Zn} {v : Value} {xs : List MoveD} (h : Row w Z 2 EMove v xs) (ho : Z.own = true) : SFlat Z.D w 2 v xs.length :=
  h.sflat ho fun x cs hcs j hj => by
    subst hcs
    match j, hj with
    | 0, _ => exact ⟨_, rfl⟩
    | 1, _ => exact ⟨_, rfl⟩
theorem Row.sinss {w : World} {Z : Zn} {v : Value} {xs : List InsD} (h : Row w Z 4 EIns v xs) (ho : Z.own = true) : SFlat Z.D w 4 v xs.length :=
  h.sflat ho fun x cs hcs j hj => by
    subst hcs
    match j, hj with
    | 0, _ => exact ⟨_, rfl⟩
    | 1, _ => exact ⟨_, rfl⟩
    | 2, _ => exact ⟨_, rfl⟩
    | 3, _ => exact ⟨_, rfl⟩
theorem Row.sphis {w : World} {Z : Zn} {v : Value} {xs : List PhiD} (h : Row w Z 2 (EPhi w Z) v xs) (ho : Z.own = true) : SPhis Z.D w v (phisS xs) := by
  have hl : (phisS xs).length = xs.length := by simp [phisS]
  obtain ⟨h1, A, c, rfl, h2⟩ := h
  refine ⟨by rw [hl]; exact h1, A, c, by rw [hl], fun hn => ?_⟩
  obtain ⟨b, off, rfl, hD, h3⟩ := h2 (List.length_pos_iff.1 (by omega))
  refine ⟨b, off, rfl, hD, fun k n hk => ?_⟩
  have hk' : k < xs.length := by
    have := (List.getElem?_eq_some_iff.1 hk).1
    omega
  have hxk : xs[k]? = some xs[k] := List.getElem?_eq_getElem hk'
  obtain ⟨cs, ⟨u, rfl, hu⟩, h4⟩ := h3 k _ hxk
  have hn : n = xs[k].args.length := by
    unfold phisS at hk
    rw [List.getElem?_map, hxk] at hk
    simpa using hk.symm
  subst hn
  exact ⟨(h4 0 _ rfl).sint ho, u, (h4 1 _ rfl).1, hu.sints ho⟩
theorem EFun.sblocks {w : World} {Z : Zn} {f : FunD} {a b u : Value} (h : EFun w Z f (.agg #[a, b, u])) (ho : Z.own = true) : SBlocks Z.D w u (f.blocks.map blockS) := by
  obtain ⟨u', he, h⟩ := h
  injection he with he
  have : u = u' := by
    have := congrArg (fun l : Array Value => l[2]?) he
    simpa using this
  subst this
  have hl : (f.blocks.map blockS).length = f.blocks.length := by simp
  obtain ⟨h1, A, c, rfl, h2⟩ := h
  refine ⟨by rw [hl]; exact h1, A, c, by rw [hl], fun hn => ?_⟩
  obtain ⟨b, off, rfl, hD, h3⟩ := h2 (List.length_pos_iff.1 (by omega))
  refine ⟨b, off, rfl, hD, fun k s hk => ?_⟩
  have hk' : k < f.blocks.length := by
    have := (List.getElem?_eq_some_iff.1 hk).1
    omega
  have hxk : f.blocks[k]? = some f.blocks[k] := List.getElem?_eq_getElem hk'
  obtain ⟨cs, ⟨v0, v1, v2, v3, rfl, r0, r1, r2, r3⟩, h4⟩ := h3 k _ hxk
  have hs : s = blockS f.blocks[k] := by
    rw [List.getElem?_map, hxk] at hk
    simpa using hk.symm
  subst hs
  exact ⟨v0, v1, v2, v3, (h4 0 _ rfl).1, (h4 1 _ rfl).1, (h4 2 _ rfl).1, (h4 3 _ rfl).1, r0.sphis ho, r1.smoves ho, r2.sinss ho, r3.smoves ho, (h4 4 _ rfl).sint ho, (h4 5 _ rfl).sint ho, (h4 6 _ rfl).sint ho, (h4 7 _ rfl).sint ho⟩
end

/- Rows of bools of the call's own, kept. -/
section
open Go.ChangeShapes Go.WideShapes Go.ChangeAt Go.RowKit Go.Joins

theorem OB.below {w w' : World} {B B' : Nat} {v : Value} {xs : List Bool} (h : OB w B v xs) (hb : Below B' w w') (hB : ∀ k, v.ownBlock = some k → k < B') : OB w' B v xs := by
  obtain ⟨h1, h2⟩ := h
  refine ⟨h1, ?_⟩
  rcases h2 with h2 | ⟨g, cap, cur, rfl, hg, hh, r⟩
  · exact .inl h2
  · exact .inr ⟨g, cap, cur, rfl, hg, (hb.block g (hB g rfl)).trans hh, r⟩
theorem OB.grown {w w' : World} {B : Nat} {v : Value} {xs : List Bool} (h : OB w B v xs) {row : Option Nat} (hg : w.grownBy w' row) (hne : v.ownBlock = none ∨ v.ownBlock ≠ row) : OB w' B v xs := World.ownsRow.kept h hg hne
theorem OB.drewN {w : World} {B : Nat} {v : Value} {xs : List Bool} (h : OB w B v xs) (n : Nat) : OB (w.drewN n) B v xs := h
theorem OB.marked {D : Nat → Prop} {w w' : World} {B : Nat} {v : Value} {xs : List Bool} (h : OB w B v xs) (hm : Marked D w w') (hn : ∀ k, v.ownBlock = some k → ¬ D k) : OB w' B v xs := by
  have hlt := h.lt
  obtain ⟨h1, h2⟩ := h
  refine ⟨h1, ?_⟩
  rcases h2 with h2 | ⟨g, cap, cur, rfl, hg, hh, r⟩
  · exact .inl h2
  · exact .inr ⟨g, cap, cur, rfl, hg, (hm.far g (hlt g rfl).2 (hn g rfl)).trans hh, r⟩
end

/- The cells of pairs. -/
section
open Go.ChangeShapes Go.WideShapes Go.ChangeAt Go.RowKit Go.Joins

/-- The cells of edges (dst: From; src: To). -/
def fl (es : List MoveD) : List Value := es.flatMap fun e => [iv e.dst, iv e.src]
theorem fl_nil : fl [] = [] := rfl
theorem fl_cons (e : MoveD) (es : List MoveD) : fl (e :: es) = iv e.dst :: iv e.src :: fl es := rfl
theorem fl_append (a b : List MoveD) : fl (a ++ b) = fl a ++ fl b := by simp [fl, List.flatMap_append]
theorem fl_len : ∀ (es : List MoveD), (fl es).length = es.length * 2
  | [] => rfl
  | e :: es => by rw [fl_cons]; simp [fl_len es]; omega
theorem fl_get : ∀ {es : List MoveD} {k : Nat} {e : MoveD}, es[k]? = some e → (fl es)[k * 2]? = some (iv e.dst) ∧ (fl es)[k * 2 + 1]? = some (iv e.src)
  | [], k, e, h => by simp at h
  | a :: es, 0, e, h => by
    simp at h
    subst h
    exact ⟨rfl, rfl⟩
  | a :: es, k + 1, e, h => by
    have := fl_get (es := es) (k := k) (e := e) (by simpa using h)
    rw [fl_cons, show (k + 1) * 2 = k * 2 + 1 + 1 by omega]
    simpa using this

/-- Edges that are numbered on from k. -/
def markE (k : Int) (n : Nat) : List MoveD := (List.range n).map fun (i : Nat) => ⟨k + ((i * 2 : Nat) : Int), k + ((i * 2 : Nat) : Int) + 1⟩
theorem markE_length (k : Int) (n : Nat) : (markE k n).length = n := by simp [markE]
theorem markE_get (k : Int) {n j : Nat} (h : j < n) : (markE k n)[j]? = some ⟨k + ((j * 2 : Nat) : Int), k + ((j * 2 : Nat) : Int) + 1⟩ := by simp [markE, h]
theorem markE_zero (k : Int) : markE k 0 = [] := rfl
theorem markE_succ (k : Int) (j : Nat) : markE k (j + 1) = markE k j ++ [⟨k + ((j * 2 : Nat) : Int), k + ((j * 2 : Nat) : Int) + 1⟩] := by simp [markE, List.range_succ]
theorem set_two {α : Type} (A R : List α) (x y u v : α) (j : Nat) (h : A.length = j) : ((A ++ x :: y :: R).set j u).set (j + 1) v = A ++ u :: v :: R := by
  subst h
  rw [List.set_append_right _ _ (Nat.le_refl _), Nat.sub_self, List.set_cons_zero, List.set_append_right _ _ (by omega), show A.length + 1 - A.length = 1 by omega]
  rfl
theorem set_stepE (k : Int) (es : List MoveD) {j : Nat} (h : j < es.length) :
    ((fl (markE k j ++ es.drop j)).set (j * 2) (iv (k + ((j * 2 : Nat) : Int)))).set (j * 2 + 1) (iv (k + ((j * 2 : Nat) : Int) + 1)) = fl (markE k (j + 1) ++ es.drop (j + 1)) := by
  rw [List.drop_eq_getElem_cons h, fl_append, fl_cons, set_two _ _ _ _ _ _ _ (by rw [fl_len, markE_length]), markE_succ, fl_append, fl_append, List.append_assoc]
  rfl
end

/- Rows of places: how they read, whose they are, and one more. -/
section
open Go.ChangeShapes Go.WideShapes Go.ChangeAt Go.RowKit Go.Joins

/-- The slice value v is the call's own, from block B on, and reads as the places es. -/
def OP (w : World) (B : Nat) (v : Value) (es : List MoveD) : Prop := w.ownsRow B 36 2 v es.length (fl es)
theorem OP.lt {w : World} {B : Nat} {v : Value} {es : List MoveD} (h : OP w B v es) : ∀ k, v.ownBlock = some k → B ≤ k ∧ k < w.heap.size := World.ownsRow.lt h
theorem OP.fw {w w' : World} {B : Nat} {v : Value} {xs : List MoveD} {P : Nat → Prop} (h : OP w B v xs) (hf : Fw P w w') (hn : ∀ k, v.ownBlock = some k → ¬ P k) : OP w' B v xs := own_fw h hf hn
theorem OP.drewN {w : World} {B : Nat} {v : Value} {xs : List MoveD} (h : OP w B v xs) (n : Nat) : OP (w.drewN n) B v xs := h
theorem OP.grown {w w' : World} {B : Nat} {v : Value} {xs : List MoveD} (h : OP w B v xs) {row : Option Nat} (hg : w.grownBy w' row) (hne : v.ownBlock = none ∨ v.ownBlock ≠ row) : OP w' B v xs := World.ownsRow.kept h hg hne
theorem OP.below {w w' : World} {B B' : Nat} {v : Value} {xs : List MoveD} (h : OP w B v xs) (hb : Below B' w w') (hB : ∀ k, v.ownBlock = some k → k < B') : OP w' B v xs := by
  obtain ⟨h1, h2⟩ := h
  refine ⟨h1, ?_⟩
  rcases h2 with h2 | ⟨g, cap, cur, rfl, hg, hh, r⟩
  · exact .inl h2
  · exact .inr ⟨g, cap, cur, rfl, hg, (hb.block g (hB g rfl)).trans hh, r⟩
theorem OP.marked {D : Nat → Prop} {w w' : World} {B : Nat} {v : Value} {xs : List MoveD} (h : OP w B v xs) (hm : Marked D w w') (hn : ∀ k, v.ownBlock = some k → ¬ D k) : OP w' B v xs := by
  have hlt := h.lt
  obtain ⟨h1, h2⟩ := h
  refine ⟨h1, ?_⟩
  rcases h2 with h2 | ⟨g, cap, cur, rfl, hg, hh, r⟩
  · exact .inl h2
  · exact .inr ⟨g, cap, cur, rfl, hg, (hm.far g (hlt g rfl).2 (hn g rfl)).trans hh, r⟩
/-- It reads as a row. -/
theorem OP.row {w : World} {B : Nat} {v : Value} {es : List MoveD} (h : OP w B v es) : Row w (Zn.old w.heap.size) 2 EMove v es := by
  have h0 := h
  rcases h.2 with ⟨rfl, hn⟩ | ⟨g, cap, cur, rfl, _, hg, hnc, hcm, hs, ht⟩
  · exact ⟨by omega, none, 0, by rw [hn], fun hne => absurd (List.length_eq_zero_iff.1 hn) hne⟩
  · refine ⟨by rw [maxLen_is] at hcm; omega, _, cap, rfl, fun _ => ⟨g, 0, rfl, (Array.getElem?_eq_some_iff.1 hg).1, fun k e he => ⟨_, rfl, fun j u hu => ⟨?_, fun h => by cases h⟩⟩⟩⟩
    have hk := (List.getElem?_eq_some_iff.1 he).1
    have hget := fl_get he
    match j, hu with
    | 0, hu =>
      have hu' : iv e.dst = u := by simpa [iv] using hu
      rw [← hu', World.ownsRow.cellAt h0 _ (by omega), Nat.zero_add, Nat.add_zero]
      exact hget.1
    | 1, hu =>
      have hu' : iv e.src = u := by simpa [iv] using hu
      rw [← hu', World.ownsRow.cellAt h0 _ (by omega), Nat.zero_add]
      exact hget.2
    | j + 2, hu => simp at hu
theorem OP.form {w : World} {B : Nat} {v : Value} {es : List MoveD} (h : OP w B v es) : ∃ A c, v = .slice A es.length c := by
  obtain ⟨_, A, c, rfl, _⟩ := h.row
  exact ⟨A, c, rfl⟩

theorem info_place : (Tryz.prog.info? 36).map (fun i => (i.zero, i.size, i.bytes)) = some (some (.agg #[.int .i64 0, .int .i64 0]), 2, 16) := by kernel_rfl

theorem place_news (w : World) (x y : Int) : ∀ j u, [Value.int .i64 x, Value.int .i64 y][j]? = some u → (w.alloc (.cells #[.int .i64 x, .int .i64 y] 36)).cell? ((⟨w.heap.size, 0, none⟩ : Addr).add j) = some u := World.news_of_block (heap_alloc_new w _)

theorem wpList_append_place {ops : Array Oper} {rest : List Oper} {o : Oper} {a : Act} {Q : Exit → Act → World → Prop} (hgd : o.guard = none) (s x : Operand)
    (ho : o.op = .call { callee := .builtin .append, args := #[s, x], argTypes := #[29, 29] })
    (B : Nat) (v : Value) (es : List MoveD) (p q : Int) (w : World) (g : Nat) (hg : w.heap.size = g) (hs : a.eval s = v) (hown : OP w B v es) (hx : a.eval x = .slice (some ⟨g, 0, none⟩) 1 1) (hb : B ≤ w.heap.size) (hlen : es.length ≤ 1048576)
    (h : ∀ v' w', OP w' B v' (es ++ [⟨p, q⟩]) → w.grownBy w' v.ownBlock → (v'.ownBlock = v.ownBlock ∨ ∃ k, v'.ownBlock = some k ∧ w.heap.size ≤ k) → wpList Tryz.prog ops Q rest (a.put o.dst v') w') :
    wpList Tryz.prog ops Q (o :: rest) a (w.alloc (.cells #[.int .i64 p, .int .i64 q] 36)) := by
  subst hg
  obtain ⟨i0, hi, hz0, hz1, hz2⟩ := info_parts info_place
  refine wpList_append_own_at (P := Tryz.prog) _ hgd s x _ ho B 36 i0 (.agg #[.int .i64 0, .int .i64 0]) 2 16 Tryz.underlying29 hi hz0 hz1 hz2 rfl (by decide) v es.length (fl es) hs (World.ownsRow.alloc hown _) ⟨w.heap.size, 0, none⟩ 1 1 [.int .i64 p, .int .i64 q] hx rfl (place_news w p q) (by simp [Value.oneCell']) (by rw [maxLen_is]; omega) (by omega) (by simp; omega) ?_
  intro v' w' hown' hgr _ hat
  refine h v' w' ?_ ((World.grownBy_alloc w _ _).trans hgr) ?_
  · unfold OP
    rw [fl_append, List.length_append]
    exact hown'
  · rcases hat with h | h
    · exact .inl h
    · exact .inr ⟨_, h, by simp⟩

theorem OP_lit0 (w : World) {B g : Nat} (hg : w.heap.size = g) (hB : B ≤ g) : OP (w.alloc (.cells #[] 36)) B (.slice (some ⟨g, 0, none⟩) 0 0) [] := by
  subst hg
  exact World.ownsRow_lit (base := B) (e := 36) (size := 2) w #[] 0 hB (by simp) rfl

def GivesPl (es : List MoveD) (w : World) (e : Ending) (w' : World) : Prop := ∃ r, e = .returned r ∧ OP w' w.heap.size r es ∧ Below w.heap.size w w'
end

/- Rows of rows of places. -/
section
open Go.ChangeShapes Go.WideShapes Go.ChangeAt Go.RowKit Go.Joins

/-- Row G holds n rows of the call's own, from block B on, no two of them in one block. -/
def QRow (w : World) (B G n : Nat) (row : Nat → List MoveD) : Prop :=
  ∃ cur : Array Value, w.heap[G]? = some (.cells cur 29 (0, 0)) ∧ cur.size = n ∧ (∀ j, j < n → ∃ v, cur[j]? = some v ∧ OP w B v (row j)) ∧
    ∀ (i j : Nat) (u v : Value), i ≠ j → cur[i]? = some u → cur[j]? = some v → u.ownBlock = none ∨ u.ownBlock ≠ v.ownBlock

theorem QRow.start {w : World} (n : Nat) : QRow (w.alloc (.cells (madeCells #[.slice none 0 0] n) 29)) (w.heap.size + 1) w.heap.size n fun _ => [] := by
  have hc : ∀ j v, (madeCells #[.slice none 0 0] n)[j]? = some v → v = Value.slice none 0 0 := fun j v hv => by
    rw [← Array.getElem?_toList, toList_madeCells_one] at hv
    exact (List.mem_replicate.1 (List.mem_of_getElem? hv)).2
  refine ⟨_, heap_alloc_new w _, size_madeCells _ _, fun j hj => ?_, fun i j u v _ hu _ => ?_⟩
  · refine ⟨_, Array.getElem?_eq_getElem (by rw [size_madeCells]; exact hj), ?_⟩
    rw [hc j _ (Array.getElem?_eq_getElem (by rw [size_madeCells]; exact hj))]
    exact World.ownsRow_nil _ _ _ _
  · rw [hc i u hu]; exact .inl rfl

theorem QRow.get {w : World} {B G n : Nat} {row : Nat → List MoveD} (h : QRow w B G n row) {j : Nat} (hj : j < n) : ∃ v, w.cell? ⟨G, j, none⟩ = some v ∧ OP w B v (row j) := by
  obtain ⟨cur, h1, h2, h3, _⟩ := h
  obtain ⟨v, hv, ho⟩ := h3 j hj
  exact ⟨v, (cell_of_row w G j cur _ (0, 0) h1).trans hv, ho⟩
theorem QRow.frozen {w : World} {B G n : Nat} {row : Nat → List MoveD} (h : QRow w B G n row) (j : Nat) : w.frozen? ⟨G, j, none⟩ = false := by
  obtain ⟨cur, h1, _⟩ := h
  simp [World.frozen?, h1]
theorem QRow.lt {w : World} {B G n : Nat} {row : Nat → List MoveD} (h : QRow w B G n row) : G < w.heap.size := by
  obtain ⟨cur, h1, _⟩ := h
  exact (Array.getElem?_eq_some_iff.1 h1).1
theorem QRow.below {w w' : World} {B G n : Nat} {row : Nat → List MoveD} (h : QRow w B G n row) (hb : Below w.heap.size w w') : QRow w' B G n row := by
  have hG := h.lt
  obtain ⟨cur, h1, h2, h3, h4⟩ := h
  refine ⟨cur, (hb.block _ hG).trans h1, h2, fun j hj => ?_, h4⟩
  obtain ⟨v, hv, ho⟩ := h3 j hj
  exact ⟨v, hv, ho.below hb fun k hk => (ho.lt k hk).2⟩
theorem QRow.congr {w : World} {B G n : Nat} {row row' : Nat → List MoveD} (h : QRow w B G n row) (he : ∀ j, j < n → row' j = row j) : QRow w B G n row' := by
  obtain ⟨cur, h1, h2, h3, h4⟩ := h
  exact ⟨cur, h1, h2, fun j hj => by rw [he j hj]; exact h3 j hj, h4⟩

/-- One row has got one more, and lies perhaps elsewhere. -/
theorem QRow.append {w w' : World} {B G n j : Nat} {row : Nat → List MoveD} {v v' : Value} {ys : List MoveD} (h : QRow w B G n row) (hj : j < n) (hB : B = G + 1) (hc : w.cell? ⟨G, j, none⟩ = some v) (ho : OP w' B v' ys)
    (hg : w.grownBy w' v.ownBlock) (hat : v'.ownBlock = v.ownBlock ∨ ∃ k, v'.ownBlock = some k ∧ w.heap.size ≤ k) : QRow (w'.setCell ⟨G, j, none⟩ v') B G n fun i => if i = j then ys else row i := by
  have hG := h.lt
  obtain ⟨cur, h1, h2, h3, h4⟩ := h
  obtain ⟨v0, hv0, ho0⟩ := h3 j hj
  have hvj : cur[j]? = some v := (cell_of_row w G j cur _ (0, 0) h1).symm.trans hc
  rw [hvj] at hv0
  injection hv0 with hv0
  subst hv0
  have hne : some G ≠ v.ownBlock := fun e => by have := (ho0.lt G e.symm).1; omega
  have h1' : w'.heap[G]? = some (.cells cur 29 (0, 0)) := (hg.block G hG hne).trans h1
  have hset := heap_setCell_same w' G j cur _ v' h1'
  have hfar : ∀ {u : Value} {xs : List MoveD}, OP w' B u xs → OP (w'.setCell ⟨G, j, none⟩ v') B u xs := fun {u xs} hu => by
    have hgr : w'.grownBy (w'.setCell ⟨G, j, none⟩ v') (some G) := set_grown w' G j v'
    refine hu.grown hgr ?_
    rcases hob : u.ownBlock with _ | k
    · exact .inl rfl
    · refine .inr fun e => ?_
      injection e with e
      have := (hu.lt k hob).1
      omega
  refine ⟨cur.setIfInBounds j v', hset, by simpa using h2, fun i hi => ?_, fun i i' u u' hii hu hu' => ?_⟩
  · by_cases e : i = j
    · subst e
      rw [Array.getElem?_setIfInBounds, if_pos rfl, if_pos (by omega)]
      simp only [if_true]
      exact ⟨v', rfl, hfar ho⟩
    · rw [Array.getElem?_setIfInBounds, if_neg (by omega)]
      simp only [if_neg e]
      obtain ⟨x, hx, hox⟩ := h3 i hi
      exact ⟨x, hx, hfar (hox.grown hg (h4 i j x v e hx hvj))⟩
  · rw [Array.getElem?_setIfInBounds] at hu hu'
    by_cases e : j = i
    · subst e
      rw [if_pos rfl, if_pos (by omega)] at hu
      rw [if_neg hii] at hu'
      injection hu with hu
      subst hu
      rcases hat with h | ⟨k, h, hk⟩
      · rw [h]; exact h4 j i' v u' hii hvj hu'
      · rw [h]
        refine .inr fun e => ?_
        obtain ⟨x, hx, hox⟩ := h3 i' (by have := (Array.getElem?_eq_some_iff.1 hu').1; omega)
        rw [hu'] at hx
        injection hx with hx
        subst hx
        have := (hox.lt k e.symm).2
        omega
    · rw [if_neg e] at hu
      by_cases e' : j = i'
      · subst e'
        rw [if_pos rfl, if_pos (by omega)] at hu'
        injection hu' with hu'
        subst hu'
        rcases hat with h | ⟨k, h, hk⟩
        · rw [h]; exact h4 i j u v hii hu hvj
        · rw [h]
          rcases hob : u.ownBlock with _ | k'
          · exact .inl rfl
          · refine .inr fun e => ?_
            obtain ⟨x, hx, hox⟩ := h3 i (by have := (Array.getElem?_eq_some_iff.1 hu).1; omega)
            rw [hu] at hx
            injection hx with hx
            subst hx
            have := (hox.lt k' hob).2
            injection e with e
            omega
      · rw [if_neg e'] at hu'
        exact h4 i i' u u' hii hu hu'

/-- The blocks of the rows of G. -/
def Owns (w : World) (G : Nat) (k : Nat) : Prop := k = G ∨ ∃ (j : Nat) (v : Value), w.cell? ⟨G, j, none⟩ = some v ∧ v.ownBlock = some k

theorem QRow.owns {w : World} {B G n : Nat} {row : Nat → List MoveD} (h : QRow w B G n row) {k : Nat} (hk : Owns w G k) : k = G ∨ (B ≤ k ∧ k < w.heap.size) := by
  rcases hk with rfl | ⟨j, v, hv, hk⟩
  · exact .inl rfl
  · have hj : j < n := by
      obtain ⟨cur, h1, h2, _⟩ := h
      rw [cell_of_row w G j cur _ (0, 0) h1] at hv
      have := (Array.getElem?_eq_some_iff.1 hv).1
      omega
    obtain ⟨u, hu, ho⟩ := h.get hj
    rw [hv] at hu
    injection hu with hu
    subst hu
    exact .inr (ho.lt k hk)

theorem Owns.below {w w' : World} {G k B : Nat} (h : Owns w' G k) (hb : Below B w w') (hG : G < B) : Owns w G k := by
  rcases h with rfl | ⟨j, v, hv, hk⟩
  · exact .inl rfl
  · exact .inr ⟨j, v, (hb.cell (p := ⟨G, j, none⟩) hG).symm.trans hv, hk⟩

theorem Owns.fw {w w' : World} {G k : Nat} {P : Nat → Prop} (h : Owns w' G k) (hf : Fw P w w') (hG : G < w.heap.size) (hn : ¬ P G) : Owns w G k := by
  rcases h with rfl | ⟨j, v, hv, hk⟩
  · exact .inl rfl
  · exact .inr ⟨j, v, (World.cell?_of_block (a := ⟨G, j, none⟩) (hf.block G hG hn)).symm.trans hv, hk⟩

theorem Owns.append {w w' : World} {G j k : Nat} {v v' : Value} (hG : G < w.heap.size) (hne : some G ≠ v.ownBlock) (hc : w.cell? ⟨G, j, none⟩ = some v) (hg : w.grownBy w' v.ownBlock)
    (hat : v'.ownBlock = v.ownBlock ∨ ∃ k, v'.ownBlock = some k ∧ w.heap.size ≤ k) (h : Owns (w'.setCell ⟨G, j, none⟩ v') G k) : Owns w G k ∨ w.heap.size ≤ k := by
  have hcw : ∀ i : Nat, w'.cell? ⟨G, i, none⟩ = w.cell? ⟨G, i, none⟩ := fun i => World.cell?_of_block (a := ⟨G, i, none⟩) (hg.block G hG hne)
  rcases h with rfl | ⟨i, u, hu, hk⟩
  · exact .inl (.inl rfl)
  by_cases e : i = j
  · subst e
    rw [World.cell?_setCell_same w' ⟨G, i, none⟩ v' ((hcw i).trans hc)] at hu
    injection hu with hu
    subst hu
    rcases hat with h' | ⟨k', h', hk'⟩
    · exact .inl (.inr ⟨i, v, hc, h'.symm.trans hk⟩)
    · rw [h'] at hk
      injection hk with hk
      exact .inr (by omega)
  · rw [World.cell?_setCell_other _ _ _ _ (by intro e'; injection e' with _ e'; omega), hcw i] at hu
    exact .inl (.inr ⟨i, u, hu, hk⟩)

/-- What a call does that adds to one of the rows: the other old blocks stay, and the rows lie where they lay or in new blocks. -/
structure Adds (w w' : World) (G : Nat) : Prop where
  fw : Fw (Owns w G) w w'
  owns : ∀ k, Owns w' G k → Owns w G k ∨ w.heap.size ≤ k

theorem Adds.refl (w : World) (G : Nat) : Adds w w G := ⟨Fw.refl _ _, fun _ h => .inl h⟩
theorem Adds.trans {w w' w'' : World} {G : Nat} (h : Adds w w' G) (k : Adds w' w'' G) : Adds w w'' G := by
  have hs := h.fw.size
  refine ⟨h.fw.trans k.fw fun i hi ho => ?_, fun i ho => ?_⟩
  · rcases h.owns i ho with h | h
    · exact h
    · omega
  · rcases k.owns i ho with h' | h'
    · exact h.owns i h'
    · exact .inr (by omega)
theorem Adds.below {w w' : World} {G : Nat} (h : Below w.heap.size w w') (hG : G < w.heap.size) : Adds w w' G := ⟨Fw.below h, fun _ ho => .inl (ho.below h hG)⟩
theorem Adds.append {w w' : World} {B G n j : Nat} {row : Nat → List MoveD} {v v' : Value} (h : QRow w B G n row) (hB : B = G + 1) (hj : j < n) (hc : w.cell? ⟨G, j, none⟩ = some v) (hg : w.grownBy w' v.ownBlock)
    (hat : v'.ownBlock = v.ownBlock ∨ ∃ k, v'.ownBlock = some k ∧ w.heap.size ≤ k) : Adds w (w'.setCell ⟨G, j, none⟩ v') G := by
  have hG := h.lt
  have hne : some G ≠ v.ownBlock := fun e => by
    obtain ⟨u, hu, ho⟩ := h.get hj
    rw [hc] at hu
    injection hu with hu
    subst hu
    have := (ho.lt G e.symm).1
    omega
  refine ⟨?_, fun k hk => Owns.append hG hne hc hg hat hk⟩
  refine (Fw.grown (P := Owns w G) hg fun g hgr _ => .inr ⟨j, v, hc, hgr⟩).trans (Fw.set (P := Owns w G) w' (.inl rfl) j v') fun i _ h => h

/-- All below the rows stays. -/
theorem Adds.toBelow {w w' : World} {B G n : Nat} {row : Nat → List MoveD} (h : Adds w w' G) (hr : QRow w B G n row) (hB : B = G + 1) : Below G w w' :=
  h.fw.toBelow (Nat.le_of_lt hr.lt) fun k hk ho => by
    rcases hr.owns ho with rfl | h <;> omega
/-- What lies in no row stays. -/
theorem Adds.kept {w w' : World} {G : Nat} (h : Adds w w' G) {Z : Zn} (hZ : ∀ b, Z.D b → b < w.heap.size ∧ ¬ Owns w G b) : Kept Z Z w w' :=
  ⟨fun _ h => h, fun h => h, fun b hb => h.fw.block b (hZ b hb).1 (hZ b hb).2⟩
end

/- Preds and targets: pure facts. -/
section
open Go.ChangeShapes Go.WideShapes Go.ChangeAt Go.RowKit Go.Joins

theorem targets_of {f : FunD} (h : FunP f) : TargetsOk f.blocks := fun k x hx => by
  have he := (h.1.2.2.2.2 k x hx).1
  refine ⟨he.1, fun t ht => ?_⟩
  have hr := endOk_range he.1
  have h1 := he.1
  have h2 := he.2.2
  unfold toL at ht
  rcases hr with e | e | e
  · rw [e] at ht; simp at ht
  · rw [e] at ht h1
    simp at ht
    subst ht
    simp [endOkB, isBelowB] at h1
    omega
  · rw [e] at ht h1
    simp at ht
    simp [endOkB, isBelowB] at h1
    omega


theorem mem_predsF {f : FunD} {j : Int} {b : Nat} {x : BlockD} (hx : f.blocks[b]? = some x) (hj : j ∈ toL x.fin.k x.fin.t x.fin.l) : (b : Int) ∈ predsF f j := by
  unfold predsF predsK
  rw [List.mem_map]
  exact ⟨b, List.mem_filter.2 ⟨List.mem_range.2 (List.getElem?_eq_some_iff.1 hx).1, by unfold hasT; rw [hx]; exact hasB_iff.2 hj⟩, rfl⟩
theorem of_mem_predsF {f : FunD} {j y : Int} (h : y ∈ predsF f j) : ∃ (m : Nat) (x : BlockD), y = m ∧ f.blocks[m]? = some x ∧ j ∈ toL x.fin.k x.fin.t x.fin.l := by
  unfold predsF predsK at h
  rw [List.mem_map] at h
  obtain ⟨m, hm, rfl⟩ := h
  rw [List.mem_filter] at hm
  obtain ⟨h1, h2⟩ := hm
  have hlt := List.mem_range.1 h1
  have hx : f.blocks[m]? = some f.blocks[m] := List.getElem?_eq_getElem hlt
  unfold hasT at h2
  rw [hx] at h2
  exact ⟨m, _, rfl, hx, hasB_iff.1 h2⟩
theorem predsF_pair (f : FunD) (j : Int) : (predsF f j).Pairwise (· < ·) := by
  unfold predsF predsK
  rw [List.pairwise_map]
  exact (List.pairwise_lt_range.filter _).imp fun h => by omega
theorem predsF_lt {f : FunD} {j y z : Int} {i : Nat} (h1 : (predsF f j)[i]? = some y) (h2 : (predsF f j)[i + 1]? = some z) : y < z := by
  obtain ⟨hi, rfl⟩ := List.getElem?_eq_some_iff.1 h1
  obtain ⟨hk, rfl⟩ := List.getElem?_eq_some_iff.1 h2
  exact List.pairwise_iff_getElem.1 (predsF_pair f j) i (i + 1) hi hk (by omega)
theorem preds_of {f : FunD} {j : Int} {xs : List Int} (hp : FunP f) (hj : 0 ≤ j ∧ j < f.blocks.length) (h : PredsRes f j xs) : xs = predsF f j := by
  rcases h with ⟨_, _, h⟩ | ⟨h, _⟩
  · exact h
  · exact absurd ⟨hp, by simp [isBelowB]; omega⟩ h
theorem succs_of {f : FunD} {b : Nat} {x : BlockD} (hp : FunP f) (hx : f.blocks[b]? = some x) : succsL x.fin.k x.fin.a x.fin.t x.fin.l = toL x.fin.k x.fin.t x.fin.l ∧ ∀ y ∈ toL x.fin.k x.fin.t x.fin.l, 0 ≤ y ∧ y < (f.blocks.length : Int) := by
  have h := targets_of hp b x hx
  exact ⟨by unfold succsL; rw [if_pos h.1], h.2⟩
end

end Go.Proofs.YtnjmlhokkhkaaaaGreatDoor
