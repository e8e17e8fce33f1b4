/- szFun of the laws: what is left of a number when all that a function holds is taken off. -/
import Derived.Test.YtbghcoihndlihaaRow
import Derived.Test.YtbghcoihndlihaaTo3
namespace Go.Proofs.Ytbghcoihndlihaa
open Go.ChangeShapes Go.WideShapes Go.ChangeAt Go.RowKit Go.Joins

def leftI (left : Int) (n : Nat) : Int := if (n : Int) ≤ left then left - n else -1
theorem leftI_yes {left : Int} {n : Nat} (h : (n : Int) ≤ left) : leftI left n = left - n := if_pos h
theorem leftI_no {left : Int} {n : Nat} (h : ¬ (n : Int) ≤ left) : leftI left n = -1 := if_neg h
theorem leftI_le {left : Int} {n : Nat} (h : 0 ≤ left) : leftI left n ≤ left := by
  unfold leftI; split <;> omega
theorem leftI_add {left : Int} {a b : Nat} (h : 0 ≤ leftI left a) : leftI (leftI left a) b = leftI left (a + b) := by
  unfold leftI at h ⊢
  split at h
  · split <;> split <;> omega
  · omega
theorem leftI_more {left : Int} {a b : Nat} (h : leftI left a < 0) (hab : a ≤ b) : leftI left b = -1 := by
  unfold leftI at h ⊢
  split at h
  · omega
  · rw [if_neg (by omega)]
def pre {α : Type} (f : α → Nat) (xs : List α) (k : Nat) : Nat := ((xs.take k).map f).sum
theorem pre_zero {α : Type} (f : α → Nat) (xs : List α) : pre f xs 0 = 0 := rfl
theorem pre_succ {α : Type} (f : α → Nat) {xs : List α} {k : Nat} {x : α} (h : xs[k]? = some x) : pre f xs (k + 1) = pre f xs k + f x := by
  unfold pre
  rw [List.take_add_one, h]
  simp
theorem pre_all {α : Type} (f : α → Nat) (xs : List α) : pre f xs xs.length = (xs.map f).sum := by
  unfold pre; rw [List.take_length]
theorem sum_append_le (xs ys : List Nat) : xs.sum ≤ (xs ++ ys).sum := by simp
theorem pre_le {α : Type} (f : α → Nat) (xs : List α) (k : Nat) : pre f xs k ≤ (xs.map f).sum := by
  unfold pre
  conv => rhs; rw [← List.take_append_drop k xs, List.map_append]
  exact sum_append_le _ _
theorem mem_le_sum {α : Type} (f : α → Nat) : ∀ (xs : List α), ∀ x ∈ xs, f x ≤ (xs.map f).sum
  | [], _, h => by simp at h
  | y :: ys, x, h => by
    rw [List.map_cons, List.sum_cons]
    rcases List.mem_cons.1 h with rfl | h
    · omega
    · have := mem_le_sum f ys x h; omega

def szPhiN (p : PhiD) : Nat := p.args.length
def szPhisN (xs : List PhiD) : Nat := xs.length + (xs.map szPhiN).sum
def szBlockN (x : BlockD) : Nat := szPhisN x.phis + x.head.length + x.body.length + x.tail.length
def szFunN (f : FunD) : Nat := f.blocks.length + (f.blocks.map szBlockN).sum

theorem small_of_sz {f : FunD} (h : szFunN f ≤ 1048576) : smallFun f := by
  unfold szFunN at h
  refine ⟨by omega, fun x hx => ?_⟩
  have h1 := mem_le_sum szBlockN f.blocks x hx
  have e1 : szBlockN x = szPhisN x.phis + x.head.length + x.body.length + x.tail.length := rfl
  have e2 : szPhisN x.phis = x.phis.length + (x.phis.map szPhiN).sum := rfl
  refine ⟨by omega, fun p hp => ?_, by omega, by omega, by omega⟩
  have h2 := mem_le_sum szPhiN x.phis p hp
  have e3 : szPhiN p = p.args.length := rfl
  unfold smallPhi
  omega

set_option maxHeartbeats 400000 in
theorem szInt64S_any (A : Option Addr) (n c : Nat) (left : Int) (w : World) (hn : n ≤ 9223372036854775807) (h0 : 0 ≤ left) (h1 : left ≤ 1048576) :
    Calls Try.prog 90 #[.slice A n c, .int .i64 left] w fun e w' => e = .returned (.int .i64 (leftI left n)) ∧ w = w' := by
  by_cases h : (n : Int) ≤ left
  · have HE := Lib.hid (leftI_yes h)
    go_enter Try.func90, Try.ntmps90
    go_wp2
    go_ret
    exact ⟨by rw [HE.out]; rfl, rfl⟩
  · have HE := Lib.hid (leftI_no h)
    have h' : left - (n : Int) < 0 := by omega
    clear h
    go_enter Try.func90, Try.ntmps90
    go_wp2
    go_ret
    exact ⟨by rw [HE.out]; rfl, rfl⟩

set_option maxHeartbeats 400000 in
theorem szMoveS_any (A : Option Addr) (n c : Nat) (left : Int) (w : World) (hn : n ≤ 9223372036854775807) (h0 : 0 ≤ left) (h1 : left ≤ 1048576) :
    Calls Try.prog 52 #[.slice A n c, .int .i64 left] w fun e w' => e = .returned (.int .i64 (leftI left n)) ∧ w = w' := by
  by_cases h : (n : Int) ≤ left
  · have HE := Lib.hid (leftI_yes h)
    go_enter Try.func52, Try.ntmps52
    go_wp2
    go_ret
    exact ⟨by rw [HE.out]; rfl, rfl⟩
  · have HE := Lib.hid (leftI_no h)
    have h' : left - (n : Int) < 0 := by omega
    clear h
    go_enter Try.func52, Try.ntmps52
    go_wp2
    go_ret
    exact ⟨by rw [HE.out]; rfl, rfl⟩

set_option maxHeartbeats 400000 in
theorem szInsS_any (A : Option Addr) (n c : Nat) (left : Int) (w : World) (hn : n ≤ 9223372036854775807) (h0 : 0 ≤ left) (h1 : left ≤ 1048576) :
    Calls Try.prog 53 #[.slice A n c, .int .i64 left] w fun e w' => e = .returned (.int .i64 (leftI left n)) ∧ w = w' := by
  by_cases h : (n : Int) ≤ left
  · have HE := Lib.hid (leftI_yes h)
    go_enter Try.func53, Try.ntmps53
    go_wp2
    go_ret
    exact ⟨by rw [HE.out]; rfl, rfl⟩
  · have HE := Lib.hid (leftI_no h)
    have h' : left - (n : Int) < 0 := by omega
    clear h
    go_enter Try.func53, Try.ntmps53
    go_wp2
    go_ret
    exact ⟨by rw [HE.out]; rfl, rfl⟩

/-- The call answers this number, and old memory stays. -/
def GivesN (n : Int) (w : World) (e : Ending) (w' : World) : Prop := e = .returned (.int .i64 n) ∧ Below w.heap.size w w'

set_option maxHeartbeats 400000 in
theorem szPhi_any (a : Int) (A : Option Addr) (n c : Nat) (left : Int) (w : World) (hn : n ≤ 9223372036854775807) (h0 : 0 ≤ left) (h1 : left ≤ 1048576) :
    Calls Try.prog 76 #[.agg #[.int .i64 a, .slice A n c], .int .i64 left] w (GivesN (leftI left n) w) := by
  by_cases h : (n : Int) ≤ left
  · have HE := Lib.hid (leftI_yes h)
    have h' : 0 ≤ leftI left n := by rw [HE.out]; omega
    go_enter Try.func76, Try.ntmps76
    go_wp2_with (go_at_call 90; refine (szInt64S_any _ _ _ _ _ hn h0 h1).mono ?_; rintro e w' ⟨rfl, rfl⟩)
    go_ret
    exact ⟨rfl, (Below.refl _ _).alloc (Nat.le_refl _) _⟩
  · have HE := Lib.hid (leftI_no h)
    have h' : leftI left n < 0 := by rw [HE.out]; omega
    clear h
    go_enter Try.func76, Try.ntmps76
    go_wp2_with (go_at_call 90; refine (szInt64S_any _ _ _ _ _ hn h0 h1).mono ?_; rintro e w' ⟨rfl, rfl⟩)
    go_ret
    exact ⟨by rw [HE.out]; rfl, (Below.refl _ _).alloc (Nat.le_refl _) _⟩

set_option maxHeartbeats 1000000 in
theorem szPhiS_any (v : Value) (xs : List PhiD) (left : Int) (w : World) (Z : Zn) (hv : Row w Z 2 (EPhi w Z) v xs) (hD : ∀ b, Z.D b → b < w.heap.size) (h0 : 0 ≤ left) (h1 : left ≤ 1048576) :
    Calls Try.prog 51 #[v, .int .i64 left] w (GivesN (leftI left (xs.length + (xs.map szPhiN).sum)) w) := by
  obtain ⟨hle, A, c, rfl, hx⟩ := hv
  by_cases hl0 : (xs.length : Int) ≤ left
  · have hxe : leftI left (xs.length + pre szPhiN xs 0) = left - xs.length := by rw [pre_zero, Nat.add_zero, leftI_yes hl0]
    have HXE := Lib.hid hxe
    clear hxe
    go_enter Try.func51, Try.ntmps51
    go_wp2
    go_loopw [1, 5] (fun q i wr => ∃ k : Nat, k ≤ xs.length ∧ i = .int .i64 k ∧ q = .int .i64 (leftI left (xs.length + pre szPhiN xs k)) ∧ 0 ≤ leftI left (xs.length + pre szPhiN xs k) ∧ Hid (Below w.heap.size w wr)) (fun _ i _ => xs.length - (intOf i).toNat)
    case atStart => exact ⟨0, Nat.zero_le _, rfl, by rw [HXE.out], by rw [HXE.out]; omega, Below.refl _ _⟩
    case round =>
      obtain ⟨k, hk, rfl, rfl, hpos, HB⟩ := hrel
      have hub := Int.le_trans (leftI_le (n := xs.length + pre szPhiN xs k) h0) h1
      by_cases hlt : k < xs.length
      · have hxk : xs[k]? = some xs[k] := List.getElem?_eq_getElem hlt
        generalize xs[k] = x at hxk
        obtain ⟨b, off, rfl, hDb, hrow⟩ := hx (by rintro rfl; simp at hlt)
        obtain ⟨cs, hE, hcs⟩ := hrow k x hxk
        have hbl := hD b hDb
        obtain ⟨q, rfl, hq⟩ := hE
        obtain ⟨hle1, A1, c1, rfl, _⟩ := hq
        have c0 : wr.cell? ⟨b, off + k * 2, none⟩ = some (.int .i64 x.v) := (HB.out.cell (p := ⟨b, _, none⟩) hbl).trans (hcs 0 _ rfl).1
        have c1 : wr.cell? ⟨b, off + k * 2 + 1, none⟩ = some (.slice A1 x.args.length c1) := (HB.out.cell (p := ⟨b, _, none⟩) hbl).trans (hcs 1 _ rfl).1
        have hnext : leftI (leftI left (xs.length + pre szPhiN xs k)) (szPhiN x) = leftI left (xs.length + pre szPhiN xs (k + 1)) := by rw [leftI_add hpos, pre_succ szPhiN hxk, Nat.add_assoc]
        have HN := Lib.hid hnext
        have hall := pre_le szPhiN xs (k + 1)
        clear hcs hrow hx hxk hnext
        generalize hq : leftI left (xs.length + pre szPhiN xs k) = q at *
        clear hq
        by_cases hneg : 0 ≤ leftI left (xs.length + pre szPhiN xs (k + 1))
        · go_wp2_with fail
          refine (szPhi_any _ _ _ _ _ _ hle1 hpos hub).mono ?_
          rintro e w5 ⟨he, hb5⟩
          obtain rfl : e = .returned (.int .i64 (leftI q (szPhiN x))) := he
          rw [HN.out]
          have HB5 := Lib.hid (HB.out.trans (hb5.mono HB.out.size))
          clear hb5
          go_wp2_with fail
          go_roundw
          case rel => exact ⟨k + 1, by omega, by go_num, rfl, hneg, HB5.out⟩
          case measure => simp [intOf]; omega
        · have hneg' : leftI left (xs.length + pre szPhiN xs (k + 1)) < 0 := by omega
          have HE := Lib.hid (leftI_more (b := xs.length + (xs.map szPhiN).sum) hneg' (by omega))
          clear hneg
          go_wp2_with fail
          refine (szPhi_any _ _ _ _ _ _ hle1 hpos hub).mono ?_
          rintro e w5 ⟨he, hb5⟩
          obtain rfl : e = .returned (.int .i64 (leftI q (szPhiN x))) := he
          rw [HN.out]
          have HB5 := Lib.hid (HB.out.trans (hb5.mono HB.out.size))
          clear hb5
          go_wp2_with fail
          go_ret
          exact ⟨by rw [HE.out]; rfl, HB5.out⟩
      · obtain rfl : k = xs.length := by omega
        have HP := Lib.hid (pre_all szPhiN xs)
        go_wp2
        go_ret
        exact ⟨by rw [HP.out]; rfl, HB.out⟩
  · have HE := Lib.hid (leftI_more (left := left) (a := xs.length) (b := xs.length + (xs.map szPhiN).sum) (by rw [leftI_no hl0]; omega) (by omega))
    have h' : left - (xs.length : Int) < 0 := by omega
    clear hl0
    go_enter Try.func51, Try.ntmps51
    go_wp2
    go_ret
    exact ⟨by rw [HE.out]; rfl, Below.refl _ _⟩

theorem szBlock_end {left : Int} {a b : Nat} (h : leftI left a < 0) (hab : a ≤ b) : Ending.returned (.int .i64 (-1)) = .returned (.int .i64 (leftI left b)) := by rw [leftI_more h hab]

set_option maxHeartbeats 1000000 in
theorem szBlock_any (x : BlockD) (cs : List Value) (left : Int) (w : World) (Z : Zn) (hv : EBlock w Z x cs) (hD : ∀ b, Z.D b → b < w.heap.size) (h0 : 0 ≤ left) (h1 : left ≤ 1048576) :
    Calls Try.prog 28 #[.agg cs.toArray, .int .i64 left] w (GivesN (leftI left (szBlockN x)) w) := by
  obtain ⟨v0, v1, v2, v3, rfl, hv0, ⟨hl1, A1, c1, rfl, _⟩, ⟨hl2, A2, c2, rfl, _⟩, ⟨hl3, A3, c3, rfl, _⟩⟩ := hv
  have HV0 := Lib.hid hv0
  obtain ⟨_, A0, c0, rfl, _⟩ := hv0
  have HS : Hid (szBlockN x = szPhisN x.phis + x.head.length + x.body.length + x.tail.length) := rfl
  have HS0 : Hid (szPhisN x.phis = x.phis.length + (x.phis.map szPhiN).sum) := rfl
  go_enter Try.func28, Try.ntmps28
  go_wp2_with fail
  refine (szPhiS_any _ _ _ _ Z (HV0.out.keep (Kept.below ((Below.refl _ _).alloc (Nat.le_refl _) _) hD) fun _ _ h => h.keep (Kept.below ((Below.refl _ _).alloc (Nat.le_refl _) _) hD)) (fun b hb => by have := hD b hb; simp; omega) h0 h1).mono ?_
  rintro e w1 ⟨he, hb1⟩
  rw [← HS0.out] at he
  subst he
  have HB1 : Hid (Below w.heap.size w w1) := ((Below.refl _ _).alloc (Nat.le_refl _) _).trans (hb1.mono (by simp))
  obtain ⟨hc1, hf1⟩ := bcellB (hb1.mono (B' := w.heap.size + 1) (by simp))
  have hz1 : w.heap.size + 1 ≤ w1.heap.size := by have := hb1.size; simp at this; omega
  clear hb1 hf1
  by_cases g1 : 0 ≤ leftI left (szPhisN x.phis)
  case neg =>
    have g1' : leftI left (szPhisN x.phis) < 0 := by omega
    clear g1
    go_wp2_with fail
    go_ret
    exact ⟨szBlock_end g1' (by rw [HS.out]; omega), HB1.out⟩
  have u1 := Int.le_trans (leftI_le (n := szPhisN x.phis) h0) h1
  go_wp2_with fail
  refine (szMoveS_any _ _ _ _ _ hl1 g1 u1).mono ?_
  rintro e w' ⟨he, rfl⟩
  rw [leftI_add g1] at he
  subst he
  by_cases g2 : 0 ≤ leftI left (szPhisN x.phis + x.head.length)
  case neg =>
    have g' : leftI left (szPhisN x.phis + x.head.length) < 0 := by omega
    clear g2 g1 u1
    go_wp2_with fail
    go_ret
    exact ⟨szBlock_end g' (by rw [HS.out]; omega), HB1.out⟩
  have u2 := Int.le_trans (leftI_le (n := szPhisN x.phis + x.head.length) h0) h1
  clear g1 u1
  go_wp2_with fail
  refine (szInsS_any _ _ _ _ _ hl2 g2 u2).mono ?_
  rintro e w' ⟨he, rfl⟩
  rw [leftI_add g2] at he
  subst he
  by_cases g3 : 0 ≤ leftI left (szPhisN x.phis + x.head.length + x.body.length)
  case neg =>
    have g' : leftI left (szPhisN x.phis + x.head.length + x.body.length) < 0 := by omega
    clear g3 g2 u2
    go_wp2_with fail
    go_ret
    exact ⟨szBlock_end g' (by rw [HS.out]; omega), HB1.out⟩
  have u3 := Int.le_trans (leftI_le (n := szPhisN x.phis + x.head.length + x.body.length) h0) h1
  clear g2 u2
  go_wp2_with fail
  refine (szMoveS_any _ _ _ _ _ hl3 g3 u3).mono ?_
  rintro e w' ⟨he, rfl⟩
  rw [leftI_add g3] at he
  subst he
  by_cases g4 : 0 ≤ leftI left (szPhisN x.phis + x.head.length + x.body.length + x.tail.length)
  case neg =>
    have g' : leftI left (szPhisN x.phis + x.head.length + x.body.length + x.tail.length) < 0 := by omega
    clear g4 g3 u3
    go_wp2_with fail
    go_ret
    exact ⟨szBlock_end g' (by rw [HS.out]; omega), HB1.out⟩
  have u4 := Int.le_trans (leftI_le (n := szPhisN x.phis + x.head.length + x.body.length + x.tail.length) h0) h1
  clear g3 u3
  go_wp2_with fail
  go_ret
  exact ⟨by rw [HS.out]; rfl, HB1.out⟩

set_option maxHeartbeats 1000000 in
theorem szBlockS_any (v : Value) (xs : List BlockD) (left : Int) (w : World) (Z : Zn) (hv : Row w Z 8 (EBlock w Z) v xs) (hD : ∀ b, Z.D b → b < w.heap.size) (h0 : 0 ≤ left) (h1 : left ≤ 1048576) :
    Calls Try.prog 16 #[v, .int .i64 left] w (GivesN (leftI left (xs.length + (xs.map szBlockN).sum)) w) := by
  obtain ⟨hle, A, c, rfl, hx⟩ := hv
  by_cases hl0 : (xs.length : Int) ≤ left
  · have hxe : leftI left (xs.length + pre szBlockN xs 0) = left - xs.length := by rw [pre_zero, Nat.add_zero, leftI_yes hl0]
    have HXE := Lib.hid hxe
    clear hxe
    go_enter Try.func16, Try.ntmps16
    go_wp2
    go_loopw [1, 5] (fun q i wr => ∃ k : Nat, k ≤ xs.length ∧ i = .int .i64 k ∧ q = .int .i64 (leftI left (xs.length + pre szBlockN xs k)) ∧ 0 ≤ leftI left (xs.length + pre szBlockN xs k) ∧ Hid (Below w.heap.size w wr)) (fun _ i _ => xs.length - (intOf i).toNat)
    case atStart => exact ⟨0, Nat.zero_le _, rfl, by rw [HXE.out], by rw [HXE.out]; omega, Below.refl _ _⟩
    case round =>
      obtain ⟨k, hk, rfl, rfl, hpos, HB⟩ := hrel
      have hub := Int.le_trans (leftI_le (n := xs.length + pre szBlockN xs k) h0) h1
      by_cases hlt : k < xs.length
      · have hxk : xs[k]? = some xs[k] := List.getElem?_eq_getElem hlt
        generalize xs[k] = x at hxk
        obtain ⟨b, off, rfl, hDb, hrow⟩ := hx (by rintro rfl; simp at hlt)
        obtain ⟨cs, hE, hcs⟩ := hrow k x hxk
        have hbl := hD b hDb
        have HQ := Lib.hid (hE.keep (Kept.below HB.out hD))
        obtain ⟨_, _, _, _, rfl, ⟨_, A0, c0, rfl, _⟩, ⟨_, A1, c1, rfl, _⟩, ⟨_, A2, c2, rfl, _⟩, ⟨_, A3, c3, rfl, _⟩⟩ := hE
        have c0 : wr.cell? ⟨b, off + k * 8, none⟩ = some (.slice A0 x.phis.length c0) := (HB.out.cell (p := ⟨b, _, none⟩) hbl).trans (hcs 0 _ rfl).1
        have c1 : wr.cell? ⟨b, off + k * 8 + 1, none⟩ = some (.slice A1 x.head.length c1) := (HB.out.cell (p := ⟨b, _, none⟩) hbl).trans (hcs 1 _ rfl).1
        have c2 : wr.cell? ⟨b, off + k * 8 + 2, none⟩ = some (.slice A2 x.body.length c2) := (HB.out.cell (p := ⟨b, _, none⟩) hbl).trans (hcs 2 _ rfl).1
        have c3 : wr.cell? ⟨b, off + k * 8 + 3, none⟩ = some (.slice A3 x.tail.length c3) := (HB.out.cell (p := ⟨b, _, none⟩) hbl).trans (hcs 3 _ rfl).1
        have c4 : wr.cell? ⟨b, off + k * 8 + 4, none⟩ = some (.int .i64 x.fin.k) := (HB.out.cell (p := ⟨b, _, none⟩) hbl).trans (hcs 4 _ rfl).1
        have c5 : wr.cell? ⟨b, off + k * 8 + 5, none⟩ = some (.int .i64 x.fin.a) := (HB.out.cell (p := ⟨b, _, none⟩) hbl).trans (hcs 5 _ rfl).1
        have c6 : wr.cell? ⟨b, off + k * 8 + 6, none⟩ = some (.int .i64 x.fin.t) := (HB.out.cell (p := ⟨b, _, none⟩) hbl).trans (hcs 6 _ rfl).1
        have c7 : wr.cell? ⟨b, off + k * 8 + 7, none⟩ = some (.int .i64 x.fin.l) := (HB.out.cell (p := ⟨b, _, none⟩) hbl).trans (hcs 7 _ rfl).1
        have hnext : leftI (leftI left (xs.length + pre szBlockN xs k)) (szBlockN x) = leftI left (xs.length + pre szBlockN xs (k + 1)) := by rw [leftI_add hpos, pre_succ szBlockN hxk, Nat.add_assoc]
        have HN := Lib.hid hnext
        have hall := pre_le szBlockN xs (k + 1)
        clear hcs hrow hx hxk hnext
        generalize hq : leftI left (xs.length + pre szBlockN xs k) = q at *
        clear hq
        by_cases hneg : 0 ≤ leftI left (xs.length + pre szBlockN xs (k + 1))
        · go_wp2_with fail
          refine (szBlock_any x _ _ _ Z HQ.out (fun b hb => by have h1 := hD b hb; have h2 := HB.out.size; omega) hpos hub).mono ?_
          rintro e w5 ⟨he, hb5⟩
          obtain rfl : e = .returned (.int .i64 (leftI q (szBlockN x))) := he
          rw [HN.out]
          have HB5 := Lib.hid (HB.out.trans (hb5.mono HB.out.size))
          clear hb5
          go_wp2_with fail
          go_roundw
          case rel => exact ⟨k + 1, by omega, by go_num, rfl, hneg, HB5.out⟩
          case measure => simp [intOf]; omega
        · have hneg' : leftI left (xs.length + pre szBlockN xs (k + 1)) < 0 := by omega
          have HE := Lib.hid (leftI_more (b := xs.length + (xs.map szBlockN).sum) hneg' (by omega))
          clear hneg
          go_wp2_with fail
          refine (szBlock_any x _ _ _ Z HQ.out (fun b hb => by have h1 := hD b hb; have h2 := HB.out.size; omega) hpos hub).mono ?_
          rintro e w5 ⟨he, hb5⟩
          obtain rfl : e = .returned (.int .i64 (leftI q (szBlockN x))) := he
          rw [HN.out]
          have HB5 := Lib.hid (HB.out.trans (hb5.mono HB.out.size))
          clear hb5
          go_wp2_with fail
          go_ret
          exact ⟨by rw [HE.out]; rfl, HB5.out⟩
      · obtain rfl : k = xs.length := by omega
        have HP := Lib.hid (pre_all szBlockN xs)
        go_wp2
        go_ret
        exact ⟨by rw [HP.out]; rfl, HB.out⟩
  · have HE := Lib.hid (leftI_more (left := left) (a := xs.length) (b := xs.length + (xs.map szBlockN).sum) (by rw [leftI_no hl0]; omega) (by omega))
    have h' : left - (xs.length : Int) < 0 := by omega
    clear hl0
    go_enter Try.func16, Try.ntmps16
    go_wp2
    go_ret
    exact ⟨by rw [HE.out]; rfl, Below.refl _ _⟩

set_option maxHeartbeats 400000 in
theorem szFun_any (f : FunD) (v : Value) (left : Int) (w : World) (Z : Zn) (hv : EFun w Z f v) (hD : ∀ b, Z.D b → b < w.heap.size) (h0 : 0 ≤ left) (h1 : left ≤ 1048576) :
    Calls Try.prog 5 #[v, .int .i64 left] w (GivesN (leftI left (szFunN f)) w) := by
  obtain ⟨u, rfl, hu⟩ := hv
  have HV := Lib.hid hu
  obtain ⟨_, A, c, rfl, _⟩ := hu
  have HS : Hid (szFunN f = f.blocks.length + (f.blocks.map szBlockN).sum) := rfl
  go_enter Try.func5, Try.ntmps5
  go_wp2_with fail
  refine (szBlockS_any _ _ _ _ Z (HV.out.keep (Kept.below ((Below.refl _ _).alloc (Nat.le_refl _) _) hD) fun _ _ h => h.keep (Kept.below ((Below.refl _ _).alloc (Nat.le_refl _) _) hD)) (fun b hb => by have := hD b hb; simp; omega) h0 h1).mono ?_
  rintro e w1 ⟨he, hb1⟩
  rw [← HS.out] at he
  subst he
  have HB1 : Hid (Below w.heap.size w w1) := ((Below.refl _ _).alloc (Nat.le_refl _) _).trans (hb1.mono (by simp))
  clear hb1
  by_cases g1 : 0 ≤ leftI left (szFunN f)
  · go_wp2_with fail
    go_ret
    exact ⟨rfl, HB1.out⟩
  · have g1' : leftI left (szFunN f) < 0 := by omega
    clear g1
    go_wp2_with fail
    go_ret
    exact ⟨szBlock_end g1' (Nat.le_refl _), HB1.out⟩

end Go.Proofs.Ytbghcoihndlihaa
