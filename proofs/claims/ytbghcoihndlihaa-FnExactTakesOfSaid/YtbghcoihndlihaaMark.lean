/- markFun of the laws: it writes numbers where numbers were, and nothing else. -/
import Derived.Test.YtbghcoihndlihaaMarkD
namespace Go.Proofs.Ytbghcoihndlihaa
open Go.ChangeShapes Go.WideShapes Go.ChangeAt Go.RowKit Go.Joins

/-- The call answers this number, having marked. -/
def Marks (D : Nat → Prop) (n : Int) (w : World) (e : Ending) (w' : World) : Prop := e = .returned (.int .i64 n) ∧ Marked D w w'

theorem shift_markInt64S (k0 : Int) (k : Nat) : k0 + (k * 1 : Nat) + 1 = k0 + ((k + 1) * 1 : Nat) := by omega
set_option maxHeartbeats 1000000 in
theorem markInt64S_sh (D : Nat → Prop) (v : Value) (n : Nat) (k0 : Int) (w : World) (hv : SFlat D w 1 v n) (h0 : 0 ≤ k0) (h1 : k0 + (n * 1 : Nat) ≤ 9223372036854775807) :
    Calls Try.prog 73 #[v, .int .i64 k0] w (Marks D (k0 + (n * 1 : Nat)) w) := by
  have HV := Lib.hid hv
  obtain ⟨hle, A, c, rfl, _⟩ := hv
  go_enter Try.func73, Try.ntmps73
  go_wp2
  go_loopw [1, 5] (fun q i wr => ∃ k : Nat, k ≤ n ∧ i = .int .i64 k ∧ q = .int .i64 (k0 + (k * 1 : Nat)) ∧ Hid (Marked D w wr)) (fun _ i _ => n - (intOf i).toNat)
  case atStart => exact ⟨0, Nat.zero_le _, rfl, by simp, Marked.refl _ _⟩
  case round =>
    obtain ⟨k, hk, rfl, rfl, HM⟩ := hrel
    by_cases hlt : k < n
    · obtain ⟨_, A', c', he, hx⟩ := HV.out.marked HM.out
      injection he with e1 _ e2
      subst e1 e2
      obtain ⟨b, off, rfl, hD, hcell⟩ := hx (by omega)
      obtain ⟨⟨x0, c0⟩, f0⟩ := hcell k 0 hlt (by omega)
      simp only [Nat.mul_one, Nat.add_zero] at c0 f0
      have hbd : (k + 1) * 1 ≤ n * 1 := Nat.mul_le_mul_right _ (by omega)
      clear hcell hx
      obtain ⟨q, hq⟩ : ∃ q : Int, q = k0 + (k * 1 : Nat) := ⟨_, rfl⟩
      have hq0 : 0 ≤ q := by omega
      have hq1 : q + 1 ≤ 9223372036854775807 := by omega
      rw [← hq]
      have HQ := Lib.hid hq
      have HK := Lib.hid (shift_markInt64S k0 k)
      clear hq hbd
      go_wp2
      go_roundw
      case rel =>
        refine ⟨k + 1, by omega, by go_num, ?_, ?_⟩
        · rw [← HK.out, ← HQ.out]
        · exact HM.out.trans (Marked.set hD c0 ⟨_, rfl⟩ _)
      case measure => simp [intOf]; omega
    · obtain rfl : k = n := by omega
      go_wp2
      go_ret
      exact ⟨rfl, HM.out⟩

theorem shift_markMoveS (k0 : Int) (k : Nat) : k0 + (k * 2 : Nat) + 2 = k0 + ((k + 1) * 2 : Nat) := by omega
set_option maxHeartbeats 1000000 in
theorem markMoveS_sh (D : Nat → Prop) (v : Value) (n : Nat) (k0 : Int) (w : World) (hv : SFlat D w 2 v n) (h0 : 0 ≤ k0) (h1 : k0 + (n * 2 : Nat) ≤ 9223372036854775807) :
    Calls Try.prog 41 #[v, .int .i64 k0] w (Marks D (k0 + (n * 2 : Nat)) w) := by
  have HV := Lib.hid hv
  obtain ⟨hle, A, c, rfl, _⟩ := hv
  go_enter Try.func41, Try.ntmps41
  go_wp2
  go_loopw [1, 5] (fun q i wr => ∃ k : Nat, k ≤ n ∧ i = .int .i64 k ∧ q = .int .i64 (k0 + (k * 2 : Nat)) ∧ Hid (Marked D w wr)) (fun _ i _ => n - (intOf i).toNat)
  case atStart => exact ⟨0, Nat.zero_le _, rfl, by simp, Marked.refl _ _⟩
  case round =>
    obtain ⟨k, hk, rfl, rfl, HM⟩ := hrel
    by_cases hlt : k < n
    · obtain ⟨_, A', c', he, hx⟩ := HV.out.marked HM.out
      injection he with e1 _ e2
      subst e1 e2
      obtain ⟨b, off, rfl, hD, hcell⟩ := hx (by omega)
      obtain ⟨⟨x0, c0⟩, f0⟩ := hcell k 0 hlt (by omega)
      obtain ⟨⟨x1, c1⟩, f1⟩ := hcell k 1 hlt (by omega)
      rw [Nat.add_zero] at c0 f0
      have hbd : (k + 1) * 2 ≤ n * 2 := Nat.mul_le_mul_right _ (by omega)
      clear hcell hx
      obtain ⟨q, hq⟩ : ∃ q : Int, q = k0 + (k * 2 : Nat) := ⟨_, rfl⟩
      have hq0 : 0 ≤ q := by omega
      have hq1 : q + 2 ≤ 9223372036854775807 := by omega
      rw [← hq]
      have HQ := Lib.hid hq
      have HK := Lib.hid (shift_markMoveS k0 k)
      clear hq hbd
      go_wp2
      go_roundw
      case rel =>
        refine ⟨k + 1, by omega, by go_num, ?_, ?_⟩
        · rw [← HK.out, ← HQ.out]; go_num
        · have m0 : Marked D w (wr.setCell ⟨b, off + k * 2, none⟩ (.int .i64 (q + 0))) := HM.out.trans (Marked.set hD (u := .int .i64 x0) (by exact c0) ⟨_, rfl⟩ _)
          have m1 : Marked D w ((wr.setCell ⟨b, off + k * 2, none⟩ (.int .i64 (q + 0))).setCell ⟨b, off + k * 2 + 1, none⟩ (.int .i64 (q + 1))) := m0.trans (Marked.set hD (u := .int .i64 x1) (by go_simp) ⟨_, rfl⟩ _)
          simpa [Hid, Int.add_assoc] using m1
      case measure => simp [intOf]; omega
    · obtain rfl : k = n := by omega
      go_wp2
      go_ret
      exact ⟨rfl, HM.out⟩

theorem shift_markInsS (k0 : Int) (k : Nat) : k0 + (k * 4 : Nat) + 4 = k0 + ((k + 1) * 4 : Nat) := by omega
set_option maxHeartbeats 1000000 in
theorem markInsS_sh (D : Nat → Prop) (v : Value) (n : Nat) (k0 : Int) (w : World) (hv : SFlat D w 4 v n) (h0 : 0 ≤ k0) (h1 : k0 + (n * 4 : Nat) ≤ 9223372036854775807) :
    Calls Try.prog 42 #[v, .int .i64 k0] w (Marks D (k0 + (n * 4 : Nat)) w) := by
  have HV := Lib.hid hv
  obtain ⟨hle, A, c, rfl, _⟩ := hv
  go_enter Try.func42, Try.ntmps42
  go_wp2
  go_loopw [1, 5] (fun q i wr => ∃ k : Nat, k ≤ n ∧ i = .int .i64 k ∧ q = .int .i64 (k0 + (k * 4 : Nat)) ∧ Hid (Marked D w wr)) (fun _ i _ => n - (intOf i).toNat)
  case atStart => exact ⟨0, Nat.zero_le _, rfl, by simp, Marked.refl _ _⟩
  case round =>
    obtain ⟨k, hk, rfl, rfl, HM⟩ := hrel
    by_cases hlt : k < n
    · obtain ⟨_, A', c', he, hx⟩ := HV.out.marked HM.out
      injection he with e1 _ e2
      subst e1 e2
      obtain ⟨b, off, rfl, hD, hcell⟩ := hx (by omega)
      obtain ⟨⟨x0, c0⟩, f0⟩ := hcell k 0 hlt (by omega)
      obtain ⟨⟨x1, c1⟩, f1⟩ := hcell k 1 hlt (by omega)
      obtain ⟨⟨x2, c2⟩, f2⟩ := hcell k 2 hlt (by omega)
      obtain ⟨⟨x3, c3⟩, f3⟩ := hcell k 3 hlt (by omega)
      rw [Nat.add_zero] at c0 f0
      have hbd : (k + 1) * 4 ≤ n * 4 := Nat.mul_le_mul_right _ (by omega)
      clear hcell hx
      obtain ⟨q, hq⟩ : ∃ q : Int, q = k0 + (k * 4 : Nat) := ⟨_, rfl⟩
      have hq0 : 0 ≤ q := by omega
      have hq1 : q + 4 ≤ 9223372036854775807 := by omega
      rw [← hq]
      have HQ := Lib.hid hq
      have HK := Lib.hid (shift_markInsS k0 k)
      clear hq hbd
      go_wp2
      go_roundw
      case rel =>
        refine ⟨k + 1, by omega, by go_num, ?_, ?_⟩
        · rw [← HK.out, ← HQ.out]; go_num
        · have m0 : Marked D w (wr.setCell ⟨b, off + k * 4, none⟩ (.int .i64 (q + 0))) := HM.out.trans (Marked.set hD (u := .int .i64 x0) (by exact c0) ⟨_, rfl⟩ _)
          have m1 : Marked D w ((wr.setCell ⟨b, off + k * 4, none⟩ (.int .i64 (q + 0))).setCell ⟨b, off + k * 4 + 1, none⟩ (.int .i64 (q + 1))) := m0.trans (Marked.set hD (u := .int .i64 x1) (by go_simp) ⟨_, rfl⟩ _)
          have m2 : Marked D w (((wr.setCell ⟨b, off + k * 4, none⟩ (.int .i64 (q + 0))).setCell ⟨b, off + k * 4 + 1, none⟩ (.int .i64 (q + 1))).setCell ⟨b, off + k * 4 + 2, none⟩ (.int .i64 (q + 2))) := m1.trans (Marked.set hD (u := .int .i64 x2) (by go_simp) ⟨_, rfl⟩ _)
          have m3 : Marked D w ((((wr.setCell ⟨b, off + k * 4, none⟩ (.int .i64 (q + 0))).setCell ⟨b, off + k * 4 + 1, none⟩ (.int .i64 (q + 1))).setCell ⟨b, off + k * 4 + 2, none⟩ (.int .i64 (q + 2))).setCell ⟨b, off + k * 4 + 3, none⟩ (.int .i64 (q + 3))) := m2.trans (Marked.set hD (u := .int .i64 x3) (by go_simp) ⟨_, rfl⟩ _)
          simpa [Hid, Int.add_assoc] using m3
      case measure => simp [intOf]; omega
    · obtain rfl : k = n := by omega
      go_wp2
      go_ret
      exact ⟨rfl, HM.out⟩

def cntPhis (ns : List Nat) : Nat := (ns.map fun n => n + 1).sum
def cntB (s : BShape) : Nat := cntPhis s.phis + s.head * 2 + s.body * 4 + s.tail * 2 + 4
def cntS (ss : List BShape) : Nat := (ss.map cntB).sum

set_option maxHeartbeats 1000000 in
theorem markPhiS_sh (D : Nat → Prop) (v : Value) (ns : List Nat) (k0 : Int) (w : World) (hv : SPhis D w v ns) (h0 : 0 ≤ k0) (h1 : k0 + (cntPhis ns : Nat) ≤ 9223372036854775807) :
    Calls Try.prog 40 #[v, .int .i64 k0] w (Marks D (k0 + (cntPhis ns : Nat)) w) := by
  have HV := Lib.hid hv
  obtain ⟨hle, A, c, rfl, _⟩ := hv
  have hall : pre (fun n => n + 1) ns ns.length = cntPhis ns := pre_all _ _
  have HALL := Lib.hid hall
  clear hall
  go_enter Try.func40, Try.ntmps40
  go_wp2
  go_loopw [1, 5] (fun q i wr => ∃ k : Nat, k ≤ ns.length ∧ i = .int .i64 k ∧ q = .int .i64 (k0 + (pre (fun n => n + 1) ns k : Nat)) ∧ Hid (Marked D w wr)) (fun _ i _ => ns.length - (intOf i).toNat)
  case atStart => exact ⟨0, Nat.zero_le _, rfl, by rw [pre_zero]; simp, Marked.refl _ _⟩
  case round =>
    obtain ⟨k, hk, rfl, rfl, HM⟩ := hrel
    by_cases hlt : k < ns.length
    · obtain ⟨_, A', c', he, hx⟩ := HV.out.marked HM.out
      injection he with e1 _ e2
      subst e1 e2
      obtain ⟨b, off, rfl, hD, hcell⟩ := hx (by omega)
      have hxk : ns[k]? = some ns[k] := List.getElem?_eq_getElem hlt
      generalize ns[k] = n at hxk
      obtain ⟨⟨⟨x0, c0⟩, f0⟩, u, c1, hu⟩ := hcell k n hxk
      have hbd : pre (fun n => n + 1) ns (k + 1) = pre (fun n => n + 1) ns k + (n + 1) := pre_succ _ hxk
      have hbd2 : pre (fun n => n + 1) ns (k + 1) ≤ cntPhis ns := pre_le _ _ _
      clear hcell hx hxk
      obtain ⟨q, hq⟩ : ∃ q : Int, q = k0 + (pre (fun n => n + 1) ns k : Nat) := ⟨_, rfl⟩
      have hq0 : 0 ≤ q := by omega
      have hq1 : q + 1 + (n * 1 : Nat) ≤ 9223372036854775807 := by omega
      have hnext : q + 1 + (n * 1 : Nat) = k0 + (pre (fun n => n + 1) ns (k + 1) : Nat) := by omega
      have hqb : q + 1 ≤ 9223372036854775807 := by omega
      rw [← hq]
      have HN := Lib.hid hnext
      have HU := Lib.hid hu
      have HM1 : Hid (Marked D w (wr.setCell ⟨b, off + k * 2, none⟩ (.int .i64 q))) := HM.out.trans (Marked.set hD c0 ⟨_, rfl⟩ _)
      have HMs : Hid (Marked D wr (wr.setCell ⟨b, off + k * 2, none⟩ (.int .i64 q))) := Marked.set hD c0 ⟨_, rfl⟩ _
      clear hq hbd hbd2 hnext hu
      go_wp2_with fail
      refine (markInt64S_sh D u n (q + 1) _ (HU.out.marked HMs.out) (by omega) hq1).mono ?_
      rintro e w2 ⟨rfl, hm2⟩
      have HM2 := Lib.hid (HM1.out.trans hm2)
      rw [HN.out]
      clear hm2
      go_wp2_with fail
      go_roundw
      case rel => exact ⟨k + 1, by omega, by go_num, rfl, HM2.out⟩
      case measure => simp [intOf]; omega
    · obtain rfl : k = ns.length := by omega
      go_wp2
      go_ret
      exact ⟨by rw [HALL.out]; rfl, HM.out⟩

set_option maxRecDepth 10000 in
set_option maxHeartbeats 2000000 in
theorem markBlockS_sh (D : Nat → Prop) (v : Value) (ss : List BShape) (k0 : Int) (w : World) (hv : SBlocks D w v ss) (h0 : 0 ≤ k0) (h1 : k0 + (cntS ss : Nat) ≤ 9223372036854775807) :
    Calls Try.prog 25 #[v, .int .i64 k0] w (Marks D (k0 + (cntS ss : Nat)) w) := by
  have HV := Lib.hid hv
  obtain ⟨hle, A, c, rfl, _⟩ := hv
  have HALL : Hid (pre cntB ss ss.length = cntS ss) := pre_all _ _
  go_enter Try.func25, Try.ntmps25
  go_wp2
  go_loopw [1, 5] (fun q i wr => ∃ k : Nat, k ≤ ss.length ∧ i = .int .i64 k ∧ q = .int .i64 (k0 + (pre cntB ss k : Nat)) ∧ Hid (Marked D w wr)) (fun _ i _ => ss.length - (intOf i).toNat)
  case atStart => exact ⟨0, Nat.zero_le _, rfl, by rw [pre_zero]; simp, Marked.refl _ _⟩
  case round =>
    obtain ⟨k, hk, rfl, rfl, HM⟩ := hrel
    by_cases hlt : k < ss.length
    case neg =>
      obtain rfl : k = ss.length := by omega
      go_wp2
      go_ret
      exact ⟨by rw [HALL.out]; rfl, HM.out⟩
    obtain ⟨_, A', c', he, hx⟩ := HV.out.marked HM.out
    injection he with e1 _ e2
    subst e1 e2
    obtain ⟨b, off, rfl, hD, hcell⟩ := hx (by omega)
    have hxk : ss[k]? = some ss[k] := List.getElem?_eq_getElem hlt
    generalize ss[k] = s at hxk
    obtain ⟨u0, u1, u2, u3, c0, c1, c2, c3, s0, s1, s2, s3, i0, i1, i2, i3⟩ := hcell k s hxk
    have hbd : pre cntB ss (k + 1) = pre cntB ss k + cntB s := pre_succ _ hxk
    have hbd2 : pre cntB ss (k + 1) ≤ cntS ss := pre_le _ _ _
    have hcb : cntB s = cntPhis s.phis + s.head * 2 + s.body * 4 + s.tail * 2 + 4 := rfl
    obtain ⟨q, hq⟩ : ∃ q : Int, q = k0 + (pre cntB ss k : Nat) := ⟨_, rfl⟩
    have hq0 : 0 ≤ q := by omega
    obtain ⟨q1, hq1⟩ : ∃ q1 : Int, q1 = q + (cntPhis s.phis : Nat) := ⟨_, rfl⟩
    obtain ⟨q2, hq2⟩ : ∃ q2 : Int, q2 = q1 + (s.head * 2 : Nat) := ⟨_, rfl⟩
    obtain ⟨q3, hq3⟩ : ∃ q3 : Int, q3 = q2 + (s.body * 4 : Nat) := ⟨_, rfl⟩
    obtain ⟨q4, hq4⟩ : ∃ q4 : Int, q4 = q3 + (s.tail * 2 : Nat) := ⟨_, rfl⟩
    have hnext : q4 + 4 = k0 + (pre cntB ss (k + 1) : Nat) := by omega
    have hb4 : q4 + 4 ≤ 9223372036854775807 := by omega
    have hb40 : 0 ≤ q4 := by omega
    have hm1 : q + (cntPhis s.phis : Nat) ≤ 9223372036854775807 := by omega
    have hm2 : q1 + (s.head * 2 : Nat) ≤ 9223372036854775807 := by omega
    have hm3 : q2 + (s.body * 4 : Nat) ≤ 9223372036854775807 := by omega
    have hm4 : q3 + (s.tail * 2 : Nat) ≤ 9223372036854775807 := by omega
    have hp1 : 0 ≤ q1 := by omega
    have hp2 : 0 ≤ q2 := by omega
    have hp3 : 0 ≤ q3 := by omega
    have HQ1 := Lib.hid hq1
    have HQ2 := Lib.hid hq2
    have HQ3 := Lib.hid hq3
    have HQ4 := Lib.hid hq4
    have HN := Lib.hid hnext
    have S0 := Lib.hid s0
    have S1 := Lib.hid s1
    have S2 := Lib.hid s2
    have S3 := Lib.hid s3
    have C1 := Lib.hid c1
    have C2 := Lib.hid c2
    have C3 := Lib.hid c3
    have I0 := Lib.hid i0
    have I1 := Lib.hid i1
    have I2 := Lib.hid i2
    have I3 := Lib.hid i3
    have n1 := s1.form
    have n2 := s2.form
    have n3 := s3.form
    rw [← hq]
    clear hq hbd hbd2 hcb hnext hq1 hq2 hq3 hq4 hcell hx hxk s0 s1 s2 s3 c1 c2 c3 i0 i1 i2 i3
    go_wp2_with fail
    refine (markPhiS_sh D u0 s.phis q _ S0.out hq0 hm1).mono ?_
    rintro e w1 ⟨rfl, hk1⟩
    rw [← HQ1.out]
    have HM1 := Lib.hid (HM.out.trans hk1)
    have K1 := Lib.hid hk1
    have d1 := hk1.same _ _ _ hD C1.out n1
    clear hk1
    go_wp2_with fail
    refine (markMoveS_sh D u1 s.head q1 _ (S1.out.marked K1.out) hp1 hm2).mono ?_
    rintro e w2 ⟨rfl, hk2⟩
    rw [← HQ2.out]
    have HM2 := Lib.hid (HM1.out.trans hk2)
    have K2 := Lib.hid (K1.out.trans hk2)
    have d2 := K2.out.same _ _ _ hD C2.out n2
    clear hk2 d1
    go_wp2_with fail
    refine (markInsS_sh D u2 s.body q2 _ (S2.out.marked K2.out) hp2 hm3).mono ?_
    rintro e w3 ⟨rfl, hk3⟩
    rw [← HQ3.out]
    have HM3 := Lib.hid (HM2.out.trans hk3)
    have K3 := Lib.hid (K2.out.trans hk3)
    have d3 := K3.out.same _ _ _ hD C3.out n3
    clear hk3 d2
    go_wp2_with fail
    refine (markMoveS_sh D u3 s.tail q3 _ (S3.out.marked K3.out) hp3 hm4).mono ?_
    rintro e w4 ⟨rfl, hk4⟩
    rw [← HQ4.out]
    have HM4 := Lib.hid (HM3.out.trans hk4)
    have K4 := Lib.hid (K3.out.trans hk4)
    clear hk4 d3 c0
    obtain ⟨⟨x4, c4⟩, f4⟩ := I0.out.marked hD K4.out
    obtain ⟨⟨x5, c5⟩, f5⟩ := I1.out.marked hD K4.out
    obtain ⟨⟨x6, c6⟩, f6⟩ := I2.out.marked hD K4.out
    obtain ⟨⟨x7, c7⟩, f7⟩ := I3.out.marked hD K4.out
    have m0 : Marked D w (w4.setCell ⟨b, off + k * 8 + 4, none⟩ (.int .i64 q4)) := HM4.out.trans (Marked.set hD c4 ⟨_, rfl⟩ _)
    have m1 : Marked D w ((w4.setCell ⟨b, off + k * 8 + 4, none⟩ (.int .i64 q4)).setCell ⟨b, off + k * 8 + 5, none⟩ (.int .i64 (q4 + 1))) := m0.trans (Marked.set hD (u := .int .i64 x5) (by go_simp) ⟨_, rfl⟩ _)
    have m2 : Marked D w (((w4.setCell ⟨b, off + k * 8 + 4, none⟩ (.int .i64 q4)).setCell ⟨b, off + k * 8 + 5, none⟩ (.int .i64 (q4 + 1))).setCell ⟨b, off + k * 8 + 6, none⟩ (.int .i64 (q4 + 1 + 1))) := m1.trans (Marked.set hD (u := .int .i64 x6) (by go_simp) ⟨_, rfl⟩ _)
    have m3 : Marked D w ((((w4.setCell ⟨b, off + k * 8 + 4, none⟩ (.int .i64 q4)).setCell ⟨b, off + k * 8 + 5, none⟩ (.int .i64 (q4 + 1))).setCell ⟨b, off + k * 8 + 6, none⟩ (.int .i64 (q4 + 1 + 1))).setCell ⟨b, off + k * 8 + 7, none⟩ (.int .i64 (q4 + 1 + 1 + 1))) := m2.trans (Marked.set hD (u := .int .i64 x7) (by go_simp) ⟨_, rfl⟩ _)
    have HM5 := Lib.hid m3
    clear m0 m1 m2 m3
    go_wp2_with fail
    go_roundw
    case rel =>
      refine ⟨k + 1, by omega, by go_num, by rw [← HN.out]; go_num, ?_⟩
      simpa [Hid, Int.add_assoc] using HM5.out
    case measure => simp [intOf]; omega

set_option maxHeartbeats 400000 in
theorem markFun_sh (D : Nat → Prop) (a b : Int) (u : Value) (ss : List BShape) (k0 : Int) (w : World) (hv : SBlocks D w u ss) (h0 : 0 ≤ k0) (h1 : k0 + (cntS ss : Nat) ≤ 9223372036854775807) :
    Calls Try.prog 11 #[.agg #[.int .i64 a, .int .i64 b, u], .int .i64 k0] w (Marks D (k0 + (cntS ss : Nat)) w) := by
  have HV := Lib.hid hv
  obtain ⟨_, A, c, rfl, _⟩ := hv
  go_enter Try.func11, Try.ntmps11
  go_wp2_with fail
  have hm := fun T : Obj => Marked.below (D := D) ((Below.refl w.heap.size w).alloc (Nat.le_refl _) T)
  refine (markBlockS_sh D _ ss k0 _ (HV.out.marked (hm _)) h0 h1).mono ?_
  rintro e w1 ⟨rfl, hm1⟩
  have HM := Lib.hid ((hm _).trans hm1)
  clear hm1 hm
  go_wp2_with fail
  go_ret
  exact ⟨rfl, HM.out⟩

theorem cntPhis_is (l : List PhiD) : cntPhis (phisS l) = szPhisN l := by
  unfold cntPhis phisS szPhisN
  induction l with
  | nil => rfl
  | cons p l ih =>
    simp only [List.map_cons, List.sum_cons, List.length_cons] at ih ⊢
    have : szPhiN p = p.args.length := rfl
    omega
theorem cntB_le (x : BlockD) : cntB (blockS x) ≤ 4 * szBlockN x + 4 := by
  have h1 : cntB (blockS x) = cntPhis (phisS x.phis) + x.head.length * 2 + x.body.length * 4 + x.tail.length * 2 + 4 := rfl
  have h2 : szBlockN x = szPhisN x.phis + x.head.length + x.body.length + x.tail.length := rfl
  rw [h1, h2, cntPhis_is]
  omega
theorem cntS_le (l : List BlockD) : cntS (l.map blockS) ≤ 4 * (l.length + (l.map szBlockN).sum) := by
  unfold cntS
  induction l with
  | nil => simp
  | cons x l ih =>
    simp only [List.map_cons, List.sum_cons, List.length_cons] at ih ⊢
    have := cntB_le x
    omega
theorem cntF_le {f : FunD} (h : szFunN f ≤ 1048576) : cntS (f.blocks.map blockS) ≤ 4194304 := by
  have := cntS_le f.blocks
  have e : szFunN f = f.blocks.length + (f.blocks.map szBlockN).sum := rfl
  omega

end Go.Proofs.Ytbghcoihndlihaa
