/- allEdges of the program: the iterator over the edges. -/
import Derived.Test.YtgboaaccdfaoiaaEdges
import Derived.RangeFuncNested
import Derived.RangeFuncBound
import Derived.RangeFuncBox
import Derived.RangeFuncCalls
import Derived.RangeFuncLeaves
import Derived.Shelf.Abstract
import Derived.Shelf.RegionOpen
import Derived.OwnWalkIn
import Derived.TacticsInMore
import Derived.LoopNIn
import Derived.LoopIn
namespace Go.Proofs.Ytgboaaccdfaoiaa
open Go.ChangeShapes Go.WideShapes Go.ChangeAt Go.RowKit Go.Joins Go.Shelf

attribute [local go_sem] Oper.semAt_some

/-- Blocks of numbers stay as they are. -/
def IntsKept (w w' : World) : Prop := ∀ (k : Nat) cur fz, w.heap[k]? = some (.cells cur 2 fz) → w'.heap[k]? = w.heap[k]?
theorem IntsKept.refl (w : World) : IntsKept w w := fun _ _ _ _ => rfl
theorem IntsKept.trans {a b c : World} (h : IntsKept a b) (k : IntsKept b c) : IntsKept a c := fun i cur fz hi => (k i cur fz ((h i cur fz hi).trans hi)).trans (h i cur fz hi)
theorem IntsKept.below {a b : World} (h : Below a.heap.size a b) : IntsKept a b := fun i _ _ hi => h.block i (Array.getElem?_eq_some_iff.1 hi).1
/-- What a round of the loop's body keeps, for the iterator. -/
def EKp (n₀ : Nat) (w w' : World) : Prop := Below n₀ w w' ∧ IntsKept w w'
theorem EKp.t {n₀ : Nat} {A B C : World} (h : EKp n₀ A B) (k : EKp n₀ B C) : EKp n₀ A C := ⟨h.1.trans k.1, h.2.trans k.2⟩
theorem EKp.b {n₀ : Nat} {w : World} (hn : n₀ ≤ w.heap.size) (W : World) (l : Nat) (o o' : Obj) (hl : w.heap.size ≤ l) (h : W.heap[l]? = some o) (hc : o.isCells = false) (hw : o.isWalk = false) : EKp n₀ W (W.putObj l o') :=
  ⟨belowK_b hn W l o o' hl h hc hw, fun k cur fz hk => by
    have hne : k ≠ l := by
      rintro rfl
      rw [h] at hk
      injection hk with hk
      subst hk
      cases hc
    simp only [World.putObj]
    rw [Array.getElem?_setIfInBounds_ne (by omega)]⟩
theorem OI.ikept {w w' : World} {B : Nat} {v : Value} {xs : List Int} (h : OI w B v xs) (hk : IntsKept w w') : OI w' B v xs := by
  obtain ⟨h1, h2⟩ := h
  refine ⟨h1, ?_⟩
  rcases h2 with h2 | ⟨g, cap, cur, rfl, hg, hh, r⟩
  · exact .inl h2
  · exact .inr ⟨g, cap, cur, rfl, hg, (hk g _ _ hh).trans hh, r⟩
theorem grown_none {a b : World} (h : Below a.heap.size a b) : a.grownBy b none := ⟨h.os, h.tape, h.output, h.size, fun k hk _ => h.block k hk⟩
def encE (x : MoveD) : Array Value := #[.agg #[.int .i64 x.dst, .int .i64 x.src]]

set_option maxRecDepth 100000 in
set_option maxHeartbeats 4000000 in
theorem edges1_in (n l Bs n₀ : Nat) (bs : List BlockD) (A : Option Addr) (c : Nat) (Z : Zn) (hn : bs.length ≤ 1000) (ht : TargetsOk bs) (hn1 : 1 ≤ n) (hZ : ∀ b, Z.D b → b < n₀) (J Jx : List MoveD → World → Prop) (B0 : Nat) (hJ : AbidesFrom B0 J) (Pd : MoveD → Prop) (hPd : ∀ (k : Nat) t, k < bs.length → t ∈ scF bs k → Pd ⟨(k : Int), t⟩)
    (hY : ∀ pre x W, Pd x → J pre W → pre.length < 2 * bs.length → YieldAt Fence.wide (n - 1) Try.prog l (encE x) W fun e W' =>
      (e = .returned (.bool true) ∧ J (pre ++ [x]) W' ∧ EKp n₀ W W') ∨ (e = .returned (.bool false) ∧ Jx (pre ++ [x]) W'))
    (W : World) (hn0 : n₀ ≤ W.heap.size) (hBs : W.cell? ⟨Bs, 0, none⟩ = some (.slice A bs.length c)) (hrow : Row W Z 8 (EBlock W Z) (.slice A bs.length c) bs) (h0 : J [] W) :
    CallsIn Fence.wide n Try.prog 100 #[.func (.yield l) #[] #[], .pointer (some ⟨Bs, 0, none⟩)] W fun e W' => (∃ v, e = .returned v) ∧
      ((∃ ys, ys = edgesOf bs ∧ J ys W') ∨ (∃ pre : List MoveD, True ∧ Jx pre W')) := by
  obtain ⟨hle, A', c', he, hx⟩ := hrow
  injection he with hA _ hc
  subst hA hc
  refine callsIn_of_wp Try.func100 rfl trivial ?_
  simp only [Try.ntmps100, List.size_toArray, List.length_cons, List.length_nil, Nat.reduceAdd, Nat.reduceSub, Array.replicate_succ, Array.replicate_zero, List.push_toArray, List.append_toArray, List.nil_append, List.cons_append]
  gi_wp2
  gi_loopw [9] (fun i wr => ∃ k : Nat, k ≤ bs.length ∧ i = .int .i64 k ∧ J (edgesK bs k) wr ∧ Hid (Below n₀ W wr)) (fun i _ => bs.length - (intOf i).toNat)
  case atStart => exact ⟨0, Nat.zero_le _, rfl, h0, Below.refl _ _⟩
  case round =>
    obtain ⟨k, hk, rfl, hJs, HB⟩ := hrel
    have HJ := Lib.hid hJs
    clear hJs
    by_cases hlt : k < bs.length
    case neg =>
      obtain rfl : k = bs.length := by omega
      gi_wp2
      go_end0
      exact ⟨⟨_, rfl⟩, .inl ⟨_, rfl, HJ.out⟩⟩
    have hxk : bs[k]? = some bs[k] := List.getElem?_eq_getElem hlt
    generalize bs[k] = x at hxk
    obtain ⟨b, off, rfl, hDb, hrow⟩ := hx (by rintro rfl; simp at hlt)
    obtain ⟨cs, hE, hcs⟩ := hrow k x hxk
    have hbl := hZ b hDb
    obtain ⟨v0, v1, v2, v3, rfl, ⟨_, A0, q0, rfl, _⟩, ⟨_, A1, q1, rfl, _⟩, ⟨_, A2, q2, rfl, _⟩, ⟨_, A3, q3, rfl, _⟩⟩ := hE
    have c0 : wr.cell? ⟨b, off + k * 8, none⟩ = some (.slice A0 x.phis.length q0) := (HB.out.cell (p := ⟨b, _, none⟩) hbl).trans (hcs 0 _ rfl).1
    have c1 : wr.cell? ⟨b, off + k * 8 + 1, none⟩ = some (.slice A1 x.head.length q1) := (HB.out.cell (p := ⟨b, _, none⟩) hbl).trans (hcs 1 _ rfl).1
    have c2 : wr.cell? ⟨b, off + k * 8 + 2, none⟩ = some (.slice A2 x.body.length q2) := (HB.out.cell (p := ⟨b, _, none⟩) hbl).trans (hcs 2 _ rfl).1
    have c3 : wr.cell? ⟨b, off + k * 8 + 3, none⟩ = some (.slice A3 x.tail.length q3) := (HB.out.cell (p := ⟨b, _, none⟩) hbl).trans (hcs 3 _ rfl).1
    have c4 : wr.cell? ⟨b, off + k * 8 + 4, none⟩ = some (.int .i64 x.fin.k) := (HB.out.cell (p := ⟨b, _, none⟩) hbl).trans (hcs 4 _ rfl).1
    have c5 : wr.cell? ⟨b, off + k * 8 + 5, none⟩ = some (.int .i64 x.fin.a) := (HB.out.cell (p := ⟨b, _, none⟩) hbl).trans (hcs 5 _ rfl).1
    have c6 : wr.cell? ⟨b, off + k * 8 + 6, none⟩ = some (.int .i64 x.fin.t) := (HB.out.cell (p := ⟨b, _, none⟩) hbl).trans (hcs 6 _ rfl).1
    have c7 : wr.cell? ⟨b, off + k * 8 + 7, none⟩ = some (.int .i64 x.fin.l) := (HB.out.cell (p := ⟨b, _, none⟩) hbl).trans (hcs 7 _ rfl).1
    have HSU := Lib.hid (ht.succs hxk)
    have HES := Lib.hid (edgesK_succ bs k)
    have hkl : (k : Int) < (bs.length : Int) := by omega
    have hk0 : 0 ≤ (k : Int) := by omega
    have hzw := HB.out.size
    clear hcs hx hxk hrow
    gi_wp2_with (refine ⟨trivial, ?_⟩; gi_at_call 18; refine (callsIn_wide.2 (SuccsOf_any _ _ _ _ _)).mono ?_; rintro e w1 ⟨r, rfl, hr, hb1⟩; obtain ⟨_, A5, c5', rfl, hx5⟩ := hr.ri; clear hx5)
    have hb1' := hb1
    simp only [World.size_alloc] at hb1'
    have hz1 := hb1'.size
    have HB1 : Hid (Below n₀ W w1) := (HB.out.alloc (by omega) _).trans (hb1.mono (by simp; omega))
    have HJ1 : Hid (J (edgesK bs k) w1) := hJ _ _ _ none (hJ _ _ _ none HJ.out (World.grownBy_alloc wr _ none) (fun _ e => by cases e)) (grown_none hb1) (fun _ e => by cases e)
    rw [HSU.out] at hr
    generalize hus : scF bs k = us at hr
    have HUS := Lib.hid hus
    have hul : us.length ≤ 2 := by rw [← hus]; exact scF_len _ _
    have hlen0 : (succsL x.fin.k x.fin.a x.fin.t x.fin.l).length = us.length := by rw [HSU.out, hus]
    rw [hlen0]
    have HU := Lib.hid hr
    clear hr hb1 hb1' hus hlen0 c0 c1 c2 c3 c4 c5 c6 c7 hJ
    gi_loopw [18] (fun i wq => ∃ m : Nat, m ≤ us.length ∧ i = .int .i64 m ∧ Hid (J (edgesK bs k ++ (us.take m).map fun t => ⟨(k : Int), t⟩) wq) ∧ Hid (Below n₀ W wq) ∧ Hid (OI wq 0 (.slice A5 us.length c5') us)) (fun i _ => us.length - (intOf i).toNat)
    case atStart => exact ⟨0, Nat.zero_le _, rfl, (by rw [Hid, List.take_zero, List.map_nil, List.append_nil]; exact HJ1.out), HB1.out, World.ownsRow.mono HU.out (Nat.zero_le _)⟩
    case round =>
      obtain ⟨m, hm, rfl, HJ, HB, HO⟩ := hrel
      by_cases hml : m < us.length
      case neg =>
        obtain rfl : m = us.length := by omega
        have HJ2 : Hid (J (edgesK bs (k + 1)) wr) := by
          have := HJ.out
          rw [List.take_length] at this
          rw [Hid, HES.out, HUS.out]
          exact this
        gi_wp2
        go_roundw
        case rel => exact ⟨k + 1, by omega, by go_num, HJ2.out, HB.out⟩
        case measure => simp [intOf]; omega
      have hum : us[m]? = some us[m] := List.getElem?_eq_getElem hml
      generalize us[m] = u at hum
      obtain ⟨_, A5', c5'', he5, hux⟩ := HO.out.ri
      injection he5 with q1 _ q2
      subst q1 q2
      obtain ⟨b', off', rfl, hcell⟩ := hux (by rintro rfl; simp at hml)
      have p0 := hcell m _ hum
      have HTM := Lib.hid (take_map_snoc hum fun t => ⟨(k : Int), t⟩)
      have hel : (edgesK bs k ++ (us.take m).map fun t => (⟨(k : Int), t⟩ : MoveD)).length < 2 * bs.length := by
        have h1 := edgesK_len bs k
        have h2 := HUS.out
        simp only [List.length_append, List.length_map, List.length_take]
        omega
      obtain ⟨fn, tmps, assign, body, hy, hR⟩ := hY _ ⟨(k : Int), u⟩ wr (hPd k u hlt (by rw [HUS.out]; exact List.mem_of_getElem? hum)) HJ.out hel
      have HR := Lib.hid hR
      dsimp only [encE] at hy
      clear hcell hux hum hel hR
      gi_wp2
      refine HR.out.mono ?_
      rintro e W3 (⟨rfl, hJ3, hk3⟩ | ⟨rfl, hJx3⟩)
      · have HJ3 : Hid (J (edgesK bs k ++ (us.take (m + 1)).map fun t => ⟨(k : Int), t⟩) W3) := by
          rw [Hid, HTM.out, ← List.append_assoc]; exact hJ3
        have HB3 := Lib.hid (HB.out.trans hk3.1)
        have HO3 := Lib.hid (HO.out.ikept hk3.2)
        clear hJ3 hk3 hy p0
        gi_wp2
        go_roundw
        case rel => exact ⟨m + 1, by omega, by go_num, HJ3.out, HB3.out, HO3.out⟩
        case measure => simp [intOf]; omega
      · clear hy p0
        gi_wp2
        refine bodyPost_ret (results_none rfl _ _ _) rfl ?_
        exact ⟨⟨_, rfl⟩, .inr ⟨_, trivial, hJx3⟩⟩

end Go.Proofs.Ytgboaaccdfaoiaa
