/- What the laws over codes share. -/
import Derived.Test.YteikpekffgifoaaDoorM7
import Derived.Test.YteikpekffgifoaaDoorL2d
import Derived.Test.YteikpekffgifoaaDoorCome
import Derived.Test.YteikpekffgifoaaDoorCode
namespace Go.Proofs.YteikpekffgifoaaDoor
open Go.ChangeShapes Go.WideShapes Go.ChangeAt Go.RowKit Go.Joins

set_option maxHeartbeats 400000 in
theorem big_yes (A : Option Addr) (n c : Nat) (w : World) (h : 4096 < n) : Calls Tryd.prog 6 #[.slice A n c] w fun e w' => e = .returned (.bool true) ∧ w = w' := by
  have hb : decide ((4096 : Int) < (n : Int)) = true := by simp; omega
  go_enter Tryd.func6, Tryd.ntmps6
  go_wp2
  go_ret
  exact ⟨rfl, rfl⟩
set_option maxHeartbeats 400000 in
theorem big_no (A : Option Addr) (n c : Nat) (w : World) (h : n ≤ 4096) : Calls Tryd.prog 6 #[.slice A n c] w fun e w' => e = .returned (.bool false) ∧ w = w' := by
  have hb : decide ((4096 : Int) < (n : Int)) = false := by simp; omega
  go_enter Tryd.func6, Tryd.ntmps6
  go_wp2
  go_ret
  exact ⟨rfl, rfl⟩


theorem mem_predsF {f : FunD} {j : Int} {b : Nat} {x : BlockD} (hx : f.blocks[b]? = some x) (hj : j ∈ toL x.fin.k x.fin.t x.fin.l) : (b : Int) ∈ predsF f j := by
  unfold predsF predsK
  rw [List.mem_map]
  exact ⟨b, List.mem_filter.2 ⟨List.mem_range.2 (List.getElem?_eq_some_iff.1 hx).1, by unfold hasT; rw [hx]; exact hasB_iff.2 hj⟩, rfl⟩
theorem of_mem_predsF {f : FunD} {j y : Int} (h : y ∈ predsF f j) : ∃ (m : Nat) (x : BlockD), y = m ∧ f.blocks[m]? = some x ∧ j ∈ toL x.fin.k x.fin.t x.fin.l := by
  unfold predsF predsK at h
  rw [List.mem_map] at h
  obtain ⟨m, hm, rfl⟩ := h
  rw [List.mem_filter] at hm
  obtain ⟨h1, h2⟩ := hm
  have hlt := List.mem_range.1 h1
  have hx : f.blocks[m]? = some f.blocks[m] := List.getElem?_eq_getElem hlt
  unfold hasT at h2
  rw [hx] at h2
  exact ⟨m, _, rfl, hx, hasB_iff.1 h2⟩
theorem predsF_pair (f : FunD) (j : Int) : (predsF f j).Pairwise (· < ·) := by
  unfold predsF predsK
  rw [List.pairwise_map]
  exact (List.pairwise_lt_range.filter _).imp fun h => by omega
theorem predsF_lt {f : FunD} {j y z : Int} {i : Nat} (h1 : (predsF f j)[i]? = some y) (h2 : (predsF f j)[i + 1]? = some z) : y < z := by
  obtain ⟨hi, rfl⟩ := List.getElem?_eq_some_iff.1 h1
  obtain ⟨hk, rfl⟩ := List.getElem?_eq_some_iff.1 h2
  exact List.pairwise_iff_getElem.1 (predsF_pair f j) i (i + 1) hi hk (by omega)
theorem preds_of {f : FunD} {j : Int} {xs : List Int} (hp : FunP f) (hj : 0 ≤ j ∧ j < f.blocks.length) (h : PredsRes f j xs) : xs = predsF f j := by
  rcases h with ⟨_, _, h⟩ | ⟨h, _⟩
  · exact h
  · exact absurd ⟨hp, by simp [isBelowB]; omega⟩ h
theorem succs_of {f : FunD} {b : Nat} {x : BlockD} (hp : FunP f) (hx : f.blocks[b]? = some x) : succsL x.fin.k x.fin.a x.fin.t x.fin.l = toL x.fin.k x.fin.t x.fin.l ∧ ∀ y ∈ toL x.fin.k x.fin.t x.fin.l, 0 ≤ y ∧ y < (f.blocks.length : Int) := by
  have h := targets_of hp b x hx
  exact ⟨by unfold succsL; rw [if_pos h.1], h.2⟩

set_option maxHeartbeats 400000 in
theorem has_any (v : Value) (xs : List Int) (j : Int) (w : World) (hv : RI w v xs) :
    Calls Tryd.prog 16 #[v, .int .i64 j] w fun e w' => e = .returned (.bool (hasB xs j)) ∧ w = w' := by
  obtain ⟨hl, A, c, rfl, hx⟩ := hv
  go_enter Tryd.func16, Tryd.ntmps16
  go_wp2
  go_loop [5] (fun i => ∃ k : Nat, k ≤ xs.length ∧ i = .int .i64 k ∧ Hid (∀ i, i < k → xs[i]? ≠ some j)) (fun i => xs.length - (intOf i).toNat)
  case atStart => exact ⟨0, Nat.zero_le _, rfl, fun i hi => absurd hi (by omega)⟩
  case round =>
    obtain ⟨k, hk, rfl, HN⟩ := hrel
    by_cases hlt : k < xs.length
    · have hxk : xs[k]? = some xs[k] := List.getElem?_eq_getElem hlt
      generalize xs[k] = x at hxk
      obtain ⟨b, off, rfl, hx'⟩ := hx (by rintro rfl; simp at hlt)
      have hc := hx' k _ hxk
      have hs := hasB_snoc xs j k x hxk HN.out
      clear hx hx' hxk
      rcases hs with ⟨hs, rfl⟩ | ⟨hs, hn⟩
      · have HS := Lib.hid hs
        clear hs
        go_wp2
        go_ret
        exact ⟨by rw [HS.out]; rfl, rfl⟩
      · have hb : (x == j) = false := by simpa using hs
        have HN' := Lib.hid hn
        clear hs hn
        go_wp2
        go_round
        case rel => exact ⟨k + 1, by omega, by go_num, HN'⟩
        case measure => simp [intOf]; omega
    · obtain rfl : k = xs.length := by omega
      have HS := Lib.hid (not_hasB HN.out)
      go_wp2
      go_ret
      exact ⟨by rw [HS.out]; rfl, rfl⟩

def Fine (w : World) (e : Ending) (w' : World) : Prop := e = .returned (.bool true) ∧ Below w.heap.size w w'

/-- A block that was there is there still. -/
theorem kept_row {w w' : World} {q : Nat} {o : Obj} (h : w.heap[q]? = some o) (hb : Below w.heap.size w w') : w'.heap[q]? = some o := (hb.block q (Array.getElem?_eq_some_iff.1 h).1).trans h
theorem EFun.old {w w' : World} {lo hi : Nat} {f : FunD} {v : Value} (h : EFun w (Zn.new lo hi) f v) (hb : Below hi w w') : EFun w' (Zn.new lo hi) f v := h.keep (Kept.below hb fun _ hb => hb.2)

end Go.Proofs.YteikpekffgifoaaDoor
