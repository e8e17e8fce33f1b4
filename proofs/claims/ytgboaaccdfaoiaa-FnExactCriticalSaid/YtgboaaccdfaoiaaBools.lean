/- Slices of bool: what eqBoolS, markBoolS and heldBoolS of the laws do. -/
import Derived.Test.YtgboaaccdfaoiaaInts
namespace Go.Proofs.Ytgboaaccdfaoiaa
open Go.ChangeShapes Go.WideShapes Go.ChangeAt Go.RowKit Go.Joins

def bv (b : Bool) : Value := .bool b

/-- The slice value v reads as the bools xs. -/
def RB (w : World) (v : Value) (xs : List Bool) : Prop :=
  xs.length ≤ 9223372036854775807 ∧ ∃ A c, v = .slice A xs.length c ∧ (xs ≠ [] → ∃ b off, A = some ⟨b, off, none⟩ ∧ ∀ k u, xs[k]? = some u → w.cell? ⟨b, off + k, none⟩ = some (.bool u))

/-- The slice value v is the call's own, from block B on, and reads as xs. -/
def OB (w : World) (B : Nat) (v : Value) (xs : List Bool) : Prop := w.ownsRow B 4 1 v xs.length (xs.map bv)

theorem OB.rb {w : World} {B : Nat} {v : Value} {xs : List Bool} (h : OB w B v xs) : RB w v xs := by
  have h0 := h
  rcases h.2 with ⟨rfl, hn⟩ | ⟨g, cap, cur, rfl, _, hg, hnc, hcm, hs, ht⟩
  · exact ⟨by omega, none, 0, by rw [hn], fun hne => absurd (List.length_eq_zero_iff.1 hn) hne⟩
  · refine ⟨by rw [maxLen_is] at hcm; omega, _, cap, rfl, fun _ => ⟨g, 0, rfl, fun k u hu => ?_⟩⟩
    have hk : k < xs.length := by
      rcases Nat.lt_or_ge k xs.length with h | h
      · exact h
      · rw [List.getElem?_eq_none h] at hu; cases hu
    have := World.ownsRow.cellAt h0 k (by omega)
    rw [Nat.zero_add, this, List.getElem?_map, hu]; rfl

theorem take_eq_ofB {xs ys : List Bool} {k : Nat} {x : Bool} (h : xs.take k = ys.take k) (hx : xs[k]? = some x) (hy : ys[k]? = some x) : xs.take (k + 1) = ys.take (k + 1) := by
  rw [List.take_add_one, List.take_add_one, h, hx, hy]

set_option maxHeartbeats 400000 in
theorem eqBoolS_same (u v : Value) (xs : List Bool) (w : World) (hu : RB w u xs) (hv : RB w v xs) :
    Calls Try.prog 35 #[u, v] w fun e w' => e = .returned (.bool true) ∧ ∃ n, w' = w.drewN n := by
  obtain ⟨lx, A, c, rfl, hx⟩ := hu
  obtain ⟨_, A', c', rfl, hy⟩ := hv
  have hb : ((xs.length : Int) != (xs.length : Int)) = false := by simp
  go_enter Try.func35, Try.ntmps35
  go_wp2
  go_loopw [5] (fun i wr => ∃ k : Nat, k ≤ xs.length ∧ i = .int .i64 k ∧ ∃ m, wr = w.drewN m) (fun i _ => xs.length - (intOf i).toNat)
  case atStart => exact ⟨0, Nat.zero_le _, rfl, 0, rfl⟩
  case round =>
    obtain ⟨k, hk, rfl, m, rfl⟩ := hrel
    by_cases hlt : k < xs.length
    · have hxk : xs[k]? = some xs[k] := List.getElem?_eq_getElem hlt
      obtain ⟨b, off, rfl, hx'⟩ := hx (by rintro rfl; simp at hlt)
      obtain ⟨b', off', rfl, hy'⟩ := hy (by rintro rfl; simp at hlt)
      have hcx := hx' k _ hxk
      have hcy := hy' k _ hxk
      clear hx hy hx' hy' hxk
      generalize xs[k] = x at *
      cases x
      all_goals
        go_wp2
        go_quiet (fail)
        go_wp2
        go_roundw
        case rel => exact ⟨k + 1, by omega, by go_num, m + nq, by go_simp⟩
        case measure => simp [intOf]; omega
    · obtain rfl : k = xs.length := by omega
      go_wp2
      go_ret
      exact ⟨rfl, m, rfl⟩

def markB (k : Int) (n : Nat) : List Bool := (List.range n).map fun (i : Nat) => (k + (i : Int)) % 3 == 0
theorem markB_length (k : Int) (n : Nat) : (markB k n).length = n := by simp [markB]
theorem markB_get (k : Int) {n j : Nat} (h : j < n) : (markB k n)[j]? = some ((k + j) % 3 == 0) := by simp [markB, h]
theorem markB_zero (k : Int) : markB k 0 = [] := rfl

theorem set_stepB (k : Int) (xs : List Bool) {j : Nat} (h : j < xs.length) :
    (((markB k j ++ xs.drop j).map bv).set j (bv ((k + j) % 3 == 0))) = (markB k (j + 1) ++ xs.drop (j + 1)).map bv := by
  apply List.ext_getElem?
  intro i
  rw [List.getElem?_set, List.getElem?_map, List.getElem?_map]
  have hl : (List.map bv (markB k j ++ List.drop j xs)).length = xs.length := by simp [markB_length]; omega
  rw [hl]
  by_cases hij : j = i
  · subst hij
    rw [if_pos rfl, if_pos h, List.getElem?_append_left (by rw [markB_length]; omega), markB_get k (by omega)]; rfl
  · rw [if_neg hij]
    by_cases hlt : i < j
    · rw [List.getElem?_append_left (by rw [markB_length]; exact hlt), List.getElem?_append_left (by rw [markB_length]; omega), markB_get k hlt, markB_get k (by omega)]
    · rw [List.getElem?_append_right (by rw [markB_length]; omega), List.getElem?_append_right (by rw [markB_length]; omega), markB_length, markB_length, List.getElem?_drop, List.getElem?_drop]
      congr 2; omega

set_option maxHeartbeats 400000 in
theorem markBoolS_any (B : Nat) (v : Value) (xs : List Bool) (k : Int) (w : World) (hv : OB w B v xs) (hk0 : 0 ≤ k) (hk1 : k + xs.length ≤ 9223372036854775807) :
    Calls Try.prog 38 #[v, .int .i64 k] w fun e w' => e = .returned (.int .i64 (k + xs.length)) ∧ OB w' B v (markB k xs.length) ∧ w.grownBy w' v.ownBlock := by
  have hlen := hv.rb.1
  by_cases h0 : xs.length = 0
  · obtain rfl := List.length_eq_zero_iff.1 h0
    obtain ⟨_, A, c, rfl, _⟩ := hv.rb
    simp only [List.length_nil] at *
    go_enter Try.func38, Try.ntmps38
    go_wp2
    go_loopw [1, 5] (fun q i wr => i = .int .i64 0 ∧ q = .int .i64 k ∧ wr = w) (fun _ _ _ => 0)
    case atStart => exact ⟨rfl, rfl, rfl⟩
    case round =>
      obtain ⟨rfl, rfl, rfl⟩ := hrel
      go_wp2
      go_ret
      exact ⟨by simp, by rw [markB_zero]; exact hv, World.grownBy.refl _ _⟩
  · obtain ⟨g, cap, rfl, hBg, hg⟩ := World.ownsRow.form hv (by omega)
    have HV := Lib.hid hv
    clear hv
    have hpos : 0 < xs.length := by omega
    clear h0
    go_enter Try.func38, Try.ntmps38
    go_wp2
    go_loopw [1, 5] (fun q i wr => ∃ j : Nat, j ≤ xs.length ∧ i = .int .i64 j ∧ q = .int .i64 (k + j) ∧ Hid (wr.ownsRow B 4 1 (.slice (some ⟨g, 0, none⟩) xs.length cap) xs.length ((markB k j ++ xs.drop j).map bv)) ∧ Hid (w.grownBy wr (some g))) (fun _ i _ => xs.length - (intOf i).toNat)
    case atStart => exact ⟨0, Nat.zero_le _, rfl, by simp, (by rw [markB_zero]; exact HV.out), World.grownBy.refl _ _⟩
    case round =>
      obtain ⟨j, hj, rfl, rfl, HO, HG⟩ := hrel
      by_cases hlt : j < xs.length
      · have hcl : (markB k j ++ xs.drop j).length = xs.length := by simp [markB_length]; omega
        obtain ⟨x, hx⟩ : ∃ x, (markB k j ++ xs.drop j)[j]? = some x := ⟨_, List.getElem?_eq_getElem (by rw [hcl]; exact hlt)⟩
        have hcell : wr.cell? ⟨g, j, none⟩ = some (bv x) := by
          rw [World.ownsRow.cellAt HO.out j (by omega), List.getElem?_map, hx]; rfl
        unfold bv at hcell
        have hfr : wr.frozen? ⟨g, j, none⟩ = false := World.ownsRow.frozenAt HO.out j
        clear hx hcl
        go_wp2
        go_roundw
        case rel =>
          refine ⟨j + 1, by omega, by go_num, by go_num, ?_, ?_⟩
          · have h := (World.ownsRow.stored HO.out j (bv ((k + j) % 3 == 0))).1
            rw [set_stepB k xs hlt] at h
            exact h
          · exact World.grownBy.trans HG.out (World.ownsRow.stored HO.out j (bv ((k + j) % 3 == 0))).2
        case measure => simp [intOf]; omega
      · obtain rfl : j = xs.length := by omega
        go_wp2
        go_ret
        refine ⟨rfl, ?_, HG.out⟩
        have h := HO.out
        rw [List.drop_length, List.append_nil] at h
        unfold OB
        rw [markB_length]
        exact h

set_option maxHeartbeats 400000 in
theorem heldBoolS_any (v : Value) (k : Int) (n : Nat) (w : World) (hv : RB w v (markB k n)) (hk0 : 0 ≤ k) (hk1 : k + n ≤ 9223372036854775807) :
    Calls Try.prog 39 #[v, .int .i64 k] w fun e w' => e = .returned (.int .i64 (k + n)) ∧ w = w' := by
  obtain ⟨hl, A, c, rfl, hx⟩ := hv
  rw [markB_length] at hl ⊢
  go_enter Try.func39, Try.ntmps39
  go_wp2
  go_loop [1, 5] (fun q i => ∃ j : Nat, j ≤ n ∧ i = .int .i64 j ∧ q = .int .i64 (k + j)) (fun _ i => n - (intOf i).toNat)
  case atStart => exact ⟨0, Nat.zero_le _, rfl, by simp⟩
  case round =>
    obtain ⟨j, hj, rfl, rfl⟩ := hrel
    by_cases hlt : j < n
    · obtain ⟨b, off, rfl, hx'⟩ := hx (by intro h; have := congrArg List.length h; rw [markB_length] at this; simp at this; omega)
      have hc := hx' j _ (markB_get k hlt)
      clear hx hx'
      cases hmb : ((k + (j : Int)) % 3 == 0)
      all_goals
        rw [hmb] at hc
        go_wp2
        go_round
        case rel => exact ⟨j + 1, by omega, by go_num, by go_num⟩
        case measure => simp [intOf]; omega
    · obtain rfl : j = n := by omega
      go_wp2
      go_ret
      exact ⟨rfl, rfl⟩

end Go.Proofs.Ytgboaaccdfaoiaa
