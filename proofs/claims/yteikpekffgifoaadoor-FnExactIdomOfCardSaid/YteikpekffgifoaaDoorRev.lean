/- slices.Reverse at a row of the call's own; the model's loop that builds the same list. -/
import Derived.Test.YteikpekffgifoaaDoorFr
import Derived.RegionTactic
namespace Go.Proofs.YteikpekffgifoaaDoor
open Go.ChangeShapes Go.WideShapes Go.ChangeAt Go.RowKit Go.Joins

/-- The first i and the last i have changed their places. -/
def revK (xs : List Int) (i : Nat) : List Int := (List.range xs.length).map fun k => if k < i ∨ xs.length - i ≤ k then xs.getD (xs.length - 1 - k) 0 else xs.getD k 0
theorem revK_len (xs : List Int) (i : Nat) : (revK xs i).length = xs.length := by simp [revK]
theorem revK_get (xs : List Int) (i : Nat) {k : Nat} (hk : k < xs.length) : (revK xs i)[k]? = some (if k < i ∨ xs.length - i ≤ k then xs.getD (xs.length - 1 - k) 0 else xs.getD k 0) := by simp [revK, hk]
theorem getD_some {xs : List Int} {k : Nat} (hk : k < xs.length) : xs[k]? = some (xs.getD k 0) := by
  rw [List.getD_eq_getElem?_getD, List.getElem?_eq_getElem hk]; rfl
theorem revK_zero (xs : List Int) : revK xs 0 = xs := by
  apply List.ext_getElem?
  intro k
  by_cases hk : k < xs.length
  · rw [revK_get xs 0 hk, if_neg (by omega), getD_some hk]
  · rw [List.getElem?_eq_none (by rw [revK_len]; omega), List.getElem?_eq_none (by omega)]
theorem revK_end (xs : List Int) {i : Nat} (hi : xs.length ≤ 2 * i + 1) : revK xs i = xs.reverse := by
  apply List.ext_getElem?
  intro k
  by_cases hk : k < xs.length
  · rw [revK_get xs i hk, List.getElem?_reverse hk, getD_some (by omega)]
    split
    · rfl
    · rename_i h
      have : k = xs.length - 1 - k := by omega
      rw [← this]
  · rw [List.getElem?_eq_none (by rw [revK_len]; omega), List.getElem?_eq_none (by simp; omega)]
theorem revK_step (xs : List Int) {i : Nat} (hi : 2 * i + 1 < xs.length) :
    (((revK xs i).map iv).set i (iv (xs.getD (xs.length - 1 - i) 0))).set (xs.length - 1 - i) (iv (xs.getD i 0)) = (revK xs (i + 1)).map iv := by
  apply List.ext_getElem?
  intro k
  have hl : ((revK xs i).map iv).length = xs.length := by simp [revK_len]
  rw [List.getElem?_set, List.length_set, hl, List.getElem?_set, hl, List.getElem?_map, List.getElem?_map]
  by_cases hk : k < xs.length
  · rw [revK_get xs i hk, revK_get xs (i + 1) hk]
    by_cases e1 : xs.length - 1 - i = k
    · subst e1
      rw [if_pos rfl, if_pos (by omega), if_pos (by omega), Option.map_some]
      congr 3; omega
    · rw [if_neg e1]
      by_cases e2 : i = k
      · subst e2
        rw [if_pos rfl, if_pos (by omega), if_pos (by omega)]; rfl
      · rw [if_neg e2]
        by_cases h : k < i ∨ xs.length - i ≤ k
        · rw [if_pos h, if_pos (by omega)]
        · rw [if_neg h, if_neg (by omega)]
  · rw [List.getElem?_eq_none (l := revK xs i) (by rw [revK_len]; omega), List.getElem?_eq_none (l := revK xs (i + 1)) (by rw [revK_len]; omega), if_neg (by omega), if_neg (by omega)]

theorem grown_drew {a b : World} {r : Option Nat} (h : a.grownBy b r) : a.grownBy b.drew r := ⟨h.os, h.tape, h.output, h.size, h.block⟩

set_option maxHeartbeats 400000 in
theorem Reverse_any (B : Nat) (v : Value) (xs : List Int) (w : World) (hv : OI w B v xs) :
    Calls Tryd.prog 49 #[v] w fun e w' => (∃ u, e = .returned u) ∧ OI w' B v xs.reverse ∧ w.grownBy w' v.ownBlock := by
  have hlen := hv.ri.1
  by_cases h0 : xs.length = 0
  · obtain rfl := List.length_eq_zero_iff.1 h0
    obtain ⟨_, A, c, rfl, _⟩ := hv.ri
    simp only [List.length_nil] at *
    go_enter Tryd.func49, Tryd.ntmps49
    go_wp2
    go_loopw [2, 3] (fun i q wr => i = .int .i64 0 ∧ q = .int .i64 (-1) ∧ wr = w) (fun _ _ _ => 0)
    case atStart => exact ⟨rfl, rfl, rfl⟩
    case round =>
      obtain ⟨rfl, rfl, rfl⟩ := hrel
      go_wp2
      go_end0
      exact ⟨⟨_, rfl⟩, hv, World.grownBy.refl _ _⟩
  · obtain ⟨g, cap, rfl, hBg, hg⟩ := World.ownsRow.form hv (by omega)
    have HV := Lib.hid hv
    clear hv
    have hpos : 0 < xs.length := by omega
    clear h0
    go_enter Tryd.func49, Tryd.ntmps49
    go_wp2
    go_loopw [2, 3] (fun i q wr => ∃ (k : Nat) (jz : Int), k ≤ xs.length ∧ i = .int .i64 k ∧ q = .int .i64 jz ∧ jz = (xs.length : Int) - 1 - (k : Int) ∧ Hid (wr.ownsRow B 2 1 (.slice (some ⟨g, 0, none⟩) xs.length cap) xs.length ((revK xs k).map iv)) ∧ Hid (w.grownBy wr (some g))) (fun i _ _ => xs.length - (intOf i).toNat)
    case atStart => exact ⟨0, _, Nat.zero_le _, rfl, rfl, by omega, (by rw [revK_zero]; exact HV.out), World.grownBy.refl _ _⟩
    case round =>
      obtain ⟨k, jz, hk, rfl, rfl, hjz, HO, HG⟩ := hrel
      have HJ := Lib.hid hjz
      by_cases hlt : 2 * k + 1 < xs.length
      · obtain ⟨jn, rfl⟩ : ∃ jn : Nat, jz = jn := ⟨jz.toNat, by omega⟩
        have hjn : jn = xs.length - 1 - k := by omega
        have h1 : (k : Int) < (jn : Int) := by omega
        have h2 : (jn : Int) < (xs.length : Int) := by omega
        have h3 : 0 ≤ (k : Int) := by omega
        have h4 : (k : Int) < (xs.length : Int) := by omega
        have h5 : 0 ≤ (jn : Int) := by omega
        have hci : wr.cell? ⟨g, k, none⟩ = some (.int .i64 (xs.getD k 0)) := by
          rw [World.ownsRow.cellAt HO.out k (by omega), List.getElem?_map, revK_get xs k (by omega), if_neg (by omega)]; rfl
        have hcj : wr.cell? ⟨g, jn, none⟩ = some (.int .i64 (xs.getD jn 0)) := by
          rw [World.ownsRow.cellAt HO.out jn (by omega), List.getElem?_map, revK_get xs k (by omega), if_neg (by omega)]; rfl
        have hfi : wr.frozen? ⟨g, k, none⟩ = false := World.ownsRow.frozenAt HO.out k
        have hfj : wr.frozen? ⟨g, jn, none⟩ = false := World.ownsRow.frozenAt HO.out jn
        have HJN := Lib.hid hjn
        generalize hx : xs.getD k 0 = x at *
        generalize hy : xs.getD jn 0 = y at *
        have HX := Lib.hid hx
        have HY := Lib.hid hy
        clear hjz hjn hx hy
        go_wp2
        go_region
        go_wp2
        go_roundw
        case rel =>
          refine ⟨k + 1, (jn : Int) - 1, by omega, by go_num, rfl, by have := HJN.out; omega, ?_, ?_⟩
          · have h := (World.ownsRow.stored (World.ownsRow.stored HO.out k (iv y)).1 jn (iv x)).1
            have hs := revK_step xs (i := k) (by have := HJN.out; omega)
            rw [← HJN.out, HX.out, HY.out] at hs
            rw [hs] at h
            exact h
          · exact grown_drew (World.grownBy.trans (World.grownBy.trans HG.out (World.ownsRow.stored HO.out k (iv y)).2) (World.ownsRow.stored (World.ownsRow.stored HO.out k (iv y)).1 jn (iv x)).2)
        case measure => simp [intOf]; omega
      · have hge : jz ≤ (k : Int) := by omega
        clear hjz
        go_wp2
        go_end0
        refine ⟨⟨_, rfl⟩, ?_, HG.out⟩
        have h := HO.out
        rw [revK_end xs (by omega)] at h
        unfold OI
        rw [List.length_reverse]
        exact h

end Go.Proofs.YteikpekffgifoaaDoor
