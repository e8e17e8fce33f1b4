/- Slices of int64: how they read, whose they are, and what eqInt64S of the laws does. -/
import Derived.Test.YtbghcoihndlihaaLaw
import Derived.Deep.QuietTactic
import Derived.BigQuiet
import Derived.Deep.AppendLies
import Derived.LoopTactic
import Derived.Lib.Hide
namespace Go.Proofs.Ytbghcoihndlihaa
open Go.ChangeShapes Go.WideShapes Go.ChangeAt Go.RowKit Go.Joins

theorem maxLen_is : maxLen = 9223372036854775807 := rfl
def iv (n : Int) : Value := .int .i64 n

/-- The slice value v reads as the integers xs. -/
def RI (w : World) (v : Value) (xs : List Int) : Prop :=
  xs.length ≤ 9223372036854775807 ∧ ∃ A c, v = .slice A xs.length c ∧ (xs ≠ [] → ∃ b off, A = some ⟨b, off, none⟩ ∧ ∀ k u, xs[k]? = some u → w.cell? ⟨b, off + k, none⟩ = some (.int .i64 u))

/-- The slice value v is the call's own, from block B on, and reads as xs. -/
def OI (w : World) (B : Nat) (v : Value) (xs : List Int) : Prop := w.ownsRow B 2 1 v xs.length (xs.map iv)

theorem OI.ri {w : World} {B : Nat} {v : Value} {xs : List Int} (h : OI w B v xs) : RI w v xs := by
  have h0 := h
  rcases h.2 with ⟨rfl, hn⟩ | ⟨g, cap, cur, rfl, _, hg, hnc, hcm, hs, ht⟩
  · exact ⟨by omega, none, 0, by rw [hn], fun hne => absurd (List.length_eq_zero_iff.1 hn) hne⟩
  · refine ⟨by rw [maxLen_is] at hcm; omega, _, cap, rfl, fun _ => ⟨g, 0, rfl, fun k u hu => ?_⟩⟩
    have hk : k < xs.length := by
      rcases Nat.lt_or_ge k xs.length with h | h
      · exact h
      · rw [List.getElem?_eq_none h] at hu; cases hu
    have := World.ownsRow.cellAt h0 k (by omega)
    rw [Nat.zero_add, this, List.getElem?_map, hu]; rfl

theorem take_eq_of {xs ys : List Int} {k : Nat} {x : Int} (h : xs.take k = ys.take k) (hx : xs[k]? = some x) (hy : ys[k]? = some x) : xs.take (k + 1) = ys.take (k + 1) := by
  rw [List.take_add_one, List.take_add_one, h, hx, hy]

set_option maxHeartbeats 400000 in
theorem eqInt64S_any (u v : Value) (xs ys : List Int) (w : World) (hu : RI w u xs) (hv : RI w v ys) :
    Calls Try.prog 94 #[u, v] w fun e w' => e = .returned (.bool (decide (xs = ys))) ∧ ∃ n, w' = w.drewN n := by
  obtain ⟨lx, A, c, rfl, hx⟩ := hu
  obtain ⟨ly, A', c', rfl, hy⟩ := hv
  by_cases hl : xs.length = ys.length
  · have hb : ((xs.length : Int) != (ys.length : Int)) = false := by simp [hl]
    have HL := Lib.hid hl
    clear hl
    have hle : (xs.length : Int) ≤ 9223372036854775807 := by omega
    go_enter Try.func94, Try.ntmps94
    go_wp2
    go_loopw [5] (fun i wr => ∃ k : Nat, k ≤ xs.length ∧ i = .int .i64 k ∧ Hid (xs.take k = ys.take k) ∧ ∃ m, wr = w.drewN m) (fun i _ => xs.length - (intOf i).toNat)
    case atStart => exact ⟨0, Nat.zero_le _, rfl, rfl, 0, rfl⟩
    case round =>
      obtain ⟨k, hk, rfl, htk, m, rfl⟩ := hrel
      by_cases hlt : k < xs.length
      · have hxk : xs[k]? = some xs[k] := List.getElem?_eq_getElem hlt
        have hlt' : k < ys.length := by have := HL.out; omega
        have hyk : ys[k]? = some ys[k] := List.getElem?_eq_getElem hlt'
        obtain ⟨b, off, rfl, hx'⟩ := hx (by rintro rfl; simp at hlt)
        obtain ⟨b', off', rfl, hy'⟩ := hy (by rintro rfl; simp at hlt')
        have hcx := hx' k _ hxk
        have hcy := hy' k _ hyk
        have Hxk := Lib.hid hxk
        have Hyk := Lib.hid hyk
        clear hx hy hx' hy' hxk hyk
        generalize hex : xs[k] = x at *
        generalize hey : ys[k] = y at *
        clear hex hey
        by_cases hxy : x = y
        · subst hxy
          go_wp2
          go_quiet (fail)
          go_wp2
          go_roundw
          case rel => exact ⟨k + 1, by omega, by go_num, take_eq_of htk.out Hxk.out Hyk.out, m + nq, by go_simp⟩
          case measure => simp [intOf]; omega
        · have hb' : (x != y) = true := by simpa using hxy
          have HE : Hid (decide (xs = ys) = false) := by
            have h : xs ≠ ys := by
              rintro rfl
              have h1 := Hxk.out
              rw [Hyk.out] at h1
              exact hxy (by injection h1 with h1; exact h1.symm)
            simpa [Hid] using h
          clear hxy
          go_wp2
          go_quiet (fail)
          go_wp2
          go_ret
          exact ⟨by rw [HE.out]; rfl, m + nq, by go_simp⟩
      · have hk' : k = xs.length := by omega
        have HE : Hid (decide (xs = ys) = true) := by
          have h := htk.out
          rw [hk', List.take_length, HL.out, List.take_length] at h
          simpa [Hid] using h
        subst hk'
        go_wp2
        go_ret
        exact ⟨by rw [HE.out]; rfl, m, rfl⟩
  · have hb : ((xs.length : Int) != (ys.length : Int)) = true := by simp; omega
    have hne : xs ≠ ys := fun h => hl (by rw [h])
    have HE : Hid (decide (xs = ys) = false) := by simp [Hid, hne]
    clear hne hl
    go_enter Try.func94, Try.ntmps94
    go_wp2
    go_ret
    exact ⟨by rw [HE.out]; rfl, 0, rfl⟩

theorem eqInt64S_same (u v : Value) (xs : List Int) (w : World) (hu : RI w u xs) (hv : RI w v xs) :
    Calls Try.prog 94 #[u, v] w fun e w' => e = .returned (.bool true) ∧ ∃ n, w' = w.drewN n :=
  (eqInt64S_any u v xs xs w hu hv).mono fun _ _ ⟨he, hw⟩ => ⟨by rw [he]; simp, hw⟩

def markL (k : Int) (n : Nat) : List Int := (List.range n).map fun (i : Nat) => k + (i : Int)
theorem markL_length (k : Int) (n : Nat) : (markL k n).length = n := by simp [markL]
theorem markL_get (k : Int) {n j : Nat} (h : j < n) : (markL k n)[j]? = some (k + j) := by simp [markL, h]
theorem markL_zero (k : Int) : markL k 0 = [] := rfl

theorem set_step (k : Int) (xs : List Int) {j : Nat} (h : j < xs.length) :
    (((markL k j ++ xs.drop j).map iv).set j (iv (k + j))) = (markL k (j + 1) ++ xs.drop (j + 1)).map iv := by
  apply List.ext_getElem?
  intro i
  rw [List.getElem?_set, List.getElem?_map, List.getElem?_map]
  have hl : (List.map iv (markL k j ++ List.drop j xs)).length = xs.length := by simp [markL_length]; omega
  rw [hl]
  by_cases hij : j = i
  · subst hij
    rw [if_pos rfl, if_pos h, List.getElem?_append_left (by rw [markL_length]; omega), markL_get k (by omega)]; rfl
  · rw [if_neg hij]
    by_cases hlt : i < j
    · rw [List.getElem?_append_left (by rw [markL_length]; exact hlt), List.getElem?_append_left (by rw [markL_length]; omega), markL_get k hlt, markL_get k (by omega)]
    · rw [List.getElem?_append_right (by rw [markL_length]; omega), List.getElem?_append_right (by rw [markL_length]; omega), markL_length, markL_length, List.getElem?_drop, List.getElem?_drop]
      congr 2; omega

end Go.Proofs.Ytbghcoihndlihaa
