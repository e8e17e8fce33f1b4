/- Slices of bool: how they read, and whose they are. -/
import Derived.Test.YtbghcoihndlihaaInts
namespace Go.Proofs.Ytbghcoihndlihaa
open Go.ChangeShapes Go.WideShapes Go.ChangeAt Go.RowKit Go.Joins

def bv (b : Bool) : Value := .bool b

/-- The slice value v reads as the bools xs. -/
def RB (w : World) (v : Value) (xs : List Bool) : Prop :=
  xs.length ≤ 9223372036854775807 ∧ ∃ A c, v = .slice A xs.length c ∧ (xs ≠ [] → ∃ b off, A = some ⟨b, off, none⟩ ∧ ∀ k u, xs[k]? = some u → w.cell? ⟨b, off + k, none⟩ = some (.bool u))

/-- The slice value v is the call's own, from block B on, and reads as xs. -/
def OB (w : World) (B : Nat) (v : Value) (xs : List Bool) : Prop := w.ownsRow B 4 1 v xs.length (xs.map bv)

theorem OB.rb {w : World} {B : Nat} {v : Value} {xs : List Bool} (h : OB w B v xs) : RB w v xs := by
  have h0 := h
  rcases h.2 with ⟨rfl, hn⟩ | ⟨g, cap, cur, rfl, _, hg, hnc, hcm, hs, ht⟩
  · exact ⟨by omega, none, 0, by rw [hn], fun hne => absurd (List.length_eq_zero_iff.1 hn) hne⟩
  · refine ⟨by rw [maxLen_is] at hcm; omega, _, cap, rfl, fun _ => ⟨g, 0, rfl, fun k u hu => ?_⟩⟩
    have hk : k < xs.length := by
      rcases Nat.lt_or_ge k xs.length with h | h
      · exact h
      · rw [List.getElem?_eq_none h] at hu; cases hu
    have := World.ownsRow.cellAt h0 k (by omega)
    rw [Nat.zero_add, this, List.getElem?_map, hu]; rfl

theorem take_eq_ofB {xs ys : List Bool} {k : Nat} {x : Bool} (h : xs.take k = ys.take k) (hx : xs[k]? = some x) (hy : ys[k]? = some x) : xs.take (k + 1) = ys.take (k + 1) := by
  rw [List.take_add_one, List.take_add_one, h, hx, hy]

def markB (k : Int) (n : Nat) : List Bool := (List.range n).map fun (i : Nat) => (k + (i : Int)) % 3 == 0
theorem markB_length (k : Int) (n : Nat) : (markB k n).length = n := by simp [markB]
theorem markB_get (k : Int) {n j : Nat} (h : j < n) : (markB k n)[j]? = some ((k + j) % 3 == 0) := by simp [markB, h]
theorem markB_zero (k : Int) : markB k 0 = [] := rfl

theorem set_stepB (k : Int) (xs : List Bool) {j : Nat} (h : j < xs.length) :
    (((markB k j ++ xs.drop j).map bv).set j (bv ((k + j) % 3 == 0))) = (markB k (j + 1) ++ xs.drop (j + 1)).map bv := by
  apply List.ext_getElem?
  intro i
  rw [List.getElem?_set, List.getElem?_map, List.getElem?_map]
  have hl : (List.map bv (markB k j ++ List.drop j xs)).length = xs.length := by simp [markB_length]; omega
  rw [hl]
  by_cases hij : j = i
  · subst hij
    rw [if_pos rfl, if_pos h, List.getElem?_append_left (by rw [markB_length]; omega), markB_get k (by omega)]; rfl
  · rw [if_neg hij]
    by_cases hlt : i < j
    · rw [List.getElem?_append_left (by rw [markB_length]; exact hlt), List.getElem?_append_left (by rw [markB_length]; omega), markB_get k hlt, markB_get k (by omega)]
    · rw [List.getElem?_append_right (by rw [markB_length]; omega), List.getElem?_append_right (by rw [markB_length]; omega), markB_length, markB_length, List.getElem?_drop, List.getElem?_drop]
      congr 2; omega

end Go.Proofs.Ytbghcoihndlihaa
