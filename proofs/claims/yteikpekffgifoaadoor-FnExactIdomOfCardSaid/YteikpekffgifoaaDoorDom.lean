/- domsByPreds of the program, and rows of sets. -/
import Derived.Test.YteikpekffgifoaaDoorDomP
import Derived.Test.YteikpekffgifoaaDoorBs
import Derived.Test.YteikpekffgifoaaDoorFr
namespace Go.Proofs.YteikpekffgifoaaDoor
open Go.ChangeShapes Go.WideShapes Go.ChangeAt Go.RowKit Go.Joins

def uv (n : Nat) : Value := .int .u64 (n : Int)

/-- The n sets of block q. -/
def UL (w : World) (q n : Nat) (D : List Nat) : Prop := D.length = n ∧ w.ownsRow q 47 1 (.slice (some ⟨q, 0, none⟩) n n) n (D.map uv)
theorem UL.cell {w : World} {q n k : Nat} {D : List Nat} (h : UL w q n D) (hk : k < n) : w.cell? ⟨q, k, none⟩ = some (.int .u64 ((D.getD k 0 : Nat) : Int)) := by
  have hlt : k < D.length := by rw [h.1]; exact hk
  rw [World.ownsRow.cellAt h.2 k (by omega), List.getElem?_map, List.getElem?_eq_getElem hlt, List.getD_eq_getElem?_getD, List.getElem?_eq_getElem hlt]; rfl
theorem UL.frozen {w : World} {q n : Nat} {D : List Nat} (h : UL w q n D) (k : Nat) : w.frozen? ⟨q, k, none⟩ = false := World.ownsRow.frozenAt h.2 k
theorem UL.set {w : World} {q n : Nat} {D : List Nat} (h : UL w q n D) (k x : Nat) : UL (w.setCell ⟨q, k, none⟩ (.int .u64 (x : Int))) q n (D.set k x) := by
  refine ⟨by simp [h.1], ?_⟩
  have := (World.ownsRow.stored h.2 k (uv x)).1
  rw [← List.map_set] at this
  exact this
theorem UL.fw {w w' : World} {q n : Nat} {D : List Nat} {P : Nat → Prop} (h : UL w q n D) (hf : Fw P w w') (hn : ¬ P q) : UL w' q n D :=
  ⟨h.1, own_fw h.2 hf fun k hk => by injection hk with hk; subst hk; exact hn⟩
theorem UL.lt {w : World} {q n : Nat} {D : List Nat} (h : UL w q n D) : q < w.heap.size := (World.ownsRow.lt h.2 q rfl).2
theorem UL.start (w : World) (n : Nat) (hm : n ≤ maxLen) : UL (w.alloc (.cells (madeCells #[.int .u64 0] n) 47)) w.heap.size n (List.replicate n 0) := by
  refine ⟨by simp, by simp, .inr ⟨w.heap.size, n, _, rfl, Nat.le_refl _, heap_alloc_new w _, Nat.le_refl _, hm, by simp [size_madeCells], ?_⟩⟩
  rw [toList_madeCells_one]
  simp [uv]
/-- The sum of the numbers that lie there. -/
def sumAt (w : World) (q n : Nat) : Nat := sumD ((List.range n).map fun k => match w.cell? ⟨q, k, none⟩ with
  | some (.int _ m) => m.toNat
  | _ => 0)
theorem UL.sum {w : World} {q n : Nat} {D : List Nat} (h : UL w q n D) : sumAt w q n = sumD D := by
  unfold sumAt
  congr 1
  apply List.ext_getElem?
  intro k
  by_cases hk : k < n
  · have hlt : k < D.length := by rw [h.1]; exact hk
    rw [List.getElem?_map, List.getElem?_range hk, Option.map_some, h.cell hk, List.getElem?_eq_getElem hlt, List.getD_eq_getElem?_getD, List.getElem?_eq_getElem hlt]; rfl
  · rw [List.getElem?_eq_none (by simp; omega), List.getElem?_eq_none (by rw [h.1]; omega)]

theorem all_lt {x : Nat} (h : x ≤ allBits) : x < 18446744073709551616 := Nat.lt_of_le_of_lt h (by decide)

set_option maxHeartbeats 1000000 in
theorem domsByPreds_any (D : List Nat) (q n : Nat) (v : Value) (ps : List Int) (w : World) (hD : UL w q n D) (hv : RI w v ps) (hps : ∀ p ∈ ps, 0 ≤ p ∧ p < (n : Int)) (hlt : ∀ i : Nat, D.getD i 0 ≤ allBits) :
    Calls Tryd.prog 51 #[.slice (some ⟨q, 0, none⟩) n n, v] w fun e w' => e = .returned (.int .u64 ((meetD D ps : Nat) : Int)) ∧ w = w' := by
  obtain ⟨hle, A, c, rfl, hx⟩ := hv
  go_enter Tryd.func51, Tryd.ntmps51
  go_wp2_with fail
  go_loopw [5, 10] (fun s i wr => ∃ k : Nat, k ≤ ps.length ∧ i = .int .i64 k ∧ s = .int .u64 ((meetD D (ps.take k) : Nat) : Int) ∧ wr = w) (fun _ i _ => ps.length - (intOf i).toNat)
  case atStart => exact ⟨0, Nat.zero_le _, rfl, rfl, rfl⟩
  case round =>
    obtain ⟨k, hk, rfl, rfl, rfl⟩ := hrel
    by_cases hkl : k < ps.length
    case neg =>
      obtain rfl : k = ps.length := by omega
      go_wp2_with fail
      go_ret
      exact ⟨by simp, rfl⟩
    have hxk : ps[k]? = some ps[k] := List.getElem?_eq_getElem hkl
    have hp := hps ps[k] (List.getElem_mem hkl)
    generalize ps[k] = p at hxk hp
    obtain ⟨b, off, rfl, hx'⟩ := hx (by rintro rfl; simp at hkl)
    have hc := hx' k _ hxk
    have ht := meetD_take (D := D) hxk
    obtain ⟨m, rfl⟩ : ∃ m : Nat, p = m := ⟨p.toNat, by omega⟩
    rw [Int.toNat_natCast] at ht
    have hm : m < n := by omega
    have hm' : (m : Int) < (n : Int) := by omega
    have hm0 : 0 ≤ (m : Int) := by omega
    have hcm := hD.cell hm
    have hl := all_lt (hlt m)
    have hml := all_lt (meetD_le D (ps.take k))
    generalize D.getD m 0 = d at ht hcm hl
    clear hx' hxk hp
    by_cases h0 : d = 0
    · subst h0
      rw [if_pos rfl] at ht
      have hne : ((((0 : Nat)) : Int) != 0) = false := rfl
      have HT := Lib.hid ht
      clear ht
      go_wp2_with fail
      go_roundw
      case rel => exact ⟨k + 1, by omega, by go_num, by rw [HT.out], trivial⟩
      case measure => simp [intOf]; omega
    · rw [if_neg h0] at ht
      have hne : ((d : Int) != 0) = true := by simp; omega
      have HT := Lib.hid ht
      clear ht h0
      generalize meetD D (ps.take k) = s at *
      go_wp2_with (first
        | (go_at_call 75; refine (both_any s d _ hml hl).mono ?_; rintro e w' ⟨rfl, rfl⟩))
      go_roundw
      case rel => exact ⟨k + 1, by omega, by go_num, by rw [HT.out], trivial⟩
      case measure => simp [intOf]; omega

end Go.Proofs.YteikpekffgifoaaDoor
