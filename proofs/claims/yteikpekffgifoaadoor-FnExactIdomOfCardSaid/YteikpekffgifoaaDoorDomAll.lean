/- domsOfAll of the program: the sets of all blocks. -/
import Derived.Test.YteikpekffgifoaaDoorDom
import Derived.Test.YteikpekffgifoaaDoorReach
import Derived.Test.YteikpekffgifoaaDoorRev
import Derived.Test.YteikpekffgifoaaDoorLawK
namespace Go.Proofs.YteikpekffgifoaaDoor
open Go.ChangeShapes Go.WideShapes Go.ChangeAt Go.RowKit Go.Joins

/-- All that are in the list have all bits. -/
def markD (L : List Int) (D : List Nat) : List Nat := L.foldl (fun D x => D.set x.toNat allBits) D
theorem markD_take {L : List Int} {k : Nat} {x : Int} (h : L[k]? = some x) (D : List Nat) : markD (L.take (k + 1)) D = (markD (L.take k) D).set x.toNat allBits := by
  unfold markD
  rw [List.take_add_one, h, Option.toList_some, List.foldl_append]; rfl
theorem markD_len (L : List Int) : ∀ D : List Nat, (markD L D).length = D.length := by
  induction L with
  | nil => intro D; rfl
  | cons x L ih => intro D; show (markD L (D.set x.toNat allBits)).length = _; rw [ih]; simp
theorem markD_get : ∀ (L : List Int) (D : List Nat) (i : Nat), (∀ x ∈ L, 0 ≤ x) → i < D.length → (markD L D).getD i 0 = if (i : Int) ∈ L then allBits else D.getD i 0
  | [], D, i, _, _ => by simp [markD]
  | x :: L, D, i, h0, hi => by
    show (markD L (D.set x.toNat allBits)).getD i 0 = _
    rw [markD_get L _ i (fun y hy => h0 y (by simp [hy])) (by simpa using hi)]
    have hx := h0 x (by simp)
    by_cases e : x.toNat = i
    · have : (i : Int) = x := by omega
      subst e
      rw [getD_set_same hi, if_pos (show ((x.toNat : Nat) : Int) ∈ x :: L by rw [this]; simp)]
      split <;> rfl
    · rw [getD_set_other e]
      have : (i : Int) ∈ x :: L ↔ (i : Int) ∈ L := by
        rw [List.mem_cons]
        constructor
        · rintro (h | h)
          · omega
          · exact h
        · exact .inr
      by_cases hm : (i : Int) ∈ L
      · rw [if_pos hm, if_pos (this.2 hm)]
      · rw [if_neg hm, if_neg (fun h => hm (this.1 h))]

theorem isPreds_of {f : FunD} : IsPreds (scF f.blocks) f.blocks.length fun j => predsF f j := fun j p hj => by
  constructor
  · intro h
    obtain ⟨m, x, rfl, hx, ht⟩ := of_mem_predsF h
    exact ⟨m, rfl, (List.getElem?_eq_some_iff.1 hx).1, by rw [scF_at hx]; exact ht⟩
  · rintro ⟨m, rfl, hm, ht⟩
    have hx : f.blocks[m]? = some f.blocks[m] := List.getElem?_eq_getElem hm
    rw [scF_at hx] at ht
    exact mem_predsF hx ht

/-- The sets of the blocks, as they should be. -/
def DomsD (f : FunD) (D : List Nat) : Prop := DInv (scF f.blocks) f.blocks.length (fun j => predsF f j) D ∧ ∀ b : Nat, b < f.blocks.length → b ≠ 0 → Rch (scF f.blocks) (-1) b → stepD D (predsF f b) b = D.getD b 0
def GivesDoms (f : FunD) (w : World) (e : Ending) (w' : World) : Prop := ∃ q D, e = .returned (.slice (some ⟨q, 0, none⟩) f.blocks.length f.blocks.length) ∧ UL w' q f.blocks.length D ∧ w.heap.size ≤ q ∧ DomsD f D ∧ Below w.heap.size w w'

theorem info_sets : (Tryd.prog.info? 47).map (fun i => (i.zero, i.size, i.bytes)) = some (some (.int .u64 0), 1, 8) := by kernel_rfl

/-- How the round over the blocks has gone so far. -/
def InRound (f : FunD) (T : List Int) (D D' : List Nat) (k : Nat) (c : Bool) : Prop :=
  DInv (scF f.blocks) f.blocks.length (fun j => predsF f j) D' ∧ sumD D' ≤ sumD D ∧ (c = true → sumD D' < sumD D) ∧ (c = false → D' = D ∧ ∀ j x, j < k → T[j]? = some x → stepD D (predsF f x) x.toNat = D.getD x.toNat 0)

theorem InRound.go {f : FunD} (h40 : f.blocks.length ≤ 40) {T : List Int} {D D' : List Nat} {k m : Nat} {c : Bool} (h : InRound f T D D' k c) (hm : m < f.blocks.length) (hm0 : m ≠ 0) (hr : Rch (scF f.blocks) (-1) m) (hT : T[k]? = some (m : Int)) :
    InRound f T D (D'.set m (stepD D' (predsF f m) m)) (k + 1) (c || decide (stepD D' (predsF f m) m ≠ D'.getD m 0)) := by
  obtain ⟨h1, h2, h3, h4⟩ := h
  have hs := h1.sum hm hm0 hr
  refine ⟨h1.step h40 isPreds_of hm hm0 hr, Nat.le_trans hs.1 h2, fun hc => ?_, fun hc => ?_⟩
  · rw [Bool.or_eq_true, decide_eq_true_iff] at hc
    rcases hc with hc | hc
    · exact Nat.lt_of_le_of_lt hs.1 (h3 hc)
    · exact Nat.lt_of_lt_of_le (hs.2 hc) h2
  · rw [Bool.or_eq_false_iff, decide_eq_false_iff_not, Decidable.not_not] at hc
    obtain ⟨rfl, h5⟩ := h4 hc.1
    have hl : m < D'.length := by rw [h1.len]; exact hm
    refine ⟨?_, fun j x hj hx => ?_⟩
    · rw [hc.2, List.getD_eq_getElem?_getD, List.getElem?_eq_getElem hl]
      exact List.set_getElem_self hl
    · by_cases e : j = k
      · subst e
        rw [hT] at hx
        injection hx with hx
        subst hx
        rw [Int.toNat_natCast]; exact hc.2
      · exact h5 j x (by omega) hx

end Go.Proofs.YteikpekffgifoaaDoor
