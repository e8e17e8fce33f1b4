/- Rows of rows of places. -/
import Derived.Test.YtbghcoihndlihaaPl
import Derived.Test.YtbghcoihndlihaaM5
namespace Go.Proofs.Ytbghcoihndlihaa
open Go.ChangeShapes Go.WideShapes Go.ChangeAt Go.RowKit Go.Joins

/-- Row G holds n rows of the call's own, from block B on, no two of them in one block. -/
def QRow (w : World) (B G n : Nat) (row : Nat → List MoveD) : Prop :=
  ∃ cur : Array Value, w.heap[G]? = some (.cells cur 26 (0, 0)) ∧ cur.size = n ∧ (∀ j, j < n → ∃ v, cur[j]? = some v ∧ OP w B v (row j)) ∧
    ∀ (i j : Nat) (u v : Value), i ≠ j → cur[i]? = some u → cur[j]? = some v → u.ownBlock = none ∨ u.ownBlock ≠ v.ownBlock

theorem QRow.start {w : World} (n : Nat) : QRow (w.alloc (.cells (madeCells #[.slice none 0 0] n) 26)) (w.heap.size + 1) w.heap.size n fun _ => [] := by
  have hc : ∀ j v, (madeCells #[.slice none 0 0] n)[j]? = some v → v = Value.slice none 0 0 := fun j v hv => by
    rw [← Array.getElem?_toList, toList_madeCells_one] at hv
    exact (List.mem_replicate.1 (List.mem_of_getElem? hv)).2
  refine ⟨_, heap_alloc_new w _, size_madeCells _ _, fun j hj => ?_, fun i j u v _ hu _ => ?_⟩
  · refine ⟨_, Array.getElem?_eq_getElem (by rw [size_madeCells]; exact hj), ?_⟩
    rw [hc j _ (Array.getElem?_eq_getElem (by rw [size_madeCells]; exact hj))]
    exact World.ownsRow_nil _ _ _ _
  · rw [hc i u hu]; exact .inl rfl

theorem QRow.get {w : World} {B G n : Nat} {row : Nat → List MoveD} (h : QRow w B G n row) {j : Nat} (hj : j < n) : ∃ v, w.cell? ⟨G, j, none⟩ = some v ∧ OP w B v (row j) := by
  obtain ⟨cur, h1, h2, h3, _⟩ := h
  obtain ⟨v, hv, ho⟩ := h3 j hj
  exact ⟨v, (cell_of_row w G j cur _ (0, 0) h1).trans hv, ho⟩
theorem QRow.frozen {w : World} {B G n : Nat} {row : Nat → List MoveD} (h : QRow w B G n row) (j : Nat) : w.frozen? ⟨G, j, none⟩ = false := by
  obtain ⟨cur, h1, _⟩ := h
  simp [World.frozen?, h1]
theorem QRow.lt {w : World} {B G n : Nat} {row : Nat → List MoveD} (h : QRow w B G n row) : G < w.heap.size := by
  obtain ⟨cur, h1, _⟩ := h
  exact (Array.getElem?_eq_some_iff.1 h1).1
theorem QRow.below {w w' : World} {B G n : Nat} {row : Nat → List MoveD} (h : QRow w B G n row) (hb : Below w.heap.size w w') : QRow w' B G n row := by
  have hG := h.lt
  obtain ⟨cur, h1, h2, h3, h4⟩ := h
  refine ⟨cur, (hb.block _ hG).trans h1, h2, fun j hj => ?_, h4⟩
  obtain ⟨v, hv, ho⟩ := h3 j hj
  exact ⟨v, hv, ho.below hb fun k hk => (ho.lt k hk).2⟩
theorem QRow.congr {w : World} {B G n : Nat} {row row' : Nat → List MoveD} (h : QRow w B G n row) (he : ∀ j, j < n → row' j = row j) : QRow w B G n row' := by
  obtain ⟨cur, h1, h2, h3, h4⟩ := h
  exact ⟨cur, h1, h2, fun j hj => by rw [he j hj]; exact h3 j hj, h4⟩

/-- One row has got one more, and lies perhaps elsewhere. -/
theorem QRow.append {w w' : World} {B G n j : Nat} {row : Nat → List MoveD} {v v' : Value} {ys : List MoveD} (h : QRow w B G n row) (hj : j < n) (hB : B = G + 1) (hc : w.cell? ⟨G, j, none⟩ = some v) (ho : OP w' B v' ys)
    (hg : w.grownBy w' v.ownBlock) (hat : v'.ownBlock = v.ownBlock ∨ ∃ k, v'.ownBlock = some k ∧ w.heap.size ≤ k) : QRow (w'.setCell ⟨G, j, none⟩ v') B G n fun i => if i = j then ys else row i := by
  have hG := h.lt
  obtain ⟨cur, h1, h2, h3, h4⟩ := h
  obtain ⟨v0, hv0, ho0⟩ := h3 j hj
  have hvj : cur[j]? = some v := (cell_of_row w G j cur _ (0, 0) h1).symm.trans hc
  rw [hvj] at hv0
  injection hv0 with hv0
  subst hv0
  have hne : some G ≠ v.ownBlock := fun e => by have := (ho0.lt G e.symm).1; omega
  have h1' : w'.heap[G]? = some (.cells cur 26 (0, 0)) := (hg.block G hG hne).trans h1
  have hset := heap_setCell_same w' G j cur _ v' h1'
  have hfar : ∀ {u : Value} {xs : List MoveD}, OP w' B u xs → OP (w'.setCell ⟨G, j, none⟩ v') B u xs := fun {u xs} hu => by
    have hgr : w'.grownBy (w'.setCell ⟨G, j, none⟩ v') (some G) := set_grown w' G j v'
    refine hu.grown hgr ?_
    rcases hob : u.ownBlock with _ | k
    · exact .inl rfl
    · refine .inr fun e => ?_
      injection e with e
      have := (hu.lt k hob).1
      omega
  refine ⟨cur.setIfInBounds j v', hset, by simpa using h2, fun i hi => ?_, fun i i' u u' hii hu hu' => ?_⟩
  · by_cases e : i = j
    · subst e
      rw [Array.getElem?_setIfInBounds, if_pos rfl, if_pos (by omega)]
      simp only [if_true]
      exact ⟨v', rfl, hfar ho⟩
    · rw [Array.getElem?_setIfInBounds, if_neg (by omega)]
      simp only [if_neg e]
      obtain ⟨x, hx, hox⟩ := h3 i hi
      exact ⟨x, hx, hfar (hox.grown hg (h4 i j x v e hx hvj))⟩
  · rw [Array.getElem?_setIfInBounds] at hu hu'
    by_cases e : j = i
    · subst e
      rw [if_pos rfl, if_pos (by omega)] at hu
      rw [if_neg hii] at hu'
      injection hu with hu
      subst hu
      rcases hat with h | ⟨k, h, hk⟩
      · rw [h]; exact h4 j i' v u' hii hvj hu'
      · rw [h]
        refine .inr fun e => ?_
        obtain ⟨x, hx, hox⟩ := h3 i' (by have := (Array.getElem?_eq_some_iff.1 hu').1; omega)
        rw [hu'] at hx
        injection hx with hx
        subst hx
        have := (hox.lt k e.symm).2
        omega
    · rw [if_neg e] at hu
      by_cases e' : j = i'
      · subst e'
        rw [if_pos rfl, if_pos (by omega)] at hu'
        injection hu' with hu'
        subst hu'
        rcases hat with h | ⟨k, h, hk⟩
        · rw [h]; exact h4 i j u v hii hu hvj
        · rw [h]
          rcases hob : u.ownBlock with _ | k'
          · exact .inl rfl
          · refine .inr fun e => ?_
            obtain ⟨x, hx, hox⟩ := h3 i (by have := (Array.getElem?_eq_some_iff.1 hu).1; omega)
            rw [hu] at hx
            injection hx with hx
            subst hx
            have := (hox.lt k' hob).2
            injection e with e
            omega
      · rw [if_neg e'] at hu'
        exact h4 i i' u u' hii hu hu'

/-- The blocks of the rows of G. -/
def Owns (w : World) (G : Nat) (k : Nat) : Prop := k = G ∨ ∃ (j : Nat) (v : Value), w.cell? ⟨G, j, none⟩ = some v ∧ v.ownBlock = some k

theorem QRow.owns {w : World} {B G n : Nat} {row : Nat → List MoveD} (h : QRow w B G n row) {k : Nat} (hk : Owns w G k) : k = G ∨ (B ≤ k ∧ k < w.heap.size) := by
  rcases hk with rfl | ⟨j, v, hv, hk⟩
  · exact .inl rfl
  · have hj : j < n := by
      obtain ⟨cur, h1, h2, _⟩ := h
      rw [cell_of_row w G j cur _ (0, 0) h1] at hv
      have := (Array.getElem?_eq_some_iff.1 hv).1
      omega
    obtain ⟨u, hu, ho⟩ := h.get hj
    rw [hv] at hu
    injection hu with hu
    subst hu
    exact .inr (ho.lt k hk)

theorem Owns.below {w w' : World} {G k B : Nat} (h : Owns w' G k) (hb : Below B w w') (hG : G < B) : Owns w G k := by
  rcases h with rfl | ⟨j, v, hv, hk⟩
  · exact .inl rfl
  · exact .inr ⟨j, v, (hb.cell (p := ⟨G, j, none⟩) hG).symm.trans hv, hk⟩

theorem Owns.fw {w w' : World} {G k : Nat} {P : Nat → Prop} (h : Owns w' G k) (hf : Fw P w w') (hG : G < w.heap.size) (hn : ¬ P G) : Owns w G k := by
  rcases h with rfl | ⟨j, v, hv, hk⟩
  · exact .inl rfl
  · exact .inr ⟨j, v, (World.cell?_of_block (a := ⟨G, j, none⟩) (hf.block G hG hn)).symm.trans hv, hk⟩

theorem Owns.append {w w' : World} {G j k : Nat} {v v' : Value} (hG : G < w.heap.size) (hne : some G ≠ v.ownBlock) (hc : w.cell? ⟨G, j, none⟩ = some v) (hg : w.grownBy w' v.ownBlock)
    (hat : v'.ownBlock = v.ownBlock ∨ ∃ k, v'.ownBlock = some k ∧ w.heap.size ≤ k) (h : Owns (w'.setCell ⟨G, j, none⟩ v') G k) : Owns w G k ∨ w.heap.size ≤ k := by
  have hcw : ∀ i : Nat, w'.cell? ⟨G, i, none⟩ = w.cell? ⟨G, i, none⟩ := fun i => World.cell?_of_block (a := ⟨G, i, none⟩) (hg.block G hG hne)
  rcases h with rfl | ⟨i, u, hu, hk⟩
  · exact .inl (.inl rfl)
  by_cases e : i = j
  · subst e
    rw [World.cell?_setCell_same w' ⟨G, i, none⟩ v' ((hcw i).trans hc)] at hu
    injection hu with hu
    subst hu
    rcases hat with h' | ⟨k', h', hk'⟩
    · exact .inl (.inr ⟨i, v, hc, h'.symm.trans hk⟩)
    · rw [h'] at hk
      injection hk with hk
      exact .inr (by omega)
  · rw [World.cell?_setCell_other _ _ _ _ (by intro e'; injection e' with _ e'; omega), hcw i] at hu
    exact .inl (.inr ⟨i, u, hu, hk⟩)

/-- What a call does that adds to one of the rows: the other old blocks stay, and the rows lie where they lay or in new blocks. -/
structure Adds (w w' : World) (G : Nat) : Prop where
  fw : Fw (Owns w G) w w'
  owns : ∀ k, Owns w' G k → Owns w G k ∨ w.heap.size ≤ k

theorem Adds.refl (w : World) (G : Nat) : Adds w w G := ⟨Fw.refl _ _, fun _ h => .inl h⟩
theorem Adds.trans {w w' w'' : World} {G : Nat} (h : Adds w w' G) (k : Adds w' w'' G) : Adds w w'' G := by
  have hs := h.fw.size
  refine ⟨h.fw.trans k.fw fun i hi ho => ?_, fun i ho => ?_⟩
  · rcases h.owns i ho with h | h
    · exact h
    · omega
  · rcases k.owns i ho with h' | h'
    · exact h.owns i h'
    · exact .inr (by omega)
theorem Adds.below {w w' : World} {G : Nat} (h : Below w.heap.size w w') (hG : G < w.heap.size) : Adds w w' G := ⟨Fw.below h, fun _ ho => .inl (ho.below h hG)⟩
theorem Adds.append {w w' : World} {B G n j : Nat} {row : Nat → List MoveD} {v v' : Value} (h : QRow w B G n row) (hB : B = G + 1) (hj : j < n) (hc : w.cell? ⟨G, j, none⟩ = some v) (hg : w.grownBy w' v.ownBlock)
    (hat : v'.ownBlock = v.ownBlock ∨ ∃ k, v'.ownBlock = some k ∧ w.heap.size ≤ k) : Adds w (w'.setCell ⟨G, j, none⟩ v') G := by
  have hG := h.lt
  have hne : some G ≠ v.ownBlock := fun e => by
    obtain ⟨u, hu, ho⟩ := h.get hj
    rw [hc] at hu
    injection hu with hu
    subst hu
    have := (ho.lt G e.symm).1
    omega
  refine ⟨?_, fun k hk => Owns.append hG hne hc hg hat hk⟩
  refine (Fw.grown (P := Owns w G) hg fun g hgr _ => .inr ⟨j, v, hc, hgr⟩).trans (Fw.set (P := Owns w G) w' (.inl rfl) j v') fun i _ h => h

/-- All below the rows stays. -/
theorem Adds.toBelow {w w' : World} {B G n : Nat} {row : Nat → List MoveD} (h : Adds w w' G) (hr : QRow w B G n row) (hB : B = G + 1) : Below G w w' :=
  h.fw.toBelow (Nat.le_of_lt hr.lt) fun k hk ho => by
    rcases hr.owns ho with rfl | h <;> omega
/-- What lies in no row stays. -/
theorem Adds.kept {w w' : World} {G : Nat} (h : Adds w w' G) {Z : Zn} (hZ : ∀ b, Z.D b → b < w.heap.size ∧ ¬ Owns w G b) : Kept Z Z w w' :=
  ⟨fun _ h => h, fun h => h, fun b hb => h.fw.block b (hZ b hb).1 (hZ b hb).2⟩

end Go.Proofs.Ytbghcoihndlihaa
