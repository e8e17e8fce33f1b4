/- M4, M5, joined. -/
import Derived.Test.YtnjmlhokkhkaaaaGreatDoorQ3
import Derived.Laws.EntriesVeiled
import Derived.Laws.OwnMore
namespace Go.Proofs.YtnjmlhokkhkaaaaGreatDoor

/- ok of a block, by the program: all its parts, asked by their method values. -/
section
open Go.ChangeShapes Go.WideShapes Go.ChangeAt Go.RowKit Go.Joins

theorem parts_0 (B : Value) (w : World) : (Instr.index 139 (.agg #[.func (.func 86) #[B] #[], .func (.func 87) #[B] #[], .func (.func 88) #[B] #[], .func (.func 89) #[B] #[], .func (.func 90) #[B] #[]]) (.int .i64 0)).run Tryz.prog w = .ok (.func (.func 86) #[B] #[]) w := by kernel_rfl
theorem parts_1 (B : Value) (w : World) : (Instr.index 139 (.agg #[.func (.func 86) #[B] #[], .func (.func 87) #[B] #[], .func (.func 88) #[B] #[], .func (.func 89) #[B] #[], .func (.func 90) #[B] #[]]) (.int .i64 1)).run Tryz.prog w = .ok (.func (.func 87) #[B] #[]) w := by kernel_rfl
theorem parts_2 (B : Value) (w : World) : (Instr.index 139 (.agg #[.func (.func 86) #[B] #[], .func (.func 87) #[B] #[], .func (.func 88) #[B] #[], .func (.func 89) #[B] #[], .func (.func 90) #[B] #[]]) (.int .i64 2)).run Tryz.prog w = .ok (.func (.func 88) #[B] #[]) w := by kernel_rfl
theorem parts_3 (B : Value) (w : World) : (Instr.index 139 (.agg #[.func (.func 86) #[B] #[], .func (.func 87) #[B] #[], .func (.func 88) #[B] #[], .func (.func 89) #[B] #[], .func (.func 90) #[B] #[]]) (.int .i64 3)).run Tryz.prog w = .ok (.func (.func 89) #[B] #[]) w := by kernel_rfl
theorem parts_4 (B : Value) (w : World) : (Instr.index 139 (.agg #[.func (.func 86) #[B] #[], .func (.func 87) #[B] #[], .func (.func 88) #[B] #[], .func (.func 89) #[B] #[], .func (.func 90) #[B] #[]]) (.int .i64 4)).run Tryz.prog w = .ok (.func (.func 90) #[B] #[]) w := by kernel_rfl

def partP (names : Int) (blocks preds : Nat) (x : BlockD) : Nat → Prop
  | 0 => PhisP names preds x.phis
  | 1 => MovesP names x.head
  | 2 => BodyP names x.body
  | 3 => MovesP names x.tail
  | _ => EndP names blocks x.fin
def BlockAll (names : Int) (blocks preds : Nat) (x : BlockD) : Prop := PhisP names preds x.phis ∧ BlockP names blocks x
theorem all_parts {names : Int} {blocks preds : Nat} {x : BlockD} (h : ∀ j, j < 5 → partP names blocks preds x j) : BlockAll names blocks preds x :=
  ⟨h 0 (by omega), h 4 (by omega), h 1 (by omega), h 3 (by omega), h 2 (by omega)⟩
theorem part_of {names : Int} {blocks preds : Nat} {x : BlockD} (h : BlockAll names blocks preds x) : ∀ j, partP names blocks preds x j
  | 0 => h.1
  | 1 => h.2.2.1
  | 2 => h.2.2.2.2
  | 3 => h.2.2.2.1
  | _ + 4 => h.2.1

set_option maxRecDepth 10000 in
set_option maxHeartbeats 2000000 in
theorem ok_any (x : BlockD) (cs : List Value) (names : Int) (blocks preds : Nat) (w : World) (Z : Zn) (hv : EBlock w Z x cs) (hD : ∀ b, Z.D b → b < w.heap.size) (hnm : names ≤ 150) (hbk : 1 ≤ blocks) :
    Calls Tryz.prog 47 #[.agg cs.toArray, .agg #[.int .i64 names, .int .i64 blocks, .int .i64 preds]] w (GivesB (BlockAll names blocks preds x) w) := by
  have HV := Lib.hid hv
  obtain ⟨A0, c0, A1, c1, A2, c2, A3, c3, rfl, _, _, _, _⟩ := hv.parts
  clear hv
  go_enter Tryz.func47, Tryz.ntmps47
  go_wp2
  go_loopw [18] (fun i wr => ∃ k : Nat, k ≤ 5 ∧ i = .int .i64 k ∧ Hid (Below (w.heap.size + 2) ((w.alloc (.cells #[.slice A0 x.phis.length c0, .slice A1 x.head.length c1, .slice A2 x.body.length c2, .slice A3 x.tail.length c3, .int .i64 x.fin.k, .int .i64 x.fin.a, .int .i64 x.fin.t, .int .i64 x.fin.l] 60)).alloc (.cells #[.int .i64 names, .int .i64 blocks, .int .i64 preds] 85)) wr) ∧ Hid (∀ j, j < k → partP names blocks preds x j)) (fun i _ => 5 - (intOf i).toNat)
  case atStart => exact ⟨0, by omega, rfl, Below.refl _ _, fun _ h => absurd h (by omega)⟩
  case round =>
    obtain ⟨k, hk, rfl, HB, H1⟩ := hrel
    have HB0 : Hid (Below w.heap.size w wr) := (((Below.refl _ _).alloc (Nat.le_refl _) _).alloc (by simp) _).trans (HB.out.mono (by omega))
    have hzw : w.heap.size + 2 ≤ wr.heap.size := by have := HB.out.size; simp at this; omega
    have f0 : wr.cell? ⟨w.heap.size + 1, 0, none⟩ = some (.int .i64 names) := (HB.out.cell (p := ⟨w.heap.size + 1, 0, none⟩) (by simp)).trans (by go_simp)
    have f1 : wr.cell? ⟨w.heap.size + 1, 1, none⟩ = some (.int .i64 blocks) := (HB.out.cell (p := ⟨w.heap.size + 1, 1, none⟩) (by simp)).trans (by go_simp)
    have f2 : wr.cell? ⟨w.heap.size + 1, 2, none⟩ = some (.int .i64 preds) := (HB.out.cell (p := ⟨w.heap.size + 1, 2, none⟩) (by simp)).trans (by go_simp)
    have HVr := Lib.hid (HV.out.keep (Kept.below HB0.out hD))
    have hDr : ∀ b, Z.D b → b < wr.heap.size := fun b hb => by have := hD b hb; omega
    have HDr := Lib.hid hDr
    clear hDr
    by_cases h5 : k = 5
    · subst h5
      go_wp2
      go_ret
      exact gives_yes (all_parts H1.out) HB0.out
    have hstep : ∀ j, j = k → partP names blocks preds x j → ∀ i, i < k + 1 → partP names blocks preds x i := fun j hj hp i hi => by
      by_cases e : i = k
      · subst e; subst hj; exact hp
      · exact H1.out i (by omega)
    have HST := Lib.hid hstep
    clear hstep
    have hk' : k = 0 ∨ k = 1 ∨ k = 2 ∨ k = 3 ∨ k = 4 := by omega
    clear h5 hk
    rcases hk' with rfl | rfl | rfl | rfl | rfl
    · have tb := parts_0 (.agg ([.slice A0 x.phis.length c0, .slice A1 x.head.length c1, .slice A2 x.body.length c2, .slice A3 x.tail.length c3, .int .i64 x.fin.k, .int .i64 x.fin.a, .int .i64 x.fin.t, .int .i64 x.fin.l] : List Value).toArray)
      go_wp2_with fail
      refine (phisOk_any x _ names blocks preds _ Z HVr.out HDr.out).mono ?_
      rintro e w1 ⟨r, rfl, hr, hb1⟩
      have HR := Lib.hid hr
      have HB1 := Lib.hid (HB.out.trans (hb1.mono hzw))
      have HB01 := Lib.hid (HB0.out.trans (hb1.mono HB0.out.size))
      clear hb1 hr tb
      cases r
      · have HN : Hid (¬ BlockAll names blocks preds x) := fun h => by have := HR.out.2 (part_of h 0); cases this
        go_wp2_with fail
        go_ret
        exact gives_no HN.out HB01.out
      · have HP := Lib.hid (HR.out.1 rfl)
        clear HR
        go_wp2_with fail
        go_roundw
        case rel => exact ⟨0 + 1, by omega, by go_num, HB1, HST.out 0 rfl HP.out⟩
        case measure => simp [intOf]
    · have tb := parts_1 (.agg ([.slice A0 x.phis.length c0, .slice A1 x.head.length c1, .slice A2 x.body.length c2, .slice A3 x.tail.length c3, .int .i64 x.fin.k, .int .i64 x.fin.a, .int .i64 x.fin.t, .int .i64 x.fin.l] : List Value).toArray)
      go_wp2_with fail
      refine (headOk_any x _ names blocks preds _ Z HVr.out HDr.out hnm).mono ?_
      rintro e w1 ⟨r, rfl, hr, hb1⟩
      have HR := Lib.hid hr
      have HB1 := Lib.hid (HB.out.trans (hb1.mono hzw))
      have HB01 := Lib.hid (HB0.out.trans (hb1.mono HB0.out.size))
      clear hb1 hr tb
      cases r
      · have HN : Hid (¬ BlockAll names blocks preds x) := fun h => by have := HR.out.2 (part_of h 1); cases this
        go_wp2_with fail
        go_ret
        exact gives_no HN.out HB01.out
      · have HP := Lib.hid (HR.out.1 rfl)
        clear HR
        go_wp2_with fail
        go_roundw
        case rel => exact ⟨1 + 1, by omega, by go_num, HB1, HST.out 1 rfl HP.out⟩
        case measure => simp [intOf]
    · have tb := parts_2 (.agg ([.slice A0 x.phis.length c0, .slice A1 x.head.length c1, .slice A2 x.body.length c2, .slice A3 x.tail.length c3, .int .i64 x.fin.k, .int .i64 x.fin.a, .int .i64 x.fin.t, .int .i64 x.fin.l] : List Value).toArray)
      go_wp2_with fail
      refine (bodyOk_any x _ names blocks preds _ Z HVr.out HDr.out).mono ?_
      rintro e w1 ⟨r, rfl, hr, hb1⟩
      have HR := Lib.hid hr
      have HB1 := Lib.hid (HB.out.trans (hb1.mono hzw))
      have HB01 := Lib.hid (HB0.out.trans (hb1.mono HB0.out.size))
      clear hb1 hr tb
      cases r
      · have HN : Hid (¬ BlockAll names blocks preds x) := fun h => by have := HR.out.2 (part_of h 2); cases this
        go_wp2_with fail
        go_ret
        exact gives_no HN.out HB01.out
      · have HP := Lib.hid (HR.out.1 rfl)
        clear HR
        go_wp2_with fail
        go_roundw
        case rel => exact ⟨2 + 1, by omega, by go_num, HB1, HST.out 2 rfl HP.out⟩
        case measure => simp [intOf]
    · have tb := parts_3 (.agg ([.slice A0 x.phis.length c0, .slice A1 x.head.length c1, .slice A2 x.body.length c2, .slice A3 x.tail.length c3, .int .i64 x.fin.k, .int .i64 x.fin.a, .int .i64 x.fin.t, .int .i64 x.fin.l] : List Value).toArray)
      go_wp2_with fail
      refine (tailOk_any x _ names blocks preds _ Z HVr.out HDr.out hnm).mono ?_
      rintro e w1 ⟨r, rfl, hr, hb1⟩
      have HR := Lib.hid hr
      have HB1 := Lib.hid (HB.out.trans (hb1.mono hzw))
      have HB01 := Lib.hid (HB0.out.trans (hb1.mono HB0.out.size))
      clear hb1 hr tb
      cases r
      · have HN : Hid (¬ BlockAll names blocks preds x) := fun h => by have := HR.out.2 (part_of h 3); cases this
        go_wp2_with fail
        go_ret
        exact gives_no HN.out HB01.out
      · have HP := Lib.hid (HR.out.1 rfl)
        clear HR
        go_wp2_with fail
        go_roundw
        case rel => exact ⟨3 + 1, by omega, by go_num, HB1, HST.out 3 rfl HP.out⟩
        case measure => simp [intOf]
    · have tb := parts_4 (.agg ([.slice A0 x.phis.length c0, .slice A1 x.head.length c1, .slice A2 x.body.length c2, .slice A3 x.tail.length c3, .int .i64 x.fin.k, .int .i64 x.fin.a, .int .i64 x.fin.t, .int .i64 x.fin.l] : List Value).toArray)
      go_wp2_with fail
      refine (endOk_any x _ names blocks preds _ Z HVr.out hbk).mono ?_
      rintro e w1 ⟨r, rfl, hr, hb1⟩
      have HR := Lib.hid hr
      have HB1 := Lib.hid (HB.out.trans (hb1.mono hzw))
      have HB01 := Lib.hid (HB0.out.trans (hb1.mono HB0.out.size))
      clear hb1 hr tb
      cases r
      · have HN : Hid (¬ BlockAll names blocks preds x) := fun h => by have := HR.out.2 (part_of h 4); cases this
        go_wp2_with fail
        go_ret
        exact gives_no HN.out HB01.out
      · have HP := Lib.hid (HR.out.1 rfl)
        clear HR
        go_wp2_with fail
        go_roundw
        case rel => exact ⟨4 + 1, by omega, by go_num, HB1, HST.out 4 rfl HP.out⟩
        case measure => simp [intOf]
end

/- predsOfAll of the program: of each block the blocks that lead to it. -/
section
open Go.ChangeShapes Go.WideShapes Go.ChangeAt Go.RowKit Go.Joins

theorem succsL_nodup (k a t l : Int) : ∀ (i j : Nat) u, i < j → (succsL k a t l)[i]? = some u → (succsL k a t l)[j]? ≠ some u := by
  intro i j u hij hi hj
  unfold succsL at hi hj
  by_cases h : endOkB k a t l = true
  · rw [if_pos h] at hi hj
    unfold toL at hi hj
    by_cases h2 : k = 2
    · rw [if_pos h2] at hi hj
      have := (List.getElem?_eq_some_iff.1 hj).1
      simp at this
      omega
    · rw [if_neg h2] at hi hj
      by_cases h3 : k = 3
      · rw [if_pos h3] at hi hj
        have := (List.getElem?_eq_some_iff.1 hj).1
        simp at this
        obtain rfl : i = 0 := by omega
        obtain rfl : j = 1 := by omega
        simp at hi hj
        unfold endOkB at h
        rw [if_neg (by omega), if_neg h2, if_pos h3] at h
        simp at h
        exact h.2 (hi.trans hj.symm)
      · rw [if_neg h3] at hi; simp at hi
  · rw [if_neg h] at hi; simp at hi

/-- Row G holds n rows of the call's own, from block B on, no two of them in one block. -/
def PRow (w : World) (B G n : Nat) (row : Nat → List Int) : Prop :=
  ∃ cur : Array Value, w.heap[G]? = some (.cells cur 64 (0, 0)) ∧ cur.size = n ∧ (∀ j, j < n → ∃ v, cur[j]? = some v ∧ OI w B v (row j)) ∧
    ∀ (i j : Nat) (u v : Value), i ≠ j → cur[i]? = some u → cur[j]? = some v → u.ownBlock = none ∨ u.ownBlock ≠ v.ownBlock

theorem PRow.start {w : World} (n : Nat) : PRow (w.alloc (.cells (madeCells #[.slice none 0 0] n) 64)) (w.heap.size + 1) w.heap.size n fun _ => [] := by
  have hc : ∀ j v, (madeCells #[.slice none 0 0] n)[j]? = some v → v = Value.slice none 0 0 := fun j v hv => by
    rw [← Array.getElem?_toList, toList_madeCells_one] at hv
    exact (List.mem_replicate.1 (List.mem_of_getElem? hv)).2
  refine ⟨_, heap_alloc_new w _, size_madeCells _ _, fun j hj => ?_, fun i j u v _ hu _ => ?_⟩
  · refine ⟨_, Array.getElem?_eq_getElem (by rw [size_madeCells]; exact hj), ?_⟩
    rw [hc j _ (Array.getElem?_eq_getElem (by rw [size_madeCells]; exact hj))]
    exact World.ownsRow_nil _ _ _ _
  · rw [hc i u hu]; exact .inl rfl

theorem PRow.get {w : World} {B G n : Nat} {row : Nat → List Int} (h : PRow w B G n row) {j : Nat} (hj : j < n) : ∃ v, w.cell? ⟨G, j, none⟩ = some v ∧ OI w B v (row j) := by
  obtain ⟨cur, h1, h2, h3, _⟩ := h
  obtain ⟨v, hv, ho⟩ := h3 j hj
  exact ⟨v, (cell_of_row w G j cur _ (0, 0) h1).trans hv, ho⟩
theorem PRow.frozen {w : World} {B G n : Nat} {row : Nat → List Int} (h : PRow w B G n row) (j : Nat) : w.frozen? ⟨G, j, none⟩ = false := by
  obtain ⟨cur, h1, _⟩ := h
  simp [World.frozen?, h1]
theorem PRow.lt {w : World} {B G n : Nat} {row : Nat → List Int} (h : PRow w B G n row) : G < w.heap.size := by
  obtain ⟨cur, h1, _⟩ := h
  exact (Array.getElem?_eq_some_iff.1 h1).1
theorem PRow.below {w w' : World} {B G n : Nat} {row : Nat → List Int} (h : PRow w B G n row) (hb : Below w.heap.size w w') : PRow w' B G n row := by
  have hG := h.lt
  obtain ⟨cur, h1, h2, h3, h4⟩ := h
  refine ⟨cur, (hb.block _ hG).trans h1, h2, fun j hj => ?_, h4⟩
  obtain ⟨v, hv, ho⟩ := h3 j hj
  exact ⟨v, hv, ho.below hb fun k hk => (ho.lt k hk).2⟩
theorem PRow.congr {w : World} {B G n : Nat} {row row' : Nat → List Int} (h : PRow w B G n row) (he : ∀ j, j < n → row' j = row j) : PRow w B G n row' := by
  obtain ⟨cur, h1, h2, h3, h4⟩ := h
  exact ⟨cur, h1, h2, fun j hj => by rw [he j hj]; exact h3 j hj, h4⟩

/-- One row has got one more, and lies perhaps elsewhere. -/
theorem PRow.append {w w' : World} {B G n j : Nat} {row : Nat → List Int} {v v' : Value} {ys : List Int} (h : PRow w B G n row) (hj : j < n) (hB : B = G + 1) (hc : w.cell? ⟨G, j, none⟩ = some v) (ho : OI w' B v' ys)
    (hg : w.grownBy w' v.ownBlock) (hat : v'.ownBlock = v.ownBlock ∨ ∃ k, v'.ownBlock = some k ∧ w.heap.size ≤ k) : PRow (w'.setCell ⟨G, j, none⟩ v') B G n fun i => if i = j then ys else row i := by
  have hG := h.lt
  obtain ⟨cur, h1, h2, h3, h4⟩ := h
  obtain ⟨v0, hv0, ho0⟩ := h3 j hj
  have hvj : cur[j]? = some v := (cell_of_row w G j cur _ (0, 0) h1).symm.trans hc
  rw [hvj] at hv0
  injection hv0 with hv0
  subst hv0
  have hne : some G ≠ v.ownBlock := fun e => by have := (ho0.lt G e.symm).1; omega
  have h1' : w'.heap[G]? = some (.cells cur 64 (0, 0)) := (hg.block G hG hne).trans h1
  have hset := heap_setCell_same w' G j cur _ v' h1'
  have hfar : ∀ {u : Value} {xs : List Int}, OI w' B u xs → OI (w'.setCell ⟨G, j, none⟩ v') B u xs := fun {u xs} hu => by
    have hgr : w'.grownBy (w'.setCell ⟨G, j, none⟩ v') (some G) := set_grown w' G j v'
    refine hu.grown hgr ?_
    rcases hob : u.ownBlock with _ | k
    · exact .inl rfl
    · refine .inr fun e => ?_
      injection e with e
      have := (hu.lt k hob).1
      omega
  refine ⟨cur.setIfInBounds j v', hset, by simpa using h2, fun i hi => ?_, fun i i' u u' hii hu hu' => ?_⟩
  · by_cases e : i = j
    · subst e
      rw [Array.getElem?_setIfInBounds, if_pos rfl, if_pos (by omega)]
      simp only [if_true]
      exact ⟨v', rfl, hfar ho⟩
    · rw [Array.getElem?_setIfInBounds, if_neg (by omega)]
      simp only [if_neg e]
      obtain ⟨x, hx, hox⟩ := h3 i hi
      exact ⟨x, hx, hfar (hox.grown hg (h4 i j x v e hx hvj))⟩
  · rw [Array.getElem?_setIfInBounds] at hu hu'
    by_cases e : j = i
    · subst e
      rw [if_pos rfl, if_pos (by omega)] at hu
      rw [if_neg hii] at hu'
      injection hu with hu
      subst hu
      rcases hat with h | ⟨k, h, hk⟩
      · rw [h]; exact h4 j i' v u' hii hvj hu'
      · rw [h]
        refine .inr fun e => ?_
        obtain ⟨x, hx, hox⟩ := h3 i' (by have := (Array.getElem?_eq_some_iff.1 hu').1; omega)
        rw [hu'] at hx
        injection hx with hx
        subst hx
        have := (hox.lt k e.symm).2
        omega
    · rw [if_neg e] at hu
      by_cases e' : j = i'
      · subst e'
        rw [if_pos rfl, if_pos (by omega)] at hu'
        injection hu' with hu'
        subst hu'
        rcases hat with h | ⟨k, h, hk⟩
        · rw [h]; exact h4 i j u v hii hu hvj
        · rw [h]
          rcases hob : u.ownBlock with _ | k'
          · exact .inl rfl
          · refine .inr fun e => ?_
            obtain ⟨x, hx, hox⟩ := h3 i (by have := (Array.getElem?_eq_some_iff.1 hu).1; omega)
            rw [hu] at hx
            injection hx with hx
            subst hx
            have := (hox.lt k' hob).2
            injection e with e
            omega
      · rw [if_neg e'] at hu'
        exact h4 i i' u u' hii hu hu'

/-- No row of G lies in a block from lo on, below hi. -/
def PAvoid (w : World) (G lo hi : Nat) : Prop := ∀ (j : Nat) (v : Value) (k : Nat), w.cell? ⟨G, j, none⟩ = some v → v.ownBlock = some k → k < lo ∨ hi ≤ k
theorem PAvoid.start {w : World} {B G n : Nat} {row : Nat → List Int} (h : PRow w B G n row) (hi : Nat) : PAvoid w G w.heap.size hi := by
  intro j v k hv hk
  have hj : j < n := by
    obtain ⟨cur, h1, h2, _⟩ := h
    rw [cell_of_row w G j cur _ (0, 0) h1] at hv
    have := (Array.getElem?_eq_some_iff.1 hv).1
    omega
  obtain ⟨u, hu, ho⟩ := h.get hj
  rw [hv] at hu
  injection hu with hu
  subst hu
  exact .inl (ho.lt k hk).2
theorem PAvoid.below {w w' : World} {G lo hi : Nat} (h : PAvoid w G lo hi) (hb : Below w.heap.size w w') (hG : G < w.heap.size) : PAvoid w' G lo hi := by
  intro j v k hv hk
  exact h j v k ((hb.cell (p := ⟨G, j, none⟩) hG).symm.trans hv) hk
theorem PAvoid.append {w w' : World} {G lo hi j : Nat} {v v' : Value} (h : PAvoid w G lo hi) (hG : G < w.heap.size) (hne : some G ≠ v.ownBlock) (hc : w.cell? ⟨G, j, none⟩ = some v) (hg : w.grownBy w' v.ownBlock)
    (hat : v'.ownBlock = v.ownBlock ∨ ∃ k, v'.ownBlock = some k ∧ w.heap.size ≤ k) (hhi : hi ≤ w.heap.size) : PAvoid (w'.setCell ⟨G, j, none⟩ v') G lo hi := by
  have hcw : ∀ i : Nat, w'.cell? ⟨G, i, none⟩ = w.cell? ⟨G, i, none⟩ := fun i => World.cell?_of_block (a := ⟨G, i, none⟩) (hg.block G hG hne)
  intro i u k hu hk
  by_cases e : i = j
  · subst e
    rw [World.cell?_setCell_same w' ⟨G, i, none⟩ v' ((hcw i).trans hc)] at hu
    injection hu with hu
    subst hu
    rcases hat with h' | ⟨k', h', hk'⟩
    · rw [h'] at hk; exact h i v k hc hk
    · rw [h'] at hk
      injection hk with hk
      omega
  · rw [World.cell?_setCell_other _ _ _ _ (by intro e'; injection e' with _ e'; omega), hcw i] at hu
    exact h i u k hu hk

def rowM (xs : List BlockD) (us : List Int) (k m j : Nat) : List Int := predsK succsE xs k j ++ if hasB (us.take m) j then [(k : Int)] else []
theorem rowM_zero (xs : List BlockD) (us : List Int) (k j : Nat) : rowM xs us k 0 j = predsK succsE xs k j := by simp [rowM, hasB]
theorem hasB_take {us : List Int} {m : Nat} {u : Int} (h : us[m]? = some u) (j : Int) : hasB (us.take (m + 1)) j = (hasB (us.take m) j || decide (u = j)) := by
  unfold hasB
  rw [List.take_add_one, h, Bool.eq_iff_iff]
  simp
  constructor
  · rintro (h | h)
    · exact .inl h
    · exact .inr h.symm
  · rintro (h | h)
    · exact .inl h
    · exact .inr h.symm
theorem not_took {us : List Int} {m : Nat} {u : Int} (hn : ∀ (i j : Nat) u, i < j → us[i]? = some u → us[j]? ≠ some u) (h : us[m]? = some u) : hasB (us.take m) u = false := by
  cases hb : hasB (us.take m) u with
  | false => rfl
  | true =>
    rw [hasB_iff] at hb
    obtain ⟨i, hi⟩ := List.mem_iff_getElem?.1 hb
    have him : i < m := by
      rcases Nat.lt_or_ge i m with h | h
      · exact h
      · rw [List.getElem?_take, if_neg (by omega)] at hi; cases hi
    rw [List.getElem?_take, if_pos him] at hi
    exact absurd h (hn i m u him hi)
theorem rowM_other {xs : List BlockD} {us : List Int} {k m j : Nat} {u : Int} (h : us[m]? = some u) (hj : u ≠ j) : rowM xs us k (m + 1) j = rowM xs us k m j := by
  unfold rowM
  rw [hasB_take h, show decide (u = (j : Int)) = false by simpa using hj, Bool.or_false]
theorem rowM_same {xs : List BlockD} {us : List Int} {k m j : Nat} (hn : ∀ (i j : Nat) u, i < j → us[i]? = some u → us[j]? ≠ some u) (h : us[m]? = some (j : Int)) : rowM xs us k (m + 1) j = rowM xs us k m j ++ [(k : Int)] := by
  unfold rowM
  rw [hasB_take h, not_took hn h]
  simp
theorem rowM_all {xs : List BlockD} {k : Nat} {x : BlockD} (h : xs[k]? = some x) (j : Nat) : rowM xs (succsE x.fin) k (succsE x.fin).length j = predsK succsE xs (k + 1) j := by
  unfold rowM
  rw [predsK_succ succsE j h, List.take_length]
theorem rowM_len (xs : List BlockD) (us : List Int) (k m j : Nat) : (rowM xs us k m j).length ≤ k + 1 := by
  unfold rowM
  have := predsK_len succsE xs k j
  rw [List.length_append]
  split <;> simp <;> omega
end

end Go.Proofs.YtnjmlhokkhkaaaaGreatDoor
