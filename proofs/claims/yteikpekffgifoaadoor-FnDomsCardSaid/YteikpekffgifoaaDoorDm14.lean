/- Dof, Skip, joined. -/
import Derived.Test.YteikpekffgifoaaDoorDm1
import Derived.Test.YteikpekffgifoaaDoorDm12
import Derived.Test.YteikpekffgifoaaDoorDm13
import Derived.Deep.RegionHeld3
namespace Go.Proofs.YteikpekffgifoaaDoor

/- DomsOf of both sides. -/
section
open Go.ChangeShapes Go.WideShapes Go.ChangeAt Go.RowKit Go.Joins

def GivesDomsL (f : FunD) (b : Int) (w : World) (e : Ending) (w' : World) : Prop := ∃ xs r, e = .returned r ∧ IsDoms f b xs ∧ OI w' w.heap.size r xs ∧ Below w.heap.size w w'

set_option maxRecDepth 10000 in
set_option maxHeartbeats 1000000 in
theorem DomsOf_any (f : FunD) (v : Value) (b : Int) (w : World) (Z : Zn) (hv : EFun w Z f v) (hD : ∀ b, Z.D b → b < w.heap.size) (hn : f.blocks.length ≤ 1048576) (hT : Tab w) : Calls Tryd.prog 8 #[v, .int .i64 b] w (GivesDomsL f b w) := by
  have HF := Lib.hid hv
  have HT := Lib.hid hT
  obtain ⟨u, rfl, hu⟩ := hv
  obtain ⟨_, A, c, rfl, hx⟩ := hu
  clear hx hT
  go_enter Tryd.func8, Tryd.ntmps8
  go_wp2_with fail
  refine (domsOfOne_any f _ _ _ Z (HF.out.keep (Kept.below ((Below.refl _ _).alloc (Nat.le_refl _) _) hD)) (fun b hb => by have := hD b hb; simp; omega) hn).mono ?_
  rintro e w1 ⟨s, rfl, hs, hb1⟩
  have HS := Lib.hid hs
  have HB01 : Hid (Below w.heap.size w w1) := ((Below.refl _ _).alloc (Nat.le_refl _) _).trans (hb1.mono (by simp))
  have HT1 := Lib.hid (HT.out.keep HB01.out)
  have hz1 := HB01.out.size
  clear hb1 hs
  go_wp2_with fail
  refine (list_any s _ HS.out.le HT1.out).mono ?_
  rintro e w2 ⟨r, rfl, hr, hb2⟩
  have HR := Lib.hid hr
  have HB02 := Lib.hid (HB01.out.trans (hb2.mono hz1))
  clear hr hb2
  go_wp2_with fail
  go_ret
  exact ⟨_, _, rfl, HS.out.doms, World.ownsRow.mono HR.out hz1, HB02.out⟩

/-- The dominators below k. -/
def DomsTo (f : FunD) (b : Int) (k : Nat) (xs : List Int) : Prop := xs.Pairwise (· < ·) ∧ (∀ x, x ∈ xs ↔ x < (k : Int) ∧ DomP f x b) ∧ xs.length ≤ k
theorem DomsTo.zero (f : FunD) (b : Int) : DomsTo f b 0 [] := ⟨List.Pairwise.nil, fun x => ⟨fun h => (by cases h), fun h => by have := (dom_range h.2).1; omega⟩, by simp⟩
theorem DomsTo.yes {f : FunD} {b : Int} {k : Nat} {xs : List Int} (h : DomsTo f b k xs) (hk : DomP f k b) : DomsTo f b (k + 1) (xs ++ [(k : Int)]) := by
  refine ⟨List.pairwise_append.2 ⟨h.1, List.pairwise_singleton _ _, fun a ha c hc => ?_⟩, fun x => ?_, by have := h.2.2; simp; omega⟩
  · have := ((h.2.1 a).1 ha).1
    simp at hc
    omega
  · rw [List.mem_append, h.2.1]
    constructor
    · rintro (⟨h1, h2⟩ | h1)
      · exact ⟨by omega, h2⟩
      · simp at h1; subst h1; exact ⟨by omega, hk⟩
    · rintro ⟨h1, h2⟩
      by_cases e : x = k
      · right; simp [e]
      · exact .inl ⟨by omega, h2⟩
theorem DomsTo.no {f : FunD} {b : Int} {k : Nat} {xs : List Int} (h : DomsTo f b k xs) (hk : ¬ DomP f k b) : DomsTo f b (k + 1) xs := by
  refine ⟨h.1, fun x => ?_, by have := h.2.2; omega⟩
  rw [h.2.1]
  constructor
  · rintro ⟨h1, h2⟩; exact ⟨by omega, h2⟩
  · rintro ⟨h1, h2⟩
    refine ⟨?_, h2⟩
    have : x ≠ k := by rintro rfl; exact hk h2
    omega
theorem DomsTo.all {f : FunD} {b : Int} {xs : List Int} (h : DomsTo f b f.blocks.length xs) : IsDoms f b xs := ⟨h.1, fun x => (h.2.1 x).trans ⟨fun h => h.2, fun h => ⟨(dom_range h).2, h⟩⟩⟩

set_option maxRecDepth 10000 in
set_option maxHeartbeats 1000000 in
theorem l4Doms_any (f : FunD) (v : Value) (b : Nat) (w : World) (Z : Zn) (hv : EFun w Z f v) (hD : ∀ b, Z.D b → b < w.heap.size) (hp : FunP f) (hb : b < f.blocks.length) : Calls Tryd.prog 36 #[v, .int .i64 b] w (GivesDomsL f b w) := by
  have HF := Lib.hid hv
  have HP := Lib.hid hp
  have h40 := hp.1.1.2
  have hbb : isBelowB (b : Int) f.blocks.length = true := by simp [isBelowB]; omega
  have HBb := Lib.hid hbb
  obtain ⟨u, rfl, hu⟩ := hv
  obtain ⟨_, A, c, rfl, hx⟩ := hu
  clear hx hp hbb
  obtain ⟨w0, hw0⟩ : ∃ w0, w0 = (w.alloc (.cells #[.int .i64 f.params, .int .i64 f.names, .slice A f.blocks.length c] 26)).alloc (.cells #[] 2) := ⟨_, rfl⟩
  have hB0 : Below w.heap.size w w0 := by rw [hw0]; exact ((Below.refl _ _).alloc (Nat.le_refl _) _).alloc (by simp) _
  have hs0 : w0.heap.size = w.heap.size + 1 + 1 := by rw [hw0]; simp
  have hbx : w0.heap[w.heap.size]? = some (.cells #[.int .i64 f.params, .int .i64 f.names, .slice A f.blocks.length c] 26 (0, 0)) := by rw [hw0, Below.heap_alloc _ _ _ (by simp)]; exact heap_alloc_new w _
  have HO0 : Hid (OI w0 (w.heap.size + 1) (.slice (some ⟨w.heap.size + 1, 0, none⟩) 0 0) []) := by rw [hw0]; exact OI_lit0 _ (by simp) (Nat.le_refl _)
  have HB0 := Lib.hid hB0
  have HW0 := Lib.hid hw0
  have HBX := Lib.hid hbx
  clear hB0 hw0 hbx
  go_enter Tryd.func36, Tryd.ntmps36
  go_wp2_with fail
  rw [← HW0.out]
  go_loopw [5, 6] (fun lv iv wr => ∃ (k : Nat) (xs : List Int), k ≤ f.blocks.length ∧ iv = .int .i64 k ∧ Hid (DomsTo f b k xs) ∧ Hid (OI wr (w.heap.size + 1) lv xs) ∧ Hid (Below (w.heap.size + 1) w0 wr)) (fun _ iv _ => f.blocks.length - (intOf iv).toNat)
  case atStart => exact ⟨0, [], Nat.zero_le _, rfl, DomsTo.zero f b, HO0.out, Below.refl _ _⟩
  case round =>
    obtain ⟨k, xs, hk, rfl, HDT, HO, HB⟩ := hrel
    have hzr := HB.out.size
    have hq := (HB.out.block w.heap.size (by omega)).trans HBX.out
    have f0 := cell_of_row wr _ 0 _ _ (0, 0) hq
    have f1 := cell_of_row wr _ 1 _ _ (0, 0) hq
    have f2 := cell_of_row wr _ 2 _ _ (0, 0) hq
    have HBw : Hid (Below w.heap.size w wr) := HB0.out.trans (HB.out.mono (by omega))
    have hlen := HDT.out.2.2
    obtain ⟨_, AL, cL, rfl, _⟩ := HO.out.ri
    by_cases hkl : (k : Int) < (f.blocks.length : Int)
    · have hkb : isBelowB (k : Int) f.blocks.length = true := by simp [isBelowB]; omega
      have HKb := Lib.hid hkb
      clear hq hkb
      go_wp2_with fail
      refine (l4Dom_ex f _ k b _ Z (HF.out.keep (Kept.below HBw.out hD)) (fun b hb => by have := hD b hb; omega) HP.out hb).mono ?_
      rintro e w1 ⟨r, rfl, hr, hb1⟩
      have HR : Hid (r = true ↔ DomP f k b) := by
        rw [Hid, hr]
        exact ⟨fun h => ⟨HP.out, HKb.out, HBb.out, h⟩, fun h => ⟨h.2.2.2.1, h.2.2.2.2⟩⟩
      have HO1 := Lib.hid (HO.out.below hb1 fun k hk => (HO.out.lt k hk).2)
      have HB1 : Hid (Below (w.heap.size + 1) w0 w1) := HB.out.trans (hb1.mono (by omega))
      have hz1 := hb1.size
      clear hb1 hr f0 f1 f2
      cases r
      · have HN := Lib.hid (HDT.out.no fun h => by have := HR.out.2 h; cases this)
        go_wp2_with fail
        go_roundw
        case rel => exact ⟨k + 1, xs, by omega, by go_num, HN.out, HO1.out, HB1.out⟩
        case measure => simp [intOf]; omega
      · have HN := Lib.hid (HDT.out.yes (HR.out.1 rfl))
        clear HR
        go_wp2_with (first
          | (at_builtin; go_must (refine wpList_append_int rfl (.tmp 19) (.tmp 21) rfl (w.heap.size + 1) _ xs k w1 rfl HO1.out rfl (by omega) (by omega) ?_; intro v' w2 hown2 hg2 hat2; have HO2 := Lib.hid hown2; have HG2 := Lib.hid hg2; obtain ⟨_, A8, q8, rfl, _⟩ := hown2.ri; clear hown2 hg2 hat2))
          | fail)
        have el : (xs ++ [(k : Int)]).length = xs.length + 1 := by simp
        rw [el] at HO2
        clear el
        have HB2 : Hid (Below (w.heap.size + 1) w0 w2) := HB1.out.grown HG2.out (by omega) fun k hk => (HO1.out.lt k hk).1
        go_roundw
        case rel => exact ⟨k + 1, xs ++ [(k : Int)], by omega, by go_num, HN.out, HO2.out, HB2.out⟩
        case measure => simp [intOf]; omega
    · obtain rfl : k = f.blocks.length := by omega
      go_wp2_with fail
      go_ret
      exact ⟨xs, _, rfl, HDT.out.all, World.ownsRow.mono HO.out (by omega), HBw.out⟩

set_option maxRecDepth 10000 in
set_option maxHeartbeats 1000000 in
theorem sDomsOf_any (f : FunD) (v : Value) (b : Int) (w : World) (Z : Zn) (hv : EFun w Z f v) (hD : ∀ b, Z.D b → b < w.heap.size) (hn : f.blocks.length ≤ 1048576) : Calls Tryd.prog 12 #[v, .int .i64 b] w (GivesDomsL f b w) := by
  have HF := Lib.hid hv
  obtain ⟨u, rfl, hu⟩ := hv
  obtain ⟨_, A, c, rfl, hx⟩ := hu
  clear hx
  go_enter Tryd.func12, Tryd.ntmps12
  go_wp2_with fail
  refine (sFunOk_any f _ _ Z (HF.out.keep (Kept.below ((Below.refl _ _).alloc (Nat.le_refl _) _) hD)) (fun b hb => by have := hD b hb; simp; omega) hn).mono ?_
  rintro e w1 ⟨r, rfl, hr, hb1⟩
  have HR := Lib.hid hr
  have HB1 := Lib.hid (hb1.mono (B' := w.heap.size + 1) (by simp))
  have HB01 : Hid (Below w.heap.size w w1) := ((Below.refl _ _).alloc (Nat.le_refl _) _).trans (HB1.out.mono (by omega))
  have hz1 : w.heap.size + 1 ≤ w1.heap.size := by have := hb1.size; simp at this; omega
  obtain ⟨hc1, hf1⟩ := bcellB HB1.out
  clear hb1 hf1 hr
  cases r
  · have HN : Hid (¬ FunP f) := fun h => by have := HR.out.2 h; cases this
    go_wp2_with fail
    go_ret
    exact ⟨[], _, rfl, ⟨List.Pairwise.nil, fun x => ⟨fun h => (by cases h), fun h => absurd h.1 HN.out⟩⟩, OI_lit0 _ rfl (by omega), HB01.out.alloc (by omega) _⟩
  have HP := Lib.hid (HR.out.1 rfl)
  clear HR
  go_wp2_with fail
  refine (l2Has_any _ _ _ _ _ _ _ hn).mono ?_
  rintro e w2 ⟨rfl, hb2⟩
  have hz2 : w.heap.size + 1 ≤ w2.heap.size := by have := hb2.size; omega
  have HB2 := Lib.hid (HB1.out.trans (hb2.mono hz1))
  have HB02 : Hid (Below w.heap.size w w2) := ((Below.refl _ _).alloc (Nat.le_refl _) _).trans (HB2.out.mono (by omega))
  obtain ⟨hc2, hf2⟩ := bcellB (hb2.mono hz1)
  clear hb2 hf2
  cases hj : isBelowB b f.blocks.length
  · have HN : Hid (¬ isBelowB b f.blocks.length = true) := by rw [Hid, hj]; simp
    go_wp2_with fail
    go_ret
    exact ⟨[], _, rfl, ⟨List.Pairwise.nil, fun x => ⟨fun h => (by cases h), fun h => absurd h.2.2.1 HN.out⟩⟩, OI_lit0 _ rfl (by omega), HB02.out.alloc (by omega) _⟩
  have hjj : 0 ≤ b ∧ b < f.blocks.length := by simpa [isBelowB] using hj
  obtain ⟨t, rfl⟩ : ∃ t : Nat, b = t := ⟨b.toNat, by omega⟩
  have htn : t < f.blocks.length := by omega
  clear hjj
  go_wp2_with fail
  refine (l4Doms_any f _ t _ Z (HF.out.keep (Kept.below HB02.out hD)) (fun b hb => by have := hD b hb; omega) HP.out htn).mono ?_
  rintro e w3 ⟨xs, r, rfl, hx3, hr3, hb3⟩
  have HB03 := Lib.hid (HB02.out.trans (hb3.mono (by omega)))
  have HX := Lib.hid hx3
  have HRr := Lib.hid hr3
  clear hb3 hx3 hr3 hc1 hc2
  go_wp2_with fail
  go_ret
  exact ⟨_, _, rfl, HX.out, World.ownsRow.mono HRr.out (by omega), HB03.out⟩
end

/- An operation of a region that is not wanted may be passed by. -/
section
open Go.ChangeShapes Go.WideShapes Go.ChangeAt Go.RowKit Go.Joins

/-- An operation that is not wanted, and whose slot is empty, may be passed by. -/
theorem skipH {P : Program} {md : Region.Mode} {ops : Array Oper} {Q : Exit → Act → World → Prop} {S : World → Prop} {i d fuel : Nat} {listed : Array Bool} {a : Act} {w : World} (hd : (ops[i]?).map Oper.dst = some (some d))
    (hs : Region.noSelect ops = true) (hf : Region.free md ops listed i = true) (hr : (Region.ready md ops listed).contains i = true) (hQ : ∀ c a w, Q (.panic c) (a.put (some d) undef) w → Q (.panic c) a w)
    (hw : (ops[i]?).map (fun o => Region.wanted o (yielded ops a.tmps)) = some false) (hu : a.tmps[d]? = some undef) (hS : S w) (h : wpAnyH P md ops Q S fuel (listed.setIfInBounds i true) a w) : wpAnyH P md ops Q S (fuel + 1) listed a w := by
  obtain ⟨o, ho, hd⟩ := Option.map_eq_some_iff.1 hd
  rw [ho] at hw
  have hw' : Region.wanted o (yielded ops a.tmps) = false := by simpa using hw
  refine wpAnyH_take (i := i) (oi := o) (v := undef) ho hs hf hr (by rw [hd]; exact hQ) (.inr ⟨hw', rfl⟩) hS ?_
  have e : a.put o.dst undef = a := by
    rw [hd]
    obtain ⟨t, ds⟩ := a
    simp only [Act.put]
    congr 1
    simp only at hu
    apply Array.ext_getElem?
    intro j
    rw [Array.getElem?_setIfInBounds]
    by_cases e : d = j
    · subst e
      rw [if_pos rfl, hu, if_pos (Array.getElem?_eq_some_iff.1 hu).1]
    · rw [if_neg e]
  rw [e]
  exact h
end

end Go.Proofs.YteikpekffgifoaaDoor
