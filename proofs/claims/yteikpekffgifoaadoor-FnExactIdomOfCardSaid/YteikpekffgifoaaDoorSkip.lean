/- An operation of a region that is not wanted may be passed by. -/
import Derived.Test.YteikpekffgifoaaDoorLaw
import Derived.Deep.RegionHeld3
namespace Go.Proofs.YteikpekffgifoaaDoor
open Go.ChangeShapes Go.WideShapes Go.ChangeAt Go.RowKit Go.Joins

/-- An operation that is not wanted, and whose slot is empty, may be passed by. -/
theorem skipH {P : Program} {md : Region.Mode} {ops : Array Oper} {Q : Exit → Act → World → Prop} {S : World → Prop} {i d fuel : Nat} {listed : Array Bool} {a : Act} {w : World} (hd : (ops[i]?).map Oper.dst = some (some d))
    (hs : Region.noSelect ops = true) (hf : Region.free md ops listed i = true) (hr : (Region.ready md ops listed).contains i = true) (hQ : ∀ c a w, Q (.panic c) (a.put (some d) undef) w → Q (.panic c) a w)
    (hw : (ops[i]?).map (fun o => Region.wanted o (yielded ops a.tmps)) = some false) (hu : a.tmps[d]? = some undef) (hS : S w) (h : wpAnyH P md ops Q S fuel (listed.setIfInBounds i true) a w) : wpAnyH P md ops Q S (fuel + 1) listed a w := by
  obtain ⟨o, ho, hd⟩ := Option.map_eq_some_iff.1 hd
  rw [ho] at hw
  have hw' : Region.wanted o (yielded ops a.tmps) = false := by simpa using hw
  refine wpAnyH_take (i := i) (oi := o) (v := undef) ho hs hf hr (by rw [hd]; exact hQ) (.inr ⟨hw', rfl⟩) hS ?_
  have e : a.put o.dst undef = a := by
    rw [hd]
    obtain ⟨t, ds⟩ := a
    simp only [Act.put]
    congr 1
    simp only at hu
    apply Array.ext_getElem?
    intro j
    rw [Array.getElem?_setIfInBounds]
    by_cases e : d = j
    · subst e
      rw [if_pos rfl, hu, if_pos (Array.getElem?_eq_some_iff.1 hu).1]
    · rw [if_neg e]
  rw [e]
  exact h

end Go.Proofs.YteikpekffgifoaaDoor
