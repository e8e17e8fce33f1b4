/- A region whose last operation waits for all others: it may be walked without that one first. -/
import Derived.Test.YtbghcoihndlihaaLaw
import Derived.Deep.RegionHeld3
namespace Go.Proofs.Ytbghcoihndlihaa
open Go.ChangeShapes Go.WideShapes Go.ChangeAt Go.RowKit Go.Joins

section
variable {P : Program} {ops : Array Oper} {o : Oper} {Q : Exit → Act → World → Prop} {S : World → Prop} {md : Region.Mode}

/-- What is asked behind the others: that the last one may be carried out. -/
def offQ (P : Program) (ops : Array Oper) (Q : Exit → Act → World → Prop) (n : Nat) : Exit → Act → World → Prop
  | .normal, a, w => wpOp P ops Q n (Q .normal) a w
  | e, a, w => Q e a w

def AllListed (n : Nat) (listed : Array Bool) : Prop := ∀ j, j < n → listed.getD j true = true

/-- Who is listed has those listed that he waits for. -/
def Closed (ops : Array Oper) (md : Region.Mode) (l : Array Bool) : Prop := ∀ j p, ops[j]? = some p → l.getD j false = true → (p.after.all fun e => !Region.binds md e || l.getD e.on false) = true
theorem Closed.start (ops : Array Oper) (md : Region.Mode) (n : Nat) : Closed ops md (Array.replicate n false) := by
  intro j p _ h
  rw [Array.getD_eq_getD_getElem?, Array.getElem?_replicate] at h
  split at h <;> simp at h
theorem getD_set (l : Array Bool) (i j : Nat) (h : l.getD j false = true) : (l.setIfInBounds i true).getD j false = true := by
  rw [Array.getD_eq_getD_getElem?, Array.getElem?_setIfInBounds]
  by_cases e : i = j
  · subst e
    rw [if_pos rfl]
    rw [Array.getD_eq_getD_getElem?] at h
    by_cases hl : i < l.size
    · rw [if_pos hl]; rfl
    · rw [Array.getElem?_eq_none (by omega)] at h; simp at h
  · rw [if_neg e, ← Array.getD_eq_getD_getElem?]; exact h
theorem Closed.step {ops : Array Oper} {md : Region.Mode} {l : Array Bool} (h : Closed ops md l) {i : Nat} (hi : i ∈ Region.ready md ops l) : Closed ops md (l.setIfInBounds i true) := by
  intro j p hp hj
  have key : (p.after.all fun e => !Region.binds md e || l.getD e.on false) = true := by
    by_cases e : i = j
    · subst e
      unfold Region.ready at hi
      have h1 := (List.mem_filter.1 hi).2
      rw [hp] at h1
      simp only [Option.map_some, Option.getD_some, Bool.and_eq_true] at h1
      exact h1.2
    · refine h j p hp ?_
      rw [Array.getD_eq_getD_getElem?, Array.getElem?_setIfInBounds, if_neg e, ← Array.getD_eq_getD_getElem?] at hj
      exact hj
  rw [Array.all_eq_true'] at key ⊢
  intro e he
  have := key e he
  cases hb : Region.binds md e
  · rfl
  · rw [hb] at this
    have h2 : l.getD e.on false = true := by simpa using this
    rw [getD_set l i _ h2]; rfl

theorem getD_push {l : Array Bool} {j : Nat} {d : Bool} (h : j < l.size) (b : Bool) : (l.push b).getD j d = l.getD j d := by
  simp [Array.getD_eq_getD_getElem?, Array.getElem?_push, Nat.ne_of_lt h]
theorem getD_push_false (l : Array Bool) (j : Nat) : (l.push false).getD j false = l.getD j false := by
  rcases Nat.lt_trichotomy j l.size with h | h | h
  · exact getD_push h false
  · subst h; simp [Array.getD_eq_getD_getElem?]
  · simp only [Array.getD_eq_getD_getElem?, Array.getElem?_push]
    rw [if_neg (by omega)]
theorem getD_both {l : Array Bool} {j : Nat} (h : j < l.size) : l.getD j true = l.getD j false := by
  simp [Array.getD_eq_getD_getElem?, h]

theorem ready_push {l : Array Bool} (hl : l.size = ops.size) (hcl : Closed ops md l) (hw : (List.range ops.size).all (fun j => (o.after.any fun e => Region.binds md e && e.on == j) || (List.range ops.size).any fun k => decide (j < k) && ((ops[k]?).map fun p => p.after.any fun e => Region.binds md e && e.on == j).getD false) = true) (hb : (o.after.all fun e => !Region.binds md e || decide (e.on < ops.size)) = true) :
    (AllListed ops.size l → Region.ready md ops l = [] ∧ Region.ready md (ops.push o) (l.push false) = [ops.size]) ∧ (¬ AllListed ops.size l → Region.ready md (ops.push o) (l.push false) = Region.ready md ops l) := by
  have hsame : (List.range ops.size).filter (fun i => !(l.push false).getD i true && (((ops.push o)[i]?).map (·.after.all fun e => !Region.binds md e || (l.push false).getD e.on false)).getD false) = Region.ready md ops l := by
    unfold Region.ready
    apply List.filter_congr
    intro i hi
    have hi' := List.mem_range.1 hi
    rw [getD_push (by omega) false, Array.getElem?_push, if_neg (by omega)]
    congr 2
    congr 1
    funext p
    congr 1
    funext e
    rw [getD_push_false]
  have hall : Region.ready md (ops.push o) (l.push false) = Region.ready md ops l ++ (if (o.after.all fun e => !Region.binds md e || l.getD e.on false) = true then [ops.size] else []) := by
    rw [← hsame]
    unfold Region.ready
    rw [Array.size_push, List.range_succ, List.filter_append]
    congr 1
    have h1 : (l.push false).getD ops.size true = false := by simp [Array.getD_eq_getD_getElem?, ← hl]
    have h2 : (ops.push o)[ops.size]? = some o := by simp
    rw [List.filter_cons, List.filter_nil, h1, h2]
    simp only [Bool.not_false, Bool.true_and, Option.map_some, Option.getD_some, getD_push_false]
  refine ⟨fun ha => ⟨?_, ?_⟩, fun hn => ?_⟩
  · unfold Region.ready
    rw [List.filter_eq_nil_iff]
    intro i hi
    rw [ha i (List.mem_range.1 hi)]
    simp
  · have h0 : Region.ready md ops l = [] := by
      unfold Region.ready
      rw [List.filter_eq_nil_iff]
      intro i hi
      rw [ha i (List.mem_range.1 hi)]
      simp
    rw [hall, h0, if_pos]
    · rfl
    · rw [Array.all_eq_true'] at hb ⊢
      intro e he
      have := hb e he
      cases hbe : Region.binds md e
      · rfl
      · rw [hbe] at this
        have hlt : e.on < ops.size := by simpa using this
        have h3 := ha e.on hlt
        rw [getD_both (by omega)] at h3
        rw [h3]; rfl
  · rw [hall, if_neg, List.append_nil]
    intro h
    apply hn
    have key : ∀ m j, ops.size - m ≤ j → j < ops.size → l.getD j false = true := by
      intro m
      induction m with
      | zero => intro j h1 h2; omega
      | succ m ih =>
        intro j h1 hj
        rw [List.all_eq_true] at hw
        have h3 := hw j (List.mem_range.2 hj)
        rw [Bool.or_eq_true] at h3
        rcases h3 with h3 | h3
        · rw [Array.any_eq_true'] at h3
          obtain ⟨e, he, hbe⟩ := h3
          simp only [Bool.and_eq_true, beq_iff_eq] at hbe
          rw [Array.all_eq_true'] at h
          have h2 := h e he
          rw [hbe.1, hbe.2] at h2
          simpa using h2
        · rw [List.any_eq_true] at h3
          obtain ⟨k, hk, h3⟩ := h3
          have hk' := List.mem_range.1 hk
          rw [Array.getElem?_eq_getElem hk'] at h3
          simp only [Option.map_some, Option.getD_some, Bool.and_eq_true, decide_eq_true_eq] at h3
          have h4 := h3.2
          rw [Array.any_eq_true'] at h4
          obtain ⟨e, he, hbe⟩ := h4
          simp only [Bool.and_eq_true, beq_iff_eq] at hbe
          have h5 := hcl k _ (Array.getElem?_eq_getElem hk') (ih k (by omega) hk')
          rw [Array.all_eq_true'] at h5
          have h2 := h5 e he
          rw [hbe.1, hbe.2] at h2
          simpa using h2
    intro j hj
    rw [getD_both (by omega)]
    exact key ops.size j (by omega) hj

/-- Somebody who is not listed is ready, where each waits for earlier ones alone. -/
theorem ready_some {l : Array Bool} (hb : (List.range ops.size).all (fun i => ((ops[i]?).map fun p => p.after.all fun e => !Region.binds md e || decide (e.on < i)).getD false) = true) (hl : l.size = ops.size) (hn : ¬ AllListed ops.size l) : Region.ready md ops l ≠ [] := by
  -- the least one
  have hex : ∃ j, j < ops.size ∧ l.getD j true = false ∧ ∀ i, i < j → l.getD i true = true := by
    have key : ∀ n, n ≤ ops.size → (∃ j, j < n ∧ l.getD j true = false ∧ ∀ i, i < j → l.getD i true = true) ∨ ∀ i, i < n → l.getD i true = true := by
      intro n
      induction n with
      | zero => intro _; exact .inr fun i hi => absurd hi (by omega)
      | succ n ih =>
        intro hle
        rcases ih (by omega) with ⟨j, h1, h2, h3⟩ | h
        · exact .inl ⟨j, by omega, h2, h3⟩
        · cases hv : l.getD n true
          · exact .inl ⟨n, by omega, hv, h⟩
          · refine .inr fun i hi => ?_
            by_cases e : i = n
            · subst e; exact hv
            · exact h i (by omega)
    rcases key ops.size (Nat.le_refl _) with h | h
    · exact h
    · exact absurd h hn
  obtain ⟨j, hj, hf, hlow⟩ := hex
  intro h0
  unfold Region.ready at h0
  rw [List.filter_eq_nil_iff] at h0
  apply h0 j (List.mem_range.2 hj)
  rw [hf, Array.getElem?_eq_getElem hj]
  simp only [Bool.not_false, Bool.true_and, Option.map_some, Option.getD_some]
  rw [List.all_eq_true] at hb
  have h1 := hb j (List.mem_range.2 hj)
  rw [Array.getElem?_eq_getElem hj] at h1
  simp only [Option.map_some, Option.getD_some] at h1
  rw [Array.all_eq_true'] at h1 ⊢
  intro e he
  have h2 := h1 e he
  cases hbe : Region.binds md e
  · rfl
  · rw [hbe] at h2
    have hlt : e.on < j := by simpa using h2
    have h3 := hlow e.on hlt
    rw [getD_both (by omega)] at h3
    rw [h3]; rfl

theorem wpAny_nil {l : Array Bool} {a : Act} {w : World} (h : Region.ready md ops l = []) (hq : Q .normal a w) : ∀ k, wpAny P md ops Q k l a w
  | 0 => ⟨h, hq⟩
  | _ + 1 => ⟨fun _ => hq, fun i hi => (by rw [h] at hi; cases hi)⟩

theorem wp_off {p : Oper} {a : Act} {w : World} {K : Act → World → Prop} {n : Nat} (h : p.wp P a w K (offQ P ops Q n)) : p.wp P a w K Q := by
  unfold Oper.wp at *
  generalize (execOp a.eval p).run P w = r at *
  cases r with
  | ok x w' =>
    cases x <;> simp only [Oper.upon] at h ⊢ <;>
      first
        | exact h
        | exact Calls.mono h (fun e w'' he => by cases e <;> exact he)
  | halt x w' => cases x <;> simp only [Oper.upon] at h ⊢ <;> exact h

theorem wpOp_off {a : Act} {w : World} {K : Act → World → Prop} {i : Nat} (hg : ((ops.push o).all fun p => p.guard.isNone) = true) (hi : i < ops.size) (h : wpOp P ops (offQ P (ops.push o) Q ops.size) i K a w) : wpOp P (ops.push o) Q i K a w := by
  have hi1 : ops[i]? = some ops[i] := Array.getElem?_eq_getElem hi
  have hi2 : (ops.push o)[i]? = some ops[i] := by rw [Array.getElem?_push, if_neg (by omega)]; exact hi1
  have hgi : ops[i].guard = none := by
    rw [Array.all_eq_true'] at hg
    have := hg ops[i] (Array.mem_push_of_mem _ (Array.getElem_mem hi))
    simpa using this
  have hw1 : ∀ y, Region.wanted ops[i] y = true := fun y => by unfold Region.wanted; rw [hgi]
  unfold wpOp at h ⊢
  simp only [hi1, hi2, hw1, if_true] at h ⊢
  rcases h with h | ⟨h1, a', w', h2⟩
  · exact .inl (wp_off h)
  · exact .inr ⟨h1, a', w', h2⟩

theorem wpAny_off (hg : ((ops.push o).all fun p => p.guard.isNone) = true) (hw : (List.range ops.size).all (fun j => (o.after.any fun e => Region.binds md e && e.on == j) || (List.range ops.size).any fun k => decide (j < k) && ((ops[k]?).map fun p => p.after.any fun e => Region.binds md e && e.on == j).getD false) = true) (hb : (o.after.all fun e => !Region.binds md e || decide (e.on < ops.size)) = true)
    (hc : (List.range ops.size).all (fun i => ((ops[i]?).map fun p => p.after.all fun e => !Region.binds md e || decide (e.on < i)).getD false) = true) :
    ∀ (k : Nat) (l : Array Bool) (a : Act) (w : World), l.size = ops.size → Closed ops md l → wpAnyH P md ops (offQ P (ops.push o) Q ops.size) S k l a w → wpAny P md (ops.push o) Q (k + 1) (l.push false) a w := by
  have hlast : ∀ (k : Nat) (l : Array Bool) (a : Act) (w : World), l.size = ops.size → Closed ops md l → AllListed ops.size l → wpOp P (ops.push o) Q ops.size (Q .normal) a w → wpAny P md (ops.push o) Q (k + 1) (l.push false) a w := by
    intro k l a w hl hcl ha hq
    have hr := ((ready_push (md := md) hl hcl hw hb).1 ha).2
    refine ⟨fun h => (by rw [hr] at h; cases h), fun i hi => ?_⟩
    rw [hr] at hi
    simp only [List.mem_singleton] at hi
    subst hi
    refine wpOp_mono (fun a' w' h => wpAny_nil ?_ h k) hq
    unfold Region.ready
    rw [List.filter_eq_nil_iff]
    intro i hi
    have hi' := List.mem_range.1 hi
    rw [Array.size_push] at hi'
    have : ((l.push false).setIfInBounds ops.size true).getD i true = true := by
      rw [Array.getD_eq_getD_getElem?, Array.getElem?_setIfInBounds]
      by_cases e : ops.size = i
      · subst e; rw [if_pos rfl, if_pos (by simp; omega)]; rfl
      · rw [if_neg e, ← Array.getD_eq_getD_getElem?, getD_push (by omega) false]
        exact ha i (by omega)
    rw [this]
    simp
  intro k
  induction k with
  | zero =>
    intro l a w hl hcl h
    by_cases ha : AllListed ops.size l
    · exact hlast 0 l a w hl hcl ha h.2
    · exact absurd h.1 (ready_some hc hl ha)
  | succ k ih =>
    intro l a w hl hcl h
    by_cases ha : AllListed ops.size l
    · exact hlast (k + 1) l a w hl hcl ha (h.1 ((ready_push (md := md) hl hcl hw hb).1 ha).1)
    · have hr := (ready_push (md := md) hl hcl hw hb).2 ha
      refine ⟨fun h0 => by rw [hr] at h0; exact absurd h0 (ready_some hc hl ha), fun i hi => ?_⟩
      rw [hr] at hi
      have hlt : i < ops.size := by
        unfold Region.ready at hi
        exact List.mem_range.1 (List.mem_filter.1 hi).1
      refine wpOp_mono (fun a' w' hK => ?_) (wpOp_off hg hlt (h.2 i hi))
      have := ih (l.setIfInBounds i true) a' w' (by simpa using hl) (hcl.step hi) hK.2
      rwa [show (l.push false).setIfInBounds i true = (l.setIfInBounds i true).push false by
        apply Array.ext_getElem?
        intro j
        simp only [Array.getElem?_setIfInBounds, Array.getElem?_push, Array.size_setIfInBounds, Array.size_push]
        by_cases e : i = j
        · subst e
          rw [if_pos rfl, if_pos (by omega), if_neg (by omega), if_pos rfl, if_pos (by omega)]
        · rw [if_neg e, if_neg e]]

/-- The region is walked without its last operation; that one behind them. -/
theorem wp_region_off {id : Nat} {a : Act} {w : World} (hm : P.follows .mixedOrders = true) (hg : ((ops.push o).all fun p => p.guard.isNone) = true) (hw : (List.range ops.size).all (fun j => (o.after.any fun e => Region.binds .any e && e.on == j) || (List.range ops.size).any fun k => decide (j < k) && ((ops[k]?).map fun p => p.after.any fun e => Region.binds .any e && e.on == j).getD false) = true)
    (hb : (o.after.all fun e => !Region.binds .any e || decide (e.on < ops.size)) = true) (hc : (List.range ops.size).all (fun i => ((ops[i]?).map fun p => p.after.all fun e => !Region.binds .any e || decide (e.on < i)).getD false) = true)
    (hS : S w.drew) (h : S w.drew → wpAnyH P .any ops (offQ P (ops.push o) Q ops.size) S ops.size (Array.replicate ops.size false) a w.drew) : (Code.region id (ops.push o) true).wp P Q a w := by
  refine wp_region_any hm ?_
  have := wpAny_off (P := P) (Q := Q) (S := S) hg hw hb hc ops.size (Array.replicate ops.size false) a w.drew (by simp) (Closed.start _ _ _) (h hS)
  rw [Array.size_push]
  rwa [show Array.replicate (ops.size + 1) false = (Array.replicate ops.size false).push false by simp [Array.replicate_succ]]

/-- The same for a list of operations as it stands. -/
theorem wp_region_offL {l : List Oper} {id : Nat} {a : Act} {w : World} (hne : l ≠ []) (hm : P.follows .mixedOrders = true) (hg : (l.toArray.all fun p => p.guard.isNone) = true)
    (hw : (List.range l.dropLast.length).all (fun j => ((l.getLast hne).after.any fun e => Region.binds .any e && e.on == j) || (List.range l.dropLast.length).any fun k => decide (j < k) && ((l.dropLast[k]?).map fun p => p.after.any fun e => Region.binds .any e && e.on == j).getD false) = true)
    (hb : ((l.getLast hne).after.all fun e => !Region.binds .any e || decide (e.on < l.dropLast.length)) = true) (hc : (List.range l.dropLast.length).all (fun i => ((l.dropLast[i]?).map fun p => p.after.all fun e => !Region.binds .any e || decide (e.on < i)).getD false) = true)
    (hS : S w.drew) (h : S w.drew → wpAnyH P .any l.dropLast.toArray (offQ P l.toArray Q l.dropLast.length) S l.dropLast.length (Array.replicate l.dropLast.length false) a w.drew) : (Code.region id l.toArray true).wp P Q a w := by
  have e : l.toArray = l.dropLast.toArray.push (l.getLast hne) := by
    rw [List.push_toArray, List.dropLast_concat_getLast]
  rw [e] at hg h ⊢
  exact wp_region_off hm hg (by simpa using hw) (by simpa using hb) (by simpa using hc) hS (by simpa using h)
theorem offQ_last {n : Nat} {a : Act} {w : World} {o' : Oper} (ho : ops[n]? = some o') (h : ∀ K' : Act → World → Prop, Hid (∀ a w, Q .normal a w → K' a w) → if Region.wanted o' (yielded ops a.tmps) = true then Oper.wp P o' a w K' Q else K' (a.put o'.dst undef) w) : offQ P ops Q n .normal a w :=
  wpOp_step ho fun K' hK => h K' hK
end

end Go.Proofs.Ytbghcoihndlihaa
