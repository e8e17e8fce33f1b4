/- Pk, Off, Add, Once, joined. -/
import Derived.Test.YtnjmlhokkhkaaaaGreatDoorQ1
import Derived.Test.YtnjmlhokkhkaaaaGreatDoorQ8
import Derived.Deep.RegionHeld3
import Derived.Deep.AppendLies
import Derived.Deep.DeepCutAuto
import Derived.Laws.StructEq
namespace Go.Proofs.YtnjmlhokkhkaaaaGreatDoor

/- Where names are given and taken: events, by block, then by time. -/
section

instance : DecidableEq MoveD := fun a b => decidable_of_iff (a.dst = b.dst ∧ a.src = b.src) ⟨fun h => by cases a; cases b; simp at h; obtain ⟨h1, h2⟩ := h; subst h1 h2; rfl, fun h => by subst h; exact ⟨rfl, rfl⟩⟩

/-- What the first k of a list give, one behind the other. -/
def upTo {α β : Type} (g : Nat → α → List β) (l : List α) (k : Nat) : List β := (List.range k).flatMap fun i => match l[i]? with
  | some x => g i x
  | none => []
section
variable {α β : Type} {g : Nat → α → List β} {l : List α}
theorem upTo_zero (g : Nat → α → List β) (l : List α) : upTo g l 0 = [] := rfl
theorem upTo_succ {k : Nat} {x : α} (h : l[k]? = some x) : upTo g l (k + 1) = upTo g l k ++ g k x := by
  unfold upTo
  rw [List.range_succ, List.flatMap_append]
  congr 1
  simp [h]
theorem upTo_len {c : Nat} (hg : ∀ i x, l[i]? = some x → (g i x).length ≤ c) : ∀ k, (upTo g l k).length ≤ c * k
  | 0 => by simp [upTo_zero]
  | k + 1 => by
    have ih := upTo_len (c := c) hg k
    cases h : l[k]? with
    | some x =>
      have := hg k x h
      rw [upTo_succ h, List.length_append, Nat.mul_succ]
      omega
    | none =>
      have : upTo g l (k + 1) = upTo g l k := by
        unfold upTo
        rw [List.range_succ, List.flatMap_append]
        simp [h]
      rw [this, Nat.mul_succ]
      omega
theorem mem_upTo {k : Nat} {y : β} (h : y ∈ upTo g l k) : ∃ i x, i < k ∧ l[i]? = some x ∧ y ∈ g i x := by
  unfold upTo at h
  rw [List.mem_flatMap] at h
  obtain ⟨i, hi, hy⟩ := h
  rw [List.mem_range] at hi
  cases hx : l[i]? with
  | some x => rw [hx] at hy; exact ⟨i, x, hi, hx, hy⟩
  | none => rw [hx] at hy; cases hy
theorem upTo_mem {k i : Nat} {x : α} {y : β} (hi : i < k) (hx : l[i]? = some x) (hy : y ∈ g i x) : y ∈ upTo g l k := by
  unfold upTo
  rw [List.mem_flatMap]
  exact ⟨i, List.mem_range.2 hi, by rw [hx]; exact hy⟩
end

/-- A name and a place (dst: the block; src: the time). -/
structure EvD where
  n : Int
  pl : MoveD

/-- The places of one name. -/
def pick (evs : List EvD) (j : Int) : List MoveD := (evs.filter fun e => e.n == j).map (·.pl)
theorem pick_nil (j : Int) : pick [] j = [] := rfl
theorem pick_append (a b : List EvD) (j : Int) : pick (a ++ b) j = pick a j ++ pick b j := by simp [pick]
theorem pick_one (e : EvD) (j : Int) : pick [e] j = if e.n = j then [e.pl] else [] := by
  unfold pick
  by_cases h : e.n = j
  · simp [h]
  · simp [h]
theorem pick_snoc (evs : List EvD) (e : EvD) (j : Int) : pick (evs ++ [e]) j = if e.n = j then pick evs j ++ [e.pl] else pick evs j := by
  rw [pick_append, pick_one]
  split <;> simp
theorem pick_len (evs : List EvD) (j : Int) : (pick evs j).length ≤ evs.length := by
  unfold pick
  rw [List.length_map]
  exact List.length_filter_le _ _
theorem mem_pick {evs : List EvD} {j : Int} {p : MoveD} (h : p ∈ pick evs j) : ∃ e ∈ evs, e.n = j ∧ e.pl = p := by
  unfold pick at h
  rw [List.mem_map] at h
  obtain ⟨e, he, hp⟩ := h
  rw [List.mem_filter] at he
  exact ⟨e, he.1, by simpa using he.2, hp⟩
theorem take_snoc {α : Type} {xs : List α} {m : Nat} {u : α} (h : xs[m]? = some u) : xs.take (m + 1) = xs.take m ++ [u] := by
  rw [List.take_add_one, h]; rfl

/-- One place more, if it is not the last one already. -/
def once (l : List MoveD) (p : MoveD) : List MoveD := if l.getLast? = some p then l else l ++ [p]
theorem once_len (l : List MoveD) (p : MoveD) : (once l p).length ≤ l.length + 1 := by
  unfold once
  split <;> simp
theorem mem_once {l : List MoveD} {p q : MoveD} : q ∈ once l p ↔ q ∈ l ∨ q = p := by
  unfold once
  split
  · rename_i h
    constructor
    · exact .inl
    · rintro (h' | rfl)
      · exact h'
      · exact List.mem_of_getLast? h
  · simp
def pickO (evs : List EvD) (j : Int) : List MoveD := (pick evs j).foldl once []
theorem pickO_nil (j : Int) : pickO [] j = [] := rfl
theorem pickO_snoc (evs : List EvD) (e : EvD) (j : Int) : pickO (evs ++ [e]) j = if e.n = j then once (pickO evs j) e.pl else pickO evs j := by
  unfold pickO
  rw [pick_snoc]
  split
  · rw [List.foldl_append]; rfl
  · rfl
theorem foldl_once_len : ∀ (l acc : List MoveD), (l.foldl once acc).length ≤ acc.length + l.length
  | [], acc => by simp
  | p :: l, acc => by
    have := foldl_once_len l (once acc p)
    have := once_len acc p
    simp only [List.foldl_cons, List.length_cons]
    omega
theorem pickO_len (evs : List EvD) (j : Int) : (pickO evs j).length ≤ evs.length := by
  have := foldl_once_len (pick evs j) []
  have := pick_len evs j
  unfold pickO
  simp at *
  omega
theorem mem_foldl_once : ∀ (l acc : List MoveD) (q : MoveD), q ∈ l.foldl once acc ↔ q ∈ acc ∨ q ∈ l
  | [], acc, q => by simp
  | p :: l, acc, q => by
    rw [List.foldl_cons, mem_foldl_once l _ q, mem_once, List.mem_cons]
    constructor
    · rintro ((h | h) | h)
      · exact .inl h
      · exact .inr (.inl h)
      · exact .inr (.inr h)
    · rintro (h | h | h)
      · exact .inl (.inl h)
      · exact .inl (.inr h)
      · exact .inr h
theorem mem_pickO {evs : List EvD} {j : Int} {q : MoveD} : q ∈ pickO evs j ↔ q ∈ pick evs j := by
  unfold pickO
  rw [mem_foldl_once]
  simp

def phG (k : Int) (l : List PhiD) (j : Nat) : List EvD := upTo (fun _ p => [⟨p.v, ⟨k, 0⟩⟩]) l j
def mvG (k t : Int) (l : List MoveD) (j : Nat) : List EvD := upTo (fun _ m => [⟨m.dst, ⟨k, t⟩⟩]) l j
def mvT (k t : Int) (l : List MoveD) (j : Nat) : List EvD := upTo (fun _ m => [⟨m.src, ⟨k, t⟩⟩]) l j
def insG (k : Int) (l : List InsD) (j : Nat) : List EvD := upTo (fun i x => if x.v = -1 then [] else [⟨x.v, ⟨k, 2 + (i : Int)⟩⟩]) l j
def insT (k : Int) (l : List InsD) (j : Nat) : List EvD := upTo (fun i x => (usesL x.op x.v x.a x.b).map fun u => ⟨u, ⟨k, 2 + (i : Int)⟩⟩) l j
/-- What a block gives (but for the Params). -/
def blkG (k : Int) (x : BlockD) : List EvD := phG k x.phis x.phis.length ++ mvG k 1 x.head x.head.length ++ insG k x.body x.body.length ++ mvG k (2 + (x.body.length : Int)) x.tail x.tail.length
def parG (n : Nat) : List EvD := (List.range n).map fun (i : Nat) => ⟨(i : Int), ⟨0, 0⟩⟩
theorem parG_succ (n : Nat) : parG (n + 1) = parG n ++ [⟨(n : Int), ⟨0, 0⟩⟩] := by simp [parG, List.range_succ]
theorem parG_len (n : Nat) : (parG n).length = n := by simp [parG]
/-- The givings of the Params and of the first k blocks. -/
def defsK (f : FunD) (k : Nat) : List EvD := parG f.params.toNat ++ upTo (fun i x => blkG (i : Int) x) f.blocks k
/-- Of one block, the Params with the first one. -/
def blkP (f : FunD) (k : Nat) (x : BlockD) : List EvD := (if k = 0 then parG f.params.toNat else []) ++ blkG (k : Int) x
theorem blkP_all (f : FunD) : ∀ k, k ≤ f.blocks.length → 1 ≤ k → upTo (blkP f) f.blocks k = defsK f k
  | 0, _, h => absurd h (by omega)
  | k + 1, hk, _ => by
    have hx : f.blocks[k]? = some f.blocks[k] := List.getElem?_eq_getElem (by omega)
    rw [upTo_succ hx]
    unfold defsK
    rw [upTo_succ hx]
    rcases Nat.eq_zero_or_pos k with rfl | h0
    · simp [upTo_zero, blkP]
    · rw [blkP_all f k (by omega) h0]
      unfold defsK blkP
      rw [if_neg (by omega), List.nil_append, List.append_assoc]

/-- At which of its preds a block is. -/
def wayF (f : FunD) (t k : Int) : Nat := (predsF f t).idxOf k
theorem wayF_lt {f : FunD} {t k : Int} (h : k ∈ predsF f t) : wayF f t k < (predsF f t).length := List.idxOf_lt_length_of_mem h
theorem wayF_get {f : FunD} {t k : Int} (h : k ∈ predsF f t) : (predsF f t)[wayF f t k]? = some k := by
  rw [List.getElem?_eq_getElem (wayF_lt h)]
  exact congrArg some (List.getElem_idxOf (wayF_lt h))
theorem wayF_only {f : FunD} {t k : Int} {i : Nat} (h : (predsF f t)[i]? = some k) : i = wayF f t k := by
  have hk : k ∈ predsF f t := List.mem_of_getElem? h
  have hw := wayF_get hk
  have hp := predsF_pair f t
  rw [List.pairwise_iff_getElem] at hp
  have h1 := List.getElem?_eq_some_iff.1 h
  have h2 := List.getElem?_eq_some_iff.1 hw
  obtain ⟨l1, e1⟩ := h1
  obtain ⟨l2, e2⟩ := h2
  rcases Nat.lt_trichotomy i (wayF f t k) with hlt | he | hgt
  · have := hp i (wayF f t k) l1 l2 hlt
    rw [e1, e2] at this
    omega
  · exact he
  · have := hp (wayF f t k) i l2 l1 hgt
    rw [e1, e2] at this
    omega
/-- What the Phis of the block t take from k. -/
def phiL (f : FunD) (k t : Int) : List Int := match f.blocks[t.toNat]? with
  | some y => y.phis.map fun p => p.args.getD (wayF f t k) 0
  | none => []
/-- What is taken at the End of a block. -/
def endL (f : FunD) (k : Int) (x : BlockD) : List Int := (if x.fin.k = 2 then [] else [x.fin.a]) ++ (toE x.fin).flatMap (phiL f k)
def blkT (f : FunD) (k : Nat) (x : BlockD) : List EvD := mvT k 1 x.head x.head.length ++ insT k x.body x.body.length ++ mvT k (2 + (x.body.length : Int)) x.tail x.tail.length ++ (endL f k x).map fun u => ⟨u, ⟨k, 3 + (x.body.length : Int)⟩⟩
/-- The takings of the first k blocks. -/
def takesK (f : FunD) (k : Nat) : List EvD := upTo (blkT f) f.blocks k

theorem phiL_at {f : FunD} {k : Int} {t : Nat} {y : BlockD} (h : f.blocks[t]? = some y) : phiL f k t = y.phis.map fun p => p.args.getD (wayF f t k) 0 := by
  unfold phiL
  rw [Int.toNat_natCast, h]

/- How many they are. -/
theorem usesL_le2 (op v a b : Int) : (usesL op v a b).length ≤ 2 := usesL_len op v a b
theorem blkG_len {f : FunD} (hp : FunP f) {k : Nat} {x : BlockD} (hx : f.blocks[k]? = some x) : (blkG k x).length ≤ 164 := by
  have hb := hp.1.2.2.2.2 k x hx
  have h1 := (hp.2.2.2 k x hx).1
  have h2 := hb.2.1.1
  have h3 := hb.2.2.1.1
  have h4 := hb.2.2.2.1
  have e1 := upTo_len (g := fun (_ : Nat) (p : PhiD) => [(⟨p.v, ⟨(k : Int), 0⟩⟩ : EvD)]) (l := x.phis) (c := 1) (fun _ _ _ => by simp) x.phis.length
  have e2 := upTo_len (g := fun (_ : Nat) (m : MoveD) => [(⟨m.dst, ⟨(k : Int), 1⟩⟩ : EvD)]) (l := x.head) (c := 1) (fun _ _ _ => by simp) x.head.length
  have e3 := upTo_len (g := fun (i : Nat) (x : InsD) => if x.v = -1 then [] else [(⟨x.v, ⟨(k : Int), 2 + (i : Int)⟩⟩ : EvD)]) (l := x.body) (c := 1) (fun _ _ _ => by split <;> simp) x.body.length
  have e4 := upTo_len (g := fun (_ : Nat) (m : MoveD) => [(⟨m.dst, ⟨(k : Int), 2 + (x.body.length : Int)⟩⟩ : EvD)]) (l := x.tail) (c := 1) (fun _ _ _ => by simp) x.tail.length
  unfold blkG phG mvG insG
  simp only [List.length_append]
  omega
theorem defsK_len {f : FunD} (hp : FunP f) (k : Nat) (hk : k ≤ f.blocks.length) : (defsK f k).length ≤ 7000 := by
  have h40 := hp.1.1.2
  have h6 := hp.1.2.2.1.2
  have e := upTo_len (g := fun (i : Nat) (x : BlockD) => blkG (i : Int) x) (l := f.blocks) (c := 164) (fun i x hx => blkG_len hp hx) k
  unfold defsK
  rw [List.length_append, parG_len]
  omega
theorem phiL_len {f : FunD} (hp : FunP f) (k t : Int) : (phiL f k t).length ≤ 4 := by
  unfold phiL
  cases h : f.blocks[t.toNat]? with
  | some y => simpa using (hp.2.2.2 _ y h).1
  | none => simp
theorem toE_len (e : EndD) : (toE e).length ≤ 2 := toL_len _ _ _
theorem endL_len {f : FunD} (hp : FunP f) (k : Int) (x : BlockD) : (endL f k x).length ≤ 9 := by
  have h := toE_len x.fin
  unfold endL
  rw [List.length_append]
  have h1 : (if x.fin.k = 2 then ([] : List Int) else [x.fin.a]).length ≤ 1 := by split <;> simp
  have h2 : ((toE x.fin).flatMap (phiL f k)).length ≤ 8 := by
    generalize toE x.fin = ts at h
    match ts, h with
    | [], _ => simp
    | [a], _ => have := phiL_len hp k a; simp; omega
    | [a, b], _ => have := phiL_len hp k a; have := phiL_len hp k b; simp; omega
    | _ :: _ :: _ :: _, h => simp at h
  omega
theorem blkT_len {f : FunD} (hp : FunP f) {k : Nat} {x : BlockD} (hx : f.blocks[k]? = some x) : (blkT f k x).length ≤ 249 := by
  have hb := hp.1.2.2.2.2 k x hx
  have h2 := hb.2.1.1
  have h3 := hb.2.2.1.1
  have h4 := hb.2.2.2.1
  have h5 := endL_len hp k x
  have e2 := upTo_len (g := fun (_ : Nat) (m : MoveD) => [(⟨m.src, ⟨(k : Int), 1⟩⟩ : EvD)]) (l := x.head) (c := 1) (fun _ _ _ => by simp) x.head.length
  have e3 := upTo_len (g := fun (i : Nat) (x : InsD) => (usesL x.op x.v x.a x.b).map fun u => (⟨u, ⟨(k : Int), 2 + (i : Int)⟩⟩ : EvD)) (l := x.body) (c := 2) (fun _ x _ => by rw [List.length_map]; exact usesL_len _ _ _ _) x.body.length
  have e4 := upTo_len (g := fun (_ : Nat) (m : MoveD) => [(⟨m.src, ⟨(k : Int), 2 + (x.body.length : Int)⟩⟩ : EvD)]) (l := x.tail) (c := 1) (fun _ _ _ => by simp) x.tail.length
  unfold blkT mvT insT
  simp only [List.length_append, List.length_map]
  omega
theorem takesK_len {f : FunD} (hp : FunP f) (k : Nat) (hk : k ≤ f.blocks.length) : (takesK f k).length ≤ 10000 := by
  have h40 := hp.1.1.2
  have e := upTo_len (g := blkT f) (l := f.blocks) (c := 249) (fun i x hx => blkT_len hp hx) k
  unfold takesK
  omega

/- The names are below Names. -/
theorem below_iff {a n : Int} : isBelowB a n = true ↔ 0 ≤ a ∧ a < n := by simp [isBelowB]
end

/- A region whose last operation waits for all others: it may be walked without that one first. -/
section
open Go.ChangeShapes Go.WideShapes Go.ChangeAt Go.RowKit Go.Joins

section
variable {P : Program} {ops : Array Oper} {o : Oper} {Q : Exit → Act → World → Prop} {S : World → Prop} {md : Region.Mode}

/-- What is asked behind the others: that the last one may be carried out. -/
def offQ (P : Program) (ops : Array Oper) (Q : Exit → Act → World → Prop) (n : Nat) : Exit → Act → World → Prop
  | .normal, a, w => wpOp P ops Q n (Q .normal) a w
  | e, a, w => Q e a w

def AllListed (n : Nat) (listed : Array Bool) : Prop := ∀ j, j < n → listed.getD j true = true

/-- Who is listed has those listed that he waits for. -/
def Closed (ops : Array Oper) (md : Region.Mode) (l : Array Bool) : Prop := ∀ j p, ops[j]? = some p → l.getD j false = true → (p.after.all fun e => !Region.binds md e || l.getD e.on false) = true
theorem Closed.start (ops : Array Oper) (md : Region.Mode) (n : Nat) : Closed ops md (Array.replicate n false) := by
  intro j p _ h
  rw [Array.getD_eq_getD_getElem?, Array.getElem?_replicate] at h
  split at h <;> simp at h
theorem getD_set (l : Array Bool) (i j : Nat) (h : l.getD j false = true) : (l.setIfInBounds i true).getD j false = true := by
  rw [Array.getD_eq_getD_getElem?, Array.getElem?_setIfInBounds]
  by_cases e : i = j
  · subst e
    rw [if_pos rfl]
    rw [Array.getD_eq_getD_getElem?] at h
    by_cases hl : i < l.size
    · rw [if_pos hl]; rfl
    · rw [Array.getElem?_eq_none (by omega)] at h; simp at h
  · rw [if_neg e, ← Array.getD_eq_getD_getElem?]; exact h
theorem Closed.step {ops : Array Oper} {md : Region.Mode} {l : Array Bool} (h : Closed ops md l) {i : Nat} (hi : i ∈ Region.ready md ops l) : Closed ops md (l.setIfInBounds i true) := by
  intro j p hp hj
  have key : (p.after.all fun e => !Region.binds md e || l.getD e.on false) = true := by
    by_cases e : i = j
    · subst e
      unfold Region.ready at hi
      have h1 := (List.mem_filter.1 hi).2
      rw [hp] at h1
      simp only [Option.map_some, Option.getD_some, Bool.and_eq_true] at h1
      exact h1.2
    · refine h j p hp ?_
      rw [Array.getD_eq_getD_getElem?, Array.getElem?_setIfInBounds, if_neg e, ← Array.getD_eq_getD_getElem?] at hj
      exact hj
  rw [Array.all_eq_true'] at key ⊢
  intro e he
  have := key e he
  cases hb : Region.binds md e
  · rfl
  · rw [hb] at this
    have h2 : l.getD e.on false = true := by simpa using this
    rw [getD_set l i _ h2]; rfl

theorem getD_push {l : Array Bool} {j : Nat} {d : Bool} (h : j < l.size) (b : Bool) : (l.push b).getD j d = l.getD j d := by
  simp [Array.getD_eq_getD_getElem?, Array.getElem?_push, Nat.ne_of_lt h]
theorem getD_push_false (l : Array Bool) (j : Nat) : (l.push false).getD j false = l.getD j false := by
  rcases Nat.lt_trichotomy j l.size with h | h | h
  · exact getD_push h false
  · subst h; simp [Array.getD_eq_getD_getElem?]
  · simp only [Array.getD_eq_getD_getElem?, Array.getElem?_push]
    rw [if_neg (by omega)]
theorem getD_both {l : Array Bool} {j : Nat} (h : j < l.size) : l.getD j true = l.getD j false := by
  simp [Array.getD_eq_getD_getElem?, h]

theorem ready_push {l : Array Bool} (hl : l.size = ops.size) (hcl : Closed ops md l) (hw : (List.range ops.size).all (fun j => (o.after.any fun e => Region.binds md e && e.on == j) || (List.range ops.size).any fun k => decide (j < k) && ((ops[k]?).map fun p => p.after.any fun e => Region.binds md e && e.on == j).getD false) = true) (hb : (o.after.all fun e => !Region.binds md e || decide (e.on < ops.size)) = true) :
    (AllListed ops.size l → Region.ready md ops l = [] ∧ Region.ready md (ops.push o) (l.push false) = [ops.size]) ∧ (¬ AllListed ops.size l → Region.ready md (ops.push o) (l.push false) = Region.ready md ops l) := by
  have hsame : (List.range ops.size).filter (fun i => !(l.push false).getD i true && (((ops.push o)[i]?).map (·.after.all fun e => !Region.binds md e || (l.push false).getD e.on false)).getD false) = Region.ready md ops l := by
    unfold Region.ready
    apply List.filter_congr
    intro i hi
    have hi' := List.mem_range.1 hi
    rw [getD_push (by omega) false, Array.getElem?_push, if_neg (by omega)]
    congr 2
    congr 1
    funext p
    congr 1
    funext e
    rw [getD_push_false]
  have hall : Region.ready md (ops.push o) (l.push false) = Region.ready md ops l ++ (if (o.after.all fun e => !Region.binds md e || l.getD e.on false) = true then [ops.size] else []) := by
    rw [← hsame]
    unfold Region.ready
    rw [Array.size_push, List.range_succ, List.filter_append]
    congr 1
    have h1 : (l.push false).getD ops.size true = false := by simp [Array.getD_eq_getD_getElem?, ← hl]
    have h2 : (ops.push o)[ops.size]? = some o := by simp
    rw [List.filter_cons, List.filter_nil, h1, h2]
    simp only [Bool.not_false, Bool.true_and, Option.map_some, Option.getD_some, getD_push_false]
  refine ⟨fun ha => ⟨?_, ?_⟩, fun hn => ?_⟩
  · unfold Region.ready
    rw [List.filter_eq_nil_iff]
    intro i hi
    rw [ha i (List.mem_range.1 hi)]
    simp
  · have h0 : Region.ready md ops l = [] := by
      unfold Region.ready
      rw [List.filter_eq_nil_iff]
      intro i hi
      rw [ha i (List.mem_range.1 hi)]
      simp
    rw [hall, h0, if_pos]
    · rfl
    · rw [Array.all_eq_true'] at hb ⊢
      intro e he
      have := hb e he
      cases hbe : Region.binds md e
      · rfl
      · rw [hbe] at this
        have hlt : e.on < ops.size := by simpa using this
        have h3 := ha e.on hlt
        rw [getD_both (by omega)] at h3
        rw [h3]; rfl
  · rw [hall, if_neg, List.append_nil]
    intro h
    apply hn
    have key : ∀ m j, ops.size - m ≤ j → j < ops.size → l.getD j false = true := by
      intro m
      induction m with
      | zero => intro j h1 h2; omega
      | succ m ih =>
        intro j h1 hj
        rw [List.all_eq_true] at hw
        have h3 := hw j (List.mem_range.2 hj)
        rw [Bool.or_eq_true] at h3
        rcases h3 with h3 | h3
        · rw [Array.any_eq_true'] at h3
          obtain ⟨e, he, hbe⟩ := h3
          simp only [Bool.and_eq_true, beq_iff_eq] at hbe
          rw [Array.all_eq_true'] at h
          have h2 := h e he
          rw [hbe.1, hbe.2] at h2
          simpa using h2
        · rw [List.any_eq_true] at h3
          obtain ⟨k, hk, h3⟩ := h3
          have hk' := List.mem_range.1 hk
          rw [Array.getElem?_eq_getElem hk'] at h3
          simp only [Option.map_some, Option.getD_some, Bool.and_eq_true, decide_eq_true_eq] at h3
          have h4 := h3.2
          rw [Array.any_eq_true'] at h4
          obtain ⟨e, he, hbe⟩ := h4
          simp only [Bool.and_eq_true, beq_iff_eq] at hbe
          have h5 := hcl k _ (Array.getElem?_eq_getElem hk') (ih k (by omega) hk')
          rw [Array.all_eq_true'] at h5
          have h2 := h5 e he
          rw [hbe.1, hbe.2] at h2
          simpa using h2
    intro j hj
    rw [getD_both (by omega)]
    exact key ops.size j (by omega) hj

/-- Somebody who is not listed is ready, where each waits for earlier ones alone. -/
theorem ready_some {l : Array Bool} (hb : (List.range ops.size).all (fun i => ((ops[i]?).map fun p => p.after.all fun e => !Region.binds md e || decide (e.on < i)).getD false) = true) (hl : l.size = ops.size) (hn : ¬ AllListed ops.size l) : Region.ready md ops l ≠ [] := by
  -- the least one
  have hex : ∃ j, j < ops.size ∧ l.getD j true = false ∧ ∀ i, i < j → l.getD i true = true := by
    have key : ∀ n, n ≤ ops.size → (∃ j, j < n ∧ l.getD j true = false ∧ ∀ i, i < j → l.getD i true = true) ∨ ∀ i, i < n → l.getD i true = true := by
      intro n
      induction n with
      | zero => intro _; exact .inr fun i hi => absurd hi (by omega)
      | succ n ih =>
        intro hle
        rcases ih (by omega) with ⟨j, h1, h2, h3⟩ | h
        · exact .inl ⟨j, by omega, h2, h3⟩
        · cases hv : l.getD n true
          · exact .inl ⟨n, by omega, hv, h⟩
          · refine .inr fun i hi => ?_
            by_cases e : i = n
            · subst e; exact hv
            · exact h i (by omega)
    rcases key ops.size (Nat.le_refl _) with h | h
    · exact h
    · exact absurd h hn
  obtain ⟨j, hj, hf, hlow⟩ := hex
  intro h0
  unfold Region.ready at h0
  rw [List.filter_eq_nil_iff] at h0
  apply h0 j (List.mem_range.2 hj)
  rw [hf, Array.getElem?_eq_getElem hj]
  simp only [Bool.not_false, Bool.true_and, Option.map_some, Option.getD_some]
  rw [List.all_eq_true] at hb
  have h1 := hb j (List.mem_range.2 hj)
  rw [Array.getElem?_eq_getElem hj] at h1
  simp only [Option.map_some, Option.getD_some] at h1
  rw [Array.all_eq_true'] at h1 ⊢
  intro e he
  have h2 := h1 e he
  cases hbe : Region.binds md e
  · rfl
  · rw [hbe] at h2
    have hlt : e.on < j := by simpa using h2
    have h3 := hlow e.on hlt
    rw [getD_both (by omega)] at h3
    rw [h3]; rfl

theorem wpAny_nil {l : Array Bool} {a : Act} {w : World} (h : Region.ready md ops l = []) (hq : Q .normal a w) : ∀ k, wpAny P md ops Q k l a w
  | 0 => ⟨h, hq⟩
  | _ + 1 => ⟨fun _ => hq, fun i hi => (by rw [h] at hi; cases hi)⟩

theorem wp_off {p : Oper} {a : Act} {w : World} {K : Act → World → Prop} {n : Nat} (h : p.wp P a w K (offQ P ops Q n)) : p.wp P a w K Q := by
  unfold Oper.wp at *
  generalize (execOp a.eval p).run P w = r at *
  cases r with
  | ok x w' =>
    cases x <;> simp only [Oper.upon] at h ⊢ <;>
      first
        | exact h
        | exact Calls.mono h (fun e w'' he => by cases e <;> exact he)
  | halt x w' => cases x <;> simp only [Oper.upon] at h ⊢ <;> exact h

theorem wpOp_off {a : Act} {w : World} {K : Act → World → Prop} {i : Nat} (hg : ((ops.push o).all fun p => p.guard.isNone) = true) (hi : i < ops.size) (h : wpOp P ops (offQ P (ops.push o) Q ops.size) i K a w) : wpOp P (ops.push o) Q i K a w := by
  have hi1 : ops[i]? = some ops[i] := Array.getElem?_eq_getElem hi
  have hi2 : (ops.push o)[i]? = some ops[i] := by rw [Array.getElem?_push, if_neg (by omega)]; exact hi1
  have hgi : ops[i].guard = none := by
    rw [Array.all_eq_true'] at hg
    have := hg ops[i] (Array.mem_push_of_mem _ (Array.getElem_mem hi))
    simpa using this
  have hw1 : ∀ y, Region.wanted ops[i] y = true := fun y => by unfold Region.wanted; rw [hgi]
  unfold wpOp at h ⊢
  simp only [hi1, hi2, hw1, if_true] at h ⊢
  rcases h with h | ⟨h1, a', w', h2⟩
  · exact .inl (wp_off h)
  · exact .inr ⟨h1, a', w', h2⟩

theorem wpAny_off (hg : ((ops.push o).all fun p => p.guard.isNone) = true) (hw : (List.range ops.size).all (fun j => (o.after.any fun e => Region.binds md e && e.on == j) || (List.range ops.size).any fun k => decide (j < k) && ((ops[k]?).map fun p => p.after.any fun e => Region.binds md e && e.on == j).getD false) = true) (hb : (o.after.all fun e => !Region.binds md e || decide (e.on < ops.size)) = true)
    (hc : (List.range ops.size).all (fun i => ((ops[i]?).map fun p => p.after.all fun e => !Region.binds md e || decide (e.on < i)).getD false) = true) :
    ∀ (k : Nat) (l : Array Bool) (a : Act) (w : World), l.size = ops.size → Closed ops md l → wpAnyH P md ops (offQ P (ops.push o) Q ops.size) S k l a w → wpAny P md (ops.push o) Q (k + 1) (l.push false) a w := by
  have hlast : ∀ (k : Nat) (l : Array Bool) (a : Act) (w : World), l.size = ops.size → Closed ops md l → AllListed ops.size l → wpOp P (ops.push o) Q ops.size (Q .normal) a w → wpAny P md (ops.push o) Q (k + 1) (l.push false) a w := by
    intro k l a w hl hcl ha hq
    have hr := ((ready_push (md := md) hl hcl hw hb).1 ha).2
    refine ⟨fun h => (by rw [hr] at h; cases h), fun i hi => ?_⟩
    rw [hr] at hi
    simp only [List.mem_singleton] at hi
    subst hi
    refine wpOp_mono (fun a' w' h => wpAny_nil ?_ h k) hq
    unfold Region.ready
    rw [List.filter_eq_nil_iff]
    intro i hi
    have hi' := List.mem_range.1 hi
    rw [Array.size_push] at hi'
    have : ((l.push false).setIfInBounds ops.size true).getD i true = true := by
      rw [Array.getD_eq_getD_getElem?, Array.getElem?_setIfInBounds]
      by_cases e : ops.size = i
      · subst e; rw [if_pos rfl, if_pos (by simp; omega)]; rfl
      · rw [if_neg e, ← Array.getD_eq_getD_getElem?, getD_push (by omega) false]
        exact ha i (by omega)
    rw [this]
    simp
  intro k
  induction k with
  | zero =>
    intro l a w hl hcl h
    by_cases ha : AllListed ops.size l
    · exact hlast 0 l a w hl hcl ha h.2
    · exact absurd h.1 (ready_some hc hl ha)
  | succ k ih =>
    intro l a w hl hcl h
    by_cases ha : AllListed ops.size l
    · exact hlast (k + 1) l a w hl hcl ha (h.1 ((ready_push (md := md) hl hcl hw hb).1 ha).1)
    · have hr := (ready_push (md := md) hl hcl hw hb).2 ha
      refine ⟨fun h0 => by rw [hr] at h0; exact absurd h0 (ready_some hc hl ha), fun i hi => ?_⟩
      rw [hr] at hi
      have hlt : i < ops.size := by
        unfold Region.ready at hi
        exact List.mem_range.1 (List.mem_filter.1 hi).1
      refine wpOp_mono (fun a' w' hK => ?_) (wpOp_off hg hlt (h.2 i hi))
      have := ih (l.setIfInBounds i true) a' w' (by simpa using hl) (hcl.step hi) hK.2
      rwa [show (l.push false).setIfInBounds i true = (l.setIfInBounds i true).push false by
        apply Array.ext_getElem?
        intro j
        simp only [Array.getElem?_setIfInBounds, Array.getElem?_push, Array.size_setIfInBounds, Array.size_push]
        by_cases e : i = j
        · subst e
          rw [if_pos rfl, if_pos (by omega), if_neg (by omega), if_pos rfl, if_pos (by omega)]
        · rw [if_neg e, if_neg e]]

/-- The region is walked without its last operation; that one behind them. -/
theorem wp_region_off {id : Nat} {a : Act} {w : World} (hm : P.follows .mixedOrders = true) (hg : ((ops.push o).all fun p => p.guard.isNone) = true) (hw : (List.range ops.size).all (fun j => (o.after.any fun e => Region.binds .any e && e.on == j) || (List.range ops.size).any fun k => decide (j < k) && ((ops[k]?).map fun p => p.after.any fun e => Region.binds .any e && e.on == j).getD false) = true)
    (hb : (o.after.all fun e => !Region.binds .any e || decide (e.on < ops.size)) = true) (hc : (List.range ops.size).all (fun i => ((ops[i]?).map fun p => p.after.all fun e => !Region.binds .any e || decide (e.on < i)).getD false) = true)
    (hS : S w.drew) (h : S w.drew → wpAnyH P .any ops (offQ P (ops.push o) Q ops.size) S ops.size (Array.replicate ops.size false) a w.drew) : (Code.region id (ops.push o) true).wp P Q a w := by
  refine wp_region_any hm ?_
  have := wpAny_off (P := P) (Q := Q) (S := S) hg hw hb hc ops.size (Array.replicate ops.size false) a w.drew (by simp) (Closed.start _ _ _) (h hS)
  rw [Array.size_push]
  rwa [show Array.replicate (ops.size + 1) false = (Array.replicate ops.size false).push false by simp [Array.replicate_succ]]

/-- The same for a list of operations as it stands. -/
theorem wp_region_offL {l : List Oper} {id : Nat} {a : Act} {w : World} (hne : l ≠ []) (hm : P.follows .mixedOrders = true) (hg : (l.toArray.all fun p => p.guard.isNone) = true)
    (hw : (List.range l.dropLast.length).all (fun j => ((l.getLast hne).after.any fun e => Region.binds .any e && e.on == j) || (List.range l.dropLast.length).any fun k => decide (j < k) && ((l.dropLast[k]?).map fun p => p.after.any fun e => Region.binds .any e && e.on == j).getD false) = true)
    (hb : ((l.getLast hne).after.all fun e => !Region.binds .any e || decide (e.on < l.dropLast.length)) = true) (hc : (List.range l.dropLast.length).all (fun i => ((l.dropLast[i]?).map fun p => p.after.all fun e => !Region.binds .any e || decide (e.on < i)).getD false) = true)
    (hS : S w.drew) (h : S w.drew → wpAnyH P .any l.dropLast.toArray (offQ P l.toArray Q l.dropLast.length) S l.dropLast.length (Array.replicate l.dropLast.length false) a w.drew) : (Code.region id l.toArray true).wp P Q a w := by
  have e : l.toArray = l.dropLast.toArray.push (l.getLast hne) := by
    rw [List.push_toArray, List.dropLast_concat_getLast]
  rw [e] at hg h ⊢
  exact wp_region_off hm hg (by simpa using hw) (by simpa using hb) (by simpa using hc) hS (by simpa using h)
theorem offQ_last {n : Nat} {a : Act} {w : World} {o' : Oper} (ho : ops[n]? = some o') (h : ∀ K' : Act → World → Prop, Hid (∀ a w, Q .normal a w → K' a w) → if Region.wanted o' (yielded ops a.tmps) = true then Oper.wp P o' a w K' Q else K' (a.put o'.dst undef) w) : offQ P ops Q n .normal a w :=
  wpOp_step ho fun K' hK => h K' hK
end
end

/- add and addOnce of the program: one place more. -/
section
open Go.ChangeShapes Go.WideShapes Go.ChangeAt Go.RowKit Go.Joins

theorem step_append_place {ops : Array Oper} {o : Oper} {a : Act} {K : Act → World → Prop} {Q : Exit → Act → World → Prop} {F : Prop} (hgd : o.guard = none) (s x : Operand)
    (ho : o.op = .call { callee := .builtin .append, args := #[s, x], argTypes := #[29, 29] })
    (B : Nat) (v : Value) (es : List MoveD) (p q : Int) (w : World) (g : Nat) (hs : a.eval s = v) (hown : OP w B v es) (hx : a.eval x = .slice (some ⟨g, 0, none⟩) 1 1) (hg : w.heap[g]? = some (.cells #[.int .i64 p, .int .i64 q] 36 (0, 0))) (hb : B ≤ w.heap.size) (hlen : es.length ≤ 1048576)
    (h : ∀ g cap w', OP w' B (.slice (some ⟨g, 0, none⟩) (es.length + 1) cap) (es ++ [⟨p, q⟩]) → w.grownBy w' v.ownBlock → (v.ownBlock = some g ∨ g = w.heap.size) → K (a.put o.dst (.slice (some ⟨g, 0, none⟩) (es.length + 1) cap)) w') :
    if Region.wanted o (yielded ops a.tmps) = true then Oper.wp Tryz.prog o a w K Q else F := by
  obtain ⟨i0, hi, hz0, hz1, hz2⟩ := info_parts info_place
  refine step_append_lies (P := Tryz.prog) w hgd s x 29 ho B 36 i0 (.agg #[.int .i64 0, .int .i64 0]) 2 16 Tryz.underlying29 hi hz0 hz1 hz2 rfl (by decide) v es.length (fl es) hs hown ⟨g, 0, none⟩ 1 1 [.int .i64 p, .int .i64 q] hx rfl (World.news_of_block hg) (by simp [Value.oneCell']) (by omega) (by rw [maxLen_is]; omega) (by omega) hb w.heap.size rfl ?_
  intro g cap w' hown' hgr hat _
  refine h g cap w' ?_ hgr hat
  unfold OP
  rw [fl_append, List.length_append]
  exact hown'

def GivesAdd (G n : Nat) (row : Nat → List MoveD) (w : World) (e : Ending) (w' : World) : Prop := ∃ v, e = .returned v ∧ QRow w' (G + 1) G n row ∧ Adds w w' G

set_option maxRecDepth 10000 in
set_option maxHeartbeats 1000000 in
theorem add_any (G n : Nat) (row : Nat → List MoveD) (j : Nat) (p : MoveD) (w : World) (h : QRow w (G + 1) G n row) (hj : j < n) (hlen : (row j).length ≤ 1000000) :
    Calls Tryz.prog 48 #[.slice (some ⟨G, 0, none⟩) n n, .int .i64 j, .agg #[.int .i64 p.dst, .int .i64 p.src]] w (GivesAdd G n (fun i => if i = j then row j ++ [p] else row i) w) := by
  have hG := h.lt
  have hj' : (j : Int) < (n : Int) := by omega
  have hj0 : 0 ≤ (j : Int) := by omega
  go_enter Tryz.func48, Tryz.ntmps48
  go_upto_region 1 with fail
  have k0 : (w.alloc (.cells #[.int .i64 p.dst, .int .i64 p.src] 36)).cell? ⟨w.heap.size, 0, none⟩ = some (.int .i64 p.dst) := by go_simp
  have k1 : (w.alloc (.cells #[.int .i64 p.dst, .int .i64 p.src] 36)).cell? ⟨w.heap.size, 1, none⟩ = some (.int .i64 p.src) := by go_simp
  have hB1 : Below w.heap.size w (w.alloc (.cells #[.int .i64 p.dst, .int .i64 p.src] 36)) := (Below.refl _ _).alloc (Nat.le_refl _) _
  have hs1 : (w.alloc (.cells #[.int .i64 p.dst, .int .i64 p.src] 36)).heap.size = w.heap.size + 1 := by simp
  generalize w.alloc (.cells #[.int .i64 p.dst, .int .i64 p.src] 36) = w1 at *
  have HQ1 := Lib.hid (h.below hB1)
  have HA1 := Lib.hid (Adds.below hB1 hG)
  obtain ⟨q, hq⟩ : ∃ q, q = w.heap.size := ⟨_, rfl⟩
  rw [← hq] at k0 k1 hs1 hG ⊢
  have hql : q < w1.heap.size := by omega
  have hGl : G < w1.heap.size := by omega
  obtain ⟨v, hcv, hov⟩ := HQ1.out.get hj
  have hfz := HQ1.out.frozen j
  have HOV := Lib.hid hov
  have hqv : ∀ k, v.ownBlock = some k → k ≠ q ∧ G < k ∧ k < w1.heap.size := fun k hk => by
    refine ⟨fun e => ?_, ?_⟩
    · subst e
      obtain ⟨u, hu, ho⟩ := h.get hj
      have : u = v := by
        have h1 := (hB1.cell (p := ⟨G, j, none⟩) (show G < w.heap.size by omega)).trans hu
        rw [hcv] at h1
        exact (Option.some.inj h1).symm
      subst this
      have := (ho.lt _ hk).2
      omega
    · have := hov.lt k hk
      omega
  have HQV := Lib.hid hqv
  have Kd : (fun w' => w'.cell? ⟨G, j, none⟩ = some v ∧ w'.cell? ⟨q, 0, none⟩ = some (.int .i64 p.dst) ∧ w'.cell? ⟨q, 1, none⟩ = some (.int .i64 p.src)) w1.drew := ⟨hcv, k0, k1⟩
  have HS1 := Lib.hid hs1
  clear hov h hB1 hqv hq hs1
  refine wp_region_offL (S := ((fun w' => w'.cell? ⟨G, j, none⟩ = some v ∧ w'.cell? ⟨q, 0, none⟩ = some (.int .i64 p.dst) ∧ w'.cell? ⟨q, 1, none⟩ = some (.int .i64 p.src)))) (by simp) (by kernel_rfl) (by kernel_rfl) (by kernel_rfl) (by kernel_rfl) (by kernel_rfl) ?_ (fun hHeld => ?_)
  · (try dsimp only)
    (first | exact Kd | exact HK9.out | (refine ⟨?_, ?_, ?_⟩ <;> go_simp) | fail)
  simp only [List.dropLast_cons_cons, List.dropLast_singleton, List.length_cons, List.length_nil]
  refine wpAnyH_take (i := 0) (v := ?_) rfl (by kernel_rfl) (by kernel_rfl) (by kernel_rfl) (fun _ _ _ h => h) (Or.inl ⟨by rfl, ?_⟩) (by assumption) ?_
  rotate_left
  · intro w hSw
    simp only [List.getElem_toArray, List.getElem_cons_zero]
    (try dsimp only at hSw)
    go_simp
    first | done | (with_reducible rfl)
  simp only [List.getElem_toArray, List.getElem_cons_zero, Act.put, List.setIfInBounds_toArray, List.set_cons_zero, List.set_cons_succ]
  refine wpAnyH_take (i := 1) (v := ?_) rfl (by kernel_rfl) (by kernel_rfl) (by kernel_rfl) (fun _ _ _ h => h) (Or.inl ⟨by rfl, ?_⟩) (by assumption) ?_
  rotate_left
  · intro w hSw
    simp only [List.getElem_toArray, List.getElem_cons_succ, List.getElem_cons_zero]
    (try dsimp only at hSw)
    go_simp
    first | done | (with_reducible rfl)
  simp only [List.getElem_toArray, List.getElem_cons_succ, List.getElem_cons_zero, Act.put, List.setIfInBounds_toArray, List.set_cons_zero, List.set_cons_succ]
  refine wpAnyH_take (i := 2) (v := ?_) rfl (by kernel_rfl) (by kernel_rfl) (by kernel_rfl) (fun _ _ _ h => h) (Or.inl ⟨by rfl, ?_⟩) (by assumption) ?_
  rotate_left
  · intro w hSw
    simp only [List.getElem_toArray, List.getElem_cons_succ, List.getElem_cons_zero]
    (try dsimp only at hSw)
    go_simp
    first | done | (with_reducible rfl)
  simp only [List.getElem_toArray, List.getElem_cons_succ, List.getElem_cons_zero, Act.put, List.setIfInBounds_toArray, List.set_cons_zero, List.set_cons_succ]
  refine wpAnyH_take (i := 3) (v := ?_) rfl (by kernel_rfl) (by kernel_rfl) (by kernel_rfl) (fun _ _ _ h => h) (Or.inl ⟨by rfl, ?_⟩) (by assumption) ?_
  rotate_left
  · intro w hSw
    simp only [List.getElem_toArray, List.getElem_cons_succ, List.getElem_cons_zero]
    (try dsimp only at hSw)
    go_simp
    first | done | (with_reducible rfl)
  simp only [List.getElem_toArray, List.getElem_cons_succ, List.getElem_cons_zero, Act.put, List.setIfInBounds_toArray, List.set_cons_zero, List.set_cons_succ]
  refine wpAnyH_take (i := 4) (v := ?_) rfl (by kernel_rfl) (by kernel_rfl) (by kernel_rfl) (fun _ _ _ h => h) (Or.inl ⟨by rfl, ?_⟩) (by assumption) ?_
  rotate_left
  · intro w hSw
    simp only [List.getElem_toArray, List.getElem_cons_succ, List.getElem_cons_zero]
    (try dsimp only at hSw)
    go_simp
    first | done | (with_reducible rfl)
  simp only [List.getElem_toArray, List.getElem_cons_succ, List.getElem_cons_zero, Act.put, List.setIfInBounds_toArray, List.set_cons_zero, List.set_cons_succ]
  refine wpAnyH_take (i := 5) (v := ?_) rfl (by kernel_rfl) (by kernel_rfl) (by kernel_rfl) (fun _ _ _ h => h) (Or.inl ⟨by rfl, ?_⟩) (by assumption) ?_
  rotate_left
  · intro w hSw
    simp only [List.getElem_toArray, List.getElem_cons_succ, List.getElem_cons_zero]
    (try dsimp only at hSw)
    go_simp
    first | done | (with_reducible rfl)
  simp only [List.getElem_toArray, List.getElem_cons_succ, List.getElem_cons_zero, Act.put, List.setIfInBounds_toArray, List.set_cons_zero, List.set_cons_succ]
  refine wpAnyH_take (i := 6) (v := ?_) rfl (by kernel_rfl) (by kernel_rfl) (by kernel_rfl) (fun _ _ _ h => h) (Or.inl ⟨by rfl, ?_⟩) (by assumption) ?_
  rotate_left
  · intro w hSw
    simp only [List.getElem_toArray, List.getElem_cons_succ, List.getElem_cons_zero]
    (try dsimp only at hSw)
    go_simp
    first | done | (with_reducible rfl)
  simp only [List.getElem_toArray, List.getElem_cons_succ, List.getElem_cons_zero, Act.put, List.setIfInBounds_toArray, List.set_cons_zero, List.set_cons_succ]
  refine wpAnyH_ready (rs := [7]) (by kernel_rfl) (by simp) ?_
  refine AllReadyH.cons rfl (fun K hK => ?_) AllReadyH.nil
  simp only [List.getElem_toArray, List.getElem_cons_succ, List.getElem_cons_zero]
  go_simp
  refine hK.out _ _ ?_ (fun hHeld => ?_)
  · (try dsimp only)
    (first | exact Kd | exact HK9.out | (refine ⟨?_, ?_, ?_⟩ <;> go_simp) | fail)
  clear hK K
  (try simp only [List.getElem_toArray, List.getElem_cons_succ, List.getElem_cons_zero, Act.put, List.setIfInBounds_toArray, List.set_cons_zero, List.set_cons_succ])
  refine wpAnyH_ready (rs := [8]) (by kernel_rfl) (by simp) ?_
  refine AllReadyH.cons rfl (fun K hK => ?_) AllReadyH.nil
  ((refine step_append_place (by rfl) (.tmp 11) (.tmp 13) (by rfl) (G + 1) v (row j) p.dst p.src _ w1.heap.size (by rfl) (HOV.out.below ((Below.refl _ _).drew.alloc (by simp) _) (fun k hk => (HQV.out k hk).2.2)) (by rfl) (heap_alloc_new _ _) (by simp; omega) (by omega) ?_; intro g cap w9 hown9 hg9 hat9; have HO9 := Lib.hid hown9; have HG9 : Hid (w1.grownBy w9 v.ownBlock) := ((show w1.grownBy w1.drew _ from ⟨rfl, rfl, rfl, Nat.le_refl _, fun _ _ _ => rfl⟩).trans (World.grownBy_alloc w1.drew _ _)).trans hg9; have HA9 : Hid (v.ownBlock = some g ∨ g = w1.heap.size + 1) := (by rcases hat9 with h | h; exact .inl h; exact .inr (by rw [h]; simp)); have HK9 : Hid ((fun w' => w'.cell? ⟨G, j, none⟩ = some v ∧ w'.cell? ⟨q, 0, none⟩ = some (.int .i64 p.dst) ∧ w'.cell? ⟨q, 1, none⟩ = some (.int .i64 p.src)) w9) := ⟨(World.cell?_of_block (a := ⟨G, j, none⟩) (HG9.out.block _ hGl (fun e => by have := (HQV.out G e.symm).2.1; omega))).trans Kd.1, (World.cell?_of_block (a := ⟨q, 0, none⟩) (HG9.out.block _ hql (fun e => (HQV.out q e.symm).1 rfl))).trans Kd.2.1, (World.cell?_of_block (a := ⟨q, 1, none⟩) (HG9.out.block _ hql (fun e => (HQV.out q e.symm).1 rfl))).trans Kd.2.2⟩; clear hown9 hg9 hat9))
  refine hK.out _ _ ?_ (fun hHeld => ?_)
  · (try dsimp only)
    (first | exact Kd | exact HK9.out | (refine ⟨?_, ?_, ?_⟩ <;> go_simp) | fail)
  clear hK K
  (try simp only [List.getElem_toArray, List.getElem_cons_succ, List.getElem_cons_zero, Act.put, List.setIfInBounds_toArray, List.set_cons_zero, List.set_cons_succ])
  refine wpAnyH_take (i := 9) (v := ?_) rfl (by kernel_rfl) (by kernel_rfl) (by kernel_rfl) (fun _ _ _ h => h) (Or.inl ⟨by rfl, ?_⟩) (by assumption) ?_
  rotate_left
  · intro w hSw
    simp only [List.getElem_toArray, List.getElem_cons_succ, List.getElem_cons_zero]
    (try dsimp only at hSw)
    go_simp
    first | done | (with_reducible rfl)
  simp only [List.getElem_toArray, List.getElem_cons_succ, List.getElem_cons_zero, Act.put, List.setIfInBounds_toArray, List.set_cons_zero, List.set_cons_succ]
  refine wpAnyH_done (by kernel_rfl) ?_ _
  have hfz9 := (World.frozen?_of_block (a := ⟨G, j, none⟩) (HG9.out.block _ hGl (fun e => by have := (HQV.out G e.symm).2.1; omega))).trans hfz
  have hc9 := HK9.out.1
  refine offQ_last rfl (fun KL hKL => ?_)
  go_simp
  refine hKL.out _ _ ?_
  have hv9 : (Value.slice (some ⟨g, 0, none⟩) ((row j).length + 1) cap).ownBlock = v.ownBlock ∨ ∃ k, (Value.slice (some ⟨g, 0, none⟩) ((row j).length + 1) cap).ownBlock = some k ∧ w1.heap.size ≤ k := by
    rcases HA9.out with h | h
    · exact .inl (by rw [h]; rfl)
    · exact .inr ⟨g, rfl, by omega⟩
  have HQ9 := Lib.hid (HQ1.out.append hj rfl hcv HO9.out HG9.out hv9)
  have HD9 := Lib.hid (HA1.out.trans (Adds.append HQ1.out rfl hj hcv HG9.out hv9))
  go_wp2_with fail
  exact bodyPost_end (results_none Tryz.results48 _ _ _) rfl ⟨_, rfl, HQ9.out, HD9.out⟩
end

/- addOnce of the program: one place more, if it is not the last one already. -/
section
open Go.ChangeShapes Go.WideShapes Go.ChangeAt Go.RowKit Go.Joins

theorem getLast?_get {l : List MoveD} (h : l ≠ []) : ∃ x, l.getLast? = some x ∧ l[l.length - 1]? = some x := by
  cases hx : l.getLast? with
  | none => exact absurd (List.getLast?_eq_none_iff.1 hx) h
  | some x => exact ⟨x, rfl, by rw [← List.getLast?_eq_getElem?]; exact hx⟩

set_option maxRecDepth 10000 in
set_option maxHeartbeats 1000000 in
theorem addOnce_any (G n : Nat) (row : Nat → List MoveD) (j : Nat) (p : MoveD) (w : World) (h : QRow w (G + 1) G n row) (hj : j < n) (hlen : (row j).length ≤ 1000000) :
    Calls Tryz.prog 50 #[.slice (some ⟨G, 0, none⟩) n n, .int .i64 j, .agg #[.int .i64 p.dst, .int .i64 p.src]] w (GivesAdd G n (fun i => if i = j then once (row j) p else row i) w) := by
  have hG := h.lt
  have hj' : (j : Int) < (n : Int) := by omega
  have hj0 : 0 ≤ (j : Int) := by omega
  have hB1 : Below w.heap.size w (w.alloc (.cells #[.int .i64 p.dst, .int .i64 p.src] 36)) := (Below.refl _ _).alloc (Nat.le_refl _) _
  have HQ1 := Lib.hid (h.below hB1)
  have HA1 := Lib.hid (Adds.below hB1 hG)
  obtain ⟨v, hcv, hov⟩ := h.get hj
  have hcv1 := (hB1.cell (p := ⟨G, j, none⟩) (show G < w.heap.size by omega)).trans hcv
  have HO1 := Lib.hid (hov.row)
  have hvl := hov.lt
  obtain ⟨A, c, rfl⟩ := hov.form
  have HL := Lib.hid hvl
  clear hov h hcv hvl
  by_cases hne : row j = []
  case pos =>
    have HE : Hid ((fun i => if i = j then row j ++ [p] else row i) = fun i => if i = j then once (row j) p else row i) := by rw [hne]; rfl
    have hl0 : (row j).length = 0 := by rw [hne]; rfl
    rw [hl0] at hcv1
    have HNE := Lib.hid hne
    clear hne
    go_enter Tryz.func50, Tryz.ntmps50
    go_wp2_with fail
    go_quiet (fail)
    go_wp2_with fail
    have HQ2 := Lib.hid (HQ1.out.below (below_drewN (Below.refl _ _) nq))
    refine (add_any G n row j p _ HQ2.out hj hlen).mono ?_
    rintro e w3 ⟨_, rfl, hq3, ha3⟩
    have HQ3 : Hid (QRow w3 (G + 1) G n fun i => if i = j then once (row j) p else row i) := by
      rw [← HE.out]; exact hq3
    have HA3 := Lib.hid ((HA1.out.trans (Adds.below (below_drewN (Below.refl _ _) nq) (by simp; omega))).trans ha3)
    go_wp2_with fail
    exact bodyPost_end (results_none Tryz.results50 _ _ _) rfl ⟨_, rfl, HQ3.out, HA3.out⟩
  obtain ⟨x, hx1, hx2⟩ := getLast?_get hne
  have hl1 : 1 ≤ (row j).length := by
    rcases Nat.eq_zero_or_pos (row j).length with h | h
    · exact absurd (List.length_eq_zero_iff.1 h) hne
    · exact h
  obtain ⟨_, A', c', e1, hrow⟩ := HO1.out
  injection e1 with e1 _ e2
  subst e1 e2
  obtain ⟨b, off, rfl, _, hrow⟩ := hrow hne
  obtain ⟨cs, hE, hcs⟩ := hrow _ x hx2
  subst hE
  have hbl : b < w.heap.size := (HL.out b rfl).2
  have c0 := (hB1.cell (p := ⟨b, _, none⟩) hbl).trans (hcs 0 _ rfl).1
  have c1 := (hB1.cell (p := ⟨b, _, none⟩) hbl).trans (hcs 1 _ rfl).1
  obtain ⟨m, hm⟩ : ∃ m, (row j).length = m + 1 := ⟨(row j).length - 1, by omega⟩
  rw [hm] at hcv1 hlen
  rw [show (row j).length - 1 = m by omega] at c0 c1
  have c0' : (w.alloc (.cells #[.int .i64 p.dst, .int .i64 p.src] 36)).cell? ⟨b, off + m * 2, none⟩ = some (.int .i64 x.dst) := c0
  have c1' : (w.alloc (.cells #[.int .i64 p.dst, .int .i64 p.src] 36)).cell? ⟨b, off + m * 2 + 1, none⟩ = some (.int .i64 x.src) := c1
  clear hcs hrow c0 c1 hne
  have HX1 := Lib.hid hx1
  clear hx1 hx2
  have hm0 : 0 ≤ (m : Int) := by omega
  have hm1 : (m : Int) < (m : Int) + 1 := by omega
  have hmw : IntKind.i64.wrap (m : Int) = (m : Int) := by rw [IntKind.wrap_i64]; omega
  have hz : ((m : Int) + 1 == 0) = false := by simp; omega
  by_cases hxp : x = p
  · have HE : Hid ((row) = fun i => if i = j then once (row j) p else row i) := by
      funext i
      by_cases e : i = j
      · subst e
        rw [if_pos rfl]
        unfold once
        rw [if_pos (by rw [HX1.out, hxp])]
      · rw [if_neg e]
    subst hxp
    have HQ1' : Hid (QRow (w.alloc (.cells #[.int .i64 x.dst, .int .i64 x.src] 36)) (G + 1) G n fun i => if i = j then once (row j) x else row i) := by
      rw [← HE.out]; exact HQ1.out
    have e0 : (x.dst == x.dst) = true := by simp
    have e1 : (x.src == x.src) = true := by simp
    go_enter Tryz.func50, Tryz.ntmps50
    go_wp2_with fail
    go_quiet (fail)
    go_wp2_with fail
    have HQ2 := Lib.hid (HQ1'.out.below (below_drewN (Below.refl _ _) nq))
    have HA2 := Lib.hid (HA1.out.trans (Adds.below (below_drewN (Below.refl _ _) nq) (by simp; omega)))
    exact bodyPost_end (results_none Tryz.results50 _ _ _) rfl ⟨_, rfl, HQ2.out, HA2.out⟩
  · have HE : Hid ((fun i => if i = j then row j ++ [p] else row i) = fun i => if i = j then once (row j) p else row i) := by
      funext i
      by_cases e : i = j
      · subst e
        rw [if_pos rfl, if_pos rfl]
        unfold once
        rw [if_neg (by rw [HX1.out]; intro h; exact hxp (Option.some.inj h))]
      · rw [if_neg e, if_neg e]
    have hlen' : (row j).length ≤ 1000000 := by omega
    obtain ⟨e0, e1⟩ | e0 : ((x.dst == p.dst) = true ∧ (x.src == p.src) = false) ∨ (x.dst == p.dst) = false := by
      by_cases h0 : x.dst = p.dst
      · by_cases h1 : x.src = p.src
        · exact absurd (by cases x; cases p; simp at h0 h1; subst h0 h1; rfl) hxp
        · exact .inl ⟨by simpa using h0, by simpa using h1⟩
      · exact .inr (by simpa using h0)
    all_goals
      clear hxp
      go_enter Tryz.func50, Tryz.ntmps50
      go_wp2_with fail
      go_quiet (fail)
      go_wp2_with fail
      have HQ2 := Lib.hid (HQ1.out.below (below_drewN (Below.refl _ _) nq))
      refine (add_any G n row j p _ HQ2.out hj hlen').mono ?_
      rintro e w3 ⟨_, rfl, hq3, ha3⟩
      have HQ3 : Hid (QRow w3 (G + 1) G n fun i => if i = j then once (row j) p else row i) := by
        rw [← HE.out]; exact hq3
      have HA3 := Lib.hid ((HA1.out.trans (Adds.below (below_drewN (Below.refl _ _) nq) (by simp; omega))).trans ha3)
      go_wp2_with fail
      exact bodyPost_end (results_none Tryz.results50 _ _ _) rfl ⟨_, rfl, HQ3.out, HA3.out⟩
end

end Go.Proofs.YtnjmlhokkhkaaaaGreatDoor
