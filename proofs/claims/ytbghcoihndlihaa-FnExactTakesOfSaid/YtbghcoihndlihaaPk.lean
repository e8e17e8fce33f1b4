/- Where names are given and taken: events, by block, then by time. -/
import Derived.Test.YtbghcoihndlihaaPredsP
namespace Go.Proofs.Ytbghcoihndlihaa

instance : DecidableEq MoveD := fun a b => decidable_of_iff (a.dst = b.dst ∧ a.src = b.src) ⟨fun h => by cases a; cases b; simp at h; obtain ⟨h1, h2⟩ := h; subst h1 h2; rfl, fun h => by subst h; exact ⟨rfl, rfl⟩⟩

/-- What the first k of a list give, one behind the other. -/
def upTo {α β : Type} (g : Nat → α → List β) (l : List α) (k : Nat) : List β := (List.range k).flatMap fun i => match l[i]? with
  | some x => g i x
  | none => []
section
variable {α β : Type} {g : Nat → α → List β} {l : List α}
theorem upTo_zero (g : Nat → α → List β) (l : List α) : upTo g l 0 = [] := rfl
theorem upTo_succ {k : Nat} {x : α} (h : l[k]? = some x) : upTo g l (k + 1) = upTo g l k ++ g k x := by
  unfold upTo
  rw [List.range_succ, List.flatMap_append]
  congr 1
  simp [h]
theorem upTo_len {c : Nat} (hg : ∀ i x, l[i]? = some x → (g i x).length ≤ c) : ∀ k, (upTo g l k).length ≤ c * k
  | 0 => by simp [upTo_zero]
  | k + 1 => by
    have ih := upTo_len (c := c) hg k
    cases h : l[k]? with
    | some x =>
      have := hg k x h
      rw [upTo_succ h, List.length_append, Nat.mul_succ]
      omega
    | none =>
      have : upTo g l (k + 1) = upTo g l k := by
        unfold upTo
        rw [List.range_succ, List.flatMap_append]
        simp [h]
      rw [this, Nat.mul_succ]
      omega
theorem mem_upTo {k : Nat} {y : β} (h : y ∈ upTo g l k) : ∃ i x, i < k ∧ l[i]? = some x ∧ y ∈ g i x := by
  unfold upTo at h
  rw [List.mem_flatMap] at h
  obtain ⟨i, hi, hy⟩ := h
  rw [List.mem_range] at hi
  cases hx : l[i]? with
  | some x => rw [hx] at hy; exact ⟨i, x, hi, hx, hy⟩
  | none => rw [hx] at hy; cases hy
theorem upTo_mem {k i : Nat} {x : α} {y : β} (hi : i < k) (hx : l[i]? = some x) (hy : y ∈ g i x) : y ∈ upTo g l k := by
  unfold upTo
  rw [List.mem_flatMap]
  exact ⟨i, List.mem_range.2 hi, by rw [hx]; exact hy⟩
end

/-- A name and a place (dst: the block; src: the time). -/
structure EvD where
  n : Int
  pl : MoveD

/-- The places of one name. -/
def pick (evs : List EvD) (j : Int) : List MoveD := (evs.filter fun e => e.n == j).map (·.pl)
theorem pick_nil (j : Int) : pick [] j = [] := rfl
theorem pick_append (a b : List EvD) (j : Int) : pick (a ++ b) j = pick a j ++ pick b j := by simp [pick]
theorem pick_one (e : EvD) (j : Int) : pick [e] j = if e.n = j then [e.pl] else [] := by
  unfold pick
  by_cases h : e.n = j
  · simp [h]
  · simp [h]
theorem pick_snoc (evs : List EvD) (e : EvD) (j : Int) : pick (evs ++ [e]) j = if e.n = j then pick evs j ++ [e.pl] else pick evs j := by
  rw [pick_append, pick_one]
  split <;> simp
theorem pick_len (evs : List EvD) (j : Int) : (pick evs j).length ≤ evs.length := by
  unfold pick
  rw [List.length_map]
  exact List.length_filter_le _ _
theorem mem_pick {evs : List EvD} {j : Int} {p : MoveD} (h : p ∈ pick evs j) : ∃ e ∈ evs, e.n = j ∧ e.pl = p := by
  unfold pick at h
  rw [List.mem_map] at h
  obtain ⟨e, he, hp⟩ := h
  rw [List.mem_filter] at he
  exact ⟨e, he.1, by simpa using he.2, hp⟩
theorem take_snoc {α : Type} {xs : List α} {m : Nat} {u : α} (h : xs[m]? = some u) : xs.take (m + 1) = xs.take m ++ [u] := by
  rw [List.take_add_one, h]; rfl

/-- One place more, if it is not the last one already. -/
def once (l : List MoveD) (p : MoveD) : List MoveD := if l.getLast? = some p then l else l ++ [p]
theorem once_len (l : List MoveD) (p : MoveD) : (once l p).length ≤ l.length + 1 := by
  unfold once
  split <;> simp
theorem mem_once {l : List MoveD} {p q : MoveD} : q ∈ once l p ↔ q ∈ l ∨ q = p := by
  unfold once
  split
  · rename_i h
    constructor
    · exact .inl
    · rintro (h' | rfl)
      · exact h'
      · exact List.mem_of_getLast? h
  · simp
def pickO (evs : List EvD) (j : Int) : List MoveD := (pick evs j).foldl once []
theorem pickO_nil (j : Int) : pickO [] j = [] := rfl
theorem pickO_snoc (evs : List EvD) (e : EvD) (j : Int) : pickO (evs ++ [e]) j = if e.n = j then once (pickO evs j) e.pl else pickO evs j := by
  unfold pickO
  rw [pick_snoc]
  split
  · rw [List.foldl_append]; rfl
  · rfl
theorem foldl_once_len : ∀ (l acc : List MoveD), (l.foldl once acc).length ≤ acc.length + l.length
  | [], acc => by simp
  | p :: l, acc => by
    have := foldl_once_len l (once acc p)
    have := once_len acc p
    simp only [List.foldl_cons, List.length_cons]
    omega
theorem pickO_len (evs : List EvD) (j : Int) : (pickO evs j).length ≤ evs.length := by
  have := foldl_once_len (pick evs j) []
  have := pick_len evs j
  unfold pickO
  simp at *
  omega
theorem mem_foldl_once : ∀ (l acc : List MoveD) (q : MoveD), q ∈ l.foldl once acc ↔ q ∈ acc ∨ q ∈ l
  | [], acc, q => by simp
  | p :: l, acc, q => by
    rw [List.foldl_cons, mem_foldl_once l _ q, mem_once, List.mem_cons]
    constructor
    · rintro ((h | h) | h)
      · exact .inl h
      · exact .inr (.inl h)
      · exact .inr (.inr h)
    · rintro (h | h | h)
      · exact .inl (.inl h)
      · exact .inl (.inr h)
      · exact .inr h
theorem mem_pickO {evs : List EvD} {j : Int} {q : MoveD} : q ∈ pickO evs j ↔ q ∈ pick evs j := by
  unfold pickO
  rw [mem_foldl_once]
  simp

def phG (k : Int) (l : List PhiD) (j : Nat) : List EvD := upTo (fun _ p => [⟨p.v, ⟨k, 0⟩⟩]) l j
def mvG (k t : Int) (l : List MoveD) (j : Nat) : List EvD := upTo (fun _ m => [⟨m.dst, ⟨k, t⟩⟩]) l j
def mvT (k t : Int) (l : List MoveD) (j : Nat) : List EvD := upTo (fun _ m => [⟨m.src, ⟨k, t⟩⟩]) l j
def insG (k : Int) (l : List InsD) (j : Nat) : List EvD := upTo (fun i x => if x.v = -1 then [] else [⟨x.v, ⟨k, 2 + (i : Int)⟩⟩]) l j
def insT (k : Int) (l : List InsD) (j : Nat) : List EvD := upTo (fun i x => (usesL x.op x.v x.a x.b).map fun u => ⟨u, ⟨k, 2 + (i : Int)⟩⟩) l j
/-- What a block gives (but for the Params). -/
def blkG (k : Int) (x : BlockD) : List EvD := phG k x.phis x.phis.length ++ mvG k 1 x.head x.head.length ++ insG k x.body x.body.length ++ mvG k (2 + (x.body.length : Int)) x.tail x.tail.length
def parG (n : Nat) : List EvD := (List.range n).map fun (i : Nat) => ⟨(i : Int), ⟨0, 0⟩⟩
theorem parG_succ (n : Nat) : parG (n + 1) = parG n ++ [⟨(n : Int), ⟨0, 0⟩⟩] := by simp [parG, List.range_succ]
theorem parG_len (n : Nat) : (parG n).length = n := by simp [parG]
/-- The givings of the Params and of the first k blocks. -/
def defsK (f : FunD) (k : Nat) : List EvD := parG f.params.toNat ++ upTo (fun i x => blkG (i : Int) x) f.blocks k
/-- Of one block, the Params with the first one. -/
def blkP (f : FunD) (k : Nat) (x : BlockD) : List EvD := (if k = 0 then parG f.params.toNat else []) ++ blkG (k : Int) x
theorem blkP_all (f : FunD) : ∀ k, k ≤ f.blocks.length → 1 ≤ k → upTo (blkP f) f.blocks k = defsK f k
  | 0, _, h => absurd h (by omega)
  | k + 1, hk, _ => by
    have hx : f.blocks[k]? = some f.blocks[k] := List.getElem?_eq_getElem (by omega)
    rw [upTo_succ hx]
    unfold defsK
    rw [upTo_succ hx]
    rcases Nat.eq_zero_or_pos k with rfl | h0
    · simp [upTo_zero, blkP]
    · rw [blkP_all f k (by omega) h0]
      unfold defsK blkP
      rw [if_neg (by omega), List.nil_append, List.append_assoc]

/-- At which of its preds a block is. -/
def wayF (f : FunD) (t k : Int) : Nat := (predsF f t).idxOf k
theorem wayF_lt {f : FunD} {t k : Int} (h : k ∈ predsF f t) : wayF f t k < (predsF f t).length := List.idxOf_lt_length_of_mem h
theorem wayF_get {f : FunD} {t k : Int} (h : k ∈ predsF f t) : (predsF f t)[wayF f t k]? = some k := by
  rw [List.getElem?_eq_getElem (wayF_lt h)]
  exact congrArg some (List.getElem_idxOf (wayF_lt h))
theorem wayF_only {f : FunD} {t k : Int} {i : Nat} (h : (predsF f t)[i]? = some k) : i = wayF f t k := by
  have hk : k ∈ predsF f t := List.mem_of_getElem? h
  have hw := wayF_get hk
  have hp := predsF_pair f t
  rw [List.pairwise_iff_getElem] at hp
  have h1 := List.getElem?_eq_some_iff.1 h
  have h2 := List.getElem?_eq_some_iff.1 hw
  obtain ⟨l1, e1⟩ := h1
  obtain ⟨l2, e2⟩ := h2
  rcases Nat.lt_trichotomy i (wayF f t k) with hlt | he | hgt
  · have := hp i (wayF f t k) l1 l2 hlt
    rw [e1, e2] at this
    omega
  · exact he
  · have := hp (wayF f t k) i l2 l1 hgt
    rw [e1, e2] at this
    omega
/-- What the Phis of the block t take from k. -/
def phiL (f : FunD) (k t : Int) : List Int := match f.blocks[t.toNat]? with
  | some y => y.phis.map fun p => p.args.getD (wayF f t k) 0
  | none => []
/-- What is taken at the End of a block. -/
def endL (f : FunD) (k : Int) (x : BlockD) : List Int := (if x.fin.k = 2 then [] else [x.fin.a]) ++ (toE x.fin).flatMap (phiL f k)
def blkT (f : FunD) (k : Nat) (x : BlockD) : List EvD := mvT k 1 x.head x.head.length ++ insT k x.body x.body.length ++ mvT k (2 + (x.body.length : Int)) x.tail x.tail.length ++ (endL f k x).map fun u => ⟨u, ⟨k, 3 + (x.body.length : Int)⟩⟩
/-- The takings of the first k blocks. -/
def takesK (f : FunD) (k : Nat) : List EvD := upTo (blkT f) f.blocks k

theorem phiL_at {f : FunD} {k : Int} {t : Nat} {y : BlockD} (h : f.blocks[t]? = some y) : phiL f k t = y.phis.map fun p => p.args.getD (wayF f t k) 0 := by
  unfold phiL
  rw [Int.toNat_natCast, h]

/- How many they are. -/
theorem usesL_le2 (op v a b : Int) : (usesL op v a b).length ≤ 2 := usesL_len op v a b
theorem blkG_len {f : FunD} (hp : FunP f) {k : Nat} {x : BlockD} (hx : f.blocks[k]? = some x) : (blkG k x).length ≤ 164 := by
  have hb := hp.1.2.2.2.2 k x hx
  have h1 := (hp.2.2.2 k x hx).1
  have h2 := hb.2.1.1
  have h3 := hb.2.2.1.1
  have h4 := hb.2.2.2.1
  have e1 := upTo_len (g := fun (_ : Nat) (p : PhiD) => [(⟨p.v, ⟨(k : Int), 0⟩⟩ : EvD)]) (l := x.phis) (c := 1) (fun _ _ _ => by simp) x.phis.length
  have e2 := upTo_len (g := fun (_ : Nat) (m : MoveD) => [(⟨m.dst, ⟨(k : Int), 1⟩⟩ : EvD)]) (l := x.head) (c := 1) (fun _ _ _ => by simp) x.head.length
  have e3 := upTo_len (g := fun (i : Nat) (x : InsD) => if x.v = -1 then [] else [(⟨x.v, ⟨(k : Int), 2 + (i : Int)⟩⟩ : EvD)]) (l := x.body) (c := 1) (fun _ _ _ => by split <;> simp) x.body.length
  have e4 := upTo_len (g := fun (_ : Nat) (m : MoveD) => [(⟨m.dst, ⟨(k : Int), 2 + (x.body.length : Int)⟩⟩ : EvD)]) (l := x.tail) (c := 1) (fun _ _ _ => by simp) x.tail.length
  unfold blkG phG mvG insG
  simp only [List.length_append]
  omega
theorem defsK_len {f : FunD} (hp : FunP f) (k : Nat) (hk : k ≤ f.blocks.length) : (defsK f k).length ≤ 7000 := by
  have h40 := hp.1.1.2
  have h6 := hp.1.2.2.1.2
  have e := upTo_len (g := fun (i : Nat) (x : BlockD) => blkG (i : Int) x) (l := f.blocks) (c := 164) (fun i x hx => blkG_len hp hx) k
  unfold defsK
  rw [List.length_append, parG_len]
  omega
theorem phiL_len {f : FunD} (hp : FunP f) (k t : Int) : (phiL f k t).length ≤ 4 := by
  unfold phiL
  cases h : f.blocks[t.toNat]? with
  | some y => simpa using (hp.2.2.2 _ y h).1
  | none => simp
theorem toE_len (e : EndD) : (toE e).length ≤ 2 := toL_len _ _ _
theorem endL_len {f : FunD} (hp : FunP f) (k : Int) (x : BlockD) : (endL f k x).length ≤ 9 := by
  have h := toE_len x.fin
  unfold endL
  rw [List.length_append]
  have h1 : (if x.fin.k = 2 then ([] : List Int) else [x.fin.a]).length ≤ 1 := by split <;> simp
  have h2 : ((toE x.fin).flatMap (phiL f k)).length ≤ 8 := by
    generalize toE x.fin = ts at h
    match ts, h with
    | [], _ => simp
    | [a], _ => have := phiL_len hp k a; simp; omega
    | [a, b], _ => have := phiL_len hp k a; have := phiL_len hp k b; simp; omega
    | _ :: _ :: _ :: _, h => simp at h
  omega
theorem blkT_len {f : FunD} (hp : FunP f) {k : Nat} {x : BlockD} (hx : f.blocks[k]? = some x) : (blkT f k x).length ≤ 249 := by
  have hb := hp.1.2.2.2.2 k x hx
  have h2 := hb.2.1.1
  have h3 := hb.2.2.1.1
  have h4 := hb.2.2.2.1
  have h5 := endL_len hp k x
  have e2 := upTo_len (g := fun (_ : Nat) (m : MoveD) => [(⟨m.src, ⟨(k : Int), 1⟩⟩ : EvD)]) (l := x.head) (c := 1) (fun _ _ _ => by simp) x.head.length
  have e3 := upTo_len (g := fun (i : Nat) (x : InsD) => (usesL x.op x.v x.a x.b).map fun u => (⟨u, ⟨(k : Int), 2 + (i : Int)⟩⟩ : EvD)) (l := x.body) (c := 2) (fun _ x _ => by rw [List.length_map]; exact usesL_len _ _ _ _) x.body.length
  have e4 := upTo_len (g := fun (_ : Nat) (m : MoveD) => [(⟨m.src, ⟨(k : Int), 2 + (x.body.length : Int)⟩⟩ : EvD)]) (l := x.tail) (c := 1) (fun _ _ _ => by simp) x.tail.length
  unfold blkT mvT insT
  simp only [List.length_append, List.length_map]
  omega
theorem takesK_len {f : FunD} (hp : FunP f) (k : Nat) (hk : k ≤ f.blocks.length) : (takesK f k).length ≤ 10000 := by
  have h40 := hp.1.1.2
  have e := upTo_len (g := blkT f) (l := f.blocks) (c := 249) (fun i x hx => blkT_len hp hx) k
  unfold takesK
  omega

/- The names are below Names. -/
theorem below_iff {a n : Int} : isBelowB a n = true ↔ 0 ≤ a ∧ a < n := by simp [isBelowB]

end Go.Proofs.Ytbghcoihndlihaa
