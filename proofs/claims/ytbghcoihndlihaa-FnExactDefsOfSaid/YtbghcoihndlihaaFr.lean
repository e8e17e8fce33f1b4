/- Frames by block numbers; a row of bools of the call's own; the succs of a right function. -/
import Derived.Test.YtbghcoihndlihaaBools
import Derived.Test.YtbghcoihndlihaaL2b
import Derived.Test.YtbghcoihndlihaaM7
import Derived.Test.YtbghcoihndlihaaDfs
namespace Go.Proofs.Ytbghcoihndlihaa
open Go.ChangeShapes Go.WideShapes Go.ChangeAt Go.RowKit Go.Joins

/-- Of what lay there the blocks of P alone may have turned. -/
structure Fw (P : Nat → Prop) (w w' : World) : Prop where
  os : w'.os = w.os
  tape : w'.tape = w.tape
  output : w'.output = w.output
  size : w.heap.size ≤ w'.heap.size
  block : ∀ k, k < w.heap.size → ¬ P k → w'.heap[k]? = w.heap[k]?
theorem Fw.refl (P : Nat → Prop) (w : World) : Fw P w w := ⟨rfl, rfl, rfl, Nat.le_refl _, fun _ _ _ => rfl⟩
theorem Fw.trans {P Q : Nat → Prop} {a b c : World} (h : Fw P a b) (k : Fw Q b c) (hq : ∀ i, i < a.heap.size → Q i → P i) : Fw P a c :=
  ⟨k.os.trans h.os, k.tape.trans h.tape, k.output.trans h.output, Nat.le_trans h.size k.size, fun i hi hn => (k.block i (Nat.lt_of_lt_of_le hi h.size) fun hqi => hn (hq i hi hqi)).trans (h.block i hi hn)⟩
theorem Fw.below {P : Nat → Prop} {a b : World} (h : Below a.heap.size a b) : Fw P a b := ⟨h.os, h.tape, h.output, h.size, fun k hk _ => h.block k hk⟩
theorem Fw.toBelow {P : Nat → Prop} {a b : World} {B : Nat} (h : Fw P a b) (hB : B ≤ a.heap.size) (hn : ∀ k, k < B → ¬ P k) : Below B a b := ⟨h.os, h.tape, h.output, h.size, fun k hk => h.block k (Nat.lt_of_lt_of_le hk hB) (hn k hk)⟩
theorem Fw.grown {P : Nat → Prop} {a b : World} {row : Option Nat} (h : a.grownBy b row) (hr : ∀ g, row = some g → g < a.heap.size → P g) : Fw P a b :=
  ⟨h.os, h.tape, h.output, h.size, fun k hk hn => h.block k hk fun e => hn (hr k e.symm hk)⟩
theorem Fw.set {P : Nat → Prop} (w : World) {g : Nat} (hg : P g) (o : Nat) (u : Value) : Fw P w (w.setCell ⟨g, o, none⟩ u) :=
  ⟨rfl, rfl, rfl, by simp, fun k _ hn => Below.heap_setCell w ⟨g, o, none⟩ u k (fun e => by
    have : k = g := e
    subst this
    exact hn hg)⟩
theorem Fw.alloc (P : Nat → Prop) (w : World) (o : Obj) : Fw P w (w.alloc o) := ⟨rfl, rfl, rfl, by simp, fun k hk _ => Below.heap_alloc w o k hk⟩
theorem Fw.drewN (P : Nat → Prop) (w : World) (n : Nat) : Fw P w (w.drewN n) := ⟨rfl, rfl, rfl, Nat.le_refl _, fun _ _ _ => rfl⟩

theorem own_fw {w w' : World} {B : Nat} {T : TypeId} {S n : Nat} {v : Value} {xs : List Value} {P : Nat → Prop} (h : w.ownsRow B T S v n xs) (hf : Fw P w w') (hn : ∀ k, v.ownBlock = some k → ¬ P k) : w'.ownsRow B T S v n xs := by
  have hlt := World.ownsRow.lt h
  refine ⟨h.1, ?_⟩
  rcases h.2 with h4 | ⟨g, cap, cur, rfl, hb, hg, r⟩
  · exact .inl h4
  · exact .inr ⟨g, cap, cur, rfl, hb, (hf.block g (hlt g rfl).2 (hn g rfl)).trans hg, r⟩
theorem OI.fw {w w' : World} {B : Nat} {v : Value} {xs : List Int} {P : Nat → Prop} (h : OI w B v xs) (hf : Fw P w w') (hn : ∀ k, v.ownBlock = some k → ¬ P k) : OI w' B v xs := own_fw h hf hn
theorem OB.fw {w w' : World} {B : Nat} {v : Value} {xs : List Bool} {P : Nat → Prop} (h : OB w B v xs) (hf : Fw P w w') (hn : ∀ k, v.ownBlock = some k → ¬ P k) : OB w' B v xs := own_fw h hf hn
theorem OB.lt {w : World} {B : Nat} {v : Value} {xs : List Bool} (h : OB w B v xs) : ∀ k, v.ownBlock = some k → B ≤ k ∧ k < w.heap.size := World.ownsRow.lt h

/-- The n bools of block q. -/
def BL (w : World) (q n : Nat) (bs : List Bool) : Prop := bs.length = n ∧ OB w q (.slice (some ⟨q, 0, none⟩) n n) bs
theorem BL.own {w : World} {q n : Nat} {bs : List Bool} (h : BL w q n bs) : w.ownsRow q 4 1 (.slice (some ⟨q, 0, none⟩) n n) n (bs.map bv) := by
  obtain ⟨rfl, h⟩ := h
  exact h
theorem BL.mk {w : World} {q n : Nat} {bs : List Bool} (hl : bs.length = n) (h : w.ownsRow q 4 1 (.slice (some ⟨q, 0, none⟩) n n) n (bs.map bv)) : BL w q n bs := by
  subst hl
  exact ⟨rfl, h⟩
theorem BL.cell {w : World} {q n k : Nat} {bs : List Bool} (h : BL w q n bs) {b : Bool} (hk : bs[k]? = some b) : w.cell? ⟨q, k, none⟩ = some (.bool b) := by
  have hlt := (List.getElem?_eq_some_iff.1 hk).1
  rw [World.ownsRow.cellAt h.own k (by rw [h.1] at hlt; omega), List.getElem?_map, hk]; rfl
theorem BL.frozen {w : World} {q n : Nat} {bs : List Bool} (h : BL w q n bs) (k : Nat) : w.frozen? ⟨q, k, none⟩ = false := World.ownsRow.frozenAt h.own k
theorem BL.set {w : World} {q n : Nat} {bs : List Bool} (h : BL w q n bs) (k : Nat) (b : Bool) : BL (w.setCell ⟨q, k, none⟩ (.bool b)) q n (bs.set k b) := by
  refine BL.mk (by simp [h.1]) ?_
  have := (World.ownsRow.stored h.own k (bv b)).1
  rw [← List.map_set] at this
  exact this
theorem BL.fw {w w' : World} {q n : Nat} {bs : List Bool} {P : Nat → Prop} (h : BL w q n bs) (hf : Fw P w w') (hn : ¬ P q) : BL w' q n bs :=
  BL.mk h.1 (own_fw h.own hf fun k hk => by injection hk with hk; subst hk; exact hn)
theorem BL.lt {w : World} {q n : Nat} {bs : List Bool} (h : BL w q n bs) : q < w.heap.size := (World.ownsRow.lt h.own q rfl).2
theorem BL.start (w : World) (n : Nat) (hm : n ≤ maxLen) : BL (w.alloc (.cells (madeCells #[.bool false] n) 4)) w.heap.size n (List.replicate n false) := by
  refine BL.mk (by simp) ⟨by simp, .inr ⟨w.heap.size, n, _, rfl, Nat.le_refl _, heap_alloc_new w _, Nat.le_refl _, hm, by simp [size_madeCells], ?_⟩⟩
  rw [toList_madeCells_one]
  simp [bv]

/-- The targets of block x, as its End names them. -/
def scF (bs : List BlockD) (x : Int) : List Int := match bs[x.toNat]? with
  | some y => toL y.fin.k y.fin.t y.fin.l
  | none => []
theorem scF_at {bs : List BlockD} {k : Nat} {y : BlockD} (h : bs[k]? = some y) : scF bs k = toL y.fin.k y.fin.t y.fin.l := by
  unfold scF
  rw [Int.toNat_natCast, h]

theorem isBlockB_ge {t : Int} (h : isBelowB t 40 = true) : 0 ≤ t := by
  simp [isBelowB] at h; omega

/-- All targets are blocks of the function. -/
def TargetsOk (bs : List BlockD) : Prop := ∀ (k : Nat) x, bs[k]? = some x → endOkB x.fin.k x.fin.a x.fin.t x.fin.l = true ∧ ∀ t ∈ toL x.fin.k x.fin.t x.fin.l, 0 ≤ t ∧ t < (bs.length : Int)
theorem TargetsOk.sc {bs : List BlockD} (h : TargetsOk bs) : ∀ b : Nat, b < bs.length → ∀ t ∈ scF bs b, 0 ≤ t ∧ t < (bs.length : Int) := fun b hb t ht => by
  have hx : bs[b]? = some bs[b] := List.getElem?_eq_getElem hb
  rw [scF_at hx] at ht
  exact (h b _ hx).2 t ht
theorem TargetsOk.succs {bs : List BlockD} (h : TargetsOk bs) {k : Nat} {x : BlockD} (hx : bs[k]? = some x) : succsL x.fin.k x.fin.a x.fin.t x.fin.l = scF bs k := by
  rw [scF_at hx, succsL, if_pos (h k x hx).1]

end Go.Proofs.Ytbghcoihndlihaa
