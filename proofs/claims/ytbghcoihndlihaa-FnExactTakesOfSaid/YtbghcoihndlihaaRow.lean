/- Slices of records: what a slice value reads as, in a zone of blocks, and how it is kept. -/
import Derived.Test.YtbghcoihndlihaaUses
import Derived.Laws.MakeOwn
import Derived.Laws.Rows
namespace Go.Proofs.Ytbghcoihndlihaa
open Go.ChangeShapes Go.WideShapes Go.ChangeAt Go.RowKit Go.Joins

/-- Blocks in which something lies; own: and none of its cells is frozen. -/
structure Zn where
  D : Nat → Prop
  own : Bool

def Zn.new (lo hi : Nat) : Zn := ⟨fun b => lo ≤ b ∧ b < hi, true⟩
def Zn.old (hi : Nat) : Zn := ⟨fun b => b < hi, false⟩

def At (w : World) (Z : Zn) (b o : Nat) (u : Value) : Prop := w.cell? ⟨b, o, none⟩ = some u ∧ (Z.own = true → w.frozen? ⟨b, o, none⟩ = false)

def RowAt {α : Type} (w : World) (Z : Zn) (size : Nat) (E : α → List Value → Prop) (xs : List α) (b off : Nat) : Prop :=
  Z.D b ∧ ∀ k x, xs[k]? = some x → ∃ cs, E x cs ∧ ∀ j u, cs[j]? = some u → At w Z b (off + k * size + j) u

def Row {α : Type} (w : World) (Z : Zn) (size : Nat) (E : α → List Value → Prop) (v : Value) (xs : List α) : Prop :=
  xs.length ≤ 9223372036854775807 ∧ ∃ A c, v = .slice A xs.length c ∧ (xs ≠ [] → ∃ b off, A = some ⟨b, off, none⟩ ∧ RowAt w Z size E xs b off)

/-- What lay in zone Z of w lies in zone Z' of w'. -/
structure Kept (Z Z' : Zn) (w w' : World) : Prop where
  D : ∀ b, Z.D b → Z'.D b
  own : Z'.own = true → Z.own = true
  heap : ∀ b, Z.D b → w'.heap[b]? = w.heap[b]?

theorem Kept.refl (Z : Zn) (w : World) : Kept Z Z w w := ⟨fun _ h => h, fun h => h, fun _ _ => rfl⟩
theorem Kept.trans {Z Z' Z'' : Zn} {w w' w'' : World} (h : Kept Z Z' w w') (k : Kept Z' Z'' w' w'') : Kept Z Z'' w w'' :=
  ⟨fun b hb => k.D b (h.D b hb), fun ho => h.own (k.own ho), fun b hb => (k.heap b (h.D b hb)).trans (h.heap b hb)⟩
theorem Kept.drewN (Z : Zn) (w : World) (n : Nat) : Kept Z Z w (w.drewN n) := ⟨fun _ h => h, fun h => h, fun _ _ => rfl⟩
theorem Kept.below {Z : Zn} {w w' : World} {B : Nat} (hb : Below B w w') (hB : ∀ b, Z.D b → b < B) : Kept Z Z w w' := ⟨fun _ h => h, fun h => h, fun b h => hb.block b (hB b h)⟩
theorem Kept.grown {Z : Zn} {w w' : World} {row : Option Nat} (hg : w.grownBy w' row) (hB : ∀ b, Z.D b → b < w.heap.size) (hr : ∀ b, row = some b → ¬ Z.D b) : Kept Z Z w w' :=
  ⟨fun _ h => h, fun h => h, fun b h => hg.block b (hB b h) fun e => hr b e.symm h⟩

theorem At.keep {Z Z' : Zn} {w w' : World} {b o : Nat} {u : Value} (h : At w Z b o u) (hk : Kept Z Z' w w') (hD : Z.D b) : At w' Z' b o u :=
  ⟨(World.cell?_of_block (hk.heap b hD)).trans h.1, fun ho => (World.frozen?_of_block (a := ⟨b, o, none⟩) (hk.heap b hD)).trans (h.2 (hk.own ho))⟩

theorem Row.keep {α : Type} {w w' : World} {Z Z' : Zn} {size : Nat} {E E' : α → List Value → Prop} {v : Value} {xs : List α} (h : Row w Z size E v xs) (hk : Kept Z Z' w w')
    (hE : ∀ x cs, E x cs → E' x cs) : Row w' Z' size E' v xs := by
  obtain ⟨h1, A, c, rfl, h2⟩ := h
  refine ⟨h1, A, c, rfl, fun hne => ?_⟩
  obtain ⟨b, off, rfl, hD, h3⟩ := h2 hne
  refine ⟨b, off, rfl, hk.D b hD, fun k x hx => ?_⟩
  obtain ⟨cs, hcs, h4⟩ := h3 k x hx
  exact ⟨cs, hE x cs hcs, fun j u hu => (h4 j u hu).keep hk hD⟩

structure MoveD where
  dst : Int
  src : Int
structure InsD where
  op : Int
  v : Int
  a : Int
  b : Int
structure EndD where
  k : Int
  a : Int
  t : Int
  l : Int
structure PhiD where
  v : Int
  args : List Int
structure BlockD where
  phis : List PhiD
  head : List MoveD
  body : List InsD
  tail : List MoveD
  fin : EndD
structure FunD where
  params : Int
  names : Int
  blocks : List BlockD

def EInt (x : Int) (cs : List Value) : Prop := cs = [.int .i64 x]
def EMove (m : MoveD) (cs : List Value) : Prop := cs = [.int .i64 m.dst, .int .i64 m.src]
def EIns (i : InsD) (cs : List Value) : Prop := cs = [.int .i64 i.op, .int .i64 i.v, .int .i64 i.a, .int .i64 i.b]
def EPhi (w : World) (Z : Zn) (p : PhiD) (cs : List Value) : Prop := ∃ v, cs = [.int .i64 p.v, v] ∧ Row w Z 1 EInt v p.args
def EBlock (w : World) (Z : Zn) (x : BlockD) (cs : List Value) : Prop :=
  ∃ v0 v1 v2 v3, cs = [v0, v1, v2, v3, .int .i64 x.fin.k, .int .i64 x.fin.a, .int .i64 x.fin.t, .int .i64 x.fin.l] ∧
    Row w Z 2 (EPhi w Z) v0 x.phis ∧ Row w Z 2 EMove v1 x.head ∧ Row w Z 4 EIns v2 x.body ∧ Row w Z 2 EMove v3 x.tail
def EFun (w : World) (Z : Zn) (f : FunD) (v : Value) : Prop := ∃ u, v = .agg #[.int .i64 f.params, .int .i64 f.names, u] ∧ Row w Z 8 (EBlock w Z) u f.blocks

theorem EPhi.keep {w w' : World} {Z Z' : Zn} {p : PhiD} {cs : List Value} (h : EPhi w Z p cs) (hk : Kept Z Z' w w') : EPhi w' Z' p cs := by
  obtain ⟨v, rfl, h1⟩ := h
  exact ⟨v, rfl, h1.keep hk fun _ _ h => h⟩
theorem EBlock.keep {w w' : World} {Z Z' : Zn} {x : BlockD} {cs : List Value} (h : EBlock w Z x cs) (hk : Kept Z Z' w w') : EBlock w' Z' x cs := by
  obtain ⟨v0, v1, v2, v3, rfl, h0, h1, h2, h3⟩ := h
  exact ⟨v0, v1, v2, v3, rfl, h0.keep hk fun _ _ h => h.keep hk, h1.keep hk fun _ _ h => h, h2.keep hk fun _ _ h => h, h3.keep hk fun _ _ h => h⟩
theorem EFun.keep {w w' : World} {Z Z' : Zn} {f : FunD} {v : Value} (h : EFun w Z f v) (hk : Kept Z Z' w w') : EFun w' Z' f v := by
  obtain ⟨u, rfl, h1⟩ := h
  exact ⟨u, rfl, h1.keep hk fun _ _ h => h.keep hk⟩

/-- Row g is filled with the first k of xs. -/
def Fill {α : Type} (w : World) (g : Nat) (T : TypeId) (size n k : Nat) (E : α → List Value → Prop) (xs : List α) : Prop :=
  ∃ cur : Array Value, w.heap[g]? = some (.cells cur T (0, 0)) ∧ cur.size = n * size ∧ ∀ j x, j < k → xs[j]? = some x → ∃ cs, E x cs ∧ ∀ i u, cs[i]? = some u → cur[j * size + i]? = some u

theorem Fill.row {α : Type} {w : World} {g : Nat} {T : TypeId} {size n : Nat} {E : α → List Value → Prop} {xs : List α} {Z : Zn} (h : Fill w g T size n n E xs) (hn : n = xs.length) (hm : n ≤ 9223372036854775807) (hZ : Z.D g) (c : Nat) :
    Row w Z size E (.slice (some ⟨g, 0, none⟩) n c) xs := by
  obtain ⟨cur, h1, h2, h3⟩ := h
  subst hn
  refine ⟨hm, _, c, rfl, fun _ => ⟨g, 0, rfl, hZ, fun k x hx => ?_⟩⟩
  obtain ⟨cs, hE, h4⟩ := h3 k x (List.getElem?_eq_some_iff.1 hx).1 hx
  refine ⟨cs, hE, fun j u hu => ⟨?_, fun _ => ?_⟩⟩
  · rw [Nat.zero_add]
    exact (cell_of_row w g _ cur T (0, 0) h1).trans (h4 j u hu)
  · simp [World.frozen?, h1]

/-- One element more. -/
theorem Fill.step {α : Type} {w w' : World} {g : Nat} {T : TypeId} {size n k : Nat} {E E' : α → List Value → Prop} {xs : List α} {x : α} {cs : List Value} (h : Fill w g T size n k E xs) (hx : xs[k]? = some x) (hE' : E' x cs)
    (hE : ∀ y ds, E y ds → E' y ds) (hs : ∀ y ds, E y ds → ds.length = size)
    (hw : ∀ cur, w.heap[g]? = some (.cells cur T (0, 0)) → cur.size = n * size → ∃ cur' : Array Value, w'.heap[g]? = some (.cells cur' T (0, 0)) ∧ cur'.size = cur.size ∧ (∀ i, i < k * size → cur'[i]? = cur[i]?) ∧ ∀ i u, cs[i]? = some u → cur'[k * size + i]? = some u) :
    Fill w' g T size n (k + 1) E' xs := by
  obtain ⟨cur, h1, h2, h3⟩ := h
  obtain ⟨cur', h1', h2', h3', h4'⟩ := hw cur h1 h2
  refine ⟨cur', h1', h2'.trans h2, fun j y hj hy => ?_⟩
  by_cases hjk : j = k
  · subst hjk
    rw [hx] at hy
    injection hy with hy
    subst hy
    exact ⟨cs, hE', h4'⟩
  · obtain ⟨ds, hd, h5⟩ := h3 j y (by omega) hy
    refine ⟨ds, hE y ds hd, fun i u hu => ?_⟩
    have hi : i < size := by
      rw [← hs y ds hd]; exact (List.getElem?_eq_some_iff.1 hu).1
    have hlt : j * size + i < k * size := by
      have : (j + 1) * size ≤ k * size := Nat.mul_le_mul_right _ (by omega)
      rw [Nat.add_mul, Nat.one_mul] at this
      omega
    rw [h3' _ hlt]
    exact h5 i u hu

theorem Fill.zero {α : Type} {w : World} {g : Nat} {T : TypeId} {size n : Nat} {E : α → List Value → Prop} {xs : List α} {cur : Array Value} (h1 : w.heap[g]? = some (.cells cur T (0, 0))) (h2 : cur.size = n * size) : Fill w g T size n 0 E xs :=
  ⟨cur, h1, h2, fun _ _ h => absurd h (by omega)⟩

theorem Fill.keep {α : Type} {w w' : World} {g : Nat} {T : TypeId} {size n k : Nat} {E E' : α → List Value → Prop} {xs : List α} (h : Fill w g T size n k E xs) (hw : w'.heap[g]? = w.heap[g]?) (hE : ∀ y ds, E y ds → E' y ds) : Fill w' g T size n k E' xs := by
  obtain ⟨cur, h1, h2, h3⟩ := h
  refine ⟨cur, hw.trans h1, h2, fun j y hj hy => ?_⟩
  obtain ⟨ds, hd, h5⟩ := h3 j y hj hy
  exact ⟨ds, hE y ds hd, h5⟩

/-- Cells of one row, written one behind the other. -/
def setAll (cur : Array Value) (o : Nat) : List Value → Array Value
  | [] => cur
  | u :: us => setAll (cur.setIfInBounds o u) (o + 1) us
theorem setAll_size : ∀ (us : List Value) (cur : Array Value) (o : Nat), (setAll cur o us).size = cur.size
  | [], _, _ => rfl
  | u :: us, cur, o => by rw [setAll, setAll_size us]; simp
theorem setAll_below : ∀ (us : List Value) (cur : Array Value) (o i : Nat), i < o → (setAll cur o us)[i]? = cur[i]?
  | [], _, _, _, _ => rfl
  | u :: us, cur, o, i, h => by
    rw [setAll, setAll_below us _ (o + 1) i (by omega), Array.getElem?_setIfInBounds, if_neg (by omega)]
theorem setAll_in : ∀ (us : List Value) (cur : Array Value) (o i : Nat) (u : Value), o + us.length ≤ cur.size → us[i]? = some u → (setAll cur o us)[o + i]? = some u
  | [], _, _, _, _, _, h => by simp at h
  | v :: us, cur, o, 0, u, hl, h => by
    simp only [List.getElem?_cons_zero, Option.some.injEq] at h
    subst h
    rw [setAll, setAll_below us _ (o + 1) (o + 0) (by omega), Array.getElem?_setIfInBounds]
    simp at hl ⊢
    omega
  | v :: us, cur, o, i + 1, u, hl, h => by
    rw [setAll, show o + (i + 1) = (o + 1) + i by omega]
    exact setAll_in us _ (o + 1) i u (by simp at hl ⊢; omega) (by simpa using h)

/-- Stores into row g, one behind the other. -/
def storeAll (w : World) (g o : Nat) : List Value → World
  | [] => w
  | u :: us => storeAll (w.setCell ⟨g, o, none⟩ u) g (o + 1) us
theorem storeAll_heap : ∀ (us : List Value) (w : World) (g o : Nat) (cur : Array Value) (T : TypeId), w.heap[g]? = some (.cells cur T (0, 0)) → (storeAll w g o us).heap[g]? = some (.cells (setAll cur o us) T (0, 0))
  | [], _, _, _, _, _, h => h
  | u :: us, w, g, o, cur, T, h => storeAll_heap us _ g (o + 1) _ T (heap_setCell_same w g o cur T u h)
theorem nblk_set (w : World) (a : Addr) (v : Value) : (w.setCell a v).heap.size = w.heap.size := by simp
theorem set_grown (w : World) (g o : Nat) (u : Value) : w.grownBy (w.setCell ⟨g, o, none⟩ u) (some g) :=
  ⟨rfl, rfl, rfl, by simp, fun k _ hne => Below.heap_setCell w ⟨g, o, none⟩ u k (fun e => hne (congrArg some e))⟩
theorem storeAll_grown : ∀ (us : List Value) (w : World) (g o : Nat), w.grownBy (storeAll w g o us) (some g)
  | [], w, _, _ => World.grownBy.refl w _
  | u :: us, w, g, o => World.grownBy.trans (set_grown w g o u) (storeAll_grown us _ g (o + 1))

theorem Fill.store {α : Type} {w : World} {g : Nat} {T : TypeId} {size n k : Nat} {E E' : α → List Value → Prop} {xs : List α} {x : α} {cs : List Value} (h : Fill w g T size n k E xs) (hx : xs[k]? = some x) (hk : k < n) (hE' : E' x cs) (hl : cs.length = size)
    (hE : ∀ y ds, E y ds → E' y ds) (hs : ∀ y ds, E y ds → ds.length = size) : Fill (storeAll w g (k * size) cs) g T size n (k + 1) E' xs := by
  refine h.step hx hE' hE hs fun cur h1 h2 => ⟨setAll cur (k * size) cs, storeAll_heap cs w g _ cur T h1, setAll_size _ _ _, fun i hi => setAll_below _ _ _ i hi, fun i u hu => setAll_in _ _ _ i u ?_ hu⟩
  rw [h2, hl]
  have : (k + 1) * size ≤ n * size := Nat.mul_le_mul_right _ (by omega)
  rw [Nat.add_mul, Nat.one_mul] at this
  omega

theorem Fill.cell {α : Type} {w : World} {g : Nat} {T : TypeId} {size n k : Nat} {E : α → List Value → Prop} {xs : List α} (h : Fill w g T size n k E xs) {m j : Nat} (hm : m < n) (hj : j < size) : ∃ u, w.cell? ⟨g, m * size + j, none⟩ = some u := by
  obtain ⟨cur, h1, h2, _⟩ := h
  have hlt : m * size + j < cur.size := by
    have : (m + 1) * size ≤ n * size := Nat.mul_le_mul_right _ (by omega)
    rw [Nat.add_mul, Nat.one_mul] at this
    omega
  exact ⟨cur[m * size + j], (cell_of_row w g _ cur T (0, 0) h1).trans (Array.getElem?_eq_getElem hlt)⟩
theorem Fill.frozen {α : Type} {w : World} {g : Nat} {T : TypeId} {size n k : Nat} {E : α → List Value → Prop} {xs : List α} (h : Fill w g T size n k E xs) (o : Nat) : w.frozen? ⟨g, o, none⟩ = false := by
  obtain ⟨cur, h1, _⟩ := h
  simp [World.frozen?, h1]

section
variable {P : Program}
theorem run_make_rowN (t e : TypeId) (i : TypeInfo) (z : Value) (ht : P.underlying t = some (.slice e)) (hi : P.info? e = some i) (hz : i.zero = some z)
    (kl kc : IntKind) (n c : Nat) (hnc : n ≤ c) (hbytes : i.bytes * c ≤ 281474976710656) (h63 : c ≤ 9223372036854775807) (w : World) :
    (Instr.makeSlice t (.int kl (n : Int)) (.int kc (c : Int))).run P w = .ok (.slice (some ⟨w.heap.size, 0, none⟩) n c) (w.alloc (.cells (madeCells z.cells (c * i.size)) e)) := by
  have hb : (i.bytes : Int) * (c : Int) ≤ 281474976710656 := by
    have h : ((i.bytes * c : Nat) : Int) ≤ 281474976710656 := by omega
    rwa [Int.natCast_mul] at h
  have hr := run_make (P := P) w t e i z ht hi hz kl kc n c (by omega) (by omega) hb (by omega)
  simp only [Int.toNat_natCast] at hr
  exact hr
end

end Go.Proofs.Ytbghcoihndlihaa
