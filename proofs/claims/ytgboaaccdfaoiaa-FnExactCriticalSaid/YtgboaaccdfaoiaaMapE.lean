/- A set of edges, held as a map from edges to bools. -/
import Derived.Test.YtgboaaccdfaoiaaColl
import Derived.Maps.OwnIn
import Derived.Maps.Ext
import Derived.DeepKeys4
namespace Go.Proofs.Ytgboaaccdfaoiaa
open Go.ChangeShapes Go.WideShapes Go.ChangeAt Go.RowKit Go.Joins Go.Maps

theorem lawE : Keyed Try.prog 51 := Keyed.of_law (deep_law_laid Try.laidOut (m := 2) (by decide) (of_decide_eq_true (by kernel_rfl)) (by kernel_rfl) (by kernel_rfl))

def wf64 (a : Int) : Prop := (Lit.int .i64 a).wf = true
def klE (a b : Int) : Lit := .string (keyBytes [.int .i64 a, .int .i64 b])
theorem keyLits_i64 (d : Nat) {a : Int} (wa : wf64 a) : Try.prog.keyLits (d + 1) 2 [.int .i64 a] = some [.int .i64 a] := by
  unfold Program.keyLits
  simp only [Try.underlying2]
  rw [if_pos ⟨trivial, wa⟩]
theorem cells_edge : Try.prog.cellsOf 51 = 2 := by kernel_rfl
theorem cells_i64 : Try.prog.cellsOf 2 = 1 := by kernel_rfl
theorem keyOf_edge {a b : Int} (wa : wf64 a) (wb : wf64 b) : keyOf Try.prog 51 (.agg #[.int .i64 a, .int .i64 b]) = some (klE a b) := by
  obtain ⟨m, hm⟩ : ∃ m, Try.prog.types.size = m + 1 := ⟨Try.prog.types.size - 1, by have : 0 < Try.prog.types.size := of_decide_eq_true (by kernel_rfl); omega⟩
  have hkt : Try.prog.keyType 51 = true := by kernel_rfl
  unfold keyOf
  simp only [Try.underlying51]
  rw [if_pos (by simp [hkt, Value.formed, Try.underlying51, cells_edge]), hm]
  unfold Program.keyLits
  simp only [Try.underlying51, Value.cells]
  rw [if_pos (by rw [cells_edge]; exact ⟨rfl, by kernel_rfl⟩)]
  simp [List.mapM_cons, List.mapM_nil, cells_i64, keyLits_i64 m wa, keyLits_i64 m wb, klE]
theorem klE_inj {a b c d : Int} (wa : wf64 a) (wb : wf64 b) (wc : wf64 c) (wd : wf64 d) (h : klE a b = klE c d) : a = c ∧ b = d := by
  have := lawE.inj (keyOf_edge wa wb) (h ▸ keyOf_edge wc wd)
  injection this with this
  have h0 := congrArg (fun l : Array Value => l[0]?) this
  have h1 := congrArg (fun l : Array Value => l[1]?) this
  simp at h0 h1
  exact ⟨h0, h1⟩

def hasE (xs : List MoveD) (a b : Int) : Bool := xs.any fun e => e.dst == a && e.src == b
theorem hasE_snoc (xs : List MoveD) (x : MoveD) (a b : Int) : hasE (xs ++ [x]) a b = (hasE xs a b || (x.dst == a && x.src == b)) := by simp [hasE]

/-- The map's datum tells which edges are in it. -/
def AtK (D : DataW Unit) (xs : List MoveD) : Prop := IsMap D ∧ ∀ a b, wf64 a → wf64 b → D.atKey (klE a b) (.lit (.bool false)) = .lit (.bool (hasE xs a b))
theorem AtK.nil : AtK (.map []) [] := ⟨⟨_, rfl⟩, fun _ _ _ _ => rfl⟩
theorem AtK.put {D : DataW Unit} {xs : List MoveD} (h : AtK D xs) {x : MoveD} (w1 : wf64 x.dst) (w2 : wf64 x.src) : AtK (D.put (klE x.dst x.src) (.lit (.bool true))) (xs ++ [x]) := by
  obtain ⟨⟨es, rfl⟩, h2⟩ := h
  refine ⟨⟨_, rfl⟩, fun a b wa wb => ?_⟩
  rw [hasE_snoc]
  by_cases e : klE a b = klE x.dst x.src
  · obtain ⟨rfl, rfl⟩ := klE_inj wa wb w1 w2 e
    rw [atKey_put_same ⟨_, rfl⟩ (lawE.key (keyOf_edge w1 w2))]
    simp
  · rw [atKey_put_other e, h2 a b wa wb]
    have : (x.dst == a && x.src == b) = false := by
      by_cases e1 : x.dst = a
      · by_cases e2 : x.src = b
        · exact absurd (by rw [e1, e2]) e
        · simp [e2]
      · simp [e1]
    rw [this, Bool.or_false]

/-- Block B is a map of at most n entries, and it holds the edges xs. -/
def MapE (w : World) (B n : Nat) (xs : List MoveD) : Prop := ∃ D : DataW Unit, w.ownsMap Try.prog 51 (plainElem Try.prog 4) B n D ∧ AtK D xs
theorem MapE.made (w : World) : MapE (w.alloc (.map #[] 0)) w.heap.size 0 [] := ⟨_, World.ownsMap_made _ _ _ _, AtK.nil⟩
theorem MapE.kept {w w' : World} {B n : Nat} {xs : List MoveD} {row : Option Nat} (h : MapE w B n xs) (hg : w.grownBy w' row) (hne : some B ≠ row) : MapE w' B n xs := by
  obtain ⟨D, h1, h2⟩ := h
  exact ⟨D, h1.kept hg hne, h2⟩
theorem MapE.mono {w : World} {B n n' : Nat} {xs : List MoveD} (h : MapE w B n xs) (hn : n ≤ n') : MapE w B n' xs := by
  obtain ⟨D, h1, h2⟩ := h
  exact ⟨D, h1.mono hn, h2⟩
theorem MapE.lt {w : World} {B n : Nat} {xs : List MoveD} (h : MapE w B n xs) : B < w.heap.size := by
  obtain ⟨D, h1, _⟩ := h
  exact h1.lt
theorem zero_bool (w : World) : (zeroValue 4).run Try.prog w = .ok (.bool false) w := Try.zeroValue4 w
set_option maxRecDepth 100000 in
theorem MapE.look {w : World} {B n : Nat} {xs : List MoveD} (h : MapE w B n xs) {a b : Int} (wa : wf64 a) (wb : wf64 b) :
    (Instr.lookup 96 (.map (some B)) (.agg #[.int .i64 a, .int .i64 b]) false).run Try.prog w = .ok (.bool (hasE xs a b)) w := by
  obtain ⟨D, h1, _, h2⟩ := h
  obtain ⟨v, ps, hrun, hv⟩ := h1.lookup lawE Try.underlying96 (zero_bool w) (plainElem_bool Try.underlying4 false) (keyOf_edge wa wb)
  rw [h2 a b wa wb] at hv
  have : v = .bool (hasE xs a b) := by
    unfold plainElem at hv
    rw [Try.underlying4] at hv
    cases v <;> simp at hv
    rw [hv.1]
  rw [this] at hrun
  exact hrun

end Go.Proofs.Ytgboaaccdfaoiaa
