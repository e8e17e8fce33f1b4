/- LaidE, StrI, Open, FunLaw0, joined. -/
import Derived.Test.YtbghcoihndlihaaDoorQ1
import Derived.Test.YtbghcoihndlihaaDoorQ8
import Derived.Test.YtbghcoihndlihaaDoorQ21
import Derived.Test.YtbghcoihndlihaaDoorTie
import Derived.Test.YtbghcoihndlihaaDoorCards
import Derived.ProofKit
import Derived.LaidMore
import Derived.Lay
import Derived.OpenShut
import Derived.SevenTiedAt
import Derived.Stop.Joined
import Derived.Stop.LaidErr
import Derived.Deep.Slices
namespace Go.Proofs.YtbghcoihndlihaaDoor

/- What the listed errors give: they lie there. -/
section
open Go.ChangeShapes Go.WideShapes Go.ChangeAt Go.RowKit Go.Joins

/-- The listed errors lie there. -/
def Tab (w : World) : Prop := ∃ E, Errs w E
theorem Tab.keep {w w' : World} (h : Tab w) (hb : Below w.heap.size w w') : Tab w' := by
  obtain ⟨E, h⟩ := h
  exact ⟨E, h.keep hb⟩
theorem star : "*" ++ "errors.errorString" = "*errors.errorString" := by decide
theorem errRow (u : TypeId) (h : Tryd.prog.typeName? 3 u = some "*errors.errorString") : u = 145 :=
  typeName_ptr_named (nm := "errors.errorString") (by rw [star]; kernel_rfl) (by kernel_rfl) (by decide) u (by rw [star]; exact h)

set_option maxRecDepth 100000 in
theorem tab_of_laid {W : World} (h : laidMetH Tryd.prog [("loop.example/g00823/impl.errBad", Rows.laid_loop_example_g00823_impl_errBad), ("loop.example/g00823/impl.errLost", Rows.laid_loop_example_g00823_impl_errLost), ("loop.example/g00823/impl.errTwice", Rows.laid_loop_example_g00823_impl_errTwice), ("loop.example/g00823/impl.errLoose", Rows.laid_loop_example_g00823_impl_errLoose)] W) : Tab W := by
  rw [MakeChecks.laidMetH_plain _ _ _ (by kernel_rfl)] at h
  obtain ⟨a0, _, hv0, _, _, _⟩ := laid_sentinel h (g := 0) (by kernel_rfl) (by kernel_rfl) Tryd.underlying37 errRow Tryd.underlying145 Tryd.underlying163 rfl rfl Tryd.underlying9 (by kernel_rfl) (by kernel_rfl)
  have c0 : W.cell? ⟨0, 0, none⟩ = some (.iface 145 (.pointer (some a0))) := by simpa using World.var?_cell (show Tryd.prog.globalNamed "loop.example/g00823/impl.errBad" = some 0 by kernel_rfl) hv0 0
  obtain ⟨a1, _, hv1, _, _, _⟩ := laid_sentinel (h.tail) (g := 1) (by kernel_rfl) (by kernel_rfl) Tryd.underlying37 errRow Tryd.underlying145 Tryd.underlying163 rfl rfl Tryd.underlying9 (by kernel_rfl) (by kernel_rfl)
  have c1 : W.cell? ⟨1, 0, none⟩ = some (.iface 145 (.pointer (some a1))) := by simpa using World.var?_cell (show Tryd.prog.globalNamed "loop.example/g00823/impl.errLost" = some 1 by kernel_rfl) hv1 0
  obtain ⟨a2, _, hv2, _, _, _⟩ := laid_sentinel ((h.tail).tail) (g := 2) (by kernel_rfl) (by kernel_rfl) Tryd.underlying37 errRow Tryd.underlying145 Tryd.underlying163 rfl rfl Tryd.underlying9 (by kernel_rfl) (by kernel_rfl)
  have c2 : W.cell? ⟨2, 0, none⟩ = some (.iface 145 (.pointer (some a2))) := by simpa using World.var?_cell (show Tryd.prog.globalNamed "loop.example/g00823/impl.errTwice" = some 2 by kernel_rfl) hv2 0
  obtain ⟨a3, _, hv3, _, _, _⟩ := laid_sentinel (((h.tail).tail).tail) (g := 3) (by kernel_rfl) (by kernel_rfl) Tryd.underlying37 errRow Tryd.underlying145 Tryd.underlying163 rfl rfl Tryd.underlying9 (by kernel_rfl) (by kernel_rfl)
  have c3 : W.cell? ⟨3, 0, none⟩ = some (.iface 145 (.pointer (some a3))) := by simpa using World.var?_cell (show Tryd.prog.globalNamed "loop.example/g00823/impl.errLoose" = some 3 by kernel_rfl) hv3 0
  exact ⟨fun c => if c = 1 then a0 else if c = 3 then a1 else if c = 4 then a2 else a3, c0, c1, c2, c3⟩

set_option maxRecDepth 100000 in
theorem vars_of_laid {W : World} (h : laidMetH Tryd.prog [("loop.example/g00823/impl.errBad", Rows.laid_loop_example_g00823_impl_errBad), ("loop.example/g00823/impl.errLost", Rows.laid_loop_example_g00823_impl_errLost), ("loop.example/g00823/impl.errTwice", Rows.laid_loop_example_g00823_impl_errTwice), ("loop.example/g00823/impl.errLoose", Rows.laid_loop_example_g00823_impl_errLoose)] W) : ∀ n ∈ ["loop.example/g00823/impl.errBad", "loop.example/g00823/impl.errLost", "loop.example/g00823/impl.errTwice", "loop.example/g00823/impl.errLoose"], ∃ g t tp a, Tryd.prog.globalNamed n = some g ∧ (Tryd.prog.globals[g]?).map (·.type) = some t ∧ Tryd.prog.readableRec t = true ∧ t < Tryd.prog.types.size ∧ W.var? Tryd.prog n = some #[.iface tp (.pointer (some a))] := by
  rw [MakeChecks.laidMetH_plain _ _ _ (by kernel_rfl)] at h
  obtain ⟨a0, _, hv0, _, _, _⟩ := laid_sentinel h (g := 0) (by kernel_rfl) (by kernel_rfl) Tryd.underlying37 errRow Tryd.underlying145 Tryd.underlying163 rfl rfl Tryd.underlying9 (by kernel_rfl) (by kernel_rfl)
  obtain ⟨a1, _, hv1, _, _, _⟩ := laid_sentinel (h.tail) (g := 1) (by kernel_rfl) (by kernel_rfl) Tryd.underlying37 errRow Tryd.underlying145 Tryd.underlying163 rfl rfl Tryd.underlying9 (by kernel_rfl) (by kernel_rfl)
  obtain ⟨a2, _, hv2, _, _, _⟩ := laid_sentinel ((h.tail).tail) (g := 2) (by kernel_rfl) (by kernel_rfl) Tryd.underlying37 errRow Tryd.underlying145 Tryd.underlying163 rfl rfl Tryd.underlying9 (by kernel_rfl) (by kernel_rfl)
  obtain ⟨a3, _, hv3, _, _, _⟩ := laid_sentinel (((h.tail).tail).tail) (g := 3) (by kernel_rfl) (by kernel_rfl) Tryd.underlying37 errRow Tryd.underlying145 Tryd.underlying163 rfl rfl Tryd.underlying9 (by kernel_rfl) (by kernel_rfl)
  intro n hn
  simp only [List.mem_cons, List.not_mem_nil, or_false] at hn
  rcases hn with rfl | rfl | rfl | rfl
  · exact ⟨0, 37, _, a0, by kernel_rfl, by kernel_rfl, by kernel_rfl, by decide +kernel, hv0⟩
  · exact ⟨1, 37, _, a1, by kernel_rfl, by kernel_rfl, by kernel_rfl, by decide +kernel, hv1⟩
  · exact ⟨2, 37, _, a2, by kernel_rfl, by kernel_rfl, by kernel_rfl, by decide +kernel, hv2⟩
  · exact ⟨3, 37, _, a3, by kernel_rfl, by kernel_rfl, by kernel_rfl, by decide +kernel, hv3⟩

theorem trodVars_four {H : Type} {enc : TypeId × Value → H} {P : Program} {w : World} {spare : Nat → Bool} {n0 n1 n2 n3 : String} {gs : List (DataW H)} {ps : List MemPlace} (h : DataW.TrodVars enc P w spare [n0, n1, n2, n3] gs ps) : ∃ a b c d, gs = [a, b, c, d] := by
  match gs, h with
  | [a, b, c, d], _ => exact ⟨a, b, c, d, rfl⟩
  | [], h => exact h.elim
  | [_], ⟨_, _, _, _, _, _, _, _, _, _, h, _⟩ => exact h.elim
  | [_, _], ⟨_, _, _, _, _, _, _, _, _, _, ⟨_, _, _, _, _, _, _, _, _, _, h, _⟩, _⟩ => exact h.elim
  | [_, _, _], ⟨_, _, _, _, _, _, _, _, _, _, ⟨_, _, _, _, _, _, _, _, _, _, ⟨_, _, _, _, _, _, _, _, _, _, h, _⟩, _⟩, _⟩ => exact h.elim
  | _ :: _ :: _ :: _ :: _ :: _, ⟨_, _, _, _, _, _, _, _, _, _, ⟨_, _, _, _, _, _, _, _, _, _, ⟨_, _, _, _, _, _, _, _, _, _, ⟨_, _, _, _, _, _, _, _, _, _, h, _⟩, _⟩, _⟩, _⟩ => exact h.elim
end

/- Strict of both sides: one answer. -/
section
open Go.ChangeShapes Go.WideShapes Go.ChangeAt Go.RowKit Go.Joins

theorem StrictI_any (f : FunD) (v : Value) (w : World) (Z : Zn) (hv : EFun w Z f v) (hD : ∀ b, Z.D b → b < w.heap.size) (hn : f.blocks.length ≤ 1048576) (hT : Tab w) : Calls Tryd.prog 7 #[v] w (GivesB (StrictP f) w) := by
  obtain ⟨E, hE⟩ := hT
  refine (Strict_any f v E w Z hv hD hn hE).mono ?_
  rintro e w' ⟨b, c, rfl, hc, hb, hbl⟩
  refine ⟨b, rfl, hb.trans ?_, hbl⟩
  constructor
  · rintro rfl
    rcases hc with ⟨_, h⟩ | ⟨h1, h2⟩
    · cases h
    · exact ⟨h1, h2⟩
  · rintro ⟨h1, h2⟩
    rcases hc with ⟨h, _⟩ | ⟨_, h⟩
    · exact absurd h1 h
    · exact h.one h2
end

/- A function that came in as an argument reads as one. -/
section
open Go.ChangeShapes Go.WideShapes Go.ChangeAt Go.RowKit Go.Joins Go.Deep

theorem cell_here {w : World} {a : Addr} {v : Value} (h : w.cell? a = some v) : a.block < w.heap.size ∧ a.spot = none := by
  unfold World.cell? at h
  rcases Nat.lt_or_ge a.block w.heap.size with hlt | hge
  · refine ⟨hlt, ?_⟩
    split at h
    · split at h
      · cases h
      · rename_i hs; simpa using hs
    · cases h
  · rw [Array.getElem?_eq_none hge] at h; cases h

theorem list2 {α : Type} : ∀ {l : List α}, l.length = 2 → ∃ a b, l = [a, b]
  | [a, b], _ => ⟨a, b, rfl⟩
theorem list4 {α : Type} : ∀ {l : List α}, l.length = 4 → ∃ a b c d, l = [a, b, c, d]
  | [a, b, c, d], _ => ⟨a, b, c, d, rfl⟩
theorem list8 {α : Type} : ∀ {l : List α}, l.length = 8 → ∃ a b c d e f g h, l = [a, b, c, d, e, f, g, h]
  | [a, b, c, d, e, f, g, h], _ => ⟨a, b, c, d, e, f, g, h, rfl⟩

section
variable {H : Type} {enc : TypeId × Value → H} {W : World} {spare : Nat → Bool}

theorem open_row {α : Type} [Inhabited α] {t e : TypeId} {S : Nat} {E : α → List Value → Prop} {fuel : Nat} {cs : List Value} {x : DataW H × List MemPlace} (ht : Tryd.prog.underlying t = some (.slice e)) (hS : Tryd.prog.cellsOf e = S) (hS0 : 0 < S)
    (hE : ∀ (n : Nat) cs (y : DataW H × List MemPlace), DataW.trod enc Tryd.prog W 0 spare true n e cs = some y → ∃ a, E a cs) (h : DataW.trod enc Tryd.prog W 0 spare true fuel t cs = some x) :
    ∃ (v : Value) (xs : List α), cs = [v] ∧ Row W (Zn.old W.heap.size) S E v xs := by
  rcases open_slice ht h with ⟨rfl, _⟩ | ⟨a, len, cap, m, n, D, Pl, rfl, _, hl, hm, hmm, _, hx⟩
  · exact ⟨_, [], rfl, by simp, none, 0, rfl, fun h => absurd rfl h⟩
  · rw [hS] at hx
    have hlm : len ≤ m := by rw [hmm]; split <;> omega
    obtain ⟨V, hV⟩ := choose_lt (n := m) (p := fun i (x : α) => ∃ cs', W.cells? 0 (a.add (i * S)) S = some cs' ∧ E x cs') (fun i hi => by
      obtain ⟨cs', h1, h2⟩ := hx i hi
      obtain ⟨y, hy⟩ := hE _ _ _ h2
      exact ⟨y, cs', h1, hy⟩)
    have hlen : ((List.range len).map V).length = len := by simp
    refine ⟨_, (List.range len).map V, rfl, by rw [hlen]; rw [maxLen_is] at hm; omega, _, cap, by rw [hlen], fun hne => ?_⟩
    have h0 : 0 < len := by
      rcases Nat.eq_zero_or_pos len with h | h
      · subst h; exact absurd rfl hne
      · exact h
    obtain ⟨cs0, hc0, _⟩ := hV 0 (by omega)
    obtain ⟨_, hl0, hat0⟩ := World.cells?_some hc0
    have hc00 := hat0 0 hS0
    rw [add_add, Nat.zero_mul, Nat.add_zero] at hc00
    have ha0 : a.add 0 = a := by simp [Addr.add]
    rw [ha0, List.getElem?_eq_getElem (by omega)] at hc00
    obtain ⟨hb, hs⟩ := cell_here hc00
    obtain ⟨b, off, spot⟩ := a
    simp only at hs hb
    subst hs
    refine ⟨b, off, rfl, hb, fun k y hy => ?_⟩
    have hk : k < len := by
      have := (List.getElem?_eq_some_iff.1 hy).1
      omega
    have hyV : V k = y := by simpa [List.getElem?_map, List.getElem?_range hk] using hy
    subst hyV
    obtain ⟨cs', h1, h2⟩ := hV k (by omega)
    obtain ⟨_, hl1, hat⟩ := World.cells?_some h1
    refine ⟨cs', h2, fun j u hu => ⟨?_, fun ho => by cases ho⟩⟩
    have hj : j < S := by rw [← hl1]; exact (List.getElem?_eq_some_iff.1 hu).1
    have := hat j hj
    rw [add_add, hu] at this
    have hadd : (⟨b, off, none⟩ : Addr).add (k * S + j) = ⟨b, off + k * S + j, none⟩ := by
      unfold Addr.add; split
      · simp_all
      · simp [Nat.add_assoc]
    rw [hadd] at this
    exact this

theorem some_of {α : Type} {xs : List α} {i : Nat} {o : Option α} (h : o = xs[i]?) (hi : i < xs.length) : ∃ y, o = some y := ⟨_, h.trans (List.getElem?_eq_getElem hi)⟩

theorem cells_int64 : Tryd.prog.cellsOf 2 = 1 := by kernel_rfl

theorem open_int64 {n : Nat} {cs : List Value} {y : DataW H × List MemPlace} (h : DataW.trod enc Tryd.prog W 0 spare true n 2 cs = some y) : ∃ a, EInt a cs := by
  obtain ⟨a, rfl, -⟩ := DataW.trod_int Tryd.underlying2 h
  exact ⟨a, rfl⟩

theorem cells_Move : Tryd.prog.cellsOf 129 = 2 := by kernel_rfl
theorem cells_Ins : Tryd.prog.cellsOf 131 = 4 := by kernel_rfl
theorem cells_End : Tryd.prog.cellsOf 45 = 4 := by kernel_rfl
theorem cells_Phi : Tryd.prog.cellsOf 123 = 2 := by kernel_rfl
theorem cells_Block : Tryd.prog.cellsOf 47 = 8 := by kernel_rfl
theorem cells_Fun : Tryd.prog.cellsOf 24 = 3 := by kernel_rfl
theorem cells_Ints : Tryd.prog.cellsOf 48 = 1 := by kernel_rfl
theorem cells_Phis : Tryd.prog.cellsOf 41 = 1 := by kernel_rfl
theorem cells_Moves : Tryd.prog.cellsOf 42 = 1 := by kernel_rfl
theorem cells_Inss : Tryd.prog.cellsOf 43 = 1 := by kernel_rfl
theorem cells_Blocks : Tryd.prog.cellsOf 22 = 1 := by kernel_rfl

theorem open_Move {n : Nat} {cs : List Value} {y : DataW H × List MemPlace} (h : DataW.trod enc Tryd.prog W 0 spare true n 129 cs = some y) : ∃ m : MoveD, EMove m cs := by
  obtain ⟨ys, n', _, _, hlen, hyl, hf⟩ := DataW.trod_struct Tryd.underlying129 h
  obtain ⟨c0, c1, rfl⟩ := list2 (hlen.trans cells_Move)
  clear hlen h
  have h0 : DataW.trod enc Tryd.prog W 0 spare true n' 2 ((([c0, c1] : List Value).drop 0).take (Tryd.prog.cellsOf 2)) = ys[0]? := hf 0 _ rfl
  rw [cells_int64] at h0
  have h1 : DataW.trod enc Tryd.prog W 0 spare true n' 2 ((([c0, c1] : List Value).drop 1).take (Tryd.prog.cellsOf 2)) = ys[1]? := hf 1 _ rfl
  rw [cells_int64] at h1
  obtain ⟨_, h0⟩ := some_of h0 (by rw [hyl]; decide)
  obtain ⟨_, h1⟩ := some_of h1 (by rw [hyl]; decide)
  obtain ⟨a0, e0⟩ := open_int64 h0
  obtain ⟨a1, e1⟩ := open_int64 h1
  simp [EInt] at e0 e1
  subst e0 e1
  exact ⟨⟨a0, a1⟩, rfl⟩

theorem open_four {t : TypeId} {n : Nat} {cs : List Value} {y : DataW H × List MemPlace} {f0 f1 f2 f3 : Field} (hu : Tryd.prog.underlying t = some (.struct #[f0, f1, f2, f3])) (hc : Tryd.prog.cellsOf t = 4)
    (h0 : f0.type = 2 ∧ f0.offset = 0) (h1 : f1.type = 2 ∧ f1.offset = 1) (h2 : f2.type = 2 ∧ f2.offset = 2) (h3 : f3.type = 2 ∧ f3.offset = 3)
    (h : DataW.trod enc Tryd.prog W 0 spare true n t cs = some y) : ∃ a b c d : Int, cs = [.int .i64 a, .int .i64 b, .int .i64 c, .int .i64 d] := by
  obtain ⟨ys, n', _, _, hlen, hyl, hf⟩ := DataW.trod_struct hu h
  obtain ⟨c0, c1, c2, c3, rfl⟩ := list4 (hlen.trans hc)
  clear hlen h
  have g0 : DataW.trod enc Tryd.prog W 0 spare true n' f0.type ((([c0, c1, c2, c3] : List Value).drop f0.offset).take (Tryd.prog.cellsOf f0.type)) = ys[0]? := hf 0 _ rfl
  rw [h0.1, h0.2, cells_int64] at g0
  have g1 : DataW.trod enc Tryd.prog W 0 spare true n' f1.type ((([c0, c1, c2, c3] : List Value).drop f1.offset).take (Tryd.prog.cellsOf f1.type)) = ys[1]? := hf 1 _ rfl
  rw [h1.1, h1.2, cells_int64] at g1
  have g2 : DataW.trod enc Tryd.prog W 0 spare true n' f2.type ((([c0, c1, c2, c3] : List Value).drop f2.offset).take (Tryd.prog.cellsOf f2.type)) = ys[2]? := hf 2 _ rfl
  rw [h2.1, h2.2, cells_int64] at g2
  have g3 : DataW.trod enc Tryd.prog W 0 spare true n' f3.type ((([c0, c1, c2, c3] : List Value).drop f3.offset).take (Tryd.prog.cellsOf f3.type)) = ys[3]? := hf 3 _ rfl
  rw [h3.1, h3.2, cells_int64] at g3
  obtain ⟨_, g0⟩ := some_of g0 (by rw [hyl]; simp)
  obtain ⟨_, g1⟩ := some_of g1 (by rw [hyl]; simp)
  obtain ⟨_, g2⟩ := some_of g2 (by rw [hyl]; simp)
  obtain ⟨_, g3⟩ := some_of g3 (by rw [hyl]; simp)
  obtain ⟨a0, e0⟩ := open_int64 g0
  obtain ⟨a1, e1⟩ := open_int64 g1
  obtain ⟨a2, e2⟩ := open_int64 g2
  obtain ⟨a3, e3⟩ := open_int64 g3
  simp [EInt] at e0 e1 e2 e3
  subst e0 e1 e2 e3
  exact ⟨a0, a1, a2, a3, rfl⟩

theorem open_Ins {n : Nat} {cs : List Value} {y : DataW H × List MemPlace} (h : DataW.trod enc Tryd.prog W 0 spare true n 131 cs = some y) : ∃ m : InsD, EIns m cs := by
  obtain ⟨a, b, c, d, rfl⟩ := open_four Tryd.underlying131 cells_Ins ⟨rfl, rfl⟩ ⟨rfl, rfl⟩ ⟨rfl, rfl⟩ ⟨rfl, rfl⟩ h
  exact ⟨⟨a, b, c, d⟩, rfl⟩

instance : Inhabited MoveD := ⟨⟨0, 0⟩⟩
instance : Inhabited InsD := ⟨⟨0, 0, 0, 0⟩⟩
instance : Inhabited EndD := ⟨⟨0, 0, 0, 0⟩⟩
instance : Inhabited PhiD := ⟨⟨0, []⟩⟩
instance : Inhabited BlockD := ⟨⟨[], [], [], [], default⟩⟩

theorem open_Phi {n : Nat} {cs : List Value} {y : DataW H × List MemPlace} (h : DataW.trod enc Tryd.prog W 0 spare true n 123 cs = some y) : ∃ p : PhiD, EPhi W (Zn.old W.heap.size) p cs := by
  obtain ⟨ys, n', _, _, hlen, hyl, hf⟩ := DataW.trod_struct Tryd.underlying123 h
  obtain ⟨c0, c1, rfl⟩ := list2 (hlen.trans cells_Phi)
  clear hlen h
  have h0 : DataW.trod enc Tryd.prog W 0 spare true n' 2 ((([c0, c1] : List Value).drop 0).take (Tryd.prog.cellsOf 2)) = ys[0]? := hf 0 _ rfl
  rw [cells_int64] at h0
  have h1 : DataW.trod enc Tryd.prog W 0 spare true n' 48 ((([c0, c1] : List Value).drop 1).take (Tryd.prog.cellsOf 48)) = ys[1]? := hf 1 _ rfl
  rw [cells_Ints] at h1
  obtain ⟨_, h0⟩ := some_of h0 (by rw [hyl]; decide)
  obtain ⟨_, h1⟩ := some_of h1 (by rw [hyl]; decide)
  obtain ⟨a0, e0⟩ := open_int64 h0
  obtain ⟨v, xs, e1, hr⟩ := open_row Tryd.underlying48 cells_int64 (by decide) (fun _ _ _ h => open_int64 h) h1
  simp [EInt] at e0 e1
  subst e0 e1
  exact ⟨⟨a0, xs⟩, _, rfl, hr⟩

theorem open_Block {n : Nat} {cs : List Value} {y : DataW H × List MemPlace} (h : DataW.trod enc Tryd.prog W 0 spare true n 47 cs = some y) : ∃ x : BlockD, EBlock W (Zn.old W.heap.size) x cs := by
  obtain ⟨ys, n', _, _, hlen, hyl, hf⟩ := DataW.trod_struct Tryd.underlying47 h
  obtain ⟨c0, c1, c2, c3, c4, c5, c6, c7, rfl⟩ := list8 (hlen.trans cells_Block)
  clear hlen h
  have h0 : DataW.trod enc Tryd.prog W 0 spare true n' 41 ((([c0, c1, c2, c3, c4, c5, c6, c7] : List Value).drop 0).take (Tryd.prog.cellsOf 41)) = ys[0]? := hf 0 _ rfl
  rw [cells_Phis] at h0
  have h1 : DataW.trod enc Tryd.prog W 0 spare true n' 42 ((([c0, c1, c2, c3, c4, c5, c6, c7] : List Value).drop 1).take (Tryd.prog.cellsOf 42)) = ys[1]? := hf 1 _ rfl
  rw [cells_Moves] at h1
  have h2 : DataW.trod enc Tryd.prog W 0 spare true n' 43 ((([c0, c1, c2, c3, c4, c5, c6, c7] : List Value).drop 2).take (Tryd.prog.cellsOf 43)) = ys[2]? := hf 2 _ rfl
  rw [cells_Inss] at h2
  have h3 : DataW.trod enc Tryd.prog W 0 spare true n' 42 ((([c0, c1, c2, c3, c4, c5, c6, c7] : List Value).drop 3).take (Tryd.prog.cellsOf 42)) = ys[3]? := hf 3 _ rfl
  rw [cells_Moves] at h3
  have h4 : DataW.trod enc Tryd.prog W 0 spare true n' 45 ((([c0, c1, c2, c3, c4, c5, c6, c7] : List Value).drop 4).take (Tryd.prog.cellsOf 45)) = ys[4]? := hf 4 _ rfl
  rw [cells_End] at h4
  obtain ⟨_, h0⟩ := some_of h0 (by rw [hyl]; decide)
  obtain ⟨_, h1⟩ := some_of h1 (by rw [hyl]; decide)
  obtain ⟨_, h2⟩ := some_of h2 (by rw [hyl]; decide)
  obtain ⟨_, h3⟩ := some_of h3 (by rw [hyl]; decide)
  obtain ⟨_, h4⟩ := some_of h4 (by rw [hyl]; decide)
  obtain ⟨v0, x0, e0, r0⟩ := open_row Tryd.underlying41 cells_Phi (by decide) (fun _ _ _ h => open_Phi h) h0
  obtain ⟨v1, x1, e1, r1⟩ := open_row Tryd.underlying42 cells_Move (by decide) (fun _ _ _ h => open_Move h) h1
  obtain ⟨v2, x2, e2, r2⟩ := open_row Tryd.underlying43 cells_Ins (by decide) (fun _ _ _ h => open_Ins h) h2
  obtain ⟨v3, x3, e3, r3⟩ := open_row Tryd.underlying42 cells_Move (by decide) (fun _ _ _ h => open_Move h) h3
  obtain ⟨a, b, c, d, e4⟩ := open_four Tryd.underlying45 cells_End ⟨rfl, rfl⟩ ⟨rfl, rfl⟩ ⟨rfl, rfl⟩ ⟨rfl, rfl⟩ h4
  simp at e0 e1 e2 e3 e4
  obtain ⟨rfl, rfl, rfl, rfl⟩ := e4
  subst e0 e1 e2 e3
  exact ⟨⟨x0, x1, x2, x3, ⟨a, b, c, d⟩⟩, _, _, _, _, rfl, r0, r1, r2, r3⟩

set_option maxRecDepth 100000 in
/-- An argument that is a function. -/
theorem open_Fun {base : Nat} {v : Value} {d : DataW H} {p : List MemPlace} (hv : Value.okWide Tryd.prog W .any base 24 v) (h : DataW.Trod enc Tryd.prog W 0 spare true 24 v d p) :
    ∃ f : FunD, EFun W (Zn.old W.heap.size) f v := by
  obtain ⟨c0, c1, c2, y0, y1, y2, m, rfl, rfl, rfl, h0, h1, h2⟩ := open_agg3 Tryd.underlying24 (by kernel_rfl) cells_Fun hv h
  obtain ⟨a0, e0⟩ := open_int64 h0
  obtain ⟨a1, e1⟩ := open_int64 h1
  obtain ⟨u, xs, e2, hr⟩ := open_row Tryd.underlying22 cells_Block (by decide) (fun _ _ _ h => open_Block h) h2
  simp [EInt] at e0 e1 e2
  subst e0 e1 e2
  exact ⟨⟨a0, a1, xs⟩, _, rfl, hr⟩
end
end

/- Small lemmas of the exact laws over functions. -/
section
open Go.ChangeShapes Go.WideShapes Go.ChangeAt Go.RowKit Go.Joins

theorem EFun.form {w : World} {Z : Zn} {f : FunD} {v : Value} (h : EFun w Z f v) : ∃ A c, v = .agg #[.int .i64 f.params, .int .i64 f.names, .slice A f.blocks.length c] := by
  obtain ⟨u, rfl, _, A, c, rfl, _⟩ := h
  exact ⟨A, c, rfl⟩
theorem leftI_yes' {f : FunD} (h : szFunN f ≤ 1048576) : 0 ≤ leftI 1048576 (szFunN f) := by unfold leftI; split <;> omega
theorem leftI_no' {f : FunD} (h : ¬ szFunN f ≤ 1048576) : leftI 1048576 (szFunN f) < 0 := by unfold leftI; split <;> omega

theorem Marked.belowB {D : Nat → Prop} {w w' : World} {B : Nat} (h : Marked D w w') (hD : ∀ b, D b → B ≤ b) (hB : B ≤ w.heap.size) : Below B w w' :=
  ⟨h.os, h.tape, h.output, h.size, fun b hb => h.far b (Nat.lt_of_lt_of_le hb hB) fun hd => by have := hD b hd; omega⟩
theorem OI.marked {D : Nat → Prop} {w w' : World} {B : Nat} {v : Value} {xs : List Int} (h : OI w B v xs) (hm : Marked D w w') (hn : ∀ k, v.ownBlock = some k → ¬ D k) : OI w' B v xs := by
  have hlt := h.lt
  obtain ⟨h1, h2⟩ := h
  refine ⟨h1, ?_⟩
  rcases h2 with h2 | ⟨g, cap, cur, rfl, hg, hh, r⟩
  · exact .inl h2
  · exact .inr ⟨g, cap, cur, rfl, hg, (hm.far g (hlt g rfl).2 (hn g rfl)).trans hh, r⟩
end

end Go.Proofs.YtbghcoihndlihaaDoor
