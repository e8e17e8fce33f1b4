/- Open, FunLaw0, joined. -/
import Derived.Test.YtnjmlhokkhkaaaaGreatDoorQ1
import Derived.Test.YtnjmlhokkhkaaaaGreatDoorQ8
import Derived.Deep.Slices
namespace Go.Proofs.YtnjmlhokkhkaaaaGreatDoor

/- A function that came in as an argument reads as one. -/
section
open Go.ChangeShapes Go.WideShapes Go.ChangeAt Go.RowKit Go.Joins Go.Deep

theorem cell_here {w : World} {a : Addr} {v : Value} (h : w.cell? a = some v) : a.block < w.heap.size ∧ a.spot = none := by
  unfold World.cell? at h
  rcases Nat.lt_or_ge a.block w.heap.size with hlt | hge
  · refine ⟨hlt, ?_⟩
    split at h
    · split at h
      · cases h
      · rename_i hs; simpa using hs
    · cases h
  · rw [Array.getElem?_eq_none hge] at h; cases h

theorem list2 {α : Type} : ∀ {l : List α}, l.length = 2 → ∃ a b, l = [a, b]
  | [a, b], _ => ⟨a, b, rfl⟩
theorem list4 {α : Type} : ∀ {l : List α}, l.length = 4 → ∃ a b c d, l = [a, b, c, d]
  | [a, b, c, d], _ => ⟨a, b, c, d, rfl⟩
theorem list8 {α : Type} : ∀ {l : List α}, l.length = 8 → ∃ a b c d e f g h, l = [a, b, c, d, e, f, g, h]
  | [a, b, c, d, e, f, g, h], _ => ⟨a, b, c, d, e, f, g, h, rfl⟩

section
variable {H : Type} {enc : TypeId × Value → H} {W : World} {spare : Nat → Bool}

theorem open_row {α : Type} [Inhabited α] {t e : TypeId} {S : Nat} {E : α → List Value → Prop} {fuel : Nat} {cs : List Value} {x : DataW H × List MemPlace} (ht : Tryz.prog.underlying t = some (.slice e)) (hS : Tryz.prog.cellsOf e = S) (hS0 : 0 < S)
    (hE : ∀ (n : Nat) cs (y : DataW H × List MemPlace), DataW.trod enc Tryz.prog W 0 spare true n e cs = some y → ∃ a, E a cs) (h : DataW.trod enc Tryz.prog W 0 spare true fuel t cs = some x) :
    ∃ (v : Value) (xs : List α), cs = [v] ∧ Row W (Zn.old W.heap.size) S E v xs := by
  rcases open_slice ht h with ⟨rfl, _⟩ | ⟨a, len, cap, m, n, D, Pl, rfl, _, hl, hm, hmm, _, hx⟩
  · exact ⟨_, [], rfl, by simp, none, 0, rfl, fun h => absurd rfl h⟩
  · rw [hS] at hx
    have hlm : len ≤ m := by rw [hmm]; split <;> omega
    obtain ⟨V, hV⟩ := choose_lt (n := m) (p := fun i (x : α) => ∃ cs', W.cells? 0 (a.add (i * S)) S = some cs' ∧ E x cs') (fun i hi => by
      obtain ⟨cs', h1, h2⟩ := hx i hi
      obtain ⟨y, hy⟩ := hE _ _ _ h2
      exact ⟨y, cs', h1, hy⟩)
    have hlen : ((List.range len).map V).length = len := by simp
    refine ⟨_, (List.range len).map V, rfl, by rw [hlen]; rw [maxLen_is] at hm; omega, _, cap, by rw [hlen], fun hne => ?_⟩
    have h0 : 0 < len := by
      rcases Nat.eq_zero_or_pos len with h | h
      · subst h; exact absurd rfl hne
      · exact h
    obtain ⟨cs0, hc0, _⟩ := hV 0 (by omega)
    obtain ⟨_, hl0, hat0⟩ := World.cells?_some hc0
    have hc00 := hat0 0 hS0
    rw [add_add, Nat.zero_mul, Nat.add_zero] at hc00
    have ha0 : a.add 0 = a := by simp [Addr.add]
    rw [ha0, List.getElem?_eq_getElem (by omega)] at hc00
    obtain ⟨hb, hs⟩ := cell_here hc00
    obtain ⟨b, off, spot⟩ := a
    simp only at hs hb
    subst hs
    refine ⟨b, off, rfl, hb, fun k y hy => ?_⟩
    have hk : k < len := by
      have := (List.getElem?_eq_some_iff.1 hy).1
      omega
    have hyV : V k = y := by simpa [List.getElem?_map, List.getElem?_range hk] using hy
    subst hyV
    obtain ⟨cs', h1, h2⟩ := hV k (by omega)
    obtain ⟨_, hl1, hat⟩ := World.cells?_some h1
    refine ⟨cs', h2, fun j u hu => ⟨?_, fun ho => by cases ho⟩⟩
    have hj : j < S := by rw [← hl1]; exact (List.getElem?_eq_some_iff.1 hu).1
    have := hat j hj
    rw [add_add, hu] at this
    have hadd : (⟨b, off, none⟩ : Addr).add (k * S + j) = ⟨b, off + k * S + j, none⟩ := by
      unfold Addr.add; split
      · simp_all
      · simp [Nat.add_assoc]
    rw [hadd] at this
    exact this

theorem some_of {α : Type} {xs : List α} {i : Nat} {o : Option α} (h : o = xs[i]?) (hi : i < xs.length) : ∃ y, o = some y := ⟨_, h.trans (List.getElem?_eq_getElem hi)⟩

theorem cells_int64 : Tryz.prog.cellsOf 2 = 1 := by kernel_rfl

theorem open_int64 {n : Nat} {cs : List Value} {y : DataW H × List MemPlace} (h : DataW.trod enc Tryz.prog W 0 spare true n 2 cs = some y) : ∃ a, EInt a cs := by
  obtain ⟨a, rfl, -⟩ := DataW.trod_int Tryz.underlying2 h
  exact ⟨a, rfl⟩

theorem cells_Move : Tryz.prog.cellsOf 208 = 2 := by kernel_rfl
theorem cells_Ins : Tryz.prog.cellsOf 210 = 4 := by kernel_rfl
theorem cells_End : Tryz.prog.cellsOf 134 = 4 := by kernel_rfl
theorem cells_Phi : Tryz.prog.cellsOf 205 = 2 := by kernel_rfl
theorem cells_Block : Tryz.prog.cellsOf 136 = 8 := by kernel_rfl
theorem cells_Fun : Tryz.prog.cellsOf 40 = 3 := by kernel_rfl
theorem cells_Ints : Tryz.prog.cellsOf 64 = 1 := by kernel_rfl
theorem cells_Phis : Tryz.prog.cellsOf 131 = 1 := by kernel_rfl
theorem cells_Moves : Tryz.prog.cellsOf 132 = 1 := by kernel_rfl
theorem cells_Inss : Tryz.prog.cellsOf 133 = 1 := by kernel_rfl
theorem cells_Blocks : Tryz.prog.cellsOf 38 = 1 := by kernel_rfl

theorem open_Move {n : Nat} {cs : List Value} {y : DataW H × List MemPlace} (h : DataW.trod enc Tryz.prog W 0 spare true n 208 cs = some y) : ∃ m : MoveD, EMove m cs := by
  obtain ⟨ys, n', _, _, hlen, hyl, hf⟩ := DataW.trod_struct Tryz.underlying208 h
  obtain ⟨c0, c1, rfl⟩ := list2 (hlen.trans cells_Move)
  clear hlen h
  have h0 : DataW.trod enc Tryz.prog W 0 spare true n' 2 ((([c0, c1] : List Value).drop 0).take (Tryz.prog.cellsOf 2)) = ys[0]? := hf 0 _ rfl
  rw [cells_int64] at h0
  have h1 : DataW.trod enc Tryz.prog W 0 spare true n' 2 ((([c0, c1] : List Value).drop 1).take (Tryz.prog.cellsOf 2)) = ys[1]? := hf 1 _ rfl
  rw [cells_int64] at h1
  obtain ⟨_, h0⟩ := some_of h0 (by rw [hyl]; decide)
  obtain ⟨_, h1⟩ := some_of h1 (by rw [hyl]; decide)
  obtain ⟨a0, e0⟩ := open_int64 h0
  obtain ⟨a1, e1⟩ := open_int64 h1
  simp [EInt] at e0 e1
  subst e0 e1
  exact ⟨⟨a0, a1⟩, rfl⟩

theorem open_four {t : TypeId} {n : Nat} {cs : List Value} {y : DataW H × List MemPlace} {f0 f1 f2 f3 : Field} (hu : Tryz.prog.underlying t = some (.struct #[f0, f1, f2, f3])) (hc : Tryz.prog.cellsOf t = 4)
    (h0 : f0.type = 2 ∧ f0.offset = 0) (h1 : f1.type = 2 ∧ f1.offset = 1) (h2 : f2.type = 2 ∧ f2.offset = 2) (h3 : f3.type = 2 ∧ f3.offset = 3)
    (h : DataW.trod enc Tryz.prog W 0 spare true n t cs = some y) : ∃ a b c d : Int, cs = [.int .i64 a, .int .i64 b, .int .i64 c, .int .i64 d] := by
  obtain ⟨ys, n', _, _, hlen, hyl, hf⟩ := DataW.trod_struct hu h
  obtain ⟨c0, c1, c2, c3, rfl⟩ := list4 (hlen.trans hc)
  clear hlen h
  have g0 : DataW.trod enc Tryz.prog W 0 spare true n' f0.type ((([c0, c1, c2, c3] : List Value).drop f0.offset).take (Tryz.prog.cellsOf f0.type)) = ys[0]? := hf 0 _ rfl
  rw [h0.1, h0.2, cells_int64] at g0
  have g1 : DataW.trod enc Tryz.prog W 0 spare true n' f1.type ((([c0, c1, c2, c3] : List Value).drop f1.offset).take (Tryz.prog.cellsOf f1.type)) = ys[1]? := hf 1 _ rfl
  rw [h1.1, h1.2, cells_int64] at g1
  have g2 : DataW.trod enc Tryz.prog W 0 spare true n' f2.type ((([c0, c1, c2, c3] : List Value).drop f2.offset).take (Tryz.prog.cellsOf f2.type)) = ys[2]? := hf 2 _ rfl
  rw [h2.1, h2.2, cells_int64] at g2
  have g3 : DataW.trod enc Tryz.prog W 0 spare true n' f3.type ((([c0, c1, c2, c3] : List Value).drop f3.offset).take (Tryz.prog.cellsOf f3.type)) = ys[3]? := hf 3 _ rfl
  rw [h3.1, h3.2, cells_int64] at g3
  obtain ⟨_, g0⟩ := some_of g0 (by rw [hyl]; simp)
  obtain ⟨_, g1⟩ := some_of g1 (by rw [hyl]; simp)
  obtain ⟨_, g2⟩ := some_of g2 (by rw [hyl]; simp)
  obtain ⟨_, g3⟩ := some_of g3 (by rw [hyl]; simp)
  obtain ⟨a0, e0⟩ := open_int64 g0
  obtain ⟨a1, e1⟩ := open_int64 g1
  obtain ⟨a2, e2⟩ := open_int64 g2
  obtain ⟨a3, e3⟩ := open_int64 g3
  simp [EInt] at e0 e1 e2 e3
  subst e0 e1 e2 e3
  exact ⟨a0, a1, a2, a3, rfl⟩

theorem open_Ins {n : Nat} {cs : List Value} {y : DataW H × List MemPlace} (h : DataW.trod enc Tryz.prog W 0 spare true n 210 cs = some y) : ∃ m : InsD, EIns m cs := by
  obtain ⟨a, b, c, d, rfl⟩ := open_four Tryz.underlying210 cells_Ins ⟨rfl, rfl⟩ ⟨rfl, rfl⟩ ⟨rfl, rfl⟩ ⟨rfl, rfl⟩ h
  exact ⟨⟨a, b, c, d⟩, rfl⟩

instance : Inhabited MoveD := ⟨⟨0, 0⟩⟩
instance : Inhabited InsD := ⟨⟨0, 0, 0, 0⟩⟩
instance : Inhabited EndD := ⟨⟨0, 0, 0, 0⟩⟩
instance : Inhabited PhiD := ⟨⟨0, []⟩⟩
instance : Inhabited BlockD := ⟨⟨[], [], [], [], default⟩⟩

theorem open_Phi {n : Nat} {cs : List Value} {y : DataW H × List MemPlace} (h : DataW.trod enc Tryz.prog W 0 spare true n 205 cs = some y) : ∃ p : PhiD, EPhi W (Zn.old W.heap.size) p cs := by
  obtain ⟨ys, n', _, _, hlen, hyl, hf⟩ := DataW.trod_struct Tryz.underlying205 h
  obtain ⟨c0, c1, rfl⟩ := list2 (hlen.trans cells_Phi)
  clear hlen h
  have h0 : DataW.trod enc Tryz.prog W 0 spare true n' 2 ((([c0, c1] : List Value).drop 0).take (Tryz.prog.cellsOf 2)) = ys[0]? := hf 0 _ rfl
  rw [cells_int64] at h0
  have h1 : DataW.trod enc Tryz.prog W 0 spare true n' 64 ((([c0, c1] : List Value).drop 1).take (Tryz.prog.cellsOf 64)) = ys[1]? := hf 1 _ rfl
  rw [cells_Ints] at h1
  obtain ⟨_, h0⟩ := some_of h0 (by rw [hyl]; decide)
  obtain ⟨_, h1⟩ := some_of h1 (by rw [hyl]; decide)
  obtain ⟨a0, e0⟩ := open_int64 h0
  obtain ⟨v, xs, e1, hr⟩ := open_row Tryz.underlying64 cells_int64 (by decide) (fun _ _ _ h => open_int64 h) h1
  simp [EInt] at e0 e1
  subst e0 e1
  exact ⟨⟨a0, xs⟩, _, rfl, hr⟩

theorem open_Block {n : Nat} {cs : List Value} {y : DataW H × List MemPlace} (h : DataW.trod enc Tryz.prog W 0 spare true n 136 cs = some y) : ∃ x : BlockD, EBlock W (Zn.old W.heap.size) x cs := by
  obtain ⟨ys, n', _, _, hlen, hyl, hf⟩ := DataW.trod_struct Tryz.underlying136 h
  obtain ⟨c0, c1, c2, c3, c4, c5, c6, c7, rfl⟩ := list8 (hlen.trans cells_Block)
  clear hlen h
  have h0 : DataW.trod enc Tryz.prog W 0 spare true n' 131 ((([c0, c1, c2, c3, c4, c5, c6, c7] : List Value).drop 0).take (Tryz.prog.cellsOf 131)) = ys[0]? := hf 0 _ rfl
  rw [cells_Phis] at h0
  have h1 : DataW.trod enc Tryz.prog W 0 spare true n' 132 ((([c0, c1, c2, c3, c4, c5, c6, c7] : List Value).drop 1).take (Tryz.prog.cellsOf 132)) = ys[1]? := hf 1 _ rfl
  rw [cells_Moves] at h1
  have h2 : DataW.trod enc Tryz.prog W 0 spare true n' 133 ((([c0, c1, c2, c3, c4, c5, c6, c7] : List Value).drop 2).take (Tryz.prog.cellsOf 133)) = ys[2]? := hf 2 _ rfl
  rw [cells_Inss] at h2
  have h3 : DataW.trod enc Tryz.prog W 0 spare true n' 132 ((([c0, c1, c2, c3, c4, c5, c6, c7] : List Value).drop 3).take (Tryz.prog.cellsOf 132)) = ys[3]? := hf 3 _ rfl
  rw [cells_Moves] at h3
  have h4 : DataW.trod enc Tryz.prog W 0 spare true n' 134 ((([c0, c1, c2, c3, c4, c5, c6, c7] : List Value).drop 4).take (Tryz.prog.cellsOf 134)) = ys[4]? := hf 4 _ rfl
  rw [cells_End] at h4
  obtain ⟨_, h0⟩ := some_of h0 (by rw [hyl]; decide)
  obtain ⟨_, h1⟩ := some_of h1 (by rw [hyl]; decide)
  obtain ⟨_, h2⟩ := some_of h2 (by rw [hyl]; decide)
  obtain ⟨_, h3⟩ := some_of h3 (by rw [hyl]; decide)
  obtain ⟨_, h4⟩ := some_of h4 (by rw [hyl]; decide)
  obtain ⟨v0, x0, e0, r0⟩ := open_row Tryz.underlying131 cells_Phi (by decide) (fun _ _ _ h => open_Phi h) h0
  obtain ⟨v1, x1, e1, r1⟩ := open_row Tryz.underlying132 cells_Move (by decide) (fun _ _ _ h => open_Move h) h1
  obtain ⟨v2, x2, e2, r2⟩ := open_row Tryz.underlying133 cells_Ins (by decide) (fun _ _ _ h => open_Ins h) h2
  obtain ⟨v3, x3, e3, r3⟩ := open_row Tryz.underlying132 cells_Move (by decide) (fun _ _ _ h => open_Move h) h3
  obtain ⟨a, b, c, d, e4⟩ := open_four Tryz.underlying134 cells_End ⟨rfl, rfl⟩ ⟨rfl, rfl⟩ ⟨rfl, rfl⟩ ⟨rfl, rfl⟩ h4
  simp at e0 e1 e2 e3 e4
  obtain ⟨rfl, rfl, rfl, rfl⟩ := e4
  subst e0 e1 e2 e3
  exact ⟨⟨x0, x1, x2, x3, ⟨a, b, c, d⟩⟩, _, _, _, _, rfl, r0, r1, r2, r3⟩

set_option maxRecDepth 100000 in
/-- An argument that is a function. -/
theorem open_Fun {base : Nat} {v : Value} {d : DataW H} {p : List MemPlace} (hv : Value.okWide Tryz.prog W .any base 40 v) (h : DataW.Trod enc Tryz.prog W 0 spare true 40 v d p) :
    ∃ f : FunD, EFun W (Zn.old W.heap.size) f v := by
  obtain ⟨c0, c1, c2, y0, y1, y2, m, rfl, rfl, rfl, h0, h1, h2⟩ := open_agg3 Tryz.underlying40 (by kernel_rfl) cells_Fun hv h
  obtain ⟨a0, e0⟩ := open_int64 h0
  obtain ⟨a1, e1⟩ := open_int64 h1
  obtain ⟨u, xs, e2, hr⟩ := open_row Tryz.underlying38 cells_Block (by decide) (fun _ _ _ h => open_Block h) h2
  simp [EInt] at e0 e1 e2
  subst e0 e1 e2
  exact ⟨⟨a0, a1, xs⟩, _, rfl, hr⟩
end
end

/- Small lemmas of the exact laws over functions. -/
section
open Go.ChangeShapes Go.WideShapes Go.ChangeAt Go.RowKit Go.Joins

theorem EFun.form {w : World} {Z : Zn} {f : FunD} {v : Value} (h : EFun w Z f v) : ∃ A c, v = .agg #[.int .i64 f.params, .int .i64 f.names, .slice A f.blocks.length c] := by
  obtain ⟨u, rfl, _, A, c, rfl, _⟩ := h
  exact ⟨A, c, rfl⟩
theorem leftI_yes' {f : FunD} (h : szFunN f ≤ 1048576) : 0 ≤ leftI 1048576 (szFunN f) := by unfold leftI; split <;> omega
theorem leftI_no' {f : FunD} (h : ¬ szFunN f ≤ 1048576) : leftI 1048576 (szFunN f) < 0 := by unfold leftI; split <;> omega

theorem Marked.belowB {D : Nat → Prop} {w w' : World} {B : Nat} (h : Marked D w w') (hD : ∀ b, D b → B ≤ b) (hB : B ≤ w.heap.size) : Below B w w' :=
  ⟨h.os, h.tape, h.output, h.size, fun b hb => h.far b (Nat.lt_of_lt_of_le hb hB) fun hd => by have := hD b hd; omega⟩
theorem OI.marked {D : Nat → Prop} {w w' : World} {B : Nat} {v : Value} {xs : List Int} (h : OI w B v xs) (hm : Marked D w w') (hn : ∀ k, v.ownBlock = some k → ¬ D k) : OI w' B v xs := by
  have hlt := h.lt
  obtain ⟨h1, h2⟩ := h
  refine ⟨h1, ?_⟩
  rcases h2 with h2 | ⟨g, cap, cur, rfl, hg, hh, r⟩
  · exact .inl h2
  · exact .inr ⟨g, cap, cur, rfl, hg, (hm.far g (hlt g rfl).2 (hn g rfl)).trans hh, r⟩
end

end Go.Proofs.YtnjmlhokkhkaaaaGreatDoor
