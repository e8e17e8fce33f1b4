/- What a call that writes numbers where numbers were leaves as it was. -/
import Derived.Test.YtbghcoihndlihaaRow
import Derived.Test.YtbghcoihndlihaaSz
namespace Go.Proofs.Ytbghcoihndlihaa
open Go.ChangeShapes Go.WideShapes Go.ChangeAt Go.RowKit Go.Joins

def isI (u : Value) : Prop := ∃ x : Int, u = .int .i64 x

/-- Within the blocks D numbers may have been written where numbers were; all else is as it was. -/
structure Marked (D : Nat → Prop) (w w' : World) : Prop where
  os : w'.os = w.os
  tape : w'.tape = w.tape
  output : w'.output = w.output
  size : w.heap.size ≤ w'.heap.size
  far : ∀ b, b < w.heap.size → ¬ D b → w'.heap[b]? = w.heap[b]?
  num : ∀ b o u, D b → w.cell? ⟨b, o, none⟩ = some u → isI u → ∃ u', w'.cell? ⟨b, o, none⟩ = some u' ∧ isI u'
  same : ∀ b o u, D b → w.cell? ⟨b, o, none⟩ = some u → ¬ isI u → w'.cell? ⟨b, o, none⟩ = some u
  frozen : ∀ b o, D b → b < w.heap.size → w'.frozen? ⟨b, o, none⟩ = w.frozen? ⟨b, o, none⟩

theorem lt_of_cell {w : World} {b o : Nat} {u : Value} (h : w.cell? ⟨b, o, none⟩ = some u) : b < w.heap.size := World.block_lt_of_cell? w ⟨b, o, none⟩ h

theorem Marked.refl (D : Nat → Prop) (w : World) : Marked D w w := ⟨rfl, rfl, rfl, Nat.le_refl _, fun _ _ _ => rfl, fun _ _ u _ h hi => ⟨u, h, hi⟩, fun _ _ _ _ h _ => h, fun _ _ _ _ => rfl⟩
theorem Marked.trans {D : Nat → Prop} {a b c : World} (h : Marked D a b) (k : Marked D b c) : Marked D a c := by
  refine ⟨k.os.trans h.os, k.tape.trans h.tape, k.output.trans h.output, Nat.le_trans h.size k.size, fun i hi hn => (k.far i (Nat.lt_of_lt_of_le hi h.size) hn).trans (h.far i hi hn), fun i o u hD hu hi => ?_, fun i o u hD hu hi => ?_, fun i o hD hi => (k.frozen i o hD (Nat.lt_of_lt_of_le hi h.size)).trans (h.frozen i o hD hi)⟩
  · obtain ⟨u', hu', hi'⟩ := h.num i o u hD hu hi
    exact k.num i o u' hD hu' hi'
  · exact k.same i o u hD (h.same i o u hD hu hi) hi
theorem Marked.below {D : Nat → Prop} {w w' : World} (hb : Below w.heap.size w w') : Marked D w w' :=
  ⟨hb.os, hb.tape, hb.output, hb.size, fun b h _ => hb.block b h, fun b o u _ hu hi => ⟨u, (hb.cell (p := ⟨b, o, none⟩) (lt_of_cell hu)).trans hu, hi⟩, fun b o _ _ hu _ => (hb.cell (p := ⟨b, o, none⟩) (lt_of_cell hu)).trans hu, fun b o _ h => hb.frozen (p := ⟨b, o, none⟩) h⟩
theorem Marked.set {D : Nat → Prop} {w : World} {b o : Nat} {u : Value} (hD : D b) (hu : w.cell? ⟨b, o, none⟩ = some u) (hi : isI u) (x : Int) : Marked D w (w.setCell ⟨b, o, none⟩ (.int .i64 x)) := by
  have hg := set_grown w b o (.int .i64 x)
  refine ⟨hg.os, hg.tape, hg.output, hg.size, fun i h hn => hg.block i h (fun e => hn (by injection e with e; rw [e]; exact hD)), fun i o' u' _ hu' hi' => ?_, fun i o' u' _ hu' hn => ?_, fun i o' _ _ => World.frozen?_setCell w _ _ _⟩
  · by_cases e : (⟨b, o, none⟩ : Addr) = ⟨i, o', none⟩
    · rw [← e]
      exact ⟨_, World.cell?_setCell_same w _ _ hu, x, rfl⟩
    · exact ⟨u', by rw [World.cell?_setCell_other _ _ _ _ (by first | exact e | exact Ne.symm e)]; exact hu', hi'⟩
  · by_cases e : (⟨b, o, none⟩ : Addr) = ⟨i, o', none⟩
    · rw [← e, hu] at hu'
      injection hu' with hu'
      subst hu'
      exact absurd hi hn
    · rw [World.cell?_setCell_other _ _ _ _ (by first | exact e | exact Ne.symm e)]; exact hu'

/-- A number lies there, and may be written. -/
def SInt (w : World) (b o : Nat) : Prop := (∃ x : Int, w.cell? ⟨b, o, none⟩ = some (.int .i64 x)) ∧ w.frozen? ⟨b, o, none⟩ = false
/-- n records of S numbers each. -/
def SFlat (D : Nat → Prop) (w : World) (S : Nat) (v : Value) (n : Nat) : Prop :=
  n ≤ 9223372036854775807 ∧ ∃ A c, v = .slice A n c ∧ (0 < n → ∃ b off, A = some ⟨b, off, none⟩ ∧ D b ∧ ∀ k j, k < n → j < S → SInt w b (off + k * S + j))
def SPhis (D : Nat → Prop) (w : World) (v : Value) (ns : List Nat) : Prop :=
  ns.length ≤ 9223372036854775807 ∧ ∃ A c, v = .slice A ns.length c ∧ (0 < ns.length → ∃ b off, A = some ⟨b, off, none⟩ ∧ D b ∧ ∀ (k : Nat) n, ns[k]? = some n → SInt w b (off + k * 2) ∧ ∃ u, w.cell? ⟨b, off + k * 2 + 1, none⟩ = some u ∧ SFlat D w 1 u n)
structure BShape where
  phis : List Nat
  head : Nat
  body : Nat
  tail : Nat
def SBlocks (D : Nat → Prop) (w : World) (v : Value) (ss : List BShape) : Prop :=
  ss.length ≤ 9223372036854775807 ∧ ∃ A c, v = .slice A ss.length c ∧ (0 < ss.length → ∃ b off, A = some ⟨b, off, none⟩ ∧ D b ∧ ∀ (k : Nat) s, ss[k]? = some s → ∃ u0 u1 u2 u3, w.cell? ⟨b, off + k * 8, none⟩ = some u0 ∧ w.cell? ⟨b, off + k * 8 + 1, none⟩ = some u1 ∧ w.cell? ⟨b, off + k * 8 + 2, none⟩ = some u2 ∧ w.cell? ⟨b, off + k * 8 + 3, none⟩ = some u3 ∧
    SPhis D w u0 s.phis ∧ SFlat D w 2 u1 s.head ∧ SFlat D w 4 u2 s.body ∧ SFlat D w 2 u3 s.tail ∧ SInt w b (off + k * 8 + 4) ∧ SInt w b (off + k * 8 + 5) ∧ SInt w b (off + k * 8 + 6) ∧ SInt w b (off + k * 8 + 7))

theorem not_isI_slice {A : Option Addr} {n c : Nat} : ¬ isI (.slice A n c) := fun ⟨_, h⟩ => by cases h
theorem SInt.marked {D : Nat → Prop} {w w' : World} {b o : Nat} (h : SInt w b o) (hD : D b) (hm : Marked D w w') : SInt w' b o := by
  obtain ⟨⟨x, hx⟩, hf⟩ := h
  obtain ⟨u', hu', y, rfl⟩ := hm.num b o _ hD hx ⟨x, rfl⟩
  exact ⟨⟨y, hu'⟩, (hm.frozen b o hD (lt_of_cell hx)).trans hf⟩
theorem SFlat.marked {D : Nat → Prop} {w w' : World} {S n : Nat} {v : Value} (h : SFlat D w S v n) (hm : Marked D w w') : SFlat D w' S v n := by
  obtain ⟨h1, A, c, rfl, h2⟩ := h
  refine ⟨h1, A, c, rfl, fun hn => ?_⟩
  obtain ⟨b, off, rfl, hD, h3⟩ := h2 hn
  exact ⟨b, off, rfl, hD, fun k j hk hj => (h3 k j hk hj).marked hD hm⟩
theorem SFlat.form {D : Nat → Prop} {w : World} {S n : Nat} {v : Value} (h : SFlat D w S v n) : ¬ isI v := by
  obtain ⟨_, A, c, rfl, _⟩ := h
  exact not_isI_slice
theorem SPhis.form {D : Nat → Prop} {w : World} {ns : List Nat} {v : Value} (h : SPhis D w v ns) : ¬ isI v := by
  obtain ⟨_, A, c, rfl, _⟩ := h
  exact not_isI_slice
theorem SPhis.marked {D : Nat → Prop} {w w' : World} {ns : List Nat} {v : Value} (h : SPhis D w v ns) (hm : Marked D w w') : SPhis D w' v ns := by
  obtain ⟨h1, A, c, rfl, h2⟩ := h
  refine ⟨h1, A, c, rfl, fun hn => ?_⟩
  obtain ⟨b, off, rfl, hD, h3⟩ := h2 hn
  refine ⟨b, off, rfl, hD, fun k n hk => ?_⟩
  obtain ⟨h4, u, hu, h5⟩ := h3 k n hk
  exact ⟨h4.marked hD hm, u, hm.same _ _ _ hD hu h5.form, h5.marked hm⟩
theorem SBlocks.marked {D : Nat → Prop} {w w' : World} {ss : List BShape} {v : Value} (h : SBlocks D w v ss) (hm : Marked D w w') : SBlocks D w' v ss := by
  obtain ⟨h1, A, c, rfl, h2⟩ := h
  refine ⟨h1, A, c, rfl, fun hn => ?_⟩
  obtain ⟨b, off, rfl, hD, h3⟩ := h2 hn
  refine ⟨b, off, rfl, hD, fun k s hk => ?_⟩
  obtain ⟨u0, u1, u2, u3, c0, c1, c2, c3, s0, s1, s2, s3, i0, i1, i2, i3⟩ := h3 k s hk
  exact ⟨u0, u1, u2, u3, hm.same _ _ _ hD c0 s0.form, hm.same _ _ _ hD c1 s1.form, hm.same _ _ _ hD c2 s2.form, hm.same _ _ _ hD c3 s3.form, s0.marked hm, s1.marked hm, s2.marked hm, s3.marked hm, i0.marked hD hm, i1.marked hD hm, i2.marked hD hm, i3.marked hD hm⟩

def phisS (l : List PhiD) : List Nat := l.map fun p => p.args.length
def blockS (x : BlockD) : BShape := ⟨phisS x.phis, x.head.length, x.body.length, x.tail.length⟩
theorem At.sint {w : World} {Z : Zn} {b o : Nat} {x : Int} (h : At w Z b o (.int .i64 x)) (ho : Z.own = true) : SInt w b o := ⟨⟨x, h.1⟩, h.2 ho⟩

theorem Row.sflat {α : Type} {w : World} {Z : Zn} {S : Nat} {E : α → List Value → Prop} {v : Value} {xs : List α} (h : Row w Z S E v xs) (ho : Z.own = true) (hE : ∀ x cs, E x cs → ∀ j, j < S → ∃ y : Int, cs[j]? = some (.int .i64 y)) : SFlat Z.D w S v xs.length := by
  obtain ⟨h1, A, c, rfl, h2⟩ := h
  refine ⟨h1, A, c, rfl, fun hn => ?_⟩
  obtain ⟨b, off, rfl, hD, h3⟩ := h2 (List.length_pos_iff.1 hn)
  refine ⟨b, off, rfl, hD, fun k j hk hj => ?_⟩
  obtain ⟨cs, hcs, h4⟩ := h3 k _ (List.getElem?_eq_getElem hk)
  obtain ⟨y, hy⟩ := hE _ cs hcs j hj
  exact (h4 j _ hy).sint ho
theorem Row.sints {w : World} {Z : Zn} {v : Value} {xs : List Int} (h : Row w Z 1 EInt v xs) (ho : Z.own = true) : SFlat Z.D w 1 v xs.length :=
  h.sflat ho fun x cs hcs j hj => by
    subst hcs
    obtain rfl : j = 0 := by omega
    exact ⟨_, rfl⟩
theorem Row.smoves {w : World} {Z : Zn} {v : Value} {xs : List MoveD} (h : Row w Z 2 EMove v xs) (ho : Z.own = true) : SFlat Z.D w 2 v xs.length :=
  h.sflat ho fun x cs hcs j hj => by
    subst hcs
    match j, hj with
    | 0, _ => exact ⟨_, rfl⟩
    | 1, _ => exact ⟨_, rfl⟩
theorem Row.sinss {w : World} {Z : Zn} {v : Value} {xs : List InsD} (h : Row w Z 4 EIns v xs) (ho : Z.own = true) : SFlat Z.D w 4 v xs.length :=
  h.sflat ho fun x cs hcs j hj => by
    subst hcs
    match j, hj with
    | 0, _ => exact ⟨_, rfl⟩
    | 1, _ => exact ⟨_, rfl⟩
    | 2, _ => exact ⟨_, rfl⟩
    | 3, _ => exact ⟨_, rfl⟩
theorem Row.sphis {w : World} {Z : Zn} {v : Value} {xs : List PhiD} (h : Row w Z 2 (EPhi w Z) v xs) (ho : Z.own = true) : SPhis Z.D w v (phisS xs) := by
  have hl : (phisS xs).length = xs.length := by simp [phisS]
  obtain ⟨h1, A, c, rfl, h2⟩ := h
  refine ⟨by rw [hl]; exact h1, A, c, by rw [hl], fun hn => ?_⟩
  obtain ⟨b, off, rfl, hD, h3⟩ := h2 (List.length_pos_iff.1 (by omega))
  refine ⟨b, off, rfl, hD, fun k n hk => ?_⟩
  have hk' : k < xs.length := by
    have := (List.getElem?_eq_some_iff.1 hk).1
    omega
  have hxk : xs[k]? = some xs[k] := List.getElem?_eq_getElem hk'
  obtain ⟨cs, ⟨u, rfl, hu⟩, h4⟩ := h3 k _ hxk
  have hn : n = xs[k].args.length := by
    unfold phisS at hk
    rw [List.getElem?_map, hxk] at hk
    simpa using hk.symm
  subst hn
  exact ⟨(h4 0 _ rfl).sint ho, u, (h4 1 _ rfl).1, hu.sints ho⟩
theorem EFun.sblocks {w : World} {Z : Zn} {f : FunD} {a b u : Value} (h : EFun w Z f (.agg #[a, b, u])) (ho : Z.own = true) : SBlocks Z.D w u (f.blocks.map blockS) := by
  obtain ⟨u', he, h⟩ := h
  injection he with he
  have : u = u' := by
    have := congrArg (fun l : Array Value => l[2]?) he
    simpa using this
  subst this
  have hl : (f.blocks.map blockS).length = f.blocks.length := by simp
  obtain ⟨h1, A, c, rfl, h2⟩ := h
  refine ⟨by rw [hl]; exact h1, A, c, by rw [hl], fun hn => ?_⟩
  obtain ⟨b, off, rfl, hD, h3⟩ := h2 (List.length_pos_iff.1 (by omega))
  refine ⟨b, off, rfl, hD, fun k s hk => ?_⟩
  have hk' : k < f.blocks.length := by
    have := (List.getElem?_eq_some_iff.1 hk).1
    omega
  have hxk : f.blocks[k]? = some f.blocks[k] := List.getElem?_eq_getElem hk'
  obtain ⟨cs, ⟨v0, v1, v2, v3, rfl, r0, r1, r2, r3⟩, h4⟩ := h3 k _ hxk
  have hs : s = blockS f.blocks[k] := by
    rw [List.getElem?_map, hxk] at hk
    simpa using hk.symm
  subst hs
  exact ⟨v0, v1, v2, v3, (h4 0 _ rfl).1, (h4 1 _ rfl).1, (h4 2 _ rfl).1, (h4 3 _ rfl).1, r0.sphis ho, r1.smoves ho, r2.sinss ho, r3.smoves ho, (h4 4 _ rfl).sint ho, (h4 5 _ rfl).sint ho, (h4 6 _ rfl).sint ho, (h4 7 _ rfl).sint ho⟩

end Go.Proofs.Ytbghcoihndlihaa
