/- Two lists of numbers side by side: names and times. -/
import Derived.Test.YtbghcoihndlihaaPk
import Derived.Test.YtbghcoihndlihaaL2b
namespace Go.Proofs.Ytbghcoihndlihaa
open Go.ChangeShapes Go.WideShapes Go.ChangeAt Go.RowKit Go.Joins

/-- The names a and the times b of what was told so far, in two rows of the call's own. -/
def Two (w : World) (B : Nat) (a b : Value) (evs : List EvD) : Prop := OI w B a (evs.map (·.n)) ∧ OI w B b (evs.map (·.pl.src)) ∧ ∀ k, a.ownBlock = some k → b.ownBlock ≠ some k
def Own2 (a b : Value) (k : Nat) : Prop := a.ownBlock = some k ∨ b.ownBlock = some k
/-- From wk on only the rows a and b were written, or new ones. -/
structure Adds2 (wk w : World) (a b a' b' : Value) : Prop where
  fw : Fw (Own2 a b) wk w
  own : ∀ k, Own2 a' b' k → Own2 a b k ∨ wk.heap.size ≤ k

theorem Adds2.refl (w : World) (a b : Value) : Adds2 w w a b a b := ⟨Fw.refl _ _, fun _ h => .inl h⟩
theorem Adds2.below {wk w w' : World} {a b a' b' : Value} (h : Adds2 wk w a b a' b') (hb : Below w.heap.size w w') : Adds2 wk w' a b a' b' :=
  ⟨h.fw.trans (Fw.below (P := fun _ => False) hb) fun _ _ hf => hf.elim, h.own⟩
theorem Adds2.left {wk w w' : World} {a b a' b' a'' : Value} (h : Adds2 wk w a b a' b') (hg : w.grownBy w' a'.ownBlock) (hat : a''.ownBlock = a'.ownBlock ∨ ∃ k, a''.ownBlock = some k ∧ w.heap.size ≤ k) : Adds2 wk w' a b a'' b' := by
  have hs := h.fw.size
  refine ⟨h.fw.trans (Fw.grown (P := Own2 a' b') hg fun g hg _ => .inl hg) fun i hi ho => ?_, fun k hk => ?_⟩
  · rcases h.own i ho with h | h
    · exact h
    · omega
  · rcases hk with hk | hk
    · rcases hat with e | ⟨k', e, hk'⟩
      · exact h.own k (.inl (e.symm.trans hk))
      · rw [e] at hk; injection hk with hk; exact .inr (by omega)
    · exact h.own k (.inr hk)
theorem Adds2.right {wk w w' : World} {a b a' b' b'' : Value} (h : Adds2 wk w a b a' b') (hg : w.grownBy w' b'.ownBlock) (hat : b''.ownBlock = b'.ownBlock ∨ ∃ k, b''.ownBlock = some k ∧ w.heap.size ≤ k) : Adds2 wk w' a b a' b'' := by
  have hs := h.fw.size
  refine ⟨h.fw.trans (Fw.grown (P := Own2 a' b') hg fun g hg _ => .inr hg) fun i hi ho => ?_, fun k hk => ?_⟩
  · rcases h.own i ho with h | h
    · exact h
    · omega
  · rcases hk with hk | hk
    · exact h.own k (.inl hk)
    · rcases hat with e | ⟨k', e, hk'⟩
      · exact h.own k (.inr (e.symm.trans hk))
      · rw [e] at hk; injection hk with hk; exact .inr (by omega)
theorem Adds2.cellA {wk w : World} {a b a' b' : Value} {q : Nat} (h : Adds2 wk w a b a' b') (hq : q < wk.heap.size) (hn : ¬ Own2 a b q) (o : Nat) : w.cell? ⟨q, o, none⟩ = wk.cell? ⟨q, o, none⟩ := World.cell?_of_block (a := ⟨q, o, none⟩) (h.fw.block q hq hn)

theorem Two.below {w w' : World} {B : Nat} {a b : Value} {evs : List EvD} (h : Two w B a b evs) (hb : Below w.heap.size w w') : Two w' B a b evs :=
  ⟨h.1.below hb fun k hk => (h.1.lt k hk).2, h.2.1.below hb fun k hk => (h.2.1.lt k hk).2, h.2.2⟩
/-- A name more: the times are as they were. -/
theorem Two.mid {w w1 : World} {B : Nat} {a b : Value} {evs : List EvD} (h : Two w B a b evs) (g1 : w.grownBy w1 a.ownBlock) : OI w1 B b (evs.map (·.pl.src)) :=
  h.2.1.grown g1 (by
    cases hb : b.ownBlock with
    | none => exact .inl rfl
    | some k => exact .inr fun e => h.2.2 k e.symm hb)
theorem Two.more {w w1 w2 : World} {B : Nat} {a b a' b' : Value} {evs evs' : List EvD} {y k t : Int} (h : Two w B a b evs) (o1 : OI w1 B a' (evs.map (·.n) ++ [y])) (g1 : w.grownBy w1 a.ownBlock) (t1 : a'.ownBlock = a.ownBlock ∨ ∃ k, a'.ownBlock = some k ∧ w.heap.size ≤ k)
    (o2 : OI w2 B b' (evs.map (·.pl.src) ++ [t])) (g2 : w1.grownBy w2 b.ownBlock) (t2 : b'.ownBlock = b.ownBlock ∨ ∃ k, b'.ownBlock = some k ∧ w1.heap.size ≤ k) (he : evs' = evs ++ [⟨y, ⟨k, t⟩⟩]) : Two w2 B a' b' evs' := by
  have hd : ∀ k, a'.ownBlock = some k → b.ownBlock ≠ some k := fun k hk hb => by
    rcases t1 with e | ⟨k', e, hk'⟩
    · exact h.2.2 k (e.symm.trans hk) hb
    · rw [e] at hk
      injection hk with hk
      have := (h.2.1.lt k hb).2
      omega
  have hs1 := g1.size
  subst he
  refine ⟨?_, ?_, fun k hk hb => ?_⟩
  · rw [List.map_append]
    refine o1.grown g2 ?_
    cases ha : a'.ownBlock with
    | none => exact .inl rfl
    | some k => exact .inr fun e => hd k ha e.symm
  · rw [List.map_append]; exact o2
  · rcases t2 with e | ⟨k', e, hk'⟩
    · exact hd k hk (e.symm.trans hb)
    · rw [e] at hb
      injection hb with hb
      have := (o1.lt k hk).2
      omega
theorem Two.moreB {w w1 w5 w2 : World} {B : Nat} {a b a' b' : Value} {evs evs' : List EvD} {y k t : Int} (h : Two w B a b evs) (o1 : OI w1 B a' (evs.map (·.n) ++ [y])) (g1 : w.grownBy w1 a.ownBlock) (t1 : a'.ownBlock = a.ownBlock ∨ ∃ k, a'.ownBlock = some k ∧ w.heap.size ≤ k)
    (hb : Below w1.heap.size w1 w5) (o2 : OI w2 B b' (evs.map (·.pl.src) ++ [t])) (g2 : w5.grownBy w2 b.ownBlock) (t2 : b'.ownBlock = b.ownBlock ∨ ∃ k, b'.ownBlock = some k ∧ w5.heap.size ≤ k) (he : evs' = evs ++ [⟨y, ⟨k, t⟩⟩]) : Two w2 B a' b' evs' := by
  have hd : ∀ k, a'.ownBlock = some k → b.ownBlock ≠ some k := fun k hk hb => by
    rcases t1 with e | ⟨k', e, hk'⟩
    · exact h.2.2 k (e.symm.trans hk) hb
    · rw [e] at hk
      injection hk with hk
      have := (h.2.1.lt k hb).2
      omega
  have hs1 := g1.size
  have hs5 := hb.size
  have o5 := o1.below hb fun k hk => (o1.lt k hk).2
  subst he
  refine ⟨?_, ?_, fun k hk hb => ?_⟩
  · rw [List.map_append]
    refine o5.grown g2 ?_
    cases ha : a'.ownBlock with
    | none => exact .inl rfl
    | some k => exact .inr fun e => hd k ha e.symm
  · rw [List.map_append]; exact o2
  · rcases t2 with e | ⟨k', e, hk'⟩
    · exact hd k hk (e.symm.trans hb)
    · rw [e] at hb
      injection hb with hb
      have := (o1.lt k hk).2
      omega
theorem Two.to {w : World} {B : Nat} {a b : Value} {evs evs' : List EvD} (h : Two w B a b evs) (he : evs' = evs) : Two w B a b evs' := by rw [he]; exact h
theorem Two.len {evs : List EvD} (h : evs.length ≤ 1000000) : (evs.map (·.n)).length ≤ 1048576 ∧ (evs.map (·.pl.src)).length ≤ 1048576 := by simp; omega

def GivesTwo (evs : List EvD) (w : World) (e : Ending) (w' : World) : Prop := ∃ a b, e = .returned (.tuple #[a, b]) ∧ Two w' w.heap.size a b evs ∧ Below w.heap.size w w'

end Go.Proofs.Ytbghcoihndlihaa
