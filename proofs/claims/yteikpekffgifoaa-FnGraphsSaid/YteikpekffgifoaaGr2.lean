/- Uses, Row, End, FunP, joined. -/
import Derived.Test.YteikpekffgifoaaGr1
import Derived.Deep.Onto
import Derived.Laws.MakeOwn
import Derived.Laws.Rows
import Derived.Deep.QuietTactic
import Derived.BigQuiet
namespace Go.Proofs.Yteikpekffgifoaa

/- UsesOf and its model answer the same names. -/
section
open Go.ChangeShapes Go.WideShapes Go.ChangeAt Go.RowKit Go.Joins

def usesL (o v a b : Int) : List Int := if insOkB o v a b = true then (if o = 1 then [] else if 3 ≤ o ∧ o ≤ 6 then [a, b] else [a]) else []

theorem OI_lit0 (w : World) {B g : Nat} (hg : w.heap.size = g) (hB : B ≤ g) : OI (w.alloc (.cells #[] 2)) B (.slice (some ⟨g, 0, none⟩) 0 0) [] := by
  subst hg
  exact World.ownsRow_lit (base := B) (e := 2) (size := 1) w #[] 0 hB (by simp) rfl
theorem OI_lit1 (w : World) (a : Int) {B g : Nat} (hg : w.heap.size = g) (hB : B ≤ g) : OI (w.alloc (.cells #[.int .i64 a] 2)) B (.slice (some ⟨g, 0, none⟩) 1 1) [a] := by
  subst hg
  exact World.ownsRow_lit (base := B) (e := 2) (size := 1) w #[.int .i64 a] 1 hB (by rw [maxLen_is]; omega) rfl
theorem OI_lit2 (w : World) (a b : Int) {B g : Nat} (hg : w.heap.size = g) (hB : B ≤ g) : OI (w.alloc (.cells #[.int .i64 a, .int .i64 b] 2)) B (.slice (some ⟨g, 0, none⟩) 2 2) [a, b] := by
  subst hg
  exact World.ownsRow_lit (base := B) (e := 2) (size := 1) w #[.int .i64 a, .int .i64 b] 2 hB (by rw [maxLen_is]; omega) rfl

theorem below1 {w w1 : World} {o o' : Obj} (hb : Below (w.alloc o).heap.size (w.alloc o) w1) : Below w.heap.size w (w1.alloc o') :=
  (((Below.refl _ _).alloc (Nat.le_refl _) _).trans (hb.mono (by simp))).alloc (by have := hb.size; simp at this; omega) _

set_option maxHeartbeats 400000 in
theorem UsesOf_bad (o v a b : Int) (w : World) (hok : insOkB o v a b = false) :
    Calls Try.prog 97 #[.agg #[.int .i64 o, .int .i64 v, .int .i64 a, .int .i64 b]] w fun e w' => ∃ r, e = .returned r ∧ OI w' w.heap.size r (usesL o v a b) ∧ Below w.heap.size w w' := by
  have HE : Hid (usesL o v a b = []) := by simp [Hid, usesL, hok]
  go_enter Try.func97, Try.ntmps97
  go_wp2_with (go_at_call 96; refine (InsOk_any _ _ _ _ _).mono ?_; rintro e w1 ⟨rfl, hb1⟩; obtain ⟨hc1, hf1⟩ := bcell hb1; have hz1 : w.heap.size < w1.heap.size := (by have := hb1.size; simp at this; omega))
  go_ret
  exact ⟨_, rfl, by rw [HE.out]; exact OI_lit0 _ rfl (by omega), below1 hb1⟩

set_option maxHeartbeats 400000 in
theorem UsesOf_1 (v a b : Int) (w : World) (hok : insOkB 1 v a b = true) :
    Calls Try.prog 97 #[.agg #[.int .i64 1, .int .i64 v, .int .i64 a, .int .i64 b]] w fun e w' => ∃ r, e = .returned r ∧ OI w' w.heap.size r (usesL 1 v a b) ∧ Below w.heap.size w w' := by
  have HE : Hid (usesL 1 v a b = []) := by simp [Hid, usesL, hok]
  go_enter Try.func97, Try.ntmps97
  go_wp2_with (go_at_call 96; refine (InsOk_any _ _ _ _ _).mono ?_; rintro e w1 ⟨rfl, hb1⟩; obtain ⟨hc1, hf1⟩ := bcell hb1; have hz1 : w.heap.size < w1.heap.size := (by have := hb1.size; simp at this; omega))
  go_ret
  exact ⟨_, rfl, by rw [HE.out]; exact OI_lit0 _ rfl (by omega), below1 hb1⟩

set_option maxHeartbeats 400000 in
theorem UsesOf_2 (v a b : Int) (w : World) (hok : insOkB 2 v a b = true) :
    Calls Try.prog 97 #[.agg #[.int .i64 2, .int .i64 v, .int .i64 a, .int .i64 b]] w fun e w' => ∃ r, e = .returned r ∧ OI w' w.heap.size r (usesL 2 v a b) ∧ Below w.heap.size w w' := by
  have HE : Hid (usesL 2 v a b = [a]) := by simp [Hid, usesL, hok]
  go_enter Try.func97, Try.ntmps97
  go_wp2_with (go_at_call 96; refine (InsOk_any _ _ _ _ _).mono ?_; rintro e w1 ⟨rfl, hb1⟩; obtain ⟨hc1, hf1⟩ := bcell hb1; have hz1 : w.heap.size < w1.heap.size := (by have := hb1.size; simp at this; omega))
  go_ret
  exact ⟨_, rfl, by rw [HE.out]; exact OI_lit1 _ _ rfl (by omega), below1 hb1⟩

set_option maxHeartbeats 400000 in
theorem UsesOf_3 (v a b : Int) (w : World) (hok : insOkB 3 v a b = true) :
    Calls Try.prog 97 #[.agg #[.int .i64 3, .int .i64 v, .int .i64 a, .int .i64 b]] w fun e w' => ∃ r, e = .returned r ∧ OI w' w.heap.size r (usesL 3 v a b) ∧ Below w.heap.size w w' := by
  have HE : Hid (usesL 3 v a b = [a, b]) := by simp [Hid, usesL, hok]
  go_enter Try.func97, Try.ntmps97
  go_wp2_with (go_at_call 96; refine (InsOk_any _ _ _ _ _).mono ?_; rintro e w1 ⟨rfl, hb1⟩; obtain ⟨hc1, hf1⟩ := bcell hb1; have hz1 : w.heap.size < w1.heap.size := (by have := hb1.size; simp at this; omega))
  go_ret
  exact ⟨_, rfl, by rw [HE.out]; exact OI_lit2 _ _ _ rfl (by omega), below1 hb1⟩

set_option maxHeartbeats 400000 in
theorem UsesOf_4 (v a b : Int) (w : World) (hok : insOkB 4 v a b = true) :
    Calls Try.prog 97 #[.agg #[.int .i64 4, .int .i64 v, .int .i64 a, .int .i64 b]] w fun e w' => ∃ r, e = .returned r ∧ OI w' w.heap.size r (usesL 4 v a b) ∧ Below w.heap.size w w' := by
  have HE : Hid (usesL 4 v a b = [a, b]) := by simp [Hid, usesL, hok]
  go_enter Try.func97, Try.ntmps97
  go_wp2_with (go_at_call 96; refine (InsOk_any _ _ _ _ _).mono ?_; rintro e w1 ⟨rfl, hb1⟩; obtain ⟨hc1, hf1⟩ := bcell hb1; have hz1 : w.heap.size < w1.heap.size := (by have := hb1.size; simp at this; omega))
  go_ret
  exact ⟨_, rfl, by rw [HE.out]; exact OI_lit2 _ _ _ rfl (by omega), below1 hb1⟩

set_option maxHeartbeats 400000 in
theorem UsesOf_5 (v a b : Int) (w : World) (hok : insOkB 5 v a b = true) :
    Calls Try.prog 97 #[.agg #[.int .i64 5, .int .i64 v, .int .i64 a, .int .i64 b]] w fun e w' => ∃ r, e = .returned r ∧ OI w' w.heap.size r (usesL 5 v a b) ∧ Below w.heap.size w w' := by
  have HE : Hid (usesL 5 v a b = [a, b]) := by simp [Hid, usesL, hok]
  go_enter Try.func97, Try.ntmps97
  go_wp2_with (go_at_call 96; refine (InsOk_any _ _ _ _ _).mono ?_; rintro e w1 ⟨rfl, hb1⟩; obtain ⟨hc1, hf1⟩ := bcell hb1; have hz1 : w.heap.size < w1.heap.size := (by have := hb1.size; simp at this; omega))
  go_ret
  exact ⟨_, rfl, by rw [HE.out]; exact OI_lit2 _ _ _ rfl (by omega), below1 hb1⟩

set_option maxHeartbeats 400000 in
theorem UsesOf_6 (v a b : Int) (w : World) (hok : insOkB 6 v a b = true) :
    Calls Try.prog 97 #[.agg #[.int .i64 6, .int .i64 v, .int .i64 a, .int .i64 b]] w fun e w' => ∃ r, e = .returned r ∧ OI w' w.heap.size r (usesL 6 v a b) ∧ Below w.heap.size w w' := by
  have HE : Hid (usesL 6 v a b = [a, b]) := by simp [Hid, usesL, hok]
  go_enter Try.func97, Try.ntmps97
  go_wp2_with (go_at_call 96; refine (InsOk_any _ _ _ _ _).mono ?_; rintro e w1 ⟨rfl, hb1⟩; obtain ⟨hc1, hf1⟩ := bcell hb1; have hz1 : w.heap.size < w1.heap.size := (by have := hb1.size; simp at this; omega))
  go_ret
  exact ⟨_, rfl, by rw [HE.out]; exact OI_lit2 _ _ _ rfl (by omega), below1 hb1⟩

set_option maxHeartbeats 400000 in
theorem UsesOf_7 (v a b : Int) (w : World) (hok : insOkB 7 v a b = true) :
    Calls Try.prog 97 #[.agg #[.int .i64 7, .int .i64 v, .int .i64 a, .int .i64 b]] w fun e w' => ∃ r, e = .returned r ∧ OI w' w.heap.size r (usesL 7 v a b) ∧ Below w.heap.size w w' := by
  have HE : Hid (usesL 7 v a b = [a]) := by simp [Hid, usesL, hok]
  go_enter Try.func97, Try.ntmps97
  go_wp2_with (go_at_call 96; refine (InsOk_any _ _ _ _ _).mono ?_; rintro e w1 ⟨rfl, hb1⟩; obtain ⟨hc1, hf1⟩ := bcell hb1; have hz1 : w.heap.size < w1.heap.size := (by have := hb1.size; simp at this; omega))
  go_ret
  exact ⟨_, rfl, by rw [HE.out]; exact OI_lit1 _ _ rfl (by omega), below1 hb1⟩

theorem ok_range {o v a b : Int} (h : insOkB o v a b = true) : 1 ≤ o ∧ o ≤ 7 := by
  unfold insOkB at h
  by_cases h1 : o = 1
  · omega
  by_cases h2 : o = 2
  · omega
  by_cases h3 : 3 ≤ o ∧ o ≤ 6
  · omega
  by_cases h7 : o = 7
  · omega
  rw [if_neg h1, if_neg h2, if_neg h3, if_neg h7] at h
  cases h

theorem UsesOf_any (o v a b : Int) (w : World) :
    Calls Try.prog 97 #[.agg #[.int .i64 o, .int .i64 v, .int .i64 a, .int .i64 b]] w fun e w' => ∃ r, e = .returned r ∧ OI w' w.heap.size r (usesL o v a b) ∧ Below w.heap.size w w' := by
  cases hok : insOkB o v a b
  · exact UsesOf_bad o v a b w hok
  · obtain ⟨h1, h7⟩ := ok_range hok
    have : o = 1 ∨ o = 2 ∨ o = 3 ∨ o = 4 ∨ o = 5 ∨ o = 6 ∨ o = 7 := by omega
    rcases this with rfl | rfl | rfl | rfl | rfl | rfl | rfl
    · exact UsesOf_1 v a b w hok
    · exact UsesOf_2 v a b w hok
    · exact UsesOf_3 v a b w hok
    · exact UsesOf_4 v a b w hok
    · exact UsesOf_5 v a b w hok
    · exact UsesOf_6 v a b w hok
    · exact UsesOf_7 v a b w hok

set_option maxHeartbeats 400000 in
theorem l1Uses_1 (v a b : Int) (w : World) :
    Calls Try.prog 99 #[.agg #[.int .i64 1, .int .i64 v, .int .i64 a, .int .i64 b]] w fun e w' => ∃ r, e = .returned r ∧ OI w' w.heap.size r [] ∧ Below w.heap.size w w' := by
  go_enter Try.func99, Try.ntmps99
  go_wp2
  go_ret
  refine ⟨_, rfl, ?_, ((Below.refl _ _).alloc (Nat.le_refl _) _).alloc (by simp) _⟩
  exact OI_lit0 (w.alloc _) (by simp) (by omega)

set_option maxHeartbeats 400000 in
theorem l1Uses_2 (v a b : Int) (w : World) :
    Calls Try.prog 99 #[.agg #[.int .i64 2, .int .i64 v, .int .i64 a, .int .i64 b]] w fun e w' => ∃ r, e = .returned r ∧ OI w' w.heap.size r [a] ∧ Below w.heap.size w w' := by
  go_enter Try.func99, Try.ntmps99
  go_wp2
  go_ret
  refine ⟨_, rfl, ?_, ((Below.refl _ _).alloc (Nat.le_refl _) _).alloc (by simp) _⟩
  exact OI_lit1 (w.alloc _) _ (by simp) (by omega)

set_option maxHeartbeats 400000 in
theorem l1Uses_3 (v a b : Int) (w : World) :
    Calls Try.prog 99 #[.agg #[.int .i64 3, .int .i64 v, .int .i64 a, .int .i64 b]] w fun e w' => ∃ r, e = .returned r ∧ OI w' w.heap.size r [a, b] ∧ Below w.heap.size w w' := by
  go_enter Try.func99, Try.ntmps99
  go_wp2
  go_ret
  refine ⟨_, rfl, ?_, ((Below.refl _ _).alloc (Nat.le_refl _) _).alloc (by simp) _⟩
  exact OI_lit2 (w.alloc _) _ _ (by simp) (by omega)

set_option maxHeartbeats 400000 in
theorem l1Uses_4 (v a b : Int) (w : World) :
    Calls Try.prog 99 #[.agg #[.int .i64 4, .int .i64 v, .int .i64 a, .int .i64 b]] w fun e w' => ∃ r, e = .returned r ∧ OI w' w.heap.size r [a, b] ∧ Below w.heap.size w w' := by
  go_enter Try.func99, Try.ntmps99
  go_wp2
  go_ret
  refine ⟨_, rfl, ?_, ((Below.refl _ _).alloc (Nat.le_refl _) _).alloc (by simp) _⟩
  exact OI_lit2 (w.alloc _) _ _ (by simp) (by omega)

set_option maxHeartbeats 400000 in
theorem l1Uses_5 (v a b : Int) (w : World) :
    Calls Try.prog 99 #[.agg #[.int .i64 5, .int .i64 v, .int .i64 a, .int .i64 b]] w fun e w' => ∃ r, e = .returned r ∧ OI w' w.heap.size r [a, b] ∧ Below w.heap.size w w' := by
  go_enter Try.func99, Try.ntmps99
  go_wp2
  go_ret
  refine ⟨_, rfl, ?_, ((Below.refl _ _).alloc (Nat.le_refl _) _).alloc (by simp) _⟩
  exact OI_lit2 (w.alloc _) _ _ (by simp) (by omega)

set_option maxHeartbeats 400000 in
theorem l1Uses_6 (v a b : Int) (w : World) :
    Calls Try.prog 99 #[.agg #[.int .i64 6, .int .i64 v, .int .i64 a, .int .i64 b]] w fun e w' => ∃ r, e = .returned r ∧ OI w' w.heap.size r [a, b] ∧ Below w.heap.size w w' := by
  go_enter Try.func99, Try.ntmps99
  go_wp2
  go_ret
  refine ⟨_, rfl, ?_, ((Below.refl _ _).alloc (Nat.le_refl _) _).alloc (by simp) _⟩
  exact OI_lit2 (w.alloc _) _ _ (by simp) (by omega)

set_option maxHeartbeats 400000 in
theorem l1Uses_7 (v a b : Int) (w : World) :
    Calls Try.prog 99 #[.agg #[.int .i64 7, .int .i64 v, .int .i64 a, .int .i64 b]] w fun e w' => ∃ r, e = .returned r ∧ OI w' w.heap.size r [a] ∧ Below w.heap.size w w' := by
  go_enter Try.func99, Try.ntmps99
  go_wp2
  go_ret
  refine ⟨_, rfl, ?_, ((Below.refl _ _).alloc (Nat.le_refl _) _).alloc (by simp) _⟩
  exact OI_lit1 (w.alloc _) _ (by simp) (by omega)

theorem l1Uses_any (o v a b : Int) (w : World) (hok : insOkB o v a b = true) :
    Calls Try.prog 99 #[.agg #[.int .i64 o, .int .i64 v, .int .i64 a, .int .i64 b]] w fun e w' => ∃ r, e = .returned r ∧ OI w' w.heap.size r (usesL o v a b) ∧ Below w.heap.size w w' := by
  obtain ⟨h1, h7⟩ := ok_range hok
  have : o = 1 ∨ o = 2 ∨ o = 3 ∨ o = 4 ∨ o = 5 ∨ o = 6 ∨ o = 7 := by omega
  rcases this with rfl | rfl | rfl | rfl | rfl | rfl | rfl <;> simp only [usesL, hok]
  · exact l1Uses_1 v a b w
  · exact l1Uses_2 v a b w
  · exact l1Uses_3 v a b w
  · exact l1Uses_4 v a b w
  · exact l1Uses_5 v a b w
  · exact l1Uses_6 v a b w
  · exact l1Uses_7 v a b w

theorem usesL_len (o v a b : Int) : (usesL o v a b).length ≤ 2 := by
  unfold usesL; split <;> (try split) <;> (try split) <;> simp

theorem OI.below {w w' : World} {B B' : Nat} {v : Value} {xs : List Int} (h : OI w B v xs) (hb : Below B' w w') (hB : ∀ k, v.ownBlock = some k → k < B') : OI w' B v xs := by
  obtain ⟨h1, h2⟩ := h
  refine ⟨h1, ?_⟩
  rcases h2 with h2 | ⟨g, cap, cur, rfl, hg, hh, r⟩
  · exact .inl h2
  · exact .inr ⟨g, cap, cur, rfl, hg, by rw [hb.block g (hB g rfl)]; exact hh, r⟩

theorem OI.lt {w : World} {B : Nat} {v : Value} {xs : List Int} (h : OI w B v xs) : ∀ k, v.ownBlock = some k → B ≤ k ∧ k < w.heap.size := World.ownsRow.lt h
theorem OI.grown {w w' : World} {B : Nat} {v : Value} {xs : List Int} (h : OI w B v xs) {row : Option Nat} (hg : w.grownBy w' row) (hne : v.ownBlock = none ∨ v.ownBlock ≠ row) : OI w' B v xs := World.ownsRow.kept h hg hne
theorem OI.drewN {w : World} {B : Nat} {v : Value} {xs : List Int} (h : OI w B v xs) (n : Nat) : OI (w.drewN n) B v xs := h
theorem below_drewN {B : Nat} {a w : World} (h : Below B a w) (n : Nat) : Below B a (w.drewN n) := ⟨h.os, h.tape, h.output, h.size, h.block⟩
end

/- Slices of records: what a slice value reads as, in a zone of blocks, and how it is kept. -/
section
open Go.ChangeShapes Go.WideShapes Go.ChangeAt Go.RowKit Go.Joins

/-- Blocks in which something lies; own: and none of its cells is frozen. -/
structure Zn where
  D : Nat → Prop
  own : Bool

def Zn.new (lo hi : Nat) : Zn := ⟨fun b => lo ≤ b ∧ b < hi, true⟩
def Zn.old (hi : Nat) : Zn := ⟨fun b => b < hi, false⟩

def At (w : World) (Z : Zn) (b o : Nat) (u : Value) : Prop := w.cell? ⟨b, o, none⟩ = some u ∧ (Z.own = true → w.frozen? ⟨b, o, none⟩ = false)

def RowAt {α : Type} (w : World) (Z : Zn) (size : Nat) (E : α → List Value → Prop) (xs : List α) (b off : Nat) : Prop :=
  Z.D b ∧ ∀ k x, xs[k]? = some x → ∃ cs, E x cs ∧ ∀ j u, cs[j]? = some u → At w Z b (off + k * size + j) u

def Row {α : Type} (w : World) (Z : Zn) (size : Nat) (E : α → List Value → Prop) (v : Value) (xs : List α) : Prop :=
  xs.length ≤ 9223372036854775807 ∧ ∃ A c, v = .slice A xs.length c ∧ (xs ≠ [] → ∃ b off, A = some ⟨b, off, none⟩ ∧ RowAt w Z size E xs b off)

/-- What lay in zone Z of w lies in zone Z' of w'. -/
structure Kept (Z Z' : Zn) (w w' : World) : Prop where
  D : ∀ b, Z.D b → Z'.D b
  own : Z'.own = true → Z.own = true
  heap : ∀ b, Z.D b → w'.heap[b]? = w.heap[b]?

theorem Kept.refl (Z : Zn) (w : World) : Kept Z Z w w := ⟨fun _ h => h, fun h => h, fun _ _ => rfl⟩
theorem Kept.trans {Z Z' Z'' : Zn} {w w' w'' : World} (h : Kept Z Z' w w') (k : Kept Z' Z'' w' w'') : Kept Z Z'' w w'' :=
  ⟨fun b hb => k.D b (h.D b hb), fun ho => h.own (k.own ho), fun b hb => (k.heap b (h.D b hb)).trans (h.heap b hb)⟩
theorem Kept.drewN (Z : Zn) (w : World) (n : Nat) : Kept Z Z w (w.drewN n) := ⟨fun _ h => h, fun h => h, fun _ _ => rfl⟩
theorem Kept.below {Z : Zn} {w w' : World} {B : Nat} (hb : Below B w w') (hB : ∀ b, Z.D b → b < B) : Kept Z Z w w' := ⟨fun _ h => h, fun h => h, fun b h => hb.block b (hB b h)⟩
theorem Kept.grown {Z : Zn} {w w' : World} {row : Option Nat} (hg : w.grownBy w' row) (hB : ∀ b, Z.D b → b < w.heap.size) (hr : ∀ b, row = some b → ¬ Z.D b) : Kept Z Z w w' :=
  ⟨fun _ h => h, fun h => h, fun b h => hg.block b (hB b h) fun e => hr b e.symm h⟩

theorem At.keep {Z Z' : Zn} {w w' : World} {b o : Nat} {u : Value} (h : At w Z b o u) (hk : Kept Z Z' w w') (hD : Z.D b) : At w' Z' b o u :=
  ⟨(World.cell?_of_block (hk.heap b hD)).trans h.1, fun ho => (World.frozen?_of_block (a := ⟨b, o, none⟩) (hk.heap b hD)).trans (h.2 (hk.own ho))⟩

theorem Row.keep {α : Type} {w w' : World} {Z Z' : Zn} {size : Nat} {E E' : α → List Value → Prop} {v : Value} {xs : List α} (h : Row w Z size E v xs) (hk : Kept Z Z' w w')
    (hE : ∀ x cs, E x cs → E' x cs) : Row w' Z' size E' v xs := by
  obtain ⟨h1, A, c, rfl, h2⟩ := h
  refine ⟨h1, A, c, rfl, fun hne => ?_⟩
  obtain ⟨b, off, rfl, hD, h3⟩ := h2 hne
  refine ⟨b, off, rfl, hk.D b hD, fun k x hx => ?_⟩
  obtain ⟨cs, hcs, h4⟩ := h3 k x hx
  exact ⟨cs, hE x cs hcs, fun j u hu => (h4 j u hu).keep hk hD⟩

structure MoveD where
  dst : Int
  src : Int
structure InsD where
  op : Int
  v : Int
  a : Int
  b : Int
structure EndD where
  k : Int
  a : Int
  t : Int
  l : Int
structure PhiD where
  v : Int
  args : List Int
structure BlockD where
  phis : List PhiD
  head : List MoveD
  body : List InsD
  tail : List MoveD
  fin : EndD
structure FunD where
  params : Int
  names : Int
  blocks : List BlockD

def EInt (x : Int) (cs : List Value) : Prop := cs = [.int .i64 x]
def EMove (m : MoveD) (cs : List Value) : Prop := cs = [.int .i64 m.dst, .int .i64 m.src]
def EIns (i : InsD) (cs : List Value) : Prop := cs = [.int .i64 i.op, .int .i64 i.v, .int .i64 i.a, .int .i64 i.b]
def EPhi (w : World) (Z : Zn) (p : PhiD) (cs : List Value) : Prop := ∃ v, cs = [.int .i64 p.v, v] ∧ Row w Z 1 EInt v p.args
def EBlock (w : World) (Z : Zn) (x : BlockD) (cs : List Value) : Prop :=
  ∃ v0 v1 v2 v3, cs = [v0, v1, v2, v3, .int .i64 x.fin.k, .int .i64 x.fin.a, .int .i64 x.fin.t, .int .i64 x.fin.l] ∧
    Row w Z 2 (EPhi w Z) v0 x.phis ∧ Row w Z 2 EMove v1 x.head ∧ Row w Z 4 EIns v2 x.body ∧ Row w Z 2 EMove v3 x.tail
def EFun (w : World) (Z : Zn) (f : FunD) (v : Value) : Prop := ∃ u, v = .agg #[.int .i64 f.params, .int .i64 f.names, u] ∧ Row w Z 8 (EBlock w Z) u f.blocks

theorem EPhi.keep {w w' : World} {Z Z' : Zn} {p : PhiD} {cs : List Value} (h : EPhi w Z p cs) (hk : Kept Z Z' w w') : EPhi w' Z' p cs := by
  obtain ⟨v, rfl, h1⟩ := h
  exact ⟨v, rfl, h1.keep hk fun _ _ h => h⟩
theorem EBlock.keep {w w' : World} {Z Z' : Zn} {x : BlockD} {cs : List Value} (h : EBlock w Z x cs) (hk : Kept Z Z' w w') : EBlock w' Z' x cs := by
  obtain ⟨v0, v1, v2, v3, rfl, h0, h1, h2, h3⟩ := h
  exact ⟨v0, v1, v2, v3, rfl, h0.keep hk fun _ _ h => h.keep hk, h1.keep hk fun _ _ h => h, h2.keep hk fun _ _ h => h, h3.keep hk fun _ _ h => h⟩
theorem EFun.keep {w w' : World} {Z Z' : Zn} {f : FunD} {v : Value} (h : EFun w Z f v) (hk : Kept Z Z' w w') : EFun w' Z' f v := by
  obtain ⟨u, rfl, h1⟩ := h
  exact ⟨u, rfl, h1.keep hk fun _ _ h => h.keep hk⟩

/-- Row g is filled with the first k of xs. -/
def Fill {α : Type} (w : World) (g : Nat) (T : TypeId) (size n k : Nat) (E : α → List Value → Prop) (xs : List α) : Prop :=
  ∃ cur : Array Value, w.heap[g]? = some (.cells cur T (0, 0)) ∧ cur.size = n * size ∧ ∀ j x, j < k → xs[j]? = some x → ∃ cs, E x cs ∧ ∀ i u, cs[i]? = some u → cur[j * size + i]? = some u

theorem Fill.row {α : Type} {w : World} {g : Nat} {T : TypeId} {size n : Nat} {E : α → List Value → Prop} {xs : List α} {Z : Zn} (h : Fill w g T size n n E xs) (hn : n = xs.length) (hm : n ≤ 9223372036854775807) (hZ : Z.D g) (c : Nat) :
    Row w Z size E (.slice (some ⟨g, 0, none⟩) n c) xs := by
  obtain ⟨cur, h1, h2, h3⟩ := h
  subst hn
  refine ⟨hm, _, c, rfl, fun _ => ⟨g, 0, rfl, hZ, fun k x hx => ?_⟩⟩
  obtain ⟨cs, hE, h4⟩ := h3 k x (List.getElem?_eq_some_iff.1 hx).1 hx
  refine ⟨cs, hE, fun j u hu => ⟨?_, fun _ => ?_⟩⟩
  · rw [Nat.zero_add]
    exact (cell_of_row w g _ cur T (0, 0) h1).trans (h4 j u hu)
  · simp [World.frozen?, h1]

/-- One element more. -/
theorem Fill.step {α : Type} {w w' : World} {g : Nat} {T : TypeId} {size n k : Nat} {E E' : α → List Value → Prop} {xs : List α} {x : α} {cs : List Value} (h : Fill w g T size n k E xs) (hx : xs[k]? = some x) (hE' : E' x cs)
    (hE : ∀ y ds, E y ds → E' y ds) (hs : ∀ y ds, E y ds → ds.length = size)
    (hw : ∀ cur, w.heap[g]? = some (.cells cur T (0, 0)) → cur.size = n * size → ∃ cur' : Array Value, w'.heap[g]? = some (.cells cur' T (0, 0)) ∧ cur'.size = cur.size ∧ (∀ i, i < k * size → cur'[i]? = cur[i]?) ∧ ∀ i u, cs[i]? = some u → cur'[k * size + i]? = some u) :
    Fill w' g T size n (k + 1) E' xs := by
  obtain ⟨cur, h1, h2, h3⟩ := h
  obtain ⟨cur', h1', h2', h3', h4'⟩ := hw cur h1 h2
  refine ⟨cur', h1', h2'.trans h2, fun j y hj hy => ?_⟩
  by_cases hjk : j = k
  · subst hjk
    rw [hx] at hy
    injection hy with hy
    subst hy
    exact ⟨cs, hE', h4'⟩
  · obtain ⟨ds, hd, h5⟩ := h3 j y (by omega) hy
    refine ⟨ds, hE y ds hd, fun i u hu => ?_⟩
    have hi : i < size := by
      rw [← hs y ds hd]; exact (List.getElem?_eq_some_iff.1 hu).1
    have hlt : j * size + i < k * size := by
      have : (j + 1) * size ≤ k * size := Nat.mul_le_mul_right _ (by omega)
      rw [Nat.add_mul, Nat.one_mul] at this
      omega
    rw [h3' _ hlt]
    exact h5 i u hu

theorem Fill.zero {α : Type} {w : World} {g : Nat} {T : TypeId} {size n : Nat} {E : α → List Value → Prop} {xs : List α} {cur : Array Value} (h1 : w.heap[g]? = some (.cells cur T (0, 0))) (h2 : cur.size = n * size) : Fill w g T size n 0 E xs :=
  ⟨cur, h1, h2, fun _ _ h => absurd h (by omega)⟩

theorem Fill.keep {α : Type} {w w' : World} {g : Nat} {T : TypeId} {size n k : Nat} {E E' : α → List Value → Prop} {xs : List α} (h : Fill w g T size n k E xs) (hw : w'.heap[g]? = w.heap[g]?) (hE : ∀ y ds, E y ds → E' y ds) : Fill w' g T size n k E' xs := by
  obtain ⟨cur, h1, h2, h3⟩ := h
  refine ⟨cur, hw.trans h1, h2, fun j y hj hy => ?_⟩
  obtain ⟨ds, hd, h5⟩ := h3 j y hj hy
  exact ⟨ds, hE y ds hd, h5⟩

/-- Cells of one row, written one behind the other. -/
def setAll (cur : Array Value) (o : Nat) : List Value → Array Value
  | [] => cur
  | u :: us => setAll (cur.setIfInBounds o u) (o + 1) us
theorem setAll_size : ∀ (us : List Value) (cur : Array Value) (o : Nat), (setAll cur o us).size = cur.size
  | [], _, _ => rfl
  | u :: us, cur, o => by rw [setAll, setAll_size us]; simp
theorem setAll_below : ∀ (us : List Value) (cur : Array Value) (o i : Nat), i < o → (setAll cur o us)[i]? = cur[i]?
  | [], _, _, _, _ => rfl
  | u :: us, cur, o, i, h => by
    rw [setAll, setAll_below us _ (o + 1) i (by omega), Array.getElem?_setIfInBounds, if_neg (by omega)]
theorem setAll_in : ∀ (us : List Value) (cur : Array Value) (o i : Nat) (u : Value), o + us.length ≤ cur.size → us[i]? = some u → (setAll cur o us)[o + i]? = some u
  | [], _, _, _, _, _, h => by simp at h
  | v :: us, cur, o, 0, u, hl, h => by
    simp only [List.getElem?_cons_zero, Option.some.injEq] at h
    subst h
    rw [setAll, setAll_below us _ (o + 1) (o + 0) (by omega), Array.getElem?_setIfInBounds]
    simp at hl ⊢
    omega
  | v :: us, cur, o, i + 1, u, hl, h => by
    rw [setAll, show o + (i + 1) = (o + 1) + i by omega]
    exact setAll_in us _ (o + 1) i u (by simp at hl ⊢; omega) (by simpa using h)

/-- Stores into row g, one behind the other. -/
def storeAll (w : World) (g o : Nat) : List Value → World
  | [] => w
  | u :: us => storeAll (w.setCell ⟨g, o, none⟩ u) g (o + 1) us
theorem storeAll_heap : ∀ (us : List Value) (w : World) (g o : Nat) (cur : Array Value) (T : TypeId), w.heap[g]? = some (.cells cur T (0, 0)) → (storeAll w g o us).heap[g]? = some (.cells (setAll cur o us) T (0, 0))
  | [], _, _, _, _, _, h => h
  | u :: us, w, g, o, cur, T, h => storeAll_heap us _ g (o + 1) _ T (heap_setCell_same w g o cur T u h)
theorem nblk_set (w : World) (a : Addr) (v : Value) : (w.setCell a v).heap.size = w.heap.size := by simp
theorem set_grown (w : World) (g o : Nat) (u : Value) : w.grownBy (w.setCell ⟨g, o, none⟩ u) (some g) :=
  ⟨rfl, rfl, rfl, by simp, fun k _ hne => Below.heap_setCell w ⟨g, o, none⟩ u k (fun e => hne (congrArg some e))⟩
theorem storeAll_grown : ∀ (us : List Value) (w : World) (g o : Nat), w.grownBy (storeAll w g o us) (some g)
  | [], w, _, _ => World.grownBy.refl w _
  | u :: us, w, g, o => World.grownBy.trans (set_grown w g o u) (storeAll_grown us _ g (o + 1))

theorem Fill.store {α : Type} {w : World} {g : Nat} {T : TypeId} {size n k : Nat} {E E' : α → List Value → Prop} {xs : List α} {x : α} {cs : List Value} (h : Fill w g T size n k E xs) (hx : xs[k]? = some x) (hk : k < n) (hE' : E' x cs) (hl : cs.length = size)
    (hE : ∀ y ds, E y ds → E' y ds) (hs : ∀ y ds, E y ds → ds.length = size) : Fill (storeAll w g (k * size) cs) g T size n (k + 1) E' xs := by
  refine h.step hx hE' hE hs fun cur h1 h2 => ⟨setAll cur (k * size) cs, storeAll_heap cs w g _ cur T h1, setAll_size _ _ _, fun i hi => setAll_below _ _ _ i hi, fun i u hu => setAll_in _ _ _ i u ?_ hu⟩
  rw [h2, hl]
  have : (k + 1) * size ≤ n * size := Nat.mul_le_mul_right _ (by omega)
  rw [Nat.add_mul, Nat.one_mul] at this
  omega

theorem Fill.cell {α : Type} {w : World} {g : Nat} {T : TypeId} {size n k : Nat} {E : α → List Value → Prop} {xs : List α} (h : Fill w g T size n k E xs) {m j : Nat} (hm : m < n) (hj : j < size) : ∃ u, w.cell? ⟨g, m * size + j, none⟩ = some u := by
  obtain ⟨cur, h1, h2, _⟩ := h
  have hlt : m * size + j < cur.size := by
    have : (m + 1) * size ≤ n * size := Nat.mul_le_mul_right _ (by omega)
    rw [Nat.add_mul, Nat.one_mul] at this
    omega
  exact ⟨cur[m * size + j], (cell_of_row w g _ cur T (0, 0) h1).trans (Array.getElem?_eq_getElem hlt)⟩
theorem Fill.frozen {α : Type} {w : World} {g : Nat} {T : TypeId} {size n k : Nat} {E : α → List Value → Prop} {xs : List α} (h : Fill w g T size n k E xs) (o : Nat) : w.frozen? ⟨g, o, none⟩ = false := by
  obtain ⟨cur, h1, _⟩ := h
  simp [World.frozen?, h1]

section
variable {P : Program}
theorem run_make_rowN (t e : TypeId) (i : TypeInfo) (z : Value) (ht : P.underlying t = some (.slice e)) (hi : P.info? e = some i) (hz : i.zero = some z)
    (kl kc : IntKind) (n c : Nat) (hnc : n ≤ c) (hbytes : i.bytes * c ≤ 281474976710656) (h63 : c ≤ 9223372036854775807) (w : World) :
    (Instr.makeSlice t (.int kl (n : Int)) (.int kc (c : Int))).run P w = .ok (.slice (some ⟨w.heap.size, 0, none⟩) n c) (w.alloc (.cells (madeCells z.cells (c * i.size)) e)) := by
  have hb : (i.bytes : Int) * (c : Int) ≤ 281474976710656 := by
    have h : ((i.bytes * c : Nat) : Int) ≤ 281474976710656 := by omega
    rwa [Int.natCast_mul] at h
  have hr := run_make (P := P) w t e i z ht hi hz kl kc n c (by omega) (by omega) hb (by omega)
  simp only [Int.toNat_natCast] at hr
  exact hr
end
end

/- EndOk and SuccsOf of both sides, and toEnd of the laws. -/
section
open Go.ChangeShapes Go.WideShapes Go.ChangeAt Go.RowKit Go.Joins

def isBelowB (n m : Int) : Bool := decide (0 ≤ n) && decide (n < m)

set_option maxHeartbeats 400000 in
theorem isBelow_any (n m : Int) (w : World) :
    Calls Try.prog 77 #[.int .i64 n, .int .i64 m] w fun e w' => e = .returned (.bool (isBelowB n m)) ∧ w = w' := by
  by_cases h0 : 0 ≤ n
  all_goals go_enter Try.func77, Try.ntmps77
  all_goals go_wp2
  all_goals go_ret
  all_goals exact ⟨by simp [isBelowB]; try omega, rfl⟩

set_option maxHeartbeats 400000 in
theorem isBlock_any (n : Int) (w : World) :
    Calls Try.prog 50 #[.int .i64 n] w fun e w' => e = .returned (.bool (isBelowB n 40)) ∧ w = w' := by
  go_enter Try.func50, Try.ntmps50
  go_wp2_with (go_at_call 77; refine (isBelow_any _ _ _).mono ?_; rintro e w' ⟨rfl, rfl⟩)
  go_ret
  exact ⟨rfl, rfl⟩

set_option maxHeartbeats 400000 in
theorem l2Block_any (n : Int) (w : World) :
    Calls Try.prog 52 #[.int .i64 n] w fun e w' => e = .returned (.bool (isBelowB n 40)) ∧ w = w' := by
  have h : (decide (0 ≤ n) && decide (n ≤ 39)) = isBelowB n 40 := by unfold isBelowB; congr 1; rw [decide_eq_decide]; omega
  go_enter Try.func52, Try.ntmps52
  go_wp2_with (go_at_call 83; refine (l1In_any _ _ _ _).mono ?_; rintro e w' ⟨rfl, rfl⟩)
  go_ret
  exact ⟨rfl, rfl⟩

/-- The End, as a value. -/
def vEnd (k a t l : Int) : Value := .agg #[.int .i64 k, .int .i64 a, .int .i64 t, .int .i64 l]

def endOkB (k a t l : Int) : Bool :=
  if k = 1 then isNameB a && (t == 0) && (l == 0)
  else if k = 2 then (a == 0) && isBelowB t 40 && (l == 0)
  else if k = 3 then isNameB a && isBelowB t 40 && isBelowB l 40 && (t != l)
  else false

set_option maxHeartbeats 400000 in
theorem EndOk_1 (a t l : Int) (w : World) :
    Calls Try.prog 12 #[.agg #[.int .i64 1, .int .i64 a, .int .i64 t, .int .i64 l]] w fun e w' => e = .returned (.bool (endOkB 1 a t l)) ∧ Below w.heap.size w w' := by
  cases ha : isNameB a <;> cases ht : (t == 0)
  all_goals go_enter Try.func12, Try.ntmps12
  all_goals go_wp2_with (go_at_call 49; refine (isName_any _ _).mono ?_; rintro e w' ⟨rfl, rfl⟩)
  all_goals go_ret
  all_goals exact ⟨by simp [endOkB, ha, ht], (Below.refl _ _).alloc (Nat.le_refl _) _⟩

set_option maxHeartbeats 400000 in
theorem EndOk_2 (a t l : Int) (w : World) :
    Calls Try.prog 12 #[.agg #[.int .i64 2, .int .i64 a, .int .i64 t, .int .i64 l]] w fun e w' => e = .returned (.bool (endOkB 2 a t l)) ∧ Below w.heap.size w w' := by
  cases ha : (a == 0) <;> cases ht : isBelowB t 40
  all_goals go_enter Try.func12, Try.ntmps12
  all_goals go_wp2_with (go_at_call 50; refine (isBlock_any _ _).mono ?_; rintro e w' ⟨rfl, rfl⟩)
  all_goals go_ret
  all_goals exact ⟨by simp [endOkB, ha, ht], (Below.refl _ _).alloc (Nat.le_refl _) _⟩

set_option maxHeartbeats 400000 in
theorem EndOk_3 (a t l : Int) (w : World) :
    Calls Try.prog 12 #[.agg #[.int .i64 3, .int .i64 a, .int .i64 t, .int .i64 l]] w fun e w' => e = .returned (.bool (endOkB 3 a t l)) ∧ Below w.heap.size w w' := by
  cases ha : isNameB a <;> cases ht : isBelowB t 40 <;> cases hl : isBelowB l 40
  all_goals go_enter Try.func12, Try.ntmps12
  all_goals go_wp2_with (first
    | (go_at_call 50; refine (isBlock_any _ _).mono ?_; rintro e w' ⟨rfl, rfl⟩)
    | (go_at_call 49; refine (isName_any _ _).mono ?_; rintro e w' ⟨rfl, rfl⟩))
  all_goals go_ret
  all_goals exact ⟨by simp [endOkB, ha, ht, hl], (Below.refl _ _).alloc (Nat.le_refl _) _⟩

set_option maxHeartbeats 400000 in
theorem EndOk_0 (k a t l : Int) (w : World) (h1 : (k == 1) = false) (h2 : (k == 2) = false) (h3 : (k == 3) = false) :
    Calls Try.prog 12 #[.agg #[.int .i64 k, .int .i64 a, .int .i64 t, .int .i64 l]] w fun e w' => e = .returned (.bool (endOkB k a t l)) ∧ Below w.heap.size w w' := by
  have hE : Hid (endOkB k a t l = false) := by
    unfold Hid endOkB
    rw [if_neg (by simpa using h1), if_neg (by simpa using h2), if_neg (by simpa using h3)]
  go_enter Try.func12, Try.ntmps12
  go_wp2
  go_ret
  exact ⟨by rw [hE.out]; rfl, (Below.refl _ _).alloc (Nat.le_refl _) _⟩

theorem EndOk_any (k a t l : Int) (w : World) :
    Calls Try.prog 12 #[vEnd k a t l] w fun e w' => e = .returned (.bool (endOkB k a t l)) ∧ Below w.heap.size w w' := by
  by_cases h1 : k = 1
  · subst h1; exact EndOk_1 a t l w
  by_cases h2 : k = 2
  · subst h2; exact EndOk_2 a t l w
  by_cases h3 : k = 3
  · subst h3; exact EndOk_3 a t l w
  exact EndOk_0 k a t l w (by simpa using h1) (by simpa using h2) (by simpa using h3)

set_option maxHeartbeats 400000 in
theorem sEndOk_1 (a t l : Int) (w : World) :
    Calls Try.prog 13 #[.agg #[.int .i64 1, .int .i64 a, .int .i64 t, .int .i64 l]] w fun e w' => e = .returned (.bool (endOkB 1 a t l)) ∧ Below w.heap.size w w' := by
  cases ha : isNameB a <;> cases ht : (t == 0)
  all_goals go_enter Try.func13, Try.ntmps13
  all_goals go_wp2_with (go_at_call 51; refine (l1Name_any _ _).mono ?_; rintro e w' ⟨rfl, rfl⟩)
  all_goals go_ret
  all_goals exact ⟨by simp [endOkB, ha, ht], (Below.refl _ _).alloc (Nat.le_refl _) _⟩

set_option maxHeartbeats 400000 in
theorem sEndOk_2 (a t l : Int) (w : World) :
    Calls Try.prog 13 #[.agg #[.int .i64 2, .int .i64 a, .int .i64 t, .int .i64 l]] w fun e w' => e = .returned (.bool (endOkB 2 a t l)) ∧ Below w.heap.size w w' := by
  cases ha : (a == 0) <;> cases ht : isBelowB t 40
  all_goals go_enter Try.func13, Try.ntmps13
  all_goals go_wp2_with (go_at_call 52; refine (l2Block_any _ _).mono ?_; rintro e w' ⟨rfl, rfl⟩)
  all_goals go_ret
  all_goals exact ⟨by simp [endOkB, ha, ht], (Below.refl _ _).alloc (Nat.le_refl _) _⟩

set_option maxHeartbeats 400000 in
theorem sEndOk_3 (a t l : Int) (w : World) :
    Calls Try.prog 13 #[.agg #[.int .i64 3, .int .i64 a, .int .i64 t, .int .i64 l]] w fun e w' => e = .returned (.bool (endOkB 3 a t l)) ∧ Below w.heap.size w w' := by
  cases ha : isNameB a <;> cases ht : isBelowB t 40 <;> cases hl : isBelowB l 40
  all_goals go_enter Try.func13, Try.ntmps13
  all_goals go_wp2_with (first
    | (go_at_call 52; refine (l2Block_any _ _).mono ?_; rintro e w' ⟨rfl, rfl⟩)
    | (go_at_call 51; refine (l1Name_any _ _).mono ?_; rintro e w' ⟨rfl, rfl⟩))
  all_goals go_ret
  all_goals exact ⟨by simp [endOkB, ha, ht, hl], (Below.refl _ _).alloc (Nat.le_refl _) _⟩

set_option maxHeartbeats 400000 in
theorem sEndOk_0 (k a t l : Int) (w : World) (h1 : (k == 1) = false) (h2 : (k == 2) = false) (h3 : (k == 3) = false) :
    Calls Try.prog 13 #[.agg #[.int .i64 k, .int .i64 a, .int .i64 t, .int .i64 l]] w fun e w' => e = .returned (.bool (endOkB k a t l)) ∧ Below w.heap.size w w' := by
  have hE : Hid (endOkB k a t l = false) := by
    unfold Hid endOkB
    rw [if_neg (by simpa using h1), if_neg (by simpa using h2), if_neg (by simpa using h3)]
  go_enter Try.func13, Try.ntmps13
  go_wp2
  go_ret
  exact ⟨by rw [hE.out]; rfl, (Below.refl _ _).alloc (Nat.le_refl _) _⟩

theorem sEndOk_any (k a t l : Int) (w : World) :
    Calls Try.prog 13 #[vEnd k a t l] w fun e w' => e = .returned (.bool (endOkB k a t l)) ∧ Below w.heap.size w w' := by
  by_cases h1 : k = 1
  · subst h1; exact sEndOk_1 a t l w
  by_cases h2 : k = 2
  · subst h2; exact sEndOk_2 a t l w
  by_cases h3 : k = 3
  · subst h3; exact sEndOk_3 a t l w
  exact sEndOk_0 k a t l w (by simpa using h1) (by simpa using h2) (by simpa using h3)

/-- The targets of an End, whatever else is in it. -/
def toL (k t l : Int) : List Int := if k = 2 then [t] else if k = 3 then [t, l] else []
def succsL (k a t l : Int) : List Int := if endOkB k a t l = true then toL k t l else []
theorem toL_len (k t l : Int) : (toL k t l).length ≤ 2 := by unfold toL; split <;> (try split) <;> simp
theorem succsL_len (k a t l : Int) : (succsL k a t l).length ≤ 2 := by
  unfold succsL; split
  · exact toL_len k t l
  · simp

/-- A call that gives a slice of int64 of its own. -/
def GivesI (xs : List Int) (w : World) (e : Ending) (w' : World) : Prop := ∃ r, e = .returned r ∧ OI w' w.heap.size r xs ∧ Below w.heap.size w w'

set_option maxHeartbeats 400000 in
theorem SuccsOf_bad (k a t l : Int) (w : World) (hok : endOkB k a t l = false) :
    Calls Try.prog 15 #[.agg #[.int .i64 k, .int .i64 a, .int .i64 t, .int .i64 l]] w (GivesI [] w) := by
  go_enter Try.func15, Try.ntmps15
  go_wp2_with (go_at_call 12; refine (EndOk_any _ _ _ _ _).mono ?_; rintro e w1 ⟨rfl, hb1⟩; obtain ⟨hc1, hf1⟩ := bcell hb1; have hz1 : w.heap.size < w1.heap.size := (by have := hb1.size; simp at this; omega))
  go_ret
  exact ⟨_, rfl, OI_lit0 _ rfl (by omega), below1 hb1⟩

set_option maxHeartbeats 400000 in
theorem SuccsOf_1 (a t l : Int) (w : World) (hok : endOkB 1 a t l = true) :
    Calls Try.prog 15 #[.agg #[.int .i64 1, .int .i64 a, .int .i64 t, .int .i64 l]] w (GivesI [] w) := by
  go_enter Try.func15, Try.ntmps15
  go_wp2_with (go_at_call 12; refine (EndOk_any _ _ _ _ _).mono ?_; rintro e w1 ⟨rfl, hb1⟩; obtain ⟨hc1, hf1⟩ := bcell hb1; have hz1 : w.heap.size < w1.heap.size := (by have := hb1.size; simp at this; omega))
  go_ret
  exact ⟨_, rfl, OI_lit0 _ rfl (by omega), below1 hb1⟩

set_option maxHeartbeats 400000 in
theorem SuccsOf_2 (a t l : Int) (w : World) (hok : endOkB 2 a t l = true) :
    Calls Try.prog 15 #[.agg #[.int .i64 2, .int .i64 a, .int .i64 t, .int .i64 l]] w (GivesI [t] w) := by
  go_enter Try.func15, Try.ntmps15
  go_wp2_with (go_at_call 12; refine (EndOk_any _ _ _ _ _).mono ?_; rintro e w1 ⟨rfl, hb1⟩; obtain ⟨hc1, hf1⟩ := bcell hb1; have hz1 : w.heap.size < w1.heap.size := (by have := hb1.size; simp at this; omega))
  go_ret
  exact ⟨_, rfl, OI_lit1 _ _ rfl (by omega), below1 hb1⟩

set_option maxHeartbeats 400000 in
theorem SuccsOf_3 (a t l : Int) (w : World) (hok : endOkB 3 a t l = true) :
    Calls Try.prog 15 #[.agg #[.int .i64 3, .int .i64 a, .int .i64 t, .int .i64 l]] w (GivesI [t, l] w) := by
  go_enter Try.func15, Try.ntmps15
  go_wp2_with (go_at_call 12; refine (EndOk_any _ _ _ _ _).mono ?_; rintro e w1 ⟨rfl, hb1⟩; obtain ⟨hc1, hf1⟩ := bcell hb1; have hz1 : w.heap.size < w1.heap.size := (by have := hb1.size; simp at this; omega))
  go_ret
  exact ⟨_, rfl, OI_lit2 _ _ _ rfl (by omega), below1 hb1⟩

theorem endOk_range {k a t l : Int} (h : endOkB k a t l = true) : k = 1 ∨ k = 2 ∨ k = 3 := by
  unfold endOkB at h
  by_cases h1 : k = 1
  · exact .inl h1
  by_cases h2 : k = 2
  · exact .inr (.inl h2)
  by_cases h3 : k = 3
  · exact .inr (.inr h3)
  rw [if_neg h1, if_neg h2, if_neg h3] at h
  cases h

theorem SuccsOf_any (k a t l : Int) (w : World) :
    Calls Try.prog 15 #[vEnd k a t l] w (GivesI (succsL k a t l) w) := by
  cases hok : endOkB k a t l
  · have e : succsL k a t l = [] := by simp [succsL, hok]
    rw [e]; exact SuccsOf_bad k a t l w hok
  · have e : succsL k a t l = toL k t l := by simp [succsL, hok]
    rw [e]
    rcases endOk_range hok with rfl | rfl | rfl
    · exact SuccsOf_1 a t l w hok
    · exact SuccsOf_2 a t l w hok
    · exact SuccsOf_3 a t l w hok

set_option maxHeartbeats 400000 in
theorem l2Succs_2 (a t l : Int) (w : World) :
    Calls Try.prog 53 #[.agg #[.int .i64 2, .int .i64 a, .int .i64 t, .int .i64 l]] w (GivesI [t] w) := by
  go_enter Try.func53, Try.ntmps53
  go_wp2
  go_ret
  refine ⟨_, rfl, ?_, ((Below.refl _ _).alloc (Nat.le_refl _) _).alloc (by simp) _⟩
  exact OI_lit1 (w.alloc _) _ (by simp) (by omega)

set_option maxHeartbeats 400000 in
theorem l2Succs_3 (a t l : Int) (w : World) :
    Calls Try.prog 53 #[.agg #[.int .i64 3, .int .i64 a, .int .i64 t, .int .i64 l]] w (GivesI [t, l] w) := by
  go_enter Try.func53, Try.ntmps53
  go_wp2
  go_ret
  refine ⟨_, rfl, ?_, ((Below.refl _ _).alloc (Nat.le_refl _) _).alloc (by simp) _⟩
  exact OI_lit2 (w.alloc _) _ _ (by simp) (by omega)

set_option maxHeartbeats 400000 in
theorem l2Succs_0 (k a t l : Int) (w : World) (h2 : (k == 2) = false) (h3 : (k == 3) = false) :
    Calls Try.prog 53 #[.agg #[.int .i64 k, .int .i64 a, .int .i64 t, .int .i64 l]] w (GivesI [] w) := by
  go_enter Try.func53, Try.ntmps53
  go_wp2
  go_ret
  refine ⟨_, rfl, ?_, ((Below.refl _ _).alloc (Nat.le_refl _) _).alloc (by simp) _⟩
  exact OI_lit0 (w.alloc _) (by simp) (by omega)

theorem l2Succs_any (k a t l : Int) (w : World) :
    Calls Try.prog 53 #[vEnd k a t l] w (GivesI (toL k t l) w) := by
  by_cases h2 : k = 2
  · subst h2; exact l2Succs_2 a t l w
  by_cases h3 : k = 3
  · subst h3; exact l2Succs_3 a t l w
  have e : toL k t l = [] := by unfold toL; rw [if_neg h2, if_neg h3]
  rw [e]
  exact l2Succs_0 k a t l w (by simpa using h2) (by simpa using h3)

set_option maxHeartbeats 400000 in
theorem sSuccsOf_any (k a t l : Int) (w : World) :
    Calls Try.prog 16 #[.agg #[.int .i64 k, .int .i64 a, .int .i64 t, .int .i64 l]] w (GivesI (succsL k a t l) w) := by
  cases hok : endOkB k a t l
  · have HE : Hid (succsL k a t l = []) := by simp [Hid, succsL, hok]
    go_enter Try.func16, Try.ntmps16
    go_wp2_with (go_at_call 13; refine (sEndOk_any _ _ _ _ _).mono ?_; rintro e w1 ⟨rfl, hb1⟩; obtain ⟨hc1, hf1⟩ := bcell hb1; have hz1 : w.heap.size < w1.heap.size := (by have := hb1.size; simp at this; omega))
    go_ret
    exact ⟨_, rfl, by rw [HE.out]; exact OI_lit0 _ rfl (by omega), below1 hb1⟩
  · have HE : Hid (succsL k a t l = toL k t l) := by simp [Hid, succsL, hok]
    go_enter Try.func16, Try.ntmps16
    go_wp2_with (first | (go_at_call 13; refine (sEndOk_any _ _ _ _ _).mono ?_; rintro e w1 ⟨rfl, hb1⟩; obtain ⟨hc1, hf1⟩ := bcell hb1; have hz1 : w.heap.size < w1.heap.size := (by have := hb1.size; simp at this; omega)) | (go_at_call 53; refine (l2Succs_any _ _ _ _ _).mono ?_; rintro e w2 ⟨r, rfl, hr, hb2⟩))
    go_ret
    refine ⟨_, rfl, World.ownsRow.mono (by rw [HE.out]; exact hr) (by omega), ?_⟩
    exact (((Below.refl _ _).alloc (Nat.le_refl _) _).trans (hb1.mono (by simp))).trans (hb2.mono (by omega))

set_option maxHeartbeats 400000 in
theorem toEnd_any (k a t l : Int) (w : World) :
    Calls Try.prog 106 #[.agg #[.int .i64 k, .int .i64 a, .int .i64 t, .int .i64 l]] w fun e w' => e = .returned (vEnd k a t l) ∧ Below w.heap.size w w' := by
  go_enter Try.func106, Try.ntmps106
  go_wp2
  refine bodyPost_ret (v := .agg #[.int .i64 k, .int .i64 a, .int .i64 t, .int .i64 l]) (by simp [results, Try.results106, go_sem]) rfl ⟨rfl, ?_⟩
  repeat (first | exact Below.refl _ _ | refine Below.alloc ?_ (by first | (simp; done) | (simp; omega)) _ | refine Below.setCell ?_ (by simp) _)
end

/- What a right function is, in plain words; and the small functions of both sides on moves. -/
section
open Go.ChangeShapes Go.WideShapes Go.ChangeAt Go.RowKit Go.Joins

def InsP (names : Int) (i : InsD) : Prop := insOkB i.op i.v i.a i.b = true ∧ i.v < names ∧ ∀ u ∈ usesL i.op i.v i.a i.b, u < names
def BodyP (names : Int) (l : List InsD) : Prop := l.length ≤ 80 ∧ ∀ (j : Nat) i, l[j]? = some i → InsP names i
def MoveP (names : Int) (m : MoveD) : Prop := isBelowB m.dst names = true ∧ isBelowB m.src names = true
def MovesP (names : Int) (l : List MoveD) : Prop := l.length ≤ 40 ∧ (∀ (j : Nat) m, l[j]? = some m → MoveP names m) ∧ ∀ (i k : Nat) m m', k < i → l[i]? = some m → l[k]? = some m' → m'.dst ≠ m.dst
def PhiP (names : Int) (preds : Nat) (p : PhiD) : Prop := isBelowB p.v names = true ∧ p.args.length = preds ∧ ∀ (j : Nat) a, p.args[j]? = some a → isBelowB a names = true
def PhisP (names : Int) (preds : Nat) (l : List PhiD) : Prop := l.length ≤ 4 ∧ ∀ (j : Nat) p, l[j]? = some p → PhiP names preds p
def EndP (names : Int) (blocks : Nat) (e : EndD) : Prop := endOkB e.k e.a e.t e.l = true ∧ (e.k = 2 ∨ e.a < names) ∧ e.t < blocks ∧ e.l < blocks
def BlockP (names : Int) (blocks : Nat) (x : BlockD) : Prop := EndP names blocks x.fin ∧ MovesP names x.head ∧ MovesP names x.tail ∧ BodyP names x.body
def FrameP (f : FunD) : Prop := (1 ≤ f.blocks.length ∧ f.blocks.length ≤ 40) ∧ (0 ≤ f.names ∧ f.names ≤ 150) ∧ (0 ≤ f.params ∧ f.params ≤ 6) ∧ f.params ≤ f.names ∧ ∀ (j : Nat) x, f.blocks[j]? = some x → BlockP f.names f.blocks.length x

/-- Is j in the list? -/
def hasB (xs : List Int) (j : Int) : Bool := decide (j ∈ xs)
theorem hasB_iff {xs : List Int} {j : Int} : hasB xs j = true ↔ j ∈ xs := by simp [hasB]

/-- Is j a target of the i-th block? -/
def hasT (g : EndD → List Int) (xs : List BlockD) (j : Int) (i : Nat) : Bool :=
  match xs[i]? with
  | some x => hasB (g x.fin) j
  | none => false
/-- The first k blocks of which j is a target. -/
def predsK (g : EndD → List Int) (xs : List BlockD) (k : Nat) (j : Int) : List Int := ((List.range k).filter (hasT g xs j)).map fun (i : Nat) => (i : Int)
def toE (e : EndD) : List Int := toL e.k e.t e.l
def succsE (e : EndD) : List Int := succsL e.k e.a e.t e.l
def predsF (f : FunD) (j : Int) : List Int := predsK toE f.blocks f.blocks.length j
def FunP (f : FunD) : Prop := FrameP f ∧ predsF f 0 = [] ∧ (∀ x, f.blocks[0]? = some x → x.phis = []) ∧ ∀ (i : Nat) x, f.blocks[i]? = some x → PhisP f.names (predsF f i).length x.phis

theorem predsK_zero (g : EndD → List Int) (xs : List BlockD) (j : Int) : predsK g xs 0 j = [] := rfl
theorem predsK_succ (g : EndD → List Int) {xs : List BlockD} {k : Nat} {x : BlockD} (j : Int) (h : xs[k]? = some x) : predsK g xs (k + 1) j = predsK g xs k j ++ if hasB (g x.fin) j then [(k : Int)] else [] := by
  unfold predsK
  rw [List.range_succ, List.filter_append, List.map_append]
  congr 1
  have e : hasT g xs j k = hasB (g x.fin) j := by unfold hasT; rw [h]
  by_cases hc : hasB (g x.fin) j = true
  · rw [List.filter_cons_of_pos (by rw [e]; exact hc), if_pos hc]; rfl
  · rw [List.filter_cons_of_neg (by rw [e]; exact hc), if_neg hc]; rfl
theorem predsK_len (g : EndD → List Int) (xs : List BlockD) (k : Nat) (j : Int) : (predsK g xs k j).length ≤ k := by
  unfold predsK
  rw [List.length_map]
  exact Nat.le_trans (List.length_filter_le _ _) (by simp)
/-- Where the ends are right it is all one whether they are asked. -/
theorem predsK_congr {g h : EndD → List Int} {xs : List BlockD} (hg : ∀ (i : Nat) x, xs[i]? = some x → g x.fin = h x.fin) (k : Nat) (j : Int) : predsK g xs k j = predsK h xs k j := by
  unfold predsK
  congr 2
  funext i
  unfold hasT
  cases hx : xs[i]? with
  | none => rfl
  | some x =>
    show hasB (g x.fin) j = hasB (h x.fin) j
    rw [hg i x hx]

/-- The call answers whether P, and old memory stays. -/
def GivesB (P : Prop) (w : World) (e : Ending) (w' : World) : Prop := ∃ b : Bool, e = .returned (.bool b) ∧ (b = true ↔ P) ∧ Below w.heap.size w w'
theorem gives_yes {P : Prop} {w w' : World} (h : P) (hb : Below w.heap.size w w') : GivesB P w (.returned (.bool true)) w' := ⟨true, rfl, by simpa using h, hb⟩
theorem gives_no {P : Prop} {w w' : World} (h : ¬ P) (hb : Below w.heap.size w w') : GivesB P w (.returned (.bool false)) w' := ⟨false, rfl, by simpa using h, hb⟩

theorem hasB_snoc (xs : List Int) (j : Int) (k : Nat) (x : Int) (h : xs[k]? = some x) (hk : ∀ i, i < k → xs[i]? ≠ some j) : (hasB xs j = true ∧ x = j) ∨ (x ≠ j ∧ ∀ i, i < k + 1 → xs[i]? ≠ some j) := by
  by_cases hx : x = j
  · exact .inl ⟨by rw [hasB_iff]; subst hx; exact List.mem_of_getElem? h, hx⟩
  · refine .inr ⟨hx, fun i hi => ?_⟩
    by_cases hik : i = k
    · subst hik; rw [h]; intro e; exact hx (Option.some.inj e)
    · exact hk i (by omega)
theorem not_hasB {xs : List Int} {j : Int} (h : ∀ i, i < xs.length → xs[i]? ≠ some j) : hasB xs j = false := by
  cases hc : hasB xs j with
  | false => rfl
  | true =>
    rw [hasB_iff] at hc
    obtain ⟨i, hi⟩ := List.mem_iff_getElem?.1 hc
    exact absurd hi (h i (List.getElem?_eq_some_iff.1 hi).1)

set_option maxHeartbeats 400000 in
theorem l1Has_any (v : Value) (xs : List Int) (j : Int) (w : World) (hv : RI w v xs) :
    Calls Try.prog 86 #[v, .int .i64 j] w fun e w' => e = .returned (.bool (hasB xs j)) ∧ w = w' := by
  obtain ⟨hl, A, c, rfl, hx⟩ := hv
  go_enter Try.func86, Try.ntmps86
  go_wp2
  go_loop [5] (fun i => ∃ k : Nat, k ≤ xs.length ∧ i = .int .i64 k ∧ Hid (∀ i, i < k → xs[i]? ≠ some j)) (fun i => xs.length - (intOf i).toNat)
  case atStart => exact ⟨0, Nat.zero_le _, rfl, fun i hi => absurd hi (by omega)⟩
  case round =>
    obtain ⟨k, hk, rfl, HN⟩ := hrel
    by_cases hlt : k < xs.length
    · have hxk : xs[k]? = some xs[k] := List.getElem?_eq_getElem hlt
      generalize xs[k] = x at hxk
      obtain ⟨b, off, rfl, hx'⟩ := hx (by rintro rfl; simp at hlt)
      have hc := hx' k _ hxk
      have hs := hasB_snoc xs j k x hxk HN.out
      clear hx hx' hxk
      rcases hs with ⟨hs, rfl⟩ | ⟨hs, hn⟩
      · have HS := Lib.hid hs
        clear hs
        go_wp2
        go_ret
        exact ⟨by rw [HS.out]; rfl, rfl⟩
      · have hb : (x == j) = false := by simpa using hs
        have HN' := Lib.hid hn
        clear hs hn
        go_wp2
        go_round
        case rel => exact ⟨k + 1, by omega, by go_num, HN'⟩
        case measure => simp [intOf]; omega
    · obtain rfl : k = xs.length := by omega
      have HS := Lib.hid (not_hasB HN.out)
      go_wp2
      go_ret
      exact ⟨by rw [HS.out]; rfl, rfl⟩

set_option maxHeartbeats 400000 in
theorem l1In_below (n names : Int) (w : World) :
    Calls Try.prog 83 #[.int .i64 n, .int .i64 0, .int .i64 (names - 1)] w fun e w' => e = .returned (.bool (isBelowB n names)) ∧ w = w' := by
  have h : (decide (0 ≤ n) && decide (n ≤ names - 1)) = isBelowB n names := by unfold isBelowB; congr 1; rw [decide_eq_decide]; omega
  rw [← h]
  exact l1In_any n 0 (names - 1) w
end

end Go.Proofs.Yteikpekffgifoaa
