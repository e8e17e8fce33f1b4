/- UsesOf and its model answer the same names. -/
import Derived.Test.YtbghcoihndlihaaInts
import Derived.Test.YtbghcoihndlihaaToIns
import Derived.Deep.Onto
namespace Go.Proofs.Ytbghcoihndlihaa
open Go.ChangeShapes Go.WideShapes Go.ChangeAt Go.RowKit Go.Joins

def usesL (o v a b : Int) : List Int := if insOkB o v a b = true then (if o = 1 then [] else if 3 ≤ o ∧ o ≤ 6 then [a, b] else [a]) else []

theorem OI_lit0 (w : World) {B g : Nat} (hg : w.heap.size = g) (hB : B ≤ g) : OI (w.alloc (.cells #[] 2)) B (.slice (some ⟨g, 0, none⟩) 0 0) [] := by
  subst hg
  exact World.ownsRow_lit (base := B) (e := 2) (size := 1) w #[] 0 hB (by simp) rfl
theorem OI_lit1 (w : World) (a : Int) {B g : Nat} (hg : w.heap.size = g) (hB : B ≤ g) : OI (w.alloc (.cells #[.int .i64 a] 2)) B (.slice (some ⟨g, 0, none⟩) 1 1) [a] := by
  subst hg
  exact World.ownsRow_lit (base := B) (e := 2) (size := 1) w #[.int .i64 a] 1 hB (by rw [maxLen_is]; omega) rfl
theorem OI_lit2 (w : World) (a b : Int) {B g : Nat} (hg : w.heap.size = g) (hB : B ≤ g) : OI (w.alloc (.cells #[.int .i64 a, .int .i64 b] 2)) B (.slice (some ⟨g, 0, none⟩) 2 2) [a, b] := by
  subst hg
  exact World.ownsRow_lit (base := B) (e := 2) (size := 1) w #[.int .i64 a, .int .i64 b] 2 hB (by rw [maxLen_is]; omega) rfl

theorem below1 {w w1 : World} {o o' : Obj} (hb : Below (w.alloc o).heap.size (w.alloc o) w1) : Below w.heap.size w (w1.alloc o') :=
  (((Below.refl _ _).alloc (Nat.le_refl _) _).trans (hb.mono (by simp))).alloc (by have := hb.size; simp at this; omega) _

set_option maxHeartbeats 400000 in
theorem UsesOf_bad (o v a b : Int) (w : World) (hok : insOkB o v a b = false) :
    Calls Try.prog 48 #[.agg #[.int .i64 o, .int .i64 v, .int .i64 a, .int .i64 b]] w fun e w' => ∃ r, e = .returned r ∧ OI w' w.heap.size r (usesL o v a b) ∧ Below w.heap.size w w' := by
  have HE : Hid (usesL o v a b = []) := by simp [Hid, usesL, hok]
  go_enter Try.func48, Try.ntmps48
  go_wp2_with (go_at_call 74; refine (InsOk_any _ _ _ _ _).mono ?_; rintro e w1 ⟨rfl, hb1⟩; obtain ⟨hc1, hf1⟩ := bcell hb1; have hz1 : w.heap.size < w1.heap.size := (by have := hb1.size; simp at this; omega))
  go_ret
  exact ⟨_, rfl, by rw [HE.out]; exact OI_lit0 _ rfl (by omega), below1 hb1⟩

set_option maxHeartbeats 400000 in
theorem UsesOf_1 (v a b : Int) (w : World) (hok : insOkB 1 v a b = true) :
    Calls Try.prog 48 #[.agg #[.int .i64 1, .int .i64 v, .int .i64 a, .int .i64 b]] w fun e w' => ∃ r, e = .returned r ∧ OI w' w.heap.size r (usesL 1 v a b) ∧ Below w.heap.size w w' := by
  have HE : Hid (usesL 1 v a b = []) := by simp [Hid, usesL, hok]
  go_enter Try.func48, Try.ntmps48
  go_wp2_with (go_at_call 74; refine (InsOk_any _ _ _ _ _).mono ?_; rintro e w1 ⟨rfl, hb1⟩; obtain ⟨hc1, hf1⟩ := bcell hb1; have hz1 : w.heap.size < w1.heap.size := (by have := hb1.size; simp at this; omega))
  go_ret
  exact ⟨_, rfl, by rw [HE.out]; exact OI_lit0 _ rfl (by omega), below1 hb1⟩

set_option maxHeartbeats 400000 in
theorem UsesOf_2 (v a b : Int) (w : World) (hok : insOkB 2 v a b = true) :
    Calls Try.prog 48 #[.agg #[.int .i64 2, .int .i64 v, .int .i64 a, .int .i64 b]] w fun e w' => ∃ r, e = .returned r ∧ OI w' w.heap.size r (usesL 2 v a b) ∧ Below w.heap.size w w' := by
  have HE : Hid (usesL 2 v a b = [a]) := by simp [Hid, usesL, hok]
  go_enter Try.func48, Try.ntmps48
  go_wp2_with (go_at_call 74; refine (InsOk_any _ _ _ _ _).mono ?_; rintro e w1 ⟨rfl, hb1⟩; obtain ⟨hc1, hf1⟩ := bcell hb1; have hz1 : w.heap.size < w1.heap.size := (by have := hb1.size; simp at this; omega))
  go_ret
  exact ⟨_, rfl, by rw [HE.out]; exact OI_lit1 _ _ rfl (by omega), below1 hb1⟩

set_option maxHeartbeats 400000 in
theorem UsesOf_3 (v a b : Int) (w : World) (hok : insOkB 3 v a b = true) :
    Calls Try.prog 48 #[.agg #[.int .i64 3, .int .i64 v, .int .i64 a, .int .i64 b]] w fun e w' => ∃ r, e = .returned r ∧ OI w' w.heap.size r (usesL 3 v a b) ∧ Below w.heap.size w w' := by
  have HE : Hid (usesL 3 v a b = [a, b]) := by simp [Hid, usesL, hok]
  go_enter Try.func48, Try.ntmps48
  go_wp2_with (go_at_call 74; refine (InsOk_any _ _ _ _ _).mono ?_; rintro e w1 ⟨rfl, hb1⟩; obtain ⟨hc1, hf1⟩ := bcell hb1; have hz1 : w.heap.size < w1.heap.size := (by have := hb1.size; simp at this; omega))
  go_ret
  exact ⟨_, rfl, by rw [HE.out]; exact OI_lit2 _ _ _ rfl (by omega), below1 hb1⟩

set_option maxHeartbeats 400000 in
theorem UsesOf_4 (v a b : Int) (w : World) (hok : insOkB 4 v a b = true) :
    Calls Try.prog 48 #[.agg #[.int .i64 4, .int .i64 v, .int .i64 a, .int .i64 b]] w fun e w' => ∃ r, e = .returned r ∧ OI w' w.heap.size r (usesL 4 v a b) ∧ Below w.heap.size w w' := by
  have HE : Hid (usesL 4 v a b = [a, b]) := by simp [Hid, usesL, hok]
  go_enter Try.func48, Try.ntmps48
  go_wp2_with (go_at_call 74; refine (InsOk_any _ _ _ _ _).mono ?_; rintro e w1 ⟨rfl, hb1⟩; obtain ⟨hc1, hf1⟩ := bcell hb1; have hz1 : w.heap.size < w1.heap.size := (by have := hb1.size; simp at this; omega))
  go_ret
  exact ⟨_, rfl, by rw [HE.out]; exact OI_lit2 _ _ _ rfl (by omega), below1 hb1⟩

set_option maxHeartbeats 400000 in
theorem UsesOf_5 (v a b : Int) (w : World) (hok : insOkB 5 v a b = true) :
    Calls Try.prog 48 #[.agg #[.int .i64 5, .int .i64 v, .int .i64 a, .int .i64 b]] w fun e w' => ∃ r, e = .returned r ∧ OI w' w.heap.size r (usesL 5 v a b) ∧ Below w.heap.size w w' := by
  have HE : Hid (usesL 5 v a b = [a, b]) := by simp [Hid, usesL, hok]
  go_enter Try.func48, Try.ntmps48
  go_wp2_with (go_at_call 74; refine (InsOk_any _ _ _ _ _).mono ?_; rintro e w1 ⟨rfl, hb1⟩; obtain ⟨hc1, hf1⟩ := bcell hb1; have hz1 : w.heap.size < w1.heap.size := (by have := hb1.size; simp at this; omega))
  go_ret
  exact ⟨_, rfl, by rw [HE.out]; exact OI_lit2 _ _ _ rfl (by omega), below1 hb1⟩

set_option maxHeartbeats 400000 in
theorem UsesOf_6 (v a b : Int) (w : World) (hok : insOkB 6 v a b = true) :
    Calls Try.prog 48 #[.agg #[.int .i64 6, .int .i64 v, .int .i64 a, .int .i64 b]] w fun e w' => ∃ r, e = .returned r ∧ OI w' w.heap.size r (usesL 6 v a b) ∧ Below w.heap.size w w' := by
  have HE : Hid (usesL 6 v a b = [a, b]) := by simp [Hid, usesL, hok]
  go_enter Try.func48, Try.ntmps48
  go_wp2_with (go_at_call 74; refine (InsOk_any _ _ _ _ _).mono ?_; rintro e w1 ⟨rfl, hb1⟩; obtain ⟨hc1, hf1⟩ := bcell hb1; have hz1 : w.heap.size < w1.heap.size := (by have := hb1.size; simp at this; omega))
  go_ret
  exact ⟨_, rfl, by rw [HE.out]; exact OI_lit2 _ _ _ rfl (by omega), below1 hb1⟩

set_option maxHeartbeats 400000 in
theorem UsesOf_7 (v a b : Int) (w : World) (hok : insOkB 7 v a b = true) :
    Calls Try.prog 48 #[.agg #[.int .i64 7, .int .i64 v, .int .i64 a, .int .i64 b]] w fun e w' => ∃ r, e = .returned r ∧ OI w' w.heap.size r (usesL 7 v a b) ∧ Below w.heap.size w w' := by
  have HE : Hid (usesL 7 v a b = [a]) := by simp [Hid, usesL, hok]
  go_enter Try.func48, Try.ntmps48
  go_wp2_with (go_at_call 74; refine (InsOk_any _ _ _ _ _).mono ?_; rintro e w1 ⟨rfl, hb1⟩; obtain ⟨hc1, hf1⟩ := bcell hb1; have hz1 : w.heap.size < w1.heap.size := (by have := hb1.size; simp at this; omega))
  go_ret
  exact ⟨_, rfl, by rw [HE.out]; exact OI_lit1 _ _ rfl (by omega), below1 hb1⟩

theorem ok_range {o v a b : Int} (h : insOkB o v a b = true) : 1 ≤ o ∧ o ≤ 7 := by
  unfold insOkB at h
  by_cases h1 : o = 1
  · omega
  by_cases h2 : o = 2
  · omega
  by_cases h3 : 3 ≤ o ∧ o ≤ 6
  · omega
  by_cases h7 : o = 7
  · omega
  rw [if_neg h1, if_neg h2, if_neg h3, if_neg h7] at h
  cases h

theorem UsesOf_any (o v a b : Int) (w : World) :
    Calls Try.prog 48 #[.agg #[.int .i64 o, .int .i64 v, .int .i64 a, .int .i64 b]] w fun e w' => ∃ r, e = .returned r ∧ OI w' w.heap.size r (usesL o v a b) ∧ Below w.heap.size w w' := by
  cases hok : insOkB o v a b
  · exact UsesOf_bad o v a b w hok
  · obtain ⟨h1, h7⟩ := ok_range hok
    have : o = 1 ∨ o = 2 ∨ o = 3 ∨ o = 4 ∨ o = 5 ∨ o = 6 ∨ o = 7 := by omega
    rcases this with rfl | rfl | rfl | rfl | rfl | rfl | rfl
    · exact UsesOf_1 v a b w hok
    · exact UsesOf_2 v a b w hok
    · exact UsesOf_3 v a b w hok
    · exact UsesOf_4 v a b w hok
    · exact UsesOf_5 v a b w hok
    · exact UsesOf_6 v a b w hok
    · exact UsesOf_7 v a b w hok

set_option maxHeartbeats 400000 in
theorem l1Uses_1 (v a b : Int) (w : World) :
    Calls Try.prog 43 #[.agg #[.int .i64 1, .int .i64 v, .int .i64 a, .int .i64 b]] w fun e w' => ∃ r, e = .returned r ∧ OI w' w.heap.size r [] ∧ Below w.heap.size w w' := by
  go_enter Try.func43, Try.ntmps43
  go_wp2
  go_ret
  refine ⟨_, rfl, ?_, ((Below.refl _ _).alloc (Nat.le_refl _) _).alloc (by simp) _⟩
  exact OI_lit0 (w.alloc _) (by simp) (by omega)

set_option maxHeartbeats 400000 in
theorem l1Uses_2 (v a b : Int) (w : World) :
    Calls Try.prog 43 #[.agg #[.int .i64 2, .int .i64 v, .int .i64 a, .int .i64 b]] w fun e w' => ∃ r, e = .returned r ∧ OI w' w.heap.size r [a] ∧ Below w.heap.size w w' := by
  go_enter Try.func43, Try.ntmps43
  go_wp2
  go_ret
  refine ⟨_, rfl, ?_, ((Below.refl _ _).alloc (Nat.le_refl _) _).alloc (by simp) _⟩
  exact OI_lit1 (w.alloc _) _ (by simp) (by omega)

set_option maxHeartbeats 400000 in
theorem l1Uses_3 (v a b : Int) (w : World) :
    Calls Try.prog 43 #[.agg #[.int .i64 3, .int .i64 v, .int .i64 a, .int .i64 b]] w fun e w' => ∃ r, e = .returned r ∧ OI w' w.heap.size r [a, b] ∧ Below w.heap.size w w' := by
  go_enter Try.func43, Try.ntmps43
  go_wp2
  go_ret
  refine ⟨_, rfl, ?_, ((Below.refl _ _).alloc (Nat.le_refl _) _).alloc (by simp) _⟩
  exact OI_lit2 (w.alloc _) _ _ (by simp) (by omega)

set_option maxHeartbeats 400000 in
theorem l1Uses_4 (v a b : Int) (w : World) :
    Calls Try.prog 43 #[.agg #[.int .i64 4, .int .i64 v, .int .i64 a, .int .i64 b]] w fun e w' => ∃ r, e = .returned r ∧ OI w' w.heap.size r [a, b] ∧ Below w.heap.size w w' := by
  go_enter Try.func43, Try.ntmps43
  go_wp2
  go_ret
  refine ⟨_, rfl, ?_, ((Below.refl _ _).alloc (Nat.le_refl _) _).alloc (by simp) _⟩
  exact OI_lit2 (w.alloc _) _ _ (by simp) (by omega)

set_option maxHeartbeats 400000 in
theorem l1Uses_5 (v a b : Int) (w : World) :
    Calls Try.prog 43 #[.agg #[.int .i64 5, .int .i64 v, .int .i64 a, .int .i64 b]] w fun e w' => ∃ r, e = .returned r ∧ OI w' w.heap.size r [a, b] ∧ Below w.heap.size w w' := by
  go_enter Try.func43, Try.ntmps43
  go_wp2
  go_ret
  refine ⟨_, rfl, ?_, ((Below.refl _ _).alloc (Nat.le_refl _) _).alloc (by simp) _⟩
  exact OI_lit2 (w.alloc _) _ _ (by simp) (by omega)

set_option maxHeartbeats 400000 in
theorem l1Uses_6 (v a b : Int) (w : World) :
    Calls Try.prog 43 #[.agg #[.int .i64 6, .int .i64 v, .int .i64 a, .int .i64 b]] w fun e w' => ∃ r, e = .returned r ∧ OI w' w.heap.size r [a, b] ∧ Below w.heap.size w w' := by
  go_enter Try.func43, Try.ntmps43
  go_wp2
  go_ret
  refine ⟨_, rfl, ?_, ((Below.refl _ _).alloc (Nat.le_refl _) _).alloc (by simp) _⟩
  exact OI_lit2 (w.alloc _) _ _ (by simp) (by omega)

set_option maxHeartbeats 400000 in
theorem l1Uses_7 (v a b : Int) (w : World) :
    Calls Try.prog 43 #[.agg #[.int .i64 7, .int .i64 v, .int .i64 a, .int .i64 b]] w fun e w' => ∃ r, e = .returned r ∧ OI w' w.heap.size r [a] ∧ Below w.heap.size w w' := by
  go_enter Try.func43, Try.ntmps43
  go_wp2
  go_ret
  refine ⟨_, rfl, ?_, ((Below.refl _ _).alloc (Nat.le_refl _) _).alloc (by simp) _⟩
  exact OI_lit1 (w.alloc _) _ (by simp) (by omega)

theorem l1Uses_any (o v a b : Int) (w : World) (hok : insOkB o v a b = true) :
    Calls Try.prog 43 #[.agg #[.int .i64 o, .int .i64 v, .int .i64 a, .int .i64 b]] w fun e w' => ∃ r, e = .returned r ∧ OI w' w.heap.size r (usesL o v a b) ∧ Below w.heap.size w w' := by
  obtain ⟨h1, h7⟩ := ok_range hok
  have : o = 1 ∨ o = 2 ∨ o = 3 ∨ o = 4 ∨ o = 5 ∨ o = 6 ∨ o = 7 := by omega
  rcases this with rfl | rfl | rfl | rfl | rfl | rfl | rfl <;> simp only [usesL, hok]
  · exact l1Uses_1 v a b w
  · exact l1Uses_2 v a b w
  · exact l1Uses_3 v a b w
  · exact l1Uses_4 v a b w
  · exact l1Uses_5 v a b w
  · exact l1Uses_6 v a b w
  · exact l1Uses_7 v a b w

theorem usesL_len (o v a b : Int) : (usesL o v a b).length ≤ 2 := by
  unfold usesL; split <;> (try split) <;> (try split) <;> simp

theorem OI.below {w w' : World} {B B' : Nat} {v : Value} {xs : List Int} (h : OI w B v xs) (hb : Below B' w w') (hB : ∀ k, v.ownBlock = some k → k < B') : OI w' B v xs := by
  obtain ⟨h1, h2⟩ := h
  refine ⟨h1, ?_⟩
  rcases h2 with h2 | ⟨g, cap, cur, rfl, hg, hh, r⟩
  · exact .inl h2
  · exact .inr ⟨g, cap, cur, rfl, hg, by rw [hb.block g (hB g rfl)]; exact hh, r⟩

theorem OI.lt {w : World} {B : Nat} {v : Value} {xs : List Int} (h : OI w B v xs) : ∀ k, v.ownBlock = some k → B ≤ k ∧ k < w.heap.size := World.ownsRow.lt h
theorem OI.grown {w w' : World} {B : Nat} {v : Value} {xs : List Int} (h : OI w B v xs) {row : Option Nat} (hg : w.grownBy w' row) (hne : v.ownBlock = none ∨ v.ownBlock ≠ row) : OI w' B v xs := World.ownsRow.kept h hg hne
theorem OI.drewN {w : World} {B : Nat} {v : Value} {xs : List Int} (h : OI w B v xs) (n : Nat) : OI (w.drewN n) B v xs := h
theorem below_drewN {B : Nat} {a w : World} (h : Below B a w) (n : Nat) : Below B a (w.drewN n) := ⟨h.os, h.tape, h.output, h.size, h.block⟩

end Go.Proofs.Ytbghcoihndlihaa
