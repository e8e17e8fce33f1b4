/- DefsOf of the program. -/
import Derived.Test.YtbghcoihndlihaaDefs
import Derived.Test.YtbghcoihndlihaaM7
import Derived.Test.YtbghcoihndlihaaPredsP
namespace Go.Proofs.Ytbghcoihndlihaa
open Go.ChangeShapes Go.WideShapes Go.ChangeAt Go.RowKit Go.Joins

def DefsOfRes (f : FunD) (j : Int) (xs : List MoveD) : Prop := (FunP f ∧ isBelowB j f.names = true ∧ xs = pick (defsK f f.blocks.length) j) ∨ (¬ (FunP f ∧ isBelowB j f.names = true) ∧ xs = [])
theorem DefsOfRes.one {f : FunD} {j : Int} {xs ys : List MoveD} (h : DefsOfRes f j xs) (k : DefsOfRes f j ys) : xs = ys := by
  rcases h with ⟨h1, h2, h⟩ | ⟨h1, h⟩ <;> rcases k with ⟨k1, k2, k⟩ | ⟨k1, k⟩
  · rw [h, k]
  · exact absurd ⟨h1, h2⟩ k1
  · exact absurd ⟨k1, k2⟩ h1
  · rw [h, k]
theorem DefsOfRes.len {f : FunD} {j : Int} {xs : List MoveD} (h : DefsOfRes f j xs) : xs.length ≤ 20000 := by
  rcases h with ⟨h1, _, rfl⟩ | ⟨_, rfl⟩
  · exact Nat.le_trans (Nat.le_trans (pick_len _ _) (defsK_len h1 _ (Nat.le_refl _))) (by decide)
  · simp
def GivesDefsOf (f : FunD) (j : Int) (w : World) (e : Ending) (w' : World) : Prop := ∃ xs r, e = .returned r ∧ DefsOfRes f j xs ∧ OP w' w.heap.size r xs ∧ Below w.heap.size w w'

set_option maxRecDepth 10000 in
set_option maxHeartbeats 1000000 in
theorem DefsOf_any (f : FunD) (v : Value) (j : Int) (w : World) (Z : Zn) (hv : EFun w Z f v) (hD : ∀ b, Z.D b → b < w.heap.size) (hn : f.blocks.length ≤ 1048576) : Calls Try.prog 8 #[v, .int .i64 j] w (GivesDefsOf f j w) := by
  have HF := Lib.hid hv
  obtain ⟨u, rfl, hu⟩ := hv
  obtain ⟨_, A, c, rfl, hx⟩ := hu
  clear hx
  go_enter Try.func8, Try.ntmps8
  go_wp2_with fail
  refine (FunOk_any f _ _ Z (HF.out.keep (Kept.below ((Below.refl _ _).alloc (Nat.le_refl _) _) hD)) (fun b hb => by have := hD b hb; simp; omega) hn).mono ?_
  rintro e w1 ⟨r, rfl, hr, hb1⟩
  have HR := Lib.hid hr
  have HB1 := Lib.hid (hb1.mono (B' := w.heap.size + 1) (by simp))
  have HB01 : Hid (Below w.heap.size w w1) := ((Below.refl _ _).alloc (Nat.le_refl _) _).trans (HB1.out.mono (by omega))
  have hz1 : w.heap.size + 1 ≤ w1.heap.size := by have := hb1.size; simp at this; omega
  obtain ⟨hc1, hf1⟩ := bcellB HB1.out
  clear hb1 hf1 hr
  cases r
  · have HN : Hid (¬ (FunP f ∧ isBelowB j f.names = true)) := fun h => by have := HR.out.2 h.1; cases this
    go_wp2_with fail
    go_ret
    exact ⟨[], _, rfl, .inr ⟨HN.out, rfl⟩, OP_lit0 w1 rfl (by omega), HB01.out.alloc (by omega) _⟩
  have HP := Lib.hid (HR.out.1 rfl)
  clear HR
  cases hj : isBelowB j f.names
  · have HN : Hid (¬ (FunP f ∧ isBelowB j f.names = true)) := fun h => by have := h.2; rw [hj] at this; cases this
    go_wp2_with (go_at_call 21; refine (isBelow_any _ _ _).mono ?_; rintro e w' ⟨rfl, rfl⟩)
    go_ret
    exact ⟨[], _, rfl, .inr ⟨HN.out, rfl⟩, OP_lit0 w1 rfl (by omega), HB01.out.alloc (by omega) _⟩
  have HJ := Lib.hid hj
  obtain ⟨n, hnn⟩ : ∃ n : Nat, f.names = n := ⟨f.names.toNat, by have := HP.out.1.2.1.1; omega⟩
  have hnb := hj
  rw [hnn] at hnb
  obtain ⟨t, rfl, htn⟩ := name_nat hnb
  have htn' : (t : Int) < (n : Int) := by omega
  have ht0 : 0 ≤ (t : Int) := by omega
  have HNN := Lib.hid hnn
  clear hnb hnn
  go_wp2_with (first
    | (go_at_call 21; refine (isBelow_any _ _ _).mono ?_; rintro e w' ⟨rfl, rfl⟩)
    | (go_at_call 22; refine (defsOfAll_any f _ _ Z HP.out (HF.out.keep (Kept.below HB01.out hD)) (fun b hb => by have := hD b hb; omega)).mono ?_; rintro e w3 ⟨G, rfl, hG, hq, hb3⟩; have HB03 := Lib.hid (HB01.out.trans (hb3.mono (by omega))); rw [HNN.out, show ((n : Int)).toNat = n by omega] at hq ⊢; have HG := Lib.hid hG; obtain ⟨v, hcv, hov⟩ := hq.get htn; have HOV := Lib.hid hov; clear hq hb3 hG hov))
  go_ret
  exact ⟨_, _, rfl, .inl ⟨HP.out, HJ.out, rfl⟩, World.ownsRow.mono HOV.out (by have := HG.out; omega), HB03.out⟩

end Go.Proofs.Ytbghcoihndlihaa
