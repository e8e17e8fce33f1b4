/- Reached of both sides. -/
import Derived.Test.YteikpekffgifoaaReachM
namespace Go.Proofs.Yteikpekffgifoaa
open Go.ChangeShapes Go.WideShapes Go.ChangeAt Go.RowKit Go.Joins

theorem OB_lit0 (w : World) {B g : Nat} (hg : w.heap.size = g) (hB : B ≤ g) : OB (w.alloc (.cells #[] 4)) B (.slice (some ⟨g, 0, none⟩) 0 0) [] := by
  subst hg
  exact World.ownsRow_lit (base := B) (e := 4) (size := 1) w #[] 0 hB (by simp) rfl
theorem BL.ob {w : World} {q n B : Nat} {bs : List Bool} (h : BL w q n bs) (hB : B ≤ q) : OB w B (.slice (some ⟨q, 0, none⟩) n n) bs := World.ownsRow.mono h.2 hB

/-- What Reached answers. -/
def ReachedRes (f : FunD) (bs : List Bool) : Prop := (FunP f ∧ IsReach (scF f.blocks) (-1) f.blocks.length bs) ∨ (¬ FunP f ∧ bs = [])
theorem ReachedRes.one {f : FunD} {xs ys : List Bool} (h : ReachedRes f xs) (k : ReachedRes f ys) : xs = ys := by
  rcases h with ⟨h1, h2⟩ | ⟨h1, rfl⟩ <;> rcases k with ⟨k1, k2⟩ | ⟨k1, rfl⟩
  · exact h2.one k2
  · exact absurd h1 k1
  · exact absurd k1 h1
  · rfl
theorem ReachedRes.len {f : FunD} {xs : List Bool} (h : ReachedRes f xs) : xs.length ≤ f.blocks.length := by
  rcases h with ⟨_, h⟩ | ⟨_, rfl⟩
  · exact Nat.le_of_eq h.1
  · simp
def GivesReached (f : FunD) (w : World) (e : Ending) (w' : World) : Prop := ∃ xs r, e = .returned r ∧ ReachedRes f xs ∧ OB w' w.heap.size r xs ∧ Below w.heap.size w w'

theorem field_walk1 (A0 A1 A2 : Option Addr) (n0 c0 n1 c1 n2 c2 : Nat) (w : World) : (Instr.field 78 (.agg #[.slice A0 n0 c0, .slice A1 n1 c1, .slice A2 n2 c2]) 1).run Try.prog w = .ok (.slice A1 n1 c1) w := by kernel_rfl
theorem field_walk2 (A0 A1 A2 : Option Addr) (n0 c0 n1 c1 n2 c2 : Nat) (w : World) : (Instr.field 78 (.agg #[.slice A0 n0 c0, .slice A1 n1 c1, .slice A2 n2 c2]) 2).run Try.prog w = .ok (.slice A2 n2 c2) w := by kernel_rfl

set_option maxRecDepth 10000 in
set_option maxHeartbeats 1000000 in
theorem Reached_any (f : FunD) (v : Value) (w : World) (Z : Zn) (hv : EFun w Z f v) (hD : ∀ b, Z.D b → b < w.heap.size) (hn : f.blocks.length ≤ 1048576) : Calls Try.prog 22 #[v] w (GivesReached f w) := by
  have HF := Lib.hid hv
  obtain ⟨u, rfl, hu⟩ := hv
  obtain ⟨_, A, c, rfl, hx⟩ := hu
  clear hx
  go_enter Try.func22, Try.ntmps22
  go_wp2_with fail
  refine (FunOk_any f _ _ Z (HF.out.keep (Kept.below ((Below.refl _ _).alloc (Nat.le_refl _) _) hD)) (fun b hb => by have := hD b hb; simp; omega) hn).mono ?_
  rintro e w1 ⟨r, rfl, hr, hb1⟩
  have HR := Lib.hid hr
  have HB1 := Lib.hid (hb1.mono (B' := w.heap.size + 1) (by simp))
  have HB01 : Hid (Below w.heap.size w w1) := ((Below.refl _ _).alloc (Nat.le_refl _) _).trans (HB1.out.mono (by omega))
  have hz1 : w.heap.size + 1 ≤ w1.heap.size := by have := hb1.size; simp at this; omega
  obtain ⟨hc1, hf1⟩ := bcellB HB1.out
  clear hb1 hf1 hr
  cases r
  · have HN : Hid (¬ FunP f) := fun h => by have := HR.out.2 h; cases this
    go_wp2_with fail
    go_ret
    exact ⟨[], _, rfl, .inr ⟨HN.out, rfl⟩, OB_lit0 _ rfl (by omega), HB01.out.alloc (by omega) _⟩
  have HP := Lib.hid (HR.out.1 rfl)
  clear HR
  have h1n := HP.out.1.1.1
  have h40 := HP.out.1.1.2
  go_wp2_with fail
  refine (walkFromStart_any f.blocks _ _ Z (HF.out.row.keep (Kept.below HB01.out hD) fun _ _ h => h.keep (Kept.below HB01.out hD)) (fun b hb => by have := hD b hb; omega) (targets_of HP.out) h1n (by omega)).mono ?_
  rintro e w3 ⟨q, fin, rfl, hbl, hoi, hq, hb3⟩
  have HB03 := Lib.hid (HB01.out.trans (hb3.mono (by omega)))
  have HBL := Lib.hid hbl
  obtain ⟨_, A3, c3, rfl, _⟩ := hoi.ri
  have hfl := field_walk1
  clear hb3 hoi hbl hc1
  go_wp2_with fail
  go_ret
  exact ⟨_, _, rfl, .inl ⟨HP.out, dfs0_reach (targets_of HP.out).sc h1n⟩, HBL.out.ob (by omega), HB03.out⟩

set_option maxRecDepth 10000 in
set_option maxHeartbeats 1000000 in
theorem sReached_any (f : FunD) (v : Value) (w : World) (Z : Zn) (hv : EFun w Z f v) (hD : ∀ b, Z.D b → b < w.heap.size) (hn : f.blocks.length ≤ 1048576) : Calls Try.prog 23 #[v] w (GivesReached f w) := by
  have HF := Lib.hid hv
  obtain ⟨u, rfl, hu⟩ := hv
  obtain ⟨_, A, c, rfl, hx⟩ := hu
  clear hx
  go_enter Try.func23, Try.ntmps23
  go_wp2_with fail
  refine (sFunOk_any f _ _ Z (HF.out.keep (Kept.below ((Below.refl _ _).alloc (Nat.le_refl _) _) hD)) (fun b hb => by have := hD b hb; simp; omega) hn).mono ?_
  rintro e w1 ⟨r, rfl, hr, hb1⟩
  have HR := Lib.hid hr
  have HB1 := Lib.hid (hb1.mono (B' := w.heap.size + 1) (by simp))
  have HB01 : Hid (Below w.heap.size w w1) := ((Below.refl _ _).alloc (Nat.le_refl _) _).trans (HB1.out.mono (by omega))
  have hz1 : w.heap.size + 1 ≤ w1.heap.size := by have := hb1.size; simp at this; omega
  obtain ⟨hc1, hf1⟩ := bcellB HB1.out
  clear hb1 hf1 hr
  cases r
  · have HN : Hid (¬ FunP f) := fun h => by have := HR.out.2 h; cases this
    go_wp2_with fail
    go_ret
    exact ⟨[], _, rfl, .inr ⟨HN.out, rfl⟩, OB_lit0 _ rfl (by omega), HB01.out.alloc (by omega) _⟩
  have HP := Lib.hid (HR.out.1 rfl)
  clear HR
  have h1n := HP.out.1.1.1
  have h40 := HP.out.1.1.2
  go_wp2_with fail
  refine (l3Reach_ex f _ (-1) _ Z (HF.out.keep (Kept.below HB01.out hD)) (fun b hb => by have := hD b hb; omega) (targets_of HP.out).r h1n (by omega)).mono ?_
  rintro e w3 ⟨q, rs, rfl, hbl, hre, hq, hb3⟩
  have HB03 := Lib.hid (HB01.out.trans (hb3.mono (by omega)))
  have HBL := Lib.hid hbl
  have HRE := Lib.hid hre
  clear hb3 hre hbl hc1
  go_wp2_with fail
  go_ret
  exact ⟨_, _, rfl, .inl ⟨HP.out, HRE.out⟩, HBL.out.ob (by omega), HB03.out⟩

end Go.Proofs.Yteikpekffgifoaa
