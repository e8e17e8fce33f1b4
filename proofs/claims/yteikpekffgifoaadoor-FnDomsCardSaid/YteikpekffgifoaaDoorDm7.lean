/- M7, Fr, Dom, Come, Reach, Rev, joined. -/
import Derived.Test.YteikpekffgifoaaDoorDm1
import Derived.Test.YteikpekffgifoaaDoorDm2
import Derived.Test.YteikpekffgifoaaDoorDm3
import Derived.Test.YteikpekffgifoaaDoorDm4
import Derived.Test.YteikpekffgifoaaDoorDm6
import Derived.WalkSmall
import Derived.RegionTactic
namespace Go.Proofs.YteikpekffgifoaaDoor

/- FunOk and PredsOf of the program. -/
section
open Go.ChangeShapes Go.WideShapes Go.ChangeAt Go.RowKit Go.Joins

def predsI (f : FunD) (j : Int) : List Int := predsK succsE f.blocks f.blocks.length j
theorem predsI_len (f : FunD) (j : Int) : (predsI f j).length ≤ f.blocks.length := predsK_len _ _ _ _
theorem predsI_eq {f : FunD} (h : ∀ (j : Nat) x, f.blocks[j]? = some x → endOkB x.fin.k x.fin.a x.fin.t x.fin.l = true) (j : Int) : predsI f j = predsF f j :=
  predsK_congr (fun i x hx => by show succsL _ _ _ _ = toL _ _ _; simp [succsL, h i x hx]) _ _
theorem funP_of {f : FunD} (hh : FrameHead f) (h0 : ∀ x, f.blocks[0]? = some x → x.phis = []) (hp : predsI f 0 = []) (hall : ∀ (j : Nat) x, f.blocks[j]? = some x → BlockAll f.names f.blocks.length (predsI f j).length x) : FunP f := by
  have hE := predsI_eq (f := f) fun j x hx => (hall j x hx).2.1.1
  refine ⟨⟨hh.1, hh.2.1, hh.2.2.1, hh.2.2.2, fun j x hx => (hall j x hx).2⟩, (hE 0).symm.trans hp, h0, fun i x hx => ?_⟩
  rw [← hE]; exact (hall i x hx).1
theorem funP_preds {f : FunD} (h : FunP f) (j : Int) : predsI f j = predsF f j := predsI_eq (fun j x hx => (h.1.2.2.2.2 j x hx).1.1) j
theorem funP_block {f : FunD} (h : FunP f) {j : Nat} {x : BlockD} (hx : f.blocks[j]? = some x) : BlockAll f.names f.blocks.length (predsI f j).length x :=
  ⟨by rw [funP_preds h]; exact h.2.2.2 j x hx, h.1.2.2.2.2 j x hx⟩

set_option maxRecDepth 10000 in
set_option maxHeartbeats 2000000 in
theorem FunOk_any (f : FunD) (v : Value) (w : World) (Z : Zn) (hv : EFun w Z f v) (hD : ∀ b, Z.D b → b < w.heap.size) (hn : f.blocks.length ≤ 1048576) : Calls Tryd.prog 27 #[v] w (GivesB (FunP f) w) := by
  have HF := Lib.hid hv
  obtain ⟨u, rfl, hu⟩ := hv
  obtain ⟨hle, A, c, rfl, hx⟩ := hu
  go_enter Tryd.func27, Tryd.ntmps27
  go_wp2_with fail
  refine (sizesOk_any f _ _ _ hle).mono ?_
  rintro e w1 ⟨r, rfl, hr, hb1⟩
  have HR := Lib.hid hr
  have HB1 := Lib.hid (hb1.mono (B' := w.heap.size + 1) (by simp))
  have HB01 : Hid (Below w.heap.size w w1) := ((Below.refl _ _).alloc (Nat.le_refl _) _).trans (HB1.out.mono (by omega))
  have hz1 : w.heap.size + 1 ≤ w1.heap.size := by have := hb1.size; simp at this; omega
  obtain ⟨hc1, hf1⟩ := bcellB HB1.out
  clear hb1 hf1 hr
  cases r
  · have HN : Hid (¬ FunP f) := fun h => by have := HR.out.2 h.1.head; cases this
    go_wp2_with fail
    go_ret
    exact gives_no HN.out HB01.out
  have HP := Lib.hid (HR.out.1 rfl)
  clear HR
  have h1n := HP.out.1.1
  have h40 := HP.out.1.2
  have hxk : f.blocks[0]? = some f.blocks[0] := List.getElem?_eq_getElem h1n
  generalize f.blocks[0] = x at hxk
  have HX := Lib.hid hx
  obtain ⟨b, off, rfl, hDb, hrow⟩ := hx (by intro h; rw [h] at h1n; simp at h1n)
  obtain ⟨cs, hE, hcs⟩ := hrow 0 x hxk
  have hbl := hD b hDb
  obtain ⟨_, _, _, _, rfl, ⟨_, A0, c0, rfl, _⟩, _⟩ := hE
  have c0 : w.cell? ⟨b, off, none⟩ = some (.slice A0 x.phis.length c0) := by have := (hcs 0 _ rfl).1; simpa using this
  have Hxk := Lib.hid hxk
  have h1n' : 0 < (f.blocks.length : Int) := by omega
  clear hcs hrow hxk
  by_cases hph : x.phis = []
  case neg =>
    have HN : Hid (¬ FunP f) := fun h => hph (h.2.2.1 x Hxk.out)
    have hp0' : decide (0 < x.phis.length) = true := by simpa using List.length_pos_iff.2 hph
    clear hph
    go_wp2_with fail
    go_ret
    exact gives_no HN.out HB01.out
  have hph' : decide (0 < x.phis.length) = false := by rw [hph]; simp
  have HPH : Hid (∀ y, f.blocks[0]? = some y → y.phis = []) := fun y hy => by
    rw [Hxk.out] at hy
    injection hy with hy
    subst hy
    exact hph
  clear hph
  go_wp2_with fail
  refine (predsOfAll_any _ f.blocks _ Z (HF.out.row.keep (Kept.below HB01.out hD) fun _ _ h => h.keep (Kept.below HB01.out hD)) (fun b hb => by have := hD b hb; omega) hn).mono ?_
  rintro e w2 ⟨rfl, hp2, hb2⟩
  have hp2' : PRow w2 (w1.heap.size + 1) w1.heap.size f.blocks.length fun j => predsI f j := hp2
  have HB2 := Lib.hid (HB1.out.trans (hb2.mono hz1))
  have HB02 : Hid (Below w.heap.size w w2) := ((Below.refl _ _).alloc (Nat.le_refl _) _).trans (HB2.out.mono (by omega))
  have hz2 := hb2.size
  have HP2 := Lib.hid hp2'
  have hG2 := hp2.lt
  obtain ⟨hc2, hf2⟩ := bcellB (hb2.mono hz1)
  obtain ⟨v0, hv0, ho0⟩ := hp2'.get h1n
  obtain ⟨_, A2, c2, rfl, _⟩ := ho0.ri
  have el0 : (predsI f ((0 : Nat) : Int)).length = (predsI f 0).length := rfl
  rw [el0] at hv0
  clear hb2 hf2 hp2 hp2' ho0 el0
  by_cases hp0 : predsI f 0 = []
  case neg =>
    have HN : Hid (¬ FunP f) := fun h => hp0 ((funP_preds h 0).trans h.2.1)
    have hp0' : decide (0 < (predsI f 0).length) = true := by simpa using List.length_pos_iff.2 hp0
    clear hp0
    go_wp2_with fail
    go_ret
    exact gives_no HN.out HB02.out
  have hp0' : decide (0 < (predsI f 0).length) = false := by rw [hp0]; simp
  have HP0 := Lib.hid hp0
  clear hp0
  go_wp2_with fail
  clear hc1 hc2 c0 hv0
  go_loopw [29] (fun i wr => ∃ k : Nat, k ≤ f.blocks.length ∧ i = .int .i64 k ∧ Hid (Below (w.heap.size + 1) (w.alloc (.cells #[.int .i64 f.params, .int .i64 f.names, .slice (some ⟨b, off, none⟩) f.blocks.length c] 26)) wr) ∧ w1.heap.size < wr.heap.size ∧ Hid (PRow wr (w1.heap.size + 1) w1.heap.size f.blocks.length (fun j => predsI f j)) ∧ Hid (∀ (j : Nat) y, j < k → f.blocks[j]? = some y → BlockAll f.names f.blocks.length (predsI f j).length y)) (fun i _ => f.blocks.length - (intOf i).toNat)
  case atStart => exact ⟨0, Nat.zero_le _, rfl, HB2.out, hG2, HP2.out, fun _ _ h => absurd h (by omega)⟩
  case round =>
    obtain ⟨k, hk, rfl, HB, hgr, HPr, H1⟩ := hrel
    have HB0 : Hid (Below w.heap.size w wr) := ((Below.refl _ _).alloc (Nat.le_refl _) _).trans (HB.out.mono (by omega))
    have hzw : w.heap.size + 1 ≤ wr.heap.size := by have := HB.out.size; simp at this; omega
    have f1 : wr.cell? ⟨w.heap.size, 1, none⟩ = some (.int .i64 f.names) := (HB.out.cell (p := ⟨w.heap.size, 1, none⟩) (by simp)).trans (by go_simp)
    have f2 : wr.cell? ⟨w.heap.size, 2, none⟩ = some (.slice (some ⟨b, off, none⟩) f.blocks.length c) := (HB.out.cell (p := ⟨w.heap.size, 2, none⟩) (by simp)).trans (by go_simp)
    by_cases hlt : k < f.blocks.length
    case neg =>
      obtain rfl : k = f.blocks.length := by omega
      go_wp2
      go_ret
      exact gives_yes (funP_of HP.out HPH.out HP0.out fun j y hy => H1.out j y (List.getElem?_eq_some_iff.1 hy).1 hy) HB0.out
    have hyk : f.blocks[k]? = some f.blocks[k] := List.getElem?_eq_getElem hlt
    generalize f.blocks[k] = y at hyk
    obtain ⟨b', off', he, hDb', hrow⟩ := HX.out (by intro h; rw [h] at hlt; simp at hlt)
    injection he with he
    injection he with hb' ho'
    subst hb' ho'
    obtain ⟨cs, hE, hcs⟩ := hrow k y hyk
    have HEr := Lib.hid (hE.keep (Kept.below HB0.out hD))
    obtain ⟨A3, q3, A4, q4, A5, q5, A6, q6, rfl, _⟩ := hE.parts
    have c0 : wr.cell? ⟨b, off + k * 8, none⟩ = some (.slice A3 y.phis.length q3) := (HB0.out.cell (p := ⟨b, _, none⟩) hbl).trans (hcs 0 _ rfl).1
    have c1 : wr.cell? ⟨b, off + k * 8 + 1, none⟩ = some (.slice A4 y.head.length q4) := (HB0.out.cell (p := ⟨b, _, none⟩) hbl).trans (hcs 1 _ rfl).1
    have c2 : wr.cell? ⟨b, off + k * 8 + 2, none⟩ = some (.slice A5 y.body.length q5) := (HB0.out.cell (p := ⟨b, _, none⟩) hbl).trans (hcs 2 _ rfl).1
    have c3 : wr.cell? ⟨b, off + k * 8 + 3, none⟩ = some (.slice A6 y.tail.length q6) := (HB0.out.cell (p := ⟨b, _, none⟩) hbl).trans (hcs 3 _ rfl).1
    have c4 : wr.cell? ⟨b, off + k * 8 + 4, none⟩ = some (.int .i64 y.fin.k) := (HB0.out.cell (p := ⟨b, _, none⟩) hbl).trans (hcs 4 _ rfl).1
    have c5 : wr.cell? ⟨b, off + k * 8 + 5, none⟩ = some (.int .i64 y.fin.a) := (HB0.out.cell (p := ⟨b, _, none⟩) hbl).trans (hcs 5 _ rfl).1
    have c6 : wr.cell? ⟨b, off + k * 8 + 6, none⟩ = some (.int .i64 y.fin.t) := (HB0.out.cell (p := ⟨b, _, none⟩) hbl).trans (hcs 6 _ rfl).1
    have c7 : wr.cell? ⟨b, off + k * 8 + 7, none⟩ = some (.int .i64 y.fin.l) := (HB0.out.cell (p := ⟨b, _, none⟩) hbl).trans (hcs 7 _ rfl).1
    obtain ⟨v8, hv8, ho8⟩ := HPr.out.get hlt
    obtain ⟨_, A8, q8, rfl, _⟩ := ho8.ri
    have hpl := predsI_len f k
    have Hyk := Lib.hid hyk
    have hlt' : (k : Int) < (f.blocks.length : Int) := by omega
    have hk0 : 0 ≤ (k : Int) := by omega
    clear hcs hyk hrow hE ho8
    go_wp2_with fail
    have d0 : (wr.alloc (.cells #[.slice A3 y.phis.length q3, .slice A4 y.head.length q4, .slice A5 y.body.length q5, .slice A6 y.tail.length q6, .int .i64 y.fin.k, .int .i64 y.fin.a, .int .i64 y.fin.t, .int .i64 y.fin.l] 71)).cell? ⟨wr.heap.size, 0, none⟩ = some (.slice A3 y.phis.length q3) := by go_simp
    have d1 : (wr.alloc (.cells #[.slice A3 y.phis.length q3, .slice A4 y.head.length q4, .slice A5 y.body.length q5, .slice A6 y.tail.length q6, .int .i64 y.fin.k, .int .i64 y.fin.a, .int .i64 y.fin.t, .int .i64 y.fin.l] 71)).cell? ⟨wr.heap.size, 1, none⟩ = some (.slice A4 y.head.length q4) := by go_simp
    have d2 : (wr.alloc (.cells #[.slice A3 y.phis.length q3, .slice A4 y.head.length q4, .slice A5 y.body.length q5, .slice A6 y.tail.length q6, .int .i64 y.fin.k, .int .i64 y.fin.a, .int .i64 y.fin.t, .int .i64 y.fin.l] 71)).cell? ⟨wr.heap.size, 2, none⟩ = some (.slice A5 y.body.length q5) := by go_simp
    have d3 : (wr.alloc (.cells #[.slice A3 y.phis.length q3, .slice A4 y.head.length q4, .slice A5 y.body.length q5, .slice A6 y.tail.length q6, .int .i64 y.fin.k, .int .i64 y.fin.a, .int .i64 y.fin.t, .int .i64 y.fin.l] 71)).cell? ⟨wr.heap.size, 3, none⟩ = some (.slice A6 y.tail.length q6) := by go_simp
    have d4 : (wr.alloc (.cells #[.slice A3 y.phis.length q3, .slice A4 y.head.length q4, .slice A5 y.body.length q5, .slice A6 y.tail.length q6, .int .i64 y.fin.k, .int .i64 y.fin.a, .int .i64 y.fin.t, .int .i64 y.fin.l] 71)).cell? ⟨wr.heap.size, 4, none⟩ = some (.int .i64 y.fin.k) := by go_simp
    have d5 : (wr.alloc (.cells #[.slice A3 y.phis.length q3, .slice A4 y.head.length q4, .slice A5 y.body.length q5, .slice A6 y.tail.length q6, .int .i64 y.fin.k, .int .i64 y.fin.a, .int .i64 y.fin.t, .int .i64 y.fin.l] 71)).cell? ⟨wr.heap.size, 5, none⟩ = some (.int .i64 y.fin.a) := by go_simp
    have d6 : (wr.alloc (.cells #[.slice A3 y.phis.length q3, .slice A4 y.head.length q4, .slice A5 y.body.length q5, .slice A6 y.tail.length q6, .int .i64 y.fin.k, .int .i64 y.fin.a, .int .i64 y.fin.t, .int .i64 y.fin.l] 71)).cell? ⟨wr.heap.size, 6, none⟩ = some (.int .i64 y.fin.t) := by go_simp
    have d7 : (wr.alloc (.cells #[.slice A3 y.phis.length q3, .slice A4 y.head.length q4, .slice A5 y.body.length q5, .slice A6 y.tail.length q6, .int .i64 y.fin.k, .int .i64 y.fin.a, .int .i64 y.fin.t, .int .i64 y.fin.l] 71)).cell? ⟨wr.heap.size, 7, none⟩ = some (.int .i64 y.fin.l) := by go_simp
    have hBW : Below wr.heap.size wr (wr.alloc (.cells #[.slice A3 y.phis.length q3, .slice A4 y.head.length q4, .slice A5 y.body.length q5, .slice A6 y.tail.length q6, .int .i64 y.fin.k, .int .i64 y.fin.a, .int .i64 y.fin.t, .int .i64 y.fin.l] 71)) := (Below.refl _ _).alloc (Nat.le_refl _) _
    have hsW : (wr.alloc (.cells #[.slice A3 y.phis.length q3, .slice A4 y.head.length q4, .slice A5 y.body.length q5, .slice A6 y.tail.length q6, .int .i64 y.fin.k, .int .i64 y.fin.a, .int .i64 y.fin.t, .int .i64 y.fin.l] 71)).heap.size = wr.heap.size + 1 := by simp
    generalize wr.alloc (.cells #[.slice A3 y.phis.length q3, .slice A4 y.head.length q4, .slice A5 y.body.length q5, .slice A6 y.tail.length q6, .int .i64 y.fin.k, .int .i64 y.fin.a, .int .i64 y.fin.t, .int .i64 y.fin.l] 71) = W2 at *
    have HBW := Lib.hid hBW
    have hrw : wr.heap.size < W2.heap.size := by omega
    have hgw : w1.heap.size < W2.heap.size := by omega
    have hfw : w.heap.size < W2.heap.size := by omega
    have e1 := (hBW.cell (p := ⟨w.heap.size, 1, none⟩) (by show w.heap.size < _; omega)).trans f1
    have e2 := (hBW.cell (p := ⟨w.heap.size, 2, none⟩) (by show w.heap.size < _; omega)).trans f2
    have e3 := (hBW.cell (p := ⟨w1.heap.size, k, none⟩) hgr).trans hv8
    have h150 := HP.out.2.1.2
    clear hBW hsW c0 c1 c2 c3 c4 c5 c6 c7 f1 f2 hv8
    have keepS : ∀ w5 : World, Below W2.heap.size W2 w5 → (fun w' => Below W2.heap.size W2 w' ∧ w'.cell? ⟨w.heap.size, 1, none⟩ = some (.int .i64 f.names) ∧ w'.cell? ⟨w.heap.size, 2, none⟩ = some (.slice (some ⟨b, off, none⟩) f.blocks.length c) ∧ w'.cell? ⟨w1.heap.size, k, none⟩ = some (.slice A8 (predsI f k).length q8) ∧ w'.cell? ⟨wr.heap.size, 0, none⟩ = some (.slice A3 y.phis.length q3) ∧ w'.cell? ⟨wr.heap.size, 1, none⟩ = some (.slice A4 y.head.length q4) ∧ w'.cell? ⟨wr.heap.size, 2, none⟩ = some (.slice A5 y.body.length q5) ∧ w'.cell? ⟨wr.heap.size, 3, none⟩ = some (.slice A6 y.tail.length q6) ∧ w'.cell? ⟨wr.heap.size, 4, none⟩ = some (.int .i64 y.fin.k) ∧ w'.cell? ⟨wr.heap.size, 5, none⟩ = some (.int .i64 y.fin.a) ∧ w'.cell? ⟨wr.heap.size, 6, none⟩ = some (.int .i64 y.fin.t) ∧ w'.cell? ⟨wr.heap.size, 7, none⟩ = some (.int .i64 y.fin.l)) w5 := fun w5 hb => ⟨hb, (hb.cell (p := ⟨w.heap.size, 1, none⟩) hfw).trans e1, (hb.cell (p := ⟨w.heap.size, 2, none⟩) hfw).trans e2, (hb.cell (p := ⟨w1.heap.size, k, none⟩) hgw).trans e3, (hb.cell (p := ⟨wr.heap.size, 0, none⟩) hrw).trans d0, (hb.cell (p := ⟨wr.heap.size, 1, none⟩) hrw).trans d1, (hb.cell (p := ⟨wr.heap.size, 2, none⟩) hrw).trans d2, (hb.cell (p := ⟨wr.heap.size, 3, none⟩) hrw).trans d3, (hb.cell (p := ⟨wr.heap.size, 4, none⟩) hrw).trans d4, (hb.cell (p := ⟨wr.heap.size, 5, none⟩) hrw).trans d5, (hb.cell (p := ⟨wr.heap.size, 6, none⟩) hrw).trans d6, (hb.cell (p := ⟨wr.heap.size, 7, none⟩) hrw).trans d7⟩
    have K := keepS _ (Below.refl _ _)
    have Kd := keepS _ below_drew
    clear d0 d1 d2 d3 d4 d5 d6 d7 e1 e2 e3
    go_region_held3 (fun w' => Below W2.heap.size W2 w' ∧ w'.cell? ⟨w.heap.size, 1, none⟩ = some (.int .i64 f.names) ∧ w'.cell? ⟨w.heap.size, 2, none⟩ = some (.slice (some ⟨b, off, none⟩) f.blocks.length c) ∧ w'.cell? ⟨w1.heap.size, k, none⟩ = some (.slice A8 (predsI f k).length q8) ∧ w'.cell? ⟨wr.heap.size, 0, none⟩ = some (.slice A3 y.phis.length q3) ∧ w'.cell? ⟨wr.heap.size, 1, none⟩ = some (.slice A4 y.head.length q4) ∧ w'.cell? ⟨wr.heap.size, 2, none⟩ = some (.slice A5 y.body.length q5) ∧ w'.cell? ⟨wr.heap.size, 3, none⟩ = some (.slice A6 y.tail.length q6) ∧ w'.cell? ⟨wr.heap.size, 4, none⟩ = some (.int .i64 y.fin.k) ∧ w'.cell? ⟨wr.heap.size, 5, none⟩ = some (.int .i64 y.fin.a) ∧ w'.cell? ⟨wr.heap.size, 6, none⟩ = some (.int .i64 y.fin.t) ∧ w'.cell? ⟨wr.heap.size, 7, none⟩ = some (.int .i64 y.fin.l)) (first | exact Kd | exact K | exact K5 | fail)
      (first
      | (go_at_call 46; have := (show _ ∧ _ by assumption); refine (ok_any y _ f.names f.blocks.length (predsI f k).length _ Z (HEr.out.keep ((Kept.below HBW.out fun b hb => by have h1 := hD b hb; omega).trans (Kept.below this.1 fun b hb => by have h1 := hD b hb; omega))) (fun b hb => by have h1 := hD b hb; have h2 := this.1.size; omega) h150 h1n).mono ?_; rintro e w5 ⟨r5, rfl, hr5, hb5⟩; have HR5 := Lib.hid hr5; have K5 := keepS _ (this.1.trans (hb5.mono this.1.size)); clear hr5 hb5 this))
    have HB5 := Lib.hid ((HB.out.trans (HBW.out.mono hzw)).trans (K5.1.mono (by omega)))
    have HB05 : Hid (Below w.heap.size w w5) := ((Below.refl _ _).alloc (Nat.le_refl _) _).trans (HB5.out.mono (by omega))
    have HPn : Hid (PRow w5 (w1.heap.size + 1) w1.heap.size f.blocks.length (fun j => predsI f j)) := HPr.out.below (HBW.out.trans (K5.1.mono (by omega)))
    have hz5 := K5.1.size
    clear K Kd K5 keepS
    cases r5
    · have HN : Hid (¬ FunP f) := fun h => by have := HR5.out.2 (funP_block h Hyk.out); cases this
      go_wp2_with fail
      go_ret
      exact gives_no HN.out HB05.out
    · have HPs := Lib.hid (HR5.out.1 rfl)
      have H1' : Hid (∀ (j : Nat) z, j < k + 1 → f.blocks[j]? = some z → BlockAll f.names f.blocks.length (predsI f j).length z) := fun j z hj hz => by
        by_cases hjk : j = k
        · subst hjk
          rw [Hyk.out] at hz
          injection hz with hz
          subst hz
          exact HPs.out
        · exact H1.out j z (by omega) hz
      clear HR5
      go_wp2_with fail
      go_roundw
      case rel => exact ⟨k + 1, by omega, by go_num, HB5, by omega, HPn, H1'⟩
      case measure => simp [intOf]; omega

set_option maxHeartbeats 400000 in
theorem hasBlock_any (a b : Int) (A : Option Addr) (n c : Nat) (j : Int) (w : World) :
    Calls Tryd.prog 28 #[.agg #[.int .i64 a, .int .i64 b, .slice A n c], .int .i64 j] w fun e w' => e = .returned (.bool (isBelowB j n)) ∧ Below w.heap.size w w' := by
  go_enter Tryd.func28, Tryd.ntmps28
  go_wp2_with (go_at_call 47; refine (isBelow_any _ _ _).mono ?_; rintro e w' ⟨rfl, rfl⟩)
  go_ret
  exact ⟨rfl, (Below.refl _ _).alloc (Nat.le_refl _) _⟩
end

/- Frames by block numbers; a row of bools of the call's own; the succs of a right function. -/
section
open Go.ChangeShapes Go.WideShapes Go.ChangeAt Go.RowKit Go.Joins

/-- Of what lay there the blocks of P alone may have turned. -/
structure Fw (P : Nat → Prop) (w w' : World) : Prop where
  os : w'.os = w.os
  tape : w'.tape = w.tape
  output : w'.output = w.output
  size : w.heap.size ≤ w'.heap.size
  block : ∀ k, k < w.heap.size → ¬ P k → w'.heap[k]? = w.heap[k]?
theorem Fw.refl (P : Nat → Prop) (w : World) : Fw P w w := ⟨rfl, rfl, rfl, Nat.le_refl _, fun _ _ _ => rfl⟩
theorem Fw.trans {P Q : Nat → Prop} {a b c : World} (h : Fw P a b) (k : Fw Q b c) (hq : ∀ i, i < a.heap.size → Q i → P i) : Fw P a c :=
  ⟨k.os.trans h.os, k.tape.trans h.tape, k.output.trans h.output, Nat.le_trans h.size k.size, fun i hi hn => (k.block i (Nat.lt_of_lt_of_le hi h.size) fun hqi => hn (hq i hi hqi)).trans (h.block i hi hn)⟩
theorem Fw.below {P : Nat → Prop} {a b : World} (h : Below a.heap.size a b) : Fw P a b := ⟨h.os, h.tape, h.output, h.size, fun k hk _ => h.block k hk⟩
theorem Fw.toBelow {P : Nat → Prop} {a b : World} {B : Nat} (h : Fw P a b) (hB : B ≤ a.heap.size) (hn : ∀ k, k < B → ¬ P k) : Below B a b := ⟨h.os, h.tape, h.output, h.size, fun k hk => h.block k (Nat.lt_of_lt_of_le hk hB) (hn k hk)⟩
theorem Fw.grown {P : Nat → Prop} {a b : World} {row : Option Nat} (h : a.grownBy b row) (hr : ∀ g, row = some g → g < a.heap.size → P g) : Fw P a b :=
  ⟨h.os, h.tape, h.output, h.size, fun k hk hn => h.block k hk fun e => hn (hr k e.symm hk)⟩
theorem Fw.set {P : Nat → Prop} (w : World) {g : Nat} (hg : P g) (o : Nat) (u : Value) : Fw P w (w.setCell ⟨g, o, none⟩ u) :=
  ⟨rfl, rfl, rfl, by simp, fun k _ hn => Below.heap_setCell w ⟨g, o, none⟩ u k (fun e => by
    have : k = g := e
    subst this
    exact hn hg)⟩
theorem Fw.alloc (P : Nat → Prop) (w : World) (o : Obj) : Fw P w (w.alloc o) := ⟨rfl, rfl, rfl, by simp, fun k hk _ => Below.heap_alloc w o k hk⟩
theorem Fw.drewN (P : Nat → Prop) (w : World) (n : Nat) : Fw P w (w.drewN n) := ⟨rfl, rfl, rfl, Nat.le_refl _, fun _ _ _ => rfl⟩

theorem own_fw {w w' : World} {B : Nat} {T : TypeId} {S n : Nat} {v : Value} {xs : List Value} {P : Nat → Prop} (h : w.ownsRow B T S v n xs) (hf : Fw P w w') (hn : ∀ k, v.ownBlock = some k → ¬ P k) : w'.ownsRow B T S v n xs := by
  have hlt := World.ownsRow.lt h
  refine ⟨h.1, ?_⟩
  rcases h.2 with h4 | ⟨g, cap, cur, rfl, hb, hg, r⟩
  · exact .inl h4
  · exact .inr ⟨g, cap, cur, rfl, hb, (hf.block g (hlt g rfl).2 (hn g rfl)).trans hg, r⟩
theorem OI.fw {w w' : World} {B : Nat} {v : Value} {xs : List Int} {P : Nat → Prop} (h : OI w B v xs) (hf : Fw P w w') (hn : ∀ k, v.ownBlock = some k → ¬ P k) : OI w' B v xs := own_fw h hf hn
theorem OB.fw {w w' : World} {B : Nat} {v : Value} {xs : List Bool} {P : Nat → Prop} (h : OB w B v xs) (hf : Fw P w w') (hn : ∀ k, v.ownBlock = some k → ¬ P k) : OB w' B v xs := own_fw h hf hn
theorem OB.lt {w : World} {B : Nat} {v : Value} {xs : List Bool} (h : OB w B v xs) : ∀ k, v.ownBlock = some k → B ≤ k ∧ k < w.heap.size := World.ownsRow.lt h

/-- The n bools of block q. -/
def BL (w : World) (q n : Nat) (bs : List Bool) : Prop := bs.length = n ∧ OB w q (.slice (some ⟨q, 0, none⟩) n n) bs
theorem BL.own {w : World} {q n : Nat} {bs : List Bool} (h : BL w q n bs) : w.ownsRow q 4 1 (.slice (some ⟨q, 0, none⟩) n n) n (bs.map bv) := by
  obtain ⟨rfl, h⟩ := h
  exact h
theorem BL.mk {w : World} {q n : Nat} {bs : List Bool} (hl : bs.length = n) (h : w.ownsRow q 4 1 (.slice (some ⟨q, 0, none⟩) n n) n (bs.map bv)) : BL w q n bs := by
  subst hl
  exact ⟨rfl, h⟩
theorem BL.cell {w : World} {q n k : Nat} {bs : List Bool} (h : BL w q n bs) {b : Bool} (hk : bs[k]? = some b) : w.cell? ⟨q, k, none⟩ = some (.bool b) := by
  have hlt := (List.getElem?_eq_some_iff.1 hk).1
  rw [World.ownsRow.cellAt h.own k (by rw [h.1] at hlt; omega), List.getElem?_map, hk]; rfl
theorem BL.frozen {w : World} {q n : Nat} {bs : List Bool} (h : BL w q n bs) (k : Nat) : w.frozen? ⟨q, k, none⟩ = false := World.ownsRow.frozenAt h.own k
theorem BL.set {w : World} {q n : Nat} {bs : List Bool} (h : BL w q n bs) (k : Nat) (b : Bool) : BL (w.setCell ⟨q, k, none⟩ (.bool b)) q n (bs.set k b) := by
  refine BL.mk (by simp [h.1]) ?_
  have := (World.ownsRow.stored h.own k (bv b)).1
  rw [← List.map_set] at this
  exact this
theorem BL.fw {w w' : World} {q n : Nat} {bs : List Bool} {P : Nat → Prop} (h : BL w q n bs) (hf : Fw P w w') (hn : ¬ P q) : BL w' q n bs :=
  BL.mk h.1 (own_fw h.own hf fun k hk => by injection hk with hk; subst hk; exact hn)
theorem BL.lt {w : World} {q n : Nat} {bs : List Bool} (h : BL w q n bs) : q < w.heap.size := (World.ownsRow.lt h.own q rfl).2
theorem BL.start (w : World) (n : Nat) (hm : n ≤ maxLen) : BL (w.alloc (.cells (madeCells #[.bool false] n) 4)) w.heap.size n (List.replicate n false) := by
  refine BL.mk (by simp) ⟨by simp, .inr ⟨w.heap.size, n, _, rfl, Nat.le_refl _, heap_alloc_new w _, Nat.le_refl _, hm, by simp [size_madeCells], ?_⟩⟩
  rw [toList_madeCells_one]
  simp [bv]

/-- The targets of block x, as its End names them. -/
def scF (bs : List BlockD) (x : Int) : List Int := match bs[x.toNat]? with
  | some y => toL y.fin.k y.fin.t y.fin.l
  | none => []
theorem scF_at {bs : List BlockD} {k : Nat} {y : BlockD} (h : bs[k]? = some y) : scF bs k = toL y.fin.k y.fin.t y.fin.l := by
  unfold scF
  rw [Int.toNat_natCast, h]

theorem isBlockB_ge {t : Int} (h : isBelowB t 40 = true) : 0 ≤ t := by
  simp [isBelowB] at h; omega

/-- All targets are blocks of the function. -/
def TargetsOk (bs : List BlockD) : Prop := ∀ (k : Nat) x, bs[k]? = some x → endOkB x.fin.k x.fin.a x.fin.t x.fin.l = true ∧ ∀ t ∈ toL x.fin.k x.fin.t x.fin.l, 0 ≤ t ∧ t < (bs.length : Int)
theorem TargetsOk.sc {bs : List BlockD} (h : TargetsOk bs) : ∀ b : Nat, b < bs.length → ∀ t ∈ scF bs b, 0 ≤ t ∧ t < (bs.length : Int) := fun b hb t ht => by
  have hx : bs[b]? = some bs[b] := List.getElem?_eq_getElem hb
  rw [scF_at hx] at ht
  exact (h b _ hx).2 t ht
theorem TargetsOk.succs {bs : List BlockD} (h : TargetsOk bs) {k : Nat} {x : BlockD} (hx : bs[k]? = some x) : succsL x.fin.k x.fin.a x.fin.t x.fin.l = scF bs k := by
  rw [scF_at hx, succsL, if_pos (h k x hx).1]
end

/- domsByPreds of the program, and rows of sets. -/
section
open Go.ChangeShapes Go.WideShapes Go.ChangeAt Go.RowKit Go.Joins

def uv (n : Nat) : Value := .int .u64 (n : Int)

/-- The n sets of block q. -/
def UL (w : World) (q n : Nat) (D : List Nat) : Prop := D.length = n ∧ w.ownsRow q 47 1 (.slice (some ⟨q, 0, none⟩) n n) n (D.map uv)
theorem UL.cell {w : World} {q n k : Nat} {D : List Nat} (h : UL w q n D) (hk : k < n) : w.cell? ⟨q, k, none⟩ = some (.int .u64 ((D.getD k 0 : Nat) : Int)) := by
  have hlt : k < D.length := by rw [h.1]; exact hk
  rw [World.ownsRow.cellAt h.2 k (by omega), List.getElem?_map, List.getElem?_eq_getElem hlt, List.getD_eq_getElem?_getD, List.getElem?_eq_getElem hlt]; rfl
theorem UL.frozen {w : World} {q n : Nat} {D : List Nat} (h : UL w q n D) (k : Nat) : w.frozen? ⟨q, k, none⟩ = false := World.ownsRow.frozenAt h.2 k
theorem UL.set {w : World} {q n : Nat} {D : List Nat} (h : UL w q n D) (k x : Nat) : UL (w.setCell ⟨q, k, none⟩ (.int .u64 (x : Int))) q n (D.set k x) := by
  refine ⟨by simp [h.1], ?_⟩
  have := (World.ownsRow.stored h.2 k (uv x)).1
  rw [← List.map_set] at this
  exact this
theorem UL.fw {w w' : World} {q n : Nat} {D : List Nat} {P : Nat → Prop} (h : UL w q n D) (hf : Fw P w w') (hn : ¬ P q) : UL w' q n D :=
  ⟨h.1, own_fw h.2 hf fun k hk => by injection hk with hk; subst hk; exact hn⟩
theorem UL.lt {w : World} {q n : Nat} {D : List Nat} (h : UL w q n D) : q < w.heap.size := (World.ownsRow.lt h.2 q rfl).2
theorem UL.start (w : World) (n : Nat) (hm : n ≤ maxLen) : UL (w.alloc (.cells (madeCells #[.int .u64 0] n) 47)) w.heap.size n (List.replicate n 0) := by
  refine ⟨by simp, by simp, .inr ⟨w.heap.size, n, _, rfl, Nat.le_refl _, heap_alloc_new w _, Nat.le_refl _, hm, by simp [size_madeCells], ?_⟩⟩
  rw [toList_madeCells_one]
  simp [uv]
/-- The sum of the numbers that lie there. -/
def sumAt (w : World) (q n : Nat) : Nat := sumD ((List.range n).map fun k => match w.cell? ⟨q, k, none⟩ with
  | some (.int _ m) => m.toNat
  | _ => 0)
theorem UL.sum {w : World} {q n : Nat} {D : List Nat} (h : UL w q n D) : sumAt w q n = sumD D := by
  unfold sumAt
  congr 1
  apply List.ext_getElem?
  intro k
  by_cases hk : k < n
  · have hlt : k < D.length := by rw [h.1]; exact hk
    rw [List.getElem?_map, List.getElem?_range hk, Option.map_some, h.cell hk, List.getElem?_eq_getElem hlt, List.getD_eq_getElem?_getD, List.getElem?_eq_getElem hlt]; rfl
  · rw [List.getElem?_eq_none (by simp; omega), List.getElem?_eq_none (by rw [h.1]; omega)]

theorem all_lt {x : Nat} (h : x ≤ allBits) : x < 18446744073709551616 := Nat.lt_of_le_of_lt h (by decide)

set_option maxHeartbeats 1000000 in
theorem domsByPreds_any (D : List Nat) (q n : Nat) (v : Value) (ps : List Int) (w : World) (hD : UL w q n D) (hv : RI w v ps) (hps : ∀ p ∈ ps, 0 ≤ p ∧ p < (n : Int)) (hlt : ∀ i : Nat, D.getD i 0 ≤ allBits) :
    Calls Tryd.prog 51 #[.slice (some ⟨q, 0, none⟩) n n, v] w fun e w' => e = .returned (.int .u64 ((meetD D ps : Nat) : Int)) ∧ w = w' := by
  obtain ⟨hle, A, c, rfl, hx⟩ := hv
  go_enter Tryd.func51, Tryd.ntmps51
  go_wp2_with fail
  go_loopw [5, 10] (fun s i wr => ∃ k : Nat, k ≤ ps.length ∧ i = .int .i64 k ∧ s = .int .u64 ((meetD D (ps.take k) : Nat) : Int) ∧ wr = w) (fun _ i _ => ps.length - (intOf i).toNat)
  case atStart => exact ⟨0, Nat.zero_le _, rfl, rfl, rfl⟩
  case round =>
    obtain ⟨k, hk, rfl, rfl, rfl⟩ := hrel
    by_cases hkl : k < ps.length
    case neg =>
      obtain rfl : k = ps.length := by omega
      go_wp2_with fail
      go_ret
      exact ⟨by simp, rfl⟩
    have hxk : ps[k]? = some ps[k] := List.getElem?_eq_getElem hkl
    have hp := hps ps[k] (List.getElem_mem hkl)
    generalize ps[k] = p at hxk hp
    obtain ⟨b, off, rfl, hx'⟩ := hx (by rintro rfl; simp at hkl)
    have hc := hx' k _ hxk
    have ht := meetD_take (D := D) hxk
    obtain ⟨m, rfl⟩ : ∃ m : Nat, p = m := ⟨p.toNat, by omega⟩
    rw [Int.toNat_natCast] at ht
    have hm : m < n := by omega
    have hm' : (m : Int) < (n : Int) := by omega
    have hm0 : 0 ≤ (m : Int) := by omega
    have hcm := hD.cell hm
    have hl := all_lt (hlt m)
    have hml := all_lt (meetD_le D (ps.take k))
    generalize D.getD m 0 = d at ht hcm hl
    clear hx' hxk hp
    by_cases h0 : d = 0
    · subst h0
      rw [if_pos rfl] at ht
      have hne : ((((0 : Nat)) : Int) != 0) = false := rfl
      have HT := Lib.hid ht
      clear ht
      go_wp2_with fail
      go_roundw
      case rel => exact ⟨k + 1, by omega, by go_num, by rw [HT.out], trivial⟩
      case measure => simp [intOf]; omega
    · rw [if_neg h0] at ht
      have hne : ((d : Int) != 0) = true := by simp; omega
      have HT := Lib.hid ht
      clear ht h0
      generalize meetD D (ps.take k) = s at *
      go_wp2_with (first
        | (go_at_call 75; refine (both_any s d _ hml hl).mono ?_; rintro e w' ⟨rfl, rfl⟩))
      go_roundw
      case rel => exact ⟨k + 1, by omega, by go_num, by rw [HT.out], trivial⟩
      case measure => simp [intOf]; omega
end

/- comeTo: the walk in depth of the program. -/
section
open Go.ChangeShapes Go.WideShapes Go.ChangeAt Go.RowKit Go.Joins

theorem targets_of {f : FunD} (h : FunP f) : TargetsOk f.blocks := fun k x hx => by
  have he := (h.1.2.2.2.2 k x hx).1
  refine ⟨he.1, fun t ht => ?_⟩
  have hr := endOk_range he.1
  have h1 := he.1
  have h2 := he.2.2
  unfold toL at ht
  rcases hr with e | e | e
  · rw [e] at ht; simp at ht
  · rw [e] at ht h1
    simp at ht
    subst ht
    simp [endOkB, isBelowB] at h1
    omega
  · rw [e] at ht h1
    simp at ht
    simp [endOkB, isBelowB] at h1
    omega

/-- The walk's record W, its row q of those seen, its row of those finished. -/
structure CSt (w : World) (W q B N : Nat) (A : Option Addr) (c : Nat) (fin : Value) (st : List Bool × List Int) : Prop where
  hw : w.heap[W]? = some (.cells #[.slice A N c, .slice (some ⟨q, 0, none⟩) N N, fin] 80 (0, 0))
  hb : BL w q N st.1
  hf : OI w B fin st.2

/-- What the walk may turn. -/
def CP (W q : Nat) (fin : Value) (k : Nat) : Prop := k = W ∨ k = q ∨ fin.ownBlock = some k

theorem CSt.cells {w : World} {W q B N : Nat} {A : Option Addr} {c : Nat} {fin : Value} {st : List Bool × List Int} (h : CSt w W q B N A c fin st) :
    w.cell? ⟨W, 0, none⟩ = some (.slice A N c) ∧ w.cell? ⟨W, 1, none⟩ = some (.slice (some ⟨q, 0, none⟩) N N) ∧ w.cell? ⟨W, 2, none⟩ = some fin ∧ ∀ j, w.frozen? ⟨W, j, none⟩ = false :=
  ⟨cell_of_row w W 0 _ _ (0, 0) h.hw, cell_of_row w W 1 _ _ (0, 0) h.hw, cell_of_row w W 2 _ _ (0, 0) h.hw, fun j => by simp [World.frozen?, h.hw]⟩

theorem CSt.fw {w w' : World} {W q B N : Nat} {A : Option Addr} {c : Nat} {fin : Value} {st : List Bool × List Int} {P : Nat → Prop} (h : CSt w W q B N A c fin st) (hf : Fw P w w') (hn : ∀ k, CP W q fin k → ¬ P k) : CSt w' W q B N A c fin st :=
  ⟨(hf.block W (Array.getElem?_eq_some_iff.1 h.hw).1 (hn W (.inl rfl))).trans h.hw, h.hb.fw hf (hn q (.inr (.inl rfl))), h.hf.fw hf fun k hk => hn k (.inr (.inr hk))⟩

theorem CSt.seen {w : World} {W q B N : Nat} {A : Option Addr} {c : Nat} {fin : Value} {s : List Bool} {o : List Int} (h : CSt w W q B N A c fin (s, o)) (hq : q < B) (hWq : W ≠ q) (k : Nat) : CSt (w.setCell ⟨q, k, none⟩ (.bool true)) W q B N A c fin (s.set k true, o) :=
  ⟨(Below.heap_setCell w ⟨q, k, none⟩ _ W hWq).trans h.hw, h.hb.set k true, h.hf.grown (set_grown w q k _) (by
    rcases hob : fin.ownBlock with _ | kk
    · exact .inl rfl
    · refine .inr fun e => ?_
      injection e with e
      have := (h.hf.lt kk hob).1
      omega)⟩

theorem CSt.done {w w' : World} {W q B N : Nat} {A : Option Addr} {c : Nat} {fin fin' : Value} {s : List Bool} {o o' : List Int} (h : CSt w W q B N A c fin (s, o)) (hg : w.grownBy w' fin.ownBlock) (ho : OI w' B fin' o') (hqB : q < B) (hW : W < B) (hWq : W ≠ q) : CSt (w'.setCell ⟨W, 2, none⟩ fin') W q B N A c fin' (s, o') := by
  have hne : ∀ k, k < B → some k ≠ fin.ownBlock := fun k hk e => by have := (h.hf.lt k e.symm).1; omega
  have h1 := (hg.block W (Array.getElem?_eq_some_iff.1 h.hw).1 (hne W hW)).trans h.hw
  refine ⟨heap_setCell_same w' W 2 _ _ _ h1, ?_, ?_⟩
  · have hb1 : BL w' q N s := h.hb.fw (Fw.grown (P := fun k => fin.ownBlock = some k) hg fun g e _ => e) fun e => hne q hqB e.symm
    exact hb1.fw (Fw.set (P := fun k => k = W) w' rfl 2 fin') fun e => hWq e.symm
  · exact ho.grown (set_grown w' W 2 _) (by
      rcases hob : fin'.ownBlock with _ | kk
      · exact .inl rfl
      · refine .inr fun e => ?_
        injection e with e
        have := (ho.lt kk hob).1
        omega)

def ComeTo (w : World) (W q B N : Nat) (A : Option Addr) (c : Nat) (fin : Value) (st : List Bool × List Int) (e : Ending) (w' : World) : Prop :=
  ∃ v fin', e = .returned v ∧ CSt w' W q B N A c fin' st ∧ Fw (CP W q fin) w w' ∧ (fin'.ownBlock = fin.ownBlock ∨ ∃ k, fin'.ownBlock = some k ∧ w.heap.size ≤ k)

set_option maxRecDepth 10000 in
set_option maxHeartbeats 2000000 in
theorem comeTo_any (bs : List BlockD) (b0 off : Nat) (c : Nat) (Z : Zn) (W q B K : Nat) (ht : TargetsOk bs) (hn : bs.length ≤ 1000) (hK : K ≤ 1000000) (hD : ∀ b, Z.D b → b < B ∧ b ≠ W ∧ b ≠ q) (hW : W < B) (hq : q < B) (hWq : W ≠ q) :
    ∀ (n b : Nat) (w : World) (fin : Value) (st : List Bool × List Int), CSt w W q B bs.length (some ⟨b0, off, none⟩) c fin st → Row w Z 8 (EBlock w Z) (.slice (some ⟨b0, off, none⟩) bs.length c) bs → B ≤ w.heap.size → Inv bs.length K st → cf st.1 ≤ n → st.1[b]? = some false →
    Calls Tryd.prog 74 #[.pointer (some ⟨W, 0, none⟩), .int .i64 b] w (ComeTo w W q B bs.length (some ⟨b0, off, none⟩) c fin (dfs (scF bs) n b st)) := by
  intro n
  induction n with
  | zero => intro b w fin st _ _ _ _ hcf hb; have := cf_pos hb; omega
  | succ n ih =>
    intro b w fin st hst hrow hBw hinv hcf hb
    obtain ⟨s, o⟩ := st
    have hsc := Lib.hid ht.sc
    have hbN : b < bs.length := by rw [← hinv.len]; exact (List.getElem?_eq_some_iff.1 hb).1
    have hbN' : (b : Int) < (bs.length : Int) := by omega
    have hb0 : 0 ≤ (b : Int) := by omega
    have h1000 : (bs.length : Int) ≤ 1000 := by omega
    obtain ⟨c0, c1, c2, cz⟩ := hst.cells
    have q0 := hst.hb.cell hb
    have qz := hst.hb.frozen b
    have HS1 := Lib.hid (hst.seen hq hWq b)
    obtain ⟨e0, e1, e2, ez⟩ := HS1.out.cells
    have HINV1 : Hid (Inv bs.length K (s.set b true, o)) := ⟨by have := hinv.len; simpa using this, by have h1 := hinv.cap; have h2 := cf_set hb; show o.length + cf (s.set b true) ≤ K; simp only at h1 h2; omega, hinv.mem⟩
    have HCF1 : Hid (cf (s.set b true) ≤ n) := by have h2 := cf_set hb; simp only at h2 hcf; show _ ≤ _; omega
    have hxk : bs[b]? = some bs[b] := List.getElem?_eq_getElem hbN
    generalize bs[b] = x at hxk
    have HROW := Lib.hid hrow
    obtain ⟨_, A', c', he, hx⟩ := hrow
    obtain ⟨b', off', eA, hDb, hrow'⟩ := hx (by intro h; rw [h] at hbN; simp at hbN)
    injection he with he _ hcc
    subst hcc
    subst eA
    injection he with he
    injection he with he1 he2 _
    subst he1 he2
    obtain ⟨cs, hE, hcs⟩ := hrow' b x hxk
    obtain ⟨_, _, _, _, rfl, _⟩ := hE
    have hDb' := hD b0 hDb
    have c4 : (w.setCell ⟨q, b, none⟩ (.bool true)).cell? ⟨b0, off + b * 8 + 4, none⟩ = some (.int .i64 x.fin.k) := (World.cell?_setCell_other _ _ _ _ (by intro e; injection e with e1 e2; omega)).trans (hcs 4 _ rfl).1
    have c5 : (w.setCell ⟨q, b, none⟩ (.bool true)).cell? ⟨b0, off + b * 8 + 4 + 1, none⟩ = some (.int .i64 x.fin.a) := (World.cell?_setCell_other _ _ _ _ (by intro e; injection e with e1 e2; omega)).trans (hcs 5 _ rfl).1
    have c6 : (w.setCell ⟨q, b, none⟩ (.bool true)).cell? ⟨b0, off + b * 8 + 4 + 2, none⟩ = some (.int .i64 x.fin.t) := (World.cell?_setCell_other _ _ _ _ (by intro e; injection e with e1 e2; omega)).trans (hcs 6 _ rfl).1
    have c7 : (w.setCell ⟨q, b, none⟩ (.bool true)).cell? ⟨b0, off + b * 8 + 4 + 3, none⟩ = some (.int .i64 x.fin.l) := (World.cell?_setCell_other _ _ _ _ (by intro e; injection e with e1 e2; omega)).trans (hcs 7 _ rfl).1
    have HSU := Lib.hid (ht.succs hxk)
    have HST := Lib.hid hst
    have HRNG := Lib.hid (ht.sc b hbN)
    have hs1 : (w.setCell ⟨q, b, none⟩ (.bool true)).heap.size = w.heap.size := nblk_set _ _ _
    have HF1 := Lib.hid (Fw.set (P := CP W q fin) w (.inr (.inl rfl)) b (.bool true))
    clear hst hcs hx hrow' hxk hb hcf hinv c2 e2
    go_enter Tryd.func74, Tryd.ntmps74
    go_wp2_with fail
    refine (SuccsOf_any _ _ _ _ _).mono ?_
    rintro e w2 ⟨r, rfl, hr, hb2⟩
    have HS2 : Hid (CSt w2 W q B bs.length (some ⟨b0, off, none⟩) c fin (s.set b true, o)) := HS1.out.fw (Fw.below (P := fun _ => False) hb2) (fun _ _ h => h)
    have HF2 : Hid (Fw (CP W q fin) w w2) := HF1.out.trans (Fw.below (P := fun _ => False) hb2) (fun _ _ h => h.elim)
    rw [HSU.out, hs1] at hr
    obtain ⟨us, hus⟩ : ∃ us, us = scF bs b := ⟨_, rfl⟩
    rw [← hus] at hr HRNG
    have HUS := Lib.hid hus
    have hul := hr.ri.1
    have hz2 := HF2.out.size
    have HU2 := Lib.hid hr
    obtain ⟨_, A5, c5', rfl, _⟩ := hr.ri
    clear hb2 hr hus e0 e1 ez c4 c5 c6 c7 c0 c1 q0 qz cz hs1 HS1 HF1
    go_wp2_with fail
    go_loopw [22] (fun i wr => ∃ (m : Nat) (fin' : Value), m ≤ us.length ∧ i = .int .i64 m ∧ Hid (CSt wr W q B bs.length (some ⟨b0, off, none⟩) c fin' (dlist (scF bs) n (us.take m) (s.set b true, o))) ∧ Hid (Fw (CP W q fin) w wr) ∧ Hid (OI wr w.heap.size (.slice A5 us.length c5') us) ∧ Hid (fin'.ownBlock = fin.ownBlock ∨ ∃ k, fin'.ownBlock = some k ∧ w2.heap.size ≤ k) ∧ w2.heap.size ≤ wr.heap.size) (fun i _ => us.length - (intOf i).toNat)
    case atStart => exact ⟨0, fin, Nat.zero_le _, rfl, HS2.out, HF2.out, HU2.out, .inl rfl, Nat.le_refl _⟩
    case round =>
      obtain ⟨m, fin', hm, rfl, HS, HF, HU, HA, hsz⟩ := hrel
      have HINV : Hid (Inv bs.length K (dlist (scF bs) n (us.take m) (s.set b true, o)) ∧ cf (dlist (scF bs) n (us.take m) (s.set b true, o)).1 ≤ n) := by
        have h := dlist_inv hsc.out n (us.take m) (s.set b true, o) (fun t ht => HRNG.out t (List.mem_of_mem_take ht)) HINV1.out
        exact ⟨h.1, Nat.le_trans h.2.1 HCF1.out⟩
      by_cases hml : m < us.length
      case neg =>
        obtain rfl : m = us.length := by omega
        have HDF : Hid (dfs (scF bs) (n + 1) b (s, o) = ((dlist (scF bs) n (us.take us.length) (s.set b true, o)).1, (dlist (scF bs) n (us.take us.length) (s.set b true, o)).2 ++ [(b : Int)])) := by
          rw [Hid, List.take_length, HUS.out, dfs_succ, Int.toNat_natCast]
        generalize dlist (scF bs) n (us.take us.length) (s.set b true, o) = st' at HS HINV HDF
        obtain ⟨s', o'⟩ := st'
        obtain ⟨d0, d1, d2, dz⟩ := HS.out.cells
        have hol : o'.length ≤ 1000000 := by have := HINV.out.1.cap; simp only at this; omega
        have HO := Lib.hid HS.out.hf
        have hWr : W < wr.heap.size := by omega
        have hneW : some W ≠ fin'.ownBlock := fun e => by have := (HO.out.lt W e.symm).1; omega
        have hlt' := HO.out.lt
        have HLT := Lib.hid hlt'
        clear hlt'
        have hBr : B ≤ wr.heap.size := by omega
        obtain ⟨_, A6, c6, rfl, _⟩ := HS.out.hf.ri
        clear d0 d1
        go_wp2_with (at_builtin; go_must (refine wpList_append_int rfl (.tmp 42) (.tmp 44) rfl B _ o' b wr rfl HO.out rfl (by omega) (by omega) ?_; intro v' w9 hown9 hg9 hat9; have HO9 := Lib.hid hown9; have HG9 := Lib.hid hg9; have HA9 := Lib.hid hat9; obtain ⟨_, A8, q8, rfl, _⟩ := hown9.ri; have x2 := (World.cell?_of_block (a := ⟨W, 2, none⟩) (hg9.block _ hWr hneW)).trans d2; have xf := (World.frozen?_of_block (a := ⟨W, 2, none⟩) (hg9.block _ hWr hneW)).trans (dz 2); clear hown9 hg9 hat9))
        go_end0
        have el : (o' ++ [(b : Int)]).length = o'.length + 1 := by simp
        have HA9' := HA9.out
        have HS9 := HS.out.done HG9.out HO9.out hq hW hWq
        rw [el] at HS9 HA9'
        refine ⟨_, .slice A8 (o'.length + 1) q8, rfl, ?_, ?_, ?_⟩
        · rw [HDF.out]
          exact HS9
        · refine (HF.out.trans (Fw.grown (P := CP W q (.slice A6 o'.length c6)) HG9.out fun g e _ => .inr (.inr e)) ?_).trans (Fw.set (P := fun k => k = W) w9 rfl 2 _) fun i _ e => .inl e
          intro i hi hP
          rcases hP with e | e | e
          · exact .inl e
          · exact .inr (.inl e)
          · rcases HA.out with h | ⟨k, h, hk⟩
            · exact .inr (.inr (h ▸ e))
            · rw [h] at e
              injection e with e
              omega
        · rcases HA9' with h | ⟨k, h, hk⟩
          · rcases HA.out with h' | ⟨k, h', hk⟩
            · exact .inl (h.trans h')
            · exact .inr ⟨k, h.trans h', by omega⟩
          · exact .inr ⟨k, h, by omega⟩
      have hum : us[m]? = some us[m] := List.getElem?_eq_getElem hml
      have hur := HRNG.out us[m] (List.getElem_mem hml)
      generalize us[m] = u at hum hur
      obtain ⟨k2, rfl⟩ : ∃ k2 : Nat, u = k2 := ⟨u.toNat, by omega⟩
      have hk2 : k2 < bs.length := by omega
      have hk2' : (k2 : Int) < (bs.length : Int) := by omega
      have hk20 : 0 ≤ (k2 : Int) := by omega
      obtain ⟨_, A5', c5'', he5, hux⟩ := HU.out.ri
      injection he5 with q1 _ q2
      subst q1 q2
      obtain ⟨b', off', rfl, hcell⟩ := hux (by rintro rfl; simp at hml)
      have p0 := hcell m _ hum
      have HDT : Hid (dlist (scF bs) n (us.take (m + 1)) (s.set b true, o) = dstep (scF bs) n (dlist (scF bs) n (us.take m) (s.set b true, o)) k2) := dlist_take _ _ hum _
      generalize dlist (scF bs) n (us.take m) (s.set b true, o) = st' at HS HINV HDT
      obtain ⟨s', o'⟩ := st'
      have hk2l : k2 < s'.length := by have := HINV.out.1.len; simp only at this; omega
      have hs' : s'[k2]? = some s'[k2] := List.getElem?_eq_getElem hk2l
      generalize s'[k2] = bb at hs'
      obtain ⟨d0, d1, d2, dz⟩ := HS.out.cells
      have g0 := HS.out.hb.cell hs'
      have Hs' := Lib.hid hs'
      have hsa := seenAt_of hs'
      clear hcell hux hum hur d0 d2 dz hs'
      cases bb
      case true =>
        have HDE : Hid (dlist (scF bs) n (us.take (m + 1)) (s.set b true, o) = (s', o')) := by rw [Hid, HDT.out, dstep, hsa, if_pos rfl]
        clear hsa
        go_wp2_with fail
        go_roundw
        case rel => exact ⟨m + 1, fin', by omega, by go_num, by rw [HDE.out]; exact HS.out, HF.out, HU.out, HA.out, hsz⟩
        case measure => simp [intOf]; omega
      have HDE : Hid (dlist (scF bs) n (us.take (m + 1)) (s.set b true, o) = dfs (scF bs) n k2 (s', o')) := by rw [Hid, HDT.out, dstep, hsa, if_neg (by decide)]
      have HR := Lib.hid (HROW.out.keep (Z' := Z) ⟨fun _ h => h, fun h => h, fun b1 hb1 => HF.out.block b1 (by have := (hD b1 hb1).1; omega) (by
        have h1 := hD b1 hb1
        rintro (e | e | e)
        · exact h1.2.1 e
        · exact h1.2.2 e
        · have := (HST.out.hf.lt b1 e).1; omega)⟩ fun _ _ h => h.keep ⟨fun _ h => h, fun h => h, fun b1 hb1 => HF.out.block b1 (by have := (hD b1 hb1).1; omega) (by
        have h1 := hD b1 hb1
        rintro (e | e | e)
        · exact h1.2.1 e
        · exact h1.2.2 e
        · have := (HST.out.hf.lt b1 e).1; omega)⟩)
      clear hsa
      go_wp2_with fail
      refine (ih k2 _ fin' (s', o') HS.out HR.out (by omega) HINV.out.1 HINV.out.2 Hs'.out).mono ?_
      rintro e w3 ⟨_, fin3, rfl, hS3, hF3, hA3⟩
      have hz3 := hF3.size
      have HS3 := Lib.hid hS3
      have HF3 : Hid (Fw (CP W q fin) w w3) := HF.out.trans hF3 (by
        rintro i hi (e | e | e)
        · exact .inl e
        · exact .inr (.inl e)
        · rcases HA.out with h | ⟨k, h, hk⟩
          · exact .inr (.inr (h ▸ e))
          · rw [h] at e
            injection e with e
            omega)
      have HU3 : Hid (OI w3 w.heap.size (.slice (some ⟨b', off', none⟩) us.length c5') us) := HU.out.fw hF3 (by
        intro k hk
        have h1 := HU.out.lt k hk
        have h2 := (HU2.out.lt k hk).2
        rintro (e | e | e)
        · omega
        · omega
        · rcases HA.out with h | ⟨k', h, hk'⟩
          · have := (HST.out.hf.lt k (h ▸ e)).2
            omega
          · rw [h] at e
            injection e with e
            omega)
      have HA3 : Hid (fin3.ownBlock = fin.ownBlock ∨ ∃ k, fin3.ownBlock = some k ∧ w2.heap.size ≤ k) := by
        rcases hA3 with h | ⟨k, h, hk⟩
        · rcases HA.out with h' | ⟨k, h', hk⟩
          · exact .inl (h.trans h')
          · exact .inr ⟨k, h.trans h', hk⟩
        · exact .inr ⟨k, h, by omega⟩
      clear hS3 hF3 hA3 p0 g0 d1
      go_wp2_with fail
      go_roundw
      case rel => exact ⟨m + 1, fin3, by omega, by go_num, by rw [HDE.out]; exact HS3.out, HF3.out, HU3.out, HA3.out, by omega⟩
      case measure => simp [intOf]; omega
end

/- walkFromStart and Reached of the program. -/
section
open Go.ChangeShapes Go.WideShapes Go.ChangeAt Go.RowKit Go.Joins

theorem info_boolr : (Tryd.prog.info? 4).map (fun i => (i.zero, i.size, i.bytes)) = some (some (.bool false), 1, 1) := by kernel_rfl

def GivesWalk (bs : List BlockD) (v : Value) (w : World) (e : Ending) (w' : World) : Prop :=
  ∃ q fin, e = .returned (.agg #[v, .slice (some ⟨q, 0, none⟩) bs.length bs.length, fin]) ∧ BL w' q bs.length (dfs0 (scF bs) bs.length).1 ∧ OI w' w.heap.size fin (dfs0 (scF bs) bs.length).2 ∧ w.heap.size ≤ q ∧ Below w.heap.size w w'

set_option maxRecDepth 10000 in
set_option maxHeartbeats 2000000 in
theorem walkFromStart_any (bs : List BlockD) (v : Value) (w : World) (Z : Zn) (hv : Row w Z 8 (EBlock w Z) v bs) (hD : ∀ b, Z.D b → b < w.heap.size) (ht : TargetsOk bs) (h1 : 1 ≤ bs.length) (hn : bs.length ≤ 1000) :
    Calls Tryd.prog 48 #[v] w (GivesWalk bs v w) := by
  have HV := Lib.hid hv
  obtain ⟨_, A, c, rfl, hx⟩ := hv
  obtain ⟨b0, off, rfl, hDb, _⟩ := hx (by intro h; rw [h] at h1; simp at h1)
  clear hx
  obtain ⟨i0, hi, hz0, hz1, hz2⟩ := info_parts info_boolr
  have hmk := fun W => run_make_rowN (P := Tryd.prog) 78 4 i0 _ Tryd.underlying78 hi hz0 .i64 .i64 bs.length bs.length (Nat.le_refl _) (by rw [hz2]; omega) (by omega) W
  rw [hz1] at hmk
  clear hi hz0 hz1 hz2
  obtain ⟨w3, hw3⟩ : ∃ w3, w3 = (((w.alloc (.cells #[.slice none 0 0, .slice none 0 0, .slice none 0 0] 80)).alloc (.cells (madeCells #[.bool false] bs.length) 4)).alloc (.cells #[.slice (some ⟨b0, off, none⟩) bs.length c, .slice (some ⟨w.heap.size + 1, 0, none⟩) bs.length bs.length, .slice none 0 0] 80)) := ⟨_, rfl⟩
  have hz3 : w3.heap.size = w.heap.size + 1 + 1 + 1 := by rw [hw3]; simp
  have HB3 : Hid (Below w.heap.size w w3) := by rw [hw3]; exact (((Below.refl _ _).alloc (Nat.le_refl _) _).alloc (by simp) _).alloc (by simp; omega) _
  have HR0 : Hid (w3.heap[w.heap.size]? = some (.cells #[.slice none 0 0, .slice none 0 0, .slice none 0 0] 80 (0, 0))) := by
    rw [hw3, Hid, Below.heap_alloc _ _ _ (by simp; omega), Below.heap_alloc _ _ _ (by simp)]
    exact heap_alloc_new w _
  have HS : Hid (CSt w3 (w.heap.size + 1 + 1) (w.heap.size + 1) (w.heap.size + 1 + 1 + 1) bs.length (some ⟨b0, off, none⟩) c (.slice none 0 0) (List.replicate bs.length false, [])) := by
    rw [hw3]
    have hs1 : (w.alloc (.cells #[.slice none 0 0, .slice none 0 0, .slice none 0 0] 80)).heap.size = w.heap.size + 1 := by simp
    have hs2 : ((w.alloc (.cells #[.slice none 0 0, .slice none 0 0, .slice none 0 0] 80)).alloc (.cells (madeCells #[.bool false] bs.length) 4)).heap.size = w.heap.size + 1 + 1 := by simp
    have hb := BL.start (w.alloc (.cells #[.slice none 0 0, .slice none 0 0, .slice none 0 0] 80)) bs.length (by rw [maxLen_is]; omega)
    rw [hs1] at hb
    refine ⟨?_, hb.fw (Fw.alloc (fun _ => False) _ _) (fun h => h), World.ownsRow_nil _ _ _ _⟩
    have := heap_alloc_new ((w.alloc (.cells #[.slice none 0 0, .slice none 0 0, .slice none 0 0] 80)).alloc (.cells (madeCells #[.bool false] bs.length) 4)) (.cells #[.slice (some ⟨b0, off, none⟩) bs.length c, .slice (some ⟨w.heap.size + 1, 0, none⟩) bs.length bs.length, .slice none 0 0] 80)
    rw [hs2] at this
    exact this
  have HV3 := Lib.hid (HV.out.keep (Kept.below HB3.out hD) fun _ _ h => h.keep (Kept.below HB3.out hD))
  have HW3 := Lib.hid hw3
  clear hw3
  go_enter Tryd.func48, Tryd.ntmps48
  go_wp2_with fail
  rw [← HW3.out]
  refine (comeTo_any bs b0 off c Z (w.heap.size + 1 + 1) (w.heap.size + 1) (w.heap.size + 1 + 1 + 1) bs.length ht hn (by omega) (fun b hb => by have := hD b hb; omega) (by omega) (by omega) (by omega) bs.length 0 w3 (.slice none 0 0) (List.replicate bs.length false, []) HS.out HV3.out (by omega) (inv0 _) (by show cf (List.replicate bs.length false) ≤ bs.length; rw [cf_replicate]; omega) (get_replicate h1)).mono ?_
  rintro e w4 ⟨_, fin4, rfl, hS4, hF4, -⟩
  have hz4 := hF4.size
  have HS4 : Hid (CSt w4 (w.heap.size + 1 + 1) (w.heap.size + 1) (w.heap.size + 1 + 1 + 1) bs.length (some ⟨b0, off, none⟩) c fin4 (dfs0 (scF bs) bs.length)) := hS4
  have HB4 : Hid (Below w.heap.size w w4) := HB3.out.trans (hF4.toBelow (by omega) (by rintro k hk (e | e | e) <;> first | omega | cases e))
  have HR4 := (hF4.block w.heap.size (by omega) (by rintro (e | e | e) <;> first | omega | cases e)).trans HR0.out
  have r0 : w4.cell? ⟨w.heap.size, 0, none⟩ = some (.slice none 0 0) := cell_of_row w4 _ 0 _ _ (0, 0) HR4
  have r1 : w4.cell? ⟨w.heap.size, 1, none⟩ = some (.slice none 0 0) := cell_of_row w4 _ 1 _ _ (0, 0) HR4
  have r2 : w4.cell? ⟨w.heap.size, 2, none⟩ = some (.slice none 0 0) := cell_of_row w4 _ 2 _ _ (0, 0) HR4
  have rz : ∀ j, w4.frozen? ⟨w.heap.size, j, none⟩ = false := fun j => by simp [World.frozen?, HR4]
  have rz0 := rz 0
  have rz1 := rz 1
  have rz2 := rz 2
  obtain ⟨d0, d1, d2, _⟩ := HS4.out.cells
  obtain ⟨_, A4, c4, rfl, _⟩ := HS4.out.hf.ri
  clear hS4 hF4 HR4 rz
  go_wp2_with fail
  refine bodyPost_ret (v := .agg #[.slice (some ⟨b0, off, none⟩) bs.length c, .slice (some ⟨w.heap.size + 1, 0, none⟩) bs.length bs.length, .slice A4 (dfs0 (scF bs) bs.length).2.length c4]) (by simp [results, Tryd.results48, go_sem, r0, r1, r2]) rfl ⟨_, _, rfl, ?_, ?_, by omega, ?_⟩
  · exact ((HS4.out.hb.fw (Fw.set (P := fun k => k = w.heap.size) w4 rfl 0 _) (by omega)).fw (Fw.set (P := fun k => k = w.heap.size) _ rfl 1 _) (by omega)).fw (Fw.set (P := fun k => k = w.heap.size) _ rfl 2 _) (by omega)
  · have hlo := fun k hk => (HS4.out.hf.lt k hk).1
    exact World.ownsRow.mono (((HS4.out.hf.fw (Fw.set (P := fun k => k = w.heap.size) w4 rfl 0 _) (fun k hk => by have := hlo k hk; omega)).fw (Fw.set (P := fun k => k = w.heap.size) _ rfl 1 _) (fun k hk => by have := hlo k hk; omega)).fw (Fw.set (P := fun k => k = w.heap.size) _ rfl 2 _) (fun k hk => by have := hlo k hk; omega)) (by omega)
  · exact ((HB4.out.setCell (Nat.le_refl _) _).setCell (Nat.le_refl _) _).setCell (Nat.le_refl _) _
end

/- slices.Reverse at a row of the call's own; the model's loop that builds the same list. -/
section
open Go.ChangeShapes Go.WideShapes Go.ChangeAt Go.RowKit Go.Joins

/-- The first i and the last i have changed their places. -/
def revK (xs : List Int) (i : Nat) : List Int := (List.range xs.length).map fun k => if k < i ∨ xs.length - i ≤ k then xs.getD (xs.length - 1 - k) 0 else xs.getD k 0
theorem revK_len (xs : List Int) (i : Nat) : (revK xs i).length = xs.length := by simp [revK]
theorem revK_get (xs : List Int) (i : Nat) {k : Nat} (hk : k < xs.length) : (revK xs i)[k]? = some (if k < i ∨ xs.length - i ≤ k then xs.getD (xs.length - 1 - k) 0 else xs.getD k 0) := by simp [revK, hk]
theorem getD_some {xs : List Int} {k : Nat} (hk : k < xs.length) : xs[k]? = some (xs.getD k 0) := by
  rw [List.getD_eq_getElem?_getD, List.getElem?_eq_getElem hk]; rfl
theorem revK_zero (xs : List Int) : revK xs 0 = xs := by
  apply List.ext_getElem?
  intro k
  by_cases hk : k < xs.length
  · rw [revK_get xs 0 hk, if_neg (by omega), getD_some hk]
  · rw [List.getElem?_eq_none (by rw [revK_len]; omega), List.getElem?_eq_none (by omega)]
theorem revK_end (xs : List Int) {i : Nat} (hi : xs.length ≤ 2 * i + 1) : revK xs i = xs.reverse := by
  apply List.ext_getElem?
  intro k
  by_cases hk : k < xs.length
  · rw [revK_get xs i hk, List.getElem?_reverse hk, getD_some (by omega)]
    split
    · rfl
    · rename_i h
      have : k = xs.length - 1 - k := by omega
      rw [← this]
  · rw [List.getElem?_eq_none (by rw [revK_len]; omega), List.getElem?_eq_none (by simp; omega)]
theorem revK_step (xs : List Int) {i : Nat} (hi : 2 * i + 1 < xs.length) :
    (((revK xs i).map iv).set i (iv (xs.getD (xs.length - 1 - i) 0))).set (xs.length - 1 - i) (iv (xs.getD i 0)) = (revK xs (i + 1)).map iv := by
  apply List.ext_getElem?
  intro k
  have hl : ((revK xs i).map iv).length = xs.length := by simp [revK_len]
  rw [List.getElem?_set, List.length_set, hl, List.getElem?_set, hl, List.getElem?_map, List.getElem?_map]
  by_cases hk : k < xs.length
  · rw [revK_get xs i hk, revK_get xs (i + 1) hk]
    by_cases e1 : xs.length - 1 - i = k
    · subst e1
      rw [if_pos rfl, if_pos (by omega), if_pos (by omega), Option.map_some]
      congr 3; omega
    · rw [if_neg e1]
      by_cases e2 : i = k
      · subst e2
        rw [if_pos rfl, if_pos (by omega), if_pos (by omega)]; rfl
      · rw [if_neg e2]
        by_cases h : k < i ∨ xs.length - i ≤ k
        · rw [if_pos h, if_pos (by omega)]
        · rw [if_neg h, if_neg (by omega)]
  · rw [List.getElem?_eq_none (l := revK xs i) (by rw [revK_len]; omega), List.getElem?_eq_none (l := revK xs (i + 1)) (by rw [revK_len]; omega), if_neg (by omega), if_neg (by omega)]

theorem grown_drew {a b : World} {r : Option Nat} (h : a.grownBy b r) : a.grownBy b.drew r := ⟨h.os, h.tape, h.output, h.size, h.block⟩

set_option maxHeartbeats 400000 in
theorem Reverse_any (B : Nat) (v : Value) (xs : List Int) (w : World) (hv : OI w B v xs) :
    Calls Tryd.prog 49 #[v] w fun e w' => (∃ u, e = .returned u) ∧ OI w' B v xs.reverse ∧ w.grownBy w' v.ownBlock := by
  have hlen := hv.ri.1
  by_cases h0 : xs.length = 0
  · obtain rfl := List.length_eq_zero_iff.1 h0
    obtain ⟨_, A, c, rfl, _⟩ := hv.ri
    simp only [List.length_nil] at *
    go_enter Tryd.func49, Tryd.ntmps49
    go_wp2
    go_loopw [2, 3] (fun i q wr => i = .int .i64 0 ∧ q = .int .i64 (-1) ∧ wr = w) (fun _ _ _ => 0)
    case atStart => exact ⟨rfl, rfl, rfl⟩
    case round =>
      obtain ⟨rfl, rfl, rfl⟩ := hrel
      go_wp2
      go_end0
      exact ⟨⟨_, rfl⟩, hv, World.grownBy.refl _ _⟩
  · obtain ⟨g, cap, rfl, hBg, hg⟩ := World.ownsRow.form hv (by omega)
    have HV := Lib.hid hv
    clear hv
    have hpos : 0 < xs.length := by omega
    clear h0
    go_enter Tryd.func49, Tryd.ntmps49
    go_wp2
    go_loopw [2, 3] (fun i q wr => ∃ (k : Nat) (jz : Int), k ≤ xs.length ∧ i = .int .i64 k ∧ q = .int .i64 jz ∧ jz = (xs.length : Int) - 1 - (k : Int) ∧ Hid (wr.ownsRow B 2 1 (.slice (some ⟨g, 0, none⟩) xs.length cap) xs.length ((revK xs k).map iv)) ∧ Hid (w.grownBy wr (some g))) (fun i _ _ => xs.length - (intOf i).toNat)
    case atStart => exact ⟨0, _, Nat.zero_le _, rfl, rfl, by omega, (by rw [revK_zero]; exact HV.out), World.grownBy.refl _ _⟩
    case round =>
      obtain ⟨k, jz, hk, rfl, rfl, hjz, HO, HG⟩ := hrel
      have HJ := Lib.hid hjz
      by_cases hlt : 2 * k + 1 < xs.length
      · obtain ⟨jn, rfl⟩ : ∃ jn : Nat, jz = jn := ⟨jz.toNat, by omega⟩
        have hjn : jn = xs.length - 1 - k := by omega
        have h1 : (k : Int) < (jn : Int) := by omega
        have h2 : (jn : Int) < (xs.length : Int) := by omega
        have h3 : 0 ≤ (k : Int) := by omega
        have h4 : (k : Int) < (xs.length : Int) := by omega
        have h5 : 0 ≤ (jn : Int) := by omega
        have hci : wr.cell? ⟨g, k, none⟩ = some (.int .i64 (xs.getD k 0)) := by
          rw [World.ownsRow.cellAt HO.out k (by omega), List.getElem?_map, revK_get xs k (by omega), if_neg (by omega)]; rfl
        have hcj : wr.cell? ⟨g, jn, none⟩ = some (.int .i64 (xs.getD jn 0)) := by
          rw [World.ownsRow.cellAt HO.out jn (by omega), List.getElem?_map, revK_get xs k (by omega), if_neg (by omega)]; rfl
        have hfi : wr.frozen? ⟨g, k, none⟩ = false := World.ownsRow.frozenAt HO.out k
        have hfj : wr.frozen? ⟨g, jn, none⟩ = false := World.ownsRow.frozenAt HO.out jn
        have HJN := Lib.hid hjn
        generalize hx : xs.getD k 0 = x at *
        generalize hy : xs.getD jn 0 = y at *
        have HX := Lib.hid hx
        have HY := Lib.hid hy
        clear hjz hjn hx hy
        go_wp2
        go_region
        go_wp2
        go_roundw
        case rel =>
          refine ⟨k + 1, (jn : Int) - 1, by omega, by go_num, rfl, by have := HJN.out; omega, ?_, ?_⟩
          · have h := (World.ownsRow.stored (World.ownsRow.stored HO.out k (iv y)).1 jn (iv x)).1
            have hs := revK_step xs (i := k) (by have := HJN.out; omega)
            rw [← HJN.out, HX.out, HY.out] at hs
            rw [hs] at h
            exact h
          · exact grown_drew (World.grownBy.trans (World.grownBy.trans HG.out (World.ownsRow.stored HO.out k (iv y)).2) (World.ownsRow.stored (World.ownsRow.stored HO.out k (iv y)).1 jn (iv x)).2)
        case measure => simp [intOf]; omega
      · have hge : jz ≤ (k : Int) := by omega
        clear hjz
        go_wp2
        go_end0
        refine ⟨⟨_, rfl⟩, ?_, HG.out⟩
        have h := HO.out
        rw [revK_end xs (by omega)] at h
        unfold OI
        rw [List.length_reverse]
        exact h
end

end Go.Proofs.YteikpekffgifoaaDoor
