/- M7, Dfs, Fr, PredsP, Pk, joined. -/
import Derived.Test.YtnjmlhokkhkaaaaGreatQ2
import Derived.Test.YtnjmlhokkhkaaaaGreatQ4
import Derived.Test.YtnjmlhokkhkaaaaGreatQ5
import Derived.WalkKit
namespace Go.Proofs.YtnjmlhokkhkaaaaGreat

/- FunOk and PredsOf of the program. -/
section
open Go.ChangeShapes Go.WideShapes Go.ChangeAt Go.RowKit Go.Joins

def predsI (f : FunD) (j : Int) : List Int := predsK succsE f.blocks f.blocks.length j
theorem predsI_len (f : FunD) (j : Int) : (predsI f j).length ≤ f.blocks.length := predsK_len _ _ _ _
theorem predsI_eq {f : FunD} (h : ∀ (j : Nat) x, f.blocks[j]? = some x → endOkB x.fin.k x.fin.a x.fin.t x.fin.l = true) (j : Int) : predsI f j = predsF f j :=
  predsK_congr (fun i x hx => by show succsL _ _ _ _ = toL _ _ _; simp [succsL, h i x hx]) _ _
theorem funP_of {f : FunD} (hh : FrameHead f) (h0 : ∀ x, f.blocks[0]? = some x → x.phis = []) (hp : predsI f 0 = []) (hall : ∀ (j : Nat) x, f.blocks[j]? = some x → BlockAll f.names f.blocks.length (predsI f j).length x) : FunP f := by
  have hE := predsI_eq (f := f) fun j x hx => (hall j x hx).2.1.1
  refine ⟨⟨hh.1, hh.2.1, hh.2.2.1, hh.2.2.2, fun j x hx => (hall j x hx).2⟩, (hE 0).symm.trans hp, h0, fun i x hx => ?_⟩
  rw [← hE]; exact (hall i x hx).1
theorem funP_preds {f : FunD} (h : FunP f) (j : Int) : predsI f j = predsF f j := predsI_eq (fun j x hx => (h.1.2.2.2.2 j x hx).1.1) j
theorem funP_block {f : FunD} (h : FunP f) {j : Nat} {x : BlockD} (hx : f.blocks[j]? = some x) : BlockAll f.names f.blocks.length (predsI f j).length x :=
  ⟨by rw [funP_preds h]; exact h.2.2.2 j x hx, h.1.2.2.2.2 j x hx⟩

set_option maxRecDepth 10000 in
set_option maxHeartbeats 2000000 in
theorem FunOk_any (f : FunD) (v : Value) (w : World) (Z : Zn) (hv : EFun w Z f v) (hD : ∀ b, Z.D b → b < w.heap.size) (hn : f.blocks.length ≤ 1048576) : Calls Tryz.prog 58 #[v] w (GivesB (FunP f) w) := by
  have HF := Lib.hid hv
  obtain ⟨u, rfl, hu⟩ := hv
  obtain ⟨hle, A, c, rfl, hx⟩ := hu
  go_enter Tryz.func58, Tryz.ntmps58
  go_wp2_with fail
  refine (sizesOk_any f _ _ _ hle).mono ?_
  rintro e w1 ⟨r, rfl, hr, hb1⟩
  have HR := Lib.hid hr
  have HB1 := Lib.hid (hb1.mono (B' := w.heap.size + 1) (by simp))
  have HB01 : Hid (Below w.heap.size w w1) := ((Below.refl _ _).alloc (Nat.le_refl _) _).trans (HB1.out.mono (by omega))
  have hz1 : w.heap.size + 1 ≤ w1.heap.size := by have := hb1.size; simp at this; omega
  obtain ⟨hc1, hf1⟩ := bcellB HB1.out
  clear hb1 hf1 hr
  cases r
  · have HN : Hid (¬ FunP f) := fun h => by have := HR.out.2 h.1.head; cases this
    go_wp2_with fail
    go_ret
    exact gives_no HN.out HB01.out
  have HP := Lib.hid (HR.out.1 rfl)
  clear HR
  have h1n := HP.out.1.1
  have h40 := HP.out.1.2
  have hxk : f.blocks[0]? = some f.blocks[0] := List.getElem?_eq_getElem h1n
  generalize f.blocks[0] = x at hxk
  have HX := Lib.hid hx
  obtain ⟨b, off, rfl, hDb, hrow⟩ := hx (by intro h; rw [h] at h1n; simp at h1n)
  obtain ⟨cs, hE, hcs⟩ := hrow 0 x hxk
  have hbl := hD b hDb
  obtain ⟨_, _, _, _, rfl, ⟨_, A0, c0, rfl, _⟩, _⟩ := hE
  have c0 : w.cell? ⟨b, off, none⟩ = some (.slice A0 x.phis.length c0) := by have := (hcs 0 _ rfl).1; simpa using this
  have Hxk := Lib.hid hxk
  have h1n' : 0 < (f.blocks.length : Int) := by omega
  clear hcs hrow hxk
  by_cases hph : x.phis = []
  case neg =>
    have HN : Hid (¬ FunP f) := fun h => hph (h.2.2.1 x Hxk.out)
    have hp0' : decide (0 < x.phis.length) = true := by simpa using List.length_pos_iff.2 hph
    clear hph
    go_wp2_with fail
    go_ret
    exact gives_no HN.out HB01.out
  have hph' : decide (0 < x.phis.length) = false := by rw [hph]; simp
  have HPH : Hid (∀ y, f.blocks[0]? = some y → y.phis = []) := fun y hy => by
    rw [Hxk.out] at hy
    injection hy with hy
    subst hy
    exact hph
  clear hph
  go_wp2_with fail
  refine (predsOfAll_any _ f.blocks _ Z (HF.out.row.keep (Kept.below HB01.out hD) fun _ _ h => h.keep (Kept.below HB01.out hD)) (fun b hb => by have := hD b hb; omega) hn).mono ?_
  rintro e w2 ⟨rfl, hp2, hb2⟩
  have hp2' : PRow w2 (w1.heap.size + 1) w1.heap.size f.blocks.length fun j => predsI f j := hp2
  have HB2 := Lib.hid (HB1.out.trans (hb2.mono hz1))
  have HB02 : Hid (Below w.heap.size w w2) := ((Below.refl _ _).alloc (Nat.le_refl _) _).trans (HB2.out.mono (by omega))
  have hz2 := hb2.size
  have HP2 := Lib.hid hp2'
  have hG2 := hp2.lt
  obtain ⟨hc2, hf2⟩ := bcellB (hb2.mono hz1)
  obtain ⟨v0, hv0, ho0⟩ := hp2'.get h1n
  obtain ⟨_, A2, c2, rfl, _⟩ := ho0.ri
  have el0 : (predsI f ((0 : Nat) : Int)).length = (predsI f 0).length := rfl
  rw [el0] at hv0
  clear hb2 hf2 hp2 hp2' ho0 el0
  by_cases hp0 : predsI f 0 = []
  case neg =>
    have HN : Hid (¬ FunP f) := fun h => hp0 ((funP_preds h 0).trans h.2.1)
    have hp0' : decide (0 < (predsI f 0).length) = true := by simpa using List.length_pos_iff.2 hp0
    clear hp0
    go_wp2_with fail
    go_ret
    exact gives_no HN.out HB02.out
  have hp0' : decide (0 < (predsI f 0).length) = false := by rw [hp0]; simp
  have HP0 := Lib.hid hp0
  clear hp0
  go_wp2_with fail
  clear hc1 hc2 c0 hv0
  go_loopw [29] (fun i wr => ∃ k : Nat, k ≤ f.blocks.length ∧ i = .int .i64 k ∧ Hid (Below (w.heap.size + 1) (w.alloc (.cells #[.int .i64 f.params, .int .i64 f.names, .slice (some ⟨b, off, none⟩) f.blocks.length c] 26)) wr) ∧ w1.heap.size < wr.heap.size ∧ Hid (PRow wr (w1.heap.size + 1) w1.heap.size f.blocks.length (fun j => predsI f j)) ∧ Hid (∀ (j : Nat) y, j < k → f.blocks[j]? = some y → BlockAll f.names f.blocks.length (predsI f j).length y)) (fun i _ => f.blocks.length - (intOf i).toNat)
  case atStart => exact ⟨0, Nat.zero_le _, rfl, HB2.out, hG2, HP2.out, fun _ _ h => absurd h (by omega)⟩
  case round =>
    obtain ⟨k, hk, rfl, HB, hgr, HPr, H1⟩ := hrel
    have HB0 : Hid (Below w.heap.size w wr) := ((Below.refl _ _).alloc (Nat.le_refl _) _).trans (HB.out.mono (by omega))
    have hzw : w.heap.size + 1 ≤ wr.heap.size := by have := HB.out.size; simp at this; omega
    have f1 : wr.cell? ⟨w.heap.size, 1, none⟩ = some (.int .i64 f.names) := (HB.out.cell (p := ⟨w.heap.size, 1, none⟩) (by simp)).trans (by go_simp)
    have f2 : wr.cell? ⟨w.heap.size, 2, none⟩ = some (.slice (some ⟨b, off, none⟩) f.blocks.length c) := (HB.out.cell (p := ⟨w.heap.size, 2, none⟩) (by simp)).trans (by go_simp)
    by_cases hlt : k < f.blocks.length
    case neg =>
      obtain rfl : k = f.blocks.length := by omega
      go_wp2
      go_ret
      exact gives_yes (funP_of HP.out HPH.out HP0.out fun j y hy => H1.out j y (List.getElem?_eq_some_iff.1 hy).1 hy) HB0.out
    have hyk : f.blocks[k]? = some f.blocks[k] := List.getElem?_eq_getElem hlt
    generalize f.blocks[k] = y at hyk
    obtain ⟨b', off', he, hDb', hrow⟩ := HX.out (by intro h; rw [h] at hlt; simp at hlt)
    injection he with he
    injection he with hb' ho'
    subst hb' ho'
    obtain ⟨cs, hE, hcs⟩ := hrow k y hyk
    have HEr := Lib.hid (hE.keep (Kept.below HB0.out hD))
    obtain ⟨A3, q3, A4, q4, A5, q5, A6, q6, rfl, _⟩ := hE.parts
    have c0 : wr.cell? ⟨b, off + k * 8, none⟩ = some (.slice A3 y.phis.length q3) := (HB0.out.cell (p := ⟨b, _, none⟩) hbl).trans (hcs 0 _ rfl).1
    have c1 : wr.cell? ⟨b, off + k * 8 + 1, none⟩ = some (.slice A4 y.head.length q4) := (HB0.out.cell (p := ⟨b, _, none⟩) hbl).trans (hcs 1 _ rfl).1
    have c2 : wr.cell? ⟨b, off + k * 8 + 2, none⟩ = some (.slice A5 y.body.length q5) := (HB0.out.cell (p := ⟨b, _, none⟩) hbl).trans (hcs 2 _ rfl).1
    have c3 : wr.cell? ⟨b, off + k * 8 + 3, none⟩ = some (.slice A6 y.tail.length q6) := (HB0.out.cell (p := ⟨b, _, none⟩) hbl).trans (hcs 3 _ rfl).1
    have c4 : wr.cell? ⟨b, off + k * 8 + 4, none⟩ = some (.int .i64 y.fin.k) := (HB0.out.cell (p := ⟨b, _, none⟩) hbl).trans (hcs 4 _ rfl).1
    have c5 : wr.cell? ⟨b, off + k * 8 + 5, none⟩ = some (.int .i64 y.fin.a) := (HB0.out.cell (p := ⟨b, _, none⟩) hbl).trans (hcs 5 _ rfl).1
    have c6 : wr.cell? ⟨b, off + k * 8 + 6, none⟩ = some (.int .i64 y.fin.t) := (HB0.out.cell (p := ⟨b, _, none⟩) hbl).trans (hcs 6 _ rfl).1
    have c7 : wr.cell? ⟨b, off + k * 8 + 7, none⟩ = some (.int .i64 y.fin.l) := (HB0.out.cell (p := ⟨b, _, none⟩) hbl).trans (hcs 7 _ rfl).1
    obtain ⟨v8, hv8, ho8⟩ := HPr.out.get hlt
    obtain ⟨_, A8, q8, rfl, _⟩ := ho8.ri
    have hpl := predsI_len f k
    have Hyk := Lib.hid hyk
    have hlt' : (k : Int) < (f.blocks.length : Int) := by omega
    have hk0 : 0 ≤ (k : Int) := by omega
    clear hcs hyk hrow hE ho8
    go_wp2_with fail
    have d0 : (wr.alloc (.cells #[.slice A3 y.phis.length q3, .slice A4 y.head.length q4, .slice A5 y.body.length q5, .slice A6 y.tail.length q6, .int .i64 y.fin.k, .int .i64 y.fin.a, .int .i64 y.fin.t, .int .i64 y.fin.l] 69)).cell? ⟨wr.heap.size, 0, none⟩ = some (.slice A3 y.phis.length q3) := by go_simp
    have d1 : (wr.alloc (.cells #[.slice A3 y.phis.length q3, .slice A4 y.head.length q4, .slice A5 y.body.length q5, .slice A6 y.tail.length q6, .int .i64 y.fin.k, .int .i64 y.fin.a, .int .i64 y.fin.t, .int .i64 y.fin.l] 69)).cell? ⟨wr.heap.size, 1, none⟩ = some (.slice A4 y.head.length q4) := by go_simp
    have d2 : (wr.alloc (.cells #[.slice A3 y.phis.length q3, .slice A4 y.head.length q4, .slice A5 y.body.length q5, .slice A6 y.tail.length q6, .int .i64 y.fin.k, .int .i64 y.fin.a, .int .i64 y.fin.t, .int .i64 y.fin.l] 69)).cell? ⟨wr.heap.size, 2, none⟩ = some (.slice A5 y.body.length q5) := by go_simp
    have d3 : (wr.alloc (.cells #[.slice A3 y.phis.length q3, .slice A4 y.head.length q4, .slice A5 y.body.length q5, .slice A6 y.tail.length q6, .int .i64 y.fin.k, .int .i64 y.fin.a, .int .i64 y.fin.t, .int .i64 y.fin.l] 69)).cell? ⟨wr.heap.size, 3, none⟩ = some (.slice A6 y.tail.length q6) := by go_simp
    have d4 : (wr.alloc (.cells #[.slice A3 y.phis.length q3, .slice A4 y.head.length q4, .slice A5 y.body.length q5, .slice A6 y.tail.length q6, .int .i64 y.fin.k, .int .i64 y.fin.a, .int .i64 y.fin.t, .int .i64 y.fin.l] 69)).cell? ⟨wr.heap.size, 4, none⟩ = some (.int .i64 y.fin.k) := by go_simp
    have d5 : (wr.alloc (.cells #[.slice A3 y.phis.length q3, .slice A4 y.head.length q4, .slice A5 y.body.length q5, .slice A6 y.tail.length q6, .int .i64 y.fin.k, .int .i64 y.fin.a, .int .i64 y.fin.t, .int .i64 y.fin.l] 69)).cell? ⟨wr.heap.size, 5, none⟩ = some (.int .i64 y.fin.a) := by go_simp
    have d6 : (wr.alloc (.cells #[.slice A3 y.phis.length q3, .slice A4 y.head.length q4, .slice A5 y.body.length q5, .slice A6 y.tail.length q6, .int .i64 y.fin.k, .int .i64 y.fin.a, .int .i64 y.fin.t, .int .i64 y.fin.l] 69)).cell? ⟨wr.heap.size, 6, none⟩ = some (.int .i64 y.fin.t) := by go_simp
    have d7 : (wr.alloc (.cells #[.slice A3 y.phis.length q3, .slice A4 y.head.length q4, .slice A5 y.body.length q5, .slice A6 y.tail.length q6, .int .i64 y.fin.k, .int .i64 y.fin.a, .int .i64 y.fin.t, .int .i64 y.fin.l] 69)).cell? ⟨wr.heap.size, 7, none⟩ = some (.int .i64 y.fin.l) := by go_simp
    have hBW : Below wr.heap.size wr (wr.alloc (.cells #[.slice A3 y.phis.length q3, .slice A4 y.head.length q4, .slice A5 y.body.length q5, .slice A6 y.tail.length q6, .int .i64 y.fin.k, .int .i64 y.fin.a, .int .i64 y.fin.t, .int .i64 y.fin.l] 69)) := (Below.refl _ _).alloc (Nat.le_refl _) _
    have hsW : (wr.alloc (.cells #[.slice A3 y.phis.length q3, .slice A4 y.head.length q4, .slice A5 y.body.length q5, .slice A6 y.tail.length q6, .int .i64 y.fin.k, .int .i64 y.fin.a, .int .i64 y.fin.t, .int .i64 y.fin.l] 69)).heap.size = wr.heap.size + 1 := by simp
    generalize wr.alloc (.cells #[.slice A3 y.phis.length q3, .slice A4 y.head.length q4, .slice A5 y.body.length q5, .slice A6 y.tail.length q6, .int .i64 y.fin.k, .int .i64 y.fin.a, .int .i64 y.fin.t, .int .i64 y.fin.l] 69) = W2 at *
    have HBW := Lib.hid hBW
    have hrw : wr.heap.size < W2.heap.size := by omega
    have hgw : w1.heap.size < W2.heap.size := by omega
    have hfw : w.heap.size < W2.heap.size := by omega
    have e1 := (hBW.cell (p := ⟨w.heap.size, 1, none⟩) (by show w.heap.size < _; omega)).trans f1
    have e2 := (hBW.cell (p := ⟨w.heap.size, 2, none⟩) (by show w.heap.size < _; omega)).trans f2
    have e3 := (hBW.cell (p := ⟨w1.heap.size, k, none⟩) hgr).trans hv8
    have h150 := HP.out.2.1.2
    clear hBW hsW c0 c1 c2 c3 c4 c5 c6 c7 f1 f2 hv8
    have keepS : ∀ w5 : World, Below W2.heap.size W2 w5 → (fun w' => Below W2.heap.size W2 w' ∧ w'.cell? ⟨w.heap.size, 1, none⟩ = some (.int .i64 f.names) ∧ w'.cell? ⟨w.heap.size, 2, none⟩ = some (.slice (some ⟨b, off, none⟩) f.blocks.length c) ∧ w'.cell? ⟨w1.heap.size, k, none⟩ = some (.slice A8 (predsI f k).length q8) ∧ w'.cell? ⟨wr.heap.size, 0, none⟩ = some (.slice A3 y.phis.length q3) ∧ w'.cell? ⟨wr.heap.size, 1, none⟩ = some (.slice A4 y.head.length q4) ∧ w'.cell? ⟨wr.heap.size, 2, none⟩ = some (.slice A5 y.body.length q5) ∧ w'.cell? ⟨wr.heap.size, 3, none⟩ = some (.slice A6 y.tail.length q6) ∧ w'.cell? ⟨wr.heap.size, 4, none⟩ = some (.int .i64 y.fin.k) ∧ w'.cell? ⟨wr.heap.size, 5, none⟩ = some (.int .i64 y.fin.a) ∧ w'.cell? ⟨wr.heap.size, 6, none⟩ = some (.int .i64 y.fin.t) ∧ w'.cell? ⟨wr.heap.size, 7, none⟩ = some (.int .i64 y.fin.l)) w5 := fun w5 hb => ⟨hb, (hb.cell (p := ⟨w.heap.size, 1, none⟩) hfw).trans e1, (hb.cell (p := ⟨w.heap.size, 2, none⟩) hfw).trans e2, (hb.cell (p := ⟨w1.heap.size, k, none⟩) hgw).trans e3, (hb.cell (p := ⟨wr.heap.size, 0, none⟩) hrw).trans d0, (hb.cell (p := ⟨wr.heap.size, 1, none⟩) hrw).trans d1, (hb.cell (p := ⟨wr.heap.size, 2, none⟩) hrw).trans d2, (hb.cell (p := ⟨wr.heap.size, 3, none⟩) hrw).trans d3, (hb.cell (p := ⟨wr.heap.size, 4, none⟩) hrw).trans d4, (hb.cell (p := ⟨wr.heap.size, 5, none⟩) hrw).trans d5, (hb.cell (p := ⟨wr.heap.size, 6, none⟩) hrw).trans d6, (hb.cell (p := ⟨wr.heap.size, 7, none⟩) hrw).trans d7⟩
    have K := keepS _ (Below.refl _ _)
    have Kd := keepS _ below_drew
    clear d0 d1 d2 d3 d4 d5 d6 d7 e1 e2 e3
    go_region_held3 (fun w' => Below W2.heap.size W2 w' ∧ w'.cell? ⟨w.heap.size, 1, none⟩ = some (.int .i64 f.names) ∧ w'.cell? ⟨w.heap.size, 2, none⟩ = some (.slice (some ⟨b, off, none⟩) f.blocks.length c) ∧ w'.cell? ⟨w1.heap.size, k, none⟩ = some (.slice A8 (predsI f k).length q8) ∧ w'.cell? ⟨wr.heap.size, 0, none⟩ = some (.slice A3 y.phis.length q3) ∧ w'.cell? ⟨wr.heap.size, 1, none⟩ = some (.slice A4 y.head.length q4) ∧ w'.cell? ⟨wr.heap.size, 2, none⟩ = some (.slice A5 y.body.length q5) ∧ w'.cell? ⟨wr.heap.size, 3, none⟩ = some (.slice A6 y.tail.length q6) ∧ w'.cell? ⟨wr.heap.size, 4, none⟩ = some (.int .i64 y.fin.k) ∧ w'.cell? ⟨wr.heap.size, 5, none⟩ = some (.int .i64 y.fin.a) ∧ w'.cell? ⟨wr.heap.size, 6, none⟩ = some (.int .i64 y.fin.t) ∧ w'.cell? ⟨wr.heap.size, 7, none⟩ = some (.int .i64 y.fin.l)) (first | exact Kd | exact K | exact K5 | fail)
      (first
      | (go_at_call 90; have := (show _ ∧ _ by assumption); refine (ok_any y _ f.names f.blocks.length (predsI f k).length _ Z (HEr.out.keep ((Kept.below HBW.out fun b hb => by have h1 := hD b hb; omega).trans (Kept.below this.1 fun b hb => by have h1 := hD b hb; omega))) (fun b hb => by have h1 := hD b hb; have h2 := this.1.size; omega) h150 h1n).mono ?_; rintro e w5 ⟨r5, rfl, hr5, hb5⟩; have HR5 := Lib.hid hr5; have K5 := keepS _ (this.1.trans (hb5.mono this.1.size)); clear hr5 hb5 this))
    have HB5 := Lib.hid ((HB.out.trans (HBW.out.mono hzw)).trans (K5.1.mono (by omega)))
    have HB05 : Hid (Below w.heap.size w w5) := ((Below.refl _ _).alloc (Nat.le_refl _) _).trans (HB5.out.mono (by omega))
    have HPn : Hid (PRow w5 (w1.heap.size + 1) w1.heap.size f.blocks.length (fun j => predsI f j)) := HPr.out.below (HBW.out.trans (K5.1.mono (by omega)))
    have hz5 := K5.1.size
    clear K Kd K5 keepS
    cases r5
    · have HN : Hid (¬ FunP f) := fun h => by have := HR5.out.2 (funP_block h Hyk.out); cases this
      go_wp2_with fail
      go_ret
      exact gives_no HN.out HB05.out
    · have HPs := Lib.hid (HR5.out.1 rfl)
      have H1' : Hid (∀ (j : Nat) z, j < k + 1 → f.blocks[j]? = some z → BlockAll f.names f.blocks.length (predsI f j).length z) := fun j z hj hz => by
        by_cases hjk : j = k
        · subst hjk
          rw [Hyk.out] at hz
          injection hz with hz
          subst hz
          exact HPs.out
        · exact H1.out j z (by omega) hz
      clear HR5
      go_wp2_with fail
      go_roundw
      case rel => exact ⟨k + 1, by omega, by go_num, HB5, by omega, HPn, H1'⟩
      case measure => simp [intOf]; omega
end

/- A walk through a graph in depth, and what is reached: lists alone. -/
section

/-- How many are false. -/
def cf (s : List Bool) : Nat := s.count false
theorem cf_le (s : List Bool) : cf s ≤ s.length := List.count_le_length
theorem cf_set : ∀ {s : List Bool} {k : Nat}, s[k]? = some false → cf (s.set k true) + 1 = cf s
  | [], k, h => by simp at h
  | a :: s, 0, h => by
    simp at h
    subst h
    simp [cf]
  | a :: s, k + 1, h => by
    have := cf_set (s := s) (k := k) (by simpa using h)
    unfold cf at this ⊢
    simp only [List.set_cons_succ, List.count_cons]
    omega
theorem cf_pos {s : List Bool} {k : Nat} (h : s[k]? = some false) : 1 ≤ cf s := by
  have := cf_set h
  omega
theorem set_get_self {s : List Bool} {k : Nat} (h : k < s.length) (b : Bool) : (s.set k b)[k]? = some b := by
  rw [List.getElem?_set_self (by simpa using h)]
theorem set_get_other {s : List Bool} {k j : Nat} (h : k ≠ j) (b : Bool) : (s.set k b)[j]? = s[j]? := by
  rw [List.getElem?_set_ne h]

/-- Has t been seen? -/
def seenAt (s : List Bool) (t : Int) : Bool := s.getD t.toNat true
theorem seenAt_of {s : List Bool} {t : Nat} {b : Bool} (h : s[t]? = some b) : seenAt s t = b := by
  unfold seenAt
  rw [Int.toNat_natCast, List.getD_eq_getElem?_getD, h]; rfl

/-- From b on, with fuel: who has been seen, and all that are finished, in order. -/
def dfs (sc : Int → List Int) : Nat → Int → List Bool × List Int → List Bool × List Int
  | 0, _, st => st
  | n + 1, b, st =>
    let r := (sc b).foldl (fun s t => if seenAt s.1 t = true then s else dfs sc n t s) (st.1.set b.toNat true, st.2)
    (r.1, r.2 ++ [b])
def dstep (sc : Int → List Int) (n : Nat) (s : List Bool × List Int) (t : Int) : List Bool × List Int := if seenAt s.1 t = true then s else dfs sc n t s
def dlist (sc : Int → List Int) (n : Nat) (ts : List Int) (s : List Bool × List Int) : List Bool × List Int := ts.foldl (dstep sc n) s
theorem dfs_succ (sc : Int → List Int) (n : Nat) (b : Int) (st : List Bool × List Int) : dfs sc (n + 1) b st = ((dlist sc n (sc b) (st.1.set b.toNat true, st.2)).1, (dlist sc n (sc b) (st.1.set b.toNat true, st.2)).2 ++ [b]) := rfl
theorem dlist_nil (sc : Int → List Int) (n : Nat) (s : List Bool × List Int) : dlist sc n [] s = s := rfl
theorem dlist_cons (sc : Int → List Int) (n : Nat) (t : Int) (ts : List Int) (s : List Bool × List Int) : dlist sc n (t :: ts) s = dlist sc n ts (dstep sc n s t) := rfl
theorem dlist_take (sc : Int → List Int) (n : Nat) {ts : List Int} {k : Nat} {t : Int} (h : ts[k]? = some t) (s : List Bool × List Int) : dlist sc n (ts.take (k + 1)) s = dstep sc n (dlist sc n (ts.take k) s) t := by
  unfold dlist
  rw [List.take_add_one, h, Option.toList_some, List.foldl_append]; rfl

/-- What stays right through the walk. -/
structure Inv (N K : Nat) (st : List Bool × List Int) : Prop where
  len : st.1.length = N
  cap : st.2.length + cf st.1 ≤ K
  mem : ∀ x ∈ st.2, 0 ≤ x ∧ x < (N : Int)

section
variable {sc : Int → List Int} {N : Nat} (hsc : ∀ b : Nat, b < N → ∀ t ∈ sc b, 0 ≤ t ∧ t < (N : Int))
include hsc

theorem dfs_inv {K : Nat} : ∀ (n : Nat) (b : Nat) (st : List Bool × List Int), Inv N K st → st.1[b]? = some false → Inv N K (dfs sc n b st) ∧ cf (dfs sc n b st).1 ≤ cf st.1
  | 0, _, st, h, _ => ⟨h, Nat.le_refl _⟩
  | n + 1, b, st, h, hb => by
    have hbN : b < N := by rw [← h.len]; exact (List.getElem?_eq_some_iff.1 hb).1
    have hl : ∀ (ts : List Int) (s : List Bool × List Int), (∀ t ∈ ts, 0 ≤ t ∧ t < (N : Int)) → ∀ K, Inv N K s → Inv N K (dlist sc n ts s) ∧ cf (dlist sc n ts s).1 ≤ cf s.1 := by
      intro ts
      induction ts with
      | nil => intro s _ K h; exact ⟨h, Nat.le_refl _⟩
      | cons t ts ih =>
        intro s ht K h
        rw [dlist_cons]
        have ht0 := ht t (by simp)
        obtain ⟨k, rfl⟩ : ∃ k : Nat, t = k := ⟨t.toNat, by omega⟩
        have hk : k < s.1.length := by rw [h.len]; omega
        have hs : s.1[k]? = some s.1[k] := List.getElem?_eq_getElem hk
        have hst : Inv N K (dstep sc n s k) ∧ cf (dstep sc n s k).1 ≤ cf s.1 := by
          unfold dstep
          rw [seenAt_of hs]
          by_cases hv : s.1[k] = true
          · rw [if_pos hv]; exact ⟨h, Nat.le_refl _⟩
          · rw [if_neg hv]
            have hv' : s.1[k] = false := by simpa using hv
            rw [hv'] at hs
            exact dfs_inv (K := K) n k s h hs
        obtain ⟨h1, h2⟩ := ih _ (fun u hu => ht u (by simp [hu])) K hst.1
        exact ⟨h1, Nat.le_trans h2 hst.2⟩
    have hcf := cf_set hb
    have hcap := h.cap
    have hK1 : 1 ≤ K := by omega
    have h0 : Inv N (K - 1) (st.1.set b true, st.2) := ⟨by simp [h.len], by show st.2.length + cf (st.1.set b true) ≤ K - 1; omega, h.mem⟩
    obtain ⟨h1, h2⟩ := hl (sc b) (st.1.set b true, st.2) (hsc b hbN) (K - 1) h0
    rw [dfs_succ, Int.toNat_natCast]
    refine ⟨⟨h1.len, ?_, ?_⟩, ?_⟩
    · have := h1.cap
      simp only [List.length_append, List.length_singleton]
      omega
    · intro x hx
      rcases List.mem_append.1 hx with hx | hx
      · exact h1.mem x hx
      · simp at hx; omega
    · have h2' : cf (dlist sc n (sc b) (st.1.set b true, st.2)).1 ≤ cf (st.1.set b true) := h2
      show cf (dlist sc n (sc b) (st.1.set b true, st.2)).1 ≤ _
      omega

/-- What has been seen stays seen. -/
theorem dfs_mono {K : Nat} : ∀ (n : Nat) (b : Nat) (st : List Bool × List Int), Inv N K st → st.1[b]? = some false → ∀ i : Nat, st.1[i]? = some true → (dfs sc n b st).1[i]? = some true
  | 0, _, _, _, _, i, hi => hi
  | n + 1, b, st, h, hb, i, hi => by
    have hbN : b < N := by rw [← h.len]; exact (List.getElem?_eq_some_iff.1 hb).1
    have hl : ∀ (ts : List Int) (s : List Bool × List Int), (∀ t ∈ ts, 0 ≤ t ∧ t < (N : Int)) → ∀ K, Inv N K s → ∀ i : Nat, s.1[i]? = some true → (dlist sc n ts s).1[i]? = some true := by
      intro ts
      induction ts with
      | nil => intro s _ K h i hi; exact hi
      | cons t ts ih =>
        intro s ht K h i hi
        rw [dlist_cons]
        have ht0 := ht t (by simp)
        obtain ⟨k, rfl⟩ : ∃ k : Nat, t = k := ⟨t.toNat, by omega⟩
        have hk : k < s.1.length := by rw [h.len]; omega
        have hs : s.1[k]? = some s.1[k] := List.getElem?_eq_getElem hk
        have hst : Inv N K (dstep sc n s k) ∧ (dstep sc n s k).1[i]? = some true := by
          unfold dstep
          rw [seenAt_of hs]
          by_cases hv : s.1[k] = true
          · rw [if_pos hv]; exact ⟨h, hi⟩
          · rw [if_neg hv]
            have hv' : s.1[k] = false := by simpa using hv
            rw [hv'] at hs
            exact ⟨(dfs_inv hsc n k s h hs).1, dfs_mono (K := K) n k s h hs i hi⟩
        exact ih _ (fun u hu => ht u (by simp [hu])) K hst.1 i hst.2
    have hcf := cf_set hb
    have hcap := h.cap
    have h0 : Inv N K (st.1.set b true, st.2) := ⟨by simp [h.len], by show st.2.length + cf (st.1.set b true) ≤ K; omega, h.mem⟩
    rw [dfs_succ, Int.toNat_natCast]
    refine hl (sc b) (st.1.set b true, st.2) (hsc b hbN) K h0 i ?_
    have hne : b ≠ i := by rintro rfl; rw [hb] at hi; cases hi
    show (st.1.set b true)[i]? = some true
    rw [set_get_other hne]; exact hi

/-- What comes of a list of succs: all that were so far, and they. -/
theorem dlist_inv {K : Nat} (n : Nat) : ∀ (ts : List Int) (s : List Bool × List Int), (∀ t ∈ ts, 0 ≤ t ∧ t < (N : Int)) → Inv N K s → Inv N K (dlist sc n ts s) ∧ cf (dlist sc n ts s).1 ≤ cf s.1 ∧ ∀ i : Nat, s.1[i]? = some true → (dlist sc n ts s).1[i]? = some true
  | [], s, _, h => ⟨h, Nat.le_refl _, fun _ hi => hi⟩
  | t :: ts, s, ht, h => by
    rw [dlist_cons]
    have ht0 := ht t (by simp)
    obtain ⟨k, rfl⟩ : ∃ k : Nat, t = k := ⟨t.toNat, by omega⟩
    have hk : k < s.1.length := by rw [h.len]; omega
    have hs : s.1[k]? = some s.1[k] := List.getElem?_eq_getElem hk
    have hst : Inv N K (dstep sc n s k) ∧ cf (dstep sc n s k).1 ≤ cf s.1 ∧ ∀ i : Nat, s.1[i]? = some true → (dstep sc n s k).1[i]? = some true := by
      unfold dstep
      rw [seenAt_of hs]
      by_cases hv : s.1[k] = true
      · rw [if_pos hv]; exact ⟨h, Nat.le_refl _, fun _ hi => hi⟩
      · rw [if_neg hv]
        have hv' : s.1[k] = false := by simpa using hv
        rw [hv'] at hs
        have := dfs_inv hsc n k s h hs
        exact ⟨this.1, this.2, dfs_mono hsc n k s h hs⟩
    obtain ⟨h1, h2, h3⟩ := dlist_inv n ts _ (fun u hu => ht u (by simp [hu])) hst.1
    exact ⟨h1, Nat.le_trans h2 hst.2.1, fun i hi => h3 i (hst.2.2 i hi)⟩

theorem dfs_seen {K : Nat} {n b : Nat} {st : List Bool × List Int} (h : Inv N K st) (hb : st.1[b]? = some false) : (dfs sc (n + 1) b st).1[b]? = some true := by
  have hbN : b < N := by rw [← h.len]; exact (List.getElem?_eq_some_iff.1 hb).1
  have hcf := cf_set hb
  have hcap := h.cap
  have h0 : Inv N K (st.1.set b true, st.2) := ⟨by simp [h.len], by show st.2.length + cf (st.1.set b true) ≤ K; omega, h.mem⟩
  rw [dfs_succ, Int.toNat_natCast]
  exact (dlist_inv hsc n _ _ (hsc b hbN) h0).2.2 b (set_get_self (by rw [h.len]; exact hbN) true)
end

/-- Come to from the block 0 on, without one. -/
inductive Rch (sc : Int → List Int) (wo : Int) : Int → Prop
  | zero (h : (0 : Int) ≠ wo) : Rch sc wo 0
  | step {a b : Int} (h : Rch sc wo a) (hb : b ∈ sc a) (hw : b ≠ wo) : Rch sc wo b

section
variable {sc : Int → List Int} {N : Nat} (hsc : ∀ b : Nat, b < N → ∀ t ∈ sc b, 0 ≤ t ∧ t < (N : Int))
include hsc

theorem dlist_sound {K : Nat} (n : Nat) (ih : ∀ (b : Nat) (s : List Bool × List Int), Inv N K s → s.1[b]? = some false → Rch sc (-1) b → (∀ i : Nat, s.1[i]? = some true → Rch sc (-1) i) → ∀ i : Nat, (dfs sc n b s).1[i]? = some true → Rch sc (-1) i) :
    ∀ (ts : List Int) (s : List Bool × List Int), (∀ t ∈ ts, 0 ≤ t ∧ t < (N : Int)) → (∀ t ∈ ts, Rch sc (-1) t) → Inv N K s → (∀ i : Nat, s.1[i]? = some true → Rch sc (-1) i) → ∀ i : Nat, (dlist sc n ts s).1[i]? = some true → Rch sc (-1) i
  | [], s, _, _, _, h, i, hi => h i hi
  | t :: ts, s, ht, hr, h, hs, i, hi => by
    rw [dlist_cons] at hi
    have ht0 := ht t (by simp)
    have hrt := hr t (by simp)
    obtain ⟨k, rfl⟩ : ∃ k : Nat, t = k := ⟨t.toNat, by omega⟩
    have hk : k < s.1.length := by rw [h.len]; omega
    have hsk : s.1[k]? = some s.1[k] := List.getElem?_eq_getElem hk
    have hst : Inv N K (dstep sc n s k) ∧ ∀ i : Nat, (dstep sc n s k).1[i]? = some true → Rch sc (-1) i := by
      unfold dstep
      rw [seenAt_of hsk]
      by_cases hv : s.1[k] = true
      · rw [if_pos hv]; exact ⟨h, hs⟩
      · rw [if_neg hv]
        have hv' : s.1[k] = false := by simpa using hv
        rw [hv'] at hsk
        exact ⟨(dfs_inv hsc n k s h hsk).1, ih k s h hsk hrt hs⟩
    exact dlist_sound n ih ts _ (fun u hu => ht u (by simp [hu])) (fun u hu => hr u (by simp [hu])) hst.1 hst.2 i hi

theorem dfs_sound {K : Nat} : ∀ (n : Nat) (b : Nat) (s : List Bool × List Int), Inv N K s → s.1[b]? = some false → Rch sc (-1) b → (∀ i : Nat, s.1[i]? = some true → Rch sc (-1) i) → ∀ i : Nat, (dfs sc n b s).1[i]? = some true → Rch sc (-1) i
  | 0, _, _, _, _, _, hs, i, hi => hs i hi
  | n + 1, b, s, h, hb, hr, hs, i, hi => by
    have hbN : b < N := by rw [← h.len]; exact (List.getElem?_eq_some_iff.1 hb).1
    have hcf := cf_set hb
    have hcap := h.cap
    have h0 : Inv N K (s.1.set b true, s.2) := ⟨by simp [h.len], by show s.2.length + cf (s.1.set b true) ≤ K; omega, h.mem⟩
    rw [dfs_succ, Int.toNat_natCast] at hi
    refine dlist_sound hsc n (fun b' s' => dfs_sound n b' s') (sc b) _ (hsc b hbN) (fun t ht => .step hr ht (by have := hsc b hbN t ht; omega)) h0 (fun j hj => ?_) i hi
    by_cases hjb : b = j
    · subst hjb; exact hr
    · have hj' : (s.1.set b true)[j]? = some true := hj
      rw [set_get_other hjb] at hj'
      exact hs j hj'

/-- Each one that has been seen newly has all its succs seen. -/
def Clo (sc : Int → List Int) (s s' : List Bool) : Prop := ∀ i : Nat, s'[i]? = some true → s[i]? = some true ∨ ∀ t ∈ sc i, s'[t.toNat]? = some true

theorem dlist_clo {K : Nat} (n : Nat) (ih : ∀ (b : Nat) (s : List Bool × List Int), Inv N K s → s.1[b]? = some false → cf s.1 ≤ n → Clo sc s.1 (dfs sc n b s).1 ∧ (dfs sc n b s).1[b]? = some true) :
    ∀ (ts : List Int) (s : List Bool × List Int), (∀ t ∈ ts, 0 ≤ t ∧ t < (N : Int)) → Inv N K s → cf s.1 ≤ n → Clo sc s.1 (dlist sc n ts s).1 ∧ ∀ t ∈ ts, (dlist sc n ts s).1[t.toNat]? = some true
  | [], s, _, _, _ => ⟨fun i hi => .inl hi, fun t ht => by cases ht⟩
  | t :: ts, s, ht, h, hn => by
    rw [dlist_cons]
    have ht0 := ht t (by simp)
    obtain ⟨k, rfl⟩ : ∃ k : Nat, t = k := ⟨t.toNat, by omega⟩
    have hk : k < s.1.length := by rw [h.len]; omega
    have hsk : s.1[k]? = some s.1[k] := List.getElem?_eq_getElem hk
    have hst : Inv N K (dstep sc n s k) ∧ cf (dstep sc n s k).1 ≤ cf s.1 ∧ Clo sc s.1 (dstep sc n s k).1 ∧ (dstep sc n s k).1[k]? = some true := by
      unfold dstep
      rw [seenAt_of hsk]
      by_cases hv : s.1[k] = true
      · rw [if_pos hv]; rw [hv] at hsk; exact ⟨h, Nat.le_refl _, fun i hi => .inl hi, hsk⟩
      · rw [if_neg hv]
        have hv' : s.1[k] = false := by simpa using hv
        rw [hv'] at hsk
        have h1 := dfs_inv hsc n k s h hsk
        have h2 := ih k s h hsk hn
        exact ⟨h1.1, h1.2, h2.1, h2.2⟩
    obtain ⟨g1, g2, g3, g4⟩ := hst
    have htl := fun u (hu : u ∈ ts) => ht u (by simp [hu])
    obtain ⟨e1, e2⟩ := dlist_clo n ih ts _ htl g1 (Nat.le_trans g2 hn)
    have hm := (dlist_inv hsc n ts _ htl g1).2.2
    refine ⟨fun i hi => ?_, fun u hu => ?_⟩
    · rcases e1 i hi with h' | h'
      · rcases g3 i h' with h'' | h''
        · exact .inl h''
        · exact .inr fun t ht => hm _ (h'' t ht)
      · exact .inr h'
    · rcases List.mem_cons.1 hu with rfl | hu
      · exact hm _ (by simpa using g4)
      · exact e2 u hu

theorem dfs_clo {K : Nat} : ∀ (n : Nat) (b : Nat) (s : List Bool × List Int), Inv N K s → s.1[b]? = some false → cf s.1 ≤ n → Clo sc s.1 (dfs sc n b s).1 ∧ (dfs sc n b s).1[b]? = some true
  | 0, _, _, _, hb, hn => by have := cf_pos hb; omega
  | n + 1, b, s, h, hb, hn => by
    have hbN : b < N := by rw [← h.len]; exact (List.getElem?_eq_some_iff.1 hb).1
    have hcf := cf_set hb
    have hcap := h.cap
    have h0 : Inv N K (s.1.set b true, s.2) := ⟨by simp [h.len], by show s.2.length + cf (s.1.set b true) ≤ K; omega, h.mem⟩
    obtain ⟨e1, e2⟩ := dlist_clo hsc n (fun b' s' => dfs_clo n b' s') (sc b) (s.1.set b true, s.2) (hsc b hbN) h0 (by show cf (s.1.set b true) ≤ n; omega)
    refine ⟨fun i hi => ?_, dfs_seen hsc h hb⟩
    rw [dfs_succ, Int.toNat_natCast] at hi ⊢
    rcases e1 i hi with h' | h'
    · by_cases hbi : b = i
      · subst hbi; exact .inr e2
      · have h'' : (s.1.set b true)[i]? = some true := h'
        rw [set_get_other hbi] at h''
        exact .inl h''
    · exact .inr h'
end

/-- The list tells of each block whether it is come to from the block 0 on, without one. -/
def IsReach (sc : Int → List Int) (wo : Int) (n : Nat) (bs : List Bool) : Prop := bs.length = n ∧ ∀ i : Nat, i < n → (bs[i]? = some true ↔ Rch sc wo i)
theorem IsReach.one {sc : Int → List Int} {wo : Int} {n : Nat} {bs cs : List Bool} (h : IsReach sc wo n bs) (k : IsReach sc wo n cs) : bs = cs := by
  refine List.ext_getElem? fun i => ?_
  by_cases hi : i < n
  · have hl1 : i < bs.length := by rw [h.1]; exact hi
    have hl2 : i < cs.length := by rw [k.1]; exact hi
    have h1 : bs[i]? = some bs[i] := List.getElem?_eq_getElem hl1
    have h2 : cs[i]? = some cs[i] := List.getElem?_eq_getElem hl2
    have e : bs[i]? = some true ↔ cs[i]? = some true := (h.2 i hi).trans (k.2 i hi).symm
    rw [h1, h2] at e ⊢
    cases hb : bs[i] <;> cases hc : cs[i] <;> simp_all
  · rw [List.getElem?_eq_none (by rw [h.1]; omega), List.getElem?_eq_none (by rw [k.1]; omega)]

/-- The walk in depth at a function's blocks. -/
def dfs0 (sc : Int → List Int) (N : Nat) : List Bool × List Int := dfs sc N (0 : Nat) (List.replicate N false, [])
theorem cf_replicate (N : Nat) : cf (List.replicate N false) = N := by simp [cf]
theorem inv0 (N : Nat) : Inv N N (List.replicate N false, []) := ⟨by simp, by show 0 + cf (List.replicate N false) ≤ N; rw [cf_replicate]; omega, fun x hx => by cases hx⟩
theorem get_replicate {N k : Nat} (h : k < N) : (List.replicate N false)[k]? = some false := by rw [List.getElem?_replicate, if_pos h]

theorem dfs0_reach {sc : Int → List Int} {N : Nat} (hsc : ∀ b : Nat, b < N → ∀ t ∈ sc b, 0 ≤ t ∧ t < (N : Int)) (hN : 1 ≤ N) : IsReach sc (-1) N (dfs0 sc N).1 := by
  have h0 := get_replicate (N := N) (k := 0) (by omega)
  refine ⟨(dfs_inv hsc N 0 _ (inv0 N) h0).1.len, fun i hi => ⟨fun h => ?_, fun h => ?_⟩⟩
  · refine dfs_sound hsc N 0 _ (inv0 N) h0 (.zero (by omega)) (fun j hj => ?_) i h
    have hj' : (List.replicate N false)[j]? = some true := hj
    rw [List.getElem?_replicate] at hj'
    split at hj' <;> simp at hj'
  · obtain ⟨e1, e2⟩ := dfs_clo hsc N 0 _ (inv0 N) h0 (by show cf (List.replicate N false) ≤ N; rw [cf_replicate]; omega)
    have key : ∀ x : Int, Rch sc (-1) x → 0 ≤ x ∧ x < (N : Int) ∧ (dfs0 sc N).1[x.toNat]? = some true := by
      intro x hx
      induction hx with
      | zero _ => exact ⟨by omega, by omega, e2⟩
      | @step a b _ hb _ ih =>
        obtain ⟨ha0, haN, hat⟩ := ih
        obtain ⟨k, rfl⟩ : ∃ k : Nat, a = k := ⟨a.toNat, by omega⟩
        have hbr := hsc k (by omega) b hb
        refine ⟨hbr.1, hbr.2, ?_⟩
        rw [Int.toNat_natCast] at hat
        rcases e1 k hat with h' | h'
        · have h'' : (List.replicate N false)[k]? = some true := h'
          rw [List.getElem?_replicate] at h''
          split at h'' <;> simp at h''
        · exact h' b hb
    have := (key i h).2.2
    simpa using this

theorem dfs0_len {sc : Int → List Int} {N : Nat} (hsc : ∀ b : Nat, b < N → ∀ t ∈ sc b, 0 ≤ t ∧ t < (N : Int)) (hN : 1 ≤ N) : (dfs0 sc N).2.length ≤ N := by
  have := (dfs_inv hsc N 0 _ (inv0 N) (get_replicate (N := N) (k := 0) (by omega))).1.cap
  unfold dfs0
  omega
end

/- Frames by block numbers; a row of bools of the call's own; the succs of a right function. -/
section
open Go.ChangeShapes Go.WideShapes Go.ChangeAt Go.RowKit Go.Joins

/-- Of what lay there the blocks of P alone may have turned. -/
structure Fw (P : Nat → Prop) (w w' : World) : Prop where
  os : w'.os = w.os
  tape : w'.tape = w.tape
  output : w'.output = w.output
  size : w.heap.size ≤ w'.heap.size
  block : ∀ k, k < w.heap.size → ¬ P k → w'.heap[k]? = w.heap[k]?
theorem Fw.refl (P : Nat → Prop) (w : World) : Fw P w w := ⟨rfl, rfl, rfl, Nat.le_refl _, fun _ _ _ => rfl⟩
theorem Fw.trans {P Q : Nat → Prop} {a b c : World} (h : Fw P a b) (k : Fw Q b c) (hq : ∀ i, i < a.heap.size → Q i → P i) : Fw P a c :=
  ⟨k.os.trans h.os, k.tape.trans h.tape, k.output.trans h.output, Nat.le_trans h.size k.size, fun i hi hn => (k.block i (Nat.lt_of_lt_of_le hi h.size) fun hqi => hn (hq i hi hqi)).trans (h.block i hi hn)⟩
theorem Fw.below {P : Nat → Prop} {a b : World} (h : Below a.heap.size a b) : Fw P a b := ⟨h.os, h.tape, h.output, h.size, fun k hk _ => h.block k hk⟩
theorem Fw.toBelow {P : Nat → Prop} {a b : World} {B : Nat} (h : Fw P a b) (hB : B ≤ a.heap.size) (hn : ∀ k, k < B → ¬ P k) : Below B a b := ⟨h.os, h.tape, h.output, h.size, fun k hk => h.block k (Nat.lt_of_lt_of_le hk hB) (hn k hk)⟩
theorem Fw.grown {P : Nat → Prop} {a b : World} {row : Option Nat} (h : a.grownBy b row) (hr : ∀ g, row = some g → g < a.heap.size → P g) : Fw P a b :=
  ⟨h.os, h.tape, h.output, h.size, fun k hk hn => h.block k hk fun e => hn (hr k e.symm hk)⟩
theorem Fw.set {P : Nat → Prop} (w : World) {g : Nat} (hg : P g) (o : Nat) (u : Value) : Fw P w (w.setCell ⟨g, o, none⟩ u) :=
  ⟨rfl, rfl, rfl, by simp, fun k _ hn => Below.heap_setCell w ⟨g, o, none⟩ u k (fun e => by
    have : k = g := e
    subst this
    exact hn hg)⟩
theorem Fw.alloc (P : Nat → Prop) (w : World) (o : Obj) : Fw P w (w.alloc o) := ⟨rfl, rfl, rfl, by simp, fun k hk _ => Below.heap_alloc w o k hk⟩
theorem Fw.drewN (P : Nat → Prop) (w : World) (n : Nat) : Fw P w (w.drewN n) := ⟨rfl, rfl, rfl, Nat.le_refl _, fun _ _ _ => rfl⟩

theorem own_fw {w w' : World} {B : Nat} {T : TypeId} {S n : Nat} {v : Value} {xs : List Value} {P : Nat → Prop} (h : w.ownsRow B T S v n xs) (hf : Fw P w w') (hn : ∀ k, v.ownBlock = some k → ¬ P k) : w'.ownsRow B T S v n xs := by
  have hlt := World.ownsRow.lt h
  refine ⟨h.1, ?_⟩
  rcases h.2 with h4 | ⟨g, cap, cur, rfl, hb, hg, r⟩
  · exact .inl h4
  · exact .inr ⟨g, cap, cur, rfl, hb, (hf.block g (hlt g rfl).2 (hn g rfl)).trans hg, r⟩
theorem OI.fw {w w' : World} {B : Nat} {v : Value} {xs : List Int} {P : Nat → Prop} (h : OI w B v xs) (hf : Fw P w w') (hn : ∀ k, v.ownBlock = some k → ¬ P k) : OI w' B v xs := own_fw h hf hn
theorem OB.fw {w w' : World} {B : Nat} {v : Value} {xs : List Bool} {P : Nat → Prop} (h : OB w B v xs) (hf : Fw P w w') (hn : ∀ k, v.ownBlock = some k → ¬ P k) : OB w' B v xs := own_fw h hf hn
theorem OB.lt {w : World} {B : Nat} {v : Value} {xs : List Bool} (h : OB w B v xs) : ∀ k, v.ownBlock = some k → B ≤ k ∧ k < w.heap.size := World.ownsRow.lt h

/-- The n bools of block q. -/
def BL (w : World) (q n : Nat) (bs : List Bool) : Prop := bs.length = n ∧ OB w q (.slice (some ⟨q, 0, none⟩) n n) bs
theorem BL.own {w : World} {q n : Nat} {bs : List Bool} (h : BL w q n bs) : w.ownsRow q 4 1 (.slice (some ⟨q, 0, none⟩) n n) n (bs.map bv) := by
  obtain ⟨rfl, h⟩ := h
  exact h
theorem BL.mk {w : World} {q n : Nat} {bs : List Bool} (hl : bs.length = n) (h : w.ownsRow q 4 1 (.slice (some ⟨q, 0, none⟩) n n) n (bs.map bv)) : BL w q n bs := by
  subst hl
  exact ⟨rfl, h⟩
theorem BL.cell {w : World} {q n k : Nat} {bs : List Bool} (h : BL w q n bs) {b : Bool} (hk : bs[k]? = some b) : w.cell? ⟨q, k, none⟩ = some (.bool b) := by
  have hlt := (List.getElem?_eq_some_iff.1 hk).1
  rw [World.ownsRow.cellAt h.own k (by rw [h.1] at hlt; omega), List.getElem?_map, hk]; rfl
theorem BL.frozen {w : World} {q n : Nat} {bs : List Bool} (h : BL w q n bs) (k : Nat) : w.frozen? ⟨q, k, none⟩ = false := World.ownsRow.frozenAt h.own k
theorem BL.set {w : World} {q n : Nat} {bs : List Bool} (h : BL w q n bs) (k : Nat) (b : Bool) : BL (w.setCell ⟨q, k, none⟩ (.bool b)) q n (bs.set k b) := by
  refine BL.mk (by simp [h.1]) ?_
  have := (World.ownsRow.stored h.own k (bv b)).1
  rw [← List.map_set] at this
  exact this
theorem BL.fw {w w' : World} {q n : Nat} {bs : List Bool} {P : Nat → Prop} (h : BL w q n bs) (hf : Fw P w w') (hn : ¬ P q) : BL w' q n bs :=
  BL.mk h.1 (own_fw h.own hf fun k hk => by injection hk with hk; subst hk; exact hn)
theorem BL.lt {w : World} {q n : Nat} {bs : List Bool} (h : BL w q n bs) : q < w.heap.size := (World.ownsRow.lt h.own q rfl).2
theorem BL.start (w : World) (n : Nat) (hm : n ≤ maxLen) : BL (w.alloc (.cells (madeCells #[.bool false] n) 4)) w.heap.size n (List.replicate n false) := by
  refine BL.mk (by simp) ⟨by simp, .inr ⟨w.heap.size, n, _, rfl, Nat.le_refl _, heap_alloc_new w _, Nat.le_refl _, hm, by simp [size_madeCells], ?_⟩⟩
  rw [toList_madeCells_one]
  simp [bv]

/-- The targets of block x, as its End names them. -/
def scF (bs : List BlockD) (x : Int) : List Int := match bs[x.toNat]? with
  | some y => toL y.fin.k y.fin.t y.fin.l
  | none => []
theorem scF_at {bs : List BlockD} {k : Nat} {y : BlockD} (h : bs[k]? = some y) : scF bs k = toL y.fin.k y.fin.t y.fin.l := by
  unfold scF
  rw [Int.toNat_natCast, h]

theorem isBlockB_ge {t : Int} (h : isBelowB t 40 = true) : 0 ≤ t := by
  simp [isBelowB] at h; omega

/-- All targets are blocks of the function. -/
def TargetsOk (bs : List BlockD) : Prop := ∀ (k : Nat) x, bs[k]? = some x → endOkB x.fin.k x.fin.a x.fin.t x.fin.l = true ∧ ∀ t ∈ toL x.fin.k x.fin.t x.fin.l, 0 ≤ t ∧ t < (bs.length : Int)
theorem TargetsOk.sc {bs : List BlockD} (h : TargetsOk bs) : ∀ b : Nat, b < bs.length → ∀ t ∈ scF bs b, 0 ≤ t ∧ t < (bs.length : Int) := fun b hb t ht => by
  have hx : bs[b]? = some bs[b] := List.getElem?_eq_getElem hb
  rw [scF_at hx] at ht
  exact (h b _ hx).2 t ht
theorem TargetsOk.succs {bs : List BlockD} (h : TargetsOk bs) {k : Nat} {x : BlockD} (hx : bs[k]? = some x) : succsL x.fin.k x.fin.a x.fin.t x.fin.l = scF bs k := by
  rw [scF_at hx, succsL, if_pos (h k x hx).1]
end

/- Preds and targets: pure facts. -/
section
open Go.ChangeShapes Go.WideShapes Go.ChangeAt Go.RowKit Go.Joins

theorem targets_of {f : FunD} (h : FunP f) : TargetsOk f.blocks := fun k x hx => by
  have he := (h.1.2.2.2.2 k x hx).1
  refine ⟨he.1, fun t ht => ?_⟩
  have hr := endOk_range he.1
  have h1 := he.1
  have h2 := he.2.2
  unfold toL at ht
  rcases hr with e | e | e
  · rw [e] at ht; simp at ht
  · rw [e] at ht h1
    simp at ht
    subst ht
    simp [endOkB, isBelowB] at h1
    omega
  · rw [e] at ht h1
    simp at ht
    simp [endOkB, isBelowB] at h1
    omega


theorem mem_predsF {f : FunD} {j : Int} {b : Nat} {x : BlockD} (hx : f.blocks[b]? = some x) (hj : j ∈ toL x.fin.k x.fin.t x.fin.l) : (b : Int) ∈ predsF f j := by
  unfold predsF predsK
  rw [List.mem_map]
  exact ⟨b, List.mem_filter.2 ⟨List.mem_range.2 (List.getElem?_eq_some_iff.1 hx).1, by unfold hasT; rw [hx]; exact hasB_iff.2 hj⟩, rfl⟩
theorem of_mem_predsF {f : FunD} {j y : Int} (h : y ∈ predsF f j) : ∃ (m : Nat) (x : BlockD), y = m ∧ f.blocks[m]? = some x ∧ j ∈ toL x.fin.k x.fin.t x.fin.l := by
  unfold predsF predsK at h
  rw [List.mem_map] at h
  obtain ⟨m, hm, rfl⟩ := h
  rw [List.mem_filter] at hm
  obtain ⟨h1, h2⟩ := hm
  have hlt := List.mem_range.1 h1
  have hx : f.blocks[m]? = some f.blocks[m] := List.getElem?_eq_getElem hlt
  unfold hasT at h2
  rw [hx] at h2
  exact ⟨m, _, rfl, hx, hasB_iff.1 h2⟩
theorem predsF_pair (f : FunD) (j : Int) : (predsF f j).Pairwise (· < ·) := by
  unfold predsF predsK
  rw [List.pairwise_map]
  exact (List.pairwise_lt_range.filter _).imp fun h => by omega
theorem predsF_lt {f : FunD} {j y z : Int} {i : Nat} (h1 : (predsF f j)[i]? = some y) (h2 : (predsF f j)[i + 1]? = some z) : y < z := by
  obtain ⟨hi, rfl⟩ := List.getElem?_eq_some_iff.1 h1
  obtain ⟨hk, rfl⟩ := List.getElem?_eq_some_iff.1 h2
  exact List.pairwise_iff_getElem.1 (predsF_pair f j) i (i + 1) hi hk (by omega)
theorem preds_of {f : FunD} {j : Int} {xs : List Int} (hp : FunP f) (hj : 0 ≤ j ∧ j < f.blocks.length) (h : PredsRes f j xs) : xs = predsF f j := by
  rcases h with ⟨_, _, h⟩ | ⟨h, _⟩
  · exact h
  · exact absurd ⟨hp, by simp [isBelowB]; omega⟩ h
theorem succs_of {f : FunD} {b : Nat} {x : BlockD} (hp : FunP f) (hx : f.blocks[b]? = some x) : succsL x.fin.k x.fin.a x.fin.t x.fin.l = toL x.fin.k x.fin.t x.fin.l ∧ ∀ y ∈ toL x.fin.k x.fin.t x.fin.l, 0 ≤ y ∧ y < (f.blocks.length : Int) := by
  have h := targets_of hp b x hx
  exact ⟨by unfold succsL; rw [if_pos h.1], h.2⟩
end

/- Where names are given and taken: events, by block, then by time. -/
section

instance : DecidableEq MoveD := fun a b => decidable_of_iff (a.dst = b.dst ∧ a.src = b.src) ⟨fun h => by cases a; cases b; simp at h; obtain ⟨h1, h2⟩ := h; subst h1 h2; rfl, fun h => by subst h; exact ⟨rfl, rfl⟩⟩

/-- What the first k of a list give, one behind the other. -/
def upTo {α β : Type} (g : Nat → α → List β) (l : List α) (k : Nat) : List β := (List.range k).flatMap fun i => match l[i]? with
  | some x => g i x
  | none => []
section
variable {α β : Type} {g : Nat → α → List β} {l : List α}
theorem upTo_zero (g : Nat → α → List β) (l : List α) : upTo g l 0 = [] := rfl
theorem upTo_succ {k : Nat} {x : α} (h : l[k]? = some x) : upTo g l (k + 1) = upTo g l k ++ g k x := by
  unfold upTo
  rw [List.range_succ, List.flatMap_append]
  congr 1
  simp [h]
theorem upTo_len {c : Nat} (hg : ∀ i x, l[i]? = some x → (g i x).length ≤ c) : ∀ k, (upTo g l k).length ≤ c * k
  | 0 => by simp [upTo_zero]
  | k + 1 => by
    have ih := upTo_len (c := c) hg k
    cases h : l[k]? with
    | some x =>
      have := hg k x h
      rw [upTo_succ h, List.length_append, Nat.mul_succ]
      omega
    | none =>
      have : upTo g l (k + 1) = upTo g l k := by
        unfold upTo
        rw [List.range_succ, List.flatMap_append]
        simp [h]
      rw [this, Nat.mul_succ]
      omega
theorem mem_upTo {k : Nat} {y : β} (h : y ∈ upTo g l k) : ∃ i x, i < k ∧ l[i]? = some x ∧ y ∈ g i x := by
  unfold upTo at h
  rw [List.mem_flatMap] at h
  obtain ⟨i, hi, hy⟩ := h
  rw [List.mem_range] at hi
  cases hx : l[i]? with
  | some x => rw [hx] at hy; exact ⟨i, x, hi, hx, hy⟩
  | none => rw [hx] at hy; cases hy
theorem upTo_mem {k i : Nat} {x : α} {y : β} (hi : i < k) (hx : l[i]? = some x) (hy : y ∈ g i x) : y ∈ upTo g l k := by
  unfold upTo
  rw [List.mem_flatMap]
  exact ⟨i, List.mem_range.2 hi, by rw [hx]; exact hy⟩
end

/-- A name and a place (dst: the block; src: the time). -/
structure EvD where
  n : Int
  pl : MoveD

/-- The places of one name. -/
def pick (evs : List EvD) (j : Int) : List MoveD := (evs.filter fun e => e.n == j).map (·.pl)
theorem pick_nil (j : Int) : pick [] j = [] := rfl
theorem pick_append (a b : List EvD) (j : Int) : pick (a ++ b) j = pick a j ++ pick b j := by simp [pick]
theorem pick_one (e : EvD) (j : Int) : pick [e] j = if e.n = j then [e.pl] else [] := by
  unfold pick
  by_cases h : e.n = j
  · simp [h]
  · simp [h]
theorem pick_snoc (evs : List EvD) (e : EvD) (j : Int) : pick (evs ++ [e]) j = if e.n = j then pick evs j ++ [e.pl] else pick evs j := by
  rw [pick_append, pick_one]
  split <;> simp
theorem pick_len (evs : List EvD) (j : Int) : (pick evs j).length ≤ evs.length := by
  unfold pick
  rw [List.length_map]
  exact List.length_filter_le _ _
theorem mem_pick {evs : List EvD} {j : Int} {p : MoveD} (h : p ∈ pick evs j) : ∃ e ∈ evs, e.n = j ∧ e.pl = p := by
  unfold pick at h
  rw [List.mem_map] at h
  obtain ⟨e, he, hp⟩ := h
  rw [List.mem_filter] at he
  exact ⟨e, he.1, by simpa using he.2, hp⟩
theorem take_snoc {α : Type} {xs : List α} {m : Nat} {u : α} (h : xs[m]? = some u) : xs.take (m + 1) = xs.take m ++ [u] := by
  rw [List.take_add_one, h]; rfl

/-- One place more, if it is not the last one already. -/
def once (l : List MoveD) (p : MoveD) : List MoveD := if l.getLast? = some p then l else l ++ [p]
theorem once_len (l : List MoveD) (p : MoveD) : (once l p).length ≤ l.length + 1 := by
  unfold once
  split <;> simp
theorem mem_once {l : List MoveD} {p q : MoveD} : q ∈ once l p ↔ q ∈ l ∨ q = p := by
  unfold once
  split
  · rename_i h
    constructor
    · exact .inl
    · rintro (h' | rfl)
      · exact h'
      · exact List.mem_of_getLast? h
  · simp
def pickO (evs : List EvD) (j : Int) : List MoveD := (pick evs j).foldl once []
theorem pickO_nil (j : Int) : pickO [] j = [] := rfl
theorem pickO_snoc (evs : List EvD) (e : EvD) (j : Int) : pickO (evs ++ [e]) j = if e.n = j then once (pickO evs j) e.pl else pickO evs j := by
  unfold pickO
  rw [pick_snoc]
  split
  · rw [List.foldl_append]; rfl
  · rfl
theorem foldl_once_len : ∀ (l acc : List MoveD), (l.foldl once acc).length ≤ acc.length + l.length
  | [], acc => by simp
  | p :: l, acc => by
    have := foldl_once_len l (once acc p)
    have := once_len acc p
    simp only [List.foldl_cons, List.length_cons]
    omega
theorem pickO_len (evs : List EvD) (j : Int) : (pickO evs j).length ≤ evs.length := by
  have := foldl_once_len (pick evs j) []
  have := pick_len evs j
  unfold pickO
  simp at *
  omega
theorem mem_foldl_once : ∀ (l acc : List MoveD) (q : MoveD), q ∈ l.foldl once acc ↔ q ∈ acc ∨ q ∈ l
  | [], acc, q => by simp
  | p :: l, acc, q => by
    rw [List.foldl_cons, mem_foldl_once l _ q, mem_once, List.mem_cons]
    constructor
    · rintro ((h | h) | h)
      · exact .inl h
      · exact .inr (.inl h)
      · exact .inr (.inr h)
    · rintro (h | h | h)
      · exact .inl (.inl h)
      · exact .inl (.inr h)
      · exact .inr h
theorem mem_pickO {evs : List EvD} {j : Int} {q : MoveD} : q ∈ pickO evs j ↔ q ∈ pick evs j := by
  unfold pickO
  rw [mem_foldl_once]
  simp

def phG (k : Int) (l : List PhiD) (j : Nat) : List EvD := upTo (fun _ p => [⟨p.v, ⟨k, 0⟩⟩]) l j
def mvG (k t : Int) (l : List MoveD) (j : Nat) : List EvD := upTo (fun _ m => [⟨m.dst, ⟨k, t⟩⟩]) l j
def mvT (k t : Int) (l : List MoveD) (j : Nat) : List EvD := upTo (fun _ m => [⟨m.src, ⟨k, t⟩⟩]) l j
def insG (k : Int) (l : List InsD) (j : Nat) : List EvD := upTo (fun i x => if x.v = -1 then [] else [⟨x.v, ⟨k, 2 + (i : Int)⟩⟩]) l j
def insT (k : Int) (l : List InsD) (j : Nat) : List EvD := upTo (fun i x => (usesL x.op x.v x.a x.b).map fun u => ⟨u, ⟨k, 2 + (i : Int)⟩⟩) l j
/-- What a block gives (but for the Params). -/
def blkG (k : Int) (x : BlockD) : List EvD := phG k x.phis x.phis.length ++ mvG k 1 x.head x.head.length ++ insG k x.body x.body.length ++ mvG k (2 + (x.body.length : Int)) x.tail x.tail.length
def parG (n : Nat) : List EvD := (List.range n).map fun (i : Nat) => ⟨(i : Int), ⟨0, 0⟩⟩
theorem parG_succ (n : Nat) : parG (n + 1) = parG n ++ [⟨(n : Int), ⟨0, 0⟩⟩] := by simp [parG, List.range_succ]
theorem parG_len (n : Nat) : (parG n).length = n := by simp [parG]
/-- The givings of the Params and of the first k blocks. -/
def defsK (f : FunD) (k : Nat) : List EvD := parG f.params.toNat ++ upTo (fun i x => blkG (i : Int) x) f.blocks k
/-- Of one block, the Params with the first one. -/
def blkP (f : FunD) (k : Nat) (x : BlockD) : List EvD := (if k = 0 then parG f.params.toNat else []) ++ blkG (k : Int) x
theorem blkP_all (f : FunD) : ∀ k, k ≤ f.blocks.length → 1 ≤ k → upTo (blkP f) f.blocks k = defsK f k
  | 0, _, h => absurd h (by omega)
  | k + 1, hk, _ => by
    have hx : f.blocks[k]? = some f.blocks[k] := List.getElem?_eq_getElem (by omega)
    rw [upTo_succ hx]
    unfold defsK
    rw [upTo_succ hx]
    rcases Nat.eq_zero_or_pos k with rfl | h0
    · simp [upTo_zero, blkP]
    · rw [blkP_all f k (by omega) h0]
      unfold defsK blkP
      rw [if_neg (by omega), List.nil_append, List.append_assoc]

/-- At which of its preds a block is. -/
def wayF (f : FunD) (t k : Int) : Nat := (predsF f t).idxOf k
theorem wayF_lt {f : FunD} {t k : Int} (h : k ∈ predsF f t) : wayF f t k < (predsF f t).length := List.idxOf_lt_length_of_mem h
theorem wayF_get {f : FunD} {t k : Int} (h : k ∈ predsF f t) : (predsF f t)[wayF f t k]? = some k := by
  rw [List.getElem?_eq_getElem (wayF_lt h)]
  exact congrArg some (List.getElem_idxOf (wayF_lt h))
theorem wayF_only {f : FunD} {t k : Int} {i : Nat} (h : (predsF f t)[i]? = some k) : i = wayF f t k := by
  have hk : k ∈ predsF f t := List.mem_of_getElem? h
  have hw := wayF_get hk
  have hp := predsF_pair f t
  rw [List.pairwise_iff_getElem] at hp
  have h1 := List.getElem?_eq_some_iff.1 h
  have h2 := List.getElem?_eq_some_iff.1 hw
  obtain ⟨l1, e1⟩ := h1
  obtain ⟨l2, e2⟩ := h2
  rcases Nat.lt_trichotomy i (wayF f t k) with hlt | he | hgt
  · have := hp i (wayF f t k) l1 l2 hlt
    rw [e1, e2] at this
    omega
  · exact he
  · have := hp (wayF f t k) i l2 l1 hgt
    rw [e1, e2] at this
    omega
/-- What the Phis of the block t take from k. -/
def phiL (f : FunD) (k t : Int) : List Int := match f.blocks[t.toNat]? with
  | some y => y.phis.map fun p => p.args.getD (wayF f t k) 0
  | none => []
/-- What is taken at the End of a block. -/
def endL (f : FunD) (k : Int) (x : BlockD) : List Int := (if x.fin.k = 2 then [] else [x.fin.a]) ++ (toE x.fin).flatMap (phiL f k)
def blkT (f : FunD) (k : Nat) (x : BlockD) : List EvD := mvT k 1 x.head x.head.length ++ insT k x.body x.body.length ++ mvT k (2 + (x.body.length : Int)) x.tail x.tail.length ++ (endL f k x).map fun u => ⟨u, ⟨k, 3 + (x.body.length : Int)⟩⟩
/-- The takings of the first k blocks. -/
def takesK (f : FunD) (k : Nat) : List EvD := upTo (blkT f) f.blocks k

theorem phiL_at {f : FunD} {k : Int} {t : Nat} {y : BlockD} (h : f.blocks[t]? = some y) : phiL f k t = y.phis.map fun p => p.args.getD (wayF f t k) 0 := by
  unfold phiL
  rw [Int.toNat_natCast, h]

/- How many they are. -/
theorem usesL_le2 (op v a b : Int) : (usesL op v a b).length ≤ 2 := usesL_len op v a b
theorem blkG_len {f : FunD} (hp : FunP f) {k : Nat} {x : BlockD} (hx : f.blocks[k]? = some x) : (blkG k x).length ≤ 164 := by
  have hb := hp.1.2.2.2.2 k x hx
  have h1 := (hp.2.2.2 k x hx).1
  have h2 := hb.2.1.1
  have h3 := hb.2.2.1.1
  have h4 := hb.2.2.2.1
  have e1 := upTo_len (g := fun (_ : Nat) (p : PhiD) => [(⟨p.v, ⟨(k : Int), 0⟩⟩ : EvD)]) (l := x.phis) (c := 1) (fun _ _ _ => by simp) x.phis.length
  have e2 := upTo_len (g := fun (_ : Nat) (m : MoveD) => [(⟨m.dst, ⟨(k : Int), 1⟩⟩ : EvD)]) (l := x.head) (c := 1) (fun _ _ _ => by simp) x.head.length
  have e3 := upTo_len (g := fun (i : Nat) (x : InsD) => if x.v = -1 then [] else [(⟨x.v, ⟨(k : Int), 2 + (i : Int)⟩⟩ : EvD)]) (l := x.body) (c := 1) (fun _ _ _ => by split <;> simp) x.body.length
  have e4 := upTo_len (g := fun (_ : Nat) (m : MoveD) => [(⟨m.dst, ⟨(k : Int), 2 + (x.body.length : Int)⟩⟩ : EvD)]) (l := x.tail) (c := 1) (fun _ _ _ => by simp) x.tail.length
  unfold blkG phG mvG insG
  simp only [List.length_append]
  omega
theorem defsK_len {f : FunD} (hp : FunP f) (k : Nat) (hk : k ≤ f.blocks.length) : (defsK f k).length ≤ 7000 := by
  have h40 := hp.1.1.2
  have h6 := hp.1.2.2.1.2
  have e := upTo_len (g := fun (i : Nat) (x : BlockD) => blkG (i : Int) x) (l := f.blocks) (c := 164) (fun i x hx => blkG_len hp hx) k
  unfold defsK
  rw [List.length_append, parG_len]
  omega
theorem phiL_len {f : FunD} (hp : FunP f) (k t : Int) : (phiL f k t).length ≤ 4 := by
  unfold phiL
  cases h : f.blocks[t.toNat]? with
  | some y => simpa using (hp.2.2.2 _ y h).1
  | none => simp
theorem toE_len (e : EndD) : (toE e).length ≤ 2 := toL_len _ _ _
theorem endL_len {f : FunD} (hp : FunP f) (k : Int) (x : BlockD) : (endL f k x).length ≤ 9 := by
  have h := toE_len x.fin
  unfold endL
  rw [List.length_append]
  have h1 : (if x.fin.k = 2 then ([] : List Int) else [x.fin.a]).length ≤ 1 := by split <;> simp
  have h2 : ((toE x.fin).flatMap (phiL f k)).length ≤ 8 := by
    generalize toE x.fin = ts at h
    match ts, h with
    | [], _ => simp
    | [a], _ => have := phiL_len hp k a; simp; omega
    | [a, b], _ => have := phiL_len hp k a; have := phiL_len hp k b; simp; omega
    | _ :: _ :: _ :: _, h => simp at h
  omega
theorem blkT_len {f : FunD} (hp : FunP f) {k : Nat} {x : BlockD} (hx : f.blocks[k]? = some x) : (blkT f k x).length ≤ 249 := by
  have hb := hp.1.2.2.2.2 k x hx
  have h2 := hb.2.1.1
  have h3 := hb.2.2.1.1
  have h4 := hb.2.2.2.1
  have h5 := endL_len hp k x
  have e2 := upTo_len (g := fun (_ : Nat) (m : MoveD) => [(⟨m.src, ⟨(k : Int), 1⟩⟩ : EvD)]) (l := x.head) (c := 1) (fun _ _ _ => by simp) x.head.length
  have e3 := upTo_len (g := fun (i : Nat) (x : InsD) => (usesL x.op x.v x.a x.b).map fun u => (⟨u, ⟨(k : Int), 2 + (i : Int)⟩⟩ : EvD)) (l := x.body) (c := 2) (fun _ x _ => by rw [List.length_map]; exact usesL_len _ _ _ _) x.body.length
  have e4 := upTo_len (g := fun (_ : Nat) (m : MoveD) => [(⟨m.src, ⟨(k : Int), 2 + (x.body.length : Int)⟩⟩ : EvD)]) (l := x.tail) (c := 1) (fun _ _ _ => by simp) x.tail.length
  unfold blkT mvT insT
  simp only [List.length_append, List.length_map]
  omega
theorem takesK_len {f : FunD} (hp : FunP f) (k : Nat) (hk : k ≤ f.blocks.length) : (takesK f k).length ≤ 10000 := by
  have h40 := hp.1.1.2
  have e := upTo_len (g := blkT f) (l := f.blocks) (c := 249) (fun i x hx => blkT_len hp hx) k
  unfold takesK
  omega

/- The names are below Names. -/
theorem below_iff {a n : Int} : isBelowB a n = true ↔ 0 ≤ a ∧ a < n := by simp [isBelowB]
end

end Go.Proofs.YtnjmlhokkhkaaaaGreat
