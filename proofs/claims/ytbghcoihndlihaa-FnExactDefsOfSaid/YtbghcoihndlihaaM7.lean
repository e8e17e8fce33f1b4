/- FunOk and PredsOf of the program. -/
import Derived.Test.YtbghcoihndlihaaM4
import Derived.Test.YtbghcoihndlihaaM6
import Derived.Test.YtbghcoihndlihaaL2d
namespace Go.Proofs.Ytbghcoihndlihaa
open Go.ChangeShapes Go.WideShapes Go.ChangeAt Go.RowKit Go.Joins

def predsI (f : FunD) (j : Int) : List Int := predsK succsE f.blocks f.blocks.length j
theorem predsI_len (f : FunD) (j : Int) : (predsI f j).length ≤ f.blocks.length := predsK_len _ _ _ _
theorem predsI_eq {f : FunD} (h : ∀ (j : Nat) x, f.blocks[j]? = some x → endOkB x.fin.k x.fin.a x.fin.t x.fin.l = true) (j : Int) : predsI f j = predsF f j :=
  predsK_congr (fun i x hx => by show succsL _ _ _ _ = toL _ _ _; simp [succsL, h i x hx]) _ _
theorem funP_of {f : FunD} (hh : FrameHead f) (h0 : ∀ x, f.blocks[0]? = some x → x.phis = []) (hp : predsI f 0 = []) (hall : ∀ (j : Nat) x, f.blocks[j]? = some x → BlockAll f.names f.blocks.length (predsI f j).length x) : FunP f := by
  have hE := predsI_eq (f := f) fun j x hx => (hall j x hx).2.1.1
  refine ⟨⟨hh.1, hh.2.1, hh.2.2.1, hh.2.2.2, fun j x hx => (hall j x hx).2⟩, (hE 0).symm.trans hp, h0, fun i x hx => ?_⟩
  rw [← hE]; exact (hall i x hx).1
theorem funP_preds {f : FunD} (h : FunP f) (j : Int) : predsI f j = predsF f j := predsI_eq (fun j x hx => (h.1.2.2.2.2 j x hx).1.1) j
theorem funP_block {f : FunD} (h : FunP f) {j : Nat} {x : BlockD} (hx : f.blocks[j]? = some x) : BlockAll f.names f.blocks.length (predsI f j).length x :=
  ⟨by rw [funP_preds h]; exact h.2.2.2 j x hx, h.1.2.2.2.2 j x hx⟩

set_option maxRecDepth 10000 in
set_option maxHeartbeats 2000000 in
theorem FunOk_any (f : FunD) (v : Value) (w : World) (Z : Zn) (hv : EFun w Z f v) (hD : ∀ b, Z.D b → b < w.heap.size) (hn : f.blocks.length ≤ 1048576) : Calls Try.prog 20 #[v] w (GivesB (FunP f) w) := by
  have HF := Lib.hid hv
  obtain ⟨u, rfl, hu⟩ := hv
  obtain ⟨hle, A, c, rfl, hx⟩ := hu
  go_enter Try.func20, Try.ntmps20
  go_wp2_with fail
  refine (sizesOk_any f _ _ _ hle).mono ?_
  rintro e w1 ⟨r, rfl, hr, hb1⟩
  have HR := Lib.hid hr
  have HB1 := Lib.hid (hb1.mono (B' := w.heap.size + 1) (by simp))
  have HB01 : Hid (Below w.heap.size w w1) := ((Below.refl _ _).alloc (Nat.le_refl _) _).trans (HB1.out.mono (by omega))
  have hz1 : w.heap.size + 1 ≤ w1.heap.size := by have := hb1.size; simp at this; omega
  obtain ⟨hc1, hf1⟩ := bcellB HB1.out
  clear hb1 hf1 hr
  cases r
  · have HN : Hid (¬ FunP f) := fun h => by have := HR.out.2 h.1.head; cases this
    go_wp2_with fail
    go_ret
    exact gives_no HN.out HB01.out
  have HP := Lib.hid (HR.out.1 rfl)
  clear HR
  have h1n := HP.out.1.1
  have h40 := HP.out.1.2
  have hxk : f.blocks[0]? = some f.blocks[0] := List.getElem?_eq_getElem h1n
  generalize f.blocks[0] = x at hxk
  have HX := Lib.hid hx
  obtain ⟨b, off, rfl, hDb, hrow⟩ := hx (by intro h; rw [h] at h1n; simp at h1n)
  obtain ⟨cs, hE, hcs⟩ := hrow 0 x hxk
  have hbl := hD b hDb
  obtain ⟨_, _, _, _, rfl, ⟨_, A0, c0, rfl, _⟩, _⟩ := hE
  have c0 : w.cell? ⟨b, off, none⟩ = some (.slice A0 x.phis.length c0) := by have := (hcs 0 _ rfl).1; simpa using this
  have Hxk := Lib.hid hxk
  have h1n' : 0 < (f.blocks.length : Int) := by omega
  clear hcs hrow hxk
  by_cases hph : x.phis = []
  case neg =>
    have HN : Hid (¬ FunP f) := fun h => hph (h.2.2.1 x Hxk.out)
    have hp0' : decide (0 < x.phis.length) = true := by simpa using List.length_pos_iff.2 hph
    clear hph
    go_wp2_with fail
    go_ret
    exact gives_no HN.out HB01.out
  have hph' : decide (0 < x.phis.length) = false := by rw [hph]; simp
  have HPH : Hid (∀ y, f.blocks[0]? = some y → y.phis = []) := fun y hy => by
    rw [Hxk.out] at hy
    injection hy with hy
    subst hy
    exact hph
  clear hph
  go_wp2_with fail
  refine (predsOfAll_any _ f.blocks _ Z (HF.out.row.keep (Kept.below HB01.out hD) fun _ _ h => h.keep (Kept.below HB01.out hD)) (fun b hb => by have := hD b hb; omega) hn).mono ?_
  rintro e w2 ⟨rfl, hp2, hb2⟩
  have hp2' : PRow w2 (w1.heap.size + 1) w1.heap.size f.blocks.length fun j => predsI f j := hp2
  have HB2 := Lib.hid (HB1.out.trans (hb2.mono hz1))
  have HB02 : Hid (Below w.heap.size w w2) := ((Below.refl _ _).alloc (Nat.le_refl _) _).trans (HB2.out.mono (by omega))
  have hz2 := hb2.size
  have HP2 := Lib.hid hp2'
  have hG2 := hp2.lt
  obtain ⟨hc2, hf2⟩ := bcellB (hb2.mono hz1)
  obtain ⟨v0, hv0, ho0⟩ := hp2'.get h1n
  obtain ⟨_, A2, c2, rfl, _⟩ := ho0.ri
  have el0 : (predsI f ((0 : Nat) : Int)).length = (predsI f 0).length := rfl
  rw [el0] at hv0
  clear hb2 hf2 hp2 hp2' ho0 el0
  by_cases hp0 : predsI f 0 = []
  case neg =>
    have HN : Hid (¬ FunP f) := fun h => hp0 ((funP_preds h 0).trans h.2.1)
    have hp0' : decide (0 < (predsI f 0).length) = true := by simpa using List.length_pos_iff.2 hp0
    clear hp0
    go_wp2_with fail
    go_ret
    exact gives_no HN.out HB02.out
  have hp0' : decide (0 < (predsI f 0).length) = false := by rw [hp0]; simp
  have HP0 := Lib.hid hp0
  clear hp0
  go_wp2_with fail
  clear hc1 hc2 c0 hv0
  go_loopw [29] (fun i wr => ∃ k : Nat, k ≤ f.blocks.length ∧ i = .int .i64 k ∧ Hid (Below (w.heap.size + 1) (w.alloc (.cells #[.int .i64 f.params, .int .i64 f.names, .slice (some ⟨b, off, none⟩) f.blocks.length c] 30)) wr) ∧ w1.heap.size < wr.heap.size ∧ Hid (PRow wr (w1.heap.size + 1) w1.heap.size f.blocks.length (fun j => predsI f j)) ∧ Hid (∀ (j : Nat) y, j < k → f.blocks[j]? = some y → BlockAll f.names f.blocks.length (predsI f j).length y)) (fun i _ => f.blocks.length - (intOf i).toNat)
  case atStart => exact ⟨0, Nat.zero_le _, rfl, HB2.out, hG2, HP2.out, fun _ _ h => absurd h (by omega)⟩
  case round =>
    obtain ⟨k, hk, rfl, HB, hgr, HPr, H1⟩ := hrel
    have HB0 : Hid (Below w.heap.size w wr) := ((Below.refl _ _).alloc (Nat.le_refl _) _).trans (HB.out.mono (by omega))
    have hzw : w.heap.size + 1 ≤ wr.heap.size := by have := HB.out.size; simp at this; omega
    have f1 : wr.cell? ⟨w.heap.size, 1, none⟩ = some (.int .i64 f.names) := (HB.out.cell (p := ⟨w.heap.size, 1, none⟩) (by simp)).trans (by go_simp)
    have f2 : wr.cell? ⟨w.heap.size, 2, none⟩ = some (.slice (some ⟨b, off, none⟩) f.blocks.length c) := (HB.out.cell (p := ⟨w.heap.size, 2, none⟩) (by simp)).trans (by go_simp)
    by_cases hlt : k < f.blocks.length
    case neg =>
      obtain rfl : k = f.blocks.length := by omega
      go_wp2
      go_ret
      exact gives_yes (funP_of HP.out HPH.out HP0.out fun j y hy => H1.out j y (List.getElem?_eq_some_iff.1 hy).1 hy) HB0.out
    have hyk : f.blocks[k]? = some f.blocks[k] := List.getElem?_eq_getElem hlt
    generalize f.blocks[k] = y at hyk
    obtain ⟨b', off', he, hDb', hrow⟩ := HX.out (by intro h; rw [h] at hlt; simp at hlt)
    injection he with he
    injection he with hb' ho'
    subst hb' ho'
    obtain ⟨cs, hE, hcs⟩ := hrow k y hyk
    have HEr := Lib.hid (hE.keep (Kept.below HB0.out hD))
    obtain ⟨A3, q3, A4, q4, A5, q5, A6, q6, rfl, _⟩ := hE.parts
    have c0 : wr.cell? ⟨b, off + k * 8, none⟩ = some (.slice A3 y.phis.length q3) := (HB0.out.cell (p := ⟨b, _, none⟩) hbl).trans (hcs 0 _ rfl).1
    have c1 : wr.cell? ⟨b, off + k * 8 + 1, none⟩ = some (.slice A4 y.head.length q4) := (HB0.out.cell (p := ⟨b, _, none⟩) hbl).trans (hcs 1 _ rfl).1
    have c2 : wr.cell? ⟨b, off + k * 8 + 2, none⟩ = some (.slice A5 y.body.length q5) := (HB0.out.cell (p := ⟨b, _, none⟩) hbl).trans (hcs 2 _ rfl).1
    have c3 : wr.cell? ⟨b, off + k * 8 + 3, none⟩ = some (.slice A6 y.tail.length q6) := (HB0.out.cell (p := ⟨b, _, none⟩) hbl).trans (hcs 3 _ rfl).1
    have c4 : wr.cell? ⟨b, off + k * 8 + 4, none⟩ = some (.int .i64 y.fin.k) := (HB0.out.cell (p := ⟨b, _, none⟩) hbl).trans (hcs 4 _ rfl).1
    have c5 : wr.cell? ⟨b, off + k * 8 + 5, none⟩ = some (.int .i64 y.fin.a) := (HB0.out.cell (p := ⟨b, _, none⟩) hbl).trans (hcs 5 _ rfl).1
    have c6 : wr.cell? ⟨b, off + k * 8 + 6, none⟩ = some (.int .i64 y.fin.t) := (HB0.out.cell (p := ⟨b, _, none⟩) hbl).trans (hcs 6 _ rfl).1
    have c7 : wr.cell? ⟨b, off + k * 8 + 7, none⟩ = some (.int .i64 y.fin.l) := (HB0.out.cell (p := ⟨b, _, none⟩) hbl).trans (hcs 7 _ rfl).1
    obtain ⟨v8, hv8, ho8⟩ := HPr.out.get hlt
    obtain ⟨_, A8, q8, rfl, _⟩ := ho8.ri
    have hpl := predsI_len f k
    have Hyk := Lib.hid hyk
    have hlt' : (k : Int) < (f.blocks.length : Int) := by omega
    have hk0 : 0 ≤ (k : Int) := by omega
    clear hcs hyk hrow hE ho8
    go_wp2_with fail
    have d0 : (wr.alloc (.cells #[.slice A3 y.phis.length q3, .slice A4 y.head.length q4, .slice A5 y.body.length q5, .slice A6 y.tail.length q6, .int .i64 y.fin.k, .int .i64 y.fin.a, .int .i64 y.fin.t, .int .i64 y.fin.l] 66)).cell? ⟨wr.heap.size, 0, none⟩ = some (.slice A3 y.phis.length q3) := by go_simp
    have d1 : (wr.alloc (.cells #[.slice A3 y.phis.length q3, .slice A4 y.head.length q4, .slice A5 y.body.length q5, .slice A6 y.tail.length q6, .int .i64 y.fin.k, .int .i64 y.fin.a, .int .i64 y.fin.t, .int .i64 y.fin.l] 66)).cell? ⟨wr.heap.size, 1, none⟩ = some (.slice A4 y.head.length q4) := by go_simp
    have d2 : (wr.alloc (.cells #[.slice A3 y.phis.length q3, .slice A4 y.head.length q4, .slice A5 y.body.length q5, .slice A6 y.tail.length q6, .int .i64 y.fin.k, .int .i64 y.fin.a, .int .i64 y.fin.t, .int .i64 y.fin.l] 66)).cell? ⟨wr.heap.size, 2, none⟩ = some (.slice A5 y.body.length q5) := by go_simp
    have d3 : (wr.alloc (.cells #[.slice A3 y.phis.length q3, .slice A4 y.head.length q4, .slice A5 y.body.length q5, .slice A6 y.tail.length q6, .int .i64 y.fin.k, .int .i64 y.fin.a, .int .i64 y.fin.t, .int .i64 y.fin.l] 66)).cell? ⟨wr.heap.size, 3, none⟩ = some (.slice A6 y.tail.length q6) := by go_simp
    have d4 : (wr.alloc (.cells #[.slice A3 y.phis.length q3, .slice A4 y.head.length q4, .slice A5 y.body.length q5, .slice A6 y.tail.length q6, .int .i64 y.fin.k, .int .i64 y.fin.a, .int .i64 y.fin.t, .int .i64 y.fin.l] 66)).cell? ⟨wr.heap.size, 4, none⟩ = some (.int .i64 y.fin.k) := by go_simp
    have d5 : (wr.alloc (.cells #[.slice A3 y.phis.length q3, .slice A4 y.head.length q4, .slice A5 y.body.length q5, .slice A6 y.tail.length q6, .int .i64 y.fin.k, .int .i64 y.fin.a, .int .i64 y.fin.t, .int .i64 y.fin.l] 66)).cell? ⟨wr.heap.size, 5, none⟩ = some (.int .i64 y.fin.a) := by go_simp
    have d6 : (wr.alloc (.cells #[.slice A3 y.phis.length q3, .slice A4 y.head.length q4, .slice A5 y.body.length q5, .slice A6 y.tail.length q6, .int .i64 y.fin.k, .int .i64 y.fin.a, .int .i64 y.fin.t, .int .i64 y.fin.l] 66)).cell? ⟨wr.heap.size, 6, none⟩ = some (.int .i64 y.fin.t) := by go_simp
    have d7 : (wr.alloc (.cells #[.slice A3 y.phis.length q3, .slice A4 y.head.length q4, .slice A5 y.body.length q5, .slice A6 y.tail.length q6, .int .i64 y.fin.k, .int .i64 y.fin.a, .int .i64 y.fin.t, .int .i64 y.fin.l] 66)).cell? ⟨wr.heap.size, 7, none⟩ = some (.int .i64 y.fin.l) := by go_simp
    have hBW : Below wr.heap.size wr (wr.alloc (.cells #[.slice A3 y.phis.length q3, .slice A4 y.head.length q4, .slice A5 y.body.length q5, .slice A6 y.tail.length q6, .int .i64 y.fin.k, .int .i64 y.fin.a, .int .i64 y.fin.t, .int .i64 y.fin.l] 66)) := (Below.refl _ _).alloc (Nat.le_refl _) _
    have hsW : (wr.alloc (.cells #[.slice A3 y.phis.length q3, .slice A4 y.head.length q4, .slice A5 y.body.length q5, .slice A6 y.tail.length q6, .int .i64 y.fin.k, .int .i64 y.fin.a, .int .i64 y.fin.t, .int .i64 y.fin.l] 66)).heap.size = wr.heap.size + 1 := by simp
    generalize wr.alloc (.cells #[.slice A3 y.phis.length q3, .slice A4 y.head.length q4, .slice A5 y.body.length q5, .slice A6 y.tail.length q6, .int .i64 y.fin.k, .int .i64 y.fin.a, .int .i64 y.fin.t, .int .i64 y.fin.l] 66) = W2 at *
    have HBW := Lib.hid hBW
    have hrw : wr.heap.size < W2.heap.size := by omega
    have hgw : w1.heap.size < W2.heap.size := by omega
    have hfw : w.heap.size < W2.heap.size := by omega
    have e1 := (hBW.cell (p := ⟨w.heap.size, 1, none⟩) (by show w.heap.size < _; omega)).trans f1
    have e2 := (hBW.cell (p := ⟨w.heap.size, 2, none⟩) (by show w.heap.size < _; omega)).trans f2
    have e3 := (hBW.cell (p := ⟨w1.heap.size, k, none⟩) hgr).trans hv8
    have h150 := HP.out.2.1.2
    clear hBW hsW c0 c1 c2 c3 c4 c5 c6 c7 f1 f2 hv8
    have keepS : ∀ w5 : World, Below W2.heap.size W2 w5 → (fun w' => Below W2.heap.size W2 w' ∧ w'.cell? ⟨w.heap.size, 1, none⟩ = some (.int .i64 f.names) ∧ w'.cell? ⟨w.heap.size, 2, none⟩ = some (.slice (some ⟨b, off, none⟩) f.blocks.length c) ∧ w'.cell? ⟨w1.heap.size, k, none⟩ = some (.slice A8 (predsI f k).length q8) ∧ w'.cell? ⟨wr.heap.size, 0, none⟩ = some (.slice A3 y.phis.length q3) ∧ w'.cell? ⟨wr.heap.size, 1, none⟩ = some (.slice A4 y.head.length q4) ∧ w'.cell? ⟨wr.heap.size, 2, none⟩ = some (.slice A5 y.body.length q5) ∧ w'.cell? ⟨wr.heap.size, 3, none⟩ = some (.slice A6 y.tail.length q6) ∧ w'.cell? ⟨wr.heap.size, 4, none⟩ = some (.int .i64 y.fin.k) ∧ w'.cell? ⟨wr.heap.size, 5, none⟩ = some (.int .i64 y.fin.a) ∧ w'.cell? ⟨wr.heap.size, 6, none⟩ = some (.int .i64 y.fin.t) ∧ w'.cell? ⟨wr.heap.size, 7, none⟩ = some (.int .i64 y.fin.l)) w5 := fun w5 hb => ⟨hb, (hb.cell (p := ⟨w.heap.size, 1, none⟩) hfw).trans e1, (hb.cell (p := ⟨w.heap.size, 2, none⟩) hfw).trans e2, (hb.cell (p := ⟨w1.heap.size, k, none⟩) hgw).trans e3, (hb.cell (p := ⟨wr.heap.size, 0, none⟩) hrw).trans d0, (hb.cell (p := ⟨wr.heap.size, 1, none⟩) hrw).trans d1, (hb.cell (p := ⟨wr.heap.size, 2, none⟩) hrw).trans d2, (hb.cell (p := ⟨wr.heap.size, 3, none⟩) hrw).trans d3, (hb.cell (p := ⟨wr.heap.size, 4, none⟩) hrw).trans d4, (hb.cell (p := ⟨wr.heap.size, 5, none⟩) hrw).trans d5, (hb.cell (p := ⟨wr.heap.size, 6, none⟩) hrw).trans d6, (hb.cell (p := ⟨wr.heap.size, 7, none⟩) hrw).trans d7⟩
    have K := keepS _ (Below.refl _ _)
    have Kd := keepS _ below_drew
    clear d0 d1 d2 d3 d4 d5 d6 d7 e1 e2 e3
    go_region_held3 (fun w' => Below W2.heap.size W2 w' ∧ w'.cell? ⟨w.heap.size, 1, none⟩ = some (.int .i64 f.names) ∧ w'.cell? ⟨w.heap.size, 2, none⟩ = some (.slice (some ⟨b, off, none⟩) f.blocks.length c) ∧ w'.cell? ⟨w1.heap.size, k, none⟩ = some (.slice A8 (predsI f k).length q8) ∧ w'.cell? ⟨wr.heap.size, 0, none⟩ = some (.slice A3 y.phis.length q3) ∧ w'.cell? ⟨wr.heap.size, 1, none⟩ = some (.slice A4 y.head.length q4) ∧ w'.cell? ⟨wr.heap.size, 2, none⟩ = some (.slice A5 y.body.length q5) ∧ w'.cell? ⟨wr.heap.size, 3, none⟩ = some (.slice A6 y.tail.length q6) ∧ w'.cell? ⟨wr.heap.size, 4, none⟩ = some (.int .i64 y.fin.k) ∧ w'.cell? ⟨wr.heap.size, 5, none⟩ = some (.int .i64 y.fin.a) ∧ w'.cell? ⟨wr.heap.size, 6, none⟩ = some (.int .i64 y.fin.t) ∧ w'.cell? ⟨wr.heap.size, 7, none⟩ = some (.int .i64 y.fin.l)) (first | exact Kd | exact K | exact K5 | fail)
      (first
      | (go_at_call 36; have := (show _ ∧ _ by assumption); refine (ok_any y _ f.names f.blocks.length (predsI f k).length _ Z (HEr.out.keep ((Kept.below HBW.out fun b hb => by have h1 := hD b hb; omega).trans (Kept.below this.1 fun b hb => by have h1 := hD b hb; omega))) (fun b hb => by have h1 := hD b hb; have h2 := this.1.size; omega) h150 h1n).mono ?_; rintro e w5 ⟨r5, rfl, hr5, hb5⟩; have HR5 := Lib.hid hr5; have K5 := keepS _ (this.1.trans (hb5.mono this.1.size)); clear hr5 hb5 this))
    have HB5 := Lib.hid ((HB.out.trans (HBW.out.mono hzw)).trans (K5.1.mono (by omega)))
    have HB05 : Hid (Below w.heap.size w w5) := ((Below.refl _ _).alloc (Nat.le_refl _) _).trans (HB5.out.mono (by omega))
    have HPn : Hid (PRow w5 (w1.heap.size + 1) w1.heap.size f.blocks.length (fun j => predsI f j)) := HPr.out.below (HBW.out.trans (K5.1.mono (by omega)))
    have hz5 := K5.1.size
    clear K Kd K5 keepS
    cases r5
    · have HN : Hid (¬ FunP f) := fun h => by have := HR5.out.2 (funP_block h Hyk.out); cases this
      go_wp2_with fail
      go_ret
      exact gives_no HN.out HB05.out
    · have HPs := Lib.hid (HR5.out.1 rfl)
      have H1' : Hid (∀ (j : Nat) z, j < k + 1 → f.blocks[j]? = some z → BlockAll f.names f.blocks.length (predsI f j).length z) := fun j z hj hz => by
        by_cases hjk : j = k
        · subst hjk
          rw [Hyk.out] at hz
          injection hz with hz
          subst hz
          exact HPs.out
        · exact H1.out j z (by omega) hz
      clear HR5
      go_wp2_with fail
      go_roundw
      case rel => exact ⟨k + 1, by omega, by go_num, HB5, by omega, HPn, H1'⟩
      case measure => simp [intOf]; omega

end Go.Proofs.Ytbghcoihndlihaa
