/- The model's FunOk and PredsOf. -/
import Derived.Test.YtbghcoihndlihaaL2c
import Derived.Test.YtbghcoihndlihaaEq
import Derived.Deep.RegionHeld3
namespace Go.Proofs.Ytbghcoihndlihaa
open Go.ChangeShapes Go.WideShapes Go.ChangeAt Go.RowKit Go.Joins

theorem EFun.row {w : World} {Z : Zn} {f : FunD} {a b u : Value} (h : EFun w Z f (.agg #[a, b, u])) : Row w Z 8 (EBlock w Z) u f.blocks := by
  obtain ⟨u', he, hr⟩ := h
  injection he with he
  have : u = u' := by
    have := congrArg (fun l : Array Value => l[2]?) he
    simpa using this
  rw [this]; exact hr

theorem l2Frame_any (f : FunD) (v : Value) (w : World) (Z : Zn) (hv : EFun w Z f v) (hD : ∀ b, Z.D b → b < w.heap.size) : Calls Try.prog 29 #[v] w (GivesB (FrameP f) w) := by
  obtain ⟨u, rfl, hu⟩ := hv
  by_cases h : FrameHead f
  · exact l2Frame_yes f u w Z h hu hD
  · obtain ⟨hle, A, c, rfl, _⟩ := hu
    exact l2Frame_no f _ w h ⟨_, _, rfl⟩ hle

theorem FrameP.head {f : FunD} (h : FrameP f) : FrameHead f := ⟨h.1, h.2.1, h.2.2.1, h.2.2.2.1⟩
theorem predsF_len (f : FunD) (j : Int) : (predsF f j).length ≤ f.blocks.length := predsK_len _ _ _ _

set_option maxRecDepth 10000 in
set_option maxHeartbeats 2000000 in
theorem sFunOk_any (f : FunD) (v : Value) (w : World) (Z : Zn) (hv : EFun w Z f v) (hD : ∀ b, Z.D b → b < w.heap.size) (hn : f.blocks.length ≤ 1048576) : Calls Try.prog 17 #[v] w (GivesB (FunP f) w) := by
  have HF := Lib.hid hv
  obtain ⟨u, rfl, hu⟩ := hv
  obtain ⟨_, A, c, rfl, hx⟩ := hu
  go_enter Try.func17, Try.ntmps17
  go_wp2_with fail
  refine (l2Frame_any f _ _ Z (HF.out.keep (Kept.below ((Below.refl _ _).alloc (Nat.le_refl _) _) hD)) (fun b hb => by have := hD b hb; simp; omega)).mono ?_
  rintro e w1 ⟨r, rfl, hr, hb1⟩
  have HR := Lib.hid hr
  have HB1 := Lib.hid (hb1.mono (B' := w.heap.size + 1) (by simp))
  have HB01 : Hid (Below w.heap.size w w1) := ((Below.refl _ _).alloc (Nat.le_refl _) _).trans (HB1.out.mono (by omega))
  have hz1 : w.heap.size + 1 ≤ w1.heap.size := by have := hb1.size; simp at this; omega
  obtain ⟨hc1, hf1⟩ := bcellB HB1.out
  clear hb1 hf1 hr
  cases r
  · have HN : Hid (¬ FunP f) := fun h => by have := HR.out.2 h.1; cases this
    go_wp2_with fail
    go_ret
    exact gives_no HN.out HB01.out
  have HP := Lib.hid (HR.out.1 rfl)
  clear HR
  go_wp2_with fail
  refine (l2Preds_any f _ 0 _ Z (HF.out.keep (Kept.below HB01.out hD)) (fun b hb => by have := hD b hb; omega) hn).mono ?_
  rintro e w2 ⟨r, rfl, hr, hb2⟩
  have HB2 := Lib.hid (HB1.out.trans (hb2.mono hz1))
  have HB02 : Hid (Below w.heap.size w w2) := ((Below.refl _ _).alloc (Nat.le_refl _) _).trans (HB2.out.mono (by omega))
  obtain ⟨hle2, A2, c2, rfl, _⟩ := hr.ri
  have hz2 : w.heap.size + 1 ≤ w2.heap.size := by have := hb2.size; omega
  obtain ⟨hc2, hf2⟩ := bcellB (hb2.mono hz1)
  clear hb2 hf2 hr
  by_cases hp0 : predsF f 0 = []
  case neg =>
    have HN : Hid (¬ FunP f) := fun h => hp0 h.2.1
    have hp0' : decide (0 < (predsF f 0).length) = true := by simpa using List.length_pos_iff.2 hp0
    clear hp0
    go_wp2_with fail
    go_ret
    exact gives_no HN.out HB02.out
  have hp0' : decide (0 < (predsF f 0).length) = false := by rw [hp0]; simp
  have HP0 := Lib.hid hp0
  clear hp0
  have h1n := HP.out.1.1
  have h40 := HP.out.1.2
  have hxk : f.blocks[0]? = some f.blocks[0] := List.getElem?_eq_getElem h1n
  generalize f.blocks[0] = x at hxk
  have HX := Lib.hid hx
  obtain ⟨b, off, rfl, hDb, hrow⟩ := hx (by intro h; rw [h] at h1n; simp at h1n)
  obtain ⟨cs, hE, hcs⟩ := hrow 0 x hxk
  have hbl := hD b hDb
  obtain ⟨_, _, _, _, rfl, ⟨_, A0, c0, rfl, _⟩, _⟩ := hE
  have c0 : w.cell? ⟨b, off, none⟩ = some (.slice A0 x.phis.length c0) := by have := (hcs 0 _ rfl).1; simpa using this
  have Hxk := Lib.hid hxk
  have h1n' : 0 < (f.blocks.length : Int) := by omega
  clear hcs hrow hxk
  by_cases hph : x.phis = []
  case neg =>
    have HN : Hid (¬ FunP f) := fun h => hph (h.2.2.1 x Hxk.out)
    have hp0' : decide (0 < x.phis.length) = true := by simpa using List.length_pos_iff.2 hph
    clear hph
    go_wp2_with fail
    go_ret
    exact gives_no HN.out HB02.out
  have hph' : decide (0 < x.phis.length) = false := by rw [hph]; simp
  have HPH : Hid (∀ y, f.blocks[0]? = some y → y.phis = []) := fun y hy => by
    rw [Hxk.out] at hy
    injection hy with hy
    subst hy
    exact hph
  clear hph
  go_wp2_with fail
  clear hc1 hc2 c0
  go_loopw [3] (fun i wr => ∃ k : Nat, k ≤ f.blocks.length ∧ i = .int .i64 k ∧ Hid (Below (w.heap.size + 1) (w.alloc (.cells #[.int .i64 f.params, .int .i64 f.names, .slice (some ⟨b, off, none⟩) f.blocks.length c] 30)) wr) ∧ Hid (∀ (j : Nat) y, j < k → f.blocks[j]? = some y → PhisP f.names (predsF f j).length y.phis)) (fun i _ => f.blocks.length - (intOf i).toNat)
  case atStart => exact ⟨0, Nat.zero_le _, rfl, HB2.out, fun _ _ h => absurd h (by omega)⟩
  case round =>
    obtain ⟨k, hk, rfl, HB, H1⟩ := hrel
    have HB0 : Hid (Below w.heap.size w wr) := ((Below.refl _ _).alloc (Nat.le_refl _) _).trans (HB.out.mono (by omega))
    have hzw : w.heap.size + 1 ≤ wr.heap.size := by have := HB.out.size; simp at this; omega
    have f0 : wr.cell? ⟨w.heap.size, 0, none⟩ = some (.int .i64 f.params) := (HB.out.cell (p := ⟨w.heap.size, 0, none⟩) (by simp)).trans (by go_simp)
    have f1 : wr.cell? ⟨w.heap.size, 1, none⟩ = some (.int .i64 f.names) := (HB.out.cell (p := ⟨w.heap.size, 1, none⟩) (by simp)).trans (by go_simp)
    have f2 : wr.cell? ⟨w.heap.size, 2, none⟩ = some (.slice (some ⟨b, off, none⟩) f.blocks.length c) := (HB.out.cell (p := ⟨w.heap.size, 2, none⟩) (by simp)).trans (by go_simp)
    by_cases hlt : k < f.blocks.length
    case neg =>
      obtain rfl : k = f.blocks.length := by omega
      go_wp2
      go_ret
      exact gives_yes ⟨HP.out, HP0.out, HPH.out, fun j y hy => H1.out j y (List.getElem?_eq_some_iff.1 hy).1 hy⟩ HB0.out
    have hyk : f.blocks[k]? = some f.blocks[k] := List.getElem?_eq_getElem hlt
    generalize f.blocks[k] = y at hyk
    obtain ⟨b', off', he, hDb', hrow⟩ := HX.out (by intro h; rw [h] at hlt; simp at hlt)
    injection he with he
    injection he with hb' ho'
    subst hb' ho'
    obtain ⟨cs, hE, hcs⟩ := hrow k y hyk
    obtain ⟨_, _, _, _, rfl, hv0, _⟩ := hE
    have HV0 := Lib.hid (hv0.keep (Kept.below HB0.out hD) fun _ _ h => h.keep (Kept.below HB0.out hD))
    obtain ⟨_, A0, cy, rfl, _⟩ := hv0
    have c0 : wr.cell? ⟨b, off + k * 8, none⟩ = some (.slice A0 y.phis.length cy) := (HB0.out.cell (p := ⟨b, _, none⟩) hbl).trans (hcs 0 _ rfl).1
    have Hyk := Lib.hid hyk
    have hbw : b < wr.heap.size := by omega
    have hfw : w.heap.size < wr.heap.size := by omega
    have h3a := HP.out.2.1.1
    have h3b := HP.out.2.1.2
    clear hcs hyk hrow
    have keepS : ∀ w1 : World, Below wr.heap.size wr w1 → (fun w' => Below wr.heap.size wr w' ∧ w'.cell? ⟨w.heap.size, 0, none⟩ = some (.int .i64 f.params) ∧ w'.cell? ⟨w.heap.size, 1, none⟩ = some (.int .i64 f.names) ∧ w'.cell? ⟨w.heap.size, 2, none⟩ = some (.slice (some ⟨b, off, none⟩) f.blocks.length c) ∧ w'.cell? ⟨b, off + k * 8, none⟩ = some (.slice A0 y.phis.length cy)) w1 :=
      fun w1 hb => ⟨hb, (hb.cell (p := ⟨w.heap.size, 0, none⟩) hfw).trans f0, (hb.cell (p := ⟨w.heap.size, 1, none⟩) hfw).trans f1, (hb.cell (p := ⟨w.heap.size, 2, none⟩) hfw).trans f2, (hb.cell (p := ⟨b, _, none⟩) hbw).trans c0⟩
    have K := keepS _ (Below.refl _ _)
    have Kd := keepS _ below_drew
    go_wp2_with fail
    go_region_held3 (fun w' => Below wr.heap.size wr w' ∧ w'.cell? ⟨w.heap.size, 0, none⟩ = some (.int .i64 f.params) ∧ w'.cell? ⟨w.heap.size, 1, none⟩ = some (.int .i64 f.names) ∧ w'.cell? ⟨w.heap.size, 2, none⟩ = some (.slice (some ⟨b, off, none⟩) f.blocks.length c) ∧ w'.cell? ⟨b, off + k * 8, none⟩ = some (.slice A0 y.phis.length cy)) (first | exact Kd | exact K | exact K5 | exact K6 | fail)
      (first
      | (go_at_call 30; have := (show _ ∧ _ by assumption); refine (l2Preds_any f _ k _ Z (HF.out.keep ((Kept.below HB0.out hD).trans (Kept.below this.1 fun b hb => by have h1 := hD b hb; omega))) (fun b hb => by have h1 := hD b hb; have h2 := this.1.size; omega) hn).mono ?_; rintro e w5 ⟨r, rfl, hr, hb5⟩; obtain ⟨hle5, A5, c5, rfl, _⟩ := hr.ri; have K5 := keepS _ (this.1.trans (hb5.mono this.1.size)); clear hr hb5 this)
      | (go_at_call 31; have := (show _ ∧ _ by assumption); refine (l2Phis_any _ y.phis f.names (predsF f k).length _ Z (HV0.out.keep (Kept.below this.1 fun b hb => by have h1 := hD b hb; omega) fun _ _ h => h.keep (Kept.below this.1 fun b hb => by have h1 := hD b hb; omega)) h3a h3b).mono ?_; rintro e w6 ⟨r6, rfl, hr6, hb6⟩; have HR6 := Lib.hid hr6; have K6 := keepS _ (this.1.trans (hb6.mono this.1.size)); clear hr6 hb6 this))
    have HB6 := Lib.hid (HB.out.trans (K6.1.mono hzw))
    have HB06 : Hid (Below w.heap.size w w6) := ((Below.refl _ _).alloc (Nat.le_refl _) _).trans (HB6.out.mono (by omega))
    clear K Kd K5 K6 keepS
    cases r6
    · have HN : Hid (¬ FunP f) := fun h => by have := HR6.out.2 (h.2.2.2 k y Hyk.out); cases this
      go_wp2_with fail
      go_ret
      exact gives_no HN.out HB06.out
    · have HP6 := Lib.hid (HR6.out.1 rfl)
      have H1' : Hid (∀ (j : Nat) z, j < k + 1 → f.blocks[j]? = some z → PhisP f.names (predsF f j).length z.phis) := fun j z hj hz => by
        by_cases hjk : j = k
        · subst hjk
          rw [Hyk.out] at hz
          injection hz with hz
          subst hz
          exact HP6.out
        · exact H1.out j z (by omega) hz
      clear HR6
      go_wp2_with fail
      go_roundw
      case rel => exact ⟨k + 1, by omega, by go_num, HB6, H1'⟩
      case measure => simp [intOf]; omega

/-- What PredsOf answers. -/
def PredsRes (f : FunD) (j : Int) (xs : List Int) : Prop := (FunP f ∧ isBelowB j f.blocks.length = true ∧ xs = predsF f j) ∨ (¬ (FunP f ∧ isBelowB j f.blocks.length = true) ∧ xs = [])
theorem PredsRes.one {f : FunD} {j : Int} {xs ys : List Int} (h : PredsRes f j xs) (k : PredsRes f j ys) : xs = ys := by
  rcases h with ⟨h1, h2, rfl⟩ | ⟨h1, rfl⟩ <;> rcases k with ⟨k1, k2, rfl⟩ | ⟨k1, rfl⟩
  · rfl
  · exact absurd ⟨h1, h2⟩ k1
  · exact absurd ⟨k1, k2⟩ h1
  · rfl
theorem PredsRes.len {f : FunD} {j : Int} {xs : List Int} (h : PredsRes f j xs) : xs.length ≤ f.blocks.length := by
  rcases h with ⟨_, _, rfl⟩ | ⟨_, rfl⟩
  · exact predsF_len f j
  · simp
def GivesPreds (f : FunD) (j : Int) (w : World) (e : Ending) (w' : World) : Prop := ∃ xs r, e = .returned r ∧ PredsRes f j xs ∧ OI w' w.heap.size r xs ∧ Below w.heap.size w w'

end Go.Proofs.Ytbghcoihndlihaa
