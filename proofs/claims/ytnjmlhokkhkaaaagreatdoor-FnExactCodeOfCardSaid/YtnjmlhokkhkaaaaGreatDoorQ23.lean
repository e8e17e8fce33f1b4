/- CodeS, LawV, Laid6, joined. -/
import Derived.Test.YtnjmlhokkhkaaaaGreatDoorQ1
import Derived.Test.YtnjmlhokkhkaaaaGreatDoorQ9
import Derived.Test.YtnjmlhokkhkaaaaGreatDoorQ22
import Derived.Test.YtnjmlhokkhkaaaaGreatDoorTie
import Derived.Test.YtnjmlhokkhkaaaaGreatDoorCards
import Derived.ProofKit
import Derived.LaidMore
import Derived.Lay
import Derived.LaidSub
import Derived.LaidHandle
import Derived.OpenShut
import Derived.SevenTiedAt
import Derived.Stop.Joined
import Derived.Stop.LaidTwo
import Derived.Deep.DeepLaidRun
namespace Go.Proofs.YtnjmlhokkhkaaaaGreatDoor

/- l5Large and CodeOf of the model. -/
section
open Go.ChangeShapes Go.WideShapes Go.ChangeAt Go.RowKit Go.Joins

set_option maxRecDepth 10000 in
set_option maxHeartbeats 2000000 in
theorem l5Large_any (f : FunD) (v : Value) (w : World) (Z : Zn) (hp : FunP f) (hv : EFun w Z f v) (hD : ∀ b, Z.D b → b < w.heap.size) : Calls Tryz.prog 38 #[v] w (GivesB (LargeP f) w) := by
  obtain ⟨u, rfl, hu⟩ := hv
  obtain ⟨_, A, c, rfl, hx⟩ := hu
  have HX := Lib.hid hx
  have HP := Lib.hid hp
  have HD := Lib.hid hD
  have h40 := hp.1.1.2
  have hB : Below w.heap.size w (w.alloc (.cells #[.int .i64 f.params, .int .i64 f.names, .slice A f.blocks.length c] 26)) := (Below.refl _ _).alloc (Nat.le_refl _) _
  have k1 : (w.alloc (.cells #[.int .i64 f.params, .int .i64 f.names, .slice A f.blocks.length c] 26)).cell? ⟨w.heap.size, 1, none⟩ = some (.int .i64 f.names) := by go_simp
  have k2 : (w.alloc (.cells #[.int .i64 f.params, .int .i64 f.names, .slice A f.blocks.length c] 26)).cell? ⟨w.heap.size, 2, none⟩ = some (.slice A f.blocks.length c) := by go_simp
  have hs0 : (w.alloc (.cells #[.int .i64 f.params, .int .i64 f.names, .slice A f.blocks.length c] 26)).heap.size = w.heap.size + 1 := by simp
  clear hx hp hD
  go_enter Tryz.func38, Tryz.ntmps38
  go_wp2_with fail
  obtain ⟨F, hF⟩ : ∃ F, F = w.heap.size := ⟨_, rfl⟩
  rw [← hF] at k1 k2 hs0 ⊢
  generalize w.alloc (.cells #[.int .i64 f.params, .int .i64 f.names, .slice A f.blocks.length c] 26) = w0 at *
  have HB0 := Lib.hid hB
  have hFl : F < w0.heap.size := by omega
  have hw0 : w.heap.size ≤ w0.heap.size := hB.size
  have HK : Hid (∀ w', Below w0.heap.size w0 w' → w'.cell? ⟨F, 1, none⟩ = some (.int .i64 f.names) ∧ w'.cell? ⟨F, 2, none⟩ = some (.slice A f.blocks.length c)) := fun w' hb => ⟨(hb.cell (p := ⟨F, 1, none⟩) hFl).trans k1, (hb.cell (p := ⟨F, 2, none⟩) hFl).trans k2⟩
  clear hB k1 k2 hF hs0
  go_loopw [3, 4] (fun a i wr => ∃ k : Nat, k ≤ f.blocks.length ∧ i = .int .i64 k ∧ a = .int .i64 (argsK f k : Nat) ∧ Hid (Below w0.heap.size w0 wr) ∧ Hid (∀ (j : Nat) x, j < k → f.blocks[j]? = some x → ¬ 12 < x.body.length)) (fun _ i _ => f.blocks.length - (intOf i).toNat)
  case atStart => exact ⟨0, Nat.zero_le _, rfl, rfl, Below.refl _ _, fun _ _ h => absurd h (by omega)⟩
  case round =>
    obtain ⟨k, hk, rfl, ha, HB, HF⟩ := hrel
    obtain ⟨ac, hac⟩ : ∃ ac : Nat, ac = argsK f k := ⟨_, rfl⟩
    have HAC := Lib.hid hac
    have hal := argsK_le HP.out k
    rw [← hac] at ha hal
    have ha' : u3 = .int .i64 ac := ha
    clear ha hac
    subst ha'
    have HBw : Hid (Below w.heap.size w wr) := HB0.out.trans (HB.out.mono hw0)
    obtain ⟨f1, f2⟩ := HK.out wr HB.out
    by_cases hkl : k < f.blocks.length
    case neg =>
      obtain rfl : k = f.blocks.length := by omega
      have HNL : Hid (¬ LongIn f) := fun ⟨j, x, hj, hb⟩ => HF.out j x (List.getElem?_eq_some_iff.1 hj).1 hj hb
      by_cases h1 : 40 < f.names
      · have HY : Hid (LargeP f) := .inr (.inl h1)
        go_wp2_with fail
        go_ret
        exact gives_yes HY.out HBw.out
      by_cases h2 : 12 < f.blocks.length
      · have HY : Hid (LargeP f) := .inr (.inr (.inl h2))
        have h2' : 12 < (f.blocks.length : Int) := by omega
        go_wp2_with fail
        go_ret
        exact gives_yes HY.out HBw.out
      have h2' : ¬ 12 < (f.blocks.length : Int) := by omega
      by_cases h3 : 50 < ac
      · have HY : Hid (LargeP f) := .inr (.inr (.inr (by rw [← HAC.out]; exact h3)))
        have h3' : 50 < (ac : Int) := by omega
        go_wp2_with fail
        go_ret
        exact gives_yes HY.out HBw.out
      · have HN : Hid (¬ LargeP f) := fun h => by
          rcases h with h | h | h | h
          · exact HNL.out h
          · exact h1 h
          · exact h2 h
          · rw [← HAC.out] at h; exact h3 h
        have h3' : ¬ 50 < (ac : Int) := by omega
        go_wp2_with fail
        go_ret
        exact gives_no HN.out HBw.out
    have hxk : f.blocks[k]? = some f.blocks[k] := List.getElem?_eq_getElem hkl
    generalize f.blocks[k] = x at hxk
    obtain ⟨b, off, rfl, hDb, hr8⟩ := HX.out (by intro e; rw [e] at hkl; simp at hkl)
    obtain ⟨cs, hE, hcs⟩ := hr8 k x hxk
    obtain ⟨v0, v1, v2, v3, rfl, hr0, hr1, hr2, hr3⟩ := hE
    obtain ⟨_, A0, c0, rfl, h0⟩ := hr0
    have H0 := Lib.hid h0
    obtain ⟨_, A2, c2, rfl, _⟩ := hr2
    have hbl := HD.out b hDb
    have HCB : Hid (∀ w', Below w.heap.size w w' → w'.cell? ⟨b, off + k * 8, none⟩ = some (.slice A0 x.phis.length c0) ∧ w'.cell? ⟨b, off + k * 8 + 2, none⟩ = some (.slice A2 x.body.length c2)) := fun w' hb => ⟨(hb.cell (p := ⟨b, _, none⟩) hbl).trans (hcs 0 _ rfl).1, (hb.cell (p := ⟨b, _, none⟩) hbl).trans (hcs 2 _ rfl).1⟩
    obtain ⟨b0, b2⟩ := HCB.out wr HBw.out
    have hkl' : (k : Int) < (f.blocks.length : Int) := by omega
    have Hxk := Lib.hid hxk
    have hph := phis_le HP.out hxk
    have HPL := Lib.hid hph.2.2
    have hp4 := hph.2.1
    have HSU : Hid (argsK f (k + 1) = ac + argsP x.phis) := by rw [Hid, argsK_succ hxk, HAC.out]
    clear hcs hr8 hxk h0 hph hr1 hr3
    by_cases hb12 : 12 < x.body.length
    · have hb12' : 12 < (x.body.length : Int) := by omega
      have HY : Hid (LargeP f) := .inl ⟨k, x, Hxk.out, hb12⟩
      go_wp2_with fail
      go_ret
      exact gives_yes HY.out HBw.out
    have hb12' : ¬ 12 < (x.body.length : Int) := by omega
    have HF' : Hid (∀ (j : Nat) x, j < k + 1 → f.blocks[j]? = some x → ¬ 12 < x.body.length) := fun j y hj hy => by
      by_cases e : j = k
      · subst e
        rw [Hxk.out] at hy
        injection hy with hy
        subst hy
        exact hb12
      · exact HF.out j y (by omega) hy
    go_wp2_with fail
    have HB1 := Lib.hid HB.out
    clear b0 b2 f1 f2 HBw HB
    obtain ⟨wo, hwo⟩ : ∃ wo : World, wo = wr := ⟨_, rfl⟩
    subst hwo
    go_loopw [3, 5] (fun a i wr => ∃ j : Nat, j ≤ x.phis.length ∧ i = .int .i64 j ∧ a = .int .i64 ((ac + argsP (x.phis.take j) : Nat) : Int) ∧ Hid (Below w0.heap.size w0 wr)) (fun _ i _ => x.phis.length - (intOf i).toNat)
    case atStart => exact ⟨0, Nat.zero_le _, rfl, rfl, HB1.out⟩
    case round =>
      obtain ⟨j, hj, rfl, ha, HB⟩ := hrel
      obtain ⟨aj, haj⟩ : ∃ aj : Nat, aj = ac + argsP (x.phis.take j) := ⟨_, rfl⟩
      have HAJ := Lib.hid haj
      have hall := argsP_le HPL.out j
      have hajl : aj ≤ 6600 := by omega
      rw [← haj] at ha
      have ha' : u3 = .int .i64 aj := ha
      clear ha haj hall
      subst ha'
      have HBw : Hid (Below w.heap.size w wr) := HB0.out.trans (HB.out.mono hw0)
      obtain ⟨f1, f2⟩ := HK.out wr HB.out
      obtain ⟨b0, b2⟩ := HCB.out wr HBw.out
      by_cases hjl : j < x.phis.length
      case neg =>
        obtain rfl : j = x.phis.length := by omega
        have HEQ : Hid ((aj : Int) = (argsK f (k + 1) : Nat)) := by
          have h := HAJ.out
          rw [List.take_length] at h
          rw [Hid, HSU.out, h]
        go_wp2_with fail
        go_roundw
        case rel => exact ⟨k + 1, by omega, by go_num, by rw [HEQ.out], HB.out, HF'.out⟩
        case measure => simp [intOf]; omega
      have hxj : x.phis[j]? = some x.phis[j] := List.getElem?_eq_getElem hjl
      generalize x.phis[j] = ph at hxj
      obtain ⟨b3, off3, rfl, hDb3, hrow3⟩ := H0.out (by intro e; rw [e] at hjl; simp at hjl)
      obtain ⟨ds, hE3, hds⟩ := hrow3 j ph hxj
      obtain ⟨u', rfl, _, A9, q9, rfl, _⟩ := hE3
      have hbl3 := HD.out b3 hDb3
      have e0 : wr.cell? ⟨b3, off3 + j * 2, none⟩ = some (.int .i64 ph.v) := (HBw.out.cell (p := ⟨b3, _, none⟩) hbl3).trans (hds 0 _ rfl).1
      have e1 : wr.cell? ⟨b3, off3 + j * 2 + 1, none⟩ = some (.slice A9 ph.args.length q9) := (HBw.out.cell (p := ⟨b3, _, none⟩) hbl3).trans (hds 1 _ rfl).1
      have hpl := HPL.out j ph hxj
      have HTJ : Hid (ac + argsP (x.phis.take (j + 1)) = aj + ph.args.length) := by rw [Hid, argsP_take hxj, HAJ.out]; omega
      have hjl' : (j : Int) < (x.phis.length : Int) := by omega
      clear hds hrow3 hxj
      go_wp2_with fail
      go_roundw
      case rel => exact ⟨j + 1, by omega, by go_num, by rw [HTJ.out]; go_num, HB.out⟩
      case measure => simp [intOf]; omega

def GivesCG2 (f : FunD) (w : World) (e : Ending) (w' : World) : Prop := ∃ c : Int, e = .returned (.int .i64 c) ∧ CodeG f c ∧ Below w.heap.size w w'

set_option maxRecDepth 10000 in
set_option maxHeartbeats 4000000 in
theorem sCodeOf_any (f : FunD) (v : Value) (w : World) (Z : Zn) (hv : EFun w Z f v) (hD : ∀ b, Z.D b → b < w.heap.size) (hn : f.blocks.length ≤ 1048576) : Calls Tryz.prog 15 #[v] w (GivesCG2 f w) := by
  have HF := Lib.hid hv
  have HD := Lib.hid hD
  obtain ⟨u, rfl, hu⟩ := hv
  obtain ⟨_, A, c, rfl, hx⟩ := hu
  have HX := Lib.hid hx
  clear hx
  go_enter Tryz.func15, Tryz.ntmps15
  go_wp2_with fail
  refine (sFunOk_any f _ _ Z (HF.out.keep (Kept.below ((Below.refl _ _).alloc (Nat.le_refl _) _) hD)) (fun b hb => by have := hD b hb; simp; omega) hn).mono ?_
  rintro e w1 ⟨r, rfl, hr, hb1⟩
  have HR := Lib.hid hr
  have HB1 := Lib.hid (hb1.mono (B' := w.heap.size + 1) (by simp))
  have HB01 : Hid (Below w.heap.size w w1) := ((Below.refl _ _).alloc (Nat.le_refl _) _).trans (HB1.out.mono (by omega))
  have hz1 : w.heap.size + 1 ≤ w1.heap.size := by have := hb1.size; simp at this; omega
  have HFC : Hid (∀ w', Below (w.heap.size + 1) w1 w' → w'.cell? ⟨w.heap.size, 0, none⟩ = some (.int .i64 f.params) ∧ w'.cell? ⟨w.heap.size, 1, none⟩ = some (.int .i64 f.names) ∧ w'.cell? ⟨w.heap.size, 2, none⟩ = some (.slice A f.blocks.length c)) := fun w' hb =>
    have h := HB1.out.trans hb
    ⟨(h.cell (p := ⟨w.heap.size, 0, none⟩) (by simp)).trans (by go_simp), (h.cell (p := ⟨w.heap.size, 1, none⟩) (by simp)).trans (by go_simp), (h.cell (p := ⟨w.heap.size, 2, none⟩) (by simp)).trans (by go_simp)⟩
  obtain ⟨f0, f1, f2⟩ := HFC.out w1 (Below.refl _ _)
  clear hb1 hr hD
  cases r
  case false =>
    have HN : Hid (CodeG f 1) := .inl ⟨fun h => (by have := HR.out.2 h; cases this), rfl⟩
    go_wp2_with fail
    go_ret
    exact ⟨1, rfl, HN.out, HB01.out⟩
  have HP := Lib.hid (HR.out.1 rfl)
  clear HR
  have h40 := HP.out.1.1.2
  go_wp2_with fail
  clear f0 f1 f2
  go_loopw [3] (fun i wr => ∃ k : Nat, k ≤ f.blocks.length ∧ i = .int .i64 k ∧ Hid (Below w1.heap.size w1 wr) ∧ Hid (∀ (j : Nat) x, j < k → f.blocks[j]? = some x → ¬ BMoves x)) (fun i _ => f.blocks.length - (intOf i).toNat)
  case atStart => exact ⟨0, Nat.zero_le _, rfl, Below.refl _ _, fun _ _ h => absurd h (by omega)⟩
  case round =>
    obtain ⟨k, hk, rfl, HB, HM⟩ := hrel
    obtain ⟨f0, f1, f2⟩ := HFC.out wr (HB.out.mono hz1)
    have HB0r : Hid (Below w.heap.size w wr) := HB01.out.trans (HB.out.mono (by omega))
    have HB1r : Hid (Below (w.heap.size + 1) w1 wr) := HB.out.mono hz1
    by_cases hkl : k < f.blocks.length
    case neg =>
      obtain rfl : k = f.blocks.length := by omega
      have HNM : Hid (¬ MovesIn f) := fun ⟨j, x, hj, hb⟩ => HM.out j x (List.getElem?_eq_some_iff.1 hj).1 hj hb
      go_wp2_with fail
      refine (l5Code_any f _ _ Z HP.out (HF.out.keep (Kept.below HB0r.out HD.out)) (fun b hb => by have := HD.out b hb; have := HB0r.out.size; omega)).mono ?_
      rintro e w2 ⟨cc, rfl, hc, hb2⟩
      have HC := Lib.hid hc
      have hzr : w.heap.size + 1 ≤ wr.heap.size := by have := HB.out.size; omega
      have HB02 : Hid (Below w.heap.size w w2) := HB0r.out.trans (hb2.mono (by omega))
      have hz2 : w.heap.size ≤ w2.heap.size := HB02.out.size
      clear f0 f1 f2
      obtain ⟨f0, f1, f2⟩ := HFC.out w2 (HB1r.out.trans (hb2.mono hzr))
      clear hc hb2
      by_cases h0 : cc = 0
      case neg =>
        have HG : Hid (CodeG f cc) := .inr ⟨HP.out, .inr ⟨HNM.out, cc, HC.out, .inl ⟨h0, rfl⟩⟩⟩
        have hbq : (cc == 0) = false := by simp [h0]
        go_wp2_with fail
        go_ret
        exact ⟨cc, rfl, HG.out, HB02.out⟩
      subst h0
      go_wp2_with (go_at_call 38; refine (l5Large_any f _ _ Z HP.out (HF.out.keep (Kept.below HB02.out HD.out)) (fun b hb => by have := HD.out b hb; omega)).mono ?_; rintro e w3 ⟨r3, rfl, hr3, hb3⟩; have HR3 := Lib.hid hr3; have HB03 : Hid (Below w.heap.size w w3) := HB02.out.trans (hb3.mono hz2); clear hr3 hb3 f0 f1 f2; cases r3)
      · have HG : Hid (CodeG f 0) := .inr ⟨HP.out, .inr ⟨HNM.out, 0, HC.out, .inr ⟨rfl, .inr ⟨fun h => (by have := HR3.out.2 h; cases this), rfl⟩⟩⟩⟩
        go_wp2_with fail
        go_ret
        exact ⟨0, rfl, HG.out, HB03.out⟩
      · have HG : Hid (CodeG f 6) := .inr ⟨HP.out, .inr ⟨HNM.out, 0, HC.out, .inr ⟨rfl, .inl ⟨(by first | exact HR3.out.1 rfl | exact HR3.out.1 trivial), rfl⟩⟩⟩⟩
        go_wp2_with fail
        go_ret
        exact ⟨6, rfl, HG.out, HB03.out⟩
    have hxk : f.blocks[k]? = some f.blocks[k] := List.getElem?_eq_getElem hkl
    generalize f.blocks[k] = x at hxk
    obtain ⟨b, off, rfl, hDb, hr8⟩ := HX.out (by intro e; rw [e] at hkl; simp at hkl)
    obtain ⟨cs, hE, hcs⟩ := hr8 k x hxk
    obtain ⟨v0, v1, v2, v3, rfl, hr0, hr1, hr2, hr3⟩ := hE
    obtain ⟨_, A1, c1, rfl, _⟩ := hr1
    obtain ⟨_, A3, c3, rfl, _⟩ := hr3
    have hbl := HD.out b hDb
    have b1 : wr.cell? ⟨b, off + k * 8 + 1, none⟩ = some (.slice A1 x.head.length c1) := (HB0r.out.cell (p := ⟨b, _, none⟩) hbl).trans (hcs 1 _ rfl).1
    have b3 : wr.cell? ⟨b, off + k * 8 + 3, none⟩ = some (.slice A3 x.tail.length c3) := (HB0r.out.cell (p := ⟨b, _, none⟩) hbl).trans (hcs 3 _ rfl).1
    have hkl' : (k : Int) < (f.blocks.length : Int) := by omega
    have hbp := HP.out.1.2.2.2.2 k x hxk
    have hh40 := hbp.2.1.1
    have ht40 := hbp.2.2.1.1
    have Hxk := Lib.hid hxk
    clear hcs hr8 hxk hr0 hr2 hbp
    go_upto_region 6 with fail
    have Kd : (fun w' => w'.cell? ⟨w.heap.size, 2, none⟩ = some (.slice (some ⟨b, off, none⟩) f.blocks.length c) ∧ w'.cell? ⟨b, off + k * 8 + 1, none⟩ = some (.slice A1 x.head.length c1) ∧ w'.cell? ⟨b, off + k * 8 + 3, none⟩ = some (.slice A3 x.tail.length c3)) wr.drew := ⟨f2, b1, b3⟩
    have HB1d : Hid (Below w1.heap.size w1 wr.drew) := HB.out.drew
    have HB0d : Hid (Below w.heap.size w wr.drew) := HB0r.out.drew
    refine wp_region_held_drew (S := ((fun w' => w'.cell? ⟨w.heap.size, 2, none⟩ = some (.slice (some ⟨b, off, none⟩) f.blocks.length c) ∧ w'.cell? ⟨b, off + k * 8 + 1, none⟩ = some (.slice A1 x.head.length c1) ∧ w'.cell? ⟨b, off + k * 8 + 3, none⟩ = some (.slice A3 x.tail.length c3)))) (by kernel_rfl) ?_ (fun hHeld => ?_)
    · (try dsimp only)
      (first | exact Kd | fail)
    refine wpAnyH_take (i := 0) (v := ?_) rfl (by kernel_rfl) (by kernel_rfl) (by kernel_rfl) (fun _ _ _ h => h) (Or.inl ⟨by rfl, ?_⟩) (by assumption) ?_
    rotate_left
    · intro w hSw
      simp only [List.getElem_toArray, List.getElem_cons_zero]
      (try dsimp only at hSw)
      go_simp
      first | done | (with_reducible rfl)
    simp only [List.getElem_toArray, List.getElem_cons_zero, Act.put, List.setIfInBounds_toArray, List.set_cons_zero, List.set_cons_succ]
    refine wpAnyH_take (i := 1) (v := ?_) rfl (by kernel_rfl) (by kernel_rfl) (by kernel_rfl) (fun _ _ _ h => h) (Or.inl ⟨by rfl, ?_⟩) (by assumption) ?_
    rotate_left
    · intro w hSw
      simp only [List.getElem_toArray, List.getElem_cons_succ, List.getElem_cons_zero]
      (try dsimp only at hSw)
      go_simp
      first | done | (with_reducible rfl)
    simp only [List.getElem_toArray, List.getElem_cons_succ, List.getElem_cons_zero, Act.put, List.setIfInBounds_toArray, List.set_cons_zero, List.set_cons_succ]
    refine wpAnyH_take (i := 2) (v := ?_) rfl (by kernel_rfl) (by kernel_rfl) (by kernel_rfl) (fun _ _ _ h => h) (Or.inl ⟨by rfl, ?_⟩) (by assumption) ?_
    rotate_left
    · intro w hSw
      simp only [List.getElem_toArray, List.getElem_cons_succ, List.getElem_cons_zero]
      (try dsimp only at hSw)
      go_simp
      first | done | (with_reducible rfl)
    simp only [List.getElem_toArray, List.getElem_cons_succ, List.getElem_cons_zero, Act.put, List.setIfInBounds_toArray, List.set_cons_zero, List.set_cons_succ]
    refine wpAnyH_take (i := 3) (v := ?_) rfl (by kernel_rfl) (by kernel_rfl) (by kernel_rfl) (fun _ _ _ h => h) (Or.inl ⟨by rfl, ?_⟩) (by assumption) ?_
    rotate_left
    · intro w hSw
      simp only [List.getElem_toArray, List.getElem_cons_succ, List.getElem_cons_zero]
      (try dsimp only at hSw)
      go_simp
      first | done | (with_reducible rfl)
    simp only [List.getElem_toArray, List.getElem_cons_succ, List.getElem_cons_zero, Act.put, List.setIfInBounds_toArray, List.set_cons_zero, List.set_cons_succ]
    refine wpAnyH_take (i := 4) (v := ?_) rfl (by kernel_rfl) (by kernel_rfl) (by kernel_rfl) (fun _ _ _ h => h) (Or.inl ⟨by rfl, ?_⟩) (by assumption) ?_
    rotate_left
    · intro w hSw
      simp only [List.getElem_toArray, List.getElem_cons_succ, List.getElem_cons_zero]
      (try dsimp only at hSw)
      go_simp
      first | done | (with_reducible rfl)
    simp only [List.getElem_toArray, List.getElem_cons_succ, List.getElem_cons_zero, Act.put, List.setIfInBounds_toArray, List.set_cons_zero, List.set_cons_succ]
    refine wpAnyH_take (i := 5) (v := ?_) rfl (by kernel_rfl) (by kernel_rfl) (by kernel_rfl) (fun _ _ _ h => h) (Or.inl ⟨by rfl, ?_⟩) (by assumption) ?_
    rotate_left
    · intro w hSw
      simp only [List.getElem_toArray, List.getElem_cons_succ, List.getElem_cons_zero]
      (try dsimp only at hSw)
      go_simp
      first | done | (with_reducible rfl)
    simp only [List.getElem_toArray, List.getElem_cons_succ, List.getElem_cons_zero, Act.put, List.setIfInBounds_toArray, List.set_cons_zero, List.set_cons_succ]
    refine wpAnyH_take (i := 6) (v := ?_) rfl (by kernel_rfl) (by kernel_rfl) (by kernel_rfl) (fun _ _ _ h => h) (Or.inl ⟨by rfl, ?_⟩) (by assumption) ?_
    rotate_left
    · intro w hSw
      simp only [List.getElem_toArray, List.getElem_cons_succ, List.getElem_cons_zero]
      (try dsimp only at hSw)
      go_simp
      first | done | (with_reducible rfl)
    simp only [List.getElem_toArray, List.getElem_cons_succ, List.getElem_cons_zero, Act.put, List.setIfInBounds_toArray, List.set_cons_zero, List.set_cons_succ]
    refine wpAnyH_take (i := 7) (v := ?_) rfl (by kernel_rfl) (by kernel_rfl) (by kernel_rfl) (fun _ _ _ h => h) (Or.inl ⟨by rfl, ?_⟩) (by assumption) ?_
    rotate_left
    · intro w hSw
      simp only [List.getElem_toArray, List.getElem_cons_succ, List.getElem_cons_zero]
      (try dsimp only at hSw)
      go_simp
      first | done | (with_reducible rfl)
    simp only [List.getElem_toArray, List.getElem_cons_succ, List.getElem_cons_zero, Act.put, List.setIfInBounds_toArray, List.set_cons_zero, List.set_cons_succ]
    refine wpAnyH_take (i := 8) (v := ?_) rfl (by kernel_rfl) (by kernel_rfl) (by kernel_rfl) (fun _ _ _ h => h) (Or.inl ⟨by rfl, ?_⟩) (by assumption) ?_
    rotate_left
    · intro w hSw
      simp only [List.getElem_toArray, List.getElem_cons_succ, List.getElem_cons_zero]
      (try dsimp only at hSw)
      go_simp
      first | done | (with_reducible rfl)
    simp only [List.getElem_toArray, List.getElem_cons_succ, List.getElem_cons_zero, Act.put, List.setIfInBounds_toArray, List.set_cons_zero, List.set_cons_succ]
    refine wpAnyH_take (i := 9) (v := ?_) rfl (by kernel_rfl) (by kernel_rfl) (by kernel_rfl) (fun _ _ _ h => h) (Or.inl ⟨by rfl, ?_⟩) (by assumption) ?_
    rotate_left
    · intro w hSw
      simp only [List.getElem_toArray, List.getElem_cons_succ, List.getElem_cons_zero]
      (try dsimp only at hSw)
      go_simp
      first | done | (with_reducible rfl)
    simp only [List.getElem_toArray, List.getElem_cons_succ, List.getElem_cons_zero, Act.put, List.setIfInBounds_toArray, List.set_cons_zero, List.set_cons_succ]
    refine wpAnyH_take (i := 10) (v := ?_) rfl (by kernel_rfl) (by kernel_rfl) (by kernel_rfl) (fun _ _ _ h => h) (Or.inl ⟨by rfl, ?_⟩) (by assumption) ?_
    rotate_left
    · intro w hSw
      simp only [List.getElem_toArray, List.getElem_cons_succ, List.getElem_cons_zero]
      (try dsimp only at hSw)
      go_simp
      first | done | (with_reducible rfl)
    simp only [List.getElem_toArray, List.getElem_cons_succ, List.getElem_cons_zero, Act.put, List.setIfInBounds_toArray, List.set_cons_zero, List.set_cons_succ]
    refine wpAnyH_take (i := 11) (v := ?_) rfl (by kernel_rfl) (by kernel_rfl) (by kernel_rfl) (fun _ _ _ h => h) (Or.inl ⟨by rfl, ?_⟩) (by assumption) ?_
    rotate_left
    · intro w hSw
      simp only [List.getElem_toArray, List.getElem_cons_succ, List.getElem_cons_zero]
      (try dsimp only at hSw)
      go_simp
      first | done | (with_reducible rfl)
    simp only [List.getElem_toArray, List.getElem_cons_succ, List.getElem_cons_zero, Act.put, List.setIfInBounds_toArray, List.set_cons_zero, List.set_cons_succ]
    refine wpAnyH_take (i := 12) (v := ?_) rfl (by kernel_rfl) (by kernel_rfl) (by kernel_rfl) (fun _ _ _ h => h) (Or.inl ⟨by rfl, ?_⟩) (by assumption) ?_
    rotate_left
    · intro w hSw
      simp only [List.getElem_toArray, List.getElem_cons_succ, List.getElem_cons_zero]
      (try dsimp only at hSw)
      go_simp
      first | done | (with_reducible rfl)
    simp only [List.getElem_toArray, List.getElem_cons_succ, List.getElem_cons_zero, Act.put, List.setIfInBounds_toArray, List.set_cons_zero, List.set_cons_succ]
    refine wpAnyH_take (i := 13) (v := ?_) rfl (by kernel_rfl) (by kernel_rfl) (by kernel_rfl) (fun _ _ _ h => h) (Or.inl ⟨by rfl, ?_⟩) (by assumption) ?_
    rotate_left
    · intro w hSw
      simp only [List.getElem_toArray, List.getElem_cons_succ, List.getElem_cons_zero]
      (try dsimp only at hSw)
      go_simp
      first | done | (with_reducible rfl)
    simp only [List.getElem_toArray, List.getElem_cons_succ, List.getElem_cons_zero, Act.put, List.setIfInBounds_toArray, List.set_cons_zero, List.set_cons_succ]
    refine wpAnyH_take (i := 14) (v := ?_) rfl (by kernel_rfl) (by kernel_rfl) (by kernel_rfl) (fun _ _ _ h => h) (Or.inl ⟨by rfl, ?_⟩) (by assumption) ?_
    rotate_left
    · intro w hSw
      simp only [List.getElem_toArray, List.getElem_cons_succ, List.getElem_cons_zero]
      (try dsimp only at hSw)
      go_simp
      first | done | (with_reducible rfl)
    simp only [List.getElem_toArray, List.getElem_cons_succ, List.getElem_cons_zero, Act.put, List.setIfInBounds_toArray, List.set_cons_zero, List.set_cons_succ]
    refine wpAnyH_take (i := 15) (v := ?_) rfl (by kernel_rfl) (by kernel_rfl) (by kernel_rfl) (fun _ _ _ h => h) (Or.inl ⟨by rfl, ?_⟩) (by assumption) ?_
    rotate_left
    · intro w hSw
      simp only [List.getElem_toArray, List.getElem_cons_succ, List.getElem_cons_zero]
      (try dsimp only at hSw)
      go_simp
      first | done | (with_reducible rfl)
    simp only [List.getElem_toArray, List.getElem_cons_succ, List.getElem_cons_zero, Act.put, List.setIfInBounds_toArray, List.set_cons_zero, List.set_cons_succ]
    refine wpAnyH_done (by kernel_rfl) ?_ _
    generalize wr.drew = w2 at *
    clear Kd f0 f1 f2 b1 b3
    have hwr : IntKind.i64.wrap ((x.head.length : Int) + (x.tail.length : Int)) = (x.head.length : Int) + (x.tail.length : Int) := IntWalk.i64_in _ (by omega)
    by_cases hm : BMoves x
    · have HG : Hid (CodeG f 2) := .inr ⟨HP.out, .inl ⟨⟨k, x, Hxk.out, hm⟩, rfl⟩⟩
      have hm' : 0 < (x.head.length : Int) + (x.tail.length : Int) := by rcases hm with h | h <;> omega
      clear hm
      go_wp2_with fail
      go_ret
      exact ⟨2, rfl, HG.out, HB0d.out⟩
    have hm' : ¬ 0 < (x.head.length : Int) + (x.tail.length : Int) := fun h => hm (by unfold BMoves; omega)
    have HM' : Hid (∀ (j : Nat) x, j < k + 1 → f.blocks[j]? = some x → ¬ BMoves x) := fun j y hj hy => by
      by_cases e : j = k
      · subst e
        rw [Hxk.out] at hy
        injection hy with hy
        subst hy
        exact hm
      · exact HM.out j y (by omega) hy
    clear hm
    go_wp2_with fail
    go_roundw
    case rel => exact ⟨k + 1, by omega, by go_num, HB1d.out, HM'.out⟩
    case measure => simp [intOf]; omega
end

/- The common end of a law's proof whose row reads package variables. -/
section
open Go.ChangeShapes Go.WideShapes Go.ChangeAt Go.RowKit Go.Joins

theorem var?_behind {P : Program} {W W' : World} (hb : Below W.heap.size W W') {n : String} {g : Nat} {cs : Array Value} (hg : P.globalNamed n = some g) (h : W.var? P n = some cs) : W'.var? P n = some cs := by
  have hlt : g < W.heap.size := by
    simp only [World.var?, hg, Option.bind_some] at h
    rcases Nat.lt_or_ge g W.heap.size with h' | h'
    · exact h'
    · rw [Array.getElem?_eq_none h'] at h
      simp at h
  simp only [World.var?, hg, Option.bind_some] at h ⊢
  rw [hb.block g hlt]
  exact h

theorem trodVars_behind {H : Type} {enc : TypeId × Value → H} {P : Program} (hl : laidOutB P = true) {W W' : World} (hb : Below W.heap.size W W') : ∀ {ns : List String} {ds : List (DataW H)} {ps : List MemPlace},
    DataW.TrodVars enc P W (fun _ => true) ns ds ps → (∀ n ∈ ns, ∃ g t tp a, P.globalNamed n = some g ∧ (P.globals[g]?).map (·.type) = some t ∧ P.readableRec t = true ∧ t < P.types.size ∧ W.var? P n = some #[.iface tp (.pointer (some a))]) →
    (∀ x ∈ ps, x.block < W.heap.size) → DataW.TrodVars enc P W' (fun b => decide (b < W.heap.size)) ns ds ps
  | [], [], _, h, _, _ => h
  | n :: ns, d :: ds, ps, ⟨g, t, cs, fuel, p, q, h1, h2, h3, h4, hs, e⟩, hr, hlt => by
    obtain ⟨g', t', tp, a, k1, k2, k3, k4, k5⟩ := hr n List.mem_cons_self
    obtain rfl := Option.some.inj (h1.symm.trans k1)
    obtain rfl := Option.some.inj (h2.symm.trans k2)
    obtain rfl := Option.some.inj (h3.symm.trans k5)
    subst e
    have hT : DataW.Trod enc P W 0 (fun _ => true) true t (.iface tp (.pointer (some a))) d p := ⟨fuel, h4⟩
    obtain ⟨fuel', h4'⟩ := Below.trod hl k3 k4 hT hb fun x hx => hlt x (List.mem_append_left _ (List.mem_append_right _ hx))
    exact ⟨g, t, _, fuel', p, q, h1, h2, var?_behind hb h1 h3, h4', trodVars_behind hl hb hs (fun m hm => hr m (List.mem_cons_of_mem _ hm)) fun x hx => hlt x (List.mem_append_right _ hx), rfl⟩

theorem law_doneV {H : Type} {enc : TypeId × Value → H} {P : Program} (hl : laidOutB P = true) {f : Func} {s : ChangeSpec} {W W' : World} {args : Array Value} {ds gs : List (DataW H)} {before : List MemPlace} {t : TypeId}
    (hr : (f.params.toList.all fun t => P.readableRec t && decide (t < P.types.size)) = true) (hres : f.resultTypes = #[t]) (ht : P.underlying t = some .bool)
    (hvars : ∀ n ∈ s.vars, ∃ g t tp a, P.globalNamed n = some g ∧ (P.globals[g]?).map (·.type) = some t ∧ P.readableRec t = true ∧ t < P.types.size ∧ W.var? P n = some #[.iface tp (.pointer (some a))])
    (hW : DataW.Whole enc P f.params.toList s.vars false W args.toList ds gs before)
    (hs : (s.fn H (ds ++ gs)).results = [.lit (.bool true)] ∧ (s.fn H (ds ++ gs)).args = ds ∧ (s.fn H (ds ++ gs)).vars = gs)
    (hb : Below W.heap.size W W') : s.post enc P f false true false false W args (.bool true) W' := by
  have hlt := hW.lt
  have hW' := hW
  obtain ⟨p, q, hA, hV, rfl, hfz, hnd⟩ := hW
  obtain ⟨hs1, hs2, hs3⟩ := hs
  refine ⟨ds, gs, p ++ q, [], p, q, hW', ?_, ?_, ?_, ?_, fun h => by cases h⟩
  · rw [hs1, hres]
    exact trodAll_mk1 (shut_bool ht _)
  · rw [hs2]
    exact trodAll_behind hl hb (fun u hu => by simpa using List.all_eq_true.1 hr u hu) hA fun x hx => hlt x (List.mem_append_left _ hx)
  · rw [hs3]
    exact trodVars_behind hl hb hV hvars fun x hx => hlt x (List.mem_append_right _ hx)
  · refine World.keptBut_mono (fun x hx => ⟨hx, ?_⟩) (hb.frame _)
    rcases List.mem_append.1 hx with h | h
    · exact .inr (.inl h)
    · exact .inr (.inr h)
end

/- What the handle and the six listed errors give: they lie there; and a world in which they do. -/
section
open Go.ChangeShapes Go.WideShapes Go.ChangeAt Go.RowKit Go.Joins

/-- The listed variables lie there. -/
def Tab (w : World) : Prop := ∃ E, Err6 w E
theorem Tab.keep {w w' : World} (h : Tab w) (hb : Below w.heap.size w w') : Tab w' := by
  obtain ⟨E, h⟩ := h
  exact ⟨E, h.keep hb⟩
def laid6 : List (String × DataW Unit) := [("loop.example/g00823/impl.errBad", Rows.laid_loop_example_g00823_impl_errBad), ("loop.example/g00823/impl.errMoves", Rows.laid_loop_example_g00823_impl_errMoves), ("loop.example/g00823/impl.errLost", Rows.laid_loop_example_g00823_impl_errLost), ("loop.example/g00823/impl.errTwice", Rows.laid_loop_example_g00823_impl_errTwice), ("loop.example/g00823/impl.errLoose", Rows.laid_loop_example_g00823_impl_errLoose), ("loop.example/g00823/impl.errLarge", Rows.laid_loop_example_g00823_impl_errLarge)]
def laid7 : List (String × DataW Unit) := [("errors.errorType", Rows.laid_errors_errorType), ("loop.example/g00823/impl.errBad", Rows.laid_loop_example_g00823_impl_errBad), ("loop.example/g00823/impl.errMoves", Rows.laid_loop_example_g00823_impl_errMoves), ("loop.example/g00823/impl.errLost", Rows.laid_loop_example_g00823_impl_errLost), ("loop.example/g00823/impl.errTwice", Rows.laid_loop_example_g00823_impl_errTwice), ("loop.example/g00823/impl.errLoose", Rows.laid_loop_example_g00823_impl_errLoose), ("loop.example/g00823/impl.errLarge", Rows.laid_loop_example_g00823_impl_errLarge)]
theorem star : "*" ++ "errors.errorString" = "*errors.errorString" := by decide
theorem errRow (u : TypeId) (h : Tryz.prog.typeName? 3 u = some "*errors.errorString") : u = 219 :=
  typeName_ptr_named (nm := "errors.errorString") (by rw [star]; kernel_rfl) (by kernel_rfl) (by decide) u (by rw [star]; exact h)
theorem laid7_data : (laid7.filter fun x => x.2.handleName?.isNone) = laid6 := by kernel_rfl
theorem laid7_handle : (laid7.filter fun x => x.2.handleName?.isSome) = [("errors.errorType", Rows.laid_errors_errorType)] := by kernel_rfl
theorem etN : Tryz.prog.globalNamed "errors.errorType" = some 0 := by kernel_rfl
theorem rtT : (Tryz.prog.cutTypes.find? (·.1 == "internal/reflectlite.rtype")).map (·.2) = some 158 := by kernel_rfl
theorem typesN : Tryz.prog.types.size = 253 := by kernel_rfl
theorem oneRow : ((List.range 253).filter fun t => Tryz.prog.rowNamed t [101, 114, 114, 111, 114]) = [68] := by kernel_rfl
theorem hErr : typeHandle Tryz.prog 68 = .pointer (some ⟨7, 68, none⟩) := by kernel_rfl
theorem handle_cell {W : World} (h : handlesMet Tryz.prog [("errors.errorType", Rows.laid_errors_errorType)] W) : W.cell? ⟨0, 0, none⟩ = some (.iface 158 (.agg #[.pointer (some ⟨7, 68, none⟩)])) := by
  obtain ⟨name, u, ty, e1, e2, e3, e4, e5⟩ := h _ (List.mem_singleton.2 rfl)
  have en : name = [101, 114, 114, 111, 114] := (Option.some.inj e1).symm
  subst en
  obtain rfl := Option.some.inj (rtT.symm.trans e2)
  have hm : ty ∈ (List.range 253).filter fun t => Tryz.prog.rowNamed t [101, 114, 114, 111, 114] := List.mem_filter.2 ⟨List.mem_range.2 (by rw [← typesN]; exact e3), e4⟩
  rw [oneRow] at hm
  obtain rfl := List.mem_singleton.1 hm
  rw [hErr] at e5
  simpa using World.var?_cell etN e5 0

theorem one_errBad {W : World} (h0 : laidMet Tryz.prog laid6 W) : ∃ a, W.cell? ⟨1, 0, none⟩ = some (.iface 219 (.pointer (some a))) ∧ W.var? Tryz.prog "loop.example/g00823/impl.errBad" = some #[.iface 219 (.pointer (some a))] := by
  have h : laidMet Tryz.prog [("loop.example/g00823/impl.errBad", Rows.laid_loop_example_g00823_impl_errBad)] W := by
    have h1 := h0.filter (fun x => x.1 == "loop.example/g00823/impl.errBad")
    rwa [show (laid6.filter fun x => x.1 == "loop.example/g00823/impl.errBad") = [("loop.example/g00823/impl.errBad", Rows.laid_loop_example_g00823_impl_errBad)] by kernel_rfl] at h1
  obtain ⟨a, _, hv, _, _, _⟩ := laid_sentinel h (g := 1) (by kernel_rfl) (by kernel_rfl) Tryz.underlying68 errRow Tryz.underlying219 Tryz.underlying241 rfl rfl Tryz.underlying9 (by kernel_rfl) (by kernel_rfl)
  exact ⟨a, by simpa using World.var?_cell (show Tryz.prog.globalNamed "loop.example/g00823/impl.errBad" = some 1 by kernel_rfl) hv 0, hv⟩
theorem one_errMoves {W : World} (h0 : laidMet Tryz.prog laid6 W) : ∃ a, W.cell? ⟨2, 0, none⟩ = some (.iface 219 (.pointer (some a))) ∧ W.var? Tryz.prog "loop.example/g00823/impl.errMoves" = some #[.iface 219 (.pointer (some a))] := by
  have h : laidMet Tryz.prog [("loop.example/g00823/impl.errMoves", Rows.laid_loop_example_g00823_impl_errMoves)] W := by
    have h1 := h0.filter (fun x => x.1 == "loop.example/g00823/impl.errMoves")
    rwa [show (laid6.filter fun x => x.1 == "loop.example/g00823/impl.errMoves") = [("loop.example/g00823/impl.errMoves", Rows.laid_loop_example_g00823_impl_errMoves)] by kernel_rfl] at h1
  obtain ⟨a, _, hv, _, _, _⟩ := laid_sentinel h (g := 2) (by kernel_rfl) (by kernel_rfl) Tryz.underlying68 errRow Tryz.underlying219 Tryz.underlying241 rfl rfl Tryz.underlying9 (by kernel_rfl) (by kernel_rfl)
  exact ⟨a, by simpa using World.var?_cell (show Tryz.prog.globalNamed "loop.example/g00823/impl.errMoves" = some 2 by kernel_rfl) hv 0, hv⟩
theorem one_errLost {W : World} (h0 : laidMet Tryz.prog laid6 W) : ∃ a, W.cell? ⟨4, 0, none⟩ = some (.iface 219 (.pointer (some a))) ∧ W.var? Tryz.prog "loop.example/g00823/impl.errLost" = some #[.iface 219 (.pointer (some a))] := by
  have h : laidMet Tryz.prog [("loop.example/g00823/impl.errLost", Rows.laid_loop_example_g00823_impl_errLost)] W := by
    have h1 := h0.filter (fun x => x.1 == "loop.example/g00823/impl.errLost")
    rwa [show (laid6.filter fun x => x.1 == "loop.example/g00823/impl.errLost") = [("loop.example/g00823/impl.errLost", Rows.laid_loop_example_g00823_impl_errLost)] by kernel_rfl] at h1
  obtain ⟨a, _, hv, _, _, _⟩ := laid_sentinel h (g := 4) (by kernel_rfl) (by kernel_rfl) Tryz.underlying68 errRow Tryz.underlying219 Tryz.underlying241 rfl rfl Tryz.underlying9 (by kernel_rfl) (by kernel_rfl)
  exact ⟨a, by simpa using World.var?_cell (show Tryz.prog.globalNamed "loop.example/g00823/impl.errLost" = some 4 by kernel_rfl) hv 0, hv⟩
theorem one_errTwice {W : World} (h0 : laidMet Tryz.prog laid6 W) : ∃ a, W.cell? ⟨5, 0, none⟩ = some (.iface 219 (.pointer (some a))) ∧ W.var? Tryz.prog "loop.example/g00823/impl.errTwice" = some #[.iface 219 (.pointer (some a))] := by
  have h : laidMet Tryz.prog [("loop.example/g00823/impl.errTwice", Rows.laid_loop_example_g00823_impl_errTwice)] W := by
    have h1 := h0.filter (fun x => x.1 == "loop.example/g00823/impl.errTwice")
    rwa [show (laid6.filter fun x => x.1 == "loop.example/g00823/impl.errTwice") = [("loop.example/g00823/impl.errTwice", Rows.laid_loop_example_g00823_impl_errTwice)] by kernel_rfl] at h1
  obtain ⟨a, _, hv, _, _, _⟩ := laid_sentinel h (g := 5) (by kernel_rfl) (by kernel_rfl) Tryz.underlying68 errRow Tryz.underlying219 Tryz.underlying241 rfl rfl Tryz.underlying9 (by kernel_rfl) (by kernel_rfl)
  exact ⟨a, by simpa using World.var?_cell (show Tryz.prog.globalNamed "loop.example/g00823/impl.errTwice" = some 5 by kernel_rfl) hv 0, hv⟩
theorem one_errLoose {W : World} (h0 : laidMet Tryz.prog laid6 W) : ∃ a, W.cell? ⟨6, 0, none⟩ = some (.iface 219 (.pointer (some a))) ∧ W.var? Tryz.prog "loop.example/g00823/impl.errLoose" = some #[.iface 219 (.pointer (some a))] := by
  have h : laidMet Tryz.prog [("loop.example/g00823/impl.errLoose", Rows.laid_loop_example_g00823_impl_errLoose)] W := by
    have h1 := h0.filter (fun x => x.1 == "loop.example/g00823/impl.errLoose")
    rwa [show (laid6.filter fun x => x.1 == "loop.example/g00823/impl.errLoose") = [("loop.example/g00823/impl.errLoose", Rows.laid_loop_example_g00823_impl_errLoose)] by kernel_rfl] at h1
  obtain ⟨a, _, hv, _, _, _⟩ := laid_sentinel h (g := 6) (by kernel_rfl) (by kernel_rfl) Tryz.underlying68 errRow Tryz.underlying219 Tryz.underlying241 rfl rfl Tryz.underlying9 (by kernel_rfl) (by kernel_rfl)
  exact ⟨a, by simpa using World.var?_cell (show Tryz.prog.globalNamed "loop.example/g00823/impl.errLoose" = some 6 by kernel_rfl) hv 0, hv⟩
theorem one_errLarge {W : World} (h0 : laidMet Tryz.prog laid6 W) : ∃ a, W.cell? ⟨3, 0, none⟩ = some (.iface 219 (.pointer (some a))) ∧ W.var? Tryz.prog "loop.example/g00823/impl.errLarge" = some #[.iface 219 (.pointer (some a))] := by
  have h : laidMet Tryz.prog [("loop.example/g00823/impl.errLarge", Rows.laid_loop_example_g00823_impl_errLarge)] W := by
    have h1 := h0.filter (fun x => x.1 == "loop.example/g00823/impl.errLarge")
    rwa [show (laid6.filter fun x => x.1 == "loop.example/g00823/impl.errLarge") = [("loop.example/g00823/impl.errLarge", Rows.laid_loop_example_g00823_impl_errLarge)] by kernel_rfl] at h1
  obtain ⟨a, _, hv, _, _, _⟩ := laid_sentinel h (g := 3) (by kernel_rfl) (by kernel_rfl) Tryz.underlying68 errRow Tryz.underlying219 Tryz.underlying241 rfl rfl Tryz.underlying9 (by kernel_rfl) (by kernel_rfl)
  exact ⟨a, by simpa using World.var?_cell (show Tryz.prog.globalNamed "loop.example/g00823/impl.errLarge" = some 3 by kernel_rfl) hv 0, hv⟩

theorem two_errLost {W : World} (h0 : laidMet Tryz.prog laid6 W) : ∃ a b, W.var? Tryz.prog "loop.example/g00823/impl.errBad" = some #[.iface 219 (.pointer (some a))] ∧ W.var? Tryz.prog "loop.example/g00823/impl.errLost" = some #[.iface 219 (.pointer (some b))] ∧ W.cell? ⟨1, 0, none⟩ = some (.iface 219 (.pointer (some a))) ∧ W.cell? ⟨4, 0, none⟩ = some (.iface 219 (.pointer (some b))) ∧ a ≠ b ∧ (∃ ca ta, W.heap[a.block]? = some (.cells ca ta (0, 0))) ∧ ∃ ca ta, W.heap[b.block]? = some (.cells ca ta (0, 0)) := by
  have h : laidMet Tryz.prog [("loop.example/g00823/impl.errBad", Rows.laid_loop_example_g00823_impl_errBad), ("loop.example/g00823/impl.errLost", Rows.laid_loop_example_g00823_impl_errLost)] W := by
    have h1 := h0.filter (fun x => x.1 == "loop.example/g00823/impl.errBad" || x.1 == "loop.example/g00823/impl.errLost")
    rwa [show (laid6.filter (fun x => x.1 == "loop.example/g00823/impl.errBad" || x.1 == "loop.example/g00823/impl.errLost")) = [("loop.example/g00823/impl.errBad", Rows.laid_loop_example_g00823_impl_errBad), ("loop.example/g00823/impl.errLost", Rows.laid_loop_example_g00823_impl_errLost)] by kernel_rfl] at h1
  obtain ⟨a, b, _, _, c0, c1, t0, t1, hv0, hv1, _, _, _, _, _, _, hne, hb0, hb1⟩ := laid_sentinels2 h (g0 := 1) (g1 := 4) (by kernel_rfl) (by kernel_rfl) (by kernel_rfl) (by kernel_rfl) Tryz.underlying68 errRow Tryz.underlying219 Tryz.underlying241 rfl rfl Tryz.underlying9 (by kernel_rfl) (by kernel_rfl)
  exact ⟨a, b, hv0, hv1, by simpa using World.var?_cell (show Tryz.prog.globalNamed "loop.example/g00823/impl.errBad" = some 1 by kernel_rfl) hv0 0, by simpa using World.var?_cell (show Tryz.prog.globalNamed "loop.example/g00823/impl.errLost" = some 4 by kernel_rfl) hv1 0, hne, ⟨c0, t0, hb0⟩, ⟨c1, t1, hb1⟩⟩
theorem two_errTwice {W : World} (h0 : laidMet Tryz.prog laid6 W) : ∃ a b, W.var? Tryz.prog "loop.example/g00823/impl.errBad" = some #[.iface 219 (.pointer (some a))] ∧ W.var? Tryz.prog "loop.example/g00823/impl.errTwice" = some #[.iface 219 (.pointer (some b))] ∧ W.cell? ⟨1, 0, none⟩ = some (.iface 219 (.pointer (some a))) ∧ W.cell? ⟨5, 0, none⟩ = some (.iface 219 (.pointer (some b))) ∧ a ≠ b ∧ (∃ ca ta, W.heap[a.block]? = some (.cells ca ta (0, 0))) ∧ ∃ ca ta, W.heap[b.block]? = some (.cells ca ta (0, 0)) := by
  have h : laidMet Tryz.prog [("loop.example/g00823/impl.errBad", Rows.laid_loop_example_g00823_impl_errBad), ("loop.example/g00823/impl.errTwice", Rows.laid_loop_example_g00823_impl_errTwice)] W := by
    have h1 := h0.filter (fun x => x.1 == "loop.example/g00823/impl.errBad" || x.1 == "loop.example/g00823/impl.errTwice")
    rwa [show (laid6.filter (fun x => x.1 == "loop.example/g00823/impl.errBad" || x.1 == "loop.example/g00823/impl.errTwice")) = [("loop.example/g00823/impl.errBad", Rows.laid_loop_example_g00823_impl_errBad), ("loop.example/g00823/impl.errTwice", Rows.laid_loop_example_g00823_impl_errTwice)] by kernel_rfl] at h1
  obtain ⟨a, b, _, _, c0, c1, t0, t1, hv0, hv1, _, _, _, _, _, _, hne, hb0, hb1⟩ := laid_sentinels2 h (g0 := 1) (g1 := 5) (by kernel_rfl) (by kernel_rfl) (by kernel_rfl) (by kernel_rfl) Tryz.underlying68 errRow Tryz.underlying219 Tryz.underlying241 rfl rfl Tryz.underlying9 (by kernel_rfl) (by kernel_rfl)
  exact ⟨a, b, hv0, hv1, by simpa using World.var?_cell (show Tryz.prog.globalNamed "loop.example/g00823/impl.errBad" = some 1 by kernel_rfl) hv0 0, by simpa using World.var?_cell (show Tryz.prog.globalNamed "loop.example/g00823/impl.errTwice" = some 5 by kernel_rfl) hv1 0, hne, ⟨c0, t0, hb0⟩, ⟨c1, t1, hb1⟩⟩
theorem two_errLoose {W : World} (h0 : laidMet Tryz.prog laid6 W) : ∃ a b, W.var? Tryz.prog "loop.example/g00823/impl.errBad" = some #[.iface 219 (.pointer (some a))] ∧ W.var? Tryz.prog "loop.example/g00823/impl.errLoose" = some #[.iface 219 (.pointer (some b))] ∧ W.cell? ⟨1, 0, none⟩ = some (.iface 219 (.pointer (some a))) ∧ W.cell? ⟨6, 0, none⟩ = some (.iface 219 (.pointer (some b))) ∧ a ≠ b ∧ (∃ ca ta, W.heap[a.block]? = some (.cells ca ta (0, 0))) ∧ ∃ ca ta, W.heap[b.block]? = some (.cells ca ta (0, 0)) := by
  have h : laidMet Tryz.prog [("loop.example/g00823/impl.errBad", Rows.laid_loop_example_g00823_impl_errBad), ("loop.example/g00823/impl.errLoose", Rows.laid_loop_example_g00823_impl_errLoose)] W := by
    have h1 := h0.filter (fun x => x.1 == "loop.example/g00823/impl.errBad" || x.1 == "loop.example/g00823/impl.errLoose")
    rwa [show (laid6.filter (fun x => x.1 == "loop.example/g00823/impl.errBad" || x.1 == "loop.example/g00823/impl.errLoose")) = [("loop.example/g00823/impl.errBad", Rows.laid_loop_example_g00823_impl_errBad), ("loop.example/g00823/impl.errLoose", Rows.laid_loop_example_g00823_impl_errLoose)] by kernel_rfl] at h1
  obtain ⟨a, b, _, _, c0, c1, t0, t1, hv0, hv1, _, _, _, _, _, _, hne, hb0, hb1⟩ := laid_sentinels2 h (g0 := 1) (g1 := 6) (by kernel_rfl) (by kernel_rfl) (by kernel_rfl) (by kernel_rfl) Tryz.underlying68 errRow Tryz.underlying219 Tryz.underlying241 rfl rfl Tryz.underlying9 (by kernel_rfl) (by kernel_rfl)
  exact ⟨a, b, hv0, hv1, by simpa using World.var?_cell (show Tryz.prog.globalNamed "loop.example/g00823/impl.errBad" = some 1 by kernel_rfl) hv0 0, by simpa using World.var?_cell (show Tryz.prog.globalNamed "loop.example/g00823/impl.errLoose" = some 6 by kernel_rfl) hv1 0, hne, ⟨c0, t0, hb0⟩, ⟨c1, t1, hb1⟩⟩

theorem tab_of_laid {W : World} (hL : laidMetH Tryz.prog laid7 W) : Tab W := by
  have h0 := laidMetH_iff.1 hL
  rw [laid7_data, laid7_handle] at h0
  obtain ⟨h, hh⟩ := h0
  have ch := handle_cell hh
  obtain ⟨a1, _, v1⟩ := one_errBad h
  obtain ⟨a2, c2, v2⟩ := one_errMoves h
  obtain ⟨a6, c6, v6⟩ := one_errLarge h
  obtain ⟨b1, a3, w1, w3, c1, c3, ne3, ⟨x1, y1, hb1⟩, ⟨x3, y3, hb3⟩⟩ := two_errLost h
  obtain ⟨b1', a4, w1', w4, _, c4, ne4, _, ⟨x4, y4, hb4⟩⟩ := two_errTwice h
  obtain ⟨b1'', a5, w1'', w5, _, c5, ne5, _, ⟨x5, y5, hb5⟩⟩ := two_errLoose h
  obtain rfl : b1' = b1 := by have := w1'.symm.trans w1; simpa using this
  obtain rfl : b1'' = b1' := by have := w1''.symm.trans w1; simpa using this
  refine ⟨fun c => if c = 1 then b1'' else if c = 2 then a2 else if c = 3 then a3 else if c = 4 then a4 else if c = 5 then a5 else a6, ⟨c1, c3, c4, c5⟩, c2, c6, ch, ?_, ?_⟩
  · rintro c (rfl | rfl | rfl)
    · exact Ne.symm ne3
    · exact Ne.symm ne4
    · exact Ne.symm ne5
  · rintro c (rfl | rfl | rfl | rfl)
    · exact ⟨x1, y1, hb1⟩
    · exact ⟨x3, y3, hb3⟩
    · exact ⟨x4, y4, hb4⟩
    · exact ⟨x5, y5, hb5⟩

theorem vars_of_laid {W : World} (hL : laidMetH Tryz.prog laid7 W) : ∀ n ∈ ["loop.example/g00823/impl.errBad", "loop.example/g00823/impl.errMoves", "loop.example/g00823/impl.errLarge", "loop.example/g00823/impl.errLost", "loop.example/g00823/impl.errTwice", "loop.example/g00823/impl.errLoose"], ∃ g t tp a, Tryz.prog.globalNamed n = some g ∧ (Tryz.prog.globals[g]?).map (·.type) = some t ∧ Tryz.prog.readableRec t = true ∧ t < Tryz.prog.types.size ∧ W.var? Tryz.prog n = some #[.iface tp (.pointer (some a))] := by
  have h0 := laidMetH_iff.1 hL
  rw [laid7_data] at h0
  have h := h0.1
  intro n hn
  simp only [List.mem_cons, List.not_mem_nil, or_false] at hn
  rcases hn with rfl | rfl | rfl | rfl | rfl | rfl
  · obtain ⟨a, _, hv⟩ := one_errBad h
    exact ⟨1, 68, _, a, by kernel_rfl, by kernel_rfl, by kernel_rfl, by decide +kernel, hv⟩
  · obtain ⟨a, _, hv⟩ := one_errMoves h
    exact ⟨2, 68, _, a, by kernel_rfl, by kernel_rfl, by kernel_rfl, by decide +kernel, hv⟩
  · obtain ⟨a, _, hv⟩ := one_errLarge h
    exact ⟨3, 68, _, a, by kernel_rfl, by kernel_rfl, by kernel_rfl, by decide +kernel, hv⟩
  · obtain ⟨a, _, hv⟩ := one_errLost h
    exact ⟨4, 68, _, a, by kernel_rfl, by kernel_rfl, by kernel_rfl, by decide +kernel, hv⟩
  · obtain ⟨a, _, hv⟩ := one_errTwice h
    exact ⟨5, 68, _, a, by kernel_rfl, by kernel_rfl, by kernel_rfl, by decide +kernel, hv⟩
  · obtain ⟨a, _, hv⟩ := one_errLoose h
    exact ⟨6, 68, _, a, by kernel_rfl, by kernel_rfl, by kernel_rfl, by decide +kernel, hv⟩

theorem trodVars_len {H : Type} {enc : TypeId × Value → H} {P : Program} {w : World} {spare : Nat → Bool} : ∀ {ns : List String} {gs : List (DataW H)} {ps : List MemPlace}, DataW.TrodVars enc P w spare ns gs ps → gs.length = ns.length
  | [], [], _, _ => rfl
  | [], _ :: _, _, h => h.elim
  | _ :: _, [], _, h => h.elim
  | _ :: ns, _ :: gs, _, ⟨_, _, _, _, _, _, _, _, _, _, h, _⟩ => by rw [List.length_cons, List.length_cons, trodVars_len h]
theorem trodVars_six {H : Type} {enc : TypeId × Value → H} {P : Program} {w : World} {spare : Nat → Bool} {n0 n1 n2 n3 n4 n5 : String} {gs : List (DataW H)} {ps : List MemPlace} (h : DataW.TrodVars enc P w spare [n0, n1, n2, n3, n4, n5] gs ps) : ∃ a b c d e f, gs = [a, b, c, d, e, f] := by
  have hl := trodVars_len h
  match gs, hl with
  | [a, b, c, d, e, f], _ => exact ⟨a, b, c, d, e, f, rfl⟩

/-- A world that meets the condition: the listed errors laid by their data, the handle by its value. -/
noncomputable def witW (os : Os) : World :=
  let w0 := World.laidAll Tryz.prog os laid6
  { w0 with heap := w0.heap.modify 0 fun
      | .cells _ t frozen => .cells #[.iface 158 (.agg #[.pointer (some ⟨7, 68, none⟩)])] t frozen
      | o => o }
theorem witW_os (os : Os) : (witW os).os = os := by
  have h := World.laidAll_os Tryz.prog os laid6
  unfold witW
  generalize World.laidAll Tryz.prog os laid6 = w0 at h
  exact h
set_option maxRecDepth 100000 in
theorem witW_met (os : Os) (args : Array Value) : laidMetH Tryz.prog laid7 ((witW os).forCall (fun _ _ => 0) ⟨#[], args, []⟩).memory :=
  laidMetH_of_parts (by rw [laid7_data]; exact laidMet_of_run3 10 (by kernel_rfl) (by kernel_rfl) (by kernel_rfl)) (by rw [laid7_handle]; kernel_rfl)

theorem CodeOfT_any (f : FunD) (v : Value) (w : World) (Z : Zn) (hv : EFun w Z f v) (hD : ∀ b, Z.D b → b < w.heap.size) (hn : f.blocks.length ≤ 1048576) (hT : Tab w) : Calls Tryz.prog 14 #[v] w (GivesCG f w) := by
  obtain ⟨E, h⟩ := hT
  exact CodeOf_any f v E w Z hv hD hn h
end

end Go.Proofs.YtnjmlhokkhkaaaaGreatDoor
