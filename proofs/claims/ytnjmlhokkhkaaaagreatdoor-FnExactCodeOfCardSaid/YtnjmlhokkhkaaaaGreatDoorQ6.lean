/- M6, L2d, M7, Dfs, joined. -/
import Derived.Test.YtnjmlhokkhkaaaaGreatDoorQ2
import Derived.Test.YtnjmlhokkhkaaaaGreatDoorQ4
import Derived.Test.YtnjmlhokkhkaaaaGreatDoorQ5
import Derived.Deep.RegionHeld3
import Derived.WalkKit
namespace Go.Proofs.YtnjmlhokkhkaaaaGreatDoor

/- sizesOk and predsOfAll of the program. -/
section
open Go.ChangeShapes Go.WideShapes Go.ChangeAt Go.RowKit Go.Joins

set_option maxHeartbeats 1000000 in
theorem sizesOk_any (f : FunD) (A : Option Addr) (c : Nat) (w : World) (hle : f.blocks.length ≤ 9223372036854775807) :
    Calls Tryz.prog 45 #[.agg #[.int .i64 f.params, .int .i64 f.names, .slice A f.blocks.length c]] w (GivesB (FrameHead f) w) := by
  have hB : Below w.heap.size w (w.alloc (.cells #[.int .i64 f.params, .int .i64 f.names, .slice A f.blocks.length c] 26)) := (Below.refl _ _).alloc (Nat.le_refl _) _
  by_cases h : FrameHead f
  · have HY := Lib.hid h
    obtain ⟨⟨h1, h2⟩, ⟨h3, h4⟩, ⟨h5, h6⟩, h7⟩ := h
    have h1' : 1 ≤ (f.blocks.length : Int) := by omega
    have h2' : (f.blocks.length : Int) ≤ 40 := by omega
    go_enter Tryz.func45, Tryz.ntmps45
    go_wp2
    go_ret
    refine ⟨true, ?_, by simpa using HY.out, hB⟩
    simp
    try omega
  · have HN := Lib.hid h
    by_cases h1 : 1 ≤ f.blocks.length
    case neg =>
      have h1' : (f.blocks.length : Int) < 1 := by omega
      clear h1 h
      go_enter Tryz.func45, Tryz.ntmps45
      go_wp2
      go_ret
      exact gives_no HN.out hB
    by_cases h2 : f.blocks.length ≤ 40
    case neg =>
      have h2' : (40 : Int) < (f.blocks.length : Int) := by omega
      clear h2 h
      go_enter Tryz.func45, Tryz.ntmps45
      go_wp2
      go_ret
      exact gives_no HN.out hB
    have h1' : 1 ≤ (f.blocks.length : Int) := by omega
    have h2' : (f.blocks.length : Int) ≤ 40 := by omega
    by_cases h3 : 0 ≤ f.params
    case neg =>
      have h3' : f.params < 0 := by omega
      clear h h3
      go_enter Tryz.func45, Tryz.ntmps45
      go_wp2
      go_ret
      exact gives_no HN.out hB
    by_cases h4 : f.params ≤ 6
    case neg =>
      have h4' : 6 < f.params := by omega
      clear h h4
      go_enter Tryz.func45, Tryz.ntmps45
      go_wp2
      go_ret
      exact gives_no HN.out hB
    by_cases h5 : f.params ≤ f.names
    case neg =>
      have h5' : f.names < f.params := by omega
      clear h h5
      go_enter Tryz.func45, Tryz.ntmps45
      go_wp2
      go_ret
      exact gives_no HN.out hB
    have h6 : 150 < f.names := by
      rcases Int.lt_or_le 150 f.names with h6 | h6
      · exact h6
      · exact absurd ⟨⟨h1, h2⟩, ⟨by omega, h6⟩, ⟨h3, h4⟩, h5⟩ h
    clear h
    go_enter Tryz.func45, Tryz.ntmps45
    go_wp2
    go_ret
    refine ⟨false, ?_, by simpa using HN.out, hB⟩
    simp
    try omega

theorem info_ints : (Tryz.prog.info? 64).map (fun i => (i.zero, i.size, i.bytes)) = some (some (.slice none 0 0), 1, 24) := by kernel_rfl

def GivesPRow (n : Nat) (row : Nat → List Int) (w : World) (e : Ending) (w' : World) : Prop := e = .returned (.slice (some ⟨w.heap.size, 0, none⟩) n n) ∧ PRow w' (w.heap.size + 1) w.heap.size n row ∧ Below w.heap.size w w'

set_option maxRecDepth 10000 in
set_option maxHeartbeats 1000000 in
theorem predsOfAll_any (v : Value) (xs : List BlockD) (w : World) (Z : Zn) (hv : Row w Z 8 (EBlock w Z) v xs) (hD : ∀ b, Z.D b → b < w.heap.size) (hn : xs.length ≤ 1048576) :
    Calls Tryz.prog 46 #[v] w (GivesPRow xs.length (fun j => predsK succsE xs xs.length j) w) := by
  obtain ⟨_, A, c, rfl, hx⟩ := hv
  obtain ⟨i0, hi, hz0, hz1, hz2⟩ := info_parts info_ints
  have hmk := fun W => run_make_rowN (P := Tryz.prog) 81 64 i0 _ Tryz.underlying81 hi hz0 .i64 .i64 xs.length xs.length (Nat.le_refl _) (by rw [hz2]; omega) (by omega) W
  rw [hz1] at hmk
  clear hi hz0 hz1 hz2
  go_enter Tryz.func46, Tryz.ntmps46
  go_wp2
  go_loopw [13] (fun i wr => ∃ k : Nat, k ≤ xs.length ∧ i = .int .i64 k ∧ Hid (Below w.heap.size w wr) ∧ w.heap.size < wr.heap.size ∧ Hid (PRow wr (w.heap.size + 1) w.heap.size xs.length (fun j => predsK succsE xs k j))) (fun i _ => xs.length - (intOf i).toNat)
  case atStart => exact ⟨0, Nat.zero_le _, rfl, (Below.refl _ _).alloc (Nat.le_refl _) _, by simp, PRow.start xs.length⟩
  case round =>
    obtain ⟨k, hk, rfl, HB, hsz, HP⟩ := hrel
    by_cases hlt : k < xs.length
    case neg =>
      obtain rfl : k = xs.length := by omega
      go_wp2
      go_ret
      exact ⟨rfl, HP.out, HB.out⟩
    have hxk : xs[k]? = some xs[k] := List.getElem?_eq_getElem hlt
    generalize xs[k] = x at hxk
    obtain ⟨b, off, rfl, hDb, hrow⟩ := hx (by rintro rfl; simp at hlt)
    obtain ⟨cs, hE, hcs⟩ := hrow k x hxk
    have hbl := hD b hDb
    obtain ⟨v0, v1, v2, v3, rfl, ⟨_, A0, q0, rfl, _⟩, ⟨_, A1, q1, rfl, _⟩, ⟨_, A2, q2, rfl, _⟩, ⟨_, A3, q3, rfl, _⟩⟩ := hE
    have c0 : wr.cell? ⟨b, off + k * 8, none⟩ = some (.slice A0 x.phis.length q0) := (HB.out.cell (p := ⟨b, _, none⟩) hbl).trans (hcs 0 _ rfl).1
    have c1 : wr.cell? ⟨b, off + k * 8 + 1, none⟩ = some (.slice A1 x.head.length q1) := (HB.out.cell (p := ⟨b, _, none⟩) hbl).trans (hcs 1 _ rfl).1
    have c2 : wr.cell? ⟨b, off + k * 8 + 2, none⟩ = some (.slice A2 x.body.length q2) := (HB.out.cell (p := ⟨b, _, none⟩) hbl).trans (hcs 2 _ rfl).1
    have c3 : wr.cell? ⟨b, off + k * 8 + 3, none⟩ = some (.slice A3 x.tail.length q3) := (HB.out.cell (p := ⟨b, _, none⟩) hbl).trans (hcs 3 _ rfl).1
    have c4 : wr.cell? ⟨b, off + k * 8 + 4, none⟩ = some (.int .i64 x.fin.k) := (HB.out.cell (p := ⟨b, _, none⟩) hbl).trans (hcs 4 _ rfl).1
    have c5 : wr.cell? ⟨b, off + k * 8 + 5, none⟩ = some (.int .i64 x.fin.a) := (HB.out.cell (p := ⟨b, _, none⟩) hbl).trans (hcs 5 _ rfl).1
    have c6 : wr.cell? ⟨b, off + k * 8 + 6, none⟩ = some (.int .i64 x.fin.t) := (HB.out.cell (p := ⟨b, _, none⟩) hbl).trans (hcs 6 _ rfl).1
    have c7 : wr.cell? ⟨b, off + k * 8 + 7, none⟩ = some (.int .i64 x.fin.l) := (HB.out.cell (p := ⟨b, _, none⟩) hbl).trans (hcs 7 _ rfl).1
    have Hxk := Lib.hid hxk
    clear hcs hx hxk hrow
    go_wp2_with fail
    refine (SuccsOf_any _ _ _ _ _).mono ?_
    rintro e w1 ⟨r, rfl, hr, hb1⟩
    have hz1 : wr.heap.size + 1 ≤ w1.heap.size := by have := hb1.size; simp at this; omega
    have HB1 := Lib.hid ((HB.out.alloc (Nat.le_of_lt hsz) _).trans (hb1.mono (by simp; omega)))
    have HPa := HP.out.below ((Below.refl _ _).trans (((Below.refl wr.heap.size wr).alloc (Nat.le_refl _) _).trans (hb1.mono (by simp))))
    have hu := hr.ri
    have HW := Lib.hid hr
    have hul := succsL_len x.fin.k x.fin.a x.fin.t x.fin.l
    have HND := Lib.hid (succsL_nodup x.fin.k x.fin.a x.fin.t x.fin.l)
    have HAll : Hid (∀ j, rowM xs (succsL x.fin.k x.fin.a x.fin.t x.fin.l) k (succsL x.fin.k x.fin.a x.fin.t x.fin.l).length j = predsK succsE xs (k + 1) j) := fun j => rowM_all Hxk.out j
    have HP1 : Hid (PRow w1 (w.heap.size + 1) w.heap.size xs.length (rowM xs (succsL x.fin.k x.fin.a x.fin.t x.fin.l) k 0)) := HPa.congr fun j _ => rowM_zero xs _ k j
    have HAV : Hid (PAvoid w1 w.heap.size wr.heap.size w1.heap.size) := (PAvoid.start HP.out _).below (((Below.refl wr.heap.size wr).alloc (Nat.le_refl _) _).trans (hb1.mono (by simp))) hsz
    clear hb1 HPa HB HP hr
    generalize succsL x.fin.k x.fin.a x.fin.t x.fin.l = us at hu hul HND HAll HP1 HW
    obtain ⟨_, A5, q5, rfl, _⟩ := hu
    go_wp2_with fail
    clear c0 c1 c2 c3 c4 c5 c6 c7
    have HW1 : Hid (OI w1 (wr.heap.size + 1) (.slice A5 us.length q5) us) := World.ownsRow.mono HW.out (by simp)
    clear HW
    obtain ⟨lo, hlo⟩ : ∃ lo, lo = wr.heap.size := ⟨_, rfl⟩
    rw [← hlo] at HAV HW1 hz1 hsz
    have hlo' : lo ≤ wr.heap.size := by omega
    clear hlo
    go_loopw [22] (fun q wq => ∃ m : Nat, m ≤ us.length ∧ q = .int .i64 m ∧ Hid (Below w.heap.size w wq) ∧ w1.heap.size ≤ wq.heap.size ∧ Hid (PRow wq (w.heap.size + 1) w.heap.size xs.length (rowM xs us k m)) ∧ Hid (PAvoid wq w.heap.size lo w1.heap.size) ∧ Hid (OI wq (lo + 1) (.slice A5 us.length q5) us)) (fun q _ => us.length - (intOf q).toNat)
    case atStart => exact ⟨0, Nat.zero_le _, rfl, HB1.out, Nat.le_refl _, HP1.out, HAV.out, HW1.out⟩
    case round =>
      obtain ⟨m, hm, rfl, HBq, hsq, HPq, HAq, HOq⟩ := hrel
      by_cases hml : m < us.length
      case neg =>
        obtain rfl : m = us.length := by omega
        go_wp2
        go_roundw
        case rel => exact ⟨k + 1, by omega, by go_num, HBq.out, by omega, HPq.out.congr fun j _ => (HAll.out j).symm⟩
        case measure => simp [intOf]; omega
      have hum : us[m]? = some us[m] := List.getElem?_eq_getElem hml
      generalize us[m] = u at hum
      obtain ⟨_, A6, q6, he6, hux⟩ := HOq.out.ri
      injection he6 with e1 _ e2
      subst e1 e2
      obtain ⟨b', off', rfl, hcell⟩ := hux (by rintro rfl; simp at hml)
      have p0 := hcell m u hum
      have Hum := Lib.hid hum
      clear hcell hux hum
      cases hun : isBelowB u xs.length
      · have hcg : Hid (PRow wr (w.heap.size + 1) w.heap.size xs.length (rowM xs us k (m + 1))) := HPq.out.congr fun j hj => rowM_other Hum.out fun e => by
          subst e
          simp [isBelowB] at hun
          omega
        go_wp2_with (go_at_call 24; refine (isBelow_any _ _ _).mono ?_; rintro e w' ⟨rfl, rfl⟩)
        go_roundw
        case rel => exact ⟨m + 1, by omega, by go_num, HBq.out, hsq, hcg, HAq.out, HOq.out⟩
        case measure => simp [intOf]; omega
      have hul0 : 0 ≤ u ∧ u < xs.length := by simpa [isBelowB] using hun
      obtain ⟨t, rfl⟩ : ∃ t : Nat, u = t := ⟨u.toNat, by omega⟩
      have htn : t < xs.length := by omega
      have htn' : (t : Int) < (xs.length : Int) := by omega
      have ht0 : 0 ≤ (t : Int) := by omega
      obtain ⟨v, hcv, hov⟩ := HPq.out.get htn
      have hfz := HPq.out.frozen t
      have hrl := rowM_len xs us k m t
      have HOV := Lib.hid hov
      obtain ⟨_, A7, q7, rfl, _⟩ := hov.ri
      clear hov hul0
      have hne : some w.heap.size ≠ (Value.slice A7 (rowM xs us k m t).length q7).ownBlock := fun e => by have := (HOV.out.lt _ e.symm).1; omega
      have hGw : w.heap.size < wr.heap.size := by omega
      go_wp2_with (first
        | (go_at_call 24; refine (isBelow_any _ _ _).mono ?_; rintro e w' ⟨rfl, rfl⟩)
        | (at_builtin; go_must (refine wpList_append_int rfl (.tmp 35) (.tmp 37) rfl (w.heap.size + 1) _ (rowM xs us k m t) k wr rfl HOV.out rfl (by omega) (by omega) ?_; intro v' w2 hown2 hg2 hat2; have HO2 := Lib.hid hown2; have HG2 := Lib.hid hg2; have HA2 := Lib.hid hat2; obtain ⟨_, A8, q8, rfl, _⟩ := hown2.ri; have d0 := (World.cell?_of_block (a := ⟨w.heap.size, t, none⟩) (hg2.block _ hGw hne)).trans hcv; have df := (World.frozen?_of_block (a := ⟨w.heap.size, t, none⟩) (hg2.block _ hGw hne)).trans hfz; clear hown2 hg2 hat2)))
      have HPn := Lib.hid (HPq.out.append htn rfl hcv HO2.out HG2.out HA2.out)
      have HAn := Lib.hid (HAq.out.append hGw hne hcv HG2.out HA2.out hsq)
      have hb5 := HW1.out.lt b' rfl
      have hus : (Value.slice (some ⟨b', off', none⟩) us.length q5).ownBlock ≠ (Value.slice A7 (rowM xs us k m t).length q7).ownBlock := fun e => by
        have := HAq.out t _ b' hcv e.symm
        omega
      have HOn := Lib.hid ((HOq.out.grown HG2.out (.inr hus)).grown (set_grown w2 w.heap.size t (.slice A8 (rowM xs us k m t ++ [(k : Int)]).length q8)) (.inr fun e => by injection e with e; simp at e; omega))
      have HBn := Lib.hid ((HBq.out.grown HG2.out (by omega) (fun kk hkk => by have := (HOV.out.lt kk hkk).1; omega)).setCell (p := ⟨w.heap.size, t, none⟩) (Nat.le_refl _) (.slice A8 (rowM xs us k m t ++ [(k : Int)]).length q8))
      have hz2 := HG2.out.size
      have HPn' : Hid (PRow (w2.setCell ⟨w.heap.size, t, none⟩ (.slice A8 (rowM xs us k m t ++ [(k : Int)]).length q8)) (w.heap.size + 1) w.heap.size xs.length (rowM xs us k (m + 1))) := HPn.out.congr fun i _ => by
        by_cases e : i = t
        · subst e
          rw [if_pos rfl, rowM_same HND.out Hum.out]
        · rw [if_neg e]
          exact rowM_other Hum.out fun h => e (by omega)
      have el : (rowM xs us k m t ++ [(k : Int)]).length = (rowM xs us k m t).length + 1 := by simp
      rw [el] at HBn HPn' HAn HOn
      clear el HPn HO2 HG2 HA2 HAq HPq HOq HBq HOV hcv p0 hfz d0 df hb5
      go_wp2_with fail
      go_roundw
      case rel => exact ⟨m + 1, by omega, by go_num, HBn.out, by rw [nblk_set]; omega, HPn'.out, HAn.out, HOn.out⟩
      case measure => simp [intOf]; omega
end

/- The model's FunOk and PredsOf. -/
section
open Go.ChangeShapes Go.WideShapes Go.ChangeAt Go.RowKit Go.Joins

theorem EFun.row {w : World} {Z : Zn} {f : FunD} {a b u : Value} (h : EFun w Z f (.agg #[a, b, u])) : Row w Z 8 (EBlock w Z) u f.blocks := by
  obtain ⟨u', he, hr⟩ := h
  injection he with he
  have : u = u' := by
    have := congrArg (fun l : Array Value => l[2]?) he
    simpa using this
  rw [this]; exact hr

theorem l2Frame_any (f : FunD) (v : Value) (w : World) (Z : Zn) (hv : EFun w Z f v) (hD : ∀ b, Z.D b → b < w.heap.size) : Calls Tryz.prog 59 #[v] w (GivesB (FrameP f) w) := by
  obtain ⟨u, rfl, hu⟩ := hv
  by_cases h : FrameHead f
  · exact l2Frame_yes f u w Z h hu hD
  · obtain ⟨hle, A, c, rfl, _⟩ := hu
    exact l2Frame_no f _ w h ⟨_, _, rfl⟩ hle

theorem FrameP.head {f : FunD} (h : FrameP f) : FrameHead f := ⟨h.1, h.2.1, h.2.2.1, h.2.2.2.1⟩
theorem predsF_len (f : FunD) (j : Int) : (predsF f j).length ≤ f.blocks.length := predsK_len _ _ _ _

set_option maxRecDepth 10000 in
set_option maxHeartbeats 2000000 in
theorem sFunOk_any (f : FunD) (v : Value) (w : World) (Z : Zn) (hv : EFun w Z f v) (hD : ∀ b, Z.D b → b < w.heap.size) (hn : f.blocks.length ≤ 1048576) : Calls Tryz.prog 32 #[v] w (GivesB (FunP f) w) := by
  have HF := Lib.hid hv
  obtain ⟨u, rfl, hu⟩ := hv
  obtain ⟨_, A, c, rfl, hx⟩ := hu
  go_enter Tryz.func32, Tryz.ntmps32
  go_wp2_with fail
  refine (l2Frame_any f _ _ Z (HF.out.keep (Kept.below ((Below.refl _ _).alloc (Nat.le_refl _) _) hD)) (fun b hb => by have := hD b hb; simp; omega)).mono ?_
  rintro e w1 ⟨r, rfl, hr, hb1⟩
  have HR := Lib.hid hr
  have HB1 := Lib.hid (hb1.mono (B' := w.heap.size + 1) (by simp))
  have HB01 : Hid (Below w.heap.size w w1) := ((Below.refl _ _).alloc (Nat.le_refl _) _).trans (HB1.out.mono (by omega))
  have hz1 : w.heap.size + 1 ≤ w1.heap.size := by have := hb1.size; simp at this; omega
  obtain ⟨hc1, hf1⟩ := bcellB HB1.out
  clear hb1 hf1 hr
  cases r
  · have HN : Hid (¬ FunP f) := fun h => by have := HR.out.2 h.1; cases this
    go_wp2_with fail
    go_ret
    exact gives_no HN.out HB01.out
  have HP := Lib.hid (HR.out.1 rfl)
  clear HR
  go_wp2_with fail
  refine (l2Preds_any f _ 0 _ Z (HF.out.keep (Kept.below HB01.out hD)) (fun b hb => by have := hD b hb; omega) hn).mono ?_
  rintro e w2 ⟨r, rfl, hr, hb2⟩
  have HB2 := Lib.hid (HB1.out.trans (hb2.mono hz1))
  have HB02 : Hid (Below w.heap.size w w2) := ((Below.refl _ _).alloc (Nat.le_refl _) _).trans (HB2.out.mono (by omega))
  obtain ⟨hle2, A2, c2, rfl, _⟩ := hr.ri
  have hz2 : w.heap.size + 1 ≤ w2.heap.size := by have := hb2.size; omega
  obtain ⟨hc2, hf2⟩ := bcellB (hb2.mono hz1)
  clear hb2 hf2 hr
  by_cases hp0 : predsF f 0 = []
  case neg =>
    have HN : Hid (¬ FunP f) := fun h => hp0 h.2.1
    have hp0' : decide (0 < (predsF f 0).length) = true := by simpa using List.length_pos_iff.2 hp0
    clear hp0
    go_wp2_with fail
    go_ret
    exact gives_no HN.out HB02.out
  have hp0' : decide (0 < (predsF f 0).length) = false := by rw [hp0]; simp
  have HP0 := Lib.hid hp0
  clear hp0
  have h1n := HP.out.1.1
  have h40 := HP.out.1.2
  have hxk : f.blocks[0]? = some f.blocks[0] := List.getElem?_eq_getElem h1n
  generalize f.blocks[0] = x at hxk
  have HX := Lib.hid hx
  obtain ⟨b, off, rfl, hDb, hrow⟩ := hx (by intro h; rw [h] at h1n; simp at h1n)
  obtain ⟨cs, hE, hcs⟩ := hrow 0 x hxk
  have hbl := hD b hDb
  obtain ⟨_, _, _, _, rfl, ⟨_, A0, c0, rfl, _⟩, _⟩ := hE
  have c0 : w.cell? ⟨b, off, none⟩ = some (.slice A0 x.phis.length c0) := by have := (hcs 0 _ rfl).1; simpa using this
  have Hxk := Lib.hid hxk
  have h1n' : 0 < (f.blocks.length : Int) := by omega
  clear hcs hrow hxk
  by_cases hph : x.phis = []
  case neg =>
    have HN : Hid (¬ FunP f) := fun h => hph (h.2.2.1 x Hxk.out)
    have hp0' : decide (0 < x.phis.length) = true := by simpa using List.length_pos_iff.2 hph
    clear hph
    go_wp2_with fail
    go_ret
    exact gives_no HN.out HB02.out
  have hph' : decide (0 < x.phis.length) = false := by rw [hph]; simp
  have HPH : Hid (∀ y, f.blocks[0]? = some y → y.phis = []) := fun y hy => by
    rw [Hxk.out] at hy
    injection hy with hy
    subst hy
    exact hph
  clear hph
  go_wp2_with fail
  clear hc1 hc2 c0
  go_loopw [3] (fun i wr => ∃ k : Nat, k ≤ f.blocks.length ∧ i = .int .i64 k ∧ Hid (Below (w.heap.size + 1) (w.alloc (.cells #[.int .i64 f.params, .int .i64 f.names, .slice (some ⟨b, off, none⟩) f.blocks.length c] 26)) wr) ∧ Hid (∀ (j : Nat) y, j < k → f.blocks[j]? = some y → PhisP f.names (predsF f j).length y.phis)) (fun i _ => f.blocks.length - (intOf i).toNat)
  case atStart => exact ⟨0, Nat.zero_le _, rfl, HB2.out, fun _ _ h => absurd h (by omega)⟩
  case round =>
    obtain ⟨k, hk, rfl, HB, H1⟩ := hrel
    have HB0 : Hid (Below w.heap.size w wr) := ((Below.refl _ _).alloc (Nat.le_refl _) _).trans (HB.out.mono (by omega))
    have hzw : w.heap.size + 1 ≤ wr.heap.size := by have := HB.out.size; simp at this; omega
    have f0 : wr.cell? ⟨w.heap.size, 0, none⟩ = some (.int .i64 f.params) := (HB.out.cell (p := ⟨w.heap.size, 0, none⟩) (by simp)).trans (by go_simp)
    have f1 : wr.cell? ⟨w.heap.size, 1, none⟩ = some (.int .i64 f.names) := (HB.out.cell (p := ⟨w.heap.size, 1, none⟩) (by simp)).trans (by go_simp)
    have f2 : wr.cell? ⟨w.heap.size, 2, none⟩ = some (.slice (some ⟨b, off, none⟩) f.blocks.length c) := (HB.out.cell (p := ⟨w.heap.size, 2, none⟩) (by simp)).trans (by go_simp)
    by_cases hlt : k < f.blocks.length
    case neg =>
      obtain rfl : k = f.blocks.length := by omega
      go_wp2
      go_ret
      exact gives_yes ⟨HP.out, HP0.out, HPH.out, fun j y hy => H1.out j y (List.getElem?_eq_some_iff.1 hy).1 hy⟩ HB0.out
    have hyk : f.blocks[k]? = some f.blocks[k] := List.getElem?_eq_getElem hlt
    generalize f.blocks[k] = y at hyk
    obtain ⟨b', off', he, hDb', hrow⟩ := HX.out (by intro h; rw [h] at hlt; simp at hlt)
    injection he with he
    injection he with hb' ho'
    subst hb' ho'
    obtain ⟨cs, hE, hcs⟩ := hrow k y hyk
    obtain ⟨_, _, _, _, rfl, hv0, _⟩ := hE
    have HV0 := Lib.hid (hv0.keep (Kept.below HB0.out hD) fun _ _ h => h.keep (Kept.below HB0.out hD))
    obtain ⟨_, A0, cy, rfl, _⟩ := hv0
    have c0 : wr.cell? ⟨b, off + k * 8, none⟩ = some (.slice A0 y.phis.length cy) := (HB0.out.cell (p := ⟨b, _, none⟩) hbl).trans (hcs 0 _ rfl).1
    have Hyk := Lib.hid hyk
    have hbw : b < wr.heap.size := by omega
    have hfw : w.heap.size < wr.heap.size := by omega
    have h3a := HP.out.2.1.1
    have h3b := HP.out.2.1.2
    clear hcs hyk hrow
    have keepS : ∀ w1 : World, Below wr.heap.size wr w1 → (fun w' => Below wr.heap.size wr w' ∧ w'.cell? ⟨w.heap.size, 0, none⟩ = some (.int .i64 f.params) ∧ w'.cell? ⟨w.heap.size, 1, none⟩ = some (.int .i64 f.names) ∧ w'.cell? ⟨w.heap.size, 2, none⟩ = some (.slice (some ⟨b, off, none⟩) f.blocks.length c) ∧ w'.cell? ⟨b, off + k * 8, none⟩ = some (.slice A0 y.phis.length cy)) w1 :=
      fun w1 hb => ⟨hb, (hb.cell (p := ⟨w.heap.size, 0, none⟩) hfw).trans f0, (hb.cell (p := ⟨w.heap.size, 1, none⟩) hfw).trans f1, (hb.cell (p := ⟨w.heap.size, 2, none⟩) hfw).trans f2, (hb.cell (p := ⟨b, _, none⟩) hbw).trans c0⟩
    have K := keepS _ (Below.refl _ _)
    have Kd := keepS _ below_drew
    go_wp2_with fail
    go_region_held3 (fun w' => Below wr.heap.size wr w' ∧ w'.cell? ⟨w.heap.size, 0, none⟩ = some (.int .i64 f.params) ∧ w'.cell? ⟨w.heap.size, 1, none⟩ = some (.int .i64 f.names) ∧ w'.cell? ⟨w.heap.size, 2, none⟩ = some (.slice (some ⟨b, off, none⟩) f.blocks.length c) ∧ w'.cell? ⟨b, off + k * 8, none⟩ = some (.slice A0 y.phis.length cy)) (first | exact Kd | exact K | exact K5 | exact K6 | fail)
      (first
      | (go_at_call 60; have := (show _ ∧ _ by assumption); refine (l2Preds_any f _ k _ Z (HF.out.keep ((Kept.below HB0.out hD).trans (Kept.below this.1 fun b hb => by have h1 := hD b hb; omega))) (fun b hb => by have h1 := hD b hb; have h2 := this.1.size; omega) hn).mono ?_; rintro e w5 ⟨r, rfl, hr, hb5⟩; obtain ⟨hle5, A5, c5, rfl, _⟩ := hr.ri; have K5 := keepS _ (this.1.trans (hb5.mono this.1.size)); clear hr hb5 this)
      | (go_at_call 61; have := (show _ ∧ _ by assumption); refine (l2Phis_any _ y.phis f.names (predsF f k).length _ Z (HV0.out.keep (Kept.below this.1 fun b hb => by have h1 := hD b hb; omega) fun _ _ h => h.keep (Kept.below this.1 fun b hb => by have h1 := hD b hb; omega)) h3a h3b).mono ?_; rintro e w6 ⟨r6, rfl, hr6, hb6⟩; have HR6 := Lib.hid hr6; have K6 := keepS _ (this.1.trans (hb6.mono this.1.size)); clear hr6 hb6 this))
    have HB6 := Lib.hid (HB.out.trans (K6.1.mono hzw))
    have HB06 : Hid (Below w.heap.size w w6) := ((Below.refl _ _).alloc (Nat.le_refl _) _).trans (HB6.out.mono (by omega))
    clear K Kd K5 K6 keepS
    cases r6
    · have HN : Hid (¬ FunP f) := fun h => by have := HR6.out.2 (h.2.2.2 k y Hyk.out); cases this
      go_wp2_with fail
      go_ret
      exact gives_no HN.out HB06.out
    · have HP6 := Lib.hid (HR6.out.1 rfl)
      have H1' : Hid (∀ (j : Nat) z, j < k + 1 → f.blocks[j]? = some z → PhisP f.names (predsF f j).length z.phis) := fun j z hj hz => by
        by_cases hjk : j = k
        · subst hjk
          rw [Hyk.out] at hz
          injection hz with hz
          subst hz
          exact HP6.out
        · exact H1.out j z (by omega) hz
      clear HR6
      go_wp2_with fail
      go_roundw
      case rel => exact ⟨k + 1, by omega, by go_num, HB6, H1'⟩
      case measure => simp [intOf]; omega

/-- What PredsOf answers. -/
def PredsRes (f : FunD) (j : Int) (xs : List Int) : Prop := (FunP f ∧ isBelowB j f.blocks.length = true ∧ xs = predsF f j) ∨ (¬ (FunP f ∧ isBelowB j f.blocks.length = true) ∧ xs = [])
theorem PredsRes.one {f : FunD} {j : Int} {xs ys : List Int} (h : PredsRes f j xs) (k : PredsRes f j ys) : xs = ys := by
  rcases h with ⟨h1, h2, rfl⟩ | ⟨h1, rfl⟩ <;> rcases k with ⟨k1, k2, rfl⟩ | ⟨k1, rfl⟩
  · rfl
  · exact absurd ⟨h1, h2⟩ k1
  · exact absurd ⟨k1, k2⟩ h1
  · rfl
theorem PredsRes.len {f : FunD} {j : Int} {xs : List Int} (h : PredsRes f j xs) : xs.length ≤ f.blocks.length := by
  rcases h with ⟨_, _, rfl⟩ | ⟨_, rfl⟩
  · exact predsF_len f j
  · simp
def GivesPreds (f : FunD) (j : Int) (w : World) (e : Ending) (w' : World) : Prop := ∃ xs r, e = .returned r ∧ PredsRes f j xs ∧ OI w' w.heap.size r xs ∧ Below w.heap.size w w'
end

/- FunOk and PredsOf of the program. -/
section
open Go.ChangeShapes Go.WideShapes Go.ChangeAt Go.RowKit Go.Joins

def predsI (f : FunD) (j : Int) : List Int := predsK succsE f.blocks f.blocks.length j
theorem predsI_len (f : FunD) (j : Int) : (predsI f j).length ≤ f.blocks.length := predsK_len _ _ _ _
theorem predsI_eq {f : FunD} (h : ∀ (j : Nat) x, f.blocks[j]? = some x → endOkB x.fin.k x.fin.a x.fin.t x.fin.l = true) (j : Int) : predsI f j = predsF f j :=
  predsK_congr (fun i x hx => by show succsL _ _ _ _ = toL _ _ _; simp [succsL, h i x hx]) _ _
theorem funP_of {f : FunD} (hh : FrameHead f) (h0 : ∀ x, f.blocks[0]? = some x → x.phis = []) (hp : predsI f 0 = []) (hall : ∀ (j : Nat) x, f.blocks[j]? = some x → BlockAll f.names f.blocks.length (predsI f j).length x) : FunP f := by
  have hE := predsI_eq (f := f) fun j x hx => (hall j x hx).2.1.1
  refine ⟨⟨hh.1, hh.2.1, hh.2.2.1, hh.2.2.2, fun j x hx => (hall j x hx).2⟩, (hE 0).symm.trans hp, h0, fun i x hx => ?_⟩
  rw [← hE]; exact (hall i x hx).1
theorem funP_preds {f : FunD} (h : FunP f) (j : Int) : predsI f j = predsF f j := predsI_eq (fun j x hx => (h.1.2.2.2.2 j x hx).1.1) j
theorem funP_block {f : FunD} (h : FunP f) {j : Nat} {x : BlockD} (hx : f.blocks[j]? = some x) : BlockAll f.names f.blocks.length (predsI f j).length x :=
  ⟨by rw [funP_preds h]; exact h.2.2.2 j x hx, h.1.2.2.2.2 j x hx⟩

set_option maxRecDepth 10000 in
set_option maxHeartbeats 2000000 in
theorem FunOk_any (f : FunD) (v : Value) (w : World) (Z : Zn) (hv : EFun w Z f v) (hD : ∀ b, Z.D b → b < w.heap.size) (hn : f.blocks.length ≤ 1048576) : Calls Tryz.prog 23 #[v] w (GivesB (FunP f) w) := by
  have HF := Lib.hid hv
  obtain ⟨u, rfl, hu⟩ := hv
  obtain ⟨hle, A, c, rfl, hx⟩ := hu
  go_enter Tryz.func23, Tryz.ntmps23
  go_wp2_with fail
  refine (sizesOk_any f _ _ _ hle).mono ?_
  rintro e w1 ⟨r, rfl, hr, hb1⟩
  have HR := Lib.hid hr
  have HB1 := Lib.hid (hb1.mono (B' := w.heap.size + 1) (by simp))
  have HB01 : Hid (Below w.heap.size w w1) := ((Below.refl _ _).alloc (Nat.le_refl _) _).trans (HB1.out.mono (by omega))
  have hz1 : w.heap.size + 1 ≤ w1.heap.size := by have := hb1.size; simp at this; omega
  obtain ⟨hc1, hf1⟩ := bcellB HB1.out
  clear hb1 hf1 hr
  cases r
  · have HN : Hid (¬ FunP f) := fun h => by have := HR.out.2 h.1.head; cases this
    go_wp2_with fail
    go_ret
    exact gives_no HN.out HB01.out
  have HP := Lib.hid (HR.out.1 rfl)
  clear HR
  have h1n := HP.out.1.1
  have h40 := HP.out.1.2
  have hxk : f.blocks[0]? = some f.blocks[0] := List.getElem?_eq_getElem h1n
  generalize f.blocks[0] = x at hxk
  have HX := Lib.hid hx
  obtain ⟨b, off, rfl, hDb, hrow⟩ := hx (by intro h; rw [h] at h1n; simp at h1n)
  obtain ⟨cs, hE, hcs⟩ := hrow 0 x hxk
  have hbl := hD b hDb
  obtain ⟨_, _, _, _, rfl, ⟨_, A0, c0, rfl, _⟩, _⟩ := hE
  have c0 : w.cell? ⟨b, off, none⟩ = some (.slice A0 x.phis.length c0) := by have := (hcs 0 _ rfl).1; simpa using this
  have Hxk := Lib.hid hxk
  have h1n' : 0 < (f.blocks.length : Int) := by omega
  clear hcs hrow hxk
  by_cases hph : x.phis = []
  case neg =>
    have HN : Hid (¬ FunP f) := fun h => hph (h.2.2.1 x Hxk.out)
    have hp0' : decide (0 < x.phis.length) = true := by simpa using List.length_pos_iff.2 hph
    clear hph
    go_wp2_with fail
    go_ret
    exact gives_no HN.out HB01.out
  have hph' : decide (0 < x.phis.length) = false := by rw [hph]; simp
  have HPH : Hid (∀ y, f.blocks[0]? = some y → y.phis = []) := fun y hy => by
    rw [Hxk.out] at hy
    injection hy with hy
    subst hy
    exact hph
  clear hph
  go_wp2_with fail
  refine (predsOfAll_any _ f.blocks _ Z (HF.out.row.keep (Kept.below HB01.out hD) fun _ _ h => h.keep (Kept.below HB01.out hD)) (fun b hb => by have := hD b hb; omega) hn).mono ?_
  rintro e w2 ⟨rfl, hp2, hb2⟩
  have hp2' : PRow w2 (w1.heap.size + 1) w1.heap.size f.blocks.length fun j => predsI f j := hp2
  have HB2 := Lib.hid (HB1.out.trans (hb2.mono hz1))
  have HB02 : Hid (Below w.heap.size w w2) := ((Below.refl _ _).alloc (Nat.le_refl _) _).trans (HB2.out.mono (by omega))
  have hz2 := hb2.size
  have HP2 := Lib.hid hp2'
  have hG2 := hp2.lt
  obtain ⟨hc2, hf2⟩ := bcellB (hb2.mono hz1)
  obtain ⟨v0, hv0, ho0⟩ := hp2'.get h1n
  obtain ⟨_, A2, c2, rfl, _⟩ := ho0.ri
  have el0 : (predsI f ((0 : Nat) : Int)).length = (predsI f 0).length := rfl
  rw [el0] at hv0
  clear hb2 hf2 hp2 hp2' ho0 el0
  by_cases hp0 : predsI f 0 = []
  case neg =>
    have HN : Hid (¬ FunP f) := fun h => hp0 ((funP_preds h 0).trans h.2.1)
    have hp0' : decide (0 < (predsI f 0).length) = true := by simpa using List.length_pos_iff.2 hp0
    clear hp0
    go_wp2_with fail
    go_ret
    exact gives_no HN.out HB02.out
  have hp0' : decide (0 < (predsI f 0).length) = false := by rw [hp0]; simp
  have HP0 := Lib.hid hp0
  clear hp0
  go_wp2_with fail
  clear hc1 hc2 c0 hv0
  go_loopw [29] (fun i wr => ∃ k : Nat, k ≤ f.blocks.length ∧ i = .int .i64 k ∧ Hid (Below (w.heap.size + 1) (w.alloc (.cells #[.int .i64 f.params, .int .i64 f.names, .slice (some ⟨b, off, none⟩) f.blocks.length c] 26)) wr) ∧ w1.heap.size < wr.heap.size ∧ Hid (PRow wr (w1.heap.size + 1) w1.heap.size f.blocks.length (fun j => predsI f j)) ∧ Hid (∀ (j : Nat) y, j < k → f.blocks[j]? = some y → BlockAll f.names f.blocks.length (predsI f j).length y)) (fun i _ => f.blocks.length - (intOf i).toNat)
  case atStart => exact ⟨0, Nat.zero_le _, rfl, HB2.out, hG2, HP2.out, fun _ _ h => absurd h (by omega)⟩
  case round =>
    obtain ⟨k, hk, rfl, HB, hgr, HPr, H1⟩ := hrel
    have HB0 : Hid (Below w.heap.size w wr) := ((Below.refl _ _).alloc (Nat.le_refl _) _).trans (HB.out.mono (by omega))
    have hzw : w.heap.size + 1 ≤ wr.heap.size := by have := HB.out.size; simp at this; omega
    have f1 : wr.cell? ⟨w.heap.size, 1, none⟩ = some (.int .i64 f.names) := (HB.out.cell (p := ⟨w.heap.size, 1, none⟩) (by simp)).trans (by go_simp)
    have f2 : wr.cell? ⟨w.heap.size, 2, none⟩ = some (.slice (some ⟨b, off, none⟩) f.blocks.length c) := (HB.out.cell (p := ⟨w.heap.size, 2, none⟩) (by simp)).trans (by go_simp)
    by_cases hlt : k < f.blocks.length
    case neg =>
      obtain rfl : k = f.blocks.length := by omega
      go_wp2
      go_ret
      exact gives_yes (funP_of HP.out HPH.out HP0.out fun j y hy => H1.out j y (List.getElem?_eq_some_iff.1 hy).1 hy) HB0.out
    have hyk : f.blocks[k]? = some f.blocks[k] := List.getElem?_eq_getElem hlt
    generalize f.blocks[k] = y at hyk
    obtain ⟨b', off', he, hDb', hrow⟩ := HX.out (by intro h; rw [h] at hlt; simp at hlt)
    injection he with he
    injection he with hb' ho'
    subst hb' ho'
    obtain ⟨cs, hE, hcs⟩ := hrow k y hyk
    have HEr := Lib.hid (hE.keep (Kept.below HB0.out hD))
    obtain ⟨A3, q3, A4, q4, A5, q5, A6, q6, rfl, _⟩ := hE.parts
    have c0 : wr.cell? ⟨b, off + k * 8, none⟩ = some (.slice A3 y.phis.length q3) := (HB0.out.cell (p := ⟨b, _, none⟩) hbl).trans (hcs 0 _ rfl).1
    have c1 : wr.cell? ⟨b, off + k * 8 + 1, none⟩ = some (.slice A4 y.head.length q4) := (HB0.out.cell (p := ⟨b, _, none⟩) hbl).trans (hcs 1 _ rfl).1
    have c2 : wr.cell? ⟨b, off + k * 8 + 2, none⟩ = some (.slice A5 y.body.length q5) := (HB0.out.cell (p := ⟨b, _, none⟩) hbl).trans (hcs 2 _ rfl).1
    have c3 : wr.cell? ⟨b, off + k * 8 + 3, none⟩ = some (.slice A6 y.tail.length q6) := (HB0.out.cell (p := ⟨b, _, none⟩) hbl).trans (hcs 3 _ rfl).1
    have c4 : wr.cell? ⟨b, off + k * 8 + 4, none⟩ = some (.int .i64 y.fin.k) := (HB0.out.cell (p := ⟨b, _, none⟩) hbl).trans (hcs 4 _ rfl).1
    have c5 : wr.cell? ⟨b, off + k * 8 + 5, none⟩ = some (.int .i64 y.fin.a) := (HB0.out.cell (p := ⟨b, _, none⟩) hbl).trans (hcs 5 _ rfl).1
    have c6 : wr.cell? ⟨b, off + k * 8 + 6, none⟩ = some (.int .i64 y.fin.t) := (HB0.out.cell (p := ⟨b, _, none⟩) hbl).trans (hcs 6 _ rfl).1
    have c7 : wr.cell? ⟨b, off + k * 8 + 7, none⟩ = some (.int .i64 y.fin.l) := (HB0.out.cell (p := ⟨b, _, none⟩) hbl).trans (hcs 7 _ rfl).1
    obtain ⟨v8, hv8, ho8⟩ := HPr.out.get hlt
    obtain ⟨_, A8, q8, rfl, _⟩ := ho8.ri
    have hpl := predsI_len f k
    have Hyk := Lib.hid hyk
    have hlt' : (k : Int) < (f.blocks.length : Int) := by omega
    have hk0 : 0 ≤ (k : Int) := by omega
    clear hcs hyk hrow hE ho8
    go_wp2_with fail
    have d0 : (wr.alloc (.cells #[.slice A3 y.phis.length q3, .slice A4 y.head.length q4, .slice A5 y.body.length q5, .slice A6 y.tail.length q6, .int .i64 y.fin.k, .int .i64 y.fin.a, .int .i64 y.fin.t, .int .i64 y.fin.l] 60)).cell? ⟨wr.heap.size, 0, none⟩ = some (.slice A3 y.phis.length q3) := by go_simp
    have d1 : (wr.alloc (.cells #[.slice A3 y.phis.length q3, .slice A4 y.head.length q4, .slice A5 y.body.length q5, .slice A6 y.tail.length q6, .int .i64 y.fin.k, .int .i64 y.fin.a, .int .i64 y.fin.t, .int .i64 y.fin.l] 60)).cell? ⟨wr.heap.size, 1, none⟩ = some (.slice A4 y.head.length q4) := by go_simp
    have d2 : (wr.alloc (.cells #[.slice A3 y.phis.length q3, .slice A4 y.head.length q4, .slice A5 y.body.length q5, .slice A6 y.tail.length q6, .int .i64 y.fin.k, .int .i64 y.fin.a, .int .i64 y.fin.t, .int .i64 y.fin.l] 60)).cell? ⟨wr.heap.size, 2, none⟩ = some (.slice A5 y.body.length q5) := by go_simp
    have d3 : (wr.alloc (.cells #[.slice A3 y.phis.length q3, .slice A4 y.head.length q4, .slice A5 y.body.length q5, .slice A6 y.tail.length q6, .int .i64 y.fin.k, .int .i64 y.fin.a, .int .i64 y.fin.t, .int .i64 y.fin.l] 60)).cell? ⟨wr.heap.size, 3, none⟩ = some (.slice A6 y.tail.length q6) := by go_simp
    have d4 : (wr.alloc (.cells #[.slice A3 y.phis.length q3, .slice A4 y.head.length q4, .slice A5 y.body.length q5, .slice A6 y.tail.length q6, .int .i64 y.fin.k, .int .i64 y.fin.a, .int .i64 y.fin.t, .int .i64 y.fin.l] 60)).cell? ⟨wr.heap.size, 4, none⟩ = some (.int .i64 y.fin.k) := by go_simp
    have d5 : (wr.alloc (.cells #[.slice A3 y.phis.length q3, .slice A4 y.head.length q4, .slice A5 y.body.length q5, .slice A6 y.tail.length q6, .int .i64 y.fin.k, .int .i64 y.fin.a, .int .i64 y.fin.t, .int .i64 y.fin.l] 60)).cell? ⟨wr.heap.size, 5, none⟩ = some (.int .i64 y.fin.a) := by go_simp
    have d6 : (wr.alloc (.cells #[.slice A3 y.phis.length q3, .slice A4 y.head.length q4, .slice A5 y.body.length q5, .slice A6 y.tail.length q6, .int .i64 y.fin.k, .int .i64 y.fin.a, .int .i64 y.fin.t, .int .i64 y.fin.l] 60)).cell? ⟨wr.heap.size, 6, none⟩ = some (.int .i64 y.fin.t) := by go_simp
    have d7 : (wr.alloc (.cells #[.slice A3 y.phis.length q3, .slice A4 y.head.length q4, .slice A5 y.body.length q5, .slice A6 y.tail.length q6, .int .i64 y.fin.k, .int .i64 y.fin.a, .int .i64 y.fin.t, .int .i64 y.fin.l] 60)).cell? ⟨wr.heap.size, 7, none⟩ = some (.int .i64 y.fin.l) := by go_simp
    have hBW : Below wr.heap.size wr (wr.alloc (.cells #[.slice A3 y.phis.length q3, .slice A4 y.head.length q4, .slice A5 y.body.length q5, .slice A6 y.tail.length q6, .int .i64 y.fin.k, .int .i64 y.fin.a, .int .i64 y.fin.t, .int .i64 y.fin.l] 60)) := (Below.refl _ _).alloc (Nat.le_refl _) _
    have hsW : (wr.alloc (.cells #[.slice A3 y.phis.length q3, .slice A4 y.head.length q4, .slice A5 y.body.length q5, .slice A6 y.tail.length q6, .int .i64 y.fin.k, .int .i64 y.fin.a, .int .i64 y.fin.t, .int .i64 y.fin.l] 60)).heap.size = wr.heap.size + 1 := by simp
    generalize wr.alloc (.cells #[.slice A3 y.phis.length q3, .slice A4 y.head.length q4, .slice A5 y.body.length q5, .slice A6 y.tail.length q6, .int .i64 y.fin.k, .int .i64 y.fin.a, .int .i64 y.fin.t, .int .i64 y.fin.l] 60) = W2 at *
    have HBW := Lib.hid hBW
    have hrw : wr.heap.size < W2.heap.size := by omega
    have hgw : w1.heap.size < W2.heap.size := by omega
    have hfw : w.heap.size < W2.heap.size := by omega
    have e1 := (hBW.cell (p := ⟨w.heap.size, 1, none⟩) (by show w.heap.size < _; omega)).trans f1
    have e2 := (hBW.cell (p := ⟨w.heap.size, 2, none⟩) (by show w.heap.size < _; omega)).trans f2
    have e3 := (hBW.cell (p := ⟨w1.heap.size, k, none⟩) hgr).trans hv8
    have h150 := HP.out.2.1.2
    clear hBW hsW c0 c1 c2 c3 c4 c5 c6 c7 f1 f2 hv8
    have keepS : ∀ w5 : World, Below W2.heap.size W2 w5 → (fun w' => Below W2.heap.size W2 w' ∧ w'.cell? ⟨w.heap.size, 1, none⟩ = some (.int .i64 f.names) ∧ w'.cell? ⟨w.heap.size, 2, none⟩ = some (.slice (some ⟨b, off, none⟩) f.blocks.length c) ∧ w'.cell? ⟨w1.heap.size, k, none⟩ = some (.slice A8 (predsI f k).length q8) ∧ w'.cell? ⟨wr.heap.size, 0, none⟩ = some (.slice A3 y.phis.length q3) ∧ w'.cell? ⟨wr.heap.size, 1, none⟩ = some (.slice A4 y.head.length q4) ∧ w'.cell? ⟨wr.heap.size, 2, none⟩ = some (.slice A5 y.body.length q5) ∧ w'.cell? ⟨wr.heap.size, 3, none⟩ = some (.slice A6 y.tail.length q6) ∧ w'.cell? ⟨wr.heap.size, 4, none⟩ = some (.int .i64 y.fin.k) ∧ w'.cell? ⟨wr.heap.size, 5, none⟩ = some (.int .i64 y.fin.a) ∧ w'.cell? ⟨wr.heap.size, 6, none⟩ = some (.int .i64 y.fin.t) ∧ w'.cell? ⟨wr.heap.size, 7, none⟩ = some (.int .i64 y.fin.l)) w5 := fun w5 hb => ⟨hb, (hb.cell (p := ⟨w.heap.size, 1, none⟩) hfw).trans e1, (hb.cell (p := ⟨w.heap.size, 2, none⟩) hfw).trans e2, (hb.cell (p := ⟨w1.heap.size, k, none⟩) hgw).trans e3, (hb.cell (p := ⟨wr.heap.size, 0, none⟩) hrw).trans d0, (hb.cell (p := ⟨wr.heap.size, 1, none⟩) hrw).trans d1, (hb.cell (p := ⟨wr.heap.size, 2, none⟩) hrw).trans d2, (hb.cell (p := ⟨wr.heap.size, 3, none⟩) hrw).trans d3, (hb.cell (p := ⟨wr.heap.size, 4, none⟩) hrw).trans d4, (hb.cell (p := ⟨wr.heap.size, 5, none⟩) hrw).trans d5, (hb.cell (p := ⟨wr.heap.size, 6, none⟩) hrw).trans d6, (hb.cell (p := ⟨wr.heap.size, 7, none⟩) hrw).trans d7⟩
    have K := keepS _ (Below.refl _ _)
    have Kd := keepS _ below_drew
    clear d0 d1 d2 d3 d4 d5 d6 d7 e1 e2 e3
    go_region_held3 (fun w' => Below W2.heap.size W2 w' ∧ w'.cell? ⟨w.heap.size, 1, none⟩ = some (.int .i64 f.names) ∧ w'.cell? ⟨w.heap.size, 2, none⟩ = some (.slice (some ⟨b, off, none⟩) f.blocks.length c) ∧ w'.cell? ⟨w1.heap.size, k, none⟩ = some (.slice A8 (predsI f k).length q8) ∧ w'.cell? ⟨wr.heap.size, 0, none⟩ = some (.slice A3 y.phis.length q3) ∧ w'.cell? ⟨wr.heap.size, 1, none⟩ = some (.slice A4 y.head.length q4) ∧ w'.cell? ⟨wr.heap.size, 2, none⟩ = some (.slice A5 y.body.length q5) ∧ w'.cell? ⟨wr.heap.size, 3, none⟩ = some (.slice A6 y.tail.length q6) ∧ w'.cell? ⟨wr.heap.size, 4, none⟩ = some (.int .i64 y.fin.k) ∧ w'.cell? ⟨wr.heap.size, 5, none⟩ = some (.int .i64 y.fin.a) ∧ w'.cell? ⟨wr.heap.size, 6, none⟩ = some (.int .i64 y.fin.t) ∧ w'.cell? ⟨wr.heap.size, 7, none⟩ = some (.int .i64 y.fin.l)) (first | exact Kd | exact K | exact K5 | fail)
      (first
      | (go_at_call 47; have := (show _ ∧ _ by assumption); refine (ok_any y _ f.names f.blocks.length (predsI f k).length _ Z (HEr.out.keep ((Kept.below HBW.out fun b hb => by have h1 := hD b hb; omega).trans (Kept.below this.1 fun b hb => by have h1 := hD b hb; omega))) (fun b hb => by have h1 := hD b hb; have h2 := this.1.size; omega) h150 h1n).mono ?_; rintro e w5 ⟨r5, rfl, hr5, hb5⟩; have HR5 := Lib.hid hr5; have K5 := keepS _ (this.1.trans (hb5.mono this.1.size)); clear hr5 hb5 this))
    have HB5 := Lib.hid ((HB.out.trans (HBW.out.mono hzw)).trans (K5.1.mono (by omega)))
    have HB05 : Hid (Below w.heap.size w w5) := ((Below.refl _ _).alloc (Nat.le_refl _) _).trans (HB5.out.mono (by omega))
    have HPn : Hid (PRow w5 (w1.heap.size + 1) w1.heap.size f.blocks.length (fun j => predsI f j)) := HPr.out.below (HBW.out.trans (K5.1.mono (by omega)))
    have hz5 := K5.1.size
    clear K Kd K5 keepS
    cases r5
    · have HN : Hid (¬ FunP f) := fun h => by have := HR5.out.2 (funP_block h Hyk.out); cases this
      go_wp2_with fail
      go_ret
      exact gives_no HN.out HB05.out
    · have HPs := Lib.hid (HR5.out.1 rfl)
      have H1' : Hid (∀ (j : Nat) z, j < k + 1 → f.blocks[j]? = some z → BlockAll f.names f.blocks.length (predsI f j).length z) := fun j z hj hz => by
        by_cases hjk : j = k
        · subst hjk
          rw [Hyk.out] at hz
          injection hz with hz
          subst hz
          exact HPs.out
        · exact H1.out j z (by omega) hz
      clear HR5
      go_wp2_with fail
      go_roundw
      case rel => exact ⟨k + 1, by omega, by go_num, HB5, by omega, HPn, H1'⟩
      case measure => simp [intOf]; omega
end

/- A walk through a graph in depth, and what is reached: lists alone. -/
section

/-- How many are false. -/
def cf (s : List Bool) : Nat := s.count false
theorem cf_le (s : List Bool) : cf s ≤ s.length := List.count_le_length
theorem cf_set : ∀ {s : List Bool} {k : Nat}, s[k]? = some false → cf (s.set k true) + 1 = cf s
  | [], k, h => by simp at h
  | a :: s, 0, h => by
    simp at h
    subst h
    simp [cf]
  | a :: s, k + 1, h => by
    have := cf_set (s := s) (k := k) (by simpa using h)
    unfold cf at this ⊢
    simp only [List.set_cons_succ, List.count_cons]
    omega
theorem cf_pos {s : List Bool} {k : Nat} (h : s[k]? = some false) : 1 ≤ cf s := by
  have := cf_set h
  omega
theorem set_get_self {s : List Bool} {k : Nat} (h : k < s.length) (b : Bool) : (s.set k b)[k]? = some b := by
  rw [List.getElem?_set_self (by simpa using h)]
theorem set_get_other {s : List Bool} {k j : Nat} (h : k ≠ j) (b : Bool) : (s.set k b)[j]? = s[j]? := by
  rw [List.getElem?_set_ne h]

/-- Has t been seen? -/
def seenAt (s : List Bool) (t : Int) : Bool := s.getD t.toNat true
theorem seenAt_of {s : List Bool} {t : Nat} {b : Bool} (h : s[t]? = some b) : seenAt s t = b := by
  unfold seenAt
  rw [Int.toNat_natCast, List.getD_eq_getElem?_getD, h]; rfl

/-- From b on, with fuel: who has been seen, and all that are finished, in order. -/
def dfs (sc : Int → List Int) : Nat → Int → List Bool × List Int → List Bool × List Int
  | 0, _, st => st
  | n + 1, b, st =>
    let r := (sc b).foldl (fun s t => if seenAt s.1 t = true then s else dfs sc n t s) (st.1.set b.toNat true, st.2)
    (r.1, r.2 ++ [b])
def dstep (sc : Int → List Int) (n : Nat) (s : List Bool × List Int) (t : Int) : List Bool × List Int := if seenAt s.1 t = true then s else dfs sc n t s
def dlist (sc : Int → List Int) (n : Nat) (ts : List Int) (s : List Bool × List Int) : List Bool × List Int := ts.foldl (dstep sc n) s
theorem dfs_succ (sc : Int → List Int) (n : Nat) (b : Int) (st : List Bool × List Int) : dfs sc (n + 1) b st = ((dlist sc n (sc b) (st.1.set b.toNat true, st.2)).1, (dlist sc n (sc b) (st.1.set b.toNat true, st.2)).2 ++ [b]) := rfl
theorem dlist_nil (sc : Int → List Int) (n : Nat) (s : List Bool × List Int) : dlist sc n [] s = s := rfl
theorem dlist_cons (sc : Int → List Int) (n : Nat) (t : Int) (ts : List Int) (s : List Bool × List Int) : dlist sc n (t :: ts) s = dlist sc n ts (dstep sc n s t) := rfl
theorem dlist_take (sc : Int → List Int) (n : Nat) {ts : List Int} {k : Nat} {t : Int} (h : ts[k]? = some t) (s : List Bool × List Int) : dlist sc n (ts.take (k + 1)) s = dstep sc n (dlist sc n (ts.take k) s) t := by
  unfold dlist
  rw [List.take_add_one, h, Option.toList_some, List.foldl_append]; rfl

/-- What stays right through the walk. -/
structure Inv (N K : Nat) (st : List Bool × List Int) : Prop where
  len : st.1.length = N
  cap : st.2.length + cf st.1 ≤ K
  mem : ∀ x ∈ st.2, 0 ≤ x ∧ x < (N : Int)

section
variable {sc : Int → List Int} {N : Nat} (hsc : ∀ b : Nat, b < N → ∀ t ∈ sc b, 0 ≤ t ∧ t < (N : Int))
include hsc

theorem dfs_inv {K : Nat} : ∀ (n : Nat) (b : Nat) (st : List Bool × List Int), Inv N K st → st.1[b]? = some false → Inv N K (dfs sc n b st) ∧ cf (dfs sc n b st).1 ≤ cf st.1
  | 0, _, st, h, _ => ⟨h, Nat.le_refl _⟩
  | n + 1, b, st, h, hb => by
    have hbN : b < N := by rw [← h.len]; exact (List.getElem?_eq_some_iff.1 hb).1
    have hl : ∀ (ts : List Int) (s : List Bool × List Int), (∀ t ∈ ts, 0 ≤ t ∧ t < (N : Int)) → ∀ K, Inv N K s → Inv N K (dlist sc n ts s) ∧ cf (dlist sc n ts s).1 ≤ cf s.1 := by
      intro ts
      induction ts with
      | nil => intro s _ K h; exact ⟨h, Nat.le_refl _⟩
      | cons t ts ih =>
        intro s ht K h
        rw [dlist_cons]
        have ht0 := ht t (by simp)
        obtain ⟨k, rfl⟩ : ∃ k : Nat, t = k := ⟨t.toNat, by omega⟩
        have hk : k < s.1.length := by rw [h.len]; omega
        have hs : s.1[k]? = some s.1[k] := List.getElem?_eq_getElem hk
        have hst : Inv N K (dstep sc n s k) ∧ cf (dstep sc n s k).1 ≤ cf s.1 := by
          unfold dstep
          rw [seenAt_of hs]
          by_cases hv : s.1[k] = true
          · rw [if_pos hv]; exact ⟨h, Nat.le_refl _⟩
          · rw [if_neg hv]
            have hv' : s.1[k] = false := by simpa using hv
            rw [hv'] at hs
            exact dfs_inv (K := K) n k s h hs
        obtain ⟨h1, h2⟩ := ih _ (fun u hu => ht u (by simp [hu])) K hst.1
        exact ⟨h1, Nat.le_trans h2 hst.2⟩
    have hcf := cf_set hb
    have hcap := h.cap
    have hK1 : 1 ≤ K := by omega
    have h0 : Inv N (K - 1) (st.1.set b true, st.2) := ⟨by simp [h.len], by show st.2.length + cf (st.1.set b true) ≤ K - 1; omega, h.mem⟩
    obtain ⟨h1, h2⟩ := hl (sc b) (st.1.set b true, st.2) (hsc b hbN) (K - 1) h0
    rw [dfs_succ, Int.toNat_natCast]
    refine ⟨⟨h1.len, ?_, ?_⟩, ?_⟩
    · have := h1.cap
      simp only [List.length_append, List.length_singleton]
      omega
    · intro x hx
      rcases List.mem_append.1 hx with hx | hx
      · exact h1.mem x hx
      · simp at hx; omega
    · have h2' : cf (dlist sc n (sc b) (st.1.set b true, st.2)).1 ≤ cf (st.1.set b true) := h2
      show cf (dlist sc n (sc b) (st.1.set b true, st.2)).1 ≤ _
      omega

/-- What has been seen stays seen. -/
theorem dfs_mono {K : Nat} : ∀ (n : Nat) (b : Nat) (st : List Bool × List Int), Inv N K st → st.1[b]? = some false → ∀ i : Nat, st.1[i]? = some true → (dfs sc n b st).1[i]? = some true
  | 0, _, _, _, _, i, hi => hi
  | n + 1, b, st, h, hb, i, hi => by
    have hbN : b < N := by rw [← h.len]; exact (List.getElem?_eq_some_iff.1 hb).1
    have hl : ∀ (ts : List Int) (s : List Bool × List Int), (∀ t ∈ ts, 0 ≤ t ∧ t < (N : Int)) → ∀ K, Inv N K s → ∀ i : Nat, s.1[i]? = some true → (dlist sc n ts s).1[i]? = some true := by
      intro ts
      induction ts with
      | nil => intro s _ K h i hi; exact hi
      | cons t ts ih =>
        intro s ht K h i hi
        rw [dlist_cons]
        have ht0 := ht t (by simp)
        obtain ⟨k, rfl⟩ : ∃ k : Nat, t = k := ⟨t.toNat, by omega⟩
        have hk : k < s.1.length := by rw [h.len]; omega
        have hs : s.1[k]? = some s.1[k] := List.getElem?_eq_getElem hk
        have hst : Inv N K (dstep sc n s k) ∧ (dstep sc n s k).1[i]? = some true := by
          unfold dstep
          rw [seenAt_of hs]
          by_cases hv : s.1[k] = true
          · rw [if_pos hv]; exact ⟨h, hi⟩
          · rw [if_neg hv]
            have hv' : s.1[k] = false := by simpa using hv
            rw [hv'] at hs
            exact ⟨(dfs_inv hsc n k s h hs).1, dfs_mono (K := K) n k s h hs i hi⟩
        exact ih _ (fun u hu => ht u (by simp [hu])) K hst.1 i hst.2
    have hcf := cf_set hb
    have hcap := h.cap
    have h0 : Inv N K (st.1.set b true, st.2) := ⟨by simp [h.len], by show st.2.length + cf (st.1.set b true) ≤ K; omega, h.mem⟩
    rw [dfs_succ, Int.toNat_natCast]
    refine hl (sc b) (st.1.set b true, st.2) (hsc b hbN) K h0 i ?_
    have hne : b ≠ i := by rintro rfl; rw [hb] at hi; cases hi
    show (st.1.set b true)[i]? = some true
    rw [set_get_other hne]; exact hi

/-- What comes of a list of succs: all that were so far, and they. -/
theorem dlist_inv {K : Nat} (n : Nat) : ∀ (ts : List Int) (s : List Bool × List Int), (∀ t ∈ ts, 0 ≤ t ∧ t < (N : Int)) → Inv N K s → Inv N K (dlist sc n ts s) ∧ cf (dlist sc n ts s).1 ≤ cf s.1 ∧ ∀ i : Nat, s.1[i]? = some true → (dlist sc n ts s).1[i]? = some true
  | [], s, _, h => ⟨h, Nat.le_refl _, fun _ hi => hi⟩
  | t :: ts, s, ht, h => by
    rw [dlist_cons]
    have ht0 := ht t (by simp)
    obtain ⟨k, rfl⟩ : ∃ k : Nat, t = k := ⟨t.toNat, by omega⟩
    have hk : k < s.1.length := by rw [h.len]; omega
    have hs : s.1[k]? = some s.1[k] := List.getElem?_eq_getElem hk
    have hst : Inv N K (dstep sc n s k) ∧ cf (dstep sc n s k).1 ≤ cf s.1 ∧ ∀ i : Nat, s.1[i]? = some true → (dstep sc n s k).1[i]? = some true := by
      unfold dstep
      rw [seenAt_of hs]
      by_cases hv : s.1[k] = true
      · rw [if_pos hv]; exact ⟨h, Nat.le_refl _, fun _ hi => hi⟩
      · rw [if_neg hv]
        have hv' : s.1[k] = false := by simpa using hv
        rw [hv'] at hs
        have := dfs_inv hsc n k s h hs
        exact ⟨this.1, this.2, dfs_mono hsc n k s h hs⟩
    obtain ⟨h1, h2, h3⟩ := dlist_inv n ts _ (fun u hu => ht u (by simp [hu])) hst.1
    exact ⟨h1, Nat.le_trans h2 hst.2.1, fun i hi => h3 i (hst.2.2 i hi)⟩

theorem dfs_seen {K : Nat} {n b : Nat} {st : List Bool × List Int} (h : Inv N K st) (hb : st.1[b]? = some false) : (dfs sc (n + 1) b st).1[b]? = some true := by
  have hbN : b < N := by rw [← h.len]; exact (List.getElem?_eq_some_iff.1 hb).1
  have hcf := cf_set hb
  have hcap := h.cap
  have h0 : Inv N K (st.1.set b true, st.2) := ⟨by simp [h.len], by show st.2.length + cf (st.1.set b true) ≤ K; omega, h.mem⟩
  rw [dfs_succ, Int.toNat_natCast]
  exact (dlist_inv hsc n _ _ (hsc b hbN) h0).2.2 b (set_get_self (by rw [h.len]; exact hbN) true)
end

/-- Come to from the block 0 on, without one. -/
inductive Rch (sc : Int → List Int) (wo : Int) : Int → Prop
  | zero (h : (0 : Int) ≠ wo) : Rch sc wo 0
  | step {a b : Int} (h : Rch sc wo a) (hb : b ∈ sc a) (hw : b ≠ wo) : Rch sc wo b

section
variable {sc : Int → List Int} {N : Nat} (hsc : ∀ b : Nat, b < N → ∀ t ∈ sc b, 0 ≤ t ∧ t < (N : Int))
include hsc

theorem dlist_sound {K : Nat} (n : Nat) (ih : ∀ (b : Nat) (s : List Bool × List Int), Inv N K s → s.1[b]? = some false → Rch sc (-1) b → (∀ i : Nat, s.1[i]? = some true → Rch sc (-1) i) → ∀ i : Nat, (dfs sc n b s).1[i]? = some true → Rch sc (-1) i) :
    ∀ (ts : List Int) (s : List Bool × List Int), (∀ t ∈ ts, 0 ≤ t ∧ t < (N : Int)) → (∀ t ∈ ts, Rch sc (-1) t) → Inv N K s → (∀ i : Nat, s.1[i]? = some true → Rch sc (-1) i) → ∀ i : Nat, (dlist sc n ts s).1[i]? = some true → Rch sc (-1) i
  | [], s, _, _, _, h, i, hi => h i hi
  | t :: ts, s, ht, hr, h, hs, i, hi => by
    rw [dlist_cons] at hi
    have ht0 := ht t (by simp)
    have hrt := hr t (by simp)
    obtain ⟨k, rfl⟩ : ∃ k : Nat, t = k := ⟨t.toNat, by omega⟩
    have hk : k < s.1.length := by rw [h.len]; omega
    have hsk : s.1[k]? = some s.1[k] := List.getElem?_eq_getElem hk
    have hst : Inv N K (dstep sc n s k) ∧ ∀ i : Nat, (dstep sc n s k).1[i]? = some true → Rch sc (-1) i := by
      unfold dstep
      rw [seenAt_of hsk]
      by_cases hv : s.1[k] = true
      · rw [if_pos hv]; exact ⟨h, hs⟩
      · rw [if_neg hv]
        have hv' : s.1[k] = false := by simpa using hv
        rw [hv'] at hsk
        exact ⟨(dfs_inv hsc n k s h hsk).1, ih k s h hsk hrt hs⟩
    exact dlist_sound n ih ts _ (fun u hu => ht u (by simp [hu])) (fun u hu => hr u (by simp [hu])) hst.1 hst.2 i hi

theorem dfs_sound {K : Nat} : ∀ (n : Nat) (b : Nat) (s : List Bool × List Int), Inv N K s → s.1[b]? = some false → Rch sc (-1) b → (∀ i : Nat, s.1[i]? = some true → Rch sc (-1) i) → ∀ i : Nat, (dfs sc n b s).1[i]? = some true → Rch sc (-1) i
  | 0, _, _, _, _, _, hs, i, hi => hs i hi
  | n + 1, b, s, h, hb, hr, hs, i, hi => by
    have hbN : b < N := by rw [← h.len]; exact (List.getElem?_eq_some_iff.1 hb).1
    have hcf := cf_set hb
    have hcap := h.cap
    have h0 : Inv N K (s.1.set b true, s.2) := ⟨by simp [h.len], by show s.2.length + cf (s.1.set b true) ≤ K; omega, h.mem⟩
    rw [dfs_succ, Int.toNat_natCast] at hi
    refine dlist_sound hsc n (fun b' s' => dfs_sound n b' s') (sc b) _ (hsc b hbN) (fun t ht => .step hr ht (by have := hsc b hbN t ht; omega)) h0 (fun j hj => ?_) i hi
    by_cases hjb : b = j
    · subst hjb; exact hr
    · have hj' : (s.1.set b true)[j]? = some true := hj
      rw [set_get_other hjb] at hj'
      exact hs j hj'

/-- Each one that has been seen newly has all its succs seen. -/
def Clo (sc : Int → List Int) (s s' : List Bool) : Prop := ∀ i : Nat, s'[i]? = some true → s[i]? = some true ∨ ∀ t ∈ sc i, s'[t.toNat]? = some true

theorem dlist_clo {K : Nat} (n : Nat) (ih : ∀ (b : Nat) (s : List Bool × List Int), Inv N K s → s.1[b]? = some false → cf s.1 ≤ n → Clo sc s.1 (dfs sc n b s).1 ∧ (dfs sc n b s).1[b]? = some true) :
    ∀ (ts : List Int) (s : List Bool × List Int), (∀ t ∈ ts, 0 ≤ t ∧ t < (N : Int)) → Inv N K s → cf s.1 ≤ n → Clo sc s.1 (dlist sc n ts s).1 ∧ ∀ t ∈ ts, (dlist sc n ts s).1[t.toNat]? = some true
  | [], s, _, _, _ => ⟨fun i hi => .inl hi, fun t ht => by cases ht⟩
  | t :: ts, s, ht, h, hn => by
    rw [dlist_cons]
    have ht0 := ht t (by simp)
    obtain ⟨k, rfl⟩ : ∃ k : Nat, t = k := ⟨t.toNat, by omega⟩
    have hk : k < s.1.length := by rw [h.len]; omega
    have hsk : s.1[k]? = some s.1[k] := List.getElem?_eq_getElem hk
    have hst : Inv N K (dstep sc n s k) ∧ cf (dstep sc n s k).1 ≤ cf s.1 ∧ Clo sc s.1 (dstep sc n s k).1 ∧ (dstep sc n s k).1[k]? = some true := by
      unfold dstep
      rw [seenAt_of hsk]
      by_cases hv : s.1[k] = true
      · rw [if_pos hv]; rw [hv] at hsk; exact ⟨h, Nat.le_refl _, fun i hi => .inl hi, hsk⟩
      · rw [if_neg hv]
        have hv' : s.1[k] = false := by simpa using hv
        rw [hv'] at hsk
        have h1 := dfs_inv hsc n k s h hsk
        have h2 := ih k s h hsk hn
        exact ⟨h1.1, h1.2, h2.1, h2.2⟩
    obtain ⟨g1, g2, g3, g4⟩ := hst
    have htl := fun u (hu : u ∈ ts) => ht u (by simp [hu])
    obtain ⟨e1, e2⟩ := dlist_clo n ih ts _ htl g1 (Nat.le_trans g2 hn)
    have hm := (dlist_inv hsc n ts _ htl g1).2.2
    refine ⟨fun i hi => ?_, fun u hu => ?_⟩
    · rcases e1 i hi with h' | h'
      · rcases g3 i h' with h'' | h''
        · exact .inl h''
        · exact .inr fun t ht => hm _ (h'' t ht)
      · exact .inr h'
    · rcases List.mem_cons.1 hu with rfl | hu
      · exact hm _ (by simpa using g4)
      · exact e2 u hu

theorem dfs_clo {K : Nat} : ∀ (n : Nat) (b : Nat) (s : List Bool × List Int), Inv N K s → s.1[b]? = some false → cf s.1 ≤ n → Clo sc s.1 (dfs sc n b s).1 ∧ (dfs sc n b s).1[b]? = some true
  | 0, _, _, _, hb, hn => by have := cf_pos hb; omega
  | n + 1, b, s, h, hb, hn => by
    have hbN : b < N := by rw [← h.len]; exact (List.getElem?_eq_some_iff.1 hb).1
    have hcf := cf_set hb
    have hcap := h.cap
    have h0 : Inv N K (s.1.set b true, s.2) := ⟨by simp [h.len], by show s.2.length + cf (s.1.set b true) ≤ K; omega, h.mem⟩
    obtain ⟨e1, e2⟩ := dlist_clo hsc n (fun b' s' => dfs_clo n b' s') (sc b) (s.1.set b true, s.2) (hsc b hbN) h0 (by show cf (s.1.set b true) ≤ n; omega)
    refine ⟨fun i hi => ?_, dfs_seen hsc h hb⟩
    rw [dfs_succ, Int.toNat_natCast] at hi ⊢
    rcases e1 i hi with h' | h'
    · by_cases hbi : b = i
      · subst hbi; exact .inr e2
      · have h'' : (s.1.set b true)[i]? = some true := h'
        rw [set_get_other hbi] at h''
        exact .inl h''
    · exact .inr h'
end

/-- The list tells of each block whether it is come to from the block 0 on, without one. -/
def IsReach (sc : Int → List Int) (wo : Int) (n : Nat) (bs : List Bool) : Prop := bs.length = n ∧ ∀ i : Nat, i < n → (bs[i]? = some true ↔ Rch sc wo i)
theorem IsReach.one {sc : Int → List Int} {wo : Int} {n : Nat} {bs cs : List Bool} (h : IsReach sc wo n bs) (k : IsReach sc wo n cs) : bs = cs := by
  refine List.ext_getElem? fun i => ?_
  by_cases hi : i < n
  · have hl1 : i < bs.length := by rw [h.1]; exact hi
    have hl2 : i < cs.length := by rw [k.1]; exact hi
    have h1 : bs[i]? = some bs[i] := List.getElem?_eq_getElem hl1
    have h2 : cs[i]? = some cs[i] := List.getElem?_eq_getElem hl2
    have e : bs[i]? = some true ↔ cs[i]? = some true := (h.2 i hi).trans (k.2 i hi).symm
    rw [h1, h2] at e ⊢
    cases hb : bs[i] <;> cases hc : cs[i] <;> simp_all
  · rw [List.getElem?_eq_none (by rw [h.1]; omega), List.getElem?_eq_none (by rw [k.1]; omega)]

/-- The walk in depth at a function's blocks. -/
def dfs0 (sc : Int → List Int) (N : Nat) : List Bool × List Int := dfs sc N (0 : Nat) (List.replicate N false, [])
theorem cf_replicate (N : Nat) : cf (List.replicate N false) = N := by simp [cf]
theorem inv0 (N : Nat) : Inv N N (List.replicate N false, []) := ⟨by simp, by show 0 + cf (List.replicate N false) ≤ N; rw [cf_replicate]; omega, fun x hx => by cases hx⟩
theorem get_replicate {N k : Nat} (h : k < N) : (List.replicate N false)[k]? = some false := by rw [List.getElem?_replicate, if_pos h]

theorem dfs0_reach {sc : Int → List Int} {N : Nat} (hsc : ∀ b : Nat, b < N → ∀ t ∈ sc b, 0 ≤ t ∧ t < (N : Int)) (hN : 1 ≤ N) : IsReach sc (-1) N (dfs0 sc N).1 := by
  have h0 := get_replicate (N := N) (k := 0) (by omega)
  refine ⟨(dfs_inv hsc N 0 _ (inv0 N) h0).1.len, fun i hi => ⟨fun h => ?_, fun h => ?_⟩⟩
  · refine dfs_sound hsc N 0 _ (inv0 N) h0 (.zero (by omega)) (fun j hj => ?_) i h
    have hj' : (List.replicate N false)[j]? = some true := hj
    rw [List.getElem?_replicate] at hj'
    split at hj' <;> simp at hj'
  · obtain ⟨e1, e2⟩ := dfs_clo hsc N 0 _ (inv0 N) h0 (by show cf (List.replicate N false) ≤ N; rw [cf_replicate]; omega)
    have key : ∀ x : Int, Rch sc (-1) x → 0 ≤ x ∧ x < (N : Int) ∧ (dfs0 sc N).1[x.toNat]? = some true := by
      intro x hx
      induction hx with
      | zero _ => exact ⟨by omega, by omega, e2⟩
      | @step a b _ hb _ ih =>
        obtain ⟨ha0, haN, hat⟩ := ih
        obtain ⟨k, rfl⟩ : ∃ k : Nat, a = k := ⟨a.toNat, by omega⟩
        have hbr := hsc k (by omega) b hb
        refine ⟨hbr.1, hbr.2, ?_⟩
        rw [Int.toNat_natCast] at hat
        rcases e1 k hat with h' | h'
        · have h'' : (List.replicate N false)[k]? = some true := h'
          rw [List.getElem?_replicate] at h''
          split at h'' <;> simp at h''
        · exact h' b hb
    have := (key i h).2.2
    simpa using this

theorem dfs0_len {sc : Int → List Int} {N : Nat} (hsc : ∀ b : Nat, b < N → ∀ t ∈ sc b, 0 ≤ t ∧ t < (N : Int)) (hN : 1 ≤ N) : (dfs0 sc N).2.length ≤ N := by
  have := (dfs_inv hsc N 0 _ (inv0 N) (get_replicate (N := N) (k := 0) (by omega))).1.cap
  unfold dfs0
  omega
end

end Go.Proofs.YtnjmlhokkhkaaaaGreatDoor
