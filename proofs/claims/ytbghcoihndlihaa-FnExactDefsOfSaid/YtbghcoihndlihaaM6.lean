/- sizesOk and predsOfAll of the program. -/
import Derived.Test.YtbghcoihndlihaaM5
import Derived.Test.YtbghcoihndlihaaL2c
namespace Go.Proofs.Ytbghcoihndlihaa
open Go.ChangeShapes Go.WideShapes Go.ChangeAt Go.RowKit Go.Joins

set_option maxHeartbeats 1000000 in
theorem sizesOk_any (f : FunD) (A : Option Addr) (c : Nat) (w : World) (hle : f.blocks.length ≤ 9223372036854775807) :
    Calls Try.prog 34 #[.agg #[.int .i64 f.params, .int .i64 f.names, .slice A f.blocks.length c]] w (GivesB (FrameHead f) w) := by
  have hB : Below w.heap.size w (w.alloc (.cells #[.int .i64 f.params, .int .i64 f.names, .slice A f.blocks.length c] 30)) := (Below.refl _ _).alloc (Nat.le_refl _) _
  by_cases h : FrameHead f
  · have HY := Lib.hid h
    obtain ⟨⟨h1, h2⟩, ⟨h3, h4⟩, ⟨h5, h6⟩, h7⟩ := h
    have h1' : 1 ≤ (f.blocks.length : Int) := by omega
    have h2' : (f.blocks.length : Int) ≤ 40 := by omega
    go_enter Try.func34, Try.ntmps34
    go_wp2
    go_ret
    refine ⟨true, ?_, by simpa using HY.out, hB⟩
    simp
    try omega
  · have HN := Lib.hid h
    by_cases h1 : 1 ≤ f.blocks.length
    case neg =>
      have h1' : (f.blocks.length : Int) < 1 := by omega
      clear h1 h
      go_enter Try.func34, Try.ntmps34
      go_wp2
      go_ret
      exact gives_no HN.out hB
    by_cases h2 : f.blocks.length ≤ 40
    case neg =>
      have h2' : (40 : Int) < (f.blocks.length : Int) := by omega
      clear h2 h
      go_enter Try.func34, Try.ntmps34
      go_wp2
      go_ret
      exact gives_no HN.out hB
    have h1' : 1 ≤ (f.blocks.length : Int) := by omega
    have h2' : (f.blocks.length : Int) ≤ 40 := by omega
    by_cases h3 : 0 ≤ f.params
    case neg =>
      have h3' : f.params < 0 := by omega
      clear h h3
      go_enter Try.func34, Try.ntmps34
      go_wp2
      go_ret
      exact gives_no HN.out hB
    by_cases h4 : f.params ≤ 6
    case neg =>
      have h4' : 6 < f.params := by omega
      clear h h4
      go_enter Try.func34, Try.ntmps34
      go_wp2
      go_ret
      exact gives_no HN.out hB
    by_cases h5 : f.params ≤ f.names
    case neg =>
      have h5' : f.names < f.params := by omega
      clear h h5
      go_enter Try.func34, Try.ntmps34
      go_wp2
      go_ret
      exact gives_no HN.out hB
    have h6 : 150 < f.names := by
      rcases Int.lt_or_le 150 f.names with h6 | h6
      · exact h6
      · exact absurd ⟨⟨h1, h2⟩, ⟨by omega, h6⟩, ⟨h3, h4⟩, h5⟩ h
    clear h
    go_enter Try.func34, Try.ntmps34
    go_wp2
    go_ret
    refine ⟨false, ?_, by simpa using HN.out, hB⟩
    simp
    try omega

theorem info_ints : (Try.prog.info? 39).map (fun i => (i.zero, i.size, i.bytes)) = some (some (.slice none 0 0), 1, 24) := by kernel_rfl

def GivesPRow (n : Nat) (row : Nat → List Int) (w : World) (e : Ending) (w' : World) : Prop := e = .returned (.slice (some ⟨w.heap.size, 0, none⟩) n n) ∧ PRow w' (w.heap.size + 1) w.heap.size n row ∧ Below w.heap.size w w'

set_option maxRecDepth 10000 in
set_option maxHeartbeats 1000000 in
theorem predsOfAll_any (v : Value) (xs : List BlockD) (w : World) (Z : Zn) (hv : Row w Z 8 (EBlock w Z) v xs) (hD : ∀ b, Z.D b → b < w.heap.size) (hn : xs.length ≤ 1048576) :
    Calls Try.prog 35 #[v] w (GivesPRow xs.length (fun j => predsK succsE xs xs.length j) w) := by
  obtain ⟨_, A, c, rfl, hx⟩ := hv
  obtain ⟨i0, hi, hz0, hz1, hz2⟩ := info_parts info_ints
  have hmk := fun W => run_make_rowN (P := Try.prog) 76 39 i0 _ Try.underlying76 hi hz0 .i64 .i64 xs.length xs.length (Nat.le_refl _) (by rw [hz2]; omega) (by omega) W
  rw [hz1] at hmk
  clear hi hz0 hz1 hz2
  go_enter Try.func35, Try.ntmps35
  go_wp2
  go_loopw [13] (fun i wr => ∃ k : Nat, k ≤ xs.length ∧ i = .int .i64 k ∧ Hid (Below w.heap.size w wr) ∧ w.heap.size < wr.heap.size ∧ Hid (PRow wr (w.heap.size + 1) w.heap.size xs.length (fun j => predsK succsE xs k j))) (fun i _ => xs.length - (intOf i).toNat)
  case atStart => exact ⟨0, Nat.zero_le _, rfl, (Below.refl _ _).alloc (Nat.le_refl _) _, by simp, PRow.start xs.length⟩
  case round =>
    obtain ⟨k, hk, rfl, HB, hsz, HP⟩ := hrel
    by_cases hlt : k < xs.length
    case neg =>
      obtain rfl : k = xs.length := by omega
      go_wp2
      go_ret
      exact ⟨rfl, HP.out, HB.out⟩
    have hxk : xs[k]? = some xs[k] := List.getElem?_eq_getElem hlt
    generalize xs[k] = x at hxk
    obtain ⟨b, off, rfl, hDb, hrow⟩ := hx (by rintro rfl; simp at hlt)
    obtain ⟨cs, hE, hcs⟩ := hrow k x hxk
    have hbl := hD b hDb
    obtain ⟨v0, v1, v2, v3, rfl, ⟨_, A0, q0, rfl, _⟩, ⟨_, A1, q1, rfl, _⟩, ⟨_, A2, q2, rfl, _⟩, ⟨_, A3, q3, rfl, _⟩⟩ := hE
    have c0 : wr.cell? ⟨b, off + k * 8, none⟩ = some (.slice A0 x.phis.length q0) := (HB.out.cell (p := ⟨b, _, none⟩) hbl).trans (hcs 0 _ rfl).1
    have c1 : wr.cell? ⟨b, off + k * 8 + 1, none⟩ = some (.slice A1 x.head.length q1) := (HB.out.cell (p := ⟨b, _, none⟩) hbl).trans (hcs 1 _ rfl).1
    have c2 : wr.cell? ⟨b, off + k * 8 + 2, none⟩ = some (.slice A2 x.body.length q2) := (HB.out.cell (p := ⟨b, _, none⟩) hbl).trans (hcs 2 _ rfl).1
    have c3 : wr.cell? ⟨b, off + k * 8 + 3, none⟩ = some (.slice A3 x.tail.length q3) := (HB.out.cell (p := ⟨b, _, none⟩) hbl).trans (hcs 3 _ rfl).1
    have c4 : wr.cell? ⟨b, off + k * 8 + 4, none⟩ = some (.int .i64 x.fin.k) := (HB.out.cell (p := ⟨b, _, none⟩) hbl).trans (hcs 4 _ rfl).1
    have c5 : wr.cell? ⟨b, off + k * 8 + 5, none⟩ = some (.int .i64 x.fin.a) := (HB.out.cell (p := ⟨b, _, none⟩) hbl).trans (hcs 5 _ rfl).1
    have c6 : wr.cell? ⟨b, off + k * 8 + 6, none⟩ = some (.int .i64 x.fin.t) := (HB.out.cell (p := ⟨b, _, none⟩) hbl).trans (hcs 6 _ rfl).1
    have c7 : wr.cell? ⟨b, off + k * 8 + 7, none⟩ = some (.int .i64 x.fin.l) := (HB.out.cell (p := ⟨b, _, none⟩) hbl).trans (hcs 7 _ rfl).1
    have Hxk := Lib.hid hxk
    clear hcs hx hxk hrow
    go_wp2_with fail
    refine (SuccsOf_any _ _ _ _ _).mono ?_
    rintro e w1 ⟨r, rfl, hr, hb1⟩
    have hz1 : wr.heap.size + 1 ≤ w1.heap.size := by have := hb1.size; simp at this; omega
    have HB1 := Lib.hid ((HB.out.alloc (Nat.le_of_lt hsz) _).trans (hb1.mono (by simp; omega)))
    have HPa := HP.out.below ((Below.refl _ _).trans (((Below.refl wr.heap.size wr).alloc (Nat.le_refl _) _).trans (hb1.mono (by simp))))
    have hu := hr.ri
    have HW := Lib.hid hr
    have hul := succsL_len x.fin.k x.fin.a x.fin.t x.fin.l
    have HND := Lib.hid (succsL_nodup x.fin.k x.fin.a x.fin.t x.fin.l)
    have HAll : Hid (∀ j, rowM xs (succsL x.fin.k x.fin.a x.fin.t x.fin.l) k (succsL x.fin.k x.fin.a x.fin.t x.fin.l).length j = predsK succsE xs (k + 1) j) := fun j => rowM_all Hxk.out j
    have HP1 : Hid (PRow w1 (w.heap.size + 1) w.heap.size xs.length (rowM xs (succsL x.fin.k x.fin.a x.fin.t x.fin.l) k 0)) := HPa.congr fun j _ => rowM_zero xs _ k j
    have HAV : Hid (PAvoid w1 w.heap.size wr.heap.size w1.heap.size) := (PAvoid.start HP.out _).below (((Below.refl wr.heap.size wr).alloc (Nat.le_refl _) _).trans (hb1.mono (by simp))) hsz
    clear hb1 HPa HB HP hr
    generalize succsL x.fin.k x.fin.a x.fin.t x.fin.l = us at hu hul HND HAll HP1 HW
    obtain ⟨_, A5, q5, rfl, _⟩ := hu
    go_wp2_with fail
    clear c0 c1 c2 c3 c4 c5 c6 c7
    have HW1 : Hid (OI w1 (wr.heap.size + 1) (.slice A5 us.length q5) us) := World.ownsRow.mono HW.out (by simp)
    clear HW
    obtain ⟨lo, hlo⟩ : ∃ lo, lo = wr.heap.size := ⟨_, rfl⟩
    rw [← hlo] at HAV HW1 hz1 hsz
    have hlo' : lo ≤ wr.heap.size := by omega
    clear hlo
    go_loopw [22] (fun q wq => ∃ m : Nat, m ≤ us.length ∧ q = .int .i64 m ∧ Hid (Below w.heap.size w wq) ∧ w1.heap.size ≤ wq.heap.size ∧ Hid (PRow wq (w.heap.size + 1) w.heap.size xs.length (rowM xs us k m)) ∧ Hid (PAvoid wq w.heap.size lo w1.heap.size) ∧ Hid (OI wq (lo + 1) (.slice A5 us.length q5) us)) (fun q _ => us.length - (intOf q).toNat)
    case atStart => exact ⟨0, Nat.zero_le _, rfl, HB1.out, Nat.le_refl _, HP1.out, HAV.out, HW1.out⟩
    case round =>
      obtain ⟨m, hm, rfl, HBq, hsq, HPq, HAq, HOq⟩ := hrel
      by_cases hml : m < us.length
      case neg =>
        obtain rfl : m = us.length := by omega
        go_wp2
        go_roundw
        case rel => exact ⟨k + 1, by omega, by go_num, HBq.out, by omega, HPq.out.congr fun j _ => (HAll.out j).symm⟩
        case measure => simp [intOf]; omega
      have hum : us[m]? = some us[m] := List.getElem?_eq_getElem hml
      generalize us[m] = u at hum
      obtain ⟨_, A6, q6, he6, hux⟩ := HOq.out.ri
      injection he6 with e1 _ e2
      subst e1 e2
      obtain ⟨b', off', rfl, hcell⟩ := hux (by rintro rfl; simp at hml)
      have p0 := hcell m u hum
      have Hum := Lib.hid hum
      clear hcell hux hum
      cases hun : isBelowB u xs.length
      · have hcg : Hid (PRow wr (w.heap.size + 1) w.heap.size xs.length (rowM xs us k (m + 1))) := HPq.out.congr fun j hj => rowM_other Hum.out fun e => by
          subst e
          simp [isBelowB] at hun
          omega
        go_wp2_with (go_at_call 21; refine (isBelow_any _ _ _).mono ?_; rintro e w' ⟨rfl, rfl⟩)
        go_roundw
        case rel => exact ⟨m + 1, by omega, by go_num, HBq.out, hsq, hcg, HAq.out, HOq.out⟩
        case measure => simp [intOf]; omega
      have hul0 : 0 ≤ u ∧ u < xs.length := by simpa [isBelowB] using hun
      obtain ⟨t, rfl⟩ : ∃ t : Nat, u = t := ⟨u.toNat, by omega⟩
      have htn : t < xs.length := by omega
      have htn' : (t : Int) < (xs.length : Int) := by omega
      have ht0 : 0 ≤ (t : Int) := by omega
      obtain ⟨v, hcv, hov⟩ := HPq.out.get htn
      have hfz := HPq.out.frozen t
      have hrl := rowM_len xs us k m t
      have HOV := Lib.hid hov
      obtain ⟨_, A7, q7, rfl, _⟩ := hov.ri
      clear hov hul0
      have hne : some w.heap.size ≠ (Value.slice A7 (rowM xs us k m t).length q7).ownBlock := fun e => by have := (HOV.out.lt _ e.symm).1; omega
      have hGw : w.heap.size < wr.heap.size := by omega
      go_wp2_with (first
        | (go_at_call 21; refine (isBelow_any _ _ _).mono ?_; rintro e w' ⟨rfl, rfl⟩)
        | (at_builtin; go_must (refine wpList_append_int rfl (.tmp 35) (.tmp 37) rfl (w.heap.size + 1) _ (rowM xs us k m t) k wr rfl HOV.out rfl (by omega) (by omega) ?_; intro v' w2 hown2 hg2 hat2; have HO2 := Lib.hid hown2; have HG2 := Lib.hid hg2; have HA2 := Lib.hid hat2; obtain ⟨_, A8, q8, rfl, _⟩ := hown2.ri; have d0 := (World.cell?_of_block (a := ⟨w.heap.size, t, none⟩) (hg2.block _ hGw hne)).trans hcv; have df := (World.frozen?_of_block (a := ⟨w.heap.size, t, none⟩) (hg2.block _ hGw hne)).trans hfz; clear hown2 hg2 hat2)))
      have HPn := Lib.hid (HPq.out.append htn rfl hcv HO2.out HG2.out HA2.out)
      have HAn := Lib.hid (HAq.out.append hGw hne hcv HG2.out HA2.out hsq)
      have hb5 := HW1.out.lt b' rfl
      have hus : (Value.slice (some ⟨b', off', none⟩) us.length q5).ownBlock ≠ (Value.slice A7 (rowM xs us k m t).length q7).ownBlock := fun e => by
        have := HAq.out t _ b' hcv e.symm
        omega
      have HOn := Lib.hid ((HOq.out.grown HG2.out (.inr hus)).grown (set_grown w2 w.heap.size t (.slice A8 (rowM xs us k m t ++ [(k : Int)]).length q8)) (.inr fun e => by injection e with e; simp at e; omega))
      have HBn := Lib.hid ((HBq.out.grown HG2.out (by omega) (fun kk hkk => by have := (HOV.out.lt kk hkk).1; omega)).setCell (p := ⟨w.heap.size, t, none⟩) (Nat.le_refl _) (.slice A8 (rowM xs us k m t ++ [(k : Int)]).length q8))
      have hz2 := HG2.out.size
      have HPn' : Hid (PRow (w2.setCell ⟨w.heap.size, t, none⟩ (.slice A8 (rowM xs us k m t ++ [(k : Int)]).length q8)) (w.heap.size + 1) w.heap.size xs.length (rowM xs us k (m + 1))) := HPn.out.congr fun i _ => by
        by_cases e : i = t
        · subst e
          rw [if_pos rfl, rowM_same HND.out Hum.out]
        · rw [if_neg e]
          exact rowM_other Hum.out fun h => e (by omega)
      have el : (rowM xs us k m t ++ [(k : Int)]).length = (rowM xs us k m t).length + 1 := by simp
      rw [el] at HBn HPn' HAn HOn
      clear el HPn HO2 HG2 HA2 HAq HPq HOq HBq HOV hcv p0 hfz d0 df hb5
      go_wp2_with fail
      go_roundw
      case rel => exact ⟨m + 1, by omega, by go_num, HBn.out, by rw [nblk_set]; omega, HPn'.out, HAn.out, HOn.out⟩
      case measure => simp [intOf]; omega

end Go.Proofs.Ytbghcoihndlihaa
