/- M2, M3, M4, M5, M6, joined. -/
import Derived.Test.YtnjmlhokkhkaaaaGreatQ2
import Derived.Test.YtnjmlhokkhkaaaaGreatQ3
import Derived.Test.YtnjmlhokkhkaaaaGreatQ4
import Derived.Laws.EntriesVeiled
import Derived.Laws.OwnMore
namespace Go.Proofs.YtnjmlhokkhkaaaaGreat

/- The parts of a block, held against a setting, by the program. -/
section
open Go.ChangeShapes Go.WideShapes Go.ChangeAt Go.RowKit Go.Joins

theorem EBlock.parts {w : World} {Z : Zn} {x : BlockD} {cs : List Value} (h : EBlock w Z x cs) : ∃ A0 c0 A1 c1 A2 c2 A3 c3, cs = [.slice A0 x.phis.length c0, .slice A1 x.head.length c1, .slice A2 x.body.length c2, .slice A3 x.tail.length c3, .int .i64 x.fin.k, .int .i64 x.fin.a, .int .i64 x.fin.t, .int .i64 x.fin.l] ∧
    Row w Z 2 (EPhi w Z) (.slice A0 x.phis.length c0) x.phis ∧ Row w Z 2 EMove (.slice A1 x.head.length c1) x.head ∧ Row w Z 4 EIns (.slice A2 x.body.length c2) x.body ∧ Row w Z 2 EMove (.slice A3 x.tail.length c3) x.tail := by
  obtain ⟨v0, v1, v2, v3, rfl, h0, h1, h2, h3⟩ := h
  have k0 := h0
  have k1 := h1
  have k2 := h2
  have k3 := h3
  obtain ⟨_, A0, c0, rfl, _⟩ := h0
  obtain ⟨_, A1, c1, rfl, _⟩ := h1
  obtain ⟨_, A2, c2, rfl, _⟩ := h2
  obtain ⟨_, A3, c3, rfl, _⟩ := h3
  exact ⟨A0, c0, A1, c1, A2, c2, A3, c3, rfl, k0, k1, k2, k3⟩

theorem uses_pos {o v a b : Int} (h : insOkB o v a b = true) : ∀ u ∈ usesL o v a b, 0 ≤ u := by
  intro u hu
  unfold usesL at hu
  rw [if_pos h] at hu
  unfold insOkB at h
  by_cases h1 : o = 1
  · rw [if_pos h1] at hu; simp at hu
  rw [if_neg h1] at h hu
  by_cases h2 : o = 2
  · rw [if_pos h2] at h
    rw [if_neg (by omega)] at hu
    simp [isNameB] at h hu
    omega
  rw [if_neg h2] at h
  by_cases h3 : 3 ≤ o ∧ o ≤ 6
  · rw [if_pos h3] at h hu
    simp [isNameB] at h hu
    omega
  rw [if_neg h3] at h hu
  by_cases h7 : o = 7
  · rw [if_pos h7] at h
    simp [isNameB] at h hu
    omega
  · rw [if_neg h7] at h; cases h

set_option maxHeartbeats 400000 in
theorem headOk_any (x : BlockD) (cs : List Value) (names : Int) (blocks preds : Nat) (w : World) (Z : Zn) (hv : EBlock w Z x cs) (hD : ∀ b, Z.D b → b < w.heap.size) (h1 : names ≤ 150) :
    Calls Tryz.prog 120 #[.agg cs.toArray, .agg #[.int .i64 names, .int .i64 blocks, .int .i64 preds]] w (GivesB (MovesP names x.head) w) := by
  obtain ⟨A0, c0, A1, c1, A2, c2, A3, c3, rfl, _, hv1, _, _⟩ := hv.parts
  have HV := Lib.hid hv1
  clear hv hv1
  go_enter Tryz.func120, Tryz.ntmps120
  go_wp2_with fail
  refine (movesWithin_any _ _ _ _ Z (HV.out.keep (Kept.below (((Below.refl _ _).alloc (Nat.le_refl _) _).alloc (by simp) _) hD) fun _ _ h => h) (fun b hb => by have := hD b hb; simp; omega) h1).mono ?_
  rintro e w1 ⟨r, rfl, hr, hb1⟩
  have HB1 := Lib.hid ((((Below.refl w.heap.size w).alloc (Nat.le_refl _) _).alloc (by simp) _).trans (hb1.mono (by simp; omega)))
  have HR := Lib.hid hr
  clear hr hb1
  go_wp2_with fail
  go_ret
  exact ⟨r, rfl, HR.out, HB1.out⟩

set_option maxHeartbeats 400000 in
theorem tailOk_any (x : BlockD) (cs : List Value) (names : Int) (blocks preds : Nat) (w : World) (Z : Zn) (hv : EBlock w Z x cs) (hD : ∀ b, Z.D b → b < w.heap.size) (h1 : names ≤ 150) :
    Calls Tryz.prog 122 #[.agg cs.toArray, .agg #[.int .i64 names, .int .i64 blocks, .int .i64 preds]] w (GivesB (MovesP names x.tail) w) := by
  obtain ⟨A0, c0, A1, c1, A2, c2, A3, c3, rfl, _, _, _, hv1⟩ := hv.parts
  have HV := Lib.hid hv1
  clear hv hv1
  go_enter Tryz.func122, Tryz.ntmps122
  go_wp2_with fail
  refine (movesWithin_any _ _ _ _ Z (HV.out.keep (Kept.below (((Below.refl _ _).alloc (Nat.le_refl _) _).alloc (by simp) _) hD) fun _ _ h => h) (fun b hb => by have := hD b hb; simp; omega) h1).mono ?_
  rintro e w1 ⟨r, rfl, hr, hb1⟩
  have HB1 := Lib.hid ((((Below.refl w.heap.size w).alloc (Nat.le_refl _) _).alloc (by simp) _).trans (hb1.mono (by simp; omega)))
  have HR := Lib.hid hr
  clear hr hb1
  go_wp2_with fail
  go_ret
  exact ⟨r, rfl, HR.out, HB1.out⟩

set_option maxRecDepth 10000 in
set_option maxHeartbeats 1000000 in
theorem phisOk_any (x : BlockD) (cs : List Value) (names : Int) (blocks preds : Nat) (w : World) (Z : Zn) (hv : EBlock w Z x cs) (hD : ∀ b, Z.D b → b < w.heap.size) :
    Calls Tryz.prog 119 #[.agg cs.toArray, .agg #[.int .i64 names, .int .i64 blocks, .int .i64 preds]] w (GivesB (PhisP names preds x.phis) w) := by
  obtain ⟨A0, c0, A1, c1, A2, c2, A3, c3, rfl, ⟨_, A, cc, he, hx⟩, _, _, _⟩ := hv.parts
  injection he with he1 _ he3
  subst he1 he3
  clear hv
  by_cases hlen : x.phis.length ≤ 4
  case neg =>
    have h' : (4 : Int) < (x.phis.length : Int) := by omega
    have HN : Hid (¬ PhisP names preds x.phis) := fun h => hlen h.1
    clear hlen
    go_enter Tryz.func119, Tryz.ntmps119
    go_wp2
    go_ret
    exact gives_no HN.out (((Below.refl _ _).alloc (Nat.le_refl _) _).alloc (by simp) _)
  have h' : (x.phis.length : Int) ≤ 4 := by omega
  go_enter Tryz.func119, Tryz.ntmps119
  go_wp2
  go_loopw [16] (fun i wr => ∃ k : Nat, k ≤ x.phis.length ∧ i = .int .i64 k ∧ Hid (Below (w.heap.size + 2) ((w.alloc (.cells #[.slice A0 x.phis.length c0, .slice A1 x.head.length c1, .slice A2 x.body.length c2, .slice A3 x.tail.length c3, .int .i64 x.fin.k, .int .i64 x.fin.a, .int .i64 x.fin.t, .int .i64 x.fin.l] 69)).alloc (.cells #[.int .i64 names, .int .i64 blocks, .int .i64 preds] 141)) wr) ∧ Hid (∀ (j : Nat) m, j < k → x.phis[j]? = some m → PhiP names preds m)) (fun i _ => x.phis.length - (intOf i).toNat)
  case atStart => exact ⟨0, Nat.zero_le _, rfl, Below.refl _ _, fun _ _ h => absurd h (by omega)⟩
  case round =>
    obtain ⟨k, hk, rfl, HB, H1⟩ := hrel
    have HB0 : Hid (Below w.heap.size w wr) := (((Below.refl _ _).alloc (Nat.le_refl _) _).alloc (by simp) _).trans (HB.out.mono (by omega))
    have hzw : w.heap.size + 2 ≤ wr.heap.size := by have := HB.out.size; simp at this; omega
    have f0 : wr.cell? ⟨w.heap.size + 1, 0, none⟩ = some (.int .i64 names) := (HB.out.cell (p := ⟨w.heap.size + 1, 0, none⟩) (by simp)).trans (by go_simp)
    have f2 : wr.cell? ⟨w.heap.size + 1, 2, none⟩ = some (.int .i64 preds) := (HB.out.cell (p := ⟨w.heap.size + 1, 2, none⟩) (by simp)).trans (by go_simp)
    have hBm : ∀ T : Obj, Below w.heap.size w (wr.alloc T) := fun T => HB0.out.alloc (by omega) _
    have HBm := Lib.hid hBm
    have hl0 : w.heap.size + 1 < wr.heap.size := by omega
    clear hBm
    by_cases hlt : k < x.phis.length
    case neg =>
      obtain rfl : k = x.phis.length := by omega
      go_wp2
      go_ret
      exact gives_yes ⟨hlen, fun j m hm => H1.out j m (List.getElem?_eq_some_iff.1 hm).1 hm⟩ HB0.out
    have hxk : x.phis[k]? = some x.phis[k] := List.getElem?_eq_getElem hlt
    generalize x.phis[k] = p at hxk
    obtain ⟨b, off, rfl, hDb, hrow⟩ := hx (by intro h; rw [h] at hlt; simp at hlt)
    obtain ⟨cs, ⟨u, rfl, hle1, A4, c4, rfl, hux⟩, hcs⟩ := hrow k p hxk
    have hbl := hD b hDb
    have c5 : wr.cell? ⟨b, off + k * 2, none⟩ = some (.int .i64 p.v) := (HB0.out.cell (p := ⟨b, _, none⟩) hbl).trans (hcs 0 _ rfl).1
    have c6 : wr.cell? ⟨b, off + k * 2 + 1, none⟩ = some (.slice A4 p.args.length c4) := (HB0.out.cell (p := ⟨b, _, none⟩) hbl).trans (hcs 1 _ rfl).1
    have Hxk := Lib.hid hxk
    clear hcs hx hxk hrow
    cases hd : isBelowB p.v names
    · have HN : Hid (¬ PhisP names preds x.phis) := fun h => by have := (h.2 k p Hxk.out).1; rw [hd] at this; cases this
      go_wp2_with (go_at_call 93; refine (isBelow_any _ _ _).mono ?_; rintro e w' ⟨rfl, rfl⟩)
      go_ret
      exact gives_no HN.out (HBm.out _)
    by_cases hpl : p.args.length = preds
    case neg =>
      have hb' : ((p.args.length : Int) != (preds : Int)) = true := by simp; omega
      have HN : Hid (¬ PhisP names preds x.phis) := fun h => hpl (h.2 k p Hxk.out).2.1
      clear hpl
      go_wp2_with (go_at_call 93; refine (isBelow_any _ _ _).mono ?_; rintro e w' ⟨rfl, rfl⟩)
      go_ret
      exact gives_no HN.out (HBm.out _)
    have hb' : ((p.args.length : Int) != (preds : Int)) = false := by simp [hpl]
    have HPL := Lib.hid hpl
    clear hpl
    have HD := Lib.hid hd
    go_wp2_with (go_at_call 93; refine (isBelow_any _ _ _).mono ?_; rintro e w' ⟨rfl, rfl⟩)
    clear c5 c6 hd hb'
    go_loop [37] (fun q => ∃ j : Nat, j ≤ p.args.length ∧ q = .int .i64 j ∧ Hid (∀ (j' : Nat) u, j' < j → p.args[j']? = some u → isBelowB u names = true)) (fun q => p.args.length - (intOf q).toNat)
    case atStart => exact ⟨0, Nat.zero_le _, rfl, fun _ _ h => absurd h (by omega)⟩
    case round =>
      obtain ⟨j, hj, rfl, H3⟩ := hrel
      by_cases hjl : j < p.args.length
      case neg =>
        obtain rfl : j = p.args.length := by omega
        have H1' : Hid (∀ (j : Nat) m, j < k + 1 → x.phis[j]? = some m → PhiP names preds m) := fun j m hj hm => by
          by_cases hjk : j = k
          · subst hjk
            rw [Hxk.out] at hm
            injection hm with hm
            subst hm
            exact ⟨HD.out, HPL.out, fun i a ha => H3.out i a (List.getElem?_eq_some_iff.1 ha).1 ha⟩
          · exact H1.out j m (by omega) hm
        go_wp2
        go_roundw
        case rel => exact ⟨k + 1, by omega, by go_num, HB.out.alloc (by omega) _, H1'⟩
        case measure => simp [intOf]; omega
      have hxj : p.args[j]? = some p.args[j] := List.getElem?_eq_getElem hjl
      generalize p.args[j] = u at hxj
      obtain ⟨b', off', rfl, hDb', hcell⟩ := hux (by intro h; rw [h] at hjl; simp at hjl)
      obtain ⟨cs, rfl, hcs⟩ := hcell j u hxj
      have hbl' := hD b' hDb'
      have p0 : wr.cell? ⟨b', off' + j, none⟩ = some (.int .i64 u) := (HB0.out.cell (p := ⟨b', _, none⟩) hbl').trans (by have := (hcs 0 _ rfl).1; rwa [Nat.mul_one] at this)
      have hbw : b' < wr.heap.size := by omega
      have Hxj := Lib.hid hxj
      clear hcell hux hxj hcs
      cases hun : isBelowB u names
      · have HN : Hid (¬ PhisP names preds x.phis) := fun h => by have := (h.2 k p Hxk.out).2.2 j u Hxj.out; rw [hun] at this; cases this
        go_wp2_with (go_at_call 93; refine (isBelow_any _ _ _).mono ?_; rintro e w' ⟨rfl, rfl⟩)
        go_ret
        exact gives_no HN.out (HBm.out _)
      · have H3' : Hid (∀ (j' : Nat) u, j' < j + 1 → p.args[j']? = some u → isBelowB u names = true) := fun j' u' hj' hm' => by
          by_cases e : j' = j
          · subst e
            rw [Hxj.out] at hm'
            injection hm' with hm'
            subst hm'
            exact hun
          · exact H3.out j' u' (by omega) hm'
        go_wp2_with (go_at_call 93; refine (isBelow_any _ _ _).mono ?_; rintro e w' ⟨rfl, rfl⟩)
        go_round
        case rel => exact ⟨j + 1, by omega, by go_num, H3'⟩
        case measure => simp [intOf]; omega

set_option maxRecDepth 10000 in
set_option maxHeartbeats 1000000 in
theorem bodyOk_any (x : BlockD) (cs : List Value) (names : Int) (blocks preds : Nat) (w : World) (Z : Zn) (hv : EBlock w Z x cs) (hD : ∀ b, Z.D b → b < w.heap.size) :
    Calls Tryz.prog 121 #[.agg cs.toArray, .agg #[.int .i64 names, .int .i64 blocks, .int .i64 preds]] w (GivesB (BodyP names x.body) w) := by
  obtain ⟨A0, c0, A1, c1, A2, c2, A3, c3, rfl, _, _, ⟨_, A, cc, he, hx⟩, _⟩ := hv.parts
  injection he with he1 _ he3
  subst he1 he3
  clear hv
  by_cases hlen : x.body.length ≤ 80
  case neg =>
    have h' : (80 : Int) < (x.body.length : Int) := by omega
    have HN : Hid (¬ BodyP names x.body) := fun h => hlen h.1
    clear hlen
    go_enter Tryz.func121, Tryz.ntmps121
    go_wp2
    go_ret
    exact gives_no HN.out (((Below.refl _ _).alloc (Nat.le_refl _) _).alloc (by simp) _)
  have h' : (x.body.length : Int) ≤ 80 := by omega
  go_enter Tryz.func121, Tryz.ntmps121
  go_wp2
  go_loopw [16] (fun i wr => ∃ k : Nat, k ≤ x.body.length ∧ i = .int .i64 k ∧ Hid (Below (w.heap.size + 2) ((w.alloc (.cells #[.slice A0 x.phis.length c0, .slice A1 x.head.length c1, .slice A2 x.body.length c2, .slice A3 x.tail.length c3, .int .i64 x.fin.k, .int .i64 x.fin.a, .int .i64 x.fin.t, .int .i64 x.fin.l] 69)).alloc (.cells #[.int .i64 names, .int .i64 blocks, .int .i64 preds] 141)) wr) ∧ Hid (∀ (j : Nat) m, j < k → x.body[j]? = some m → InsP names m)) (fun i _ => x.body.length - (intOf i).toNat)
  case atStart => exact ⟨0, Nat.zero_le _, rfl, Below.refl _ _, fun _ _ h => absurd h (by omega)⟩
  case round =>
    obtain ⟨k, hk, rfl, HB, H1⟩ := hrel
    have HB0 : Hid (Below w.heap.size w wr) := (((Below.refl _ _).alloc (Nat.le_refl _) _).alloc (by simp) _).trans (HB.out.mono (by omega))
    have hzw : w.heap.size + 2 ≤ wr.heap.size := by have := HB.out.size; simp at this; omega
    have f0 : wr.cell? ⟨w.heap.size + 1, 0, none⟩ = some (.int .i64 names) := (HB.out.cell (p := ⟨w.heap.size + 1, 0, none⟩) (by simp)).trans (by go_simp)
    have hl0 : w.heap.size + 1 < wr.heap.size := by omega
    have hl1 : w.heap.size + 1 < wr.heap.size + 1 := by omega
    by_cases hlt : k < x.body.length
    case neg =>
      obtain rfl : k = x.body.length := by omega
      go_wp2
      go_ret
      exact gives_yes ⟨hlen, fun j m hm => H1.out j m (List.getElem?_eq_some_iff.1 hm).1 hm⟩ HB0.out
    have hxk : x.body[k]? = some x.body[k] := List.getElem?_eq_getElem hlt
    generalize x.body[k] = y at hxk
    obtain ⟨b, off, rfl, hDb, hrow⟩ := hx (by intro h; rw [h] at hlt; simp at hlt)
    obtain ⟨cs, rfl, hcs⟩ := hrow k y hxk
    have hbl := hD b hDb
    have c4 : wr.cell? ⟨b, off + k * 4, none⟩ = some (.int .i64 y.op) := (HB0.out.cell (p := ⟨b, _, none⟩) hbl).trans (hcs 0 _ rfl).1
    have c5 : wr.cell? ⟨b, off + k * 4 + 1, none⟩ = some (.int .i64 y.v) := (HB0.out.cell (p := ⟨b, _, none⟩) hbl).trans (hcs 1 _ rfl).1
    have c6 : wr.cell? ⟨b, off + k * 4 + 2, none⟩ = some (.int .i64 y.a) := (HB0.out.cell (p := ⟨b, _, none⟩) hbl).trans (hcs 2 _ rfl).1
    have c7 : wr.cell? ⟨b, off + k * 4 + 3, none⟩ = some (.int .i64 y.b) := (HB0.out.cell (p := ⟨b, _, none⟩) hbl).trans (hcs 3 _ rfl).1
    have Hxk := Lib.hid hxk
    clear hcs hx hxk hrow
    go_wp2_with fail
    refine (InsOk_any _ _ _ _ _).mono ?_
    rintro e w1 ⟨rfl, hb1⟩
    have hz1 : wr.heap.size + 1 ≤ w1.heap.size := by have := hb1.size; simp at this; omega
    have HB1 := Lib.hid ((HB.out.alloc hzw _).trans (hb1.mono (by simp; omega)))
    have HB01 : Hid (Below w.heap.size w w1) := (((Below.refl _ _).alloc (Nat.le_refl _) _).alloc (by simp) _).trans (HB1.out.mono (by omega))
    obtain ⟨hc1, hf1⟩ := bcellB (hb1.mono (B' := wr.heap.size + 1) (by simp))
    clear hb1 hf1
    cases hok : insOkB y.op y.v y.a y.b
    · have HN : Hid (¬ BodyP names x.body) := fun h => by have := (h.2 k y Hxk.out).1; rw [hok] at this; cases this
      go_wp2_with fail
      go_ret
      exact gives_no HN.out HB01.out
    by_cases hvn : y.v < names
    case neg =>
      have HN : Hid (¬ BodyP names x.body) := fun h => hvn (h.2 k y Hxk.out).2.1
      have hvn' : names ≤ y.v := by omega
      clear hvn
      go_wp2_with fail
      go_ret
      exact gives_no HN.out HB01.out
    have HV := Lib.hid hok
    go_wp2_with fail
    refine (UsesOf_any _ _ _ _ _).mono ?_
    rintro e w2 ⟨r, rfl, hr, hb2⟩
    have hz2 : wr.heap.size + 1 ≤ w2.heap.size := by have := hb2.size; omega
    have HB2 := Lib.hid (HB1.out.trans (hb2.mono (by omega)))
    have HB02 : Hid (Below w.heap.size w w2) := (((Below.refl _ _).alloc (Nat.le_refl _) _).alloc (by simp) _).trans (HB2.out.mono (by omega))
    obtain ⟨hc2, hf2⟩ := bcellB (hb2.mono (B' := wr.heap.size + 1) (by omega))
    have hu := hr.ri
    have hul := usesL_len y.op y.v y.a y.b
    have hpos := uses_pos HV.out
    have HU : Hid (∀ u, u ∈ usesL y.op y.v y.a y.b ↔ ∃ j, (usesL y.op y.v y.a y.b)[j]? = some u) := fun u => List.mem_iff_getElem?
    clear hr hb2 hok hf2
    generalize husl : usesL y.op y.v y.a y.b = us at hu hul HU hpos
    have HUS := Lib.hid husl
    have HPOS := Lib.hid hpos
    clear husl hpos
    obtain ⟨_, A5, c8, rfl, hux⟩ := hu
    go_wp2_with fail
    go_loop [33] (fun q => ∃ j : Nat, j ≤ us.length ∧ q = .int .i64 j ∧ Hid (∀ (j' : Nat) u, j' < j → us[j']? = some u → u < names)) (fun q => us.length - (intOf q).toNat)
    case atStart => exact ⟨0, Nat.zero_le _, rfl, fun _ _ h => absurd h (by omega)⟩
    case round =>
      obtain ⟨j, hj, rfl, H3⟩ := hrel
      by_cases hjl : j < us.length
      case neg =>
        obtain rfl : j = us.length := by omega
        have H1' : Hid (∀ (j : Nat) m, j < k + 1 → x.body[j]? = some m → InsP names m) := fun j m hj hm => by
          by_cases hjk : j = k
          · subst hjk
            rw [Hxk.out] at hm
            injection hm with hm
            subst hm
            refine ⟨HV.out, hvn, fun u hu => ?_⟩
            rw [HUS.out] at hu
            obtain ⟨i, hi⟩ := (HU.out u).1 hu
            exact H3.out i u (List.getElem?_eq_some_iff.1 hi).1 hi
          · exact H1.out j m (by omega) hm
        go_wp2
        go_roundw
        case rel => exact ⟨k + 1, by omega, by go_num, HB2, H1'⟩
        case measure => simp [intOf]; omega
      have hxj : us[j]? = some us[j] := List.getElem?_eq_getElem hjl
      generalize us[j] = u at hxj
      obtain ⟨b', off', rfl, hcell⟩ := hux (by rintro rfl; simp at hjl)
      have Hxj := Lib.hid hxj
      have hp0 : w2.cell? ⟨b', off' + j, none⟩ = some (.int .i64 u) := hcell j u hxj
      have hu0 := HPOS.out u ((HU.out u).2 ⟨j, hxj⟩)
      clear hcell hux hxj c4 c5 c6 c7
      by_cases hun : u < names
      · have hun' : isBelowB u names = true := by simp [isBelowB]; omega
        have H3' : Hid (∀ (j' : Nat) u, j' < j + 1 → us[j']? = some u → u < names) := fun j' u' hj' hm' => by
          by_cases e : j' = j
          · subst e
            rw [Hxj.out] at hm'
            injection hm' with hm'
            subst hm'
            exact hun
          · exact H3.out j' u' (by omega) hm'
        clear hun
        go_wp2_with (go_at_call 93; refine (isBelow_any _ _ _).mono ?_; rintro e w' ⟨rfl, rfl⟩)
        go_round
        case rel => exact ⟨j + 1, by omega, by go_num, H3'⟩
        case measure => simp [intOf]; omega
      · have HN : Hid (¬ BodyP names x.body) := fun h => hun ((h.2 k y Hxk.out).2.2 u (by rw [HUS.out]; exact (HU.out u).2 ⟨j, Hxj.out⟩))
        have hun' : isBelowB u names = false := by simp [isBelowB]; omega
        clear hun
        go_wp2_with (go_at_call 93; refine (isBelow_any _ _ _).mono ?_; rintro e w' ⟨rfl, rfl⟩)
        go_ret
        exact gives_no HN.out HB02.out
end

/- endOk and ok of a block, by the program. -/
section
open Go.ChangeShapes Go.WideShapes Go.ChangeAt Go.RowKit Go.Joins

theorem endOk_cases {e : EndD} (h : endOkB e.k e.a e.t e.l = true) : (e.k = 1 ∧ 0 ≤ e.a ∧ e.t = 0 ∧ e.l = 0) ∨ (e.k = 2 ∧ 0 ≤ e.t ∧ e.l = 0) ∨ (e.k = 3 ∧ 0 ≤ e.a ∧ 0 ≤ e.t ∧ 0 ≤ e.l ∧ e.t ≠ e.l) := by
  unfold endOkB at h
  by_cases h1 : e.k = 1
  · rw [if_pos h1] at h
    simp [isNameB] at h
    exact .inl ⟨h1, h.1.1.1, h.1.2, h.2⟩
  rw [if_neg h1] at h
  by_cases h2 : e.k = 2
  · rw [if_pos h2] at h
    simp [isBelowB] at h
    exact .inr (.inl ⟨h2, h.1.2.1, h.2⟩)
  rw [if_neg h2] at h
  by_cases h3 : e.k = 3
  · rw [if_pos h3] at h
    simp [isBelowB, isNameB] at h
    exact .inr (.inr ⟨h3, h.1.1.1.1, h.1.1.2.1, h.1.2.1, h.2⟩)
  rw [if_neg h3] at h
  cases h

theorem succs_below {e : EndD} {blocks : Nat} (h : endOkB e.k e.a e.t e.l = true) (hb : 1 ≤ blocks) : (∀ u ∈ succsL e.k e.a e.t e.l, isBelowB u blocks = true) ↔ (e.t < blocks ∧ e.l < blocks) := by
  have hs : succsL e.k e.a e.t e.l = toL e.k e.t e.l := by simp [succsL, h]
  rw [hs]
  rcases endOk_cases h with ⟨h1, h2, h3, h4⟩ | ⟨h1, h2, h3⟩ | ⟨h1, h2, h3, h4, h5⟩
  · rw [h1]; simp [toL]; omega
  · rw [h1]; simp [toL, isBelowB]; omega
  · rw [h1]; simp [toL, isBelowB]; omega

theorem end_a {e : EndD} {names : Int} (h : endOkB e.k e.a e.t e.l = true) (h2 : e.k ≠ 2) : isBelowB e.a names = true ↔ e.a < names := by
  rcases endOk_cases h with ⟨h1, h3, _⟩ | ⟨h1, _⟩ | ⟨h1, h3, _⟩
  · simp [isBelowB]; omega
  · exact absurd h1 h2
  · simp [isBelowB]; omega

set_option maxRecDepth 10000 in
set_option maxHeartbeats 1000000 in
theorem endOk_any (x : BlockD) (cs : List Value) (names : Int) (blocks preds : Nat) (w : World) (Z : Zn) (hv : EBlock w Z x cs) (hb : 1 ≤ blocks) :
    Calls Tryz.prog 123 #[.agg cs.toArray, .agg #[.int .i64 names, .int .i64 blocks, .int .i64 preds]] w (GivesB (EndP names blocks x.fin) w) := by
  obtain ⟨A0, c0, A1, c1, A2, c2, A3, c3, rfl, _, _, _, _⟩ := hv.parts
  clear hv
  go_enter Tryz.func123, Tryz.ntmps123
  go_wp2_with fail
  refine (EndOk_any _ _ _ _ _).mono ?_
  rintro e w1 ⟨rfl, hb1⟩
  have HB1 := Lib.hid (hb1.mono (B' := w.heap.size + 2) (by simp))
  have HB01 : Hid (Below w.heap.size w w1) := (((Below.refl _ _).alloc (Nat.le_refl _) _).alloc (by simp) _).trans (HB1.out.mono (by omega))
  have hz1 : w.heap.size + 2 ≤ w1.heap.size := by have := hb1.size; simp at this; omega
  obtain ⟨hc1, hf1⟩ := bcellB HB1.out
  clear hb1 hf1
  cases hok : endOkB x.fin.k x.fin.a x.fin.t x.fin.l
  · have HN : Hid (¬ EndP names blocks x.fin) := fun h => by have := h.1; rw [hok] at this; cases this
    go_wp2_with fail
    go_ret
    exact gives_no HN.out HB01.out
  have HOK := Lib.hid hok
  clear hok
  go_wp2_with fail
  refine (SuccsOf_any _ _ _ _ _).mono ?_
  rintro e w2 ⟨r, rfl, hr, hb2⟩
  have HB2 := Lib.hid (HB1.out.trans (hb2.mono hz1))
  have HB02 : Hid (Below w.heap.size w w2) := (((Below.refl _ _).alloc (Nat.le_refl _) _).alloc (by simp) _).trans (HB2.out.mono (by omega))
  obtain ⟨hc2, hf2⟩ := bcellB (hb2.mono hz1)
  have hu := hr.ri
  have hul := succsL_len x.fin.k x.fin.a x.fin.t x.fin.l
  have HU : Hid (∀ u, u ∈ succsL x.fin.k x.fin.a x.fin.t x.fin.l ↔ ∃ j, (succsL x.fin.k x.fin.a x.fin.t x.fin.l)[j]? = some u) := fun u => List.mem_iff_getElem?
  have HSB := Lib.hid (succs_below HOK.out hb)
  clear hr hb2 hf2
  generalize succsL x.fin.k x.fin.a x.fin.t x.fin.l = us at hu hul HU HSB
  obtain ⟨_, A5, c8, rfl, hux⟩ := hu
  go_wp2_with fail
  go_loop [15] (fun q => ∃ j : Nat, j ≤ us.length ∧ q = .int .i64 j ∧ Hid (∀ (j' : Nat) u, j' < j → us[j']? = some u → isBelowB u blocks = true)) (fun q => us.length - (intOf q).toNat)
  case atStart => exact ⟨0, Nat.zero_le _, rfl, fun _ _ h => absurd h (by omega)⟩
  case round =>
    obtain ⟨j, hj, rfl, H3⟩ := hrel
    by_cases hjl : j < us.length
    case neg =>
      obtain rfl : j = us.length := by omega
      have HTL : Hid (x.fin.t < blocks ∧ x.fin.l < blocks) := HSB.out.1 fun u hu => by
        obtain ⟨i, hi⟩ := (HU.out u).1 hu
        exact H3.out i u (List.getElem?_eq_some_iff.1 hi).1 hi
      by_cases hk2 : x.fin.k = 2
      · have g1 : (x.fin.k == 2) = true := by simpa using hk2
        have HY : Hid (EndP names blocks x.fin) := ⟨HOK.out, .inl hk2, HTL.out.1, HTL.out.2⟩
        clear hk2
        go_wp2_with (go_at_call 93; refine (isBelow_any _ _ _).mono ?_; rintro e w' ⟨rfl, rfl⟩)
        go_ret
        exact gives_yes HY.out HB02.out
      · have g1 : (x.fin.k == 2) = false := by simpa using hk2
        cases hA : isBelowB x.fin.a names
        · have HN : Hid (¬ EndP names blocks x.fin) := fun h => by
            rcases h.2.1 with h | h
            · exact hk2 h
            · have := (end_a (names := names) HOK.out hk2).2 h
              rw [hA] at this; cases this
          clear hk2
          go_wp2_with (go_at_call 93; refine (isBelow_any _ _ _).mono ?_; rintro e w' ⟨rfl, rfl⟩)
          go_ret
          exact gives_no HN.out HB02.out
        · have HY : Hid (EndP names blocks x.fin) := ⟨HOK.out, .inr ((end_a HOK.out hk2).1 hA), HTL.out.1, HTL.out.2⟩
          clear hk2
          go_wp2_with (go_at_call 93; refine (isBelow_any _ _ _).mono ?_; rintro e w' ⟨rfl, rfl⟩)
          go_ret
          exact gives_yes HY.out HB02.out
    have hxj : us[j]? = some us[j] := List.getElem?_eq_getElem hjl
    generalize us[j] = u at hxj
    obtain ⟨b', off', rfl, hcell⟩ := hux (by rintro rfl; simp at hjl)
    have Hxj := Lib.hid hxj
    have hp0 : w2.cell? ⟨b', off' + j, none⟩ = some (.int .i64 u) := hcell j u hxj
    clear hcell hux hxj
    cases hun : isBelowB u blocks
    · have HN : Hid (¬ EndP names blocks x.fin) := fun h => by
        have := HSB.out.2 ⟨h.2.2.1, h.2.2.2⟩ u ((HU.out u).2 ⟨j, Hxj.out⟩)
        rw [hun] at this; cases this
      go_wp2_with (go_at_call 93; refine (isBelow_any _ _ _).mono ?_; rintro e w' ⟨rfl, rfl⟩)
      go_ret
      exact gives_no HN.out HB02.out
    · have H3' : Hid (∀ (j' : Nat) u, j' < j + 1 → us[j']? = some u → isBelowB u blocks = true) := fun j' u' hj' hm' => by
        by_cases e : j' = j
        · subst e
          rw [Hxj.out] at hm'
          injection hm' with hm'
          subst hm'
          exact hun
        · exact H3.out j' u' (by omega) hm'
      go_wp2_with (go_at_call 93; refine (isBelow_any _ _ _).mono ?_; rintro e w' ⟨rfl, rfl⟩)
      go_round
      case rel => exact ⟨j + 1, by omega, by go_num, H3'⟩
      case measure => simp [intOf]; omega
end

/- ok of a block, by the program: all its parts, asked by their method values. -/
section
open Go.ChangeShapes Go.WideShapes Go.ChangeAt Go.RowKit Go.Joins

theorem parts_0 (B : Value) (w : World) : (Instr.index 174 (.agg #[.func (.func 119) #[B] #[], .func (.func 120) #[B] #[], .func (.func 121) #[B] #[], .func (.func 122) #[B] #[], .func (.func 123) #[B] #[]]) (.int .i64 0)).run Tryz.prog w = .ok (.func (.func 119) #[B] #[]) w := by kernel_rfl
theorem parts_1 (B : Value) (w : World) : (Instr.index 174 (.agg #[.func (.func 119) #[B] #[], .func (.func 120) #[B] #[], .func (.func 121) #[B] #[], .func (.func 122) #[B] #[], .func (.func 123) #[B] #[]]) (.int .i64 1)).run Tryz.prog w = .ok (.func (.func 120) #[B] #[]) w := by kernel_rfl
theorem parts_2 (B : Value) (w : World) : (Instr.index 174 (.agg #[.func (.func 119) #[B] #[], .func (.func 120) #[B] #[], .func (.func 121) #[B] #[], .func (.func 122) #[B] #[], .func (.func 123) #[B] #[]]) (.int .i64 2)).run Tryz.prog w = .ok (.func (.func 121) #[B] #[]) w := by kernel_rfl
theorem parts_3 (B : Value) (w : World) : (Instr.index 174 (.agg #[.func (.func 119) #[B] #[], .func (.func 120) #[B] #[], .func (.func 121) #[B] #[], .func (.func 122) #[B] #[], .func (.func 123) #[B] #[]]) (.int .i64 3)).run Tryz.prog w = .ok (.func (.func 122) #[B] #[]) w := by kernel_rfl
theorem parts_4 (B : Value) (w : World) : (Instr.index 174 (.agg #[.func (.func 119) #[B] #[], .func (.func 120) #[B] #[], .func (.func 121) #[B] #[], .func (.func 122) #[B] #[], .func (.func 123) #[B] #[]]) (.int .i64 4)).run Tryz.prog w = .ok (.func (.func 123) #[B] #[]) w := by kernel_rfl

def partP (names : Int) (blocks preds : Nat) (x : BlockD) : Nat → Prop
  | 0 => PhisP names preds x.phis
  | 1 => MovesP names x.head
  | 2 => BodyP names x.body
  | 3 => MovesP names x.tail
  | _ => EndP names blocks x.fin
def BlockAll (names : Int) (blocks preds : Nat) (x : BlockD) : Prop := PhisP names preds x.phis ∧ BlockP names blocks x
theorem all_parts {names : Int} {blocks preds : Nat} {x : BlockD} (h : ∀ j, j < 5 → partP names blocks preds x j) : BlockAll names blocks preds x :=
  ⟨h 0 (by omega), h 4 (by omega), h 1 (by omega), h 3 (by omega), h 2 (by omega)⟩
theorem part_of {names : Int} {blocks preds : Nat} {x : BlockD} (h : BlockAll names blocks preds x) : ∀ j, partP names blocks preds x j
  | 0 => h.1
  | 1 => h.2.2.1
  | 2 => h.2.2.2.2
  | 3 => h.2.2.2.1
  | _ + 4 => h.2.1

set_option maxRecDepth 10000 in
set_option maxHeartbeats 2000000 in
theorem ok_any (x : BlockD) (cs : List Value) (names : Int) (blocks preds : Nat) (w : World) (Z : Zn) (hv : EBlock w Z x cs) (hD : ∀ b, Z.D b → b < w.heap.size) (hnm : names ≤ 150) (hbk : 1 ≤ blocks) :
    Calls Tryz.prog 90 #[.agg cs.toArray, .agg #[.int .i64 names, .int .i64 blocks, .int .i64 preds]] w (GivesB (BlockAll names blocks preds x) w) := by
  have HV := Lib.hid hv
  obtain ⟨A0, c0, A1, c1, A2, c2, A3, c3, rfl, _, _, _, _⟩ := hv.parts
  clear hv
  go_enter Tryz.func90, Tryz.ntmps90
  go_wp2
  go_loopw [18] (fun i wr => ∃ k : Nat, k ≤ 5 ∧ i = .int .i64 k ∧ Hid (Below (w.heap.size + 2) ((w.alloc (.cells #[.slice A0 x.phis.length c0, .slice A1 x.head.length c1, .slice A2 x.body.length c2, .slice A3 x.tail.length c3, .int .i64 x.fin.k, .int .i64 x.fin.a, .int .i64 x.fin.t, .int .i64 x.fin.l] 69)).alloc (.cells #[.int .i64 names, .int .i64 blocks, .int .i64 preds] 141)) wr) ∧ Hid (∀ j, j < k → partP names blocks preds x j)) (fun i _ => 5 - (intOf i).toNat)
  case atStart => exact ⟨0, by omega, rfl, Below.refl _ _, fun _ h => absurd h (by omega)⟩
  case round =>
    obtain ⟨k, hk, rfl, HB, H1⟩ := hrel
    have HB0 : Hid (Below w.heap.size w wr) := (((Below.refl _ _).alloc (Nat.le_refl _) _).alloc (by simp) _).trans (HB.out.mono (by omega))
    have hzw : w.heap.size + 2 ≤ wr.heap.size := by have := HB.out.size; simp at this; omega
    have f0 : wr.cell? ⟨w.heap.size + 1, 0, none⟩ = some (.int .i64 names) := (HB.out.cell (p := ⟨w.heap.size + 1, 0, none⟩) (by simp)).trans (by go_simp)
    have f1 : wr.cell? ⟨w.heap.size + 1, 1, none⟩ = some (.int .i64 blocks) := (HB.out.cell (p := ⟨w.heap.size + 1, 1, none⟩) (by simp)).trans (by go_simp)
    have f2 : wr.cell? ⟨w.heap.size + 1, 2, none⟩ = some (.int .i64 preds) := (HB.out.cell (p := ⟨w.heap.size + 1, 2, none⟩) (by simp)).trans (by go_simp)
    have HVr := Lib.hid (HV.out.keep (Kept.below HB0.out hD))
    have hDr : ∀ b, Z.D b → b < wr.heap.size := fun b hb => by have := hD b hb; omega
    have HDr := Lib.hid hDr
    clear hDr
    by_cases h5 : k = 5
    · subst h5
      go_wp2
      go_ret
      exact gives_yes (all_parts H1.out) HB0.out
    have hstep : ∀ j, j = k → partP names blocks preds x j → ∀ i, i < k + 1 → partP names blocks preds x i := fun j hj hp i hi => by
      by_cases e : i = k
      · subst e; subst hj; exact hp
      · exact H1.out i (by omega)
    have HST := Lib.hid hstep
    clear hstep
    have hk' : k = 0 ∨ k = 1 ∨ k = 2 ∨ k = 3 ∨ k = 4 := by omega
    clear h5 hk
    rcases hk' with rfl | rfl | rfl | rfl | rfl
    · have tb := parts_0 (.agg ([.slice A0 x.phis.length c0, .slice A1 x.head.length c1, .slice A2 x.body.length c2, .slice A3 x.tail.length c3, .int .i64 x.fin.k, .int .i64 x.fin.a, .int .i64 x.fin.t, .int .i64 x.fin.l] : List Value).toArray)
      go_wp2_with fail
      refine (phisOk_any x _ names blocks preds _ Z HVr.out HDr.out).mono ?_
      rintro e w1 ⟨r, rfl, hr, hb1⟩
      have HR := Lib.hid hr
      have HB1 := Lib.hid (HB.out.trans (hb1.mono hzw))
      have HB01 := Lib.hid (HB0.out.trans (hb1.mono HB0.out.size))
      clear hb1 hr tb
      cases r
      · have HN : Hid (¬ BlockAll names blocks preds x) := fun h => by have := HR.out.2 (part_of h 0); cases this
        go_wp2_with fail
        go_ret
        exact gives_no HN.out HB01.out
      · have HP := Lib.hid (HR.out.1 rfl)
        clear HR
        go_wp2_with fail
        go_roundw
        case rel => exact ⟨0 + 1, by omega, by go_num, HB1, HST.out 0 rfl HP.out⟩
        case measure => simp [intOf]
    · have tb := parts_1 (.agg ([.slice A0 x.phis.length c0, .slice A1 x.head.length c1, .slice A2 x.body.length c2, .slice A3 x.tail.length c3, .int .i64 x.fin.k, .int .i64 x.fin.a, .int .i64 x.fin.t, .int .i64 x.fin.l] : List Value).toArray)
      go_wp2_with fail
      refine (headOk_any x _ names blocks preds _ Z HVr.out HDr.out hnm).mono ?_
      rintro e w1 ⟨r, rfl, hr, hb1⟩
      have HR := Lib.hid hr
      have HB1 := Lib.hid (HB.out.trans (hb1.mono hzw))
      have HB01 := Lib.hid (HB0.out.trans (hb1.mono HB0.out.size))
      clear hb1 hr tb
      cases r
      · have HN : Hid (¬ BlockAll names blocks preds x) := fun h => by have := HR.out.2 (part_of h 1); cases this
        go_wp2_with fail
        go_ret
        exact gives_no HN.out HB01.out
      · have HP := Lib.hid (HR.out.1 rfl)
        clear HR
        go_wp2_with fail
        go_roundw
        case rel => exact ⟨1 + 1, by omega, by go_num, HB1, HST.out 1 rfl HP.out⟩
        case measure => simp [intOf]
    · have tb := parts_2 (.agg ([.slice A0 x.phis.length c0, .slice A1 x.head.length c1, .slice A2 x.body.length c2, .slice A3 x.tail.length c3, .int .i64 x.fin.k, .int .i64 x.fin.a, .int .i64 x.fin.t, .int .i64 x.fin.l] : List Value).toArray)
      go_wp2_with fail
      refine (bodyOk_any x _ names blocks preds _ Z HVr.out HDr.out).mono ?_
      rintro e w1 ⟨r, rfl, hr, hb1⟩
      have HR := Lib.hid hr
      have HB1 := Lib.hid (HB.out.trans (hb1.mono hzw))
      have HB01 := Lib.hid (HB0.out.trans (hb1.mono HB0.out.size))
      clear hb1 hr tb
      cases r
      · have HN : Hid (¬ BlockAll names blocks preds x) := fun h => by have := HR.out.2 (part_of h 2); cases this
        go_wp2_with fail
        go_ret
        exact gives_no HN.out HB01.out
      · have HP := Lib.hid (HR.out.1 rfl)
        clear HR
        go_wp2_with fail
        go_roundw
        case rel => exact ⟨2 + 1, by omega, by go_num, HB1, HST.out 2 rfl HP.out⟩
        case measure => simp [intOf]
    · have tb := parts_3 (.agg ([.slice A0 x.phis.length c0, .slice A1 x.head.length c1, .slice A2 x.body.length c2, .slice A3 x.tail.length c3, .int .i64 x.fin.k, .int .i64 x.fin.a, .int .i64 x.fin.t, .int .i64 x.fin.l] : List Value).toArray)
      go_wp2_with fail
      refine (tailOk_any x _ names blocks preds _ Z HVr.out HDr.out hnm).mono ?_
      rintro e w1 ⟨r, rfl, hr, hb1⟩
      have HR := Lib.hid hr
      have HB1 := Lib.hid (HB.out.trans (hb1.mono hzw))
      have HB01 := Lib.hid (HB0.out.trans (hb1.mono HB0.out.size))
      clear hb1 hr tb
      cases r
      · have HN : Hid (¬ BlockAll names blocks preds x) := fun h => by have := HR.out.2 (part_of h 3); cases this
        go_wp2_with fail
        go_ret
        exact gives_no HN.out HB01.out
      · have HP := Lib.hid (HR.out.1 rfl)
        clear HR
        go_wp2_with fail
        go_roundw
        case rel => exact ⟨3 + 1, by omega, by go_num, HB1, HST.out 3 rfl HP.out⟩
        case measure => simp [intOf]
    · have tb := parts_4 (.agg ([.slice A0 x.phis.length c0, .slice A1 x.head.length c1, .slice A2 x.body.length c2, .slice A3 x.tail.length c3, .int .i64 x.fin.k, .int .i64 x.fin.a, .int .i64 x.fin.t, .int .i64 x.fin.l] : List Value).toArray)
      go_wp2_with fail
      refine (endOk_any x _ names blocks preds _ Z HVr.out hbk).mono ?_
      rintro e w1 ⟨r, rfl, hr, hb1⟩
      have HR := Lib.hid hr
      have HB1 := Lib.hid (HB.out.trans (hb1.mono hzw))
      have HB01 := Lib.hid (HB0.out.trans (hb1.mono HB0.out.size))
      clear hb1 hr tb
      cases r
      · have HN : Hid (¬ BlockAll names blocks preds x) := fun h => by have := HR.out.2 (part_of h 4); cases this
        go_wp2_with fail
        go_ret
        exact gives_no HN.out HB01.out
      · have HP := Lib.hid (HR.out.1 rfl)
        clear HR
        go_wp2_with fail
        go_roundw
        case rel => exact ⟨4 + 1, by omega, by go_num, HB1, HST.out 4 rfl HP.out⟩
        case measure => simp [intOf]
end

/- predsOfAll of the program: of each block the blocks that lead to it. -/
section
open Go.ChangeShapes Go.WideShapes Go.ChangeAt Go.RowKit Go.Joins

theorem succsL_nodup (k a t l : Int) : ∀ (i j : Nat) u, i < j → (succsL k a t l)[i]? = some u → (succsL k a t l)[j]? ≠ some u := by
  intro i j u hij hi hj
  unfold succsL at hi hj
  by_cases h : endOkB k a t l = true
  · rw [if_pos h] at hi hj
    unfold toL at hi hj
    by_cases h2 : k = 2
    · rw [if_pos h2] at hi hj
      have := (List.getElem?_eq_some_iff.1 hj).1
      simp at this
      omega
    · rw [if_neg h2] at hi hj
      by_cases h3 : k = 3
      · rw [if_pos h3] at hi hj
        have := (List.getElem?_eq_some_iff.1 hj).1
        simp at this
        obtain rfl : i = 0 := by omega
        obtain rfl : j = 1 := by omega
        simp at hi hj
        unfold endOkB at h
        rw [if_neg (by omega), if_neg h2, if_pos h3] at h
        simp at h
        exact h.2 (hi.trans hj.symm)
      · rw [if_neg h3] at hi; simp at hi
  · rw [if_neg h] at hi; simp at hi

/-- Row G holds n rows of the call's own, from block B on, no two of them in one block. -/
def PRow (w : World) (B G n : Nat) (row : Nat → List Int) : Prop :=
  ∃ cur : Array Value, w.heap[G]? = some (.cells cur 27 (0, 0)) ∧ cur.size = n ∧ (∀ j, j < n → ∃ v, cur[j]? = some v ∧ OI w B v (row j)) ∧
    ∀ (i j : Nat) (u v : Value), i ≠ j → cur[i]? = some u → cur[j]? = some v → u.ownBlock = none ∨ u.ownBlock ≠ v.ownBlock

theorem PRow.start {w : World} (n : Nat) : PRow (w.alloc (.cells (madeCells #[.slice none 0 0] n) 27)) (w.heap.size + 1) w.heap.size n fun _ => [] := by
  have hc : ∀ j v, (madeCells #[.slice none 0 0] n)[j]? = some v → v = Value.slice none 0 0 := fun j v hv => by
    rw [← Array.getElem?_toList, toList_madeCells_one] at hv
    exact (List.mem_replicate.1 (List.mem_of_getElem? hv)).2
  refine ⟨_, heap_alloc_new w _, size_madeCells _ _, fun j hj => ?_, fun i j u v _ hu _ => ?_⟩
  · refine ⟨_, Array.getElem?_eq_getElem (by rw [size_madeCells]; exact hj), ?_⟩
    rw [hc j _ (Array.getElem?_eq_getElem (by rw [size_madeCells]; exact hj))]
    exact World.ownsRow_nil _ _ _ _
  · rw [hc i u hu]; exact .inl rfl

theorem PRow.get {w : World} {B G n : Nat} {row : Nat → List Int} (h : PRow w B G n row) {j : Nat} (hj : j < n) : ∃ v, w.cell? ⟨G, j, none⟩ = some v ∧ OI w B v (row j) := by
  obtain ⟨cur, h1, h2, h3, _⟩ := h
  obtain ⟨v, hv, ho⟩ := h3 j hj
  exact ⟨v, (cell_of_row w G j cur _ (0, 0) h1).trans hv, ho⟩
theorem PRow.frozen {w : World} {B G n : Nat} {row : Nat → List Int} (h : PRow w B G n row) (j : Nat) : w.frozen? ⟨G, j, none⟩ = false := by
  obtain ⟨cur, h1, _⟩ := h
  simp [World.frozen?, h1]
theorem PRow.lt {w : World} {B G n : Nat} {row : Nat → List Int} (h : PRow w B G n row) : G < w.heap.size := by
  obtain ⟨cur, h1, _⟩ := h
  exact (Array.getElem?_eq_some_iff.1 h1).1
theorem PRow.below {w w' : World} {B G n : Nat} {row : Nat → List Int} (h : PRow w B G n row) (hb : Below w.heap.size w w') : PRow w' B G n row := by
  have hG := h.lt
  obtain ⟨cur, h1, h2, h3, h4⟩ := h
  refine ⟨cur, (hb.block _ hG).trans h1, h2, fun j hj => ?_, h4⟩
  obtain ⟨v, hv, ho⟩ := h3 j hj
  exact ⟨v, hv, ho.below hb fun k hk => (ho.lt k hk).2⟩
theorem PRow.congr {w : World} {B G n : Nat} {row row' : Nat → List Int} (h : PRow w B G n row) (he : ∀ j, j < n → row' j = row j) : PRow w B G n row' := by
  obtain ⟨cur, h1, h2, h3, h4⟩ := h
  exact ⟨cur, h1, h2, fun j hj => by rw [he j hj]; exact h3 j hj, h4⟩

/-- One row has got one more, and lies perhaps elsewhere. -/
theorem PRow.append {w w' : World} {B G n j : Nat} {row : Nat → List Int} {v v' : Value} {ys : List Int} (h : PRow w B G n row) (hj : j < n) (hB : B = G + 1) (hc : w.cell? ⟨G, j, none⟩ = some v) (ho : OI w' B v' ys)
    (hg : w.grownBy w' v.ownBlock) (hat : v'.ownBlock = v.ownBlock ∨ ∃ k, v'.ownBlock = some k ∧ w.heap.size ≤ k) : PRow (w'.setCell ⟨G, j, none⟩ v') B G n fun i => if i = j then ys else row i := by
  have hG := h.lt
  obtain ⟨cur, h1, h2, h3, h4⟩ := h
  obtain ⟨v0, hv0, ho0⟩ := h3 j hj
  have hvj : cur[j]? = some v := (cell_of_row w G j cur _ (0, 0) h1).symm.trans hc
  rw [hvj] at hv0
  injection hv0 with hv0
  subst hv0
  have hne : some G ≠ v.ownBlock := fun e => by have := (ho0.lt G e.symm).1; omega
  have h1' : w'.heap[G]? = some (.cells cur 27 (0, 0)) := (hg.block G hG hne).trans h1
  have hset := heap_setCell_same w' G j cur _ v' h1'
  have hfar : ∀ {u : Value} {xs : List Int}, OI w' B u xs → OI (w'.setCell ⟨G, j, none⟩ v') B u xs := fun {u xs} hu => by
    have hgr : w'.grownBy (w'.setCell ⟨G, j, none⟩ v') (some G) := set_grown w' G j v'
    refine hu.grown hgr ?_
    rcases hob : u.ownBlock with _ | k
    · exact .inl rfl
    · refine .inr fun e => ?_
      injection e with e
      have := (hu.lt k hob).1
      omega
  refine ⟨cur.setIfInBounds j v', hset, by simpa using h2, fun i hi => ?_, fun i i' u u' hii hu hu' => ?_⟩
  · by_cases e : i = j
    · subst e
      rw [Array.getElem?_setIfInBounds, if_pos rfl, if_pos (by omega)]
      simp only [if_true]
      exact ⟨v', rfl, hfar ho⟩
    · rw [Array.getElem?_setIfInBounds, if_neg (by omega)]
      simp only [if_neg e]
      obtain ⟨x, hx, hox⟩ := h3 i hi
      exact ⟨x, hx, hfar (hox.grown hg (h4 i j x v e hx hvj))⟩
  · rw [Array.getElem?_setIfInBounds] at hu hu'
    by_cases e : j = i
    · subst e
      rw [if_pos rfl, if_pos (by omega)] at hu
      rw [if_neg hii] at hu'
      injection hu with hu
      subst hu
      rcases hat with h | ⟨k, h, hk⟩
      · rw [h]; exact h4 j i' v u' hii hvj hu'
      · rw [h]
        refine .inr fun e => ?_
        obtain ⟨x, hx, hox⟩ := h3 i' (by have := (Array.getElem?_eq_some_iff.1 hu').1; omega)
        rw [hu'] at hx
        injection hx with hx
        subst hx
        have := (hox.lt k e.symm).2
        omega
    · rw [if_neg e] at hu
      by_cases e' : j = i'
      · subst e'
        rw [if_pos rfl, if_pos (by omega)] at hu'
        injection hu' with hu'
        subst hu'
        rcases hat with h | ⟨k, h, hk⟩
        · rw [h]; exact h4 i j u v hii hu hvj
        · rw [h]
          rcases hob : u.ownBlock with _ | k'
          · exact .inl rfl
          · refine .inr fun e => ?_
            obtain ⟨x, hx, hox⟩ := h3 i (by have := (Array.getElem?_eq_some_iff.1 hu).1; omega)
            rw [hu] at hx
            injection hx with hx
            subst hx
            have := (hox.lt k' hob).2
            injection e with e
            omega
      · rw [if_neg e'] at hu'
        exact h4 i i' u u' hii hu hu'

/-- No row of G lies in a block from lo on, below hi. -/
def PAvoid (w : World) (G lo hi : Nat) : Prop := ∀ (j : Nat) (v : Value) (k : Nat), w.cell? ⟨G, j, none⟩ = some v → v.ownBlock = some k → k < lo ∨ hi ≤ k
theorem PAvoid.start {w : World} {B G n : Nat} {row : Nat → List Int} (h : PRow w B G n row) (hi : Nat) : PAvoid w G w.heap.size hi := by
  intro j v k hv hk
  have hj : j < n := by
    obtain ⟨cur, h1, h2, _⟩ := h
    rw [cell_of_row w G j cur _ (0, 0) h1] at hv
    have := (Array.getElem?_eq_some_iff.1 hv).1
    omega
  obtain ⟨u, hu, ho⟩ := h.get hj
  rw [hv] at hu
  injection hu with hu
  subst hu
  exact .inl (ho.lt k hk).2
theorem PAvoid.below {w w' : World} {G lo hi : Nat} (h : PAvoid w G lo hi) (hb : Below w.heap.size w w') (hG : G < w.heap.size) : PAvoid w' G lo hi := by
  intro j v k hv hk
  exact h j v k ((hb.cell (p := ⟨G, j, none⟩) hG).symm.trans hv) hk
theorem PAvoid.append {w w' : World} {G lo hi j : Nat} {v v' : Value} (h : PAvoid w G lo hi) (hG : G < w.heap.size) (hne : some G ≠ v.ownBlock) (hc : w.cell? ⟨G, j, none⟩ = some v) (hg : w.grownBy w' v.ownBlock)
    (hat : v'.ownBlock = v.ownBlock ∨ ∃ k, v'.ownBlock = some k ∧ w.heap.size ≤ k) (hhi : hi ≤ w.heap.size) : PAvoid (w'.setCell ⟨G, j, none⟩ v') G lo hi := by
  have hcw : ∀ i : Nat, w'.cell? ⟨G, i, none⟩ = w.cell? ⟨G, i, none⟩ := fun i => World.cell?_of_block (a := ⟨G, i, none⟩) (hg.block G hG hne)
  intro i u k hu hk
  by_cases e : i = j
  · subst e
    rw [World.cell?_setCell_same w' ⟨G, i, none⟩ v' ((hcw i).trans hc)] at hu
    injection hu with hu
    subst hu
    rcases hat with h' | ⟨k', h', hk'⟩
    · rw [h'] at hk; exact h i v k hc hk
    · rw [h'] at hk
      injection hk with hk
      omega
  · rw [World.cell?_setCell_other _ _ _ _ (by intro e'; injection e' with _ e'; omega), hcw i] at hu
    exact h i u k hu hk

def rowM (xs : List BlockD) (us : List Int) (k m j : Nat) : List Int := predsK succsE xs k j ++ if hasB (us.take m) j then [(k : Int)] else []
theorem rowM_zero (xs : List BlockD) (us : List Int) (k j : Nat) : rowM xs us k 0 j = predsK succsE xs k j := by simp [rowM, hasB]
theorem hasB_take {us : List Int} {m : Nat} {u : Int} (h : us[m]? = some u) (j : Int) : hasB (us.take (m + 1)) j = (hasB (us.take m) j || decide (u = j)) := by
  unfold hasB
  rw [List.take_add_one, h, Bool.eq_iff_iff]
  simp
  constructor
  · rintro (h | h)
    · exact .inl h
    · exact .inr h.symm
  · rintro (h | h)
    · exact .inl h
    · exact .inr h.symm
theorem not_took {us : List Int} {m : Nat} {u : Int} (hn : ∀ (i j : Nat) u, i < j → us[i]? = some u → us[j]? ≠ some u) (h : us[m]? = some u) : hasB (us.take m) u = false := by
  cases hb : hasB (us.take m) u with
  | false => rfl
  | true =>
    rw [hasB_iff] at hb
    obtain ⟨i, hi⟩ := List.mem_iff_getElem?.1 hb
    have him : i < m := by
      rcases Nat.lt_or_ge i m with h | h
      · exact h
      · rw [List.getElem?_take, if_neg (by omega)] at hi; cases hi
    rw [List.getElem?_take, if_pos him] at hi
    exact absurd h (hn i m u him hi)
theorem rowM_other {xs : List BlockD} {us : List Int} {k m j : Nat} {u : Int} (h : us[m]? = some u) (hj : u ≠ j) : rowM xs us k (m + 1) j = rowM xs us k m j := by
  unfold rowM
  rw [hasB_take h, show decide (u = (j : Int)) = false by simpa using hj, Bool.or_false]
theorem rowM_same {xs : List BlockD} {us : List Int} {k m j : Nat} (hn : ∀ (i j : Nat) u, i < j → us[i]? = some u → us[j]? ≠ some u) (h : us[m]? = some (j : Int)) : rowM xs us k (m + 1) j = rowM xs us k m j ++ [(k : Int)] := by
  unfold rowM
  rw [hasB_take h, not_took hn h]
  simp
theorem rowM_all {xs : List BlockD} {k : Nat} {x : BlockD} (h : xs[k]? = some x) (j : Nat) : rowM xs (succsE x.fin) k (succsE x.fin).length j = predsK succsE xs (k + 1) j := by
  unfold rowM
  rw [predsK_succ succsE j h, List.take_length]
theorem rowM_len (xs : List BlockD) (us : List Int) (k m j : Nat) : (rowM xs us k m j).length ≤ k + 1 := by
  unfold rowM
  have := predsK_len succsE xs k j
  rw [List.length_append]
  split <;> simp <;> omega
end

/- sizesOk and predsOfAll of the program. -/
section
open Go.ChangeShapes Go.WideShapes Go.ChangeAt Go.RowKit Go.Joins

set_option maxHeartbeats 1000000 in
theorem sizesOk_any (f : FunD) (A : Option Addr) (c : Nat) (w : World) (hle : f.blocks.length ≤ 9223372036854775807) :
    Calls Tryz.prog 89 #[.agg #[.int .i64 f.params, .int .i64 f.names, .slice A f.blocks.length c]] w (GivesB (FrameHead f) w) := by
  have hB : Below w.heap.size w (w.alloc (.cells #[.int .i64 f.params, .int .i64 f.names, .slice A f.blocks.length c] 26)) := (Below.refl _ _).alloc (Nat.le_refl _) _
  by_cases h : FrameHead f
  · have HY := Lib.hid h
    obtain ⟨⟨h1, h2⟩, ⟨h3, h4⟩, ⟨h5, h6⟩, h7⟩ := h
    have h1' : 1 ≤ (f.blocks.length : Int) := by omega
    have h2' : (f.blocks.length : Int) ≤ 40 := by omega
    go_enter Tryz.func89, Tryz.ntmps89
    go_wp2
    go_ret
    refine ⟨true, ?_, by simpa using HY.out, hB⟩
    simp
    try omega
  · have HN := Lib.hid h
    by_cases h1 : 1 ≤ f.blocks.length
    case neg =>
      have h1' : (f.blocks.length : Int) < 1 := by omega
      clear h1 h
      go_enter Tryz.func89, Tryz.ntmps89
      go_wp2
      go_ret
      exact gives_no HN.out hB
    by_cases h2 : f.blocks.length ≤ 40
    case neg =>
      have h2' : (40 : Int) < (f.blocks.length : Int) := by omega
      clear h2 h
      go_enter Tryz.func89, Tryz.ntmps89
      go_wp2
      go_ret
      exact gives_no HN.out hB
    have h1' : 1 ≤ (f.blocks.length : Int) := by omega
    have h2' : (f.blocks.length : Int) ≤ 40 := by omega
    by_cases h3 : 0 ≤ f.params
    case neg =>
      have h3' : f.params < 0 := by omega
      clear h h3
      go_enter Tryz.func89, Tryz.ntmps89
      go_wp2
      go_ret
      exact gives_no HN.out hB
    by_cases h4 : f.params ≤ 6
    case neg =>
      have h4' : 6 < f.params := by omega
      clear h h4
      go_enter Tryz.func89, Tryz.ntmps89
      go_wp2
      go_ret
      exact gives_no HN.out hB
    by_cases h5 : f.params ≤ f.names
    case neg =>
      have h5' : f.names < f.params := by omega
      clear h h5
      go_enter Tryz.func89, Tryz.ntmps89
      go_wp2
      go_ret
      exact gives_no HN.out hB
    have h6 : 150 < f.names := by
      rcases Int.lt_or_le 150 f.names with h6 | h6
      · exact h6
      · exact absurd ⟨⟨h1, h2⟩, ⟨by omega, h6⟩, ⟨h3, h4⟩, h5⟩ h
    clear h
    go_enter Tryz.func89, Tryz.ntmps89
    go_wp2
    go_ret
    refine ⟨false, ?_, by simpa using HN.out, hB⟩
    simp
    try omega

theorem info_ints : (Tryz.prog.info? 27).map (fun i => (i.zero, i.size, i.bytes)) = some (some (.slice none 0 0), 1, 24) := by kernel_rfl

def GivesPRow (n : Nat) (row : Nat → List Int) (w : World) (e : Ending) (w' : World) : Prop := e = .returned (.slice (some ⟨w.heap.size, 0, none⟩) n n) ∧ PRow w' (w.heap.size + 1) w.heap.size n row ∧ Below w.heap.size w w'

set_option maxRecDepth 10000 in
set_option maxHeartbeats 1000000 in
theorem predsOfAll_any (v : Value) (xs : List BlockD) (w : World) (Z : Zn) (hv : Row w Z 8 (EBlock w Z) v xs) (hD : ∀ b, Z.D b → b < w.heap.size) (hn : xs.length ≤ 1048576) :
    Calls Tryz.prog 62 #[v] w (GivesPRow xs.length (fun j => predsK succsE xs xs.length j) w) := by
  obtain ⟨_, A, c, rfl, hx⟩ := hv
  obtain ⟨i0, hi, hz0, hz1, hz2⟩ := info_parts info_ints
  have hmk := fun W => run_make_rowN (P := Tryz.prog) 57 27 i0 _ Tryz.underlying57 hi hz0 .i64 .i64 xs.length xs.length (Nat.le_refl _) (by rw [hz2]; omega) (by omega) W
  rw [hz1] at hmk
  clear hi hz0 hz1 hz2
  go_enter Tryz.func62, Tryz.ntmps62
  go_wp2
  go_loopw [13] (fun i wr => ∃ k : Nat, k ≤ xs.length ∧ i = .int .i64 k ∧ Hid (Below w.heap.size w wr) ∧ w.heap.size < wr.heap.size ∧ Hid (PRow wr (w.heap.size + 1) w.heap.size xs.length (fun j => predsK succsE xs k j))) (fun i _ => xs.length - (intOf i).toNat)
  case atStart => exact ⟨0, Nat.zero_le _, rfl, (Below.refl _ _).alloc (Nat.le_refl _) _, by simp, PRow.start xs.length⟩
  case round =>
    obtain ⟨k, hk, rfl, HB, hsz, HP⟩ := hrel
    by_cases hlt : k < xs.length
    case neg =>
      obtain rfl : k = xs.length := by omega
      go_wp2
      go_ret
      exact ⟨rfl, HP.out, HB.out⟩
    have hxk : xs[k]? = some xs[k] := List.getElem?_eq_getElem hlt
    generalize xs[k] = x at hxk
    obtain ⟨b, off, rfl, hDb, hrow⟩ := hx (by rintro rfl; simp at hlt)
    obtain ⟨cs, hE, hcs⟩ := hrow k x hxk
    have hbl := hD b hDb
    obtain ⟨v0, v1, v2, v3, rfl, ⟨_, A0, q0, rfl, _⟩, ⟨_, A1, q1, rfl, _⟩, ⟨_, A2, q2, rfl, _⟩, ⟨_, A3, q3, rfl, _⟩⟩ := hE
    have c0 : wr.cell? ⟨b, off + k * 8, none⟩ = some (.slice A0 x.phis.length q0) := (HB.out.cell (p := ⟨b, _, none⟩) hbl).trans (hcs 0 _ rfl).1
    have c1 : wr.cell? ⟨b, off + k * 8 + 1, none⟩ = some (.slice A1 x.head.length q1) := (HB.out.cell (p := ⟨b, _, none⟩) hbl).trans (hcs 1 _ rfl).1
    have c2 : wr.cell? ⟨b, off + k * 8 + 2, none⟩ = some (.slice A2 x.body.length q2) := (HB.out.cell (p := ⟨b, _, none⟩) hbl).trans (hcs 2 _ rfl).1
    have c3 : wr.cell? ⟨b, off + k * 8 + 3, none⟩ = some (.slice A3 x.tail.length q3) := (HB.out.cell (p := ⟨b, _, none⟩) hbl).trans (hcs 3 _ rfl).1
    have c4 : wr.cell? ⟨b, off + k * 8 + 4, none⟩ = some (.int .i64 x.fin.k) := (HB.out.cell (p := ⟨b, _, none⟩) hbl).trans (hcs 4 _ rfl).1
    have c5 : wr.cell? ⟨b, off + k * 8 + 5, none⟩ = some (.int .i64 x.fin.a) := (HB.out.cell (p := ⟨b, _, none⟩) hbl).trans (hcs 5 _ rfl).1
    have c6 : wr.cell? ⟨b, off + k * 8 + 6, none⟩ = some (.int .i64 x.fin.t) := (HB.out.cell (p := ⟨b, _, none⟩) hbl).trans (hcs 6 _ rfl).1
    have c7 : wr.cell? ⟨b, off + k * 8 + 7, none⟩ = some (.int .i64 x.fin.l) := (HB.out.cell (p := ⟨b, _, none⟩) hbl).trans (hcs 7 _ rfl).1
    have Hxk := Lib.hid hxk
    clear hcs hx hxk hrow
    go_wp2_with fail
    refine (SuccsOf_any _ _ _ _ _).mono ?_
    rintro e w1 ⟨r, rfl, hr, hb1⟩
    have hz1 : wr.heap.size + 1 ≤ w1.heap.size := by have := hb1.size; simp at this; omega
    have HB1 := Lib.hid ((HB.out.alloc (Nat.le_of_lt hsz) _).trans (hb1.mono (by simp; omega)))
    have HPa := HP.out.below ((Below.refl _ _).trans (((Below.refl wr.heap.size wr).alloc (Nat.le_refl _) _).trans (hb1.mono (by simp))))
    have hu := hr.ri
    have HW := Lib.hid hr
    have hul := succsL_len x.fin.k x.fin.a x.fin.t x.fin.l
    have HND := Lib.hid (succsL_nodup x.fin.k x.fin.a x.fin.t x.fin.l)
    have HAll : Hid (∀ j, rowM xs (succsL x.fin.k x.fin.a x.fin.t x.fin.l) k (succsL x.fin.k x.fin.a x.fin.t x.fin.l).length j = predsK succsE xs (k + 1) j) := fun j => rowM_all Hxk.out j
    have HP1 : Hid (PRow w1 (w.heap.size + 1) w.heap.size xs.length (rowM xs (succsL x.fin.k x.fin.a x.fin.t x.fin.l) k 0)) := HPa.congr fun j _ => rowM_zero xs _ k j
    have HAV : Hid (PAvoid w1 w.heap.size wr.heap.size w1.heap.size) := (PAvoid.start HP.out _).below (((Below.refl wr.heap.size wr).alloc (Nat.le_refl _) _).trans (hb1.mono (by simp))) hsz
    clear hb1 HPa HB HP hr
    generalize succsL x.fin.k x.fin.a x.fin.t x.fin.l = us at hu hul HND HAll HP1 HW
    obtain ⟨_, A5, q5, rfl, _⟩ := hu
    go_wp2_with fail
    clear c0 c1 c2 c3 c4 c5 c6 c7
    have HW1 : Hid (OI w1 (wr.heap.size + 1) (.slice A5 us.length q5) us) := World.ownsRow.mono HW.out (by simp)
    clear HW
    obtain ⟨lo, hlo⟩ : ∃ lo, lo = wr.heap.size := ⟨_, rfl⟩
    rw [← hlo] at HAV HW1 hz1 hsz
    have hlo' : lo ≤ wr.heap.size := by omega
    clear hlo
    go_loopw [22] (fun q wq => ∃ m : Nat, m ≤ us.length ∧ q = .int .i64 m ∧ Hid (Below w.heap.size w wq) ∧ w1.heap.size ≤ wq.heap.size ∧ Hid (PRow wq (w.heap.size + 1) w.heap.size xs.length (rowM xs us k m)) ∧ Hid (PAvoid wq w.heap.size lo w1.heap.size) ∧ Hid (OI wq (lo + 1) (.slice A5 us.length q5) us)) (fun q _ => us.length - (intOf q).toNat)
    case atStart => exact ⟨0, Nat.zero_le _, rfl, HB1.out, Nat.le_refl _, HP1.out, HAV.out, HW1.out⟩
    case round =>
      obtain ⟨m, hm, rfl, HBq, hsq, HPq, HAq, HOq⟩ := hrel
      by_cases hml : m < us.length
      case neg =>
        obtain rfl : m = us.length := by omega
        go_wp2
        go_roundw
        case rel => exact ⟨k + 1, by omega, by go_num, HBq.out, by omega, HPq.out.congr fun j _ => (HAll.out j).symm⟩
        case measure => simp [intOf]; omega
      have hum : us[m]? = some us[m] := List.getElem?_eq_getElem hml
      generalize us[m] = u at hum
      obtain ⟨_, A6, q6, he6, hux⟩ := HOq.out.ri
      injection he6 with e1 _ e2
      subst e1 e2
      obtain ⟨b', off', rfl, hcell⟩ := hux (by rintro rfl; simp at hml)
      have p0 := hcell m u hum
      have Hum := Lib.hid hum
      clear hcell hux hum
      cases hun : isBelowB u xs.length
      · have hcg : Hid (PRow wr (w.heap.size + 1) w.heap.size xs.length (rowM xs us k (m + 1))) := HPq.out.congr fun j hj => rowM_other Hum.out fun e => by
          subst e
          simp [isBelowB] at hun
          omega
        go_wp2_with (go_at_call 93; refine (isBelow_any _ _ _).mono ?_; rintro e w' ⟨rfl, rfl⟩)
        go_roundw
        case rel => exact ⟨m + 1, by omega, by go_num, HBq.out, hsq, hcg, HAq.out, HOq.out⟩
        case measure => simp [intOf]; omega
      have hul0 : 0 ≤ u ∧ u < xs.length := by simpa [isBelowB] using hun
      obtain ⟨t, rfl⟩ : ∃ t : Nat, u = t := ⟨u.toNat, by omega⟩
      have htn : t < xs.length := by omega
      have htn' : (t : Int) < (xs.length : Int) := by omega
      have ht0 : 0 ≤ (t : Int) := by omega
      obtain ⟨v, hcv, hov⟩ := HPq.out.get htn
      have hfz := HPq.out.frozen t
      have hrl := rowM_len xs us k m t
      have HOV := Lib.hid hov
      obtain ⟨_, A7, q7, rfl, _⟩ := hov.ri
      clear hov hul0
      have hne : some w.heap.size ≠ (Value.slice A7 (rowM xs us k m t).length q7).ownBlock := fun e => by have := (HOV.out.lt _ e.symm).1; omega
      have hGw : w.heap.size < wr.heap.size := by omega
      go_wp2_with (first
        | (go_at_call 93; refine (isBelow_any _ _ _).mono ?_; rintro e w' ⟨rfl, rfl⟩)
        | (at_builtin; go_must (refine wpList_append_int rfl (.tmp 35) (.tmp 37) rfl (w.heap.size + 1) _ (rowM xs us k m t) k wr rfl HOV.out rfl (by omega) (by omega) ?_; intro v' w2 hown2 hg2 hat2; have HO2 := Lib.hid hown2; have HG2 := Lib.hid hg2; have HA2 := Lib.hid hat2; obtain ⟨_, A8, q8, rfl, _⟩ := hown2.ri; have d0 := (World.cell?_of_block (a := ⟨w.heap.size, t, none⟩) (hg2.block _ hGw hne)).trans hcv; have df := (World.frozen?_of_block (a := ⟨w.heap.size, t, none⟩) (hg2.block _ hGw hne)).trans hfz; clear hown2 hg2 hat2)))
      have HPn := Lib.hid (HPq.out.append htn rfl hcv HO2.out HG2.out HA2.out)
      have HAn := Lib.hid (HAq.out.append hGw hne hcv HG2.out HA2.out hsq)
      have hb5 := HW1.out.lt b' rfl
      have hus : (Value.slice (some ⟨b', off', none⟩) us.length q5).ownBlock ≠ (Value.slice A7 (rowM xs us k m t).length q7).ownBlock := fun e => by
        have := HAq.out t _ b' hcv e.symm
        omega
      have HOn := Lib.hid ((HOq.out.grown HG2.out (.inr hus)).grown (set_grown w2 w.heap.size t (.slice A8 (rowM xs us k m t ++ [(k : Int)]).length q8)) (.inr fun e => by injection e with e; simp at e; omega))
      have HBn := Lib.hid ((HBq.out.grown HG2.out (by omega) (fun kk hkk => by have := (HOV.out.lt kk hkk).1; omega)).setCell (p := ⟨w.heap.size, t, none⟩) (Nat.le_refl _) (.slice A8 (rowM xs us k m t ++ [(k : Int)]).length q8))
      have hz2 := HG2.out.size
      have HPn' : Hid (PRow (w2.setCell ⟨w.heap.size, t, none⟩ (.slice A8 (rowM xs us k m t ++ [(k : Int)]).length q8)) (w.heap.size + 1) w.heap.size xs.length (rowM xs us k (m + 1))) := HPn.out.congr fun i _ => by
        by_cases e : i = t
        · subst e
          rw [if_pos rfl, rowM_same HND.out Hum.out]
        · rw [if_neg e]
          exact rowM_other Hum.out fun h => e (by omega)
      have el : (rowM xs us k m t ++ [(k : Int)]).length = (rowM xs us k m t).length + 1 := by simp
      rw [el] at HBn HPn' HAn HOn
      clear el HPn HO2 HG2 HA2 HAq HPq HOq HBq HOV hcv p0 hfz d0 df hb5
      go_wp2_with fail
      go_roundw
      case rel => exact ⟨m + 1, by omega, by go_num, HBn.out, by rw [nblk_set]; omega, HPn'.out, HAn.out, HOn.out⟩
      case measure => simp [intOf]; omega
end

end Go.Proofs.YtnjmlhokkhkaaaaGreat
