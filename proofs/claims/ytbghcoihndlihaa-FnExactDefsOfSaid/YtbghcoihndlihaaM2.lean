/- The parts of a block, held against a setting, by the program. -/
import Derived.Test.YtbghcoihndlihaaM1
namespace Go.Proofs.Ytbghcoihndlihaa
open Go.ChangeShapes Go.WideShapes Go.ChangeAt Go.RowKit Go.Joins

theorem EBlock.parts {w : World} {Z : Zn} {x : BlockD} {cs : List Value} (h : EBlock w Z x cs) : ∃ A0 c0 A1 c1 A2 c2 A3 c3, cs = [.slice A0 x.phis.length c0, .slice A1 x.head.length c1, .slice A2 x.body.length c2, .slice A3 x.tail.length c3, .int .i64 x.fin.k, .int .i64 x.fin.a, .int .i64 x.fin.t, .int .i64 x.fin.l] ∧
    Row w Z 2 (EPhi w Z) (.slice A0 x.phis.length c0) x.phis ∧ Row w Z 2 EMove (.slice A1 x.head.length c1) x.head ∧ Row w Z 4 EIns (.slice A2 x.body.length c2) x.body ∧ Row w Z 2 EMove (.slice A3 x.tail.length c3) x.tail := by
  obtain ⟨v0, v1, v2, v3, rfl, h0, h1, h2, h3⟩ := h
  have k0 := h0
  have k1 := h1
  have k2 := h2
  have k3 := h3
  obtain ⟨_, A0, c0, rfl, _⟩ := h0
  obtain ⟨_, A1, c1, rfl, _⟩ := h1
  obtain ⟨_, A2, c2, rfl, _⟩ := h2
  obtain ⟨_, A3, c3, rfl, _⟩ := h3
  exact ⟨A0, c0, A1, c1, A2, c2, A3, c3, rfl, k0, k1, k2, k3⟩

theorem uses_pos {o v a b : Int} (h : insOkB o v a b = true) : ∀ u ∈ usesL o v a b, 0 ≤ u := by
  intro u hu
  unfold usesL at hu
  rw [if_pos h] at hu
  unfold insOkB at h
  by_cases h1 : o = 1
  · rw [if_pos h1] at hu; simp at hu
  rw [if_neg h1] at h hu
  by_cases h2 : o = 2
  · rw [if_pos h2] at h
    rw [if_neg (by omega)] at hu
    simp [isNameB] at h hu
    omega
  rw [if_neg h2] at h
  by_cases h3 : 3 ≤ o ∧ o ≤ 6
  · rw [if_pos h3] at h hu
    simp [isNameB] at h hu
    omega
  rw [if_neg h3] at h hu
  by_cases h7 : o = 7
  · rw [if_pos h7] at h
    simp [isNameB] at h hu
    omega
  · rw [if_neg h7] at h; cases h

set_option maxHeartbeats 400000 in
theorem headOk_any (x : BlockD) (cs : List Value) (names : Int) (blocks preds : Nat) (w : World) (Z : Zn) (hv : EBlock w Z x cs) (hD : ∀ b, Z.D b → b < w.heap.size) (h1 : names ≤ 150) :
    Calls Try.prog 65 #[.agg cs.toArray, .agg #[.int .i64 names, .int .i64 blocks, .int .i64 preds]] w (GivesB (MovesP names x.head) w) := by
  obtain ⟨A0, c0, A1, c1, A2, c2, A3, c3, rfl, _, hv1, _, _⟩ := hv.parts
  have HV := Lib.hid hv1
  clear hv hv1
  go_enter Try.func65, Try.ntmps65
  go_wp2_with fail
  refine (movesWithin_any _ _ _ _ Z (HV.out.keep (Kept.below (((Below.refl _ _).alloc (Nat.le_refl _) _).alloc (by simp) _) hD) fun _ _ h => h) (fun b hb => by have := hD b hb; simp; omega) h1).mono ?_
  rintro e w1 ⟨r, rfl, hr, hb1⟩
  have HB1 := Lib.hid ((((Below.refl w.heap.size w).alloc (Nat.le_refl _) _).alloc (by simp) _).trans (hb1.mono (by simp; omega)))
  have HR := Lib.hid hr
  clear hr hb1
  go_wp2_with fail
  go_ret
  exact ⟨r, rfl, HR.out, HB1.out⟩

set_option maxHeartbeats 400000 in
theorem tailOk_any (x : BlockD) (cs : List Value) (names : Int) (blocks preds : Nat) (w : World) (Z : Zn) (hv : EBlock w Z x cs) (hD : ∀ b, Z.D b → b < w.heap.size) (h1 : names ≤ 150) :
    Calls Try.prog 67 #[.agg cs.toArray, .agg #[.int .i64 names, .int .i64 blocks, .int .i64 preds]] w (GivesB (MovesP names x.tail) w) := by
  obtain ⟨A0, c0, A1, c1, A2, c2, A3, c3, rfl, _, _, _, hv1⟩ := hv.parts
  have HV := Lib.hid hv1
  clear hv hv1
  go_enter Try.func67, Try.ntmps67
  go_wp2_with fail
  refine (movesWithin_any _ _ _ _ Z (HV.out.keep (Kept.below (((Below.refl _ _).alloc (Nat.le_refl _) _).alloc (by simp) _) hD) fun _ _ h => h) (fun b hb => by have := hD b hb; simp; omega) h1).mono ?_
  rintro e w1 ⟨r, rfl, hr, hb1⟩
  have HB1 := Lib.hid ((((Below.refl w.heap.size w).alloc (Nat.le_refl _) _).alloc (by simp) _).trans (hb1.mono (by simp; omega)))
  have HR := Lib.hid hr
  clear hr hb1
  go_wp2_with fail
  go_ret
  exact ⟨r, rfl, HR.out, HB1.out⟩

set_option maxRecDepth 10000 in
set_option maxHeartbeats 1000000 in
theorem phisOk_any (x : BlockD) (cs : List Value) (names : Int) (blocks preds : Nat) (w : World) (Z : Zn) (hv : EBlock w Z x cs) (hD : ∀ b, Z.D b → b < w.heap.size) :
    Calls Try.prog 64 #[.agg cs.toArray, .agg #[.int .i64 names, .int .i64 blocks, .int .i64 preds]] w (GivesB (PhisP names preds x.phis) w) := by
  obtain ⟨A0, c0, A1, c1, A2, c2, A3, c3, rfl, ⟨_, A, cc, he, hx⟩, _, _, _⟩ := hv.parts
  injection he with he1 _ he3
  subst he1 he3
  clear hv
  by_cases hlen : x.phis.length ≤ 4
  case neg =>
    have h' : (4 : Int) < (x.phis.length : Int) := by omega
    have HN : Hid (¬ PhisP names preds x.phis) := fun h => hlen h.1
    clear hlen
    go_enter Try.func64, Try.ntmps64
    go_wp2
    go_ret
    exact gives_no HN.out (((Below.refl _ _).alloc (Nat.le_refl _) _).alloc (by simp) _)
  have h' : (x.phis.length : Int) ≤ 4 := by omega
  go_enter Try.func64, Try.ntmps64
  go_wp2
  go_loopw [16] (fun i wr => ∃ k : Nat, k ≤ x.phis.length ∧ i = .int .i64 k ∧ Hid (Below (w.heap.size + 2) ((w.alloc (.cells #[.slice A0 x.phis.length c0, .slice A1 x.head.length c1, .slice A2 x.body.length c2, .slice A3 x.tail.length c3, .int .i64 x.fin.k, .int .i64 x.fin.a, .int .i64 x.fin.t, .int .i64 x.fin.l] 66)).alloc (.cells #[.int .i64 names, .int .i64 blocks, .int .i64 preds] 80)) wr) ∧ Hid (∀ (j : Nat) m, j < k → x.phis[j]? = some m → PhiP names preds m)) (fun i _ => x.phis.length - (intOf i).toNat)
  case atStart => exact ⟨0, Nat.zero_le _, rfl, Below.refl _ _, fun _ _ h => absurd h (by omega)⟩
  case round =>
    obtain ⟨k, hk, rfl, HB, H1⟩ := hrel
    have HB0 : Hid (Below w.heap.size w wr) := (((Below.refl _ _).alloc (Nat.le_refl _) _).alloc (by simp) _).trans (HB.out.mono (by omega))
    have hzw : w.heap.size + 2 ≤ wr.heap.size := by have := HB.out.size; simp at this; omega
    have f0 : wr.cell? ⟨w.heap.size + 1, 0, none⟩ = some (.int .i64 names) := (HB.out.cell (p := ⟨w.heap.size + 1, 0, none⟩) (by simp)).trans (by go_simp)
    have f2 : wr.cell? ⟨w.heap.size + 1, 2, none⟩ = some (.int .i64 preds) := (HB.out.cell (p := ⟨w.heap.size + 1, 2, none⟩) (by simp)).trans (by go_simp)
    have hBm : ∀ T : Obj, Below w.heap.size w (wr.alloc T) := fun T => HB0.out.alloc (by omega) _
    have HBm := Lib.hid hBm
    have hl0 : w.heap.size + 1 < wr.heap.size := by omega
    clear hBm
    by_cases hlt : k < x.phis.length
    case neg =>
      obtain rfl : k = x.phis.length := by omega
      go_wp2
      go_ret
      exact gives_yes ⟨hlen, fun j m hm => H1.out j m (List.getElem?_eq_some_iff.1 hm).1 hm⟩ HB0.out
    have hxk : x.phis[k]? = some x.phis[k] := List.getElem?_eq_getElem hlt
    generalize x.phis[k] = p at hxk
    obtain ⟨b, off, rfl, hDb, hrow⟩ := hx (by intro h; rw [h] at hlt; simp at hlt)
    obtain ⟨cs, ⟨u, rfl, hle1, A4, c4, rfl, hux⟩, hcs⟩ := hrow k p hxk
    have hbl := hD b hDb
    have c5 : wr.cell? ⟨b, off + k * 2, none⟩ = some (.int .i64 p.v) := (HB0.out.cell (p := ⟨b, _, none⟩) hbl).trans (hcs 0 _ rfl).1
    have c6 : wr.cell? ⟨b, off + k * 2 + 1, none⟩ = some (.slice A4 p.args.length c4) := (HB0.out.cell (p := ⟨b, _, none⟩) hbl).trans (hcs 1 _ rfl).1
    have Hxk := Lib.hid hxk
    clear hcs hx hxk hrow
    cases hd : isBelowB p.v names
    · have HN : Hid (¬ PhisP names preds x.phis) := fun h => by have := (h.2 k p Hxk.out).1; rw [hd] at this; cases this
      go_wp2_with (go_at_call 21; refine (isBelow_any _ _ _).mono ?_; rintro e w' ⟨rfl, rfl⟩)
      go_ret
      exact gives_no HN.out (HBm.out _)
    by_cases hpl : p.args.length = preds
    case neg =>
      have hb' : ((p.args.length : Int) != (preds : Int)) = true := by simp; omega
      have HN : Hid (¬ PhisP names preds x.phis) := fun h => hpl (h.2 k p Hxk.out).2.1
      clear hpl
      go_wp2_with (go_at_call 21; refine (isBelow_any _ _ _).mono ?_; rintro e w' ⟨rfl, rfl⟩)
      go_ret
      exact gives_no HN.out (HBm.out _)
    have hb' : ((p.args.length : Int) != (preds : Int)) = false := by simp [hpl]
    have HPL := Lib.hid hpl
    clear hpl
    have HD := Lib.hid hd
    go_wp2_with (go_at_call 21; refine (isBelow_any _ _ _).mono ?_; rintro e w' ⟨rfl, rfl⟩)
    clear c5 c6 hd hb'
    go_loop [37] (fun q => ∃ j : Nat, j ≤ p.args.length ∧ q = .int .i64 j ∧ Hid (∀ (j' : Nat) u, j' < j → p.args[j']? = some u → isBelowB u names = true)) (fun q => p.args.length - (intOf q).toNat)
    case atStart => exact ⟨0, Nat.zero_le _, rfl, fun _ _ h => absurd h (by omega)⟩
    case round =>
      obtain ⟨j, hj, rfl, H3⟩ := hrel
      by_cases hjl : j < p.args.length
      case neg =>
        obtain rfl : j = p.args.length := by omega
        have H1' : Hid (∀ (j : Nat) m, j < k + 1 → x.phis[j]? = some m → PhiP names preds m) := fun j m hj hm => by
          by_cases hjk : j = k
          · subst hjk
            rw [Hxk.out] at hm
            injection hm with hm
            subst hm
            exact ⟨HD.out, HPL.out, fun i a ha => H3.out i a (List.getElem?_eq_some_iff.1 ha).1 ha⟩
          · exact H1.out j m (by omega) hm
        go_wp2
        go_roundw
        case rel => exact ⟨k + 1, by omega, by go_num, HB.out.alloc (by omega) _, H1'⟩
        case measure => simp [intOf]; omega
      have hxj : p.args[j]? = some p.args[j] := List.getElem?_eq_getElem hjl
      generalize p.args[j] = u at hxj
      obtain ⟨b', off', rfl, hDb', hcell⟩ := hux (by intro h; rw [h] at hjl; simp at hjl)
      obtain ⟨cs, rfl, hcs⟩ := hcell j u hxj
      have hbl' := hD b' hDb'
      have p0 : wr.cell? ⟨b', off' + j, none⟩ = some (.int .i64 u) := (HB0.out.cell (p := ⟨b', _, none⟩) hbl').trans (by have := (hcs 0 _ rfl).1; rwa [Nat.mul_one] at this)
      have hbw : b' < wr.heap.size := by omega
      have Hxj := Lib.hid hxj
      clear hcell hux hxj hcs
      cases hun : isBelowB u names
      · have HN : Hid (¬ PhisP names preds x.phis) := fun h => by have := (h.2 k p Hxk.out).2.2 j u Hxj.out; rw [hun] at this; cases this
        go_wp2_with (go_at_call 21; refine (isBelow_any _ _ _).mono ?_; rintro e w' ⟨rfl, rfl⟩)
        go_ret
        exact gives_no HN.out (HBm.out _)
      · have H3' : Hid (∀ (j' : Nat) u, j' < j + 1 → p.args[j']? = some u → isBelowB u names = true) := fun j' u' hj' hm' => by
          by_cases e : j' = j
          · subst e
            rw [Hxj.out] at hm'
            injection hm' with hm'
            subst hm'
            exact hun
          · exact H3.out j' u' (by omega) hm'
        go_wp2_with (go_at_call 21; refine (isBelow_any _ _ _).mono ?_; rintro e w' ⟨rfl, rfl⟩)
        go_round
        case rel => exact ⟨j + 1, by omega, by go_num, H3'⟩
        case measure => simp [intOf]; omega

set_option maxRecDepth 10000 in
set_option maxHeartbeats 1000000 in
theorem bodyOk_any (x : BlockD) (cs : List Value) (names : Int) (blocks preds : Nat) (w : World) (Z : Zn) (hv : EBlock w Z x cs) (hD : ∀ b, Z.D b → b < w.heap.size) :
    Calls Try.prog 66 #[.agg cs.toArray, .agg #[.int .i64 names, .int .i64 blocks, .int .i64 preds]] w (GivesB (BodyP names x.body) w) := by
  obtain ⟨A0, c0, A1, c1, A2, c2, A3, c3, rfl, _, _, ⟨_, A, cc, he, hx⟩, _⟩ := hv.parts
  injection he with he1 _ he3
  subst he1 he3
  clear hv
  by_cases hlen : x.body.length ≤ 80
  case neg =>
    have h' : (80 : Int) < (x.body.length : Int) := by omega
    have HN : Hid (¬ BodyP names x.body) := fun h => hlen h.1
    clear hlen
    go_enter Try.func66, Try.ntmps66
    go_wp2
    go_ret
    exact gives_no HN.out (((Below.refl _ _).alloc (Nat.le_refl _) _).alloc (by simp) _)
  have h' : (x.body.length : Int) ≤ 80 := by omega
  go_enter Try.func66, Try.ntmps66
  go_wp2
  go_loopw [16] (fun i wr => ∃ k : Nat, k ≤ x.body.length ∧ i = .int .i64 k ∧ Hid (Below (w.heap.size + 2) ((w.alloc (.cells #[.slice A0 x.phis.length c0, .slice A1 x.head.length c1, .slice A2 x.body.length c2, .slice A3 x.tail.length c3, .int .i64 x.fin.k, .int .i64 x.fin.a, .int .i64 x.fin.t, .int .i64 x.fin.l] 66)).alloc (.cells #[.int .i64 names, .int .i64 blocks, .int .i64 preds] 80)) wr) ∧ Hid (∀ (j : Nat) m, j < k → x.body[j]? = some m → InsP names m)) (fun i _ => x.body.length - (intOf i).toNat)
  case atStart => exact ⟨0, Nat.zero_le _, rfl, Below.refl _ _, fun _ _ h => absurd h (by omega)⟩
  case round =>
    obtain ⟨k, hk, rfl, HB, H1⟩ := hrel
    have HB0 : Hid (Below w.heap.size w wr) := (((Below.refl _ _).alloc (Nat.le_refl _) _).alloc (by simp) _).trans (HB.out.mono (by omega))
    have hzw : w.heap.size + 2 ≤ wr.heap.size := by have := HB.out.size; simp at this; omega
    have f0 : wr.cell? ⟨w.heap.size + 1, 0, none⟩ = some (.int .i64 names) := (HB.out.cell (p := ⟨w.heap.size + 1, 0, none⟩) (by simp)).trans (by go_simp)
    have hl0 : w.heap.size + 1 < wr.heap.size := by omega
    have hl1 : w.heap.size + 1 < wr.heap.size + 1 := by omega
    by_cases hlt : k < x.body.length
    case neg =>
      obtain rfl : k = x.body.length := by omega
      go_wp2
      go_ret
      exact gives_yes ⟨hlen, fun j m hm => H1.out j m (List.getElem?_eq_some_iff.1 hm).1 hm⟩ HB0.out
    have hxk : x.body[k]? = some x.body[k] := List.getElem?_eq_getElem hlt
    generalize x.body[k] = y at hxk
    obtain ⟨b, off, rfl, hDb, hrow⟩ := hx (by intro h; rw [h] at hlt; simp at hlt)
    obtain ⟨cs, rfl, hcs⟩ := hrow k y hxk
    have hbl := hD b hDb
    have c4 : wr.cell? ⟨b, off + k * 4, none⟩ = some (.int .i64 y.op) := (HB0.out.cell (p := ⟨b, _, none⟩) hbl).trans (hcs 0 _ rfl).1
    have c5 : wr.cell? ⟨b, off + k * 4 + 1, none⟩ = some (.int .i64 y.v) := (HB0.out.cell (p := ⟨b, _, none⟩) hbl).trans (hcs 1 _ rfl).1
    have c6 : wr.cell? ⟨b, off + k * 4 + 2, none⟩ = some (.int .i64 y.a) := (HB0.out.cell (p := ⟨b, _, none⟩) hbl).trans (hcs 2 _ rfl).1
    have c7 : wr.cell? ⟨b, off + k * 4 + 3, none⟩ = some (.int .i64 y.b) := (HB0.out.cell (p := ⟨b, _, none⟩) hbl).trans (hcs 3 _ rfl).1
    have Hxk := Lib.hid hxk
    clear hcs hx hxk hrow
    go_wp2_with fail
    refine (InsOk_any _ _ _ _ _).mono ?_
    rintro e w1 ⟨rfl, hb1⟩
    have hz1 : wr.heap.size + 1 ≤ w1.heap.size := by have := hb1.size; simp at this; omega
    have HB1 := Lib.hid ((HB.out.alloc hzw _).trans (hb1.mono (by simp; omega)))
    have HB01 : Hid (Below w.heap.size w w1) := (((Below.refl _ _).alloc (Nat.le_refl _) _).alloc (by simp) _).trans (HB1.out.mono (by omega))
    obtain ⟨hc1, hf1⟩ := bcellB (hb1.mono (B' := wr.heap.size + 1) (by simp))
    clear hb1 hf1
    cases hok : insOkB y.op y.v y.a y.b
    · have HN : Hid (¬ BodyP names x.body) := fun h => by have := (h.2 k y Hxk.out).1; rw [hok] at this; cases this
      go_wp2_with fail
      go_ret
      exact gives_no HN.out HB01.out
    by_cases hvn : y.v < names
    case neg =>
      have HN : Hid (¬ BodyP names x.body) := fun h => hvn (h.2 k y Hxk.out).2.1
      have hvn' : names ≤ y.v := by omega
      clear hvn
      go_wp2_with fail
      go_ret
      exact gives_no HN.out HB01.out
    have HV := Lib.hid hok
    go_wp2_with fail
    refine (UsesOf_any _ _ _ _ _).mono ?_
    rintro e w2 ⟨r, rfl, hr, hb2⟩
    have hz2 : wr.heap.size + 1 ≤ w2.heap.size := by have := hb2.size; omega
    have HB2 := Lib.hid (HB1.out.trans (hb2.mono (by omega)))
    have HB02 : Hid (Below w.heap.size w w2) := (((Below.refl _ _).alloc (Nat.le_refl _) _).alloc (by simp) _).trans (HB2.out.mono (by omega))
    obtain ⟨hc2, hf2⟩ := bcellB (hb2.mono (B' := wr.heap.size + 1) (by omega))
    have hu := hr.ri
    have hul := usesL_len y.op y.v y.a y.b
    have hpos := uses_pos HV.out
    have HU : Hid (∀ u, u ∈ usesL y.op y.v y.a y.b ↔ ∃ j, (usesL y.op y.v y.a y.b)[j]? = some u) := fun u => List.mem_iff_getElem?
    clear hr hb2 hok hf2
    generalize husl : usesL y.op y.v y.a y.b = us at hu hul HU hpos
    have HUS := Lib.hid husl
    have HPOS := Lib.hid hpos
    clear husl hpos
    obtain ⟨_, A5, c8, rfl, hux⟩ := hu
    go_wp2_with fail
    go_loop [33] (fun q => ∃ j : Nat, j ≤ us.length ∧ q = .int .i64 j ∧ Hid (∀ (j' : Nat) u, j' < j → us[j']? = some u → u < names)) (fun q => us.length - (intOf q).toNat)
    case atStart => exact ⟨0, Nat.zero_le _, rfl, fun _ _ h => absurd h (by omega)⟩
    case round =>
      obtain ⟨j, hj, rfl, H3⟩ := hrel
      by_cases hjl : j < us.length
      case neg =>
        obtain rfl : j = us.length := by omega
        have H1' : Hid (∀ (j : Nat) m, j < k + 1 → x.body[j]? = some m → InsP names m) := fun j m hj hm => by
          by_cases hjk : j = k
          · subst hjk
            rw [Hxk.out] at hm
            injection hm with hm
            subst hm
            refine ⟨HV.out, hvn, fun u hu => ?_⟩
            rw [HUS.out] at hu
            obtain ⟨i, hi⟩ := (HU.out u).1 hu
            exact H3.out i u (List.getElem?_eq_some_iff.1 hi).1 hi
          · exact H1.out j m (by omega) hm
        go_wp2
        go_roundw
        case rel => exact ⟨k + 1, by omega, by go_num, HB2, H1'⟩
        case measure => simp [intOf]; omega
      have hxj : us[j]? = some us[j] := List.getElem?_eq_getElem hjl
      generalize us[j] = u at hxj
      obtain ⟨b', off', rfl, hcell⟩ := hux (by rintro rfl; simp at hjl)
      have Hxj := Lib.hid hxj
      have hp0 : w2.cell? ⟨b', off' + j, none⟩ = some (.int .i64 u) := hcell j u hxj
      have hu0 := HPOS.out u ((HU.out u).2 ⟨j, hxj⟩)
      clear hcell hux hxj c4 c5 c6 c7
      by_cases hun : u < names
      · have hun' : isBelowB u names = true := by simp [isBelowB]; omega
        have H3' : Hid (∀ (j' : Nat) u, j' < j + 1 → us[j']? = some u → u < names) := fun j' u' hj' hm' => by
          by_cases e : j' = j
          · subst e
            rw [Hxj.out] at hm'
            injection hm' with hm'
            subst hm'
            exact hun
          · exact H3.out j' u' (by omega) hm'
        clear hun
        go_wp2_with (go_at_call 21; refine (isBelow_any _ _ _).mono ?_; rintro e w' ⟨rfl, rfl⟩)
        go_round
        case rel => exact ⟨j + 1, by omega, by go_num, H3'⟩
        case measure => simp [intOf]; omega
      · have HN : Hid (¬ BodyP names x.body) := fun h => hun ((h.2 k y Hxk.out).2.2 u (by rw [HUS.out]; exact (HU.out u).2 ⟨j, Hxj.out⟩))
        have hun' : isBelowB u names = false := by simp [isBelowB]; omega
        clear hun
        go_wp2_with (go_at_call 21; refine (isBelow_any _ _ _).mono ?_; rintro e w' ⟨rfl, rfl⟩)
        go_ret
        exact gives_no HN.out HB02.out

end Go.Proofs.Ytbghcoihndlihaa
