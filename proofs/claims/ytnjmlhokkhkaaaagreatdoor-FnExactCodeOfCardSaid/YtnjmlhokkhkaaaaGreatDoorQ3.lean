/- L2a, L2b, M1, M2, M3, joined. -/
import Derived.Test.YtnjmlhokkhkaaaaGreatDoorQ2
import Derived.Maps.AppendAt
import Derived.Laws.CopyRow
namespace Go.Proofs.YtnjmlhokkhkaaaaGreatDoor

/- The model's l2Moves, l2Body and l2Phis. -/
section
open Go.ChangeShapes Go.WideShapes Go.ChangeAt Go.RowKit Go.Joins

theorem movesP_first {names : Int} {l : List MoveD} {i : Nat} {m : MoveD} (hx : l[i]? = some m) (h : ¬ MoveP names m) : ¬ MovesP names l := fun hp => h (hp.2.1 i m hx)
theorem moveP_dst {names : Int} {m : MoveD} (h : isBelowB m.dst names = false) : ¬ MoveP names m := fun hp => by have := hp.1; rw [h] at this; cases this
theorem moveP_src {names : Int} {m : MoveD} (h : isBelowB m.src names = false) : ¬ MoveP names m := fun hp => by have := hp.2; rw [h] at this; cases this

set_option maxHeartbeats 1000000 in
theorem l2Moves_any (v : Value) (ms : List MoveD) (names : Int) (w : World) (Z : Zn) (hv : Row w Z 2 EMove v ms) (hD : ∀ b, Z.D b → b < w.heap.size) (h0 : 0 ≤ names) (h1 : names ≤ 150) :
    Calls Tryz.prog 102 #[v, .int .i64 names] w (GivesB (MovesP names ms) w) := by
  obtain ⟨hle, A, c, rfl, hx⟩ := hv
  by_cases hlen : ms.length ≤ 40
  case neg =>
    have h' : (40 : Int) < (ms.length : Int) := by omega
    have HN : Hid (¬ MovesP names ms) := fun h => hlen h.1
    clear hlen
    go_enter Tryz.func102, Tryz.ntmps102
    go_wp2
    go_ret
    exact gives_no HN.out (Below.refl _ _)
  have h' : (ms.length : Int) ≤ 40 := by omega
  go_enter Tryz.func102, Tryz.ntmps102
  go_wp2
  go_loopw [5, 6] (fun i _ wr => ∃ k : Nat, k ≤ ms.length ∧ i = .int .i64 k ∧ Hid (Below w.heap.size w wr) ∧ Hid (∀ (j : Nat) m, j < k → ms[j]? = some m → MoveP names m) ∧ Hid (∀ (i j : Nat) m m', i < k → j < i → ms[i]? = some m → ms[j]? = some m' → m'.dst ≠ m.dst)) (fun i _ _ => ms.length - (intOf i).toNat)
  case atStart => exact ⟨0, Nat.zero_le _, rfl, Below.refl _ _, fun _ _ h => absurd h (by omega), fun _ _ _ _ h => absurd h (by omega)⟩
  case round =>
    obtain ⟨k, hk, rfl, HB, H1, H2⟩ := hrel
    by_cases hlt : k < ms.length
    · have hxk : ms[k]? = some ms[k] := List.getElem?_eq_getElem hlt
      generalize ms[k] = x at hxk
      obtain ⟨b, off, rfl, hDb, hrow⟩ := hx (by rintro rfl; simp at hlt)
      obtain ⟨cs, rfl, hcs⟩ := hrow k x hxk
      have hbl := hD b hDb
      have c0 : wr.cell? ⟨b, off + k * 2, none⟩ = some (.int .i64 x.dst) := (HB.out.cell (p := ⟨b, _, none⟩) hbl).trans (hcs 0 _ rfl).1
      have c1 : wr.cell? ⟨b, off + k * 2 + 1, none⟩ = some (.int .i64 x.src) := (HB.out.cell (p := ⟨b, _, none⟩) hbl).trans (hcs 1 _ rfl).1
      have Hxk := Lib.hid hxk
      have HR := Lib.hid hrow
      clear hcs hx hxk hrow
      cases hd : isBelowB x.dst names
      · have HN : Hid (¬ MovesP names ms) := movesP_first Hxk.out (moveP_dst hd)
        go_wp2_with (go_at_call 100; refine (l1In_below _ _ _).mono ?_; rintro e w' ⟨rfl, rfl⟩)
        go_ret
        exact gives_no HN.out HB.out
      cases hs : isBelowB x.src names
      · have HN : Hid (¬ MovesP names ms) := movesP_first Hxk.out (moveP_src hs)
        go_wp2_with (go_at_call 100; refine (l1In_below _ _ _).mono ?_; rintro e w' ⟨rfl, rfl⟩)
        go_ret
        exact gives_no HN.out HB.out
      have H1' : Hid (∀ (j : Nat) m, j < k + 1 → ms[j]? = some m → MoveP names m) := fun j m hj hm => by
        by_cases hjk : j = k
        · subst hjk
          rw [Hxk.out] at hm
          injection hm with hm
          subst hm
          exact ⟨hd, hs⟩
        · exact H1.out j m (by omega) hm
      go_wp2_with (go_at_call 100; refine (l1In_below _ _ _).mono ?_; rintro e w' ⟨rfl, rfl⟩)
      obtain ⟨wo, hwo⟩ : ∃ wo : World, wo = wr := ⟨_, rfl⟩
      have HB0 := HB
      rw [← hwo] at HB0 c0 c1
      have HB00 := Lib.hid HB0.out
      clear HB HB0
      subst hwo
      go_loopw [6] (fun q wq => ∃ j : Nat, j ≤ k ∧ q = .int .i64 j ∧ Hid (∃ n, wq = wo.drewN n) ∧ Hid (∀ (j' : Nat) m', j' < j → ms[j']? = some m' → m'.dst ≠ x.dst)) (fun q _ => k - (intOf q).toNat)
      case atStart => exact ⟨0, Nat.zero_le _, rfl, ⟨0, rfl⟩, fun _ _ h => absurd h (by omega)⟩
      case round =>
        obtain ⟨j, hj, rfl, HW, H3⟩ := hrel
        obtain ⟨n, rfl⟩ := HW.out
        by_cases hjk : j < k
        · have hxj : ms[j]? = some ms[j] := List.getElem?_eq_getElem (by omega)
          generalize ms[j] = y at hxj
          obtain ⟨cs, rfl, hcs⟩ := HR.out j y hxj
          have p0 : wo.cell? ⟨b, off + j * 2, none⟩ = some (.int .i64 y.dst) := (HB00.out.cell (p := ⟨b, _, none⟩) hbl).trans (hcs 0 _ rfl).1
          have Hxj := Lib.hid hxj
          clear hcs hxj
          by_cases hyx : y.dst = x.dst
          · have hb' : (y.dst == x.dst) = true := by simpa using hyx
            have HN : Hid (¬ MovesP names ms) := fun h => h.2.2 k j x y hjk Hxk.out Hxj.out hyx
            clear hyx
            go_wp2
            go_quiet (fail)
            go_wp2
            go_ret
            exact gives_no HN.out (below_drewN (below_drewN HB00.out _) _)
          · have hb' : (y.dst == x.dst) = false := by simpa using hyx
            have H3' : Hid (∀ (j' : Nat) m', j' < j + 1 → ms[j']? = some m' → m'.dst ≠ x.dst) := fun j' m' hj' hm' => by
              by_cases e : j' = j
              · subst e
                rw [Hxj.out] at hm'
                injection hm' with hm'
                subst hm'
                exact hyx
              · exact H3.out j' m' (by omega) hm'
            clear hyx
            go_wp2
            go_quiet (fail)
            go_wp2
            go_roundw
            case rel => exact ⟨j + 1, by omega, by go_num, ⟨n + nq, by go_simp⟩, H3'⟩
            case measure => simp [intOf]; omega
        · obtain rfl : j = k := by omega
          have H2' : Hid (∀ (i j' : Nat) m m', i < j + 1 → j' < i → ms[i]? = some m → ms[j']? = some m' → m'.dst ≠ m.dst) := fun i j' m m' hi hj' hm hm' => by
            by_cases e : i = j
            · subst e
              rw [Hxk.out] at hm
              injection hm with hm
              subst hm
              exact H3.out j' m' hj' hm'
            · exact H2.out i j' m m' (by omega) hj' hm hm'
          go_wp2
          go_roundw
          case rel => exact ⟨j + 1, by omega, by go_num, below_drewN HB00.out _, H1', H2'⟩
          case measure => simp [intOf]; omega
    · obtain rfl : k = ms.length := by omega
      go_wp2
      go_ret
      exact gives_yes ⟨hlen, fun j m hm => H1.out j m (List.getElem?_eq_some_iff.1 hm).1 hm, fun i j m m' hj hm hm' => H2.out i j m m' (List.getElem?_eq_some_iff.1 hm).1 hj hm hm'⟩ HB.out

set_option maxHeartbeats 1000000 in
theorem l2Body_any (v : Value) (l : List InsD) (names : Int) (w : World) (Z : Zn) (hv : Row w Z 4 EIns v l) (hD : ∀ b, Z.D b → b < w.heap.size) :
    Calls Tryz.prog 103 #[v, .int .i64 names] w (GivesB (BodyP names l) w) := by
  obtain ⟨hle, A, c, rfl, hx⟩ := hv
  by_cases hlen : l.length ≤ 80
  case neg =>
    have h' : (80 : Int) < (l.length : Int) := by omega
    have HN : Hid (¬ BodyP names l) := fun h => hlen h.1
    clear hlen
    go_enter Tryz.func103, Tryz.ntmps103
    go_wp2
    go_ret
    exact gives_no HN.out (Below.refl _ _)
  have h' : (l.length : Int) ≤ 80 := by omega
  go_enter Tryz.func103, Tryz.ntmps103
  go_wp2
  go_loopw [5, 6, 7] (fun i _ _ wr => ∃ k : Nat, k ≤ l.length ∧ i = .int .i64 k ∧ Hid (Below w.heap.size w wr) ∧ Hid (∀ (j : Nat) m, j < k → l[j]? = some m → InsP names m)) (fun i _ _ _ => l.length - (intOf i).toNat)
  case atStart => exact ⟨0, Nat.zero_le _, rfl, Below.refl _ _, fun _ _ h => absurd h (by omega)⟩
  case round =>
    obtain ⟨k, hk, rfl, HB, H1⟩ := hrel
    by_cases hlt : k < l.length
    case neg =>
      obtain rfl : k = l.length := by omega
      go_wp2
      go_ret
      exact gives_yes ⟨hlen, fun j m hm => H1.out j m (List.getElem?_eq_some_iff.1 hm).1 hm⟩ HB.out
    have hxk : l[k]? = some l[k] := List.getElem?_eq_getElem hlt
    generalize l[k] = x at hxk
    obtain ⟨b, off, rfl, hDb, hrow⟩ := hx (by rintro rfl; simp at hlt)
    obtain ⟨cs, rfl, hcs⟩ := hrow k x hxk
    have hbl := hD b hDb
    have c0 : wr.cell? ⟨b, off + k * 4, none⟩ = some (.int .i64 x.op) := (HB.out.cell (p := ⟨b, _, none⟩) hbl).trans (hcs 0 _ rfl).1
    have c1 : wr.cell? ⟨b, off + k * 4 + 1, none⟩ = some (.int .i64 x.v) := (HB.out.cell (p := ⟨b, _, none⟩) hbl).trans (hcs 1 _ rfl).1
    have c2 : wr.cell? ⟨b, off + k * 4 + 2, none⟩ = some (.int .i64 x.a) := (HB.out.cell (p := ⟨b, _, none⟩) hbl).trans (hcs 2 _ rfl).1
    have c3 : wr.cell? ⟨b, off + k * 4 + 3, none⟩ = some (.int .i64 x.b) := (HB.out.cell (p := ⟨b, _, none⟩) hbl).trans (hcs 3 _ rfl).1
    have Hxk := Lib.hid hxk
    clear hcs hx hxk hrow
    go_wp2_with fail
    refine (sInsOk_any _ _ _ _ _).mono ?_
    rintro e w1 ⟨rfl, hb1⟩
    have hz1 := hb1.size
    obtain ⟨hc1, hf1⟩ := bcellB (hb1.mono HB.out.size)
    have HB1 := Lib.hid (HB.out.trans (hb1.mono HB.out.size))
    clear hb1 hf1
    cases hok : insOkB x.op x.v x.a x.b
    · have HN : Hid (¬ BodyP names l) := fun h => by have := (h.2 k x Hxk.out).1; rw [hok] at this; cases this
      go_wp2_with fail
      go_ret
      exact gives_no HN.out HB1.out
    by_cases hvn : x.v < names
    case neg =>
      have HN : Hid (¬ BodyP names l) := fun h => hvn (h.2 k x Hxk.out).2.1
      have hvn' : names ≤ x.v := by omega
      clear hvn
      go_wp2_with fail
      go_ret
      exact gives_no HN.out HB1.out
    have HV := Lib.hid hok
    go_wp2_with fail
    refine (l1Uses_any _ _ _ _ _ HV.out).mono ?_
    rintro e w2 ⟨r, rfl, hr, hb2⟩
    have HB2 := Lib.hid (HB1.out.trans (hb2.mono HB1.out.size))
    have hu := hr.ri
    have hul := usesL_len x.op x.v x.a x.b
    have HU : Hid (∀ u, u ∈ usesL x.op x.v x.a x.b ↔ ∃ j, (usesL x.op x.v x.a x.b)[j]? = some u) := fun u => List.mem_iff_getElem?
    clear hr hb2 HB1 hc1 c0 c1 c2 c3 hok
    generalize husl : usesL x.op x.v x.a x.b = us at hu hul HU
    have HUS := Lib.hid husl
    clear husl
    obtain ⟨_, A1, c1, rfl, hux⟩ := hu
    go_wp2_with fail
    go_loop [7] (fun q => ∃ j : Nat, j ≤ us.length ∧ q = .int .i64 j ∧ Hid (∀ (j' : Nat) u, j' < j → us[j']? = some u → u < names)) (fun q => us.length - (intOf q).toNat)
    case atStart => exact ⟨0, Nat.zero_le _, rfl, fun _ _ h => absurd h (by omega)⟩
    case round =>
      obtain ⟨j, hj, rfl, H3⟩ := hrel
      by_cases hjl : j < us.length
      case neg =>
        obtain rfl : j = us.length := by omega
        have H1' : Hid (∀ (j : Nat) m, j < k + 1 → l[j]? = some m → InsP names m) := fun j m hj hm => by
          by_cases hjk : j = k
          · subst hjk
            rw [Hxk.out] at hm
            injection hm with hm
            subst hm
            refine ⟨HV.out, hvn, fun u hu => ?_⟩
            rw [HUS.out] at hu
            obtain ⟨i, hi⟩ := (HU.out u).1 hu
            exact H3.out i u (List.getElem?_eq_some_iff.1 hi).1 hi
          · exact H1.out j m (by omega) hm
        go_wp2
        go_roundw
        case rel => exact ⟨k + 1, by omega, by go_num, HB2, H1'⟩
        case measure => simp [intOf]; omega
      have hxj : us[j]? = some us[j] := List.getElem?_eq_getElem hjl
      generalize us[j] = u at hxj
      obtain ⟨b', off', rfl, hcell⟩ := hux (by rintro rfl; simp at hjl)
      have p0 := hcell j u hxj
      have Hxj := Lib.hid hxj
      clear hcell hux hxj
      by_cases hun : u < names
      · have H3' : Hid (∀ (j' : Nat) u, j' < j + 1 → us[j']? = some u → u < names) := fun j' u' hj' hm' => by
          by_cases e : j' = j
          · subst e
            rw [Hxj.out] at hm'
            injection hm' with hm'
            subst hm'
            exact hun
          · exact H3.out j' u' (by omega) hm'
        go_wp2
        go_round
        case rel => exact ⟨j + 1, by omega, by go_num, H3'⟩
        case measure => simp [intOf]; omega
      · have HN : Hid (¬ BodyP names l) := fun h => hun ((h.2 k x Hxk.out).2.2 u (by rw [HUS.out]; exact (HU.out u).2 ⟨j, Hxj.out⟩))
        have hun' : names ≤ u := by omega
        clear hun
        go_wp2
        go_ret
        exact gives_no HN.out HB2.out

set_option maxHeartbeats 1000000 in
theorem l2Phis_any (v : Value) (l : List PhiD) (names : Int) (preds : Nat) (w : World) (Z : Zn) (hv : Row w Z 2 (EPhi w Z) v l) (h0 : 0 ≤ names) (h1 : names ≤ 150) :
    Calls Tryz.prog 61 #[v, .int .i64 names, .int .i64 preds] w (GivesB (PhisP names preds l) w) := by
  obtain ⟨hle, A, c, rfl, hx⟩ := hv
  by_cases hlen : l.length ≤ 4
  case neg =>
    have h' : (4 : Int) < (l.length : Int) := by omega
    have HN : Hid (¬ PhisP names preds l) := fun h => hlen h.1
    clear hlen
    go_enter Tryz.func61, Tryz.ntmps61
    go_wp2
    go_ret
    exact gives_no HN.out (Below.refl _ _)
  have h' : (l.length : Int) ≤ 4 := by omega
  go_enter Tryz.func61, Tryz.ntmps61
  go_wp2
  go_loop [7, 8] (fun i _ => ∃ k : Nat, k ≤ l.length ∧ i = .int .i64 k ∧ Hid (∀ (j : Nat) m, j < k → l[j]? = some m → PhiP names preds m)) (fun i _ => l.length - (intOf i).toNat)
  case atStart => exact ⟨0, Nat.zero_le _, rfl, fun _ _ h => absurd h (by omega)⟩
  case round =>
    obtain ⟨k, hk, rfl, H1⟩ := hrel
    by_cases hlt : k < l.length
    case neg =>
      obtain rfl : k = l.length := by omega
      go_wp2
      go_ret
      exact gives_yes ⟨hlen, fun j m hm => H1.out j m (List.getElem?_eq_some_iff.1 hm).1 hm⟩ (Below.refl _ _)
    have hxk : l[k]? = some l[k] := List.getElem?_eq_getElem hlt
    generalize l[k] = x at hxk
    obtain ⟨b, off, rfl, hDb, hrow⟩ := hx (by rintro rfl; simp at hlt)
    obtain ⟨cs, ⟨u, rfl, hle1, A1, c1, rfl, hux⟩, hcs⟩ := hrow k x hxk
    have c0 : w.cell? ⟨b, off + k * 2, none⟩ = some (.int .i64 x.v) := (hcs 0 _ rfl).1
    have c1 : w.cell? ⟨b, off + k * 2 + 1, none⟩ = some (.slice A1 x.args.length c1) := (hcs 1 _ rfl).1
    have Hxk := Lib.hid hxk
    clear hcs hx hxk hrow
    cases hd : isBelowB x.v names
    · have HN : Hid (¬ PhisP names preds l) := fun h => by have := (h.2 k x Hxk.out).1; rw [hd] at this; cases this
      go_wp2_with (go_at_call 100; refine (l1In_below _ _ _).mono ?_; rintro e w' ⟨rfl, rfl⟩)
      go_ret
      exact gives_no HN.out (Below.refl _ _)
    by_cases hpl : x.args.length = preds
    case neg =>
      have hb' : ((x.args.length : Int) != (preds : Int)) = true := by simp; omega
      have HN : Hid (¬ PhisP names preds l) := fun h => hpl (h.2 k x Hxk.out).2.1
      clear hpl
      go_wp2_with (go_at_call 100; refine (l1In_below _ _ _).mono ?_; rintro e w' ⟨rfl, rfl⟩)
      go_ret
      exact gives_no HN.out (Below.refl _ _)
    have hb' : ((x.args.length : Int) != (preds : Int)) = false := by simp [hpl]
    have HPL := Lib.hid hpl
    clear hpl
    have HD := Lib.hid hd
    go_wp2_with (go_at_call 100; refine (l1In_below _ _ _).mono ?_; rintro e w' ⟨rfl, rfl⟩)
    go_loop [8] (fun q => ∃ j : Nat, j ≤ x.args.length ∧ q = .int .i64 j ∧ Hid (∀ (j' : Nat) u, j' < j → x.args[j']? = some u → isBelowB u names = true)) (fun q => x.args.length - (intOf q).toNat)
    case atStart => exact ⟨0, Nat.zero_le _, rfl, fun _ _ h => absurd h (by omega)⟩
    case round =>
      obtain ⟨j, hj, rfl, H3⟩ := hrel
      by_cases hjl : j < x.args.length
      case neg =>
        obtain rfl : j = x.args.length := by omega
        have H1' : Hid (∀ (j : Nat) m, j < k + 1 → l[j]? = some m → PhiP names preds m) := fun j m hj hm => by
          by_cases hjk : j = k
          · subst hjk
            rw [Hxk.out] at hm
            injection hm with hm
            subst hm
            exact ⟨HD.out, HPL.out, fun i a ha => H3.out i a (List.getElem?_eq_some_iff.1 ha).1 ha⟩
          · exact H1.out j m (by omega) hm
        go_wp2
        go_round
        case rel => exact ⟨k + 1, by omega, by go_num, H1'⟩
        case measure => simp [intOf]; omega
      have hxj : x.args[j]? = some x.args[j] := List.getElem?_eq_getElem hjl
      generalize x.args[j] = u at hxj
      obtain ⟨b', off', rfl, _, hcell⟩ := hux (by intro h; rw [h] at hjl; simp at hjl)
      obtain ⟨cs, rfl, hcs⟩ := hcell j u hxj
      have p0 : w.cell? ⟨b', off' + j, none⟩ = some (.int .i64 u) := by have := (hcs 0 _ rfl).1; rwa [Nat.mul_one] at this
      have Hxj := Lib.hid hxj
      clear hcell hux hxj hcs
      cases hun : isBelowB u names
      · have HN : Hid (¬ PhisP names preds l) := fun h => by have := (h.2 k x Hxk.out).2.2 j u Hxj.out; rw [hun] at this; cases this
        go_wp2_with (go_at_call 100; refine (l1In_below _ _ _).mono ?_; rintro e w' ⟨rfl, rfl⟩)
        go_ret
        exact gives_no HN.out (Below.refl _ _)
      · have H3' : Hid (∀ (j' : Nat) u, j' < j + 1 → x.args[j']? = some u → isBelowB u names = true) := fun j' u' hj' hm' => by
          by_cases e : j' = j
          · subst e
            rw [Hxj.out] at hm'
            injection hm' with hm'
            subst hm'
            exact hun
          · exact H3.out j' u' (by omega) hm'
        go_wp2_with (go_at_call 100; refine (l1In_below _ _ _).mono ?_; rintro e w' ⟨rfl, rfl⟩)
        go_round
        case rel => exact ⟨j + 1, by omega, by go_num, H3'⟩
        case measure => simp [intOf]; omega
end

/- The model's l2Preds. -/
section
open Go.ChangeShapes Go.WideShapes Go.ChangeAt Go.RowKit Go.Joins

theorem info_int : (Tryz.prog.info? 2).map (fun i => (i.zero, i.size, i.bytes)) = some (some (.int .i64 0), 1, 8) := by kernel_rfl

theorem wpList_append_int {ops : Array Oper} {rest : List Oper} {o : Oper} {a : Act} {Q : Exit → Act → World → Prop} (hgd : o.guard = none) (s x : Operand)
    (ho : o.op = .call { callee := .builtin .append, args := #[s, x], argTypes := #[64, 64] })
    (B : Nat) (v : Value) (xs : List Int) (y : Int) (w : World) (hs : a.eval s = v) (hown : OI w B v xs) (hx : a.eval x = .slice (some ⟨w.heap.size, 0, none⟩) 1 1) (hb : B ≤ w.heap.size) (hlen : xs.length ≤ 1048576)
    (h : ∀ v' w', OI w' B v' (xs ++ [y]) → w.grownBy w' v.ownBlock → (v'.ownBlock = v.ownBlock ∨ ∃ k, v'.ownBlock = some k ∧ w.heap.size ≤ k) → wpList Tryz.prog ops Q rest (a.put o.dst v') w') :
    wpList Tryz.prog ops Q (o :: rest) a (w.alloc (.cells #[.int .i64 y] 2)) := by
  obtain ⟨i0, hi, hz0, hz1, hz2⟩ := info_parts info_int
  refine wpList_append_own_at (P := Tryz.prog) _ hgd s x _ ho B 2 i0 (.int .i64 0) 1 8 Tryz.underlying64 hi hz0 hz1 hz2 rfl (by decide) v xs.length (xs.map iv) hs (World.ownsRow.alloc hown _) ⟨w.heap.size, 0, none⟩ 1 1 [.int .i64 y] hx rfl (cell_one_new w _ _) (by simp [Value.oneCell']) (by rw [maxLen_is]; omega) (by omega) (by simp; omega) ?_
  intro v' w' hown' hg _ hat
  refine h v' w' ?_ ((World.grownBy_alloc w _ _).trans hg) ?_
  · unfold OI
    rw [List.map_append, List.length_append]
    exact hown'
  · rcases hat with h | h
    · exact .inl h
    · exact .inr ⟨_, h, by simp⟩

set_option maxRecDepth 10000 in
set_option maxHeartbeats 1000000 in
theorem l2Preds_any (f : FunD) (v : Value) (j : Int) (w : World) (Z : Zn) (hv : EFun w Z f v) (hD : ∀ b, Z.D b → b < w.heap.size) (hn : f.blocks.length ≤ 1048576) :
    Calls Tryz.prog 60 #[v, .int .i64 j] w (GivesI (predsF f j) w) := by
  obtain ⟨u, rfl, hle, A, c, rfl, hx⟩ := hv
  go_enter Tryz.func60, Tryz.ntmps60
  go_wp2
  go_loopw [5, 6] (fun q i wr => ∃ k : Nat, k ≤ f.blocks.length ∧ i = .int .i64 k ∧ Hid (OI wr (w.heap.size + 1) q (predsK toE f.blocks k j)) ∧ Hid (Below (w.heap.size + 1) (w.alloc (.cells #[.int .i64 f.params, .int .i64 f.names, .slice A f.blocks.length c] 26)) wr)) (fun _ i _ => f.blocks.length - (intOf i).toNat)
  case atStart => exact ⟨0, Nat.zero_le _, rfl, OI_lit0 _ (by simp) (by omega), (Below.refl _ _).alloc (by simp) _⟩
  case round =>
    obtain ⟨k, hk, rfl, HO, HB⟩ := hrel
    have hB0 : Below w.heap.size w wr := ((Below.refl _ _).alloc (Nat.le_refl _) _).trans (HB.out.mono (by omega))
    have hzw : w.heap.size + 1 ≤ wr.heap.size := by have := HB.out.size; simp at this; omega
    have HB0 := Lib.hid hB0
    have f2 : wr.cell? ⟨w.heap.size, 2, none⟩ = some (.slice A f.blocks.length c) := (HB.out.cell (p := ⟨w.heap.size, 2, none⟩) (by simp)).trans (by go_simp)
    clear hB0
    by_cases hlt : k < f.blocks.length
    case neg =>
      obtain rfl : k = f.blocks.length := by omega
      go_wp2
      go_ret
      exact ⟨_, rfl, World.ownsRow.mono HO.out (by omega), HB0.out⟩
    have hxk : f.blocks[k]? = some f.blocks[k] := List.getElem?_eq_getElem hlt
    generalize f.blocks[k] = x at hxk
    obtain ⟨b, off, rfl, hDb, hrow⟩ := hx (by intro h; rw [h] at hlt; simp at hlt)
    obtain ⟨cs, hE, hcs⟩ := hrow k x hxk
    have hbl := hD b hDb
    obtain ⟨_, _, _, _, rfl, _⟩ := hE
    have c4 : wr.cell? ⟨b, off + k * 8 + 4, none⟩ = some (.int .i64 x.fin.k) := (HB0.out.cell (p := ⟨b, _, none⟩) hbl).trans (hcs 4 _ rfl).1
    have c5 : wr.cell? ⟨b, off + k * 8 + 4 + 1, none⟩ = some (.int .i64 x.fin.a) := (HB0.out.cell (p := ⟨b, _, none⟩) hbl).trans (hcs 5 _ rfl).1
    have c6 : wr.cell? ⟨b, off + k * 8 + 4 + 2, none⟩ = some (.int .i64 x.fin.t) := (HB0.out.cell (p := ⟨b, _, none⟩) hbl).trans (hcs 6 _ rfl).1
    have c7 : wr.cell? ⟨b, off + k * 8 + 4 + 3, none⟩ = some (.int .i64 x.fin.l) := (HB0.out.cell (p := ⟨b, _, none⟩) hbl).trans (hcs 7 _ rfl).1
    have Hsucc := Lib.hid (predsK_succ toE j hxk)
    have hpl := predsK_len toE f.blocks k j
    clear hcs hx hxk hrow
    go_wp2_with fail
    refine (l2Succs_any _ _ _ _ _).mono ?_
    rintro e w1 ⟨r, rfl, hr, hb1⟩
    have hz1 := hb1.size
    have HO1 := Lib.hid (HO.out.below hb1 fun k hk => (HO.out.lt k hk).2)
    have HB1 := Lib.hid (HB.out.trans (hb1.mono hzw))
    have HR := Lib.hid hr.ri
    clear hr hb1 HO HB HB0 f2 c4 c5 c6 c7
    go_wp2_with fail
    refine (l1Has_any _ _ _ _ HR.out).mono ?_
    rintro e w' ⟨rfl, rfl⟩
    have HT : Hid (toL x.fin.k x.fin.t x.fin.l = toE x.fin) := rfl
    rw [HT.out]
    cases hh : hasB (toE x.fin) j
    · have HS : Hid (predsK toE f.blocks (k + 1) j = predsK toE f.blocks k j) := by rw [Hid, Hsucc.out, hh]; simp
      clear Hsucc
      go_wp2
      go_roundw
      case rel => exact ⟨k + 1, by omega, by go_num, (by rw [HS.out]; exact HO1.out), HB1.out⟩
      case measure => simp [intOf]; omega
    · have HS : Hid (predsK toE f.blocks (k + 1) j = predsK toE f.blocks k j ++ [(k : Int)]) := by rw [Hid, Hsucc.out, hh]; simp
      clear Hsucc
      go_wp2_with (at_builtin; refine wpList_append_int rfl (.tmp 24) (.tmp 26) rfl (w.heap.size + 1) _ (predsK toE f.blocks k j) k w1 rfl HO1.out rfl (by omega) (by omega) ?_; intro v' w2 hown2 hg2 hat2; have HO2 := Lib.hid hown2; have HB2 := Lib.hid (HB1.out.grown hg2 (by omega) (fun k hk => (HO1.out.lt k hk).1)); clear hown2 hg2 hat2)
      go_roundw
      case rel => exact ⟨k + 1, by omega, by go_num, (by rw [HS.out]; exact HO2.out), HB2.out⟩
      case measure => simp [intOf]; omega
end

/- movesWithin of the program. -/
section
open Go.ChangeShapes Go.WideShapes Go.ChangeAt Go.RowKit Go.Joins

theorem zeros_given : Tryz.zeroCells214 = Array.replicate 150 (.bool false) := by kernel_rfl

theorem run_store_same {P : Program} (w : World) (cs : Array Value) (t : TypeId) (h : ∀ v ∈ cs.toList, v.oneCell' = true) : (storeCells ⟨w.heap.size, 0, none⟩ cs.toList).run P (w.alloc (.cells cs t)) = .ok () (w.alloc (.cells cs t)) := by
  have hg := heap_alloc_new w (.cells cs t)
  rw [run_storeCells_at P w.heap.size 0 t cs.toList 0 cs (w.alloc (.cells cs t)) hg (by simp) h]
  have e : (cs.toList.take (0 + 0) ++ cs.toList ++ cs.toList.drop (0 + 0 + cs.toList.length)).toArray = cs := by rw [List.drop_eq_nil_of_le (by simp)]; simp
  rw [e, setRow_self _ _ _ _ _ hg]

def givenB (ms : List MoveD) (k : Nat) (d : Nat) : Bool := (ms.take k).any fun m => m.dst == (d : Int)
theorem givenB_succ {ms : List MoveD} {k : Nat} {x : MoveD} (h : ms[k]? = some x) (d : Nat) : givenB ms (k + 1) d = (givenB ms k d || (x.dst == (d : Int))) := by
  unfold givenB
  rw [List.take_add_one, h]
  simp
theorem givenB_yes {ms : List MoveD} {k d : Nat} (h : givenB ms k d = true) : ∃ j m, j < k ∧ ms[j]? = some m ∧ m.dst = d := by
  unfold givenB at h
  rw [List.any_eq_true] at h
  obtain ⟨m, hm, hd⟩ := h
  obtain ⟨j, hj⟩ := List.mem_iff_getElem?.1 hm
  have hjk : j < k := by
    rcases Nat.lt_or_ge j k with h | h
    · exact h
    · rw [List.getElem?_take, if_neg (by omega)] at hj; cases hj
  rw [List.getElem?_take, if_pos hjk] at hj
  exact ⟨j, m, hjk, hj, by simpa using hd⟩
theorem givenB_no {ms : List MoveD} {k d : Nat} (h : givenB ms k d = false) {j : Nat} {m : MoveD} (hj : j < k) (hm : ms[j]? = some m) : m.dst ≠ d := by
  intro e
  unfold givenB at h
  rw [List.any_eq_false] at h
  refine h m (List.mem_iff_getElem?.2 ⟨j, ?_⟩) (by simpa using e)
  rw [List.getElem?_take, if_pos hj]; exact hm

/-- Row g tells which names have been given. -/
def Given (w : World) (g : Nat) (ms : List MoveD) (k : Nat) : Prop := ∃ cur : Array Value, w.heap[g]? = some (.cells cur 214 (0, 0)) ∧ cur.size = 150 ∧ ∀ d, d < 150 → cur[d]? = some (.bool (givenB ms k d))
theorem Given.start {w : World} (ms : List MoveD) : Given (w.alloc (.cells Tryz.zeroCells214 214)) w.heap.size ms 0 := by
  refine ⟨_, heap_alloc_new w _, by rw [zeros_given]; simp, fun d hd => ?_⟩
  rw [zeros_given]
  simp [givenB, hd]
theorem Given.cell {w : World} {g : Nat} {ms : List MoveD} {k d : Nat} (h : Given w g ms k) (hd : d < 150) : w.cell? ⟨g, d, none⟩ = some (.bool (givenB ms k d)) := by
  obtain ⟨cur, h1, _, h3⟩ := h
  exact (cell_of_row w g _ cur _ (0, 0) h1).trans (h3 d hd)
theorem Given.frozen {w : World} {g : Nat} {ms : List MoveD} {k : Nat} (h : Given w g ms k) (d : Nat) : w.frozen? ⟨g, d, none⟩ = false := by
  obtain ⟨cur, h1, _⟩ := h
  simp [World.frozen?, h1]
theorem Given.keep {w w' : World} {g : Nat} {ms : List MoveD} {k : Nat} (h : Given w g ms k) (hw : w'.heap[g]? = w.heap[g]?) : Given w' g ms k := by
  obtain ⟨cur, h1, h2⟩ := h
  exact ⟨cur, hw.trans h1, h2⟩
theorem Given.step {w : World} {g : Nat} {ms : List MoveD} {k d : Nat} {x : MoveD} (h : Given w g ms k) (hx : ms[k]? = some x) (hd : x.dst = d) : Given (w.setCell ⟨g, d, none⟩ (.bool true)) g ms (k + 1) := by
  obtain ⟨cur, h1, h2, h3⟩ := h
  refine ⟨cur.setIfInBounds d (.bool true), heap_setCell_same w g d cur _ _ h1, by simpa using h2, fun d' hd' => ?_⟩
  rw [givenB_succ hx, Array.getElem?_setIfInBounds]
  by_cases e : d = d'
  · subst e
    rw [if_pos rfl, if_pos (by omega), hd]
    simp
  · rw [if_neg e, h3 d' hd']
    have : (x.dst == (d' : Int)) = false := by simp; omega
    rw [this, Bool.or_false]

set_option maxRecDepth 10000 in
set_option maxHeartbeats 1000000 in
theorem movesWithin_any (v : Value) (ms : List MoveD) (names : Int) (w : World) (Z : Zn) (hv : Row w Z 2 EMove v ms) (hD : ∀ b, Z.D b → b < w.heap.size) (h1 : names ≤ 150) :
    Calls Tryz.prog 129 #[v, .int .i64 names] w (GivesB (MovesP names ms) w) := by
  obtain ⟨hle, A, c, rfl, hx⟩ := hv
  by_cases hlen : ms.length ≤ 40
  case neg =>
    have h' : (40 : Int) < (ms.length : Int) := by omega
    have HN : Hid (¬ MovesP names ms) := fun h => hlen h.1
    clear hlen
    go_enter Tryz.func129, Tryz.ntmps129
    go_wp2
    go_ret
    exact gives_no HN.out (Below.refl _ _)
  have h' : (ms.length : Int) ≤ 40 := by omega
  have hst := run_store_same (P := Tryz.prog) w Tryz.zeroCells214 214 (by rw [zeros_given]; simp [Value.oneCell'])
  go_enter Tryz.func129, Tryz.ntmps129
  go_wp2
  clear hst
  go_loopw [14] (fun i wr => ∃ k : Nat, k ≤ ms.length ∧ i = .int .i64 k ∧ Hid (Below w.heap.size w wr) ∧ w.heap.size < wr.heap.size ∧ Hid (Given wr w.heap.size ms k) ∧ Hid (∀ (j : Nat) m, j < k → ms[j]? = some m → MoveP names m) ∧ Hid (∀ (i j : Nat) m m', i < k → j < i → ms[i]? = some m → ms[j]? = some m' → m'.dst ≠ m.dst)) (fun i _ => ms.length - (intOf i).toNat)
  case atStart => exact ⟨0, Nat.zero_le _, rfl, (Below.refl _ _).alloc (Nat.le_refl _) _, by simp, Given.start ms, fun _ _ h => absurd h (by omega), fun _ _ _ _ h => absurd h (by omega)⟩
  case round =>
    obtain ⟨k, hk, rfl, HB, hgz, HG, H1, H2⟩ := hrel
    by_cases hlt : k < ms.length
    case neg =>
      obtain rfl : k = ms.length := by omega
      go_wp2
      go_ret
      exact gives_yes ⟨hlen, fun j m hm => H1.out j m (List.getElem?_eq_some_iff.1 hm).1 hm, fun i j m m' hj hm hm' => H2.out i j m m' (List.getElem?_eq_some_iff.1 hm).1 hj hm hm'⟩ HB.out
    have hxk : ms[k]? = some ms[k] := List.getElem?_eq_getElem hlt
    generalize ms[k] = x at hxk
    obtain ⟨b, off, rfl, hDb, hrow⟩ := hx (by rintro rfl; simp at hlt)
    obtain ⟨cs, rfl, hcs⟩ := hrow k x hxk
    have hbl := hD b hDb
    have c0 : wr.cell? ⟨b, off + k * 2, none⟩ = some (.int .i64 x.dst) := (HB.out.cell (p := ⟨b, _, none⟩) hbl).trans (hcs 0 _ rfl).1
    have c1 : wr.cell? ⟨b, off + k * 2 + 1, none⟩ = some (.int .i64 x.src) := (HB.out.cell (p := ⟨b, _, none⟩) hbl).trans (hcs 1 _ rfl).1
    have Hxk := Lib.hid hxk
    clear hcs hx hxk hrow
    have hBm : ∀ T : Obj, Below w.heap.size w (wr.alloc T) := fun T => HB.out.alloc (by omega) _
    have HBm := Lib.hid hBm
    clear hBm
    cases hd : isBelowB x.dst names
    · have HN : Hid (¬ MovesP names ms) := movesP_first Hxk.out (moveP_dst hd)
      go_wp2_with (go_at_call 24; refine (isBelow_any _ _ _).mono ?_; rintro e w' ⟨rfl, rfl⟩)
      go_ret
      exact gives_no HN.out (HBm.out _)
    cases hs : isBelowB x.src names
    · have HN : Hid (¬ MovesP names ms) := movesP_first Hxk.out (moveP_src hs)
      go_wp2_with (go_at_call 24; refine (isBelow_any _ _ _).mono ?_; rintro e w' ⟨rfl, rfl⟩)
      go_ret
      exact gives_no HN.out (HBm.out _)
    have hdd : 0 ≤ x.dst ∧ x.dst < names := by simpa [isBelowB] using hd
    have H1' : Hid (∀ (j : Nat) m, j < k + 1 → ms[j]? = some m → MoveP names m) := fun j m hj hm => by
      by_cases hjk : j = k
      · subst hjk
        rw [Hxk.out] at hm
        injection hm with hm
        subst hm
        exact ⟨hd, hs⟩
      · exact H1.out j m (by omega) hm
    obtain ⟨dst, src⟩ := x
    simp only at hdd hd hs c0 c1
    obtain ⟨d, rfl⟩ : ∃ d : Nat, dst = d := ⟨dst.toNat, by omega⟩
    have hdl : d < 150 := by omega
    have hdl' : (d : Int) < 150 := by omega
    have hd0 : 0 ≤ (d : Int) := by omega
    have g0 := HG.out.cell (d := d) hdl
    have gf := HG.out.frozen d
    clear hdd
    cases hgv : givenB ms k d
    · rw [hgv] at g0
      have H2' : Hid (∀ (i j' : Nat) m m', i < k + 1 → j' < i → ms[i]? = some m → ms[j']? = some m' → m'.dst ≠ m.dst) := fun i j' m m' hi hj' hm hm' => by
        by_cases e : i = k
        · subst e
          rw [Hxk.out] at hm
          injection hm with hm
          subst hm
          exact givenB_no hgv hj' hm'
        · exact H2.out i j' m m' (by omega) hj' hm hm'
      clear hgv
      go_wp2_with (go_at_call 24; refine (isBelow_any _ _ _).mono ?_; rintro e w' ⟨rfl, rfl⟩)
      go_roundw
      case rel =>
        refine ⟨k + 1, by omega, by go_num, (HB.out.setCell (by simp) _).alloc (by simp; omega) _, by simp; omega, ?_, H1', H2'⟩
        exact (HG.out.step Hxk.out rfl).keep (Below.heap_alloc _ _ _ (by rw [nblk_set]; exact hgz))
      case measure => simp [intOf]; omega
    · rw [hgv] at g0
      have HN : Hid (¬ MovesP names ms) := fun h => by
        obtain ⟨j, m, hj, hm, hmd⟩ := givenB_yes hgv
        exact h.2.2 k j _ m hj Hxk.out hm hmd
      clear hgv
      go_wp2_with (go_at_call 24; refine (isBelow_any _ _ _).mono ?_; rintro e w' ⟨rfl, rfl⟩)
      go_ret
      exact gives_no HN.out (HBm.out _)
end

/- The parts of a block, held against a setting, by the program. -/
section
open Go.ChangeShapes Go.WideShapes Go.ChangeAt Go.RowKit Go.Joins

theorem EBlock.parts {w : World} {Z : Zn} {x : BlockD} {cs : List Value} (h : EBlock w Z x cs) : ∃ A0 c0 A1 c1 A2 c2 A3 c3, cs = [.slice A0 x.phis.length c0, .slice A1 x.head.length c1, .slice A2 x.body.length c2, .slice A3 x.tail.length c3, .int .i64 x.fin.k, .int .i64 x.fin.a, .int .i64 x.fin.t, .int .i64 x.fin.l] ∧
    Row w Z 2 (EPhi w Z) (.slice A0 x.phis.length c0) x.phis ∧ Row w Z 2 EMove (.slice A1 x.head.length c1) x.head ∧ Row w Z 4 EIns (.slice A2 x.body.length c2) x.body ∧ Row w Z 2 EMove (.slice A3 x.tail.length c3) x.tail := by
  obtain ⟨v0, v1, v2, v3, rfl, h0, h1, h2, h3⟩ := h
  have k0 := h0
  have k1 := h1
  have k2 := h2
  have k3 := h3
  obtain ⟨_, A0, c0, rfl, _⟩ := h0
  obtain ⟨_, A1, c1, rfl, _⟩ := h1
  obtain ⟨_, A2, c2, rfl, _⟩ := h2
  obtain ⟨_, A3, c3, rfl, _⟩ := h3
  exact ⟨A0, c0, A1, c1, A2, c2, A3, c3, rfl, k0, k1, k2, k3⟩

theorem uses_pos {o v a b : Int} (h : insOkB o v a b = true) : ∀ u ∈ usesL o v a b, 0 ≤ u := by
  intro u hu
  unfold usesL at hu
  rw [if_pos h] at hu
  unfold insOkB at h
  by_cases h1 : o = 1
  · rw [if_pos h1] at hu; simp at hu
  rw [if_neg h1] at h hu
  by_cases h2 : o = 2
  · rw [if_pos h2] at h
    rw [if_neg (by omega)] at hu
    simp [isNameB] at h hu
    omega
  rw [if_neg h2] at h
  by_cases h3 : 3 ≤ o ∧ o ≤ 6
  · rw [if_pos h3] at h hu
    simp [isNameB] at h hu
    omega
  rw [if_neg h3] at h hu
  by_cases h7 : o = 7
  · rw [if_pos h7] at h
    simp [isNameB] at h hu
    omega
  · rw [if_neg h7] at h; cases h

set_option maxHeartbeats 400000 in
theorem headOk_any (x : BlockD) (cs : List Value) (names : Int) (blocks preds : Nat) (w : World) (Z : Zn) (hv : EBlock w Z x cs) (hD : ∀ b, Z.D b → b < w.heap.size) (h1 : names ≤ 150) :
    Calls Tryz.prog 87 #[.agg cs.toArray, .agg #[.int .i64 names, .int .i64 blocks, .int .i64 preds]] w (GivesB (MovesP names x.head) w) := by
  obtain ⟨A0, c0, A1, c1, A2, c2, A3, c3, rfl, _, hv1, _, _⟩ := hv.parts
  have HV := Lib.hid hv1
  clear hv hv1
  go_enter Tryz.func87, Tryz.ntmps87
  go_wp2_with fail
  refine (movesWithin_any _ _ _ _ Z (HV.out.keep (Kept.below (((Below.refl _ _).alloc (Nat.le_refl _) _).alloc (by simp) _) hD) fun _ _ h => h) (fun b hb => by have := hD b hb; simp; omega) h1).mono ?_
  rintro e w1 ⟨r, rfl, hr, hb1⟩
  have HB1 := Lib.hid ((((Below.refl w.heap.size w).alloc (Nat.le_refl _) _).alloc (by simp) _).trans (hb1.mono (by simp; omega)))
  have HR := Lib.hid hr
  clear hr hb1
  go_wp2_with fail
  go_ret
  exact ⟨r, rfl, HR.out, HB1.out⟩

set_option maxHeartbeats 400000 in
theorem tailOk_any (x : BlockD) (cs : List Value) (names : Int) (blocks preds : Nat) (w : World) (Z : Zn) (hv : EBlock w Z x cs) (hD : ∀ b, Z.D b → b < w.heap.size) (h1 : names ≤ 150) :
    Calls Tryz.prog 89 #[.agg cs.toArray, .agg #[.int .i64 names, .int .i64 blocks, .int .i64 preds]] w (GivesB (MovesP names x.tail) w) := by
  obtain ⟨A0, c0, A1, c1, A2, c2, A3, c3, rfl, _, _, _, hv1⟩ := hv.parts
  have HV := Lib.hid hv1
  clear hv hv1
  go_enter Tryz.func89, Tryz.ntmps89
  go_wp2_with fail
  refine (movesWithin_any _ _ _ _ Z (HV.out.keep (Kept.below (((Below.refl _ _).alloc (Nat.le_refl _) _).alloc (by simp) _) hD) fun _ _ h => h) (fun b hb => by have := hD b hb; simp; omega) h1).mono ?_
  rintro e w1 ⟨r, rfl, hr, hb1⟩
  have HB1 := Lib.hid ((((Below.refl w.heap.size w).alloc (Nat.le_refl _) _).alloc (by simp) _).trans (hb1.mono (by simp; omega)))
  have HR := Lib.hid hr
  clear hr hb1
  go_wp2_with fail
  go_ret
  exact ⟨r, rfl, HR.out, HB1.out⟩

set_option maxRecDepth 10000 in
set_option maxHeartbeats 1000000 in
theorem phisOk_any (x : BlockD) (cs : List Value) (names : Int) (blocks preds : Nat) (w : World) (Z : Zn) (hv : EBlock w Z x cs) (hD : ∀ b, Z.D b → b < w.heap.size) :
    Calls Tryz.prog 86 #[.agg cs.toArray, .agg #[.int .i64 names, .int .i64 blocks, .int .i64 preds]] w (GivesB (PhisP names preds x.phis) w) := by
  obtain ⟨A0, c0, A1, c1, A2, c2, A3, c3, rfl, ⟨_, A, cc, he, hx⟩, _, _, _⟩ := hv.parts
  injection he with he1 _ he3
  subst he1 he3
  clear hv
  by_cases hlen : x.phis.length ≤ 4
  case neg =>
    have h' : (4 : Int) < (x.phis.length : Int) := by omega
    have HN : Hid (¬ PhisP names preds x.phis) := fun h => hlen h.1
    clear hlen
    go_enter Tryz.func86, Tryz.ntmps86
    go_wp2
    go_ret
    exact gives_no HN.out (((Below.refl _ _).alloc (Nat.le_refl _) _).alloc (by simp) _)
  have h' : (x.phis.length : Int) ≤ 4 := by omega
  go_enter Tryz.func86, Tryz.ntmps86
  go_wp2
  go_loopw [16] (fun i wr => ∃ k : Nat, k ≤ x.phis.length ∧ i = .int .i64 k ∧ Hid (Below (w.heap.size + 2) ((w.alloc (.cells #[.slice A0 x.phis.length c0, .slice A1 x.head.length c1, .slice A2 x.body.length c2, .slice A3 x.tail.length c3, .int .i64 x.fin.k, .int .i64 x.fin.a, .int .i64 x.fin.t, .int .i64 x.fin.l] 60)).alloc (.cells #[.int .i64 names, .int .i64 blocks, .int .i64 preds] 85)) wr) ∧ Hid (∀ (j : Nat) m, j < k → x.phis[j]? = some m → PhiP names preds m)) (fun i _ => x.phis.length - (intOf i).toNat)
  case atStart => exact ⟨0, Nat.zero_le _, rfl, Below.refl _ _, fun _ _ h => absurd h (by omega)⟩
  case round =>
    obtain ⟨k, hk, rfl, HB, H1⟩ := hrel
    have HB0 : Hid (Below w.heap.size w wr) := (((Below.refl _ _).alloc (Nat.le_refl _) _).alloc (by simp) _).trans (HB.out.mono (by omega))
    have hzw : w.heap.size + 2 ≤ wr.heap.size := by have := HB.out.size; simp at this; omega
    have f0 : wr.cell? ⟨w.heap.size + 1, 0, none⟩ = some (.int .i64 names) := (HB.out.cell (p := ⟨w.heap.size + 1, 0, none⟩) (by simp)).trans (by go_simp)
    have f2 : wr.cell? ⟨w.heap.size + 1, 2, none⟩ = some (.int .i64 preds) := (HB.out.cell (p := ⟨w.heap.size + 1, 2, none⟩) (by simp)).trans (by go_simp)
    have hBm : ∀ T : Obj, Below w.heap.size w (wr.alloc T) := fun T => HB0.out.alloc (by omega) _
    have HBm := Lib.hid hBm
    have hl0 : w.heap.size + 1 < wr.heap.size := by omega
    clear hBm
    by_cases hlt : k < x.phis.length
    case neg =>
      obtain rfl : k = x.phis.length := by omega
      go_wp2
      go_ret
      exact gives_yes ⟨hlen, fun j m hm => H1.out j m (List.getElem?_eq_some_iff.1 hm).1 hm⟩ HB0.out
    have hxk : x.phis[k]? = some x.phis[k] := List.getElem?_eq_getElem hlt
    generalize x.phis[k] = p at hxk
    obtain ⟨b, off, rfl, hDb, hrow⟩ := hx (by intro h; rw [h] at hlt; simp at hlt)
    obtain ⟨cs, ⟨u, rfl, hle1, A4, c4, rfl, hux⟩, hcs⟩ := hrow k p hxk
    have hbl := hD b hDb
    have c5 : wr.cell? ⟨b, off + k * 2, none⟩ = some (.int .i64 p.v) := (HB0.out.cell (p := ⟨b, _, none⟩) hbl).trans (hcs 0 _ rfl).1
    have c6 : wr.cell? ⟨b, off + k * 2 + 1, none⟩ = some (.slice A4 p.args.length c4) := (HB0.out.cell (p := ⟨b, _, none⟩) hbl).trans (hcs 1 _ rfl).1
    have Hxk := Lib.hid hxk
    clear hcs hx hxk hrow
    cases hd : isBelowB p.v names
    · have HN : Hid (¬ PhisP names preds x.phis) := fun h => by have := (h.2 k p Hxk.out).1; rw [hd] at this; cases this
      go_wp2_with (go_at_call 24; refine (isBelow_any _ _ _).mono ?_; rintro e w' ⟨rfl, rfl⟩)
      go_ret
      exact gives_no HN.out (HBm.out _)
    by_cases hpl : p.args.length = preds
    case neg =>
      have hb' : ((p.args.length : Int) != (preds : Int)) = true := by simp; omega
      have HN : Hid (¬ PhisP names preds x.phis) := fun h => hpl (h.2 k p Hxk.out).2.1
      clear hpl
      go_wp2_with (go_at_call 24; refine (isBelow_any _ _ _).mono ?_; rintro e w' ⟨rfl, rfl⟩)
      go_ret
      exact gives_no HN.out (HBm.out _)
    have hb' : ((p.args.length : Int) != (preds : Int)) = false := by simp [hpl]
    have HPL := Lib.hid hpl
    clear hpl
    have HD := Lib.hid hd
    go_wp2_with (go_at_call 24; refine (isBelow_any _ _ _).mono ?_; rintro e w' ⟨rfl, rfl⟩)
    clear c5 c6 hd hb'
    go_loop [37] (fun q => ∃ j : Nat, j ≤ p.args.length ∧ q = .int .i64 j ∧ Hid (∀ (j' : Nat) u, j' < j → p.args[j']? = some u → isBelowB u names = true)) (fun q => p.args.length - (intOf q).toNat)
    case atStart => exact ⟨0, Nat.zero_le _, rfl, fun _ _ h => absurd h (by omega)⟩
    case round =>
      obtain ⟨j, hj, rfl, H3⟩ := hrel
      by_cases hjl : j < p.args.length
      case neg =>
        obtain rfl : j = p.args.length := by omega
        have H1' : Hid (∀ (j : Nat) m, j < k + 1 → x.phis[j]? = some m → PhiP names preds m) := fun j m hj hm => by
          by_cases hjk : j = k
          · subst hjk
            rw [Hxk.out] at hm
            injection hm with hm
            subst hm
            exact ⟨HD.out, HPL.out, fun i a ha => H3.out i a (List.getElem?_eq_some_iff.1 ha).1 ha⟩
          · exact H1.out j m (by omega) hm
        go_wp2
        go_roundw
        case rel => exact ⟨k + 1, by omega, by go_num, HB.out.alloc (by omega) _, H1'⟩
        case measure => simp [intOf]; omega
      have hxj : p.args[j]? = some p.args[j] := List.getElem?_eq_getElem hjl
      generalize p.args[j] = u at hxj
      obtain ⟨b', off', rfl, hDb', hcell⟩ := hux (by intro h; rw [h] at hjl; simp at hjl)
      obtain ⟨cs, rfl, hcs⟩ := hcell j u hxj
      have hbl' := hD b' hDb'
      have p0 : wr.cell? ⟨b', off' + j, none⟩ = some (.int .i64 u) := (HB0.out.cell (p := ⟨b', _, none⟩) hbl').trans (by have := (hcs 0 _ rfl).1; rwa [Nat.mul_one] at this)
      have hbw : b' < wr.heap.size := by omega
      have Hxj := Lib.hid hxj
      clear hcell hux hxj hcs
      cases hun : isBelowB u names
      · have HN : Hid (¬ PhisP names preds x.phis) := fun h => by have := (h.2 k p Hxk.out).2.2 j u Hxj.out; rw [hun] at this; cases this
        go_wp2_with (go_at_call 24; refine (isBelow_any _ _ _).mono ?_; rintro e w' ⟨rfl, rfl⟩)
        go_ret
        exact gives_no HN.out (HBm.out _)
      · have H3' : Hid (∀ (j' : Nat) u, j' < j + 1 → p.args[j']? = some u → isBelowB u names = true) := fun j' u' hj' hm' => by
          by_cases e : j' = j
          · subst e
            rw [Hxj.out] at hm'
            injection hm' with hm'
            subst hm'
            exact hun
          · exact H3.out j' u' (by omega) hm'
        go_wp2_with (go_at_call 24; refine (isBelow_any _ _ _).mono ?_; rintro e w' ⟨rfl, rfl⟩)
        go_round
        case rel => exact ⟨j + 1, by omega, by go_num, H3'⟩
        case measure => simp [intOf]; omega

set_option maxRecDepth 10000 in
set_option maxHeartbeats 1000000 in
theorem bodyOk_any (x : BlockD) (cs : List Value) (names : Int) (blocks preds : Nat) (w : World) (Z : Zn) (hv : EBlock w Z x cs) (hD : ∀ b, Z.D b → b < w.heap.size) :
    Calls Tryz.prog 88 #[.agg cs.toArray, .agg #[.int .i64 names, .int .i64 blocks, .int .i64 preds]] w (GivesB (BodyP names x.body) w) := by
  obtain ⟨A0, c0, A1, c1, A2, c2, A3, c3, rfl, _, _, ⟨_, A, cc, he, hx⟩, _⟩ := hv.parts
  injection he with he1 _ he3
  subst he1 he3
  clear hv
  by_cases hlen : x.body.length ≤ 80
  case neg =>
    have h' : (80 : Int) < (x.body.length : Int) := by omega
    have HN : Hid (¬ BodyP names x.body) := fun h => hlen h.1
    clear hlen
    go_enter Tryz.func88, Tryz.ntmps88
    go_wp2
    go_ret
    exact gives_no HN.out (((Below.refl _ _).alloc (Nat.le_refl _) _).alloc (by simp) _)
  have h' : (x.body.length : Int) ≤ 80 := by omega
  go_enter Tryz.func88, Tryz.ntmps88
  go_wp2
  go_loopw [16] (fun i wr => ∃ k : Nat, k ≤ x.body.length ∧ i = .int .i64 k ∧ Hid (Below (w.heap.size + 2) ((w.alloc (.cells #[.slice A0 x.phis.length c0, .slice A1 x.head.length c1, .slice A2 x.body.length c2, .slice A3 x.tail.length c3, .int .i64 x.fin.k, .int .i64 x.fin.a, .int .i64 x.fin.t, .int .i64 x.fin.l] 60)).alloc (.cells #[.int .i64 names, .int .i64 blocks, .int .i64 preds] 85)) wr) ∧ Hid (∀ (j : Nat) m, j < k → x.body[j]? = some m → InsP names m)) (fun i _ => x.body.length - (intOf i).toNat)
  case atStart => exact ⟨0, Nat.zero_le _, rfl, Below.refl _ _, fun _ _ h => absurd h (by omega)⟩
  case round =>
    obtain ⟨k, hk, rfl, HB, H1⟩ := hrel
    have HB0 : Hid (Below w.heap.size w wr) := (((Below.refl _ _).alloc (Nat.le_refl _) _).alloc (by simp) _).trans (HB.out.mono (by omega))
    have hzw : w.heap.size + 2 ≤ wr.heap.size := by have := HB.out.size; simp at this; omega
    have f0 : wr.cell? ⟨w.heap.size + 1, 0, none⟩ = some (.int .i64 names) := (HB.out.cell (p := ⟨w.heap.size + 1, 0, none⟩) (by simp)).trans (by go_simp)
    have hl0 : w.heap.size + 1 < wr.heap.size := by omega
    have hl1 : w.heap.size + 1 < wr.heap.size + 1 := by omega
    by_cases hlt : k < x.body.length
    case neg =>
      obtain rfl : k = x.body.length := by omega
      go_wp2
      go_ret
      exact gives_yes ⟨hlen, fun j m hm => H1.out j m (List.getElem?_eq_some_iff.1 hm).1 hm⟩ HB0.out
    have hxk : x.body[k]? = some x.body[k] := List.getElem?_eq_getElem hlt
    generalize x.body[k] = y at hxk
    obtain ⟨b, off, rfl, hDb, hrow⟩ := hx (by intro h; rw [h] at hlt; simp at hlt)
    obtain ⟨cs, rfl, hcs⟩ := hrow k y hxk
    have hbl := hD b hDb
    have c4 : wr.cell? ⟨b, off + k * 4, none⟩ = some (.int .i64 y.op) := (HB0.out.cell (p := ⟨b, _, none⟩) hbl).trans (hcs 0 _ rfl).1
    have c5 : wr.cell? ⟨b, off + k * 4 + 1, none⟩ = some (.int .i64 y.v) := (HB0.out.cell (p := ⟨b, _, none⟩) hbl).trans (hcs 1 _ rfl).1
    have c6 : wr.cell? ⟨b, off + k * 4 + 2, none⟩ = some (.int .i64 y.a) := (HB0.out.cell (p := ⟨b, _, none⟩) hbl).trans (hcs 2 _ rfl).1
    have c7 : wr.cell? ⟨b, off + k * 4 + 3, none⟩ = some (.int .i64 y.b) := (HB0.out.cell (p := ⟨b, _, none⟩) hbl).trans (hcs 3 _ rfl).1
    have Hxk := Lib.hid hxk
    clear hcs hx hxk hrow
    go_wp2_with fail
    refine (InsOk_any _ _ _ _ _).mono ?_
    rintro e w1 ⟨rfl, hb1⟩
    have hz1 : wr.heap.size + 1 ≤ w1.heap.size := by have := hb1.size; simp at this; omega
    have HB1 := Lib.hid ((HB.out.alloc hzw _).trans (hb1.mono (by simp; omega)))
    have HB01 : Hid (Below w.heap.size w w1) := (((Below.refl _ _).alloc (Nat.le_refl _) _).alloc (by simp) _).trans (HB1.out.mono (by omega))
    obtain ⟨hc1, hf1⟩ := bcellB (hb1.mono (B' := wr.heap.size + 1) (by simp))
    clear hb1 hf1
    cases hok : insOkB y.op y.v y.a y.b
    · have HN : Hid (¬ BodyP names x.body) := fun h => by have := (h.2 k y Hxk.out).1; rw [hok] at this; cases this
      go_wp2_with fail
      go_ret
      exact gives_no HN.out HB01.out
    by_cases hvn : y.v < names
    case neg =>
      have HN : Hid (¬ BodyP names x.body) := fun h => hvn (h.2 k y Hxk.out).2.1
      have hvn' : names ≤ y.v := by omega
      clear hvn
      go_wp2_with fail
      go_ret
      exact gives_no HN.out HB01.out
    have HV := Lib.hid hok
    go_wp2_with fail
    refine (UsesOf_any _ _ _ _ _).mono ?_
    rintro e w2 ⟨r, rfl, hr, hb2⟩
    have hz2 : wr.heap.size + 1 ≤ w2.heap.size := by have := hb2.size; omega
    have HB2 := Lib.hid (HB1.out.trans (hb2.mono (by omega)))
    have HB02 : Hid (Below w.heap.size w w2) := (((Below.refl _ _).alloc (Nat.le_refl _) _).alloc (by simp) _).trans (HB2.out.mono (by omega))
    obtain ⟨hc2, hf2⟩ := bcellB (hb2.mono (B' := wr.heap.size + 1) (by omega))
    have hu := hr.ri
    have hul := usesL_len y.op y.v y.a y.b
    have hpos := uses_pos HV.out
    have HU : Hid (∀ u, u ∈ usesL y.op y.v y.a y.b ↔ ∃ j, (usesL y.op y.v y.a y.b)[j]? = some u) := fun u => List.mem_iff_getElem?
    clear hr hb2 hok hf2
    generalize husl : usesL y.op y.v y.a y.b = us at hu hul HU hpos
    have HUS := Lib.hid husl
    have HPOS := Lib.hid hpos
    clear husl hpos
    obtain ⟨_, A5, c8, rfl, hux⟩ := hu
    go_wp2_with fail
    go_loop [33] (fun q => ∃ j : Nat, j ≤ us.length ∧ q = .int .i64 j ∧ Hid (∀ (j' : Nat) u, j' < j → us[j']? = some u → u < names)) (fun q => us.length - (intOf q).toNat)
    case atStart => exact ⟨0, Nat.zero_le _, rfl, fun _ _ h => absurd h (by omega)⟩
    case round =>
      obtain ⟨j, hj, rfl, H3⟩ := hrel
      by_cases hjl : j < us.length
      case neg =>
        obtain rfl : j = us.length := by omega
        have H1' : Hid (∀ (j : Nat) m, j < k + 1 → x.body[j]? = some m → InsP names m) := fun j m hj hm => by
          by_cases hjk : j = k
          · subst hjk
            rw [Hxk.out] at hm
            injection hm with hm
            subst hm
            refine ⟨HV.out, hvn, fun u hu => ?_⟩
            rw [HUS.out] at hu
            obtain ⟨i, hi⟩ := (HU.out u).1 hu
            exact H3.out i u (List.getElem?_eq_some_iff.1 hi).1 hi
          · exact H1.out j m (by omega) hm
        go_wp2
        go_roundw
        case rel => exact ⟨k + 1, by omega, by go_num, HB2, H1'⟩
        case measure => simp [intOf]; omega
      have hxj : us[j]? = some us[j] := List.getElem?_eq_getElem hjl
      generalize us[j] = u at hxj
      obtain ⟨b', off', rfl, hcell⟩ := hux (by rintro rfl; simp at hjl)
      have Hxj := Lib.hid hxj
      have hp0 : w2.cell? ⟨b', off' + j, none⟩ = some (.int .i64 u) := hcell j u hxj
      have hu0 := HPOS.out u ((HU.out u).2 ⟨j, hxj⟩)
      clear hcell hux hxj c4 c5 c6 c7
      by_cases hun : u < names
      · have hun' : isBelowB u names = true := by simp [isBelowB]; omega
        have H3' : Hid (∀ (j' : Nat) u, j' < j + 1 → us[j']? = some u → u < names) := fun j' u' hj' hm' => by
          by_cases e : j' = j
          · subst e
            rw [Hxj.out] at hm'
            injection hm' with hm'
            subst hm'
            exact hun
          · exact H3.out j' u' (by omega) hm'
        clear hun
        go_wp2_with (go_at_call 24; refine (isBelow_any _ _ _).mono ?_; rintro e w' ⟨rfl, rfl⟩)
        go_round
        case rel => exact ⟨j + 1, by omega, by go_num, H3'⟩
        case measure => simp [intOf]; omega
      · have HN : Hid (¬ BodyP names x.body) := fun h => hun ((h.2 k y Hxk.out).2.2 u (by rw [HUS.out]; exact (HU.out u).2 ⟨j, Hxj.out⟩))
        have hun' : isBelowB u names = false := by simp [isBelowB]; omega
        clear hun
        go_wp2_with (go_at_call 24; refine (isBelow_any _ _ _).mono ?_; rintro e w' ⟨rfl, rfl⟩)
        go_ret
        exact gives_no HN.out HB02.out
end

/- endOk and ok of a block, by the program. -/
section
open Go.ChangeShapes Go.WideShapes Go.ChangeAt Go.RowKit Go.Joins

theorem endOk_cases {e : EndD} (h : endOkB e.k e.a e.t e.l = true) : (e.k = 1 ∧ 0 ≤ e.a ∧ e.t = 0 ∧ e.l = 0) ∨ (e.k = 2 ∧ 0 ≤ e.t ∧ e.l = 0) ∨ (e.k = 3 ∧ 0 ≤ e.a ∧ 0 ≤ e.t ∧ 0 ≤ e.l ∧ e.t ≠ e.l) := by
  unfold endOkB at h
  by_cases h1 : e.k = 1
  · rw [if_pos h1] at h
    simp [isNameB] at h
    exact .inl ⟨h1, h.1.1.1, h.1.2, h.2⟩
  rw [if_neg h1] at h
  by_cases h2 : e.k = 2
  · rw [if_pos h2] at h
    simp [isBelowB] at h
    exact .inr (.inl ⟨h2, h.1.2.1, h.2⟩)
  rw [if_neg h2] at h
  by_cases h3 : e.k = 3
  · rw [if_pos h3] at h
    simp [isBelowB, isNameB] at h
    exact .inr (.inr ⟨h3, h.1.1.1.1, h.1.1.2.1, h.1.2.1, h.2⟩)
  rw [if_neg h3] at h
  cases h

theorem succs_below {e : EndD} {blocks : Nat} (h : endOkB e.k e.a e.t e.l = true) (hb : 1 ≤ blocks) : (∀ u ∈ succsL e.k e.a e.t e.l, isBelowB u blocks = true) ↔ (e.t < blocks ∧ e.l < blocks) := by
  have hs : succsL e.k e.a e.t e.l = toL e.k e.t e.l := by simp [succsL, h]
  rw [hs]
  rcases endOk_cases h with ⟨h1, h2, h3, h4⟩ | ⟨h1, h2, h3⟩ | ⟨h1, h2, h3, h4, h5⟩
  · rw [h1]; simp [toL]; omega
  · rw [h1]; simp [toL, isBelowB]; omega
  · rw [h1]; simp [toL, isBelowB]; omega

theorem end_a {e : EndD} {names : Int} (h : endOkB e.k e.a e.t e.l = true) (h2 : e.k ≠ 2) : isBelowB e.a names = true ↔ e.a < names := by
  rcases endOk_cases h with ⟨h1, h3, _⟩ | ⟨h1, _⟩ | ⟨h1, h3, _⟩
  · simp [isBelowB]; omega
  · exact absurd h1 h2
  · simp [isBelowB]; omega

set_option maxRecDepth 10000 in
set_option maxHeartbeats 1000000 in
theorem endOk_any (x : BlockD) (cs : List Value) (names : Int) (blocks preds : Nat) (w : World) (Z : Zn) (hv : EBlock w Z x cs) (hb : 1 ≤ blocks) :
    Calls Tryz.prog 90 #[.agg cs.toArray, .agg #[.int .i64 names, .int .i64 blocks, .int .i64 preds]] w (GivesB (EndP names blocks x.fin) w) := by
  obtain ⟨A0, c0, A1, c1, A2, c2, A3, c3, rfl, _, _, _, _⟩ := hv.parts
  clear hv
  go_enter Tryz.func90, Tryz.ntmps90
  go_wp2_with fail
  refine (EndOk_any _ _ _ _ _).mono ?_
  rintro e w1 ⟨rfl, hb1⟩
  have HB1 := Lib.hid (hb1.mono (B' := w.heap.size + 2) (by simp))
  have HB01 : Hid (Below w.heap.size w w1) := (((Below.refl _ _).alloc (Nat.le_refl _) _).alloc (by simp) _).trans (HB1.out.mono (by omega))
  have hz1 : w.heap.size + 2 ≤ w1.heap.size := by have := hb1.size; simp at this; omega
  obtain ⟨hc1, hf1⟩ := bcellB HB1.out
  clear hb1 hf1
  cases hok : endOkB x.fin.k x.fin.a x.fin.t x.fin.l
  · have HN : Hid (¬ EndP names blocks x.fin) := fun h => by have := h.1; rw [hok] at this; cases this
    go_wp2_with fail
    go_ret
    exact gives_no HN.out HB01.out
  have HOK := Lib.hid hok
  clear hok
  go_wp2_with fail
  refine (SuccsOf_any _ _ _ _ _).mono ?_
  rintro e w2 ⟨r, rfl, hr, hb2⟩
  have HB2 := Lib.hid (HB1.out.trans (hb2.mono hz1))
  have HB02 : Hid (Below w.heap.size w w2) := (((Below.refl _ _).alloc (Nat.le_refl _) _).alloc (by simp) _).trans (HB2.out.mono (by omega))
  obtain ⟨hc2, hf2⟩ := bcellB (hb2.mono hz1)
  have hu := hr.ri
  have hul := succsL_len x.fin.k x.fin.a x.fin.t x.fin.l
  have HU : Hid (∀ u, u ∈ succsL x.fin.k x.fin.a x.fin.t x.fin.l ↔ ∃ j, (succsL x.fin.k x.fin.a x.fin.t x.fin.l)[j]? = some u) := fun u => List.mem_iff_getElem?
  have HSB := Lib.hid (succs_below HOK.out hb)
  clear hr hb2 hf2
  generalize succsL x.fin.k x.fin.a x.fin.t x.fin.l = us at hu hul HU HSB
  obtain ⟨_, A5, c8, rfl, hux⟩ := hu
  go_wp2_with fail
  go_loop [15] (fun q => ∃ j : Nat, j ≤ us.length ∧ q = .int .i64 j ∧ Hid (∀ (j' : Nat) u, j' < j → us[j']? = some u → isBelowB u blocks = true)) (fun q => us.length - (intOf q).toNat)
  case atStart => exact ⟨0, Nat.zero_le _, rfl, fun _ _ h => absurd h (by omega)⟩
  case round =>
    obtain ⟨j, hj, rfl, H3⟩ := hrel
    by_cases hjl : j < us.length
    case neg =>
      obtain rfl : j = us.length := by omega
      have HTL : Hid (x.fin.t < blocks ∧ x.fin.l < blocks) := HSB.out.1 fun u hu => by
        obtain ⟨i, hi⟩ := (HU.out u).1 hu
        exact H3.out i u (List.getElem?_eq_some_iff.1 hi).1 hi
      by_cases hk2 : x.fin.k = 2
      · have g1 : (x.fin.k == 2) = true := by simpa using hk2
        have HY : Hid (EndP names blocks x.fin) := ⟨HOK.out, .inl hk2, HTL.out.1, HTL.out.2⟩
        clear hk2
        go_wp2_with (go_at_call 24; refine (isBelow_any _ _ _).mono ?_; rintro e w' ⟨rfl, rfl⟩)
        go_ret
        exact gives_yes HY.out HB02.out
      · have g1 : (x.fin.k == 2) = false := by simpa using hk2
        cases hA : isBelowB x.fin.a names
        · have HN : Hid (¬ EndP names blocks x.fin) := fun h => by
            rcases h.2.1 with h | h
            · exact hk2 h
            · have := (end_a (names := names) HOK.out hk2).2 h
              rw [hA] at this; cases this
          clear hk2
          go_wp2_with (go_at_call 24; refine (isBelow_any _ _ _).mono ?_; rintro e w' ⟨rfl, rfl⟩)
          go_ret
          exact gives_no HN.out HB02.out
        · have HY : Hid (EndP names blocks x.fin) := ⟨HOK.out, .inr ((end_a HOK.out hk2).1 hA), HTL.out.1, HTL.out.2⟩
          clear hk2
          go_wp2_with (go_at_call 24; refine (isBelow_any _ _ _).mono ?_; rintro e w' ⟨rfl, rfl⟩)
          go_ret
          exact gives_yes HY.out HB02.out
    have hxj : us[j]? = some us[j] := List.getElem?_eq_getElem hjl
    generalize us[j] = u at hxj
    obtain ⟨b', off', rfl, hcell⟩ := hux (by rintro rfl; simp at hjl)
    have Hxj := Lib.hid hxj
    have hp0 : w2.cell? ⟨b', off' + j, none⟩ = some (.int .i64 u) := hcell j u hxj
    clear hcell hux hxj
    cases hun : isBelowB u blocks
    · have HN : Hid (¬ EndP names blocks x.fin) := fun h => by
        have := HSB.out.2 ⟨h.2.2.1, h.2.2.2⟩ u ((HU.out u).2 ⟨j, Hxj.out⟩)
        rw [hun] at this; cases this
      go_wp2_with (go_at_call 24; refine (isBelow_any _ _ _).mono ?_; rintro e w' ⟨rfl, rfl⟩)
      go_ret
      exact gives_no HN.out HB02.out
    · have H3' : Hid (∀ (j' : Nat) u, j' < j + 1 → us[j']? = some u → isBelowB u blocks = true) := fun j' u' hj' hm' => by
        by_cases e : j' = j
        · subst e
          rw [Hxj.out] at hm'
          injection hm' with hm'
          subst hm'
          exact hun
        · exact H3.out j' u' (by omega) hm'
      go_wp2_with (go_at_call 24; refine (isBelow_any _ _ _).mono ?_; rintro e w' ⟨rfl, rfl⟩)
      go_round
      case rel => exact ⟨j + 1, by omega, by go_num, H3'⟩
      case measure => simp [intOf]; omega
end

end Go.Proofs.YtnjmlhokkhkaaaaGreatDoor
