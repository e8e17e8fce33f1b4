/- The model's l2Moves, l2Body and l2Phis. -/
import Derived.Test.YtbghcoihndlihaaFunP
namespace Go.Proofs.Ytbghcoihndlihaa
open Go.ChangeShapes Go.WideShapes Go.ChangeAt Go.RowKit Go.Joins

theorem movesP_first {names : Int} {l : List MoveD} {i : Nat} {m : MoveD} (hx : l[i]? = some m) (h : ¬ MoveP names m) : ¬ MovesP names l := fun hp => h (hp.2.1 i m hx)
theorem moveP_dst {names : Int} {m : MoveD} (h : isBelowB m.dst names = false) : ¬ MoveP names m := fun hp => by have := hp.1; rw [h] at this; cases this
theorem moveP_src {names : Int} {m : MoveD} (h : isBelowB m.src names = false) : ¬ MoveP names m := fun hp => by have := hp.2; rw [h] at this; cases this

set_option maxHeartbeats 1000000 in
theorem l2Moves_any (v : Value) (ms : List MoveD) (names : Int) (w : World) (Z : Zn) (hv : Row w Z 2 EMove v ms) (hD : ∀ b, Z.D b → b < w.heap.size) (h0 : 0 ≤ names) (h1 : names ≤ 150) :
    Calls Try.prog 56 #[v, .int .i64 names] w (GivesB (MovesP names ms) w) := by
  obtain ⟨hle, A, c, rfl, hx⟩ := hv
  by_cases hlen : ms.length ≤ 40
  case neg =>
    have h' : (40 : Int) < (ms.length : Int) := by omega
    have HN : Hid (¬ MovesP names ms) := fun h => hlen h.1
    clear hlen
    go_enter Try.func56, Try.ntmps56
    go_wp2
    go_ret
    exact gives_no HN.out (Below.refl _ _)
  have h' : (ms.length : Int) ≤ 40 := by omega
  go_enter Try.func56, Try.ntmps56
  go_wp2
  go_loopw [5, 6] (fun i _ wr => ∃ k : Nat, k ≤ ms.length ∧ i = .int .i64 k ∧ Hid (Below w.heap.size w wr) ∧ Hid (∀ (j : Nat) m, j < k → ms[j]? = some m → MoveP names m) ∧ Hid (∀ (i j : Nat) m m', i < k → j < i → ms[i]? = some m → ms[j]? = some m' → m'.dst ≠ m.dst)) (fun i _ _ => ms.length - (intOf i).toNat)
  case atStart => exact ⟨0, Nat.zero_le _, rfl, Below.refl _ _, fun _ _ h => absurd h (by omega), fun _ _ _ _ h => absurd h (by omega)⟩
  case round =>
    obtain ⟨k, hk, rfl, HB, H1, H2⟩ := hrel
    by_cases hlt : k < ms.length
    · have hxk : ms[k]? = some ms[k] := List.getElem?_eq_getElem hlt
      generalize ms[k] = x at hxk
      obtain ⟨b, off, rfl, hDb, hrow⟩ := hx (by rintro rfl; simp at hlt)
      obtain ⟨cs, rfl, hcs⟩ := hrow k x hxk
      have hbl := hD b hDb
      have c0 : wr.cell? ⟨b, off + k * 2, none⟩ = some (.int .i64 x.dst) := (HB.out.cell (p := ⟨b, _, none⟩) hbl).trans (hcs 0 _ rfl).1
      have c1 : wr.cell? ⟨b, off + k * 2 + 1, none⟩ = some (.int .i64 x.src) := (HB.out.cell (p := ⟨b, _, none⟩) hbl).trans (hcs 1 _ rfl).1
      have Hxk := Lib.hid hxk
      have HR := Lib.hid hrow
      clear hcs hx hxk hrow
      cases hd : isBelowB x.dst names
      · have HN : Hid (¬ MovesP names ms) := movesP_first Hxk.out (moveP_dst hd)
        go_wp2_with (go_at_call 54; refine (l1In_below _ _ _).mono ?_; rintro e w' ⟨rfl, rfl⟩)
        go_ret
        exact gives_no HN.out HB.out
      cases hs : isBelowB x.src names
      · have HN : Hid (¬ MovesP names ms) := movesP_first Hxk.out (moveP_src hs)
        go_wp2_with (go_at_call 54; refine (l1In_below _ _ _).mono ?_; rintro e w' ⟨rfl, rfl⟩)
        go_ret
        exact gives_no HN.out HB.out
      have H1' : Hid (∀ (j : Nat) m, j < k + 1 → ms[j]? = some m → MoveP names m) := fun j m hj hm => by
        by_cases hjk : j = k
        · subst hjk
          rw [Hxk.out] at hm
          injection hm with hm
          subst hm
          exact ⟨hd, hs⟩
        · exact H1.out j m (by omega) hm
      go_wp2_with (go_at_call 54; refine (l1In_below _ _ _).mono ?_; rintro e w' ⟨rfl, rfl⟩)
      obtain ⟨wo, hwo⟩ : ∃ wo : World, wo = wr := ⟨_, rfl⟩
      have HB0 := HB
      rw [← hwo] at HB0 c0 c1
      have HB00 := Lib.hid HB0.out
      clear HB HB0
      subst hwo
      go_loopw [6] (fun q wq => ∃ j : Nat, j ≤ k ∧ q = .int .i64 j ∧ Hid (∃ n, wq = wo.drewN n) ∧ Hid (∀ (j' : Nat) m', j' < j → ms[j']? = some m' → m'.dst ≠ x.dst)) (fun q _ => k - (intOf q).toNat)
      case atStart => exact ⟨0, Nat.zero_le _, rfl, ⟨0, rfl⟩, fun _ _ h => absurd h (by omega)⟩
      case round =>
        obtain ⟨j, hj, rfl, HW, H3⟩ := hrel
        obtain ⟨n, rfl⟩ := HW.out
        by_cases hjk : j < k
        · have hxj : ms[j]? = some ms[j] := List.getElem?_eq_getElem (by omega)
          generalize ms[j] = y at hxj
          obtain ⟨cs, rfl, hcs⟩ := HR.out j y hxj
          have p0 : wo.cell? ⟨b, off + j * 2, none⟩ = some (.int .i64 y.dst) := (HB00.out.cell (p := ⟨b, _, none⟩) hbl).trans (hcs 0 _ rfl).1
          have Hxj := Lib.hid hxj
          clear hcs hxj
          by_cases hyx : y.dst = x.dst
          · have hb' : (y.dst == x.dst) = true := by simpa using hyx
            have HN : Hid (¬ MovesP names ms) := fun h => h.2.2 k j x y hjk Hxk.out Hxj.out hyx
            clear hyx
            go_wp2
            go_quiet (fail)
            go_wp2
            go_ret
            exact gives_no HN.out (below_drewN (below_drewN HB00.out _) _)
          · have hb' : (y.dst == x.dst) = false := by simpa using hyx
            have H3' : Hid (∀ (j' : Nat) m', j' < j + 1 → ms[j']? = some m' → m'.dst ≠ x.dst) := fun j' m' hj' hm' => by
              by_cases e : j' = j
              · subst e
                rw [Hxj.out] at hm'
                injection hm' with hm'
                subst hm'
                exact hyx
              · exact H3.out j' m' (by omega) hm'
            clear hyx
            go_wp2
            go_quiet (fail)
            go_wp2
            go_roundw
            case rel => exact ⟨j + 1, by omega, by go_num, ⟨n + nq, by go_simp⟩, H3'⟩
            case measure => simp [intOf]; omega
        · obtain rfl : j = k := by omega
          have H2' : Hid (∀ (i j' : Nat) m m', i < j + 1 → j' < i → ms[i]? = some m → ms[j']? = some m' → m'.dst ≠ m.dst) := fun i j' m m' hi hj' hm hm' => by
            by_cases e : i = j
            · subst e
              rw [Hxk.out] at hm
              injection hm with hm
              subst hm
              exact H3.out j' m' hj' hm'
            · exact H2.out i j' m m' (by omega) hj' hm hm'
          go_wp2
          go_roundw
          case rel => exact ⟨j + 1, by omega, by go_num, below_drewN HB00.out _, H1', H2'⟩
          case measure => simp [intOf]; omega
    · obtain rfl : k = ms.length := by omega
      go_wp2
      go_ret
      exact gives_yes ⟨hlen, fun j m hm => H1.out j m (List.getElem?_eq_some_iff.1 hm).1 hm, fun i j m m' hj hm hm' => H2.out i j m m' (List.getElem?_eq_some_iff.1 hm).1 hj hm hm'⟩ HB.out

set_option maxHeartbeats 1000000 in
theorem l2Body_any (v : Value) (l : List InsD) (names : Int) (w : World) (Z : Zn) (hv : Row w Z 4 EIns v l) (hD : ∀ b, Z.D b → b < w.heap.size) :
    Calls Try.prog 57 #[v, .int .i64 names] w (GivesB (BodyP names l) w) := by
  obtain ⟨hle, A, c, rfl, hx⟩ := hv
  by_cases hlen : l.length ≤ 80
  case neg =>
    have h' : (80 : Int) < (l.length : Int) := by omega
    have HN : Hid (¬ BodyP names l) := fun h => hlen h.1
    clear hlen
    go_enter Try.func57, Try.ntmps57
    go_wp2
    go_ret
    exact gives_no HN.out (Below.refl _ _)
  have h' : (l.length : Int) ≤ 80 := by omega
  go_enter Try.func57, Try.ntmps57
  go_wp2
  go_loopw [5, 6, 7] (fun i _ _ wr => ∃ k : Nat, k ≤ l.length ∧ i = .int .i64 k ∧ Hid (Below w.heap.size w wr) ∧ Hid (∀ (j : Nat) m, j < k → l[j]? = some m → InsP names m)) (fun i _ _ _ => l.length - (intOf i).toNat)
  case atStart => exact ⟨0, Nat.zero_le _, rfl, Below.refl _ _, fun _ _ h => absurd h (by omega)⟩
  case round =>
    obtain ⟨k, hk, rfl, HB, H1⟩ := hrel
    by_cases hlt : k < l.length
    case neg =>
      obtain rfl : k = l.length := by omega
      go_wp2
      go_ret
      exact gives_yes ⟨hlen, fun j m hm => H1.out j m (List.getElem?_eq_some_iff.1 hm).1 hm⟩ HB.out
    have hxk : l[k]? = some l[k] := List.getElem?_eq_getElem hlt
    generalize l[k] = x at hxk
    obtain ⟨b, off, rfl, hDb, hrow⟩ := hx (by rintro rfl; simp at hlt)
    obtain ⟨cs, rfl, hcs⟩ := hrow k x hxk
    have hbl := hD b hDb
    have c0 : wr.cell? ⟨b, off + k * 4, none⟩ = some (.int .i64 x.op) := (HB.out.cell (p := ⟨b, _, none⟩) hbl).trans (hcs 0 _ rfl).1
    have c1 : wr.cell? ⟨b, off + k * 4 + 1, none⟩ = some (.int .i64 x.v) := (HB.out.cell (p := ⟨b, _, none⟩) hbl).trans (hcs 1 _ rfl).1
    have c2 : wr.cell? ⟨b, off + k * 4 + 2, none⟩ = some (.int .i64 x.a) := (HB.out.cell (p := ⟨b, _, none⟩) hbl).trans (hcs 2 _ rfl).1
    have c3 : wr.cell? ⟨b, off + k * 4 + 3, none⟩ = some (.int .i64 x.b) := (HB.out.cell (p := ⟨b, _, none⟩) hbl).trans (hcs 3 _ rfl).1
    have Hxk := Lib.hid hxk
    clear hcs hx hxk hrow
    go_wp2_with fail
    refine (sInsOk_any _ _ _ _ _).mono ?_
    rintro e w1 ⟨rfl, hb1⟩
    have hz1 := hb1.size
    obtain ⟨hc1, hf1⟩ := bcellB (hb1.mono HB.out.size)
    have HB1 := Lib.hid (HB.out.trans (hb1.mono HB.out.size))
    clear hb1 hf1
    cases hok : insOkB x.op x.v x.a x.b
    · have HN : Hid (¬ BodyP names l) := fun h => by have := (h.2 k x Hxk.out).1; rw [hok] at this; cases this
      go_wp2_with fail
      go_ret
      exact gives_no HN.out HB1.out
    by_cases hvn : x.v < names
    case neg =>
      have HN : Hid (¬ BodyP names l) := fun h => hvn (h.2 k x Hxk.out).2.1
      have hvn' : names ≤ x.v := by omega
      clear hvn
      go_wp2_with fail
      go_ret
      exact gives_no HN.out HB1.out
    have HV := Lib.hid hok
    go_wp2_with fail
    refine (l1Uses_any _ _ _ _ _ HV.out).mono ?_
    rintro e w2 ⟨r, rfl, hr, hb2⟩
    have HB2 := Lib.hid (HB1.out.trans (hb2.mono HB1.out.size))
    have hu := hr.ri
    have hul := usesL_len x.op x.v x.a x.b
    have HU : Hid (∀ u, u ∈ usesL x.op x.v x.a x.b ↔ ∃ j, (usesL x.op x.v x.a x.b)[j]? = some u) := fun u => List.mem_iff_getElem?
    clear hr hb2 HB1 hc1 c0 c1 c2 c3 hok
    generalize husl : usesL x.op x.v x.a x.b = us at hu hul HU
    have HUS := Lib.hid husl
    clear husl
    obtain ⟨_, A1, c1, rfl, hux⟩ := hu
    go_wp2_with fail
    go_loop [7] (fun q => ∃ j : Nat, j ≤ us.length ∧ q = .int .i64 j ∧ Hid (∀ (j' : Nat) u, j' < j → us[j']? = some u → u < names)) (fun q => us.length - (intOf q).toNat)
    case atStart => exact ⟨0, Nat.zero_le _, rfl, fun _ _ h => absurd h (by omega)⟩
    case round =>
      obtain ⟨j, hj, rfl, H3⟩ := hrel
      by_cases hjl : j < us.length
      case neg =>
        obtain rfl : j = us.length := by omega
        have H1' : Hid (∀ (j : Nat) m, j < k + 1 → l[j]? = some m → InsP names m) := fun j m hj hm => by
          by_cases hjk : j = k
          · subst hjk
            rw [Hxk.out] at hm
            injection hm with hm
            subst hm
            refine ⟨HV.out, hvn, fun u hu => ?_⟩
            rw [HUS.out] at hu
            obtain ⟨i, hi⟩ := (HU.out u).1 hu
            exact H3.out i u (List.getElem?_eq_some_iff.1 hi).1 hi
          · exact H1.out j m (by omega) hm
        go_wp2
        go_roundw
        case rel => exact ⟨k + 1, by omega, by go_num, HB2, H1'⟩
        case measure => simp [intOf]; omega
      have hxj : us[j]? = some us[j] := List.getElem?_eq_getElem hjl
      generalize us[j] = u at hxj
      obtain ⟨b', off', rfl, hcell⟩ := hux (by rintro rfl; simp at hjl)
      have p0 := hcell j u hxj
      have Hxj := Lib.hid hxj
      clear hcell hux hxj
      by_cases hun : u < names
      · have H3' : Hid (∀ (j' : Nat) u, j' < j + 1 → us[j']? = some u → u < names) := fun j' u' hj' hm' => by
          by_cases e : j' = j
          · subst e
            rw [Hxj.out] at hm'
            injection hm' with hm'
            subst hm'
            exact hun
          · exact H3.out j' u' (by omega) hm'
        go_wp2
        go_round
        case rel => exact ⟨j + 1, by omega, by go_num, H3'⟩
        case measure => simp [intOf]; omega
      · have HN : Hid (¬ BodyP names l) := fun h => hun ((h.2 k x Hxk.out).2.2 u (by rw [HUS.out]; exact (HU.out u).2 ⟨j, Hxj.out⟩))
        have hun' : names ≤ u := by omega
        clear hun
        go_wp2
        go_ret
        exact gives_no HN.out HB2.out

set_option maxHeartbeats 1000000 in
theorem l2Phis_any (v : Value) (l : List PhiD) (names : Int) (preds : Nat) (w : World) (Z : Zn) (hv : Row w Z 2 (EPhi w Z) v l) (h0 : 0 ≤ names) (h1 : names ≤ 150) :
    Calls Try.prog 31 #[v, .int .i64 names, .int .i64 preds] w (GivesB (PhisP names preds l) w) := by
  obtain ⟨hle, A, c, rfl, hx⟩ := hv
  by_cases hlen : l.length ≤ 4
  case neg =>
    have h' : (4 : Int) < (l.length : Int) := by omega
    have HN : Hid (¬ PhisP names preds l) := fun h => hlen h.1
    clear hlen
    go_enter Try.func31, Try.ntmps31
    go_wp2
    go_ret
    exact gives_no HN.out (Below.refl _ _)
  have h' : (l.length : Int) ≤ 4 := by omega
  go_enter Try.func31, Try.ntmps31
  go_wp2
  go_loop [7, 8] (fun i _ => ∃ k : Nat, k ≤ l.length ∧ i = .int .i64 k ∧ Hid (∀ (j : Nat) m, j < k → l[j]? = some m → PhiP names preds m)) (fun i _ => l.length - (intOf i).toNat)
  case atStart => exact ⟨0, Nat.zero_le _, rfl, fun _ _ h => absurd h (by omega)⟩
  case round =>
    obtain ⟨k, hk, rfl, H1⟩ := hrel
    by_cases hlt : k < l.length
    case neg =>
      obtain rfl : k = l.length := by omega
      go_wp2
      go_ret
      exact gives_yes ⟨hlen, fun j m hm => H1.out j m (List.getElem?_eq_some_iff.1 hm).1 hm⟩ (Below.refl _ _)
    have hxk : l[k]? = some l[k] := List.getElem?_eq_getElem hlt
    generalize l[k] = x at hxk
    obtain ⟨b, off, rfl, hDb, hrow⟩ := hx (by rintro rfl; simp at hlt)
    obtain ⟨cs, ⟨u, rfl, hle1, A1, c1, rfl, hux⟩, hcs⟩ := hrow k x hxk
    have c0 : w.cell? ⟨b, off + k * 2, none⟩ = some (.int .i64 x.v) := (hcs 0 _ rfl).1
    have c1 : w.cell? ⟨b, off + k * 2 + 1, none⟩ = some (.slice A1 x.args.length c1) := (hcs 1 _ rfl).1
    have Hxk := Lib.hid hxk
    clear hcs hx hxk hrow
    cases hd : isBelowB x.v names
    · have HN : Hid (¬ PhisP names preds l) := fun h => by have := (h.2 k x Hxk.out).1; rw [hd] at this; cases this
      go_wp2_with (go_at_call 54; refine (l1In_below _ _ _).mono ?_; rintro e w' ⟨rfl, rfl⟩)
      go_ret
      exact gives_no HN.out (Below.refl _ _)
    by_cases hpl : x.args.length = preds
    case neg =>
      have hb' : ((x.args.length : Int) != (preds : Int)) = true := by simp; omega
      have HN : Hid (¬ PhisP names preds l) := fun h => hpl (h.2 k x Hxk.out).2.1
      clear hpl
      go_wp2_with (go_at_call 54; refine (l1In_below _ _ _).mono ?_; rintro e w' ⟨rfl, rfl⟩)
      go_ret
      exact gives_no HN.out (Below.refl _ _)
    have hb' : ((x.args.length : Int) != (preds : Int)) = false := by simp [hpl]
    have HPL := Lib.hid hpl
    clear hpl
    have HD := Lib.hid hd
    go_wp2_with (go_at_call 54; refine (l1In_below _ _ _).mono ?_; rintro e w' ⟨rfl, rfl⟩)
    go_loop [8] (fun q => ∃ j : Nat, j ≤ x.args.length ∧ q = .int .i64 j ∧ Hid (∀ (j' : Nat) u, j' < j → x.args[j']? = some u → isBelowB u names = true)) (fun q => x.args.length - (intOf q).toNat)
    case atStart => exact ⟨0, Nat.zero_le _, rfl, fun _ _ h => absurd h (by omega)⟩
    case round =>
      obtain ⟨j, hj, rfl, H3⟩ := hrel
      by_cases hjl : j < x.args.length
      case neg =>
        obtain rfl : j = x.args.length := by omega
        have H1' : Hid (∀ (j : Nat) m, j < k + 1 → l[j]? = some m → PhiP names preds m) := fun j m hj hm => by
          by_cases hjk : j = k
          · subst hjk
            rw [Hxk.out] at hm
            injection hm with hm
            subst hm
            exact ⟨HD.out, HPL.out, fun i a ha => H3.out i a (List.getElem?_eq_some_iff.1 ha).1 ha⟩
          · exact H1.out j m (by omega) hm
        go_wp2
        go_round
        case rel => exact ⟨k + 1, by omega, by go_num, H1'⟩
        case measure => simp [intOf]; omega
      have hxj : x.args[j]? = some x.args[j] := List.getElem?_eq_getElem hjl
      generalize x.args[j] = u at hxj
      obtain ⟨b', off', rfl, _, hcell⟩ := hux (by intro h; rw [h] at hjl; simp at hjl)
      obtain ⟨cs, rfl, hcs⟩ := hcell j u hxj
      have p0 : w.cell? ⟨b', off' + j, none⟩ = some (.int .i64 u) := by have := (hcs 0 _ rfl).1; rwa [Nat.mul_one] at this
      have Hxj := Lib.hid hxj
      clear hcell hux hxj hcs
      cases hun : isBelowB u names
      · have HN : Hid (¬ PhisP names preds l) := fun h => by have := (h.2 k x Hxk.out).2.2 j u Hxj.out; rw [hun] at this; cases this
        go_wp2_with (go_at_call 54; refine (l1In_below _ _ _).mono ?_; rintro e w' ⟨rfl, rfl⟩)
        go_ret
        exact gives_no HN.out (Below.refl _ _)
      · have H3' : Hid (∀ (j' : Nat) u, j' < j + 1 → x.args[j']? = some u → isBelowB u names = true) := fun j' u' hj' hm' => by
          by_cases e : j' = j
          · subst e
            rw [Hxj.out] at hm'
            injection hm' with hm'
            subst hm'
            exact hun
          · exact H3.out j' u' (by omega) hm'
        go_wp2_with (go_at_call 54; refine (l1In_below _ _ _).mono ?_; rintro e w' ⟨rfl, rfl⟩)
        go_round
        case rel => exact ⟨j + 1, by omega, by go_num, H3'⟩
        case measure => simp [intOf]; omega

end Go.Proofs.Ytbghcoihndlihaa
