/- EndT, joined. -/
import Derived.Test.YtnjmlhokkhkaaaaGreatDoorQ6
import Derived.Test.YtnjmlhokkhkaaaaGreatDoorQ10
import Derived.Deep.DeepCutAuto
import Derived.Deep.CutRange
namespace Go.Proofs.YtnjmlhokkhkaaaaGreatDoor

/- endTakes of the program: what is taken at the End of a block. -/
section
open Go.ChangeShapes Go.WideShapes Go.ChangeAt Go.RowKit Go.Joins

set_option maxHeartbeats 400000 in
theorem endTime_any (v0 v1 v3 : Value) (A : Option Addr) (n c : Nat) (a b d e : Int) (w : World) (hn : n ≤ 1000) :
    Calls Tryz.prog 53 #[.agg #[v0, v1, .slice A n c, v3, .int .i64 a, .int .i64 b, .int .i64 d, .int .i64 e]] w fun r w' => r = .returned (.int .i64 (3 + (n : Int))) ∧ Below w.heap.size w w' := by
  go_enter Tryz.func53, Tryz.ntmps53
  go_wp2_with (go_at_call 49; refine (tailTime_any _ _ _ _ _ _ _ _ _ _ _ hn).mono ?_; rintro e w7 ⟨rfl, hb7⟩; have HB7 := Lib.hid hb7; clear hb7)
  go_ret
  exact ⟨by go_num, ((Below.refl _ _).alloc (Nat.le_refl _) _).trans (HB7.out.mono (by simp))⟩

set_option maxHeartbeats 400000 in
theorem Index_any (v : Value) (xs : List Int) (i : Nat) (x : Int) (w : World) (hv : RI w v xs) (hi : xs[i]? = some x) (hf : ∀ j, j < i → xs[j]? ≠ some x) :
    Calls Tryz.prog 92 #[v, .int .i64 x] w fun e w' => e = .returned (.int .i64 i) ∧ w = w' := by
  obtain ⟨hl, A, c, rfl, hx⟩ := hv
  have hil := (List.getElem?_eq_some_iff.1 hi).1
  have HI := Lib.hid hi
  have HFi := Lib.hid hf
  clear hi hf
  go_enter Tryz.func92, Tryz.ntmps92
  go_wp2_with fail
  go_loop [8] (fun q => ∃ k : Nat, k ≤ i ∧ q = .int .i64 k) (fun q => i - (intOf q).toNat)
  case atStart => exact ⟨0, Nat.zero_le _, rfl⟩
  case round =>
    obtain ⟨k, hk, rfl⟩ := hrel
    have hkl : k < xs.length := by omega
    have hxk : xs[k]? = some xs[k] := List.getElem?_eq_getElem hkl
    generalize xs[k] = y at hxk
    obtain ⟨b, off, rfl, hx'⟩ := hx (by rintro rfl; simp at hkl)
    have hc := hx' k _ hxk
    have hkl' : (k : Int) < (xs.length : Int) := by omega
    have Hxk := Lib.hid hxk
    clear hx hx' hxk
    by_cases hki : k < i
    · have hb : (x == y) = false := by
        have := HFi.out k hki
        rw [Hxk.out] at this
        simp
        intro e
        exact this (by rw [e])
      go_wp2
      go_round
      case rel => exact ⟨k + 1, by omega, by go_num⟩
      case measure => simp [intOf]; omega
    · obtain rfl : k = i := by omega
      obtain rfl : y = x := by
        have := Hxk.out
        rw [HI.out] at this
        exact (Option.some.inj this).symm
      have hb : (y == y) = true := by simp
      go_wp2
      go_ret
      exact ⟨rfl, rfl⟩

theorem wpList_append_inte {ops : Array Oper} {rest : List Oper} {o : Oper} {a : Act} {Q : Exit → Act → World → Prop} (hgd : o.guard = none) (s x : Operand)
    (ho : o.op = .call { callee := .builtin .append, args := #[s, x], argTypes := #[64, 64] })
    (B : Nat) (v : Value) (xs : List Int) (y : Int) (w : World) (q : Nat) (hq : w.heap.size = q) (hs : a.eval s = v) (hown : OI w B v xs) (hx : a.eval x = .slice (some ⟨q, 0, none⟩) 1 1) (hb : B ≤ w.heap.size) (hlen : xs.length ≤ 1048576)
    (h : ∀ v' w', OI w' B v' (xs ++ [y]) → w.grownBy w' v.ownBlock → (v'.ownBlock = v.ownBlock ∨ ∃ k, v'.ownBlock = some k ∧ w.heap.size ≤ k) → wpList Tryz.prog ops Q rest (a.put o.dst v') w') :
    wpList Tryz.prog ops Q (o :: rest) a (w.alloc (.cells #[.int .i64 y] 2)) := by
  subst hq
  exact wpList_append_int hgd s x ho B v xs y w hs hown hx hb hlen h

theorem endL_take {f : FunD} {k : Int} {ts : List Int} {m : Nat} {t : Int} (h : ts[m]? = some t) : (ts.take (m + 1)).flatMap (phiL f k) = (ts.take m).flatMap (phiL f k) ++ phiL f k t := by
  rw [take_snoc h, List.flatMap_append]; simp
theorem wayF_first {f : FunD} {t k : Int} {j : Nat} (h : j < wayF f t k) : (predsF f t)[j]? ≠ some k := fun e => by
  have := wayF_only e
  omega

set_option maxRecDepth 10000 in
set_option maxHeartbeats 2000000 in
theorem endTakes_any (f : FunD) (v : Value) (Gp k : Nat) (x : BlockD) (w : World) (Z : Zn) (hp : FunP f) (hv : Row w Z 8 (EBlock w Z) v f.blocks) (hD : ∀ b, Z.D b → b < w.heap.size)
    (hP : PRow w (Gp + 1) Gp f.blocks.length fun j => predsK succsE f.blocks f.blocks.length j) (hxk : f.blocks[k]? = some x) :
    Calls Tryz.prog 52 #[v, .slice (some ⟨Gp, 0, none⟩) f.blocks.length f.blocks.length, .int .i64 k] w (GivesI (endL f k x) w) := by
  obtain ⟨hle, A, c, rfl, hx⟩ := hv
  have hlt : k < f.blocks.length := (List.getElem?_eq_some_iff.1 hxk).1
  have hlt' : (k : Int) < (f.blocks.length : Int) := by omega
  have hk0 : 0 ≤ (k : Int) := by omega
  have hb40 := hp.1.1.2
  have HP := Lib.hid hp
  have HPR := Lib.hid hP
  have HX := Lib.hid hx
  have Hxk := Lib.hid hxk
  have HEP := Lib.hid (hp.1.2.2.2.2 k x hxk).1
  have HTO := Lib.hid (targets_of hp)
  obtain ⟨b, off, rfl, hDb, hrow⟩ := hx (by intro h; rw [h] at hlt; simp at hlt)
  obtain ⟨cs, hE, hcs⟩ := hrow k x hxk
  have hbl := hD b hDb
  obtain ⟨_, _, _, _, rfl, _⟩ := hE
  have c4 : w.cell? ⟨b, off + k * 8 + 4, none⟩ = some (.int .i64 x.fin.k) := (hcs 4 _ rfl).1
  have c5 : w.cell? ⟨b, off + k * 8 + 4 + 1, none⟩ = some (.int .i64 x.fin.a) := (hcs 5 _ rfl).1
  have c6 : w.cell? ⟨b, off + k * 8 + 4 + 2, none⟩ = some (.int .i64 x.fin.t) := (hcs 6 _ rfl).1
  have c7 : w.cell? ⟨b, off + k * 8 + 4 + 3, none⟩ = some (.int .i64 x.fin.l) := (hcs 7 _ rfl).1
  clear hcs hrow hx hxk hp hP
  go_enter Tryz.func52, Tryz.ntmps52
  go_upto_if 22 with fail
  have hO1 : OI ((w.alloc (.cells #[.int .i64 x.fin.k, .int .i64 x.fin.a, .int .i64 x.fin.t, .int .i64 x.fin.l] 58)).alloc (.cells #[] 2)) (w.heap.size + 1) (.slice (some ⟨w.heap.size + 1, 0, none⟩) 0 0) [] := OI_lit0 _ (by simp) (by omega)
  have hB1 : Below (w.heap.size + 1) (w.alloc (.cells #[.int .i64 x.fin.k, .int .i64 x.fin.a, .int .i64 x.fin.t, .int .i64 x.fin.l] 58)) ((w.alloc (.cells #[.int .i64 x.fin.k, .int .i64 x.fin.a, .int .i64 x.fin.t, .int .i64 x.fin.l] 58)).alloc (.cells #[] 2)) := (Below.refl _ _).alloc (by simp) _
  have hB0 : Below w.heap.size w (w.alloc (.cells #[.int .i64 x.fin.k, .int .i64 x.fin.a, .int .i64 x.fin.t, .int .i64 x.fin.l] 58)) := (Below.refl _ _).alloc (Nat.le_refl _) _
  have HO1 := Lib.hid hO1
  have HB1 := Lib.hid hB1
  have HB0 := Lib.hid hB0
  clear hO1 hB1 hB0
  go_cut [8] (fun s8 wx => ∃ v8 : Value, s8 = v8 ∧ Hid (OI wx (w.heap.size + 1) v8 (if x.fin.k = 2 then [] else [x.fin.a])) ∧ Hid (Below (w.heap.size + 1) (w.alloc (.cells #[.int .i64 x.fin.k, .int .i64 x.fin.a, .int .i64 x.fin.t, .int .i64 x.fin.l] 58)) wx))
  case first =>
    by_cases hk2 : x.fin.k = 2
    · have hb2 : (x.fin.k != 2) = false := by simpa using hk2
      have HK2 := Lib.hid hk2
      clear hk2
      go_wp2_with fail
      go_meet
      exact ⟨_, rfl, (by rw [Hid, if_pos HK2.out]; exact HO1.out), HB1.out⟩
    · have hb2 : (x.fin.k != 2) = true := by simpa using hk2
      have HK2 := Lib.hid hk2
      clear hk2
      go_wp2_with (at_builtin; go_must (refine wpList_append_inte rfl (.tmp 23) (.tmp 26) rfl (w.heap.size + 1) _ [] x.fin.a ((w.alloc (.cells #[.int .i64 x.fin.k, .int .i64 x.fin.a, .int .i64 x.fin.t, .int .i64 x.fin.l] 58)).alloc (.cells #[] 2)) (w.heap.size + 2) (by simp) rfl HO1.out rfl (by simp) (by simp) ?_; intro v' w2 hown2 hg2 hat2; have HO2 := Lib.hid hown2; have HB2 := Lib.hid (HB1.out.grown hg2 (by simp) (fun k hk => (HO1.out.lt k hk).1)); clear hown2 hg2 hat2))
      go_meet
      exact ⟨_, rfl, (by rw [Hid, if_neg HK2.out]; exact HO2.out), HB2.out⟩
  case rest =>
  obtain ⟨v8, h8, HOc, HBc⟩ := hcut
  have h8' := h8.symm
  clear h8
  subst h8'
  clear HO1 HB1 c4 c5 c6 c7
  have hzc : w.heap.size + 1 ≤ wc.heap.size := by have := HBc.out.size; simp at this; omega
  have d0 : wc.cell? ⟨w.heap.size, 0, none⟩ = some (.int .i64 x.fin.k) := (HBc.out.cell (p := ⟨w.heap.size, 0, none⟩) (by simp)).trans (by go_simp)
  have d1 : wc.cell? ⟨w.heap.size, 1, none⟩ = some (.int .i64 x.fin.a) := (HBc.out.cell (p := ⟨w.heap.size, 1, none⟩) (by simp)).trans (by go_simp)
  have d2 : wc.cell? ⟨w.heap.size, 2, none⟩ = some (.int .i64 x.fin.t) := (HBc.out.cell (p := ⟨w.heap.size, 2, none⟩) (by simp)).trans (by go_simp)
  have d3 : wc.cell? ⟨w.heap.size, 3, none⟩ = some (.int .i64 x.fin.l) := (HBc.out.cell (p := ⟨w.heap.size, 3, none⟩) (by simp)).trans (by go_simp)
  go_wp2_with fail
  refine (SuccsOf_any _ _ _ _ _).mono ?_
  rintro e w1 ⟨r, rfl, hr, hb1⟩
  have hz1 := hb1.size
  have HB01 : Hid (Below w.heap.size w w1) := (HB0.out.trans (HBc.out.mono (by omega))).trans (hb1.mono (by omega))
  have HB1 := Lib.hid (HBc.out.trans (hb1.mono hzc))
  have HSU : Hid (succsL x.fin.k x.fin.a x.fin.t x.fin.l = toE x.fin) := by
    have h := (HTO.out k x Hxk.out).1
    unfold succsL
    rw [Hid, if_pos h]; rfl
  rw [HSU.out] at hr
  have HE0 : Hid ((if x.fin.k = 2 then [] else [x.fin.a]) ++ (toE x.fin).flatMap (phiL f k) = endL f k x) := rfl
  have hul := toE_len x.fin
  have HTS : Hid (∀ (m : Nat) t, (toE x.fin)[m]? = some t → (0 ≤ t ∧ t < (f.blocks.length : Int)) ∧ (k : Int) ∈ predsF f t) := fun m t hm => by
    have hmem : t ∈ toL x.fin.k x.fin.t x.fin.l := List.mem_of_getElem? hm
    exact ⟨(HTO.out k x Hxk.out).2 t hmem, mem_predsF Hxk.out hmem⟩
  have hel0 : (if x.fin.k = 2 then ([] : List Int) else [x.fin.a]).length ≤ 1 := by split <;> simp
  generalize (if x.fin.k = 2 then ([] : List Int) else [x.fin.a]) = E0 at HOc HE0 hel0
  have HOw := Lib.hid (HOc.out.below hb1 fun kk hkk => (HOc.out.lt kk hkk).2)
  have HAV0 : Hid (∀ kk, v8.ownBlock = some kk → kk < wc.heap.size ∨ w1.heap.size ≤ kk) := fun kk hkk => .inl (HOc.out.lt kk hkk).2
  generalize toE x.fin = us at hr hul HTS HE0
  have HU1 := Lib.hid hr
  obtain ⟨lo, hlo⟩ : ∃ lo, lo = wc.heap.size := ⟨_, rfl⟩
  rw [← hlo] at HU1 HAV0 hz1 hzc
  obtain ⟨_, A5, c5', rfl, _⟩ := hr.ri
  have HU2 : Hid (OI w1 lo (.slice A5 us.length c5') us) := HU1.out
  have HX1 : Hid (∀ wr, Below (w.heap.size + 1) (w.alloc (.cells #[.int .i64 x.fin.k, .int .i64 x.fin.a, .int .i64 x.fin.t, .int .i64 x.fin.l] 58)) wr → Below w.heap.size w wr) := fun wr h => HB0.out.trans (h.mono (by omega))
  clear hb1 hr HU1 hlo d0 d1 d2 d3 HOc HBc HSU
  go_wp2_with fail
  go_loopw [8, 31] (fun ov i wr => ∃ m : Nat, m ≤ us.length ∧ i = .int .i64 m ∧ Hid (Below (w.heap.size + 1) (w.alloc (.cells #[.int .i64 x.fin.k, .int .i64 x.fin.a, .int .i64 x.fin.t, .int .i64 x.fin.l] 58)) wr) ∧ Hid (OI wr (w.heap.size + 1) ov (E0 ++ (us.take m).flatMap (phiL f k))) ∧ w1.heap.size ≤ wr.heap.size ∧ Hid (∀ kk, ov.ownBlock = some kk → kk < lo ∨ w1.heap.size ≤ kk) ∧ Hid (OI wr lo (.slice A5 us.length c5') us)) (fun _ i _ => us.length - (intOf i).toNat)
  case atStart => exact ⟨0, Nat.zero_le _, rfl, HB1.out, (by rw [Hid, List.take_zero, List.flatMap_nil, List.append_nil]; exact HOw.out), Nat.le_refl _, HAV0.out, HU2.out⟩
  clear HOw HB1 HAV0
  case round =>
    obtain ⟨m, hm, rfl, HB, HO, hsz, HAV, HU⟩ := hrel
    have HO' : Hid (OI wr (w.heap.size + 1) u8 (E0 ++ (us.take m).flatMap (phiL f k))) := HO.out
    have HAV' : Hid (∀ kk, u8.ownBlock = some kk → kk < lo ∨ w1.heap.size ≤ kk) := HAV.out
    clear HO HAV
    by_cases hml : m < us.length
    case neg =>
      obtain rfl : m = us.length := by omega
      go_wp2_with fail
      go_ret
      exact ⟨_, rfl, by rw [← HE0.out]; have h := HO'.out; rw [List.take_length] at h; exact World.ownsRow.mono h (by omega), HX1.out wr HB.out⟩
    have hum : us[m]? = some us[m] := List.getElem?_eq_getElem hml
    generalize us[m] = u at hum
    obtain ⟨_, A5', c5'', he5, hux⟩ := HU.out.ri
    injection he5 with q1 q0 q2
    clear q0
    subst q1 q2
    obtain ⟨b', off', rfl, hcell⟩ := hux (by rintro rfl; simp at hml)
    have p0 := hcell m _ hum
    obtain ⟨hur, hkp⟩ := HTS.out m u hum
    obtain ⟨t, rfl⟩ : ∃ t : Nat, u = t := ⟨u.toNat, by omega⟩
    have htn : t < f.blocks.length := by omega
    have htn' : (t : Int) < (f.blocks.length : Int) := by omega
    have ht0 : 0 ≤ (t : Int) := by omega
    have hml' : (m : Int) < (us.length : Int) := by omega
    have HTM := Lib.hid (endL_take (f := f) (k := (k : Int)) hum)
    have HW := HX1.out wr HB.out
    have HWH := Lib.hid HW
    obtain ⟨vp, hvp, hop⟩ := HPR.out.get htn
    have hGp := HPR.out.lt
    have g0 : wr.cell? ⟨Gp, t, none⟩ = some vp := (HW.cell (p := ⟨Gp, t, none⟩) hGp).trans hvp
    have HOP : Hid (OI wr (Gp + 1) vp (predsF f t)) := by
      have h := hop.below HW fun kk hkk => (hop.lt kk hkk).2
      rw [show predsK succsE f.blocks f.blocks.length (t : Int) = predsF f t from funP_preds HP.out t] at h
      exact h
    have HWAY := Lib.hid (wayF_get hkp)
    have hyk : f.blocks[t]? = some f.blocks[t] := List.getElem?_eq_getElem htn
    generalize f.blocks[t] = y at hyk
    obtain ⟨b2, off2, e2, hDb2, hrow2⟩ := HX.out (by intro h; rw [h] at htn; simp at htn)
    injection e2 with e2
    injection e2 with e2 e3
    subst e2 e3
    obtain ⟨cs, hE, hcs⟩ := hrow2 t y hyk
    obtain ⟨v0, _, _, _, rfl, hr0, _⟩ := hE
    obtain ⟨_, A0, q0, rfl, h0⟩ := hr0
    have g1 : wr.cell? ⟨b, off + t * 8, none⟩ = some (.slice A0 y.phis.length q0) := (HW.cell (p := ⟨b, _, none⟩) hbl).trans (hcs 0 _ rfl).1
    have HPY := Lib.hid (phiL_at (k := (k : Int)) hyk)
    have hph := HP.out.2.2.2 t y hyk
    have HPH := Lib.hid hph.2
    have hp4 := hph.1
    have H0 := Lib.hid h0
    have hpl := predsF_len f t
    have hway := wayF_lt hkp
    clear hcell hux hum HW hvp hop hcs hrow2 hyk h0 hph hkp hur
    go_wp2_with fail
    refine (Index_any vp (predsF f t) (wayF f t k) k _ HOP.out.ri HWAY.out fun j hj => wayF_first hj).mono ?_
    rintro e w' ⟨rfl, rfl⟩
    go_wp2_with fail
    clear g0 g1 p0
    obtain ⟨P0, hP0⟩ : ∃ P0, P0 = E0 ++ (us.take m).flatMap (phiL f k) := ⟨_, rfl⟩
    rw [← hP0] at HO'
    have HPP := Lib.hid hP0
    have hP0l : P0.length ≤ 100 := by
      rw [hP0, List.length_append, List.length_flatMap]
      have : ∀ l : List Int, l.length ≤ 2 → (l.map fun a => (phiL f k a).length).sum ≤ 8 := fun l hl => by
        match l, hl with
        | [], _ => simp
        | [a], _ => have := phiL_len HP.out k a; simp; omega
        | [a, b], _ => have := phiL_len HP.out k a; have := phiL_len HP.out k b; simp; omega
        | _ :: _ :: _ :: _, h => simp at h
      have := this (us.take m) (by rw [List.length_take]; omega)
      omega
    clear hP0
    generalize hwy : wayF f t k = way at hway HPY
    obtain ⟨wo, hwo⟩ : ∃ wo, wo = wr.heap.size := ⟨_, rfl⟩
    have hsz' : w1.heap.size ≤ wo := by omega
    clear hwy
    go_loopw [8, 47] (fun ov i wq => ∃ j : Nat, j ≤ y.phis.length ∧ i = .int .i64 j ∧ Hid (Below (w.heap.size + 1) (w.alloc (.cells #[.int .i64 x.fin.k, .int .i64 x.fin.a, .int .i64 x.fin.t, .int .i64 x.fin.l] 58)) wq) ∧ Hid (OI wq (w.heap.size + 1) ov (P0 ++ ((y.phis.take j).map fun p => p.args.getD way 0))) ∧ w1.heap.size ≤ wq.heap.size ∧ Hid (∀ kk, ov.ownBlock = some kk → kk < lo ∨ w1.heap.size ≤ kk) ∧ Hid (OI wq lo (.slice (some ⟨b', off', none⟩) us.length c5') us)) (fun _ i _ => y.phis.length - (intOf i).toNat)
    case atStart => exact ⟨0, Nat.zero_le _, rfl, HB.out, (by rw [Hid, List.take_zero, List.map_nil, List.append_nil]; exact HO'.out), hsz, HAV'.out, HU.out⟩
    clear HB HO' HAV' HU HWH HOP hwo
    case round =>
      obtain ⟨j, hj, rfl, HB, HO, hsz, HAV, HU⟩ := hrel
      have HO' : Hid (OI wr (w.heap.size + 1) u8 (P0 ++ ((y.phis.take j).map fun p => p.args.getD way 0))) := HO.out
      have HAV' : Hid (∀ kk, u8.ownBlock = some kk → kk < lo ∨ w1.heap.size ≤ kk) := HAV.out
      clear HO HAV
      by_cases hjl : j < y.phis.length
      case neg =>
        obtain rfl : j = y.phis.length := by omega
        have HO3 : Hid (OI wr (w.heap.size + 1) u8 (E0 ++ (us.take (m + 1)).flatMap (phiL f k))) := by
          have h := HO'.out
          rw [List.take_length] at h
          rw [HTM.out, ← List.append_assoc, ← HPP.out, HPY.out]
          exact h
        go_wp2
        go_roundw
        case rel => exact ⟨m + 1, by omega, by go_num, HB.out, HO3.out, hsz, HAV'.out, HU.out⟩
        case measure => simp [intOf]; omega
      have hxj : y.phis[j]? = some y.phis[j] := List.getElem?_eq_getElem hjl
      generalize y.phis[j] = ph at hxj
      obtain ⟨b3, off3, rfl, hDb3, hrow3⟩ := H0.out (by intro h; rw [h] at hjl; simp at hjl)
      obtain ⟨ds, hE3, hds⟩ := hrow3 j ph hxj
      obtain ⟨u', rfl, _, A9, q9, rfl, hargs⟩ := hE3
      have hbl3 := hD b3 hDb3
      have HW := HX1.out wr HB.out
      have e0 : wr.cell? ⟨b3, off3 + j * 2, none⟩ = some (.int .i64 ph.v) := (HW.cell (p := ⟨b3, _, none⟩) hbl3).trans (hds 0 _ rfl).1
      have e1 : wr.cell? ⟨b3, off3 + j * 2 + 1, none⟩ = some (.slice A9 ph.args.length q9) := (HW.cell (p := ⟨b3, _, none⟩) hbl3).trans (hds 1 _ rfl).1
      have hal := (HPH.out j ph hxj).2.1
      have hwl : way < ph.args.length := by omega
      have hwl' : (way : Int) < (ph.args.length : Int) := by omega
      have hxa : ph.args[way]? = some ph.args[way] := List.getElem?_eq_getElem hwl
      have HGD : Hid (ph.args.getD way 0 = ph.args[way]) := by rw [Hid, List.getD_eq_getElem?_getD, hxa]; rfl
      generalize ph.args[way] = a at hxa HGD
      obtain ⟨b4, off4, rfl, hDb4, hrow4⟩ := hargs (by intro h; rw [h] at hwl; simp at hwl)
      obtain ⟨ds4, hE4, hds4⟩ := hrow4 way a hxa
      subst hE4
      have hbl4 := hD b4 hDb4
      have e2 : wr.cell? ⟨b4, off4 + way, none⟩ = some (.int .i64 a) := by
        have h := (HW.cell (p := ⟨b4, _, none⟩) hbl4).trans (hds4 0 _ rfl).1
        simpa using h
      have HTJ : Hid ((y.phis.take (j + 1)).map (fun p => p.args.getD way 0) = (y.phis.take j).map (fun p => p.args.getD way 0) ++ [a]) := by rw [Hid, take_snoc hxj, List.map_append, List.map_singleton, HGD.out]
      have hjl' : (j : Int) < (y.phis.length : Int) := by omega
      have hel : (P0 ++ ((y.phis.take j).map fun p => p.args.getD way 0)).length ≤ 1048576 := by
        rw [List.length_append, List.length_map, List.length_take]; omega
      have hbw4 : b4 < wr.heap.size := by have := HW.size; omega
      have hB1 : w.heap.size + 1 ≤ wr.heap.size := by omega
      clear hds hds4 hrow3 hrow4 hargs hxj hxa HW hal
      generalize hll : P0 ++ ((y.phis.take j).map fun p => p.args.getD way 0) = ll at HO' hel
      have HLL := Lib.hid hll
      obtain ⟨_, A8, q8, rfl, _⟩ := HO'.out.ri
      clear hll
      have HO5 : Hid (OI (wr.alloc (.cells #[.int .i64 ph.v, .slice (some ⟨b4, off4, none⟩) ph.args.length q9] 88)) (w.heap.size + 1) (.slice A8 ll.length q8) ll) := HO'.out.below ((Below.refl _ _).alloc (Nat.le_refl _) _) fun kk hkk => (HO'.out.lt kk hkk).2
      have hB5 : Below wr.heap.size wr (wr.alloc (.cells #[.int .i64 ph.v, .slice (some ⟨b4, off4, none⟩) ph.args.length q9] 88)) := (Below.refl _ _).alloc (Nat.le_refl _) _
      have e3 : (wr.alloc (.cells #[.int .i64 ph.v, .slice (some ⟨b4, off4, none⟩) ph.args.length q9] 88)).cell? ⟨b4, off4 + way, none⟩ = some (.int .i64 a) := (hB5.cell (p := ⟨b4, _, none⟩) hbw4).trans e2
      have HB5 := Lib.hid hB5
      clear hB5
      go_wp2_with (at_builtin; go_must (refine wpList_append_inte rfl (.tmp 51) (.tmp 57) rfl (w.heap.size + 1) _ ll a (wr.alloc (.cells #[.int .i64 ph.v, .slice (some ⟨b4, off4, none⟩) ph.args.length q9] 88)) (wr.heap.size + 1) (by simp) rfl HO5.out rfl (by simp; omega) hel ?_; intro v' w9 hown9 hg9 hat9; have HO9 := Lib.hid hown9; have HG9 := Lib.hid hg9; have HA9 := Lib.hid hat9; clear hown9 hg9 hat9))
      have hg9 := HG9.out
      have hz9 : wr.heap.size ≤ w9.heap.size := by have h1 := hg9.size; have h2 := HB5.out.size; omega
      have HB9 : Hid (Below (w.heap.size + 1) (w.alloc (.cells #[.int .i64 x.fin.k, .int .i64 x.fin.a, .int .i64 x.fin.t, .int .i64 x.fin.l] 58)) w9) := (HB.out.trans (HB5.out.mono hB1)).grown hg9 (by simp; omega) fun kk hkk => (HO5.out.lt kk hkk).1
      have HU9 := Lib.hid ((HU.out.below HB5.out fun kk hkk => (HU.out.lt kk hkk).2).grown hg9 (.inr fun e => by
        have h1 := HU2.out.lt b' rfl
        rcases HAV'.out b' e.symm with h | h <;> omega))
      have HAV9 : Hid (∀ kk, v'.ownBlock = some kk → kk < lo ∨ w1.heap.size ≤ kk) := fun kk hkk => by
        rcases HA9.out with h | ⟨k9, h, hk9⟩
        · exact HAV'.out kk (h.symm.trans hkk)
        · rw [h] at hkk
          injection hkk with hkk
          have := HB5.out.size
          exact .inr (by omega)
      have HO10 : Hid (OI w9 (w.heap.size + 1) v' (P0 ++ ((y.phis.take (j + 1)).map fun p => p.args.getD way 0))) := by
        rw [HTJ.out, ← List.append_assoc, HLL.out]; exact HO9.out
      go_roundw
      case rel => exact ⟨j + 1, by omega, by go_num, HB9.out, HO10.out, by omega, HAV9.out, HU9.out⟩
      case measure => simp [intOf]; omega
end

end Go.Proofs.YtnjmlhokkhkaaaaGreatDoor
