/- PhiT, joined. -/
import Derived.Test.YtnjmlhokkhkaaaaGreatDoorQ3
import Derived.Test.YtnjmlhokkhkaaaaGreatDoorQ11
import Derived.Test.YtnjmlhokkhkaaaaGreatDoorQ16
namespace Go.Proofs.YtnjmlhokkhkaaaaGreatDoor

/- l5PhiTakes and l5End of the model. -/
section
open Go.ChangeShapes Go.WideShapes Go.ChangeAt Go.RowKit Go.Joins

set_option maxHeartbeats 400000 in
theorem l5End_any (v0 v1 v3 : Value) (A : Option Addr) (n c : Nat) (a b d e : Int) (w : World) (hn : n ≤ 1000) :
    Calls Tryz.prog 66 #[.agg #[v0, v1, .slice A n c, v3, .int .i64 a, .int .i64 b, .int .i64 d, .int .i64 e]] w fun r w' => r = .returned (.int .i64 (3 + (n : Int))) ∧ Below w.heap.size w w' := by
  go_enter Tryz.func66, Tryz.ntmps66
  go_wp2
  go_ret
  exact ⟨by go_num, (Below.refl _ _).alloc (Nat.le_refl _) _⟩

/-- A list of numbers in new memory, not nil. -/
def GivesIN (xs : List Int) (w : World) (e : Ending) (w' : World) : Prop := ∃ g c, e = .returned (.slice (some ⟨g, 0, none⟩) xs.length c) ∧ OI w' w.heap.size (.slice (some ⟨g, 0, none⟩) xs.length c) xs ∧ Below w.heap.size w w'
def NotNil (v : Value) (xs : List Int) : Prop := ∃ g c, v = .slice (some ⟨g, 0, none⟩) xs.length c
theorem NotNil.snoc {w : World} {B : Nat} {v : Value} {xs : List Int} {y : Int} (h : OI w B v (xs ++ [y])) : NotNil v (xs ++ [y]) := by
  obtain ⟨g, cap, rfl, _, _⟩ := World.ownsRow.form h (by simp)
  exact ⟨g, cap, rfl⟩

set_option maxRecDepth 10000 in
set_option maxHeartbeats 2000000 in
theorem l5PhiTakes_any (f : FunD) (v : Value) (t k : Nat) (w : World) (Z : Zn) (hp : FunP f) (hv : EFun w Z f v) (hD : ∀ b, Z.D b → b < w.heap.size) (htn : t < f.blocks.length) (hkp : (k : Int) ∈ predsF f t) :
    Calls Tryz.prog 65 #[v, .int .i64 t, .int .i64 k] w (GivesIN (phiL f k t) w) := by
  have HF := Lib.hid hv
  obtain ⟨u, rfl, hle, A, c, rfl, hx⟩ := hv
  have hb40 := hp.1.1.2
  have htn' : (t : Int) < (f.blocks.length : Int) := by omega
  have ht0 : 0 ≤ (t : Int) := by omega
  have hyk : f.blocks[t]? = some f.blocks[t] := List.getElem?_eq_getElem htn
  generalize f.blocks[t] = y at hyk
  obtain ⟨b, off, rfl, hDb, hrow⟩ := hx (by intro h; rw [h] at htn; simp at htn)
  obtain ⟨cs, hE, hcs⟩ := hrow t y hyk
  have hbl := hD b hDb
  obtain ⟨v0, _, _, _, rfl, hr0, _⟩ := hE
  obtain ⟨_, A0, q0, rfl, h0⟩ := hr0
  have c0 : w.cell? ⟨b, off + t * 8, none⟩ = some (.slice A0 y.phis.length q0) := (hcs 0 _ rfl).1
  have HPY := Lib.hid (phiL_at (k := (k : Int)) hyk)
  have HPH := Lib.hid (hp.2.2.2 t y hyk).2
  have hp4 := (hp.2.2.2 t y hyk).1
  have H0 := Lib.hid h0
  have HWAY := Lib.hid (wayF_get hkp)
  have hway := wayF_lt hkp
  have HFIRST : Hid (∀ j z, (predsF f t)[j]? = some z → (z = (k : Int) ↔ j = wayF f t k)) := fun j z hz =>
    ⟨fun e => wayF_only (e ▸ hz), fun e => by rw [e, HWAY.out] at hz; exact (Option.some.inj hz).symm⟩
  have hpl := predsF_len f t
  clear hcs hrow hx hyk h0 hkp hp
  go_enter Tryz.func65, Tryz.ntmps65
  go_wp2_with fail
  have hO1 : OI ((w.alloc (.cells #[.int .i64 f.params, .int .i64 f.names, .slice (some ⟨b, off, none⟩) f.blocks.length c] 26)).alloc (.cells #[] 2)) (w.heap.size + 1) (.slice (some ⟨w.heap.size + 1, 0, none⟩) 0 0) [] := OI_lit0 _ (by simp) (by omega)
  have hB1 : Below (w.heap.size + 1) (w.alloc (.cells #[.int .i64 f.params, .int .i64 f.names, .slice (some ⟨b, off, none⟩) f.blocks.length c] 26)) ((w.alloc (.cells #[.int .i64 f.params, .int .i64 f.names, .slice (some ⟨b, off, none⟩) f.blocks.length c] 26)).alloc (.cells #[] 2)) := (Below.refl _ _).alloc (by simp) _
  have hB0 : Below w.heap.size w (w.alloc (.cells #[.int .i64 f.params, .int .i64 f.names, .slice (some ⟨b, off, none⟩) f.blocks.length c] 26)) := (Below.refl _ _).alloc (Nat.le_refl _) _
  refine (l2Preds_any f _ t _ Z (HF.out.keep (Kept.below (hB0.trans (hB1.mono (by omega))) hD)) (fun b hb => by have := hD b hb; simp; omega) (by omega)).mono ?_
  rintro e w1 ⟨r, rfl, hr, hb1⟩
  have HB1 := Lib.hid (hB1.trans (hb1.mono (by simp)))
  have HO1 := Lib.hid (hO1.below hb1 fun k hk => (hO1.lt k hk).2)
  have HB0 := Lib.hid hB0
  have HX1 : Hid (∀ wr, Below (w.heap.size + 1) (w.alloc (.cells #[.int .i64 f.params, .int .i64 f.names, .slice (some ⟨b, off, none⟩) f.blocks.length c] 26)) wr → Below w.heap.size w wr ∧ wr.cell? ⟨w.heap.size, 2, none⟩ = some (.slice (some ⟨b, off, none⟩) f.blocks.length c)) := fun wr h =>
    ⟨HB0.out.trans (h.mono (by omega)), (h.cell (p := ⟨w.heap.size, 2, none⟩) (by simp)).trans (by go_simp)⟩
  have hz1 := hb1.size
  have hz1' : w.heap.size + 2 ≤ w1.heap.size := by simp at hz1; omega
  obtain ⟨lo, hlo⟩ : ∃ lo, lo = w.heap.size + 2 := ⟨_, rfl⟩
  have HU1 : Hid (OI w1 lo r (predsF f t)) := World.ownsRow.mono hr (by simp; omega)
  have HAV0 : Hid (∀ kk, (Value.slice (some ⟨w.heap.size + 1, 0, none⟩) 0 0).ownBlock = some kk → kk < lo ∨ w1.heap.size ≤ kk) := fun kk hkk => by simp [Value.ownBlock] at hkk; exact .inl (by omega)
  obtain ⟨_, A5, c5, rfl, _⟩ := hr.ri
  generalize hps : predsF f t = ps at HU1 HWAY hway HPH HFIRST hpl
  have hlw : w.heap.size + 2 ≤ lo := by omega
  have hlw2 : lo ≤ w1.heap.size := by omega
  have c0' := Lib.hid c0
  clear hb1 hr hz1 hO1 hB1 hB0 hlo c0 hps
  generalize wayF f t k = way at HWAY hway HPY HFIRST
  go_wp2_with fail
  go_loopw [7, 9, 10] (fun ov i _ wr => ∃ j : Nat, j ≤ y.phis.length ∧ i = .int .i64 j ∧ Hid (Below (w.heap.size + 1) (w.alloc (.cells #[.int .i64 f.params, .int .i64 f.names, .slice (some ⟨b, off, none⟩) f.blocks.length c] 26)) wr) ∧ Hid (OI wr (w.heap.size + 1) ov ((y.phis.take j).map fun p => p.args.getD way 0)) ∧ Hid (NotNil ov ((y.phis.take j).map fun p => p.args.getD way 0)) ∧ w1.heap.size ≤ wr.heap.size ∧ Hid (∀ kk, ov.ownBlock = some kk → kk < lo ∨ w1.heap.size ≤ kk) ∧ Hid (OI wr lo (.slice A5 ps.length c5) ps)) (fun _ i _ _ => y.phis.length - (intOf i).toNat)
  case atStart => exact ⟨0, Nat.zero_le _, rfl, HB1.out, HO1.out, ⟨_, _, rfl⟩, Nat.le_refl _, HAV0.out, HU1.out⟩
  clear HO1 HB1 HAV0
  case round =>
    obtain ⟨j, hj, rfl, HB, HO, HNN, hsz, HAV, HU⟩ := hrel
    have HO' : Hid (OI wr (w.heap.size + 1) u7 ((y.phis.take j).map fun p => p.args.getD way 0)) := HO.out
    have HNN' : Hid (NotNil u7 ((y.phis.take j).map fun p => p.args.getD way 0)) := HNN.out
    have HAV' : Hid (∀ kk, u7.ownBlock = some kk → kk < lo ∨ w1.heap.size ≤ kk) := HAV.out
    obtain ⟨hbw, f2⟩ := HX1.out wr HB.out
    have g0 : wr.cell? ⟨b, off + t * 8, none⟩ = some (.slice A0 y.phis.length q0) := (hbw.cell (p := ⟨b, _, none⟩) hbl).trans c0'.out
    clear HO HAV HNN
    by_cases hjl : j < y.phis.length
    case neg =>
      obtain rfl : j = y.phis.length := by omega
      obtain ⟨gg, cc, hgc⟩ := HNN'.out
      have HBw := Lib.hid hbw
      clear hbw
      go_wp2_with fail
      go_ret
      refine ⟨gg, cc, ?_, ?_, HBw.out⟩
      · rw [HPY.out, List.length_map]
        show Ending.returned u7 = _
        rw [hgc, List.length_map, List.length_take, Nat.min_self]
      · rw [HPY.out]
        have h := HO'.out
        rw [List.take_length] at h hgc
        rw [hgc] at h
        exact World.ownsRow.mono h (by omega)
    have hxj : y.phis[j]? = some y.phis[j] := List.getElem?_eq_getElem hjl
    generalize y.phis[j] = ph at hxj
    have hjl' : (j : Int) < (y.phis.length : Int) := by omega
    have Hxj := Lib.hid hxj
    have hal := (HPH.out j ph hxj).2.1
    have hwl : way < ph.args.length := by omega
    have hxa : ph.args[way]? = some ph.args[way] := List.getElem?_eq_getElem hwl
    have HGD : Hid (ph.args.getD way 0 = ph.args[way]) := by rw [Hid, List.getD_eq_getElem?_getD, hxa]; rfl
    generalize ph.args[way] = a at hxa HGD
    have Hxa := Lib.hid hxa
    have HTJ : Hid ((y.phis.take (j + 1)).map (fun p => p.args.getD way 0) = (y.phis.take j).map (fun p => p.args.getD way 0) ++ [a]) := by rw [Hid, take_snoc hxj, List.map_append, List.map_singleton, HGD.out]
    have hel : ((y.phis.take j).map fun p => p.args.getD way 0).length ≤ 100 := by
      rw [List.length_map, List.length_take]; omega
    generalize hll : ((y.phis.take j).map fun p => p.args.getD way 0) = ll at HO' HNN' hel HTJ
    have HNE : Hid (ll ≠ [] → 1 ≤ j) := fun h => by
      rcases Nat.eq_zero_or_pos j with h0 | h0
      · exact absurd (by rw [← hll, h0]; rfl) h
      · exact h0
    clear hxj hxa hll HGD hbw
    go_wp2_with fail
    clear f2 g0
    go_loopw [7, 10] (fun ov i wr => ∃ kk : Nat, kk ≤ ps.length ∧ i = .int .i64 kk ∧ Hid (Below (w.heap.size + 1) (w.alloc (.cells #[.int .i64 f.params, .int .i64 f.names, .slice (some ⟨b, off, none⟩) f.blocks.length c] 26)) wr) ∧ Hid (OI wr (w.heap.size + 1) ov (ll ++ if way < kk then [a] else [])) ∧ Hid (NotNil ov (ll ++ if way < kk then [a] else [])) ∧ w1.heap.size ≤ wr.heap.size ∧ Hid (∀ kk, ov.ownBlock = some kk → kk < lo ∨ w1.heap.size ≤ kk) ∧ Hid (OI wr lo (.slice A5 ps.length c5) ps)) (fun _ i _ => ps.length - (intOf i).toNat)
    case atStart => exact ⟨0, Nat.zero_le _, rfl, HB.out, (by rw [Hid, if_neg (by omega), List.append_nil]; exact HO'.out), (by rw [Hid, if_neg (by omega), List.append_nil]; exact HNN'.out), hsz, HAV'.out, HU.out⟩
    clear HB HO' HAV' HU HNN'
    case round =>
      obtain ⟨kk, hkk, rfl, HB, HO, HNN, hsz, HAV, HU⟩ := hrel
      have HO' : Hid (OI wr (w.heap.size + 1) u7 (ll ++ if way < kk then [a] else [])) := HO.out
      have HNN' : Hid (NotNil u7 (ll ++ if way < kk then [a] else [])) := HNN.out
      have HAV' : Hid (∀ kk, u7.ownBlock = some kk → kk < lo ∨ w1.heap.size ≤ kk) := HAV.out
      clear HO HAV HNN
      by_cases hkl : kk < ps.length
      case neg =>
        obtain rfl : kk = ps.length := by omega
        have HO3 : Hid (OI wr (w.heap.size + 1) u7 ((y.phis.take (j + 1)).map fun p => p.args.getD way 0)) := by
          have h := HO'.out
          rw [if_pos hway] at h
          rw [HTJ.out]; exact h
        have HN3 : Hid (NotNil u7 ((y.phis.take (j + 1)).map fun p => p.args.getD way 0)) := by
          have h := HNN'.out
          rw [if_pos hway] at h
          rw [HTJ.out]; exact h
        clear HO' HNN'
        go_wp2
        go_roundw
        case rel => exact ⟨j + 1, by omega, by go_num, HB.out, HO3.out, HN3.out, hsz, HAV'.out, HU.out⟩
        case measure => simp [intOf]; omega
      have hpk : ps[kk]? = some ps[kk] := List.getElem?_eq_getElem hkl
      generalize ps[kk] = z at hpk
      have hkl' : (kk : Int) < (ps.length : Int) := by omega
      have HZ := Lib.hid (HFIRST.out kk z hpk)
      obtain ⟨_, A5', c5', he5, hux⟩ := HU.out.ri
      injection he5 with e1 e0 e2
      clear e0
      subst e1 e2
      obtain ⟨b5, o5, rfl, hcell⟩ := hux (by rintro rfl; simp at hkl)
      have p0 := hcell kk _ hpk
      clear hcell hux hpk
      by_cases hz : z = (k : Int)
      case neg =>
        have hzb : (z == (k : Int)) = false := by simpa using hz
        have hkw : kk ≠ way := fun e => hz (HZ.out.2 e)
        have HIF : Hid ((if way < kk + 1 then [a] else []) = if way < kk then [a] else []) := by
          rw [Hid]
          by_cases h : way < kk
          · rw [if_pos h, if_pos (by omega)]
          · rw [if_neg h, if_neg (by omega)]
        clear hz hkw
        go_wp2
        go_roundw
        case rel => exact ⟨kk + 1, by omega, by go_num, HB.out, (by rw [Hid, HIF.out]; exact HO'.out), (by rw [Hid, HIF.out]; exact HNN'.out), hsz, HAV'.out, HU.out⟩
        case measure => simp [intOf]; omega
      have hzb : (z == (k : Int)) = true := by simpa using hz
      obtain rfl : kk = way := HZ.out.1 hz
      obtain ⟨hbw, f2⟩ := HX1.out wr HB.out
      have g0 : wr.cell? ⟨b, off + t * 8, none⟩ = some (.slice A0 y.phis.length q0) := (hbw.cell (p := ⟨b, _, none⟩) hbl).trans c0'.out
      obtain ⟨b3, off3, e3, hDb3, hrow3⟩ := H0.out (by intro h; rw [h] at hjl; simp at hjl)
      rw [e3] at g0
      obtain ⟨ds, hE3, hds⟩ := hrow3 j ph Hxj.out
      obtain ⟨u', rfl, _, A9, q9, rfl, hargs⟩ := hE3
      have hbl3 := hD b3 hDb3
      have g1 : wr.cell? ⟨b3, off3 + j * 2 + 1, none⟩ = some (.slice A9 ph.args.length q9) := (hbw.cell (p := ⟨b3, _, none⟩) hbl3).trans (hds 1 _ rfl).1
      obtain ⟨b4, off4, rfl, hDb4, hrow4⟩ := hargs (by intro h; rw [h] at hwl; simp at hwl)
      obtain ⟨ds4, hE4, hds4⟩ := hrow4 kk a Hxa.out
      subst hE4
      have hbl4 := hD b4 hDb4
      have g2 : wr.cell? ⟨b4, off4 + kk, none⟩ = some (.int .i64 a) := by
        have h := (hbw.cell (p := ⟨b4, _, none⟩) hbl4).trans (hds4 0 _ rfl).1
        simpa using h
      have hwl' : (kk : Int) < (ph.args.length : Int) := by omega
      have HO5 : Hid (OI wr (w.heap.size + 1) u7 ll) := by
        have h := HO'.out
        rw [if_neg (by omega), List.append_nil] at h
        exact h
      have hB1 : w.heap.size + 1 ≤ wr.heap.size := by omega
      clear hz hds hds4 hrow3 hrow4 hargs hbw HO' HNN'
      go_wp2_with (at_builtin; go_must (refine wpList_append_inte rfl (.tmp 38) (.tmp 52) rfl (w.heap.size + 1) _ ll a wr wr.heap.size rfl rfl HO5.out rfl hB1 (by omega) ?_; intro v' w9 hown9 hg9 hat9; have HO9 := Lib.hid hown9; have HG9 := Lib.hid hg9; have HA9 := Lib.hid hat9; clear hown9 hg9 hat9))
      have hg9 := HG9.out
      have hz9 := hg9.size
      have HB9 : Hid (Below (w.heap.size + 1) (w.alloc (.cells #[.int .i64 f.params, .int .i64 f.names, .slice (some ⟨b, off, none⟩) f.blocks.length c] 26)) w9) := HB.out.grown hg9 hB1 fun kk hkk => (HO5.out.lt kk hkk).1
      have HU9 := Lib.hid (HU.out.grown hg9 (.inr fun e => by
        have h1 := HU1.out.lt b5 rfl
        rcases HAV'.out b5 e.symm with h | h <;> omega))
      have HAV9 : Hid (∀ kk, v'.ownBlock = some kk → kk < lo ∨ w1.heap.size ≤ kk) := fun kk hkk => by
        rcases HA9.out with h | ⟨k9, h, hk9⟩
        · exact HAV'.out kk (h.symm.trans hkk)
        · rw [h] at hkk
          injection hkk with hkk
          exact .inr (by omega)
      go_roundw
      case rel => exact ⟨kk + 1, by omega, by go_num, HB9.out, (by rw [Hid, if_pos (by omega)]; exact HO9.out), (by rw [Hid, if_pos (by omega)]; exact NotNil.snoc HO9.out), by omega, HAV9.out, HU9.out⟩
      case measure => simp [intOf]; omega
end

end Go.Proofs.YtnjmlhokkhkaaaaGreatDoor
