/- Takes, Dfs2, joined. -/
import Derived.Test.YtnjmlhokkhkaaaaGreatDoorQ6
import Derived.Test.YtnjmlhokkhkaaaaGreatDoorQ11
namespace Go.Proofs.YtnjmlhokkhkaaaaGreatDoor

/- takesOfAll of the program: where each name is taken. -/
section
open Go.ChangeShapes Go.WideShapes Go.ChangeAt Go.RowKit Go.Joins

theorem PRow.fw {w w' : World} {B G n : Nat} {row : Nat → List Int} {P : Nat → Prop} (h : PRow w B G n row) (hf : Fw P w w') (hG : ¬ P G) (hn : ∀ k, B ≤ k → k < w.heap.size → ¬ P k) : PRow w' B G n row := by
  have hlt := h.lt
  obtain ⟨cur, h1, h2, h3, h4⟩ := h
  refine ⟨cur, (hf.block _ hlt hG).trans h1, h2, fun j hj => ?_, h4⟩
  obtain ⟨v, hv, ho⟩ := h3 j hj
  exact ⟨v, hv, ho.fw hf fun k hk => hn k (ho.lt k hk).1 (ho.lt k hk).2⟩
theorem isNameB_iff {a : Int} : isNameB a = true ↔ 0 ≤ a ∧ a < 150 := by simp [isNameB]
theorem uses_name {names : Int} {x : InsD} (h : InsP names x) {u : Int} (hu : u ∈ usesL x.op x.v x.a x.b) : isBelowB u names = true := by
  have h1 := h.1
  have h2 := h.2.2 u hu
  have h0 : 0 ≤ u := by
    unfold usesL at hu
    rw [if_pos h1] at hu
    unfold insOkB at h1
    split at hu
    · cases hu
    · rename_i n1
      rw [if_neg n1] at h1
      split at hu
      · rename_i r3
        have n2 : ¬ x.op = 2 := by omega
        rw [if_neg n2, if_pos r3] at h1
        simp only [Bool.and_eq_true, isNameB_iff] at h1
        simp at hu
        omega
      · rename_i n3
        rw [if_neg n3] at h1
        simp at hu
        split at h1
        · simp only [Bool.and_eq_true, isNameB_iff] at h1; omega
        · split at h1
          · simp only [Bool.and_eq_true, isNameB_iff] at h1; omega
          · cases h1
  simp [isBelowB]; omega
theorem endL_name {f : FunD} (hp : FunP f) {k : Nat} {x : BlockD} (hx : f.blocks[k]? = some x) {u : Int} (hu : u ∈ endL f k x) : isBelowB u f.names = true := by
  have he := (hp.1.2.2.2.2 k x hx).1
  unfold endL at hu
  rw [List.mem_append] at hu
  rcases hu with hu | hu
  · split at hu
    · cases hu
    · rename_i n2
      simp at hu
      subst hu
      have h1 := he.1
      have h2 := he.2.1
      unfold endOkB at h1
      have h0 : 0 ≤ x.fin.a := by
        split at h1
        · simp only [Bool.and_eq_true, isNameB_iff] at h1; omega
        · split at h1
          · simp only [Bool.and_eq_true, isNameB_iff] at h1; omega
          · cases h1
      simp [isBelowB]; omega
  · rw [List.mem_flatMap] at hu
    obtain ⟨t, ht, hu⟩ := hu
    have hr := (targets_of hp k x hx).2 t ht
    obtain ⟨t', rfl⟩ : ∃ t' : Nat, t = t' := ⟨t.toNat, by omega⟩
    have hkp := mem_predsF hx ht
    have hyk : f.blocks[t']? = some f.blocks[t'] := List.getElem?_eq_getElem (by omega)
    rw [phiL_at hyk, List.mem_map] at hu
    obtain ⟨p, hpm, rfl⟩ := hu
    obtain ⟨i, hi⟩ := List.mem_iff_getElem?.1 hpm
    have hph := (hp.2.2.2 t' _ hyk).2 i p hi
    have hw : wayF f t' k < p.args.length := by rw [hph.2.1]; exact wayF_lt hkp
    have hxa : p.args[wayF f t' k]? = some p.args[wayF f t' k] := List.getElem?_eq_getElem hw
    rw [List.getD_eq_getElem?_getD, hxa]
    exact hph.2.2 _ _ hxa
theorem insT_succ {k : Int} {l : List InsD} {m : Nat} {y : InsD} (h : l[m]? = some y) : insT k l (m + 1) = insT k l m ++ (usesL y.op y.v y.a y.b).map fun u => ⟨u, ⟨k, 2 + (m : Int)⟩⟩ := upTo_succ h
theorem map_take {β : Type} {us : List Int} {m : Nat} {u : Int} (h : us[m]? = some u) (g : Int → β) : (us.take (m + 1)).map g = (us.take m).map g ++ [g u] := by
  rw [take_snoc h]; simp

set_option maxRecDepth 10000 in
set_option maxHeartbeats 1000000 in
theorem takesOfAll_any (f : FunD) (v : Value) (w : World) (Z : Zn) (hp : FunP f) (hv : EFun w Z f v) (hD : ∀ b, Z.D b → b < w.heap.size) :
    Calls Tryz.prog 26 #[v] w (GivesQ f.names.toNat (fun j => pickO (takesK f f.blocks.length) (j : Int)) w) := by
  obtain ⟨u, rfl, hu⟩ := hv
  have HRow := Lib.hid hu
  obtain ⟨hle, A, c, rfl, hx⟩ := hu
  obtain ⟨n, hn⟩ : ∃ n : Nat, f.names = n := ⟨f.names.toNat, by have := hp.1.2.1.1; omega⟩
  obtain ⟨pn, hpn⟩ : ∃ n : Nat, f.params = n := ⟨f.params.toNat, by have := hp.1.2.2.1.1; omega⟩
  have hn150 : n ≤ 150 := by have := hp.1.2.1.2; omega
  have hpn6 : pn ≤ 6 := by have := hp.1.2.2.1.2; omega
  have hpnn : pn ≤ n := by have := hp.1.2.2.2.1; omega
  have hb40 := hp.1.1.2
  have HN := Lib.hid hn
  have HPN := Lib.hid hpn
  have HP := Lib.hid hp
  have HX := Lib.hid hx
  rw [hn, hpn, show ((n : Int)).toNat = n by omega]
  have HLEN : Hid (∀ k, k ≤ f.blocks.length → (takesK f k).length ≤ 10000) := fun k hk => takesK_len hp k hk
  obtain ⟨i0, hi, hz0, hz1, hz2⟩ := info_parts info_places
  have hmk := fun W => run_make_rowN (P := Tryz.prog) 47 29 i0 _ Tryz.underlying47 hi hz0 .i64 .i64 n n (Nat.le_refl _) (by rw [hz2]; omega) (by omega) W
  rw [hz1] at hmk
  clear hi hz0 hz1 hz2 hp hn hpn hx
  go_enter Tryz.func26, Tryz.ntmps26
  go_wp2_with fail
  obtain ⟨G, hG⟩ : ∃ G, G = w.heap.size + 1 := ⟨_, rfl⟩
  rw [← hG]
  have hB2 : Below w.heap.size w ((w.alloc (.cells #[.int .i64 pn, .int .i64 n, .slice A f.blocks.length c] 26)).alloc (.cells (madeCells #[.slice none 0 0] n) 29)) := ((Below.refl _ _).alloc (Nat.le_refl _) _).alloc (by simp) _
  have hQ2 : EvR pickO ((w.alloc (.cells #[.int .i64 pn, .int .i64 n, .slice A f.blocks.length c] 26)).alloc (.cells (madeCells #[.slice none 0 0] n) 29)) G n [] := by
    have h := QRow.start (w := (w.alloc (.cells #[.int .i64 pn, .int .i64 n, .slice A f.blocks.length c] 26))) n
    simp only [World.size_alloc] at h
    rw [← hG] at h
    exact h
  have f2 : (((w.alloc (.cells #[.int .i64 pn, .int .i64 n, .slice A f.blocks.length c] 26)).alloc (.cells (madeCells #[.slice none 0 0] n) 29))).cell? ⟨w.heap.size, 2, none⟩ = some (.slice A f.blocks.length c) := by go_simp
  generalize ((w.alloc (.cells #[.int .i64 pn, .int .i64 n, .slice A f.blocks.length c] 26)).alloc (.cells (madeCells #[.slice none 0 0] n) 29)) = w2 at *
  have HB2 := Lib.hid hB2
  have HQ2 := Lib.hid hQ2
  have HF2 := Lib.hid f2
  have hGw : w.heap.size < G := by omega
  clear hG
  clear hB2 hQ2 f2 hmk
  have hf2 := HF2.out
  have hrow2 := HRow.out.keep (Kept.below HB2.out hD) (fun _ _ h => EBlock.keep h (Kept.below HB2.out hD))
  go_wp2_with fail
  refine (predsOfAll_any _ f.blocks _ Z hrow2 (fun b hb => by have h1 := hD b hb; have h2 := HB2.out.size; omega) (by omega)).mono ?_
  rintro e wp ⟨rfl, hPR, hbp⟩
  have HQp := Lib.hid (HQ2.out.below hbp)
  have HBp := Lib.hid (HB2.out.trans (hbp.mono HB2.out.size))
  have HFp := Lib.hid ((hbp.cell (p := ⟨w.heap.size, 2, none⟩) (show w.heap.size < w2.heap.size by have := QRow.lt HQ2.out; omega)).trans hf2)
  have HNOP : Hid (∀ kk, w2.heap.size ≤ kk → ¬ Owns wp G kk) := fun kk hkk => not_owned HQ2.out hbp hkk
  have hPR' : PRow wp (w2.heap.size + 1) w2.heap.size f.blocks.length (fun j => predsK succsE f.blocks f.blocks.length j) := hPR
  obtain ⟨Gp, hGp⟩ : ∃ Gp, Gp = w2.heap.size := ⟨_, rfl⟩
  rw [← hGp] at HNOP hPR'
  rw [← hGp]
  have HPW : Hid (∀ wr, Adds wp wr G → PRow wr (Gp + 1) Gp f.blocks.length fun j => predsK succsE f.blocks f.blocks.length j) := fun wr ha =>
    hPR'.fw ha.fw (HNOP.out Gp (Nat.le_refl _)) fun k h1 _ => HNOP.out k (by omega)
  clear hbp hf2 hrow2 hPR hPR' hGp HB2 HQ2 HF2
  have HBel : Hid (∀ wr, Adds wp wr G → Below w.heap.size w wr ∧ wr.cell? ⟨w.heap.size, 2, none⟩ = some (.slice A f.blocks.length c)) := fun wr ha =>
    have hb := ha.toBelow HQp.out rfl
    ⟨HBp.out.trans (hb.mono (by omega)), (hb.cell (p := ⟨w.heap.size, 2, none⟩) hGw).trans HFp.out⟩
  have hg2 := (HBel.out wp (Adds.refl _ _)).2
  have HQ1 : Hid (EvR pickO wp G n (takesK f 0)) := HQp.out
  have HA : Hid (Adds wp wp G) := Adds.refl _ _
  go_wp2_with fail
  clear hg2
  go_loopw [27] (fun i wr => ∃ m : Nat, m ≤ f.blocks.length ∧ i = .int .i64 m ∧ Hid (EvR pickO wr G n (takesK f m)) ∧ Hid (Adds wp wr G)) (fun i _ => f.blocks.length - (intOf i).toNat)
  case atStart => exact ⟨0, Nat.zero_le _, rfl, HQ1.out, HA.out⟩
  clear HQ1 HA
  case round =>
    obtain ⟨m, hm, rfl, HQ, HA⟩ := hrel
    obtain ⟨hbw, g2⟩ := HBel.out wr HA.out
    have HBw := Lib.hid hbw
    clear hbw
    by_cases hlt : m < f.blocks.length
    case neg =>
      obtain rfl : m = f.blocks.length := by omega
      go_wp2_with fail
      go_ret
      exact ⟨G, rfl, hGw, HQ.out, HBw.out⟩
    have hxk : f.blocks[m]? = some f.blocks[m] := List.getElem?_eq_getElem hlt
    generalize f.blocks[m] = x at hxk
    obtain ⟨b, off, rfl, hDb, hrow⟩ := HX.out (by intro h; rw [h] at hlt; simp at hlt)
    obtain ⟨cs, hE, hcs⟩ := hrow m x hxk
    have hbl := hD b hDb
    obtain ⟨v0, v1, v2, v3, rfl, r0, r1, r2, r3⟩ := hE
    obtain ⟨_, A0, q0, rfl, h0⟩ := r0
    obtain ⟨_, A1, q1, rfl, h1⟩ := r1
    obtain ⟨_, A2, q2, rfl, h2⟩ := r2
    obtain ⟨_, A3, q3, rfl, h3⟩ := r3
    have c0 : wr.cell? ⟨b, off + m * 8, none⟩ = some (.slice A0 x.phis.length q0) := (HBw.out.cell (p := ⟨b, _, none⟩) hbl).trans (hcs 0 _ rfl).1
    have c1 : wr.cell? ⟨b, off + m * 8 + 1, none⟩ = some (.slice A1 x.head.length q1) := (HBw.out.cell (p := ⟨b, _, none⟩) hbl).trans (hcs 1 _ rfl).1
    have c2 : wr.cell? ⟨b, off + m * 8 + 2, none⟩ = some (.slice A2 x.body.length q2) := (HBw.out.cell (p := ⟨b, _, none⟩) hbl).trans (hcs 2 _ rfl).1
    have c3 : wr.cell? ⟨b, off + m * 8 + 3, none⟩ = some (.slice A3 x.tail.length q3) := (HBw.out.cell (p := ⟨b, _, none⟩) hbl).trans (hcs 3 _ rfl).1
    have c4 : wr.cell? ⟨b, off + m * 8 + 4, none⟩ = some (.int .i64 x.fin.k) := (HBw.out.cell (p := ⟨b, _, none⟩) hbl).trans (hcs 4 _ rfl).1
    have c5 : wr.cell? ⟨b, off + m * 8 + 5, none⟩ = some (.int .i64 x.fin.a) := (HBw.out.cell (p := ⟨b, _, none⟩) hbl).trans (hcs 5 _ rfl).1
    have c6 : wr.cell? ⟨b, off + m * 8 + 6, none⟩ = some (.int .i64 x.fin.t) := (HBw.out.cell (p := ⟨b, _, none⟩) hbl).trans (hcs 6 _ rfl).1
    have c7 : wr.cell? ⟨b, off + m * 8 + 7, none⟩ = some (.int .i64 x.fin.l) := (HBw.out.cell (p := ⟨b, _, none⟩) hbl).trans (hcs 7 _ rfl).1
    have Hxk := Lib.hid hxk
    have H0 := Lib.hid h0
    have H1 := Lib.hid h1
    have H2 := Lib.hid h2
    have H3 := Lib.hid h3
    have hbP := HP.out.1.2.2.2.2 m x hxk
    have HPh := Lib.hid (HP.out.2.2.2 m x hxk).2
    have HHd := Lib.hid hbP.2.1.2.1
    have HTl := Lib.hid hbP.2.2.1.2.1
    have HBd := Lib.hid hbP.2.2.2.2
    have hl0 := (HP.out.2.2.2 m x hxk).1
    have hl1 := hbP.2.1.1
    have hl3 := hbP.2.2.1.1
    have hl2 := hbP.2.2.2.1
    have HEL := Lib.hid (HLEN.out m hm)
    obtain ⟨E0, hE0⟩ : ∃ E, E = takesK f m := ⟨_, rfl⟩
    rw [← hE0] at HQ HEL
    have HE0 := Lib.hid hE0
    clear hcs hrow hxk h0 h1 h2 h3 hbP hE0
    have hlt' : (m : Int) < (f.blocks.length : Int) := by omega
    go_wp2_with fail
    clear c0 c1 c2 c3 c4 c5 c6 c7 g2
    have hkh : ((wr.alloc (.cells #[(.slice A0 x.phis.length q0), (.slice A1 x.head.length q1), (.slice A2 x.body.length q2), (.slice A3 x.tail.length q3), (.int .i64 x.fin.k), (.int .i64 x.fin.a), (.int .i64 x.fin.t), (.int .i64 x.fin.l)] 60))).heap[wr.heap.size]? = some (.cells #[(.slice A0 x.phis.length q0), (.slice A1 x.head.length q1), (.slice A2 x.body.length q2), (.slice A3 x.tail.length q3), (.int .i64 x.fin.k), (.int .i64 x.fin.a), (.int .i64 x.fin.t), (.int .i64 x.fin.l)] 60 (0, 0)) := heap_alloc_new _ _
    have hBk : Below wr.heap.size wr (wr.alloc (.cells #[(.slice A0 x.phis.length q0), (.slice A1 x.head.length q1), (.slice A2 x.body.length q2), (.slice A3 x.tail.length q3), (.int .i64 x.fin.k), (.int .i64 x.fin.a), (.int .i64 x.fin.t), (.int .i64 x.fin.l)] 60)) := (Below.refl _ _).alloc (Nat.le_refl _) _
    have hno : ¬ Owns (wr.alloc (.cells #[(.slice A0 x.phis.length q0), (.slice A1 x.head.length q1), (.slice A2 x.body.length q2), (.slice A3 x.tail.length q3), (.int .i64 x.fin.k), (.int .i64 x.fin.a), (.int .i64 x.fin.t), (.int .i64 x.fin.l)] 60)) G wr.heap.size := not_owned HQ.out hBk (Nat.le_refl _)
    have HQk := Lib.hid (HQ.out.below hBk)
    have HAk := Lib.hid (HA.out.trans (Adds.below hBk HQ.out.lt))
    have hqk : wr.heap.size < ((wr.alloc (.cells #[(.slice A0 x.phis.length q0), (.slice A1 x.head.length q1), (.slice A2 x.body.length q2), (.slice A3 x.tail.length q3), (.int .i64 x.fin.k), (.int .i64 x.fin.a), (.int .i64 x.fin.t), (.int .i64 x.fin.l)] 60))).heap.size := by simp
    obtain ⟨q, hq⟩ : ∃ q, q = wr.heap.size := ⟨_, rfl⟩
    rw [← hq] at hkh hno hqk ⊢
    generalize (wr.alloc (.cells #[(.slice A0 x.phis.length q0), (.slice A1 x.head.length q1), (.slice A2 x.body.length q2), (.slice A3 x.tail.length q3), (.int .i64 x.fin.k), (.int .i64 x.fin.a), (.int .i64 x.fin.t), (.int .i64 x.fin.l)] 60)) = wk at *
    have HKH := Lib.hid hkh
    have HNO := Lib.hid hno
    have HQC : Hid (∀ wr, Adds wk wr G → (∀ (o : Nat) u, (#[(.slice A0 x.phis.length q0), (.slice A1 x.head.length q1), (.slice A2 x.body.length q2), (.slice A3 x.tail.length q3), (.int .i64 x.fin.k), (.int .i64 x.fin.a), (.int .i64 x.fin.t), (.int .i64 x.fin.l)] : Array Value)[o]? = some u → wr.cell? ⟨q, o, none⟩ = some u) ∧ Below w.heap.size w wr) := fun wr ha =>
      ⟨fun o u hu => (ha.cellA hqk HNO.out o).trans ((cell_of_row wk q o _ _ (0, 0) HKH.out).trans hu), (HBel.out wr (HAk.out.trans ha)).1⟩
    clear hkh hno hBk HQ HA HBw hq
    have HQ0 := HQk
    have HEL0 := HEL
    have HA0 : Hid (Adds wk wk G) := Adds.refl _ _
    go_loopw [36] (fun i wr => ∃ j : Nat, j ≤ x.head.length ∧ i = .int .i64 j ∧ Hid (EvR pickO wr G n (E0 ++ mvT (m : Int) 1 x.head j)) ∧ Hid (Adds wk wr G)) (fun i _ => x.head.length - (intOf i).toNat)
    case atStart => exact ⟨0, Nat.zero_le _, rfl, HQ0.out.to (List.append_nil _), HA0.out⟩
    clear HQ0 HA0
    case round =>
      obtain ⟨j, hj, rfl, HQ, HA⟩ := hrel
      obtain ⟨hqc, hbw⟩ := HQC.out wr HA.out
      have HBw := Lib.hid hbw
      clear hbw
      by_cases hjl : j < x.head.length
      case neg =>
        obtain rfl : j = x.head.length := by omega
        obtain ⟨E1, hE1⟩ : ∃ E, E = E0 ++ mvT (m : Int) 1 x.head x.head.length := ⟨_, rfl⟩
        rw [← hE1] at HQ
        have HE1 := Lib.hid hE1
        have HEL1 : Hid (E1.length ≤ 10045) := by
          have h1 := HEL0.out
          have h2 := mvT_le (m : Int) 1 x.head x.head.length
          rw [Hid, hE1, List.length_append]
          exact Nat.le_trans (Nat.add_le_add h1 h2) (by omega)
        have HQ1 := HQ
        have HA1 := HA
        clear HQ HA hE1
        have e2 := hqc 2 _ rfl
        clear hqc
        go_wp2_with fail
        clear e2
        go_loopw [50] (fun i wr => ∃ j : Nat, j ≤ x.body.length ∧ i = .int .i64 j ∧ Hid (EvR pickO wr G n (E1 ++ insT (m : Int) x.body j)) ∧ Hid (Adds wk wr G)) (fun i _ => x.body.length - (intOf i).toNat)
        case atStart => exact ⟨0, Nat.zero_le _, rfl, HQ1.out.to (List.append_nil _), HA1.out⟩
        clear HQ1 HA1
        case round =>
          obtain ⟨j, hj, rfl, HQ, HA⟩ := hrel
          obtain ⟨hqc, hbw⟩ := HQC.out wr HA.out
          have HBw := Lib.hid hbw
          clear hbw
          by_cases hjl : j < x.body.length
          case neg =>
            obtain rfl : j = x.body.length := by omega
            obtain ⟨E2, hE2⟩ : ∃ E, E = E1 ++ insT (m : Int) x.body x.body.length := ⟨_, rfl⟩
            rw [← hE2] at HQ
            have HE2 := Lib.hid hE2
            have HEL2 : Hid (E2.length ≤ 10210) := by
              have h1 := HEL1.out
              have h2 := insT_le (m : Int) x.body x.body.length
              rw [Hid, hE2, List.length_append]
              exact Nat.le_trans (Nat.add_le_add h1 h2) (by omega)
            have HQ2 := HQ
            have HA2 := HA
            clear HQ HA hE2
            have e3 := hqc 3 _ rfl
            clear hqc
            go_wp2_with fail
            clear e3
            go_loopw [74] (fun i wr => ∃ j : Nat, j ≤ x.tail.length ∧ i = .int .i64 j ∧ Hid (EvR pickO wr G n (E2 ++ mvT (m : Int) (2 + (x.body.length : Int)) x.tail j)) ∧ Hid (Adds wk wr G)) (fun i _ => x.tail.length - (intOf i).toNat)
            case atStart => exact ⟨0, Nat.zero_le _, rfl, HQ2.out.to (List.append_nil _), HA2.out⟩
            clear HQ2 HA2
            case round =>
              obtain ⟨j, hj, rfl, HQ, HA⟩ := hrel
              obtain ⟨hqc, hbw⟩ := HQC.out wr HA.out
              have HBw := Lib.hid hbw
              clear hbw
              by_cases hjl : j < x.tail.length
              case neg =>
                obtain rfl : j = x.tail.length := by omega
                obtain ⟨E3, hE3⟩ : ∃ E, E = E2 ++ mvT (m : Int) (2 + (x.body.length : Int)) x.tail x.tail.length := ⟨_, rfl⟩
                rw [← hE3] at HQ
                have HE3 := Lib.hid hE3
                have HEL3 : Hid (E3.length ≤ 10300) := by
                  have h1 := HEL2.out
                  have h2 := mvT_le (m : Int) (2 + (x.body.length : Int)) x.tail x.tail.length
                  rw [Hid, hE3, List.length_append]
                  exact Nat.le_trans (Nat.add_le_add h1 h2) (by omega)
                have HQ3 := HQ
                have HA3 := HA
                clear HQ HA hE3
                have hPw := HPW.out wr (HAk.out.trans HA3.out)
                obtain ⟨hbw, gf2⟩ := HBel.out wr (HAk.out.trans HA3.out)
                clear hqc
                go_wp2_with fail
                refine (endTakes_any f _ Gp m x _ Z HP.out (HRow.out.keep (Kept.below hbw hD) fun _ _ h => h.keep (Kept.below hbw hD)) (fun b hb => by have h1 := hD b hb; have h2 := hbw.size; omega) hPw Hxk.out).mono ?_
                rintro e w4 ⟨r4, rfl, hr4, hb4⟩
                clear hPw hbw gf2
                have hEN : ∀ u ∈ endL f m x, isBelowB u (n : Int) = true := fun u hu => by
                  have h := endL_name HP.out Hxk.out hu
                  rwa [HN.out] at h
                have hell := endL_len HP.out (m : Int) x
                have HEVF : Hid (E3 ++ (endL f m x).map (fun u => (⟨u, ⟨(m : Int), 3 + (x.body.length : Int)⟩⟩ : EvD)) = takesK f (m + 1)) := by
                  rw [Hid, HE3.out, HE2.out, HE1.out, HE0.out]
                  unfold takesK
                  rw [upTo_succ Hxk.out]
                  unfold blkT
                  simp only [List.append_assoc]
                generalize endL f m x = us at hr4 hEN hell HEVF
                have HEN := Lib.hid hEN
                have hlo4 : wr.heap.size ≤ wr.heap.size := Nat.le_refl _
                have HNOU : Hid (∀ kk, wr.heap.size ≤ kk → ¬ Owns w4 G kk) := fun kk hkk => not_owned HQ3.out hb4 hkk
                have HQ4 := Lib.hid (HQ3.out.below hb4)
                have HA4 := Lib.hid (HA3.out.trans (Adds.below hb4 (QRow.lt HQ3.out)))
                have HU4 := Lib.hid hr4
                obtain ⟨_, A5, c5, rfl, _⟩ := hr4.ri
                obtain ⟨lo, hlo⟩ : ∃ lo, lo = wr.heap.size := ⟨_, rfl⟩
                rw [← hlo] at HNOU HU4
                clear hr4 hEN hlo hb4 hlo4 HQ3 HA3
                go_wp2_with fail
                go_loopw [93] (fun i wr => ∃ j : Nat, j ≤ us.length ∧ i = .int .i64 j ∧ Hid (EvR pickO wr G n (E3 ++ (us.take j).map (fun u => (⟨u, ⟨(m : Int), 3 + (x.body.length : Int)⟩⟩ : EvD)))) ∧ Hid (Adds w4 wr G)) (fun i _ => us.length - (intOf i).toNat)
                case atStart => exact ⟨0, Nat.zero_le _, rfl, HQ4.out.to (by rw [List.take_zero]; exact List.append_nil _), Adds.refl _ _⟩
                clear HQ4
                case round =>
                  obtain ⟨j, hj, rfl, HQ, HA⟩ := hrel
                  by_cases hjl : j < us.length
                  case neg =>
                    obtain rfl : j = us.length := by omega
                    have HQ9 : Hid (EvR pickO wr G n (takesK f (m + 1))) := HQ.out.to (by rw [← HEVF.out, List.take_length])
                    have HA9 := Lib.hid (HAk.out.trans (HA4.out.trans HA.out))
                    clear HQ HA
                    go_wp2_with fail
                    go_roundw
                    case rel => exact ⟨m + 1, by omega, by go_num, HQ9.out, HA9.out⟩
                    case measure => simp [intOf]; omega
                  have hxj : us[j]? = some us[j] := List.getElem?_eq_getElem hjl
                  generalize us[j] = y at hxj
                  have hjl' : (j : Int) < (us.length : Int) := by omega
                  have hOU := HU4.out.fw HA.out.fw fun kk hkk => HNOU.out kk (HU4.out.lt kk hkk).1
                  obtain ⟨_, A5', c5', he5, hux⟩ := hOU.ri
                  injection he5 with e1 e0 e2
                  clear e0
                  subst e1 e2
                  obtain ⟨b5, o5, rfl, hcell⟩ := hux (by rintro rfl; simp at hjl)
                  obtain ⟨t, rfl, htn⟩ := name_nat (HEN.out y (List.mem_of_getElem? hxj))
                  have p0 := hcell j _ hxj
                  obtain ⟨hqc, _⟩ := HQC.out wr (HA4.out.trans HA.out)
                  have e0 := hqc 0 _ rfl
                  have e1 := hqc 1 _ rfl
                  have e2 := hqc 2 _ rfl
                  have e3 := hqc 3 _ rfl
                  have e4 := hqc 4 _ rfl
                  have e5 := hqc 5 _ rfl
                  have e6 := hqc 6 _ rfl
                  have e7 := hqc 7 _ rfl
                  have HMT := Lib.hid (map_take hxj fun u => (⟨u, ⟨(m : Int), 3 + (x.body.length : Int)⟩⟩ : EvD))
                  have HL := Lib.hid (pickO_le (evs := E3 ++ (us.take j).map (fun u => (⟨u, ⟨(m : Int), 3 + (x.body.length : Int)⟩⟩ : EvD))) t (by have h1 := HEL3.out; rw [List.length_append, List.length_map, List.length_take]; omega))
                  have hn2 : x.body.length ≤ 1000 := by omega
                  clear hcell hux hOU hxj hqc
                  go_wp2_with (go_at_call 53; refine (endTime_any _ _ _ _ _ _ _ _ _ _ _ hn2).mono ?_; rintro e w7 ⟨rfl, hb7⟩; have HB7 := Lib.hid hb7; clear hb7)
                  refine (addOnce_any G n (fun i => pickO (E3 ++ (us.take j).map (fun u => (⟨u, ⟨(m : Int), 3 + (x.body.length : Int)⟩⟩ : EvD))) (i : Int)) t ⟨(m : Int), 3 + (x.body.length : Int)⟩ _ (HQ.out.below HB7.out) htn HL.out).mono ?_
                  rintro e w3 ⟨_, rfl, hq3, ha3⟩
                  have HQ5 : Hid (EvR pickO w3 G n (E3 ++ (us.take (j + 1)).map (fun u => (⟨u, ⟨(m : Int), 3 + (x.body.length : Int)⟩⟩ : EvD)))) := EvR.once hq3 (by rw [HMT.out]; simp only [List.append_assoc])
                  have HA5 := Lib.hid ((HA.out.trans (Adds.below HB7.out (QRow.lt HQ.out))).trans ha3)
                  clear hq3 ha3 HQ HA e0 e1 e2 e3 e4 e5 e6 e7 p0
                  go_wp2_with fail
                  go_roundw
                  case rel => exact ⟨j + 1, by omega, by go_num, HQ5.out, HA5.out⟩
                  case measure => simp [intOf]; omega
              have hxj : x.tail[j]? = some x.tail[j] := List.getElem?_eq_getElem hjl
              generalize x.tail[j] = y at hxj
              obtain ⟨b', off', rfl, hDb', hrow'⟩ := H3.out (by intro h; rw [h] at hjl; simp at hjl)
              obtain ⟨ds, hE, hds⟩ := hrow' j y hxj
              have hbl' := hD b' hDb'
              have hjl' : (j : Int) < (x.tail.length : Int) := by omega
              have Hxj := Lib.hid hxj
              obtain rfl := hE
              have d0 : wr.cell? ⟨b', off' + j * 2, none⟩ = some (.int .i64 y.dst) := (HBw.out.cell (p := ⟨b', _, none⟩) hbl').trans (hds 0 _ rfl).1
              have d1 : wr.cell? ⟨b', off' + j * 2 + 1, none⟩ = some (.int .i64 y.src) := (HBw.out.cell (p := ⟨b', _, none⟩) hbl').trans (hds 1 _ rfl).1
              have hnb := (HTl.out j y hxj).2
              rw [HN.out] at hnb
              obtain ⟨t, ht, htn⟩ := name_nat hnb
              rw [ht] at d1
              clear hnb
              clear hds hrow' hxj hqc
              have HL := Lib.hid (pickO_le (evs := E2 ++ mvT (m : Int) (2 + (x.body.length : Int)) x.tail j) t (by have h1 := HEL2.out; have h2 := mvT_le (m : Int) (2 + (x.body.length : Int)) x.tail j; rw [List.length_append]; omega))
              have hn2 : x.body.length ≤ 1000 := by omega
              go_upto_region 24 with fail
              have hBm : Below wr.heap.size wr (wr.alloc (.cells #[.int .i64 y.dst, .int .i64 t] 90)) := (Below.refl _ _).alloc (Nat.le_refl _) _
              have hkm : (wr.alloc (.cells #[.int .i64 y.dst, .int .i64 t] 90)).cell? ⟨wr.heap.size, 1, none⟩ = some (.int .i64 t) := by go_simp
              have hnom : ¬ Owns (wr.alloc (.cells #[.int .i64 y.dst, .int .i64 t] 90)) G wr.heap.size := not_owned HQ.out hBm (Nat.le_refl _)
              have HQm := Lib.hid (HQ.out.below hBm)
              have HAm := Lib.hid (HA.out.trans (Adds.below hBm (QRow.lt HQ.out)))
              have hqm : wr.heap.size < (wr.alloc (.cells #[.int .i64 y.dst, .int .i64 t] 90)).heap.size := by simp
              obtain ⟨q9, hq9⟩ : ∃ q, q = wr.heap.size := ⟨_, rfl⟩
              rw [← hq9] at hkm hnom hqm ⊢
              generalize wr.alloc (.cells #[.int .i64 y.dst, .int .i64 t] 90) = wm at *
              obtain ⟨hqm', _⟩ := HQC.out wm HAm.out
              have hS : ∀ w', Adds wm w' G → (fun w' => w'.cell? ⟨q, 0, none⟩ = some (.slice A0 x.phis.length q0) ∧ w'.cell? ⟨q, 1, none⟩ = some (.slice A1 x.head.length q1) ∧ w'.cell? ⟨q, 2, none⟩ = some (.slice A2 x.body.length q2) ∧ w'.cell? ⟨q, 3, none⟩ = some (.slice (some ⟨b', off', none⟩) x.tail.length q3) ∧ w'.cell? ⟨q, 4, none⟩ = some (.int .i64 x.fin.k) ∧ w'.cell? ⟨q, 5, none⟩ = some (.int .i64 x.fin.a) ∧ w'.cell? ⟨q, 6, none⟩ = some (.int .i64 x.fin.t) ∧ w'.cell? ⟨q, 7, none⟩ = some (.int .i64 x.fin.l) ∧ w'.cell? ⟨q9, 1, none⟩ = some (.int .i64 t)) w' := fun w' ha => by
                obtain ⟨h, _⟩ := HQC.out w' (HAm.out.trans ha)
                exact ⟨h 0 _ rfl, h 1 _ rfl, h 2 _ rfl, h 3 _ rfl, h 4 _ rfl, h 5 _ rfl, h 6 _ rfl, h 7 _ rfl, (ha.cellA hqm hnom 1).trans hkm⟩
              have HSS := Lib.hid hS
              have HLT := Lib.hid (QRow.lt HQm.out)
              have Kd : (fun w' => w'.cell? ⟨q, 0, none⟩ = some (.slice A0 x.phis.length q0) ∧ w'.cell? ⟨q, 1, none⟩ = some (.slice A1 x.head.length q1) ∧ w'.cell? ⟨q, 2, none⟩ = some (.slice A2 x.body.length q2) ∧ w'.cell? ⟨q, 3, none⟩ = some (.slice (some ⟨b', off', none⟩) x.tail.length q3) ∧ w'.cell? ⟨q, 4, none⟩ = some (.int .i64 x.fin.k) ∧ w'.cell? ⟨q, 5, none⟩ = some (.int .i64 x.fin.a) ∧ w'.cell? ⟨q, 6, none⟩ = some (.int .i64 x.fin.t) ∧ w'.cell? ⟨q, 7, none⟩ = some (.int .i64 x.fin.l) ∧ w'.cell? ⟨q9, 1, none⟩ = some (.int .i64 t)) wm.drew := hS _ (Adds.below ((Below.refl _ _).drew) HLT.out)
              clear hqm' hS hBm hkm hnom hqm HQ HA hq9 d0 d1
              refine wp_region_held_drew (S := ((fun w' => w'.cell? ⟨q, 0, none⟩ = some (.slice A0 x.phis.length q0) ∧ w'.cell? ⟨q, 1, none⟩ = some (.slice A1 x.head.length q1) ∧ w'.cell? ⟨q, 2, none⟩ = some (.slice A2 x.body.length q2) ∧ w'.cell? ⟨q, 3, none⟩ = some (.slice (some ⟨b', off', none⟩) x.tail.length q3) ∧ w'.cell? ⟨q, 4, none⟩ = some (.int .i64 x.fin.k) ∧ w'.cell? ⟨q, 5, none⟩ = some (.int .i64 x.fin.a) ∧ w'.cell? ⟨q, 6, none⟩ = some (.int .i64 x.fin.t) ∧ w'.cell? ⟨q, 7, none⟩ = some (.int .i64 x.fin.l) ∧ w'.cell? ⟨q9, 1, none⟩ = some (.int .i64 t)))) (by kernel_rfl) ?_ (fun hHeld => ?_)
              · (try dsimp only)
                (first | exact Kd | exact HK7.out | exact HK8.out | fail)
              refine wpAnyH_take (i := 0) (v := ?_) rfl (by kernel_rfl) (by kernel_rfl) (by kernel_rfl) (fun _ _ _ h => h) (Or.inl ⟨by rfl, ?_⟩) (by assumption) ?_
              rotate_left
              · intro w hSw
                simp only [List.getElem_toArray, List.getElem_cons_zero]
                (try dsimp only at hSw)
                go_simp
                first | done | (with_reducible rfl)
              simp only [List.getElem_toArray, List.getElem_cons_zero, Act.put, List.setIfInBounds_toArray, List.set_cons_zero, List.set_cons_succ]
              refine wpAnyH_take (i := 1) (v := ?_) rfl (by kernel_rfl) (by kernel_rfl) (by kernel_rfl) (fun _ _ _ h => h) (Or.inl ⟨by rfl, ?_⟩) (by assumption) ?_
              rotate_left
              · intro w hSw
                simp only [List.getElem_toArray, List.getElem_cons_succ, List.getElem_cons_zero]
                (try dsimp only at hSw)
                go_simp
                first | done | (with_reducible rfl)
              simp only [List.getElem_toArray, List.getElem_cons_succ, List.getElem_cons_zero, Act.put, List.setIfInBounds_toArray, List.set_cons_zero, List.set_cons_succ]
              refine wpAnyH_take (i := 2) (v := ?_) rfl (by kernel_rfl) (by kernel_rfl) (by kernel_rfl) (fun _ _ _ h => h) (Or.inl ⟨by rfl, ?_⟩) (by assumption) ?_
              rotate_left
              · intro w hSw
                simp only [List.getElem_toArray, List.getElem_cons_succ, List.getElem_cons_zero]
                (try dsimp only at hSw)
                go_simp
                first | done | (with_reducible rfl)
              simp only [List.getElem_toArray, List.getElem_cons_succ, List.getElem_cons_zero, Act.put, List.setIfInBounds_toArray, List.set_cons_zero, List.set_cons_succ]
              refine wpAnyH_take (i := 3) (v := ?_) rfl (by kernel_rfl) (by kernel_rfl) (by kernel_rfl) (fun _ _ _ h => h) (Or.inl ⟨by rfl, ?_⟩) (by assumption) ?_
              rotate_left
              · intro w hSw
                simp only [List.getElem_toArray, List.getElem_cons_succ, List.getElem_cons_zero]
                (try dsimp only at hSw)
                go_simp
                first | done | (with_reducible rfl)
              simp only [List.getElem_toArray, List.getElem_cons_succ, List.getElem_cons_zero, Act.put, List.setIfInBounds_toArray, List.set_cons_zero, List.set_cons_succ]
              refine wpAnyH_take (i := 4) (v := ?_) rfl (by kernel_rfl) (by kernel_rfl) (by kernel_rfl) (fun _ _ _ h => h) (Or.inl ⟨by rfl, ?_⟩) (by assumption) ?_
              rotate_left
              · intro w hSw
                simp only [List.getElem_toArray, List.getElem_cons_succ, List.getElem_cons_zero]
                (try dsimp only at hSw)
                go_simp
                first | done | (with_reducible rfl)
              simp only [List.getElem_toArray, List.getElem_cons_succ, List.getElem_cons_zero, Act.put, List.setIfInBounds_toArray, List.set_cons_zero, List.set_cons_succ]
              refine wpAnyH_ready (rs := [5]) (by kernel_rfl) (by simp) ?_
              refine AllReadyH.cons rfl (fun K hK => ?_) AllReadyH.nil
              simp only [List.getElem_toArray, List.getElem_cons_succ, List.getElem_cons_zero]
              go_simp
              (first | (go_at_call 49; refine (tailTime_any _ _ _ _ _ _ _ _ _ _ _ hn2).mono ?_; rintro e w7 ⟨rfl, hb7⟩; have HB7 := Lib.hid ((Below.refl _ _).drew.trans hb7); have HK7 := Lib.hid (HSS.out _ (Adds.below HB7.out HLT.out)); clear hb7) | (go_at_call 50; refine (addOnce_any G n (fun i => pickO (E2 ++ mvT (m : Int) (2 + (x.body.length : Int)) x.tail j) (i : Int)) t ⟨(m : Int), 2 + (x.body.length : Int)⟩ _ (HQm.out.below HB7.out) htn HL.out).mono ?_; rintro e w8 ⟨_, rfl, hq8, ha8⟩; have HQ8 := Lib.hid hq8; have HA8 := Lib.hid ((Adds.below HB7.out HLT.out).trans ha8); have HK8 := Lib.hid (HSS.out _ HA8.out); clear hq8 ha8) | fail)
              go_wp2_with fail
              refine hK.out _ _ ?_ (fun hHeld => ?_)
              · (try dsimp only)
                (first | exact Kd | exact HK7.out | exact HK8.out | fail)
              clear hK K
              (try simp only [List.getElem_toArray, List.getElem_cons_succ, List.getElem_cons_zero, Act.put, List.setIfInBounds_toArray, List.set_cons_zero, List.set_cons_succ])
              refine wpAnyH_take (i := 6) (v := ?_) rfl (by kernel_rfl) (by kernel_rfl) (by kernel_rfl) (fun _ _ _ h => h) (Or.inl ⟨by rfl, ?_⟩) (by assumption) ?_
              rotate_left
              · intro w hSw
                simp only [List.getElem_toArray, List.getElem_cons_succ, List.getElem_cons_zero]
                (try dsimp only at hSw)
                go_simp
                first | done | (with_reducible rfl)
              simp only [List.getElem_toArray, List.getElem_cons_succ, List.getElem_cons_zero, Act.put, List.setIfInBounds_toArray, List.set_cons_zero, List.set_cons_succ]
              refine wpAnyH_ready (rs := [7]) (by kernel_rfl) (by simp) ?_
              refine AllReadyH.cons rfl (fun K hK => ?_) AllReadyH.nil
              simp only [List.getElem_toArray, List.getElem_cons_succ, List.getElem_cons_zero]
              go_simp
              (first | (go_at_call 49; refine (tailTime_any _ _ _ _ _ _ _ _ _ _ _ hn2).mono ?_; rintro e w7 ⟨rfl, hb7⟩; have HB7 := Lib.hid ((Below.refl _ _).drew.trans hb7); have HK7 := Lib.hid (HSS.out _ (Adds.below HB7.out HLT.out)); clear hb7) | (go_at_call 50; refine (addOnce_any G n (fun i => pickO (E2 ++ mvT (m : Int) (2 + (x.body.length : Int)) x.tail j) (i : Int)) t ⟨(m : Int), 2 + (x.body.length : Int)⟩ _ (HQm.out.below HB7.out) htn HL.out).mono ?_; rintro e w8 ⟨_, rfl, hq8, ha8⟩; have HQ8 := Lib.hid hq8; have HA8 := Lib.hid ((Adds.below HB7.out HLT.out).trans ha8); have HK8 := Lib.hid (HSS.out _ HA8.out); clear hq8 ha8) | fail)
              go_wp2_with fail
              refine hK.out _ _ ?_ (fun hHeld => ?_)
              · (try dsimp only)
                (first | exact Kd | exact HK7.out | exact HK8.out | fail)
              clear hK K
              (try simp only [List.getElem_toArray, List.getElem_cons_succ, List.getElem_cons_zero, Act.put, List.setIfInBounds_toArray, List.set_cons_zero, List.set_cons_succ])
              refine wpAnyH_done (by kernel_rfl) ?_ _
              have HQ3 : Hid (EvR pickO w8 G n (E2 ++ mvT (m : Int) (2 + (x.body.length : Int)) x.tail (j + 1))) := EvR.once HQ8.out (by rw [mvT_succ Hxj.out, ht, List.append_assoc])
              have HA3 := Lib.hid (HAm.out.trans HA8.out)
              clear HQ8 HA8 HK8 HK7 Kd
              go_wp2_with fail
              go_roundw
              case rel => exact ⟨j + 1, by omega, by go_num, HQ3.out, HA3.out⟩
              case measure => simp [intOf]; omega
          have hxj : x.body[j]? = some x.body[j] := List.getElem?_eq_getElem hjl
          generalize x.body[j] = y at hxj
          obtain ⟨b', off', rfl, hDb', hrow'⟩ := H2.out (by intro h; rw [h] at hjl; simp at hjl)
          obtain ⟨ds, hE, hds⟩ := hrow' j y hxj
          have hbl' := hD b' hDb'
          have hjl' : (j : Int) < (x.body.length : Int) := by omega
          have Hxj := Lib.hid hxj
          obtain rfl := hE
          have d0 : wr.cell? ⟨b', off' + j * 4, none⟩ = some (.int .i64 y.op) := (HBw.out.cell (p := ⟨b', _, none⟩) hbl').trans (hds 0 _ rfl).1
          have d1 : wr.cell? ⟨b', off' + j * 4 + 1, none⟩ = some (.int .i64 y.v) := (HBw.out.cell (p := ⟨b', _, none⟩) hbl').trans (hds 1 _ rfl).1
          have d2 : wr.cell? ⟨b', off' + j * 4 + 2, none⟩ = some (.int .i64 y.a) := (HBw.out.cell (p := ⟨b', _, none⟩) hbl').trans (hds 2 _ rfl).1
          have d3 : wr.cell? ⟨b', off' + j * 4 + 3, none⟩ = some (.int .i64 y.b) := (HBw.out.cell (p := ⟨b', _, none⟩) hbl').trans (hds 3 _ rfl).1
          clear hds hrow' hxj hqc
          have hUN : ∀ u ∈ usesL y.op y.v y.a y.b, isBelowB u (n : Int) = true := fun u hu => by
            have h := uses_name (HBd.out j y Hxj.out) hu
            rwa [HN.out] at h
          have hull := usesL_len y.op y.v y.a y.b
          have HMS := Lib.hid (insT_succ (k := (m : Int)) Hxj.out)
          go_wp2_with fail
          refine (UsesOf_any _ _ _ _ _).mono ?_
          rintro e w4 ⟨r4, rfl, hr4, hb4⟩
          generalize usesL y.op y.v y.a y.b = us at hUN hull HMS hr4
          have HUN := Lib.hid hUN
          have HB4 : Hid (Below wr.heap.size wr w4) := ((Below.refl _ _).alloc (Nat.le_refl _) _).trans (hb4.mono (by simp))
          have HNOU : Hid (∀ kk, wr.heap.size ≤ kk → ¬ Owns w4 G kk) := fun kk hkk => not_owned HQ.out HB4.out hkk
          have HQ4 := Lib.hid (HQ.out.below HB4.out)
          have HA4 := Lib.hid (HA.out.trans (Adds.below HB4.out (QRow.lt HQ.out)))
          have HU4 : Hid (OI w4 wr.heap.size r4 us) := World.ownsRow.mono hr4 (by simp)
          obtain ⟨_, A5, c5, rfl, _⟩ := hr4.ri
          obtain ⟨lo, hlo⟩ : ∃ lo, lo = wr.heap.size := ⟨_, rfl⟩
          rw [← hlo] at HNOU HU4
          clear hr4 hUN hlo hb4 HB4 HQ HA d0 d1 d2 d3
          go_wp2_with fail
          go_loopw [58] (fun i wr => ∃ i2 : Nat, i2 ≤ us.length ∧ i = .int .i64 i2 ∧ Hid (EvR pickO wr G n (E1 ++ insT (m : Int) x.body j ++ (us.take i2).map (fun u => (⟨u, ⟨(m : Int), 2 + (j : Int)⟩⟩ : EvD)))) ∧ Hid (Adds w4 wr G)) (fun i _ => us.length - (intOf i).toNat)
          case atStart => exact ⟨0, Nat.zero_le _, rfl, HQ4.out.to (by rw [List.take_zero]; exact List.append_nil _), Adds.refl _ _⟩
          clear HQ4
          case round =>
            obtain ⟨i2, hi2, rfl, HQ, HA⟩ := hrel
            by_cases hil : i2 < us.length
            case neg =>
              obtain rfl : i2 = us.length := by omega
              have HQ9 : Hid (EvR pickO wr G n (E1 ++ insT (m : Int) x.body (j + 1))) := HQ.out.to (by rw [HMS.out, List.take_length, List.append_assoc])
              have HA9 := Lib.hid (HA4.out.trans HA.out)
              clear HQ HA
              go_wp2_with fail
              go_roundw
              case rel => exact ⟨j + 1, by omega, by go_num, HQ9.out, HA9.out⟩
              case measure => simp [intOf]; omega
            have hxi : us[i2]? = some us[i2] := List.getElem?_eq_getElem hil
            generalize us[i2] = z at hxi
            have hil' : (i2 : Int) < (us.length : Int) := by omega
            have hOU := HU4.out.fw HA.out.fw fun kk hkk => HNOU.out kk (HU4.out.lt kk hkk).1
            obtain ⟨_, A5', c5', he5, hux⟩ := hOU.ri
            injection he5 with e1 e0 e2
            clear e0
            subst e1 e2
            obtain ⟨b5, o5, rfl, hcell⟩ := hux (by rintro rfl; simp at hil)
            obtain ⟨t, rfl, htn⟩ := name_nat (HUN.out z (List.mem_of_getElem? hxi))
            have p0 := hcell i2 _ hxi
            have HMT := Lib.hid (map_take hxi fun u => (⟨u, ⟨(m : Int), 2 + (j : Int)⟩⟩ : EvD))
            have HL := Lib.hid (pickO_le (evs := E1 ++ insT (m : Int) x.body j ++ (us.take i2).map (fun u => (⟨u, ⟨(m : Int), 2 + (j : Int)⟩⟩ : EvD))) t (by have h1 := HEL1.out; have h2 := insT_le (m : Int) x.body j; rw [List.length_append, List.length_append, List.length_map, List.length_take]; omega))
            clear hcell hux hOU hxi
            go_wp2_with fail
            refine (addOnce_any G n (fun i => pickO (E1 ++ insT (m : Int) x.body j ++ (us.take i2).map (fun u => (⟨u, ⟨(m : Int), 2 + (j : Int)⟩⟩ : EvD))) (i : Int)) t ⟨(m : Int), 2 + (j : Int)⟩ _ HQ.out htn HL.out).mono ?_
            rintro e w3 ⟨_, rfl, hq3, ha3⟩
            have HQ5 : Hid (EvR pickO w3 G n (E1 ++ insT (m : Int) x.body j ++ (us.take (i2 + 1)).map (fun u => (⟨u, ⟨(m : Int), 2 + (j : Int)⟩⟩ : EvD)))) := EvR.once hq3 (by rw [HMT.out]; simp only [List.append_assoc])
            have HA5 := Lib.hid (HA.out.trans ha3)
            clear hq3 ha3 HQ HA p0
            go_wp2_with fail
            go_roundw
            case rel => exact ⟨i2 + 1, by omega, by go_num, HQ5.out, HA5.out⟩
            case measure => simp [intOf]; omega
      have hxj : x.head[j]? = some x.head[j] := List.getElem?_eq_getElem hjl
      generalize x.head[j] = y at hxj
      obtain ⟨b', off', rfl, hDb', hrow'⟩ := H1.out (by intro h; rw [h] at hjl; simp at hjl)
      obtain ⟨ds, hE, hds⟩ := hrow' j y hxj
      have hbl' := hD b' hDb'
      have hjl' : (j : Int) < (x.head.length : Int) := by omega
      have Hxj := Lib.hid hxj
      obtain rfl := hE
      have d0 : wr.cell? ⟨b', off' + j * 2, none⟩ = some (.int .i64 y.dst) := (HBw.out.cell (p := ⟨b', _, none⟩) hbl').trans (hds 0 _ rfl).1
      have d1 : wr.cell? ⟨b', off' + j * 2 + 1, none⟩ = some (.int .i64 y.src) := (HBw.out.cell (p := ⟨b', _, none⟩) hbl').trans (hds 1 _ rfl).1
      have hnb := (HHd.out j y hxj).2
      rw [HN.out] at hnb
      obtain ⟨t, ht, htn⟩ := name_nat hnb
      rw [ht] at d1
      clear hnb
      clear hds hrow' hxj hqc
      have HL := Lib.hid (pickO_le (evs := E0 ++ mvT (m : Int) 1 x.head j) t (by have h1 := HEL0.out; have h2 := mvT_le (m : Int) 1 x.head j; rw [List.length_append]; omega))
      go_wp2_with fail
      refine (addOnce_any G n (fun i => pickO (E0 ++ mvT (m : Int) 1 x.head j) (i : Int)) t ⟨(m : Int), 1⟩ _ (HQ.out.below ((Below.refl _ _).alloc (Nat.le_refl _) _)) htn HL.out).mono ?_
      rintro e w3 ⟨_, rfl, hq3, ha3⟩
      have HQ3 : Hid (EvR pickO w3 G n (E0 ++ mvT (m : Int) 1 x.head (j + 1))) := EvR.once hq3 (by rw [mvT_succ Hxj.out, ht, List.append_assoc])
      have HA3 := Lib.hid ((HA.out.trans (Adds.below ((Below.refl wr.heap.size wr).alloc (Nat.le_refl _) (.cells #[.int .i64 y.dst, .int .i64 t] 90)) (QRow.lt HQ.out))).trans ha3)
      clear hq3 ha3 HQ HA d0 d1
      go_wp2_with fail
      go_roundw
      case rel => exact ⟨j + 1, by omega, by go_num, HQ3.out, HA3.out⟩
      case measure => simp [intOf]; omega
end

/- The order of a walk in depth: each one that is reached is once in it, behind (read backwards) one of its preds; lists alone. -/
section

/-- From s to s' the ones in ns have been finished newly. -/
structure New (sc : Int → List Int) (s s' : List Bool × List Int) (ns : List Int) (R : Int → Prop) : Prop where
  len : s'.1.length = s.1.length
  mono : ∀ i : Nat, s.1[i]? = some true → s'.1[i]? = some true
  out : s'.2 = s.2 ++ ns
  nd : ns.Pairwise (· ≠ ·)
  mem : ∀ x, x ∈ ns ↔ ∃ i : Nat, x = (i : Int) ∧ s.1[i]? = some false ∧ s'.1[i]? = some true
  prd : ∀ (k : Nat) (x : Int), ns[k]? = some x → R x ∨ ∃ (j : Nat) (y : Int), k < j ∧ ns[j]? = some y ∧ x ∈ sc y

theorem New.refl (sc : Int → List Int) (s : List Bool × List Int) (R : Int → Prop) : New sc s s [] R :=
  ⟨rfl, fun _ h => h, by simp, List.Pairwise.nil, fun x => ⟨fun h => (by cases h), fun ⟨i, _, h1, h2⟩ => by rw [h1] at h2; cases h2⟩, fun k x h => (by simp at h)⟩
theorem New.trans {sc : Int → List Int} {s s1 s2 : List Bool × List Int} {n1 n2 : List Int} {R R1 R2 : Int → Prop} (h : New sc s s1 n1 R1) (k : New sc s1 s2 n2 R2) (h1 : ∀ x, R1 x → R x) (h2 : ∀ x, R2 x → R x) : New sc s s2 (n1 ++ n2) R := by
  refine ⟨k.len.trans h.len, fun i hi => k.mono i (h.mono i hi), by rw [k.out, h.out, List.append_assoc], List.pairwise_append.2 ⟨h.nd, k.nd, fun a ha b hb => ?_⟩, fun x => ?_, fun j x hx => ?_⟩
  · rintro rfl
    obtain ⟨i, rfl, _, hi⟩ := (h.mem _).1 ha
    obtain ⟨i', e, hi', _⟩ := (k.mem _).1 hb
    have : i = i' := by omega
    subst this
    rw [hi] at hi'; cases hi'
  · rw [List.mem_append]
    constructor
    · rintro (hx | hx)
      · obtain ⟨i, rfl, g1, g2⟩ := (h.mem _).1 hx
        exact ⟨i, rfl, g1, k.mono i g2⟩
      · obtain ⟨i, rfl, g1, g2⟩ := (k.mem _).1 hx
        refine ⟨i, rfl, ?_, g2⟩
        have hl : i < s.1.length := by rw [← h.len]; exact (List.getElem?_eq_some_iff.1 g1).1
        have hs : s.1[i]? = some s.1[i] := List.getElem?_eq_getElem hl
        cases hv : s.1[i]
        · rw [hs, hv]
        · rw [hv] at hs
          have := h.mono i hs
          rw [g1] at this; cases this
    · rintro ⟨i, rfl, g1, g2⟩
      have hl : i < s1.1.length := by rw [h.len]; exact (List.getElem?_eq_some_iff.1 g1).1
      have hs : s1.1[i]? = some s1.1[i] := List.getElem?_eq_getElem hl
      cases hv : s1.1[i]
      · rw [hv] at hs; exact .inr ((k.mem _).2 ⟨i, rfl, hs, g2⟩)
      · rw [hv] at hs; exact .inl ((h.mem _).2 ⟨i, rfl, g1, hs⟩)
  · by_cases hj : j < n1.length
    · rw [List.getElem?_append_left hj] at hx
      rcases h.prd j x hx with g | ⟨m, y, g1, g2, g3⟩
      · exact .inl (h1 x g)
      · exact .inr ⟨m, y, g1, by rw [List.getElem?_append_left (List.getElem?_eq_some_iff.1 g2).1]; exact g2, g3⟩
    · rw [List.getElem?_append_right (by omega)] at hx
      rcases k.prd _ x hx with g | ⟨m, y, g1, g2, g3⟩
      · exact .inl (h2 x g)
      · exact .inr ⟨n1.length + m, y, by omega, by rw [List.getElem?_append_right (by omega), show n1.length + m - n1.length = m by omega]; exact g2, g3⟩

section
variable {sc : Int → List Int} {N : Nat} (hsc : ∀ b : Nat, b < N → ∀ t ∈ sc b, 0 ≤ t ∧ t < (N : Int))
include hsc

theorem dlist_new {K : Nat} (n : Nat) (ih : ∀ (b : Nat) (s : List Bool × List Int), Inv N K s → s.1[b]? = some false → ∃ ns, New sc s (dfs sc n b s) ns (· = (b : Int))) :
    ∀ (ts : List Int) (s : List Bool × List Int), (∀ t ∈ ts, 0 ≤ t ∧ t < (N : Int)) → Inv N K s → ∃ ns, New sc s (dlist sc n ts s) ns (· ∈ ts)
  | [], s, _, _ => ⟨[], New.refl _ _ _⟩
  | t :: ts, s, ht, h => by
    rw [dlist_cons]
    have ht0 := ht t (by simp)
    obtain ⟨k, rfl⟩ : ∃ k : Nat, t = k := ⟨t.toNat, by omega⟩
    have hk : k < s.1.length := by rw [h.len]; omega
    have hsk : s.1[k]? = some s.1[k] := List.getElem?_eq_getElem hk
    have hst : Inv N K (dstep sc n s k) ∧ ∃ ns, New sc s (dstep sc n s k) ns (· = (k : Int)) := by
      unfold dstep
      rw [seenAt_of hsk]
      by_cases hv : s.1[k] = true
      · rw [if_pos hv]; exact ⟨h, [], New.refl _ _ _⟩
      · rw [if_neg hv]
        have hv' : s.1[k] = false := by simpa using hv
        rw [hv'] at hsk
        exact ⟨(dfs_inv hsc n k s h hsk).1, ih k s h hsk⟩
    obtain ⟨g1, n1, g2⟩ := hst
    obtain ⟨n2, g3⟩ := dlist_new n ih ts _ (fun u hu => ht u (by simp [hu])) g1
    exact ⟨n1 ++ n2, g2.trans g3 (fun x hx => by rw [hx]; simp) fun x hx => by simp [hx]⟩

theorem dfs_new {K : Nat} : ∀ (n : Nat) (b : Nat) (s : List Bool × List Int), Inv N K s → s.1[b]? = some false → ∃ ns, New sc s (dfs sc n b s) ns (· = (b : Int)) ∧ (n ≠ 0 → ∃ ms, ns = ms ++ [(b : Int)])
  | 0, _, s, _, _ => ⟨[], New.refl _ _ _, fun h => absurd rfl h⟩
  | n + 1, b, s, h, hb => by
    have hbN : b < N := by rw [← h.len]; exact (List.getElem?_eq_some_iff.1 hb).1
    have hcf := cf_set hb
    have hcap := h.cap
    have h0 : Inv N K (s.1.set b true, s.2) := ⟨by simp [h.len], by show s.2.length + cf (s.1.set b true) ≤ K; omega, h.mem⟩
    obtain ⟨ns, g⟩ := dlist_new hsc n (fun b' s' h1 h2 => let ⟨ns, g, _⟩ := dfs_new n b' s' h1 h2; ⟨ns, g⟩) (sc b) (s.1.set b true, s.2) (hsc b hbN) h0
    have hbs : (s.1.set b true)[b]? = some true := set_get_self (by rw [h.len]; exact hbN) true
    have hbt : (dlist sc n (sc b) (s.1.set b true, s.2)).1[b]? = some true := g.mono b hbs
    have hnb : (b : Int) ∉ ns := fun hm => by
      obtain ⟨i, e, g1, _⟩ := (g.mem _).1 hm
      have : b = i := by omega
      subst this
      have g1' : (s.1.set b true)[b]? = some false := g1
      rw [hbs] at g1'; cases g1'
    refine ⟨ns ++ [(b : Int)], ⟨?_, fun i hi => ?_, ?_, ?_, fun x => ?_, fun k x hx => ?_⟩, fun _ => ⟨ns, rfl⟩⟩
    · rw [dfs_succ, Int.toNat_natCast]
      have := g.len
      simpa using this
    · rw [dfs_succ, Int.toNat_natCast]
      refine g.mono i ?_
      show (s.1.set b true)[i]? = some true
      rw [set_get_other (by rintro rfl; rw [hb] at hi; cases hi)]; exact hi
    · rw [dfs_succ, Int.toNat_natCast]
      have := g.out
      show (dlist sc n (sc b) (s.1.set b true, s.2)).2 ++ [(b : Int)] = _
      rw [this, List.append_assoc]
    · refine List.pairwise_append.2 ⟨g.nd, List.pairwise_singleton _ _, fun a ha c hc => ?_⟩
      simp at hc
      subst hc
      rintro rfl
      exact hnb ha
    · rw [dfs_succ, Int.toNat_natCast, List.mem_append]
      constructor
      · rintro (hx | hx)
        · obtain ⟨i, rfl, g1, g2⟩ := (g.mem _).1 hx
          have g1' : (s.1.set b true)[i]? = some false := g1
          have hne : b ≠ i := by rintro rfl; rw [hbs] at g1'; cases g1'
          rw [set_get_other hne] at g1'
          exact ⟨i, rfl, g1', g2⟩
        · simp at hx
          subst hx
          exact ⟨b, rfl, hb, hbt⟩
      · rintro ⟨i, rfl, g1, g2⟩
        by_cases hne : b = i
        · subst hne; exact .inr (by simp)
        · refine .inl ((g.mem _).2 ⟨i, rfl, ?_, g2⟩)
          show (s.1.set b true)[i]? = some false
          rw [set_get_other hne]; exact g1
    · by_cases hk : k < ns.length
      · rw [List.getElem?_append_left hk] at hx
        rcases g.prd k x hx with g1 | ⟨j, y, g1, g2, g3⟩
        · exact .inr ⟨ns.length, b, hk, by simp, g1⟩
        · exact .inr ⟨j, y, g1, by rw [List.getElem?_append_left (List.getElem?_eq_some_iff.1 g2).1]; exact g2, g3⟩
      · rw [List.getElem?_append_right (by omega)] at hx
        have hk0 : k - ns.length = 0 := by
          have := (List.getElem?_eq_some_iff.1 hx).1
          simp at this; omega
        rw [hk0] at hx
        simp at hx
        exact .inl hx.symm

/-- The order of a function's blocks: the first one is 0; all that are reached, once each; behind one of its preds. -/
structure IsOrder (sc : Int → List Int) (N : Nat) (l : List Int) : Prop where
  head : ∃ T, l = 0 :: T
  nd : l.Pairwise (· ≠ ·)
  mem : ∀ x : Int, x ∈ l ↔ 0 ≤ x ∧ x < N ∧ Rch sc (-1) x
  prd : ∀ (k : Nat) (x : Int), l[k + 1]? = some x → ∃ (j : Nat) (y : Int), j < k + 1 ∧ l[j]? = some y ∧ x ∈ sc y

theorem dfs0_order (hN : 1 ≤ N) : IsOrder sc N (dfs0 sc N).2.reverse := by
  have h0 := get_replicate (N := N) (k := 0) (by omega)
  obtain ⟨ns, g, hms⟩ := dfs_new hsc N 0 _ (inv0 N) h0
  obtain ⟨ms, rfl⟩ := hms (by omega)
  have hr := dfs0_reach hsc hN
  have hout : (dfs0 sc N).2 = ms ++ [(0 : Int)] := by
    have := g.out
    show (dfs sc N (0 : Nat) (List.replicate N false, [])).2 = _
    rw [this]; rfl
  have hm : ∀ x : Int, x ∈ ms ++ [(0 : Int)] ↔ 0 ≤ x ∧ x < N ∧ Rch sc (-1) x := fun x => by
    rw [show ((0 : Int)) = (((0 : Nat)) : Int) from rfl, g.mem x]
    constructor
    · rintro ⟨i, rfl, g1, g2⟩
      have hi : i < N := by
        have := (List.getElem?_eq_some_iff.1 g1).1
        simpa using this
      exact ⟨by omega, by omega, (hr.2 i hi).1 g2⟩
    · rintro ⟨hx0, hxN, hx⟩
      obtain ⟨i, rfl⟩ : ∃ i : Nat, x = i := ⟨x.toNat, by omega⟩
      exact ⟨i, rfl, get_replicate (by omega), (hr.2 i (by omega)).2 hx⟩
  rw [hout]
  refine ⟨⟨ms.reverse, by simp⟩, ?_, fun x => by rw [List.mem_reverse]; exact hm x, fun k x hx => ?_⟩
  · rw [List.pairwise_reverse]
    exact g.nd.imp fun h => Ne.symm h
  · have hk : k + 1 < (ms ++ [(0 : Int)]).reverse.length := (List.getElem?_eq_some_iff.1 hx).1
    rw [List.length_reverse] at hk
    have hlen : (ms ++ [(0 : Int)]).length = ms.length + 1 := by simp
    rw [List.getElem?_reverse hk] at hx
    rcases g.prd _ x hx with e | ⟨j, y, g1, g2, g3⟩
    · exfalso
      subst e
      have hz : (ms ++ [(((0 : Nat)) : Int)])[ms.length]? = some (((0 : Nat)) : Int) := by simp
      obtain ⟨i1, e1⟩ := List.getElem?_eq_some_iff.1 hx
      obtain ⟨i2, e2⟩ := List.getElem?_eq_some_iff.1 hz
      have := List.pairwise_iff_getElem.1 g.nd _ _ i1 i2 (by omega)
      exact this (e1.trans e2.symm)
    · have hj := (List.getElem?_eq_some_iff.1 g2).1
      have hj' : j < (ms ++ [(0 : Int)]).length := hj
      refine ⟨(ms ++ [(0 : Int)]).length - 1 - j, y, by omega, ?_, g3⟩
      rw [List.getElem?_reverse (by omega), show (ms ++ [(0 : Int)]).length - 1 - ((ms ++ [(0 : Int)]).length - 1 - j) = j by omega]
      exact g2
end
end

end Go.Proofs.YtnjmlhokkhkaaaaGreatDoor
