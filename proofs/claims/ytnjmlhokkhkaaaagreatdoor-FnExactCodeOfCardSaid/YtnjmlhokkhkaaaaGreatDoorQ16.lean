/- Gives, joined. -/
import Derived.Test.YtnjmlhokkhkaaaaGreatDoorQ2
import Derived.Test.YtnjmlhokkhkaaaaGreatDoorQ10
import Derived.Test.YtnjmlhokkhkaaaaGreatDoorQ15
namespace Go.Proofs.YtnjmlhokkhkaaaaGreatDoor

/- l5Gives of the model: what a block gives. -/
section
open Go.ChangeShapes Go.WideShapes Go.ChangeAt Go.RowKit Go.Joins

set_option maxHeartbeats 400000 in
theorem l5Tail_any (v0 v1 v3 : Value) (A : Option Addr) (n c : Nat) (a b d e : Int) (w : World) (hn : n ≤ 1000) :
    Calls Tryz.prog 62 #[.agg #[v0, v1, .slice A n c, v3, .int .i64 a, .int .i64 b, .int .i64 d, .int .i64 e]] w fun r w' => r = .returned (.int .i64 (2 + (n : Int))) ∧ Below w.heap.size w w' := by
  go_enter Tryz.func62, Tryz.ntmps62
  go_wp2
  go_ret
  exact ⟨by go_num, (Below.refl _ _).alloc (Nat.le_refl _) _⟩

set_option maxRecDepth 10000 in
set_option maxHeartbeats 2000000 in
theorem l5Gives_any (f : FunD) (v : Value) (k : Nat) (x : BlockD) (w : World) (Z : Zn) (hp : FunP f) (hv : EFun w Z f v) (hD : ∀ b, Z.D b → b < w.heap.size) (hxk : f.blocks[k]? = some x) :
    Calls Tryz.prog 33 #[v, .int .i64 k] w (GivesTwo (blkP f k x) w) := by
  obtain ⟨u, rfl, hle, A, c, rfl, hx⟩ := hv
  obtain ⟨pn, hpn⟩ : ∃ n : Nat, f.params = n := ⟨f.params.toNat, by have := hp.1.2.2.1.1; omega⟩
  have hpn6 : pn ≤ 6 := by have := hp.1.2.2.1.2; omega
  have HPN := Lib.hid hpn
  have hlt : k < f.blocks.length := (List.getElem?_eq_some_iff.1 hxk).1
  have hlt' : (k : Int) < (f.blocks.length : Int) := by omega
  have hk0 : 0 ≤ (k : Int) := by omega
  obtain ⟨b, off, rfl, hDb, hrow⟩ := hx (by intro h; rw [h] at hlt; simp at hlt)
  obtain ⟨cs, hE, hcs⟩ := hrow k x hxk
  have hbl := hD b hDb
  obtain ⟨v0, v1, v2, v3, rfl, r0, r1, r2, r3⟩ := hE
  obtain ⟨_, A0, q0, rfl, h0⟩ := r0
  obtain ⟨_, A1, q1, rfl, h1⟩ := r1
  obtain ⟨_, A2, q2, rfl, h2⟩ := r2
  obtain ⟨_, A3, q3, rfl, h3⟩ := r3
  have hB3 : Below w.heap.size w (((w.alloc (.cells #[.int .i64 pn, .int .i64 f.names, .slice (some ⟨b, off, none⟩) f.blocks.length c] 26)).alloc (.cells #[] 2)).alloc (.cells #[] 2)) := (((Below.refl _ _).alloc (Nat.le_refl _) _).alloc (by simp only [World.size_alloc]; omega) _).alloc (by simp only [World.size_alloc]; omega) _
  have c0 : ((((w.alloc (.cells #[.int .i64 pn, .int .i64 f.names, .slice (some ⟨b, off, none⟩) f.blocks.length c] 26)).alloc (.cells #[] 2)).alloc (.cells #[] 2))).cell? ⟨b, off + k * 8, none⟩ = some (.slice A0 x.phis.length q0) := (hB3.cell (p := ⟨b, _, none⟩) hbl).trans (hcs 0 _ rfl).1
  have c1 : ((((w.alloc (.cells #[.int .i64 pn, .int .i64 f.names, .slice (some ⟨b, off, none⟩) f.blocks.length c] 26)).alloc (.cells #[] 2)).alloc (.cells #[] 2))).cell? ⟨b, off + k * 8 + 1, none⟩ = some (.slice A1 x.head.length q1) := (hB3.cell (p := ⟨b, _, none⟩) hbl).trans (hcs 1 _ rfl).1
  have c2 : ((((w.alloc (.cells #[.int .i64 pn, .int .i64 f.names, .slice (some ⟨b, off, none⟩) f.blocks.length c] 26)).alloc (.cells #[] 2)).alloc (.cells #[] 2))).cell? ⟨b, off + k * 8 + 2, none⟩ = some (.slice A2 x.body.length q2) := (hB3.cell (p := ⟨b, _, none⟩) hbl).trans (hcs 2 _ rfl).1
  have c3 : ((((w.alloc (.cells #[.int .i64 pn, .int .i64 f.names, .slice (some ⟨b, off, none⟩) f.blocks.length c] 26)).alloc (.cells #[] 2)).alloc (.cells #[] 2))).cell? ⟨b, off + k * 8 + 3, none⟩ = some (.slice A3 x.tail.length q3) := (hB3.cell (p := ⟨b, _, none⟩) hbl).trans (hcs 3 _ rfl).1
  have c4 : ((((w.alloc (.cells #[.int .i64 pn, .int .i64 f.names, .slice (some ⟨b, off, none⟩) f.blocks.length c] 26)).alloc (.cells #[] 2)).alloc (.cells #[] 2))).cell? ⟨b, off + k * 8 + 4, none⟩ = some (.int .i64 x.fin.k) := (hB3.cell (p := ⟨b, _, none⟩) hbl).trans (hcs 4 _ rfl).1
  have c5 : ((((w.alloc (.cells #[.int .i64 pn, .int .i64 f.names, .slice (some ⟨b, off, none⟩) f.blocks.length c] 26)).alloc (.cells #[] 2)).alloc (.cells #[] 2))).cell? ⟨b, off + k * 8 + 5, none⟩ = some (.int .i64 x.fin.a) := (hB3.cell (p := ⟨b, _, none⟩) hbl).trans (hcs 5 _ rfl).1
  have c6 : ((((w.alloc (.cells #[.int .i64 pn, .int .i64 f.names, .slice (some ⟨b, off, none⟩) f.blocks.length c] 26)).alloc (.cells #[] 2)).alloc (.cells #[] 2))).cell? ⟨b, off + k * 8 + 6, none⟩ = some (.int .i64 x.fin.t) := (hB3.cell (p := ⟨b, _, none⟩) hbl).trans (hcs 6 _ rfl).1
  have c7 : ((((w.alloc (.cells #[.int .i64 pn, .int .i64 f.names, .slice (some ⟨b, off, none⟩) f.blocks.length c] 26)).alloc (.cells #[] 2)).alloc (.cells #[] 2))).cell? ⟨b, off + k * 8 + 7, none⟩ = some (.int .i64 x.fin.l) := (hB3.cell (p := ⟨b, _, none⟩) hbl).trans (hcs 7 _ rfl).1
  clear hB3
  have H0 := Lib.hid h0
  have H1 := Lib.hid h1
  have H2 := Lib.hid h2
  have H3 := Lib.hid h3
  have hbP := hp.1.2.2.2.2 k x hxk
  have HBd := Lib.hid hbP.2.2.2.2
  have hl0 := (hp.2.2.2 k x hxk).1
  have hl1 := hbP.2.1.1
  have hl3 := hbP.2.2.1.1
  have hl2 := hbP.2.2.2.1
  rw [hpn]
  clear hcs hrow hx h0 h1 h2 h3 hbP hp hpn hxk
  go_enter Tryz.func33, Tryz.ntmps33
  go_wp2_with fail
  obtain ⟨q, hq⟩ : ∃ q, q = w.heap.size + 3 := ⟨_, rfl⟩
  obtain ⟨B, hB⟩ : ∃ B, B = w.heap.size + 1 := ⟨_, rfl⟩
  obtain ⟨a0, ha0⟩ : ∃ a : Value, a = .slice (some ⟨w.heap.size + 1, 0, none⟩) 0 0 := ⟨_, rfl⟩
  obtain ⟨b0, hb0⟩ : ∃ a : Value, a = .slice (some ⟨w.heap.size + 2, 0, none⟩) 0 0 := ⟨_, rfl⟩
  have hTk : Two ((((w.alloc (.cells #[.int .i64 pn, .int .i64 f.names, .slice (some ⟨b, off, none⟩) f.blocks.length c] 26)).alloc (.cells #[] 2)).alloc (.cells #[] 2)).alloc (.cells #[(.slice A0 x.phis.length q0), (.slice A1 x.head.length q1), (.slice A2 x.body.length q2), (.slice A3 x.tail.length q3), (.int .i64 x.fin.k), (.int .i64 x.fin.a), (.int .i64 x.fin.t), (.int .i64 x.fin.l)] 60)) B a0 b0 [] := by
    refine ⟨?_, ?_, ?_⟩
    · rw [ha0]
      exact ((OI_lit0 (B := B) _ (by simp) (by omega)).below ((Below.refl _ _).alloc (Nat.le_refl _) _) (fun k hk => by simp [Value.ownBlock] at hk; simp; omega)).below ((Below.refl _ _).alloc (Nat.le_refl _) _) (fun k hk => by simp [Value.ownBlock] at hk; simp; omega)
    · rw [hb0]
      exact (OI_lit0 (B := B) _ (by simp) (by omega)).below ((Below.refl _ _).alloc (Nat.le_refl _) _) (fun k hk => by simp [Value.ownBlock] at hk; simp; omega)
    · intro k' h1 h2
      rw [ha0] at h1
      rw [hb0] at h2
      simp [Value.ownBlock] at h1 h2
      omega
  have hno : ¬ Own2 a0 b0 q ∧ ¬ Own2 a0 b0 w.heap.size := by
    unfold Own2
    rw [ha0, hb0]
    simp [Value.ownBlock]
    omega
  have hBk : Below w.heap.size w ((((w.alloc (.cells #[.int .i64 pn, .int .i64 f.names, .slice (some ⟨b, off, none⟩) f.blocks.length c] 26)).alloc (.cells #[] 2)).alloc (.cells #[] 2)).alloc (.cells #[(.slice A0 x.phis.length q0), (.slice A1 x.head.length q1), (.slice A2 x.body.length q2), (.slice A3 x.tail.length q3), (.int .i64 x.fin.k), (.int .i64 x.fin.a), (.int .i64 x.fin.t), (.int .i64 x.fin.l)] 60)) := ((((Below.refl _ _).alloc (Nat.le_refl _) _).alloc (by simp only [World.size_alloc]; omega) _).alloc (by simp only [World.size_alloc]; omega) _).alloc (by simp only [World.size_alloc]; omega) _
  have hkh : (((((w.alloc (.cells #[.int .i64 pn, .int .i64 f.names, .slice (some ⟨b, off, none⟩) f.blocks.length c] 26)).alloc (.cells #[] 2)).alloc (.cells #[] 2)).alloc (.cells #[(.slice A0 x.phis.length q0), (.slice A1 x.head.length q1), (.slice A2 x.body.length q2), (.slice A3 x.tail.length q3), (.int .i64 x.fin.k), (.int .i64 x.fin.a), (.int .i64 x.fin.t), (.int .i64 x.fin.l)] 60))).heap[q]? = some (.cells #[(.slice A0 x.phis.length q0), (.slice A1 x.head.length q1), (.slice A2 x.body.length q2), (.slice A3 x.tail.length q3), (.int .i64 x.fin.k), (.int .i64 x.fin.a), (.int .i64 x.fin.t), (.int .i64 x.fin.l)] 60 (0, 0)) := by
    have h := heap_alloc_new (((w.alloc (.cells #[.int .i64 pn, .int .i64 f.names, .slice (some ⟨b, off, none⟩) f.blocks.length c] 26)).alloc (.cells #[] 2)).alloc (.cells #[] 2)) (.cells #[(.slice A0 x.phis.length q0), (.slice A1 x.head.length q1), (.slice A2 x.body.length q2), (.slice A3 x.tail.length q3), (.int .i64 x.fin.k), (.int .i64 x.fin.a), (.int .i64 x.fin.t), (.int .i64 x.fin.l)] 60)
    simp only [World.size_alloc] at h
    rw [hq]
    exact h
  have hfp : (((((w.alloc (.cells #[.int .i64 pn, .int .i64 f.names, .slice (some ⟨b, off, none⟩) f.blocks.length c] 26)).alloc (.cells #[] 2)).alloc (.cells #[] 2)).alloc (.cells #[(.slice A0 x.phis.length q0), (.slice A1 x.head.length q1), (.slice A2 x.body.length q2), (.slice A3 x.tail.length q3), (.int .i64 x.fin.k), (.int .i64 x.fin.a), (.int .i64 x.fin.t), (.int .i64 x.fin.l)] 60))).cell? ⟨w.heap.size, 0, none⟩ = some (.int .i64 pn) := by go_simp
  have hqk : q < (((((w.alloc (.cells #[.int .i64 pn, .int .i64 f.names, .slice (some ⟨b, off, none⟩) f.blocks.length c] 26)).alloc (.cells #[] 2)).alloc (.cells #[] 2)).alloc (.cells #[(.slice A0 x.phis.length q0), (.slice A1 x.head.length q1), (.slice A2 x.body.length q2), (.slice A3 x.tail.length q3), (.int .i64 x.fin.k), (.int .i64 x.fin.a), (.int .i64 x.fin.t), (.int .i64 x.fin.l)] 60))).heap.size := by simp; omega
  have hfk : w.heap.size < (((((w.alloc (.cells #[.int .i64 pn, .int .i64 f.names, .slice (some ⟨b, off, none⟩) f.blocks.length c] 26)).alloc (.cells #[] 2)).alloc (.cells #[] 2)).alloc (.cells #[(.slice A0 x.phis.length q0), (.slice A1 x.head.length q1), (.slice A2 x.body.length q2), (.slice A3 x.tail.length q3), (.int .i64 x.fin.k), (.int .i64 x.fin.a), (.int .i64 x.fin.t), (.int .i64 x.fin.l)] 60))).heap.size := by simp; omega
  have hBB : B ≤ (((((w.alloc (.cells #[.int .i64 pn, .int .i64 f.names, .slice (some ⟨b, off, none⟩) f.blocks.length c] 26)).alloc (.cells #[] 2)).alloc (.cells #[] 2)).alloc (.cells #[(.slice A0 x.phis.length q0), (.slice A1 x.head.length q1), (.slice A2 x.body.length q2), (.slice A3 x.tail.length q3), (.int .i64 x.fin.k), (.int .i64 x.fin.a), (.int .i64 x.fin.t), (.int .i64 x.fin.l)] 60))).heap.size := by simp; omega
  rw [← hq, ← ha0, ← hb0]
  generalize ((((w.alloc (.cells #[.int .i64 pn, .int .i64 f.names, .slice (some ⟨b, off, none⟩) f.blocks.length c] 26)).alloc (.cells #[] 2)).alloc (.cells #[] 2)).alloc (.cells #[(.slice A0 x.phis.length q0), (.slice A1 x.head.length q1), (.slice A2 x.body.length q2), (.slice A3 x.tail.length q3), (.int .i64 x.fin.k), (.int .i64 x.fin.a), (.int .i64 x.fin.t), (.int .i64 x.fin.l)] 60)) = wk at *
  have HBle : Hid (w.heap.size ≤ B) := by rw [Hid, hB]; omega
  have HQC : Hid (∀ wr a b, Adds2 wk wr a0 b0 a b → (∀ (o : Nat) u, (#[(.slice A0 x.phis.length q0), (.slice A1 x.head.length q1), (.slice A2 x.body.length q2), (.slice A3 x.tail.length q3), (.int .i64 x.fin.k), (.int .i64 x.fin.a), (.int .i64 x.fin.t), (.int .i64 x.fin.l)] : Array Value)[o]? = some u → wr.cell? ⟨q, o, none⟩ = some u) ∧ Below w.heap.size w wr ∧ B ≤ wr.heap.size) := fun wr a b ha =>
    ⟨fun o u hu => (ha.cellA hqk hno.1 o).trans ((cell_of_row wk q o _ _ (0, 0) hkh).trans hu), hBk.trans (ha.fw.toBelow (Nat.le_of_lt hfk) fun g hg ho => by
      unfold Own2 at ho
      rw [ha0, hb0] at ho
      simp [Value.ownBlock] at ho
      omega), Nat.le_trans hBB ha.fw.size⟩
  have HFP : Hid (∀ wr a b, Adds2 wk wr a0 b0 a b → wr.cell? ⟨w.heap.size, 0, none⟩ = some (.int .i64 pn)) := fun wr a b ha => (ha.cellA hfk hno.2 0).trans hfp
  have HTk := Lib.hid hTk
  clear hTk hno hBk hkh hfp hqk hfk hBB hq hB ha0 hb0 c0 c1 c2 c3 c4 c5 c6 c7
  obtain ⟨P, hP⟩ : ∃ P, P = if k = 0 then pn else 0 := ⟨_, rfl⟩
  have hP6 : P ≤ 6 := by rw [hP]; split <;> omega
  have HPAR : Hid (parG P = if k = 0 then parG pn else []) := by rw [Hid, hP]; split <;> rfl
  go_loopw [6, 7, 9] (fun a b i wr => ∃ j : Nat, j ≤ P ∧ i = .int .i64 j ∧ Hid (Two wr B a b (parG j)) ∧ Hid (Adds2 wk wr a0 b0 a b)) (fun _ _ i _ => P - (intOf i).toNat)
  case atStart => exact ⟨0, Nat.zero_le _, rfl, HTk.out, Adds2.refl _ _ _⟩
  clear HTk
  case round =>
    obtain ⟨j, hj, rfl, HT, HA⟩ := hrel
    obtain ⟨hqc, hbw, hBw⟩ := HQC.out wr _ _ HA.out
    have gp := HFP.out wr _ _ HA.out
    have HBw := Lib.hid hbw
    clear hbw hqc
    by_cases hjl : j < P
    case pos =>
      have hk1 : k = 0 := by
        rcases Nat.eq_zero_or_pos k with h | h
        · exact h
        · rw [hP, if_neg (by omega)] at hjl; omega
      rw [hP, if_pos hk1] at hjl
      have hjn : (j : Int) < (pn : Int) := by omega
      have hkb : ((k : Int) == 0) = true := by simp; omega
      obtain ⟨EV, hEV⟩ : ∃ E, E = parG j := ⟨_, rfl⟩
      rw [← hEV] at HT
      have HEV := Lib.hid hEV
      have HL := Lib.hid (Two.len (evs := EV) (by rw [hEV, parG_len]; omega))
      have HPP := Lib.hid hP
      have HK1 := Lib.hid hk1
      clear hEV hP hk1
      go_wp2_with (first
        | (at_builtin; (refine wpList_append_int rfl (.tmp 31) (.tmp 33) rfl B u6 (EV.map (·.n)) j wr rfl HT.out.1 rfl hBw HL.out.1 ?_; intro a' w2 hown2 hg2 hat2; have HO2 := Lib.hid hown2; have HG2 := Lib.hid hg2; have HT2 := Lib.hid hat2; have HM := Lib.hid (HT.out.mid hg2); have HA2 := Lib.hid (HA.out.left hg2 hat2); clear hown2 hg2 hat2))
        | (at_builtin; go_must (refine wpList_append_int rfl (.tmp 35) (.tmp 36) rfl B u7 (EV.map (·.pl.src)) (0) w2 rfl HM.out rfl (Nat.le_trans hBw HG2.out.size) HL.out.2 ?_; intro b' w3 hown3 hg3 hat3; have HO3 := Lib.hid hown3; have HG3 := Lib.hid hg3; have HT3 := Lib.hid hat3; clear hown3 hg3 hat3)))
      have HT9 : Hid (Two w3 B a' b' (parG (j + 1))) := Two.more HT.out HO2.out HG2.out HT2.out HO3.out HG3.out HT3.out (k := 0) (by rw [parG_succ, ← HEV.out])
      have HA9 := Lib.hid (HA2.out.right HG3.out HT3.out)
      clear HO2 HG2 HT2 HO3 HG3 HT3 HM HA2 HT HA
      have hjP : j + 1 ≤ P := by rw [HPP.out, if_pos HK1.out]; omega
      go_roundw
      case rel => exact ⟨j + 1, hjP, by go_num, HT9.out, HA9.out⟩
      case measure => have := HPP.out; simp [intOf]; omega
    obtain rfl : j = P := by omega
    have HT1 : Hid (Two wr B u6 u7 (parG j)) := HT.out
    have HA1 : Hid (Adds2 wk wr a0 b0 u6 u7) := HA.out
    obtain ⟨E1, hE1⟩ : ∃ E, E = parG j := ⟨_, rfl⟩
    rw [← hE1] at HT1
    have HE1 := Lib.hid hE1
    have HEL1 : Hid (E1.length ≤ 100) := by rw [Hid, hE1, parG_len]; omega
    clear HT HA hE1
    have hcond : (decide ((j : Int) < (pn : Int)) = true ∧ ((k : Int) == 0) = false) ∨ decide ((j : Int) < (pn : Int)) = false := by
      by_cases h : (j : Int) < (pn : Int)
      · left
        refine ⟨by simpa using h, ?_⟩
        have : ¬ k = 0 := fun e => by rw [if_pos e] at hP; omega
        simp; omega
      · right; simpa using h
    clear hP
    rcases hcond with ⟨hc1, hc2⟩ | hc1
    case inl =>
      have hc1' : (j : Int) < (pn : Int) := by simpa using hc1
      clear hc1
      go_wp2_with fail
      go_loopw [6, 7, 10] (fun a b i wr => ∃ j : Nat, j ≤ x.phis.length ∧ i = .int .i64 j ∧ Hid (Two wr B a b (E1 ++ phG (k : Int) x.phis j)) ∧ Hid (Adds2 wk wr a0 b0 a b)) (fun _ _ i _ => x.phis.length - (intOf i).toNat)
      case atStart => exact ⟨0, Nat.zero_le _, rfl, HT1.out.to (List.append_nil _), HA1.out⟩
      clear HT1 HA1
      case round =>
        obtain ⟨j, hj, rfl, HT, HA⟩ := hrel
        obtain ⟨hqc, hbw, hBw⟩ := HQC.out wr _ _ HA.out
        have HBw := Lib.hid hbw
        clear hbw
        have g0 := hqc 0 _ rfl
        by_cases hjl : j < x.phis.length
        case neg =>
          obtain rfl : j = x.phis.length := by omega
          obtain ⟨E2, hE2⟩ : ∃ E, E = E1 ++ phG (k : Int) x.phis x.phis.length := ⟨_, rfl⟩
          rw [← hE2] at HT
          have HE2 := Lib.hid hE2
          have HEL2 : Hid (E2.length ≤ 300) := by
            have h1 := HEL1.out
            have h2 := phG_le (k : Int) x.phis x.phis.length
            rw [Hid, hE2, List.length_append]
            exact Nat.le_trans (Nat.add_le_add h1 h2) (by omega)
          have HT2 : Hid (Two wr B u6 u7 E2) := HT.out
          have HA2 : Hid (Adds2 wk wr a0 b0 u6 u7) := HA.out
          clear HT HA hE2 hqc
          go_wp2_with fail
          go_loopw [6, 7, 11] (fun a b i wr => ∃ j : Nat, j ≤ x.head.length ∧ i = .int .i64 j ∧ Hid (Two wr B a b (E2 ++ mvG (k : Int) 1 x.head j)) ∧ Hid (Adds2 wk wr a0 b0 a b)) (fun _ _ i _ => x.head.length - (intOf i).toNat)
          case atStart => exact ⟨0, Nat.zero_le _, rfl, HT2.out.to (List.append_nil _), HA2.out⟩
          clear HT2 HA2
          case round =>
            obtain ⟨j, hj, rfl, HT, HA⟩ := hrel
            obtain ⟨hqc, hbw, hBw⟩ := HQC.out wr _ _ HA.out
            have HBw := Lib.hid hbw
            clear hbw
            have g1 := hqc 1 _ rfl
            by_cases hjl : j < x.head.length
            case neg =>
              obtain rfl : j = x.head.length := by omega
              obtain ⟨E3, hE3⟩ : ∃ E, E = E2 ++ mvG (k : Int) 1 x.head x.head.length := ⟨_, rfl⟩
              rw [← hE3] at HT
              have HE3 := Lib.hid hE3
              have HEL3 : Hid (E3.length ≤ 500) := by
                have h1 := HEL2.out
                have h2 := mvG_le (k : Int) 1 x.head x.head.length
                rw [Hid, hE3, List.length_append]
                exact Nat.le_trans (Nat.add_le_add h1 h2) (by omega)
              have HT3 : Hid (Two wr B u6 u7 E3) := HT.out
              have HA3 : Hid (Adds2 wk wr a0 b0 u6 u7) := HA.out
              clear HT HA hE3 hqc
              go_wp2_with fail
              go_loopw [6, 7, 12] (fun a b i wr => ∃ j : Nat, j ≤ x.body.length ∧ i = .int .i64 j ∧ Hid (Two wr B a b (E3 ++ insG (k : Int) x.body j)) ∧ Hid (Adds2 wk wr a0 b0 a b)) (fun _ _ i _ => x.body.length - (intOf i).toNat)
              case atStart => exact ⟨0, Nat.zero_le _, rfl, HT3.out.to (List.append_nil _), HA3.out⟩
              clear HT3 HA3
              case round =>
                obtain ⟨j, hj, rfl, HT, HA⟩ := hrel
                obtain ⟨hqc, hbw, hBw⟩ := HQC.out wr _ _ HA.out
                have HBw := Lib.hid hbw
                clear hbw
                have g2 := hqc 2 _ rfl
                by_cases hjl : j < x.body.length
                case neg =>
                  obtain rfl : j = x.body.length := by omega
                  obtain ⟨E4, hE4⟩ : ∃ E, E = E3 ++ insG (k : Int) x.body x.body.length := ⟨_, rfl⟩
                  rw [← hE4] at HT
                  have HE4 := Lib.hid hE4
                  have HEL4 : Hid (E4.length ≤ 700) := by
                    have h1 := HEL3.out
                    have h2 := insG_le (k : Int) x.body x.body.length
                    rw [Hid, hE4, List.length_append]
                    exact Nat.le_trans (Nat.add_le_add h1 h2) (by omega)
                  have HT4 : Hid (Two wr B u6 u7 E4) := HT.out
                  have HA4 : Hid (Adds2 wk wr a0 b0 u6 u7) := HA.out
                  clear HT HA hE4 hqc
                  go_wp2_with fail
                  go_loopw [6, 7, 13] (fun a b i wr => ∃ j : Nat, j ≤ x.tail.length ∧ i = .int .i64 j ∧ Hid (Two wr B a b (E4 ++ mvG (k : Int) (2 + (x.body.length : Int)) x.tail j)) ∧ Hid (Adds2 wk wr a0 b0 a b)) (fun _ _ i _ => x.tail.length - (intOf i).toNat)
                  case atStart => exact ⟨0, Nat.zero_le _, rfl, HT4.out.to (List.append_nil _), HA4.out⟩
                  clear HT4 HA4
                  case round =>
                    obtain ⟨j, hj, rfl, HT, HA⟩ := hrel
                    obtain ⟨hqc, hbw, hBw⟩ := HQC.out wr _ _ HA.out
                    have HBw := Lib.hid hbw
                    clear hbw
                    have g3 := hqc 3 _ rfl
                    by_cases hjl : j < x.tail.length
                    case neg =>
                      obtain rfl : j = x.tail.length := by omega
                      obtain ⟨E5, hE5⟩ : ∃ E, E = E4 ++ mvG (k : Int) (2 + (x.body.length : Int)) x.tail x.tail.length := ⟨_, rfl⟩
                      rw [← hE5] at HT
                      have HE5 := Lib.hid hE5
                      have HEL5 : Hid (E5.length ≤ 1000) := by
                        have h1 := HEL4.out
                        have h2 := mvG_le (k : Int) (2 + (x.body.length : Int)) x.tail x.tail.length
                        rw [Hid, hE5, List.length_append]
                        exact Nat.le_trans (Nat.add_le_add h1 h2) (by omega)
                      have HT5 : Hid (Two wr B u6 u7 E5) := HT.out
                      have HA5 : Hid (Adds2 wk wr a0 b0 u6 u7) := HA.out
                      clear HT HA hE5 hqc
                      have HTF : Hid (Two wr B u6 u7 (blkP f k x)) := HT5.out.to (by
                        rw [HE5.out, HE4.out, HE3.out, HE2.out, HE1.out, HPAR.out]
                        unfold blkP blkG
                        rw [HPN.out]
                        simp only [List.append_assoc]
                        rfl)
                      go_wp2_with fail
                      refine bodyPost_ret (v := .tuple #[u6, u7]) (results_tmp2 Tryz.results33 _ _ _) rfl ⟨u6, u7, rfl, ?_, HBw.out⟩
                      exact ⟨World.ownsRow.mono HTF.out.1 HBle.out, World.ownsRow.mono HTF.out.2.1 HBle.out, HTF.out.2.2⟩
                    have hxj : x.tail[j]? = some x.tail[j] := List.getElem?_eq_getElem hjl
                    generalize x.tail[j] = y at hxj
                    obtain ⟨b', off', rfl, hDb', hrow'⟩ := H3.out (by intro h; rw [h] at hjl; simp at hjl)
                    obtain ⟨ds, hE, hds⟩ := hrow' j y hxj
                    have hbl' := hD b' hDb'
                    have hjl' : (j : Int) < (x.tail.length : Int) := by omega
                    have Hxj := Lib.hid hxj
                    obtain rfl := hE
                    have d0 : wr.cell? ⟨b', off' + j * 2, none⟩ = some (.int .i64 y.dst) := (HBw.out.cell (p := ⟨b', _, none⟩) hbl').trans (hds 0 _ rfl).1
                    have d1 : wr.cell? ⟨b', off' + j * 2 + 1, none⟩ = some (.int .i64 y.src) := (HBw.out.cell (p := ⟨b', _, none⟩) hbl').trans (hds 1 _ rfl).1
                    clear hds hrow' hxj hqc
                    have hn2 : x.body.length ≤ 1000 := by omega
                    obtain ⟨EV, hEV⟩ : ∃ E, E = E4 ++ mvG (k : Int) (2 + (x.body.length : Int)) x.tail j := ⟨_, rfl⟩
                    rw [← hEV] at HT
                    have HEV := Lib.hid hEV
                    have HL := Lib.hid (Two.len (evs := EV) (by have h1 := HEL4.out; have h2 := mvG_le (k : Int) (2 + (x.body.length : Int)) x.tail j; rw [hEV, List.length_append]; omega))
                    clear hEV
                    go_wp2_with (first
                      | (at_builtin; (refine wpList_append_int rfl (.tmp 111) (.tmp 118) rfl B u6 (EV.map (·.n)) y.dst wr rfl HT.out.1 rfl hBw HL.out.1 ?_; intro a' w2 hown2 hg2 hat2; have HO2 := Lib.hid hown2; have HG2 := Lib.hid hg2; have HT2 := Lib.hid hat2; have HM := Lib.hid (HT.out.mid hg2); have HA2 := Lib.hid (HA.out.left hg2 hat2); have e8 := (HQC.out w2 _ _ HA2.out).1; have b0 := e8 0 _ rfl; have b1 := e8 1 _ rfl; have b2 := e8 2 _ rfl; have b3 := e8 3 _ rfl; have b4 := e8 4 _ rfl; have b5 := e8 5 _ rfl; have b6 := e8 6 _ rfl; have b7 := e8 7 _ rfl; clear e8; clear hown2 hg2 hat2))
                      | (go_at_call 62; refine (l5Tail_any _ _ _ _ _ _ _ _ _ _ _ hn2).mono ?_; rintro e w5 ⟨rfl, hb5⟩; have HM5 := Lib.hid (HM.out.below hb5 fun k hk => (HM.out.lt k hk).2); have HO5 := Lib.hid (HO2.out.below hb5 fun k hk => (HO2.out.lt k hk).2); have HB5 := Lib.hid hb5; clear hb5) | (at_builtin; go_must (refine wpList_append_int rfl (.tmp 120) (.tmp 123) rfl B u7 (EV.map (·.pl.src)) (2 + (x.body.length : Int)) w5 rfl HM5.out rfl (Nat.le_trans (Nat.le_trans hBw HG2.out.size) HB5.out.size) HL.out.2 ?_; intro b' w3 hown3 hg3 hat3; have HO3 := Lib.hid hown3; have HG3 := Lib.hid hg3; have HT3 := Lib.hid hat3; clear hown3 hg3 hat3)))
                    have HT9 : Hid (Two w3 B a' b' (E4 ++ mvG (k : Int) (2 + (x.body.length : Int)) x.tail (j + 1))) := Two.moreB HT.out HO2.out HG2.out HT2.out HB5.out HO3.out HG3.out HT3.out (k := (k : Int)) (by rw [mvG_succ Hxj.out, ← List.append_assoc, ← HEV.out])
                    have HA9 := Lib.hid ((HA2.out.below HB5.out).right HG3.out HT3.out)
                    clear HO2 HG2 HT2 HO3 HG3 HT3 HM HA2 HT HA
                    go_roundw
                    case rel => exact ⟨j + 1, by omega, by go_num, HT9.out, HA9.out⟩
                    case measure => simp [intOf]; omega
                have hxj : x.body[j]? = some x.body[j] := List.getElem?_eq_getElem hjl
                generalize x.body[j] = y at hxj
                obtain ⟨b', off', rfl, hDb', hrow'⟩ := H2.out (by intro h; rw [h] at hjl; simp at hjl)
                obtain ⟨ds, hE, hds⟩ := hrow' j y hxj
                have hbl' := hD b' hDb'
                have hjl' : (j : Int) < (x.body.length : Int) := by omega
                have Hxj := Lib.hid hxj
                obtain rfl := hE
                have d0 : wr.cell? ⟨b', off' + j * 4, none⟩ = some (.int .i64 y.op) := (HBw.out.cell (p := ⟨b', _, none⟩) hbl').trans (hds 0 _ rfl).1
                have d1 : wr.cell? ⟨b', off' + j * 4 + 1, none⟩ = some (.int .i64 y.v) := (HBw.out.cell (p := ⟨b', _, none⟩) hbl').trans (hds 1 _ rfl).1
                have d2 : wr.cell? ⟨b', off' + j * 4 + 2, none⟩ = some (.int .i64 y.a) := (HBw.out.cell (p := ⟨b', _, none⟩) hbl').trans (hds 2 _ rfl).1
                have d3 : wr.cell? ⟨b', off' + j * 4 + 3, none⟩ = some (.int .i64 y.b) := (HBw.out.cell (p := ⟨b', _, none⟩) hbl').trans (hds 3 _ rfl).1
                clear hds hrow' hxj hqc
                by_cases hyv : y.v = -1
                case pos =>
                  have hyb : (0 : Int) ≤ y.v → False := by omega
                  have hyc : y.v < 0 := by omega
                  have HT3 : Hid (Two wr B u6 u7 (E3 ++ insG (k : Int) x.body (j + 1))) := HT.out.to (by rw [insG_skip Hxj.out hyv])
                  clear HT hyv
                  go_wp2_with fail
                  go_roundw
                  case rel => exact ⟨j + 1, by omega, by go_num, HT3.out, HA.out⟩
                  case measure => simp [intOf]; omega
                have hyc : 0 ≤ y.v := by have := insP_v (HBd.out j y Hxj.out); omega
                have HYV := Lib.hid hyv
                clear hyv
                obtain ⟨EV, hEV⟩ : ∃ E, E = E3 ++ insG (k : Int) x.body j := ⟨_, rfl⟩
                rw [← hEV] at HT
                have HEV := Lib.hid hEV
                have HL := Lib.hid (Two.len (evs := EV) (by have h1 := HEL3.out; have h2 := insG_le (k : Int) x.body j; rw [hEV, List.length_append]; omega))
                clear hEV
                go_wp2_with (first
                  | (at_builtin; (refine wpList_append_int rfl (.tmp 90) (.tmp 97) rfl B u6 (EV.map (·.n)) y.v wr rfl HT.out.1 rfl hBw HL.out.1 ?_; intro a' w2 hown2 hg2 hat2; have HO2 := Lib.hid hown2; have HG2 := Lib.hid hg2; have HT2 := Lib.hid hat2; have HM := Lib.hid (HT.out.mid hg2); have HA2 := Lib.hid (HA.out.left hg2 hat2); clear hown2 hg2 hat2))
                  | (at_builtin; go_must (refine wpList_append_int rfl (.tmp 99) (.tmp 102) rfl B u7 (EV.map (·.pl.src)) (2 + (j : Int)) w2 rfl HM.out rfl (Nat.le_trans hBw HG2.out.size) HL.out.2 ?_; intro b' w3 hown3 hg3 hat3; have HO3 := Lib.hid hown3; have HG3 := Lib.hid hg3; have HT3 := Lib.hid hat3; clear hown3 hg3 hat3)))
                have HT9 : Hid (Two w3 B a' b' (E3 ++ insG (k : Int) x.body (j + 1))) := Two.more HT.out HO2.out HG2.out HT2.out HO3.out HG3.out HT3.out (k := (k : Int)) (by rw [insG_succ Hxj.out HYV.out, ← List.append_assoc, ← HEV.out])
                have HA9 := Lib.hid (HA2.out.right HG3.out HT3.out)
                clear HO2 HG2 HT2 HO3 HG3 HT3 HM HA2 HT HA
                go_roundw
                case rel => exact ⟨j + 1, by omega, by go_num, HT9.out, HA9.out⟩
                case measure => simp [intOf]; omega
            have hxj : x.head[j]? = some x.head[j] := List.getElem?_eq_getElem hjl
            generalize x.head[j] = y at hxj
            obtain ⟨b', off', rfl, hDb', hrow'⟩ := H1.out (by intro h; rw [h] at hjl; simp at hjl)
            obtain ⟨ds, hE, hds⟩ := hrow' j y hxj
            have hbl' := hD b' hDb'
            have hjl' : (j : Int) < (x.head.length : Int) := by omega
            have Hxj := Lib.hid hxj
            obtain rfl := hE
            have d0 : wr.cell? ⟨b', off' + j * 2, none⟩ = some (.int .i64 y.dst) := (HBw.out.cell (p := ⟨b', _, none⟩) hbl').trans (hds 0 _ rfl).1
            have d1 : wr.cell? ⟨b', off' + j * 2 + 1, none⟩ = some (.int .i64 y.src) := (HBw.out.cell (p := ⟨b', _, none⟩) hbl').trans (hds 1 _ rfl).1
            clear hds hrow' hxj hqc
            obtain ⟨EV, hEV⟩ : ∃ E, E = E2 ++ mvG (k : Int) 1 x.head j := ⟨_, rfl⟩
            rw [← hEV] at HT
            have HEV := Lib.hid hEV
            have HL := Lib.hid (Two.len (evs := EV) (by have h1 := HEL2.out; have h2 := mvG_le (k : Int) 1 x.head j; rw [hEV, List.length_append]; omega))
            clear hEV
            go_wp2_with (first
              | (at_builtin; (refine wpList_append_int rfl (.tmp 64) (.tmp 71) rfl B u6 (EV.map (·.n)) y.dst wr rfl HT.out.1 rfl hBw HL.out.1 ?_; intro a' w2 hown2 hg2 hat2; have HO2 := Lib.hid hown2; have HG2 := Lib.hid hg2; have HT2 := Lib.hid hat2; have HM := Lib.hid (HT.out.mid hg2); have HA2 := Lib.hid (HA.out.left hg2 hat2); clear hown2 hg2 hat2))
              | (at_builtin; go_must (refine wpList_append_int rfl (.tmp 73) (.tmp 74) rfl B u7 (EV.map (·.pl.src)) (1) w2 rfl HM.out rfl (Nat.le_trans hBw HG2.out.size) HL.out.2 ?_; intro b' w3 hown3 hg3 hat3; have HO3 := Lib.hid hown3; have HG3 := Lib.hid hg3; have HT3 := Lib.hid hat3; clear hown3 hg3 hat3)))
            have HT9 : Hid (Two w3 B a' b' (E2 ++ mvG (k : Int) 1 x.head (j + 1))) := Two.more HT.out HO2.out HG2.out HT2.out HO3.out HG3.out HT3.out (k := (k : Int)) (by rw [mvG_succ Hxj.out, ← List.append_assoc, ← HEV.out])
            have HA9 := Lib.hid (HA2.out.right HG3.out HT3.out)
            clear HO2 HG2 HT2 HO3 HG3 HT3 HM HA2 HT HA
            go_roundw
            case rel => exact ⟨j + 1, by omega, by go_num, HT9.out, HA9.out⟩
            case measure => simp [intOf]; omega
        have hxj : x.phis[j]? = some x.phis[j] := List.getElem?_eq_getElem hjl
        generalize x.phis[j] = y at hxj
        obtain ⟨b', off', rfl, hDb', hrow'⟩ := H0.out (by intro h; rw [h] at hjl; simp at hjl)
        obtain ⟨ds, hE, hds⟩ := hrow' j y hxj
        have hbl' := hD b' hDb'
        have hjl' : (j : Int) < (x.phis.length : Int) := by omega
        have Hxj := Lib.hid hxj
        obtain ⟨u', rfl, _, A5, q5, rfl, _⟩ := hE
        have d0 : wr.cell? ⟨b', off' + j * 2, none⟩ = some (.int .i64 y.v) := (HBw.out.cell (p := ⟨b', _, none⟩) hbl').trans (hds 0 _ rfl).1
        have d1 : wr.cell? ⟨b', off' + j * 2 + 1, none⟩ = some (.slice A5 y.args.length q5) := (HBw.out.cell (p := ⟨b', _, none⟩) hbl').trans (hds 1 _ rfl).1
        clear hds hrow' hxj hqc
        obtain ⟨EV, hEV⟩ : ∃ E, E = E1 ++ phG (k : Int) x.phis j := ⟨_, rfl⟩
        rw [← hEV] at HT
        have HEV := Lib.hid hEV
        have HL := Lib.hid (Two.len (evs := EV) (by have h1 := HEL1.out; have h2 := phG_le (k : Int) x.phis j; rw [hEV, List.length_append]; omega))
        clear hEV
        go_wp2_with (first
          | (at_builtin; (refine wpList_append_int rfl (.tmp 45) (.tmp 52) rfl B u6 (EV.map (·.n)) y.v wr rfl HT.out.1 rfl hBw HL.out.1 ?_; intro a' w2 hown2 hg2 hat2; have HO2 := Lib.hid hown2; have HG2 := Lib.hid hg2; have HT2 := Lib.hid hat2; have HM := Lib.hid (HT.out.mid hg2); have HA2 := Lib.hid (HA.out.left hg2 hat2); clear hown2 hg2 hat2))
          | (at_builtin; go_must (refine wpList_append_int rfl (.tmp 54) (.tmp 55) rfl B u7 (EV.map (·.pl.src)) (0) w2 rfl HM.out rfl (Nat.le_trans hBw HG2.out.size) HL.out.2 ?_; intro b' w3 hown3 hg3 hat3; have HO3 := Lib.hid hown3; have HG3 := Lib.hid hg3; have HT3 := Lib.hid hat3; clear hown3 hg3 hat3)))
        have HT9 : Hid (Two w3 B a' b' (E1 ++ phG (k : Int) x.phis (j + 1))) := Two.more HT.out HO2.out HG2.out HT2.out HO3.out HG3.out HT3.out (k := (k : Int)) (by rw [phG_succ Hxj.out, ← List.append_assoc, ← HEV.out])
        have HA9 := Lib.hid (HA2.out.right HG3.out HT3.out)
        clear HO2 HG2 HT2 HO3 HG3 HT3 HM HA2 HT HA
        go_roundw
        case rel => exact ⟨j + 1, by omega, by go_num, HT9.out, HA9.out⟩
        case measure => simp [intOf]; omega
    case inr =>
      have hc1' : (pn : Int) ≤ (j : Int) := by simpa using hc1
      clear hc1
      go_wp2_with fail
      go_loopw [6, 7, 10] (fun a b i wr => ∃ j : Nat, j ≤ x.phis.length ∧ i = .int .i64 j ∧ Hid (Two wr B a b (E1 ++ phG (k : Int) x.phis j)) ∧ Hid (Adds2 wk wr a0 b0 a b)) (fun _ _ i _ => x.phis.length - (intOf i).toNat)
      case atStart => exact ⟨0, Nat.zero_le _, rfl, HT1.out.to (List.append_nil _), HA1.out⟩
      clear HT1 HA1
      case round =>
        obtain ⟨j, hj, rfl, HT, HA⟩ := hrel
        obtain ⟨hqc, hbw, hBw⟩ := HQC.out wr _ _ HA.out
        have HBw := Lib.hid hbw
        clear hbw
        have g0 := hqc 0 _ rfl
        by_cases hjl : j < x.phis.length
        case neg =>
          obtain rfl : j = x.phis.length := by omega
          obtain ⟨E2, hE2⟩ : ∃ E, E = E1 ++ phG (k : Int) x.phis x.phis.length := ⟨_, rfl⟩
          rw [← hE2] at HT
          have HE2 := Lib.hid hE2
          have HEL2 : Hid (E2.length ≤ 300) := by
            have h1 := HEL1.out
            have h2 := phG_le (k : Int) x.phis x.phis.length
            rw [Hid, hE2, List.length_append]
            exact Nat.le_trans (Nat.add_le_add h1 h2) (by omega)
          have HT2 : Hid (Two wr B u6 u7 E2) := HT.out
          have HA2 : Hid (Adds2 wk wr a0 b0 u6 u7) := HA.out
          clear HT HA hE2 hqc
          go_wp2_with fail
          go_loopw [6, 7, 11] (fun a b i wr => ∃ j : Nat, j ≤ x.head.length ∧ i = .int .i64 j ∧ Hid (Two wr B a b (E2 ++ mvG (k : Int) 1 x.head j)) ∧ Hid (Adds2 wk wr a0 b0 a b)) (fun _ _ i _ => x.head.length - (intOf i).toNat)
          case atStart => exact ⟨0, Nat.zero_le _, rfl, HT2.out.to (List.append_nil _), HA2.out⟩
          clear HT2 HA2
          case round =>
            obtain ⟨j, hj, rfl, HT, HA⟩ := hrel
            obtain ⟨hqc, hbw, hBw⟩ := HQC.out wr _ _ HA.out
            have HBw := Lib.hid hbw
            clear hbw
            have g1 := hqc 1 _ rfl
            by_cases hjl : j < x.head.length
            case neg =>
              obtain rfl : j = x.head.length := by omega
              obtain ⟨E3, hE3⟩ : ∃ E, E = E2 ++ mvG (k : Int) 1 x.head x.head.length := ⟨_, rfl⟩
              rw [← hE3] at HT
              have HE3 := Lib.hid hE3
              have HEL3 : Hid (E3.length ≤ 500) := by
                have h1 := HEL2.out
                have h2 := mvG_le (k : Int) 1 x.head x.head.length
                rw [Hid, hE3, List.length_append]
                exact Nat.le_trans (Nat.add_le_add h1 h2) (by omega)
              have HT3 : Hid (Two wr B u6 u7 E3) := HT.out
              have HA3 : Hid (Adds2 wk wr a0 b0 u6 u7) := HA.out
              clear HT HA hE3 hqc
              go_wp2_with fail
              go_loopw [6, 7, 12] (fun a b i wr => ∃ j : Nat, j ≤ x.body.length ∧ i = .int .i64 j ∧ Hid (Two wr B a b (E3 ++ insG (k : Int) x.body j)) ∧ Hid (Adds2 wk wr a0 b0 a b)) (fun _ _ i _ => x.body.length - (intOf i).toNat)
              case atStart => exact ⟨0, Nat.zero_le _, rfl, HT3.out.to (List.append_nil _), HA3.out⟩
              clear HT3 HA3
              case round =>
                obtain ⟨j, hj, rfl, HT, HA⟩ := hrel
                obtain ⟨hqc, hbw, hBw⟩ := HQC.out wr _ _ HA.out
                have HBw := Lib.hid hbw
                clear hbw
                have g2 := hqc 2 _ rfl
                by_cases hjl : j < x.body.length
                case neg =>
                  obtain rfl : j = x.body.length := by omega
                  obtain ⟨E4, hE4⟩ : ∃ E, E = E3 ++ insG (k : Int) x.body x.body.length := ⟨_, rfl⟩
                  rw [← hE4] at HT
                  have HE4 := Lib.hid hE4
                  have HEL4 : Hid (E4.length ≤ 700) := by
                    have h1 := HEL3.out
                    have h2 := insG_le (k : Int) x.body x.body.length
                    rw [Hid, hE4, List.length_append]
                    exact Nat.le_trans (Nat.add_le_add h1 h2) (by omega)
                  have HT4 : Hid (Two wr B u6 u7 E4) := HT.out
                  have HA4 : Hid (Adds2 wk wr a0 b0 u6 u7) := HA.out
                  clear HT HA hE4 hqc
                  go_wp2_with fail
                  go_loopw [6, 7, 13] (fun a b i wr => ∃ j : Nat, j ≤ x.tail.length ∧ i = .int .i64 j ∧ Hid (Two wr B a b (E4 ++ mvG (k : Int) (2 + (x.body.length : Int)) x.tail j)) ∧ Hid (Adds2 wk wr a0 b0 a b)) (fun _ _ i _ => x.tail.length - (intOf i).toNat)
                  case atStart => exact ⟨0, Nat.zero_le _, rfl, HT4.out.to (List.append_nil _), HA4.out⟩
                  clear HT4 HA4
                  case round =>
                    obtain ⟨j, hj, rfl, HT, HA⟩ := hrel
                    obtain ⟨hqc, hbw, hBw⟩ := HQC.out wr _ _ HA.out
                    have HBw := Lib.hid hbw
                    clear hbw
                    have g3 := hqc 3 _ rfl
                    by_cases hjl : j < x.tail.length
                    case neg =>
                      obtain rfl : j = x.tail.length := by omega
                      obtain ⟨E5, hE5⟩ : ∃ E, E = E4 ++ mvG (k : Int) (2 + (x.body.length : Int)) x.tail x.tail.length := ⟨_, rfl⟩
                      rw [← hE5] at HT
                      have HE5 := Lib.hid hE5
                      have HEL5 : Hid (E5.length ≤ 1000) := by
                        have h1 := HEL4.out
                        have h2 := mvG_le (k : Int) (2 + (x.body.length : Int)) x.tail x.tail.length
                        rw [Hid, hE5, List.length_append]
                        exact Nat.le_trans (Nat.add_le_add h1 h2) (by omega)
                      have HT5 : Hid (Two wr B u6 u7 E5) := HT.out
                      have HA5 : Hid (Adds2 wk wr a0 b0 u6 u7) := HA.out
                      clear HT HA hE5 hqc
                      have HTF : Hid (Two wr B u6 u7 (blkP f k x)) := HT5.out.to (by
                        rw [HE5.out, HE4.out, HE3.out, HE2.out, HE1.out, HPAR.out]
                        unfold blkP blkG
                        rw [HPN.out]
                        simp only [List.append_assoc]
                        rfl)
                      go_wp2_with fail
                      refine bodyPost_ret (v := .tuple #[u6, u7]) (results_tmp2 Tryz.results33 _ _ _) rfl ⟨u6, u7, rfl, ?_, HBw.out⟩
                      exact ⟨World.ownsRow.mono HTF.out.1 HBle.out, World.ownsRow.mono HTF.out.2.1 HBle.out, HTF.out.2.2⟩
                    have hxj : x.tail[j]? = some x.tail[j] := List.getElem?_eq_getElem hjl
                    generalize x.tail[j] = y at hxj
                    obtain ⟨b', off', rfl, hDb', hrow'⟩ := H3.out (by intro h; rw [h] at hjl; simp at hjl)
                    obtain ⟨ds, hE, hds⟩ := hrow' j y hxj
                    have hbl' := hD b' hDb'
                    have hjl' : (j : Int) < (x.tail.length : Int) := by omega
                    have Hxj := Lib.hid hxj
                    obtain rfl := hE
                    have d0 : wr.cell? ⟨b', off' + j * 2, none⟩ = some (.int .i64 y.dst) := (HBw.out.cell (p := ⟨b', _, none⟩) hbl').trans (hds 0 _ rfl).1
                    have d1 : wr.cell? ⟨b', off' + j * 2 + 1, none⟩ = some (.int .i64 y.src) := (HBw.out.cell (p := ⟨b', _, none⟩) hbl').trans (hds 1 _ rfl).1
                    clear hds hrow' hxj hqc
                    have hn2 : x.body.length ≤ 1000 := by omega
                    obtain ⟨EV, hEV⟩ : ∃ E, E = E4 ++ mvG (k : Int) (2 + (x.body.length : Int)) x.tail j := ⟨_, rfl⟩
                    rw [← hEV] at HT
                    have HEV := Lib.hid hEV
                    have HL := Lib.hid (Two.len (evs := EV) (by have h1 := HEL4.out; have h2 := mvG_le (k : Int) (2 + (x.body.length : Int)) x.tail j; rw [hEV, List.length_append]; omega))
                    clear hEV
                    go_wp2_with (first
                      | (at_builtin; (refine wpList_append_int rfl (.tmp 111) (.tmp 118) rfl B u6 (EV.map (·.n)) y.dst wr rfl HT.out.1 rfl hBw HL.out.1 ?_; intro a' w2 hown2 hg2 hat2; have HO2 := Lib.hid hown2; have HG2 := Lib.hid hg2; have HT2 := Lib.hid hat2; have HM := Lib.hid (HT.out.mid hg2); have HA2 := Lib.hid (HA.out.left hg2 hat2); have e8 := (HQC.out w2 _ _ HA2.out).1; have b0 := e8 0 _ rfl; have b1 := e8 1 _ rfl; have b2 := e8 2 _ rfl; have b3 := e8 3 _ rfl; have b4 := e8 4 _ rfl; have b5 := e8 5 _ rfl; have b6 := e8 6 _ rfl; have b7 := e8 7 _ rfl; clear e8; clear hown2 hg2 hat2))
                      | (go_at_call 62; refine (l5Tail_any _ _ _ _ _ _ _ _ _ _ _ hn2).mono ?_; rintro e w5 ⟨rfl, hb5⟩; have HM5 := Lib.hid (HM.out.below hb5 fun k hk => (HM.out.lt k hk).2); have HO5 := Lib.hid (HO2.out.below hb5 fun k hk => (HO2.out.lt k hk).2); have HB5 := Lib.hid hb5; clear hb5) | (at_builtin; go_must (refine wpList_append_int rfl (.tmp 120) (.tmp 123) rfl B u7 (EV.map (·.pl.src)) (2 + (x.body.length : Int)) w5 rfl HM5.out rfl (Nat.le_trans (Nat.le_trans hBw HG2.out.size) HB5.out.size) HL.out.2 ?_; intro b' w3 hown3 hg3 hat3; have HO3 := Lib.hid hown3; have HG3 := Lib.hid hg3; have HT3 := Lib.hid hat3; clear hown3 hg3 hat3)))
                    have HT9 : Hid (Two w3 B a' b' (E4 ++ mvG (k : Int) (2 + (x.body.length : Int)) x.tail (j + 1))) := Two.moreB HT.out HO2.out HG2.out HT2.out HB5.out HO3.out HG3.out HT3.out (k := (k : Int)) (by rw [mvG_succ Hxj.out, ← List.append_assoc, ← HEV.out])
                    have HA9 := Lib.hid ((HA2.out.below HB5.out).right HG3.out HT3.out)
                    clear HO2 HG2 HT2 HO3 HG3 HT3 HM HA2 HT HA
                    go_roundw
                    case rel => exact ⟨j + 1, by omega, by go_num, HT9.out, HA9.out⟩
                    case measure => simp [intOf]; omega
                have hxj : x.body[j]? = some x.body[j] := List.getElem?_eq_getElem hjl
                generalize x.body[j] = y at hxj
                obtain ⟨b', off', rfl, hDb', hrow'⟩ := H2.out (by intro h; rw [h] at hjl; simp at hjl)
                obtain ⟨ds, hE, hds⟩ := hrow' j y hxj
                have hbl' := hD b' hDb'
                have hjl' : (j : Int) < (x.body.length : Int) := by omega
                have Hxj := Lib.hid hxj
                obtain rfl := hE
                have d0 : wr.cell? ⟨b', off' + j * 4, none⟩ = some (.int .i64 y.op) := (HBw.out.cell (p := ⟨b', _, none⟩) hbl').trans (hds 0 _ rfl).1
                have d1 : wr.cell? ⟨b', off' + j * 4 + 1, none⟩ = some (.int .i64 y.v) := (HBw.out.cell (p := ⟨b', _, none⟩) hbl').trans (hds 1 _ rfl).1
                have d2 : wr.cell? ⟨b', off' + j * 4 + 2, none⟩ = some (.int .i64 y.a) := (HBw.out.cell (p := ⟨b', _, none⟩) hbl').trans (hds 2 _ rfl).1
                have d3 : wr.cell? ⟨b', off' + j * 4 + 3, none⟩ = some (.int .i64 y.b) := (HBw.out.cell (p := ⟨b', _, none⟩) hbl').trans (hds 3 _ rfl).1
                clear hds hrow' hxj hqc
                by_cases hyv : y.v = -1
                case pos =>
                  have hyb : (0 : Int) ≤ y.v → False := by omega
                  have hyc : y.v < 0 := by omega
                  have HT3 : Hid (Two wr B u6 u7 (E3 ++ insG (k : Int) x.body (j + 1))) := HT.out.to (by rw [insG_skip Hxj.out hyv])
                  clear HT hyv
                  go_wp2_with fail
                  go_roundw
                  case rel => exact ⟨j + 1, by omega, by go_num, HT3.out, HA.out⟩
                  case measure => simp [intOf]; omega
                have hyc : 0 ≤ y.v := by have := insP_v (HBd.out j y Hxj.out); omega
                have HYV := Lib.hid hyv
                clear hyv
                obtain ⟨EV, hEV⟩ : ∃ E, E = E3 ++ insG (k : Int) x.body j := ⟨_, rfl⟩
                rw [← hEV] at HT
                have HEV := Lib.hid hEV
                have HL := Lib.hid (Two.len (evs := EV) (by have h1 := HEL3.out; have h2 := insG_le (k : Int) x.body j; rw [hEV, List.length_append]; omega))
                clear hEV
                go_wp2_with (first
                  | (at_builtin; (refine wpList_append_int rfl (.tmp 90) (.tmp 97) rfl B u6 (EV.map (·.n)) y.v wr rfl HT.out.1 rfl hBw HL.out.1 ?_; intro a' w2 hown2 hg2 hat2; have HO2 := Lib.hid hown2; have HG2 := Lib.hid hg2; have HT2 := Lib.hid hat2; have HM := Lib.hid (HT.out.mid hg2); have HA2 := Lib.hid (HA.out.left hg2 hat2); clear hown2 hg2 hat2))
                  | (at_builtin; go_must (refine wpList_append_int rfl (.tmp 99) (.tmp 102) rfl B u7 (EV.map (·.pl.src)) (2 + (j : Int)) w2 rfl HM.out rfl (Nat.le_trans hBw HG2.out.size) HL.out.2 ?_; intro b' w3 hown3 hg3 hat3; have HO3 := Lib.hid hown3; have HG3 := Lib.hid hg3; have HT3 := Lib.hid hat3; clear hown3 hg3 hat3)))
                have HT9 : Hid (Two w3 B a' b' (E3 ++ insG (k : Int) x.body (j + 1))) := Two.more HT.out HO2.out HG2.out HT2.out HO3.out HG3.out HT3.out (k := (k : Int)) (by rw [insG_succ Hxj.out HYV.out, ← List.append_assoc, ← HEV.out])
                have HA9 := Lib.hid (HA2.out.right HG3.out HT3.out)
                clear HO2 HG2 HT2 HO3 HG3 HT3 HM HA2 HT HA
                go_roundw
                case rel => exact ⟨j + 1, by omega, by go_num, HT9.out, HA9.out⟩
                case measure => simp [intOf]; omega
            have hxj : x.head[j]? = some x.head[j] := List.getElem?_eq_getElem hjl
            generalize x.head[j] = y at hxj
            obtain ⟨b', off', rfl, hDb', hrow'⟩ := H1.out (by intro h; rw [h] at hjl; simp at hjl)
            obtain ⟨ds, hE, hds⟩ := hrow' j y hxj
            have hbl' := hD b' hDb'
            have hjl' : (j : Int) < (x.head.length : Int) := by omega
            have Hxj := Lib.hid hxj
            obtain rfl := hE
            have d0 : wr.cell? ⟨b', off' + j * 2, none⟩ = some (.int .i64 y.dst) := (HBw.out.cell (p := ⟨b', _, none⟩) hbl').trans (hds 0 _ rfl).1
            have d1 : wr.cell? ⟨b', off' + j * 2 + 1, none⟩ = some (.int .i64 y.src) := (HBw.out.cell (p := ⟨b', _, none⟩) hbl').trans (hds 1 _ rfl).1
            clear hds hrow' hxj hqc
            obtain ⟨EV, hEV⟩ : ∃ E, E = E2 ++ mvG (k : Int) 1 x.head j := ⟨_, rfl⟩
            rw [← hEV] at HT
            have HEV := Lib.hid hEV
            have HL := Lib.hid (Two.len (evs := EV) (by have h1 := HEL2.out; have h2 := mvG_le (k : Int) 1 x.head j; rw [hEV, List.length_append]; omega))
            clear hEV
            go_wp2_with (first
              | (at_builtin; (refine wpList_append_int rfl (.tmp 64) (.tmp 71) rfl B u6 (EV.map (·.n)) y.dst wr rfl HT.out.1 rfl hBw HL.out.1 ?_; intro a' w2 hown2 hg2 hat2; have HO2 := Lib.hid hown2; have HG2 := Lib.hid hg2; have HT2 := Lib.hid hat2; have HM := Lib.hid (HT.out.mid hg2); have HA2 := Lib.hid (HA.out.left hg2 hat2); clear hown2 hg2 hat2))
              | (at_builtin; go_must (refine wpList_append_int rfl (.tmp 73) (.tmp 74) rfl B u7 (EV.map (·.pl.src)) (1) w2 rfl HM.out rfl (Nat.le_trans hBw HG2.out.size) HL.out.2 ?_; intro b' w3 hown3 hg3 hat3; have HO3 := Lib.hid hown3; have HG3 := Lib.hid hg3; have HT3 := Lib.hid hat3; clear hown3 hg3 hat3)))
            have HT9 : Hid (Two w3 B a' b' (E2 ++ mvG (k : Int) 1 x.head (j + 1))) := Two.more HT.out HO2.out HG2.out HT2.out HO3.out HG3.out HT3.out (k := (k : Int)) (by rw [mvG_succ Hxj.out, ← List.append_assoc, ← HEV.out])
            have HA9 := Lib.hid (HA2.out.right HG3.out HT3.out)
            clear HO2 HG2 HT2 HO3 HG3 HT3 HM HA2 HT HA
            go_roundw
            case rel => exact ⟨j + 1, by omega, by go_num, HT9.out, HA9.out⟩
            case measure => simp [intOf]; omega
        have hxj : x.phis[j]? = some x.phis[j] := List.getElem?_eq_getElem hjl
        generalize x.phis[j] = y at hxj
        obtain ⟨b', off', rfl, hDb', hrow'⟩ := H0.out (by intro h; rw [h] at hjl; simp at hjl)
        obtain ⟨ds, hE, hds⟩ := hrow' j y hxj
        have hbl' := hD b' hDb'
        have hjl' : (j : Int) < (x.phis.length : Int) := by omega
        have Hxj := Lib.hid hxj
        obtain ⟨u', rfl, _, A5, q5, rfl, _⟩ := hE
        have d0 : wr.cell? ⟨b', off' + j * 2, none⟩ = some (.int .i64 y.v) := (HBw.out.cell (p := ⟨b', _, none⟩) hbl').trans (hds 0 _ rfl).1
        have d1 : wr.cell? ⟨b', off' + j * 2 + 1, none⟩ = some (.slice A5 y.args.length q5) := (HBw.out.cell (p := ⟨b', _, none⟩) hbl').trans (hds 1 _ rfl).1
        clear hds hrow' hxj hqc
        obtain ⟨EV, hEV⟩ : ∃ E, E = E1 ++ phG (k : Int) x.phis j := ⟨_, rfl⟩
        rw [← hEV] at HT
        have HEV := Lib.hid hEV
        have HL := Lib.hid (Two.len (evs := EV) (by have h1 := HEL1.out; have h2 := phG_le (k : Int) x.phis j; rw [hEV, List.length_append]; omega))
        clear hEV
        go_wp2_with (first
          | (at_builtin; (refine wpList_append_int rfl (.tmp 45) (.tmp 52) rfl B u6 (EV.map (·.n)) y.v wr rfl HT.out.1 rfl hBw HL.out.1 ?_; intro a' w2 hown2 hg2 hat2; have HO2 := Lib.hid hown2; have HG2 := Lib.hid hg2; have HT2 := Lib.hid hat2; have HM := Lib.hid (HT.out.mid hg2); have HA2 := Lib.hid (HA.out.left hg2 hat2); clear hown2 hg2 hat2))
          | (at_builtin; go_must (refine wpList_append_int rfl (.tmp 54) (.tmp 55) rfl B u7 (EV.map (·.pl.src)) (0) w2 rfl HM.out rfl (Nat.le_trans hBw HG2.out.size) HL.out.2 ?_; intro b' w3 hown3 hg3 hat3; have HO3 := Lib.hid hown3; have HG3 := Lib.hid hg3; have HT3 := Lib.hid hat3; clear hown3 hg3 hat3)))
        have HT9 : Hid (Two w3 B a' b' (E1 ++ phG (k : Int) x.phis (j + 1))) := Two.more HT.out HO2.out HG2.out HT2.out HO3.out HG3.out HT3.out (k := (k : Int)) (by rw [phG_succ Hxj.out, ← List.append_assoc, ← HEV.out])
        have HA9 := Lib.hid (HA2.out.right HG3.out HT3.out)
        clear HO2 HG2 HT2 HO3 HG3 HT3 HM HA2 HT HA
        go_roundw
        case rel => exact ⟨j + 1, by omega, by go_num, HT9.out, HA9.out⟩
        case measure => simp [intOf]; omega
end

end Go.Proofs.YtnjmlhokkhkaaaaGreatDoor
