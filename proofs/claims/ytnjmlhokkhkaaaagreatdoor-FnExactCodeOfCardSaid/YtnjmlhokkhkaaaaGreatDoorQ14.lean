/- DomW, joined. -/
import Derived.Test.YtnjmlhokkhkaaaaGreatDoorQ13
namespace Go.Proofs.YtnjmlhokkhkaaaaGreatDoor

/- domsOfAll of the program: its walk. -/
section
open Go.ChangeShapes Go.WideShapes Go.ChangeAt Go.RowKit Go.Joins

/-- Only block q has been written since. -/
def OnlyQ (q : Nat) (k : Nat) : Prop := k = q

theorem with_zero (w : World) : Calls Tryz.prog 114 #[.int .u64 0, .int .i64 0] w fun e w' => e = .returned (.int .u64 1) ∧ w = w' := with_any 0 0 w (by decide) (by decide)

set_option maxRecDepth 10000 in
set_option maxHeartbeats 4000000 in
theorem domsOfAll_any (f : FunD) (v : Value) (w : World) (Z : Zn) (hp : FunP f) (hv : Row w Z 8 (EBlock w Z) v f.blocks) (hD : ∀ b, Z.D b → b < w.heap.size) :
    Calls Tryz.prog 77 #[v] w (GivesDoms f w) := by
  have HV := Lib.hid hv
  have HP := Lib.hid hp
  have h1n := hp.1.1.1
  have h40 := hp.1.1.2
  obtain ⟨_, A, c, rfl, _⟩ := hv
  obtain ⟨i0, hi, hz0, hz1, hz2⟩ := info_parts info_sets
  have hmk := fun W => run_make_rowN (P := Tryz.prog) 125 75 i0 _ Tryz.underlying125 hi hz0 .i64 .i64 f.blocks.length f.blocks.length (Nat.le_refl _) (by rw [hz2]; omega) (by omega) W
  rw [hz1] at hmk
  clear hi hz0 hz1 hz2
  go_enter Tryz.func77, Tryz.ntmps77
  go_wp2_with fail
  refine (walkFromStart_any f.blocks _ _ Z HV.out hD (targets_of hp) h1n (by omega)).mono ?_
  rintro e w1 ⟨q0, fin, rfl, _, hoi, _, hb1⟩
  have HO1 := Lib.hid hoi
  have HB1 := Lib.hid hb1
  have hfl := field_walk2
  obtain ⟨_, A3, c3, rfl, _⟩ := hoi.ri
  clear hb1 hoi hp
  go_wp2_with fail
  refine (Reverse_any _ _ _ _ HO1.out).mono ?_
  rintro e w2 ⟨⟨_, rfl⟩, ho2, hg2⟩
  have HO := Lib.hid (dfs0_order (targets_of HP.out).sc h1n)
  have hL := dfs0_len (targets_of HP.out).sc h1n
  generalize (dfs0 (scF f.blocks) f.blocks.length).2 = ds at *
  obtain ⟨L, hLr⟩ : ∃ L, L = ds.reverse := ⟨_, rfl⟩
  have hl : ds.length = L.length := by rw [hLr, List.length_reverse]
  rw [← hLr] at ho2 HO
  rw [hl] at ho2 hg2 hL ⊢
  have HB2 := Lib.hid (HB1.out.grown hg2 HB1.out.size fun k hk => (HO1.out.lt k (by rw [hl]; exact hk)).1)
  have HO2 := Lib.hid ho2
  clear ho2 hg2 hfl HO1 HB1 hl hLr
  go_wp2_with fail
  obtain ⟨A5, hA5⟩ : ∃ A5, A5 = A3 := ⟨_, rfl⟩
  have hz2 := HB2.out.size
  obtain ⟨q, hq⟩ : ∃ q, q = w2.heap.size := ⟨_, rfl⟩
  have HU := Lib.hid (UL.start w2 f.blocks.length (by rw [maxLen_is]; omega))
  have HB3 : Hid (Below w.heap.size w (w2.alloc (.cells (madeCells #[.int .u64 0] f.blocks.length) 75))) := HB2.out.alloc hz2 _
  have HO3 : Hid (OI (w2.alloc (.cells (madeCells #[.int .u64 0] f.blocks.length) 75)) w.heap.size (.slice A3 L.length c3) L) := HO2.out.fw (Fw.alloc (fun _ => False) _ _) fun _ _ h => h
  have hz3 : (w2.alloc (.cells (madeCells #[.int .u64 0] f.blocks.length) 75)).heap.size = q + 1 := by rw [hq]; simp
  have HOq : Hid (∀ k, (Value.slice A3 L.length c3).ownBlock = some k → ¬ OnlyQ q k) := fun k hk e => by have := (HO2.out.lt k hk).2; have e' : k = q := e; omega
  rw [← hq] at HU hz2 ⊢
  generalize w2.alloc (.cells (madeCells #[.int .u64 0] f.blocks.length) 75) = w3 at *
  clear hq hA5 A5 HB2 HO2 hmk
  have HLr : Hid (∀ x ∈ L, 0 ≤ x ∧ x < (f.blocks.length : Int)) := fun x hx => ⟨((HO.out.mem x).1 hx).1, ((HO.out.mem x).1 hx).2.1⟩
  go_loopw [22] (fun i wr => ∃ k : Nat, k ≤ L.length ∧ i = .int .i64 k ∧ Hid (Fw (OnlyQ q) w3 wr) ∧ Hid (UL wr q f.blocks.length (markD (L.take k) (List.replicate f.blocks.length 0)))) (fun i _ => L.length - (intOf i).toNat)
  case atStart => exact ⟨0, Nat.zero_le _, rfl, Fw.refl _ _, HU.out⟩
  case round =>
    obtain ⟨k, hk, rfl, HF, HUr⟩ := hrel
    by_cases hkl : k < L.length
    · have hxk : L[k]? = some L[k] := List.getElem?_eq_getElem hkl
      have hr := HLr.out L[k] (List.getElem_mem hkl)
      generalize L[k] = x at hxk hr
      obtain ⟨m, rfl⟩ : ∃ m : Nat, x = m := ⟨x.toNat, by omega⟩
      have hmt := markD_take hxk (List.replicate f.blocks.length 0)
      rw [Int.toNat_natCast] at hmt
      obtain ⟨_, A6, c6, he6, hx6⟩ := (HO3.out.fw HF.out HOq.out).ri
      injection he6 with e1 _ e2
      subst e1 e2
      obtain ⟨b6, off6, rfl, hcl⟩ := hx6 (by rintro rfl; simp at hkl)
      have hc := hcl k _ hxk
      have hcm := HUr.out.cell (show m < f.blocks.length by omega)
      have hcf := HUr.out.frozen m
      have hm0 : 0 ≤ (m : Int) := by omega
      have hmN : (m : Int) < (f.blocks.length : Int) := hr.2
      have HUn := Lib.hid (HUr.out.set m allBits)
      have HFn := Lib.hid (HF.out.trans (Fw.set (P := OnlyQ q) wr rfl m (.int .u64 ((allBits : Nat) : Int))) fun _ _ h => h)
      rw [← hmt] at HUn
      unfold allBits at HUn HFn
      clear hcl hx6 hxk hmt hr
      go_wp2_with fail
      go_roundw
      case rel => exact ⟨k + 1, by omega, by go_num, HFn.out, HUn.out⟩
      case measure => simp [intOf]; omega
    obtain rfl : k = L.length := by omega
    rw [List.take_length] at HUr
    have hc0 := HUr.out.cell (k := 0) (by omega)
    have hf0 := HUr.out.frozen 0
    have h0N : (0 : Int) < (f.blocks.length : Int) := by omega
    have HUS := Lib.hid (HUr.out.set 0 1)
    have HFS := Lib.hid (HF.out.trans (Fw.set (P := OnlyQ q) wr rfl 0 (.int .u64 ((1 : Nat) : Int))) fun _ _ h => h)
    have hD0 : DInv (scF f.blocks) f.blocks.length (fun j => predsF f j) ((markD L (List.replicate f.blocks.length 0)).set 0 1) := by
      have hml : (markD L (List.replicate f.blocks.length 0)).length = f.blocks.length := by rw [markD_len]; simp
      have hmg := fun i (hi : i < f.blocks.length) => markD_get L (List.replicate f.blocks.length 0) i (fun x hx => (HLr.out x hx).1) (by simpa using hi)
      refine DInv.start h40 h1n (by simp [hml]) (getD_set_same (by omega) 1) (fun i hi hi0 hr => ?_) (fun i hi hr => ?_)
      · rw [getD_set_other (by omega), hmg i hi, if_pos ((HO.out.mem _).2 ⟨by omega, by omega, hr⟩)]
      · have hi0 : i ≠ 0 := by rintro rfl; exact hr (.zero (by omega))
        rw [getD_set_other (by omega), hmg i hi, if_neg fun h => hr ((HO.out.mem _).1 h).2.2, List.getD_eq_getElem?_getD, List.getElem?_replicate, if_pos hi]; rfl
    have HD0 := Lib.hid hD0
    clear hD0
    generalize (markD L (List.replicate f.blocks.length 0)).set 0 1 = D0 at *
    go_wp2_with fail
    refine (with_zero _).mono ?_
    rintro e w' ⟨rfl, rfl⟩
    go_wp2_with fail
    have e1 : ((1 : Nat) : Int) = 1 := rfl
    rw [e1] at HUS HFS
    have hzS : (wr.setCell ⟨q, 0, none⟩ (.int .u64 1)).heap.size = wr.heap.size := nblk_set _ _ _
    have hzr := HF.out.size
    generalize wr.setCell ⟨q, 0, none⟩ (.int .u64 1) = wS at *
    have hqS := HUS.out.lt
    have hBS : Below w.heap.size w wS := HB3.out.trans (HFS.out.toBelow HB3.out.size fun k hk e => by have e' : k = q := e; omega)
    refine (predsOfAll_any _ f.blocks wS Z (HV.out.keep (Kept.below hBS hD) fun _ _ h => h.keep (Kept.below hBS hD)) (fun b hb => Nat.lt_of_lt_of_le (hD b hb) hBS.size) (by omega)).mono ?_
    rintro e w5 ⟨rfl, hpr, hb5⟩
    have HPR : Hid (PRow w5 (wS.heap.size + 1) wS.heap.size f.blocks.length (fun j => predsF f j)) := hpr.congr fun j _ => (funP_preds HP.out j).symm
    have HU5 : Hid (UL w5 q f.blocks.length D0) := HUS.out.fw (Fw.below (P := fun _ => False) hb5) fun h => h
    have HO5 : Hid (OI w5 w.heap.size (.slice A3 L.length c3) L) := (HO3.out.fw HFS.out HOq.out).fw (Fw.below (P := fun _ => False) hb5) fun _ _ h => h
    have HB5 : Hid (Below w.heap.size w w5) := hBS.trans (hb5.mono hBS.size)
    have hz5 := hb5.size
    obtain ⟨G, hG⟩ : ∃ G, G = wS.heap.size := ⟨_, rfl⟩
    rw [← hG] at HPR ⊢
    have hqG : q < G := by omega
    have hGO : ∀ k, (Value.slice A3 L.length c3).ownBlock = some k → k ≠ q := fun k hk e => HOq.out k hk e
    clear hb5 hBS HFS HUS hc0 hf0 h0N HUr HF HU HB3 HO3 hpr HV hz3 hzS hzr hqS hz5 hG e1
    go_wp2_with fail
    have HT : Hid (∀ j (x : Int), (L.drop 1)[j]? = some x → ∃ m : Nat, x = m ∧ m < f.blocks.length ∧ m ≠ 0 ∧ Rch (scF f.blocks) (-1) m) := fun j x hx => by
      rw [List.getElem?_drop] at hx
      obtain ⟨h0, hN, hr⟩ := (HO.out.mem x).1 (List.mem_of_getElem? hx)
      obtain ⟨m, rfl⟩ : ∃ m : Nat, x = m := ⟨x.toNat, by omega⟩
      refine ⟨m, rfl, by omega, ?_, hr⟩
      rintro rfl
      obtain ⟨T, hT⟩ := HO.out.head
      have hz : L[0]? = some (((0 : Nat)) : Int) := by rw [hT]; rfl
      obtain ⟨i1, g1⟩ := List.getElem?_eq_some_iff.1 hx
      obtain ⟨i2, g2⟩ := List.getElem?_eq_some_iff.1 hz
      exact List.pairwise_iff_getElem.1 HO.out.nd _ _ i2 i1 (by omega) (g2.trans g1.symm)
    have HTm : Hid (∀ b : Nat, b < f.blocks.length → b ≠ 0 → Rch (scF f.blocks) (-1) b → ∃ j, (L.drop 1)[j]? = some (b : Int)) := fun b hb hb0 hr => by
      have hm := (HO.out.mem (b : Int)).2 ⟨by omega, by omega, hr⟩
      obtain ⟨T, hT⟩ := HO.out.head
      rw [hT] at hm ⊢
      rcases List.mem_cons.1 hm with h | h
      · omega
      · obtain ⟨j, hj⟩ := List.mem_iff_getElem?.1 h
        exact ⟨j, by simpa using hj⟩
    have hL1 : 1 ≤ L.length := by obtain ⟨T, hT⟩ := HO.out.head; rw [hT]; simp
    rcases HO5.out.2 with ⟨_, hn0⟩ | ⟨g, cap, cur, hform, hbg, hgg, hnc, hcm, _, _⟩
    · omega
    injection hform with e1 _ e2
    subst e1 e2
    have hgq : g ≠ q := hGO g rfl
    have hcell : ∀ (j : Nat) (x : Int), L[j]? = some x → w5.cell? ⟨g, j, none⟩ = some (.int .i64 x) := fun j x hx => by
      have hj := (List.getElem?_eq_some_iff.1 hx).1
      rw [World.ownsRow.cellAt HO5.out j (by omega), List.getElem?_map, hx]; rfl
    have HC := Lib.hid hcell
    have hgl : g < w5.heap.size := (Array.getElem?_eq_some_iff.1 hgg).1
    have hTl : (L.drop 1).length = L.length - 1 := by simp
    clear hcell hgg hGO hbg HLr HO5
    go_loopw [8] (fun cv wr => ∃ (b : Bool) (D : List Nat), cv = .bool b ∧ Hid (Fw (OnlyQ q) w5 wr) ∧ Hid (UL wr q f.blocks.length D) ∧ Hid (DInv (scF f.blocks) f.blocks.length (fun j => predsF f j) D) ∧ Hid (b = false → DomsD f D)) (fun cv wr => match cv with
      | .bool true => sumAt wr q f.blocks.length + 1
      | _ => 0)
    case atStart => exact ⟨true, D0, rfl, Fw.refl _ _, HU5.out, HD0.out, fun h => by cases h⟩
    case round =>
      obtain ⟨b, D, rfl, HF, HU, HI, HX⟩ := hrel
      cases b
      · go_wp2_with fail
        go_ret
        exact ⟨q, D, rfl, HU.out, by omega, HX.out trivial, HB5.out.trans (HF.out.toBelow HB5.out.size fun k hk e => by have e' : k = q := e; omega)⟩
      clear HX
      have hL1' : (1 : Int) ≤ (L.length : Int) := by omega
      obtain ⟨A8, hA8, hA9⟩ : ∃ A8 : Option Addr, (if c3 = 1 then some (⟨g, 0, none⟩ : Addr) else some ⟨g, 1, none⟩) = A8 ∧ (1 < L.length → A8 = some ⟨g, 1, none⟩) := ⟨_, rfl, fun h => by rw [if_neg (by omega)]⟩
      have HA9 := Lib.hid hA9
      clear hA9
      have hcl : (L.length : Int) ≤ (c3 : Int) := by omega
      go_wp2_with fail
      obtain ⟨M, hM⟩ : ∃ M, M = L.length - 1 := ⟨_, rfl⟩
      rw [← hM]
      have HM : Hid (M + 1 = L.length) := by show M + 1 = L.length; omega
      clear hM
      have hMb : M ≤ 40 := by have := HM.out; omega
      go_loopw [8, 39] (fun cv iv wq => ∃ (k : Nat) (b : Bool) (D' : List Nat), k ≤ M ∧ iv = .int .i64 k ∧ cv = .bool b ∧ Hid (Fw (OnlyQ q) w5 wq) ∧ Hid (UL wq q f.blocks.length D') ∧ Hid (InRound f (L.drop 1) D D' k b)) (fun _ iv _ => M - (intOf iv).toNat)
      case atStart => exact ⟨0, false, D, Nat.zero_le _, rfl, rfl, HF.out, HU.out, HI.out, Nat.le_refl _, fun h => (by cases h), fun _ => ⟨rfl, fun j x hj => absurd hj (by omega)⟩⟩
      case round =>
        obtain ⟨k, b, D', hk, rfl, rfl, HFr, HUr, HR⟩ := hrel
        by_cases hkl : k < M
        · obtain ⟨x, hxk⟩ : ∃ x, (L.drop 1)[k]? = some x := ⟨_, List.getElem?_eq_getElem (by have := HM.out; omega)⟩
          obtain ⟨m, rfl, hmN, hm0, hrm⟩ := HT.out k x hxk
          have hA8' := HA9.out (by have := HM.out; omega)
          subst hA8'
          have hxl := hxk
          rw [List.getElem?_drop] at hxl
          have ck : wr.cell? ⟨g, 1 + k, none⟩ = some (.int .i64 m) := (World.cell?_of_block (a := ⟨g, 1 + k, none⟩) (HFr.out.block g hgl hgq)).trans (HC.out _ _ hxl)
          have hcm := HUr.out.cell hmN
          have hcf := HUr.out.frozen m
          obtain ⟨v, hv, ho⟩ := HPR.out.get hmN
          have cv : wr.cell? ⟨G, m, none⟩ = some v := (World.cell?_of_block (a := ⟨G, m, none⟩) (HFr.out.block G HPR.out.lt (show ¬ G = q by omega))).trans hv
          have HRI := Lib.hid (ho.fw HFr.out fun k hk e => by have e' : k = q := e; have := (ho.lt k hk).1; omega).ri
          obtain ⟨_, Av, cw, rfl, _⟩ := ho.ri
          have HPS : Hid (∀ p ∈ predsF f m, 0 ≤ p ∧ p < (f.blocks.length : Int)) := fun p hp => by
            obtain ⟨j, y, rfl, hy, _⟩ := of_mem_predsF hp
            have := (List.getElem?_eq_some_iff.1 hy).1
            exact ⟨by omega, by omega⟩
          have HRn := Lib.hid (HR.out.go h40 hmN hm0 hrm hxk)
          have HLT := Lib.hid HR.out.1.lt
          have hmN' : (m : Int) < (f.blocks.length : Int) := by omega
          have hm00 : 0 ≤ (m : Int) := by omega
          have hkM : (k : Int) < (M : Int) := by omega
          have hm64 : m < 64 := by omega
          clear hv ho hxl hxk hrm
          generalize hd : D'.getD m 0 = d at *
          go_wp2_with fail
          refine (domsByPreds_any D' q f.blocks.length _ (predsF f m) _ HUr.out HRI.out HPS.out HLT.out).mono ?_
          rintro e w' ⟨rfl, rfl⟩
          go_wp2_with fail
          refine (with_any _ m _ (all_lt (meetD_le _ _)) hm64).mono ?_
          rintro e w' ⟨rfl, rfl⟩
          have hsd : meetD D' (predsF f m) ||| 2 ^ m = stepD D' (predsF f m) m := rfl
          rw [hsd]
          generalize stepD D' (predsF f m) m = s at *
          have HUn := Lib.hid (HUr.out.set m s)
          have HFn := Lib.hid (HFr.out.trans (Fw.set (P := OnlyQ q) wr rfl m (.int .u64 (s : Int))) fun _ _ h => h)
          clear hsd hd HRI HPS HLT
          cases b
          · by_cases he : s = d
            · subst he
              have hne : ((s : Int) != (s : Int)) = false := by simp
              rw [show (false || decide (s ≠ s)) = false by simp] at HRn
              go_wp2_with fail
              go_roundw
              case rel => exact ⟨k + 1, false, _, by omega, by go_num, rfl, HFn.out, HUn.out, HRn.out⟩
              case measure => simp [intOf]; omega
            · have hne : ((s : Int) != (d : Int)) = true := by simp; omega
              rw [show (false || decide (s ≠ d)) = true by simp [he]] at HRn
              go_wp2_with fail
              go_roundw
              case rel => exact ⟨k + 1, true, _, by omega, by go_num, rfl, HFn.out, HUn.out, HRn.out⟩
              case measure => simp [intOf]; omega
          · rw [Bool.true_or] at HRn
            go_wp2_with fail
            go_roundw
            case rel => exact ⟨k + 1, true, _, by omega, by go_num, rfl, HFn.out, HUn.out, HRn.out⟩
            case measure => simp [intOf]; omega
        · obtain rfl : k = M := by omega
          go_wp2_with fail
          go_roundw
          case rel =>
            refine ⟨b, D', rfl, HFr.out, HUr.out, HR.out.1, fun hb => ?_⟩
            subst hb
            obtain ⟨rfl, h5⟩ := HR.out.2.2.2 rfl
            refine ⟨HR.out.1, fun j hj hj0 hr => ?_⟩
            obtain ⟨i, hi⟩ := HTm.out j hj hj0 hr
            have := h5 i _ (by have := (List.getElem?_eq_some_iff.1 hi).1; have := HM.out; omega) hi
            rwa [Int.toNat_natCast] at this
          case measure =>
            cases b
            · simp
            · have h1 := HUr.out.sum
              have h2 := HU.out.sum
              have h3 := HR.out.2.2.1 rfl
              simp only [h1, h2]
              omega
end

end Go.Proofs.YtnjmlhokkhkaaaaGreatDoor
