/- CodeM, Fault, joined. -/
import Derived.Test.YtnjmlhokkhkaaaaGreatDoorQ6
import Derived.Test.YtnjmlhokkhkaaaaGreatDoorQ15
import Derived.Test.YtnjmlhokkhkaaaaGreatDoorQ20
namespace Go.Proofs.YtnjmlhokkhkaaaaGreatDoor

/- l5Code and Strict of the model. -/
section
open Go.ChangeShapes Go.WideShapes Go.ChangeAt Go.RowKit Go.Joins

theorem AheadPM {f : FunD} {d p : MoveD} {s tt : Nat} (hs : d.dst = s) (ht : p.dst = tt) : AheadP f d p ↔ AheadP f ⟨s, d.src⟩ ⟨tt, p.src⟩ := by rw [← hs, ← ht]
def GivesCode (f : FunD) (w : World) (e : Ending) (w' : World) : Prop := ∃ c, e = .returned (.int .i64 c) ∧ CodeP f c ∧ Below w.heap.size w w'

set_option maxRecDepth 10000 in
set_option maxHeartbeats 2000000 in
theorem l5Code_any (f : FunD) (v : Value) (w : World) (Z : Zn) (hp : FunP f) (hv : EFun w Z f v) (hD : ∀ b, Z.D b → b < w.heap.size) :
    Calls Tryz.prog 37 #[v] w (GivesCode f w) := by
  have HF := Lib.hid hv
  have HP := Lib.hid hp
  obtain ⟨u, rfl, hu⟩ := hv
  obtain ⟨_, A, c, rfl, hx⟩ := hu
  have h40 := hp.1.1.2
  clear hx hp
  go_enter Tryz.func37, Tryz.ntmps37
  go_wp2_with fail
  refine (l5Lost_any f _ _ Z HP.out (HF.out.keep (Kept.below ((Below.refl _ _).alloc (Nat.le_refl _) _) hD)) (fun b hb => by have := hD b hb; simp; omega)).mono ?_
  rintro e w1 ⟨r, rfl, hr, hb1⟩
  have HR := Lib.hid hr
  have HB1 := Lib.hid (hb1.mono (B' := w.heap.size + 1) (by simp))
  have HB01 : Hid (Below w.heap.size w w1) := ((Below.refl _ _).alloc (Nat.le_refl _) _).trans (HB1.out.mono (by omega))
  have hz1 : w.heap.size + 1 ≤ w1.heap.size := by have := hb1.size; simp at this; omega
  have HFC : Hid (∀ w', Below (w.heap.size + 1) w1 w' → w'.cell? ⟨w.heap.size, 0, none⟩ = some (.int .i64 f.params) ∧ w'.cell? ⟨w.heap.size, 1, none⟩ = some (.int .i64 f.names) ∧ w'.cell? ⟨w.heap.size, 2, none⟩ = some (.slice A f.blocks.length c)) := fun w' hb =>
    have h := HB1.out.trans hb
    ⟨(h.cell (p := ⟨w.heap.size, 0, none⟩) (by simp)).trans (by go_simp), (h.cell (p := ⟨w.heap.size, 1, none⟩) (by simp)).trans (by go_simp), (h.cell (p := ⟨w.heap.size, 2, none⟩) (by simp)).trans (by go_simp)⟩
  obtain ⟨f0, f1, f2⟩ := HFC.out w1 (Below.refl _ _)
  clear hb1 hr
  cases r
  case true =>
    have HL := Lib.hid (HR.out.1 rfl)
    clear HR
    go_wp2_with fail
    go_ret
    exact ⟨3, rfl, .inl ⟨HL.out, rfl⟩, HB01.out⟩
  have HNL : Hid (¬ LostP f) := fun h => by have := HR.out.2 h; cases this
  clear HR
  go_wp2_with fail
  refine (l5Open_any f _ _ Z HP.out (HF.out.keep (Kept.below HB01.out hD)) (fun b hb => by have := hD b hb; omega)).mono ?_
  rintro e w3 ⟨n, bv, dv, K, G1, G2, qs, rfl, hnn, ⟨Ab, cb, rfl⟩, ho, hq, hb3⟩
  have hn150 : n ≤ 150 := by have := HP.out.1.2.1.2; omega
  have HNN := Lib.hid hnn
  have HQ := Lib.hid hq
  have hz3 : w.heap.size + 1 ≤ w3.heap.size := by have := hb3.size; omega
  have HB13 := Lib.hid (hb3.mono hz1)
  have HO3 := Lib.hid ho
  have hdf : ∃ Ad Ld cd, dv = .slice (some ⟨Ad, 0, none⟩) Ld cd := by
    obtain ⟨gd, cd, hdv, _, _⟩ := World.ownsRow.form ho.hd (by have := HP.out.1.1.1; omega)
    exact ⟨gd, _, cd, hdv⟩
  obtain ⟨gd, Ld, cdd, hdv⟩ := hdf
  subst hdv
  clear hb3 ho hq f0 f1 f2
  obtain ⟨f0, f1, f2⟩ := HFC.out w3 HB13.out
  rw [hnn] at f1
  rw [hnn]
  clear hnn
  go_wp2_with fail
  have hb4 : Below w3.heap.size w3 (w3.alloc (.cells #[(.int .i64 f.params), (.int .i64 n), (.slice Ab f.blocks.length cb), (.slice (some ⟨gd, 0, none⟩) Ld cdd), (.slice (some ⟨G1, 0, none⟩) n n), (.slice (some ⟨G2, 0, none⟩) n n)] 122)) := (Below.refl _ _).alloc (Nat.le_refl _) _
  have hk4 : ((w3.alloc (.cells #[(.int .i64 f.params), (.int .i64 n), (.slice Ab f.blocks.length cb), (.slice (some ⟨gd, 0, none⟩) Ld cdd), (.slice (some ⟨G1, 0, none⟩) n n), (.slice (some ⟨G2, 0, none⟩) n n)] 122))).heap[w3.heap.size]? = some (.cells #[(.int .i64 f.params), (.int .i64 n), (.slice Ab f.blocks.length cb), (.slice (some ⟨gd, 0, none⟩) Ld cdd), (.slice (some ⟨G1, 0, none⟩) n n), (.slice (some ⟨G2, 0, none⟩) n n)] 122 (0, 0)) := heap_alloc_new _ _
  have hql : w3.heap.size < ((w3.alloc (.cells #[(.int .i64 f.params), (.int .i64 n), (.slice Ab f.blocks.length cb), (.slice (some ⟨gd, 0, none⟩) Ld cdd), (.slice (some ⟨G1, 0, none⟩) n n), (.slice (some ⟨G2, 0, none⟩) n n)] 122))).heap.size := by simp
  obtain ⟨kb, hkb⟩ : ∃ q, q = w3.heap.size := ⟨_, rfl⟩
  rw [← hkb] at hk4 hql ⊢
  generalize (w3.alloc (.cells #[(.int .i64 f.params), (.int .i64 n), (.slice Ab f.blocks.length cb), (.slice (some ⟨gd, 0, none⟩) Ld cdd), (.slice (some ⟨G1, 0, none⟩) n n), (.slice (some ⟨G2, 0, none⟩) n n)] 122)) = w4 at *
  have HO4 := Lib.hid (HO3.out.below hb4)
  have HB14 := Lib.hid (HB13.out.trans (hb4.mono hz3))
  have HB04 : Hid (Below w.heap.size w w4) := HB01.out.trans (HB14.out.mono (by omega))
  have hz4 : w.heap.size + 1 ≤ w4.heap.size := by have := hb4.size; omega
  have HBK : Hid (∀ w', Below w4.heap.size w4 w' → ∀ (o : Nat) u, (#[(.int .i64 f.params), (.int .i64 n), (.slice Ab f.blocks.length cb), (.slice (some ⟨gd, 0, none⟩) Ld cdd), (.slice (some ⟨G1, 0, none⟩) n n), (.slice (some ⟨G2, 0, none⟩) n n)] : Array Value)[o]? = some u → w'.cell? ⟨kb, o, none⟩ = some u) := fun w' hb o u hu => (hb.cell (p := ⟨kb, o, none⟩) hql).trans ((cell_of_row w4 kb o _ _ (0, 0) hk4).trans hu)
  clear hb4 hk4 hkb HO3 f0 f1 f2
  obtain ⟨f0, f1, f2⟩ := HFC.out w4 HB14.out
  rw [HNN.out] at f1
  have b4 := HBK.out w4 (Below.refl _ _) 4 _ rfl
  have HQ1 : Hid (QRow w4 (G1 + 1) G1 n fun j => defsN f j) := HO4.out.h1
  have HQ2 : Hid (QRow w4 (G2 + 1) G2 n fun j => takesN f j) := HO4.out.h2
  have hDN : Hid (∀ j, (defsN f j).length ≤ 1000000) := fun j => pick_le _ (Nat.le_trans (defsK_len HP.out _ (Nat.le_refl _)) (by decide))
  have hTN : Hid (∀ j, (takesN f j).length ≤ 1000000) := fun j => pick_le _ (Nat.le_trans (takesK_len HP.out _ (Nat.le_refl _)) (by decide))
  have h1l := HQ1.out.lt
  have h2l := HQ2.out.lt
  go_loop [4] (fun i => ∃ k : Nat, k ≤ n ∧ i = .int .i64 k ∧ Hid (∀ j : Nat, j < k → (defsN f j).length = 1)) (fun i => n - (intOf i).toNat)
  case atStart => exact ⟨0, Nat.zero_le _, rfl, fun _ h => absurd h (by omega)⟩
  case round =>
    obtain ⟨k, hk, rfl, HO⟩ := hrel
    by_cases hlt : k < n
    case pos =>
      have hlt' : (k : Int) < (n : Int) := by omega
      obtain ⟨v, hcv, hov⟩ := HQ1.out.get hlt
      obtain ⟨A5, c5, rfl⟩ := hov.form
      have hlk := hDN.out k
      clear hov
      by_cases h1 : (defsN f k).length = 1
      · have HO' : Hid (∀ j : Nat, j < k + 1 → (defsN f j).length = 1) := fun j hj => by
          by_cases e : j = k
          · subst e; exact h1
          · exact HO.out j (by omega)
        rw [h1] at hcv
        clear h1 hlk
        go_wp2
        go_round
        case rel => exact ⟨k + 1, by omega, by go_num, HO'⟩
        case measure => simp [intOf]; omega
      · have HT : Hid (TwiceP f) := ⟨k, by rw [HNN.out]; omega, h1⟩
        have hb : (((defsN f k).length : Int) != 1) = true := by simp; omega
        clear h1
        go_wp2
        go_ret
        exact ⟨4, rfl, .inr ⟨HNL.out, .inl ⟨HT.out, rfl⟩⟩, HB04.out⟩
    obtain rfl : k = n := by omega
    have HNT : Hid (¬ TwiceP f) := fun ⟨t, ht, h⟩ => h (HO.out t (by rw [HNN.out] at ht; omega))
    go_wp2_with fail
    go_loopw [5, 6] (fun i _ wr => ∃ t : Nat, t ≤ k ∧ i = .int .i64 t ∧ Hid (Below w4.heap.size w4 wr) ∧ Hid (∀ (j : Nat) d p, j < t → (defsN f j)[0]? = some d → p ∈ takesN f j → AheadP f d p)) (fun i _ _ => k - (intOf i).toNat)
    case atStart => exact ⟨0, Nat.zero_le _, rfl, Below.refl _ _, fun _ _ _ h => absurd h (by omega)⟩
    clear f0 f1 f2 b4
    case round =>
      obtain ⟨t, ht, rfl, HB, HA⟩ := hrel
      have HB0r : Hid (Below w.heap.size w wr) := HB04.out.trans (HB.out.mono (by omega))
      obtain ⟨f0, f1, f2⟩ := HFC.out wr (HB14.out.trans (HB.out.mono hz4))
      rw [HNN.out] at f1
      by_cases htn : t < k
      case neg =>
        obtain rfl : t = k := by omega
        have HNL5 : Hid (¬ LooseP f) := fun ⟨j, d, p, hj, hd, hp, h⟩ => h (HA.out j d p (by rw [HNN.out] at hj; omega) hd hp)
        go_wp2_with fail
        go_ret
        exact ⟨0, rfl, .inr ⟨HNL.out, .inr ⟨HNT.out, .inr ⟨HNL5.out, rfl⟩⟩⟩, HB0r.out⟩
      have htn' : (t : Int) < (k : Int) := by omega
      have ht0 : 0 ≤ (t : Int) := by omega
      obtain ⟨v, hcv, hov⟩ := HQ2.out.get htn
      have HCV := Lib.hid hcv
      have HOV := Lib.hid hov.row
      have hovl := hov.lt
      obtain ⟨A6, c6, rfl⟩ := hov.form
      have hTL := hTN.out t
      have hd1 := HO.out t htn
      obtain ⟨d, hd⟩ : ∃ d, defsN f t = [d] := List.length_eq_one_iff.1 hd1
      have HDD := Lib.hid hd
      obtain ⟨s, hs, hsn⟩ := defsN_block HP.out (t := t) (d := d) (by rw [hd]; exact List.mem_singleton.2 rfl)
      obtain ⟨vd, hcd, hod⟩ := HQ1.out.get htn
      rw [hd] at hod
      obtain ⟨Ad, cd, rfl⟩ := hod.form
      obtain ⟨_, A7, c7, e7, hrd⟩ := hod.row
      injection e7 with e1 e0 e2
      clear e0
      subst e1 e2
      obtain ⟨bd, od, rfl, hbd, hrd⟩ := hrd (by simp)
      obtain ⟨ds, hEd, hds⟩ := hrd 0 d rfl
      subst hEd
      have r0 : w4.cell? ⟨bd, od, none⟩ = some (.int .i64 s) := by
        have h := (hds 0 _ rfl).1
        rw [hs] at h
        simpa using h
      have r1 : w4.cell? ⟨bd, od + 1, none⟩ = some (.int .i64 d.src) := by simpa using (hds 1 _ rfl).1
      have hbdl : bd < w4.heap.size := hbd
      have HR0 := Lib.hid r0
      have HR1 := Lib.hid r1
      have HCD := Lib.hid hcd
      have HS := Lib.hid hs
      have HTK : Hid (∀ p, p ∈ takesN f t → ∃ tt : Nat, p.dst = tt ∧ tt < f.blocks.length) := fun p hp => takesN_block hp
      generalize htk : takesN f t = tk at HCV HOV hovl hTL HTK
      have HTT := Lib.hid htk
      clear hcv hov hd1 hd hod hrd hds r0 r1 hcd htk hs
      go_wp2_with fail
      clear f0 f1 f2
      obtain ⟨wo, hwo⟩ : ∃ wo : World, wo = wr := ⟨_, rfl⟩
      subst hwo
      go_loopw [6] (fun i wr => ∃ m : Nat, m ≤ tk.length ∧ i = .int .i64 m ∧ Hid (Below w4.heap.size w4 wr) ∧ Hid (∀ (j : Nat) p, j < m → tk[j]? = some p → AheadP f d p)) (fun i _ => tk.length - (intOf i).toNat)
      case atStart => exact ⟨0, Nat.zero_le _, rfl, HB.out, fun _ _ h => absurd h (by omega)⟩
      case round =>
        obtain ⟨m, hm, rfl, HB, HM⟩ := hrel
        have x5 := HBK.out wr HB.out 5 _ rfl
        have hcw := (HB.out.cell (p := ⟨G2, t, none⟩) h2l).trans HCV.out
        by_cases hml : m < tk.length
        case neg =>
          obtain rfl : m = tk.length := by omega
          have HA' : Hid (∀ (j : Nat) d p, j < t + 1 → (defsN f j)[0]? = some d → p ∈ takesN f j → AheadP f d p) := fun j d' p hj hd' hp' => by
            by_cases e : j = t
            · subst e
              rw [HDD.out] at hd'
              simp at hd'
              subst hd'
              rw [HTT.out] at hp'
              obtain ⟨i, hi⟩ := List.mem_iff_getElem?.1 hp'
              exact HM.out i p (List.getElem?_eq_some_iff.1 hi).1 hi
            · exact HA.out j d' p (by omega) hd' hp'
          go_wp2_with fail
          go_roundw
          case rel => exact ⟨t + 1, by omega, by go_num, HB.out, HA'.out⟩
          case measure => simp [intOf]; omega
        have hpm : tk[m]? = some tk[m] := List.getElem?_eq_getElem hml
        generalize tk[m] = p at hpm
        have hml' : (m : Int) < (tk.length : Int) := by omega
        obtain ⟨_, A8, c8, e8, hrow⟩ := HOV.out
        injection e8 with e1 e0 e2
        clear e0
        subst e1 e2
        obtain ⟨b6, o6, rfl, _, hrow⟩ := hrow (by rintro rfl; simp at hml)
        obtain ⟨ds, hEp, hds⟩ := hrow m p hpm
        subst hEp
        have hb6l : b6 < w4.heap.size := (hovl b6 rfl).2
        obtain ⟨tt, htt, httn⟩ := HTK.out p (List.mem_of_getElem? hpm)
        have HP0 : Hid (w4.cell? ⟨b6, o6 + m * 2, none⟩ = some (.int .i64 tt)) := by rw [Hid, ← htt]; exact (hds 0 _ rfl).1
        have HP1 : Hid (w4.cell? ⟨b6, o6 + m * 2 + 1, none⟩ = some (.int .i64 p.src)) := (hds 1 _ rfl).1
        have HPM := Lib.hid hpm
        have hzr := HB.out.size
        have HPD := Lib.hid (AheadPM (f := f) (d := d) (p := p) HS.out htt)
        have hKS : ∀ w', Below wr.heap.size wr w' → (fun w' => w'.cell? ⟨kb, 0, none⟩ = some (.int .i64 f.params) ∧ w'.cell? ⟨kb, 1, none⟩ = some (.int .i64 k) ∧ w'.cell? ⟨kb, 2, none⟩ = some (.slice Ab f.blocks.length cb) ∧ w'.cell? ⟨kb, 3, none⟩ = some (.slice (some ⟨gd, 0, none⟩) Ld cdd) ∧ w'.cell? ⟨kb, 4, none⟩ = some (.slice (some ⟨G1, 0, none⟩) k k) ∧ w'.cell? ⟨kb, 5, none⟩ = some (.slice (some ⟨G2, 0, none⟩) k k) ∧ w'.cell? ⟨G1, t, none⟩ = some (.slice (some ⟨bd, od, none⟩) 1 cd) ∧ w'.cell? ⟨bd, od, none⟩ = some (.int .i64 s) ∧ w'.cell? ⟨bd, od + 1, none⟩ = some (.int .i64 d.src) ∧ w'.cell? ⟨G2, t, none⟩ = some (.slice (some ⟨b6, o6, none⟩) tk.length c6) ∧ w'.cell? ⟨b6, o6 + m * 2, none⟩ = some (.int .i64 tt) ∧ w'.cell? ⟨b6, o6 + m * 2 + 1, none⟩ = some (.int .i64 p.src)) w' := fun w' h => by
          have h5 : Below w4.heap.size w4 w' := HB.out.trans (h.mono hzr)
          have x := HBK.out w' h5
          exact ⟨x 0 _ rfl, x 1 _ rfl, x 2 _ rfl, x 3 _ rfl, x 4 _ rfl, x 5 _ rfl, (h5.cell (p := ⟨G1, t, none⟩) h1l).trans HCD.out, (h5.cell (p := ⟨bd, _, none⟩) hbdl).trans HR0.out, (h5.cell (p := ⟨bd, _, none⟩) hbdl).trans HR1.out, (h5.cell (p := ⟨G2, t, none⟩) h2l).trans HCV.out, (h5.cell (p := ⟨b6, _, none⟩) hb6l).trans HP0.out, (h5.cell (p := ⟨b6, _, none⟩) hb6l).trans HP1.out⟩
        have HKS := Lib.hid hKS
        have HAH : Hid (∀ w', OSt f w' (w1.heap.size + 2) K G1 G2 k (.slice Ab f.blocks.length cb) (.slice (some ⟨gd, 0, none⟩) Ld cdd) qs (defsK f f.blocks.length) (takesK f f.blocks.length) → Calls Tryz.prog 76 #[.agg #[.int .i64 f.params, .int .i64 k, .slice Ab f.blocks.length cb, .slice (some ⟨gd, 0, none⟩) Ld cdd, .slice (some ⟨G1, 0, none⟩) k k, .slice (some ⟨G2, 0, none⟩) k k], .agg #[.int .i64 s, .int .i64 d.src], .agg #[.int .i64 tt, .int .i64 p.src]] w' (GivesB (AheadP f ⟨s, d.src⟩ ⟨tt, p.src⟩) w')) := fun w' ho => by
          have h := l5Ahead_any f _ K G1 G2 k _ _ qs _ _ s tt d.src p.src w' ho HQ.out Ab cb rfl hsn httn h40
          rwa [HNN.out] at h
        have Kd : (fun w' => w'.cell? ⟨kb, 0, none⟩ = some (.int .i64 f.params) ∧ w'.cell? ⟨kb, 1, none⟩ = some (.int .i64 k) ∧ w'.cell? ⟨kb, 2, none⟩ = some (.slice Ab f.blocks.length cb) ∧ w'.cell? ⟨kb, 3, none⟩ = some (.slice (some ⟨gd, 0, none⟩) Ld cdd) ∧ w'.cell? ⟨kb, 4, none⟩ = some (.slice (some ⟨G1, 0, none⟩) k k) ∧ w'.cell? ⟨kb, 5, none⟩ = some (.slice (some ⟨G2, 0, none⟩) k k) ∧ w'.cell? ⟨G1, t, none⟩ = some (.slice (some ⟨bd, od, none⟩) 1 cd) ∧ w'.cell? ⟨bd, od, none⟩ = some (.int .i64 s) ∧ w'.cell? ⟨bd, od + 1, none⟩ = some (.int .i64 d.src) ∧ w'.cell? ⟨G2, t, none⟩ = some (.slice (some ⟨b6, o6, none⟩) tk.length c6) ∧ w'.cell? ⟨b6, o6 + m * 2, none⟩ = some (.int .i64 tt) ∧ w'.cell? ⟨b6, o6 + m * 2 + 1, none⟩ = some (.int .i64 p.src)) wr.drew := hKS _ (Below.refl _ _).drew
        have HOr := Lib.hid (HO4.out.below HB.out)
        clear hds hrow hpm htt hKS
        go_upto_region 15 with fail
        clear x5 hcw
        refine wp_region_held_drew (S := ((fun w' => w'.cell? ⟨kb, 0, none⟩ = some (.int .i64 f.params) ∧ w'.cell? ⟨kb, 1, none⟩ = some (.int .i64 k) ∧ w'.cell? ⟨kb, 2, none⟩ = some (.slice Ab f.blocks.length cb) ∧ w'.cell? ⟨kb, 3, none⟩ = some (.slice (some ⟨gd, 0, none⟩) Ld cdd) ∧ w'.cell? ⟨kb, 4, none⟩ = some (.slice (some ⟨G1, 0, none⟩) k k) ∧ w'.cell? ⟨kb, 5, none⟩ = some (.slice (some ⟨G2, 0, none⟩) k k) ∧ w'.cell? ⟨G1, t, none⟩ = some (.slice (some ⟨bd, od, none⟩) 1 cd) ∧ w'.cell? ⟨bd, od, none⟩ = some (.int .i64 s) ∧ w'.cell? ⟨bd, od + 1, none⟩ = some (.int .i64 d.src) ∧ w'.cell? ⟨G2, t, none⟩ = some (.slice (some ⟨b6, o6, none⟩) tk.length c6) ∧ w'.cell? ⟨b6, o6 + m * 2, none⟩ = some (.int .i64 tt) ∧ w'.cell? ⟨b6, o6 + m * 2 + 1, none⟩ = some (.int .i64 p.src)))) (by kernel_rfl) ?_ (fun hHeld => ?_)
        · (try dsimp only)
          (first | exact Kd | exact HK7.out | fail)
        refine wpAnyH_take (i := 0) (v := ?_) rfl (by kernel_rfl) (by kernel_rfl) (by kernel_rfl) (fun _ _ _ h => h) (Or.inl ⟨by rfl, ?_⟩) (by assumption) ?_
        rotate_left
        · intro w hSw
          simp only [List.getElem_toArray, List.getElem_cons_zero]
          (try dsimp only at hSw)
          go_simp
          first | done | (with_reducible rfl)
        simp only [List.getElem_toArray, List.getElem_cons_zero, Act.put, List.setIfInBounds_toArray, List.set_cons_zero, List.set_cons_succ]
        refine wpAnyH_take (i := 1) (v := ?_) rfl (by kernel_rfl) (by kernel_rfl) (by kernel_rfl) (fun _ _ _ h => h) (Or.inl ⟨by rfl, ?_⟩) (by assumption) ?_
        rotate_left
        · intro w hSw
          simp only [List.getElem_toArray, List.getElem_cons_succ, List.getElem_cons_zero]
          (try dsimp only at hSw)
          go_simp
          first | done | (with_reducible rfl)
        simp only [List.getElem_toArray, List.getElem_cons_succ, List.getElem_cons_zero, Act.put, List.setIfInBounds_toArray, List.set_cons_zero, List.set_cons_succ]
        refine wpAnyH_take (i := 2) (v := ?_) rfl (by kernel_rfl) (by kernel_rfl) (by kernel_rfl) (fun _ _ _ h => h) (Or.inl ⟨by rfl, ?_⟩) (by assumption) ?_
        rotate_left
        · intro w hSw
          simp only [List.getElem_toArray, List.getElem_cons_succ, List.getElem_cons_zero]
          (try dsimp only at hSw)
          go_simp
          first | done | (with_reducible rfl)
        simp only [List.getElem_toArray, List.getElem_cons_succ, List.getElem_cons_zero, Act.put, List.setIfInBounds_toArray, List.set_cons_zero, List.set_cons_succ]
        refine wpAnyH_take (i := 3) (v := ?_) rfl (by kernel_rfl) (by kernel_rfl) (by kernel_rfl) (fun _ _ _ h => h) (Or.inl ⟨by rfl, ?_⟩) (by assumption) ?_
        rotate_left
        · intro w hSw
          simp only [List.getElem_toArray, List.getElem_cons_succ, List.getElem_cons_zero]
          (try dsimp only at hSw)
          go_simp
          first | done | (with_reducible rfl)
        simp only [List.getElem_toArray, List.getElem_cons_succ, List.getElem_cons_zero, Act.put, List.setIfInBounds_toArray, List.set_cons_zero, List.set_cons_succ]
        refine wpAnyH_take (i := 4) (v := ?_) rfl (by kernel_rfl) (by kernel_rfl) (by kernel_rfl) (fun _ _ _ h => h) (Or.inl ⟨by rfl, ?_⟩) (by assumption) ?_
        rotate_left
        · intro w hSw
          simp only [List.getElem_toArray, List.getElem_cons_succ, List.getElem_cons_zero]
          (try dsimp only at hSw)
          go_simp
          first | done | (with_reducible rfl)
        simp only [List.getElem_toArray, List.getElem_cons_succ, List.getElem_cons_zero, Act.put, List.setIfInBounds_toArray, List.set_cons_zero, List.set_cons_succ]
        refine wpAnyH_take (i := 5) (v := ?_) rfl (by kernel_rfl) (by kernel_rfl) (by kernel_rfl) (fun _ _ _ h => h) (Or.inl ⟨by rfl, ?_⟩) (by assumption) ?_
        rotate_left
        · intro w hSw
          simp only [List.getElem_toArray, List.getElem_cons_succ, List.getElem_cons_zero]
          (try dsimp only at hSw)
          go_simp
          first | done | (with_reducible rfl)
        simp only [List.getElem_toArray, List.getElem_cons_succ, List.getElem_cons_zero, Act.put, List.setIfInBounds_toArray, List.set_cons_zero, List.set_cons_succ]
        refine wpAnyH_take (i := 6) (v := ?_) rfl (by kernel_rfl) (by kernel_rfl) (by kernel_rfl) (fun _ _ _ h => h) (Or.inl ⟨by rfl, ?_⟩) (by assumption) ?_
        rotate_left
        · intro w hSw
          simp only [List.getElem_toArray, List.getElem_cons_succ, List.getElem_cons_zero]
          (try dsimp only at hSw)
          go_simp
          first | done | (with_reducible rfl)
        simp only [List.getElem_toArray, List.getElem_cons_succ, List.getElem_cons_zero, Act.put, List.setIfInBounds_toArray, List.set_cons_zero, List.set_cons_succ]
        refine wpAnyH_take (i := 7) (v := ?_) rfl (by kernel_rfl) (by kernel_rfl) (by kernel_rfl) (fun _ _ _ h => h) (Or.inl ⟨by rfl, ?_⟩) (by assumption) ?_
        rotate_left
        · intro w hSw
          simp only [List.getElem_toArray, List.getElem_cons_succ, List.getElem_cons_zero]
          (try dsimp only at hSw)
          go_simp
          first | done | (with_reducible rfl)
        simp only [List.getElem_toArray, List.getElem_cons_succ, List.getElem_cons_zero, Act.put, List.setIfInBounds_toArray, List.set_cons_zero, List.set_cons_succ]
        refine wpAnyH_take (i := 8) (v := ?_) rfl (by kernel_rfl) (by kernel_rfl) (by kernel_rfl) (fun _ _ _ h => h) (Or.inl ⟨by rfl, ?_⟩) (by assumption) ?_
        rotate_left
        · intro w hSw
          simp only [List.getElem_toArray, List.getElem_cons_succ, List.getElem_cons_zero]
          (try dsimp only at hSw)
          go_simp
          first | done | (with_reducible rfl)
        simp only [List.getElem_toArray, List.getElem_cons_succ, List.getElem_cons_zero, Act.put, List.setIfInBounds_toArray, List.set_cons_zero, List.set_cons_succ]
        refine wpAnyH_take (i := 9) (v := ?_) rfl (by kernel_rfl) (by kernel_rfl) (by kernel_rfl) (fun _ _ _ h => h) (Or.inl ⟨by rfl, ?_⟩) (by assumption) ?_
        rotate_left
        · intro w hSw
          simp only [List.getElem_toArray, List.getElem_cons_succ, List.getElem_cons_zero]
          (try dsimp only at hSw)
          go_simp
          first | done | (with_reducible rfl)
        simp only [List.getElem_toArray, List.getElem_cons_succ, List.getElem_cons_zero, Act.put, List.setIfInBounds_toArray, List.set_cons_zero, List.set_cons_succ]
        refine wpAnyH_take (i := 10) (v := ?_) rfl (by kernel_rfl) (by kernel_rfl) (by kernel_rfl) (fun _ _ _ h => h) (Or.inl ⟨by rfl, ?_⟩) (by assumption) ?_
        rotate_left
        · intro w hSw
          simp only [List.getElem_toArray, List.getElem_cons_succ, List.getElem_cons_zero]
          (try dsimp only at hSw)
          go_simp
          first | done | (with_reducible rfl)
        simp only [List.getElem_toArray, List.getElem_cons_succ, List.getElem_cons_zero, Act.put, List.setIfInBounds_toArray, List.set_cons_zero, List.set_cons_succ]
        refine wpAnyH_take (i := 11) (v := ?_) rfl (by kernel_rfl) (by kernel_rfl) (by kernel_rfl) (fun _ _ _ h => h) (Or.inl ⟨by rfl, ?_⟩) (by assumption) ?_
        rotate_left
        · intro w hSw
          simp only [List.getElem_toArray, List.getElem_cons_succ, List.getElem_cons_zero]
          (try dsimp only at hSw)
          go_simp
          first | done | (with_reducible rfl)
        simp only [List.getElem_toArray, List.getElem_cons_succ, List.getElem_cons_zero, Act.put, List.setIfInBounds_toArray, List.set_cons_zero, List.set_cons_succ]
        refine wpAnyH_take (i := 12) (v := ?_) rfl (by kernel_rfl) (by kernel_rfl) (by kernel_rfl) (fun _ _ _ h => h) (Or.inl ⟨by rfl, ?_⟩) (by assumption) ?_
        rotate_left
        · intro w hSw
          simp only [List.getElem_toArray, List.getElem_cons_succ, List.getElem_cons_zero]
          (try dsimp only at hSw)
          go_simp
          first | done | (with_reducible rfl)
        simp only [List.getElem_toArray, List.getElem_cons_succ, List.getElem_cons_zero, Act.put, List.setIfInBounds_toArray, List.set_cons_zero, List.set_cons_succ]
        refine wpAnyH_take (i := 13) (v := ?_) rfl (by kernel_rfl) (by kernel_rfl) (by kernel_rfl) (fun _ _ _ h => h) (Or.inl ⟨by rfl, ?_⟩) (by assumption) ?_
        rotate_left
        · intro w hSw
          simp only [List.getElem_toArray, List.getElem_cons_succ, List.getElem_cons_zero]
          (try dsimp only at hSw)
          go_simp
          first | done | (with_reducible rfl)
        simp only [List.getElem_toArray, List.getElem_cons_succ, List.getElem_cons_zero, Act.put, List.setIfInBounds_toArray, List.set_cons_zero, List.set_cons_succ]
        refine wpAnyH_take (i := 14) (v := ?_) rfl (by kernel_rfl) (by kernel_rfl) (by kernel_rfl) (fun _ _ _ h => h) (Or.inl ⟨by rfl, ?_⟩) (by assumption) ?_
        rotate_left
        · intro w hSw
          simp only [List.getElem_toArray, List.getElem_cons_succ, List.getElem_cons_zero]
          (try dsimp only at hSw)
          go_simp
          first | done | (with_reducible rfl)
        simp only [List.getElem_toArray, List.getElem_cons_succ, List.getElem_cons_zero, Act.put, List.setIfInBounds_toArray, List.set_cons_zero, List.set_cons_succ]
        refine wpAnyH_take (i := 15) (v := ?_) rfl (by kernel_rfl) (by kernel_rfl) (by kernel_rfl) (fun _ _ _ h => h) (Or.inl ⟨by rfl, ?_⟩) (by assumption) ?_
        rotate_left
        · intro w hSw
          simp only [List.getElem_toArray, List.getElem_cons_succ, List.getElem_cons_zero]
          (try dsimp only at hSw)
          go_simp
          first | done | (with_reducible rfl)
        simp only [List.getElem_toArray, List.getElem_cons_succ, List.getElem_cons_zero, Act.put, List.setIfInBounds_toArray, List.set_cons_zero, List.set_cons_succ]
        refine wpAnyH_ready (rs := [16]) (by kernel_rfl) (by simp) ?_
        refine AllReadyH.cons rfl (fun KZ hKZ => ?_) AllReadyH.nil
        simp only [List.getElem_toArray, List.getElem_cons_succ, List.getElem_cons_zero]
        go_simp
        (first | (go_at_call 76; refine (HAH.out _ (HOr.out.below ((Below.refl _ _).drew))).mono ?_; rintro e w7 ⟨ra, rfl, hra, hb7⟩; have HB7 : Hid (Below wr.heap.size wr w7) := (Below.refl _ _).drew.trans hb7; have HK7 := Lib.hid (HKS.out w7 HB7.out); have HRA := Lib.hid hra; clear hb7 hra) | fail)
        go_wp2_with fail
        refine hKZ.out _ _ ?_ (fun hHeld => ?_)
        · (try dsimp only)
          (first | exact Kd | exact HK7.out | fail)
        clear hKZ KZ
        (try simp only [List.getElem_toArray, List.getElem_cons_succ, List.getElem_cons_zero, Act.put, List.setIfInBounds_toArray, List.set_cons_zero, List.set_cons_succ])
        refine wpAnyH_take (i := 17) (v := ?_) rfl (by kernel_rfl) (by kernel_rfl) (by kernel_rfl) (fun _ _ _ h => h) (Or.inl ⟨by rfl, ?_⟩) (by assumption) ?_
        rotate_left
        · intro w hSw
          simp only [List.getElem_toArray, List.getElem_cons_succ, List.getElem_cons_zero]
          (try dsimp only at hSw)
          go_simp
          first | done | (with_reducible rfl)
        simp only [List.getElem_toArray, List.getElem_cons_succ, List.getElem_cons_zero, Act.put, List.setIfInBounds_toArray, List.set_cons_zero, List.set_cons_succ]
        refine wpAnyH_done (by kernel_rfl) ?_ _
        have HB9 := Lib.hid (HB.out.trans (HB7.out.mono hzr))
        have HB09 : Hid (Below w.heap.size w w7) := HB04.out.trans (HB9.out.mono (by omega))
        clear Kd HK7
        cases ra
        · have HL : Hid (LooseP f) := ⟨t, d, p, by rw [HNN.out]; omega, by rw [HDD.out]; rfl, by rw [HTT.out]; exact List.mem_of_getElem? HPM.out, fun h => by have := HRA.out.2 (HPD.out.1 h); cases this⟩
          go_wp2_with fail
          go_ret
          exact ⟨5, rfl, .inr ⟨HNL.out, .inr ⟨HNT.out, .inl ⟨HL.out, rfl⟩⟩⟩, HB09.out⟩
        have HM' : Hid (∀ (j : Nat) p, j < m + 1 → tk[j]? = some p → AheadP f d p) := fun j p' hj hp' => by
          by_cases e : j = m
          · subst e
            rw [HPM.out] at hp'
            injection hp' with hp'
            subst hp'
            exact HPD.out.2 (HRA.out.1 rfl)
          · exact HM.out j p' (by omega) hp'
        go_wp2_with fail
        go_roundw
        case rel => exact ⟨m + 1, by omega, by go_num, HB9.out, HM'.out⟩
        case measure => simp [intOf]; omega

def StrictP (f : FunD) : Prop := FunP f ∧ CodeP f 0

set_option maxHeartbeats 1000000 in
theorem sStrict_any (f : FunD) (v : Value) (w : World) (Z : Zn) (hv : EFun w Z f v) (hD : ∀ b, Z.D b → b < w.heap.size) (hn : f.blocks.length ≤ 1048576) : Calls Tryz.prog 17 #[v] w (GivesB (StrictP f) w) := by
  have HF := Lib.hid hv
  obtain ⟨u, rfl, hu⟩ := hv
  obtain ⟨_, A, c, rfl, hx⟩ := hu
  clear hx
  go_enter Tryz.func17, Tryz.ntmps17
  go_wp2_with fail
  refine (sFunOk_any f _ _ Z (HF.out.keep (Kept.below ((Below.refl _ _).alloc (Nat.le_refl _) _) hD)) (fun b hb => by have := hD b hb; simp; omega) hn).mono ?_
  rintro e w1 ⟨r, rfl, hr, hb1⟩
  have HR := Lib.hid hr
  have HB1 := Lib.hid (hb1.mono (B' := w.heap.size + 1) (by simp))
  have HB01 : Hid (Below w.heap.size w w1) := ((Below.refl _ _).alloc (Nat.le_refl _) _).trans (HB1.out.mono (by omega))
  have hz1 : w.heap.size + 1 ≤ w1.heap.size := by have := hb1.size; simp at this; omega
  have f0 : w1.cell? ⟨w.heap.size, 0, none⟩ = some (.int .i64 f.params) := (HB1.out.cell (p := ⟨w.heap.size, 0, none⟩) (by simp)).trans (by go_simp)
  have f1 : w1.cell? ⟨w.heap.size, 1, none⟩ = some (.int .i64 f.names) := (HB1.out.cell (p := ⟨w.heap.size, 1, none⟩) (by simp)).trans (by go_simp)
  have f2 : w1.cell? ⟨w.heap.size, 2, none⟩ = some (.slice A f.blocks.length c) := (HB1.out.cell (p := ⟨w.heap.size, 2, none⟩) (by simp)).trans (by go_simp)
  clear hb1 hr
  cases r
  · have HN : Hid (¬ StrictP f) := fun h => by have := HR.out.2 h.1; cases this
    go_wp2_with fail
    go_ret
    exact gives_no HN.out HB01.out
  have HP := Lib.hid (HR.out.1 rfl)
  clear HR
  go_wp2_with (go_at_call 37; refine (l5Code_any f _ _ Z HP.out (HF.out.keep (Kept.below HB01.out hD)) (fun b hb => by have := hD b hb; omega)).mono ?_; rintro e w2 ⟨cc, rfl, hc, hb2⟩; have HC := Lib.hid hc; have HB02 : Hid (Below w.heap.size w w2) := HB01.out.trans (hb2.mono (by omega)); clear hc hb2)
  go_ret
  refine ⟨cc == 0, rfl, ?_, HB02.out⟩
  rw [beq_iff_eq]
  exact ⟨fun h => ⟨HP.out, h ▸ HC.out⟩, fun h => HC.out.one h.2⟩
end

/- strictFault of the program. -/
section
open Go.ChangeShapes Go.WideShapes Go.ChangeAt Go.RowKit Go.Joins

/-- What the listed errors are: E of their codes. -/
def Errs (w : World) (E : Int → Addr) : Prop := w.cell? ⟨1, 0, none⟩ = some (.iface 219 (.pointer (some (E 1)))) ∧ w.cell? ⟨4, 0, none⟩ = some (.iface 219 (.pointer (some (E 3)))) ∧ w.cell? ⟨5, 0, none⟩ = some (.iface 219 (.pointer (some (E 4)))) ∧ w.cell? ⟨6, 0, none⟩ = some (.iface 219 (.pointer (some (E 5))))
theorem AheadPD {f : FunD} {d p : MoveD} {s tt : Nat} (hs : d.dst = s) (ht : p.dst = tt) : AheadP f d p ↔ AheadP f ⟨s, d.src⟩ ⟨tt, p.src⟩ := by rw [← hs, ← ht]
theorem Errs.keep {w w' : World} {E : Int → Addr} (h : Errs w E) (hb : Below w.heap.size w w') : Errs w' E :=
  ⟨(hb.cell (p := ⟨_, 0, none⟩) (World.block_lt_of_cell? w ⟨_, 0, none⟩ h.1)).trans h.1, (hb.cell (p := ⟨_, 0, none⟩) (World.block_lt_of_cell? w ⟨_, 0, none⟩ h.2.1)).trans h.2.1,
   (hb.cell (p := ⟨_, 0, none⟩) (World.block_lt_of_cell? w ⟨_, 0, none⟩ h.2.2.1)).trans h.2.2.1, (hb.cell (p := ⟨_, 0, none⟩) (World.block_lt_of_cell? w ⟨_, 0, none⟩ h.2.2.2)).trans h.2.2.2⟩
def CodeF (f : FunD) (c : Int) : Prop := (¬ FunP f ∧ c = 1) ∨ (FunP f ∧ CodeP f c)
def FaultV (E : Int → Addr) (c : Int) (v : Value) : Prop := (c = 0 ∧ v = Value.nilIface) ∨ (c ≠ 0 ∧ v = .iface 70 (.agg #[.int .i64 c, .iface 219 (.pointer (some (E c)))]))
def GivesFault (f : FunD) (E : Int → Addr) (w : World) (e : Ending) (w' : World) : Prop := ∃ c v, e = .returned v ∧ CodeF f c ∧ FaultV E c v ∧ Below w.heap.size w w'

set_option maxRecDepth 10000 in
set_option maxHeartbeats 2000000 in
theorem strictFault_any (f : FunD) (v : Value) (E : Int → Addr) (w : World) (Z : Zn) (hv : EFun w Z f v) (hD : ∀ b, Z.D b → b < w.heap.size) (hn : f.blocks.length ≤ 1048576) (hE : Errs w E) : Calls Tryz.prog 39 #[v] w (GivesFault f E w) := by
  have HF := Lib.hid hv
  have HE := Lib.hid hE
  obtain ⟨u, rfl, hu⟩ := hv
  have HROW := Lib.hid hu
  obtain ⟨_, A, c, rfl, hx⟩ := hu
  clear hx hE
  go_enter Tryz.func39, Tryz.ntmps39
  go_wp2_with fail
  refine (FunOk_any f _ _ Z (HF.out.keep (Kept.below ((Below.refl _ _).alloc (Nat.le_refl _) _) hD)) (fun b hb => by have := hD b hb; simp; omega) hn).mono ?_
  rintro e w1 ⟨r, rfl, hr, hb1⟩
  have HR := Lib.hid hr
  have HB1 := Lib.hid (hb1.mono (B' := w.heap.size + 1) (by simp))
  have HB01 : Hid (Below w.heap.size w w1) := ((Below.refl _ _).alloc (Nat.le_refl _) _).trans (HB1.out.mono (by omega))
  have hz1 : w.heap.size + 1 ≤ w1.heap.size := by have := hb1.size; simp at this; omega
  have HFC : Hid (∀ w', Below (w.heap.size + 1) w1 w' → w'.cell? ⟨w.heap.size, 0, none⟩ = some (.int .i64 f.params) ∧ w'.cell? ⟨w.heap.size, 1, none⟩ = some (.int .i64 f.names) ∧ w'.cell? ⟨w.heap.size, 2, none⟩ = some (.slice A f.blocks.length c)) := fun w' hb =>
    have h := HB1.out.trans hb
    ⟨(h.cell (p := ⟨w.heap.size, 0, none⟩) (by simp)).trans (by go_simp), (h.cell (p := ⟨w.heap.size, 1, none⟩) (by simp)).trans (by go_simp), (h.cell (p := ⟨w.heap.size, 2, none⟩) (by simp)).trans (by go_simp)⟩
  clear hb1 hr
  have hE1 := (HE.out.keep HB01.out).1
  obtain ⟨f0, f1, f2⟩ := HFC.out w1 (Below.refl _ _)
  cases r
  · have HN : Hid (¬ FunP f) := fun h => by have := HR.out.2 h; cases this
    go_wp2_with fail
    go_ret
    exact ⟨1, _, rfl, .inl ⟨HN.out, rfl⟩, .inr ⟨by decide, rfl⟩, HB01.out⟩
  have HP := Lib.hid (HR.out.1 rfl)
  clear HR hE1
  go_wp2_with fail
  refine (domsOfAll_any f _ _ Z HP.out (HROW.out.keep (Kept.below HB01.out hD) fun _ _ h => EBlock.keep h (Kept.below HB01.out hD)) (fun b hb => by have := hD b hb; omega)).mono ?_
  rintro e w2 ⟨q, D, rfl, hu2, hq2, hd2, hb2⟩
  have HU2 := Lib.hid hu2
  have HD2 := Lib.hid hd2
  have hz2 : w.heap.size + 1 ≤ w2.heap.size := by have := hb2.size; omega
  have HB12 := Lib.hid (hb2.mono hz1)
  clear hb2 hu2 hd2 f0 f1 f2
  go_wp2_with fail
  refine (ContainsB_any f D q _ HP.out HU2.out HD2.out).mono ?_
  rintro e w3 ⟨r, rfl, hr, hb3⟩
  have HR := Lib.hid hr
  have hz3 : w.heap.size + 1 ≤ w3.heap.size := by have := hb3.size; omega
  have HB13 := Lib.hid (HB12.out.trans (hb3.mono hz2))
  have HB03 : Hid (Below w.heap.size w w3) := HB01.out.trans (HB13.out.mono (by omega))
  have HU3 := Lib.hid (HU2.out.fw (Fw.below hb3) (P := fun _ => False) fun h => h)
  have hq3 : q < w3.heap.size := HU3.out.lt
  have hE3 := (HE.out.keep HB03.out).2.1
  obtain ⟨f0, f1, f2⟩ := HFC.out w3 HB13.out
  clear hb3 hr HU2 hq2
  cases r
  case true =>
    have HL := Lib.hid (HR.out.1 rfl)
    clear HR
    go_wp2_with fail
    go_ret
    exact ⟨3, _, rfl, .inr ⟨HP.out, .inl ⟨HL.out, rfl⟩⟩, .inr ⟨by decide, rfl⟩, HB03.out⟩
  have HNL : Hid (¬ LostP f) := fun h => by have := HR.out.2 h; cases this
  clear HR hE3
  go_wp2_with fail
  refine (defsOfAll_any f _ _ Z HP.out (HF.out.keep (Kept.below HB03.out hD)) (fun b hb => by have := hD b hb; omega)).mono ?_
  rintro e w4 ⟨G, rfl, hG, hq4, hb4⟩
  obtain ⟨n, hnn⟩ : ∃ n : Nat, f.names = n := ⟨f.names.toNat, by have := HP.out.1.2.1.1; omega⟩
  rw [hnn, show ((n : Int)).toNat = n by omega] at hq4 ⊢
  have HNN := Lib.hid hnn
  have hn150 : n ≤ 150 := by have := HP.out.1.2.1.2; omega
  have HQ4 : Hid (QRow w4 (G + 1) G n fun j => defsN f j) := hq4
  have hz4 : w.heap.size + 1 ≤ w4.heap.size := by have := hb4.size; omega
  have HB14 := Lib.hid (HB13.out.trans (hb4.mono hz3))
  have HB04 : Hid (Below w.heap.size w w4) := HB01.out.trans (HB14.out.mono (by omega))
  have HU4 := Lib.hid (HU3.out.fw (Fw.below hb4) (P := fun _ => False) fun h => h)
  have hGl := HQ4.out.lt
  have hE4 := (HE.out.keep HB04.out).2.2.1
  obtain ⟨f0', f1', f2'⟩ := HFC.out w4 HB14.out
  rw [hnn] at f1 f1'
  have hDN : Hid (∀ j, (defsN f j).length ≤ 1000000) := fun j => pick_le _ (Nat.le_trans (defsK_len HP.out _ (Nat.le_refl _)) (by decide))
  clear hb4 hq4 hnn f0 f1 f2 HU3
  go_wp2_with fail
  go_loop [29] (fun i => ∃ k : Nat, k ≤ n ∧ i = .int .i64 k ∧ Hid (∀ j : Nat, j < k → (defsN f j).length = 1)) (fun i => n - (intOf i).toNat)
  case atStart => exact ⟨0, Nat.zero_le _, rfl, fun _ h => absurd h (by omega)⟩
  case round =>
    obtain ⟨k, hk, rfl, HO⟩ := hrel
    by_cases hlt : k < n
    case pos =>
      have hlt' : (k : Int) < (n : Int) := by omega
      obtain ⟨v, hcv, hov⟩ := HQ4.out.get hlt
      obtain ⟨A5, c5, rfl⟩ := hov.form
      have hlk := hDN.out k
      clear hov
      by_cases h1 : (defsN f k).length = 1
      · have hb : (((defsN f k).length : Int) != 1) = false := by simp; omega
        have HO' : Hid (∀ j : Nat, j < k + 1 → (defsN f j).length = 1) := fun j hj => by
          by_cases e : j = k
          · subst e; exact h1
          · exact HO.out j (by omega)
        have h1' : ((defsN f k).length : Int) = 1 := by omega
        rw [h1] at hcv
        clear hb h1 h1' hlk
        go_wp2
        go_round
        case rel => exact ⟨k + 1, by omega, by go_num, HO'⟩
        case measure => simp [intOf]; omega
      · have HT : Hid (TwiceP f) := ⟨k, by rw [HNN.out]; omega, h1⟩
        have hb : (((defsN f k).length : Int) != 1) = true := by simp; omega
        clear h1
        go_wp2
        go_ret
        exact ⟨4, _, rfl, .inr ⟨HP.out, .inr ⟨HNL.out, .inl ⟨HT.out, rfl⟩⟩⟩, .inr ⟨by decide, rfl⟩, HB04.out⟩
    obtain rfl : k = n := by omega
    have HNT : Hid (¬ TwiceP f) := fun ⟨t, ht, h⟩ => h (HO.out t (by rw [HNN.out] at ht; omega))
    clear hE4
    go_wp2_with fail
    refine (takesOfAll_any f _ _ Z HP.out (by have h := HF.out.keep (Kept.below HB04.out hD); rwa [HNN.out] at h) (fun b hb => by have := hD b hb; omega)).mono ?_
    rintro e w5 ⟨G5, rfl, hG5, hq5, hb5⟩
    rw [HNN.out, show ((k : Int)).toNat = k by omega] at hq5 ⊢
    have HQ5 := Lib.hid hq5
    have hz5 : w.heap.size + 1 ≤ w5.heap.size := by have := hb5.size; omega
    have HB05 : Hid (Below w.heap.size w w5) := HB04.out.trans (hb5.mono (by omega))
    have HU5 := Lib.hid (HU4.out.fw (Fw.below hb5) (P := fun _ => False) fun h => h)
    have HQD := Lib.hid (HQ4.out.below hb5)
    have hgd := HQD.out.lt
    clear hb5 hq5 f0' f1' f2' HU4 HQ4
    go_wp2_with fail
    go_loopw [43] (fun i wr => ∃ t : Nat, t ≤ k ∧ i = .int .i64 t ∧ Hid (Below w5.heap.size w5 wr) ∧ Hid (∀ (j : Nat) d p, j < t → (defsN f j)[0]? = some d → p ∈ takesN f j → AheadP f d p)) (fun i _ => k - (intOf i).toNat)
    case atStart => exact ⟨0, Nat.zero_le _, rfl, Below.refl _ _, fun _ _ _ h => absurd h (by omega)⟩
    case round =>
      obtain ⟨t, ht, rfl, HB, HA⟩ := hrel
      have HB0r : Hid (Below w.heap.size w wr) := HB05.out.trans (HB.out.mono (by omega))
      by_cases htn : t < k
      case neg =>
        obtain rfl : t = k := by omega
        have HNL5 : Hid (¬ LooseP f) := fun ⟨j, d, p, hj, hd, hp, h⟩ => h (HA.out j d p (by rw [HNN.out] at hj; omega) hd hp)
        go_wp2_with fail
        go_ret
        exact ⟨0, _, rfl, .inr ⟨HP.out, .inr ⟨HNL.out, .inr ⟨HNT.out, .inr ⟨HNL5.out, rfl⟩⟩⟩⟩, .inl ⟨rfl, rfl⟩, HB0r.out⟩
      have htn' : (t : Int) < (k : Int) := by omega
      have ht0 : 0 ≤ (t : Int) := by omega
      obtain ⟨v, hcv, hov⟩ := HQ5.out.get htn
      have hcv' := (HB.out.cell (p := ⟨G5, t, none⟩) HQ5.out.lt).trans hcv
      have HOV := Lib.hid hov.row
      have hovl := hov.lt
      obtain ⟨A6, c6, rfl⟩ := hov.form
      have hTL : (pickO (takesK f f.blocks.length) t).length ≤ 1000000 := pickO_le _ (Nat.le_trans (takesK_len HP.out _ (Nat.le_refl _)) (by decide))
      -- the one giving
      have hd1 := HO.out t htn
      obtain ⟨d, hd⟩ : ∃ d, defsN f t = [d] := List.length_eq_one_iff.1 hd1
      have HDD := Lib.hid hd
      obtain ⟨s, hs, hsn⟩ := defsN_block HP.out (t := t) (d := d) (by rw [hd]; exact List.mem_singleton.2 rfl)
      obtain ⟨vd, hcd, hod⟩ := HQD.out.get htn
      rw [hd] at hod
      obtain ⟨Ad, cd, rfl⟩ := hod.form
      obtain ⟨_, A7, c7, e7, hrd⟩ := hod.row
      injection e7 with e1 e0 e2
      clear e0
      subst e1 e2
      obtain ⟨bd, od, rfl, hbd, hrd⟩ := hrd (by simp)
      obtain ⟨ds, hEd, hds⟩ := hrd 0 d rfl
      subst hEd
      have r0 : w5.cell? ⟨bd, od, none⟩ = some (.int .i64 s) := by
        have h := (hds 0 _ rfl).1
        rw [hs] at h
        simpa using h
      have r1 : w5.cell? ⟨bd, od + 1, none⟩ = some (.int .i64 d.src) := by simpa using (hds 1 _ rfl).1
      have hbdl : bd < w5.heap.size := hbd
      have HR0 := Lib.hid r0
      have HR1 := Lib.hid r1
      have HCD := Lib.hid hcd
      generalize htk : pickO (takesK f f.blocks.length) t = tk at hcv' HOV hovl hTL
      have HTK : Hid (∀ p, p ∈ tk ↔ p ∈ takesN f t) := fun p => by rw [← htk]; exact mem_pickO
      have HS := Lib.hid hs
      clear hcv hov hd1 hd hod hrd hds r0 r1 hcd htk
      go_wp2_with fail
      clear hcv'
      obtain ⟨wo, hwo⟩ : ∃ wo : World, wo = wr := ⟨_, rfl⟩
      subst hwo
      go_loopw [50] (fun i wr => ∃ m : Nat, m ≤ tk.length ∧ i = .int .i64 m ∧ Hid (Below w5.heap.size w5 wr) ∧ Hid (∀ (j : Nat) p, j < m → tk[j]? = some p → AheadP f d p)) (fun i _ => tk.length - (intOf i).toNat)
      case atStart => exact ⟨0, Nat.zero_le _, rfl, HB.out, fun _ _ h => absurd h (by omega)⟩
      case round =>
        obtain ⟨m, hm, rfl, HB, HM⟩ := hrel
        by_cases hml : m < tk.length
        case neg =>
          obtain rfl : m = tk.length := by omega
          have HA' : Hid (∀ (j : Nat) d p, j < t + 1 → (defsN f j)[0]? = some d → p ∈ takesN f j → AheadP f d p) := fun j d' p hj hd' hp' => by
            by_cases e : j = t
            · subst e
              rw [HDD.out] at hd'
              simp at hd'
              subst hd'
              obtain ⟨i, hi⟩ := List.mem_iff_getElem?.1 ((HTK.out p).2 hp')
              exact HM.out i p (List.getElem?_eq_some_iff.1 hi).1 hi
            · exact HA.out j d' p (by omega) hd' hp'
          go_wp2_with fail
          go_roundw
          case rel => exact ⟨t + 1, by omega, by go_num, HB.out, HA'.out⟩
          case measure => simp [intOf]; omega
        have hpm : tk[m]? = some tk[m] := List.getElem?_eq_getElem hml
        generalize tk[m] = p at hpm
        have hml' : (m : Int) < (tk.length : Int) := by omega
        obtain ⟨_, A8, c8, e8, hrow⟩ := HOV.out
        injection e8 with e1 e0 e2
        clear e0
        subst e1 e2
        obtain ⟨b6, o6, rfl, _, hrow⟩ := hrow (by rintro rfl; simp at hml)
        obtain ⟨ds, hEp, hds⟩ := hrow m p hpm
        subst hEp
        have hb6l : b6 < w5.heap.size := (hovl b6 rfl).2
        obtain ⟨tt, htt, httn⟩ := takesN_block ((HTK.out p).1 (List.mem_of_getElem? hpm))
        have p0 : wr.cell? ⟨b6, o6 + m * 2, none⟩ = some (.int .i64 tt) := by rw [← htt]; exact (HB.out.cell (p := ⟨b6, _, none⟩) hb6l).trans (hds 0 _ rfl).1
        have p1 : wr.cell? ⟨b6, o6 + m * 2 + 1, none⟩ = some (.int .i64 p.src) := (HB.out.cell (p := ⟨b6, _, none⟩) hb6l).trans (hds 1 _ rfl).1
        have HPM := Lib.hid hpm
        have HTT := Lib.hid htt
        have hzr := HB.out.size
        have HB0r : Hid (Below w.heap.size w wr) := HB05.out.trans (HB.out.mono (by omega))
        have HPD := Lib.hid (AheadPD (f := f) (d := d) (p := p) HS.out htt)
        clear hds hrow hpm htt
        go_upto_region 19 with fail
        have hBm : Below wr.heap.size wr (wr.alloc (.cells #[.int .i64 tt, .int .i64 p.src] 36)) := (Below.refl _ _).alloc (Nat.le_refl _) _
        have k0 : ((wr.alloc (.cells #[.int .i64 tt, .int .i64 p.src] 36))).cell? ⟨wr.heap.size, 0, none⟩ = some (.int .i64 tt) := by go_simp
        have k1 : ((wr.alloc (.cells #[.int .i64 tt, .int .i64 p.src] 36))).cell? ⟨wr.heap.size, 1, none⟩ = some (.int .i64 p.src) := by go_simp
        have hqm : wr.heap.size < ((wr.alloc (.cells #[.int .i64 tt, .int .i64 p.src] 36))).heap.size := by simp
        obtain ⟨q10, hq10⟩ : ∃ q, q = wr.heap.size := ⟨_, rfl⟩
        rw [← hq10] at k0 k1 hqm ⊢
        generalize (wr.alloc (.cells #[.int .i64 tt, .int .i64 p.src] 36)) = wm at *
        have HBm := Lib.hid (HB.out.trans (hBm.mono hzr))
        have hzm := HBm.out.size
        have HUm := Lib.hid (HU5.out.fw (Fw.below HBm.out) (P := fun _ => False) fun h => h)
        have hKS : ∀ w', Below wm.heap.size wm w' → (fun w' => w'.cell? ⟨G, t, none⟩ = some (.slice (some ⟨bd, od, none⟩) 1 cd) ∧ w'.cell? ⟨bd, od, none⟩ = some (.int .i64 s) ∧ w'.cell? ⟨bd, od + 1, none⟩ = some (.int .i64 d.src) ∧ w'.cell? ⟨q10, 0, none⟩ = some (.int .i64 tt) ∧ w'.cell? ⟨q10, 1, none⟩ = some (.int .i64 p.src)) w' := fun w' h => by
          have h5 : Below w5.heap.size w5 w' := HBm.out.trans (h.mono hzm)
          exact ⟨(h5.cell (p := ⟨G, t, none⟩) hgd).trans HCD.out, (h5.cell (p := ⟨bd, _, none⟩) hbdl).trans HR0.out, (h5.cell (p := ⟨bd, _, none⟩) hbdl).trans HR1.out, (h.cell (p := ⟨q10, 0, none⟩) hqm).trans k0, (h.cell (p := ⟨q10, 1, none⟩) hqm).trans k1⟩
        have HKS := Lib.hid hKS
        have Kd : (fun w' => w'.cell? ⟨G, t, none⟩ = some (.slice (some ⟨bd, od, none⟩) 1 cd) ∧ w'.cell? ⟨bd, od, none⟩ = some (.int .i64 s) ∧ w'.cell? ⟨bd, od + 1, none⟩ = some (.int .i64 d.src) ∧ w'.cell? ⟨q10, 0, none⟩ = some (.int .i64 tt) ∧ w'.cell? ⟨q10, 1, none⟩ = some (.int .i64 p.src)) wm.drew := hKS _ (Below.refl _ _).drew
        have hE5 := (HE.out.keep (HB05.out.trans (HBm.out.mono (by omega)))).2.2.2
        have HE5 := Lib.hid hE5
        clear hKS hBm k0 k1 p0 p1 hq10 hE5
        refine wp_region_held_drew (S := ((fun w' => w'.cell? ⟨G, t, none⟩ = some (.slice (some ⟨bd, od, none⟩) 1 cd) ∧ w'.cell? ⟨bd, od, none⟩ = some (.int .i64 s) ∧ w'.cell? ⟨bd, od + 1, none⟩ = some (.int .i64 d.src) ∧ w'.cell? ⟨q10, 0, none⟩ = some (.int .i64 tt) ∧ w'.cell? ⟨q10, 1, none⟩ = some (.int .i64 p.src)))) (by kernel_rfl) ?_ (fun hHeld => ?_)
        · (try dsimp only)
          (first | exact Kd | exact HK7.out | fail)
        refine wpAnyH_take (i := 0) (v := ?_) rfl (by kernel_rfl) (by kernel_rfl) (by kernel_rfl) (fun _ _ _ h => h) (Or.inl ⟨by rfl, ?_⟩) (by assumption) ?_
        rotate_left
        · intro w hSw
          simp only [List.getElem_toArray, List.getElem_cons_zero]
          (try dsimp only at hSw)
          go_simp
          first | done | (with_reducible rfl)
        simp only [List.getElem_toArray, List.getElem_cons_zero, Act.put, List.setIfInBounds_toArray, List.set_cons_zero, List.set_cons_succ]
        refine wpAnyH_take (i := 1) (v := ?_) rfl (by kernel_rfl) (by kernel_rfl) (by kernel_rfl) (fun _ _ _ h => h) (Or.inl ⟨by rfl, ?_⟩) (by assumption) ?_
        rotate_left
        · intro w hSw
          simp only [List.getElem_toArray, List.getElem_cons_succ, List.getElem_cons_zero]
          (try dsimp only at hSw)
          go_simp
          first | done | (with_reducible rfl)
        simp only [List.getElem_toArray, List.getElem_cons_succ, List.getElem_cons_zero, Act.put, List.setIfInBounds_toArray, List.set_cons_zero, List.set_cons_succ]
        refine wpAnyH_take (i := 2) (v := ?_) rfl (by kernel_rfl) (by kernel_rfl) (by kernel_rfl) (fun _ _ _ h => h) (Or.inl ⟨by rfl, ?_⟩) (by assumption) ?_
        rotate_left
        · intro w hSw
          simp only [List.getElem_toArray, List.getElem_cons_succ, List.getElem_cons_zero]
          (try dsimp only at hSw)
          go_simp
          first | done | (with_reducible rfl)
        simp only [List.getElem_toArray, List.getElem_cons_succ, List.getElem_cons_zero, Act.put, List.setIfInBounds_toArray, List.set_cons_zero, List.set_cons_succ]
        refine wpAnyH_take (i := 3) (v := ?_) rfl (by kernel_rfl) (by kernel_rfl) (by kernel_rfl) (fun _ _ _ h => h) (Or.inl ⟨by rfl, ?_⟩) (by assumption) ?_
        rotate_left
        · intro w hSw
          simp only [List.getElem_toArray, List.getElem_cons_succ, List.getElem_cons_zero]
          (try dsimp only at hSw)
          go_simp
          first | done | (with_reducible rfl)
        simp only [List.getElem_toArray, List.getElem_cons_succ, List.getElem_cons_zero, Act.put, List.setIfInBounds_toArray, List.set_cons_zero, List.set_cons_succ]
        refine wpAnyH_take (i := 4) (v := ?_) rfl (by kernel_rfl) (by kernel_rfl) (by kernel_rfl) (fun _ _ _ h => h) (Or.inl ⟨by rfl, ?_⟩) (by assumption) ?_
        rotate_left
        · intro w hSw
          simp only [List.getElem_toArray, List.getElem_cons_succ, List.getElem_cons_zero]
          (try dsimp only at hSw)
          go_simp
          first | done | (with_reducible rfl)
        simp only [List.getElem_toArray, List.getElem_cons_succ, List.getElem_cons_zero, Act.put, List.setIfInBounds_toArray, List.set_cons_zero, List.set_cons_succ]
        refine wpAnyH_take (i := 5) (v := ?_) rfl (by kernel_rfl) (by kernel_rfl) (by kernel_rfl) (fun _ _ _ h => h) (Or.inl ⟨by rfl, ?_⟩) (by assumption) ?_
        rotate_left
        · intro w hSw
          simp only [List.getElem_toArray, List.getElem_cons_succ, List.getElem_cons_zero]
          (try dsimp only at hSw)
          go_simp
          first | done | (with_reducible rfl)
        simp only [List.getElem_toArray, List.getElem_cons_succ, List.getElem_cons_zero, Act.put, List.setIfInBounds_toArray, List.set_cons_zero, List.set_cons_succ]
        refine wpAnyH_take (i := 6) (v := ?_) rfl (by kernel_rfl) (by kernel_rfl) (by kernel_rfl) (fun _ _ _ h => h) (Or.inl ⟨by rfl, ?_⟩) (by assumption) ?_
        rotate_left
        · intro w hSw
          simp only [List.getElem_toArray, List.getElem_cons_succ, List.getElem_cons_zero]
          (try dsimp only at hSw)
          go_simp
          first | done | (with_reducible rfl)
        simp only [List.getElem_toArray, List.getElem_cons_succ, List.getElem_cons_zero, Act.put, List.setIfInBounds_toArray, List.set_cons_zero, List.set_cons_succ]
        refine wpAnyH_take (i := 7) (v := ?_) rfl (by kernel_rfl) (by kernel_rfl) (by kernel_rfl) (fun _ _ _ h => h) (Or.inl ⟨by rfl, ?_⟩) (by assumption) ?_
        rotate_left
        · intro w hSw
          simp only [List.getElem_toArray, List.getElem_cons_succ, List.getElem_cons_zero]
          (try dsimp only at hSw)
          go_simp
          first | done | (with_reducible rfl)
        simp only [List.getElem_toArray, List.getElem_cons_succ, List.getElem_cons_zero, Act.put, List.setIfInBounds_toArray, List.set_cons_zero, List.set_cons_succ]
        refine wpAnyH_ready (rs := [8]) (by kernel_rfl) (by simp) ?_
        refine AllReadyH.cons rfl (fun K hK => ?_) AllReadyH.nil
        simp only [List.getElem_toArray, List.getElem_cons_succ, List.getElem_cons_zero]
        go_simp
        (first | (go_at_call 79; refine (isAhead_any f q D s tt d.src p.src _ HP.out (HUm.out.fw (P := fun _ => False) (Fw.below (Below.refl _ _).drew) fun h => h) HD2.out hsn httn).mono ?_; rintro e w7 ⟨ra, rfl, hra, hb7⟩; have HB7 : Hid (Below wm.heap.size wm w7) := (Below.refl _ _).drew.trans hb7; have HK7 := Lib.hid (HKS.out w7 HB7.out); have HRA := Lib.hid hra; clear hb7 hra) | fail)
        go_wp2_with fail
        refine hK.out _ _ ?_ (fun hHeld => ?_)
        · (try dsimp only)
          (first | exact Kd | exact HK7.out | fail)
        clear hK K
        (try simp only [List.getElem_toArray, List.getElem_cons_succ, List.getElem_cons_zero, Act.put, List.setIfInBounds_toArray, List.set_cons_zero, List.set_cons_succ])
        refine wpAnyH_take (i := 9) (v := ?_) rfl (by kernel_rfl) (by kernel_rfl) (by kernel_rfl) (fun _ _ _ h => h) (Or.inl ⟨by rfl, ?_⟩) (by assumption) ?_
        rotate_left
        · intro w hSw
          simp only [List.getElem_toArray, List.getElem_cons_succ, List.getElem_cons_zero]
          (try dsimp only at hSw)
          go_simp
          first | done | (with_reducible rfl)
        simp only [List.getElem_toArray, List.getElem_cons_succ, List.getElem_cons_zero, Act.put, List.setIfInBounds_toArray, List.set_cons_zero, List.set_cons_succ]
        refine wpAnyH_done (by kernel_rfl) ?_ _
        have HB9 := Lib.hid (HBm.out.trans (HB7.out.mono hzm))
        have HB09 : Hid (Below w.heap.size w w7) := HB05.out.trans (HB9.out.mono (by omega))
        have hE7 := (HE.out.keep HB09.out).2.2.2
        clear Kd HK7
        cases ra
        · have HL : Hid (LooseP f) := ⟨t, d, p, by rw [HNN.out]; omega, by rw [HDD.out]; rfl, (HTK.out p).1 (List.mem_of_getElem? HPM.out), fun h => by have := HRA.out.2 (HPD.out.1 h); cases this⟩
          go_wp2_with fail
          go_ret
          exact ⟨5, _, rfl, .inr ⟨HP.out, .inr ⟨HNL.out, .inr ⟨HNT.out, .inl ⟨HL.out, rfl⟩⟩⟩⟩, .inr ⟨by decide, rfl⟩, HB09.out⟩
        have HM' : Hid (∀ (j : Nat) p, j < m + 1 → tk[j]? = some p → AheadP f d p) := fun j p' hj hp' => by
          by_cases e : j = m
          · subst e
            rw [HPM.out] at hp'
            injection hp' with hp'
            subst hp'
            exact HPD.out.2 (HRA.out.1 rfl)
          · exact HM.out j p' (by omega) hp'
        clear hE7
        go_wp2_with fail
        go_roundw
        case rel => exact ⟨m + 1, by omega, by go_num, HB9.out, HM'.out⟩
        case measure => simp [intOf]; omega

set_option maxHeartbeats 400000 in
theorem Strict_any (f : FunD) (v : Value) (E : Int → Addr) (w : World) (Z : Zn) (hv : EFun w Z f v) (hD : ∀ b, Z.D b → b < w.heap.size) (hn : f.blocks.length ≤ 1048576) (hE : Errs w E) : Calls Tryz.prog 16 #[v] w fun e w' => ∃ b c, e = .returned (.bool b) ∧ CodeF f c ∧ (b = true ↔ c = 0) ∧ Below w.heap.size w w' := by
  have HF := Lib.hid hv
  have HE := Lib.hid hE
  obtain ⟨u, rfl, hu⟩ := hv
  obtain ⟨_, A, c, rfl, hx⟩ := hu
  clear hx hE
  go_enter Tryz.func16, Tryz.ntmps16
  go_wp2_with fail
  refine (strictFault_any f _ E _ Z (HF.out.keep (Kept.below ((Below.refl _ _).alloc (Nat.le_refl _) _) hD)) (fun b hb => by have := hD b hb; simp; omega) hn (HE.out.keep ((Below.refl _ _).alloc (Nat.le_refl _) _))).mono ?_
  rintro e w1 ⟨cc, vv, rfl, hc, hfv, hb1⟩
  have HC := Lib.hid hc
  have HB01 : Hid (Below w.heap.size w w1) := ((Below.refl _ _).alloc (Nat.le_refl _) _).trans (hb1.mono (by simp))
  clear hb1 hc
  rcases hfv with ⟨h0, rfl⟩ | ⟨h0, rfl⟩
  · have H0 := Lib.hid h0
    clear h0
    go_wp2_with fail
    go_ret
    exact ⟨true, cc, rfl, HC.out, by simpa using H0.out, HB01.out⟩
  · have H0 := Lib.hid h0
    clear h0
    go_wp2_with fail
    go_ret
    exact ⟨false, cc, rfl, HC.out, by simpa using H0.out, HB01.out⟩
end

end Go.Proofs.YtnjmlhokkhkaaaaGreatDoor
