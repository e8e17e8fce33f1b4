/- l3Finish: the walk in depth of the model. -/
import Derived.Test.YtgboaaccdfaoiaaReachM
import Derived.Deep.RegionHeld3
namespace Go.Proofs.Ytgboaaccdfaoiaa
open Go.ChangeShapes Go.WideShapes Go.ChangeAt Go.RowKit Go.Joins

/-- What the walk may turn. -/
def FP (q : Nat) (fin : Value) (k : Nat) : Prop := k = q ∨ fin.ownBlock = some k
def GivesFin (w : World) (q B N : Nat) (fin : Value) (st : List Bool × List Int) (e : Ending) (w' : World) : Prop :=
  ∃ fin', e = .returned (.tuple #[.slice (some ⟨q, 0, none⟩) N N, fin']) ∧ BL w' q N st.1 ∧ OI w' B fin' st.2 ∧ Fw (FP q fin) w w' ∧ (fin'.ownBlock = fin.ownBlock ∨ ∃ k, fin'.ownBlock = some k ∧ w.heap.size ≤ k)

set_option maxRecDepth 100000 in
set_option maxHeartbeats 4000000 in
theorem l3Finish_any (f : FunD) (Z : Zn) (q B K : Nat) (ht : TargetsR f.blocks) (hn : f.blocks.length ≤ 1000) (hK : K ≤ 1000000) (hD : ∀ b, Z.D b → b < B ∧ b ≠ q) :
    ∀ (n b : Nat) (w : World) (v fin : Value) (st : List Bool × List Int), EFun w Z f v → BL w q f.blocks.length st.1 → OI w B fin st.2 → fin.ownBlock ≠ some q → B ≤ w.heap.size → Inv f.blocks.length K st → cf st.1 ≤ n → st.1[b]? = some false →
    Calls Try.prog 74 #[v, .int .i64 b, .slice (some ⟨q, 0, none⟩) f.blocks.length f.blocks.length, fin] w (GivesFin w q B f.blocks.length fin (dfs (scF f.blocks) n b st)) := by
  intro n
  induction n with
  | zero => intro b w v fin st _ _ _ _ _ _ hcf hb; have := cf_pos hb; omega
  | succ n ih =>
    intro b w v fin st hv hbl hoi hne hBw hinv hcf hb
    obtain ⟨s, o⟩ := st
    have HEF := Lib.hid hv
    obtain ⟨u, rfl, hu⟩ := hv
    have hbN : b < f.blocks.length := by rw [← hinv.len]; exact (List.getElem?_eq_some_iff.1 hb).1
    have hbN' : (b : Int) < (f.blocks.length : Int) := by omega
    have hb0 : 0 ≤ (b : Int) := by omega
    have h1000 : (f.blocks.length : Int) ≤ 1000 := by omega
    have hqw := hbl.lt
    -- behind the box of f and the store
    obtain ⟨_, A, c, rfl, hx⟩ := hu
    obtain ⟨b0, off, rfl, hDb, hrow⟩ := hx (by intro h; rw [h] at hbN; simp at hbN)
    obtain ⟨w1, hw1⟩ : ∃ w1, w1 = (w.setCell ⟨q, b, none⟩ (.bool true)).alloc (.cells #[.int .i64 f.params, .int .i64 f.names, .slice (some ⟨b0, off, none⟩) f.blocks.length c] 26) := ⟨_, rfl⟩
    have hF1 : Fw (FP q fin) w w1 := by rw [hw1]; exact (Fw.set (P := FP q fin) w (.inl rfl) b _).trans (Fw.alloc (FP q fin) _ _) fun _ _ h => h
    have hbl1 : BL w1 q f.blocks.length (s.set b true) := by rw [hw1]; exact (hbl.set b true).fw (Fw.alloc (fun _ => False) _ _) (fun h => h)
    have hoi1 : OI w1 B fin o := by rw [hw1]; exact (hoi.fw (Fw.set (P := fun k => k = q) w rfl b _) fun k hk e => hne (by rw [hk, e])).fw (Fw.alloc (fun _ => False) _ _) (fun _ _ h => h)
    have hbox : w1.heap[w.heap.size]? = some (.cells #[.int .i64 f.params, .int .i64 f.names, .slice (some ⟨b0, off, none⟩) f.blocks.length c] 26 (0, 0)) := by
      have := heap_alloc_new (w.setCell ⟨q, b, none⟩ (.bool true)) (.cells #[.int .i64 f.params, .int .i64 f.names, .slice (some ⟨b0, off, none⟩) f.blocks.length c] 26)
      rw [nblk_set] at this
      rw [hw1]; exact this
    have hs1 : w1.heap.size = w.heap.size + 1 := by rw [hw1]; simp
    have HINV1 : Hid (Inv f.blocks.length K (s.set b true, o)) := ⟨by have := hinv.len; simpa using this, by have h1 := hinv.cap; have h2 := cf_set hb; show o.length + cf (s.set b true) ≤ K; simp only at h1 h2; omega, hinv.mem⟩
    have HCF1 : Hid (cf (s.set b true) ≤ n) := by have h2 := cf_set hb; simp only at h2 hcf; show _ ≤ _; omega
    have hxk : f.blocks[b]? = some f.blocks[b] := List.getElem?_eq_getElem hbN
    generalize f.blocks[b] = x at hxk
    obtain ⟨cs, hE, hcs⟩ := hrow b x hxk
    obtain ⟨_, _, _, _, rfl, _⟩ := hE
    have hDb' := hD b0 hDb
    have hzc : ∀ o' u', w.cell? ⟨b0, o', none⟩ = some u' → w1.cell? ⟨b0, o', none⟩ = some u' := fun o' u' h => by
      rw [hw1]
      exact (World.cell?_of_block (a := ⟨b0, o', none⟩) (Below.heap_alloc (w.setCell ⟨q, b, none⟩ (.bool true)) _ b0 (by rw [nblk_set]; omega))).trans ((World.cell?_setCell_other _ _ _ _ (by intro e; injection e with e1 e2; omega)).trans h)
    have c4 : w1.cell? ⟨b0, off + b * 8 + 4, none⟩ = some (.int .i64 x.fin.k) := hzc _ _ (hcs 4 _ rfl).1
    have c5 : w1.cell? ⟨b0, off + b * 8 + 4 + 1, none⟩ = some (.int .i64 x.fin.a) := hzc _ _ (hcs 5 _ rfl).1
    have c6 : w1.cell? ⟨b0, off + b * 8 + 4 + 2, none⟩ = some (.int .i64 x.fin.t) := hzc _ _ (hcs 6 _ rfl).1
    have c7 : w1.cell? ⟨b0, off + b * 8 + 4 + 3, none⟩ = some (.int .i64 x.fin.l) := hzc _ _ (hcs 7 _ rfl).1
    have d2 : w1.cell? ⟨w.heap.size, 2, none⟩ = some (.slice (some ⟨b0, off, none⟩) f.blocks.length c) := cell_of_row w1 _ 2 _ _ (0, 0) hbox
    have q0 : (w.alloc (.cells #[.int .i64 f.params, .int .i64 f.names, .slice (some ⟨b0, off, none⟩) f.blocks.length c] 26)).cell? ⟨q, b, none⟩ = some (.bool false) := (World.cell?_of_block (a := ⟨q, b, none⟩) (Below.heap_alloc w _ q hqw)).trans (hbl.cell hb)
    have qz : (w.alloc (.cells #[.int .i64 f.params, .int .i64 f.names, .slice (some ⟨b0, off, none⟩) f.blocks.length c] 26)).frozen? ⟨q, b, none⟩ = false := (World.frozen?_of_block (a := ⟨q, b, none⟩) (Below.heap_alloc w _ q hqw)).trans (hbl.frozen b)
    have e0 := hbl.cell hb
    have ez := hbl.frozen b
    have HSU := Lib.hid (scF_at hxk)
    have HRNG := Lib.hid ((targetsR_sc ht) b hbN)
    have HSC := Lib.hid (targetsR_sc ht)
    have HF1 := Lib.hid hF1
    have HBL1 := Lib.hid hbl1
    have HOI1 := Lib.hid hoi1
    have HOI := Lib.hid hoi
    have HBOX := Lib.hid hbox
    have HW1 := Lib.hid hw1
    rw [hw1] at c4 c5 c6 c7 d2
    have HNE := Lib.hid hne
    have HHB := Lib.hid hb
    clear hF1 hbl1 hoi1 hbox hw1 hzc hcs hx hrow hxk hb hcf hinv hbl hoi hne
    go_enter Try.func74, Try.ntmps74
    go_wp2_with fail
    rw [← HW1.out]
    refine (l2Succs_any _ _ _ _ _).mono ?_
    rintro e w2 ⟨r, rfl, hr, hb2⟩
    have HF2 : Hid (Fw (FP q fin) w w2) := HF1.out.trans (Fw.below (P := fun _ => False) hb2) (fun _ _ h => h.elim)
    have HBL2 := Lib.hid (HBL1.out.fw (Fw.below (P := fun _ => False) hb2) (fun h => h))
    have HOI2 := Lib.hid (HOI1.out.fw (Fw.below (P := fun _ => False) hb2) (fun _ _ h => h))
    have HBOX2 := Lib.hid ((hb2.block w.heap.size (by omega)).trans HBOX.out)
    have hz2 := hb2.size
    rw [← HSU.out] at hr
    obtain ⟨us, hus⟩ : ∃ us, us = scF f.blocks b := ⟨_, rfl⟩
    rw [← hus] at hr HRNG
    have HUS := Lib.hid hus
    have hul := hr.ri.1
    have HU2 := Lib.hid hr
    rw [hs1] at HU2
    rw [hs1] at hz2
    obtain ⟨_, A5, c5', rfl, _⟩ := hr.ri
    clear hb2 hr hus c4 c5 c6 c7 d2 q0 qz e0 ez hs1 HF1 HBL1 HOI1 HW1 HBOX HSU
    go_wp2_with fail
    go_loopw [2, 3, 11] (fun sv fv i wr => ∃ (m : Nat), m ≤ us.length ∧ i = .int .i64 m ∧ sv = .slice (some ⟨q, 0, none⟩) f.blocks.length f.blocks.length ∧ Hid (BL wr q f.blocks.length (dlist (scF f.blocks) n (us.take m) (s.set b true, o)).1) ∧ Hid (OI wr B fv (dlist (scF f.blocks) n (us.take m) (s.set b true, o)).2) ∧ Hid (Fw (FP q fin) w wr) ∧ Hid (wr.heap[w.heap.size]? = some (.cells #[.int .i64 f.params, .int .i64 f.names, .slice (some ⟨b0, off, none⟩) f.blocks.length c] 26 (0, 0))) ∧ Hid (OI wr (w.heap.size + 1) (.slice A5 us.length c5') us) ∧ Hid (fv.ownBlock = fin.ownBlock ∨ ∃ k, fv.ownBlock = some k ∧ w2.heap.size ≤ k) ∧ w2.heap.size ≤ wr.heap.size) (fun _ _ i _ => us.length - (intOf i).toNat)
    case atStart => exact ⟨0, Nat.zero_le _, rfl, rfl, HBL2.out, HOI2.out, HF2.out, HBOX2.out, HU2.out, .inl rfl, Nat.le_refl _⟩
    case round =>
      obtain ⟨m, hm, rfl, rfl, HBL, HOF, HF, HBOX, HU, HA, hsz⟩ := hrel
      have HINV : Hid (Inv f.blocks.length K (dlist (scF f.blocks) n (us.take m) (s.set b true, o)) ∧ cf (dlist (scF f.blocks) n (us.take m) (s.set b true, o)).1 ≤ n) := by
        have h := dlist_inv HSC.out n (us.take m) (s.set b true, o) (fun t ht => HRNG.out t (List.mem_of_mem_take ht)) HINV1.out
        exact ⟨h.1, Nat.le_trans h.2.1 HCF1.out⟩
      by_cases hml : m < us.length
      case neg =>
        obtain rfl : m = us.length := by omega
        have HDF : Hid (dfs (scF f.blocks) (n + 1) b (s, o) = ((dlist (scF f.blocks) n (us.take us.length) (s.set b true, o)).1, (dlist (scF f.blocks) n (us.take us.length) (s.set b true, o)).2 ++ [(b : Int)])) := by
          rw [Hid, List.take_length, HUS.out, dfs_succ, Int.toNat_natCast]
        generalize dlist (scF f.blocks) n (us.take us.length) (s.set b true, o) = st' at HBL HOF HINV HDF
        obtain ⟨s', o'⟩ := st'
        have hol : o'.length ≤ 1000000 := by have := HINV.out.1.cap; simp only at this; omega
        have hBr : B ≤ wr.heap.size := by omega
        have HO : Hid (OI wr B u3 o') := HOF.out
        obtain ⟨_, A6, c6, rfl, _⟩ := HOF.out.ri
        go_wp2_with (at_builtin; go_must (refine wpList_append_int rfl (.tmp 48) (.tmp 50) rfl B _ o' b wr rfl HO.out rfl (by omega) (by omega) ?_; intro v' w9 hown9 hg9 hat9; have HO9 := Lib.hid hown9; have HG9 := Lib.hid hg9; have HA9 := Lib.hid hat9; obtain ⟨_, A8, q8, rfl, _⟩ := hown9.ri; clear hown9 hg9 hat9))
        go_ret2
        have el : (o' ++ [(b : Int)]).length = o'.length + 1 := by simp
        have HO9' := HO9.out
        have HA9' := HA9.out
        rw [el] at HO9' HA9'
        refine ⟨_, rfl, ?_, ?_, ?_, ?_⟩
        · rw [HDF.out]
          exact HBL.out.fw (Fw.grown (P := fun k => (Value.slice A6 o'.length c6).ownBlock = some k) HG9.out fun g e _ => e) fun e => by
            rcases HA.out with h | ⟨k, h, hk⟩
            · exact HNE.out (h.symm.trans e)
            · have := h.symm.trans e
              injection this with this
              omega
        · rw [HDF.out]; exact HO9'
        · refine HF.out.trans (Fw.grown (P := FP q (.slice A6 o'.length c6)) HG9.out fun g e _ => .inr e) ?_
          rintro i hi (e | e)
          · exact .inl e
          · rcases HA.out with h | ⟨k, h, hk⟩
            · exact .inr (h ▸ e)
            · rw [h] at e
              injection e with e
              omega
        · rcases HA9' with h | ⟨k, h, hk⟩
          · rcases HA.out with h' | ⟨k, h', hk⟩
            · exact .inl (h.trans h')
            · exact .inr ⟨k, h.trans h', by omega⟩
          · exact .inr ⟨k, h, by omega⟩
      have hum : us[m]? = some us[m] := List.getElem?_eq_getElem hml
      have hur := HRNG.out us[m] (List.getElem_mem hml)
      generalize us[m] = u at hum hur
      obtain ⟨k2, rfl⟩ : ∃ k2 : Nat, u = k2 := ⟨u.toNat, by omega⟩
      have hk2 : k2 < f.blocks.length := by omega
      have hk2' : (k2 : Int) < (f.blocks.length : Int) := by omega
      have hk20 : 0 ≤ (k2 : Int) := by omega
      obtain ⟨_, A5', c5'', he5, hux⟩ := HU.out.ri
      injection he5 with q1 _ q2
      subst q1 q2
      obtain ⟨b', off', rfl, hcell⟩ := hux (by rintro rfl; simp at hml)
      have p0 := hcell m _ hum
      have HDT : Hid (dlist (scF f.blocks) n (us.take (m + 1)) (s.set b true, o) = dstep (scF f.blocks) n (dlist (scF f.blocks) n (us.take m) (s.set b true, o)) k2) := dlist_take _ _ hum _
      generalize dlist (scF f.blocks) n (us.take m) (s.set b true, o) = st' at HBL HOF HINV HDT
      obtain ⟨s', o'⟩ := st'
      have hk2l : k2 < s'.length := by have := HINV.out.1.len; simp only at this; omega
      have hs' : s'[k2]? = some s'[k2] := List.getElem?_eq_getElem hk2l
      generalize s'[k2] = bb at hs'
      have g0 := HBL.out.cell hs'
      have Hs' := Lib.hid hs'
      have hsa := seenAt_of hs'
      clear hcell hux hum hur hs'
      cases bb
      case true =>
        have HDE : Hid (dlist (scF f.blocks) n (us.take (m + 1)) (s.set b true, o) = (s', o')) := by rw [Hid, HDT.out, dstep, hsa, if_pos rfl]
        clear hsa
        go_wp2_with fail
        go_roundw
        case rel => exact ⟨m + 1, by omega, by go_num, rfl, by rw [HDE.out]; exact HBL.out, by rw [HDE.out]; exact HOF.out, HF.out, HBOX.out, HU.out, HA.out, hsz⟩
        case measure => simp [intOf]; omega
      have HDE : Hid (dlist (scF f.blocks) n (us.take (m + 1)) (s.set b true, o) = dfs (scF f.blocks) n k2 (s', o')) := by rw [Hid, HDT.out, dstep, hsa, if_neg (by decide)]
      have HKE : Hid (Kept Z Z w wr) := ⟨fun _ h => h, fun h => h, fun b1 hb1 => HF.out.block b1 (by have := (hD b1 hb1).1; omega) (by
        have h1 := hD b1 hb1
        rintro (e | e)
        · exact h1.2 e
        · have := (HOI.out.lt b1 e).1; omega)⟩
      have HEFr := Lib.hid (HEF.out.keep HKE.out)
      have HNE3 : Hid (u3.ownBlock ≠ some q) := fun e => by
        rcases HA.out with h | ⟨k, h, hk⟩
        · exact HNE.out (h.symm.trans e)
        · have := h.symm.trans e
          injection this with this
          omega
      have f0 : wr.cell? ⟨w.heap.size, 0, none⟩ = some (.int .i64 f.params) := cell_of_row wr _ 0 _ _ (0, 0) HBOX.out
      have f1 : wr.cell? ⟨w.heap.size, 1, none⟩ = some (.int .i64 f.names) := cell_of_row wr _ 1 _ _ (0, 0) HBOX.out
      have f2 : wr.cell? ⟨w.heap.size, 2, none⟩ = some (.slice (some ⟨b0, off, none⟩) f.blocks.length c) := cell_of_row wr _ 2 _ _ (0, 0) HBOX.out
      have hlu := HU.out.lt b' rfl
      have hlu2 := HU2.out.lt b' rfl
      have hbx : w.heap.size < wr.heap.size := by omega
      have HOF' : Hid (OI wr B u3 o') := HOF.out
      clear hsa
      go_wp2_with fail
      have keepF : ∀ w7 : World, Fw (FP q u3) wr w7 → w7.cell? ⟨w.heap.size, 0, none⟩ = some (.int .i64 f.params) ∧ w7.cell? ⟨w.heap.size, 1, none⟩ = some (.int .i64 f.names) ∧ w7.cell? ⟨w.heap.size, 2, none⟩ = some (.slice (some ⟨b0, off, none⟩) f.blocks.length c) ∧ w7.cell? ⟨b', off' + m, none⟩ = some (.int .i64 k2) := fun w7 hf => by
        have h3 : ∀ k, k < wr.heap.size → k ≠ q → (B ≤ k → w.heap.size ≤ k ∧ k < w2.heap.size) → ¬ FP q u3 k := fun k _ hkq hk => by
          rintro (e | e)
          · exact hkq e
          · rcases HA.out with h | ⟨k', h, hk'⟩
            · have h4 := HOI.out.lt k (h ▸ e)
              have := hk h4.1
              omega
            · rw [h] at e
              injection e with e
              have h4 := (HOF'.out.lt k' h).1
              have := hk (by omega)
              omega
        have hb1 := hf.block w.heap.size hbx (h3 _ hbx (by omega) fun _ => by omega)
        have hb2 := hf.block b' hlu.2 (h3 _ hlu.2 (by omega) fun _ => by omega)
        exact ⟨(World.cell?_of_block (a := ⟨w.heap.size, 0, none⟩) hb1).trans f0, (World.cell?_of_block (a := ⟨w.heap.size, 1, none⟩) hb1).trans f1, (World.cell?_of_block (a := ⟨w.heap.size, 2, none⟩) hb1).trans f2, (World.cell?_of_block (a := ⟨b', off' + m, none⟩) hb2).trans p0⟩
      have K := keepF _ (Fw.drewN _ wr 1)
      go_region_held3 (fun w' => w'.cell? ⟨w.heap.size, 0, none⟩ = some (.int .i64 f.params) ∧ w'.cell? ⟨w.heap.size, 1, none⟩ = some (.int .i64 f.names) ∧ w'.cell? ⟨w.heap.size, 2, none⟩ = some (.slice (some ⟨b0, off, none⟩) f.blocks.length c) ∧ w'.cell? ⟨b', off' + m, none⟩ = some (.int .i64 k2)) (first | exact K | exact K3 | fail)
        (first
        | (go_at_call 74; refine (ih k2 _ _ u3 (s', o') (HEFr.out.keep (Kept.drewN _ _ 1)) (HBL.out.fw (Fw.drewN (fun _ => False) _ 1) (fun h => h)) HOF'.out HNE3.out (by show B ≤ wr.heap.size; omega) HINV.out.1 HINV.out.2 Hs'.out).mono ?_; rintro e w3 ⟨fin3, rfl, hbl3, hoi3, hf3, ha3⟩; have K3 := keepF w3 ((Fw.drewN (FP q u3) wr 1).trans hf3 fun _ _ h => h); have HBL3 := Lib.hid hbl3; have HOI3 := Lib.hid hoi3; have HF3 := Lib.hid ((Fw.drewN (FP q u3) wr 1).trans hf3 fun _ _ h => h); have HA3 := Lib.hid ha3; clear hbl3 hoi3 hf3 ha3))
      have hz3 := HF3.out.size
      have HF4 : Hid (Fw (FP q fin) w w3) := HF.out.trans HF3.out (by
        rintro i hi (e | e)
        · exact .inl e
        · rcases HA.out with h | ⟨k, h, hk⟩
          · exact .inr (h ▸ e)
          · rw [h] at e
            injection e with e
            omega)
      have hnP : ∀ k, k < wr.heap.size → k ≠ q → (B ≤ k → w.heap.size ≤ k ∧ k < w2.heap.size) → ¬ FP q u3 k := fun k _ hkq hk => by
        rintro (e | e)
        · exact hkq e
        · rcases HA.out with h | ⟨k', h, hk'⟩
          · have h4 := HOI.out.lt k (h ▸ e)
            have := hk h4.1
            omega
          · rw [h] at e
            injection e with e
            have h4 := (HOF'.out.lt k' h).1
            have := hk (by omega)
            omega
      have HBOX4 : Hid (w3.heap[w.heap.size]? = some (.cells #[.int .i64 f.params, .int .i64 f.names, .slice (some ⟨b0, off, none⟩) f.blocks.length c] 26 (0, 0))) := (HF3.out.block w.heap.size hbx (hnP _ hbx (by omega) fun _ => by omega)).trans HBOX.out
      have HU4 : Hid (OI w3 (w.heap.size + 1) (.slice (some ⟨b', off', none⟩) us.length c5') us) := HU.out.fw HF3.out fun k hk => by
        injection hk with hk
        have hk' : b' = k := hk
        subst hk'
        exact hnP _ hlu.2 (by omega) fun _ => by omega
      have HA4 : Hid (fin3.ownBlock = fin.ownBlock ∨ ∃ k, fin3.ownBlock = some k ∧ w2.heap.size ≤ k) := by
        rcases HA3.out with h | ⟨k, h, hk⟩
        · rcases HA.out with h' | ⟨k, h', hk⟩
          · exact .inl (h.trans h')
          · exact .inr ⟨k, h.trans h', hk⟩
        · have hk' : wr.heap.size ≤ k := hk
          exact .inr ⟨k, h, by omega⟩
      clear K K3 keepF hnP f0 f1 f2 p0 g0
      go_wp2_with fail
      go_roundw
      case rel => exact ⟨m + 1, by omega, by go_num, rfl, by rw [HDE.out]; exact HBL3.out, by rw [HDE.out]; exact HOI3.out, HF4.out, HBOX4.out, HU4.out, HA4.out, by omega⟩
      case measure => simp [intOf]; omega

end Go.Proofs.Ytgboaaccdfaoiaa
