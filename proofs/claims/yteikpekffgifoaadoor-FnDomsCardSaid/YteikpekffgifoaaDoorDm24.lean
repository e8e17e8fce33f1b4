/- FD, joined. -/
import Derived.Test.YteikpekffgifoaaDoorDm14
import Derived.Test.YteikpekffgifoaaDoorDm15
import Derived.Test.YteikpekffgifoaaDoorDm23
import Derived.Deep.RegionHeld3
namespace Go.Proofs.YteikpekffgifoaaDoor

/- FnDoms: its walk. -/
section
open Go.ChangeShapes Go.WideShapes Go.ChangeAt Go.RowKit Go.Joins

/-- The block 0 dominates all that are reached. -/
theorem dom_zero {f : FunD} {b : Int} (hp : FunP f) (hb : isBelowB b f.blocks.length = true) (hr : Rch (scF f.blocks) (-1) b) : DomP f 0 b := by
  have h1 := hp.1.1.1
  refine ⟨hp, by simp [isBelowB]; omega, hb, hr, fun h => ?_⟩
  have key : ∀ x : Int, Rch (scF f.blocks) 0 x → False := by
    intro x hx
    induction hx with
    | zero h => exact h rfl
    | step _ _ _ ih => exact ih
  exact key b h
theorem dom_of_zero {f : FunD} {a : Int} (h : DomP f a 0) : a = 0 := Classical.byContradiction fun hn => h.2.2.2.2 (.zero (Ne.symm hn))
theorem filter_one : ∀ {xs : List Int} {b : Int}, xs.Pairwise (· < ·) → b ∈ xs → (xs.filter (fun x => x != b)).length + 1 = xs.length
  | [], b, _, h => by cases h
  | x :: xs, b, hp, h => by
    obtain ⟨h1, h2⟩ := List.pairwise_cons.1 hp
    by_cases e : x = b
    · subst e
      have : xs.filter (fun y => y != x) = xs := List.filter_eq_self.2 fun y hy => by have := h1 y hy; simp; omega
      rw [List.filter_cons, if_neg (by simp), this]; rfl
    · rw [List.filter_cons, if_pos (by simpa using e)]
      have := filter_one h2 (show b ∈ xs by rcases List.mem_cons.1 h with h | h; exact absurd h.symm e; exact h)
      simp only [List.length_cons]
      omega
/-- What FnDoms asks of a block that is reached, but the block 0. -/
theorem doms_up {f : FunD} {b r : Int} {xs ys : List Int} (hx : IsDoms f b xs) (hne : xs ≠ []) (hb0 : b ≠ 0) (hr : IsIdom f b r) (hy : IsDoms f r ys) : ys.length + 1 = xs.length ∧ b ∈ xs ∧ 0 ∈ xs ∧ ∀ x ∈ xs, x ≠ b → x ∈ ys := by
  obtain ⟨a, ha⟩ := List.exists_mem_of_ne_nil xs hne
  have hda := (hx.2 a).1 ha
  have hbb := dom_refl hda.1 hda.2.2.1 hda.2.2.2.1
  have h0b := dom_zero hda.1 hda.2.2.1 hda.2.2.2.1
  rcases hr with ⟨_, h2⟩ | ⟨h1, h2, h3⟩
  · exact absurd (h2 0 h0b).symm hb0
  · have hmem := (hx.2 b).2 hbb
    have e : xs.filter (fun x => x != b) = ys := by
      refine sorted_ext (hx.1.filter _) hy.1 fun x => ?_
      rw [List.mem_filter, hx.2, hy.2]
      constructor
      · rintro ⟨g1, g2⟩; exact h3 x g1 (by simpa using g2)
      · intro g
        refine ⟨dom_trans g h1, ?_⟩
        have : x ≠ b := by rintro rfl; exact h2 (dom_anti h1 g)
        simpa using this
    refine ⟨by rw [← e]; exact filter_one hx.1 hmem, hmem, (hx.2 0).2 h0b, fun x g1 g2 => (hy.2 x).2 (h3 x ((hx.2 x).1 g1) g2)⟩
theorem doms_zero {f : FunD} {r : Int} {xs : List Int} (hx : IsDoms f 0 xs) (hne : xs ≠ []) (hr : IsIdom f 0 r) : r = -1 ∧ xs.length = 1 := by
  obtain ⟨a, ha⟩ := List.exists_mem_of_ne_nil xs hne
  have hda := (hx.2 a).1 ha
  have ha0 := dom_of_zero hda
  subst ha0
  refine ⟨?_, ?_⟩
  · rcases hr with ⟨h, _⟩ | ⟨h1, h2, _⟩
    · exact h
    · exact absurd (dom_of_zero h1) h2
  · have e : xs.filter (fun x => x != 0) = [] := List.filter_eq_nil_iff.2 fun y hy => by have := dom_of_zero ((hx.2 y).1 hy); simp [this]
    have := filter_one hx.1 ha
    rw [e] at this
    exact this.symm
theorem doms_none {f : FunD} {b r : Int} (hx : IsDoms f b []) (hr : IsIdom f b r) : r = -1 := by
  rcases hr with ⟨h, _⟩ | ⟨h1, _, _⟩
  · exact h
  · have := (hx.2 r).2 h1; cases this

set_option maxRecDepth 10000 in
set_option maxHeartbeats 8000000 in
theorem FnDoms_any (v : Value) (n : Nat) (w : World) (hn : n ≤ 4096) (hv : Code w w.heap.size v n) (hT : Tab w) :
    Calls Tryd.prog 3 #[v] w (Fine w) := by
  have HV := Lib.hid hv
  have HT := Lib.hid hT
  obtain ⟨_, A0, c0, rfl, -⟩ := hv
  clear hT
  go_enter Tryd.func3, Tryd.ntmps3
  go_wp2_with fail
  refine (big_no A0 n c0 _ hn).mono ?_
  rintro e w' ⟨rfl, rfl⟩
  go_wp2_with fail
  refine (DrawDomsOf_any _ _ _ _ HV.out (Nat.le_refl _)).mono ?_
  rintro e w1 ⟨fd, v1, bx, rfl, he, hfl, hb1⟩
  have HE1 := Lib.hid he
  obtain ⟨u, rfl, hu⟩ := he
  obtain ⟨_, A, c, rfl, _⟩ := hu
  have hb1a : Below w.heap.size w (w1.alloc (.cells #[.int .i64 fd.params, .int .i64 fd.names, .slice A fd.blocks.length c] 26)) := hb1.alloc hb1.size _
  have HB := Lib.hid hb1a
  have HF : Hid (EFun (w1.alloc (.cells #[.int .i64 fd.params, .int .i64 fd.names, .slice A fd.blocks.length c] 26)) (Zn.new w.heap.size w1.heap.size) fd (.agg #[.int .i64 fd.params, .int .i64 fd.names, .slice A fd.blocks.length c])) := HE1.out.old ((Below.refl _ _).alloc (Nat.le_refl _) _)
  have HQF := Lib.hid (heap_alloc_new w1 (.cells #[.int .i64 fd.params, .int .i64 fd.names, .slice A fd.blocks.length c] 26))
  replace HT := Lib.hid (HT.out.keep hb1a)
  have hzs := hb1.size
  clear hb1 hb1a HE1
  go_upto_region 4 with fail
  have hzf : w1.heap.size < (w1.alloc (.cells #[.int .i64 fd.params, .int .i64 fd.names, .slice A fd.blocks.length c] 26)).heap.size := by simp
  generalize w1.alloc (.cells #[.int .i64 fd.params, .int .i64 fd.names, .slice A fd.blocks.length c] 26) = w2 at *
  generalize hqf : w1.heap.size = qf at *
  have f0 := cell_of_row w2 _ 0 _ _ (0, 0) HQF.out
  have f1 := cell_of_row w2 _ 1 _ _ (0, 0) HQF.out
  have f2 := cell_of_row w2 _ 2 _ _ (0, 0) HQF.out
  go_wp2_with fail
  refine (DomsOf_any fd _ bx _ _ HF.out (fun b hb => by have := hb.2; omega) (by omega) HT.out).mono ?_
  rintro e w3 ⟨xs, vL, rfl, hx, hr, hb⟩
  have hzw3 := hb.size
  clear f0 f1 f2
  replace HB : Hid (Below w.heap.size w w3) := HB.out.trans (hb.mono HB.out.size)
  replace HF := Lib.hid (HF.out.old (hb.mono (by omega)))
  replace HQF := Lib.hid (kept_row HQF.out hb)
  replace HT := Lib.hid (HT.out.keep hb)
  have HX := Lib.hid hx
  have hxl := hx.len
  have HL : Hid (OI w3 w.heap.size vL xs) := World.ownsRow.mono hr (by omega)
  obtain ⟨_, AL, cL, rfl, _⟩ := hr.ri
  clear hb hx hr
  have f0 := cell_of_row w3 _ 0 _ _ (0, 0) HQF.out
  have f1 := cell_of_row w3 _ 1 _ _ (0, 0) HQF.out
  have f2 := cell_of_row w3 _ 2 _ _ (0, 0) HQF.out
  go_wp2_with fail
  refine (IdomOf_any fd _ bx _ _ HF.out (fun b hb => by have := hb.2; omega) (by omega) HT.out).mono ?_
  rintro e w4 ⟨ri, rfl, hi, hb⟩
  have hzw4 := hb.size
  clear f0 f1 f2
  replace HB : Hid (Below w.heap.size w w4) := HB.out.trans (hb.mono HB.out.size)
  replace HF := Lib.hid (HF.out.old (hb.mono (by omega)))
  replace HQF := Lib.hid (kept_row HQF.out hb)
  replace HT := Lib.hid (HT.out.keep hb)
  replace HL := Lib.hid (HL.out.below hb fun k hk => (HL.out.lt k hk).2)
  have HI := Lib.hid hi
  clear hb hi
  go_wp2_with fail
  refine (DrawDominates_any _ _ _ _ (HV.out.keep fun b o hb => HB.out.cell (p := ⟨b, o, none⟩) hb) HB.out.size).mono ?_
  rintro e w8 ⟨gd, vg, xa, xb, rfl, he, hgl, hb⟩
  have hzw8 := hb.size
  replace HB : Hid (Below w.heap.size w w8) := HB.out.trans (hb.mono HB.out.size)
  replace HF := Lib.hid (HF.out.old (hb.mono (by omega)))
  replace HQF := Lib.hid (kept_row HQF.out hb)
  replace HT := Lib.hid (HT.out.keep hb)
  replace HL := Lib.hid (HL.out.below hb fun k hk => (HL.out.lt k hk).2)
  have HG0 := Lib.hid he
  obtain ⟨u, rfl, hu⟩ := he
  obtain ⟨_, Ag, cg, rfl, _⟩ := hu
  clear hb
  go_upto_region 7 with fail
  have HQG : Hid ((w8.alloc (.cells #[.int .i64 gd.params, .int .i64 gd.names, .slice Ag gd.blocks.length cg] 26)).heap[w8.heap.size]? = some (.cells #[.int .i64 gd.params, .int .i64 gd.names, .slice Ag gd.blocks.length cg] 26 (0, 0))) := heap_alloc_new w8 (.cells #[.int .i64 gd.params, .int .i64 gd.names, .slice Ag gd.blocks.length cg] 26)
  have hb : Below w8.heap.size w8 (w8.alloc (.cells #[.int .i64 gd.params, .int .i64 gd.names, .slice Ag gd.blocks.length cg] 26)) := (Below.refl _ _).alloc (Nat.le_refl _) _
  have hzw9 : (w8.alloc (.cells #[.int .i64 gd.params, .int .i64 gd.names, .slice Ag gd.blocks.length cg] 26)).heap.size = w8.heap.size + 1 := by simp
  have HG : Hid (EFun (w8.alloc (.cells #[.int .i64 gd.params, .int .i64 gd.names, .slice Ag gd.blocks.length cg] 26)) (Zn.new w4.heap.size w8.heap.size) gd (.agg #[.int .i64 gd.params, .int .i64 gd.names, .slice Ag gd.blocks.length cg])) := HG0.out.old hb
  generalize hw9 : w8.alloc (.cells #[.int .i64 gd.params, .int .i64 gd.names, .slice Ag gd.blocks.length cg] 26) = w9 at *
  generalize hqg : w8.heap.size = qg at *
  clear hw9 HG0
  have hb9 : Below w8.heap.size w8 w9 := by rw [hqg]; exact hb
  clear hb
  replace HB : Hid (Below w.heap.size w w9) := HB.out.trans (hb9.mono HB.out.size)
  replace HF := Lib.hid (HF.out.old (hb9.mono (by omega)))
  replace HQF := Lib.hid (kept_row HQF.out hb9)
  replace HT := Lib.hid (HT.out.keep hb9)
  replace HL := Lib.hid (HL.out.below hb9 fun k hk => (HL.out.lt k hk).2)
  have HKS : Hid (∀ w' : World, Below w9.heap.size w9 w' → (fun w' => w'.cell? ⟨qf, 0, none⟩ = some (.int .i64 fd.params) ∧ w'.cell? ⟨qf, 1, none⟩ = some (.int .i64 fd.names) ∧ w'.cell? ⟨qf, 2, none⟩ = some (.slice A fd.blocks.length c) ∧ w'.cell? ⟨qg, 0, none⟩ = some (.int .i64 gd.params) ∧ w'.cell? ⟨qg, 1, none⟩ = some (.int .i64 gd.names) ∧ w'.cell? ⟨qg, 2, none⟩ = some (.slice Ag gd.blocks.length cg)) w') := fun w' hb => by
    have f := kept_row HQF.out hb
    have g := kept_row HQG.out hb
    exact ⟨cell_of_row w' _ 0 _ _ (0, 0) f, cell_of_row w' _ 1 _ _ (0, 0) f, cell_of_row w' _ 2 _ _ (0, 0) f, cell_of_row w' _ 0 _ _ (0, 0) g, cell_of_row w' _ 1 _ _ (0, 0) g, cell_of_row w' _ 2 _ _ (0, 0) g⟩
  have HD0 : Hid (Below w9.heap.size w9 w9.drew) := (Below.refl _ _).drew
  refine wp_region_held_drew (S := (fun w' => w'.cell? ⟨qf, 0, none⟩ = some (.int .i64 fd.params) ∧ w'.cell? ⟨qf, 1, none⟩ = some (.int .i64 fd.names) ∧ w'.cell? ⟨qf, 2, none⟩ = some (.slice A fd.blocks.length c) ∧ w'.cell? ⟨qg, 0, none⟩ = some (.int .i64 gd.params) ∧ w'.cell? ⟨qg, 1, none⟩ = some (.int .i64 gd.names) ∧ w'.cell? ⟨qg, 2, none⟩ = some (.slice Ag gd.blocks.length cg))) (by kernel_rfl) ?_ (fun hHeld => ?_)
  · (try dsimp only)
    (first | exact HKS.out _ HD0.out | exact HKS.out _ HD1.out | exact HKS.out _ HD2.out | exact HKS.out _ HD3.out | exact HKS.out _ HD4.out | exact HKS.out _ HD5.out)
  refine wpAnyH_take (i := 0) (v := ?_) rfl (by kernel_rfl) (by kernel_rfl) (by kernel_rfl) (fun _ _ _ h => h) (Or.inl ⟨by rfl, ?_⟩) (by assumption) ?_
  rotate_left
  · intro w hSw
    simp only [List.getElem_toArray, List.getElem_cons_zero]
    (try dsimp only at hSw)
    go_simp
    first | done | (with_reducible rfl)
  simp only [List.getElem_toArray, List.getElem_cons_zero, Act.put, List.setIfInBounds_toArray, List.set_cons_zero, List.set_cons_succ]
  refine wpAnyH_take (i := 1) (v := ?_) rfl (by kernel_rfl) (by kernel_rfl) (by kernel_rfl) (fun _ _ _ h => h) (Or.inl ⟨by rfl, ?_⟩) (by assumption) ?_
  rotate_left
  · intro w hSw
    simp only [List.getElem_toArray, List.getElem_cons_succ, List.getElem_cons_zero]
    (try dsimp only at hSw)
    go_simp
    first | done | (with_reducible rfl)
  simp only [List.getElem_toArray, List.getElem_cons_succ, List.getElem_cons_zero, Act.put, List.setIfInBounds_toArray, List.set_cons_zero, List.set_cons_succ]
  refine wpAnyH_take (i := 2) (v := ?_) rfl (by kernel_rfl) (by kernel_rfl) (by kernel_rfl) (fun _ _ _ h => h) (Or.inl ⟨by rfl, ?_⟩) (by assumption) ?_
  rotate_left
  · intro w hSw
    simp only [List.getElem_toArray, List.getElem_cons_succ, List.getElem_cons_zero]
    (try dsimp only at hSw)
    go_simp
    first | done | (with_reducible rfl)
  simp only [List.getElem_toArray, List.getElem_cons_succ, List.getElem_cons_zero, Act.put, List.setIfInBounds_toArray, List.set_cons_zero, List.set_cons_succ]
  refine wpAnyH_ready (rs := [3]) (by kernel_rfl) (by simp) ?_
  refine AllReadyH.cons rfl (fun K hK => ?_) AllReadyH.nil
  simp only [List.getElem_toArray, List.getElem_cons_succ, List.getElem_cons_zero]
  go_simp
  (first | (go_at_call 12; refine (sDomsOf_any fd _ bx _ _ (HF.out.old (HD0.out.mono (by omega))) (fun b hb => by have h1 := hb.2; have h2 := HD0.out.size; omega) (by omega)).mono ?_; rintro e w11 ⟨xs1, vL1, rfl, hx, hr, hb⟩; have HD1 : Hid (Below w9.heap.size w9 w11) := HD0.out.trans (hb.mono HD0.out.size); have e1 : xs1 = xs := hx.one HX.out; subst e1; have HLa := Lib.hid (HL.out.below HD1.out fun k hk => (HL.out.lt k hk).2); have HLb := Lib.hid hr; obtain ⟨_, AL1, cL1, rfl, _⟩ := hr.ri; clear hx hr hb) | (go_at_call 11; refine (likeInts_same _ _ _ _ HLa.out.ri HLb.out.ri).mono ?_; rintro e w12 ⟨rfl, n12, hw12⟩; have HD2 : Hid (Below w9.heap.size w9 w12) := (by rw [hw12]; exact below_drewN HD1.out n12); clear hw12) | (go_at_call 13; refine (sIdomOf_any fd _ bx _ _ (HF.out.old (HD2.out.mono (by omega))) (fun b hb => by have h1 := hb.2; have h2 := HD2.out.size; omega) (by omega)).mono ?_; rintro e w13 ⟨ri1, rfl, hi, hb⟩; have HD3 : Hid (Below w9.heap.size w9 w13) := HD2.out.trans (hb.mono HD2.out.size); have e1 : ri1 = ri := hi.one HI.out; subst e1; have hni : (ri1 != ri1) = false := (by simp); clear hi hb) | (go_at_call 14; refine (Dominates_any gd _ xa xb _ _ (HG.out.old (HD3.out.mono (by omega))) (fun b hb => by have h1 := hb.2; have h2 := HD3.out.size; omega) (by omega)).mono ?_; rintro e w14 ⟨rr, rfl, hx, hb⟩; have HD4 : Hid (Below w9.heap.size w9 w14) := HD3.out.trans (hb.mono HD3.out.size); have HC := Lib.hid hx; clear hx hb) | (go_at_call 15; refine (sDominates_any gd _ xa xb _ _ (HG.out.old (HD4.out.mono (by omega))) (fun b hb => by have h1 := hb.2; have h2 := HD4.out.size; omega) (by omega)).mono ?_; rintro e w15 ⟨r2, rfl, hx, hb⟩; have HD5 : Hid (Below w9.heap.size w9 w15) := HD4.out.trans (hb.mono HD4.out.size); (obtain rfl : r2 = rr := (by rw [Bool.eq_iff_iff, hx, HC.out])); have hne : (r2 != r2) = false := (by simp); clear hx hb) | fail)
  go_wp2_with fail
  refine hK.out _ _ ?_ (fun hHeld => ?_)
  · (try dsimp only)
    (first | exact HKS.out _ HD0.out | exact HKS.out _ HD1.out | exact HKS.out _ HD2.out | exact HKS.out _ HD3.out | exact HKS.out _ HD4.out | exact HKS.out _ HD5.out)
  clear hK K
  (try simp only [List.getElem_toArray, List.getElem_cons_succ, List.getElem_cons_zero, Act.put, List.setIfInBounds_toArray, List.set_cons_zero, List.set_cons_succ])
  refine wpAnyH_ready (rs := [4]) (by kernel_rfl) (by simp) ?_
  refine AllReadyH.cons rfl (fun K hK => ?_) AllReadyH.nil
  simp only [List.getElem_toArray, List.getElem_cons_succ, List.getElem_cons_zero]
  go_simp
  (first | (go_at_call 12; refine (sDomsOf_any fd _ bx _ _ (HF.out.old (HD0.out.mono (by omega))) (fun b hb => by have h1 := hb.2; have h2 := HD0.out.size; omega) (by omega)).mono ?_; rintro e w11 ⟨xs1, vL1, rfl, hx, hr, hb⟩; have HD1 : Hid (Below w9.heap.size w9 w11) := HD0.out.trans (hb.mono HD0.out.size); have e1 : xs1 = xs := hx.one HX.out; subst e1; have HLa := Lib.hid (HL.out.below HD1.out fun k hk => (HL.out.lt k hk).2); have HLb := Lib.hid hr; obtain ⟨_, AL1, cL1, rfl, _⟩ := hr.ri; clear hx hr hb) | (go_at_call 11; refine (likeInts_same _ _ _ _ HLa.out.ri HLb.out.ri).mono ?_; rintro e w12 ⟨rfl, n12, hw12⟩; have HD2 : Hid (Below w9.heap.size w9 w12) := (by rw [hw12]; exact below_drewN HD1.out n12); clear hw12) | (go_at_call 13; refine (sIdomOf_any fd _ bx _ _ (HF.out.old (HD2.out.mono (by omega))) (fun b hb => by have h1 := hb.2; have h2 := HD2.out.size; omega) (by omega)).mono ?_; rintro e w13 ⟨ri1, rfl, hi, hb⟩; have HD3 : Hid (Below w9.heap.size w9 w13) := HD2.out.trans (hb.mono HD2.out.size); have e1 : ri1 = ri := hi.one HI.out; subst e1; have hni : (ri1 != ri1) = false := (by simp); clear hi hb) | (go_at_call 14; refine (Dominates_any gd _ xa xb _ _ (HG.out.old (HD3.out.mono (by omega))) (fun b hb => by have h1 := hb.2; have h2 := HD3.out.size; omega) (by omega)).mono ?_; rintro e w14 ⟨rr, rfl, hx, hb⟩; have HD4 : Hid (Below w9.heap.size w9 w14) := HD3.out.trans (hb.mono HD3.out.size); have HC := Lib.hid hx; clear hx hb) | (go_at_call 15; refine (sDominates_any gd _ xa xb _ _ (HG.out.old (HD4.out.mono (by omega))) (fun b hb => by have h1 := hb.2; have h2 := HD4.out.size; omega) (by omega)).mono ?_; rintro e w15 ⟨r2, rfl, hx, hb⟩; have HD5 : Hid (Below w9.heap.size w9 w15) := HD4.out.trans (hb.mono HD4.out.size); (obtain rfl : r2 = rr := (by rw [Bool.eq_iff_iff, hx, HC.out])); have hne : (r2 != r2) = false := (by simp); clear hx hb) | fail)
  go_wp2_with fail
  refine hK.out _ _ ?_ (fun hHeld => ?_)
  · (try dsimp only)
    (first | exact HKS.out _ HD0.out | exact HKS.out _ HD1.out | exact HKS.out _ HD2.out | exact HKS.out _ HD3.out | exact HKS.out _ HD4.out | exact HKS.out _ HD5.out)
  clear hK K
  (try simp only [List.getElem_toArray, List.getElem_cons_succ, List.getElem_cons_zero, Act.put, List.setIfInBounds_toArray, List.set_cons_zero, List.set_cons_succ])
  refine wpAnyH_take (i := 5) (v := ?_) rfl (by kernel_rfl) (by kernel_rfl) (by kernel_rfl) (fun _ _ _ h => h) (Or.inl ⟨by rfl, ?_⟩) (by assumption) ?_
  rotate_left
  · intro w hSw
    simp only [List.getElem_toArray, List.getElem_cons_succ, List.getElem_cons_zero]
    (try dsimp only at hSw)
    go_simp
    first | done | (with_reducible rfl)
  simp only [List.getElem_toArray, List.getElem_cons_succ, List.getElem_cons_zero, Act.put, List.setIfInBounds_toArray, List.set_cons_zero, List.set_cons_succ]
  refine wpAnyH_take (i := 6) (v := ?_) rfl (by kernel_rfl) (by kernel_rfl) (by kernel_rfl) (fun _ _ _ h => h) (Or.inl ⟨by rfl, ?_⟩) (by assumption) ?_
  rotate_left
  · intro w hSw
    simp only [List.getElem_toArray, List.getElem_cons_succ, List.getElem_cons_zero]
    (try dsimp only at hSw)
    go_simp
    first | done | (with_reducible rfl)
  simp only [List.getElem_toArray, List.getElem_cons_succ, List.getElem_cons_zero, Act.put, List.setIfInBounds_toArray, List.set_cons_zero, List.set_cons_succ]
  refine wpAnyH_take (i := 7) (v := ?_) rfl (by kernel_rfl) (by kernel_rfl) (by kernel_rfl) (fun _ _ _ h => h) (Or.inl ⟨by rfl, ?_⟩) (by assumption) ?_
  rotate_left
  · intro w hSw
    simp only [List.getElem_toArray, List.getElem_cons_succ, List.getElem_cons_zero]
    (try dsimp only at hSw)
    go_simp
    first | done | (with_reducible rfl)
  simp only [List.getElem_toArray, List.getElem_cons_succ, List.getElem_cons_zero, Act.put, List.setIfInBounds_toArray, List.set_cons_zero, List.set_cons_succ]
  refine wpAnyH_take (i := 8) (v := ?_) rfl (by kernel_rfl) (by kernel_rfl) (by kernel_rfl) (fun _ _ _ h => h) (Or.inl ⟨by rfl, ?_⟩) (by assumption) ?_
  rotate_left
  · intro w hSw
    simp only [List.getElem_toArray, List.getElem_cons_succ, List.getElem_cons_zero]
    (try dsimp only at hSw)
    go_simp
    first | done | (with_reducible rfl)
  simp only [List.getElem_toArray, List.getElem_cons_succ, List.getElem_cons_zero, Act.put, List.setIfInBounds_toArray, List.set_cons_zero, List.set_cons_succ]
  refine wpAnyH_take (i := 9) (v := ?_) rfl (by kernel_rfl) (by kernel_rfl) (by kernel_rfl) (fun _ _ _ h => h) (Or.inl ⟨by rfl, ?_⟩) (by assumption) ?_
  rotate_left
  · intro w hSw
    simp only [List.getElem_toArray, List.getElem_cons_succ, List.getElem_cons_zero]
    (try dsimp only at hSw)
    go_simp
    first | done | (with_reducible rfl)
  simp only [List.getElem_toArray, List.getElem_cons_succ, List.getElem_cons_zero, Act.put, List.setIfInBounds_toArray, List.set_cons_zero, List.set_cons_succ]
  refine wpAnyH_ready (rs := [10]) (by kernel_rfl) (by simp) ?_
  refine AllReadyH.cons rfl (fun K hK => ?_) AllReadyH.nil
  simp only [List.getElem_toArray, List.getElem_cons_succ, List.getElem_cons_zero]
  go_simp
  (first | (go_at_call 12; refine (sDomsOf_any fd _ bx _ _ (HF.out.old (HD0.out.mono (by omega))) (fun b hb => by have h1 := hb.2; have h2 := HD0.out.size; omega) (by omega)).mono ?_; rintro e w11 ⟨xs1, vL1, rfl, hx, hr, hb⟩; have HD1 : Hid (Below w9.heap.size w9 w11) := HD0.out.trans (hb.mono HD0.out.size); have e1 : xs1 = xs := hx.one HX.out; subst e1; have HLa := Lib.hid (HL.out.below HD1.out fun k hk => (HL.out.lt k hk).2); have HLb := Lib.hid hr; obtain ⟨_, AL1, cL1, rfl, _⟩ := hr.ri; clear hx hr hb) | (go_at_call 11; refine (likeInts_same _ _ _ _ HLa.out.ri HLb.out.ri).mono ?_; rintro e w12 ⟨rfl, n12, hw12⟩; have HD2 : Hid (Below w9.heap.size w9 w12) := (by rw [hw12]; exact below_drewN HD1.out n12); clear hw12) | (go_at_call 13; refine (sIdomOf_any fd _ bx _ _ (HF.out.old (HD2.out.mono (by omega))) (fun b hb => by have h1 := hb.2; have h2 := HD2.out.size; omega) (by omega)).mono ?_; rintro e w13 ⟨ri1, rfl, hi, hb⟩; have HD3 : Hid (Below w9.heap.size w9 w13) := HD2.out.trans (hb.mono HD2.out.size); have e1 : ri1 = ri := hi.one HI.out; subst e1; have hni : (ri1 != ri1) = false := (by simp); clear hi hb) | (go_at_call 14; refine (Dominates_any gd _ xa xb _ _ (HG.out.old (HD3.out.mono (by omega))) (fun b hb => by have h1 := hb.2; have h2 := HD3.out.size; omega) (by omega)).mono ?_; rintro e w14 ⟨rr, rfl, hx, hb⟩; have HD4 : Hid (Below w9.heap.size w9 w14) := HD3.out.trans (hb.mono HD3.out.size); have HC := Lib.hid hx; clear hx hb) | (go_at_call 15; refine (sDominates_any gd _ xa xb _ _ (HG.out.old (HD4.out.mono (by omega))) (fun b hb => by have h1 := hb.2; have h2 := HD4.out.size; omega) (by omega)).mono ?_; rintro e w15 ⟨r2, rfl, hx, hb⟩; have HD5 : Hid (Below w9.heap.size w9 w15) := HD4.out.trans (hb.mono HD4.out.size); (obtain rfl : r2 = rr := (by rw [Bool.eq_iff_iff, hx, HC.out])); have hne : (r2 != r2) = false := (by simp); clear hx hb) | fail)
  go_wp2_with fail
  refine hK.out _ _ ?_ (fun hHeld => ?_)
  · (try dsimp only)
    (first | exact HKS.out _ HD0.out | exact HKS.out _ HD1.out | exact HKS.out _ HD2.out | exact HKS.out _ HD3.out | exact HKS.out _ HD4.out | exact HKS.out _ HD5.out)
  clear hK K
  (try simp only [List.getElem_toArray, List.getElem_cons_succ, List.getElem_cons_zero, Act.put, List.setIfInBounds_toArray, List.set_cons_zero, List.set_cons_succ])
  refine wpAnyH_take (i := 11) (v := ?_) rfl (by kernel_rfl) (by kernel_rfl) (by kernel_rfl) (fun _ _ _ h => h) (Or.inl ⟨by rfl, ?_⟩) (by assumption) ?_
  rotate_left
  · intro w hSw
    simp only [List.getElem_toArray, List.getElem_cons_succ, List.getElem_cons_zero]
    (try dsimp only at hSw)
    go_simp
    first | done | (with_reducible rfl)
  simp only [List.getElem_toArray, List.getElem_cons_succ, List.getElem_cons_zero, Act.put, List.setIfInBounds_toArray, List.set_cons_zero, List.set_cons_succ]
  refine wpAnyH_take (i := 12) (v := ?_) rfl (by kernel_rfl) (by kernel_rfl) (by kernel_rfl) (fun _ _ _ h => h) (Or.inl ⟨by rfl, ?_⟩) (by assumption) ?_
  rotate_left
  · intro w hSw
    simp only [List.getElem_toArray, List.getElem_cons_succ, List.getElem_cons_zero]
    (try dsimp only at hSw)
    go_simp
    first | done | (with_reducible rfl)
  simp only [List.getElem_toArray, List.getElem_cons_succ, List.getElem_cons_zero, Act.put, List.setIfInBounds_toArray, List.set_cons_zero, List.set_cons_succ]
  refine wpAnyH_take (i := 13) (v := ?_) rfl (by kernel_rfl) (by kernel_rfl) (by kernel_rfl) (fun _ _ _ h => h) (Or.inl ⟨by rfl, ?_⟩) (by assumption) ?_
  rotate_left
  · intro w hSw
    simp only [List.getElem_toArray, List.getElem_cons_succ, List.getElem_cons_zero]
    (try dsimp only at hSw)
    go_simp
    first | done | (with_reducible rfl)
  simp only [List.getElem_toArray, List.getElem_cons_succ, List.getElem_cons_zero, Act.put, List.setIfInBounds_toArray, List.set_cons_zero, List.set_cons_succ]
  refine wpAnyH_take (i := 14) (v := ?_) rfl (by kernel_rfl) (by kernel_rfl) (by kernel_rfl) (fun _ _ _ h => h) (Or.inl ⟨by rfl, ?_⟩) (by assumption) ?_
  rotate_left
  · intro w hSw
    simp only [List.getElem_toArray, List.getElem_cons_succ, List.getElem_cons_zero]
    (try dsimp only at hSw)
    go_simp
    first | done | (with_reducible rfl)
  simp only [List.getElem_toArray, List.getElem_cons_succ, List.getElem_cons_zero, Act.put, List.setIfInBounds_toArray, List.set_cons_zero, List.set_cons_succ]
  refine wpAnyH_take (i := 15) (v := ?_) rfl (by kernel_rfl) (by kernel_rfl) (by kernel_rfl) (fun _ _ _ h => h) (Or.inl ⟨by rfl, ?_⟩) (by assumption) ?_
  rotate_left
  · intro w hSw
    simp only [List.getElem_toArray, List.getElem_cons_succ, List.getElem_cons_zero]
    (try dsimp only at hSw)
    go_simp
    first | done | (with_reducible rfl)
  simp only [List.getElem_toArray, List.getElem_cons_succ, List.getElem_cons_zero, Act.put, List.setIfInBounds_toArray, List.set_cons_zero, List.set_cons_succ]
  refine wpAnyH_take (i := 16) (v := ?_) rfl (by kernel_rfl) (by kernel_rfl) (by kernel_rfl) (fun _ _ _ h => h) (Or.inl ⟨by rfl, ?_⟩) (by assumption) ?_
  rotate_left
  · intro w hSw
    simp only [List.getElem_toArray, List.getElem_cons_succ, List.getElem_cons_zero]
    (try dsimp only at hSw)
    go_simp
    first | done | (with_reducible rfl)
  simp only [List.getElem_toArray, List.getElem_cons_succ, List.getElem_cons_zero, Act.put, List.setIfInBounds_toArray, List.set_cons_zero, List.set_cons_succ]
  refine wpAnyH_take (i := 18) (v := ?_) rfl (by kernel_rfl) (by kernel_rfl) (by kernel_rfl) (fun _ _ _ h => h) (Or.inl ⟨by rfl, ?_⟩) (by assumption) ?_
  rotate_left
  · intro w hSw
    simp only [List.getElem_toArray, List.getElem_cons_succ, List.getElem_cons_zero]
    (try dsimp only at hSw)
    go_simp
    first | done | (with_reducible rfl)
  simp only [List.getElem_toArray, List.getElem_cons_succ, List.getElem_cons_zero, Act.put, List.setIfInBounds_toArray, List.set_cons_zero, List.set_cons_succ]
  refine wpAnyH_take (i := 19) (v := ?_) rfl (by kernel_rfl) (by kernel_rfl) (by kernel_rfl) (fun _ _ _ h => h) (Or.inl ⟨by rfl, ?_⟩) (by assumption) ?_
  rotate_left
  · intro w hSw
    simp only [List.getElem_toArray, List.getElem_cons_succ, List.getElem_cons_zero]
    (try dsimp only at hSw)
    go_simp
    first | done | (with_reducible rfl)
  simp only [List.getElem_toArray, List.getElem_cons_succ, List.getElem_cons_zero, Act.put, List.setIfInBounds_toArray, List.set_cons_zero, List.set_cons_succ]
  refine wpAnyH_take (i := 20) (v := ?_) rfl (by kernel_rfl) (by kernel_rfl) (by kernel_rfl) (fun _ _ _ h => h) (Or.inl ⟨by rfl, ?_⟩) (by assumption) ?_
  rotate_left
  · intro w hSw
    simp only [List.getElem_toArray, List.getElem_cons_succ, List.getElem_cons_zero]
    (try dsimp only at hSw)
    go_simp
    first | done | (with_reducible rfl)
  simp only [List.getElem_toArray, List.getElem_cons_succ, List.getElem_cons_zero, Act.put, List.setIfInBounds_toArray, List.set_cons_zero, List.set_cons_succ]
  refine wpAnyH_ready (rs := [17]) (by kernel_rfl) (by simp) ?_
  refine AllReadyH.cons rfl (fun K hK => ?_) AllReadyH.nil
  simp only [List.getElem_toArray, List.getElem_cons_succ, List.getElem_cons_zero]
  go_simp
  (first | (go_at_call 12; refine (sDomsOf_any fd _ bx _ _ (HF.out.old (HD0.out.mono (by omega))) (fun b hb => by have h1 := hb.2; have h2 := HD0.out.size; omega) (by omega)).mono ?_; rintro e w11 ⟨xs1, vL1, rfl, hx, hr, hb⟩; have HD1 : Hid (Below w9.heap.size w9 w11) := HD0.out.trans (hb.mono HD0.out.size); have e1 : xs1 = xs := hx.one HX.out; subst e1; have HLa := Lib.hid (HL.out.below HD1.out fun k hk => (HL.out.lt k hk).2); have HLb := Lib.hid hr; obtain ⟨_, AL1, cL1, rfl, _⟩ := hr.ri; clear hx hr hb) | (go_at_call 11; refine (likeInts_same _ _ _ _ HLa.out.ri HLb.out.ri).mono ?_; rintro e w12 ⟨rfl, n12, hw12⟩; have HD2 : Hid (Below w9.heap.size w9 w12) := (by rw [hw12]; exact below_drewN HD1.out n12); clear hw12) | (go_at_call 13; refine (sIdomOf_any fd _ bx _ _ (HF.out.old (HD2.out.mono (by omega))) (fun b hb => by have h1 := hb.2; have h2 := HD2.out.size; omega) (by omega)).mono ?_; rintro e w13 ⟨ri1, rfl, hi, hb⟩; have HD3 : Hid (Below w9.heap.size w9 w13) := HD2.out.trans (hb.mono HD2.out.size); have e1 : ri1 = ri := hi.one HI.out; subst e1; have hni : (ri1 != ri1) = false := (by simp); clear hi hb) | (go_at_call 14; refine (Dominates_any gd _ xa xb _ _ (HG.out.old (HD3.out.mono (by omega))) (fun b hb => by have h1 := hb.2; have h2 := HD3.out.size; omega) (by omega)).mono ?_; rintro e w14 ⟨rr, rfl, hx, hb⟩; have HD4 : Hid (Below w9.heap.size w9 w14) := HD3.out.trans (hb.mono HD3.out.size); have HC := Lib.hid hx; clear hx hb) | (go_at_call 15; refine (sDominates_any gd _ xa xb _ _ (HG.out.old (HD4.out.mono (by omega))) (fun b hb => by have h1 := hb.2; have h2 := HD4.out.size; omega) (by omega)).mono ?_; rintro e w15 ⟨r2, rfl, hx, hb⟩; have HD5 : Hid (Below w9.heap.size w9 w15) := HD4.out.trans (hb.mono HD4.out.size); (obtain rfl : r2 = rr := (by rw [Bool.eq_iff_iff, hx, HC.out])); have hne : (r2 != r2) = false := (by simp); clear hx hb) | fail)
  go_wp2_with fail
  refine hK.out _ _ ?_ (fun hHeld => ?_)
  · (try dsimp only)
    (first | exact HKS.out _ HD0.out | exact HKS.out _ HD1.out | exact HKS.out _ HD2.out | exact HKS.out _ HD3.out | exact HKS.out _ HD4.out | exact HKS.out _ HD5.out)
  clear hK K
  (try simp only [List.getElem_toArray, List.getElem_cons_succ, List.getElem_cons_zero, Act.put, List.setIfInBounds_toArray, List.set_cons_zero, List.set_cons_succ])
  refine wpAnyH_ready (rs := [21]) (by kernel_rfl) (by simp) ?_
  refine AllReadyH.cons rfl (fun K hK => ?_) AllReadyH.nil
  simp only [List.getElem_toArray, List.getElem_cons_succ, List.getElem_cons_zero]
  go_simp
  (first | (go_at_call 12; refine (sDomsOf_any fd _ bx _ _ (HF.out.old (HD0.out.mono (by omega))) (fun b hb => by have h1 := hb.2; have h2 := HD0.out.size; omega) (by omega)).mono ?_; rintro e w11 ⟨xs1, vL1, rfl, hx, hr, hb⟩; have HD1 : Hid (Below w9.heap.size w9 w11) := HD0.out.trans (hb.mono HD0.out.size); have e1 : xs1 = xs := hx.one HX.out; subst e1; have HLa := Lib.hid (HL.out.below HD1.out fun k hk => (HL.out.lt k hk).2); have HLb := Lib.hid hr; obtain ⟨_, AL1, cL1, rfl, _⟩ := hr.ri; clear hx hr hb) | (go_at_call 11; refine (likeInts_same _ _ _ _ HLa.out.ri HLb.out.ri).mono ?_; rintro e w12 ⟨rfl, n12, hw12⟩; have HD2 : Hid (Below w9.heap.size w9 w12) := (by rw [hw12]; exact below_drewN HD1.out n12); clear hw12) | (go_at_call 13; refine (sIdomOf_any fd _ bx _ _ (HF.out.old (HD2.out.mono (by omega))) (fun b hb => by have h1 := hb.2; have h2 := HD2.out.size; omega) (by omega)).mono ?_; rintro e w13 ⟨ri1, rfl, hi, hb⟩; have HD3 : Hid (Below w9.heap.size w9 w13) := HD2.out.trans (hb.mono HD2.out.size); have e1 : ri1 = ri := hi.one HI.out; subst e1; have hni : (ri1 != ri1) = false := (by simp); clear hi hb) | (go_at_call 14; refine (Dominates_any gd _ xa xb _ _ (HG.out.old (HD3.out.mono (by omega))) (fun b hb => by have h1 := hb.2; have h2 := HD3.out.size; omega) (by omega)).mono ?_; rintro e w14 ⟨rr, rfl, hx, hb⟩; have HD4 : Hid (Below w9.heap.size w9 w14) := HD3.out.trans (hb.mono HD3.out.size); have HC := Lib.hid hx; clear hx hb) | (go_at_call 15; refine (sDominates_any gd _ xa xb _ _ (HG.out.old (HD4.out.mono (by omega))) (fun b hb => by have h1 := hb.2; have h2 := HD4.out.size; omega) (by omega)).mono ?_; rintro e w15 ⟨r2, rfl, hx, hb⟩; have HD5 : Hid (Below w9.heap.size w9 w15) := HD4.out.trans (hb.mono HD4.out.size); (obtain rfl : r2 = rr := (by rw [Bool.eq_iff_iff, hx, HC.out])); have hne : (r2 != r2) = false := (by simp); clear hx hb) | fail)
  go_wp2_with fail
  refine hK.out _ _ ?_ (fun hHeld => ?_)
  · (try dsimp only)
    (first | exact HKS.out _ HD0.out | exact HKS.out _ HD1.out | exact HKS.out _ HD2.out | exact HKS.out _ HD3.out | exact HKS.out _ HD4.out | exact HKS.out _ HD5.out)
  clear hK K
  (try simp only [List.getElem_toArray, List.getElem_cons_succ, List.getElem_cons_zero, Act.put, List.setIfInBounds_toArray, List.set_cons_zero, List.set_cons_succ])
  refine wpAnyH_take (i := 22) (v := ?_) rfl (by kernel_rfl) (by kernel_rfl) (by kernel_rfl) (fun _ _ _ h => h) (Or.inl ⟨by rfl, ?_⟩) (by assumption) ?_
  rotate_left
  · intro w hSw
    simp only [List.getElem_toArray, List.getElem_cons_succ, List.getElem_cons_zero]
    (try dsimp only at hSw)
    go_simp
    first | done | (with_reducible rfl)
  simp only [List.getElem_toArray, List.getElem_cons_succ, List.getElem_cons_zero, Act.put, List.setIfInBounds_toArray, List.set_cons_zero, List.set_cons_succ]
  refine wpAnyH_take (i := 23) (v := ?_) rfl (by kernel_rfl) (by kernel_rfl) (by kernel_rfl) (fun _ _ _ h => h) (Or.inl ⟨by rfl, ?_⟩) (by assumption) ?_
  rotate_left
  · intro w hSw
    simp only [List.getElem_toArray, List.getElem_cons_succ, List.getElem_cons_zero]
    (try dsimp only at hSw)
    go_simp
    first | done | (with_reducible rfl)
  simp only [List.getElem_toArray, List.getElem_cons_succ, List.getElem_cons_zero, Act.put, List.setIfInBounds_toArray, List.set_cons_zero, List.set_cons_succ]
  refine wpAnyH_done (by kernel_rfl) ?_ _
  have hb := HD5.out
  have hzw15 := hb.size
  clear HKS HD0 HD1 HD2 HD3 HD4 HLa HLb HC
  replace HB : Hid (Below w.heap.size w w15) := HB.out.trans (hb.mono HB.out.size)
  replace HF := Lib.hid (HF.out.old (hb.mono (by omega)))
  replace HQF := Lib.hid (kept_row HQF.out hb)
  replace HT := Lib.hid (HT.out.keep hb)
  replace HL := Lib.hid (HL.out.below hb fun k hk => (HL.out.lt k hk).2)
  replace HG := Lib.hid (HG.out.old (hb.mono (by omega)))
  replace HQG := Lib.hid (kept_row HQG.out hb)
  clear hb HD5 HG HQG HV
  have hxl0 : decide (xs1.length = 0) = decide (xs1 = []) := by simp
  by_cases hnil : xs1 = []
  · have hr1 := doms_none (hnil ▸ HX.out) HI.out
    subst hr1
    subst hnil
    simp only [List.length_nil] at *
    go_wp2_with fail
    go_ret
    exact ⟨rfl, HB.out⟩
  have hlp : 0 < xs1.length := List.length_pos_iff.2 hnil
  have hl0 : ((xs1.length : Int) == 0) = false := by simp; omega
  have HNE := Lib.hid hnil
  clear hxl0 hnil
  have f0 := cell_of_row w15 _ 0 _ _ (0, 0) HQF.out
  have f1 := cell_of_row w15 _ 1 _ _ (0, 0) HQF.out
  have f2 := cell_of_row w15 _ 2 _ _ (0, 0) HQF.out
  go_wp2_with fail
  refine (DomsOf_any fd _ ri1 _ _ HF.out (fun b hb => by have := hb.2; omega) (by omega) HT.out).mono ?_
  rintro e w16 ⟨ys, vU, rfl, hx, hr, hb⟩
  have hzw16 := hb.size
  clear f0 f1 f2
  replace HB : Hid (Below w.heap.size w w16) := HB.out.trans (hb.mono HB.out.size)
  replace HF := Lib.hid (HF.out.old (hb.mono (by omega)))
  replace HQF := Lib.hid (kept_row HQF.out hb)
  replace HT := Lib.hid (HT.out.keep hb)
  replace HL := Lib.hid (HL.out.below hb fun k hk => (HL.out.lt k hk).2)
  have HY := Lib.hid hx
  have HU : Hid (OI w16 w.heap.size vU ys) := World.ownsRow.mono hr (by omega)
  obtain ⟨_, AU, cU, rfl, _⟩ := hr.ri
  clear hb hx hr
  by_cases hb0 : bx = 0
  · obtain ⟨hr1, hx1⟩ := doms_zero (hb0 ▸ HX.out) HNE.out (hb0 ▸ HI.out)
    subst hb0
    subst hr1
    have hx1' : (xs1.length : Int) = 1 := by omega
    have hq1 : ((xs1.length : Int) == 1) = true := by simp; omega
    clear hx1
    go_wp2_with fail
    go_ret
    exact ⟨rfl, HB.out⟩
  have hbz : (bx == 0) = false := by simpa using hb0
  have HUP := Lib.hid (doms_up HX.out HNE.out hb0 HI.out HY.out)
  clear hb0
  go_wp2_with fail
  go_loopw [11] (fun iv wq => ∃ k : Nat, k ≤ xs1.length ∧ iv = .int .i64 k ∧ Hid (Below w16.heap.size w16 wq)) (fun iv _ => xs1.length - (intOf iv).toNat)
  case atStart => exact ⟨0, Nat.zero_le _, rfl, Below.refl _ _⟩
  case round =>
    obtain ⟨k, hk, rfl, HBk⟩ := hrel
    have hzk := HBk.out.size
    by_cases hkl : (k : Int) < (xs1.length : Int)
    · have hxk : xs1[k]? = some xs1[k] := List.getElem?_eq_getElem (by omega)
      have hmx := List.getElem_mem (l := xs1) (n := k) (by omega)
      have hdx := (HX.out.2 xs1[k]).1 hmx
      have hup := HUP.out.2.2.2 xs1[k] hmx
      generalize xs1[k] = x at hxk hdx hup hmx
      have HDX := Lib.hid hdx
      obtain ⟨_, A4, c4, he4, hx4⟩ := (HL.out.below HBk.out fun k hk => (HL.out.lt k hk).2).ri
      injection he4 with e1 _ e2
      subst e1
      subst e2
      obtain ⟨b4, off4, ha4, hc4⟩ := hx4 (by intro h; rw [h] at hxk; simp at hxk)
      subst ha4
      have p4 := hc4 k _ hxk
      have hl4 := World.block_lt_of_cell? wr ⟨b4, off4 + k, none⟩ p4
      have hk0 : 0 ≤ (k : Int) := by omega
      have hq := kept_row HQF.out HBk.out
      have HFk := Lib.hid (HF.out.old (HBk.out.mono (by omega)))
      have HUk := Lib.hid (HU.out.below HBk.out fun k hk => (HU.out.lt k hk).2)
      have HKS : Hid (∀ w' : World, Below wr.heap.size wr w' → (fun w' => w'.cell? ⟨qf, 0, none⟩ = some (.int .i64 fd.params) ∧ w'.cell? ⟨qf, 1, none⟩ = some (.int .i64 fd.names) ∧ w'.cell? ⟨qf, 2, none⟩ = some (.slice A fd.blocks.length c) ∧ w'.cell? ⟨b4, off4 + k, none⟩ = some (.int .i64 x)) w') := fun w' hb => by
        have f := kept_row hq hb
        exact ⟨cell_of_row w' _ 0 _ _ (0, 0) f, cell_of_row w' _ 1 _ _ (0, 0) f, cell_of_row w' _ 2 _ _ (0, 0) f, (hb.cell (p := ⟨b4, off4 + k, none⟩) hl4).trans p4⟩
      have HD0 : Hid (Below wr.heap.size wr wr.drew) := (Below.refl _ _).drew
      clear hc4 hx4 hxk hq hdx hmx p4
      by_cases hxb : x = bx
      · have hne2 : (x != bx) = false := by simp [hxb]
        clear hxb hup
        go_upto_region 17 with fail
        refine wp_region_held_drew (S := (fun w' => w'.cell? ⟨qf, 0, none⟩ = some (.int .i64 fd.params) ∧ w'.cell? ⟨qf, 1, none⟩ = some (.int .i64 fd.names) ∧ w'.cell? ⟨qf, 2, none⟩ = some (.slice A fd.blocks.length c) ∧ w'.cell? ⟨b4, off4 + k, none⟩ = some (.int .i64 x))) (by kernel_rfl) ?_ (fun hHeld => ?_)
        · (try dsimp only)
          (first | exact HKS.out _ HD0.out | exact HKS.out _ HD1.out)
        refine wpAnyH_take (i := 0) (v := ?_) rfl (by kernel_rfl) (by kernel_rfl) (by kernel_rfl) (fun _ _ _ h => h) (Or.inl ⟨by rfl, ?_⟩) (by assumption) ?_
        rotate_left
        · intro w hSw
          simp only [List.getElem_toArray, List.getElem_cons_zero]
          (try dsimp only at hSw)
          go_simp
          first | done | (with_reducible rfl)
        simp only [List.getElem_toArray, List.getElem_cons_zero, Act.put, List.setIfInBounds_toArray, List.set_cons_zero, List.set_cons_succ]
        refine wpAnyH_take (i := 1) (v := ?_) rfl (by kernel_rfl) (by kernel_rfl) (by kernel_rfl) (fun _ _ _ h => h) (Or.inl ⟨by rfl, ?_⟩) (by assumption) ?_
        rotate_left
        · intro w hSw
          simp only [List.getElem_toArray, List.getElem_cons_succ, List.getElem_cons_zero]
          (try dsimp only at hSw)
          go_simp
          first | done | (with_reducible rfl)
        simp only [List.getElem_toArray, List.getElem_cons_succ, List.getElem_cons_zero, Act.put, List.setIfInBounds_toArray, List.set_cons_zero, List.set_cons_succ]
        refine wpAnyH_take (i := 2) (v := ?_) rfl (by kernel_rfl) (by kernel_rfl) (by kernel_rfl) (fun _ _ _ h => h) (Or.inl ⟨by rfl, ?_⟩) (by assumption) ?_
        rotate_left
        · intro w hSw
          simp only [List.getElem_toArray, List.getElem_cons_succ, List.getElem_cons_zero]
          (try dsimp only at hSw)
          go_simp
          first | done | (with_reducible rfl)
        simp only [List.getElem_toArray, List.getElem_cons_succ, List.getElem_cons_zero, Act.put, List.setIfInBounds_toArray, List.set_cons_zero, List.set_cons_succ]
        refine wpAnyH_take (i := 3) (v := ?_) rfl (by kernel_rfl) (by kernel_rfl) (by kernel_rfl) (fun _ _ _ h => h) (Or.inl ⟨by rfl, ?_⟩) (by assumption) ?_
        rotate_left
        · intro w hSw
          simp only [List.getElem_toArray, List.getElem_cons_succ, List.getElem_cons_zero]
          (try dsimp only at hSw)
          go_simp
          first | done | (with_reducible rfl)
        simp only [List.getElem_toArray, List.getElem_cons_succ, List.getElem_cons_zero, Act.put, List.setIfInBounds_toArray, List.set_cons_zero, List.set_cons_succ]
        refine wpAnyH_take (i := 4) (v := ?_) rfl (by kernel_rfl) (by kernel_rfl) (by kernel_rfl) (fun _ _ _ h => h) (Or.inl ⟨by rfl, ?_⟩) (by assumption) ?_
        rotate_left
        · intro w hSw
          simp only [List.getElem_toArray, List.getElem_cons_succ, List.getElem_cons_zero]
          (try dsimp only at hSw)
          go_simp
          first | done | (with_reducible rfl)
        simp only [List.getElem_toArray, List.getElem_cons_succ, List.getElem_cons_zero, Act.put, List.setIfInBounds_toArray, List.set_cons_zero, List.set_cons_succ]
        refine wpAnyH_take (i := 5) (v := ?_) rfl (by kernel_rfl) (by kernel_rfl) (by kernel_rfl) (fun _ _ _ h => h) (Or.inl ⟨by rfl, ?_⟩) (by assumption) ?_
        rotate_left
        · intro w hSw
          simp only [List.getElem_toArray, List.getElem_cons_succ, List.getElem_cons_zero]
          (try dsimp only at hSw)
          go_simp
          first | done | (with_reducible rfl)
        simp only [List.getElem_toArray, List.getElem_cons_succ, List.getElem_cons_zero, Act.put, List.setIfInBounds_toArray, List.set_cons_zero, List.set_cons_succ]
        refine wpAnyH_take (i := 6) (v := ?_) rfl (by kernel_rfl) (by kernel_rfl) (by kernel_rfl) (fun _ _ _ h => h) (Or.inl ⟨by rfl, ?_⟩) (by assumption) ?_
        rotate_left
        · intro w hSw
          simp only [List.getElem_toArray, List.getElem_cons_succ, List.getElem_cons_zero]
          (try dsimp only at hSw)
          go_simp
          first | done | (with_reducible rfl)
        simp only [List.getElem_toArray, List.getElem_cons_succ, List.getElem_cons_zero, Act.put, List.setIfInBounds_toArray, List.set_cons_zero, List.set_cons_succ]
        refine wpAnyH_take (i := 7) (v := undef) rfl (by kernel_rfl) (by kernel_rfl) (by kernel_rfl) (fun _ _ _ h => h) (Or.inr ⟨by rfl, rfl⟩) (by assumption) ?_
        simp only [List.getElem_toArray, List.getElem_cons_succ, List.getElem_cons_zero, Act.put, List.setIfInBounds_toArray, List.set_cons_zero, List.set_cons_succ]
        refine wpAnyH_take (i := 8) (v := undef) rfl (by kernel_rfl) (by kernel_rfl) (by kernel_rfl) (fun _ _ _ h => h) (Or.inr ⟨by rfl, rfl⟩) (by assumption) ?_
        simp only [List.getElem_toArray, List.getElem_cons_succ, List.getElem_cons_zero, Act.put, List.setIfInBounds_toArray, List.set_cons_zero, List.set_cons_succ]
        refine wpAnyH_take (i := 9) (v := undef) rfl (by kernel_rfl) (by kernel_rfl) (by kernel_rfl) (fun _ _ _ h => h) (Or.inr ⟨by rfl, rfl⟩) (by assumption) ?_
        simp only [List.getElem_toArray, List.getElem_cons_succ, List.getElem_cons_zero, Act.put, List.setIfInBounds_toArray, List.set_cons_zero, List.set_cons_succ]
        refine wpAnyH_take (i := 10) (v := undef) rfl (by kernel_rfl) (by kernel_rfl) (by kernel_rfl) (fun _ _ _ h => h) (Or.inr ⟨by rfl, rfl⟩) (by assumption) ?_
        simp only [List.getElem_toArray, List.getElem_cons_succ, List.getElem_cons_zero, Act.put, List.setIfInBounds_toArray, List.set_cons_zero, List.set_cons_succ]
        refine wpAnyH_take (i := 11) (v := undef) rfl (by kernel_rfl) (by kernel_rfl) (by kernel_rfl) (fun _ _ _ h => h) (Or.inr ⟨by rfl, rfl⟩) (by assumption) ?_
        simp only [List.getElem_toArray, List.getElem_cons_succ, List.getElem_cons_zero, Act.put, List.setIfInBounds_toArray, List.set_cons_zero, List.set_cons_succ]
        refine wpAnyH_take (i := 12) (v := undef) rfl (by kernel_rfl) (by kernel_rfl) (by kernel_rfl) (fun _ _ _ h => h) (Or.inr ⟨by rfl, rfl⟩) (by assumption) ?_
        simp only [List.getElem_toArray, List.getElem_cons_succ, List.getElem_cons_zero, Act.put, List.setIfInBounds_toArray, List.set_cons_zero, List.set_cons_succ]
        refine wpAnyH_take (i := 13) (v := undef) rfl (by kernel_rfl) (by kernel_rfl) (by kernel_rfl) (fun _ _ _ h => h) (Or.inr ⟨by rfl, rfl⟩) (by assumption) ?_
        simp only [List.getElem_toArray, List.getElem_cons_succ, List.getElem_cons_zero, Act.put, List.setIfInBounds_toArray, List.set_cons_zero, List.set_cons_succ]
        refine wpAnyH_take (i := 14) (v := ?_) rfl (by kernel_rfl) (by kernel_rfl) (by kernel_rfl) (fun _ _ _ h => h) (Or.inl ⟨by rfl, ?_⟩) (by assumption) ?_
        rotate_left
        · intro w hSw
          simp only [List.getElem_toArray, List.getElem_cons_succ, List.getElem_cons_zero]
          (try dsimp only at hSw)
          go_simp
          first | done | (with_reducible rfl)
        simp only [List.getElem_toArray, List.getElem_cons_succ, List.getElem_cons_zero, Act.put, List.setIfInBounds_toArray, List.set_cons_zero, List.set_cons_succ]
        refine wpAnyH_take (i := 15) (v := ?_) rfl (by kernel_rfl) (by kernel_rfl) (by kernel_rfl) (fun _ _ _ h => h) (Or.inl ⟨by rfl, ?_⟩) (by assumption) ?_
        rotate_left
        · intro w hSw
          simp only [List.getElem_toArray, List.getElem_cons_succ, List.getElem_cons_zero]
          (try dsimp only at hSw)
          go_simp
          first | done | (with_reducible rfl)
        simp only [List.getElem_toArray, List.getElem_cons_succ, List.getElem_cons_zero, Act.put, List.setIfInBounds_toArray, List.set_cons_zero, List.set_cons_succ]
        refine wpAnyH_take (i := 16) (v := ?_) rfl (by kernel_rfl) (by kernel_rfl) (by kernel_rfl) (fun _ _ _ h => h) (Or.inl ⟨by rfl, ?_⟩) (by assumption) ?_
        rotate_left
        · intro w hSw
          simp only [List.getElem_toArray, List.getElem_cons_succ, List.getElem_cons_zero]
          (try dsimp only at hSw)
          go_simp
          first | done | (with_reducible rfl)
        simp only [List.getElem_toArray, List.getElem_cons_succ, List.getElem_cons_zero, Act.put, List.setIfInBounds_toArray, List.set_cons_zero, List.set_cons_succ]
        refine wpAnyH_take (i := 17) (v := ?_) rfl (by kernel_rfl) (by kernel_rfl) (by kernel_rfl) (fun _ _ _ h => h) (Or.inl ⟨by rfl, ?_⟩) (by assumption) ?_
        rotate_left
        · intro w hSw
          simp only [List.getElem_toArray, List.getElem_cons_succ, List.getElem_cons_zero]
          (try dsimp only at hSw)
          go_simp
          first | done | (with_reducible rfl)
        simp only [List.getElem_toArray, List.getElem_cons_succ, List.getElem_cons_zero, Act.put, List.setIfInBounds_toArray, List.set_cons_zero, List.set_cons_succ]
        refine wpAnyH_take (i := 18) (v := ?_) rfl (by kernel_rfl) (by kernel_rfl) (by kernel_rfl) (fun _ _ _ h => h) (Or.inl ⟨by rfl, ?_⟩) (by assumption) ?_
        rotate_left
        · intro w hSw
          simp only [List.getElem_toArray, List.getElem_cons_succ, List.getElem_cons_zero]
          (try dsimp only at hSw)
          go_simp
          first | done | (with_reducible rfl)
        simp only [List.getElem_toArray, List.getElem_cons_succ, List.getElem_cons_zero, Act.put, List.setIfInBounds_toArray, List.set_cons_zero, List.set_cons_succ]
        refine wpAnyH_take (i := 19) (v := ?_) rfl (by kernel_rfl) (by kernel_rfl) (by kernel_rfl) (fun _ _ _ h => h) (Or.inl ⟨by rfl, ?_⟩) (by assumption) ?_
        rotate_left
        · intro w hSw
          simp only [List.getElem_toArray, List.getElem_cons_succ, List.getElem_cons_zero]
          (try dsimp only at hSw)
          go_simp
          first | done | (with_reducible rfl)
        simp only [List.getElem_toArray, List.getElem_cons_succ, List.getElem_cons_zero, Act.put, List.setIfInBounds_toArray, List.set_cons_zero, List.set_cons_succ]
        refine wpAnyH_take (i := 20) (v := ?_) rfl (by kernel_rfl) (by kernel_rfl) (by kernel_rfl) (fun _ _ _ h => h) (Or.inl ⟨by rfl, ?_⟩) (by assumption) ?_
        rotate_left
        · intro w hSw
          simp only [List.getElem_toArray, List.getElem_cons_succ, List.getElem_cons_zero]
          (try dsimp only at hSw)
          go_simp
          first | done | (with_reducible rfl)
        simp only [List.getElem_toArray, List.getElem_cons_succ, List.getElem_cons_zero, Act.put, List.setIfInBounds_toArray, List.set_cons_zero, List.set_cons_succ]
        refine wpAnyH_take (i := 21) (v := ?_) rfl (by kernel_rfl) (by kernel_rfl) (by kernel_rfl) (fun _ _ _ h => h) (Or.inl ⟨by rfl, ?_⟩) (by assumption) ?_
        rotate_left
        · intro w hSw
          simp only [List.getElem_toArray, List.getElem_cons_succ, List.getElem_cons_zero]
          (try dsimp only at hSw)
          go_simp
          first | done | (with_reducible rfl)
        simp only [List.getElem_toArray, List.getElem_cons_succ, List.getElem_cons_zero, Act.put, List.setIfInBounds_toArray, List.set_cons_zero, List.set_cons_succ]
        refine wpAnyH_ready (rs := [22]) (by kernel_rfl) (by simp) ?_
        refine AllReadyH.cons rfl (fun K hK => ?_) AllReadyH.nil
        simp only [List.getElem_toArray, List.getElem_cons_succ, List.getElem_cons_zero]
        go_simp
        (first | (go_at_call 14; refine (Dominates_any fd _ x bx _ _ (HFk.out.old (HD0.out.mono (by omega))) (fun b hb => by have h1 := hb.2; have h2 := HD0.out.size; omega) (by omega)).mono ?_; rintro e w20 ⟨rr, rfl, hx, hb⟩; have HD1 : Hid (Below wr.heap.size wr w20) := HD0.out.trans (hb.mono HD0.out.size); (obtain rfl : rr = true := hx.2 HDX.out); clear hx hb) | fail)
        go_wp2_with fail
        refine hK.out _ _ ?_ (fun hHeld => ?_)
        · (try dsimp only)
          (first | exact HKS.out _ HD0.out | exact HKS.out _ HD1.out)
        clear hK K
        (try simp only [List.getElem_toArray, List.getElem_cons_succ, List.getElem_cons_zero, Act.put, List.setIfInBounds_toArray, List.set_cons_zero, List.set_cons_succ])
        refine wpAnyH_take (i := 23) (v := ?_) rfl (by kernel_rfl) (by kernel_rfl) (by kernel_rfl) (fun _ _ _ h => h) (Or.inl ⟨by rfl, ?_⟩) (by assumption) ?_
        rotate_left
        · intro w hSw
          simp only [List.getElem_toArray, List.getElem_cons_succ, List.getElem_cons_zero]
          (try dsimp only at hSw)
          go_simp
          first | done | (with_reducible rfl)
        simp only [List.getElem_toArray, List.getElem_cons_succ, List.getElem_cons_zero, Act.put, List.setIfInBounds_toArray, List.set_cons_zero, List.set_cons_succ]
        refine wpAnyH_take (i := 24) (v := ?_) rfl (by kernel_rfl) (by kernel_rfl) (by kernel_rfl) (fun _ _ _ h => h) (Or.inl ⟨by rfl, ?_⟩) (by assumption) ?_
        rotate_left
        · intro w hSw
          simp only [List.getElem_toArray, List.getElem_cons_succ, List.getElem_cons_zero]
          (try dsimp only at hSw)
          go_simp
          first | done | (with_reducible rfl)
        simp only [List.getElem_toArray, List.getElem_cons_succ, List.getElem_cons_zero, Act.put, List.setIfInBounds_toArray, List.set_cons_zero, List.set_cons_succ]
        refine wpAnyH_done (by kernel_rfl) ?_ _
        have HBn : Hid (Below w16.heap.size w16 w20) := HBk.out.trans (HD1.out.mono hzk)
        clear HKS HD0 HD1
        go_wp2_with fail
        go_roundw
        case rel => exact ⟨k + 1, by omega, by go_num, HBn.out⟩
        case measure => simp [intOf]; omega
      · have hne2 : (x != bx) = true := by simpa using hxb
        have hhas : hasB ys x = true := hasB_iff.2 (hup hxb)
        clear hxb hup
        go_upto_region 17 with fail
        refine wp_region_held_drew (S := (fun w' => w'.cell? ⟨qf, 0, none⟩ = some (.int .i64 fd.params) ∧ w'.cell? ⟨qf, 1, none⟩ = some (.int .i64 fd.names) ∧ w'.cell? ⟨qf, 2, none⟩ = some (.slice A fd.blocks.length c) ∧ w'.cell? ⟨b4, off4 + k, none⟩ = some (.int .i64 x))) (by kernel_rfl) ?_ (fun hHeld => ?_)
        · (try dsimp only)
          (first | exact HKS.out _ HD0.out | exact HKS.out _ HD1.out)
        refine wpAnyH_take (i := 0) (v := ?_) rfl (by kernel_rfl) (by kernel_rfl) (by kernel_rfl) (fun _ _ _ h => h) (Or.inl ⟨by rfl, ?_⟩) (by assumption) ?_
        rotate_left
        · intro w hSw
          simp only [List.getElem_toArray, List.getElem_cons_zero]
          (try dsimp only at hSw)
          go_simp
          first | done | (with_reducible rfl)
        simp only [List.getElem_toArray, List.getElem_cons_zero, Act.put, List.setIfInBounds_toArray, List.set_cons_zero, List.set_cons_succ]
        refine wpAnyH_take (i := 1) (v := ?_) rfl (by kernel_rfl) (by kernel_rfl) (by kernel_rfl) (fun _ _ _ h => h) (Or.inl ⟨by rfl, ?_⟩) (by assumption) ?_
        rotate_left
        · intro w hSw
          simp only [List.getElem_toArray, List.getElem_cons_succ, List.getElem_cons_zero]
          (try dsimp only at hSw)
          go_simp
          first | done | (with_reducible rfl)
        simp only [List.getElem_toArray, List.getElem_cons_succ, List.getElem_cons_zero, Act.put, List.setIfInBounds_toArray, List.set_cons_zero, List.set_cons_succ]
        refine wpAnyH_take (i := 2) (v := ?_) rfl (by kernel_rfl) (by kernel_rfl) (by kernel_rfl) (fun _ _ _ h => h) (Or.inl ⟨by rfl, ?_⟩) (by assumption) ?_
        rotate_left
        · intro w hSw
          simp only [List.getElem_toArray, List.getElem_cons_succ, List.getElem_cons_zero]
          (try dsimp only at hSw)
          go_simp
          first | done | (with_reducible rfl)
        simp only [List.getElem_toArray, List.getElem_cons_succ, List.getElem_cons_zero, Act.put, List.setIfInBounds_toArray, List.set_cons_zero, List.set_cons_succ]
        refine wpAnyH_take (i := 3) (v := ?_) rfl (by kernel_rfl) (by kernel_rfl) (by kernel_rfl) (fun _ _ _ h => h) (Or.inl ⟨by rfl, ?_⟩) (by assumption) ?_
        rotate_left
        · intro w hSw
          simp only [List.getElem_toArray, List.getElem_cons_succ, List.getElem_cons_zero]
          (try dsimp only at hSw)
          go_simp
          first | done | (with_reducible rfl)
        simp only [List.getElem_toArray, List.getElem_cons_succ, List.getElem_cons_zero, Act.put, List.setIfInBounds_toArray, List.set_cons_zero, List.set_cons_succ]
        refine wpAnyH_take (i := 4) (v := ?_) rfl (by kernel_rfl) (by kernel_rfl) (by kernel_rfl) (fun _ _ _ h => h) (Or.inl ⟨by rfl, ?_⟩) (by assumption) ?_
        rotate_left
        · intro w hSw
          simp only [List.getElem_toArray, List.getElem_cons_succ, List.getElem_cons_zero]
          (try dsimp only at hSw)
          go_simp
          first | done | (with_reducible rfl)
        simp only [List.getElem_toArray, List.getElem_cons_succ, List.getElem_cons_zero, Act.put, List.setIfInBounds_toArray, List.set_cons_zero, List.set_cons_succ]
        refine wpAnyH_take (i := 5) (v := ?_) rfl (by kernel_rfl) (by kernel_rfl) (by kernel_rfl) (fun _ _ _ h => h) (Or.inl ⟨by rfl, ?_⟩) (by assumption) ?_
        rotate_left
        · intro w hSw
          simp only [List.getElem_toArray, List.getElem_cons_succ, List.getElem_cons_zero]
          (try dsimp only at hSw)
          go_simp
          first | done | (with_reducible rfl)
        simp only [List.getElem_toArray, List.getElem_cons_succ, List.getElem_cons_zero, Act.put, List.setIfInBounds_toArray, List.set_cons_zero, List.set_cons_succ]
        refine wpAnyH_take (i := 6) (v := ?_) rfl (by kernel_rfl) (by kernel_rfl) (by kernel_rfl) (fun _ _ _ h => h) (Or.inl ⟨by rfl, ?_⟩) (by assumption) ?_
        rotate_left
        · intro w hSw
          simp only [List.getElem_toArray, List.getElem_cons_succ, List.getElem_cons_zero]
          (try dsimp only at hSw)
          go_simp
          first | done | (with_reducible rfl)
        simp only [List.getElem_toArray, List.getElem_cons_succ, List.getElem_cons_zero, Act.put, List.setIfInBounds_toArray, List.set_cons_zero, List.set_cons_succ]
        refine wpAnyH_take (i := 7) (v := ?_) rfl (by kernel_rfl) (by kernel_rfl) (by kernel_rfl) (fun _ _ _ h => h) (Or.inl ⟨by rfl, ?_⟩) (by assumption) ?_
        rotate_left
        · intro w hSw
          simp only [List.getElem_toArray, List.getElem_cons_succ, List.getElem_cons_zero]
          (try dsimp only at hSw)
          go_simp
          first | done | (with_reducible rfl)
        simp only [List.getElem_toArray, List.getElem_cons_succ, List.getElem_cons_zero, Act.put, List.setIfInBounds_toArray, List.set_cons_zero, List.set_cons_succ]
        refine wpAnyH_take (i := 8) (v := ?_) rfl (by kernel_rfl) (by kernel_rfl) (by kernel_rfl) (fun _ _ _ h => h) (Or.inl ⟨by rfl, ?_⟩) (by assumption) ?_
        rotate_left
        · intro w hSw
          simp only [List.getElem_toArray, List.getElem_cons_succ, List.getElem_cons_zero]
          (try dsimp only at hSw)
          go_simp
          first | done | (with_reducible rfl)
        simp only [List.getElem_toArray, List.getElem_cons_succ, List.getElem_cons_zero, Act.put, List.setIfInBounds_toArray, List.set_cons_zero, List.set_cons_succ]
        refine wpAnyH_take (i := 9) (v := ?_) rfl (by kernel_rfl) (by kernel_rfl) (by kernel_rfl) (fun _ _ _ h => h) (Or.inl ⟨by rfl, ?_⟩) (by assumption) ?_
        rotate_left
        · intro w hSw
          simp only [List.getElem_toArray, List.getElem_cons_succ, List.getElem_cons_zero]
          (try dsimp only at hSw)
          go_simp
          first | done | (with_reducible rfl)
        simp only [List.getElem_toArray, List.getElem_cons_succ, List.getElem_cons_zero, Act.put, List.setIfInBounds_toArray, List.set_cons_zero, List.set_cons_succ]
        refine wpAnyH_take (i := 10) (v := ?_) rfl (by kernel_rfl) (by kernel_rfl) (by kernel_rfl) (fun _ _ _ h => h) (Or.inl ⟨by rfl, ?_⟩) (by assumption) ?_
        rotate_left
        · intro w hSw
          simp only [List.getElem_toArray, List.getElem_cons_succ, List.getElem_cons_zero]
          (try dsimp only at hSw)
          go_simp
          first | done | (with_reducible rfl)
        simp only [List.getElem_toArray, List.getElem_cons_succ, List.getElem_cons_zero, Act.put, List.setIfInBounds_toArray, List.set_cons_zero, List.set_cons_succ]
        refine wpAnyH_take (i := 11) (v := ?_) rfl (by kernel_rfl) (by kernel_rfl) (by kernel_rfl) (fun _ _ _ h => h) (Or.inl ⟨by rfl, ?_⟩) (by assumption) ?_
        rotate_left
        · intro w hSw
          simp only [List.getElem_toArray, List.getElem_cons_succ, List.getElem_cons_zero]
          (try dsimp only at hSw)
          go_simp
          first | done | (with_reducible rfl)
        simp only [List.getElem_toArray, List.getElem_cons_succ, List.getElem_cons_zero, Act.put, List.setIfInBounds_toArray, List.set_cons_zero, List.set_cons_succ]
        refine wpAnyH_ready (rs := [12]) (by kernel_rfl) (by simp) ?_
        refine AllReadyH.cons rfl (fun K hK => ?_) AllReadyH.nil
        simp only [List.getElem_toArray, List.getElem_cons_succ, List.getElem_cons_zero]
        go_simp
        (first | (go_at_call 16; refine (has_any _ _ _ _ (HUk.out.below HD0.out fun k hk => (HUk.out.lt k hk).2).ri).mono ?_; rintro e w' ⟨rfl, rfl⟩; rw [hhas]) | (go_at_call 14; refine (Dominates_any fd _ x bx _ _ (HFk.out.old (HD0.out.mono (by omega))) (fun b hb => by have h1 := hb.2; have h2 := HD0.out.size; omega) (by omega)).mono ?_; rintro e w20 ⟨rr, rfl, hx, hb⟩; have HD1 : Hid (Below wr.heap.size wr w20) := HD0.out.trans (hb.mono HD0.out.size); (obtain rfl : rr = true := hx.2 HDX.out); clear hx hb) | fail)
        go_wp2_with fail
        refine hK.out _ _ ?_ (fun hHeld => ?_)
        · (try dsimp only)
          (first | exact HKS.out _ HD0.out | exact HKS.out _ HD1.out)
        clear hK K
        (try simp only [List.getElem_toArray, List.getElem_cons_succ, List.getElem_cons_zero, Act.put, List.setIfInBounds_toArray, List.set_cons_zero, List.set_cons_succ])
        refine wpAnyH_take (i := 13) (v := ?_) rfl (by kernel_rfl) (by kernel_rfl) (by kernel_rfl) (fun _ _ _ h => h) (Or.inl ⟨by rfl, ?_⟩) (by assumption) ?_
        rotate_left
        · intro w hSw
          simp only [List.getElem_toArray, List.getElem_cons_succ, List.getElem_cons_zero]
          (try dsimp only at hSw)
          go_simp
          first | done | (with_reducible rfl)
        simp only [List.getElem_toArray, List.getElem_cons_succ, List.getElem_cons_zero, Act.put, List.setIfInBounds_toArray, List.set_cons_zero, List.set_cons_succ]
        refine wpAnyH_take (i := 14) (v := ?_) rfl (by kernel_rfl) (by kernel_rfl) (by kernel_rfl) (fun _ _ _ h => h) (Or.inl ⟨by rfl, ?_⟩) (by assumption) ?_
        rotate_left
        · intro w hSw
          simp only [List.getElem_toArray, List.getElem_cons_succ, List.getElem_cons_zero]
          (try dsimp only at hSw)
          go_simp
          first | done | (with_reducible rfl)
        simp only [List.getElem_toArray, List.getElem_cons_succ, List.getElem_cons_zero, Act.put, List.setIfInBounds_toArray, List.set_cons_zero, List.set_cons_succ]
        refine wpAnyH_take (i := 15) (v := ?_) rfl (by kernel_rfl) (by kernel_rfl) (by kernel_rfl) (fun _ _ _ h => h) (Or.inl ⟨by rfl, ?_⟩) (by assumption) ?_
        rotate_left
        · intro w hSw
          simp only [List.getElem_toArray, List.getElem_cons_succ, List.getElem_cons_zero]
          (try dsimp only at hSw)
          go_simp
          first | done | (with_reducible rfl)
        simp only [List.getElem_toArray, List.getElem_cons_succ, List.getElem_cons_zero, Act.put, List.setIfInBounds_toArray, List.set_cons_zero, List.set_cons_succ]
        refine wpAnyH_take (i := 16) (v := ?_) rfl (by kernel_rfl) (by kernel_rfl) (by kernel_rfl) (fun _ _ _ h => h) (Or.inl ⟨by rfl, ?_⟩) (by assumption) ?_
        rotate_left
        · intro w hSw
          simp only [List.getElem_toArray, List.getElem_cons_succ, List.getElem_cons_zero]
          (try dsimp only at hSw)
          go_simp
          first | done | (with_reducible rfl)
        simp only [List.getElem_toArray, List.getElem_cons_succ, List.getElem_cons_zero, Act.put, List.setIfInBounds_toArray, List.set_cons_zero, List.set_cons_succ]
        refine wpAnyH_take (i := 17) (v := ?_) rfl (by kernel_rfl) (by kernel_rfl) (by kernel_rfl) (fun _ _ _ h => h) (Or.inl ⟨by rfl, ?_⟩) (by assumption) ?_
        rotate_left
        · intro w hSw
          simp only [List.getElem_toArray, List.getElem_cons_succ, List.getElem_cons_zero]
          (try dsimp only at hSw)
          go_simp
          first | done | (with_reducible rfl)
        simp only [List.getElem_toArray, List.getElem_cons_succ, List.getElem_cons_zero, Act.put, List.setIfInBounds_toArray, List.set_cons_zero, List.set_cons_succ]
        refine wpAnyH_take (i := 18) (v := ?_) rfl (by kernel_rfl) (by kernel_rfl) (by kernel_rfl) (fun _ _ _ h => h) (Or.inl ⟨by rfl, ?_⟩) (by assumption) ?_
        rotate_left
        · intro w hSw
          simp only [List.getElem_toArray, List.getElem_cons_succ, List.getElem_cons_zero]
          (try dsimp only at hSw)
          go_simp
          first | done | (with_reducible rfl)
        simp only [List.getElem_toArray, List.getElem_cons_succ, List.getElem_cons_zero, Act.put, List.setIfInBounds_toArray, List.set_cons_zero, List.set_cons_succ]
        refine wpAnyH_take (i := 19) (v := ?_) rfl (by kernel_rfl) (by kernel_rfl) (by kernel_rfl) (fun _ _ _ h => h) (Or.inl ⟨by rfl, ?_⟩) (by assumption) ?_
        rotate_left
        · intro w hSw
          simp only [List.getElem_toArray, List.getElem_cons_succ, List.getElem_cons_zero]
          (try dsimp only at hSw)
          go_simp
          first | done | (with_reducible rfl)
        simp only [List.getElem_toArray, List.getElem_cons_succ, List.getElem_cons_zero, Act.put, List.setIfInBounds_toArray, List.set_cons_zero, List.set_cons_succ]
        refine wpAnyH_take (i := 20) (v := ?_) rfl (by kernel_rfl) (by kernel_rfl) (by kernel_rfl) (fun _ _ _ h => h) (Or.inl ⟨by rfl, ?_⟩) (by assumption) ?_
        rotate_left
        · intro w hSw
          simp only [List.getElem_toArray, List.getElem_cons_succ, List.getElem_cons_zero]
          (try dsimp only at hSw)
          go_simp
          first | done | (with_reducible rfl)
        simp only [List.getElem_toArray, List.getElem_cons_succ, List.getElem_cons_zero, Act.put, List.setIfInBounds_toArray, List.set_cons_zero, List.set_cons_succ]
        refine wpAnyH_take (i := 21) (v := ?_) rfl (by kernel_rfl) (by kernel_rfl) (by kernel_rfl) (fun _ _ _ h => h) (Or.inl ⟨by rfl, ?_⟩) (by assumption) ?_
        rotate_left
        · intro w hSw
          simp only [List.getElem_toArray, List.getElem_cons_succ, List.getElem_cons_zero]
          (try dsimp only at hSw)
          go_simp
          first | done | (with_reducible rfl)
        simp only [List.getElem_toArray, List.getElem_cons_succ, List.getElem_cons_zero, Act.put, List.setIfInBounds_toArray, List.set_cons_zero, List.set_cons_succ]
        refine wpAnyH_ready (rs := [22]) (by kernel_rfl) (by simp) ?_
        refine AllReadyH.cons rfl (fun K hK => ?_) AllReadyH.nil
        simp only [List.getElem_toArray, List.getElem_cons_succ, List.getElem_cons_zero]
        go_simp
        (first | (go_at_call 16; refine (has_any _ _ _ _ (HUk.out.below HD0.out fun k hk => (HUk.out.lt k hk).2).ri).mono ?_; rintro e w' ⟨rfl, rfl⟩; rw [hhas]) | (go_at_call 14; refine (Dominates_any fd _ x bx _ _ (HFk.out.old (HD0.out.mono (by omega))) (fun b hb => by have h1 := hb.2; have h2 := HD0.out.size; omega) (by omega)).mono ?_; rintro e w20 ⟨rr, rfl, hx, hb⟩; have HD1 : Hid (Below wr.heap.size wr w20) := HD0.out.trans (hb.mono HD0.out.size); (obtain rfl : rr = true := hx.2 HDX.out); clear hx hb) | fail)
        go_wp2_with fail
        refine hK.out _ _ ?_ (fun hHeld => ?_)
        · (try dsimp only)
          (first | exact HKS.out _ HD0.out | exact HKS.out _ HD1.out)
        clear hK K
        (try simp only [List.getElem_toArray, List.getElem_cons_succ, List.getElem_cons_zero, Act.put, List.setIfInBounds_toArray, List.set_cons_zero, List.set_cons_succ])
        refine wpAnyH_take (i := 23) (v := ?_) rfl (by kernel_rfl) (by kernel_rfl) (by kernel_rfl) (fun _ _ _ h => h) (Or.inl ⟨by rfl, ?_⟩) (by assumption) ?_
        rotate_left
        · intro w hSw
          simp only [List.getElem_toArray, List.getElem_cons_succ, List.getElem_cons_zero]
          (try dsimp only at hSw)
          go_simp
          first | done | (with_reducible rfl)
        simp only [List.getElem_toArray, List.getElem_cons_succ, List.getElem_cons_zero, Act.put, List.setIfInBounds_toArray, List.set_cons_zero, List.set_cons_succ]
        refine wpAnyH_take (i := 24) (v := ?_) rfl (by kernel_rfl) (by kernel_rfl) (by kernel_rfl) (fun _ _ _ h => h) (Or.inl ⟨by rfl, ?_⟩) (by assumption) ?_
        rotate_left
        · intro w hSw
          simp only [List.getElem_toArray, List.getElem_cons_succ, List.getElem_cons_zero]
          (try dsimp only at hSw)
          go_simp
          first | done | (with_reducible rfl)
        simp only [List.getElem_toArray, List.getElem_cons_succ, List.getElem_cons_zero, Act.put, List.setIfInBounds_toArray, List.set_cons_zero, List.set_cons_succ]
        refine wpAnyH_done (by kernel_rfl) ?_ _
        have HBn : Hid (Below w16.heap.size w16 w20) := HBk.out.trans (HD1.out.mono hzk)
        clear HKS HD0 HD1
        go_wp2_with fail
        go_roundw
        case rel => exact ⟨k + 1, by omega, by go_num, HBn.out⟩
        case measure => simp [intOf]; omega
    · obtain ⟨hu1, hu2, hu3, _⟩ := HUP.out
      have hh1 : hasB xs1 bx = true := hasB_iff.2 hu2
      have hh2 : hasB xs1 0 = true := hasB_iff.2 hu3
      have hln : (xs1.length : Int) - 1 = (ys.length : Int) := by omega
      have hwr : IntKind.i64.wrap ((xs1.length : Int) - 1) = (ys.length : Int) := by rw [hln]; exact IntWalk.i64_in _ (by omega)
      have hlq : ((ys.length : Int) == (ys.length : Int)) = true := by simp
      have HLk := Lib.hid (HL.out.below HBk.out fun k hk => (HL.out.lt k hk).2).ri
      have HBw : Hid (Below w.heap.size w wr) := HB.out.trans (HBk.out.mono HB.out.size)
      clear hu1 hu2 hu3 hln
      go_wp2_with fail
      refine (has_any _ _ _ _ HLk.out).mono ?_
      rintro e w' ⟨rfl, rfl⟩
      rw [hh1]
      go_wp2_with fail
      refine (has_any _ _ _ _ HLk.out).mono ?_
      rintro e w' ⟨rfl, rfl⟩
      rw [hh2]
      go_wp2_with fail
      go_ret
      exact ⟨rfl, HBw.out⟩
end

end Go.Proofs.YteikpekffgifoaaDoor
