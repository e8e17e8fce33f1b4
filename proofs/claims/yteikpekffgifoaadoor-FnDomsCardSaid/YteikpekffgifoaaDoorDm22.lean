/- Dr9, joined. -/
import Derived.Test.YteikpekffgifoaaDoorDm21
namespace Go.Proofs.YteikpekffgifoaaDoor

/- l2DrawAny of the model. -/
section
open Go.ChangeShapes Go.WideShapes Go.ChangeAt Go.RowKit Go.Joins

attribute [local go_sem ↓] Go.wp_at_zero Go.wp_at_succ

/-- The result's block is told apart from the others. -/
def mark1 (L : Nat → List Nat) (q : Nat) (p : List Nat) : Nat → List Nat := fun k => if k = q then p else L k
theorem mark1_ne {L : Nat → List Nat} {q k : Nat} {p : List Nat} (h : k ≠ q) : mark1 L q p k = L k := if_neg h
theorem mark1_eq {L : Nat → List Nat} {q : Nat} {p : List Nat} : mark1 L q p q = p := if_pos rfl

set_option maxRecDepth 10000 in
set_option maxHeartbeats 20000000 in
theorem l2DrawAny_any (w : World) (Bc g : Nat) (L0 : Nat → List Nat) (hd : DSta w Bc g L0) : Calls Tryd.prog 32 #[.pointer (some ⟨g, 0, none⟩)] w (GivesAny w Bc g L0) := by
  have hgl := hd.lt
  have HD1 : Hid (DSta (w.alloc (.cells #[.int .i64 0, .int .i64 0, .slice none 0 0] 26)) Bc g (relab L0 w.heap.size [8])) := hd.keep (wr_alloc w L0 _) (relab_ext w L0 [8]) (fun h => h) fun h => h
  have HR1 := Lib.hid (heap_alloc_new w (.cells #[.int .i64 0, .int .i64 0, .slice none 0 0] 26))
  have hs1 : (w.alloc (.cells #[.int .i64 0, .int .i64 0, .slice none 0 0] 26)).heap.size = w.heap.size + 1 := by simp
  have HW1 : Hid (Wr (fun p => p ≠ [8]) L0 w (w.alloc (.cells #[.int .i64 0, .int .i64 0, .slice none 0 0] 26))) := (wr_alloc w L0 _).mono fun _ h => h.elim
  clear hd
  go_enter Tryd.func32, Tryd.ntmps32
  go_wp2_with fail
  refine (l2Draw_any _ Bc g _ HD1.out).mono ?_
  rintro e w2 ⟨L2, ph, nm, G, n, c, bl, rfl, hext, hwr, hd2, hrow, hlen, hn1, hn6, hp1, hp2, hnm0, hnm1, hbl⟩
  have HBL := Lib.hid hbl
  clear hbl HD1
  have HG2 : Hid (GSt w (w2.alloc (.cells #[.int .i64 ph, .int .i64 nm, .slice (some ⟨G, 0, none⟩) n c] 26)) Bc g w.heap.size w2.heap.size L0 (relab (mark1 L2 w.heap.size [15]) w2.heap.size [17]) ph nm (.slice (some ⟨G, 0, none⟩) n c) bl) := by
    have hz := hwr.size
    rw [hs1] at hz
    have hE : LExt w L0 (mark1 L2 w.heap.size [15]) := fun k hk => (mark1_ne (by omega)).trans ((hext k (by omega)).trans (relab_ext w L0 [8] k hk))
    have hE2 : LExt w2 (mark1 L2 w.heap.size [15]) (relab (mark1 L2 w.heap.size [15]) w2.heap.size [17]) := relab_ext _ _ _
    have hD : DSta w2 Bc g (mark1 L2 w.heap.size [15]) := ⟨hd2.cur, (mark1_ne (by omega)).trans hd2.lg, fun k hk => (mark1_ne (by omega)).trans (hd2.code k hk)⟩
    have hR : w2.heap[w.heap.size]? = some (.cells #[.int .i64 0, .int .i64 0, .slice none 0 0] 26 (0, 0)) := (hwr.block w.heap.size (by omega) (by simp; exact relab_new _ (Nat.le_refl _))).trans HR1.out
    have hrow2 : LBl w2 w.heap.size (mark1 L2 w.heap.size [15]) (.slice (some ⟨G, 0, none⟩) n c) bl := hrow.lower (by omega) fun k hk => mark1_ne (by omega)
    exact ⟨hE.trans hE2 (by omega), (HW1.out.trans hwr (relab_ext w L0 [8])).alloc _, hD.keep (wr_alloc w2 _ _) hE2 (fun h => h) (fun h => h), hrow2.keep (wr_alloc w2 _ _) hE2 fun _ h => h.elim, heap_alloc_new w2 _,
      (Below.heap_alloc w2 _ _ (by omega)).trans hR, (hE2 _ (by omega)).trans mark1_eq, relab_new _ (Nat.le_refl _), Nat.le_refl _, by omega⟩
  clear hext hwr hd2 hrow HR1 HW1 hs1
  go_wp2_with fail
  have hq24 : w.heap.size ≤ w2.heap.size := HG2.out.hq.2
  generalize relab (mark1 L2 w.heap.size [15]) w2.heap.size [17] = L at *
  generalize w2.alloc (.cells #[.int .i64 ph, .int .i64 nm, .slice (some ⟨G, 0, none⟩) n c] 26) = w3 at *
  generalize w2.heap.size = q4 at *
  refine (once_st 4 _ Bc g _ HG2.out.sta).mono ?_
  rintro e w4 ⟨bo, rfl, hd, hw⟩
  have HG4 := Lib.hid (HG2.out.call hd hw)
  clear hd hw HG2
  have hl7 : bl.length ≤ 7 := by omega
  cases bo
  · have HA := Lib.hid (AOut.of HG4.out hl7)
    obtain ⟨⟨f0, f1, f2⟩, ⟨hR0, hR1, hR2⟩, hRf0, hRf1, hRf2⟩ := HA.out.cells
    go_wp2_with fail
    (try simp only [Exit.inBlock, Exit.then])
    refine bodyPost_ret (v := .agg #[.int .i64 ph, .int .i64 nm, (.slice (some ⟨G, 0, none⟩) n c)]) (by simp [results, Tryd.results32, go_sem, hR0, hR1, hR2]) rfl ?_
    exact HA.out.gives _ _ _
  obtain ⟨f0, f1, f2, ff⟩ := HG4.out.cells
  clear ff
  go_wp2_with fail
  refine (below_st n _ Bc g _ HG4.out.sta (by omega)).mono ?_
  rintro e w5 ⟨bi, rfl, hb0, hb1, hd, hw⟩
  have HG5 := Lib.hid (HG4.out.call hd hw)
  clear hd hw HG4 f0 f1 f2
  obtain ⟨b, rfl⟩ : ∃ b : Nat, bi = b := ⟨bi.toNat, by omega⟩
  go_wp2_with fail
  refine (below_st 10 _ Bc g _ HG5.out.sta (by omega)).mono ?_
  rintro e w6 ⟨xx, rfl, hx0, hx1, hd, hw⟩
  have HG6 := Lib.hid (HG5.out.call hd hw)
  clear hd hw HG5
  have hbn : (b : Int) < n := by omega
  have hx : bl[b]? = some bl[b] := List.getElem?_eq_getElem (by omega)
  generalize bl[b] = x at hx
  have HX := Lib.hid hx
  obtain ⟨f0, f1, f2, ff⟩ := HG6.out.cells
  obtain ⟨v0, v2, v3, ⟨p0, pf0, r0⟩, ⟨p2, pf2, r2⟩, ⟨p3, pf3, r3⟩, ⟨⟨z4, p4⟩, pf4⟩, ⟨⟨z5, p5⟩, pf5⟩, ⟨⟨z6, p6⟩, pf6⟩⟩ := HG6.out.block hx
  have HR0 := Lib.hid r0
  have HR2 := Lib.hid r2
  have HR3 := Lib.hid r3
  clear r0 r2 r3 hx
  have hxx : xx = 0 ∨ xx = 1 ∨ xx = 2 ∨ xx = 3 ∨ xx = 4 ∨ xx = 5 ∨ xx = 6 ∨ xx = 7 ∨ xx = 8 ∨ xx = 9 := by omega
  clear hx0 hx1
  rcases hxx with rfl | rfl | rfl | rfl | rfl | rfl | rfl | rfl | rfl | rfl
  · clear ff
    go_upto_region 7 with fail
    have HKS : Hid (∀ w7 : World, Wr (· = [9]) L w6 w7 → (fun w' => w'.cell? ⟨q4, 1, none⟩ = some (.int .i64 nm)) w7) := fun w7 hw => by
      have h4 : ¬ L q4 = [9] := by rw [HG6.out.l4]; simp
      have hG9 : ¬ L G = [9] := by rw [HG6.out.rows.lab.2]; simp
      have hq4 := HG6.out.lt.2
      have hGl := HG6.out.rows.lab.1
      exact (hw.cell hq4 h4 1).trans f1
    have HWd : Hid (Wr (· = [9]) L w6 w6.drew) := (wr_drew w6 L).mono (fun _ h => h.elim)
    refine wp_region_offL (S := (fun w' => w'.cell? ⟨q4, 1, none⟩ = some (.int .i64 nm))) (by simp) (by kernel_rfl) (by kernel_rfl) (by kernel_rfl) (by kernel_rfl) (by kernel_rfl) ?_ (fun hHeld => ?_)
    · (try dsimp only)
      (first | exact HKS.out _ HWd.out | exact HKS.out _ HW8.out | exact HKS.out _ HW7.out | exact HKS.out _ (HW8.out.alloc _) | exact HKS.out _ (HW7.out.alloc _) | exact HK9.out)
    simp only [List.dropLast_cons_cons, List.dropLast_singleton, List.length_cons, List.length_nil]
    refine wpAnyH_take (i := 0) (v := ?_) rfl (by kernel_rfl) (by kernel_rfl) (by kernel_rfl) (fun _ _ _ h => h) (Or.inl ⟨by rfl, ?_⟩) (by assumption) ?_
    rotate_left
    · intro w hSw
      simp only [List.getElem_toArray, List.getElem_cons_zero]
      (try dsimp only at hSw)
      go_simp
      first | done | (with_reducible rfl)
    simp only [List.getElem_toArray, List.getElem_cons_zero, Act.put, List.setIfInBounds_toArray, List.set_cons_zero, List.set_cons_succ]
    refine wpAnyH_take (i := 1) (v := ?_) rfl (by kernel_rfl) (by kernel_rfl) (by kernel_rfl) (fun _ _ _ h => h) (Or.inl ⟨by rfl, ?_⟩) (by assumption) ?_
    rotate_left
    · intro w hSw
      simp only [List.getElem_toArray, List.getElem_cons_succ, List.getElem_cons_zero]
      (try dsimp only at hSw)
      go_simp
      first | done | (with_reducible rfl)
    simp only [List.getElem_toArray, List.getElem_cons_succ, List.getElem_cons_zero, Act.put, List.setIfInBounds_toArray, List.set_cons_zero, List.set_cons_succ]
    refine wpAnyH_take (i := 2) (v := ?_) rfl (by kernel_rfl) (by kernel_rfl) (by kernel_rfl) (fun _ _ _ h => h) (Or.inl ⟨by rfl, ?_⟩) (by assumption) ?_
    rotate_left
    · intro w hSw
      simp only [List.getElem_toArray, List.getElem_cons_succ, List.getElem_cons_zero]
      (try dsimp only at hSw)
      go_simp
      first | done | (with_reducible rfl)
    simp only [List.getElem_toArray, List.getElem_cons_succ, List.getElem_cons_zero, Act.put, List.setIfInBounds_toArray, List.set_cons_zero, List.set_cons_succ]
    refine wpAnyH_ready (rs := [3]) (by kernel_rfl) (by simp) ?_
    refine AllReadyH.cons rfl (fun K hK => ?_) AllReadyH.nil
    simp only [List.getElem_toArray, List.getElem_cons_succ, List.getElem_cons_zero]
    go_simp
    (first | (go_at_call 33; refine (from_st (-1) 1 _ Bc g _ HG6.out.drew.sta (by omega) (by omega) (by omega)).mono ?_; rintro e w7 ⟨z, rfl, hz0, hz1, hd, hw⟩; have hwz : IntKind.i64.wrap (nm + z) = nm + z := IntWalk.i64_in _ (by omega); have HW7 : Hid (Wr (· = [9]) L w6 w7) := HWd.out.trans hw (LExt.refl _ _); have HG7 := Lib.hid (HG6.out.drew.call hd hw); obtain ⟨m0, m1, m2, mf⟩ := HG7.out.cells; have mf1 := mf 1; clear mf hd hw) | fail)
    go_wp2_with fail
    refine hK.out _ _ ?_ (fun hHeld => ?_)
    · (try dsimp only)
      (first | exact HKS.out _ HWd.out | exact HKS.out _ HW8.out | exact HKS.out _ HW7.out | exact HKS.out _ (HW8.out.alloc _) | exact HKS.out _ (HW7.out.alloc _) | exact HK9.out)
    clear hK K
    (try simp only [List.getElem_toArray, List.getElem_cons_succ, List.getElem_cons_zero, Act.put, List.setIfInBounds_toArray, List.set_cons_zero, List.set_cons_succ])
    refine wpAnyH_take (i := 4) (v := ?_) rfl (by kernel_rfl) (by kernel_rfl) (by kernel_rfl) (fun _ _ _ h => h) (Or.inl ⟨by rfl, ?_⟩) (by assumption) ?_
    rotate_left
    · intro w hSw
      simp only [List.getElem_toArray, List.getElem_cons_succ, List.getElem_cons_zero]
      (try dsimp only at hSw)
      go_simp
      first | done | (with_reducible rfl)
    simp only [List.getElem_toArray, List.getElem_cons_succ, List.getElem_cons_zero, Act.put, List.setIfInBounds_toArray, List.set_cons_zero, List.set_cons_succ]
    refine wpAnyH_take (i := 5) (v := ?_) rfl (by kernel_rfl) (by kernel_rfl) (by kernel_rfl) (fun _ _ _ h => h) (Or.inl ⟨by rfl, ?_⟩) (by assumption) ?_
    rotate_left
    · intro w hSw
      simp only [List.getElem_toArray, List.getElem_cons_succ, List.getElem_cons_zero]
      (try dsimp only at hSw)
      go_simp
      first | done | (with_reducible rfl)
    simp only [List.getElem_toArray, List.getElem_cons_succ, List.getElem_cons_zero, Act.put, List.setIfInBounds_toArray, List.set_cons_zero, List.set_cons_succ]
    refine wpAnyH_done (by kernel_rfl) ?_ _
    refine offQ_last rfl (fun KL hKL => ?_)
    go_simp
    refine hKL.out _ _ ?_
    clear hwz
    have HA := Lib.hid (AOut.of (HG7.out.setNm (nm + z)) hl7)
    generalize w7.setCell ⟨q4, 1, none⟩ (.int .i64 (nm + z)) = w8 at *
    clear m0 m1 m2 mf1 f0 f1 f2
    obtain ⟨⟨f0, f1, f2⟩, ⟨hR0, hR1, hR2⟩, hRf0, hRf1, hRf2⟩ := HA.out.cells
    go_wp2_with fail
    (try simp only [Exit.inBlock, Exit.then])
    refine bodyPost_ret (v := .agg #[.int .i64 ph, .int .i64 (nm + z), (.slice (some ⟨G, 0, none⟩) n c)]) (by simp [results, Tryd.results32, go_sem, hR0, hR1, hR2]) rfl ?_
    exact HA.out.gives _ _ _
  · clear ff
    go_wp2_with fail
    refine (from_st (-1) 7 _ Bc g _ HG6.out.sta (by omega) (by omega) (by omega)).mono ?_
    rintro e w7 ⟨z, rfl, hz0, hz1, hd, hw⟩
    have HG7 := Lib.hid (HG6.out.call hd hw)
    have HA := Lib.hid (AOut.of (HG7.out.setPh z) hl7)
    clear f0 f1 f2 hd hw
    obtain ⟨m0, m1, m2, mf⟩ := HG7.out.cells
    have mf0 := mf 0
    clear mf
    go_upto_region 27 with fail
    generalize w7.setCell ⟨q4, 0, none⟩ (.int .i64 z) = w8 at *
    clear m0 m1 m2 mf0
    obtain ⟨⟨f0, f1, f2⟩, ⟨hR0, hR1, hR2⟩, hRf0, hRf1, hRf2⟩ := HA.out.cells
    go_wp2_with fail
    (try simp only [Exit.inBlock, Exit.then])
    refine bodyPost_ret (v := .agg #[.int .i64 z, .int .i64 nm, (.slice (some ⟨G, 0, none⟩) n c)]) (by simp [results, Tryd.results32, go_sem, hR0, hR1, hR2]) rfl ?_
    exact HA.out.gives _ _ _
  · clear ff
    have hwn : IntKind.i64.wrap ((n : Int) + 1) = n + 1 := IntWalk.i64_in _ (by omega)
    go_upto_region 11 with fail
    have HKS : Hid (∀ w7 : World, Wr (· = [9]) L w6 w7 → (fun w' => w'.cell? ⟨q4, 2, none⟩ = some (.slice (some ⟨G, 0, none⟩) n c)) w7) := fun w7 hw => by
      have h4 : ¬ L q4 = [9] := by rw [HG6.out.l4]; simp
      have hG9 : ¬ L G = [9] := by rw [HG6.out.rows.lab.2]; simp
      have hq4 := HG6.out.lt.2
      have hGl := HG6.out.rows.lab.1
      exact (hw.cell hq4 h4 2).trans f2
    have HWd : Hid (Wr (· = [9]) L w6 w6.drew) := (wr_drew w6 L).mono (fun _ h => h.elim)
    refine wp_region_offL (S := (fun w' => w'.cell? ⟨q4, 2, none⟩ = some (.slice (some ⟨G, 0, none⟩) n c))) (by simp) (by kernel_rfl) (by kernel_rfl) (by kernel_rfl) (by kernel_rfl) (by kernel_rfl) ?_ (fun hHeld => ?_)
    · (try dsimp only)
      (first | exact HKS.out _ HWd.out | exact HKS.out _ HW8.out | exact HKS.out _ HW7.out | exact HKS.out _ (HW8.out.alloc _) | exact HKS.out _ (HW7.out.alloc _) | exact HK9.out)
    simp only [List.dropLast_cons_cons, List.dropLast_singleton, List.length_cons, List.length_nil]
    refine wpAnyH_take (i := 0) (v := ?_) rfl (by kernel_rfl) (by kernel_rfl) (by kernel_rfl) (fun _ _ _ h => h) (Or.inl ⟨by rfl, ?_⟩) (by assumption) ?_
    rotate_left
    · intro w hSw
      simp only [List.getElem_toArray, List.getElem_cons_zero]
      (try dsimp only at hSw)
      go_simp
      first | done | (with_reducible rfl)
    simp only [List.getElem_toArray, List.getElem_cons_zero, Act.put, List.setIfInBounds_toArray, List.set_cons_zero, List.set_cons_succ]
    refine wpAnyH_take (i := 1) (v := ?_) rfl (by kernel_rfl) (by kernel_rfl) (by kernel_rfl) (fun _ _ _ h => h) (Or.inl ⟨by rfl, ?_⟩) (by assumption) ?_
    rotate_left
    · intro w hSw
      simp only [List.getElem_toArray, List.getElem_cons_succ, List.getElem_cons_zero]
      (try dsimp only at hSw)
      go_simp
      first | done | (with_reducible rfl)
    simp only [List.getElem_toArray, List.getElem_cons_succ, List.getElem_cons_zero, Act.put, List.setIfInBounds_toArray, List.set_cons_zero, List.set_cons_succ]
    refine wpAnyH_take (i := 2) (v := ?_) rfl (by kernel_rfl) (by kernel_rfl) (by kernel_rfl) (fun _ _ _ h => h) (Or.inl ⟨by rfl, ?_⟩) (by assumption) ?_
    rotate_left
    · intro w hSw
      simp only [List.getElem_toArray, List.getElem_cons_succ, List.getElem_cons_zero]
      (try dsimp only at hSw)
      go_simp
      first | done | (with_reducible rfl)
    simp only [List.getElem_toArray, List.getElem_cons_succ, List.getElem_cons_zero, Act.put, List.setIfInBounds_toArray, List.set_cons_zero, List.set_cons_succ]
    refine wpAnyH_take (i := 3) (v := ?_) rfl (by kernel_rfl) (by kernel_rfl) (by kernel_rfl) (fun _ _ _ h => h) (Or.inl ⟨by rfl, ?_⟩) (by assumption) ?_
    rotate_left
    · intro w hSw
      simp only [List.getElem_toArray, List.getElem_cons_succ, List.getElem_cons_zero]
      (try dsimp only at hSw)
      go_simp
      first | done | (with_reducible rfl)
    simp only [List.getElem_toArray, List.getElem_cons_succ, List.getElem_cons_zero, Act.put, List.setIfInBounds_toArray, List.set_cons_zero, List.set_cons_succ]
    refine wpAnyH_take (i := 4) (v := ?_) rfl (by kernel_rfl) (by kernel_rfl) (by kernel_rfl) (fun _ _ _ h => h) (Or.inl ⟨by rfl, ?_⟩) (by assumption) ?_
    rotate_left
    · intro w hSw
      simp only [List.getElem_toArray, List.getElem_cons_succ, List.getElem_cons_zero]
      (try dsimp only at hSw)
      go_simp
      first | done | (with_reducible rfl)
    simp only [List.getElem_toArray, List.getElem_cons_succ, List.getElem_cons_zero, Act.put, List.setIfInBounds_toArray, List.set_cons_zero, List.set_cons_succ]
    refine wpAnyH_take (i := 5) (v := ?_) rfl (by kernel_rfl) (by kernel_rfl) (by kernel_rfl) (fun _ _ _ h => h) (Or.inl ⟨by rfl, ?_⟩) (by assumption) ?_
    rotate_left
    · intro w hSw
      simp only [List.getElem_toArray, List.getElem_cons_succ, List.getElem_cons_zero]
      (try dsimp only at hSw)
      go_simp
      first | done | (with_reducible rfl)
    simp only [List.getElem_toArray, List.getElem_cons_succ, List.getElem_cons_zero, Act.put, List.setIfInBounds_toArray, List.set_cons_zero, List.set_cons_succ]
    refine wpAnyH_take (i := 6) (v := ?_) rfl (by kernel_rfl) (by kernel_rfl) (by kernel_rfl) (fun _ _ _ h => h) (Or.inl ⟨by rfl, ?_⟩) (by assumption) ?_
    rotate_left
    · intro w hSw
      simp only [List.getElem_toArray, List.getElem_cons_succ, List.getElem_cons_zero]
      (try dsimp only at hSw)
      go_simp
      first | done | (with_reducible rfl)
    simp only [List.getElem_toArray, List.getElem_cons_succ, List.getElem_cons_zero, Act.put, List.setIfInBounds_toArray, List.set_cons_zero, List.set_cons_succ]
    refine wpAnyH_take (i := 7) (v := ?_) rfl (by kernel_rfl) (by kernel_rfl) (by kernel_rfl) (fun _ _ _ h => h) (Or.inl ⟨by rfl, ?_⟩) (by assumption) ?_
    rotate_left
    · intro w hSw
      simp only [List.getElem_toArray, List.getElem_cons_succ, List.getElem_cons_zero]
      (try dsimp only at hSw)
      go_simp
      first | done | (with_reducible rfl)
    simp only [List.getElem_toArray, List.getElem_cons_succ, List.getElem_cons_zero, Act.put, List.setIfInBounds_toArray, List.set_cons_zero, List.set_cons_succ]
    refine wpAnyH_ready (rs := [8]) (by kernel_rfl) (by simp) ?_
    refine AllReadyH.cons rfl (fun K hK => ?_) AllReadyH.nil
    simp only [List.getElem_toArray, List.getElem_cons_succ, List.getElem_cons_zero]
    go_simp
    (first | (go_at_call 54; refine (below_st (n + 1) _ Bc g _ HG6.out.drew.sta (by clear hwn; omega)).mono ?_; rintro e w7 ⟨z, rfl, hz0, hz1, hd, hw⟩; have HW7 : Hid (Wr (· = [9]) L w6 w7) := HWd.out.trans hw (LExt.refl _ _); have HG7 := Lib.hid (HG6.out.drew.call hd hw); have a1 := (HW7.out.cell HG6.out.rows.lab.1 (by rw [HG6.out.rows.lab.2]; simp) (b * 8 + 6)).trans p6; have af := (World.frozen?_of_block (a := ⟨G, b * 8 + 6, none⟩) (HW7.out.block G HG6.out.rows.lab.1 (by rw [HG6.out.rows.lab.2]; simp))).trans pf6; clear hd hw) | fail)
    go_wp2_with fail
    refine hK.out _ _ ?_ (fun hHeld => ?_)
    · (try dsimp only)
      (first | exact HKS.out _ HWd.out | exact HKS.out _ HW8.out | exact HKS.out _ HW7.out | exact HKS.out _ (HW8.out.alloc _) | exact HKS.out _ (HW7.out.alloc _) | exact HK9.out)
    clear hK K
    (try simp only [List.getElem_toArray, List.getElem_cons_succ, List.getElem_cons_zero, Act.put, List.setIfInBounds_toArray, List.set_cons_zero, List.set_cons_succ])
    refine wpAnyH_take (i := 9) (v := ?_) rfl (by kernel_rfl) (by kernel_rfl) (by kernel_rfl) (fun _ _ _ h => h) (Or.inl ⟨by rfl, ?_⟩) (by assumption) ?_
    rotate_left
    · intro w hSw
      simp only [List.getElem_toArray, List.getElem_cons_succ, List.getElem_cons_zero]
      (try dsimp only at hSw)
      go_simp
      first | done | (with_reducible rfl)
    simp only [List.getElem_toArray, List.getElem_cons_succ, List.getElem_cons_zero, Act.put, List.setIfInBounds_toArray, List.set_cons_zero, List.set_cons_succ]
    refine wpAnyH_take (i := 10) (v := ?_) rfl (by kernel_rfl) (by kernel_rfl) (by kernel_rfl) (fun _ _ _ h => h) (Or.inl ⟨by rfl, ?_⟩) (by assumption) ?_
    rotate_left
    · intro w hSw
      simp only [List.getElem_toArray, List.getElem_cons_succ, List.getElem_cons_zero]
      (try dsimp only at hSw)
      go_simp
      first | done | (with_reducible rfl)
    simp only [List.getElem_toArray, List.getElem_cons_succ, List.getElem_cons_zero, Act.put, List.setIfInBounds_toArray, List.set_cons_zero, List.set_cons_succ]
    refine wpAnyH_take (i := 11) (v := ?_) rfl (by kernel_rfl) (by kernel_rfl) (by kernel_rfl) (fun _ _ _ h => h) (Or.inl ⟨by rfl, ?_⟩) (by assumption) ?_
    rotate_left
    · intro w hSw
      simp only [List.getElem_toArray, List.getElem_cons_succ, List.getElem_cons_zero]
      (try dsimp only at hSw)
      go_simp
      first | done | (with_reducible rfl)
    simp only [List.getElem_toArray, List.getElem_cons_succ, List.getElem_cons_zero, Act.put, List.setIfInBounds_toArray, List.set_cons_zero, List.set_cons_succ]
    refine wpAnyH_done (by kernel_rfl) ?_ _
    refine offQ_last rfl (fun KL hKL => ?_)
    go_simp
    refine hKL.out _ _ ?_
    have HA : Hid (AOut w (w7.setCell ⟨G, b * 8 + 6, none⟩ (.int .i64 z)) Bc g w.heap.size q4 L0 L ph nm (.slice (some ⟨G, 0, none⟩) n c) (bl.set b { x with fin := { x.fin with t := z } })) := AOut.of (HG7.out.putEnd HX.out (j := 2) (z := z) (e := { x.fin with t := z }) (by omega) rfl) (by simpa using hl7)
    generalize w7.setCell ⟨G, b * 8 + 6, none⟩ (.int .i64 z) = w8 at *
    clear a1 af f0 f1 f2
    obtain ⟨⟨f0, f1, f2⟩, ⟨hR0, hR1, hR2⟩, hRf0, hRf1, hRf2⟩ := HA.out.cells
    go_wp2_with fail
    (try simp only [Exit.inBlock, Exit.then])
    refine bodyPost_ret (v := .agg #[.int .i64 ph, .int .i64 nm, (.slice (some ⟨G, 0, none⟩) n c)]) (by simp [results, Tryd.results32, go_sem, hR0, hR1, hR2]) rfl ?_
    exact HA.out.gives _ _ _
  · clear ff
    go_upto_region 13 with fail
    have HKS : Hid (∀ w7 : World, Wr (· = [9]) L w6 w7 → (fun w' => w'.cell? ⟨q4, 2, none⟩ = some (.slice (some ⟨G, 0, none⟩) n c)) w7) := fun w7 hw => by
      have h4 : ¬ L q4 = [9] := by rw [HG6.out.l4]; simp
      have hG9 : ¬ L G = [9] := by rw [HG6.out.rows.lab.2]; simp
      have hq4 := HG6.out.lt.2
      have hGl := HG6.out.rows.lab.1
      exact (hw.cell hq4 h4 2).trans f2
    have HWd : Hid (Wr (· = [9]) L w6 w6.drew) := (wr_drew w6 L).mono (fun _ h => h.elim)
    refine wp_region_offL (S := (fun w' => w'.cell? ⟨q4, 2, none⟩ = some (.slice (some ⟨G, 0, none⟩) n c))) (by simp) (by kernel_rfl) (by kernel_rfl) (by kernel_rfl) (by kernel_rfl) (by kernel_rfl) ?_ (fun hHeld => ?_)
    · (try dsimp only)
      (first | exact HKS.out _ HWd.out | exact HKS.out _ HW8.out | exact HKS.out _ HW7.out | exact HKS.out _ (HW8.out.alloc _) | exact HKS.out _ (HW7.out.alloc _) | exact HK9.out)
    simp only [List.dropLast_cons_cons, List.dropLast_singleton, List.length_cons, List.length_nil]
    refine wpAnyH_take (i := 0) (v := ?_) rfl (by kernel_rfl) (by kernel_rfl) (by kernel_rfl) (fun _ _ _ h => h) (Or.inl ⟨by rfl, ?_⟩) (by assumption) ?_
    rotate_left
    · intro w hSw
      simp only [List.getElem_toArray, List.getElem_cons_zero]
      (try dsimp only at hSw)
      go_simp
      first | done | (with_reducible rfl)
    simp only [List.getElem_toArray, List.getElem_cons_zero, Act.put, List.setIfInBounds_toArray, List.set_cons_zero, List.set_cons_succ]
    refine wpAnyH_take (i := 1) (v := ?_) rfl (by kernel_rfl) (by kernel_rfl) (by kernel_rfl) (fun _ _ _ h => h) (Or.inl ⟨by rfl, ?_⟩) (by assumption) ?_
    rotate_left
    · intro w hSw
      simp only [List.getElem_toArray, List.getElem_cons_succ, List.getElem_cons_zero]
      (try dsimp only at hSw)
      go_simp
      first | done | (with_reducible rfl)
    simp only [List.getElem_toArray, List.getElem_cons_succ, List.getElem_cons_zero, Act.put, List.setIfInBounds_toArray, List.set_cons_zero, List.set_cons_succ]
    refine wpAnyH_take (i := 2) (v := ?_) rfl (by kernel_rfl) (by kernel_rfl) (by kernel_rfl) (fun _ _ _ h => h) (Or.inl ⟨by rfl, ?_⟩) (by assumption) ?_
    rotate_left
    · intro w hSw
      simp only [List.getElem_toArray, List.getElem_cons_succ, List.getElem_cons_zero]
      (try dsimp only at hSw)
      go_simp
      first | done | (with_reducible rfl)
    simp only [List.getElem_toArray, List.getElem_cons_succ, List.getElem_cons_zero, Act.put, List.setIfInBounds_toArray, List.set_cons_zero, List.set_cons_succ]
    refine wpAnyH_take (i := 3) (v := ?_) rfl (by kernel_rfl) (by kernel_rfl) (by kernel_rfl) (fun _ _ _ h => h) (Or.inl ⟨by rfl, ?_⟩) (by assumption) ?_
    rotate_left
    · intro w hSw
      simp only [List.getElem_toArray, List.getElem_cons_succ, List.getElem_cons_zero]
      (try dsimp only at hSw)
      go_simp
      first | done | (with_reducible rfl)
    simp only [List.getElem_toArray, List.getElem_cons_succ, List.getElem_cons_zero, Act.put, List.setIfInBounds_toArray, List.set_cons_zero, List.set_cons_succ]
    refine wpAnyH_ready (rs := [4]) (by kernel_rfl) (by simp) ?_
    refine AllReadyH.cons rfl (fun K hK => ?_) AllReadyH.nil
    simp only [List.getElem_toArray, List.getElem_cons_succ, List.getElem_cons_zero]
    go_simp
    (first | (go_at_call 33; refine (from_st 0 4 _ Bc g _ HG6.out.drew.sta (by omega) (by omega) (by omega)).mono ?_; rintro e w7 ⟨z, rfl, hz0, hz1, hd, hw⟩; have HW7 : Hid (Wr (· = [9]) L w6 w7) := HWd.out.trans hw (LExt.refl _ _); have HG7 := Lib.hid (HG6.out.drew.call hd hw); have a1 := (HW7.out.cell HG6.out.rows.lab.1 (by rw [HG6.out.rows.lab.2]; simp) (b * 8 + 4)).trans p4; have af := (World.frozen?_of_block (a := ⟨G, b * 8 + 4, none⟩) (HW7.out.block G HG6.out.rows.lab.1 (by rw [HG6.out.rows.lab.2]; simp))).trans pf4; clear hd hw) | fail)
    go_wp2_with fail
    refine hK.out _ _ ?_ (fun hHeld => ?_)
    · (try dsimp only)
      (first | exact HKS.out _ HWd.out | exact HKS.out _ HW8.out | exact HKS.out _ HW7.out | exact HKS.out _ (HW8.out.alloc _) | exact HKS.out _ (HW7.out.alloc _) | exact HK9.out)
    clear hK K
    (try simp only [List.getElem_toArray, List.getElem_cons_succ, List.getElem_cons_zero, Act.put, List.setIfInBounds_toArray, List.set_cons_zero, List.set_cons_succ])
    refine wpAnyH_take (i := 5) (v := ?_) rfl (by kernel_rfl) (by kernel_rfl) (by kernel_rfl) (fun _ _ _ h => h) (Or.inl ⟨by rfl, ?_⟩) (by assumption) ?_
    rotate_left
    · intro w hSw
      simp only [List.getElem_toArray, List.getElem_cons_succ, List.getElem_cons_zero]
      (try dsimp only at hSw)
      go_simp
      first | done | (with_reducible rfl)
    simp only [List.getElem_toArray, List.getElem_cons_succ, List.getElem_cons_zero, Act.put, List.setIfInBounds_toArray, List.set_cons_zero, List.set_cons_succ]
    refine wpAnyH_take (i := 6) (v := ?_) rfl (by kernel_rfl) (by kernel_rfl) (by kernel_rfl) (fun _ _ _ h => h) (Or.inl ⟨by rfl, ?_⟩) (by assumption) ?_
    rotate_left
    · intro w hSw
      simp only [List.getElem_toArray, List.getElem_cons_succ, List.getElem_cons_zero]
      (try dsimp only at hSw)
      go_simp
      first | done | (with_reducible rfl)
    simp only [List.getElem_toArray, List.getElem_cons_succ, List.getElem_cons_zero, Act.put, List.setIfInBounds_toArray, List.set_cons_zero, List.set_cons_succ]
    refine wpAnyH_take (i := 7) (v := ?_) rfl (by kernel_rfl) (by kernel_rfl) (by kernel_rfl) (fun _ _ _ h => h) (Or.inl ⟨by rfl, ?_⟩) (by assumption) ?_
    rotate_left
    · intro w hSw
      simp only [List.getElem_toArray, List.getElem_cons_succ, List.getElem_cons_zero]
      (try dsimp only at hSw)
      go_simp
      first | done | (with_reducible rfl)
    simp only [List.getElem_toArray, List.getElem_cons_succ, List.getElem_cons_zero, Act.put, List.setIfInBounds_toArray, List.set_cons_zero, List.set_cons_succ]
    refine wpAnyH_done (by kernel_rfl) ?_ _
    refine offQ_last rfl (fun KL hKL => ?_)
    go_simp
    refine hKL.out _ _ ?_
    have HA : Hid (AOut w (w7.setCell ⟨G, b * 8 + 4, none⟩ (.int .i64 z)) Bc g w.heap.size q4 L0 L ph nm (.slice (some ⟨G, 0, none⟩) n c) (bl.set b { x with fin := { x.fin with k := z } })) := AOut.of (HG7.out.putEnd HX.out (j := 0) (z := z) (e := { x.fin with k := z }) (by omega) rfl) (by simpa using hl7)
    generalize w7.setCell ⟨G, b * 8 + 4, none⟩ (.int .i64 z) = w8 at *
    clear a1 af f0 f1 f2
    obtain ⟨⟨f0, f1, f2⟩, ⟨hR0, hR1, hR2⟩, hRf0, hRf1, hRf2⟩ := HA.out.cells
    go_wp2_with fail
    (try simp only [Exit.inBlock, Exit.then])
    refine bodyPost_ret (v := .agg #[.int .i64 ph, .int .i64 nm, (.slice (some ⟨G, 0, none⟩) n c)]) (by simp [results, Tryd.results32, go_sem, hR0, hR1, hR2]) rfl ?_
    exact HA.out.gives _ _ _
  · clear ff
    have hlen4 : x.tail.length ≤ 1000000 := by have := (HBL.out b x HX.out).2.2.2; omega
    go_upto_region 15 with fail
    have HKS : Hid (∀ w7 : World, Wr (· = [9]) L w6 w7 → (fun w' => w'.cell? ⟨q4, 2, none⟩ = some (.slice (some ⟨G, 0, none⟩) n c) ∧ w'.cell? ⟨G, b * 8 + 3, none⟩ = some v3) w7) := fun w7 hw => by
      have h4 : ¬ L q4 = [9] := by rw [HG6.out.l4]; simp
      have hG9 : ¬ L G = [9] := by rw [HG6.out.rows.lab.2]; simp
      have hq4 := HG6.out.lt.2
      have hGl := HG6.out.rows.lab.1
      exact ⟨(hw.cell hq4 h4 2).trans f2, (hw.cell hGl hG9 (b * 8 + 3)).trans p3⟩
    have HWd : Hid (Wr (· = [9]) L w6 w6.drew) := (wr_drew w6 L).mono (fun _ h => h.elim)
    refine wp_region_offL (S := (fun w' => w'.cell? ⟨q4, 2, none⟩ = some (.slice (some ⟨G, 0, none⟩) n c) ∧ w'.cell? ⟨G, b * 8 + 3, none⟩ = some v3)) (by simp) (by kernel_rfl) (by kernel_rfl) (by kernel_rfl) (by kernel_rfl) (by kernel_rfl) ?_ (fun hHeld => ?_)
    · (try dsimp only)
      (first | exact HKS.out _ HWd.out | exact HKS.out _ HW8.out | exact HKS.out _ HW7.out | exact HKS.out _ (HW8.out.alloc _) | exact HKS.out _ (HW7.out.alloc _) | exact HK9.out)
    simp only [List.dropLast_cons_cons, List.dropLast_singleton, List.length_cons, List.length_nil]
    refine wpAnyH_take (i := 0) (v := ?_) rfl (by kernel_rfl) (by kernel_rfl) (by kernel_rfl) (fun _ _ _ h => h) (Or.inl ⟨by rfl, ?_⟩) (by assumption) ?_
    rotate_left
    · intro w hSw
      simp only [List.getElem_toArray, List.getElem_cons_zero]
      (try dsimp only at hSw)
      go_simp
      first | done | (with_reducible rfl)
    simp only [List.getElem_toArray, List.getElem_cons_zero, Act.put, List.setIfInBounds_toArray, List.set_cons_zero, List.set_cons_succ]
    refine wpAnyH_take (i := 1) (v := ?_) rfl (by kernel_rfl) (by kernel_rfl) (by kernel_rfl) (fun _ _ _ h => h) (Or.inl ⟨by rfl, ?_⟩) (by assumption) ?_
    rotate_left
    · intro w hSw
      simp only [List.getElem_toArray, List.getElem_cons_succ, List.getElem_cons_zero]
      (try dsimp only at hSw)
      go_simp
      first | done | (with_reducible rfl)
    simp only [List.getElem_toArray, List.getElem_cons_succ, List.getElem_cons_zero, Act.put, List.setIfInBounds_toArray, List.set_cons_zero, List.set_cons_succ]
    refine wpAnyH_take (i := 2) (v := ?_) rfl (by kernel_rfl) (by kernel_rfl) (by kernel_rfl) (fun _ _ _ h => h) (Or.inl ⟨by rfl, ?_⟩) (by assumption) ?_
    rotate_left
    · intro w hSw
      simp only [List.getElem_toArray, List.getElem_cons_succ, List.getElem_cons_zero]
      (try dsimp only at hSw)
      go_simp
      first | done | (with_reducible rfl)
    simp only [List.getElem_toArray, List.getElem_cons_succ, List.getElem_cons_zero, Act.put, List.setIfInBounds_toArray, List.set_cons_zero, List.set_cons_succ]
    refine wpAnyH_take (i := 3) (v := ?_) rfl (by kernel_rfl) (by kernel_rfl) (by kernel_rfl) (fun _ _ _ h => h) (Or.inl ⟨by rfl, ?_⟩) (by assumption) ?_
    rotate_left
    · intro w hSw
      simp only [List.getElem_toArray, List.getElem_cons_succ, List.getElem_cons_zero]
      (try dsimp only at hSw)
      go_simp
      first | done | (with_reducible rfl)
    simp only [List.getElem_toArray, List.getElem_cons_succ, List.getElem_cons_zero, Act.put, List.setIfInBounds_toArray, List.set_cons_zero, List.set_cons_succ]
    refine wpAnyH_take (i := 4) (v := ?_) rfl (by kernel_rfl) (by kernel_rfl) (by kernel_rfl) (fun _ _ _ h => h) (Or.inl ⟨by rfl, ?_⟩) (by assumption) ?_
    rotate_left
    · intro w hSw
      simp only [List.getElem_toArray, List.getElem_cons_succ, List.getElem_cons_zero]
      (try dsimp only at hSw)
      go_simp
      first | done | (with_reducible rfl)
    simp only [List.getElem_toArray, List.getElem_cons_succ, List.getElem_cons_zero, Act.put, List.setIfInBounds_toArray, List.set_cons_zero, List.set_cons_succ]
    refine wpAnyH_take (i := 5) (v := ?_) rfl (by kernel_rfl) (by kernel_rfl) (by kernel_rfl) (fun _ _ _ h => h) (Or.inl ⟨by rfl, ?_⟩) (by assumption) ?_
    rotate_left
    · intro w hSw
      simp only [List.getElem_toArray, List.getElem_cons_succ, List.getElem_cons_zero]
      (try dsimp only at hSw)
      go_simp
      first | done | (with_reducible rfl)
    simp only [List.getElem_toArray, List.getElem_cons_succ, List.getElem_cons_zero, Act.put, List.setIfInBounds_toArray, List.set_cons_zero, List.set_cons_succ]
    refine wpAnyH_take (i := 6) (v := ?_) rfl (by kernel_rfl) (by kernel_rfl) (by kernel_rfl) (fun _ _ _ h => h) (Or.inl ⟨by rfl, ?_⟩) (by assumption) ?_
    rotate_left
    · intro w hSw
      simp only [List.getElem_toArray, List.getElem_cons_succ, List.getElem_cons_zero]
      (try dsimp only at hSw)
      go_simp
      first | done | (with_reducible rfl)
    simp only [List.getElem_toArray, List.getElem_cons_succ, List.getElem_cons_zero, Act.put, List.setIfInBounds_toArray, List.set_cons_zero, List.set_cons_succ]
    refine wpAnyH_take (i := 7) (v := ?_) rfl (by kernel_rfl) (by kernel_rfl) (by kernel_rfl) (fun _ _ _ h => h) (Or.inl ⟨by rfl, ?_⟩) (by assumption) ?_
    rotate_left
    · intro w hSw
      simp only [List.getElem_toArray, List.getElem_cons_succ, List.getElem_cons_zero]
      (try dsimp only at hSw)
      go_simp
      first | done | (with_reducible rfl)
    simp only [List.getElem_toArray, List.getElem_cons_succ, List.getElem_cons_zero, Act.put, List.setIfInBounds_toArray, List.set_cons_zero, List.set_cons_succ]
    refine wpAnyH_take (i := 8) (v := ?_) rfl (by kernel_rfl) (by kernel_rfl) (by kernel_rfl) (fun _ _ _ h => h) (Or.inl ⟨by rfl, ?_⟩) (by assumption) ?_
    rotate_left
    · intro w hSw
      simp only [List.getElem_toArray, List.getElem_cons_succ, List.getElem_cons_zero]
      (try dsimp only at hSw)
      go_simp
      first | done | (with_reducible rfl)
    simp only [List.getElem_toArray, List.getElem_cons_succ, List.getElem_cons_zero, Act.put, List.setIfInBounds_toArray, List.set_cons_zero, List.set_cons_succ]
    refine wpAnyH_take (i := 9) (v := ?_) rfl (by kernel_rfl) (by kernel_rfl) (by kernel_rfl) (fun _ _ _ h => h) (Or.inl ⟨by rfl, ?_⟩) (by assumption) ?_
    rotate_left
    · intro w hSw
      simp only [List.getElem_toArray, List.getElem_cons_succ, List.getElem_cons_zero]
      (try dsimp only at hSw)
      go_simp
      first | done | (with_reducible rfl)
    simp only [List.getElem_toArray, List.getElem_cons_succ, List.getElem_cons_zero, Act.put, List.setIfInBounds_toArray, List.set_cons_zero, List.set_cons_succ]
    refine wpAnyH_take (i := 11) (v := ?_) rfl (by kernel_rfl) (by kernel_rfl) (by kernel_rfl) (fun _ _ _ h => h) (Or.inl ⟨by rfl, ?_⟩) (by assumption) ?_
    rotate_left
    · intro w hSw
      simp only [List.getElem_toArray, List.getElem_cons_succ, List.getElem_cons_zero]
      (try dsimp only at hSw)
      go_simp
      first | done | (with_reducible rfl)
    simp only [List.getElem_toArray, List.getElem_cons_succ, List.getElem_cons_zero, Act.put, List.setIfInBounds_toArray, List.set_cons_zero, List.set_cons_succ]
    refine wpAnyH_ready (rs := [10]) (by kernel_rfl) (by simp) ?_
    refine AllReadyH.cons rfl (fun K hK => ?_) AllReadyH.nil
    simp only [List.getElem_toArray, List.getElem_cons_succ, List.getElem_cons_zero]
    go_simp
    (first | (refine LR.step_append rt_Move (by rfl) (.tmp 65) (.tmp 71) (by rfl) _ w8.heap.size _ (by rfl) (HR8.out.keep (wr_alloc _ _ _) (LExt.refl _ _) (fun h => h) fun _ _ _ h => h) (by rfl) (heap_alloc_new _ _) (by rfl) h1c hBw hlen4 ?_; intro gg cap w9 hs9; have HK9 : Hid ((fun w' => w'.cell? ⟨q4, 2, none⟩ = some (.slice (some ⟨G, 0, none⟩) n c) ∧ w'.cell? ⟨G, b * 8 + 3, none⟩ = some v3) w9) := ⟨(snoc_cell (wr_alloc w8 _ _) hs9 hq8 (by rw [HG6.out.l4]; simp) 2).1.trans A8.out.1, (snoc_cell (wr_alloc w8 _ _) hs9 hG8 (by rw [HG6.out.rows.lab.2]; simp) (b * 8 + 3)).1.trans A8.out.2⟩; have hs0 := HK9.out.2; have hs1 := (snoc_cell (wr_alloc w8 _ _) hs9 hG8 (by rw [HG6.out.rows.lab.2]; simp) (b * 8 + 3)).2.trans af; have HS9 := Lib.hid hs9; clear hs9) | (go_at_call 54; refine (below_st 6 _ Bc g _ HG7.out.sta (by omega)).mono ?_; rintro e w8 ⟨y2, rfl, hz2, hz3, hd, hw⟩; have HW8 : Hid (Wr (· = [9]) L w6 w8) := HW7.out.trans hw (LExt.refl _ _); have HG8 := Lib.hid (HG7.out.call hd hw); have A8 := Lib.hid (HKS.out _ HW8.out); have hq8 : q4 < w8.heap.size := Nat.lt_of_lt_of_le HG6.out.lt.2 HW8.out.size; have hG8 : G < w8.heap.size := Nat.lt_of_lt_of_le HG6.out.rows.lab.1 HW8.out.size; have af := (World.frozen?_of_block (a := ⟨G, b * 8 + 3, none⟩) (HW8.out.block G HG6.out.rows.lab.1 (by rw [HG6.out.rows.lab.2]; simp))).trans pf3; have HR8 := Lib.hid (HR3.out.keep HW8.out (LExt.refl _ _) (by simp) fun _ _ _ h => h); have h1c : ∀ u' ∈ (#[.int .i64 y1, .int .i64 y2] : Array Value).toList, u'.oneCell' = true := (by simp [Value.oneCell']); have hBw : w.heap.size ≤ (w8.alloc (.cells #[.int .i64 y1, .int .i64 y2] 89)).heap.size := (by have h1 := HG8.out.wr.size; simp; omega); clear hd hw) | (go_at_call 54; refine (below_st 6 _ Bc g _ HG6.out.drew.sta (by omega)).mono ?_; rintro e w7 ⟨y1, rfl, hz0, hz1, hd, hw⟩; have HW7 : Hid (Wr (· = [9]) L w6 w7) := HWd.out.trans hw (LExt.refl _ _); have HG7 := Lib.hid (HG6.out.drew.call hd hw); clear hd hw) | fail)
    go_wp2_with fail
    refine hK.out _ _ ?_ (fun hHeld => ?_)
    · (try dsimp only)
      (first | exact HKS.out _ HWd.out | exact HKS.out _ HW8.out | exact HKS.out _ HW7.out | exact HKS.out _ (HW8.out.alloc _) | exact HKS.out _ (HW7.out.alloc _) | exact HK9.out)
    clear hK K
    (try simp only [List.getElem_toArray, List.getElem_cons_succ, List.getElem_cons_zero, Act.put, List.setIfInBounds_toArray, List.set_cons_zero, List.set_cons_succ])
    refine wpAnyH_ready (rs := [12]) (by kernel_rfl) (by simp) ?_
    refine AllReadyH.cons rfl (fun K hK => ?_) AllReadyH.nil
    simp only [List.getElem_toArray, List.getElem_cons_succ, List.getElem_cons_zero]
    go_simp
    (first | (refine LR.step_append rt_Move (by rfl) (.tmp 65) (.tmp 71) (by rfl) _ w8.heap.size _ (by rfl) (HR8.out.keep (wr_alloc _ _ _) (LExt.refl _ _) (fun h => h) fun _ _ _ h => h) (by rfl) (heap_alloc_new _ _) (by rfl) h1c hBw hlen4 ?_; intro gg cap w9 hs9; have HK9 : Hid ((fun w' => w'.cell? ⟨q4, 2, none⟩ = some (.slice (some ⟨G, 0, none⟩) n c) ∧ w'.cell? ⟨G, b * 8 + 3, none⟩ = some v3) w9) := ⟨(snoc_cell (wr_alloc w8 _ _) hs9 hq8 (by rw [HG6.out.l4]; simp) 2).1.trans A8.out.1, (snoc_cell (wr_alloc w8 _ _) hs9 hG8 (by rw [HG6.out.rows.lab.2]; simp) (b * 8 + 3)).1.trans A8.out.2⟩; have hs0 := HK9.out.2; have hs1 := (snoc_cell (wr_alloc w8 _ _) hs9 hG8 (by rw [HG6.out.rows.lab.2]; simp) (b * 8 + 3)).2.trans af; have HS9 := Lib.hid hs9; clear hs9) | (go_at_call 54; refine (below_st 6 _ Bc g _ HG7.out.sta (by omega)).mono ?_; rintro e w8 ⟨y2, rfl, hz2, hz3, hd, hw⟩; have HW8 : Hid (Wr (· = [9]) L w6 w8) := HW7.out.trans hw (LExt.refl _ _); have HG8 := Lib.hid (HG7.out.call hd hw); have A8 := Lib.hid (HKS.out _ HW8.out); have hq8 : q4 < w8.heap.size := Nat.lt_of_lt_of_le HG6.out.lt.2 HW8.out.size; have hG8 : G < w8.heap.size := Nat.lt_of_lt_of_le HG6.out.rows.lab.1 HW8.out.size; have af := (World.frozen?_of_block (a := ⟨G, b * 8 + 3, none⟩) (HW8.out.block G HG6.out.rows.lab.1 (by rw [HG6.out.rows.lab.2]; simp))).trans pf3; have HR8 := Lib.hid (HR3.out.keep HW8.out (LExt.refl _ _) (by simp) fun _ _ _ h => h); have h1c : ∀ u' ∈ (#[.int .i64 y1, .int .i64 y2] : Array Value).toList, u'.oneCell' = true := (by simp [Value.oneCell']); have hBw : w.heap.size ≤ (w8.alloc (.cells #[.int .i64 y1, .int .i64 y2] 89)).heap.size := (by have h1 := HG8.out.wr.size; simp; omega); clear hd hw) | (go_at_call 54; refine (below_st 6 _ Bc g _ HG6.out.drew.sta (by omega)).mono ?_; rintro e w7 ⟨y1, rfl, hz0, hz1, hd, hw⟩; have HW7 : Hid (Wr (· = [9]) L w6 w7) := HWd.out.trans hw (LExt.refl _ _); have HG7 := Lib.hid (HG6.out.drew.call hd hw); clear hd hw) | fail)
    go_wp2_with fail
    refine hK.out _ _ ?_ (fun hHeld => ?_)
    · (try dsimp only)
      (first | exact HKS.out _ HWd.out | exact HKS.out _ HW8.out | exact HKS.out _ HW7.out | exact HKS.out _ (HW8.out.alloc _) | exact HKS.out _ (HW7.out.alloc _) | exact HK9.out)
    clear hK K
    (try simp only [List.getElem_toArray, List.getElem_cons_succ, List.getElem_cons_zero, Act.put, List.setIfInBounds_toArray, List.set_cons_zero, List.set_cons_succ])
    refine wpAnyH_take (i := 13) (v := ?_) rfl (by kernel_rfl) (by kernel_rfl) (by kernel_rfl) (fun _ _ _ h => h) (Or.inl ⟨by rfl, ?_⟩) (by assumption) ?_
    rotate_left
    · intro w hSw
      simp only [List.getElem_toArray, List.getElem_cons_succ, List.getElem_cons_zero]
      (try dsimp only at hSw)
      go_simp
      first | done | (with_reducible rfl)
    simp only [List.getElem_toArray, List.getElem_cons_succ, List.getElem_cons_zero, Act.put, List.setIfInBounds_toArray, List.set_cons_zero, List.set_cons_succ]
    refine wpAnyH_ready (rs := [14]) (by kernel_rfl) (by simp) ?_
    refine AllReadyH.cons rfl (fun K hK => ?_) AllReadyH.nil
    simp only [List.getElem_toArray, List.getElem_cons_succ, List.getElem_cons_zero]
    go_simp
    refine hK.out _ _ ?_ (fun hHeld => ?_)
    · (try dsimp only)
      (first | exact HKS.out _ HWd.out | exact HKS.out _ HW8.out | exact HKS.out _ HW7.out | exact HKS.out _ (HW8.out.alloc _) | exact HKS.out _ (HW7.out.alloc _) | exact HK9.out)
    clear hK K
    (try simp only [List.getElem_toArray, List.getElem_cons_succ, List.getElem_cons_zero, Act.put, List.setIfInBounds_toArray, List.set_cons_zero, List.set_cons_succ])
    refine wpAnyH_ready (rs := [15]) (by kernel_rfl) (by simp) ?_
    refine AllReadyH.cons rfl (fun K hK => ?_) AllReadyH.nil
    (first | (refine LR.step_append rt_Move (by rfl) (.tmp 65) (.tmp 71) (by rfl) _ w8.heap.size _ (by rfl) (HR8.out.keep (wr_alloc _ _ _) (LExt.refl _ _) (fun h => h) fun _ _ _ h => h) (by rfl) (heap_alloc_new _ _) (by rfl) h1c hBw hlen4 ?_; intro gg cap w9 hs9; have HK9 : Hid ((fun w' => w'.cell? ⟨q4, 2, none⟩ = some (.slice (some ⟨G, 0, none⟩) n c) ∧ w'.cell? ⟨G, b * 8 + 3, none⟩ = some v3) w9) := ⟨(snoc_cell (wr_alloc w8 _ _) hs9 hq8 (by rw [HG6.out.l4]; simp) 2).1.trans A8.out.1, (snoc_cell (wr_alloc w8 _ _) hs9 hG8 (by rw [HG6.out.rows.lab.2]; simp) (b * 8 + 3)).1.trans A8.out.2⟩; have hs0 := HK9.out.2; have hs1 := (snoc_cell (wr_alloc w8 _ _) hs9 hG8 (by rw [HG6.out.rows.lab.2]; simp) (b * 8 + 3)).2.trans af; have HS9 := Lib.hid hs9; clear hs9) | (go_at_call 54; refine (below_st 6 _ Bc g _ HG7.out.sta (by omega)).mono ?_; rintro e w8 ⟨y2, rfl, hz2, hz3, hd, hw⟩; have HW8 : Hid (Wr (· = [9]) L w6 w8) := HW7.out.trans hw (LExt.refl _ _); have HG8 := Lib.hid (HG7.out.call hd hw); have A8 := Lib.hid (HKS.out _ HW8.out); have hq8 : q4 < w8.heap.size := Nat.lt_of_lt_of_le HG6.out.lt.2 HW8.out.size; have hG8 : G < w8.heap.size := Nat.lt_of_lt_of_le HG6.out.rows.lab.1 HW8.out.size; have af := (World.frozen?_of_block (a := ⟨G, b * 8 + 3, none⟩) (HW8.out.block G HG6.out.rows.lab.1 (by rw [HG6.out.rows.lab.2]; simp))).trans pf3; have HR8 := Lib.hid (HR3.out.keep HW8.out (LExt.refl _ _) (by simp) fun _ _ _ h => h); have h1c : ∀ u' ∈ (#[.int .i64 y1, .int .i64 y2] : Array Value).toList, u'.oneCell' = true := (by simp [Value.oneCell']); have hBw : w.heap.size ≤ (w8.alloc (.cells #[.int .i64 y1, .int .i64 y2] 89)).heap.size := (by have h1 := HG8.out.wr.size; simp; omega); clear hd hw) | (go_at_call 54; refine (below_st 6 _ Bc g _ HG6.out.drew.sta (by omega)).mono ?_; rintro e w7 ⟨y1, rfl, hz0, hz1, hd, hw⟩; have HW7 : Hid (Wr (· = [9]) L w6 w7) := HWd.out.trans hw (LExt.refl _ _); have HG7 := Lib.hid (HG6.out.drew.call hd hw); clear hd hw) | fail)
    refine hK.out _ _ ?_ (fun hHeld => ?_)
    · (try dsimp only)
      (first | exact HKS.out _ HWd.out | exact HKS.out _ HW8.out | exact HKS.out _ HW7.out | exact HKS.out _ (HW8.out.alloc _) | exact HKS.out _ (HW7.out.alloc _) | exact HK9.out)
    clear hK K
    (try simp only [List.getElem_toArray, List.getElem_cons_succ, List.getElem_cons_zero, Act.put, List.setIfInBounds_toArray, List.set_cons_zero, List.set_cons_succ])
    refine wpAnyH_take (i := 16) (v := ?_) rfl (by kernel_rfl) (by kernel_rfl) (by kernel_rfl) (fun _ _ _ h => h) (Or.inl ⟨by rfl, ?_⟩) (by assumption) ?_
    rotate_left
    · intro w hSw
      simp only [List.getElem_toArray, List.getElem_cons_succ, List.getElem_cons_zero]
      (try dsimp only at hSw)
      go_simp
      first | done | (with_reducible rfl)
    simp only [List.getElem_toArray, List.getElem_cons_succ, List.getElem_cons_zero, Act.put, List.setIfInBounds_toArray, List.set_cons_zero, List.set_cons_succ]
    refine wpAnyH_take (i := 17) (v := ?_) rfl (by kernel_rfl) (by kernel_rfl) (by kernel_rfl) (fun _ _ _ h => h) (Or.inl ⟨by rfl, ?_⟩) (by assumption) ?_
    rotate_left
    · intro w hSw
      simp only [List.getElem_toArray, List.getElem_cons_succ, List.getElem_cons_zero]
      (try dsimp only at hSw)
      go_simp
      first | done | (with_reducible rfl)
    simp only [List.getElem_toArray, List.getElem_cons_succ, List.getElem_cons_zero, Act.put, List.setIfInBounds_toArray, List.set_cons_zero, List.set_cons_succ]
    refine wpAnyH_done (by kernel_rfl) ?_ _
    refine offQ_last rfl (fun KL hKL => ?_)
    go_simp
    refine hKL.out _ _ ?_
    have HA := Lib.hid (AOut.of (HG8.out.addMove (i := ⟨y1, y2⟩) HX.out (wr_alloc w8 L _) HS9.out) (by simpa using hl7))
    generalize w9.setCell ⟨G, b * 8 + 3, none⟩ (.slice (some ⟨gg, 0, none⟩) (x.tail.length + 1) cap) = w10 at *
    clear hs0 hs1 af f0 f1 f2
    obtain ⟨⟨f0, f1, f2⟩, ⟨hR0, hR1, hR2⟩, hRf0, hRf1, hRf2⟩ := HA.out.cells
    go_wp2_with fail
    (try simp only [Exit.inBlock, Exit.then])
    refine bodyPost_ret (v := .agg #[.int .i64 ph, .int .i64 nm, (.slice (some ⟨G, 0, none⟩) n c)]) (by simp [results, Tryd.results32, go_sem, hR0, hR1, hR2]) rfl ?_
    exact HA.out.gives _ _ _
  · clear ff
    have hlen5 : x.body.length ≤ 1000000 := by have := (HBL.out b x HX.out).2.2.1; omega
    go_upto_region 17 with fail
    have HKS : Hid (∀ w7 : World, Wr (· = [9]) L w6 w7 → (fun w' => w'.cell? ⟨q4, 2, none⟩ = some (.slice (some ⟨G, 0, none⟩) n c) ∧ w'.cell? ⟨G, b * 8 + 2, none⟩ = some v2) w7) := fun w7 hw => by
      have h4 : ¬ L q4 = [9] := by rw [HG6.out.l4]; simp
      have hG9 : ¬ L G = [9] := by rw [HG6.out.rows.lab.2]; simp
      have hq4 := HG6.out.lt.2
      have hGl := HG6.out.rows.lab.1
      exact ⟨(hw.cell hq4 h4 2).trans f2, (hw.cell hGl hG9 (b * 8 + 2)).trans p2⟩
    have HWd : Hid (Wr (· = [9]) L w6 w6.drew) := (wr_drew w6 L).mono (fun _ h => h.elim)
    refine wp_region_offL (S := (fun w' => w'.cell? ⟨q4, 2, none⟩ = some (.slice (some ⟨G, 0, none⟩) n c) ∧ w'.cell? ⟨G, b * 8 + 2, none⟩ = some v2)) (by simp) (by kernel_rfl) (by kernel_rfl) (by kernel_rfl) (by kernel_rfl) (by kernel_rfl) ?_ (fun hHeld => ?_)
    · (try dsimp only)
      (first | exact HKS.out _ HWd.out | exact HKS.out _ HW8.out | exact HKS.out _ HW7.out | exact HKS.out _ (HW8.out.alloc _) | exact HKS.out _ (HW7.out.alloc _) | exact HK9.out)
    simp only [List.dropLast_cons_cons, List.dropLast_singleton, List.length_cons, List.length_nil]
    refine wpAnyH_take (i := 0) (v := ?_) rfl (by kernel_rfl) (by kernel_rfl) (by kernel_rfl) (fun _ _ _ h => h) (Or.inl ⟨by rfl, ?_⟩) (by assumption) ?_
    rotate_left
    · intro w hSw
      simp only [List.getElem_toArray, List.getElem_cons_zero]
      (try dsimp only at hSw)
      go_simp
      first | done | (with_reducible rfl)
    simp only [List.getElem_toArray, List.getElem_cons_zero, Act.put, List.setIfInBounds_toArray, List.set_cons_zero, List.set_cons_succ]
    refine wpAnyH_take (i := 1) (v := ?_) rfl (by kernel_rfl) (by kernel_rfl) (by kernel_rfl) (fun _ _ _ h => h) (Or.inl ⟨by rfl, ?_⟩) (by assumption) ?_
    rotate_left
    · intro w hSw
      simp only [List.getElem_toArray, List.getElem_cons_succ, List.getElem_cons_zero]
      (try dsimp only at hSw)
      go_simp
      first | done | (with_reducible rfl)
    simp only [List.getElem_toArray, List.getElem_cons_succ, List.getElem_cons_zero, Act.put, List.setIfInBounds_toArray, List.set_cons_zero, List.set_cons_succ]
    refine wpAnyH_take (i := 2) (v := ?_) rfl (by kernel_rfl) (by kernel_rfl) (by kernel_rfl) (fun _ _ _ h => h) (Or.inl ⟨by rfl, ?_⟩) (by assumption) ?_
    rotate_left
    · intro w hSw
      simp only [List.getElem_toArray, List.getElem_cons_succ, List.getElem_cons_zero]
      (try dsimp only at hSw)
      go_simp
      first | done | (with_reducible rfl)
    simp only [List.getElem_toArray, List.getElem_cons_succ, List.getElem_cons_zero, Act.put, List.setIfInBounds_toArray, List.set_cons_zero, List.set_cons_succ]
    refine wpAnyH_take (i := 3) (v := ?_) rfl (by kernel_rfl) (by kernel_rfl) (by kernel_rfl) (fun _ _ _ h => h) (Or.inl ⟨by rfl, ?_⟩) (by assumption) ?_
    rotate_left
    · intro w hSw
      simp only [List.getElem_toArray, List.getElem_cons_succ, List.getElem_cons_zero]
      (try dsimp only at hSw)
      go_simp
      first | done | (with_reducible rfl)
    simp only [List.getElem_toArray, List.getElem_cons_succ, List.getElem_cons_zero, Act.put, List.setIfInBounds_toArray, List.set_cons_zero, List.set_cons_succ]
    refine wpAnyH_take (i := 4) (v := ?_) rfl (by kernel_rfl) (by kernel_rfl) (by kernel_rfl) (fun _ _ _ h => h) (Or.inl ⟨by rfl, ?_⟩) (by assumption) ?_
    rotate_left
    · intro w hSw
      simp only [List.getElem_toArray, List.getElem_cons_succ, List.getElem_cons_zero]
      (try dsimp only at hSw)
      go_simp
      first | done | (with_reducible rfl)
    simp only [List.getElem_toArray, List.getElem_cons_succ, List.getElem_cons_zero, Act.put, List.setIfInBounds_toArray, List.set_cons_zero, List.set_cons_succ]
    refine wpAnyH_take (i := 5) (v := ?_) rfl (by kernel_rfl) (by kernel_rfl) (by kernel_rfl) (fun _ _ _ h => h) (Or.inl ⟨by rfl, ?_⟩) (by assumption) ?_
    rotate_left
    · intro w hSw
      simp only [List.getElem_toArray, List.getElem_cons_succ, List.getElem_cons_zero]
      (try dsimp only at hSw)
      go_simp
      first | done | (with_reducible rfl)
    simp only [List.getElem_toArray, List.getElem_cons_succ, List.getElem_cons_zero, Act.put, List.setIfInBounds_toArray, List.set_cons_zero, List.set_cons_succ]
    refine wpAnyH_take (i := 6) (v := ?_) rfl (by kernel_rfl) (by kernel_rfl) (by kernel_rfl) (fun _ _ _ h => h) (Or.inl ⟨by rfl, ?_⟩) (by assumption) ?_
    rotate_left
    · intro w hSw
      simp only [List.getElem_toArray, List.getElem_cons_succ, List.getElem_cons_zero]
      (try dsimp only at hSw)
      go_simp
      first | done | (with_reducible rfl)
    simp only [List.getElem_toArray, List.getElem_cons_succ, List.getElem_cons_zero, Act.put, List.setIfInBounds_toArray, List.set_cons_zero, List.set_cons_succ]
    refine wpAnyH_take (i := 7) (v := ?_) rfl (by kernel_rfl) (by kernel_rfl) (by kernel_rfl) (fun _ _ _ h => h) (Or.inl ⟨by rfl, ?_⟩) (by assumption) ?_
    rotate_left
    · intro w hSw
      simp only [List.getElem_toArray, List.getElem_cons_succ, List.getElem_cons_zero]
      (try dsimp only at hSw)
      go_simp
      first | done | (with_reducible rfl)
    simp only [List.getElem_toArray, List.getElem_cons_succ, List.getElem_cons_zero, Act.put, List.setIfInBounds_toArray, List.set_cons_zero, List.set_cons_succ]
    refine wpAnyH_take (i := 8) (v := ?_) rfl (by kernel_rfl) (by kernel_rfl) (by kernel_rfl) (fun _ _ _ h => h) (Or.inl ⟨by rfl, ?_⟩) (by assumption) ?_
    rotate_left
    · intro w hSw
      simp only [List.getElem_toArray, List.getElem_cons_succ, List.getElem_cons_zero]
      (try dsimp only at hSw)
      go_simp
      first | done | (with_reducible rfl)
    simp only [List.getElem_toArray, List.getElem_cons_succ, List.getElem_cons_zero, Act.put, List.setIfInBounds_toArray, List.set_cons_zero, List.set_cons_succ]
    refine wpAnyH_take (i := 9) (v := ?_) rfl (by kernel_rfl) (by kernel_rfl) (by kernel_rfl) (fun _ _ _ h => h) (Or.inl ⟨by rfl, ?_⟩) (by assumption) ?_
    rotate_left
    · intro w hSw
      simp only [List.getElem_toArray, List.getElem_cons_succ, List.getElem_cons_zero]
      (try dsimp only at hSw)
      go_simp
      first | done | (with_reducible rfl)
    simp only [List.getElem_toArray, List.getElem_cons_succ, List.getElem_cons_zero, Act.put, List.setIfInBounds_toArray, List.set_cons_zero, List.set_cons_succ]
    refine wpAnyH_ready (rs := [10]) (by kernel_rfl) (by simp) ?_
    refine AllReadyH.cons rfl (fun K hK => ?_) AllReadyH.nil
    simp only [List.getElem_toArray, List.getElem_cons_succ, List.getElem_cons_zero]
    go_simp
    (first | (refine LR.step_append rt_Ins (by rfl) (.tmp 85) (.tmp 88) (by rfl) _ w8.heap.size _ (by rfl) (HR8.out.keep (wr_alloc _ _ _) (LExt.refl _ _) (fun h => h) fun _ _ _ h => h) (by rfl) (heap_alloc_new _ _) (by rfl) h1c hBw hlen5 ?_; intro gg cap w9 hs9; have HK9 : Hid ((fun w' => w'.cell? ⟨q4, 2, none⟩ = some (.slice (some ⟨G, 0, none⟩) n c) ∧ w'.cell? ⟨G, b * 8 + 2, none⟩ = some v2) w9) := ⟨(snoc_cell (wr_alloc w8 _ _) hs9 hq8 (by rw [HG6.out.l4]; simp) 2).1.trans A8.out.1, (snoc_cell (wr_alloc w8 _ _) hs9 hG8 (by rw [HG6.out.rows.lab.2]; simp) (b * 8 + 2)).1.trans A8.out.2⟩; have hs0 := HK9.out.2; have hs1 := (snoc_cell (wr_alloc w8 _ _) hs9 hG8 (by rw [HG6.out.rows.lab.2]; simp) (b * 8 + 2)).2.trans af; have HS9 := Lib.hid hs9; clear hs9) | (go_at_call 55; refine (l1DrawIns_any Bc g _ HG6.out.drew.sta.cur).mono ?_; rintro e w8 ⟨y0, y1, y2, y3, rfl, hc8, hg8⟩; have hw := wr9 HG6.out.drew.sta hg8; have HW8 : Hid (Wr (· = [9]) L w6 w8) := HWd.out.trans hw (LExt.refl _ _); have HG8 := Lib.hid (HG6.out.drew.call (HG6.out.drew.sta.grown hc8) hw); have A8 := Lib.hid (HKS.out _ HW8.out); have hq8 : q4 < w8.heap.size := Nat.lt_of_lt_of_le HG6.out.lt.2 HW8.out.size; have hG8 : G < w8.heap.size := Nat.lt_of_lt_of_le HG6.out.rows.lab.1 HW8.out.size; have af := (World.frozen?_of_block (a := ⟨G, b * 8 + 2, none⟩) (HW8.out.block G HG6.out.rows.lab.1 (by rw [HG6.out.rows.lab.2]; simp))).trans pf2; have HR8 := Lib.hid (HR2.out.keep HW8.out (LExt.refl _ _) (by simp) fun _ _ _ h => h); have h1c : ∀ u' ∈ (#[.int .i64 y0, .int .i64 y1, .int .i64 y2, .int .i64 y3] : Array Value).toList, u'.oneCell' = true := (by simp [Value.oneCell']); have hBw : w.heap.size ≤ (w8.alloc (.cells #[.int .i64 y0, .int .i64 y1, .int .i64 y2, .int .i64 y3] 91)).heap.size := (by have h1 := HG8.out.wr.size; simp; omega); clear hc8 hg8 hw) | fail)
    go_wp2_with fail
    refine hK.out _ _ ?_ (fun hHeld => ?_)
    · (try dsimp only)
      (first | exact HKS.out _ HWd.out | exact HKS.out _ HW8.out | exact HKS.out _ HW7.out | exact HKS.out _ (HW8.out.alloc _) | exact HKS.out _ (HW7.out.alloc _) | exact HK9.out)
    clear hK K
    (try simp only [List.getElem_toArray, List.getElem_cons_succ, List.getElem_cons_zero, Act.put, List.setIfInBounds_toArray, List.set_cons_zero, List.set_cons_succ])
    refine wpAnyH_ready (rs := [11]) (by kernel_rfl) (by simp) ?_
    refine AllReadyH.cons rfl (fun K hK => ?_) AllReadyH.nil
    simp only [List.getElem_toArray, List.getElem_cons_succ, List.getElem_cons_zero]
    go_simp
    refine hK.out _ _ ?_ (fun hHeld => ?_)
    · (try dsimp only)
      (first | exact HKS.out _ HWd.out | exact HKS.out _ HW8.out | exact HKS.out _ HW7.out | exact HKS.out _ (HW8.out.alloc _) | exact HKS.out _ (HW7.out.alloc _) | exact HK9.out)
    clear hK K
    (try simp only [List.getElem_toArray, List.getElem_cons_succ, List.getElem_cons_zero, Act.put, List.setIfInBounds_toArray, List.set_cons_zero, List.set_cons_succ])
    refine wpAnyH_ready (rs := [12]) (by kernel_rfl) (by simp) ?_
    refine AllReadyH.cons rfl (fun K hK => ?_) AllReadyH.nil
    (first | (refine LR.step_append rt_Ins (by rfl) (.tmp 85) (.tmp 88) (by rfl) _ w8.heap.size _ (by rfl) (HR8.out.keep (wr_alloc _ _ _) (LExt.refl _ _) (fun h => h) fun _ _ _ h => h) (by rfl) (heap_alloc_new _ _) (by rfl) h1c hBw hlen5 ?_; intro gg cap w9 hs9; have HK9 : Hid ((fun w' => w'.cell? ⟨q4, 2, none⟩ = some (.slice (some ⟨G, 0, none⟩) n c) ∧ w'.cell? ⟨G, b * 8 + 2, none⟩ = some v2) w9) := ⟨(snoc_cell (wr_alloc w8 _ _) hs9 hq8 (by rw [HG6.out.l4]; simp) 2).1.trans A8.out.1, (snoc_cell (wr_alloc w8 _ _) hs9 hG8 (by rw [HG6.out.rows.lab.2]; simp) (b * 8 + 2)).1.trans A8.out.2⟩; have hs0 := HK9.out.2; have hs1 := (snoc_cell (wr_alloc w8 _ _) hs9 hG8 (by rw [HG6.out.rows.lab.2]; simp) (b * 8 + 2)).2.trans af; have HS9 := Lib.hid hs9; clear hs9) | (go_at_call 55; refine (l1DrawIns_any Bc g _ HG6.out.drew.sta.cur).mono ?_; rintro e w8 ⟨y0, y1, y2, y3, rfl, hc8, hg8⟩; have hw := wr9 HG6.out.drew.sta hg8; have HW8 : Hid (Wr (· = [9]) L w6 w8) := HWd.out.trans hw (LExt.refl _ _); have HG8 := Lib.hid (HG6.out.drew.call (HG6.out.drew.sta.grown hc8) hw); have A8 := Lib.hid (HKS.out _ HW8.out); have hq8 : q4 < w8.heap.size := Nat.lt_of_lt_of_le HG6.out.lt.2 HW8.out.size; have hG8 : G < w8.heap.size := Nat.lt_of_lt_of_le HG6.out.rows.lab.1 HW8.out.size; have af := (World.frozen?_of_block (a := ⟨G, b * 8 + 2, none⟩) (HW8.out.block G HG6.out.rows.lab.1 (by rw [HG6.out.rows.lab.2]; simp))).trans pf2; have HR8 := Lib.hid (HR2.out.keep HW8.out (LExt.refl _ _) (by simp) fun _ _ _ h => h); have h1c : ∀ u' ∈ (#[.int .i64 y0, .int .i64 y1, .int .i64 y2, .int .i64 y3] : Array Value).toList, u'.oneCell' = true := (by simp [Value.oneCell']); have hBw : w.heap.size ≤ (w8.alloc (.cells #[.int .i64 y0, .int .i64 y1, .int .i64 y2, .int .i64 y3] 91)).heap.size := (by have h1 := HG8.out.wr.size; simp; omega); clear hc8 hg8 hw) | fail)
    refine hK.out _ _ ?_ (fun hHeld => ?_)
    · (try dsimp only)
      (first | exact HKS.out _ HWd.out | exact HKS.out _ HW8.out | exact HKS.out _ HW7.out | exact HKS.out _ (HW8.out.alloc _) | exact HKS.out _ (HW7.out.alloc _) | exact HK9.out)
    clear hK K
    (try simp only [List.getElem_toArray, List.getElem_cons_succ, List.getElem_cons_zero, Act.put, List.setIfInBounds_toArray, List.set_cons_zero, List.set_cons_succ])
    refine wpAnyH_take (i := 13) (v := ?_) rfl (by kernel_rfl) (by kernel_rfl) (by kernel_rfl) (fun _ _ _ h => h) (Or.inl ⟨by rfl, ?_⟩) (by assumption) ?_
    rotate_left
    · intro w hSw
      simp only [List.getElem_toArray, List.getElem_cons_succ, List.getElem_cons_zero]
      (try dsimp only at hSw)
      go_simp
      first | done | (with_reducible rfl)
    simp only [List.getElem_toArray, List.getElem_cons_succ, List.getElem_cons_zero, Act.put, List.setIfInBounds_toArray, List.set_cons_zero, List.set_cons_succ]
    refine wpAnyH_take (i := 14) (v := ?_) rfl (by kernel_rfl) (by kernel_rfl) (by kernel_rfl) (fun _ _ _ h => h) (Or.inl ⟨by rfl, ?_⟩) (by assumption) ?_
    rotate_left
    · intro w hSw
      simp only [List.getElem_toArray, List.getElem_cons_succ, List.getElem_cons_zero]
      (try dsimp only at hSw)
      go_simp
      first | done | (with_reducible rfl)
    simp only [List.getElem_toArray, List.getElem_cons_succ, List.getElem_cons_zero, Act.put, List.setIfInBounds_toArray, List.set_cons_zero, List.set_cons_succ]
    refine wpAnyH_done (by kernel_rfl) ?_ _
    refine offQ_last rfl (fun KL hKL => ?_)
    go_simp
    refine hKL.out _ _ ?_
    have HA := Lib.hid (AOut.of (HG8.out.addIns (i := ⟨y0, y1, y2, y3⟩) HX.out (wr_alloc w8 L _) HS9.out) (by simpa using hl7))
    generalize w9.setCell ⟨G, b * 8 + 2, none⟩ (.slice (some ⟨gg, 0, none⟩) (x.body.length + 1) cap) = w10 at *
    clear hs0 hs1 af f0 f1 f2
    obtain ⟨⟨f0, f1, f2⟩, ⟨hR0, hR1, hR2⟩, hRf0, hRf1, hRf2⟩ := HA.out.cells
    go_wp2_with fail
    (try simp only [Exit.inBlock, Exit.then])
    refine bodyPost_ret (v := .agg #[.int .i64 ph, .int .i64 nm, (.slice (some ⟨G, 0, none⟩) n c)]) (by simp [results, Tryd.results32, go_sem, hR0, hR1, hR2]) rfl ?_
    exact HA.out.gives _ _ _
  · clear ff
    have hlen6 : x.phis.length ≤ 1000000 := by have := (HBL.out b x HX.out).2.1; omega
    go_upto_region 19 with fail
    have HKS : Hid (∀ w7 : World, Wr (· = [9]) L w6 w7 → (fun w' => w'.cell? ⟨q4, 2, none⟩ = some (.slice (some ⟨G, 0, none⟩) n c) ∧ w'.cell? ⟨G, b * 8, none⟩ = some v0) w7) := fun w7 hw => by
      have h4 : ¬ L q4 = [9] := by rw [HG6.out.l4]; simp
      have hG9 : ¬ L G = [9] := by rw [HG6.out.rows.lab.2]; simp
      have hq4 := HG6.out.lt.2
      have hGl := HG6.out.rows.lab.1
      exact ⟨(hw.cell hq4 h4 2).trans f2, (hw.cell hGl hG9 (b * 8)).trans p0⟩
    have HWd : Hid (Wr (· = [9]) L w6 w6.drew) := (wr_drew w6 L).mono (fun _ h => h.elim)
    have HGd : Hid (GSt w (w6.drew.alloc (.cells #[.int .i64 0, .int .i64 1] 2)) Bc g w.heap.size q4 L0 (relab L w6.heap.size [5, b, x.phis.length]) ph nm (.slice (some ⟨G, 0, none⟩) n c) bl) := HG6.out.drew.args (relab_ext w6 L _) (wr_alloc _ _ _)
    refine wp_region_offL (S := (fun w' => w'.cell? ⟨q4, 2, none⟩ = some (.slice (some ⟨G, 0, none⟩) n c) ∧ w'.cell? ⟨G, b * 8, none⟩ = some v0)) (by simp) (by kernel_rfl) (by kernel_rfl) (by kernel_rfl) (by kernel_rfl) (by kernel_rfl) ?_ (fun hHeld => ?_)
    · (try dsimp only)
      (first | exact HKS.out _ HWd.out | exact HKS.out _ HW7.out | exact HKS.out _ (HW7.out.alloc _) | exact HKS.out _ (HWd.out.alloc _) | exact HKS.out _ HWq.out | exact HKS.out _ (HWq.out.alloc _) | exact HK9.out | (have HW7a := HW7.out.alloc (.cells #[.int .i64 0, .int .i64 1] 2); exact HKS.out _ (HW7a.alloc _)))
    simp only [List.dropLast_cons_cons, List.dropLast_singleton, List.length_cons, List.length_nil]
    refine wpAnyH_take (i := 0) (v := ?_) rfl (by kernel_rfl) (by kernel_rfl) (by kernel_rfl) (fun _ _ _ h => h) (Or.inl ⟨by rfl, ?_⟩) (by assumption) ?_
    rotate_left
    · intro w hSw
      simp only [List.getElem_toArray, List.getElem_cons_zero]
      (try dsimp only at hSw)
      go_simp
      first | done | (with_reducible rfl)
    simp only [List.getElem_toArray, List.getElem_cons_zero, Act.put, List.setIfInBounds_toArray, List.set_cons_zero, List.set_cons_succ]
    refine wpAnyH_take (i := 1) (v := ?_) rfl (by kernel_rfl) (by kernel_rfl) (by kernel_rfl) (fun _ _ _ h => h) (Or.inl ⟨by rfl, ?_⟩) (by assumption) ?_
    rotate_left
    · intro w hSw
      simp only [List.getElem_toArray, List.getElem_cons_succ, List.getElem_cons_zero]
      (try dsimp only at hSw)
      go_simp
      first | done | (with_reducible rfl)
    simp only [List.getElem_toArray, List.getElem_cons_succ, List.getElem_cons_zero, Act.put, List.setIfInBounds_toArray, List.set_cons_zero, List.set_cons_succ]
    refine wpAnyH_take (i := 2) (v := ?_) rfl (by kernel_rfl) (by kernel_rfl) (by kernel_rfl) (fun _ _ _ h => h) (Or.inl ⟨by rfl, ?_⟩) (by assumption) ?_
    rotate_left
    · intro w hSw
      simp only [List.getElem_toArray, List.getElem_cons_succ, List.getElem_cons_zero]
      (try dsimp only at hSw)
      go_simp
      first | done | (with_reducible rfl)
    simp only [List.getElem_toArray, List.getElem_cons_succ, List.getElem_cons_zero, Act.put, List.setIfInBounds_toArray, List.set_cons_zero, List.set_cons_succ]
    refine wpAnyH_take (i := 3) (v := ?_) rfl (by kernel_rfl) (by kernel_rfl) (by kernel_rfl) (fun _ _ _ h => h) (Or.inl ⟨by rfl, ?_⟩) (by assumption) ?_
    rotate_left
    · intro w hSw
      simp only [List.getElem_toArray, List.getElem_cons_succ, List.getElem_cons_zero]
      (try dsimp only at hSw)
      go_simp
      first | done | (with_reducible rfl)
    simp only [List.getElem_toArray, List.getElem_cons_succ, List.getElem_cons_zero, Act.put, List.setIfInBounds_toArray, List.set_cons_zero, List.set_cons_succ]
    refine wpAnyH_take (i := 4) (v := ?_) rfl (by kernel_rfl) (by kernel_rfl) (by kernel_rfl) (fun _ _ _ h => h) (Or.inl ⟨by rfl, ?_⟩) (by assumption) ?_
    rotate_left
    · intro w hSw
      simp only [List.getElem_toArray, List.getElem_cons_succ, List.getElem_cons_zero]
      (try dsimp only at hSw)
      go_simp
      first | done | (with_reducible rfl)
    simp only [List.getElem_toArray, List.getElem_cons_succ, List.getElem_cons_zero, Act.put, List.setIfInBounds_toArray, List.set_cons_zero, List.set_cons_succ]
    refine wpAnyH_take (i := 5) (v := ?_) rfl (by kernel_rfl) (by kernel_rfl) (by kernel_rfl) (fun _ _ _ h => h) (Or.inl ⟨by rfl, ?_⟩) (by assumption) ?_
    rotate_left
    · intro w hSw
      simp only [List.getElem_toArray, List.getElem_cons_succ, List.getElem_cons_zero]
      (try dsimp only at hSw)
      go_simp
      first | done | (with_reducible rfl)
    simp only [List.getElem_toArray, List.getElem_cons_succ, List.getElem_cons_zero, Act.put, List.setIfInBounds_toArray, List.set_cons_zero, List.set_cons_succ]
    refine wpAnyH_take (i := 6) (v := ?_) rfl (by kernel_rfl) (by kernel_rfl) (by kernel_rfl) (fun _ _ _ h => h) (Or.inl ⟨by rfl, ?_⟩) (by assumption) ?_
    rotate_left
    · intro w hSw
      simp only [List.getElem_toArray, List.getElem_cons_succ, List.getElem_cons_zero]
      (try dsimp only at hSw)
      go_simp
      first | done | (with_reducible rfl)
    simp only [List.getElem_toArray, List.getElem_cons_succ, List.getElem_cons_zero, Act.put, List.setIfInBounds_toArray, List.set_cons_zero, List.set_cons_succ]
    refine wpAnyH_take (i := 7) (v := ?_) rfl (by kernel_rfl) (by kernel_rfl) (by kernel_rfl) (fun _ _ _ h => h) (Or.inl ⟨by rfl, ?_⟩) (by assumption) ?_
    rotate_left
    · intro w hSw
      simp only [List.getElem_toArray, List.getElem_cons_succ, List.getElem_cons_zero]
      (try dsimp only at hSw)
      go_simp
      first | done | (with_reducible rfl)
    simp only [List.getElem_toArray, List.getElem_cons_succ, List.getElem_cons_zero, Act.put, List.setIfInBounds_toArray, List.set_cons_zero, List.set_cons_succ]
    refine wpAnyH_take (i := 8) (v := ?_) rfl (by kernel_rfl) (by kernel_rfl) (by kernel_rfl) (fun _ _ _ h => h) (Or.inl ⟨by rfl, ?_⟩) (by assumption) ?_
    rotate_left
    · intro w hSw
      simp only [List.getElem_toArray, List.getElem_cons_succ, List.getElem_cons_zero]
      (try dsimp only at hSw)
      go_simp
      first | done | (with_reducible rfl)
    simp only [List.getElem_toArray, List.getElem_cons_succ, List.getElem_cons_zero, Act.put, List.setIfInBounds_toArray, List.set_cons_zero, List.set_cons_succ]
    refine wpAnyH_take (i := 9) (v := ?_) rfl (by kernel_rfl) (by kernel_rfl) (by kernel_rfl) (fun _ _ _ h => h) (Or.inl ⟨by rfl, ?_⟩) (by assumption) ?_
    rotate_left
    · intro w hSw
      simp only [List.getElem_toArray, List.getElem_cons_succ, List.getElem_cons_zero]
      (try dsimp only at hSw)
      go_simp
      first | done | (with_reducible rfl)
    simp only [List.getElem_toArray, List.getElem_cons_succ, List.getElem_cons_zero, Act.put, List.setIfInBounds_toArray, List.set_cons_zero, List.set_cons_succ]
    refine wpAnyH_ready (rs := [10, 11]) (by kernel_rfl) (by simp) ?_
    refine AllReadyH.cons rfl (fun K hK => ?_) (AllReadyH.cons rfl (fun K hK => ?_) AllReadyH.nil)
    simp only [List.getElem_toArray, List.getElem_cons_succ, List.getElem_cons_zero]
    go_simp
    (first | (refine LR.step_append rt_Phi (by rfl) (.tmp 102) (.tmp 107) (by rfl) _ (w8.heap.size) _ (by rfl) (phis_keep HRq.out (wr_alloc _ _ _)) (by rfl) (heap_alloc_new _ _) (by rfl) h1c hBw hlen6 ?_; intro gg cap w9 hs9; have HK9 : Hid ((fun w' => w'.cell? ⟨q4, 2, none⟩ = some (.slice (some ⟨G, 0, none⟩) n c) ∧ w'.cell? ⟨G, b * 8, none⟩ = some v0) w9) := ⟨(snoc_cell (wr_alloc _ _ _) hs9 hq8 HL4q.out 2).1.trans A8.out.1, (snoc_cell (wr_alloc _ _ _) hs9 hG8 HLGq.out (b * 8)).1.trans A8.out.2⟩; have hs0 := HK9.out.2; have hs1 := (snoc_cell (wr_alloc _ _ _) hs9 hG8 HLGq.out (b * 8)).2.trans af; have HS9 := Lib.hid hs9; clear hs9) | (have HGq : Hid (GSt w (w7.alloc (.cells #[.int .i64 0, .int .i64 1] 2)) Bc g w.heap.size q4 L0 (relab L w7.heap.size [5, b, x.phis.length]) ph nm (.slice (some ⟨G, 0, none⟩) n c) bl) := HG7.out.args (relab_ext w7 L _) (wr_alloc _ _ _); have HLq : Hid (LExt w6 L (relab L w7.heap.size [5, b, x.phis.length])) := (fun k hk => relab_ext w7 L _ k (Nat.lt_of_lt_of_le hk HW7.out.size)); have HWq : Hid (Wr (· = [9]) L w6 (w7.alloc (.cells #[.int .i64 0, .int .i64 1] 2))) := HW7.out.alloc _; have A8 := Lib.hid (HKS.out _ HWq.out); have hq8 : q4 < (w7.alloc (.cells #[.int .i64 0, .int .i64 1] 2)).heap.size := Nat.lt_of_lt_of_le HG6.out.lt.2 HWq.out.size; have hG8 : G < (w7.alloc (.cells #[.int .i64 0, .int .i64 1] 2)).heap.size := Nat.lt_of_lt_of_le HG6.out.rows.lab.1 HWq.out.size; have af := (World.frozen?_of_block (a := ⟨G, b * 8, none⟩) (HWq.out.block G HG6.out.rows.lab.1 (by rw [HG6.out.rows.lab.2]; simp))).trans pf0; have HL4q := Lib.hid (show (relab L w7.heap.size [5, b, x.phis.length]) q4 ≠ [1, b] by rw [HGq.out.l4]; simp); have HLGq := Lib.hid (show (relab L w7.heap.size [5, b, x.phis.length]) G ≠ [1, b] by rw [HGq.out.rows.lab.2]; simp); have HRq := Lib.hid (phisG HR0.out HWq.out HLq.out); have h1c : ∀ u' ∈ (#[.int .i64 y1, .slice (some ⟨w7.heap.size, 0, none⟩) 2 2] : Array Value).toList, u'.oneCell' = true := (by simp [Value.oneCell']); have hBw : w.heap.size ≤ ((w7.alloc (.cells #[.int .i64 0, .int .i64 1] 2)).alloc (.cells #[.int .i64 y1, .slice (some ⟨w7.heap.size, 0, none⟩) 2 2] 94)).heap.size := (by have h1 := HGq.out.wr.size; rw [World.size_alloc]; omega); have hnp := heap_alloc_new (w7.alloc (.cells #[.int .i64 0, .int .i64 1] 2)) (.cells #[.int .i64 y1, .slice (some ⟨w7.heap.size, 0, none⟩) 2 2] 94); rw [World.size_alloc] at hnp; have HNP := Lib.hid hnp; clear hnp; (refine LR.step_append rt_Phi (by rfl) (.tmp 102) (.tmp 107) (by rfl) _ (w7.heap.size + 1) _ (by rfl) (phis_keep HRq.out (wr_alloc _ _ _)) (by rfl) HNP.out (by rfl) h1c hBw hlen6 ?_; intro gg cap w9 hs9; have HK9 : Hid ((fun w' => w'.cell? ⟨q4, 2, none⟩ = some (.slice (some ⟨G, 0, none⟩) n c) ∧ w'.cell? ⟨G, b * 8, none⟩ = some v0) w9) := ⟨(snoc_cell (wr_alloc _ _ _) hs9 hq8 HL4q.out 2).1.trans A8.out.1, (snoc_cell (wr_alloc _ _ _) hs9 hG8 HLGq.out (b * 8)).1.trans A8.out.2⟩; have hs0 := HK9.out.2; have hs1 := (snoc_cell (wr_alloc _ _ _) hs9 hG8 HLGq.out (b * 8)).2.trans af; have HS9 := Lib.hid hs9; clear hs9)) | (go_at_call 54; refine (below_st 6 _ Bc g _ HG6.out.drew.sta (by omega)).mono ?_; rintro e w7 ⟨y1, rfl, hz0, hz1, hd, hw⟩; have HW7 : Hid (Wr (· = [9]) L w6 w7) := HWd.out.trans hw (LExt.refl _ _); have HG7 := Lib.hid (HG6.out.drew.call hd hw); clear hd hw) | (go_at_call 54; refine (below_st 6 _ Bc g _ HGd.out.sta (by omega)).mono ?_; rintro e w8 ⟨y1, rfl, hz0, hz1, hd, hw⟩; have HGq := Lib.hid (HGd.out.call hd hw); have HLq : Hid (LExt w6 L (relab L w6.heap.size [5, b, x.phis.length])) := relab_ext w6 L _; have HWr8 := Lib.hid hw; have HWq : Hid (Wr (· = [9]) L w6 (w8)) := (HWd.out.alloc (.cells #[.int .i64 0, .int .i64 1] 2)).trans (hw.mono (Q := (· = [9])) fun _ h => h) HLq.out; have A8 := Lib.hid (HKS.out _ HWq.out); have hq8 : q4 < (w8).heap.size := Nat.lt_of_lt_of_le HG6.out.lt.2 HWq.out.size; have hG8 : G < (w8).heap.size := Nat.lt_of_lt_of_le HG6.out.rows.lab.1 HWq.out.size; have af := (World.frozen?_of_block (a := ⟨G, b * 8, none⟩) (HWq.out.block G HG6.out.rows.lab.1 (by rw [HG6.out.rows.lab.2]; simp))).trans pf0; have HL4q := Lib.hid (show (relab L w6.heap.size [5, b, x.phis.length]) q4 ≠ [1, b] by rw [HGq.out.l4]; simp); have HLGq := Lib.hid (show (relab L w6.heap.size [5, b, x.phis.length]) G ≠ [1, b] by rw [HGq.out.rows.lab.2]; simp); have HRq := Lib.hid (phisG HR0.out HWq.out HLq.out); have h1c : ∀ u' ∈ (#[.int .i64 y1, .slice (some ⟨w6.heap.size, 0, none⟩) 2 2] : Array Value).toList, u'.oneCell' = true := (by simp [Value.oneCell']); have hBw : w.heap.size ≤ ((w8).alloc (.cells #[.int .i64 y1, .slice (some ⟨w6.heap.size, 0, none⟩) 2 2] 94)).heap.size := (by have h1 := HGq.out.wr.size; rw [World.size_alloc]; omega); clear hd hw) | fail)
    go_wp2_with fail
    refine hK.out _ _ ?_ (fun hHeld => ?_)
    · (try dsimp only)
      (first | exact HKS.out _ HWd.out | exact HKS.out _ HW7.out | exact HKS.out _ (HW7.out.alloc _) | exact HKS.out _ (HWd.out.alloc _) | exact HKS.out _ HWq.out | exact HKS.out _ (HWq.out.alloc _) | exact HK9.out | (have HW7a := HW7.out.alloc (.cells #[.int .i64 0, .int .i64 1] 2); exact HKS.out _ (HW7a.alloc _)))
    clear hK K
    (try simp only [List.getElem_toArray, List.getElem_cons_succ, List.getElem_cons_zero, Act.put, List.setIfInBounds_toArray, List.set_cons_zero, List.set_cons_succ])
    refine wpAnyH_ready (rs := [11]) (by kernel_rfl) (by simp) ?_
    refine AllReadyH.cons rfl (fun K hK => ?_) AllReadyH.nil
    simp only [List.getElem_toArray, List.getElem_cons_succ, List.getElem_cons_zero]
    go_simp
    refine hK.out _ _ ?_ (fun hHeld => ?_)
    · (try dsimp only)
      (first | exact HKS.out _ HWd.out | exact HKS.out _ HW7.out | exact HKS.out _ (HW7.out.alloc _) | exact HKS.out _ (HWd.out.alloc _) | exact HKS.out _ HWq.out | exact HKS.out _ (HWq.out.alloc _) | exact HK9.out | (have HW7a := HW7.out.alloc (.cells #[.int .i64 0, .int .i64 1] 2); exact HKS.out _ (HW7a.alloc _)))
    clear hK K
    (try simp only [List.getElem_toArray, List.getElem_cons_succ, List.getElem_cons_zero, Act.put, List.setIfInBounds_toArray, List.set_cons_zero, List.set_cons_succ])
    refine wpAnyH_take (i := 12) (v := ?_) rfl (by kernel_rfl) (by kernel_rfl) (by kernel_rfl) (fun _ _ _ h => h) (Or.inl ⟨by rfl, ?_⟩) (by assumption) ?_
    rotate_left
    · intro w hSw
      simp only [List.getElem_toArray, List.getElem_cons_succ, List.getElem_cons_zero]
      (try dsimp only at hSw)
      go_simp
      first | done | (with_reducible rfl)
    simp only [List.getElem_toArray, List.getElem_cons_succ, List.getElem_cons_zero, Act.put, List.setIfInBounds_toArray, List.set_cons_zero, List.set_cons_succ]
    refine wpAnyH_ready (rs := [13]) (by kernel_rfl) (by simp) ?_
    refine AllReadyH.cons rfl (fun K hK => ?_) AllReadyH.nil
    simp only [List.getElem_toArray, List.getElem_cons_succ, List.getElem_cons_zero]
    go_simp
    refine hK.out _ _ ?_ (fun hHeld => ?_)
    · (try dsimp only)
      (first | exact HKS.out _ HWd.out | exact HKS.out _ HW7.out | exact HKS.out _ (HW7.out.alloc _) | exact HKS.out _ (HWd.out.alloc _) | exact HKS.out _ HWq.out | exact HKS.out _ (HWq.out.alloc _) | exact HK9.out | (have HW7a := HW7.out.alloc (.cells #[.int .i64 0, .int .i64 1] 2); exact HKS.out _ (HW7a.alloc _)))
    clear hK K
    (try simp only [List.getElem_toArray, List.getElem_cons_succ, List.getElem_cons_zero, Act.put, List.setIfInBounds_toArray, List.set_cons_zero, List.set_cons_succ])
    refine wpAnyH_ready (rs := [14]) (by kernel_rfl) (by simp) ?_
    refine AllReadyH.cons rfl (fun K hK => ?_) AllReadyH.nil
    (first | (refine LR.step_append rt_Phi (by rfl) (.tmp 102) (.tmp 107) (by rfl) _ (w8.heap.size) _ (by rfl) (phis_keep HRq.out (wr_alloc _ _ _)) (by rfl) (heap_alloc_new _ _) (by rfl) h1c hBw hlen6 ?_; intro gg cap w9 hs9; have HK9 : Hid ((fun w' => w'.cell? ⟨q4, 2, none⟩ = some (.slice (some ⟨G, 0, none⟩) n c) ∧ w'.cell? ⟨G, b * 8, none⟩ = some v0) w9) := ⟨(snoc_cell (wr_alloc _ _ _) hs9 hq8 HL4q.out 2).1.trans A8.out.1, (snoc_cell (wr_alloc _ _ _) hs9 hG8 HLGq.out (b * 8)).1.trans A8.out.2⟩; have hs0 := HK9.out.2; have hs1 := (snoc_cell (wr_alloc _ _ _) hs9 hG8 HLGq.out (b * 8)).2.trans af; have HS9 := Lib.hid hs9; clear hs9) | (have HGq : Hid (GSt w (w7.alloc (.cells #[.int .i64 0, .int .i64 1] 2)) Bc g w.heap.size q4 L0 (relab L w7.heap.size [5, b, x.phis.length]) ph nm (.slice (some ⟨G, 0, none⟩) n c) bl) := HG7.out.args (relab_ext w7 L _) (wr_alloc _ _ _); have HLq : Hid (LExt w6 L (relab L w7.heap.size [5, b, x.phis.length])) := (fun k hk => relab_ext w7 L _ k (Nat.lt_of_lt_of_le hk HW7.out.size)); have HWq : Hid (Wr (· = [9]) L w6 (w7.alloc (.cells #[.int .i64 0, .int .i64 1] 2))) := HW7.out.alloc _; have A8 := Lib.hid (HKS.out _ HWq.out); have hq8 : q4 < (w7.alloc (.cells #[.int .i64 0, .int .i64 1] 2)).heap.size := Nat.lt_of_lt_of_le HG6.out.lt.2 HWq.out.size; have hG8 : G < (w7.alloc (.cells #[.int .i64 0, .int .i64 1] 2)).heap.size := Nat.lt_of_lt_of_le HG6.out.rows.lab.1 HWq.out.size; have af := (World.frozen?_of_block (a := ⟨G, b * 8, none⟩) (HWq.out.block G HG6.out.rows.lab.1 (by rw [HG6.out.rows.lab.2]; simp))).trans pf0; have HL4q := Lib.hid (show (relab L w7.heap.size [5, b, x.phis.length]) q4 ≠ [1, b] by rw [HGq.out.l4]; simp); have HLGq := Lib.hid (show (relab L w7.heap.size [5, b, x.phis.length]) G ≠ [1, b] by rw [HGq.out.rows.lab.2]; simp); have HRq := Lib.hid (phisG HR0.out HWq.out HLq.out); have h1c : ∀ u' ∈ (#[.int .i64 y1, .slice (some ⟨w7.heap.size, 0, none⟩) 2 2] : Array Value).toList, u'.oneCell' = true := (by simp [Value.oneCell']); have hBw : w.heap.size ≤ ((w7.alloc (.cells #[.int .i64 0, .int .i64 1] 2)).alloc (.cells #[.int .i64 y1, .slice (some ⟨w7.heap.size, 0, none⟩) 2 2] 94)).heap.size := (by have h1 := HGq.out.wr.size; rw [World.size_alloc]; omega); have hnp := heap_alloc_new (w7.alloc (.cells #[.int .i64 0, .int .i64 1] 2)) (.cells #[.int .i64 y1, .slice (some ⟨w7.heap.size, 0, none⟩) 2 2] 94); rw [World.size_alloc] at hnp; have HNP := Lib.hid hnp; clear hnp; (refine LR.step_append rt_Phi (by rfl) (.tmp 102) (.tmp 107) (by rfl) _ (w7.heap.size + 1) _ (by rfl) (phis_keep HRq.out (wr_alloc _ _ _)) (by rfl) HNP.out (by rfl) h1c hBw hlen6 ?_; intro gg cap w9 hs9; have HK9 : Hid ((fun w' => w'.cell? ⟨q4, 2, none⟩ = some (.slice (some ⟨G, 0, none⟩) n c) ∧ w'.cell? ⟨G, b * 8, none⟩ = some v0) w9) := ⟨(snoc_cell (wr_alloc _ _ _) hs9 hq8 HL4q.out 2).1.trans A8.out.1, (snoc_cell (wr_alloc _ _ _) hs9 hG8 HLGq.out (b * 8)).1.trans A8.out.2⟩; have hs0 := HK9.out.2; have hs1 := (snoc_cell (wr_alloc _ _ _) hs9 hG8 HLGq.out (b * 8)).2.trans af; have HS9 := Lib.hid hs9; clear hs9)) | (go_at_call 54; refine (below_st 6 _ Bc g _ HG6.out.drew.sta (by omega)).mono ?_; rintro e w7 ⟨y1, rfl, hz0, hz1, hd, hw⟩; have HW7 : Hid (Wr (· = [9]) L w6 w7) := HWd.out.trans hw (LExt.refl _ _); have HG7 := Lib.hid (HG6.out.drew.call hd hw); clear hd hw) | (go_at_call 54; refine (below_st 6 _ Bc g _ HGd.out.sta (by omega)).mono ?_; rintro e w8 ⟨y1, rfl, hz0, hz1, hd, hw⟩; have HGq := Lib.hid (HGd.out.call hd hw); have HLq : Hid (LExt w6 L (relab L w6.heap.size [5, b, x.phis.length])) := relab_ext w6 L _; have HWr8 := Lib.hid hw; have HWq : Hid (Wr (· = [9]) L w6 (w8)) := (HWd.out.alloc (.cells #[.int .i64 0, .int .i64 1] 2)).trans (hw.mono (Q := (· = [9])) fun _ h => h) HLq.out; have A8 := Lib.hid (HKS.out _ HWq.out); have hq8 : q4 < (w8).heap.size := Nat.lt_of_lt_of_le HG6.out.lt.2 HWq.out.size; have hG8 : G < (w8).heap.size := Nat.lt_of_lt_of_le HG6.out.rows.lab.1 HWq.out.size; have af := (World.frozen?_of_block (a := ⟨G, b * 8, none⟩) (HWq.out.block G HG6.out.rows.lab.1 (by rw [HG6.out.rows.lab.2]; simp))).trans pf0; have HL4q := Lib.hid (show (relab L w6.heap.size [5, b, x.phis.length]) q4 ≠ [1, b] by rw [HGq.out.l4]; simp); have HLGq := Lib.hid (show (relab L w6.heap.size [5, b, x.phis.length]) G ≠ [1, b] by rw [HGq.out.rows.lab.2]; simp); have HRq := Lib.hid (phisG HR0.out HWq.out HLq.out); have h1c : ∀ u' ∈ (#[.int .i64 y1, .slice (some ⟨w6.heap.size, 0, none⟩) 2 2] : Array Value).toList, u'.oneCell' = true := (by simp [Value.oneCell']); have hBw : w.heap.size ≤ ((w8).alloc (.cells #[.int .i64 y1, .slice (some ⟨w6.heap.size, 0, none⟩) 2 2] 94)).heap.size := (by have h1 := HGq.out.wr.size; rw [World.size_alloc]; omega); clear hd hw) | fail)
    refine hK.out _ _ ?_ (fun hHeld => ?_)
    · (try dsimp only)
      (first | exact HKS.out _ HWd.out | exact HKS.out _ HW7.out | exact HKS.out _ (HW7.out.alloc _) | exact HKS.out _ (HWd.out.alloc _) | exact HKS.out _ HWq.out | exact HKS.out _ (HWq.out.alloc _) | exact HK9.out | (have HW7a := HW7.out.alloc (.cells #[.int .i64 0, .int .i64 1] 2); exact HKS.out _ (HW7a.alloc _)))
    clear hK K
    (try simp only [List.getElem_toArray, List.getElem_cons_succ, List.getElem_cons_zero, Act.put, List.setIfInBounds_toArray, List.set_cons_zero, List.set_cons_succ])
    refine wpAnyH_take (i := 15) (v := ?_) rfl (by kernel_rfl) (by kernel_rfl) (by kernel_rfl) (fun _ _ _ h => h) (Or.inl ⟨by rfl, ?_⟩) (by assumption) ?_
    rotate_left
    · intro w hSw
      simp only [List.getElem_toArray, List.getElem_cons_succ, List.getElem_cons_zero]
      (try dsimp only at hSw)
      go_simp
      first | done | (with_reducible rfl)
    simp only [List.getElem_toArray, List.getElem_cons_succ, List.getElem_cons_zero, Act.put, List.setIfInBounds_toArray, List.set_cons_zero, List.set_cons_succ]
    refine wpAnyH_take (i := 16) (v := ?_) rfl (by kernel_rfl) (by kernel_rfl) (by kernel_rfl) (fun _ _ _ h => h) (Or.inl ⟨by rfl, ?_⟩) (by assumption) ?_
    rotate_left
    · intro w hSw
      simp only [List.getElem_toArray, List.getElem_cons_succ, List.getElem_cons_zero]
      (try dsimp only at hSw)
      go_simp
      first | done | (with_reducible rfl)
    simp only [List.getElem_toArray, List.getElem_cons_succ, List.getElem_cons_zero, Act.put, List.setIfInBounds_toArray, List.set_cons_zero, List.set_cons_succ]
    refine wpAnyH_done (by kernel_rfl) ?_ _
    rotate_left 1
    (try simp only [List.getElem_toArray, List.getElem_cons_succ, List.getElem_cons_zero])
    (try go_simp)
    refine hK.out _ _ ?_ (fun hHeld => ?_)
    · (try dsimp only)
      (first | exact HKS.out _ HWd.out | exact HKS.out _ HW7.out | exact HKS.out _ (HW7.out.alloc _) | exact HKS.out _ (HWd.out.alloc _) | exact HKS.out _ HWq.out | exact HKS.out _ (HWq.out.alloc _) | exact HK9.out | (have HW7a := HW7.out.alloc (.cells #[.int .i64 0, .int .i64 1] 2); exact HKS.out _ (HW7a.alloc _)))
    clear hK K
    (try simp only [List.getElem_toArray, List.getElem_cons_succ, List.getElem_cons_zero, Act.put, List.setIfInBounds_toArray, List.set_cons_zero, List.set_cons_succ])
    refine wpAnyH_ready (rs := [10]) (by kernel_rfl) (by simp) ?_
    refine AllReadyH.cons rfl (fun K hK => ?_) AllReadyH.nil
    simp only [List.getElem_toArray, List.getElem_cons_succ, List.getElem_cons_zero]
    go_simp
    (first | (refine LR.step_append rt_Phi (by rfl) (.tmp 102) (.tmp 107) (by rfl) _ (w8.heap.size) _ (by rfl) (phis_keep HRq.out (wr_alloc _ _ _)) (by rfl) (heap_alloc_new _ _) (by rfl) h1c hBw hlen6 ?_; intro gg cap w9 hs9; have HK9 : Hid ((fun w' => w'.cell? ⟨q4, 2, none⟩ = some (.slice (some ⟨G, 0, none⟩) n c) ∧ w'.cell? ⟨G, b * 8, none⟩ = some v0) w9) := ⟨(snoc_cell (wr_alloc _ _ _) hs9 hq8 HL4q.out 2).1.trans A8.out.1, (snoc_cell (wr_alloc _ _ _) hs9 hG8 HLGq.out (b * 8)).1.trans A8.out.2⟩; have hs0 := HK9.out.2; have hs1 := (snoc_cell (wr_alloc _ _ _) hs9 hG8 HLGq.out (b * 8)).2.trans af; have HS9 := Lib.hid hs9; clear hs9) | (have HGq : Hid (GSt w (w7.alloc (.cells #[.int .i64 0, .int .i64 1] 2)) Bc g w.heap.size q4 L0 (relab L w7.heap.size [5, b, x.phis.length]) ph nm (.slice (some ⟨G, 0, none⟩) n c) bl) := HG7.out.args (relab_ext w7 L _) (wr_alloc _ _ _); have HLq : Hid (LExt w6 L (relab L w7.heap.size [5, b, x.phis.length])) := (fun k hk => relab_ext w7 L _ k (Nat.lt_of_lt_of_le hk HW7.out.size)); have HWq : Hid (Wr (· = [9]) L w6 (w7.alloc (.cells #[.int .i64 0, .int .i64 1] 2))) := HW7.out.alloc _; have A8 := Lib.hid (HKS.out _ HWq.out); have hq8 : q4 < (w7.alloc (.cells #[.int .i64 0, .int .i64 1] 2)).heap.size := Nat.lt_of_lt_of_le HG6.out.lt.2 HWq.out.size; have hG8 : G < (w7.alloc (.cells #[.int .i64 0, .int .i64 1] 2)).heap.size := Nat.lt_of_lt_of_le HG6.out.rows.lab.1 HWq.out.size; have af := (World.frozen?_of_block (a := ⟨G, b * 8, none⟩) (HWq.out.block G HG6.out.rows.lab.1 (by rw [HG6.out.rows.lab.2]; simp))).trans pf0; have HL4q := Lib.hid (show (relab L w7.heap.size [5, b, x.phis.length]) q4 ≠ [1, b] by rw [HGq.out.l4]; simp); have HLGq := Lib.hid (show (relab L w7.heap.size [5, b, x.phis.length]) G ≠ [1, b] by rw [HGq.out.rows.lab.2]; simp); have HRq := Lib.hid (phisG HR0.out HWq.out HLq.out); have h1c : ∀ u' ∈ (#[.int .i64 y1, .slice (some ⟨w7.heap.size, 0, none⟩) 2 2] : Array Value).toList, u'.oneCell' = true := (by simp [Value.oneCell']); have hBw : w.heap.size ≤ ((w7.alloc (.cells #[.int .i64 0, .int .i64 1] 2)).alloc (.cells #[.int .i64 y1, .slice (some ⟨w7.heap.size, 0, none⟩) 2 2] 94)).heap.size := (by have h1 := HGq.out.wr.size; rw [World.size_alloc]; omega); have hnp := heap_alloc_new (w7.alloc (.cells #[.int .i64 0, .int .i64 1] 2)) (.cells #[.int .i64 y1, .slice (some ⟨w7.heap.size, 0, none⟩) 2 2] 94); rw [World.size_alloc] at hnp; have HNP := Lib.hid hnp; clear hnp; (refine LR.step_append rt_Phi (by rfl) (.tmp 102) (.tmp 107) (by rfl) _ (w7.heap.size + 1) _ (by rfl) (phis_keep HRq.out (wr_alloc _ _ _)) (by rfl) HNP.out (by rfl) h1c hBw hlen6 ?_; intro gg cap w9 hs9; have HK9 : Hid ((fun w' => w'.cell? ⟨q4, 2, none⟩ = some (.slice (some ⟨G, 0, none⟩) n c) ∧ w'.cell? ⟨G, b * 8, none⟩ = some v0) w9) := ⟨(snoc_cell (wr_alloc _ _ _) hs9 hq8 HL4q.out 2).1.trans A8.out.1, (snoc_cell (wr_alloc _ _ _) hs9 hG8 HLGq.out (b * 8)).1.trans A8.out.2⟩; have hs0 := HK9.out.2; have hs1 := (snoc_cell (wr_alloc _ _ _) hs9 hG8 HLGq.out (b * 8)).2.trans af; have HS9 := Lib.hid hs9; clear hs9)) | (go_at_call 54; refine (below_st 6 _ Bc g _ HG6.out.drew.sta (by omega)).mono ?_; rintro e w7 ⟨y1, rfl, hz0, hz1, hd, hw⟩; have HW7 : Hid (Wr (· = [9]) L w6 w7) := HWd.out.trans hw (LExt.refl _ _); have HG7 := Lib.hid (HG6.out.drew.call hd hw); clear hd hw) | (go_at_call 54; refine (below_st 6 _ Bc g _ HGd.out.sta (by omega)).mono ?_; rintro e w8 ⟨y1, rfl, hz0, hz1, hd, hw⟩; have HGq := Lib.hid (HGd.out.call hd hw); have HLq : Hid (LExt w6 L (relab L w6.heap.size [5, b, x.phis.length])) := relab_ext w6 L _; have HWr8 := Lib.hid hw; have HWq : Hid (Wr (· = [9]) L w6 (w8)) := (HWd.out.alloc (.cells #[.int .i64 0, .int .i64 1] 2)).trans (hw.mono (Q := (· = [9])) fun _ h => h) HLq.out; have A8 := Lib.hid (HKS.out _ HWq.out); have hq8 : q4 < (w8).heap.size := Nat.lt_of_lt_of_le HG6.out.lt.2 HWq.out.size; have hG8 : G < (w8).heap.size := Nat.lt_of_lt_of_le HG6.out.rows.lab.1 HWq.out.size; have af := (World.frozen?_of_block (a := ⟨G, b * 8, none⟩) (HWq.out.block G HG6.out.rows.lab.1 (by rw [HG6.out.rows.lab.2]; simp))).trans pf0; have HL4q := Lib.hid (show (relab L w6.heap.size [5, b, x.phis.length]) q4 ≠ [1, b] by rw [HGq.out.l4]; simp); have HLGq := Lib.hid (show (relab L w6.heap.size [5, b, x.phis.length]) G ≠ [1, b] by rw [HGq.out.rows.lab.2]; simp); have HRq := Lib.hid (phisG HR0.out HWq.out HLq.out); have h1c : ∀ u' ∈ (#[.int .i64 y1, .slice (some ⟨w6.heap.size, 0, none⟩) 2 2] : Array Value).toList, u'.oneCell' = true := (by simp [Value.oneCell']); have hBw : w.heap.size ≤ ((w8).alloc (.cells #[.int .i64 y1, .slice (some ⟨w6.heap.size, 0, none⟩) 2 2] 94)).heap.size := (by have h1 := HGq.out.wr.size; rw [World.size_alloc]; omega); clear hd hw) | fail)
    go_wp2_with fail
    refine hK.out _ _ ?_ (fun hHeld => ?_)
    · (try dsimp only)
      (first | exact HKS.out _ HWd.out | exact HKS.out _ HW7.out | exact HKS.out _ (HW7.out.alloc _) | exact HKS.out _ (HWd.out.alloc _) | exact HKS.out _ HWq.out | exact HKS.out _ (HWq.out.alloc _) | exact HK9.out | (have HW7a := HW7.out.alloc (.cells #[.int .i64 0, .int .i64 1] 2); exact HKS.out _ (HW7a.alloc _)))
    clear hK K
    (try simp only [List.getElem_toArray, List.getElem_cons_succ, List.getElem_cons_zero, Act.put, List.setIfInBounds_toArray, List.set_cons_zero, List.set_cons_succ])
    refine wpAnyH_take (i := 12) (v := ?_) rfl (by kernel_rfl) (by kernel_rfl) (by kernel_rfl) (fun _ _ _ h => h) (Or.inl ⟨by rfl, ?_⟩) (by assumption) ?_
    rotate_left
    · intro w hSw
      simp only [List.getElem_toArray, List.getElem_cons_succ, List.getElem_cons_zero]
      (try dsimp only at hSw)
      go_simp
      first | done | (with_reducible rfl)
    simp only [List.getElem_toArray, List.getElem_cons_succ, List.getElem_cons_zero, Act.put, List.setIfInBounds_toArray, List.set_cons_zero, List.set_cons_succ]
    refine wpAnyH_ready (rs := [13]) (by kernel_rfl) (by simp) ?_
    refine AllReadyH.cons rfl (fun K hK => ?_) AllReadyH.nil
    simp only [List.getElem_toArray, List.getElem_cons_succ, List.getElem_cons_zero]
    go_simp
    refine hK.out _ _ ?_ (fun hHeld => ?_)
    · (try dsimp only)
      (first | exact HKS.out _ HWd.out | exact HKS.out _ HW7.out | exact HKS.out _ (HW7.out.alloc _) | exact HKS.out _ (HWd.out.alloc _) | exact HKS.out _ HWq.out | exact HKS.out _ (HWq.out.alloc _) | exact HK9.out | (have HW7a := HW7.out.alloc (.cells #[.int .i64 0, .int .i64 1] 2); exact HKS.out _ (HW7a.alloc _)))
    clear hK K
    (try simp only [List.getElem_toArray, List.getElem_cons_succ, List.getElem_cons_zero, Act.put, List.setIfInBounds_toArray, List.set_cons_zero, List.set_cons_succ])
    refine wpAnyH_ready (rs := [14]) (by kernel_rfl) (by simp) ?_
    refine AllReadyH.cons rfl (fun K hK => ?_) AllReadyH.nil
    (first | (refine LR.step_append rt_Phi (by rfl) (.tmp 102) (.tmp 107) (by rfl) _ (w8.heap.size) _ (by rfl) (phis_keep HRq.out (wr_alloc _ _ _)) (by rfl) (heap_alloc_new _ _) (by rfl) h1c hBw hlen6 ?_; intro gg cap w9 hs9; have HK9 : Hid ((fun w' => w'.cell? ⟨q4, 2, none⟩ = some (.slice (some ⟨G, 0, none⟩) n c) ∧ w'.cell? ⟨G, b * 8, none⟩ = some v0) w9) := ⟨(snoc_cell (wr_alloc _ _ _) hs9 hq8 HL4q.out 2).1.trans A8.out.1, (snoc_cell (wr_alloc _ _ _) hs9 hG8 HLGq.out (b * 8)).1.trans A8.out.2⟩; have hs0 := HK9.out.2; have hs1 := (snoc_cell (wr_alloc _ _ _) hs9 hG8 HLGq.out (b * 8)).2.trans af; have HS9 := Lib.hid hs9; clear hs9) | (have HGq : Hid (GSt w (w7.alloc (.cells #[.int .i64 0, .int .i64 1] 2)) Bc g w.heap.size q4 L0 (relab L w7.heap.size [5, b, x.phis.length]) ph nm (.slice (some ⟨G, 0, none⟩) n c) bl) := HG7.out.args (relab_ext w7 L _) (wr_alloc _ _ _); have HLq : Hid (LExt w6 L (relab L w7.heap.size [5, b, x.phis.length])) := (fun k hk => relab_ext w7 L _ k (Nat.lt_of_lt_of_le hk HW7.out.size)); have HWq : Hid (Wr (· = [9]) L w6 (w7.alloc (.cells #[.int .i64 0, .int .i64 1] 2))) := HW7.out.alloc _; have A8 := Lib.hid (HKS.out _ HWq.out); have hq8 : q4 < (w7.alloc (.cells #[.int .i64 0, .int .i64 1] 2)).heap.size := Nat.lt_of_lt_of_le HG6.out.lt.2 HWq.out.size; have hG8 : G < (w7.alloc (.cells #[.int .i64 0, .int .i64 1] 2)).heap.size := Nat.lt_of_lt_of_le HG6.out.rows.lab.1 HWq.out.size; have af := (World.frozen?_of_block (a := ⟨G, b * 8, none⟩) (HWq.out.block G HG6.out.rows.lab.1 (by rw [HG6.out.rows.lab.2]; simp))).trans pf0; have HL4q := Lib.hid (show (relab L w7.heap.size [5, b, x.phis.length]) q4 ≠ [1, b] by rw [HGq.out.l4]; simp); have HLGq := Lib.hid (show (relab L w7.heap.size [5, b, x.phis.length]) G ≠ [1, b] by rw [HGq.out.rows.lab.2]; simp); have HRq := Lib.hid (phisG HR0.out HWq.out HLq.out); have h1c : ∀ u' ∈ (#[.int .i64 y1, .slice (some ⟨w7.heap.size, 0, none⟩) 2 2] : Array Value).toList, u'.oneCell' = true := (by simp [Value.oneCell']); have hBw : w.heap.size ≤ ((w7.alloc (.cells #[.int .i64 0, .int .i64 1] 2)).alloc (.cells #[.int .i64 y1, .slice (some ⟨w7.heap.size, 0, none⟩) 2 2] 94)).heap.size := (by have h1 := HGq.out.wr.size; rw [World.size_alloc]; omega); have hnp := heap_alloc_new (w7.alloc (.cells #[.int .i64 0, .int .i64 1] 2)) (.cells #[.int .i64 y1, .slice (some ⟨w7.heap.size, 0, none⟩) 2 2] 94); rw [World.size_alloc] at hnp; have HNP := Lib.hid hnp; clear hnp; (refine LR.step_append rt_Phi (by rfl) (.tmp 102) (.tmp 107) (by rfl) _ (w7.heap.size + 1) _ (by rfl) (phis_keep HRq.out (wr_alloc _ _ _)) (by rfl) HNP.out (by rfl) h1c hBw hlen6 ?_; intro gg cap w9 hs9; have HK9 : Hid ((fun w' => w'.cell? ⟨q4, 2, none⟩ = some (.slice (some ⟨G, 0, none⟩) n c) ∧ w'.cell? ⟨G, b * 8, none⟩ = some v0) w9) := ⟨(snoc_cell (wr_alloc _ _ _) hs9 hq8 HL4q.out 2).1.trans A8.out.1, (snoc_cell (wr_alloc _ _ _) hs9 hG8 HLGq.out (b * 8)).1.trans A8.out.2⟩; have hs0 := HK9.out.2; have hs1 := (snoc_cell (wr_alloc _ _ _) hs9 hG8 HLGq.out (b * 8)).2.trans af; have HS9 := Lib.hid hs9; clear hs9)) | (go_at_call 54; refine (below_st 6 _ Bc g _ HG6.out.drew.sta (by omega)).mono ?_; rintro e w7 ⟨y1, rfl, hz0, hz1, hd, hw⟩; have HW7 : Hid (Wr (· = [9]) L w6 w7) := HWd.out.trans hw (LExt.refl _ _); have HG7 := Lib.hid (HG6.out.drew.call hd hw); clear hd hw) | (go_at_call 54; refine (below_st 6 _ Bc g _ HGd.out.sta (by omega)).mono ?_; rintro e w8 ⟨y1, rfl, hz0, hz1, hd, hw⟩; have HGq := Lib.hid (HGd.out.call hd hw); have HLq : Hid (LExt w6 L (relab L w6.heap.size [5, b, x.phis.length])) := relab_ext w6 L _; have HWr8 := Lib.hid hw; have HWq : Hid (Wr (· = [9]) L w6 (w8)) := (HWd.out.alloc (.cells #[.int .i64 0, .int .i64 1] 2)).trans (hw.mono (Q := (· = [9])) fun _ h => h) HLq.out; have A8 := Lib.hid (HKS.out _ HWq.out); have hq8 : q4 < (w8).heap.size := Nat.lt_of_lt_of_le HG6.out.lt.2 HWq.out.size; have hG8 : G < (w8).heap.size := Nat.lt_of_lt_of_le HG6.out.rows.lab.1 HWq.out.size; have af := (World.frozen?_of_block (a := ⟨G, b * 8, none⟩) (HWq.out.block G HG6.out.rows.lab.1 (by rw [HG6.out.rows.lab.2]; simp))).trans pf0; have HL4q := Lib.hid (show (relab L w6.heap.size [5, b, x.phis.length]) q4 ≠ [1, b] by rw [HGq.out.l4]; simp); have HLGq := Lib.hid (show (relab L w6.heap.size [5, b, x.phis.length]) G ≠ [1, b] by rw [HGq.out.rows.lab.2]; simp); have HRq := Lib.hid (phisG HR0.out HWq.out HLq.out); have h1c : ∀ u' ∈ (#[.int .i64 y1, .slice (some ⟨w6.heap.size, 0, none⟩) 2 2] : Array Value).toList, u'.oneCell' = true := (by simp [Value.oneCell']); have hBw : w.heap.size ≤ ((w8).alloc (.cells #[.int .i64 y1, .slice (some ⟨w6.heap.size, 0, none⟩) 2 2] 94)).heap.size := (by have h1 := HGq.out.wr.size; rw [World.size_alloc]; omega); clear hd hw) | fail)
    refine hK.out _ _ ?_ (fun hHeld => ?_)
    · (try dsimp only)
      (first | exact HKS.out _ HWd.out | exact HKS.out _ HW7.out | exact HKS.out _ (HW7.out.alloc _) | exact HKS.out _ (HWd.out.alloc _) | exact HKS.out _ HWq.out | exact HKS.out _ (HWq.out.alloc _) | exact HK9.out | (have HW7a := HW7.out.alloc (.cells #[.int .i64 0, .int .i64 1] 2); exact HKS.out _ (HW7a.alloc _)))
    clear hK K
    (try simp only [List.getElem_toArray, List.getElem_cons_succ, List.getElem_cons_zero, Act.put, List.setIfInBounds_toArray, List.set_cons_zero, List.set_cons_succ])
    refine wpAnyH_take (i := 15) (v := ?_) rfl (by kernel_rfl) (by kernel_rfl) (by kernel_rfl) (fun _ _ _ h => h) (Or.inl ⟨by rfl, ?_⟩) (by assumption) ?_
    rotate_left
    · intro w hSw
      simp only [List.getElem_toArray, List.getElem_cons_succ, List.getElem_cons_zero]
      (try dsimp only at hSw)
      go_simp
      first | done | (with_reducible rfl)
    simp only [List.getElem_toArray, List.getElem_cons_succ, List.getElem_cons_zero, Act.put, List.setIfInBounds_toArray, List.set_cons_zero, List.set_cons_succ]
    refine wpAnyH_take (i := 16) (v := ?_) rfl (by kernel_rfl) (by kernel_rfl) (by kernel_rfl) (fun _ _ _ h => h) (Or.inl ⟨by rfl, ?_⟩) (by assumption) ?_
    rotate_left
    · intro w hSw
      simp only [List.getElem_toArray, List.getElem_cons_succ, List.getElem_cons_zero]
      (try dsimp only at hSw)
      go_simp
      first | done | (with_reducible rfl)
    simp only [List.getElem_toArray, List.getElem_cons_succ, List.getElem_cons_zero, Act.put, List.setIfInBounds_toArray, List.set_cons_zero, List.set_cons_succ]
    refine wpAnyH_done (by kernel_rfl) ?_ _
    rotate_left 1
    · refine offQ_last rfl (fun KL hKL => ?_)
      go_simp
      refine hKL.out _ _ ?_
      have HA := Lib.hid (AOut.of (HGq.out.addPhi (var := y1) (pa := [0, 1]) HX.out (lit2 w7 0 1 HG7.out.wr.size (relab_new _ (Nat.le_refl _))) (wr_alloc _ _ _) HS9.out) (by simpa using hl7))
      generalize w9.setCell ⟨G, b * 8, none⟩ (.slice (some ⟨gg, 0, none⟩) (x.phis.length + 1) cap) = w10 at *
      clear hs0 hs1 af f0 f1 f2
      obtain ⟨⟨f0, f1, f2⟩, ⟨hR0, hR1, hR2⟩, hRf0, hRf1, hRf2⟩ := HA.out.cells
      go_wp2_with fail
      (try simp only [Exit.inBlock, Exit.then])
      refine bodyPost_ret (v := .agg #[.int .i64 ph, .int .i64 nm, (.slice (some ⟨G, 0, none⟩) n c)]) (by simp [results, Tryd.results32, go_sem, hR0, hR1, hR2]) rfl ?_
      exact HA.out.gives _ _ _
    · refine offQ_last rfl (fun KL hKL => ?_)
      go_simp
      refine hKL.out _ _ ?_
      have HA := Lib.hid (AOut.of (HGq.out.addPhi (var := y1) (pa := [0, 1]) HX.out ((lit2 w6.drew 0 1 HG6.out.wr.size (relab_new _ (Nat.le_refl _))).keep HWr8.out (LExt.refl _ _) (by simp) fun _ _ _ h => h) (wr_alloc _ _ _) HS9.out) (by simpa using hl7))
      generalize w9.setCell ⟨G, b * 8, none⟩ (.slice (some ⟨gg, 0, none⟩) (x.phis.length + 1) cap) = w10 at *
      clear hs0 hs1 af f0 f1 f2
      obtain ⟨⟨f0, f1, f2⟩, ⟨hR0, hR1, hR2⟩, hRf0, hRf1, hRf2⟩ := HA.out.cells
      go_wp2_with fail
      (try simp only [Exit.inBlock, Exit.then])
      refine bodyPost_ret (v := .agg #[.int .i64 ph, .int .i64 nm, (.slice (some ⟨G, 0, none⟩) n c)]) (by simp [results, Tryd.results32, go_sem, hR0, hR1, hR2]) rfl ?_
      exact HA.out.gives _ _ _
  · have ff2 := ff 2
    clear ff
    obtain ⟨bv, hbv⟩ : ∃ bv : Value, bv = .slice (some ⟨G, 0, none⟩) n c := ⟨_, rfl⟩
    rw [← hbv] at f2 HG6
    clear hbv
    have hlt2 := HG6.out.lt
    have hBw : w.heap.size ≤ (w6.alloc (.cells #[.slice none 0 0, .slice none 0 0, .slice none 0 0, .slice none 0 0, .int .i64 1, .int .i64 0, .int .i64 0, .int .i64 0] 71)).heap.size := by have h1 := HG6.out.wr.size; simp; omega
    go_upto_region 27 with (at_builtin; go_must (refine LR.wp_append rt_Block rfl (.tmp 114) (.tmp 117) rfl _ w6.heap.size _ rfl (HG6.out.rows.keep (wr_alloc _ _ _) (LExt.refl _ _) fun _ h => h.elim) rfl (heap_alloc_new _ _) rfl (by simp [Value.oneCell']) hBw (by omega) ?_; intro gg cap w9 hs9; have HP9 := Lib.hid (HG6.out.putBlock (e := ({ k := 1, a := 0, t := 0, l := 0 } : EndD)) (wr_alloc w6 L _) hs9).1; have hQ4 : L q4 ≠ [0] := (by rw [HG6.out.l4]; simp); have s0 := (snoc_cell (wr_alloc w6 _ _) hs9 hlt2.2 hQ4 2).1.trans f2; have s1 := (snoc_cell (wr_alloc w6 _ _) hs9 hlt2.2 hQ4 2).2.trans ff2; clear hs9 f0 f1 f2 ff2))
    rw [hlen] at HP9
    have HA := Lib.hid (AOut.of HP9.out (by rw [List.length_append]; show bl.length + 1 ≤ 7; omega))
    generalize w9.setCell ⟨q4, 2, none⟩ (.slice (some ⟨gg, 0, none⟩) (n + 1) cap) = w10 at *
    clear s0 s1
    obtain ⟨⟨f0, f1, f2⟩, ⟨hR0, hR1, hR2⟩, hRf0, hRf1, hRf2⟩ := HA.out.cells
    go_wp2_with fail
    (try simp only [Exit.inBlock, Exit.then])
    refine bodyPost_ret (v := .agg #[.int .i64 ph, .int .i64 nm, .slice (some ⟨gg, 0, none⟩) (n + 1) cap]) (by simp [results, Tryd.results32, go_sem, hR0, hR1, hR2]) rfl ?_
    exact HA.out.gives _ _ _
  · clear ff
    cases hbd : x.body with
    | nil =>
      have hv2 : ∃ A c2, v2 = .slice A 0 c2 := by
        obtain ⟨A, c2, h, _⟩ := HR2.out.form
        rw [hbd] at h
        exact ⟨A, c2, h⟩
      obtain ⟨A2, c2, rfl⟩ := hv2
      go_upto_region 27 with fail
      have HA := Lib.hid (AOut.of HG6.out hl7)
      clear f0 f1 f2
      obtain ⟨⟨f0, f1, f2⟩, ⟨hR0, hR1, hR2⟩, hRf0, hRf1, hRf2⟩ := HA.out.cells
      go_wp2_with fail
      (try simp only [Exit.inBlock, Exit.then])
      refine bodyPost_ret (v := .agg #[.int .i64 ph, .int .i64 nm, (.slice (some ⟨G, 0, none⟩) n c)]) (by simp [results, Tryd.results32, go_sem, hR0, hR1, hR2]) rfl ?_
      exact HA.out.gives _ _ _
    | cons i0 rest =>
      obtain ⟨gb, cb, hv2, hcb⟩ : ∃ gb cb, v2 = .slice (some ⟨gb, 0, none⟩) (rest.length + 1) cb ∧ rest.length + 1 ≤ cb := HR2.out.room hbd
      subst hv2
      have HR2' : Hid (LR w6 w.heap.size 91 4 L [3, b] (fun _ => EIns) (.slice (some ⟨gb, 0, none⟩) x.body.length cb) x.body) := by
        have := HR2.out
        rwa [show rest.length + 1 = x.body.length by rw [hbd]; rfl] at this
      have hrl : (0 : Int) < (rest.length : Int) + 1 := by omega
      have hrb : x.body.length ≤ 10000 := (HBL.out b x HX.out).2.2.1
      rw [hbd] at hrb
      simp only [List.length_cons] at hrb
      have hc1 : (rest.length : Int) + 1 ≤ (cb : Int) := by omega
      have hc2 : (1 : Int) ≤ (rest.length : Int) + 1 := by omega
      have hc3 : (1 : Int) ≤ (cb : Int) := by omega
      have hc4 : ((1 : Int) ≤ (rest.length : Int) + 1 ∧ (rest.length : Int) + 1 ≤ (cb : Int)) = True := by simp; omega
      go_upto_region 24 with fail
      have HKS : Hid ((fun w' => w'.cell? ⟨q4, 2, none⟩ = some (.slice (some ⟨G, 0, none⟩) n c) ∧ w'.cell? ⟨G, b * 8 + 2, none⟩ = some (.slice (some ⟨gb, 0, none⟩) (rest.length + 1) cb)) w6) := ⟨f2, p2⟩
      refine wp_region_offL (S := (fun w' => w'.cell? ⟨q4, 2, none⟩ = some (.slice (some ⟨G, 0, none⟩) n c) ∧ w'.cell? ⟨G, b * 8 + 2, none⟩ = some (.slice (some ⟨gb, 0, none⟩) (rest.length + 1) cb))) (by simp) (by kernel_rfl) (by kernel_rfl) (by kernel_rfl) (by kernel_rfl) (by kernel_rfl) ?_ (fun hHeld => ?_)
      · (try dsimp only)
        (first | exact HKS.out)
      simp only [List.dropLast_cons_cons, List.dropLast_singleton, List.length_cons, List.length_nil]
      refine wpAnyH_take (i := 0) (v := ?_) rfl (by kernel_rfl) (by kernel_rfl) (by kernel_rfl) (fun _ _ _ h => h) (Or.inl ⟨by rfl, ?_⟩) (by assumption) ?_
      rotate_left
      · intro w hSw
        simp only [List.getElem_toArray, List.getElem_cons_zero]
        (try dsimp only at hSw)
        go_simp
        first | done | (with_reducible rfl)
      simp only [List.getElem_toArray, List.getElem_cons_zero, Act.put, List.setIfInBounds_toArray, List.set_cons_zero, List.set_cons_succ]
      refine wpAnyH_take (i := 1) (v := ?_) rfl (by kernel_rfl) (by kernel_rfl) (by kernel_rfl) (fun _ _ _ h => h) (Or.inl ⟨by rfl, ?_⟩) (by assumption) ?_
      rotate_left
      · intro w hSw
        simp only [List.getElem_toArray, List.getElem_cons_succ, List.getElem_cons_zero]
        (try dsimp only at hSw)
        go_simp
        first | done | (with_reducible rfl)
      simp only [List.getElem_toArray, List.getElem_cons_succ, List.getElem_cons_zero, Act.put, List.setIfInBounds_toArray, List.set_cons_zero, List.set_cons_succ]
      refine wpAnyH_take (i := 2) (v := ?_) rfl (by kernel_rfl) (by kernel_rfl) (by kernel_rfl) (fun _ _ _ h => h) (Or.inl ⟨by rfl, ?_⟩) (by assumption) ?_
      rotate_left
      · intro w hSw
        simp only [List.getElem_toArray, List.getElem_cons_succ, List.getElem_cons_zero]
        (try dsimp only at hSw)
        go_simp
        first | done | (with_reducible rfl)
      simp only [List.getElem_toArray, List.getElem_cons_succ, List.getElem_cons_zero, Act.put, List.setIfInBounds_toArray, List.set_cons_zero, List.set_cons_succ]
      refine wpAnyH_take (i := 3) (v := ?_) rfl (by kernel_rfl) (by kernel_rfl) (by kernel_rfl) (fun _ _ _ h => h) (Or.inl ⟨by rfl, ?_⟩) (by assumption) ?_
      rotate_left
      · intro w hSw
        simp only [List.getElem_toArray, List.getElem_cons_succ, List.getElem_cons_zero]
        (try dsimp only at hSw)
        go_simp
        first | done | (with_reducible rfl)
      simp only [List.getElem_toArray, List.getElem_cons_succ, List.getElem_cons_zero, Act.put, List.setIfInBounds_toArray, List.set_cons_zero, List.set_cons_succ]
      refine wpAnyH_take (i := 4) (v := ?_) rfl (by kernel_rfl) (by kernel_rfl) (by kernel_rfl) (fun _ _ _ h => h) (Or.inl ⟨by rfl, ?_⟩) (by assumption) ?_
      rotate_left
      · intro w hSw
        simp only [List.getElem_toArray, List.getElem_cons_succ, List.getElem_cons_zero]
        (try dsimp only at hSw)
        go_simp
        first | done | (with_reducible rfl)
      simp only [List.getElem_toArray, List.getElem_cons_succ, List.getElem_cons_zero, Act.put, List.setIfInBounds_toArray, List.set_cons_zero, List.set_cons_succ]
      refine wpAnyH_take (i := 5) (v := ?_) rfl (by kernel_rfl) (by kernel_rfl) (by kernel_rfl) (fun _ _ _ h => h) (Or.inl ⟨by rfl, ?_⟩) (by assumption) ?_
      rotate_left
      · intro w hSw
        simp only [List.getElem_toArray, List.getElem_cons_succ, List.getElem_cons_zero]
        (try dsimp only at hSw)
        go_simp
        first | done | (with_reducible rfl)
      simp only [List.getElem_toArray, List.getElem_cons_succ, List.getElem_cons_zero, Act.put, List.setIfInBounds_toArray, List.set_cons_zero, List.set_cons_succ]
      refine wpAnyH_take (i := 6) (v := ?_) rfl (by kernel_rfl) (by kernel_rfl) (by kernel_rfl) (fun _ _ _ h => h) (Or.inl ⟨by rfl, ?_⟩) (by assumption) ?_
      rotate_left
      · intro w hSw
        simp only [List.getElem_toArray, List.getElem_cons_succ, List.getElem_cons_zero]
        (try dsimp only at hSw)
        go_simp
        first | done | (with_reducible rfl)
      simp only [List.getElem_toArray, List.getElem_cons_succ, List.getElem_cons_zero, Act.put, List.setIfInBounds_toArray, List.set_cons_zero, List.set_cons_succ]
      refine wpAnyH_take (i := 7) (v := ?_) rfl (by kernel_rfl) (by kernel_rfl) (by kernel_rfl) (fun _ _ _ h => h) (Or.inl ⟨by rfl, ?_⟩) (by assumption) ?_
      rotate_left
      · intro w hSw
        simp only [List.getElem_toArray, List.getElem_cons_succ, List.getElem_cons_zero]
        (try dsimp only at hSw)
        go_simp
        first | done | (with_reducible rfl)
      simp only [List.getElem_toArray, List.getElem_cons_succ, List.getElem_cons_zero, Act.put, List.setIfInBounds_toArray, List.set_cons_zero, List.set_cons_succ]
      refine wpAnyH_take (i := 8) (v := ?_) rfl (by kernel_rfl) (by kernel_rfl) (by kernel_rfl) (fun _ _ _ h => h) (Or.inl ⟨by rfl, ?_⟩) (by assumption) ?_
      rotate_left
      · intro w hSw
        simp only [List.getElem_toArray, List.getElem_cons_succ, List.getElem_cons_zero]
        (try dsimp only at hSw)
        go_simp
        first | done | (with_reducible rfl)
      simp only [List.getElem_toArray, List.getElem_cons_succ, List.getElem_cons_zero, Act.put, List.setIfInBounds_toArray, List.set_cons_zero, List.set_cons_succ]
      refine wpAnyH_take (i := 9) (v := ?_) rfl (by kernel_rfl) (by kernel_rfl) (by kernel_rfl) (fun _ _ _ h => h) (Or.inl ⟨by rfl, ?_⟩) (by assumption) ?_
      rotate_left
      · intro w hSw
        simp only [List.getElem_toArray, List.getElem_cons_succ, List.getElem_cons_zero]
        (try dsimp only at hSw)
        go_simp
        first | done | (with_reducible rfl)
      simp only [List.getElem_toArray, List.getElem_cons_succ, List.getElem_cons_zero, Act.put, List.setIfInBounds_toArray, List.set_cons_zero, List.set_cons_succ]
      refine wpAnyH_take (i := 10) (v := ?_) rfl (by kernel_rfl) (by kernel_rfl) (by kernel_rfl) (fun _ _ _ h => h) (Or.inl ⟨by rfl, ?_⟩) (by assumption) ?_
      rotate_left
      · intro w hSw
        simp only [List.getElem_toArray, List.getElem_cons_succ, List.getElem_cons_zero]
        (try dsimp only at hSw)
        go_simp
        first | done | (with_reducible rfl)
      simp only [List.getElem_toArray, List.getElem_cons_succ, List.getElem_cons_zero, Act.put, List.setIfInBounds_toArray, List.set_cons_zero, List.set_cons_succ]
      refine wpAnyH_take (i := 11) (v := ?_) rfl (by kernel_rfl) (by kernel_rfl) (by kernel_rfl) (fun _ _ _ h => h) (Or.inl ⟨by rfl, ?_⟩) (by assumption) ?_
      rotate_left
      · intro w hSw
        simp only [List.getElem_toArray, List.getElem_cons_succ, List.getElem_cons_zero]
        (try dsimp only at hSw)
        go_simp
        first | done | (with_reducible rfl)
      simp only [List.getElem_toArray, List.getElem_cons_succ, List.getElem_cons_zero, Act.put, List.setIfInBounds_toArray, List.set_cons_zero, List.set_cons_succ]
      refine wpAnyH_done (by kernel_rfl) ?_ _
      refine offQ_last rfl (fun KL hKL => ?_)
      go_simp
      refine hKL.out _ _ ?_
      have hA8 : rest ≠ [] → (if cb = 1 then some (⟨gb, 0, none⟩ : Addr) else some ⟨gb, 4, none⟩) = some ⟨gb, 4, none⟩ := fun hne => by
        have := List.length_pos_iff.2 hne
        rw [if_neg (by omega)]
      have HA := Lib.hid (HG6.out.dropIns hA8 HX.out hbd hl7 HR2'.out).drew
      clear hA8
      generalize (if cb = 1 then some (⟨gb, 0, none⟩ : Addr) else some ⟨gb, 4, none⟩) = A8 at *
      generalize (w6.setCell ⟨G, b * 8 + 2, none⟩ (.slice A8 rest.length (cb - 1))).drew = w8 at *
      clear f0 f1 f2 p2 pf2
      obtain ⟨⟨f0, f1, f2⟩, ⟨hR0, hR1, hR2⟩, hRf0, hRf1, hRf2⟩ := HA.out.cells
      go_wp2_with fail
      (try simp only [Exit.inBlock, Exit.then])
      refine bodyPost_ret (v := .agg #[.int .i64 ph, .int .i64 nm, (.slice (some ⟨G, 0, none⟩) n c)]) (by simp [results, Tryd.results32, go_sem, hR0, hR1, hR2]) rfl ?_
      exact HA.out.gives _ _ _
  · clear ff
    have hwn : IntKind.i64.wrap (nm + 1) = nm + 1 := IntWalk.i64_in _ (by omega)
    go_upto_region 26 with fail
    have HKS : Hid (∀ w7 : World, Wr (· = [9]) L w6 w7 → (fun w' => w'.cell? ⟨q4, 1, none⟩ = some (.int .i64 nm) ∧ w'.cell? ⟨q4, 2, none⟩ = some (.slice (some ⟨G, 0, none⟩) n c)) w7) := fun w7 hw => by
      have h4 : ¬ L q4 = [9] := by rw [HG6.out.l4]; simp
      have hG9 : ¬ L G = [9] := by rw [HG6.out.rows.lab.2]; simp
      have hq4 := HG6.out.lt.2
      have hGl := HG6.out.rows.lab.1
      exact ⟨(hw.cell hq4 h4 1).trans f1, (hw.cell hq4 h4 2).trans f2⟩
    have HWd : Hid (Wr (· = [9]) L w6 w6.drew) := (wr_drew w6 L).mono (fun _ h => h.elim)
    refine wp_region_offL (S := (fun w' => w'.cell? ⟨q4, 1, none⟩ = some (.int .i64 nm) ∧ w'.cell? ⟨q4, 2, none⟩ = some (.slice (some ⟨G, 0, none⟩) n c))) (by simp) (by kernel_rfl) (by kernel_rfl) (by kernel_rfl) (by kernel_rfl) (by kernel_rfl) ?_ (fun hHeld => ?_)
    · (try dsimp only)
      (first | exact HKS.out _ HWd.out | exact HKS.out _ HW8.out | exact HKS.out _ HW7.out | exact HKS.out _ (HW8.out.alloc _) | exact HKS.out _ (HW7.out.alloc _) | exact HK9.out)
    simp only [List.dropLast_cons_cons, List.dropLast_singleton, List.length_cons, List.length_nil]
    refine wpAnyH_take (i := 0) (v := ?_) rfl (by kernel_rfl) (by kernel_rfl) (by kernel_rfl) (fun _ _ _ h => h) (Or.inl ⟨by rfl, ?_⟩) (by assumption) ?_
    rotate_left
    · intro w hSw
      simp only [List.getElem_toArray, List.getElem_cons_zero]
      (try dsimp only at hSw)
      go_simp
      first | done | (with_reducible rfl)
    simp only [List.getElem_toArray, List.getElem_cons_zero, Act.put, List.setIfInBounds_toArray, List.set_cons_zero, List.set_cons_succ]
    refine wpAnyH_take (i := 1) (v := ?_) rfl (by kernel_rfl) (by kernel_rfl) (by kernel_rfl) (fun _ _ _ h => h) (Or.inl ⟨by rfl, ?_⟩) (by assumption) ?_
    rotate_left
    · intro w hSw
      simp only [List.getElem_toArray, List.getElem_cons_succ, List.getElem_cons_zero]
      (try dsimp only at hSw)
      go_simp
      first | done | (with_reducible rfl)
    simp only [List.getElem_toArray, List.getElem_cons_succ, List.getElem_cons_zero, Act.put, List.setIfInBounds_toArray, List.set_cons_zero, List.set_cons_succ]
    refine wpAnyH_take (i := 2) (v := ?_) rfl (by kernel_rfl) (by kernel_rfl) (by kernel_rfl) (fun _ _ _ h => h) (Or.inl ⟨by rfl, ?_⟩) (by assumption) ?_
    rotate_left
    · intro w hSw
      simp only [List.getElem_toArray, List.getElem_cons_succ, List.getElem_cons_zero]
      (try dsimp only at hSw)
      go_simp
      first | done | (with_reducible rfl)
    simp only [List.getElem_toArray, List.getElem_cons_succ, List.getElem_cons_zero, Act.put, List.setIfInBounds_toArray, List.set_cons_zero, List.set_cons_succ]
    refine wpAnyH_take (i := 3) (v := ?_) rfl (by kernel_rfl) (by kernel_rfl) (by kernel_rfl) (fun _ _ _ h => h) (Or.inl ⟨by rfl, ?_⟩) (by assumption) ?_
    rotate_left
    · intro w hSw
      simp only [List.getElem_toArray, List.getElem_cons_succ, List.getElem_cons_zero]
      (try dsimp only at hSw)
      go_simp
      first | done | (with_reducible rfl)
    simp only [List.getElem_toArray, List.getElem_cons_succ, List.getElem_cons_zero, Act.put, List.setIfInBounds_toArray, List.set_cons_zero, List.set_cons_succ]
    refine wpAnyH_take (i := 4) (v := ?_) rfl (by kernel_rfl) (by kernel_rfl) (by kernel_rfl) (fun _ _ _ h => h) (Or.inl ⟨by rfl, ?_⟩) (by assumption) ?_
    rotate_left
    · intro w hSw
      simp only [List.getElem_toArray, List.getElem_cons_succ, List.getElem_cons_zero]
      (try dsimp only at hSw)
      go_simp
      first | done | (with_reducible rfl)
    simp only [List.getElem_toArray, List.getElem_cons_succ, List.getElem_cons_zero, Act.put, List.setIfInBounds_toArray, List.set_cons_zero, List.set_cons_succ]
    refine wpAnyH_take (i := 5) (v := ?_) rfl (by kernel_rfl) (by kernel_rfl) (by kernel_rfl) (fun _ _ _ h => h) (Or.inl ⟨by rfl, ?_⟩) (by assumption) ?_
    rotate_left
    · intro w hSw
      simp only [List.getElem_toArray, List.getElem_cons_succ, List.getElem_cons_zero]
      (try dsimp only at hSw)
      go_simp
      first | done | (with_reducible rfl)
    simp only [List.getElem_toArray, List.getElem_cons_succ, List.getElem_cons_zero, Act.put, List.setIfInBounds_toArray, List.set_cons_zero, List.set_cons_succ]
    refine wpAnyH_take (i := 6) (v := ?_) rfl (by kernel_rfl) (by kernel_rfl) (by kernel_rfl) (fun _ _ _ h => h) (Or.inl ⟨by rfl, ?_⟩) (by assumption) ?_
    rotate_left
    · intro w hSw
      simp only [List.getElem_toArray, List.getElem_cons_succ, List.getElem_cons_zero]
      (try dsimp only at hSw)
      go_simp
      first | done | (with_reducible rfl)
    simp only [List.getElem_toArray, List.getElem_cons_succ, List.getElem_cons_zero, Act.put, List.setIfInBounds_toArray, List.set_cons_zero, List.set_cons_succ]
    refine wpAnyH_ready (rs := [7]) (by kernel_rfl) (by simp) ?_
    refine AllReadyH.cons rfl (fun K hK => ?_) AllReadyH.nil
    simp only [List.getElem_toArray, List.getElem_cons_succ, List.getElem_cons_zero]
    go_simp
    (first | (go_at_call 54; refine (below_st (nm + 1) _ Bc g _ HG6.out.drew.sta (by clear hwn; omega)).mono ?_; rintro e w7 ⟨z, rfl, hz0, hz1, hd, hw⟩; have HW7 : Hid (Wr (· = [9]) L w6 w7) := HWd.out.trans hw (LExt.refl _ _); have HG7 := Lib.hid (HG6.out.drew.call hd hw); have a1 := (HW7.out.cell HG6.out.rows.lab.1 (by rw [HG6.out.rows.lab.2]; simp) (b * 8 + 5)).trans p5; have af := (World.frozen?_of_block (a := ⟨G, b * 8 + 5, none⟩) (HW7.out.block G HG6.out.rows.lab.1 (by rw [HG6.out.rows.lab.2]; simp))).trans pf5; clear hd hw) | fail)
    go_wp2_with fail
    refine hK.out _ _ ?_ (fun hHeld => ?_)
    · (try dsimp only)
      (first | exact HKS.out _ HWd.out | exact HKS.out _ HW8.out | exact HKS.out _ HW7.out | exact HKS.out _ (HW8.out.alloc _) | exact HKS.out _ (HW7.out.alloc _) | exact HK9.out)
    clear hK K
    (try simp only [List.getElem_toArray, List.getElem_cons_succ, List.getElem_cons_zero, Act.put, List.setIfInBounds_toArray, List.set_cons_zero, List.set_cons_succ])
    refine wpAnyH_take (i := 8) (v := ?_) rfl (by kernel_rfl) (by kernel_rfl) (by kernel_rfl) (fun _ _ _ h => h) (Or.inl ⟨by rfl, ?_⟩) (by assumption) ?_
    rotate_left
    · intro w hSw
      simp only [List.getElem_toArray, List.getElem_cons_succ, List.getElem_cons_zero]
      (try dsimp only at hSw)
      go_simp
      first | done | (with_reducible rfl)
    simp only [List.getElem_toArray, List.getElem_cons_succ, List.getElem_cons_zero, Act.put, List.setIfInBounds_toArray, List.set_cons_zero, List.set_cons_succ]
    refine wpAnyH_take (i := 9) (v := ?_) rfl (by kernel_rfl) (by kernel_rfl) (by kernel_rfl) (fun _ _ _ h => h) (Or.inl ⟨by rfl, ?_⟩) (by assumption) ?_
    rotate_left
    · intro w hSw
      simp only [List.getElem_toArray, List.getElem_cons_succ, List.getElem_cons_zero]
      (try dsimp only at hSw)
      go_simp
      first | done | (with_reducible rfl)
    simp only [List.getElem_toArray, List.getElem_cons_succ, List.getElem_cons_zero, Act.put, List.setIfInBounds_toArray, List.set_cons_zero, List.set_cons_succ]
    refine wpAnyH_take (i := 10) (v := ?_) rfl (by kernel_rfl) (by kernel_rfl) (by kernel_rfl) (fun _ _ _ h => h) (Or.inl ⟨by rfl, ?_⟩) (by assumption) ?_
    rotate_left
    · intro w hSw
      simp only [List.getElem_toArray, List.getElem_cons_succ, List.getElem_cons_zero]
      (try dsimp only at hSw)
      go_simp
      first | done | (with_reducible rfl)
    simp only [List.getElem_toArray, List.getElem_cons_succ, List.getElem_cons_zero, Act.put, List.setIfInBounds_toArray, List.set_cons_zero, List.set_cons_succ]
    refine wpAnyH_done (by kernel_rfl) ?_ _
    refine offQ_last rfl (fun KL hKL => ?_)
    go_simp
    refine hKL.out _ _ ?_
    have HA : Hid (AOut w (w7.setCell ⟨G, b * 8 + 5, none⟩ (.int .i64 z)) Bc g w.heap.size q4 L0 L ph nm (.slice (some ⟨G, 0, none⟩) n c) (bl.set b { x with fin := { x.fin with a := z } })) := AOut.of (HG7.out.putEnd HX.out (j := 1) (z := z) (e := { x.fin with a := z }) (by omega) rfl) (by simpa using hl7)
    generalize w7.setCell ⟨G, b * 8 + 5, none⟩ (.int .i64 z) = w8 at *
    clear a1 af f0 f1 f2
    obtain ⟨⟨f0, f1, f2⟩, ⟨hR0, hR1, hR2⟩, hRf0, hRf1, hRf2⟩ := HA.out.cells
    go_wp2_with fail
    (try simp only [Exit.inBlock, Exit.then])
    refine bodyPost_ret (v := .agg #[.int .i64 ph, .int .i64 nm, (.slice (some ⟨G, 0, none⟩) n c)]) (by simp [results, Tryd.results32, go_sem, hR0, hR1, hR2]) rfl ?_
    exact HA.out.gives _ _ _
end

end Go.Proofs.YteikpekffgifoaaDoor
