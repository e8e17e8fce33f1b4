/- FnExactRunOf: for every function, list of numbers and number RunOf answers as its model does, in memory of its own, and writes into nothing; no condition (a list that holds more than 1048576 numbers, or a function that holds more than 1048576 things, is true at once). -/
import Derived.Test.YtnjmlhokkhkaaaaGreatQ4
import Derived.Test.YtnjmlhokkhkaaaaGreatQ11
import Derived.Test.YtnjmlhokkhkaaaaGreatQ17
import Derived.Test.YtnjmlhokkhkaaaaGreatQ18
import Derived.Deep.RegionHeld3
namespace Go.Proofs.YtnjmlhokkhkaaaaGreat
open Go.ChangeShapes Go.WideShapes Go.ChangeAt Go.RowKit Go.Joins

theorem runS_em {f : FunD} (hp : FunP f) : ∀ (n vis : Nat) (s : VSt), (runS f n vis s).em.length ≤ s.em.length + 80 * n
  | 0, vis, s => by simp [runS]
  | n + 1, vis, s => by
    unfold runS
    cases hx : f.blocks[s.at_]? with
    | none => simp [zOut]
    | some x =>
      have hb := (hp.1.2.2.2.2 s.at_ x hx).2.2.2.1
      have he := visB_em f x s
      simp only
      cases hn : nextS x (visB f x s).σ with
      | none => simp only; omega
      | some t =>
        simp only
        have h := runS_em hp n (vis + 1) ⟨(visB f x s).σ, (visB f x s).em, t.toNat, s.at_⟩
        simp only at h
        omega
theorem RunG.em {f : FunD} {args : List Int} {fuel : Int} {o : OutD} (h : RunG f args fuel o) : o.em.length ≤ 40000 := by
  rcases h with ⟨_, rfl⟩ | ⟨hc, rfl⟩
  · simp [zOut]
  · have h1 := runS_em hc.1 fuel.toNat 0 (startS f args)
    have h2 := hc.2.2.1.2
    have h3 : (startS f args).em.length = 0 := rfl
    omega
theorem ri_of_row {w : World} {Z : Zn} {v : Value} {xs : List Int} (h : Row w Z 1 EInt v xs) : RI w v xs := by
  obtain ⟨h1, A, c, rfl, h2⟩ := h
  refine ⟨h1, A, c, rfl, fun hne => ?_⟩
  obtain ⟨b, off, rfl, _, h3⟩ := h2 hne
  refine ⟨b, off, rfl, fun k u hu => ?_⟩
  obtain ⟨cs, hE, h4⟩ := h3 k u hu
  subst hE
  have h5 := (h4 0 _ rfl).1
  simpa using h5
set_option maxRecDepth 100000 in
theorem open_Ints {H : Type} {enc : TypeId × Value → H} {W : World} {spare : Nat → Bool} {base : Nat} {v : Value} {d : DataW H} {p : List MemPlace} (hv : Value.okWide Tryz.prog W .any base 27 v) (h : DataW.Trod enc Tryz.prog W 0 spare true 27 v d p) : ∃ xs : List Int, Row W (Zn.old W.heap.size) 1 EInt v xs := by
  obtain ⟨A, n, c, rfl⟩ := okWide_slice Tryz.underlying27 hv
  obtain ⟨fuel, hf⟩ := h
  obtain ⟨u, xs, e, hr⟩ := open_row (E := EInt) Tryz.underlying27 cells_int64 (by decide) (fun _ _ _ h => open_int64 h) hf
  simp [Value.cells] at e
  subst e
  exact ⟨xs, hr⟩
theorem own_apart {v : Value} {o : Option Nat} (h : ∀ k, v.ownBlock = some k → o ≠ some k) : v.ownBlock = none ∨ v.ownBlock ≠ o := by
  rcases e : v.ownBlock with _ | k
  · exact .inl rfl
  · exact .inr fun e' => h k e e'.symm

set_option maxRecDepth 10000 in
set_option maxHeartbeats 4000000 in
theorem FnExactRunOf_any (f : FunD) (v va : Value) (args : List Int) (fuel : Int) (w : World) (Z : Zn) (hv : EFun w Z f v) (hva : Row w Z 1 EInt va args) (hD : ∀ b, Z.D b → b < w.heap.size) : Calls Tryz.prog 4 #[v, va, .int .i64 fuel] w (Says true w) := by
  have HF := Lib.hid hv
  have HVA := Lib.hid hva
  obtain ⟨A, c, rfl⟩ := hv.form
  obtain ⟨_, Aa, ca, rfl, _⟩ := hva
  clear hv
  by_cases hla : args.length ≤ 1048576
  case neg =>
    have hla' : 1048576 < (args.length : Int) := by omega
    go_enter Tryz.func4, Tryz.ntmps4
    go_wp2_with fail
    go_ret
    exact ⟨rfl, (Below.refl _ _).alloc (Nat.le_refl _) _⟩
  have hla' : (args.length : Int) ≤ 1048576 := by omega
  go_enter Tryz.func4, Tryz.ntmps4
  go_wp2_with fail
  refine (szFun_any f _ _ _ Z (HF.out.keep (Kept.below ((Below.refl _ _).alloc (Nat.le_refl _) _) hD)) (fun b hb => by have := hD b hb; simp; omega) (by omega) (by omega)).mono ?_
  rintro e w1 ⟨rfl, hb1⟩
  have HB1 := Lib.hid (hb1.mono (B' := w.heap.size + 1) (by simp))
  have H01 : Hid (Below w.heap.size w w1) := ((Below.refl _ _).alloc (Nat.le_refl _) _).trans (HB1.out.mono (by omega))
  have hz1 : w.heap.size + 1 ≤ w1.heap.size := by have := hb1.size; simp at this; omega
  obtain ⟨hc, hf⟩ := bcellB HB1.out
  have HQ1 : Hid (w1.heap[w.heap.size]? = some (.cells #[.int .i64 f.params, .int .i64 f.names, .slice A f.blocks.length c] 38 (0, 0))) := (hb1.block w.heap.size (by simp)).trans (heap_alloc_new w _)
  clear hb1
  by_cases hsz : szFunN f ≤ 1048576
  case neg =>
    have h0 := leftI_no' hsz
    clear hsz
    go_wp2_with fail
    go_ret
    exact ⟨rfl, H01.out⟩
  have h0 := leftI_yes' hsz
  have HS := Lib.hid (small_of_sz hsz)
  have hn : f.blocks.length ≤ 1048576 := HS.out.1
  have hcnt := cntF_le hsz
  clear hsz hc hf
  have hqc0 := cell_of_row w1 w.heap.size 0 _ _ (0, 0) HQ1.out
  have hqc1 := cell_of_row w1 w.heap.size 1 _ _ (0, 0) HQ1.out
  have hqc2 := cell_of_row w1 w.heap.size 2 _ _ (0, 0) HQ1.out
  go_wp2_with fail
  refine (toFun_any f _ _ Z (HF.out.keep (Kept.below H01.out hD)) (fun b hb => by have h1 := hD b hb; have h2 := H01.out.size; omega) HS.out).mono ?_
  rintro e w2 ⟨r2, rfl, hr2, hb2⟩
  have HX2 := Lib.hid hr2
  clear hr2
  clear hqc0 hqc1 hqc2
  have hz2 : w.heap.size + 1 ≤ w2.heap.size := by have := hb2.size; omega
  have hy2 : w1.heap.size ≤ w2.heap.size := hb2.size
  have HB2 := Lib.hid (HB1.out.trans (hb2.mono hz1))
  have H02 : Hid (Below w.heap.size w w2) := H01.out.trans (hb2.mono (by have := H01.out.size; omega))
  have HQ2 : Hid (w2.heap[w.heap.size]? = some (.cells #[.int .i64 f.params, .int .i64 f.names, .slice A f.blocks.length c] 38 (0, 0))) := (hb2.block _ (Array.getElem?_eq_some_iff.1 HQ1.out).1).trans HQ1.out
  clear HB1 H01 HQ1
  clear hb2
  go_wp2_with fail
  refine (toInt64S_any _ args _ Z (HVA.out.keep (Kept.below H02.out hD) fun _ _ h => h) (fun b hb => by have h1 := hD b hb; have h2 := H02.out.size; omega) hla).mono ?_
  rintro e w3 ⟨a3, rfl, ha3, hb3⟩
  have HN3 := Lib.hid ha3
  clear ha3
  have hz3 : w.heap.size + 1 ≤ w3.heap.size := by have := hb3.size; omega
  have hy3 : w2.heap.size ≤ w3.heap.size := hb3.size
  have HB3 := Lib.hid (HB2.out.trans (hb3.mono hz2))
  have H03 : Hid (Below w.heap.size w w3) := H02.out.trans (hb3.mono (by have := H02.out.size; omega))
  have HQ3 : Hid (w3.heap[w.heap.size]? = some (.cells #[.int .i64 f.params, .int .i64 f.names, .slice A f.blocks.length c] 38 (0, 0))) := (hb3.block _ (Array.getElem?_eq_some_iff.1 HQ2.out).1).trans HQ2.out
  have HX3 := Lib.hid (HX2.out.keep (Kept.below hb3 fun b hb' => by have h1 := hb'.2; omega))
  clear HB2 H02 HQ2 HX2
  clear hb3
  go_wp2_with fail
  refine (sRunOf_any f _ _ args fuel w3 _ HX3.out (fun b hb => by have := hb.2; omega) hn (ri_of_row HN3.out)).mono ?_
  rintro e w4 ⟨o, u4, ho4, rfl, hu4, hb4⟩
  have HRG := Lib.hid ho4
  have HEM : Hid (o.em.length ≤ 40000) := RunG.em ho4
  have HU4 := Lib.hid hu4
  have HLHU : Hid (∀ k, u4.ownBlock = some k → w3.heap.size ≤ k ∧ k < w4.heap.size) := fun k hk => hu4.lt k hk
  obtain ⟨_, A4, c4, rfl, _⟩ := hu4.ri
  clear HX3 HN3 ho4 hu4
  have hz4 : w.heap.size + 1 ≤ w4.heap.size := by have := hb4.size; omega
  have hy4 : w3.heap.size ≤ w4.heap.size := hb4.size
  have HB4 := Lib.hid (HB3.out.trans (hb4.mono hz3))
  have H04 : Hid (Below w.heap.size w w4) := H03.out.trans (hb4.mono (by have := H03.out.size; omega))
  have HQ4 : Hid (w4.heap[w.heap.size]? = some (.cells #[.int .i64 f.params, .int .i64 f.names, .slice A f.blocks.length c] 38 (0, 0))) := (hb4.block _ (Array.getElem?_eq_some_iff.1 HQ3.out).1).trans HQ3.out
  clear HB3 H03 HQ3
  clear hb4
  have hqc0 := cell_of_row w4 w.heap.size 0 _ _ (0, 0) HQ4.out
  have hqc1 := cell_of_row w4 w.heap.size 1 _ _ (0, 0) HQ4.out
  have hqc2 := cell_of_row w4 w.heap.size 2 _ _ (0, 0) HQ4.out
  have hlt4 : w.heap.size < w4.heap.size := by omega
  go_wp2_with fail
  clear hlt4
  clear hqc0 hqc1 hqc2
  have hb5 : Below w4.heap.size w4 (w4.alloc (.cells #[.int .i64 o.st, .int .i64 o.val, (.slice A4 o.em.length c4), .int .i64 o.vis] 31)) := (Below.refl _ _).alloc (Nat.le_refl _) _
  have hn5 : (w4.alloc (.cells #[.int .i64 o.st, .int .i64 o.val, (.slice A4 o.em.length c4), .int .i64 o.vis] 31)).heap[w4.heap.size]? = some (.cells #[.int .i64 o.st, .int .i64 o.val, (.slice A4 o.em.length c4), .int .i64 o.vis] 31 (0, 0)) := heap_alloc_new w4 _
  have hs5 : (w4.alloc (.cells #[.int .i64 o.st, .int .i64 o.val, (.slice A4 o.em.length c4), .int .i64 o.vis] 31)).heap.size = w4.heap.size + 1 := by simp
  generalize (w4.alloc (.cells #[.int .i64 o.st, .int .i64 o.val, (.slice A4 o.em.length c4), .int .i64 o.vis] 31)) = w5 at *
  have hz5 : w.heap.size + 1 ≤ w5.heap.size := by omega
  have hy5 : w4.heap.size + 1 = w5.heap.size := hs5.symm
  have HB5 := Lib.hid (HB4.out.trans (hb5.mono hz4))
  have H05 : Hid (Below w.heap.size w w5) := H04.out.trans (hb5.mono (by have := H04.out.size; omega))
  have HQ5 : Hid (w5.heap[w.heap.size]? = some (.cells #[.int .i64 f.params, .int .i64 f.names, .slice A f.blocks.length c] 38 (0, 0))) := (hb5.block _ (Array.getElem?_eq_some_iff.1 HQ4.out).1).trans HQ4.out
  have HU5 := Lib.hid (HU4.out.below hb5 fun k hk => (HU4.out.lt k hk).2)
  clear HB4 H04 HQ4 HU4
  clear hb5 hs5
  have HO5 : Hid (w5.heap[w4.heap.size]? = some (.cells #[.int .i64 o.st, .int .i64 o.val, (.slice A4 o.em.length c4), .int .i64 o.vis] 31 (0, 0))) := hn5
  clear hn5
  refine (toFun_any f _ _ Z (HF.out.keep (Kept.below H05.out hD)) (fun b hb => by have h1 := hD b hb; have h2 := H05.out.size; omega) HS.out).mono ?_
  rintro e w6 ⟨r6, rfl, hr6, hb6⟩
  have HX6 := Lib.hid hr6
  obtain ⟨A6, c6, rfl⟩ := hr6.form
  clear hr6
  have hz6 : w.heap.size + 1 ≤ w6.heap.size := by have := hb6.size; omega
  have hy6 : w5.heap.size ≤ w6.heap.size := hb6.size
  have HB6 := Lib.hid (HB5.out.trans (hb6.mono hz5))
  have H06 : Hid (Below w.heap.size w w6) := H05.out.trans (hb6.mono (by have := H05.out.size; omega))
  have HQ6 : Hid (w6.heap[w.heap.size]? = some (.cells #[.int .i64 f.params, .int .i64 f.names, .slice A f.blocks.length c] 38 (0, 0))) := (hb6.block _ (Array.getElem?_eq_some_iff.1 HQ5.out).1).trans HQ5.out
  have HU6 := Lib.hid (HU5.out.below hb6 fun k hk => (HU5.out.lt k hk).2)
  have HO6 : Hid (w6.heap[w4.heap.size]? = some (.cells #[.int .i64 o.st, .int .i64 o.val, (.slice A4 o.em.length c4), .int .i64 o.vis] 31 (0, 0))) := (hb6.block _ (Array.getElem?_eq_some_iff.1 HO5.out).1).trans HO5.out
  clear HB5 H05 HQ5 HU5 HO5
  clear hb6
  go_wp2_with fail
  have hb7 : Below w6.heap.size w6 (w6.alloc (.cells #[.int .i64 f.params, .int .i64 f.names, .slice A6 f.blocks.length c6] 26)) := (Below.refl _ _).alloc (Nat.le_refl _) _
  have hn7 : (w6.alloc (.cells #[.int .i64 f.params, .int .i64 f.names, .slice A6 f.blocks.length c6] 26)).heap[w6.heap.size]? = some (.cells #[.int .i64 f.params, .int .i64 f.names, .slice A6 f.blocks.length c6] 26 (0, 0)) := heap_alloc_new w6 _
  have hs7 : (w6.alloc (.cells #[.int .i64 f.params, .int .i64 f.names, .slice A6 f.blocks.length c6] 26)).heap.size = w6.heap.size + 1 := by simp
  generalize (w6.alloc (.cells #[.int .i64 f.params, .int .i64 f.names, .slice A6 f.blocks.length c6] 26)) = w7 at *
  have hz7 : w.heap.size + 1 ≤ w7.heap.size := by omega
  have hy7 : w6.heap.size + 1 = w7.heap.size := hs7.symm
  have HB7 := Lib.hid (HB6.out.trans (hb7.mono hz6))
  have H07 : Hid (Below w.heap.size w w7) := H06.out.trans (hb7.mono (by have := H06.out.size; omega))
  have HQ7 : Hid (w7.heap[w.heap.size]? = some (.cells #[.int .i64 f.params, .int .i64 f.names, .slice A f.blocks.length c] 38 (0, 0))) := (hb7.block _ (Array.getElem?_eq_some_iff.1 HQ6.out).1).trans HQ6.out
  have HU7 := Lib.hid (HU6.out.below hb7 fun k hk => (HU6.out.lt k hk).2)
  have HO7 : Hid (w7.heap[w4.heap.size]? = some (.cells #[.int .i64 o.st, .int .i64 o.val, (.slice A4 o.em.length c4), .int .i64 o.vis] 31 (0, 0))) := (hb7.block _ (Array.getElem?_eq_some_iff.1 HO6.out).1).trans HO6.out
  have HX7 := Lib.hid (HX6.out.keep (Kept.below hb7 fun b hb' => by have h1 := hb'.2; omega))
  clear HB6 H06 HQ6 HU6 HO6 HX6
  clear hb7 hs7
  have HY7 : Hid (w7.heap[w6.heap.size]? = some (.cells #[.int .i64 f.params, .int .i64 f.names, .slice A6 f.blocks.length c6] 26 (0, 0))) := hn7
  clear hn7
  refine (toInt64S_any _ args _ Z (HVA.out.keep (Kept.below H07.out hD) fun _ _ h => h) (fun b hb => by have h1 := hD b hb; have h2 := H07.out.size; omega) hla).mono ?_
  rintro e w8 ⟨a8, rfl, ha8, hb8⟩
  have HN8 := Lib.hid ha8
  clear ha8
  have hz8 : w.heap.size + 1 ≤ w8.heap.size := by have := hb8.size; omega
  have hy8 : w7.heap.size ≤ w8.heap.size := hb8.size
  have HB8 := Lib.hid (HB7.out.trans (hb8.mono hz7))
  have H08 : Hid (Below w.heap.size w w8) := H07.out.trans (hb8.mono (by have := H07.out.size; omega))
  have HQ8 : Hid (w8.heap[w.heap.size]? = some (.cells #[.int .i64 f.params, .int .i64 f.names, .slice A f.blocks.length c] 38 (0, 0))) := (hb8.block _ (Array.getElem?_eq_some_iff.1 HQ7.out).1).trans HQ7.out
  have HU8 := Lib.hid (HU7.out.below hb8 fun k hk => (HU7.out.lt k hk).2)
  have HO8 : Hid (w8.heap[w4.heap.size]? = some (.cells #[.int .i64 o.st, .int .i64 o.val, (.slice A4 o.em.length c4), .int .i64 o.vis] 31 (0, 0))) := (hb8.block _ (Array.getElem?_eq_some_iff.1 HO7.out).1).trans HO7.out
  have HX8 := Lib.hid (HX7.out.keep (Kept.below hb8 fun b hb' => by have h1 := hb'.2; omega))
  have HY8 : Hid (w8.heap[w6.heap.size]? = some (.cells #[.int .i64 f.params, .int .i64 f.names, .slice A6 f.blocks.length c6] 26 (0, 0))) := (hb8.block _ (Array.getElem?_eq_some_iff.1 HY7.out).1).trans HY7.out
  clear HB7 H07 HQ7 HU7 HO7 HX7 HY7
  clear hb8
  have HA8 := HN8
  clear HN8
  have hyc0 := cell_of_row w8 w6.heap.size 0 _ _ (0, 0) HY8.out
  have hyc1 := cell_of_row w8 w6.heap.size 1 _ _ (0, 0) HY8.out
  have hyc2 := cell_of_row w8 w6.heap.size 2 _ _ (0, 0) HY8.out
  go_wp2_with fail
  refine (RunOf_any f _ _ args fuel w8 _ HX8.out (fun b hb => by have := hb.2; omega) hn (ri_of_row HA8.out)).mono ?_
  rintro e w9 ⟨o', u9, ho9, rfl, hu9, hb9⟩
  obtain rfl : o = o' := HRG.out.one ho9
  have HG9 := Lib.hid hu9
  have HLHG : Hid (∀ k, u9.ownBlock = some k → w8.heap.size ≤ k ∧ k < w9.heap.size) := fun k hk => hu9.lt k hk
  obtain ⟨_, A9, c9, rfl, _⟩ := hu9.ri
  clear ho9 hu9
  clear hyc0 hyc1 hyc2
  have hz9 : w.heap.size + 1 ≤ w9.heap.size := by have := hb9.size; omega
  have hy9 : w8.heap.size ≤ w9.heap.size := hb9.size
  have HB9 := Lib.hid (HB8.out.trans (hb9.mono hz8))
  have H09 : Hid (Below w.heap.size w w9) := H08.out.trans (hb9.mono (by have := H08.out.size; omega))
  have HQ9 : Hid (w9.heap[w.heap.size]? = some (.cells #[.int .i64 f.params, .int .i64 f.names, .slice A f.blocks.length c] 38 (0, 0))) := (hb9.block _ (Array.getElem?_eq_some_iff.1 HQ8.out).1).trans HQ8.out
  have HU9 := Lib.hid (HU8.out.below hb9 fun k hk => (HU8.out.lt k hk).2)
  have HO9 : Hid (w9.heap[w4.heap.size]? = some (.cells #[.int .i64 o.st, .int .i64 o.val, (.slice A4 o.em.length c4), .int .i64 o.vis] 31 (0, 0))) := (hb9.block _ (Array.getElem?_eq_some_iff.1 HO8.out).1).trans HO8.out
  have HX9 := Lib.hid (HX8.out.keep (Kept.below hb9 fun b hb' => by have h1 := hb'.2; omega))
  have HY9 : Hid (w9.heap[w6.heap.size]? = some (.cells #[.int .i64 f.params, .int .i64 f.names, .slice A6 f.blocks.length c6] 26 (0, 0))) := (hb9.block _ (Array.getElem?_eq_some_iff.1 HY8.out).1).trans HY8.out
  have HA9 := Lib.hid (HA8.out.keep (Kept.below hb9 fun b hb' => by have h1 := hb'.2; omega) fun _ _ h => h)
  clear HB8 H08 HQ8 HU8 HO8 HX8 HY8 HA8
  clear hb9
  have hoc0 := cell_of_row w9 w4.heap.size 0 _ _ (0, 0) HO9.out
  have hoc1 := cell_of_row w9 w4.heap.size 1 _ _ (0, 0) HO9.out
  have hoc2 := cell_of_row w9 w4.heap.size 2 _ _ (0, 0) HO9.out
  have hoc3 := cell_of_row w9 w4.heap.size 3 _ _ (0, 0) HO9.out
  have hlt9 : w4.heap.size < w9.heap.size := (Array.getElem?_eq_some_iff.1 HO9.out).1
  go_wp2_with fail
  clear hlt9
  clear hoc0 hoc1 hoc2 hoc3
  have hb10 : Below w9.heap.size w9 (w9.alloc (.cells #[.int .i64 o.st, .int .i64 o.val, (.slice A9 o.em.length c9), .int .i64 o.vis] 31)) := (Below.refl _ _).alloc (Nat.le_refl _) _
  have hn10 : (w9.alloc (.cells #[.int .i64 o.st, .int .i64 o.val, (.slice A9 o.em.length c9), .int .i64 o.vis] 31)).heap[w9.heap.size]? = some (.cells #[.int .i64 o.st, .int .i64 o.val, (.slice A9 o.em.length c9), .int .i64 o.vis] 31 (0, 0)) := heap_alloc_new w9 _
  have hs10 : (w9.alloc (.cells #[.int .i64 o.st, .int .i64 o.val, (.slice A9 o.em.length c9), .int .i64 o.vis] 31)).heap.size = w9.heap.size + 1 := by simp
  generalize (w9.alloc (.cells #[.int .i64 o.st, .int .i64 o.val, (.slice A9 o.em.length c9), .int .i64 o.vis] 31)) = w10 at *
  have hz10 : w.heap.size + 1 ≤ w10.heap.size := by omega
  have hy10 : w9.heap.size + 1 = w10.heap.size := hs10.symm
  have HB10 := Lib.hid (HB9.out.trans (hb10.mono hz9))
  have H010 : Hid (Below w.heap.size w w10) := H09.out.trans (hb10.mono (by have := H09.out.size; omega))
  have HQ10 : Hid (w10.heap[w.heap.size]? = some (.cells #[.int .i64 f.params, .int .i64 f.names, .slice A f.blocks.length c] 38 (0, 0))) := (hb10.block _ (Array.getElem?_eq_some_iff.1 HQ9.out).1).trans HQ9.out
  have HU10 := Lib.hid (HU9.out.below hb10 fun k hk => (HU9.out.lt k hk).2)
  have HO10 : Hid (w10.heap[w4.heap.size]? = some (.cells #[.int .i64 o.st, .int .i64 o.val, (.slice A4 o.em.length c4), .int .i64 o.vis] 31 (0, 0))) := (hb10.block _ (Array.getElem?_eq_some_iff.1 HO9.out).1).trans HO9.out
  have HX10 := Lib.hid (HX9.out.keep (Kept.below hb10 fun b hb' => by have h1 := hb'.2; omega))
  have HY10 : Hid (w10.heap[w6.heap.size]? = some (.cells #[.int .i64 f.params, .int .i64 f.names, .slice A6 f.blocks.length c6] 26 (0, 0))) := (hb10.block _ (Array.getElem?_eq_some_iff.1 HY9.out).1).trans HY9.out
  have HA10 := Lib.hid (HA9.out.keep (Kept.below hb10 fun b hb' => by have h1 := hb'.2; omega) fun _ _ h => h)
  have HG10 := Lib.hid (HG9.out.below hb10 fun k hk => (HG9.out.lt k hk).2)
  clear HB9 H09 HQ9 HU9 HO9 HX9 HY9 HA9 HG9
  clear hb10 hs10
  have HP10 : Hid (w10.heap[w9.heap.size]? = some (.cells #[.int .i64 o.st, .int .i64 o.val, (.slice A9 o.em.length c9), .int .i64 o.vis] 31 (0, 0))) := hn10
  clear hn10
  refine (eqOut_same o.st o.val o.vis _ _ _ _ o.em w10 HG10.out HU10.out).mono ?_
  rintro e w11 ⟨rfl, hb11⟩
  have hz11 : w.heap.size + 1 ≤ w11.heap.size := by have := hb11.size; omega
  have hy11 : w10.heap.size ≤ w11.heap.size := hb11.size
  have HB11 := Lib.hid (HB10.out.trans (hb11.mono hz10))
  have H011 : Hid (Below w.heap.size w w11) := H010.out.trans (hb11.mono (by have := H010.out.size; omega))
  have HQ11 : Hid (w11.heap[w.heap.size]? = some (.cells #[.int .i64 f.params, .int .i64 f.names, .slice A f.blocks.length c] 38 (0, 0))) := (hb11.block _ (Array.getElem?_eq_some_iff.1 HQ10.out).1).trans HQ10.out
  have HU11 := Lib.hid (HU10.out.below hb11 fun k hk => (HU10.out.lt k hk).2)
  have HO11 : Hid (w11.heap[w4.heap.size]? = some (.cells #[.int .i64 o.st, .int .i64 o.val, (.slice A4 o.em.length c4), .int .i64 o.vis] 31 (0, 0))) := (hb11.block _ (Array.getElem?_eq_some_iff.1 HO10.out).1).trans HO10.out
  have HX11 := Lib.hid (HX10.out.keep (Kept.below hb11 fun b hb' => by have h1 := hb'.2; omega))
  have HY11 : Hid (w11.heap[w6.heap.size]? = some (.cells #[.int .i64 f.params, .int .i64 f.names, .slice A6 f.blocks.length c6] 26 (0, 0))) := (hb11.block _ (Array.getElem?_eq_some_iff.1 HY10.out).1).trans HY10.out
  have HA11 := Lib.hid (HA10.out.keep (Kept.below hb11 fun b hb' => by have h1 := hb'.2; omega) fun _ _ h => h)
  have HG11 := Lib.hid (HG10.out.below hb11 fun k hk => (HG10.out.lt k hk).2)
  have HP11 : Hid (w11.heap[w9.heap.size]? = some (.cells #[.int .i64 o.st, .int .i64 o.val, (.slice A9 o.em.length c9), .int .i64 o.vis] 31 (0, 0))) := (hb11.block _ (Array.getElem?_eq_some_iff.1 HP10.out).1).trans HP10.out
  clear HB10 H010 HQ10 HU10 HO10 HX10 HY10 HA10 HG10 HP10
  clear hb11
  have hqc0 := cell_of_row w11 w.heap.size 0 _ _ (0, 0) HQ11.out
  have hqc1 := cell_of_row w11 w.heap.size 1 _ _ (0, 0) HQ11.out
  have hqc2 := cell_of_row w11 w.heap.size 2 _ _ (0, 0) HQ11.out
  have hyc0 := cell_of_row w11 w6.heap.size 0 _ _ (0, 0) HY11.out
  have hyc1 := cell_of_row w11 w6.heap.size 1 _ _ (0, 0) HY11.out
  have hyc2 := cell_of_row w11 w6.heap.size 2 _ _ (0, 0) HY11.out
  go_upto_region 13 with fail
  have e0 : w11.cell? ⟨w.heap.size, 0, none⟩ = some (.int .i64 f.params) := hqc0
  have e1 : w11.cell? ⟨w.heap.size, 1, none⟩ = some (.int .i64 f.names) := hqc1
  have e2 : w11.cell? ⟨w.heap.size, 2, none⟩ = some (.slice A f.blocks.length c) := hqc2
  have hfw : w.heap.size < w11.heap.size := by omega
  have hyw : w6.heap.size < w11.heap.size := (Array.getElem?_eq_some_iff.1 HY11.out).1
  have HKS : Hid (∀ w', Below w11.heap.size w11 w' → (fun w' => w'.cell? ⟨w.heap.size, 0, none⟩ = some (.int .i64 f.params) ∧ w'.cell? ⟨w.heap.size, 1, none⟩ = some (.int .i64 f.names) ∧ w'.cell? ⟨w.heap.size, 2, none⟩ = some (.slice A f.blocks.length c) ∧ w'.cell? ⟨w6.heap.size, 0, none⟩ = some (.int .i64 f.params) ∧ w'.cell? ⟨w6.heap.size, 1, none⟩ = some (.int .i64 f.names) ∧ w'.cell? ⟨w6.heap.size, 2, none⟩ = some (.slice A6 f.blocks.length c6)) w') := fun w' hb => ⟨(hb.cell (p := ⟨w.heap.size, 0, none⟩) hfw).trans e0, (hb.cell (p := ⟨w.heap.size, 1, none⟩) hfw).trans e1, (hb.cell (p := ⟨w.heap.size, 2, none⟩) hfw).trans e2, (hb.cell (p := ⟨w6.heap.size, 0, none⟩) hyw).trans hyc0, (hb.cell (p := ⟨w6.heap.size, 1, none⟩) hyw).trans hyc1, (hb.cell (p := ⟨w6.heap.size, 2, none⟩) hyw).trans hyc2⟩
  have Kd : (fun w' => w'.cell? ⟨w.heap.size, 0, none⟩ = some (.int .i64 f.params) ∧ w'.cell? ⟨w.heap.size, 1, none⟩ = some (.int .i64 f.names) ∧ w'.cell? ⟨w.heap.size, 2, none⟩ = some (.slice A f.blocks.length c) ∧ w'.cell? ⟨w6.heap.size, 0, none⟩ = some (.int .i64 f.params) ∧ w'.cell? ⟨w6.heap.size, 1, none⟩ = some (.int .i64 f.names) ∧ w'.cell? ⟨w6.heap.size, 2, none⟩ = some (.slice A6 f.blocks.length c6)) w11.drew := HKS.out _ (Below.refl _ _).drew
  clear e0 e1 e2
  clear hyc0 hyc1 hyc2
  clear hqc0 hqc1 hqc2
  refine wp_region_held_drew (S := ((fun w' => w'.cell? ⟨w.heap.size, 0, none⟩ = some (.int .i64 f.params) ∧ w'.cell? ⟨w.heap.size, 1, none⟩ = some (.int .i64 f.names) ∧ w'.cell? ⟨w.heap.size, 2, none⟩ = some (.slice A f.blocks.length c) ∧ w'.cell? ⟨w6.heap.size, 0, none⟩ = some (.int .i64 f.params) ∧ w'.cell? ⟨w6.heap.size, 1, none⟩ = some (.int .i64 f.names) ∧ w'.cell? ⟨w6.heap.size, 2, none⟩ = some (.slice A6 f.blocks.length c6)))) (by kernel_rfl) ?_ (fun hHeld => ?_)
  · (try dsimp only)
    (first | exact Kd | exact HK12.out | exact HK13.out | fail)
  refine wpAnyH_take (i := 0) (v := ?_) rfl (by kernel_rfl) (by kernel_rfl) (by kernel_rfl) (fun _ _ _ h => h) (Or.inl ⟨by rfl, ?_⟩) (by assumption) ?_
  rotate_left
  · intro w hSw
    simp only [List.getElem_toArray, List.getElem_cons_zero]
    (try dsimp only at hSw)
    go_simp
    first | done | (with_reducible rfl)
  simp only [List.getElem_toArray, List.getElem_cons_zero, Act.put, List.setIfInBounds_toArray, List.set_cons_zero, List.set_cons_succ]
  refine wpAnyH_take (i := 1) (v := ?_) rfl (by kernel_rfl) (by kernel_rfl) (by kernel_rfl) (fun _ _ _ h => h) (Or.inl ⟨by rfl, ?_⟩) (by assumption) ?_
  rotate_left
  · intro w hSw
    simp only [List.getElem_toArray, List.getElem_cons_succ, List.getElem_cons_zero]
    (try dsimp only at hSw)
    go_simp
    first | done | (with_reducible rfl)
  simp only [List.getElem_toArray, List.getElem_cons_succ, List.getElem_cons_zero, Act.put, List.setIfInBounds_toArray, List.set_cons_zero, List.set_cons_succ]
  refine wpAnyH_ready (rs := [2]) (by kernel_rfl) (by simp) ?_
  refine AllReadyH.cons rfl (fun KZ hKZ => ?_) AllReadyH.nil
  simp only [List.getElem_toArray, List.getElem_cons_succ, List.getElem_cons_zero]
  go_simp
  (first | (go_at_call 14; refine (toFun_any f _ _ Z (HF.out.keep (Kept.below (below_drewN H011.out 1) hD)) (fun b hb => by have h1 := hD b hb; have h2 := H011.out.size; show b < w11.heap.size; omega) HS.out).mono ?_; rintro e w12 ⟨r12, rfl, hr12, hb12⟩; have BB12 : Hid (Below w11.heap.size w11 w12) := (Below.refl _ _).drew.trans hb12; have HR12 := Lib.hid hr12; have HK12 := Lib.hid (HKS.out w12 BB12.out); clear hr12 hb12) | (go_at_call 17; refine (eqFun_same f _ _ _ _ _ (HX11.out.keep (Kept.below BB12.out fun b hb => by have h1 := hb.2; omega)) HR12.out (fun b hb => by have h1 := hb.2; have h2 := BB12.out.size; omega) (fun b hb => hb.2)).mono ?_; rintro e w13 ⟨rfl, hb13'⟩; have BB13 : Hid (Below w11.heap.size w11 w13) := BB12.out.trans (hb13'.mono BB12.out.size); have HK13 := Lib.hid (HKS.out w13 BB13.out); clear hb13') | fail)
  go_wp2_with fail
  refine hKZ.out _ _ ?_ (fun hHeld => ?_)
  · (try dsimp only)
    (first | exact Kd | exact HK12.out | exact HK13.out | fail)
  clear hKZ KZ
  (try simp only [List.getElem_toArray, List.getElem_cons_succ, List.getElem_cons_zero, Act.put, List.setIfInBounds_toArray, List.set_cons_zero, List.set_cons_succ])
  refine wpAnyH_ready (rs := [3]) (by kernel_rfl) (by simp) ?_
  refine AllReadyH.cons rfl (fun KZ hKZ => ?_) AllReadyH.nil
  simp only [List.getElem_toArray, List.getElem_cons_succ, List.getElem_cons_zero]
  go_simp
  (first | (go_at_call 14; refine (toFun_any f _ _ Z (HF.out.keep (Kept.below (below_drewN H011.out 1) hD)) (fun b hb => by have h1 := hD b hb; have h2 := H011.out.size; show b < w11.heap.size; omega) HS.out).mono ?_; rintro e w12 ⟨r12, rfl, hr12, hb12⟩; have BB12 : Hid (Below w11.heap.size w11 w12) := (Below.refl _ _).drew.trans hb12; have HR12 := Lib.hid hr12; have HK12 := Lib.hid (HKS.out w12 BB12.out); clear hr12 hb12) | (go_at_call 17; refine (eqFun_same f _ _ _ _ _ (HX11.out.keep (Kept.below BB12.out fun b hb => by have h1 := hb.2; omega)) HR12.out (fun b hb => by have h1 := hb.2; have h2 := BB12.out.size; omega) (fun b hb => hb.2)).mono ?_; rintro e w13 ⟨rfl, hb13'⟩; have BB13 : Hid (Below w11.heap.size w11 w13) := BB12.out.trans (hb13'.mono BB12.out.size); have HK13 := Lib.hid (HKS.out w13 BB13.out); clear hb13') | fail)
  go_wp2_with fail
  refine hKZ.out _ _ ?_ (fun hHeld => ?_)
  · (try dsimp only)
    (first | exact Kd | exact HK12.out | exact HK13.out | fail)
  clear hKZ KZ
  (try simp only [List.getElem_toArray, List.getElem_cons_succ, List.getElem_cons_zero, Act.put, List.setIfInBounds_toArray, List.set_cons_zero, List.set_cons_succ])
  refine wpAnyH_take (i := 4) (v := ?_) rfl (by kernel_rfl) (by kernel_rfl) (by kernel_rfl) (fun _ _ _ h => h) (Or.inl ⟨by rfl, ?_⟩) (by assumption) ?_
  rotate_left
  · intro w hSw
    simp only [List.getElem_toArray, List.getElem_cons_succ, List.getElem_cons_zero]
    (try dsimp only at hSw)
    go_simp
    first | done | (with_reducible rfl)
  simp only [List.getElem_toArray, List.getElem_cons_succ, List.getElem_cons_zero, Act.put, List.setIfInBounds_toArray, List.set_cons_zero, List.set_cons_succ]
  refine wpAnyH_done (by kernel_rfl) ?_ _
  have hb13 := BB13.out
  clear HK12 HK13 HKS Kd HR12 BB12 BB13
  have hz13 : w.heap.size + 1 ≤ w13.heap.size := by have := hb13.size; omega
  have hy13 : w11.heap.size ≤ w13.heap.size := hb13.size
  have HB13 := Lib.hid (HB11.out.trans (hb13.mono hz11))
  have H013 : Hid (Below w.heap.size w w13) := H011.out.trans (hb13.mono (by have := H011.out.size; omega))
  have HQ13 : Hid (w13.heap[w.heap.size]? = some (.cells #[.int .i64 f.params, .int .i64 f.names, .slice A f.blocks.length c] 38 (0, 0))) := (hb13.block _ (Array.getElem?_eq_some_iff.1 HQ11.out).1).trans HQ11.out
  have HU13 := Lib.hid (HU11.out.below hb13 fun k hk => (HU11.out.lt k hk).2)
  have HO13 : Hid (w13.heap[w4.heap.size]? = some (.cells #[.int .i64 o.st, .int .i64 o.val, (.slice A4 o.em.length c4), .int .i64 o.vis] 31 (0, 0))) := (hb13.block _ (Array.getElem?_eq_some_iff.1 HO11.out).1).trans HO11.out
  have HX13 := Lib.hid (HX11.out.keep (Kept.below hb13 fun b hb' => by have h1 := hb'.2; omega))
  have HY13 : Hid (w13.heap[w6.heap.size]? = some (.cells #[.int .i64 f.params, .int .i64 f.names, .slice A6 f.blocks.length c6] 26 (0, 0))) := (hb13.block _ (Array.getElem?_eq_some_iff.1 HY11.out).1).trans HY11.out
  have HA13 := Lib.hid (HA11.out.keep (Kept.below hb13 fun b hb' => by have h1 := hb'.2; omega) fun _ _ h => h)
  have HG13 := Lib.hid (HG11.out.below hb13 fun k hk => (HG11.out.lt k hk).2)
  have HP13 : Hid (w13.heap[w9.heap.size]? = some (.cells #[.int .i64 o.st, .int .i64 o.val, (.slice A9 o.em.length c9), .int .i64 o.vis] 31 (0, 0))) := (hb13.block _ (Array.getElem?_eq_some_iff.1 HP11.out).1).trans HP11.out
  clear HB11 H011 HQ11 HU11 HO11 HX11 HY11 HA11 HG11 HP11
  clear hb13
  go_wp2_with fail
  refine (toInt64S_any _ args _ Z (HVA.out.keep (Kept.below H013.out hD) fun _ _ h => h) (fun b hb => by have h1 := hD b hb; have h2 := H013.out.size; omega) hla).mono ?_
  rintro e w14 ⟨a14, rfl, ha14, hb14⟩
  have HN14 := Lib.hid ha14
  clear ha14
  have hz14 : w.heap.size + 1 ≤ w14.heap.size := by have := hb14.size; omega
  have hy14 : w13.heap.size ≤ w14.heap.size := hb14.size
  have HB14 := Lib.hid (HB13.out.trans (hb14.mono hz13))
  have H014 : Hid (Below w.heap.size w w14) := H013.out.trans (hb14.mono (by have := H013.out.size; omega))
  have HQ14 : Hid (w14.heap[w.heap.size]? = some (.cells #[.int .i64 f.params, .int .i64 f.names, .slice A f.blocks.length c] 38 (0, 0))) := (hb14.block _ (Array.getElem?_eq_some_iff.1 HQ13.out).1).trans HQ13.out
  have HU14 := Lib.hid (HU13.out.below hb14 fun k hk => (HU13.out.lt k hk).2)
  have HO14 : Hid (w14.heap[w4.heap.size]? = some (.cells #[.int .i64 o.st, .int .i64 o.val, (.slice A4 o.em.length c4), .int .i64 o.vis] 31 (0, 0))) := (hb14.block _ (Array.getElem?_eq_some_iff.1 HO13.out).1).trans HO13.out
  have HX14 := Lib.hid (HX13.out.keep (Kept.below hb14 fun b hb' => by have h1 := hb'.2; omega))
  have HY14 : Hid (w14.heap[w6.heap.size]? = some (.cells #[.int .i64 f.params, .int .i64 f.names, .slice A6 f.blocks.length c6] 26 (0, 0))) := (hb14.block _ (Array.getElem?_eq_some_iff.1 HY13.out).1).trans HY13.out
  have HA14 := Lib.hid (HA13.out.keep (Kept.below hb14 fun b hb' => by have h1 := hb'.2; omega) fun _ _ h => h)
  have HG14 := Lib.hid (HG13.out.below hb14 fun k hk => (HG13.out.lt k hk).2)
  have HP14 : Hid (w14.heap[w9.heap.size]? = some (.cells #[.int .i64 o.st, .int .i64 o.val, (.slice A9 o.em.length c9), .int .i64 o.vis] 31 (0, 0))) := (hb14.block _ (Array.getElem?_eq_some_iff.1 HP13.out).1).trans HP13.out
  clear HB13 H013 HQ13 HU13 HO13 HX13 HY13 HA13 HG13 HP13
  clear hb14
  go_wp2_with fail
  refine (eqInt64S_same _ _ args _ (ri_of_row HA14.out) (ri_of_row HN14.out)).mono ?_
  rintro e w15' ⟨rfl, n15, hw15⟩
  subst hw15
  have hb15 : Below w14.heap.size w14 (w14.drewN n15) := below_drewN (Below.refl _ _) n15
  have hy15' : w14.heap.size ≤ (w14.drewN n15).heap.size := hb15.size
  generalize w14.drewN n15 = w15 at *
  clear HN14
  have hz15 : w.heap.size + 1 ≤ w15.heap.size := by have := hy15'; omega
  have hy15 : w14.heap.size ≤ w15.heap.size := hy15'
  have HB15 := Lib.hid (HB14.out.trans (hb15.mono hz14))
  have H015 : Hid (Below w.heap.size w w15) := H014.out.trans (hb15.mono (by have := H014.out.size; omega))
  have HQ15 : Hid (w15.heap[w.heap.size]? = some (.cells #[.int .i64 f.params, .int .i64 f.names, .slice A f.blocks.length c] 38 (0, 0))) := (hb15.block _ (Array.getElem?_eq_some_iff.1 HQ14.out).1).trans HQ14.out
  have HU15 := Lib.hid (HU14.out.below hb15 fun k hk => (HU14.out.lt k hk).2)
  have HO15 : Hid (w15.heap[w4.heap.size]? = some (.cells #[.int .i64 o.st, .int .i64 o.val, (.slice A4 o.em.length c4), .int .i64 o.vis] 31 (0, 0))) := (hb15.block _ (Array.getElem?_eq_some_iff.1 HO14.out).1).trans HO14.out
  have HX15 := Lib.hid (HX14.out.keep (Kept.below hb15 fun b hb' => by have h1 := hb'.2; omega))
  have HY15 : Hid (w15.heap[w6.heap.size]? = some (.cells #[.int .i64 f.params, .int .i64 f.names, .slice A6 f.blocks.length c6] 26 (0, 0))) := (hb15.block _ (Array.getElem?_eq_some_iff.1 HY14.out).1).trans HY14.out
  have HA15 := Lib.hid (HA14.out.keep (Kept.below hb15 fun b hb' => by have h1 := hb'.2; omega) fun _ _ h => h)
  have HG15 := Lib.hid (HG14.out.below hb15 fun k hk => (HG14.out.lt k hk).2)
  have HP15 : Hid (w15.heap[w9.heap.size]? = some (.cells #[.int .i64 o.st, .int .i64 o.val, (.slice A9 o.em.length c9), .int .i64 o.vis] 31 (0, 0))) := (hb15.block _ (Array.getElem?_eq_some_iff.1 HP14.out).1).trans HP14.out
  clear HB14 H014 HQ14 HU14 HO14 HX14 HY14 HA14 HG14 HP14
  clear hb15 hy15'
  have hyc0 := cell_of_row w15 w6.heap.size 0 _ _ (0, 0) HY15.out
  have hyc1 := cell_of_row w15 w6.heap.size 1 _ _ (0, 0) HY15.out
  have hyc2 := cell_of_row w15 w6.heap.size 2 _ _ (0, 0) HY15.out
  go_wp2_with fail
  refine (markFun_sh (Zn.new w5.heap.size w6.heap.size).D _ _ _ (f.blocks.map blockS) 1 _ (HX15.out.sblocks rfl) (by omega) (by omega)).mono ?_
  rintro e w16 ⟨rfl, hm16⟩
  obtain ⟨kk, hkk⟩ : ∃ kk : Int, kk = 1 + (cntS (f.blocks.map blockS) : Nat) := ⟨_, rfl⟩
  have hkk0 : 0 ≤ kk := by omega
  have hkk1 : kk ≤ 4194305 := by omega
  rw [← hkk]
  clear hkk hcnt
  clear hyc0 hyc1 hyc2
  clear HX15 HY15
  have hz16 : w.heap.size + 1 ≤ w16.heap.size := by have := hm16.size; omega
  have hy16 : w15.heap.size ≤ w16.heap.size := hm16.size
  have HB16 := Lib.hid (HB15.out.trans (hm16.belowB (fun b hb' => by have h1 := hb'.1; omega) hz15))
  have H016 : Hid (Below w.heap.size w w16) := H015.out.trans (hm16.belowB (fun b hb' => by have h1 := hb'.1; omega) (by have := H015.out.size; omega))
  have HQ16 : Hid (w16.heap[w.heap.size]? = some (.cells #[.int .i64 f.params, .int .i64 f.names, .slice A f.blocks.length c] 38 (0, 0))) := (hm16.far _ (Array.getElem?_eq_some_iff.1 HQ15.out).1 (by rintro ⟨h1, h2⟩; omega)).trans HQ15.out
  have HU16 := Lib.hid (OI.marked HU15.out hm16 fun k hk hd => by have h1 := (HLHU.out k hk); have h2 := hd.1; have h3 := hd.2; omega)
  have HO16 : Hid (w16.heap[w4.heap.size]? = some (.cells #[.int .i64 o.st, .int .i64 o.val, (.slice A4 o.em.length c4), .int .i64 o.vis] 31 (0, 0))) := (hm16.far _ (Array.getElem?_eq_some_iff.1 HO15.out).1 (by rintro ⟨h1, h2⟩; omega)).trans HO15.out
  have HA16 := Lib.hid (HA15.out.keep (⟨fun _ h => h, fun h => h, fun b hb' => hm16.far b (by have h1 := hb'.2; omega) (by rintro ⟨h1, h2⟩; have h3 := hb'.1; have h4 := hb'.2; omega)⟩ : Kept _ _ _ _) fun _ _ h => h)
  have HG16 := Lib.hid (OI.marked HG15.out hm16 fun k hk hd => by have h1 := (HLHG.out k hk); have h2 := hd.1; have h3 := hd.2; omega)
  have HP16 : Hid (w16.heap[w9.heap.size]? = some (.cells #[.int .i64 o.st, .int .i64 o.val, (.slice A9 o.em.length c9), .int .i64 o.vis] 31 (0, 0))) := (hm16.far _ (Array.getElem?_eq_some_iff.1 HP15.out).1 (by rintro ⟨h1, h2⟩; omega)).trans HP15.out
  clear HB15 H015 HQ15 HU15 HO15 HA15 HG15 HP15
  clear hm16
  go_wp2_with fail
  refine (markInt64S_sh (Zn.new w7.heap.size w8.heap.size).D _ args.length kk _ (HA16.out.sflat rfl fun x cs hE j hj => by subst hE; obtain rfl : j = 0 := (by omega); exact ⟨x, rfl⟩) (by omega) (by omega)).mono ?_
  rintro e w17 ⟨rfl, hm17⟩
  obtain ⟨k2, hk2⟩ : ∃ k2 : Int, k2 = kk + (args.length * 1 : Nat) := ⟨_, rfl⟩
  have hk20 : 0 ≤ k2 := by omega
  rw [← hk2]
  clear hk2 hkk0 hkk1
  clear HA16
  have hz17 : w.heap.size + 1 ≤ w17.heap.size := by have := hm17.size; omega
  have hy17 : w16.heap.size ≤ w17.heap.size := hm17.size
  have HB17 := Lib.hid (HB16.out.trans (hm17.belowB (fun b hb' => by have h1 := hb'.1; omega) hz16))
  have H017 : Hid (Below w.heap.size w w17) := H016.out.trans (hm17.belowB (fun b hb' => by have h1 := hb'.1; omega) (by have := H016.out.size; omega))
  have HQ17 : Hid (w17.heap[w.heap.size]? = some (.cells #[.int .i64 f.params, .int .i64 f.names, .slice A f.blocks.length c] 38 (0, 0))) := (hm17.far _ (Array.getElem?_eq_some_iff.1 HQ16.out).1 (by rintro ⟨h1, h2⟩; omega)).trans HQ16.out
  have HU17 := Lib.hid (OI.marked HU16.out hm17 fun k hk hd => by have h1 := (HLHU.out k hk); have h2 := hd.1; have h3 := hd.2; omega)
  have HO17 : Hid (w17.heap[w4.heap.size]? = some (.cells #[.int .i64 o.st, .int .i64 o.val, (.slice A4 o.em.length c4), .int .i64 o.vis] 31 (0, 0))) := (hm17.far _ (Array.getElem?_eq_some_iff.1 HO16.out).1 (by rintro ⟨h1, h2⟩; omega)).trans HO16.out
  have HG17 := Lib.hid (OI.marked HG16.out hm17 fun k hk hd => by have h1 := (HLHG.out k hk); have h2 := hd.1; have h3 := hd.2; omega)
  have HP17 : Hid (w17.heap[w9.heap.size]? = some (.cells #[.int .i64 o.st, .int .i64 o.val, (.slice A9 o.em.length c9), .int .i64 o.vis] 31 (0, 0))) := (hm17.far _ (Array.getElem?_eq_some_iff.1 HP16.out).1 (by rintro ⟨h1, h2⟩; omega)).trans HP16.out
  clear HB16 H016 HQ16 HU16 HO16 HG16 HP16
  clear hm17
  have hoc0 := cell_of_row w17 w4.heap.size 0 _ _ (0, 0) HO17.out
  have hoc1 := cell_of_row w17 w4.heap.size 1 _ _ (0, 0) HO17.out
  have hoc2 := cell_of_row w17 w4.heap.size 2 _ _ (0, 0) HO17.out
  have hoc3 := cell_of_row w17 w4.heap.size 3 _ _ (0, 0) HO17.out
  have hpc0 := cell_of_row w17 w9.heap.size 0 _ _ (0, 0) HP17.out
  have hpc1 := cell_of_row w17 w9.heap.size 1 _ _ (0, 0) HP17.out
  have hpc2 := cell_of_row w17 w9.heap.size 2 _ _ (0, 0) HP17.out
  have hpc3 := cell_of_row w17 w9.heap.size 3 _ _ (0, 0) HP17.out
  go_wp2_with fail
  refine (eqOut_same o.st o.val o.vis _ _ _ _ o.em w17 HG17.out HU17.out).mono ?_
  rintro e w18 ⟨rfl, hb18⟩
  have hz18 : w.heap.size + 1 ≤ w18.heap.size := by have := hb18.size; omega
  have hy18 : w17.heap.size ≤ w18.heap.size := hb18.size
  have HB18 := Lib.hid (HB17.out.trans (hb18.mono hz17))
  have H018 : Hid (Below w.heap.size w w18) := H017.out.trans (hb18.mono (by have := H017.out.size; omega))
  have HQ18 : Hid (w18.heap[w.heap.size]? = some (.cells #[.int .i64 f.params, .int .i64 f.names, .slice A f.blocks.length c] 38 (0, 0))) := (hb18.block _ (Array.getElem?_eq_some_iff.1 HQ17.out).1).trans HQ17.out
  have HU18 := Lib.hid (HU17.out.below hb18 fun k hk => (HU17.out.lt k hk).2)
  have HO18 : Hid (w18.heap[w4.heap.size]? = some (.cells #[.int .i64 o.st, .int .i64 o.val, (.slice A4 o.em.length c4), .int .i64 o.vis] 31 (0, 0))) := (hb18.block _ (Array.getElem?_eq_some_iff.1 HO17.out).1).trans HO17.out
  have HG18 := Lib.hid (HG17.out.below hb18 fun k hk => (HG17.out.lt k hk).2)
  have HP18 : Hid (w18.heap[w9.heap.size]? = some (.cells #[.int .i64 o.st, .int .i64 o.val, (.slice A9 o.em.length c9), .int .i64 o.vis] 31 (0, 0))) := (hb18.block _ (Array.getElem?_eq_some_iff.1 HP17.out).1).trans HP17.out
  clear HB17 H017 HQ17 HU17 HO17 HG17 HP17
  clear hb18
  clear hoc0 hoc1 hoc2 hoc3
  clear hpc0 hpc1 hpc2 hpc3
  have hpc0 := cell_of_row w18 w9.heap.size 0 _ _ (0, 0) HP18.out
  have hpc1 := cell_of_row w18 w9.heap.size 1 _ _ (0, 0) HP18.out
  have hpc2 := cell_of_row w18 w9.heap.size 2 _ _ (0, 0) HP18.out
  have hpc3 := cell_of_row w18 w9.heap.size 3 _ _ (0, 0) HP18.out
  have hem := HEM.out
  go_wp2_with fail
  refine (markOut_any o.st o.val o.vis _ _ o.em 1 w18 HG18.out (by omega) (by omega)).mono ?_
  rintro e w19 ⟨rfl, ho19, hg19⟩
  have HG19 := Lib.hid ho19
  clear ho19
  clear hpc0 hpc1 hpc2 hpc3
  have hz19 : w.heap.size + 1 ≤ w19.heap.size := by have := hg19.size; omega
  have hy19 : w18.heap.size ≤ w19.heap.size := hg19.size
  have HB19 := Lib.hid (HB18.out.grown hg19 hz18 fun k hk => by have := HLHG.out k hk; omega)
  have H019 : Hid (Below w.heap.size w w19) := H018.out.grown hg19 (by have := H018.out.size; omega) fun k hk => by have := HLHG.out k hk; omega
  have HQ19 : Hid (w19.heap[w.heap.size]? = some (.cells #[.int .i64 f.params, .int .i64 f.names, .slice A f.blocks.length c] 38 (0, 0))) := (hg19.block _ (Array.getElem?_eq_some_iff.1 HQ18.out).1 (fun e => by have := HLHG.out _ e.symm; omega)).trans HQ18.out
  have HU19 := Lib.hid (HU18.out.grown hg19 (own_apart fun k hk e => by have h1 := HLHU.out k hk; have h2 := HLHG.out k e; omega))
  have HO19 : Hid (w19.heap[w4.heap.size]? = some (.cells #[.int .i64 o.st, .int .i64 o.val, (.slice A4 o.em.length c4), .int .i64 o.vis] 31 (0, 0))) := (hg19.block _ (Array.getElem?_eq_some_iff.1 HO18.out).1 (fun e => by have := HLHG.out _ e.symm; omega)).trans HO18.out
  have HP19 : Hid (w19.heap[w9.heap.size]? = some (.cells #[.int .i64 o.st, .int .i64 o.val, (.slice A9 o.em.length c9), .int .i64 o.vis] 31 (0, 0))) := (hg19.block _ (Array.getElem?_eq_some_iff.1 HP18.out).1 (fun e => by have := HLHG.out _ e.symm; omega)).trans HP18.out
  clear HB18 H018 HQ18 HU18 HO18 HG18 HP18
  clear hg19
  have hpc0 := cell_of_row w19 w9.heap.size 0 _ _ (0, 0) HP19.out
  have hpc1 := cell_of_row w19 w9.heap.size 1 _ _ (0, 0) HP19.out
  have hpc2 := cell_of_row w19 w9.heap.size 2 _ _ (0, 0) HP19.out
  have hpc3 := cell_of_row w19 w9.heap.size 3 _ _ (0, 0) HP19.out
  go_wp2_with fail
  refine (heldOut_any o.st o.val o.vis _ _ o.em.length 1 w19 HG19.out (by omega) (by omega)).mono ?_
  rintro e w20 ⟨rfl, hb20⟩
  have hz20 : w.heap.size + 1 ≤ w20.heap.size := by have := hb20.size; omega
  have hy20 : w19.heap.size ≤ w20.heap.size := hb20.size
  have HB20 := Lib.hid (HB19.out.trans (hb20.mono hz19))
  have H020 : Hid (Below w.heap.size w w20) := H019.out.trans (hb20.mono (by have := H019.out.size; omega))
  have HQ20 : Hid (w20.heap[w.heap.size]? = some (.cells #[.int .i64 f.params, .int .i64 f.names, .slice A f.blocks.length c] 38 (0, 0))) := (hb20.block _ (Array.getElem?_eq_some_iff.1 HQ19.out).1).trans HQ19.out
  have HU20 := Lib.hid (HU19.out.below hb20 fun k hk => (HU19.out.lt k hk).2)
  have HO20 : Hid (w20.heap[w4.heap.size]? = some (.cells #[.int .i64 o.st, .int .i64 o.val, (.slice A4 o.em.length c4), .int .i64 o.vis] 31 (0, 0))) := (hb20.block _ (Array.getElem?_eq_some_iff.1 HO19.out).1).trans HO19.out
  have HG20 := Lib.hid (HG19.out.below hb20 fun k hk => (HG19.out.lt k hk).2)
  have HP20 : Hid (w20.heap[w9.heap.size]? = some (.cells #[.int .i64 o.st, .int .i64 o.val, (.slice A9 o.em.length c9), .int .i64 o.vis] 31 (0, 0))) := (hb20.block _ (Array.getElem?_eq_some_iff.1 HP19.out).1).trans HP19.out
  clear HB19 H019 HQ19 HU19 HO19 HG19 HP19
  clear hb20
  clear hpc0 hpc1 hpc2 hpc3
  have hqc0 := cell_of_row w20 w.heap.size 0 _ _ (0, 0) HQ20.out
  have hqc1 := cell_of_row w20 w.heap.size 1 _ _ (0, 0) HQ20.out
  have hqc2 := cell_of_row w20 w.heap.size 2 _ _ (0, 0) HQ20.out
  go_wp2_with fail
  refine (toFun_any f _ _ Z (HF.out.keep (Kept.below H020.out hD)) (fun b hb => by have h1 := hD b hb; have h2 := H020.out.size; omega) HS.out).mono ?_
  rintro e w21 ⟨r21, rfl, hr21, hb21⟩
  have HX21 := Lib.hid hr21
  clear hr21
  clear hqc0 hqc1 hqc2
  have hz21 : w.heap.size + 1 ≤ w21.heap.size := by have := hb21.size; omega
  have hy21 : w20.heap.size ≤ w21.heap.size := hb21.size
  have HB21 := Lib.hid (HB20.out.trans (hb21.mono hz20))
  have H021 : Hid (Below w.heap.size w w21) := H020.out.trans (hb21.mono (by have := H020.out.size; omega))
  have HQ21 : Hid (w21.heap[w.heap.size]? = some (.cells #[.int .i64 f.params, .int .i64 f.names, .slice A f.blocks.length c] 38 (0, 0))) := (hb21.block _ (Array.getElem?_eq_some_iff.1 HQ20.out).1).trans HQ20.out
  have HU21 := Lib.hid (HU20.out.below hb21 fun k hk => (HU20.out.lt k hk).2)
  have HO21 : Hid (w21.heap[w4.heap.size]? = some (.cells #[.int .i64 o.st, .int .i64 o.val, (.slice A4 o.em.length c4), .int .i64 o.vis] 31 (0, 0))) := (hb21.block _ (Array.getElem?_eq_some_iff.1 HO20.out).1).trans HO20.out
  have HG21 := Lib.hid (HG20.out.below hb21 fun k hk => (HG20.out.lt k hk).2)
  have HP21 : Hid (w21.heap[w9.heap.size]? = some (.cells #[.int .i64 o.st, .int .i64 o.val, (.slice A9 o.em.length c9), .int .i64 o.vis] 31 (0, 0))) := (hb21.block _ (Array.getElem?_eq_some_iff.1 HP20.out).1).trans HP20.out
  clear HB20 H020 HQ20 HU20 HO20 HG20 HP20
  clear hb21
  go_wp2_with fail
  refine (toInt64S_any _ args _ Z (HVA.out.keep (Kept.below H021.out hD) fun _ _ h => h) (fun b hb => by have h1 := hD b hb; have h2 := H021.out.size; omega) hla).mono ?_
  rintro e w22 ⟨a22, rfl, ha22, hb22⟩
  have HN22 := Lib.hid ha22
  clear ha22
  have hz22 : w.heap.size + 1 ≤ w22.heap.size := by have := hb22.size; omega
  have hy22 : w21.heap.size ≤ w22.heap.size := hb22.size
  have HB22 := Lib.hid (HB21.out.trans (hb22.mono hz21))
  have H022 : Hid (Below w.heap.size w w22) := H021.out.trans (hb22.mono (by have := H021.out.size; omega))
  have HQ22 : Hid (w22.heap[w.heap.size]? = some (.cells #[.int .i64 f.params, .int .i64 f.names, .slice A f.blocks.length c] 38 (0, 0))) := (hb22.block _ (Array.getElem?_eq_some_iff.1 HQ21.out).1).trans HQ21.out
  have HU22 := Lib.hid (HU21.out.below hb22 fun k hk => (HU21.out.lt k hk).2)
  have HO22 : Hid (w22.heap[w4.heap.size]? = some (.cells #[.int .i64 o.st, .int .i64 o.val, (.slice A4 o.em.length c4), .int .i64 o.vis] 31 (0, 0))) := (hb22.block _ (Array.getElem?_eq_some_iff.1 HO21.out).1).trans HO21.out
  have HG22 := Lib.hid (HG21.out.below hb22 fun k hk => (HG21.out.lt k hk).2)
  have HP22 : Hid (w22.heap[w9.heap.size]? = some (.cells #[.int .i64 o.st, .int .i64 o.val, (.slice A9 o.em.length c9), .int .i64 o.vis] 31 (0, 0))) := (hb22.block _ (Array.getElem?_eq_some_iff.1 HP21.out).1).trans HP21.out
  have HX22 := Lib.hid (HX21.out.keep (Kept.below hb22 fun b hb' => by have h1 := hb'.2; omega))
  clear HB21 H021 HQ21 HU21 HO21 HG21 HP21 HX21
  clear hb22
  go_wp2_with fail
  refine (RunOf_any f _ _ args fuel w22 _ HX22.out (fun b hb => by have := hb.2; omega) hn (ri_of_row HN22.out)).mono ?_
  rintro e w23 ⟨o', u23, ho23, rfl, hu23, hb23⟩
  obtain rfl : o = o' := HRG.out.one ho23
  have HV23 := Lib.hid hu23
  obtain ⟨_, A23, c23, rfl, _⟩ := hu23.ri
  clear ho23 hu23 HX22 HN22
  have hz23 : w.heap.size + 1 ≤ w23.heap.size := by have := hb23.size; omega
  have hy23 : w22.heap.size ≤ w23.heap.size := hb23.size
  have HB23 := Lib.hid (HB22.out.trans (hb23.mono hz22))
  have H023 : Hid (Below w.heap.size w w23) := H022.out.trans (hb23.mono (by have := H022.out.size; omega))
  have HQ23 : Hid (w23.heap[w.heap.size]? = some (.cells #[.int .i64 f.params, .int .i64 f.names, .slice A f.blocks.length c] 38 (0, 0))) := (hb23.block _ (Array.getElem?_eq_some_iff.1 HQ22.out).1).trans HQ22.out
  have HU23 := Lib.hid (HU22.out.below hb23 fun k hk => (HU22.out.lt k hk).2)
  have HO23 : Hid (w23.heap[w4.heap.size]? = some (.cells #[.int .i64 o.st, .int .i64 o.val, (.slice A4 o.em.length c4), .int .i64 o.vis] 31 (0, 0))) := (hb23.block _ (Array.getElem?_eq_some_iff.1 HO22.out).1).trans HO22.out
  have HG23 := Lib.hid (HG22.out.below hb23 fun k hk => (HG22.out.lt k hk).2)
  have HP23 : Hid (w23.heap[w9.heap.size]? = some (.cells #[.int .i64 o.st, .int .i64 o.val, (.slice A9 o.em.length c9), .int .i64 o.vis] 31 (0, 0))) := (hb23.block _ (Array.getElem?_eq_some_iff.1 HP22.out).1).trans HP22.out
  clear HB22 H022 HQ22 HU22 HO22 HG22 HP22
  clear hb23
  have hoc0 := cell_of_row w23 w4.heap.size 0 _ _ (0, 0) HO23.out
  have hoc1 := cell_of_row w23 w4.heap.size 1 _ _ (0, 0) HO23.out
  have hoc2 := cell_of_row w23 w4.heap.size 2 _ _ (0, 0) HO23.out
  have hoc3 := cell_of_row w23 w4.heap.size 3 _ _ (0, 0) HO23.out
  have hlt23 : w4.heap.size < w23.heap.size := (Array.getElem?_eq_some_iff.1 HO23.out).1
  go_wp2_with fail
  clear hlt23
  clear hoc0 hoc1 hoc2 hoc3
  have hb24 : Below w23.heap.size w23 (w23.alloc (.cells #[.int .i64 o.st, .int .i64 o.val, (.slice A23 o.em.length c23), .int .i64 o.vis] 31)) := (Below.refl _ _).alloc (Nat.le_refl _) _
  have hn24 : (w23.alloc (.cells #[.int .i64 o.st, .int .i64 o.val, (.slice A23 o.em.length c23), .int .i64 o.vis] 31)).heap[w23.heap.size]? = some (.cells #[.int .i64 o.st, .int .i64 o.val, (.slice A23 o.em.length c23), .int .i64 o.vis] 31 (0, 0)) := heap_alloc_new w23 _
  have hs24 : (w23.alloc (.cells #[.int .i64 o.st, .int .i64 o.val, (.slice A23 o.em.length c23), .int .i64 o.vis] 31)).heap.size = w23.heap.size + 1 := by simp
  generalize (w23.alloc (.cells #[.int .i64 o.st, .int .i64 o.val, (.slice A23 o.em.length c23), .int .i64 o.vis] 31)) = w24 at *
  have hz24 : w.heap.size + 1 ≤ w24.heap.size := by omega
  have hy24 : w23.heap.size + 1 = w24.heap.size := hs24.symm
  have HB24 := Lib.hid (HB23.out.trans (hb24.mono hz23))
  have H024 : Hid (Below w.heap.size w w24) := H023.out.trans (hb24.mono (by have := H023.out.size; omega))
  have HQ24 : Hid (w24.heap[w.heap.size]? = some (.cells #[.int .i64 f.params, .int .i64 f.names, .slice A f.blocks.length c] 38 (0, 0))) := (hb24.block _ (Array.getElem?_eq_some_iff.1 HQ23.out).1).trans HQ23.out
  have HU24 := Lib.hid (HU23.out.below hb24 fun k hk => (HU23.out.lt k hk).2)
  have HO24 : Hid (w24.heap[w4.heap.size]? = some (.cells #[.int .i64 o.st, .int .i64 o.val, (.slice A4 o.em.length c4), .int .i64 o.vis] 31 (0, 0))) := (hb24.block _ (Array.getElem?_eq_some_iff.1 HO23.out).1).trans HO23.out
  have HG24 := Lib.hid (HG23.out.below hb24 fun k hk => (HG23.out.lt k hk).2)
  have HP24 : Hid (w24.heap[w9.heap.size]? = some (.cells #[.int .i64 o.st, .int .i64 o.val, (.slice A9 o.em.length c9), .int .i64 o.vis] 31 (0, 0))) := (hb24.block _ (Array.getElem?_eq_some_iff.1 HP23.out).1).trans HP23.out
  have HV24 := Lib.hid (HV23.out.below hb24 fun k hk => (HV23.out.lt k hk).2)
  clear HB23 H023 HQ23 HU23 HO23 HG23 HP23 HV23
  clear hb24 hs24
  clear hn24
  refine (eqOut_same o.st o.val o.vis _ _ _ _ o.em w24 HV24.out HU24.out).mono ?_
  rintro e w25 ⟨rfl, hb25⟩
  have hz25 : w.heap.size + 1 ≤ w25.heap.size := by have := hb25.size; omega
  have hy25 : w24.heap.size ≤ w25.heap.size := hb25.size
  have HB25 := Lib.hid (HB24.out.trans (hb25.mono hz24))
  have H025 : Hid (Below w.heap.size w w25) := H024.out.trans (hb25.mono (by have := H024.out.size; omega))
  have HQ25 : Hid (w25.heap[w.heap.size]? = some (.cells #[.int .i64 f.params, .int .i64 f.names, .slice A f.blocks.length c] 38 (0, 0))) := (hb25.block _ (Array.getElem?_eq_some_iff.1 HQ24.out).1).trans HQ24.out
  have HU25 := Lib.hid (HU24.out.below hb25 fun k hk => (HU24.out.lt k hk).2)
  have HO25 : Hid (w25.heap[w4.heap.size]? = some (.cells #[.int .i64 o.st, .int .i64 o.val, (.slice A4 o.em.length c4), .int .i64 o.vis] 31 (0, 0))) := (hb25.block _ (Array.getElem?_eq_some_iff.1 HO24.out).1).trans HO24.out
  have HG25 := Lib.hid (HG24.out.below hb25 fun k hk => (HG24.out.lt k hk).2)
  have HP25 : Hid (w25.heap[w9.heap.size]? = some (.cells #[.int .i64 o.st, .int .i64 o.val, (.slice A9 o.em.length c9), .int .i64 o.vis] 31 (0, 0))) := (hb25.block _ (Array.getElem?_eq_some_iff.1 HP24.out).1).trans HP24.out
  have HV25 := Lib.hid (HV24.out.below hb25 fun k hk => (HV24.out.lt k hk).2)
  clear HB24 H024 HQ24 HU24 HO24 HG24 HP24 HV24
  clear hb25
  have hpc0 := cell_of_row w25 w9.heap.size 0 _ _ (0, 0) HP25.out
  have hpc1 := cell_of_row w25 w9.heap.size 1 _ _ (0, 0) HP25.out
  have hpc2 := cell_of_row w25 w9.heap.size 2 _ _ (0, 0) HP25.out
  have hpc3 := cell_of_row w25 w9.heap.size 3 _ _ (0, 0) HP25.out
  go_wp2_with fail
  refine (heldOut_any o.st o.val o.vis _ _ o.em.length 1 w25 HG25.out (by omega) (by omega)).mono ?_
  rintro e w26 ⟨rfl, hb26⟩
  have hz26 : w.heap.size + 1 ≤ w26.heap.size := by have := hb26.size; omega
  have hy26 : w25.heap.size ≤ w26.heap.size := hb26.size
  have HB26 := Lib.hid (HB25.out.trans (hb26.mono hz25))
  have H026 : Hid (Below w.heap.size w w26) := H025.out.trans (hb26.mono (by have := H025.out.size; omega))
  have HQ26 : Hid (w26.heap[w.heap.size]? = some (.cells #[.int .i64 f.params, .int .i64 f.names, .slice A f.blocks.length c] 38 (0, 0))) := (hb26.block _ (Array.getElem?_eq_some_iff.1 HQ25.out).1).trans HQ25.out
  have HU26 := Lib.hid (HU25.out.below hb26 fun k hk => (HU25.out.lt k hk).2)
  have HO26 : Hid (w26.heap[w4.heap.size]? = some (.cells #[.int .i64 o.st, .int .i64 o.val, (.slice A4 o.em.length c4), .int .i64 o.vis] 31 (0, 0))) := (hb26.block _ (Array.getElem?_eq_some_iff.1 HO25.out).1).trans HO25.out
  have HG26 := Lib.hid (HG25.out.below hb26 fun k hk => (HG25.out.lt k hk).2)
  have HP26 : Hid (w26.heap[w9.heap.size]? = some (.cells #[.int .i64 o.st, .int .i64 o.val, (.slice A9 o.em.length c9), .int .i64 o.vis] 31 (0, 0))) := (hb26.block _ (Array.getElem?_eq_some_iff.1 HP25.out).1).trans HP25.out
  have HV26 := Lib.hid (HV25.out.below hb26 fun k hk => (HV25.out.lt k hk).2)
  clear HB25 H025 HQ25 HU25 HO25 HG25 HP25 HV25
  clear hb26
  clear hpc0 hpc1 hpc2 hpc3
  go_wp2_with fail
  go_ret
  exact ⟨rfl, H026.out⟩

set_option maxRecDepth 100000 in
theorem FnExactRunOf_lifted (os : Os) (started : os.Started) (H : Type) (enc : TypeId × Value → H) :
    ReturnsInHanded {} Tryz.checked os 4 .any (Rows.fnExactRunOfSpec.pre6 enc Tryz.prog Tryz.f4 Rows.fnExactRunOfRow.domain false) (Rows.fnExactRunOfSpec.post enc Tryz.prog Tryz.f4 false true false false) := by
  refine returnsInHanded_of_change (C := Tryz.checked) Tryz.own started (by kernel_rfl) Tryz.func4
    (ChangeSpec.witness6 (enc := enc) (C := Tryz.checked) false ⟨#[], #[.agg #[.int .i64 0, .int .i64 0, .slice none 0 0], .slice none 0 0, .int .i64 0], []⟩ 8 (by kernel_rfl) (by kernel_rfl) (by kernel_rfl) (by kernel_rfl)) ?_
  intro W base args ds gs before hval0 hW _ _
  have hval : ∀ (j : Nat) t v, Tryz.f4.params[j]? = some t → args[j]? = some v → Value.okWide Tryz.prog W .any base t v := hval0
  have hW' : DataW.Whole enc Tryz.prog Tryz.f4.params.toList Rows.fnExactRunOfSpec.vars false W args.toList ds gs before := hW
  obtain ⟨p, q, hA, hV, rfl, _, _⟩ := hW'
  rw [Tryz.params4] at hA hval
  obtain ⟨v0, v1, v2, d0, d1, d2, p0, p1, p2, rfl, rfl, rfl, h0, h1, h2⟩ := trodAll_three hA
  obtain ⟨rfl, rfl⟩ := trodVars_none hV
  obtain ⟨f, hf⟩ := open_Fun (hval 0 _ v0 rfl rfl) h0
  obtain ⟨args, hargs⟩ := open_Ints (hval 1 _ v1 rfl rfl) h1
  obtain ⟨fuel, rfl, rfl, rfl, -⟩ := open_int Tryz.underlying2 (hval 2 _ v2 rfl rfl) h2
  refine (FnExactRunOf_any f v0 v1 args fuel W _ hf hargs (fun _ h => h)).mono fun e W' ⟨he, hb⟩ => ⟨_, he, ?_⟩
  exact law_done (t := 4) Tryz.laidOut (by kernel_rfl) (by kernel_rfl) Tryz.underlying4 rfl hW ⟨rfl, rfl, rfl⟩ hb

theorem FnExactRunOf_holds : Rows.FnExactRunOfSaid :=
  OpenClaim.holds_of_wide 4 Tryz.f4 rfl rfl rfl rfl rfl rfl rfl ⟨rfl, rfl, rfl, rfl, rfl⟩ rfl rfl rfl rfl rfl (by kernel_rfl) Tryz.func4 (by kernel_rfl)
    (of_decide_eq_true (by kernel_rfl)) (by unfold Func.isWrapper; first | (rw [if_pos (by decide +kernel)]; kernel_rfl) | (rw [if_neg (by decide +kernel)]; exact ⟨rfl, rfl⟩))
    (fun os started H enc _ => FnExactRunOf_lifted os started H enc)

end Go.Proofs.YtnjmlhokkhkaaaaGreat
