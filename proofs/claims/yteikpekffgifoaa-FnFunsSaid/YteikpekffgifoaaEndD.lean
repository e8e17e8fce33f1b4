/- DrawEndOk. -/
import Derived.Test.YteikpekffgifoaaTop
namespace Go.Proofs.Yteikpekffgifoaa
open Go.ChangeShapes Go.WideShapes Go.ChangeAt Go.RowKit Go.Joins

/-- The cursor in block g, the result's block R still empty. -/
structure CS (B g R : Nat) (w wk : World) : Prop where
  cur : Cur wk B g
  inR : EndB wk R 0 0 0 0
  below : Below w.heap.size w wk
  ne : R ≠ g
  ge : w.heap.size ≤ R ∧ w.heap.size ≤ g
  hB : B ≤ w.heap.size
theorem EndB.lt {w : World} {q : Nat} {k a t l : Int} (h : EndB w q k a t l) : q < w.heap.size := (Array.getElem?_eq_some_iff.1 h).1
theorem EndB.grown {w w' : World} {q g : Nat} {k a t l : Int} (h : EndB w q k a t l) (hg : w.grownBy w' (some g)) (hne : q ≠ g) : EndB w' q k a t l := (hg.block q h.lt (fun e => hne (by injection e))).trans h
theorem CS.step {B g R : Nat} {w wk w' : World} (h : CS B g R w wk) (hc : Cur w' B g) (hg : wk.grownBy w' (some g)) : CS B g R w w' :=
  ⟨hc, h.inR.grown hg h.ne, h.below.trans ⟨hg.os, hg.tape, hg.output, hg.size, fun k hk => hg.block k (Nat.lt_of_lt_of_le hk h.below.size) fun e => by injection e with e; have := h.ge.2; omega⟩, h.ne, h.ge, h.hB⟩
theorem CS.alloc {B g R : Nat} {w wk : World} (h : CS B g R w wk) (o : Obj) : CS B g R w (wk.alloc o) :=
  ⟨cur_alloc h.cur o, (Below.heap_alloc wk o R h.inR.lt).trans h.inR, h.below.trans ((Below.refl _ _).alloc h.below.size o), h.ne, h.ge, h.hB⟩
theorem CS.set {B g R V : Nat} {w wk : World} (h : CS B g R w wk) (hV : w.heap.size ≤ V) (hg : V ≠ g) (hR : R ≠ V) (j : Nat) (u : Value) : CS B g R w (wk.setCell ⟨V, j, none⟩ u) :=
  ⟨cur_set h.cur hg (Nat.le_trans h.hB hV) j u, (Below.heap_setCell wk ⟨V, j, none⟩ u R hR).trans h.inR, below_set h.below hV j u, h.ne, h.ge, h.hB⟩

/-- l2Draw by the cursor alone. -/
theorem l2Draw_cur (w : World) (B g : Nat) (hc : Cur w B g) : Calls Try.prog 40 #[.pointer (some ⟨g, 0, none⟩)] w (fun e w' => ∃ (ph nm : Int) (G n c : Nat) (k a t l : Int), e = .returned (.agg #[.int .i64 ph, .int .i64 nm, .slice (some ⟨G, 0, none⟩) n c]) ∧ Cur w' B g ∧ w.grownBy w' (some g) ∧ 1 ≤ n ∧
    w'.cell? ⟨G, 4, none⟩ = some (.int .i64 k) ∧ w'.cell? ⟨G, 5, none⟩ = some (.int .i64 a) ∧ w'.cell? ⟨G, 6, none⟩ = some (.int .i64 t) ∧ w'.cell? ⟨G, 7, none⟩ = some (.int .i64 l)) := by
  have hd : DSta w B g (fun k => if k = g then [9] else [8]) := ⟨hc, if_pos rfl, fun k hk => if_neg (by have := hc.1; omega)⟩
  refine (l2Draw_any w B g _ hd).mono ?_
  rintro e w' ⟨L', ph, nm, G, n, c, bl, rfl, _, hw, hd', hr, hl, hn, _⟩
  have hx : bl[0]? = some bl[0] := List.getElem?_eq_getElem (by omega)
  generalize bl[0] = x at hx
  obtain ⟨cs, ⟨v0, v1, v2, v3, rfl, _⟩, _, hcs⟩ := LR.get hr hx
  exact ⟨ph, nm, G, n, c, _, _, _, _, rfl, hd'.cur, ⟨hw.os, hw.tape, hw.output, hw.size, fun k hk hne => hw.block k hk fun h => h (if_neg fun e => hne (by rw [e]))⟩, hn, (hcs 4 _ rfl).1, (hcs 5 _ rfl).1, (hcs 6 _ rfl).1, (hcs 7 _ rfl).1⟩

theorem field_fun2 (p m : Int) (A : Option Addr) (n c : Nat) (w : World) : (Instr.field 26 (.agg #[.int .i64 p, .int .i64 m, .slice A n c]) 2).run Try.prog w = .ok (.slice A n c) w := by kernel_rfl

def GivesEnd (w : World) (e : Ending) (w' : World) : Prop := ∃ k a t l : Int, e = .returned (.agg #[.int .i64 k, .int .i64 a, .int .i64 t, .int .i64 l]) ∧ Below w.heap.size w w'

set_option maxRecDepth 10000 in
set_option maxHeartbeats 4000000 in
theorem DrawEndOk_any (B n : Nat) (v : Value) (w : World) (hv : Code w B v n) (hB : B ≤ w.heap.size) :
    Calls Try.prog 8 #[v] w (GivesEnd w) := by
  have HV := Lib.hid hv
  have hs0 : (w.alloc (.cells #[.int .i64 0, .int .i64 0, .int .i64 0, .int .i64 0] 29)).heap.size = w.heap.size + 1 := by simp
  have HR0 := Lib.hid (heap_alloc_new w (.cells #[.int .i64 0, .int .i64 0, .int .i64 0, .int .i64 0] 29))
  clear hv
  go_enter Try.func8, Try.ntmps8
  go_wp2_with fail
  refine (l1New_any B n v _ (HV.out.keep fun b o' hb => World.cell?_alloc_lt w _ ⟨b, o', none⟩ (show b < w.heap.size by omega)) (by simp; omega)).mono ?_
  unfold GivesCur
  rw [hs0]
  rintro e w1 ⟨rfl, hc1, hg1⟩
  have HC1 : Hid (CS B (w.heap.size + 1) w.heap.size w w1) := ⟨hc1, (hg1.block w.heap.size (by omega) (by simp)).trans HR0.out, ((Below.refl _ _).alloc (Nat.le_refl _) _).trans ⟨hg1.os, hg1.tape, hg1.output, hg1.size, fun k hk => hg1.block k (by omega) (by simp)⟩, by omega, by omega, hB⟩
  clear hc1 hg1 HR0 hs0
  go_wp2_with fail
  refine (l1From_any B _ 0 4 _ HC1.out.cur (by omega) (by omega) (by omega)).mono ?_
  rintro e w2 ⟨x0, rfl, _, _, hc, hg⟩
  have HC2 := Lib.hid (HC1.out.step hc hg)
  clear hc hg HC1
  go_wp2_with fail
  refine (l1Below_any B _ 3 _ HC2.out.cur).mono ?_
  rintro e w3 ⟨x1, rfl, _, _, hc, hg⟩
  have HC3 := Lib.hid (HC2.out.step hc hg)
  clear hc hg HC2
  go_wp2_with fail
  refine (l1Below_any B _ 3 _ HC3.out.cur).mono ?_
  rintro e w4 ⟨x2, rfl, _, _, hc, hg⟩
  have HC4 := Lib.hid (HC3.out.step hc hg)
  clear hc hg HC3
  go_wp2_with fail
  refine (l1Below_any B _ 3 _ HC4.out.cur).mono ?_
  rintro e w5 ⟨x3, rfl, _, _, hc, hg⟩
  have HC5 := Lib.hid (HC4.out.step hc hg)
  clear hc hg HC4
  go_upto_region 3 with fail
  have HC6 := Lib.hid (HC5.out.alloc (.cells #[.int .i64 x0, .int .i64 x1, .int .i64 x2, .int .i64 x3] 29))
  have HV6 : Hid (EndB (w5.alloc (.cells #[.int .i64 x0, .int .i64 x1, .int .i64 x2, .int .i64 x3] 29)) w5.heap.size x0 x1 x2 x3) := heap_alloc_new w5 _
  have hV1 : w.heap.size + 1 < w5.heap.size := cur_lt HC5.out.cur
  have hV2 : w5.heap.size ≠ w.heap.size + 1 := by omega
  have hV3 : w.heap.size ≠ w5.heap.size := by omega
  have hV4 : w.heap.size ≤ w5.heap.size := by omega
  clear HC5
  generalize w5.alloc (.cells #[.int .i64 x0, .int .i64 x1, .int .i64 x2, .int .i64 x3] 29) = w6 at *
  generalize w5.heap.size = V at *
  go_wp2_with fail
  refine (l1Once_any B _ 2 _ HC6.out.cur).mono ?_
  rintro e w7 ⟨o1, rfl, hc, hg⟩
  have HC7 := Lib.hid (HC6.out.step hc hg)
  have HV7 := Lib.hid (HV6.out.grown hg hV2)
  clear hc hg HC6 HV6
  cases o1
  · go_wp2_with fail
    refine (l1Once_any B _ 8 _ HC7.out.cur).mono ?_
    rintro e w8 ⟨o2, rfl, hc, hg⟩
    have HC8 := Lib.hid (HC7.out.step hc hg)
    have HV8 := Lib.hid (HV7.out.grown hg hV2)
    clear hc hg HC7 HV7
    cases o2
    · go_wp2_with fail
      refine (l1Once_any B _ 8 _ HC8.out.cur).mono ?_
      rintro e w9 ⟨o3, rfl, hc, hg⟩
      have HC9 := Lib.hid (HC8.out.step hc hg)
      have HV9 := Lib.hid (HV8.out.grown hg hV2)
      clear hc hg HC8 HV8
      cases o3
      · obtain ⟨⟨f0, f1, f2, f3⟩, ff⟩ := HV9.out.cells
        obtain ⟨⟨hR0, hR1, hR2, hR3⟩, hRf⟩ := HC9.out.inR.cells
        have hRf0 := hRf 0
        have hRf1 := hRf 1
        have hRf2 := hRf 2
        have hRf3 := hRf 3
        clear ff hRf
        go_wp2_with fail
        (try simp only [Exit.inBlock, Exit.then])
        refine bodyPost_ret (v := .agg #[.int .i64 x0, .int .i64 x1, .int .i64 x2, .int .i64 x3]) (by simp [results, Try.results8, go_sem, hR0, hR1, hR2, hR3]) rfl ?_
        exact ⟨_, _, _, _, rfl, below_set (below_set (below_set (below_set HC9.out.below (Nat.le_refl _) _ _) (Nat.le_refl _) _ _) (Nat.le_refl _) _ _) (Nat.le_refl _) _ _⟩
      · go_wp2_with fail
        refine (l1Num_any B _ 149 _ HC9.out.cur (by omega) (by omega)).mono ?_
        rintro e w10 ⟨za, rfl, hc, hg⟩
        have HC10 := Lib.hid (HC9.out.step hc hg)
        have HV10 := Lib.hid (HV9.out.grown hg hV2)
        clear hc hg HC9 HV9
        obtain ⟨⟨f0, f1, f2, f3⟩, ff⟩ := HV10.out.cells
        have ff1 := ff 1
        clear ff
        have HC11 := Lib.hid (HC10.out.set hV4 hV2 hV3 1 (.int .i64 za))
        have HV11 := Lib.hid (HV10.out.set1 za)
        go_upto_region 9 with fail
        generalize w10.setCell ⟨V, 1, none⟩ (.int .i64 za) = w11 at *
        clear f0 f1 f2 f3 ff1 HC10 HV10
        obtain ⟨⟨f0, f1, f2, f3⟩, ff⟩ := HV11.out.cells
        obtain ⟨⟨hR0, hR1, hR2, hR3⟩, hRf⟩ := HC11.out.inR.cells
        have hRf0 := hRf 0
        have hRf1 := hRf 1
        have hRf2 := hRf 2
        have hRf3 := hRf 3
        clear ff hRf
        go_wp2_with fail
        (try simp only [Exit.inBlock, Exit.then])
        refine bodyPost_ret (v := .agg #[.int .i64 x0, .int .i64 za, .int .i64 x2, .int .i64 x3]) (by simp [results, Try.results8, go_sem, hR0, hR1, hR2, hR3]) rfl ?_
        exact ⟨_, _, _, _, rfl, below_set (below_set (below_set (below_set HC11.out.below (Nat.le_refl _) _ _) (Nat.le_refl _) _ _) (Nat.le_refl _) _ _) (Nat.le_refl _) _ _⟩
    · go_wp2_with fail
      refine (l1Num_any B _ 39 _ HC8.out.cur (by omega) (by omega)).mono ?_
      rintro e w9 ⟨zt, rfl, hc, hg⟩
      have HC9 := Lib.hid (HC8.out.step hc hg)
      have HV9 := Lib.hid (HV8.out.grown hg hV2)
      clear hc hg HC8 HV8
      obtain ⟨⟨f0, f1, f2, f3⟩, ff⟩ := HV9.out.cells
      have ff2 := ff 2
      clear ff
      have HC10 := Lib.hid (HC9.out.set hV4 hV2 hV3 2 (.int .i64 zt))
      have HV10 := Lib.hid (HV9.out.set2 zt)
      go_upto_region 7 with fail
      generalize w9.setCell ⟨V, 2, none⟩ (.int .i64 zt) = w10 at *
      clear f0 f1 f2 f3 ff2 HC9 HV9
      go_wp2_with fail
      refine (l1Once_any B _ 8 _ HC10.out.cur).mono ?_
      rintro e w11 ⟨o3, rfl, hc, hg⟩
      have HC11 := Lib.hid (HC10.out.step hc hg)
      have HV11 := Lib.hid (HV10.out.grown hg hV2)
      clear hc hg HC10 HV10
      cases o3
      · obtain ⟨⟨f0, f1, f2, f3⟩, ff⟩ := HV11.out.cells
        obtain ⟨⟨hR0, hR1, hR2, hR3⟩, hRf⟩ := HC11.out.inR.cells
        have hRf0 := hRf 0
        have hRf1 := hRf 1
        have hRf2 := hRf 2
        have hRf3 := hRf 3
        clear ff hRf
        go_wp2_with fail
        (try simp only [Exit.inBlock, Exit.then])
        refine bodyPost_ret (v := .agg #[.int .i64 x0, .int .i64 x1, .int .i64 zt, .int .i64 x3]) (by simp [results, Try.results8, go_sem, hR0, hR1, hR2, hR3]) rfl ?_
        exact ⟨_, _, _, _, rfl, below_set (below_set (below_set (below_set HC11.out.below (Nat.le_refl _) _ _) (Nat.le_refl _) _ _) (Nat.le_refl _) _ _) (Nat.le_refl _) _ _⟩
      · go_wp2_with fail
        refine (l1Num_any B _ 149 _ HC11.out.cur (by omega) (by omega)).mono ?_
        rintro e w12 ⟨za, rfl, hc, hg⟩
        have HC12 := Lib.hid (HC11.out.step hc hg)
        have HV12 := Lib.hid (HV11.out.grown hg hV2)
        clear hc hg HC11 HV11
        obtain ⟨⟨f0, f1, f2, f3⟩, ff⟩ := HV12.out.cells
        have ff1 := ff 1
        clear ff
        have HC13 := Lib.hid (HC12.out.set hV4 hV2 hV3 1 (.int .i64 za))
        have HV13 := Lib.hid (HV12.out.set1 za)
        go_upto_region 9 with fail
        generalize w12.setCell ⟨V, 1, none⟩ (.int .i64 za) = w13 at *
        clear f0 f1 f2 f3 ff1 HC12 HV12
        obtain ⟨⟨f0, f1, f2, f3⟩, ff⟩ := HV13.out.cells
        obtain ⟨⟨hR0, hR1, hR2, hR3⟩, hRf⟩ := HC13.out.inR.cells
        have hRf0 := hRf 0
        have hRf1 := hRf 1
        have hRf2 := hRf 2
        have hRf3 := hRf 3
        clear ff hRf
        go_wp2_with fail
        (try simp only [Exit.inBlock, Exit.then])
        refine bodyPost_ret (v := .agg #[.int .i64 x0, .int .i64 za, .int .i64 zt, .int .i64 x3]) (by simp [results, Try.results8, go_sem, hR0, hR1, hR2, hR3]) rfl ?_
        exact ⟨_, _, _, _, rfl, below_set (below_set (below_set (below_set HC13.out.below (Nat.le_refl _) _ _) (Nat.le_refl _) _ _) (Nat.le_refl _) _ _) (Nat.le_refl _) _ _⟩
  · go_wp2_with fail
    refine (l2Draw_cur _ B _ HC7.out.cur).mono ?_
    rintro e w8 ⟨ph, nm, G, m, c, k, a, t, l, rfl, hc, hg, hn, d4, d5, d6, d7⟩
    have HC8 := Lib.hid (HC7.out.step hc hg)
    have HV8 := Lib.hid (HV7.out.grown hg hV2)
    clear hc hg HC7 HV7
    obtain ⟨⟨f0, f1, f2, f3⟩, ff⟩ := HV8.out.cells
    have ff0 := ff 0
    have ff1 := ff 1
    have ff2 := ff 2
    have ff3 := ff 3
    clear ff
    have hn0 : (0 : Int) < (m : Int) := by omega
    have hfl := field_fun2
    have HC9 := Lib.hid ((((HC8.out.set hV4 hV2 hV3 0 (.int .i64 k)).set hV4 hV2 hV3 1 (.int .i64 a)).set hV4 hV2 hV3 2 (.int .i64 t)).set hV4 hV2 hV3 3 (.int .i64 l))
    have HV9 := Lib.hid ((((HV8.out.set0 k).set1 a).set2 t).set3 l)
    go_upto_region 5 with fail
    generalize (((w8.setCell ⟨V, 0, none⟩ (.int .i64 k)).setCell ⟨V, 1, none⟩ (.int .i64 a)).setCell ⟨V, 2, none⟩ (.int .i64 t)).setCell ⟨V, 3, none⟩ (.int .i64 l) = w9 at *
    clear f0 f1 f2 f3 ff0 ff1 ff2 ff3 d4 d5 d6 d7 hn0 hfl HC8 HV8
    go_wp2_with fail
    refine (l1Once_any B _ 8 _ HC9.out.cur).mono ?_
    rintro e w10 ⟨o2, rfl, hc, hg⟩
    have HC10 := Lib.hid (HC9.out.step hc hg)
    have HV10 := Lib.hid (HV9.out.grown hg hV2)
    clear hc hg HC9 HV9
    cases o2
    · go_wp2_with fail
      refine (l1Once_any B _ 8 _ HC10.out.cur).mono ?_
      rintro e w11 ⟨o3, rfl, hc, hg⟩
      have HC11 := Lib.hid (HC10.out.step hc hg)
      have HV11 := Lib.hid (HV10.out.grown hg hV2)
      clear hc hg HC10 HV10
      cases o3
      · obtain ⟨⟨f0, f1, f2, f3⟩, ff⟩ := HV11.out.cells
        obtain ⟨⟨hR0, hR1, hR2, hR3⟩, hRf⟩ := HC11.out.inR.cells
        have hRf0 := hRf 0
        have hRf1 := hRf 1
        have hRf2 := hRf 2
        have hRf3 := hRf 3
        clear ff hRf
        go_wp2_with fail
        (try simp only [Exit.inBlock, Exit.then])
        refine bodyPost_ret (v := .agg #[.int .i64 k, .int .i64 a, .int .i64 t, .int .i64 l]) (by simp [results, Try.results8, go_sem, hR0, hR1, hR2, hR3]) rfl ?_
        exact ⟨_, _, _, _, rfl, below_set (below_set (below_set (below_set HC11.out.below (Nat.le_refl _) _ _) (Nat.le_refl _) _ _) (Nat.le_refl _) _ _) (Nat.le_refl _) _ _⟩
      · go_wp2_with fail
        refine (l1Num_any B _ 149 _ HC11.out.cur (by omega) (by omega)).mono ?_
        rintro e w12 ⟨za, rfl, hc, hg⟩
        have HC12 := Lib.hid (HC11.out.step hc hg)
        have HV12 := Lib.hid (HV11.out.grown hg hV2)
        clear hc hg HC11 HV11
        obtain ⟨⟨f0, f1, f2, f3⟩, ff⟩ := HV12.out.cells
        have ff1 := ff 1
        clear ff
        have HC13 := Lib.hid (HC12.out.set hV4 hV2 hV3 1 (.int .i64 za))
        have HV13 := Lib.hid (HV12.out.set1 za)
        go_upto_region 9 with fail
        generalize w12.setCell ⟨V, 1, none⟩ (.int .i64 za) = w13 at *
        clear f0 f1 f2 f3 ff1 HC12 HV12
        obtain ⟨⟨f0, f1, f2, f3⟩, ff⟩ := HV13.out.cells
        obtain ⟨⟨hR0, hR1, hR2, hR3⟩, hRf⟩ := HC13.out.inR.cells
        have hRf0 := hRf 0
        have hRf1 := hRf 1
        have hRf2 := hRf 2
        have hRf3 := hRf 3
        clear ff hRf
        go_wp2_with fail
        (try simp only [Exit.inBlock, Exit.then])
        refine bodyPost_ret (v := .agg #[.int .i64 k, .int .i64 za, .int .i64 t, .int .i64 l]) (by simp [results, Try.results8, go_sem, hR0, hR1, hR2, hR3]) rfl ?_
        exact ⟨_, _, _, _, rfl, below_set (below_set (below_set (below_set HC13.out.below (Nat.le_refl _) _ _) (Nat.le_refl _) _ _) (Nat.le_refl _) _ _) (Nat.le_refl _) _ _⟩
    · go_wp2_with fail
      refine (l1Num_any B _ 39 _ HC10.out.cur (by omega) (by omega)).mono ?_
      rintro e w11 ⟨zt, rfl, hc, hg⟩
      have HC11 := Lib.hid (HC10.out.step hc hg)
      have HV11 := Lib.hid (HV10.out.grown hg hV2)
      clear hc hg HC10 HV10
      obtain ⟨⟨f0, f1, f2, f3⟩, ff⟩ := HV11.out.cells
      have ff2 := ff 2
      clear ff
      have HC12 := Lib.hid (HC11.out.set hV4 hV2 hV3 2 (.int .i64 zt))
      have HV12 := Lib.hid (HV11.out.set2 zt)
      go_upto_region 7 with fail
      generalize w11.setCell ⟨V, 2, none⟩ (.int .i64 zt) = w12 at *
      clear f0 f1 f2 f3 ff2 HC11 HV11
      go_wp2_with fail
      refine (l1Once_any B _ 8 _ HC12.out.cur).mono ?_
      rintro e w13 ⟨o3, rfl, hc, hg⟩
      have HC13 := Lib.hid (HC12.out.step hc hg)
      have HV13 := Lib.hid (HV12.out.grown hg hV2)
      clear hc hg HC12 HV12
      cases o3
      · obtain ⟨⟨f0, f1, f2, f3⟩, ff⟩ := HV13.out.cells
        obtain ⟨⟨hR0, hR1, hR2, hR3⟩, hRf⟩ := HC13.out.inR.cells
        have hRf0 := hRf 0
        have hRf1 := hRf 1
        have hRf2 := hRf 2
        have hRf3 := hRf 3
        clear ff hRf
        go_wp2_with fail
        (try simp only [Exit.inBlock, Exit.then])
        refine bodyPost_ret (v := .agg #[.int .i64 k, .int .i64 a, .int .i64 zt, .int .i64 l]) (by simp [results, Try.results8, go_sem, hR0, hR1, hR2, hR3]) rfl ?_
        exact ⟨_, _, _, _, rfl, below_set (below_set (below_set (below_set HC13.out.below (Nat.le_refl _) _ _) (Nat.le_refl _) _ _) (Nat.le_refl _) _ _) (Nat.le_refl _) _ _⟩
      · go_wp2_with fail
        refine (l1Num_any B _ 149 _ HC13.out.cur (by omega) (by omega)).mono ?_
        rintro e w14 ⟨za, rfl, hc, hg⟩
        have HC14 := Lib.hid (HC13.out.step hc hg)
        have HV14 := Lib.hid (HV13.out.grown hg hV2)
        clear hc hg HC13 HV13
        obtain ⟨⟨f0, f1, f2, f3⟩, ff⟩ := HV14.out.cells
        have ff1 := ff 1
        clear ff
        have HC15 := Lib.hid (HC14.out.set hV4 hV2 hV3 1 (.int .i64 za))
        have HV15 := Lib.hid (HV14.out.set1 za)
        go_upto_region 9 with fail
        generalize w14.setCell ⟨V, 1, none⟩ (.int .i64 za) = w15 at *
        clear f0 f1 f2 f3 ff1 HC14 HV14
        obtain ⟨⟨f0, f1, f2, f3⟩, ff⟩ := HV15.out.cells
        obtain ⟨⟨hR0, hR1, hR2, hR3⟩, hRf⟩ := HC15.out.inR.cells
        have hRf0 := hRf 0
        have hRf1 := hRf 1
        have hRf2 := hRf 2
        have hRf3 := hRf 3
        clear ff hRf
        go_wp2_with fail
        (try simp only [Exit.inBlock, Exit.then])
        refine bodyPost_ret (v := .agg #[.int .i64 k, .int .i64 za, .int .i64 zt, .int .i64 l]) (by simp [results, Try.results8, go_sem, hR0, hR1, hR2, hR3]) rfl ?_
        exact ⟨_, _, _, _, rfl, below_set (below_set (below_set (below_set HC15.out.below (Nat.le_refl _) _ _) (Nat.le_refl _) _ _) (Nat.le_refl _) _ _) (Nat.le_refl _) _ _⟩

end Go.Proofs.Yteikpekffgifoaa
