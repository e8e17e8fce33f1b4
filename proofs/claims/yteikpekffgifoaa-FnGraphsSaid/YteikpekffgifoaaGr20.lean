/- CritD, joined. -/
import Derived.Test.YteikpekffgifoaaGr9
import Derived.Test.YteikpekffgifoaaGr17
import Derived.Test.YteikpekffgifoaaGr19
namespace Go.Proofs.Yteikpekffgifoaa

/- DrawCritical. -/
section
open Go.ChangeShapes Go.WideShapes Go.ChangeAt Go.RowKit Go.Joins

theorem cur_below {w w' : World} {B g : Nat} (h : Cur w B g) (hb : Below w.heap.size w w') : Cur w' B g := by
  have hlt := cur_lt h
  obtain ⟨hB, v, n, i, k, hv, hi, hg⟩ := h
  exact ⟨hB, v, n, i, k, hv.keep fun b o' hb' => hb.cell (p := ⟨b, o', none⟩) (show b < w.heap.size by omega), hi, (hb.block g hlt).trans hg⟩

theorem set3_heap (w : World) {k q : Nat} (h : k ≠ q) (u0 u1 u2 : Value) : (((w.setCell ⟨q, 0, none⟩ u0).setCell ⟨q, 1, none⟩ u1).setCell ⟨q, 2, none⟩ u2).heap[k]? = w.heap[k]? :=
  (Below.heap_setCell _ ⟨q, 2, none⟩ u2 k h).trans ((Below.heap_setCell _ ⟨q, 1, none⟩ u1 k h).trans (Below.heap_setCell w ⟨q, 0, none⟩ u0 k h))
theorem set3_same (w : World) {q : Nat} {t : TypeId} {a b c : Value} (h : w.heap[q]? = some (.cells #[a, b, c] t (0, 0))) (u0 u1 u2 : Value) : (((w.setCell ⟨q, 0, none⟩ u0).setCell ⟨q, 1, none⟩ u1).setCell ⟨q, 2, none⟩ u2).heap[q]? = some (.cells #[u0, u1, u2] t (0, 0)) :=
  heap_setCell_same _ q 2 _ _ _ (heap_setCell_same _ q 1 _ _ _ (heap_setCell_same w q 0 _ _ _ h))
theorem set2_same (w : World) {q : Nat} {t : TypeId} {a b : Value} (h : w.heap[q]? = some (.cells #[a, b] t (0, 0))) (u0 u1 : Value) : ((w.setCell ⟨q, 0, none⟩ u0).setCell ⟨q, 1, none⟩ u1).heap[q]? = some (.cells #[u0, u1] t (0, 0)) :=
  heap_setCell_same _ q 1 _ _ _ (heap_setCell_same w q 0 _ _ _ h)

/-- A function and an edge, of memory of its own. -/
def GivesCritD (w : World) (e : Ending) (w' : World) : Prop := ∃ (fd : FunD) (v : Value) (a b : Int), e = .returned (.tuple #[v, .agg #[.int .i64 a, .int .i64 b]]) ∧ EFun w' (Zn.new w.heap.size w'.heap.size) fd v ∧ fd.blocks.length ≤ 7 ∧ wf64 a ∧ wf64 b ∧ Below w.heap.size w w'

/-- What lies there behind the drawing of f, the two results still empty, and stays but for the cursor. -/
structure KS (B g R F lo hi : Nat) (w wk : World) (fd : FunD) (A : Option Addr) (c : Nat) (rE : Value) (es : List MoveD) : Prop where
  cur : Cur wk B g
  r0 : wk.heap[R]? = some (.cells #[.int .i64 0, .int .i64 0, .slice none 0 0] 26 (0, 0))
  r1 : wk.heap[R + 1]? = some (.cells #[.int .i64 0, .int .i64 0] 51 (0, 0))
  box : wk.heap[F]? = some (.cells #[.int .i64 fd.params, .int .i64 fd.names, .slice A fd.blocks.length c] 26 (0, 0))
  fn : EFun wk (Zn.new lo hi) fd (.agg #[.int .i64 fd.params, .int .i64 fd.names, .slice A fd.blocks.length c])
  ed : OE wk hi rE es
  below : Below w.heap.size w wk
  ge : w.heap.size ≤ R ∧ R + 1 < g ∧ g < lo ∧ lo ≤ hi ∧ hi ≤ wk.heap.size ∧ F < wk.heap.size ∧ lo ≤ F ∧ B ≤ w.heap.size
theorem KS.fw {B g R F lo hi : Nat} {w wk w' : World} {fd : FunD} {A : Option Addr} {c : Nat} {rE : Value} {es : List MoveD} (h : KS B g R F lo hi w wk fd A c rE es) (hc : Cur w' B g) (hf : Fw (· = g) wk w') : KS B g R F lo hi w w' fd A c rE es := by
  obtain ⟨g1, g2, g3, g4, g5, g6, g7, g8⟩ := h.ge
  exact ⟨hc, (hf.block R (by omega) (by omega)).trans h.r0, (hf.block (R + 1) (by omega) (by omega)).trans h.r1, (hf.block F g6 (by omega)).trans h.box,
    h.fn.keep ⟨fun _ hb => hb, fun h => h, fun b hb => hf.block b (by have := hb.2; omega) (by have := hb.1; omega)⟩,
    h.ed.fw hf (fun k hk e => by have := (h.ed.lt k hk).1; omega), h.below.trans (hf.toBelow h.below.size fun k hk e => by omega), g1, g2, g3, g4, Nat.le_trans g5 hf.size, Nat.lt_of_lt_of_le g6 hf.size, g7, g8⟩
theorem KS.step {B g R F lo hi : Nat} {w wk w' : World} {fd : FunD} {A : Option Addr} {c : Nat} {rE : Value} {es : List MoveD} (h : KS B g R F lo hi w wk fd A c rE es) (hc : Cur w' B g) (hg : wk.grownBy w' (some g)) : KS B g R F lo hi w w' fd A c rE es :=
  h.fw hc (Fw.grown hg fun k hk _ => by injection hk with hk; exact hk.symm)
theorem KS.drew {B g R F lo hi : Nat} {w wk : World} {fd : FunD} {A : Option Addr} {c : Nat} {rE : Value} {es : List MoveD} (h : KS B g R F lo hi w wk fd A c rE es) : KS B g R F lo hi w wk.drew fd A c rE es :=
  h.fw (cur_below h.cur (Below.refl _ wk).drew) (Fw.below (Below.refl _ wk).drew)
theorem KS.fcells {B g R F lo hi : Nat} {w wk : World} {fd : FunD} {A : Option Addr} {c : Nat} {rE : Value} {es : List MoveD} (h : KS B g R F lo hi w wk fd A c rE es) : wk.cell? ⟨F, 0, none⟩ = some (.int .i64 fd.params) ∧ wk.cell? ⟨F, 1, none⟩ = some (.int .i64 fd.names) ∧ wk.cell? ⟨F, 2, none⟩ = some (.slice A fd.blocks.length c) :=
  ⟨cell_of_row wk _ 0 _ _ (0, 0) h.box, cell_of_row wk _ 1 _ _ (0, 0) h.box, cell_of_row wk _ 2 _ _ (0, 0) h.box⟩

theorem edges_range {f : FunD} {es : List MoveD} (hn : f.blocks.length ≤ 7) (h : EdgesRes f es) {k : Nat} {e : MoveD} (hk : es[k]? = some e) : 0 ≤ e.dst ∧ e.dst ≤ 7 ∧ 0 ≤ e.src ∧ e.src ≤ 7 := by
  rcases h with ⟨hp, rfl⟩ | ⟨_, rfl⟩
  · have hm := List.mem_of_getElem? hk
    unfold edgesOf edgesK at hm
    rw [List.mem_flatMap] at hm
    obtain ⟨i, hi, hm⟩ := hm
    rw [List.mem_map] at hm
    obtain ⟨t, ht, rfl⟩ := hm
    have hi' := List.mem_range.1 hi
    have := (targets_of hp).sc i hi' t ht
    refine ⟨?_, ?_, ?_, ?_⟩ <;> dsimp only <;> omega
  · simp at hk
theorem wf_small {a : Int} (h : -1000 ≤ a ∧ a ≤ 1000) : wf64 a := by
  have h1 : IntKind.i64.min = -9223372036854775808 := by decide
  have h2 : IntKind.i64.max = 9223372036854775807 := by decide
  unfold wf64 Lit.wf
  simp [h1, h2]
  omega

set_option maxRecDepth 10000 in
set_option maxHeartbeats 2000000 in
theorem DrawCritical_any (B n : Nat) (v : Value) (w : World) (hv : Code w B v n) (hB : B ≤ w.heap.size) :
    Calls Try.prog 26 #[v] w (GivesCritD w) := by
  have HV := Lib.hid hv
  obtain ⟨w0, hw0⟩ : ∃ w0, w0 = (w.alloc (.cells #[.int .i64 0, .int .i64 0, .slice none 0 0] 26)).alloc (.cells #[.int .i64 0, .int .i64 0] 51) := ⟨_, rfl⟩
  have hs0 : w0.heap.size = w.heap.size + 1 + 1 := by rw [hw0]; simp
  have HR0 : Hid (w0.heap[w.heap.size]? = some (.cells #[.int .i64 0, .int .i64 0, .slice none 0 0] 26 (0, 0))) := by
    rw [hw0, Hid, Below.heap_alloc _ _ _ (by simp)]; exact heap_alloc_new w _
  have HR1 : Hid (w0.heap[w.heap.size + 1]? = some (.cells #[.int .i64 0, .int .i64 0] 51 (0, 0))) := by
    have := heap_alloc_new (w.alloc (.cells #[.int .i64 0, .int .i64 0, .slice none 0 0] 26)) (.cells #[.int .i64 0, .int .i64 0] 51)
    rw [World.size_alloc] at this
    rw [hw0]; exact this
  have HB0 : Hid (Below w.heap.size w w0) := by rw [hw0]; exact ((Below.refl _ _).alloc (Nat.le_refl _) _).alloc (by simp) _
  have HW0 := Lib.hid hw0
  clear hv hw0
  go_enter Try.func26, Try.ntmps26
  go_wp2_with fail
  rw [← HW0.out]
  refine (l1New_any B n v _ (HV.out.keep fun b o' hb => HB0.out.cell (p := ⟨b, o', none⟩) (show b < w.heap.size by omega)) (by omega)).mono ?_
  rintro e w1 ⟨rfl, hc1, hg1⟩
  have hd1 := dsta_start (by rw [hs0]; omega) hc1
  have hl1 := cur_lt hc1
  rw [hs0] at hd1 hl1 ⊢
  have HG1 := Lib.hid hg1
  have HD1 := Lib.hid hd1
  clear hc1 hd1 hg1
  go_wp2_with fail
  refine (l2DrawAny_any _ B _ _ HD1.out).mono ?_
  rintro e w2 ⟨L2, fd, v2, rfl, _, hw2, hd2, he, hl⟩
  have hb2 : Below (w.heap.size + 1 + 1) w0 w2 := by have := below_start HG1.out (by rw [hs0]; exact hw2); rwa [hs0] at this
  have hz2 := hw2.size
  have HE := Lib.hid he
  obtain ⟨u, rfl, hu⟩ := he
  obtain ⟨_, A, c, rfl, _⟩ := hu
  have HC2 := Lib.hid (cur_alloc hd2.cur (.cells #[.int .i64 fd.params, .int .i64 fd.names, .slice A fd.blocks.length c] 26))
  have HB2 := Lib.hid (hb2.alloc (by omega) (.cells #[.int .i64 fd.params, .int .i64 fd.names, .slice A fd.blocks.length c] 26))
  have HBX := Lib.hid (heap_alloc_new w2 (.cells #[.int .i64 fd.params, .int .i64 fd.names, .slice A fd.blocks.length c] 26))
  have HE2 := Lib.hid (HE.out.old ((Below.refl _ _).alloc (Nat.le_refl _) (.cells #[.int .i64 fd.params, .int .i64 fd.names, .slice A fd.blocks.length c] 26)))
  have hs2 : (w2.alloc (.cells #[.int .i64 fd.params, .int .i64 fd.names, .slice A fd.blocks.length c] 26)).heap.size = w2.heap.size + 1 := by simp
  clear hw2 hb2 hd2 HE HG1 HD1
  go_upto_region 3 with fail
  generalize w2.alloc (.cells #[.int .i64 fd.params, .int .i64 fd.names, .slice A fd.blocks.length c] 26) = w3 at *
  have f0 := cell_of_row w3 _ 0 _ _ (0, 0) HBX.out
  have f1 := cell_of_row w3 _ 1 _ _ (0, 0) HBX.out
  have f2 := cell_of_row w3 _ 2 _ _ (0, 0) HBX.out
  go_wp2_with fail
  refine (sEdgesOf_any fd _ _ _ HE2.out (fun b hb => by have := hb.2; omega) (by omega)).mono ?_
  rintro e w4 ⟨es, rE, rfl, hes, ho, hb4⟩
  have HES := Lib.hid hes
  obtain ⟨AE, cE, rfl⟩ := ho.form
  have hlen := hes.len
  have HB4 : Hid (Below (w.heap.size + 1 + 1) w0 w4) := HB2.out.trans (hb4.mono (by omega))
  have HK4 : Hid (KS B (w.heap.size + 1 + 1) w.heap.size w2.heap.size w1.heap.size w2.heap.size w w4 fd A c (.slice AE es.length cE) es) :=
    ⟨cur_below HC2.out hb4, (HB4.out.block _ (by omega)).trans HR0.out, (HB4.out.block _ (by omega)).trans HR1.out, (hb4.block _ (by omega)).trans HBX.out, HE2.out.old (hb4.mono (by omega)), World.ownsRow.mono ho (by omega), HB0.out.trans (HB4.out.mono (by omega)), by have := hb4.size; refine ⟨?_, ?_, ?_, ?_, ?_, ?_, ?_, ?_⟩ <;> omega⟩
  clear ho hb4 hes HB4 HC2 HB2 HBX HE2 HR0 HR1 HB0 HV HW0 hs0 hs2 hz2 f0 f1 f2
  generalize w2.heap.size = F at *
  have HS : Hid (∀ wk : World, KS B (w.heap.size + 1 + 1) w.heap.size F w1.heap.size F w wk fd A c (.slice AE es.length cE) es → (fun w' => w'.cell? ⟨F, 0, none⟩ = some (.int .i64 fd.params) ∧ w'.cell? ⟨F, 1, none⟩ = some (.int .i64 fd.names) ∧ w'.cell? ⟨F, 2, none⟩ = some (.slice A fd.blocks.length c)) wk) := fun wk h => h.fcells
  have hRF : w.heap.size ≠ F := by have := HK4.out.ge; omega
  have HS3 : Hid (∀ wk : World, (fun w' => w'.cell? ⟨F, 0, none⟩ = some (.int .i64 fd.params) ∧ w'.cell? ⟨F, 1, none⟩ = some (.int .i64 fd.names) ∧ w'.cell? ⟨F, 2, none⟩ = some (.slice A fd.blocks.length c)) wk → (fun w' => w'.cell? ⟨F, 0, none⟩ = some (.int .i64 fd.params) ∧ w'.cell? ⟨F, 1, none⟩ = some (.int .i64 fd.names) ∧ w'.cell? ⟨F, 2, none⟩ = some (.slice A fd.blocks.length c)) (((wk.setCell ⟨w.heap.size, 0, none⟩ (.int .i64 fd.params)).setCell ⟨w.heap.size, 1, none⟩ (.int .i64 fd.names)).setCell ⟨w.heap.size, 2, none⟩ (.slice A fd.blocks.length c))) := fun wk h => ⟨(set3_cell wk (Ne.symm hRF) _ _ _ 0).trans h.1, (set3_cell wk (Ne.symm hRF) _ _ _ 1).trans h.2.1, (set3_cell wk (Ne.symm hRF) _ _ _ 2).trans h.2.2⟩
  by_cases hes0 : 0 < es.length
  · have hd0 : decide (0 < es.length) = true := by simpa using hes0
    go_wp2_with fail
    refine (l1Once_any B _ 4 _ HK4.out.cur).mono ?_
    rintro e w5 ⟨o, rfl, hc, hg⟩
    have HK5 := Lib.hid (HK4.out.step hc hg)
    clear hc hg
    cases o
    · obtain ⟨ge, capE, hform, hgeF, hgel⟩ := World.ownsRow.form HK5.out.ed hes0
      injection hform with hA1 _ hA3
      subst hA1
      subst hA3
      have HS5 : Hid (∀ wk : World, KS B (w.heap.size + 1 + 1) w.heap.size F w1.heap.size F w wk fd A c (.slice (some ⟨ge, 0, none⟩) es.length cE) es → (fun w' => w'.cell? ⟨F, 0, none⟩ = some (.int .i64 fd.params) ∧ w'.cell? ⟨F, 1, none⟩ = some (.int .i64 fd.names) ∧ w'.cell? ⟨F, 2, none⟩ = some (.slice A fd.blocks.length c) ∧ ∀ (k : Nat) (e : MoveD), es[k]? = some e → w'.cell? ⟨ge, k * 2, none⟩ = some (.int .i64 e.dst) ∧ w'.cell? ⟨ge, k * 2 + 1, none⟩ = some (.int .i64 e.src)) wk) := fun wk h => ⟨h.fcells.1, h.fcells.2.1, h.fcells.2.2, fun k e he => by
        have hk := (List.getElem?_eq_some_iff.1 he).1
        have hget := fl_get he
        exact ⟨(World.ownsRow.cellAt h.ed _ (by omega)).trans hget.1, (World.ownsRow.cellAt h.ed _ (by omega)).trans hget.2⟩⟩
      have hRge : w.heap.size ≠ ge := by have := HK5.out.ge; omega
      have HS35 : Hid (∀ wk : World, (fun w' => w'.cell? ⟨F, 0, none⟩ = some (.int .i64 fd.params) ∧ w'.cell? ⟨F, 1, none⟩ = some (.int .i64 fd.names) ∧ w'.cell? ⟨F, 2, none⟩ = some (.slice A fd.blocks.length c) ∧ ∀ (k : Nat) (e : MoveD), es[k]? = some e → w'.cell? ⟨ge, k * 2, none⟩ = some (.int .i64 e.dst) ∧ w'.cell? ⟨ge, k * 2 + 1, none⟩ = some (.int .i64 e.src)) wk → (fun w' => w'.cell? ⟨F, 0, none⟩ = some (.int .i64 fd.params) ∧ w'.cell? ⟨F, 1, none⟩ = some (.int .i64 fd.names) ∧ w'.cell? ⟨F, 2, none⟩ = some (.slice A fd.blocks.length c) ∧ ∀ (k : Nat) (e : MoveD), es[k]? = some e → w'.cell? ⟨ge, k * 2, none⟩ = some (.int .i64 e.dst) ∧ w'.cell? ⟨ge, k * 2 + 1, none⟩ = some (.int .i64 e.src)) (((wk.setCell ⟨w.heap.size, 0, none⟩ (.int .i64 fd.params)).setCell ⟨w.heap.size, 1, none⟩ (.int .i64 fd.names)).setCell ⟨w.heap.size, 2, none⟩ (.slice A fd.blocks.length c))) := fun wk h => ⟨(set3_cell wk (Ne.symm hRF) _ _ _ 0).trans h.1, (set3_cell wk (Ne.symm hRF) _ _ _ 1).trans h.2.1, (set3_cell wk (Ne.symm hRF) _ _ _ 2).trans h.2.2.1, fun k e he => ⟨(set3_cell wk (Ne.symm hRge) _ _ _ _).trans (h.2.2.2 k e he).1, (set3_cell wk (Ne.symm hRge) _ _ _ _).trans (h.2.2.2 k e he).2⟩⟩
      have HKd := Lib.hid HK5.out.drew
      clear HS HS3
      go_upto_region 5 with fail
      refine wp_region_offL (S := (fun w' => w'.cell? ⟨F, 0, none⟩ = some (.int .i64 fd.params) ∧ w'.cell? ⟨F, 1, none⟩ = some (.int .i64 fd.names) ∧ w'.cell? ⟨F, 2, none⟩ = some (.slice A fd.blocks.length c) ∧ ∀ (k : Nat) (e : MoveD), es[k]? = some e → w'.cell? ⟨ge, k * 2, none⟩ = some (.int .i64 e.dst) ∧ w'.cell? ⟨ge, k * 2 + 1, none⟩ = some (.int .i64 e.src))) (by simp) (by kernel_rfl) (by kernel_rfl) (by kernel_rfl) (by kernel_rfl) (by kernel_rfl) ?_ (fun hHeld => ?_)
      · (try dsimp only)
        (first | exact HS5.out _ HKd.out | exact HS5.out _ HK7.out | exact HS35.out _ (HS5.out _ HK7.out))
      simp only [List.dropLast_cons_cons, List.dropLast_singleton, List.length_cons, List.length_nil]
      refine wpAnyH_take (i := 0) (v := ?_) rfl (by kernel_rfl) (by kernel_rfl) (by kernel_rfl) (fun _ _ _ h => h) (Or.inl ⟨by rfl, ?_⟩) (by assumption) ?_
      rotate_left
      · intro w hSw
        simp only [List.getElem_toArray, List.getElem_cons_zero]
        (try dsimp only at hSw)
        go_simp
        first | done | (with_reducible rfl)
      simp only [List.getElem_toArray, List.getElem_cons_zero, Act.put, List.setIfInBounds_toArray, List.set_cons_zero, List.set_cons_succ]
      refine wpAnyH_take (i := 1) (v := ?_) rfl (by kernel_rfl) (by kernel_rfl) (by kernel_rfl) (fun _ _ _ h => h) (Or.inl ⟨by rfl, ?_⟩) (by assumption) ?_
      rotate_left
      · intro w hSw
        simp only [List.getElem_toArray, List.getElem_cons_succ, List.getElem_cons_zero]
        (try dsimp only at hSw)
        go_simp
        first | done | (with_reducible rfl)
      simp only [List.getElem_toArray, List.getElem_cons_succ, List.getElem_cons_zero, Act.put, List.setIfInBounds_toArray, List.set_cons_zero, List.set_cons_succ]
      refine wpAnyH_take (i := 2) (v := ?_) rfl (by kernel_rfl) (by kernel_rfl) (by kernel_rfl) (fun _ _ _ h => h) (Or.inl ⟨by rfl, ?_⟩) (by assumption) ?_
      rotate_left
      · intro w hSw
        simp only [List.getElem_toArray, List.getElem_cons_succ, List.getElem_cons_zero]
        (try dsimp only at hSw)
        go_simp
        first | done | (with_reducible rfl)
      simp only [List.getElem_toArray, List.getElem_cons_succ, List.getElem_cons_zero, Act.put, List.setIfInBounds_toArray, List.set_cons_zero, List.set_cons_succ]
      refine wpAnyH_take (i := 3) (v := ?_) rfl (by kernel_rfl) (by kernel_rfl) (by kernel_rfl) (fun _ _ _ h => h) (Or.inl ⟨by rfl, ?_⟩) (by assumption) ?_
      rotate_left
      · intro w hSw
        simp only [List.getElem_toArray, List.getElem_cons_succ, List.getElem_cons_zero]
        (try dsimp only at hSw)
        go_simp
        first | done | (with_reducible rfl)
      simp only [List.getElem_toArray, List.getElem_cons_succ, List.getElem_cons_zero, Act.put, List.setIfInBounds_toArray, List.set_cons_zero, List.set_cons_succ]
      refine wpAnyH_take (i := 4) (v := ?_) rfl (by kernel_rfl) (by kernel_rfl) (by kernel_rfl) (fun _ _ _ h => h) (Or.inl ⟨by rfl, ?_⟩) (by assumption) ?_
      rotate_left
      · intro w hSw
        simp only [List.getElem_toArray, List.getElem_cons_succ, List.getElem_cons_zero]
        (try dsimp only at hSw)
        go_simp
        first | done | (with_reducible rfl)
      simp only [List.getElem_toArray, List.getElem_cons_succ, List.getElem_cons_zero, Act.put, List.setIfInBounds_toArray, List.set_cons_zero, List.set_cons_succ]
      refine wpAnyH_ready (rs := [5]) (by kernel_rfl) (by simp) ?_
      refine AllReadyH.cons rfl (fun K hK => ?_) AllReadyH.nil
      simp only [List.getElem_toArray, List.getElem_cons_succ, List.getElem_cons_zero]
      go_simp
      (first | (go_at_call 38; refine (l1Below_any B _ es.length _ HKd.out.cur).mono ?_; rintro e w7 ⟨z, rfl, hz0, hz1, hc, hg⟩; have HK7 := Lib.hid (HKd.out.step hc hg); have hR0 := cell_of_row w7 w.heap.size 0 _ _ _ HK7.out.r0; have hR1 := cell_of_row w7 w.heap.size 1 _ _ _ HK7.out.r0; have hR2 := cell_of_row w7 w.heap.size 2 _ _ _ HK7.out.r0; have hRf0 := frozen_of_row w7 w.heap.size 0 _ _ HK7.out.r0; have hRf1 := frozen_of_row w7 w.heap.size 1 _ _ HK7.out.r0; have hRf2 := frozen_of_row w7 w.heap.size 2 _ _ HK7.out.r0; obtain ⟨t, ht⟩ : ∃ t : Nat, z = t := ⟨z.toNat, by omega⟩; subst ht; have htl : t < es.length := (by omega); have htN : (t : Int) < (es.length : Int) := (by omega); have htx : es[t]? = some es[t] := List.getElem?_eq_getElem htl; have HER := Lib.hid (edges_range hl HES.out htx); generalize es[t] = ex at htx HER; have HTX := Lib.hid htx; clear hc hg htx) | fail)
      go_wp2_with fail
      refine hK.out _ _ ?_ (fun hHeld => ?_)
      · (try dsimp only)
        (first | exact HS5.out _ HKd.out | exact HS5.out _ HK7.out | exact HS35.out _ (HS5.out _ HK7.out))
      clear hK K
      (try simp only [List.getElem_toArray, List.getElem_cons_succ, List.getElem_cons_zero, Act.put, List.setIfInBounds_toArray, List.set_cons_zero, List.set_cons_succ])
      refine wpAnyH_take (i := 6) (v := ?_) rfl (by kernel_rfl) (by kernel_rfl) (by kernel_rfl) (fun _ _ _ h => h) (Or.inl ⟨by rfl, ?_⟩) (by assumption) ?_
      rotate_left
      · intro w hSw
        simp only [List.getElem_toArray, List.getElem_cons_succ, List.getElem_cons_zero]
        (try dsimp only at hSw)
        go_simp
        first | done | (with_reducible rfl)
      simp only [List.getElem_toArray, List.getElem_cons_succ, List.getElem_cons_zero, Act.put, List.setIfInBounds_toArray, List.set_cons_zero, List.set_cons_succ]
      refine wpAnyH_take (i := 7) (v := ?_) rfl (by kernel_rfl) (by kernel_rfl) (by kernel_rfl) (fun _ _ _ h => h) (Or.inl ⟨by rfl, ?_⟩) (by assumption) ?_
      rotate_left
      · intro w hSw
        simp only [List.getElem_toArray, List.getElem_cons_succ, List.getElem_cons_zero]
        (try dsimp only at hSw)
        obtain ⟨hs0, hs1, hs2, hs3⟩ := hSw
        obtain ⟨hc70, hc71⟩ := hs3 t ex HTX.out
        clear hs3
        go_simp
        first | done | (with_reducible rfl)
      simp only [List.getElem_toArray, List.getElem_cons_succ, List.getElem_cons_zero, Act.put, List.setIfInBounds_toArray, List.set_cons_zero, List.set_cons_succ]
      refine wpAnyH_ready (rs := [8]) (by kernel_rfl) (by simp) ?_
      refine AllReadyH.cons rfl (fun K hK => ?_) AllReadyH.nil
      simp only [List.getElem_toArray, List.getElem_cons_succ, List.getElem_cons_zero]
      go_simp
      refine hK.out _ _ ?_ (fun hHeld => ?_)
      · (try dsimp only)
        (first | exact HS5.out _ HKd.out | exact HS5.out _ HK7.out | exact HS35.out _ (HS5.out _ HK7.out))
      clear hK K
      (try simp only [List.getElem_toArray, List.getElem_cons_succ, List.getElem_cons_zero, Act.put, List.setIfInBounds_toArray, List.set_cons_zero, List.set_cons_succ])
      refine wpAnyH_done (by kernel_rfl) ?_ _
      have H8 : Hid ((((w7.setCell ⟨w.heap.size, 0, none⟩ (.int .i64 fd.params)).setCell ⟨w.heap.size, 1, none⟩ (.int .i64 fd.names)).setCell ⟨w.heap.size, 2, none⟩ (.slice A fd.blocks.length c)).heap[w.heap.size + 1]? = some (.cells #[.int .i64 0, .int .i64 0] 51 (0, 0))) := (set3_heap w7 (show w.heap.size + 1 ≠ w.heap.size by omega) _ _ _).trans HK7.out.r1
      have HR8 : Hid ((((w7.setCell ⟨w.heap.size, 0, none⟩ (.int .i64 fd.params)).setCell ⟨w.heap.size, 1, none⟩ (.int .i64 fd.names)).setCell ⟨w.heap.size, 2, none⟩ (.slice A fd.blocks.length c)).heap[w.heap.size]? = some (.cells #[.int .i64 fd.params, .int .i64 fd.names, .slice A fd.blocks.length c] 26 (0, 0))) := set3_same w7 HK7.out.r0 _ _ _
      have HE8 : Hid (EFun (((w7.setCell ⟨w.heap.size, 0, none⟩ (.int .i64 fd.params)).setCell ⟨w.heap.size, 1, none⟩ (.int .i64 fd.names)).setCell ⟨w.heap.size, 2, none⟩ (.slice A fd.blocks.length c)) (Zn.new w1.heap.size F) fd (.agg #[.int .i64 fd.params, .int .i64 fd.names, .slice A fd.blocks.length c])) := (((HK7.out.fn.set (by have := HK7.out.ge; omega) 0 _).set (by have := HK7.out.ge; omega) 1 _).set (by have := HK7.out.ge; omega) 2 _)
      have HB8 : Hid (Below w.heap.size w (((w7.setCell ⟨w.heap.size, 0, none⟩ (.int .i64 fd.params)).setCell ⟨w.heap.size, 1, none⟩ (.int .i64 fd.names)).setCell ⟨w.heap.size, 2, none⟩ (.slice A fd.blocks.length c))) := below_set (below_set (below_set HK7.out.below (Nat.le_refl _) 0 _) (Nat.le_refl _) 1 _) (Nat.le_refl _) 2 _
      have hz8 : F ≤ (((w7.setCell ⟨w.heap.size, 0, none⟩ (.int .i64 fd.params)).setCell ⟨w.heap.size, 1, none⟩ (.int .i64 fd.names)).setCell ⟨w.heap.size, 2, none⟩ (.slice A fd.blocks.length c)).heap.size := by rw [nblk_set, nblk_set, nblk_set]; have := HK7.out.ge; omega
      have hge := HK7.out.ge
      generalize (((w7.setCell ⟨w.heap.size, 0, none⟩ (.int .i64 fd.params)).setCell ⟨w.heap.size, 1, none⟩ (.int .i64 fd.names)).setCell ⟨w.heap.size, 2, none⟩ (.slice A fd.blocks.length c)) = w8 at *
      clear hR0 hR1 hR2 hRf0 hRf1 hRf2
      have e0 := cell_of_row w8 (w.heap.size + 1) 0 _ _ _ H8.out
      have e1 := cell_of_row w8 (w.heap.size + 1) 1 _ _ _ H8.out
      have ef0 := frozen_of_row w8 (w.heap.size + 1) 0 _ _ H8.out
      have ef1 := frozen_of_row w8 (w.heap.size + 1) 1 _ _ H8.out
      refine offQ_last rfl (fun KL hKL => ?_)
      go_simp
      refine hKL.out _ _ ?_
      have HR9 : Hid (((w8.setCell ⟨w.heap.size + 1, 0, none⟩ (.int .i64 ex.dst)).setCell ⟨w.heap.size + 1, 1, none⟩ (.int .i64 ex.src)).heap[w.heap.size]? = some (.cells #[.int .i64 fd.params, .int .i64 fd.names, .slice A fd.blocks.length c] 26 (0, 0))) := (Below.heap_setCell _ ⟨w.heap.size + 1, 1, none⟩ _ w.heap.size (show w.heap.size ≠ w.heap.size + 1 by omega)).trans ((Below.heap_setCell w8 ⟨w.heap.size + 1, 0, none⟩ _ w.heap.size (show w.heap.size ≠ w.heap.size + 1 by omega)).trans HR8.out)
      have HE9 : Hid (((w8.setCell ⟨w.heap.size + 1, 0, none⟩ (.int .i64 ex.dst)).setCell ⟨w.heap.size + 1, 1, none⟩ (.int .i64 ex.src)).heap[w.heap.size + 1]? = some (.cells #[.int .i64 ex.dst, .int .i64 ex.src] 51 (0, 0))) := set2_same w8 H8.out _ _
      have HF9 : Hid (EFun ((w8.setCell ⟨w.heap.size + 1, 0, none⟩ (.int .i64 ex.dst)).setCell ⟨w.heap.size + 1, 1, none⟩ (.int .i64 ex.src)) (Zn.new w1.heap.size F) fd (.agg #[.int .i64 fd.params, .int .i64 fd.names, .slice A fd.blocks.length c])) := (HE8.out.set (by omega) 0 _).set (by omega) 1 _
      have HB9 : Hid (Below w.heap.size w ((w8.setCell ⟨w.heap.size + 1, 0, none⟩ (.int .i64 ex.dst)).setCell ⟨w.heap.size + 1, 1, none⟩ (.int .i64 ex.src))) := below_set (below_set HB8.out (by omega) 0 _) (by omega) 1 _
      have hz9 : F ≤ ((w8.setCell ⟨w.heap.size + 1, 0, none⟩ (.int .i64 ex.dst)).setCell ⟨w.heap.size + 1, 1, none⟩ (.int .i64 ex.src)).heap.size := by rw [nblk_set, nblk_set]; exact hz8
      generalize (w8.setCell ⟨w.heap.size + 1, 0, none⟩ (.int .i64 ex.dst)).setCell ⟨w.heap.size + 1, 1, none⟩ (.int .i64 ex.src) = w9 at *
      clear e0 e1 ef0 ef1
      have hR0 := cell_of_row w9 w.heap.size 0 _ _ _ HR9.out
      have hR1 := cell_of_row w9 w.heap.size 1 _ _ _ HR9.out
      have hR2 := cell_of_row w9 w.heap.size 2 _ _ _ HR9.out
      have e0 := cell_of_row w9 (w.heap.size + 1) 0 _ _ _ HE9.out
      have e1 := cell_of_row w9 (w.heap.size + 1) 1 _ _ _ HE9.out
      go_wp2_with fail
      (try simp only [Exit.inBlock, Exit.then])
      refine bodyPost_ret (v := .tuple #[.agg #[.int .i64 fd.params, .int .i64 fd.names, .slice A fd.blocks.length c], .agg #[.int .i64 ex.dst, .int .i64 ex.src]]) (by simp [results, Try.results26, go_sem, hR0, hR1, hR2, e0, e1]) rfl ?_
      exact ⟨fd, _, _, _, rfl, (HF9.out.wider (by omega)).top hz9, hl, (wf_small (by have := HER.out; omega)), (wf_small (by have := HER.out; omega)), HB9.out⟩
    · obtain ⟨f0, f1, f2⟩ := HK5.out.fcells
      go_wp2_with fail
      refine (l1From_any B _ (-1) fd.blocks.length _ HK5.out.cur (by omega) (by omega) (by omega)).mono ?_
      rintro e w6 ⟨x, rfl, hx0, hx1, hc, hg⟩
      have HK6 := Lib.hid (HK5.out.step hc hg)
      have HKd := Lib.hid HK6.out.drew
      clear hc hg f0 f1 f2
      go_upto_region 7 with fail
      refine wp_region_offL (S := (fun w' => w'.cell? ⟨F, 0, none⟩ = some (.int .i64 fd.params) ∧ w'.cell? ⟨F, 1, none⟩ = some (.int .i64 fd.names) ∧ w'.cell? ⟨F, 2, none⟩ = some (.slice A fd.blocks.length c))) (by simp) (by kernel_rfl) (by kernel_rfl) (by kernel_rfl) (by kernel_rfl) (by kernel_rfl) ?_ (fun hHeld => ?_)
      · (try dsimp only)
        (first | exact HS.out _ HKd.out | exact HS.out _ HK7.out | exact HS3.out _ (HS.out _ HK7.out))
      simp only [List.dropLast_cons_cons, List.dropLast_singleton, List.length_cons, List.length_nil]
      refine wpAnyH_take (i := 0) (v := ?_) rfl (by kernel_rfl) (by kernel_rfl) (by kernel_rfl) (fun _ _ _ h => h) (Or.inl ⟨by rfl, ?_⟩) (by assumption) ?_
      rotate_left
      · intro w hSw
        simp only [List.getElem_toArray, List.getElem_cons_zero]
        (try dsimp only at hSw)
        go_simp
        first | done | (with_reducible rfl)
      simp only [List.getElem_toArray, List.getElem_cons_zero, Act.put, List.setIfInBounds_toArray, List.set_cons_zero, List.set_cons_succ]
      refine wpAnyH_take (i := 1) (v := ?_) rfl (by kernel_rfl) (by kernel_rfl) (by kernel_rfl) (fun _ _ _ h => h) (Or.inl ⟨by rfl, ?_⟩) (by assumption) ?_
      rotate_left
      · intro w hSw
        simp only [List.getElem_toArray, List.getElem_cons_succ, List.getElem_cons_zero]
        (try dsimp only at hSw)
        go_simp
        first | done | (with_reducible rfl)
      simp only [List.getElem_toArray, List.getElem_cons_succ, List.getElem_cons_zero, Act.put, List.setIfInBounds_toArray, List.set_cons_zero, List.set_cons_succ]
      refine wpAnyH_take (i := 2) (v := ?_) rfl (by kernel_rfl) (by kernel_rfl) (by kernel_rfl) (fun _ _ _ h => h) (Or.inl ⟨by rfl, ?_⟩) (by assumption) ?_
      rotate_left
      · intro w hSw
        simp only [List.getElem_toArray, List.getElem_cons_succ, List.getElem_cons_zero]
        (try dsimp only at hSw)
        go_simp
        first | done | (with_reducible rfl)
      simp only [List.getElem_toArray, List.getElem_cons_succ, List.getElem_cons_zero, Act.put, List.setIfInBounds_toArray, List.set_cons_zero, List.set_cons_succ]
      refine wpAnyH_take (i := 3) (v := ?_) rfl (by kernel_rfl) (by kernel_rfl) (by kernel_rfl) (fun _ _ _ h => h) (Or.inl ⟨by rfl, ?_⟩) (by assumption) ?_
      rotate_left
      · intro w hSw
        simp only [List.getElem_toArray, List.getElem_cons_succ, List.getElem_cons_zero]
        (try dsimp only at hSw)
        go_simp
        first | done | (with_reducible rfl)
      simp only [List.getElem_toArray, List.getElem_cons_succ, List.getElem_cons_zero, Act.put, List.setIfInBounds_toArray, List.set_cons_zero, List.set_cons_succ]
      refine wpAnyH_take (i := 4) (v := ?_) rfl (by kernel_rfl) (by kernel_rfl) (by kernel_rfl) (fun _ _ _ h => h) (Or.inl ⟨by rfl, ?_⟩) (by assumption) ?_
      rotate_left
      · intro w hSw
        simp only [List.getElem_toArray, List.getElem_cons_succ, List.getElem_cons_zero]
        (try dsimp only at hSw)
        go_simp
        first | done | (with_reducible rfl)
      simp only [List.getElem_toArray, List.getElem_cons_succ, List.getElem_cons_zero, Act.put, List.setIfInBounds_toArray, List.set_cons_zero, List.set_cons_succ]
      refine wpAnyH_take (i := 5) (v := ?_) rfl (by kernel_rfl) (by kernel_rfl) (by kernel_rfl) (fun _ _ _ h => h) (Or.inl ⟨by rfl, ?_⟩) (by assumption) ?_
      rotate_left
      · intro w hSw
        simp only [List.getElem_toArray, List.getElem_cons_succ, List.getElem_cons_zero]
        (try dsimp only at hSw)
        go_simp
        first | done | (with_reducible rfl)
      simp only [List.getElem_toArray, List.getElem_cons_succ, List.getElem_cons_zero, Act.put, List.setIfInBounds_toArray, List.set_cons_zero, List.set_cons_succ]
      refine wpAnyH_ready (rs := [6]) (by kernel_rfl) (by simp) ?_
      refine AllReadyH.cons rfl (fun K hK => ?_) AllReadyH.nil
      simp only [List.getElem_toArray, List.getElem_cons_succ, List.getElem_cons_zero]
      go_simp
      (first | (go_at_call 37; refine (l1From_any B _ (-1) fd.blocks.length _ HKd.out.cur (by omega) (by omega) (by omega)).mono ?_; rintro e w7 ⟨y, rfl, hy0, hy1, hc, hg⟩; have HK7 := Lib.hid (HKd.out.step hc hg); have hR0 := cell_of_row w7 w.heap.size 0 _ _ _ HK7.out.r0; have hR1 := cell_of_row w7 w.heap.size 1 _ _ _ HK7.out.r0; have hR2 := cell_of_row w7 w.heap.size 2 _ _ _ HK7.out.r0; have hRf0 := frozen_of_row w7 w.heap.size 0 _ _ HK7.out.r0; have hRf1 := frozen_of_row w7 w.heap.size 1 _ _ HK7.out.r0; have hRf2 := frozen_of_row w7 w.heap.size 2 _ _ HK7.out.r0; clear hc hg) | fail)
      go_wp2_with fail
      refine hK.out _ _ ?_ (fun hHeld => ?_)
      · (try dsimp only)
        (first | exact HS.out _ HKd.out | exact HS.out _ HK7.out | exact HS3.out _ (HS.out _ HK7.out))
      clear hK K
      (try simp only [List.getElem_toArray, List.getElem_cons_succ, List.getElem_cons_zero, Act.put, List.setIfInBounds_toArray, List.set_cons_zero, List.set_cons_succ])
      refine wpAnyH_take (i := 7) (v := ?_) rfl (by kernel_rfl) (by kernel_rfl) (by kernel_rfl) (fun _ _ _ h => h) (Or.inl ⟨by rfl, ?_⟩) (by assumption) ?_
      rotate_left
      · intro w hSw
        simp only [List.getElem_toArray, List.getElem_cons_succ, List.getElem_cons_zero]
        (try dsimp only at hSw)
        go_simp
        first | done | (with_reducible rfl)
      simp only [List.getElem_toArray, List.getElem_cons_succ, List.getElem_cons_zero, Act.put, List.setIfInBounds_toArray, List.set_cons_zero, List.set_cons_succ]
      refine wpAnyH_ready (rs := [8]) (by kernel_rfl) (by simp) ?_
      refine AllReadyH.cons rfl (fun K hK => ?_) AllReadyH.nil
      simp only [List.getElem_toArray, List.getElem_cons_succ, List.getElem_cons_zero]
      go_simp
      refine hK.out _ _ ?_ (fun hHeld => ?_)
      · (try dsimp only)
        (first | exact HS.out _ HKd.out | exact HS.out _ HK7.out | exact HS3.out _ (HS.out _ HK7.out))
      clear hK K
      (try simp only [List.getElem_toArray, List.getElem_cons_succ, List.getElem_cons_zero, Act.put, List.setIfInBounds_toArray, List.set_cons_zero, List.set_cons_succ])
      refine wpAnyH_done (by kernel_rfl) ?_ _
      have H8 : Hid ((((w7.setCell ⟨w.heap.size, 0, none⟩ (.int .i64 fd.params)).setCell ⟨w.heap.size, 1, none⟩ (.int .i64 fd.names)).setCell ⟨w.heap.size, 2, none⟩ (.slice A fd.blocks.length c)).heap[w.heap.size + 1]? = some (.cells #[.int .i64 0, .int .i64 0] 51 (0, 0))) := (set3_heap w7 (show w.heap.size + 1 ≠ w.heap.size by omega) _ _ _).trans HK7.out.r1
      have HR8 : Hid ((((w7.setCell ⟨w.heap.size, 0, none⟩ (.int .i64 fd.params)).setCell ⟨w.heap.size, 1, none⟩ (.int .i64 fd.names)).setCell ⟨w.heap.size, 2, none⟩ (.slice A fd.blocks.length c)).heap[w.heap.size]? = some (.cells #[.int .i64 fd.params, .int .i64 fd.names, .slice A fd.blocks.length c] 26 (0, 0))) := set3_same w7 HK7.out.r0 _ _ _
      have HE8 : Hid (EFun (((w7.setCell ⟨w.heap.size, 0, none⟩ (.int .i64 fd.params)).setCell ⟨w.heap.size, 1, none⟩ (.int .i64 fd.names)).setCell ⟨w.heap.size, 2, none⟩ (.slice A fd.blocks.length c)) (Zn.new w1.heap.size F) fd (.agg #[.int .i64 fd.params, .int .i64 fd.names, .slice A fd.blocks.length c])) := (((HK7.out.fn.set (by have := HK7.out.ge; omega) 0 _).set (by have := HK7.out.ge; omega) 1 _).set (by have := HK7.out.ge; omega) 2 _)
      have HB8 : Hid (Below w.heap.size w (((w7.setCell ⟨w.heap.size, 0, none⟩ (.int .i64 fd.params)).setCell ⟨w.heap.size, 1, none⟩ (.int .i64 fd.names)).setCell ⟨w.heap.size, 2, none⟩ (.slice A fd.blocks.length c))) := below_set (below_set (below_set HK7.out.below (Nat.le_refl _) 0 _) (Nat.le_refl _) 1 _) (Nat.le_refl _) 2 _
      have hz8 : F ≤ (((w7.setCell ⟨w.heap.size, 0, none⟩ (.int .i64 fd.params)).setCell ⟨w.heap.size, 1, none⟩ (.int .i64 fd.names)).setCell ⟨w.heap.size, 2, none⟩ (.slice A fd.blocks.length c)).heap.size := by rw [nblk_set, nblk_set, nblk_set]; have := HK7.out.ge; omega
      have hge := HK7.out.ge
      generalize (((w7.setCell ⟨w.heap.size, 0, none⟩ (.int .i64 fd.params)).setCell ⟨w.heap.size, 1, none⟩ (.int .i64 fd.names)).setCell ⟨w.heap.size, 2, none⟩ (.slice A fd.blocks.length c)) = w8 at *
      clear hR0 hR1 hR2 hRf0 hRf1 hRf2
      have e0 := cell_of_row w8 (w.heap.size + 1) 0 _ _ _ H8.out
      have e1 := cell_of_row w8 (w.heap.size + 1) 1 _ _ _ H8.out
      have ef0 := frozen_of_row w8 (w.heap.size + 1) 0 _ _ H8.out
      have ef1 := frozen_of_row w8 (w.heap.size + 1) 1 _ _ H8.out
      refine offQ_last rfl (fun KL hKL => ?_)
      go_simp
      refine hKL.out _ _ ?_
      have HR9 : Hid (((w8.setCell ⟨w.heap.size + 1, 0, none⟩ (.int .i64 x)).setCell ⟨w.heap.size + 1, 1, none⟩ (.int .i64 y)).heap[w.heap.size]? = some (.cells #[.int .i64 fd.params, .int .i64 fd.names, .slice A fd.blocks.length c] 26 (0, 0))) := (Below.heap_setCell _ ⟨w.heap.size + 1, 1, none⟩ _ w.heap.size (show w.heap.size ≠ w.heap.size + 1 by omega)).trans ((Below.heap_setCell w8 ⟨w.heap.size + 1, 0, none⟩ _ w.heap.size (show w.heap.size ≠ w.heap.size + 1 by omega)).trans HR8.out)
      have HE9 : Hid (((w8.setCell ⟨w.heap.size + 1, 0, none⟩ (.int .i64 x)).setCell ⟨w.heap.size + 1, 1, none⟩ (.int .i64 y)).heap[w.heap.size + 1]? = some (.cells #[.int .i64 x, .int .i64 y] 51 (0, 0))) := set2_same w8 H8.out _ _
      have HF9 : Hid (EFun ((w8.setCell ⟨w.heap.size + 1, 0, none⟩ (.int .i64 x)).setCell ⟨w.heap.size + 1, 1, none⟩ (.int .i64 y)) (Zn.new w1.heap.size F) fd (.agg #[.int .i64 fd.params, .int .i64 fd.names, .slice A fd.blocks.length c])) := (HE8.out.set (by omega) 0 _).set (by omega) 1 _
      have HB9 : Hid (Below w.heap.size w ((w8.setCell ⟨w.heap.size + 1, 0, none⟩ (.int .i64 x)).setCell ⟨w.heap.size + 1, 1, none⟩ (.int .i64 y))) := below_set (below_set HB8.out (by omega) 0 _) (by omega) 1 _
      have hz9 : F ≤ ((w8.setCell ⟨w.heap.size + 1, 0, none⟩ (.int .i64 x)).setCell ⟨w.heap.size + 1, 1, none⟩ (.int .i64 y)).heap.size := by rw [nblk_set, nblk_set]; exact hz8
      generalize (w8.setCell ⟨w.heap.size + 1, 0, none⟩ (.int .i64 x)).setCell ⟨w.heap.size + 1, 1, none⟩ (.int .i64 y) = w9 at *
      clear e0 e1 ef0 ef1
      have hR0 := cell_of_row w9 w.heap.size 0 _ _ _ HR9.out
      have hR1 := cell_of_row w9 w.heap.size 1 _ _ _ HR9.out
      have hR2 := cell_of_row w9 w.heap.size 2 _ _ _ HR9.out
      have e0 := cell_of_row w9 (w.heap.size + 1) 0 _ _ _ HE9.out
      have e1 := cell_of_row w9 (w.heap.size + 1) 1 _ _ _ HE9.out
      go_wp2_with fail
      (try simp only [Exit.inBlock, Exit.then])
      refine bodyPost_ret (v := .tuple #[.agg #[.int .i64 fd.params, .int .i64 fd.names, .slice A fd.blocks.length c], .agg #[.int .i64 x, .int .i64 y]]) (by simp [results, Try.results26, go_sem, hR0, hR1, hR2, e0, e1]) rfl ?_
      exact ⟨fd, _, _, _, rfl, (HF9.out.wider (by omega)).top hz9, hl, (wf_small (by omega)), (wf_small (by omega)), HB9.out⟩
  · have hd0 : decide (0 < es.length) = false := by simpa using hes0
    obtain ⟨f0, f1, f2⟩ := HK4.out.fcells
    go_wp2_with fail
    refine (l1From_any B _ (-1) fd.blocks.length _ HK4.out.cur (by omega) (by omega) (by omega)).mono ?_
    rintro e w6 ⟨x, rfl, hx0, hx1, hc, hg⟩
    have HK6 := Lib.hid (HK4.out.step hc hg)
    have HKd := Lib.hid HK6.out.drew
    clear hc hg f0 f1 f2
    go_upto_region 7 with fail
    refine wp_region_offL (S := (fun w' => w'.cell? ⟨F, 0, none⟩ = some (.int .i64 fd.params) ∧ w'.cell? ⟨F, 1, none⟩ = some (.int .i64 fd.names) ∧ w'.cell? ⟨F, 2, none⟩ = some (.slice A fd.blocks.length c))) (by simp) (by kernel_rfl) (by kernel_rfl) (by kernel_rfl) (by kernel_rfl) (by kernel_rfl) ?_ (fun hHeld => ?_)
    · (try dsimp only)
      (first | exact HS.out _ HKd.out | exact HS.out _ HK7.out | exact HS3.out _ (HS.out _ HK7.out))
    simp only [List.dropLast_cons_cons, List.dropLast_singleton, List.length_cons, List.length_nil]
    refine wpAnyH_take (i := 0) (v := ?_) rfl (by kernel_rfl) (by kernel_rfl) (by kernel_rfl) (fun _ _ _ h => h) (Or.inl ⟨by rfl, ?_⟩) (by assumption) ?_
    rotate_left
    · intro w hSw
      simp only [List.getElem_toArray, List.getElem_cons_zero]
      (try dsimp only at hSw)
      go_simp
      first | done | (with_reducible rfl)
    simp only [List.getElem_toArray, List.getElem_cons_zero, Act.put, List.setIfInBounds_toArray, List.set_cons_zero, List.set_cons_succ]
    refine wpAnyH_take (i := 1) (v := ?_) rfl (by kernel_rfl) (by kernel_rfl) (by kernel_rfl) (fun _ _ _ h => h) (Or.inl ⟨by rfl, ?_⟩) (by assumption) ?_
    rotate_left
    · intro w hSw
      simp only [List.getElem_toArray, List.getElem_cons_succ, List.getElem_cons_zero]
      (try dsimp only at hSw)
      go_simp
      first | done | (with_reducible rfl)
    simp only [List.getElem_toArray, List.getElem_cons_succ, List.getElem_cons_zero, Act.put, List.setIfInBounds_toArray, List.set_cons_zero, List.set_cons_succ]
    refine wpAnyH_take (i := 2) (v := ?_) rfl (by kernel_rfl) (by kernel_rfl) (by kernel_rfl) (fun _ _ _ h => h) (Or.inl ⟨by rfl, ?_⟩) (by assumption) ?_
    rotate_left
    · intro w hSw
      simp only [List.getElem_toArray, List.getElem_cons_succ, List.getElem_cons_zero]
      (try dsimp only at hSw)
      go_simp
      first | done | (with_reducible rfl)
    simp only [List.getElem_toArray, List.getElem_cons_succ, List.getElem_cons_zero, Act.put, List.setIfInBounds_toArray, List.set_cons_zero, List.set_cons_succ]
    refine wpAnyH_take (i := 3) (v := ?_) rfl (by kernel_rfl) (by kernel_rfl) (by kernel_rfl) (fun _ _ _ h => h) (Or.inl ⟨by rfl, ?_⟩) (by assumption) ?_
    rotate_left
    · intro w hSw
      simp only [List.getElem_toArray, List.getElem_cons_succ, List.getElem_cons_zero]
      (try dsimp only at hSw)
      go_simp
      first | done | (with_reducible rfl)
    simp only [List.getElem_toArray, List.getElem_cons_succ, List.getElem_cons_zero, Act.put, List.setIfInBounds_toArray, List.set_cons_zero, List.set_cons_succ]
    refine wpAnyH_take (i := 4) (v := ?_) rfl (by kernel_rfl) (by kernel_rfl) (by kernel_rfl) (fun _ _ _ h => h) (Or.inl ⟨by rfl, ?_⟩) (by assumption) ?_
    rotate_left
    · intro w hSw
      simp only [List.getElem_toArray, List.getElem_cons_succ, List.getElem_cons_zero]
      (try dsimp only at hSw)
      go_simp
      first | done | (with_reducible rfl)
    simp only [List.getElem_toArray, List.getElem_cons_succ, List.getElem_cons_zero, Act.put, List.setIfInBounds_toArray, List.set_cons_zero, List.set_cons_succ]
    refine wpAnyH_take (i := 5) (v := ?_) rfl (by kernel_rfl) (by kernel_rfl) (by kernel_rfl) (fun _ _ _ h => h) (Or.inl ⟨by rfl, ?_⟩) (by assumption) ?_
    rotate_left
    · intro w hSw
      simp only [List.getElem_toArray, List.getElem_cons_succ, List.getElem_cons_zero]
      (try dsimp only at hSw)
      go_simp
      first | done | (with_reducible rfl)
    simp only [List.getElem_toArray, List.getElem_cons_succ, List.getElem_cons_zero, Act.put, List.setIfInBounds_toArray, List.set_cons_zero, List.set_cons_succ]
    refine wpAnyH_ready (rs := [6]) (by kernel_rfl) (by simp) ?_
    refine AllReadyH.cons rfl (fun K hK => ?_) AllReadyH.nil
    simp only [List.getElem_toArray, List.getElem_cons_succ, List.getElem_cons_zero]
    go_simp
    (first | (go_at_call 37; refine (l1From_any B _ (-1) fd.blocks.length _ HKd.out.cur (by omega) (by omega) (by omega)).mono ?_; rintro e w7 ⟨y, rfl, hy0, hy1, hc, hg⟩; have HK7 := Lib.hid (HKd.out.step hc hg); have hR0 := cell_of_row w7 w.heap.size 0 _ _ _ HK7.out.r0; have hR1 := cell_of_row w7 w.heap.size 1 _ _ _ HK7.out.r0; have hR2 := cell_of_row w7 w.heap.size 2 _ _ _ HK7.out.r0; have hRf0 := frozen_of_row w7 w.heap.size 0 _ _ HK7.out.r0; have hRf1 := frozen_of_row w7 w.heap.size 1 _ _ HK7.out.r0; have hRf2 := frozen_of_row w7 w.heap.size 2 _ _ HK7.out.r0; clear hc hg) | fail)
    go_wp2_with fail
    refine hK.out _ _ ?_ (fun hHeld => ?_)
    · (try dsimp only)
      (first | exact HS.out _ HKd.out | exact HS.out _ HK7.out | exact HS3.out _ (HS.out _ HK7.out))
    clear hK K
    (try simp only [List.getElem_toArray, List.getElem_cons_succ, List.getElem_cons_zero, Act.put, List.setIfInBounds_toArray, List.set_cons_zero, List.set_cons_succ])
    refine wpAnyH_take (i := 7) (v := ?_) rfl (by kernel_rfl) (by kernel_rfl) (by kernel_rfl) (fun _ _ _ h => h) (Or.inl ⟨by rfl, ?_⟩) (by assumption) ?_
    rotate_left
    · intro w hSw
      simp only [List.getElem_toArray, List.getElem_cons_succ, List.getElem_cons_zero]
      (try dsimp only at hSw)
      go_simp
      first | done | (with_reducible rfl)
    simp only [List.getElem_toArray, List.getElem_cons_succ, List.getElem_cons_zero, Act.put, List.setIfInBounds_toArray, List.set_cons_zero, List.set_cons_succ]
    refine wpAnyH_ready (rs := [8]) (by kernel_rfl) (by simp) ?_
    refine AllReadyH.cons rfl (fun K hK => ?_) AllReadyH.nil
    simp only [List.getElem_toArray, List.getElem_cons_succ, List.getElem_cons_zero]
    go_simp
    refine hK.out _ _ ?_ (fun hHeld => ?_)
    · (try dsimp only)
      (first | exact HS.out _ HKd.out | exact HS.out _ HK7.out | exact HS3.out _ (HS.out _ HK7.out))
    clear hK K
    (try simp only [List.getElem_toArray, List.getElem_cons_succ, List.getElem_cons_zero, Act.put, List.setIfInBounds_toArray, List.set_cons_zero, List.set_cons_succ])
    refine wpAnyH_done (by kernel_rfl) ?_ _
    have H8 : Hid ((((w7.setCell ⟨w.heap.size, 0, none⟩ (.int .i64 fd.params)).setCell ⟨w.heap.size, 1, none⟩ (.int .i64 fd.names)).setCell ⟨w.heap.size, 2, none⟩ (.slice A fd.blocks.length c)).heap[w.heap.size + 1]? = some (.cells #[.int .i64 0, .int .i64 0] 51 (0, 0))) := (set3_heap w7 (show w.heap.size + 1 ≠ w.heap.size by omega) _ _ _).trans HK7.out.r1
    have HR8 : Hid ((((w7.setCell ⟨w.heap.size, 0, none⟩ (.int .i64 fd.params)).setCell ⟨w.heap.size, 1, none⟩ (.int .i64 fd.names)).setCell ⟨w.heap.size, 2, none⟩ (.slice A fd.blocks.length c)).heap[w.heap.size]? = some (.cells #[.int .i64 fd.params, .int .i64 fd.names, .slice A fd.blocks.length c] 26 (0, 0))) := set3_same w7 HK7.out.r0 _ _ _
    have HE8 : Hid (EFun (((w7.setCell ⟨w.heap.size, 0, none⟩ (.int .i64 fd.params)).setCell ⟨w.heap.size, 1, none⟩ (.int .i64 fd.names)).setCell ⟨w.heap.size, 2, none⟩ (.slice A fd.blocks.length c)) (Zn.new w1.heap.size F) fd (.agg #[.int .i64 fd.params, .int .i64 fd.names, .slice A fd.blocks.length c])) := (((HK7.out.fn.set (by have := HK7.out.ge; omega) 0 _).set (by have := HK7.out.ge; omega) 1 _).set (by have := HK7.out.ge; omega) 2 _)
    have HB8 : Hid (Below w.heap.size w (((w7.setCell ⟨w.heap.size, 0, none⟩ (.int .i64 fd.params)).setCell ⟨w.heap.size, 1, none⟩ (.int .i64 fd.names)).setCell ⟨w.heap.size, 2, none⟩ (.slice A fd.blocks.length c))) := below_set (below_set (below_set HK7.out.below (Nat.le_refl _) 0 _) (Nat.le_refl _) 1 _) (Nat.le_refl _) 2 _
    have hz8 : F ≤ (((w7.setCell ⟨w.heap.size, 0, none⟩ (.int .i64 fd.params)).setCell ⟨w.heap.size, 1, none⟩ (.int .i64 fd.names)).setCell ⟨w.heap.size, 2, none⟩ (.slice A fd.blocks.length c)).heap.size := by rw [nblk_set, nblk_set, nblk_set]; have := HK7.out.ge; omega
    have hge := HK7.out.ge
    generalize (((w7.setCell ⟨w.heap.size, 0, none⟩ (.int .i64 fd.params)).setCell ⟨w.heap.size, 1, none⟩ (.int .i64 fd.names)).setCell ⟨w.heap.size, 2, none⟩ (.slice A fd.blocks.length c)) = w8 at *
    clear hR0 hR1 hR2 hRf0 hRf1 hRf2
    have e0 := cell_of_row w8 (w.heap.size + 1) 0 _ _ _ H8.out
    have e1 := cell_of_row w8 (w.heap.size + 1) 1 _ _ _ H8.out
    have ef0 := frozen_of_row w8 (w.heap.size + 1) 0 _ _ H8.out
    have ef1 := frozen_of_row w8 (w.heap.size + 1) 1 _ _ H8.out
    refine offQ_last rfl (fun KL hKL => ?_)
    go_simp
    refine hKL.out _ _ ?_
    have HR9 : Hid (((w8.setCell ⟨w.heap.size + 1, 0, none⟩ (.int .i64 x)).setCell ⟨w.heap.size + 1, 1, none⟩ (.int .i64 y)).heap[w.heap.size]? = some (.cells #[.int .i64 fd.params, .int .i64 fd.names, .slice A fd.blocks.length c] 26 (0, 0))) := (Below.heap_setCell _ ⟨w.heap.size + 1, 1, none⟩ _ w.heap.size (show w.heap.size ≠ w.heap.size + 1 by omega)).trans ((Below.heap_setCell w8 ⟨w.heap.size + 1, 0, none⟩ _ w.heap.size (show w.heap.size ≠ w.heap.size + 1 by omega)).trans HR8.out)
    have HE9 : Hid (((w8.setCell ⟨w.heap.size + 1, 0, none⟩ (.int .i64 x)).setCell ⟨w.heap.size + 1, 1, none⟩ (.int .i64 y)).heap[w.heap.size + 1]? = some (.cells #[.int .i64 x, .int .i64 y] 51 (0, 0))) := set2_same w8 H8.out _ _
    have HF9 : Hid (EFun ((w8.setCell ⟨w.heap.size + 1, 0, none⟩ (.int .i64 x)).setCell ⟨w.heap.size + 1, 1, none⟩ (.int .i64 y)) (Zn.new w1.heap.size F) fd (.agg #[.int .i64 fd.params, .int .i64 fd.names, .slice A fd.blocks.length c])) := (HE8.out.set (by omega) 0 _).set (by omega) 1 _
    have HB9 : Hid (Below w.heap.size w ((w8.setCell ⟨w.heap.size + 1, 0, none⟩ (.int .i64 x)).setCell ⟨w.heap.size + 1, 1, none⟩ (.int .i64 y))) := below_set (below_set HB8.out (by omega) 0 _) (by omega) 1 _
    have hz9 : F ≤ ((w8.setCell ⟨w.heap.size + 1, 0, none⟩ (.int .i64 x)).setCell ⟨w.heap.size + 1, 1, none⟩ (.int .i64 y)).heap.size := by rw [nblk_set, nblk_set]; exact hz8
    generalize (w8.setCell ⟨w.heap.size + 1, 0, none⟩ (.int .i64 x)).setCell ⟨w.heap.size + 1, 1, none⟩ (.int .i64 y) = w9 at *
    clear e0 e1 ef0 ef1
    have hR0 := cell_of_row w9 w.heap.size 0 _ _ _ HR9.out
    have hR1 := cell_of_row w9 w.heap.size 1 _ _ _ HR9.out
    have hR2 := cell_of_row w9 w.heap.size 2 _ _ _ HR9.out
    have e0 := cell_of_row w9 (w.heap.size + 1) 0 _ _ _ HE9.out
    have e1 := cell_of_row w9 (w.heap.size + 1) 1 _ _ _ HE9.out
    go_wp2_with fail
    (try simp only [Exit.inBlock, Exit.then])
    refine bodyPost_ret (v := .tuple #[.agg #[.int .i64 fd.params, .int .i64 fd.names, .slice A fd.blocks.length c], .agg #[.int .i64 x, .int .i64 y]]) (by simp [results, Try.results26, go_sem, hR0, hR1, hR2, e0, e1]) rfl ?_
    exact ⟨fd, _, _, _, rfl, (HF9.out.wider (by omega)).top hz9, hl, (wf_small (by omega)), (wf_small (by omega)), HB9.out⟩
end

end Go.Proofs.Yteikpekffgifoaa
