/- Dr7, joined. -/
import Derived.Test.YteikpekffgifoaaDoorDm18
import Derived.Test.YteikpekffgifoaaDoorDm19
namespace Go.Proofs.YteikpekffgifoaaDoor

/- l2Draw of the model. -/
section
open Go.ChangeShapes Go.WideShapes Go.ChangeAt Go.RowKit Go.Joins

attribute [local go_sem ↓] Go.wp_at_zero Go.wp_at_succ

def GivesDraw (w : World) (Bc g : Nat) (L0 : Nat → List Nat) (e : Ending) (w' : World) : Prop :=
  ∃ (L' : Nat → List Nat) (ph nm : Int) (G n c : Nat) (bl : List BlockD), e = .returned (.agg #[.int .i64 ph, .int .i64 nm, .slice (some ⟨G, 0, none⟩) n c]) ∧ LExt w L0 L' ∧ Wr (fun p => p ≠ [8]) L0 w w' ∧ DSta w' Bc g L' ∧ LBl w' w.heap.size L' (.slice (some ⟨G, 0, none⟩) n c) bl ∧
    bl.length = n ∧ 1 ≤ n ∧ n ≤ 6 ∧ 1 ≤ ph ∧ ph ≤ 2 ∧ 0 ≤ nm ∧ nm ≤ 1000 ∧ ∀ (k : Nat) x, bl[k]? = some x → EndT n x.fin ∧ x.phis.length ≤ 10000 ∧ x.body.length ≤ 10000 ∧ x.tail.length ≤ 10000

theorem all_snoc {α : Type} {P : α → Prop} {xs : List α} {y : α} (h : ∀ (i : Nat) x, xs[i]? = some x → P x) (hy : P y) : ∀ (i : Nat) x, (xs ++ [y])[i]? = some x → P x := fun i x hx => by
  rcases Nat.lt_trichotomy i xs.length with h' | h' | h'
  · rw [List.getElem?_append_left h'] at hx; exact h i x hx
  · subst h'
    rw [List.getElem?_append_right (Nat.le_refl _), Nat.sub_self] at hx
    simp at hx
    subst hx
    exact hy
  · rw [List.getElem?_eq_none (by simp; omega)] at hx; cases hx

theorem snoc_wr {α : Type} {w wa w9 : World} {B : Nat} {T : TypeId} {S : Nat} {L : Nat → List Nat} {p : List Nat} {E : Nat → α → List Value → Prop} {X : List α} {cs : List Value} {gg cap : Nat} (hwa : Wr (fun _ => False) L w wa) (hs : Snoc wa w9 B T S L p E X cs gg cap) :
    Wr (· = p) L w w9 ∧ LExt w L (relab L wa.heap.size p) :=
  ⟨(hwa.mono fun _ h => h.elim).trans hs.wr (LExt.refl _ _), fun j hj => relab_ext wa L p j (Nat.lt_of_lt_of_le hj hwa.size)⟩

theorem hout15 {w w' : World} {q : Nat} {o : Obj} {L : Nat → List Nat} (h : Hid (w.heap[q]? = some o)) (hw : Wr (· = [9]) L w w') (hl : L q = [15]) : w'.heap[q]? = some o :=
  (hw.block q (Array.getElem?_eq_some_iff.1 h.out).1 (by rw [hl]; simp)).trans h.out

def Bare (n : Int) (x : BlockD) : Prop := x.phis = [] ∧ x.body = [] ∧ x.tail = [] ∧ EndT n x.fin
/-- Block k, where the blocks below b are filled. -/
def Fld (n : Int) (b k : Nat) (x : BlockD) : Prop := EndT n x.fin ∧ (b ≤ k → x.phis = [] ∧ x.body = []) ∧ x.tail = [] ∧ x.phis.length ≤ 10000 ∧ x.body.length ≤ 10000
theorem fld_bare {n : Int} {b k : Nat} {x : BlockD} (h : Bare n x) : Fld n b k x := ⟨h.2.2.2, fun _ => ⟨h.1, h.2.1⟩, h.2.2.1, by rw [h.1]; exact Nat.zero_le _, by rw [h.2.1]; exact Nat.zero_le _⟩

set_option maxRecDepth 10000 in
set_option maxHeartbeats 20000000 in
theorem l2Draw_any (w : World) (Bc g : Nat) (L0 : Nat → List Nat) (hd : DSta w Bc g L0) : Calls Tryd.prog 52 #[.pointer (some ⟨g, 0, none⟩)] w (GivesDraw w Bc g L0) := by
  have HE0 := Lib.hid (relab_ext w L0 [15])
  have HD0 : Hid (DSta (w.alloc (.cells #[.int .i64 0, .int .i64 0, .slice none 0 0] 26)) Bc g (relab L0 w.heap.size [15])) := hd.keep (wr_alloc w L0 _) HE0.out (fun h => h) fun h => h
  have HR0 := Lib.hid (heap_alloc_new w (.cells #[.int .i64 0, .int .i64 0, .slice none 0 0] 26))
  have hl0 : relab L0 w.heap.size [15] w.heap.size = [15] := relab_new _ (Nat.le_refl _)
  have HW0 : Hid (Wr (fun p => p ≠ [8]) L0 w (w.alloc (.cells #[.int .i64 0, .int .i64 0, .slice none 0 0] 26))) := (wr_alloc w L0 _).mono fun _ h => h.elim
  clear hd
  go_enter Tryd.func52, Tryd.ntmps52
  go_wp2_with fail
  generalize w.alloc (.cells #[.int .i64 0, .int .i64 0, .slice none 0 0] 26) = w1 at *
  generalize relab L0 w.heap.size [15] = L1 at *
  refine (below_st 6 _ Bc g _ HD0.out (by omega)).mono ?_
  rintro e w2 ⟨x6, rfl, hx60, hx61, hd2, hw2⟩
  have HD2 := Lib.hid hd2
  have HW2 := Lib.hid hw2
  clear hd2 hw2
  go_wp2_with fail
  refine (below_st 2 _ Bc g _ HD2.out (by omega)).mono ?_
  rintro e w3 ⟨x2, rfl, hx20, hx21, hd3, hw3⟩
  have hw13 := HW2.out.trans hw3 (LExt.refl _ _)
  have HR3 := Lib.hid (hout15 HR0 hw13 hl0)
  have HW3 := Lib.hid (HW0.out.trans (hw13.mono (Q := fun p => p ≠ [8]) fun p hp => by rw [hp]; simp) HE0.out)
  have HD3 := Lib.hid hd3
  clear hd3 hw3 HD0 HW0 HR0 HD2 HW2 hw13
  go_wp2_with fail
  obtain ⟨ph, hph⟩ : ∃ ph, ph = 1 + x2 := ⟨_, rfl⟩
  have hph1 : 1 ≤ ph ∧ ph ≤ 2 := by omega
  rw [← hph]
  clear hph hx20 hx21
  obtain ⟨n, hn⟩ : ∃ n : Nat, 1 + x6 = (n : Int) := ⟨(1 + x6).toNat, by omega⟩
  have hn1 : 1 ≤ n := by omega
  have hn6 : n ≤ 6 := by omega
  rw [hn]
  clear hn hx60 hx61
  have hE4 := relab_ext w3 L1 [17]
  have HG4 : Hid (GSt w (w3.alloc (.cells #[.int .i64 ph, .int .i64 ph, .slice none 0 0] 26)) Bc g w.heap.size w3.heap.size L0 (relab L1 w3.heap.size [17]) ph ph (.slice none 0 0) []) := by
    have hlt := (Array.getElem?_eq_some_iff.1 HR3.out).1
    exact ⟨HE0.out.trans hE4 HW3.out.size, HW3.out.trans ((wr_alloc w3 L1 _).mono fun _ h => h.elim) HE0.out, HD3.out.keep (wr_alloc w3 L1 _) hE4 (fun h => h) (fun h => h), LR.nil _ _ _ _ _ _ _, heap_alloc_new w3 _,
      (Below.heap_alloc w3 _ _ hlt).trans HR3.out, (hE4 _ hlt).trans hl0, relab_new _ (Nat.le_refl _), Nat.le_refl _, HW3.out.size⟩
  refine (l2DrawEnds_any n _ Bc g _ HG4.out.sta hn1 hn6).mono ?_
  rintro e w5 ⟨r, es, rfl, hes, het, hor, hd5, hw5⟩
  have HG5 := Lib.hid (HG4.out.keep hw5 (relab_ext _ _ _) (fun p hp => by rcases hp with e | e <;> simp [e]) hd5)
  have HEN := Lib.hid hor
  have HET := Lib.hid het
  have hBE : w.heap.size ≤ (w3.alloc (.cells #[.int .i64 ph, .int .i64 ph, .slice none 0 0] 26)).heap.size := HG4.out.wr.size
  clear HG4 hd5 hw5 hor het hE4 HD3 HR3 HW3 hl0 HE0
  generalize relab (relab L1 w3.heap.size [17]) (w3.alloc (.cells #[.int .i64 ph, .int .i64 ph, .slice none 0 0] 26)).heap.size [11] = L5 at *
  generalize (w3.alloc (.cells #[.int .i64 ph, .int .i64 ph, .slice none 0 0] 26)).heap.size = BE at *
  generalize w3.heap.size = q4 at *
  obtain ⟨Ae, ce, rfl, hAe⟩ := HEN.out.form
  subst hes
  obtain ⟨ge, rfl, _⟩ := hAe (by rintro rfl; simp at hn1)
  clear hAe
  go_wp2_with fail
  go_loopw [6] (fun iv wr => ∃ (L : Nat → List Nat) (bv : Value) (bl : List BlockD), iv = .int .i64 bl.length ∧ bl.length ≤ es.length ∧ Hid (GSt w wr Bc g w.heap.size q4 L0 L ph ph bv bl) ∧ Hid (∀ (k : Nat) x, bl[k]? = some x → Bare es.length x) ∧ Hid (LR wr BE 69 4 L [11] (fun _ => EEnd) (.slice (some ⟨ge, 0, none⟩) es.length ce) es)) (fun iv _ => es.length - (intOf iv).toNat)
  case atStart => exact ⟨L5, _, [], rfl, Nat.zero_le _, HG5.out, fun k x hx => by simp at hx, HEN.out⟩
  case round =>
    obtain ⟨L, bv, bl, rfl, hble, HG, HBA, HEN⟩ := hrel
    by_cases hlt : bl.length < es.length
    · have hlt' : (bl.length : Int) < (es.length : Int) := by omega
      have hex : es[bl.length]? = some es[bl.length] := List.getElem?_eq_getElem hlt
      have HETx := Lib.hid (HET.out _ _ hex)
      generalize es[bl.length] = ex at hex HETx
      obtain ⟨cs, hcs0, _, hcs⟩ := LR.get HEN.out hex
      have hcs0 : cs = [.int .i64 ex.k, .int .i64 ex.a, .int .i64 ex.t, .int .i64 ex.l] := hcs0
      subst hcs0
      have c0 := (hcs 0 _ rfl).1
      have c1 := (hcs 1 _ rfl).1
      have c2 := (hcs 2 _ rfl).1
      have c3 := (hcs 3 _ rfl).1
      rw [Nat.add_zero] at c0
      clear hcs hex
      obtain ⟨f0, f1, f2, ff⟩ := HG.out.cells
      have ff2 := ff 2
      clear ff
      have hq4 := HG.out.lt.2
      have hQ4 : L q4 ≠ [0] := by rw [HG.out.l4]; simp
      have hge : ge < wr.heap.size := by
        obtain ⟨xs, h1, _⟩ := HEN.out
        exact (World.ownsRow.lt h1 ge rfl).2
      have hbl6 : bl.length ≤ 1000000 := by omega
      have h1c : ∀ u' ∈ (#[.slice none 0 0, .slice none 0 0, .slice none 0 0, .slice none 0 0, .int .i64 ex.k, .int .i64 ex.a, .int .i64 ex.t, .int .i64 ex.l] : Array Value).toList, u'.oneCell' = true := by simp [Value.oneCell']
      have hBw : w.heap.size ≤ (wr.alloc (.cells #[.slice none 0 0, .slice none 0 0, .slice none 0 0, .slice none 0 0, .int .i64 ex.k, .int .i64 ex.a, .int .i64 ex.t, .int .i64 ex.l] 71)).drew.heap.size := by have h1 := HG.out.wr.size; simp; omega
      go_upto_region 8 with fail
      have hge11 : L ge = [11] := by
        obtain ⟨A, c', he, hA⟩ := HEN.out.form
        injection he with he1 _ _
        subst he1
        obtain ⟨gp, h1, h2, _⟩ := hA (by rintro rfl; simp at hlt)
        cases h1
        exact h2
      have hge0 : L ge ≠ [0] := by rw [hge11]; simp
      have HKS : Hid ((fun w' => w'.cell? ⟨q4, 2, none⟩ = some bv ∧ w'.cell? ⟨ge, bl.length * 4, none⟩ = some (.int .i64 ex.k) ∧ w'.cell? ⟨ge, bl.length * 4 + 1, none⟩ = some (.int .i64 ex.a) ∧ w'.cell? ⟨ge, bl.length * 4 + 2, none⟩ = some (.int .i64 ex.t) ∧ w'.cell? ⟨ge, bl.length * 4 + 3, none⟩ = some (.int .i64 ex.l)) wr) := ⟨f2, c0, c1, c2, c3⟩
      have HKA : Hid ((fun w' => w'.cell? ⟨q4, 2, none⟩ = some bv ∧ w'.cell? ⟨ge, bl.length * 4, none⟩ = some (.int .i64 ex.k) ∧ w'.cell? ⟨ge, bl.length * 4 + 1, none⟩ = some (.int .i64 ex.a) ∧ w'.cell? ⟨ge, bl.length * 4 + 2, none⟩ = some (.int .i64 ex.t) ∧ w'.cell? ⟨ge, bl.length * 4 + 3, none⟩ = some (.int .i64 ex.l)) (wr.drew.alloc (.cells #[.slice none 0 0, .slice none 0 0, .slice none 0 0, .slice none 0 0, .int .i64 ex.k, .int .i64 ex.a, .int .i64 ex.t, .int .i64 ex.l] 71))) := by
        have e : ∀ k, k < wr.heap.size → ∀ j, (wr.drew.alloc (.cells #[.slice none 0 0, .slice none 0 0, .slice none 0 0, .slice none 0 0, .int .i64 ex.k, .int .i64 ex.a, .int .i64 ex.t, .int .i64 ex.l] 71)).cell? ⟨k, j, none⟩ = wr.cell? ⟨k, j, none⟩ := fun k hk j => ((wr_drew wr L).alloc (.cells #[.slice none 0 0, .slice none 0 0, .slice none 0 0, .slice none 0 0, .int .i64 ex.k, .int .i64 ex.a, .int .i64 ex.t, .int .i64 ex.l] 71)).cell hk (fun h => h) j
        exact ⟨(e _ hq4 2).trans f2, (e _ hge _).trans c0, (e _ hge _).trans c1, (e _ hge _).trans c2, (e _ hge _).trans c3⟩
      refine wp_region_offL (S := (fun w' => w'.cell? ⟨q4, 2, none⟩ = some bv ∧ w'.cell? ⟨ge, bl.length * 4, none⟩ = some (.int .i64 ex.k) ∧ w'.cell? ⟨ge, bl.length * 4 + 1, none⟩ = some (.int .i64 ex.a) ∧ w'.cell? ⟨ge, bl.length * 4 + 2, none⟩ = some (.int .i64 ex.t) ∧ w'.cell? ⟨ge, bl.length * 4 + 3, none⟩ = some (.int .i64 ex.l))) (by simp) (by kernel_rfl) (by kernel_rfl) (by kernel_rfl) (by kernel_rfl) (by kernel_rfl) ?_ (fun hHeld => ?_)
      · (try dsimp only)
        (first | exact HKS.out | exact HKA.out | exact HK9.out)
      simp only [List.dropLast_cons_cons, List.dropLast_singleton, List.length_cons, List.length_nil]
      refine wpAnyH_take (i := 0) (v := ?_) rfl (by kernel_rfl) (by kernel_rfl) (by kernel_rfl) (fun _ _ _ h => h) (Or.inl ⟨by rfl, ?_⟩) (by assumption) ?_
      rotate_left
      · intro w hSw
        simp only [List.getElem_toArray, List.getElem_cons_zero]
        (try dsimp only at hSw)
        go_simp
        first | done | (with_reducible rfl)
      simp only [List.getElem_toArray, List.getElem_cons_zero, Act.put, List.setIfInBounds_toArray, List.set_cons_zero, List.set_cons_succ]
      refine wpAnyH_take (i := 1) (v := ?_) rfl (by kernel_rfl) (by kernel_rfl) (by kernel_rfl) (fun _ _ _ h => h) (Or.inl ⟨by rfl, ?_⟩) (by assumption) ?_
      rotate_left
      · intro w hSw
        simp only [List.getElem_toArray, List.getElem_cons_succ, List.getElem_cons_zero]
        (try dsimp only at hSw)
        go_simp
        first | done | (with_reducible rfl)
      simp only [List.getElem_toArray, List.getElem_cons_succ, List.getElem_cons_zero, Act.put, List.setIfInBounds_toArray, List.set_cons_zero, List.set_cons_succ]
      refine wpAnyH_take (i := 2) (v := ?_) rfl (by kernel_rfl) (by kernel_rfl) (by kernel_rfl) (fun _ _ _ h => h) (Or.inl ⟨by rfl, ?_⟩) (by assumption) ?_
      rotate_left
      · intro w hSw
        simp only [List.getElem_toArray, List.getElem_cons_succ, List.getElem_cons_zero]
        (try dsimp only at hSw)
        go_simp
        first | done | (with_reducible rfl)
      simp only [List.getElem_toArray, List.getElem_cons_succ, List.getElem_cons_zero, Act.put, List.setIfInBounds_toArray, List.set_cons_zero, List.set_cons_succ]
      refine wpAnyH_take (i := 3) (v := ?_) rfl (by kernel_rfl) (by kernel_rfl) (by kernel_rfl) (fun _ _ _ h => h) (Or.inl ⟨by rfl, ?_⟩) (by assumption) ?_
      rotate_left
      · intro w hSw
        simp only [List.getElem_toArray, List.getElem_cons_succ, List.getElem_cons_zero]
        (try dsimp only at hSw)
        go_simp
        first | done | (with_reducible rfl)
      simp only [List.getElem_toArray, List.getElem_cons_succ, List.getElem_cons_zero, Act.put, List.setIfInBounds_toArray, List.set_cons_zero, List.set_cons_succ]
      refine wpAnyH_take (i := 4) (v := ?_) rfl (by kernel_rfl) (by kernel_rfl) (by kernel_rfl) (fun _ _ _ h => h) (Or.inl ⟨by rfl, ?_⟩) (by assumption) ?_
      rotate_left
      · intro w hSw
        simp only [List.getElem_toArray, List.getElem_cons_succ, List.getElem_cons_zero]
        (try dsimp only at hSw)
        go_simp
        first | done | (with_reducible rfl)
      simp only [List.getElem_toArray, List.getElem_cons_succ, List.getElem_cons_zero, Act.put, List.setIfInBounds_toArray, List.set_cons_zero, List.set_cons_succ]
      refine wpAnyH_take (i := 5) (v := ?_) rfl (by kernel_rfl) (by kernel_rfl) (by kernel_rfl) (fun _ _ _ h => h) (Or.inl ⟨by rfl, ?_⟩) (by assumption) ?_
      rotate_left
      · intro w hSw
        simp only [List.getElem_toArray, List.getElem_cons_succ, List.getElem_cons_zero]
        (try dsimp only at hSw)
        go_simp
        first | done | (with_reducible rfl)
      simp only [List.getElem_toArray, List.getElem_cons_succ, List.getElem_cons_zero, Act.put, List.setIfInBounds_toArray, List.set_cons_zero, List.set_cons_succ]
      refine wpAnyH_take (i := 6) (v := ?_) rfl (by kernel_rfl) (by kernel_rfl) (by kernel_rfl) (fun _ _ _ h => h) (Or.inl ⟨by rfl, ?_⟩) (by assumption) ?_
      rotate_left
      · intro w hSw
        simp only [List.getElem_toArray, List.getElem_cons_succ, List.getElem_cons_zero]
        (try dsimp only at hSw)
        go_simp
        first | done | (with_reducible rfl)
      simp only [List.getElem_toArray, List.getElem_cons_succ, List.getElem_cons_zero, Act.put, List.setIfInBounds_toArray, List.set_cons_zero, List.set_cons_succ]
      refine wpAnyH_ready (rs := [7]) (by kernel_rfl) (by simp) ?_
      refine AllReadyH.cons rfl (fun K hK => ?_) AllReadyH.nil
      simp only [List.getElem_toArray, List.getElem_cons_succ, List.getElem_cons_zero]
      go_simp
      refine hK.out _ _ ?_ (fun hHeld => ?_)
      · (try dsimp only)
        (first | exact HKS.out | exact HKA.out | exact HK9.out)
      clear hK K
      (try simp only [List.getElem_toArray, List.getElem_cons_succ, List.getElem_cons_zero, Act.put, List.setIfInBounds_toArray, List.set_cons_zero, List.set_cons_succ])
      refine wpAnyH_ready (rs := [8]) (by kernel_rfl) (by simp) ?_
      refine AllReadyH.cons rfl (fun K hK => ?_) AllReadyH.nil
      (first | (refine LR.step_append rt_Block (by rfl) (.tmp 31) (.tmp 37) (by rfl) _ wr.heap.size _ (by rfl) (HG.out.rows.keep ((wr_drew _ _).alloc _) (LExt.refl _ _) fun _ h => h.elim) (by rfl) (heap_alloc_new _ _) (by rfl) h1c hBw hbl6 ?_; intro gg cap w9 hs9; have HK9 : Hid ((fun w' => w'.cell? ⟨q4, 2, none⟩ = some bv ∧ w'.cell? ⟨ge, bl.length * 4, none⟩ = some (.int .i64 ex.k) ∧ w'.cell? ⟨ge, bl.length * 4 + 1, none⟩ = some (.int .i64 ex.a) ∧ w'.cell? ⟨ge, bl.length * 4 + 2, none⟩ = some (.int .i64 ex.t) ∧ w'.cell? ⟨ge, bl.length * 4 + 3, none⟩ = some (.int .i64 ex.l)) w9) := ⟨(snoc_cell ((wr_drew wr _).alloc _) hs9 hq4 hQ4 2).1.trans f2, (snoc_cell ((wr_drew wr _).alloc _) hs9 hge hge0 _).1.trans c0, (snoc_cell ((wr_drew wr _).alloc _) hs9 hge hge0 _).1.trans c1, (snoc_cell ((wr_drew wr _).alloc _) hs9 hge hge0 _).1.trans c2, (snoc_cell ((wr_drew wr _).alloc _) hs9 hge hge0 _).1.trans c3⟩; have hs0 := HK9.out.1; have hs1 := (snoc_cell ((wr_drew wr _).alloc _) hs9 hq4 hQ4 2).2.trans ff2; have HS9 := Lib.hid hs9; clear hs9) | fail)
      refine hK.out _ _ ?_ (fun hHeld => ?_)
      · (try dsimp only)
        (first | exact HKS.out | exact HKA.out | exact HK9.out)
      clear hK K
      (try simp only [List.getElem_toArray, List.getElem_cons_succ, List.getElem_cons_zero, Act.put, List.setIfInBounds_toArray, List.set_cons_zero, List.set_cons_succ])
      refine wpAnyH_take (i := 9) (v := ?_) rfl (by kernel_rfl) (by kernel_rfl) (by kernel_rfl) (fun _ _ _ h => h) (Or.inl ⟨by rfl, ?_⟩) (by assumption) ?_
      rotate_left
      · intro w hSw
        simp only [List.getElem_toArray, List.getElem_cons_succ, List.getElem_cons_zero]
        (try dsimp only at hSw)
        go_simp
        first | done | (with_reducible rfl)
      simp only [List.getElem_toArray, List.getElem_cons_succ, List.getElem_cons_zero, Act.put, List.setIfInBounds_toArray, List.set_cons_zero, List.set_cons_succ]
      refine wpAnyH_done (by kernel_rfl) ?_ _
      refine offQ_last rfl (fun KL hKL => ?_)
      go_simp
      refine hKL.out _ _ ?_
      obtain ⟨hp1, hp2, hp3⟩ := HG.out.putBlock (e := ex) ((wr_drew wr L).alloc _) HS9.out
      have HP1 := Lib.hid hp1
      have HP2 := Lib.hid (HEN.out.keep hp2 hp3 (by simp) fun _ _ _ h => h)
      have HB2 := Lib.hid (all_snoc (P := Bare es.length) (y := ({ phis := [], head := [], body := [], tail := [], fin := ex } : BlockD)) HBA.out ⟨rfl, rfl, rfl, HETx.out⟩)
      have hle1 : (bl ++ [({ phis := [], head := [], body := [], tail := [], fin := ex } : BlockD)]).length ≤ es.length := by rw [List.length_append]; exact hlt
      clear hp1 hp2 hp3 HS9 HG HEN HBA
      go_wp2_with fail
      go_roundw
      case rel => exact ⟨_, _, bl ++ [({ phis := [], head := [], body := [], tail := [], fin := ex } : BlockD)], by simp, hle1, HP1, HB2, HP2⟩
      case measure => simp [intOf]; omega
    · have hbe : bl.length = es.length := by omega
      clear hlt hble HEN HET
      go_wp2_with fail
      obtain ⟨A, cb, rfl, hA⟩ := HG.out.rows.form
      obtain ⟨G, rfl, _⟩ := hA (by rintro rfl; simp at hbe; omega)
      clear hA
      generalize es.length = n at *
      subst hbe
      have HG6 := Lib.hid ((HG.out.row (wr_alloc wr L (.cells #[] 2)) (relab_ext wr L [6]) fun _ h => h.elim).row (wr_alloc (wr.alloc (.cells #[] 2)) _ (.cells #[] 2)) (relab_ext _ _ [7]) fun _ h => h.elim)
      have hsw : w.heap.size ≤ wr.heap.size := HG.out.wr.size
      have HF6 : Hid (LR ((wr.alloc (.cells #[] 2)).alloc (.cells #[] 2)) w.heap.size 2 1 (relab (relab L wr.heap.size [6]) (wr.alloc (.cells #[] 2)).heap.size [7]) [6] (fun _ => EInt) (.slice (some ⟨wr.heap.size, 0, none⟩) 0 0) []) :=
        (LR.lit0 (L := relab L wr.heap.size [6]) wr hsw (relab_new _ (Nat.le_refl _))).keep (wr_alloc _ _ _) (relab_ext _ _ [7]) (fun h => h) fun _ _ _ h => h
      have HP6 : Hid (LR ((wr.alloc (.cells #[] 2)).alloc (.cells #[] 2)) w.heap.size 2 1 (relab (relab L wr.heap.size [6]) (wr.alloc (.cells #[] 2)).heap.size [7]) [7] (fun _ => EInt) (.slice (some ⟨(wr.alloc (.cells #[] 2)).heap.size, 0, none⟩) 0 0) []) :=
        LR.lit0 (wr.alloc (.cells #[] 2)) (by simp; omega) (relab_new _ (Nat.le_refl _))
      rw [show (wr.alloc (.cells #[] 2)).heap.size = wr.heap.size + 1 by simp] at HF6 HP6 HG6
      clear HG
      generalize relab (relab L wr.heap.size [6]) (wr.heap.size + 1) [7] = L6 at *
      go_loopw [7, 8, 9, 10] (fun v7 v8 v9 _ wq => ∃ (b : Nat) (L : Nat → List Nat) (nm : Int) (fs phs : List Int), v9 = .int .i64 b ∧ b ≤ bl.length ∧ fs.length = b ∧ phs.length = b ∧ 1 ≤ nm ∧ nm ≤ 2 + 5 * b ∧ Hid (∀ (i : Nat) x, fs[i]? = some x → 0 ≤ x ∧ x ≤ 1000) ∧ Hid (∀ (i : Nat) x, phs[i]? = some x → 0 ≤ x ∧ x ≤ 2) ∧
        Hid (GSt w wq Bc g w.heap.size q4 L0 L ph nm (.slice (some ⟨G, 0, none⟩) bl.length cb) bl) ∧ Hid (LR wq w.heap.size 2 1 L [6] (fun _ => EInt) v7 fs) ∧ Hid (LR wq w.heap.size 2 1 L [7] (fun _ => EInt) v8 phs)) (fun _ _ v9 _ _ => bl.length - (intOf v9).toNat)
      case atStart => exact ⟨0, L6, ph, [], [], rfl, Nat.zero_le _, rfl, rfl, by omega, by omega, fun i x hx => by simp at hx, fun i x hx => by simp at hx, HG6.out, HF6.out, HP6.out⟩
      case round =>
        obtain ⟨b, L, nm, fs, phs, rfl, hbl, rfl, hpl, hnm1, hnm2, HFB, HPB, HG, HF, HP⟩ := hrel
        obtain ⟨f0, f1, f2, ff⟩ := HG.out.cells
        have hq4 := HG.out.lt.2
        have hsw : w.heap.size ≤ wr.heap.size := HG.out.wr.size
        by_cases hlt : fs.length < bl.length
        case neg =>
          have hbe : fs.length = bl.length := by omega
          clear hlt hbl ff
          go_wp2_with (at_builtin; go_must (refine LR.wp_append rt_int rfl (.tmp 80) (.tmp 83) rfl _ wr.heap.size _ rfl (HF.out.keep (wr_alloc _ _ _) (LExt.refl _ _) (fun h => h) fun _ _ _ h => h) rfl (heap_alloc_new _ _) rfl (by simp [Value.oneCell']) (by simp; omega) (by omega) ?_; intro gg cap w9 hs9; obtain ⟨hw9, hL9⟩ := snoc_wr (wr_alloc wr L _) hs9; have HG9 := Lib.hid (HG.out.row hw9 hL9 (fun p hp => by simp [hp])); have HP9 := Lib.hid (HP.out.keep hw9 hL9 (by simp) fun _ _ _ h => h); have HF9 := Lib.hid (hs9.lr (fun _ => EInt) nm (fun _ _ _ h => h) rfl); clear hw9 hL9 hs9 f0 f1 f2 HG HP HF))
          generalize relab L (wr.alloc (.cells #[.int .i64 nm] 2)).heap.size [6] = L9 at *
          rw [show fs.length + 1 = bl.length + 1 by rw [hbe]] at HF9
          generalize Value.slice (some ⟨gg, 0, none⟩) (bl.length + 1) cap = vf at *
          have HFB9 := Lib.hid (all_snoc (P := fun x => 0 ≤ x ∧ x ≤ 1000) (y := nm) HFB.out (by omega))
          have hfl9 : (fs ++ [nm]).length = bl.length + 1 := by simp [hbe]
          have hpl9 : phs.length = bl.length := by omega
          have hnmb : nm ≤ 1000 := by omega
          clear HFB hnm2 hsw hq4 hpl
          generalize fs ++ [nm] = fs9 at *
          clear hbe
          obtain ⟨Ap, cp, rfl, hAp⟩ := HP9.out.form
          obtain ⟨gp, rfl, _⟩ := hAp (by rintro rfl; simp at hpl9; omega)
          clear hAp
          rw [hpl9] at HP9 ⊢
          go_loopw [11] (fun v11 wq => ∃ (b : Nat) (L : Nat → List Nat) (bl2 : List BlockD), v11 = .int .i64 b ∧ b ≤ bl.length ∧ bl2.length = bl.length ∧ Hid (∀ (k : Nat) x, bl2[k]? = some x → Fld bl.length b k x) ∧ Hid (GSt w wq Bc g w.heap.size q4 L0 L ph nm (.slice (some ⟨G, 0, none⟩) bl.length cb) bl2) ∧ Hid (LR wq w.heap.size 2 1 L [6] (fun _ => EInt) vf fs9) ∧ Hid (LR wq w.heap.size 2 1 L [7] (fun _ => EInt) (.slice (some ⟨gp, 0, none⟩) bl.length cp) phs)) (fun v11 _ => bl.length - (intOf v11).toNat)
          case atStart => exact ⟨0, L9, bl, rfl, Nat.zero_le _, rfl, fun k x hx => fld_bare (HBA.out k x hx), HG9.out, HF9.out, HP9.out⟩
          case round =>
            obtain ⟨b, L, bl2, rfl, hbb, hbl2, HFD, HG, HF, HP⟩ := hrel
            obtain ⟨f0, f1, f2, ff⟩ := HG.out.cells
            by_cases hlt : b < bl.length
            case neg =>
              have hR0 := cell_of_row wr w.heap.size 0 _ _ _ HG.out.res
              have hR1 := cell_of_row wr w.heap.size 1 _ _ _ HG.out.res
              have hR2 := cell_of_row wr w.heap.size 2 _ _ _ HG.out.res
              have hRf0 := frozen_of_row wr w.heap.size 0 _ _ HG.out.res
              have hRf1 := frozen_of_row wr w.heap.size 1 _ _ HG.out.res
              have hRf2 := frozen_of_row wr w.heap.size 2 _ _ HG.out.res
              have hnm0 : 0 ≤ nm := by omega
              clear ff
              go_wp2_with fail
              (try simp only [Exit.inBlock, Exit.then])
              refine bodyPost_ret (v := .agg #[.int .i64 ph, .int .i64 nm, .slice (some ⟨G, 0, none⟩) bl.length cb]) (by simp [results, Tryd.results52, go_sem, hR0, hR1, hR2]) rfl ?_
              obtain ⟨o1, o2, o3, o4⟩ := HG.out.out3 (.int .i64 ph) (.int .i64 nm) (.slice (some ⟨G, 0, none⟩) bl.length cb)
              exact ⟨L, ph, nm, G, bl.length, cb, bl2, rfl, o1, o2, o3, o4, hbl2, hn1, hn6, hph1.1, hph1.2, hnm0, hnmb, fun k x hx => by
                obtain ⟨h1, h2, h3, h4, h5⟩ := HFD.out k x hx
                exact ⟨h1, h4, h5, by rw [h3]; exact Nat.zero_le _⟩⟩
            have hlt' : (b : Int) < (bl.length : Int) := by omega
            have hx0 : bl2[b]? = some bl2[b] := List.getElem?_eq_getElem (by omega)
            generalize bl2[b] = x0 at hx0
            obtain ⟨hxt, hxe, hxtl, _, _⟩ := HFD.out b x0 hx0
            obtain ⟨hxp, hxb⟩ := hxe (Nat.le_refl _)
            have hpb : phs[b]? = some phs[b] := List.getElem?_eq_getElem (by omega)
            generalize phs[b] = mm at hpb
            obtain ⟨hm0, hm2⟩ := HPB.out b mm hpb
            obtain ⟨mn, rfl⟩ : ∃ mn : Nat, mm = mn := ⟨mm.toNat, by omega⟩
            obtain ⟨cs, hcs0, _, hcs⟩ := LR.get HP.out hpb
            have hcs0 : cs = [.int .i64 mn] := hcs0
            subst hcs0
            have pp : wr.cell? ⟨gp, b, none⟩ = some (.int .i64 mn) := by have := (hcs 0 _ rfl).1; rwa [Nat.mul_one] at this
            clear hcs
            have hgp : gp < wr.heap.size := by
              obtain ⟨xs, h1, _⟩ := HP.out
              exact (World.ownsRow.lt h1 gp rfl).2
            have hplb : (b : Int) < (phs.length : Int) := by omega
            have HX0 := Lib.hid hx0
            have HXP := Lib.hid (And.intro hxp hxb)
            have HXT := Lib.hid hxtl
            have HTG : Hid (∀ (i : Nat) x, bl2[i]? = some x → EndT bl.length x.fin) := fun i x hx => (HFD.out i x hx).1
            have hsw : w.heap.size ≤ wr.drew.heap.size := HG.out.wr.size
            have hn100 : bl.length ≤ 100 := by omega
            have hph10 : 1 ≤ ph ∧ ph ≤ 10 := by omega
            have hmn : mn ≤ 1000 := by omega
            have hq4 := HG.out.lt.2
            clear hx0 hxp hxb hxtl hxe
            have HCALL := Lib.hid (l2Fill_any mn wr.drew w.heap.size Bc g G bl.length cb b L ph nm vf fs9 bl2 x0 HG.out.drew.sta hsw HG.out.drew.rows hbl2 HTG.out (HF.out.keep (wr_drew wr L) (LExt.refl _ _) (fun h => h) fun _ _ _ h => h) HX0.out HXP.out.1 HXP.out.2 hn100 hph10 hfl9 HFB9.out hmn)
            go_upto_region 26 with fail
            have hgp7 : L gp = [7] := by
              obtain ⟨A, c', he, hA⟩ := HP.out.form
              injection he with he1 _ _
              subst he1
              obtain ⟨gq, h1, h2, _⟩ := hA (by rintro rfl; simp at hpl9; omega)
              cases h1
              exact h2
            have HKS : Hid ((fun w' => w'.cell? ⟨q4, 0, none⟩ = some (.int .i64 ph) ∧ w'.cell? ⟨q4, 1, none⟩ = some (.int .i64 nm) ∧ w'.cell? ⟨q4, 2, none⟩ = some (.slice (some ⟨G, 0, none⟩) bl.length cb) ∧ w'.cell? ⟨gp, b, none⟩ = some (.int .i64 mn)) wr) := ⟨f0, f1, f2, pp⟩
            refine wp_region_offL (S := (fun w' => w'.cell? ⟨q4, 0, none⟩ = some (.int .i64 ph) ∧ w'.cell? ⟨q4, 1, none⟩ = some (.int .i64 nm) ∧ w'.cell? ⟨q4, 2, none⟩ = some (.slice (some ⟨G, 0, none⟩) bl.length cb) ∧ w'.cell? ⟨gp, b, none⟩ = some (.int .i64 mn))) (by simp) (by kernel_rfl) (by kernel_rfl) (by kernel_rfl) (by kernel_rfl) (by kernel_rfl) ?_ (fun hHeld => ?_)
            · (try dsimp only)
              (first | exact HKS.out | exact HK9.out)
            simp only [List.dropLast_cons_cons, List.dropLast_singleton, List.length_cons, List.length_nil]
            refine wpAnyH_take (i := 0) (v := ?_) rfl (by kernel_rfl) (by kernel_rfl) (by kernel_rfl) (fun _ _ _ h => h) (Or.inl ⟨by rfl, ?_⟩) (by assumption) ?_
            rotate_left
            · intro w hSw
              simp only [List.getElem_toArray, List.getElem_cons_zero]
              (try dsimp only at hSw)
              go_simp
              first | done | (with_reducible rfl)
            simp only [List.getElem_toArray, List.getElem_cons_zero, Act.put, List.setIfInBounds_toArray, List.set_cons_zero, List.set_cons_succ]
            refine wpAnyH_take (i := 1) (v := ?_) rfl (by kernel_rfl) (by kernel_rfl) (by kernel_rfl) (fun _ _ _ h => h) (Or.inl ⟨by rfl, ?_⟩) (by assumption) ?_
            rotate_left
            · intro w hSw
              simp only [List.getElem_toArray, List.getElem_cons_succ, List.getElem_cons_zero]
              (try dsimp only at hSw)
              go_simp
              first | done | (with_reducible rfl)
            simp only [List.getElem_toArray, List.getElem_cons_succ, List.getElem_cons_zero, Act.put, List.setIfInBounds_toArray, List.set_cons_zero, List.set_cons_succ]
            refine wpAnyH_take (i := 2) (v := ?_) rfl (by kernel_rfl) (by kernel_rfl) (by kernel_rfl) (fun _ _ _ h => h) (Or.inl ⟨by rfl, ?_⟩) (by assumption) ?_
            rotate_left
            · intro w hSw
              simp only [List.getElem_toArray, List.getElem_cons_succ, List.getElem_cons_zero]
              (try dsimp only at hSw)
              go_simp
              first | done | (with_reducible rfl)
            simp only [List.getElem_toArray, List.getElem_cons_succ, List.getElem_cons_zero, Act.put, List.setIfInBounds_toArray, List.set_cons_zero, List.set_cons_succ]
            refine wpAnyH_take (i := 3) (v := ?_) rfl (by kernel_rfl) (by kernel_rfl) (by kernel_rfl) (fun _ _ _ h => h) (Or.inl ⟨by rfl, ?_⟩) (by assumption) ?_
            rotate_left
            · intro w hSw
              simp only [List.getElem_toArray, List.getElem_cons_succ, List.getElem_cons_zero]
              (try dsimp only at hSw)
              go_simp
              first | done | (with_reducible rfl)
            simp only [List.getElem_toArray, List.getElem_cons_succ, List.getElem_cons_zero, Act.put, List.setIfInBounds_toArray, List.set_cons_zero, List.set_cons_succ]
            refine wpAnyH_take (i := 4) (v := ?_) rfl (by kernel_rfl) (by kernel_rfl) (by kernel_rfl) (fun _ _ _ h => h) (Or.inl ⟨by rfl, ?_⟩) (by assumption) ?_
            rotate_left
            · intro w hSw
              simp only [List.getElem_toArray, List.getElem_cons_succ, List.getElem_cons_zero]
              (try dsimp only at hSw)
              go_simp
              first | done | (with_reducible rfl)
            simp only [List.getElem_toArray, List.getElem_cons_succ, List.getElem_cons_zero, Act.put, List.setIfInBounds_toArray, List.set_cons_zero, List.set_cons_succ]
            refine wpAnyH_take (i := 5) (v := ?_) rfl (by kernel_rfl) (by kernel_rfl) (by kernel_rfl) (fun _ _ _ h => h) (Or.inl ⟨by rfl, ?_⟩) (by assumption) ?_
            rotate_left
            · intro w hSw
              simp only [List.getElem_toArray, List.getElem_cons_succ, List.getElem_cons_zero]
              (try dsimp only at hSw)
              go_simp
              first | done | (with_reducible rfl)
            simp only [List.getElem_toArray, List.getElem_cons_succ, List.getElem_cons_zero, Act.put, List.setIfInBounds_toArray, List.set_cons_zero, List.set_cons_succ]
            refine wpAnyH_take (i := 6) (v := ?_) rfl (by kernel_rfl) (by kernel_rfl) (by kernel_rfl) (fun _ _ _ h => h) (Or.inl ⟨by rfl, ?_⟩) (by assumption) ?_
            rotate_left
            · intro w hSw
              simp only [List.getElem_toArray, List.getElem_cons_succ, List.getElem_cons_zero]
              (try dsimp only at hSw)
              go_simp
              first | done | (with_reducible rfl)
            simp only [List.getElem_toArray, List.getElem_cons_succ, List.getElem_cons_zero, Act.put, List.setIfInBounds_toArray, List.set_cons_zero, List.set_cons_succ]
            refine wpAnyH_take (i := 7) (v := ?_) rfl (by kernel_rfl) (by kernel_rfl) (by kernel_rfl) (fun _ _ _ h => h) (Or.inl ⟨by rfl, ?_⟩) (by assumption) ?_
            rotate_left
            · intro w hSw
              simp only [List.getElem_toArray, List.getElem_cons_succ, List.getElem_cons_zero]
              (try dsimp only at hSw)
              go_simp
              first | done | (with_reducible rfl)
            simp only [List.getElem_toArray, List.getElem_cons_succ, List.getElem_cons_zero, Act.put, List.setIfInBounds_toArray, List.set_cons_zero, List.set_cons_succ]
            refine wpAnyH_ready (rs := [8]) (by kernel_rfl) (by simp) ?_
            refine AllReadyH.cons rfl (fun K hK => ?_) AllReadyH.nil
            simp only [List.getElem_toArray, List.getElem_cons_succ, List.getElem_cons_zero]
            go_simp
            (first | (go_at_call 77; refine HCALL.out.mono ?_; rintro e w13 ⟨L2, y, rfl, hout, hy1, hy2, hy3⟩; have hwd : Wr (FP b) L wr w13 := ((wr_drew wr L).mono (fun _ h => h.elim)).trans hout.wr (LExt.refl _ _); have HG13 := Lib.hid (HG.out.fill hwd hout.ext (fp_not b).1 (fp_not b).2.1 (fp_not b).2.2.1 hout.sta hout.rows); have HF13 := Lib.hid hout.fst; have HP13 := Lib.hid (HP.out.keep hwd hout.ext (fp_not b).2.2.2 fun _ _ _ h => h); have HLT := Lib.hid hout.tgt; obtain ⟨m0, m1, m2, mf⟩ := HG13.out.cells; have mf0 := mf 0; have mf1 := mf 1; have mf2 := mf 2; have HK9 : Hid ((fun w' => w'.cell? ⟨q4, 0, none⟩ = some (.int .i64 ph) ∧ w'.cell? ⟨q4, 1, none⟩ = some (.int .i64 nm) ∧ w'.cell? ⟨q4, 2, none⟩ = some (.slice (some ⟨G, 0, none⟩) bl.length cb) ∧ w'.cell? ⟨gp, b, none⟩ = some (.int .i64 mn)) w13) := ⟨m0, m1, m2, (hwd.cell hgp (by rw [hgp7]; exact (fp_not b).2.2.2) b).trans pp⟩; clear mf hout hwd) | fail)
            go_wp2_with fail
            refine hK.out _ _ ?_ (fun hHeld => ?_)
            · (try dsimp only)
              (first | exact HKS.out | exact HK9.out)
            clear hK K
            (try simp only [List.getElem_toArray, List.getElem_cons_succ, List.getElem_cons_zero, Act.put, List.setIfInBounds_toArray, List.set_cons_zero, List.set_cons_succ])
            refine wpAnyH_done (by kernel_rfl) ?_ _
            refine offQ_last rfl (fun KL hKL => ?_)
            go_simp
            refine hKL.out _ _ ?_
            have HG14 := Lib.hid HG13.out.store3
            have hw17 := HG13.out.wr3 (.int .i64 ph) (.int .i64 nm) (.slice (some ⟨G, 0, none⟩) bl.length cb)
            have HF14 := Lib.hid (HF13.out.keep hw17 (LExt.refl _ _) (by simp) fun _ _ _ h => h)
            have HP14 := Lib.hid (HP13.out.keep hw17 (LExt.refl _ _) (by simp) fun _ _ _ h => h)
            have HFD2 : Hid (∀ (k : Nat) x, (bl2.set b y)[k]? = some x → Fld bl.length (b + 1) k x) := fun k x hx => by
              have ht := HLT.out k x hx
              rw [List.getElem?_set] at hx
              by_cases e : b = k
              · subst e
                rw [if_pos rfl, if_pos (by omega)] at hx
                injection hx with hx
                subst hx
                exact ⟨ht, fun hk => absurd hk (by omega), hy3.trans HXT.out, hy1, hy2⟩
              · rw [if_neg e] at hx
                obtain ⟨h1, h2, h3, h4, h5⟩ := HFD.out k x hx
                exact ⟨h1, fun hk => h2 (by omega), h3, h4, h5⟩
            have hls : (bl2.set b y).length = bl.length := by simpa using hbl2
            clear hw17 HG13 HF13 HP13 HG HF HP HLT HFD m0 m1 m2 mf0 mf1 mf2 f0 f1 f2 ff pp HKS HK9
            go_wp2_with fail
            go_roundw
            case rel => exact ⟨b + 1, L2, bl2.set b y, by go_num, by omega, hls, HFD2, HG14, HF14, HP14⟩
            case measure => simp [intOf]; omega
        have hlt' : (fs.length : Int) < (bl.length : Int) := by omega
        clear ff
        go_upto_region 14 with fail
        go_wp2_with (at_builtin; go_must (refine LR.wp_append rt_int rfl (.tmp 47) (.tmp 50) rfl _ wr.heap.size _ rfl (HF.out.keep (wr_alloc _ _ _) (LExt.refl _ _) (fun h => h) fun _ _ _ h => h) rfl (heap_alloc_new _ _) rfl (by simp [Value.oneCell']) (by simp; omega) (by omega) ?_; intro gg cap w9 hs9; obtain ⟨hw9, hL9⟩ := snoc_wr (wr_alloc wr L _) hs9; have HG9 := Lib.hid (HG.out.row hw9 hL9 (fun p hp => by simp [hp])); have HP9 := Lib.hid (HP.out.keep hw9 hL9 (by simp) fun _ _ _ h => h); have HF9 := Lib.hid (hs9.lr (fun _ => EInt) nm (fun _ _ _ h => h) rfl); obtain ⟨k0, k1, k2, kf⟩ := HG9.out.cells; clear kf hw9 hL9 hs9 f0 f1 f2 HG HP HF))
        generalize relab L (wr.alloc (.cells #[.int .i64 nm] 2)).heap.size [6] = L9 at *
        generalize Value.slice (some ⟨gg, 0, none⟩) (fs.length + 1) cap = vf at *
        clear hsw hq4
        refine (l2Preds_any ⟨ph, nm, bl⟩ _ fs.length _ (Zn.new _ _) HG9.out.efun (fun b hb => hb.2) (by show bl.length ≤ _; omega)).mono ?_
        rintro e w10 ⟨rr, rfl, hoi, hbel⟩
        have HG10 := Lib.hid (HG9.out.row (Wr.below (P := fun _ => False) hbel) (LExt.refl _ _) fun _ h => h.elim)
        have HP10 := Lib.hid (HP9.out.keep (Wr.below (P := fun _ => False) hbel) (LExt.refl _ _) (fun h => h) fun _ _ _ h => h)
        have HF10 := Lib.hid (HF9.out.keep (Wr.below (P := fun _ => False) hbel) (LExt.refl _ _) (fun h => h) fun _ _ _ h => h)
        obtain ⟨_, Ar, cr, rfl, _⟩ := hoi.ri
        have hprl : (predsF ⟨ph, nm, bl⟩ fs.length).length ≤ bl.length := predsK_len _ _ _ _
        have HXQ : Hid (∀ w' : World, GSt w w' Bc g w.heap.size q4 L0 L9 ph nm (.slice (some ⟨G, 0, none⟩) bl.length cb) bl → Calls Tryd.prog 57 #[.agg #[.int .i64 ph, .int .i64 nm, .slice (some ⟨G, 0, none⟩) bl.length cb], .int .i64 fs.length] w' (GivesI (predsF ⟨ph, nm, bl⟩ fs.length) w')) := fun w' h => l2Preds_any ⟨ph, nm, bl⟩ _ fs.length _ (Zn.new _ _) h.efun (fun b hb => hb.2) (by show bl.length ≤ _; omega)
        generalize predsF ⟨ph, nm, bl⟩ fs.length = xs at *
        clear hoi hbel k0 k1 k2 HG9 HP9 HF9
        go_upto_if 56 with fail
        go_cut [10] from 42 to 79 (fun v10 wx => ∃ mm : Int, v10 = .int .i64 mm ∧ 0 ≤ mm ∧ mm ≤ 2 ∧ Hid (GSt w wx Bc g w.heap.size q4 L0 L9 ph nm (.slice (some ⟨G, 0, none⟩) bl.length cb) bl) ∧ Hid (LR wx w.heap.size 2 1 L9 [6] (fun _ => EInt) vf (fs ++ [nm])) ∧ Hid (LR wx w.heap.size 2 1 L9 [7] (fun _ => EInt) u8 phs))
        case first =>
          by_cases h1 : 1 < xs.length
          · have h1' : (1 : Int) < (xs.length : Int) := by omega
            go_wp2_with fail
            refine (below_st 3 _ Bc g _ HG10.out.sta (by omega)).mono ?_
            rintro e w11 ⟨mm, rfl, hm0, hm1, hd, hw⟩
            have HG11 := Lib.hid (HG10.out.call hd hw)
            have HP11 := Lib.hid (HP10.out.keep hw (LExt.refl _ _) (by simp) fun _ _ _ h => h)
            have HF11 := Lib.hid (HF10.out.keep hw (LExt.refl _ _) (by simp) fun _ _ _ h => h)
            clear hd hw
            go_wp2_with fail
            go_meet
            exact ⟨mm, rfl, hm0, by omega, HG11, HF11, HP11⟩
          have h1' : (xs.length : Int) ≤ 1 := by omega
          obtain ⟨f0, f1, f2, ff⟩ := HG10.out.cells
          clear ff
          go_wp2_with fail
          refine (HXQ.out _ HG10.out).mono ?_
          rintro e w11 ⟨rr, rfl, hoi, hbel⟩
          have HG11 := Lib.hid (HG10.out.row (Wr.below (P := fun _ => False) hbel) (LExt.refl _ _) fun _ h => h.elim)
          have HP11 := Lib.hid (HP10.out.keep (Wr.below (P := fun _ => False) hbel) (LExt.refl _ _) (fun h => h) fun _ _ _ h => h)
          have HF11 := Lib.hid (HF10.out.keep (Wr.below (P := fun _ => False) hbel) (LExt.refl _ _) (fun h => h) fun _ _ _ h => h)
          obtain ⟨_, Ar2, cr2, rfl, _⟩ := hoi.ri
          clear hoi hbel HG10 HP10 HF10 f0 f1 f2
          by_cases h2 : xs.length = 1
          · have h2' : ((xs.length : Int) == 1) = true := by simp; omega
            clear h1 h1'
            go_wp2_with fail
            refine (once_st 8 _ Bc g _ HG11.out.sta).mono ?_
            rintro e w12 ⟨bo, rfl, hd, hw⟩
            have HG12 := Lib.hid (HG11.out.call hd hw)
            have HP12 := Lib.hid (HP11.out.keep hw (LExt.refl _ _) (by simp) fun _ _ _ h => h)
            have HF12 := Lib.hid (HF11.out.keep hw (LExt.refl _ _) (by simp) fun _ _ _ h => h)
            clear hd hw
            cases bo
            · go_wp2_with fail
              go_meet
              exact ⟨0, rfl, by omega, by omega, HG12, HF12, HP12⟩
            · go_wp2_with fail
              go_meet
              exact ⟨1, rfl, by omega, by omega, HG12, HF12, HP12⟩
          · have h2' : ((xs.length : Int) == 1) = false := by simp; omega
            clear h1 h1'
            go_wp2_with fail
            go_meet
            exact ⟨0, rfl, by omega, by omega, HG11, HF11, HP11⟩
        case rest =>
          obtain ⟨mm, rfl, hm0, hm2, HG11, HF11, HP11⟩ := hcut
          clear HG10 HP10 HF10 HXQ
          have hswc : w.heap.size ≤ wc.heap.size := HG11.out.wr.size
          go_wp2_with (at_builtin; go_must (refine LR.wp_append rt_int rfl (.tmp 68) (.tmp 70) rfl _ wc.heap.size _ rfl (HP11.out.keep (wr_alloc _ _ _) (LExt.refl _ _) (fun h => h) fun _ _ _ h => h) rfl (heap_alloc_new _ _) rfl (by simp [Value.oneCell']) (by simp; omega) (by omega) ?_; intro gg cap w12 hs9; obtain ⟨hw9, hL9⟩ := snoc_wr (wr_alloc wc L9 _) hs9; have HG12 := Lib.hid (HG11.out.row hw9 hL9 (fun p hp => by simp [hp])); have HF12 := Lib.hid (HF11.out.keep hw9 hL9 (by simp) fun _ _ _ h => h); have HP12 := Lib.hid (hs9.lr (fun _ => EInt) mm (fun _ _ _ h => h) rfl); obtain ⟨k0, k1, k2, kf⟩ := HG12.out.cells; clear hw9 hL9 hs9 HG11 HP11 HF11))
          generalize relab L9 (wc.alloc (.cells #[.int .i64 mm] 2)).heap.size [7] = L12 at *
          rw [hpl] at HP12
          generalize Value.slice (some ⟨gg, 0, none⟩) (fs.length + 1) cap = vp at *
          have kf1 := kf 1
          clear kf
          have hq4 := HG12.out.lt.2
          have hle : (nm + mm ≤ 1000 ∧ 0 ≤ nm + mm) := by omega
          obtain ⟨hle1, hle2⟩ := hle
          have hwz0 : IntKind.i64.wrap (nm + mm) = nm + mm := IntWalk.i64_in _ (by omega)
          have HKS : Hid ((fun w' => w'.cell? ⟨q4, 1, none⟩ = some (.int .i64 nm)) w12) := k1
          refine wp_region_offL (S := (fun w' => w'.cell? ⟨q4, 1, none⟩ = some (.int .i64 nm))) (by simp) (by kernel_rfl) (by kernel_rfl) (by kernel_rfl) (by kernel_rfl) (by kernel_rfl) ?_ (fun hHeld => ?_)
          · (try dsimp only)
            (first | exact HKS.out | exact HK9.out)
          simp only [List.dropLast_cons_cons, List.dropLast_singleton, List.length_cons, List.length_nil]
          refine wpAnyH_take (i := 0) (v := ?_) rfl (by kernel_rfl) (by kernel_rfl) (by kernel_rfl) (fun _ _ _ h => h) (Or.inl ⟨by rfl, ?_⟩) (by assumption) ?_
          rotate_left
          · intro w hSw
            simp only [List.getElem_toArray, List.getElem_cons_zero]
            (try dsimp only at hSw)
            go_simp
            first | done | (with_reducible rfl)
          simp only [List.getElem_toArray, List.getElem_cons_zero, Act.put, List.setIfInBounds_toArray, List.set_cons_zero, List.set_cons_succ]
          refine wpAnyH_take (i := 1) (v := ?_) rfl (by kernel_rfl) (by kernel_rfl) (by kernel_rfl) (fun _ _ _ h => h) (Or.inl ⟨by rfl, ?_⟩) (by assumption) ?_
          rotate_left
          · intro w hSw
            simp only [List.getElem_toArray, List.getElem_cons_succ, List.getElem_cons_zero]
            (try dsimp only at hSw)
            go_simp
            first | done | (with_reducible rfl)
          simp only [List.getElem_toArray, List.getElem_cons_succ, List.getElem_cons_zero, Act.put, List.setIfInBounds_toArray, List.set_cons_zero, List.set_cons_succ]
          refine wpAnyH_take (i := 2) (v := ?_) rfl (by kernel_rfl) (by kernel_rfl) (by kernel_rfl) (fun _ _ _ h => h) (Or.inl ⟨by rfl, ?_⟩) (by assumption) ?_
          rotate_left
          · intro w hSw
            simp only [List.getElem_toArray, List.getElem_cons_succ, List.getElem_cons_zero]
            (try dsimp only at hSw)
            go_simp
            first | done | (with_reducible rfl)
          simp only [List.getElem_toArray, List.getElem_cons_succ, List.getElem_cons_zero, Act.put, List.setIfInBounds_toArray, List.set_cons_zero, List.set_cons_succ]
          refine wpAnyH_take (i := 3) (v := ?_) rfl (by kernel_rfl) (by kernel_rfl) (by kernel_rfl) (fun _ _ _ h => h) (Or.inl ⟨by rfl, ?_⟩) (by assumption) ?_
          rotate_left
          · intro w hSw
            simp only [List.getElem_toArray, List.getElem_cons_succ, List.getElem_cons_zero]
            (try dsimp only at hSw)
            go_simp
            first | done | (with_reducible rfl)
          simp only [List.getElem_toArray, List.getElem_cons_succ, List.getElem_cons_zero, Act.put, List.setIfInBounds_toArray, List.set_cons_zero, List.set_cons_succ]
          refine wpAnyH_take (i := 4) (v := ?_) rfl (by kernel_rfl) (by kernel_rfl) (by kernel_rfl) (fun _ _ _ h => h) (Or.inl ⟨by rfl, ?_⟩) (by assumption) ?_
          rotate_left
          · intro w hSw
            simp only [List.getElem_toArray, List.getElem_cons_succ, List.getElem_cons_zero]
            (try dsimp only at hSw)
            go_simp
            first | done | (with_reducible rfl)
          simp only [List.getElem_toArray, List.getElem_cons_succ, List.getElem_cons_zero, Act.put, List.setIfInBounds_toArray, List.set_cons_zero, List.set_cons_succ]
          refine wpAnyH_ready (rs := [5]) (by kernel_rfl) (by simp) ?_
          refine AllReadyH.cons rfl (fun K hK => ?_) AllReadyH.nil
          simp only [List.getElem_toArray, List.getElem_cons_succ, List.getElem_cons_zero]
          go_simp
          (first | (go_at_call 54; refine (below_st 4 _ Bc g _ HG12.out.drew.sta (by clear hwz0; omega)).mono ?_; rintro e w13 ⟨z, rfl, hz0, hz1, hd, hw⟩; have hwz : IntKind.i64.wrap (nm + mm + z) = nm + mm + z := IntWalk.i64_in _ (by clear hwz0; omega); have hwd := ((wr_drew w12 L12).mono (Q := (· = [9])) (fun _ h => h.elim)).trans hw (LExt.refl _ _); have HG13 := Lib.hid (HG12.out.call hd hwd); have HF13 := Lib.hid (HF12.out.keep hwd (LExt.refl _ _) (by simp) fun _ _ _ h => h); have HP13 := Lib.hid (HP12.out.keep hwd (LExt.refl _ _) (by simp) fun _ _ _ h => h); obtain ⟨m0, m1, m2, mf⟩ := HG13.out.cells; have mf1 := mf 1; have HK9 : Hid ((fun w' => w'.cell? ⟨q4, 1, none⟩ = some (.int .i64 nm)) w13) := m1; clear mf hd hw hwd) | fail)
          go_wp2_with fail
          refine hK.out _ _ ?_ (fun hHeld => ?_)
          · (try dsimp only)
            (first | exact HKS.out | exact HK9.out)
          clear hK K
          (try simp only [List.getElem_toArray, List.getElem_cons_succ, List.getElem_cons_zero, Act.put, List.setIfInBounds_toArray, List.set_cons_zero, List.set_cons_succ])
          refine wpAnyH_take (i := 6) (v := ?_) rfl (by kernel_rfl) (by kernel_rfl) (by kernel_rfl) (fun _ _ _ h => h) (Or.inl ⟨by rfl, ?_⟩) (by assumption) ?_
          rotate_left
          · intro w hSw
            simp only [List.getElem_toArray, List.getElem_cons_succ, List.getElem_cons_zero]
            (try dsimp only at hSw)
            go_simp
            first | done | (with_reducible rfl)
          simp only [List.getElem_toArray, List.getElem_cons_succ, List.getElem_cons_zero, Act.put, List.setIfInBounds_toArray, List.set_cons_zero, List.set_cons_succ]
          refine wpAnyH_take (i := 7) (v := ?_) rfl (by kernel_rfl) (by kernel_rfl) (by kernel_rfl) (fun _ _ _ h => h) (Or.inl ⟨by rfl, ?_⟩) (by assumption) ?_
          rotate_left
          · intro w hSw
            simp only [List.getElem_toArray, List.getElem_cons_succ, List.getElem_cons_zero]
            (try dsimp only at hSw)
            go_simp
            first | done | (with_reducible rfl)
          simp only [List.getElem_toArray, List.getElem_cons_succ, List.getElem_cons_zero, Act.put, List.setIfInBounds_toArray, List.set_cons_zero, List.set_cons_succ]
          refine wpAnyH_done (by kernel_rfl) ?_ _
          refine offQ_last rfl (fun KL hKL => ?_)
          go_simp
          refine hKL.out _ _ ?_
          clear hwz0 hwz
          have HG14 := Lib.hid (HG13.out.setNm (nm + mm + z))
          have hw17 : Wr (· = [17]) L12 w13 (w13.setCell ⟨q4, 1, none⟩ (.int .i64 (nm + mm + z))) := (Wr.refl _ _ _).set (fun _ => HG13.out.l4) _ _
          have HF14 := Lib.hid (HF13.out.keep hw17 (LExt.refl _ _) (by simp) fun _ _ _ h => h)
          have HP14 := Lib.hid (HP13.out.keep hw17 (LExt.refl _ _) (by simp) fun _ _ _ h => h)
          have HFB2 := Lib.hid (all_snoc (P := fun x => 0 ≤ x ∧ x ≤ 1000) (y := nm) HFB.out (by omega))
          have HPB2 := Lib.hid (all_snoc (P := fun x => 0 ≤ x ∧ x ≤ 2) (y := mm) HPB.out (by omega))
          have hl1 : (fs ++ [nm]).length = fs.length + 1 := by simp
          have hl2 : (phs ++ [mm]).length = fs.length + 1 := by simp [hpl]
          clear hw17 HG13 HF13 HP13 m0 m1 m2 mf1 HG12 HF12 HP12 k0 k1 k2 kf1 HFB HPB HKS HK9
          go_wp2_with fail
          go_roundw
          case rel => exact ⟨fs.length + 1, L12, nm + mm + z, fs ++ [nm], phs ++ [mm], by go_num, by omega, hl1, hl2, by omega, by omega, HFB2, HPB2, HG14, HF14, HP14⟩
          case measure => simp [intOf]; omega
end

end Go.Proofs.YteikpekffgifoaaDoor
