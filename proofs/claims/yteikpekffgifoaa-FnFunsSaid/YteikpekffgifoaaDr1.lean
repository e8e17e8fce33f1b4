/- The state of a drawing; the ends of blocks. -/
import Derived.Test.YteikpekffgifoaaLab2
import Derived.Deep.CutRange
namespace Go.Proofs.Yteikpekffgifoaa
open Go.ChangeShapes Go.WideShapes Go.ChangeAt Go.RowKit Go.Joins

/-- The cursor lies in block g, what it reads below Bc. -/
structure DSta (w : World) (Bc g : Nat) (L : Nat → List Nat) : Prop where
  cur : Cur w Bc g
  lg : L g = [9]
  code : ∀ k, k < Bc → L k = [8]

theorem DSta.lt {w : World} {Bc g : Nat} {L : Nat → List Nat} (h : DSta w Bc g L) : g < w.heap.size ∧ Bc ≤ g := ⟨cur_lt h.cur, h.cur.1⟩
theorem DSta.keep {w w' : World} {Bc g : Nat} {L L' : Nat → List Nat} {P : List Nat → Prop} (h : DSta w Bc g L) (hw : Wr P L w w') (hL : LExt w L L') (h9 : ¬ P [9]) (h8 : ¬ P [8]) : DSta w' Bc g L' := by
  have hlt := h.lt
  obtain ⟨⟨hB, v, n, i, x, hv, hi, hg⟩, lg, code⟩ := h
  refine ⟨⟨hB, v, n, i, x, hv.keep fun b o hb => hw.cell (by omega) (by rw [code b hb]; exact h8) o, hi, (hw.block g hlt.1 (by rw [lg]; exact h9)).trans hg⟩, (hL g hlt.1).trans lg, fun k hk => (hL k (by omega)).trans (code k hk)⟩
theorem DSta.alloc {w : World} {Bc g : Nat} {L : Nat → List Nat} (h : DSta w Bc g L) (o : Obj) : DSta (w.alloc o) Bc g L := h.keep ((Wr.refl (fun _ => False) L w).alloc o) (LExt.refl _ _) (fun h => h) fun h => h
theorem DSta.grown {w w' : World} {Bc g : Nat} {L : Nat → List Nat} (h : DSta w Bc g L) (hc : Cur w' Bc g) : DSta w' Bc g L := ⟨hc, h.lg, h.code⟩
theorem wr9 {w w' : World} {Bc g : Nat} {L : Nat → List Nat} (h : DSta w Bc g L) (hg : w.grownBy w' (some g)) : Wr (· = [9]) L w w' := Wr.grown hg fun g' e => by injection e with e; rw [← e]; exact h.lg

def GBool (w : World) (Bc g : Nat) (L : Nat → List Nat) (e : Ending) (w' : World) : Prop := ∃ b : Bool, e = .returned (.bool b) ∧ DSta w' Bc g L ∧ Wr (· = [9]) L w w'
def GNum (lo hi : Int) (w : World) (Bc g : Nat) (L : Nat → List Nat) (e : Ending) (w' : World) : Prop := ∃ x : Int, e = .returned (.int .i64 x) ∧ lo ≤ x ∧ x ≤ hi ∧ DSta w' Bc g L ∧ Wr (· = [9]) L w w'
theorem once_st (n : Int) (w : World) (Bc g : Nat) (L : Nat → List Nat) (h : DSta w Bc g L) : Calls Try.prog 39 #[.pointer (some ⟨g, 0, none⟩), .int .i64 n] w (GBool w Bc g L) :=
  (l1Once_any Bc g n w h.cur).mono fun _ _ ⟨b, he, hc, hg⟩ => ⟨b, he, h.grown hc, wr9 h hg⟩
theorem below_st (n : Int) (w : World) (Bc g : Nat) (L : Nat → List Nat) (h : DSta w Bc g L) (hn : 0 < n) : Calls Try.prog 38 #[.pointer (some ⟨g, 0, none⟩), .int .i64 n] w (GNum 0 (n - 1) w Bc g L) :=
  (l1Below_any Bc g n w h.cur).mono fun _ _ ⟨x, he, h0, h1, hc, hg⟩ => ⟨x, he, h0, by omega, h.grown hc, wr9 h hg⟩
theorem from_st (lo hi : Int) (w : World) (Bc g : Nat) (L : Nat → List Nat) (h : DSta w Bc g L) (h0 : -1000 ≤ lo) (h1 : lo ≤ hi) (h2 : hi ≤ 1000000000) : Calls Try.prog 37 #[.pointer (some ⟨g, 0, none⟩), .int .i64 lo, .int .i64 hi] w (GNum lo hi w Bc g L) :=
  (l1From_any Bc g lo hi w h.cur h0 h1 h2).mono fun _ _ ⟨x, he, h0, h1, hc, hg⟩ => ⟨x, he, h0, h1, h.grown hc, wr9 h hg⟩

theorem relab_relab (L : Nat → List Nat) {n m : Nat} (p : List Nat) (h : n ≤ m) : relab (relab L n p) m p = relab L n p := by
  funext k
  unfold relab
  by_cases h1 : k < m
  · rw [if_pos h1]
  · rw [if_neg h1, if_neg (by omega)]

def EEnd (e : EndD) (cs : List Value) : Prop := cs = [.int .i64 e.k, .int .i64 e.a, .int .i64 e.t, .int .i64 e.l]
/-- All targets are below n. -/
def EndT (n : Int) (e : EndD) : Prop := ∀ u ∈ toL e.k e.t e.l, 0 ≤ u ∧ u < n
theorem endT_ret (n a : Int) : EndT n ⟨1, a, 0, 0⟩ := fun u hu => by simp [toL] at hu
theorem endT_jump {n t a : Int} (h : 0 ≤ t ∧ t < n) : EndT n ⟨2, a, t, 0⟩ := fun u hu => by simp [toL] at hu; omega
theorem endT_if {n t l a : Int} (h : 0 ≤ t ∧ t < n) (h' : 0 ≤ l ∧ l < n) : EndT n ⟨3, a, t, l⟩ := fun u hu => by simp [toL] at hu; omega

/-- Block q is an End. -/
def EndB (w : World) (q : Nat) (k a t l : Int) : Prop := w.heap[q]? = some (.cells #[.int .i64 k, .int .i64 a, .int .i64 t, .int .i64 l] 29 (0, 0))
theorem EndB.cells {w : World} {q : Nat} {k a t l : Int} (h : EndB w q k a t l) : (w.cell? ⟨q, 0, none⟩ = some (.int .i64 k) ∧ w.cell? ⟨q, 1, none⟩ = some (.int .i64 a) ∧ w.cell? ⟨q, 2, none⟩ = some (.int .i64 t) ∧ w.cell? ⟨q, 3, none⟩ = some (.int .i64 l)) ∧ (∀ j, w.frozen? ⟨q, j, none⟩ = false) :=
  ⟨⟨cell_of_row w q 0 _ _ _ h, cell_of_row w q 1 _ _ _ h, cell_of_row w q 2 _ _ _ h, cell_of_row w q 3 _ _ _ h⟩, fun j => frozen_of_row w q j _ _ h⟩
theorem EndB.wr {w w' : World} {q : Nat} {k a t l : Int} {L : Nat → List Nat} {P : List Nat → Prop} (h : EndB w q k a t l) (hw : Wr P L w w') (hn : ¬ P (L q)) : EndB w' q k a t l := (hw.block q (Array.getElem?_eq_some_iff.1 h).1 hn).trans h

def GivesEnds (n : Nat) (B : Nat) (w : World) (Bc g : Nat) (L : Nat → List Nat) (e : Ending) (w' : World) : Prop :=
  ∃ r es, e = .returned r ∧ es.length = n ∧ (∀ (i : Nat) x, es[i]? = some x → EndT n x) ∧ LR w' B 29 4 (relab L w.heap.size [11]) [11] (fun _ => EEnd) r es ∧ DSta w' Bc g (relab L w.heap.size [11]) ∧ Wr (fun p => p = [9] ∨ p = [11]) L w w'

theorem LR.lit0 {α : Type} (w : World) {B : Nat} {T : TypeId} {S : Nat} {L : Nat → List Nat} {p : List Nat} {E : Nat → α → List Value → Prop} (hB : B ≤ w.heap.size) (hL : L w.heap.size = p) : LR (w.alloc (.cells #[] T)) B T S L p E (.slice (some ⟨w.heap.size, 0, none⟩) 0 0) [] :=
  ⟨[], World.ownsRow_lit (base := B) (e := T) (size := S) w #[] 0 hB (by rw [maxLen_is]; omega) (by simp), fun g hg => by simp [Value.ownBlock] at hg; rw [← hg]; exact hL, fun k x h => by simp at h⟩
theorem endT_snoc {n : Int} {es : List EndD} {e : EndD} (h : ∀ (i : Nat) x, es[i]? = some x → EndT n x) (he : EndT n e) : ∀ (i : Nat) x, (es ++ [e])[i]? = some x → EndT n x := fun i x hx => by
  rcases Nat.lt_trichotomy i es.length with h' | h' | h'
  · rw [List.getElem?_append_left h'] at hx; exact h i x hx
  · subst h'
    rw [List.getElem?_append_right (Nat.le_refl _), Nat.sub_self] at hx
    simp at hx
    subst hx
    exact he
  · rw [List.getElem?_eq_none (by simp; omega)] at hx; cases hx

theorem LR.far {α : Type} {w : World} {B : Nat} {T : TypeId} {S : Nat} {L : Nat → List Nat} {p : List Nat} {E : Nat → α → List Value → Prop} {v : Value} {X : List α} {q : Nat} (h : LR w B T S L p E v X) (hne : ∀ g, v.ownBlock = some g → g ≠ q) (o : Nat) (u : Value) : LR (w.setCell ⟨q, o, none⟩ u) B T S L p E v X := by
  obtain ⟨xs, h1, h2, h3⟩ := h
  refine ⟨xs, World.ownsRow.kept h1 (set_grown w q o u) ?_, h2, h3⟩
  rcases hob : v.ownBlock with _ | k
  · exact .inl rfl
  · exact .inr fun e => hne k hob (by injection e)

/-- The state while an End is made in block q. -/
structure ESt (w0 w : World) (n : Nat) (Bc g q : Nat) (L0 L : Nat → List Nat) (v : Value) (es : List EndD) (k a t l : Int) : Prop where
  E : EndB w q k a t l
  D : DSta w Bc g L
  W : Wr (fun p => p = [9] ∨ p = [11]) L0 w0 w
  O : LR w w0.heap.size 29 4 L [11] (fun _ => EEnd) v es
  lq : L q = [11]
  ge : w0.heap.size ≤ q
  ext : LExt w0 L0 L
  far : ∀ g, v.ownBlock = some g → g ≠ q

theorem ESt.call {w0 w w' : World} {n Bc g q : Nat} {L0 L : Nat → List Nat} {v : Value} {es : List EndD} {k a t l : Int} (h : ESt w0 w n Bc g q L0 L v es k a t l) (hd : DSta w' Bc g L) (hw : Wr (· = [9]) L w w') : ESt w0 w' n Bc g q L0 L v es k a t l :=
  ⟨h.E.wr hw (by rw [h.lq]; simp), hd, h.W.trans (hw.mono fun _ h => .inl h) h.ext, h.O.keep hw (LExt.refl _ _) (by simp) fun _ _ _ h => h, h.lq, h.ge, h.ext, h.far⟩
theorem ESt.set {w0 w : World} {n Bc g q j : Nat} {u : Value} {L0 L : Nat → List Nat} {v : Value} {es : List EndD} {k a t l k' a' t' l' : Int} (h : ESt w0 w n Bc g q L0 L v es k a t l) (hE : EndB (w.setCell ⟨q, j, none⟩ u) q k' a' t' l') : ESt w0 (w.setCell ⟨q, j, none⟩ u) n Bc g q L0 L v es k' a' t' l' :=
  ⟨hE, h.D.keep ((Wr.refl (· = [11]) L w).set (fun _ => h.lq) _ _) (LExt.refl _ _) (by simp) (by simp), h.W.set (fun hlt => by have := h.ge; omega) _ _, h.O.far h.far _ _, h.lq, h.ge, h.ext, h.far⟩
theorem EndB.set0 {w : World} {q : Nat} {k a t l : Int} (h : EndB w q k a t l) (x : Int) : EndB (w.setCell ⟨q, 0, none⟩ (.int .i64 x)) q x a t l := heap_setCell_same w q 0 _ _ _ h
theorem EndB.set1 {w : World} {q : Nat} {k a t l : Int} (h : EndB w q k a t l) (x : Int) : EndB (w.setCell ⟨q, 1, none⟩ (.int .i64 x)) q k x t l := heap_setCell_same w q 1 _ _ _ h
theorem EndB.set2 {w : World} {q : Nat} {k a t l : Int} (h : EndB w q k a t l) (x : Int) : EndB (w.setCell ⟨q, 2, none⟩ (.int .i64 x)) q k a x l := heap_setCell_same w q 2 _ _ _ h
theorem EndB.set3 {w : World} {q : Nat} {k a t l : Int} (h : EndB w q k a t l) (x : Int) : EndB (w.setCell ⟨q, 3, none⟩ (.int .i64 x)) q k a t x := heap_setCell_same w q 3 _ _ _ h
theorem ESt.set4 {w0 w : World} {n Bc g q : Nat} {L0 L : Nat → List Nat} {v : Value} {es : List EndD} {k a t l : Int} (h : ESt w0 w n Bc g q L0 L v es k a t l) (k' a' t' l' : Int) :
    ESt w0 ((((w.setCell ⟨q, 0, none⟩ (.int .i64 k')).setCell ⟨q, 1, none⟩ (.int .i64 a')).setCell ⟨q, 2, none⟩ (.int .i64 t')).setCell ⟨q, 3, none⟩ (.int .i64 l')) n Bc g q L0 L v es k' a' t' l' := by
  have h0 := h.set (h.E.set0 k')
  have h1 := h0.set (h0.E.set1 a')
  have h2 := h1.set (h1.E.set2 t')
  exact h2.set (h2.E.set3 l')

set_option maxRecDepth 10000 in
set_option maxHeartbeats 2000000 in
theorem l2DrawEnds_any (n : Nat) (w : World) (Bc g : Nat) (L : Nat → List Nat) (hd : DSta w Bc g L) (hn1 : 1 ≤ n) (hn2 : n ≤ 6) :
    Calls Try.prog 73 #[.pointer (some ⟨g, 0, none⟩), .int .i64 n] w (GivesEnds n w.heap.size w Bc g L) := by
  have HD0 := Lib.hid hd
  clear hd
  go_enter Try.func73, Try.ntmps73
  go_wp2_with fail
  go_loopw [5, 6] (fun q i wr => ∃ k : Nat, k ≤ n ∧ i = .int .i64 k ∧ ∃ es : List EndD, k = es.length ∧ Hid (∀ (i : Nat) x, es[i]? = some x → EndT n x) ∧ Hid (LR wr w.heap.size 29 4 (relab L w.heap.size [11]) [11] (fun _ => EEnd) q es) ∧ Hid (DSta wr Bc g (relab L w.heap.size [11])) ∧ Hid (Wr (fun p => p = [9] ∨ p = [11]) L w wr)) (fun _ i _ => n - (intOf i).toNat)
  case atStart => exact ⟨0, Nat.zero_le _, rfl, [], rfl, fun i x hx => by simp at hx, LR.lit0 w (Nat.le_refl _) (relab_new _ (Nat.le_refl _)), (HD0.out.keep (Wr.refl (fun _ => False) _ _) (relab_ext w L _) (fun h => h) fun h => h).alloc _, (Wr.refl _ _ _).alloc _⟩
  case round =>
    obtain ⟨k, hk, rfl, es, rfl, HE, HO, HD, HW⟩ := hrel
    by_cases hlt : es.length < n
    case neg =>
      go_wp2
      go_ret
      exact ⟨_, es, rfl, by omega, HE.out, HO.out, HD.out, HW.out⟩
    have hlt' : (es.length : Int) < (n : Int) := by omega
    have hn1' : 1 ≤ (n : Int) := by omega
    have hn2' : (n : Int) ≤ 6 := by omega
    obtain ⟨Lr, hLr⟩ : ∃ Lr, Lr = relab L w.heap.size [11] := ⟨_, rfl⟩
    have hext : Hid (LExt w L Lr) := by rw [hLr]; exact relab_ext _ _ _
    have hidem : Hid (∀ m, w.heap.size ≤ m → relab Lr m [11] = Lr) := fun m hm => by rw [hLr]; exact relab_relab _ _ hm
    rw [← hLr] at HO HD
    have HLR := Lib.hid hLr
    clear hLr
    have hsr := HW.out.size
    obtain ⟨A5, c5, rfl, _⟩ := HO.out.form
    go_upto_if 21 with fail
    go_cut [8] from 10 to 53 (fun _ wx => ∃ k a t l : Int, Hid (EndB wx wr.heap.size k a t l) ∧ Hid (EndT n ⟨k, a, t, l⟩) ∧ Hid (DSta wx Bc g Lr) ∧ Hid (Wr (fun p => p = [9] ∨ p = [11]) L w wx) ∧ Hid (LR wx w.heap.size 29 4 Lr [11] (fun _ => EEnd) (.slice A5 es.length c5) es))
    case first =>
      have hst : ESt w (wr.alloc (.cells #[.int .i64 2, .int .i64 0, .int .i64 ((es.length : Int) + 1), .int .i64 0] 29)) n Bc g wr.heap.size L Lr (.slice A5 es.length c5) es 2 0 ((es.length : Int) + 1) 0 :=
        ⟨heap_alloc_new wr _, HD.out.alloc _, HW.out.alloc _, HO.out.keep ((Wr.refl (fun _ => False) _ _).alloc _) (LExt.refl _ _) (fun h => h) fun _ _ _ h => h, by rw [HLR.out]; exact relab_new _ hsr, hsr, hext.out, fun g' hg' => by
          obtain ⟨xs, h1, _⟩ := HO.out
          have := (World.ownsRow.lt h1 g' hg').2
          omega⟩
      have HST := Lib.hid hst
      clear hst
      generalize wr.alloc (.cells #[.int .i64 2, .int .i64 0, .int .i64 ((es.length : Int) + 1), .int .i64 0] 29) = w1 at *
      obtain ⟨⟨e0, e1, e2, e3⟩, ef⟩ := HST.out.E.cells
      have f0 := ef 0
      have f1 := ef 1
      have f2 := ef 2
      have f3 := ef 3
      clear ef
      by_cases hlast : es.length + 1 = n
      · have hb : ((es.length : Int) == (n : Int) - 1) = true := by simp; omega
        clear hlast
        go_wp2_with fail
        go_meet
        have h := HST.out.set4 1 0 0 0
        exact ⟨1, 0, 0, 0, h.E, endT_ret _ _, h.D, h.W, h.O⟩
      have hb : ((es.length : Int) == (n : Int) - 1) = false := by simp; omega
      have hjump : Hid (EndT n ⟨2, 0, (es.length : Int) + 1, 0⟩) := endT_jump (by omega)
      clear e0 e1 e2 e3 f0 f1 f2 f3
      by_cases h2 : 2 < (n : Int)
      case neg =>
        have h2' : (n : Int) ≤ 2 := by omega
        clear h2
        go_wp2_with fail
        go_meet
        exact ⟨2, 0, _, 0, HST.out.E, hjump.out, HST.out.D, HST.out.W, HST.out.O⟩
      go_wp2_with fail
      refine (once_st _ _ Bc g Lr HST.out.D).mono ?_
      rintro e w2 ⟨b, rfl, hd2, hw2⟩
      have HS2 := Lib.hid (HST.out.call hd2 hw2)
      clear hd2 hw2 HST
      cases b
      case true =>
        go_wp2_with fail
        go_meet
        exact ⟨2, 0, _, 0, HS2.out.E, hjump.out, HS2.out.D, HS2.out.W, HS2.out.O⟩
      go_wp2_with fail
      refine (below_st _ _ Bc g Lr HS2.out.D (by omega)).mono ?_
      rintro e w3 ⟨x, rfl, hx0, hx1, hd3, hw3⟩
      have HS3 := Lib.hid (HS2.out.call hd3 hw3)
      clear hd3 hw3 HS2
      by_cases hx : 1 + x = (es.length : Int) + 1
      · have hb2 : ((1 + x) != (es.length : Int) + 1) = false := by simpa using hx
        clear hx
        go_wp2_with fail
        go_meet
        exact ⟨2, 0, _, 0, HS3.out.E, hjump.out, HS3.out.D, HS3.out.W, HS3.out.O⟩
      have hb2 : ((1 + x) != (es.length : Int) + 1) = true := by simpa using hx
      clear hx
      obtain ⟨⟨e0, e1, e2, e3⟩, ef⟩ := HS3.out.E.cells
      have f0 := ef 0
      have f1 := ef 1
      have f2 := ef 2
      have f3 := ef 3
      clear ef
      go_wp2_with fail
      have h4 := HS3.out.set4 3 0 ((es.length : Int) + 1) (1 + x)
      have HS4 := Lib.hid h4
      refine (once_st _ _ Bc g Lr h4.D).mono ?_
      rintro e w5 ⟨b, rfl, hd5, hw5⟩
      have HS5 := Lib.hid (HS4.out.call hd5 hw5)
      clear hd5 hw5 h4 HS4 HS3 e0 e1 e2 e3 f0 f1 f2 f3
      cases b
      · go_wp2_with fail
        go_meet
        exact ⟨3, 0, _, _, HS5.out.E, endT_if (by omega) (by omega), HS5.out.D, HS5.out.W, HS5.out.O⟩
      · obtain ⟨⟨e0, e1, e2, e3⟩, ef⟩ := HS5.out.E.cells
        have f2 := ef 2
        have f3 := ef 3
        clear ef
        go_wp2_with fail
        go_meet
        have h6 := HS5.out.set (HS5.out.E.set2 (1 + x))
        have h7 := h6.set (h6.E.set3 ((es.length : Int) + 1))
        exact ⟨3, 0, _, _, h7.E, endT_if (by omega) (by omega), h7.D, h7.W, h7.O⟩
    case rest =>
      obtain ⟨k, a, t, l, EB, ET, HDx, HWx, HOx⟩ := hcut
      obtain ⟨⟨e0, e1, e2, e3⟩, ef⟩ := EB.out.cells
      have hsz := HWx.out.size
      have HQ := Lib.hid (heap_alloc_new wc (.cells #[.int .i64 k, .int .i64 a, .int .i64 t, .int .i64 l] 29))
      have hwr0 := (Wr.refl (fun _ => False) Lr wc).alloc (.cells #[.int .i64 k, .int .i64 a, .int .i64 t, .int .i64 l] 29)
      have HW0 := Lib.hid hwr0
      clear hwr0
      go_wp2_with (at_builtin; go_must (refine LR.wp_append rt_End rfl (.tmp 50) (.tmp 52) rfl _ wc.heap.size _ rfl (HOx.out.keep HW0.out (LExt.refl _ _) (fun h => h) fun _ _ _ h => h) rfl HQ.out rfl (by simp [Value.oneCell']) (by simp; omega) (by omega) ?_; intro gg cap w9 hs9; have HS := Lib.hid hs9; clear hs9))
      have HO9 := Lib.hid (HS.out.lr (fun _ => EEnd) ⟨k, a, t, l⟩ (fun _ _ _ h => h) rfl)
      rw [hidem.out _ (by simp; omega)] at HO9
      have hwr := (HW0.out.mono (Q := (· = [11])) fun _ h => h.elim).trans HS.out.wr (LExt.refl _ _)
      have HD9 := Lib.hid (HDx.out.keep hwr (LExt.refl _ _) (by simp) (by simp))
      have HW9 : Hid (Wr (fun p => p = [9] ∨ p = [11]) L w w9) := HWx.out.trans (hwr.mono fun _ h => .inr h) hext.out
      have HE9 := Lib.hid (endT_snoc HE.out ET.out)
      rw [HLR.out] at HO9 HD9
      clear hwr HS HO HD HW HE EB e0 e1 e2 e3 ef HQ HW0 HDx HWx HOx HLR hidem hext
      go_roundw
      case rel => exact ⟨es.length + 1, by omega, by go_num, es ++ [⟨k, a, t, l⟩], by simp, HE9, HO9, HD9, HW9⟩
      case measure => simp [intOf]; omega

end Go.Proofs.Yteikpekffgifoaa
