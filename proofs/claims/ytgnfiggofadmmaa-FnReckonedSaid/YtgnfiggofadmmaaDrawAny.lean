/- The drawing of any instruction, and what starts a drawing. -/
import Derived.Test.YtgnfiggofadmmaaDrawIns
namespace Go.Proofs.Ytgnfiggofadmmaa
open Go.ChangeShapes Go.WideShapes Go.ChangeAt Go.RowKit Go.Joins

theorem InsB.set0 {w : World} {q : Nat} {o v a b : Int} (h : InsB w q o v a b) (x : Int) : InsB (w.setCell ⟨q, 0, none⟩ (.int .i64 x)) q x v a b := heap_setCell_same w q 0 _ _ _ h
theorem InsB.set1 {w : World} {q : Nat} {o v a b : Int} (h : InsB w q o v a b) (x : Int) : InsB (w.setCell ⟨q, 1, none⟩ (.int .i64 x)) q o x a b := heap_setCell_same w q 1 _ _ _ h
theorem InsB.set2 {w : World} {q : Nat} {o v a b : Int} (h : InsB w q o v a b) (x : Int) : InsB (w.setCell ⟨q, 2, none⟩ (.int .i64 x)) q o v x b := heap_setCell_same w q 2 _ _ _ h
theorem InsB.set3 {w : World} {q : Nat} {o v a b : Int} (h : InsB w q o v a b) (x : Int) : InsB (w.setCell ⟨q, 3, none⟩ (.int .i64 x)) q o v a x := heap_setCell_same w q 3 _ _ _ h
theorem InsB.far {w : World} {q p : Nat} {o v a b : Int} (h : InsB w q o v a b) (hne : q ≠ p) (j : Nat) (u : Value) : InsB (w.setCell ⟨p, j, none⟩ u) q o v a b := (Below.heap_setCell w ⟨p, j, none⟩ u q hne).trans h
theorem InsB.alloc {w : World} {q : Nat} {o v a b : Int} (h : InsB w q o v a b) (ob : Obj) : InsB (w.alloc ob) q o v a b := (Below.heap_alloc w ob q h.lt).trans h

/-- How things stand between two calls: the cursor, the result's block R, the variable's block V. -/
structure DSt (B g R V : Nat) (w wk : World) (o v a b : Int) : Prop where
  cur : Cur wk B g
  inR : InsB wk R 0 0 0 0
  inV : InsB wk V o v a b
  grown : w.grownBy wk (some g)
  lt : R < V
  le : w.heap.size ≤ R
  gl : g < w.heap.size
theorem DSt.step {B g R V : Nat} {w wk w' : World} {o v a b : Int} (h : DSt B g R V w wk o v a b) (hc : Cur w' B g) (hg : wk.grownBy w' (some g)) : DSt B g R V w w' o v a b :=
  have h1 := h.lt; have h2 := h.le; have h3 := h.gl
  ⟨hc, h.inR.grown hg (by omega), h.inV.grown hg (by omega), h.grown.trans hg, h.lt, h.le, h.gl⟩
theorem DSt.set {B g R V : Nat} {w wk : World} {o v a b o' v' a' b' : Int} (h : DSt B g R V w wk o v a b) {j : Nat} {u : Value} (hV : InsB (wk.setCell ⟨V, j, none⟩ u) V o' v' a' b') : DSt B g R V w (wk.setCell ⟨V, j, none⟩ u) o' v' a' b' :=
  have h1 := h.lt; have h2 := h.le; have h3 := h.gl; have h4 := h.cur.1
  ⟨cur_set h.cur (by omega) (by omega) _ _, h.inR.far (by omega) _ _, hV, grown_new h.grown (by omega) _ _, h.lt, h.le, h.gl⟩
theorem DSt.facts {B g R V : Nat} {w wk : World} {o v a b : Int} (h : DSt B g R V w wk o v a b) :
    ((wk.cell? ⟨R, 0, none⟩ = some (.int .i64 0) ∧ wk.cell? ⟨R, 1, none⟩ = some (.int .i64 0) ∧ wk.cell? ⟨R, 2, none⟩ = some (.int .i64 0) ∧ wk.cell? ⟨R, 3, none⟩ = some (.int .i64 0)) ∧
     (wk.frozen? ⟨R, 0, none⟩ = false ∧ wk.frozen? ⟨R, 1, none⟩ = false ∧ wk.frozen? ⟨R, 2, none⟩ = false ∧ wk.frozen? ⟨R, 3, none⟩ = false)) ∧
    ((wk.cell? ⟨V, 0, none⟩ = some (.int .i64 o) ∧ wk.cell? ⟨V, 1, none⟩ = some (.int .i64 v) ∧ wk.cell? ⟨V, 2, none⟩ = some (.int .i64 a) ∧ wk.cell? ⟨V, 3, none⟩ = some (.int .i64 b)) ∧
     (wk.frozen? ⟨V, 0, none⟩ = false ∧ wk.frozen? ⟨V, 1, none⟩ = false ∧ wk.frozen? ⟨V, 2, none⟩ = false ∧ wk.frozen? ⟨V, 3, none⟩ = false)) := ⟨h.inR.cells, h.inV.cells⟩
theorem DSt.ret {B g R V : Nat} {w wk : World} {o v a b : Int} (h : DSt B g R V w wk o v a b) (x0 x1 x2 x3 : Value) :
    Cur ((((wk.setCell ⟨R, 0, none⟩ x0).setCell ⟨R, 1, none⟩ x1).setCell ⟨R, 2, none⟩ x2).setCell ⟨R, 3, none⟩ x3) B g ∧
    w.grownBy ((((wk.setCell ⟨R, 0, none⟩ x0).setCell ⟨R, 1, none⟩ x1).setCell ⟨R, 2, none⟩ x2).setCell ⟨R, 3, none⟩ x3) (some g) := by
  have h2 := h.le
  have h3 := h.gl
  have h4 := h.cur.1
  have hRg : R ≠ g := by omega
  have hB : B ≤ R := by omega
  exact ⟨cur_set (cur_set (cur_set (cur_set h.cur hRg hB _ _) hRg hB _ _) hRg hB _ _) hRg hB _ _, grown_new (grown_new (grown_new (grown_new h.grown h2 _ _) h2 _ _) h2 _ _) h2 _ _⟩

set_option maxHeartbeats 1000000 in
theorem l1DrawAny_any (B g : Nat) (w : World) (hc : Cur w B g) :
    Calls Try.prog 25 #[.pointer (some ⟨g, 0, none⟩)] w (GivesIns B g w) := by
  have HC := Lib.hid hc
  clear hc
  have hgl := cur_lt HC.out
  go_enter Try.func25, Try.ntmps25
  go_wp2_with fail
  refine (l1DrawIns_any B g _ (cur_alloc HC.out _)).mono ?_
  rintro e w1 ⟨o, v, a, b, rfl, hc1, HG1⟩
  have hR : InsB (w.alloc (.cells #[.int .i64 0, .int .i64 0, .int .i64 0, .int .i64 0] 25)) w.heap.size 0 0 0 0 := heap_alloc_new w _
  have hR1 := hR.grown HG1 (by omega)
  have hl1 := hR1.lt
  have hS : DSt B g w.heap.size w1.heap.size w (w1.alloc (.cells #[.int .i64 o, .int .i64 v, .int .i64 a, .int .i64 b] 25)) o v a b :=
    ⟨cur_alloc hc1 _, hR1.alloc _, heap_alloc_new w1 _, grown_alloc (grown_of_alloc HG1) _, hl1, Nat.le_refl _, hgl⟩
  clear hR hR1 HG1 hc1 hl1 hgl HC
  have HS := Lib.hid hS
  clear hS
  go_wp2_with fail
  refine (l1Once_any B g _ _ HS.out.cur).mono ?_
  rintro e w2 ⟨x, rfl, hc2, HG2⟩
  have HS2 := Lib.hid (HS.out.step hc2 HG2)
  clear HG2 hc2 HS
  cases x
  · obtain ⟨⟨⟨p0, p1, p2, p3⟩, ⟨q0, q1, q2, q3⟩⟩, ⟨⟨s0, s1, s2, s3⟩, ⟨t0, t1, t2, t3⟩⟩⟩ := HS2.out.facts
    go_wp2_with fail
    refine bodyPost_ret (v := .agg #[.int .i64 o, .int .i64 v, .int .i64 a, .int .i64 b]) (by simp [results, Try.results25, go_sem, p0, p1, p2, p3]) rfl ⟨_, _, _, _, rfl, ?_, ?_⟩
    · exact (HS2.out.ret _ _ _ _).1
    · exact (HS2.out.ret _ _ _ _).2
  · go_wp2_with fail
    refine (l1Below_any B g _ _ HS2.out.cur).mono ?_
    rintro e w3 ⟨y, rfl, hy0, hy1, hc3, HG3⟩
    have HS3 := Lib.hid (HS2.out.step hc3 HG3)
    clear HG3 hc3 HS2
    have hy : y = 0 ∨ y = 1 ∨ y = 2 ∨ y = 3 := by omega
    clear hy0 hy1
    rcases hy with rfl | rfl | rfl | rfl
    · go_wp2_with fail
      refine (l1From_any B g 0 8 _ HS3.out.cur (by omega) (by omega) (by omega)).mono ?_
      rintro e w4 ⟨z4, rfl, hz0, hz1, hc4, HG4⟩
      have HS4 := Lib.hid (HS3.out.step hc4 HG4)
      clear HG4 hc4 HS3 hz0 hz1
      have HT4 := Lib.hid (HS4.out.set (HS4.out.inV.set0 z4))
      obtain ⟨⟨⟨p0, p1, p2, p3⟩, ⟨q0, q1, q2, q3⟩⟩, ⟨⟨s0, s1, s2, s3⟩, ⟨t0, t1, t2, t3⟩⟩⟩ := HS4.out.facts
      have hne := Nat.ne_of_lt HS4.out.lt
      go_wp2_with fail
      refine bodyPost_ret (v := .agg #[.int .i64 z4, .int .i64 v, .int .i64 a, .int .i64 b]) (by simp [results, Try.results25, go_sem, p0, p1, p2, p3]) rfl ⟨_, _, _, _, rfl, ?_, ?_⟩
      · exact (HT4.out.ret _ _ _ _).1
      · exact (HT4.out.ret _ _ _ _).2
    · go_wp2_with fail
      refine (l1Num_any B g 149 _ HS3.out.cur (by omega) (by omega)).mono ?_
      rintro e w4 ⟨z4, rfl, hc4, HG4⟩
      have HS4 := Lib.hid (HS3.out.step hc4 HG4)
      clear HG4 hc4 HS3
      have HT4 := Lib.hid (HS4.out.set (HS4.out.inV.set1 z4))
      obtain ⟨⟨⟨p0, p1, p2, p3⟩, ⟨q0, q1, q2, q3⟩⟩, ⟨⟨s0, s1, s2, s3⟩, ⟨t0, t1, t2, t3⟩⟩⟩ := HS4.out.facts
      have hne := Nat.ne_of_lt HS4.out.lt
      go_wp2_with fail
      refine bodyPost_ret (v := .agg #[.int .i64 o, .int .i64 z4, .int .i64 a, .int .i64 b]) (by simp [results, Try.results25, go_sem, p0, p1, p2, p3]) rfl ⟨_, _, _, _, rfl, ?_, ?_⟩
      · exact (HT4.out.ret _ _ _ _).1
      · exact (HT4.out.ret _ _ _ _).2
    · go_wp2_with fail
      refine (l1Num_any B g 149 _ HS3.out.cur (by omega) (by omega)).mono ?_
      rintro e w4 ⟨z4, rfl, hc4, HG4⟩
      have HS4 := Lib.hid (HS3.out.step hc4 HG4)
      clear HG4 hc4 HS3
      have HT4 := Lib.hid (HS4.out.set (HS4.out.inV.set2 z4))
      obtain ⟨⟨⟨p0, p1, p2, p3⟩, ⟨q0, q1, q2, q3⟩⟩, ⟨⟨s0, s1, s2, s3⟩, ⟨t0, t1, t2, t3⟩⟩⟩ := HS4.out.facts
      have hne := Nat.ne_of_lt HS4.out.lt
      go_wp2_with fail
      refine (l1Once_any B g _ _ HT4.out.cur).mono ?_
      rintro e w5 ⟨x5, rfl, hc5, HG5⟩
      have HS5 := Lib.hid (HT4.out.step hc5 HG5)
      clear HG5 hc5 HT4 hne p0 p1 p2 p3 q0 q1 q2 q3 s0 s1 s2 s3 t0 t1 t2 t3
      cases x5
      · obtain ⟨⟨⟨p0, p1, p2, p3⟩, ⟨q0, q1, q2, q3⟩⟩, ⟨⟨s0, s1, s2, s3⟩, ⟨t0, t1, t2, t3⟩⟩⟩ := HS5.out.facts
        go_wp2_with fail
        refine bodyPost_ret (v := .agg #[.int .i64 o, .int .i64 v, .int .i64 z4, .int .i64 b]) (by simp [results, Try.results25, go_sem, p0, p1, p2, p3]) rfl ⟨_, _, _, _, rfl, ?_, ?_⟩
        · exact (HS5.out.ret _ _ _ _).1
        · exact (HS5.out.ret _ _ _ _).2
      · go_wp2_with fail
        refine (l1Num_any B g 1000002 _ HS5.out.cur (by omega) (by omega)).mono ?_
        rintro e w6 ⟨z6, rfl, hc6, HG6⟩
        have HS6 := Lib.hid (HS5.out.step hc6 HG6)
        clear HG6 hc6 HS5
        have HT6 := Lib.hid (HS6.out.set (HS6.out.inV.set2 z6))
        obtain ⟨⟨⟨p0, p1, p2, p3⟩, ⟨q0, q1, q2, q3⟩⟩, ⟨⟨s0, s1, s2, s3⟩, ⟨t0, t1, t2, t3⟩⟩⟩ := HS6.out.facts
        have hne := Nat.ne_of_lt HS6.out.lt
        go_wp2_with fail
        refine bodyPost_ret (v := .agg #[.int .i64 o, .int .i64 v, .int .i64 z6, .int .i64 b]) (by simp [results, Try.results25, go_sem, p0, p1, p2, p3]) rfl ⟨_, _, _, _, rfl, ?_, ?_⟩
        · exact (HT6.out.ret _ _ _ _).1
        · exact (HT6.out.ret _ _ _ _).2
    · go_wp2_with fail
      refine (l1Num_any B g 149 _ HS3.out.cur (by omega) (by omega)).mono ?_
      rintro e w4 ⟨z4, rfl, hc4, HG4⟩
      have HS4 := Lib.hid (HS3.out.step hc4 HG4)
      clear HG4 hc4 HS3
      have HT4 := Lib.hid (HS4.out.set (HS4.out.inV.set3 z4))
      obtain ⟨⟨⟨p0, p1, p2, p3⟩, ⟨q0, q1, q2, q3⟩⟩, ⟨⟨s0, s1, s2, s3⟩, ⟨t0, t1, t2, t3⟩⟩⟩ := HS4.out.facts
      have hne := Nat.ne_of_lt HS4.out.lt
      go_wp2_with fail
      refine bodyPost_ret (v := .agg #[.int .i64 o, .int .i64 v, .int .i64 a, .int .i64 z4]) (by simp [results, Try.results25, go_sem, p0, p1, p2, p3]) rfl ⟨_, _, _, _, rfl, ?_, ?_⟩
      · exact (HT4.out.ret _ _ _ _).1
      · exact (HT4.out.ret _ _ _ _).2

end Go.Proofs.Ytgnfiggofadmmaa
