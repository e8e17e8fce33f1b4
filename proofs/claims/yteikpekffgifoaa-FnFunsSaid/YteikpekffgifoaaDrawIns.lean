/- The drawing of an instruction. -/
import Derived.Test.YteikpekffgifoaaDraw
namespace Go.Proofs.Yteikpekffgifoaa
open Go.ChangeShapes Go.WideShapes Go.ChangeAt Go.RowKit Go.Joins

/-- Block q is the four integers of an impl.Ins. -/
def InsB (w : World) (q : Nat) (o v a b : Int) : Prop := w.heap[q]? = some (.cells #[.int .i64 o, .int .i64 v, .int .i64 a, .int .i64 b] 101 (0, 0))
theorem InsB.lt {w : World} {q : Nat} {o v a b : Int} (h : InsB w q o v a b) : q < w.heap.size := by
  unfold InsB at h
  rcases Nat.lt_or_ge q w.heap.size with hlt | hge
  · exact hlt
  · rw [Array.getElem?_eq_none hge] at h; cases h
theorem InsB.cells {w : World} {q : Nat} {o v a b : Int} (h : InsB w q o v a b) :
    (w.cell? ⟨q, 0, none⟩ = some (.int .i64 o) ∧ w.cell? ⟨q, 1, none⟩ = some (.int .i64 v) ∧ w.cell? ⟨q, 2, none⟩ = some (.int .i64 a) ∧ w.cell? ⟨q, 3, none⟩ = some (.int .i64 b)) ∧
    (w.frozen? ⟨q, 0, none⟩ = false ∧ w.frozen? ⟨q, 1, none⟩ = false ∧ w.frozen? ⟨q, 2, none⟩ = false ∧ w.frozen? ⟨q, 3, none⟩ = false) :=
  ⟨⟨cell_of_row w q 0 _ _ _ h, cell_of_row w q 1 _ _ _ h, cell_of_row w q 2 _ _ _ h, cell_of_row w q 3 _ _ _ h⟩, ⟨frozen_of_row w q 0 _ _ h, frozen_of_row w q 1 _ _ h, frozen_of_row w q 2 _ _ h, frozen_of_row w q 3 _ _ h⟩⟩
theorem InsB.grown {w w1 : World} {q g : Nat} {o v a b : Int} (h : InsB w q o v a b) (hg : w.grownBy w1 (some g)) (hne : q ≠ g) : InsB w1 q o v a b :=
  (hg.block q h.lt (fun e => hne (by injection e))).trans h

theorem grown_new {w w1 : World} {r : Option Nat} (h : w.grownBy w1 r) {p : Nat} (hp : w.heap.size ≤ p) (j : Nat) (u : Value) : w.grownBy (w1.setCell ⟨p, j, none⟩ u) r :=
  ⟨h.os, h.tape, h.output, by simpa [World.setCell] using h.size, fun k hk hne => (Below.heap_setCell w1 ⟨p, j, none⟩ u k (show k ≠ p by omega)).trans (h.block k hk hne)⟩
theorem cur_set {w : World} {B g : Nat} (h : Cur w B g) {p : Nat} (hp : p ≠ g) (hB : B ≤ p) (j : Nat) (u : Value) : Cur (w.setCell ⟨p, j, none⟩ u) B g := by
  obtain ⟨hB', v, n, i, k, hv, hi, hg⟩ := h
  exact ⟨hB', v, n, i, k, hv.keep fun b o' hb => World.cell?_of_block (Below.heap_setCell w ⟨p, j, none⟩ u b (show b ≠ p by omega)), hi, (Below.heap_setCell w ⟨p, j, none⟩ u g (fun e => hp e.symm)).trans hg⟩

def GivesIns (B g : Nat) (w : World) (e : Ending) (w' : World) : Prop := ∃ o v a b : Int, e = .returned (.agg #[.int .i64 o, .int .i64 v, .int .i64 a, .int .i64 b]) ∧ Cur w' B g ∧ w.grownBy w' (some g)

set_option maxHeartbeats 1000000 in
theorem l1DrawIns_any (B g : Nat) (w : World) (hc : Cur w B g) :
    Calls Try.prog 71 #[.pointer (some ⟨g, 0, none⟩)] w (GivesIns B g w) := by
  have HC := Lib.hid hc
  clear hc
  have hgl := cur_lt HC.out
  have hBl := cur_le HC.out
  go_enter Try.func71, Try.ntmps71
  go_wp2_with fail
  refine (l1Below_any B g _ _ (cur_alloc HC.out _)).mono ?_
  rintro e w1 ⟨x, rfl, hx0, hx1, hc1, HG1⟩
  have HC1 := Lib.hid hc1
  clear hc1
  go_wp2_with fail
  refine (l1Below_any B g _ _ HC1.out).mono ?_
  rintro e w2 ⟨y, rfl, hy0, hy1, hc2, HG2⟩
  have HC2 := Lib.hid hc2
  clear hc2
  go_wp2_with fail
  refine (l1Below_any B g _ _ HC2.out).mono ?_
  rintro e w3 ⟨z, rfl, hz0, hz1, hc3, HG3⟩
  have HC3 := Lib.hid hc3
  clear hc3
  have hR : InsB (w.alloc (.cells #[.int .i64 0, .int .i64 0, .int .i64 0, .int .i64 0] 101)) w.heap.size 0 0 0 0 := heap_alloc_new w _
  have hR3 := ((hR.grown HG1 (by omega)).grown HG2 (by omega)).grown HG3 (by omega)
  have hl3 := hR3.lt
  have HW3 := Lib.hid ((grown_of_alloc HG1).trans HG2 |>.trans HG3)
  have HR3 := Lib.hid hR3
  clear hR hR3 HG1 HG2 HG3
  by_cases hx : 3 ≤ 1 + x ∧ 1 + x ≤ 6
  · obtain ⟨hxa, hxb⟩ := hx
    have hx7 : (1 + x == 7) = false := by simp; omega
    go_wp2_with fail
    refine (l1Below_any B g _ _ (cur_alloc HC3.out _)).mono ?_
    rintro e w4 ⟨b, rfl, hb0, hb1, hc4, HG4⟩
    have HC4 := Lib.hid hc4
    clear hc4
    have hV : InsB (w3.alloc (.cells #[.int .i64 (1 + x), .int .i64 y, .int .i64 z, .int .i64 0] 101)) w3.heap.size (1 + x) y z 0 := heap_alloc_new w3 _
    have hV4 := hV.grown HG4 (by omega)
    have hR4 := HR3.out.grown (grown_of_alloc HG4) (by omega)
    have hl4 := hV4.lt
    obtain ⟨⟨p0, p1, p2, p3⟩, ⟨q0, q1, q2, q3⟩⟩ := hR4.cells
    obtain ⟨⟨s0, s1, s2, s3⟩, ⟨t0, t1, t2, t3⟩⟩ := hV4.cells
    have HW4 := Lib.hid (HW3.out.trans (grown_of_alloc HG4))
    clear hV hV4 hR4 HG4
    go_wp2_with fail
    refine bodyPost_ret (v := .agg #[.int .i64 (1 + x), .int .i64 y, .int .i64 z, .int .i64 b]) (by simp [results, Try.results71, go_sem, p0, p1, p2, p3]) rfl ⟨_, _, _, _, rfl, ?_, ?_⟩
    · repeat (first | with_reducible exact HC4.out | with_reducible refine cur_alloc ?_ _ | with_reducible refine cur_set ?_ (by omega) (by omega) _ _)
    · repeat (first | with_reducible exact HW4.out | with_reducible refine grown_alloc ?_ _ | with_reducible refine grown_new ?_ (by omega) _ _)
  · by_cases hx7 : 1 + x = 7
    · obtain rfl : x = 6 := by omega
      clear hx hx7
      have hV : InsB (w3.alloc (.cells #[.int .i64 7, .int .i64 y, .int .i64 z, .int .i64 0] 101)) w3.heap.size 7 y z 0 := heap_alloc_new w3 _
      have hR4 : InsB (w3.alloc (.cells #[.int .i64 7, .int .i64 y, .int .i64 z, .int .i64 0] 101)) w.heap.size 0 0 0 0 := (Below.heap_alloc w3 _ _ hl3).trans HR3.out
      obtain ⟨⟨p0, p1, p2, p3⟩, ⟨q0, q1, q2, q3⟩⟩ := HR3.out.cells
      clear hV hR4
      go_wp2_with fail
      refine bodyPost_ret (v := .agg #[.int .i64 7, .int .i64 (-1), .int .i64 z, .int .i64 0]) (by simp [results, Try.results71, go_sem, p0, p1, p2, p3, hl3]) rfl ⟨_, _, _, _, rfl, ?_, ?_⟩
      · repeat (first | with_reducible exact HC3.out | with_reducible refine cur_alloc ?_ _ | with_reducible refine cur_set ?_ (by omega) (by omega) _ _)
      · repeat (first | with_reducible exact HW3.out | with_reducible refine grown_alloc ?_ _ | with_reducible refine grown_new ?_ (by omega) _ _)
    · have hx7' : (1 + x == 7) = false := by simpa using hx7
      have hx3 : 1 + x < 3 := by omega
      clear hx hx7
      have hV : InsB (w3.alloc (.cells #[.int .i64 (1 + x), .int .i64 y, .int .i64 z, .int .i64 0] 101)) w3.heap.size (1 + x) y z 0 := heap_alloc_new w3 _
      have hR4 : InsB (w3.alloc (.cells #[.int .i64 (1 + x), .int .i64 y, .int .i64 z, .int .i64 0] 101)) w.heap.size 0 0 0 0 := (Below.heap_alloc w3 _ _ hl3).trans HR3.out
      obtain ⟨⟨p0, p1, p2, p3⟩, ⟨q0, q1, q2, q3⟩⟩ := HR3.out.cells
      clear hV hR4
      go_wp2_with fail
      refine bodyPost_ret (v := .agg #[.int .i64 (1 + x), .int .i64 y, .int .i64 z, .int .i64 0]) (by simp [results, Try.results71, go_sem, p0, p1, p2, p3, hl3]) rfl ⟨_, _, _, _, rfl, ?_, ?_⟩
      · repeat (first | with_reducible exact HC3.out | with_reducible refine cur_alloc ?_ _ | with_reducible refine cur_set ?_ (by omega) (by omega) _ _)
      · repeat (first | with_reducible exact HW3.out | with_reducible refine grown_alloc ?_ _ | with_reducible refine grown_new ?_ (by omega) _ _)

end Go.Proofs.Yteikpekffgifoaa
