/- addOnce of the program: one place more, if it is not the last one already. -/
import Derived.Test.YtbghcoihndlihaaAdd
import Derived.Laws.StructEq
namespace Go.Proofs.Ytbghcoihndlihaa
open Go.ChangeShapes Go.WideShapes Go.ChangeAt Go.RowKit Go.Joins

theorem getLast?_get {l : List MoveD} (h : l ≠ []) : ∃ x, l.getLast? = some x ∧ l[l.length - 1]? = some x := by
  cases hx : l.getLast? with
  | none => exact absurd (List.getLast?_eq_none_iff.1 hx) h
  | some x => exact ⟨x, rfl, by rw [← List.getLast?_eq_getElem?]; exact hx⟩

set_option maxRecDepth 10000 in
set_option maxHeartbeats 1000000 in
theorem addOnce_any (G n : Nat) (row : Nat → List MoveD) (j : Nat) (p : MoveD) (w : World) (h : QRow w (G + 1) G n row) (hj : j < n) (hlen : (row j).length ≤ 1000000) :
    Calls Try.prog 47 #[.slice (some ⟨G, 0, none⟩) n n, .int .i64 j, .agg #[.int .i64 p.dst, .int .i64 p.src]] w (GivesAdd G n (fun i => if i = j then once (row j) p else row i) w) := by
  have hG := h.lt
  have hj' : (j : Int) < (n : Int) := by omega
  have hj0 : 0 ≤ (j : Int) := by omega
  have hB1 : Below w.heap.size w (w.alloc (.cells #[.int .i64 p.dst, .int .i64 p.src] 43)) := (Below.refl _ _).alloc (Nat.le_refl _) _
  have HQ1 := Lib.hid (h.below hB1)
  have HA1 := Lib.hid (Adds.below hB1 hG)
  obtain ⟨v, hcv, hov⟩ := h.get hj
  have hcv1 := (hB1.cell (p := ⟨G, j, none⟩) (show G < w.heap.size by omega)).trans hcv
  have HO1 := Lib.hid (hov.row)
  have hvl := hov.lt
  obtain ⟨A, c, rfl⟩ := hov.form
  have HL := Lib.hid hvl
  clear hov h hcv hvl
  by_cases hne : row j = []
  case pos =>
    have HE : Hid ((fun i => if i = j then row j ++ [p] else row i) = fun i => if i = j then once (row j) p else row i) := by rw [hne]; rfl
    have hl0 : (row j).length = 0 := by rw [hne]; rfl
    rw [hl0] at hcv1
    have HNE := Lib.hid hne
    clear hne
    go_enter Try.func47, Try.ntmps47
    go_wp2_with fail
    go_quiet (fail)
    go_wp2_with fail
    have HQ2 := Lib.hid (HQ1.out.below (below_drewN (Below.refl _ _) nq))
    refine (add_any G n row j p _ HQ2.out hj hlen).mono ?_
    rintro e w3 ⟨_, rfl, hq3, ha3⟩
    have HQ3 : Hid (QRow w3 (G + 1) G n fun i => if i = j then once (row j) p else row i) := by
      rw [← HE.out]; exact hq3
    have HA3 := Lib.hid ((HA1.out.trans (Adds.below (below_drewN (Below.refl _ _) nq) (by simp; omega))).trans ha3)
    go_wp2_with fail
    exact bodyPost_end (results_none Try.results47 _ _ _) rfl ⟨_, rfl, HQ3.out, HA3.out⟩
  obtain ⟨x, hx1, hx2⟩ := getLast?_get hne
  have hl1 : 1 ≤ (row j).length := by
    rcases Nat.eq_zero_or_pos (row j).length with h | h
    · exact absurd (List.length_eq_zero_iff.1 h) hne
    · exact h
  obtain ⟨_, A', c', e1, hrow⟩ := HO1.out
  injection e1 with e1 _ e2
  subst e1 e2
  obtain ⟨b, off, rfl, _, hrow⟩ := hrow hne
  obtain ⟨cs, hE, hcs⟩ := hrow _ x hx2
  subst hE
  have hbl : b < w.heap.size := (HL.out b rfl).2
  have c0 := (hB1.cell (p := ⟨b, _, none⟩) hbl).trans (hcs 0 _ rfl).1
  have c1 := (hB1.cell (p := ⟨b, _, none⟩) hbl).trans (hcs 1 _ rfl).1
  obtain ⟨m, hm⟩ : ∃ m, (row j).length = m + 1 := ⟨(row j).length - 1, by omega⟩
  rw [hm] at hcv1 hlen
  rw [show (row j).length - 1 = m by omega] at c0 c1
  have c0' : (w.alloc (.cells #[.int .i64 p.dst, .int .i64 p.src] 43)).cell? ⟨b, off + m * 2, none⟩ = some (.int .i64 x.dst) := c0
  have c1' : (w.alloc (.cells #[.int .i64 p.dst, .int .i64 p.src] 43)).cell? ⟨b, off + m * 2 + 1, none⟩ = some (.int .i64 x.src) := c1
  clear hcs hrow c0 c1 hne
  have HX1 := Lib.hid hx1
  clear hx1 hx2
  have hm0 : 0 ≤ (m : Int) := by omega
  have hm1 : (m : Int) < (m : Int) + 1 := by omega
  have hmw : IntKind.i64.wrap (m : Int) = (m : Int) := by rw [IntKind.wrap_i64]; omega
  have hz : ((m : Int) + 1 == 0) = false := by simp; omega
  by_cases hxp : x = p
  · have HE : Hid ((row) = fun i => if i = j then once (row j) p else row i) := by
      funext i
      by_cases e : i = j
      · subst e
        rw [if_pos rfl]
        unfold once
        rw [if_pos (by rw [HX1.out, hxp])]
      · rw [if_neg e]
    subst hxp
    have HQ1' : Hid (QRow (w.alloc (.cells #[.int .i64 x.dst, .int .i64 x.src] 43)) (G + 1) G n fun i => if i = j then once (row j) x else row i) := by
      rw [← HE.out]; exact HQ1.out
    have e0 : (x.dst == x.dst) = true := by simp
    have e1 : (x.src == x.src) = true := by simp
    go_enter Try.func47, Try.ntmps47
    go_wp2_with fail
    go_quiet (fail)
    go_wp2_with fail
    have HQ2 := Lib.hid (HQ1'.out.below (below_drewN (Below.refl _ _) nq))
    have HA2 := Lib.hid (HA1.out.trans (Adds.below (below_drewN (Below.refl _ _) nq) (by simp; omega)))
    exact bodyPost_end (results_none Try.results47 _ _ _) rfl ⟨_, rfl, HQ2.out, HA2.out⟩
  · have HE : Hid ((fun i => if i = j then row j ++ [p] else row i) = fun i => if i = j then once (row j) p else row i) := by
      funext i
      by_cases e : i = j
      · subst e
        rw [if_pos rfl, if_pos rfl]
        unfold once
        rw [if_neg (by rw [HX1.out]; intro h; exact hxp (Option.some.inj h))]
      · rw [if_neg e, if_neg e]
    have hlen' : (row j).length ≤ 1000000 := by omega
    obtain ⟨e0, e1⟩ | e0 : ((x.dst == p.dst) = true ∧ (x.src == p.src) = false) ∨ (x.dst == p.dst) = false := by
      by_cases h0 : x.dst = p.dst
      · by_cases h1 : x.src = p.src
        · exact absurd (by cases x; cases p; simp at h0 h1; subst h0 h1; rfl) hxp
        · exact .inl ⟨by simpa using h0, by simpa using h1⟩
      · exact .inr (by simpa using h0)
    all_goals
      clear hxp
      go_enter Try.func47, Try.ntmps47
      go_wp2_with fail
      go_quiet (fail)
      go_wp2_with fail
      have HQ2 := Lib.hid (HQ1.out.below (below_drewN (Below.refl _ _) nq))
      refine (add_any G n row j p _ HQ2.out hj hlen').mono ?_
      rintro e w3 ⟨_, rfl, hq3, ha3⟩
      have HQ3 : Hid (QRow w3 (G + 1) G n fun i => if i = j then once (row j) p else row i) := by
        rw [← HE.out]; exact hq3
      have HA3 := Lib.hid ((HA1.out.trans (Adds.below (below_drewN (Below.refl _ _) nq) (by simp; omega))).trans ha3)
      go_wp2_with fail
      exact bodyPost_end (results_none Try.results47 _ _ _) rfl ⟨_, rfl, HQ3.out, HA3.out⟩

end Go.Proofs.Ytbghcoihndlihaa
