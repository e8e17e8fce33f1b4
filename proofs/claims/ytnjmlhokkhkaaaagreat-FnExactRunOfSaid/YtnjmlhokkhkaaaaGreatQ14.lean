/- Run4, joined. -/
import Derived.Test.YtnjmlhokkhkaaaaGreatQ10
import Derived.Stop.Asserts
namespace Go.Proofs.YtnjmlhokkhkaaaaGreat

/- goTo, endingOf, leaveBy of the program: where a run goes on. -/
section
open Go.ChangeShapes Go.WideShapes Go.ChangeAt Go.RowKit Go.Joins

set_option maxHeartbeats 1000000 in
theorem goTo_any (f : FunD) (wa w : World) (bl : Value) (R V G : Nat) (s : VSt) (st val : Int) (vis : Nat) (ev : Value) (t : Nat) (h : RW f wa w bl R V G s st val vis ev) (hVR : V < R) :
    Calls Tryz.prog 96 #[.pointer (some ⟨R, 0, none⟩), .int .i64 t] w (GivesRun f wa bl R V G { s with at_ := t, bef := s.at_ } st val vis ev w) := by
  have HW := Lib.hid h
  have r3 : w.cell? ⟨R, 3, none⟩ = some (.int .i64 s.at_) := h.cell rfl
  have r4 : w.cell? ⟨R, 4, none⟩ = some (.int .i64 s.bef) := h.cell rfl
  have f3 := h.frozen 3
  have f4 := h.frozen 4
  have HW1 := Lib.hid (h.setR hVR 4 (.int .i64 s.at_) (s' := { s with bef := s.at_ }) (st' := st) (val' := val) (vis' := vis) rfl rfl rfl)
  have HW2 : Hid (RW f wa ((w.setCell ⟨R, 4, none⟩ (.int .i64 s.at_)).setCell ⟨R, 3, none⟩ (.int .i64 t)) bl R V G { s with at_ := t, bef := s.at_ } st val vis ev) := HW1.out.setR hVR 3 (.int .i64 t) (s' := { s with at_ := t, bef := s.at_ }) (st' := st) (val' := val) (vis' := vis) rfl rfl rfl
  have HF2 : Hid (RF R V ev ev w ((w.setCell ⟨R, 4, none⟩ (.int .i64 s.at_)).setCell ⟨R, 3, none⟩ (.int .i64 t))) := (RF.setR w 4 _).trans (RF.setR _ 3 _)
  generalize s.at_ = at0 at *
  clear h HW
  go_enter Tryz.func96, Tryz.ntmps96
  go_wp2_with fail
  exact bodyPost_end (results_none Tryz.results96 _ _ _) rfl ⟨_, _, rfl, HW2.out, HF2.out⟩

/-- An End as a value behind the interface. -/
def endV (e : EndD) : Value := if e.k = 1 then .iface 147 (.agg #[.int .i64 e.a]) else if e.k = 2 then .iface 149 (.agg #[.int .i64 e.t]) else .iface 152 (.agg #[.int .i64 e.a, .int .i64 e.t, .int .i64 e.l])
def GivesEnd (e : EndD) (w : World) (r : Ending) (w' : World) : Prop := r = .returned (endV e) ∧ Below w.heap.size w w'

set_option maxHeartbeats 1000000 in
theorem endingOf_any (e : EndD) (w : World) :
    Calls Tryz.prog 67 #[.agg #[.int .i64 e.k, .int .i64 e.a, .int .i64 e.t, .int .i64 e.l]] w (GivesEnd e w) := by
  have hB : Below w.heap.size w (w.alloc (.cells #[.int .i64 e.k, .int .i64 e.a, .int .i64 e.t, .int .i64 e.l] 67)) := (Below.refl _ _).alloc (Nat.le_refl _) _
  have HB := Lib.hid hB
  clear hB
  by_cases h1 : e.k = 1
  · have HE : Hid (endV e = .iface 147 (.agg #[.int .i64 e.a])) := if_pos h1
    have hb : (e.k == 1) = true := by simpa using h1
    clear h1
    go_enter Tryz.func67, Tryz.ntmps67
    go_wp2_with fail
    go_ret
    exact ⟨by rw [HE.out]; rfl, HB.out⟩
  · by_cases h2 : e.k = 2
    · have HE : Hid (endV e = .iface 149 (.agg #[.int .i64 e.t])) := by rw [Hid, endV, if_neg h1, if_pos h2]
      have hb1 : (e.k == 1) = false := by simpa using h1
      have hb : (e.k == 2) = true := by simpa using h2
      clear h1 h2
      go_enter Tryz.func67, Tryz.ntmps67
      go_wp2_with fail
      go_ret
      exact ⟨by rw [HE.out]; rfl, HB.out⟩
    · have HE : Hid (endV e = .iface 152 (.agg #[.int .i64 e.a, .int .i64 e.t, .int .i64 e.l])) := by rw [Hid, endV, if_neg h1, if_neg h2]
      have hb1 : (e.k == 1) = false := by simpa using h1
      have hb : (e.k == 2) = false := by simpa using h2
      clear h1 h2
      go_enter Tryz.func67, Tryz.ntmps67
      go_wp2_with fail
      go_ret
      exact ⟨by rw [HE.out]; rfl, HB.out⟩


theorem ta_rr (a : Int) (w : World) : (Instr.typeAssert (.iface 147 (.agg #[.int .i64 a])) 102 147 true).run Tryz.prog w = .ok (.tuple #[.agg #[.int .i64 a], .bool true]) w := by kernel_rfl
theorem ta_jr (a : Int) (w : World) : (Instr.typeAssert (.iface 149 (.agg #[.int .i64 a])) 102 147 true).run Tryz.prog w = .ok (.tuple #[.agg #[.int .i64 0], .bool false]) w := by kernel_rfl
theorem ta_jj (a : Int) (w : World) : (Instr.typeAssert (.iface 149 (.agg #[.int .i64 a])) 102 149 true).run Tryz.prog w = .ok (.tuple #[.agg #[.int .i64 a], .bool true]) w := by kernel_rfl
theorem ta_ir (a b c : Int) (w : World) : (Instr.typeAssert (.iface 152 (.agg #[.int .i64 a, .int .i64 b, .int .i64 c])) 102 147 true).run Tryz.prog w = .ok (.tuple #[.agg #[.int .i64 0], .bool false]) w := by kernel_rfl
theorem ta_ij (a b c : Int) (w : World) : (Instr.typeAssert (.iface 152 (.agg #[.int .i64 a, .int .i64 b, .int .i64 c])) 102 149 true).run Tryz.prog w = .ok (.tuple #[.agg #[.int .i64 0], .bool false]) w := by kernel_rfl
theorem ta_ii (a b c : Int) (w : World) : (Instr.typeAssert (.iface 152 (.agg #[.int .i64 a, .int .i64 b, .int .i64 c])) 102 152 true).run Tryz.prog w = .ok (.tuple #[.agg #[.int .i64 a, .int .i64 b, .int .i64 c], .bool true]) w := by kernel_rfl

set_option maxRecDepth 10000 in
set_option maxHeartbeats 2000000 in
theorem leave_ret (f : FunD) (wa w : World) (bl : Value) (R V G : Nat) (s : VSt) (st val : Int) (vis : Nat) (ev : Value) (a : Nat) (h : RW f wa w bl R V G s st val vis ev) (hVR : V < R) (hal : a < s.σ.length) :
    Calls Tryz.prog 66 #[.pointer (some ⟨R, 0, none⟩), .iface 147 (.agg #[.int .i64 a])] w (GivesRun f wa bl R V G s 2 (gN s.σ a) vis ev w) := by
  have hal' : (a : Int) < (s.σ.length : Int) := by omega
  have ha0 : 0 ≤ (a : Int) := by omega
  have t1 := ta_rr
  go_enter Tryz.func66, Tryz.ntmps66
  go_upto_region 3 with fail
  have hB1 : Below w.heap.size w (w.alloc (.cells #[.int .i64 a] 147)) := (Below.refl _ _).alloc (Nat.le_refl _) _
  have k0 : (w.alloc (.cells #[.int .i64 a] 147)).cell? ⟨w.heap.size, 0, none⟩ = some (.int .i64 a) := by go_simp
  have hbq : Beside R V ev (w.alloc (.cells #[.int .i64 a] 147)) w.heap.size := h.beside_new (Nat.le_refl _) (by simp)
  obtain ⟨q, hq⟩ : ∃ q, q = w.heap.size := ⟨_, rfl⟩
  rw [← hq] at k0 hbq ⊢
  generalize (w.alloc (.cells #[.int .i64 a] 147)) = w1 at *
  have HW1 := Lib.hid (h.below hB1)
  have HF1 : Hid (RF R V ev ev w w1) := RF.below hB1
  have r2 : w1.cell? ⟨R, 2, none⟩ = some (.slice (some ⟨V, 0, none⟩) s.σ.length s.σ.length) := HW1.out.cell rfl
  have hNl : s.σ.length ≤ 9223372036854775807 := HW1.out.vals.ri.1
  have va : w1.cell? ⟨V, a, none⟩ = some (.int .i64 (gN s.σ a)) := HW1.out.vcell rfl hal
  have r5 : w1.cell? ⟨R, 5, none⟩ = some (.int .i64 st) := HW1.out.cell rfl
  have r6 : w1.cell? ⟨R, 6, none⟩ = some (.int .i64 val) := HW1.out.cell rfl
  have f5 := HW1.out.frozen 5
  have f6 := HW1.out.frozen 6
  have hqR : q ≠ R := hbq.2.1
  generalize hgx : gN s.σ a = x at *
  clear h hB1 hbq hq hgx
  have Kd : (fun w' => w'.cell? ⟨R, 2, none⟩ = some (.slice (some ⟨V, 0, none⟩) s.σ.length s.σ.length) ∧ w'.cell? ⟨q, 0, none⟩ = some (.int .i64 a) ∧ w'.cell? ⟨V, a, none⟩ = some (.int .i64 x)) w1.drew := ⟨r2, k0, va⟩
  have HW2 := Lib.hid ((HW1.out.below (Below.refl _ _).drew).setR hVR 5 (.int .i64 2) (s' := s) (st' := 2) (val' := val) (vis' := vis) rfl rfl rfl)
  have HW3 := Lib.hid (HW2.out.setR hVR 6 (.int .i64 x) (s' := s) (st' := 2) (val' := x) (vis' := vis) rfl rfl rfl)
  have HF3 : Hid (RF R V ev ev w ((w1.drew.setCell ⟨R, 5, none⟩ (.int .i64 2)).setCell ⟨R, 6, none⟩ (.int .i64 x))) := HF1.out.trans ((RF.below (Below.refl _ _).drew).trans ((RF.setR _ 5 _).trans (RF.setR _ 6 _)))
  have hVR' : V ≠ R := by omega
  refine wp_region_offL (S := ((fun w' => w'.cell? ⟨R, 2, none⟩ = some (.slice (some ⟨V, 0, none⟩) s.σ.length s.σ.length) ∧ w'.cell? ⟨q, 0, none⟩ = some (.int .i64 a) ∧ w'.cell? ⟨V, a, none⟩ = some (.int .i64 x)))) (by simp) (by kernel_rfl) (by kernel_rfl) (by kernel_rfl) (by kernel_rfl) (by kernel_rfl) ?_ (fun hHeld => ?_)
  · (try dsimp only)
    (first | exact Kd | (refine ⟨?_, ?_, ?_⟩ <;> go_simp) | fail)
  simp only [List.dropLast_cons_cons, List.dropLast_singleton, List.length_cons, List.length_nil]
  refine wpAnyH_take (i := 0) (v := ?_) rfl (by kernel_rfl) (by kernel_rfl) (by kernel_rfl) (fun _ _ _ h => h) (Or.inl ⟨by rfl, ?_⟩) (by assumption) ?_
  rotate_left
  · intro w hSw
    simp only [List.getElem_toArray, List.getElem_cons_zero]
    (try dsimp only at hSw)
    go_simp
    first | done | (with_reducible rfl)
  simp only [List.getElem_toArray, List.getElem_cons_zero, Act.put, List.setIfInBounds_toArray, List.set_cons_zero, List.set_cons_succ]
  refine wpAnyH_take (i := 1) (v := ?_) rfl (by kernel_rfl) (by kernel_rfl) (by kernel_rfl) (fun _ _ _ h => h) (Or.inl ⟨by rfl, ?_⟩) (by assumption) ?_
  rotate_left
  · intro w hSw
    simp only [List.getElem_toArray, List.getElem_cons_succ, List.getElem_cons_zero]
    (try dsimp only at hSw)
    go_simp
    first | done | (with_reducible rfl)
  simp only [List.getElem_toArray, List.getElem_cons_succ, List.getElem_cons_zero, Act.put, List.setIfInBounds_toArray, List.set_cons_zero, List.set_cons_succ]
  refine wpAnyH_take (i := 2) (v := ?_) rfl (by kernel_rfl) (by kernel_rfl) (by kernel_rfl) (fun _ _ _ h => h) (Or.inl ⟨by rfl, ?_⟩) (by assumption) ?_
  rotate_left
  · intro w hSw
    simp only [List.getElem_toArray, List.getElem_cons_succ, List.getElem_cons_zero]
    (try dsimp only at hSw)
    go_simp
    first | done | (with_reducible rfl)
  simp only [List.getElem_toArray, List.getElem_cons_succ, List.getElem_cons_zero, Act.put, List.setIfInBounds_toArray, List.set_cons_zero, List.set_cons_succ]
  refine wpAnyH_take (i := 3) (v := ?_) rfl (by kernel_rfl) (by kernel_rfl) (by kernel_rfl) (fun _ _ _ h => h) (Or.inl ⟨by rfl, ?_⟩) (by assumption) ?_
  rotate_left
  · intro w hSw
    simp only [List.getElem_toArray, List.getElem_cons_succ, List.getElem_cons_zero]
    (try dsimp only at hSw)
    go_simp
    first | done | (with_reducible rfl)
  simp only [List.getElem_toArray, List.getElem_cons_succ, List.getElem_cons_zero, Act.put, List.setIfInBounds_toArray, List.set_cons_zero, List.set_cons_succ]
  refine wpAnyH_take (i := 4) (v := ?_) rfl (by kernel_rfl) (by kernel_rfl) (by kernel_rfl) (fun _ _ _ h => h) (Or.inl ⟨by rfl, ?_⟩) (by assumption) ?_
  rotate_left
  · intro w hSw
    simp only [List.getElem_toArray, List.getElem_cons_succ, List.getElem_cons_zero]
    (try dsimp only at hSw)
    go_simp
    first | done | (with_reducible rfl)
  simp only [List.getElem_toArray, List.getElem_cons_succ, List.getElem_cons_zero, Act.put, List.setIfInBounds_toArray, List.set_cons_zero, List.set_cons_succ]
  refine wpAnyH_take (i := 5) (v := ?_) rfl (by kernel_rfl) (by kernel_rfl) (by kernel_rfl) (fun _ _ _ h => h) (Or.inl ⟨by rfl, ?_⟩) (by assumption) ?_
  rotate_left
  · intro w hSw
    simp only [List.getElem_toArray, List.getElem_cons_succ, List.getElem_cons_zero]
    (try dsimp only at hSw)
    go_simp
    first | done | (with_reducible rfl)
  simp only [List.getElem_toArray, List.getElem_cons_succ, List.getElem_cons_zero, Act.put, List.setIfInBounds_toArray, List.set_cons_zero, List.set_cons_succ]
  refine wpAnyH_take (i := 6) (v := ?_) rfl (by kernel_rfl) (by kernel_rfl) (by kernel_rfl) (fun _ _ _ h => h) (Or.inl ⟨by rfl, ?_⟩) (by assumption) ?_
  rotate_left
  · intro w hSw
    simp only [List.getElem_toArray, List.getElem_cons_succ, List.getElem_cons_zero]
    (try dsimp only at hSw)
    go_simp
    first | done | (with_reducible rfl)
  simp only [List.getElem_toArray, List.getElem_cons_succ, List.getElem_cons_zero, Act.put, List.setIfInBounds_toArray, List.set_cons_zero, List.set_cons_succ]
  refine wpAnyH_take (i := 7) (v := ?_) rfl (by kernel_rfl) (by kernel_rfl) (by kernel_rfl) (fun _ _ _ h => h) (Or.inl ⟨by rfl, ?_⟩) (by assumption) ?_
  rotate_left
  · intro w hSw
    simp only [List.getElem_toArray, List.getElem_cons_succ, List.getElem_cons_zero]
    (try dsimp only at hSw)
    go_simp
    first | done | (with_reducible rfl)
  simp only [List.getElem_toArray, List.getElem_cons_succ, List.getElem_cons_zero, Act.put, List.setIfInBounds_toArray, List.set_cons_zero, List.set_cons_succ]
  refine wpAnyH_take (i := 8) (v := ?_) rfl (by kernel_rfl) (by kernel_rfl) (by kernel_rfl) (fun _ _ _ h => h) (Or.inl ⟨by rfl, ?_⟩) (by assumption) ?_
  rotate_left
  · intro w hSw
    simp only [List.getElem_toArray, List.getElem_cons_succ, List.getElem_cons_zero]
    (try dsimp only at hSw)
    go_simp
    first | done | (with_reducible rfl)
  simp only [List.getElem_toArray, List.getElem_cons_succ, List.getElem_cons_zero, Act.put, List.setIfInBounds_toArray, List.set_cons_zero, List.set_cons_succ]
  refine wpAnyH_take (i := 9) (v := ?_) rfl (by kernel_rfl) (by kernel_rfl) (by kernel_rfl) (fun _ _ _ h => h) (Or.inl ⟨by rfl, ?_⟩) (by assumption) ?_
  rotate_left
  · intro w hSw
    simp only [List.getElem_toArray, List.getElem_cons_succ, List.getElem_cons_zero]
    (try dsimp only at hSw)
    go_simp
    first | done | (with_reducible rfl)
  simp only [List.getElem_toArray, List.getElem_cons_succ, List.getElem_cons_zero, Act.put, List.setIfInBounds_toArray, List.set_cons_zero, List.set_cons_succ]
  refine wpAnyH_take (i := 10) (v := ?_) rfl (by kernel_rfl) (by kernel_rfl) (by kernel_rfl) (fun _ _ _ h => h) (Or.inl ⟨by rfl, ?_⟩) (by assumption) ?_
  rotate_left
  · intro w hSw
    simp only [List.getElem_toArray, List.getElem_cons_succ, List.getElem_cons_zero]
    (try dsimp only at hSw)
    go_simp
    first | done | (with_reducible rfl)
  simp only [List.getElem_toArray, List.getElem_cons_succ, List.getElem_cons_zero, Act.put, List.setIfInBounds_toArray, List.set_cons_zero, List.set_cons_succ]
  refine wpAnyH_take (i := 11) (v := ?_) rfl (by kernel_rfl) (by kernel_rfl) (by kernel_rfl) (fun _ _ _ h => h) (Or.inl ⟨by rfl, ?_⟩) (by assumption) ?_
  rotate_left
  · intro w hSw
    simp only [List.getElem_toArray, List.getElem_cons_succ, List.getElem_cons_zero]
    (try dsimp only at hSw)
    go_simp
    first | done | (with_reducible rfl)
  simp only [List.getElem_toArray, List.getElem_cons_succ, List.getElem_cons_zero, Act.put, List.setIfInBounds_toArray, List.set_cons_zero, List.set_cons_succ]
  refine wpAnyH_take (i := 12) (v := ?_) rfl (by kernel_rfl) (by kernel_rfl) (by kernel_rfl) (fun _ _ _ h => h) (Or.inl ⟨by rfl, ?_⟩) (by assumption) ?_
  rotate_left
  · intro w hSw
    simp only [List.getElem_toArray, List.getElem_cons_succ, List.getElem_cons_zero]
    (try dsimp only at hSw)
    go_simp
    first | done | (with_reducible rfl)
  simp only [List.getElem_toArray, List.getElem_cons_succ, List.getElem_cons_zero, Act.put, List.setIfInBounds_toArray, List.set_cons_zero, List.set_cons_succ]
  refine wpAnyH_ready (rs := [13]) (by kernel_rfl) (by simp) ?_
  refine AllReadyH.cons rfl (fun KZ hKZ => ?_) AllReadyH.nil
  simp only [List.getElem_toArray, List.getElem_cons_succ, List.getElem_cons_zero]
  go_simp
  refine hKZ.out _ _ ?_ (fun hHeld => ?_)
  · (try dsimp only)
    (first | exact Kd | (refine ⟨?_, ?_, ?_⟩ <;> go_simp) | fail)
  clear hKZ KZ
  (try simp only [List.getElem_toArray, List.getElem_cons_succ, List.getElem_cons_zero, Act.put, List.setIfInBounds_toArray, List.set_cons_zero, List.set_cons_succ])
  refine wpAnyH_take (i := 14) (v := ?_) rfl (by kernel_rfl) (by kernel_rfl) (by kernel_rfl) (fun _ _ _ h => h) (Or.inl ⟨by rfl, ?_⟩) (by assumption) ?_
  rotate_left
  · intro w hSw
    simp only [List.getElem_toArray, List.getElem_cons_succ, List.getElem_cons_zero]
    (try dsimp only at hSw)
    go_simp
    first | done | (with_reducible rfl)
  simp only [List.getElem_toArray, List.getElem_cons_succ, List.getElem_cons_zero, Act.put, List.setIfInBounds_toArray, List.set_cons_zero, List.set_cons_succ]
  refine wpAnyH_take (i := 15) (v := ?_) rfl (by kernel_rfl) (by kernel_rfl) (by kernel_rfl) (fun _ _ _ h => h) (Or.inl ⟨by rfl, ?_⟩) (by assumption) ?_
  rotate_left
  · intro w hSw
    simp only [List.getElem_toArray, List.getElem_cons_succ, List.getElem_cons_zero]
    (try dsimp only at hSw)
    go_simp
    first | done | (with_reducible rfl)
  simp only [List.getElem_toArray, List.getElem_cons_succ, List.getElem_cons_zero, Act.put, List.setIfInBounds_toArray, List.set_cons_zero, List.set_cons_succ]
  refine wpAnyH_take (i := 16) (v := ?_) rfl (by kernel_rfl) (by kernel_rfl) (by kernel_rfl) (fun _ _ _ h => h) (Or.inl ⟨by rfl, ?_⟩) (by assumption) ?_
  rotate_left
  · intro w hSw
    simp only [List.getElem_toArray, List.getElem_cons_succ, List.getElem_cons_zero]
    (try dsimp only at hSw)
    go_simp
    first | done | (with_reducible rfl)
  simp only [List.getElem_toArray, List.getElem_cons_succ, List.getElem_cons_zero, Act.put, List.setIfInBounds_toArray, List.set_cons_zero, List.set_cons_succ]
  refine wpAnyH_done (by kernel_rfl) ?_ _
  refine offQ_last rfl (fun KL hKL => ?_)
  go_simp
  refine hKL.out _ _ ?_
  have e1 : ((w1.setCell ⟨R, 5, none⟩ (.int .i64 2)).drew.setCell ⟨R, 6, none⟩ (.int .i64 x)) = ((w1.drew.setCell ⟨R, 5, none⟩ (.int .i64 2)).setCell ⟨R, 6, none⟩ (.int .i64 x)) := rfl
  have e2 : ((w1.setCell ⟨R, 5, none⟩ (.int .i64 2)).setCell ⟨R, 6, none⟩ (.int .i64 x)).drew = ((w1.drew.setCell ⟨R, 5, none⟩ (.int .i64 2)).setCell ⟨R, 6, none⟩ (.int .i64 x)) := rfl
  first | rw [e1] | rw [e2] | skip
  clear e1 e2
  generalize ((w1.drew.setCell ⟨R, 5, none⟩ (.int .i64 2)).setCell ⟨R, 6, none⟩ (.int .i64 x)) = w3 at *
  clear HW2 Kd r2 k0 va r5 r6 f5 f6
  go_wp2_with fail
  exact bodyPost_end (results_none Tryz.results66 _ _ _) rfl ⟨_, _, rfl, HW3.out, HF3.out⟩

set_option maxRecDepth 10000 in
set_option maxHeartbeats 2000000 in
theorem leave_jump (f : FunD) (wa w : World) (bl : Value) (R V G : Nat) (s : VSt) (st val : Int) (vis : Nat) (ev : Value) (t : Nat) (h : RW f wa w bl R V G s st val vis ev) (hVR : V < R) :
    Calls Tryz.prog 66 #[.pointer (some ⟨R, 0, none⟩), .iface 149 (.agg #[.int .i64 t])] w (GivesRun f wa bl R V G { s with at_ := t, bef := s.at_ } st val vis ev w) := by
  have hB1 : Below w.heap.size w (w.alloc (.cells #[.int .i64 t] 149)) := (Below.refl _ _).alloc (Nat.le_refl _) _
  have HW1 := Lib.hid (h.below hB1)
  have HF1 : Hid (RF R V ev ev w (w.alloc (.cells #[.int .i64 t] 149))) := RF.below hB1
  clear hB1 h
  have t1 := ta_jr
  have t2 := ta_jj
  go_enter Tryz.func66, Tryz.ntmps66
  go_wp2_with fail
  refine (goTo_any f wa _ bl R V G s st val vis ev t HW1.out hVR).mono ?_
  rintro e w2 ⟨v2, ev2, rfl, hw2, hf2⟩
  have HW2 := Lib.hid hw2
  have HF2 := Lib.hid (HF1.out.trans hf2)
  clear hw2 hf2
  go_wp2_with fail
  exact bodyPost_end (results_none Tryz.results66 _ _ _) rfl ⟨_, _, rfl, HW2.out, HF2.out⟩

set_option maxRecDepth 10000 in
set_option maxHeartbeats 2000000 in
theorem leave_if0 (f : FunD) (wa w : World) (bl : Value) (R V G : Nat) (s : VSt) (st val : Int) (vis : Nat) (ev : Value) (a t l : Nat) (h : RW f wa w bl R V G s st val vis ev) (hVR : V < R) (hal : a < s.σ.length) (hgn : gN s.σ a = 0) :
    Calls Tryz.prog 66 #[.pointer (some ⟨R, 0, none⟩), .iface 152 (.agg #[.int .i64 a, .int .i64 t, .int .i64 l])] w (GivesRun f wa bl R V G { s with at_ := l, bef := s.at_ } st val vis ev w) := by
  have hal' : (a : Int) < (s.σ.length : Int) := by omega
  have ha0 : 0 ≤ (a : Int) := by omega
  have t1 := ta_ir
  have t2 := ta_ij
  have t3 := ta_ii
  go_enter Tryz.func66, Tryz.ntmps66
  go_upto_region 9 with fail
  have hB1 : Below w.heap.size w (w.alloc (.cells #[.int .i64 a, .int .i64 t, .int .i64 l] 152)) := (Below.refl _ _).alloc (Nat.le_refl _) _
  have k0 : (w.alloc (.cells #[.int .i64 a, .int .i64 t, .int .i64 l] 152)).cell? ⟨w.heap.size, 0, none⟩ = some (.int .i64 a) := by go_simp
  have k1 : (w.alloc (.cells #[.int .i64 a, .int .i64 t, .int .i64 l] 152)).cell? ⟨w.heap.size, 1, none⟩ = some (.int .i64 t) := by go_simp
  have k2 : (w.alloc (.cells #[.int .i64 a, .int .i64 t, .int .i64 l] 152)).cell? ⟨w.heap.size, 2, none⟩ = some (.int .i64 l) := by go_simp
  have hbq : Beside R V ev (w.alloc (.cells #[.int .i64 a, .int .i64 t, .int .i64 l] 152)) w.heap.size := h.beside_new (Nat.le_refl _) (by simp)
  obtain ⟨q, hq⟩ : ∃ q, q = w.heap.size := ⟨_, rfl⟩
  rw [← hq] at k0 k1 k2 hbq ⊢
  generalize (w.alloc (.cells #[.int .i64 a, .int .i64 t, .int .i64 l] 152)) = w1 at *
  have HW1 := Lib.hid (h.below hB1)
  have HF1 : Hid (RF R V ev ev w w1) := RF.below hB1
  have r2 : w1.cell? ⟨R, 2, none⟩ = some (.slice (some ⟨V, 0, none⟩) s.σ.length s.σ.length) := HW1.out.cell rfl
  have hNl : s.σ.length ≤ 9223372036854775807 := HW1.out.vals.ri.1
  have va : w1.cell? ⟨V, a, none⟩ = some (.int .i64 (gN s.σ a)) := HW1.out.vcell rfl hal
  have hb : (gN s.σ a != 0) = false := by simpa using hgn
  generalize hgx : gN s.σ a = x at *
  clear h hB1 hbq hq hgx hgn
  have Kd : (fun w' => w'.cell? ⟨R, 2, none⟩ = some (.slice (some ⟨V, 0, none⟩) s.σ.length s.σ.length) ∧ w'.cell? ⟨q, 0, none⟩ = some (.int .i64 a) ∧ w'.cell? ⟨V, a, none⟩ = some (.int .i64 x)) w1.drew := ⟨r2, k0, va⟩
  have HW2 := Lib.hid (HW1.out.below (Below.refl _ _).drew)
  have HF2 : Hid (RF R V ev ev w w1.drew) := HF1.out.trans (RF.below (Below.refl _ _).drew)
  have K1 : w1.drew.cell? ⟨q, 1, none⟩ = some (.int .i64 t) := k1
  have K2 : w1.drew.cell? ⟨q, 2, none⟩ = some (.int .i64 l) := k2
  refine wp_region_held_drew (S := ((fun w' => w'.cell? ⟨R, 2, none⟩ = some (.slice (some ⟨V, 0, none⟩) s.σ.length s.σ.length) ∧ w'.cell? ⟨q, 0, none⟩ = some (.int .i64 a) ∧ w'.cell? ⟨V, a, none⟩ = some (.int .i64 x)))) (by kernel_rfl) ?_ (fun hHeld => ?_)
  · (try dsimp only)
    (first | exact Kd | fail)
  refine wpAnyH_take (i := 0) (v := ?_) rfl (by kernel_rfl) (by kernel_rfl) (by kernel_rfl) (fun _ _ _ h => h) (Or.inl ⟨by rfl, ?_⟩) (by assumption) ?_
  rotate_left
  · intro w hSw
    simp only [List.getElem_toArray, List.getElem_cons_zero]
    (try dsimp only at hSw)
    go_simp
    first | done | (with_reducible rfl)
  simp only [List.getElem_toArray, List.getElem_cons_zero, Act.put, List.setIfInBounds_toArray, List.set_cons_zero, List.set_cons_succ]
  refine wpAnyH_take (i := 1) (v := ?_) rfl (by kernel_rfl) (by kernel_rfl) (by kernel_rfl) (fun _ _ _ h => h) (Or.inl ⟨by rfl, ?_⟩) (by assumption) ?_
  rotate_left
  · intro w hSw
    simp only [List.getElem_toArray, List.getElem_cons_succ, List.getElem_cons_zero]
    (try dsimp only at hSw)
    go_simp
    first | done | (with_reducible rfl)
  simp only [List.getElem_toArray, List.getElem_cons_succ, List.getElem_cons_zero, Act.put, List.setIfInBounds_toArray, List.set_cons_zero, List.set_cons_succ]
  refine wpAnyH_take (i := 2) (v := ?_) rfl (by kernel_rfl) (by kernel_rfl) (by kernel_rfl) (fun _ _ _ h => h) (Or.inl ⟨by rfl, ?_⟩) (by assumption) ?_
  rotate_left
  · intro w hSw
    simp only [List.getElem_toArray, List.getElem_cons_succ, List.getElem_cons_zero]
    (try dsimp only at hSw)
    go_simp
    first | done | (with_reducible rfl)
  simp only [List.getElem_toArray, List.getElem_cons_succ, List.getElem_cons_zero, Act.put, List.setIfInBounds_toArray, List.set_cons_zero, List.set_cons_succ]
  refine wpAnyH_take (i := 3) (v := ?_) rfl (by kernel_rfl) (by kernel_rfl) (by kernel_rfl) (fun _ _ _ h => h) (Or.inl ⟨by rfl, ?_⟩) (by assumption) ?_
  rotate_left
  · intro w hSw
    simp only [List.getElem_toArray, List.getElem_cons_succ, List.getElem_cons_zero]
    (try dsimp only at hSw)
    go_simp
    first | done | (with_reducible rfl)
  simp only [List.getElem_toArray, List.getElem_cons_succ, List.getElem_cons_zero, Act.put, List.setIfInBounds_toArray, List.set_cons_zero, List.set_cons_succ]
  refine wpAnyH_take (i := 4) (v := ?_) rfl (by kernel_rfl) (by kernel_rfl) (by kernel_rfl) (fun _ _ _ h => h) (Or.inl ⟨by rfl, ?_⟩) (by assumption) ?_
  rotate_left
  · intro w hSw
    simp only [List.getElem_toArray, List.getElem_cons_succ, List.getElem_cons_zero]
    (try dsimp only at hSw)
    go_simp
    first | done | (with_reducible rfl)
  simp only [List.getElem_toArray, List.getElem_cons_succ, List.getElem_cons_zero, Act.put, List.setIfInBounds_toArray, List.set_cons_zero, List.set_cons_succ]
  refine wpAnyH_take (i := 5) (v := ?_) rfl (by kernel_rfl) (by kernel_rfl) (by kernel_rfl) (fun _ _ _ h => h) (Or.inl ⟨by rfl, ?_⟩) (by assumption) ?_
  rotate_left
  · intro w hSw
    simp only [List.getElem_toArray, List.getElem_cons_succ, List.getElem_cons_zero]
    (try dsimp only at hSw)
    go_simp
    first | done | (with_reducible rfl)
  simp only [List.getElem_toArray, List.getElem_cons_succ, List.getElem_cons_zero, Act.put, List.setIfInBounds_toArray, List.set_cons_zero, List.set_cons_succ]
  refine wpAnyH_take (i := 6) (v := ?_) rfl (by kernel_rfl) (by kernel_rfl) (by kernel_rfl) (fun _ _ _ h => h) (Or.inl ⟨by rfl, ?_⟩) (by assumption) ?_
  rotate_left
  · intro w hSw
    simp only [List.getElem_toArray, List.getElem_cons_succ, List.getElem_cons_zero]
    (try dsimp only at hSw)
    go_simp
    first | done | (with_reducible rfl)
  simp only [List.getElem_toArray, List.getElem_cons_succ, List.getElem_cons_zero, Act.put, List.setIfInBounds_toArray, List.set_cons_zero, List.set_cons_succ]
  refine wpAnyH_take (i := 7) (v := ?_) rfl (by kernel_rfl) (by kernel_rfl) (by kernel_rfl) (fun _ _ _ h => h) (Or.inl ⟨by rfl, ?_⟩) (by assumption) ?_
  rotate_left
  · intro w hSw
    simp only [List.getElem_toArray, List.getElem_cons_succ, List.getElem_cons_zero]
    (try dsimp only at hSw)
    go_simp
    first | done | (with_reducible rfl)
  simp only [List.getElem_toArray, List.getElem_cons_succ, List.getElem_cons_zero, Act.put, List.setIfInBounds_toArray, List.set_cons_zero, List.set_cons_succ]
  refine wpAnyH_take (i := 8) (v := ?_) rfl (by kernel_rfl) (by kernel_rfl) (by kernel_rfl) (fun _ _ _ h => h) (Or.inl ⟨by rfl, ?_⟩) (by assumption) ?_
  rotate_left
  · intro w hSw
    simp only [List.getElem_toArray, List.getElem_cons_succ, List.getElem_cons_zero]
    (try dsimp only at hSw)
    go_simp
    first | done | (with_reducible rfl)
  simp only [List.getElem_toArray, List.getElem_cons_succ, List.getElem_cons_zero, Act.put, List.setIfInBounds_toArray, List.set_cons_zero, List.set_cons_succ]
  refine wpAnyH_done (by kernel_rfl) ?_ _
  generalize w1.drew = w2 at *
  clear Kd r2 k0 k1 k2 va HW1 HF1
  go_wp2_with fail
  refine (goTo_any f wa _ bl R V G s st val vis ev l HW2.out hVR).mono ?_
  rintro e w3 ⟨v3, ev3, rfl, hw3, hf3⟩
  have HW3 := Lib.hid hw3
  have HF3 := Lib.hid (HF2.out.trans hf3)
  clear hw3 hf3
  go_wp2_with fail
  exact bodyPost_end (results_none Tryz.results66 _ _ _) rfl ⟨_, _, rfl, HW3.out, HF3.out⟩

set_option maxRecDepth 10000 in
set_option maxHeartbeats 2000000 in
theorem leave_if1 (f : FunD) (wa w : World) (bl : Value) (R V G : Nat) (s : VSt) (st val : Int) (vis : Nat) (ev : Value) (a t l : Nat) (h : RW f wa w bl R V G s st val vis ev) (hVR : V < R) (hal : a < s.σ.length) (hgn : gN s.σ a ≠ 0) :
    Calls Tryz.prog 66 #[.pointer (some ⟨R, 0, none⟩), .iface 152 (.agg #[.int .i64 a, .int .i64 t, .int .i64 l])] w (GivesRun f wa bl R V G { s with at_ := t, bef := s.at_ } st val vis ev w) := by
  have hal' : (a : Int) < (s.σ.length : Int) := by omega
  have ha0 : 0 ≤ (a : Int) := by omega
  have t1 := ta_ir
  have t2 := ta_ij
  have t3 := ta_ii
  go_enter Tryz.func66, Tryz.ntmps66
  go_upto_region 9 with fail
  have hB1 : Below w.heap.size w (w.alloc (.cells #[.int .i64 a, .int .i64 t, .int .i64 l] 152)) := (Below.refl _ _).alloc (Nat.le_refl _) _
  have k0 : (w.alloc (.cells #[.int .i64 a, .int .i64 t, .int .i64 l] 152)).cell? ⟨w.heap.size, 0, none⟩ = some (.int .i64 a) := by go_simp
  have k1 : (w.alloc (.cells #[.int .i64 a, .int .i64 t, .int .i64 l] 152)).cell? ⟨w.heap.size, 1, none⟩ = some (.int .i64 t) := by go_simp
  have k2 : (w.alloc (.cells #[.int .i64 a, .int .i64 t, .int .i64 l] 152)).cell? ⟨w.heap.size, 2, none⟩ = some (.int .i64 l) := by go_simp
  have hbq : Beside R V ev (w.alloc (.cells #[.int .i64 a, .int .i64 t, .int .i64 l] 152)) w.heap.size := h.beside_new (Nat.le_refl _) (by simp)
  obtain ⟨q, hq⟩ : ∃ q, q = w.heap.size := ⟨_, rfl⟩
  rw [← hq] at k0 k1 k2 hbq ⊢
  generalize (w.alloc (.cells #[.int .i64 a, .int .i64 t, .int .i64 l] 152)) = w1 at *
  have HW1 := Lib.hid (h.below hB1)
  have HF1 : Hid (RF R V ev ev w w1) := RF.below hB1
  have r2 : w1.cell? ⟨R, 2, none⟩ = some (.slice (some ⟨V, 0, none⟩) s.σ.length s.σ.length) := HW1.out.cell rfl
  have hNl : s.σ.length ≤ 9223372036854775807 := HW1.out.vals.ri.1
  have va : w1.cell? ⟨V, a, none⟩ = some (.int .i64 (gN s.σ a)) := HW1.out.vcell rfl hal
  have hb : (gN s.σ a != 0) = true := by simpa using hgn
  generalize hgx : gN s.σ a = x at *
  clear h hB1 hbq hq hgx hgn
  have Kd : (fun w' => w'.cell? ⟨R, 2, none⟩ = some (.slice (some ⟨V, 0, none⟩) s.σ.length s.σ.length) ∧ w'.cell? ⟨q, 0, none⟩ = some (.int .i64 a) ∧ w'.cell? ⟨V, a, none⟩ = some (.int .i64 x)) w1.drew := ⟨r2, k0, va⟩
  have HW2 := Lib.hid (HW1.out.below (Below.refl _ _).drew)
  have HF2 : Hid (RF R V ev ev w w1.drew) := HF1.out.trans (RF.below (Below.refl _ _).drew)
  have K1 : w1.drew.cell? ⟨q, 1, none⟩ = some (.int .i64 t) := k1
  have K2 : w1.drew.cell? ⟨q, 2, none⟩ = some (.int .i64 l) := k2
  refine wp_region_held_drew (S := ((fun w' => w'.cell? ⟨R, 2, none⟩ = some (.slice (some ⟨V, 0, none⟩) s.σ.length s.σ.length) ∧ w'.cell? ⟨q, 0, none⟩ = some (.int .i64 a) ∧ w'.cell? ⟨V, a, none⟩ = some (.int .i64 x)))) (by kernel_rfl) ?_ (fun hHeld => ?_)
  · (try dsimp only)
    (first | exact Kd | fail)
  refine wpAnyH_take (i := 0) (v := ?_) rfl (by kernel_rfl) (by kernel_rfl) (by kernel_rfl) (fun _ _ _ h => h) (Or.inl ⟨by rfl, ?_⟩) (by assumption) ?_
  rotate_left
  · intro w hSw
    simp only [List.getElem_toArray, List.getElem_cons_zero]
    (try dsimp only at hSw)
    go_simp
    first | done | (with_reducible rfl)
  simp only [List.getElem_toArray, List.getElem_cons_zero, Act.put, List.setIfInBounds_toArray, List.set_cons_zero, List.set_cons_succ]
  refine wpAnyH_take (i := 1) (v := ?_) rfl (by kernel_rfl) (by kernel_rfl) (by kernel_rfl) (fun _ _ _ h => h) (Or.inl ⟨by rfl, ?_⟩) (by assumption) ?_
  rotate_left
  · intro w hSw
    simp only [List.getElem_toArray, List.getElem_cons_succ, List.getElem_cons_zero]
    (try dsimp only at hSw)
    go_simp
    first | done | (with_reducible rfl)
  simp only [List.getElem_toArray, List.getElem_cons_succ, List.getElem_cons_zero, Act.put, List.setIfInBounds_toArray, List.set_cons_zero, List.set_cons_succ]
  refine wpAnyH_take (i := 2) (v := ?_) rfl (by kernel_rfl) (by kernel_rfl) (by kernel_rfl) (fun _ _ _ h => h) (Or.inl ⟨by rfl, ?_⟩) (by assumption) ?_
  rotate_left
  · intro w hSw
    simp only [List.getElem_toArray, List.getElem_cons_succ, List.getElem_cons_zero]
    (try dsimp only at hSw)
    go_simp
    first | done | (with_reducible rfl)
  simp only [List.getElem_toArray, List.getElem_cons_succ, List.getElem_cons_zero, Act.put, List.setIfInBounds_toArray, List.set_cons_zero, List.set_cons_succ]
  refine wpAnyH_take (i := 3) (v := ?_) rfl (by kernel_rfl) (by kernel_rfl) (by kernel_rfl) (fun _ _ _ h => h) (Or.inl ⟨by rfl, ?_⟩) (by assumption) ?_
  rotate_left
  · intro w hSw
    simp only [List.getElem_toArray, List.getElem_cons_succ, List.getElem_cons_zero]
    (try dsimp only at hSw)
    go_simp
    first | done | (with_reducible rfl)
  simp only [List.getElem_toArray, List.getElem_cons_succ, List.getElem_cons_zero, Act.put, List.setIfInBounds_toArray, List.set_cons_zero, List.set_cons_succ]
  refine wpAnyH_take (i := 4) (v := ?_) rfl (by kernel_rfl) (by kernel_rfl) (by kernel_rfl) (fun _ _ _ h => h) (Or.inl ⟨by rfl, ?_⟩) (by assumption) ?_
  rotate_left
  · intro w hSw
    simp only [List.getElem_toArray, List.getElem_cons_succ, List.getElem_cons_zero]
    (try dsimp only at hSw)
    go_simp
    first | done | (with_reducible rfl)
  simp only [List.getElem_toArray, List.getElem_cons_succ, List.getElem_cons_zero, Act.put, List.setIfInBounds_toArray, List.set_cons_zero, List.set_cons_succ]
  refine wpAnyH_take (i := 5) (v := ?_) rfl (by kernel_rfl) (by kernel_rfl) (by kernel_rfl) (fun _ _ _ h => h) (Or.inl ⟨by rfl, ?_⟩) (by assumption) ?_
  rotate_left
  · intro w hSw
    simp only [List.getElem_toArray, List.getElem_cons_succ, List.getElem_cons_zero]
    (try dsimp only at hSw)
    go_simp
    first | done | (with_reducible rfl)
  simp only [List.getElem_toArray, List.getElem_cons_succ, List.getElem_cons_zero, Act.put, List.setIfInBounds_toArray, List.set_cons_zero, List.set_cons_succ]
  refine wpAnyH_take (i := 6) (v := ?_) rfl (by kernel_rfl) (by kernel_rfl) (by kernel_rfl) (fun _ _ _ h => h) (Or.inl ⟨by rfl, ?_⟩) (by assumption) ?_
  rotate_left
  · intro w hSw
    simp only [List.getElem_toArray, List.getElem_cons_succ, List.getElem_cons_zero]
    (try dsimp only at hSw)
    go_simp
    first | done | (with_reducible rfl)
  simp only [List.getElem_toArray, List.getElem_cons_succ, List.getElem_cons_zero, Act.put, List.setIfInBounds_toArray, List.set_cons_zero, List.set_cons_succ]
  refine wpAnyH_take (i := 7) (v := ?_) rfl (by kernel_rfl) (by kernel_rfl) (by kernel_rfl) (fun _ _ _ h => h) (Or.inl ⟨by rfl, ?_⟩) (by assumption) ?_
  rotate_left
  · intro w hSw
    simp only [List.getElem_toArray, List.getElem_cons_succ, List.getElem_cons_zero]
    (try dsimp only at hSw)
    go_simp
    first | done | (with_reducible rfl)
  simp only [List.getElem_toArray, List.getElem_cons_succ, List.getElem_cons_zero, Act.put, List.setIfInBounds_toArray, List.set_cons_zero, List.set_cons_succ]
  refine wpAnyH_take (i := 8) (v := ?_) rfl (by kernel_rfl) (by kernel_rfl) (by kernel_rfl) (fun _ _ _ h => h) (Or.inl ⟨by rfl, ?_⟩) (by assumption) ?_
  rotate_left
  · intro w hSw
    simp only [List.getElem_toArray, List.getElem_cons_succ, List.getElem_cons_zero]
    (try dsimp only at hSw)
    go_simp
    first | done | (with_reducible rfl)
  simp only [List.getElem_toArray, List.getElem_cons_succ, List.getElem_cons_zero, Act.put, List.setIfInBounds_toArray, List.set_cons_zero, List.set_cons_succ]
  refine wpAnyH_done (by kernel_rfl) ?_ _
  generalize w1.drew = w2 at *
  clear Kd r2 k0 k1 k2 va HW1 HF1
  go_wp2_with fail
  refine (goTo_any f wa _ bl R V G s st val vis ev t HW2.out hVR).mono ?_
  rintro e w3 ⟨v3, ev3, rfl, hw3, hf3⟩
  have HW3 := Lib.hid hw3
  have HF3 := Lib.hid (HF2.out.trans hf3)
  clear hw3 hf3
  go_wp2_with fail
  exact bodyPost_end (results_none Tryz.results66 _ _ _) rfl ⟨_, _, rfl, HW3.out, HF3.out⟩


theorem leaveBy_next (f : FunD) (wa w : World) (bl : Value) (R V G : Nat) (s : VSt) (st val : Int) (vis : Nat) (ev : Value) (x : BlockD) (t : Int) (h : RW f wa w bl R V G s st val vis ev) (hVR : V < R)
    (hok : EndP s.σ.length f.blocks.length x.fin) (hn : nextS x s.σ = some t) :
    Calls Tryz.prog 66 #[.pointer (some ⟨R, 0, none⟩), endV x.fin] w (GivesRun f wa bl R V G { s with at_ := t.toNat, bef := s.at_ } st val vis ev w) := by
  obtain ⟨e1, e2, _⟩ := hok
  unfold nextS at hn
  generalize x.fin = fi at *
  obtain ⟨k, a, tt, l⟩ := fi
  unfold endOkB at e1
  simp only [isNameB, isBelowB] at hn e1 e2
  by_cases h1 : k = 1
  · rw [if_pos h1] at hn; cases hn
  rw [if_neg h1] at hn e1
  by_cases h2 : k = 2
  · subst h2
    rw [if_neg (by omega)] at hn
    rw [if_pos rfl] at e1
    injection hn with hn
    subst hn
    simp at e1
    have h := leave_jump f wa w bl R V G s st val vis ev tt.toNat h hVR
    rwa [show ((tt.toNat : Nat) : Int) = tt by omega] at h
  · rw [if_neg h2] at e1
    by_cases h3 : k = 3
    · subst h3
      rw [if_pos rfl] at e1 hn
      simp at e1
      have hal : a.toNat < s.σ.length := by omega
      have he : endV ⟨3, a, tt, l⟩ = .iface 152 (.agg #[.int .i64 (a.toNat : Nat), .int .i64 (tt.toNat : Nat), .int .i64 (l.toNat : Nat)]) := by
        rw [show ((a.toNat : Nat) : Int) = a by omega, show ((tt.toNat : Nat) : Int) = tt by omega, show ((l.toNat : Nat) : Int) = l by omega]; rfl
      rw [he]
      by_cases h0 : gN s.σ a = 0
      · rw [if_pos h0] at hn
        injection hn with hn
        subst hn
        exact leave_if0 f wa w bl R V G s st val vis ev a.toNat tt.toNat l.toNat h hVR hal (by rw [show ((a.toNat : Nat) : Int) = a by omega]; exact h0)
      · rw [if_neg h0] at hn
        injection hn with hn
        subst hn
        exact leave_if1 f wa w bl R V G s st val vis ev a.toNat tt.toNat l.toNat h hVR hal (by rw [show ((a.toNat : Nat) : Int) = a by omega]; exact h0)
    · rw [if_neg h3] at e1
      cases e1

theorem leaveBy_end (f : FunD) (wa w : World) (bl : Value) (R V G : Nat) (s : VSt) (st val : Int) (vis : Nat) (ev : Value) (x : BlockD) (h : RW f wa w bl R V G s st val vis ev) (hVR : V < R)
    (hok : EndP s.σ.length f.blocks.length x.fin) (hn : nextS x s.σ = none) :
    Calls Tryz.prog 66 #[.pointer (some ⟨R, 0, none⟩), endV x.fin] w (GivesRun f wa bl R V G s 2 (gN s.σ x.fin.a) vis ev w) := by
  have hk : x.fin.k = 1 := by
    unfold nextS at hn
    by_cases h1 : x.fin.k = 1
    · exact h1
    · rw [if_neg h1] at hn
      split at hn
      · split at hn <;> cases hn
      · cases hn
  obtain ⟨e1, e2, _⟩ := hok
  unfold endOkB at e1
  rw [if_pos hk] at e1
  simp [isNameB] at e1
  have hal : x.fin.a.toNat < s.σ.length := by omega
  have h := leave_ret f wa w bl R V G s st val vis ev x.fin.a.toNat h hVR hal
  rw [show ((x.fin.a.toNat : Nat) : Int) = x.fin.a by omega] at h
  unfold endV
  rw [if_pos hk]
  exact h
end

end Go.Proofs.YtnjmlhokkhkaaaaGreat
