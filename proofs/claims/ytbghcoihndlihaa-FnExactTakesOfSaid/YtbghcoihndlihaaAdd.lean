/- add and addOnce of the program: one place more. -/
import Derived.Test.YtbghcoihndlihaaQRow
import Derived.Test.YtbghcoihndlihaaPk
import Derived.Test.YtbghcoihndlihaaOff
import Derived.Deep.AppendLies
import Derived.Deep.DeepCutAuto
namespace Go.Proofs.Ytbghcoihndlihaa
open Go.ChangeShapes Go.WideShapes Go.ChangeAt Go.RowKit Go.Joins

theorem step_append_place {ops : Array Oper} {o : Oper} {a : Act} {K : Act → World → Prop} {Q : Exit → Act → World → Prop} {F : Prop} (hgd : o.guard = none) (s x : Operand)
    (ho : o.op = .call { callee := .builtin .append, args := #[s, x], argTypes := #[26, 26] })
    (B : Nat) (v : Value) (es : List MoveD) (p q : Int) (w : World) (g : Nat) (hs : a.eval s = v) (hown : OP w B v es) (hx : a.eval x = .slice (some ⟨g, 0, none⟩) 1 1) (hg : w.heap[g]? = some (.cells #[.int .i64 p, .int .i64 q] 43 (0, 0))) (hb : B ≤ w.heap.size) (hlen : es.length ≤ 1048576)
    (h : ∀ g cap w', OP w' B (.slice (some ⟨g, 0, none⟩) (es.length + 1) cap) (es ++ [⟨p, q⟩]) → w.grownBy w' v.ownBlock → (v.ownBlock = some g ∨ g = w.heap.size) → K (a.put o.dst (.slice (some ⟨g, 0, none⟩) (es.length + 1) cap)) w') :
    if Region.wanted o (yielded ops a.tmps) = true then Oper.wp Try.prog o a w K Q else F := by
  obtain ⟨i0, hi, hz0, hz1, hz2⟩ := info_parts info_place
  refine step_append_lies (P := Try.prog) w hgd s x 26 ho B 43 i0 (.agg #[.int .i64 0, .int .i64 0]) 2 16 Try.underlying26 hi hz0 hz1 hz2 rfl (by decide) v es.length (fl es) hs hown ⟨g, 0, none⟩ 1 1 [.int .i64 p, .int .i64 q] hx rfl (World.news_of_block hg) (by simp [Value.oneCell']) (by omega) (by rw [maxLen_is]; omega) (by omega) hb w.heap.size rfl ?_
  intro g cap w' hown' hgr hat _
  refine h g cap w' ?_ hgr hat
  unfold OP
  rw [fl_append, List.length_append]
  exact hown'

def GivesAdd (G n : Nat) (row : Nat → List MoveD) (w : World) (e : Ending) (w' : World) : Prop := ∃ v, e = .returned v ∧ QRow w' (G + 1) G n row ∧ Adds w w' G

set_option maxRecDepth 10000 in
set_option maxHeartbeats 1000000 in
theorem add_any (G n : Nat) (row : Nat → List MoveD) (j : Nat) (p : MoveD) (w : World) (h : QRow w (G + 1) G n row) (hj : j < n) (hlen : (row j).length ≤ 1000000) :
    Calls Try.prog 37 #[.slice (some ⟨G, 0, none⟩) n n, .int .i64 j, .agg #[.int .i64 p.dst, .int .i64 p.src]] w (GivesAdd G n (fun i => if i = j then row j ++ [p] else row i) w) := by
  have hG := h.lt
  have hj' : (j : Int) < (n : Int) := by omega
  have hj0 : 0 ≤ (j : Int) := by omega
  go_enter Try.func37, Try.ntmps37
  go_upto_region 1 with fail
  have k0 : (w.alloc (.cells #[.int .i64 p.dst, .int .i64 p.src] 43)).cell? ⟨w.heap.size, 0, none⟩ = some (.int .i64 p.dst) := by go_simp
  have k1 : (w.alloc (.cells #[.int .i64 p.dst, .int .i64 p.src] 43)).cell? ⟨w.heap.size, 1, none⟩ = some (.int .i64 p.src) := by go_simp
  have hB1 : Below w.heap.size w (w.alloc (.cells #[.int .i64 p.dst, .int .i64 p.src] 43)) := (Below.refl _ _).alloc (Nat.le_refl _) _
  have hs1 : (w.alloc (.cells #[.int .i64 p.dst, .int .i64 p.src] 43)).heap.size = w.heap.size + 1 := by simp
  generalize w.alloc (.cells #[.int .i64 p.dst, .int .i64 p.src] 43) = w1 at *
  have HQ1 := Lib.hid (h.below hB1)
  have HA1 := Lib.hid (Adds.below hB1 hG)
  obtain ⟨q, hq⟩ : ∃ q, q = w.heap.size := ⟨_, rfl⟩
  rw [← hq] at k0 k1 hs1 hG ⊢
  have hql : q < w1.heap.size := by omega
  have hGl : G < w1.heap.size := by omega
  obtain ⟨v, hcv, hov⟩ := HQ1.out.get hj
  have hfz := HQ1.out.frozen j
  have HOV := Lib.hid hov
  have hqv : ∀ k, v.ownBlock = some k → k ≠ q ∧ G < k ∧ k < w1.heap.size := fun k hk => by
    refine ⟨fun e => ?_, ?_⟩
    · subst e
      obtain ⟨u, hu, ho⟩ := h.get hj
      have : u = v := by
        have h1 := (hB1.cell (p := ⟨G, j, none⟩) (show G < w.heap.size by omega)).trans hu
        rw [hcv] at h1
        exact (Option.some.inj h1).symm
      subst this
      have := (ho.lt _ hk).2
      omega
    · have := hov.lt k hk
      omega
  have HQV := Lib.hid hqv
  have Kd : (fun w' => w'.cell? ⟨G, j, none⟩ = some v ∧ w'.cell? ⟨q, 0, none⟩ = some (.int .i64 p.dst) ∧ w'.cell? ⟨q, 1, none⟩ = some (.int .i64 p.src)) w1.drew := ⟨hcv, k0, k1⟩
  have HS1 := Lib.hid hs1
  clear hov h hB1 hqv hq hs1
  refine wp_region_offL (S := ((fun w' => w'.cell? ⟨G, j, none⟩ = some v ∧ w'.cell? ⟨q, 0, none⟩ = some (.int .i64 p.dst) ∧ w'.cell? ⟨q, 1, none⟩ = some (.int .i64 p.src)))) (by simp) (by kernel_rfl) (by kernel_rfl) (by kernel_rfl) (by kernel_rfl) (by kernel_rfl) ?_ (fun hHeld => ?_)
  · (try dsimp only)
    (first | exact Kd | exact HK9.out | (refine ⟨?_, ?_, ?_⟩ <;> go_simp) | fail)
  simp only [List.dropLast_cons_cons, List.dropLast_singleton, List.length_cons, List.length_nil]
  refine wpAnyH_take (i := 0) (v := ?_) rfl (by kernel_rfl) (by kernel_rfl) (by kernel_rfl) (fun _ _ _ h => h) (Or.inl ⟨by rfl, ?_⟩) (by assumption) ?_
  rotate_left
  · intro w hSw
    simp only [List.getElem_toArray, List.getElem_cons_zero]
    (try dsimp only at hSw)
    go_simp
    first | done | (with_reducible rfl)
  simp only [List.getElem_toArray, List.getElem_cons_zero, Act.put, List.setIfInBounds_toArray, List.set_cons_zero, List.set_cons_succ]
  refine wpAnyH_take (i := 1) (v := ?_) rfl (by kernel_rfl) (by kernel_rfl) (by kernel_rfl) (fun _ _ _ h => h) (Or.inl ⟨by rfl, ?_⟩) (by assumption) ?_
  rotate_left
  · intro w hSw
    simp only [List.getElem_toArray, List.getElem_cons_succ, List.getElem_cons_zero]
    (try dsimp only at hSw)
    go_simp
    first | done | (with_reducible rfl)
  simp only [List.getElem_toArray, List.getElem_cons_succ, List.getElem_cons_zero, Act.put, List.setIfInBounds_toArray, List.set_cons_zero, List.set_cons_succ]
  refine wpAnyH_take (i := 2) (v := ?_) rfl (by kernel_rfl) (by kernel_rfl) (by kernel_rfl) (fun _ _ _ h => h) (Or.inl ⟨by rfl, ?_⟩) (by assumption) ?_
  rotate_left
  · intro w hSw
    simp only [List.getElem_toArray, List.getElem_cons_succ, List.getElem_cons_zero]
    (try dsimp only at hSw)
    go_simp
    first | done | (with_reducible rfl)
  simp only [List.getElem_toArray, List.getElem_cons_succ, List.getElem_cons_zero, Act.put, List.setIfInBounds_toArray, List.set_cons_zero, List.set_cons_succ]
  refine wpAnyH_take (i := 3) (v := ?_) rfl (by kernel_rfl) (by kernel_rfl) (by kernel_rfl) (fun _ _ _ h => h) (Or.inl ⟨by rfl, ?_⟩) (by assumption) ?_
  rotate_left
  · intro w hSw
    simp only [List.getElem_toArray, List.getElem_cons_succ, List.getElem_cons_zero]
    (try dsimp only at hSw)
    go_simp
    first | done | (with_reducible rfl)
  simp only [List.getElem_toArray, List.getElem_cons_succ, List.getElem_cons_zero, Act.put, List.setIfInBounds_toArray, List.set_cons_zero, List.set_cons_succ]
  refine wpAnyH_take (i := 4) (v := ?_) rfl (by kernel_rfl) (by kernel_rfl) (by kernel_rfl) (fun _ _ _ h => h) (Or.inl ⟨by rfl, ?_⟩) (by assumption) ?_
  rotate_left
  · intro w hSw
    simp only [List.getElem_toArray, List.getElem_cons_succ, List.getElem_cons_zero]
    (try dsimp only at hSw)
    go_simp
    first | done | (with_reducible rfl)
  simp only [List.getElem_toArray, List.getElem_cons_succ, List.getElem_cons_zero, Act.put, List.setIfInBounds_toArray, List.set_cons_zero, List.set_cons_succ]
  refine wpAnyH_take (i := 5) (v := ?_) rfl (by kernel_rfl) (by kernel_rfl) (by kernel_rfl) (fun _ _ _ h => h) (Or.inl ⟨by rfl, ?_⟩) (by assumption) ?_
  rotate_left
  · intro w hSw
    simp only [List.getElem_toArray, List.getElem_cons_succ, List.getElem_cons_zero]
    (try dsimp only at hSw)
    go_simp
    first | done | (with_reducible rfl)
  simp only [List.getElem_toArray, List.getElem_cons_succ, List.getElem_cons_zero, Act.put, List.setIfInBounds_toArray, List.set_cons_zero, List.set_cons_succ]
  refine wpAnyH_take (i := 6) (v := ?_) rfl (by kernel_rfl) (by kernel_rfl) (by kernel_rfl) (fun _ _ _ h => h) (Or.inl ⟨by rfl, ?_⟩) (by assumption) ?_
  rotate_left
  · intro w hSw
    simp only [List.getElem_toArray, List.getElem_cons_succ, List.getElem_cons_zero]
    (try dsimp only at hSw)
    go_simp
    first | done | (with_reducible rfl)
  simp only [List.getElem_toArray, List.getElem_cons_succ, List.getElem_cons_zero, Act.put, List.setIfInBounds_toArray, List.set_cons_zero, List.set_cons_succ]
  refine wpAnyH_ready (rs := [7]) (by kernel_rfl) (by simp) ?_
  refine AllReadyH.cons rfl (fun K hK => ?_) AllReadyH.nil
  simp only [List.getElem_toArray, List.getElem_cons_succ, List.getElem_cons_zero]
  go_simp
  refine hK.out _ _ ?_ (fun hHeld => ?_)
  · (try dsimp only)
    (first | exact Kd | exact HK9.out | (refine ⟨?_, ?_, ?_⟩ <;> go_simp) | fail)
  clear hK K
  (try simp only [List.getElem_toArray, List.getElem_cons_succ, List.getElem_cons_zero, Act.put, List.setIfInBounds_toArray, List.set_cons_zero, List.set_cons_succ])
  refine wpAnyH_ready (rs := [8]) (by kernel_rfl) (by simp) ?_
  refine AllReadyH.cons rfl (fun K hK => ?_) AllReadyH.nil
  ((refine step_append_place (by rfl) (.tmp 11) (.tmp 13) (by rfl) (G + 1) v (row j) p.dst p.src _ w1.heap.size (by rfl) (HOV.out.below ((Below.refl _ _).drew.alloc (by simp) _) (fun k hk => (HQV.out k hk).2.2)) (by rfl) (heap_alloc_new _ _) (by simp; omega) (by omega) ?_; intro g cap w9 hown9 hg9 hat9; have HO9 := Lib.hid hown9; have HG9 : Hid (w1.grownBy w9 v.ownBlock) := ((show w1.grownBy w1.drew _ from ⟨rfl, rfl, rfl, Nat.le_refl _, fun _ _ _ => rfl⟩).trans (World.grownBy_alloc w1.drew _ _)).trans hg9; have HA9 : Hid (v.ownBlock = some g ∨ g = w1.heap.size + 1) := (by rcases hat9 with h | h; exact .inl h; exact .inr (by rw [h]; simp)); have HK9 : Hid ((fun w' => w'.cell? ⟨G, j, none⟩ = some v ∧ w'.cell? ⟨q, 0, none⟩ = some (.int .i64 p.dst) ∧ w'.cell? ⟨q, 1, none⟩ = some (.int .i64 p.src)) w9) := ⟨(World.cell?_of_block (a := ⟨G, j, none⟩) (HG9.out.block _ hGl (fun e => by have := (HQV.out G e.symm).2.1; omega))).trans Kd.1, (World.cell?_of_block (a := ⟨q, 0, none⟩) (HG9.out.block _ hql (fun e => (HQV.out q e.symm).1 rfl))).trans Kd.2.1, (World.cell?_of_block (a := ⟨q, 1, none⟩) (HG9.out.block _ hql (fun e => (HQV.out q e.symm).1 rfl))).trans Kd.2.2⟩; clear hown9 hg9 hat9))
  refine hK.out _ _ ?_ (fun hHeld => ?_)
  · (try dsimp only)
    (first | exact Kd | exact HK9.out | (refine ⟨?_, ?_, ?_⟩ <;> go_simp) | fail)
  clear hK K
  (try simp only [List.getElem_toArray, List.getElem_cons_succ, List.getElem_cons_zero, Act.put, List.setIfInBounds_toArray, List.set_cons_zero, List.set_cons_succ])
  refine wpAnyH_take (i := 9) (v := ?_) rfl (by kernel_rfl) (by kernel_rfl) (by kernel_rfl) (fun _ _ _ h => h) (Or.inl ⟨by rfl, ?_⟩) (by assumption) ?_
  rotate_left
  · intro w hSw
    simp only [List.getElem_toArray, List.getElem_cons_succ, List.getElem_cons_zero]
    (try dsimp only at hSw)
    go_simp
    first | done | (with_reducible rfl)
  simp only [List.getElem_toArray, List.getElem_cons_succ, List.getElem_cons_zero, Act.put, List.setIfInBounds_toArray, List.set_cons_zero, List.set_cons_succ]
  refine wpAnyH_done (by kernel_rfl) ?_ _
  have hfz9 := (World.frozen?_of_block (a := ⟨G, j, none⟩) (HG9.out.block _ hGl (fun e => by have := (HQV.out G e.symm).2.1; omega))).trans hfz
  have hc9 := HK9.out.1
  refine offQ_last rfl (fun KL hKL => ?_)
  go_simp
  refine hKL.out _ _ ?_
  have hv9 : (Value.slice (some ⟨g, 0, none⟩) ((row j).length + 1) cap).ownBlock = v.ownBlock ∨ ∃ k, (Value.slice (some ⟨g, 0, none⟩) ((row j).length + 1) cap).ownBlock = some k ∧ w1.heap.size ≤ k := by
    rcases HA9.out with h | h
    · exact .inl (by rw [h]; rfl)
    · exact .inr ⟨g, rfl, by omega⟩
  have HQ9 := Lib.hid (HQ1.out.append hj rfl hcv HO9.out HG9.out hv9)
  have HD9 := Lib.hid (HA1.out.trans (Adds.append HQ1.out rfl hj hcv HG9.out hv9))
  go_wp2_with fail
  exact bodyPost_end (results_none Try.results37 _ _ _) rfl ⟨_, rfl, HQ9.out, HD9.out⟩

end Go.Proofs.Ytbghcoihndlihaa
