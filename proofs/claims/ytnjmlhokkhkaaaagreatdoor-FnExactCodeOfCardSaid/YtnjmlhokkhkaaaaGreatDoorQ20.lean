/- OpenM, joined. -/
import Derived.Test.YtnjmlhokkhkaaaaGreatDoorQ19
import Derived.Deep.DeepCutAuto
import Derived.Deep.CutRange
namespace Go.Proofs.YtnjmlhokkhkaaaaGreatDoor

/- l5Open of the model. -/
section
open Go.ChangeShapes Go.WideShapes Go.ChangeAt Go.RowKit Go.Joins

theorem info_brow : (Tryz.prog.info? 174).map (fun i => (i.zero, i.size, i.bytes)) = some (some (.slice none 0 0), 1, 24) := by kernel_rfl
def Mix (N m : Nat) (rs cs bs : List Bool) : Prop := bs.length = N ∧ ∀ j a b, rs[j]? = some a → cs[j]? = some b → bs[j]? = some (if j < m then a && !b else b)
theorem Mix.step {N m : Nat} {rs cs bs : List Bool} {a b : Bool} (h : Mix N m rs cs bs) (hm : m < N) (ha : rs[m]? = some a) (hb : cs[m]? = some b) : Mix N (m + 1) rs cs (bs.set m (a && !b)) := by
  refine ⟨by rw [List.length_set]; exact h.1, fun j a' b' hj hj' => ?_⟩
  by_cases e : m = j
  · subst e
    rw [ha] at hj
    rw [hb] at hj'
    injection hj with hj
    injection hj' with hj'
    subst hj hj'
    rw [set_get_self (by rw [h.1]; exact hm), if_pos (by omega)]
  · rw [set_get_other e, h.2 j a' b' hj hj']
    by_cases hlt : j < m
    · rw [if_pos hlt, if_pos (by omega)]
    · rw [if_neg hlt, if_neg (by omega)]
theorem Mix.row {f : FunD} {i : Nat} {rs cs bs : List Bool} (h : Mix f.blocks.length f.blocks.length rs cs bs) (hr : IsReach (scF f.blocks) (-1) f.blocks.length rs) (hc : IsReach (scF f.blocks) i f.blocks.length cs) : DomRow f i bs := by
  refine ⟨h.1, fun j hj => ?_⟩
  obtain ⟨a, ha⟩ : ∃ a, rs[j]? = some a := ⟨_, List.getElem?_eq_getElem (show j < rs.length by rw [hr.1]; exact hj)⟩
  obtain ⟨b, hb⟩ : ∃ b, cs[j]? = some b := ⟨_, List.getElem?_eq_getElem (show j < cs.length by rw [hc.1]; exact hj)⟩
  have h1 := hr.2 j hj
  have h2 := hc.2 j hj
  rw [h.2 j a b ha hb, if_pos hj]
  rw [ha] at h1
  rw [hb] at h2
  rw [← h1, ← h2]
  cases a <;> cases b <;> simp
theorem wpList_append_brow {ops : Array Oper} {rest : List Oper} {o : Oper} {a : Act} {Q : Exit → Act → World → Prop} (hgd : o.guard = none) (s x : Operand)
    (ho : o.op = .call { callee := .builtin .append, args := #[s, x], argTypes := #[120, 120] })
    (B : Nat) (v : Value) (N : Nat) (qs : List Nat) (q : Nat) (w : World) (hs : a.eval s = v) (hown : w.ownsRow B 174 1 v qs.length (rowVs N qs)) (hx : a.eval x = .slice (some ⟨w.heap.size, 0, none⟩) 1 1) (hb : B ≤ w.heap.size) (hlen : qs.length ≤ 1000)
    (h : ∀ v' w', w'.ownsRow B 174 1 v' (qs ++ [q]).length (rowVs N (qs ++ [q])) → w.grownBy w' v.ownBlock → (v'.ownBlock = v.ownBlock ∨ ∃ k, v'.ownBlock = some k ∧ w.heap.size ≤ k) → wpList Tryz.prog ops Q rest (a.put o.dst v') w') :
    wpList Tryz.prog ops Q (o :: rest) a (w.alloc (.cells #[.slice (some ⟨q, 0, none⟩) N N] 174)) := by
  obtain ⟨i0, hi, hz0, hz1, hz2⟩ := info_parts info_brow
  refine wpList_append_own_at (P := Tryz.prog) _ hgd s x _ ho B 174 i0 (.slice none 0 0) 1 24 Tryz.underlying120 hi hz0 hz1 hz2 rfl (by decide) v qs.length (rowVs N qs) hs (World.ownsRow.alloc hown _) ⟨w.heap.size, 0, none⟩ 1 1 [.slice (some ⟨q, 0, none⟩) N N] hx rfl (cell_one_new w _ _) (by simp [Value.oneCell']) (by rw [maxLen_is]; omega) (by omega) (by simp; omega) ?_
  intro v' w' hown' hg _ hat
  refine h v' w' ?_ ((World.grownBy_alloc w _ _).trans hg) ?_
  · unfold rowVs at hown' ⊢
    rw [List.map_append, List.length_append]
    exact hown'
  · rcases hat with h | h
    · exact .inl h
    · exact .inr ⟨_, h, by simp⟩

theorem blkP_name {f : FunD} (hp : FunP f) {k : Nat} {x : BlockD} (hx : f.blocks[k]? = some x) {e : EvD} (h : e ∈ blkP f k x) : isBelowB e.n f.names = true := by
  unfold blkP at h
  rw [List.mem_append] at h
  rcases h with h | h
  · split at h
    · have := parG_dst h
      have h1 := hp.1.2.2.1
      have h2 := hp.1.2.2.2.1
      simp [isBelowB]; omega
    · cases h
  · exact blkG_name hp hx h
theorem QRow.zero {w : World} {G n : Nat} (h : w.heap[G]? = some (.cells (madeCells #[.slice none 0 0] n) 29 (0, 0))) : QRow w (G + 1) G n fun _ => [] := by
  have hc : ∀ j v, (madeCells #[.slice none 0 0] n)[j]? = some v → v = Value.slice none 0 0 := fun j v hv => by
    rw [← Array.getElem?_toList, toList_madeCells_one] at hv
    exact (List.mem_replicate.1 (List.mem_of_getElem? hv)).2
  refine ⟨_, h, size_madeCells _ _, fun j hj => ?_, fun i j u v _ hu _ => ?_⟩
  · refine ⟨_, Array.getElem?_eq_getElem (by rw [size_madeCells]; exact hj), ?_⟩
    rw [hc j _ (Array.getElem?_eq_getElem (by rw [size_madeCells]; exact hj))]
    exact World.ownsRow_nil _ _ _ _
  · rw [hc i u hu]; exact .inl rfl
theorem Owns.zero {w : World} {G n k : Nat} (h : w.heap[G]? = some (.cells (madeCells #[.slice none 0 0] n) 29 (0, 0))) (hk : Owns w G k) : k = G := by
  rcases hk with e | ⟨j, v, hv, hk⟩
  · exact e
  · rw [cell_of_row w G j _ _ (0, 0) h] at hv
    rw [← Array.getElem?_toList, toList_madeCells_one] at hv
    rw [(List.mem_replicate.1 (List.mem_of_getElem? hv)).2] at hk
    cases hk
theorem three (X : World) (m : Nat) (hm : X.heap.size = m) (a b c : Obj) : ((((X.alloc a).alloc b).alloc c).drew).heap[m]? = some a ∧ ((((X.alloc a).alloc b).alloc c).drew).heap[m + 1]? = some b ∧ ((((X.alloc a).alloc b).alloc c).drew).heap[m + 2]? = some c := by
  subst hm
  refine ⟨?_, ?_, ?_⟩
  · exact (Below.heap_alloc _ _ _ (by simp only [World.size_alloc]; omega)).trans ((Below.heap_alloc _ _ _ (by simp only [World.size_alloc]; omega)).trans (heap_alloc_new X a))
  · have h := heap_alloc_new (X.alloc a) b
    rw [World.size_alloc] at h
    exact (Below.heap_alloc _ _ _ (by simp only [World.size_alloc]; omega)).trans h
  · have h := heap_alloc_new ((X.alloc a).alloc b) c
    rw [World.size_alloc, World.size_alloc] at h
    exact h
theorem OSt.start (f : FunD) {w : World} {K G1 G2 n B : Nat} {bv : Value} (hn : f.names = n) (hk : w.heap[K]? = some (.cells #[.int .i64 f.params, .int .i64 n, bv, .slice none 0 0, .slice (some ⟨G1, 0, none⟩) n n, .slice (some ⟨G2, 0, none⟩) n n] 122 (0, 0))) (h1 : w.heap[G1]? = some (.cells (madeCells #[.slice none 0 0] n) 29 (0, 0))) (h2 : w.heap[G2]? = some (.cells (madeCells #[.slice none 0 0] n) 29 (0, 0)))
    (n1 : K ≠ G1) (n2 : K ≠ G2) (n3 : G1 ≠ G2) (b1 : B ≤ G1) (b2 : B ≤ G2) (bk : B ≤ K) : OSt f w B K G1 G2 n bv (.slice none 0 0) [] [] [] where
  hK := by rw [hn]; exact hk
  h1 := QRow.zero h1
  h2 := QRow.zero h2
  hd := World.ownsRow_nil _ _ _ _
  hq := fun i q h => by simp at h
  k1 := fun h => n1 (Owns.zero h1 h)
  k2 := fun h => n2 (Owns.zero h2 h)
  kd := fun h => by cases h
  d12 := fun k x y => n3 ((Owns.zero h1 x).symm.trans (Owns.zero h2 y))
  d1d := fun k h => by cases h
  b1 := b1
  b2 := b2
  bk := bk

/-- The book whole. -/
def GivesBook (f : FunD) (w : World) (e : Ending) (w' : World) : Prop := ∃ (n : Nat) (bv dv : Value) (K G1 G2 : Nat) (qs : List Nat), e = .returned (.agg #[.int .i64 f.params, .int .i64 f.names, bv, dv, .slice (some ⟨G1, 0, none⟩) n n, .slice (some ⟨G2, 0, none⟩) n n]) ∧ f.names = n ∧ (∃ A c, bv = .slice A f.blocks.length c) ∧ OSt f w' (w.heap.size + 2) K G1 G2 n bv dv qs (defsK f f.blocks.length) (takesK f f.blocks.length) ∧ qs.length = f.blocks.length ∧ Below w.heap.size w w'

set_option maxRecDepth 10000 in
set_option maxHeartbeats 4000000 in
theorem l5Open_any (f : FunD) (v : Value) (w : World) (Z : Zn) (hp : FunP f) (hv : EFun w Z f v) (hD : ∀ b, Z.D b → b < w.heap.size) :
    Calls Tryz.prog 75 #[v] w (GivesBook f w) := by
  have HF := Lib.hid hv
  obtain ⟨u, rfl, hu⟩ := hv
  obtain ⟨_, A, c, rfl, hx⟩ := hu
  obtain ⟨n, hnn⟩ : ∃ n : Nat, f.names = n := ⟨f.names.toNat, by have := hp.1.2.1.1; omega⟩
  have hn150 : n ≤ 150 := by have := hp.1.2.1.2; omega
  have HP := Lib.hid hp
  have HNN := Lib.hid hnn
  have h40 := hp.1.1.2
  have h1n := hp.1.1.1
  obtain ⟨i0, hi, hz0, hz1, hz2⟩ := info_parts info_places
  have hmk := fun W => run_make_rowN (P := Tryz.prog) 46 29 i0 _ Tryz.underlying46 hi hz0 .i64 .i64 n n (Nat.le_refl _) (by rw [hz2]; omega) (by omega) W
  rw [hz1] at hmk
  rw [hnn]
  clear hx hi hz0 hz1 hz2 hp hnn
  go_enter Tryz.func75, Tryz.ntmps75
  go_upto_region 1 with fail
  go_cut [3] (fun s3 wx => ∃ K G1 G2 : Nat, s3 = .pointer (some ⟨K, 0, none⟩) ∧ Hid (OSt f wx (w.heap.size + 2) K G1 G2 n (.slice A f.blocks.length c) (.slice none 0 0) [] [] []) ∧ Hid (Below (w.heap.size + 2) ((w.alloc (.cells #[.int .i64 f.params, .int .i64 n, .slice A f.blocks.length c] 26)).alloc (.cells #[.int .i64 0, .int .i64 0, .slice none 0 0, .slice none 0 0, .slice none 0 0, .slice none 0 0] 122)) wx))
  case first =>
    have Kd : (fun w' => w'.cell? ⟨w.heap.size, 0, none⟩ = some (.int .i64 f.params) ∧ w'.cell? ⟨w.heap.size, 1, none⟩ = some (.int .i64 n) ∧ w'.cell? ⟨w.heap.size, 2, none⟩ = some (.slice A f.blocks.length c)) (((w.alloc (.cells #[.int .i64 f.params, .int .i64 n, .slice A f.blocks.length c] 26)).alloc (.cells #[.int .i64 0, .int .i64 0, .slice none 0 0, .slice none 0 0, .slice none 0 0, .slice none 0 0] 122))).drew := ⟨by go_simp, by go_simp, by go_simp⟩
    refine wp_region_offL (S := ((fun w' => w'.cell? ⟨w.heap.size, 0, none⟩ = some (.int .i64 f.params) ∧ w'.cell? ⟨w.heap.size, 1, none⟩ = some (.int .i64 n) ∧ w'.cell? ⟨w.heap.size, 2, none⟩ = some (.slice A f.blocks.length c)))) (by simp) (by kernel_rfl) (by kernel_rfl) (by kernel_rfl) (by kernel_rfl) (by kernel_rfl) ?_ (fun hHeld => ?_)
    · (try dsimp only)
      (first | exact Kd | (refine ⟨?_, ?_, ?_⟩ <;> go_simp) | fail)
    simp only [List.dropLast_cons_cons, List.dropLast_singleton, List.length_cons, List.length_nil]
    refine wpAnyH_take (i := 0) (v := ?_) rfl (by kernel_rfl) (by kernel_rfl) (by kernel_rfl) (fun _ _ _ h => h) (Or.inl ⟨by rfl, ?_⟩) (by assumption) ?_
    rotate_left
    · intro w hSw
      simp only [List.getElem_toArray, List.getElem_cons_zero]
      (try dsimp only at hSw)
      go_simp
      first | done | (with_reducible rfl)
    simp only [List.getElem_toArray, List.getElem_cons_zero, Act.put, List.setIfInBounds_toArray, List.set_cons_zero, List.set_cons_succ]
    refine wpAnyH_take (i := 1) (v := ?_) rfl (by kernel_rfl) (by kernel_rfl) (by kernel_rfl) (fun _ _ _ h => h) (Or.inl ⟨by rfl, ?_⟩) (by assumption) ?_
    rotate_left
    · intro w hSw
      simp only [List.getElem_toArray, List.getElem_cons_succ, List.getElem_cons_zero]
      (try dsimp only at hSw)
      go_simp
      first | done | (with_reducible rfl)
    simp only [List.getElem_toArray, List.getElem_cons_succ, List.getElem_cons_zero, Act.put, List.setIfInBounds_toArray, List.set_cons_zero, List.set_cons_succ]
    refine wpAnyH_take (i := 2) (v := ?_) rfl (by kernel_rfl) (by kernel_rfl) (by kernel_rfl) (fun _ _ _ h => h) (Or.inl ⟨by rfl, ?_⟩) (by assumption) ?_
    rotate_left
    · intro w hSw
      simp only [List.getElem_toArray, List.getElem_cons_succ, List.getElem_cons_zero]
      (try dsimp only at hSw)
      go_simp
      first | done | (with_reducible rfl)
    simp only [List.getElem_toArray, List.getElem_cons_succ, List.getElem_cons_zero, Act.put, List.setIfInBounds_toArray, List.set_cons_zero, List.set_cons_succ]
    refine wpAnyH_take (i := 4) (v := ?_) rfl (by kernel_rfl) (by kernel_rfl) (by kernel_rfl) (fun _ _ _ h => h) (Or.inl ⟨by rfl, ?_⟩) (by assumption) ?_
    rotate_left
    · intro w hSw
      simp only [List.getElem_toArray, List.getElem_cons_succ, List.getElem_cons_zero]
      (try dsimp only at hSw)
      go_simp
      first | done | (with_reducible rfl)
    simp only [List.getElem_toArray, List.getElem_cons_succ, List.getElem_cons_zero, Act.put, List.setIfInBounds_toArray, List.set_cons_zero, List.set_cons_succ]
    refine wpAnyH_take (i := 5) (v := ?_) rfl (by kernel_rfl) (by kernel_rfl) (by kernel_rfl) (fun _ _ _ h => h) (Or.inl ⟨by rfl, ?_⟩) (by assumption) ?_
    rotate_left
    · intro w hSw
      simp only [List.getElem_toArray, List.getElem_cons_succ, List.getElem_cons_zero]
      (try dsimp only at hSw)
      go_simp
      first | done | (with_reducible rfl)
    simp only [List.getElem_toArray, List.getElem_cons_succ, List.getElem_cons_zero, Act.put, List.setIfInBounds_toArray, List.set_cons_zero, List.set_cons_succ]
    refine wpAnyH_ready (rs := [3, 6, 8]) (by kernel_rfl) (by simp) ?_
    refine AllReadyH.cons rfl (fun KZ hKZ => ?_) (AllReadyH.cons rfl (fun KZ hKZ => ?_) (AllReadyH.cons rfl (fun KZ hKZ => ?_) AllReadyH.nil))
    simp only [List.getElem_toArray, List.getElem_cons_succ, List.getElem_cons_zero]
    go_simp
    refine hKZ.out _ _ ?_ (fun hHeld => ?_)
    · (try dsimp only)
      (first | exact Kd | (refine ⟨?_, ?_, ?_⟩ <;> go_simp) | fail)
    clear hKZ KZ
    (try simp only [List.getElem_toArray, List.getElem_cons_succ, List.getElem_cons_zero, Act.put, List.setIfInBounds_toArray, List.set_cons_zero, List.set_cons_succ])
    refine wpAnyH_ready (rs := [6, 8]) (by kernel_rfl) (by simp) ?_
    refine AllReadyH.cons rfl (fun KZ hKZ => ?_) (AllReadyH.cons rfl (fun KZ hKZ => ?_) AllReadyH.nil)
    simp only [List.getElem_toArray, List.getElem_cons_succ, List.getElem_cons_zero]
    go_simp
    refine hKZ.out _ _ ?_ (fun hHeld => ?_)
    · (try dsimp only)
      (first | exact Kd | (refine ⟨?_, ?_, ?_⟩ <;> go_simp) | fail)
    clear hKZ KZ
    (try simp only [List.getElem_toArray, List.getElem_cons_succ, List.getElem_cons_zero, Act.put, List.setIfInBounds_toArray, List.set_cons_zero, List.set_cons_succ])
    refine wpAnyH_take (i := 7) (v := ?_) rfl (by kernel_rfl) (by kernel_rfl) (by kernel_rfl) (fun _ _ _ h => h) (Or.inl ⟨by rfl, ?_⟩) (by assumption) ?_
    rotate_left
    · intro w hSw
      simp only [List.getElem_toArray, List.getElem_cons_succ, List.getElem_cons_zero]
      (try dsimp only at hSw)
      go_simp
      first | done | (with_reducible rfl)
    simp only [List.getElem_toArray, List.getElem_cons_succ, List.getElem_cons_zero, Act.put, List.setIfInBounds_toArray, List.set_cons_zero, List.set_cons_succ]
    refine wpAnyH_ready (rs := [8]) (by kernel_rfl) (by simp) ?_
    refine AllReadyH.cons rfl (fun KZ hKZ => ?_) AllReadyH.nil
    simp only [List.getElem_toArray, List.getElem_cons_succ, List.getElem_cons_zero]
    go_simp
    refine hKZ.out _ _ ?_ (fun hHeld => ?_)
    · (try dsimp only)
      (first | exact Kd | (refine ⟨?_, ?_, ?_⟩ <;> go_simp) | fail)
    clear hKZ KZ
    (try simp only [List.getElem_toArray, List.getElem_cons_succ, List.getElem_cons_zero, Act.put, List.setIfInBounds_toArray, List.set_cons_zero, List.set_cons_succ])
    refine wpAnyH_done (by kernel_rfl) ?_ _
    rotate_left 1
    (try simp only [List.getElem_toArray, List.getElem_cons_succ, List.getElem_cons_zero])
    (try go_simp)
    refine hKZ.out _ _ ?_ (fun hHeld => ?_)
    · (try dsimp only)
      (first | exact Kd | (refine ⟨?_, ?_, ?_⟩ <;> go_simp) | fail)
    clear hKZ KZ
    (try simp only [List.getElem_toArray, List.getElem_cons_succ, List.getElem_cons_zero, Act.put, List.setIfInBounds_toArray, List.set_cons_zero, List.set_cons_succ])
    refine wpAnyH_ready (rs := [6]) (by kernel_rfl) (by simp) ?_
    refine AllReadyH.cons rfl (fun KZ hKZ => ?_) AllReadyH.nil
    simp only [List.getElem_toArray, List.getElem_cons_succ, List.getElem_cons_zero]
    go_simp
    refine hKZ.out _ _ ?_ (fun hHeld => ?_)
    · (try dsimp only)
      (first | exact Kd | (refine ⟨?_, ?_, ?_⟩ <;> go_simp) | fail)
    clear hKZ KZ
    (try simp only [List.getElem_toArray, List.getElem_cons_succ, List.getElem_cons_zero, Act.put, List.setIfInBounds_toArray, List.set_cons_zero, List.set_cons_succ])
    refine wpAnyH_take (i := 7) (v := ?_) rfl (by kernel_rfl) (by kernel_rfl) (by kernel_rfl) (fun _ _ _ h => h) (Or.inl ⟨by rfl, ?_⟩) (by assumption) ?_
    rotate_left
    · intro w hSw
      simp only [List.getElem_toArray, List.getElem_cons_succ, List.getElem_cons_zero]
      (try dsimp only at hSw)
      go_simp
      first | done | (with_reducible rfl)
    simp only [List.getElem_toArray, List.getElem_cons_succ, List.getElem_cons_zero, Act.put, List.setIfInBounds_toArray, List.set_cons_zero, List.set_cons_succ]
    refine wpAnyH_done (by kernel_rfl) ?_ _
    rotate_left 1
    (try simp only [List.getElem_toArray, List.getElem_cons_succ, List.getElem_cons_zero])
    (try go_simp)
    refine hKZ.out _ _ ?_ (fun hHeld => ?_)
    · (try dsimp only)
      (first | exact Kd | (refine ⟨?_, ?_, ?_⟩ <;> go_simp) | fail)
    clear hKZ KZ
    (try simp only [List.getElem_toArray, List.getElem_cons_succ, List.getElem_cons_zero, Act.put, List.setIfInBounds_toArray, List.set_cons_zero, List.set_cons_succ])
    refine wpAnyH_ready (rs := [3, 8]) (by kernel_rfl) (by simp) ?_
    refine AllReadyH.cons rfl (fun KZ hKZ => ?_) (AllReadyH.cons rfl (fun KZ hKZ => ?_) AllReadyH.nil)
    simp only [List.getElem_toArray, List.getElem_cons_succ, List.getElem_cons_zero]
    go_simp
    refine hKZ.out _ _ ?_ (fun hHeld => ?_)
    · (try dsimp only)
      (first | exact Kd | (refine ⟨?_, ?_, ?_⟩ <;> go_simp) | fail)
    clear hKZ KZ
    (try simp only [List.getElem_toArray, List.getElem_cons_succ, List.getElem_cons_zero, Act.put, List.setIfInBounds_toArray, List.set_cons_zero, List.set_cons_succ])
    refine wpAnyH_take (i := 7) (v := ?_) rfl (by kernel_rfl) (by kernel_rfl) (by kernel_rfl) (fun _ _ _ h => h) (Or.inl ⟨by rfl, ?_⟩) (by assumption) ?_
    rotate_left
    · intro w hSw
      simp only [List.getElem_toArray, List.getElem_cons_succ, List.getElem_cons_zero]
      (try dsimp only at hSw)
      go_simp
      first | done | (with_reducible rfl)
    simp only [List.getElem_toArray, List.getElem_cons_succ, List.getElem_cons_zero, Act.put, List.setIfInBounds_toArray, List.set_cons_zero, List.set_cons_succ]
    refine wpAnyH_ready (rs := [8]) (by kernel_rfl) (by simp) ?_
    refine AllReadyH.cons rfl (fun KZ hKZ => ?_) AllReadyH.nil
    simp only [List.getElem_toArray, List.getElem_cons_succ, List.getElem_cons_zero]
    go_simp
    refine hKZ.out _ _ ?_ (fun hHeld => ?_)
    · (try dsimp only)
      (first | exact Kd | (refine ⟨?_, ?_, ?_⟩ <;> go_simp) | fail)
    clear hKZ KZ
    (try simp only [List.getElem_toArray, List.getElem_cons_succ, List.getElem_cons_zero, Act.put, List.setIfInBounds_toArray, List.set_cons_zero, List.set_cons_succ])
    refine wpAnyH_done (by kernel_rfl) ?_ _
    rotate_left 1
    (try simp only [List.getElem_toArray, List.getElem_cons_succ, List.getElem_cons_zero])
    (try go_simp)
    refine hKZ.out _ _ ?_ (fun hHeld => ?_)
    · (try dsimp only)
      (first | exact Kd | (refine ⟨?_, ?_, ?_⟩ <;> go_simp) | fail)
    clear hKZ KZ
    (try simp only [List.getElem_toArray, List.getElem_cons_succ, List.getElem_cons_zero, Act.put, List.setIfInBounds_toArray, List.set_cons_zero, List.set_cons_succ])
    refine wpAnyH_ready (rs := [3]) (by kernel_rfl) (by simp) ?_
    refine AllReadyH.cons rfl (fun KZ hKZ => ?_) AllReadyH.nil
    simp only [List.getElem_toArray, List.getElem_cons_succ, List.getElem_cons_zero]
    go_simp
    refine hKZ.out _ _ ?_ (fun hHeld => ?_)
    · (try dsimp only)
      (first | exact Kd | (refine ⟨?_, ?_, ?_⟩ <;> go_simp) | fail)
    clear hKZ KZ
    (try simp only [List.getElem_toArray, List.getElem_cons_succ, List.getElem_cons_zero, Act.put, List.setIfInBounds_toArray, List.set_cons_zero, List.set_cons_succ])
    refine wpAnyH_take (i := 7) (v := ?_) rfl (by kernel_rfl) (by kernel_rfl) (by kernel_rfl) (fun _ _ _ h => h) (Or.inl ⟨by rfl, ?_⟩) (by assumption) ?_
    rotate_left
    · intro w hSw
      simp only [List.getElem_toArray, List.getElem_cons_succ, List.getElem_cons_zero]
      (try dsimp only at hSw)
      go_simp
      first | done | (with_reducible rfl)
    simp only [List.getElem_toArray, List.getElem_cons_succ, List.getElem_cons_zero, Act.put, List.setIfInBounds_toArray, List.set_cons_zero, List.set_cons_succ]
    refine wpAnyH_done (by kernel_rfl) ?_ _
    rotate_left 1
    (try simp only [List.getElem_toArray, List.getElem_cons_succ, List.getElem_cons_zero])
    (try go_simp)
    refine hKZ.out _ _ ?_ (fun hHeld => ?_)
    · (try dsimp only)
      (first | exact Kd | (refine ⟨?_, ?_, ?_⟩ <;> go_simp) | fail)
    clear hKZ KZ
    (try simp only [List.getElem_toArray, List.getElem_cons_succ, List.getElem_cons_zero, Act.put, List.setIfInBounds_toArray, List.set_cons_zero, List.set_cons_succ])
    refine wpAnyH_ready (rs := [3, 6]) (by kernel_rfl) (by simp) ?_
    refine AllReadyH.cons rfl (fun KZ hKZ => ?_) (AllReadyH.cons rfl (fun KZ hKZ => ?_) AllReadyH.nil)
    simp only [List.getElem_toArray, List.getElem_cons_succ, List.getElem_cons_zero]
    go_simp
    refine hKZ.out _ _ ?_ (fun hHeld => ?_)
    · (try dsimp only)
      (first | exact Kd | (refine ⟨?_, ?_, ?_⟩ <;> go_simp) | fail)
    clear hKZ KZ
    (try simp only [List.getElem_toArray, List.getElem_cons_succ, List.getElem_cons_zero, Act.put, List.setIfInBounds_toArray, List.set_cons_zero, List.set_cons_succ])
    refine wpAnyH_ready (rs := [6]) (by kernel_rfl) (by simp) ?_
    refine AllReadyH.cons rfl (fun KZ hKZ => ?_) AllReadyH.nil
    simp only [List.getElem_toArray, List.getElem_cons_succ, List.getElem_cons_zero]
    go_simp
    refine hKZ.out _ _ ?_ (fun hHeld => ?_)
    · (try dsimp only)
      (first | exact Kd | (refine ⟨?_, ?_, ?_⟩ <;> go_simp) | fail)
    clear hKZ KZ
    (try simp only [List.getElem_toArray, List.getElem_cons_succ, List.getElem_cons_zero, Act.put, List.setIfInBounds_toArray, List.set_cons_zero, List.set_cons_succ])
    refine wpAnyH_take (i := 7) (v := ?_) rfl (by kernel_rfl) (by kernel_rfl) (by kernel_rfl) (fun _ _ _ h => h) (Or.inl ⟨by rfl, ?_⟩) (by assumption) ?_
    rotate_left
    · intro w hSw
      simp only [List.getElem_toArray, List.getElem_cons_succ, List.getElem_cons_zero]
      (try dsimp only at hSw)
      go_simp
      first | done | (with_reducible rfl)
    simp only [List.getElem_toArray, List.getElem_cons_succ, List.getElem_cons_zero, Act.put, List.setIfInBounds_toArray, List.set_cons_zero, List.set_cons_succ]
    refine wpAnyH_done (by kernel_rfl) ?_ _
    rotate_left 1
    (try simp only [List.getElem_toArray, List.getElem_cons_succ, List.getElem_cons_zero])
    (try go_simp)
    refine hKZ.out _ _ ?_ (fun hHeld => ?_)
    · (try dsimp only)
      (first | exact Kd | (refine ⟨?_, ?_, ?_⟩ <;> go_simp) | fail)
    clear hKZ KZ
    (try simp only [List.getElem_toArray, List.getElem_cons_succ, List.getElem_cons_zero, Act.put, List.setIfInBounds_toArray, List.set_cons_zero, List.set_cons_succ])
    refine wpAnyH_ready (rs := [3]) (by kernel_rfl) (by simp) ?_
    refine AllReadyH.cons rfl (fun KZ hKZ => ?_) AllReadyH.nil
    simp only [List.getElem_toArray, List.getElem_cons_succ, List.getElem_cons_zero]
    go_simp
    refine hKZ.out _ _ ?_ (fun hHeld => ?_)
    · (try dsimp only)
      (first | exact Kd | (refine ⟨?_, ?_, ?_⟩ <;> go_simp) | fail)
    clear hKZ KZ
    (try simp only [List.getElem_toArray, List.getElem_cons_succ, List.getElem_cons_zero, Act.put, List.setIfInBounds_toArray, List.set_cons_zero, List.set_cons_succ])
    refine wpAnyH_take (i := 7) (v := ?_) rfl (by kernel_rfl) (by kernel_rfl) (by kernel_rfl) (fun _ _ _ h => h) (Or.inl ⟨by rfl, ?_⟩) (by assumption) ?_
    rotate_left
    · intro w hSw
      simp only [List.getElem_toArray, List.getElem_cons_succ, List.getElem_cons_zero]
      (try dsimp only at hSw)
      go_simp
      first | done | (with_reducible rfl)
    simp only [List.getElem_toArray, List.getElem_cons_succ, List.getElem_cons_zero, Act.put, List.setIfInBounds_toArray, List.set_cons_zero, List.set_cons_succ]
    refine wpAnyH_done (by kernel_rfl) ?_ _
    rotate_left 1
    all_goals
      refine offQ_last rfl (fun KL hKL => ?_)
      go_simp
      refine hKL.out _ _ ?_
      go_wp2_with fail
      go_meet
      first
      | exact ⟨w.heap.size + 2 + 0, w.heap.size + 2 + 1, w.heap.size + 2 + 2, rfl, OSt.start f HNN.out (three _ (w.heap.size + 2) (by simp) _ _ _).1 (three _ (w.heap.size + 2) (by simp) _ _ _).2.1 (three _ (w.heap.size + 2) (by simp) _ _ _).2.2 (by omega) (by omega) (by omega) (by omega) (by omega) (by omega), ((((Below.refl _ _).alloc (by simp only [World.size_alloc]; omega) _).alloc (by simp only [World.size_alloc]; omega) _).alloc (by simp only [World.size_alloc]; omega) _).drew⟩
      | exact ⟨w.heap.size + 2 + 0, w.heap.size + 2 + 2, w.heap.size + 2 + 1, rfl, OSt.start f HNN.out (three _ (w.heap.size + 2) (by simp) _ _ _).1 (three _ (w.heap.size + 2) (by simp) _ _ _).2.2 (three _ (w.heap.size + 2) (by simp) _ _ _).2.1 (by omega) (by omega) (by omega) (by omega) (by omega) (by omega), ((((Below.refl _ _).alloc (by simp only [World.size_alloc]; omega) _).alloc (by simp only [World.size_alloc]; omega) _).alloc (by simp only [World.size_alloc]; omega) _).drew⟩
      | exact ⟨w.heap.size + 2 + 1, w.heap.size + 2 + 0, w.heap.size + 2 + 2, rfl, OSt.start f HNN.out (three _ (w.heap.size + 2) (by simp) _ _ _).2.1 (three _ (w.heap.size + 2) (by simp) _ _ _).1 (three _ (w.heap.size + 2) (by simp) _ _ _).2.2 (by omega) (by omega) (by omega) (by omega) (by omega) (by omega), ((((Below.refl _ _).alloc (by simp only [World.size_alloc]; omega) _).alloc (by simp only [World.size_alloc]; omega) _).alloc (by simp only [World.size_alloc]; omega) _).drew⟩
      | exact ⟨w.heap.size + 2 + 1, w.heap.size + 2 + 2, w.heap.size + 2 + 0, rfl, OSt.start f HNN.out (three _ (w.heap.size + 2) (by simp) _ _ _).2.1 (three _ (w.heap.size + 2) (by simp) _ _ _).2.2 (three _ (w.heap.size + 2) (by simp) _ _ _).1 (by omega) (by omega) (by omega) (by omega) (by omega) (by omega), ((((Below.refl _ _).alloc (by simp only [World.size_alloc]; omega) _).alloc (by simp only [World.size_alloc]; omega) _).alloc (by simp only [World.size_alloc]; omega) _).drew⟩
      | exact ⟨w.heap.size + 2 + 2, w.heap.size + 2 + 0, w.heap.size + 2 + 1, rfl, OSt.start f HNN.out (three _ (w.heap.size + 2) (by simp) _ _ _).2.2 (three _ (w.heap.size + 2) (by simp) _ _ _).1 (three _ (w.heap.size + 2) (by simp) _ _ _).2.1 (by omega) (by omega) (by omega) (by omega) (by omega) (by omega), ((((Below.refl _ _).alloc (by simp only [World.size_alloc]; omega) _).alloc (by simp only [World.size_alloc]; omega) _).alloc (by simp only [World.size_alloc]; omega) _).drew⟩
      | exact ⟨w.heap.size + 2 + 2, w.heap.size + 2 + 1, w.heap.size + 2 + 0, rfl, OSt.start f HNN.out (three _ (w.heap.size + 2) (by simp) _ _ _).2.2 (three _ (w.heap.size + 2) (by simp) _ _ _).2.1 (three _ (w.heap.size + 2) (by simp) _ _ _).1 (by omega) (by omega) (by omega) (by omega) (by omega) (by omega), ((((Below.refl _ _).alloc (by simp only [World.size_alloc]; omega) _).alloc (by simp only [World.size_alloc]; omega) _).alloc (by simp only [World.size_alloc]; omega) _).drew⟩
  case rest =>
    obtain ⟨K, G1, G2, rfl, HO, HB⟩ := hcut
    have HX : Hid (∀ wx, Below (w.heap.size + 2) ((w.alloc (.cells #[.int .i64 f.params, .int .i64 n, .slice A f.blocks.length c] 26)).alloc (.cells #[.int .i64 0, .int .i64 0, .slice none 0 0, .slice none 0 0, .slice none 0 0, .slice none 0 0] 122)) wx → Below w.heap.size w wx ∧ wx.cell? ⟨w.heap.size, 0, none⟩ = some (.int .i64 f.params) ∧ wx.cell? ⟨w.heap.size, 1, none⟩ = some (.int .i64 n) ∧ wx.cell? ⟨w.heap.size, 2, none⟩ = some (.slice A f.blocks.length c) ∧ w.heap.size + 2 ≤ wx.heap.size) := fun wx h =>
      ⟨(((Below.refl _ _).alloc (Nat.le_refl _) _).alloc (by simp) _).trans (h.mono (by omega)), (h.cell (p := ⟨w.heap.size, 0, none⟩) (by simp)).trans (by go_simp), (h.cell (p := ⟨w.heap.size, 1, none⟩) (by simp)).trans (by go_simp), (h.cell (p := ⟨w.heap.size, 2, none⟩) (by simp)).trans (by go_simp), by have := h.size; simp at this; omega⟩
    have HEF : Hid (∀ wx, Below w.heap.size w wx → EFun wx Z f (.agg #[.int .i64 f.params, .int .i64 n, .slice A f.blocks.length c])) := fun wx h => by
      have h1 := HF.out.keep (Kept.below h hD)
      rwa [HNN.out] at h1
    have HTR := Lib.hid (targets_of HP.out).r
    obtain ⟨hbw, f0, f1, f2, hsz⟩ := HX.out wc HB.out
    go_wp2_with fail
    refine (l3Reach_ex f _ (-1) _ Z (HEF.out wc hbw) (fun b hb => by have := hD b hb; omega) HTR.out h1n (by omega)).mono ?_
    rintro e w1 ⟨qa, rs, rfl, hba, hra, hqa, hb1⟩
    have HO1 := Lib.hid (HO.out.below hb1)
    have HBB1 := Lib.hid (HB.out.trans (hb1.mono hsz))
    have HA1 : Hid (BL w1 qa f.blocks.length rs ∧ Free w1 K G1 G2 (.slice none 0 0) qa) := ⟨hba, (HO.out.free_new hqa).below HO.out hb1⟩
    have HRA := Lib.hid hra
    have hrsl := hra.1
    clear hb1 hba hra f0 f1 f2 hbw HB HO hsz hmk hqa
    go_wp2_with fail
    go_loopw [5, 6, 7, 8, 9, 10, 11] (fun i _ _ _ _ _ _ wr => ∃ k : Nat, k ≤ f.blocks.length ∧ i = .int .i64 k ∧ ∃ (dv : Value) (qs : List Nat), qs.length = k ∧ Hid (OSt f wr (w.heap.size + 2) K G1 G2 n (.slice A f.blocks.length c) dv qs (upTo (blkP f) f.blocks k) (takesK f k)) ∧ Hid (Below (w.heap.size + 2) ((w.alloc (.cells #[.int .i64 f.params, .int .i64 n, .slice A f.blocks.length c] 26)).alloc (.cells #[.int .i64 0, .int .i64 0, .slice none 0 0, .slice none 0 0, .slice none 0 0, .slice none 0 0] 122)) wr) ∧ Hid (BL wr qa f.blocks.length rs ∧ Free wr K G1 G2 dv qa)) (fun i _ _ _ _ _ _ _ => f.blocks.length - (intOf i).toNat)
    case atStart => exact ⟨0, Nat.zero_le _, rfl, _, [], rfl, HO1.out, HBB1.out, HA1.out⟩
    clear HO1 HBB1 HA1
    case round =>
      obtain ⟨k, hk, rfl, dv, qs, hqs, HO, HB, HA⟩ := hrel
      obtain ⟨hbw, f0, f1, f2, hsz⟩ := HX.out wr HB.out
      by_cases hlt : k < f.blocks.length
      case neg =>
        obtain rfl : k = f.blocks.length := by omega
        have hK := HO.out.hK
        have k0 := cell_of_row wr K 0 _ _ (0, 0) hK
        have k1 := cell_of_row wr K 1 _ _ (0, 0) hK
        have k2 := cell_of_row wr K 2 _ _ (0, 0) hK
        have k3 := cell_of_row wr K 3 _ _ (0, 0) hK
        have k4 := cell_of_row wr K 4 _ _ (0, 0) hK
        have k5 := cell_of_row wr K 5 _ _ (0, 0) hK
        have hR : wr.heap[w.heap.size + 1]? = some (.cells #[.int .i64 0, .int .i64 0, .slice none 0 0, .slice none 0 0, .slice none 0 0, .slice none 0 0] 122 (0, 0)) := by
          refine (HB.out.block (w.heap.size + 1) (by omega)).trans ?_
          have h := heap_alloc_new (w.alloc (.cells #[.int .i64 f.params, .int .i64 n, .slice A f.blocks.length c] 26)) (.cells #[.int .i64 0, .int .i64 0, .slice none 0 0, .slice none 0 0, .slice none 0 0, .slice none 0 0] 122)
          simp only [World.size_alloc] at h
          exact h
        have hR0 := cell_of_row wr (w.heap.size + 1) 0 _ _ (0, 0) hR
        have hF0 := frozen_of_row wr (w.heap.size + 1) 0 _ _ hR
        have hR1 := cell_of_row wr (w.heap.size + 1) 1 _ _ (0, 0) hR
        have hF1 := frozen_of_row wr (w.heap.size + 1) 1 _ _ hR
        have hR2 := cell_of_row wr (w.heap.size + 1) 2 _ _ (0, 0) hR
        have hF2 := frozen_of_row wr (w.heap.size + 1) 2 _ _ hR
        have hR3 := cell_of_row wr (w.heap.size + 1) 3 _ _ (0, 0) hR
        have hF3 := frozen_of_row wr (w.heap.size + 1) 3 _ _ hR
        have hR4 := cell_of_row wr (w.heap.size + 1) 4 _ _ (0, 0) hR
        have hF4 := frozen_of_row wr (w.heap.size + 1) 4 _ _ hR
        have hR5 := cell_of_row wr (w.heap.size + 1) 5 _ _ (0, 0) hR
        have hF5 := frozen_of_row wr (w.heap.size + 1) 5 _ _ hR
        rw [HNN.out] at k1
        have hw6 : Fw (fun x => x = w.heap.size + 1) wr ((((((wr.setCell ⟨w.heap.size + 1, 0, none⟩ (.int .i64 f.params)).setCell ⟨w.heap.size + 1, 1, none⟩ (.int .i64 n)).setCell ⟨w.heap.size + 1, 2, none⟩ (.slice A f.blocks.length c)).setCell ⟨w.heap.size + 1, 3, none⟩ dv).setCell ⟨w.heap.size + 1, 4, none⟩ (.slice (some ⟨G1, 0, none⟩) n n)).setCell ⟨w.heap.size + 1, 5, none⟩ (.slice (some ⟨G2, 0, none⟩) n n)) := (((((((Fw.refl (fun x => x = w.heap.size + 1) wr).trans (Fw.set (P := fun x => x = w.heap.size + 1) _ rfl 0 _) fun _ _ x => x).trans (Fw.set (P := fun x => x = w.heap.size + 1) _ rfl 1 _) fun _ _ x => x).trans (Fw.set (P := fun x => x = w.heap.size + 1) _ rfl 2 _) fun _ _ x => x).trans (Fw.set (P := fun x => x = w.heap.size + 1) _ rfl 3 _) fun _ _ x => x).trans (Fw.set (P := fun x => x = w.heap.size + 1) _ rfl 4 _) fun _ _ x => x).trans (Fw.set (P := fun x => x = w.heap.size + 1) _ rfl 5 _) fun _ _ x => x)
        have HOF := Lib.hid (HO.out.other hw6 (HO.out.free_low (by omega)) fun q' hq' e => by
          obtain ⟨i, hi⟩ := List.mem_iff_getElem?.1 hq'
          have := (HO.out.hq i q' hi).2.2.2.2.2
          omega)
        have HBF : Hid (Below w.heap.size w ((((((wr.setCell ⟨w.heap.size + 1, 0, none⟩ (.int .i64 f.params)).setCell ⟨w.heap.size + 1, 1, none⟩ (.int .i64 n)).setCell ⟨w.heap.size + 1, 2, none⟩ (.slice A f.blocks.length c)).setCell ⟨w.heap.size + 1, 3, none⟩ dv).setCell ⟨w.heap.size + 1, 4, none⟩ (.slice (some ⟨G1, 0, none⟩) n n)).setCell ⟨w.heap.size + 1, 5, none⟩ (.slice (some ⟨G2, 0, none⟩) n n))) := ((((((hbw.setCell (p := ⟨w.heap.size + 1, 0, none⟩) (by simp) _).setCell (p := ⟨w.heap.size + 1, 1, none⟩) (by simp) _).setCell (p := ⟨w.heap.size + 1, 2, none⟩) (by simp) _).setCell (p := ⟨w.heap.size + 1, 3, none⟩) (by simp) _).setCell (p := ⟨w.heap.size + 1, 4, none⟩) (by simp) _).setCell (p := ⟨w.heap.size + 1, 5, none⟩) (by simp) _)
        have hdl : ∃ Ad Ld cd, dv = .slice (some ⟨Ad, 0, none⟩) Ld cd := by
          obtain ⟨gd, cd, hdv, _, _⟩ := World.ownsRow.form HO.out.hd (by omega)
          exact ⟨gd, _, cd, hdv⟩
        obtain ⟨gd, Ld, cd, hdv⟩ := hdl
        have HBP : Hid (upTo (blkP f) f.blocks f.blocks.length = defsK f f.blocks.length) := blkP_all f _ (Nat.le_refl _) h1n
        have HQE := Lib.hid hqs
        subst hdv
        clear hK hR hw6 hqs HO HB HA
        go_wp2_with fail
        (try simp only [Exit.inBlock, Exit.then])
        refine bodyPost_ret (v := .agg #[.int .i64 f.params, .int .i64 n, .slice A f.blocks.length c, .slice (some ⟨gd, 0, none⟩) Ld cd, .slice (some ⟨G1, 0, none⟩) n n, .slice (some ⟨G2, 0, none⟩) n n]) (by simp [results, Tryz.results75, go_sem, hR0, hR1, hR2, hR3, hR4, hR5]) rfl ?_
        exact ⟨n, _, _, K, G1, G2, qs, by rw [HNN.out], HNN.out, ⟨A, c, rfl⟩, by rw [← HBP.out]; exact HOF.out, HQE.out, HBF.out⟩
      have hxk : f.blocks[k]? = some f.blocks[k] := List.getElem?_eq_getElem hlt
      generalize f.blocks[k] = x at hxk
      have Hxk := Lib.hid hxk
      have hlt' : (k : Int) < (f.blocks.length : Int) := by omega
      have HQS := Lib.hid hqs
      have hqs40 : qs.length ≤ 40 := by omega
      clear hxk hqs
      go_wp2_with fail
      refine (l3Reach_ex f _ k _ Z (HEF.out wr hbw) (fun b hb => by have := hD b hb; omega) HTR.out h1n (by omega)).mono ?_
      rintro e w2 ⟨q, cs, rfl, hb2, hr2, hq2, hbl2⟩
      have HO2 := Lib.hid (HO.out.below hbl2)
      have HB2 := Lib.hid (HB.out.trans (hbl2.mono hsz))
      have HA2 : Hid (BL w2 qa f.blocks.length rs ∧ Free w2 K G1 G2 dv qa) := ⟨HA.out.1.fw (P := fun _ => False) (Fw.below hbl2) fun x => x, HA.out.2.below HO.out hbl2⟩
      have HFQ : Hid (Free w2 K G1 G2 dv q) := (HO.out.free_new hq2).below HO.out hbl2
      have HQN : Hid (∀ q', q' ∈ qs → q' ≠ q) := fun q' hq' e => by
        obtain ⟨i, hi⟩ := List.mem_iff_getElem?.1 hq'
        have := HO.out.ltq hi
        omega
      have hqaq : qa ≠ q := by have := HA.out.1.lt; omega
      have hqB : w.heap.size + 2 ≤ q := by omega
      have HR2 := Lib.hid hr2
      have HBQ := Lib.hid hb2
      have hcsl := hr2.1
      clear hb2 hr2 hbl2 f0 f1 f2 hbw HO HB HA hq2 hsz
      go_wp2_with fail
      obtain ⟨wa, hwa⟩ : ∃ wa : World, wa = w2 := ⟨_, rfl⟩
      go_loopw [7] (fun i wr => ∃ m : Nat, m ≤ f.blocks.length ∧ i = .int .i64 m ∧ Hid (Fw (· = q) w2 wr) ∧ ∃ bs, Hid (BL wr q f.blocks.length bs ∧ Mix f.blocks.length m rs cs bs)) (fun i _ => f.blocks.length - (intOf i).toNat)
      case atStart => exact ⟨0, Nat.zero_le _, rfl, Fw.refl _ _, cs, HBQ.out, hcsl, fun j a b _ hb => by rw [if_neg (by omega)]; exact hb⟩
      clear HBQ hwa
      case round =>
        obtain ⟨m, hm, rfl, HW, bs, HM⟩ := hrel
        by_cases hml : m < f.blocks.length
        case pos =>
          have hml' : (m : Int) < (f.blocks.length : Int) := by omega
          obtain ⟨a, ha⟩ : ∃ a, rs[m]? = some a := ⟨_, List.getElem?_eq_getElem (show m < rs.length by omega)⟩
          obtain ⟨b, hb⟩ : ∃ b, cs[m]? = some b := ⟨_, List.getElem?_eq_getElem (show m < cs.length by omega)⟩
          have hbm := HM.out.2.2 m a b ha hb
          rw [if_neg (by omega)] at hbm
          have ca := (HA2.out.1.fw HW.out hqaq).cell ha
          have cb := HM.out.1.cell hbm
          have fb := HM.out.1.frozen m
          have HM' : Hid (BL (wr.setCell ⟨q, m, none⟩ (.bool (a && !b))) q f.blocks.length (bs.set m (a && !b)) ∧ Mix f.blocks.length (m + 1) rs cs (bs.set m (a && !b))) := ⟨HM.out.1.set m _, HM.out.2.step hml ha hb⟩
          have HW' : Hid (Fw (· = q) w2 (wr.setCell ⟨q, m, none⟩ (.bool (a && !b)))) := HW.out.trans (Fw.set (P := (· = q)) wr rfl m _) fun _ _ x => x
          clear ha hb hbm
          cases a <;> cases b <;> simp only [Bool.not_true, Bool.not_false, Bool.and_true, Bool.and_false] at HM' HW'
          all_goals
            go_wp2_with fail
            go_roundw
            case rel => exact ⟨m + 1, by omega, by go_num, HW'.out, _, HM'.out⟩
            case measure => simp [intOf]; omega
        obtain rfl : m = f.blocks.length := by omega
        have HO3 := Lib.hid (HO2.out.other HW.out HFQ.out HQN.out)
        have HF3 := Lib.hid (HFQ.out.other HO2.out HW.out HFQ.out)
        have HA3 : Hid (BL wr qa f.blocks.length rs ∧ Free wr K G1 G2 dv qa) := ⟨HA2.out.1.fw HW.out hqaq, HA2.out.2.other HO2.out HW.out HFQ.out⟩
        have HB3 : Hid (Below (w.heap.size + 2) ((w.alloc (.cells #[.int .i64 f.params, .int .i64 n, .slice A f.blocks.length c] 26)).alloc (.cells #[.int .i64 0, .int .i64 0, .slice none 0 0, .slice none 0 0, .slice none 0 0, .slice none 0 0] 122)) wr) := HB2.out.trans (HW.out.toBelow (HX.out w2 HB2.out).2.2.2.2 fun kk hkk e => by omega)
        have HDR : Hid (DomRow f k bs) := HM.out.2.row HRA.out HR2.out
        have HBL := Lib.hid HM.out.1
        clear HM HW HO2 HA2 HB2 HFQ
        obtain ⟨hbw, f0, f1, f2, hsz⟩ := HX.out wr HB3.out
        have hK := HO3.out.hK
        have k3 := cell_of_row wr K 3 _ _ (0, 0) hK
        have hkl := HO3.out.ltK
        have hkf := frozen_of_row wr K 3 _ _ hK
        have hkd := HO3.out.kd
        have HD3 := Lib.hid HO3.out.hd
        have HKD := Lib.hid hkd
        have hwl : w.heap.size < wr.heap.size := by omega
        have hwK : w.heap.size < K := by have := HO3.out.bk; omega
        clear hK hkd
        go_wp2_with (at_builtin; go_must (refine wpList_append_brow rfl (.tmp 53) (.tmp 55) rfl (w.heap.size + 2) dv f.blocks.length qs q wr rfl HD3.out rfl hsz (by omega) ?_; intro dv' w9 hown9 hg9 hat9; obtain ⟨gd, cd, hdv, _, _⟩ := World.ownsRow.form hown9 (by simp); obtain ⟨L, hL⟩ : ∃ L, (qs ++ [q]).length = L := ⟨_, rfl⟩; rw [hL] at hdv; subst hdv; clear hL; have g0 := (World.cell?_of_block (a := ⟨w.heap.size, 0, none⟩) (hg9.block w.heap.size hwl (fun e => by have := (HO3.out.ltd e.symm).1; omega))).trans f0; have g1 := (World.cell?_of_block (a := ⟨w.heap.size, 1, none⟩) (hg9.block w.heap.size hwl (fun e => by have := (HO3.out.ltd e.symm).1; omega))).trans f1; have g2 := (World.cell?_of_block (a := ⟨w.heap.size, 2, none⟩) (hg9.block w.heap.size hwl (fun e => by have := (HO3.out.ltd e.symm).1; omega))).trans f2; have HO9 := Lib.hid hown9; have HG9 := Lib.hid hg9; have HT9 := Lib.hid hat9; have d3 := (World.cell?_of_block (a := ⟨K, 3, none⟩) (hg9.block K hkl (fun e => HKD.out e.symm))).trans k3; have df := (World.frozen?_of_block (a := ⟨K, 3, none⟩) (hg9.block K hkl (fun e => HKD.out e.symm))).trans hkf; clear hown9 hg9 hat9))
        have HO4 := Lib.hid (HO3.out.addD HBL.out (by rw [HQS.out]; exact HDR.out) ⟨HF3.out.1, HF3.out.2.1, HF3.out.2.2.1, HF3.out.2.2.2, hqB⟩ HO9.out HG9.out HT9.out)
        have HA4 : Hid (BL (w9.setCell ⟨K, 3, none⟩ (.slice (some ⟨gd, 0, none⟩) L cd)) qa f.blocks.length rs ∧ Free (w9.setCell ⟨K, 3, none⟩ (.slice (some ⟨gd, 0, none⟩) L cd)) K G1 G2 (.slice (some ⟨gd, 0, none⟩) L cd) qa) :=
          ⟨HA3.out.1.fw (fw_addD K HG9.out) fun e => by rcases e with e | e; exact HA3.out.2.2.2.2 e; exact HA3.out.2.1 e, HA3.out.2.addD HO3.out HG9.out HT9.out HA3.out.1.lt⟩
        have HB4 : Hid (Below (w.heap.size + 2) ((w.alloc (.cells #[.int .i64 f.params, .int .i64 n, .slice A f.blocks.length c] 26)).alloc (.cells #[.int .i64 0, .int .i64 0, .slice none 0 0, .slice none 0 0, .slice none 0 0, .slice none 0 0] 122)) (w9.setCell ⟨K, 3, none⟩ (.slice (some ⟨gd, 0, none⟩) L cd))) := HB3.out.trans ((fw_addD K HG9.out).toBelow hsz fun kk hkk e => by
          rcases e with e | e
          · have := (HO3.out.ltd e).1; omega
          · have := HO3.out.bk; omega)
        have HQ4 : Hid ((qs ++ [q]).length = k + 1) := by rw [Hid, List.length_append, HQS.out]; rfl
        have hq41 : (qs ++ [q]).length ≤ 41 := by rw [HQ4.out]; omega
        generalize w9.setCell ⟨K, 3, none⟩ (.slice (some ⟨gd, 0, none⟩) L cd) = w4 at *
        obtain ⟨dv', hdv⟩ : ∃ d : Value, d = .slice (some ⟨gd, 0, none⟩) L cd := ⟨_, rfl⟩
        rw [← hdv] at HO4 HA4
        generalize qs ++ [q] = qs' at HO4 HQ4 hq41
        clear HO3 HA3 HB3 HO9 HG9 HT9 d3 df g0 g1 g2 k3 hkf f0 f1 f2 hbw hdv HDR HBL HF3 HD3 HKD hsz
        obtain ⟨hbw, f0, f1, f2, hsz⟩ := HX.out w4 HB4.out
        refine (l5Gives_any f _ k x _ Z HP.out (HEF.out w4 hbw) (fun b hb => by have := hD b hb; omega) Hxk.out).mono ?_
        rintro e w5 ⟨a, b, rfl, ht5, hb5⟩
        have HO5 := Lib.hid (HO4.out.below hb5)
        have HB5 := Lib.hid (HB4.out.trans (hb5.mono hsz))
        have HA5 : Hid (BL w5 qa f.blocks.length rs ∧ Free w5 K G1 G2 dv' qa) := ⟨HA4.out.1.fw (P := fun _ => False) (Fw.below hb5) fun x => x, HA4.out.2.below HO4.out hb5⟩
        have HFN : Hid (∀ kk, w4.heap.size ≤ kk → Free w5 K G1 G2 dv' kk) := fun kk hkk => (HO4.out.free_new hkk).below HO4.out hb5
        have HT5 := Lib.hid ht5
        have HEV : Hid (∀ e ∈ blkP f k x, e.pl.dst = (k : Int) ∧ isBelowB e.n f.names = true) := fun e he => ⟨blkP_dst he, blkP_name HP.out Hxk.out he⟩
        have hevl : (blkP f k x).length ≤ 1000 := Nat.le_trans (blkP_len HP.out Hxk.out) (by decide)
        have HUS := Lib.hid (upTo_succ (g := blkP f) Hxk.out)
        obtain ⟨lo, hlo⟩ : ∃ lo, lo = w4.heap.size := ⟨_, rfl⟩
        rw [← hlo] at HT5 HFN
        generalize blkP f k x = evs at HT5 HEV hevl HUS
        obtain ⟨_, A5, c5, rfl, _⟩ := HT5.out.1.ri
        obtain ⟨_, A6, c6, rfl, _⟩ := HT5.out.2.1.ri
        have hl5 : (evs.map (·.n)).length = evs.length := List.length_map _
        have hl6 : (evs.map (·.pl.src)).length = evs.length := List.length_map _
        rw [hl5, hl6] at HT5
        rw [hl5, hl6]
        clear ht5 hb5 HO4 HA4 HB4 hbw f0 f1 f2 hsz hlo hl5 hl6
        go_wp2_with fail
        go_loopw [10] (fun i wr => ∃ m : Nat, m ≤ evs.length ∧ i = .int .i64 m ∧ Hid (OSt f wr (w.heap.size + 2) K G1 G2 n (.slice A f.blocks.length c) dv' qs' (upTo (blkP f) f.blocks k ++ evs.take m) (takesK f k)) ∧ Hid (Below (w.heap.size + 2) ((w.alloc (.cells #[.int .i64 f.params, .int .i64 n, .slice A f.blocks.length c] 26)).alloc (.cells #[.int .i64 0, .int .i64 0, .slice none 0 0, .slice none 0 0, .slice none 0 0, .slice none 0 0] 122)) wr) ∧ Hid (BL wr qa f.blocks.length rs ∧ Free wr K G1 G2 dv' qa) ∧ Hid (OI wr lo (.slice A5 evs.length c5) (evs.map (·.n))) ∧ Hid (OI wr lo (.slice A6 evs.length c6) (evs.map (·.pl.src))) ∧ Hid (∀ kk, lo ≤ kk → kk < w5.heap.size → Free wr K G1 G2 dv' kk) ∧ w5.heap.size ≤ wr.heap.size) (fun i _ => evs.length - (intOf i).toNat)
        case atStart => exact ⟨0, Nat.zero_le _, rfl, (by rw [List.take_zero, List.append_nil]; exact HO5.out), HB5.out, HA5.out, HT5.out.1, HT5.out.2.1, fun kk hkk _ => HFN.out kk hkk, Nat.le_refl _⟩
        clear HO5 HB5 HA5 HFN
        case round =>
          obtain ⟨m, hm, rfl, HO, HB, HA, HN, HT, HFR, hszr⟩ := hrel
          by_cases hml : m < evs.length
          case neg =>
            obtain rfl : m = evs.length := by omega
            have HO4 : Hid (OSt f wr (w.heap.size + 2) K G1 G2 n (.slice A f.blocks.length c) dv' qs' (upTo (blkP f) f.blocks (k + 1)) (takesK f k)) := by
              have h := HO.out
              rw [List.take_length] at h
              rw [HUS.out]
              exact h
            have HA4 := HA
            have HB4 := HB
            clear HO HA HB HN HT HFR HUS HEV HT5
            obtain ⟨w6, hw6⟩ : ∃ x : World, x = wr := ⟨_, rfl⟩
            subst hw6
            obtain ⟨hbw, f0, f1, f2, hsz⟩ := HX.out w6 HB4.out
            go_wp2_with fail
            refine (l5Takes_any f _ k x _ Z HP.out (HEF.out w6 hbw) (fun b hb => by have := hD b hb; omega) Hxk.out).mono ?_
            rintro e w7 ⟨a, b, rfl, ht5, hb5⟩
            have HO5 := Lib.hid (HO4.out.below hb5)
            have HB5 := Lib.hid (HB4.out.trans (hb5.mono hsz))
            have HA5 : Hid (BL w7 qa f.blocks.length rs ∧ Free w7 K G1 G2 dv' qa) := ⟨HA4.out.1.fw (P := fun _ => False) (Fw.below hb5) fun x => x, HA4.out.2.below HO4.out hb5⟩
            have HFN : Hid (∀ kk, w6.heap.size ≤ kk → Free w7 K G1 G2 dv' kk) := fun kk hkk => (HO4.out.free_new hkk).below HO4.out hb5
            have HT5 := Lib.hid ht5
            have HEV : Hid (∀ e ∈ blkT f k x, e.pl.dst = (k : Int) ∧ isBelowB e.n f.names = true) := fun e he => ⟨blkT_dst he, blkT_name HP.out Hxk.out he⟩
            have hevl : (blkT f k x).length ≤ 1000 := Nat.le_trans (blkT_len HP.out Hxk.out) (by decide)
            have HUS := Lib.hid (upTo_succ (g := blkT f) Hxk.out)
            obtain ⟨lo, hlo⟩ : ∃ lo, lo = w6.heap.size := ⟨_, rfl⟩
            rw [← hlo] at HT5 HFN
            generalize blkT f k x = evs at HT5 HEV hevl HUS
            obtain ⟨_, A5, c5, rfl, _⟩ := HT5.out.1.ri
            obtain ⟨_, A6, c6, rfl, _⟩ := HT5.out.2.1.ri
            have hl5 : (evs.map (·.n)).length = evs.length := List.length_map _
            have hl6 : (evs.map (·.pl.src)).length = evs.length := List.length_map _
            rw [hl5, hl6] at HT5
            rw [hl5, hl6]
            clear ht5 hb5 HO4 HA4 HB4 hbw f0 f1 f2 hsz hlo hl5 hl6
            go_wp2_with fail
            go_loopw [11] (fun i wr => ∃ m : Nat, m ≤ evs.length ∧ i = .int .i64 m ∧ Hid (OSt f wr (w.heap.size + 2) K G1 G2 n (.slice A f.blocks.length c) dv' qs' (upTo (blkP f) f.blocks (k + 1)) (takesK f k ++ evs.take m)) ∧ Hid (Below (w.heap.size + 2) ((w.alloc (.cells #[.int .i64 f.params, .int .i64 n, .slice A f.blocks.length c] 26)).alloc (.cells #[.int .i64 0, .int .i64 0, .slice none 0 0, .slice none 0 0, .slice none 0 0, .slice none 0 0] 122)) wr) ∧ Hid (BL wr qa f.blocks.length rs ∧ Free wr K G1 G2 dv' qa) ∧ Hid (OI wr lo (.slice A5 evs.length c5) (evs.map (·.n))) ∧ Hid (OI wr lo (.slice A6 evs.length c6) (evs.map (·.pl.src))) ∧ Hid (∀ kk, lo ≤ kk → kk < w7.heap.size → Free wr K G1 G2 dv' kk) ∧ w7.heap.size ≤ wr.heap.size) (fun i _ => evs.length - (intOf i).toNat)
            case atStart => exact ⟨0, Nat.zero_le _, rfl, (by rw [List.take_zero, List.append_nil]; exact HO5.out), HB5.out, HA5.out, HT5.out.1, HT5.out.2.1, fun kk hkk _ => HFN.out kk hkk, Nat.le_refl _⟩
            clear HO5 HB5 HA5 HFN
            case round =>
              obtain ⟨m, hm, rfl, HO, HB, HA, HN, HT, HFR, hszr⟩ := hrel
              by_cases hml : m < evs.length
              case neg =>
                obtain rfl : m = evs.length := by omega
                have HO9 : Hid (OSt f wr (w.heap.size + 2) K G1 G2 n (.slice A f.blocks.length c) dv' qs' (upTo (blkP f) f.blocks (k + 1)) (takesK f (k + 1))) := by
                  have h := HO.out
                  rw [List.take_length] at h
                  rw [show takesK f (k + 1) = takesK f k ++ evs from HUS.out]
                  exact h
                clear HO HN HT HFR
                go_wp2_with fail
                go_roundw
                case rel => exact ⟨k + 1, by omega, by go_num, dv', qs', HQ4.out, HO9.out, HB.out, HA.out⟩
                case measure => simp [intOf]; omega
              have hem : evs[m]? = some evs[m] := List.getElem?_eq_getElem hml
              generalize evs[m] = ev at hem
              have Hem := Lib.hid hem
              have hml' : (m : Int) < (evs.length : Int) := by omega
              obtain ⟨hdst, hnb⟩ := HEV.out ev (List.mem_of_getElem? hem)
              rw [HNN.out] at hnb
              obtain ⟨t, ht, htn⟩ := name_nat hnb
              have htn' : (t : Int) < (n : Int) := by omega
              obtain ⟨_, A5', c5', he5, hux⟩ := HN.out.ri
              injection he5 with q1 q0 q2
              clear q0
              subst q1 q2
              obtain ⟨b5, o5, rfl, hcell⟩ := hux (by intro h; rw [List.map_eq_nil_iff] at h; rw [h] at hml; simp at hml)
              have p0 := hcell m ev.n (by rw [List.getElem?_map, hem]; rfl)
              rw [ht] at p0
              obtain ⟨_, A6', c6', he6, hux'⟩ := HT.out.ri
              injection he6 with q1 q0 q2
              clear q0
              subst q1 q2
              obtain ⟨b6, o6, rfl, hcell'⟩ := hux' (by intro h; rw [List.map_eq_nil_iff] at h; rw [h] at hml; simp at hml)
              have p1 := hcell' m ev.pl.src (by rw [List.getElem?_map, hem]; rfl)
              have l5 := HN.out.lt b5 rfl
              have l6 := HT.out.lt b6 rfl
              have l5' := (HT5.out.1.lt b5 rfl).2
              have l6' := (HT5.out.2.1.lt b6 rfl).2
              have HTS := Lib.hid (take_snoc hem)
              have hK := HO.out.hK
              have k4 := cell_of_row wr K 5 _ _ (0, 0) hK
              have hkl := HO.out.ltK
              have hGl := QRow.lt HO.out.h2
              obtain ⟨v, hcv, hov⟩ := QRow.get HO.out.h2 htn
              have hfz := QRow.frozen HO.out.h2 t
              have HOV := Lib.hid hov
              have HQV : Hid (∀ kk, v.ownBlock = some kk → kk ≠ K ∧ kk ≠ b5 ∧ kk ≠ b6 ∧ kk ≠ G2 ∧ kk < wr.heap.size) := fun kk hkk => by
                have ho : Owns wr G2 kk := .inr ⟨t, v, hcv, hkk⟩
                exact ⟨fun e => HO.out.k2 (e ▸ ho), fun e => (HFR.out b5 l5.1 l5').2.2.1 (e ▸ ho), fun e => (HFR.out b6 l6.1 l6').2.2.1 (e ▸ ho), fun e => by have := (hov.lt kk hkk).1; omega, (hov.lt kk hkk).2⟩
              have HEP : Hid (ev.pl = ⟨(k : Int), ev.pl.src⟩ ∧ ev.n = t) := ⟨by rw [← hdst], ht⟩
              have hlen : (pick (takesK f k ++ evs.take m) t).length ≤ 1048576 := by
                have h1 := pick_len (takesK f k ++ evs.take m) t
                have h2 : (takesK f k).length ≤ 10000 := takesK_len HP.out k hk
                rw [List.length_append, List.length_take] at h1
                omega
              have hcv0 : wr.cell? ⟨G2, t, none⟩ = some v := hcv
              have Kd : (fun w' => w'.cell? ⟨K, 5, none⟩ = some (.slice (some ⟨G2, 0, none⟩) n n) ∧ w'.cell? ⟨b5, o5 + m, none⟩ = some (.int .i64 t) ∧ w'.cell? ⟨b6, o6 + m, none⟩ = some (.int .i64 ev.pl.src) ∧ w'.cell? ⟨G2, t, none⟩ = some v) wr.drew := ⟨k4, p0, p1, hcv0⟩
              clear hcell hcell' hux hux' hem hK hov hnb hdst ht hcv0
              go_upto_region 21 with fail
              refine wp_region_offL (S := ((fun w' => w'.cell? ⟨K, 5, none⟩ = some (.slice (some ⟨G2, 0, none⟩) n n) ∧ w'.cell? ⟨b5, o5 + m, none⟩ = some (.int .i64 t) ∧ w'.cell? ⟨b6, o6 + m, none⟩ = some (.int .i64 ev.pl.src) ∧ w'.cell? ⟨G2, t, none⟩ = some v))) (by simp) (by kernel_rfl) (by kernel_rfl) (by kernel_rfl) (by kernel_rfl) (by kernel_rfl) ?_ (fun hHeld => ?_)
              · (try dsimp only)
                (first | exact Kd | exact HK9.out | (refine ⟨?_, ?_, ?_, ?_⟩ <;> go_simp) | fail)
              simp only [List.dropLast_cons_cons, List.dropLast_singleton, List.length_cons, List.length_nil]
              refine wpAnyH_take (i := 0) (v := ?_) rfl (by kernel_rfl) (by kernel_rfl) (by kernel_rfl) (fun _ _ _ h => h) (Or.inl ⟨by rfl, ?_⟩) (by assumption) ?_
              rotate_left
              · intro w hSw
                simp only [List.getElem_toArray, List.getElem_cons_zero]
                (try dsimp only at hSw)
                go_simp
                first | done | (with_reducible rfl)
              simp only [List.getElem_toArray, List.getElem_cons_zero, Act.put, List.setIfInBounds_toArray, List.set_cons_zero, List.set_cons_succ]
              refine wpAnyH_take (i := 1) (v := ?_) rfl (by kernel_rfl) (by kernel_rfl) (by kernel_rfl) (fun _ _ _ h => h) (Or.inl ⟨by rfl, ?_⟩) (by assumption) ?_
              rotate_left
              · intro w hSw
                simp only [List.getElem_toArray, List.getElem_cons_succ, List.getElem_cons_zero]
                (try dsimp only at hSw)
                go_simp
                first | done | (with_reducible rfl)
              simp only [List.getElem_toArray, List.getElem_cons_succ, List.getElem_cons_zero, Act.put, List.setIfInBounds_toArray, List.set_cons_zero, List.set_cons_succ]
              refine wpAnyH_take (i := 2) (v := ?_) rfl (by kernel_rfl) (by kernel_rfl) (by kernel_rfl) (fun _ _ _ h => h) (Or.inl ⟨by rfl, ?_⟩) (by assumption) ?_
              rotate_left
              · intro w hSw
                simp only [List.getElem_toArray, List.getElem_cons_succ, List.getElem_cons_zero]
                (try dsimp only at hSw)
                go_simp
                first | done | (with_reducible rfl)
              simp only [List.getElem_toArray, List.getElem_cons_succ, List.getElem_cons_zero, Act.put, List.setIfInBounds_toArray, List.set_cons_zero, List.set_cons_succ]
              refine wpAnyH_take (i := 3) (v := ?_) rfl (by kernel_rfl) (by kernel_rfl) (by kernel_rfl) (fun _ _ _ h => h) (Or.inl ⟨by rfl, ?_⟩) (by assumption) ?_
              rotate_left
              · intro w hSw
                simp only [List.getElem_toArray, List.getElem_cons_succ, List.getElem_cons_zero]
                (try dsimp only at hSw)
                go_simp
                first | done | (with_reducible rfl)
              simp only [List.getElem_toArray, List.getElem_cons_succ, List.getElem_cons_zero, Act.put, List.setIfInBounds_toArray, List.set_cons_zero, List.set_cons_succ]
              refine wpAnyH_take (i := 4) (v := ?_) rfl (by kernel_rfl) (by kernel_rfl) (by kernel_rfl) (fun _ _ _ h => h) (Or.inl ⟨by rfl, ?_⟩) (by assumption) ?_
              rotate_left
              · intro w hSw
                simp only [List.getElem_toArray, List.getElem_cons_succ, List.getElem_cons_zero]
                (try dsimp only at hSw)
                go_simp
                first | done | (with_reducible rfl)
              simp only [List.getElem_toArray, List.getElem_cons_succ, List.getElem_cons_zero, Act.put, List.setIfInBounds_toArray, List.set_cons_zero, List.set_cons_succ]
              refine wpAnyH_take (i := 5) (v := ?_) rfl (by kernel_rfl) (by kernel_rfl) (by kernel_rfl) (fun _ _ _ h => h) (Or.inl ⟨by rfl, ?_⟩) (by assumption) ?_
              rotate_left
              · intro w hSw
                simp only [List.getElem_toArray, List.getElem_cons_succ, List.getElem_cons_zero]
                (try dsimp only at hSw)
                go_simp
                first | done | (with_reducible rfl)
              simp only [List.getElem_toArray, List.getElem_cons_succ, List.getElem_cons_zero, Act.put, List.setIfInBounds_toArray, List.set_cons_zero, List.set_cons_succ]
              refine wpAnyH_take (i := 6) (v := ?_) rfl (by kernel_rfl) (by kernel_rfl) (by kernel_rfl) (fun _ _ _ h => h) (Or.inl ⟨by rfl, ?_⟩) (by assumption) ?_
              rotate_left
              · intro w hSw
                simp only [List.getElem_toArray, List.getElem_cons_succ, List.getElem_cons_zero]
                (try dsimp only at hSw)
                go_simp
                first | done | (with_reducible rfl)
              simp only [List.getElem_toArray, List.getElem_cons_succ, List.getElem_cons_zero, Act.put, List.setIfInBounds_toArray, List.set_cons_zero, List.set_cons_succ]
              refine wpAnyH_take (i := 7) (v := ?_) rfl (by kernel_rfl) (by kernel_rfl) (by kernel_rfl) (fun _ _ _ h => h) (Or.inl ⟨by rfl, ?_⟩) (by assumption) ?_
              rotate_left
              · intro w hSw
                simp only [List.getElem_toArray, List.getElem_cons_succ, List.getElem_cons_zero]
                (try dsimp only at hSw)
                go_simp
                first | done | (with_reducible rfl)
              simp only [List.getElem_toArray, List.getElem_cons_succ, List.getElem_cons_zero, Act.put, List.setIfInBounds_toArray, List.set_cons_zero, List.set_cons_succ]
              refine wpAnyH_take (i := 8) (v := ?_) rfl (by kernel_rfl) (by kernel_rfl) (by kernel_rfl) (fun _ _ _ h => h) (Or.inl ⟨by rfl, ?_⟩) (by assumption) ?_
              rotate_left
              · intro w hSw
                simp only [List.getElem_toArray, List.getElem_cons_succ, List.getElem_cons_zero]
                (try dsimp only at hSw)
                go_simp
                first | done | (with_reducible rfl)
              simp only [List.getElem_toArray, List.getElem_cons_succ, List.getElem_cons_zero, Act.put, List.setIfInBounds_toArray, List.set_cons_zero, List.set_cons_succ]
              refine wpAnyH_take (i := 9) (v := ?_) rfl (by kernel_rfl) (by kernel_rfl) (by kernel_rfl) (fun _ _ _ h => h) (Or.inl ⟨by rfl, ?_⟩) (by assumption) ?_
              rotate_left
              · intro w hSw
                simp only [List.getElem_toArray, List.getElem_cons_succ, List.getElem_cons_zero]
                (try dsimp only at hSw)
                go_simp
                first | done | (with_reducible rfl)
              simp only [List.getElem_toArray, List.getElem_cons_succ, List.getElem_cons_zero, Act.put, List.setIfInBounds_toArray, List.set_cons_zero, List.set_cons_succ]
              refine wpAnyH_take (i := 10) (v := ?_) rfl (by kernel_rfl) (by kernel_rfl) (by kernel_rfl) (fun _ _ _ h => h) (Or.inl ⟨by rfl, ?_⟩) (by assumption) ?_
              rotate_left
              · intro w hSw
                simp only [List.getElem_toArray, List.getElem_cons_succ, List.getElem_cons_zero]
                (try dsimp only at hSw)
                go_simp
                first | done | (with_reducible rfl)
              simp only [List.getElem_toArray, List.getElem_cons_succ, List.getElem_cons_zero, Act.put, List.setIfInBounds_toArray, List.set_cons_zero, List.set_cons_succ]
              refine wpAnyH_take (i := 11) (v := ?_) rfl (by kernel_rfl) (by kernel_rfl) (by kernel_rfl) (fun _ _ _ h => h) (Or.inl ⟨by rfl, ?_⟩) (by assumption) ?_
              rotate_left
              · intro w hSw
                simp only [List.getElem_toArray, List.getElem_cons_succ, List.getElem_cons_zero]
                (try dsimp only at hSw)
                go_simp
                first | done | (with_reducible rfl)
              simp only [List.getElem_toArray, List.getElem_cons_succ, List.getElem_cons_zero, Act.put, List.setIfInBounds_toArray, List.set_cons_zero, List.set_cons_succ]
              refine wpAnyH_take (i := 12) (v := ?_) rfl (by kernel_rfl) (by kernel_rfl) (by kernel_rfl) (fun _ _ _ h => h) (Or.inl ⟨by rfl, ?_⟩) (by assumption) ?_
              rotate_left
              · intro w hSw
                simp only [List.getElem_toArray, List.getElem_cons_succ, List.getElem_cons_zero]
                (try dsimp only at hSw)
                go_simp
                first | done | (with_reducible rfl)
              simp only [List.getElem_toArray, List.getElem_cons_succ, List.getElem_cons_zero, Act.put, List.setIfInBounds_toArray, List.set_cons_zero, List.set_cons_succ]
              refine wpAnyH_take (i := 13) (v := ?_) rfl (by kernel_rfl) (by kernel_rfl) (by kernel_rfl) (fun _ _ _ h => h) (Or.inl ⟨by rfl, ?_⟩) (by assumption) ?_
              rotate_left
              · intro w hSw
                simp only [List.getElem_toArray, List.getElem_cons_succ, List.getElem_cons_zero]
                (try dsimp only at hSw)
                go_simp
                first | done | (with_reducible rfl)
              simp only [List.getElem_toArray, List.getElem_cons_succ, List.getElem_cons_zero, Act.put, List.setIfInBounds_toArray, List.set_cons_zero, List.set_cons_succ]
              refine wpAnyH_take (i := 14) (v := ?_) rfl (by kernel_rfl) (by kernel_rfl) (by kernel_rfl) (fun _ _ _ h => h) (Or.inl ⟨by rfl, ?_⟩) (by assumption) ?_
              rotate_left
              · intro w hSw
                simp only [List.getElem_toArray, List.getElem_cons_succ, List.getElem_cons_zero]
                (try dsimp only at hSw)
                go_simp
                first | done | (with_reducible rfl)
              simp only [List.getElem_toArray, List.getElem_cons_succ, List.getElem_cons_zero, Act.put, List.setIfInBounds_toArray, List.set_cons_zero, List.set_cons_succ]
              refine wpAnyH_take (i := 15) (v := ?_) rfl (by kernel_rfl) (by kernel_rfl) (by kernel_rfl) (fun _ _ _ h => h) (Or.inl ⟨by rfl, ?_⟩) (by assumption) ?_
              rotate_left
              · intro w hSw
                simp only [List.getElem_toArray, List.getElem_cons_succ, List.getElem_cons_zero]
                (try dsimp only at hSw)
                go_simp
                first | done | (with_reducible rfl)
              simp only [List.getElem_toArray, List.getElem_cons_succ, List.getElem_cons_zero, Act.put, List.setIfInBounds_toArray, List.set_cons_zero, List.set_cons_succ]
              refine wpAnyH_take (i := 16) (v := ?_) rfl (by kernel_rfl) (by kernel_rfl) (by kernel_rfl) (fun _ _ _ h => h) (Or.inl ⟨by rfl, ?_⟩) (by assumption) ?_
              rotate_left
              · intro w hSw
                simp only [List.getElem_toArray, List.getElem_cons_succ, List.getElem_cons_zero]
                (try dsimp only at hSw)
                go_simp
                first | done | (with_reducible rfl)
              simp only [List.getElem_toArray, List.getElem_cons_succ, List.getElem_cons_zero, Act.put, List.setIfInBounds_toArray, List.set_cons_zero, List.set_cons_succ]
              refine wpAnyH_take (i := 17) (v := ?_) rfl (by kernel_rfl) (by kernel_rfl) (by kernel_rfl) (fun _ _ _ h => h) (Or.inl ⟨by rfl, ?_⟩) (by assumption) ?_
              rotate_left
              · intro w hSw
                simp only [List.getElem_toArray, List.getElem_cons_succ, List.getElem_cons_zero]
                (try dsimp only at hSw)
                go_simp
                first | done | (with_reducible rfl)
              simp only [List.getElem_toArray, List.getElem_cons_succ, List.getElem_cons_zero, Act.put, List.setIfInBounds_toArray, List.set_cons_zero, List.set_cons_succ]
              refine wpAnyH_take (i := 18) (v := ?_) rfl (by kernel_rfl) (by kernel_rfl) (by kernel_rfl) (fun _ _ _ h => h) (Or.inl ⟨by rfl, ?_⟩) (by assumption) ?_
              rotate_left
              · intro w hSw
                simp only [List.getElem_toArray, List.getElem_cons_succ, List.getElem_cons_zero]
                (try dsimp only at hSw)
                go_simp
                first | done | (with_reducible rfl)
              simp only [List.getElem_toArray, List.getElem_cons_succ, List.getElem_cons_zero, Act.put, List.setIfInBounds_toArray, List.set_cons_zero, List.set_cons_succ]
              refine wpAnyH_take (i := 19) (v := ?_) rfl (by kernel_rfl) (by kernel_rfl) (by kernel_rfl) (fun _ _ _ h => h) (Or.inl ⟨by rfl, ?_⟩) (by assumption) ?_
              rotate_left
              · intro w hSw
                simp only [List.getElem_toArray, List.getElem_cons_succ, List.getElem_cons_zero]
                (try dsimp only at hSw)
                go_simp
                first | done | (with_reducible rfl)
              simp only [List.getElem_toArray, List.getElem_cons_succ, List.getElem_cons_zero, Act.put, List.setIfInBounds_toArray, List.set_cons_zero, List.set_cons_succ]
              refine wpAnyH_ready (rs := [20]) (by kernel_rfl) (by simp) ?_
              refine AllReadyH.cons rfl (fun KZ hKZ => ?_) AllReadyH.nil
              simp only [List.getElem_toArray, List.getElem_cons_succ, List.getElem_cons_zero]
              go_simp
              refine hKZ.out _ _ ?_ (fun hHeld => ?_)
              · (try dsimp only)
                (first | exact Kd | exact HK9.out | (refine ⟨?_, ?_, ?_, ?_⟩ <;> go_simp) | fail)
              clear hKZ KZ
              (try simp only [List.getElem_toArray, List.getElem_cons_succ, List.getElem_cons_zero, Act.put, List.setIfInBounds_toArray, List.set_cons_zero, List.set_cons_succ])
              refine wpAnyH_ready (rs := [21]) (by kernel_rfl) (by simp) ?_
              refine AllReadyH.cons rfl (fun KZ hKZ => ?_) AllReadyH.nil
              ((refine step_append_place (by rfl) (.tmp 118) (.tmp 125) (by rfl) (G2 + 1) v (pick (takesK f k ++ evs.take m) t) k ev.pl.src _ wr.heap.size (by rfl) (HOV.out.below ((Below.refl _ _).drew.alloc (by simp) _) (fun k hk => (HQV.out k hk).2.2.2.2)) (by rfl) (heap_alloc_new _ _) (by simp; omega) hlen ?_; intro g cap w9 hown9 hg9 hat9; have HO9 := Lib.hid hown9; have HG9 : Hid (wr.grownBy w9 v.ownBlock) := ((show wr.grownBy wr.drew _ from ⟨rfl, rfl, rfl, Nat.le_refl _, fun _ _ _ => rfl⟩).trans (World.grownBy_alloc wr.drew _ _)).trans hg9; have HA9 : Hid (v.ownBlock = some g ∨ g = wr.heap.size + 1) := (by rcases hat9 with h | h; exact .inl h; exact .inr (by rw [h]; simp)); have HK9 : Hid ((fun w' => w'.cell? ⟨K, 5, none⟩ = some (.slice (some ⟨G2, 0, none⟩) n n) ∧ w'.cell? ⟨b5, o5 + m, none⟩ = some (.int .i64 t) ∧ w'.cell? ⟨b6, o6 + m, none⟩ = some (.int .i64 ev.pl.src) ∧ w'.cell? ⟨G2, t, none⟩ = some v) w9) := ⟨(World.cell?_of_block (a := ⟨K, 5, none⟩) (HG9.out.block _ hkl (fun e => (HQV.out K e.symm).1 rfl))).trans Kd.1, (World.cell?_of_block (a := ⟨b5, o5 + m, none⟩) (HG9.out.block _ l5.2 (fun e => (HQV.out b5 e.symm).2.1 rfl))).trans Kd.2.1, (World.cell?_of_block (a := ⟨b6, o6 + m, none⟩) (HG9.out.block _ l6.2 (fun e => (HQV.out b6 e.symm).2.2.1 rfl))).trans Kd.2.2.1, (World.cell?_of_block (a := ⟨G2, t, none⟩) (HG9.out.block _ hGl (fun e => (HQV.out G2 e.symm).2.2.2.1 rfl))).trans Kd.2.2.2⟩; clear hown9 hg9 hat9))
              refine hKZ.out _ _ ?_ (fun hHeld => ?_)
              · (try dsimp only)
                (first | exact Kd | exact HK9.out | (refine ⟨?_, ?_, ?_, ?_⟩ <;> go_simp) | fail)
              clear hKZ KZ
              (try simp only [List.getElem_toArray, List.getElem_cons_succ, List.getElem_cons_zero, Act.put, List.setIfInBounds_toArray, List.set_cons_zero, List.set_cons_succ])
              refine wpAnyH_take (i := 22) (v := ?_) rfl (by kernel_rfl) (by kernel_rfl) (by kernel_rfl) (fun _ _ _ h => h) (Or.inl ⟨by rfl, ?_⟩) (by assumption) ?_
              rotate_left
              · intro w hSw
                simp only [List.getElem_toArray, List.getElem_cons_succ, List.getElem_cons_zero]
                (try dsimp only at hSw)
                go_simp
                first | done | (with_reducible rfl)
              simp only [List.getElem_toArray, List.getElem_cons_succ, List.getElem_cons_zero, Act.put, List.setIfInBounds_toArray, List.set_cons_zero, List.set_cons_succ]
              refine wpAnyH_done (by kernel_rfl) ?_ _
              have hfz9 := (World.frozen?_of_block (a := ⟨G2, t, none⟩) (HG9.out.block _ hGl (fun e => (HQV.out G2 e.symm).2.2.2.1 rfl))).trans hfz
              have hc9 := HK9.out.2.2.2
              refine offQ_last rfl (fun KL hKL => ?_)
              go_simp
              refine hKL.out _ _ ?_
              have hv9 : (Value.slice (some ⟨g, 0, none⟩) ((pick (takesK f k ++ evs.take m) t).length + 1) cap).ownBlock = v.ownBlock ∨ ∃ k, (Value.slice (some ⟨g, 0, none⟩) ((pick (takesK f k ++ evs.take m) t).length + 1) cap).ownBlock = some k ∧ wr.heap.size ≤ k := by
                rcases HA9.out with h | h
                · exact .inl (by rw [h]; rfl)
                · exact .inr ⟨g, rfl, by omega⟩
              have HQ9 := QRow.append HO.out.h2 htn rfl hcv HO9.out HG9.out hv9
              have HD9 := Adds.append HO.out.h2 rfl htn hcv HG9.out hv9
              have HE9 : EvR pick (w9.setCell ⟨G2, t, none⟩ (.slice (some ⟨g, 0, none⟩) ((pick (takesK f k ++ evs.take m) t).length + 1) cap)) G2 n (takesK f k ++ evs.take (m + 1)) := EvR.add (evs := takesK f k ++ evs.take m) (t := t) (p := ⟨(k : Int), ev.pl.src⟩) HQ9 (by rw [HTS.out, ← List.append_assoc, ← HEP.out.1, ← HEP.out.2])
              have HO10 := Lib.hid (HO.out.add2 HD9 HE9)
              have HA10 : Hid (BL (w9.setCell ⟨G2, t, none⟩ (.slice (some ⟨g, 0, none⟩) ((pick (takesK f k ++ evs.take m) t).length + 1) cap)) qa f.blocks.length rs ∧ Free (w9.setCell ⟨G2, t, none⟩ (.slice (some ⟨g, 0, none⟩) ((pick (takesK f k ++ evs.take m) t).length + 1) cap)) K G1 G2 dv' qa) := ⟨HA.out.1.fw HD9.fw HA.out.2.2.2.1, HA.out.2.add2 HO.out HD9 HA.out.1.lt⟩
              have HB10 := Lib.hid (HB.out.trans ((HD9.toBelow HO.out.h2 rfl).mono HO.out.b2))
              have HN10 := Lib.hid (HN.out.fw HD9.fw fun kk hkk => (HFR.out kk (HN.out.lt kk hkk).1 (HT5.out.1.lt kk hkk).2).2.2.1)
              have HT10 := Lib.hid (HT.out.fw HD9.fw fun kk hkk => (HFR.out kk (HT.out.lt kk hkk).1 (HT5.out.2.1.lt kk hkk).2).2.2.1)
              have HF10 : Hid (∀ kk, lo ≤ kk → kk < w7.heap.size → Free (w9.setCell ⟨G2, t, none⟩ (.slice (some ⟨g, 0, none⟩) ((pick (takesK f k ++ evs.take m) t).length + 1) cap)) K G1 G2 dv' kk) := fun kk h1 h2 => (HFR.out kk h1 h2).add2 HO.out HD9 (by omega)
              have hz10 : w7.heap.size ≤ (w9.setCell ⟨G2, t, none⟩ (.slice (some ⟨g, 0, none⟩) ((pick (takesK f k ++ evs.take m) t).length + 1) cap)).heap.size := Nat.le_trans hszr HD9.fw.size
              clear HQ9 HE9 HD9 hv9 Kd HK9 HO9 HG9 HA9 HO HA HB HN HT HFR
              go_wp2_with fail
              go_roundw
              case rel => exact ⟨m + 1, by omega, by go_num, HO10.out, HB10.out, HA10.out, HN10.out, HT10.out, HF10.out, hz10⟩
              case measure => simp [intOf]; omega
          have hem : evs[m]? = some evs[m] := List.getElem?_eq_getElem hml
          generalize evs[m] = ev at hem
          have Hem := Lib.hid hem
          have hml' : (m : Int) < (evs.length : Int) := by omega
          obtain ⟨hdst, hnb⟩ := HEV.out ev (List.mem_of_getElem? hem)
          rw [HNN.out] at hnb
          obtain ⟨t, ht, htn⟩ := name_nat hnb
          have htn' : (t : Int) < (n : Int) := by omega
          obtain ⟨_, A5', c5', he5, hux⟩ := HN.out.ri
          injection he5 with q1 q0 q2
          clear q0
          subst q1 q2
          obtain ⟨b5, o5, rfl, hcell⟩ := hux (by intro h; rw [List.map_eq_nil_iff] at h; rw [h] at hml; simp at hml)
          have p0 := hcell m ev.n (by rw [List.getElem?_map, hem]; rfl)
          rw [ht] at p0
          obtain ⟨_, A6', c6', he6, hux'⟩ := HT.out.ri
          injection he6 with q1 q0 q2
          clear q0
          subst q1 q2
          obtain ⟨b6, o6, rfl, hcell'⟩ := hux' (by intro h; rw [List.map_eq_nil_iff] at h; rw [h] at hml; simp at hml)
          have p1 := hcell' m ev.pl.src (by rw [List.getElem?_map, hem]; rfl)
          have l5 := HN.out.lt b5 rfl
          have l6 := HT.out.lt b6 rfl
          have l5' := (HT5.out.1.lt b5 rfl).2
          have l6' := (HT5.out.2.1.lt b6 rfl).2
          have HTS := Lib.hid (take_snoc hem)
          have hK := HO.out.hK
          have k4 := cell_of_row wr K 4 _ _ (0, 0) hK
          have hkl := HO.out.ltK
          have hGl := QRow.lt HO.out.h1
          obtain ⟨v, hcv, hov⟩ := QRow.get HO.out.h1 htn
          have hfz := QRow.frozen HO.out.h1 t
          have HOV := Lib.hid hov
          have HQV : Hid (∀ kk, v.ownBlock = some kk → kk ≠ K ∧ kk ≠ b5 ∧ kk ≠ b6 ∧ kk ≠ G1 ∧ kk < wr.heap.size) := fun kk hkk => by
            have ho : Owns wr G1 kk := .inr ⟨t, v, hcv, hkk⟩
            exact ⟨fun e => HO.out.k1 (e ▸ ho), fun e => (HFR.out b5 l5.1 l5').2.1 (e ▸ ho), fun e => (HFR.out b6 l6.1 l6').2.1 (e ▸ ho), fun e => by have := (hov.lt kk hkk).1; omega, (hov.lt kk hkk).2⟩
          have HEP : Hid (ev.pl = ⟨(k : Int), ev.pl.src⟩ ∧ ev.n = t) := ⟨by rw [← hdst], ht⟩
          have hlen : (pick (upTo (blkP f) f.blocks k ++ evs.take m) t).length ≤ 1048576 := by
            have h1 := pick_len (upTo (blkP f) f.blocks k ++ evs.take m) t
            have h2 : (upTo (blkP f) f.blocks k).length ≤ 10000 := Nat.le_trans (upTo_blkP_len HP.out k hk) (by decide)
            rw [List.length_append, List.length_take] at h1
            omega
          have hcv0 : wr.cell? ⟨G1, t, none⟩ = some v := hcv
          have Kd : (fun w' => w'.cell? ⟨K, 4, none⟩ = some (.slice (some ⟨G1, 0, none⟩) n n) ∧ w'.cell? ⟨b5, o5 + m, none⟩ = some (.int .i64 t) ∧ w'.cell? ⟨b6, o6 + m, none⟩ = some (.int .i64 ev.pl.src) ∧ w'.cell? ⟨G1, t, none⟩ = some v) wr.drew := ⟨k4, p0, p1, hcv0⟩
          clear hcell hcell' hux hux' hem hK hov hnb hdst ht hcv0
          go_upto_region 16 with fail
          refine wp_region_offL (S := ((fun w' => w'.cell? ⟨K, 4, none⟩ = some (.slice (some ⟨G1, 0, none⟩) n n) ∧ w'.cell? ⟨b5, o5 + m, none⟩ = some (.int .i64 t) ∧ w'.cell? ⟨b6, o6 + m, none⟩ = some (.int .i64 ev.pl.src) ∧ w'.cell? ⟨G1, t, none⟩ = some v))) (by simp) (by kernel_rfl) (by kernel_rfl) (by kernel_rfl) (by kernel_rfl) (by kernel_rfl) ?_ (fun hHeld => ?_)
          · (try dsimp only)
            (first | exact Kd | exact HK9.out | (refine ⟨?_, ?_, ?_, ?_⟩ <;> go_simp) | fail)
          simp only [List.dropLast_cons_cons, List.dropLast_singleton, List.length_cons, List.length_nil]
          refine wpAnyH_take (i := 0) (v := ?_) rfl (by kernel_rfl) (by kernel_rfl) (by kernel_rfl) (fun _ _ _ h => h) (Or.inl ⟨by rfl, ?_⟩) (by assumption) ?_
          rotate_left
          · intro w hSw
            simp only [List.getElem_toArray, List.getElem_cons_zero]
            (try dsimp only at hSw)
            go_simp
            first | done | (with_reducible rfl)
          simp only [List.getElem_toArray, List.getElem_cons_zero, Act.put, List.setIfInBounds_toArray, List.set_cons_zero, List.set_cons_succ]
          refine wpAnyH_take (i := 1) (v := ?_) rfl (by kernel_rfl) (by kernel_rfl) (by kernel_rfl) (fun _ _ _ h => h) (Or.inl ⟨by rfl, ?_⟩) (by assumption) ?_
          rotate_left
          · intro w hSw
            simp only [List.getElem_toArray, List.getElem_cons_succ, List.getElem_cons_zero]
            (try dsimp only at hSw)
            go_simp
            first | done | (with_reducible rfl)
          simp only [List.getElem_toArray, List.getElem_cons_succ, List.getElem_cons_zero, Act.put, List.setIfInBounds_toArray, List.set_cons_zero, List.set_cons_succ]
          refine wpAnyH_take (i := 2) (v := ?_) rfl (by kernel_rfl) (by kernel_rfl) (by kernel_rfl) (fun _ _ _ h => h) (Or.inl ⟨by rfl, ?_⟩) (by assumption) ?_
          rotate_left
          · intro w hSw
            simp only [List.getElem_toArray, List.getElem_cons_succ, List.getElem_cons_zero]
            (try dsimp only at hSw)
            go_simp
            first | done | (with_reducible rfl)
          simp only [List.getElem_toArray, List.getElem_cons_succ, List.getElem_cons_zero, Act.put, List.setIfInBounds_toArray, List.set_cons_zero, List.set_cons_succ]
          refine wpAnyH_take (i := 3) (v := ?_) rfl (by kernel_rfl) (by kernel_rfl) (by kernel_rfl) (fun _ _ _ h => h) (Or.inl ⟨by rfl, ?_⟩) (by assumption) ?_
          rotate_left
          · intro w hSw
            simp only [List.getElem_toArray, List.getElem_cons_succ, List.getElem_cons_zero]
            (try dsimp only at hSw)
            go_simp
            first | done | (with_reducible rfl)
          simp only [List.getElem_toArray, List.getElem_cons_succ, List.getElem_cons_zero, Act.put, List.setIfInBounds_toArray, List.set_cons_zero, List.set_cons_succ]
          refine wpAnyH_take (i := 4) (v := ?_) rfl (by kernel_rfl) (by kernel_rfl) (by kernel_rfl) (fun _ _ _ h => h) (Or.inl ⟨by rfl, ?_⟩) (by assumption) ?_
          rotate_left
          · intro w hSw
            simp only [List.getElem_toArray, List.getElem_cons_succ, List.getElem_cons_zero]
            (try dsimp only at hSw)
            go_simp
            first | done | (with_reducible rfl)
          simp only [List.getElem_toArray, List.getElem_cons_succ, List.getElem_cons_zero, Act.put, List.setIfInBounds_toArray, List.set_cons_zero, List.set_cons_succ]
          refine wpAnyH_take (i := 5) (v := ?_) rfl (by kernel_rfl) (by kernel_rfl) (by kernel_rfl) (fun _ _ _ h => h) (Or.inl ⟨by rfl, ?_⟩) (by assumption) ?_
          rotate_left
          · intro w hSw
            simp only [List.getElem_toArray, List.getElem_cons_succ, List.getElem_cons_zero]
            (try dsimp only at hSw)
            go_simp
            first | done | (with_reducible rfl)
          simp only [List.getElem_toArray, List.getElem_cons_succ, List.getElem_cons_zero, Act.put, List.setIfInBounds_toArray, List.set_cons_zero, List.set_cons_succ]
          refine wpAnyH_take (i := 6) (v := ?_) rfl (by kernel_rfl) (by kernel_rfl) (by kernel_rfl) (fun _ _ _ h => h) (Or.inl ⟨by rfl, ?_⟩) (by assumption) ?_
          rotate_left
          · intro w hSw
            simp only [List.getElem_toArray, List.getElem_cons_succ, List.getElem_cons_zero]
            (try dsimp only at hSw)
            go_simp
            first | done | (with_reducible rfl)
          simp only [List.getElem_toArray, List.getElem_cons_succ, List.getElem_cons_zero, Act.put, List.setIfInBounds_toArray, List.set_cons_zero, List.set_cons_succ]
          refine wpAnyH_take (i := 7) (v := ?_) rfl (by kernel_rfl) (by kernel_rfl) (by kernel_rfl) (fun _ _ _ h => h) (Or.inl ⟨by rfl, ?_⟩) (by assumption) ?_
          rotate_left
          · intro w hSw
            simp only [List.getElem_toArray, List.getElem_cons_succ, List.getElem_cons_zero]
            (try dsimp only at hSw)
            go_simp
            first | done | (with_reducible rfl)
          simp only [List.getElem_toArray, List.getElem_cons_succ, List.getElem_cons_zero, Act.put, List.setIfInBounds_toArray, List.set_cons_zero, List.set_cons_succ]
          refine wpAnyH_take (i := 8) (v := ?_) rfl (by kernel_rfl) (by kernel_rfl) (by kernel_rfl) (fun _ _ _ h => h) (Or.inl ⟨by rfl, ?_⟩) (by assumption) ?_
          rotate_left
          · intro w hSw
            simp only [List.getElem_toArray, List.getElem_cons_succ, List.getElem_cons_zero]
            (try dsimp only at hSw)
            go_simp
            first | done | (with_reducible rfl)
          simp only [List.getElem_toArray, List.getElem_cons_succ, List.getElem_cons_zero, Act.put, List.setIfInBounds_toArray, List.set_cons_zero, List.set_cons_succ]
          refine wpAnyH_take (i := 9) (v := ?_) rfl (by kernel_rfl) (by kernel_rfl) (by kernel_rfl) (fun _ _ _ h => h) (Or.inl ⟨by rfl, ?_⟩) (by assumption) ?_
          rotate_left
          · intro w hSw
            simp only [List.getElem_toArray, List.getElem_cons_succ, List.getElem_cons_zero]
            (try dsimp only at hSw)
            go_simp
            first | done | (with_reducible rfl)
          simp only [List.getElem_toArray, List.getElem_cons_succ, List.getElem_cons_zero, Act.put, List.setIfInBounds_toArray, List.set_cons_zero, List.set_cons_succ]
          refine wpAnyH_take (i := 10) (v := ?_) rfl (by kernel_rfl) (by kernel_rfl) (by kernel_rfl) (fun _ _ _ h => h) (Or.inl ⟨by rfl, ?_⟩) (by assumption) ?_
          rotate_left
          · intro w hSw
            simp only [List.getElem_toArray, List.getElem_cons_succ, List.getElem_cons_zero]
            (try dsimp only at hSw)
            go_simp
            first | done | (with_reducible rfl)
          simp only [List.getElem_toArray, List.getElem_cons_succ, List.getElem_cons_zero, Act.put, List.setIfInBounds_toArray, List.set_cons_zero, List.set_cons_succ]
          refine wpAnyH_take (i := 11) (v := ?_) rfl (by kernel_rfl) (by kernel_rfl) (by kernel_rfl) (fun _ _ _ h => h) (Or.inl ⟨by rfl, ?_⟩) (by assumption) ?_
          rotate_left
          · intro w hSw
            simp only [List.getElem_toArray, List.getElem_cons_succ, List.getElem_cons_zero]
            (try dsimp only at hSw)
            go_simp
            first | done | (with_reducible rfl)
          simp only [List.getElem_toArray, List.getElem_cons_succ, List.getElem_cons_zero, Act.put, List.setIfInBounds_toArray, List.set_cons_zero, List.set_cons_succ]
          refine wpAnyH_take (i := 12) (v := ?_) rfl (by kernel_rfl) (by kernel_rfl) (by kernel_rfl) (fun _ _ _ h => h) (Or.inl ⟨by rfl, ?_⟩) (by assumption) ?_
          rotate_left
          · intro w hSw
            simp only [List.getElem_toArray, List.getElem_cons_succ, List.getElem_cons_zero]
            (try dsimp only at hSw)
            go_simp
            first | done | (with_reducible rfl)
          simp only [List.getElem_toArray, List.getElem_cons_succ, List.getElem_cons_zero, Act.put, List.setIfInBounds_toArray, List.set_cons_zero, List.set_cons_succ]
          refine wpAnyH_take (i := 13) (v := ?_) rfl (by kernel_rfl) (by kernel_rfl) (by kernel_rfl) (fun _ _ _ h => h) (Or.inl ⟨by rfl, ?_⟩) (by assumption) ?_
          rotate_left
          · intro w hSw
            simp only [List.getElem_toArray, List.getElem_cons_succ, List.getElem_cons_zero]
            (try dsimp only at hSw)
            go_simp
            first | done | (with_reducible rfl)
          simp only [List.getElem_toArray, List.getElem_cons_succ, List.getElem_cons_zero, Act.put, List.setIfInBounds_toArray, List.set_cons_zero, List.set_cons_succ]
          refine wpAnyH_take (i := 14) (v := ?_) rfl (by kernel_rfl) (by kernel_rfl) (by kernel_rfl) (fun _ _ _ h => h) (Or.inl ⟨by rfl, ?_⟩) (by assumption) ?_
          rotate_left
          · intro w hSw
            simp only [List.getElem_toArray, List.getElem_cons_succ, List.getElem_cons_zero]
            (try dsimp only at hSw)
            go_simp
            first | done | (with_reducible rfl)
          simp only [List.getElem_toArray, List.getElem_cons_succ, List.getElem_cons_zero, Act.put, List.setIfInBounds_toArray, List.set_cons_zero, List.set_cons_succ]
          refine wpAnyH_take (i := 15) (v := ?_) rfl (by kernel_rfl) (by kernel_rfl) (by kernel_rfl) (fun _ _ _ h => h) (Or.inl ⟨by rfl, ?_⟩) (by assumption) ?_
          rotate_left
          · intro w hSw
            simp only [List.getElem_toArray, List.getElem_cons_succ, List.getElem_cons_zero]
            (try dsimp only at hSw)
            go_simp
            first | done | (with_reducible rfl)
          simp only [List.getElem_toArray, List.getElem_cons_succ, List.getElem_cons_zero, Act.put, List.setIfInBounds_toArray, List.set_cons_zero, List.set_cons_succ]
          refine wpAnyH_take (i := 16) (v := ?_) rfl (by kernel_rfl) (by kernel_rfl) (by kernel_rfl) (fun _ _ _ h => h) (Or.inl ⟨by rfl, ?_⟩) (by assumption) ?_
          rotate_left
          · intro w hSw
            simp only [List.getElem_toArray, List.getElem_cons_succ, List.getElem_cons_zero]
            (try dsimp only at hSw)
            go_simp
            first | done | (with_reducible rfl)
          simp only [List.getElem_toArray, List.getElem_cons_succ, List.getElem_cons_zero, Act.put, List.setIfInBounds_toArray, List.set_cons_zero, List.set_cons_succ]
          refine wpAnyH_take (i := 17) (v := ?_) rfl (by kernel_rfl) (by kernel_rfl) (by kernel_rfl) (fun _ _ _ h => h) (Or.inl ⟨by rfl, ?_⟩) (by assumption) ?_
          rotate_left
          · intro w hSw
            simp only [List.getElem_toArray, List.getElem_cons_succ, List.getElem_cons_zero]
            (try dsimp only at hSw)
            go_simp
            first | done | (with_reducible rfl)
          simp only [List.getElem_toArray, List.getElem_cons_succ, List.getElem_cons_zero, Act.put, List.setIfInBounds_toArray, List.set_cons_zero, List.set_cons_succ]
          refine wpAnyH_take (i := 18) (v := ?_) rfl (by kernel_rfl) (by kernel_rfl) (by kernel_rfl) (fun _ _ _ h => h) (Or.inl ⟨by rfl, ?_⟩) (by assumption) ?_
          rotate_left
          · intro w hSw
            simp only [List.getElem_toArray, List.getElem_cons_succ, List.getElem_cons_zero]
            (try dsimp only at hSw)
            go_simp
            first | done | (with_reducible rfl)
          simp only [List.getElem_toArray, List.getElem_cons_succ, List.getElem_cons_zero, Act.put, List.setIfInBounds_toArray, List.set_cons_zero, List.set_cons_succ]
          refine wpAnyH_take (i := 19) (v := ?_) rfl (by kernel_rfl) (by kernel_rfl) (by kernel_rfl) (fun _ _ _ h => h) (Or.inl ⟨by rfl, ?_⟩) (by assumption) ?_
          rotate_left
          · intro w hSw
            simp only [List.getElem_toArray, List.getElem_cons_succ, List.getElem_cons_zero]
            (try dsimp only at hSw)
            go_simp
            first | done | (with_reducible rfl)
          simp only [List.getElem_toArray, List.getElem_cons_succ, List.getElem_cons_zero, Act.put, List.setIfInBounds_toArray, List.set_cons_zero, List.set_cons_succ]
          refine wpAnyH_ready (rs := [20]) (by kernel_rfl) (by simp) ?_
          refine AllReadyH.cons rfl (fun KZ hKZ => ?_) AllReadyH.nil
          simp only [List.getElem_toArray, List.getElem_cons_succ, List.getElem_cons_zero]
          go_simp
          refine hKZ.out _ _ ?_ (fun hHeld => ?_)
          · (try dsimp only)
            (first | exact Kd | exact HK9.out | (refine ⟨?_, ?_, ?_, ?_⟩ <;> go_simp) | fail)
          clear hKZ KZ
          (try simp only [List.getElem_toArray, List.getElem_cons_succ, List.getElem_cons_zero, Act.put, List.setIfInBounds_toArray, List.set_cons_zero, List.set_cons_succ])
          refine wpAnyH_ready (rs := [21]) (by kernel_rfl) (by simp) ?_
          refine AllReadyH.cons rfl (fun KZ hKZ => ?_) AllReadyH.nil
          ((refine step_append_place (by rfl) (.tmp 83) (.tmp 90) (by rfl) (G1 + 1) v (pick (upTo (blkP f) f.blocks k ++ evs.take m) t) k ev.pl.src _ wr.heap.size (by rfl) (HOV.out.below ((Below.refl _ _).drew.alloc (by simp) _) (fun k hk => (HQV.out k hk).2.2.2.2)) (by rfl) (heap_alloc_new _ _) (by simp; omega) hlen ?_; intro g cap w9 hown9 hg9 hat9; have HO9 := Lib.hid hown9; have HG9 : Hid (wr.grownBy w9 v.ownBlock) := ((show wr.grownBy wr.drew _ from ⟨rfl, rfl, rfl, Nat.le_refl _, fun _ _ _ => rfl⟩).trans (World.grownBy_alloc wr.drew _ _)).trans hg9; have HA9 : Hid (v.ownBlock = some g ∨ g = wr.heap.size + 1) := (by rcases hat9 with h | h; exact .inl h; exact .inr (by rw [h]; simp)); have HK9 : Hid ((fun w' => w'.cell? ⟨K, 4, none⟩ = some (.slice (some ⟨G1, 0, none⟩) n n) ∧ w'.cell? ⟨b5, o5 + m, none⟩ = some (.int .i64 t) ∧ w'.cell? ⟨b6, o6 + m, none⟩ = some (.int .i64 ev.pl.src) ∧ w'.cell? ⟨G1, t, none⟩ = some v) w9) := ⟨(World.cell?_of_block (a := ⟨K, 4, none⟩) (HG9.out.block _ hkl (fun e => (HQV.out K e.symm).1 rfl))).trans Kd.1, (World.cell?_of_block (a := ⟨b5, o5 + m, none⟩) (HG9.out.block _ l5.2 (fun e => (HQV.out b5 e.symm).2.1 rfl))).trans Kd.2.1, (World.cell?_of_block (a := ⟨b6, o6 + m, none⟩) (HG9.out.block _ l6.2 (fun e => (HQV.out b6 e.symm).2.2.1 rfl))).trans Kd.2.2.1, (World.cell?_of_block (a := ⟨G1, t, none⟩) (HG9.out.block _ hGl (fun e => (HQV.out G1 e.symm).2.2.2.1 rfl))).trans Kd.2.2.2⟩; clear hown9 hg9 hat9))
          refine hKZ.out _ _ ?_ (fun hHeld => ?_)
          · (try dsimp only)
            (first | exact Kd | exact HK9.out | (refine ⟨?_, ?_, ?_, ?_⟩ <;> go_simp) | fail)
          clear hKZ KZ
          (try simp only [List.getElem_toArray, List.getElem_cons_succ, List.getElem_cons_zero, Act.put, List.setIfInBounds_toArray, List.set_cons_zero, List.set_cons_succ])
          refine wpAnyH_take (i := 22) (v := ?_) rfl (by kernel_rfl) (by kernel_rfl) (by kernel_rfl) (fun _ _ _ h => h) (Or.inl ⟨by rfl, ?_⟩) (by assumption) ?_
          rotate_left
          · intro w hSw
            simp only [List.getElem_toArray, List.getElem_cons_succ, List.getElem_cons_zero]
            (try dsimp only at hSw)
            go_simp
            first | done | (with_reducible rfl)
          simp only [List.getElem_toArray, List.getElem_cons_succ, List.getElem_cons_zero, Act.put, List.setIfInBounds_toArray, List.set_cons_zero, List.set_cons_succ]
          refine wpAnyH_done (by kernel_rfl) ?_ _
          have hfz9 := (World.frozen?_of_block (a := ⟨G1, t, none⟩) (HG9.out.block _ hGl (fun e => (HQV.out G1 e.symm).2.2.2.1 rfl))).trans hfz
          have hc9 := HK9.out.2.2.2
          refine offQ_last rfl (fun KL hKL => ?_)
          go_simp
          refine hKL.out _ _ ?_
          have hv9 : (Value.slice (some ⟨g, 0, none⟩) ((pick (upTo (blkP f) f.blocks k ++ evs.take m) t).length + 1) cap).ownBlock = v.ownBlock ∨ ∃ k, (Value.slice (some ⟨g, 0, none⟩) ((pick (upTo (blkP f) f.blocks k ++ evs.take m) t).length + 1) cap).ownBlock = some k ∧ wr.heap.size ≤ k := by
            rcases HA9.out with h | h
            · exact .inl (by rw [h]; rfl)
            · exact .inr ⟨g, rfl, by omega⟩
          have HQ9 := QRow.append HO.out.h1 htn rfl hcv HO9.out HG9.out hv9
          have HD9 := Adds.append HO.out.h1 rfl htn hcv HG9.out hv9
          have HE9 : EvR pick (w9.setCell ⟨G1, t, none⟩ (.slice (some ⟨g, 0, none⟩) ((pick (upTo (blkP f) f.blocks k ++ evs.take m) t).length + 1) cap)) G1 n (upTo (blkP f) f.blocks k ++ evs.take (m + 1)) := EvR.add (evs := upTo (blkP f) f.blocks k ++ evs.take m) (t := t) (p := ⟨(k : Int), ev.pl.src⟩) HQ9 (by rw [HTS.out, ← List.append_assoc, ← HEP.out.1, ← HEP.out.2])
          have HO10 := Lib.hid (HO.out.add1 HD9 HE9)
          have HA10 : Hid (BL (w9.setCell ⟨G1, t, none⟩ (.slice (some ⟨g, 0, none⟩) ((pick (upTo (blkP f) f.blocks k ++ evs.take m) t).length + 1) cap)) qa f.blocks.length rs ∧ Free (w9.setCell ⟨G1, t, none⟩ (.slice (some ⟨g, 0, none⟩) ((pick (upTo (blkP f) f.blocks k ++ evs.take m) t).length + 1) cap)) K G1 G2 dv' qa) := ⟨HA.out.1.fw HD9.fw HA.out.2.2.1, HA.out.2.add1 HO.out HD9 HA.out.1.lt⟩
          have HB10 := Lib.hid (HB.out.trans ((HD9.toBelow HO.out.h1 rfl).mono HO.out.b1))
          have HN10 := Lib.hid (HN.out.fw HD9.fw fun kk hkk => (HFR.out kk (HN.out.lt kk hkk).1 (HT5.out.1.lt kk hkk).2).2.1)
          have HT10 := Lib.hid (HT.out.fw HD9.fw fun kk hkk => (HFR.out kk (HT.out.lt kk hkk).1 (HT5.out.2.1.lt kk hkk).2).2.1)
          have HF10 : Hid (∀ kk, lo ≤ kk → kk < w5.heap.size → Free (w9.setCell ⟨G1, t, none⟩ (.slice (some ⟨g, 0, none⟩) ((pick (upTo (blkP f) f.blocks k ++ evs.take m) t).length + 1) cap)) K G1 G2 dv' kk) := fun kk h1 h2 => (HFR.out kk h1 h2).add1 HO.out HD9 (by omega)
          have hz10 : w5.heap.size ≤ (w9.setCell ⟨G1, t, none⟩ (.slice (some ⟨g, 0, none⟩) ((pick (upTo (blkP f) f.blocks k ++ evs.take m) t).length + 1) cap)).heap.size := Nat.le_trans hszr HD9.fw.size
          clear HQ9 HE9 HD9 hv9 Kd HK9 HO9 HG9 HA9 HO HA HB HN HT HFR
          go_wp2_with fail
          go_roundw
          case rel => exact ⟨m + 1, by omega, by go_num, HO10.out, HB10.out, HA10.out, HN10.out, HT10.out, HF10.out, hz10⟩
          case measure => simp [intOf]; omega
end

end Go.Proofs.YtnjmlhokkhkaaaaGreatDoor
