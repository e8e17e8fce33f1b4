/- Run3, joined. -/
import Derived.Test.YtnjmlhokkhkaaaaGreatQ8
import Derived.Test.YtnjmlhokkhkaaaaGreatQ10
import Derived.Deep.AppendLies
namespace Go.Proofs.YtnjmlhokkhkaaaaGreat

/- do of the program: one instruction. -/
section
open Go.ChangeShapes Go.WideShapes Go.ChangeAt Go.RowKit Go.Joins

theorem step_append_int {ops : Array Oper} {o : Oper} {a : Act} {K : Act → World → Prop} {Q : Exit → Act → World → Prop} {F : Prop} (hgd : o.guard = none) (s x : Operand)
    (ho : o.op = .call { callee := .builtin .append, args := #[s, x], argTypes := #[27, 27] })
    (B : Nat) (v : Value) (xs : List Int) (y : Int) (w : World) (g : Nat) (hs : a.eval s = v) (hown : OI w B v xs) (hx : a.eval x = .slice (some ⟨g, 0, none⟩) 1 1) (hg : w.heap[g]? = some (.cells #[.int .i64 y] 2 (0, 0))) (hb : B ≤ w.heap.size) (hlen : xs.length ≤ 1048576)
    (h : ∀ g cap w', OI w' B (.slice (some ⟨g, 0, none⟩) (xs.length + 1) cap) (xs ++ [y]) → w.grownBy w' v.ownBlock → (v.ownBlock = some g ∨ g = w.heap.size) → K (a.put o.dst (.slice (some ⟨g, 0, none⟩) (xs.length + 1) cap)) w') :
    if Region.wanted o (yielded ops a.tmps) = true then Oper.wp Tryz.prog o a w K Q else F := by
  obtain ⟨i0, hi, hz0, hz1, hz2⟩ := info_parts info_int
  refine step_append_lies (P := Tryz.prog) w hgd s x 27 ho B 2 i0 (.int .i64 0) 1 8 Tryz.underlying27 hi hz0 hz1 hz2 rfl (by decide) v xs.length (xs.map iv) hs hown ⟨g, 0, none⟩ 1 1 [.int .i64 y] hx rfl (World.news_of_block hg) (by simp [Value.oneCell']) (by omega) (by rw [maxLen_is]; omega) (by omega) hb w.heap.size rfl ?_
  intro g cap w' hown' hgr hat _
  refine h g cap w' ?_ hgr hat
  unfold OI
  rw [List.map_append, List.length_append]
  exact hown'

/-- What the body has done. -/
def VSt.bst (s : VSt) : BSt := ⟨s.σ, s.em⟩
def VSt.put (s : VSt) (b : BSt) : VSt := { s with σ := b.σ, em := b.em }

set_option maxRecDepth 10000 in
set_option maxHeartbeats 2000000 in
theorem do_1_any (f : FunD) (wa w : World) (bl : Value) (R V G : Nat) (s : VSt) (st val : Int) (vis : Nat) (ev : Value) (i : InsD) (h : RW f wa w bl R V G s st val vis ev) (hVR : V < R) (hi : InsP s.σ.length i) (ho : i.op = 1) :
    Calls Tryz.prog 65 #[.pointer (some ⟨R, 0, none⟩), .agg #[.int .i64 1, .int .i64 i.v, .int .i64 i.a, .int .i64 i.b]] w (GivesRun f wa bl R V G (s.put (insS i s.bst)) st val vis ev w) := by
  obtain ⟨v0, v1⟩ := insP_v hi (by omega)
  obtain ⟨y, hy⟩ : ∃ y : Nat, i.v = y := ⟨i.v.toNat, by omega⟩
  have yl : y < s.σ.length := by omega
  have yl' : (y : Int) < (s.σ.length : Int) := by omega
  have yp : 0 ≤ (y : Int) := by omega
  have HINS : Hid (s.put (insS i s.bst) = { s with σ := pN s.σ y i.a }) := by unfold insS; rw [if_pos ho, hy]; rfl
  rw [hy]
  generalize i.a = x at HINS ⊢
  clear hi ho hy v0 v1
  go_enter Tryz.func65, Tryz.ntmps65
  go_upto_region 4 with fail
  have hB1 : Below w.heap.size w (w.alloc (.cells #[.int .i64 1, .int .i64 y, .int .i64 x, .int .i64 i.b] 84)) := (Below.refl _ _).alloc (Nat.le_refl _) _
  have k0 : (w.alloc (.cells #[.int .i64 1, .int .i64 y, .int .i64 x, .int .i64 i.b] 84)).cell? ⟨w.heap.size, 0, none⟩ = some (.int .i64 1) := by go_simp
  have k1 : (w.alloc (.cells #[.int .i64 1, .int .i64 y, .int .i64 x, .int .i64 i.b] 84)).cell? ⟨w.heap.size, 1, none⟩ = some (.int .i64 y) := by go_simp
  have k2 : (w.alloc (.cells #[.int .i64 1, .int .i64 y, .int .i64 x, .int .i64 i.b] 84)).cell? ⟨w.heap.size, 2, none⟩ = some (.int .i64 x) := by go_simp
  have k3 : (w.alloc (.cells #[.int .i64 1, .int .i64 y, .int .i64 x, .int .i64 i.b] 84)).cell? ⟨w.heap.size, 3, none⟩ = some (.int .i64 i.b) := by go_simp
  have hs1 : (w.alloc (.cells #[.int .i64 1, .int .i64 y, .int .i64 x, .int .i64 i.b] 84)).heap.size = w.heap.size + 1 := by simp
  have hbq : Beside R V ev (w.alloc (.cells #[.int .i64 1, .int .i64 y, .int .i64 x, .int .i64 i.b] 84)) w.heap.size := h.beside_new (Nat.le_refl _) (by simp)
  obtain ⟨q, hq⟩ : ∃ q, q = w.heap.size := ⟨_, rfl⟩
  rw [← hq] at k0 k1 k2 k3 hs1 hbq ⊢
  generalize (w.alloc (.cells #[.int .i64 1, .int .i64 y, .int .i64 x, .int .i64 i.b] 84)) = w1 at *
  have HW1 := Lib.hid (h.below hB1)
  have HF1 : Hid (RF R V ev ev w w1) := RF.below hB1
  have HBQ := Lib.hid hbq
  have r2 : w1.cell? ⟨R, 2, none⟩ = some (.slice (some ⟨V, 0, none⟩) s.σ.length s.σ.length) := HW1.out.cell rfl
  have hNl : s.σ.length ≤ 9223372036854775807 := HW1.out.vals.ri.1
  clear h hB1 hbq hs1 hq
  have vc : w1.cell? ⟨V, y, none⟩ = some (.int .i64 (gN s.σ y)) := HW1.out.vcell rfl yl
  have vf := HW1.out.vfrozen y
  have Kd : (fun w' => w'.cell? ⟨R, 2, none⟩ = some (.slice (some ⟨V, 0, none⟩) s.σ.length s.σ.length) ∧ w'.cell? ⟨q, 1, none⟩ = some (.int .i64 y) ∧ w'.cell? ⟨q, 2, none⟩ = some (.int .i64 x)) w1.drew := ⟨r2, k1, k2⟩
  refine wp_region_offL (S := ((fun w' => w'.cell? ⟨R, 2, none⟩ = some (.slice (some ⟨V, 0, none⟩) s.σ.length s.σ.length) ∧ w'.cell? ⟨q, 1, none⟩ = some (.int .i64 y) ∧ w'.cell? ⟨q, 2, none⟩ = some (.int .i64 x)))) (by simp) (by kernel_rfl) (by kernel_rfl) (by kernel_rfl) (by kernel_rfl) (by kernel_rfl) ?_ (fun hHeld => ?_)
  · (try dsimp only)
    (first | exact Kd | fail)
  simp only [List.dropLast_cons_cons, List.dropLast_singleton, List.length_cons, List.length_nil]
  refine wpAnyH_take (i := 0) (v := ?_) rfl (by kernel_rfl) (by kernel_rfl) (by kernel_rfl) (fun _ _ _ h => h) (Or.inl ⟨by rfl, ?_⟩) (by assumption) ?_
  rotate_left
  · intro w hSw
    simp only [List.getElem_toArray, List.getElem_cons_zero]
    (try dsimp only at hSw)
    go_simp
    first | done | (with_reducible rfl)
  simp only [List.getElem_toArray, List.getElem_cons_zero, Act.put, List.setIfInBounds_toArray, List.set_cons_zero, List.set_cons_succ]
  refine wpAnyH_take (i := 1) (v := ?_) rfl (by kernel_rfl) (by kernel_rfl) (by kernel_rfl) (fun _ _ _ h => h) (Or.inl ⟨by rfl, ?_⟩) (by assumption) ?_
  rotate_left
  · intro w hSw
    simp only [List.getElem_toArray, List.getElem_cons_succ, List.getElem_cons_zero]
    (try dsimp only at hSw)
    go_simp
    first | done | (with_reducible rfl)
  simp only [List.getElem_toArray, List.getElem_cons_succ, List.getElem_cons_zero, Act.put, List.setIfInBounds_toArray, List.set_cons_zero, List.set_cons_succ]
  refine wpAnyH_take (i := 2) (v := ?_) rfl (by kernel_rfl) (by kernel_rfl) (by kernel_rfl) (fun _ _ _ h => h) (Or.inl ⟨by rfl, ?_⟩) (by assumption) ?_
  rotate_left
  · intro w hSw
    simp only [List.getElem_toArray, List.getElem_cons_succ, List.getElem_cons_zero]
    (try dsimp only at hSw)
    go_simp
    first | done | (with_reducible rfl)
  simp only [List.getElem_toArray, List.getElem_cons_succ, List.getElem_cons_zero, Act.put, List.setIfInBounds_toArray, List.set_cons_zero, List.set_cons_succ]
  refine wpAnyH_take (i := 3) (v := ?_) rfl (by kernel_rfl) (by kernel_rfl) (by kernel_rfl) (fun _ _ _ h => h) (Or.inl ⟨by rfl, ?_⟩) (by assumption) ?_
  rotate_left
  · intro w hSw
    simp only [List.getElem_toArray, List.getElem_cons_succ, List.getElem_cons_zero]
    (try dsimp only at hSw)
    go_simp
    first | done | (with_reducible rfl)
  simp only [List.getElem_toArray, List.getElem_cons_succ, List.getElem_cons_zero, Act.put, List.setIfInBounds_toArray, List.set_cons_zero, List.set_cons_succ]
  refine wpAnyH_take (i := 4) (v := ?_) rfl (by kernel_rfl) (by kernel_rfl) (by kernel_rfl) (fun _ _ _ h => h) (Or.inl ⟨by rfl, ?_⟩) (by assumption) ?_
  rotate_left
  · intro w hSw
    simp only [List.getElem_toArray, List.getElem_cons_succ, List.getElem_cons_zero]
    (try dsimp only at hSw)
    go_simp
    first | done | (with_reducible rfl)
  simp only [List.getElem_toArray, List.getElem_cons_succ, List.getElem_cons_zero, Act.put, List.setIfInBounds_toArray, List.set_cons_zero, List.set_cons_succ]
  refine wpAnyH_take (i := 5) (v := ?_) rfl (by kernel_rfl) (by kernel_rfl) (by kernel_rfl) (fun _ _ _ h => h) (Or.inl ⟨by rfl, ?_⟩) (by assumption) ?_
  rotate_left
  · intro w hSw
    simp only [List.getElem_toArray, List.getElem_cons_succ, List.getElem_cons_zero]
    (try dsimp only at hSw)
    go_simp
    first | done | (with_reducible rfl)
  simp only [List.getElem_toArray, List.getElem_cons_succ, List.getElem_cons_zero, Act.put, List.setIfInBounds_toArray, List.set_cons_zero, List.set_cons_succ]
  refine wpAnyH_take (i := 6) (v := ?_) rfl (by kernel_rfl) (by kernel_rfl) (by kernel_rfl) (fun _ _ _ h => h) (Or.inl ⟨by rfl, ?_⟩) (by assumption) ?_
  rotate_left
  · intro w hSw
    simp only [List.getElem_toArray, List.getElem_cons_succ, List.getElem_cons_zero]
    (try dsimp only at hSw)
    go_simp
    first | done | (with_reducible rfl)
  simp only [List.getElem_toArray, List.getElem_cons_succ, List.getElem_cons_zero, Act.put, List.setIfInBounds_toArray, List.set_cons_zero, List.set_cons_succ]
  refine wpAnyH_take (i := 7) (v := ?_) rfl (by kernel_rfl) (by kernel_rfl) (by kernel_rfl) (fun _ _ _ h => h) (Or.inl ⟨by rfl, ?_⟩) (by assumption) ?_
  rotate_left
  · intro w hSw
    simp only [List.getElem_toArray, List.getElem_cons_succ, List.getElem_cons_zero]
    (try dsimp only at hSw)
    go_simp
    first | done | (with_reducible rfl)
  simp only [List.getElem_toArray, List.getElem_cons_succ, List.getElem_cons_zero, Act.put, List.setIfInBounds_toArray, List.set_cons_zero, List.set_cons_succ]
  refine wpAnyH_take (i := 8) (v := ?_) rfl (by kernel_rfl) (by kernel_rfl) (by kernel_rfl) (fun _ _ _ h => h) (Or.inl ⟨by rfl, ?_⟩) (by assumption) ?_
  rotate_left
  · intro w hSw
    simp only [List.getElem_toArray, List.getElem_cons_succ, List.getElem_cons_zero]
    (try dsimp only at hSw)
    go_simp
    first | done | (with_reducible rfl)
  simp only [List.getElem_toArray, List.getElem_cons_succ, List.getElem_cons_zero, Act.put, List.setIfInBounds_toArray, List.set_cons_zero, List.set_cons_succ]
  refine wpAnyH_done (by kernel_rfl) ?_ _
  refine offQ_last rfl (fun KL hKL => ?_)
  go_simp
  refine hKL.out _ _ ?_
  (try rw [show w1.drew.setCell ⟨V, y, none⟩ (.int .i64 x) = (w1.setCell ⟨V, y, none⟩ (.int .i64 x)).drew from rfl])
  have HW3 : Hid (RW f wa (w1.setCell ⟨V, y, none⟩ (.int .i64 x)).drew bl R V G (s.put (insS i s.bst)) st val vis ev) := by
    rw [HINS.out]
    exact (HW1.out.below (Below.refl _ _).drew).setV hVR (x := (y : Int)) rfl x
  have HF3 : Hid (RF R V ev ev w (w1.setCell ⟨V, y, none⟩ (.int .i64 x)).drew) := HF1.out.trans ((RF.below (Below.refl _ _).drew).trans (RF.setV _ y _))
  generalize (w1.setCell ⟨V, y, none⟩ (.int .i64 x)).drew = w3 at *
  clear Kd r2 k0 k1 k2 k3 vc vf
  go_wp2_with fail
  exact bodyPost_end (results_none Tryz.results65 _ _ _) rfl ⟨_, _, rfl, HW3.out, HF3.out⟩

set_option maxRecDepth 10000 in
set_option maxHeartbeats 2000000 in
theorem do_2_any (f : FunD) (wa w : World) (bl : Value) (R V G : Nat) (s : VSt) (st val : Int) (vis : Nat) (ev : Value) (i : InsD) (h : RW f wa w bl R V G s st val vis ev) (hVR : V < R) (hi : InsP s.σ.length i) (ho : i.op = 2) :
    Calls Tryz.prog 65 #[.pointer (some ⟨R, 0, none⟩), .agg #[.int .i64 2, .int .i64 i.v, .int .i64 i.a, .int .i64 i.b]] w (GivesRun f wa bl R V G (s.put (insS i s.bst)) st val vis ev w) := by
  obtain ⟨v0, v1⟩ := insP_v hi (by omega)
  obtain ⟨y, hy⟩ : ∃ y : Nat, i.v = y := ⟨i.v.toNat, by omega⟩
  have yl : y < s.σ.length := by omega
  have yl' : (y : Int) < (s.σ.length : Int) := by omega
  have yp : 0 ≤ (y : Int) := by omega
  obtain ⟨a0, a1⟩ := insP_a hi (by omega)
  obtain ⟨a, ha⟩ : ∃ a : Nat, i.a = a := ⟨i.a.toNat, by omega⟩
  have al : a < s.σ.length := by omega
  have al' : (a : Int) < (s.σ.length : Int) := by omega
  have ap : 0 ≤ (a : Int) := by omega
  have HINS : Hid (s.put (insS i s.bst) = { s with σ := pN s.σ y (gN s.σ a) }) := by unfold insS; rw [if_neg (by omega), if_pos ho, hy, ha]; rfl
  rw [hy, ha]
  clear hi ho hy ha v0 v1 a0 a1
  go_enter Tryz.func65, Tryz.ntmps65
  go_upto_region 6 with fail
  have hB1 : Below w.heap.size w (w.alloc (.cells #[.int .i64 2, .int .i64 y, .int .i64 a, .int .i64 i.b] 84)) := (Below.refl _ _).alloc (Nat.le_refl _) _
  have k0 : (w.alloc (.cells #[.int .i64 2, .int .i64 y, .int .i64 a, .int .i64 i.b] 84)).cell? ⟨w.heap.size, 0, none⟩ = some (.int .i64 2) := by go_simp
  have k1 : (w.alloc (.cells #[.int .i64 2, .int .i64 y, .int .i64 a, .int .i64 i.b] 84)).cell? ⟨w.heap.size, 1, none⟩ = some (.int .i64 y) := by go_simp
  have k2 : (w.alloc (.cells #[.int .i64 2, .int .i64 y, .int .i64 a, .int .i64 i.b] 84)).cell? ⟨w.heap.size, 2, none⟩ = some (.int .i64 a) := by go_simp
  have k3 : (w.alloc (.cells #[.int .i64 2, .int .i64 y, .int .i64 a, .int .i64 i.b] 84)).cell? ⟨w.heap.size, 3, none⟩ = some (.int .i64 i.b) := by go_simp
  have hs1 : (w.alloc (.cells #[.int .i64 2, .int .i64 y, .int .i64 a, .int .i64 i.b] 84)).heap.size = w.heap.size + 1 := by simp
  have hbq : Beside R V ev (w.alloc (.cells #[.int .i64 2, .int .i64 y, .int .i64 a, .int .i64 i.b] 84)) w.heap.size := h.beside_new (Nat.le_refl _) (by simp)
  obtain ⟨q, hq⟩ : ∃ q, q = w.heap.size := ⟨_, rfl⟩
  rw [← hq] at k0 k1 k2 k3 hs1 hbq ⊢
  generalize (w.alloc (.cells #[.int .i64 2, .int .i64 y, .int .i64 a, .int .i64 i.b] 84)) = w1 at *
  have HW1 := Lib.hid (h.below hB1)
  have HF1 : Hid (RF R V ev ev w w1) := RF.below hB1
  have HBQ := Lib.hid hbq
  have r2 : w1.cell? ⟨R, 2, none⟩ = some (.slice (some ⟨V, 0, none⟩) s.σ.length s.σ.length) := HW1.out.cell rfl
  have hNl : s.σ.length ≤ 9223372036854775807 := HW1.out.vals.ri.1
  clear h hB1 hbq hs1 hq
  have vc : w1.cell? ⟨V, y, none⟩ = some (.int .i64 (gN s.σ y)) := HW1.out.vcell rfl yl
  have vf := HW1.out.vfrozen y
  have va : w1.cell? ⟨V, a, none⟩ = some (.int .i64 (gN s.σ a)) := HW1.out.vcell rfl al
  generalize gN s.σ a = x at va HINS
  have Kd : (fun w' => w'.cell? ⟨R, 2, none⟩ = some (.slice (some ⟨V, 0, none⟩) s.σ.length s.σ.length) ∧ w'.cell? ⟨q, 1, none⟩ = some (.int .i64 y) ∧ w'.cell? ⟨q, 2, none⟩ = some (.int .i64 a) ∧ w'.cell? ⟨V, a, none⟩ = some (.int .i64 x)) w1.drew := ⟨r2, k1, k2, va⟩
  clear va
  refine wp_region_offL (S := ((fun w' => w'.cell? ⟨R, 2, none⟩ = some (.slice (some ⟨V, 0, none⟩) s.σ.length s.σ.length) ∧ w'.cell? ⟨q, 1, none⟩ = some (.int .i64 y) ∧ w'.cell? ⟨q, 2, none⟩ = some (.int .i64 a) ∧ w'.cell? ⟨V, a, none⟩ = some (.int .i64 x)))) (by simp) (by kernel_rfl) (by kernel_rfl) (by kernel_rfl) (by kernel_rfl) (by kernel_rfl) ?_ (fun hHeld => ?_)
  · (try dsimp only)
    (first | exact Kd | fail)
  simp only [List.dropLast_cons_cons, List.dropLast_singleton, List.length_cons, List.length_nil]
  refine wpAnyH_take (i := 0) (v := ?_) rfl (by kernel_rfl) (by kernel_rfl) (by kernel_rfl) (fun _ _ _ h => h) (Or.inl ⟨by rfl, ?_⟩) (by assumption) ?_
  rotate_left
  · intro w hSw
    simp only [List.getElem_toArray, List.getElem_cons_zero]
    (try dsimp only at hSw)
    go_simp
    first | done | (with_reducible rfl)
  simp only [List.getElem_toArray, List.getElem_cons_zero, Act.put, List.setIfInBounds_toArray, List.set_cons_zero, List.set_cons_succ]
  refine wpAnyH_take (i := 1) (v := ?_) rfl (by kernel_rfl) (by kernel_rfl) (by kernel_rfl) (fun _ _ _ h => h) (Or.inl ⟨by rfl, ?_⟩) (by assumption) ?_
  rotate_left
  · intro w hSw
    simp only [List.getElem_toArray, List.getElem_cons_succ, List.getElem_cons_zero]
    (try dsimp only at hSw)
    go_simp
    first | done | (with_reducible rfl)
  simp only [List.getElem_toArray, List.getElem_cons_succ, List.getElem_cons_zero, Act.put, List.setIfInBounds_toArray, List.set_cons_zero, List.set_cons_succ]
  refine wpAnyH_take (i := 2) (v := ?_) rfl (by kernel_rfl) (by kernel_rfl) (by kernel_rfl) (fun _ _ _ h => h) (Or.inl ⟨by rfl, ?_⟩) (by assumption) ?_
  rotate_left
  · intro w hSw
    simp only [List.getElem_toArray, List.getElem_cons_succ, List.getElem_cons_zero]
    (try dsimp only at hSw)
    go_simp
    first | done | (with_reducible rfl)
  simp only [List.getElem_toArray, List.getElem_cons_succ, List.getElem_cons_zero, Act.put, List.setIfInBounds_toArray, List.set_cons_zero, List.set_cons_succ]
  refine wpAnyH_take (i := 3) (v := ?_) rfl (by kernel_rfl) (by kernel_rfl) (by kernel_rfl) (fun _ _ _ h => h) (Or.inl ⟨by rfl, ?_⟩) (by assumption) ?_
  rotate_left
  · intro w hSw
    simp only [List.getElem_toArray, List.getElem_cons_succ, List.getElem_cons_zero]
    (try dsimp only at hSw)
    go_simp
    first | done | (with_reducible rfl)
  simp only [List.getElem_toArray, List.getElem_cons_succ, List.getElem_cons_zero, Act.put, List.setIfInBounds_toArray, List.set_cons_zero, List.set_cons_succ]
  refine wpAnyH_take (i := 4) (v := ?_) rfl (by kernel_rfl) (by kernel_rfl) (by kernel_rfl) (fun _ _ _ h => h) (Or.inl ⟨by rfl, ?_⟩) (by assumption) ?_
  rotate_left
  · intro w hSw
    simp only [List.getElem_toArray, List.getElem_cons_succ, List.getElem_cons_zero]
    (try dsimp only at hSw)
    go_simp
    first | done | (with_reducible rfl)
  simp only [List.getElem_toArray, List.getElem_cons_succ, List.getElem_cons_zero, Act.put, List.setIfInBounds_toArray, List.set_cons_zero, List.set_cons_succ]
  refine wpAnyH_take (i := 5) (v := ?_) rfl (by kernel_rfl) (by kernel_rfl) (by kernel_rfl) (fun _ _ _ h => h) (Or.inl ⟨by rfl, ?_⟩) (by assumption) ?_
  rotate_left
  · intro w hSw
    simp only [List.getElem_toArray, List.getElem_cons_succ, List.getElem_cons_zero]
    (try dsimp only at hSw)
    go_simp
    first | done | (with_reducible rfl)
  simp only [List.getElem_toArray, List.getElem_cons_succ, List.getElem_cons_zero, Act.put, List.setIfInBounds_toArray, List.set_cons_zero, List.set_cons_succ]
  refine wpAnyH_take (i := 6) (v := ?_) rfl (by kernel_rfl) (by kernel_rfl) (by kernel_rfl) (fun _ _ _ h => h) (Or.inl ⟨by rfl, ?_⟩) (by assumption) ?_
  rotate_left
  · intro w hSw
    simp only [List.getElem_toArray, List.getElem_cons_succ, List.getElem_cons_zero]
    (try dsimp only at hSw)
    go_simp
    first | done | (with_reducible rfl)
  simp only [List.getElem_toArray, List.getElem_cons_succ, List.getElem_cons_zero, Act.put, List.setIfInBounds_toArray, List.set_cons_zero, List.set_cons_succ]
  refine wpAnyH_take (i := 7) (v := ?_) rfl (by kernel_rfl) (by kernel_rfl) (by kernel_rfl) (fun _ _ _ h => h) (Or.inl ⟨by rfl, ?_⟩) (by assumption) ?_
  rotate_left
  · intro w hSw
    simp only [List.getElem_toArray, List.getElem_cons_succ, List.getElem_cons_zero]
    (try dsimp only at hSw)
    go_simp
    first | done | (with_reducible rfl)
  simp only [List.getElem_toArray, List.getElem_cons_succ, List.getElem_cons_zero, Act.put, List.setIfInBounds_toArray, List.set_cons_zero, List.set_cons_succ]
  refine wpAnyH_take (i := 8) (v := ?_) rfl (by kernel_rfl) (by kernel_rfl) (by kernel_rfl) (fun _ _ _ h => h) (Or.inl ⟨by rfl, ?_⟩) (by assumption) ?_
  rotate_left
  · intro w hSw
    simp only [List.getElem_toArray, List.getElem_cons_succ, List.getElem_cons_zero]
    (try dsimp only at hSw)
    go_simp
    first | done | (with_reducible rfl)
  simp only [List.getElem_toArray, List.getElem_cons_succ, List.getElem_cons_zero, Act.put, List.setIfInBounds_toArray, List.set_cons_zero, List.set_cons_succ]
  refine wpAnyH_take (i := 9) (v := ?_) rfl (by kernel_rfl) (by kernel_rfl) (by kernel_rfl) (fun _ _ _ h => h) (Or.inl ⟨by rfl, ?_⟩) (by assumption) ?_
  rotate_left
  · intro w hSw
    simp only [List.getElem_toArray, List.getElem_cons_succ, List.getElem_cons_zero]
    (try dsimp only at hSw)
    go_simp
    first | done | (with_reducible rfl)
  simp only [List.getElem_toArray, List.getElem_cons_succ, List.getElem_cons_zero, Act.put, List.setIfInBounds_toArray, List.set_cons_zero, List.set_cons_succ]
  refine wpAnyH_take (i := 10) (v := ?_) rfl (by kernel_rfl) (by kernel_rfl) (by kernel_rfl) (fun _ _ _ h => h) (Or.inl ⟨by rfl, ?_⟩) (by assumption) ?_
  rotate_left
  · intro w hSw
    simp only [List.getElem_toArray, List.getElem_cons_succ, List.getElem_cons_zero]
    (try dsimp only at hSw)
    go_simp
    first | done | (with_reducible rfl)
  simp only [List.getElem_toArray, List.getElem_cons_succ, List.getElem_cons_zero, Act.put, List.setIfInBounds_toArray, List.set_cons_zero, List.set_cons_succ]
  refine wpAnyH_take (i := 11) (v := ?_) rfl (by kernel_rfl) (by kernel_rfl) (by kernel_rfl) (fun _ _ _ h => h) (Or.inl ⟨by rfl, ?_⟩) (by assumption) ?_
  rotate_left
  · intro w hSw
    simp only [List.getElem_toArray, List.getElem_cons_succ, List.getElem_cons_zero]
    (try dsimp only at hSw)
    go_simp
    first | done | (with_reducible rfl)
  simp only [List.getElem_toArray, List.getElem_cons_succ, List.getElem_cons_zero, Act.put, List.setIfInBounds_toArray, List.set_cons_zero, List.set_cons_succ]
  refine wpAnyH_take (i := 12) (v := ?_) rfl (by kernel_rfl) (by kernel_rfl) (by kernel_rfl) (fun _ _ _ h => h) (Or.inl ⟨by rfl, ?_⟩) (by assumption) ?_
  rotate_left
  · intro w hSw
    simp only [List.getElem_toArray, List.getElem_cons_succ, List.getElem_cons_zero]
    (try dsimp only at hSw)
    go_simp
    first | done | (with_reducible rfl)
  simp only [List.getElem_toArray, List.getElem_cons_succ, List.getElem_cons_zero, Act.put, List.setIfInBounds_toArray, List.set_cons_zero, List.set_cons_succ]
  refine wpAnyH_take (i := 13) (v := ?_) rfl (by kernel_rfl) (by kernel_rfl) (by kernel_rfl) (fun _ _ _ h => h) (Or.inl ⟨by rfl, ?_⟩) (by assumption) ?_
  rotate_left
  · intro w hSw
    simp only [List.getElem_toArray, List.getElem_cons_succ, List.getElem_cons_zero]
    (try dsimp only at hSw)
    go_simp
    first | done | (with_reducible rfl)
  simp only [List.getElem_toArray, List.getElem_cons_succ, List.getElem_cons_zero, Act.put, List.setIfInBounds_toArray, List.set_cons_zero, List.set_cons_succ]
  refine wpAnyH_take (i := 14) (v := ?_) rfl (by kernel_rfl) (by kernel_rfl) (by kernel_rfl) (fun _ _ _ h => h) (Or.inl ⟨by rfl, ?_⟩) (by assumption) ?_
  rotate_left
  · intro w hSw
    simp only [List.getElem_toArray, List.getElem_cons_succ, List.getElem_cons_zero]
    (try dsimp only at hSw)
    go_simp
    first | done | (with_reducible rfl)
  simp only [List.getElem_toArray, List.getElem_cons_succ, List.getElem_cons_zero, Act.put, List.setIfInBounds_toArray, List.set_cons_zero, List.set_cons_succ]
  refine wpAnyH_done (by kernel_rfl) ?_ _
  refine offQ_last rfl (fun KL hKL => ?_)
  go_simp
  refine hKL.out _ _ ?_
  (try rw [show w1.drew.setCell ⟨V, y, none⟩ (.int .i64 x) = (w1.setCell ⟨V, y, none⟩ (.int .i64 x)).drew from rfl])
  have HW3 : Hid (RW f wa (w1.setCell ⟨V, y, none⟩ (.int .i64 x)).drew bl R V G (s.put (insS i s.bst)) st val vis ev) := by
    rw [HINS.out]
    exact (HW1.out.below (Below.refl _ _).drew).setV hVR (x := (y : Int)) rfl x
  have HF3 : Hid (RF R V ev ev w (w1.setCell ⟨V, y, none⟩ (.int .i64 x)).drew) := HF1.out.trans ((RF.below (Below.refl _ _).drew).trans (RF.setV _ y _))
  generalize (w1.setCell ⟨V, y, none⟩ (.int .i64 x)).drew = w3 at *
  clear Kd r2 k0 k1 k2 k3 vc vf
  go_wp2_with fail
  exact bodyPost_end (results_none Tryz.results65 _ _ _) rfl ⟨_, _, rfl, HW3.out, HF3.out⟩

set_option maxRecDepth 10000 in
set_option maxHeartbeats 2000000 in
theorem do_r_any (f : FunD) (wa w : World) (bl : Value) (R V G : Nat) (s : VSt) (st val : Int) (vis : Nat) (ev : Value) (i : InsD) (h : RW f wa w bl R V G s st val vis ev) (hVR : V < R) (hi : InsP s.σ.length i) (ho1 : i.op ≠ 1) (ho2 : i.op ≠ 2) (ho7 : i.op ≠ 7) :
    Calls Tryz.prog 65 #[.pointer (some ⟨R, 0, none⟩), .agg #[.int .i64 i.op, .int .i64 i.v, .int .i64 i.a, .int .i64 i.b]] w (GivesRun f wa bl R V G (s.put (insS i s.bst)) st val vis ev w) := by
  obtain ⟨v0, v1⟩ := insP_v hi ho7
  obtain ⟨y, hy⟩ : ∃ y : Nat, i.v = y := ⟨i.v.toNat, by omega⟩
  have yl : y < s.σ.length := by omega
  have yl' : (y : Int) < (s.σ.length : Int) := by omega
  have yp : 0 ≤ (y : Int) := by omega
  obtain ⟨a0, a1⟩ := insP_a hi ho1
  obtain ⟨a, ha⟩ : ∃ a : Nat, i.a = a := ⟨i.a.toNat, by omega⟩
  have al : a < s.σ.length := by omega
  have al' : (a : Int) < (s.σ.length : Int) := by omega
  have ap : 0 ≤ (a : Int) := by omega
  obtain ⟨b0, b1⟩ := insP_b hi ho1 ho2 ho7
  obtain ⟨b, hb⟩ : ∃ b : Nat, i.b = b := ⟨i.b.toNat, by omega⟩
  have bLl : b < s.σ.length := by omega
  have bl' : (b : Int) < (s.σ.length : Int) := by omega
  have bp : 0 ≤ (b : Int) := by omega
  have HINS : Hid (s.put (insS i s.bst) = { s with σ := pN s.σ y (reckB i.op (gN s.σ a) (gN s.σ b)) }) := by unfold insS; rw [if_neg ho1, if_neg ho2, if_neg ho7, hy, ha, hb]; rfl
  have d1 : (i.op == 1) = false := by simpa using ho1
  have d2 : (i.op == 2) = false := by simpa using ho2
  have d7 : (i.op == 7) = false := by simpa using ho7
  rw [hy, ha, hb]
  clear hi hy ha hb v0 v1 a0 a1 b0 b1
  go_enter Tryz.func65, Tryz.ntmps65
  go_upto_region 2 with fail
  have hB1 : Below w.heap.size w (w.alloc (.cells #[.int .i64 i.op, .int .i64 y, .int .i64 a, .int .i64 b] 84)) := (Below.refl _ _).alloc (Nat.le_refl _) _
  have k0 : (w.alloc (.cells #[.int .i64 i.op, .int .i64 y, .int .i64 a, .int .i64 b] 84)).cell? ⟨w.heap.size, 0, none⟩ = some (.int .i64 i.op) := by go_simp
  have k1 : (w.alloc (.cells #[.int .i64 i.op, .int .i64 y, .int .i64 a, .int .i64 b] 84)).cell? ⟨w.heap.size, 1, none⟩ = some (.int .i64 y) := by go_simp
  have k2 : (w.alloc (.cells #[.int .i64 i.op, .int .i64 y, .int .i64 a, .int .i64 b] 84)).cell? ⟨w.heap.size, 2, none⟩ = some (.int .i64 a) := by go_simp
  have k3 : (w.alloc (.cells #[.int .i64 i.op, .int .i64 y, .int .i64 a, .int .i64 b] 84)).cell? ⟨w.heap.size, 3, none⟩ = some (.int .i64 b) := by go_simp
  have hs1 : (w.alloc (.cells #[.int .i64 i.op, .int .i64 y, .int .i64 a, .int .i64 b] 84)).heap.size = w.heap.size + 1 := by simp
  have hbq : Beside R V ev (w.alloc (.cells #[.int .i64 i.op, .int .i64 y, .int .i64 a, .int .i64 b] 84)) w.heap.size := h.beside_new (Nat.le_refl _) (by simp)
  obtain ⟨q, hq⟩ : ∃ q, q = w.heap.size := ⟨_, rfl⟩
  rw [← hq] at k0 k1 k2 k3 hs1 hbq ⊢
  generalize (w.alloc (.cells #[.int .i64 i.op, .int .i64 y, .int .i64 a, .int .i64 b] 84)) = w1 at *
  have HW1 := Lib.hid (h.below hB1)
  have HF1 : Hid (RF R V ev ev w w1) := RF.below hB1
  have HBQ := Lib.hid hbq
  have r2 : w1.cell? ⟨R, 2, none⟩ = some (.slice (some ⟨V, 0, none⟩) s.σ.length s.σ.length) := HW1.out.cell rfl
  have hNl : s.σ.length ≤ 9223372036854775807 := HW1.out.vals.ri.1
  clear h hB1 hbq hs1 hq
  have vc : w1.cell? ⟨V, y, none⟩ = some (.int .i64 (gN s.σ y)) := HW1.out.vcell rfl yl
  have vf := HW1.out.vfrozen y
  have va : w1.cell? ⟨V, a, none⟩ = some (.int .i64 (gN s.σ a)) := HW1.out.vcell rfl al
  have vb : w1.cell? ⟨V, b, none⟩ = some (.int .i64 (gN s.σ b)) := HW1.out.vcell rfl bLl
  have hVl := HW1.out.ltV
  have hRl := HW1.out.ltR
  have hql := HBQ.out.2.2.2
  generalize gN s.σ a = xa at va HINS
  generalize gN s.σ b = xb at vb HINS
  clear ho1 ho2 ho7 d1 d2 d7
  have hKS : ∀ w', Below w1.heap.size w1 w' → (fun w' => w'.cell? ⟨R, 2, none⟩ = some (.slice (some ⟨V, 0, none⟩) s.σ.length s.σ.length) ∧ w'.cell? ⟨q, 0, none⟩ = some (.int .i64 i.op) ∧ w'.cell? ⟨q, 1, none⟩ = some (.int .i64 y) ∧ w'.cell? ⟨q, 2, none⟩ = some (.int .i64 a) ∧ w'.cell? ⟨q, 3, none⟩ = some (.int .i64 b) ∧ w'.cell? ⟨V, a, none⟩ = some (.int .i64 xa) ∧ w'.cell? ⟨V, b, none⟩ = some (.int .i64 xb)) w' := fun w' hb => ⟨(hb.cell (p := ⟨R, 2, none⟩) hRl).trans r2, (hb.cell (p := ⟨q, 0, none⟩) hql).trans k0, (hb.cell (p := ⟨q, 1, none⟩) hql).trans k1, (hb.cell (p := ⟨q, 2, none⟩) hql).trans k2, (hb.cell (p := ⟨q, 3, none⟩) hql).trans k3, (hb.cell (p := ⟨V, a, none⟩) hVl).trans va, (hb.cell (p := ⟨V, b, none⟩) hVl).trans vb⟩
  have HKS := Lib.hid hKS
  have Kd : (fun w' => w'.cell? ⟨R, 2, none⟩ = some (.slice (some ⟨V, 0, none⟩) s.σ.length s.σ.length) ∧ w'.cell? ⟨q, 0, none⟩ = some (.int .i64 i.op) ∧ w'.cell? ⟨q, 1, none⟩ = some (.int .i64 y) ∧ w'.cell? ⟨q, 2, none⟩ = some (.int .i64 a) ∧ w'.cell? ⟨q, 3, none⟩ = some (.int .i64 b) ∧ w'.cell? ⟨V, a, none⟩ = some (.int .i64 xa) ∧ w'.cell? ⟨V, b, none⟩ = some (.int .i64 xb)) w1.drew := hKS _ (Below.refl _ _).drew
  have HVC := Lib.hid vc
  have HVF := Lib.hid vf
  clear hKS va vb vc vf
  refine wp_region_offL (S := ((fun w' => w'.cell? ⟨R, 2, none⟩ = some (.slice (some ⟨V, 0, none⟩) s.σ.length s.σ.length) ∧ w'.cell? ⟨q, 0, none⟩ = some (.int .i64 i.op) ∧ w'.cell? ⟨q, 1, none⟩ = some (.int .i64 y) ∧ w'.cell? ⟨q, 2, none⟩ = some (.int .i64 a) ∧ w'.cell? ⟨q, 3, none⟩ = some (.int .i64 b) ∧ w'.cell? ⟨V, a, none⟩ = some (.int .i64 xa) ∧ w'.cell? ⟨V, b, none⟩ = some (.int .i64 xb)))) (by simp) (by kernel_rfl) (by kernel_rfl) (by kernel_rfl) (by kernel_rfl) (by kernel_rfl) ?_ (fun hHeld => ?_)
  · (try dsimp only)
    (first | exact Kd | exact HK7.out | fail)
  simp only [List.dropLast_cons_cons, List.dropLast_singleton, List.length_cons, List.length_nil]
  refine wpAnyH_take (i := 0) (v := ?_) rfl (by kernel_rfl) (by kernel_rfl) (by kernel_rfl) (fun _ _ _ h => h) (Or.inl ⟨by rfl, ?_⟩) (by assumption) ?_
  rotate_left
  · intro w hSw
    simp only [List.getElem_toArray, List.getElem_cons_zero]
    (try dsimp only at hSw)
    go_simp
    first | done | (with_reducible rfl)
  simp only [List.getElem_toArray, List.getElem_cons_zero, Act.put, List.setIfInBounds_toArray, List.set_cons_zero, List.set_cons_succ]
  refine wpAnyH_take (i := 1) (v := ?_) rfl (by kernel_rfl) (by kernel_rfl) (by kernel_rfl) (fun _ _ _ h => h) (Or.inl ⟨by rfl, ?_⟩) (by assumption) ?_
  rotate_left
  · intro w hSw
    simp only [List.getElem_toArray, List.getElem_cons_succ, List.getElem_cons_zero]
    (try dsimp only at hSw)
    go_simp
    first | done | (with_reducible rfl)
  simp only [List.getElem_toArray, List.getElem_cons_succ, List.getElem_cons_zero, Act.put, List.setIfInBounds_toArray, List.set_cons_zero, List.set_cons_succ]
  refine wpAnyH_take (i := 2) (v := ?_) rfl (by kernel_rfl) (by kernel_rfl) (by kernel_rfl) (fun _ _ _ h => h) (Or.inl ⟨by rfl, ?_⟩) (by assumption) ?_
  rotate_left
  · intro w hSw
    simp only [List.getElem_toArray, List.getElem_cons_succ, List.getElem_cons_zero]
    (try dsimp only at hSw)
    go_simp
    first | done | (with_reducible rfl)
  simp only [List.getElem_toArray, List.getElem_cons_succ, List.getElem_cons_zero, Act.put, List.setIfInBounds_toArray, List.set_cons_zero, List.set_cons_succ]
  refine wpAnyH_take (i := 3) (v := ?_) rfl (by kernel_rfl) (by kernel_rfl) (by kernel_rfl) (fun _ _ _ h => h) (Or.inl ⟨by rfl, ?_⟩) (by assumption) ?_
  rotate_left
  · intro w hSw
    simp only [List.getElem_toArray, List.getElem_cons_succ, List.getElem_cons_zero]
    (try dsimp only at hSw)
    go_simp
    first | done | (with_reducible rfl)
  simp only [List.getElem_toArray, List.getElem_cons_succ, List.getElem_cons_zero, Act.put, List.setIfInBounds_toArray, List.set_cons_zero, List.set_cons_succ]
  refine wpAnyH_take (i := 4) (v := ?_) rfl (by kernel_rfl) (by kernel_rfl) (by kernel_rfl) (fun _ _ _ h => h) (Or.inl ⟨by rfl, ?_⟩) (by assumption) ?_
  rotate_left
  · intro w hSw
    simp only [List.getElem_toArray, List.getElem_cons_succ, List.getElem_cons_zero]
    (try dsimp only at hSw)
    go_simp
    first | done | (with_reducible rfl)
  simp only [List.getElem_toArray, List.getElem_cons_succ, List.getElem_cons_zero, Act.put, List.setIfInBounds_toArray, List.set_cons_zero, List.set_cons_succ]
  refine wpAnyH_take (i := 5) (v := ?_) rfl (by kernel_rfl) (by kernel_rfl) (by kernel_rfl) (fun _ _ _ h => h) (Or.inl ⟨by rfl, ?_⟩) (by assumption) ?_
  rotate_left
  · intro w hSw
    simp only [List.getElem_toArray, List.getElem_cons_succ, List.getElem_cons_zero]
    (try dsimp only at hSw)
    go_simp
    first | done | (with_reducible rfl)
  simp only [List.getElem_toArray, List.getElem_cons_succ, List.getElem_cons_zero, Act.put, List.setIfInBounds_toArray, List.set_cons_zero, List.set_cons_succ]
  refine wpAnyH_take (i := 6) (v := ?_) rfl (by kernel_rfl) (by kernel_rfl) (by kernel_rfl) (fun _ _ _ h => h) (Or.inl ⟨by rfl, ?_⟩) (by assumption) ?_
  rotate_left
  · intro w hSw
    simp only [List.getElem_toArray, List.getElem_cons_succ, List.getElem_cons_zero]
    (try dsimp only at hSw)
    go_simp
    first | done | (with_reducible rfl)
  simp only [List.getElem_toArray, List.getElem_cons_succ, List.getElem_cons_zero, Act.put, List.setIfInBounds_toArray, List.set_cons_zero, List.set_cons_succ]
  refine wpAnyH_take (i := 7) (v := ?_) rfl (by kernel_rfl) (by kernel_rfl) (by kernel_rfl) (fun _ _ _ h => h) (Or.inl ⟨by rfl, ?_⟩) (by assumption) ?_
  rotate_left
  · intro w hSw
    simp only [List.getElem_toArray, List.getElem_cons_succ, List.getElem_cons_zero]
    (try dsimp only at hSw)
    go_simp
    first | done | (with_reducible rfl)
  simp only [List.getElem_toArray, List.getElem_cons_succ, List.getElem_cons_zero, Act.put, List.setIfInBounds_toArray, List.set_cons_zero, List.set_cons_succ]
  refine wpAnyH_take (i := 8) (v := ?_) rfl (by kernel_rfl) (by kernel_rfl) (by kernel_rfl) (fun _ _ _ h => h) (Or.inl ⟨by rfl, ?_⟩) (by assumption) ?_
  rotate_left
  · intro w hSw
    simp only [List.getElem_toArray, List.getElem_cons_succ, List.getElem_cons_zero]
    (try dsimp only at hSw)
    go_simp
    first | done | (with_reducible rfl)
  simp only [List.getElem_toArray, List.getElem_cons_succ, List.getElem_cons_zero, Act.put, List.setIfInBounds_toArray, List.set_cons_zero, List.set_cons_succ]
  refine wpAnyH_take (i := 9) (v := ?_) rfl (by kernel_rfl) (by kernel_rfl) (by kernel_rfl) (fun _ _ _ h => h) (Or.inl ⟨by rfl, ?_⟩) (by assumption) ?_
  rotate_left
  · intro w hSw
    simp only [List.getElem_toArray, List.getElem_cons_succ, List.getElem_cons_zero]
    (try dsimp only at hSw)
    go_simp
    first | done | (with_reducible rfl)
  simp only [List.getElem_toArray, List.getElem_cons_succ, List.getElem_cons_zero, Act.put, List.setIfInBounds_toArray, List.set_cons_zero, List.set_cons_succ]
  refine wpAnyH_take (i := 10) (v := ?_) rfl (by kernel_rfl) (by kernel_rfl) (by kernel_rfl) (fun _ _ _ h => h) (Or.inl ⟨by rfl, ?_⟩) (by assumption) ?_
  rotate_left
  · intro w hSw
    simp only [List.getElem_toArray, List.getElem_cons_succ, List.getElem_cons_zero]
    (try dsimp only at hSw)
    go_simp
    first | done | (with_reducible rfl)
  simp only [List.getElem_toArray, List.getElem_cons_succ, List.getElem_cons_zero, Act.put, List.setIfInBounds_toArray, List.set_cons_zero, List.set_cons_succ]
  refine wpAnyH_take (i := 11) (v := ?_) rfl (by kernel_rfl) (by kernel_rfl) (by kernel_rfl) (fun _ _ _ h => h) (Or.inl ⟨by rfl, ?_⟩) (by assumption) ?_
  rotate_left
  · intro w hSw
    simp only [List.getElem_toArray, List.getElem_cons_succ, List.getElem_cons_zero]
    (try dsimp only at hSw)
    go_simp
    first | done | (with_reducible rfl)
  simp only [List.getElem_toArray, List.getElem_cons_succ, List.getElem_cons_zero, Act.put, List.setIfInBounds_toArray, List.set_cons_zero, List.set_cons_succ]
  refine wpAnyH_take (i := 12) (v := ?_) rfl (by kernel_rfl) (by kernel_rfl) (by kernel_rfl) (fun _ _ _ h => h) (Or.inl ⟨by rfl, ?_⟩) (by assumption) ?_
  rotate_left
  · intro w hSw
    simp only [List.getElem_toArray, List.getElem_cons_succ, List.getElem_cons_zero]
    (try dsimp only at hSw)
    go_simp
    first | done | (with_reducible rfl)
  simp only [List.getElem_toArray, List.getElem_cons_succ, List.getElem_cons_zero, Act.put, List.setIfInBounds_toArray, List.set_cons_zero, List.set_cons_succ]
  refine wpAnyH_take (i := 13) (v := ?_) rfl (by kernel_rfl) (by kernel_rfl) (by kernel_rfl) (fun _ _ _ h => h) (Or.inl ⟨by rfl, ?_⟩) (by assumption) ?_
  rotate_left
  · intro w hSw
    simp only [List.getElem_toArray, List.getElem_cons_succ, List.getElem_cons_zero]
    (try dsimp only at hSw)
    go_simp
    first | done | (with_reducible rfl)
  simp only [List.getElem_toArray, List.getElem_cons_succ, List.getElem_cons_zero, Act.put, List.setIfInBounds_toArray, List.set_cons_zero, List.set_cons_succ]
  refine wpAnyH_take (i := 14) (v := ?_) rfl (by kernel_rfl) (by kernel_rfl) (by kernel_rfl) (fun _ _ _ h => h) (Or.inl ⟨by rfl, ?_⟩) (by assumption) ?_
  rotate_left
  · intro w hSw
    simp only [List.getElem_toArray, List.getElem_cons_succ, List.getElem_cons_zero]
    (try dsimp only at hSw)
    go_simp
    first | done | (with_reducible rfl)
  simp only [List.getElem_toArray, List.getElem_cons_succ, List.getElem_cons_zero, Act.put, List.setIfInBounds_toArray, List.set_cons_zero, List.set_cons_succ]
  refine wpAnyH_take (i := 15) (v := ?_) rfl (by kernel_rfl) (by kernel_rfl) (by kernel_rfl) (fun _ _ _ h => h) (Or.inl ⟨by rfl, ?_⟩) (by assumption) ?_
  rotate_left
  · intro w hSw
    simp only [List.getElem_toArray, List.getElem_cons_succ, List.getElem_cons_zero]
    (try dsimp only at hSw)
    go_simp
    first | done | (with_reducible rfl)
  simp only [List.getElem_toArray, List.getElem_cons_succ, List.getElem_cons_zero, Act.put, List.setIfInBounds_toArray, List.set_cons_zero, List.set_cons_succ]
  refine wpAnyH_take (i := 16) (v := ?_) rfl (by kernel_rfl) (by kernel_rfl) (by kernel_rfl) (fun _ _ _ h => h) (Or.inl ⟨by rfl, ?_⟩) (by assumption) ?_
  rotate_left
  · intro w hSw
    simp only [List.getElem_toArray, List.getElem_cons_succ, List.getElem_cons_zero]
    (try dsimp only at hSw)
    go_simp
    first | done | (with_reducible rfl)
  simp only [List.getElem_toArray, List.getElem_cons_succ, List.getElem_cons_zero, Act.put, List.setIfInBounds_toArray, List.set_cons_zero, List.set_cons_succ]
  refine wpAnyH_take (i := 17) (v := ?_) rfl (by kernel_rfl) (by kernel_rfl) (by kernel_rfl) (fun _ _ _ h => h) (Or.inl ⟨by rfl, ?_⟩) (by assumption) ?_
  rotate_left
  · intro w hSw
    simp only [List.getElem_toArray, List.getElem_cons_succ, List.getElem_cons_zero]
    (try dsimp only at hSw)
    go_simp
    first | done | (with_reducible rfl)
  simp only [List.getElem_toArray, List.getElem_cons_succ, List.getElem_cons_zero, Act.put, List.setIfInBounds_toArray, List.set_cons_zero, List.set_cons_succ]
  refine wpAnyH_take (i := 18) (v := ?_) rfl (by kernel_rfl) (by kernel_rfl) (by kernel_rfl) (fun _ _ _ h => h) (Or.inl ⟨by rfl, ?_⟩) (by assumption) ?_
  rotate_left
  · intro w hSw
    simp only [List.getElem_toArray, List.getElem_cons_succ, List.getElem_cons_zero]
    (try dsimp only at hSw)
    go_simp
    first | done | (with_reducible rfl)
  simp only [List.getElem_toArray, List.getElem_cons_succ, List.getElem_cons_zero, Act.put, List.setIfInBounds_toArray, List.set_cons_zero, List.set_cons_succ]
  refine wpAnyH_take (i := 19) (v := ?_) rfl (by kernel_rfl) (by kernel_rfl) (by kernel_rfl) (fun _ _ _ h => h) (Or.inl ⟨by rfl, ?_⟩) (by assumption) ?_
  rotate_left
  · intro w hSw
    simp only [List.getElem_toArray, List.getElem_cons_succ, List.getElem_cons_zero]
    (try dsimp only at hSw)
    go_simp
    first | done | (with_reducible rfl)
  simp only [List.getElem_toArray, List.getElem_cons_succ, List.getElem_cons_zero, Act.put, List.setIfInBounds_toArray, List.set_cons_zero, List.set_cons_succ]
  refine wpAnyH_take (i := 20) (v := ?_) rfl (by kernel_rfl) (by kernel_rfl) (by kernel_rfl) (fun _ _ _ h => h) (Or.inl ⟨by rfl, ?_⟩) (by assumption) ?_
  rotate_left
  · intro w hSw
    simp only [List.getElem_toArray, List.getElem_cons_succ, List.getElem_cons_zero]
    (try dsimp only at hSw)
    go_simp
    first | done | (with_reducible rfl)
  simp only [List.getElem_toArray, List.getElem_cons_succ, List.getElem_cons_zero, Act.put, List.setIfInBounds_toArray, List.set_cons_zero, List.set_cons_succ]
  refine wpAnyH_take (i := 21) (v := ?_) rfl (by kernel_rfl) (by kernel_rfl) (by kernel_rfl) (fun _ _ _ h => h) (Or.inl ⟨by rfl, ?_⟩) (by assumption) ?_
  rotate_left
  · intro w hSw
    simp only [List.getElem_toArray, List.getElem_cons_succ, List.getElem_cons_zero]
    (try dsimp only at hSw)
    go_simp
    first | done | (with_reducible rfl)
  simp only [List.getElem_toArray, List.getElem_cons_succ, List.getElem_cons_zero, Act.put, List.setIfInBounds_toArray, List.set_cons_zero, List.set_cons_succ]
  refine wpAnyH_take (i := 22) (v := ?_) rfl (by kernel_rfl) (by kernel_rfl) (by kernel_rfl) (fun _ _ _ h => h) (Or.inl ⟨by rfl, ?_⟩) (by assumption) ?_
  rotate_left
  · intro w hSw
    simp only [List.getElem_toArray, List.getElem_cons_succ, List.getElem_cons_zero]
    (try dsimp only at hSw)
    go_simp
    first | done | (with_reducible rfl)
  simp only [List.getElem_toArray, List.getElem_cons_succ, List.getElem_cons_zero, Act.put, List.setIfInBounds_toArray, List.set_cons_zero, List.set_cons_succ]
  refine wpAnyH_take (i := 23) (v := ?_) rfl (by kernel_rfl) (by kernel_rfl) (by kernel_rfl) (fun _ _ _ h => h) (Or.inl ⟨by rfl, ?_⟩) (by assumption) ?_
  rotate_left
  · intro w hSw
    simp only [List.getElem_toArray, List.getElem_cons_succ, List.getElem_cons_zero]
    (try dsimp only at hSw)
    go_simp
    first | done | (with_reducible rfl)
  simp only [List.getElem_toArray, List.getElem_cons_succ, List.getElem_cons_zero, Act.put, List.setIfInBounds_toArray, List.set_cons_zero, List.set_cons_succ]
  refine wpAnyH_ready (rs := [24]) (by kernel_rfl) (by simp) ?_
  refine AllReadyH.cons rfl (fun KZ hKZ => ?_) AllReadyH.nil
  simp only [List.getElem_toArray, List.getElem_cons_succ, List.getElem_cons_zero]
  go_simp
  (first | (go_at_call 95; refine (Reckoned_any i.op xa xb _).mono ?_; rintro e w7 ⟨rfl, hb7⟩; have HB7 : Hid (Below w1.heap.size w1 w7) := (Below.refl _ _).drew.trans hb7; have HK7 := Lib.hid (HKS.out w7 HB7.out); clear hb7) | fail)
  go_wp2_with fail
  refine hKZ.out _ _ ?_ (fun hHeld => ?_)
  · (try dsimp only)
    (first | exact Kd | exact HK7.out | fail)
  clear hKZ KZ
  (try simp only [List.getElem_toArray, List.getElem_cons_succ, List.getElem_cons_zero, Act.put, List.setIfInBounds_toArray, List.set_cons_zero, List.set_cons_succ])
  refine wpAnyH_take (i := 25) (v := ?_) rfl (by kernel_rfl) (by kernel_rfl) (by kernel_rfl) (fun _ _ _ h => h) (Or.inl ⟨by rfl, ?_⟩) (by assumption) ?_
  rotate_left
  · intro w hSw
    simp only [List.getElem_toArray, List.getElem_cons_succ, List.getElem_cons_zero]
    (try dsimp only at hSw)
    go_simp
    first | done | (with_reducible rfl)
  simp only [List.getElem_toArray, List.getElem_cons_succ, List.getElem_cons_zero, Act.put, List.setIfInBounds_toArray, List.set_cons_zero, List.set_cons_succ]
  refine wpAnyH_done (by kernel_rfl) ?_ _
  have vc : w7.cell? ⟨V, y, none⟩ = some (.int .i64 (gN s.σ y)) := (HB7.out.cell (p := ⟨V, y, none⟩) hVl).trans HVC.out
  have vf : w7.frozen? ⟨V, y, none⟩ = false := (HB7.out.frozen (p := ⟨V, y, none⟩) hVl).trans HVF.out
  generalize reckB i.op xa xb = x at *
  clear HVC HVF
  refine offQ_last rfl (fun KL hKL => ?_)
  go_simp
  refine hKL.out _ _ ?_
  have HW3 : Hid (RW f wa (w7.setCell ⟨V, y, none⟩ (.int .i64 x)) bl R V G (s.put (insS i s.bst)) st val vis ev) := by
    rw [HINS.out]
    exact (HW1.out.below HB7.out).setV hVR (x := (y : Int)) rfl x
  have HF3 : Hid (RF R V ev ev w (w7.setCell ⟨V, y, none⟩ (.int .i64 x))) := HF1.out.trans ((RF.below HB7.out).trans (RF.setV _ y _))
  generalize (w7.setCell ⟨V, y, none⟩ (.int .i64 x)) = w3 at *
  clear Kd r2 k0 k1 k2 k3 vc vf
  go_wp2_with fail
  exact bodyPost_end (results_none Tryz.results65 _ _ _) rfl ⟨_, _, rfl, HW3.out, HF3.out⟩

set_option maxRecDepth 10000 in
set_option maxHeartbeats 2000000 in
theorem do_7_any (f : FunD) (wa w : World) (bl : Value) (R V G : Nat) (s : VSt) (st val : Int) (vis : Nat) (ev : Value) (i : InsD) (h : RW f wa w bl R V G s st val vis ev) (hVR : V < R) (hi : InsP s.σ.length i) (ho : i.op = 7) (hem : s.em.length ≤ 1000000) :
    Calls Tryz.prog 65 #[.pointer (some ⟨R, 0, none⟩), .agg #[.int .i64 7, .int .i64 i.v, .int .i64 i.a, .int .i64 i.b]] w (GivesRun f wa bl R V G (s.put (insS i s.bst)) st val vis ev w) := by
  obtain ⟨a0, a1⟩ := insP_a hi (by omega)
  obtain ⟨a, ha⟩ : ∃ a : Nat, i.a = a := ⟨i.a.toNat, by omega⟩
  have al : a < s.σ.length := by omega
  have al' : (a : Int) < (s.σ.length : Int) := by omega
  have ap : 0 ≤ (a : Int) := by omega
  have HINS : Hid (s.put (insS i s.bst) = { s with em := s.em ++ [gN s.σ a] }) := by unfold insS; rw [if_neg (by omega), if_neg (by omega), if_pos ho, ha]; rfl
  rw [ha]
  clear hi ho ha a0 a1
  go_enter Tryz.func65, Tryz.ntmps65
  go_upto_region 8 with fail
  have hB1 : Below w.heap.size w (w.alloc (.cells #[.int .i64 7, .int .i64 i.v, .int .i64 a, .int .i64 i.b] 84)) := (Below.refl _ _).alloc (Nat.le_refl _) _
  have k0 : (w.alloc (.cells #[.int .i64 7, .int .i64 i.v, .int .i64 a, .int .i64 i.b] 84)).cell? ⟨w.heap.size, 0, none⟩ = some (.int .i64 7) := by go_simp
  have k1 : (w.alloc (.cells #[.int .i64 7, .int .i64 i.v, .int .i64 a, .int .i64 i.b] 84)).cell? ⟨w.heap.size, 1, none⟩ = some (.int .i64 i.v) := by go_simp
  have k2 : (w.alloc (.cells #[.int .i64 7, .int .i64 i.v, .int .i64 a, .int .i64 i.b] 84)).cell? ⟨w.heap.size, 2, none⟩ = some (.int .i64 a) := by go_simp
  have k3 : (w.alloc (.cells #[.int .i64 7, .int .i64 i.v, .int .i64 a, .int .i64 i.b] 84)).cell? ⟨w.heap.size, 3, none⟩ = some (.int .i64 i.b) := by go_simp
  have hs1 : (w.alloc (.cells #[.int .i64 7, .int .i64 i.v, .int .i64 a, .int .i64 i.b] 84)).heap.size = w.heap.size + 1 := by simp
  have hbq : Beside R V ev (w.alloc (.cells #[.int .i64 7, .int .i64 i.v, .int .i64 a, .int .i64 i.b] 84)) w.heap.size := h.beside_new (Nat.le_refl _) (by simp)
  obtain ⟨q, hq⟩ : ∃ q, q = w.heap.size := ⟨_, rfl⟩
  rw [← hq] at k0 k1 k2 k3 hs1 hbq ⊢
  generalize (w.alloc (.cells #[.int .i64 7, .int .i64 i.v, .int .i64 a, .int .i64 i.b] 84)) = w1 at *
  have HW1 := Lib.hid (h.below hB1)
  have HF1 : Hid (RF R V ev ev w w1) := RF.below hB1
  have HBQ := Lib.hid hbq
  have r2 : w1.cell? ⟨R, 2, none⟩ = some (.slice (some ⟨V, 0, none⟩) s.σ.length s.σ.length) := HW1.out.cell rfl
  have hNl : s.σ.length ≤ 9223372036854775807 := HW1.out.vals.ri.1
  clear h hB1 hbq hs1 hq
  have va : w1.cell? ⟨V, a, none⟩ = some (.int .i64 (gN s.σ a)) := HW1.out.vcell rfl al
  have r7 : w1.cell? ⟨R, 7, none⟩ = some ev := HW1.out.cell rfl
  have f7 := HW1.out.frozen 7
  have hVl := HW1.out.ltV
  have hRl := HW1.out.ltR
  have hql := HBQ.out.2.2.2
  have HNE : Hid (∀ k, ev.ownBlock = some k → k ≠ q ∧ k ≠ R ∧ k ≠ V ∧ k < w1.heap.size) := fun k hk => by
    have h1 := HW1.out.ltE hk
    refine ⟨fun e => HBQ.out.2.2.1 (by rw [hk, e]), by omega, by omega, h1.2⟩
  have HEV := Lib.hid HW1.out.hev
  have hRs : R + 1 ≤ w1.heap.size := by omega
  generalize gN s.σ a = x at va HINS
  have Kd : (fun w' => w'.cell? ⟨R, 2, none⟩ = some (.slice (some ⟨V, 0, none⟩) s.σ.length s.σ.length) ∧ w'.cell? ⟨R, 7, none⟩ = some ev ∧ w'.cell? ⟨q, 2, none⟩ = some (.int .i64 a) ∧ w'.cell? ⟨V, a, none⟩ = some (.int .i64 x)) w1.drew := ⟨r2, r7, k2, va⟩
  refine wp_region_offL (S := ((fun w' => w'.cell? ⟨R, 2, none⟩ = some (.slice (some ⟨V, 0, none⟩) s.σ.length s.σ.length) ∧ w'.cell? ⟨R, 7, none⟩ = some ev ∧ w'.cell? ⟨q, 2, none⟩ = some (.int .i64 a) ∧ w'.cell? ⟨V, a, none⟩ = some (.int .i64 x)))) (by simp) (by kernel_rfl) (by kernel_rfl) (by kernel_rfl) (by kernel_rfl) (by kernel_rfl) ?_ (fun hHeld => ?_)
  · (try dsimp only)
    (first | exact Kd | exact HK9.out | (refine ⟨?_, ?_, ?_, ?_⟩ <;> go_simp) | fail)
  simp only [List.dropLast_cons_cons, List.dropLast_singleton, List.length_cons, List.length_nil]
  refine wpAnyH_take (i := 0) (v := ?_) rfl (by kernel_rfl) (by kernel_rfl) (by kernel_rfl) (fun _ _ _ h => h) (Or.inl ⟨by rfl, ?_⟩) (by assumption) ?_
  rotate_left
  · intro w hSw
    simp only [List.getElem_toArray, List.getElem_cons_zero]
    (try dsimp only at hSw)
    go_simp
    first | done | (with_reducible rfl)
  simp only [List.getElem_toArray, List.getElem_cons_zero, Act.put, List.setIfInBounds_toArray, List.set_cons_zero, List.set_cons_succ]
  refine wpAnyH_take (i := 1) (v := ?_) rfl (by kernel_rfl) (by kernel_rfl) (by kernel_rfl) (fun _ _ _ h => h) (Or.inl ⟨by rfl, ?_⟩) (by assumption) ?_
  rotate_left
  · intro w hSw
    simp only [List.getElem_toArray, List.getElem_cons_succ, List.getElem_cons_zero]
    (try dsimp only at hSw)
    go_simp
    first | done | (with_reducible rfl)
  simp only [List.getElem_toArray, List.getElem_cons_succ, List.getElem_cons_zero, Act.put, List.setIfInBounds_toArray, List.set_cons_zero, List.set_cons_succ]
  refine wpAnyH_take (i := 2) (v := ?_) rfl (by kernel_rfl) (by kernel_rfl) (by kernel_rfl) (fun _ _ _ h => h) (Or.inl ⟨by rfl, ?_⟩) (by assumption) ?_
  rotate_left
  · intro w hSw
    simp only [List.getElem_toArray, List.getElem_cons_succ, List.getElem_cons_zero]
    (try dsimp only at hSw)
    go_simp
    first | done | (with_reducible rfl)
  simp only [List.getElem_toArray, List.getElem_cons_succ, List.getElem_cons_zero, Act.put, List.setIfInBounds_toArray, List.set_cons_zero, List.set_cons_succ]
  refine wpAnyH_take (i := 3) (v := ?_) rfl (by kernel_rfl) (by kernel_rfl) (by kernel_rfl) (fun _ _ _ h => h) (Or.inl ⟨by rfl, ?_⟩) (by assumption) ?_
  rotate_left
  · intro w hSw
    simp only [List.getElem_toArray, List.getElem_cons_succ, List.getElem_cons_zero]
    (try dsimp only at hSw)
    go_simp
    first | done | (with_reducible rfl)
  simp only [List.getElem_toArray, List.getElem_cons_succ, List.getElem_cons_zero, Act.put, List.setIfInBounds_toArray, List.set_cons_zero, List.set_cons_succ]
  refine wpAnyH_take (i := 4) (v := ?_) rfl (by kernel_rfl) (by kernel_rfl) (by kernel_rfl) (fun _ _ _ h => h) (Or.inl ⟨by rfl, ?_⟩) (by assumption) ?_
  rotate_left
  · intro w hSw
    simp only [List.getElem_toArray, List.getElem_cons_succ, List.getElem_cons_zero]
    (try dsimp only at hSw)
    go_simp
    first | done | (with_reducible rfl)
  simp only [List.getElem_toArray, List.getElem_cons_succ, List.getElem_cons_zero, Act.put, List.setIfInBounds_toArray, List.set_cons_zero, List.set_cons_succ]
  refine wpAnyH_take (i := 5) (v := ?_) rfl (by kernel_rfl) (by kernel_rfl) (by kernel_rfl) (fun _ _ _ h => h) (Or.inl ⟨by rfl, ?_⟩) (by assumption) ?_
  rotate_left
  · intro w hSw
    simp only [List.getElem_toArray, List.getElem_cons_succ, List.getElem_cons_zero]
    (try dsimp only at hSw)
    go_simp
    first | done | (with_reducible rfl)
  simp only [List.getElem_toArray, List.getElem_cons_succ, List.getElem_cons_zero, Act.put, List.setIfInBounds_toArray, List.set_cons_zero, List.set_cons_succ]
  refine wpAnyH_take (i := 6) (v := ?_) rfl (by kernel_rfl) (by kernel_rfl) (by kernel_rfl) (fun _ _ _ h => h) (Or.inl ⟨by rfl, ?_⟩) (by assumption) ?_
  rotate_left
  · intro w hSw
    simp only [List.getElem_toArray, List.getElem_cons_succ, List.getElem_cons_zero]
    (try dsimp only at hSw)
    go_simp
    first | done | (with_reducible rfl)
  simp only [List.getElem_toArray, List.getElem_cons_succ, List.getElem_cons_zero, Act.put, List.setIfInBounds_toArray, List.set_cons_zero, List.set_cons_succ]
  refine wpAnyH_take (i := 7) (v := ?_) rfl (by kernel_rfl) (by kernel_rfl) (by kernel_rfl) (fun _ _ _ h => h) (Or.inl ⟨by rfl, ?_⟩) (by assumption) ?_
  rotate_left
  · intro w hSw
    simp only [List.getElem_toArray, List.getElem_cons_succ, List.getElem_cons_zero]
    (try dsimp only at hSw)
    go_simp
    first | done | (with_reducible rfl)
  simp only [List.getElem_toArray, List.getElem_cons_succ, List.getElem_cons_zero, Act.put, List.setIfInBounds_toArray, List.set_cons_zero, List.set_cons_succ]
  refine wpAnyH_take (i := 8) (v := ?_) rfl (by kernel_rfl) (by kernel_rfl) (by kernel_rfl) (fun _ _ _ h => h) (Or.inl ⟨by rfl, ?_⟩) (by assumption) ?_
  rotate_left
  · intro w hSw
    simp only [List.getElem_toArray, List.getElem_cons_succ, List.getElem_cons_zero]
    (try dsimp only at hSw)
    go_simp
    first | done | (with_reducible rfl)
  simp only [List.getElem_toArray, List.getElem_cons_succ, List.getElem_cons_zero, Act.put, List.setIfInBounds_toArray, List.set_cons_zero, List.set_cons_succ]
  refine wpAnyH_take (i := 9) (v := ?_) rfl (by kernel_rfl) (by kernel_rfl) (by kernel_rfl) (fun _ _ _ h => h) (Or.inl ⟨by rfl, ?_⟩) (by assumption) ?_
  rotate_left
  · intro w hSw
    simp only [List.getElem_toArray, List.getElem_cons_succ, List.getElem_cons_zero]
    (try dsimp only at hSw)
    go_simp
    first | done | (with_reducible rfl)
  simp only [List.getElem_toArray, List.getElem_cons_succ, List.getElem_cons_zero, Act.put, List.setIfInBounds_toArray, List.set_cons_zero, List.set_cons_succ]
  refine wpAnyH_take (i := 10) (v := ?_) rfl (by kernel_rfl) (by kernel_rfl) (by kernel_rfl) (fun _ _ _ h => h) (Or.inl ⟨by rfl, ?_⟩) (by assumption) ?_
  rotate_left
  · intro w hSw
    simp only [List.getElem_toArray, List.getElem_cons_succ, List.getElem_cons_zero]
    (try dsimp only at hSw)
    go_simp
    first | done | (with_reducible rfl)
  simp only [List.getElem_toArray, List.getElem_cons_succ, List.getElem_cons_zero, Act.put, List.setIfInBounds_toArray, List.set_cons_zero, List.set_cons_succ]
  refine wpAnyH_take (i := 11) (v := ?_) rfl (by kernel_rfl) (by kernel_rfl) (by kernel_rfl) (fun _ _ _ h => h) (Or.inl ⟨by rfl, ?_⟩) (by assumption) ?_
  rotate_left
  · intro w hSw
    simp only [List.getElem_toArray, List.getElem_cons_succ, List.getElem_cons_zero]
    (try dsimp only at hSw)
    go_simp
    first | done | (with_reducible rfl)
  simp only [List.getElem_toArray, List.getElem_cons_succ, List.getElem_cons_zero, Act.put, List.setIfInBounds_toArray, List.set_cons_zero, List.set_cons_succ]
  refine wpAnyH_take (i := 12) (v := ?_) rfl (by kernel_rfl) (by kernel_rfl) (by kernel_rfl) (fun _ _ _ h => h) (Or.inl ⟨by rfl, ?_⟩) (by assumption) ?_
  rotate_left
  · intro w hSw
    simp only [List.getElem_toArray, List.getElem_cons_succ, List.getElem_cons_zero]
    (try dsimp only at hSw)
    go_simp
    first | done | (with_reducible rfl)
  simp only [List.getElem_toArray, List.getElem_cons_succ, List.getElem_cons_zero, Act.put, List.setIfInBounds_toArray, List.set_cons_zero, List.set_cons_succ]
  refine wpAnyH_take (i := 13) (v := ?_) rfl (by kernel_rfl) (by kernel_rfl) (by kernel_rfl) (fun _ _ _ h => h) (Or.inl ⟨by rfl, ?_⟩) (by assumption) ?_
  rotate_left
  · intro w hSw
    simp only [List.getElem_toArray, List.getElem_cons_succ, List.getElem_cons_zero]
    (try dsimp only at hSw)
    go_simp
    first | done | (with_reducible rfl)
  simp only [List.getElem_toArray, List.getElem_cons_succ, List.getElem_cons_zero, Act.put, List.setIfInBounds_toArray, List.set_cons_zero, List.set_cons_succ]
  refine wpAnyH_ready (rs := [14]) (by kernel_rfl) (by simp) ?_
  refine AllReadyH.cons rfl (fun KZ hKZ => ?_) AllReadyH.nil
  simp only [List.getElem_toArray, List.getElem_cons_succ, List.getElem_cons_zero]
  go_simp
  refine hKZ.out _ _ ?_ (fun hHeld => ?_)
  · (try dsimp only)
    (first | exact Kd | exact HK9.out | (refine ⟨?_, ?_, ?_, ?_⟩ <;> go_simp) | fail)
  clear hKZ KZ
  (try simp only [List.getElem_toArray, List.getElem_cons_succ, List.getElem_cons_zero, Act.put, List.setIfInBounds_toArray, List.set_cons_zero, List.set_cons_succ])
  refine wpAnyH_ready (rs := [15]) (by kernel_rfl) (by simp) ?_
  refine AllReadyH.cons rfl (fun KZ hKZ => ?_) AllReadyH.nil
  ((refine step_append_int (by rfl) (.tmp 67) (.tmp 76) (by rfl) (R + 1) ev s.em x _ w1.heap.size (by rfl) (HEV.out.below ((Below.refl w1.heap.size w1).drew.alloc (by simp) _) (fun k hk => (HNE.out k hk).2.2.2)) (by rfl) (heap_alloc_new _ _) (by simp; omega) (by omega) ?_; intro g cap w9 hown9 hg9 hat9; have HO9 := Lib.hid hown9; have HG9 : Hid (w1.grownBy w9 ev.ownBlock) := ((show w1.grownBy w1.drew _ from ⟨rfl, rfl, rfl, Nat.le_refl _, fun _ _ _ => rfl⟩).trans (World.grownBy_alloc w1.drew _ _)).trans hg9; have HA9 : Hid (ev.ownBlock = some g ∨ g = w1.heap.size + 1) := (by rcases hat9 with h | h; exact .inl h; exact .inr (by rw [h]; simp)); have HK9 : Hid ((fun w' => w'.cell? ⟨R, 2, none⟩ = some (.slice (some ⟨V, 0, none⟩) s.σ.length s.σ.length) ∧ w'.cell? ⟨R, 7, none⟩ = some ev ∧ w'.cell? ⟨q, 2, none⟩ = some (.int .i64 a) ∧ w'.cell? ⟨V, a, none⟩ = some (.int .i64 x)) w9) := ⟨(World.cell?_of_block (a := ⟨R, 2, none⟩) (HG9.out.block _ hRl (fun e => (HNE.out R e.symm).2.1 rfl))).trans Kd.1, (World.cell?_of_block (a := ⟨R, 7, none⟩) (HG9.out.block _ hRl (fun e => (HNE.out R e.symm).2.1 rfl))).trans Kd.2.1, (World.cell?_of_block (a := ⟨q, 2, none⟩) (HG9.out.block _ hql (fun e => (HNE.out q e.symm).1 rfl))).trans Kd.2.2.1, (World.cell?_of_block (a := ⟨V, a, none⟩) (HG9.out.block _ hVl (fun e => (HNE.out V e.symm).2.2.1 rfl))).trans Kd.2.2.2⟩; clear hown9 hg9 hat9))
  refine hKZ.out _ _ ?_ (fun hHeld => ?_)
  · (try dsimp only)
    (first | exact Kd | exact HK9.out | (refine ⟨?_, ?_, ?_, ?_⟩ <;> go_simp) | fail)
  clear hKZ KZ
  (try simp only [List.getElem_toArray, List.getElem_cons_succ, List.getElem_cons_zero, Act.put, List.setIfInBounds_toArray, List.set_cons_zero, List.set_cons_succ])
  refine wpAnyH_take (i := 16) (v := ?_) rfl (by kernel_rfl) (by kernel_rfl) (by kernel_rfl) (fun _ _ _ h => h) (Or.inl ⟨by rfl, ?_⟩) (by assumption) ?_
  rotate_left
  · intro w hSw
    simp only [List.getElem_toArray, List.getElem_cons_succ, List.getElem_cons_zero]
    (try dsimp only at hSw)
    go_simp
    first | done | (with_reducible rfl)
  simp only [List.getElem_toArray, List.getElem_cons_succ, List.getElem_cons_zero, Act.put, List.setIfInBounds_toArray, List.set_cons_zero, List.set_cons_succ]
  refine wpAnyH_take (i := 17) (v := ?_) rfl (by kernel_rfl) (by kernel_rfl) (by kernel_rfl) (fun _ _ _ h => h) (Or.inl ⟨by rfl, ?_⟩) (by assumption) ?_
  rotate_left
  · intro w hSw
    simp only [List.getElem_toArray, List.getElem_cons_succ, List.getElem_cons_zero]
    (try dsimp only at hSw)
    go_simp
    first | done | (with_reducible rfl)
  simp only [List.getElem_toArray, List.getElem_cons_succ, List.getElem_cons_zero, Act.put, List.setIfInBounds_toArray, List.set_cons_zero, List.set_cons_succ]
  refine wpAnyH_take (i := 18) (v := ?_) rfl (by kernel_rfl) (by kernel_rfl) (by kernel_rfl) (fun _ _ _ h => h) (Or.inl ⟨by rfl, ?_⟩) (by assumption) ?_
  rotate_left
  · intro w hSw
    simp only [List.getElem_toArray, List.getElem_cons_succ, List.getElem_cons_zero]
    (try dsimp only at hSw)
    go_simp
    first | done | (with_reducible rfl)
  simp only [List.getElem_toArray, List.getElem_cons_succ, List.getElem_cons_zero, Act.put, List.setIfInBounds_toArray, List.set_cons_zero, List.set_cons_succ]
  refine wpAnyH_done (by kernel_rfl) ?_ _
  have f9 : w9.frozen? ⟨R, 7, none⟩ = false := (World.frozen?_of_block (a := ⟨R, 7, none⟩) (HG9.out.block _ hRl (fun e => (HNE.out R e.symm).2.1 rfl))).trans f7
  have c9 := HK9.out.2.1
  refine offQ_last rfl (fun KL hKL => ?_)
  go_simp
  refine hKL.out _ _ ?_
  have hv9 : (Value.slice (some ⟨g, 0, none⟩) (s.em.length + 1) cap).ownBlock = ev.ownBlock ∨ ∃ k, (Value.slice (some ⟨g, 0, none⟩) (s.em.length + 1) cap).ownBlock = some k ∧ w1.heap.size ≤ k := by
    rcases HA9.out with h | h
    · exact .inl (by rw [h]; rfl)
    · exact .inr ⟨g, rfl, by omega⟩
  have HW3 : Hid (RW f wa (w9.setCell ⟨R, 7, none⟩ (.slice (some ⟨g, 0, none⟩) (s.em.length + 1) cap)) bl R V G (s.put (insS i s.bst)) st val vis (.slice (some ⟨g, 0, none⟩) (s.em.length + 1) cap)) := by
    rw [HINS.out]
    exact HW1.out.emit hVR HO9.out HG9.out
  have HF3 := Lib.hid (HF1.out.trans (RF.emit (R := R) (V := V) HG9.out hv9))
  clear Kd r2 r7 k0 k1 k2 k3 va f9 c9 HK9 HO9 HG9 HA9 hv9
  go_wp2_with fail
  exact bodyPost_end (results_none Tryz.results65 _ _ _) rfl ⟨_, _, rfl, HW3.out, HF3.out⟩

theorem do_any (f : FunD) (wa w : World) (bl : Value) (R V G : Nat) (s : VSt) (st val : Int) (vis : Nat) (ev : Value) (i : InsD) (h : RW f wa w bl R V G s st val vis ev) (hVR : V < R) (hi : InsP s.σ.length i) (hem : s.em.length ≤ 1000000) :
    Calls Tryz.prog 65 #[.pointer (some ⟨R, 0, none⟩), .agg #[.int .i64 i.op, .int .i64 i.v, .int .i64 i.a, .int .i64 i.b]] w (GivesRun f wa bl R V G (s.put (insS i s.bst)) st val vis ev w) := by
  by_cases h1 : i.op = 1
  · have := do_1_any f wa w bl R V G s st val vis ev i h hVR hi h1
    rwa [← h1] at this
  · by_cases h2 : i.op = 2
    · have := do_2_any f wa w bl R V G s st val vis ev i h hVR hi h2
      rwa [← h2] at this
    · by_cases h7 : i.op = 7
      · have := do_7_any f wa w bl R V G s st val vis ev i h hVR hi h7 hem
        rwa [← h7] at this
      · exact do_r_any f wa w bl R V G s st val vis ev i h hVR hi h1 h2 h7
end

end Go.Proofs.YtnjmlhokkhkaaaaGreat
