/- Run5, Run6, Run7, joined. -/
import Derived.Test.YtnjmlhokkhkaaaaGreatQ1
import Derived.Test.YtnjmlhokkhkaaaaGreatQ10
import Derived.Test.YtnjmlhokkhkaaaaGreatQ12
import Derived.Test.YtnjmlhokkhkaaaaGreatQ13
import Derived.Test.YtnjmlhokkhkaaaaGreatQ14
import Derived.Laws.CopyOwn
namespace Go.Proofs.YtnjmlhokkhkaaaaGreat

/- visit of the program: one block. -/
section
open Go.ChangeShapes Go.WideShapes Go.ChangeAt Go.RowKit Go.Joins

/-- How a run stands behind the End of a block. -/
def LeaveP (x : BlockD) (s : VSt) (st val : Int) (s' : VSt) (st' val' : Int) : Prop :=
  (nextS x s.σ = none ∧ s' = s ∧ st' = 2 ∧ val' = gN s.σ x.fin.a) ∨ ∃ t, nextS x s.σ = some t ∧ s' = { s with at_ := t.toNat, bef := s.at_ } ∧ st' = st ∧ val' = val
def GivesLeave (f : FunD) (wa : World) (bl : Value) (R V G : Nat) (x : BlockD) (s : VSt) (st val : Int) (vis : Nat) (ev : Value) (w : World) (e : Ending) (w' : World) : Prop :=
  ∃ s' st' val', LeaveP x s st val s' st' val' ∧ GivesRun f wa bl R V G s' st' val' vis ev w e w'
theorem leaveBy_any (f : FunD) (wa w : World) (bl : Value) (R V G : Nat) (s : VSt) (st val : Int) (vis : Nat) (ev : Value) (x : BlockD) (h : RW f wa w bl R V G s st val vis ev) (hVR : V < R)
    (hok : EndP s.σ.length f.blocks.length x.fin) :
    Calls Tryz.prog 66 #[.pointer (some ⟨R, 0, none⟩), endV x.fin] w (GivesLeave f wa bl R V G x s st val vis ev w) := by
  cases hn : nextS x s.σ with
  | none => exact (leaveBy_end f wa w bl R V G s st val vis ev x h hVR hok hn).mono fun e w' hg => ⟨_, _, _, .inl ⟨hn, rfl, rfl, rfl⟩, hg⟩
  | some t => exact (leaveBy_next f wa w bl R V G s st val vis ev x t h hVR hok hn).mono fun e w' hg => ⟨_, _, _, .inr ⟨t, hn, rfl, rfl, rfl⟩, hg⟩

theorem moveP_range {n : Int} {m : MoveD} {N : Nat} (h : MoveP n m) (hn : n = N) : (0 ≤ m.dst ∧ m.dst < (N : Int)) ∧ (0 ≤ m.src ∧ m.src < (N : Int)) := by
  obtain ⟨h1, h2⟩ := h
  rw [below_iff] at h1 h2
  omega
theorem phM_range {f : FunD} (hp : FunP f) {k be : Nat} {x : BlockD} (hx : f.blocks[k]? = some x) (hc : x.phis = [] ∨ (be : Int) ∈ predsF f k) {N : Nat} (hn : f.names = N) :
    ∀ (j : Nat) m, (phM (wayF f k be) x.phis)[j]? = some m → (0 ≤ m.dst ∧ m.dst < (N : Int)) ∧ (0 ≤ m.src ∧ m.src < (N : Int)) := by
  intro j m hm
  unfold phM at hm
  rw [List.getElem?_map] at hm
  cases hpj : x.phis[j]? with
  | none => rw [hpj] at hm; cases hm
  | some p =>
    rw [hpj] at hm
    simp only [Option.map_some, Option.some.injEq] at hm
    subst hm
    obtain ⟨h1, h2, h3⟩ := (hp.2.2.2 k x hx).2 j p hpj
    rw [below_iff] at h1
    rcases hc with hc | hc
    · rw [hc] at hpj; simp at hpj
    · have hw := wayF_lt hc
      have ha : p.args[wayF f k be]? = some p.args[wayF f k be] := List.getElem?_eq_getElem (by omega)
      have h4 := h3 _ _ ha
      rw [below_iff] at h4
      have h5 : p.args.getD (wayF f k be) 0 = p.args[wayF f k be] := by rw [List.getD_eq_getElem?_getD, ha]; rfl
      simp only [h5]
      omega

/-- Where a run is behind a visit. -/
def GivesVisit (f : FunD) (wa : World) (bl : Value) (R V G : Nat) (x : BlockD) (s : VSt) (st val : Int) (vis : Nat) (ev : Value) (w : World) (e : Ending) (w' : World) : Prop :=
  ∃ s' st' val', LeaveP x (s.put (visB f x s)) st val s' st' val' ∧ GivesRun f wa bl R V G s' st' val' (vis + 1) ev w e w'

set_option maxRecDepth 10000 in
set_option maxHeartbeats 4000000 in
theorem visit_any (f : FunD) (Z : Zn) (wa w : World) (bl : Value) (B R V G : Nat) (s : VSt) (st val : Int) (vis : Nat) (ev : Value) (x : BlockD) (h : RW f wa w bl R V G s st val vis ev) (ha : RA f Z wa bl B V G)
    (hx : f.blocks[s.at_]? = some x) (hc : x.phis = [] ∨ (s.bef : Int) ∈ predsF f s.at_) (hn : f.names = s.σ.length) (hvis : vis ≤ 1000) (hem : s.em.length ≤ 100000) :
    Calls Tryz.prog 33 #[.pointer (some ⟨R, 0, none⟩)] w (GivesVisit f wa bl R V G x s st val vis ev w) := by
  have hlt : s.at_ < f.blocks.length := (List.getElem?_eq_some_iff.1 hx).1
  have hlt' : (s.at_ : Int) < (f.blocks.length : Int) := by omega
  have hat0 : 0 ≤ (s.at_ : Int) := by omega
  have hVR : V < R := by have h1 := ha.hVG; have h2 := ha.szG; have h3 := h.hR; omega
  have HA := Lib.hid ha
  have HX := Lib.hid hx
  have HC := Lib.hid hc
  have HN := Lib.hid hn
  have HBP := Lib.hid (ha.hp.1.2.2.2.2 s.at_ x hx)
  have hph4 := (ha.hp.2.2.2 s.at_ x hx).1
  have HPM := Lib.hid (phM_range ha.hp hx hc hn)
  obtain ⟨_, A, c, hble, hxr⟩ := ha.row
  obtain ⟨b, off, hAe, hDb, hr8⟩ := hxr (by intro e; rw [e] at hlt; simp at hlt)
  subst hAe hble
  obtain ⟨cs, hE, hcs⟩ := hr8 s.at_ x hx
  obtain ⟨v0, v1, v2, v3, rfl, hr0, hr1, hr2, hr3⟩ := hE
  have HR1 := Lib.hid hr1
  have HR2 := Lib.hid hr2
  have HR3 := Lib.hid hr3
  obtain ⟨_, A0, c0, rfl, _⟩ := hr0
  obtain ⟨_, A1, c1, rfl, _⟩ := hr1
  obtain ⟨_, A2, c2, rfl, _⟩ := hr2
  obtain ⟨_, A3, c3, rfl, _⟩ := hr3
  have HCS : Hid (∀ j u, [Value.slice A0 x.phis.length c0, .slice A1 x.head.length c1, .slice A2 x.body.length c2, .slice A3 x.tail.length c3, .int .i64 x.fin.k, .int .i64 x.fin.a, .int .i64 x.fin.t, .int .i64 x.fin.l][j]? = some u → wa.cell? ⟨b, off + s.at_ * 8 + j, none⟩ = some u) := fun j u hu => (hcs j u hu).1
  have hDold := ha.old b hDb
  have HBB : Hid (∀ w' s' st' val' vis' ev', RW f wa w' (.slice (some ⟨b, off, none⟩) f.blocks.length c) R V G s' st' val' vis' ev' → ∀ j u, [Value.slice A0 x.phis.length c0, .slice A1 x.head.length c1, .slice A2 x.body.length c2, .slice A3 x.tail.length c3, .int .i64 x.fin.k, .int .i64 x.fin.a, .int .i64 x.fin.t, .int .i64 x.fin.l][j]? = some u → w'.cell? ⟨b, off + s.at_ * 8 + j, none⟩ = some u) := fun w' s' st' val' vis' ev' h' j u hu => by
    exact ((h'.old HA.out).cell (p := ⟨b, _, none⟩) hDold).trans (HCS.out j u hu)
  have r8 : w.cell? ⟨R, 8, none⟩ = some (.int .i64 vis) := h.cell rfl
  have f8 := h.frozen 8
  have HW1 := Lib.hid (h.setR hVR 8 (.int .i64 ((vis : Int) + 1)) (s' := s) (st' := st) (val' := val) (vis' := vis + 1) rfl rfl rfl)
  have HF1 : Hid (RF R V ev ev w (w.setCell ⟨R, 8, none⟩ (.int .i64 ((vis : Int) + 1)))) := RF.setR _ 8 _
  clear hcs hr8 hxr hx hc hn ha HCS h hDb hDold
  go_enter Tryz.func33, Tryz.ntmps33
  go_upto_region 1 with fail
  generalize w.setCell ⟨R, 8, none⟩ (.int .i64 ((vis : Int) + 1)) = w1 at *
  have r0 : w1.cell? ⟨R, 0, none⟩ = some (.slice (some ⟨b, off, none⟩) f.blocks.length c) := HW1.out.cell rfl
  have r3 : w1.cell? ⟨R, 3, none⟩ = some (.int .i64 s.at_) := HW1.out.cell rfl
  have b0 := HBB.out w1 _ _ _ _ _ HW1.out 0 _ rfl
  have b1 := HBB.out w1 _ _ _ _ _ HW1.out 1 _ rfl
  have b2 := HBB.out w1 _ _ _ _ _ HW1.out 2 _ rfl
  have b3 := HBB.out w1 _ _ _ _ _ HW1.out 3 _ rfl
  have b4 := HBB.out w1 _ _ _ _ _ HW1.out 4 _ rfl
  have b5 := HBB.out w1 _ _ _ _ _ HW1.out 5 _ rfl
  have b6 := HBB.out w1 _ _ _ _ _ HW1.out 6 _ rfl
  have b7 := HBB.out w1 _ _ _ _ _ HW1.out 7 _ rfl
  rw [Nat.add_zero] at b0
  have hRl := HW1.out.ltR
  have hbl : b < w1.heap.size := World.block_lt_of_cell? w1 ⟨b, _, none⟩ b0
  have HKS : Hid (∀ w', Below w1.heap.size w1 w' → (fun w' => w'.cell? ⟨R, 0, none⟩ = some (.slice (some ⟨b, off, none⟩) f.blocks.length c) ∧ w'.cell? ⟨R, 3, none⟩ = some (.int .i64 s.at_) ∧ w'.cell? ⟨b, off + s.at_ * 8, none⟩ = some (.slice A0 x.phis.length c0) ∧ w'.cell? ⟨b, off + s.at_ * 8 + 1, none⟩ = some (.slice A1 x.head.length c1) ∧ w'.cell? ⟨b, off + s.at_ * 8 + 2, none⟩ = some (.slice A2 x.body.length c2) ∧ w'.cell? ⟨b, off + s.at_ * 8 + 3, none⟩ = some (.slice A3 x.tail.length c3) ∧ w'.cell? ⟨b, off + s.at_ * 8 + 4, none⟩ = some (.int .i64 x.fin.k) ∧ w'.cell? ⟨b, off + s.at_ * 8 + 5, none⟩ = some (.int .i64 x.fin.a) ∧ w'.cell? ⟨b, off + s.at_ * 8 + 6, none⟩ = some (.int .i64 x.fin.t) ∧ w'.cell? ⟨b, off + s.at_ * 8 + 7, none⟩ = some (.int .i64 x.fin.l)) w') := fun w' hb => ⟨(hb.cell (p := ⟨R, 0, none⟩) hRl).trans r0, (hb.cell (p := ⟨R, 3, none⟩) hRl).trans r3, (hb.cell (p := ⟨b, _, none⟩) hbl).trans b0, (hb.cell (p := ⟨b, _, none⟩) hbl).trans b1, (hb.cell (p := ⟨b, _, none⟩) hbl).trans b2, (hb.cell (p := ⟨b, _, none⟩) hbl).trans b3, (hb.cell (p := ⟨b, _, none⟩) hbl).trans b4, (hb.cell (p := ⟨b, _, none⟩) hbl).trans b5, (hb.cell (p := ⟨b, _, none⟩) hbl).trans b6, (hb.cell (p := ⟨b, _, none⟩) hbl).trans b7⟩
  have Kd : (fun w' => w'.cell? ⟨R, 0, none⟩ = some (.slice (some ⟨b, off, none⟩) f.blocks.length c) ∧ w'.cell? ⟨R, 3, none⟩ = some (.int .i64 s.at_) ∧ w'.cell? ⟨b, off + s.at_ * 8, none⟩ = some (.slice A0 x.phis.length c0) ∧ w'.cell? ⟨b, off + s.at_ * 8 + 1, none⟩ = some (.slice A1 x.head.length c1) ∧ w'.cell? ⟨b, off + s.at_ * 8 + 2, none⟩ = some (.slice A2 x.body.length c2) ∧ w'.cell? ⟨b, off + s.at_ * 8 + 3, none⟩ = some (.slice A3 x.tail.length c3) ∧ w'.cell? ⟨b, off + s.at_ * 8 + 4, none⟩ = some (.int .i64 x.fin.k) ∧ w'.cell? ⟨b, off + s.at_ * 8 + 5, none⟩ = some (.int .i64 x.fin.a) ∧ w'.cell? ⟨b, off + s.at_ * 8 + 6, none⟩ = some (.int .i64 x.fin.t) ∧ w'.cell? ⟨b, off + s.at_ * 8 + 7, none⟩ = some (.int .i64 x.fin.l)) w1.drew := HKS.out _ (Below.refl _ _).drew
  clear HBB r0 r3 b0 b1 b2 b3 b4 b5 b6 b7 r8 f8
  refine wp_region_offL (S := ((fun w' => w'.cell? ⟨R, 0, none⟩ = some (.slice (some ⟨b, off, none⟩) f.blocks.length c) ∧ w'.cell? ⟨R, 3, none⟩ = some (.int .i64 s.at_) ∧ w'.cell? ⟨b, off + s.at_ * 8, none⟩ = some (.slice A0 x.phis.length c0) ∧ w'.cell? ⟨b, off + s.at_ * 8 + 1, none⟩ = some (.slice A1 x.head.length c1) ∧ w'.cell? ⟨b, off + s.at_ * 8 + 2, none⟩ = some (.slice A2 x.body.length c2) ∧ w'.cell? ⟨b, off + s.at_ * 8 + 3, none⟩ = some (.slice A3 x.tail.length c3) ∧ w'.cell? ⟨b, off + s.at_ * 8 + 4, none⟩ = some (.int .i64 x.fin.k) ∧ w'.cell? ⟨b, off + s.at_ * 8 + 5, none⟩ = some (.int .i64 x.fin.a) ∧ w'.cell? ⟨b, off + s.at_ * 8 + 6, none⟩ = some (.int .i64 x.fin.t) ∧ w'.cell? ⟨b, off + s.at_ * 8 + 7, none⟩ = some (.int .i64 x.fin.l)))) (by simp) (by kernel_rfl) (by kernel_rfl) (by kernel_rfl) (by kernel_rfl) (by kernel_rfl) ?_ (fun hHeld => ?_)
  · (try dsimp only)
    (first | exact Kd | exact HKS.out _ ((Below.refl _ _).drew.alloc (by simp) _) | fail)
  simp only [List.dropLast_cons_cons, List.dropLast_singleton, List.length_cons, List.length_nil]
  refine wpAnyH_take (i := 0) (v := ?_) rfl (by kernel_rfl) (by kernel_rfl) (by kernel_rfl) (fun _ _ _ h => h) (Or.inl ⟨by rfl, ?_⟩) (by assumption) ?_
  rotate_left
  · intro w hSw
    simp only [List.getElem_toArray, List.getElem_cons_zero]
    (try dsimp only at hSw)
    go_simp
    first | done | (with_reducible rfl)
  simp only [List.getElem_toArray, List.getElem_cons_zero, Act.put, List.setIfInBounds_toArray, List.set_cons_zero, List.set_cons_succ]
  refine wpAnyH_take (i := 1) (v := ?_) rfl (by kernel_rfl) (by kernel_rfl) (by kernel_rfl) (fun _ _ _ h => h) (Or.inl ⟨by rfl, ?_⟩) (by assumption) ?_
  rotate_left
  · intro w hSw
    simp only [List.getElem_toArray, List.getElem_cons_succ, List.getElem_cons_zero]
    (try dsimp only at hSw)
    go_simp
    first | done | (with_reducible rfl)
  simp only [List.getElem_toArray, List.getElem_cons_succ, List.getElem_cons_zero, Act.put, List.setIfInBounds_toArray, List.set_cons_zero, List.set_cons_succ]
  refine wpAnyH_take (i := 2) (v := ?_) rfl (by kernel_rfl) (by kernel_rfl) (by kernel_rfl) (fun _ _ _ h => h) (Or.inl ⟨by rfl, ?_⟩) (by assumption) ?_
  rotate_left
  · intro w hSw
    simp only [List.getElem_toArray, List.getElem_cons_succ, List.getElem_cons_zero]
    (try dsimp only at hSw)
    go_simp
    first | done | (with_reducible rfl)
  simp only [List.getElem_toArray, List.getElem_cons_succ, List.getElem_cons_zero, Act.put, List.setIfInBounds_toArray, List.set_cons_zero, List.set_cons_succ]
  refine wpAnyH_take (i := 3) (v := ?_) rfl (by kernel_rfl) (by kernel_rfl) (by kernel_rfl) (fun _ _ _ h => h) (Or.inl ⟨by rfl, ?_⟩) (by assumption) ?_
  rotate_left
  · intro w hSw
    simp only [List.getElem_toArray, List.getElem_cons_succ, List.getElem_cons_zero]
    (try dsimp only at hSw)
    go_simp
    first | done | (with_reducible rfl)
  simp only [List.getElem_toArray, List.getElem_cons_succ, List.getElem_cons_zero, Act.put, List.setIfInBounds_toArray, List.set_cons_zero, List.set_cons_succ]
  refine wpAnyH_take (i := 4) (v := ?_) rfl (by kernel_rfl) (by kernel_rfl) (by kernel_rfl) (fun _ _ _ h => h) (Or.inl ⟨by rfl, ?_⟩) (by assumption) ?_
  rotate_left
  · intro w hSw
    simp only [List.getElem_toArray, List.getElem_cons_succ, List.getElem_cons_zero]
    (try dsimp only at hSw)
    go_simp
    first | done | (with_reducible rfl)
  simp only [List.getElem_toArray, List.getElem_cons_succ, List.getElem_cons_zero, Act.put, List.setIfInBounds_toArray, List.set_cons_zero, List.set_cons_succ]
  refine wpAnyH_take (i := 5) (v := ?_) rfl (by kernel_rfl) (by kernel_rfl) (by kernel_rfl) (fun _ _ _ h => h) (Or.inl ⟨by rfl, ?_⟩) (by assumption) ?_
  rotate_left
  · intro w hSw
    simp only [List.getElem_toArray, List.getElem_cons_succ, List.getElem_cons_zero]
    (try dsimp only at hSw)
    go_simp
    first | done | (with_reducible rfl)
  simp only [List.getElem_toArray, List.getElem_cons_succ, List.getElem_cons_zero, Act.put, List.setIfInBounds_toArray, List.set_cons_zero, List.set_cons_succ]
  refine wpAnyH_take (i := 6) (v := ?_) rfl (by kernel_rfl) (by kernel_rfl) (by kernel_rfl) (fun _ _ _ h => h) (Or.inl ⟨by rfl, ?_⟩) (by assumption) ?_
  rotate_left
  · intro w hSw
    simp only [List.getElem_toArray, List.getElem_cons_succ, List.getElem_cons_zero]
    (try dsimp only at hSw)
    go_simp
    first | done | (with_reducible rfl)
  simp only [List.getElem_toArray, List.getElem_cons_succ, List.getElem_cons_zero, Act.put, List.setIfInBounds_toArray, List.set_cons_zero, List.set_cons_succ]
  refine wpAnyH_take (i := 7) (v := ?_) rfl (by kernel_rfl) (by kernel_rfl) (by kernel_rfl) (fun _ _ _ h => h) (Or.inl ⟨by rfl, ?_⟩) (by assumption) ?_
  rotate_left
  · intro w hSw
    simp only [List.getElem_toArray, List.getElem_cons_succ, List.getElem_cons_zero]
    (try dsimp only at hSw)
    go_simp
    first | done | (with_reducible rfl)
  simp only [List.getElem_toArray, List.getElem_cons_succ, List.getElem_cons_zero, Act.put, List.setIfInBounds_toArray, List.set_cons_zero, List.set_cons_succ]
  refine wpAnyH_take (i := 8) (v := ?_) rfl (by kernel_rfl) (by kernel_rfl) (by kernel_rfl) (fun _ _ _ h => h) (Or.inl ⟨by rfl, ?_⟩) (by assumption) ?_
  rotate_left
  · intro w hSw
    simp only [List.getElem_toArray, List.getElem_cons_succ, List.getElem_cons_zero]
    (try dsimp only at hSw)
    go_simp
    first | done | (with_reducible rfl)
  simp only [List.getElem_toArray, List.getElem_cons_succ, List.getElem_cons_zero, Act.put, List.setIfInBounds_toArray, List.set_cons_zero, List.set_cons_succ]
  refine wpAnyH_take (i := 9) (v := ?_) rfl (by kernel_rfl) (by kernel_rfl) (by kernel_rfl) (fun _ _ _ h => h) (Or.inl ⟨by rfl, ?_⟩) (by assumption) ?_
  rotate_left
  · intro w hSw
    simp only [List.getElem_toArray, List.getElem_cons_succ, List.getElem_cons_zero]
    (try dsimp only at hSw)
    go_simp
    first | done | (with_reducible rfl)
  simp only [List.getElem_toArray, List.getElem_cons_succ, List.getElem_cons_zero, Act.put, List.setIfInBounds_toArray, List.set_cons_zero, List.set_cons_succ]
  refine wpAnyH_ready (rs := [10]) (by kernel_rfl) (by simp) ?_
  refine AllReadyH.cons rfl (fun KZ hKZ => ?_) AllReadyH.nil
  simp only [List.getElem_toArray, List.getElem_cons_succ, List.getElem_cons_zero]
  go_simp
  refine hKZ.out _ _ ?_ (fun hHeld => ?_)
  · (try dsimp only)
    (first | exact Kd | exact HKS.out _ ((Below.refl _ _).drew.alloc (by simp) _) | fail)
  clear hKZ KZ
  (try simp only [List.getElem_toArray, List.getElem_cons_succ, List.getElem_cons_zero, Act.put, List.setIfInBounds_toArray, List.set_cons_zero, List.set_cons_succ])
  refine wpAnyH_done (by kernel_rfl) ?_ _
  refine offQ_last rfl (fun KL hKL => ?_)
  go_simp
  refine hKL.out _ _ ?_
  have hB2 : Below w1.heap.size w1 ((w1.alloc (.cells #[.slice A0 x.phis.length c0, .slice A1 x.head.length c1, .slice A2 x.body.length c2, .slice A3 x.tail.length c3, .int .i64 x.fin.k, .int .i64 x.fin.a, .int .i64 x.fin.t, .int .i64 x.fin.l] 69)).drew) := ((Below.refl _ _).alloc (Nat.le_refl _) _).drew
  have hq2 : ((w1.alloc (.cells #[.slice A0 x.phis.length c0, .slice A1 x.head.length c1, .slice A2 x.body.length c2, .slice A3 x.tail.length c3, .int .i64 x.fin.k, .int .i64 x.fin.a, .int .i64 x.fin.t, .int .i64 x.fin.l] 69)).drew).heap[w1.heap.size]? = some (.cells #[.slice A0 x.phis.length c0, .slice A1 x.head.length c1, .slice A2 x.body.length c2, .slice A3 x.tail.length c3, .int .i64 x.fin.k, .int .i64 x.fin.a, .int .i64 x.fin.t, .int .i64 x.fin.l] 69 (0, 0)) := heap_alloc_new w1 _
  have hbq : Beside R V ev ((w1.alloc (.cells #[.slice A0 x.phis.length c0, .slice A1 x.head.length c1, .slice A2 x.body.length c2, .slice A3 x.tail.length c3, .int .i64 x.fin.k, .int .i64 x.fin.a, .int .i64 x.fin.t, .int .i64 x.fin.l] 69)).drew) w1.heap.size := HW1.out.beside_new (Nat.le_refl _) (by show w1.heap.size < (w1.alloc _).heap.size; simp)
  obtain ⟨q, hq⟩ : ∃ q, q = w1.heap.size := ⟨_, rfl⟩
  rw [← hq] at hq2 hbq ⊢
  generalize (w1.alloc (.cells #[.slice A0 x.phis.length c0, .slice A1 x.head.length c1, .slice A2 x.body.length c2, .slice A3 x.tail.length c3, .int .i64 x.fin.k, .int .i64 x.fin.a, .int .i64 x.fin.t, .int .i64 x.fin.l] 69)).drew = w2 at *
  have HW2 := Lib.hid (HW1.out.below hB2)
  have HF2 : Hid (RF R V ev ev w w2) := HF1.out.trans (RF.below hB2)
  have HBQ2 := Lib.hid hbq
  have HQ2 := Lib.hid hq2
  have hHD : Hid ((mvA x.head (phS f x s)).length = s.σ.length ∧ (phS f x s).length = s.σ.length) := ⟨by rw [mvA_len]; exact mvA_len _ _, mvA_len _ _⟩
  clear hB2 hq2 hbq hq HKS Kd HW1 HF1
  go_wp2_with fail
  refine (phiMoves_any f Z wa _ _ B R V G s st val (vis + 1) ev HW2.out HA.out x HX.out HC.out).mono ?_
  rintro e w3 ⟨mv, rfl, hmv, hb3⟩
  have HW3 := Lib.hid (HW2.out.below hb3)
  have HF3 : Hid (RF R V ev ev w2 w3) := RF.below hb3
  have HMV := Lib.hid hmv.row
  have HZ3 : Hid (∀ k, w2.heap.size ≤ k ∧ k < w3.heap.size → Beside R V ev w3 k) := fun k hk => HW2.out.beside_new hk.1 hk.2
  have hl3 : (phM (wayF f s.at_ s.bef) x.phis).length ≤ 40 := by rw [phM_len]; omega
  clear hmv hb3
  go_wp2_with fail
  refine (moveAll_any f wa _ _ mv R V G s st val (vis + 1) ev _ _ HW3.out hVR HMV.out (fun k hk => HZ3.out k hk) HPM.out hl3).mono ?_
  rintro e w4 ⟨_, ev4, rfl, hw4, hf4⟩
  have HW4 : Hid (RF R V ev ev4 w2 w4 ∧ RW f wa w4 (.slice (some ⟨b, off, none⟩) f.blocks.length c) R V G { s with σ := phS f x s } st val (vis + 1) ev4) := ⟨HF3.out.trans hf4, hw4⟩
  have d1 : w4.cell? ⟨q, 1, none⟩ = some (.slice A1 x.head.length c1) := (HBQ2.out.cell HW4.out.1 1).trans (cell_of_row w2 q 1 _ _ (0, 0) HQ2.out)
  clear hw4 hf4 HW3 HF3 HMV HZ3 HPM hl3
  go_wp2_with fail
  refine (moveAll_any f wa _ _ _ R V G { s with σ := phS f x s } st val (vis + 1) ev4 Z x.head HW4.out.2 hVR (HR1.out.keep (HW4.out.2.kept HA.out) fun _ _ h => h) (fun k hk => HW4.out.2.ltZ HA.out hk) (fun j m hm => moveP_range (HBP.out.2.1.2.1 j m hm) (by rw [HN.out, ← hHD.out.2])) HBP.out.2.1.1).mono ?_
  rintro e w5 ⟨_, ev5, rfl, hw5, hf5⟩
  have HW5 : Hid (RF R V ev ev5 w2 w5 ∧ RW f wa w5 (.slice (some ⟨b, off, none⟩) f.blocks.length c) R V G { s with σ := mvA x.head (phS f x s) } st val (vis + 1) ev5) := ⟨HW4.out.1.trans hf5, hw5⟩
  have d2 : w5.cell? ⟨q, 2, none⟩ = some (.slice A2 x.body.length c2) := (HBQ2.out.cell HW5.out.1 2).trans (cell_of_row w2 q 2 _ _ (0, 0) HQ2.out)
  clear hw5 hf5 d1 HW4
  have h80 : x.body.length ≤ 80 := HBP.out.2.2.2.1
  obtain ⟨b0, hb0⟩ : ∃ b0 : BSt, b0 = ⟨mvA x.head (phS f x s), s.em⟩ := ⟨_, rfl⟩
  have HB0 := Lib.hid hb0
  have hbl0 : b0.σ.length = s.σ.length := by rw [hb0]; exact hHD.out.1
  have hbe0 : b0.em.length = s.em.length := by rw [hb0]
  clear hb0
  go_wp2_with fail
  go_loopw [35] (fun i wr => ∃ k : Nat, k ≤ x.body.length ∧ i = .int .i64 k ∧ ∃ evr : Value, Hid (RF R V ev evr w2 wr ∧ RW f wa wr (.slice (some ⟨b, off, none⟩) f.blocks.length c) R V G (s.put (bodyS x.body b0 k)) st val (vis + 1) evr)) (fun i _ => x.body.length - (intOf i).toNat)
  case atStart => exact ⟨0, Nat.zero_le _, rfl, ev5, HW5.out.1, by rw [HB0.out]; exact HW5.out.2⟩
  clear HW5 d2
  case round =>
    obtain ⟨k, hk, rfl, evr, HW⟩ := hrel
    by_cases hkl : k < x.body.length
    case pos =>
      have hkl' : (k : Int) < (x.body.length : Int) := by omega
      have hik : x.body[k]? = some x.body[k] := List.getElem?_eq_getElem hkl
      generalize x.body[k] = i at hik
      have HIK := Lib.hid hik
      have hkr := HR2.out.keep (HW.out.2.kept HA.out) (E' := EIns) fun _ _ h => h
      obtain ⟨_, _, _, e9, hrw⟩ := hkr
      injection e9 with e1 e0 e2
      clear e0
      subst e1 e2
      obtain ⟨b9, o9, rfl, hD9, hrw2⟩ := hrw (by rintro e; rw [e] at hkl; simp at hkl)
      obtain ⟨cs, hE, hcs⟩ := hrw2 k i hik
      subst hE
      have c0 := (hcs 0 _ rfl).1
      have c1 := (hcs 1 _ rfl).1
      have c2 := (hcs 2 _ rfl).1
      have c3 := (hcs 3 _ rfl).1
      rw [Nat.add_zero] at c0
      have HIP := Lib.hid (HBP.out.2.2.2.2 k i hik)
      have HSU : Hid (bodyS x.body b0 (k + 1) = insS i (bodyS x.body b0 k)) := bodyS_succ hik
      clear hik hcs hrw hrw2
      go_wp2_with fail
      have hB1 : Below wr.heap.size wr (wr.alloc (.cells #[.int .i64 i.op, .int .i64 i.v, .int .i64 i.a, .int .i64 i.b] 84)) := (Below.refl _ _).alloc (Nat.le_refl _) _
      have hbl := bodyS_len x.body b0 k
      have hbe := bodyS_em x.body b0 k
      refine (do_any f wa _ _ R V G (s.put (bodyS x.body b0 k)) st val (vis + 1) evr i (HW.out.2.below hB1) hVR (by
        have h := HIP.out
        rw [HN.out, ← hbl0, ← hbl] at h
        exact h) (by show (bodyS x.body b0 k).em.length ≤ 1000000; omega)).mono ?_
      rintro e w6 ⟨_, ev6, rfl, hw6, hf6⟩
      have HW6 : Hid (RF R V ev ev6 w2 w6 ∧ RW f wa w6 (.slice (some ⟨b, off, none⟩) f.blocks.length c) R V G (s.put (bodyS x.body b0 (k + 1))) st val (vis + 1) ev6) := ⟨HW.out.1.trans ((RF.below hB1).trans hf6), by rw [HSU.out]; exact hw6⟩
      clear hw6 hf6 hB1 hbl hbe c0 c1 c2 c3
      go_wp2_with fail
      go_roundw
      case rel => exact ⟨k + 1, by omega, by go_num, ev6, HW6.out⟩
      case measure => simp [intOf]; omega
    obtain rfl : k = x.body.length := by omega
    have hbl := bodyS_len x.body b0 x.body.length
    have HVB : Hid (visB f x s = ⟨mvA x.tail (bodyS x.body b0 x.body.length).σ, (bodyS x.body b0 x.body.length).em⟩) := by rw [HB0.out]; rfl
    generalize bodyS x.body b0 x.body.length = bs at *
    have d3 : wr.cell? ⟨q, 3, none⟩ = some (.slice A3 x.tail.length c3) := (HBQ2.out.cell HW.out.1 3).trans (cell_of_row w2 q 3 _ _ (0, 0) HQ2.out)
    go_wp2_with fail
    refine (moveAll_any f wa _ _ _ R V G (s.put bs) st val (vis + 1) evr Z x.tail HW.out.2 hVR (HR3.out.keep (HW.out.2.kept HA.out) fun _ _ h => h) (fun k hk => HW.out.2.ltZ HA.out hk) (fun j m hm => moveP_range (HBP.out.2.2.1.2.1 j m hm) (by rw [HN.out, ← hbl0, ← hbl]; rfl)) HBP.out.2.2.1.1).mono ?_
    rintro e w6 ⟨_, ev6, rfl, hw6, hf6⟩
    have HW6 : Hid (RF R V ev ev6 w2 w6 ∧ RW f wa w6 (.slice (some ⟨b, off, none⟩) f.blocks.length c) R V G (s.put (visB f x s)) st val (vis + 1) ev6) := ⟨HW.out.1.trans hf6, by rw [HVB.out]; exact hw6⟩
    have hq6 : ∀ j u, (#[Value.slice A0 x.phis.length c0, .slice A1 x.head.length c1, .slice A2 x.body.length c2, .slice A3 x.tail.length c3, .int .i64 x.fin.k, .int .i64 x.fin.a, .int .i64 x.fin.t, .int .i64 x.fin.l] : Array Value)[j]? = some u → w6.cell? ⟨q, j, none⟩ = some u := fun j u hu => (HBQ2.out.cell HW6.out.1 j).trans ((cell_of_row w2 q j _ _ (0, 0) HQ2.out).trans hu)
    have d4 := hq6 4 _ rfl
    have d5 := hq6 5 _ rfl
    have d6 := hq6 6 _ rfl
    have d7 := hq6 7 _ rfl
    clear hw6 hf6 d3 HW hq6
    go_wp2_with fail
    refine (endingOf_any x.fin _).mono ?_
    rintro e w7 ⟨rfl, hb7⟩
    have HW7 : Hid (RF R V ev ev6 w2 w7 ∧ RW f wa w7 (.slice (some ⟨b, off, none⟩) f.blocks.length c) R V G (s.put (visB f x s)) st val (vis + 1) ev6) := ⟨HW6.out.1.trans (RF.below hb7), HW6.out.2.below hb7⟩
    clear hb7 HW6 d4 d5 d6 d7
    go_wp2_with fail
    refine (leaveBy_any f wa _ _ R V G (s.put (visB f x s)) st val (vis + 1) ev6 x HW7.out.2 hVR (by
      have h := HBP.out.1
      have hl := visB_len f x s
      rw [HN.out, ← hl] at h
      exact h)).mono ?_
    rintro e w8 ⟨s', st', val', hlv, _, ev8, rfl, hw8, hf8⟩
    have HLV := Lib.hid hlv
    have HW8 : Hid (RF R V ev ev8 w w8 ∧ RW f wa w8 (.slice (some ⟨b, off, none⟩) f.blocks.length c) R V G s' st' val' (vis + 1) ev8) := ⟨HF2.out.trans (HW7.out.1.trans hf8), hw8⟩
    clear hlv hw8 hf8
    go_wp2_with fail
    exact bodyPost_end (results_none Tryz.results33 _ _ _) rfl ⟨s', st', val', HLV.out, _, ev8, rfl, HW8.out.2, HW8.out.1⟩
end

/- canRun and startOf of the program. -/
section
open Go.ChangeShapes Go.WideShapes Go.ChangeAt Go.RowKit Go.Joins

theorem RI.below {w w' : World} {v : Value} {xs : List Int} (h : RI w v xs) (hb : Below w.heap.size w w') : RI w' v xs := by
  obtain ⟨h1, A, c, rfl, h2⟩ := h
  refine ⟨h1, A, c, rfl, fun hne => ?_⟩
  obtain ⟨b, off, rfl, h3⟩ := h2 hne
  exact ⟨b, off, rfl, fun k u hu => (hb.cell (p := ⟨b, _, none⟩) (World.block_lt_of_cell? w ⟨b, _, none⟩ (h3 k u hu))).trans (h3 k u hu)⟩

set_option maxHeartbeats 400000 in
theorem badArg_any (x : Int) (w : World) : Calls Tryz.prog 60 #[.int .i64 x] w fun e w' => e = .returned (.bool (!isValueB x)) ∧ w = w' := by
  go_enter Tryz.func60, Tryz.ntmps60
  go_wp2_with (go_at_call 61; refine (isValue_any _ _).mono ?_; rintro e w' ⟨rfl, rfl⟩)
  go_ret
  exact ⟨rfl, rfl⟩

def BadArgs (xs : List Int) : Prop := ∃ (j : Nat) (x : Int), xs[j]? = some x ∧ isValueB x = false

set_option maxHeartbeats 1000000 in
theorem IndexF_any (v : Value) (xs : List Int) (w : World) (hv : RI w v xs) :
    Calls Tryz.prog 91 #[v, .func (.func 60) #[] #[]] w fun e w' => (∃ k : Int, e = .returned (.int .i64 k) ∧ Hid (0 ≤ k ↔ BadArgs xs)) ∧ w = w' := by
  obtain ⟨hl, A, c, rfl, hx⟩ := hv
  go_enter Tryz.func91, Tryz.ntmps91
  go_wp2_with fail
  go_loop [8] (fun q => ∃ k : Nat, k ≤ xs.length ∧ q = .int .i64 k ∧ Hid (∀ (j : Nat) x, j < k → xs[j]? = some x → isValueB x = true)) (fun q => xs.length - (intOf q).toNat)
  case atStart => exact ⟨0, Nat.zero_le _, rfl, fun _ _ h => absurd h (by omega)⟩
  case round =>
    obtain ⟨k, hk, rfl, HF⟩ := hrel
    by_cases hkl : k < xs.length
    case neg =>
      obtain rfl : k = xs.length := by omega
      have HE : Hid ((0 : Int) ≤ -1 ↔ BadArgs xs) := by
        constructor
        · intro h; omega
        · rintro ⟨j, x, hj, hb⟩
          have := HF.out j x (List.getElem?_eq_some_iff.1 hj).1 hj
          rw [this] at hb; cases hb
      go_wp2
      go_ret
      exact ⟨⟨-1, rfl, HE⟩, rfl⟩
    have hxk : xs[k]? = some xs[k] := List.getElem?_eq_getElem hkl
    generalize xs[k] = y at hxk
    obtain ⟨b, off, rfl, hx'⟩ := hx (by rintro rfl; simp at hkl)
    have hc := hx' k _ hxk
    have hkl' : (k : Int) < (xs.length : Int) := by omega
    have Hxk := Lib.hid hxk
    clear hx hx' hxk
    by_cases hb : isValueB y = true
    · have HF' : Hid (∀ (j : Nat) x, j < k + 1 → xs[j]? = some x → isValueB x = true) := fun j x hj hx => by
        by_cases e : j = k
        · subst e; rw [Hxk.out] at hx; injection hx with hx; subst hx; exact hb
        · exact HF.out j x (by omega) hx
      go_wp2_with (go_at_call 60; refine (badArg_any _ _).mono ?_; rintro e w' ⟨rfl, rfl⟩)
      go_round
      case rel => exact ⟨k + 1, by omega, by go_num, HF'⟩
      case measure => simp [intOf]; omega
    · have hb' : isValueB y = false := by simpa using hb
      have HE : Hid ((0 : Int) ≤ k ↔ BadArgs xs) := ⟨fun _ => ⟨k, y, Hxk.out, hb'⟩, fun _ => by omega⟩
      clear hb
      go_wp2_with (go_at_call 60; refine (badArg_any _ _).mono ?_; rintro e w' ⟨rfl, rfl⟩)
      go_ret
      exact ⟨⟨k, rfl, HE⟩, rfl⟩

set_option maxHeartbeats 400000 in
theorem ContainsF_any (v : Value) (xs : List Int) (w : World) (hv : RI w v xs) :
    Calls Tryz.prog 59 #[v, .func (.func 60) #[] #[]] w fun e w' => (∃ b : Bool, e = .returned (.bool b) ∧ Hid (b = true ↔ BadArgs xs)) ∧ w = w' := by
  have HV := Lib.hid hv
  obtain ⟨_, A, c, rfl, _⟩ := hv
  go_enter Tryz.func59, Tryz.ntmps59
  go_wp2_with fail
  refine (IndexF_any _ xs _ HV.out).mono ?_
  rintro e w' ⟨⟨k, rfl, HK⟩, rfl⟩
  have HB : Hid (decide (0 ≤ k) = true ↔ BadArgs xs) := by rw [Hid, decide_eq_true_iff]; exact HK.out
  go_wp2_with fail
  go_ret
  exact ⟨⟨decide (0 ≤ k), rfl, HB⟩, rfl⟩

theorem canRun_iff {f : FunD} {args : List Int} {fuel : Int} (h1 : FunP f) (h2 : (args.length : Int) = f.params) (h3 : 0 ≤ fuel) (h4 : fuel ≤ 500) : ¬ BadArgs args ↔ CanRun f args fuel := by
  constructor
  · intro h
    refine ⟨h1, h2, ⟨h3, h4⟩, fun a ha => ?_⟩
    obtain ⟨j, hj⟩ := List.mem_iff_getElem?.1 ha
    cases hv : isValueB a with
    | false => exact absurd ⟨j, a, hj, hv⟩ h
    | true => exact isValueB_iff.1 hv
  · rintro ⟨_, _, _, h⟩ ⟨j, x, hj, hb⟩
    have := h x (List.mem_of_getElem? hj)
    rw [← isValueB_iff] at this
    rw [this] at hb; cases hb

set_option maxHeartbeats 1000000 in
theorem canRun_any (f : FunD) (v va : Value) (args : List Int) (fuel : Int) (w : World) (Z : Zn) (hv : EFun w Z f v) (hD : ∀ b, Z.D b → b < w.heap.size) (hn : f.blocks.length ≤ 1048576) (ha : RI w va args) :
    Calls Tryz.prog 31 #[v, va, .int .i64 fuel] w (GivesB (CanRun f args fuel) w) := by
  have HF := Lib.hid hv
  have HRA := Lib.hid ha
  have hal := ha.1
  obtain ⟨u, rfl, hu⟩ := hv
  obtain ⟨_, A, c, rfl, hx⟩ := hu
  obtain ⟨_, Aa, ca, rfl, _⟩ := ha
  clear hx
  go_enter Tryz.func31, Tryz.ntmps31
  go_wp2_with fail
  refine (FunOk_any f _ _ Z (HF.out.keep (Kept.below ((Below.refl _ _).alloc (Nat.le_refl _) _) hD)) (fun b hb => by have := hD b hb; simp; omega) hn).mono ?_
  rintro e w1 ⟨r, rfl, hr, hb1⟩
  have HR := Lib.hid hr
  have HB1 := Lib.hid (hb1.mono (B' := w.heap.size + 1) (by simp))
  have HB01 : Hid (Below w.heap.size w w1) := ((Below.refl _ _).alloc (Nat.le_refl _) _).trans (HB1.out.mono (by omega))
  have f0 : w1.cell? ⟨w.heap.size, 0, none⟩ = some (.int .i64 f.params) := (HB1.out.cell (p := ⟨w.heap.size, 0, none⟩) (by simp)).trans (by go_simp)
  have HRA1 := Lib.hid (HRA.out.below HB01.out)
  clear hb1 hr
  cases r
  · have HN : Hid (¬ CanRun f args fuel) := fun h => by have := HR.out.2 h.1; cases this
    go_wp2_with fail
    go_ret
    exact gives_no HN.out HB01.out
  have HP := Lib.hid (HR.out.1 rfl)
  clear HR
  by_cases h2 : (args.length : Int) = f.params
  case neg =>
    have HN : Hid (¬ CanRun f args fuel) := fun h => h2 h.2.1
    have hb : ((args.length : Int) != f.params) = true := by simpa using h2
    clear h2
    go_wp2_with fail
    go_ret
    exact gives_no HN.out HB01.out
  have hb : ((args.length : Int) != f.params) = false := by simpa using h2
  have H2 := Lib.hid h2
  clear h2
  by_cases h3 : 0 ≤ fuel
  case neg =>
    have HN : Hid (¬ CanRun f args fuel) := fun h => h3 h.2.2.1.1
    have h3' : fuel < 0 := by omega
    clear h3
    go_wp2_with fail
    go_ret
    exact gives_no HN.out HB01.out
  have H3 := Lib.hid h3
  by_cases h4 : fuel ≤ 500
  case neg =>
    have HN : Hid (¬ CanRun f args fuel) := fun h => h4 h.2.2.1.2
    have h4' : 500 < fuel := by omega
    clear h4
    go_wp2_with fail
    go_ret
    exact gives_no HN.out HB01.out
  have H4 := Lib.hid h4
  go_wp2_with fail
  refine (ContainsF_any _ args _ HRA1.out).mono ?_
  rintro e w' ⟨⟨b, rfl, HK⟩, rfl⟩
  have HCR := Lib.hid (canRun_iff HP.out H2.out H3.out H4.out)
  clear h3 h4
  go_wp2_with fail
  go_ret
  refine ⟨!b, rfl, ?_, HB01.out⟩
  rw [← HCR.out, ← HK.out]
  cases b <;> simp
end

/- startOf of the program. -/
section
open Go.ChangeShapes Go.WideShapes Go.ChangeAt Go.RowKit Go.Joins

def GivesStart (f : FunD) (args : List Int) (Z : Zn) (w : World) (e : Ending) (w' : World) : Prop :=
  ∃ (V G : Nat) (bl : Value), e = .returned (.agg (runCells f bl V G f.names.toNat (startS f args) 1 0 (.slice none 0 0) 0)) ∧ RA f Z w' bl w.heap.size V G ∧ IL w' V f.names.toNat (startS f args).σ ∧ Below w.heap.size w w'

theorem PRow.fwR {w w' : World} {B G n : Nat} {row : Nat → List Int} {P : Nat → Prop} (h : PRow w B G n row) (hf : Fw P w w') (hG : ¬ P G) (hn : ∀ k, B ≤ k → k < w.heap.size → ¬ P k) : PRow w' B G n row := by
  have hlt := h.lt
  obtain ⟨cur, h1, h2, h3, h4⟩ := h
  refine ⟨cur, (hf.block _ hlt hG).trans h1, h2, fun j hj => ?_, h4⟩
  obtain ⟨v, hv, ho⟩ := h3 j hj
  exact ⟨v, hv, ho.fw hf fun k hk => hn k (ho.lt k hk).1 (ho.lt k hk).2⟩
theorem splice_start {n : Nat} (xs : List Int) : splice (List.replicate n (Value.int .i64 0)) 0 (xs.map iv) = (xs ++ List.replicate (n - xs.length) 0).map iv := by
  unfold splice
  rw [List.take_zero, List.nil_append, Nat.zero_add, List.length_map, List.drop_replicate, List.map_append, List.map_replicate]; rfl

set_option maxRecDepth 10000 in
set_option maxHeartbeats 2000000 in
theorem startOf_any (f : FunD) (v va : Value) (args : List Int) (w : World) (Z : Zn) (hp : FunP f) (hv : EFun w Z f v) (hD : ∀ b, Z.D b → b < w.heap.size) (ha : RI w va args) (hl : (args.length : Int) = f.params) :
    Calls Tryz.prog 32 #[v, va] w (GivesStart f args Z w) := by
  have HP := Lib.hid hp
  have HRA := Lib.hid ha
  obtain ⟨u, rfl, hu⟩ := hv
  have HROW := Lib.hid hu
  obtain ⟨_, A, c, rfl, hx⟩ := hu
  obtain ⟨_, Aa, ca, rfl, hax⟩ := ha
  have HAX := Lib.hid hax
  obtain ⟨n, hnn⟩ : ∃ n : Nat, f.names = n := ⟨f.names.toNat, by have := hp.1.2.1.1; omega⟩
  have hn150 : n ≤ 150 := by have := hp.1.2.1.2; omega
  have hpn : args.length ≤ n := by have := hp.1.2.2.2.1; omega
  have h40 := hp.1.1.2
  have HNN := Lib.hid hnn
  have HL := Lib.hid hl
  obtain ⟨i0, hi, hz0, hz1, hz2⟩ := info_parts info_int
  have hmk := fun W => run_make_rowN (P := Tryz.prog) 27 2 i0 _ Tryz.underlying27 hi hz0 .i64 .i64 n n (Nat.le_refl _) (by rw [hz2]; omega) (by omega) W
  rw [hz1] at hmk
  simp only [Nat.mul_one] at hmk
  rw [hnn]
  clear hx hax hi hz0 hz1 hz2 hp hnn hl
  go_enter Tryz.func32, Tryz.ntmps32
  go_upto_region 2 with fail
  have hT := IL.start ((w.alloc (.cells #[.int .i64 f.params, .int .i64 n, .slice A f.blocks.length c] 26)).alloc (.cells #[.slice none 0 0, .slice none 0 0, .slice none 0 0, .int .i64 0, .int .i64 0, .int .i64 0, .int .i64 0, .slice none 0 0, .int .i64 0] 59)) n (by rw [maxLen_is]; omega)
  have hV0 : (((w.alloc (.cells #[.int .i64 f.params, .int .i64 n, .slice A f.blocks.length c] 26)).alloc (.cells #[.slice none 0 0, .slice none 0 0, .slice none 0 0, .int .i64 0, .int .i64 0, .int .i64 0, .int .i64 0, .slice none 0 0, .int .i64 0] 59))).heap.size = w.heap.size + 2 := by simp
  have hb0 : Below w.heap.size w (((w.alloc (.cells #[.int .i64 f.params, .int .i64 n, .slice A f.blocks.length c] 26)).alloc (.cells #[.slice none 0 0, .slice none 0 0, .slice none 0 0, .int .i64 0, .int .i64 0, .int .i64 0, .int .i64 0, .slice none 0 0, .int .i64 0] 59)).alloc (.cells (madeCells #[.int .i64 0] n) 2)) := by
    repeat (first | exact Below.refl _ _ | refine Below.alloc ?_ (by first | (simp; done) | (simp; omega)) _)
  have k2 : (((w.alloc (.cells #[.int .i64 f.params, .int .i64 n, .slice A f.blocks.length c] 26)).alloc (.cells #[.slice none 0 0, .slice none 0 0, .slice none 0 0, .int .i64 0, .int .i64 0, .int .i64 0, .int .i64 0, .slice none 0 0, .int .i64 0] 59)).alloc (.cells (madeCells #[.int .i64 0] n) 2)).cell? ⟨w.heap.size, 2, none⟩ = some (.slice A f.blocks.length c) := by go_simp
  have hq0 : (((w.alloc (.cells #[.int .i64 f.params, .int .i64 n, .slice A f.blocks.length c] 26)).alloc (.cells #[.slice none 0 0, .slice none 0 0, .slice none 0 0, .int .i64 0, .int .i64 0, .int .i64 0, .int .i64 0, .slice none 0 0, .int .i64 0] 59)).alloc (.cells (madeCells #[.int .i64 0] n) 2)).heap[w.heap.size + 1]? = some (.cells #[.slice none 0 0, .slice none 0 0, .slice none 0 0, .int .i64 0, .int .i64 0, .int .i64 0, .int .i64 0, .slice none 0 0, .int .i64 0] 59 (0, 0)) := by
    have h1 := heap_alloc_new (w.alloc (.cells #[.int .i64 f.params, .int .i64 n, .slice A f.blocks.length c] 26)) (.cells #[.slice none 0 0, .slice none 0 0, .slice none 0 0, .int .i64 0, .int .i64 0, .int .i64 0, .int .i64 0, .slice none 0 0, .int .i64 0] 59)
    simp only [World.size_alloc] at h1
    rw [← h1]
    exact Below.heap_alloc _ _ _ (by simp)
  have hv0 : (((w.alloc (.cells #[.int .i64 f.params, .int .i64 n, .slice A f.blocks.length c] 26)).alloc (.cells #[.slice none 0 0, .slice none 0 0, .slice none 0 0, .int .i64 0, .int .i64 0, .int .i64 0, .int .i64 0, .slice none 0 0, .int .i64 0] 59)).alloc (.cells (madeCells #[.int .i64 0] n) 2)).heap[w.heap.size + 1 + 1]? = some (.cells (List.replicate n (Value.int .i64 0)).toArray 2 (0, 0)) := by
    have h1 := heap_alloc_new ((w.alloc (.cells #[.int .i64 f.params, .int .i64 n, .slice A f.blocks.length c] 26)).alloc (.cells #[.slice none 0 0, .slice none 0 0, .slice none 0 0, .int .i64 0, .int .i64 0, .int .i64 0, .int .i64 0, .slice none 0 0, .int .i64 0] 59)) (.cells (madeCells #[.int .i64 0] n) 2)
    simp only [World.size_alloc] at h1
    rw [h1]
    congr 2
    apply Array.ext'
    rw [toList_madeCells_one]
  have hs3 : (((w.alloc (.cells #[.int .i64 f.params, .int .i64 n, .slice A f.blocks.length c] 26)).alloc (.cells #[.slice none 0 0, .slice none 0 0, .slice none 0 0, .int .i64 0, .int .i64 0, .int .i64 0, .int .i64 0, .slice none 0 0, .int .i64 0] 59)).alloc (.cells (madeCells #[.int .i64 0] n) 2)).heap.size = w.heap.size + 3 := by simp
  clear hT hV0
  obtain ⟨F, hF⟩ : ∃ F, F = w.heap.size := ⟨_, rfl⟩
  obtain ⟨Q, hQ⟩ : ∃ Q, Q = F + 1 := ⟨_, rfl⟩
  obtain ⟨V, hV⟩ : ∃ V, V = Q + 1 := ⟨_, rfl⟩
  rw [← hF, ← hQ, ← hV] at hv0
  rw [← hF, ← hQ] at hq0
  rw [← hF] at k2 hb0 hs3
  rw [← hF, ← hQ, ← hV]
  have HB0 : Hid (Below w.heap.size w (((w.alloc (.cells #[.int .i64 f.params, .int .i64 n, .slice A f.blocks.length c] 26)).alloc (.cells #[.slice none 0 0, .slice none 0 0, .slice none 0 0, .int .i64 0, .int .i64 0, .int .i64 0, .int .i64 0, .slice none 0 0, .int .i64 0] 59)).alloc (.cells (madeCells #[.int .i64 0] n) 2))) := by rw [Hid, ← hF]; exact hb0
  generalize ((w.alloc (.cells #[.int .i64 f.params, .int .i64 n, .slice A f.blocks.length c] 26)).alloc (.cells #[.slice none 0 0, .slice none 0 0, .slice none 0 0, .int .i64 0, .int .i64 0, .int .i64 0, .int .i64 0, .slice none 0 0, .int .i64 0] 59)).alloc (.cells (madeCells #[.int .i64 0] n) 2) = w3 at *
  have HPOS : Hid (0 < (args.map iv).length → ∃ ad, Aa = some ad ∧ ∀ (j : Nat) (u : Value), (args.map iv)[j]? = some u → w3.cell? (ad.add j) = some u) := fun h0 => by
    obtain ⟨b, off, rfl, hc⟩ := HAX.out (by rintro rfl; simp at h0)
    refine ⟨_, rfl, fun j u hu => ?_⟩
    rw [List.getElem?_map] at hu
    cases hj : args[j]? with
    | none => rw [hj] at hu; cases hu
    | some x =>
      rw [hj] at hu
      simp only [Option.map_some, Option.some.injEq] at hu
      subst hu
      have h1 := hc j x hj
      rw [show (⟨b, off, none⟩ : Addr).add j = ⟨b, off + j, none⟩ by simp [Addr.add]]
      exact (HB0.out.cell (p := ⟨b, _, none⟩) (World.block_lt_of_cell? w ⟨b, _, none⟩ h1)).trans h1
  have HV0 := Lib.hid hv0
  have HQ0 := Lib.hid hq0
  have hFl : F < w3.heap.size := by omega
  have hQV : Q < V := by omega
  have hFQ : F < Q := by omega
  have hWF : Hid (w.heap.size = F) := hF.symm
  clear hv0 hq0 hb0 hF hQ hV
  obtain ⟨w4, hcp, hg4, hb4⟩ : ∃ w4, (Builtin.copy_ #[27, 27] 3 #[.slice (some ⟨V, 0, none⟩) n n, .slice Aa args.length ca]).run Tryz.prog w3 = .ok (.int .i64 args.length) w4 ∧ Hid (w4.heap[V]? = some (.cells (splice (List.replicate n (Value.int .i64 0)) 0 (args.map iv)).toArray 2 (0, 0))) ∧ Below V w3 w4 := by
    by_cases h0 : args.length = 0
    · obtain rfl : args = [] := List.length_eq_zero_iff.1 h0
      exact ⟨w3, run_copy_none w3 _ _ _ 2 _ _ _ _ _ _ Tryz.underlying27 (by kernel_rfl) (by simp), (show _ = _ by simpa [splice] using HV0.out), Below.refl _ _⟩
    · obtain ⟨ad, rfl, hc⟩ := HPOS.out (by rw [List.length_map]; omega)
      have h := run_copy_row (P := Tryz.prog) w3 27 27 3 2 V 0 n n ad args.length ca _ 2 (args.map iv) Tryz.underlying27 (by kernel_rfl) HV0.out (by rw [List.length_map]; exact (Nat.min_eq_left hpn).symm) hc (by simp; exact hpn) (by intro u hu; obtain ⟨x, _, rfl⟩ := List.mem_map.1 hu; rfl)
      rw [List.length_map] at h
      exact ⟨_, h, (show _ = _ by simpa [splice] using setRow_heap w3 V _ _ _ _ HV0.out), below_setRow (Below.refl _ _) (Nat.le_refl _) _⟩
  have hV4 : V < w4.heap.size := (Array.getElem?_eq_some_iff.1 hg4.out).1
  rw [splice_start args] at hg4
  have HB4 := Lib.hid hb4
  have HBW4 : Hid (Below w.heap.size w w4) := HB0.out.trans (hb4.mono (by rw [hWF.out]; omega))
  have k4 : w4.cell? ⟨F, 2, none⟩ = some (.slice A f.blocks.length c) := (hb4.cell (p := ⟨F, 2, none⟩) (show F < V by omega)).trans k2
  have HQ4 : Hid (w4.heap[Q]? = some (.cells #[.slice none 0 0, .slice none 0 0, .slice none 0 0, .int .i64 0, .int .i64 0, .int .i64 0, .int .i64 0, .slice none 0 0, .int .i64 0] 59 (0, 0))) := (hb4.block Q hQV).trans HQ0.out
  have HIL4 : Hid (IL w4 V n (args ++ List.replicate (n - args.length) 0)) := IL.mk (by simp; omega) ⟨by simp; omega, .inr ⟨V, n, _, rfl, Nat.le_refl _, hg4.out, Nat.le_refl _, by rw [maxLen_is]; omega, by simp; omega, by rw [List.toList_toArray, List.take_of_length_le (by simp; omega)]⟩⟩
  have hF4 : F < w4.heap.size := by omega
  clear hb4 hg4 k2 HV0 HPOS
  go_upto_region 3 with fail
  clear hcp
  have HKS : Hid (∀ w', Below w4.heap.size w4 w' → (fun w' => w'.cell? ⟨F, 2, none⟩ = some (.slice A f.blocks.length c)) w') := fun w' hb => (hb.cell (p := ⟨F, 2, none⟩) hF4).trans k4
  have Kd : (fun w' => w'.cell? ⟨F, 2, none⟩ = some (.slice A f.blocks.length c)) w4.drew := HKS.out _ (Below.refl _ _).drew
  clear k4
  refine wp_region_offL (S := ((fun w' => w'.cell? ⟨F, 2, none⟩ = some (.slice A f.blocks.length c)))) (by simp) (by kernel_rfl) (by kernel_rfl) (by kernel_rfl) (by kernel_rfl) (by kernel_rfl) ?_ (fun hHeld => ?_)
  · (try dsimp only)
    (first | exact Kd | exact HK7.out | fail)
  simp only [List.dropLast_cons_cons, List.dropLast_singleton, List.length_cons, List.length_nil]
  refine wpAnyH_take (i := 0) (v := ?_) rfl (by kernel_rfl) (by kernel_rfl) (by kernel_rfl) (fun _ _ _ h => h) (Or.inl ⟨by rfl, ?_⟩) (by assumption) ?_
  rotate_left
  · intro w hSw
    simp only [List.getElem_toArray, List.getElem_cons_zero]
    (try dsimp only at hSw)
    go_simp
    first | done | (with_reducible rfl)
  simp only [List.getElem_toArray, List.getElem_cons_zero, Act.put, List.setIfInBounds_toArray, List.set_cons_zero, List.set_cons_succ]
  refine wpAnyH_take (i := 1) (v := ?_) rfl (by kernel_rfl) (by kernel_rfl) (by kernel_rfl) (fun _ _ _ h => h) (Or.inl ⟨by rfl, ?_⟩) (by assumption) ?_
  rotate_left
  · intro w hSw
    simp only [List.getElem_toArray, List.getElem_cons_succ, List.getElem_cons_zero]
    (try dsimp only at hSw)
    go_simp
    first | done | (with_reducible rfl)
  simp only [List.getElem_toArray, List.getElem_cons_succ, List.getElem_cons_zero, Act.put, List.setIfInBounds_toArray, List.set_cons_zero, List.set_cons_succ]
  refine wpAnyH_take (i := 2) (v := ?_) rfl (by kernel_rfl) (by kernel_rfl) (by kernel_rfl) (fun _ _ _ h => h) (Or.inl ⟨by rfl, ?_⟩) (by assumption) ?_
  rotate_left
  · intro w hSw
    simp only [List.getElem_toArray, List.getElem_cons_succ, List.getElem_cons_zero]
    (try dsimp only at hSw)
    go_simp
    first | done | (with_reducible rfl)
  simp only [List.getElem_toArray, List.getElem_cons_succ, List.getElem_cons_zero, Act.put, List.setIfInBounds_toArray, List.set_cons_zero, List.set_cons_succ]
  refine wpAnyH_take (i := 3) (v := ?_) rfl (by kernel_rfl) (by kernel_rfl) (by kernel_rfl) (fun _ _ _ h => h) (Or.inl ⟨by rfl, ?_⟩) (by assumption) ?_
  rotate_left
  · intro w hSw
    simp only [List.getElem_toArray, List.getElem_cons_succ, List.getElem_cons_zero]
    (try dsimp only at hSw)
    go_simp
    first | done | (with_reducible rfl)
  simp only [List.getElem_toArray, List.getElem_cons_succ, List.getElem_cons_zero, Act.put, List.setIfInBounds_toArray, List.set_cons_zero, List.set_cons_succ]
  refine wpAnyH_take (i := 5) (v := ?_) rfl (by kernel_rfl) (by kernel_rfl) (by kernel_rfl) (fun _ _ _ h => h) (Or.inl ⟨by rfl, ?_⟩) (by assumption) ?_
  rotate_left
  · intro w hSw
    simp only [List.getElem_toArray, List.getElem_cons_succ, List.getElem_cons_zero]
    (try dsimp only at hSw)
    go_simp
    first | done | (with_reducible rfl)
  simp only [List.getElem_toArray, List.getElem_cons_succ, List.getElem_cons_zero, Act.put, List.setIfInBounds_toArray, List.set_cons_zero, List.set_cons_succ]
  refine wpAnyH_take (i := 6) (v := ?_) rfl (by kernel_rfl) (by kernel_rfl) (by kernel_rfl) (fun _ _ _ h => h) (Or.inl ⟨by rfl, ?_⟩) (by assumption) ?_
  rotate_left
  · intro w hSw
    simp only [List.getElem_toArray, List.getElem_cons_succ, List.getElem_cons_zero]
    (try dsimp only at hSw)
    go_simp
    first | done | (with_reducible rfl)
  simp only [List.getElem_toArray, List.getElem_cons_succ, List.getElem_cons_zero, Act.put, List.setIfInBounds_toArray, List.set_cons_zero, List.set_cons_succ]
  refine wpAnyH_ready (rs := [4]) (by kernel_rfl) (by simp) ?_
  refine AllReadyH.cons rfl (fun KZ hKZ => ?_) AllReadyH.nil
  simp only [List.getElem_toArray, List.getElem_cons_succ, List.getElem_cons_zero]
  go_simp
  (first | (go_at_call 62; refine (predsOfAll_any _ f.blocks _ Z (HROW.out.keep (Kept.below (below_drewN HBW4.out 1) hD) fun _ _ h => EBlock.keep h (Kept.below (below_drewN HBW4.out 1) hD)) (fun b hb => by have h1 := hD b hb; have h2 := HBW4.out.size; show b < w4.heap.size; omega) (by omega)).mono ?_; rintro e w7 ⟨rfl, hp7, hb7⟩; have HB7 : Hid (Below w4.heap.size w4 w7) := (Below.refl _ _).drew.trans hb7; have HP7 : Hid (PRow w7 (w4.heap.size + 1) w4.heap.size f.blocks.length (fun j => predsK succsE f.blocks f.blocks.length j)) := hp7; have HK7 := Lib.hid (HKS.out w7 HB7.out); clear hb7 hp7) | fail)
  go_wp2_with fail
  refine hKZ.out _ _ ?_ (fun hHeld => ?_)
  · (try dsimp only)
    (first | exact Kd | exact HK7.out | fail)
  clear hKZ KZ
  (try simp only [List.getElem_toArray, List.getElem_cons_succ, List.getElem_cons_zero, Act.put, List.setIfInBounds_toArray, List.set_cons_zero, List.set_cons_succ])
  refine wpAnyH_take (i := 7) (v := ?_) rfl (by kernel_rfl) (by kernel_rfl) (by kernel_rfl) (fun _ _ _ h => h) (Or.inl ⟨by rfl, ?_⟩) (by assumption) ?_
  rotate_left
  · intro w hSw
    simp only [List.getElem_toArray, List.getElem_cons_succ, List.getElem_cons_zero]
    (try dsimp only at hSw)
    go_simp
    first | done | (with_reducible rfl)
  simp only [List.getElem_toArray, List.getElem_cons_succ, List.getElem_cons_zero, Act.put, List.setIfInBounds_toArray, List.set_cons_zero, List.set_cons_succ]
  refine wpAnyH_done (by kernel_rfl) ?_ _
  have HQ7 : Hid (w7.heap[Q]? = some (.cells #[.slice none 0 0, .slice none 0 0, .slice none 0 0, .int .i64 0, .int .i64 0, .int .i64 0, .int .i64 0, .slice none 0 0, .int .i64 0] 59 (0, 0))) := (HB7.out.block Q (by omega)).trans HQ4.out
  have qc0 := cell_of_row w7 Q 0 _ _ (0, 0) HQ7.out
  have qf0 := frozen_of_row w7 Q 0 _ _ HQ7.out
  have qc1 := cell_of_row w7 Q 1 _ _ (0, 0) HQ7.out
  have qf1 := frozen_of_row w7 Q 1 _ _ HQ7.out
  have qc2 := cell_of_row w7 Q 2 _ _ (0, 0) HQ7.out
  have qf2 := frozen_of_row w7 Q 2 _ _ HQ7.out
  have qc3 := cell_of_row w7 Q 3 _ _ (0, 0) HQ7.out
  have qf3 := frozen_of_row w7 Q 3 _ _ HQ7.out
  have qc4 := cell_of_row w7 Q 4 _ _ (0, 0) HQ7.out
  have qf4 := frozen_of_row w7 Q 4 _ _ HQ7.out
  have qc5 := cell_of_row w7 Q 5 _ _ (0, 0) HQ7.out
  have qf5 := frozen_of_row w7 Q 5 _ _ HQ7.out
  have qc6 := cell_of_row w7 Q 6 _ _ (0, 0) HQ7.out
  have qf6 := frozen_of_row w7 Q 6 _ _ HQ7.out
  have qc7 := cell_of_row w7 Q 7 _ _ (0, 0) HQ7.out
  have qf7 := frozen_of_row w7 Q 7 _ _ HQ7.out
  have qc8 := cell_of_row w7 Q 8 _ _ (0, 0) HQ7.out
  have qf8 := frozen_of_row w7 Q 8 _ _ HQ7.out
  have HFW : Hid (Fw (· = Q) w7 (((((((((w7.setCell ⟨Q, 0, none⟩ (.slice A f.blocks.length c)).setCell ⟨Q, 1, none⟩ (.slice (some ⟨w4.heap.size, 0, none⟩) f.blocks.length f.blocks.length)).setCell ⟨Q, 2, none⟩ (.slice (some ⟨V, 0, none⟩) n n)).setCell ⟨Q, 3, none⟩ (.int .i64 0)).setCell ⟨Q, 4, none⟩ (.int .i64 0)).setCell ⟨Q, 5, none⟩ (.int .i64 1)).setCell ⟨Q, 6, none⟩ (.int .i64 0)).setCell ⟨Q, 7, none⟩ (.slice none 0 0)).setCell ⟨Q, 8, none⟩ (.int .i64 0))) := ((((((((((Fw.refl (· = Q) w7).trans (Fw.set (P := (· = Q)) _ rfl 0 (.slice A f.blocks.length c)) (fun _ _ h => h)).trans (Fw.set (P := (· = Q)) _ rfl 1 (.slice (some ⟨w4.heap.size, 0, none⟩) f.blocks.length f.blocks.length)) (fun _ _ h => h)).trans (Fw.set (P := (· = Q)) _ rfl 2 (.slice (some ⟨V, 0, none⟩) n n)) (fun _ _ h => h)).trans (Fw.set (P := (· = Q)) _ rfl 3 (.int .i64 0)) (fun _ _ h => h)).trans (Fw.set (P := (· = Q)) _ rfl 4 (.int .i64 0)) (fun _ _ h => h)).trans (Fw.set (P := (· = Q)) _ rfl 5 (.int .i64 1)) (fun _ _ h => h)).trans (Fw.set (P := (· = Q)) _ rfl 6 (.int .i64 0)) (fun _ _ h => h)).trans (Fw.set (P := (· = Q)) _ rfl 7 (.slice none 0 0)) (fun _ _ h => h)).trans (Fw.set (P := (· = Q)) _ rfl 8 (.int .i64 0)) (fun _ _ h => h))
  refine offQ_last rfl (fun KL hKL => ?_)
  go_simp
  refine hKL.out _ _ ?_
  have HWQ : Hid (((((((((((w7.setCell ⟨Q, 0, none⟩ (.slice A f.blocks.length c)).setCell ⟨Q, 1, none⟩ (.slice (some ⟨w4.heap.size, 0, none⟩) f.blocks.length f.blocks.length)).setCell ⟨Q, 2, none⟩ (.slice (some ⟨V, 0, none⟩) n n)).setCell ⟨Q, 3, none⟩ (.int .i64 0)).setCell ⟨Q, 4, none⟩ (.int .i64 0)).setCell ⟨Q, 5, none⟩ (.int .i64 1)).setCell ⟨Q, 6, none⟩ (.int .i64 0)).setCell ⟨Q, 7, none⟩ (.slice none 0 0)).setCell ⟨Q, 8, none⟩ (.int .i64 0))).heap[Q]? = some (.cells #[(.slice A f.blocks.length c), (.slice (some ⟨w4.heap.size, 0, none⟩) f.blocks.length f.blocks.length), (.slice (some ⟨V, 0, none⟩) n n), (.int .i64 0), (.int .i64 0), (.int .i64 1), (.int .i64 0), (.slice none 0 0), (.int .i64 0)] 59 (0, 0))) := by
    have h0 : ((w7.setCell ⟨Q, 0, none⟩ (.slice A f.blocks.length c))).heap[Q]? = some (.cells #[(.slice A f.blocks.length c), .slice none 0 0, .slice none 0 0, .int .i64 0, .int .i64 0, .int .i64 0, .int .i64 0, .slice none 0 0, .int .i64 0] 59 (0, 0)) := heap_setCell_same _ Q 0 _ _ (.slice A f.blocks.length c) HQ7.out
    have h1 : (((w7.setCell ⟨Q, 0, none⟩ (.slice A f.blocks.length c)).setCell ⟨Q, 1, none⟩ (.slice (some ⟨w4.heap.size, 0, none⟩) f.blocks.length f.blocks.length))).heap[Q]? = some (.cells #[(.slice A f.blocks.length c), (.slice (some ⟨w4.heap.size, 0, none⟩) f.blocks.length f.blocks.length), .slice none 0 0, .int .i64 0, .int .i64 0, .int .i64 0, .int .i64 0, .slice none 0 0, .int .i64 0] 59 (0, 0)) := heap_setCell_same _ Q 1 _ _ (.slice (some ⟨w4.heap.size, 0, none⟩) f.blocks.length f.blocks.length) h0
    have h2 : ((((w7.setCell ⟨Q, 0, none⟩ (.slice A f.blocks.length c)).setCell ⟨Q, 1, none⟩ (.slice (some ⟨w4.heap.size, 0, none⟩) f.blocks.length f.blocks.length)).setCell ⟨Q, 2, none⟩ (.slice (some ⟨V, 0, none⟩) n n))).heap[Q]? = some (.cells #[(.slice A f.blocks.length c), (.slice (some ⟨w4.heap.size, 0, none⟩) f.blocks.length f.blocks.length), (.slice (some ⟨V, 0, none⟩) n n), .int .i64 0, .int .i64 0, .int .i64 0, .int .i64 0, .slice none 0 0, .int .i64 0] 59 (0, 0)) := heap_setCell_same _ Q 2 _ _ (.slice (some ⟨V, 0, none⟩) n n) h1
    have h3 : (((((w7.setCell ⟨Q, 0, none⟩ (.slice A f.blocks.length c)).setCell ⟨Q, 1, none⟩ (.slice (some ⟨w4.heap.size, 0, none⟩) f.blocks.length f.blocks.length)).setCell ⟨Q, 2, none⟩ (.slice (some ⟨V, 0, none⟩) n n)).setCell ⟨Q, 3, none⟩ (.int .i64 0))).heap[Q]? = some (.cells #[(.slice A f.blocks.length c), (.slice (some ⟨w4.heap.size, 0, none⟩) f.blocks.length f.blocks.length), (.slice (some ⟨V, 0, none⟩) n n), (.int .i64 0), .int .i64 0, .int .i64 0, .int .i64 0, .slice none 0 0, .int .i64 0] 59 (0, 0)) := heap_setCell_same _ Q 3 _ _ (.int .i64 0) h2
    have h4 : ((((((w7.setCell ⟨Q, 0, none⟩ (.slice A f.blocks.length c)).setCell ⟨Q, 1, none⟩ (.slice (some ⟨w4.heap.size, 0, none⟩) f.blocks.length f.blocks.length)).setCell ⟨Q, 2, none⟩ (.slice (some ⟨V, 0, none⟩) n n)).setCell ⟨Q, 3, none⟩ (.int .i64 0)).setCell ⟨Q, 4, none⟩ (.int .i64 0))).heap[Q]? = some (.cells #[(.slice A f.blocks.length c), (.slice (some ⟨w4.heap.size, 0, none⟩) f.blocks.length f.blocks.length), (.slice (some ⟨V, 0, none⟩) n n), (.int .i64 0), (.int .i64 0), .int .i64 0, .int .i64 0, .slice none 0 0, .int .i64 0] 59 (0, 0)) := heap_setCell_same _ Q 4 _ _ (.int .i64 0) h3
    have h5 : (((((((w7.setCell ⟨Q, 0, none⟩ (.slice A f.blocks.length c)).setCell ⟨Q, 1, none⟩ (.slice (some ⟨w4.heap.size, 0, none⟩) f.blocks.length f.blocks.length)).setCell ⟨Q, 2, none⟩ (.slice (some ⟨V, 0, none⟩) n n)).setCell ⟨Q, 3, none⟩ (.int .i64 0)).setCell ⟨Q, 4, none⟩ (.int .i64 0)).setCell ⟨Q, 5, none⟩ (.int .i64 1))).heap[Q]? = some (.cells #[(.slice A f.blocks.length c), (.slice (some ⟨w4.heap.size, 0, none⟩) f.blocks.length f.blocks.length), (.slice (some ⟨V, 0, none⟩) n n), (.int .i64 0), (.int .i64 0), (.int .i64 1), .int .i64 0, .slice none 0 0, .int .i64 0] 59 (0, 0)) := heap_setCell_same _ Q 5 _ _ (.int .i64 1) h4
    have h6 : ((((((((w7.setCell ⟨Q, 0, none⟩ (.slice A f.blocks.length c)).setCell ⟨Q, 1, none⟩ (.slice (some ⟨w4.heap.size, 0, none⟩) f.blocks.length f.blocks.length)).setCell ⟨Q, 2, none⟩ (.slice (some ⟨V, 0, none⟩) n n)).setCell ⟨Q, 3, none⟩ (.int .i64 0)).setCell ⟨Q, 4, none⟩ (.int .i64 0)).setCell ⟨Q, 5, none⟩ (.int .i64 1)).setCell ⟨Q, 6, none⟩ (.int .i64 0))).heap[Q]? = some (.cells #[(.slice A f.blocks.length c), (.slice (some ⟨w4.heap.size, 0, none⟩) f.blocks.length f.blocks.length), (.slice (some ⟨V, 0, none⟩) n n), (.int .i64 0), (.int .i64 0), (.int .i64 1), (.int .i64 0), .slice none 0 0, .int .i64 0] 59 (0, 0)) := heap_setCell_same _ Q 6 _ _ (.int .i64 0) h5
    have h7 : (((((((((w7.setCell ⟨Q, 0, none⟩ (.slice A f.blocks.length c)).setCell ⟨Q, 1, none⟩ (.slice (some ⟨w4.heap.size, 0, none⟩) f.blocks.length f.blocks.length)).setCell ⟨Q, 2, none⟩ (.slice (some ⟨V, 0, none⟩) n n)).setCell ⟨Q, 3, none⟩ (.int .i64 0)).setCell ⟨Q, 4, none⟩ (.int .i64 0)).setCell ⟨Q, 5, none⟩ (.int .i64 1)).setCell ⟨Q, 6, none⟩ (.int .i64 0)).setCell ⟨Q, 7, none⟩ (.slice none 0 0))).heap[Q]? = some (.cells #[(.slice A f.blocks.length c), (.slice (some ⟨w4.heap.size, 0, none⟩) f.blocks.length f.blocks.length), (.slice (some ⟨V, 0, none⟩) n n), (.int .i64 0), (.int .i64 0), (.int .i64 1), (.int .i64 0), (.slice none 0 0), .int .i64 0] 59 (0, 0)) := heap_setCell_same _ Q 7 _ _ (.slice none 0 0) h6
    have h8 : ((((((((((w7.setCell ⟨Q, 0, none⟩ (.slice A f.blocks.length c)).setCell ⟨Q, 1, none⟩ (.slice (some ⟨w4.heap.size, 0, none⟩) f.blocks.length f.blocks.length)).setCell ⟨Q, 2, none⟩ (.slice (some ⟨V, 0, none⟩) n n)).setCell ⟨Q, 3, none⟩ (.int .i64 0)).setCell ⟨Q, 4, none⟩ (.int .i64 0)).setCell ⟨Q, 5, none⟩ (.int .i64 1)).setCell ⟨Q, 6, none⟩ (.int .i64 0)).setCell ⟨Q, 7, none⟩ (.slice none 0 0)).setCell ⟨Q, 8, none⟩ (.int .i64 0))).heap[Q]? = some (.cells #[(.slice A f.blocks.length c), (.slice (some ⟨w4.heap.size, 0, none⟩) f.blocks.length f.blocks.length), (.slice (some ⟨V, 0, none⟩) n n), (.int .i64 0), (.int .i64 0), (.int .i64 1), (.int .i64 0), (.slice none 0 0), (.int .i64 0)] 59 (0, 0)) := heap_setCell_same _ Q 8 _ _ (.int .i64 0) h7
    exact h8
  generalize (((((((((w7.setCell ⟨Q, 0, none⟩ (.slice A f.blocks.length c)).setCell ⟨Q, 1, none⟩ (.slice (some ⟨w4.heap.size, 0, none⟩) f.blocks.length f.blocks.length)).setCell ⟨Q, 2, none⟩ (.slice (some ⟨V, 0, none⟩) n n)).setCell ⟨Q, 3, none⟩ (.int .i64 0)).setCell ⟨Q, 4, none⟩ (.int .i64 0)).setCell ⟨Q, 5, none⟩ (.int .i64 1)).setCell ⟨Q, 6, none⟩ (.int .i64 0)).setCell ⟨Q, 7, none⟩ (.slice none 0 0)).setCell ⟨Q, 8, none⟩ (.int .i64 0)) = wf at *
  have qd0 := cell_of_row wf Q 0 _ _ (0, 0) HWQ.out
  have qd1 := cell_of_row wf Q 1 _ _ (0, 0) HWQ.out
  have qd2 := cell_of_row wf Q 2 _ _ (0, 0) HWQ.out
  have qd3 := cell_of_row wf Q 3 _ _ (0, 0) HWQ.out
  have qd4 := cell_of_row wf Q 4 _ _ (0, 0) HWQ.out
  have qd5 := cell_of_row wf Q 5 _ _ (0, 0) HWQ.out
  have qd6 := cell_of_row wf Q 6 _ _ (0, 0) HWQ.out
  have qd7 := cell_of_row wf Q 7 _ _ (0, 0) HWQ.out
  have qd8 := cell_of_row wf Q 8 _ _ (0, 0) HWQ.out
  clear qc0 qf0 qc1 qf1 qc2 qf2 qc3 qf3 qc4 qf4 qc5 qf5 qc6 qf6 qc7 qf7 qc8 qf8
  have hf := HFW.out
  have hsz := hf.size
  have hz7 := HB7.out.size
  have HBf : Hid (Below w.heap.size w wf) := (HBW4.out.trans (HB7.out.mono (by have := HBW4.out.size; omega))).trans ((hf.toBelow (B := Q) (by omega) (fun k hk e => by have e' : k = Q := e; omega)).mono (by rw [hWF.out]; omega))
  have hGl := HP7.out.lt
  have HRA' : Hid (RA f Z wf (.slice A f.blocks.length c) w.heap.size V w4.heap.size) := ⟨HP.out, HROW.out.keep (Kept.below HBf.out hD) fun _ _ h => EBlock.keep h (Kept.below HBf.out hD), hD, by rw [hWF.out]; omega, hV4, HP7.out.fwR hf (by omega) (fun k hk _ e => by have e' : k = Q := e; omega), by omega⟩
  have HIL' : Hid (IL wf V n (args ++ List.replicate (n - args.length) 0)) := (HIL4.out.below HB7.out).fw hf (fun e => by have e' : V = Q := e; omega)
  have HST : Hid ((startS f args).σ = args ++ List.replicate (n - args.length) 0) := by
    have h1 := HNN.out
    have h2 := HL.out
    unfold startS
    rw [Hid, show (f.names - f.params).toNat = n - args.length by omega]
  have HNT : Hid (f.names.toNat = n) := by have h1 := HNN.out; rw [Hid]; omega
  clear hf hsz hz7 hGl HFW
  go_wp2_with fail
  refine bodyPost_ret (v := .agg #[(.slice A f.blocks.length c), (.slice (some ⟨w4.heap.size, 0, none⟩) f.blocks.length f.blocks.length), (.slice (some ⟨V, 0, none⟩) n n), (.int .i64 0), (.int .i64 0), (.int .i64 1), (.int .i64 0), (.slice none 0 0), (.int .i64 0)]) (by simp [results, Tryz.results32, go_sem, qd0, qd1, qd2, qd3, qd4, qd5, qd6, qd7, qd8]) rfl ?_
  exact ⟨V, w4.heap.size, _, by rw [HNT.out]; rfl, HRA'.out, by rw [HNT.out, HST.out]; exact HIL'.out, HBf.out⟩
end

end Go.Proofs.YtnjmlhokkhkaaaaGreat
