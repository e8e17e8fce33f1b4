/- GTakes, joined. -/
import Derived.Test.YtnjmlhokkhkaaaaGreatDoorQ9
import Derived.Test.YtnjmlhokkhkaaaaGreatDoorQ12
import Derived.Test.YtnjmlhokkhkaaaaGreatDoorQ17
namespace Go.Proofs.YtnjmlhokkhkaaaaGreatDoor

/- l5Takes of the model: what a block takes. -/
section
open Go.ChangeShapes Go.WideShapes Go.ChangeAt Go.RowKit Go.Joins

theorem Adds2.trans {wk w w' : World} {a b a' b' a'' b'' : Value} (h : Adds2 wk w a b a' b') (k : Adds2 w w' a' b' a'' b'') : Adds2 wk w' a b a'' b'' := by
  have hs := h.fw.size
  refine ⟨h.fw.trans k.fw fun i hi ho => ?_, fun i hi => ?_⟩
  · rcases h.own i ho with h | h
    · exact h
    · omega
  · rcases k.own i hi with h' | h'
    · exact h.own i h'
    · exact .inr (by omega)
theorem Two.not_own {w : World} {B : Nat} {a b : Value} {evs : List EvD} (h : Two w B a b evs) {k : Nat} (hk : w.heap.size ≤ k) : ¬ Own2 a b k := fun ho => by
  rcases ho with e | e
  · have := (h.1.lt k e).2; omega
  · have := (h.2.1.lt k e).2; omega

/-- A list appended to a list, where the order is drawn. -/
theorem step_append_ints {ops : Array Oper} {o : Oper} {a : Act} {K : Act → World → Prop} {Q : Exit → Act → World → Prop} {F : Prop} (hgd : o.guard = none) (s x : Operand)
    (ho : o.op = .call { callee := .builtin .append, args := #[s, x], argTypes := #[64, 64] })
    (B : Nat) (v : Value) (xs ys : List Int) (w : World) (g c : Nat) (hs : a.eval s = v) (hown : OI w B v xs) (hx : a.eval x = .slice (some ⟨g, 0, none⟩) ys.length c) (B2 : Nat) (hy : OI w B2 (.slice (some ⟨g, 0, none⟩) ys.length c) ys) (hb : B ≤ w.heap.size) (hlen : xs.length + ys.length ≤ 1048576)
    (h : ∀ v' w', OI w' B v' (xs ++ ys) → w.grownBy w' v.ownBlock → (v'.ownBlock = v.ownBlock ∨ ∃ k, v'.ownBlock = some k ∧ w.heap.size ≤ k) → K (a.put o.dst v') w') :
    if Region.wanted o (yielded ops a.tmps) = true then Oper.wp Tryz.prog o a w K Q else F := by
  have hw : Region.wanted o (yielded ops a.tmps) = true := by simp [Region.wanted, hgd]
  rw [if_pos hw]
  obtain ⟨i0, hi, hz0, hz1, hz2⟩ := info_parts info_int
  have hnews : ∀ j u, (ys.map iv)[j]? = some u → w.cell? ((⟨g, 0, none⟩ : Addr).add j) = some u := fun j u hu => by
    have hadd : (⟨g, 0, none⟩ : Addr).add j = ⟨g, j, none⟩ := by unfold Addr.add; split <;> simp_all
    rw [hadd]
    rw [List.getElem?_map] at hu
    cases hyj : ys[j]? with
    | none => rw [hyj] at hu; cases hu
    | some z =>
      rw [hyj] at hu
      simp at hu
      subst hu
      have hjl := (List.getElem?_eq_some_iff.1 hyj).1
      have h1 := World.ownsRow.cellAt hy j (by omega)
      rw [h1, List.getElem?_map, hyj]; rfl
  obtain ⟨v', w', hr, h2, h3, _, h5⟩ := run_append_own_at (P := Tryz.prog) w B 64 o.type 2 i0 (.int .i64 0) 1 8 Tryz.underlying64 hi hz0 hz1 hz2 rfl (by decide) v xs.length (xs.map iv) hown ⟨g, 0, none⟩ ys.length c (ys.map iv) (by simp) hnews (by intro u hu; rw [List.mem_map] at hu; obtain ⟨z, _, rfl⟩ := hu; rfl) (by rw [maxLen_is]; omega) (by omega) hb
  unfold Oper.wp execOp
  simp only [ho, resolve, invoke, builtin, Sem.run_bind, Sem.run_pure, Result.andThen_ok, List.map_toArray, List.map_cons, List.map_nil, hs, hx, hr]
  refine h v' w' ?_ h3 ?_
  · unfold OI
    rw [List.map_append, List.length_append]
    exact h2
  · rcases h5 with h5 | h5
    · exact .inl h5
    · exact .inr ⟨_, h5, Nat.le_refl _⟩

set_option maxRecDepth 10000 in
set_option maxHeartbeats 2000000 in
theorem l5Takes_any (f : FunD) (v : Value) (k : Nat) (x : BlockD) (w : World) (Z : Zn) (hp : FunP f) (hv : EFun w Z f v) (hD : ∀ b, Z.D b → b < w.heap.size) (hxk : f.blocks[k]? = some x) :
    Calls Tryz.prog 34 #[v, .int .i64 k] w (GivesTwo (blkT f k x) w) := by
  have HF := Lib.hid hv
  obtain ⟨u, rfl, hle, A, c, rfl, hx⟩ := hv
  have hlt : k < f.blocks.length := (List.getElem?_eq_some_iff.1 hxk).1
  have hlt' : (k : Int) < (f.blocks.length : Int) := by omega
  have hk0 : 0 ≤ (k : Int) := by omega
  have hb40 := hp.1.1.2
  obtain ⟨b, off, rfl, hDb, hrow⟩ := hx (by intro h; rw [h] at hlt; simp at hlt)
  obtain ⟨cs, hE, hcs⟩ := hrow k x hxk
  have hbl := hD b hDb
  obtain ⟨v0, v1, v2, v3, rfl, r0, r1, r2, r3⟩ := hE
  obtain ⟨_, A0, q0, rfl, _⟩ := r0
  obtain ⟨_, A1, q1, rfl, h1⟩ := r1
  obtain ⟨_, A2, q2, rfl, h2⟩ := r2
  obtain ⟨_, A3, q3, rfl, h3⟩ := r3
  have hB3 : Below w.heap.size w (((w.alloc (.cells #[.int .i64 f.params, .int .i64 f.names, .slice (some ⟨b, off, none⟩) f.blocks.length c] 26)).alloc (.cells #[] 2)).alloc (.cells #[] 2)) := (((Below.refl _ _).alloc (Nat.le_refl _) _).alloc (by simp only [World.size_alloc]; omega) _).alloc (by simp only [World.size_alloc]; omega) _
  have c0 : ((((w.alloc (.cells #[.int .i64 f.params, .int .i64 f.names, .slice (some ⟨b, off, none⟩) f.blocks.length c] 26)).alloc (.cells #[] 2)).alloc (.cells #[] 2))).cell? ⟨b, off + k * 8, none⟩ = some (.slice A0 x.phis.length q0) := (hB3.cell (p := ⟨b, _, none⟩) hbl).trans (hcs 0 _ rfl).1
  have c1 : ((((w.alloc (.cells #[.int .i64 f.params, .int .i64 f.names, .slice (some ⟨b, off, none⟩) f.blocks.length c] 26)).alloc (.cells #[] 2)).alloc (.cells #[] 2))).cell? ⟨b, off + k * 8 + 1, none⟩ = some (.slice A1 x.head.length q1) := (hB3.cell (p := ⟨b, _, none⟩) hbl).trans (hcs 1 _ rfl).1
  have c2 : ((((w.alloc (.cells #[.int .i64 f.params, .int .i64 f.names, .slice (some ⟨b, off, none⟩) f.blocks.length c] 26)).alloc (.cells #[] 2)).alloc (.cells #[] 2))).cell? ⟨b, off + k * 8 + 2, none⟩ = some (.slice A2 x.body.length q2) := (hB3.cell (p := ⟨b, _, none⟩) hbl).trans (hcs 2 _ rfl).1
  have c3 : ((((w.alloc (.cells #[.int .i64 f.params, .int .i64 f.names, .slice (some ⟨b, off, none⟩) f.blocks.length c] 26)).alloc (.cells #[] 2)).alloc (.cells #[] 2))).cell? ⟨b, off + k * 8 + 3, none⟩ = some (.slice A3 x.tail.length q3) := (hB3.cell (p := ⟨b, _, none⟩) hbl).trans (hcs 3 _ rfl).1
  have c4 : ((((w.alloc (.cells #[.int .i64 f.params, .int .i64 f.names, .slice (some ⟨b, off, none⟩) f.blocks.length c] 26)).alloc (.cells #[] 2)).alloc (.cells #[] 2))).cell? ⟨b, off + k * 8 + 4, none⟩ = some (.int .i64 x.fin.k) := (hB3.cell (p := ⟨b, _, none⟩) hbl).trans (hcs 4 _ rfl).1
  have c5 : ((((w.alloc (.cells #[.int .i64 f.params, .int .i64 f.names, .slice (some ⟨b, off, none⟩) f.blocks.length c] 26)).alloc (.cells #[] 2)).alloc (.cells #[] 2))).cell? ⟨b, off + k * 8 + 5, none⟩ = some (.int .i64 x.fin.a) := (hB3.cell (p := ⟨b, _, none⟩) hbl).trans (hcs 5 _ rfl).1
  have c6 : ((((w.alloc (.cells #[.int .i64 f.params, .int .i64 f.names, .slice (some ⟨b, off, none⟩) f.blocks.length c] 26)).alloc (.cells #[] 2)).alloc (.cells #[] 2))).cell? ⟨b, off + k * 8 + 6, none⟩ = some (.int .i64 x.fin.t) := (hB3.cell (p := ⟨b, _, none⟩) hbl).trans (hcs 6 _ rfl).1
  have c7 : ((((w.alloc (.cells #[.int .i64 f.params, .int .i64 f.names, .slice (some ⟨b, off, none⟩) f.blocks.length c] 26)).alloc (.cells #[] 2)).alloc (.cells #[] 2))).cell? ⟨b, off + k * 8 + 7, none⟩ = some (.int .i64 x.fin.l) := (hB3.cell (p := ⟨b, _, none⟩) hbl).trans (hcs 7 _ rfl).1
  clear hB3
  have H1 := Lib.hid h1
  have H2 := Lib.hid h2
  have H3 := Lib.hid h3
  have hbP := hp.1.2.2.2.2 k x hxk
  have HBd := Lib.hid hbP.2.2.2.2
  have hl1 := hbP.2.1.1
  have hl3 := hbP.2.2.1.1
  have hl2 := hbP.2.2.2.1
  have HP := Lib.hid hp
  have Hxk := Lib.hid hxk
  clear hcs hrow hx h1 h2 h3 hbP hp hxk
  go_enter Tryz.func34, Tryz.ntmps34
  go_wp2_with fail
  obtain ⟨q, hq⟩ : ∃ q, q = w.heap.size + 3 := ⟨_, rfl⟩
  obtain ⟨B, hB⟩ : ∃ B, B = w.heap.size + 1 := ⟨_, rfl⟩
  obtain ⟨a0, ha0⟩ : ∃ a : Value, a = .slice (some ⟨w.heap.size + 1, 0, none⟩) 0 0 := ⟨_, rfl⟩
  obtain ⟨b0, hb0⟩ : ∃ a : Value, a = .slice (some ⟨w.heap.size + 2, 0, none⟩) 0 0 := ⟨_, rfl⟩
  have hTk : Two ((((w.alloc (.cells #[.int .i64 f.params, .int .i64 f.names, .slice (some ⟨b, off, none⟩) f.blocks.length c] 26)).alloc (.cells #[] 2)).alloc (.cells #[] 2)).alloc (.cells #[(.slice A0 x.phis.length q0), (.slice A1 x.head.length q1), (.slice A2 x.body.length q2), (.slice A3 x.tail.length q3), (.int .i64 x.fin.k), (.int .i64 x.fin.a), (.int .i64 x.fin.t), (.int .i64 x.fin.l)] 60)) B a0 b0 [] := by
    refine ⟨?_, ?_, ?_⟩
    · rw [ha0]
      exact ((OI_lit0 (B := B) _ (by simp) (by omega)).below ((Below.refl _ _).alloc (Nat.le_refl _) _) (fun k hk => by simp [Value.ownBlock] at hk; simp; omega)).below ((Below.refl _ _).alloc (Nat.le_refl _) _) (fun k hk => by simp [Value.ownBlock] at hk; simp; omega)
    · rw [hb0]
      exact (OI_lit0 (B := B) _ (by simp) (by omega)).below ((Below.refl _ _).alloc (Nat.le_refl _) _) (fun k hk => by simp [Value.ownBlock] at hk; simp; omega)
    · intro k' h1 h2
      rw [ha0] at h1
      rw [hb0] at h2
      simp [Value.ownBlock] at h1 h2
      omega
  have hno : ¬ Own2 a0 b0 q ∧ ¬ Own2 a0 b0 w.heap.size := by
    unfold Own2
    rw [ha0, hb0]
    simp [Value.ownBlock]
    omega
  have hBk : Below w.heap.size w ((((w.alloc (.cells #[.int .i64 f.params, .int .i64 f.names, .slice (some ⟨b, off, none⟩) f.blocks.length c] 26)).alloc (.cells #[] 2)).alloc (.cells #[] 2)).alloc (.cells #[(.slice A0 x.phis.length q0), (.slice A1 x.head.length q1), (.slice A2 x.body.length q2), (.slice A3 x.tail.length q3), (.int .i64 x.fin.k), (.int .i64 x.fin.a), (.int .i64 x.fin.t), (.int .i64 x.fin.l)] 60)) := ((((Below.refl _ _).alloc (Nat.le_refl _) _).alloc (by simp only [World.size_alloc]; omega) _).alloc (by simp only [World.size_alloc]; omega) _).alloc (by simp only [World.size_alloc]; omega) _
  have hkh : (((((w.alloc (.cells #[.int .i64 f.params, .int .i64 f.names, .slice (some ⟨b, off, none⟩) f.blocks.length c] 26)).alloc (.cells #[] 2)).alloc (.cells #[] 2)).alloc (.cells #[(.slice A0 x.phis.length q0), (.slice A1 x.head.length q1), (.slice A2 x.body.length q2), (.slice A3 x.tail.length q3), (.int .i64 x.fin.k), (.int .i64 x.fin.a), (.int .i64 x.fin.t), (.int .i64 x.fin.l)] 60))).heap[q]? = some (.cells #[(.slice A0 x.phis.length q0), (.slice A1 x.head.length q1), (.slice A2 x.body.length q2), (.slice A3 x.tail.length q3), (.int .i64 x.fin.k), (.int .i64 x.fin.a), (.int .i64 x.fin.t), (.int .i64 x.fin.l)] 60 (0, 0)) := by
    have h := heap_alloc_new (((w.alloc (.cells #[.int .i64 f.params, .int .i64 f.names, .slice (some ⟨b, off, none⟩) f.blocks.length c] 26)).alloc (.cells #[] 2)).alloc (.cells #[] 2)) (.cells #[(.slice A0 x.phis.length q0), (.slice A1 x.head.length q1), (.slice A2 x.body.length q2), (.slice A3 x.tail.length q3), (.int .i64 x.fin.k), (.int .i64 x.fin.a), (.int .i64 x.fin.t), (.int .i64 x.fin.l)] 60)
    simp only [World.size_alloc] at h
    rw [hq]
    exact h
  have hf0 : (((((w.alloc (.cells #[.int .i64 f.params, .int .i64 f.names, .slice (some ⟨b, off, none⟩) f.blocks.length c] 26)).alloc (.cells #[] 2)).alloc (.cells #[] 2)).alloc (.cells #[(.slice A0 x.phis.length q0), (.slice A1 x.head.length q1), (.slice A2 x.body.length q2), (.slice A3 x.tail.length q3), (.int .i64 x.fin.k), (.int .i64 x.fin.a), (.int .i64 x.fin.t), (.int .i64 x.fin.l)] 60))).cell? ⟨w.heap.size, 0, none⟩ = some (.int .i64 f.params) := by go_simp
  have hf1 : (((((w.alloc (.cells #[.int .i64 f.params, .int .i64 f.names, .slice (some ⟨b, off, none⟩) f.blocks.length c] 26)).alloc (.cells #[] 2)).alloc (.cells #[] 2)).alloc (.cells #[(.slice A0 x.phis.length q0), (.slice A1 x.head.length q1), (.slice A2 x.body.length q2), (.slice A3 x.tail.length q3), (.int .i64 x.fin.k), (.int .i64 x.fin.a), (.int .i64 x.fin.t), (.int .i64 x.fin.l)] 60))).cell? ⟨w.heap.size, 1, none⟩ = some (.int .i64 f.names) := by go_simp
  have hf2 : (((((w.alloc (.cells #[.int .i64 f.params, .int .i64 f.names, .slice (some ⟨b, off, none⟩) f.blocks.length c] 26)).alloc (.cells #[] 2)).alloc (.cells #[] 2)).alloc (.cells #[(.slice A0 x.phis.length q0), (.slice A1 x.head.length q1), (.slice A2 x.body.length q2), (.slice A3 x.tail.length q3), (.int .i64 x.fin.k), (.int .i64 x.fin.a), (.int .i64 x.fin.t), (.int .i64 x.fin.l)] 60))).cell? ⟨w.heap.size, 2, none⟩ = some (.slice (some ⟨b, off, none⟩) f.blocks.length c) := by go_simp
  have hqk : q < (((((w.alloc (.cells #[.int .i64 f.params, .int .i64 f.names, .slice (some ⟨b, off, none⟩) f.blocks.length c] 26)).alloc (.cells #[] 2)).alloc (.cells #[] 2)).alloc (.cells #[(.slice A0 x.phis.length q0), (.slice A1 x.head.length q1), (.slice A2 x.body.length q2), (.slice A3 x.tail.length q3), (.int .i64 x.fin.k), (.int .i64 x.fin.a), (.int .i64 x.fin.t), (.int .i64 x.fin.l)] 60))).heap.size := by simp; omega
  have hfk : w.heap.size < (((((w.alloc (.cells #[.int .i64 f.params, .int .i64 f.names, .slice (some ⟨b, off, none⟩) f.blocks.length c] 26)).alloc (.cells #[] 2)).alloc (.cells #[] 2)).alloc (.cells #[(.slice A0 x.phis.length q0), (.slice A1 x.head.length q1), (.slice A2 x.body.length q2), (.slice A3 x.tail.length q3), (.int .i64 x.fin.k), (.int .i64 x.fin.a), (.int .i64 x.fin.t), (.int .i64 x.fin.l)] 60))).heap.size := by simp; omega
  have hBB : B ≤ (((((w.alloc (.cells #[.int .i64 f.params, .int .i64 f.names, .slice (some ⟨b, off, none⟩) f.blocks.length c] 26)).alloc (.cells #[] 2)).alloc (.cells #[] 2)).alloc (.cells #[(.slice A0 x.phis.length q0), (.slice A1 x.head.length q1), (.slice A2 x.body.length q2), (.slice A3 x.tail.length q3), (.int .i64 x.fin.k), (.int .i64 x.fin.a), (.int .i64 x.fin.t), (.int .i64 x.fin.l)] 60))).heap.size := by simp; omega
  rw [← hq, ← ha0, ← hb0]
  generalize ((((w.alloc (.cells #[.int .i64 f.params, .int .i64 f.names, .slice (some ⟨b, off, none⟩) f.blocks.length c] 26)).alloc (.cells #[] 2)).alloc (.cells #[] 2)).alloc (.cells #[(.slice A0 x.phis.length q0), (.slice A1 x.head.length q1), (.slice A2 x.body.length q2), (.slice A3 x.tail.length q3), (.int .i64 x.fin.k), (.int .i64 x.fin.a), (.int .i64 x.fin.t), (.int .i64 x.fin.l)] 60)) = wk at *
  have HBle : Hid (w.heap.size ≤ B) := by rw [Hid, hB]; omega
  have HFB : Hid (w.heap.size < B) := by rw [Hid, hB]; omega
  have HQC : Hid (∀ wr a b, Adds2 wk wr a0 b0 a b → (∀ (o : Nat) u, (#[(.slice A0 x.phis.length q0), (.slice A1 x.head.length q1), (.slice A2 x.body.length q2), (.slice A3 x.tail.length q3), (.int .i64 x.fin.k), (.int .i64 x.fin.a), (.int .i64 x.fin.t), (.int .i64 x.fin.l)] : Array Value)[o]? = some u → wr.cell? ⟨q, o, none⟩ = some u) ∧ Below w.heap.size w wr ∧ B ≤ wr.heap.size) := fun wr a b ha =>
    ⟨fun o u hu => (ha.cellA hqk hno.1 o).trans ((cell_of_row wk q o _ _ (0, 0) hkh).trans hu), hBk.trans (ha.fw.toBelow (Nat.le_of_lt hfk) fun g hg ho => by
      unfold Own2 at ho
      rw [ha0, hb0] at ho
      simp [Value.ownBlock] at ho
      omega), Nat.le_trans hBB ha.fw.size⟩
  have HFC : Hid (∀ wr aa bb, Adds2 wk wr a0 b0 aa bb → wr.cell? ⟨w.heap.size, 0, none⟩ = some (.int .i64 f.params) ∧ wr.cell? ⟨w.heap.size, 1, none⟩ = some (.int .i64 f.names) ∧ wr.cell? ⟨w.heap.size, 2, none⟩ = some (.slice (some ⟨b, off, none⟩) f.blocks.length c)) := fun wr aa bb ha => ⟨(ha.cellA hfk hno.2 0).trans hf0, (ha.cellA hfk hno.2 1).trans hf1, (ha.cellA hfk hno.2 2).trans hf2⟩
  have HT0 := Lib.hid hTk
  clear hTk hno hBk hkh hf0 hf1 hf2 hqk hfk hBB hq hB ha0 hb0 c0 c1 c2 c3 c4 c5 c6 c7
  obtain ⟨E0, hE0⟩ : ∃ E : List EvD, E = [] := ⟨_, rfl⟩
  rw [← hE0] at HT0
  have HE0 := Lib.hid hE0
  have HEL0 : Hid (E0.length ≤ 0) := by rw [Hid, hE0]; exact Nat.le_refl _
  have HA0 : Hid (Adds2 wk wk a0 b0 a0 b0) := Adds2.refl _ _ _
  clear hE0
  go_loopw [6, 7, 9] (fun a b i wr => ∃ j : Nat, j ≤ x.head.length ∧ i = .int .i64 j ∧ Hid (Two wr B a b (E0 ++ mvT (k : Int) 1 x.head j)) ∧ Hid (Adds2 wk wr a0 b0 a b)) (fun _ _ i _ => x.head.length - (intOf i).toNat)
  case atStart => exact ⟨0, Nat.zero_le _, rfl, HT0.out.to (List.append_nil _), HA0.out⟩
  clear HT0 HA0
  case round =>
    obtain ⟨j, hj, rfl, HT, HA⟩ := hrel
    obtain ⟨hqc, hbw, hBw⟩ := HQC.out wr _ _ HA.out
    have HBw := Lib.hid hbw
    clear hbw
    have g1 := hqc 1 _ rfl
    by_cases hjl : j < x.head.length
    case neg =>
      obtain rfl : j = x.head.length := by omega
      obtain ⟨E1, hE1⟩ : ∃ E, E = E0 ++ mvT (k : Int) 1 x.head x.head.length := ⟨_, rfl⟩
      rw [← hE1] at HT
      have HE1 := Lib.hid hE1
      have HEL1 : Hid (E1.length ≤ 10045) := by
        have h1 := HEL0.out
        have h2 := mvT_le (k : Int) 1 x.head x.head.length
        rw [Hid, hE1, List.length_append]
        exact Nat.le_trans (Nat.add_le_add h1 h2) (by omega)
      have HT1 : Hid (Two wr B u6 u7 E1) := HT.out
      have HA1 : Hid (Adds2 wk wr a0 b0 u6 u7) := HA.out
      clear HT HA hE1 hqc
      go_wp2_with fail
      go_loopw [6, 7, 10, 11, 12] (fun a b i _ _ wr => ∃ j : Nat, j ≤ x.body.length ∧ i = .int .i64 j ∧ Hid (Two wr B a b (E1 ++ insT (k : Int) x.body j)) ∧ Hid (Adds2 wk wr a0 b0 a b)) (fun _ _ i _ _ _ => x.body.length - (intOf i).toNat)
      case atStart => exact ⟨0, Nat.zero_le _, rfl, HT1.out.to (List.append_nil _), HA1.out⟩
      clear HT1 HA1
      case round =>
        obtain ⟨j, hj, rfl, HT, HA⟩ := hrel
        obtain ⟨hqc, hbw, hBw⟩ := HQC.out wr _ _ HA.out
        have HBw := Lib.hid hbw
        clear hbw
        have g2 := hqc 2 _ rfl
        by_cases hjl : j < x.body.length
        case neg =>
          obtain rfl : j = x.body.length := by omega
          obtain ⟨E2, hE2⟩ : ∃ E, E = E1 ++ insT (k : Int) x.body x.body.length := ⟨_, rfl⟩
          rw [← hE2] at HT
          have HE2 := Lib.hid hE2
          have HEL2 : Hid (E2.length ≤ 10210) := by
            have h1 := HEL1.out
            have h2 := insT_le (k : Int) x.body x.body.length
            rw [Hid, hE2, List.length_append]
            exact Nat.le_trans (Nat.add_le_add h1 h2) (by omega)
          have HT2 : Hid (Two wr B u6 u7 E2) := HT.out
          have HA2 : Hid (Adds2 wk wr a0 b0 u6 u7) := HA.out
          clear HT HA hE2 hqc
          go_wp2_with fail
          go_loopw [6, 7, 13] (fun a b i wr => ∃ j : Nat, j ≤ x.tail.length ∧ i = .int .i64 j ∧ Hid (Two wr B a b (E2 ++ mvT (k : Int) (2 + (x.body.length : Int)) x.tail j)) ∧ Hid (Adds2 wk wr a0 b0 a b)) (fun _ _ i _ => x.tail.length - (intOf i).toNat)
          case atStart => exact ⟨0, Nat.zero_le _, rfl, HT2.out.to (List.append_nil _), HA2.out⟩
          clear HT2 HA2
          case round =>
            obtain ⟨j, hj, rfl, HT, HA⟩ := hrel
            obtain ⟨hqc, hbw, hBw⟩ := HQC.out wr _ _ HA.out
            have HBw := Lib.hid hbw
            clear hbw
            have g3 := hqc 3 _ rfl
            by_cases hjl : j < x.tail.length
            case neg =>
              obtain rfl : j = x.tail.length := by omega
              obtain ⟨E3, hE3⟩ : ∃ E, E = E2 ++ mvT (k : Int) (2 + (x.body.length : Int)) x.tail x.tail.length := ⟨_, rfl⟩
              rw [← hE3] at HT
              have HE3 := Lib.hid hE3
              have HEL3 : Hid (E3.length ≤ 10300) := by
                have h1 := HEL2.out
                have h2 := mvT_le (k : Int) (2 + (x.body.length : Int)) x.tail x.tail.length
                rw [Hid, hE3, List.length_append]
                exact Nat.le_trans (Nat.add_le_add h1 h2) (by omega)
              have HT3 : Hid (Two wr B u6 u7 E3) := HT.out
              have HA3 : Hid (Adds2 wk wr a0 b0 u6 u7) := HA.out
              clear HT HA hE3 hqc
              have HFM : Hid (wr.cell? ⟨w.heap.size, 0, none⟩ = some (.int .i64 f.params) ∧ wr.cell? ⟨w.heap.size, 1, none⟩ = some (.int .i64 f.names) ∧ wr.cell? ⟨w.heap.size, 2, none⟩ = some (.slice (some ⟨b, off, none⟩) f.blocks.length c)) := HFC.out wr _ _ HA3.out
              have g4 := (HQC.out _ _ _ (HA3.out.below ((Below.refl wr.heap.size wr).alloc (Nat.le_refl _) (.cells #[] 2)))).1 4 _ rfl
              go_upto_if 100 with fail
              clear g4
              obtain ⟨av, hav⟩ : ∃ a : Value, a = u6 := ⟨_, rfl⟩
              obtain ⟨bv, hbv⟩ : ∃ a : Value, a = u7 := ⟨_, rfl⟩
              subst hav hbv
              obtain ⟨wm, hwm⟩ : ∃ wm : World, wm = wr := ⟨_, rfl⟩
              subst hwm
              have hBm : B ≤ wm.heap.size := hBw
              have hFm : w.heap.size < wm.heap.size := by have := HFB.out; omega
              have HOm : Hid (OI (wm.alloc (.cells #[] 2)) wm.heap.size (.slice (some ⟨wm.heap.size, 0, none⟩) 0 0) []) := OI_lit0 _ rfl (Nat.le_refl _)
              have HBm0 : Hid (Below wm.heap.size wm (wm.alloc (.cells #[] 2))) := (Below.refl _ _).alloc (Nat.le_refl _) _
              have HQM : Hid (∀ wx, Below wm.heap.size wm wx → (∀ (o : Nat) u, (#[(.slice A0 x.phis.length q0), (.slice A1 x.head.length q1), (.slice A2 x.body.length q2), (.slice A3 x.tail.length q3), (.int .i64 x.fin.k), (.int .i64 x.fin.a), (.int .i64 x.fin.t), (.int .i64 x.fin.l)] : Array Value)[o]? = some u → wx.cell? ⟨q, o, none⟩ = some u) ∧ Below w.heap.size w wx) := fun wx h =>
                have hh := HQC.out wx _ _ ((HA3.out).below h)
                ⟨hh.1, hh.2.1⟩
              have g4 := (HQM.out _ HBm0.out).1 4 _ rfl
              have g5 := (HQM.out _ HBm0.out).1 5 _ rfl
              go_cut [14] (fun s14 wx => ∃ v14 : Value, s14 = v14 ∧ Hid (OI wx wm.heap.size v14 (if x.fin.k = 2 then [] else [x.fin.a])) ∧ Hid (Below wm.heap.size wm wx))
              case first =>
                by_cases hk2 : x.fin.k = 2
                · have hb2 : (x.fin.k != 2) = false := by simpa using hk2
                  have HK2 := Lib.hid hk2
                  clear hk2
                  go_wp2_with fail
                  go_meet
                  exact ⟨_, rfl, (by rw [Hid, if_pos HK2.out]; exact HOm.out), HBm0.out⟩
                · have hb2 : (x.fin.k != 2) = true := by simpa using hk2
                  have HK2 := Lib.hid hk2
                  clear hk2
                  go_wp2_with (at_builtin; go_must (refine wpList_append_inte rfl (.tmp 101) (.tmp 105) rfl wm.heap.size _ [] x.fin.a (wm.alloc (.cells #[] 2)) (wm.heap.size + 1) (by simp) rfl HOm.out rfl (by simp) (by simp) ?_; intro v' w2 hown2 hg2 hat2; have HO2 := Lib.hid hown2; have HB2 := Lib.hid (HBm0.out.grown hg2 (by simp) (fun k hk => (HOm.out.lt k hk).1)); clear hown2 hg2 hat2))
                  go_meet
                  exact ⟨_, rfl, (by rw [Hid, if_neg HK2.out]; exact HO2.out), HB2.out⟩
              case rest =>
              obtain ⟨v14, h14, HOc, HBc⟩ := hcut
              have h14' := h14.symm
              clear h14
              subst h14'
              clear HOm HBm0 g4 g5
              have hzc := HBc.out.size
              have e4 := (HQM.out _ HBc.out).1 4 _ rfl
              have e5 := (HQM.out _ HBc.out).1 5 _ rfl
              have e6 := (HQM.out _ HBc.out).1 6 _ rfl
              have e7 := (HQM.out _ HBc.out).1 7 _ rfl
              go_wp2_with fail
              refine (l2Succs_any _ _ _ _ _).mono ?_
              rintro e w1 ⟨r, rfl, hr, hb1⟩
              have hz1 := hb1.size
              have HB1 := Lib.hid (HBc.out.trans (hb1.mono hzc))
              have HE0e : Hid ((if x.fin.k = 2 then [] else [x.fin.a]) ++ (toE x.fin).flatMap (phiL f k) = endL f k x) := rfl
              have hul := toE_len x.fin
              have HTS : Hid (∀ (m : Nat) t, (toE x.fin)[m]? = some t → (0 ≤ t ∧ t < (f.blocks.length : Int)) ∧ (k : Int) ∈ predsF f t) := fun m t hm => by
                have hmem : t ∈ toL x.fin.k x.fin.t x.fin.l := List.mem_of_getElem? hm
                exact ⟨(targets_of HP.out k x Hxk.out).2 t hmem, mem_predsF Hxk.out hmem⟩
              have hel0 : (if x.fin.k = 2 then ([] : List Int) else [x.fin.a]).length ≤ 1 := by split <;> simp
              generalize (if x.fin.k = 2 then ([] : List Int) else [x.fin.a]) = D0 at HOc HE0e hel0
              have HOw := Lib.hid (HOc.out.below hb1 fun kk hkk => (HOc.out.lt kk hkk).2)
              have HAV0 : Hid (∀ kk, v14.ownBlock = some kk → kk < wc.heap.size ∨ w1.heap.size ≤ kk) := fun kk hkk => .inl (HOc.out.lt kk hkk).2
              have hr' : OI w1 wc.heap.size r (toE x.fin) := hr
              clear hr
              generalize toE x.fin = us at hr' hul HTS HE0e
              have HU1 := Lib.hid hr'
              obtain ⟨lo, hlo⟩ : ∃ lo, lo = wc.heap.size := ⟨_, rfl⟩
              rw [← hlo] at HU1 HAV0 hz1 hzc
              obtain ⟨_, A5, c5, rfl, _⟩ := hr'.ri
              have HU2 : Hid (OI w1 lo (.slice A5 us.length c5) us) := HU1.out
              clear hb1 hr' HU1 hlo e4 e5 e6 e7 HOc HBc
              go_wp2_with fail
              go_loopw [14, 16] (fun ov i wr => ∃ m : Nat, m ≤ us.length ∧ i = .int .i64 m ∧ Hid (Below wm.heap.size wm wr) ∧ Hid (OI wr wm.heap.size ov (D0 ++ (us.take m).flatMap (phiL f k))) ∧ w1.heap.size ≤ wr.heap.size ∧ Hid (∀ kk, ov.ownBlock = some kk → kk < lo ∨ w1.heap.size ≤ kk) ∧ Hid (OI wr lo (.slice A5 us.length c5) us)) (fun _ i _ => us.length - (intOf i).toNat)
              case atStart => exact ⟨0, Nat.zero_le _, rfl, HB1.out, (by rw [Hid, List.take_zero, List.flatMap_nil, List.append_nil]; exact HOw.out), Nat.le_refl _, HAV0.out, HU2.out⟩
              clear HOw HB1 HAV0
              case round =>
                obtain ⟨m, hm, rfl, HBm, HO, hsz, HAV, HU⟩ := hrel
                have HO' : Hid (OI wr wm.heap.size u14 (D0 ++ (us.take m).flatMap (phiL f k))) := HO.out
                have HAV' : Hid (∀ kk, u14.ownBlock = some kk → kk < lo ∨ w1.heap.size ≤ kk) := HAV.out
                clear HO HAV
                by_cases hml : m < us.length
                case neg =>
                  obtain rfl : m = us.length := by omega
                  obtain ⟨a3, ha3⟩ : ∃ a : Value, a = av := ⟨_, rfl⟩
                  obtain ⟨es, hes⟩ : ∃ es, es = endL f k x := ⟨_, rfl⟩
                  have hesl : es.length ≤ 9 := by rw [hes]; exact endL_len HP.out _ _
                  have HZ0 : Hid (OI wr wm.heap.size u14 es) := by
                    have h := HO'.out
                    rw [List.take_length, HE0e.out, ← hes] at h
                    exact h
                  have HES := Lib.hid hes
                  have HTz := Lib.hid ((HT3.out.below HBm.out).to rfl)
                  have HAz := Lib.hid (HA3.out.below HBm.out)
                  have HNz : Hid (∀ kk, wm.heap.size ≤ kk → ¬ Own2 av bv kk) := fun kk hkk => HT3.out.not_own hkk
                  have hBz : B ≤ wr.heap.size := Nat.le_trans hBm HBm.out.size
                  obtain ⟨wz, hwz⟩ : ∃ wz : World, wz = wr := ⟨_, rfl⟩
                  subst hwz
                  obtain ⟨_, A5, c5, e5, _⟩ := HZ0.out.ri
                  subst e5
                  clear ha3 hes HO' HBm HAV' HU HT3 HA3
                  go_wp2_with fail
                  go_loopw [6, 7, 17] (fun a b i wr => ∃ j : Nat, j ≤ es.length ∧ i = .int .i64 j ∧ Hid (Two wr B a b (E3 ++ (es.take j).map (fun u => (⟨u, ⟨(k : Int), 3 + (x.body.length : Int)⟩⟩ : EvD)))) ∧ Hid (Adds2 wz wr av bv a b)) (fun _ _ i _ => es.length - (intOf i).toNat)
                  case atStart => exact ⟨0, Nat.zero_le _, rfl, HTz.out.to (by rw [List.take_zero]; exact List.append_nil _), Adds2.refl _ _ _⟩
                  clear HTz
                  case round =>
                    obtain ⟨j, hj, rfl, HT, HA⟩ := hrel
                    by_cases hjl : j < es.length
                    case neg =>
                      obtain rfl : j = es.length := by omega
                      have HTF : Hid (Two wr B u6 u7 (blkT f k x)) := HT.out.to (by
                        rw [HE3.out, HE2.out, HE1.out, HE0.out, List.take_length, HES.out, List.nil_append]
                        unfold blkT
                        simp only [List.append_assoc])
                      have HBf := Lib.hid (HQC.out wr _ _ ((HAz.out).trans HA.out)).2.1
                      clear HT HA
                      go_wp2_with fail
                      refine bodyPost_ret (v := .tuple #[u6, u7]) (results_tmp2 Tryz.results34 _ _ _) rfl ⟨u6, u7, rfl, ?_, HBf.out⟩
                      exact ⟨World.ownsRow.mono HTF.out.1 HBle.out, World.ownsRow.mono HTF.out.2.1 HBle.out, HTF.out.2.2⟩
                    have hxj : es[j]? = some es[j] := List.getElem?_eq_getElem hjl
                    generalize es[j] = y at hxj
                    have hjl' : (j : Int) < (es.length : Int) := by omega
                    have hOU := HZ0.out.fw HA.out.fw fun kk hkk => HNz.out kk (HZ0.out.lt kk hkk).1
                    obtain ⟨_, A5', c5', he5, hux⟩ := hOU.ri
                    injection he5 with e1 e0 e2
                    clear e0
                    subst e1 e2
                    obtain ⟨b5, o5, rfl, hcell⟩ := hux (by rintro rfl; simp at hjl)
                    have p0 := hcell j _ hxj
                    have HMT := Lib.hid (map_take hxj (fun u => (⟨u, ⟨(k : Int), 3 + (x.body.length : Int)⟩⟩ : EvD)))
                    have HQ8 : Hid (∀ w2 a b, Adds2 wz w2 av bv a b → ∀ (o : Nat) u, (#[(.slice A0 x.phis.length q0), (.slice A1 x.head.length q1), (.slice A2 x.body.length q2), (.slice A3 x.tail.length q3), (.int .i64 x.fin.k), (.int .i64 x.fin.a), (.int .i64 x.fin.t), (.int .i64 x.fin.l)] : Array Value)[o]? = some u → w2.cell? ⟨q, o, none⟩ = some u) := fun w2 a b ha => (HQC.out w2 _ _ (HAz.out.trans ha)).1
                    have hBw : B ≤ wr.heap.size := Nat.le_trans hBz HA.out.fw.size
                    have hn2 : x.body.length ≤ 1000 := by omega
                    clear hcell hux hOU hxj
                    obtain ⟨EV, hEV⟩ : ∃ E, E = E3 ++ (es.take j).map (fun u => (⟨u, ⟨(k : Int), 3 + (x.body.length : Int)⟩⟩ : EvD)) := ⟨_, rfl⟩
                    rw [← hEV] at HT
                    have HEV := Lib.hid hEV
                    have HL := Lib.hid (Two.len (evs := EV) (by have h1 := HEL3.out; rw [hEV, List.length_append, List.length_map, List.length_take]; omega))
                    clear hEV
                    go_wp2_with (first
                      | (at_builtin; (refine wpList_append_int rfl (.tmp 131) (.tmp 136) rfl B u6 (EV.map (·.n)) y wr rfl HT.out.1 rfl hBw HL.out.1 ?_; intro a' w2 hown2 hg2 hat2; have HO2 := Lib.hid hown2; have HG2 := Lib.hid hg2; have HT2 := Lib.hid hat2; have HM := Lib.hid (HT.out.mid hg2); have HA2 := Lib.hid (HA.out.left hg2 hat2); have e8 := HQ8.out w2 _ _ HA2.out; have b0 := e8 0 _ rfl; have b1 := e8 1 _ rfl; have b2 := e8 2 _ rfl; have b3 := e8 3 _ rfl; have b4 := e8 4 _ rfl; have b5 := e8 5 _ rfl; have b6 := e8 6 _ rfl; have b7 := e8 7 _ rfl; clear e8; clear hown2 hg2 hat2))
                      | (go_at_call 66; refine (l5End_any _ _ _ _ _ _ _ _ _ _ _ hn2).mono ?_; rintro e w5 ⟨rfl, hb5⟩; have HM5 := Lib.hid (HM.out.below hb5 fun k hk => (HM.out.lt k hk).2); have HB5 := Lib.hid hb5; clear hb5) | (at_builtin; go_must (refine wpList_append_int rfl (.tmp 138) (.tmp 141) rfl B u7 (EV.map (·.pl.src)) (3 + (x.body.length : Int)) w5 rfl HM5.out rfl (Nat.le_trans (Nat.le_trans hBw HG2.out.size) HB5.out.size) HL.out.2 ?_; intro b' w3 hown3 hg3 hat3; have HO3 := Lib.hid hown3; have HG3 := Lib.hid hg3; have HT3 := Lib.hid hat3; clear hown3 hg3 hat3)))
                    have HT9 : Hid (Two w3 B a' b' (E3 ++ (es.take (j + 1)).map (fun u => (⟨u, ⟨(k : Int), 3 + (x.body.length : Int)⟩⟩ : EvD)))) := Two.moreB HT.out HO2.out HG2.out HT2.out HB5.out HO3.out HG3.out HT3.out (k := (k : Int)) (by rw [HMT.out, ← List.append_assoc, ← HEV.out])
                    have HA9 := Lib.hid ((HA2.out.below HB5.out).right HG3.out HT3.out)
                    clear HO2 HG2 HT2 HO3 HG3 HT3 HM HA2 HT HA HQ8 p0
                    go_roundw
                    case rel => exact ⟨j + 1, by omega, by go_num, HT9.out, HA9.out⟩
                    case measure => simp [intOf]; omega
                have hum : us[m]? = some us[m] := List.getElem?_eq_getElem hml
                generalize us[m] = u at hum
                obtain ⟨_, A5', c5', he5, hux⟩ := HU.out.ri
                injection he5 with q1' q0' q2'
                clear q0'
                subst q1' q2'
                obtain ⟨b5, o5, rfl, hcell⟩ := hux (by rintro rfl; simp at hml)
                have p0 := hcell m _ hum
                obtain ⟨hur, hkp⟩ := HTS.out m u hum
                obtain ⟨t, rfl⟩ : ∃ t : Nat, u = t := ⟨u.toNat, by omega⟩
                have htn : t < f.blocks.length := by omega
                have hml' : (m : Int) < (us.length : Int) := by omega
                have HTM := Lib.hid (endL_take (f := f) (k := (k : Int)) hum)
                have hW := (HQM.out wr HBm.out).2
                have HWH := Lib.hid hW
                have HKP := Lib.hid hkp
                have hb5 := HU.out.lt b5 rfl
                have hb5l : b5 < wr.heap.size := hb5.2
                have hb5w := (HU2.out.lt b5 rfl).2
                have hfw : w.heap.size < wr.heap.size := by have := HBm.out.size; omega
                have f0 : wr.cell? ⟨w.heap.size, 0, none⟩ = some (.int .i64 f.params) := (HBm.out.cell (p := ⟨w.heap.size, 0, none⟩) hFm).trans HFM.out.1
                have f1 : wr.cell? ⟨w.heap.size, 1, none⟩ = some (.int .i64 f.names) := (HBm.out.cell (p := ⟨w.heap.size, 1, none⟩) hFm).trans HFM.out.2.1
                have f2 : wr.cell? ⟨w.heap.size, 2, none⟩ = some (.slice (some ⟨b, off, none⟩) f.blocks.length c) := (HBm.out.cell (p := ⟨w.heap.size, 2, none⟩) hFm).trans HFM.out.2.2
                have hllen : (D0 ++ (us.take m).flatMap (phiL f k)).length + (phiL f k t).length ≤ 1048576 := by
                  have hp4 := phiL_len HP.out (k : Int) (t : Int)
                  rw [List.length_append, List.length_flatMap]
                  have : ∀ l : List Int, l.length ≤ 2 → (l.map fun a => (phiL f k a).length).sum ≤ 8 := fun l hl => by
                    match l, hl with
                    | [], _ => simp
                    | [a], _ => have := phiL_len HP.out k a; simp; omega
                    | [a, b], _ => have := phiL_len HP.out k a; have := phiL_len HP.out k b; simp; omega
                    | _ :: _ :: _ :: _, h => simp at h
                  have := this (us.take m) (by rw [List.length_take]; omega)
                  omega
                have HLL := Lib.hid hllen
                have hKS : ∀ w', Below wr.heap.size wr w' → (fun w' => w'.cell? ⟨w.heap.size, 0, none⟩ = some (.int .i64 f.params) ∧ w'.cell? ⟨w.heap.size, 1, none⟩ = some (.int .i64 f.names) ∧ w'.cell? ⟨w.heap.size, 2, none⟩ = some (.slice (some ⟨b, off, none⟩) f.blocks.length c) ∧ w'.cell? ⟨b5, o5 + m, none⟩ = some (.int .i64 t)) w' := fun w' h => ⟨(h.cell (p := ⟨w.heap.size, 0, none⟩) hfw).trans f0, (h.cell (p := ⟨w.heap.size, 1, none⟩) hfw).trans f1, (h.cell (p := ⟨w.heap.size, 2, none⟩) hfw).trans f2, (h.cell (p := ⟨b5, _, none⟩) hb5l).trans p0⟩
                have HKS := Lib.hid hKS
                have Kd : (fun w' => w'.cell? ⟨w.heap.size, 0, none⟩ = some (.int .i64 f.params) ∧ w'.cell? ⟨w.heap.size, 1, none⟩ = some (.int .i64 f.names) ∧ w'.cell? ⟨w.heap.size, 2, none⟩ = some (.slice (some ⟨b, off, none⟩) f.blocks.length c) ∧ w'.cell? ⟨b5, o5 + m, none⟩ = some (.int .i64 t)) wr.drew := hKS _ (Below.refl _ _).drew
                have hBr : wm.heap.size ≤ wr.heap.size := HBm.out.size
                clear hcell hux hum hW hkp hur hKS hllen hb5
                go_upto_region 30 with fail
                clear f0 f1 f2 p0
                refine wp_region_held_drew (S := ((fun w' => w'.cell? ⟨w.heap.size, 0, none⟩ = some (.int .i64 f.params) ∧ w'.cell? ⟨w.heap.size, 1, none⟩ = some (.int .i64 f.names) ∧ w'.cell? ⟨w.heap.size, 2, none⟩ = some (.slice (some ⟨b, off, none⟩) f.blocks.length c) ∧ w'.cell? ⟨b5, o5 + m, none⟩ = some (.int .i64 t)))) (by kernel_rfl) ?_ (fun hHeld => ?_)
                · (try dsimp only)
                  (first | exact Kd | exact HK7.out | exact HK9.out | fail)
                refine wpAnyH_take (i := 0) (v := ?_) rfl (by kernel_rfl) (by kernel_rfl) (by kernel_rfl) (fun _ _ _ h => h) (Or.inl ⟨by rfl, ?_⟩) (by assumption) ?_
                rotate_left
                · intro w hSw
                  simp only [List.getElem_toArray, List.getElem_cons_zero]
                  (try dsimp only at hSw)
                  go_simp
                  first | done | (with_reducible rfl)
                simp only [List.getElem_toArray, List.getElem_cons_zero, Act.put, List.setIfInBounds_toArray, List.set_cons_zero, List.set_cons_succ]
                refine wpAnyH_take (i := 1) (v := ?_) rfl (by kernel_rfl) (by kernel_rfl) (by kernel_rfl) (fun _ _ _ h => h) (Or.inl ⟨by rfl, ?_⟩) (by assumption) ?_
                rotate_left
                · intro w hSw
                  simp only [List.getElem_toArray, List.getElem_cons_succ, List.getElem_cons_zero]
                  (try dsimp only at hSw)
                  go_simp
                  first | done | (with_reducible rfl)
                simp only [List.getElem_toArray, List.getElem_cons_succ, List.getElem_cons_zero, Act.put, List.setIfInBounds_toArray, List.set_cons_zero, List.set_cons_succ]
                refine wpAnyH_take (i := 2) (v := ?_) rfl (by kernel_rfl) (by kernel_rfl) (by kernel_rfl) (fun _ _ _ h => h) (Or.inl ⟨by rfl, ?_⟩) (by assumption) ?_
                rotate_left
                · intro w hSw
                  simp only [List.getElem_toArray, List.getElem_cons_succ, List.getElem_cons_zero]
                  (try dsimp only at hSw)
                  go_simp
                  first | done | (with_reducible rfl)
                simp only [List.getElem_toArray, List.getElem_cons_succ, List.getElem_cons_zero, Act.put, List.setIfInBounds_toArray, List.set_cons_zero, List.set_cons_succ]
                refine wpAnyH_take (i := 3) (v := ?_) rfl (by kernel_rfl) (by kernel_rfl) (by kernel_rfl) (fun _ _ _ h => h) (Or.inl ⟨by rfl, ?_⟩) (by assumption) ?_
                rotate_left
                · intro w hSw
                  simp only [List.getElem_toArray, List.getElem_cons_succ, List.getElem_cons_zero]
                  (try dsimp only at hSw)
                  go_simp
                  first | done | (with_reducible rfl)
                simp only [List.getElem_toArray, List.getElem_cons_succ, List.getElem_cons_zero, Act.put, List.setIfInBounds_toArray, List.set_cons_zero, List.set_cons_succ]
                refine wpAnyH_take (i := 4) (v := ?_) rfl (by kernel_rfl) (by kernel_rfl) (by kernel_rfl) (fun _ _ _ h => h) (Or.inl ⟨by rfl, ?_⟩) (by assumption) ?_
                rotate_left
                · intro w hSw
                  simp only [List.getElem_toArray, List.getElem_cons_succ, List.getElem_cons_zero]
                  (try dsimp only at hSw)
                  go_simp
                  first | done | (with_reducible rfl)
                simp only [List.getElem_toArray, List.getElem_cons_succ, List.getElem_cons_zero, Act.put, List.setIfInBounds_toArray, List.set_cons_zero, List.set_cons_succ]
                refine wpAnyH_take (i := 5) (v := ?_) rfl (by kernel_rfl) (by kernel_rfl) (by kernel_rfl) (fun _ _ _ h => h) (Or.inl ⟨by rfl, ?_⟩) (by assumption) ?_
                rotate_left
                · intro w hSw
                  simp only [List.getElem_toArray, List.getElem_cons_succ, List.getElem_cons_zero]
                  (try dsimp only at hSw)
                  go_simp
                  first | done | (with_reducible rfl)
                simp only [List.getElem_toArray, List.getElem_cons_succ, List.getElem_cons_zero, Act.put, List.setIfInBounds_toArray, List.set_cons_zero, List.set_cons_succ]
                refine wpAnyH_take (i := 6) (v := ?_) rfl (by kernel_rfl) (by kernel_rfl) (by kernel_rfl) (fun _ _ _ h => h) (Or.inl ⟨by rfl, ?_⟩) (by assumption) ?_
                rotate_left
                · intro w hSw
                  simp only [List.getElem_toArray, List.getElem_cons_succ, List.getElem_cons_zero]
                  (try dsimp only at hSw)
                  go_simp
                  first | done | (with_reducible rfl)
                simp only [List.getElem_toArray, List.getElem_cons_succ, List.getElem_cons_zero, Act.put, List.setIfInBounds_toArray, List.set_cons_zero, List.set_cons_succ]
                refine wpAnyH_ready (rs := [7]) (by kernel_rfl) (by simp) ?_
                refine AllReadyH.cons rfl (fun K hK => ?_) AllReadyH.nil
                simp only [List.getElem_toArray, List.getElem_cons_succ, List.getElem_cons_zero]
                go_simp
                (first | (go_at_call 65; refine (l5PhiTakes_any f _ t k _ Z HP.out (HF.out.keep (Kept.below (HWH.out.trans (((Below.refl _ _).drew).mono (Nat.le_of_lt hfw))) hD)) (fun b hb => by have h1 := hD b hb; show b < wr.heap.size; omega) htn HKP.out).mono ?_; rintro e w7 ⟨gp, cp, rfl, ho7, hb7⟩; have HB7 : Hid (Below wr.heap.size wr w7) := (Below.refl _ _).drew.trans hb7; have HO7 := Lib.hid ho7; have HK7 := Lib.hid (HKS.out w7 HB7.out); clear hb7 ho7) | (refine step_append_ints (by rfl) (.tmp 116) (.tmp 123) (by rfl) wm.heap.size u14 (D0 ++ (us.take m).flatMap (phiL f k)) (phiL f k t) _ gp cp (by rfl) (HO'.out.below HB7.out fun kk hkk => (HO'.out.lt kk hkk).2) (by rfl) wr.heap.size HO7.out (Nat.le_trans hBr HB7.out.size) HLL.out ?_; intro v9 w9 hown9 hg9 hat9; have HO9 := Lib.hid hown9; have HG9 := Lib.hid hg9; have HA9 := Lib.hid hat9; have HU9 := Lib.hid ((HU.out.below HB7.out fun kk hkk => (HU.out.lt kk hkk).2).grown hg9 (.inr fun e => by have h1 := HU2.out.lt b5 rfl; rcases HAV'.out b5 e.symm with h | h <;> omega)); have HB9 := Lib.hid (HB7.out.mono hBr |>.grown hg9 (Nat.le_trans hBr HB7.out.size) fun kk hkk => (HO'.out.lt kk hkk).1); have HBM9 := Lib.hid (HBm.out.trans HB9.out); have HK9 : Hid ((fun w' => w'.cell? ⟨w.heap.size, 0, none⟩ = some (.int .i64 f.params) ∧ w'.cell? ⟨w.heap.size, 1, none⟩ = some (.int .i64 f.names) ∧ w'.cell? ⟨w.heap.size, 2, none⟩ = some (.slice (some ⟨b, off, none⟩) f.blocks.length c) ∧ w'.cell? ⟨b5, o5 + m, none⟩ = some (.int .i64 t)) w9) := ⟨(HBM9.out.cell (p := ⟨w.heap.size, 0, none⟩) hFm).trans HFM.out.1, (HBM9.out.cell (p := ⟨w.heap.size, 1, none⟩) hFm).trans HFM.out.2.1, (HBM9.out.cell (p := ⟨w.heap.size, 2, none⟩) hFm).trans HFM.out.2.2, (World.cell?_of_block (a := ⟨b5, o5 + m, none⟩) (hg9.block b5 (Nat.lt_of_lt_of_le hb5l HB7.out.size) (fun e => by have h1 := HU2.out.lt b5 rfl; rcases HAV'.out b5 e.symm with h | h <;> omega))).trans HK7.out.2.2.2⟩; clear hown9 hg9 hat9) | fail)
                go_wp2_with fail
                refine hK.out _ _ ?_ (fun hHeld => ?_)
                · (try dsimp only)
                  (first | exact Kd | exact HK7.out | exact HK9.out | fail)
                clear hK K
                (try simp only [List.getElem_toArray, List.getElem_cons_succ, List.getElem_cons_zero, Act.put, List.setIfInBounds_toArray, List.set_cons_zero, List.set_cons_succ])
                refine wpAnyH_ready (rs := [8]) (by kernel_rfl) (by simp) ?_
                refine AllReadyH.cons rfl (fun K hK => ?_) AllReadyH.nil
                (first | (go_at_call 65; refine (l5PhiTakes_any f _ t k _ Z HP.out (HF.out.keep (Kept.below (HWH.out.trans (((Below.refl _ _).drew).mono (Nat.le_of_lt hfw))) hD)) (fun b hb => by have h1 := hD b hb; show b < wr.heap.size; omega) htn HKP.out).mono ?_; rintro e w7 ⟨gp, cp, rfl, ho7, hb7⟩; have HB7 : Hid (Below wr.heap.size wr w7) := (Below.refl _ _).drew.trans hb7; have HO7 := Lib.hid ho7; have HK7 := Lib.hid (HKS.out w7 HB7.out); clear hb7 ho7) | (refine step_append_ints (by rfl) (.tmp 116) (.tmp 123) (by rfl) wm.heap.size u14 (D0 ++ (us.take m).flatMap (phiL f k)) (phiL f k t) _ gp cp (by rfl) (HO'.out.below HB7.out fun kk hkk => (HO'.out.lt kk hkk).2) (by rfl) wr.heap.size HO7.out (Nat.le_trans hBr HB7.out.size) HLL.out ?_; intro v9 w9 hown9 hg9 hat9; have HO9 := Lib.hid hown9; have HG9 := Lib.hid hg9; have HA9 := Lib.hid hat9; have HU9 := Lib.hid ((HU.out.below HB7.out fun kk hkk => (HU.out.lt kk hkk).2).grown hg9 (.inr fun e => by have h1 := HU2.out.lt b5 rfl; rcases HAV'.out b5 e.symm with h | h <;> omega)); have HB9 := Lib.hid (HB7.out.mono hBr |>.grown hg9 (Nat.le_trans hBr HB7.out.size) fun kk hkk => (HO'.out.lt kk hkk).1); have HBM9 := Lib.hid (HBm.out.trans HB9.out); have HK9 : Hid ((fun w' => w'.cell? ⟨w.heap.size, 0, none⟩ = some (.int .i64 f.params) ∧ w'.cell? ⟨w.heap.size, 1, none⟩ = some (.int .i64 f.names) ∧ w'.cell? ⟨w.heap.size, 2, none⟩ = some (.slice (some ⟨b, off, none⟩) f.blocks.length c) ∧ w'.cell? ⟨b5, o5 + m, none⟩ = some (.int .i64 t)) w9) := ⟨(HBM9.out.cell (p := ⟨w.heap.size, 0, none⟩) hFm).trans HFM.out.1, (HBM9.out.cell (p := ⟨w.heap.size, 1, none⟩) hFm).trans HFM.out.2.1, (HBM9.out.cell (p := ⟨w.heap.size, 2, none⟩) hFm).trans HFM.out.2.2, (World.cell?_of_block (a := ⟨b5, o5 + m, none⟩) (hg9.block b5 (Nat.lt_of_lt_of_le hb5l HB7.out.size) (fun e => by have h1 := HU2.out.lt b5 rfl; rcases HAV'.out b5 e.symm with h | h <;> omega))).trans HK7.out.2.2.2⟩; clear hown9 hg9 hat9) | fail)
                refine hK.out _ _ ?_ (fun hHeld => ?_)
                · (try dsimp only)
                  (first | exact Kd | exact HK7.out | exact HK9.out | fail)
                clear hK K
                (try simp only [List.getElem_toArray, List.getElem_cons_succ, List.getElem_cons_zero, Act.put, List.setIfInBounds_toArray, List.set_cons_zero, List.set_cons_succ])
                refine wpAnyH_take (i := 9) (v := ?_) rfl (by kernel_rfl) (by kernel_rfl) (by kernel_rfl) (fun _ _ _ h => h) (Or.inl ⟨by rfl, ?_⟩) (by assumption) ?_
                rotate_left
                · intro w hSw
                  simp only [List.getElem_toArray, List.getElem_cons_succ, List.getElem_cons_zero]
                  (try dsimp only at hSw)
                  go_simp
                  first | done | (with_reducible rfl)
                simp only [List.getElem_toArray, List.getElem_cons_succ, List.getElem_cons_zero, Act.put, List.setIfInBounds_toArray, List.set_cons_zero, List.set_cons_succ]
                refine wpAnyH_done (by kernel_rfl) ?_ _
                have hz9 : w1.heap.size ≤ w9.heap.size := by have h1 := HB7.out.size; have h2 := HG9.out.size; omega
                have HAV9 : Hid (∀ kk, v9.ownBlock = some kk → kk < lo ∨ w1.heap.size ≤ kk) := fun kk hkk => by
                  rcases HA9.out with h | ⟨k9, h, hk9⟩
                  · exact HAV'.out kk (h.symm.trans hkk)
                  · rw [h] at hkk
                    injection hkk with hkk
                    have := HB7.out.size
                    exact .inr (by omega)
                have HO10 : Hid (OI w9 wm.heap.size v9 (D0 ++ (us.take (m + 1)).flatMap (phiL f k))) := by
                  rw [HTM.out, ← List.append_assoc]; exact HO9.out
                clear Kd HK7 HK9 HO9 HO7 HB7 HG9 HA9 HKS
                go_wp2_with fail
                go_roundw
                case rel => exact ⟨m + 1, by omega, by go_num, HBM9.out, HO10.out, hz9, HAV9.out, HU9.out⟩
                case measure => simp [intOf]; omega
            have hxj : x.tail[j]? = some x.tail[j] := List.getElem?_eq_getElem hjl
            generalize x.tail[j] = y at hxj
            obtain ⟨b', off', rfl, hDb', hrow'⟩ := H3.out (by intro h; rw [h] at hjl; simp at hjl)
            obtain ⟨ds, hE, hds⟩ := hrow' j y hxj
            have hbl' := hD b' hDb'
            have hjl' : (j : Int) < (x.tail.length : Int) := by omega
            have Hxj := Lib.hid hxj
            obtain rfl := hE
            have d0 : wr.cell? ⟨b', off' + j * 2, none⟩ = some (.int .i64 y.dst) := (HBw.out.cell (p := ⟨b', _, none⟩) hbl').trans (hds 0 _ rfl).1
            have d1 : wr.cell? ⟨b', off' + j * 2 + 1, none⟩ = some (.int .i64 y.src) := (HBw.out.cell (p := ⟨b', _, none⟩) hbl').trans (hds 1 _ rfl).1
            clear hds hrow' hxj hqc
            have HQ8 : Hid (∀ w2 a b, Adds2 wk w2 a0 b0 a b → ∀ (o : Nat) u, (#[(.slice A0 x.phis.length q0), (.slice A1 x.head.length q1), (.slice A2 x.body.length q2), (.slice (some ⟨b', off', none⟩) x.tail.length q3), (.int .i64 x.fin.k), (.int .i64 x.fin.a), (.int .i64 x.fin.t), (.int .i64 x.fin.l)] : Array Value)[o]? = some u → w2.cell? ⟨q, o, none⟩ = some u) := fun w2 a b ha => (HQC.out w2 a b ha).1
            have hn2 : x.body.length ≤ 1000 := by omega
            obtain ⟨EV, hEV⟩ : ∃ E, E = E2 ++ mvT (k : Int) (2 + (x.body.length : Int)) x.tail j := ⟨_, rfl⟩
            rw [← hEV] at HT
            have HEV := Lib.hid hEV
            have HL := Lib.hid (Two.len (evs := EV) (by have h1 := HEL2.out; have h2 := mvT_le (k : Int) (2 + (x.body.length : Int)) x.tail j; rw [hEV, List.length_append]; omega))
            clear hEV
            go_wp2_with (first
              | (at_builtin; (refine wpList_append_int rfl (.tmp 82) (.tmp 89) rfl B u6 (EV.map (·.n)) y.src wr rfl HT.out.1 rfl hBw HL.out.1 ?_; intro a' w2 hown2 hg2 hat2; have HO2 := Lib.hid hown2; have HG2 := Lib.hid hg2; have HT2 := Lib.hid hat2; have HM := Lib.hid (HT.out.mid hg2); have HA2 := Lib.hid (HA.out.left hg2 hat2); have e8 := HQ8.out w2 _ _ HA2.out; have b0 := e8 0 _ rfl; have b1 := e8 1 _ rfl; have b2 := e8 2 _ rfl; have b3 := e8 3 _ rfl; have b4 := e8 4 _ rfl; have b5 := e8 5 _ rfl; have b6 := e8 6 _ rfl; have b7 := e8 7 _ rfl; clear e8; clear hown2 hg2 hat2))
              | (go_at_call 62; refine (l5Tail_any _ _ _ _ _ _ _ _ _ _ _ hn2).mono ?_; rintro e w5 ⟨rfl, hb5⟩; have HM5 := Lib.hid (HM.out.below hb5 fun k hk => (HM.out.lt k hk).2); have HB5 := Lib.hid hb5; clear hb5) | (at_builtin; go_must (refine wpList_append_int rfl (.tmp 91) (.tmp 94) rfl B u7 (EV.map (·.pl.src)) (2 + (x.body.length : Int)) w5 rfl HM5.out rfl (Nat.le_trans (Nat.le_trans hBw HG2.out.size) HB5.out.size) HL.out.2 ?_; intro b' w3 hown3 hg3 hat3; have HO3 := Lib.hid hown3; have HG3 := Lib.hid hg3; have HT3 := Lib.hid hat3; clear hown3 hg3 hat3)))
            have HT9 : Hid (Two w3 B a' b' (E2 ++ mvT (k : Int) (2 + (x.body.length : Int)) x.tail (j + 1))) := Two.moreB HT.out HO2.out HG2.out HT2.out HB5.out HO3.out HG3.out HT3.out (k := (k : Int)) (by rw [mvT_succ Hxj.out, ← List.append_assoc, ← HEV.out])
            have HA9 := Lib.hid ((HA2.out.below HB5.out).right HG3.out HT3.out)
            clear HO2 HG2 HT2 HO3 HG3 HT3 HM HA2 HT HA HQ8
            go_roundw
            case rel => exact ⟨j + 1, by omega, by go_num, HT9.out, HA9.out⟩
            case measure => simp [intOf]; omega
        have hxj : x.body[j]? = some x.body[j] := List.getElem?_eq_getElem hjl
        generalize x.body[j] = y at hxj
        obtain ⟨b', off', rfl, hDb', hrow'⟩ := H2.out (by intro h; rw [h] at hjl; simp at hjl)
        obtain ⟨ds, hE, hds⟩ := hrow' j y hxj
        have hbl' := hD b' hDb'
        have hjl' : (j : Int) < (x.body.length : Int) := by omega
        have Hxj := Lib.hid hxj
        obtain rfl := hE
        have d0 : wr.cell? ⟨b', off' + j * 4, none⟩ = some (.int .i64 y.op) := (HBw.out.cell (p := ⟨b', _, none⟩) hbl').trans (hds 0 _ rfl).1
        have d1 : wr.cell? ⟨b', off' + j * 4 + 1, none⟩ = some (.int .i64 y.v) := (HBw.out.cell (p := ⟨b', _, none⟩) hbl').trans (hds 1 _ rfl).1
        have d2 : wr.cell? ⟨b', off' + j * 4 + 2, none⟩ = some (.int .i64 y.a) := (HBw.out.cell (p := ⟨b', _, none⟩) hbl').trans (hds 2 _ rfl).1
        have d3 : wr.cell? ⟨b', off' + j * 4 + 3, none⟩ = some (.int .i64 y.b) := (HBw.out.cell (p := ⟨b', _, none⟩) hbl').trans (hds 3 _ rfl).1
        clear hds hrow' hxj hqc
        have hok := (HBd.out j y Hxj.out).1
        have HMS := Lib.hid (insT_succ (k := (k : Int)) Hxj.out)
        have hull := usesL_len y.op y.v y.a y.b
        have HOK := Lib.hid hok
        clear hok
        go_wp2_with fail
        refine (l1Uses_any _ _ _ _ _ HOK.out).mono ?_
        rintro e w4 ⟨r4, rfl, hr4, hb4⟩
        generalize usesL y.op y.v y.a y.b = us at hull HMS hr4
        have HT4 := Lib.hid (HT.out.below hb4)
        have HA4 := Lib.hid (HA.out.below hb4)
        have HNO : Hid (∀ kk, wr.heap.size ≤ kk → ¬ Own2 u6 u7 kk) := fun kk hkk => HT.out.not_own hkk
        have HU4 := Lib.hid hr4
        have hB4 : B ≤ w4.heap.size := Nat.le_trans hBw hb4.size
        obtain ⟨_, A5, c5, rfl, _⟩ := hr4.ri
        obtain ⟨lo, hlo⟩ : ∃ lo, lo = wr.heap.size := ⟨_, rfl⟩
        rw [← hlo] at HNO HU4
        obtain ⟨a4, ha4⟩ : ∃ a : Value, a = u6 := ⟨_, rfl⟩
        obtain ⟨b4, hb4'⟩ : ∃ a : Value, a = u7 := ⟨_, rfl⟩
        subst ha4 hb4'
        clear hr4 hlo hb4 HT HA d0 d1 d2 d3 g2 hBw
        go_wp2_with fail
        go_loopw [6, 7, 12] (fun a b i wr => ∃ i2 : Nat, i2 ≤ us.length ∧ i = .int .i64 i2 ∧ Hid (Two wr B a b (E1 ++ insT (k : Int) x.body j ++ (us.take i2).map (fun u => (⟨u, ⟨(k : Int), 2 + (j : Int)⟩⟩ : EvD)))) ∧ Hid (Adds2 w4 wr a4 b4 a b)) (fun _ _ i _ => us.length - (intOf i).toNat)
        case atStart => exact ⟨0, Nat.zero_le _, rfl, HT4.out.to (by rw [List.take_zero]; exact List.append_nil _), Adds2.refl _ _ _⟩
        clear HT4
        case round =>
          obtain ⟨i2, hi2, rfl, HT, HA⟩ := hrel
          by_cases hil : i2 < us.length
          case neg =>
            obtain rfl : i2 = us.length := by omega
            have HT9 : Hid (Two wr B u6 u7 (E1 ++ insT (k : Int) x.body (j + 1))) := HT.out.to (by rw [HMS.out, List.take_length, List.append_assoc])
            have HA9 : Hid (Adds2 wk wr a0 b0 u6 u7) := HA4.out.trans HA.out
            clear HT HA
            go_wp2_with fail
            go_roundw
            case rel => exact ⟨j + 1, by omega, by go_num, HT9.out, HA9.out⟩
            case measure => simp [intOf]; omega
          have hxi : us[i2]? = some us[i2] := List.getElem?_eq_getElem hil
          generalize us[i2] = z at hxi
          have hil' : (i2 : Int) < (us.length : Int) := by omega
          have hOU := HU4.out.fw HA.out.fw fun kk hkk => HNO.out kk (HU4.out.lt kk hkk).1
          obtain ⟨_, A5', c5', he5, hux⟩ := hOU.ri
          injection he5 with e1 e0 e2
          clear e0
          subst e1 e2
          obtain ⟨b5, o5, rfl, hcell⟩ := hux (by rintro rfl; simp at hil)
          have p0 := hcell i2 _ hxi
          have HMT := Lib.hid (map_take hxi (fun u => (⟨u, ⟨(k : Int), 2 + (j : Int)⟩⟩ : EvD)))
          have hBw : B ≤ wr.heap.size := Nat.le_trans hB4 HA.out.fw.size
          clear hcell hux hOU hxi
          obtain ⟨EV, hEV⟩ : ∃ E, E = E1 ++ insT (k : Int) x.body j ++ (us.take i2).map (fun u => (⟨u, ⟨(k : Int), 2 + (j : Int)⟩⟩ : EvD)) := ⟨_, rfl⟩
          rw [← hEV] at HT
          have HEV := Lib.hid hEV
          have HL := Lib.hid (Two.len (evs := EV) (by have h1 := HEL1.out; have h2 := insT_le (k : Int) x.body j; rw [hEV, List.length_append, List.length_append, List.length_map, List.length_take]; omega))
          clear hEV
          go_wp2_with (first
            | (at_builtin; (refine wpList_append_int rfl (.tmp 63) (.tmp 68) rfl B u6 (EV.map (·.n)) z wr rfl HT.out.1 rfl hBw HL.out.1 ?_; intro a' w2 hown2 hg2 hat2; have HO2 := Lib.hid hown2; have HG2 := Lib.hid hg2; have HT2 := Lib.hid hat2; have HM := Lib.hid (HT.out.mid hg2); have HA2 := Lib.hid (HA.out.left hg2 hat2); clear hown2 hg2 hat2))
            | (at_builtin; go_must (refine wpList_append_int rfl (.tmp 70) (.tmp 73) rfl B u7 (EV.map (·.pl.src)) (2 + (j : Int)) w2 rfl HM.out rfl (Nat.le_trans hBw HG2.out.size) HL.out.2 ?_; intro b' w3 hown3 hg3 hat3; have HO3 := Lib.hid hown3; have HG3 := Lib.hid hg3; have HT3 := Lib.hid hat3; clear hown3 hg3 hat3)))
          have HT9 : Hid (Two w3 B a' b' (E1 ++ insT (k : Int) x.body j ++ (us.take (i2 + 1)).map (fun u => (⟨u, ⟨(k : Int), 2 + (j : Int)⟩⟩ : EvD)))) := Two.more HT.out HO2.out HG2.out HT2.out HO3.out HG3.out HT3.out (k := (k : Int)) (by rw [HMT.out, ← List.append_assoc, ← HEV.out])
          have HA9 := Lib.hid (HA2.out.right HG3.out HT3.out)
          clear HO2 HG2 HT2 HO3 HG3 HT3 HM HA2 HT HA p0
          go_roundw
          case rel => exact ⟨i2 + 1, by omega, by go_num, HT9.out, HA9.out⟩
          case measure => simp [intOf]; omega
    have hxj : x.head[j]? = some x.head[j] := List.getElem?_eq_getElem hjl
    generalize x.head[j] = y at hxj
    obtain ⟨b', off', rfl, hDb', hrow'⟩ := H1.out (by intro h; rw [h] at hjl; simp at hjl)
    obtain ⟨ds, hE, hds⟩ := hrow' j y hxj
    have hbl' := hD b' hDb'
    have hjl' : (j : Int) < (x.head.length : Int) := by omega
    have Hxj := Lib.hid hxj
    obtain rfl := hE
    have d0 : wr.cell? ⟨b', off' + j * 2, none⟩ = some (.int .i64 y.dst) := (HBw.out.cell (p := ⟨b', _, none⟩) hbl').trans (hds 0 _ rfl).1
    have d1 : wr.cell? ⟨b', off' + j * 2 + 1, none⟩ = some (.int .i64 y.src) := (HBw.out.cell (p := ⟨b', _, none⟩) hbl').trans (hds 1 _ rfl).1
    clear hds hrow' hxj hqc
    obtain ⟨EV, hEV⟩ : ∃ E, E = E0 ++ mvT (k : Int) 1 x.head j := ⟨_, rfl⟩
    rw [← hEV] at HT
    have HEV := Lib.hid hEV
    have HL := Lib.hid (Two.len (evs := EV) (by have h1 := HEL0.out; have h2 := mvT_le (k : Int) 1 x.head j; rw [hEV, List.length_append]; omega))
    clear hEV
    go_wp2_with (first
      | (at_builtin; (refine wpList_append_int rfl (.tmp 32) (.tmp 39) rfl B u6 (EV.map (·.n)) y.src wr rfl HT.out.1 rfl hBw HL.out.1 ?_; intro a' w2 hown2 hg2 hat2; have HO2 := Lib.hid hown2; have HG2 := Lib.hid hg2; have HT2 := Lib.hid hat2; have HM := Lib.hid (HT.out.mid hg2); have HA2 := Lib.hid (HA.out.left hg2 hat2); clear hown2 hg2 hat2))
      | (at_builtin; go_must (refine wpList_append_int rfl (.tmp 41) (.tmp 42) rfl B u7 (EV.map (·.pl.src)) (1) w2 rfl HM.out rfl (Nat.le_trans hBw HG2.out.size) HL.out.2 ?_; intro b' w3 hown3 hg3 hat3; have HO3 := Lib.hid hown3; have HG3 := Lib.hid hg3; have HT3 := Lib.hid hat3; clear hown3 hg3 hat3)))
    have HT9 : Hid (Two w3 B a' b' (E0 ++ mvT (k : Int) 1 x.head (j + 1))) := Two.more HT.out HO2.out HG2.out HT2.out HO3.out HG3.out HT3.out (k := (k : Int)) (by rw [mvT_succ Hxj.out, ← List.append_assoc, ← HEV.out])
    have HA9 := Lib.hid (HA2.out.right HG3.out HT3.out)
    clear HO2 HG2 HT2 HO3 HG3 HT3 HM HA2 HT HA 
    go_roundw
    case rel => exact ⟨j + 1, by omega, by go_num, HT9.out, HA9.out⟩
    case measure => simp [intOf]; omega
end

end Go.Proofs.YtnjmlhokkhkaaaaGreatDoor
