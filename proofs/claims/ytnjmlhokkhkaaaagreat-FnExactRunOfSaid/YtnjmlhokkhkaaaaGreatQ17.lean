/- RunM5, joined. -/
import Derived.Test.YtnjmlhokkhkaaaaGreatQ8
import Derived.Test.YtnjmlhokkhkaaaaGreatQ9
import Derived.Test.YtnjmlhokkhkaaaaGreatQ16
namespace Go.Proofs.YtnjmlhokkhkaaaaGreat

/- RunOf of the model. -/
section
open Go.ChangeShapes Go.WideShapes Go.ChangeAt Go.RowKit Go.Joins

/-- The model's run as it stands: O holds the Out; w5 is the world in which O was laid. -/
structure MR (w5 wr : World) (O B0 : Nat) (st val : Int) (ev : Value) (vis : Nat) (em : List Int) (sv : Value) (σ : List Int) : Prop where
  ltO : O < w5.heap.size
  fw : Fw (· = O) w5 wr
  out : wr.heap[O]? = some (.cells #[.int .i64 st, .int .i64 val, ev, .int .i64 vis] 31 (0, 0))
  he : OI wr w5.heap.size ev em
  hs : OI wr B0 sv σ
  so : sv.ownBlock ≠ some O
variable {w5 wr w' : World} {O B0 : Nat} {st val : Int} {ev sv : Value} {vis : Nat} {em σ : List Int}
theorem MR.below (h : MR w5 wr O B0 st val ev vis em sv σ) (hb : Below wr.heap.size wr w') : MR w5 w' O B0 st val ev vis em sv σ :=
  ⟨h.ltO, h.fw.trans (Fw.below (P := fun _ => False) hb) fun _ _ h => h.elim, (hb.block O (Nat.lt_of_lt_of_le h.ltO h.fw.size)).trans h.out, h.he.below hb fun k hk => (h.he.lt k hk).2, h.hs.below hb fun k hk => (h.hs.lt k hk).2, h.so⟩
theorem MR.setO (h : MR w5 wr O B0 st val ev vis em sv σ) (j : Nat) (u : Value) {st' val' : Int} {vis' : Nat}
    (he : (#[.int .i64 st, .int .i64 val, ev, .int .i64 vis] : Array Value).setIfInBounds j u = #[.int .i64 st', .int .i64 val', ev, .int .i64 vis']) : MR w5 (wr.setCell ⟨O, j, none⟩ u) O B0 st' val' ev vis' em sv σ := by
  have hf : Fw (· = O) wr (wr.setCell ⟨O, j, none⟩ u) := Fw.set (P := (· = O)) wr rfl j u
  refine ⟨h.ltO, h.fw.trans hf fun _ _ h => h, ?_, h.he.fw hf fun k hk e => ?_, h.hs.fw hf fun k hk e => h.so (by rw [hk, show k = O from e]), h.so⟩
  · rw [← he]
    exact heap_setCell_same wr O j _ _ u h.out
  · have e' : k = O := e
    have h1 := (h.he.lt k hk).1
    have h2 := h.ltO
    omega
theorem MR.newS (h : MR w5 wr O B0 st val ev vis em sv σ) {B1 : Nat} {sv' : Value} {σ' : List Int} (hs : OI wr B1 sv' σ') (hB : w5.heap.size ≤ B1) : MR w5 wr O w5.heap.size st val ev vis em sv' σ' :=
  ⟨h.ltO, h.fw, h.out, h.he, World.ownsRow.mono hs hB, fun e => by have h1 := (hs.lt O e).1; have h2 := h.ltO; omega⟩
theorem MR.old (h : MR w5 wr O B0 st val ev vis em sv σ) {B : Nat} (hB : B ≤ O) : Below B w5 wr := h.fw.toBelow (by have := h.ltO; omega) fun k hk e => by have e' : k = O := e; omega
/-- Behind the body. -/
theorem MR.body (h : MR w5 wr O w5.heap.size st val ev vis em sv σ) {ev' : Value} {r : BSt} (hv : OI w' w5.heap.size sv r.σ) (he : OI w' w5.heap.size ev' r.em) (hf : Fw (fun b => sv.ownBlock = some b ∨ ev.ownBlock = some b) wr w') :
    MR w5 (w'.setCell ⟨O, 2, none⟩ ev') O w5.heap.size st val ev' vis r.em sv r.σ := by
  have hO : ∀ b, (sv.ownBlock = some b ∨ ev.ownBlock = some b) → w5.heap.size ≤ b := fun b hb => by
    rcases hb with hb | hb
    · exact (h.hs.lt b hb).1
    · exact (h.he.lt b hb).1
  have hltO := h.ltO
  have hfo : Fw (· = O) w' (w'.setCell ⟨O, 2, none⟩ ev') := Fw.set (P := (· = O)) w' rfl 2 ev'
  refine ⟨h.ltO, (h.fw.trans hf fun i hi hq => by have := hO i hq; omega).trans hfo fun _ _ h => h, ?_, he.fw hfo fun k hk e => ?_, hv.fw hfo fun k hk e => ?_, h.so⟩
  · have h1 : w'.heap[O]? = some (.cells #[.int .i64 st, .int .i64 val, ev, .int .i64 vis] 31 (0, 0)) := (hf.block O (Nat.lt_of_lt_of_le h.ltO h.fw.size) fun hq => by have := hO O hq; omega).trans h.out
    exact heap_setCell_same w' O 2 _ _ ev' h1
  · have e' : k = O := e
    have h1 := (he.lt k hk).1
    omega
  · have e' : k = O := e
    have h1 := (hv.lt k hk).1
    omega

def visM (w : World) (O : Nat) : Nat := match w.cell? ⟨O, 3, none⟩ with
  | some v => (intOf v).toNat
  | none => 0
theorem MR.visM (h : MR w5 wr O B0 st val ev vis em sv σ) : visM wr O = vis := by
  have hc := cell_of_row wr O 3 _ _ (0, 0) h.out
  unfold Go.Proofs.YtnjmlhokkhkaaaaGreat.visM
  rw [hc]
  simp [intOf]

/-- The pred as the model keeps it. -/
def PredOk (f : FunD) (s : VSt) (pred : Int) : Prop := ∃ x, f.blocks[s.at_]? = some x ∧ (x.phis = [] ∨ (pred = s.bef ∧ (s.bef : Int) ∈ predsF f s.at_))
theorem PredOk.phis {f : FunD} {s : VSt} {pred : Int} {x : BlockD} (h : PredOk f s pred) (hx : f.blocks[s.at_]? = some x) : (x.phis = [] ∨ pred ∈ predsF f s.at_) ∧ mvA (phM (wayF f s.at_ pred) x.phis) s.σ = phS f x s := by
  obtain ⟨y, hy, hc⟩ := h
  rw [hx] at hy
  injection hy with hy
  subst hy
  rcases hc with hc | ⟨rfl, hm⟩
  · exact ⟨.inl hc, by unfold phS; rw [hc]; rfl⟩
  · exact ⟨.inr hm, rfl⟩
theorem PredOk.next {f : FunD} (hp : FunP f) {s : VSt} {x : BlockD} (hx : f.blocks[s.at_]? = some x) {σ em σ' : List Int} {t : Int} (h : nextS x σ' = some t) : PredOk f ⟨σ, em, t.toNat, s.at_⟩ s.at_ := by
  obtain ⟨⟨h0, h1⟩, hm⟩ := nextS_mem hp hx h
  have hy : f.blocks[t.toNat]? = some f.blocks[t.toNat] := List.getElem?_eq_getElem (by omega)
  refine ⟨_, hy, .inr ⟨rfl, ?_⟩⟩
  have := mem_predsF hx hm
  rw [show ((t.toNat : Nat) : Int) = t by omega]
  exact this
theorem canRun_sides {f : FunD} {args : List Int} {fuel : Int} (hp : FunP f) : ArgsP f args fuel ↔ CanRun f args fuel := ⟨fun h => ⟨hp, h⟩, fun h => h.2⟩

set_option maxRecDepth 10000 in
set_option maxHeartbeats 4000000 in
theorem sRunOf_any (f : FunD) (v va : Value) (args : List Int) (fuel : Int) (w : World) (Z : Zn) (hv : EFun w Z f v) (hD : ∀ b, Z.D b → b < w.heap.size) (hn : f.blocks.length ≤ 1048576) (ha : RI w va args) :
    Calls Tryz.prog 10 #[v, va, .int .i64 fuel] w (GivesOut (RunG f args fuel) w) := by
  have HF := Lib.hid hv
  have HRA := Lib.hid ha
  have HDl := Lib.hid hD
  obtain ⟨u, rfl, hu⟩ := hv
  have HROW := Lib.hid hu
  obtain ⟨_, A, c, rfl, hx⟩ := hu
  obtain ⟨_, Aa, ca, rfl, _⟩ := ha
  clear hx
  have hB2 : Below w.heap.size w ((w.alloc (.cells #[.int .i64 f.params, .int .i64 f.names, .slice A f.blocks.length c] 26)).alloc (.cells #[.int .i64 0, .int .i64 0, .slice none 0 0, .int .i64 0] 31)) := by
    repeat (first | exact Below.refl _ _ | refine Below.alloc ?_ (by first | (simp; done) | (simp; omega)) _)
  have hq : ((w.alloc (.cells #[.int .i64 f.params, .int .i64 f.names, .slice A f.blocks.length c] 26)).alloc (.cells #[.int .i64 0, .int .i64 0, .slice none 0 0, .int .i64 0] 31)).heap[w.heap.size + 1]? = some (.cells #[.int .i64 0, .int .i64 0, .slice none 0 0, .int .i64 0] 31 (0, 0)) := by
    have h1 := heap_alloc_new (w.alloc (.cells #[.int .i64 f.params, .int .i64 f.names, .slice A f.blocks.length c] 26)) (.cells #[.int .i64 0, .int .i64 0, .slice none 0 0, .int .i64 0] 31)
    simp only [World.size_alloc] at h1
    exact h1
  have hk : ∀ j u, (#[Value.int .i64 f.params, .int .i64 f.names, .slice A f.blocks.length c] : Array Value)[j]? = some u → ((w.alloc (.cells #[.int .i64 f.params, .int .i64 f.names, .slice A f.blocks.length c] 26)).alloc (.cells #[.int .i64 0, .int .i64 0, .slice none 0 0, .int .i64 0] 31)).cell? ⟨w.heap.size, j, none⟩ = some u := fun j u hu => by
    rw [World.cell?_alloc_lt _ _ ⟨w.heap.size, j, none⟩ (by simp)]
    exact (cell_of_row _ w.heap.size j _ _ (0, 0) (heap_alloc_new w _)).trans hu
  have hs2 : ((w.alloc (.cells #[.int .i64 f.params, .int .i64 f.names, .slice A f.blocks.length c] 26)).alloc (.cells #[.int .i64 0, .int .i64 0, .slice none 0 0, .int .i64 0] 31)).heap.size = w.heap.size + 2 := by simp
  have HKK := Lib.hid hk
  clear hk
  go_enter Tryz.func10, Tryz.ntmps10
  go_wp2_with fail
  obtain ⟨F, hF⟩ : ∃ F, F = w.heap.size := ⟨_, rfl⟩
  obtain ⟨Q, hQ⟩ : ∃ Q, Q = F + 1 := ⟨_, rfl⟩
  rw [← hF] at hq hs2
  rw [← hQ] at hq
  have HKF : Hid (∀ j u, (#[Value.int .i64 f.params, .int .i64 f.names, .slice A f.blocks.length c] : Array Value)[j]? = some u → (((w.alloc (.cells #[.int .i64 f.params, .int .i64 f.names, .slice A f.blocks.length c] 26)).alloc (.cells #[.int .i64 0, .int .i64 0, .slice none 0 0, .int .i64 0] 31))).cell? ⟨F, j, none⟩ = some u) := by rw [hF]; exact HKK.out
  rw [← hF, ← hQ]
  have HWF : Hid (w.heap.size = F) := hF.symm
  have hFQ : F < Q := by omega
  have hQ2 : Q < (((w.alloc (.cells #[.int .i64 f.params, .int .i64 f.names, .slice A f.blocks.length c] 26)).alloc (.cells #[.int .i64 0, .int .i64 0, .slice none 0 0, .int .i64 0] 31))).heap.size := by omega
  have HB2 := Lib.hid hB2
  generalize ((w.alloc (.cells #[.int .i64 f.params, .int .i64 f.names, .slice A f.blocks.length c] 26)).alloc (.cells #[.int .i64 0, .int .i64 0, .slice none 0 0, .int .i64 0] 31)) = w2 at *
  have HKFB : Hid (∀ w', Below w2.heap.size w2 w' → w'.cell? ⟨F, 0, none⟩ = some (.int .i64 f.params) ∧ w'.cell? ⟨F, 1, none⟩ = some (.int .i64 f.names) ∧ w'.cell? ⟨F, 2, none⟩ = some (.slice A f.blocks.length c)) := fun w' hb => ⟨(hb.cell (p := ⟨F, 0, none⟩) (show F < w2.heap.size by omega)).trans (HKF.out 0 _ rfl), (hb.cell (p := ⟨F, 1, none⟩) (show F < w2.heap.size by omega)).trans (HKF.out 1 _ rfl), (hb.cell (p := ⟨F, 2, none⟩) (show F < w2.heap.size by omega)).trans (HKF.out 2 _ rfl)⟩
  clear HKK hF hB2 hQ hs2 HKF
  refine (sFunOk_any f _ _ Z (HF.out.keep (Kept.below HB2.out hD)) (fun b hb => by have := hD b hb; have := HB2.out.size; omega) hn).mono ?_
  rintro e w3 ⟨r, rfl, hr, hb3⟩
  have HR := Lib.hid hr
  have HB23 := Lib.hid hb3
  have HB3 : Hid (Below w.heap.size w w3) := HB2.out.trans (hb3.mono (by have := HB2.out.size; omega))
  have HQ3 : Hid (w3.heap[Q]? = some (.cells #[.int .i64 0, .int .i64 0, .slice none 0 0, .int .i64 0] 31 (0, 0))) := (hb3.block Q (by omega)).trans hq
  have hz3 : Q < w3.heap.size := by have := hb3.size; omega
  obtain ⟨k0, k1, k2⟩ := HKFB.out w3 hb3
  clear hr hb3 hq
  cases r
  · have HN : Hid (RunG f args fuel zOut) := .inl ⟨fun h => (by have := HR.out.2 h.1; cases this), rfl⟩
    have qc0 := cell_of_row w3 Q 0 _ _ (0, 0) HQ3.out
    have qf0 := frozen_of_row w3 Q 0 _ _ HQ3.out
    have qc1 := cell_of_row w3 Q 1 _ _ (0, 0) HQ3.out
    have qf1 := frozen_of_row w3 Q 1 _ _ HQ3.out
    have qc2 := cell_of_row w3 Q 2 _ _ (0, 0) HQ3.out
    have qf2 := frozen_of_row w3 Q 2 _ _ HQ3.out
    have qc3 := cell_of_row w3 Q 3 _ _ (0, 0) HQ3.out
    have qf3 := frozen_of_row w3 Q 3 _ _ HQ3.out
    go_wp2_with fail
    have HFW : Hid (Fw (· = Q) w3 ((((w3.setCell ⟨Q, 0, none⟩ (.int .i64 0)).setCell ⟨Q, 1, none⟩ (.int .i64 0)).setCell ⟨Q, 2, none⟩ (.slice none 0 0)).setCell ⟨Q, 3, none⟩ (.int .i64 0))) := (((((Fw.refl (· = Q) w3).trans (Fw.set (P := (· = Q)) _ rfl 0 (.int .i64 0)) (fun _ _ h => h)).trans (Fw.set (P := (· = Q)) _ rfl 1 (.int .i64 0)) (fun _ _ h => h)).trans (Fw.set (P := (· = Q)) _ rfl 2 (.slice none 0 0)) (fun _ _ h => h)).trans (Fw.set (P := (· = Q)) _ rfl 3 (.int .i64 0)) (fun _ _ h => h))
    have HWQ : Hid ((((((w3.setCell ⟨Q, 0, none⟩ (.int .i64 0)).setCell ⟨Q, 1, none⟩ (.int .i64 0)).setCell ⟨Q, 2, none⟩ (.slice none 0 0)).setCell ⟨Q, 3, none⟩ (.int .i64 0))).heap[Q]? = some (.cells #[(.int .i64 0), (.int .i64 0), (.slice none 0 0), (.int .i64 0)] 31 (0, 0))) := by
      have s0 : ((w3.setCell ⟨Q, 0, none⟩ (.int .i64 0))).heap[Q]? = some (.cells #[(.int .i64 0), (.int .i64 0), (.slice none 0 0), (.int .i64 0)] 31 (0, 0)) := heap_setCell_same _ Q 0 _ _ (.int .i64 0) HQ3.out
      have s1 : (((w3.setCell ⟨Q, 0, none⟩ (.int .i64 0)).setCell ⟨Q, 1, none⟩ (.int .i64 0))).heap[Q]? = some (.cells #[(.int .i64 0), (.int .i64 0), (.slice none 0 0), (.int .i64 0)] 31 (0, 0)) := heap_setCell_same _ Q 1 _ _ (.int .i64 0) s0
      have s2 : ((((w3.setCell ⟨Q, 0, none⟩ (.int .i64 0)).setCell ⟨Q, 1, none⟩ (.int .i64 0)).setCell ⟨Q, 2, none⟩ (.slice none 0 0))).heap[Q]? = some (.cells #[(.int .i64 0), (.int .i64 0), (.slice none 0 0), (.int .i64 0)] 31 (0, 0)) := heap_setCell_same _ Q 2 _ _ (.slice none 0 0) s1
      have s3 : (((((w3.setCell ⟨Q, 0, none⟩ (.int .i64 0)).setCell ⟨Q, 1, none⟩ (.int .i64 0)).setCell ⟨Q, 2, none⟩ (.slice none 0 0)).setCell ⟨Q, 3, none⟩ (.int .i64 0))).heap[Q]? = some (.cells #[(.int .i64 0), (.int .i64 0), (.slice none 0 0), (.int .i64 0)] 31 (0, 0)) := heap_setCell_same _ Q 3 _ _ (.int .i64 0) s2
      exact s3
    generalize ((((w3.setCell ⟨Q, 0, none⟩ (.int .i64 0)).setCell ⟨Q, 1, none⟩ (.int .i64 0)).setCell ⟨Q, 2, none⟩ (.slice none 0 0)).setCell ⟨Q, 3, none⟩ (.int .i64 0)) = wf at *
    have qd0 := cell_of_row wf Q 0 _ _ (0, 0) HWQ.out
    have qd1 := cell_of_row wf Q 1 _ _ (0, 0) HWQ.out
    have qd2 := cell_of_row wf Q 2 _ _ (0, 0) HWQ.out
    have qd3 := cell_of_row wf Q 3 _ _ (0, 0) HWQ.out
    clear qc0 qc1 qc2 qc3 qf0 qf1 qf2 qf3
    refine bodyPost_ret (v := .agg #[(.int .i64 0), (.int .i64 0), (.slice none 0 0), (.int .i64 0)]) (by simp [results, Tryz.results10, go_sem, qd0, qd1, qd2, qd3]) rfl ?_
    exact ⟨zOut, _, HN.out, rfl, World.ownsRow_nil _ _ _ _, HB3.out.trans ((HFW.out.toBelow (B := F) (by omega) (fun k hk e => by have e' : k = Q := e; omega)).mono (Nat.le_of_eq HWF.out))⟩
  have HP := Lib.hid (HR.out.1 rfl)
  clear HR
  go_wp2_with fail
  refine (l6Args_any f A f.blocks.length c _ args fuel w3 (HRA.out.keepB HB3.out)).mono ?_
  rintro e w4 ⟨r, rfl, hr, hb4⟩
  have HR := Lib.hid hr
  have HB24 := Lib.hid (HB23.out.trans (hb4.mono HB23.out.size))
  have HB4 : Hid (Below w.heap.size w w4) := HB3.out.trans (hb4.mono (by have := HB3.out.size; omega))
  have HQ4 : Hid (w4.heap[Q]? = some (.cells #[.int .i64 0, .int .i64 0, .slice none 0 0, .int .i64 0] 31 (0, 0))) := (hb4.block Q hz3).trans HQ3.out
  have hz4 : Q < w4.heap.size := by have := hb4.size; omega
  clear hr hb4 k0 k1 k2 HQ3
  obtain ⟨k0, k1, k2⟩ := HKFB.out w4 HB24.out
  cases r
  · have HN : Hid (RunG f args fuel zOut) := .inl ⟨fun h => (by have := HR.out.2 ((canRun_sides HP.out).2 h); cases this), rfl⟩
    have qc0 := cell_of_row w4 Q 0 _ _ (0, 0) HQ4.out
    have qf0 := frozen_of_row w4 Q 0 _ _ HQ4.out
    have qc1 := cell_of_row w4 Q 1 _ _ (0, 0) HQ4.out
    have qf1 := frozen_of_row w4 Q 1 _ _ HQ4.out
    have qc2 := cell_of_row w4 Q 2 _ _ (0, 0) HQ4.out
    have qf2 := frozen_of_row w4 Q 2 _ _ HQ4.out
    have qc3 := cell_of_row w4 Q 3 _ _ (0, 0) HQ4.out
    have qf3 := frozen_of_row w4 Q 3 _ _ HQ4.out
    go_wp2_with fail
    have HFW : Hid (Fw (· = Q) w4 ((((w4.setCell ⟨Q, 0, none⟩ (.int .i64 0)).setCell ⟨Q, 1, none⟩ (.int .i64 0)).setCell ⟨Q, 2, none⟩ (.slice none 0 0)).setCell ⟨Q, 3, none⟩ (.int .i64 0))) := (((((Fw.refl (· = Q) w4).trans (Fw.set (P := (· = Q)) _ rfl 0 (.int .i64 0)) (fun _ _ h => h)).trans (Fw.set (P := (· = Q)) _ rfl 1 (.int .i64 0)) (fun _ _ h => h)).trans (Fw.set (P := (· = Q)) _ rfl 2 (.slice none 0 0)) (fun _ _ h => h)).trans (Fw.set (P := (· = Q)) _ rfl 3 (.int .i64 0)) (fun _ _ h => h))
    have HWQ : Hid ((((((w4.setCell ⟨Q, 0, none⟩ (.int .i64 0)).setCell ⟨Q, 1, none⟩ (.int .i64 0)).setCell ⟨Q, 2, none⟩ (.slice none 0 0)).setCell ⟨Q, 3, none⟩ (.int .i64 0))).heap[Q]? = some (.cells #[(.int .i64 0), (.int .i64 0), (.slice none 0 0), (.int .i64 0)] 31 (0, 0))) := by
      have s0 : ((w4.setCell ⟨Q, 0, none⟩ (.int .i64 0))).heap[Q]? = some (.cells #[(.int .i64 0), (.int .i64 0), (.slice none 0 0), (.int .i64 0)] 31 (0, 0)) := heap_setCell_same _ Q 0 _ _ (.int .i64 0) HQ4.out
      have s1 : (((w4.setCell ⟨Q, 0, none⟩ (.int .i64 0)).setCell ⟨Q, 1, none⟩ (.int .i64 0))).heap[Q]? = some (.cells #[(.int .i64 0), (.int .i64 0), (.slice none 0 0), (.int .i64 0)] 31 (0, 0)) := heap_setCell_same _ Q 1 _ _ (.int .i64 0) s0
      have s2 : ((((w4.setCell ⟨Q, 0, none⟩ (.int .i64 0)).setCell ⟨Q, 1, none⟩ (.int .i64 0)).setCell ⟨Q, 2, none⟩ (.slice none 0 0))).heap[Q]? = some (.cells #[(.int .i64 0), (.int .i64 0), (.slice none 0 0), (.int .i64 0)] 31 (0, 0)) := heap_setCell_same _ Q 2 _ _ (.slice none 0 0) s1
      have s3 : (((((w4.setCell ⟨Q, 0, none⟩ (.int .i64 0)).setCell ⟨Q, 1, none⟩ (.int .i64 0)).setCell ⟨Q, 2, none⟩ (.slice none 0 0)).setCell ⟨Q, 3, none⟩ (.int .i64 0))).heap[Q]? = some (.cells #[(.int .i64 0), (.int .i64 0), (.slice none 0 0), (.int .i64 0)] 31 (0, 0)) := heap_setCell_same _ Q 3 _ _ (.int .i64 0) s2
      exact s3
    generalize ((((w4.setCell ⟨Q, 0, none⟩ (.int .i64 0)).setCell ⟨Q, 1, none⟩ (.int .i64 0)).setCell ⟨Q, 2, none⟩ (.slice none 0 0)).setCell ⟨Q, 3, none⟩ (.int .i64 0)) = wf at *
    have qd0 := cell_of_row wf Q 0 _ _ (0, 0) HWQ.out
    have qd1 := cell_of_row wf Q 1 _ _ (0, 0) HWQ.out
    have qd2 := cell_of_row wf Q 2 _ _ (0, 0) HWQ.out
    have qd3 := cell_of_row wf Q 3 _ _ (0, 0) HWQ.out
    clear qc0 qc1 qc2 qc3 qf0 qf1 qf2 qf3
    refine bodyPost_ret (v := .agg #[(.int .i64 0), (.int .i64 0), (.slice none 0 0), (.int .i64 0)]) (by simp [results, Tryz.results10, go_sem, qd0, qd1, qd2, qd3]) rfl ?_
    exact ⟨zOut, _, HN.out, rfl, World.ownsRow_nil _ _ _ _, HB4.out.trans ((HFW.out.toBelow (B := F) (by omega) (fun k hk e => by have e' : k = Q := e; omega)).mono (Nat.le_of_eq HWF.out))⟩
  have HC := Lib.hid ((canRun_sides HP.out).1 (HR.out.1 rfl))
  clear HR
  obtain ⟨m, hm⟩ : ∃ m : Nat, f.names - f.params = m := ⟨(f.names - f.params).toNat, by have := HP.out.1.2.2.2.1; omega⟩
  have HM := Lib.hid hm
  have hm150 : m ≤ 150 := by have h1 := HP.out.1.2.1.2; have h2 := HP.out.1.2.2.1.1; omega
  have hal : args.length ≤ 6 := by have h1 := HC.out.2.1; have h2 := HP.out.1.2.2.1.2; omega
  have hnn0 := HP.out.1.2.1.1
  have hnn1 := HP.out.1.2.1.2
  have hpp0 := HP.out.1.2.2.1.1
  have hpp1 := HP.out.1.2.2.1.2
  clear hm
  go_upto_region 3 with fail
  have Kd : (fun w' => w'.cell? ⟨F, 0, none⟩ = some (.int .i64 f.params) ∧ w'.cell? ⟨F, 1, none⟩ = some (.int .i64 f.names)) w4.drew := ⟨k0, k1⟩
  have hF4 : F < w4.heap.size := by omega
  refine wp_region_offL (S := ((fun w' => w'.cell? ⟨F, 0, none⟩ = some (.int .i64 f.params) ∧ w'.cell? ⟨F, 1, none⟩ = some (.int .i64 f.names)))) (by simp) (by kernel_rfl) (by kernel_rfl) (by kernel_rfl) (by kernel_rfl) (by kernel_rfl) ?_ (fun hHeld => ?_)
  · (try dsimp only)
    (first | exact Kd | exact HK7.out | exact HK8.out | fail)
  simp only [List.dropLast_cons_cons, List.dropLast_singleton, List.length_cons, List.length_nil]
  refine wpAnyH_take (i := 0) (v := ?_) rfl (by kernel_rfl) (by kernel_rfl) (by kernel_rfl) (fun _ _ _ h => h) (Or.inl ⟨by rfl, ?_⟩) (by assumption) ?_
  rotate_left
  · intro w hSw
    simp only [List.getElem_toArray, List.getElem_cons_zero]
    (try dsimp only at hSw)
    go_simp
    first | done | (with_reducible rfl)
  simp only [List.getElem_toArray, List.getElem_cons_zero, Act.put, List.setIfInBounds_toArray, List.set_cons_zero, List.set_cons_succ]
  refine wpAnyH_take (i := 2) (v := ?_) rfl (by kernel_rfl) (by kernel_rfl) (by kernel_rfl) (fun _ _ _ h => h) (Or.inl ⟨by rfl, ?_⟩) (by assumption) ?_
  rotate_left
  · intro w hSw
    simp only [List.getElem_toArray, List.getElem_cons_succ, List.getElem_cons_zero]
    (try dsimp only at hSw)
    go_simp
    first | done | (with_reducible rfl)
  simp only [List.getElem_toArray, List.getElem_cons_succ, List.getElem_cons_zero, Act.put, List.setIfInBounds_toArray, List.set_cons_zero, List.set_cons_succ]
  refine wpAnyH_take (i := 3) (v := ?_) rfl (by kernel_rfl) (by kernel_rfl) (by kernel_rfl) (fun _ _ _ h => h) (Or.inl ⟨by rfl, ?_⟩) (by assumption) ?_
  rotate_left
  · intro w hSw
    simp only [List.getElem_toArray, List.getElem_cons_succ, List.getElem_cons_zero]
    (try dsimp only at hSw)
    go_simp
    first | done | (with_reducible rfl)
  simp only [List.getElem_toArray, List.getElem_cons_succ, List.getElem_cons_zero, Act.put, List.setIfInBounds_toArray, List.set_cons_zero, List.set_cons_succ]
  refine wpAnyH_take (i := 4) (v := ?_) rfl (by kernel_rfl) (by kernel_rfl) (by kernel_rfl) (fun _ _ _ h => h) (Or.inl ⟨by rfl, ?_⟩) (by assumption) ?_
  rotate_left
  · intro w hSw
    simp only [List.getElem_toArray, List.getElem_cons_succ, List.getElem_cons_zero]
    (try dsimp only at hSw)
    go_simp
    first | done | (with_reducible rfl)
  simp only [List.getElem_toArray, List.getElem_cons_succ, List.getElem_cons_zero, Act.put, List.setIfInBounds_toArray, List.set_cons_zero, List.set_cons_succ]
  refine wpAnyH_take (i := 5) (v := ?_) rfl (by kernel_rfl) (by kernel_rfl) (by kernel_rfl) (fun _ _ _ h => h) (Or.inl ⟨by rfl, ?_⟩) (by assumption) ?_
  rotate_left
  · intro w hSw
    simp only [List.getElem_toArray, List.getElem_cons_succ, List.getElem_cons_zero]
    (try dsimp only at hSw)
    go_simp
    first | done | (with_reducible rfl)
  simp only [List.getElem_toArray, List.getElem_cons_succ, List.getElem_cons_zero, Act.put, List.setIfInBounds_toArray, List.set_cons_zero, List.set_cons_succ]
  refine wpAnyH_take (i := 6) (v := ?_) rfl (by kernel_rfl) (by kernel_rfl) (by kernel_rfl) (fun _ _ _ h => h) (Or.inl ⟨by rfl, ?_⟩) (by assumption) ?_
  rotate_left
  · intro w hSw
    simp only [List.getElem_toArray, List.getElem_cons_succ, List.getElem_cons_zero]
    (try dsimp only at hSw)
    go_simp
    first | done | (with_reducible rfl)
  simp only [List.getElem_toArray, List.getElem_cons_succ, List.getElem_cons_zero, Act.put, List.setIfInBounds_toArray, List.set_cons_zero, List.set_cons_succ]
  refine wpAnyH_ready (rs := [1]) (by kernel_rfl) (by simp) ?_
  refine AllReadyH.cons rfl (fun KZ hKZ => ?_) AllReadyH.nil
  simp only [List.getElem_toArray, List.getElem_cons_succ, List.getElem_cons_zero]
  go_simp
  (first | (go_at_call 36; refine (l1Copy_any _ args _ ((HRA.out.keepB HB4.out).keepB (Below.refl _ _).drew) (by omega)).mono ?_; rintro e w7 ⟨v7, rfl, ho7, hb7⟩; have HB7 : Hid (Below w4.heap.size w4 w7) := (Below.refl _ _).drew.trans hb7; have HO7 : Hid (OI w7 w4.heap.size v7 args) := ho7; have HK7 : Hid ((fun w' => w'.cell? ⟨F, 0, none⟩ = some (.int .i64 f.params) ∧ w'.cell? ⟨F, 1, none⟩ = some (.int .i64 f.names)) w7) := ⟨(HB7.out.cell (p := ⟨F, 0, none⟩) hF4).trans Kd.1, (HB7.out.cell (p := ⟨F, 1, none⟩) hF4).trans Kd.2⟩; clear ho7 hb7) | (refine step_append_zeros (by rfl) (.tmp 24) (.tmp 29) (by rfl) w4.heap.size v7 args (IntKind.i64.wrap (f.names - f.params)) m (by rw [IntKind.wrap_i64]; have := HM.out; omega) w7 (by rfl) (by rfl) HO7.out HB7.out.size (by omega) ?_; intro v8 w8 ho8 hg8; have HO8 := Lib.hid ho8; have HB8 : Hid (Below w4.heap.size w4 w8) := HB7.out.grown hg8 (HB7.out.size) (fun k hk => (HO7.out.lt k hk).1); have HK8 : Hid ((fun w' => w'.cell? ⟨F, 0, none⟩ = some (.int .i64 f.params) ∧ w'.cell? ⟨F, 1, none⟩ = some (.int .i64 f.names)) w8) := ⟨(HB8.out.cell (p := ⟨F, 0, none⟩) hF4).trans Kd.1, (HB8.out.cell (p := ⟨F, 1, none⟩) hF4).trans Kd.2⟩; clear ho8 hg8) | fail)
  go_wp2_with fail
  refine hKZ.out _ _ ?_ (fun hHeld => ?_)
  · (try dsimp only)
    (first | exact Kd | exact HK7.out | exact HK8.out | fail)
  clear hKZ KZ
  (try simp only [List.getElem_toArray, List.getElem_cons_succ, List.getElem_cons_zero, Act.put, List.setIfInBounds_toArray, List.set_cons_zero, List.set_cons_succ])
  refine wpAnyH_ready (rs := [7]) (by kernel_rfl) (by simp) ?_
  refine AllReadyH.cons rfl (fun KZ hKZ => ?_) AllReadyH.nil
  (first | (go_at_call 36; refine (l1Copy_any _ args _ ((HRA.out.keepB HB4.out).keepB (Below.refl _ _).drew) (by omega)).mono ?_; rintro e w7 ⟨v7, rfl, ho7, hb7⟩; have HB7 : Hid (Below w4.heap.size w4 w7) := (Below.refl _ _).drew.trans hb7; have HO7 : Hid (OI w7 w4.heap.size v7 args) := ho7; have HK7 : Hid ((fun w' => w'.cell? ⟨F, 0, none⟩ = some (.int .i64 f.params) ∧ w'.cell? ⟨F, 1, none⟩ = some (.int .i64 f.names)) w7) := ⟨(HB7.out.cell (p := ⟨F, 0, none⟩) hF4).trans Kd.1, (HB7.out.cell (p := ⟨F, 1, none⟩) hF4).trans Kd.2⟩; clear ho7 hb7) | (refine step_append_zeros (by rfl) (.tmp 24) (.tmp 29) (by rfl) w4.heap.size v7 args (IntKind.i64.wrap (f.names - f.params)) m (by rw [IntKind.wrap_i64]; have := HM.out; omega) w7 (by rfl) (by rfl) HO7.out HB7.out.size (by omega) ?_; intro v8 w8 ho8 hg8; have HO8 := Lib.hid ho8; have HB8 : Hid (Below w4.heap.size w4 w8) := HB7.out.grown hg8 (HB7.out.size) (fun k hk => (HO7.out.lt k hk).1); have HK8 : Hid ((fun w' => w'.cell? ⟨F, 0, none⟩ = some (.int .i64 f.params) ∧ w'.cell? ⟨F, 1, none⟩ = some (.int .i64 f.names)) w8) := ⟨(HB8.out.cell (p := ⟨F, 0, none⟩) hF4).trans Kd.1, (HB8.out.cell (p := ⟨F, 1, none⟩) hF4).trans Kd.2⟩; clear ho8 hg8) | fail)
  refine hKZ.out _ _ ?_ (fun hHeld => ?_)
  · (try dsimp only)
    (first | exact Kd | exact HK7.out | exact HK8.out | fail)
  clear hKZ KZ
  (try simp only [List.getElem_toArray, List.getElem_cons_succ, List.getElem_cons_zero, Act.put, List.setIfInBounds_toArray, List.set_cons_zero, List.set_cons_succ])
  refine wpAnyH_done (by kernel_rfl) ?_ _
  refine offQ_last rfl (fun KL hKL => ?_)
  go_simp
  refine hKL.out _ _ ?_
  have HB28 := Lib.hid (HB24.out.trans (HB8.out.mono HB24.out.size))
  have HB08 : Hid (Below w.heap.size w w8) := HB4.out.trans (HB8.out.mono (by have := HB4.out.size; omega))
  have hz8 : w4.heap.size ≤ w8.heap.size := HB8.out.size
  have HQ8 : Hid (w8.heap[Q]? = some (.cells #[.int .i64 0, .int .i64 0, .slice none 0 0, .int .i64 0] 31 (0, 0))) := (HB8.out.block Q hz4).trans HQ4.out
  clear Kd HK7 HK8 HO7 HB7 k0 k1 k2 HQ4
  go_wp2_with fail
  have hMR0 : MR (w8.alloc (.cells #[.int .i64 1, .int .i64 0, .slice none 0 0, .int .i64 0] 31)) (w8.alloc (.cells #[.int .i64 1, .int .i64 0, .slice none 0 0, .int .i64 0] 31)) w8.heap.size 0 1 0 (.slice none 0 0) 0 [] v8 (args ++ List.replicate m 0) :=
    ⟨by simp, Fw.refl _ _, heap_alloc_new w8 _, World.ownsRow_nil _ _ _ _, World.ownsRow.mono (HO8.out.below ((Below.refl w8.heap.size w8).alloc (Nat.le_refl _) _) fun k hk => (HO8.out.lt k hk).2) (Nat.zero_le _), fun e => by have := (HO8.out.lt _ e).2; omega⟩
  have hBA : Below w8.heap.size w8 (w8.alloc (.cells #[.int .i64 1, .int .i64 0, .slice none 0 0, .int .i64 0] 31)) := (Below.refl _ _).alloc (Nat.le_refl _) _
  obtain ⟨O, hO⟩ : ∃ O, O = w8.heap.size := ⟨_, rfl⟩
  have HQA : Hid ((w8.alloc (.cells #[.int .i64 1, .int .i64 0, .slice none 0 0, .int .i64 0] 31)).heap[Q]? = some (.cells #[.int .i64 0, .int .i64 0, .slice none 0 0, .int .i64 0] 31 (0, 0))) := (hBA.block Q (by omega)).trans HQ8.out
  have HBAw : Hid (Below w.heap.size w (w8.alloc (.cells #[.int .i64 1, .int .i64 0, .slice none 0 0, .int .i64 0] 31))) := HB08.out.trans (hBA.mono (by have := HB08.out.size; omega))
  have HBA2 : Hid (Below w2.heap.size w2 (w8.alloc (.cells #[.int .i64 1, .int .i64 0, .slice none 0 0, .int .i64 0] 31))) := HB28.out.trans (hBA.mono HB28.out.size)
  have hQO : Q < O := by omega
  have hw2O : w2.heap.size ≤ O := by have := HB28.out.size; omega
  rw [← hO] at hMR0 ⊢
  generalize w8.alloc (.cells #[.int .i64 1, .int .i64 0, .slice none 0 0, .int .i64 0] 31) = wA at *
  have HI0 := Lib.hid (RunInv.start HP.out HC.out)
  have HS0 : Hid ((startS f args).σ = args ++ List.replicate m 0) := by
    have h := HM.out
    unfold startS
    rw [Hid, show (f.names - f.params).toNat = m by omega]
  have HPO0 : Hid (PredOk f (startS f args) (-1)) := by
    obtain ⟨x, hx, hc⟩ := CameOk.start HP.out args
    exact ⟨x, hx, .inl (HP.out.2.2.1 x hx)⟩
  have HM0 : Hid (MR wA wA O 0 1 0 (.slice none 0 0) 0 (startS f args).em v8 (startS f args).σ) := by rw [HS0.out]; exact hMR0
  have HRG : Hid (RunG f args fuel (runS f fuel.toNat 0 (startS f args))) := .inr ⟨HC.out, rfl⟩
  generalize hOUT : runS f fuel.toNat 0 (startS f args) = OUT at *
  have hat0 : (startS f args).at_ = 0 := rfl
  clear hMR0 hBA hO hOUT HS0 HO8 HB8 HQ8 HB28 HB08 hnn0 hnn1 hpp0 hpp1 HM
  obtain ⟨s0, hs0⟩ : ∃ s0, s0 = startS f args := ⟨_, rfl⟩
  rw [← hs0] at HI0 HPO0 HM0 hat0
  clear hs0
  go_loopw [7, 9, 10] (fun sv i9 i10 wr => ∃ (s : VSt) (vis : Nat) (ev : Value) (pred : Int), i9 = .int .i64 s.at_ ∧ i10 = .int .i64 pred ∧ Hid (RunInv f fuel.toNat OUT s 1 0 vis) ∧ Hid (PredOk f s pred) ∧ Hid (MR wA wr O 0 1 0 ev vis s.em sv s.σ)) (fun _ _ _ wr => fuel.toNat - visM wr O)
  case atStart => exact ⟨s0, 0, _, -1, by rw [hat0]; rfl, rfl, HI0.out, HPO0.out, HM0.out⟩
  clear HI0 HPO0 HM0 hat0
  case round =>
    obtain ⟨s, vis, ev, pred, rfl, rfl, HI, HPO, HMR'⟩ := hrel
    have HMR : Hid (MR wA wr O 0 1 0 ev vis s.em u7 s.σ) := HMR'.out
    clear HMR'
    have HFU := Lib.hid HC.out.2.2.1
    have HVO : Hid (visM wr O = vis) := HMR.out.visM
    have hvf0 : vis ≤ fuel.toNat := HI.out.1
    have hf500 : fuel ≤ 500 := HFU.out.2
    have hf0 : 0 ≤ fuel := HFU.out.1
    obtain ⟨_, Ae, ce, rfl, _⟩ := HMR.out.he.ri
    have o3 := cell_of_row wr O 3 _ _ (0, 0) HMR.out.out
    have g3 := frozen_of_row wr O 3 _ _ HMR.out.out
    have hOr : O < wr.heap.size := Nat.lt_of_lt_of_le HMR.out.ltO HMR.out.fw.size
    have HBr : Hid (Below w.heap.size w wr) := HBAw.out.trans ((HMR.out.old (B := F) (by omega)).mono (Nat.le_of_eq HWF.out))
    by_cases hvf : vis < fuel.toNat
    case neg =>
      have hnl : ¬ (vis : Int) < fuel := by omega
      have HOU := Lib.hid (HI.out.fin (.inr (by omega)))
      have o0 := cell_of_row wr O 0 _ _ (0, 0) HMR.out.out
      have o1 := cell_of_row wr O 1 _ _ (0, 0) HMR.out.out
      have o2 := cell_of_row wr O 2 _ _ (0, 0) HMR.out.out
      have HQr : Hid (wr.heap[Q]? = some (.cells #[.int .i64 0, .int .i64 0, .slice none 0 0, .int .i64 0] 31 (0, 0))) := (HMR.out.fw.block Q (by have := HMR.out.ltO; omega) (by omega)).trans HQA.out
      have HEV : Hid (OI wr wA.heap.size (.slice Ae s.em.length ce) s.em) := HMR.out.he
      have hQA : Q < wA.heap.size := by have := HMR.out.ltO; omega
      have qc0 := cell_of_row wr Q 0 _ _ (0, 0) HQr.out
      have qf0 := frozen_of_row wr Q 0 _ _ HQr.out
      have qc1 := cell_of_row wr Q 1 _ _ (0, 0) HQr.out
      have qf1 := frozen_of_row wr Q 1 _ _ HQr.out
      have qc2 := cell_of_row wr Q 2 _ _ (0, 0) HQr.out
      have qf2 := frozen_of_row wr Q 2 _ _ HQr.out
      have qc3 := cell_of_row wr Q 3 _ _ (0, 0) HQr.out
      have qf3 := frozen_of_row wr Q 3 _ _ HQr.out
      go_wp2_with fail
      have HFW : Hid (Fw (· = Q) wr ((((wr.setCell ⟨Q, 0, none⟩ (.int .i64 1)).setCell ⟨Q, 1, none⟩ (.int .i64 0)).setCell ⟨Q, 2, none⟩ (.slice Ae s.em.length ce)).setCell ⟨Q, 3, none⟩ (.int .i64 vis))) := (((((Fw.refl (· = Q) wr).trans (Fw.set (P := (· = Q)) _ rfl 0 (.int .i64 1)) (fun _ _ h => h)).trans (Fw.set (P := (· = Q)) _ rfl 1 (.int .i64 0)) (fun _ _ h => h)).trans (Fw.set (P := (· = Q)) _ rfl 2 (.slice Ae s.em.length ce)) (fun _ _ h => h)).trans (Fw.set (P := (· = Q)) _ rfl 3 (.int .i64 vis)) (fun _ _ h => h))
      have HWQ : Hid ((((((wr.setCell ⟨Q, 0, none⟩ (.int .i64 1)).setCell ⟨Q, 1, none⟩ (.int .i64 0)).setCell ⟨Q, 2, none⟩ (.slice Ae s.em.length ce)).setCell ⟨Q, 3, none⟩ (.int .i64 vis))).heap[Q]? = some (.cells #[(.int .i64 1), (.int .i64 0), (.slice Ae s.em.length ce), (.int .i64 vis)] 31 (0, 0))) := by
        have s0 : ((wr.setCell ⟨Q, 0, none⟩ (.int .i64 1))).heap[Q]? = some (.cells #[(.int .i64 1), (.int .i64 0), (.slice none 0 0), (.int .i64 0)] 31 (0, 0)) := heap_setCell_same _ Q 0 _ _ (.int .i64 1) HQr.out
        have s1 : (((wr.setCell ⟨Q, 0, none⟩ (.int .i64 1)).setCell ⟨Q, 1, none⟩ (.int .i64 0))).heap[Q]? = some (.cells #[(.int .i64 1), (.int .i64 0), (.slice none 0 0), (.int .i64 0)] 31 (0, 0)) := heap_setCell_same _ Q 1 _ _ (.int .i64 0) s0
        have s2 : ((((wr.setCell ⟨Q, 0, none⟩ (.int .i64 1)).setCell ⟨Q, 1, none⟩ (.int .i64 0)).setCell ⟨Q, 2, none⟩ (.slice Ae s.em.length ce))).heap[Q]? = some (.cells #[(.int .i64 1), (.int .i64 0), (.slice Ae s.em.length ce), (.int .i64 0)] 31 (0, 0)) := heap_setCell_same _ Q 2 _ _ (.slice Ae s.em.length ce) s1
        have s3 : (((((wr.setCell ⟨Q, 0, none⟩ (.int .i64 1)).setCell ⟨Q, 1, none⟩ (.int .i64 0)).setCell ⟨Q, 2, none⟩ (.slice Ae s.em.length ce)).setCell ⟨Q, 3, none⟩ (.int .i64 vis))).heap[Q]? = some (.cells #[(.int .i64 1), (.int .i64 0), (.slice Ae s.em.length ce), (.int .i64 vis)] 31 (0, 0)) := heap_setCell_same _ Q 3 _ _ (.int .i64 vis) s2
        exact s3
      generalize ((((wr.setCell ⟨Q, 0, none⟩ (.int .i64 1)).setCell ⟨Q, 1, none⟩ (.int .i64 0)).setCell ⟨Q, 2, none⟩ (.slice Ae s.em.length ce)).setCell ⟨Q, 3, none⟩ (.int .i64 vis)) = wf at *
      have qd0 := cell_of_row wf Q 0 _ _ (0, 0) HWQ.out
      have qd1 := cell_of_row wf Q 1 _ _ (0, 0) HWQ.out
      have qd2 := cell_of_row wf Q 2 _ _ (0, 0) HWQ.out
      have qd3 := cell_of_row wf Q 3 _ _ (0, 0) HWQ.out
      clear qc0 qc1 qc2 qc3 qf0 qf1 qf2 qf3
      refine bodyPost_ret (v := .agg #[(.int .i64 1), (.int .i64 0), (.slice Ae s.em.length ce), (.int .i64 vis)]) (by simp [results, Tryz.results10, go_sem, qd0, qd1, qd2, qd3]) rfl ?_
      exact ⟨OUT, .slice Ae s.em.length ce, HRG.out, by rw [HOU.out], by rw [HOU.out]; exact World.ownsRow.mono (HEV.out.fw HFW.out (fun k hk e => by have e1 : k = Q := e; have e2 := (HEV.out.lt k hk).1; omega)) (by have := HBAw.out.size; omega), HBr.out.trans ((HFW.out.toBelow (B := F) (by omega) (fun k hk e => by have e1 : k = Q := e; omega)).mono (Nat.le_of_eq HWF.out))⟩
    have hvf' : (vis : Int) < fuel := by omega
    obtain ⟨x, hx, _⟩ := id HPO.out
    obtain ⟨hpc, hphs⟩ := HPO.out.phis hx
    have HPC := Lib.hid hpc
    have HPHS := Lib.hid hphs
    have HX := Lib.hid hx
    have hlt : s.at_ < f.blocks.length := (List.getElem?_eq_some_iff.1 hx).1
    have hlt' : (s.at_ : Int) < (f.blocks.length : Int) := by omega
    have hsa0 : 0 ≤ (s.at_ : Int) := by omega
    have HBP := Lib.hid (HP.out.1.2.2.2.2 s.at_ x hx)
    obtain ⟨k0, k1, k2⟩ := HKFB.out wr (HBA2.out.trans (HMR.out.old hw2O))
    obtain ⟨_, A', c', e5, hxr⟩ := HROW.out
    injection e5 with e1 e0 e2
    clear e0
    subst e1 e2
    obtain ⟨b, off, rfl, hDb, hr8⟩ := hxr (by intro e; rw [e] at hlt; simp at hlt)
    obtain ⟨cs, hE, hcs⟩ := hr8 s.at_ x hx
    obtain ⟨v0, v1, v2, v3, rfl, hr0, hr1, hr2, hr3⟩ := hE
    have HR1 := Lib.hid hr1
    have HR2 := Lib.hid hr2
    have HR3 := Lib.hid hr3
    obtain ⟨_, A0, c0, rfl, _⟩ := hr0
    obtain ⟨_, A1, c1, rfl, _⟩ := hr1
    obtain ⟨_, A2, c2, rfl, _⟩ := hr2
    obtain ⟨_, A3, c3, rfl, _⟩ := hr3
    have hbl := HDl.out b hDb
    have hcw : ∀ j u, ([Value.slice A0 x.phis.length c0, .slice A1 x.head.length c1, .slice A2 x.body.length c2, .slice A3 x.tail.length c3, .int .i64 x.fin.k, .int .i64 x.fin.a, .int .i64 x.fin.t, .int .i64 x.fin.l] : List Value)[j]? = some u → wr.cell? ⟨b, off + s.at_ * 8 + j, none⟩ = some u := fun j u hu => (HBr.out.cell (p := ⟨b, _, none⟩) hbl).trans (hcs j u hu).1
    have b0 := hcw 0 _ rfl
    have b1 := hcw 1 _ rfl
    have b2 := hcw 2 _ rfl
    have b3 := hcw 3 _ rfl
    have b4 := hcw 4 _ rfl
    have b5 := hcw 5 _ rfl
    have b6 := hcw 6 _ rfl
    have b7 := hcw 7 _ rfl
    rw [Nat.add_zero] at b0
    have hbO : b ≠ O := by have h1 := HWF.out; omega
    have hFO : F ≠ O := by omega
    have hnlen : f.names = s.σ.length := by have h1 := HI.out.2.1; have h2 := HP.out.1.2.1.1; omega
    have HN := Lib.hid hnlen
    have hem : s.em.length ≤ 80 * vis := HI.out.2.2.1
    clear hcs hr8 hxr hx hpc hphs hcw hnlen
    go_upto_region 10 with fail
    have hM1 : MR wA ((wr.setCell ⟨O, 3, none⟩ (.int .i64 ((vis : Int) + 1))).alloc (.cells #[.slice A0 x.phis.length c0, .slice A1 x.head.length c1, .slice A2 x.body.length c2, .slice A3 x.tail.length c3, .int .i64 x.fin.k, .int .i64 x.fin.a, .int .i64 x.fin.t, .int .i64 x.fin.l] 69)) O 0 1 0 (.slice Ae s.em.length ce) (vis + 1) s.em u7 s.σ := (HMR.out.setO 3 (.int .i64 ((vis : Int) + 1)) (st' := 1) (val' := 0) (vis' := vis + 1) rfl).below ((Below.refl _ _).alloc (Nat.le_refl _) _)
    have hBX : Below w.heap.size w ((wr.setCell ⟨O, 3, none⟩ (.int .i64 ((vis : Int) + 1))).alloc (.cells #[.slice A0 x.phis.length c0, .slice A1 x.head.length c1, .slice A2 x.body.length c2, .slice A3 x.tail.length c3, .int .i64 x.fin.k, .int .i64 x.fin.a, .int .i64 x.fin.t, .int .i64 x.fin.l] 69)) := (HBr.out.setCell (show w.heap.size ≤ O by have h1 := HWF.out; unfold Hid at h1; omega) _).alloc (by have := HBr.out.size; simpa using this) _
    have hqx : (((wr.setCell ⟨O, 3, none⟩ (.int .i64 ((vis : Int) + 1))).alloc (.cells #[.slice A0 x.phis.length c0, .slice A1 x.head.length c1, .slice A2 x.body.length c2, .slice A3 x.tail.length c3, .int .i64 x.fin.k, .int .i64 x.fin.a, .int .i64 x.fin.t, .int .i64 x.fin.l] 69))).heap[wr.heap.size]? = some (.cells #[.slice A0 x.phis.length c0, .slice A1 x.head.length c1, .slice A2 x.body.length c2, .slice A3 x.tail.length c3, .int .i64 x.fin.k, .int .i64 x.fin.a, .int .i64 x.fin.t, .int .i64 x.fin.l] 69 (0, 0)) := by
      have h := heap_alloc_new (wr.setCell ⟨O, 3, none⟩ (.int .i64 ((vis : Int) + 1))) (.cells #[.slice A0 x.phis.length c0, .slice A1 x.head.length c1, .slice A2 x.body.length c2, .slice A3 x.tail.length c3, .int .i64 x.fin.k, .int .i64 x.fin.a, .int .i64 x.fin.t, .int .i64 x.fin.l] 69)
      simpa using h
    have hsx : (((wr.setCell ⟨O, 3, none⟩ (.int .i64 ((vis : Int) + 1))).alloc (.cells #[.slice A0 x.phis.length c0, .slice A1 x.head.length c1, .slice A2 x.body.length c2, .slice A3 x.tail.length c3, .int .i64 x.fin.k, .int .i64 x.fin.a, .int .i64 x.fin.t, .int .i64 x.fin.l] 69))).heap.size = wr.heap.size + 1 := by simp
    obtain ⟨q, hq⟩ : ∃ q, q = wr.heap.size := ⟨_, rfl⟩
    rw [← hq] at hqx hsx ⊢
    generalize ((wr.setCell ⟨O, 3, none⟩ (.int .i64 ((vis : Int) + 1))).alloc (.cells #[.slice A0 x.phis.length c0, .slice A1 x.head.length c1, .slice A2 x.body.length c2, .slice A3 x.tail.length c3, .int .i64 x.fin.k, .int .i64 x.fin.a, .int .i64 x.fin.t, .int .i64 x.fin.l] 69)) = w1 at *
    have HM1 := Lib.hid hM1
    have HBX := Lib.hid hBX
    have HQX := Lib.hid hqx
    obtain ⟨k0', k1', k2'⟩ := HKFB.out w1 (HBA2.out.trans (HM1.out.old hw2O))
    have x1 := cell_of_row w1 q 1 _ _ (0, 0) hqx
    have hF1 : F < w1.heap.size := by omega
    have hq1 : q < w1.heap.size := by omega
    have HKS : Hid (∀ w', Below w1.heap.size w1 w' → (fun w' => w'.cell? ⟨F, 0, none⟩ = some (.int .i64 f.params) ∧ w'.cell? ⟨F, 1, none⟩ = some (.int .i64 f.names) ∧ w'.cell? ⟨F, 2, none⟩ = some (.slice (some ⟨b, off, none⟩) f.blocks.length c) ∧ w'.cell? ⟨q, 1, none⟩ = some (.slice A1 x.head.length c1)) w') := fun w' hb => ⟨(hb.cell (p := ⟨F, 0, none⟩) hF1).trans k0', (hb.cell (p := ⟨F, 1, none⟩) hF1).trans k1', (hb.cell (p := ⟨F, 2, none⟩) hF1).trans k2', (hb.cell (p := ⟨q, 1, none⟩) hq1).trans x1⟩
    have Kd : (fun w' => w'.cell? ⟨F, 0, none⟩ = some (.int .i64 f.params) ∧ w'.cell? ⟨F, 1, none⟩ = some (.int .i64 f.names) ∧ w'.cell? ⟨F, 2, none⟩ = some (.slice (some ⟨b, off, none⟩) f.blocks.length c) ∧ w'.cell? ⟨q, 1, none⟩ = some (.slice A1 x.head.length c1)) w1.drew := HKS.out _ (Below.refl _ _).drew
    have hevq : ∀ k, (Value.slice Ae s.em.length ce).ownBlock = some k → k < q := fun k hk => by have := (HMR.out.he.lt k hk).2; omega
    have HEVQ := Lib.hid hevq
    have hwAq : wA.heap.size ≤ q := by have := HMR.out.fw.size; omega
    have hOq : O < q := by omega
    have HRW : Hid (w.heap.size ≤ q) := by have := HBr.out.size; rw [Hid]; omega
    clear hM1 hBX hqx k0' k1' k2' x1 k0 k1 k2 b0 b1 b2 b3 b4 b5 b6 b7 o3 g3 hevq HMR hq hOr
    refine wp_region_held_drew (S := ((fun w' => w'.cell? ⟨F, 0, none⟩ = some (.int .i64 f.params) ∧ w'.cell? ⟨F, 1, none⟩ = some (.int .i64 f.names) ∧ w'.cell? ⟨F, 2, none⟩ = some (.slice (some ⟨b, off, none⟩) f.blocks.length c) ∧ w'.cell? ⟨q, 1, none⟩ = some (.slice A1 x.head.length c1)))) (by kernel_rfl) ?_ (fun hHeld => ?_)
    · (try dsimp only)
      (first | exact Kd | exact HK7.out | exact HK8.out | fail)
    refine wpAnyH_take (i := 0) (v := ?_) rfl (by kernel_rfl) (by kernel_rfl) (by kernel_rfl) (fun _ _ _ h => h) (Or.inl ⟨by rfl, ?_⟩) (by assumption) ?_
    rotate_left
    · intro w hSw
      simp only [List.getElem_toArray, List.getElem_cons_zero]
      (try dsimp only at hSw)
      go_simp
      first | done | (with_reducible rfl)
    simp only [List.getElem_toArray, List.getElem_cons_zero, Act.put, List.setIfInBounds_toArray, List.set_cons_zero, List.set_cons_succ]
    refine wpAnyH_take (i := 1) (v := ?_) rfl (by kernel_rfl) (by kernel_rfl) (by kernel_rfl) (fun _ _ _ h => h) (Or.inl ⟨by rfl, ?_⟩) (by assumption) ?_
    rotate_left
    · intro w hSw
      simp only [List.getElem_toArray, List.getElem_cons_succ, List.getElem_cons_zero]
      (try dsimp only at hSw)
      go_simp
      first | done | (with_reducible rfl)
    simp only [List.getElem_toArray, List.getElem_cons_succ, List.getElem_cons_zero, Act.put, List.setIfInBounds_toArray, List.set_cons_zero, List.set_cons_succ]
    refine wpAnyH_take (i := 2) (v := ?_) rfl (by kernel_rfl) (by kernel_rfl) (by kernel_rfl) (fun _ _ _ h => h) (Or.inl ⟨by rfl, ?_⟩) (by assumption) ?_
    rotate_left
    · intro w hSw
      simp only [List.getElem_toArray, List.getElem_cons_succ, List.getElem_cons_zero]
      (try dsimp only at hSw)
      go_simp
      first | done | (with_reducible rfl)
    simp only [List.getElem_toArray, List.getElem_cons_succ, List.getElem_cons_zero, Act.put, List.setIfInBounds_toArray, List.set_cons_zero, List.set_cons_succ]
    refine wpAnyH_take (i := 3) (v := ?_) rfl (by kernel_rfl) (by kernel_rfl) (by kernel_rfl) (fun _ _ _ h => h) (Or.inl ⟨by rfl, ?_⟩) (by assumption) ?_
    rotate_left
    · intro w hSw
      simp only [List.getElem_toArray, List.getElem_cons_succ, List.getElem_cons_zero]
      (try dsimp only at hSw)
      go_simp
      first | done | (with_reducible rfl)
    simp only [List.getElem_toArray, List.getElem_cons_succ, List.getElem_cons_zero, Act.put, List.setIfInBounds_toArray, List.set_cons_zero, List.set_cons_succ]
    refine wpAnyH_take (i := 5) (v := ?_) rfl (by kernel_rfl) (by kernel_rfl) (by kernel_rfl) (fun _ _ _ h => h) (Or.inl ⟨by rfl, ?_⟩) (by assumption) ?_
    rotate_left
    · intro w hSw
      simp only [List.getElem_toArray, List.getElem_cons_succ, List.getElem_cons_zero]
      (try dsimp only at hSw)
      go_simp
      first | done | (with_reducible rfl)
    simp only [List.getElem_toArray, List.getElem_cons_succ, List.getElem_cons_zero, Act.put, List.setIfInBounds_toArray, List.set_cons_zero, List.set_cons_succ]
    refine wpAnyH_take (i := 6) (v := ?_) rfl (by kernel_rfl) (by kernel_rfl) (by kernel_rfl) (fun _ _ _ h => h) (Or.inl ⟨by rfl, ?_⟩) (by assumption) ?_
    rotate_left
    · intro w hSw
      simp only [List.getElem_toArray, List.getElem_cons_succ, List.getElem_cons_zero]
      (try dsimp only at hSw)
      go_simp
      first | done | (with_reducible rfl)
    simp only [List.getElem_toArray, List.getElem_cons_succ, List.getElem_cons_zero, Act.put, List.setIfInBounds_toArray, List.set_cons_zero, List.set_cons_succ]
    refine wpAnyH_ready (rs := [4]) (by kernel_rfl) (by simp) ?_
    refine AllReadyH.cons rfl (fun KZ hKZ => ?_) AllReadyH.nil
    simp only [List.getElem_toArray, List.getElem_cons_succ, List.getElem_cons_zero]
    go_simp
    (first | (go_at_call 41; refine (l6Phis_any f _ u7 s.σ s.at_ pred x _ Z HP.out (HF.out.keep (Kept.below (below_drewN HBX.out 1) HDl.out)) (fun b hb => by have h1 := HDl.out b hb; have h2 := HBX.out.size; show b < w1.heap.size; omega) (HM1.out.hs.drewN 1).ri HN.out HX.out HPC.out).mono ?_; rw [HPHS.out]; rintro e w7 ⟨p1, rfl, hp1, hb7⟩; have HB7 : Hid (Below w1.heap.size w1 w7) := (Below.refl _ _).drew.trans hb7; have HP1 : Hid (OI w7 w1.heap.size p1 (phS f x s)) := hp1; have HK7 := Lib.hid (HKS.out w7 HB7.out); clear hp1 hb7) | (go_at_call 40; refine (l6Moves_any p1 _ (phS f x s) x.head w7 Z HP1.out.ri (by rw [show (phS f x s).length = s.σ.length from mvA_len _ _]; have h1 := HN.out; have h2 := HP.out.1.2.1.2; omega) (HR1.out.keep (Kept.below (HBX.out.trans (HB7.out.mono HBX.out.size)) HDl.out) fun _ _ h => h) (fun b hb => by have h1 := HDl.out b hb; have h2 := HBX.out.size; have h3 := HB7.out.size; omega) (fun j mm hm => moveP_range (HBP.out.2.1.2.1 j mm hm) (by rw [HN.out, show (phS f x s).length = s.σ.length from mvA_len _ _])) HBP.out.2.1.1).mono ?_; rintro e w8' ⟨p2, rfl, hp2, hb8⟩; have HB8 : Hid (Below w1.heap.size w1 w8') := HB7.out.trans (hb8.mono HB7.out.size); have HP2 : Hid (OI w8' w7.heap.size p2 (mvA x.head (phS f x s))) := hp2; have HK8 := Lib.hid (HKS.out w8' HB8.out); clear hp2 hb8) | fail)
    go_wp2_with fail
    refine hKZ.out _ _ ?_ (fun hHeld => ?_)
    · (try dsimp only)
      (first | exact Kd | exact HK7.out | exact HK8.out | fail)
    clear hKZ KZ
    (try simp only [List.getElem_toArray, List.getElem_cons_succ, List.getElem_cons_zero, Act.put, List.setIfInBounds_toArray, List.set_cons_zero, List.set_cons_succ])
    refine wpAnyH_ready (rs := [7]) (by kernel_rfl) (by simp) ?_
    refine AllReadyH.cons rfl (fun KZ hKZ => ?_) AllReadyH.nil
    simp only [List.getElem_toArray, List.getElem_cons_succ, List.getElem_cons_zero]
    go_simp
    (first | (go_at_call 41; refine (l6Phis_any f _ u7 s.σ s.at_ pred x _ Z HP.out (HF.out.keep (Kept.below (below_drewN HBX.out 1) HDl.out)) (fun b hb => by have h1 := HDl.out b hb; have h2 := HBX.out.size; show b < w1.heap.size; omega) (HM1.out.hs.drewN 1).ri HN.out HX.out HPC.out).mono ?_; rw [HPHS.out]; rintro e w7 ⟨p1, rfl, hp1, hb7⟩; have HB7 : Hid (Below w1.heap.size w1 w7) := (Below.refl _ _).drew.trans hb7; have HP1 : Hid (OI w7 w1.heap.size p1 (phS f x s)) := hp1; have HK7 := Lib.hid (HKS.out w7 HB7.out); clear hp1 hb7) | (go_at_call 40; refine (l6Moves_any p1 _ (phS f x s) x.head w7 Z HP1.out.ri (by rw [show (phS f x s).length = s.σ.length from mvA_len _ _]; have h1 := HN.out; have h2 := HP.out.1.2.1.2; omega) (HR1.out.keep (Kept.below (HBX.out.trans (HB7.out.mono HBX.out.size)) HDl.out) fun _ _ h => h) (fun b hb => by have h1 := HDl.out b hb; have h2 := HBX.out.size; have h3 := HB7.out.size; omega) (fun j mm hm => moveP_range (HBP.out.2.1.2.1 j mm hm) (by rw [HN.out, show (phS f x s).length = s.σ.length from mvA_len _ _])) HBP.out.2.1.1).mono ?_; rintro e w8' ⟨p2, rfl, hp2, hb8⟩; have HB8 : Hid (Below w1.heap.size w1 w8') := HB7.out.trans (hb8.mono HB7.out.size); have HP2 : Hid (OI w8' w7.heap.size p2 (mvA x.head (phS f x s))) := hp2; have HK8 := Lib.hid (HKS.out w8' HB8.out); clear hp2 hb8) | fail)
    go_wp2_with fail
    refine hKZ.out _ _ ?_ (fun hHeld => ?_)
    · (try dsimp only)
      (first | exact Kd | exact HK7.out | exact HK8.out | fail)
    clear hKZ KZ
    (try simp only [List.getElem_toArray, List.getElem_cons_succ, List.getElem_cons_zero, Act.put, List.setIfInBounds_toArray, List.set_cons_zero, List.set_cons_succ])
    refine wpAnyH_take (i := 8) (v := ?_) rfl (by kernel_rfl) (by kernel_rfl) (by kernel_rfl) (fun _ _ _ h => h) (Or.inl ⟨by rfl, ?_⟩) (by assumption) ?_
    rotate_left
    · intro w hSw
      simp only [List.getElem_toArray, List.getElem_cons_succ, List.getElem_cons_zero]
      (try dsimp only at hSw)
      go_simp
      first | done | (with_reducible rfl)
    simp only [List.getElem_toArray, List.getElem_cons_succ, List.getElem_cons_zero, Act.put, List.setIfInBounds_toArray, List.set_cons_zero, List.set_cons_succ]
    refine wpAnyH_done (by kernel_rfl) ?_ _
    have hz7 : w1.heap.size ≤ w7.heap.size := HB7.out.size
    have HM8 := Lib.hid ((HM1.out.below HB8.out).newS HP2.out (by omega))
    have HQ8' : Hid (w8'.heap[q]? = some (.cells #[.slice A0 x.phis.length c0, .slice A1 x.head.length c1, .slice A2 x.body.length c2, .slice A3 x.tail.length c3, .int .i64 x.fin.k, .int .i64 x.fin.a, .int .i64 x.fin.t, .int .i64 x.fin.l] 69 (0, 0))) := (HB8.out.block q hq1).trans HQX.out
    have HBX8 : Hid (Below w.heap.size w w8') := HBX.out.trans (HB8.out.mono HBX.out.size)
    have x2 := cell_of_row w8' q 2 _ _ (0, 0) HQ8'.out
    have o2 := cell_of_row w8' O 2 _ _ (0, 0) HM8.out.out
    have HP2Q : Hid (∀ k, p2.ownBlock = some k → q < k) := fun k hk => by have := (HP2.out.lt k hk).1; omega
    clear Kd HKS HK7 HK8 HB7 HM1 HQX HP1 hq1
    go_wp2_with fail
    obtain ⟨bs0, hbs0⟩ : ∃ bs0 : BSt, bs0 = ⟨mvA x.head (phS f x s), s.em⟩ := ⟨_, rfl⟩
    have HBS0 := Lib.hid hbs0
    have hbl0 : bs0.σ.length = s.σ.length := by rw [hbs0]; show (mvA x.head (phS f x s)).length = _; rw [mvA_len]; exact mvA_len _ _
    refine (l6Body_any p2 (.slice Ae s.em.length ce) _ bs0 x.body w8' wA.heap.size wA.heap.size Z (by rw [hbs0]; exact HM8.out.hs) (by rw [hbs0]; exact HM8.out.he) (fun k hk e => by have h1 := HP2Q.out k hk; have h2 := HEVQ.out k e; omega) (HR2.out.keep (Kept.below HBX8.out HDl.out) fun _ _ h => h) (fun b hb => by
      have h1 := HDl.out b hb
      have h2 := HBX8.out.size
      have h3 := HBAw.out.size
      refine ⟨by omega, fun e => by have := HP2Q.out b e; have := HRW.out; omega, fun e => by have := (HM8.out.he.lt b e).1; omega⟩) (fun j i hi => by
      have h := HBP.out.2.2.2.2 j i hi
      rw [HN.out, ← hbl0] at h
      exact h) HBP.out.2.2.2.1 (by rw [hbs0]; show s.em.length ≤ _; omega) (by have := HM8.out.fw.size; omega)).mono ?_
    rintro e w9 ⟨ev', rfl, hv9, he9, hf9, hat9⟩
    obtain ⟨bs, hbs⟩ : ∃ bs : BSt, bs = bodyS x.body bs0 x.body.length := ⟨_, rfl⟩
    rw [← hbs] at hv9 he9
    have hbsl : bs.σ.length = s.σ.length := by rw [hbs, bodyS_len, hbl0]
    have HVB : Hid (visB f x s = ⟨mvA x.tail bs.σ, bs.em⟩) := by rw [Hid, hbs, hbs0]; rfl
    obtain ⟨_, Ae', ce', rfl, _⟩ := he9.ri
    have HM10 := Lib.hid (HM8.out.body hv9 he9 hf9)
    have hnoO : ¬ (p2.ownBlock = some O ∨ (Value.slice Ae s.em.length ce).ownBlock = some O) := by
      rintro (h | h)
      · have := HP2Q.out O h; omega
      · have h1 := (HM8.out.he.lt O h).1; have h2 := HM8.out.ltO; omega
    have hnoq : ¬ (p2.ownBlock = some q ∨ (Value.slice Ae s.em.length ce).ownBlock = some q) := by
      rintro (h | h)
      · have := HP2Q.out q h; omega
      · have := HEVQ.out q h; omega
    have hO8 : O < w8'.heap.size := Nat.lt_of_lt_of_le HM8.out.ltO HM8.out.fw.size
    have hq8 : q < w8'.heap.size := (Array.getElem?_eq_some_iff.1 HQ8'.out).1
    have hO9 : w9.heap[O]? = some (.cells #[.int .i64 1, .int .i64 0, .slice Ae s.em.length ce, .int .i64 ((vis + 1 : Nat) : Int)] 31 (0, 0)) := (hf9.block O hO8 hnoO).trans HM8.out.out
    have o29 := cell_of_row w9 O 2 _ _ (0, 0) hO9
    have g29 := frozen_of_row w9 O 2 _ _ hO9
    have hq9 : w9.heap[q]? = some (.cells #[.slice A0 x.phis.length c0, .slice A1 x.head.length c1, .slice A2 x.body.length c2, .slice A3 x.tail.length c3, .int .i64 x.fin.k, .int .i64 x.fin.a, .int .i64 x.fin.t, .int .i64 x.fin.l] 69 (0, 0)) := (hf9.block q hq8 hnoq).trans HQ8'.out
    have hq10 : (w9.setCell ⟨O, 2, none⟩ (.slice Ae' bs.em.length ce')).heap[q]? = some (.cells #[.slice A0 x.phis.length c0, .slice A1 x.head.length c1, .slice A2 x.body.length c2, .slice A3 x.tail.length c3, .int .i64 x.fin.k, .int .i64 x.fin.a, .int .i64 x.fin.t, .int .i64 x.fin.l] 69 (0, 0)) := (Below.heap_setCell w9 ⟨O, 2, none⟩ _ q (fun e => by have e' : q = O := e; omega)).trans hq9
    have HQ10 := Lib.hid hq10
    have HB10 : Hid (Below w.heap.size w (w9.setCell ⟨O, 2, none⟩ (.slice Ae' bs.em.length ce'))) := (HBX8.out.trans (hf9.toBelow HBX8.out.size (fun k hk e => by
      rcases e with e | e
      · have h1 := HP2Q.out k e; have h2 := HRW.out; omega
      · have h1 := (HM8.out.he.lt k e).1; have h2 := HBAw.out.size; omega))).setCell (show w.heap.size ≤ O by have h1 := HWF.out; unfold Hid at h1; omega) _
    have x3 := cell_of_row _ q 3 _ _ (0, 0) hq10
    have HEV' : Hid (∀ k, (Value.slice Ae' bs.em.length ce').ownBlock = some k → wA.heap.size ≤ k) := fun k hk => (he9.lt k hk).1
    have HBSS := Lib.hid hbs
    clear x2 o2 hv9 he9 hf9 hat9 hbs hbs0 hO9 hq9 hq10 hnoO hnoq hO8 hq8 HM8 HBX8 HP2 HP2Q HBX
    go_upto_region 12 with fail
    generalize w9.setCell ⟨O, 2, none⟩ (.slice Ae' bs.em.length ce') = w10 at *
    clear o29 g29
    go_wp2_with fail
    refine (l6Moves_any p2 _ bs.σ x.tail w10 Z HM10.out.hs.ri (by rw [hbsl]; have h1 := HN.out; have h2 := HP.out.1.2.1.2; omega) (HR3.out.keep (Kept.below HB10.out HDl.out) fun _ _ h => h) (fun b hb => by have h1 := HDl.out b hb; have h2 := HB10.out.size; omega) (fun j mm hm => moveP_range (HBP.out.2.2.1.2.1 j mm hm) (by rw [HN.out, hbsl])) HBP.out.2.2.1.1).mono ?_
    rintro e w11 ⟨p3, rfl, hp3, hb11⟩
    have HM11 := Lib.hid ((HM10.out.below hb11).newS hp3 HM10.out.fw.size)
    have hq11 : w11.heap[q]? = some (.cells #[.slice A0 x.phis.length c0, .slice A1 x.head.length c1, .slice A2 x.body.length c2, .slice A3 x.tail.length c3, .int .i64 x.fin.k, .int .i64 x.fin.a, .int .i64 x.fin.t, .int .i64 x.fin.l] 69 (0, 0)) := (hb11.block q (Array.getElem?_eq_some_iff.1 HQ10.out).1).trans HQ10.out
    have x4 := cell_of_row w11 q 4 _ _ (0, 0) hq11
    have x5 := cell_of_row w11 q 5 _ _ (0, 0) hq11
    have x6 := cell_of_row w11 q 6 _ _ (0, 0) hq11
    have x7 := cell_of_row w11 q 7 _ _ (0, 0) hq11
    have hsl3 : (mvA x.tail bs.σ).length = s.σ.length := by rw [mvA_len, hbsl]
    have hVσ : (visB f x s).σ = mvA x.tail bs.σ := by rw [HVB.out]
    have hVe : (visB f x s).em = bs.em := by rw [HVB.out]
    have HVS := Lib.hid hVσ
    have HVE := Lib.hid hVe
    have HEP := Lib.hid HBP.out.1
    clear hp3 hb11 hq11 HQ10 HM10 x3 hVσ hVe HB10
    generalize hσ3 : mvA x.tail bs.σ = σ3 at *
    have HL3 := Lib.hid hsl3
    clear hσ3 hsl3
    by_cases h1 : x.fin.k = 1
    case pos =>
      have hnx : nextS x (visB f x s).σ = none := by unfold nextS; rw [if_pos h1]
      have hI' := HI.out.step HP.out hvf HX.out (s' := s.put (visB f x s)) (st' := 2) (val' := gN (visB f x s).σ x.fin.a) (.inl ⟨hnx, rfl, rfl, rfl⟩)
      have HOU := Lib.hid (hI'.fin (.inl rfl))
      have harange : 0 ≤ x.fin.a ∧ x.fin.a < (σ3.length : Int) := by
        obtain ⟨e1, e2, _⟩ := HEP.out
        unfold endOkB at e1
        rw [if_pos h1] at e1
        simp [isNameB] at e1
        have h7 := HN.out
        have h8 := HL3.out
        omega
      rw [h1] at x4
      clear h1 hnx hI' x6 x7
      obtain ⟨a, ha⟩ : ∃ a : Nat, x.fin.a = a := ⟨x.fin.a.toNat, by omega⟩
      have HAE := Lib.hid ha
      rw [ha] at x5 harange
      have hal : a < σ3.length := by omega
      have hal' := harange.2
      have hap := harange.1
      obtain ⟨gg, cap3, hp3, hgB, _⟩ := World.ownsRow.form HM11.out.hs (by omega)
      subst hp3
      have va : w11.cell? ⟨gg, a, none⟩ = some (.int .i64 (gN σ3 a)) := by
        have h := World.ownsRow.cellAt HM11.out.hs a (by omega)
        rw [h, List.getElem?_map, gN_get (x := (a : Int)) rfl hal]; rfl
      have hgO : gg ≠ O := by have := HM11.out.ltO; omega
      have hqO' : q ≠ O := by omega
      have hσl : σ3.length ≤ 9223372036854775807 := HM11.out.hs.ri.1
      have o0 := cell_of_row w11 O 0 _ _ (0, 0) HM11.out.out
      have o1 := cell_of_row w11 O 1 _ _ (0, 0) HM11.out.out
      have g0 := frozen_of_row w11 O 0 _ _ HM11.out.out
      have g1 := frozen_of_row w11 O 1 _ _ HM11.out.out
      obtain ⟨y, hy⟩ : ∃ y, y = gN σ3 a := ⟨_, rfl⟩
      rw [← hy] at va
      have HM12 : Hid (MR wA ((w11.setCell ⟨O, 0, none⟩ (.int .i64 2)).setCell ⟨O, 1, none⟩ (.int .i64 y)) O wA.heap.size 2 y (.slice Ae' bs.em.length ce') (vis + 1) bs.em (.slice (some ⟨gg, 0, none⟩) σ3.length cap3) σ3) :=
        (HM11.out.setO 0 (.int .i64 2) (st' := 2) (val' := 0) (vis' := vis + 1) rfl).setO 1 (.int .i64 y) (st' := 2) (val' := y) (vis' := vis + 1) rfl
      have HYE : Hid (y = gN (visB f x s).σ x.fin.a) := by rw [HVS.out, HAE.out]; exact hy
      clear ha harange hy
      go_upto_region 18 with fail
      generalize (w11.setCell ⟨O, 0, none⟩ (.int .i64 2)).setCell ⟨O, 1, none⟩ (.int .i64 y) = w12 at *
      clear va o0 o1 g0 g1 x4 x5
      have o0 := cell_of_row w12 O 0 _ _ (0, 0) HM12.out.out
      have o1 := cell_of_row w12 O 1 _ _ (0, 0) HM12.out.out
      have o2 := cell_of_row w12 O 2 _ _ (0, 0) HM12.out.out
      have o3 := cell_of_row w12 O 3 _ _ (0, 0) HM12.out.out
      have HQr : Hid (w12.heap[Q]? = some (.cells #[.int .i64 0, .int .i64 0, .slice none 0 0, .int .i64 0] 31 (0, 0))) := (HM12.out.fw.block Q (by have := HM12.out.ltO; omega) (by omega)).trans HQA.out
      have HEV2 : Hid (OI w12 wA.heap.size (.slice Ae' bs.em.length ce') bs.em) := HM12.out.he
      have hQA : Q < wA.heap.size := by have := HM12.out.ltO; omega
      have hz12 := HM12.out.fw.size
      have HB12 : Hid (Below w.heap.size w w12) := HBAw.out.trans ((HM12.out.old (B := F) (by omega)).mono (Nat.le_of_eq HWF.out))
      have qc0 := cell_of_row w12 Q 0 _ _ (0, 0) HQr.out
      have qf0 := frozen_of_row w12 Q 0 _ _ HQr.out
      have qc1 := cell_of_row w12 Q 1 _ _ (0, 0) HQr.out
      have qf1 := frozen_of_row w12 Q 1 _ _ HQr.out
      have qc2 := cell_of_row w12 Q 2 _ _ (0, 0) HQr.out
      have qf2 := frozen_of_row w12 Q 2 _ _ HQr.out
      have qc3 := cell_of_row w12 Q 3 _ _ (0, 0) HQr.out
      have qf3 := frozen_of_row w12 Q 3 _ _ HQr.out
      go_wp2_with fail
      have HFW : Hid (Fw (· = Q) w12 ((((w12.setCell ⟨Q, 0, none⟩ (.int .i64 2)).setCell ⟨Q, 1, none⟩ (.int .i64 y)).setCell ⟨Q, 2, none⟩ (.slice Ae' bs.em.length ce')).setCell ⟨Q, 3, none⟩ (.int .i64 ((vis : Int) + 1)))) := (((((Fw.refl (· = Q) w12).trans (Fw.set (P := (· = Q)) _ rfl 0 (.int .i64 2)) (fun _ _ h => h)).trans (Fw.set (P := (· = Q)) _ rfl 1 (.int .i64 y)) (fun _ _ h => h)).trans (Fw.set (P := (· = Q)) _ rfl 2 (.slice Ae' bs.em.length ce')) (fun _ _ h => h)).trans (Fw.set (P := (· = Q)) _ rfl 3 (.int .i64 ((vis : Int) + 1))) (fun _ _ h => h))
      have HWQ : Hid ((((((w12.setCell ⟨Q, 0, none⟩ (.int .i64 2)).setCell ⟨Q, 1, none⟩ (.int .i64 y)).setCell ⟨Q, 2, none⟩ (.slice Ae' bs.em.length ce')).setCell ⟨Q, 3, none⟩ (.int .i64 ((vis : Int) + 1)))).heap[Q]? = some (.cells #[(.int .i64 2), (.int .i64 y), (.slice Ae' bs.em.length ce'), (.int .i64 ((vis : Int) + 1))] 31 (0, 0))) := by
        have s0 : ((w12.setCell ⟨Q, 0, none⟩ (.int .i64 2))).heap[Q]? = some (.cells #[(.int .i64 2), (.int .i64 0), (.slice none 0 0), (.int .i64 0)] 31 (0, 0)) := heap_setCell_same _ Q 0 _ _ (.int .i64 2) HQr.out
        have s1 : (((w12.setCell ⟨Q, 0, none⟩ (.int .i64 2)).setCell ⟨Q, 1, none⟩ (.int .i64 y))).heap[Q]? = some (.cells #[(.int .i64 2), (.int .i64 y), (.slice none 0 0), (.int .i64 0)] 31 (0, 0)) := heap_setCell_same _ Q 1 _ _ (.int .i64 y) s0
        have s2 : ((((w12.setCell ⟨Q, 0, none⟩ (.int .i64 2)).setCell ⟨Q, 1, none⟩ (.int .i64 y)).setCell ⟨Q, 2, none⟩ (.slice Ae' bs.em.length ce'))).heap[Q]? = some (.cells #[(.int .i64 2), (.int .i64 y), (.slice Ae' bs.em.length ce'), (.int .i64 0)] 31 (0, 0)) := heap_setCell_same _ Q 2 _ _ (.slice Ae' bs.em.length ce') s1
        have s3 : (((((w12.setCell ⟨Q, 0, none⟩ (.int .i64 2)).setCell ⟨Q, 1, none⟩ (.int .i64 y)).setCell ⟨Q, 2, none⟩ (.slice Ae' bs.em.length ce')).setCell ⟨Q, 3, none⟩ (.int .i64 ((vis : Int) + 1)))).heap[Q]? = some (.cells #[(.int .i64 2), (.int .i64 y), (.slice Ae' bs.em.length ce'), (.int .i64 ((vis : Int) + 1))] 31 (0, 0)) := heap_setCell_same _ Q 3 _ _ (.int .i64 ((vis : Int) + 1)) s2
        exact s3
      generalize ((((w12.setCell ⟨Q, 0, none⟩ (.int .i64 2)).setCell ⟨Q, 1, none⟩ (.int .i64 y)).setCell ⟨Q, 2, none⟩ (.slice Ae' bs.em.length ce')).setCell ⟨Q, 3, none⟩ (.int .i64 ((vis : Int) + 1))) = wf at *
      have qd0 := cell_of_row wf Q 0 _ _ (0, 0) HWQ.out
      have qd1 := cell_of_row wf Q 1 _ _ (0, 0) HWQ.out
      have qd2 := cell_of_row wf Q 2 _ _ (0, 0) HWQ.out
      have qd3 := cell_of_row wf Q 3 _ _ (0, 0) HWQ.out
      clear qc0 qc1 qc2 qc3 qf0 qf1 qf2 qf3
      refine bodyPost_ret (v := .agg #[(.int .i64 2), (.int .i64 y), (.slice Ae' bs.em.length ce'), (.int .i64 ((vis : Int) + 1))]) (by simp [results, Tryz.results10, go_sem, qd0, qd1, qd2, qd3]) rfl ?_
      exact ⟨OUT, .slice Ae' bs.em.length ce', HRG.out, by rw [HOU.out, ← HYE.out] <;> rfl, by
        rw [HOU.out]
        show OI wf w.heap.size _ (visB f x s).em
        rw [HVE.out]
        exact World.ownsRow.mono (HEV2.out.fw HFW.out (fun k hk e => by have e1 : k = Q := e; have e2 := (HEV2.out.lt k hk).1; omega)) (by have := HBAw.out.size; omega), HB12.out.trans ((HFW.out.toBelow (B := F) (by omega) (fun k hk e => by have e1 : k = Q := e; omega)).mono (Nat.le_of_eq HWF.out))⟩
    have hb1 : (x.fin.k == 1) = false := by simpa using h1
    have hqO' : q ≠ O := by omega
    have HGO : Hid (∀ tt : Int, nextS x (visB f x s).σ = some tt → ∃ s' : VSt, (s'.at_ : Int) = tt ∧ RunInv f fuel.toNat OUT s' 1 0 (vis + 1) ∧ PredOk f s' s.at_ ∧ s'.em = bs.em ∧ s'.σ = σ3) := fun tt hnx => by
      refine ⟨{ s.put (visB f x s) with at_ := tt.toNat, bef := s.at_ }, ?_, HI.out.step HP.out hvf HX.out (.inr ⟨tt, hnx, rfl, rfl, rfl⟩), PredOk.next HP.out HX.out hnx, HVE.out, HVS.out⟩
      have h := (nextS_mem HP.out HX.out hnx).1.1
      show ((tt.toNat : Nat) : Int) = tt
      omega
    by_cases h3 : x.fin.k = 3
    case pos =>
      have harange : 0 ≤ x.fin.a ∧ x.fin.a < (σ3.length : Int) := by
        obtain ⟨e1, e2, _⟩ := HEP.out
        unfold endOkB at e1
        rw [if_neg h1, if_neg (by omega), if_pos h3] at e1
        simp [isNameB] at e1
        have h7 := HN.out
        have h8 := HL3.out
        omega
      have HNX0 : Hid (gN σ3 x.fin.a = 0 → nextS x (visB f x s).σ = some x.fin.l) := fun h => by unfold nextS; rw [if_neg h1, if_pos h3, HVS.out, if_pos h]
      have HNX1 : Hid (gN σ3 x.fin.a ≠ 0 → nextS x (visB f x s).σ = some x.fin.t) := fun h => by unfold nextS; rw [if_neg h1, if_pos h3, HVS.out, if_neg h]
      rw [h3] at x4
      clear h1 h3 hb1
      obtain ⟨a, ha⟩ : ∃ a : Nat, x.fin.a = a := ⟨x.fin.a.toNat, by omega⟩
      rw [ha] at x5 harange HNX0 HNX1
      have hal : a < σ3.length := by omega
      have hal' := harange.2
      have hap := harange.1
      obtain ⟨gg, cap3, hp3, hgB, _⟩ := World.ownsRow.form HM11.out.hs (by omega)
      subst hp3
      have va : w11.cell? ⟨gg, a, none⟩ = some (.int .i64 (gN σ3 a)) := by
        have h := World.ownsRow.cellAt HM11.out.hs a (by omega)
        rw [h, List.getElem?_map, gN_get (x := (a : Int)) rfl hal]; rfl
      have hσl : σ3.length ≤ 9223372036854775807 := HM11.out.hs.ri.1
      clear ha harange
      by_cases hz : gN σ3 a = 0
      · obtain ⟨s', hs1, hs2, hs3, hs4, hs5⟩ := HGO.out _ (HNX0.out hz)
        have hbz : (gN σ3 a == 0) = true := by simpa using hz
        generalize gN σ3 a = y at *
        clear hz
        have HS1 : Hid ((s'.at_ : Int) = x.fin.l) := hs1
        have HS2 := Lib.hid hs2
        have HS3 := Lib.hid hs3
        have HS4 : Hid (s'.em = bs.em ∧ s'.σ = σ3) := ⟨hs4, hs5⟩
        clear hs1 hs2 hs3 hs4 hs5
        have HVO2 : Hid (visM w11 O = vis + 1) := HM11.out.visM
        have HMF : Hid (MR wA w11 O 0 1 0 (.slice Ae' bs.em.length ce') (vis + 1) s'.em (.slice (some ⟨gg, 0, none⟩) σ3.length cap3) s'.σ) := by
          rw [HS4.out.1, HS4.out.2]
          exact ⟨HM11.out.ltO, HM11.out.fw, HM11.out.out, HM11.out.he, World.ownsRow.mono HM11.out.hs (Nat.zero_le _), HM11.out.so⟩
        clear HM11
        go_wp2_with fail
        go_roundw
        case rel => exact ⟨s', vis + 1, _, s.at_, by rw [HS1.out], rfl, HS2.out, HS3.out, HMF.out⟩
        case measure => rw [HVO.out, HVO2.out]; omega
      · obtain ⟨s', hs1, hs2, hs3, hs4, hs5⟩ := HGO.out _ (HNX1.out hz)
        have hbz : (gN σ3 a == 0) = false := by simpa using hz
        generalize gN σ3 a = y at *
        clear hz
        have HS1 : Hid ((s'.at_ : Int) = x.fin.t) := hs1
        have HS2 := Lib.hid hs2
        have HS3 := Lib.hid hs3
        have HS4 : Hid (s'.em = bs.em ∧ s'.σ = σ3) := ⟨hs4, hs5⟩
        clear hs1 hs2 hs3 hs4 hs5
        have HVO2 : Hid (visM w11 O = vis + 1) := HM11.out.visM
        have HMF : Hid (MR wA w11 O 0 1 0 (.slice Ae' bs.em.length ce') (vis + 1) s'.em (.slice (some ⟨gg, 0, none⟩) σ3.length cap3) s'.σ) := by
          rw [HS4.out.1, HS4.out.2]
          exact ⟨HM11.out.ltO, HM11.out.fw, HM11.out.out, HM11.out.he, World.ownsRow.mono HM11.out.hs (Nat.zero_le _), HM11.out.so⟩
        clear HM11
        go_wp2_with fail
        go_roundw
        case rel => exact ⟨s', vis + 1, _, s.at_, by rw [HS1.out], rfl, HS2.out, HS3.out, HMF.out⟩
        case measure => rw [HVO.out, HVO2.out]; omega
    have hb3 : (x.fin.k == 3) = false := by simpa using h3
    have hnx : nextS x (visB f x s).σ = some x.fin.t := by unfold nextS; rw [if_neg h1, if_neg h3]
    obtain ⟨s', hs1, hs2, hs3, hs4, hs5⟩ := HGO.out _ hnx
    clear h1 h3 hnx
    have HS1 : Hid ((s'.at_ : Int) = x.fin.t) := hs1
    have HS2 := Lib.hid hs2
    have HS3 := Lib.hid hs3
    have HS4 : Hid (s'.em = bs.em ∧ s'.σ = σ3) := ⟨hs4, hs5⟩
    clear hs1 hs2 hs3 hs4 hs5
    have HVO2 : Hid (visM w11 O = vis + 1) := HM11.out.visM
    have HMF : Hid (MR wA w11 O 0 1 0 (.slice Ae' bs.em.length ce') (vis + 1) s'.em p3 s'.σ) := by
      rw [HS4.out.1, HS4.out.2]
      exact ⟨HM11.out.ltO, HM11.out.fw, HM11.out.out, HM11.out.he, World.ownsRow.mono HM11.out.hs (Nat.zero_le _), HM11.out.so⟩
    clear HM11
    go_wp2_with fail
    go_roundw
    case rel => exact ⟨s', vis + 1, _, s.at_, by rw [HS1.out], rfl, HS2.out, HS3.out, HMF.out⟩
    case measure => rw [HVO.out, HVO2.out]; omega
end

end Go.Proofs.YtnjmlhokkhkaaaaGreat
