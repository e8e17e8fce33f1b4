/- Run8, joined. -/
import Derived.Test.YtnjmlhokkhkaaaaGreatQ15
namespace Go.Proofs.YtnjmlhokkhkaaaaGreat

/- RunOf of the program. -/
section
open Go.ChangeShapes Go.WideShapes Go.ChangeAt Go.RowKit Go.Joins

def GivesOut (P : OutD → Prop) (w : World) (e : Ending) (w' : World) : Prop := ∃ (o : OutD) (v : Value), P o ∧ e = .returned (.agg #[.int .i64 o.st, .int .i64 o.val, v, .int .i64 o.vis]) ∧ OI w' w.heap.size v o.em ∧ Below w.heap.size w w'

/-- Where a run stands ahead of a visit, or behind its end; o is what it will answer. -/
def RunInv (f : FunD) (fuel : Nat) (o : OutD) (s : VSt) (st val : Int) (vis : Nat) : Prop :=
  vis ≤ fuel ∧ s.σ.length = f.names.toNat ∧ s.em.length ≤ 80 * vis ∧
    ((st = 1 ∧ val = 0 ∧ CameOk f s ∧ runS f (fuel - vis) vis s = o) ∨ (st = 2 ∧ o = ⟨2, val, s.em, vis⟩))

theorem RunInv.step {f : FunD} (hp : FunP f) {fuel : Nat} {o : OutD} {s s' : VSt} {st' val' : Int} {vis : Nat} {x : BlockD} (h : RunInv f fuel o s 1 0 vis) (hlt : vis < fuel) (hx : f.blocks[s.at_]? = some x)
    (hl : LeaveP x (s.put (visB f x s)) 1 0 s' st' val') : RunInv f fuel o s' st' val' (vis + 1) := by
  obtain ⟨_, h2, h3, h4⟩ := h
  have hb := (hp.1.2.2.2.2 s.at_ x hx).2.2.2.1
  have he := visB_em f x s
  have hn := visB_len f x s
  rcases h4 with ⟨_, _, hc, hr⟩ | ⟨h, _⟩
  case inr => cases h
  have hfu : fuel - vis = (fuel - (vis + 1)) + 1 := by omega
  rw [hfu] at hr
  rcases hl with ⟨hnx, rfl, rfl, rfl⟩ | ⟨t, hnx, rfl, rfl, rfl⟩
  · have hnx' : nextS x (visB f x s).σ = none := hnx
    rw [runS_end hx hnx'] at hr
    refine ⟨by omega, by show (visB f x s).σ.length = _; omega, by show (visB f x s).em.length ≤ _; omega, .inr ⟨rfl, hr.symm⟩⟩
  · have hnx' : nextS x (visB f x s).σ = some t := hnx
    rw [runS_on hx hnx'] at hr
    exact ⟨by omega, by show (visB f x s).σ.length = _; omega, by show (visB f x s).em.length ≤ _; omega, .inl ⟨rfl, rfl, CameOk.next hp hx hnx', hr⟩⟩
theorem RunInv.fin {f : FunD} {fuel : Nat} {o : OutD} {s : VSt} {st val : Int} {vis : Nat} (h : RunInv f fuel o s st val vis) (hs : st = 2 ∨ vis = fuel) : o = ⟨st, val, s.em, vis⟩ := by
  obtain ⟨_, _, _, h4⟩ := h
  rcases h4 with ⟨h1, hv, _, hr⟩ | ⟨rfl, h⟩
  · rcases hs with hs | rfl
    · omega
    · rw [Nat.sub_self] at hr
      rw [← hr, h1, hv]; rfl
  · exact h
theorem RunInv.start {f : FunD} (hp : FunP f) {args : List Int} {fuel : Int} (h : CanRun f args fuel) : RunInv f fuel.toNat (runS f fuel.toNat 0 (startS f args)) (startS f args) 1 0 0 := by
  obtain ⟨_, h1, h2, _⟩ := h
  have h3 := hp.1.2.2.2.1
  have h4 := hp.1.2.2.1.1
  refine ⟨by omega, by simp [startS]; omega, by simp [startS], .inl ⟨rfl, rfl, CameOk.start hp args, by rw [Nat.sub_zero]⟩⟩

def visOf (w : World) (R : Nat) : Nat := match w.cell? ⟨R, 8, none⟩ with
  | some v => (intOf v).toNat
  | none => 0
theorem RW.visOf {f : FunD} {wa w : World} {bl ev : Value} {R V G : Nat} {s : VSt} {st val : Int} {vis : Nat} (h : RW f wa w bl R V G s st val vis ev) : visOf w R = vis := by
  have hc : w.cell? ⟨R, 8, none⟩ = some (.int .i64 vis) := h.cell rfl
  unfold Go.Proofs.YtnjmlhokkhkaaaaGreat.visOf
  rw [hc]
  simp [intOf]

set_option maxRecDepth 10000 in
set_option maxHeartbeats 2000000 in
theorem RunOf_any (f : FunD) (v va : Value) (args : List Int) (fuel : Int) (w : World) (Z : Zn) (hv : EFun w Z f v) (hD : ∀ b, Z.D b → b < w.heap.size) (hn : f.blocks.length ≤ 1048576) (ha : RI w va args) :
    Calls Tryz.prog 7 #[v, va, .int .i64 fuel] w (GivesOut (RunG f args fuel) w) := by
  have HF := Lib.hid hv
  have HRA := Lib.hid ha
  obtain ⟨u, rfl, hu⟩ := hv
  obtain ⟨_, A, c, rfl, hx⟩ := hu
  obtain ⟨_, Aa, ca, rfl, _⟩ := ha
  clear hx
  have hB2 : Below w.heap.size w ((w.alloc (.cells #[.int .i64 f.params, .int .i64 f.names, .slice A f.blocks.length c] 26)).alloc (.cells #[.int .i64 0, .int .i64 0, .slice none 0 0, .int .i64 0] 31)) := by
    repeat (first | exact Below.refl _ _ | refine Below.alloc ?_ (by first | (simp; done) | (simp; omega)) _)
  have hq : ((w.alloc (.cells #[.int .i64 f.params, .int .i64 f.names, .slice A f.blocks.length c] 26)).alloc (.cells #[.int .i64 0, .int .i64 0, .slice none 0 0, .int .i64 0] 31)).heap[w.heap.size + 1]? = some (.cells #[.int .i64 0, .int .i64 0, .slice none 0 0, .int .i64 0] 31 (0, 0)) := by
    have h1 := heap_alloc_new (w.alloc (.cells #[.int .i64 f.params, .int .i64 f.names, .slice A f.blocks.length c] 26)) (.cells #[.int .i64 0, .int .i64 0, .slice none 0 0, .int .i64 0] 31)
    simp only [World.size_alloc] at h1
    exact h1
  have hk : ∀ j u, (#[Value.int .i64 f.params, .int .i64 f.names, .slice A f.blocks.length c] : Array Value)[j]? = some u → ((w.alloc (.cells #[.int .i64 f.params, .int .i64 f.names, .slice A f.blocks.length c] 26)).alloc (.cells #[.int .i64 0, .int .i64 0, .slice none 0 0, .int .i64 0] 31)).cell? ⟨w.heap.size, j, none⟩ = some u := fun j u hu => by
    rw [World.cell?_alloc_lt _ _ ⟨w.heap.size, j, none⟩ (by simp)]
    exact (cell_of_row _ w.heap.size j _ _ (0, 0) (heap_alloc_new w _)).trans hu
  have hs2 : ((w.alloc (.cells #[.int .i64 f.params, .int .i64 f.names, .slice A f.blocks.length c] 26)).alloc (.cells #[.int .i64 0, .int .i64 0, .slice none 0 0, .int .i64 0] 31)).heap.size = w.heap.size + 2 := by simp
  have HKK := Lib.hid hk
  clear hk
  go_enter Tryz.func7, Tryz.ntmps7
  go_wp2_with fail
  obtain ⟨F, hF⟩ : ∃ F, F = w.heap.size := ⟨_, rfl⟩
  obtain ⟨Q, hQ⟩ : ∃ Q, Q = F + 1 := ⟨_, rfl⟩
  rw [← hF] at hq hs2
  rw [← hQ] at hq
  have HKF : Hid (∀ j u, (#[Value.int .i64 f.params, .int .i64 f.names, .slice A f.blocks.length c] : Array Value)[j]? = some u → (((w.alloc (.cells #[.int .i64 f.params, .int .i64 f.names, .slice A f.blocks.length c] 26)).alloc (.cells #[.int .i64 0, .int .i64 0, .slice none 0 0, .int .i64 0] 31))).cell? ⟨F, j, none⟩ = some u) := by rw [hF]; exact HKK.out
  rw [← hF, ← hQ]
  have HWF : Hid (w.heap.size = F) := hF.symm
  have hFQ : F < Q := by omega
  have hQ2 : Q < (((w.alloc (.cells #[.int .i64 f.params, .int .i64 f.names, .slice A f.blocks.length c] 26)).alloc (.cells #[.int .i64 0, .int .i64 0, .slice none 0 0, .int .i64 0] 31))).heap.size := by omega
  have HB2 := Lib.hid hB2
  generalize ((w.alloc (.cells #[.int .i64 f.params, .int .i64 f.names, .slice A f.blocks.length c] 26)).alloc (.cells #[.int .i64 0, .int .i64 0, .slice none 0 0, .int .i64 0] 31)) = w2 at *
  clear HKK hF hB2 hQ hs2
  refine (canRun_any f _ _ args fuel _ Z (HF.out.keep (Kept.below HB2.out hD)) (fun b hb => by have := hD b hb; have := HB2.out.size; omega) hn (HRA.out.below HB2.out)).mono ?_
  rintro e w3 ⟨r, rfl, hr, hb3⟩
  have HR := Lib.hid hr
  have HB23 := Lib.hid hb3
  have HB3 : Hid (Below w.heap.size w w3) := HB2.out.trans (hb3.mono (by have := HB2.out.size; omega))
  have HQ3 : Hid (w3.heap[Q]? = some (.cells #[.int .i64 0, .int .i64 0, .slice none 0 0, .int .i64 0] 31 (0, 0))) := (hb3.block Q (by omega)).trans hq
  have k0 := (hb3.cell (p := ⟨F, 0, none⟩) (show F < w2.heap.size by omega)).trans (HKF.out 0 _ rfl)
  have k1 := (hb3.cell (p := ⟨F, 1, none⟩) (show F < w2.heap.size by omega)).trans (HKF.out 1 _ rfl)
  have k2 := (hb3.cell (p := ⟨F, 2, none⟩) (show F < w2.heap.size by omega)).trans (HKF.out 2 _ rfl)
  have hz3 : Q < w3.heap.size := by have := hb3.size; omega
  clear hr hb3 hq
  cases r
  · have HN : Hid (RunG f args fuel zOut) := .inl ⟨fun h => (by have := HR.out.2 h; cases this), rfl⟩
    have qc0 := cell_of_row w3 Q 0 _ _ (0, 0) HQ3.out
    have qf0 := frozen_of_row w3 Q 0 _ _ HQ3.out
    have qc1 := cell_of_row w3 Q 1 _ _ (0, 0) HQ3.out
    have qf1 := frozen_of_row w3 Q 1 _ _ HQ3.out
    have qc2 := cell_of_row w3 Q 2 _ _ (0, 0) HQ3.out
    have qf2 := frozen_of_row w3 Q 2 _ _ HQ3.out
    have qc3 := cell_of_row w3 Q 3 _ _ (0, 0) HQ3.out
    have qf3 := frozen_of_row w3 Q 3 _ _ HQ3.out
    go_wp2_with fail
    have HFW : Hid (Fw (· = Q) w3 ((((w3.setCell ⟨Q, 0, none⟩ (.int .i64 0)).setCell ⟨Q, 1, none⟩ (.int .i64 0)).setCell ⟨Q, 2, none⟩ (.slice none 0 0)).setCell ⟨Q, 3, none⟩ (.int .i64 0))) := (((((Fw.refl (· = Q) w3).trans (Fw.set (P := (· = Q)) _ rfl 0 (.int .i64 0)) (fun _ _ h => h)).trans (Fw.set (P := (· = Q)) _ rfl 1 (.int .i64 0)) (fun _ _ h => h)).trans (Fw.set (P := (· = Q)) _ rfl 2 (.slice none 0 0)) (fun _ _ h => h)).trans (Fw.set (P := (· = Q)) _ rfl 3 (.int .i64 0)) (fun _ _ h => h))
    have HWQ : Hid ((((((w3.setCell ⟨Q, 0, none⟩ (.int .i64 0)).setCell ⟨Q, 1, none⟩ (.int .i64 0)).setCell ⟨Q, 2, none⟩ (.slice none 0 0)).setCell ⟨Q, 3, none⟩ (.int .i64 0))).heap[Q]? = some (.cells #[(.int .i64 0), (.int .i64 0), (.slice none 0 0), (.int .i64 0)] 31 (0, 0))) := by
      have s0 : ((w3.setCell ⟨Q, 0, none⟩ (.int .i64 0))).heap[Q]? = some (.cells #[(.int .i64 0), (.int .i64 0), (.slice none 0 0), (.int .i64 0)] 31 (0, 0)) := heap_setCell_same _ Q 0 _ _ (.int .i64 0) HQ3.out
      have s1 : (((w3.setCell ⟨Q, 0, none⟩ (.int .i64 0)).setCell ⟨Q, 1, none⟩ (.int .i64 0))).heap[Q]? = some (.cells #[(.int .i64 0), (.int .i64 0), (.slice none 0 0), (.int .i64 0)] 31 (0, 0)) := heap_setCell_same _ Q 1 _ _ (.int .i64 0) s0
      have s2 : ((((w3.setCell ⟨Q, 0, none⟩ (.int .i64 0)).setCell ⟨Q, 1, none⟩ (.int .i64 0)).setCell ⟨Q, 2, none⟩ (.slice none 0 0))).heap[Q]? = some (.cells #[(.int .i64 0), (.int .i64 0), (.slice none 0 0), (.int .i64 0)] 31 (0, 0)) := heap_setCell_same _ Q 2 _ _ (.slice none 0 0) s1
      have s3 : (((((w3.setCell ⟨Q, 0, none⟩ (.int .i64 0)).setCell ⟨Q, 1, none⟩ (.int .i64 0)).setCell ⟨Q, 2, none⟩ (.slice none 0 0)).setCell ⟨Q, 3, none⟩ (.int .i64 0))).heap[Q]? = some (.cells #[(.int .i64 0), (.int .i64 0), (.slice none 0 0), (.int .i64 0)] 31 (0, 0)) := heap_setCell_same _ Q 3 _ _ (.int .i64 0) s2
      exact s3
    generalize ((((w3.setCell ⟨Q, 0, none⟩ (.int .i64 0)).setCell ⟨Q, 1, none⟩ (.int .i64 0)).setCell ⟨Q, 2, none⟩ (.slice none 0 0)).setCell ⟨Q, 3, none⟩ (.int .i64 0)) = wf at *
    have qd0 := cell_of_row wf Q 0 _ _ (0, 0) HWQ.out
    have qd1 := cell_of_row wf Q 1 _ _ (0, 0) HWQ.out
    have qd2 := cell_of_row wf Q 2 _ _ (0, 0) HWQ.out
    have qd3 := cell_of_row wf Q 3 _ _ (0, 0) HWQ.out
    clear qc0 qc1 qc2 qc3 qf0 qf1 qf2 qf3
    go_wp2_with fail
    refine bodyPost_ret (v := .agg #[(.int .i64 0), (.int .i64 0), (.slice none 0 0), (.int .i64 0)]) (by simp [results, Tryz.results7, go_sem, qd0, qd1, qd2, qd3]) rfl ?_
    exact ⟨zOut, _, HN.out, rfl, World.ownsRow_nil _ _ _ _, HB3.out.trans ((HFW.out.toBelow (B := F) (by omega) (fun k hk e => by have e' : k = Q := e; omega)).mono (by rw [HWF.out]; omega))⟩
  have HC := Lib.hid (HR.out.1 rfl)
  clear HR
  go_wp2_with fail
  refine (startOf_any f _ _ args _ Z HC.out.1 (HF.out.keep (Kept.below HB3.out hD)) (fun b hb => by have := hD b hb; have := HB3.out.size; omega) (HRA.out.below HB3.out) HC.out.2.1).mono ?_
  rintro e w4 ⟨V, G, bl, he4, hra, hil, hb4⟩
  have hbr := hra.row
  obtain ⟨_, A4, c4, rfl, _⟩ := hbr
  have he5 : e = .returned (.agg #[.slice A4 f.blocks.length c4, .slice (some ⟨G, 0, none⟩) f.blocks.length f.blocks.length, .slice (some ⟨V, 0, none⟩) f.names.toNat f.names.toNat, .int .i64 (startS f args).at_, .int .i64 (startS f args).bef, .int .i64 1, .int .i64 0, .slice none 0 0, .int .i64 0]) := he4
  clear he4
  subst he5
  have HA := Lib.hid hra
  have HINV := Lib.hid (RunInv.start HC.out.1 HC.out)
  have HIL := Lib.hid hil
  have HB4 : Hid (Below w.heap.size w w4) := HB3.out.trans (hb4.mono (by have := HB3.out.size; omega))
  have HQ4 : Hid (w4.heap[Q]? = some (.cells #[.int .i64 0, .int .i64 0, .slice none 0 0, .int .i64 0] 31 (0, 0))) := (hb4.block Q hz3).trans HQ3.out
  have hQ4 : Q < w4.heap.size := by have := hb4.size; omega
  have hQV : Q < V := by have := hra.hBV; omega
  have hVR : V < w4.heap.size := by have h1 := hra.hVG; have h2 := hra.szG; omega
  have hsl := hil.1
  generalize f.names.toNat = n at *
  generalize hs0 : startS f args = s0 at *
  have HEM0 : Hid (s0.em = []) := by rw [← hs0]; rfl
  have HS0 : Hid (startS f args = s0) := hs0
  clear hra hil hb4 hs0 k0 k1 k2
  go_wp2_with fail
  have hW5 : RW f w4 (w4.alloc (.cells #[.slice A4 f.blocks.length c4, .slice (some ⟨G, 0, none⟩) f.blocks.length f.blocks.length, .slice (some ⟨V, 0, none⟩) n n, .int .i64 s0.at_, .int .i64 s0.bef, .int .i64 1, .int .i64 0, .slice none 0 0, .int .i64 0] 59)) (.slice A4 f.blocks.length c4) w4.heap.size V G s0 1 0 0 (.slice none 0 0) := by
    refine ⟨rfl, Fw.alloc _ _ _, ?_, by rw [HEM0.out]; exact World.ownsRow_nil _ _ _ _, ?_⟩
    · rw [hsl]
      exact heap_alloc_new w4 _
    · rw [hsl]
      have h := HIL.out.below ((Below.refl w4.heap.size w4).alloc (Nat.le_refl _) (.cells #[.slice A4 f.blocks.length c4, .slice (some ⟨G, 0, none⟩) f.blocks.length f.blocks.length, .slice (some ⟨V, 0, none⟩) n n, .int .i64 s0.at_, .int .i64 s0.bef, .int .i64 1, .int .i64 0, .slice none 0 0, .int .i64 0] 59))
      exact h.2
  obtain ⟨R, hR⟩ : ∃ R, R = w4.heap.size := ⟨_, rfl⟩
  rw [← hR] at hW5 hVR hQ4 ⊢
  generalize w4.alloc (.cells #[.slice A4 f.blocks.length c4, .slice (some ⟨G, 0, none⟩) f.blocks.length f.blocks.length, .slice (some ⟨V, 0, none⟩) n n, .int .i64 s0.at_, .int .i64 s0.bef, .int .i64 1, .int .i64 0, .slice none 0 0, .int .i64 0] 59) = w5 at *
  have HBQ5 : Hid (Beside R V (.slice none 0 0) w5 Q) := hW5.beside_old (by omega) (by omega)
  have HQ5 : Hid (w5.heap[Q]? = some (.cells #[.int .i64 0, .int .i64 0, .slice none 0 0, .int .i64 0] 31 (0, 0))) := (hW5.fw.block Q (by omega) (by omega)).trans HQ4.out
  have HW5 := Lib.hid hW5
  clear hR hW5 HIL HEM0 hsl
  go_loopw [27] (fun _ wr => ∃ (s : VSt) (st val : Int) (vis : Nat) (ev : Value), Hid (RunInv f fuel.toNat (runS f fuel.toNat 0 s0) s st val vis) ∧ Hid (RW f w4 wr (.slice A4 f.blocks.length c4) R V G s st val vis ev) ∧ Hid (RF R V (.slice none 0 0) ev w5 wr)) (fun _ wr => fuel.toNat - visOf wr R)
  case atStart => exact ⟨s0, 1, 0, 0, _, HINV.out, HW5.out, RF.refl _ _ _ _⟩
  clear HINV HW5
  case round =>
    obtain ⟨s, st, val, vis, ev, HI, HW, HF⟩ := hrel
    have r5 : wr.cell? ⟨R, 5, none⟩ = some (.int .i64 st) := HW.out.cell rfl
    have r8 : wr.cell? ⟨R, 8, none⟩ = some (.int .i64 vis) := HW.out.cell rfl
    have HVO : Hid (visOf wr R = vis) := HW.out.visOf
    have HFU := Lib.hid HC.out.2.2.1
    by_cases hgo : st = 1 ∧ vis < fuel.toNat
    case pos =>
      obtain ⟨hst, hvf⟩ := hgo
      subst hst
      have hvf' : (vis : Int) < fuel := by omega
      obtain ⟨hi1, hi2, hi3, hi4⟩ := HI.out
      have hval : val = 0 ∧ CameOk f s := by
        rcases hi4 with ⟨_, h1, h2, _⟩ | ⟨h, _⟩
        · exact ⟨h1, h2⟩
        · cases h
      obtain ⟨hv0, x, hx, hc⟩ := hval
      subst hv0
      have HX := Lib.hid hx
      have HCM := Lib.hid hc
      have hfn : f.names = s.σ.length := by have := HC.out.1.1.2.1.1; omega
      have HFN := Lib.hid hfn
      have hv500 : vis ≤ 1000 := by have := HFU.out.2; omega
      have hem : s.em.length ≤ 100000 := by omega
      clear hi1 hi2 hi3 hi4 hx hc hfn
      go_wp2_with fail
      refine (visit_any f Z w4 _ _ w3.heap.size R V G s 1 0 vis ev x HW.out HA.out HX.out HCM.out HFN.out hv500 hem).mono ?_
      rintro e w6 ⟨s', st', val', hlv, _, ev', rfl, hw6, hf6⟩
      have HI6 := Lib.hid (HI.out.step HC.out.1 hvf HX.out hlv)
      have HW6 : Hid (RW f w4 w6 (.slice A4 f.blocks.length c4) R V G s' st' val' (vis + 1) ev' ∧ RF R V (.slice none 0 0) ev' w5 w6) := ⟨hw6, HF.out.trans hf6⟩
      have HVO6 : Hid (visOf w6 R = vis + 1) := hw6.visOf
      clear hlv hw6 hf6 r5 r8
      go_wp2_with fail
      go_roundw
      case rel => exact ⟨s', st', val', vis + 1, ev', HI6.out, HW6.out.1, HW6.out.2⟩
      case measure => rw [HVO.out, HVO6.out]; omega
    have hvf0 : vis ≤ fuel.toNat := HI.out.1
    have hst : st = 1 ∨ st = 2 := by
      rcases HI.out.2.2.2 with ⟨h, _⟩ | ⟨h, _⟩
      · exact .inl h
      · exact .inr h
    have hend : st = 2 ∨ vis = fuel.toNat := by omega
    have HO := Lib.hid (HI.out.fin hend)
    have HRG : Hid (RunG f args fuel (runS f fuel.toNat 0 s0)) := .inr ⟨HC.out, by rw [HS0.out]⟩
    obtain ⟨_, Ae, ce, rfl, _⟩ := HW.out.hev.ri
    have r6 : wr.cell? ⟨R, 6, none⟩ = some (.int .i64 val) := HW.out.cell rfl
    have r7 : wr.cell? ⟨R, 7, none⟩ = some (.slice Ae s.em.length ce) := HW.out.cell rfl
    have HQr : Hid (wr.heap[Q]? = some (.cells #[.int .i64 0, .int .i64 0, .slice none 0 0, .int .i64 0] 31 (0, 0))) := (HBQ5.out.heap HF.out).trans HQ5.out
    have hQr : Q < wr.heap.size := (Array.getElem?_eq_some_iff.1 HQr.out).1
    have HBr : Hid (Below w.heap.size w wr) := HB4.out.trans ((HW.out.old HA.out).mono (by have := HB3.out.size; omega))
    have HEV : Hid (OI wr (R + 1) (.slice Ae s.em.length ce) s.em) := HW.out.hev
    have hQR : Q < R := by omega
    by_cases hs1 : st = 1
    · subst hs1
      have hvf : ¬ (vis : Int) < fuel := by omega
      clear hend hst hgo
      have qc0 := cell_of_row wr Q 0 _ _ (0, 0) HQr.out
      have qf0 := frozen_of_row wr Q 0 _ _ HQr.out
      have qc1 := cell_of_row wr Q 1 _ _ (0, 0) HQr.out
      have qf1 := frozen_of_row wr Q 1 _ _ HQr.out
      have qc2 := cell_of_row wr Q 2 _ _ (0, 0) HQr.out
      have qf2 := frozen_of_row wr Q 2 _ _ HQr.out
      have qc3 := cell_of_row wr Q 3 _ _ (0, 0) HQr.out
      have qf3 := frozen_of_row wr Q 3 _ _ HQr.out
      go_wp2_with fail
      have HFW : Hid (Fw (· = Q) wr ((((wr.setCell ⟨Q, 0, none⟩ (.int .i64 1)).setCell ⟨Q, 1, none⟩ (.int .i64 val)).setCell ⟨Q, 2, none⟩ (.slice Ae s.em.length ce)).setCell ⟨Q, 3, none⟩ (.int .i64 vis))) := (((((Fw.refl (· = Q) wr).trans (Fw.set (P := (· = Q)) _ rfl 0 (.int .i64 1)) (fun _ _ h => h)).trans (Fw.set (P := (· = Q)) _ rfl 1 (.int .i64 val)) (fun _ _ h => h)).trans (Fw.set (P := (· = Q)) _ rfl 2 (.slice Ae s.em.length ce)) (fun _ _ h => h)).trans (Fw.set (P := (· = Q)) _ rfl 3 (.int .i64 vis)) (fun _ _ h => h))
      have HWQ : Hid ((((((wr.setCell ⟨Q, 0, none⟩ (.int .i64 1)).setCell ⟨Q, 1, none⟩ (.int .i64 val)).setCell ⟨Q, 2, none⟩ (.slice Ae s.em.length ce)).setCell ⟨Q, 3, none⟩ (.int .i64 vis))).heap[Q]? = some (.cells #[(.int .i64 1), (.int .i64 val), (.slice Ae s.em.length ce), (.int .i64 vis)] 31 (0, 0))) := by
        have s0 : ((wr.setCell ⟨Q, 0, none⟩ (.int .i64 1))).heap[Q]? = some (.cells #[(.int .i64 1), (.int .i64 0), (.slice none 0 0), (.int .i64 0)] 31 (0, 0)) := heap_setCell_same _ Q 0 _ _ (.int .i64 1) HQr.out
        have s1 : (((wr.setCell ⟨Q, 0, none⟩ (.int .i64 1)).setCell ⟨Q, 1, none⟩ (.int .i64 val))).heap[Q]? = some (.cells #[(.int .i64 1), (.int .i64 val), (.slice none 0 0), (.int .i64 0)] 31 (0, 0)) := heap_setCell_same _ Q 1 _ _ (.int .i64 val) s0
        have s2 : ((((wr.setCell ⟨Q, 0, none⟩ (.int .i64 1)).setCell ⟨Q, 1, none⟩ (.int .i64 val)).setCell ⟨Q, 2, none⟩ (.slice Ae s.em.length ce))).heap[Q]? = some (.cells #[(.int .i64 1), (.int .i64 val), (.slice Ae s.em.length ce), (.int .i64 0)] 31 (0, 0)) := heap_setCell_same _ Q 2 _ _ (.slice Ae s.em.length ce) s1
        have s3 : (((((wr.setCell ⟨Q, 0, none⟩ (.int .i64 1)).setCell ⟨Q, 1, none⟩ (.int .i64 val)).setCell ⟨Q, 2, none⟩ (.slice Ae s.em.length ce)).setCell ⟨Q, 3, none⟩ (.int .i64 vis))).heap[Q]? = some (.cells #[(.int .i64 1), (.int .i64 val), (.slice Ae s.em.length ce), (.int .i64 vis)] 31 (0, 0)) := heap_setCell_same _ Q 3 _ _ (.int .i64 vis) s2
        exact s3
      generalize ((((wr.setCell ⟨Q, 0, none⟩ (.int .i64 1)).setCell ⟨Q, 1, none⟩ (.int .i64 val)).setCell ⟨Q, 2, none⟩ (.slice Ae s.em.length ce)).setCell ⟨Q, 3, none⟩ (.int .i64 vis)) = wf at *
      have qd0 := cell_of_row wf Q 0 _ _ (0, 0) HWQ.out
      have qd1 := cell_of_row wf Q 1 _ _ (0, 0) HWQ.out
      have qd2 := cell_of_row wf Q 2 _ _ (0, 0) HWQ.out
      have qd3 := cell_of_row wf Q 3 _ _ (0, 0) HWQ.out
      clear qc0 qc1 qc2 qc3 qf0 qf1 qf2 qf3
      go_wp2_with fail
      refine bodyPost_ret (v := .agg #[(.int .i64 1), (.int .i64 val), (.slice Ae s.em.length ce), (.int .i64 vis)]) (by simp [results, Tryz.results7, go_sem, qd0, qd1, qd2, qd3]) rfl ?_
      exact ⟨runS f fuel.toNat 0 s0, .slice Ae s.em.length ce, HRG.out, by rw [HO.out], by rw [HO.out]; exact World.ownsRow.mono (HEV.out.fw HFW.out (fun k hk e => by have e1 : k = Q := e; have e2 := (HEV.out.lt k hk).1; omega)) (by rw [HWF.out]; omega), HBr.out.trans ((HFW.out.toBelow (B := F) (by omega) (fun k hk e => by have e1 : k = Q := e; omega)).mono (Nat.le_of_eq HWF.out))⟩
    · have hb1 : (st == 1) = false := by simpa using hs1
      clear hend hst hgo hs1
      have qc0 := cell_of_row wr Q 0 _ _ (0, 0) HQr.out
      have qf0 := frozen_of_row wr Q 0 _ _ HQr.out
      have qc1 := cell_of_row wr Q 1 _ _ (0, 0) HQr.out
      have qf1 := frozen_of_row wr Q 1 _ _ HQr.out
      have qc2 := cell_of_row wr Q 2 _ _ (0, 0) HQr.out
      have qf2 := frozen_of_row wr Q 2 _ _ HQr.out
      have qc3 := cell_of_row wr Q 3 _ _ (0, 0) HQr.out
      have qf3 := frozen_of_row wr Q 3 _ _ HQr.out
      go_wp2_with fail
      have HFW : Hid (Fw (· = Q) wr ((((wr.setCell ⟨Q, 0, none⟩ (.int .i64 st)).setCell ⟨Q, 1, none⟩ (.int .i64 val)).setCell ⟨Q, 2, none⟩ (.slice Ae s.em.length ce)).setCell ⟨Q, 3, none⟩ (.int .i64 vis))) := (((((Fw.refl (· = Q) wr).trans (Fw.set (P := (· = Q)) _ rfl 0 (.int .i64 st)) (fun _ _ h => h)).trans (Fw.set (P := (· = Q)) _ rfl 1 (.int .i64 val)) (fun _ _ h => h)).trans (Fw.set (P := (· = Q)) _ rfl 2 (.slice Ae s.em.length ce)) (fun _ _ h => h)).trans (Fw.set (P := (· = Q)) _ rfl 3 (.int .i64 vis)) (fun _ _ h => h))
      have HWQ : Hid ((((((wr.setCell ⟨Q, 0, none⟩ (.int .i64 st)).setCell ⟨Q, 1, none⟩ (.int .i64 val)).setCell ⟨Q, 2, none⟩ (.slice Ae s.em.length ce)).setCell ⟨Q, 3, none⟩ (.int .i64 vis))).heap[Q]? = some (.cells #[(.int .i64 st), (.int .i64 val), (.slice Ae s.em.length ce), (.int .i64 vis)] 31 (0, 0))) := by
        have s0 : ((wr.setCell ⟨Q, 0, none⟩ (.int .i64 st))).heap[Q]? = some (.cells #[(.int .i64 st), (.int .i64 0), (.slice none 0 0), (.int .i64 0)] 31 (0, 0)) := heap_setCell_same _ Q 0 _ _ (.int .i64 st) HQr.out
        have s1 : (((wr.setCell ⟨Q, 0, none⟩ (.int .i64 st)).setCell ⟨Q, 1, none⟩ (.int .i64 val))).heap[Q]? = some (.cells #[(.int .i64 st), (.int .i64 val), (.slice none 0 0), (.int .i64 0)] 31 (0, 0)) := heap_setCell_same _ Q 1 _ _ (.int .i64 val) s0
        have s2 : ((((wr.setCell ⟨Q, 0, none⟩ (.int .i64 st)).setCell ⟨Q, 1, none⟩ (.int .i64 val)).setCell ⟨Q, 2, none⟩ (.slice Ae s.em.length ce))).heap[Q]? = some (.cells #[(.int .i64 st), (.int .i64 val), (.slice Ae s.em.length ce), (.int .i64 0)] 31 (0, 0)) := heap_setCell_same _ Q 2 _ _ (.slice Ae s.em.length ce) s1
        have s3 : (((((wr.setCell ⟨Q, 0, none⟩ (.int .i64 st)).setCell ⟨Q, 1, none⟩ (.int .i64 val)).setCell ⟨Q, 2, none⟩ (.slice Ae s.em.length ce)).setCell ⟨Q, 3, none⟩ (.int .i64 vis))).heap[Q]? = some (.cells #[(.int .i64 st), (.int .i64 val), (.slice Ae s.em.length ce), (.int .i64 vis)] 31 (0, 0)) := heap_setCell_same _ Q 3 _ _ (.int .i64 vis) s2
        exact s3
      generalize ((((wr.setCell ⟨Q, 0, none⟩ (.int .i64 st)).setCell ⟨Q, 1, none⟩ (.int .i64 val)).setCell ⟨Q, 2, none⟩ (.slice Ae s.em.length ce)).setCell ⟨Q, 3, none⟩ (.int .i64 vis)) = wf at *
      have qd0 := cell_of_row wf Q 0 _ _ (0, 0) HWQ.out
      have qd1 := cell_of_row wf Q 1 _ _ (0, 0) HWQ.out
      have qd2 := cell_of_row wf Q 2 _ _ (0, 0) HWQ.out
      have qd3 := cell_of_row wf Q 3 _ _ (0, 0) HWQ.out
      clear qc0 qc1 qc2 qc3 qf0 qf1 qf2 qf3
      go_wp2_with fail
      refine bodyPost_ret (v := .agg #[(.int .i64 st), (.int .i64 val), (.slice Ae s.em.length ce), (.int .i64 vis)]) (by simp [results, Tryz.results7, go_sem, qd0, qd1, qd2, qd3]) rfl ?_
      exact ⟨runS f fuel.toNat 0 s0, .slice Ae s.em.length ce, HRG.out, by rw [HO.out], by rw [HO.out]; exact World.ownsRow.mono (HEV.out.fw HFW.out (fun k hk e => by have e1 : k = Q := e; have e2 := (HEV.out.lt k hk).1; omega)) (by rw [HWF.out]; omega), HBr.out.trans ((HFW.out.toBelow (B := F) (by omega) (fun k hk e => by have e1 : k = Q := e; omega)).mono (Nat.le_of_eq HWF.out))⟩
end

end Go.Proofs.YtnjmlhokkhkaaaaGreat
