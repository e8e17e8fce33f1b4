/- toBlock, toBlockS and toFun of the laws. -/
import Derived.Test.YtbghcoihndlihaaTo2
namespace Go.Proofs.Ytbghcoihndlihaa
open Go.ChangeShapes Go.WideShapes Go.ChangeAt Go.RowKit Go.Joins

theorem kept_step {lo g o : Nat} {u : Value} {w V w' : World} (hV : V = w.setCell ⟨g, o, none⟩ u) (hg : g < lo) (hb : Below V.heap.size V w') : Kept (Zn.new lo w.heap.size) (Zn.new lo w'.heap.size) w w' := by
  subst hV
  have hs := hb.size
  simp only [nblk_set] at hs
  refine Kept.new (Nat.le_refl _) hs fun b h1 h2 => ?_
  exact (hb.block b (by rw [nblk_set]; exact h2)).trans (Below.heap_setCell _ _ _ _ (by first | omega | (simp; done) | (simp; omega)))

def smallBlock (x : BlockD) : Prop := x.phis.length ≤ 1048576 ∧ (∀ p ∈ x.phis, smallPhi p) ∧ x.head.length ≤ 1048576 ∧ x.body.length ≤ 1048576 ∧ x.tail.length ≤ 1048576
def smallFun (f : FunD) : Prop := f.blocks.length ≤ 1048576 ∧ ∀ x ∈ f.blocks, smallBlock x

set_option maxHeartbeats 1000000 in
theorem toBlock_any (x : BlockD) (cs : List Value) (w : World) (Z : Zn) (hv : EBlock w Z x cs) (hD : ∀ b, Z.D b → b < w.heap.size) (hn : smallBlock x) :
    Calls Try.prog 33 #[.agg cs.toArray] w (GivesE (fun w Z cs => EBlock w Z x cs) w) := by
  obtain ⟨v0, v1, v2, v3, rfl, hv0, hv1, hv2, hv3⟩ := hv
  obtain ⟨hn0, hn1, hn2, hn3, hn4⟩ := hn
  have HV0 := Lib.hid hv0
  have HV1 := Lib.hid hv1
  have HV2 := Lib.hid hv2
  have HV3 := Lib.hid hv3
  have HN1 := Lib.hid hn1
  obtain ⟨_, A0, c0, rfl, _⟩ := hv0
  obtain ⟨_, A1, c1, rfl, _⟩ := hv1
  obtain ⟨_, A2, c2, rfl, _⟩ := hv2
  obtain ⟨_, A3, c3, rfl, _⟩ := hv3
  clear hn1
  go_enter Try.func33, Try.ntmps33
  go_wp2_with fail
  have hK1 : ∀ V : World, Below w.heap.size w V → Kept Z Z w V := fun V hb => Kept.below hb hD
  refine (toPhiS_any _ _ _ Z (HV0.out.keep (hK1 _ (by repeat (first | exact Below.refl _ _ | refine Below.alloc ?_ (by first | (simp; done) | (simp; omega)) _ | refine Below.setCell ?_ (by simp) _))) fun _ _ h => h.keep (hK1 _ (by repeat (first | exact Below.refl _ _ | refine Below.alloc ?_ (by first | (simp; done) | (simp; omega)) _ | refine Below.setCell ?_ (by simp) _)))) (fun b hb => by have := hD b hb; first | omega | (simp; omega)) hn0 HN1.out).mono ?_
  rintro e w1 ⟨r, rfl, hr, hb1⟩
  have HB1 : Hid (Below w.heap.size w w1) := Below.trans (by repeat (first | exact Below.refl _ _ | refine Below.alloc ?_ (by first | (simp; done) | (simp; omega)) _ | refine Below.setCell ?_ (by simp) _)) (hb1.mono (by first | omega | (simp; done) | (simp; omega)))
  have HR0 : Hid (Row w1 (Zn.new (w.heap.size + 3) w1.heap.size) 2 (EPhi w1 (Zn.new (w.heap.size + 3) w1.heap.size)) r x.phis) := by simpa [Hid] using hr
  obtain ⟨_, B0, d0, rfl, _⟩ := hr
  obtain ⟨hc1, hf1⟩ := bcellB (hb1.mono (B' := w.heap.size + 3) (by simp))
  have hz1 : w.heap.size + 3 ≤ w1.heap.size := by have := hb1.size; simp at this; omega
  clear hb1
  go_wp2_with fail
  refine (toMoveS_any _ _ _ Z (HV1.out.keep (hK1 _ (HB1.out.setCell (by first | omega | (simp; done) | (simp; omega)) _)) fun _ _ h => h) (fun b hb => by have := hD b hb; first | omega | (simp; omega)) hn2).mono ?_
  rintro e w2 ⟨r, rfl, hr, hb2⟩
  have HB2 : Hid (Below w.heap.size w w2) := (HB1.out.setCell (by first | omega | (simp; done) | (simp; omega)) _).trans (hb2.mono (by first | omega | (simp; done) | (simp; omega)))
  have HK : Hid (Kept (Zn.new (w.heap.size + 3) w1.heap.size) (Zn.new (w.heap.size + 3) w2.heap.size) w1 w2) := kept_step rfl (by omega) hb2
  have hz2 : w1.heap.size ≤ w2.heap.size := by have := hb2.size; first | omega | (simp at this; omega)
  replace HR0 := Lib.hid (HR0.out.keep HK.out fun _ _ h => h.keep HK.out)
  have HR1 : Hid (Row w2 (Zn.new (w.heap.size + 3) w2.heap.size) 2 EMove r x.head) := hr.keep (Kept.new (by first | omega | (simp; done) | (simp; omega)) (Nat.le_refl _) fun _ _ _ => rfl) fun _ _ h => h
  obtain ⟨_, B1, d1, rfl, _⟩ := hr
  obtain ⟨hc2, hf2⟩ := bcellB (hb2.mono (B' := w.heap.size + 3) (by first | omega | (simp; omega)))
  clear hb2 HK
  go_wp2_with fail
  refine (toInsS_any _ _ _ Z (HV2.out.keep (hK1 _ (HB2.out.setCell (by first | omega | (simp; done) | (simp; omega)) _)) fun _ _ h => h) (fun b hb => by have := hD b hb; first | omega | (simp; omega)) hn3).mono ?_
  rintro e w3 ⟨r, rfl, hr, hb3⟩
  have HB3 : Hid (Below w.heap.size w w3) := (HB2.out.setCell (by first | omega | (simp; done) | (simp; omega)) _).trans (hb3.mono (by first | omega | (simp; done) | (simp; omega)))
  have HK : Hid (Kept (Zn.new (w.heap.size + 3) w2.heap.size) (Zn.new (w.heap.size + 3) w3.heap.size) w2 w3) := kept_step rfl (by omega) hb3
  have hz3 : w2.heap.size ≤ w3.heap.size := by have := hb3.size; first | omega | (simp at this; omega)
  replace HR0 := Lib.hid (HR0.out.keep HK.out fun _ _ h => h.keep HK.out)
  replace HR1 := Lib.hid (HR1.out.keep HK.out fun _ _ h => h)
  have HR2 : Hid (Row w3 (Zn.new (w.heap.size + 3) w3.heap.size) 4 EIns r x.body) := hr.keep (Kept.new (by first | omega | (simp; done) | (simp; omega)) (Nat.le_refl _) fun _ _ _ => rfl) fun _ _ h => h
  obtain ⟨_, B2, d2, rfl, _⟩ := hr
  obtain ⟨hc3, hf3⟩ := bcellB (hb3.mono (B' := w.heap.size + 3) (by first | omega | (simp; omega)))
  clear hb3 HK
  go_wp2_with fail
  refine (toMoveS_any _ _ _ Z (HV3.out.keep (hK1 _ (HB3.out.setCell (by first | omega | (simp; done) | (simp; omega)) _)) fun _ _ h => h) (fun b hb => by have := hD b hb; first | omega | (simp; omega)) hn4).mono ?_
  rintro e w4 ⟨r, rfl, hr, hb4⟩
  have HB4 : Hid (Below w.heap.size w w4) := (HB3.out.setCell (by first | omega | (simp; done) | (simp; omega)) _).trans (hb4.mono (by first | omega | (simp; done) | (simp; omega)))
  have HK : Hid (Kept (Zn.new (w.heap.size + 3) w3.heap.size) (Zn.new (w.heap.size + 3) w4.heap.size) w3 w4) := kept_step rfl (by omega) hb4
  have hz4 : w3.heap.size ≤ w4.heap.size := by have := hb4.size; first | omega | (simp at this; omega)
  replace HR0 := Lib.hid (HR0.out.keep HK.out fun _ _ h => h.keep HK.out)
  replace HR1 := Lib.hid (HR1.out.keep HK.out fun _ _ h => h)
  replace HR2 := Lib.hid (HR2.out.keep HK.out fun _ _ h => h)
  have HR3 : Hid (Row w4 (Zn.new (w.heap.size + 3) w4.heap.size) 2 EMove r x.tail) := hr.keep (Kept.new (by first | omega | (simp; done) | (simp; omega)) (Nat.le_refl _) fun _ _ _ => rfl) fun _ _ h => h
  obtain ⟨_, B3, d3, rfl, _⟩ := hr
  obtain ⟨hc4, hf4⟩ := bcellB (hb4.mono (B' := w.heap.size + 3) (by first | omega | (simp; omega)))
  clear hb4 HK
  go_wp2_with fail
  refine (toEnd_any _ _ _ _ _).mono ?_
  rintro e w5 ⟨rfl, hb5⟩
  have HB5 : Hid (Below w.heap.size w w5) := (HB4.out.setCell (by first | omega | (simp; done) | (simp; omega)) _).trans (hb5.mono (by first | omega | (simp; done) | (simp; omega)))
  have HK : Hid (Kept (Zn.new (w.heap.size + 3) w4.heap.size) (Zn.new (w.heap.size + 3) w5.heap.size) w4 w5) := kept_step rfl (by omega) hb5
  have hz5 : w4.heap.size ≤ w5.heap.size := by have := hb5.size; first | omega | (simp at this; omega)
  replace HR0 := Lib.hid (HR0.out.keep HK.out fun _ _ h => h.keep HK.out)
  replace HR1 := Lib.hid (HR1.out.keep HK.out fun _ _ h => h)
  replace HR2 := Lib.hid (HR2.out.keep HK.out fun _ _ h => h)
  replace HR3 := Lib.hid (HR3.out.keep HK.out fun _ _ h => h)
  obtain ⟨hc5, hf5⟩ := bcellB (hb5.mono (B' := w.heap.size + 3) (by first | omega | (simp; omega)))
  clear hb5 HK
  unfold vEnd
  go_wp2_with fail
  refine bodyPost_ret (v := .agg #[.slice B0 x.phis.length d0, .slice B1 x.head.length d1, .slice B2 x.body.length d2, .slice B3 x.tail.length d3, .int .i64 x.fin.k, .int .i64 x.fin.a, .int .i64 x.fin.t, .int .i64 x.fin.l]) (by simp [results, Try.results33, go_sem, hc5, hc4, hc3, hc2, hc1]) rfl ?_
  refine ⟨[.slice B0 x.phis.length d0, .slice B1 x.head.length d1, .slice B2 x.body.length d2, .slice B3 x.tail.length d3, .int .i64 x.fin.k, .int .i64 x.fin.a, .int .i64 x.fin.t, .int .i64 x.fin.l], rfl, ?_, ?_⟩
  · refine EBlock.keep (w := w5) (Z := Zn.new (w.heap.size + 3) w5.heap.size) ⟨_, _, _, _, rfl, HR0.out, HR1.out, HR2.out, HR3.out⟩ (Kept.new (by omega) (by simp) fun b hb _ => ?_)
    repeat (refine (Below.heap_setCell _ _ _ _ (by simp; omega)).trans ?_)
    with_reducible rfl
  repeat (refine Below.setCell ?_ (by first | (simp; done) | (simp; omega)) _)
  exact HB5.out


theorem info_Block : (Try.prog.info? 66).map (fun i => (i.zero, i.size, i.bytes)) = some (some (.agg #[.slice none 0 0, .slice none 0 0, .slice none 0 0, .slice none 0 0, .int .i64 0, .int .i64 0, .int .i64 0, .int .i64 0]), 8, 128) := by kernel_rfl

theorem EBlock.len {w : World} {Z : Zn} (p : BlockD) (cs : List Value) (h : EBlock w Z p cs) : cs.length = 8 := by
  obtain ⟨_, _, _, _, rfl, _⟩ := h
  rfl

set_option maxHeartbeats 1000000 in
theorem toBlockS_any (v : Value) (xs : List BlockD) (w : World) (Z : Zn) (hv : Row w Z 8 (EBlock w Z) v xs) (hD : ∀ b, Z.D b → b < w.heap.size) (hn : xs.length ≤ 1048576) (hm : ∀ p ∈ xs, smallBlock p) :
    Calls Try.prog 19 #[v] w (GivesV (fun w Z v => Row w Z 8 (EBlock w Z) v xs) w) := by
  obtain ⟨_, A, c, rfl, hx⟩ := hv
  obtain ⟨i0, hi, hz0, hz1, hz2⟩ := info_parts info_Block
  have hmk := fun W => run_make_rowN (P := Try.prog) 28 66 i0 _ Try.underlying28 hi hz0 .i64 .i64 xs.length xs.length (Nat.le_refl _) (by rw [hz2]; omega) (by omega) W
  rw [hz1] at hmk
  clear hi hz0 hz1 hz2
  go_enter Try.func19, Try.ntmps19
  go_wp2
  go_loopw [4] (fun i wr => ∃ k : Nat, k ≤ xs.length ∧ i = .int .i64 k ∧ Hid (Below w.heap.size w wr) ∧ w.heap.size < wr.heap.size ∧ Hid (Fill wr w.heap.size 66 8 xs.length k (EBlock wr (Zn.new (w.heap.size + 1) wr.heap.size)) xs)) (fun i _ => xs.length - (intOf i).toNat)
  case atStart => exact ⟨0, Nat.zero_le _, rfl, (Below.refl _ _).alloc (Nat.le_refl _) _, by simp, Fill.zero (heap_alloc_new w _) (size_madeCells _ _)⟩
  case round =>
    obtain ⟨k, hk, rfl, HB, hsz, HF⟩ := hrel
    by_cases hlt : k < xs.length
    · have hxk : xs[k]? = some xs[k] := List.getElem?_eq_getElem hlt
      have hmk := hm _ (List.getElem_mem hlt)
      generalize xs[k] = x at hxk hmk
      obtain ⟨b, off, rfl, hDb, hrow⟩ := hx (by rintro rfl; simp at hlt)
      obtain ⟨cs, hu, hcs⟩ := hrow k x hxk
      have HU := Lib.hid (hu.keep (Kept.below HB.out hD))
      obtain ⟨v0, v1, v2, v3, rfl, _⟩ := hu
      have hbl := hD b hDb
      have c0 : wr.cell? ⟨b, off + k * 8, none⟩ = some v0 := (HB.out.cell (p := ⟨b, _, none⟩) hbl).trans (hcs 0 _ rfl).1
      have c1 : wr.cell? ⟨b, off + k * 8 + 1, none⟩ = some v1 := (HB.out.cell (p := ⟨b, _, none⟩) hbl).trans (hcs 1 _ rfl).1
      have c2 : wr.cell? ⟨b, off + k * 8 + 2, none⟩ = some v2 := (HB.out.cell (p := ⟨b, _, none⟩) hbl).trans (hcs 2 _ rfl).1
      have c3 : wr.cell? ⟨b, off + k * 8 + 3, none⟩ = some v3 := (HB.out.cell (p := ⟨b, _, none⟩) hbl).trans (hcs 3 _ rfl).1
      have c4 : wr.cell? ⟨b, off + k * 8 + 4, none⟩ = some (.int .i64 x.fin.k) := (HB.out.cell (p := ⟨b, _, none⟩) hbl).trans (hcs 4 _ rfl).1
      have c5 : wr.cell? ⟨b, off + k * 8 + 5, none⟩ = some (.int .i64 x.fin.a) := (HB.out.cell (p := ⟨b, _, none⟩) hbl).trans (hcs 5 _ rfl).1
      have c6 : wr.cell? ⟨b, off + k * 8 + 6, none⟩ = some (.int .i64 x.fin.t) := (HB.out.cell (p := ⟨b, _, none⟩) hbl).trans (hcs 6 _ rfl).1
      have c7 : wr.cell? ⟨b, off + k * 8 + 7, none⟩ = some (.int .i64 x.fin.l) := (HB.out.cell (p := ⟨b, _, none⟩) hbl).trans (hcs 7 _ rfl).1
      have Hxk := Lib.hid hxk
      have Hm := Lib.hid hmk
      clear hcs hrow hx hxk hmk
      go_wp2_with fail
      refine (toBlock_any x _ wr Z HU.out (fun b hb => by have := hD b hb; have := HB.out.size; omega) Hm.out).mono ?_
      rintro e w1 ⟨cs, rfl, hr, hb1⟩
      have HR := Lib.hid hr
      obtain ⟨r0, r1, r2, r3, rfl, ⟨_, A0, c0, rfl, _⟩, ⟨_, A1, c1, rfl, _⟩, ⟨_, A2, c2, rfl, _⟩, ⟨_, A3, c3, rfl, _⟩⟩ := hr
      have hsz1 := hb1.size
      have HF1 : Hid (Fill w1 w.heap.size 66 8 xs.length k (EBlock w1 (Zn.new (w.heap.size + 1) w1.heap.size)) xs) := HF.out.keep (hb1.block _ hsz) fun _ _ h => h.keep (Kept.new (Nat.le_refl _) hsz1 fun b _ h2 => hb1.block b h2)
      obtain ⟨u0, d0⟩ := HF1.out.cell (j := 0) hlt (by omega)
      have f0 := HF1.out.frozen (k * 8)
      obtain ⟨u1, d1⟩ := HF1.out.cell (j := 1) hlt (by omega)
      have f1 := HF1.out.frozen (k * 8 + 1)
      obtain ⟨u2, d2⟩ := HF1.out.cell (j := 2) hlt (by omega)
      have f2 := HF1.out.frozen (k * 8 + 2)
      obtain ⟨u3, d3⟩ := HF1.out.cell (j := 3) hlt (by omega)
      have f3 := HF1.out.frozen (k * 8 + 3)
      obtain ⟨u4, d4⟩ := HF1.out.cell (j := 4) hlt (by omega)
      have f4 := HF1.out.frozen (k * 8 + 4)
      obtain ⟨u5, d5⟩ := HF1.out.cell (j := 5) hlt (by omega)
      have f5 := HF1.out.frozen (k * 8 + 5)
      obtain ⟨u6, d6⟩ := HF1.out.cell (j := 6) hlt (by omega)
      have f6 := HF1.out.frozen (k * 8 + 6)
      obtain ⟨u7, d7⟩ := HF1.out.cell (j := 7) hlt (by omega)
      have f7 := HF1.out.frozen (k * 8 + 7)
      rw [Nat.add_zero] at d0
      have HB1 : Hid (Below w.heap.size w w1) := HB.out.trans (hb1.mono (by omega))
      clear hb1 HB HF
      go_wp2_with fail
      go_roundw
      case rel =>
        refine ⟨k + 1, by omega, by go_num, (((((((HB1.out.setCell (by simp) _).setCell (by simp) _).setCell (by simp) _).setCell (by simp) _).setCell (by simp) _).setCell (by simp) _).setCell (by simp) _).setCell (by simp) _, by simp; omega, ?_⟩
        have hg := storeAll_grown [.slice A0 x.phis.length c0, .slice A1 x.head.length c1, .slice A2 x.body.length c2, .slice A3 x.tail.length c3, .int .i64 x.fin.k, .int .i64 x.fin.a, .int .i64 x.fin.t, .int .i64 x.fin.l] w1 w.heap.size (k * 8)
        have hK : ∀ lo, w.heap.size + 1 ≤ lo → Kept (Zn.new lo w1.heap.size) (Zn.new (w.heap.size + 1) w1.heap.size) w1 _ := fun lo hlo => Kept.new hlo (Nat.le_refl _) fun b h1 h2 => hg.block b h2 (by simp; omega)
        have h := HF1.out.store (cs := [.slice A0 x.phis.length c0, .slice A1 x.head.length c1, .slice A2 x.body.length c2, .slice A3 x.tail.length c3, .int .i64 x.fin.k, .int .i64 x.fin.a, .int .i64 x.fin.t, .int .i64 x.fin.l]) (E' := EBlock (storeAll w1 w.heap.size (k * 8) [.slice A0 x.phis.length c0, .slice A1 x.head.length c1, .slice A2 x.body.length c2, .slice A3 x.tail.length c3, .int .i64 x.fin.k, .int .i64 x.fin.a, .int .i64 x.fin.t, .int .i64 x.fin.l]) (Zn.new (w.heap.size + 1) w1.heap.size)) Hxk.out hlt (HR.out.keep (hK _ (by omega))) rfl (fun _ _ h => h.keep (hK _ (Nat.le_refl _))) (fun _ _ h => h.len)
        simpa [storeAll, Hid] using h
      case measure => simp [intOf]; omega
    · obtain rfl : k = xs.length := by omega
      go_wp2
      go_ret
      exact ⟨_, rfl, (HF.out.keep rfl fun _ _ h => h.keep (Kept.new (by omega) (Nat.le_refl _) fun _ _ _ => rfl)).row (Z := Zn.new _ _) rfl (by omega) ⟨Nat.le_refl _, hsz⟩ _, HB.out⟩

set_option maxHeartbeats 400000 in
theorem toFun_any (f : FunD) (v : Value) (w : World) (Z : Zn) (hv : EFun w Z f v) (hD : ∀ b, Z.D b → b < w.heap.size) (hn : smallFun f) :
    Calls Try.prog 7 #[v] w (GivesV (fun w Z v => EFun w Z f v) w) := by
  obtain ⟨u, rfl, hu⟩ := hv
  have HV := Lib.hid hu
  obtain ⟨_, A, c, rfl, _⟩ := hu
  go_enter Try.func7, Try.ntmps7
  go_wp2_with fail
  have hK1 : ∀ V : World, Below w.heap.size w V → Kept Z Z w V := fun V hb => Kept.below hb hD
  refine (toBlockS_any _ _ _ Z (HV.out.keep (hK1 _ (by repeat (first | exact Below.refl _ _ | refine Below.alloc ?_ (by first | (simp; done) | (simp; omega)) _ | refine Below.setCell ?_ (by simp) _))) fun _ _ h => h.keep (hK1 _ (by repeat (first | exact Below.refl _ _ | refine Below.alloc ?_ (by first | (simp; done) | (simp; omega)) _ | refine Below.setCell ?_ (by simp) _)))) (fun b hb => by have := hD b hb; simp; omega) hn.1 hn.2).mono ?_
  rintro e w1 ⟨r, rfl, hr, hb1⟩
  have HB1 : Hid (Below w.heap.size w w1) := Below.trans (by repeat (first | exact Below.refl _ _ | refine Below.alloc ?_ (by first | (simp; done) | (simp; omega)) _ | refine Below.setCell ?_ (by simp) _)) (hb1.mono (by simp; omega))
  have HR0 : Hid (Row w1 (Zn.new (w.heap.size + 3) w1.heap.size) 8 (EBlock w1 (Zn.new (w.heap.size + 3) w1.heap.size)) r f.blocks) := by simpa [Hid] using hr
  obtain ⟨_, B0, d0, rfl, _⟩ := hr
  obtain ⟨hc1, hf1⟩ := bcellB (hb1.mono (B' := w.heap.size + 3) (by simp))
  have hz1 : w.heap.size + 3 ≤ w1.heap.size := by have := hb1.size; simp at this; omega
  clear hb1
  go_wp2_with fail
  refine bodyPost_ret (v := .agg #[.int .i64 f.params, .int .i64 f.names, .slice B0 f.blocks.length d0]) (by simp [results, Try.results7, go_sem, hc1]) rfl ?_
  refine ⟨_, rfl, ?_, ?_⟩
  · refine EFun.keep (w := w1) (Z := Zn.new (w.heap.size + 3) w1.heap.size) ⟨_, rfl, HR0.out⟩ (Kept.new (by omega) (by simp) fun b hb _ => ?_)
    repeat (refine (Below.heap_setCell _ _ _ _ (by simp; omega)).trans ?_)
    with_reducible rfl
  repeat (refine Below.setCell ?_ (by first | (simp; done) | (simp; omega)) _)
  exact HB1.out

end Go.Proofs.Ytbghcoihndlihaa
