/- To3, Sz, MarkD, ObMore, Fl, joined. -/
import Derived.Test.YtnjmlhokkhkaaaaGreatQ1
import Derived.Test.YtnjmlhokkhkaaaaGreatQ4
import Derived.Test.YtnjmlhokkhkaaaaGreatQ6
import Derived.Test.YtnjmlhokkhkaaaaGreatQ10
import Derived.Deep.RegionHeld3
import Derived.Maps.AppendAt
namespace Go.Proofs.YtnjmlhokkhkaaaaGreat

/- toBlock, toBlockS and toFun of the laws. -/
section
open Go.ChangeShapes Go.WideShapes Go.ChangeAt Go.RowKit Go.Joins

theorem kept_step {lo g o : Nat} {u : Value} {w V w' : World} (hV : V = w.setCell ⟨g, o, none⟩ u) (hg : g < lo) (hb : Below V.heap.size V w') : Kept (Zn.new lo w.heap.size) (Zn.new lo w'.heap.size) w w' := by
  subst hV
  have hs := hb.size
  simp only [nblk_set] at hs
  refine Kept.new (Nat.le_refl _) hs fun b h1 h2 => ?_
  exact (hb.block b (by rw [nblk_set]; exact h2)).trans (Below.heap_setCell _ _ _ _ (by first | omega | (simp; done) | (simp; omega)))

def smallBlock (x : BlockD) : Prop := x.phis.length ≤ 1048576 ∧ (∀ p ∈ x.phis, smallPhi p) ∧ x.head.length ≤ 1048576 ∧ x.body.length ≤ 1048576 ∧ x.tail.length ≤ 1048576
def smallFun (f : FunD) : Prop := f.blocks.length ≤ 1048576 ∧ ∀ x ∈ f.blocks, smallBlock x

set_option maxHeartbeats 1000000 in
theorem toBlock_any (x : BlockD) (cs : List Value) (w : World) (Z : Zn) (hv : EBlock w Z x cs) (hD : ∀ b, Z.D b → b < w.heap.size) (hn : smallBlock x) :
    Calls Tryz.prog 75 #[.agg cs.toArray] w (GivesE (fun w Z cs => EBlock w Z x cs) w) := by
  obtain ⟨v0, v1, v2, v3, rfl, hv0, hv1, hv2, hv3⟩ := hv
  obtain ⟨hn0, hn1, hn2, hn3, hn4⟩ := hn
  have HV0 := Lib.hid hv0
  have HV1 := Lib.hid hv1
  have HV2 := Lib.hid hv2
  have HV3 := Lib.hid hv3
  have HN1 := Lib.hid hn1
  obtain ⟨_, A0, c0, rfl, _⟩ := hv0
  obtain ⟨_, A1, c1, rfl, _⟩ := hv1
  obtain ⟨_, A2, c2, rfl, _⟩ := hv2
  obtain ⟨_, A3, c3, rfl, _⟩ := hv3
  clear hn1
  go_enter Tryz.func75, Tryz.ntmps75
  go_wp2_with fail
  have hK1 : ∀ V : World, Below w.heap.size w V → Kept Z Z w V := fun V hb => Kept.below hb hD
  refine (toPhiS_any _ _ _ Z (HV0.out.keep (hK1 _ (by repeat (first | exact Below.refl _ _ | refine Below.alloc ?_ (by first | (simp; done) | (simp; omega)) _ | refine Below.setCell ?_ (by simp) _))) fun _ _ h => h.keep (hK1 _ (by repeat (first | exact Below.refl _ _ | refine Below.alloc ?_ (by first | (simp; done) | (simp; omega)) _ | refine Below.setCell ?_ (by simp) _)))) (fun b hb => by have := hD b hb; first | omega | (simp; omega)) hn0 HN1.out).mono ?_
  rintro e w1 ⟨r, rfl, hr, hb1⟩
  have HB1 : Hid (Below w.heap.size w w1) := Below.trans (by repeat (first | exact Below.refl _ _ | refine Below.alloc ?_ (by first | (simp; done) | (simp; omega)) _ | refine Below.setCell ?_ (by simp) _)) (hb1.mono (by first | omega | (simp; done) | (simp; omega)))
  have HR0 : Hid (Row w1 (Zn.new (w.heap.size + 3) w1.heap.size) 2 (EPhi w1 (Zn.new (w.heap.size + 3) w1.heap.size)) r x.phis) := by simpa [Hid] using hr
  obtain ⟨_, B0, d0, rfl, _⟩ := hr
  obtain ⟨hc1, hf1⟩ := bcellB (hb1.mono (B' := w.heap.size + 3) (by simp))
  have hz1 : w.heap.size + 3 ≤ w1.heap.size := by have := hb1.size; simp at this; omega
  clear hb1
  go_wp2_with fail
  refine (toMoveS_any _ _ _ Z (HV1.out.keep (hK1 _ (HB1.out.setCell (by first | omega | (simp; done) | (simp; omega)) _)) fun _ _ h => h) (fun b hb => by have := hD b hb; first | omega | (simp; omega)) hn2).mono ?_
  rintro e w2 ⟨r, rfl, hr, hb2⟩
  have HB2 : Hid (Below w.heap.size w w2) := (HB1.out.setCell (by first | omega | (simp; done) | (simp; omega)) _).trans (hb2.mono (by first | omega | (simp; done) | (simp; omega)))
  have HK : Hid (Kept (Zn.new (w.heap.size + 3) w1.heap.size) (Zn.new (w.heap.size + 3) w2.heap.size) w1 w2) := kept_step rfl (by omega) hb2
  have hz2 : w1.heap.size ≤ w2.heap.size := by have := hb2.size; first | omega | (simp at this; omega)
  replace HR0 := Lib.hid (HR0.out.keep HK.out fun _ _ h => h.keep HK.out)
  have HR1 : Hid (Row w2 (Zn.new (w.heap.size + 3) w2.heap.size) 2 EMove r x.head) := hr.keep (Kept.new (by first | omega | (simp; done) | (simp; omega)) (Nat.le_refl _) fun _ _ _ => rfl) fun _ _ h => h
  obtain ⟨_, B1, d1, rfl, _⟩ := hr
  obtain ⟨hc2, hf2⟩ := bcellB (hb2.mono (B' := w.heap.size + 3) (by first | omega | (simp; omega)))
  clear hb2 HK
  go_wp2_with fail
  refine (toInsS_any _ _ _ Z (HV2.out.keep (hK1 _ (HB2.out.setCell (by first | omega | (simp; done) | (simp; omega)) _)) fun _ _ h => h) (fun b hb => by have := hD b hb; first | omega | (simp; omega)) hn3).mono ?_
  rintro e w3 ⟨r, rfl, hr, hb3⟩
  have HB3 : Hid (Below w.heap.size w w3) := (HB2.out.setCell (by first | omega | (simp; done) | (simp; omega)) _).trans (hb3.mono (by first | omega | (simp; done) | (simp; omega)))
  have HK : Hid (Kept (Zn.new (w.heap.size + 3) w2.heap.size) (Zn.new (w.heap.size + 3) w3.heap.size) w2 w3) := kept_step rfl (by omega) hb3
  have hz3 : w2.heap.size ≤ w3.heap.size := by have := hb3.size; first | omega | (simp at this; omega)
  replace HR0 := Lib.hid (HR0.out.keep HK.out fun _ _ h => h.keep HK.out)
  replace HR1 := Lib.hid (HR1.out.keep HK.out fun _ _ h => h)
  have HR2 : Hid (Row w3 (Zn.new (w.heap.size + 3) w3.heap.size) 4 EIns r x.body) := hr.keep (Kept.new (by first | omega | (simp; done) | (simp; omega)) (Nat.le_refl _) fun _ _ _ => rfl) fun _ _ h => h
  obtain ⟨_, B2, d2, rfl, _⟩ := hr
  obtain ⟨hc3, hf3⟩ := bcellB (hb3.mono (B' := w.heap.size + 3) (by first | omega | (simp; omega)))
  clear hb3 HK
  go_wp2_with fail
  refine (toMoveS_any _ _ _ Z (HV3.out.keep (hK1 _ (HB3.out.setCell (by first | omega | (simp; done) | (simp; omega)) _)) fun _ _ h => h) (fun b hb => by have := hD b hb; first | omega | (simp; omega)) hn4).mono ?_
  rintro e w4 ⟨r, rfl, hr, hb4⟩
  have HB4 : Hid (Below w.heap.size w w4) := (HB3.out.setCell (by first | omega | (simp; done) | (simp; omega)) _).trans (hb4.mono (by first | omega | (simp; done) | (simp; omega)))
  have HK : Hid (Kept (Zn.new (w.heap.size + 3) w3.heap.size) (Zn.new (w.heap.size + 3) w4.heap.size) w3 w4) := kept_step rfl (by omega) hb4
  have hz4 : w3.heap.size ≤ w4.heap.size := by have := hb4.size; first | omega | (simp at this; omega)
  replace HR0 := Lib.hid (HR0.out.keep HK.out fun _ _ h => h.keep HK.out)
  replace HR1 := Lib.hid (HR1.out.keep HK.out fun _ _ h => h)
  replace HR2 := Lib.hid (HR2.out.keep HK.out fun _ _ h => h)
  have HR3 : Hid (Row w4 (Zn.new (w.heap.size + 3) w4.heap.size) 2 EMove r x.tail) := hr.keep (Kept.new (by first | omega | (simp; done) | (simp; omega)) (Nat.le_refl _) fun _ _ _ => rfl) fun _ _ h => h
  obtain ⟨_, B3, d3, rfl, _⟩ := hr
  obtain ⟨hc4, hf4⟩ := bcellB (hb4.mono (B' := w.heap.size + 3) (by first | omega | (simp; omega)))
  clear hb4 HK
  go_wp2_with fail
  refine (toEnd_any _ _ _ _ _).mono ?_
  rintro e w5 ⟨rfl, hb5⟩
  have HB5 : Hid (Below w.heap.size w w5) := (HB4.out.setCell (by first | omega | (simp; done) | (simp; omega)) _).trans (hb5.mono (by first | omega | (simp; done) | (simp; omega)))
  have HK : Hid (Kept (Zn.new (w.heap.size + 3) w4.heap.size) (Zn.new (w.heap.size + 3) w5.heap.size) w4 w5) := kept_step rfl (by omega) hb5
  have hz5 : w4.heap.size ≤ w5.heap.size := by have := hb5.size; first | omega | (simp at this; omega)
  replace HR0 := Lib.hid (HR0.out.keep HK.out fun _ _ h => h.keep HK.out)
  replace HR1 := Lib.hid (HR1.out.keep HK.out fun _ _ h => h)
  replace HR2 := Lib.hid (HR2.out.keep HK.out fun _ _ h => h)
  replace HR3 := Lib.hid (HR3.out.keep HK.out fun _ _ h => h)
  obtain ⟨hc5, hf5⟩ := bcellB (hb5.mono (B' := w.heap.size + 3) (by first | omega | (simp; omega)))
  clear hb5 HK
  unfold vEnd
  go_wp2_with fail
  refine bodyPost_ret (v := .agg #[.slice B0 x.phis.length d0, .slice B1 x.head.length d1, .slice B2 x.body.length d2, .slice B3 x.tail.length d3, .int .i64 x.fin.k, .int .i64 x.fin.a, .int .i64 x.fin.t, .int .i64 x.fin.l]) (by simp [results, Tryz.results75, go_sem, hc5, hc4, hc3, hc2, hc1]) rfl ?_
  refine ⟨[.slice B0 x.phis.length d0, .slice B1 x.head.length d1, .slice B2 x.body.length d2, .slice B3 x.tail.length d3, .int .i64 x.fin.k, .int .i64 x.fin.a, .int .i64 x.fin.t, .int .i64 x.fin.l], rfl, ?_, ?_⟩
  · refine EBlock.keep (w := w5) (Z := Zn.new (w.heap.size + 3) w5.heap.size) ⟨_, _, _, _, rfl, HR0.out, HR1.out, HR2.out, HR3.out⟩ (Kept.new (by omega) (by simp) fun b hb _ => ?_)
    repeat (refine (Below.heap_setCell _ _ _ _ (by simp; omega)).trans ?_)
    with_reducible rfl
  repeat (refine Below.setCell ?_ (by first | (simp; done) | (simp; omega)) _)
  exact HB5.out


theorem info_Block : (Tryz.prog.info? 69).map (fun i => (i.zero, i.size, i.bytes)) = some (some (.agg #[.slice none 0 0, .slice none 0 0, .slice none 0 0, .slice none 0 0, .int .i64 0, .int .i64 0, .int .i64 0, .int .i64 0]), 8, 128) := by kernel_rfl

theorem EBlock.len {w : World} {Z : Zn} (p : BlockD) (cs : List Value) (h : EBlock w Z p cs) : cs.length = 8 := by
  obtain ⟨_, _, _, _, rfl, _⟩ := h
  rfl

set_option maxHeartbeats 1000000 in
theorem toBlockS_any (v : Value) (xs : List BlockD) (w : World) (Z : Zn) (hv : Row w Z 8 (EBlock w Z) v xs) (hD : ∀ b, Z.D b → b < w.heap.size) (hn : xs.length ≤ 1048576) (hm : ∀ p ∈ xs, smallBlock p) :
    Calls Tryz.prog 47 #[v] w (GivesV (fun w Z v => Row w Z 8 (EBlock w Z) v xs) w) := by
  obtain ⟨_, A, c, rfl, hx⟩ := hv
  obtain ⟨i0, hi, hz0, hz1, hz2⟩ := info_parts info_Block
  have hmk := fun W => run_make_rowN (P := Tryz.prog) 24 69 i0 _ Tryz.underlying24 hi hz0 .i64 .i64 xs.length xs.length (Nat.le_refl _) (by rw [hz2]; omega) (by omega) W
  rw [hz1] at hmk
  clear hi hz0 hz1 hz2
  go_enter Tryz.func47, Tryz.ntmps47
  go_wp2
  go_loopw [4] (fun i wr => ∃ k : Nat, k ≤ xs.length ∧ i = .int .i64 k ∧ Hid (Below w.heap.size w wr) ∧ w.heap.size < wr.heap.size ∧ Hid (Fill wr w.heap.size 69 8 xs.length k (EBlock wr (Zn.new (w.heap.size + 1) wr.heap.size)) xs)) (fun i _ => xs.length - (intOf i).toNat)
  case atStart => exact ⟨0, Nat.zero_le _, rfl, (Below.refl _ _).alloc (Nat.le_refl _) _, by simp, Fill.zero (heap_alloc_new w _) (size_madeCells _ _)⟩
  case round =>
    obtain ⟨k, hk, rfl, HB, hsz, HF⟩ := hrel
    by_cases hlt : k < xs.length
    · have hxk : xs[k]? = some xs[k] := List.getElem?_eq_getElem hlt
      have hmk := hm _ (List.getElem_mem hlt)
      generalize xs[k] = x at hxk hmk
      obtain ⟨b, off, rfl, hDb, hrow⟩ := hx (by rintro rfl; simp at hlt)
      obtain ⟨cs, hu, hcs⟩ := hrow k x hxk
      have HU := Lib.hid (hu.keep (Kept.below HB.out hD))
      obtain ⟨v0, v1, v2, v3, rfl, _⟩ := hu
      have hbl := hD b hDb
      have c0 : wr.cell? ⟨b, off + k * 8, none⟩ = some v0 := (HB.out.cell (p := ⟨b, _, none⟩) hbl).trans (hcs 0 _ rfl).1
      have c1 : wr.cell? ⟨b, off + k * 8 + 1, none⟩ = some v1 := (HB.out.cell (p := ⟨b, _, none⟩) hbl).trans (hcs 1 _ rfl).1
      have c2 : wr.cell? ⟨b, off + k * 8 + 2, none⟩ = some v2 := (HB.out.cell (p := ⟨b, _, none⟩) hbl).trans (hcs 2 _ rfl).1
      have c3 : wr.cell? ⟨b, off + k * 8 + 3, none⟩ = some v3 := (HB.out.cell (p := ⟨b, _, none⟩) hbl).trans (hcs 3 _ rfl).1
      have c4 : wr.cell? ⟨b, off + k * 8 + 4, none⟩ = some (.int .i64 x.fin.k) := (HB.out.cell (p := ⟨b, _, none⟩) hbl).trans (hcs 4 _ rfl).1
      have c5 : wr.cell? ⟨b, off + k * 8 + 5, none⟩ = some (.int .i64 x.fin.a) := (HB.out.cell (p := ⟨b, _, none⟩) hbl).trans (hcs 5 _ rfl).1
      have c6 : wr.cell? ⟨b, off + k * 8 + 6, none⟩ = some (.int .i64 x.fin.t) := (HB.out.cell (p := ⟨b, _, none⟩) hbl).trans (hcs 6 _ rfl).1
      have c7 : wr.cell? ⟨b, off + k * 8 + 7, none⟩ = some (.int .i64 x.fin.l) := (HB.out.cell (p := ⟨b, _, none⟩) hbl).trans (hcs 7 _ rfl).1
      have Hxk := Lib.hid hxk
      have Hm := Lib.hid hmk
      clear hcs hrow hx hxk hmk
      go_wp2_with fail
      refine (toBlock_any x _ wr Z HU.out (fun b hb => by have := hD b hb; have := HB.out.size; omega) Hm.out).mono ?_
      rintro e w1 ⟨cs, rfl, hr, hb1⟩
      have HR := Lib.hid hr
      obtain ⟨r0, r1, r2, r3, rfl, ⟨_, A0, c0, rfl, _⟩, ⟨_, A1, c1, rfl, _⟩, ⟨_, A2, c2, rfl, _⟩, ⟨_, A3, c3, rfl, _⟩⟩ := hr
      have hsz1 := hb1.size
      have HF1 : Hid (Fill w1 w.heap.size 69 8 xs.length k (EBlock w1 (Zn.new (w.heap.size + 1) w1.heap.size)) xs) := HF.out.keep (hb1.block _ hsz) fun _ _ h => h.keep (Kept.new (Nat.le_refl _) hsz1 fun b _ h2 => hb1.block b h2)
      obtain ⟨u0, d0⟩ := HF1.out.cell (j := 0) hlt (by omega)
      have f0 := HF1.out.frozen (k * 8)
      obtain ⟨u1, d1⟩ := HF1.out.cell (j := 1) hlt (by omega)
      have f1 := HF1.out.frozen (k * 8 + 1)
      obtain ⟨u2, d2⟩ := HF1.out.cell (j := 2) hlt (by omega)
      have f2 := HF1.out.frozen (k * 8 + 2)
      obtain ⟨u3, d3⟩ := HF1.out.cell (j := 3) hlt (by omega)
      have f3 := HF1.out.frozen (k * 8 + 3)
      obtain ⟨u4, d4⟩ := HF1.out.cell (j := 4) hlt (by omega)
      have f4 := HF1.out.frozen (k * 8 + 4)
      obtain ⟨u5, d5⟩ := HF1.out.cell (j := 5) hlt (by omega)
      have f5 := HF1.out.frozen (k * 8 + 5)
      obtain ⟨u6, d6⟩ := HF1.out.cell (j := 6) hlt (by omega)
      have f6 := HF1.out.frozen (k * 8 + 6)
      obtain ⟨u7, d7⟩ := HF1.out.cell (j := 7) hlt (by omega)
      have f7 := HF1.out.frozen (k * 8 + 7)
      rw [Nat.add_zero] at d0
      have HB1 : Hid (Below w.heap.size w w1) := HB.out.trans (hb1.mono (by omega))
      clear hb1 HB HF
      go_wp2_with fail
      go_roundw
      case rel =>
        refine ⟨k + 1, by omega, by go_num, (((((((HB1.out.setCell (by simp) _).setCell (by simp) _).setCell (by simp) _).setCell (by simp) _).setCell (by simp) _).setCell (by simp) _).setCell (by simp) _).setCell (by simp) _, by simp; omega, ?_⟩
        have hg := storeAll_grown [.slice A0 x.phis.length c0, .slice A1 x.head.length c1, .slice A2 x.body.length c2, .slice A3 x.tail.length c3, .int .i64 x.fin.k, .int .i64 x.fin.a, .int .i64 x.fin.t, .int .i64 x.fin.l] w1 w.heap.size (k * 8)
        have hK : ∀ lo, w.heap.size + 1 ≤ lo → Kept (Zn.new lo w1.heap.size) (Zn.new (w.heap.size + 1) w1.heap.size) w1 _ := fun lo hlo => Kept.new hlo (Nat.le_refl _) fun b h1 h2 => hg.block b h2 (by simp; omega)
        have h := HF1.out.store (cs := [.slice A0 x.phis.length c0, .slice A1 x.head.length c1, .slice A2 x.body.length c2, .slice A3 x.tail.length c3, .int .i64 x.fin.k, .int .i64 x.fin.a, .int .i64 x.fin.t, .int .i64 x.fin.l]) (E' := EBlock (storeAll w1 w.heap.size (k * 8) [.slice A0 x.phis.length c0, .slice A1 x.head.length c1, .slice A2 x.body.length c2, .slice A3 x.tail.length c3, .int .i64 x.fin.k, .int .i64 x.fin.a, .int .i64 x.fin.t, .int .i64 x.fin.l]) (Zn.new (w.heap.size + 1) w1.heap.size)) Hxk.out hlt (HR.out.keep (hK _ (by omega))) rfl (fun _ _ h => h.keep (hK _ (Nat.le_refl _))) (fun _ _ h => h.len)
        simpa [storeAll, Hid] using h
      case measure => simp [intOf]; omega
    · obtain rfl : k = xs.length := by omega
      go_wp2
      go_ret
      exact ⟨_, rfl, (HF.out.keep rfl fun _ _ h => h.keep (Kept.new (by omega) (Nat.le_refl _) fun _ _ _ => rfl)).row (Z := Zn.new _ _) rfl (by omega) ⟨Nat.le_refl _, hsz⟩ _, HB.out⟩

set_option maxHeartbeats 400000 in
theorem toFun_any (f : FunD) (v : Value) (w : World) (Z : Zn) (hv : EFun w Z f v) (hD : ∀ b, Z.D b → b < w.heap.size) (hn : smallFun f) :
    Calls Tryz.prog 14 #[v] w (GivesV (fun w Z v => EFun w Z f v) w) := by
  obtain ⟨u, rfl, hu⟩ := hv
  have HV := Lib.hid hu
  obtain ⟨_, A, c, rfl, _⟩ := hu
  go_enter Tryz.func14, Tryz.ntmps14
  go_wp2_with fail
  have hK1 : ∀ V : World, Below w.heap.size w V → Kept Z Z w V := fun V hb => Kept.below hb hD
  refine (toBlockS_any _ _ _ Z (HV.out.keep (hK1 _ (by repeat (first | exact Below.refl _ _ | refine Below.alloc ?_ (by first | (simp; done) | (simp; omega)) _ | refine Below.setCell ?_ (by simp) _))) fun _ _ h => h.keep (hK1 _ (by repeat (first | exact Below.refl _ _ | refine Below.alloc ?_ (by first | (simp; done) | (simp; omega)) _ | refine Below.setCell ?_ (by simp) _)))) (fun b hb => by have := hD b hb; simp; omega) hn.1 hn.2).mono ?_
  rintro e w1 ⟨r, rfl, hr, hb1⟩
  have HB1 : Hid (Below w.heap.size w w1) := Below.trans (by repeat (first | exact Below.refl _ _ | refine Below.alloc ?_ (by first | (simp; done) | (simp; omega)) _ | refine Below.setCell ?_ (by simp) _)) (hb1.mono (by simp; omega))
  have HR0 : Hid (Row w1 (Zn.new (w.heap.size + 3) w1.heap.size) 8 (EBlock w1 (Zn.new (w.heap.size + 3) w1.heap.size)) r f.blocks) := by simpa [Hid] using hr
  obtain ⟨_, B0, d0, rfl, _⟩ := hr
  obtain ⟨hc1, hf1⟩ := bcellB (hb1.mono (B' := w.heap.size + 3) (by simp))
  have hz1 : w.heap.size + 3 ≤ w1.heap.size := by have := hb1.size; simp at this; omega
  clear hb1
  go_wp2_with fail
  refine bodyPost_ret (v := .agg #[.int .i64 f.params, .int .i64 f.names, .slice B0 f.blocks.length d0]) (by simp [results, Tryz.results14, go_sem, hc1]) rfl ?_
  refine ⟨_, rfl, ?_, ?_⟩
  · refine EFun.keep (w := w1) (Z := Zn.new (w.heap.size + 3) w1.heap.size) ⟨_, rfl, HR0.out⟩ (Kept.new (by omega) (by simp) fun b hb _ => ?_)
    repeat (refine (Below.heap_setCell _ _ _ _ (by simp; omega)).trans ?_)
    with_reducible rfl
  repeat (refine Below.setCell ?_ (by first | (simp; done) | (simp; omega)) _)
  exact HB1.out
end

/- szFun of the laws: what is left of a number when all that a function holds is taken off. -/
section
open Go.ChangeShapes Go.WideShapes Go.ChangeAt Go.RowKit Go.Joins

def leftI (left : Int) (n : Nat) : Int := if (n : Int) ≤ left then left - n else -1
theorem leftI_yes {left : Int} {n : Nat} (h : (n : Int) ≤ left) : leftI left n = left - n := if_pos h
theorem leftI_no {left : Int} {n : Nat} (h : ¬ (n : Int) ≤ left) : leftI left n = -1 := if_neg h
theorem leftI_le {left : Int} {n : Nat} (h : 0 ≤ left) : leftI left n ≤ left := by
  unfold leftI; split <;> omega
theorem leftI_add {left : Int} {a b : Nat} (h : 0 ≤ leftI left a) : leftI (leftI left a) b = leftI left (a + b) := by
  unfold leftI at h ⊢
  split at h
  · split <;> split <;> omega
  · omega
theorem leftI_more {left : Int} {a b : Nat} (h : leftI left a < 0) (hab : a ≤ b) : leftI left b = -1 := by
  unfold leftI at h ⊢
  split at h
  · omega
  · rw [if_neg (by omega)]
def pre {α : Type} (f : α → Nat) (xs : List α) (k : Nat) : Nat := ((xs.take k).map f).sum
theorem pre_zero {α : Type} (f : α → Nat) (xs : List α) : pre f xs 0 = 0 := rfl
theorem pre_succ {α : Type} (f : α → Nat) {xs : List α} {k : Nat} {x : α} (h : xs[k]? = some x) : pre f xs (k + 1) = pre f xs k + f x := by
  unfold pre
  rw [List.take_add_one, h]
  simp
theorem pre_all {α : Type} (f : α → Nat) (xs : List α) : pre f xs xs.length = (xs.map f).sum := by
  unfold pre; rw [List.take_length]
theorem sum_append_le (xs ys : List Nat) : xs.sum ≤ (xs ++ ys).sum := by simp
theorem pre_le {α : Type} (f : α → Nat) (xs : List α) (k : Nat) : pre f xs k ≤ (xs.map f).sum := by
  unfold pre
  conv => rhs; rw [← List.take_append_drop k xs, List.map_append]
  exact sum_append_le _ _
theorem mem_le_sum {α : Type} (f : α → Nat) : ∀ (xs : List α), ∀ x ∈ xs, f x ≤ (xs.map f).sum
  | [], _, h => by simp at h
  | y :: ys, x, h => by
    rw [List.map_cons, List.sum_cons]
    rcases List.mem_cons.1 h with rfl | h
    · omega
    · have := mem_le_sum f ys x h; omega

def szPhiN (p : PhiD) : Nat := p.args.length
def szPhisN (xs : List PhiD) : Nat := xs.length + (xs.map szPhiN).sum
def szBlockN (x : BlockD) : Nat := szPhisN x.phis + x.head.length + x.body.length + x.tail.length
def szFunN (f : FunD) : Nat := f.blocks.length + (f.blocks.map szBlockN).sum

theorem small_of_sz {f : FunD} (h : szFunN f ≤ 1048576) : smallFun f := by
  unfold szFunN at h
  refine ⟨by omega, fun x hx => ?_⟩
  have h1 := mem_le_sum szBlockN f.blocks x hx
  have e1 : szBlockN x = szPhisN x.phis + x.head.length + x.body.length + x.tail.length := rfl
  have e2 : szPhisN x.phis = x.phis.length + (x.phis.map szPhiN).sum := rfl
  refine ⟨by omega, fun p hp => ?_, by omega, by omega, by omega⟩
  have h2 := mem_le_sum szPhiN x.phis p hp
  have e3 : szPhiN p = p.args.length := rfl
  unfold smallPhi
  omega

set_option maxHeartbeats 400000 in
theorem szInt64S_any (A : Option Addr) (n c : Nat) (left : Int) (w : World) (hn : n ≤ 9223372036854775807) (h0 : 0 ≤ left) (h1 : left ≤ 1048576) :
    Calls Tryz.prog 150 #[.slice A n c, .int .i64 left] w fun e w' => e = .returned (.int .i64 (leftI left n)) ∧ w = w' := by
  by_cases h : (n : Int) ≤ left
  · have HE := Lib.hid (leftI_yes h)
    go_enter Tryz.func150, Tryz.ntmps150
    go_wp2
    go_ret
    exact ⟨by rw [HE.out]; rfl, rfl⟩
  · have HE := Lib.hid (leftI_no h)
    have h' : left - (n : Int) < 0 := by omega
    clear h
    go_enter Tryz.func150, Tryz.ntmps150
    go_wp2
    go_ret
    exact ⟨by rw [HE.out]; rfl, rfl⟩

set_option maxHeartbeats 400000 in
theorem szMoveS_any (A : Option Addr) (n c : Nat) (left : Int) (w : World) (hn : n ≤ 9223372036854775807) (h0 : 0 ≤ left) (h1 : left ≤ 1048576) :
    Calls Tryz.prog 103 #[.slice A n c, .int .i64 left] w fun e w' => e = .returned (.int .i64 (leftI left n)) ∧ w = w' := by
  by_cases h : (n : Int) ≤ left
  · have HE := Lib.hid (leftI_yes h)
    go_enter Tryz.func103, Tryz.ntmps103
    go_wp2
    go_ret
    exact ⟨by rw [HE.out]; rfl, rfl⟩
  · have HE := Lib.hid (leftI_no h)
    have h' : left - (n : Int) < 0 := by omega
    clear h
    go_enter Tryz.func103, Tryz.ntmps103
    go_wp2
    go_ret
    exact ⟨by rw [HE.out]; rfl, rfl⟩

set_option maxHeartbeats 400000 in
theorem szInsS_any (A : Option Addr) (n c : Nat) (left : Int) (w : World) (hn : n ≤ 9223372036854775807) (h0 : 0 ≤ left) (h1 : left ≤ 1048576) :
    Calls Tryz.prog 104 #[.slice A n c, .int .i64 left] w fun e w' => e = .returned (.int .i64 (leftI left n)) ∧ w = w' := by
  by_cases h : (n : Int) ≤ left
  · have HE := Lib.hid (leftI_yes h)
    go_enter Tryz.func104, Tryz.ntmps104
    go_wp2
    go_ret
    exact ⟨by rw [HE.out]; rfl, rfl⟩
  · have HE := Lib.hid (leftI_no h)
    have h' : left - (n : Int) < 0 := by omega
    clear h
    go_enter Tryz.func104, Tryz.ntmps104
    go_wp2
    go_ret
    exact ⟨by rw [HE.out]; rfl, rfl⟩

/-- The call answers this number, and old memory stays. -/
def GivesN (n : Int) (w : World) (e : Ending) (w' : World) : Prop := e = .returned (.int .i64 n) ∧ Below w.heap.size w w'

set_option maxHeartbeats 400000 in
theorem szPhi_any (a : Int) (A : Option Addr) (n c : Nat) (left : Int) (w : World) (hn : n ≤ 9223372036854775807) (h0 : 0 ≤ left) (h1 : left ≤ 1048576) :
    Calls Tryz.prog 130 #[.agg #[.int .i64 a, .slice A n c], .int .i64 left] w (GivesN (leftI left n) w) := by
  by_cases h : (n : Int) ≤ left
  · have HE := Lib.hid (leftI_yes h)
    have h' : 0 ≤ leftI left n := by rw [HE.out]; omega
    go_enter Tryz.func130, Tryz.ntmps130
    go_wp2_with (go_at_call 150; refine (szInt64S_any _ _ _ _ _ hn h0 h1).mono ?_; rintro e w' ⟨rfl, rfl⟩)
    go_ret
    exact ⟨rfl, (Below.refl _ _).alloc (Nat.le_refl _) _⟩
  · have HE := Lib.hid (leftI_no h)
    have h' : leftI left n < 0 := by rw [HE.out]; omega
    clear h
    go_enter Tryz.func130, Tryz.ntmps130
    go_wp2_with (go_at_call 150; refine (szInt64S_any _ _ _ _ _ hn h0 h1).mono ?_; rintro e w' ⟨rfl, rfl⟩)
    go_ret
    exact ⟨by rw [HE.out]; rfl, (Below.refl _ _).alloc (Nat.le_refl _) _⟩

set_option maxHeartbeats 1000000 in
theorem szPhiS_any (v : Value) (xs : List PhiD) (left : Int) (w : World) (Z : Zn) (hv : Row w Z 2 (EPhi w Z) v xs) (hD : ∀ b, Z.D b → b < w.heap.size) (h0 : 0 ≤ left) (h1 : left ≤ 1048576) :
    Calls Tryz.prog 102 #[v, .int .i64 left] w (GivesN (leftI left (xs.length + (xs.map szPhiN).sum)) w) := by
  obtain ⟨hle, A, c, rfl, hx⟩ := hv
  by_cases hl0 : (xs.length : Int) ≤ left
  · have hxe : leftI left (xs.length + pre szPhiN xs 0) = left - xs.length := by rw [pre_zero, Nat.add_zero, leftI_yes hl0]
    have HXE := Lib.hid hxe
    clear hxe
    go_enter Tryz.func102, Tryz.ntmps102
    go_wp2
    go_loopw [1, 5] (fun q i wr => ∃ k : Nat, k ≤ xs.length ∧ i = .int .i64 k ∧ q = .int .i64 (leftI left (xs.length + pre szPhiN xs k)) ∧ 0 ≤ leftI left (xs.length + pre szPhiN xs k) ∧ Hid (Below w.heap.size w wr)) (fun _ i _ => xs.length - (intOf i).toNat)
    case atStart => exact ⟨0, Nat.zero_le _, rfl, by rw [HXE.out], by rw [HXE.out]; omega, Below.refl _ _⟩
    case round =>
      obtain ⟨k, hk, rfl, rfl, hpos, HB⟩ := hrel
      have hub := Int.le_trans (leftI_le (n := xs.length + pre szPhiN xs k) h0) h1
      by_cases hlt : k < xs.length
      · have hxk : xs[k]? = some xs[k] := List.getElem?_eq_getElem hlt
        generalize xs[k] = x at hxk
        obtain ⟨b, off, rfl, hDb, hrow⟩ := hx (by rintro rfl; simp at hlt)
        obtain ⟨cs, hE, hcs⟩ := hrow k x hxk
        have hbl := hD b hDb
        obtain ⟨q, rfl, hq⟩ := hE
        obtain ⟨hle1, A1, c1, rfl, _⟩ := hq
        have c0 : wr.cell? ⟨b, off + k * 2, none⟩ = some (.int .i64 x.v) := (HB.out.cell (p := ⟨b, _, none⟩) hbl).trans (hcs 0 _ rfl).1
        have c1 : wr.cell? ⟨b, off + k * 2 + 1, none⟩ = some (.slice A1 x.args.length c1) := (HB.out.cell (p := ⟨b, _, none⟩) hbl).trans (hcs 1 _ rfl).1
        have hnext : leftI (leftI left (xs.length + pre szPhiN xs k)) (szPhiN x) = leftI left (xs.length + pre szPhiN xs (k + 1)) := by rw [leftI_add hpos, pre_succ szPhiN hxk, Nat.add_assoc]
        have HN := Lib.hid hnext
        have hall := pre_le szPhiN xs (k + 1)
        clear hcs hrow hx hxk hnext
        generalize hq : leftI left (xs.length + pre szPhiN xs k) = q at *
        clear hq
        by_cases hneg : 0 ≤ leftI left (xs.length + pre szPhiN xs (k + 1))
        · go_wp2_with fail
          refine (szPhi_any _ _ _ _ _ _ hle1 hpos hub).mono ?_
          rintro e w5 ⟨he, hb5⟩
          obtain rfl : e = .returned (.int .i64 (leftI q (szPhiN x))) := he
          rw [HN.out]
          have HB5 := Lib.hid (HB.out.trans (hb5.mono HB.out.size))
          clear hb5
          go_wp2_with fail
          go_roundw
          case rel => exact ⟨k + 1, by omega, by go_num, rfl, hneg, HB5.out⟩
          case measure => simp [intOf]; omega
        · have hneg' : leftI left (xs.length + pre szPhiN xs (k + 1)) < 0 := by omega
          have HE := Lib.hid (leftI_more (b := xs.length + (xs.map szPhiN).sum) hneg' (by omega))
          clear hneg
          go_wp2_with fail
          refine (szPhi_any _ _ _ _ _ _ hle1 hpos hub).mono ?_
          rintro e w5 ⟨he, hb5⟩
          obtain rfl : e = .returned (.int .i64 (leftI q (szPhiN x))) := he
          rw [HN.out]
          have HB5 := Lib.hid (HB.out.trans (hb5.mono HB.out.size))
          clear hb5
          go_wp2_with fail
          go_ret
          exact ⟨by rw [HE.out]; rfl, HB5.out⟩
      · obtain rfl : k = xs.length := by omega
        have HP := Lib.hid (pre_all szPhiN xs)
        go_wp2
        go_ret
        exact ⟨by rw [HP.out]; rfl, HB.out⟩
  · have HE := Lib.hid (leftI_more (left := left) (a := xs.length) (b := xs.length + (xs.map szPhiN).sum) (by rw [leftI_no hl0]; omega) (by omega))
    have h' : left - (xs.length : Int) < 0 := by omega
    clear hl0
    go_enter Tryz.func102, Tryz.ntmps102
    go_wp2
    go_ret
    exact ⟨by rw [HE.out]; rfl, Below.refl _ _⟩

theorem szBlock_end {left : Int} {a b : Nat} (h : leftI left a < 0) (hab : a ≤ b) : Ending.returned (.int .i64 (-1)) = .returned (.int .i64 (leftI left b)) := by rw [leftI_more h hab]

set_option maxHeartbeats 1000000 in
theorem szBlock_any (x : BlockD) (cs : List Value) (left : Int) (w : World) (Z : Zn) (hv : EBlock w Z x cs) (hD : ∀ b, Z.D b → b < w.heap.size) (h0 : 0 ≤ left) (h1 : left ≤ 1048576) :
    Calls Tryz.prog 74 #[.agg cs.toArray, .int .i64 left] w (GivesN (leftI left (szBlockN x)) w) := by
  obtain ⟨v0, v1, v2, v3, rfl, hv0, ⟨hl1, A1, c1, rfl, _⟩, ⟨hl2, A2, c2, rfl, _⟩, ⟨hl3, A3, c3, rfl, _⟩⟩ := hv
  have HV0 := Lib.hid hv0
  obtain ⟨_, A0, c0, rfl, _⟩ := hv0
  have HS : Hid (szBlockN x = szPhisN x.phis + x.head.length + x.body.length + x.tail.length) := rfl
  have HS0 : Hid (szPhisN x.phis = x.phis.length + (x.phis.map szPhiN).sum) := rfl
  go_enter Tryz.func74, Tryz.ntmps74
  go_wp2_with fail
  refine (szPhiS_any _ _ _ _ Z (HV0.out.keep (Kept.below ((Below.refl _ _).alloc (Nat.le_refl _) _) hD) fun _ _ h => h.keep (Kept.below ((Below.refl _ _).alloc (Nat.le_refl _) _) hD)) (fun b hb => by have := hD b hb; simp; omega) h0 h1).mono ?_
  rintro e w1 ⟨he, hb1⟩
  rw [← HS0.out] at he
  subst he
  have HB1 : Hid (Below w.heap.size w w1) := ((Below.refl _ _).alloc (Nat.le_refl _) _).trans (hb1.mono (by simp))
  obtain ⟨hc1, hf1⟩ := bcellB (hb1.mono (B' := w.heap.size + 1) (by simp))
  have hz1 : w.heap.size + 1 ≤ w1.heap.size := by have := hb1.size; simp at this; omega
  clear hb1 hf1
  by_cases g1 : 0 ≤ leftI left (szPhisN x.phis)
  case neg =>
    have g1' : leftI left (szPhisN x.phis) < 0 := by omega
    clear g1
    go_wp2_with fail
    go_ret
    exact ⟨szBlock_end g1' (by rw [HS.out]; omega), HB1.out⟩
  have u1 := Int.le_trans (leftI_le (n := szPhisN x.phis) h0) h1
  go_wp2_with fail
  refine (szMoveS_any _ _ _ _ _ hl1 g1 u1).mono ?_
  rintro e w' ⟨he, rfl⟩
  rw [leftI_add g1] at he
  subst he
  by_cases g2 : 0 ≤ leftI left (szPhisN x.phis + x.head.length)
  case neg =>
    have g' : leftI left (szPhisN x.phis + x.head.length) < 0 := by omega
    clear g2 g1 u1
    go_wp2_with fail
    go_ret
    exact ⟨szBlock_end g' (by rw [HS.out]; omega), HB1.out⟩
  have u2 := Int.le_trans (leftI_le (n := szPhisN x.phis + x.head.length) h0) h1
  clear g1 u1
  go_wp2_with fail
  refine (szInsS_any _ _ _ _ _ hl2 g2 u2).mono ?_
  rintro e w' ⟨he, rfl⟩
  rw [leftI_add g2] at he
  subst he
  by_cases g3 : 0 ≤ leftI left (szPhisN x.phis + x.head.length + x.body.length)
  case neg =>
    have g' : leftI left (szPhisN x.phis + x.head.length + x.body.length) < 0 := by omega
    clear g3 g2 u2
    go_wp2_with fail
    go_ret
    exact ⟨szBlock_end g' (by rw [HS.out]; omega), HB1.out⟩
  have u3 := Int.le_trans (leftI_le (n := szPhisN x.phis + x.head.length + x.body.length) h0) h1
  clear g2 u2
  go_wp2_with fail
  refine (szMoveS_any _ _ _ _ _ hl3 g3 u3).mono ?_
  rintro e w' ⟨he, rfl⟩
  rw [leftI_add g3] at he
  subst he
  by_cases g4 : 0 ≤ leftI left (szPhisN x.phis + x.head.length + x.body.length + x.tail.length)
  case neg =>
    have g' : leftI left (szPhisN x.phis + x.head.length + x.body.length + x.tail.length) < 0 := by omega
    clear g4 g3 u3
    go_wp2_with fail
    go_ret
    exact ⟨szBlock_end g' (by rw [HS.out]; omega), HB1.out⟩
  have u4 := Int.le_trans (leftI_le (n := szPhisN x.phis + x.head.length + x.body.length + x.tail.length) h0) h1
  clear g3 u3
  go_wp2_with fail
  go_ret
  exact ⟨by rw [HS.out]; rfl, HB1.out⟩

set_option maxHeartbeats 1000000 in
theorem szBlockS_any (v : Value) (xs : List BlockD) (left : Int) (w : World) (Z : Zn) (hv : Row w Z 8 (EBlock w Z) v xs) (hD : ∀ b, Z.D b → b < w.heap.size) (h0 : 0 ≤ left) (h1 : left ≤ 1048576) :
    Calls Tryz.prog 46 #[v, .int .i64 left] w (GivesN (leftI left (xs.length + (xs.map szBlockN).sum)) w) := by
  obtain ⟨hle, A, c, rfl, hx⟩ := hv
  by_cases hl0 : (xs.length : Int) ≤ left
  · have hxe : leftI left (xs.length + pre szBlockN xs 0) = left - xs.length := by rw [pre_zero, Nat.add_zero, leftI_yes hl0]
    have HXE := Lib.hid hxe
    clear hxe
    go_enter Tryz.func46, Tryz.ntmps46
    go_wp2
    go_loopw [1, 5] (fun q i wr => ∃ k : Nat, k ≤ xs.length ∧ i = .int .i64 k ∧ q = .int .i64 (leftI left (xs.length + pre szBlockN xs k)) ∧ 0 ≤ leftI left (xs.length + pre szBlockN xs k) ∧ Hid (Below w.heap.size w wr)) (fun _ i _ => xs.length - (intOf i).toNat)
    case atStart => exact ⟨0, Nat.zero_le _, rfl, by rw [HXE.out], by rw [HXE.out]; omega, Below.refl _ _⟩
    case round =>
      obtain ⟨k, hk, rfl, rfl, hpos, HB⟩ := hrel
      have hub := Int.le_trans (leftI_le (n := xs.length + pre szBlockN xs k) h0) h1
      by_cases hlt : k < xs.length
      · have hxk : xs[k]? = some xs[k] := List.getElem?_eq_getElem hlt
        generalize xs[k] = x at hxk
        obtain ⟨b, off, rfl, hDb, hrow⟩ := hx (by rintro rfl; simp at hlt)
        obtain ⟨cs, hE, hcs⟩ := hrow k x hxk
        have hbl := hD b hDb
        have HQ := Lib.hid (hE.keep (Kept.below HB.out hD))
        obtain ⟨_, _, _, _, rfl, ⟨_, A0, c0, rfl, _⟩, ⟨_, A1, c1, rfl, _⟩, ⟨_, A2, c2, rfl, _⟩, ⟨_, A3, c3, rfl, _⟩⟩ := hE
        have c0 : wr.cell? ⟨b, off + k * 8, none⟩ = some (.slice A0 x.phis.length c0) := (HB.out.cell (p := ⟨b, _, none⟩) hbl).trans (hcs 0 _ rfl).1
        have c1 : wr.cell? ⟨b, off + k * 8 + 1, none⟩ = some (.slice A1 x.head.length c1) := (HB.out.cell (p := ⟨b, _, none⟩) hbl).trans (hcs 1 _ rfl).1
        have c2 : wr.cell? ⟨b, off + k * 8 + 2, none⟩ = some (.slice A2 x.body.length c2) := (HB.out.cell (p := ⟨b, _, none⟩) hbl).trans (hcs 2 _ rfl).1
        have c3 : wr.cell? ⟨b, off + k * 8 + 3, none⟩ = some (.slice A3 x.tail.length c3) := (HB.out.cell (p := ⟨b, _, none⟩) hbl).trans (hcs 3 _ rfl).1
        have c4 : wr.cell? ⟨b, off + k * 8 + 4, none⟩ = some (.int .i64 x.fin.k) := (HB.out.cell (p := ⟨b, _, none⟩) hbl).trans (hcs 4 _ rfl).1
        have c5 : wr.cell? ⟨b, off + k * 8 + 5, none⟩ = some (.int .i64 x.fin.a) := (HB.out.cell (p := ⟨b, _, none⟩) hbl).trans (hcs 5 _ rfl).1
        have c6 : wr.cell? ⟨b, off + k * 8 + 6, none⟩ = some (.int .i64 x.fin.t) := (HB.out.cell (p := ⟨b, _, none⟩) hbl).trans (hcs 6 _ rfl).1
        have c7 : wr.cell? ⟨b, off + k * 8 + 7, none⟩ = some (.int .i64 x.fin.l) := (HB.out.cell (p := ⟨b, _, none⟩) hbl).trans (hcs 7 _ rfl).1
        have hnext : leftI (leftI left (xs.length + pre szBlockN xs k)) (szBlockN x) = leftI left (xs.length + pre szBlockN xs (k + 1)) := by rw [leftI_add hpos, pre_succ szBlockN hxk, Nat.add_assoc]
        have HN := Lib.hid hnext
        have hall := pre_le szBlockN xs (k + 1)
        clear hcs hrow hx hxk hnext
        generalize hq : leftI left (xs.length + pre szBlockN xs k) = q at *
        clear hq
        by_cases hneg : 0 ≤ leftI left (xs.length + pre szBlockN xs (k + 1))
        · go_wp2_with fail
          refine (szBlock_any x _ _ _ Z HQ.out (fun b hb => by have h1 := hD b hb; have h2 := HB.out.size; omega) hpos hub).mono ?_
          rintro e w5 ⟨he, hb5⟩
          obtain rfl : e = .returned (.int .i64 (leftI q (szBlockN x))) := he
          rw [HN.out]
          have HB5 := Lib.hid (HB.out.trans (hb5.mono HB.out.size))
          clear hb5
          go_wp2_with fail
          go_roundw
          case rel => exact ⟨k + 1, by omega, by go_num, rfl, hneg, HB5.out⟩
          case measure => simp [intOf]; omega
        · have hneg' : leftI left (xs.length + pre szBlockN xs (k + 1)) < 0 := by omega
          have HE := Lib.hid (leftI_more (b := xs.length + (xs.map szBlockN).sum) hneg' (by omega))
          clear hneg
          go_wp2_with fail
          refine (szBlock_any x _ _ _ Z HQ.out (fun b hb => by have h1 := hD b hb; have h2 := HB.out.size; omega) hpos hub).mono ?_
          rintro e w5 ⟨he, hb5⟩
          obtain rfl : e = .returned (.int .i64 (leftI q (szBlockN x))) := he
          rw [HN.out]
          have HB5 := Lib.hid (HB.out.trans (hb5.mono HB.out.size))
          clear hb5
          go_wp2_with fail
          go_ret
          exact ⟨by rw [HE.out]; rfl, HB5.out⟩
      · obtain rfl : k = xs.length := by omega
        have HP := Lib.hid (pre_all szBlockN xs)
        go_wp2
        go_ret
        exact ⟨by rw [HP.out]; rfl, HB.out⟩
  · have HE := Lib.hid (leftI_more (left := left) (a := xs.length) (b := xs.length + (xs.map szBlockN).sum) (by rw [leftI_no hl0]; omega) (by omega))
    have h' : left - (xs.length : Int) < 0 := by omega
    clear hl0
    go_enter Tryz.func46, Tryz.ntmps46
    go_wp2
    go_ret
    exact ⟨by rw [HE.out]; rfl, Below.refl _ _⟩

set_option maxHeartbeats 400000 in
theorem szFun_any (f : FunD) (v : Value) (left : Int) (w : World) (Z : Zn) (hv : EFun w Z f v) (hD : ∀ b, Z.D b → b < w.heap.size) (h0 : 0 ≤ left) (h1 : left ≤ 1048576) :
    Calls Tryz.prog 13 #[v, .int .i64 left] w (GivesN (leftI left (szFunN f)) w) := by
  obtain ⟨u, rfl, hu⟩ := hv
  have HV := Lib.hid hu
  obtain ⟨_, A, c, rfl, _⟩ := hu
  have HS : Hid (szFunN f = f.blocks.length + (f.blocks.map szBlockN).sum) := rfl
  go_enter Tryz.func13, Tryz.ntmps13
  go_wp2_with fail
  refine (szBlockS_any _ _ _ _ Z (HV.out.keep (Kept.below ((Below.refl _ _).alloc (Nat.le_refl _) _) hD) fun _ _ h => h.keep (Kept.below ((Below.refl _ _).alloc (Nat.le_refl _) _) hD)) (fun b hb => by have := hD b hb; simp; omega) h0 h1).mono ?_
  rintro e w1 ⟨he, hb1⟩
  rw [← HS.out] at he
  subst he
  have HB1 : Hid (Below w.heap.size w w1) := ((Below.refl _ _).alloc (Nat.le_refl _) _).trans (hb1.mono (by simp))
  clear hb1
  by_cases g1 : 0 ≤ leftI left (szFunN f)
  · go_wp2_with fail
    go_ret
    exact ⟨rfl, HB1.out⟩
  · have g1' : leftI left (szFunN f) < 0 := by omega
    clear g1
    go_wp2_with fail
    go_ret
    exact ⟨szBlock_end g1' (Nat.le_refl _), HB1.out⟩
end

/- What a call that writes numbers where numbers were leaves as it was. -/
section
open Go.ChangeShapes Go.WideShapes Go.ChangeAt Go.RowKit Go.Joins

def isI (u : Value) : Prop := ∃ x : Int, u = .int .i64 x

/-- Within the blocks D numbers may have been written where numbers were; all else is as it was. -/
structure Marked (D : Nat → Prop) (w w' : World) : Prop where
  os : w'.os = w.os
  tape : w'.tape = w.tape
  output : w'.output = w.output
  size : w.heap.size ≤ w'.heap.size
  far : ∀ b, b < w.heap.size → ¬ D b → w'.heap[b]? = w.heap[b]?
  num : ∀ b o u, D b → w.cell? ⟨b, o, none⟩ = some u → isI u → ∃ u', w'.cell? ⟨b, o, none⟩ = some u' ∧ isI u'
  same : ∀ b o u, D b → w.cell? ⟨b, o, none⟩ = some u → ¬ isI u → w'.cell? ⟨b, o, none⟩ = some u
  frozen : ∀ b o, D b → b < w.heap.size → w'.frozen? ⟨b, o, none⟩ = w.frozen? ⟨b, o, none⟩

theorem lt_of_cell {w : World} {b o : Nat} {u : Value} (h : w.cell? ⟨b, o, none⟩ = some u) : b < w.heap.size := World.block_lt_of_cell? w ⟨b, o, none⟩ h

theorem Marked.refl (D : Nat → Prop) (w : World) : Marked D w w := ⟨rfl, rfl, rfl, Nat.le_refl _, fun _ _ _ => rfl, fun _ _ u _ h hi => ⟨u, h, hi⟩, fun _ _ _ _ h _ => h, fun _ _ _ _ => rfl⟩
theorem Marked.trans {D : Nat → Prop} {a b c : World} (h : Marked D a b) (k : Marked D b c) : Marked D a c := by
  refine ⟨k.os.trans h.os, k.tape.trans h.tape, k.output.trans h.output, Nat.le_trans h.size k.size, fun i hi hn => (k.far i (Nat.lt_of_lt_of_le hi h.size) hn).trans (h.far i hi hn), fun i o u hD hu hi => ?_, fun i o u hD hu hi => ?_, fun i o hD hi => (k.frozen i o hD (Nat.lt_of_lt_of_le hi h.size)).trans (h.frozen i o hD hi)⟩
  · obtain ⟨u', hu', hi'⟩ := h.num i o u hD hu hi
    exact k.num i o u' hD hu' hi'
  · exact k.same i o u hD (h.same i o u hD hu hi) hi
theorem Marked.below {D : Nat → Prop} {w w' : World} (hb : Below w.heap.size w w') : Marked D w w' :=
  ⟨hb.os, hb.tape, hb.output, hb.size, fun b h _ => hb.block b h, fun b o u _ hu hi => ⟨u, (hb.cell (p := ⟨b, o, none⟩) (lt_of_cell hu)).trans hu, hi⟩, fun b o _ _ hu _ => (hb.cell (p := ⟨b, o, none⟩) (lt_of_cell hu)).trans hu, fun b o _ h => hb.frozen (p := ⟨b, o, none⟩) h⟩
theorem Marked.set {D : Nat → Prop} {w : World} {b o : Nat} {u : Value} (hD : D b) (hu : w.cell? ⟨b, o, none⟩ = some u) (hi : isI u) (x : Int) : Marked D w (w.setCell ⟨b, o, none⟩ (.int .i64 x)) := by
  have hg := set_grown w b o (.int .i64 x)
  refine ⟨hg.os, hg.tape, hg.output, hg.size, fun i h hn => hg.block i h (fun e => hn (by injection e with e; rw [e]; exact hD)), fun i o' u' _ hu' hi' => ?_, fun i o' u' _ hu' hn => ?_, fun i o' _ _ => World.frozen?_setCell w _ _ _⟩
  · by_cases e : (⟨b, o, none⟩ : Addr) = ⟨i, o', none⟩
    · rw [← e]
      exact ⟨_, World.cell?_setCell_same w _ _ hu, x, rfl⟩
    · exact ⟨u', by rw [World.cell?_setCell_other _ _ _ _ (by first | exact e | exact Ne.symm e)]; exact hu', hi'⟩
  · by_cases e : (⟨b, o, none⟩ : Addr) = ⟨i, o', none⟩
    · rw [← e, hu] at hu'
      injection hu' with hu'
      subst hu'
      exact absurd hi hn
    · rw [World.cell?_setCell_other _ _ _ _ (by first | exact e | exact Ne.symm e)]; exact hu'

/-- A number lies there, and may be written. -/
def SInt (w : World) (b o : Nat) : Prop := (∃ x : Int, w.cell? ⟨b, o, none⟩ = some (.int .i64 x)) ∧ w.frozen? ⟨b, o, none⟩ = false
/-- n records of S numbers each. -/
def SFlat (D : Nat → Prop) (w : World) (S : Nat) (v : Value) (n : Nat) : Prop :=
  n ≤ 9223372036854775807 ∧ ∃ A c, v = .slice A n c ∧ (0 < n → ∃ b off, A = some ⟨b, off, none⟩ ∧ D b ∧ ∀ k j, k < n → j < S → SInt w b (off + k * S + j))
def SPhis (D : Nat → Prop) (w : World) (v : Value) (ns : List Nat) : Prop :=
  ns.length ≤ 9223372036854775807 ∧ ∃ A c, v = .slice A ns.length c ∧ (0 < ns.length → ∃ b off, A = some ⟨b, off, none⟩ ∧ D b ∧ ∀ (k : Nat) n, ns[k]? = some n → SInt w b (off + k * 2) ∧ ∃ u, w.cell? ⟨b, off + k * 2 + 1, none⟩ = some u ∧ SFlat D w 1 u n)
structure BShape where
  phis : List Nat
  head : Nat
  body : Nat
  tail : Nat
def SBlocks (D : Nat → Prop) (w : World) (v : Value) (ss : List BShape) : Prop :=
  ss.length ≤ 9223372036854775807 ∧ ∃ A c, v = .slice A ss.length c ∧ (0 < ss.length → ∃ b off, A = some ⟨b, off, none⟩ ∧ D b ∧ ∀ (k : Nat) s, ss[k]? = some s → ∃ u0 u1 u2 u3, w.cell? ⟨b, off + k * 8, none⟩ = some u0 ∧ w.cell? ⟨b, off + k * 8 + 1, none⟩ = some u1 ∧ w.cell? ⟨b, off + k * 8 + 2, none⟩ = some u2 ∧ w.cell? ⟨b, off + k * 8 + 3, none⟩ = some u3 ∧
    SPhis D w u0 s.phis ∧ SFlat D w 2 u1 s.head ∧ SFlat D w 4 u2 s.body ∧ SFlat D w 2 u3 s.tail ∧ SInt w b (off + k * 8 + 4) ∧ SInt w b (off + k * 8 + 5) ∧ SInt w b (off + k * 8 + 6) ∧ SInt w b (off + k * 8 + 7))

theorem not_isI_slice {A : Option Addr} {n c : Nat} : ¬ isI (.slice A n c) := fun ⟨_, h⟩ => by cases h
theorem SInt.marked {D : Nat → Prop} {w w' : World} {b o : Nat} (h : SInt w b o) (hD : D b) (hm : Marked D w w') : SInt w' b o := by
  obtain ⟨⟨x, hx⟩, hf⟩ := h
  obtain ⟨u', hu', y, rfl⟩ := hm.num b o _ hD hx ⟨x, rfl⟩
  exact ⟨⟨y, hu'⟩, (hm.frozen b o hD (lt_of_cell hx)).trans hf⟩
theorem SFlat.marked {D : Nat → Prop} {w w' : World} {S n : Nat} {v : Value} (h : SFlat D w S v n) (hm : Marked D w w') : SFlat D w' S v n := by
  obtain ⟨h1, A, c, rfl, h2⟩ := h
  refine ⟨h1, A, c, rfl, fun hn => ?_⟩
  obtain ⟨b, off, rfl, hD, h3⟩ := h2 hn
  exact ⟨b, off, rfl, hD, fun k j hk hj => (h3 k j hk hj).marked hD hm⟩
theorem SFlat.form {D : Nat → Prop} {w : World} {S n : Nat} {v : Value} (h : SFlat D w S v n) : ¬ isI v := by
  obtain ⟨_, A, c, rfl, _⟩ := h
  exact not_isI_slice
theorem SPhis.form {D : Nat → Prop} {w : World} {ns : List Nat} {v : Value} (h : SPhis D w v ns) : ¬ isI v := by
  obtain ⟨_, A, c, rfl, _⟩ := h
  exact not_isI_slice
theorem SPhis.marked {D : Nat → Prop} {w w' : World} {ns : List Nat} {v : Value} (h : SPhis D w v ns) (hm : Marked D w w') : SPhis D w' v ns := by
  obtain ⟨h1, A, c, rfl, h2⟩ := h
  refine ⟨h1, A, c, rfl, fun hn => ?_⟩
  obtain ⟨b, off, rfl, hD, h3⟩ := h2 hn
  refine ⟨b, off, rfl, hD, fun k n hk => ?_⟩
  obtain ⟨h4, u, hu, h5⟩ := h3 k n hk
  exact ⟨h4.marked hD hm, u, hm.same _ _ _ hD hu h5.form, h5.marked hm⟩
theorem SBlocks.marked {D : Nat → Prop} {w w' : World} {ss : List BShape} {v : Value} (h : SBlocks D w v ss) (hm : Marked D w w') : SBlocks D w' v ss := by
  obtain ⟨h1, A, c, rfl, h2⟩ := h
  refine ⟨h1, A, c, rfl, fun hn => ?_⟩
  obtain ⟨b, off, rfl, hD, h3⟩ := h2 hn
  refine ⟨b, off, rfl, hD, fun k s hk => ?_⟩
  obtain ⟨u0, u1, u2, u3, c0, c1, c2, c3, s0, s1, s2, s3, i0, i1, i2, i3⟩ := h3 k s hk
  exact ⟨u0, u1, u2, u3, hm.same _ _ _ hD c0 s0.form, hm.same _ _ _ hD c1 s1.form, hm.same _ _ _ hD c2 s2.form, hm.same _ _ _ hD c3 s3.form, s0.marked hm, s1.marked hm, s2.marked hm, s3.marked hm, i0.marked hD hm, i1.marked hD hm, i2.marked hD hm, i3.marked hD hm⟩

def phisS (l : List PhiD) : List Nat := l.map fun p => p.args.length
def blockS (x : BlockD) : BShape := ⟨phisS x.phis, x.head.length, x.body.length, x.tail.length⟩
theorem At.sint {w : World} {Z : Zn} {b o : Nat} {x : Int} (h : At w Z b o (.int .i64 x)) (ho : Z.own = true) : SInt w b o := ⟨⟨x, h.1⟩, h.2 ho⟩

theorem Row.sflat {α : Type} {w : World} {Z : Zn} {S : Nat} {E : α → List Value → Prop} {v : Value} {xs : List α} (h : Row w Z S E v xs) (ho : Z.own = true) (hE : ∀ x cs, E x cs → ∀ j, j < S → ∃ y : Int, cs[j]? = some (.int .i64 y)) : SFlat Z.D w S v xs.length := by
  obtain ⟨h1, A, c, rfl, h2⟩ := h
  refine ⟨h1, A, c, rfl, fun hn => ?_⟩
  obtain ⟨b, off, rfl, hD, h3⟩ := h2 (List.length_pos_iff.1 hn)
  refine ⟨b, off, rfl, hD, fun k j hk hj => ?_⟩
  obtain ⟨cs, hcs, h4⟩ := h3 k _ (List.getElem?_eq_getElem hk)
  obtain ⟨y, hy⟩ := hE _ cs hcs j hj
  exact (h4 j _ hy).sint ho
theorem Row.sints {w : World} {Z : Zn} {v : Value} {xs : List Int} (h : Row w Z 1 EInt v xs) (ho : Z.own = true) : SFlat Z.D w 1 v xs.length :=
  h.sflat ho fun x cs hcs j hj => by
    subst hcs
    obtain rfl : j = 0 := by omega
    exact ⟨_, rfl⟩
theorem Row.smoves {w : World} {Z : Zn} {v : Value} {xs : List MoveD} (h : Row w Z 2 EMove v xs) (ho : Z.own = true) : SFlat Z.D w 2 v xs.length :=
  h.sflat ho fun x cs hcs j hj => by
    subst hcs
    match j, hj with
    | 0, _ => exact ⟨_, rfl⟩
    | 1, _ => exact ⟨_, rfl⟩
theorem Row.sinss {w : World} {Z : Zn} {v : Value} {xs : List InsD} (h : Row w Z 4 EIns v xs) (ho : Z.own = true) : SFlat Z.D w 4 v xs.length :=
  h.sflat ho fun x cs hcs j hj => by
    subst hcs
    match j, hj with
    | 0, _ => exact ⟨_, rfl⟩
    | 1, _ => exact ⟨_, rfl⟩
    | 2, _ => exact ⟨_, rfl⟩
    | 3, _ => exact ⟨_, rfl⟩
theorem Row.sphis {w : World} {Z : Zn} {v : Value} {xs : List PhiD} (h : Row w Z 2 (EPhi w Z) v xs) (ho : Z.own = true) : SPhis Z.D w v (phisS xs) := by
  have hl : (phisS xs).length = xs.length := by simp [phisS]
  obtain ⟨h1, A, c, rfl, h2⟩ := h
  refine ⟨by rw [hl]; exact h1, A, c, by rw [hl], fun hn => ?_⟩
  obtain ⟨b, off, rfl, hD, h3⟩ := h2 (List.length_pos_iff.1 (by omega))
  refine ⟨b, off, rfl, hD, fun k n hk => ?_⟩
  have hk' : k < xs.length := by
    have := (List.getElem?_eq_some_iff.1 hk).1
    omega
  have hxk : xs[k]? = some xs[k] := List.getElem?_eq_getElem hk'
  obtain ⟨cs, ⟨u, rfl, hu⟩, h4⟩ := h3 k _ hxk
  have hn : n = xs[k].args.length := by
    unfold phisS at hk
    rw [List.getElem?_map, hxk] at hk
    simpa using hk.symm
  subst hn
  exact ⟨(h4 0 _ rfl).sint ho, u, (h4 1 _ rfl).1, hu.sints ho⟩
theorem EFun.sblocks {w : World} {Z : Zn} {f : FunD} {a b u : Value} (h : EFun w Z f (.agg #[a, b, u])) (ho : Z.own = true) : SBlocks Z.D w u (f.blocks.map blockS) := by
  obtain ⟨u', he, h⟩ := h
  injection he with he
  have : u = u' := by
    have := congrArg (fun l : Array Value => l[2]?) he
    simpa using this
  subst this
  have hl : (f.blocks.map blockS).length = f.blocks.length := by simp
  obtain ⟨h1, A, c, rfl, h2⟩ := h
  refine ⟨by rw [hl]; exact h1, A, c, by rw [hl], fun hn => ?_⟩
  obtain ⟨b, off, rfl, hD, h3⟩ := h2 (List.length_pos_iff.1 (by omega))
  refine ⟨b, off, rfl, hD, fun k s hk => ?_⟩
  have hk' : k < f.blocks.length := by
    have := (List.getElem?_eq_some_iff.1 hk).1
    omega
  have hxk : f.blocks[k]? = some f.blocks[k] := List.getElem?_eq_getElem hk'
  obtain ⟨cs, ⟨v0, v1, v2, v3, rfl, r0, r1, r2, r3⟩, h4⟩ := h3 k _ hxk
  have hs : s = blockS f.blocks[k] := by
    rw [List.getElem?_map, hxk] at hk
    simpa using hk.symm
  subst hs
  exact ⟨v0, v1, v2, v3, (h4 0 _ rfl).1, (h4 1 _ rfl).1, (h4 2 _ rfl).1, (h4 3 _ rfl).1, r0.sphis ho, r1.smoves ho, r2.sinss ho, r3.smoves ho, (h4 4 _ rfl).sint ho, (h4 5 _ rfl).sint ho, (h4 6 _ rfl).sint ho, (h4 7 _ rfl).sint ho⟩
end

/- Rows of bools of the call's own, kept. -/
section
open Go.ChangeShapes Go.WideShapes Go.ChangeAt Go.RowKit Go.Joins

theorem OB.below {w w' : World} {B B' : Nat} {v : Value} {xs : List Bool} (h : OB w B v xs) (hb : Below B' w w') (hB : ∀ k, v.ownBlock = some k → k < B') : OB w' B v xs := by
  obtain ⟨h1, h2⟩ := h
  refine ⟨h1, ?_⟩
  rcases h2 with h2 | ⟨g, cap, cur, rfl, hg, hh, r⟩
  · exact .inl h2
  · exact .inr ⟨g, cap, cur, rfl, hg, (hb.block g (hB g rfl)).trans hh, r⟩
theorem OB.grown {w w' : World} {B : Nat} {v : Value} {xs : List Bool} (h : OB w B v xs) {row : Option Nat} (hg : w.grownBy w' row) (hne : v.ownBlock = none ∨ v.ownBlock ≠ row) : OB w' B v xs := World.ownsRow.kept h hg hne
theorem OB.drewN {w : World} {B : Nat} {v : Value} {xs : List Bool} (h : OB w B v xs) (n : Nat) : OB (w.drewN n) B v xs := h
theorem OB.marked {D : Nat → Prop} {w w' : World} {B : Nat} {v : Value} {xs : List Bool} (h : OB w B v xs) (hm : Marked D w w') (hn : ∀ k, v.ownBlock = some k → ¬ D k) : OB w' B v xs := by
  have hlt := h.lt
  obtain ⟨h1, h2⟩ := h
  refine ⟨h1, ?_⟩
  rcases h2 with h2 | ⟨g, cap, cur, rfl, hg, hh, r⟩
  · exact .inl h2
  · exact .inr ⟨g, cap, cur, rfl, hg, (hm.far g (hlt g rfl).2 (hn g rfl)).trans hh, r⟩
end

/- The cells of pairs. -/
section
open Go.ChangeShapes Go.WideShapes Go.ChangeAt Go.RowKit Go.Joins

/-- The cells of edges (dst: From; src: To). -/
def fl (es : List MoveD) : List Value := es.flatMap fun e => [iv e.dst, iv e.src]
theorem fl_nil : fl [] = [] := rfl
theorem fl_cons (e : MoveD) (es : List MoveD) : fl (e :: es) = iv e.dst :: iv e.src :: fl es := rfl
theorem fl_append (a b : List MoveD) : fl (a ++ b) = fl a ++ fl b := by simp [fl, List.flatMap_append]
theorem fl_len : ∀ (es : List MoveD), (fl es).length = es.length * 2
  | [] => rfl
  | e :: es => by rw [fl_cons]; simp [fl_len es]; omega
theorem fl_get : ∀ {es : List MoveD} {k : Nat} {e : MoveD}, es[k]? = some e → (fl es)[k * 2]? = some (iv e.dst) ∧ (fl es)[k * 2 + 1]? = some (iv e.src)
  | [], k, e, h => by simp at h
  | a :: es, 0, e, h => by
    simp at h
    subst h
    exact ⟨rfl, rfl⟩
  | a :: es, k + 1, e, h => by
    have := fl_get (es := es) (k := k) (e := e) (by simpa using h)
    rw [fl_cons, show (k + 1) * 2 = k * 2 + 1 + 1 by omega]
    simpa using this

/-- Edges that are numbered on from k. -/
def markE (k : Int) (n : Nat) : List MoveD := (List.range n).map fun (i : Nat) => ⟨k + ((i * 2 : Nat) : Int), k + ((i * 2 : Nat) : Int) + 1⟩
theorem markE_length (k : Int) (n : Nat) : (markE k n).length = n := by simp [markE]
theorem markE_get (k : Int) {n j : Nat} (h : j < n) : (markE k n)[j]? = some ⟨k + ((j * 2 : Nat) : Int), k + ((j * 2 : Nat) : Int) + 1⟩ := by simp [markE, h]
theorem markE_zero (k : Int) : markE k 0 = [] := rfl
theorem markE_succ (k : Int) (j : Nat) : markE k (j + 1) = markE k j ++ [⟨k + ((j * 2 : Nat) : Int), k + ((j * 2 : Nat) : Int) + 1⟩] := by simp [markE, List.range_succ]
theorem set_two {α : Type} (A R : List α) (x y u v : α) (j : Nat) (h : A.length = j) : ((A ++ x :: y :: R).set j u).set (j + 1) v = A ++ u :: v :: R := by
  subst h
  rw [List.set_append_right _ _ (Nat.le_refl _), Nat.sub_self, List.set_cons_zero, List.set_append_right _ _ (by omega), show A.length + 1 - A.length = 1 by omega]
  rfl
theorem set_stepE (k : Int) (es : List MoveD) {j : Nat} (h : j < es.length) :
    ((fl (markE k j ++ es.drop j)).set (j * 2) (iv (k + ((j * 2 : Nat) : Int)))).set (j * 2 + 1) (iv (k + ((j * 2 : Nat) : Int) + 1)) = fl (markE k (j + 1) ++ es.drop (j + 1)) := by
  rw [List.drop_eq_getElem_cons h, fl_append, fl_cons, set_two _ _ _ _ _ _ _ (by rw [fl_len, markE_length]), markE_succ, fl_append, fl_append, List.append_assoc]
  rfl
end

end Go.Proofs.YtnjmlhokkhkaaaaGreat
