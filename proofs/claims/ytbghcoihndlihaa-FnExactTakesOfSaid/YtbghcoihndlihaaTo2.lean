/- toPhi and toPhiS of the laws. -/
import Derived.Test.YtbghcoihndlihaaTo1
namespace Go.Proofs.Ytbghcoihndlihaa
open Go.ChangeShapes Go.WideShapes Go.ChangeAt Go.RowKit Go.Joins

def GivesE (R : World → Zn → List Value → Prop) (w : World) (e : Ending) (w' : World) : Prop := ∃ cs, e = .returned (.agg cs.toArray) ∧ R w' (Zn.new w.heap.size w'.heap.size) cs ∧ Below w.heap.size w w'

theorem Zn.new_mono {lo lo' hi hi' : Nat} (h1 : lo' ≤ lo) (h2 : hi ≤ hi') : ∀ b, (Zn.new lo hi).D b → (Zn.new lo' hi').D b := fun _ h => ⟨Nat.le_trans h1 h.1, Nat.lt_of_lt_of_le h.2 h2⟩
theorem Kept.new {lo lo' hi hi' : Nat} {w w' : World} (h1 : lo' ≤ lo) (h2 : hi ≤ hi') (hw : ∀ b, lo ≤ b → b < hi → w'.heap[b]? = w.heap[b]?) : Kept (Zn.new lo hi) (Zn.new lo' hi') w w' :=
  ⟨Zn.new_mono h1 h2, fun h => h, fun b h => hw b h.1 h.2⟩

set_option maxHeartbeats 400000 in
theorem toPhi_any (a : Int) (u : Value) (xs : List Int) (w : World) (Z : Zn) (hv : Row w Z 1 EInt u xs) (hD : ∀ b, Z.D b → b < w.heap.size) (hn : xs.length ≤ 1048576) :
    Calls Try.prog 80 #[.agg #[.int .i64 a, u]] w (GivesE (fun w Z cs => EPhi w Z ⟨a, xs⟩ cs) w) := by
  have HV := Lib.hid hv
  obtain ⟨_, A, c, rfl, _⟩ := hv
  go_enter Try.func80, Try.ntmps80
  go_wp2_with fail
  refine (toInt64S_any _ _ _ Z (HV.out.keep (Kept.below (B := w.heap.size) (by repeat (first | exact Below.refl _ _ | refine Below.alloc ?_ (by first | (simp; done) | (simp; omega)) _ | refine Below.setCell ?_ (by simp) _)) hD) fun _ _ h => h) (fun b hb => by have := hD b hb; simp; omega) hn).mono ?_
  rintro e w1 ⟨r, rfl, hr, hb1⟩
  have HR := Lib.hid hr
  obtain ⟨_, A1, c1, rfl, _⟩ := hr
  obtain ⟨hc, hf⟩ := bcell hb1
  have hz : w.heap.size + 3 ≤ w1.heap.size := by have := hb1.size; simp at this; omega
  have HB := Lib.hid hb1
  clear hb1
  go_wp2_with fail
  refine bodyPost_ret (v := .agg #[.int .i64 a, .slice A1 xs.length c1]) (by simp [results, Try.results80, go_sem, hc]) rfl ?_
  refine ⟨[.int .i64 a, .slice A1 xs.length c1], rfl, ⟨_, rfl, HR.out.keep (Kept.new (by simp; omega) (by simp) fun b h1 h2 => ?_) fun _ _ h => h⟩, ?_⟩
  · simp at h1
    repeat (first | rfl | refine (Below.heap_setCell _ _ _ _ (by simp; omega)).trans ?_)
  · refine Below.setCell (Below.setCell (Below.setCell (Below.trans ?_ (HB.out.mono (by simp; omega))) (by simp; omega) _) (by simp) _) (by simp) _
    repeat (first | exact Below.refl _ _ | refine Below.alloc ?_ (by first | (simp; done) | (simp; omega)) _ | refine Below.setCell ?_ (by simp) _)

theorem info_Phi : (Try.prog.info? 69).map (fun i => (i.zero, i.size, i.bytes)) = some (some (.agg #[.int .i64 0, .slice none 0 0]), 2, 32) := by kernel_rfl

theorem EPhi.len {w : World} {Z : Zn} (p : PhiD) (cs : List Value) (h : EPhi w Z p cs) : cs.length = 2 := by
  obtain ⟨v, rfl, _⟩ := h
  rfl

def smallPhi (p : PhiD) : Prop := p.args.length ≤ 1048576

set_option maxHeartbeats 400000 in
theorem toPhiS_any (v : Value) (xs : List PhiD) (w : World) (Z : Zn) (hv : Row w Z 2 (EPhi w Z) v xs) (hD : ∀ b, Z.D b → b < w.heap.size) (hn : xs.length ≤ 1048576) (hm : ∀ p ∈ xs, smallPhi p) :
    Calls Try.prog 59 #[v] w (GivesV (fun w Z v => Row w Z 2 (EPhi w Z) v xs) w) := by
  obtain ⟨_, A, c, rfl, hx⟩ := hv
  obtain ⟨i0, hi, hz0, hz1, hz2⟩ := info_parts info_Phi
  have hmk := fun W => run_make_rowN (P := Try.prog) 61 69 i0 _ Try.underlying61 hi hz0 .i64 .i64 xs.length xs.length (Nat.le_refl _) (by rw [hz2]; omega) (by omega) W
  rw [hz1] at hmk
  clear hi hz0 hz1 hz2
  go_enter Try.func59, Try.ntmps59
  go_wp2
  go_loopw [4] (fun i wr => ∃ k : Nat, k ≤ xs.length ∧ i = .int .i64 k ∧ Hid (Below w.heap.size w wr) ∧ w.heap.size < wr.heap.size ∧ Hid (Fill wr w.heap.size 69 2 xs.length k (EPhi wr (Zn.new (w.heap.size + 1) wr.heap.size)) xs)) (fun i _ => xs.length - (intOf i).toNat)
  case atStart => exact ⟨0, Nat.zero_le _, rfl, (Below.refl _ _).alloc (Nat.le_refl _) _, by simp, Fill.zero (heap_alloc_new w _) (size_madeCells _ _)⟩
  case round =>
    obtain ⟨k, hk, rfl, HB, hsz, HF⟩ := hrel
    by_cases hlt : k < xs.length
    · have hxk : xs[k]? = some xs[k] := List.getElem?_eq_getElem hlt
      have hmk := hm _ (List.getElem_mem hlt)
      generalize xs[k] = x at hxk hmk
      obtain ⟨b, off, rfl, hDb, hrow⟩ := hx (by rintro rfl; simp at hlt)
      obtain ⟨cs, ⟨u, rfl, hu⟩, hcs⟩ := hrow k x hxk
      have hbl := hD b hDb
      have c0 : wr.cell? ⟨b, off + k * 2, none⟩ = some (.int .i64 x.v) := (HB.out.cell (p := ⟨b, _, none⟩) hbl).trans (hcs 0 _ rfl).1
      have c1 : wr.cell? ⟨b, off + k * 2 + 1, none⟩ = some u := (HB.out.cell (p := ⟨b, _, none⟩) hbl).trans (hcs 1 _ rfl).1
      have HU := Lib.hid (hu.keep (Kept.below HB.out hD) fun _ _ h => h)
      have Hxk := Lib.hid hxk
      have Hm := Lib.hid hmk
      clear hcs hrow hx hxk hu hmk
      go_wp2_with fail
      refine (toPhi_any x.v u x.args wr Z HU.out (fun b hb => by have := hD b hb; have := HB.out.size; omega) Hm.out).mono ?_
      rintro e w1 ⟨cs, rfl, ⟨r, rfl, hr⟩, hb1⟩
      have HR := Lib.hid hr
      obtain ⟨_, A1, c1', rfl, _⟩ := hr
      have hsz1 := hb1.size
      have HF1 : Hid (Fill w1 w.heap.size 69 2 xs.length k (EPhi w1 (Zn.new (w.heap.size + 1) w1.heap.size)) xs) := HF.out.keep (hb1.block _ hsz) fun _ _ h => h.keep (Kept.new (Nat.le_refl _) hsz1 fun b _ h2 => hb1.block b h2)
      obtain ⟨u0, d0⟩ := HF1.out.cell (j := 0) hlt (by omega)
      obtain ⟨u1, d1⟩ := HF1.out.cell (j := 1) hlt (by omega)
      have f0 := HF1.out.frozen (k * 2)
      have f1 := HF1.out.frozen (k * 2 + 1)
      rw [Nat.add_zero] at d0
      have HB1 : Hid (Below w.heap.size w w1) := HB.out.trans (hb1.mono (by omega))
      clear hb1 HB HF
      go_wp2_with fail
      go_roundw
      case rel =>
        refine ⟨k + 1, by omega, by go_num, (HB1.out.setCell (by simp) _).setCell (by simp) _, by simp; omega, ?_⟩
        have hg := storeAll_grown [.int .i64 x.v, .slice A1 x.args.length c1'] w1 w.heap.size (k * 2)
        have hK : ∀ lo, w.heap.size + 1 ≤ lo → Kept (Zn.new lo w1.heap.size) (Zn.new (w.heap.size + 1) w1.heap.size) w1 _ := fun lo hlo => Kept.new hlo (Nat.le_refl _) fun b h1 h2 => hg.block b h2 (by simp; omega)
        have h := HF1.out.store (cs := [.int .i64 x.v, .slice A1 x.args.length c1']) (E' := EPhi (storeAll w1 w.heap.size (k * 2) [.int .i64 x.v, .slice A1 x.args.length c1']) (Zn.new (w.heap.size + 1) w1.heap.size)) Hxk.out hlt ⟨_, rfl, HR.out.keep (hK _ (by omega)) fun _ _ h => h⟩ rfl (fun _ _ h => h.keep (hK _ (Nat.le_refl _))) (fun _ _ h => h.len)
        simpa [storeAll, Hid] using h
      case measure => simp [intOf]; omega
    · obtain rfl : k = xs.length := by omega
      go_wp2
      go_ret
      exact ⟨_, rfl, (HF.out.keep rfl fun _ _ h => h.keep (Kept.new (by omega) (Nat.le_refl _) fun _ _ _ => rfl)).row (Z := Zn.new _ _) rfl (by omega) ⟨Nat.le_refl _, hsz⟩ _, HB.out⟩

end Go.Proofs.Ytbghcoihndlihaa
