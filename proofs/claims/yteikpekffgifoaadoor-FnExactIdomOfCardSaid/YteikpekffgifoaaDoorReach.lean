/- walkFromStart and Reached of the program. -/
import Derived.Test.YteikpekffgifoaaDoorCome
import Derived.WalkSmall
namespace Go.Proofs.YteikpekffgifoaaDoor
open Go.ChangeShapes Go.WideShapes Go.ChangeAt Go.RowKit Go.Joins

theorem info_boolr : (Tryd.prog.info? 4).map (fun i => (i.zero, i.size, i.bytes)) = some (some (.bool false), 1, 1) := by kernel_rfl

def GivesWalk (bs : List BlockD) (v : Value) (w : World) (e : Ending) (w' : World) : Prop :=
  ∃ q fin, e = .returned (.agg #[v, .slice (some ⟨q, 0, none⟩) bs.length bs.length, fin]) ∧ BL w' q bs.length (dfs0 (scF bs) bs.length).1 ∧ OI w' w.heap.size fin (dfs0 (scF bs) bs.length).2 ∧ w.heap.size ≤ q ∧ Below w.heap.size w w'

set_option maxRecDepth 10000 in
set_option maxHeartbeats 2000000 in
theorem walkFromStart_any (bs : List BlockD) (v : Value) (w : World) (Z : Zn) (hv : Row w Z 8 (EBlock w Z) v bs) (hD : ∀ b, Z.D b → b < w.heap.size) (ht : TargetsOk bs) (h1 : 1 ≤ bs.length) (hn : bs.length ≤ 1000) :
    Calls Tryd.prog 48 #[v] w (GivesWalk bs v w) := by
  have HV := Lib.hid hv
  obtain ⟨_, A, c, rfl, hx⟩ := hv
  obtain ⟨b0, off, rfl, hDb, _⟩ := hx (by intro h; rw [h] at h1; simp at h1)
  clear hx
  obtain ⟨i0, hi, hz0, hz1, hz2⟩ := info_parts info_boolr
  have hmk := fun W => run_make_rowN (P := Tryd.prog) 78 4 i0 _ Tryd.underlying78 hi hz0 .i64 .i64 bs.length bs.length (Nat.le_refl _) (by rw [hz2]; omega) (by omega) W
  rw [hz1] at hmk
  clear hi hz0 hz1 hz2
  obtain ⟨w3, hw3⟩ : ∃ w3, w3 = (((w.alloc (.cells #[.slice none 0 0, .slice none 0 0, .slice none 0 0] 80)).alloc (.cells (madeCells #[.bool false] bs.length) 4)).alloc (.cells #[.slice (some ⟨b0, off, none⟩) bs.length c, .slice (some ⟨w.heap.size + 1, 0, none⟩) bs.length bs.length, .slice none 0 0] 80)) := ⟨_, rfl⟩
  have hz3 : w3.heap.size = w.heap.size + 1 + 1 + 1 := by rw [hw3]; simp
  have HB3 : Hid (Below w.heap.size w w3) := by rw [hw3]; exact (((Below.refl _ _).alloc (Nat.le_refl _) _).alloc (by simp) _).alloc (by simp; omega) _
  have HR0 : Hid (w3.heap[w.heap.size]? = some (.cells #[.slice none 0 0, .slice none 0 0, .slice none 0 0] 80 (0, 0))) := by
    rw [hw3, Hid, Below.heap_alloc _ _ _ (by simp; omega), Below.heap_alloc _ _ _ (by simp)]
    exact heap_alloc_new w _
  have HS : Hid (CSt w3 (w.heap.size + 1 + 1) (w.heap.size + 1) (w.heap.size + 1 + 1 + 1) bs.length (some ⟨b0, off, none⟩) c (.slice none 0 0) (List.replicate bs.length false, [])) := by
    rw [hw3]
    have hs1 : (w.alloc (.cells #[.slice none 0 0, .slice none 0 0, .slice none 0 0] 80)).heap.size = w.heap.size + 1 := by simp
    have hs2 : ((w.alloc (.cells #[.slice none 0 0, .slice none 0 0, .slice none 0 0] 80)).alloc (.cells (madeCells #[.bool false] bs.length) 4)).heap.size = w.heap.size + 1 + 1 := by simp
    have hb := BL.start (w.alloc (.cells #[.slice none 0 0, .slice none 0 0, .slice none 0 0] 80)) bs.length (by rw [maxLen_is]; omega)
    rw [hs1] at hb
    refine ⟨?_, hb.fw (Fw.alloc (fun _ => False) _ _) (fun h => h), World.ownsRow_nil _ _ _ _⟩
    have := heap_alloc_new ((w.alloc (.cells #[.slice none 0 0, .slice none 0 0, .slice none 0 0] 80)).alloc (.cells (madeCells #[.bool false] bs.length) 4)) (.cells #[.slice (some ⟨b0, off, none⟩) bs.length c, .slice (some ⟨w.heap.size + 1, 0, none⟩) bs.length bs.length, .slice none 0 0] 80)
    rw [hs2] at this
    exact this
  have HV3 := Lib.hid (HV.out.keep (Kept.below HB3.out hD) fun _ _ h => h.keep (Kept.below HB3.out hD))
  have HW3 := Lib.hid hw3
  clear hw3
  go_enter Tryd.func48, Tryd.ntmps48
  go_wp2_with fail
  rw [← HW3.out]
  refine (comeTo_any bs b0 off c Z (w.heap.size + 1 + 1) (w.heap.size + 1) (w.heap.size + 1 + 1 + 1) bs.length ht hn (by omega) (fun b hb => by have := hD b hb; omega) (by omega) (by omega) (by omega) bs.length 0 w3 (.slice none 0 0) (List.replicate bs.length false, []) HS.out HV3.out (by omega) (inv0 _) (by show cf (List.replicate bs.length false) ≤ bs.length; rw [cf_replicate]; omega) (get_replicate h1)).mono ?_
  rintro e w4 ⟨_, fin4, rfl, hS4, hF4, -⟩
  have hz4 := hF4.size
  have HS4 : Hid (CSt w4 (w.heap.size + 1 + 1) (w.heap.size + 1) (w.heap.size + 1 + 1 + 1) bs.length (some ⟨b0, off, none⟩) c fin4 (dfs0 (scF bs) bs.length)) := hS4
  have HB4 : Hid (Below w.heap.size w w4) := HB3.out.trans (hF4.toBelow (by omega) (by rintro k hk (e | e | e) <;> first | omega | cases e))
  have HR4 := (hF4.block w.heap.size (by omega) (by rintro (e | e | e) <;> first | omega | cases e)).trans HR0.out
  have r0 : w4.cell? ⟨w.heap.size, 0, none⟩ = some (.slice none 0 0) := cell_of_row w4 _ 0 _ _ (0, 0) HR4
  have r1 : w4.cell? ⟨w.heap.size, 1, none⟩ = some (.slice none 0 0) := cell_of_row w4 _ 1 _ _ (0, 0) HR4
  have r2 : w4.cell? ⟨w.heap.size, 2, none⟩ = some (.slice none 0 0) := cell_of_row w4 _ 2 _ _ (0, 0) HR4
  have rz : ∀ j, w4.frozen? ⟨w.heap.size, j, none⟩ = false := fun j => by simp [World.frozen?, HR4]
  have rz0 := rz 0
  have rz1 := rz 1
  have rz2 := rz 2
  obtain ⟨d0, d1, d2, _⟩ := HS4.out.cells
  obtain ⟨_, A4, c4, rfl, _⟩ := HS4.out.hf.ri
  clear hS4 hF4 HR4 rz
  go_wp2_with fail
  refine bodyPost_ret (v := .agg #[.slice (some ⟨b0, off, none⟩) bs.length c, .slice (some ⟨w.heap.size + 1, 0, none⟩) bs.length bs.length, .slice A4 (dfs0 (scF bs) bs.length).2.length c4]) (by simp [results, Tryd.results48, go_sem, r0, r1, r2]) rfl ⟨_, _, rfl, ?_, ?_, by omega, ?_⟩
  · exact ((HS4.out.hb.fw (Fw.set (P := fun k => k = w.heap.size) w4 rfl 0 _) (by omega)).fw (Fw.set (P := fun k => k = w.heap.size) _ rfl 1 _) (by omega)).fw (Fw.set (P := fun k => k = w.heap.size) _ rfl 2 _) (by omega)
  · have hlo := fun k hk => (HS4.out.hf.lt k hk).1
    exact World.ownsRow.mono (((HS4.out.hf.fw (Fw.set (P := fun k => k = w.heap.size) w4 rfl 0 _) (fun k hk => by have := hlo k hk; omega)).fw (Fw.set (P := fun k => k = w.heap.size) _ rfl 1 _) (fun k hk => by have := hlo k hk; omega)).fw (Fw.set (P := fun k => k = w.heap.size) _ rfl 2 _) (fun k hk => by have := hlo k hk; omega)) (by omega)
  · exact ((HB4.out.setCell (Nat.le_refl _) _).setCell (Nat.le_refl _) _).setCell (Nat.le_refl _) _

end Go.Proofs.YteikpekffgifoaaDoor
