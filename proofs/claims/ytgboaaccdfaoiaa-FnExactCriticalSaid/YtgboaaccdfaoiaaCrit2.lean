/- Critical of the program. -/
import Derived.Test.YtgboaaccdfaoiaaCrit
import Derived.Deep.RegionHeld3
namespace Go.Proofs.Ytgboaaccdfaoiaa
open Go.ChangeShapes Go.WideShapes Go.ChangeAt Go.RowKit Go.Joins Go.Maps

theorem criticalEdges_any (bs : List BlockD) (v : Value) (Z : Zn) (w : World) (hn : bs.length ≤ 1000) (ht : TargetsOk bs) (hZ : ∀ b, Z.D b → b < w.heap.size) (hrow : Row w Z 8 (EBlock w Z) v bs) :
    Calls Try.prog 75 #[v] w (GivesMap bs w) := (callsIn_wide (n := 3)).1 (criticalEdges_in 3 bs v Z w (Nat.le_refl _) hn ht hZ hrow)

theorem FunOk_yes {f : FunD} (hp : FunP f) (v : Value) (w : World) (Z : Zn) (hv : EFun w Z f v) (hD : ∀ b, Z.D b → b < w.heap.size) : Calls Try.prog 13 #[v] w fun e w' => e = .returned (.bool true) ∧ Below w.heap.size w w' :=
  (FunOk_any f v w Z hv hD (by have := hp.1.1.2; omega)).mono fun _ _ ⟨r, he, hr, hb⟩ => ⟨by rw [he, hr.2 hp], hb⟩
theorem FunOk_no {f : FunD} (hp : ¬ FunP f) (hn : f.blocks.length ≤ 1048576) (v : Value) (w : World) (Z : Zn) (hv : EFun w Z f v) (hD : ∀ b, Z.D b → b < w.heap.size) : Calls Try.prog 13 #[v] w fun e w' => e = .returned (.bool false) ∧ Below w.heap.size w w' :=
  (FunOk_any f v w Z hv hD hn).mono fun _ _ ⟨r, he, hr, hb⟩ => ⟨by rw [he]; cases r with
    | false => rfl
    | true => exact absurd (hr.1 rfl) hp, hb⟩

/-- Is it critical? -/
def critB (f : FunD) (a b : Int) : Bool := hasE (critL f.blocks (edgesOf f.blocks)) a b
def CritRes (f : FunD) (a b : Int) (r : Bool) : Prop := (FunP f ∧ r = critB f a b) ∨ (¬ FunP f ∧ r = false)
theorem CritRes.one {f : FunD} {a b : Int} {r s : Bool} (h : CritRes f a b r) (k : CritRes f a b s) : r = s := by
  rcases h with ⟨h1, rfl⟩ | ⟨h1, rfl⟩ <;> rcases k with ⟨k1, rfl⟩ | ⟨k1, rfl⟩
  · rfl
  · exact absurd h1 k1
  · exact absurd k1 h1
  · rfl
def GivesCrit (f : FunD) (a b : Int) (w : World) (e : Ending) (w' : World) : Prop := ∃ r, e = .returned (.bool r) ∧ CritRes f a b r ∧ Below w.heap.size w w'

set_option maxRecDepth 100000 in
set_option maxHeartbeats 4000000 in
theorem Critical_any (f : FunD) (v : Value) (a b : Int) (w : World) (Z : Zn) (hv : EFun w Z f v) (hD : ∀ b, Z.D b → b < w.heap.size) (hn : f.blocks.length ≤ 1048576) (wa : wf64 a) (wb : wf64 b) :
    Calls Try.prog 31 #[v, .agg #[.int .i64 a, .int .i64 b]] w (GivesCrit f a b w) := by
  have HF := Lib.hid hv
  obtain ⟨u, rfl, hu⟩ := hv
  obtain ⟨_, A, c, rfl, hx⟩ := hu
  clear hx
  obtain ⟨w0, hw0⟩ : ∃ w0, w0 = (w.alloc (.cells #[.int .i64 f.params, .int .i64 f.names, .slice A f.blocks.length c] 26)).alloc (.cells #[.int .i64 a, .int .i64 b] 51) := ⟨_, rfl⟩
  have hB0 : Below w.heap.size w w0 := by rw [hw0]; exact ((Below.refl _ _).alloc (Nat.le_refl _) _).alloc (by simp) _
  have hs0 : w0.heap.size = w.heap.size + 1 + 1 := by rw [hw0]; simp
  have hf : w0.heap[w.heap.size]? = some (.cells #[.int .i64 f.params, .int .i64 f.names, .slice A f.blocks.length c] 26 (0, 0)) := by
    rw [hw0, Below.heap_alloc _ _ _ (by simp)]; exact heap_alloc_new w _
  have he : w0.heap[w.heap.size + 1]? = some (.cells #[.int .i64 a, .int .i64 b] 51 (0, 0)) := by
    have := heap_alloc_new (w.alloc (.cells #[.int .i64 f.params, .int .i64 f.names, .slice A f.blocks.length c] 26)) (.cells #[.int .i64 a, .int .i64 b] 51)
    rw [World.size_alloc] at this
    rw [hw0]; exact this
  have keepS : ∀ w7 : World, Below w0.heap.size w0 w7 → (fun w' => w'.cell? ⟨w.heap.size, 0, none⟩ = some (.int .i64 f.params) ∧ w'.cell? ⟨w.heap.size, 1, none⟩ = some (.int .i64 f.names) ∧ w'.cell? ⟨w.heap.size, 2, none⟩ = some (.slice A f.blocks.length c) ∧ w'.cell? ⟨w.heap.size + 1, 0, none⟩ = some (.int .i64 a) ∧ w'.cell? ⟨w.heap.size + 1, 1, none⟩ = some (.int .i64 b)) w7 := fun w7 hb => ⟨cell_of_row w7 _ 0 _ _ (0, 0) ((hb.block _ (by omega)).trans hf), cell_of_row w7 _ 1 _ _ (0, 0) ((hb.block _ (by omega)).trans hf), cell_of_row w7 _ 2 _ _ (0, 0) ((hb.block _ (by omega)).trans hf), cell_of_row w7 _ 0 _ _ (0, 0) ((hb.block _ (by omega)).trans he), cell_of_row w7 _ 1 _ _ (0, 0) ((hb.block _ (by omega)).trans he)⟩
  have K := keepS _ (Below.refl _ _).drew
  have HB0 := Lib.hid hB0
  have HW0 := Lib.hid hw0
  obtain ⟨k0, k1, k2, k3, k4⟩ := K
  have K := keepS _ (Below.refl _ _).drew
  clear hf he hB0 hw0
  by_cases hp : FunP f
  · have HP := Lib.hid hp
    have h1n := hp.1.1.1
    have h40 := hp.1.1.2
    clear hp
    go_enter Try.func31, Try.ntmps31
    go_wp2_with fail
    rw [← HW0.out]
    go_region_held3 (fun w' => w'.cell? ⟨w.heap.size, 0, none⟩ = some (.int .i64 f.params) ∧ w'.cell? ⟨w.heap.size, 1, none⟩ = some (.int .i64 f.names) ∧ w'.cell? ⟨w.heap.size, 2, none⟩ = some (.slice A f.blocks.length c) ∧ w'.cell? ⟨w.heap.size + 1, 0, none⟩ = some (.int .i64 a) ∧ w'.cell? ⟨w.heap.size + 1, 1, none⟩ = some (.int .i64 b)) (first | exact K | exact K5 | exact K6 | fail)
      (first
      | (go_at_call 13; refine (FunOk_yes HP.out _ _ Z (HF.out.keep (Kept.below HB0.out.drew hD)) (fun b hb => by have := hD b hb; show b < w0.heap.size; omega)).mono ?_; rintro e w5 ⟨rfl, hb5⟩; have K5 := keepS w5 ((Below.refl _ w0).drew.trans hb5); have HB5 : Hid (Below w0.heap.size w0 w5) := (Below.refl _ w0).drew.trans hb5; clear hb5)
      | (go_at_call 75; refine (criticalEdges_any f.blocks _ Z _ (by omega) (targets_of HP.out) (fun b hb => by have h1 := hD b hb; have h2 := HB5.out.size; omega) (HF.out.row.keep (Kept.below (HB0.out.trans (HB5.out.mono (by omega))) hD) fun _ _ h => h.keep (Kept.below (HB0.out.trans (HB5.out.mono (by omega))) hD))).mono ?_; rintro e w6 ⟨mb, nn, rfl, hm6, hb6⟩; have K6 := keepS w6 (HB5.out.trans (hb6.mono HB5.out.size)); have HB6 : Hid (Below w0.heap.size w0 w6) := HB5.out.trans (hb6.mono HB5.out.size); have hlk := hm6.look wa wb; clear hm6 hb6)
      | fail)
    go_wp2_with fail
    go_ret
    exact ⟨_, rfl, .inl ⟨HP.out, rfl⟩, HB0.out.trans (HB6.out.mono (by omega))⟩
  · have HP := Lib.hid hp
    clear hp
    go_enter Try.func31, Try.ntmps31
    go_wp2_with fail
    rw [← HW0.out]
    first
    | go_region_with (first | (go_at_call 13; refine (FunOk_no HP.out hn _ _ Z (HF.out.keep (Kept.below HB0.out.drew hD)) (fun b hb => by have := hD b hb; show b < w0.heap.size; omega)).mono ?_; rintro e w5 ⟨rfl, hb5⟩; have HB5 : Hid (Below w0.heap.size w0 w5) := (Below.refl _ w0).drew.trans hb5; clear hb5))
    | fail
    all_goals (go_wp2_with fail; go_ret; exact ⟨_, rfl, .inr ⟨HP.out, rfl⟩, HB0.out.trans (HB5.out.mono (by omega))⟩)

end Go.Proofs.Ytgboaaccdfaoiaa
