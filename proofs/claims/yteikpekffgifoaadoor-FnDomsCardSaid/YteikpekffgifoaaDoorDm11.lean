/- Dmn, joined. -/
import Derived.Test.YteikpekffgifoaaDoorDm6
import Derived.Test.YteikpekffgifoaaDoorDm9
import Derived.Test.YteikpekffgifoaaDoorDm10
namespace Go.Proofs.YteikpekffgifoaaDoor

/- Dominates of both sides. -/
section
open Go.ChangeShapes Go.WideShapes Go.ChangeAt Go.RowKit Go.Joins

/-- a dominates b. -/
def DomP (f : FunD) (a b : Int) : Prop := FunP f ∧ isBelowB a f.blocks.length = true ∧ isBelowB b f.blocks.length = true ∧ Rch (scF f.blocks) (-1) b ∧ ¬ Rch (scF f.blocks) a b
/-- Which set a block has: none where it is none. -/
def SetRes (f : FunD) (j : Int) (s : Nat) : Prop := (∃ (t : Nat) (D : List Nat), j = t ∧ t < f.blocks.length ∧ FunP f ∧ DomsD f D ∧ s = D.getD t 0) ∨ (¬ (FunP f ∧ isBelowB j f.blocks.length = true) ∧ s = 0)
def GivesSet (f : FunD) (j : Int) (w : World) (e : Ending) (w' : World) : Prop := ∃ s : Nat, e = .returned (.int .u64 (s : Int)) ∧ SetRes f j s ∧ Below w.heap.size w w'
def GivesDom (f : FunD) (a b : Int) (w : World) (e : Ending) (w' : World) : Prop := ∃ r : Bool, e = .returned (.bool r) ∧ (r = true ↔ DomP f a b) ∧ Below w.heap.size w w'

theorem SetRes.le {f : FunD} {j : Int} {s : Nat} (h : SetRes f j s) : s ≤ allBits := by
  rcases h with ⟨t, D, _, _, _, hd, rfl⟩ | ⟨_, rfl⟩
  · exact hd.1.lt t
  · exact Nat.zero_le _
/-- What is not come to, left aside or not, is come to without what is no block. -/
theorem rch_out {sc : Int → List Int} {N : Nat} (hsc : ∀ b : Nat, b < N → ∀ t ∈ sc b, 0 ≤ t ∧ t < (N : Int)) (hN : 1 ≤ N) {a : Int} (ha : ¬ (0 ≤ a ∧ a < N)) {b : Int} (h : Rch sc (-1) b) : 0 ≤ b ∧ b < N ∧ Rch sc a b := by
  induction h with
  | zero _ => exact ⟨by omega, by omega, .zero (by omega)⟩
  | @step x y _ hy _ ih =>
    obtain ⟨h0, h1, h2⟩ := ih
    obtain ⟨k, rfl⟩ : ∃ k : Nat, x = k := ⟨x.toNat, by omega⟩
    have hyr := hsc k (by omega) y hy
    exact ⟨hyr.1, hyr.2, .step h2 hy (by rintro rfl; exact ha hyr)⟩
theorem SetRes.bit {f : FunD} {j : Int} {s : Nat} (h : SetRes f j s) (a : Nat) : s.testBit a = true ↔ DomP f a j := by
  rcases h with ⟨t, D, rfl, ht, hp, hd, rfl⟩ | ⟨hn, rfl⟩
  · have h1n := hp.1.1.1
    have h40 := hp.1.1.2
    have hsc := (targets_of hp).sc
    have htb : isBelowB (t : Int) f.blocks.length = true := by simp [isBelowB]; omega
    by_cases hr : Rch (scF f.blocks) (-1) t
    · by_cases ha : a < 40
      · rw [hd.1.done h40 isPreds_of hd.2 hsc ht ha hr]
        constructor
        · intro h
          refine ⟨hp, ?_, htb, hr, h⟩
          have : (0 : Int) ≤ a ∧ (a : Int) < f.blocks.length := Classical.byContradiction fun hc => h (rch_out hsc h1n hc hr).2.2
          simp [isBelowB]; omega
        · exact fun h => h.2.2.2.2
      · constructor
        · intro h
          exfalso
          have h2 : 2 ^ 40 ≤ D.getD t 0 := Nat.le_trans (Nat.pow_le_pow_right (by decide) (by omega)) (Nat.ge_two_pow_of_testBit h)
          have := hd.1.lt t
          unfold allBits at this
          omega
        · intro h
          have := h.2.1
          simp [isBelowB] at this
          omega
    · rw [hd.1.un t ht hr, bit_zero]
      constructor
      · intro h; cases h
      · exact fun h => absurd h.2.2.2.1 hr
  · rw [bit_zero]
    constructor
    · intro h; cases h
    · exact fun h => absurd ⟨h.1, h.2.2.1⟩ hn

set_option maxRecDepth 10000 in
set_option maxHeartbeats 1000000 in
theorem domsOfOne_any (f : FunD) (v : Value) (j : Int) (w : World) (Z : Zn) (hv : EFun w Z f v) (hD : ∀ b, Z.D b → b < w.heap.size) (hn : f.blocks.length ≤ 1048576) : Calls Tryd.prog 25 #[v, .int .i64 j] w (GivesSet f j w) := by
  have HF := Lib.hid hv
  obtain ⟨u, rfl, hu⟩ := hv
  obtain ⟨_, A, c, rfl, hx⟩ := hu
  clear hx
  go_enter Tryd.func25, Tryd.ntmps25
  go_wp2_with fail
  refine (FunOk_any f _ _ Z (HF.out.keep (Kept.below ((Below.refl _ _).alloc (Nat.le_refl _) _) hD)) (fun b hb => by have := hD b hb; simp; omega) hn).mono ?_
  rintro e w1 ⟨r, rfl, hr, hb1⟩
  have HR := Lib.hid hr
  have HB1 := Lib.hid (hb1.mono (B' := w.heap.size + 1) (by simp))
  have HB01 : Hid (Below w.heap.size w w1) := ((Below.refl _ _).alloc (Nat.le_refl _) _).trans (HB1.out.mono (by omega))
  have hz1 : w.heap.size + 1 ≤ w1.heap.size := by have := hb1.size; simp at this; omega
  obtain ⟨hc1, hf1⟩ := bcellB HB1.out
  clear hb1 hf1 hr
  cases r
  · have HN : Hid (¬ FunP f) := fun h => by have := HR.out.2 h; cases this
    go_wp2_with fail
    go_ret
    exact ⟨0, rfl, .inr ⟨fun h => HN.out h.1, rfl⟩, HB01.out⟩
  have HP := Lib.hid (HR.out.1 rfl)
  clear HR
  go_wp2_with fail
  refine (hasBlock_any _ _ _ _ _ _ _).mono ?_
  rintro e w2 ⟨rfl, hb2⟩
  have hz2 : w.heap.size + 1 ≤ w2.heap.size := by have := hb2.size; omega
  have HB2 := Lib.hid (HB1.out.trans (hb2.mono hz1))
  have HB02 : Hid (Below w.heap.size w w2) := ((Below.refl _ _).alloc (Nat.le_refl _) _).trans (HB2.out.mono (by omega))
  obtain ⟨hc2, hf2⟩ := bcellB (hb2.mono hz1)
  clear hb2 hf2
  cases hj : isBelowB j f.blocks.length
  · have HN : Hid (¬ (FunP f ∧ isBelowB j f.blocks.length = true)) := fun h => by have := h.2; rw [hj] at this; cases this
    go_wp2_with fail
    go_ret
    exact ⟨0, rfl, .inr ⟨HN.out, rfl⟩, HB02.out⟩
  have hjj : 0 ≤ j ∧ j < f.blocks.length := by simpa [isBelowB] using hj
  obtain ⟨t, rfl⟩ : ∃ t : Nat, j = t := ⟨j.toNat, by omega⟩
  have htn : t < f.blocks.length := by omega
  have htn' : (t : Int) < (f.blocks.length : Int) := by omega
  have ht0 : 0 ≤ (t : Int) := by omega
  clear hjj
  go_wp2_with fail
  refine (domsOfAll_any f _ _ Z HP.out (HF.out.row.keep (Kept.below HB02.out hD) fun _ _ h => h.keep (Kept.below HB02.out hD)) (fun b hb => by have := hD b hb; omega)).mono ?_
  rintro e w3 ⟨q, D, rfl, hu3, hq, hd3, hb3⟩
  have HB03 := Lib.hid (HB02.out.trans (hb3.mono (by omega)))
  have hcv := hu3.cell htn
  have HD3 := Lib.hid hd3
  clear hb3 hu3 hd3 hc1 hc2 hq
  go_wp2_with fail
  go_ret
  exact ⟨_, rfl, .inl ⟨t, D, rfl, htn, HP.out, HD3.out, rfl⟩, HB03.out⟩

set_option maxRecDepth 10000 in
set_option maxHeartbeats 1000000 in
theorem Dominates_any (f : FunD) (v : Value) (a b : Int) (w : World) (Z : Zn) (hv : EFun w Z f v) (hD : ∀ b, Z.D b → b < w.heap.size) (hn : f.blocks.length ≤ 1048576) : Calls Tryd.prog 14 #[v, .int .i64 a, .int .i64 b] w (GivesDom f a b w) := by
  have HF := Lib.hid hv
  obtain ⟨u, rfl, hu⟩ := hv
  obtain ⟨_, A, c, rfl, hx⟩ := hu
  clear hx
  go_enter Tryd.func14, Tryd.ntmps14
  go_wp2_with fail
  refine (domsOfOne_any f _ _ _ Z (HF.out.keep (Kept.below ((Below.refl _ _).alloc (Nat.le_refl _) _) hD)) (fun b hb => by have := hD b hb; simp; omega) hn).mono ?_
  rintro e w1 ⟨s, rfl, hs, hb1⟩
  have HS := Lib.hid hs
  have HB01 : Hid (Below w.heap.size w w1) := ((Below.refl _ _).alloc (Nat.le_refl _) _).trans (hb1.mono (by simp))
  clear hb1 hs
  go_wp2_with fail
  refine (hasS_any s a _ (all_lt HS.out.le)).mono ?_
  rintro e w' ⟨rfl, rfl⟩
  obtain ⟨r, hr⟩ : ∃ r, r = (isBelowB a 40 && s.testBit a.toNat) := ⟨_, rfl⟩
  rw [← hr]
  have HR := Lib.hid hr
  clear hr
  go_wp2_with fail
  go_ret
  refine ⟨r, rfl, ?_, HB01.out⟩
  rw [HR.out, Bool.and_eq_true]
  constructor
  · rintro ⟨h1, h2⟩
    have ha : 0 ≤ a := by simp [isBelowB] at h1; omega
    have := (HS.out.bit a.toNat).1 h2
    rwa [show ((a.toNat : Nat) : Int) = a by omega] at this
  · intro h
    have hab := h.2.1
    have h40 := h.1.1.1.2
    have ha : 0 ≤ a ∧ a < 40 := by simp [isBelowB] at hab; omega
    refine ⟨by simp [isBelowB]; omega, (HS.out.bit a.toNat).2 ?_⟩
    rwa [show ((a.toNat : Nat) : Int) = a by omega]

set_option maxRecDepth 10000 in
set_option maxHeartbeats 1000000 in
/-- l4Dom of the model, of a block that is there. -/
theorem l4Dom_ex (f : FunD) (v : Value) (a : Int) (b : Nat) (w : World) (Z : Zn) (hv : EFun w Z f v) (hD : ∀ b, Z.D b → b < w.heap.size) (hp : FunP f) (hb : b < f.blocks.length) :
    Calls Tryd.prog 37 #[v, .int .i64 a, .int .i64 b] w fun e w' => ∃ r : Bool, e = .returned (.bool r) ∧ (r = true ↔ Rch (scF f.blocks) (-1) b ∧ ¬ Rch (scF f.blocks) a b) ∧ Below w.heap.size w w' := by
  have HF := Lib.hid hv
  have h1n := hp.1.1.1
  have h40 := hp.1.1.2
  have HT := Lib.hid (targets_of hp).r
  obtain ⟨u, rfl, hu⟩ := hv
  obtain ⟨_, A, c, rfl, _⟩ := hu
  clear hp
  have hb' : (b : Int) < (f.blocks.length : Int) := by omega
  have hb0 : 0 ≤ (b : Int) := by omega
  go_enter Tryd.func37, Tryd.ntmps37
  go_wp2_with fail
  refine (l3Reach_ex f _ _ _ Z (HF.out.keep (Kept.below ((Below.refl _ _).alloc (Nat.le_refl _) _) hD)) (fun b hb => by have := hD b hb; simp; omega) HT.out h1n (by omega)).mono ?_
  rintro e w1 ⟨q1, r1, rfl, hB1, hR1, hq1, hb1⟩
  have HB1 := Lib.hid (hb1.mono (B' := w.heap.size + 1) (by simp))
  have HB01 : Hid (Below w.heap.size w w1) := ((Below.refl _ _).alloc (Nat.le_refl _) _).trans (HB1.out.mono (by omega))
  have hz1 : w.heap.size + 1 ≤ w1.heap.size := by have := hb1.size; simp at this; omega
  obtain ⟨x1, hx1⟩ : ∃ x1, r1[b]? = some x1 := ⟨_, List.getElem?_eq_getElem (by rw [hB1.1]; exact hb)⟩
  have hc1 := hB1.cell hx1
  have HX1 : Hid (x1 = true ↔ Rch (scF f.blocks) (-1) b) := by
    rw [Hid, ← hR1.2 b hb, hx1]; simp
  have f0 : w1.cell? ⟨w.heap.size, 0, none⟩ = some (.int .i64 f.params) := (HB1.out.cell (p := ⟨w.heap.size, 0, none⟩) (by simp)).trans (by go_simp)
  have f1 : w1.cell? ⟨w.heap.size, 1, none⟩ = some (.int .i64 f.names) := (HB1.out.cell (p := ⟨w.heap.size, 1, none⟩) (by simp)).trans (by go_simp)
  have f2 : w1.cell? ⟨w.heap.size, 2, none⟩ = some (.slice A f.blocks.length c) := (HB1.out.cell (p := ⟨w.heap.size, 2, none⟩) (by simp)).trans (by go_simp)
  clear hb1 hB1 hx1 hR1
  cases x1
  · go_wp2_with fail
    go_ret
    refine ⟨false, rfl, ⟨fun h => (by cases h), fun h => ?_⟩, HB01.out⟩
    have := HX1.out.2 h.1
    cases this
  have HX := Lib.hid (HX1.out.1 rfl)
  clear HX1
  go_wp2_with fail
  refine (l3Reach_ex f _ _ _ Z (HF.out.keep (Kept.below HB01.out hD)) (fun b hb => by have := hD b hb; omega) HT.out h1n (by omega)).mono ?_
  rintro e w2 ⟨q2, r2, rfl, hB2, hR2, hq2, hb2⟩
  have HB02 := Lib.hid (HB01.out.trans (hb2.mono (by omega)))
  obtain ⟨x2, hx2⟩ : ∃ x2, r2[b]? = some x2 := ⟨_, List.getElem?_eq_getElem (by rw [hB2.1]; exact hb)⟩
  have hc2 := hB2.cell hx2
  have HX2 : Hid (x2 = true ↔ Rch (scF f.blocks) a b) := by
    rw [Hid, ← hR2.2 b hb, hx2]; simp
  clear hb2 hB2 hx2 hR2
  cases x2
  · go_wp2_with fail
    go_ret
    exact ⟨true, rfl, ⟨fun _ => ⟨HX.out, fun h => by have := HX2.out.2 h; cases this⟩, fun _ => rfl⟩, HB02.out⟩
  · go_wp2_with fail
    go_ret
    exact ⟨false, rfl, ⟨fun h => (by cases h), fun h => absurd (HX2.out.1 (by first | rfl | trivial)) h.2⟩, HB02.out⟩

set_option maxRecDepth 10000 in
set_option maxHeartbeats 1000000 in
theorem sDominates_any (f : FunD) (v : Value) (a b : Int) (w : World) (Z : Zn) (hv : EFun w Z f v) (hD : ∀ b, Z.D b → b < w.heap.size) (hn : f.blocks.length ≤ 1048576) : Calls Tryd.prog 15 #[v, .int .i64 a, .int .i64 b] w (GivesDom f a b w) := by
  have HF := Lib.hid hv
  obtain ⟨u, rfl, hu⟩ := hv
  obtain ⟨_, A, c, rfl, hx⟩ := hu
  clear hx
  go_enter Tryd.func15, Tryd.ntmps15
  go_wp2_with fail
  refine (sFunOk_any f _ _ Z (HF.out.keep (Kept.below ((Below.refl _ _).alloc (Nat.le_refl _) _) hD)) (fun b hb => by have := hD b hb; simp; omega) hn).mono ?_
  rintro e w1 ⟨r, rfl, hr, hb1⟩
  have HR := Lib.hid hr
  have HB1 := Lib.hid (hb1.mono (B' := w.heap.size + 1) (by simp))
  have HB01 : Hid (Below w.heap.size w w1) := ((Below.refl _ _).alloc (Nat.le_refl _) _).trans (HB1.out.mono (by omega))
  have hz1 : w.heap.size + 1 ≤ w1.heap.size := by have := hb1.size; simp at this; omega
  have f0 : w1.cell? ⟨w.heap.size, 0, none⟩ = some (.int .i64 f.params) := (HB1.out.cell (p := ⟨w.heap.size, 0, none⟩) (by simp)).trans (by go_simp)
  have f1 : w1.cell? ⟨w.heap.size, 1, none⟩ = some (.int .i64 f.names) := (HB1.out.cell (p := ⟨w.heap.size, 1, none⟩) (by simp)).trans (by go_simp)
  have f2 : w1.cell? ⟨w.heap.size, 2, none⟩ = some (.slice A f.blocks.length c) := (HB1.out.cell (p := ⟨w.heap.size, 2, none⟩) (by simp)).trans (by go_simp)
  clear hb1 hr
  cases r
  · have HN : Hid (¬ FunP f) := fun h => by have := HR.out.2 h; cases this
    go_wp2_with fail
    go_ret
    exact ⟨false, rfl, ⟨fun h => (by cases h), fun h => absurd h.1 HN.out⟩, HB01.out⟩
  have HP := Lib.hid (HR.out.1 rfl)
  clear HR
  go_wp2_with fail
  refine (l2Has_any _ _ _ _ _ _ _ hn).mono ?_
  rintro e w2 ⟨rfl, hb2⟩
  have hz2 : w.heap.size + 1 ≤ w2.heap.size := by have := hb2.size; omega
  have HB2 := Lib.hid (HB1.out.trans (hb2.mono hz1))
  have HB02 : Hid (Below w.heap.size w w2) := ((Below.refl _ _).alloc (Nat.le_refl _) _).trans (HB2.out.mono (by omega))
  have g0 := (hb2.cell (p := ⟨w.heap.size, 0, none⟩) (show w.heap.size < w1.heap.size by omega)).trans f0
  have g1 := (hb2.cell (p := ⟨w.heap.size, 1, none⟩) (show w.heap.size < w1.heap.size by omega)).trans f1
  have g2 := (hb2.cell (p := ⟨w.heap.size, 2, none⟩) (show w.heap.size < w1.heap.size by omega)).trans f2
  clear hb2 f0 f1 f2
  cases ha : isBelowB a f.blocks.length
  · have HN := Lib.hid ha
    clear ha
    go_wp2_with fail
    go_ret
    exact ⟨false, rfl, ⟨fun h => (by cases h), fun h => (by have := h.2.1; rw [HN.out] at this; cases this)⟩, HB02.out⟩
  have HA := Lib.hid ha
  clear ha
  go_wp2_with fail
  refine (l2Has_any _ _ _ _ _ _ _ hn).mono ?_
  rintro e w3 ⟨rfl, hb3⟩
  have hz3 : w.heap.size + 1 ≤ w3.heap.size := by have := hb3.size; omega
  have HB3 := Lib.hid (HB2.out.trans (hb3.mono hz2))
  have HB03 : Hid (Below w.heap.size w w3) := ((Below.refl _ _).alloc (Nat.le_refl _) _).trans (HB3.out.mono (by omega))
  have k0 := (hb3.cell (p := ⟨w.heap.size, 0, none⟩) (show w.heap.size < w2.heap.size by omega)).trans g0
  have k1 := (hb3.cell (p := ⟨w.heap.size, 1, none⟩) (show w.heap.size < w2.heap.size by omega)).trans g1
  have k2 := (hb3.cell (p := ⟨w.heap.size, 2, none⟩) (show w.heap.size < w2.heap.size by omega)).trans g2
  clear hb3 g0 g1 g2
  cases hb : isBelowB b f.blocks.length
  · have HN := Lib.hid hb
    clear hb
    go_wp2_with fail
    go_ret
    exact ⟨false, rfl, ⟨fun h => (by cases h), fun h => (by have := h.2.2.1; rw [HN.out] at this; cases this)⟩, HB03.out⟩
  have hbb : 0 ≤ b ∧ b < f.blocks.length := by simpa [isBelowB] using hb
  have HBb := Lib.hid hb
  obtain ⟨t, rfl⟩ : ∃ t : Nat, b = t := ⟨b.toNat, by omega⟩
  have htn : t < f.blocks.length := by omega
  clear hb hbb
  go_wp2_with fail
  refine (l4Dom_ex f _ a t _ Z (HF.out.keep (Kept.below HB03.out hD)) (fun b hb => by have := hD b hb; omega) HP.out htn).mono ?_
  rintro e w4 ⟨r, rfl, hr, hb4⟩
  have HR := Lib.hid hr
  have HB04 := Lib.hid (HB03.out.trans (hb4.mono (by omega)))
  clear hb4 hr
  go_wp2_with fail
  go_ret
  exact ⟨r, rfl, ⟨fun h => ⟨HP.out, HA.out, HBb.out, HR.out.1 h⟩, fun h => HR.out.2 ⟨h.2.2.2.1, h.2.2.2.2⟩⟩, HB04.out⟩
end

end Go.Proofs.YteikpekffgifoaaDoor
