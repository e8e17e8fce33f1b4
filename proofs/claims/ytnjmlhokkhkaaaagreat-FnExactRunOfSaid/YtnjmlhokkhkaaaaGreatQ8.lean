/- RunM1, RunM2, InsP3, joined. -/
import Derived.Test.YtnjmlhokkhkaaaaGreatQ2
import Derived.Test.YtnjmlhokkhkaaaaGreatQ4
import Derived.Test.YtnjmlhokkhkaaaaGreatQ6
import Derived.Test.YtnjmlhokkhkaaaaGreatQ7
import Derived.Deep.DeepCutAuto
namespace Go.Proofs.YtnjmlhokkhkaaaaGreat

/- l6Moves and l6Phis of the model. -/
section
open Go.ChangeShapes Go.WideShapes Go.ChangeAt Go.RowKit Go.Joins

theorem OI.setI {w : World} {B : Nat} {v : Value} {xs : List Int} (h : OI w B v xs) {g cap : Nat} (hv : v = .slice (some ⟨g, 0, none⟩) xs.length cap) {x : Int} {k : Nat} (hx : x = k) (y : Int) : OI (w.setCell ⟨g, k, none⟩ (.int .i64 y)) B v (pN xs x y) := by
  subst hv hx
  have hs := (World.ownsRow.stored h k (iv y)).1
  unfold OI pN
  rw [Int.toNat_natCast, List.map_set, List.length_set]
  exact hs
theorem OI.cellI {w : World} {B : Nat} {v : Value} {xs : List Int} (h : OI w B v xs) {g cap : Nat} (hv : v = .slice (some ⟨g, 0, none⟩) xs.length cap) {k : Nat} (hk : k < xs.length) : (∃ u, w.cell? ⟨g, k, none⟩ = some u) ∧ w.frozen? ⟨g, k, none⟩ = false := by
  subst hv
  refine ⟨?_, World.ownsRow.frozenAt h k⟩
  have := World.ownsRow.cellAt h k (by omega)
  rw [this, List.getElem?_map, List.getElem?_eq_getElem hk]
  exact ⟨_, rfl⟩

set_option maxRecDepth 10000 in
set_option maxHeartbeats 2000000 in
theorem l6Moves_any (v mv : Value) (σ : List Int) (ms : List MoveD) (w : World) (Zm : Zn) (hv : RI w v σ) (hσ : σ.length ≤ 1000) (hm : Row w Zm 2 EMove mv ms) (hZ : ∀ b, Zm.D b → b < w.heap.size)
    (hok : ∀ (k : Nat) m, ms[k]? = some m → (0 ≤ m.dst ∧ m.dst < (σ.length : Int)) ∧ (0 ≤ m.src ∧ m.src < (σ.length : Int))) (hlen : ms.length ≤ 40) :
    Calls Tryz.prog 40 #[v, mv] w (GivesI (mvA ms σ) w) := by
  obtain ⟨_, A, c, rfl, hx⟩ := hm
  have HX := Lib.hid hx
  have HZ := Lib.hid hZ
  have HOK := Lib.hid hok
  have HV := Lib.hid hv
  obtain ⟨_, Av, cv, rfl, hvx⟩ := hv
  have HVX := Lib.hid hvx
  clear hx hZ hok hvx
  go_enter Tryz.func40, Tryz.ntmps40
  go_wp2_with fail
  refine (l1Copy_any _ σ _ HV.out (by omega)).mono ?_
  rintro e w1 ⟨v2, rfl, ho1, hb1⟩
  have HO1 : Hid (OI w1 w.heap.size v2 (mvS ms σ 0)) := ho1
  have HB1 := Lib.hid hb1
  clear ho1 hb1
  go_wp2_with fail
  go_loopw [6] (fun i wr => ∃ k : Nat, k ≤ ms.length ∧ i = .int .i64 k ∧ Hid (OI wr w.heap.size v2 (mvS ms σ k)) ∧ Hid (Below w.heap.size w wr)) (fun i _ => ms.length - (intOf i).toNat)
  case atStart => exact ⟨0, Nat.zero_le _, rfl, HO1.out, HB1.out⟩
  clear HO1 HB1
  case round =>
    obtain ⟨k, hk, rfl, HO, HB⟩ := hrel
    by_cases hkl : k < ms.length
    case neg =>
      obtain rfl : k = ms.length := by omega
      go_wp2_with fail
      go_ret
      exact ⟨_, rfl, HO.out, HB.out⟩
    have hkl' : (k : Int) < (ms.length : Int) := by omega
    have hmk : ms[k]? = some ms[k] := List.getElem?_eq_getElem hkl
    generalize ms[k] = m at hmk
    obtain ⟨b, off, rfl, hDb, hrow⟩ := HX.out (by rintro rfl; simp at hkl)
    obtain ⟨cs, hE, hcs⟩ := hrow k m hmk
    subst hE
    have hbb := HZ.out b hDb
    have c0 : wr.cell? ⟨b, off + k * 2, none⟩ = some (.int .i64 m.dst) := (HB.out.cell (p := ⟨b, _, none⟩) hbb).trans (hcs 0 _ rfl).1
    have c1 : wr.cell? ⟨b, off + k * 2 + 1, none⟩ = some (.int .i64 m.src) := (HB.out.cell (p := ⟨b, _, none⟩) hbb).trans (hcs 1 _ rfl).1
    obtain ⟨⟨hd0, hd1⟩, hs0, hs1⟩ := HOK.out k m hmk
    have HSU : Hid (mvS ms σ (k + 1) = pN (mvS ms σ k) m.dst (gN σ m.src)) := mvS_succ hmk
    clear hmk hcs hrow hbb
    obtain ⟨dst, src⟩ := m
    simp only at c0 c1 hd0 hd1 hs0 hs1 HSU
    obtain ⟨a, rfl⟩ : ∃ a : Nat, src = a := ⟨src.toNat, by omega⟩
    obtain ⟨d, rfl⟩ : ∃ d : Nat, dst = d := ⟨dst.toNat, by omega⟩
    have hal : a < σ.length := by omega
    have hdl : d < (mvS ms σ k).length := by rw [mvS_len]; omega
    obtain ⟨b2, off2, rfl, hvc⟩ := HVX.out (by rintro rfl; simp at hal)
    have hva := hvc a _ (gN_get (x := (a : Int)) rfl hal)
    have va : wr.cell? ⟨b2, off2 + a, none⟩ = some (.int .i64 (gN σ a)) := (HB.out.cell (p := ⟨b2, _, none⟩) (World.block_lt_of_cell? w ⟨b2, _, none⟩ hva)).trans hva
    obtain ⟨x, hxx⟩ : ∃ x, x = gN σ a := ⟨_, rfl⟩
    rw [← hxx] at HSU va
    obtain ⟨g, cap, hv2, hBg, _⟩ := World.ownsRow.form HO.out (by omega)
    subst hv2
    obtain ⟨⟨u0, vc⟩, vf⟩ := HO.out.cellI (k := d) rfl hdl
    have hdl' : (d : Int) < ((mvS ms σ k).length : Int) := by omega
    have hNl : (mvS ms σ k).length ≤ 9223372036854775807 := HO.out.ri.1
    clear hvc hva hxx
    have HO3 : Hid (OI ((wr.setCell ⟨g, d, none⟩ (.int .i64 x)).drew) w.heap.size (.slice (some ⟨g, 0, none⟩) (mvS ms σ k).length cap) (mvS ms σ (k + 1))) := by
      rw [HSU.out]
      exact (HO.out.setI rfl (x := (d : Int)) rfl x).drewN 1
    have HB3 : Hid (Below w.heap.size w ((wr.setCell ⟨g, d, none⟩ (.int .i64 x)).drew)) := below_drewN (HB.out.setCell hBg _) 1
    go_upto_region 5 with fail
    have Kd : (fun w' => w'.cell? ⟨b, off + k * 2, none⟩ = some (.int .i64 d) ∧ w'.cell? ⟨b, off + k * 2 + 1, none⟩ = some (.int .i64 a) ∧ w'.cell? ⟨b2, off2 + a, none⟩ = some (.int .i64 x)) wr.drew := ⟨c0, c1, va⟩
    refine wp_region_offL (S := ((fun w' => w'.cell? ⟨b, off + k * 2, none⟩ = some (.int .i64 d) ∧ w'.cell? ⟨b, off + k * 2 + 1, none⟩ = some (.int .i64 a) ∧ w'.cell? ⟨b2, off2 + a, none⟩ = some (.int .i64 x)))) (by simp) (by kernel_rfl) (by kernel_rfl) (by kernel_rfl) (by kernel_rfl) (by kernel_rfl) ?_ (fun hHeld => ?_)
    · (try dsimp only)
      (first | exact Kd | fail)
    simp only [List.dropLast_cons_cons, List.dropLast_singleton, List.length_cons, List.length_nil]
    refine wpAnyH_take (i := 0) (v := ?_) rfl (by kernel_rfl) (by kernel_rfl) (by kernel_rfl) (fun _ _ _ h => h) (Or.inl ⟨by rfl, ?_⟩) (by assumption) ?_
    rotate_left
    · intro w hSw
      simp only [List.getElem_toArray, List.getElem_cons_zero]
      (try dsimp only at hSw)
      go_simp
      first | done | (with_reducible rfl)
    simp only [List.getElem_toArray, List.getElem_cons_zero, Act.put, List.setIfInBounds_toArray, List.set_cons_zero, List.set_cons_succ]
    refine wpAnyH_take (i := 1) (v := ?_) rfl (by kernel_rfl) (by kernel_rfl) (by kernel_rfl) (fun _ _ _ h => h) (Or.inl ⟨by rfl, ?_⟩) (by assumption) ?_
    rotate_left
    · intro w hSw
      simp only [List.getElem_toArray, List.getElem_cons_succ, List.getElem_cons_zero]
      (try dsimp only at hSw)
      go_simp
      first | done | (with_reducible rfl)
    simp only [List.getElem_toArray, List.getElem_cons_succ, List.getElem_cons_zero, Act.put, List.setIfInBounds_toArray, List.set_cons_zero, List.set_cons_succ]
    refine wpAnyH_take (i := 2) (v := ?_) rfl (by kernel_rfl) (by kernel_rfl) (by kernel_rfl) (fun _ _ _ h => h) (Or.inl ⟨by rfl, ?_⟩) (by assumption) ?_
    rotate_left
    · intro w hSw
      simp only [List.getElem_toArray, List.getElem_cons_succ, List.getElem_cons_zero]
      (try dsimp only at hSw)
      go_simp
      first | done | (with_reducible rfl)
    simp only [List.getElem_toArray, List.getElem_cons_succ, List.getElem_cons_zero, Act.put, List.setIfInBounds_toArray, List.set_cons_zero, List.set_cons_succ]
    refine wpAnyH_take (i := 3) (v := ?_) rfl (by kernel_rfl) (by kernel_rfl) (by kernel_rfl) (fun _ _ _ h => h) (Or.inl ⟨by rfl, ?_⟩) (by assumption) ?_
    rotate_left
    · intro w hSw
      simp only [List.getElem_toArray, List.getElem_cons_succ, List.getElem_cons_zero]
      (try dsimp only at hSw)
      go_simp
      first | done | (with_reducible rfl)
    simp only [List.getElem_toArray, List.getElem_cons_succ, List.getElem_cons_zero, Act.put, List.setIfInBounds_toArray, List.set_cons_zero, List.set_cons_succ]
    refine wpAnyH_take (i := 4) (v := ?_) rfl (by kernel_rfl) (by kernel_rfl) (by kernel_rfl) (fun _ _ _ h => h) (Or.inl ⟨by rfl, ?_⟩) (by assumption) ?_
    rotate_left
    · intro w hSw
      simp only [List.getElem_toArray, List.getElem_cons_succ, List.getElem_cons_zero]
      (try dsimp only at hSw)
      go_simp
      first | done | (with_reducible rfl)
    simp only [List.getElem_toArray, List.getElem_cons_succ, List.getElem_cons_zero, Act.put, List.setIfInBounds_toArray, List.set_cons_zero, List.set_cons_succ]
    refine wpAnyH_take (i := 5) (v := ?_) rfl (by kernel_rfl) (by kernel_rfl) (by kernel_rfl) (fun _ _ _ h => h) (Or.inl ⟨by rfl, ?_⟩) (by assumption) ?_
    rotate_left
    · intro w hSw
      simp only [List.getElem_toArray, List.getElem_cons_succ, List.getElem_cons_zero]
      (try dsimp only at hSw)
      go_simp
      first | done | (with_reducible rfl)
    simp only [List.getElem_toArray, List.getElem_cons_succ, List.getElem_cons_zero, Act.put, List.setIfInBounds_toArray, List.set_cons_zero, List.set_cons_succ]
    refine wpAnyH_take (i := 6) (v := ?_) rfl (by kernel_rfl) (by kernel_rfl) (by kernel_rfl) (fun _ _ _ h => h) (Or.inl ⟨by rfl, ?_⟩) (by assumption) ?_
    rotate_left
    · intro w hSw
      simp only [List.getElem_toArray, List.getElem_cons_succ, List.getElem_cons_zero]
      (try dsimp only at hSw)
      go_simp
      first | done | (with_reducible rfl)
    simp only [List.getElem_toArray, List.getElem_cons_succ, List.getElem_cons_zero, Act.put, List.setIfInBounds_toArray, List.set_cons_zero, List.set_cons_succ]
    refine wpAnyH_take (i := 7) (v := ?_) rfl (by kernel_rfl) (by kernel_rfl) (by kernel_rfl) (fun _ _ _ h => h) (Or.inl ⟨by rfl, ?_⟩) (by assumption) ?_
    rotate_left
    · intro w hSw
      simp only [List.getElem_toArray, List.getElem_cons_succ, List.getElem_cons_zero]
      (try dsimp only at hSw)
      go_simp
      first | done | (with_reducible rfl)
    simp only [List.getElem_toArray, List.getElem_cons_succ, List.getElem_cons_zero, Act.put, List.setIfInBounds_toArray, List.set_cons_zero, List.set_cons_succ]
    refine wpAnyH_take (i := 8) (v := ?_) rfl (by kernel_rfl) (by kernel_rfl) (by kernel_rfl) (fun _ _ _ h => h) (Or.inl ⟨by rfl, ?_⟩) (by assumption) ?_
    rotate_left
    · intro w hSw
      simp only [List.getElem_toArray, List.getElem_cons_succ, List.getElem_cons_zero]
      (try dsimp only at hSw)
      go_simp
      first | done | (with_reducible rfl)
    simp only [List.getElem_toArray, List.getElem_cons_succ, List.getElem_cons_zero, Act.put, List.setIfInBounds_toArray, List.set_cons_zero, List.set_cons_succ]
    refine wpAnyH_take (i := 9) (v := ?_) rfl (by kernel_rfl) (by kernel_rfl) (by kernel_rfl) (fun _ _ _ h => h) (Or.inl ⟨by rfl, ?_⟩) (by assumption) ?_
    rotate_left
    · intro w hSw
      simp only [List.getElem_toArray, List.getElem_cons_succ, List.getElem_cons_zero]
      (try dsimp only at hSw)
      go_simp
      first | done | (with_reducible rfl)
    simp only [List.getElem_toArray, List.getElem_cons_succ, List.getElem_cons_zero, Act.put, List.setIfInBounds_toArray, List.set_cons_zero, List.set_cons_succ]
    refine wpAnyH_take (i := 10) (v := ?_) rfl (by kernel_rfl) (by kernel_rfl) (by kernel_rfl) (fun _ _ _ h => h) (Or.inl ⟨by rfl, ?_⟩) (by assumption) ?_
    rotate_left
    · intro w hSw
      simp only [List.getElem_toArray, List.getElem_cons_succ, List.getElem_cons_zero]
      (try dsimp only at hSw)
      go_simp
      first | done | (with_reducible rfl)
    simp only [List.getElem_toArray, List.getElem_cons_succ, List.getElem_cons_zero, Act.put, List.setIfInBounds_toArray, List.set_cons_zero, List.set_cons_succ]
    refine wpAnyH_take (i := 11) (v := ?_) rfl (by kernel_rfl) (by kernel_rfl) (by kernel_rfl) (fun _ _ _ h => h) (Or.inl ⟨by rfl, ?_⟩) (by assumption) ?_
    rotate_left
    · intro w hSw
      simp only [List.getElem_toArray, List.getElem_cons_succ, List.getElem_cons_zero]
      (try dsimp only at hSw)
      go_simp
      first | done | (with_reducible rfl)
    simp only [List.getElem_toArray, List.getElem_cons_succ, List.getElem_cons_zero, Act.put, List.setIfInBounds_toArray, List.set_cons_zero, List.set_cons_succ]
    refine wpAnyH_take (i := 12) (v := ?_) rfl (by kernel_rfl) (by kernel_rfl) (by kernel_rfl) (fun _ _ _ h => h) (Or.inl ⟨by rfl, ?_⟩) (by assumption) ?_
    rotate_left
    · intro w hSw
      simp only [List.getElem_toArray, List.getElem_cons_succ, List.getElem_cons_zero]
      (try dsimp only at hSw)
      go_simp
      first | done | (with_reducible rfl)
    simp only [List.getElem_toArray, List.getElem_cons_succ, List.getElem_cons_zero, Act.put, List.setIfInBounds_toArray, List.set_cons_zero, List.set_cons_succ]
    refine wpAnyH_take (i := 13) (v := ?_) rfl (by kernel_rfl) (by kernel_rfl) (by kernel_rfl) (fun _ _ _ h => h) (Or.inl ⟨by rfl, ?_⟩) (by assumption) ?_
    rotate_left
    · intro w hSw
      simp only [List.getElem_toArray, List.getElem_cons_succ, List.getElem_cons_zero]
      (try dsimp only at hSw)
      go_simp
      first | done | (with_reducible rfl)
    simp only [List.getElem_toArray, List.getElem_cons_succ, List.getElem_cons_zero, Act.put, List.setIfInBounds_toArray, List.set_cons_zero, List.set_cons_succ]
    refine wpAnyH_take (i := 14) (v := ?_) rfl (by kernel_rfl) (by kernel_rfl) (by kernel_rfl) (fun _ _ _ h => h) (Or.inl ⟨by rfl, ?_⟩) (by assumption) ?_
    rotate_left
    · intro w hSw
      simp only [List.getElem_toArray, List.getElem_cons_succ, List.getElem_cons_zero]
      (try dsimp only at hSw)
      go_simp
      first | done | (with_reducible rfl)
    simp only [List.getElem_toArray, List.getElem_cons_succ, List.getElem_cons_zero, Act.put, List.setIfInBounds_toArray, List.set_cons_zero, List.set_cons_succ]
    refine wpAnyH_done (by kernel_rfl) ?_ _
    refine offQ_last rfl (fun KL hKL => ?_)
    go_simp
    refine hKL.out _ _ ?_
    (try rw [show wr.drew.setCell ⟨g, d, none⟩ (.int .i64 x) = (wr.setCell ⟨g, d, none⟩ (.int .i64 x)).drew from rfl])
    generalize (wr.setCell ⟨g, d, none⟩ (.int .i64 x)).drew = w3 at *
    clear Kd c0 c1 va vc vf
    go_wp2_with fail
    go_roundw
    case rel => exact ⟨k + 1, by omega, by go_num, HO3.out, HB3.out⟩
    case measure => simp [intOf]; omega
end

/- l6Phis of the model. -/
section
open Go.ChangeShapes Go.WideShapes Go.ChangeAt Go.RowKit Go.Joins

theorem mvA_nil (σ : List Int) : mvA [] σ = σ := rfl
theorem mvA_at {ms : List MoveD} {σ : List Int} {k : Nat} (h : k = ms.length) : mvS ms σ k = mvA ms σ := by subst h; rfl

set_option maxRecDepth 10000 in
set_option maxHeartbeats 4000000 in
theorem l6Phis_any (f : FunD) (F v : Value) (σ : List Int) (at0 : Nat) (pred : Int) (x : BlockD) (w : World) (Z : Zn) (hp : FunP f) (hF : EFun w Z f F) (hD : ∀ b, Z.D b → b < w.heap.size) (hv : RI w v σ) (hn : f.names = σ.length)
    (hx : f.blocks[at0]? = some x) (hc : x.phis = [] ∨ pred ∈ predsF f at0) :
    Calls Tryz.prog 41 #[F, v, .int .i64 at0, .int .i64 pred] w (GivesI (mvA (phM (wayF f at0 pred) x.phis) σ) w) := by
  have HF := Lib.hid hF
  have HV := Lib.hid hv
  have HDl := Lib.hid hD
  have HP := Lib.hid hp
  have hlt : at0 < f.blocks.length := (List.getElem?_eq_some_iff.1 hx).1
  have hlt' : (at0 : Int) < (f.blocks.length : Int) := by omega
  have hat0 : 0 ≤ (at0 : Int) := by omega
  have h40 := hp.1.1.2
  have hσ : σ.length ≤ 150 := by have := hp.1.2.1.2; omega
  obtain ⟨u, rfl, hu⟩ := hF
  obtain ⟨_, A, c, rfl, hxr⟩ := hu
  obtain ⟨b, off, rfl, hDb, hr8⟩ := hxr (by intro e; rw [e] at hlt; simp at hlt)
  obtain ⟨cs, hE, hcs⟩ := hr8 at0 x hx
  obtain ⟨v0, v1, v2', v3, rfl, hr0, _⟩ := hE
  obtain ⟨_, A0, q0, rfl, h0⟩ := hr0
  have HPH0 : Hid (w.cell? ⟨b, off + at0 * 8, none⟩ = some (.slice A0 x.phis.length q0)) := by have h := (hcs 0 _ rfl).1; rw [Nat.add_zero] at h; exact h
  have H0 := Lib.hid h0
  have HPH := Lib.hid (hp.2.2.2 at0 x hx).2
  have hp4 := (hp.2.2.2 at0 x hx).1
  have hbl := hD b hDb
  obtain ⟨_, Av, cv, rfl, hvx⟩ := hv
  have HVX := Lib.hid hvx
  have HN := Lib.hid hn
  have hpl := predsF_len f at0
  have HCC := Lib.hid hc
  clear hcs hr8 hxr h0 hx hvx hp hn hc
  go_enter Tryz.func41, Tryz.ntmps41
  go_wp2_with fail
  have hB0 : Below w.heap.size w (w.alloc (.cells #[.int .i64 f.params, .int .i64 f.names, .slice (some ⟨b, off, none⟩) f.blocks.length c] 26)) := (Below.refl _ _).alloc (Nat.le_refl _) _
  have k0 : (w.alloc (.cells #[.int .i64 f.params, .int .i64 f.names, .slice (some ⟨b, off, none⟩) f.blocks.length c] 26)).cell? ⟨w.heap.size, 0, none⟩ = some (.int .i64 f.params) := by go_simp
  have k1 : (w.alloc (.cells #[.int .i64 f.params, .int .i64 f.names, .slice (some ⟨b, off, none⟩) f.blocks.length c] 26)).cell? ⟨w.heap.size, 1, none⟩ = some (.int .i64 f.names) := by go_simp
  have k2 : (w.alloc (.cells #[.int .i64 f.params, .int .i64 f.names, .slice (some ⟨b, off, none⟩) f.blocks.length c] 26)).cell? ⟨w.heap.size, 2, none⟩ = some (.slice (some ⟨b, off, none⟩) f.blocks.length c) := by go_simp
  have hs0 : (w.alloc (.cells #[.int .i64 f.params, .int .i64 f.names, .slice (some ⟨b, off, none⟩) f.blocks.length c] 26)).heap.size = w.heap.size + 1 := by simp
  have HVa : Hid (RI (w.alloc (.cells #[.int .i64 f.params, .int .i64 f.names, .slice (some ⟨b, off, none⟩) f.blocks.length c] 26)) (.slice Av σ.length cv) σ) := by
    obtain ⟨g1, A', c', e', g2⟩ := HV.out
    refine ⟨g1, A', c', e', fun hne => ?_⟩
    obtain ⟨b', o', e2, g3⟩ := g2 hne
    exact ⟨b', o', e2, fun k u hu => (hB0.cell (p := ⟨b', _, none⟩) (World.block_lt_of_cell? w ⟨b', _, none⟩ (g3 k u hu))).trans (g3 k u hu)⟩
  obtain ⟨q, hq⟩ : ∃ q, q = w.heap.size := ⟨_, rfl⟩
  rw [← hq] at k0 k1 k2 hs0 ⊢
  generalize w.alloc (.cells #[.int .i64 f.params, .int .i64 f.names, .slice (some ⟨b, off, none⟩) f.blocks.length c] 26) = w0 at *
  have HB0 := Lib.hid hB0
  have hqw : w.heap.size ≤ q := by omega
  have HQW : Hid (q = w.heap.size) := hq
  clear hB0 hq
  refine (l1Copy_any _ σ _ HVa.out (by omega)).mono ?_
  rintro e w1 ⟨v2, rfl, ho1, hb1⟩
  have HO1 : Hid (OI w1 (q + 1) v2 σ) := by rw [hs0] at ho1; exact ho1
  have HB1 : Hid (Below (q + 1) w0 w1) := by rw [hs0] at hb1; exact hb1
  have k0' := (HB1.out.cell (p := ⟨q, 0, none⟩) (by simp)).trans k0
  have k1' := (HB1.out.cell (p := ⟨q, 1, none⟩) (by simp)).trans k1
  have k2' := (HB1.out.cell (p := ⟨q, 2, none⟩) (by simp)).trans k2
  have HK2 := Lib.hid k2
  have hz1 : q + 1 ≤ w1.heap.size := by have := hb1.size; omega
  have HBW1 : Hid (Below w.heap.size w w1) := HB0.out.trans (HB1.out.mono (by omega))
  clear ho1 hb1 k0 k1 k2 hs0 HVa
  go_wp2_with fail
  refine (l2Preds_any f _ at0 _ Z (HF.out.keep (Kept.below HBW1.out HDl.out)) (fun b hb => by have := HDl.out b hb; omega) (by omega)).mono ?_
  rintro e w2 ⟨vp, rfl, hop, hb2⟩
  have HB2 : Hid (Below (q + 1) w0 w2) := HB1.out.trans (hb2.mono hz1)
  have HO2 : Hid (OI w2 (q + 1) v2 (mvS (phM (wayF f at0 pred) x.phis) σ 0)) := HO1.out.below hb2 fun k hk => (HO1.out.lt k hk).2
  have HAV : Hid (∀ k, v2.ownBlock = some k → k < w1.heap.size) := fun k hk => (HO1.out.lt k hk).2
  have HPV : Hid (∀ k, vp.ownBlock = some k → w1.heap.size ≤ k) := fun k hk => (hop.lt k hk).1
  have HP2 := Lib.hid hop
  obtain ⟨_, Ap, cp, rfl, _⟩ := hop.ri
  clear hb2 hop HO1 HB1 HBW1 k0' k1' k2'
  generalize hps : predsF f at0 = ps at *
  have HPS := Lib.hid hps
  clear hps
  generalize hP : phM (wayF f at0 pred) x.phis = P at *
  have HPP := Lib.hid hP
  have hPl : P.length = x.phis.length := by rw [← hP]; exact phM_len _ _
  clear hP
  go_wp2_with fail
  go_loopw [11] (fun i wr => ∃ k : Nat, k ≤ x.phis.length ∧ i = .int .i64 k ∧ Hid (OI wr (q + 1) v2 (mvS P σ k)) ∧ Hid (Below (q + 1) w0 wr) ∧ Hid (OI wr w1.heap.size (.slice Ap ps.length cp) ps)) (fun i _ => x.phis.length - (intOf i).toNat)
  case atStart => exact ⟨0, Nat.zero_le _, rfl, HO2.out, HB2.out, HP2.out⟩
  clear HO2 HB2 HP2
  case round =>
    obtain ⟨k, hk, rfl, HO, HB, HPR⟩ := hrel
    have r2 : wr.cell? ⟨q, 2, none⟩ = some (.slice (some ⟨b, off, none⟩) f.blocks.length c) := (HB.out.cell (p := ⟨q, 2, none⟩) (by simp)).trans HK2.out
    have HBW : Hid (Below w.heap.size w wr) := HB0.out.trans (HB.out.mono (by omega))
    have p0 : wr.cell? ⟨b, off + at0 * 8, none⟩ = some (.slice A0 x.phis.length q0) := (HBW.out.cell (p := ⟨b, _, none⟩) hbl).trans HPH0.out
    by_cases hkl : k < x.phis.length
    case neg =>
      obtain rfl : k = x.phis.length := by omega
      go_wp2_with fail
      go_ret
      exact ⟨_, rfl, by rw [← mvA_at hPl.symm]; exact World.ownsRow.mono HO.out (by omega), HBW.out⟩
    have hne : x.phis ≠ [] := by rintro e; rw [e] at hkl; simp at hkl
    have hpm : pred ∈ ps := by
      rcases HCC.out with h | h
      · exact absurd h hne
      · exact h
    have hkl' : (k : Int) < (x.phis.length : Int) := by omega
    have hxk : x.phis[k]? = some x.phis[k] := List.getElem?_eq_getElem hkl
    generalize x.phis[k] = ph at hxk
    obtain ⟨way, hway⟩ : ∃ way, way = wayF f at0 pred := ⟨_, rfl⟩
    have hwg : ps[way]? = some pred := by
      have h := wayF_get (f := f) (t := (at0 : Int)) (k := pred) (by rw [HPS.out]; exact hpm)
      rw [HPS.out] at h
      rw [hway]; exact h
    have HWO : Hid (∀ j, ps[j]? = some pred → j = way) := fun j hj => by
      rw [hway]
      exact wayF_only (f := f) (by rw [HPS.out]; exact hj)
    have hwl : way < ps.length := (List.getElem?_eq_some_iff.1 hwg).1
    have hPk : P[k]? = some ⟨ph.v, ph.args.getD way 0⟩ := by rw [← HPP.out, ← hway]; exact phM_get hxk
    have HSU : Hid (mvS P σ (k + 1) = pN (mvS P σ k) ph.v (gN σ (ph.args.getD way 0))) := mvS_succ hPk
    obtain ⟨b3, off3, rfl, hDb3, hrow3⟩ := H0.out hne
    obtain ⟨ds, hE3, hds⟩ := hrow3 k ph hxk
    obtain ⟨u', rfl, _, A9, q9, rfl, hargs⟩ := hE3
    have hbl3 := HDl.out b3 hDb3
    have hph := HPH.out k ph hxk
    have hal : ph.args.length = ps.length := hph.2.1
    obtain ⟨b4, off4, rfl, hDb4, hrow4⟩ := hargs (by intro h; rw [h] at hal; simp at hal; omega)
    have hxa : ph.args[way]? = some ph.args[way] := List.getElem?_eq_getElem (by omega)
    have HGD : ph.args.getD way 0 = ph.args[way] := by rw [List.getD_eq_getElem?_getD, hxa]; rfl
    generalize ph.args[way] = a at hxa HGD
    rw [HGD] at HSU
    have ha4 := hph.2.2 way a hxa
    have hv4 := hph.1
    rw [below_iff, HN.out] at ha4 hv4
    obtain ⟨ds4, hE4, hds4⟩ := hrow4 way a hxa
    subst hE4
    have hbl4 := HDl.out b4 hDb4
    have H40 := Lib.hid (hds4 0 _ rfl).1
    have HD0 := Lib.hid (hds 0 _ rfl).1
    have HD1 := Lib.hid (hds 1 _ rfl).1
    have hpv := hph.1
    clear hds hds4 hrow3 hrow4 hargs hxk hxa HGD hPk hph hpv
    generalize ph.v = dv at *
    obtain ⟨d, rfl⟩ : ∃ d : Nat, dv = d := ⟨dv.toNat, by omega⟩
    obtain ⟨a, rfl⟩ : ∃ a' : Nat, a = a' := ⟨a.toNat, by omega⟩
    have hal2 : a < σ.length := by omega
    have hdl2 : d < σ.length := by omega
    generalize ph.args.length = al at *
    subst hal
    obtain ⟨b2, off2, rfl, hvc⟩ := HVX.out (by rintro rfl; simp at hal2)
    have HVA := Lib.hid (hvc a _ (gN_get (x := (a : Int)) rfl hal2))
    obtain ⟨y, hyy⟩ : ∃ y, y = gN σ a := ⟨_, rfl⟩
    rw [← hyy] at HSU HVA
    have hwp : 0 ≤ (way : Int) := by omega
    have HWP := Lib.hid hwg
    clear hvc hyy hway hwg hpm
    go_wp2_with fail
    clear r2 p0
    have HOi : Hid (OI wr (q + 1) v2 (if way < 0 then mvS P σ (k + 1) else mvS P σ k)) := by rw [Hid, if_neg (by omega)]; exact HO.out
    go_loopw [12] (fun i wr => ∃ j : Nat, j ≤ ps.length ∧ i = .int .i64 j ∧ Hid (OI wr (q + 1) v2 (if way < j then mvS P σ (k + 1) else mvS P σ k)) ∧ Hid (Below (q + 1) w0 wr) ∧ Hid (OI wr w1.heap.size (.slice Ap ps.length cp) ps)) (fun i _ => ps.length - (intOf i).toNat)
    case atStart => exact ⟨0, Nat.zero_le _, rfl, HOi.out, HB.out, HPR.out⟩
    clear HOi HO HB HPR HBW
    case round =>
      obtain ⟨j, hj, rfl, HO, HB, HPR⟩ := hrel
      have r2 : wr.cell? ⟨q, 2, none⟩ = some (.slice (some ⟨b, off, none⟩) f.blocks.length c) := (HB.out.cell (p := ⟨q, 2, none⟩) (by simp)).trans HK2.out
      have HBW : Hid (Below w.heap.size w wr) := HB0.out.trans (HB.out.mono (by omega))
      have p0 : wr.cell? ⟨b, off + at0 * 8, none⟩ = some (.slice (some ⟨b3, off3, none⟩) x.phis.length q0) := (HBW.out.cell (p := ⟨b, _, none⟩) hbl).trans HPH0.out
      by_cases hjl : j < ps.length
      case neg =>
        obtain rfl : j = ps.length := by omega
        have HO' : Hid (OI wr (q + 1) v2 (mvS P σ (k + 1))) := by have h := HO.out; rwa [if_pos hwl] at h
        clear HO
        go_wp2_with fail
        go_roundw
        case rel => exact ⟨k + 1, by omega, by go_num, HO'.out, HB.out, HPR.out⟩
        case measure => simp [intOf]; omega
      have hjl' : (j : Int) < (ps.length : Int) := by omega
      have hpj : ps[j]? = some ps[j] := List.getElem?_eq_getElem hjl
      generalize ps[j] = z at hpj
      obtain ⟨_, Ap', cp', e5, hpx⟩ := HPR.out.ri
      injection e5 with e1 e0 e2
      clear e0
      subst e1 e2
      obtain ⟨bp, op, rfl, hpc⟩ := hpx (by rintro rfl; simp at hjl)
      have pc := hpc j z hpj
      have HZ := Lib.hid hpj
      clear hpx hpc hpj
      by_cases hz : z = pred
      case neg =>
        have hb : (z == pred) = false := by simpa using hz
        have hjw : j ≠ way := by
          rintro rfl
          have h1 := HWP.out
          rw [HZ.out] at h1
          exact hz (Option.some.inj h1)
        have HO' : Hid (OI wr (q + 1) v2 (if way < j + 1 then mvS P σ (k + 1) else mvS P σ k)) := by
          have h := HO.out
          by_cases hl : way < j
          · rw [if_pos hl] at h; rw [Hid, if_pos (by omega)]; exact h
          · rw [if_neg hl] at h; rw [Hid, if_neg (by omega)]; exact h
        clear hz hjw HO
        go_wp2_with fail
        go_roundw
        case rel => exact ⟨j + 1, by omega, by go_num, HO'.out, HB.out, HPR.out⟩
        case measure => simp [intOf]; omega
      have hjw := HWO.out j (by rw [HZ.out, hz])
      have hb : (z == pred) = true := by simpa using hz
      subst hjw
      have HO' : Hid (OI wr (q + 1) v2 (mvS P σ k)) := by have h := HO.out; rwa [if_neg (by omega)] at h
      clear hz HO
      have c0 : wr.cell? ⟨b3, off3 + k * 2, none⟩ = some (.int .i64 d) := (HBW.out.cell (p := ⟨b3, _, none⟩) hbl3).trans HD0.out
      have c1 : wr.cell? ⟨b3, off3 + k * 2 + 1, none⟩ = some (.slice (some ⟨b4, off4, none⟩) ps.length q9) := (HBW.out.cell (p := ⟨b3, _, none⟩) hbl3).trans HD1.out
      have c4 : wr.cell? ⟨b4, off4 + j, none⟩ = some (.int .i64 a) := by
        have h := (HBW.out.cell (p := ⟨b4, _, none⟩) hbl4).trans H40.out
        simpa using h
      have va : wr.cell? ⟨b2, off2 + a, none⟩ = some (.int .i64 y) := (HBW.out.cell (p := ⟨b2, _, none⟩) (World.block_lt_of_cell? w ⟨b2, _, none⟩ HVA.out)).trans HVA.out
      have hdl : d < (mvS P σ k).length := by rw [mvS_len]; exact hdl2
      obtain ⟨g, cap, hv2, hBg, _⟩ := World.ownsRow.form HO'.out (by omega)
      have HV2E := Lib.hid hv2
      have hgw := HAV.out g (by rw [hv2]; rfl)
      subst hv2
      obtain ⟨⟨u0, vc⟩, vf⟩ := HO'.out.cellI (k := d) rfl hdl
      have hdl' : (d : Int) < ((mvS P σ k).length : Int) := by omega
      have hal2' : (a : Int) < (σ.length : Int) := by omega
      have hNl : (mvS P σ k).length ≤ 9223372036854775807 := HO'.out.ri.1
      have hσl : σ.length ≤ 9223372036854775807 := by omega
      have HO3 : Hid (OI ((wr.setCell ⟨g, d, none⟩ (.int .i64 y)).drew) (q + 1) (.slice (some ⟨g, 0, none⟩) (mvS P σ k).length cap) (if j < j + 1 then mvS P σ (k + 1) else mvS P σ k)) := by
        rw [Hid, if_pos (by omega), HSU.out]
        exact (HO'.out.setI rfl (x := (d : Int)) rfl y).drewN 1
      have HB3 : Hid (Below (q + 1) w0 ((wr.setCell ⟨g, d, none⟩ (.int .i64 y)).drew)) := below_drewN (HB.out.setCell hBg _) 1
      have HPR3 : Hid (OI ((wr.setCell ⟨g, d, none⟩ (.int .i64 y)).drew) w1.heap.size (.slice (some ⟨bp, op, none⟩) ps.length cp) ps) := (HPR.out.fw (Fw.set (P := (· = g)) wr rfl d (.int .i64 y)) (fun kk hkk e => by have e' : kk = g := e; have := (HPR.out.lt kk hkk).1; omega)).drewN 1
      clear HO' HPR
      go_upto_region 10 with fail
      have Kd : (fun w' => w'.cell? ⟨q, 2, none⟩ = some (.slice (some ⟨b, off, none⟩) f.blocks.length c) ∧ w'.cell? ⟨b, off + at0 * 8, none⟩ = some (.slice (some ⟨b3, off3, none⟩) x.phis.length q0) ∧ w'.cell? ⟨b3, off3 + k * 2, none⟩ = some (.int .i64 d) ∧ w'.cell? ⟨b3, off3 + k * 2 + 1, none⟩ = some (.slice (some ⟨b4, off4, none⟩) ps.length q9) ∧ w'.cell? ⟨b4, off4 + j, none⟩ = some (.int .i64 a) ∧ w'.cell? ⟨b2, off2 + a, none⟩ = some (.int .i64 y)) wr.drew := ⟨r2, p0, c0, c1, c4, va⟩
      refine wp_region_offL (S := ((fun w' => w'.cell? ⟨q, 2, none⟩ = some (.slice (some ⟨b, off, none⟩) f.blocks.length c) ∧ w'.cell? ⟨b, off + at0 * 8, none⟩ = some (.slice (some ⟨b3, off3, none⟩) x.phis.length q0) ∧ w'.cell? ⟨b3, off3 + k * 2, none⟩ = some (.int .i64 d) ∧ w'.cell? ⟨b3, off3 + k * 2 + 1, none⟩ = some (.slice (some ⟨b4, off4, none⟩) ps.length q9) ∧ w'.cell? ⟨b4, off4 + j, none⟩ = some (.int .i64 a) ∧ w'.cell? ⟨b2, off2 + a, none⟩ = some (.int .i64 y)))) (by simp) (by kernel_rfl) (by kernel_rfl) (by kernel_rfl) (by kernel_rfl) (by kernel_rfl) ?_ (fun hHeld => ?_)
      · (try dsimp only)
        (first | exact Kd | fail)
      simp only [List.dropLast_cons_cons, List.dropLast_singleton, List.length_cons, List.length_nil]
      refine wpAnyH_take (i := 0) (v := ?_) rfl (by kernel_rfl) (by kernel_rfl) (by kernel_rfl) (fun _ _ _ h => h) (Or.inl ⟨by rfl, ?_⟩) (by assumption) ?_
      rotate_left
      · intro w hSw
        simp only [List.getElem_toArray, List.getElem_cons_zero]
        (try dsimp only at hSw)
        go_simp
        first | done | (with_reducible rfl)
      simp only [List.getElem_toArray, List.getElem_cons_zero, Act.put, List.setIfInBounds_toArray, List.set_cons_zero, List.set_cons_succ]
      refine wpAnyH_take (i := 1) (v := ?_) rfl (by kernel_rfl) (by kernel_rfl) (by kernel_rfl) (fun _ _ _ h => h) (Or.inl ⟨by rfl, ?_⟩) (by assumption) ?_
      rotate_left
      · intro w hSw
        simp only [List.getElem_toArray, List.getElem_cons_succ, List.getElem_cons_zero]
        (try dsimp only at hSw)
        go_simp
        first | done | (with_reducible rfl)
      simp only [List.getElem_toArray, List.getElem_cons_succ, List.getElem_cons_zero, Act.put, List.setIfInBounds_toArray, List.set_cons_zero, List.set_cons_succ]
      refine wpAnyH_take (i := 2) (v := ?_) rfl (by kernel_rfl) (by kernel_rfl) (by kernel_rfl) (fun _ _ _ h => h) (Or.inl ⟨by rfl, ?_⟩) (by assumption) ?_
      rotate_left
      · intro w hSw
        simp only [List.getElem_toArray, List.getElem_cons_succ, List.getElem_cons_zero]
        (try dsimp only at hSw)
        go_simp
        first | done | (with_reducible rfl)
      simp only [List.getElem_toArray, List.getElem_cons_succ, List.getElem_cons_zero, Act.put, List.setIfInBounds_toArray, List.set_cons_zero, List.set_cons_succ]
      refine wpAnyH_take (i := 3) (v := ?_) rfl (by kernel_rfl) (by kernel_rfl) (by kernel_rfl) (fun _ _ _ h => h) (Or.inl ⟨by rfl, ?_⟩) (by assumption) ?_
      rotate_left
      · intro w hSw
        simp only [List.getElem_toArray, List.getElem_cons_succ, List.getElem_cons_zero]
        (try dsimp only at hSw)
        go_simp
        first | done | (with_reducible rfl)
      simp only [List.getElem_toArray, List.getElem_cons_succ, List.getElem_cons_zero, Act.put, List.setIfInBounds_toArray, List.set_cons_zero, List.set_cons_succ]
      refine wpAnyH_take (i := 4) (v := ?_) rfl (by kernel_rfl) (by kernel_rfl) (by kernel_rfl) (fun _ _ _ h => h) (Or.inl ⟨by rfl, ?_⟩) (by assumption) ?_
      rotate_left
      · intro w hSw
        simp only [List.getElem_toArray, List.getElem_cons_succ, List.getElem_cons_zero]
        (try dsimp only at hSw)
        go_simp
        first | done | (with_reducible rfl)
      simp only [List.getElem_toArray, List.getElem_cons_succ, List.getElem_cons_zero, Act.put, List.setIfInBounds_toArray, List.set_cons_zero, List.set_cons_succ]
      refine wpAnyH_take (i := 5) (v := ?_) rfl (by kernel_rfl) (by kernel_rfl) (by kernel_rfl) (fun _ _ _ h => h) (Or.inl ⟨by rfl, ?_⟩) (by assumption) ?_
      rotate_left
      · intro w hSw
        simp only [List.getElem_toArray, List.getElem_cons_succ, List.getElem_cons_zero]
        (try dsimp only at hSw)
        go_simp
        first | done | (with_reducible rfl)
      simp only [List.getElem_toArray, List.getElem_cons_succ, List.getElem_cons_zero, Act.put, List.setIfInBounds_toArray, List.set_cons_zero, List.set_cons_succ]
      refine wpAnyH_take (i := 6) (v := ?_) rfl (by kernel_rfl) (by kernel_rfl) (by kernel_rfl) (fun _ _ _ h => h) (Or.inl ⟨by rfl, ?_⟩) (by assumption) ?_
      rotate_left
      · intro w hSw
        simp only [List.getElem_toArray, List.getElem_cons_succ, List.getElem_cons_zero]
        (try dsimp only at hSw)
        go_simp
        first | done | (with_reducible rfl)
      simp only [List.getElem_toArray, List.getElem_cons_succ, List.getElem_cons_zero, Act.put, List.setIfInBounds_toArray, List.set_cons_zero, List.set_cons_succ]
      refine wpAnyH_take (i := 7) (v := ?_) rfl (by kernel_rfl) (by kernel_rfl) (by kernel_rfl) (fun _ _ _ h => h) (Or.inl ⟨by rfl, ?_⟩) (by assumption) ?_
      rotate_left
      · intro w hSw
        simp only [List.getElem_toArray, List.getElem_cons_succ, List.getElem_cons_zero]
        (try dsimp only at hSw)
        go_simp
        first | done | (with_reducible rfl)
      simp only [List.getElem_toArray, List.getElem_cons_succ, List.getElem_cons_zero, Act.put, List.setIfInBounds_toArray, List.set_cons_zero, List.set_cons_succ]
      refine wpAnyH_take (i := 8) (v := ?_) rfl (by kernel_rfl) (by kernel_rfl) (by kernel_rfl) (fun _ _ _ h => h) (Or.inl ⟨by rfl, ?_⟩) (by assumption) ?_
      rotate_left
      · intro w hSw
        simp only [List.getElem_toArray, List.getElem_cons_succ, List.getElem_cons_zero]
        (try dsimp only at hSw)
        go_simp
        first | done | (with_reducible rfl)
      simp only [List.getElem_toArray, List.getElem_cons_succ, List.getElem_cons_zero, Act.put, List.setIfInBounds_toArray, List.set_cons_zero, List.set_cons_succ]
      refine wpAnyH_take (i := 9) (v := ?_) rfl (by kernel_rfl) (by kernel_rfl) (by kernel_rfl) (fun _ _ _ h => h) (Or.inl ⟨by rfl, ?_⟩) (by assumption) ?_
      rotate_left
      · intro w hSw
        simp only [List.getElem_toArray, List.getElem_cons_succ, List.getElem_cons_zero]
        (try dsimp only at hSw)
        go_simp
        first | done | (with_reducible rfl)
      simp only [List.getElem_toArray, List.getElem_cons_succ, List.getElem_cons_zero, Act.put, List.setIfInBounds_toArray, List.set_cons_zero, List.set_cons_succ]
      refine wpAnyH_take (i := 10) (v := ?_) rfl (by kernel_rfl) (by kernel_rfl) (by kernel_rfl) (fun _ _ _ h => h) (Or.inl ⟨by rfl, ?_⟩) (by assumption) ?_
      rotate_left
      · intro w hSw
        simp only [List.getElem_toArray, List.getElem_cons_succ, List.getElem_cons_zero]
        (try dsimp only at hSw)
        go_simp
        first | done | (with_reducible rfl)
      simp only [List.getElem_toArray, List.getElem_cons_succ, List.getElem_cons_zero, Act.put, List.setIfInBounds_toArray, List.set_cons_zero, List.set_cons_succ]
      refine wpAnyH_take (i := 11) (v := ?_) rfl (by kernel_rfl) (by kernel_rfl) (by kernel_rfl) (fun _ _ _ h => h) (Or.inl ⟨by rfl, ?_⟩) (by assumption) ?_
      rotate_left
      · intro w hSw
        simp only [List.getElem_toArray, List.getElem_cons_succ, List.getElem_cons_zero]
        (try dsimp only at hSw)
        go_simp
        first | done | (with_reducible rfl)
      simp only [List.getElem_toArray, List.getElem_cons_succ, List.getElem_cons_zero, Act.put, List.setIfInBounds_toArray, List.set_cons_zero, List.set_cons_succ]
      refine wpAnyH_take (i := 12) (v := ?_) rfl (by kernel_rfl) (by kernel_rfl) (by kernel_rfl) (fun _ _ _ h => h) (Or.inl ⟨by rfl, ?_⟩) (by assumption) ?_
      rotate_left
      · intro w hSw
        simp only [List.getElem_toArray, List.getElem_cons_succ, List.getElem_cons_zero]
        (try dsimp only at hSw)
        go_simp
        first | done | (with_reducible rfl)
      simp only [List.getElem_toArray, List.getElem_cons_succ, List.getElem_cons_zero, Act.put, List.setIfInBounds_toArray, List.set_cons_zero, List.set_cons_succ]
      refine wpAnyH_take (i := 13) (v := ?_) rfl (by kernel_rfl) (by kernel_rfl) (by kernel_rfl) (fun _ _ _ h => h) (Or.inl ⟨by rfl, ?_⟩) (by assumption) ?_
      rotate_left
      · intro w hSw
        simp only [List.getElem_toArray, List.getElem_cons_succ, List.getElem_cons_zero]
        (try dsimp only at hSw)
        go_simp
        first | done | (with_reducible rfl)
      simp only [List.getElem_toArray, List.getElem_cons_succ, List.getElem_cons_zero, Act.put, List.setIfInBounds_toArray, List.set_cons_zero, List.set_cons_succ]
      refine wpAnyH_take (i := 14) (v := ?_) rfl (by kernel_rfl) (by kernel_rfl) (by kernel_rfl) (fun _ _ _ h => h) (Or.inl ⟨by rfl, ?_⟩) (by assumption) ?_
      rotate_left
      · intro w hSw
        simp only [List.getElem_toArray, List.getElem_cons_succ, List.getElem_cons_zero]
        (try dsimp only at hSw)
        go_simp
        first | done | (with_reducible rfl)
      simp only [List.getElem_toArray, List.getElem_cons_succ, List.getElem_cons_zero, Act.put, List.setIfInBounds_toArray, List.set_cons_zero, List.set_cons_succ]
      refine wpAnyH_take (i := 15) (v := ?_) rfl (by kernel_rfl) (by kernel_rfl) (by kernel_rfl) (fun _ _ _ h => h) (Or.inl ⟨by rfl, ?_⟩) (by assumption) ?_
      rotate_left
      · intro w hSw
        simp only [List.getElem_toArray, List.getElem_cons_succ, List.getElem_cons_zero]
        (try dsimp only at hSw)
        go_simp
        first | done | (with_reducible rfl)
      simp only [List.getElem_toArray, List.getElem_cons_succ, List.getElem_cons_zero, Act.put, List.setIfInBounds_toArray, List.set_cons_zero, List.set_cons_succ]
      refine wpAnyH_take (i := 16) (v := ?_) rfl (by kernel_rfl) (by kernel_rfl) (by kernel_rfl) (fun _ _ _ h => h) (Or.inl ⟨by rfl, ?_⟩) (by assumption) ?_
      rotate_left
      · intro w hSw
        simp only [List.getElem_toArray, List.getElem_cons_succ, List.getElem_cons_zero]
        (try dsimp only at hSw)
        go_simp
        first | done | (with_reducible rfl)
      simp only [List.getElem_toArray, List.getElem_cons_succ, List.getElem_cons_zero, Act.put, List.setIfInBounds_toArray, List.set_cons_zero, List.set_cons_succ]
      refine wpAnyH_take (i := 17) (v := ?_) rfl (by kernel_rfl) (by kernel_rfl) (by kernel_rfl) (fun _ _ _ h => h) (Or.inl ⟨by rfl, ?_⟩) (by assumption) ?_
      rotate_left
      · intro w hSw
        simp only [List.getElem_toArray, List.getElem_cons_succ, List.getElem_cons_zero]
        (try dsimp only at hSw)
        go_simp
        first | done | (with_reducible rfl)
      simp only [List.getElem_toArray, List.getElem_cons_succ, List.getElem_cons_zero, Act.put, List.setIfInBounds_toArray, List.set_cons_zero, List.set_cons_succ]
      refine wpAnyH_take (i := 18) (v := ?_) rfl (by kernel_rfl) (by kernel_rfl) (by kernel_rfl) (fun _ _ _ h => h) (Or.inl ⟨by rfl, ?_⟩) (by assumption) ?_
      rotate_left
      · intro w hSw
        simp only [List.getElem_toArray, List.getElem_cons_succ, List.getElem_cons_zero]
        (try dsimp only at hSw)
        go_simp
        first | done | (with_reducible rfl)
      simp only [List.getElem_toArray, List.getElem_cons_succ, List.getElem_cons_zero, Act.put, List.setIfInBounds_toArray, List.set_cons_zero, List.set_cons_succ]
      refine wpAnyH_take (i := 19) (v := ?_) rfl (by kernel_rfl) (by kernel_rfl) (by kernel_rfl) (fun _ _ _ h => h) (Or.inl ⟨by rfl, ?_⟩) (by assumption) ?_
      rotate_left
      · intro w hSw
        simp only [List.getElem_toArray, List.getElem_cons_succ, List.getElem_cons_zero]
        (try dsimp only at hSw)
        go_simp
        first | done | (with_reducible rfl)
      simp only [List.getElem_toArray, List.getElem_cons_succ, List.getElem_cons_zero, Act.put, List.setIfInBounds_toArray, List.set_cons_zero, List.set_cons_succ]
      refine wpAnyH_take (i := 20) (v := ?_) rfl (by kernel_rfl) (by kernel_rfl) (by kernel_rfl) (fun _ _ _ h => h) (Or.inl ⟨by rfl, ?_⟩) (by assumption) ?_
      rotate_left
      · intro w hSw
        simp only [List.getElem_toArray, List.getElem_cons_succ, List.getElem_cons_zero]
        (try dsimp only at hSw)
        go_simp
        first | done | (with_reducible rfl)
      simp only [List.getElem_toArray, List.getElem_cons_succ, List.getElem_cons_zero, Act.put, List.setIfInBounds_toArray, List.set_cons_zero, List.set_cons_succ]
      refine wpAnyH_take (i := 21) (v := ?_) rfl (by kernel_rfl) (by kernel_rfl) (by kernel_rfl) (fun _ _ _ h => h) (Or.inl ⟨by rfl, ?_⟩) (by assumption) ?_
      rotate_left
      · intro w hSw
        simp only [List.getElem_toArray, List.getElem_cons_succ, List.getElem_cons_zero]
        (try dsimp only at hSw)
        go_simp
        first | done | (with_reducible rfl)
      simp only [List.getElem_toArray, List.getElem_cons_succ, List.getElem_cons_zero, Act.put, List.setIfInBounds_toArray, List.set_cons_zero, List.set_cons_succ]
      refine wpAnyH_take (i := 22) (v := ?_) rfl (by kernel_rfl) (by kernel_rfl) (by kernel_rfl) (fun _ _ _ h => h) (Or.inl ⟨by rfl, ?_⟩) (by assumption) ?_
      rotate_left
      · intro w hSw
        simp only [List.getElem_toArray, List.getElem_cons_succ, List.getElem_cons_zero]
        (try dsimp only at hSw)
        go_simp
        first | done | (with_reducible rfl)
      simp only [List.getElem_toArray, List.getElem_cons_succ, List.getElem_cons_zero, Act.put, List.setIfInBounds_toArray, List.set_cons_zero, List.set_cons_succ]
      refine wpAnyH_take (i := 23) (v := ?_) rfl (by kernel_rfl) (by kernel_rfl) (by kernel_rfl) (fun _ _ _ h => h) (Or.inl ⟨by rfl, ?_⟩) (by assumption) ?_
      rotate_left
      · intro w hSw
        simp only [List.getElem_toArray, List.getElem_cons_succ, List.getElem_cons_zero]
        (try dsimp only at hSw)
        go_simp
        first | done | (with_reducible rfl)
      simp only [List.getElem_toArray, List.getElem_cons_succ, List.getElem_cons_zero, Act.put, List.setIfInBounds_toArray, List.set_cons_zero, List.set_cons_succ]
      refine wpAnyH_take (i := 24) (v := ?_) rfl (by kernel_rfl) (by kernel_rfl) (by kernel_rfl) (fun _ _ _ h => h) (Or.inl ⟨by rfl, ?_⟩) (by assumption) ?_
      rotate_left
      · intro w hSw
        simp only [List.getElem_toArray, List.getElem_cons_succ, List.getElem_cons_zero]
        (try dsimp only at hSw)
        go_simp
        first | done | (with_reducible rfl)
      simp only [List.getElem_toArray, List.getElem_cons_succ, List.getElem_cons_zero, Act.put, List.setIfInBounds_toArray, List.set_cons_zero, List.set_cons_succ]
      refine wpAnyH_take (i := 25) (v := ?_) rfl (by kernel_rfl) (by kernel_rfl) (by kernel_rfl) (fun _ _ _ h => h) (Or.inl ⟨by rfl, ?_⟩) (by assumption) ?_
      rotate_left
      · intro w hSw
        simp only [List.getElem_toArray, List.getElem_cons_succ, List.getElem_cons_zero]
        (try dsimp only at hSw)
        go_simp
        first | done | (with_reducible rfl)
      simp only [List.getElem_toArray, List.getElem_cons_succ, List.getElem_cons_zero, Act.put, List.setIfInBounds_toArray, List.set_cons_zero, List.set_cons_succ]
      refine wpAnyH_take (i := 26) (v := ?_) rfl (by kernel_rfl) (by kernel_rfl) (by kernel_rfl) (fun _ _ _ h => h) (Or.inl ⟨by rfl, ?_⟩) (by assumption) ?_
      rotate_left
      · intro w hSw
        simp only [List.getElem_toArray, List.getElem_cons_succ, List.getElem_cons_zero]
        (try dsimp only at hSw)
        go_simp
        first | done | (with_reducible rfl)
      simp only [List.getElem_toArray, List.getElem_cons_succ, List.getElem_cons_zero, Act.put, List.setIfInBounds_toArray, List.set_cons_zero, List.set_cons_succ]
      refine wpAnyH_take (i := 27) (v := ?_) rfl (by kernel_rfl) (by kernel_rfl) (by kernel_rfl) (fun _ _ _ h => h) (Or.inl ⟨by rfl, ?_⟩) (by assumption) ?_
      rotate_left
      · intro w hSw
        simp only [List.getElem_toArray, List.getElem_cons_succ, List.getElem_cons_zero]
        (try dsimp only at hSw)
        go_simp
        first | done | (with_reducible rfl)
      simp only [List.getElem_toArray, List.getElem_cons_succ, List.getElem_cons_zero, Act.put, List.setIfInBounds_toArray, List.set_cons_zero, List.set_cons_succ]
      refine wpAnyH_done (by kernel_rfl) ?_ _
      refine offQ_last rfl (fun KL hKL => ?_)
      go_simp
      refine hKL.out _ _ ?_
      (try rw [show wr.drew.setCell ⟨g, d, none⟩ (.int .i64 y) = (wr.setCell ⟨g, d, none⟩ (.int .i64 y)).drew from rfl])
      generalize (wr.setCell ⟨g, d, none⟩ (.int .i64 y)).drew = w3 at *
      clear Kd r2 p0 c0 c1 c4 va vc vf pc
      go_wp2_with fail
      go_roundw
      case rel => exact ⟨j + 1, by omega, by go_num, HO3.out, HB3.out, HPR3.out⟩
      case measure => simp [intOf]; omega
end

/- What a right instruction names. -/
section

theorem insP_v {n : Int} {i : InsD} (h : InsP n i) (ho : i.op ≠ 7) : 0 ≤ i.v ∧ i.v < n := by
  obtain ⟨h1, h2, _⟩ := h
  refine ⟨?_, h2⟩
  unfold insOkB at h1
  simp only [isNameB] at h1
  split at h1
  · simp at h1; omega
  · split at h1
    · simp at h1; omega
    · split at h1
      · simp at h1; omega
      · first
        | (cases h1; done)
        | (split at h1; omega; cases h1)
theorem insP_a {n : Int} {i : InsD} (h : InsP n i) (ho : i.op ≠ 1) : 0 ≤ i.a ∧ i.a < n := by
  obtain ⟨h1, _, h3⟩ := h
  have hu : i.a ∈ usesL i.op i.v i.a i.b := by
    unfold usesL
    rw [if_pos h1, if_neg ho]
    split <;> simp
  refine ⟨?_, h3 _ hu⟩
  unfold insOkB at h1
  simp only [isNameB] at h1
  rw [if_neg ho] at h1
  split at h1
  · simp at h1; omega
  · split at h1
    · simp at h1; omega
    · split at h1
      · simp at h1; omega
      · cases h1
theorem insP_b {n : Int} {i : InsD} (h : InsP n i) (h1' : i.op ≠ 1) (h2' : i.op ≠ 2) (h7' : i.op ≠ 7) : 0 ≤ i.b ∧ i.b < n := by
  obtain ⟨h1, _, h3⟩ := h
  have h1c := h1
  unfold insOkB at h1
  simp only [isNameB] at h1
  rw [if_neg h1', if_neg h2'] at h1
  split at h1
  case isTrue ho =>
    have hu : i.b ∈ usesL i.op i.v i.a i.b := by
      unfold usesL
      rw [if_pos h1c, if_neg h1', if_pos ho]
      simp
    refine ⟨?_, h3 _ hu⟩
    simp at h1; omega
  case isFalse =>
    first
    | (cases h1; done)
    | (rw [if_neg h7'] at h1; cases h1)
end

end Go.Proofs.YtnjmlhokkhkaaaaGreat
