/- Rows of places: what eqPlace, eqPlaceS, markPlaceS, heldPlaceS and toPlace of the laws do. -/
import Derived.Test.YtbghcoihndlihaaPl
namespace Go.Proofs.Ytbghcoihndlihaa
open Go.ChangeShapes Go.WideShapes Go.ChangeAt Go.RowKit Go.Joins

set_option maxHeartbeats 400000 in
theorem eqPlace_same (a b : Int) (w : World) :
    Calls Try.prog 23 #[.agg #[.int .i64 a, .int .i64 b], .agg #[.int .i64 a, .int .i64 b]] w (Says true w) := by
  have h1 : (a != a) = false := by simp
  have h2 : (b != b) = false := by simp
  go_enter Try.func23, Try.ntmps23
  go_wp2
  go_ret
  exact ⟨rfl, ((Below.refl _ _).alloc (Nat.le_refl _) _).alloc (by simp) _⟩

set_option maxHeartbeats 400000 in
theorem eqPlaceS_same (u v : Value) (xs : List MoveD) (w : World) (Z Z' : Zn) (hu : Row w Z 2 EMove u xs) (hv : Row w Z' 2 EMove v xs) (hD : ∀ b, Z.D b → b < w.heap.size) (hD' : ∀ b, Z'.D b → b < w.heap.size) :
    Calls Try.prog 9 #[u, v] w (Says true w) := by
  obtain ⟨hle, A, c, rfl, hx⟩ := hu
  obtain ⟨_, A', c', rfl, hy⟩ := hv
  go_enter Try.func9, Try.ntmps9
  go_wp2
  go_loopw [5] (fun i wr => ∃ k : Nat, k ≤ xs.length ∧ i = .int .i64 k ∧ Hid (Below w.heap.size w wr)) (fun i _ => xs.length - (intOf i).toNat)
  case atStart => exact ⟨0, Nat.zero_le _, rfl, Below.refl _ _⟩
  case round =>
    obtain ⟨k, hk, rfl, HB⟩ := hrel
    by_cases hlt : k < xs.length
    · have hxk : xs[k]? = some xs[k] := List.getElem?_eq_getElem hlt
      generalize xs[k] = x at hxk
      obtain ⟨b, off, rfl, hDb, hrow⟩ := hx (by rintro rfl; simp at hlt)
      obtain ⟨b', off', rfl, hDb', hrow'⟩ := hy (by rintro rfl; simp at hlt)
      obtain ⟨cs, hE, hcs⟩ := hrow k x hxk
      obtain ⟨cs', hE', hcs'⟩ := hrow' k x hxk
      have hbl := hD b hDb
      have hbl' := hD' b' hDb'
      have hz := HB.out.size
      have hbw : b < wr.heap.size := by omega
      have hbw' : b' < wr.heap.size := by omega
      subst hE hE'
      have c0 : wr.cell? ⟨b, off + k * 2, none⟩ = some (.int .i64 x.dst) := (HB.out.cell (p := ⟨b, _, none⟩) hbl).trans (hcs 0 _ rfl).1
      have c1 : wr.cell? ⟨b, off + k * 2 + 1, none⟩ = some (.int .i64 x.src) := (HB.out.cell (p := ⟨b, _, none⟩) hbl).trans (hcs 1 _ rfl).1
      have p0 : wr.cell? ⟨b', off' + k * 2, none⟩ = some (.int .i64 x.dst) := (HB.out.cell (p := ⟨b', _, none⟩) hbl').trans (hcs' 0 _ rfl).1
      have p1 : wr.cell? ⟨b', off' + k * 2 + 1, none⟩ = some (.int .i64 x.src) := (HB.out.cell (p := ⟨b', _, none⟩) hbl').trans (hcs' 1 _ rfl).1
      clear hcs hrow hx hcs' hrow' hy hxk
      have keepS : ∀ w1 : World, Below wr.heap.size wr w1 → (fun w' => Below wr.heap.size wr w' ∧ w'.cell? ⟨b, off + k * 2, none⟩ = some (.int .i64 x.dst) ∧ w'.cell? ⟨b, off + k * 2 + 1, none⟩ = some (.int .i64 x.src) ∧ w'.cell? ⟨b', off' + k * 2, none⟩ = some (.int .i64 x.dst) ∧ w'.cell? ⟨b', off' + k * 2 + 1, none⟩ = some (.int .i64 x.src)) w1 := fun w1 hb => ⟨hb, (hb.cell (p := ⟨b, _, none⟩) hbw).trans c0, (hb.cell (p := ⟨b, _, none⟩) hbw).trans c1, (hb.cell (p := ⟨b', _, none⟩) hbw').trans p0, (hb.cell (p := ⟨b', _, none⟩) hbw').trans p1⟩
      have K := keepS _ (Below.refl _ _)
      have Kd := keepS _ below_drew
      go_wp2_with fail
      go_region_held3 (fun w' => Below wr.heap.size wr w' ∧ w'.cell? ⟨b, off + k * 2, none⟩ = some (.int .i64 x.dst) ∧ w'.cell? ⟨b, off + k * 2 + 1, none⟩ = some (.int .i64 x.src) ∧ w'.cell? ⟨b', off' + k * 2, none⟩ = some (.int .i64 x.dst) ∧ w'.cell? ⟨b', off' + k * 2 + 1, none⟩ = some (.int .i64 x.src)) (first | exact Kd | exact K | exact K5 | fail)
        (first
        | (go_at_call 23; have := (show _ ∧ _ by assumption); refine (eqPlace_same _ _ _).mono ?_; rintro e w5 ⟨rfl, hb5⟩; have K5 := keepS _ (this.1.trans (hb5.mono this.1.size))))
      go_wp2_with fail
      have HB5 := Lib.hid (HB.out.trans (K5.1.mono hz))
      clear K Kd K5 keepS
      go_roundw
      case rel => exact ⟨k + 1, by omega, by go_num, HB5.out⟩
      case measure => simp [intOf]; omega
    · obtain rfl : k = xs.length := by omega
      go_wp2
      go_ret
      exact ⟨rfl, HB.out⟩

set_option maxHeartbeats 1000000 in
theorem markPlaceS_any (B : Nat) (v : Value) (xs : List MoveD) (k : Int) (w : World) (hv : OP w B v xs) (hk0 : 0 ≤ k) (hk1 : k + ((xs.length * 2 : Nat) : Int) ≤ 9223372036854775807) :
    Calls Try.prog 12 #[v, .int .i64 k] w fun e w' => e = .returned (.int .i64 (k + ((xs.length * 2 : Nat) : Int))) ∧ OP w' B v (markE k xs.length) ∧ w.grownBy w' v.ownBlock := by
  have hlen := hv.row.1
  by_cases h0 : xs.length = 0
  · obtain rfl := List.length_eq_zero_iff.1 h0
    obtain ⟨A, c, rfl⟩ := hv.form
    simp only [List.length_nil] at *
    go_enter Try.func12, Try.ntmps12
    go_wp2
    go_loopw [1, 5] (fun q i wr => i = .int .i64 0 ∧ q = .int .i64 k ∧ wr = w) (fun _ _ _ => 0)
    case atStart => exact ⟨rfl, rfl, rfl⟩
    case round =>
      obtain ⟨rfl, rfl, rfl⟩ := hrel
      go_wp2
      go_ret
      exact ⟨by simp, by rw [markE_zero]; exact hv, World.grownBy.refl _ _⟩
  · obtain ⟨g, cap, rfl, hBg, hg⟩ := World.ownsRow.form hv (by omega)
    have HV := Lib.hid hv
    clear hv
    have hpos : 0 < xs.length := by omega
    clear h0
    go_enter Try.func12, Try.ntmps12
    go_wp2
    go_loopw [1, 5] (fun q i wr => ∃ j : Nat, j ≤ xs.length ∧ i = .int .i64 j ∧ q = .int .i64 (k + ((j * 2 : Nat) : Int)) ∧ Hid (wr.ownsRow B 43 2 (.slice (some ⟨g, 0, none⟩) xs.length cap) xs.length (fl (markE k j ++ xs.drop j))) ∧ Hid (w.grownBy wr (some g))) (fun _ i _ => xs.length - (intOf i).toNat)
    case atStart => exact ⟨0, Nat.zero_le _, rfl, by simp, (by rw [markE_zero]; exact HV.out), World.grownBy.refl _ _⟩
    case round =>
      obtain ⟨j, hj, rfl, rfl, HO, HG⟩ := hrel
      by_cases hlt : j < xs.length
      · have hcl : (fl (markE k j ++ xs.drop j)).length = xs.length * 2 := by rw [fl_len]; simp [markE_length]; omega
        obtain ⟨x, hx⟩ : ∃ x, (fl (markE k j ++ xs.drop j))[j * 2]? = some x := ⟨_, List.getElem?_eq_getElem (by rw [hcl]; omega)⟩
        obtain ⟨y, hy⟩ : ∃ y, (fl (markE k j ++ xs.drop j))[j * 2 + 1]? = some y := ⟨_, List.getElem?_eq_getElem (by rw [hcl]; omega)⟩
        have hc0 : wr.cell? ⟨g, j * 2, none⟩ = some x := (World.ownsRow.cellAt HO.out _ (by omega)).trans hx
        have hc1 : wr.cell? ⟨g, j * 2 + 1, none⟩ = some y := (World.ownsRow.cellAt HO.out _ (by omega)).trans hy
        have hf0 : wr.frozen? ⟨g, j * 2, none⟩ = false := World.ownsRow.frozenAt HO.out _
        have hf1 : wr.frozen? ⟨g, j * 2 + 1, none⟩ = false := World.ownsRow.frozenAt HO.out _
        obtain ⟨p, hp⟩ : ∃ p : Int, p = k + ((j * 2 : Nat) : Int) := ⟨_, rfl⟩
        have hpb : p + 2 ≤ 9223372036854775807 := by omega
        have hp0 : 0 ≤ p := by omega
        have HPP := Lib.hid hp
        rw [← hp]
        clear hx hy hcl hp
        go_wp2
        go_roundw
        case rel =>
          refine ⟨j + 1, by omega, by go_num, by rw [HPP.out]; go_num, ?_, ?_⟩
          · have h := (World.ownsRow.stored (World.ownsRow.stored HO.out (j * 2) (iv (k + ((j * 2 : Nat) : Int)))).1 (j * 2 + 1) (iv (k + ((j * 2 : Nat) : Int) + 1))).1
            rw [set_stepE k xs hlt, ← HPP.out] at h
            exact h
          · have h1 := (World.ownsRow.stored HO.out (j * 2) (iv p)).2
            have h2 := (World.ownsRow.stored (World.ownsRow.stored HO.out (j * 2) (iv p)).1 (j * 2 + 1) (iv (p + 1))).2
            exact World.grownBy.trans (World.grownBy.trans HG.out h1) h2
        case measure => simp [intOf]; omega
      · obtain rfl : j = xs.length := by omega
        go_wp2
        go_ret
        refine ⟨rfl, ?_, HG.out⟩
        have h := HO.out
        rw [List.drop_length, List.append_nil] at h
        unfold OP
        rw [markE_length]
        exact h

set_option maxHeartbeats 1000000 in
theorem heldPlaceS_any (v : Value) (k : Int) (n B : Nat) (w : World) (hv : OP w B v (markE k n)) (hk0 : 0 ≤ k) (hk1 : k + ((n * 2 : Nat) : Int) ≤ 9223372036854775807) :
    Calls Try.prog 13 #[v, .int .i64 k] w fun e w' => e = .returned (.int .i64 (k + ((n * 2 : Nat) : Int))) ∧ w = w' := by
  obtain ⟨hl, A, c, rfl, hx⟩ := hv.row
  rw [markE_length] at hl ⊢
  clear hv
  go_enter Try.func13, Try.ntmps13
  go_wp2
  go_loop [1, 5] (fun q i => ∃ j : Nat, j ≤ n ∧ i = .int .i64 j ∧ q = .int .i64 (k + ((j * 2 : Nat) : Int))) (fun _ i => n - (intOf i).toNat)
  case atStart => exact ⟨0, Nat.zero_le _, rfl, by simp⟩
  case round =>
    obtain ⟨j, hj, rfl, rfl⟩ := hrel
    by_cases hlt : j < n
    · obtain ⟨b, off, rfl, _, hx'⟩ := hx (by intro h; have := congrArg List.length h; rw [markE_length] at this; simp at this; omega)
      obtain ⟨cs, hE, hcs⟩ := hx' j _ (markE_get k hlt)
      subst hE
      obtain ⟨p, hp⟩ : ∃ p : Int, p = k + ((j * 2 : Nat) : Int) := ⟨_, rfl⟩
      have hpb : p + 2 ≤ 9223372036854775807 := by omega
      have hp0 : 0 ≤ p := by omega
      have hc0 := (hcs 0 _ rfl).1
      have hc1 := (hcs 1 _ rfl).1
      rw [← hp] at hc0 hc1
      have hc0' : w.cell? ⟨b, off + j * 2, none⟩ = some (.int .i64 p) := hc0
      have hc1' : w.cell? ⟨b, off + j * 2 + 1, none⟩ = some (.int .i64 (p + 1)) := hc1
      have HPP := Lib.hid hp
      rw [← hp]
      have n1 : (p != p) = false := by simp
      have n2 : (p + 1 != p + 1) = false := by simp
      clear hcs hx hx' hc0 hc1 hp
      go_wp2
      go_round
      case rel => exact ⟨j + 1, by omega, by go_num, by rw [HPP.out]; go_num⟩
      case measure => simp [intOf]; omega
    · obtain rfl : j = n := by omega
      go_wp2
      go_ret
      exact ⟨rfl, rfl⟩

end Go.Proofs.Ytbghcoihndlihaa
