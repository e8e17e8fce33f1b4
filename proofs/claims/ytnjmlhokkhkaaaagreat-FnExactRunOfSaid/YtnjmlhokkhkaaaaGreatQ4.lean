/- Eq, L2d, Bools, M1, joined. -/
import Derived.Test.YtnjmlhokkhkaaaaGreatQ1
import Derived.Test.YtnjmlhokkhkaaaaGreatQ2
import Derived.Test.YtnjmlhokkhkaaaaGreatQ3
import Derived.Deep.RegionHeld3
import Derived.Laws.CopyRow
namespace Go.Proofs.YtnjmlhokkhkaaaaGreat

/- eqFun of the laws and what it calls: at two values that read alike it answers true. -/
section
open Go.ChangeShapes Go.WideShapes Go.ChangeAt Go.RowKit Go.Joins

theorem Row.ri {w : World} {Z : Zn} {v : Value} {xs : List Int} (h : Row w Z 1 EInt v xs) : RI w v xs := by
  obtain ⟨h1, A, c, rfl, h2⟩ := h
  refine ⟨h1, A, c, rfl, fun hne => ?_⟩
  obtain ⟨b, off, rfl, _, h3⟩ := h2 hne
  refine ⟨b, off, rfl, fun k u hu => ?_⟩
  obtain ⟨cs, rfl, h4⟩ := h3 k u hu
  have := (h4 0 _ rfl).1
  rwa [Nat.mul_one] at this

/-- The call answers true, and old memory stays. -/
def Says (b : Bool) (w : World) (e : Ending) (w' : World) : Prop := e = .returned (.bool b) ∧ Below w.heap.size w w'
theorem below_drew {w : World} : Below w.heap.size w w.drew := (Below.refl w.heap.size w).drew

set_option maxHeartbeats 400000 in
theorem eqMove_same (a b : Int) (w : World) : Calls Tryz.prog 135 #[.agg #[.int .i64 a, .int .i64 b], .agg #[.int .i64 a, .int .i64 b]] w (Says true w) := by
  go_enter Tryz.func135, Tryz.ntmps135
  go_wp2
  go_ret
  exact ⟨rfl, ((Below.refl _ _).alloc (Nat.le_refl _) _).alloc (by simp) _⟩

set_option maxHeartbeats 400000 in
theorem eqIns_same (a b c d : Int) (w : World) : Calls Tryz.prog 136 #[.agg #[.int .i64 a, .int .i64 b, .int .i64 c, .int .i64 d], .agg #[.int .i64 a, .int .i64 b, .int .i64 c, .int .i64 d]] w (Says true w) := by
  go_enter Tryz.func136, Tryz.ntmps136
  go_wp2
  go_ret
  exact ⟨rfl, ((Below.refl _ _).alloc (Nat.le_refl _) _).alloc (by simp) _⟩

set_option maxHeartbeats 400000 in
theorem eqEnd_same (a b c d : Int) (w : World) : Calls Tryz.prog 112 #[.agg #[.int .i64 a, .int .i64 b, .int .i64 c, .int .i64 d], .agg #[.int .i64 a, .int .i64 b, .int .i64 c, .int .i64 d]] w (Says true w) := by
  go_enter Tryz.func112, Tryz.ntmps112
  go_wp2
  go_ret
  exact ⟨rfl, ((Below.refl _ _).alloc (Nat.le_refl _) _).alloc (by simp) _⟩

set_option maxHeartbeats 400000 in
theorem eqPhi_same (a : Int) (u v : Value) (xs : List Int) (w : World) (Z Z' : Zn) (hu : Row w Z 1 EInt u xs) (hv : Row w Z' 1 EInt v xs) (hD : ∀ b, Z.D b → b < w.heap.size) (hD' : ∀ b, Z'.D b → b < w.heap.size) :
    Calls Tryz.prog 134 #[.agg #[.int .i64 a, u], .agg #[.int .i64 a, v]] w (Says true w) := by
  have HU := Lib.hid hu
  have HV := Lib.hid hv
  obtain ⟨_, A, c, rfl, _⟩ := hu
  obtain ⟨_, A', c', rfl, _⟩ := hv
  go_enter Tryz.func134, Tryz.ntmps134
  go_wp2_with fail
  have hK : ∀ V : World, Below w.heap.size w V → (∀ Z : Zn, (∀ b, Z.D b → b < w.heap.size) → Kept Z Z w V) := fun V hb Z hD => Kept.below hb hD
  refine (eqInt64S_same _ _ xs _ (HU.out.keep (hK _ (((Below.refl _ _).alloc (Nat.le_refl _) _).alloc (by simp) _) _ hD) fun _ _ h => h).ri (HV.out.keep (hK _ (((Below.refl _ _).alloc (Nat.le_refl _) _).alloc (by simp) _) _ hD') fun _ _ h => h).ri).mono ?_
  rintro e w1 ⟨rfl, n, rfl⟩
  go_wp2_with fail
  go_ret
  exact ⟨rfl, below_drewN (((Below.refl _ _).alloc (Nat.le_refl _) _).alloc (by simp) _) n⟩

set_option maxHeartbeats 400000 in
theorem eqMoveS_same (u v : Value) (xs : List MoveD) (w : World) (Z Z' : Zn) (hu : Row w Z 2 EMove u xs) (hv : Row w Z' 2 EMove v xs) (hD : ∀ b, Z.D b → b < w.heap.size) (hD' : ∀ b, Z'.D b → b < w.heap.size) :
    Calls Tryz.prog 110 #[u, v] w (Says true w) := by
  obtain ⟨hle, A, c, rfl, hx⟩ := hu
  obtain ⟨_, A', c', rfl, hy⟩ := hv
  go_enter Tryz.func110, Tryz.ntmps110
  go_wp2
  go_loopw [5] (fun i wr => ∃ k : Nat, k ≤ xs.length ∧ i = .int .i64 k ∧ Hid (Below w.heap.size w wr)) (fun i _ => xs.length - (intOf i).toNat)
  case atStart => exact ⟨0, Nat.zero_le _, rfl, Below.refl _ _⟩
  case round =>
    obtain ⟨k, hk, rfl, HB⟩ := hrel
    by_cases hlt : k < xs.length
    · have hxk : xs[k]? = some xs[k] := List.getElem?_eq_getElem hlt
      generalize xs[k] = x at hxk
      obtain ⟨b, off, rfl, hDb, hrow⟩ := hx (by rintro rfl; simp at hlt)
      obtain ⟨b', off', rfl, hDb', hrow'⟩ := hy (by rintro rfl; simp at hlt)
      obtain ⟨cs, hE, hcs⟩ := hrow k x hxk
      obtain ⟨cs', hE', hcs'⟩ := hrow' k x hxk
      have hbl := hD b hDb
      have hbl' := hD' b' hDb'
      have hz := HB.out.size
      have hbw : b < wr.heap.size := by omega
      have hbw' : b' < wr.heap.size := by omega
      subst hE hE'
      have c0 : wr.cell? ⟨b, off + k * 2, none⟩ = some (.int .i64 x.dst) := (HB.out.cell (p := ⟨b, _, none⟩) hbl).trans (hcs 0 _ rfl).1
      have c1 : wr.cell? ⟨b, off + k * 2 + 1, none⟩ = some (.int .i64 x.src) := (HB.out.cell (p := ⟨b, _, none⟩) hbl).trans (hcs 1 _ rfl).1
      have p0 : wr.cell? ⟨b', off' + k * 2, none⟩ = some (.int .i64 x.dst) := (HB.out.cell (p := ⟨b', _, none⟩) hbl').trans (hcs' 0 _ rfl).1
      have p1 : wr.cell? ⟨b', off' + k * 2 + 1, none⟩ = some (.int .i64 x.src) := (HB.out.cell (p := ⟨b', _, none⟩) hbl').trans (hcs' 1 _ rfl).1
      clear hcs hrow hx hcs' hrow' hy hxk
      have keepS : ∀ w1 : World, Below wr.heap.size wr w1 → (fun w' => Below wr.heap.size wr w' ∧ w'.cell? ⟨b, off + k * 2, none⟩ = some (.int .i64 x.dst) ∧ w'.cell? ⟨b, off + k * 2 + 1, none⟩ = some (.int .i64 x.src) ∧ w'.cell? ⟨b', off' + k * 2, none⟩ = some (.int .i64 x.dst) ∧ w'.cell? ⟨b', off' + k * 2 + 1, none⟩ = some (.int .i64 x.src)) w1 := fun w1 hb => ⟨hb, (hb.cell (p := ⟨b, _, none⟩) hbw).trans c0, (hb.cell (p := ⟨b, _, none⟩) hbw).trans c1, (hb.cell (p := ⟨b', _, none⟩) hbw').trans p0, (hb.cell (p := ⟨b', _, none⟩) hbw').trans p1⟩
      have K := keepS _ (Below.refl _ _)
      have Kd := keepS _ below_drew
      go_wp2_with fail
      go_region_held3 (fun w' => Below wr.heap.size wr w' ∧ w'.cell? ⟨b, off + k * 2, none⟩ = some (.int .i64 x.dst) ∧ w'.cell? ⟨b, off + k * 2 + 1, none⟩ = some (.int .i64 x.src) ∧ w'.cell? ⟨b', off' + k * 2, none⟩ = some (.int .i64 x.dst) ∧ w'.cell? ⟨b', off' + k * 2 + 1, none⟩ = some (.int .i64 x.src)) (first | exact Kd | exact K | exact K5 | fail)
        (first
        | (go_at_call 135; have := (show _ ∧ _ by assumption); refine (eqMove_same _ _ _).mono ?_; rintro e w5 ⟨rfl, hb5⟩; have K5 := keepS _ (this.1.trans (hb5.mono this.1.size))))
      go_wp2_with fail
      have HB5 := Lib.hid (HB.out.trans (K5.1.mono hz))
      clear K Kd K5 keepS
      go_roundw
      case rel => exact ⟨k + 1, by omega, by go_num, HB5.out⟩
      case measure => simp [intOf]; omega
    · obtain rfl : k = xs.length := by omega
      go_wp2
      go_ret
      exact ⟨rfl, HB.out⟩

set_option maxHeartbeats 400000 in
theorem eqInsS_same (u v : Value) (xs : List InsD) (w : World) (Z Z' : Zn) (hu : Row w Z 4 EIns u xs) (hv : Row w Z' 4 EIns v xs) (hD : ∀ b, Z.D b → b < w.heap.size) (hD' : ∀ b, Z'.D b → b < w.heap.size) :
    Calls Tryz.prog 111 #[u, v] w (Says true w) := by
  obtain ⟨hle, A, c, rfl, hx⟩ := hu
  obtain ⟨_, A', c', rfl, hy⟩ := hv
  go_enter Tryz.func111, Tryz.ntmps111
  go_wp2
  go_loopw [5] (fun i wr => ∃ k : Nat, k ≤ xs.length ∧ i = .int .i64 k ∧ Hid (Below w.heap.size w wr)) (fun i _ => xs.length - (intOf i).toNat)
  case atStart => exact ⟨0, Nat.zero_le _, rfl, Below.refl _ _⟩
  case round =>
    obtain ⟨k, hk, rfl, HB⟩ := hrel
    by_cases hlt : k < xs.length
    · have hxk : xs[k]? = some xs[k] := List.getElem?_eq_getElem hlt
      generalize xs[k] = x at hxk
      obtain ⟨b, off, rfl, hDb, hrow⟩ := hx (by rintro rfl; simp at hlt)
      obtain ⟨b', off', rfl, hDb', hrow'⟩ := hy (by rintro rfl; simp at hlt)
      obtain ⟨cs, hE, hcs⟩ := hrow k x hxk
      obtain ⟨cs', hE', hcs'⟩ := hrow' k x hxk
      have hbl := hD b hDb
      have hbl' := hD' b' hDb'
      have hz := HB.out.size
      have hbw : b < wr.heap.size := by omega
      have hbw' : b' < wr.heap.size := by omega
      subst hE hE'
      have c0 : wr.cell? ⟨b, off + k * 4, none⟩ = some (.int .i64 x.op) := (HB.out.cell (p := ⟨b, _, none⟩) hbl).trans (hcs 0 _ rfl).1
      have c1 : wr.cell? ⟨b, off + k * 4 + 1, none⟩ = some (.int .i64 x.v) := (HB.out.cell (p := ⟨b, _, none⟩) hbl).trans (hcs 1 _ rfl).1
      have c2 : wr.cell? ⟨b, off + k * 4 + 2, none⟩ = some (.int .i64 x.a) := (HB.out.cell (p := ⟨b, _, none⟩) hbl).trans (hcs 2 _ rfl).1
      have c3 : wr.cell? ⟨b, off + k * 4 + 3, none⟩ = some (.int .i64 x.b) := (HB.out.cell (p := ⟨b, _, none⟩) hbl).trans (hcs 3 _ rfl).1
      have p0 : wr.cell? ⟨b', off' + k * 4, none⟩ = some (.int .i64 x.op) := (HB.out.cell (p := ⟨b', _, none⟩) hbl').trans (hcs' 0 _ rfl).1
      have p1 : wr.cell? ⟨b', off' + k * 4 + 1, none⟩ = some (.int .i64 x.v) := (HB.out.cell (p := ⟨b', _, none⟩) hbl').trans (hcs' 1 _ rfl).1
      have p2 : wr.cell? ⟨b', off' + k * 4 + 2, none⟩ = some (.int .i64 x.a) := (HB.out.cell (p := ⟨b', _, none⟩) hbl').trans (hcs' 2 _ rfl).1
      have p3 : wr.cell? ⟨b', off' + k * 4 + 3, none⟩ = some (.int .i64 x.b) := (HB.out.cell (p := ⟨b', _, none⟩) hbl').trans (hcs' 3 _ rfl).1
      clear hcs hrow hx hcs' hrow' hy hxk
      have keepS : ∀ w1 : World, Below wr.heap.size wr w1 → (fun w' => Below wr.heap.size wr w' ∧ w'.cell? ⟨b, off + k * 4, none⟩ = some (.int .i64 x.op) ∧ w'.cell? ⟨b, off + k * 4 + 1, none⟩ = some (.int .i64 x.v) ∧ w'.cell? ⟨b, off + k * 4 + 2, none⟩ = some (.int .i64 x.a) ∧ w'.cell? ⟨b, off + k * 4 + 3, none⟩ = some (.int .i64 x.b) ∧ w'.cell? ⟨b', off' + k * 4, none⟩ = some (.int .i64 x.op) ∧ w'.cell? ⟨b', off' + k * 4 + 1, none⟩ = some (.int .i64 x.v) ∧ w'.cell? ⟨b', off' + k * 4 + 2, none⟩ = some (.int .i64 x.a) ∧ w'.cell? ⟨b', off' + k * 4 + 3, none⟩ = some (.int .i64 x.b)) w1 := fun w1 hb => ⟨hb, (hb.cell (p := ⟨b, _, none⟩) hbw).trans c0, (hb.cell (p := ⟨b, _, none⟩) hbw).trans c1, (hb.cell (p := ⟨b, _, none⟩) hbw).trans c2, (hb.cell (p := ⟨b, _, none⟩) hbw).trans c3, (hb.cell (p := ⟨b', _, none⟩) hbw').trans p0, (hb.cell (p := ⟨b', _, none⟩) hbw').trans p1, (hb.cell (p := ⟨b', _, none⟩) hbw').trans p2, (hb.cell (p := ⟨b', _, none⟩) hbw').trans p3⟩
      have K := keepS _ (Below.refl _ _)
      have Kd := keepS _ below_drew
      go_wp2_with fail
      go_region_held3 (fun w' => Below wr.heap.size wr w' ∧ w'.cell? ⟨b, off + k * 4, none⟩ = some (.int .i64 x.op) ∧ w'.cell? ⟨b, off + k * 4 + 1, none⟩ = some (.int .i64 x.v) ∧ w'.cell? ⟨b, off + k * 4 + 2, none⟩ = some (.int .i64 x.a) ∧ w'.cell? ⟨b, off + k * 4 + 3, none⟩ = some (.int .i64 x.b) ∧ w'.cell? ⟨b', off' + k * 4, none⟩ = some (.int .i64 x.op) ∧ w'.cell? ⟨b', off' + k * 4 + 1, none⟩ = some (.int .i64 x.v) ∧ w'.cell? ⟨b', off' + k * 4 + 2, none⟩ = some (.int .i64 x.a) ∧ w'.cell? ⟨b', off' + k * 4 + 3, none⟩ = some (.int .i64 x.b)) (first | exact Kd | exact K | exact K5 | fail)
        (first
        | (go_at_call 136; have := (show _ ∧ _ by assumption); refine (eqIns_same _ _ _ _ _).mono ?_; rintro e w5 ⟨rfl, hb5⟩; have K5 := keepS _ (this.1.trans (hb5.mono this.1.size))))
      go_wp2_with fail
      have HB5 := Lib.hid (HB.out.trans (K5.1.mono hz))
      clear K Kd K5 keepS
      go_roundw
      case rel => exact ⟨k + 1, by omega, by go_num, HB5.out⟩
      case measure => simp [intOf]; omega
    · obtain rfl : k = xs.length := by omega
      go_wp2
      go_ret
      exact ⟨rfl, HB.out⟩

set_option maxHeartbeats 400000 in
theorem eqPhiS_same (u v : Value) (xs : List PhiD) (w : World) (Z Z' : Zn) (hu : Row w Z 2 (EPhi w Z) u xs) (hv : Row w Z' 2 (EPhi w Z') v xs) (hD : ∀ b, Z.D b → b < w.heap.size) (hD' : ∀ b, Z'.D b → b < w.heap.size) :
    Calls Tryz.prog 109 #[u, v] w (Says true w) := by
  obtain ⟨hle, A, c, rfl, hx⟩ := hu
  obtain ⟨_, A', c', rfl, hy⟩ := hv
  go_enter Tryz.func109, Tryz.ntmps109
  go_wp2
  go_loopw [5] (fun i wr => ∃ k : Nat, k ≤ xs.length ∧ i = .int .i64 k ∧ Hid (Below w.heap.size w wr)) (fun i _ => xs.length - (intOf i).toNat)
  case atStart => exact ⟨0, Nat.zero_le _, rfl, Below.refl _ _⟩
  case round =>
    obtain ⟨k, hk, rfl, HB⟩ := hrel
    by_cases hlt : k < xs.length
    · have hxk : xs[k]? = some xs[k] := List.getElem?_eq_getElem hlt
      generalize xs[k] = x at hxk
      obtain ⟨b, off, rfl, hDb, hrow⟩ := hx (by rintro rfl; simp at hlt)
      obtain ⟨b', off', rfl, hDb', hrow'⟩ := hy (by rintro rfl; simp at hlt)
      obtain ⟨cs, hE, hcs⟩ := hrow k x hxk
      obtain ⟨cs', hE', hcs'⟩ := hrow' k x hxk
      have hbl := hD b hDb
      have hbl' := hD' b' hDb'
      have hz := HB.out.size
      have hbw : b < wr.heap.size := by omega
      have hbw' : b' < wr.heap.size := by omega
      obtain ⟨q, rfl, hq⟩ := hE
      obtain ⟨q', rfl, hq'⟩ := hE'
      have HQ := Lib.hid (hq.keep (Kept.below HB.out hD) fun _ _ h => h)
      have HQ' := Lib.hid (hq'.keep (Kept.below HB.out hD') fun _ _ h => h)
      clear hq hq'

      have c0 : wr.cell? ⟨b, off + k * 2, none⟩ = some (.int .i64 x.v) := (HB.out.cell (p := ⟨b, _, none⟩) hbl).trans (hcs 0 _ rfl).1
      have c1 : wr.cell? ⟨b, off + k * 2 + 1, none⟩ = some q := (HB.out.cell (p := ⟨b, _, none⟩) hbl).trans (hcs 1 _ rfl).1
      have p0 : wr.cell? ⟨b', off' + k * 2, none⟩ = some (.int .i64 x.v) := (HB.out.cell (p := ⟨b', _, none⟩) hbl').trans (hcs' 0 _ rfl).1
      have p1 : wr.cell? ⟨b', off' + k * 2 + 1, none⟩ = some q' := (HB.out.cell (p := ⟨b', _, none⟩) hbl').trans (hcs' 1 _ rfl).1
      clear hcs hrow hx hcs' hrow' hy hxk
      have keepS : ∀ w1 : World, Below wr.heap.size wr w1 → (fun w' => Below wr.heap.size wr w' ∧ w'.cell? ⟨b, off + k * 2, none⟩ = some (.int .i64 x.v) ∧ w'.cell? ⟨b, off + k * 2 + 1, none⟩ = some q ∧ w'.cell? ⟨b', off' + k * 2, none⟩ = some (.int .i64 x.v) ∧ w'.cell? ⟨b', off' + k * 2 + 1, none⟩ = some q') w1 := fun w1 hb => ⟨hb, (hb.cell (p := ⟨b, _, none⟩) hbw).trans c0, (hb.cell (p := ⟨b, _, none⟩) hbw).trans c1, (hb.cell (p := ⟨b', _, none⟩) hbw').trans p0, (hb.cell (p := ⟨b', _, none⟩) hbw').trans p1⟩
      have K := keepS _ (Below.refl _ _)
      have Kd := keepS _ below_drew
      go_wp2_with fail
      go_region_held3 (fun w' => Below wr.heap.size wr w' ∧ w'.cell? ⟨b, off + k * 2, none⟩ = some (.int .i64 x.v) ∧ w'.cell? ⟨b, off + k * 2 + 1, none⟩ = some q ∧ w'.cell? ⟨b', off' + k * 2, none⟩ = some (.int .i64 x.v) ∧ w'.cell? ⟨b', off' + k * 2 + 1, none⟩ = some q') (first | exact Kd | exact K | exact K5 | fail)
        (first
        | (go_at_call 134; have := (show _ ∧ _ by assumption); refine (eqPhi_same _ _ _ _ _ Z Z' (HQ.out.keep (Kept.below this.1 fun b hb => by have h1 := hD b hb; omega) fun _ _ h => h) (HQ'.out.keep (Kept.below this.1 fun b hb => by have h1 := hD' b hb; omega) fun _ _ h => h) (fun b hb => by have h1 := hD b hb; have h2 := this.1.size; omega) (fun b hb => by have h1 := hD' b hb; have h2 := this.1.size; omega)).mono ?_; rintro e w5 ⟨rfl, hb5⟩; have K5 := keepS _ (this.1.trans (hb5.mono this.1.size))))
      go_wp2_with fail
      have HB5 := Lib.hid (HB.out.trans (K5.1.mono hz))
      clear K Kd K5 keepS
      go_roundw
      case rel => exact ⟨k + 1, by omega, by go_num, HB5.out⟩
      case measure => simp [intOf]; omega
    · obtain rfl : k = xs.length := by omega
      go_wp2
      go_ret
      exact ⟨rfl, HB.out⟩

theorem EBlock.rows {w : World} {Z : Zn} {x : BlockD} {v0 v1 v2 v3 a b c d : Value} (h : EBlock w Z x [v0, v1, v2, v3, a, b, c, d]) : a = .int .i64 x.fin.k ∧ b = .int .i64 x.fin.a ∧ c = .int .i64 x.fin.t ∧ d = .int .i64 x.fin.l ∧ Row w Z 2 (EPhi w Z) v0 x.phis ∧ Row w Z 2 EMove v1 x.head ∧ Row w Z 4 EIns v2 x.body ∧ Row w Z 2 EMove v3 x.tail := by
  obtain ⟨_, _, _, _, he, h0, h1, h2, h3⟩ := h
  simp only [List.cons.injEq, and_true] at he
  obtain ⟨rfl, rfl, rfl, rfl, rfl, rfl, rfl, rfl⟩ := he
  exact ⟨rfl, rfl, rfl, rfl, h0, h1, h2, h3⟩

set_option maxHeartbeats 1000000 in
theorem eqBlock_same (x : BlockD) (cs cs' : List Value) (w : World) (Z Z' : Zn) (hu : EBlock w Z x cs) (hv : EBlock w Z' x cs') (hD : ∀ b, Z.D b → b < w.heap.size) (hD' : ∀ b, Z'.D b → b < w.heap.size) :
    Calls Tryz.prog 76 #[.agg cs.toArray, .agg cs'.toArray] w (Says true w) := by
  obtain ⟨v0, v1, v2, v3, rfl, hv0, hv1, hv2, hv3⟩ := hu
  obtain ⟨u0, u1, u2, u3, rfl, hu0, hu1, hu2, hu3⟩ := hv
  have HV0 := Lib.hid hv0
  have HV1 := Lib.hid hv1
  have HV2 := Lib.hid hv2
  have HV3 := Lib.hid hv3
  have HU0 := Lib.hid hu0
  have HU1 := Lib.hid hu1
  have HU2 := Lib.hid hu2
  have HU3 := Lib.hid hu3
  obtain ⟨_, A0, c0, rfl, _⟩ := hv0
  obtain ⟨_, A1, c1, rfl, _⟩ := hv1
  obtain ⟨_, A2, c2, rfl, _⟩ := hv2
  obtain ⟨_, A3, c3, rfl, _⟩ := hv3
  obtain ⟨_, B0, d0, rfl, _⟩ := hu0
  obtain ⟨_, B1, d1, rfl, _⟩ := hu1
  obtain ⟨_, B2, d2, rfl, _⟩ := hu2
  obtain ⟨_, B3, d3, rfl, _⟩ := hu3
  go_enter Tryz.func76, Tryz.ntmps76
  go_wp2_with fail
  have hK : ∀ V : World, Below w.heap.size w V → Kept Z Z w V := fun V hb => Kept.below hb hD
  have hK' : ∀ V : World, Below w.heap.size w V → Kept Z' Z' w V := fun V hb => Kept.below hb hD'
  refine (eqPhiS_same _ _ _ _ Z Z' (HV0.out.keep (hK _ (((Below.refl _ _).alloc (Nat.le_refl _) _).alloc (by simp) _)) fun _ _ h => h.keep (hK _ (((Below.refl _ _).alloc (Nat.le_refl _) _).alloc (by simp) _))) (HU0.out.keep (hK' _ (((Below.refl _ _).alloc (Nat.le_refl _) _).alloc (by simp) _)) fun _ _ h => h.keep (hK' _ (((Below.refl _ _).alloc (Nat.le_refl _) _).alloc (by simp) _))) (fun b hb => by have := hD b hb; simp; omega) (fun b hb => by have := hD' b hb; simp; omega)).mono ?_
  rintro e w1 ⟨rfl, hb1⟩
  have HB1 : Hid (Below w.heap.size w w1) := (((Below.refl _ _).alloc (Nat.le_refl _) _).alloc (by simp) _).trans (hb1.mono (by simp; omega))
  obtain ⟨hc1, hf1⟩ := bcellB (hb1.mono (B' := w.heap.size + 2) (by simp))
  have hz1 : w.heap.size + 2 ≤ w1.heap.size := by have := hb1.size; simp at this; omega
  clear hb1 hf1
  go_wp2_with fail
  refine (eqMoveS_same _ _ _ _ Z Z' (HV1.out.keep (hK _ HB1.out) fun _ _ h => h) (HU1.out.keep (hK' _ HB1.out) fun _ _ h => h) (fun b hb => by have := hD b hb; omega) (fun b hb => by have := hD' b hb; omega)).mono ?_
  rintro e w2 ⟨rfl, hb2⟩
  have HB2 : Hid (Below w.heap.size w w2) := HB1.out.trans (hb2.mono (by omega))
  obtain ⟨hc2, hf2⟩ := bcellB (hb2.mono (B' := w.heap.size + 2) (by omega))
  have hz2 : w.heap.size + 2 ≤ w2.heap.size := by have := hb2.size; omega
  clear hb2 hf2
  go_wp2_with fail
  refine (eqInsS_same _ _ _ _ Z Z' (HV2.out.keep (hK _ HB2.out) fun _ _ h => h) (HU2.out.keep (hK' _ HB2.out) fun _ _ h => h) (fun b hb => by have := hD b hb; omega) (fun b hb => by have := hD' b hb; omega)).mono ?_
  rintro e w3 ⟨rfl, hb3⟩
  have HB3 : Hid (Below w.heap.size w w3) := HB2.out.trans (hb3.mono (by omega))
  obtain ⟨hc3, hf3⟩ := bcellB (hb3.mono (B' := w.heap.size + 2) (by omega))
  have hz3 : w.heap.size + 2 ≤ w3.heap.size := by have := hb3.size; omega
  clear hb3 hf3
  go_wp2_with fail
  refine (eqMoveS_same _ _ _ _ Z Z' (HV3.out.keep (hK _ HB3.out) fun _ _ h => h) (HU3.out.keep (hK' _ HB3.out) fun _ _ h => h) (fun b hb => by have := hD b hb; omega) (fun b hb => by have := hD' b hb; omega)).mono ?_
  rintro e w4 ⟨rfl, hb4⟩
  have HB4 : Hid (Below w.heap.size w w4) := HB3.out.trans (hb4.mono (by omega))
  obtain ⟨hc4, hf4⟩ := bcellB (hb4.mono (B' := w.heap.size + 2) (by omega))
  have hz4 : w.heap.size + 2 ≤ w4.heap.size := by have := hb4.size; omega
  clear hb4 hf4
  go_wp2_with fail
  refine (eqEnd_same _ _ _ _ _).mono ?_
  rintro e w5 ⟨rfl, hb5⟩
  have HB5 : Hid (Below w.heap.size w w5) := HB4.out.trans (hb5.mono (by omega))
  go_wp2_with fail
  go_ret
  exact ⟨rfl, HB5.out⟩

set_option maxHeartbeats 1000000 in
theorem eqBlockS_same (u v : Value) (xs : List BlockD) (w : World) (Z Z' : Zn) (hu : Row w Z 8 (EBlock w Z) u xs) (hv : Row w Z' 8 (EBlock w Z') v xs) (hD : ∀ b, Z.D b → b < w.heap.size) (hD' : ∀ b, Z'.D b → b < w.heap.size) :
    Calls Tryz.prog 48 #[u, v] w (Says true w) := by
  obtain ⟨hle, A, c, rfl, hx⟩ := hu
  obtain ⟨_, A', c', rfl, hy⟩ := hv
  go_enter Tryz.func48, Tryz.ntmps48
  go_wp2
  go_loopw [5] (fun i wr => ∃ k : Nat, k ≤ xs.length ∧ i = .int .i64 k ∧ Hid (Below w.heap.size w wr)) (fun i _ => xs.length - (intOf i).toNat)
  case atStart => exact ⟨0, Nat.zero_le _, rfl, Below.refl _ _⟩
  case round =>
    obtain ⟨k, hk, rfl, HB⟩ := hrel
    by_cases hlt : k < xs.length
    · have hxk : xs[k]? = some xs[k] := List.getElem?_eq_getElem hlt
      generalize xs[k] = x at hxk
      obtain ⟨b, off, rfl, hDb, hrow⟩ := hx (by rintro rfl; simp at hlt)
      obtain ⟨b', off', rfl, hDb', hrow'⟩ := hy (by rintro rfl; simp at hlt)
      obtain ⟨cs, hE, hcs⟩ := hrow k x hxk
      obtain ⟨cs', hE', hcs'⟩ := hrow' k x hxk
      have hbl := hD b hDb
      have hbl' := hD' b' hDb'
      have hz := HB.out.size
      have hbw : b < wr.heap.size := by omega
      have hbw' : b' < wr.heap.size := by omega
      have HQ := Lib.hid (hE.keep (Kept.below HB.out hD))
      have HQ' := Lib.hid (hE'.keep (Kept.below HB.out hD'))
      obtain ⟨a0, a1, a2, a3, rfl, _⟩ := hE
      obtain ⟨a0', a1', a2', a3', rfl, _⟩ := hE'

      have c0 : wr.cell? ⟨b, off + k * 8, none⟩ = some a0 := (HB.out.cell (p := ⟨b, _, none⟩) hbl).trans (hcs 0 _ rfl).1
      have c1 : wr.cell? ⟨b, off + k * 8 + 1, none⟩ = some a1 := (HB.out.cell (p := ⟨b, _, none⟩) hbl).trans (hcs 1 _ rfl).1
      have c2 : wr.cell? ⟨b, off + k * 8 + 2, none⟩ = some a2 := (HB.out.cell (p := ⟨b, _, none⟩) hbl).trans (hcs 2 _ rfl).1
      have c3 : wr.cell? ⟨b, off + k * 8 + 3, none⟩ = some a3 := (HB.out.cell (p := ⟨b, _, none⟩) hbl).trans (hcs 3 _ rfl).1
      have c4 : wr.cell? ⟨b, off + k * 8 + 4, none⟩ = some (.int .i64 x.fin.k) := (HB.out.cell (p := ⟨b, _, none⟩) hbl).trans (hcs 4 _ rfl).1
      have c5 : wr.cell? ⟨b, off + k * 8 + 5, none⟩ = some (.int .i64 x.fin.a) := (HB.out.cell (p := ⟨b, _, none⟩) hbl).trans (hcs 5 _ rfl).1
      have c6 : wr.cell? ⟨b, off + k * 8 + 6, none⟩ = some (.int .i64 x.fin.t) := (HB.out.cell (p := ⟨b, _, none⟩) hbl).trans (hcs 6 _ rfl).1
      have c7 : wr.cell? ⟨b, off + k * 8 + 7, none⟩ = some (.int .i64 x.fin.l) := (HB.out.cell (p := ⟨b, _, none⟩) hbl).trans (hcs 7 _ rfl).1
      have p0 : wr.cell? ⟨b', off' + k * 8, none⟩ = some a0' := (HB.out.cell (p := ⟨b', _, none⟩) hbl').trans (hcs' 0 _ rfl).1
      have p1 : wr.cell? ⟨b', off' + k * 8 + 1, none⟩ = some a1' := (HB.out.cell (p := ⟨b', _, none⟩) hbl').trans (hcs' 1 _ rfl).1
      have p2 : wr.cell? ⟨b', off' + k * 8 + 2, none⟩ = some a2' := (HB.out.cell (p := ⟨b', _, none⟩) hbl').trans (hcs' 2 _ rfl).1
      have p3 : wr.cell? ⟨b', off' + k * 8 + 3, none⟩ = some a3' := (HB.out.cell (p := ⟨b', _, none⟩) hbl').trans (hcs' 3 _ rfl).1
      have p4 : wr.cell? ⟨b', off' + k * 8 + 4, none⟩ = some (.int .i64 x.fin.k) := (HB.out.cell (p := ⟨b', _, none⟩) hbl').trans (hcs' 4 _ rfl).1
      have p5 : wr.cell? ⟨b', off' + k * 8 + 5, none⟩ = some (.int .i64 x.fin.a) := (HB.out.cell (p := ⟨b', _, none⟩) hbl').trans (hcs' 5 _ rfl).1
      have p6 : wr.cell? ⟨b', off' + k * 8 + 6, none⟩ = some (.int .i64 x.fin.t) := (HB.out.cell (p := ⟨b', _, none⟩) hbl').trans (hcs' 6 _ rfl).1
      have p7 : wr.cell? ⟨b', off' + k * 8 + 7, none⟩ = some (.int .i64 x.fin.l) := (HB.out.cell (p := ⟨b', _, none⟩) hbl').trans (hcs' 7 _ rfl).1
      clear hcs hrow hx hcs' hrow' hy hxk
      have keepS : ∀ w1 : World, Below wr.heap.size wr w1 → (fun w' => Below wr.heap.size wr w' ∧ w'.cell? ⟨b, off + k * 8, none⟩ = some a0 ∧ w'.cell? ⟨b, off + k * 8 + 1, none⟩ = some a1 ∧ w'.cell? ⟨b, off + k * 8 + 2, none⟩ = some a2 ∧ w'.cell? ⟨b, off + k * 8 + 3, none⟩ = some a3 ∧ w'.cell? ⟨b, off + k * 8 + 4, none⟩ = some (.int .i64 x.fin.k) ∧ w'.cell? ⟨b, off + k * 8 + 5, none⟩ = some (.int .i64 x.fin.a) ∧ w'.cell? ⟨b, off + k * 8 + 6, none⟩ = some (.int .i64 x.fin.t) ∧ w'.cell? ⟨b, off + k * 8 + 7, none⟩ = some (.int .i64 x.fin.l) ∧ w'.cell? ⟨b', off' + k * 8, none⟩ = some a0' ∧ w'.cell? ⟨b', off' + k * 8 + 1, none⟩ = some a1' ∧ w'.cell? ⟨b', off' + k * 8 + 2, none⟩ = some a2' ∧ w'.cell? ⟨b', off' + k * 8 + 3, none⟩ = some a3' ∧ w'.cell? ⟨b', off' + k * 8 + 4, none⟩ = some (.int .i64 x.fin.k) ∧ w'.cell? ⟨b', off' + k * 8 + 5, none⟩ = some (.int .i64 x.fin.a) ∧ w'.cell? ⟨b', off' + k * 8 + 6, none⟩ = some (.int .i64 x.fin.t) ∧ w'.cell? ⟨b', off' + k * 8 + 7, none⟩ = some (.int .i64 x.fin.l)) w1 := fun w1 hb => ⟨hb, (hb.cell (p := ⟨b, _, none⟩) hbw).trans c0, (hb.cell (p := ⟨b, _, none⟩) hbw).trans c1, (hb.cell (p := ⟨b, _, none⟩) hbw).trans c2, (hb.cell (p := ⟨b, _, none⟩) hbw).trans c3, (hb.cell (p := ⟨b, _, none⟩) hbw).trans c4, (hb.cell (p := ⟨b, _, none⟩) hbw).trans c5, (hb.cell (p := ⟨b, _, none⟩) hbw).trans c6, (hb.cell (p := ⟨b, _, none⟩) hbw).trans c7, (hb.cell (p := ⟨b', _, none⟩) hbw').trans p0, (hb.cell (p := ⟨b', _, none⟩) hbw').trans p1, (hb.cell (p := ⟨b', _, none⟩) hbw').trans p2, (hb.cell (p := ⟨b', _, none⟩) hbw').trans p3, (hb.cell (p := ⟨b', _, none⟩) hbw').trans p4, (hb.cell (p := ⟨b', _, none⟩) hbw').trans p5, (hb.cell (p := ⟨b', _, none⟩) hbw').trans p6, (hb.cell (p := ⟨b', _, none⟩) hbw').trans p7⟩
      have K := keepS _ (Below.refl _ _)
      have Kd := keepS _ below_drew
      go_wp2_with fail
      go_region_held3 (fun w' => Below wr.heap.size wr w' ∧ w'.cell? ⟨b, off + k * 8, none⟩ = some a0 ∧ w'.cell? ⟨b, off + k * 8 + 1, none⟩ = some a1 ∧ w'.cell? ⟨b, off + k * 8 + 2, none⟩ = some a2 ∧ w'.cell? ⟨b, off + k * 8 + 3, none⟩ = some a3 ∧ w'.cell? ⟨b, off + k * 8 + 4, none⟩ = some (.int .i64 x.fin.k) ∧ w'.cell? ⟨b, off + k * 8 + 5, none⟩ = some (.int .i64 x.fin.a) ∧ w'.cell? ⟨b, off + k * 8 + 6, none⟩ = some (.int .i64 x.fin.t) ∧ w'.cell? ⟨b, off + k * 8 + 7, none⟩ = some (.int .i64 x.fin.l) ∧ w'.cell? ⟨b', off' + k * 8, none⟩ = some a0' ∧ w'.cell? ⟨b', off' + k * 8 + 1, none⟩ = some a1' ∧ w'.cell? ⟨b', off' + k * 8 + 2, none⟩ = some a2' ∧ w'.cell? ⟨b', off' + k * 8 + 3, none⟩ = some a3' ∧ w'.cell? ⟨b', off' + k * 8 + 4, none⟩ = some (.int .i64 x.fin.k) ∧ w'.cell? ⟨b', off' + k * 8 + 5, none⟩ = some (.int .i64 x.fin.a) ∧ w'.cell? ⟨b', off' + k * 8 + 6, none⟩ = some (.int .i64 x.fin.t) ∧ w'.cell? ⟨b', off' + k * 8 + 7, none⟩ = some (.int .i64 x.fin.l)) (first | exact Kd | exact K | exact K5 | fail)
        (first
        | (go_at_call 76; have := (show _ ∧ _ by assumption); refine (eqBlock_same _ _ _ _ Z Z' (HQ.out.keep (Kept.below this.1 fun b hb => by have h1 := hD b hb; omega)) (HQ'.out.keep (Kept.below this.1 fun b hb => by have h1 := hD' b hb; omega)) (fun b hb => by have h1 := hD b hb; have h2 := this.1.size; omega) (fun b hb => by have h1 := hD' b hb; have h2 := this.1.size; omega)).mono ?_; rintro e w5 ⟨rfl, hb5⟩; have K5 := keepS _ (this.1.trans (hb5.mono this.1.size))))
      go_wp2_with fail
      have HB5 := Lib.hid (HB.out.trans (K5.1.mono hz))
      clear K Kd K5 keepS
      go_roundw
      case rel => exact ⟨k + 1, by omega, by go_num, HB5.out⟩
      case measure => simp [intOf]; omega
    · obtain rfl : k = xs.length := by omega
      go_wp2
      go_ret
      exact ⟨rfl, HB.out⟩

set_option maxHeartbeats 400000 in
theorem eqFun_same (f : FunD) (u v : Value) (w : World) (Z Z' : Zn) (hu : EFun w Z f u) (hv : EFun w Z' f v) (hD : ∀ b, Z.D b → b < w.heap.size) (hD' : ∀ b, Z'.D b → b < w.heap.size) :
    Calls Tryz.prog 17 #[u, v] w (Says true w) := by
  obtain ⟨r, rfl, hr⟩ := hu
  obtain ⟨r', rfl, hr'⟩ := hv
  have HV0 := Lib.hid hr
  have HU0 := Lib.hid hr'
  obtain ⟨_, A0, c0, rfl, _⟩ := hr
  obtain ⟨_, B0, d0, rfl, _⟩ := hr'
  go_enter Tryz.func17, Tryz.ntmps17
  go_wp2_with fail
  have hK : ∀ V : World, Below w.heap.size w V → Kept Z Z w V := fun V hb => Kept.below hb hD
  have hK' : ∀ V : World, Below w.heap.size w V → Kept Z' Z' w V := fun V hb => Kept.below hb hD'
  refine (eqBlockS_same _ _ _ _ Z Z' (HV0.out.keep (hK _ (((Below.refl _ _).alloc (Nat.le_refl _) _).alloc (by simp) _)) fun _ _ h => h.keep (hK _ (((Below.refl _ _).alloc (Nat.le_refl _) _).alloc (by simp) _))) (HU0.out.keep (hK' _ (((Below.refl _ _).alloc (Nat.le_refl _) _).alloc (by simp) _)) fun _ _ h => h.keep (hK' _ (((Below.refl _ _).alloc (Nat.le_refl _) _).alloc (by simp) _))) (fun b hb => by have := hD b hb; simp; omega) (fun b hb => by have := hD' b hb; simp; omega)).mono ?_
  rintro e w1 ⟨rfl, hb1⟩
  have HB1 : Hid (Below w.heap.size w w1) := (((Below.refl _ _).alloc (Nat.le_refl _) _).alloc (by simp) _).trans (hb1.mono (by simp; omega))
  clear hb1
  go_wp2_with fail
  go_ret
  exact ⟨rfl, HB1.out⟩
end

/- The model's FunOk and PredsOf. -/
section
open Go.ChangeShapes Go.WideShapes Go.ChangeAt Go.RowKit Go.Joins

theorem EFun.row {w : World} {Z : Zn} {f : FunD} {a b u : Value} (h : EFun w Z f (.agg #[a, b, u])) : Row w Z 8 (EBlock w Z) u f.blocks := by
  obtain ⟨u', he, hr⟩ := h
  injection he with he
  have : u = u' := by
    have := congrArg (fun l : Array Value => l[2]?) he
    simpa using this
  rw [this]; exact hr

theorem l2Frame_any (f : FunD) (v : Value) (w : World) (Z : Zn) (hv : EFun w Z f v) (hD : ∀ b, Z.D b → b < w.heap.size) : Calls Tryz.prog 68 #[v] w (GivesB (FrameP f) w) := by
  obtain ⟨u, rfl, hu⟩ := hv
  by_cases h : FrameHead f
  · exact l2Frame_yes f u w Z h hu hD
  · obtain ⟨hle, A, c, rfl, _⟩ := hu
    exact l2Frame_no f _ w h ⟨_, _, rfl⟩ hle

theorem FrameP.head {f : FunD} (h : FrameP f) : FrameHead f := ⟨h.1, h.2.1, h.2.2.1, h.2.2.2.1⟩
theorem predsF_len (f : FunD) (j : Int) : (predsF f j).length ≤ f.blocks.length := predsK_len _ _ _ _

set_option maxRecDepth 10000 in
set_option maxHeartbeats 2000000 in
theorem sFunOk_any (f : FunD) (v : Value) (w : World) (Z : Zn) (hv : EFun w Z f v) (hD : ∀ b, Z.D b → b < w.heap.size) (hn : f.blocks.length ≤ 1048576) : Calls Tryz.prog 38 #[v] w (GivesB (FunP f) w) := by
  have HF := Lib.hid hv
  obtain ⟨u, rfl, hu⟩ := hv
  obtain ⟨_, A, c, rfl, hx⟩ := hu
  go_enter Tryz.func38, Tryz.ntmps38
  go_wp2_with fail
  refine (l2Frame_any f _ _ Z (HF.out.keep (Kept.below ((Below.refl _ _).alloc (Nat.le_refl _) _) hD)) (fun b hb => by have := hD b hb; simp; omega)).mono ?_
  rintro e w1 ⟨r, rfl, hr, hb1⟩
  have HR := Lib.hid hr
  have HB1 := Lib.hid (hb1.mono (B' := w.heap.size + 1) (by simp))
  have HB01 : Hid (Below w.heap.size w w1) := ((Below.refl _ _).alloc (Nat.le_refl _) _).trans (HB1.out.mono (by omega))
  have hz1 : w.heap.size + 1 ≤ w1.heap.size := by have := hb1.size; simp at this; omega
  obtain ⟨hc1, hf1⟩ := bcellB HB1.out
  clear hb1 hf1 hr
  cases r
  · have HN : Hid (¬ FunP f) := fun h => by have := HR.out.2 h.1; cases this
    go_wp2_with fail
    go_ret
    exact gives_no HN.out HB01.out
  have HP := Lib.hid (HR.out.1 rfl)
  clear HR
  go_wp2_with fail
  refine (l2Preds_any f _ 0 _ Z (HF.out.keep (Kept.below HB01.out hD)) (fun b hb => by have := hD b hb; omega) hn).mono ?_
  rintro e w2 ⟨r, rfl, hr, hb2⟩
  have HB2 := Lib.hid (HB1.out.trans (hb2.mono hz1))
  have HB02 : Hid (Below w.heap.size w w2) := ((Below.refl _ _).alloc (Nat.le_refl _) _).trans (HB2.out.mono (by omega))
  obtain ⟨hle2, A2, c2, rfl, _⟩ := hr.ri
  have hz2 : w.heap.size + 1 ≤ w2.heap.size := by have := hb2.size; omega
  obtain ⟨hc2, hf2⟩ := bcellB (hb2.mono hz1)
  clear hb2 hf2 hr
  by_cases hp0 : predsF f 0 = []
  case neg =>
    have HN : Hid (¬ FunP f) := fun h => hp0 h.2.1
    have hp0' : decide (0 < (predsF f 0).length) = true := by simpa using List.length_pos_iff.2 hp0
    clear hp0
    go_wp2_with fail
    go_ret
    exact gives_no HN.out HB02.out
  have hp0' : decide (0 < (predsF f 0).length) = false := by rw [hp0]; simp
  have HP0 := Lib.hid hp0
  clear hp0
  have h1n := HP.out.1.1
  have h40 := HP.out.1.2
  have hxk : f.blocks[0]? = some f.blocks[0] := List.getElem?_eq_getElem h1n
  generalize f.blocks[0] = x at hxk
  have HX := Lib.hid hx
  obtain ⟨b, off, rfl, hDb, hrow⟩ := hx (by intro h; rw [h] at h1n; simp at h1n)
  obtain ⟨cs, hE, hcs⟩ := hrow 0 x hxk
  have hbl := hD b hDb
  obtain ⟨_, _, _, _, rfl, ⟨_, A0, c0, rfl, _⟩, _⟩ := hE
  have c0 : w.cell? ⟨b, off, none⟩ = some (.slice A0 x.phis.length c0) := by have := (hcs 0 _ rfl).1; simpa using this
  have Hxk := Lib.hid hxk
  have h1n' : 0 < (f.blocks.length : Int) := by omega
  clear hcs hrow hxk
  by_cases hph : x.phis = []
  case neg =>
    have HN : Hid (¬ FunP f) := fun h => hph (h.2.2.1 x Hxk.out)
    have hp0' : decide (0 < x.phis.length) = true := by simpa using List.length_pos_iff.2 hph
    clear hph
    go_wp2_with fail
    go_ret
    exact gives_no HN.out HB02.out
  have hph' : decide (0 < x.phis.length) = false := by rw [hph]; simp
  have HPH : Hid (∀ y, f.blocks[0]? = some y → y.phis = []) := fun y hy => by
    rw [Hxk.out] at hy
    injection hy with hy
    subst hy
    exact hph
  clear hph
  go_wp2_with fail
  clear hc1 hc2 c0
  go_loopw [3] (fun i wr => ∃ k : Nat, k ≤ f.blocks.length ∧ i = .int .i64 k ∧ Hid (Below (w.heap.size + 1) (w.alloc (.cells #[.int .i64 f.params, .int .i64 f.names, .slice (some ⟨b, off, none⟩) f.blocks.length c] 26)) wr) ∧ Hid (∀ (j : Nat) y, j < k → f.blocks[j]? = some y → PhisP f.names (predsF f j).length y.phis)) (fun i _ => f.blocks.length - (intOf i).toNat)
  case atStart => exact ⟨0, Nat.zero_le _, rfl, HB2.out, fun _ _ h => absurd h (by omega)⟩
  case round =>
    obtain ⟨k, hk, rfl, HB, H1⟩ := hrel
    have HB0 : Hid (Below w.heap.size w wr) := ((Below.refl _ _).alloc (Nat.le_refl _) _).trans (HB.out.mono (by omega))
    have hzw : w.heap.size + 1 ≤ wr.heap.size := by have := HB.out.size; simp at this; omega
    have f0 : wr.cell? ⟨w.heap.size, 0, none⟩ = some (.int .i64 f.params) := (HB.out.cell (p := ⟨w.heap.size, 0, none⟩) (by simp)).trans (by go_simp)
    have f1 : wr.cell? ⟨w.heap.size, 1, none⟩ = some (.int .i64 f.names) := (HB.out.cell (p := ⟨w.heap.size, 1, none⟩) (by simp)).trans (by go_simp)
    have f2 : wr.cell? ⟨w.heap.size, 2, none⟩ = some (.slice (some ⟨b, off, none⟩) f.blocks.length c) := (HB.out.cell (p := ⟨w.heap.size, 2, none⟩) (by simp)).trans (by go_simp)
    by_cases hlt : k < f.blocks.length
    case neg =>
      obtain rfl : k = f.blocks.length := by omega
      go_wp2
      go_ret
      exact gives_yes ⟨HP.out, HP0.out, HPH.out, fun j y hy => H1.out j y (List.getElem?_eq_some_iff.1 hy).1 hy⟩ HB0.out
    have hyk : f.blocks[k]? = some f.blocks[k] := List.getElem?_eq_getElem hlt
    generalize f.blocks[k] = y at hyk
    obtain ⟨b', off', he, hDb', hrow⟩ := HX.out (by intro h; rw [h] at hlt; simp at hlt)
    injection he with he
    injection he with hb' ho'
    subst hb' ho'
    obtain ⟨cs, hE, hcs⟩ := hrow k y hyk
    obtain ⟨_, _, _, _, rfl, hv0, _⟩ := hE
    have HV0 := Lib.hid (hv0.keep (Kept.below HB0.out hD) fun _ _ h => h.keep (Kept.below HB0.out hD))
    obtain ⟨_, A0, cy, rfl, _⟩ := hv0
    have c0 : wr.cell? ⟨b, off + k * 8, none⟩ = some (.slice A0 y.phis.length cy) := (HB0.out.cell (p := ⟨b, _, none⟩) hbl).trans (hcs 0 _ rfl).1
    have Hyk := Lib.hid hyk
    have hbw : b < wr.heap.size := by omega
    have hfw : w.heap.size < wr.heap.size := by omega
    have h3a := HP.out.2.1.1
    have h3b := HP.out.2.1.2
    clear hcs hyk hrow
    have keepS : ∀ w1 : World, Below wr.heap.size wr w1 → (fun w' => Below wr.heap.size wr w' ∧ w'.cell? ⟨w.heap.size, 0, none⟩ = some (.int .i64 f.params) ∧ w'.cell? ⟨w.heap.size, 1, none⟩ = some (.int .i64 f.names) ∧ w'.cell? ⟨w.heap.size, 2, none⟩ = some (.slice (some ⟨b, off, none⟩) f.blocks.length c) ∧ w'.cell? ⟨b, off + k * 8, none⟩ = some (.slice A0 y.phis.length cy)) w1 :=
      fun w1 hb => ⟨hb, (hb.cell (p := ⟨w.heap.size, 0, none⟩) hfw).trans f0, (hb.cell (p := ⟨w.heap.size, 1, none⟩) hfw).trans f1, (hb.cell (p := ⟨w.heap.size, 2, none⟩) hfw).trans f2, (hb.cell (p := ⟨b, _, none⟩) hbw).trans c0⟩
    have K := keepS _ (Below.refl _ _)
    have Kd := keepS _ below_drew
    go_wp2_with fail
    go_region_held3 (fun w' => Below wr.heap.size wr w' ∧ w'.cell? ⟨w.heap.size, 0, none⟩ = some (.int .i64 f.params) ∧ w'.cell? ⟨w.heap.size, 1, none⟩ = some (.int .i64 f.names) ∧ w'.cell? ⟨w.heap.size, 2, none⟩ = some (.slice (some ⟨b, off, none⟩) f.blocks.length c) ∧ w'.cell? ⟨b, off + k * 8, none⟩ = some (.slice A0 y.phis.length cy)) (first | exact Kd | exact K | exact K5 | exact K6 | fail)
      (first
      | (go_at_call 69; have := (show _ ∧ _ by assumption); refine (l2Preds_any f _ k _ Z (HF.out.keep ((Kept.below HB0.out hD).trans (Kept.below this.1 fun b hb => by have h1 := hD b hb; omega))) (fun b hb => by have h1 := hD b hb; have h2 := this.1.size; omega) hn).mono ?_; rintro e w5 ⟨r, rfl, hr, hb5⟩; obtain ⟨hle5, A5, c5, rfl, _⟩ := hr.ri; have K5 := keepS _ (this.1.trans (hb5.mono this.1.size)); clear hr hb5 this)
      | (go_at_call 70; have := (show _ ∧ _ by assumption); refine (l2Phis_any _ y.phis f.names (predsF f k).length _ Z (HV0.out.keep (Kept.below this.1 fun b hb => by have h1 := hD b hb; omega) fun _ _ h => h.keep (Kept.below this.1 fun b hb => by have h1 := hD b hb; omega)) h3a h3b).mono ?_; rintro e w6 ⟨r6, rfl, hr6, hb6⟩; have HR6 := Lib.hid hr6; have K6 := keepS _ (this.1.trans (hb6.mono this.1.size)); clear hr6 hb6 this))
    have HB6 := Lib.hid (HB.out.trans (K6.1.mono hzw))
    have HB06 : Hid (Below w.heap.size w w6) := ((Below.refl _ _).alloc (Nat.le_refl _) _).trans (HB6.out.mono (by omega))
    clear K Kd K5 K6 keepS
    cases r6
    · have HN : Hid (¬ FunP f) := fun h => by have := HR6.out.2 (h.2.2.2 k y Hyk.out); cases this
      go_wp2_with fail
      go_ret
      exact gives_no HN.out HB06.out
    · have HP6 := Lib.hid (HR6.out.1 rfl)
      have H1' : Hid (∀ (j : Nat) z, j < k + 1 → f.blocks[j]? = some z → PhisP f.names (predsF f j).length z.phis) := fun j z hj hz => by
        by_cases hjk : j = k
        · subst hjk
          rw [Hyk.out] at hz
          injection hz with hz
          subst hz
          exact HP6.out
        · exact H1.out j z (by omega) hz
      clear HR6
      go_wp2_with fail
      go_roundw
      case rel => exact ⟨k + 1, by omega, by go_num, HB6, H1'⟩
      case measure => simp [intOf]; omega

/-- What PredsOf answers. -/
def PredsRes (f : FunD) (j : Int) (xs : List Int) : Prop := (FunP f ∧ isBelowB j f.blocks.length = true ∧ xs = predsF f j) ∨ (¬ (FunP f ∧ isBelowB j f.blocks.length = true) ∧ xs = [])
theorem PredsRes.one {f : FunD} {j : Int} {xs ys : List Int} (h : PredsRes f j xs) (k : PredsRes f j ys) : xs = ys := by
  rcases h with ⟨h1, h2, rfl⟩ | ⟨h1, rfl⟩ <;> rcases k with ⟨k1, k2, rfl⟩ | ⟨k1, rfl⟩
  · rfl
  · exact absurd ⟨h1, h2⟩ k1
  · exact absurd ⟨k1, k2⟩ h1
  · rfl
theorem PredsRes.len {f : FunD} {j : Int} {xs : List Int} (h : PredsRes f j xs) : xs.length ≤ f.blocks.length := by
  rcases h with ⟨_, _, rfl⟩ | ⟨_, rfl⟩
  · exact predsF_len f j
  · simp
def GivesPreds (f : FunD) (j : Int) (w : World) (e : Ending) (w' : World) : Prop := ∃ xs r, e = .returned r ∧ PredsRes f j xs ∧ OI w' w.heap.size r xs ∧ Below w.heap.size w w'
end

/- Slices of bool: how they read, and whose they are. -/
section
open Go.ChangeShapes Go.WideShapes Go.ChangeAt Go.RowKit Go.Joins

def bv (b : Bool) : Value := .bool b

/-- The slice value v reads as the bools xs. -/
def RB (w : World) (v : Value) (xs : List Bool) : Prop :=
  xs.length ≤ 9223372036854775807 ∧ ∃ A c, v = .slice A xs.length c ∧ (xs ≠ [] → ∃ b off, A = some ⟨b, off, none⟩ ∧ ∀ k u, xs[k]? = some u → w.cell? ⟨b, off + k, none⟩ = some (.bool u))

/-- The slice value v is the call's own, from block B on, and reads as xs. -/
def OB (w : World) (B : Nat) (v : Value) (xs : List Bool) : Prop := w.ownsRow B 4 1 v xs.length (xs.map bv)

theorem OB.rb {w : World} {B : Nat} {v : Value} {xs : List Bool} (h : OB w B v xs) : RB w v xs := by
  have h0 := h
  rcases h.2 with ⟨rfl, hn⟩ | ⟨g, cap, cur, rfl, _, hg, hnc, hcm, hs, ht⟩
  · exact ⟨by omega, none, 0, by rw [hn], fun hne => absurd (List.length_eq_zero_iff.1 hn) hne⟩
  · refine ⟨by rw [maxLen_is] at hcm; omega, _, cap, rfl, fun _ => ⟨g, 0, rfl, fun k u hu => ?_⟩⟩
    have hk : k < xs.length := by
      rcases Nat.lt_or_ge k xs.length with h | h
      · exact h
      · rw [List.getElem?_eq_none h] at hu; cases hu
    have := World.ownsRow.cellAt h0 k (by omega)
    rw [Nat.zero_add, this, List.getElem?_map, hu]; rfl

theorem take_eq_ofB {xs ys : List Bool} {k : Nat} {x : Bool} (h : xs.take k = ys.take k) (hx : xs[k]? = some x) (hy : ys[k]? = some x) : xs.take (k + 1) = ys.take (k + 1) := by
  rw [List.take_add_one, List.take_add_one, h, hx, hy]

def markB (k : Int) (n : Nat) : List Bool := (List.range n).map fun (i : Nat) => (k + (i : Int)) % 3 == 0
theorem markB_length (k : Int) (n : Nat) : (markB k n).length = n := by simp [markB]
theorem markB_get (k : Int) {n j : Nat} (h : j < n) : (markB k n)[j]? = some ((k + j) % 3 == 0) := by simp [markB, h]
theorem markB_zero (k : Int) : markB k 0 = [] := rfl

theorem set_stepB (k : Int) (xs : List Bool) {j : Nat} (h : j < xs.length) :
    (((markB k j ++ xs.drop j).map bv).set j (bv ((k + j) % 3 == 0))) = (markB k (j + 1) ++ xs.drop (j + 1)).map bv := by
  apply List.ext_getElem?
  intro i
  rw [List.getElem?_set, List.getElem?_map, List.getElem?_map]
  have hl : (List.map bv (markB k j ++ List.drop j xs)).length = xs.length := by simp [markB_length]; omega
  rw [hl]
  by_cases hij : j = i
  · subst hij
    rw [if_pos rfl, if_pos h, List.getElem?_append_left (by rw [markB_length]; omega), markB_get k (by omega)]; rfl
  · rw [if_neg hij]
    by_cases hlt : i < j
    · rw [List.getElem?_append_left (by rw [markB_length]; exact hlt), List.getElem?_append_left (by rw [markB_length]; omega), markB_get k hlt, markB_get k (by omega)]
    · rw [List.getElem?_append_right (by rw [markB_length]; omega), List.getElem?_append_right (by rw [markB_length]; omega), markB_length, markB_length, List.getElem?_drop, List.getElem?_drop]
      congr 2; omega
end

/- movesWithin of the program. -/
section
open Go.ChangeShapes Go.WideShapes Go.ChangeAt Go.RowKit Go.Joins

theorem zeros_given : Tryz.zeroCells193 = Array.replicate 150 (.bool false) := by kernel_rfl

theorem run_store_same {P : Program} (w : World) (cs : Array Value) (t : TypeId) (h : ∀ v ∈ cs.toList, v.oneCell' = true) : (storeCells ⟨w.heap.size, 0, none⟩ cs.toList).run P (w.alloc (.cells cs t)) = .ok () (w.alloc (.cells cs t)) := by
  have hg := heap_alloc_new w (.cells cs t)
  rw [run_storeCells_at P w.heap.size 0 t cs.toList 0 cs (w.alloc (.cells cs t)) hg (by simp) h]
  have e : (cs.toList.take (0 + 0) ++ cs.toList ++ cs.toList.drop (0 + 0 + cs.toList.length)).toArray = cs := by rw [List.drop_eq_nil_of_le (by simp)]; simp
  rw [e, setRow_self _ _ _ _ _ hg]

def givenB (ms : List MoveD) (k : Nat) (d : Nat) : Bool := (ms.take k).any fun m => m.dst == (d : Int)
theorem givenB_succ {ms : List MoveD} {k : Nat} {x : MoveD} (h : ms[k]? = some x) (d : Nat) : givenB ms (k + 1) d = (givenB ms k d || (x.dst == (d : Int))) := by
  unfold givenB
  rw [List.take_add_one, h]
  simp
theorem givenB_yes {ms : List MoveD} {k d : Nat} (h : givenB ms k d = true) : ∃ j m, j < k ∧ ms[j]? = some m ∧ m.dst = d := by
  unfold givenB at h
  rw [List.any_eq_true] at h
  obtain ⟨m, hm, hd⟩ := h
  obtain ⟨j, hj⟩ := List.mem_iff_getElem?.1 hm
  have hjk : j < k := by
    rcases Nat.lt_or_ge j k with h | h
    · exact h
    · rw [List.getElem?_take, if_neg (by omega)] at hj; cases hj
  rw [List.getElem?_take, if_pos hjk] at hj
  exact ⟨j, m, hjk, hj, by simpa using hd⟩
theorem givenB_no {ms : List MoveD} {k d : Nat} (h : givenB ms k d = false) {j : Nat} {m : MoveD} (hj : j < k) (hm : ms[j]? = some m) : m.dst ≠ d := by
  intro e
  unfold givenB at h
  rw [List.any_eq_false] at h
  refine h m (List.mem_iff_getElem?.2 ⟨j, ?_⟩) (by simpa using e)
  rw [List.getElem?_take, if_pos hj]; exact hm

/-- Row g tells which names have been given. -/
def Given (w : World) (g : Nat) (ms : List MoveD) (k : Nat) : Prop := ∃ cur : Array Value, w.heap[g]? = some (.cells cur 193 (0, 0)) ∧ cur.size = 150 ∧ ∀ d, d < 150 → cur[d]? = some (.bool (givenB ms k d))
theorem Given.start {w : World} (ms : List MoveD) : Given (w.alloc (.cells Tryz.zeroCells193 193)) w.heap.size ms 0 := by
  refine ⟨_, heap_alloc_new w _, by rw [zeros_given]; simp, fun d hd => ?_⟩
  rw [zeros_given]
  simp [givenB, hd]
theorem Given.cell {w : World} {g : Nat} {ms : List MoveD} {k d : Nat} (h : Given w g ms k) (hd : d < 150) : w.cell? ⟨g, d, none⟩ = some (.bool (givenB ms k d)) := by
  obtain ⟨cur, h1, _, h3⟩ := h
  exact (cell_of_row w g _ cur _ (0, 0) h1).trans (h3 d hd)
theorem Given.frozen {w : World} {g : Nat} {ms : List MoveD} {k : Nat} (h : Given w g ms k) (d : Nat) : w.frozen? ⟨g, d, none⟩ = false := by
  obtain ⟨cur, h1, _⟩ := h
  simp [World.frozen?, h1]
theorem Given.keep {w w' : World} {g : Nat} {ms : List MoveD} {k : Nat} (h : Given w g ms k) (hw : w'.heap[g]? = w.heap[g]?) : Given w' g ms k := by
  obtain ⟨cur, h1, h2⟩ := h
  exact ⟨cur, hw.trans h1, h2⟩
theorem Given.step {w : World} {g : Nat} {ms : List MoveD} {k d : Nat} {x : MoveD} (h : Given w g ms k) (hx : ms[k]? = some x) (hd : x.dst = d) : Given (w.setCell ⟨g, d, none⟩ (.bool true)) g ms (k + 1) := by
  obtain ⟨cur, h1, h2, h3⟩ := h
  refine ⟨cur.setIfInBounds d (.bool true), heap_setCell_same w g d cur _ _ h1, by simpa using h2, fun d' hd' => ?_⟩
  rw [givenB_succ hx, Array.getElem?_setIfInBounds]
  by_cases e : d = d'
  · subst e
    rw [if_pos rfl, if_pos (by omega), hd]
    simp
  · rw [if_neg e, h3 d' hd']
    have : (x.dst == (d' : Int)) = false := by simp; omega
    rw [this, Bool.or_false]

set_option maxRecDepth 10000 in
set_option maxHeartbeats 1000000 in
theorem movesWithin_any (v : Value) (ms : List MoveD) (names : Int) (w : World) (Z : Zn) (hv : Row w Z 2 EMove v ms) (hD : ∀ b, Z.D b → b < w.heap.size) (h1 : names ≤ 150) :
    Calls Tryz.prog 141 #[v, .int .i64 names] w (GivesB (MovesP names ms) w) := by
  obtain ⟨hle, A, c, rfl, hx⟩ := hv
  by_cases hlen : ms.length ≤ 40
  case neg =>
    have h' : (40 : Int) < (ms.length : Int) := by omega
    have HN : Hid (¬ MovesP names ms) := fun h => hlen h.1
    clear hlen
    go_enter Tryz.func141, Tryz.ntmps141
    go_wp2
    go_ret
    exact gives_no HN.out (Below.refl _ _)
  have h' : (ms.length : Int) ≤ 40 := by omega
  have hst := run_store_same (P := Tryz.prog) w Tryz.zeroCells193 193 (by rw [zeros_given]; simp [Value.oneCell'])
  go_enter Tryz.func141, Tryz.ntmps141
  go_wp2
  clear hst
  go_loopw [14] (fun i wr => ∃ k : Nat, k ≤ ms.length ∧ i = .int .i64 k ∧ Hid (Below w.heap.size w wr) ∧ w.heap.size < wr.heap.size ∧ Hid (Given wr w.heap.size ms k) ∧ Hid (∀ (j : Nat) m, j < k → ms[j]? = some m → MoveP names m) ∧ Hid (∀ (i j : Nat) m m', i < k → j < i → ms[i]? = some m → ms[j]? = some m' → m'.dst ≠ m.dst)) (fun i _ => ms.length - (intOf i).toNat)
  case atStart => exact ⟨0, Nat.zero_le _, rfl, (Below.refl _ _).alloc (Nat.le_refl _) _, by simp, Given.start ms, fun _ _ h => absurd h (by omega), fun _ _ _ _ h => absurd h (by omega)⟩
  case round =>
    obtain ⟨k, hk, rfl, HB, hgz, HG, H1, H2⟩ := hrel
    by_cases hlt : k < ms.length
    case neg =>
      obtain rfl : k = ms.length := by omega
      go_wp2
      go_ret
      exact gives_yes ⟨hlen, fun j m hm => H1.out j m (List.getElem?_eq_some_iff.1 hm).1 hm, fun i j m m' hj hm hm' => H2.out i j m m' (List.getElem?_eq_some_iff.1 hm).1 hj hm hm'⟩ HB.out
    have hxk : ms[k]? = some ms[k] := List.getElem?_eq_getElem hlt
    generalize ms[k] = x at hxk
    obtain ⟨b, off, rfl, hDb, hrow⟩ := hx (by rintro rfl; simp at hlt)
    obtain ⟨cs, rfl, hcs⟩ := hrow k x hxk
    have hbl := hD b hDb
    have c0 : wr.cell? ⟨b, off + k * 2, none⟩ = some (.int .i64 x.dst) := (HB.out.cell (p := ⟨b, _, none⟩) hbl).trans (hcs 0 _ rfl).1
    have c1 : wr.cell? ⟨b, off + k * 2 + 1, none⟩ = some (.int .i64 x.src) := (HB.out.cell (p := ⟨b, _, none⟩) hbl).trans (hcs 1 _ rfl).1
    have Hxk := Lib.hid hxk
    clear hcs hx hxk hrow
    have hBm : ∀ T : Obj, Below w.heap.size w (wr.alloc T) := fun T => HB.out.alloc (by omega) _
    have HBm := Lib.hid hBm
    clear hBm
    cases hd : isBelowB x.dst names
    · have HN : Hid (¬ MovesP names ms) := movesP_first Hxk.out (moveP_dst hd)
      go_wp2_with (go_at_call 93; refine (isBelow_any _ _ _).mono ?_; rintro e w' ⟨rfl, rfl⟩)
      go_ret
      exact gives_no HN.out (HBm.out _)
    cases hs : isBelowB x.src names
    · have HN : Hid (¬ MovesP names ms) := movesP_first Hxk.out (moveP_src hs)
      go_wp2_with (go_at_call 93; refine (isBelow_any _ _ _).mono ?_; rintro e w' ⟨rfl, rfl⟩)
      go_ret
      exact gives_no HN.out (HBm.out _)
    have hdd : 0 ≤ x.dst ∧ x.dst < names := by simpa [isBelowB] using hd
    have H1' : Hid (∀ (j : Nat) m, j < k + 1 → ms[j]? = some m → MoveP names m) := fun j m hj hm => by
      by_cases hjk : j = k
      · subst hjk
        rw [Hxk.out] at hm
        injection hm with hm
        subst hm
        exact ⟨hd, hs⟩
      · exact H1.out j m (by omega) hm
    obtain ⟨dst, src⟩ := x
    simp only at hdd hd hs c0 c1
    obtain ⟨d, rfl⟩ : ∃ d : Nat, dst = d := ⟨dst.toNat, by omega⟩
    have hdl : d < 150 := by omega
    have hdl' : (d : Int) < 150 := by omega
    have hd0 : 0 ≤ (d : Int) := by omega
    have g0 := HG.out.cell (d := d) hdl
    have gf := HG.out.frozen d
    clear hdd
    cases hgv : givenB ms k d
    · rw [hgv] at g0
      have H2' : Hid (∀ (i j' : Nat) m m', i < k + 1 → j' < i → ms[i]? = some m → ms[j']? = some m' → m'.dst ≠ m.dst) := fun i j' m m' hi hj' hm hm' => by
        by_cases e : i = k
        · subst e
          rw [Hxk.out] at hm
          injection hm with hm
          subst hm
          exact givenB_no hgv hj' hm'
        · exact H2.out i j' m m' (by omega) hj' hm hm'
      clear hgv
      go_wp2_with (go_at_call 93; refine (isBelow_any _ _ _).mono ?_; rintro e w' ⟨rfl, rfl⟩)
      go_roundw
      case rel =>
        refine ⟨k + 1, by omega, by go_num, (HB.out.setCell (by simp) _).alloc (by simp; omega) _, by simp; omega, ?_, H1', H2'⟩
        exact (HG.out.step Hxk.out rfl).keep (Below.heap_alloc _ _ _ (by rw [nblk_set]; exact hgz))
      case measure => simp [intOf]; omega
    · rw [hgv] at g0
      have HN : Hid (¬ MovesP names ms) := fun h => by
        obtain ⟨j, m, hj, hm, hmd⟩ := givenB_yes hgv
        exact h.2.2 k j _ m hj Hxk.out hm hmd
      clear hgv
      go_wp2_with (go_at_call 93; refine (isBelow_any _ _ _).mono ?_; rintro e w' ⟨rfl, rfl⟩)
      go_ret
      exact gives_no HN.out (HBm.out _)
end

end Go.Proofs.YtnjmlhokkhkaaaaGreat
