/- eqFun of the laws and what it calls: at two values that read alike it answers true. -/
import Derived.Test.YtbghcoihndlihaaRow
import Derived.Test.YtbghcoihndlihaaEnd
import Derived.Deep.RegionHeld3
namespace Go.Proofs.Ytbghcoihndlihaa
open Go.ChangeShapes Go.WideShapes Go.ChangeAt Go.RowKit Go.Joins

theorem Row.ri {w : World} {Z : Zn} {v : Value} {xs : List Int} (h : Row w Z 1 EInt v xs) : RI w v xs := by
  obtain ⟨h1, A, c, rfl, h2⟩ := h
  refine ⟨h1, A, c, rfl, fun hne => ?_⟩
  obtain ⟨b, off, rfl, _, h3⟩ := h2 hne
  refine ⟨b, off, rfl, fun k u hu => ?_⟩
  obtain ⟨cs, rfl, h4⟩ := h3 k u hu
  have := (h4 0 _ rfl).1
  rwa [Nat.mul_one] at this

/-- The call answers true, and old memory stays. -/
def Says (b : Bool) (w : World) (e : Ending) (w' : World) : Prop := e = .returned (.bool b) ∧ Below w.heap.size w w'
theorem below_drew {w : World} : Below w.heap.size w w.drew := (Below.refl w.heap.size w).drew

set_option maxHeartbeats 400000 in
theorem eqMove_same (a b : Int) (w : World) : Calls Try.prog 86 #[.agg #[.int .i64 a, .int .i64 b], .agg #[.int .i64 a, .int .i64 b]] w (Says true w) := by
  go_enter Try.func86, Try.ntmps86
  go_wp2
  go_ret
  exact ⟨rfl, ((Below.refl _ _).alloc (Nat.le_refl _) _).alloc (by simp) _⟩

set_option maxHeartbeats 400000 in
theorem eqIns_same (a b c d : Int) (w : World) : Calls Try.prog 87 #[.agg #[.int .i64 a, .int .i64 b, .int .i64 c, .int .i64 d], .agg #[.int .i64 a, .int .i64 b, .int .i64 c, .int .i64 d]] w (Says true w) := by
  go_enter Try.func87, Try.ntmps87
  go_wp2
  go_ret
  exact ⟨rfl, ((Below.refl _ _).alloc (Nat.le_refl _) _).alloc (by simp) _⟩

set_option maxHeartbeats 400000 in
theorem eqEnd_same (a b c d : Int) (w : World) : Calls Try.prog 72 #[.agg #[.int .i64 a, .int .i64 b, .int .i64 c, .int .i64 d], .agg #[.int .i64 a, .int .i64 b, .int .i64 c, .int .i64 d]] w (Says true w) := by
  go_enter Try.func72, Try.ntmps72
  go_wp2
  go_ret
  exact ⟨rfl, ((Below.refl _ _).alloc (Nat.le_refl _) _).alloc (by simp) _⟩

set_option maxHeartbeats 400000 in
theorem eqPhi_same (a : Int) (u v : Value) (xs : List Int) (w : World) (Z Z' : Zn) (hu : Row w Z 1 EInt u xs) (hv : Row w Z' 1 EInt v xs) (hD : ∀ b, Z.D b → b < w.heap.size) (hD' : ∀ b, Z'.D b → b < w.heap.size) :
    Calls Try.prog 85 #[.agg #[.int .i64 a, u], .agg #[.int .i64 a, v]] w (Says true w) := by
  have HU := Lib.hid hu
  have HV := Lib.hid hv
  obtain ⟨_, A, c, rfl, _⟩ := hu
  obtain ⟨_, A', c', rfl, _⟩ := hv
  go_enter Try.func85, Try.ntmps85
  go_wp2_with fail
  have hK : ∀ V : World, Below w.heap.size w V → (∀ Z : Zn, (∀ b, Z.D b → b < w.heap.size) → Kept Z Z w V) := fun V hb Z hD => Kept.below hb hD
  refine (eqInt64S_same _ _ xs _ (HU.out.keep (hK _ (((Below.refl _ _).alloc (Nat.le_refl _) _).alloc (by simp) _) _ hD) fun _ _ h => h).ri (HV.out.keep (hK _ (((Below.refl _ _).alloc (Nat.le_refl _) _).alloc (by simp) _) _ hD') fun _ _ h => h).ri).mono ?_
  rintro e w1 ⟨rfl, n, rfl⟩
  go_wp2_with fail
  go_ret
  exact ⟨rfl, below_drewN (((Below.refl _ _).alloc (Nat.le_refl _) _).alloc (by simp) _) n⟩

set_option maxHeartbeats 400000 in
theorem eqMoveS_same (u v : Value) (xs : List MoveD) (w : World) (Z Z' : Zn) (hu : Row w Z 2 EMove u xs) (hv : Row w Z' 2 EMove v xs) (hD : ∀ b, Z.D b → b < w.heap.size) (hD' : ∀ b, Z'.D b → b < w.heap.size) :
    Calls Try.prog 70 #[u, v] w (Says true w) := by
  obtain ⟨hle, A, c, rfl, hx⟩ := hu
  obtain ⟨_, A', c', rfl, hy⟩ := hv
  go_enter Try.func70, Try.ntmps70
  go_wp2
  go_loopw [5] (fun i wr => ∃ k : Nat, k ≤ xs.length ∧ i = .int .i64 k ∧ Hid (Below w.heap.size w wr)) (fun i _ => xs.length - (intOf i).toNat)
  case atStart => exact ⟨0, Nat.zero_le _, rfl, Below.refl _ _⟩
  case round =>
    obtain ⟨k, hk, rfl, HB⟩ := hrel
    by_cases hlt : k < xs.length
    · have hxk : xs[k]? = some xs[k] := List.getElem?_eq_getElem hlt
      generalize xs[k] = x at hxk
      obtain ⟨b, off, rfl, hDb, hrow⟩ := hx (by rintro rfl; simp at hlt)
      obtain ⟨b', off', rfl, hDb', hrow'⟩ := hy (by rintro rfl; simp at hlt)
      obtain ⟨cs, hE, hcs⟩ := hrow k x hxk
      obtain ⟨cs', hE', hcs'⟩ := hrow' k x hxk
      have hbl := hD b hDb
      have hbl' := hD' b' hDb'
      have hz := HB.out.size
      have hbw : b < wr.heap.size := by omega
      have hbw' : b' < wr.heap.size := by omega
      subst hE hE'
      have c0 : wr.cell? ⟨b, off + k * 2, none⟩ = some (.int .i64 x.dst) := (HB.out.cell (p := ⟨b, _, none⟩) hbl).trans (hcs 0 _ rfl).1
      have c1 : wr.cell? ⟨b, off + k * 2 + 1, none⟩ = some (.int .i64 x.src) := (HB.out.cell (p := ⟨b, _, none⟩) hbl).trans (hcs 1 _ rfl).1
      have p0 : wr.cell? ⟨b', off' + k * 2, none⟩ = some (.int .i64 x.dst) := (HB.out.cell (p := ⟨b', _, none⟩) hbl').trans (hcs' 0 _ rfl).1
      have p1 : wr.cell? ⟨b', off' + k * 2 + 1, none⟩ = some (.int .i64 x.src) := (HB.out.cell (p := ⟨b', _, none⟩) hbl').trans (hcs' 1 _ rfl).1
      clear hcs hrow hx hcs' hrow' hy hxk
      have keepS : ∀ w1 : World, Below wr.heap.size wr w1 → (fun w' => Below wr.heap.size wr w' ∧ w'.cell? ⟨b, off + k * 2, none⟩ = some (.int .i64 x.dst) ∧ w'.cell? ⟨b, off + k * 2 + 1, none⟩ = some (.int .i64 x.src) ∧ w'.cell? ⟨b', off' + k * 2, none⟩ = some (.int .i64 x.dst) ∧ w'.cell? ⟨b', off' + k * 2 + 1, none⟩ = some (.int .i64 x.src)) w1 := fun w1 hb => ⟨hb, (hb.cell (p := ⟨b, _, none⟩) hbw).trans c0, (hb.cell (p := ⟨b, _, none⟩) hbw).trans c1, (hb.cell (p := ⟨b', _, none⟩) hbw').trans p0, (hb.cell (p := ⟨b', _, none⟩) hbw').trans p1⟩
      have K := keepS _ (Below.refl _ _)
      have Kd := keepS _ below_drew
      go_wp2_with fail
      go_region_held3 (fun w' => Below wr.heap.size wr w' ∧ w'.cell? ⟨b, off + k * 2, none⟩ = some (.int .i64 x.dst) ∧ w'.cell? ⟨b, off + k * 2 + 1, none⟩ = some (.int .i64 x.src) ∧ w'.cell? ⟨b', off' + k * 2, none⟩ = some (.int .i64 x.dst) ∧ w'.cell? ⟨b', off' + k * 2 + 1, none⟩ = some (.int .i64 x.src)) (first | exact Kd | exact K | exact K5 | fail)
        (first
        | (go_at_call 86; have := (show _ ∧ _ by assumption); refine (eqMove_same _ _ _).mono ?_; rintro e w5 ⟨rfl, hb5⟩; have K5 := keepS _ (this.1.trans (hb5.mono this.1.size))))
      go_wp2_with fail
      have HB5 := Lib.hid (HB.out.trans (K5.1.mono hz))
      clear K Kd K5 keepS
      go_roundw
      case rel => exact ⟨k + 1, by omega, by go_num, HB5.out⟩
      case measure => simp [intOf]; omega
    · obtain rfl : k = xs.length := by omega
      go_wp2
      go_ret
      exact ⟨rfl, HB.out⟩

set_option maxHeartbeats 400000 in
theorem eqInsS_same (u v : Value) (xs : List InsD) (w : World) (Z Z' : Zn) (hu : Row w Z 4 EIns u xs) (hv : Row w Z' 4 EIns v xs) (hD : ∀ b, Z.D b → b < w.heap.size) (hD' : ∀ b, Z'.D b → b < w.heap.size) :
    Calls Try.prog 71 #[u, v] w (Says true w) := by
  obtain ⟨hle, A, c, rfl, hx⟩ := hu
  obtain ⟨_, A', c', rfl, hy⟩ := hv
  go_enter Try.func71, Try.ntmps71
  go_wp2
  go_loopw [5] (fun i wr => ∃ k : Nat, k ≤ xs.length ∧ i = .int .i64 k ∧ Hid (Below w.heap.size w wr)) (fun i _ => xs.length - (intOf i).toNat)
  case atStart => exact ⟨0, Nat.zero_le _, rfl, Below.refl _ _⟩
  case round =>
    obtain ⟨k, hk, rfl, HB⟩ := hrel
    by_cases hlt : k < xs.length
    · have hxk : xs[k]? = some xs[k] := List.getElem?_eq_getElem hlt
      generalize xs[k] = x at hxk
      obtain ⟨b, off, rfl, hDb, hrow⟩ := hx (by rintro rfl; simp at hlt)
      obtain ⟨b', off', rfl, hDb', hrow'⟩ := hy (by rintro rfl; simp at hlt)
      obtain ⟨cs, hE, hcs⟩ := hrow k x hxk
      obtain ⟨cs', hE', hcs'⟩ := hrow' k x hxk
      have hbl := hD b hDb
      have hbl' := hD' b' hDb'
      have hz := HB.out.size
      have hbw : b < wr.heap.size := by omega
      have hbw' : b' < wr.heap.size := by omega
      subst hE hE'
      have c0 : wr.cell? ⟨b, off + k * 4, none⟩ = some (.int .i64 x.op) := (HB.out.cell (p := ⟨b, _, none⟩) hbl).trans (hcs 0 _ rfl).1
      have c1 : wr.cell? ⟨b, off + k * 4 + 1, none⟩ = some (.int .i64 x.v) := (HB.out.cell (p := ⟨b, _, none⟩) hbl).trans (hcs 1 _ rfl).1
      have c2 : wr.cell? ⟨b, off + k * 4 + 2, none⟩ = some (.int .i64 x.a) := (HB.out.cell (p := ⟨b, _, none⟩) hbl).trans (hcs 2 _ rfl).1
      have c3 : wr.cell? ⟨b, off + k * 4 + 3, none⟩ = some (.int .i64 x.b) := (HB.out.cell (p := ⟨b, _, none⟩) hbl).trans (hcs 3 _ rfl).1
      have p0 : wr.cell? ⟨b', off' + k * 4, none⟩ = some (.int .i64 x.op) := (HB.out.cell (p := ⟨b', _, none⟩) hbl').trans (hcs' 0 _ rfl).1
      have p1 : wr.cell? ⟨b', off' + k * 4 + 1, none⟩ = some (.int .i64 x.v) := (HB.out.cell (p := ⟨b', _, none⟩) hbl').trans (hcs' 1 _ rfl).1
      have p2 : wr.cell? ⟨b', off' + k * 4 + 2, none⟩ = some (.int .i64 x.a) := (HB.out.cell (p := ⟨b', _, none⟩) hbl').trans (hcs' 2 _ rfl).1
      have p3 : wr.cell? ⟨b', off' + k * 4 + 3, none⟩ = some (.int .i64 x.b) := (HB.out.cell (p := ⟨b', _, none⟩) hbl').trans (hcs' 3 _ rfl).1
      clear hcs hrow hx hcs' hrow' hy hxk
      have keepS : ∀ w1 : World, Below wr.heap.size wr w1 → (fun w' => Below wr.heap.size wr w' ∧ w'.cell? ⟨b, off + k * 4, none⟩ = some (.int .i64 x.op) ∧ w'.cell? ⟨b, off + k * 4 + 1, none⟩ = some (.int .i64 x.v) ∧ w'.cell? ⟨b, off + k * 4 + 2, none⟩ = some (.int .i64 x.a) ∧ w'.cell? ⟨b, off + k * 4 + 3, none⟩ = some (.int .i64 x.b) ∧ w'.cell? ⟨b', off' + k * 4, none⟩ = some (.int .i64 x.op) ∧ w'.cell? ⟨b', off' + k * 4 + 1, none⟩ = some (.int .i64 x.v) ∧ w'.cell? ⟨b', off' + k * 4 + 2, none⟩ = some (.int .i64 x.a) ∧ w'.cell? ⟨b', off' + k * 4 + 3, none⟩ = some (.int .i64 x.b)) w1 := fun w1 hb => ⟨hb, (hb.cell (p := ⟨b, _, none⟩) hbw).trans c0, (hb.cell (p := ⟨b, _, none⟩) hbw).trans c1, (hb.cell (p := ⟨b, _, none⟩) hbw).trans c2, (hb.cell (p := ⟨b, _, none⟩) hbw).trans c3, (hb.cell (p := ⟨b', _, none⟩) hbw').trans p0, (hb.cell (p := ⟨b', _, none⟩) hbw').trans p1, (hb.cell (p := ⟨b', _, none⟩) hbw').trans p2, (hb.cell (p := ⟨b', _, none⟩) hbw').trans p3⟩
      have K := keepS _ (Below.refl _ _)
      have Kd := keepS _ below_drew
      go_wp2_with fail
      go_region_held3 (fun w' => Below wr.heap.size wr w' ∧ w'.cell? ⟨b, off + k * 4, none⟩ = some (.int .i64 x.op) ∧ w'.cell? ⟨b, off + k * 4 + 1, none⟩ = some (.int .i64 x.v) ∧ w'.cell? ⟨b, off + k * 4 + 2, none⟩ = some (.int .i64 x.a) ∧ w'.cell? ⟨b, off + k * 4 + 3, none⟩ = some (.int .i64 x.b) ∧ w'.cell? ⟨b', off' + k * 4, none⟩ = some (.int .i64 x.op) ∧ w'.cell? ⟨b', off' + k * 4 + 1, none⟩ = some (.int .i64 x.v) ∧ w'.cell? ⟨b', off' + k * 4 + 2, none⟩ = some (.int .i64 x.a) ∧ w'.cell? ⟨b', off' + k * 4 + 3, none⟩ = some (.int .i64 x.b)) (first | exact Kd | exact K | exact K5 | fail)
        (first
        | (go_at_call 87; have := (show _ ∧ _ by assumption); refine (eqIns_same _ _ _ _ _).mono ?_; rintro e w5 ⟨rfl, hb5⟩; have K5 := keepS _ (this.1.trans (hb5.mono this.1.size))))
      go_wp2_with fail
      have HB5 := Lib.hid (HB.out.trans (K5.1.mono hz))
      clear K Kd K5 keepS
      go_roundw
      case rel => exact ⟨k + 1, by omega, by go_num, HB5.out⟩
      case measure => simp [intOf]; omega
    · obtain rfl : k = xs.length := by omega
      go_wp2
      go_ret
      exact ⟨rfl, HB.out⟩

set_option maxHeartbeats 400000 in
theorem eqPhiS_same (u v : Value) (xs : List PhiD) (w : World) (Z Z' : Zn) (hu : Row w Z 2 (EPhi w Z) u xs) (hv : Row w Z' 2 (EPhi w Z') v xs) (hD : ∀ b, Z.D b → b < w.heap.size) (hD' : ∀ b, Z'.D b → b < w.heap.size) :
    Calls Try.prog 69 #[u, v] w (Says true w) := by
  obtain ⟨hle, A, c, rfl, hx⟩ := hu
  obtain ⟨_, A', c', rfl, hy⟩ := hv
  go_enter Try.func69, Try.ntmps69
  go_wp2
  go_loopw [5] (fun i wr => ∃ k : Nat, k ≤ xs.length ∧ i = .int .i64 k ∧ Hid (Below w.heap.size w wr)) (fun i _ => xs.length - (intOf i).toNat)
  case atStart => exact ⟨0, Nat.zero_le _, rfl, Below.refl _ _⟩
  case round =>
    obtain ⟨k, hk, rfl, HB⟩ := hrel
    by_cases hlt : k < xs.length
    · have hxk : xs[k]? = some xs[k] := List.getElem?_eq_getElem hlt
      generalize xs[k] = x at hxk
      obtain ⟨b, off, rfl, hDb, hrow⟩ := hx (by rintro rfl; simp at hlt)
      obtain ⟨b', off', rfl, hDb', hrow'⟩ := hy (by rintro rfl; simp at hlt)
      obtain ⟨cs, hE, hcs⟩ := hrow k x hxk
      obtain ⟨cs', hE', hcs'⟩ := hrow' k x hxk
      have hbl := hD b hDb
      have hbl' := hD' b' hDb'
      have hz := HB.out.size
      have hbw : b < wr.heap.size := by omega
      have hbw' : b' < wr.heap.size := by omega
      obtain ⟨q, rfl, hq⟩ := hE
      obtain ⟨q', rfl, hq'⟩ := hE'
      have HQ := Lib.hid (hq.keep (Kept.below HB.out hD) fun _ _ h => h)
      have HQ' := Lib.hid (hq'.keep (Kept.below HB.out hD') fun _ _ h => h)
      clear hq hq'

      have c0 : wr.cell? ⟨b, off + k * 2, none⟩ = some (.int .i64 x.v) := (HB.out.cell (p := ⟨b, _, none⟩) hbl).trans (hcs 0 _ rfl).1
      have c1 : wr.cell? ⟨b, off + k * 2 + 1, none⟩ = some q := (HB.out.cell (p := ⟨b, _, none⟩) hbl).trans (hcs 1 _ rfl).1
      have p0 : wr.cell? ⟨b', off' + k * 2, none⟩ = some (.int .i64 x.v) := (HB.out.cell (p := ⟨b', _, none⟩) hbl').trans (hcs' 0 _ rfl).1
      have p1 : wr.cell? ⟨b', off' + k * 2 + 1, none⟩ = some q' := (HB.out.cell (p := ⟨b', _, none⟩) hbl').trans (hcs' 1 _ rfl).1
      clear hcs hrow hx hcs' hrow' hy hxk
      have keepS : ∀ w1 : World, Below wr.heap.size wr w1 → (fun w' => Below wr.heap.size wr w' ∧ w'.cell? ⟨b, off + k * 2, none⟩ = some (.int .i64 x.v) ∧ w'.cell? ⟨b, off + k * 2 + 1, none⟩ = some q ∧ w'.cell? ⟨b', off' + k * 2, none⟩ = some (.int .i64 x.v) ∧ w'.cell? ⟨b', off' + k * 2 + 1, none⟩ = some q') w1 := fun w1 hb => ⟨hb, (hb.cell (p := ⟨b, _, none⟩) hbw).trans c0, (hb.cell (p := ⟨b, _, none⟩) hbw).trans c1, (hb.cell (p := ⟨b', _, none⟩) hbw').trans p0, (hb.cell (p := ⟨b', _, none⟩) hbw').trans p1⟩
      have K := keepS _ (Below.refl _ _)
      have Kd := keepS _ below_drew
      go_wp2_with fail
      go_region_held3 (fun w' => Below wr.heap.size wr w' ∧ w'.cell? ⟨b, off + k * 2, none⟩ = some (.int .i64 x.v) ∧ w'.cell? ⟨b, off + k * 2 + 1, none⟩ = some q ∧ w'.cell? ⟨b', off' + k * 2, none⟩ = some (.int .i64 x.v) ∧ w'.cell? ⟨b', off' + k * 2 + 1, none⟩ = some q') (first | exact Kd | exact K | exact K5 | fail)
        (first
        | (go_at_call 85; have := (show _ ∧ _ by assumption); refine (eqPhi_same _ _ _ _ _ Z Z' (HQ.out.keep (Kept.below this.1 fun b hb => by have h1 := hD b hb; omega) fun _ _ h => h) (HQ'.out.keep (Kept.below this.1 fun b hb => by have h1 := hD' b hb; omega) fun _ _ h => h) (fun b hb => by have h1 := hD b hb; have h2 := this.1.size; omega) (fun b hb => by have h1 := hD' b hb; have h2 := this.1.size; omega)).mono ?_; rintro e w5 ⟨rfl, hb5⟩; have K5 := keepS _ (this.1.trans (hb5.mono this.1.size))))
      go_wp2_with fail
      have HB5 := Lib.hid (HB.out.trans (K5.1.mono hz))
      clear K Kd K5 keepS
      go_roundw
      case rel => exact ⟨k + 1, by omega, by go_num, HB5.out⟩
      case measure => simp [intOf]; omega
    · obtain rfl : k = xs.length := by omega
      go_wp2
      go_ret
      exact ⟨rfl, HB.out⟩

theorem EBlock.rows {w : World} {Z : Zn} {x : BlockD} {v0 v1 v2 v3 a b c d : Value} (h : EBlock w Z x [v0, v1, v2, v3, a, b, c, d]) : a = .int .i64 x.fin.k ∧ b = .int .i64 x.fin.a ∧ c = .int .i64 x.fin.t ∧ d = .int .i64 x.fin.l ∧ Row w Z 2 (EPhi w Z) v0 x.phis ∧ Row w Z 2 EMove v1 x.head ∧ Row w Z 4 EIns v2 x.body ∧ Row w Z 2 EMove v3 x.tail := by
  obtain ⟨_, _, _, _, he, h0, h1, h2, h3⟩ := h
  simp only [List.cons.injEq, and_true] at he
  obtain ⟨rfl, rfl, rfl, rfl, rfl, rfl, rfl, rfl⟩ := he
  exact ⟨rfl, rfl, rfl, rfl, h0, h1, h2, h3⟩

set_option maxHeartbeats 1000000 in
theorem eqBlock_same (x : BlockD) (cs cs' : List Value) (w : World) (Z Z' : Zn) (hu : EBlock w Z x cs) (hv : EBlock w Z' x cs') (hD : ∀ b, Z.D b → b < w.heap.size) (hD' : ∀ b, Z'.D b → b < w.heap.size) :
    Calls Try.prog 39 #[.agg cs.toArray, .agg cs'.toArray] w (Says true w) := by
  obtain ⟨v0, v1, v2, v3, rfl, hv0, hv1, hv2, hv3⟩ := hu
  obtain ⟨u0, u1, u2, u3, rfl, hu0, hu1, hu2, hu3⟩ := hv
  have HV0 := Lib.hid hv0
  have HV1 := Lib.hid hv1
  have HV2 := Lib.hid hv2
  have HV3 := Lib.hid hv3
  have HU0 := Lib.hid hu0
  have HU1 := Lib.hid hu1
  have HU2 := Lib.hid hu2
  have HU3 := Lib.hid hu3
  obtain ⟨_, A0, c0, rfl, _⟩ := hv0
  obtain ⟨_, A1, c1, rfl, _⟩ := hv1
  obtain ⟨_, A2, c2, rfl, _⟩ := hv2
  obtain ⟨_, A3, c3, rfl, _⟩ := hv3
  obtain ⟨_, B0, d0, rfl, _⟩ := hu0
  obtain ⟨_, B1, d1, rfl, _⟩ := hu1
  obtain ⟨_, B2, d2, rfl, _⟩ := hu2
  obtain ⟨_, B3, d3, rfl, _⟩ := hu3
  go_enter Try.func39, Try.ntmps39
  go_wp2_with fail
  have hK : ∀ V : World, Below w.heap.size w V → Kept Z Z w V := fun V hb => Kept.below hb hD
  have hK' : ∀ V : World, Below w.heap.size w V → Kept Z' Z' w V := fun V hb => Kept.below hb hD'
  refine (eqPhiS_same _ _ _ _ Z Z' (HV0.out.keep (hK _ (((Below.refl _ _).alloc (Nat.le_refl _) _).alloc (by simp) _)) fun _ _ h => h.keep (hK _ (((Below.refl _ _).alloc (Nat.le_refl _) _).alloc (by simp) _))) (HU0.out.keep (hK' _ (((Below.refl _ _).alloc (Nat.le_refl _) _).alloc (by simp) _)) fun _ _ h => h.keep (hK' _ (((Below.refl _ _).alloc (Nat.le_refl _) _).alloc (by simp) _))) (fun b hb => by have := hD b hb; simp; omega) (fun b hb => by have := hD' b hb; simp; omega)).mono ?_
  rintro e w1 ⟨rfl, hb1⟩
  have HB1 : Hid (Below w.heap.size w w1) := (((Below.refl _ _).alloc (Nat.le_refl _) _).alloc (by simp) _).trans (hb1.mono (by simp; omega))
  obtain ⟨hc1, hf1⟩ := bcellB (hb1.mono (B' := w.heap.size + 2) (by simp))
  have hz1 : w.heap.size + 2 ≤ w1.heap.size := by have := hb1.size; simp at this; omega
  clear hb1 hf1
  go_wp2_with fail
  refine (eqMoveS_same _ _ _ _ Z Z' (HV1.out.keep (hK _ HB1.out) fun _ _ h => h) (HU1.out.keep (hK' _ HB1.out) fun _ _ h => h) (fun b hb => by have := hD b hb; omega) (fun b hb => by have := hD' b hb; omega)).mono ?_
  rintro e w2 ⟨rfl, hb2⟩
  have HB2 : Hid (Below w.heap.size w w2) := HB1.out.trans (hb2.mono (by omega))
  obtain ⟨hc2, hf2⟩ := bcellB (hb2.mono (B' := w.heap.size + 2) (by omega))
  have hz2 : w.heap.size + 2 ≤ w2.heap.size := by have := hb2.size; omega
  clear hb2 hf2
  go_wp2_with fail
  refine (eqInsS_same _ _ _ _ Z Z' (HV2.out.keep (hK _ HB2.out) fun _ _ h => h) (HU2.out.keep (hK' _ HB2.out) fun _ _ h => h) (fun b hb => by have := hD b hb; omega) (fun b hb => by have := hD' b hb; omega)).mono ?_
  rintro e w3 ⟨rfl, hb3⟩
  have HB3 : Hid (Below w.heap.size w w3) := HB2.out.trans (hb3.mono (by omega))
  obtain ⟨hc3, hf3⟩ := bcellB (hb3.mono (B' := w.heap.size + 2) (by omega))
  have hz3 : w.heap.size + 2 ≤ w3.heap.size := by have := hb3.size; omega
  clear hb3 hf3
  go_wp2_with fail
  refine (eqMoveS_same _ _ _ _ Z Z' (HV3.out.keep (hK _ HB3.out) fun _ _ h => h) (HU3.out.keep (hK' _ HB3.out) fun _ _ h => h) (fun b hb => by have := hD b hb; omega) (fun b hb => by have := hD' b hb; omega)).mono ?_
  rintro e w4 ⟨rfl, hb4⟩
  have HB4 : Hid (Below w.heap.size w w4) := HB3.out.trans (hb4.mono (by omega))
  obtain ⟨hc4, hf4⟩ := bcellB (hb4.mono (B' := w.heap.size + 2) (by omega))
  have hz4 : w.heap.size + 2 ≤ w4.heap.size := by have := hb4.size; omega
  clear hb4 hf4
  go_wp2_with fail
  refine (eqEnd_same _ _ _ _ _).mono ?_
  rintro e w5 ⟨rfl, hb5⟩
  have HB5 : Hid (Below w.heap.size w w5) := HB4.out.trans (hb5.mono (by omega))
  go_wp2_with fail
  go_ret
  exact ⟨rfl, HB5.out⟩

set_option maxHeartbeats 1000000 in
theorem eqBlockS_same (u v : Value) (xs : List BlockD) (w : World) (Z Z' : Zn) (hu : Row w Z 8 (EBlock w Z) u xs) (hv : Row w Z' 8 (EBlock w Z') v xs) (hD : ∀ b, Z.D b → b < w.heap.size) (hD' : ∀ b, Z'.D b → b < w.heap.size) :
    Calls Try.prog 24 #[u, v] w (Says true w) := by
  obtain ⟨hle, A, c, rfl, hx⟩ := hu
  obtain ⟨_, A', c', rfl, hy⟩ := hv
  go_enter Try.func24, Try.ntmps24
  go_wp2
  go_loopw [5] (fun i wr => ∃ k : Nat, k ≤ xs.length ∧ i = .int .i64 k ∧ Hid (Below w.heap.size w wr)) (fun i _ => xs.length - (intOf i).toNat)
  case atStart => exact ⟨0, Nat.zero_le _, rfl, Below.refl _ _⟩
  case round =>
    obtain ⟨k, hk, rfl, HB⟩ := hrel
    by_cases hlt : k < xs.length
    · have hxk : xs[k]? = some xs[k] := List.getElem?_eq_getElem hlt
      generalize xs[k] = x at hxk
      obtain ⟨b, off, rfl, hDb, hrow⟩ := hx (by rintro rfl; simp at hlt)
      obtain ⟨b', off', rfl, hDb', hrow'⟩ := hy (by rintro rfl; simp at hlt)
      obtain ⟨cs, hE, hcs⟩ := hrow k x hxk
      obtain ⟨cs', hE', hcs'⟩ := hrow' k x hxk
      have hbl := hD b hDb
      have hbl' := hD' b' hDb'
      have hz := HB.out.size
      have hbw : b < wr.heap.size := by omega
      have hbw' : b' < wr.heap.size := by omega
      have HQ := Lib.hid (hE.keep (Kept.below HB.out hD))
      have HQ' := Lib.hid (hE'.keep (Kept.below HB.out hD'))
      obtain ⟨a0, a1, a2, a3, rfl, _⟩ := hE
      obtain ⟨a0', a1', a2', a3', rfl, _⟩ := hE'

      have c0 : wr.cell? ⟨b, off + k * 8, none⟩ = some a0 := (HB.out.cell (p := ⟨b, _, none⟩) hbl).trans (hcs 0 _ rfl).1
      have c1 : wr.cell? ⟨b, off + k * 8 + 1, none⟩ = some a1 := (HB.out.cell (p := ⟨b, _, none⟩) hbl).trans (hcs 1 _ rfl).1
      have c2 : wr.cell? ⟨b, off + k * 8 + 2, none⟩ = some a2 := (HB.out.cell (p := ⟨b, _, none⟩) hbl).trans (hcs 2 _ rfl).1
      have c3 : wr.cell? ⟨b, off + k * 8 + 3, none⟩ = some a3 := (HB.out.cell (p := ⟨b, _, none⟩) hbl).trans (hcs 3 _ rfl).1
      have c4 : wr.cell? ⟨b, off + k * 8 + 4, none⟩ = some (.int .i64 x.fin.k) := (HB.out.cell (p := ⟨b, _, none⟩) hbl).trans (hcs 4 _ rfl).1
      have c5 : wr.cell? ⟨b, off + k * 8 + 5, none⟩ = some (.int .i64 x.fin.a) := (HB.out.cell (p := ⟨b, _, none⟩) hbl).trans (hcs 5 _ rfl).1
      have c6 : wr.cell? ⟨b, off + k * 8 + 6, none⟩ = some (.int .i64 x.fin.t) := (HB.out.cell (p := ⟨b, _, none⟩) hbl).trans (hcs 6 _ rfl).1
      have c7 : wr.cell? ⟨b, off + k * 8 + 7, none⟩ = some (.int .i64 x.fin.l) := (HB.out.cell (p := ⟨b, _, none⟩) hbl).trans (hcs 7 _ rfl).1
      have p0 : wr.cell? ⟨b', off' + k * 8, none⟩ = some a0' := (HB.out.cell (p := ⟨b', _, none⟩) hbl').trans (hcs' 0 _ rfl).1
      have p1 : wr.cell? ⟨b', off' + k * 8 + 1, none⟩ = some a1' := (HB.out.cell (p := ⟨b', _, none⟩) hbl').trans (hcs' 1 _ rfl).1
      have p2 : wr.cell? ⟨b', off' + k * 8 + 2, none⟩ = some a2' := (HB.out.cell (p := ⟨b', _, none⟩) hbl').trans (hcs' 2 _ rfl).1
      have p3 : wr.cell? ⟨b', off' + k * 8 + 3, none⟩ = some a3' := (HB.out.cell (p := ⟨b', _, none⟩) hbl').trans (hcs' 3 _ rfl).1
      have p4 : wr.cell? ⟨b', off' + k * 8 + 4, none⟩ = some (.int .i64 x.fin.k) := (HB.out.cell (p := ⟨b', _, none⟩) hbl').trans (hcs' 4 _ rfl).1
      have p5 : wr.cell? ⟨b', off' + k * 8 + 5, none⟩ = some (.int .i64 x.fin.a) := (HB.out.cell (p := ⟨b', _, none⟩) hbl').trans (hcs' 5 _ rfl).1
      have p6 : wr.cell? ⟨b', off' + k * 8 + 6, none⟩ = some (.int .i64 x.fin.t) := (HB.out.cell (p := ⟨b', _, none⟩) hbl').trans (hcs' 6 _ rfl).1
      have p7 : wr.cell? ⟨b', off' + k * 8 + 7, none⟩ = some (.int .i64 x.fin.l) := (HB.out.cell (p := ⟨b', _, none⟩) hbl').trans (hcs' 7 _ rfl).1
      clear hcs hrow hx hcs' hrow' hy hxk
      have keepS : ∀ w1 : World, Below wr.heap.size wr w1 → (fun w' => Below wr.heap.size wr w' ∧ w'.cell? ⟨b, off + k * 8, none⟩ = some a0 ∧ w'.cell? ⟨b, off + k * 8 + 1, none⟩ = some a1 ∧ w'.cell? ⟨b, off + k * 8 + 2, none⟩ = some a2 ∧ w'.cell? ⟨b, off + k * 8 + 3, none⟩ = some a3 ∧ w'.cell? ⟨b, off + k * 8 + 4, none⟩ = some (.int .i64 x.fin.k) ∧ w'.cell? ⟨b, off + k * 8 + 5, none⟩ = some (.int .i64 x.fin.a) ∧ w'.cell? ⟨b, off + k * 8 + 6, none⟩ = some (.int .i64 x.fin.t) ∧ w'.cell? ⟨b, off + k * 8 + 7, none⟩ = some (.int .i64 x.fin.l) ∧ w'.cell? ⟨b', off' + k * 8, none⟩ = some a0' ∧ w'.cell? ⟨b', off' + k * 8 + 1, none⟩ = some a1' ∧ w'.cell? ⟨b', off' + k * 8 + 2, none⟩ = some a2' ∧ w'.cell? ⟨b', off' + k * 8 + 3, none⟩ = some a3' ∧ w'.cell? ⟨b', off' + k * 8 + 4, none⟩ = some (.int .i64 x.fin.k) ∧ w'.cell? ⟨b', off' + k * 8 + 5, none⟩ = some (.int .i64 x.fin.a) ∧ w'.cell? ⟨b', off' + k * 8 + 6, none⟩ = some (.int .i64 x.fin.t) ∧ w'.cell? ⟨b', off' + k * 8 + 7, none⟩ = some (.int .i64 x.fin.l)) w1 := fun w1 hb => ⟨hb, (hb.cell (p := ⟨b, _, none⟩) hbw).trans c0, (hb.cell (p := ⟨b, _, none⟩) hbw).trans c1, (hb.cell (p := ⟨b, _, none⟩) hbw).trans c2, (hb.cell (p := ⟨b, _, none⟩) hbw).trans c3, (hb.cell (p := ⟨b, _, none⟩) hbw).trans c4, (hb.cell (p := ⟨b, _, none⟩) hbw).trans c5, (hb.cell (p := ⟨b, _, none⟩) hbw).trans c6, (hb.cell (p := ⟨b, _, none⟩) hbw).trans c7, (hb.cell (p := ⟨b', _, none⟩) hbw').trans p0, (hb.cell (p := ⟨b', _, none⟩) hbw').trans p1, (hb.cell (p := ⟨b', _, none⟩) hbw').trans p2, (hb.cell (p := ⟨b', _, none⟩) hbw').trans p3, (hb.cell (p := ⟨b', _, none⟩) hbw').trans p4, (hb.cell (p := ⟨b', _, none⟩) hbw').trans p5, (hb.cell (p := ⟨b', _, none⟩) hbw').trans p6, (hb.cell (p := ⟨b', _, none⟩) hbw').trans p7⟩
      have K := keepS _ (Below.refl _ _)
      have Kd := keepS _ below_drew
      go_wp2_with fail
      go_region_held3 (fun w' => Below wr.heap.size wr w' ∧ w'.cell? ⟨b, off + k * 8, none⟩ = some a0 ∧ w'.cell? ⟨b, off + k * 8 + 1, none⟩ = some a1 ∧ w'.cell? ⟨b, off + k * 8 + 2, none⟩ = some a2 ∧ w'.cell? ⟨b, off + k * 8 + 3, none⟩ = some a3 ∧ w'.cell? ⟨b, off + k * 8 + 4, none⟩ = some (.int .i64 x.fin.k) ∧ w'.cell? ⟨b, off + k * 8 + 5, none⟩ = some (.int .i64 x.fin.a) ∧ w'.cell? ⟨b, off + k * 8 + 6, none⟩ = some (.int .i64 x.fin.t) ∧ w'.cell? ⟨b, off + k * 8 + 7, none⟩ = some (.int .i64 x.fin.l) ∧ w'.cell? ⟨b', off' + k * 8, none⟩ = some a0' ∧ w'.cell? ⟨b', off' + k * 8 + 1, none⟩ = some a1' ∧ w'.cell? ⟨b', off' + k * 8 + 2, none⟩ = some a2' ∧ w'.cell? ⟨b', off' + k * 8 + 3, none⟩ = some a3' ∧ w'.cell? ⟨b', off' + k * 8 + 4, none⟩ = some (.int .i64 x.fin.k) ∧ w'.cell? ⟨b', off' + k * 8 + 5, none⟩ = some (.int .i64 x.fin.a) ∧ w'.cell? ⟨b', off' + k * 8 + 6, none⟩ = some (.int .i64 x.fin.t) ∧ w'.cell? ⟨b', off' + k * 8 + 7, none⟩ = some (.int .i64 x.fin.l)) (first | exact Kd | exact K | exact K5 | fail)
        (first
        | (go_at_call 39; have := (show _ ∧ _ by assumption); refine (eqBlock_same _ _ _ _ Z Z' (HQ.out.keep (Kept.below this.1 fun b hb => by have h1 := hD b hb; omega)) (HQ'.out.keep (Kept.below this.1 fun b hb => by have h1 := hD' b hb; omega)) (fun b hb => by have h1 := hD b hb; have h2 := this.1.size; omega) (fun b hb => by have h1 := hD' b hb; have h2 := this.1.size; omega)).mono ?_; rintro e w5 ⟨rfl, hb5⟩; have K5 := keepS _ (this.1.trans (hb5.mono this.1.size))))
      go_wp2_with fail
      have HB5 := Lib.hid (HB.out.trans (K5.1.mono hz))
      clear K Kd K5 keepS
      go_roundw
      case rel => exact ⟨k + 1, by omega, by go_num, HB5.out⟩
      case measure => simp [intOf]; omega
    · obtain rfl : k = xs.length := by omega
      go_wp2
      go_ret
      exact ⟨rfl, HB.out⟩

set_option maxHeartbeats 400000 in
theorem eqFun_same (f : FunD) (u v : Value) (w : World) (Z Z' : Zn) (hu : EFun w Z f u) (hv : EFun w Z' f v) (hD : ∀ b, Z.D b → b < w.heap.size) (hD' : ∀ b, Z'.D b → b < w.heap.size) :
    Calls Try.prog 10 #[u, v] w (Says true w) := by
  obtain ⟨r, rfl, hr⟩ := hu
  obtain ⟨r', rfl, hr'⟩ := hv
  have HV0 := Lib.hid hr
  have HU0 := Lib.hid hr'
  obtain ⟨_, A0, c0, rfl, _⟩ := hr
  obtain ⟨_, B0, d0, rfl, _⟩ := hr'
  go_enter Try.func10, Try.ntmps10
  go_wp2_with fail
  have hK : ∀ V : World, Below w.heap.size w V → Kept Z Z w V := fun V hb => Kept.below hb hD
  have hK' : ∀ V : World, Below w.heap.size w V → Kept Z' Z' w V := fun V hb => Kept.below hb hD'
  refine (eqBlockS_same _ _ _ _ Z Z' (HV0.out.keep (hK _ (((Below.refl _ _).alloc (Nat.le_refl _) _).alloc (by simp) _)) fun _ _ h => h.keep (hK _ (((Below.refl _ _).alloc (Nat.le_refl _) _).alloc (by simp) _))) (HU0.out.keep (hK' _ (((Below.refl _ _).alloc (Nat.le_refl _) _).alloc (by simp) _)) fun _ _ h => h.keep (hK' _ (((Below.refl _ _).alloc (Nat.le_refl _) _).alloc (by simp) _))) (fun b hb => by have := hD b hb; simp; omega) (fun b hb => by have := hD' b hb; simp; omega)).mono ?_
  rintro e w1 ⟨rfl, hb1⟩
  have HB1 : Hid (Below w.heap.size w w1) := (((Below.refl _ _).alloc (Nat.le_refl _) _).alloc (by simp) _).trans (hb1.mono (by simp; omega))
  clear hb1
  go_wp2_with fail
  go_ret
  exact ⟨rfl, HB1.out⟩

end Go.Proofs.Ytbghcoihndlihaa
