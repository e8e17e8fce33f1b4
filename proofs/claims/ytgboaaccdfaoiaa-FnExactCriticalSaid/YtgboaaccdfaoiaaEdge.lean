/- Rows of edges: what eqEdgeS, markEdgeS, heldEdgeS and toEdge of the laws do. -/
import Derived.Test.YtgboaaccdfaoiaaEq
import Derived.Test.YtgboaaccdfaoiaaFr
import Derived.Test.YtgboaaccdfaoiaaObMore
import Derived.Deep.RegionHeld3
import Derived.Maps.AppendAt
namespace Go.Proofs.Ytgboaaccdfaoiaa
open Go.ChangeShapes Go.WideShapes Go.ChangeAt Go.RowKit Go.Joins

/-- The cells of edges (dst: From; src: To). -/
def fl (es : List MoveD) : List Value := es.flatMap fun e => [iv e.dst, iv e.src]
theorem fl_nil : fl [] = [] := rfl
theorem fl_cons (e : MoveD) (es : List MoveD) : fl (e :: es) = iv e.dst :: iv e.src :: fl es := rfl
theorem fl_append (a b : List MoveD) : fl (a ++ b) = fl a ++ fl b := by simp [fl, List.flatMap_append]
theorem fl_len : ∀ (es : List MoveD), (fl es).length = es.length * 2
  | [] => rfl
  | e :: es => by rw [fl_cons]; simp [fl_len es]; omega
theorem fl_get : ∀ {es : List MoveD} {k : Nat} {e : MoveD}, es[k]? = some e → (fl es)[k * 2]? = some (iv e.dst) ∧ (fl es)[k * 2 + 1]? = some (iv e.src)
  | [], k, e, h => by simp at h
  | a :: es, 0, e, h => by
    simp at h
    subst h
    exact ⟨rfl, rfl⟩
  | a :: es, k + 1, e, h => by
    have := fl_get (es := es) (k := k) (e := e) (by simpa using h)
    rw [fl_cons, show (k + 1) * 2 = k * 2 + 1 + 1 by omega]
    simpa using this

/-- The slice value v is the call's own, from block B on, and reads as the edges es. -/
def OE (w : World) (B : Nat) (v : Value) (es : List MoveD) : Prop := w.ownsRow B 51 2 v es.length (fl es)
theorem OE.lt {w : World} {B : Nat} {v : Value} {es : List MoveD} (h : OE w B v es) : ∀ k, v.ownBlock = some k → B ≤ k ∧ k < w.heap.size := World.ownsRow.lt h
theorem OE.fw {w w' : World} {B : Nat} {v : Value} {xs : List MoveD} {P : Nat → Prop} (h : OE w B v xs) (hf : Fw P w w') (hn : ∀ k, v.ownBlock = some k → ¬ P k) : OE w' B v xs := own_fw h hf hn
theorem OE.drewN {w : World} {B : Nat} {v : Value} {xs : List MoveD} (h : OE w B v xs) (n : Nat) : OE (w.drewN n) B v xs := h
theorem OE.grown {w w' : World} {B : Nat} {v : Value} {xs : List MoveD} (h : OE w B v xs) {row : Option Nat} (hg : w.grownBy w' row) (hne : v.ownBlock = none ∨ v.ownBlock ≠ row) : OE w' B v xs := World.ownsRow.kept h hg hne
theorem OE.below {w w' : World} {B B' : Nat} {v : Value} {xs : List MoveD} (h : OE w B v xs) (hb : Below B' w w') (hB : ∀ k, v.ownBlock = some k → k < B') : OE w' B v xs := by
  obtain ⟨h1, h2⟩ := h
  refine ⟨h1, ?_⟩
  rcases h2 with h2 | ⟨g, cap, cur, rfl, hg, hh, r⟩
  · exact .inl h2
  · exact .inr ⟨g, cap, cur, rfl, hg, (hb.block g (hB g rfl)).trans hh, r⟩
theorem OE.marked {D : Nat → Prop} {w w' : World} {B : Nat} {v : Value} {xs : List MoveD} (h : OE w B v xs) (hm : Marked D w w') (hn : ∀ k, v.ownBlock = some k → ¬ D k) : OE w' B v xs := by
  have hlt := h.lt
  obtain ⟨h1, h2⟩ := h
  refine ⟨h1, ?_⟩
  rcases h2 with h2 | ⟨g, cap, cur, rfl, hg, hh, r⟩
  · exact .inl h2
  · exact .inr ⟨g, cap, cur, rfl, hg, (hm.far g (hlt g rfl).2 (hn g rfl)).trans hh, r⟩
/-- It reads as a row. -/
theorem OE.row {w : World} {B : Nat} {v : Value} {es : List MoveD} (h : OE w B v es) : Row w (Zn.old w.heap.size) 2 EMove v es := by
  have h0 := h
  rcases h.2 with ⟨rfl, hn⟩ | ⟨g, cap, cur, rfl, _, hg, hnc, hcm, hs, ht⟩
  · exact ⟨by omega, none, 0, by rw [hn], fun hne => absurd (List.length_eq_zero_iff.1 hn) hne⟩
  · refine ⟨by rw [maxLen_is] at hcm; omega, _, cap, rfl, fun _ => ⟨g, 0, rfl, (Array.getElem?_eq_some_iff.1 hg).1, fun k e he => ⟨_, rfl, fun j u hu => ⟨?_, fun h => by cases h⟩⟩⟩⟩
    have hk := (List.getElem?_eq_some_iff.1 he).1
    have hget := fl_get he
    match j, hu with
    | 0, hu =>
      have hu' : iv e.dst = u := by simpa [iv] using hu
      rw [← hu', World.ownsRow.cellAt h0 _ (by omega), Nat.zero_add, Nat.add_zero]
      exact hget.1
    | 1, hu =>
      have hu' : iv e.src = u := by simpa [iv] using hu
      rw [← hu', World.ownsRow.cellAt h0 _ (by omega), Nat.zero_add]
      exact hget.2
    | j + 2, hu => simp at hu
theorem OE.form {w : World} {B : Nat} {v : Value} {es : List MoveD} (h : OE w B v es) : ∃ A c, v = .slice A es.length c := by
  obtain ⟨_, A, c, rfl, _⟩ := h.row
  exact ⟨A, c, rfl⟩

set_option maxHeartbeats 400000 in
theorem eqEdge_same (a b : Int) (w : World) :
    Calls Try.prog 81 #[.agg #[.int .i64 a, .int .i64 b], .agg #[.int .i64 a, .int .i64 b]] w (Says true w) := by
  have h1 : (a != a) = false := by simp
  have h2 : (b != b) = false := by simp
  go_enter Try.func81, Try.ntmps81
  go_wp2
  go_ret
  exact ⟨rfl, ((Below.refl _ _).alloc (Nat.le_refl _) _).alloc (by simp) _⟩

set_option maxHeartbeats 400000 in
theorem eqEdgeS_same (u v : Value) (xs : List MoveD) (w : World) (Z Z' : Zn) (hu : Row w Z 2 EMove u xs) (hv : Row w Z' 2 EMove v xs) (hD : ∀ b, Z.D b → b < w.heap.size) (hD' : ∀ b, Z'.D b → b < w.heap.size) :
    Calls Try.prog 43 #[u, v] w (Says true w) := by
  obtain ⟨hle, A, c, rfl, hx⟩ := hu
  obtain ⟨_, A', c', rfl, hy⟩ := hv
  go_enter Try.func43, Try.ntmps43
  go_wp2
  go_loopw [5] (fun i wr => ∃ k : Nat, k ≤ xs.length ∧ i = .int .i64 k ∧ Hid (Below w.heap.size w wr)) (fun i _ => xs.length - (intOf i).toNat)
  case atStart => exact ⟨0, Nat.zero_le _, rfl, Below.refl _ _⟩
  case round =>
    obtain ⟨k, hk, rfl, HB⟩ := hrel
    by_cases hlt : k < xs.length
    · have hxk : xs[k]? = some xs[k] := List.getElem?_eq_getElem hlt
      generalize xs[k] = x at hxk
      obtain ⟨b, off, rfl, hDb, hrow⟩ := hx (by rintro rfl; simp at hlt)
      obtain ⟨b', off', rfl, hDb', hrow'⟩ := hy (by rintro rfl; simp at hlt)
      obtain ⟨cs, hE, hcs⟩ := hrow k x hxk
      obtain ⟨cs', hE', hcs'⟩ := hrow' k x hxk
      have hbl := hD b hDb
      have hbl' := hD' b' hDb'
      have hz := HB.out.size
      have hbw : b < wr.heap.size := by omega
      have hbw' : b' < wr.heap.size := by omega
      subst hE hE'
      have c0 : wr.cell? ⟨b, off + k * 2, none⟩ = some (.int .i64 x.dst) := (HB.out.cell (p := ⟨b, _, none⟩) hbl).trans (hcs 0 _ rfl).1
      have c1 : wr.cell? ⟨b, off + k * 2 + 1, none⟩ = some (.int .i64 x.src) := (HB.out.cell (p := ⟨b, _, none⟩) hbl).trans (hcs 1 _ rfl).1
      have p0 : wr.cell? ⟨b', off' + k * 2, none⟩ = some (.int .i64 x.dst) := (HB.out.cell (p := ⟨b', _, none⟩) hbl').trans (hcs' 0 _ rfl).1
      have p1 : wr.cell? ⟨b', off' + k * 2 + 1, none⟩ = some (.int .i64 x.src) := (HB.out.cell (p := ⟨b', _, none⟩) hbl').trans (hcs' 1 _ rfl).1
      clear hcs hrow hx hcs' hrow' hy hxk
      have keepS : ∀ w1 : World, Below wr.heap.size wr w1 → (fun w' => Below wr.heap.size wr w' ∧ w'.cell? ⟨b, off + k * 2, none⟩ = some (.int .i64 x.dst) ∧ w'.cell? ⟨b, off + k * 2 + 1, none⟩ = some (.int .i64 x.src) ∧ w'.cell? ⟨b', off' + k * 2, none⟩ = some (.int .i64 x.dst) ∧ w'.cell? ⟨b', off' + k * 2 + 1, none⟩ = some (.int .i64 x.src)) w1 := fun w1 hb => ⟨hb, (hb.cell (p := ⟨b, _, none⟩) hbw).trans c0, (hb.cell (p := ⟨b, _, none⟩) hbw).trans c1, (hb.cell (p := ⟨b', _, none⟩) hbw').trans p0, (hb.cell (p := ⟨b', _, none⟩) hbw').trans p1⟩
      have K := keepS _ (Below.refl _ _)
      have Kd := keepS _ below_drew
      go_wp2_with fail
      go_region_held3 (fun w' => Below wr.heap.size wr w' ∧ w'.cell? ⟨b, off + k * 2, none⟩ = some (.int .i64 x.dst) ∧ w'.cell? ⟨b, off + k * 2 + 1, none⟩ = some (.int .i64 x.src) ∧ w'.cell? ⟨b', off' + k * 2, none⟩ = some (.int .i64 x.dst) ∧ w'.cell? ⟨b', off' + k * 2 + 1, none⟩ = some (.int .i64 x.src)) (first | exact Kd | exact K | exact K5 | fail)
        (first
        | (go_at_call 81; have := (show _ ∧ _ by assumption); refine (eqEdge_same _ _ _).mono ?_; rintro e w5 ⟨rfl, hb5⟩; have K5 := keepS _ (this.1.trans (hb5.mono this.1.size))))
      go_wp2_with fail
      have HB5 := Lib.hid (HB.out.trans (K5.1.mono hz))
      clear K Kd K5 keepS
      go_roundw
      case rel => exact ⟨k + 1, by omega, by go_num, HB5.out⟩
      case measure => simp [intOf]; omega
    · obtain rfl : k = xs.length := by omega
      go_wp2
      go_ret
      exact ⟨rfl, HB.out⟩


/-- Edges that are numbered on from k. -/
def markE (k : Int) (n : Nat) : List MoveD := (List.range n).map fun (i : Nat) => ⟨k + ((i * 2 : Nat) : Int), k + ((i * 2 : Nat) : Int) + 1⟩
theorem markE_length (k : Int) (n : Nat) : (markE k n).length = n := by simp [markE]
theorem markE_get (k : Int) {n j : Nat} (h : j < n) : (markE k n)[j]? = some ⟨k + ((j * 2 : Nat) : Int), k + ((j * 2 : Nat) : Int) + 1⟩ := by simp [markE, h]
theorem markE_zero (k : Int) : markE k 0 = [] := rfl
theorem markE_succ (k : Int) (j : Nat) : markE k (j + 1) = markE k j ++ [⟨k + ((j * 2 : Nat) : Int), k + ((j * 2 : Nat) : Int) + 1⟩] := by simp [markE, List.range_succ]
theorem set_two {α : Type} (A R : List α) (x y u v : α) (j : Nat) (h : A.length = j) : ((A ++ x :: y :: R).set j u).set (j + 1) v = A ++ u :: v :: R := by
  subst h
  rw [List.set_append_right _ _ (Nat.le_refl _), Nat.sub_self, List.set_cons_zero, List.set_append_right _ _ (by omega), show A.length + 1 - A.length = 1 by omega]
  rfl
theorem set_stepE (k : Int) (es : List MoveD) {j : Nat} (h : j < es.length) :
    ((fl (markE k j ++ es.drop j)).set (j * 2) (iv (k + ((j * 2 : Nat) : Int)))).set (j * 2 + 1) (iv (k + ((j * 2 : Nat) : Int) + 1)) = fl (markE k (j + 1) ++ es.drop (j + 1)) := by
  rw [List.drop_eq_getElem_cons h, fl_append, fl_cons, set_two _ _ _ _ _ _ _ (by rw [fl_len, markE_length]), markE_succ, fl_append, fl_append, List.append_assoc]
  rfl

set_option maxHeartbeats 1000000 in
theorem markEdgeS_any (B : Nat) (v : Value) (xs : List MoveD) (k : Int) (w : World) (hv : OE w B v xs) (hk0 : 0 ≤ k) (hk1 : k + ((xs.length * 2 : Nat) : Int) ≤ 9223372036854775807) :
    Calls Try.prog 44 #[v, .int .i64 k] w fun e w' => e = .returned (.int .i64 (k + ((xs.length * 2 : Nat) : Int))) ∧ OE w' B v (markE k xs.length) ∧ w.grownBy w' v.ownBlock := by
  have hlen := hv.row.1
  by_cases h0 : xs.length = 0
  · obtain rfl := List.length_eq_zero_iff.1 h0
    obtain ⟨A, c, rfl⟩ := hv.form
    simp only [List.length_nil] at *
    go_enter Try.func44, Try.ntmps44
    go_wp2
    go_loopw [1, 5] (fun q i wr => i = .int .i64 0 ∧ q = .int .i64 k ∧ wr = w) (fun _ _ _ => 0)
    case atStart => exact ⟨rfl, rfl, rfl⟩
    case round =>
      obtain ⟨rfl, rfl, rfl⟩ := hrel
      go_wp2
      go_ret
      exact ⟨by simp, by rw [markE_zero]; exact hv, World.grownBy.refl _ _⟩
  · obtain ⟨g, cap, rfl, hBg, hg⟩ := World.ownsRow.form hv (by omega)
    have HV := Lib.hid hv
    clear hv
    have hpos : 0 < xs.length := by omega
    clear h0
    go_enter Try.func44, Try.ntmps44
    go_wp2
    go_loopw [1, 5] (fun q i wr => ∃ j : Nat, j ≤ xs.length ∧ i = .int .i64 j ∧ q = .int .i64 (k + ((j * 2 : Nat) : Int)) ∧ Hid (wr.ownsRow B 51 2 (.slice (some ⟨g, 0, none⟩) xs.length cap) xs.length (fl (markE k j ++ xs.drop j))) ∧ Hid (w.grownBy wr (some g))) (fun _ i _ => xs.length - (intOf i).toNat)
    case atStart => exact ⟨0, Nat.zero_le _, rfl, by simp, (by rw [markE_zero]; exact HV.out), World.grownBy.refl _ _⟩
    case round =>
      obtain ⟨j, hj, rfl, rfl, HO, HG⟩ := hrel
      by_cases hlt : j < xs.length
      · have hcl : (fl (markE k j ++ xs.drop j)).length = xs.length * 2 := by rw [fl_len]; simp [markE_length]; omega
        obtain ⟨x, hx⟩ : ∃ x, (fl (markE k j ++ xs.drop j))[j * 2]? = some x := ⟨_, List.getElem?_eq_getElem (by rw [hcl]; omega)⟩
        obtain ⟨y, hy⟩ : ∃ y, (fl (markE k j ++ xs.drop j))[j * 2 + 1]? = some y := ⟨_, List.getElem?_eq_getElem (by rw [hcl]; omega)⟩
        have hc0 : wr.cell? ⟨g, j * 2, none⟩ = some x := (World.ownsRow.cellAt HO.out _ (by omega)).trans hx
        have hc1 : wr.cell? ⟨g, j * 2 + 1, none⟩ = some y := (World.ownsRow.cellAt HO.out _ (by omega)).trans hy
        have hf0 : wr.frozen? ⟨g, j * 2, none⟩ = false := World.ownsRow.frozenAt HO.out _
        have hf1 : wr.frozen? ⟨g, j * 2 + 1, none⟩ = false := World.ownsRow.frozenAt HO.out _
        obtain ⟨p, hp⟩ : ∃ p : Int, p = k + ((j * 2 : Nat) : Int) := ⟨_, rfl⟩
        have hpb : p + 2 ≤ 9223372036854775807 := by omega
        have hp0 : 0 ≤ p := by omega
        have HPP := Lib.hid hp
        rw [← hp]
        clear hx hy hcl hp
        go_wp2
        go_roundw
        case rel =>
          refine ⟨j + 1, by omega, by go_num, by rw [HPP.out]; go_num, ?_, ?_⟩
          · have h := (World.ownsRow.stored (World.ownsRow.stored HO.out (j * 2) (iv (k + ((j * 2 : Nat) : Int)))).1 (j * 2 + 1) (iv (k + ((j * 2 : Nat) : Int) + 1))).1
            rw [set_stepE k xs hlt, ← HPP.out] at h
            exact h
          · have h1 := (World.ownsRow.stored HO.out (j * 2) (iv p)).2
            have h2 := (World.ownsRow.stored (World.ownsRow.stored HO.out (j * 2) (iv p)).1 (j * 2 + 1) (iv (p + 1))).2
            exact World.grownBy.trans (World.grownBy.trans HG.out h1) h2
        case measure => simp [intOf]; omega
      · obtain rfl : j = xs.length := by omega
        go_wp2
        go_ret
        refine ⟨rfl, ?_, HG.out⟩
        have h := HO.out
        rw [List.drop_length, List.append_nil] at h
        unfold OE
        rw [markE_length]
        exact h

set_option maxHeartbeats 1000000 in
theorem heldEdgeS_any (v : Value) (k : Int) (n B : Nat) (w : World) (hv : OE w B v (markE k n)) (hk0 : 0 ≤ k) (hk1 : k + ((n * 2 : Nat) : Int) ≤ 9223372036854775807) :
    Calls Try.prog 45 #[v, .int .i64 k] w fun e w' => e = .returned (.int .i64 (k + ((n * 2 : Nat) : Int))) ∧ w = w' := by
  obtain ⟨hl, A, c, rfl, hx⟩ := hv.row
  rw [markE_length] at hl ⊢
  clear hv
  go_enter Try.func45, Try.ntmps45
  go_wp2
  go_loop [1, 5] (fun q i => ∃ j : Nat, j ≤ n ∧ i = .int .i64 j ∧ q = .int .i64 (k + ((j * 2 : Nat) : Int))) (fun _ i => n - (intOf i).toNat)
  case atStart => exact ⟨0, Nat.zero_le _, rfl, by simp⟩
  case round =>
    obtain ⟨j, hj, rfl, rfl⟩ := hrel
    by_cases hlt : j < n
    · obtain ⟨b, off, rfl, _, hx'⟩ := hx (by intro h; have := congrArg List.length h; rw [markE_length] at this; simp at this; omega)
      obtain ⟨cs, hE, hcs⟩ := hx' j _ (markE_get k hlt)
      subst hE
      obtain ⟨p, hp⟩ : ∃ p : Int, p = k + ((j * 2 : Nat) : Int) := ⟨_, rfl⟩
      have hpb : p + 2 ≤ 9223372036854775807 := by omega
      have hp0 : 0 ≤ p := by omega
      have hc0 := (hcs 0 _ rfl).1
      have hc1 := (hcs 1 _ rfl).1
      rw [← hp] at hc0 hc1
      have hc0' : w.cell? ⟨b, off + j * 2, none⟩ = some (.int .i64 p) := hc0
      have hc1' : w.cell? ⟨b, off + j * 2 + 1, none⟩ = some (.int .i64 (p + 1)) := hc1
      have HPP := Lib.hid hp
      rw [← hp]
      have n1 : (p != p) = false := by simp
      have n2 : (p + 1 != p + 1) = false := by simp
      clear hcs hx hx' hc0 hc1 hp
      go_wp2
      go_round
      case rel => exact ⟨j + 1, by omega, by go_num, by rw [HPP.out]; go_num⟩
      case measure => simp [intOf]; omega
    · obtain rfl : j = n := by omega
      go_wp2
      go_ret
      exact ⟨rfl, rfl⟩

set_option maxHeartbeats 400000 in
theorem toEdge_any (a b : Int) (w : World) :
    Calls Try.prog 46 #[.agg #[.int .i64 a, .int .i64 b]] w fun e w' => e = .returned (.agg #[.int .i64 a, .int .i64 b]) ∧ Below w.heap.size w w' := by
  go_enter Try.func46, Try.ntmps46
  go_wp2
  refine bodyPost_ret (v := .agg #[.int .i64 a, .int .i64 b]) (by simp [results, Try.results46, go_sem]) rfl ⟨rfl, ?_⟩
  repeat (first | exact Below.refl _ _ | refine Below.alloc ?_ (by first | (simp; done) | (simp; omega)) _ | refine Below.setCell ?_ (by simp) _)

end Go.Proofs.Ytgboaaccdfaoiaa
