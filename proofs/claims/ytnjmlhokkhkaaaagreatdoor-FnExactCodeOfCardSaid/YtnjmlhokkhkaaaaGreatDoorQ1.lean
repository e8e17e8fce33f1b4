/- Law, Ints, Leaf, ToIns, Uses, Row, joined. -/
import Derived.Test.YtnjmlhokkhkaaaaGreatDoorRows
import Derived.WalkKit
import Derived.WalkSpells
import Derived.WalkLawsBesides
import Derived.ProofKit
import Derived.Lib.SmallJoins
import Derived.Deep.QuietTactic
import Derived.BigQuiet
import Derived.Deep.AppendLies
import Derived.LoopTactic
import Derived.Lib.Hide
import Derived.Deep.Onto
import Derived.Laws.MakeOwn
import Derived.Laws.Rows
namespace Go.Proofs.YtnjmlhokkhkaaaaGreatDoor

/- The common end of a law's proof: a law that answers true and leaves below the old memory all as it was. -/
section
open Go.ChangeShapes Go.WideShapes Go.ChangeAt Go.RowKit Go.Joins

theorem Tryz.own : ownKnob Tryz.prog.godebug = none := by kernel_rfl
theorem Tryz.laidOut : laidOutB Tryz.prog = true := by kernel_rfl

theorem bcell {W w1 : World} (hb : Below W.heap.size W w1) : (∀ b o, b < W.heap.size → w1.cell? ⟨b, o, none⟩ = W.cell? ⟨b, o, none⟩) ∧ (∀ b o, b < W.heap.size → w1.frozen? ⟨b, o, none⟩ = W.frozen? ⟨b, o, none⟩) :=
  ⟨fun b o h => hb.cell (p := ⟨b, o, none⟩) h, fun b o h => hb.frozen (p := ⟨b, o, none⟩) h⟩

theorem bcellB {B : Nat} {W w1 : World} (hb : Below B W w1) : (∀ b o, b < B → w1.cell? ⟨b, o, none⟩ = W.cell? ⟨b, o, none⟩) ∧ (∀ b o, b < B → w1.frozen? ⟨b, o, none⟩ = W.frozen? ⟨b, o, none⟩) :=
  ⟨fun b o h => hb.cell (p := ⟨b, o, none⟩) h, fun b o h => hb.frozen (p := ⟨b, o, none⟩) h⟩

theorem trodAll_behind {H : Type} {enc : TypeId × Value → H} {P : Program} (hl : laidOutB P = true) {W W' : World} (hb : Below W.heap.size W W') : ∀ {ts : List TypeId} {vs : List Value} {ds : List (DataW H)} {ps : List MemPlace},
    (∀ t ∈ ts, P.readableRec t = true ∧ t < P.types.size) → DataW.TrodAll enc P W 0 (fun _ => true) true ts vs ds ps → (∀ x ∈ ps, x.block < W.heap.size) →
    DataW.TrodAll enc P W' 0 (fun b => decide (b < W.heap.size)) true ts vs ds ps
  | [], vs, ds, ps, _, h, _ => by
    obtain ⟨rfl, rfl, rfl⟩ := trodAll_nil h
    exact trodAll_mk0
  | t :: ts, vs, ds, ps, hr, h, hlt => by
    obtain ⟨v, vs', d, ds', p, q, rfl, rfl, rfl, h1, h2⟩ := trodAll_cons h
    obtain ⟨hr1, hr2⟩ := hr t List.mem_cons_self
    exact trodAll_cons_mk (Below.trod hl hr1 hr2 h1 hb fun x hx => hlt x (List.mem_append_left _ hx))
      (trodAll_behind hl hb (fun u hu => hr u (List.mem_cons_of_mem _ hu)) h2 fun x hx => hlt x (List.mem_append_right _ hx))

/-- A law's call that answers true, and behind which all old memory stands as it stood, does what its row asks. -/
theorem law_done {H : Type} {enc : TypeId × Value → H} {P : Program} (hl : laidOutB P = true) {f : Func} {s : ChangeSpec} {W W' : World} {args : Array Value} {ds gs : List (DataW H)} {before : List MemPlace} {t : TypeId}
    (hr : (f.params.toList.all fun t => P.readableRec t && decide (t < P.types.size)) = true) (hres : f.resultTypes = #[t]) (ht : P.underlying t = some .bool) (hvars : s.vars = [])
    (hW : DataW.Whole enc P f.params.toList s.vars false W args.toList ds gs before)
    (hs : (s.fn H (ds ++ gs)).results = [.lit (.bool true)] ∧ (s.fn H (ds ++ gs)).args = ds ∧ (s.fn H (ds ++ gs)).vars = [])
    (hb : Below W.heap.size W W') : s.post enc P f false true false false W args (.bool true) W' := by
  have hlt := hW.lt
  have hW' := hW
  obtain ⟨p, q, hA, hV, rfl, hfz, hnd⟩ := hW
  rw [hvars] at hV
  obtain ⟨rfl, rfl⟩ := trodVars_none hV
  obtain ⟨hs1, hs2, hs3⟩ := hs
  refine ⟨ds, [], p ++ [], [], p, [], hW', ?_, ?_, ?_, ?_, fun h => by cases h⟩
  · rw [hs1, hres]
    exact trodAll_mk1 (shut_bool ht _)
  · rw [hs2]
    exact trodAll_behind hl hb (fun u hu => by simpa using List.all_eq_true.1 hr u hu) hA fun x hx => hlt x (List.mem_append_left _ hx)
  · rw [hs3, hvars]
    rfl
  · refine World.keptBut_mono (fun x hx => ⟨hx, .inr (.inl (by simpa using hx))⟩) (hb.frame _)
end

/- Slices of int64: how they read, whose they are, and what eqInt64S of the laws does. -/
section
open Go.ChangeShapes Go.WideShapes Go.ChangeAt Go.RowKit Go.Joins

theorem maxLen_is : maxLen = 9223372036854775807 := rfl
def iv (n : Int) : Value := .int .i64 n

/-- The slice value v reads as the integers xs. -/
def RI (w : World) (v : Value) (xs : List Int) : Prop :=
  xs.length ≤ 9223372036854775807 ∧ ∃ A c, v = .slice A xs.length c ∧ (xs ≠ [] → ∃ b off, A = some ⟨b, off, none⟩ ∧ ∀ k u, xs[k]? = some u → w.cell? ⟨b, off + k, none⟩ = some (.int .i64 u))

/-- The slice value v is the call's own, from block B on, and reads as xs. -/
def OI (w : World) (B : Nat) (v : Value) (xs : List Int) : Prop := w.ownsRow B 2 1 v xs.length (xs.map iv)

theorem OI.ri {w : World} {B : Nat} {v : Value} {xs : List Int} (h : OI w B v xs) : RI w v xs := by
  have h0 := h
  rcases h.2 with ⟨rfl, hn⟩ | ⟨g, cap, cur, rfl, _, hg, hnc, hcm, hs, ht⟩
  · exact ⟨by omega, none, 0, by rw [hn], fun hne => absurd (List.length_eq_zero_iff.1 hn) hne⟩
  · refine ⟨by rw [maxLen_is] at hcm; omega, _, cap, rfl, fun _ => ⟨g, 0, rfl, fun k u hu => ?_⟩⟩
    have hk : k < xs.length := by
      rcases Nat.lt_or_ge k xs.length with h | h
      · exact h
      · rw [List.getElem?_eq_none h] at hu; cases hu
    have := World.ownsRow.cellAt h0 k (by omega)
    rw [Nat.zero_add, this, List.getElem?_map, hu]; rfl

theorem take_eq_of {xs ys : List Int} {k : Nat} {x : Int} (h : xs.take k = ys.take k) (hx : xs[k]? = some x) (hy : ys[k]? = some x) : xs.take (k + 1) = ys.take (k + 1) := by
  rw [List.take_add_one, List.take_add_one, h, hx, hy]

set_option maxHeartbeats 400000 in
theorem eqInt64S_any (u v : Value) (xs ys : List Int) (w : World) (hu : RI w u xs) (hv : RI w v ys) :
    Calls Tryz.prog 154 #[u, v] w fun e w' => e = .returned (.bool (decide (xs = ys))) ∧ ∃ n, w' = w.drewN n := by
  obtain ⟨lx, A, c, rfl, hx⟩ := hu
  obtain ⟨ly, A', c', rfl, hy⟩ := hv
  by_cases hl : xs.length = ys.length
  · have hb : ((xs.length : Int) != (ys.length : Int)) = false := by simp [hl]
    have HL := Lib.hid hl
    clear hl
    have hle : (xs.length : Int) ≤ 9223372036854775807 := by omega
    go_enter Tryz.func154, Tryz.ntmps154
    go_wp2
    go_loopw [5] (fun i wr => ∃ k : Nat, k ≤ xs.length ∧ i = .int .i64 k ∧ Hid (xs.take k = ys.take k) ∧ ∃ m, wr = w.drewN m) (fun i _ => xs.length - (intOf i).toNat)
    case atStart => exact ⟨0, Nat.zero_le _, rfl, rfl, 0, rfl⟩
    case round =>
      obtain ⟨k, hk, rfl, htk, m, rfl⟩ := hrel
      by_cases hlt : k < xs.length
      · have hxk : xs[k]? = some xs[k] := List.getElem?_eq_getElem hlt
        have hlt' : k < ys.length := by have := HL.out; omega
        have hyk : ys[k]? = some ys[k] := List.getElem?_eq_getElem hlt'
        obtain ⟨b, off, rfl, hx'⟩ := hx (by rintro rfl; simp at hlt)
        obtain ⟨b', off', rfl, hy'⟩ := hy (by rintro rfl; simp at hlt')
        have hcx := hx' k _ hxk
        have hcy := hy' k _ hyk
        have Hxk := Lib.hid hxk
        have Hyk := Lib.hid hyk
        clear hx hy hx' hy' hxk hyk
        generalize hex : xs[k] = x at *
        generalize hey : ys[k] = y at *
        clear hex hey
        by_cases hxy : x = y
        · subst hxy
          go_wp2
          go_quiet (fail)
          go_wp2
          go_roundw
          case rel => exact ⟨k + 1, by omega, by go_num, take_eq_of htk.out Hxk.out Hyk.out, m + nq, by go_simp⟩
          case measure => simp [intOf]; omega
        · have hb' : (x != y) = true := by simpa using hxy
          have HE : Hid (decide (xs = ys) = false) := by
            have h : xs ≠ ys := by
              rintro rfl
              have h1 := Hxk.out
              rw [Hyk.out] at h1
              exact hxy (by injection h1 with h1; exact h1.symm)
            simpa [Hid] using h
          clear hxy
          go_wp2
          go_quiet (fail)
          go_wp2
          go_ret
          exact ⟨by rw [HE.out]; rfl, m + nq, by go_simp⟩
      · have hk' : k = xs.length := by omega
        have HE : Hid (decide (xs = ys) = true) := by
          have h := htk.out
          rw [hk', List.take_length, HL.out, List.take_length] at h
          simpa [Hid] using h
        subst hk'
        go_wp2
        go_ret
        exact ⟨by rw [HE.out]; rfl, m, rfl⟩
  · have hb : ((xs.length : Int) != (ys.length : Int)) = true := by simp; omega
    have hne : xs ≠ ys := fun h => hl (by rw [h])
    have HE : Hid (decide (xs = ys) = false) := by simp [Hid, hne]
    clear hne hl
    go_enter Tryz.func154, Tryz.ntmps154
    go_wp2
    go_ret
    exact ⟨by rw [HE.out]; rfl, 0, rfl⟩

theorem eqInt64S_same (u v : Value) (xs : List Int) (w : World) (hu : RI w u xs) (hv : RI w v xs) :
    Calls Tryz.prog 154 #[u, v] w fun e w' => e = .returned (.bool true) ∧ ∃ n, w' = w.drewN n :=
  (eqInt64S_any u v xs xs w hu hv).mono fun _ _ ⟨he, hw⟩ => ⟨by rw [he]; simp, hw⟩

def markL (k : Int) (n : Nat) : List Int := (List.range n).map fun (i : Nat) => k + (i : Int)
theorem markL_length (k : Int) (n : Nat) : (markL k n).length = n := by simp [markL]
theorem markL_get (k : Int) {n j : Nat} (h : j < n) : (markL k n)[j]? = some (k + j) := by simp [markL, h]
theorem markL_zero (k : Int) : markL k 0 = [] := rfl

theorem set_step (k : Int) (xs : List Int) {j : Nat} (h : j < xs.length) :
    (((markL k j ++ xs.drop j).map iv).set j (iv (k + j))) = (markL k (j + 1) ++ xs.drop (j + 1)).map iv := by
  apply List.ext_getElem?
  intro i
  rw [List.getElem?_set, List.getElem?_map, List.getElem?_map]
  have hl : (List.map iv (markL k j ++ List.drop j xs)).length = xs.length := by simp [markL_length]; omega
  rw [hl]
  by_cases hij : j = i
  · subst hij
    rw [if_pos rfl, if_pos h, List.getElem?_append_left (by rw [markL_length]; omega), markL_get k (by omega)]; rfl
  · rw [if_neg hij]
    by_cases hlt : i < j
    · rw [List.getElem?_append_left (by rw [markL_length]; exact hlt), List.getElem?_append_left (by rw [markL_length]; omega), markL_get k hlt, markL_get k (by omega)]
    · rw [List.getElem?_append_right (by rw [markL_length]; omega), List.getElem?_append_right (by rw [markL_length]; omega), markL_length, markL_length, List.getElem?_drop, List.getElem?_drop]
      congr 2; omega
end

/- Contracts of the small functions of chapter 1. -/
section
open Go.RowKit

def isNameB (n : Int) : Bool := decide (0 ≤ n) && decide (n < 150)
def isValueB (n : Int) : Bool := decide (0 ≤ n) && decide (n < 1000003)

set_option maxHeartbeats 400000 in
theorem isName_any (n : Int) (w : World) :
    Calls Tryz.prog 130 #[.int .i64 n] w fun e w' => e = .returned (.bool (isNameB n)) ∧ w = w' := by
  by_cases h0 : 0 ≤ n
  all_goals go_enter Tryz.func130, Tryz.ntmps130
  all_goals go_wp2
  all_goals go_ret
  all_goals exact ⟨by simp [isNameB]; try omega, rfl⟩

set_option maxHeartbeats 400000 in
theorem isValue_any (n : Int) (w : World) :
    Calls Tryz.prog 131 #[.int .i64 n] w fun e w' => e = .returned (.bool (isValueB n)) ∧ w = w' := by
  by_cases h0 : 0 ≤ n
  all_goals go_enter Tryz.func131, Tryz.ntmps131
  all_goals go_wp2
  all_goals go_ret
  all_goals exact ⟨by simp [isValueB]; try omega, rfl⟩

set_option maxHeartbeats 400000 in
theorem l1In_any (n a b : Int) (w : World) :
    Calls Tryz.prog 100 #[.int .i64 n, .int .i64 a, .int .i64 b] w fun e w' => e = .returned (.bool (decide (a ≤ n) && decide (n ≤ b))) ∧ w = w' := by
  by_cases h0 : a ≤ n
  all_goals go_enter Tryz.func100, Tryz.ntmps100
  all_goals go_wp2
  all_goals go_ret
  all_goals exact ⟨by simp; try omega, rfl⟩

set_option maxHeartbeats 400000 in
theorem l1Name_any (n : Int) (w : World) :
    Calls Tryz.prog 136 #[.int .i64 n] w fun e w' => e = .returned (.bool (isNameB n)) ∧ w = w' := by
  have h : (decide (0 ≤ n) && decide (n ≤ 149)) = isNameB n := by unfold isNameB; congr 1; rw [decide_eq_decide]; omega
  go_enter Tryz.func136, Tryz.ntmps136
  go_wp2_with (go_at_call 100; refine (l1In_any _ _ _ _).mono ?_; rintro e w' ⟨rfl, rfl⟩)
  go_ret
  exact ⟨rfl, rfl⟩

set_option maxHeartbeats 400000 in
theorem l1Value_any (n : Int) (w : World) :
    Calls Tryz.prog 151 #[.int .i64 n] w fun e w' => e = .returned (.bool (isValueB n)) ∧ w = w' := by
  have h : (decide (0 ≤ n) && decide (n ≤ 1000002)) = isValueB n := by unfold isValueB; congr 1; rw [decide_eq_decide]; omega
  go_enter Tryz.func151, Tryz.ntmps151
  go_wp2_with (go_at_call 100; refine (l1In_any _ _ _ _).mono ?_; rintro e w' ⟨rfl, rfl⟩)
  go_ret
  exact ⟨rfl, rfl⟩

def insOkB (o v a b : Int) : Bool :=
  if o = 1 then isNameB v && isValueB a && (b == 0)
  else if o = 2 then isNameB v && isNameB a && (b == 0)
  else if 3 ≤ o ∧ o ≤ 6 then isNameB v && isNameB a && isNameB b
  else if o = 7 then (v == -1) && isNameB a && (b == 0)
  else false


set_option maxHeartbeats 400000 in
theorem InsOk_1 (v a b : Int) (w : World) :
    Calls Tryz.prog 91 #[.agg #[.int .i64 1, .int .i64 v, .int .i64 a, .int .i64 b]] w fun e w' => e = .returned (.bool (insOkB 1 v a b)) ∧ Below w.heap.size w w' := by
  cases hv : isNameB v <;> cases ha : isValueB a
  all_goals go_enter Tryz.func91, Tryz.ntmps91
  all_goals go_wp2_with (first
    | (go_at_call 130; refine (isName_any _ _).mono ?_; rintro e w' ⟨rfl, rfl⟩)
    | (go_at_call 131; refine (isValue_any _ _).mono ?_; rintro e w' ⟨rfl, rfl⟩))
  all_goals go_ret
  all_goals exact ⟨by simp [insOkB, hv, ha], (Below.refl _ _).alloc (Nat.le_refl _) _⟩

set_option maxHeartbeats 400000 in
theorem InsOk_2 (v a b : Int) (w : World) :
    Calls Tryz.prog 91 #[.agg #[.int .i64 2, .int .i64 v, .int .i64 a, .int .i64 b]] w fun e w' => e = .returned (.bool (insOkB 2 v a b)) ∧ Below w.heap.size w w' := by
  cases hv : isNameB v <;> cases ha : isNameB a
  all_goals go_enter Tryz.func91, Tryz.ntmps91
  all_goals go_wp2_with (first
    | (go_at_call 130; refine (isName_any _ _).mono ?_; rintro e w' ⟨rfl, rfl⟩))
  all_goals go_ret
  all_goals exact ⟨by simp [insOkB, hv, ha], (Below.refl _ _).alloc (Nat.le_refl _) _⟩

set_option maxHeartbeats 400000 in
theorem InsOk_3 (o v a b : Int) (w : World) (h : o = 3 ∨ o = 4 ∨ o = 5 ∨ o = 6) :
    Calls Tryz.prog 91 #[.agg #[.int .i64 o, .int .i64 v, .int .i64 a, .int .i64 b]] w fun e w' => e = .returned (.bool (insOkB o v a b)) ∧ Below w.heap.size w w' := by
  rcases h with rfl | rfl | rfl | rfl
  all_goals cases hv : isNameB v <;> cases ha : isNameB a
  all_goals go_enter Tryz.func91, Tryz.ntmps91
  all_goals go_wp2_with (first
    | (go_at_call 130; refine (isName_any _ _).mono ?_; rintro e w' ⟨rfl, rfl⟩))
  all_goals go_ret
  all_goals exact ⟨by simp [insOkB, hv, ha], (Below.refl _ _).alloc (Nat.le_refl _) _⟩

set_option maxHeartbeats 400000 in
theorem InsOk_7 (v a b : Int) (w : World) :
    Calls Tryz.prog 91 #[.agg #[.int .i64 7, .int .i64 v, .int .i64 a, .int .i64 b]] w fun e w' => e = .returned (.bool (insOkB 7 v a b)) ∧ Below w.heap.size w w' := by
  by_cases hv : v = -1
  · subst hv
    cases ha : isNameB a
    all_goals go_enter Tryz.func91, Tryz.ntmps91
    all_goals go_wp2_with (first
      | (go_at_call 130; refine (isName_any _ _).mono ?_; rintro e w' ⟨rfl, rfl⟩))
    all_goals go_ret
    all_goals exact ⟨by simp [insOkB, ha], (Below.refl _ _).alloc (Nat.le_refl _) _⟩
  · have hb : (v == -1) = false := by simpa using hv
    go_enter Tryz.func91, Tryz.ntmps91
    go_wp2_with (first
      | (go_at_call 130; refine (isName_any _ _).mono ?_; rintro e w' ⟨rfl, rfl⟩))
    go_ret
    exact ⟨by simp [insOkB, hv], (Below.refl _ _).alloc (Nat.le_refl _) _⟩

set_option maxHeartbeats 400000 in
theorem InsOk_0 (o v a b : Int) (w : World) (h : o < 1 ∨ 7 < o) :
    Calls Tryz.prog 91 #[.agg #[.int .i64 o, .int .i64 v, .int .i64 a, .int .i64 b]] w fun e w' => e = .returned (.bool (insOkB o v a b)) ∧ Below w.heap.size w w' := by
  have h1 : (o == 1) = false := by simp; omega
  have h2 : (o == 2) = false := by simp; omega
  have h3 : (o == 3) = false := by simp; omega
  have h4 : (o == 4) = false := by simp; omega
  have h5 : (o == 5) = false := by simp; omega
  have h6 : (o == 6) = false := by simp; omega
  have h7 : (o == 7) = false := by simp; omega
  go_enter Tryz.func91, Tryz.ntmps91
  go_wp2
  go_ret
  refine ⟨?_, (Below.refl _ _).alloc (Nat.le_refl _) _⟩
  have : insOkB o v a b = false := by
    unfold insOkB
    rw [if_neg (by omega), if_neg (by omega), if_neg (by omega), if_neg (by omega)]
  rw [this]; rfl

theorem InsOk_any (o v a b : Int) (w : World) :
    Calls Tryz.prog 91 #[.agg #[.int .i64 o, .int .i64 v, .int .i64 a, .int .i64 b]] w fun e w' => e = .returned (.bool (insOkB o v a b)) ∧ Below w.heap.size w w' := by
  by_cases h0 : o < 1 ∨ 7 < o
  · exact InsOk_0 o v a b w h0
  · by_cases h1 : o = 1
    · subst h1; exact InsOk_1 v a b w
    · by_cases h2 : o = 2
      · subst h2; exact InsOk_2 v a b w
      · by_cases h7 : o = 7
        · subst h7; exact InsOk_7 v a b w
        · exact InsOk_3 o v a b w (by omega)

set_option maxHeartbeats 400000 in
theorem sInsOk_any (o v a b : Int) (w : World) :
    Calls Tryz.prog 138 #[.agg #[.int .i64 o, .int .i64 v, .int .i64 a, .int .i64 b]] w fun e w' => e = .returned (.bool (insOkB o v a b)) ∧ Below w.heap.size w w' := by
  by_cases h1 : o = 1
  · subst h1
    cases hv : isNameB v <;> cases ha : isValueB a
    all_goals go_enter Tryz.func138, Tryz.ntmps138
    all_goals go_wp2_with (first
      | (go_at_call 136; refine (l1Name_any _ _).mono ?_; rintro e w' ⟨rfl, rfl⟩)
      | (go_at_call 151; refine (l1Value_any _ _).mono ?_; rintro e w' ⟨rfl, rfl⟩))
    all_goals go_ret
    all_goals exact ⟨by simp [insOkB, hv, ha], (Below.refl _ _).alloc (Nat.le_refl _) _⟩
  by_cases h2 : o = 2
  · subst h2
    cases hv : isNameB v <;> cases ha : isNameB a
    all_goals go_enter Tryz.func138, Tryz.ntmps138
    all_goals go_wp2_with (first
      | (go_at_call 136; refine (l1Name_any _ _).mono ?_; rintro e w' ⟨rfl, rfl⟩))
    all_goals go_ret
    all_goals exact ⟨by simp [insOkB, hv, ha], (Below.refl _ _).alloc (Nat.le_refl _) _⟩
  have hb1 : (o == 1) = false := by simpa using h1
  have hb2 : (o == 2) = false := by simpa using h2
  by_cases h3 : 3 ≤ o ∧ o ≤ 6
  · obtain ⟨h3, h6⟩ := h3
    have hE : Hid (insOkB o v a b = (isNameB v && isNameB a && isNameB b)) := by unfold Hid insOkB; rw [if_neg h1, if_neg h2, if_pos ⟨h3, h6⟩]
    clear h1 h2
    cases hv : isNameB v <;> cases ha : isNameB a
    all_goals go_enter Tryz.func138, Tryz.ntmps138
    all_goals go_wp2_with (first
      | (go_at_call 136; refine (l1Name_any _ _).mono ?_; rintro e w' ⟨rfl, rfl⟩))
    all_goals go_ret
    all_goals exact ⟨by rw [hE.out, hv, ha]; rfl, (Below.refl _ _).alloc (Nat.le_refl _) _⟩
  by_cases h7 : o = 7
  · subst h7
    by_cases hv : v = -1
    · subst hv
      cases ha : isNameB a
      all_goals go_enter Tryz.func138, Tryz.ntmps138
      all_goals go_wp2_with (first
        | (go_at_call 136; refine (l1Name_any _ _).mono ?_; rintro e w' ⟨rfl, rfl⟩))
      all_goals go_ret
      all_goals exact ⟨by simp [insOkB, ha], (Below.refl _ _).alloc (Nat.le_refl _) _⟩
    · have hb : (v == -1) = false := by simpa using hv
      go_enter Tryz.func138, Tryz.ntmps138
      go_wp2_with (first
        | (go_at_call 136; refine (l1Name_any _ _).mono ?_; rintro e w' ⟨rfl, rfl⟩))
      go_ret
      exact ⟨by simp [insOkB, hb], (Below.refl _ _).alloc (Nat.le_refl _) _⟩
  · have hb7 : (o == 7) = false := by simpa using h7
    have hE : Hid (insOkB o v a b = false) := by unfold Hid insOkB; rw [if_neg h1, if_neg h2, if_neg h3, if_neg h7]
    clear h1 h2 h7
    by_cases h3' : 3 ≤ o
    · have h6 : ¬ o ≤ 6 := fun h => h3 ⟨h3', h⟩
      clear h3
      go_enter Tryz.func138, Tryz.ntmps138
      go_wp2
      go_ret
      exact ⟨by rw [hE.out]; rfl, (Below.refl _ _).alloc (Nat.le_refl _) _⟩
    · clear h3
      go_enter Tryz.func138, Tryz.ntmps138
      go_wp2
      go_ret
      exact ⟨by rw [hE.out]; rfl, (Below.refl _ _).alloc (Nat.le_refl _) _⟩
end

/- toIns of the laws. -/
section
open Go.ChangeShapes Go.WideShapes Go.ChangeAt Go.RowKit Go.Joins

set_option maxHeartbeats 400000 in
theorem toIns_any (o v a b : Int) (w : World) :
    Calls Tryz.prog 145 #[.agg #[.int .i64 o, .int .i64 v, .int .i64 a, .int .i64 b]] w fun e w' => e = .returned (.agg #[.int .i64 o, .int .i64 v, .int .i64 a, .int .i64 b]) ∧ Below w.heap.size w w' := by
  go_enter Tryz.func145, Tryz.ntmps145
  go_wp2
  refine bodyPost_ret (v := .agg #[.int .i64 o, .int .i64 v, .int .i64 a, .int .i64 b]) (by simp [results, Tryz.results145, go_sem]) rfl ⟨rfl, ?_⟩
  repeat (first | exact Below.refl _ _ | refine Below.alloc ?_ (by first | (simp; done) | (simp; omega)) _ | refine Below.setCell ?_ (by simp) _)
end

/- UsesOf and its model answer the same names. -/
section
open Go.ChangeShapes Go.WideShapes Go.ChangeAt Go.RowKit Go.Joins

def usesL (o v a b : Int) : List Int := if insOkB o v a b = true then (if o = 1 then [] else if 3 ≤ o ∧ o ≤ 6 then [a, b] else [a]) else []

theorem OI_lit0 (w : World) {B g : Nat} (hg : w.heap.size = g) (hB : B ≤ g) : OI (w.alloc (.cells #[] 2)) B (.slice (some ⟨g, 0, none⟩) 0 0) [] := by
  subst hg
  exact World.ownsRow_lit (base := B) (e := 2) (size := 1) w #[] 0 hB (by simp) rfl
theorem OI_lit1 (w : World) (a : Int) {B g : Nat} (hg : w.heap.size = g) (hB : B ≤ g) : OI (w.alloc (.cells #[.int .i64 a] 2)) B (.slice (some ⟨g, 0, none⟩) 1 1) [a] := by
  subst hg
  exact World.ownsRow_lit (base := B) (e := 2) (size := 1) w #[.int .i64 a] 1 hB (by rw [maxLen_is]; omega) rfl
theorem OI_lit2 (w : World) (a b : Int) {B g : Nat} (hg : w.heap.size = g) (hB : B ≤ g) : OI (w.alloc (.cells #[.int .i64 a, .int .i64 b] 2)) B (.slice (some ⟨g, 0, none⟩) 2 2) [a, b] := by
  subst hg
  exact World.ownsRow_lit (base := B) (e := 2) (size := 1) w #[.int .i64 a, .int .i64 b] 2 hB (by rw [maxLen_is]; omega) rfl

theorem below1 {w w1 : World} {o o' : Obj} (hb : Below (w.alloc o).heap.size (w.alloc o) w1) : Below w.heap.size w (w1.alloc o') :=
  (((Below.refl _ _).alloc (Nat.le_refl _) _).trans (hb.mono (by simp))).alloc (by have := hb.size; simp at this; omega) _

set_option maxHeartbeats 400000 in
theorem UsesOf_bad (o v a b : Int) (w : World) (hok : insOkB o v a b = false) :
    Calls Tryz.prog 51 #[.agg #[.int .i64 o, .int .i64 v, .int .i64 a, .int .i64 b]] w fun e w' => ∃ r, e = .returned r ∧ OI w' w.heap.size r (usesL o v a b) ∧ Below w.heap.size w w' := by
  have HE : Hid (usesL o v a b = []) := by simp [Hid, usesL, hok]
  go_enter Tryz.func51, Tryz.ntmps51
  go_wp2_with (go_at_call 91; refine (InsOk_any _ _ _ _ _).mono ?_; rintro e w1 ⟨rfl, hb1⟩; obtain ⟨hc1, hf1⟩ := bcell hb1; have hz1 : w.heap.size < w1.heap.size := (by have := hb1.size; simp at this; omega))
  go_ret
  exact ⟨_, rfl, by rw [HE.out]; exact OI_lit0 _ rfl (by omega), below1 hb1⟩

set_option maxHeartbeats 400000 in
theorem UsesOf_1 (v a b : Int) (w : World) (hok : insOkB 1 v a b = true) :
    Calls Tryz.prog 51 #[.agg #[.int .i64 1, .int .i64 v, .int .i64 a, .int .i64 b]] w fun e w' => ∃ r, e = .returned r ∧ OI w' w.heap.size r (usesL 1 v a b) ∧ Below w.heap.size w w' := by
  have HE : Hid (usesL 1 v a b = []) := by simp [Hid, usesL, hok]
  go_enter Tryz.func51, Tryz.ntmps51
  go_wp2_with (go_at_call 91; refine (InsOk_any _ _ _ _ _).mono ?_; rintro e w1 ⟨rfl, hb1⟩; obtain ⟨hc1, hf1⟩ := bcell hb1; have hz1 : w.heap.size < w1.heap.size := (by have := hb1.size; simp at this; omega))
  go_ret
  exact ⟨_, rfl, by rw [HE.out]; exact OI_lit0 _ rfl (by omega), below1 hb1⟩

set_option maxHeartbeats 400000 in
theorem UsesOf_2 (v a b : Int) (w : World) (hok : insOkB 2 v a b = true) :
    Calls Tryz.prog 51 #[.agg #[.int .i64 2, .int .i64 v, .int .i64 a, .int .i64 b]] w fun e w' => ∃ r, e = .returned r ∧ OI w' w.heap.size r (usesL 2 v a b) ∧ Below w.heap.size w w' := by
  have HE : Hid (usesL 2 v a b = [a]) := by simp [Hid, usesL, hok]
  go_enter Tryz.func51, Tryz.ntmps51
  go_wp2_with (go_at_call 91; refine (InsOk_any _ _ _ _ _).mono ?_; rintro e w1 ⟨rfl, hb1⟩; obtain ⟨hc1, hf1⟩ := bcell hb1; have hz1 : w.heap.size < w1.heap.size := (by have := hb1.size; simp at this; omega))
  go_ret
  exact ⟨_, rfl, by rw [HE.out]; exact OI_lit1 _ _ rfl (by omega), below1 hb1⟩

set_option maxHeartbeats 400000 in
theorem UsesOf_3 (v a b : Int) (w : World) (hok : insOkB 3 v a b = true) :
    Calls Tryz.prog 51 #[.agg #[.int .i64 3, .int .i64 v, .int .i64 a, .int .i64 b]] w fun e w' => ∃ r, e = .returned r ∧ OI w' w.heap.size r (usesL 3 v a b) ∧ Below w.heap.size w w' := by
  have HE : Hid (usesL 3 v a b = [a, b]) := by simp [Hid, usesL, hok]
  go_enter Tryz.func51, Tryz.ntmps51
  go_wp2_with (go_at_call 91; refine (InsOk_any _ _ _ _ _).mono ?_; rintro e w1 ⟨rfl, hb1⟩; obtain ⟨hc1, hf1⟩ := bcell hb1; have hz1 : w.heap.size < w1.heap.size := (by have := hb1.size; simp at this; omega))
  go_ret
  exact ⟨_, rfl, by rw [HE.out]; exact OI_lit2 _ _ _ rfl (by omega), below1 hb1⟩

set_option maxHeartbeats 400000 in
theorem UsesOf_4 (v a b : Int) (w : World) (hok : insOkB 4 v a b = true) :
    Calls Tryz.prog 51 #[.agg #[.int .i64 4, .int .i64 v, .int .i64 a, .int .i64 b]] w fun e w' => ∃ r, e = .returned r ∧ OI w' w.heap.size r (usesL 4 v a b) ∧ Below w.heap.size w w' := by
  have HE : Hid (usesL 4 v a b = [a, b]) := by simp [Hid, usesL, hok]
  go_enter Tryz.func51, Tryz.ntmps51
  go_wp2_with (go_at_call 91; refine (InsOk_any _ _ _ _ _).mono ?_; rintro e w1 ⟨rfl, hb1⟩; obtain ⟨hc1, hf1⟩ := bcell hb1; have hz1 : w.heap.size < w1.heap.size := (by have := hb1.size; simp at this; omega))
  go_ret
  exact ⟨_, rfl, by rw [HE.out]; exact OI_lit2 _ _ _ rfl (by omega), below1 hb1⟩

set_option maxHeartbeats 400000 in
theorem UsesOf_5 (v a b : Int) (w : World) (hok : insOkB 5 v a b = true) :
    Calls Tryz.prog 51 #[.agg #[.int .i64 5, .int .i64 v, .int .i64 a, .int .i64 b]] w fun e w' => ∃ r, e = .returned r ∧ OI w' w.heap.size r (usesL 5 v a b) ∧ Below w.heap.size w w' := by
  have HE : Hid (usesL 5 v a b = [a, b]) := by simp [Hid, usesL, hok]
  go_enter Tryz.func51, Tryz.ntmps51
  go_wp2_with (go_at_call 91; refine (InsOk_any _ _ _ _ _).mono ?_; rintro e w1 ⟨rfl, hb1⟩; obtain ⟨hc1, hf1⟩ := bcell hb1; have hz1 : w.heap.size < w1.heap.size := (by have := hb1.size; simp at this; omega))
  go_ret
  exact ⟨_, rfl, by rw [HE.out]; exact OI_lit2 _ _ _ rfl (by omega), below1 hb1⟩

set_option maxHeartbeats 400000 in
theorem UsesOf_6 (v a b : Int) (w : World) (hok : insOkB 6 v a b = true) :
    Calls Tryz.prog 51 #[.agg #[.int .i64 6, .int .i64 v, .int .i64 a, .int .i64 b]] w fun e w' => ∃ r, e = .returned r ∧ OI w' w.heap.size r (usesL 6 v a b) ∧ Below w.heap.size w w' := by
  have HE : Hid (usesL 6 v a b = [a, b]) := by simp [Hid, usesL, hok]
  go_enter Tryz.func51, Tryz.ntmps51
  go_wp2_with (go_at_call 91; refine (InsOk_any _ _ _ _ _).mono ?_; rintro e w1 ⟨rfl, hb1⟩; obtain ⟨hc1, hf1⟩ := bcell hb1; have hz1 : w.heap.size < w1.heap.size := (by have := hb1.size; simp at this; omega))
  go_ret
  exact ⟨_, rfl, by rw [HE.out]; exact OI_lit2 _ _ _ rfl (by omega), below1 hb1⟩

set_option maxHeartbeats 400000 in
theorem UsesOf_7 (v a b : Int) (w : World) (hok : insOkB 7 v a b = true) :
    Calls Tryz.prog 51 #[.agg #[.int .i64 7, .int .i64 v, .int .i64 a, .int .i64 b]] w fun e w' => ∃ r, e = .returned r ∧ OI w' w.heap.size r (usesL 7 v a b) ∧ Below w.heap.size w w' := by
  have HE : Hid (usesL 7 v a b = [a]) := by simp [Hid, usesL, hok]
  go_enter Tryz.func51, Tryz.ntmps51
  go_wp2_with (go_at_call 91; refine (InsOk_any _ _ _ _ _).mono ?_; rintro e w1 ⟨rfl, hb1⟩; obtain ⟨hc1, hf1⟩ := bcell hb1; have hz1 : w.heap.size < w1.heap.size := (by have := hb1.size; simp at this; omega))
  go_ret
  exact ⟨_, rfl, by rw [HE.out]; exact OI_lit1 _ _ rfl (by omega), below1 hb1⟩

theorem ok_range {o v a b : Int} (h : insOkB o v a b = true) : 1 ≤ o ∧ o ≤ 7 := by
  unfold insOkB at h
  by_cases h1 : o = 1
  · omega
  by_cases h2 : o = 2
  · omega
  by_cases h3 : 3 ≤ o ∧ o ≤ 6
  · omega
  by_cases h7 : o = 7
  · omega
  rw [if_neg h1, if_neg h2, if_neg h3, if_neg h7] at h
  cases h

theorem UsesOf_any (o v a b : Int) (w : World) :
    Calls Tryz.prog 51 #[.agg #[.int .i64 o, .int .i64 v, .int .i64 a, .int .i64 b]] w fun e w' => ∃ r, e = .returned r ∧ OI w' w.heap.size r (usesL o v a b) ∧ Below w.heap.size w w' := by
  cases hok : insOkB o v a b
  · exact UsesOf_bad o v a b w hok
  · obtain ⟨h1, h7⟩ := ok_range hok
    have : o = 1 ∨ o = 2 ∨ o = 3 ∨ o = 4 ∨ o = 5 ∨ o = 6 ∨ o = 7 := by omega
    rcases this with rfl | rfl | rfl | rfl | rfl | rfl | rfl
    · exact UsesOf_1 v a b w hok
    · exact UsesOf_2 v a b w hok
    · exact UsesOf_3 v a b w hok
    · exact UsesOf_4 v a b w hok
    · exact UsesOf_5 v a b w hok
    · exact UsesOf_6 v a b w hok
    · exact UsesOf_7 v a b w hok

set_option maxHeartbeats 400000 in
theorem l1Uses_1 (v a b : Int) (w : World) :
    Calls Tryz.prog 63 #[.agg #[.int .i64 1, .int .i64 v, .int .i64 a, .int .i64 b]] w fun e w' => ∃ r, e = .returned r ∧ OI w' w.heap.size r [] ∧ Below w.heap.size w w' := by
  go_enter Tryz.func63, Tryz.ntmps63
  go_wp2
  go_ret
  refine ⟨_, rfl, ?_, ((Below.refl _ _).alloc (Nat.le_refl _) _).alloc (by simp) _⟩
  exact OI_lit0 (w.alloc _) (by simp) (by omega)

set_option maxHeartbeats 400000 in
theorem l1Uses_2 (v a b : Int) (w : World) :
    Calls Tryz.prog 63 #[.agg #[.int .i64 2, .int .i64 v, .int .i64 a, .int .i64 b]] w fun e w' => ∃ r, e = .returned r ∧ OI w' w.heap.size r [a] ∧ Below w.heap.size w w' := by
  go_enter Tryz.func63, Tryz.ntmps63
  go_wp2
  go_ret
  refine ⟨_, rfl, ?_, ((Below.refl _ _).alloc (Nat.le_refl _) _).alloc (by simp) _⟩
  exact OI_lit1 (w.alloc _) _ (by simp) (by omega)

set_option maxHeartbeats 400000 in
theorem l1Uses_3 (v a b : Int) (w : World) :
    Calls Tryz.prog 63 #[.agg #[.int .i64 3, .int .i64 v, .int .i64 a, .int .i64 b]] w fun e w' => ∃ r, e = .returned r ∧ OI w' w.heap.size r [a, b] ∧ Below w.heap.size w w' := by
  go_enter Tryz.func63, Tryz.ntmps63
  go_wp2
  go_ret
  refine ⟨_, rfl, ?_, ((Below.refl _ _).alloc (Nat.le_refl _) _).alloc (by simp) _⟩
  exact OI_lit2 (w.alloc _) _ _ (by simp) (by omega)

set_option maxHeartbeats 400000 in
theorem l1Uses_4 (v a b : Int) (w : World) :
    Calls Tryz.prog 63 #[.agg #[.int .i64 4, .int .i64 v, .int .i64 a, .int .i64 b]] w fun e w' => ∃ r, e = .returned r ∧ OI w' w.heap.size r [a, b] ∧ Below w.heap.size w w' := by
  go_enter Tryz.func63, Tryz.ntmps63
  go_wp2
  go_ret
  refine ⟨_, rfl, ?_, ((Below.refl _ _).alloc (Nat.le_refl _) _).alloc (by simp) _⟩
  exact OI_lit2 (w.alloc _) _ _ (by simp) (by omega)

set_option maxHeartbeats 400000 in
theorem l1Uses_5 (v a b : Int) (w : World) :
    Calls Tryz.prog 63 #[.agg #[.int .i64 5, .int .i64 v, .int .i64 a, .int .i64 b]] w fun e w' => ∃ r, e = .returned r ∧ OI w' w.heap.size r [a, b] ∧ Below w.heap.size w w' := by
  go_enter Tryz.func63, Tryz.ntmps63
  go_wp2
  go_ret
  refine ⟨_, rfl, ?_, ((Below.refl _ _).alloc (Nat.le_refl _) _).alloc (by simp) _⟩
  exact OI_lit2 (w.alloc _) _ _ (by simp) (by omega)

set_option maxHeartbeats 400000 in
theorem l1Uses_6 (v a b : Int) (w : World) :
    Calls Tryz.prog 63 #[.agg #[.int .i64 6, .int .i64 v, .int .i64 a, .int .i64 b]] w fun e w' => ∃ r, e = .returned r ∧ OI w' w.heap.size r [a, b] ∧ Below w.heap.size w w' := by
  go_enter Tryz.func63, Tryz.ntmps63
  go_wp2
  go_ret
  refine ⟨_, rfl, ?_, ((Below.refl _ _).alloc (Nat.le_refl _) _).alloc (by simp) _⟩
  exact OI_lit2 (w.alloc _) _ _ (by simp) (by omega)

set_option maxHeartbeats 400000 in
theorem l1Uses_7 (v a b : Int) (w : World) :
    Calls Tryz.prog 63 #[.agg #[.int .i64 7, .int .i64 v, .int .i64 a, .int .i64 b]] w fun e w' => ∃ r, e = .returned r ∧ OI w' w.heap.size r [a] ∧ Below w.heap.size w w' := by
  go_enter Tryz.func63, Tryz.ntmps63
  go_wp2
  go_ret
  refine ⟨_, rfl, ?_, ((Below.refl _ _).alloc (Nat.le_refl _) _).alloc (by simp) _⟩
  exact OI_lit1 (w.alloc _) _ (by simp) (by omega)

theorem l1Uses_any (o v a b : Int) (w : World) (hok : insOkB o v a b = true) :
    Calls Tryz.prog 63 #[.agg #[.int .i64 o, .int .i64 v, .int .i64 a, .int .i64 b]] w fun e w' => ∃ r, e = .returned r ∧ OI w' w.heap.size r (usesL o v a b) ∧ Below w.heap.size w w' := by
  obtain ⟨h1, h7⟩ := ok_range hok
  have : o = 1 ∨ o = 2 ∨ o = 3 ∨ o = 4 ∨ o = 5 ∨ o = 6 ∨ o = 7 := by omega
  rcases this with rfl | rfl | rfl | rfl | rfl | rfl | rfl <;> simp only [usesL, hok]
  · exact l1Uses_1 v a b w
  · exact l1Uses_2 v a b w
  · exact l1Uses_3 v a b w
  · exact l1Uses_4 v a b w
  · exact l1Uses_5 v a b w
  · exact l1Uses_6 v a b w
  · exact l1Uses_7 v a b w

theorem usesL_len (o v a b : Int) : (usesL o v a b).length ≤ 2 := by
  unfold usesL; split <;> (try split) <;> (try split) <;> simp

theorem OI.below {w w' : World} {B B' : Nat} {v : Value} {xs : List Int} (h : OI w B v xs) (hb : Below B' w w') (hB : ∀ k, v.ownBlock = some k → k < B') : OI w' B v xs := by
  obtain ⟨h1, h2⟩ := h
  refine ⟨h1, ?_⟩
  rcases h2 with h2 | ⟨g, cap, cur, rfl, hg, hh, r⟩
  · exact .inl h2
  · exact .inr ⟨g, cap, cur, rfl, hg, by rw [hb.block g (hB g rfl)]; exact hh, r⟩

theorem OI.lt {w : World} {B : Nat} {v : Value} {xs : List Int} (h : OI w B v xs) : ∀ k, v.ownBlock = some k → B ≤ k ∧ k < w.heap.size := World.ownsRow.lt h
theorem OI.grown {w w' : World} {B : Nat} {v : Value} {xs : List Int} (h : OI w B v xs) {row : Option Nat} (hg : w.grownBy w' row) (hne : v.ownBlock = none ∨ v.ownBlock ≠ row) : OI w' B v xs := World.ownsRow.kept h hg hne
theorem OI.drewN {w : World} {B : Nat} {v : Value} {xs : List Int} (h : OI w B v xs) (n : Nat) : OI (w.drewN n) B v xs := h
theorem below_drewN {B : Nat} {a w : World} (h : Below B a w) (n : Nat) : Below B a (w.drewN n) := ⟨h.os, h.tape, h.output, h.size, h.block⟩
end

/- Slices of records: what a slice value reads as, in a zone of blocks, and how it is kept. -/
section
open Go.ChangeShapes Go.WideShapes Go.ChangeAt Go.RowKit Go.Joins

/-- Blocks in which something lies; own: and none of its cells is frozen. -/
structure Zn where
  D : Nat → Prop
  own : Bool

def Zn.new (lo hi : Nat) : Zn := ⟨fun b => lo ≤ b ∧ b < hi, true⟩
def Zn.old (hi : Nat) : Zn := ⟨fun b => b < hi, false⟩

def At (w : World) (Z : Zn) (b o : Nat) (u : Value) : Prop := w.cell? ⟨b, o, none⟩ = some u ∧ (Z.own = true → w.frozen? ⟨b, o, none⟩ = false)

def RowAt {α : Type} (w : World) (Z : Zn) (size : Nat) (E : α → List Value → Prop) (xs : List α) (b off : Nat) : Prop :=
  Z.D b ∧ ∀ k x, xs[k]? = some x → ∃ cs, E x cs ∧ ∀ j u, cs[j]? = some u → At w Z b (off + k * size + j) u

def Row {α : Type} (w : World) (Z : Zn) (size : Nat) (E : α → List Value → Prop) (v : Value) (xs : List α) : Prop :=
  xs.length ≤ 9223372036854775807 ∧ ∃ A c, v = .slice A xs.length c ∧ (xs ≠ [] → ∃ b off, A = some ⟨b, off, none⟩ ∧ RowAt w Z size E xs b off)

/-- What lay in zone Z of w lies in zone Z' of w'. -/
structure Kept (Z Z' : Zn) (w w' : World) : Prop where
  D : ∀ b, Z.D b → Z'.D b
  own : Z'.own = true → Z.own = true
  heap : ∀ b, Z.D b → w'.heap[b]? = w.heap[b]?

theorem Kept.refl (Z : Zn) (w : World) : Kept Z Z w w := ⟨fun _ h => h, fun h => h, fun _ _ => rfl⟩
theorem Kept.trans {Z Z' Z'' : Zn} {w w' w'' : World} (h : Kept Z Z' w w') (k : Kept Z' Z'' w' w'') : Kept Z Z'' w w'' :=
  ⟨fun b hb => k.D b (h.D b hb), fun ho => h.own (k.own ho), fun b hb => (k.heap b (h.D b hb)).trans (h.heap b hb)⟩
theorem Kept.drewN (Z : Zn) (w : World) (n : Nat) : Kept Z Z w (w.drewN n) := ⟨fun _ h => h, fun h => h, fun _ _ => rfl⟩
theorem Kept.below {Z : Zn} {w w' : World} {B : Nat} (hb : Below B w w') (hB : ∀ b, Z.D b → b < B) : Kept Z Z w w' := ⟨fun _ h => h, fun h => h, fun b h => hb.block b (hB b h)⟩
theorem Kept.grown {Z : Zn} {w w' : World} {row : Option Nat} (hg : w.grownBy w' row) (hB : ∀ b, Z.D b → b < w.heap.size) (hr : ∀ b, row = some b → ¬ Z.D b) : Kept Z Z w w' :=
  ⟨fun _ h => h, fun h => h, fun b h => hg.block b (hB b h) fun e => hr b e.symm h⟩

theorem At.keep {Z Z' : Zn} {w w' : World} {b o : Nat} {u : Value} (h : At w Z b o u) (hk : Kept Z Z' w w') (hD : Z.D b) : At w' Z' b o u :=
  ⟨(World.cell?_of_block (hk.heap b hD)).trans h.1, fun ho => (World.frozen?_of_block (a := ⟨b, o, none⟩) (hk.heap b hD)).trans (h.2 (hk.own ho))⟩

theorem Row.keep {α : Type} {w w' : World} {Z Z' : Zn} {size : Nat} {E E' : α → List Value → Prop} {v : Value} {xs : List α} (h : Row w Z size E v xs) (hk : Kept Z Z' w w')
    (hE : ∀ x cs, E x cs → E' x cs) : Row w' Z' size E' v xs := by
  obtain ⟨h1, A, c, rfl, h2⟩ := h
  refine ⟨h1, A, c, rfl, fun hne => ?_⟩
  obtain ⟨b, off, rfl, hD, h3⟩ := h2 hne
  refine ⟨b, off, rfl, hk.D b hD, fun k x hx => ?_⟩
  obtain ⟨cs, hcs, h4⟩ := h3 k x hx
  exact ⟨cs, hE x cs hcs, fun j u hu => (h4 j u hu).keep hk hD⟩

structure MoveD where
  dst : Int
  src : Int
structure InsD where
  op : Int
  v : Int
  a : Int
  b : Int
structure EndD where
  k : Int
  a : Int
  t : Int
  l : Int
structure PhiD where
  v : Int
  args : List Int
structure BlockD where
  phis : List PhiD
  head : List MoveD
  body : List InsD
  tail : List MoveD
  fin : EndD
structure FunD where
  params : Int
  names : Int
  blocks : List BlockD

def EInt (x : Int) (cs : List Value) : Prop := cs = [.int .i64 x]
def EMove (m : MoveD) (cs : List Value) : Prop := cs = [.int .i64 m.dst, .int .i64 m.src]
def EIns (i : InsD) (cs : List Value) : Prop := cs = [.int .i64 i.op, .int .i64 i.v, .int .i64 i.a, .int .i64 i.b]
def EPhi (w : World) (Z : Zn) (p : PhiD) (cs : List Value) : Prop := ∃ v, cs = [.int .i64 p.v, v] ∧ Row w Z 1 EInt v p.args
def EBlock (w : World) (Z : Zn) (x : BlockD) (cs : List Value) : Prop :=
  ∃ v0 v1 v2 v3, cs = [v0, v1, v2, v3, .int .i64 x.fin.k, .int .i64 x.fin.a, .int .i64 x.fin.t, .int .i64 x.fin.l] ∧
    Row w Z 2 (EPhi w Z) v0 x.phis ∧ Row w Z 2 EMove v1 x.head ∧ Row w Z 4 EIns v2 x.body ∧ Row w Z 2 EMove v3 x.tail
def EFun (w : World) (Z : Zn) (f : FunD) (v : Value) : Prop := ∃ u, v = .agg #[.int .i64 f.params, .int .i64 f.names, u] ∧ Row w Z 8 (EBlock w Z) u f.blocks

theorem EPhi.keep {w w' : World} {Z Z' : Zn} {p : PhiD} {cs : List Value} (h : EPhi w Z p cs) (hk : Kept Z Z' w w') : EPhi w' Z' p cs := by
  obtain ⟨v, rfl, h1⟩ := h
  exact ⟨v, rfl, h1.keep hk fun _ _ h => h⟩
theorem EBlock.keep {w w' : World} {Z Z' : Zn} {x : BlockD} {cs : List Value} (h : EBlock w Z x cs) (hk : Kept Z Z' w w') : EBlock w' Z' x cs := by
  obtain ⟨v0, v1, v2, v3, rfl, h0, h1, h2, h3⟩ := h
  exact ⟨v0, v1, v2, v3, rfl, h0.keep hk fun _ _ h => h.keep hk, h1.keep hk fun _ _ h => h, h2.keep hk fun _ _ h => h, h3.keep hk fun _ _ h => h⟩
theorem EFun.keep {w w' : World} {Z Z' : Zn} {f : FunD} {v : Value} (h : EFun w Z f v) (hk : Kept Z Z' w w') : EFun w' Z' f v := by
  obtain ⟨u, rfl, h1⟩ := h
  exact ⟨u, rfl, h1.keep hk fun _ _ h => h.keep hk⟩

/-- Row g is filled with the first k of xs. -/
def Fill {α : Type} (w : World) (g : Nat) (T : TypeId) (size n k : Nat) (E : α → List Value → Prop) (xs : List α) : Prop :=
  ∃ cur : Array Value, w.heap[g]? = some (.cells cur T (0, 0)) ∧ cur.size = n * size ∧ ∀ j x, j < k → xs[j]? = some x → ∃ cs, E x cs ∧ ∀ i u, cs[i]? = some u → cur[j * size + i]? = some u

theorem Fill.row {α : Type} {w : World} {g : Nat} {T : TypeId} {size n : Nat} {E : α → List Value → Prop} {xs : List α} {Z : Zn} (h : Fill w g T size n n E xs) (hn : n = xs.length) (hm : n ≤ 9223372036854775807) (hZ : Z.D g) (c : Nat) :
    Row w Z size E (.slice (some ⟨g, 0, none⟩) n c) xs := by
  obtain ⟨cur, h1, h2, h3⟩ := h
  subst hn
  refine ⟨hm, _, c, rfl, fun _ => ⟨g, 0, rfl, hZ, fun k x hx => ?_⟩⟩
  obtain ⟨cs, hE, h4⟩ := h3 k x (List.getElem?_eq_some_iff.1 hx).1 hx
  refine ⟨cs, hE, fun j u hu => ⟨?_, fun _ => ?_⟩⟩
  · rw [Nat.zero_add]
    exact (cell_of_row w g _ cur T (0, 0) h1).trans (h4 j u hu)
  · simp [World.frozen?, h1]

/-- One element more. -/
theorem Fill.step {α : Type} {w w' : World} {g : Nat} {T : TypeId} {size n k : Nat} {E E' : α → List Value → Prop} {xs : List α} {x : α} {cs : List Value} (h : Fill w g T size n k E xs) (hx : xs[k]? = some x) (hE' : E' x cs)
    (hE : ∀ y ds, E y ds → E' y ds) (hs : ∀ y ds, E y ds → ds.length = size)
    (hw : ∀ cur, w.heap[g]? = some (.cells cur T (0, 0)) → cur.size = n * size → ∃ cur' : Array Value, w'.heap[g]? = some (.cells cur' T (0, 0)) ∧ cur'.size = cur.size ∧ (∀ i, i < k * size → cur'[i]? = cur[i]?) ∧ ∀ i u, cs[i]? = some u → cur'[k * size + i]? = some u) :
    Fill w' g T size n (k + 1) E' xs := by
  obtain ⟨cur, h1, h2, h3⟩ := h
  obtain ⟨cur', h1', h2', h3', h4'⟩ := hw cur h1 h2
  refine ⟨cur', h1', h2'.trans h2, fun j y hj hy => ?_⟩
  by_cases hjk : j = k
  · subst hjk
    rw [hx] at hy
    injection hy with hy
    subst hy
    exact ⟨cs, hE', h4'⟩
  · obtain ⟨ds, hd, h5⟩ := h3 j y (by omega) hy
    refine ⟨ds, hE y ds hd, fun i u hu => ?_⟩
    have hi : i < size := by
      rw [← hs y ds hd]; exact (List.getElem?_eq_some_iff.1 hu).1
    have hlt : j * size + i < k * size := by
      have : (j + 1) * size ≤ k * size := Nat.mul_le_mul_right _ (by omega)
      rw [Nat.add_mul, Nat.one_mul] at this
      omega
    rw [h3' _ hlt]
    exact h5 i u hu

theorem Fill.zero {α : Type} {w : World} {g : Nat} {T : TypeId} {size n : Nat} {E : α → List Value → Prop} {xs : List α} {cur : Array Value} (h1 : w.heap[g]? = some (.cells cur T (0, 0))) (h2 : cur.size = n * size) : Fill w g T size n 0 E xs :=
  ⟨cur, h1, h2, fun _ _ h => absurd h (by omega)⟩

theorem Fill.keep {α : Type} {w w' : World} {g : Nat} {T : TypeId} {size n k : Nat} {E E' : α → List Value → Prop} {xs : List α} (h : Fill w g T size n k E xs) (hw : w'.heap[g]? = w.heap[g]?) (hE : ∀ y ds, E y ds → E' y ds) : Fill w' g T size n k E' xs := by
  obtain ⟨cur, h1, h2, h3⟩ := h
  refine ⟨cur, hw.trans h1, h2, fun j y hj hy => ?_⟩
  obtain ⟨ds, hd, h5⟩ := h3 j y hj hy
  exact ⟨ds, hE y ds hd, h5⟩

/-- Cells of one row, written one behind the other. -/
def setAll (cur : Array Value) (o : Nat) : List Value → Array Value
  | [] => cur
  | u :: us => setAll (cur.setIfInBounds o u) (o + 1) us
theorem setAll_size : ∀ (us : List Value) (cur : Array Value) (o : Nat), (setAll cur o us).size = cur.size
  | [], _, _ => rfl
  | u :: us, cur, o => by rw [setAll, setAll_size us]; simp
theorem setAll_below : ∀ (us : List Value) (cur : Array Value) (o i : Nat), i < o → (setAll cur o us)[i]? = cur[i]?
  | [], _, _, _, _ => rfl
  | u :: us, cur, o, i, h => by
    rw [setAll, setAll_below us _ (o + 1) i (by omega), Array.getElem?_setIfInBounds, if_neg (by omega)]
theorem setAll_in : ∀ (us : List Value) (cur : Array Value) (o i : Nat) (u : Value), o + us.length ≤ cur.size → us[i]? = some u → (setAll cur o us)[o + i]? = some u
  | [], _, _, _, _, _, h => by simp at h
  | v :: us, cur, o, 0, u, hl, h => by
    simp only [List.getElem?_cons_zero, Option.some.injEq] at h
    subst h
    rw [setAll, setAll_below us _ (o + 1) (o + 0) (by omega), Array.getElem?_setIfInBounds]
    simp at hl ⊢
    omega
  | v :: us, cur, o, i + 1, u, hl, h => by
    rw [setAll, show o + (i + 1) = (o + 1) + i by omega]
    exact setAll_in us _ (o + 1) i u (by simp at hl ⊢; omega) (by simpa using h)

/-- Stores into row g, one behind the other. -/
def storeAll (w : World) (g o : Nat) : List Value → World
  | [] => w
  | u :: us => storeAll (w.setCell ⟨g, o, none⟩ u) g (o + 1) us
theorem storeAll_heap : ∀ (us : List Value) (w : World) (g o : Nat) (cur : Array Value) (T : TypeId), w.heap[g]? = some (.cells cur T (0, 0)) → (storeAll w g o us).heap[g]? = some (.cells (setAll cur o us) T (0, 0))
  | [], _, _, _, _, _, h => h
  | u :: us, w, g, o, cur, T, h => storeAll_heap us _ g (o + 1) _ T (heap_setCell_same w g o cur T u h)
theorem nblk_set (w : World) (a : Addr) (v : Value) : (w.setCell a v).heap.size = w.heap.size := by simp
theorem set_grown (w : World) (g o : Nat) (u : Value) : w.grownBy (w.setCell ⟨g, o, none⟩ u) (some g) :=
  ⟨rfl, rfl, rfl, by simp, fun k _ hne => Below.heap_setCell w ⟨g, o, none⟩ u k (fun e => hne (congrArg some e))⟩
theorem storeAll_grown : ∀ (us : List Value) (w : World) (g o : Nat), w.grownBy (storeAll w g o us) (some g)
  | [], w, _, _ => World.grownBy.refl w _
  | u :: us, w, g, o => World.grownBy.trans (set_grown w g o u) (storeAll_grown us _ g (o + 1))

theorem Fill.store {α : Type} {w : World} {g : Nat} {T : TypeId} {size n k : Nat} {E E' : α → List Value → Prop} {xs : List α} {x : α} {cs : List Value} (h : Fill w g T size n k E xs) (hx : xs[k]? = some x) (hk : k < n) (hE' : E' x cs) (hl : cs.length = size)
    (hE : ∀ y ds, E y ds → E' y ds) (hs : ∀ y ds, E y ds → ds.length = size) : Fill (storeAll w g (k * size) cs) g T size n (k + 1) E' xs := by
  refine h.step hx hE' hE hs fun cur h1 h2 => ⟨setAll cur (k * size) cs, storeAll_heap cs w g _ cur T h1, setAll_size _ _ _, fun i hi => setAll_below _ _ _ i hi, fun i u hu => setAll_in _ _ _ i u ?_ hu⟩
  rw [h2, hl]
  have : (k + 1) * size ≤ n * size := Nat.mul_le_mul_right _ (by omega)
  rw [Nat.add_mul, Nat.one_mul] at this
  omega

theorem Fill.cell {α : Type} {w : World} {g : Nat} {T : TypeId} {size n k : Nat} {E : α → List Value → Prop} {xs : List α} (h : Fill w g T size n k E xs) {m j : Nat} (hm : m < n) (hj : j < size) : ∃ u, w.cell? ⟨g, m * size + j, none⟩ = some u := by
  obtain ⟨cur, h1, h2, _⟩ := h
  have hlt : m * size + j < cur.size := by
    have : (m + 1) * size ≤ n * size := Nat.mul_le_mul_right _ (by omega)
    rw [Nat.add_mul, Nat.one_mul] at this
    omega
  exact ⟨cur[m * size + j], (cell_of_row w g _ cur T (0, 0) h1).trans (Array.getElem?_eq_getElem hlt)⟩
theorem Fill.frozen {α : Type} {w : World} {g : Nat} {T : TypeId} {size n k : Nat} {E : α → List Value → Prop} {xs : List α} (h : Fill w g T size n k E xs) (o : Nat) : w.frozen? ⟨g, o, none⟩ = false := by
  obtain ⟨cur, h1, _⟩ := h
  simp [World.frozen?, h1]

section
variable {P : Program}
theorem run_make_rowN (t e : TypeId) (i : TypeInfo) (z : Value) (ht : P.underlying t = some (.slice e)) (hi : P.info? e = some i) (hz : i.zero = some z)
    (kl kc : IntKind) (n c : Nat) (hnc : n ≤ c) (hbytes : i.bytes * c ≤ 281474976710656) (h63 : c ≤ 9223372036854775807) (w : World) :
    (Instr.makeSlice t (.int kl (n : Int)) (.int kc (c : Int))).run P w = .ok (.slice (some ⟨w.heap.size, 0, none⟩) n c) (w.alloc (.cells (madeCells z.cells (c * i.size)) e)) := by
  have hb : (i.bytes : Int) * (c : Int) ≤ 281474976710656 := by
    have h : ((i.bytes * c : Nat) : Int) ≤ 281474976710656 := by omega
    rwa [Int.natCast_mul] at h
  have hr := run_make (P := P) w t e i z ht hi hz kl kc n c (by omega) (by omega) hb (by omega)
  simp only [Int.toNat_natCast] at hr
  exact hr
end
end

end Go.Proofs.YtnjmlhokkhkaaaaGreatDoor
