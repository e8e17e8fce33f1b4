/- Str, Two, joined. -/
import Derived.Test.YtnjmlhokkhkaaaaGreatDoorQ3
import Derived.Test.YtnjmlhokkhkaaaaGreatDoorQ9
import Derived.Test.YtnjmlhokkhkaaaaGreatDoorQ12
import Derived.Test.YtnjmlhokkhkaaaaGreatDoorQ13
import Derived.Test.YtnjmlhokkhkaaaaGreatDoorQ14
namespace Go.Proofs.YtnjmlhokkhkaaaaGreatDoor

/- Strictness: what it is; isAhead of the program. -/
section
open Go.ChangeShapes Go.WideShapes Go.ChangeAt Go.RowKit Go.Joins

/-- A place is ahead of another one. -/
def AheadP (f : FunD) (a b : MoveD) : Prop := (a.dst = b.dst ∧ a.src < b.src) ∨ (a.dst ≠ b.dst ∧ Rch (scF f.blocks) (-1) b.dst ∧ ¬ Rch (scF f.blocks) a.dst b.dst)
def LostP (f : FunD) : Prop := ∃ i : Nat, i < f.blocks.length ∧ ¬ Rch (scF f.blocks) (-1) i
def defsN (f : FunD) (t : Nat) : List MoveD := pick (defsK f f.blocks.length) t
def takesN (f : FunD) (t : Nat) : List MoveD := pick (takesK f f.blocks.length) t
def TwiceP (f : FunD) : Prop := ∃ t : Nat, (t : Int) < f.names ∧ (defsN f t).length ≠ 1
def LooseP (f : FunD) : Prop := ∃ (t : Nat) (d p : MoveD), (t : Int) < f.names ∧ (defsN f t)[0]? = some d ∧ p ∈ takesN f t ∧ ¬ AheadP f d p
/-- The first that is wrong with a right function. -/
def CodeP (f : FunD) (c : Int) : Prop := (LostP f ∧ c = 3) ∨ (¬ LostP f ∧ ((TwiceP f ∧ c = 4) ∨ (¬ TwiceP f ∧ ((LooseP f ∧ c = 5) ∨ (¬ LooseP f ∧ c = 0)))))
theorem CodeP.one {f : FunD} {c d : Int} (h : CodeP f c) (k : CodeP f d) : c = d := by
  rcases h with ⟨h1, h⟩ | ⟨h1, ⟨h2, h⟩ | ⟨h2, ⟨h3, h⟩ | ⟨h3, h⟩⟩⟩ <;> rcases k with ⟨k1, k⟩ | ⟨k1, ⟨k2, k⟩ | ⟨k2, ⟨k3, k⟩ | ⟨k3, k⟩⟩⟩ <;> first | exact h.trans k.symm | exact absurd h1 k1 | exact absurd k1 h1 | exact absurd h2 k2 | exact absurd k2 h2 | exact absurd h3 k3 | exact absurd k3 h3
theorem rch_in {sc : Int → List Int} {N : Nat} (hsc : ∀ b : Nat, b < N → ∀ t ∈ sc b, 0 ≤ t ∧ t < (N : Int)) (hN : 1 ≤ N) {a : Int} (ha : ¬ (0 ≤ a ∧ a < N)) {b : Int} (h : Rch sc (-1) b) : 0 ≤ b ∧ b < N ∧ Rch sc a b := by
  induction h with
  | zero _ => exact ⟨by omega, by omega, .zero (by omega)⟩
  | @step x y _ hy _ ih =>
    obtain ⟨h0, h1, h2⟩ := ih
    obtain ⟨k, rfl⟩ : ∃ k : Nat, x = k := ⟨x.toNat, by omega⟩
    have hyr := hsc k (by omega) y hy
    exact ⟨hyr.1, hyr.2, .step h2 hy (by rintro rfl; exact ha hyr)⟩
theorem rch_self {sc : Int → List Int} {b : Int} : ¬ Rch sc b b := fun h => by
  cases h with
  | zero h => exact h rfl
  | step _ _ h => exact h rfl
theorem doms_bit {f : FunD} (hp : FunP f) {D : List Nat} (hd : DomsD f D) {t : Nat} (ht : t < f.blocks.length) (a : Nat) : (D.getD t 0).testBit a = true ↔ Rch (scF f.blocks) (-1) t ∧ ¬ Rch (scF f.blocks) a t := by
  have h1n := hp.1.1.1
  have h40 := hp.1.1.2
  have hsc := (targets_of hp).sc
  by_cases hr : Rch (scF f.blocks) (-1) t
  · by_cases ha : a < 40
    · rw [hd.1.done h40 isPreds_of hd.2 hsc ht ha hr]
      exact ⟨fun h => ⟨hr, h⟩, fun h => h.2⟩
    · constructor
      · intro h
        exfalso
        have h2 : 2 ^ 40 ≤ D.getD t 0 := Nat.le_trans (Nat.pow_le_pow_right (by decide) (by omega)) (Nat.ge_two_pow_of_testBit h)
        have := hd.1.lt t
        unfold allBits at this
        omega
      · intro h
        exact absurd (rch_in hsc h1n (a := (a : Int)) (by omega) hr).2.2 h.2
  · rw [hd.1.un t ht hr, bit_zero]
    exact ⟨fun h => absurd h (by decide), fun h => absurd h.1 hr⟩
theorem lost_iff {f : FunD} (hp : FunP f) {D : List Nat} (hd : DomsD f D) : LostP f ↔ ∃ i : Nat, i < f.blocks.length ∧ D.getD i 0 = 0 := by
  constructor
  · rintro ⟨i, hi, hr⟩
    exact ⟨i, hi, hd.1.un i hi hr⟩
  · rintro ⟨i, hi, h0⟩
    refine ⟨i, hi, fun hr => ?_⟩
    have := (doms_bit hp hd hi i).2 ⟨hr, rch_self⟩
    rw [h0, bit_zero] at this
    cases this
theorem defsN_block {f : FunD} (hp : FunP f) {t : Nat} {d : MoveD} (h : d ∈ defsN f t) : ∃ k : Nat, d.dst = k ∧ k < f.blocks.length := by
  obtain ⟨e, he, _, rfl⟩ := mem_pick h
  unfold defsK at he
  rw [List.mem_append] at he
  rcases he with he | he
  · unfold parG at he
    rw [List.mem_map] at he
    obtain ⟨i, _, rfl⟩ := he
    exact ⟨0, rfl, by have := hp.1.1.1; omega⟩
  · obtain ⟨i, x, _, hx, hy⟩ := mem_upTo he
    refine ⟨i, ?_, (List.getElem?_eq_some_iff.1 hx).1⟩
    unfold blkG phG mvG insG at hy
    simp only [List.mem_append] at hy
    rcases hy with ((h | h) | h) | h
    · obtain ⟨_, y, _, _, hy⟩ := mem_upTo h
      simp at hy; rw [hy]
    · obtain ⟨_, y, _, _, hy⟩ := mem_upTo h
      simp at hy; rw [hy]
    · obtain ⟨_, y, _, _, hy⟩ := mem_upTo h
      split at hy
      · cases hy
      · simp at hy; rw [hy]
    · obtain ⟨_, y, _, _, hy⟩ := mem_upTo h
      simp at hy; rw [hy]
theorem takesN_block {f : FunD} {t : Nat} {d : MoveD} (h : d ∈ takesN f t) : ∃ k : Nat, d.dst = k ∧ k < f.blocks.length := by
  obtain ⟨e, he, _, rfl⟩ := mem_pick h
  obtain ⟨i, x, _, hx, hy⟩ := mem_upTo he
  refine ⟨i, ?_, (List.getElem?_eq_some_iff.1 hx).1⟩
  unfold blkT mvT insT at hy
  simp only [List.mem_append] at hy
  rcases hy with ((h | h) | h) | h
  · obtain ⟨_, y, _, _, hy⟩ := mem_upTo h
    simp at hy; rw [hy]
  · obtain ⟨_, y, _, _, hy⟩ := mem_upTo h
    rw [List.mem_map] at hy
    obtain ⟨u, _, rfl⟩ := hy
    rfl
  · obtain ⟨_, y, _, _, hy⟩ := mem_upTo h
    simp at hy; rw [hy]
  · rw [List.mem_map] at h
    obtain ⟨u, _, rfl⟩ := h
    rfl

set_option maxRecDepth 10000 in
set_option maxHeartbeats 1000000 in
theorem isAhead_any (f : FunD) (q : Nat) (D : List Nat) (s t : Nat) (x y : Int) (w : World) (hp : FunP f) (hu : UL w q f.blocks.length D) (hd : DomsD f D) (hs : s < f.blocks.length) (ht : t < f.blocks.length) :
    Calls Tryz.prog 79 #[.slice (some ⟨q, 0, none⟩) f.blocks.length f.blocks.length, .agg #[.int .i64 s, .int .i64 x], .agg #[.int .i64 t, .int .i64 y]] w (GivesB (AheadP f ⟨s, x⟩ ⟨t, y⟩) w) := by
  have hb40 := hp.1.1.2
  have ht' : (t : Int) < (f.blocks.length : Int) := by omega
  have ht0 : 0 ≤ (t : Int) := by omega
  have hql := hu.lt
  have hcu := hu.cell ht
  have HLE := Lib.hid (all_lt (hd.1.lt t))
  have HBIT : Hid ((isBelowB (s : Int) 40 && (D.getD t 0).testBit ((s : Int)).toNat) = true ↔ Rch (scF f.blocks) (-1) t ∧ ¬ Rch (scF f.blocks) s t) := by
    have h1 : isBelowB (s : Int) 40 = true := by simp [isBelowB]; omega
    rw [Hid, h1, Bool.true_and]
    exact doms_bit hp hd ht s
  clear hu hd hp
  by_cases hst : s = t
  case pos =>
    have hb : ((s : Int) == (t : Int)) = true := by simp; omega
    have HST : Hid (AheadP f ⟨s, x⟩ ⟨t, y⟩ ↔ x < y) := by
      rw [Hid, hst]
      constructor
      · rintro (h | h)
        · exact h.2
        · exact absurd rfl h.1
      · exact fun h => .inl ⟨rfl, h⟩
    clear hst
    go_enter Tryz.func79, Tryz.ntmps79
    go_wp2_with fail
    go_ret
    exact ⟨decide (x < y), rfl, by rw [decide_eq_true_iff]; exact HST.out.symm, ((Below.refl _ _).alloc (Nat.le_refl _) _).alloc (by simp) _⟩
  have hb : ((s : Int) == (t : Int)) = false := by simp; omega
  have HST : Hid (AheadP f ⟨s, x⟩ ⟨t, y⟩ ↔ Rch (scF f.blocks) (-1) t ∧ ¬ Rch (scF f.blocks) s t) := by
    constructor
    · rintro (h | h)
      · exact absurd h.1 (by show ¬ (s : Int) = (t : Int); omega)
      · exact h.2
    · exact fun h => .inr ⟨by show (s : Int) ≠ (t : Int); omega, h⟩
  clear hst
  go_enter Tryz.func79, Tryz.ntmps79
  go_upto_region 3 with fail
  have hB2 : Below w.heap.size w ((w.alloc (.cells #[.int .i64 s, .int .i64 x] 36)).alloc (.cells #[.int .i64 t, .int .i64 y] 36)) := ((Below.refl _ _).alloc (Nat.le_refl _) _).alloc (by simp) _
  have k0 : (((w.alloc (.cells #[.int .i64 s, .int .i64 x] 36)).alloc (.cells #[.int .i64 t, .int .i64 y] 36))).cell? ⟨w.heap.size, 0, none⟩ = some (.int .i64 s) := by go_simp
  have k1 : (((w.alloc (.cells #[.int .i64 s, .int .i64 x] 36)).alloc (.cells #[.int .i64 t, .int .i64 y] 36))).cell? ⟨w.heap.size + 1, 0, none⟩ = some (.int .i64 t) := by go_simp
  have k2 := (hB2.cell (p := ⟨q, t, none⟩) hql).trans hcu
  generalize ((w.alloc (.cells #[.int .i64 s, .int .i64 x] 36)).alloc (.cells #[.int .i64 t, .int .i64 y] 36)) = w2 at *
  have HB2 := Lib.hid hB2
  have Kd : (fun w' => w'.cell? ⟨w.heap.size, 0, none⟩ = some (.int .i64 s) ∧ w'.cell? ⟨w.heap.size + 1, 0, none⟩ = some (.int .i64 t) ∧ w'.cell? ⟨q, t, none⟩ = some (.int .u64 ((D.getD t 0 : Nat) : Int))) w2.drew := ⟨k0, k1, k2⟩
  clear hB2 hcu
  refine wp_region_offL (S := ((fun w' => w'.cell? ⟨w.heap.size, 0, none⟩ = some (.int .i64 s) ∧ w'.cell? ⟨w.heap.size + 1, 0, none⟩ = some (.int .i64 t) ∧ w'.cell? ⟨q, t, none⟩ = some (.int .u64 ((D.getD t 0 : Nat) : Int))))) (by simp) (by kernel_rfl) (by kernel_rfl) (by kernel_rfl) (by kernel_rfl) (by kernel_rfl) ?_ (fun hHeld => ?_)
  · (try dsimp only)
    (first | exact Kd | fail)
  simp only [List.dropLast_cons_cons, List.dropLast_singleton, List.length_cons, List.length_nil]
  refine wpAnyH_take (i := 0) (v := ?_) rfl (by kernel_rfl) (by kernel_rfl) (by kernel_rfl) (fun _ _ _ h => h) (Or.inl ⟨by rfl, ?_⟩) (by assumption) ?_
  rotate_left
  · intro w hSw
    simp only [List.getElem_toArray, List.getElem_cons_zero]
    (try dsimp only at hSw)
    go_simp
    first | done | (with_reducible rfl)
  simp only [List.getElem_toArray, List.getElem_cons_zero, Act.put, List.setIfInBounds_toArray, List.set_cons_zero, List.set_cons_succ]
  refine wpAnyH_take (i := 1) (v := ?_) rfl (by kernel_rfl) (by kernel_rfl) (by kernel_rfl) (fun _ _ _ h => h) (Or.inl ⟨by rfl, ?_⟩) (by assumption) ?_
  rotate_left
  · intro w hSw
    simp only [List.getElem_toArray, List.getElem_cons_succ, List.getElem_cons_zero]
    (try dsimp only at hSw)
    go_simp
    first | done | (with_reducible rfl)
  simp only [List.getElem_toArray, List.getElem_cons_succ, List.getElem_cons_zero, Act.put, List.setIfInBounds_toArray, List.set_cons_zero, List.set_cons_succ]
  refine wpAnyH_take (i := 2) (v := ?_) rfl (by kernel_rfl) (by kernel_rfl) (by kernel_rfl) (fun _ _ _ h => h) (Or.inl ⟨by rfl, ?_⟩) (by assumption) ?_
  rotate_left
  · intro w hSw
    simp only [List.getElem_toArray, List.getElem_cons_succ, List.getElem_cons_zero]
    (try dsimp only at hSw)
    go_simp
    first | done | (with_reducible rfl)
  simp only [List.getElem_toArray, List.getElem_cons_succ, List.getElem_cons_zero, Act.put, List.setIfInBounds_toArray, List.set_cons_zero, List.set_cons_succ]
  refine wpAnyH_take (i := 3) (v := ?_) rfl (by kernel_rfl) (by kernel_rfl) (by kernel_rfl) (fun _ _ _ h => h) (Or.inl ⟨by rfl, ?_⟩) (by assumption) ?_
  rotate_left
  · intro w hSw
    simp only [List.getElem_toArray, List.getElem_cons_succ, List.getElem_cons_zero]
    (try dsimp only at hSw)
    go_simp
    first | done | (with_reducible rfl)
  simp only [List.getElem_toArray, List.getElem_cons_succ, List.getElem_cons_zero, Act.put, List.setIfInBounds_toArray, List.set_cons_zero, List.set_cons_succ]
  refine wpAnyH_take (i := 4) (v := ?_) rfl (by kernel_rfl) (by kernel_rfl) (by kernel_rfl) (fun _ _ _ h => h) (Or.inl ⟨by rfl, ?_⟩) (by assumption) ?_
  rotate_left
  · intro w hSw
    simp only [List.getElem_toArray, List.getElem_cons_succ, List.getElem_cons_zero]
    (try dsimp only at hSw)
    go_simp
    first | done | (with_reducible rfl)
  simp only [List.getElem_toArray, List.getElem_cons_succ, List.getElem_cons_zero, Act.put, List.setIfInBounds_toArray, List.set_cons_zero, List.set_cons_succ]
  refine wpAnyH_take (i := 5) (v := ?_) rfl (by kernel_rfl) (by kernel_rfl) (by kernel_rfl) (fun _ _ _ h => h) (Or.inl ⟨by rfl, ?_⟩) (by assumption) ?_
  rotate_left
  · intro w hSw
    simp only [List.getElem_toArray, List.getElem_cons_succ, List.getElem_cons_zero]
    (try dsimp only at hSw)
    go_simp
    first | done | (with_reducible rfl)
  simp only [List.getElem_toArray, List.getElem_cons_succ, List.getElem_cons_zero, Act.put, List.setIfInBounds_toArray, List.set_cons_zero, List.set_cons_succ]
  refine wpAnyH_take (i := 6) (v := ?_) rfl (by kernel_rfl) (by kernel_rfl) (by kernel_rfl) (fun _ _ _ h => h) (Or.inl ⟨by rfl, ?_⟩) (by assumption) ?_
  rotate_left
  · intro w hSw
    simp only [List.getElem_toArray, List.getElem_cons_succ, List.getElem_cons_zero]
    (try dsimp only at hSw)
    go_simp
    first | done | (with_reducible rfl)
  simp only [List.getElem_toArray, List.getElem_cons_succ, List.getElem_cons_zero, Act.put, List.setIfInBounds_toArray, List.set_cons_zero, List.set_cons_succ]
  refine wpAnyH_ready (rs := [7]) (by kernel_rfl) (by simp) ?_
  refine AllReadyH.cons rfl (fun K hK => ?_) AllReadyH.nil
  simp only [List.getElem_toArray, List.getElem_cons_succ, List.getElem_cons_zero]
  go_simp
  (first | (go_at_call 41; refine (hasS_any _ _ _ HLE.out).mono ?_; rintro e w7 ⟨rfl, rfl⟩) | fail)
  go_wp2_with fail
  refine hK.out _ _ ?_ (fun hHeld => ?_)
  · (try dsimp only)
    (first | exact Kd | fail)
  clear hK K
  (try simp only [List.getElem_toArray, List.getElem_cons_succ, List.getElem_cons_zero, Act.put, List.setIfInBounds_toArray, List.set_cons_zero, List.set_cons_succ])
  refine wpAnyH_done (by kernel_rfl) ?_ _
  refine offQ_last rfl (fun KL hKL => ?_)
  go_simp
  refine hKL.out _ _ ?_
  go_wp2_with fail
  go_ret
  exact ⟨_, rfl, HBIT.out.trans HST.out.symm, HB2.out.drew⟩

set_option maxHeartbeats 1000000 in
theorem IndexB_any (D : List Nat) (q n : Nat) (w : World) (hu : UL w q n D) (hD : ∀ i : Nat, D.getD i 0 ≤ allBits) (hn : n ≤ 1000) :
    Calls Tryz.prog 116 #[.slice (some ⟨q, 0, none⟩) n n, .int .u64 0] w fun e w' => (∃ r : Int, e = .returned (.int .i64 r) ∧ (0 ≤ r ↔ ∃ i : Nat, i < n ∧ D.getD i 0 = 0) ∧ -1 ≤ r ∧ r ≤ 1000) ∧ w = w' := by
  have HU := Lib.hid hu
  clear hu
  go_enter Tryz.func116, Tryz.ntmps116
  go_wp2_with fail
  go_loop [8] (fun i => ∃ k : Nat, k ≤ n ∧ i = .int .i64 k ∧ Hid (∀ i : Nat, i < k → D.getD i 0 ≠ 0)) (fun i => n - (intOf i).toNat)
  case atStart => exact ⟨0, Nat.zero_le _, rfl, fun _ h => absurd h (by omega)⟩
  case round =>
    obtain ⟨k, hk, rfl, HN⟩ := hrel
    by_cases hlt : k < n
    case neg =>
      obtain rfl : k = n := by omega
      go_wp2
      go_ret
      exact ⟨⟨-1, rfl, ⟨fun h => absurd h (by decide), fun ⟨i, hi, h0⟩ => absurd h0 (HN.out i hi)⟩, by decide, by decide⟩, rfl⟩
    have hc := HU.out.cell hlt
    have hlt' : (k : Int) < (n : Int) := by omega
    have hle := all_lt (hD k)
    generalize hx : D.getD k 0 = x at hc hle
    have HX := Lib.hid hx
    clear hx
    by_cases h0 : x = 0
    · subst h0
      go_wp2
      go_ret
      exact ⟨⟨(k : Int), rfl, ⟨fun _ => ⟨k, hlt, HX.out⟩, fun _ => by omega⟩, by omega, by omega⟩, rfl⟩
    · have hb : ((0 : Int) == (x : Int)) = false := by simp; omega
      have HN' : Hid (∀ i : Nat, i < k + 1 → D.getD i 0 ≠ 0) := fun i hi => by
        by_cases e : i = k
        · subst e; rw [HX.out]; exact h0
        · exact HN.out i (by omega)
      clear h0
      go_wp2
      go_round
      case rel => exact ⟨k + 1, by omega, by go_num, HN'⟩
      case measure => simp [intOf]; omega

set_option maxHeartbeats 1000000 in
theorem ContainsB_any (f : FunD) (D : List Nat) (q : Nat) (w : World) (hp : FunP f) (hu : UL w q f.blocks.length D) (hd : DomsD f D) :
    Calls Tryz.prog 78 #[.slice (some ⟨q, 0, none⟩) f.blocks.length f.blocks.length, .int .u64 0] w (GivesB (LostP f) w) := by
  have HL := Lib.hid (lost_iff hp hd)
  have hb40 := hp.1.1.2
  have HD := Lib.hid (fun i => hd.1.lt i)
  have HU := Lib.hid hu
  clear hp hd hu
  go_enter Tryz.func78, Tryz.ntmps78
  go_wp2_with fail
  refine (IndexB_any D q f.blocks.length _ HU.out HD.out (by omega)).mono ?_
  rintro e w' ⟨⟨r, rfl, hr, hr1, hr2⟩, rfl⟩
  have HR := Lib.hid hr
  clear hr
  go_wp2_with fail
  go_ret
  exact ⟨decide (0 ≤ r), rfl, by rw [decide_eq_true_iff]; exact HR.out.trans HL.out.symm, Below.refl _ _⟩
end

/- Two lists of numbers side by side: names and times. -/
section
open Go.ChangeShapes Go.WideShapes Go.ChangeAt Go.RowKit Go.Joins

/-- The names a and the times b of what was told so far, in two rows of the call's own. -/
def Two (w : World) (B : Nat) (a b : Value) (evs : List EvD) : Prop := OI w B a (evs.map (·.n)) ∧ OI w B b (evs.map (·.pl.src)) ∧ ∀ k, a.ownBlock = some k → b.ownBlock ≠ some k
def Own2 (a b : Value) (k : Nat) : Prop := a.ownBlock = some k ∨ b.ownBlock = some k
/-- From wk on only the rows a and b were written, or new ones. -/
structure Adds2 (wk w : World) (a b a' b' : Value) : Prop where
  fw : Fw (Own2 a b) wk w
  own : ∀ k, Own2 a' b' k → Own2 a b k ∨ wk.heap.size ≤ k

theorem Adds2.refl (w : World) (a b : Value) : Adds2 w w a b a b := ⟨Fw.refl _ _, fun _ h => .inl h⟩
theorem Adds2.below {wk w w' : World} {a b a' b' : Value} (h : Adds2 wk w a b a' b') (hb : Below w.heap.size w w') : Adds2 wk w' a b a' b' :=
  ⟨h.fw.trans (Fw.below (P := fun _ => False) hb) fun _ _ hf => hf.elim, h.own⟩
theorem Adds2.left {wk w w' : World} {a b a' b' a'' : Value} (h : Adds2 wk w a b a' b') (hg : w.grownBy w' a'.ownBlock) (hat : a''.ownBlock = a'.ownBlock ∨ ∃ k, a''.ownBlock = some k ∧ w.heap.size ≤ k) : Adds2 wk w' a b a'' b' := by
  have hs := h.fw.size
  refine ⟨h.fw.trans (Fw.grown (P := Own2 a' b') hg fun g hg _ => .inl hg) fun i hi ho => ?_, fun k hk => ?_⟩
  · rcases h.own i ho with h | h
    · exact h
    · omega
  · rcases hk with hk | hk
    · rcases hat with e | ⟨k', e, hk'⟩
      · exact h.own k (.inl (e.symm.trans hk))
      · rw [e] at hk; injection hk with hk; exact .inr (by omega)
    · exact h.own k (.inr hk)
theorem Adds2.right {wk w w' : World} {a b a' b' b'' : Value} (h : Adds2 wk w a b a' b') (hg : w.grownBy w' b'.ownBlock) (hat : b''.ownBlock = b'.ownBlock ∨ ∃ k, b''.ownBlock = some k ∧ w.heap.size ≤ k) : Adds2 wk w' a b a' b'' := by
  have hs := h.fw.size
  refine ⟨h.fw.trans (Fw.grown (P := Own2 a' b') hg fun g hg _ => .inr hg) fun i hi ho => ?_, fun k hk => ?_⟩
  · rcases h.own i ho with h | h
    · exact h
    · omega
  · rcases hk with hk | hk
    · exact h.own k (.inl hk)
    · rcases hat with e | ⟨k', e, hk'⟩
      · exact h.own k (.inr (e.symm.trans hk))
      · rw [e] at hk; injection hk with hk; exact .inr (by omega)
theorem Adds2.cellA {wk w : World} {a b a' b' : Value} {q : Nat} (h : Adds2 wk w a b a' b') (hq : q < wk.heap.size) (hn : ¬ Own2 a b q) (o : Nat) : w.cell? ⟨q, o, none⟩ = wk.cell? ⟨q, o, none⟩ := World.cell?_of_block (a := ⟨q, o, none⟩) (h.fw.block q hq hn)

theorem Two.below {w w' : World} {B : Nat} {a b : Value} {evs : List EvD} (h : Two w B a b evs) (hb : Below w.heap.size w w') : Two w' B a b evs :=
  ⟨h.1.below hb fun k hk => (h.1.lt k hk).2, h.2.1.below hb fun k hk => (h.2.1.lt k hk).2, h.2.2⟩
/-- A name more: the times are as they were. -/
theorem Two.mid {w w1 : World} {B : Nat} {a b : Value} {evs : List EvD} (h : Two w B a b evs) (g1 : w.grownBy w1 a.ownBlock) : OI w1 B b (evs.map (·.pl.src)) :=
  h.2.1.grown g1 (by
    cases hb : b.ownBlock with
    | none => exact .inl rfl
    | some k => exact .inr fun e => h.2.2 k e.symm hb)
theorem Two.more {w w1 w2 : World} {B : Nat} {a b a' b' : Value} {evs evs' : List EvD} {y k t : Int} (h : Two w B a b evs) (o1 : OI w1 B a' (evs.map (·.n) ++ [y])) (g1 : w.grownBy w1 a.ownBlock) (t1 : a'.ownBlock = a.ownBlock ∨ ∃ k, a'.ownBlock = some k ∧ w.heap.size ≤ k)
    (o2 : OI w2 B b' (evs.map (·.pl.src) ++ [t])) (g2 : w1.grownBy w2 b.ownBlock) (t2 : b'.ownBlock = b.ownBlock ∨ ∃ k, b'.ownBlock = some k ∧ w1.heap.size ≤ k) (he : evs' = evs ++ [⟨y, ⟨k, t⟩⟩]) : Two w2 B a' b' evs' := by
  have hd : ∀ k, a'.ownBlock = some k → b.ownBlock ≠ some k := fun k hk hb => by
    rcases t1 with e | ⟨k', e, hk'⟩
    · exact h.2.2 k (e.symm.trans hk) hb
    · rw [e] at hk
      injection hk with hk
      have := (h.2.1.lt k hb).2
      omega
  have hs1 := g1.size
  subst he
  refine ⟨?_, ?_, fun k hk hb => ?_⟩
  · rw [List.map_append]
    refine o1.grown g2 ?_
    cases ha : a'.ownBlock with
    | none => exact .inl rfl
    | some k => exact .inr fun e => hd k ha e.symm
  · rw [List.map_append]; exact o2
  · rcases t2 with e | ⟨k', e, hk'⟩
    · exact hd k hk (e.symm.trans hb)
    · rw [e] at hb
      injection hb with hb
      have := (o1.lt k hk).2
      omega
theorem Two.moreB {w w1 w5 w2 : World} {B : Nat} {a b a' b' : Value} {evs evs' : List EvD} {y k t : Int} (h : Two w B a b evs) (o1 : OI w1 B a' (evs.map (·.n) ++ [y])) (g1 : w.grownBy w1 a.ownBlock) (t1 : a'.ownBlock = a.ownBlock ∨ ∃ k, a'.ownBlock = some k ∧ w.heap.size ≤ k)
    (hb : Below w1.heap.size w1 w5) (o2 : OI w2 B b' (evs.map (·.pl.src) ++ [t])) (g2 : w5.grownBy w2 b.ownBlock) (t2 : b'.ownBlock = b.ownBlock ∨ ∃ k, b'.ownBlock = some k ∧ w5.heap.size ≤ k) (he : evs' = evs ++ [⟨y, ⟨k, t⟩⟩]) : Two w2 B a' b' evs' := by
  have hd : ∀ k, a'.ownBlock = some k → b.ownBlock ≠ some k := fun k hk hb => by
    rcases t1 with e | ⟨k', e, hk'⟩
    · exact h.2.2 k (e.symm.trans hk) hb
    · rw [e] at hk
      injection hk with hk
      have := (h.2.1.lt k hb).2
      omega
  have hs1 := g1.size
  have hs5 := hb.size
  have o5 := o1.below hb fun k hk => (o1.lt k hk).2
  subst he
  refine ⟨?_, ?_, fun k hk hb => ?_⟩
  · rw [List.map_append]
    refine o5.grown g2 ?_
    cases ha : a'.ownBlock with
    | none => exact .inl rfl
    | some k => exact .inr fun e => hd k ha e.symm
  · rw [List.map_append]; exact o2
  · rcases t2 with e | ⟨k', e, hk'⟩
    · exact hd k hk (e.symm.trans hb)
    · rw [e] at hb
      injection hb with hb
      have := (o1.lt k hk).2
      omega
theorem Two.to {w : World} {B : Nat} {a b : Value} {evs evs' : List EvD} (h : Two w B a b evs) (he : evs' = evs) : Two w B a b evs' := by rw [he]; exact h
theorem Two.len {evs : List EvD} (h : evs.length ≤ 1000000) : (evs.map (·.n)).length ≤ 1048576 ∧ (evs.map (·.pl.src)).length ≤ 1048576 := by simp; omega

def GivesTwo (evs : List EvD) (w : World) (e : Ending) (w' : World) : Prop := ∃ a b, e = .returned (.tuple #[a, b]) ∧ Two w' w.heap.size a b evs ∧ Below w.heap.size w w'
end

end Go.Proofs.YtnjmlhokkhkaaaaGreatDoor
