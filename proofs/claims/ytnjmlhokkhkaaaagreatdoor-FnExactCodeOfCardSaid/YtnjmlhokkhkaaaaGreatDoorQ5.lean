/- L2c, joined. -/
import Derived.Test.YtnjmlhokkhkaaaaGreatDoorQ3
namespace Go.Proofs.YtnjmlhokkhkaaaaGreatDoor

/- The model's l2Frame. -/
section
open Go.ChangeShapes Go.WideShapes Go.ChangeAt Go.RowKit Go.Joins

def FrameHead (f : FunD) : Prop := (1 ≤ f.blocks.length ∧ f.blocks.length ≤ 40) ∧ (0 ≤ f.names ∧ f.names ≤ 150) ∧ (0 ≤ f.params ∧ f.params ≤ 6) ∧ f.params ≤ f.names

theorem frame_not {f : FunD} {k : Nat} {x : BlockD} (hx : f.blocks[k]? = some x) (h : ¬ BlockP f.names f.blocks.length x) : ¬ FrameP f := fun hp => h (hp.2.2.2.2 k x hx)

theorem l1In_is (n a b : Int) (r : Bool) (w : World) (h : (decide (a ≤ n) && decide (n ≤ b)) = r) :
    Calls Tryz.prog 100 #[.int .i64 n, .int .i64 a, .int .i64 b] w fun e w' => e = .returned (.bool r) ∧ w = w' := by
  subst h
  exact l1In_any n a b w

set_option maxRecDepth 10000 in
set_option maxHeartbeats 1000000 in
theorem l2Frame_no (f : FunD) (u : Value) (w : World) (h : ¬ FrameHead f) (hu : ∃ A c, u = .slice A f.blocks.length c) (hle : f.blocks.length ≤ 9223372036854775807) :
    Calls Tryz.prog 59 #[.agg #[.int .i64 f.params, .int .i64 f.names, u]] w (GivesB (FrameP f) w) := by
  obtain ⟨A, c, rfl⟩ := hu
  have HN : Hid (¬ FrameP f) := fun hp => h ⟨hp.1, hp.2.1, hp.2.2.1, hp.2.2.2.1⟩
  have hB : Below w.heap.size w (w.alloc (.cells #[.int .i64 f.params, .int .i64 f.names, .slice A f.blocks.length c] 26)) := (Below.refl _ _).alloc (Nat.le_refl _) _
  by_cases h1 : 1 ≤ f.blocks.length
  case neg =>
    have h1' : (f.blocks.length : Int) < 1 := by omega
    clear h1 h
    go_enter Tryz.func59, Tryz.ntmps59
    go_wp2_with (go_at_call 100; refine (l1In_any _ _ _ _).mono ?_; rintro e w' ⟨rfl, rfl⟩)
    go_ret
    exact gives_no HN.out hB
  by_cases h2 : f.blocks.length ≤ 40
  case neg =>
    have h2' : (40 : Int) < (f.blocks.length : Int) := by omega
    clear h2 h
    go_enter Tryz.func59, Tryz.ntmps59
    go_wp2_with (go_at_call 100; refine (l1In_any _ _ _ _).mono ?_; rintro e w' ⟨rfl, rfl⟩)
    go_ret
    exact gives_no HN.out hB
  have h1' : 1 ≤ (f.blocks.length : Int) := by omega
  have h2' : (f.blocks.length : Int) ≤ 40 := by omega
  cases h3 : (decide (0 ≤ f.names) && decide (f.names ≤ 150))
  · have H3 := Lib.hid h3
    clear h h3
    go_enter Tryz.func59, Tryz.ntmps59
    go_wp2_with (go_at_call 100; (with_reducible refine (l1In_is f.names 0 150 _ _ H3.out).mono ?_); rintro e w' ⟨rfl, rfl⟩)
    go_ret
    exact gives_no HN.out hB
  have H3 := Lib.hid h3
  cases h4 : (decide (0 ≤ f.params) && decide (f.params ≤ 6))
  · have H4 := Lib.hid h4
    clear h h3 h4
    go_enter Tryz.func59, Tryz.ntmps59
    go_wp2_with (go_at_call 100; first | ((with_reducible refine (l1In_is f.names 0 150 _ _ H3.out).mono ?_); rintro e w' ⟨rfl, rfl⟩) | ((with_reducible refine (l1In_is f.params 0 6 _ _ H4.out).mono ?_); rintro e w' ⟨rfl, rfl⟩))
    go_ret
    exact gives_no HN.out hB
  have H4 := Lib.hid h4
  by_cases h5 : f.params ≤ f.names
  case pos => exact absurd ⟨⟨h1, h2⟩, by simpa using h3, by simpa using h4, h5⟩ h
  have h5' : f.names < f.params := by omega
  clear h h3 h4 h5
  go_enter Tryz.func59, Tryz.ntmps59
  go_wp2_with (go_at_call 100; first | ((with_reducible refine (l1In_is f.names 0 150 _ _ H3.out).mono ?_); rintro e w' ⟨rfl, rfl⟩) | ((with_reducible refine (l1In_is f.params 0 6 _ _ H4.out).mono ?_); rintro e w' ⟨rfl, rfl⟩))
  go_ret
  exact gives_no HN.out hB

/-- Where the ends' numbers are right. -/
def EndA (names : Int) (e : EndD) : Prop := e.k = 2 ∨ e.a < names

set_option maxRecDepth 10000 in
set_option maxHeartbeats 2000000 in
theorem l2Frame_yes (f : FunD) (u : Value) (w : World) (Z : Zn) (h : FrameHead f) (hu : Row w Z 8 (EBlock w Z) u f.blocks) (hD : ∀ b, Z.D b → b < w.heap.size) :
    Calls Tryz.prog 59 #[.agg #[.int .i64 f.params, .int .i64 f.names, u]] w (GivesB (FrameP f) w) := by
  obtain ⟨_, A, c, rfl, hx⟩ := hu
  have HH := Lib.hid h
  obtain ⟨⟨h1, h2⟩, h3, h4, h5⟩ := h
  have h1' : 1 ≤ (f.blocks.length : Int) := by omega
  have h2' : (f.blocks.length : Int) ≤ 40 := by omega
  have H3 : Hid ((decide (0 ≤ f.names) && decide (f.names ≤ 150)) = true) := by simpa [Hid] using h3
  have H4 : Hid ((decide (0 ≤ f.params) && decide (f.params ≤ 6)) = true) := by simpa [Hid] using h4
  obtain ⟨h3a, h3b⟩ := h3
  clear h4
  go_enter Tryz.func59, Tryz.ntmps59
  go_wp2_with (go_at_call 100; first | ((with_reducible refine (l1In_is f.names 0 150 _ _ H3.out).mono ?_); rintro e w' ⟨rfl, rfl⟩) | ((with_reducible refine (l1In_is f.params 0 6 _ _ H4.out).mono ?_); rintro e w' ⟨rfl, rfl⟩))
  clear H3 H4
  go_loopw [4] (fun i wr => ∃ k : Nat, k ≤ f.blocks.length ∧ i = .int .i64 k ∧ Hid (Below (w.heap.size + 1) (w.alloc (.cells #[.int .i64 f.params, .int .i64 f.names, .slice A f.blocks.length c] 26)) wr) ∧ Hid (∀ (j : Nat) x, j < k → f.blocks[j]? = some x → BlockP f.names f.blocks.length x)) (fun i _ => f.blocks.length - (intOf i).toNat)
  case atStart => exact ⟨0, Nat.zero_le _, rfl, Below.refl _ _, fun _ _ h => absurd h (by omega)⟩
  case round =>
    obtain ⟨k, hk, rfl, HB, H1⟩ := hrel
    have HB0 : Hid (Below w.heap.size w wr) := ((Below.refl _ _).alloc (Nat.le_refl _) _).trans (HB.out.mono (by omega))
    have hzw : w.heap.size + 1 ≤ wr.heap.size := by have := HB.out.size; simp at this; omega
    have f1 : wr.cell? ⟨w.heap.size, 1, none⟩ = some (.int .i64 f.names) := (HB.out.cell (p := ⟨w.heap.size, 1, none⟩) (by simp)).trans (by go_simp)
    have f2 : wr.cell? ⟨w.heap.size, 2, none⟩ = some (.slice A f.blocks.length c) := (HB.out.cell (p := ⟨w.heap.size, 2, none⟩) (by simp)).trans (by go_simp)
    by_cases hlt : k < f.blocks.length
    case neg =>
      obtain rfl : k = f.blocks.length := by omega
      go_wp2
      go_ret
      exact gives_yes ⟨HH.out.1, HH.out.2.1, HH.out.2.2.1, HH.out.2.2.2, fun j x hx => H1.out j x (List.getElem?_eq_some_iff.1 hx).1 hx⟩ HB0.out
    have hxk : f.blocks[k]? = some f.blocks[k] := List.getElem?_eq_getElem hlt
    generalize f.blocks[k] = x at hxk
    obtain ⟨b, off, rfl, hDb, hrow⟩ := hx (by intro h; rw [h] at hlt; simp at hlt)
    obtain ⟨cs, hE, hcs⟩ := hrow k x hxk
    have hbl := hD b hDb
    obtain ⟨_, _, _, _, rfl, hv0, hv1, hv2, hv3⟩ := hE
    have HV1 := Lib.hid hv1
    have HV2 := Lib.hid hv2
    have HV3 := Lib.hid hv3
    obtain ⟨_, A0, c0, rfl, _⟩ := hv0
    obtain ⟨_, A1, c1, rfl, _⟩ := hv1
    obtain ⟨_, A2, c2, rfl, _⟩ := hv2
    obtain ⟨_, A3, c3, rfl, _⟩ := hv3
    have c0 : wr.cell? ⟨b, off + k * 8, none⟩ = some (.slice A0 x.phis.length c0) := (HB0.out.cell (p := ⟨b, _, none⟩) hbl).trans (hcs 0 _ rfl).1
    have c1 : wr.cell? ⟨b, off + k * 8 + 1, none⟩ = some (.slice A1 x.head.length c1) := (HB0.out.cell (p := ⟨b, _, none⟩) hbl).trans (hcs 1 _ rfl).1
    have c2 : wr.cell? ⟨b, off + k * 8 + 2, none⟩ = some (.slice A2 x.body.length c2) := (HB0.out.cell (p := ⟨b, _, none⟩) hbl).trans (hcs 2 _ rfl).1
    have c3 : wr.cell? ⟨b, off + k * 8 + 3, none⟩ = some (.slice A3 x.tail.length c3) := (HB0.out.cell (p := ⟨b, _, none⟩) hbl).trans (hcs 3 _ rfl).1
    have c4 : wr.cell? ⟨b, off + k * 8 + 4, none⟩ = some (.int .i64 x.fin.k) := (HB0.out.cell (p := ⟨b, _, none⟩) hbl).trans (hcs 4 _ rfl).1
    have c5 : wr.cell? ⟨b, off + k * 8 + 5, none⟩ = some (.int .i64 x.fin.a) := (HB0.out.cell (p := ⟨b, _, none⟩) hbl).trans (hcs 5 _ rfl).1
    have c6 : wr.cell? ⟨b, off + k * 8 + 6, none⟩ = some (.int .i64 x.fin.t) := (HB0.out.cell (p := ⟨b, _, none⟩) hbl).trans (hcs 6 _ rfl).1
    have c7 : wr.cell? ⟨b, off + k * 8 + 7, none⟩ = some (.int .i64 x.fin.l) := (HB0.out.cell (p := ⟨b, _, none⟩) hbl).trans (hcs 7 _ rfl).1
    have Hxk := Lib.hid hxk
    have hl0 : w.heap.size < wr.heap.size := by omega
    have hl1 : w.heap.size < wr.heap.size + 1 := by omega
    clear hcs hx hxk hrow
    go_wp2_with fail
    refine (sEndOk_any _ _ _ _ _).mono ?_
    rintro e w1 ⟨rfl, hb1⟩
    have hz1 : wr.heap.size + 1 ≤ w1.heap.size := by have := hb1.size; simp at this; omega
    have HB1 := Lib.hid ((HB.out.alloc hzw _).trans (hb1.mono (by simp; omega)))
    have HB01 : Hid (Below w.heap.size w w1) := ((Below.refl _ _).alloc (Nat.le_refl _) _).trans (HB1.out.mono (by omega))
    obtain ⟨hc1, hf1⟩ := bcellB (hb1.mono (B' := wr.heap.size + 1) (by simp))
    clear hb1 hf1
    cases hok : endOkB x.fin.k x.fin.a x.fin.t x.fin.l
    · have HN : Hid (¬ FrameP f) := frame_not Hxk.out fun h => by have := h.1.1; rw [hok] at this; cases this
      go_wp2_with fail
      go_ret
      exact gives_no HN.out HB01.out
    have HOK := Lib.hid hok
    by_cases hA : EndA f.names x.fin
    case neg =>
      have HN : Hid (¬ FrameP f) := frame_not Hxk.out fun h => hA h.1.2.1
      have g1 : (x.fin.k != 2) = true := by simp; exact fun h => hA (.inl h)
      have g2 : f.names ≤ x.fin.a := by
        rcases Int.lt_or_le x.fin.a f.names with h | h
        · exact absurd (.inr h) hA
        · exact h
      clear hA
      go_wp2_with fail
      go_ret
      exact gives_no HN.out HB01.out
    have HA := Lib.hid hA
    have hA2 : ((x.fin.k != 2) = false) ∨ ((x.fin.k != 2) = true ∧ x.fin.a < f.names) := by
      by_cases hk2 : x.fin.k = 2
      · exact .inl (by simpa using hk2)
      · exact .inr ⟨by simpa using hk2, hA.resolve_left hk2⟩
    clear hA
    by_cases ht : x.fin.t < (f.blocks.length : Int)
    case neg =>
      have HN : Hid (¬ FrameP f) := frame_not Hxk.out fun h => ht h.1.2.2.1
      have ht' : (f.blocks.length : Int) ≤ x.fin.t := by omega
      clear ht
      rcases hA2 with g1 | ⟨g1, g2⟩
      all_goals
        go_wp2_with fail
        go_ret
        exact gives_no HN.out HB01.out
    by_cases hl : x.fin.l < (f.blocks.length : Int)
    case neg =>
      have HN : Hid (¬ FrameP f) := frame_not Hxk.out fun h => hl h.1.2.2.2
      have hl' : (f.blocks.length : Int) ≤ x.fin.l := by omega
      clear hl
      rcases hA2 with g1 | ⟨g1, g2⟩
      all_goals
        go_wp2_with fail
        go_ret
        exact gives_no HN.out HB01.out
    have HEP : Hid (EndP f.names f.blocks.length x.fin) := ⟨HOK.out, HA.out, ht, hl⟩
    rcases hA2 with g1 | ⟨g1, g2⟩
    all_goals
      go_wp2_with fail
      refine (l2Moves_any _ _ _ _ Z (HV1.out.keep (Kept.below HB01.out hD) fun _ _ h => h) (fun b hb => by have := hD b hb; omega) h3a h3b).mono ?_
      rintro e w2 ⟨r2, rfl, hr2, hb2⟩
      have HR2 := Lib.hid hr2
      have hz2 : wr.heap.size + 1 ≤ w2.heap.size := by have := hb2.size; omega
      have HB2 := Lib.hid (HB1.out.trans (hb2.mono (by omega)))
      have HB02 : Hid (Below w.heap.size w w2) := ((Below.refl _ _).alloc (Nat.le_refl _) _).trans (HB2.out.mono (by omega))
      obtain ⟨hc2, hf2⟩ := bcellB (hb2.mono (B' := wr.heap.size + 1) (by omega))
      clear hb2 hf2 hr2
      cases r2
      · have HN : Hid (¬ FrameP f) := frame_not Hxk.out fun h => by have := HR2.out.2 h.2.1; cases this
        go_wp2_with fail
        go_ret
        exact gives_no HN.out HB02.out
      have HP2 := Lib.hid (HR2.out.1 rfl)
      clear HR2
      go_wp2_with fail
      refine (l2Moves_any _ _ _ _ Z (HV3.out.keep (Kept.below HB02.out hD) fun _ _ h => h) (fun b hb => by have := hD b hb; omega) h3a h3b).mono ?_
      rintro e w3 ⟨r3, rfl, hr3, hb3⟩
      have HR3 := Lib.hid hr3
      have hz3 : wr.heap.size + 1 ≤ w3.heap.size := by have := hb3.size; omega
      have HB3 := Lib.hid (HB2.out.trans (hb3.mono (by omega)))
      have HB03 : Hid (Below w.heap.size w w3) := ((Below.refl _ _).alloc (Nat.le_refl _) _).trans (HB3.out.mono (by omega))
      obtain ⟨hc3, hf3⟩ := bcellB (hb3.mono (B' := wr.heap.size + 1) (by omega))
      clear hb3 hf3 hr3
      cases r3
      · have HN : Hid (¬ FrameP f) := frame_not Hxk.out fun h => by have := HR3.out.2 h.2.2.1; cases this
        go_wp2_with fail
        go_ret
        exact gives_no HN.out HB03.out
      have HP3 := Lib.hid (HR3.out.1 rfl)
      clear HR3
      go_wp2_with fail
      refine (l2Body_any _ _ _ _ Z (HV2.out.keep (Kept.below HB03.out hD) fun _ _ h => h) (fun b hb => by have := hD b hb; omega)).mono ?_
      rintro e w4 ⟨r4, rfl, hr4, hb4⟩
      have HR4 := Lib.hid hr4
      have hz4 : wr.heap.size + 1 ≤ w4.heap.size := by have := hb4.size; omega
      have HB4 := Lib.hid (HB3.out.trans (hb4.mono (by omega)))
      have HB04 : Hid (Below w.heap.size w w4) := ((Below.refl _ _).alloc (Nat.le_refl _) _).trans (HB4.out.mono (by omega))
      clear hb4 hr4
      cases r4
      · have HN : Hid (¬ FrameP f) := frame_not Hxk.out fun h => by have := HR4.out.2 h.2.2.2; cases this
        go_wp2_with fail
        go_ret
        exact gives_no HN.out HB04.out
      have HP4 := Lib.hid (HR4.out.1 rfl)
      clear HR4
      have H1' : Hid (∀ (j : Nat) y, j < k + 1 → f.blocks[j]? = some y → BlockP f.names f.blocks.length y) := fun j y hj hy => by
        by_cases hjk : j = k
        · subst hjk
          rw [Hxk.out] at hy
          injection hy with hy
          subst hy
          exact ⟨HEP.out, HP2.out, HP3.out, HP4.out⟩
        · exact H1.out j y (by omega) hy
      go_wp2_with fail
      go_roundw
      case rel => exact ⟨k + 1, by omega, by go_num, HB4, H1'⟩
      case measure => simp [intOf]; omega
end

end Go.Proofs.YtnjmlhokkhkaaaaGreatDoor
