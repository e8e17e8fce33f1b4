/- FnReckoned: at every draw of at most 4096 bytes the functions of chapter 1 answer as their models, and what is reckoned goes back; longer ones are true at once. -/
import Derived.Test.YtgnfiggofadmmaaDice
import Derived.Test.YtgnfiggofadmmaaLike
import Derived.Test.YtgnfiggofadmmaaReck
import Derived.Test.YtgnfiggofadmmaaUses
import Derived.Deep.RegionHeld3
namespace Go.Proofs.Ytgnfiggofadmmaa
open Go.ChangeShapes Go.WideShapes Go.ChangeAt Go.RowKit Go.Joins

theorem reck_back {x y : Int} (hx0 : 0 ≤ x) (hx1 : x < 1000003) (hy0 : 0 ≤ y) (hy1 : y < 1000003) : reckB 4 (reckB 3 x y) y = x := by
  have h1 : isValueB x = true := isValueB_iff.2 ⟨hx0, hx1⟩
  have h2 : isValueB y = true := isValueB_iff.2 ⟨hy0, hy1⟩
  have e3 : reckB 3 x y = (x + y) % 1000003 := by simp [reckB, h1, h2]
  have h3 : isValueB ((x + y) % 1000003) = true := isValueB_iff.2 ⟨by omega, by omega⟩
  rw [e3]
  have e4 : reckB 4 ((x + y) % 1000003) y = ((x + y) % 1000003 - y + 1000003) % 1000003 := by unfold reckB; rw [if_pos ⟨h3, h2⟩, if_neg (by omega), if_pos rfl]
  rw [e4]
  omega
theorem reck_less {x y : Int} (hx0 : 0 ≤ x) (hx1 : x < 1000003) (hy0 : 0 ≤ y) (hy1 : y < 1000003) : reckB 6 x y = lessB x y := by
  have h1 : isValueB x = true := isValueB_iff.2 ⟨hx0, hx1⟩
  have h2 : isValueB y = true := isValueB_iff.2 ⟨hy0, hy1⟩
  simp [reckB, h1, h2]
theorem reck_sum {x y : Int} (hx0 : 0 ≤ x) (hx1 : x < 1000003) (hy0 : 0 ≤ y) (hy1 : y < 1000003) : reckB 6 x y + reckB 6 y x = 1 - sameB x y := by
  rw [reck_less hx0 hx1 hy0 hy1, reck_less hy0 hy1 hx0 hx1]
  unfold lessB sameB
  split <;> split <;> split <;> omega
theorem reck_one {x : Int} (hx0 : 0 ≤ x) (hx1 : x < 1000003) : reckB 5 x 1 = x := by
  have h1 : isValueB x = true := isValueB_iff.2 ⟨hx0, hx1⟩
  have h2 : isValueB 1 = true := isValueB_iff.2 ⟨by omega, by omega⟩
  have e : reckB 5 x 1 = (x * 1) % 1000003 := by simp [reckB, h1, h2]
  rw [e]; omega
theorem reck_lt (o a b : Int) : reckB o a b < 1000003 := by
  unfold reckB lessB
  split
  · split
    · omega
    · split
      · omega
      · split
        · exact Int.emod_lt_of_pos _ (by omega)
        · split
          · split <;> omega
          · omega
  · omega
theorem less_01 (a b : Int) : 0 ≤ lessB a b ∧ lessB a b ≤ 1 := by unfold lessB; split <;> omega
theorem same_01 (a b : Int) : 0 ≤ sameB a b ∧ sameB a b ≤ 1 := by unfold sameB; split <;> omega

def Fine (w : World) (e : Ending) (w' : World) : Prop := e = .returned (.bool true) ∧ Below w.heap.size w w'

theorem below_of_grown {w w' : World} (h : w.grownBy w' none) : Below w.heap.size w w' := ⟨h.os, h.tape, h.output, h.size, fun k hk => h.block k hk (by simp)⟩

theorem keepS {w4 W w5 : World} {V : Nat} {o v a b : Int} {Q : Prop} (hS : Below w4.heap.size w4 W ∧ Q) (hV : InsB w4 V o v a b) (h5 : Below W.heap.size W w5) :
    Below w4.heap.size w4 w5 ∧ w5.cell? ⟨V, 0, none⟩ = some (.int .i64 o) ∧ w5.cell? ⟨V, 1, none⟩ = some (.int .i64 v) ∧ w5.cell? ⟨V, 2, none⟩ = some (.int .i64 a) ∧ w5.cell? ⟨V, 3, none⟩ = some (.int .i64 b) := by
  have hb := hS.1.trans (h5.mono hS.1.size)
  have h := (show InsB w5 V o v a b from (hb.block _ hV.lt).trans hV).cells.1
  exact ⟨hb, h.1, h.2.1, h.2.2.1, h.2.2.2⟩

set_option maxHeartbeats 2000000 in
theorem FnReckoned_any (v : Value) (n : Nat) (w : World) (hv : Code w w.heap.size v n) :
    Calls Try.prog 3 #[v] w (Fine w) := by
  have HV := Lib.hid hv
  obtain ⟨hn, A, c, rfl, -⟩ := hv
  go_enter Try.func3, Try.ntmps3
  go_wp2_with fail
  refine (big_no A n c _ hn).mono ?_
  rintro e w' ⟨rfl, rfl⟩
  go_wp2_with fail
  refine (DrawInsOk_any _ _ _ _ HV.out (Nat.le_refl _)).mono ?_
  rintro e w1 ⟨o, v, a, b, rfl, hg1⟩
  have HB1 := Lib.hid (below_of_grown hg1)
  clear hg1
  have hz1 := HB1.out.size
  go_wp2_with fail
  have hV : InsB (w1.alloc (.cells #[.int .i64 o, .int .i64 v, .int .i64 a, .int .i64 b] 25)) w1.heap.size o v a b := heap_alloc_new w1 _
  have hBa : Below w.heap.size w (w1.alloc (.cells #[.int .i64 o, .int .i64 v, .int .i64 a, .int .i64 b] 25)) := HB1.out.alloc hz1 _
  refine (DrawReckoned_any w.heap.size n _ _ (HV.out.keep fun b o hb => hBa.cell (p := ⟨b, o, none⟩) hb) (by simp; omega)).mono ?_
  rintro e w2 ⟨p, q, r, rfl, hg2⟩
  have hV2 : InsB w2 w1.heap.size o v a b := (hg2.block _ hV.lt (by simp)).trans hV
  have HB2 := Lib.hid (hBa.trans ((below_of_grown hg2).mono (by simp; omega)))
  have hz2 := hV2.lt
  have HV2 := Lib.hid hV2
  clear hg2 hV hBa hV2
  go_wp2_with fail
  refine (Reckoned_any p q r _).mono ?_
  rintro e w3 ⟨rfl, hb3⟩
  have hV3 : InsB w3 w1.heap.size o v a b := (hb3.block _ hz2).trans HV2.out
  have hz3 := hb3.size
  have HB3 := Lib.hid (HB2.out.trans (hb3.mono (by omega)))
  have HV3 := Lib.hid hV3
  clear hb3
  obtain ⟨⟨p0, p1, p2, p3⟩, -⟩ := hV3.cells
  clear hV3
  go_wp2_with fail
  refine (UsesOf_any _ _ _ _ _).mono ?_
  rintro e w4 ⟨u, rfl, hu, hb4⟩
  clear p0 p1 p2 p3
  have hV4 : InsB w4 w1.heap.size o v a b := (hb4.block _ (by omega)).trans HV3.out
  have hz4 := hb4.size
  have HB4 := Lib.hid (HB3.out.trans (hb4.mono (by omega)))
  have HV4 := Lib.hid hV4
  have HU4 := Lib.hid hu
  clear hb4 hu
  obtain ⟨⟨p0, p1, p2, p3⟩, -⟩ := hV4.cells
  clear hV4
  go_wp2_with fail
  have K4 := keepS ⟨Below.refl _ _, trivial⟩ HV4.out (Below.refl _ _)
  have K4d := keepS ⟨Below.refl _ _, trivial⟩ HV4.out ((Below.refl w4.heap.size w4).drew)
  go_region_held3 (fun w' => Below w4.heap.size w4 w' ∧ w'.cell? ⟨w1.heap.size, 0, none⟩ = some (.int .i64 o) ∧ w'.cell? ⟨w1.heap.size, 1, none⟩ = some (.int .i64 v) ∧ w'.cell? ⟨w1.heap.size, 2, none⟩ = some (.int .i64 a) ∧ w'.cell? ⟨w1.heap.size, 3, none⟩ = some (.int .i64 b)) (first | exact K4d | exact K4 | exact K5 | exact K6 | exact K8 | exact K9 | fail)
    (first
    | (go_at_call 12; refine (InsOk_any _ _ _ _ _).mono ?_; rintro e w5 ⟨rfl, hb5⟩; have K5 := keepS (by assumption) HV4.out hb5; clear hb5)
    | (go_at_call 13; refine (sInsOk_any _ _ _ _ _).mono ?_; rintro e w6 ⟨rfl, hb6⟩; have K6 := keepS (by assumption) HV4.out hb6; clear hb6)
    | (go_at_call 14; refine (sReckoned_any _ _ _ _).mono ?_; rintro e w7 ⟨rfl, rfl⟩)
    | (go_at_call 16; refine (sUsesOf_any _ _ _ _ _).mono ?_; rintro e w8 ⟨u', rfl, hu', hb8⟩; have K8 := keepS (by assumption) HV4.out hb8; have HU8 := Lib.hid hu'; clear hb8 hu')
    | (go_at_call 15; refine (likeInts_same _ _ _ _ (HU4.out.below K8.1 (fun k hk => (HU4.out.lt k hk).2)).ri HU8.out.ri).mono ?_; rintro e w9 ⟨rfl, n9, rfl⟩; have K9 := keepS K8 HV4.out (below_drewN (Below.refl _ _) n9)))
  go_wp2_with fail
  have HB9 := Lib.hid (HB4.out.trans (K9.1.mono (by omega)))
  have hz9 : w.heap.size ≤ (w8.drewN n9).heap.size := HB9.out.size
  clear K4 K4d K5 K6 K8 K9 HU8 HU4 HV4 HB4 HV3 HB3 HV2 HB2 HB1 p0 p1 p2 p3 hz1 hz2 hz3 hz4
  generalize hw9 : w8.drewN n9 = wr at *
  clear hw9
  refine (roll_any w.heap.size n _ 2 _ (HV.out.keep fun b o hb => HB9.out.cell (p := ⟨b, o, none⟩) hb) hz9).mono ?_
  rintro e w10 ⟨rfl, hd10, hg10⟩
  have HD10 := Lib.hid hd10
  have HB10 := Lib.hid (HB9.out.trans ((below_of_grown hg10).mono hz9))
  clear hd10 hg10
  go_wp2_with fail
  refine (below_any _ _ _ _ HD10.out (by omega)).mono ?_
  rintro e w11 ⟨x, rfl, hx0, hx1, hd11, hg11⟩
  have HD11 := Lib.hid hd11
  have HG11 := Lib.hid hg11
  clear hd11 hg11
  go_wp2_with fail
  refine (below_any _ _ _ _ HD11.out (by omega)).mono ?_
  rintro e w12 ⟨y, rfl, hy0, hy1, hd12, hg12⟩
  have HB12 : Hid (Below w.heap.size w w12) := (HB10.out.grown (HG11.out.trans hg12) (Nat.le_of_lt (Nat.lt_of_le_of_lt HD10.out.1 (dice_lt HD10.out))) (fun k hk => by injection hk; omega))
  have hz12 := HB12.out.size
  clear hd12 hg12 HD10 HD11 HG11 HB10 HB9
  have b1 : decide (reckB p q r < 1000003) = true := decide_eq_true (reck_lt p q r)
  have b2 : (reckB 4 (reckB 3 x y) y == x) = true := by rw [reck_back hx0 hx1 hy0 hy1]; simp
  have s1 := reck_less hx0 hx1 hy0 hy1
  have s2 := reck_less hy0 hy1 hx0 hx1
  have b3 : (lessB x y + lessB y x == 1 - sameB x y) = true := by have := reck_sum hx0 hx1 hy0 hy1; rw [s1, s2] at this; rw [this]; simp
  have b4 : (reckB 5 x 1 == x) = true := by rw [reck_one hx0 hx1]; simp
  have q1 := less_01 x y
  have q2 := less_01 y x
  have q3 := same_01 x y
  obtain ⟨q1a, q1b⟩ := q1
  obtain ⟨q2a, q2b⟩ := q2
  obtain ⟨q3a, q3b⟩ := q3
  go_wp2_with fail
  refine (Reckoned_any _ _ _ _).mono ?_
  rintro e w13 ⟨rfl, hb13⟩
  have hz13 := hb13.size
  have HB13 := Lib.hid (HB12.out.trans (hb13.mono hz12))
  clear hb13
  go_wp2_with fail
  refine (Reckoned_any _ _ _ _).mono ?_
  rintro e w14 ⟨rfl, hb14⟩
  have hz14 := hb14.size
  have HB14 := Lib.hid (HB13.out.trans (hb14.mono (by omega)))
  clear hb14
  go_wp2_with fail
  refine (Reckoned_any _ _ _ _).mono ?_
  rintro e w15 ⟨rfl, hb15⟩
  have hz15 := hb15.size
  have HB15 := Lib.hid (HB14.out.trans (hb15.mono (by omega)))
  clear hb15
  go_wp2_with fail
  refine (Reckoned_any _ _ _ _).mono ?_
  rintro e w16 ⟨rfl, hb16⟩
  have hz16 := hb16.size
  have HB16 := Lib.hid (HB15.out.trans (hb16.mono (by omega)))
  clear hb16
  go_wp2_with fail
  refine (same_any _ _ _).mono ?_
  rintro e w' ⟨rfl, rfl⟩
  go_wp2_with fail
  refine (Reckoned_any _ _ _ _).mono ?_
  rintro e w17 ⟨rfl, hb17⟩
  have hz17 := hb17.size
  have HB17 := Lib.hid (HB16.out.trans (hb17.mono (by omega)))
  clear hb17
  go_wp2_with fail
  go_ret
  exact ⟨rfl, HB17.out⟩

set_option maxHeartbeats 400000 in
theorem FnReckoned_big (A : Option Addr) (n c : Nat) (w : World) (h : 4096 < n) :
    Calls Try.prog 3 #[.slice A n c] w (Fine w) := by
  go_enter Try.func3, Try.ntmps3
  go_wp2_with fail
  refine (big_yes A n c _ h).mono ?_
  rintro e w' ⟨rfl, rfl⟩
  go_wp2_with fail
  go_ret
  exact ⟨rfl, Below.refl _ _⟩

set_option maxRecDepth 100000 in
theorem FnReckoned_lifted (os : Os) (started : os.Started) (H : Type) (enc : TypeId × Value → H) :
    ReturnsInHanded {} Try.checked os 3 .any (Rows.fnReckonedSpec.pre6 enc Try.prog Try.f3 Rows.fnReckonedRow.domain false) (Rows.fnReckonedSpec.post enc Try.prog Try.f3 false true false false) := by
  refine returnsInHanded_of_change (C := Try.checked) Try.own started (by kernel_rfl) Try.func3
    (ChangeSpec.witness6 (enc := enc) (C := Try.checked) false ⟨#[], #[.slice none 0 0], []⟩ 8 (by kernel_rfl) (by kernel_rfl) (by kernel_rfl) (by kernel_rfl)) ?_
  intro W base args ds gs before hval0 hW _ _
  have hval : ∀ (j : Nat) t v, Try.f3.params[j]? = some t → args[j]? = some v → Value.okWide Try.prog W .any base t v := hval0
  have hW' : DataW.Whole enc Try.prog Try.f3.params.toList Rows.fnReckonedSpec.vars false W args.toList ds gs before := hW
  have hlt := hW'.lt
  obtain ⟨p, q, hA, hV, rfl, _, _⟩ := hW'
  rw [Try.params3] at hA hval
  obtain ⟨v0, d0, rfl, rfl, h0⟩ := trodAll_one hA
  obtain ⟨rfl, rfl⟩ := trodVars_none hV
  obtain ⟨A, n, c, rfl, hc⟩ := code_open (hval 0 _ v0 rfl rfl) h0
  have walk : Calls Try.prog 3 #[.slice A n c] W (Fine W) := by
    by_cases hn : n ≤ 4096
    · exact FnReckoned_any _ n W (hc hn)
    · exact FnReckoned_big A n c W (by omega)
  refine walk.mono fun e W' ⟨he, hb⟩ => ⟨_, he, ?_⟩
  exact law_done (t := 4) Try.laidOut (by kernel_rfl) (by kernel_rfl) Try.underlying4 rfl hW ⟨rfl, rfl, rfl⟩ hb

theorem FnReckoned_holds : Rows.FnReckonedSaid :=
  OpenClaim.holds_of_wide 3 Try.f3 rfl rfl rfl rfl rfl rfl rfl ⟨rfl, rfl, rfl, rfl, rfl⟩ rfl rfl rfl rfl rfl (by kernel_rfl) Try.func3 (by kernel_rfl)
    (of_decide_eq_true (by kernel_rfl)) (by unfold Func.isWrapper; first | (rw [if_pos (by decide +kernel)]; kernel_rfl) | (rw [if_neg (by decide +kernel)]; exact ⟨rfl, rfl⟩))
    (fun os started H enc _ => FnReckoned_lifted os started H enc)

end Go.Proofs.Ytgnfiggofadmmaa
