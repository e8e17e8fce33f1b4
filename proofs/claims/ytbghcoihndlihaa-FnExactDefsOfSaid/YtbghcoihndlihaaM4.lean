/- ok of a block, by the program: all its parts, asked by their method values. -/
import Derived.Test.YtbghcoihndlihaaM3
import Derived.Laws.EntriesVeiled
namespace Go.Proofs.Ytbghcoihndlihaa
open Go.ChangeShapes Go.WideShapes Go.ChangeAt Go.RowKit Go.Joins

theorem parts_0 (B : Value) (w : World) : (Instr.index 103 (.agg #[.func (.func 64) #[B] #[], .func (.func 65) #[B] #[], .func (.func 66) #[B] #[], .func (.func 67) #[B] #[], .func (.func 68) #[B] #[]]) (.int .i64 0)).run Try.prog w = .ok (.func (.func 64) #[B] #[]) w := by kernel_rfl
theorem parts_1 (B : Value) (w : World) : (Instr.index 103 (.agg #[.func (.func 64) #[B] #[], .func (.func 65) #[B] #[], .func (.func 66) #[B] #[], .func (.func 67) #[B] #[], .func (.func 68) #[B] #[]]) (.int .i64 1)).run Try.prog w = .ok (.func (.func 65) #[B] #[]) w := by kernel_rfl
theorem parts_2 (B : Value) (w : World) : (Instr.index 103 (.agg #[.func (.func 64) #[B] #[], .func (.func 65) #[B] #[], .func (.func 66) #[B] #[], .func (.func 67) #[B] #[], .func (.func 68) #[B] #[]]) (.int .i64 2)).run Try.prog w = .ok (.func (.func 66) #[B] #[]) w := by kernel_rfl
theorem parts_3 (B : Value) (w : World) : (Instr.index 103 (.agg #[.func (.func 64) #[B] #[], .func (.func 65) #[B] #[], .func (.func 66) #[B] #[], .func (.func 67) #[B] #[], .func (.func 68) #[B] #[]]) (.int .i64 3)).run Try.prog w = .ok (.func (.func 67) #[B] #[]) w := by kernel_rfl
theorem parts_4 (B : Value) (w : World) : (Instr.index 103 (.agg #[.func (.func 64) #[B] #[], .func (.func 65) #[B] #[], .func (.func 66) #[B] #[], .func (.func 67) #[B] #[], .func (.func 68) #[B] #[]]) (.int .i64 4)).run Try.prog w = .ok (.func (.func 68) #[B] #[]) w := by kernel_rfl

def partP (names : Int) (blocks preds : Nat) (x : BlockD) : Nat → Prop
  | 0 => PhisP names preds x.phis
  | 1 => MovesP names x.head
  | 2 => BodyP names x.body
  | 3 => MovesP names x.tail
  | _ => EndP names blocks x.fin
def BlockAll (names : Int) (blocks preds : Nat) (x : BlockD) : Prop := PhisP names preds x.phis ∧ BlockP names blocks x
theorem all_parts {names : Int} {blocks preds : Nat} {x : BlockD} (h : ∀ j, j < 5 → partP names blocks preds x j) : BlockAll names blocks preds x :=
  ⟨h 0 (by omega), h 4 (by omega), h 1 (by omega), h 3 (by omega), h 2 (by omega)⟩
theorem part_of {names : Int} {blocks preds : Nat} {x : BlockD} (h : BlockAll names blocks preds x) : ∀ j, partP names blocks preds x j
  | 0 => h.1
  | 1 => h.2.2.1
  | 2 => h.2.2.2.2
  | 3 => h.2.2.2.1
  | _ + 4 => h.2.1

set_option maxRecDepth 10000 in
set_option maxHeartbeats 2000000 in
theorem ok_any (x : BlockD) (cs : List Value) (names : Int) (blocks preds : Nat) (w : World) (Z : Zn) (hv : EBlock w Z x cs) (hD : ∀ b, Z.D b → b < w.heap.size) (hnm : names ≤ 150) (hbk : 1 ≤ blocks) :
    Calls Try.prog 36 #[.agg cs.toArray, .agg #[.int .i64 names, .int .i64 blocks, .int .i64 preds]] w (GivesB (BlockAll names blocks preds x) w) := by
  have HV := Lib.hid hv
  obtain ⟨A0, c0, A1, c1, A2, c2, A3, c3, rfl, _, _, _, _⟩ := hv.parts
  clear hv
  go_enter Try.func36, Try.ntmps36
  go_wp2
  go_loopw [18] (fun i wr => ∃ k : Nat, k ≤ 5 ∧ i = .int .i64 k ∧ Hid (Below (w.heap.size + 2) ((w.alloc (.cells #[.slice A0 x.phis.length c0, .slice A1 x.head.length c1, .slice A2 x.body.length c2, .slice A3 x.tail.length c3, .int .i64 x.fin.k, .int .i64 x.fin.a, .int .i64 x.fin.t, .int .i64 x.fin.l] 66)).alloc (.cells #[.int .i64 names, .int .i64 blocks, .int .i64 preds] 80)) wr) ∧ Hid (∀ j, j < k → partP names blocks preds x j)) (fun i _ => 5 - (intOf i).toNat)
  case atStart => exact ⟨0, by omega, rfl, Below.refl _ _, fun _ h => absurd h (by omega)⟩
  case round =>
    obtain ⟨k, hk, rfl, HB, H1⟩ := hrel
    have HB0 : Hid (Below w.heap.size w wr) := (((Below.refl _ _).alloc (Nat.le_refl _) _).alloc (by simp) _).trans (HB.out.mono (by omega))
    have hzw : w.heap.size + 2 ≤ wr.heap.size := by have := HB.out.size; simp at this; omega
    have f0 : wr.cell? ⟨w.heap.size + 1, 0, none⟩ = some (.int .i64 names) := (HB.out.cell (p := ⟨w.heap.size + 1, 0, none⟩) (by simp)).trans (by go_simp)
    have f1 : wr.cell? ⟨w.heap.size + 1, 1, none⟩ = some (.int .i64 blocks) := (HB.out.cell (p := ⟨w.heap.size + 1, 1, none⟩) (by simp)).trans (by go_simp)
    have f2 : wr.cell? ⟨w.heap.size + 1, 2, none⟩ = some (.int .i64 preds) := (HB.out.cell (p := ⟨w.heap.size + 1, 2, none⟩) (by simp)).trans (by go_simp)
    have HVr := Lib.hid (HV.out.keep (Kept.below HB0.out hD))
    have hDr : ∀ b, Z.D b → b < wr.heap.size := fun b hb => by have := hD b hb; omega
    have HDr := Lib.hid hDr
    clear hDr
    by_cases h5 : k = 5
    · subst h5
      go_wp2
      go_ret
      exact gives_yes (all_parts H1.out) HB0.out
    have hstep : ∀ j, j = k → partP names blocks preds x j → ∀ i, i < k + 1 → partP names blocks preds x i := fun j hj hp i hi => by
      by_cases e : i = k
      · subst e; subst hj; exact hp
      · exact H1.out i (by omega)
    have HST := Lib.hid hstep
    clear hstep
    have hk' : k = 0 ∨ k = 1 ∨ k = 2 ∨ k = 3 ∨ k = 4 := by omega
    clear h5 hk
    rcases hk' with rfl | rfl | rfl | rfl | rfl
    · have tb := parts_0 (.agg ([.slice A0 x.phis.length c0, .slice A1 x.head.length c1, .slice A2 x.body.length c2, .slice A3 x.tail.length c3, .int .i64 x.fin.k, .int .i64 x.fin.a, .int .i64 x.fin.t, .int .i64 x.fin.l] : List Value).toArray)
      go_wp2_with fail
      refine (phisOk_any x _ names blocks preds _ Z HVr.out HDr.out).mono ?_
      rintro e w1 ⟨r, rfl, hr, hb1⟩
      have HR := Lib.hid hr
      have HB1 := Lib.hid (HB.out.trans (hb1.mono hzw))
      have HB01 := Lib.hid (HB0.out.trans (hb1.mono HB0.out.size))
      clear hb1 hr tb
      cases r
      · have HN : Hid (¬ BlockAll names blocks preds x) := fun h => by have := HR.out.2 (part_of h 0); cases this
        go_wp2_with fail
        go_ret
        exact gives_no HN.out HB01.out
      · have HP := Lib.hid (HR.out.1 rfl)
        clear HR
        go_wp2_with fail
        go_roundw
        case rel => exact ⟨0 + 1, by omega, by go_num, HB1, HST.out 0 rfl HP.out⟩
        case measure => simp [intOf]
    · have tb := parts_1 (.agg ([.slice A0 x.phis.length c0, .slice A1 x.head.length c1, .slice A2 x.body.length c2, .slice A3 x.tail.length c3, .int .i64 x.fin.k, .int .i64 x.fin.a, .int .i64 x.fin.t, .int .i64 x.fin.l] : List Value).toArray)
      go_wp2_with fail
      refine (headOk_any x _ names blocks preds _ Z HVr.out HDr.out hnm).mono ?_
      rintro e w1 ⟨r, rfl, hr, hb1⟩
      have HR := Lib.hid hr
      have HB1 := Lib.hid (HB.out.trans (hb1.mono hzw))
      have HB01 := Lib.hid (HB0.out.trans (hb1.mono HB0.out.size))
      clear hb1 hr tb
      cases r
      · have HN : Hid (¬ BlockAll names blocks preds x) := fun h => by have := HR.out.2 (part_of h 1); cases this
        go_wp2_with fail
        go_ret
        exact gives_no HN.out HB01.out
      · have HP := Lib.hid (HR.out.1 rfl)
        clear HR
        go_wp2_with fail
        go_roundw
        case rel => exact ⟨1 + 1, by omega, by go_num, HB1, HST.out 1 rfl HP.out⟩
        case measure => simp [intOf]
    · have tb := parts_2 (.agg ([.slice A0 x.phis.length c0, .slice A1 x.head.length c1, .slice A2 x.body.length c2, .slice A3 x.tail.length c3, .int .i64 x.fin.k, .int .i64 x.fin.a, .int .i64 x.fin.t, .int .i64 x.fin.l] : List Value).toArray)
      go_wp2_with fail
      refine (bodyOk_any x _ names blocks preds _ Z HVr.out HDr.out).mono ?_
      rintro e w1 ⟨r, rfl, hr, hb1⟩
      have HR := Lib.hid hr
      have HB1 := Lib.hid (HB.out.trans (hb1.mono hzw))
      have HB01 := Lib.hid (HB0.out.trans (hb1.mono HB0.out.size))
      clear hb1 hr tb
      cases r
      · have HN : Hid (¬ BlockAll names blocks preds x) := fun h => by have := HR.out.2 (part_of h 2); cases this
        go_wp2_with fail
        go_ret
        exact gives_no HN.out HB01.out
      · have HP := Lib.hid (HR.out.1 rfl)
        clear HR
        go_wp2_with fail
        go_roundw
        case rel => exact ⟨2 + 1, by omega, by go_num, HB1, HST.out 2 rfl HP.out⟩
        case measure => simp [intOf]
    · have tb := parts_3 (.agg ([.slice A0 x.phis.length c0, .slice A1 x.head.length c1, .slice A2 x.body.length c2, .slice A3 x.tail.length c3, .int .i64 x.fin.k, .int .i64 x.fin.a, .int .i64 x.fin.t, .int .i64 x.fin.l] : List Value).toArray)
      go_wp2_with fail
      refine (tailOk_any x _ names blocks preds _ Z HVr.out HDr.out hnm).mono ?_
      rintro e w1 ⟨r, rfl, hr, hb1⟩
      have HR := Lib.hid hr
      have HB1 := Lib.hid (HB.out.trans (hb1.mono hzw))
      have HB01 := Lib.hid (HB0.out.trans (hb1.mono HB0.out.size))
      clear hb1 hr tb
      cases r
      · have HN : Hid (¬ BlockAll names blocks preds x) := fun h => by have := HR.out.2 (part_of h 3); cases this
        go_wp2_with fail
        go_ret
        exact gives_no HN.out HB01.out
      · have HP := Lib.hid (HR.out.1 rfl)
        clear HR
        go_wp2_with fail
        go_roundw
        case rel => exact ⟨3 + 1, by omega, by go_num, HB1, HST.out 3 rfl HP.out⟩
        case measure => simp [intOf]
    · have tb := parts_4 (.agg ([.slice A0 x.phis.length c0, .slice A1 x.head.length c1, .slice A2 x.body.length c2, .slice A3 x.tail.length c3, .int .i64 x.fin.k, .int .i64 x.fin.a, .int .i64 x.fin.t, .int .i64 x.fin.l] : List Value).toArray)
      go_wp2_with fail
      refine (endOk_any x _ names blocks preds _ Z HVr.out hbk).mono ?_
      rintro e w1 ⟨r, rfl, hr, hb1⟩
      have HR := Lib.hid hr
      have HB1 := Lib.hid (HB.out.trans (hb1.mono hzw))
      have HB01 := Lib.hid (HB0.out.trans (hb1.mono HB0.out.size))
      clear hb1 hr tb
      cases r
      · have HN : Hid (¬ BlockAll names blocks preds x) := fun h => by have := HR.out.2 (part_of h 4); cases this
        go_wp2_with fail
        go_ret
        exact gives_no HN.out HB01.out
      · have HP := Lib.hid (HR.out.1 rfl)
        clear HR
        go_wp2_with fail
        go_roundw
        case rel => exact ⟨4 + 1, by omega, by go_num, HB1, HST.out 4 rfl HP.out⟩
        case measure => simp [intOf]

end Go.Proofs.Ytbghcoihndlihaa
