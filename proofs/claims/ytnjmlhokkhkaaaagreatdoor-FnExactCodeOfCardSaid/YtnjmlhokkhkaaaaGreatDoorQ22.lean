/- CodeQ, CodeL, ErrIs, CodeF, joined. -/
import Derived.Test.YtnjmlhokkhkaaaaGreatDoorQ1
import Derived.Test.YtnjmlhokkhkaaaaGreatDoorQ21
import Derived.Deep.DeepCutAuto
import Derived.WalkKit
import Derived.LaidEql
import Derived.Stop.Asserts
import Derived.RowKitTokens
namespace Go.Proofs.YtnjmlhokkhkaaaaGreatDoor

/- hasMoves and isLarge of the program, l5Large of the model; what a function's code is. -/
section
open Go.ChangeShapes Go.WideShapes Go.ChangeAt Go.RowKit Go.Joins

def BMoves (x : BlockD) : Prop := 0 < x.head.length ∨ 0 < x.tail.length
def MovesIn (f : FunD) : Prop := ∃ (k : Nat) (x : BlockD), f.blocks[k]? = some x ∧ BMoves x
def argsP (l : List PhiD) : Nat := (l.map fun p => p.args.length).sum
def argsK (f : FunD) (k : Nat) : Nat := ((f.blocks.take k).map fun x => argsP x.phis).sum
theorem argsP_take {l : List PhiD} {k : Nat} {p : PhiD} (h : l[k]? = some p) : argsP (l.take (k + 1)) = argsP (l.take k) + p.args.length := by
  unfold argsP
  rw [take_snoc h, List.map_append, List.sum_append]
  simp
theorem argsK_succ {f : FunD} {k : Nat} {x : BlockD} (h : f.blocks[k]? = some x) : argsK f (k + 1) = argsK f k + argsP x.phis := by
  unfold argsK
  rw [take_snoc h, List.map_append, List.sum_append]
  simp
theorem argsP_le {l : List PhiD} (h : ∀ (j : Nat) p, l[j]? = some p → p.args.length ≤ 40) : ∀ k, argsP (l.take k) ≤ 40 * k
  | 0 => by simp [argsP]
  | k + 1 => by
    have ih := argsP_le h k
    cases hx : l[k]? with
    | some p => have := h k p hx; rw [argsP_take hx]; omega
    | none => rw [List.take_of_length_le (by rw [List.getElem?_eq_none_iff] at hx; omega)]; rw [List.take_of_length_le (by rw [List.getElem?_eq_none_iff] at hx; omega)] at ih; omega
theorem phis_le {f : FunD} (hp : FunP f) {k : Nat} {x : BlockD} (hx : f.blocks[k]? = some x) : argsP x.phis ≤ 160 ∧ x.phis.length ≤ 4 ∧ ∀ (j : Nat) p, x.phis[j]? = some p → p.args.length ≤ 40 := by
  have h := hp.2.2.2 k x hx
  have h40 := hp.1.1.2
  have hl := predsF_len f k
  have hq : ∀ (j : Nat) p, x.phis[j]? = some p → p.args.length ≤ 40 := fun j p hj => by have := (h.2 j p hj).2.1; omega
  have h1 := argsP_le hq x.phis.length
  rw [List.take_length] at h1
  have h4 := h.1
  exact ⟨by omega, h4, hq⟩
theorem argsK_le {f : FunD} (hp : FunP f) : ∀ k, argsK f k ≤ 160 * k
  | 0 => by simp [argsK]
  | k + 1 => by
    have ih := argsK_le hp k
    cases hx : f.blocks[k]? with
    | some x => have := (phis_le hp hx).1; rw [argsK_succ hx]; omega
    | none =>
      unfold argsK at ih ⊢
      rw [List.take_of_length_le (by rw [List.getElem?_eq_none_iff] at hx; omega)]
      rw [List.take_of_length_le (by rw [List.getElem?_eq_none_iff] at hx; omega)] at ih
      omega
def LongIn (f : FunD) : Prop := ∃ (k : Nat) (x : BlockD), f.blocks[k]? = some x ∧ 12 < x.body.length
def LargeP (f : FunD) : Prop := LongIn f ∨ 40 < f.names ∨ 12 < f.blocks.length ∨ 50 < argsK f f.blocks.length
/-- What CodeOf answers. -/
def CodeG (f : FunD) (c : Int) : Prop := (¬ FunP f ∧ c = 1) ∨ (FunP f ∧ ((MovesIn f ∧ c = 2) ∨ (¬ MovesIn f ∧ ∃ c0, CodeP f c0 ∧ ((c0 ≠ 0 ∧ c = c0) ∨ (c0 = 0 ∧ ((LargeP f ∧ c = 6) ∨ (¬ LargeP f ∧ c = 0)))))))
theorem CodeG.one {f : FunD} {c c' : Int} (h : CodeG f c) (h' : CodeG f c') : c = c' := by
  rcases h with ⟨a, rfl⟩ | ⟨a, h⟩ <;> rcases h' with ⟨b, rfl⟩ | ⟨b, h'⟩
  · rfl
  · exact absurd b a
  · exact absurd a b
  · rcases h with ⟨p, rfl⟩ | ⟨p, c0, hc, h⟩ <;> rcases h' with ⟨q, rfl⟩ | ⟨q, c1, hd, h'⟩
    · rfl
    · exact absurd p q
    · exact absurd q p
    · have e := hc.one hd
      subst e
      rcases h with ⟨r, rfl⟩ | ⟨r, h⟩ <;> rcases h' with ⟨t, rfl⟩ | ⟨t, h'⟩
      · rfl
      · exact absurd t r
      · exact absurd r t
      · rcases h with ⟨u, rfl⟩ | ⟨u, rfl⟩ <;> rcases h' with ⟨y, rfl⟩ | ⟨y, rfl⟩
        · rfl
        · exact absurd u y
        · exact absurd y u
        · rfl

set_option maxHeartbeats 1000000 in
theorem moves1_any (A0 A1 A2 A3 : Option Addr) (n0 c0 n1 c1 n2 c2 n3 c3 : Nat) (a b c d : Int) (w : World) :
    Calls Tryz.prog 110 #[.agg #[.slice A0 n0 c0, .slice A1 n1 c1, .slice A2 n2 c2, .slice A3 n3 c3, .int .i64 a, .int .i64 b, .int .i64 c, .int .i64 d]] w (GivesB (0 < n1 ∨ 0 < n3) w) := by
  have hB : Below w.heap.size w (w.alloc (.cells #[.slice A0 n0 c0, .slice A1 n1 c1, .slice A2 n2 c2, .slice A3 n3 c3, .int .i64 a, .int .i64 b, .int .i64 c, .int .i64 d] 60)) := (Below.refl _ _).alloc (Nat.le_refl _) _
  have HB := Lib.hid hB
  clear hB
  by_cases h1 : 0 < n1
  · have HY : Hid (0 < n1 ∨ 0 < n3) := .inl h1
    have h1' : 0 < (n1 : Int) := by omega
    clear h1
    go_enter Tryz.func110, Tryz.ntmps110
    go_wp2_with fail
    go_ret
    exact gives_yes HY.out HB.out
  · have h1' : n1 = 0 := by omega
    subst h1'
    clear h1
    go_enter Tryz.func110, Tryz.ntmps110
    go_wp2_with fail
    go_ret
    exact ⟨decide (0 < n3), rfl, by simp, HB.out⟩

set_option maxHeartbeats 2000000 in
theorem IndexM_any (f : FunD) (v : Value) (w : World) (Z : Zn) (hv : Row w Z 8 (EBlock w Z) v f.blocks) (hD : ∀ b, Z.D b → b < w.heap.size) :
    Calls Tryz.prog 139 #[v, .func (.func 110) #[] #[]] w fun e w' => ∃ k : Int, e = .returned (.int .i64 k) ∧ Hid (0 ≤ k ↔ MovesIn f) ∧ Below w.heap.size w w' := by
  obtain ⟨hl, A, c, rfl, hx⟩ := hv
  have HX := Lib.hid hx
  have HD := Lib.hid hD
  clear hx hD
  go_enter Tryz.func139, Tryz.ntmps139
  go_wp2_with fail
  go_loopw [8] (fun q wr => ∃ k : Nat, k ≤ f.blocks.length ∧ q = .int .i64 k ∧ Hid (Below w.heap.size w wr) ∧ Hid (∀ (j : Nat) x, j < k → f.blocks[j]? = some x → ¬ BMoves x)) (fun q _ => f.blocks.length - (intOf q).toNat)
  case atStart => exact ⟨0, Nat.zero_le _, rfl, Below.refl _ _, fun _ _ h => absurd h (by omega)⟩
  case round =>
    obtain ⟨k, hk, rfl, HB, HF⟩ := hrel
    by_cases hkl : k < f.blocks.length
    case neg =>
      obtain rfl : k = f.blocks.length := by omega
      have HE : Hid ((0 : Int) ≤ -1 ↔ MovesIn f) := by
        constructor
        · intro h; omega
        · rintro ⟨j, x, hj, hb⟩
          exact absurd hb (HF.out j x (List.getElem?_eq_some_iff.1 hj).1 hj)
      go_wp2_with fail
      go_ret
      exact ⟨-1, rfl, HE, HB.out⟩
    have hxk : f.blocks[k]? = some f.blocks[k] := List.getElem?_eq_getElem hkl
    generalize f.blocks[k] = x at hxk
    obtain ⟨b, off, rfl, hDb, hr8⟩ := HX.out (by intro e; rw [e] at hkl; simp at hkl)
    obtain ⟨cs, hE, hcs⟩ := hr8 k x hxk
    obtain ⟨v0, v1, v2, v3, rfl, hr0, hr1, hr2, hr3⟩ := hE
    obtain ⟨_, A0, c0, rfl, _⟩ := hr0
    obtain ⟨_, A1, c1, rfl, _⟩ := hr1
    obtain ⟨_, A2, c2, rfl, _⟩ := hr2
    obtain ⟨_, A3, c3, rfl, _⟩ := hr3
    have hbl := HD.out b hDb
    have hcw : ∀ j u, ([Value.slice A0 x.phis.length c0, .slice A1 x.head.length c1, .slice A2 x.body.length c2, .slice A3 x.tail.length c3, .int .i64 x.fin.k, .int .i64 x.fin.a, .int .i64 x.fin.t, .int .i64 x.fin.l] : List Value)[j]? = some u → wr.cell? ⟨b, off + k * 8 + j, none⟩ = some u := fun j u hu => (HB.out.cell (p := ⟨b, _, none⟩) hbl).trans (hcs j u hu).1
    have b0 := hcw 0 _ rfl
    have b1 := hcw 1 _ rfl
    have b2 := hcw 2 _ rfl
    have b3 := hcw 3 _ rfl
    have b4 := hcw 4 _ rfl
    have b5 := hcw 5 _ rfl
    have b6 := hcw 6 _ rfl
    have b7 := hcw 7 _ rfl
    rw [Nat.add_zero] at b0
    have hkl' : (k : Int) < (f.blocks.length : Int) := by omega
    have Hxk := Lib.hid hxk
    clear hcs hr8 hxk hcw
    go_wp2_with fail
    refine (moves1_any _ _ _ _ _ _ _ _ _ _ _ _ _ _ _ _ _).mono ?_
    rintro e w2 ⟨r, rfl, hr, hb2⟩
    have HR := Lib.hid hr
    have HB2 : Hid (Below w.heap.size w w2) := HB.out.trans (hb2.mono HB.out.size)
    clear hb2 hr b0 b1 b2 b3 b4 b5 b6 b7
    cases r
    · have HF' : Hid (∀ (j : Nat) x, j < k + 1 → f.blocks[j]? = some x → ¬ BMoves x) := fun j y hj hy => by
        by_cases e : j = k
        · subst e
          rw [Hxk.out] at hy
          injection hy with hy
          subst hy
          intro h
          have := HR.out.2 h
          cases this
        · exact HF.out j y (by omega) hy
      go_wp2_with fail
      go_roundw
      case rel => exact ⟨k + 1, by omega, by go_num, HB2.out, HF'.out⟩
      case measure => simp [intOf]; omega
    · have HE : Hid ((0 : Int) ≤ k ↔ MovesIn f) := ⟨fun _ => ⟨k, x, Hxk.out, HR.out.1 rfl⟩, fun _ => by omega⟩
      go_wp2_with fail
      go_ret
      exact ⟨k, rfl, HE, HB2.out⟩

set_option maxHeartbeats 1000000 in
theorem hasMoves_any (f : FunD) (v : Value) (w : World) (Z : Zn) (hv : EFun w Z f v) (hD : ∀ b, Z.D b → b < w.heap.size) : Calls Tryz.prog 72 #[v] w (GivesB (MovesIn f) w) := by
  obtain ⟨u, rfl, hu⟩ := hv
  have HU := Lib.hid hu
  obtain ⟨_, A, c, rfl, _⟩ := hu
  have hB : Below w.heap.size w (w.alloc (.cells #[.int .i64 f.params, .int .i64 f.names, .slice A f.blocks.length c] 26)) := (Below.refl _ _).alloc (Nat.le_refl _) _
  have HB := Lib.hid hB
  have HR := Lib.hid (HU.out.keep (Kept.below hB hD) fun _ _ h => EBlock.keep h (Kept.below hB hD))
  clear hB
  go_enter Tryz.func72, Tryz.ntmps72
  go_wp2_with (first
    | (go_at_call 109; go_enter Tryz.func109, Tryz.ntmps109)
    | (go_at_call 139; refine (IndexM_any f _ _ Z HR.out (fun b hb => by have := hD b hb; simp; omega)).mono ?_; rintro e w2 ⟨k, rfl, hk, hb2⟩; have HK := Lib.hid hk; have HB2 : Hid (Below w.heap.size w w2) := HB.out.trans (hb2.mono (by simp)); clear hk hb2))
  go_ret
  exact ⟨decide (0 ≤ k), rfl, by rw [decide_eq_true_iff]; exact HK.out.out, HB2.out⟩
end

/- isLarge of the program. -/
section
open Go.ChangeShapes Go.WideShapes Go.ChangeAt Go.RowKit Go.Joins

set_option maxRecDepth 10000 in
set_option maxHeartbeats 2000000 in
theorem isLarge_any (f : FunD) (v : Value) (w : World) (Z : Zn) (hp : FunP f) (hv : EFun w Z f v) (hD : ∀ b, Z.D b → b < w.heap.size) : Calls Tryz.prog 73 #[v] w (GivesB (LargeP f) w) := by
  obtain ⟨u, rfl, hu⟩ := hv
  obtain ⟨_, A, c, rfl, hx⟩ := hu
  have HX := Lib.hid hx
  have HP := Lib.hid hp
  have HD := Lib.hid hD
  have h40 := hp.1.1.2
  have hB : Below w.heap.size w (w.alloc (.cells #[.int .i64 f.params, .int .i64 f.names, .slice A f.blocks.length c] 26)) := (Below.refl _ _).alloc (Nat.le_refl _) _
  have k0 : (w.alloc (.cells #[.int .i64 f.params, .int .i64 f.names, .slice A f.blocks.length c] 26)).cell? ⟨w.heap.size, 0, none⟩ = some (.int .i64 f.params) := by go_simp
  have k1 : (w.alloc (.cells #[.int .i64 f.params, .int .i64 f.names, .slice A f.blocks.length c] 26)).cell? ⟨w.heap.size, 1, none⟩ = some (.int .i64 f.names) := by go_simp
  have k2 : (w.alloc (.cells #[.int .i64 f.params, .int .i64 f.names, .slice A f.blocks.length c] 26)).cell? ⟨w.heap.size, 2, none⟩ = some (.slice A f.blocks.length c) := by go_simp
  have hs0 : (w.alloc (.cells #[.int .i64 f.params, .int .i64 f.names, .slice A f.blocks.length c] 26)).heap.size = w.heap.size + 1 := by simp
  clear hx hp hD
  go_enter Tryz.func73, Tryz.ntmps73
  go_wp2_with fail
  obtain ⟨F, hF⟩ : ∃ F, F = w.heap.size := ⟨_, rfl⟩
  rw [← hF] at k0 k1 k2 hs0 ⊢
  generalize w.alloc (.cells #[.int .i64 f.params, .int .i64 f.names, .slice A f.blocks.length c] 26) = w0 at *
  have HB0 := Lib.hid hB
  have hFl : F < w0.heap.size := by omega
  have hw0 : w.heap.size ≤ w0.heap.size := hB.size
  have HK : Hid (∀ w', Below w0.heap.size w0 w' → w'.cell? ⟨F, 1, none⟩ = some (.int .i64 f.names) ∧ w'.cell? ⟨F, 2, none⟩ = some (.slice A f.blocks.length c)) := fun w' hb => ⟨(hb.cell (p := ⟨F, 1, none⟩) hFl).trans k1, (hb.cell (p := ⟨F, 2, none⟩) hFl).trans k2⟩
  clear hB k0 k1 k2 hF hs0
  go_loopw [3, 11] (fun a i wr => ∃ k : Nat, k ≤ f.blocks.length ∧ i = .int .i64 k ∧ a = .int .i64 (argsK f k : Nat) ∧ Hid (Below w0.heap.size w0 wr) ∧ Hid (∀ (j : Nat) x, j < k → f.blocks[j]? = some x → ¬ 12 < x.body.length)) (fun _ i _ => f.blocks.length - (intOf i).toNat)
  case atStart => exact ⟨0, Nat.zero_le _, rfl, rfl, Below.refl _ _, fun _ _ h => absurd h (by omega)⟩
  case round =>
    obtain ⟨k, hk, rfl, ha, HB, HF⟩ := hrel
    obtain ⟨ac, hac⟩ : ∃ ac : Nat, ac = argsK f k := ⟨_, rfl⟩
    have HAC := Lib.hid hac
    have hal := argsK_le HP.out k
    rw [← hac] at ha hal
    have ha' : u3 = .int .i64 ac := ha
    clear ha hac
    subst ha'
    have HBw : Hid (Below w.heap.size w wr) := HB0.out.trans (HB.out.mono hw0)
    by_cases hkl : k < f.blocks.length
    case neg =>
      obtain rfl : k = f.blocks.length := by omega
      obtain ⟨f1, f2⟩ := HK.out wr HB.out
      have HNL : Hid (¬ LongIn f) := fun ⟨j, x, hj, hb⟩ => HF.out j x (List.getElem?_eq_some_iff.1 hj).1 hj hb
      by_cases h1 : 40 < f.names
      · have HY : Hid (LargeP f) := .inr (.inl h1)
        go_wp2_with fail
        go_ret
        exact gives_yes HY.out HBw.out
      by_cases h2 : 12 < f.blocks.length
      · have HY : Hid (LargeP f) := .inr (.inr (.inl h2))
        have h2' : 12 < (f.blocks.length : Int) := by omega
        go_wp2_with fail
        go_ret
        exact gives_yes HY.out HBw.out
      have h2' : ¬ 12 < (f.blocks.length : Int) := by omega
      by_cases h3 : 50 < ac
      · have HY : Hid (LargeP f) := .inr (.inr (.inr (by rw [← HAC.out]; exact h3)))
        have h3' : 50 < (ac : Int) := by omega
        go_wp2_with fail
        go_ret
        exact gives_yes HY.out HBw.out
      · have HN : Hid (¬ LargeP f) := fun h => by
          rcases h with h | h | h | h
          · exact HNL.out h
          · exact h1 h
          · exact h2 h
          · rw [← HAC.out] at h; exact h3 h
        have h3' : ¬ 50 < (ac : Int) := by omega
        go_wp2_with fail
        go_ret
        exact gives_no HN.out HBw.out
    have hxk : f.blocks[k]? = some f.blocks[k] := List.getElem?_eq_getElem hkl
    generalize f.blocks[k] = x at hxk
    obtain ⟨b, off, rfl, hDb, hr8⟩ := HX.out (by intro e; rw [e] at hkl; simp at hkl)
    obtain ⟨cs, hE, hcs⟩ := hr8 k x hxk
    obtain ⟨v0, v1, v2, v3, rfl, hr0, hr1, hr2, hr3⟩ := hE
    obtain ⟨_, A0, c0, rfl, h0⟩ := hr0
    have H0 := Lib.hid h0
    obtain ⟨_, A1, c1, rfl, _⟩ := hr1
    obtain ⟨_, A2, c2, rfl, _⟩ := hr2
    obtain ⟨_, A3, c3, rfl, _⟩ := hr3
    have hbl := HD.out b hDb
    have hcw : ∀ j u, ([Value.slice A0 x.phis.length c0, .slice A1 x.head.length c1, .slice A2 x.body.length c2, .slice A3 x.tail.length c3, .int .i64 x.fin.k, .int .i64 x.fin.a, .int .i64 x.fin.t, .int .i64 x.fin.l] : List Value)[j]? = some u → wr.cell? ⟨b, off + k * 8 + j, none⟩ = some u := fun j u hu => (HBw.out.cell (p := ⟨b, _, none⟩) hbl).trans (hcs j u hu).1
    have b0 := hcw 0 _ rfl
    have b1 := hcw 1 _ rfl
    have b2 := hcw 2 _ rfl
    have b3 := hcw 3 _ rfl
    have b4 := hcw 4 _ rfl
    have b5 := hcw 5 _ rfl
    have b6 := hcw 6 _ rfl
    have b7 := hcw 7 _ rfl
    rw [Nat.add_zero] at b0
    have hkl' : (k : Int) < (f.blocks.length : Int) := by omega
    have Hxk := Lib.hid hxk
    have hph := phis_le HP.out hxk
    have HPL := Lib.hid hph.2.2
    have hp4 := hph.2.1
    have HSU : Hid (argsK f (k + 1) = ac + argsP x.phis) := by rw [Hid, argsK_succ hxk, HAC.out]
    clear hcs hr8 hxk hcw h0 hph
    by_cases hb12 : 12 < x.body.length
    · have hb12' : 12 < (x.body.length : Int) := by omega
      have HY : Hid (LargeP f) := .inl ⟨k, x, Hxk.out, hb12⟩
      have HBx : Hid (Below w.heap.size w (wr.alloc (.cells #[.slice A0 x.phis.length c0, .slice A1 x.head.length c1, .slice A2 x.body.length c2, .slice A3 x.tail.length c3, .int .i64 x.fin.k, .int .i64 x.fin.a, .int .i64 x.fin.t, .int .i64 x.fin.l] 60))) := HBw.out.alloc HBw.out.size _
      go_wp2_with fail
      go_ret
      exact gives_yes HY.out HBx.out
    have hb12' : ¬ 12 < (x.body.length : Int) := by omega
    have HF' : Hid (∀ (j : Nat) x, j < k + 1 → f.blocks[j]? = some x → ¬ 12 < x.body.length) := fun j y hj hy => by
      by_cases e : j = k
      · subst e
        rw [Hxk.out] at hy
        injection hy with hy
        subst hy
        exact hb12
      · exact HF.out j y (by omega) hy
    have hsw : w0.heap.size ≤ wr.heap.size := HB.out.size
    have hBx : Below w0.heap.size w0 (wr.alloc (.cells #[.slice A0 x.phis.length c0, .slice A1 x.head.length c1, .slice A2 x.body.length c2, .slice A3 x.tail.length c3, .int .i64 x.fin.k, .int .i64 x.fin.a, .int .i64 x.fin.t, .int .i64 x.fin.l] 60)) := HB.out.alloc hsw _
    go_wp2_with fail
    generalize wr.alloc (.cells #[.slice A0 x.phis.length c0, .slice A1 x.head.length c1, .slice A2 x.body.length c2, .slice A3 x.tail.length c3, .int .i64 x.fin.k, .int .i64 x.fin.a, .int .i64 x.fin.t, .int .i64 x.fin.l] 60) = w1 at *
    have HB1 := Lib.hid hBx
    clear hBx b0 b1 b2 b3 b4 b5 b6 b7 HBw HB hsw
    go_loopw [3, 22] (fun a i wr => ∃ j : Nat, j ≤ x.phis.length ∧ i = .int .i64 j ∧ a = .int .i64 ((ac + argsP (x.phis.take j) : Nat) : Int) ∧ Hid (Below w0.heap.size w0 wr)) (fun _ i _ => x.phis.length - (intOf i).toNat)
    case atStart => exact ⟨0, Nat.zero_le _, rfl, rfl, HB1.out⟩
    case round =>
      obtain ⟨j, hj, rfl, ha, HB⟩ := hrel
      obtain ⟨aj, haj⟩ : ∃ aj : Nat, aj = ac + argsP (x.phis.take j) := ⟨_, rfl⟩
      have HAJ := Lib.hid haj
      have hall := argsP_le HPL.out j
      have hajl : aj ≤ 6600 := by omega
      rw [← haj] at ha
      have ha' : u3 = .int .i64 aj := ha
      clear ha haj hall
      subst ha'
      have HBw : Hid (Below w.heap.size w wr) := HB0.out.trans (HB.out.mono hw0)
      by_cases hjl : j < x.phis.length
      case neg =>
        obtain rfl : j = x.phis.length := by omega
        have HEQ : Hid ((aj : Int) = (argsK f (k + 1) : Nat)) := by
          have h := HAJ.out
          rw [List.take_length] at h
          rw [Hid, HSU.out, h]
        go_wp2_with fail
        go_roundw
        case rel => exact ⟨k + 1, by omega, by go_num, by rw [HEQ.out], HB.out, HF'.out⟩
        case measure => simp [intOf]; omega
      have hxj : x.phis[j]? = some x.phis[j] := List.getElem?_eq_getElem hjl
      generalize x.phis[j] = ph at hxj
      obtain ⟨b3, off3, rfl, hDb3, hrow3⟩ := H0.out (by intro e; rw [e] at hjl; simp at hjl)
      obtain ⟨ds, hE3, hds⟩ := hrow3 j ph hxj
      obtain ⟨u', rfl, _, A9, q9, rfl, _⟩ := hE3
      have hbl3 := HD.out b3 hDb3
      have e0 : wr.cell? ⟨b3, off3 + j * 2, none⟩ = some (.int .i64 ph.v) := (HBw.out.cell (p := ⟨b3, _, none⟩) hbl3).trans (hds 0 _ rfl).1
      have e1 : wr.cell? ⟨b3, off3 + j * 2 + 1, none⟩ = some (.slice A9 ph.args.length q9) := (HBw.out.cell (p := ⟨b3, _, none⟩) hbl3).trans (hds 1 _ rfl).1
      have hpl := HPL.out j ph hxj
      have HTJ : Hid (ac + argsP (x.phis.take (j + 1)) = aj + ph.args.length) := by rw [Hid, argsP_take hxj, HAJ.out]; omega
      have hjl' : (j : Int) < (x.phis.length : Int) := by omega
      have HB2 : Hid (Below w0.heap.size w0 (wr.alloc (.cells #[.int .i64 ph.v, .slice A9 ph.args.length q9] 88))) := HB.out.alloc HB.out.size _
      clear hds hrow3 hxj
      go_wp2_with fail
      go_roundw
      case rel => exact ⟨j + 1, by omega, by go_num, by rw [HTJ.out]; go_num, HB2.out⟩
      case measure => simp [intOf]; omega
end

/- errors.Is and errors.As at what the program hands them: a fault that wraps a listed error. -/
section
open Go.ChangeShapes Go.WideShapes Go.ChangeAt Go.RowKit Go.Joins Go.Extern.Stop Go.Stop Go.Extern

theorem ie_typeOf (v : Value) (w : World) : (Extern.ReflectliteType.typeOf #[.iface 219 v]).run Tryz.prog w = .ok (.iface 158 (.agg #[.pointer (some ⟨7, 219, none⟩)])) w := by kernel_rfl
theorem ie_methodComparable (v : Value) (w : World) : (Go.method 353 158 v "Comparable").run Tryz.prog w = .ok (179, v) w := by kernel_rfl
theorem ie_comp : (Tryz.prog.info? 219).map (·.comparable) = some true := by kernel_rfl
theorem ie_size : (Tryz.prog.info? 241).map (·.size) = some 1 := by kernel_rfl
theorem ie_noIsE (v : Value) (xT : TypeId) (w : World) : (Instr.typeAssert (.iface 219 v) xT 198 true).run Tryz.prog w = .ok (.tuple #[.nilIface, .bool false]) w := run_typeAssert_lacksB Tryz.underlying198 (by kernel_rfl) (by kernel_rfl) v xT w
theorem ie_noUnwrapE (v : Value) (xT : TypeId) (w : World) : (Instr.typeAssert (.iface 219 v) xT 166 true).run Tryz.prog w = .ok (.tuple #[.nilIface, .bool false]) w := run_typeAssert_lacksB Tryz.underlying166 (by kernel_rfl) (by kernel_rfl) v xT w
theorem ie_noUnwrapsE (v : Value) (xT : TypeId) (w : World) : (Instr.typeAssert (.iface 219 v) xT 168 true).run Tryz.prog w = .ok (.tuple #[.nilIface, .bool false]) w := run_typeAssert_lacksB Tryz.underlying168 (by kernel_rfl) (by kernel_rfl) v xT w
theorem ie_noIsF (v : Value) (xT : TypeId) (w : World) : (Instr.typeAssert (.iface 70 v) xT 198 true).run Tryz.prog w = .ok (.tuple #[.nilIface, .bool false]) w := run_typeAssert_lacksB Tryz.underlying198 (by kernel_rfl) (by kernel_rfl) v xT w
theorem ie_hasUnwrapF (v : Value) (xT : TypeId) (w : World) : (Instr.typeAssert (.iface 70 v) xT 166 true).run Tryz.prog w = .ok (.tuple #[.iface 70 v, .bool true]) w := run_typeAssert_hasB Tryz.underlying166 (by kernel_rfl) v xT w
theorem ie_methodUnwrap (v : Value) (w : World) : (Go.method 353 70 v "Unwrap").run Tryz.prog w = .ok (173, v) w := by kernel_rfl

set_option maxHeartbeats 1000000 in
theorem unwrap_any (c : Int) (b : Addr) (w : World) : Calls Tryz.prog 173 #[.agg #[.int .i64 c, .iface 219 (.pointer (some b))]] w fun e w' => e = .returned (.iface 219 (.pointer (some b))) ∧ w' = w.alloc (.cells #[.int .i64 c, .iface 219 (.pointer (some b))] 70) := by
  go_enter Tryz.func173, Tryz.ntmps173
  go_wp2
  go_ret
  exact ⟨rfl, rfl⟩

/-- errors.Is(nil, x). -/
theorem is_nil (b : Addr) (w : World) : Calls Tryz.prog 71 #[.nilIface, .iface 219 (.pointer (some b))] w fun e w' => e = .returned (.bool false) ∧ w' = w := by
  have hn := run_eql_iface_nil_left (P := Tryz.prog) w 219 (.pointer (some b)) Tryz.underlying68
  go_enter Tryz.func71, Tryz.ntmps71
  go_wp2
  go_ret
  exact ⟨rfl, rfl⟩

set_option maxHeartbeats 4000000 in
/-- A fault that wraps x is x. -/
theorem is_fault_same (c : Int) (b : Addr) (w : World) :
    Calls Tryz.prog 71 #[.iface 70 (.agg #[.int .i64 c, .iface 219 (.pointer (some b))]), .iface 219 (.pointer (some b))] w fun e w' => e = .returned (.bool true) ∧ Below w.heap.size w w' := by
  obtain ⟨i, hi, hcmp⟩ := Option.map_eq_some_iff.1 ie_comp
  obtain ⟨j, hj, hjs⟩ := Option.map_eq_some_iff.1 ie_size
  have h8 := @run_callFunc_extern Tryz.prog 105 _ Extern.ReflectliteType.typeOf Tryz.func105 (by kernel_rfl) (by kernel_rfl) (by kernel_rfl) (by kernel_rfl)
  have h32 := @run_callFunc_extern Tryz.prog 179 _ (Extern.ReflectliteType.method fun t => do Extern.Rtype.noPackHeld "Comparable" t; pure (.bool (← typeInfo t).comparable)) Tryz.func179 (by kernel_rfl) (by kernel_rfl) (by kernel_rfl) (by kernel_rfl)
  have hC : ∀ W, (callFunc 179 #[.agg #[.pointer (some ⟨7, 219, none⟩)]]).run Tryz.prog W = .ok (Next.value (.bool true)) W := fun W => (h32 _ W).trans (by kernel_rfl)
  clear h32
  have tT := ie_typeOf
  have mR := ie_methodComparable
  have nF := ie_noIsF
  have uF := ie_hasUnwrapF
  have mU := ie_methodUnwrap
  have heq := fun W => run_eql_iface_ptr_same (P := Tryz.prog) W b Tryz.underlying68 Tryz.underlying219 hi hcmp hj
  have hty := fun W => run_eql_iface_types (P := Tryz.prog) 70 219 (.agg #[.int .i64 c, .iface 219 (.pointer (some b))]) (.pointer (some b)) Tryz.underlying68 (by decide) W
  go_enter Tryz.func71, Tryz.ntmps71
  go_wp2
  refine wp_loop_rounds 2 ?_
  rw [rounds_succ]
  go_wp2_with (go_at_call 173; refine (unwrap_any _ _ _).mono ?_; rintro e w' ⟨rfl, rfl⟩)
  rw [rounds_succ]
  go_wp2
  go_ret
  exact ⟨rfl, (Below.refl _ _).alloc (Nat.le_refl _) _⟩

set_option maxHeartbeats 4000000 in
/-- A fault that wraps another one is not x. -/
theorem is_fault_other (c : Int) (a b : Addr) (ca cb : Array Value) (ta tb : TypeId) (w : World) (hne : a ≠ b) (ha : w.heap[a.block]? = some (.cells ca ta (0, 0))) (hb : w.heap[b.block]? = some (.cells cb tb (0, 0))) :
    Calls Tryz.prog 71 #[.iface 70 (.agg #[.int .i64 c, .iface 219 (.pointer (some a))]), .iface 219 (.pointer (some b))] w fun e w' => e = .returned (.bool false) ∧ Below w.heap.size w w' := by
  obtain ⟨i, hi, hcmp⟩ := Option.map_eq_some_iff.1 ie_comp
  obtain ⟨j, hj, hjs⟩ := Option.map_eq_some_iff.1 ie_size
  have h8 := @run_callFunc_extern Tryz.prog 105 _ Extern.ReflectliteType.typeOf Tryz.func105 (by kernel_rfl) (by kernel_rfl) (by kernel_rfl) (by kernel_rfl)
  have h32 := @run_callFunc_extern Tryz.prog 179 _ (Extern.ReflectliteType.method fun t => do Extern.Rtype.noPackHeld "Comparable" t; pure (.bool (← typeInfo t).comparable)) Tryz.func179 (by kernel_rfl) (by kernel_rfl) (by kernel_rfl) (by kernel_rfl)
  have hC : ∀ W, (callFunc 179 #[.agg #[.pointer (some ⟨7, 219, none⟩)]]).run Tryz.prog W = .ok (Next.value (.bool true)) W := fun W => (h32 _ W).trans (by kernel_rfl)
  clear h32
  have tT := ie_typeOf
  have mR := ie_methodComparable
  have nF := ie_noIsF
  have uF := ie_hasUnwrapF
  have mU := ie_methodUnwrap
  have nE := ie_noIsE
  have uE := ie_noUnwrapE
  have vE := ie_noUnwrapsE
  have ha' : (w.alloc (.cells #[.int .i64 c, .iface 219 (.pointer (some a))] 70)).heap[a.block]? = some (.cells ca ta (0, 0)) := (Below.heap_alloc w _ _ (Array.getElem?_eq_some_iff.1 ha).1).trans ha
  have hb' : (w.alloc (.cells #[.int .i64 c, .iface 219 (.pointer (some a))] 70)).heap[b.block]? = some (.cells cb tb (0, 0)) := (Below.heap_alloc w _ _ (Array.getElem?_eq_some_iff.1 hb).1).trans hb
  have heq := run_eql_iface_ptr_other (P := Tryz.prog) _ Tryz.underlying68 Tryz.underlying219 hi hcmp hj (by rw [hjs]; decide) hne ha' hb'
  have hty := fun W => run_eql_iface_types (P := Tryz.prog) 70 219 (.agg #[.int .i64 c, .iface 219 (.pointer (some a))]) (.pointer (some b)) Tryz.underlying68 (by decide) W
  clear ha hb ha' hb'
  go_enter Tryz.func71, Tryz.ntmps71
  go_wp2
  refine wp_loop_rounds 2 ?_
  rw [rounds_succ]
  go_wp2_with (go_at_call 173; refine (unwrap_any _ _ _).mono ?_; rintro e w' ⟨rfl, rfl⟩)
  rw [rounds_succ]
  go_wp2
  go_ret
  exact ⟨rfl, (Below.refl _ _).alloc (Nat.le_refl _) _⟩

/-- errors.As(nil, target). -/
theorem as_nil (t : Value) (w : World) : Calls Tryz.prog 35 #[.nilIface, t] w fun e w' => e = .returned (.bool false) ∧ w' = w := by
  go_enter Tryz.func35, Tryz.ntmps35
  go_wp2
  go_ret
  exact ⟨rfl, rfl⟩

/-! errors.As: the entries of internal/reflectlite at this program's types (after the guide's worked example). -/
theorem ea_valueOfP (t : Addr) (w : World) : (ReflectliteValue.unpack (.iface 73 (.pointer (some t)))).run Tryz.prog w
    = .ok (.agg #[.pointer (some ⟨7, 73, none⟩), .pointer (some ⟨w.heap.size, 0, none⟩), .int .u64 150]) (w.alloc (.cells #[.pointer (some t)] 73)) := by kernel_rfl
theorem ea_typeP (a : Addr) (w : World) : (ReflectliteValue.methodAny (ReflectliteValue.valueError "reflectlite.Value.Type" 0) (fun t _ _ _ => ReflectliteType.toType t) #[.agg #[.pointer (some ⟨7, 73, none⟩), .pointer (some a), .int .u64 150]]).run Tryz.prog w
    = .ok (.iface 158 (.agg #[.pointer (some ⟨7, 73, none⟩)])) w := by kernel_rfl
theorem ea_methodKind (h : Value) (w : World) : (Go.method 353 158 (.agg #[h]) "Kind").run Tryz.prog w = .ok (169, h) w := by kernel_rfl
theorem ea_methodElem (h : Value) (w : World) : (Go.method 353 158 (.agg #[h]) "Elem").run Tryz.prog w = .ok (180, .agg #[h]) w := by kernel_rfl
theorem ea_methodImplements (h : Value) (w : World) : (Go.method 353 158 (.agg #[h]) "Implements").run Tryz.prog w = .ok (181, .agg #[h]) w := by kernel_rfl
theorem ea_methodAssignableTo (h : Value) (w : World) : (Go.method 353 158 (.agg #[h]) "AssignableTo").run Tryz.prog w = .ok (178, .agg #[h]) w := by kernel_rfl
theorem ea_rlm (z : Sem Value) (f : TypeId → Addr → Nat → Nat → Sem Value) (v : Value) :
    ReflectliteValue.method z f #[v] = (do match ← ReflectliteValue.parts v with | none => z | some (t, a, fl) => f t a fl (fl % 32)) := rfl
theorem ea_partsP (a : Addr) (w : World) : (ReflectliteValue.parts (.agg #[.pointer (some ⟨7, 73, none⟩), .pointer (some a), .int .u64 150])).run Tryz.prog w = .ok (some (73, a, 150)) w := by kernel_rfl
theorem ea_isNilP (a p : Addr) (W : World) (ha : W.cell? a = some (.pointer (some p))) :
    (ReflectliteValue.method (ReflectliteValue.valueError "reflectlite.Value.IsNil" 0) ReflectliteValue.isNil #[.agg #[.pointer (some ⟨7, 73, none⟩), .pointer (some a), .int .u64 150]]).run Tryz.prog W = .ok (.bool false) W := by
  rw [ea_rlm]
  simp only [Sem.run_bind, ea_partsP, Result.andThen]
  simp [ReflectliteValue.isNil, loadVar, isAgg, underlying, Tryz.underlying73, ha, Result.andThen]
theorem ea_elemOfP (w : World) : (Rtype.elem? 73).run Tryz.prog w = .ok (some 70) w := by kernel_rfl
theorem ea_mkF (p : Addr) (w : World) : (ReflectliteValue.mk 70 p ReflectliteValue.flagAddr).run Tryz.prog w = .ok (.agg #[.pointer (some ⟨7, 70, none⟩), .pointer (some p), .int .u64 409]) w := by kernel_rfl
theorem ea_elemV (a p : Addr) (W : World) (ha : W.cell? a = some (.pointer (some p))) :
    (ReflectliteValue.method (ReflectliteValue.valueError "reflectlite.Value.Elem" 0) ReflectliteValue.elem #[.agg #[.pointer (some ⟨7, 73, none⟩), .pointer (some a), .int .u64 150]]).run Tryz.prog W
      = .ok (.agg #[.pointer (some ⟨7, 70, none⟩), .pointer (some p), .int .u64 409]) W := by
  rw [ea_rlm]
  simp only [Sem.run_bind, ea_partsP, Result.andThen]
  simp [ReflectliteValue.elem, loadVar, isAgg, underlying, Tryz.underlying73, ha, Result.andThen, ea_elemOfP, ea_mkF]
theorem ea_rls (v x : Value) : ReflectliteValue.set #[v, x] = (do
    let (some (dst, a, fl), some (src, b, _)) := (← ReflectliteValue.parts v, ← ReflectliteValue.parts x)
      | unsupported (.noEntry "extern/(internal/reflectlite.Value).Set.zeroValue")
    if fl / ReflectliteValue.flagAddr % 2 == 0 then unsupported (.noEntry "extern/(internal/reflectlite.Value).Set.unaddressable")
    let val ← loadVar src b
    if ← Rtype.directlyAssignable dst src then storeVar dst a val
    else if ← Rtype.implements dst src then
      if (← Rtype.kind src) == 20 then
        match val with
        | .nilIface => unsupported (.noEntry "extern/reflectlite: a nil value of one interface type handed on as a value of another")
        | _ => storeVar dst a val
      else storeVar dst a (.iface src val)
    else panicString ("reflectlite.Set: value of type " ++ (← Rtype.spelt src) ++ " is not assignable to type " ++ (← Rtype.spelt dst))
    pure (.tuple #[])) := rfl
theorem ea_partsFa (a : Addr) (w : World) : (ReflectliteValue.parts (.agg #[.pointer (some ⟨7, 70, none⟩), .pointer (some a), .int .u64 409])).run Tryz.prog w = .ok (some (70, a, 409)) w := by kernel_rfl
theorem ea_partsF (a : Addr) (w : World) : (ReflectliteValue.parts (.agg #[.pointer (some ⟨7, 70, none⟩), .pointer (some a), .int .u64 153])).run Tryz.prog w = .ok (some (70, a, 153)) w := by kernel_rfl
theorem ea_directF (w : World) : (Rtype.directlyAssignable 70 70).run Tryz.prog w = .ok true w := by kernel_rfl
theorem ea_sizeF (w : World) : (sizeOf 70).run Tryz.prog w = .ok 2 w := by kernel_rfl
theorem ea_setF (T : Nat) (B : Nat) (c : Int) (b : Addr) (o0 o1 : Value) (W : World) (hb0 : W.cell? ⟨B, 0, none⟩ = some (.int .i64 c)) (hb1 : W.cell? ⟨B, 1, none⟩ = some (.iface 219 (.pointer (some b)))) (ht0 : W.cell? ⟨T, 0, none⟩ = some o0) (ht1 : W.cell? ⟨T, 1, none⟩ = some o1) (hf0 : W.frozen? ⟨T, 0, none⟩ = false) (hf1 : W.frozen? ⟨T, 1, none⟩ = false) :
    (ReflectliteValue.set #[.agg #[.pointer (some ⟨7, 70, none⟩), .pointer (some ⟨T, 0, none⟩), .int .u64 409], .agg #[.pointer (some ⟨7, 70, none⟩), .pointer (some ⟨B, 0, none⟩), .int .u64 153]]).run Tryz.prog W
      = .ok (.tuple #[]) ((W.setCell ⟨T, 0, none⟩ (.int .i64 c)).setCell ⟨T, 1, none⟩ (.iface 219 (.pointer (some b)))) := by
  rw [ea_rls]
  simp only [Sem.run_bind, ea_partsFa, ea_partsF, Result.andThen]
  have hl : (loadCells ⟨B, 0, none⟩ 2).run Tryz.prog W = .ok #[.int .i64 c, (.iface 219 (.pointer (some b)))] W := run_loadCells_list W ⟨B, 0, none⟩ [.int .i64 c, (.iface 219 (.pointer (some b)))] (fun j v hj => by
    match j, hj with
    | 0, hj => simp at hj; subst hj; simpa [Addr.add] using hb0
    | 1, hj => simp at hj; subst hj; simpa [Addr.add] using hb1
    | j + 2, hj => simp at hj)
  have hst : (storeCells ⟨T, 0, none⟩ [.int .i64 c, (.iface 219 (.pointer (some b)))]).run Tryz.prog W = .ok () ((W.setCell ⟨T, 0, none⟩ (.int .i64 c)).setCell ⟨T, 1, none⟩ (.iface 219 (.pointer (some b)))) := by
    have ht1' : (W.setCell ⟨T, 0, none⟩ (.int .i64 c)).cell? ⟨T, 1, none⟩ = some o1 := (World.cell?_setCell_other _ _ _ _ (by simp)).trans ht1
    simp only [storeCells, Sem.run_bind]
    rw [run_store Tryz.prog W _ _ _ (by rfl)]
    simp [ht0, hf0, Addr.add, Result.andThen]
    rw [run_store Tryz.prog _ _ _ _ (by rfl)]
    simp [ht1', hf1]
  simp [ReflectliteValue.flagAddr, loadVar, isAgg, underlying, Tryz.underlying70, Result.andThen, ea_directF, storeVar, Value.cells, hl, hst]

theorem ea_kindP (w : World) : ((ReflectliteType.abiMethod fun t => (fun a : Nat => Value.int IntKind.u8 (a : Int)) <$> Rtype.kind t) #[.pointer (some ⟨7, 73, none⟩)]).run Tryz.prog w = .ok (.int .u8 22) w := by kernel_rfl
theorem ea_kindF (w : World) : ((ReflectliteType.abiMethod fun t => (fun a : Nat => Value.int IntKind.u8 (a : Int)) <$> Rtype.kind t) #[.pointer (some ⟨7, 70, none⟩)]).run Tryz.prog w = .ok (.int .u8 25) w := by kernel_rfl
theorem ea_elemP (w : World) : (ReflectliteType.method ReflectliteType.elem #[.agg #[.pointer (some ⟨7, 73, none⟩)]]).run Tryz.prog w = .ok (.iface 158 (.agg #[.pointer (some ⟨7, 70, none⟩)])) w := by kernel_rfl
theorem ea_implementsF (w : World) : (ReflectliteType.relation "Implements" ReflectliteType.implements_ #[.agg #[.pointer (some ⟨7, 70, none⟩)], .iface 158 (.agg #[.pointer (some ⟨7, 68, none⟩)])]).run Tryz.prog w = .ok (.bool true) w := by kernel_rfl
theorem ea_typeOfF (v : Value) (w : World) : (ReflectliteType.typeOf #[.iface 70 v]).run Tryz.prog w = .ok (.iface 158 (.agg #[.pointer (some ⟨7, 70, none⟩)])) w := by kernel_rfl
theorem ea_assignableF (w : World) : (ReflectliteType.relation "AssignableTo" ReflectliteType.assignableTo #[.agg #[.pointer (some ⟨7, 70, none⟩)], .iface 158 (.agg #[.pointer (some ⟨7, 70, none⟩)])]).run Tryz.prog w = .ok (.bool true) w := by kernel_rfl
theorem ea_valueOfF (c : Int) (b : Addr) (w : World) : (ReflectliteValue.unpack (.iface 70 (.agg #[.int .i64 c, (.iface 219 (.pointer (some b)))]))).run Tryz.prog w
    = .ok (.agg #[.pointer (some ⟨7, 70, none⟩), .pointer (some ⟨w.heap.size, 0, none⟩), .int .u64 153]) (w.alloc (.cells #[.int .i64 c, (.iface 219 (.pointer (some b)))] 70)) := by kernel_rfl

set_option maxRecDepth 10000 in
set_option maxHeartbeats 4000000 in
/-- errors.As at a fault and a variable of its type: the variable is set. -/
theorem as_hit (c : Int) (b : Addr) (T : Nat) (o0 o1 : Value) (w : World) (hg : w.cell? ⟨0, 0, none⟩ = some (.iface 158 (.agg #[.pointer (some ⟨7, 68, none⟩)])))
    (ht0 : w.cell? ⟨T, 0, none⟩ = some o0) (ht1 : w.cell? ⟨T, 1, none⟩ = some o1) (hf0 : w.frozen? ⟨T, 0, none⟩ = false) (hf1 : w.frozen? ⟨T, 1, none⟩ = false) :
    Calls Tryz.prog 35 #[.iface 70 (.agg #[.int .i64 c, (.iface 219 (.pointer (some b)))]), .iface 73 (.pointer (some ⟨T, 0, none⟩))] w fun ev w' => ev = .returned (.bool true) ∧ w' = ((((((w.alloc (.cells #[.pointer (some ⟨T, 0, none⟩)] 73)).alloc (.cells #[.pointer (some ⟨7, 73, none⟩), .pointer (some ⟨w.heap.size, 0, none⟩), .int .u64 150] 109)).alloc (.cells #[.pointer (some ⟨7, 73, none⟩), .pointer (some ⟨w.heap.size, 0, none⟩), .int .u64 150] 109)).alloc (.cells #[.int .i64 c, .iface 219 (.pointer (some b))] 70)).setCell ⟨T, 0, none⟩ (.int .i64 c)).setCell ⟨T, 1, none⟩ (.iface 219 (.pointer (some b)))) := by
  have h6 := @run_callFunc_extern Tryz.prog 67 _ (fun args => ReflectliteValue.unpack (args.getD 0 (.tuple #[]))) Tryz.func67 (by kernel_rfl) (by kernel_rfl) (by kernel_rfl) (by kernel_rfl)
  have h7 := @run_callFunc_extern Tryz.prog 68 _ (ReflectliteValue.methodAny (ReflectliteValue.valueError "reflectlite.Value.Type" 0) (fun t _ _ _ => ReflectliteType.toType t)) Tryz.func68 (by kernel_rfl) (by kernel_rfl) (by kernel_rfl) (by kernel_rfl)
  have h8 := @run_callFunc_extern Tryz.prog 69 _ (ReflectliteValue.method (ReflectliteValue.valueError "reflectlite.Value.IsNil" 0) ReflectliteValue.isNil) Tryz.func69 (by kernel_rfl) (by kernel_rfl) (by kernel_rfl) (by kernel_rfl)
  have h27 := @run_callFunc_extern Tryz.prog 169 _ (ReflectliteType.abiMethod fun t => do pure (.int .u8 (← Rtype.kind t))) Tryz.func169 (by kernel_rfl) (by kernel_rfl) (by kernel_rfl) (by kernel_rfl)
  have h37 := @run_callFunc_extern Tryz.prog 180 _ (ReflectliteType.method ReflectliteType.elem) Tryz.func180 (by kernel_rfl) (by kernel_rfl) (by kernel_rfl) (by kernel_rfl)
  have h38 := @run_callFunc_extern Tryz.prog 181 _ (ReflectliteType.relation "Implements" ReflectliteType.implements_) Tryz.func181 (by kernel_rfl) (by kernel_rfl) (by kernel_rfl) (by kernel_rfl)
  have h10 := @run_callFunc_extern Tryz.prog 105 _ ReflectliteType.typeOf Tryz.func105 (by kernel_rfl) (by kernel_rfl) (by kernel_rfl) (by kernel_rfl)
  have h35 := @run_callFunc_extern Tryz.prog 178 _ (ReflectliteType.relation "AssignableTo" ReflectliteType.assignableTo) Tryz.func178 (by kernel_rfl) (by kernel_rfl) (by kernel_rfl) (by kernel_rfl)
  have h11 := @run_callFunc_extern Tryz.prog 106 _ (ReflectliteValue.method (ReflectliteValue.valueError "reflectlite.Value.Elem" 0) ReflectliteValue.elem) Tryz.func106 (by kernel_rfl) (by kernel_rfl) (by kernel_rfl) (by kernel_rfl)
  have h12 := @run_callFunc_extern Tryz.prog 107 _ ReflectliteValue.set Tryz.func107 (by kernel_rfl) (by kernel_rfl) (by kernel_rfl) (by kernel_rfl)
  have tO := ea_typeOfF
  have mA := ea_methodAssignableTo
  have a25 := ea_assignableF
  have v25 := ea_valueOfF
  have f6 := ea_valueOfP
  have f7 := ea_typeP
  have mK := ea_methodKind
  have mE := ea_methodElem
  have mI := ea_methodImplements
  have k27 := ea_kindP
  have k25 := ea_kindF
  have e27 := ea_elemP
  have i25 := ea_implementsF
  have hgl : 0 < w.heap.size := World.block_lt_of_cell? w ⟨0, 0, none⟩ hg
  have htl : T < w.heap.size := World.block_lt_of_cell? w ⟨T, 0, none⟩ ht0
  have c0 : ∀ (W : World), Below w.heap.size w W → W.cell? ⟨T, 0, none⟩ = some o0 ∧ W.cell? ⟨T, 1, none⟩ = some o1 ∧ W.frozen? ⟨T, 0, none⟩ = false ∧ W.frozen? ⟨T, 1, none⟩ = false ∧ W.cell? ⟨0, 0, none⟩ = some (.iface 158 (.agg #[.pointer (some ⟨7, 68, none⟩)])) := fun W hb => ⟨(hb.cell (p := ⟨T, 0, none⟩) htl).trans ht0, (hb.cell (p := ⟨T, 1, none⟩) htl).trans ht1, (hb.frozen (p := ⟨T, 0, none⟩) htl).trans hf0, (hb.frozen (p := ⟨T, 1, none⟩) htl).trans hf1, (hb.cell (p := ⟨0, 0, none⟩) hgl).trans hg⟩
  have bA1 : Below w.heap.size w (w.alloc (.cells #[.pointer (some ⟨T, 0, none⟩)] 73)) := (Below.refl _ _).alloc (Nat.le_refl _) _
  have bA2 : Below w.heap.size w ((w.alloc (.cells #[.pointer (some ⟨T, 0, none⟩)] 73)).alloc (.cells #[.pointer (some ⟨7, 73, none⟩), .pointer (some ⟨w.heap.size, 0, none⟩), .int .u64 150] 109)) := bA1.alloc (by simp) _
  have bA3 : Below w.heap.size w (((w.alloc (.cells #[.pointer (some ⟨T, 0, none⟩)] 73)).alloc (.cells #[.pointer (some ⟨7, 73, none⟩), .pointer (some ⟨w.heap.size, 0, none⟩), .int .u64 150] 109)).alloc (.cells #[.pointer (some ⟨7, 73, none⟩), .pointer (some ⟨w.heap.size, 0, none⟩), .int .u64 150] 109)) := bA2.alloc (by simp; omega) _
  have bA4 : Below w.heap.size w ((((w.alloc (.cells #[.pointer (some ⟨T, 0, none⟩)] 73)).alloc (.cells #[.pointer (some ⟨7, 73, none⟩), .pointer (some ⟨w.heap.size, 0, none⟩), .int .u64 150] 109)).alloc (.cells #[.pointer (some ⟨7, 73, none⟩), .pointer (some ⟨w.heap.size, 0, none⟩), .int .u64 150] 109)).alloc (.cells #[.int .i64 c, .iface 219 (.pointer (some b))] 70)) := bA3.alloc (by simp; omega) _
  have n8 := ea_isNilP ⟨w.heap.size, 0, none⟩ ⟨T, 0, none⟩ ((w.alloc (.cells #[.pointer (some ⟨T, 0, none⟩)] 73)).alloc (.cells #[.pointer (some ⟨7, 73, none⟩), .pointer (some ⟨w.heap.size, 0, none⟩), .int .u64 150] 109)) (by simp)
  have hg2 := (c0 _ bA2).2.2.2.2
  have el := ea_elemV ⟨w.heap.size, 0, none⟩ ⟨T, 0, none⟩ (((w.alloc (.cells #[.pointer (some ⟨T, 0, none⟩)] 73)).alloc (.cells #[.pointer (some ⟨7, 73, none⟩), .pointer (some ⟨w.heap.size, 0, none⟩), .int .u64 150] 109)).alloc (.cells #[.pointer (some ⟨7, 73, none⟩), .pointer (some ⟨w.heap.size, 0, none⟩), .int .u64 150] 109)) (by rw [World.cell?_alloc_lt _ _ ⟨w.heap.size, 0, none⟩ (by simp; omega)]; simp)
  have st := ea_setF T (w.heap.size + 1 + 1 + 1) c b o0 o1 ((((w.alloc (.cells #[.pointer (some ⟨T, 0, none⟩)] 73)).alloc (.cells #[.pointer (some ⟨7, 73, none⟩), .pointer (some ⟨w.heap.size, 0, none⟩), .int .u64 150] 109)).alloc (.cells #[.pointer (some ⟨7, 73, none⟩), .pointer (some ⟨w.heap.size, 0, none⟩), .int .u64 150] 109)).alloc (.cells #[.int .i64 c, .iface 219 (.pointer (some b))] 70)) (by rw [World.cell?_alloc_at _ _ _ _ (by simp)]; rfl) (by rw [World.cell?_alloc_at _ _ _ _ (by simp)]; rfl) (c0 _ bA4).1 (c0 _ bA4).2.1 (c0 _ bA4).2.2.1 (c0 _ bA4).2.2.2.1
  clear c0 bA1 bA2 bA3 bA4 ht0 ht1 hf0 hf1 hg
  go_enter Tryz.func35, Tryz.ntmps35
  go_wp2
  refine wp_loop_rounds 1 ?_
  rw [rounds_succ]
  go_wp2
  go_ret
  exact ⟨rfl, rfl⟩

/-- What the caller is told of it. -/
theorem as_hit_any (c : Int) (b : Addr) (T : Nat) (o0 o1 : Value) (w : World) (hg : w.cell? ⟨0, 0, none⟩ = some (.iface 158 (.agg #[.pointer (some ⟨7, 68, none⟩)])))
    (ht0 : w.cell? ⟨T, 0, none⟩ = some o0) (ht1 : w.cell? ⟨T, 1, none⟩ = some o1) (hf0 : w.frozen? ⟨T, 0, none⟩ = false) (hf1 : w.frozen? ⟨T, 1, none⟩ = false) :
    Calls Tryz.prog 35 #[.iface 70 (.agg #[.int .i64 c, (.iface 219 (.pointer (some b)))]), .iface 73 (.pointer (some ⟨T, 0, none⟩))] w fun ev w' => ev = .returned (.bool true) ∧ w'.cell? ⟨T, 0, none⟩ = some (.int .i64 c) ∧ Below T w w' := by
  have htl : T < w.heap.size := World.block_lt_of_cell? w ⟨T, 0, none⟩ ht0
  refine (as_hit c b T o0 o1 w hg ht0 ht1 hf0 hf1).mono ?_
  rintro e w' ⟨rfl, rfl⟩
  have bA1 : Below w.heap.size w (w.alloc (.cells #[.pointer (some ⟨T, 0, none⟩)] 73)) := (Below.refl _ _).alloc (Nat.le_refl _) _
  have bA2 : Below w.heap.size w ((w.alloc (.cells #[.pointer (some ⟨T, 0, none⟩)] 73)).alloc (.cells #[.pointer (some ⟨7, 73, none⟩), .pointer (some ⟨w.heap.size, 0, none⟩), .int .u64 150] 109)) := bA1.alloc (by simp) _
  have bA3 : Below w.heap.size w (((w.alloc (.cells #[.pointer (some ⟨T, 0, none⟩)] 73)).alloc (.cells #[.pointer (some ⟨7, 73, none⟩), .pointer (some ⟨w.heap.size, 0, none⟩), .int .u64 150] 109)).alloc (.cells #[.pointer (some ⟨7, 73, none⟩), .pointer (some ⟨w.heap.size, 0, none⟩), .int .u64 150] 109)) := bA2.alloc (by simp; omega) _
  have bA4 : Below w.heap.size w ((((w.alloc (.cells #[.pointer (some ⟨T, 0, none⟩)] 73)).alloc (.cells #[.pointer (some ⟨7, 73, none⟩), .pointer (some ⟨w.heap.size, 0, none⟩), .int .u64 150] 109)).alloc (.cells #[.pointer (some ⟨7, 73, none⟩), .pointer (some ⟨w.heap.size, 0, none⟩), .int .u64 150] 109)).alloc (.cells #[.int .i64 c, .iface 219 (.pointer (some b))] 70)) := bA3.alloc (by simp; omega) _
  refine ⟨rfl, ?_, ((bA4.mono (B' := T) (Nat.le_of_lt htl)).setCell (Nat.le_refl _) _).setCell (Nat.le_refl _) _⟩
  rw [World.cell?_setCell_other _ _ _ _ (by simp)]
  exact World.cell?_setCell_same' _ _ _ (by rw [(bA4.cell (p := ⟨T, 0, none⟩) htl).trans ht0]; rfl)
end

/- firstFault and CodeOf of the program. -/
section
open Go.ChangeShapes Go.WideShapes Go.ChangeAt Go.RowKit Go.Joins

/-- What all listed variables are. -/
structure Err6 (w : World) (E : Int → Addr) : Prop where
  errs : Errs w E
  moves : w.cell? ⟨2, 0, none⟩ = some (.iface 219 (.pointer (some (E 2))))
  large : w.cell? ⟨3, 0, none⟩ = some (.iface 219 (.pointer (some (E 6))))
  handle : w.cell? ⟨0, 0, none⟩ = some (.iface 158 (.agg #[.pointer (some ⟨7, 68, none⟩)]))
  ne : ∀ c, c = 3 ∨ c = 4 ∨ c = 5 → E c ≠ E 1
  at_ : ∀ c, c = 1 ∨ c = 3 ∨ c = 4 ∨ c = 5 → ∃ ca ta, w.heap[(E c).block]? = some (.cells ca ta (0, 0))
theorem Err6.keep {w w' : World} {E : Int → Addr} (h : Err6 w E) (hb : Below w.heap.size w w') : Err6 w' E :=
  ⟨h.errs.keep hb, (hb.cell (p := ⟨_, 0, none⟩) (World.block_lt_of_cell? w ⟨_, 0, none⟩ h.moves)).trans h.moves, (hb.cell (p := ⟨_, 0, none⟩) (World.block_lt_of_cell? w ⟨_, 0, none⟩ h.large)).trans h.large, (hb.cell (p := ⟨_, 0, none⟩) (World.block_lt_of_cell? w ⟨_, 0, none⟩ h.handle)).trans h.handle, h.ne, fun c hc => by
    obtain ⟨ca, ta, h1⟩ := h.at_ c hc
    exact ⟨ca, ta, (hb.block _ (Array.getElem?_eq_some_iff.1 h1).1).trans h1⟩⟩
theorem codeF_vals {f : FunD} {c : Int} (h : CodeF f c) : c = 0 ∨ c = 1 ∨ c = 3 ∨ c = 4 ∨ c = 5 := by
  rcases h with ⟨_, rfl⟩ | ⟨_, h⟩
  · exact .inr (.inl rfl)
  · rcases h with ⟨_, rfl⟩ | ⟨_, h⟩
    · exact .inr (.inr (.inl rfl))
    · rcases h with ⟨_, rfl⟩ | ⟨_, h⟩
      · exact .inr (.inr (.inr (.inl rfl)))
      · rcases h with ⟨_, rfl⟩ | ⟨_, rfl⟩
        · exact .inr (.inr (.inr (.inr rfl)))
        · exact .inl rfl
/-- errors.Is at what strictFault gives. -/
theorem isBad_any (c : Int) (v : Value) (E : Int → Addr) (w : World) (hc : c = 0 ∨ c = 1 ∨ c = 3 ∨ c = 4 ∨ c = 5) (hv : FaultV E c v) (hE : Err6 w E) :
    Calls Tryz.prog 71 #[v, .iface 219 (.pointer (some (E 1)))] w (GivesB (c = 1) w) := by
  rcases hv with ⟨rfl, rfl⟩ | ⟨h0, rfl⟩
  · refine (is_nil _ _).mono ?_
    rintro e w' ⟨rfl, rfl⟩
    exact gives_no (by omega) (Below.refl _ _)
  · by_cases h1 : c = 1
    · subst h1
      refine (is_fault_same _ _ _).mono ?_
      rintro e w' ⟨rfl, hb⟩
      exact gives_yes rfl hb
    · obtain ⟨ca, ta, ha⟩ := hE.at_ c (by omega)
      obtain ⟨cb, tb, hb⟩ := hE.at_ 1 (.inl rfl)
      refine (is_fault_other c (E c) (E 1) ca cb ta tb w (hE.ne c (by omega)) ha hb).mono ?_
      rintro e w' ⟨rfl, hb⟩
      exact gives_no h1 hb

def GivesFF (f : FunD) (E : Int → Addr) (w : World) (e : Ending) (w' : World) : Prop := ∃ c v, e = .returned v ∧ CodeG f c ∧ FaultV E c v ∧ Below w.heap.size w w'

set_option maxRecDepth 10000 in
set_option maxHeartbeats 2000000 in
theorem firstFault_any (f : FunD) (v : Value) (E : Int → Addr) (w : World) (Z : Zn) (hv : EFun w Z f v) (hD : ∀ b, Z.D b → b < w.heap.size) (hn : f.blocks.length ≤ 1048576) (hE : Err6 w E) : Calls Tryz.prog 36 #[v] w (GivesFF f E w) := by
  have HF := Lib.hid hv
  have HE := Lib.hid hE
  have HD := Lib.hid hD
  obtain ⟨u, rfl, hu⟩ := hv
  obtain ⟨_, A, c, rfl, hx⟩ := hu
  have hB : Below w.heap.size w (w.alloc (.cells #[.int .i64 f.params, .int .i64 f.names, .slice A f.blocks.length c] 26)) := (Below.refl _ _).alloc (Nat.le_refl _) _
  have k0 : (w.alloc (.cells #[.int .i64 f.params, .int .i64 f.names, .slice A f.blocks.length c] 26)).cell? ⟨w.heap.size, 0, none⟩ = some (.int .i64 f.params) := by go_simp
  have k1 : (w.alloc (.cells #[.int .i64 f.params, .int .i64 f.names, .slice A f.blocks.length c] 26)).cell? ⟨w.heap.size, 1, none⟩ = some (.int .i64 f.names) := by go_simp
  have k2 : (w.alloc (.cells #[.int .i64 f.params, .int .i64 f.names, .slice A f.blocks.length c] 26)).cell? ⟨w.heap.size, 2, none⟩ = some (.slice A f.blocks.length c) := by go_simp
  have hs0 : (w.alloc (.cells #[.int .i64 f.params, .int .i64 f.names, .slice A f.blocks.length c] 26)).heap.size = w.heap.size + 1 := by simp
  clear hx hE
  go_enter Tryz.func36, Tryz.ntmps36
  go_wp2_with fail
  obtain ⟨F, hF⟩ : ∃ F, F = w.heap.size := ⟨_, rfl⟩
  rw [← hF] at k0 k1 k2 hs0 ⊢
  generalize w.alloc (.cells #[.int .i64 f.params, .int .i64 f.names, .slice A f.blocks.length c] 26) = w0 at *
  have HB0 := Lib.hid hB
  have hFl : F < w0.heap.size := by omega
  have hw0 : w.heap.size ≤ w0.heap.size := hB.size
  have HK : Hid (∀ w', Below w0.heap.size w0 w' → w'.cell? ⟨F, 0, none⟩ = some (.int .i64 f.params) ∧ w'.cell? ⟨F, 1, none⟩ = some (.int .i64 f.names) ∧ w'.cell? ⟨F, 2, none⟩ = some (.slice A f.blocks.length c) ∧ Below w.heap.size w w') := fun w' hb => ⟨(hb.cell (p := ⟨F, 0, none⟩) hFl).trans k0, (hb.cell (p := ⟨F, 1, none⟩) hFl).trans k1, (hb.cell (p := ⟨F, 2, none⟩) hFl).trans k2, HB0.out.trans (hb.mono hw0)⟩
  clear hB k0 k1 k2 hF hs0
  refine (strictFault_any f _ E _ Z (HF.out.keep (Kept.below HB0.out hD)) (fun b hb => by have := hD b hb; omega) hn (HE.out.keep HB0.out).errs).mono ?_
  rintro e w1 ⟨cc, vv, rfl, hc, hfv, hb1⟩
  have HC := Lib.hid hc
  have HV := Lib.hid hfv
  have HB1 := Lib.hid hb1
  obtain ⟨f0, f1, f2, hb01⟩ := HK.out w1 hb1
  have HE1 := Lib.hid (HE.out.keep hb01)
  have hbad := HE1.out.errs.1
  clear hc hfv hb1 hb01
  go_wp2_with fail
  refine (isBad_any cc vv E _ (codeF_vals HC.out) HV.out HE1.out).mono ?_
  rintro e w2 ⟨r, rfl, hr, hb2⟩
  have HR := Lib.hid hr
  have HB2 := Lib.hid (HB1.out.trans (hb2.mono HB1.out.size))
  clear hbad f0 f1 f2 hr hb2 HE1
  obtain ⟨f0, f1, f2, hb02⟩ := HK.out w2 HB2.out
  have HB02 := Lib.hid hb02
  cases r
  case true =>
    have h1 := HR.out.1 rfl
    subst h1
    have HG : Hid (CodeG f 1) := by
      rcases HC.out with ⟨h, _⟩ | ⟨hp, h⟩
      · exact .inl ⟨h, rfl⟩
      · rcases codeF_vals (.inr ⟨hp, h⟩) with h' | h' | h' | h' | h' <;> first | omega | skip
        rcases h with ⟨_, h⟩ | ⟨_, ⟨_, h⟩ | ⟨_, ⟨_, h⟩ | ⟨_, h⟩⟩⟩ <;> omega
    clear f0 f1 f2 hb02
    go_wp2_with fail
    go_ret
    exact ⟨1, _, rfl, HG.out, HV.out, HB02.out⟩
  have hc1 : cc ≠ 1 := fun h => by have := HR.out.2 h; cases this
  have HCP : Hid (FunP f ∧ CodeP f cc) := by
    rcases HC.out with ⟨_, h⟩ | h
    · exact absurd h hc1
    · exact h
  clear hb02
  go_wp2_with fail
  refine (hasMoves_any f _ _ Z (HF.out.keep (Kept.below HB02.out hD)) (fun b hb => by have h1 := hD b hb; have h2 := HB02.out.size; omega)).mono ?_
  rintro e w3 ⟨r, rfl, hr3, hb3⟩
  have HR3 := Lib.hid hr3
  have HB3 := Lib.hid (HB2.out.trans (hb3.mono HB2.out.size))
  clear f0 f1 f2 hr3 hb3
  obtain ⟨f0, f1, f2, hb03⟩ := HK.out w3 HB3.out
  have HB03 := Lib.hid hb03
  have hmv := (HE.out.keep hb03).moves
  clear hb03
  cases r
  case true =>
    have HG : Hid (CodeG f 2) := .inr ⟨HCP.out.1, .inl ⟨HR3.out.1 rfl, rfl⟩⟩
    clear f0 f1 f2
    go_wp2_with fail
    go_ret
    exact ⟨2, _, rfl, HG.out, .inr ⟨by decide, rfl⟩, HB03.out⟩
  have HNM : Hid (¬ MovesIn f) := fun h => by have := HR3.out.2 h; cases this
  clear hmv
  rcases HV.out with ⟨h0, hvv⟩ | ⟨h0, hvv⟩
  case inr =>
    subst hvv
    have HG : Hid (CodeG f cc) := .inr ⟨HCP.out.1, .inr ⟨HNM.out, cc, HCP.out.2, .inl ⟨h0, rfl⟩⟩⟩
    have HV' : Hid (FaultV E cc (.iface 70 (.agg #[.int .i64 cc, .iface 219 (.pointer (some (E cc)))]))) := .inr ⟨h0, rfl⟩
    clear h0 hc1
    go_wp2_with fail
    go_ret
    exact ⟨cc, _, rfl, HG.out, HV'.out, HB03.out⟩
  subst hvv h0
  clear hc1
  go_wp2_with fail
  refine (isLarge_any f _ _ Z HCP.out.1 (HF.out.keep (Kept.below HB03.out hD)) (fun b hb => by have h1 := hD b hb; have h2 := HB03.out.size; omega)).mono ?_
  rintro e w4 ⟨r, rfl, hr4, hb4⟩
  have HR4 := Lib.hid hr4
  have HB4 := Lib.hid (HB3.out.trans (hb4.mono HB3.out.size))
  clear f0 f1 f2 hr4 hb4
  obtain ⟨_, _, _, hb04⟩ := HK.out w4 HB4.out
  have HB04 := Lib.hid hb04
  have hlg := (HE.out.keep hb04).large
  clear hb04
  cases r
  case true =>
    have HG : Hid (CodeG f 6) := .inr ⟨HCP.out.1, .inr ⟨HNM.out, 0, HCP.out.2, .inr ⟨rfl, .inl ⟨HR4.out.1 rfl, rfl⟩⟩⟩⟩
    go_wp2_with fail
    go_ret
    exact ⟨6, _, rfl, HG.out, .inr ⟨by decide, rfl⟩, HB04.out⟩
  have HG : Hid (CodeG f 0) := .inr ⟨HCP.out.1, .inr ⟨HNM.out, 0, HCP.out.2, .inr ⟨rfl, .inr ⟨fun h => (by have := HR4.out.2 h; cases this), rfl⟩⟩⟩⟩
  clear hlg
  go_wp2_with fail
  go_ret
  exact ⟨0, _, rfl, HG.out, .inl ⟨rfl, rfl⟩, HB04.out⟩

def GivesCG (f : FunD) (w : World) (e : Ending) (w' : World) : Prop := ∃ c : Int, e = .returned (.int .i64 c) ∧ CodeG f c ∧ Below w.heap.size w w'

set_option maxRecDepth 10000 in
set_option maxHeartbeats 2000000 in
theorem CodeOf_any (f : FunD) (v : Value) (E : Int → Addr) (w : World) (Z : Zn) (hv : EFun w Z f v) (hD : ∀ b, Z.D b → b < w.heap.size) (hn : f.blocks.length ≤ 1048576) (hE : Err6 w E) : Calls Tryz.prog 14 #[v] w (GivesCG f w) := by
  have HF := Lib.hid hv
  have HE := Lib.hid hE
  obtain ⟨u, rfl, hu⟩ := hv
  obtain ⟨_, A, c, rfl, hx⟩ := hu
  have hB : Below w.heap.size w ((w.alloc (.cells #[.int .i64 f.params, .int .i64 f.names, .slice A f.blocks.length c] 26)).alloc (.cells #[.int .i64 0, .nilIface] 70)) := by
    repeat (first | exact Below.refl _ _ | refine Below.alloc ?_ (by first | (simp; done) | (simp; omega)) _)
  have t0 : ((w.alloc (.cells #[.int .i64 f.params, .int .i64 f.names, .slice A f.blocks.length c] 26)).alloc (.cells #[.int .i64 0, .nilIface] 70)).heap[w.heap.size + 1]? = some (.cells #[.int .i64 0, .nilIface] 70 (0, 0)) := by
    have h1 := heap_alloc_new (w.alloc (.cells #[.int .i64 f.params, .int .i64 f.names, .slice A f.blocks.length c] 26)) (.cells #[.int .i64 0, .nilIface] 70)
    simp only [World.size_alloc] at h1
    exact h1
  have hs0 : ((w.alloc (.cells #[.int .i64 f.params, .int .i64 f.names, .slice A f.blocks.length c] 26)).alloc (.cells #[.int .i64 0, .nilIface] 70)).heap.size = w.heap.size + 2 := by simp
  clear hx hE
  go_enter Tryz.func14, Tryz.ntmps14
  go_wp2_with fail
  obtain ⟨T, hT⟩ : ∃ T, T = w.heap.size + 1 := ⟨_, rfl⟩
  rw [← hT] at t0 ⊢
  generalize (w.alloc (.cells #[.int .i64 f.params, .int .i64 f.names, .slice A f.blocks.length c] 26)).alloc (.cells #[.int .i64 0, .nilIface] 70) = w0 at *
  have HB0 := Lib.hid hB
  have hwT : w.heap.size ≤ T := by omega
  have hTl : T < w0.heap.size := by omega
  have hw0 : w.heap.size ≤ w0.heap.size := by omega
  clear hB hT hs0
  refine (firstFault_any f _ E _ Z (HF.out.keep (Kept.below HB0.out hD)) (fun b hb => by have := hD b hb; omega) hn (HE.out.keep HB0.out)).mono ?_
  rintro e w1 ⟨cc, vv, rfl, hg, hfv, hb1⟩
  have HG := Lib.hid hg
  have HB01 : Hid (Below w.heap.size w w1) := HB0.out.trans (hb1.mono hw0)
  have ht1 := (hb1.block T hTl).trans t0
  clear hg hb1 t0
  rcases hfv with ⟨h0, rfl⟩ | ⟨h0, rfl⟩
  · subst h0
    clear ht1
    go_wp2_with (go_at_call 35; refine (as_nil _ _).mono ?_; rintro e w' ⟨rfl, rfl⟩)
    go_ret
    exact ⟨0, rfl, HG.out, HB01.out⟩
  · clear h0
    have HT1 := Lib.hid ht1
    clear ht1
    go_wp2_with fail
    refine (as_hit_any cc (E cc) T _ _ _ (HE.out.keep HB01.out).handle (cell_of_row w1 T 0 _ _ (0, 0) HT1.out) (cell_of_row w1 T 1 _ _ (0, 0) HT1.out) (frozen_of_row w1 T 0 _ _ HT1.out) (frozen_of_row w1 T 1 _ _ HT1.out)).mono ?_
    rintro e w2 ⟨rfl, hc2, hb2⟩
    have HB02 : Hid (Below w.heap.size w w2) := HB01.out.trans (hb2.mono hwT)
    clear hb2
    go_wp2_with fail
    go_ret
    exact ⟨cc, rfl, HG.out, HB02.out⟩
end

end Go.Proofs.YtnjmlhokkhkaaaaGreatDoor
