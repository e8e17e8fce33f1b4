/- l2Pick of the model: that it answers. -/
import Derived.Test.YteikpekffgifoaaDr2
namespace Go.Proofs.Yteikpekffgifoaa
open Go.ChangeShapes Go.WideShapes Go.ChangeAt Go.RowKit Go.Joins

def GInt (w : World) (Bc g : Nat) (L : Nat → List Nat) (e : Ending) (w' : World) : Prop := ∃ x : Int, e = .returned (.int .i64 x) ∧ DSta w' Bc g L ∧ Wr (· = [9]) L w w'

theorem OI.at_ {w : World} {B : Nat} {v : Value} {xs : List Int} (h : OI w B v xs) {k : Nat} (hk : k < xs.length) : ∃ gg c x, v = .slice (some ⟨gg, 0, none⟩) xs.length c ∧ w.cell? ⟨gg, k, none⟩ = some (.int .i64 x) := by
  have h0 := h
  rcases h.2 with ⟨rfl, hn⟩ | ⟨gg, cap, cur, rfl, _⟩
  · omega
  · refine ⟨gg, cap, xs[k], rfl, ?_⟩
    rw [World.ownsRow.cellAt h0 k (by omega), List.getElem?_map, List.getElem?_eq_getElem hk]
    rfl
theorem pick_bound {a n : Nat} (h : a ≤ n) (hn : n ≤ 100) : a * 1001 ≤ 100100 := by
  have : a * 1001 ≤ 100 * 1001 := Nat.mul_le_mul_right _ (by omega)
  omega

set_option maxRecDepth 10000 in
set_option maxHeartbeats 2000000 in
theorem l2Pick_any (f : FunD) (v vf : Value) (fs : List Int) (b : Nat) (below : Int) (w : World) (Z : Zn) (Bc g : Nat) (L : Nat → List Nat) (hv : EFun w Z f v) (hD : ∀ b, Z.D b → b < w.heap.size) (ht : TargetsP f) (hn : f.blocks.length ≤ 100) (hb : b < f.blocks.length)
    (hp : 1 ≤ f.params ∧ f.params ≤ 10) (hf : Row w Z 1 EInt vf fs) (hfl : fs.length = f.blocks.length + 1) (hfb : ∀ (i : Nat) x, fs[i]? = some x → 0 ≤ x ∧ x ≤ 1000) (hd : DSta w Bc g L) :
    Calls Try.prog 94 #[.pointer (some ⟨g, 0, none⟩), v, .int .i64 b, vf, .int .i64 below] w (GInt w Bc g L) := by
  have HF := Lib.hid hv
  obtain ⟨u, rfl, hu⟩ := hv
  obtain ⟨_, A, c, rfl, _⟩ := hu
  have HT := Lib.hid ht
  have HD0 := Lib.hid hd
  have HFB := Lib.hid hfb
  obtain ⟨_, A3, c3, rfl, hfx⟩ := hf
  obtain ⟨hp1, hp2⟩ := hp
  have HFL := Lib.hid hfl
  clear ht hd hfb hfl
  go_enter Try.func94, Try.ntmps94
  go_wp2_with fail
  go_loopw [11, 12] (fun q i wr => ∃ (k : Nat) (xs : List Int), (k : Int) ≤ f.params ∧ i = .int .i64 k ∧ xs.length = k ∧ Hid (OI wr (w.heap.size + 1) q xs) ∧ Hid (Below (w.heap.size + 1) (w.alloc (.cells #[.int .i64 f.params, .int .i64 f.names, .slice A f.blocks.length c] 26)) wr)) (fun _ i _ => (f.params - intOf i).toNat)
  case atStart => exact ⟨0, [], by omega, rfl, rfl, OI_lit0 _ (by simp) (Nat.le_refl _), (Below.refl _ _).alloc (by simp) _⟩
  case round =>
    obtain ⟨k, xs, hk, rfl, rfl, HO, HB⟩ := hrel
    have HB0 : Hid (Below w.heap.size w wr) := ((Below.refl _ _).alloc (Nat.le_refl _) _).trans (HB.out.mono (by omega))
    have hzw : w.heap.size + 1 ≤ wr.heap.size := by have := HB.out.size; simp at this; omega
    have f0 : wr.cell? ⟨w.heap.size, 0, none⟩ = some (.int .i64 f.params) := (HB.out.cell (p := ⟨w.heap.size, 0, none⟩) (by simp)).trans (by go_simp)
    have f1 : wr.cell? ⟨w.heap.size, 1, none⟩ = some (.int .i64 f.names) := (HB.out.cell (p := ⟨w.heap.size, 1, none⟩) (by simp)).trans (by go_simp)
    have f2 : wr.cell? ⟨w.heap.size, 2, none⟩ = some (.slice A f.blocks.length c) := (HB.out.cell (p := ⟨w.heap.size, 2, none⟩) (by simp)).trans (by go_simp)
    by_cases hlt : (xs.length : Int) < f.params
    · go_wp2_with (at_builtin; go_must (refine wpList_append_int rfl (.tmp 22) (.tmp 24) rfl (w.heap.size + 1) _ xs xs.length wr rfl HO.out rfl (by omega) (by omega) ?_; intro v' w2 hown2 hg2 hat2; have HO2 := Lib.hid hown2; have HB2 := Lib.hid (HB.out.grown hg2 (by omega) (fun k hk => (HO.out.lt k hk).1)); clear hown2 hg2 hat2))
      go_roundw
      case rel => exact ⟨xs.length + 1, xs ++ [(xs.length : Int)], by omega, by go_num, by simp, HO2.out, HB2.out⟩
      case measure => simp [intOf]; omega
    have hge : f.params ≤ (xs.length : Int) := by omega
    clear hlt
    go_wp2_with fail
    have hl1 : 1 ≤ xs.length := by omega
    have hl10 : xs.length ≤ 10 := by omega
    go_loopw [11, 13, 14] (fun q i _ wr => ∃ (a : Nat) (xs : List Int), a ≤ f.blocks.length ∧ i = .int .i64 a ∧ 1 ≤ xs.length ∧ xs.length ≤ 10 + a * 1001 ∧ Hid (OI wr (w.heap.size + 1) q xs) ∧ Hid (Below (w.heap.size + 1) (w.alloc (.cells #[.int .i64 f.params, .int .i64 f.names, .slice A f.blocks.length c] 26)) wr)) (fun _ i _ _ => f.blocks.length - (intOf i).toNat)
    case atStart => exact ⟨0, xs, Nat.zero_le _, rfl, hl1, by omega, HO.out, HB.out⟩
    case round =>
      obtain ⟨a, xs, ha, rfl, hx1, hx2, HO, HB⟩ := hrel
      have HB0 : Hid (Below w.heap.size w wr) := ((Below.refl _ _).alloc (Nat.le_refl _) _).trans (HB.out.mono (by omega))
      have hzw : w.heap.size + 1 ≤ wr.heap.size := by have := HB.out.size; simp at this; omega
      have f0 : wr.cell? ⟨w.heap.size, 0, none⟩ = some (.int .i64 f.params) := (HB.out.cell (p := ⟨w.heap.size, 0, none⟩) (by simp)).trans (by go_simp)
      have f1 : wr.cell? ⟨w.heap.size, 1, none⟩ = some (.int .i64 f.names) := (HB.out.cell (p := ⟨w.heap.size, 1, none⟩) (by simp)).trans (by go_simp)
      have f2 : wr.cell? ⟨w.heap.size, 2, none⟩ = some (.slice A f.blocks.length c) := (HB.out.cell (p := ⟨w.heap.size, 2, none⟩) (by simp)).trans (by go_simp)
      have hab := pick_bound ha hn
      by_cases hlt : a < f.blocks.length
      · have hlt' : (a : Int) < (f.blocks.length : Int) := by omega
        go_wp2_with fail
        refine (l4Dom_any f _ a b _ Z (HF.out.keep (Kept.below HB0.out hD)) (fun b hb => by have := hD b hb; omega) HT.out (by omega) hb).mono ?_
        rintro e w1 ⟨⟨r, rfl⟩, hb1⟩
        have HO1 := Lib.hid (HO.out.below hb1 fun k hk => (HO.out.lt k hk).2)
        have HB1 := Lib.hid (HB.out.trans (hb1.mono hzw))
        have hz1 := hb1.size
        clear hb1
        cases r
        · go_wp2_with fail
          go_roundw
          case rel => exact ⟨a + 1, xs, by omega, by go_num, hx1, by omega, HO1.out, HB1.out⟩
          case measure => simp [intOf]; omega
        have h3l : a + 1 < fs.length := by have := HFL.out; omega
        have h3i : ((a : Int) + 1) < (fs.length : Int) := by omega
        have h3j : (a : Int) < (fs.length : Int) := by omega
        have ha0 : 0 ≤ (a : Int) := by omega
        have ha1 : 0 ≤ (a : Int) + 1 := by omega
        have hna : ((a : Int) + 1).toNat = a + 1 := by omega
        have hxa : fs[a]? = some fs[a] := List.getElem?_eq_getElem (by omega)
        have hxb : fs[a + 1]? = some fs[a + 1] := List.getElem?_eq_getElem (by omega)
        generalize fs[a] = fa at hxa
        generalize fs[a + 1] = fb at hxb
        obtain ⟨hfa0, hfa1⟩ := HFB.out a fa hxa
        obtain ⟨hfb0, hfb1⟩ := HFB.out (a + 1) fb hxb
        obtain ⟨b3, off3, rfl, hD3, hrow3⟩ := hfx (by rintro rfl; simp at h3l)
        obtain ⟨cs, rfl, hcs⟩ := hrow3 a fa hxa
        obtain ⟨cs', rfl, hcs'⟩ := hrow3 (a + 1) fb hxb
        have hb3 := hD b3 hD3
        have HB01 : Hid (Below w.heap.size w w1) := ((Below.refl _ _).alloc (Nat.le_refl _) _).trans (HB1.out.mono (by omega))
        have p0 : w.cell? ⟨b3, off3 + a, none⟩ = some (.int .i64 fa) := by have := (hcs 0 _ rfl).1; rwa [Nat.mul_one] at this
        have p1 : w.cell? ⟨b3, off3 + (a + 1), none⟩ = some (.int .i64 fb) := by have := (hcs' 0 _ rfl).1; rwa [Nat.mul_one] at this
        have P0 := Lib.hid p0
        have P1 := Lib.hid p1
        have d0 : w1.cell? ⟨b3, off3 + a, none⟩ = some (.int .i64 fa) := (HB01.out.cell (p := ⟨b3, _, none⟩) hb3).trans p0
        clear p0 p1 hcs hcs' hrow3 hfx hxa hxb f0 f1 f2
        go_wp2_with fail
        have ha10 : a * 1001 ≤ 100100 := hab
        have hx2' : (xs.length : Int) ≤ 10 + (a * 1001 : Nat) := by omega
        go_loopw [11, 14] (fun q kq wq => ∃ (kk : Int) (ys : List Int), kq = .int .i64 kk ∧ fa ≤ kk ∧ kk ≤ 1000 ∧ 1 ≤ ys.length ∧ (ys.length : Int) ≤ 10 + (a * 1001 : Nat) + (kk - fa) ∧ Hid (OI wq (w.heap.size + 1) q ys) ∧ Hid (Below (w.heap.size + 1) (w.alloc (.cells #[.int .i64 f.params, .int .i64 f.names, .slice A f.blocks.length c] 26)) wq)) (fun _ kq _ => (1001 - intOf kq).toNat)
        case atStart => exact ⟨fa, xs, rfl, by omega, by omega, hx1, by omega, HO1.out, HB1.out⟩
        case round =>
          obtain ⟨kk, ys, rfl, hk1, hk2, hy1, hy2, HO, HB⟩ := hrel
          have HB0 : Hid (Below w.heap.size w wr) := ((Below.refl _ _).alloc (Nat.le_refl _) _).trans (HB.out.mono (by omega))
          have hzw : w.heap.size + 1 ≤ wr.heap.size := by have := HB.out.size; simp at this; omega
          have d1 : wr.cell? ⟨b3, off3 + (a + 1), none⟩ = some (.int .i64 fb) := (HB0.out.cell (p := ⟨b3, _, none⟩) hb3).trans P1.out
          by_cases hkb : kk < fb
          case neg =>
            have hkb' : fb ≤ kk := by omega
            clear hkb
            go_wp2_with fail
            go_roundw
            case rel => exact ⟨a + 1, ys, by omega, by go_num, hy1, by omega, HO.out, HB.out⟩
            case measure => simp [intOf]; omega
          by_cases hcond : ((a : Int) != (b : Int)) = false ∧ below ≤ kk
          · obtain ⟨g1, g2⟩ := hcond
            go_wp2_with fail
            go_roundw
            case rel => exact ⟨a + 1, ys, by omega, by go_num, hy1, by omega, HO.out, HB.out⟩
            case measure => simp [intOf]; omega
          have hor : ((a : Int) != (b : Int)) = true ∨ (((a : Int) != (b : Int)) = false ∧ kk < below) := by
            cases hq : ((a : Int) != (b : Int))
            · right
              refine ⟨rfl, ?_⟩
              rcases Int.lt_or_le kk below with h | h
              · exact h
              · exact absurd ⟨hq, h⟩ hcond
            · exact .inl rfl
          clear hcond
          rcases hor with g1 | ⟨g1, g2⟩
          all_goals
            go_wp2_with (at_builtin; go_must (refine wpList_append_int rfl (.tmp 61) (.tmp 63) rfl (w.heap.size + 1) _ ys kk wr rfl HO.out rfl (by omega) (by omega) ?_; intro v' w2 hown2 hg2 hat2; have HO2 := Lib.hid hown2; have HB2 := Lib.hid (HB.out.grown hg2 (by omega) (fun k hk => (HO.out.lt k hk).1)); clear hown2 hg2 hat2))
            go_roundw
            case rel => exact ⟨kk + 1, ys ++ [kk], rfl, by omega, by omega, by simp, by simp; omega, HO2.out, HB2.out⟩
            case measure => simp [intOf]; omega
      · obtain rfl : a = f.blocks.length := by omega
        have HWb : Hid (Wr (fun _ => False) L w wr) := Wr.below HB0.out
        have HD1 := Lib.hid (HD0.out.keep HWb.out (LExt.refl _ _) (fun h => h) fun h => h)
        have hgl := HD0.out.lt
        have hown : ∀ k, u11.ownBlock = some k → k ≠ g := fun k hk => by have := (HO.out.lt k hk).1; omega
        have HOW := Lib.hid hown
        have hne11 : u11.ownBlock = none ∨ u11.ownBlock ≠ some g := by
          rcases hob : u11.ownBlock with _ | k
          · exact .inl rfl
          · exact .inr fun e => by injection e with e; exact hown k hob e
        clear hown
        go_wp2_with fail
        refine (l1Once_any Bc g _ _ HD1.out.cur).mono ?_
        rintro e w1 ⟨bb, rfl, hc1, hg1⟩
        have HO1 := Lib.hid (HO.out.grown hg1 hne11)
        have HC1 := Lib.hid hc1
        have HG1 := Lib.hid hg1
        clear hc1 hg1 HO
        have hln : (xs.length : Int) ≤ 1000000 := by omega
        have hl1' : 1 ≤ (xs.length : Int) := by omega
        have hfin : ∀ w2 : World, Cur w2 Bc g → w1.grownBy w2 (some g) → DSta w2 Bc g L ∧ Wr (· = [9]) L w w2 := fun w2 hc hg =>
          ⟨HD0.out.grown hc, (HWb.out.mono fun _ h => h.elim).trans (Wr.grown (HG1.out.trans hg) fun g' e => by injection e with e; rw [← e]; exact HD0.out.lg) (LExt.refl _ _)⟩
        have HFIN := Lib.hid hfin
        clear hfin
        obtain ⟨A11, c11, he11⟩ : ∃ A c, u11 = .slice A xs.length c := by
          obtain ⟨_, A, c, rfl, _⟩ := HO1.out.ri
          exact ⟨A, c, rfl⟩
        subst he11
        cases bb
        · go_wp2_with fail
          refine (l1Below_any Bc g _ _ HC1.out).mono ?_
          rintro e w2 ⟨y, rfl, hy0, hy1, hc2, hg2⟩
          have HO2 := Lib.hid (HO1.out.grown hg2 hne11)
          have hF := HFIN.out w2 hc2 hg2
          have HF2 := Lib.hid hF
          obtain ⟨yn, rfl⟩ : ∃ yn : Nat, y = yn := ⟨y.toNat, by omega⟩
          have hyn : yn < xs.length := by omega
          have hyn' : (yn : Int) < (xs.length : Int) := by omega
          obtain ⟨gg, cc, x, he, hcell⟩ := HO2.out.at_ hyn
          injection he with e1 _ e2
          subst e1 e2
          clear hc2 hg2 hF hy1
          go_wp2_with fail
          go_ret
          exact ⟨_, rfl, HF2.out.1, HF2.out.2⟩
        · go_wp2_with fail
          refine (l1Min_any _ _ _).mono ?_
          rintro e w' ⟨rfl, rfl⟩
          obtain ⟨mn, hmn⟩ : ∃ mn : Int, mn = min 3 (xs.length : Int) := ⟨_, rfl⟩
          have hmn0 : 1 ≤ mn ∧ mn ≤ (xs.length : Int) := by omega
          rw [← hmn]
          clear hmn
          go_wp2_with fail
          refine (l1Below_any Bc g _ _ HC1.out).mono ?_
          rintro e w2 ⟨y, rfl, hy0, hy1, hc2, hg2⟩
          have HO2 := Lib.hid (HO1.out.grown hg2 hne11)
          have hF := HFIN.out w2 hc2 hg2
          have HF2 := Lib.hid hF
          obtain ⟨yn, hyn⟩ : ∃ yn : Nat, (xs.length : Int) - 1 - y = yn := ⟨((xs.length : Int) - 1 - y).toNat, by omega⟩
          have hyl : yn < xs.length := by omega
          have hyl' : (yn : Int) < (xs.length : Int) := by omega
          obtain ⟨gg, cc, x, he, hcell⟩ := HO2.out.at_ hyl
          injection he with e1 _ e2
          subst e1 e2
          have hy2 : y ≤ (xs.length : Int) - 1 := by omega
          clear hc2 hg2 hF hy1 hmn0
          go_wp2_with fail
          go_ret
          exact ⟨_, rfl, HF2.out.1, HF2.out.2⟩

end Go.Proofs.Yteikpekffgifoaa
