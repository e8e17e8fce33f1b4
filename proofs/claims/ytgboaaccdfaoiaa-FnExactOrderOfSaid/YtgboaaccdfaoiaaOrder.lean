/- OrderOf of both sides. -/
import Derived.Test.YtgboaaccdfaoiaaFin
import Derived.Test.YtgboaaccdfaoiaaRev
import Derived.Test.YtgboaaccdfaoiaaReached
import Derived.Deep.DeepCutAuto
namespace Go.Proofs.Ytgboaaccdfaoiaa
open Go.ChangeShapes Go.WideShapes Go.ChangeAt Go.RowKit Go.Joins

/-- What OrderOf answers. -/
def OrderRes (f : FunD) (xs : List Int) : Prop := (FunP f ∧ xs = (dfs0 (scF f.blocks) f.blocks.length).2.reverse) ∨ (¬ FunP f ∧ xs = [])
theorem OrderRes.one {f : FunD} {xs ys : List Int} (h : OrderRes f xs) (k : OrderRes f ys) : xs = ys := by
  rcases h with ⟨h1, rfl⟩ | ⟨h1, rfl⟩ <;> rcases k with ⟨k1, rfl⟩ | ⟨k1, rfl⟩
  · rfl
  · exact absurd h1 k1
  · exact absurd k1 h1
  · rfl
theorem OrderRes.len {f : FunD} {xs : List Int} (h : OrderRes f xs) : xs.length ≤ f.blocks.length := by
  rcases h with ⟨h, rfl⟩ | ⟨_, rfl⟩
  · rw [List.length_reverse]; exact dfs0_len (targets_of h).sc h.1.1.1
  · simp
def GivesOrder (f : FunD) (w : World) (e : Ending) (w' : World) : Prop := ∃ xs r, e = .returned r ∧ OrderRes f xs ∧ OI w' w.heap.size r xs ∧ Below w.heap.size w w'

set_option maxRecDepth 10000 in
set_option maxHeartbeats 1000000 in
theorem OrderOf_any (f : FunD) (v : Value) (w : World) (Z : Zn) (hv : EFun w Z f v) (hD : ∀ b, Z.D b → b < w.heap.size) (hn : f.blocks.length ≤ 1048576) : Calls Try.prog 24 #[v] w (GivesOrder f w) := by
  have HF := Lib.hid hv
  obtain ⟨u, rfl, hu⟩ := hv
  obtain ⟨_, A, c, rfl, hx⟩ := hu
  clear hx
  go_enter Try.func24, Try.ntmps24
  go_wp2_with fail
  refine (FunOk_any f _ _ Z (HF.out.keep (Kept.below ((Below.refl _ _).alloc (Nat.le_refl _) _) hD)) (fun b hb => by have := hD b hb; simp; omega) hn).mono ?_
  rintro e w1 ⟨r, rfl, hr, hb1⟩
  have HR := Lib.hid hr
  have HB1 := Lib.hid (hb1.mono (B' := w.heap.size + 1) (by simp))
  have HB01 : Hid (Below w.heap.size w w1) := ((Below.refl _ _).alloc (Nat.le_refl _) _).trans (HB1.out.mono (by omega))
  have hz1 : w.heap.size + 1 ≤ w1.heap.size := by have := hb1.size; simp at this; omega
  obtain ⟨hc1, hf1⟩ := bcellB HB1.out
  clear hb1 hf1 hr
  cases r
  · have HN : Hid (¬ FunP f) := fun h => by have := HR.out.2 h; cases this
    go_wp2_with fail
    go_ret
    exact ⟨[], _, rfl, .inr ⟨HN.out, rfl⟩, OI_lit0 _ rfl (by omega), HB01.out.alloc (by omega) _⟩
  have HP := Lib.hid (HR.out.1 rfl)
  clear HR
  have h1n := HP.out.1.1.1
  have h40 := HP.out.1.1.2
  go_wp2_with fail
  refine (walkFromStart_any f.blocks _ _ Z (HF.out.row.keep (Kept.below HB01.out hD) fun _ _ h => h.keep (Kept.below HB01.out hD)) (fun b hb => by have := hD b hb; omega) (targets_of HP.out) h1n (by omega)).mono ?_
  rintro e w3 ⟨q, fin, rfl, hbl, hoi, hq, hb3⟩
  have HB03 := Lib.hid (HB01.out.trans (hb3.mono (by omega)))
  have HOI := Lib.hid hoi
  have hz3 := hb3.size
  have hfl := field_walk2
  obtain ⟨_, A3, c3, rfl, _⟩ := hoi.ri
  clear hb3 hoi hbl hc1
  go_wp2_with fail
  refine (Reverse_any _ _ _ _ HOI.out).mono ?_
  rintro e w4 ⟨⟨_, rfl⟩, ho4, hg4⟩
  have HOI4 := Lib.hid ho4
  have HB04 := Lib.hid (HB03.out.grown hg4 (by omega) fun k hk => by have := (HOI.out.lt k hk).1; omega)
  clear ho4 hg4 hfl
  go_wp2_with fail
  go_ret
  exact ⟨_, _, rfl, .inl ⟨HP.out, rfl⟩, World.ownsRow.mono HOI4.out (by omega), HB04.out⟩

theorem fin_startA (w : World) (N q : Nat) (hq : w.heap.size = q) (hm : N ≤ maxLen) : BL ((w.alloc (.cells (madeCells #[.bool false] N) 4)).alloc (.cells #[] 2)).drew q N (List.replicate N false) ∧ OI ((w.alloc (.cells (madeCells #[.bool false] N) 4)).alloc (.cells #[] 2)).drew q (.slice (some ⟨q + 1, 0, none⟩) 0 0) [] := by
  subst hq
  have h1 := (BL.start w N hm).fw (Fw.alloc (fun _ => False) _ (.cells #[] 2)) fun h => h
  have h2 := OI_lit0 (w.alloc (.cells (madeCells #[.bool false] N) 4)) (B := w.heap.size) (g := w.heap.size + 1) (by simp) (by omega)
  exact ⟨h1, h2⟩
theorem fin_startB (w : World) (N q : Nat) (hq : w.heap.size = q) (hm : N ≤ maxLen) : BL ((w.alloc (.cells #[] 2)).alloc (.cells (madeCells #[.bool false] N) 4)).drew (q + 1) N (List.replicate N false) ∧ OI ((w.alloc (.cells #[] 2)).alloc (.cells (madeCells #[.bool false] N) 4)).drew q (.slice (some ⟨q, 0, none⟩) 0 0) [] := by
  subst hq
  have h := BL.start (w.alloc (.cells #[] 2)) N hm
  have hs : (w.alloc (.cells #[] 2)).heap.size = w.heap.size + 1 := by simp
  rw [hs] at h
  have h2 := (OI_lit0 w rfl (Nat.le_refl _)).fw (Fw.alloc (fun _ => False) _ (.cells (madeCells #[.bool false] N) 4)) fun _ _ h => h
  exact ⟨h, h2⟩
theorem FP.far {q B : Nat} {fin : Value} (hq : B ≤ q) (hf : ∀ k, fin.ownBlock = some k → B ≤ k) : ∀ k, k < B → ¬ FP q fin k := by
  rintro k hk (e | e)
  · omega
  · have := hf k e; omega
theorem own_ge {g B n c : Nat} (h : B ≤ g) : ∀ k, (Value.slice (some ⟨g, 0, none⟩) n c).ownBlock = some k → B ≤ k := by
  intro k e
  injection e with e
  have e' : g = k := e
  omega
theorem own_ne {g q n c : Nat} (h : g ≠ q) : (Value.slice (some ⟨g, 0, none⟩) n c).ownBlock ≠ some q := by
  intro e
  injection e with e
  exact h e
theorem l3Finish_0 (f : FunD) (Z : Zn) (q g B : Nat) (w : World) (v : Value) (hp : FunP f) (hD : ∀ b, Z.D b → b < B ∧ b ≠ q) (hv : EFun w Z f v) (hs : BL w q f.blocks.length (List.replicate f.blocks.length false) ∧ OI w B (.slice (some ⟨g, 0, none⟩) 0 0) []) (hne : g ≠ q) (hB : B ≤ w.heap.size) :
    Calls Try.prog 74 #[v, .int .i64 0, .slice (some ⟨q, 0, none⟩) f.blocks.length f.blocks.length, .slice (some ⟨g, 0, none⟩) 0 0] w (GivesFin w q B f.blocks.length (.slice (some ⟨g, 0, none⟩) 0 0) (dfs0 (scF f.blocks) f.blocks.length)) :=
  l3Finish_any f Z q B f.blocks.length (targets_of hp).r (by have := hp.1.1.2; omega) (by have := hp.1.1.2; omega) hD f.blocks.length 0 w v _ (List.replicate f.blocks.length false, []) hv hs.1 hs.2 (own_ne hne) hB (inv0 _) (by show cf (List.replicate f.blocks.length false) ≤ _; rw [cf_replicate]; omega) (get_replicate hp.1.1.1)
theorem drop_rev {xs : List Int} {k : Nat} {x : Int} (h : xs[k]? = some x) : (xs.drop (k + 1)).reverse ++ [x] = (xs.drop k).reverse := by
  obtain ⟨hk, rfl⟩ := List.getElem?_eq_some_iff.1 h
  rw [← List.reverse_cons, List.drop_eq_getElem_cons hk]

set_option maxRecDepth 10000 in
set_option maxHeartbeats 1000000 in
theorem sOrderOf_any (f : FunD) (v : Value) (w : World) (Z : Zn) (hv : EFun w Z f v) (hD : ∀ b, Z.D b → b < w.heap.size) (hn : f.blocks.length ≤ 1048576) : Calls Try.prog 30 #[v] w (GivesOrder f w) := by
  have HF := Lib.hid hv
  obtain ⟨u, rfl, hu⟩ := hv
  obtain ⟨_, A, c, rfl, hx⟩ := hu
  clear hx
  go_enter Try.func30, Try.ntmps30
  go_wp2_with fail
  refine (sFunOk_any f _ _ Z (HF.out.keep (Kept.below ((Below.refl _ _).alloc (Nat.le_refl _) _) hD)) (fun b hb => by have := hD b hb; simp; omega) hn).mono ?_
  rintro e w1 ⟨r, rfl, hr, hb1⟩
  have HR := Lib.hid hr
  have HB1 := Lib.hid (hb1.mono (B' := w.heap.size + 1) (by simp))
  have HB01 : Hid (Below w.heap.size w w1) := ((Below.refl _ _).alloc (Nat.le_refl _) _).trans (HB1.out.mono (by omega))
  have hz1 : w.heap.size + 1 ≤ w1.heap.size := by have := hb1.size; simp at this; omega
  obtain ⟨hc1, hf1⟩ := bcellB HB1.out
  clear hb1 hf1 hr
  cases r
  · have HN : Hid (¬ FunP f) := fun h => by have := HR.out.2 h; cases this
    go_wp2_with fail
    go_ret
    exact ⟨[], _, rfl, .inr ⟨HN.out, rfl⟩, OI_lit0 _ rfl (by omega), HB01.out.alloc (by omega) _⟩
  have HP := Lib.hid (HR.out.1 rfl)
  clear HR
  have h1n := HP.out.1.1.1
  have h40 := HP.out.1.1.2
  have hml : f.blocks.length ≤ maxLen := by rw [maxLen_is]; omega
  have HDF := Lib.hid (dfs0_len (targets_of HP.out).sc h1n)
  obtain ⟨i0, hi, hz0, hz1', hz2⟩ := info_parts info_boolr
  have hmk := fun W => run_make_rowN (P := Try.prog) 46 4 i0 _ Try.underlying46 hi hz0 .i64 .i64 f.blocks.length f.blocks.length (Nat.le_refl _) (by rw [hz2]; omega) (by omega) W
  rw [hz1'] at hmk
  clear hi hz0 hz1' hz2
  have e0 : w1.cell? ⟨w.heap.size, 0, none⟩ = some (.int .i64 f.params) := (HB1.out.cell (p := ⟨w.heap.size, 0, none⟩) (by simp)).trans (by go_simp)
  have e1 : w1.cell? ⟨w.heap.size, 1, none⟩ = some (.int .i64 f.names) := (HB1.out.cell (p := ⟨w.heap.size, 1, none⟩) (by simp)).trans (by go_simp)
  have e2 : w1.cell? ⟨w.heap.size, 2, none⟩ = some (.slice A f.blocks.length c) := (HB1.out.cell (p := ⟨w.heap.size, 2, none⟩) (by simp)).trans (by go_simp)
  have hDD : ∀ q, w1.heap.size ≤ q → ∀ b, Z.D b → b < w1.heap.size ∧ b ≠ q := fun q hq b hb => by have := hD b hb; omega
  have keepB : ∀ w7 : World, Below (w.heap.size + 1) w1 w7 → (fun w' => w'.cell? ⟨w.heap.size, 0, none⟩ = some (.int .i64 f.params) ∧ w'.cell? ⟨w.heap.size, 1, none⟩ = some (.int .i64 f.names) ∧ w'.cell? ⟨w.heap.size, 2, none⟩ = some (.slice A f.blocks.length c)) w7 := fun w7 hb => ⟨(hb.cell (p := ⟨w.heap.size, 0, none⟩) (by simp)).trans e0, (hb.cell (p := ⟨w.heap.size, 1, none⟩) (by simp)).trans e1, (hb.cell (p := ⟨w.heap.size, 2, none⟩) (by simp)).trans e2⟩
  have HKB := Lib.hid keepB
  clear keepB e0 e1 e2 hc1
  go_upto_region 3 with (fail)
  go_cut [4] (fun s4 wx => ∃ A3 c3, s4 = .slice A3 (dfs0 (scF f.blocks) f.blocks.length).2.length c3 ∧ Hid (Below (w.heap.size + 1) w1 wx) ∧ Hid (OI wx w1.heap.size (.slice A3 (dfs0 (scF f.blocks) f.blocks.length).2.length c3) (dfs0 (scF f.blocks) f.blocks.length).2))
  case first =>
    have keepB := HKB.out
    have K := keepB _ (below_drewN (Below.refl _ w1) 1)
    go_region_held3 (fun w' => w'.cell? ⟨w.heap.size, 0, none⟩ = some (.int .i64 f.params) ∧ w'.cell? ⟨w.heap.size, 1, none⟩ = some (.int .i64 f.names) ∧ w'.cell? ⟨w.heap.size, 2, none⟩ = some (.slice A f.blocks.length c)) (first | exact K | exact K3 | exact keepB _ ((Below.refl _ w1).alloc (by omega) _).drew | exact keepB _ (((Below.refl _ w1).alloc (by omega) _).alloc (by simp; omega) _).drew | fail)
      (first
      | (go_at_call 74; (with_reducible refine (l3Finish_0 f Z w1.heap.size (w1.heap.size + 1) w1.heap.size _ _ HP.out (hDD w1.heap.size (by omega)) (HF.out.keep (Kept.below ((HB01.out.alloc (by omega) _).alloc (by simp; omega) _).drew hD)) (fin_startA w1 f.blocks.length w1.heap.size rfl hml) (by omega) (by simp; omega)).mono ?_); rintro e w3 ⟨fin3, rfl, hbl3, hoi3, hf3, ha3⟩; have hB3 : Below (w.heap.size + 1) w1 w3 := (((Below.refl (w.heap.size + 1) w1).alloc (by omega) _).alloc (by simp; omega) _).drew.trans (hf3.toBelow (by simp; omega) (FP.far (by omega) (own_ge (by omega)))); have HB3 := Lib.hid hB3; have HO3 : Hid (OI w3 w1.heap.size fin3 (dfs0 (scF f.blocks) f.blocks.length).2) := hoi3; have K3 := keepB w3 hB3; obtain ⟨_, A3, c3, rfl, _⟩ := hoi3.ri; clear hbl3 hoi3 hf3 ha3 hB3)
      | (go_at_call 74; (with_reducible refine (l3Finish_0 f Z (w1.heap.size + 1) w1.heap.size w1.heap.size _ _ HP.out (hDD (w1.heap.size + 1) (by omega)) (HF.out.keep (Kept.below ((HB01.out.alloc (by omega) _).alloc (by simp; omega) _).drew hD)) (fin_startB w1 f.blocks.length w1.heap.size rfl hml) (by omega) (by simp; omega)).mono ?_); rintro e w3 ⟨fin3, rfl, hbl3, hoi3, hf3, ha3⟩; have hB3 : Below (w.heap.size + 1) w1 w3 := (((Below.refl (w.heap.size + 1) w1).alloc (by omega) _).alloc (by simp; omega) _).drew.trans (hf3.toBelow (by simp; omega) (FP.far (by omega) (own_ge (by omega)))); have HB3 := Lib.hid hB3; have HO3 : Hid (OI w3 w1.heap.size fin3 (dfs0 (scF f.blocks) f.blocks.length).2) := hoi3; have K3 := keepB w3 hB3; obtain ⟨_, A3, c3, rfl, _⟩ := hoi3.ri; clear hbl3 hoi3 hf3 ha3 hB3)
      | fail)
    all_goals (go_wp2_with fail; go_meet; exact ⟨_, _, rfl, HB3, HO3⟩)
  case rest =>
    obtain ⟨A3, c3, rfl, HB3, HO3⟩ := hcut
    have HB03 : Hid (Below w.heap.size w wc) := HB01.out.trans (HB3.out.mono (by omega))
    have hz3 := HB3.out.size
    generalize hxs : (dfs0 (scF f.blocks) f.blocks.length).2 = xs at HO3 HDF
    have HXS := Lib.hid hxs
    have hxl := HDF.out
    have hB3 : Hid (OI wc w1.heap.size (.slice A3 xs.length c3) xs) := HO3.out
    clear hxs HKB hDD hmk
    go_wp2_with fail
    go_loopw [5, 6] (fun ov i wr => ∃ k : Nat, k ≤ xs.length ∧ i = .int .i64 ((k : Int) - 1) ∧ Hid (OI wr wc.heap.size ov (xs.drop k).reverse) ∧ Hid (Below wc.heap.size wc wr)) (fun _ i _ => (intOf i + 1).toNat)
    case atStart =>
      refine ⟨xs.length, Nat.le_refl _, rfl, ?_, (Below.refl _ _).alloc (Nat.le_refl _) _⟩
      rw [List.drop_length]
      exact OI_lit0 wc rfl (Nat.le_refl _)
    case round =>
      obtain ⟨k, hk, rfl, HO, HB⟩ := hrel
      rcases Nat.eq_zero_or_pos k with rfl | hkp
      · have HO' : Hid (OI wr wc.heap.size u5 xs.reverse) := HO.out
        go_wp2
        go_ret
        exact ⟨_, _, rfl, .inl ⟨HP.out, by rw [HXS.out]⟩, World.ownsRow.mono HO'.out (by omega), HB03.out.trans (HB.out.mono (by omega))⟩
      obtain ⟨m, rfl⟩ : ∃ m, k = m + 1 := ⟨k - 1, by omega⟩
      have hmx : xs[m]? = some xs[m] := List.getElem?_eq_getElem (by omega)
      generalize xs[m] = x at hmx
      obtain ⟨_, A3', c3', he3, hux⟩ := hB3.out.ri
      injection he3 with q1 _ q2
      subst q1 q2
      obtain ⟨b', off', rfl, hcell⟩ := hux (by rintro rfl; simp at hmx)
      have hb' := hB3.out.lt b' rfl
      have p0 : wr.cell? ⟨b', off' + m, none⟩ = some (.int .i64 x) := (HB.out.cell (p := ⟨b', _, none⟩) hb'.2).trans (hcell m _ hmx)
      have HDR := Lib.hid (drop_rev hmx)
      have hm1 : (m : Int) < (xs.length : Int) := by omega
      have hdl : (xs.drop (m + 1)).reverse.length ≤ 1048576 := by rw [List.length_reverse, List.length_drop]; omega
      have hwz := HB.out.size
      have HO' : Hid (OI wr wc.heap.size u5 (xs.drop (m + 1)).reverse) := HO.out
      obtain ⟨_, A5, c5, rfl, _⟩ := HO.out.ri
      clear hcell hux hmx
      go_wp2_with (at_builtin; go_must (refine wpList_append_int rfl (.tmp 29) (.tmp 34) rfl wc.heap.size _ (xs.drop (m + 1)).reverse x wr rfl HO'.out rfl (by omega) hdl ?_; intro v' w9 hown9 hg9 hat9; have HO9 := Lib.hid hown9; have HG9 := Lib.hid hg9; clear hown9 hg9 hat9))
      go_roundw
      case rel => exact ⟨m, by omega, by go_num, by rw [← HDR.out]; exact HO9.out, HB.out.grown HG9.out hwz fun k hk => (HO'.out.lt k hk).1⟩
      case measure => simp [intOf]

end Go.Proofs.Ytgboaaccdfaoiaa
