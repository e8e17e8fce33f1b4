/- Order, Draw, Code, LawK, GrP, joined. -/
import Derived.Test.YteikpekffgifoaaGr1
import Derived.Test.YteikpekffgifoaaGr6
import Derived.Test.YteikpekffgifoaaGr7
import Derived.Test.YteikpekffgifoaaGr8
import Derived.Deep.DeepCutAuto
import Derived.Deep.Draws
namespace Go.Proofs.Yteikpekffgifoaa

/- OrderOf of both sides. -/
section
open Go.ChangeShapes Go.WideShapes Go.ChangeAt Go.RowKit Go.Joins

/-- What OrderOf answers. -/
def OrderRes (f : FunD) (xs : List Int) : Prop := (FunP f ∧ xs = (dfs0 (scF f.blocks) f.blocks.length).2.reverse) ∨ (¬ FunP f ∧ xs = [])
theorem OrderRes.one {f : FunD} {xs ys : List Int} (h : OrderRes f xs) (k : OrderRes f ys) : xs = ys := by
  rcases h with ⟨h1, rfl⟩ | ⟨h1, rfl⟩ <;> rcases k with ⟨k1, rfl⟩ | ⟨k1, rfl⟩
  · rfl
  · exact absurd h1 k1
  · exact absurd k1 h1
  · rfl
theorem OrderRes.len {f : FunD} {xs : List Int} (h : OrderRes f xs) : xs.length ≤ f.blocks.length := by
  rcases h with ⟨h, rfl⟩ | ⟨_, rfl⟩
  · rw [List.length_reverse]; exact dfs0_len (targets_of h).sc h.1.1.1
  · simp
def GivesOrder (f : FunD) (w : World) (e : Ending) (w' : World) : Prop := ∃ xs r, e = .returned r ∧ OrderRes f xs ∧ OI w' w.heap.size r xs ∧ Below w.heap.size w w'

set_option maxRecDepth 10000 in
set_option maxHeartbeats 1000000 in
theorem OrderOf_any (f : FunD) (v : Value) (w : World) (Z : Zn) (hv : EFun w Z f v) (hD : ∀ b, Z.D b → b < w.heap.size) (hn : f.blocks.length ≤ 1048576) : Calls Try.prog 21 #[v] w (GivesOrder f w) := by
  have HF := Lib.hid hv
  obtain ⟨u, rfl, hu⟩ := hv
  obtain ⟨_, A, c, rfl, hx⟩ := hu
  clear hx
  go_enter Try.func21, Try.ntmps21
  go_wp2_with fail
  refine (FunOk_any f _ _ Z (HF.out.keep (Kept.below ((Below.refl _ _).alloc (Nat.le_refl _) _) hD)) (fun b hb => by have := hD b hb; simp; omega) hn).mono ?_
  rintro e w1 ⟨r, rfl, hr, hb1⟩
  have HR := Lib.hid hr
  have HB1 := Lib.hid (hb1.mono (B' := w.heap.size + 1) (by simp))
  have HB01 : Hid (Below w.heap.size w w1) := ((Below.refl _ _).alloc (Nat.le_refl _) _).trans (HB1.out.mono (by omega))
  have hz1 : w.heap.size + 1 ≤ w1.heap.size := by have := hb1.size; simp at this; omega
  obtain ⟨hc1, hf1⟩ := bcellB HB1.out
  clear hb1 hf1 hr
  cases r
  · have HN : Hid (¬ FunP f) := fun h => by have := HR.out.2 h; cases this
    go_wp2_with fail
    go_ret
    exact ⟨[], _, rfl, .inr ⟨HN.out, rfl⟩, OI_lit0 _ rfl (by omega), HB01.out.alloc (by omega) _⟩
  have HP := Lib.hid (HR.out.1 rfl)
  clear HR
  have h1n := HP.out.1.1.1
  have h40 := HP.out.1.1.2
  go_wp2_with fail
  refine (walkFromStart_any f.blocks _ _ Z (HF.out.row.keep (Kept.below HB01.out hD) fun _ _ h => h.keep (Kept.below HB01.out hD)) (fun b hb => by have := hD b hb; omega) (targets_of HP.out) h1n (by omega)).mono ?_
  rintro e w3 ⟨q, fin, rfl, hbl, hoi, hq, hb3⟩
  have HB03 := Lib.hid (HB01.out.trans (hb3.mono (by omega)))
  have HOI := Lib.hid hoi
  have hz3 := hb3.size
  have hfl := field_walk2
  obtain ⟨_, A3, c3, rfl, _⟩ := hoi.ri
  clear hb3 hoi hbl hc1
  go_wp2_with fail
  refine (Reverse_any _ _ _ _ HOI.out).mono ?_
  rintro e w4 ⟨⟨_, rfl⟩, ho4, hg4⟩
  have HOI4 := Lib.hid ho4
  have HB04 := Lib.hid (HB03.out.grown hg4 (by omega) fun k hk => by have := (HOI.out.lt k hk).1; omega)
  clear ho4 hg4 hfl
  go_wp2_with fail
  go_ret
  exact ⟨_, _, rfl, .inl ⟨HP.out, rfl⟩, World.ownsRow.mono HOI4.out (by omega), HB04.out⟩

theorem fin_startA (w : World) (N q : Nat) (hq : w.heap.size = q) (hm : N ≤ maxLen) : BL ((w.alloc (.cells (madeCells #[.bool false] N) 4)).alloc (.cells #[] 2)).drew q N (List.replicate N false) ∧ OI ((w.alloc (.cells (madeCells #[.bool false] N) 4)).alloc (.cells #[] 2)).drew q (.slice (some ⟨q + 1, 0, none⟩) 0 0) [] := by
  subst hq
  have h1 := (BL.start w N hm).fw (Fw.alloc (fun _ => False) _ (.cells #[] 2)) fun h => h
  have h2 := OI_lit0 (w.alloc (.cells (madeCells #[.bool false] N) 4)) (B := w.heap.size) (g := w.heap.size + 1) (by simp) (by omega)
  exact ⟨h1, h2⟩
theorem fin_startB (w : World) (N q : Nat) (hq : w.heap.size = q) (hm : N ≤ maxLen) : BL ((w.alloc (.cells #[] 2)).alloc (.cells (madeCells #[.bool false] N) 4)).drew (q + 1) N (List.replicate N false) ∧ OI ((w.alloc (.cells #[] 2)).alloc (.cells (madeCells #[.bool false] N) 4)).drew q (.slice (some ⟨q, 0, none⟩) 0 0) [] := by
  subst hq
  have h := BL.start (w.alloc (.cells #[] 2)) N hm
  have hs : (w.alloc (.cells #[] 2)).heap.size = w.heap.size + 1 := by simp
  rw [hs] at h
  have h2 := (OI_lit0 w rfl (Nat.le_refl _)).fw (Fw.alloc (fun _ => False) _ (.cells (madeCells #[.bool false] N) 4)) fun _ _ h => h
  exact ⟨h, h2⟩
theorem FinP.far {q B : Nat} {fin : Value} (hq : B ≤ q) (hf : ∀ k, fin.ownBlock = some k → B ≤ k) : ∀ k, k < B → ¬ FinP q fin k := by
  rintro k hk (e | e)
  · omega
  · have := hf k e; omega
theorem own_ge {g B n c : Nat} (h : B ≤ g) : ∀ k, (Value.slice (some ⟨g, 0, none⟩) n c).ownBlock = some k → B ≤ k := by
  intro k e
  injection e with e
  have e' : g = k := e
  omega
theorem own_ne {g q n c : Nat} (h : g ≠ q) : (Value.slice (some ⟨g, 0, none⟩) n c).ownBlock ≠ some q := by
  intro e
  injection e with e
  exact h e
theorem l3Finish_0 (f : FunD) (Z : Zn) (q g B : Nat) (w : World) (v : Value) (hp : FunP f) (hD : ∀ b, Z.D b → b < B ∧ b ≠ q) (hv : EFun w Z f v) (hs : BL w q f.blocks.length (List.replicate f.blocks.length false) ∧ OI w B (.slice (some ⟨g, 0, none⟩) 0 0) []) (hne : g ≠ q) (hB : B ≤ w.heap.size) :
    Calls Try.prog 62 #[v, .int .i64 0, .slice (some ⟨q, 0, none⟩) f.blocks.length f.blocks.length, .slice (some ⟨g, 0, none⟩) 0 0] w (GivesFin w q B f.blocks.length (.slice (some ⟨g, 0, none⟩) 0 0) (dfs0 (scF f.blocks) f.blocks.length)) :=
  l3Finish_any f Z q B f.blocks.length (targets_of hp).r (by have := hp.1.1.2; omega) (by have := hp.1.1.2; omega) hD f.blocks.length 0 w v _ (List.replicate f.blocks.length false, []) hv hs.1 hs.2 (own_ne hne) hB (inv0 _) (by show cf (List.replicate f.blocks.length false) ≤ _; rw [cf_replicate]; omega) (get_replicate hp.1.1.1)
theorem drop_rev {xs : List Int} {k : Nat} {x : Int} (h : xs[k]? = some x) : (xs.drop (k + 1)).reverse ++ [x] = (xs.drop k).reverse := by
  obtain ⟨hk, rfl⟩ := List.getElem?_eq_some_iff.1 h
  rw [← List.reverse_cons, List.drop_eq_getElem_cons hk]

set_option maxRecDepth 10000 in
set_option maxHeartbeats 1000000 in
theorem sOrderOf_any (f : FunD) (v : Value) (w : World) (Z : Zn) (hv : EFun w Z f v) (hD : ∀ b, Z.D b → b < w.heap.size) (hn : f.blocks.length ≤ 1048576) : Calls Try.prog 27 #[v] w (GivesOrder f w) := by
  have HF := Lib.hid hv
  obtain ⟨u, rfl, hu⟩ := hv
  obtain ⟨_, A, c, rfl, hx⟩ := hu
  clear hx
  go_enter Try.func27, Try.ntmps27
  go_wp2_with fail
  refine (sFunOk_any f _ _ Z (HF.out.keep (Kept.below ((Below.refl _ _).alloc (Nat.le_refl _) _) hD)) (fun b hb => by have := hD b hb; simp; omega) hn).mono ?_
  rintro e w1 ⟨r, rfl, hr, hb1⟩
  have HR := Lib.hid hr
  have HB1 := Lib.hid (hb1.mono (B' := w.heap.size + 1) (by simp))
  have HB01 : Hid (Below w.heap.size w w1) := ((Below.refl _ _).alloc (Nat.le_refl _) _).trans (HB1.out.mono (by omega))
  have hz1 : w.heap.size + 1 ≤ w1.heap.size := by have := hb1.size; simp at this; omega
  obtain ⟨hc1, hf1⟩ := bcellB HB1.out
  clear hb1 hf1 hr
  cases r
  · have HN : Hid (¬ FunP f) := fun h => by have := HR.out.2 h; cases this
    go_wp2_with fail
    go_ret
    exact ⟨[], _, rfl, .inr ⟨HN.out, rfl⟩, OI_lit0 _ rfl (by omega), HB01.out.alloc (by omega) _⟩
  have HP := Lib.hid (HR.out.1 rfl)
  clear HR
  have h1n := HP.out.1.1.1
  have h40 := HP.out.1.1.2
  have hml : f.blocks.length ≤ maxLen := by rw [maxLen_is]; omega
  have HDF := Lib.hid (dfs0_len (targets_of HP.out).sc h1n)
  obtain ⟨i0, hi, hz0, hz1', hz2⟩ := info_parts info_boolr
  have hmk := fun W => run_make_rowN (P := Try.prog) 46 4 i0 _ Try.underlying46 hi hz0 .i64 .i64 f.blocks.length f.blocks.length (Nat.le_refl _) (by rw [hz2]; omega) (by omega) W
  rw [hz1'] at hmk
  clear hi hz0 hz1' hz2
  have e0 : w1.cell? ⟨w.heap.size, 0, none⟩ = some (.int .i64 f.params) := (HB1.out.cell (p := ⟨w.heap.size, 0, none⟩) (by simp)).trans (by go_simp)
  have e1 : w1.cell? ⟨w.heap.size, 1, none⟩ = some (.int .i64 f.names) := (HB1.out.cell (p := ⟨w.heap.size, 1, none⟩) (by simp)).trans (by go_simp)
  have e2 : w1.cell? ⟨w.heap.size, 2, none⟩ = some (.slice A f.blocks.length c) := (HB1.out.cell (p := ⟨w.heap.size, 2, none⟩) (by simp)).trans (by go_simp)
  have hDD : ∀ q, w1.heap.size ≤ q → ∀ b, Z.D b → b < w1.heap.size ∧ b ≠ q := fun q hq b hb => by have := hD b hb; omega
  have keepB : ∀ w7 : World, Below (w.heap.size + 1) w1 w7 → (fun w' => w'.cell? ⟨w.heap.size, 0, none⟩ = some (.int .i64 f.params) ∧ w'.cell? ⟨w.heap.size, 1, none⟩ = some (.int .i64 f.names) ∧ w'.cell? ⟨w.heap.size, 2, none⟩ = some (.slice A f.blocks.length c)) w7 := fun w7 hb => ⟨(hb.cell (p := ⟨w.heap.size, 0, none⟩) (by simp)).trans e0, (hb.cell (p := ⟨w.heap.size, 1, none⟩) (by simp)).trans e1, (hb.cell (p := ⟨w.heap.size, 2, none⟩) (by simp)).trans e2⟩
  have HKB := Lib.hid keepB
  clear keepB e0 e1 e2 hc1
  go_upto_region 3 with (fail)
  go_cut [4] (fun s4 wx => ∃ A3 c3, s4 = .slice A3 (dfs0 (scF f.blocks) f.blocks.length).2.length c3 ∧ Hid (Below (w.heap.size + 1) w1 wx) ∧ Hid (OI wx w1.heap.size (.slice A3 (dfs0 (scF f.blocks) f.blocks.length).2.length c3) (dfs0 (scF f.blocks) f.blocks.length).2))
  case first =>
    have keepB := HKB.out
    have K := keepB _ (below_drewN (Below.refl _ w1) 1)
    go_region_held3 (fun w' => w'.cell? ⟨w.heap.size, 0, none⟩ = some (.int .i64 f.params) ∧ w'.cell? ⟨w.heap.size, 1, none⟩ = some (.int .i64 f.names) ∧ w'.cell? ⟨w.heap.size, 2, none⟩ = some (.slice A f.blocks.length c)) (first | exact K | exact K3 | exact keepB _ ((Below.refl _ w1).alloc (by omega) _).drew | exact keepB _ (((Below.refl _ w1).alloc (by omega) _).alloc (by simp; omega) _).drew | fail)
      (first
      | (go_at_call 62; (with_reducible refine (l3Finish_0 f Z w1.heap.size (w1.heap.size + 1) w1.heap.size _ _ HP.out (hDD w1.heap.size (by omega)) (HF.out.keep (Kept.below ((HB01.out.alloc (by omega) _).alloc (by simp; omega) _).drew hD)) (fin_startA w1 f.blocks.length w1.heap.size rfl hml) (by omega) (by simp; omega)).mono ?_); rintro e w3 ⟨fin3, rfl, hbl3, hoi3, hf3, ha3⟩; have hB3 : Below (w.heap.size + 1) w1 w3 := (((Below.refl (w.heap.size + 1) w1).alloc (by omega) _).alloc (by simp; omega) _).drew.trans (hf3.toBelow (by simp; omega) (FinP.far (by omega) (own_ge (by omega)))); have HB3 := Lib.hid hB3; have HO3 : Hid (OI w3 w1.heap.size fin3 (dfs0 (scF f.blocks) f.blocks.length).2) := hoi3; have K3 := keepB w3 hB3; obtain ⟨_, A3, c3, rfl, _⟩ := hoi3.ri; clear hbl3 hoi3 hf3 ha3 hB3)
      | (go_at_call 62; (with_reducible refine (l3Finish_0 f Z (w1.heap.size + 1) w1.heap.size w1.heap.size _ _ HP.out (hDD (w1.heap.size + 1) (by omega)) (HF.out.keep (Kept.below ((HB01.out.alloc (by omega) _).alloc (by simp; omega) _).drew hD)) (fin_startB w1 f.blocks.length w1.heap.size rfl hml) (by omega) (by simp; omega)).mono ?_); rintro e w3 ⟨fin3, rfl, hbl3, hoi3, hf3, ha3⟩; have hB3 : Below (w.heap.size + 1) w1 w3 := (((Below.refl (w.heap.size + 1) w1).alloc (by omega) _).alloc (by simp; omega) _).drew.trans (hf3.toBelow (by simp; omega) (FinP.far (by omega) (own_ge (by omega)))); have HB3 := Lib.hid hB3; have HO3 : Hid (OI w3 w1.heap.size fin3 (dfs0 (scF f.blocks) f.blocks.length).2) := hoi3; have K3 := keepB w3 hB3; obtain ⟨_, A3, c3, rfl, _⟩ := hoi3.ri; clear hbl3 hoi3 hf3 ha3 hB3)
      | fail)
    all_goals (go_wp2_with fail; go_meet; exact ⟨_, _, rfl, HB3, HO3⟩)
  case rest =>
    obtain ⟨A3, c3, rfl, HB3, HO3⟩ := hcut
    have HB03 : Hid (Below w.heap.size w wc) := HB01.out.trans (HB3.out.mono (by omega))
    have hz3 := HB3.out.size
    generalize hxs : (dfs0 (scF f.blocks) f.blocks.length).2 = xs at HO3 HDF
    have HXS := Lib.hid hxs
    have hxl := HDF.out
    have hB3 : Hid (OI wc w1.heap.size (.slice A3 xs.length c3) xs) := HO3.out
    clear hxs HKB hDD hmk
    go_wp2_with fail
    go_loopw [5, 6] (fun ov i wr => ∃ k : Nat, k ≤ xs.length ∧ i = .int .i64 ((k : Int) - 1) ∧ Hid (OI wr wc.heap.size ov (xs.drop k).reverse) ∧ Hid (Below wc.heap.size wc wr)) (fun _ i _ => (intOf i + 1).toNat)
    case atStart =>
      refine ⟨xs.length, Nat.le_refl _, rfl, ?_, (Below.refl _ _).alloc (Nat.le_refl _) _⟩
      rw [List.drop_length]
      exact OI_lit0 wc rfl (Nat.le_refl _)
    case round =>
      obtain ⟨k, hk, rfl, HO, HB⟩ := hrel
      rcases Nat.eq_zero_or_pos k with rfl | hkp
      · have HO' : Hid (OI wr wc.heap.size u5 xs.reverse) := HO.out
        go_wp2
        go_ret
        exact ⟨_, _, rfl, .inl ⟨HP.out, by rw [HXS.out]⟩, World.ownsRow.mono HO'.out (by omega), HB03.out.trans (HB.out.mono (by omega))⟩
      obtain ⟨m, rfl⟩ : ∃ m, k = m + 1 := ⟨k - 1, by omega⟩
      have hmx : xs[m]? = some xs[m] := List.getElem?_eq_getElem (by omega)
      generalize xs[m] = x at hmx
      obtain ⟨_, A3', c3', he3, hux⟩ := hB3.out.ri
      injection he3 with q1 _ q2
      subst q1 q2
      obtain ⟨b', off', rfl, hcell⟩ := hux (by rintro rfl; simp at hmx)
      have hb' := hB3.out.lt b' rfl
      have p0 : wr.cell? ⟨b', off' + m, none⟩ = some (.int .i64 x) := (HB.out.cell (p := ⟨b', _, none⟩) hb'.2).trans (hcell m _ hmx)
      have HDR := Lib.hid (drop_rev hmx)
      have hm1 : (m : Int) < (xs.length : Int) := by omega
      have hdl : (xs.drop (m + 1)).reverse.length ≤ 1048576 := by rw [List.length_reverse, List.length_drop]; omega
      have hwz := HB.out.size
      have HO' : Hid (OI wr wc.heap.size u5 (xs.drop (m + 1)).reverse) := HO.out
      obtain ⟨_, A5, c5, rfl, _⟩ := HO.out.ri
      clear hcell hux hmx
      go_wp2_with (at_builtin; go_must (refine wpList_append_int rfl (.tmp 29) (.tmp 34) rfl wc.heap.size _ (xs.drop (m + 1)).reverse x wr rfl HO'.out rfl (by omega) hdl ?_; intro v' w9 hown9 hg9 hat9; have HO9 := Lib.hid hown9; have HG9 := Lib.hid hg9; clear hown9 hg9 hat9))
      go_roundw
      case rel => exact ⟨m, by omega, by go_num, by rw [← HDR.out]; exact HO9.out, HB.out.grown HG9.out hwz fun k hk => (HO'.out.lt k hk).1⟩
      case measure => simp [intOf]
end

/- What the drawing functions of the model give: some number in its range; they write into their cursor alone. -/
section
open Go.ChangeShapes Go.WideShapes Go.ChangeAt Go.RowKit Go.Joins

/-- v is a slice of n bytes that can be read, in blocks below B. -/
def Code (w : World) (B : Nat) (v : Value) (n : Nat) : Prop :=
  n ≤ 4096 ∧ ∃ A c, v = .slice A n c ∧ (0 < n → ∃ b off, A = some ⟨b, off, none⟩ ∧ b < B ∧ ∀ k, k < n → ∃ u : Int, 0 ≤ u ∧ u ≤ 255 ∧ w.cell? ⟨b, off + k, none⟩ = some (.int .u8 u))

theorem Code.keep {w w' : World} {B : Nat} {v : Value} {n : Nat} (h : Code w B v n) (hk : ∀ b o, b < B → w'.cell? ⟨b, o, none⟩ = w.cell? ⟨b, o, none⟩) : Code w' B v n := by
  obtain ⟨hn, A, c, rfl, h⟩ := h
  refine ⟨hn, A, c, rfl, fun h0 => ?_⟩
  obtain ⟨b, off, rfl, hb, hc⟩ := h h0
  exact ⟨b, off, rfl, hb, fun k hk' => by rw [hk b _ hb]; exact hc k hk'⟩

/-- Block g is a cursor. -/
def Cur (w : World) (B g : Nat) : Prop :=
  B ≤ g ∧ ∃ (v : Value) (n i : Nat) (h : Int), Code w B v n ∧ i ≤ n ∧ w.heap[g]? = some (.cells #[v, .int .i64 i, .int .i64 h] 97 (0, 0))

theorem keepB {w w' : World} {B g : Nat} (hB : B ≤ g) (hs : B ≤ w.heap.size) (hg : w.grownBy w' (some g)) : ∀ b o, b < B → w'.cell? ⟨b, o, none⟩ = w.cell? ⟨b, o, none⟩ :=
  fun b o hb => World.cell?_of_block (hg.block b (by omega) (fun h => by injection h with h; omega))

theorem and255 (a : Int) : 0 ≤ bits .and .i64 a 255 ∧ bits .and .i64 a 255 ≤ 255 := by
  have h : bits .and .i64 a 255 = IntKind.i64.wrap (((BitVec.ofInt 64 a) &&& (BitVec.ofInt 64 255)).toNat : Int) := rfl
  have h2 : ((BitVec.ofInt 64 a) &&& (BitVec.ofInt 64 255)).toNat ≤ 255 := by
    rw [BitVec.toNat_and]
    exact Nat.le_trans Nat.and_le_right (by decide)
  rw [h, IntKind.wrap_i64]
  omega

theorem grown_set {w w1 : World} {g : Nat} (h : w.grownBy w1 (some g)) (j : Nat) (u : Value) : w.grownBy (w1.setCell ⟨g, j, none⟩ u) (some g) :=
  World.grownBy.trans h ⟨rfl, rfl, rfl, by simp [World.setCell], fun k _ hk => heap_setCell_other w1 ⟨g, j, none⟩ k u (fun e => hk (by simp [e]))⟩
theorem grown_drewN {w w1 : World} {r : Option Nat} (h : w.grownBy w1 r) (n : Nat) : w.grownBy (w1.drewN n) r := ⟨h.os, h.tape, h.output, h.size, h.block⟩
theorem grown_alloc {w w1 : World} {r : Option Nat} (h : w.grownBy w1 r) (o : Obj) : w.grownBy (w1.alloc o) r :=
  ⟨h.os, h.tape, h.output, Nat.le_trans h.size (by simp), fun k hk hne => (Below.heap_alloc w1 o k (Nat.lt_of_lt_of_le hk h.size)).trans (h.block k hk hne)⟩

/-- A cursor whose block has been written anew, all else below B as it was. -/
theorem cur_back {w w' : World} {B g : Nat} (hB : B ≤ g) (hs : g < w.heap.size) {v : Value} {n i : Nat} {h : Int} (hv : Code w B v n) (hi : i ≤ n) (hg : w.grownBy w' (some g)) (hh : w'.heap[g]? = some (.cells #[v, .int .i64 i, .int .i64 h] 97 (0, 0))) : Cur w' B g :=
  ⟨hB, v, n, i, h, hv.keep (keepB hB (by omega) hg), hi, hh⟩

theorem cur_lt {w : World} {B g : Nat} (h : Cur w B g) : g < w.heap.size := by
  obtain ⟨_, _, _, _, _, _, _, hg⟩ := h
  rcases Nat.lt_or_ge g w.heap.size with hlt | hge
  · exact hlt
  · rw [Array.getElem?_eq_none hge] at hg; cases hg

set_option maxHeartbeats 1000000 in
theorem l1Byte_any (B g : Nat) (w : World) (hc : Cur w B g) :
    Calls Try.prog 72 #[.pointer (some ⟨g, 0, none⟩)] w fun e w' => ∃ x : Int, e = .returned (.int .i64 x) ∧ 0 ≤ x ∧ x ≤ 255 ∧ Cur w' B g ∧ w.grownBy w' (some g) := by
  have hlt0 := cur_lt hc
  obtain ⟨hB, v, n, i, h, hv0, hi, hg⟩ := hc
  have c0 : w.cell? ⟨g, 0, none⟩ = some v := cell_of_row w g 0 _ _ _ hg
  have c1 : w.cell? ⟨g, 1, none⟩ = some (.int .i64 i) := cell_of_row w g 1 _ _ _ hg
  have c2 : w.cell? ⟨g, 2, none⟩ = some (.int .i64 h) := cell_of_row w g 2 _ _ _ hg
  have f1 : w.frozen? ⟨g, 1, none⟩ = false := frozen_of_row w g 1 _ _ hg
  have f2 : w.frozen? ⟨g, 2, none⟩ = false := frozen_of_row w g 2 _ _ hg
  have HG := Lib.hid hg
  clear hg
  have HV := Lib.hid hv0
  obtain ⟨hn, A, c, rfl, hv⟩ := hv0
  by_cases hlt : i < n
  · obtain ⟨b, off, rfl, hb, hcell⟩ := hv (by omega)
    obtain ⟨u, hu0, hu1, hcu⟩ := hcell i hlt
    have hne : b ≠ g := by omega
    clear hcell hv
    go_enter Try.func72, Try.ntmps72
    go_wp2
    go_quiet (fail)
    generalize wrap64 (wrap64 (h * 6364136223846793005) + 1442695040888963407) = y
    generalize bits .xor .i64 (y / 8589934592) (y / 35184372088832) = z
    obtain ⟨hx0, hx1⟩ := and255 z
    generalize bits .and .i64 z 255 = x at *
    go_wp2
    go_quiet (fail)
    go_wp2
    go_quiet (fail)
    obtain ⟨hy0, hy1⟩ := and255 (x + u)
    generalize bits .and .i64 (x + u) 255 = x' at *
    go_wp2
    go_ret
    have H1 := heap_setCell_same w g 2 _ _ (.int .i64 y) HG.out
    have H2 := heap_setCell_same (w.setCell ⟨g, 2, none⟩ (.int .i64 y)) g 1 _ _ (.int .i64 ((i + 1 : Nat) : Int)) H1
    have hgr : w.grownBy ((w.setCell ⟨g, 2, none⟩ (.int .i64 y)).setCell ⟨g, 1, none⟩ (.int .i64 ((i + 1 : Nat) : Int))) (some g) := grown_set (grown_set (World.grownBy.refl _ _) _ _) _ _
    exact ⟨x', rfl, hy0, hy1, cur_back hB hlt0 HV.out (i := i + 1) (by omega) (grown_drewN hgr _) H2, grown_drewN hgr _⟩
  · have hii : i = n := by omega
    subst hii
    clear hv
    go_enter Try.func72, Try.ntmps72
    go_wp2
    go_quiet (fail)
    generalize wrap64 (wrap64 (h * 6364136223846793005) + 1442695040888963407) = y
    generalize bits .xor .i64 (y / 8589934592) (y / 35184372088832) = z
    obtain ⟨hx0, hx1⟩ := and255 z
    generalize bits .and .i64 z 255 = x at *
    go_wp2
    go_quiet (fail)
    go_wp2
    go_ret
    have H1 := heap_setCell_same w g 2 _ _ (.int .i64 y) HG.out
    have hgr : w.grownBy (w.setCell ⟨g, 2, none⟩ (.int .i64 y)) (some g) := grown_set (World.grownBy.refl _ _) _ _
    exact ⟨x, rfl, hx0, hx1, cur_back hB hlt0 HV.out (Nat.le_refl _) (grown_drewN (grown_drewN hgr _) _) H1, grown_drewN (grown_drewN hgr _) _⟩

theorem mod_range {x n : Int} (hn : 0 < n) : 0 ≤ x % n ∧ x % n < n := ⟨Int.emod_nonneg _ (by omega), Int.emod_lt_of_pos _ hn⟩

set_option maxHeartbeats 1000000 in
theorem l1Below_any (B g : Nat) (n : Int) (w : World) (hc : Cur w B g) :
    Calls Try.prog 38 #[.pointer (some ⟨g, 0, none⟩), .int .i64 n] w fun e w' => ∃ x : Int, e = .returned (.int .i64 x) ∧ 0 ≤ x ∧ (x < n ∨ x = 0) ∧ Cur w' B g ∧ w.grownBy w' (some g) := by
  by_cases h0 : n ≤ 0
  · go_enter Try.func38, Try.ntmps38
    go_wp2
    go_ret
    exact ⟨0, rfl, by omega, .inr rfl, hc, World.grownBy.refl _ _⟩
  · by_cases h1 : n ≤ 256
    · have HC := Lib.hid hc
      clear hc
      go_enter Try.func38, Try.ntmps38
      go_wp2_with (go_at_call 72; refine (l1Byte_any _ _ _ HC.out).mono ?_; rintro e w1 ⟨x, rfl, hx0, hx1, HC1, HG1⟩)
      go_ret
      exact ⟨_, rfl, (mod_range (by omega)).1, .inl (mod_range (by omega)).2, HC1, HG1⟩
    · have hn : 0 < n := by omega
      clear h0
      have HC := Lib.hid hc
      clear hc
      go_enter Try.func38, Try.ntmps38
      go_wp2_with fail
      refine (l1Byte_any _ _ _ HC.out).mono ?_
      rintro e w1 ⟨x, rfl, hx0, hx1, hc1, HG1⟩
      have HC1 := Lib.hid hc1
      clear hc1
      go_wp2_with fail
      refine (l1Byte_any _ _ _ HC1.out).mono ?_
      rintro e w2 ⟨y, rfl, hy0, hy1, hc2, HG2⟩
      have HC2 := Lib.hid hc2
      clear hc2
      go_wp2_with fail
      refine (l1Byte_any _ _ _ HC2.out).mono ?_
      rintro e w3 ⟨z, rfl, hz0, hz1, hc3, HG3⟩
      have HC3 := Lib.hid hc3
      clear hc3
      go_wp2_with fail
      refine (l1Byte_any _ _ _ HC3.out).mono ?_
      rintro e w4 ⟨q, rfl, hq0, hq1, hc4, HG4⟩
      have HC4 := Lib.hid hc4
      clear hc4
      go_wp2_with fail
      go_ret
      exact ⟨_, rfl, (mod_range hn).1, .inl (mod_range hn).2, HC4.out, ((HG1.trans HG2).trans HG3).trans HG4⟩

set_option maxHeartbeats 1000000 in
theorem l1Once_any (B g : Nat) (n : Int) (w : World) (hc : Cur w B g) :
    Calls Try.prog 39 #[.pointer (some ⟨g, 0, none⟩), .int .i64 n] w fun e w' => ∃ x : Bool, e = .returned (.bool x) ∧ Cur w' B g ∧ w.grownBy w' (some g) := by
  have HC := Lib.hid hc
  clear hc
  go_enter Try.func39, Try.ntmps39
  go_wp2_with fail
  refine (l1Below_any _ _ _ _ HC.out).mono ?_
  rintro e w1 ⟨x, rfl, hx0, hx1, hc1, HG1⟩
  have HC1 := Lib.hid hc1
  clear hc1
  go_wp2_with fail
  go_ret
  exact ⟨_, rfl, HC1.out, HG1⟩

theorem i64_in' {n : Int} (h : 0 ≤ n) (h' : n ≤ 9223372036854775807) : IntKind.i64.wrap n = n := by rw [IntKind.wrap_i64]; omega

set_option maxHeartbeats 1000000 in
theorem l1From_any (B g : Nat) (lo hi : Int) (w : World) (hc : Cur w B g) (h0 : -1000 ≤ lo) (h1 : lo ≤ hi) (h2 : hi ≤ 1000000000) :
    Calls Try.prog 37 #[.pointer (some ⟨g, 0, none⟩), .int .i64 lo, .int .i64 hi] w fun e w' => ∃ x : Int, e = .returned (.int .i64 x) ∧ lo ≤ x ∧ x ≤ hi ∧ Cur w' B g ∧ w.grownBy w' (some g) := by
  have HC := Lib.hid hc
  clear hc
  go_enter Try.func37, Try.ntmps37
  go_wp2_with fail
  refine (l1Below_any _ _ _ _ HC.out).mono ?_
  rintro e w1 ⟨x, rfl, hx0, hx1, hc1, HG1⟩
  have HC1 := Lib.hid hc1
  clear hc1
  have hx2 : x ≤ hi - lo := by omega
  clear hx1
  go_wp2_with fail
  go_ret
  exact ⟨_, rfl, by omega, by omega, HC1.out, HG1⟩

set_option maxHeartbeats 1000000 in
theorem l1Min_any (a b : Int) (w : World) :
    Calls Try.prog 76 #[.int .i64 a, .int .i64 b] w fun e w' => e = .returned (.int .i64 (min a b)) ∧ w = w' := by
  by_cases h : a < b
  · have HE : Hid (min a b = a) := by unfold Hid; omega
    go_enter Try.func76, Try.ntmps76
    go_wp2
    go_ret
    exact ⟨by rw [HE.out]; rfl, rfl⟩
  · have HE : Hid (min a b = b) := by unfold Hid; omega
    go_enter Try.func76, Try.ntmps76
    go_wp2
    go_ret
    exact ⟨by rw [HE.out]; rfl, rfl⟩

theorem cur_alloc {w : World} {B g : Nat} (h : Cur w B g) (o : Obj) : Cur (w.alloc o) B g := by
  have hlt := cur_lt h
  obtain ⟨hB, v, n, i, k, hv, hi, hg⟩ := h
  exact ⟨hB, v, n, i, k, hv.keep fun b o' hb => World.cell?_alloc_lt w o ⟨b, o', none⟩ (show b < w.heap.size by omega), hi, (Below.heap_alloc w o g hlt).trans hg⟩
theorem cur_le {w : World} {B g : Nat} (h : Cur w B g) : B ≤ w.heap.size := Nat.le_of_lt (Nat.lt_of_le_of_lt h.1 (cur_lt h))

/-- What was grown from a world with one block more has grown from that world. -/
theorem grown_of_alloc {w w1 : World} {o : Obj} {r : Option Nat} (h : (w.alloc o).grownBy w1 r) : w.grownBy w1 r :=
  World.grownBy.trans (grown_alloc (World.grownBy.refl _ _) o) h

/-- A cell of the block that was made last reads as it was made. -/
theorem cell_last {w w1 : World} {g : Nat} {cs : Array Value} {t : TypeId} (hg : g < w.heap.size) (h : (w.alloc (.cells cs t)).grownBy w1 (some g)) (j : Nat) : w1.cell? ⟨w.heap.size, j, none⟩ = cs[j]? := by
  have h1 : w1.heap[w.heap.size]? = (w.alloc (.cells cs t)).heap[w.heap.size]? := h.block _ (by simp) (fun e => by injection e with e; omega)
  rw [heap_alloc_new] at h1
  exact cell_of_row w1 w.heap.size j cs t (0, 0) h1

theorem at10 {a b c d e f p q r s : Int} {j : Nat} (h : j < 10) : ∃ u : Int, (#[Value.int .i64 a, .int .i64 b, .int .i64 c, .int .i64 d, .int .i64 e, .int .i64 f, .int .i64 p, .int .i64 q, .int .i64 r, .int .i64 s] : Array Value)[j]? = some (.int .i64 u) := by
  have : j = 0 ∨ j = 1 ∨ j = 2 ∨ j = 3 ∨ j = 4 ∨ j = 5 ∨ j = 6 ∨ j = 7 ∨ j = 8 ∨ j = 9 := by omega
  rcases this with rfl | rfl | rfl | rfl | rfl | rfl | rfl | rfl | rfl | rfl <;> exact ⟨_, rfl⟩
theorem at4 {a b c d : Int} {j : Nat} (h : j < 4) : ∃ u : Int, (#[Value.int .i64 a, .int .i64 b, .int .i64 c, .int .i64 d] : Array Value)[j]? = some (.int .i64 u) := by
  have : j = 0 ∨ j = 1 ∨ j = 2 ∨ j = 3 := by omega
  rcases this with rfl | rfl | rfl | rfl <;> exact ⟨_, rfl⟩

set_option maxHeartbeats 1000000 in
theorem l1Odd_any (B g : Nat) (w : World) (hc : Cur w B g) :
    Calls Try.prog 75 #[.pointer (some ⟨g, 0, none⟩)] w fun e w' => ∃ x : Int, e = .returned (.int .i64 x) ∧ Cur w' B g ∧ w.grownBy w' (some g) := by
  have HC := Lib.hid hc
  clear hc
  go_enter Try.func75, Try.ntmps75
  go_wp2_with fail
  refine (l1Below_any B g 10 _ (cur_alloc HC.out _)).mono ?_
  rintro e w1 ⟨x, rfl, hx0, hx1, hc1, HG1⟩
  have HC1 := Lib.hid hc1
  clear hc1
  obtain ⟨j, rfl⟩ := Int.eq_ofNat_of_zero_le hx0
  have hj : j < 10 := by omega
  obtain ⟨u, hu⟩ := at10 hj
  have hcell := (cell_last (cur_lt HC.out) HG1 j).trans hu
  clear hu
  go_wp2_with fail
  go_ret
  exact ⟨_, rfl, HC1.out, grown_of_alloc HG1⟩

set_option maxHeartbeats 1000000 in
theorem l1Num_any (B g : Nat) (most : Int) (w : World) (hc : Cur w B g) (h0 : 0 ≤ most) (h1 : most ≤ 1000000000) :
    Calls Try.prog 41 #[.pointer (some ⟨g, 0, none⟩), .int .i64 most] w fun e w' => ∃ x : Int, e = .returned (.int .i64 x) ∧ Cur w' B g ∧ w.grownBy w' (some g) := by
  have HC := Lib.hid hc
  clear hc
  go_enter Try.func41, Try.ntmps41
  go_wp2_with fail
  refine (l1Once_any B g _ _ HC.out).mono ?_
  rintro e w1 ⟨x, rfl, hc1, HG1⟩
  have HC1 := Lib.hid hc1
  clear hc1
  cases x
  · go_wp2_with fail
    refine (l1Once_any B g _ _ HC1.out).mono ?_
    rintro e w2 ⟨y, rfl, hc2, HG2⟩
    have HC2 := Lib.hid hc2
    clear hc2
    cases y
    · go_wp2_with fail
      refine (l1Below_any B g _ _ HC2.out).mono ?_
      rintro e w3 ⟨z, rfl, hz0, hz1, hc3, HG3⟩
      have HC3 := Lib.hid hc3
      clear hc3
      go_wp2_with fail
      go_ret
      exact ⟨_, rfl, HC3.out, (HG1.trans HG2).trans HG3⟩
    · go_wp2_with fail
      refine (l1Min_any _ _ _).mono ?_
      rintro e w' ⟨rfl, rfl⟩
      go_wp2_with fail
      refine (l1Below_any B g _ _ HC2.out).mono ?_
      rintro e w3 ⟨z, rfl, hz0, hz1, hc3, HG3⟩
      have HC3 := Lib.hid hc3
      clear hc3
      go_wp2_with fail
      go_ret
      exact ⟨_, rfl, HC3.out, (HG1.trans HG2).trans HG3⟩
  · go_wp2_with fail
    refine (l1Odd_any B g _ HC1.out).mono ?_
    rintro e w2 ⟨y, rfl, hc2, HG2⟩
    have HC2 := Lib.hid hc2
    clear hc2
    go_wp2_with fail
    refine (l1Below_any B g 4 _ (cur_alloc HC2.out _)).mono ?_
    rintro e w3 ⟨z, rfl, hz0, hz1, hc3, HG3⟩
    have HC3 := Lib.hid hc3
    clear hc3
    obtain ⟨j, rfl⟩ := Int.eq_ofNat_of_zero_le hz0
    have hj : j < 4 := by omega
    obtain ⟨u, hu⟩ := at4 hj
    have hcell := (cell_last (cur_lt HC2.out) HG3 j).trans hu
    clear hu
    go_wp2_with fail
    go_ret
    exact ⟨_, rfl, HC3.out, (HG1.trans HG2).trans (grown_of_alloc HG3)⟩
end

/- An argument that is a code, opened. -/
section
open Go.ChangeShapes Go.WideShapes Go.ChangeAt Go.RowKit Go.Joins

theorem cell_lt {w : World} {a : Addr} {v : Value} (h : w.cell? a = some v) : a.block < w.heap.size ∧ a.spot = none := by
  unfold World.cell? at h
  rcases Nat.lt_or_ge a.block w.heap.size with hlt | hge
  · refine ⟨hlt, ?_⟩
    split at h
    · split at h
      · cases h
      · rename_i hs; simpa using hs
    · cases h
  · rw [Array.getElem?_eq_none hge] at h; cases h

set_option maxRecDepth 100000 in
theorem code_open {H : Type} {enc : TypeId × Value → H} {W : World} {base : Nat} {v : Value} {d : DataW H} {p : List MemPlace} (hv : Value.okWide Try.prog W .any base 22 v) (h : DataW.Trod enc Try.prog W 0 (fun _ => true) true 22 v d p) :
    ∃ A n c, v = .slice A n c ∧ (n ≤ 4096 → Code W W.heap.size v n) := by
  obtain ⟨a0, len, cap, rfl⟩ := okWide_slice Try.underlying22 hv
  obtain ⟨fuel, hf⟩ := h
  refine ⟨a0, len, cap, rfl, fun hn => ?_⟩
  rcases open_ints Try.underlying22 Try.underlying5 (by kernel_rfl) hf with ⟨hcs, hx⟩ | ⟨a, len', cap', zs, hcs, _, hl, hm, hz, hx, hcell, hwz⟩
  · simp [Value.cells] at hcs
    obtain ⟨rfl, rfl, rfl⟩ := hcs
    exact ⟨hn, _, _, rfl, fun h => absurd h (by omega)⟩
  · simp [Value.cells] at hcs
    obtain ⟨rfl, rfl, rfl⟩ := hcs
    simp only [if_true] at hz
    refine ⟨hn, _, _, rfl, fun h0 => ?_⟩
    have hc0 := hcell 0 (by omega)
    have ha0 : a.add 0 = a := by simp [Addr.add]
    rw [ha0] at hc0
    obtain ⟨hb, hs⟩ := cell_lt hc0
    obtain ⟨b, off, spot⟩ := a
    simp only at hs hb
    subst hs
    refine ⟨b, off, rfl, hb, fun k hk => ?_⟩
    have hk' : k < zs.length := by omega
    have hw := hwz _ (List.getElem_mem hk')
    simp only [Lit.wf, IntKind.min, IntKind.max, IntKind.signed, IntKind.bits, Bool.and_eq_true] at hw
    refine ⟨zs[k], by simpa using hw.1, ?_, ?_⟩
    · have := hw.2; simp at this; omega
    · have hck := hcell k hk'
      have hadd : (⟨b, off, none⟩ : Addr).add k = ⟨b, off + k, none⟩ := by unfold Addr.add; split <;> simp_all
      rw [hadd] at hck
      rw [hck, List.getD_eq_getElem?_getD, List.getElem?_eq_getElem hk']; rfl
end

/- What the laws over codes share. -/
section
open Go.ChangeShapes Go.WideShapes Go.ChangeAt Go.RowKit Go.Joins

set_option maxHeartbeats 400000 in
theorem big_yes (A : Option Addr) (n c : Nat) (w : World) (h : 4096 < n) : Calls Try.prog 6 #[.slice A n c] w fun e w' => e = .returned (.bool true) ∧ w = w' := by
  have hb : decide ((4096 : Int) < (n : Int)) = true := by simp; omega
  go_enter Try.func6, Try.ntmps6
  go_wp2
  go_ret
  exact ⟨rfl, rfl⟩
set_option maxHeartbeats 400000 in
theorem big_no (A : Option Addr) (n c : Nat) (w : World) (h : n ≤ 4096) : Calls Try.prog 6 #[.slice A n c] w fun e w' => e = .returned (.bool false) ∧ w = w' := by
  have hb : decide ((4096 : Int) < (n : Int)) = false := by simp; omega
  go_enter Try.func6, Try.ntmps6
  go_wp2
  go_ret
  exact ⟨rfl, rfl⟩


theorem mem_predsF {f : FunD} {j : Int} {b : Nat} {x : BlockD} (hx : f.blocks[b]? = some x) (hj : j ∈ toL x.fin.k x.fin.t x.fin.l) : (b : Int) ∈ predsF f j := by
  unfold predsF predsK
  rw [List.mem_map]
  exact ⟨b, List.mem_filter.2 ⟨List.mem_range.2 (List.getElem?_eq_some_iff.1 hx).1, by unfold hasT; rw [hx]; exact hasB_iff.2 hj⟩, rfl⟩
theorem of_mem_predsF {f : FunD} {j y : Int} (h : y ∈ predsF f j) : ∃ (m : Nat) (x : BlockD), y = m ∧ f.blocks[m]? = some x ∧ j ∈ toL x.fin.k x.fin.t x.fin.l := by
  unfold predsF predsK at h
  rw [List.mem_map] at h
  obtain ⟨m, hm, rfl⟩ := h
  rw [List.mem_filter] at hm
  obtain ⟨h1, h2⟩ := hm
  have hlt := List.mem_range.1 h1
  have hx : f.blocks[m]? = some f.blocks[m] := List.getElem?_eq_getElem hlt
  unfold hasT at h2
  rw [hx] at h2
  exact ⟨m, _, rfl, hx, hasB_iff.1 h2⟩
theorem predsF_pair (f : FunD) (j : Int) : (predsF f j).Pairwise (· < ·) := by
  unfold predsF predsK
  rw [List.pairwise_map]
  exact (List.pairwise_lt_range.filter _).imp fun h => by omega
theorem predsF_lt {f : FunD} {j y z : Int} {i : Nat} (h1 : (predsF f j)[i]? = some y) (h2 : (predsF f j)[i + 1]? = some z) : y < z := by
  obtain ⟨hi, rfl⟩ := List.getElem?_eq_some_iff.1 h1
  obtain ⟨hk, rfl⟩ := List.getElem?_eq_some_iff.1 h2
  exact List.pairwise_iff_getElem.1 (predsF_pair f j) i (i + 1) hi hk (by omega)
theorem preds_of {f : FunD} {j : Int} {xs : List Int} (hp : FunP f) (hj : 0 ≤ j ∧ j < f.blocks.length) (h : PredsRes f j xs) : xs = predsF f j := by
  rcases h with ⟨_, _, h⟩ | ⟨h, _⟩
  · exact h
  · exact absurd ⟨hp, by simp [isBelowB]; omega⟩ h
theorem succs_of {f : FunD} {b : Nat} {x : BlockD} (hp : FunP f) (hx : f.blocks[b]? = some x) : succsL x.fin.k x.fin.a x.fin.t x.fin.l = toL x.fin.k x.fin.t x.fin.l ∧ ∀ y ∈ toL x.fin.k x.fin.t x.fin.l, 0 ≤ y ∧ y < (f.blocks.length : Int) := by
  have h := targets_of hp b x hx
  exact ⟨by unfold succsL; rw [if_pos h.1], h.2⟩

set_option maxHeartbeats 400000 in
theorem has_any (v : Value) (xs : List Int) (j : Int) (w : World) (hv : RI w v xs) :
    Calls Try.prog 19 #[v, .int .i64 j] w fun e w' => e = .returned (.bool (hasB xs j)) ∧ w = w' := by
  obtain ⟨hl, A, c, rfl, hx⟩ := hv
  go_enter Try.func19, Try.ntmps19
  go_wp2
  go_loop [5] (fun i => ∃ k : Nat, k ≤ xs.length ∧ i = .int .i64 k ∧ Hid (∀ i, i < k → xs[i]? ≠ some j)) (fun i => xs.length - (intOf i).toNat)
  case atStart => exact ⟨0, Nat.zero_le _, rfl, fun i hi => absurd hi (by omega)⟩
  case round =>
    obtain ⟨k, hk, rfl, HN⟩ := hrel
    by_cases hlt : k < xs.length
    · have hxk : xs[k]? = some xs[k] := List.getElem?_eq_getElem hlt
      generalize xs[k] = x at hxk
      obtain ⟨b, off, rfl, hx'⟩ := hx (by rintro rfl; simp at hlt)
      have hc := hx' k _ hxk
      have hs := hasB_snoc xs j k x hxk HN.out
      clear hx hx' hxk
      rcases hs with ⟨hs, rfl⟩ | ⟨hs, hn⟩
      · have HS := Lib.hid hs
        clear hs
        go_wp2
        go_ret
        exact ⟨by rw [HS.out]; rfl, rfl⟩
      · have hb : (x == j) = false := by simpa using hs
        have HN' := Lib.hid hn
        clear hs hn
        go_wp2
        go_round
        case rel => exact ⟨k + 1, by omega, by go_num, HN'⟩
        case measure => simp [intOf]; omega
    · obtain rfl : k = xs.length := by omega
      have HS := Lib.hid (not_hasB HN.out)
      go_wp2
      go_ret
      exact ⟨by rw [HS.out]; rfl, rfl⟩

def Fine (w : World) (e : Ending) (w' : World) : Prop := e = .returned (.bool true) ∧ Below w.heap.size w w'

/-- A block that was there is there still. -/
theorem kept_row {w w' : World} {q : Nat} {o : Obj} (h : w.heap[q]? = some o) (hb : Below w.heap.size w w') : w'.heap[q]? = some o := (hb.block q (Array.getElem?_eq_some_iff.1 h).1).trans h
theorem EFun.old {w w' : World} {lo hi : Nat} {f : FunD} {v : Value} (h : EFun w (Zn.new lo hi) f v) (hb : Below hi w w') : EFun w' (Zn.new lo hi) f v := h.keep (Kept.below hb fun _ hb => hb.2)
end

/- What FnGraphs asks of the order, the reached ones and the preds: lists alone. -/
section
open Go.ChangeShapes Go.WideShapes Go.ChangeAt Go.RowKit Go.Joins

section
variable {sc : Int → List Int} {N : Nat} (hsc : ∀ b : Nat, b < N → ∀ t ∈ sc b, 0 ≤ t ∧ t < (N : Int))
include hsc
theorem dlist_count {K : Nat} (n : Nat) (ih : ∀ (b : Nat) (s : List Bool × List Int), Inv N K s → s.1[b]? = some false → (dfs sc n b s).2.length + cf (dfs sc n b s).1 = s.2.length + cf s.1) :
    ∀ (ts : List Int) (s : List Bool × List Int), (∀ t ∈ ts, 0 ≤ t ∧ t < (N : Int)) → Inv N K s → (dlist sc n ts s).2.length + cf (dlist sc n ts s).1 = s.2.length + cf s.1
  | [], s, _, _ => rfl
  | t :: ts, s, ht, h => by
    rw [dlist_cons]
    have ht0 := ht t (by simp)
    obtain ⟨k, rfl⟩ : ∃ k : Nat, t = k := ⟨t.toNat, by omega⟩
    have hk : k < s.1.length := by rw [h.len]; omega
    have hsk : s.1[k]? = some s.1[k] := List.getElem?_eq_getElem hk
    have hst : Inv N K (dstep sc n s k) ∧ (dstep sc n s k).2.length + cf (dstep sc n s k).1 = s.2.length + cf s.1 := by
      unfold dstep
      rw [seenAt_of hsk]
      by_cases hv : s.1[k] = true
      · rw [if_pos hv]; exact ⟨h, rfl⟩
      · rw [if_neg hv]
        have hv' : s.1[k] = false := by simpa using hv
        rw [hv'] at hsk
        exact ⟨(dfs_inv hsc n k s h hsk).1, ih k s h hsk⟩
    exact (dlist_count n ih ts _ (fun u hu => ht u (by simp [hu])) hst.1).trans hst.2
theorem dfs_count {K : Nat} : ∀ (n : Nat) (b : Nat) (s : List Bool × List Int), Inv N K s → s.1[b]? = some false → (dfs sc n b s).2.length + cf (dfs sc n b s).1 = s.2.length + cf s.1
  | 0, _, _, _, _ => rfl
  | n + 1, b, s, h, hb => by
    have hbN : b < N := by rw [← h.len]; exact (List.getElem?_eq_some_iff.1 hb).1
    have hcf := cf_set hb
    have hcap := h.cap
    have h0 : Inv N K (s.1.set b true, s.2) := ⟨by simp [h.len], by show s.2.length + cf (s.1.set b true) ≤ K; omega, h.mem⟩
    have g := dlist_count hsc n (fun b' s' => dfs_count n b' s') (sc b) (s.1.set b true, s.2) (hsc b hbN) h0
    have g' : (dlist sc n (sc b) (s.1.set b true, s.2)).2.length + cf (dlist sc n (sc b) (s.1.set b true, s.2)).1 = s.2.length + cf (s.1.set b true) := g
    rw [dfs_succ, Int.toNat_natCast, List.length_append, List.length_singleton]
    show (dlist sc n (sc b) (s.1.set b true, s.2)).2.length + 1 + cf (dlist sc n (sc b) (s.1.set b true, s.2)).1 = _
    omega
theorem dfs0_count (hN : 1 ≤ N) : (dfs0 sc N).2.length + cf (dfs0 sc N).1 = N := by
  have := dfs_count hsc N 0 _ (inv0 N) (get_replicate (N := N) (k := 0) (by omega))
  show (dfs sc N (0 : Nat) (List.replicate N false, [])).2.length + cf (dfs sc N (0 : Nat) (List.replicate N false, [])).1 = N
  rw [this]
  show 0 + cf (List.replicate N false) = N
  rw [cf_replicate]; omega
end
theorem count_both : ∀ bs : List Bool, bs.count true + cf bs = bs.length
  | [] => rfl
  | b :: bs => by
    have := count_both bs
    unfold cf at this ⊢
    cases b <;> simp <;> omega
/-- How many of the first k are true. -/
def manyB (R : List Bool) (k : Nat) : Nat := (R.take k).count true
theorem manyB_zero (R : List Bool) : manyB R 0 = 0 := by simp [manyB]
theorem manyB_succ {R : List Bool} {k : Nat} {b : Bool} (h : R[k]? = some b) : manyB R (k + 1) = manyB R k + if b = true then 1 else 0 := by
  unfold manyB
  rw [List.take_add_one, h, Option.toList_some, List.count_append]
  cases b <;> simp
theorem manyB_le (R : List Bool) (k : Nat) : manyB R k ≤ R.length := Nat.le_trans List.count_le_length (by rw [List.length_take]; omega)
theorem manyB_all (R : List Bool) : manyB R R.length = R.count true := by simp [manyB]

/-- The order and who is reached agree. -/
theorem order_reached {f : FunD} {L : List Int} {R : List Bool} (hL : OrderRes f L) (hR : ReachedRes f R) : (∀ (k : Nat) (b : Bool), R[k]? = some b → hasB L k = b) ∧ R.count true = L.length ∧ (L = [] ∨ ∃ T, L = 0 :: T) := by
  rcases hL with ⟨hp, rfl⟩ | ⟨hn, rfl⟩
  · rcases hR with ⟨_, hr⟩ | ⟨h, _⟩
    · have hsc := (targets_of hp).sc
      have h1n := hp.1.1.1
      have ho := dfs0_order hsc h1n
      have hd := dfs0_reach hsc h1n
      obtain rfl := hr.one hd
      refine ⟨fun k b hb => ?_, ?_, .inr ho.head⟩
      · have hk : k < f.blocks.length := by rw [← hd.1]; exact (List.getElem?_eq_some_iff.1 hb).1
        have e : hasB (dfs0 (scF f.blocks) f.blocks.length).2.reverse k = true ↔ b = true := by
          rw [hasB_iff, ho.mem]
          constructor
          · intro h
            have := (hd.2 k hk).2 h.2.2
            rw [hb] at this
            injection this
          · rintro rfl
            exact ⟨by omega, by omega, (hd.2 k hk).1 hb⟩
        exact Bool.eq_iff_iff.2 e
      · have h1 := dfs0_count hsc h1n
        have h2 := count_both (dfs0 (scF f.blocks) f.blocks.length).1
        rw [hd.1] at h2
        rw [List.length_reverse]
        omega
    · exact absurd hp h
  · rcases hR with ⟨h, _⟩ | ⟨_, rfl⟩
    · exact absurd h hn
    · exact ⟨fun k b hb => by simp at hb, rfl, .inl rfl⟩
/-- Each but the first one stands behind one of its preds. -/
theorem order_preds {f : FunD} {L : List Int} (hL : OrderRes f L) {i : Nat} {x : Int} (hi : 1 ≤ i) (hx : L[i]? = some x) : FunP f ∧ (0 ≤ x ∧ x < f.blocks.length) ∧ (predsF f x).any (fun p => hasB (L.take i) p) = true := by
  rcases hL with ⟨hp, rfl⟩ | ⟨hn, rfl⟩
  · have hsc := (targets_of hp).sc
    have ho := dfs0_order hsc hp.1.1.1
    obtain ⟨j, rfl⟩ : ∃ j, i = j + 1 := ⟨i - 1, by omega⟩
    have hr := (ho.mem x).1 (List.mem_of_getElem? hx)
    obtain ⟨m, y, hm, hy, hxy⟩ := ho.prd j x hx
    have hyr := (ho.mem y).1 (List.mem_of_getElem? hy)
    refine ⟨hp, ⟨hr.1, hr.2.1⟩, List.any_eq_true.2 ⟨y, ?_, hasB_iff.2 ?_⟩⟩
    · obtain ⟨k, rfl⟩ : ∃ k : Nat, y = k := ⟨y.toNat, by omega⟩
      have hk : f.blocks[k]? = some f.blocks[k] := List.getElem?_eq_getElem (by omega)
      rw [scF_at hk] at hxy
      exact mem_predsF hk hxy
    · exact List.mem_of_getElem? (i := m) (by rw [List.getElem?_take, if_pos hm]; exact hy)
  · simp at hx
end

end Go.Proofs.Yteikpekffgifoaa
