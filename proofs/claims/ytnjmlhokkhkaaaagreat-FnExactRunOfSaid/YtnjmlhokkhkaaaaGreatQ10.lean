/- Run1, To1, To2, joined. -/
import Derived.Test.YtnjmlhokkhkaaaaGreatQ1
import Derived.Test.YtnjmlhokkhkaaaaGreatQ2
import Derived.Test.YtnjmlhokkhkaaaaGreatQ6
import Derived.Test.YtnjmlhokkhkaaaaGreatQ7
import Derived.Test.YtnjmlhokkhkaaaaGreatQ9
import Derived.Deep.DeepCutAuto
namespace Go.Proofs.YtnjmlhokkhkaaaaGreat

/- moveAll of the program: all at once. -/
section
open Go.ChangeShapes Go.WideShapes Go.ChangeAt Go.RowKit Go.Joins

/-- The run goes on: as s it stands behind the call. -/
def GivesRun (f : FunD) (wa : World) (bl : Value) (R V G : Nat) (s : VSt) (st val : Int) (vis : Nat) (ev : Value) (w : World) (e : Ending) (w' : World) : Prop :=
  ∃ v ev', e = .returned v ∧ RW f wa w' bl R V G s st val vis ev' ∧ RF R V ev ev' w w'

/-- The first k taken values; the others are 0 yet. -/
def tkS (ms : List MoveD) (σ : List Int) (k : Nat) : List Int := ((ms.take k).map fun m => gN σ m.src) ++ List.replicate (ms.length - k) 0
theorem tkS_zero (ms : List MoveD) (σ : List Int) : tkS ms σ 0 = List.replicate ms.length 0 := by simp [tkS]
theorem tkS_set {ms : List MoveD} {σ : List Int} {k : Nat} {m : MoveD} (h : ms[k]? = some m) : (tkS ms σ k).set k (gN σ m.src) = tkS ms σ (k + 1) := by
  have hk := (List.getElem?_eq_some_iff.1 h).1
  unfold tkS
  rw [take_snoc h, List.map_append, List.map_singleton, show ms.length - k = (ms.length - (k + 1)) + 1 by omega, List.replicate_succ]
  have hl : ((ms.take k).map fun m => gN σ m.src).length = k := by rw [List.length_map, List.length_take]; omega
  rw [List.set_append, if_neg (by omega), hl, Nat.sub_self, List.set_cons_zero, List.append_assoc]; rfl
theorem tkS_get {ms : List MoveD} {σ : List Int} {k : Nat} {m : MoveD} (h : ms[k]? = some m) : (tkS ms σ ms.length)[k]? = some (gN σ m.src) := by
  unfold tkS
  rw [List.take_length, Nat.sub_self]
  simp [h]
theorem RW.valsN {f : FunD} {wa w : World} {bl ev : Value} {R V G : Nat} {s : VSt} {st val : Int} {vis : Nat} (h : RW f wa w bl R V G s st val vis ev) : IL w V s.σ.length s.σ := ⟨rfl, h.vals⟩

set_option maxRecDepth 10000 in
set_option maxHeartbeats 2000000 in
theorem moveAll_any (f : FunD) (wa w : World) (bl mv : Value) (R V G : Nat) (s : VSt) (st val : Int) (vis : Nat) (ev : Value) (Zm : Zn) (ms : List MoveD)
    (h : RW f wa w bl R V G s st val vis ev) (hVR : V < R) (hm : Row w Zm 2 EMove mv ms) (hZ : ∀ b, Zm.D b → Beside R V ev w b)
    (hok : ∀ (k : Nat) m, ms[k]? = some m → (0 ≤ m.dst ∧ m.dst < (s.σ.length : Int)) ∧ (0 ≤ m.src ∧ m.src < (s.σ.length : Int))) (hlen : ms.length ≤ 40) :
    Calls Tryz.prog 63 #[.pointer (some ⟨R, 0, none⟩), mv] w (GivesRun f wa bl R V G { s with σ := mvA ms s.σ } st val vis ev w) := by
  obtain ⟨_, A, c, rfl, hx⟩ := hm
  obtain ⟨i0, hi, hz0, hz1, hz2⟩ := info_parts info_int
  have hmk := fun W => run_make_rowN (P := Tryz.prog) 27 2 i0 _ Tryz.underlying27 hi hz0 .i64 .i64 ms.length ms.length (Nat.le_refl _) (by rw [hz2]; omega) (by omega) W
  rw [hz1] at hmk
  clear hi hz0 hz1 hz2
  simp only [Nat.mul_one] at hmk
  have HX := Lib.hid hx
  have HZ := Lib.hid hZ
  have HOK := Lib.hid hok
  have HW := Lib.hid h
  clear hx hZ hok
  go_enter Tryz.func63, Tryz.ntmps63
  go_wp2_with fail
  have hB1 : Below w.heap.size w (w.alloc (.cells (madeCells #[.int .i64 0] ms.length) 2)) := (Below.refl _ _).alloc (Nat.le_refl _) _
  have hT := IL.start w ms.length (by rw [maxLen_is]; omega)
  obtain ⟨T, hTe⟩ : ∃ T, T = w.heap.size := ⟨_, rfl⟩
  have hT0 : T < (w.alloc (.cells (madeCells #[.int .i64 0] ms.length) 2)).heap.size := by rw [hTe]; simp
  rw [← hTe] at hT ⊢
  have HB1 : Hid (Beside R V ev (w.alloc (.cells (madeCells #[.int .i64 0] ms.length) 2)) T) := h.beside_new (by omega) hT0
  generalize w.alloc (.cells (madeCells #[.int .i64 0] ms.length) 2) = w1 at *
  have HW1 := Lib.hid (h.below hB1)
  have HF1 : Hid (RF R V ev ev w w1) := RF.below hB1
  have HT1 : Hid (IL w1 T ms.length (tkS ms s.σ 0)) := by rw [Hid, tkS_zero]; exact hT
  have HT0 : Hid (w.heap.size ≤ T) := by rw [Hid, hTe]; exact Nat.le_refl _
  have HTA : Hid (wa.heap.size ≤ T) := h.leA HT0.out
  clear h hB1 hT hTe hT0 hmk
  go_wp2_with fail
  go_loopw [14] (fun i wr => ∃ k : Nat, k ≤ ms.length ∧ i = .int .i64 k ∧ Hid (RW f wa wr bl R V G s st val vis ev) ∧ Hid (RF R V ev ev w wr) ∧ Hid (Beside R V ev wr T) ∧ Hid (IL wr T ms.length (tkS ms s.σ k))) (fun i _ => ms.length - (intOf i).toNat)
  case atStart => exact ⟨0, Nat.zero_le _, rfl, HW1.out, HF1.out, HB1.out, HT1.out⟩
  clear HW1 HF1 HB1 HT1
  case round =>
    obtain ⟨k, hk, rfl, HWr, HF, HB, HT⟩ := hrel
    by_cases hkl : k < ms.length
    case pos =>
      have hkl' : (k : Int) < (ms.length : Int) := by omega
      have hmk : ms[k]? = some ms[k] := List.getElem?_eq_getElem hkl
      generalize ms[k] = m at hmk
      obtain ⟨b, off, rfl, hDb, hrow⟩ := HX.out (by rintro rfl; simp at hkl)
      obtain ⟨cs, hE, hcs⟩ := hrow k m hmk
      subst hE
      have hbb := HZ.out b hDb
      have c0 : wr.cell? ⟨b, off + k * 2, none⟩ = some (.int .i64 m.dst) := (hbb.cell HF.out _).trans (hcs 0 _ rfl).1
      have c1 : wr.cell? ⟨b, off + k * 2 + 1, none⟩ = some (.int .i64 m.src) := (hbb.cell HF.out _).trans (hcs 1 _ rfl).1
      obtain ⟨⟨hd0, hd1⟩, hs0, hs1⟩ := HOK.out k m hmk
      have HST : Hid ((tkS ms s.σ k).set k (gN s.σ m.src) = tkS ms s.σ (k + 1)) := tkS_set hmk
      clear hmk hcs hrow hbb
      obtain ⟨dst, src⟩ := m
      simp only at c0 c1 hd0 hd1 hs0 hs1 HST
      obtain ⟨a, rfl⟩ : ∃ a : Nat, src = a := ⟨src.toNat, by omega⟩
      have ha : a < s.σ.length := by omega
      go_upto_region 4 with fail
      have hB2 : Below wr.heap.size wr (wr.alloc (.cells #[.int .i64 dst, .int .i64 a] 82)) := (Below.refl _ _).alloc (Nat.le_refl _) _
      have k1 : (wr.alloc (.cells #[.int .i64 dst, .int .i64 a] 82)).cell? ⟨wr.heap.size, 1, none⟩ = some (.int .i64 a) := by go_simp
      obtain ⟨q, hq⟩ : ∃ q, q = wr.heap.size := ⟨_, rfl⟩
      rw [← hq] at k1 ⊢
      generalize wr.alloc (.cells #[.int .i64 dst, .int .i64 a] 82) = w2 at *
      have HW2 := Lib.hid (HWr.out.below hB2)
      have HF2 : Hid (RF R V ev ev w w2) := HF.out.trans (RF.below hB2)
      have HB2 := Lib.hid (HB.out.rf (RF.below hB2))
      have HT2 := Lib.hid (HT.out.below hB2)
      have r2 : w2.cell? ⟨R, 2, none⟩ = some (.slice (some ⟨V, 0, none⟩) s.σ.length s.σ.length) := HW2.out.cell rfl
      have v2 : w2.cell? ⟨V, a, none⟩ = some (.int .i64 (gN s.σ a)) := HW2.out.vcell rfl ha
      obtain ⟨x, hx⟩ : ∃ x, x = gN s.σ a := ⟨_, rfl⟩
      rw [← hx] at v2 HST
      have tc := HT2.out.cellN hkl
      have tf := HT2.out.frozen k
      have hkT := hkl
      have hlenT : s.σ.length ≤ 9223372036854775807 := by have := HW2.out.vals.ri.1; exact this
      clear hB2 hq hx c0 c1
      have Kd : (fun w' => w'.cell? ⟨R, 2, none⟩ = some (.slice (some ⟨V, 0, none⟩) s.σ.length s.σ.length) ∧ w'.cell? ⟨q, 1, none⟩ = some (.int .i64 a) ∧ w'.cell? ⟨V, a, none⟩ = some (.int .i64 x)) w2.drew := ⟨r2, k1, v2⟩
      refine wp_region_offL (S := ((fun w' => w'.cell? ⟨R, 2, none⟩ = some (.slice (some ⟨V, 0, none⟩) s.σ.length s.σ.length) ∧ w'.cell? ⟨q, 1, none⟩ = some (.int .i64 a) ∧ w'.cell? ⟨V, a, none⟩ = some (.int .i64 x)))) (by simp) (by kernel_rfl) (by kernel_rfl) (by kernel_rfl) (by kernel_rfl) (by kernel_rfl) ?_ (fun hHeld => ?_)
      · (try dsimp only)
        (first | exact Kd | fail)
      simp only [List.dropLast_cons_cons, List.dropLast_singleton, List.length_cons, List.length_nil]
      refine wpAnyH_take (i := 0) (v := ?_) rfl (by kernel_rfl) (by kernel_rfl) (by kernel_rfl) (fun _ _ _ h => h) (Or.inl ⟨by rfl, ?_⟩) (by assumption) ?_
      rotate_left
      · intro w hSw
        simp only [List.getElem_toArray, List.getElem_cons_zero]
        (try dsimp only at hSw)
        go_simp
        first | done | (with_reducible rfl)
      simp only [List.getElem_toArray, List.getElem_cons_zero, Act.put, List.setIfInBounds_toArray, List.set_cons_zero, List.set_cons_succ]
      refine wpAnyH_take (i := 1) (v := ?_) rfl (by kernel_rfl) (by kernel_rfl) (by kernel_rfl) (fun _ _ _ h => h) (Or.inl ⟨by rfl, ?_⟩) (by assumption) ?_
      rotate_left
      · intro w hSw
        simp only [List.getElem_toArray, List.getElem_cons_succ, List.getElem_cons_zero]
        (try dsimp only at hSw)
        go_simp
        first | done | (with_reducible rfl)
      simp only [List.getElem_toArray, List.getElem_cons_succ, List.getElem_cons_zero, Act.put, List.setIfInBounds_toArray, List.set_cons_zero, List.set_cons_succ]
      refine wpAnyH_take (i := 2) (v := ?_) rfl (by kernel_rfl) (by kernel_rfl) (by kernel_rfl) (fun _ _ _ h => h) (Or.inl ⟨by rfl, ?_⟩) (by assumption) ?_
      rotate_left
      · intro w hSw
        simp only [List.getElem_toArray, List.getElem_cons_succ, List.getElem_cons_zero]
        (try dsimp only at hSw)
        go_simp
        first | done | (with_reducible rfl)
      simp only [List.getElem_toArray, List.getElem_cons_succ, List.getElem_cons_zero, Act.put, List.setIfInBounds_toArray, List.set_cons_zero, List.set_cons_succ]
      refine wpAnyH_take (i := 3) (v := ?_) rfl (by kernel_rfl) (by kernel_rfl) (by kernel_rfl) (fun _ _ _ h => h) (Or.inl ⟨by rfl, ?_⟩) (by assumption) ?_
      rotate_left
      · intro w hSw
        simp only [List.getElem_toArray, List.getElem_cons_succ, List.getElem_cons_zero]
        (try dsimp only at hSw)
        go_simp
        first | done | (with_reducible rfl)
      simp only [List.getElem_toArray, List.getElem_cons_succ, List.getElem_cons_zero, Act.put, List.setIfInBounds_toArray, List.set_cons_zero, List.set_cons_succ]
      refine wpAnyH_take (i := 4) (v := ?_) rfl (by kernel_rfl) (by kernel_rfl) (by kernel_rfl) (fun _ _ _ h => h) (Or.inl ⟨by rfl, ?_⟩) (by assumption) ?_
      rotate_left
      · intro w hSw
        simp only [List.getElem_toArray, List.getElem_cons_succ, List.getElem_cons_zero]
        (try dsimp only at hSw)
        go_simp
        first | done | (with_reducible rfl)
      simp only [List.getElem_toArray, List.getElem_cons_succ, List.getElem_cons_zero, Act.put, List.setIfInBounds_toArray, List.set_cons_zero, List.set_cons_succ]
      refine wpAnyH_take (i := 5) (v := ?_) rfl (by kernel_rfl) (by kernel_rfl) (by kernel_rfl) (fun _ _ _ h => h) (Or.inl ⟨by rfl, ?_⟩) (by assumption) ?_
      rotate_left
      · intro w hSw
        simp only [List.getElem_toArray, List.getElem_cons_succ, List.getElem_cons_zero]
        (try dsimp only at hSw)
        go_simp
        first | done | (with_reducible rfl)
      simp only [List.getElem_toArray, List.getElem_cons_succ, List.getElem_cons_zero, Act.put, List.setIfInBounds_toArray, List.set_cons_zero, List.set_cons_succ]
      refine wpAnyH_take (i := 6) (v := ?_) rfl (by kernel_rfl) (by kernel_rfl) (by kernel_rfl) (fun _ _ _ h => h) (Or.inl ⟨by rfl, ?_⟩) (by assumption) ?_
      rotate_left
      · intro w hSw
        simp only [List.getElem_toArray, List.getElem_cons_succ, List.getElem_cons_zero]
        (try dsimp only at hSw)
        go_simp
        first | done | (with_reducible rfl)
      simp only [List.getElem_toArray, List.getElem_cons_succ, List.getElem_cons_zero, Act.put, List.setIfInBounds_toArray, List.set_cons_zero, List.set_cons_succ]
      refine wpAnyH_take (i := 7) (v := ?_) rfl (by kernel_rfl) (by kernel_rfl) (by kernel_rfl) (fun _ _ _ h => h) (Or.inl ⟨by rfl, ?_⟩) (by assumption) ?_
      rotate_left
      · intro w hSw
        simp only [List.getElem_toArray, List.getElem_cons_succ, List.getElem_cons_zero]
        (try dsimp only at hSw)
        go_simp
        first | done | (with_reducible rfl)
      simp only [List.getElem_toArray, List.getElem_cons_succ, List.getElem_cons_zero, Act.put, List.setIfInBounds_toArray, List.set_cons_zero, List.set_cons_succ]
      refine wpAnyH_take (i := 8) (v := ?_) rfl (by kernel_rfl) (by kernel_rfl) (by kernel_rfl) (fun _ _ _ h => h) (Or.inl ⟨by rfl, ?_⟩) (by assumption) ?_
      rotate_left
      · intro w hSw
        simp only [List.getElem_toArray, List.getElem_cons_succ, List.getElem_cons_zero]
        (try dsimp only at hSw)
        go_simp
        first | done | (with_reducible rfl)
      simp only [List.getElem_toArray, List.getElem_cons_succ, List.getElem_cons_zero, Act.put, List.setIfInBounds_toArray, List.set_cons_zero, List.set_cons_succ]
      refine wpAnyH_take (i := 9) (v := ?_) rfl (by kernel_rfl) (by kernel_rfl) (by kernel_rfl) (fun _ _ _ h => h) (Or.inl ⟨by rfl, ?_⟩) (by assumption) ?_
      rotate_left
      · intro w hSw
        simp only [List.getElem_toArray, List.getElem_cons_succ, List.getElem_cons_zero]
        (try dsimp only at hSw)
        go_simp
        first | done | (with_reducible rfl)
      simp only [List.getElem_toArray, List.getElem_cons_succ, List.getElem_cons_zero, Act.put, List.setIfInBounds_toArray, List.set_cons_zero, List.set_cons_succ]
      refine wpAnyH_take (i := 10) (v := ?_) rfl (by kernel_rfl) (by kernel_rfl) (by kernel_rfl) (fun _ _ _ h => h) (Or.inl ⟨by rfl, ?_⟩) (by assumption) ?_
      rotate_left
      · intro w hSw
        simp only [List.getElem_toArray, List.getElem_cons_succ, List.getElem_cons_zero]
        (try dsimp only at hSw)
        go_simp
        first | done | (with_reducible rfl)
      simp only [List.getElem_toArray, List.getElem_cons_succ, List.getElem_cons_zero, Act.put, List.setIfInBounds_toArray, List.set_cons_zero, List.set_cons_succ]
      refine wpAnyH_done (by kernel_rfl) ?_ _
      refine offQ_last rfl (fun KL hKL => ?_)
      go_simp
      refine hKL.out _ _ ?_
      (try rw [show w2.drew.setCell ⟨T, k, none⟩ (.int .i64 x) = (w2.setCell ⟨T, k, none⟩ (.int .i64 x)).drew from rfl])
      have hfw : Fw (· = T) w2 (w2.drew.setCell ⟨T, k, none⟩ (.int .i64 x)) := (Fw.drewN _ w2 1).trans (Fw.set (P := (· = T)) _ rfl k _) fun _ _ h => h
      have HW3 := Lib.hid (HW2.out.other hfw HB2.out HTA.out)
      have HF3 := Lib.hid (HF2.out.other hfw HT0.out)
      have HB3 := Lib.hid (HB2.out.other hfw)
      have HT3 : Hid (IL (w2.drew.setCell ⟨T, k, none⟩ (.int .i64 x)) T ms.length (tkS ms s.σ (k + 1))) := by
        rw [← HST.out]
        exact IL.set (w := w2.drew) HT2.out k x
      have hsw : w2.drew.setCell ⟨T, k, none⟩ (.int .i64 x) = (w2.setCell ⟨T, k, none⟩ (.int .i64 x)).drew := rfl
      rw [hsw] at HW3 HF3 HB3 HT3
      clear hsw hfw
      generalize (w2.setCell ⟨T, k, none⟩ (.int .i64 x)).drew = w3 at *
      clear Kd r2 v2 k1 tc tf
      go_wp2_with fail
      go_roundw
      case rel => exact ⟨k + 1, by omega, by go_num, HW3.out, HF3.out, HB3.out, HT3.out⟩
      case measure => simp [intOf]; omega
    obtain rfl : k = ms.length := by omega
    have HT' : Hid (IL wr T ms.length (tkS ms s.σ ms.length)) := HT.out
    clear HT
    go_wp2_with fail
    obtain ⟨wo, hwo⟩ : ∃ wo : World, wo = wr := ⟨_, rfl⟩
    subst hwo
    go_loopw [33] (fun i wr => ∃ k : Nat, k ≤ ms.length ∧ i = .int .i64 k ∧ Hid (RW f wa wr bl R V G { s with σ := mvS ms s.σ k } st val vis ev) ∧ Hid (RF R V ev ev w wr) ∧ Hid (Beside R V ev wr T) ∧ Hid (IL wr T ms.length (tkS ms s.σ ms.length))) (fun i _ => ms.length - (intOf i).toNat)
    case atStart => exact ⟨0, Nat.zero_le _, rfl, HWr.out, HF.out, HB.out, HT'.out⟩
    clear HWr HF HB HT'
    case round =>
      obtain ⟨k, hk, rfl, HWr, HF, HB, HT⟩ := hrel
      by_cases hkl : k < ms.length
      case pos =>
        have hkl' : (k : Int) < (ms.length : Int) := by omega
        have hmk : ms[k]? = some ms[k] := List.getElem?_eq_getElem hkl
        generalize ms[k] = m at hmk
        obtain ⟨b, off, rfl, hDb, hrow⟩ := HX.out (by rintro rfl; simp at hkl)
        obtain ⟨cs, hE, hcs⟩ := hrow k m hmk
        subst hE
        have hbb := HZ.out b hDb
        have c0 : wr.cell? ⟨b, off + k * 2, none⟩ = some (.int .i64 m.dst) := (hbb.cell HF.out _).trans (hcs 0 _ rfl).1
        have c1 : wr.cell? ⟨b, off + k * 2 + 1, none⟩ = some (.int .i64 m.src) := (hbb.cell HF.out _).trans (hcs 1 _ rfl).1
        obtain ⟨⟨hd0, hd1⟩, hs0, hs1⟩ := HOK.out k m hmk
        have HGE : Hid ((tkS ms s.σ ms.length)[k]? = some (gN s.σ m.src)) := tkS_get hmk
        have HSU : Hid (mvS ms s.σ (k + 1) = pN (mvS ms s.σ k) m.dst (gN s.σ m.src)) := mvS_succ hmk
        clear hmk hcs hrow hbb
        obtain ⟨dst, src⟩ := m
        simp only at c0 c1 hd0 hd1 hs0 hs1 HGE HSU
        obtain ⟨d, rfl⟩ : ∃ d : Nat, dst = d := ⟨dst.toNat, by omega⟩
        have hN : Hid ((mvS ms s.σ k).length = s.σ.length) := mvS_len ms s.σ k
        have hdl : d < (mvS ms s.σ k).length := by rw [hN.out]; omega
        have hdl' : (d : Int) < ((mvS ms s.σ k).length : Int) := by omega
        have hd0' : 0 ≤ (d : Int) := by omega
        obtain ⟨x, hxx⟩ : ∃ x, x = gN s.σ src := ⟨_, rfl⟩
        rw [← hxx] at HGE HSU
        clear hxx
        go_upto_region 9 with fail
        have hB2 : Below wr.heap.size wr (wr.alloc (.cells #[.int .i64 d, .int .i64 src] 82)) := (Below.refl _ _).alloc (Nat.le_refl _) _
        have k0 : (wr.alloc (.cells #[.int .i64 d, .int .i64 src] 82)).cell? ⟨wr.heap.size, 0, none⟩ = some (.int .i64 d) := by go_simp
        obtain ⟨q, hq⟩ : ∃ q, q = wr.heap.size := ⟨_, rfl⟩
        rw [← hq] at k0 ⊢
        generalize wr.alloc (.cells #[.int .i64 d, .int .i64 src] 82) = w2 at *
        have HW2 := Lib.hid (HWr.out.below hB2)
        have HF2 : Hid (RF R V ev ev w w2) := HF.out.trans (RF.below hB2)
        have HB2 := Lib.hid (HB.out.rf (RF.below hB2))
        have HT2 := Lib.hid (HT.out.below hB2)
        have tc := HT2.out.cell HGE.out
        have r2 : w2.cell? ⟨R, 2, none⟩ = some (.slice (some ⟨V, 0, none⟩) (mvS ms s.σ k).length (mvS ms s.σ k).length) := HW2.out.cell rfl
        have vc := HW2.out.vcell (x := (d : Int)) rfl hdl
        have vf := HW2.out.vfrozen d
        have hlenT : (mvS ms s.σ k).length ≤ 9223372036854775807 := HW2.out.vals.ri.1
        obtain ⟨y, hy⟩ : ∃ y, y = gN (mvS ms s.σ k) d := ⟨_, rfl⟩
        replace vc : w2.cell? ⟨V, d, none⟩ = some (.int .i64 y) := by rw [hy]; exact vc
        have HRS := Lib.hid (HW2.out.setV hVR (x := (d : Int)) rfl x)
        clear hB2 hq c0 c1 hy hN HWr HF HB HT
        generalize (mvS ms s.σ k).length = N at *
        have Kd : (fun w' => w'.cell? ⟨R, 2, none⟩ = some (.slice (some ⟨V, 0, none⟩) N N) ∧ w'.cell? ⟨q, 0, none⟩ = some (.int .i64 d) ∧ w'.cell? ⟨T, k, none⟩ = some (.int .i64 x)) w2.drew := ⟨r2, k0, tc⟩
        refine wp_region_offL (S := ((fun w' => w'.cell? ⟨R, 2, none⟩ = some (.slice (some ⟨V, 0, none⟩) N N) ∧ w'.cell? ⟨q, 0, none⟩ = some (.int .i64 d) ∧ w'.cell? ⟨T, k, none⟩ = some (.int .i64 x)))) (by simp) (by kernel_rfl) (by kernel_rfl) (by kernel_rfl) (by kernel_rfl) (by kernel_rfl) ?_ (fun hHeld => ?_)
        · (try dsimp only)
          (first | exact Kd | fail)
        simp only [List.dropLast_cons_cons, List.dropLast_singleton, List.length_cons, List.length_nil]
        refine wpAnyH_take (i := 0) (v := ?_) rfl (by kernel_rfl) (by kernel_rfl) (by kernel_rfl) (fun _ _ _ h => h) (Or.inl ⟨by rfl, ?_⟩) (by assumption) ?_
        rotate_left
        · intro w hSw
          simp only [List.getElem_toArray, List.getElem_cons_zero]
          (try dsimp only at hSw)
          go_simp
          first | done | (with_reducible rfl)
        simp only [List.getElem_toArray, List.getElem_cons_zero, Act.put, List.setIfInBounds_toArray, List.set_cons_zero, List.set_cons_succ]
        refine wpAnyH_take (i := 1) (v := ?_) rfl (by kernel_rfl) (by kernel_rfl) (by kernel_rfl) (fun _ _ _ h => h) (Or.inl ⟨by rfl, ?_⟩) (by assumption) ?_
        rotate_left
        · intro w hSw
          simp only [List.getElem_toArray, List.getElem_cons_succ, List.getElem_cons_zero]
          (try dsimp only at hSw)
          go_simp
          first | done | (with_reducible rfl)
        simp only [List.getElem_toArray, List.getElem_cons_succ, List.getElem_cons_zero, Act.put, List.setIfInBounds_toArray, List.set_cons_zero, List.set_cons_succ]
        refine wpAnyH_take (i := 2) (v := ?_) rfl (by kernel_rfl) (by kernel_rfl) (by kernel_rfl) (fun _ _ _ h => h) (Or.inl ⟨by rfl, ?_⟩) (by assumption) ?_
        rotate_left
        · intro w hSw
          simp only [List.getElem_toArray, List.getElem_cons_succ, List.getElem_cons_zero]
          (try dsimp only at hSw)
          go_simp
          first | done | (with_reducible rfl)
        simp only [List.getElem_toArray, List.getElem_cons_succ, List.getElem_cons_zero, Act.put, List.setIfInBounds_toArray, List.set_cons_zero, List.set_cons_succ]
        refine wpAnyH_take (i := 3) (v := ?_) rfl (by kernel_rfl) (by kernel_rfl) (by kernel_rfl) (fun _ _ _ h => h) (Or.inl ⟨by rfl, ?_⟩) (by assumption) ?_
        rotate_left
        · intro w hSw
          simp only [List.getElem_toArray, List.getElem_cons_succ, List.getElem_cons_zero]
          (try dsimp only at hSw)
          go_simp
          first | done | (with_reducible rfl)
        simp only [List.getElem_toArray, List.getElem_cons_succ, List.getElem_cons_zero, Act.put, List.setIfInBounds_toArray, List.set_cons_zero, List.set_cons_succ]
        refine wpAnyH_take (i := 4) (v := ?_) rfl (by kernel_rfl) (by kernel_rfl) (by kernel_rfl) (fun _ _ _ h => h) (Or.inl ⟨by rfl, ?_⟩) (by assumption) ?_
        rotate_left
        · intro w hSw
          simp only [List.getElem_toArray, List.getElem_cons_succ, List.getElem_cons_zero]
          (try dsimp only at hSw)
          go_simp
          first | done | (with_reducible rfl)
        simp only [List.getElem_toArray, List.getElem_cons_succ, List.getElem_cons_zero, Act.put, List.setIfInBounds_toArray, List.set_cons_zero, List.set_cons_succ]
        refine wpAnyH_take (i := 5) (v := ?_) rfl (by kernel_rfl) (by kernel_rfl) (by kernel_rfl) (fun _ _ _ h => h) (Or.inl ⟨by rfl, ?_⟩) (by assumption) ?_
        rotate_left
        · intro w hSw
          simp only [List.getElem_toArray, List.getElem_cons_succ, List.getElem_cons_zero]
          (try dsimp only at hSw)
          go_simp
          first | done | (with_reducible rfl)
        simp only [List.getElem_toArray, List.getElem_cons_succ, List.getElem_cons_zero, Act.put, List.setIfInBounds_toArray, List.set_cons_zero, List.set_cons_succ]
        refine wpAnyH_take (i := 6) (v := ?_) rfl (by kernel_rfl) (by kernel_rfl) (by kernel_rfl) (fun _ _ _ h => h) (Or.inl ⟨by rfl, ?_⟩) (by assumption) ?_
        rotate_left
        · intro w hSw
          simp only [List.getElem_toArray, List.getElem_cons_succ, List.getElem_cons_zero]
          (try dsimp only at hSw)
          go_simp
          first | done | (with_reducible rfl)
        simp only [List.getElem_toArray, List.getElem_cons_succ, List.getElem_cons_zero, Act.put, List.setIfInBounds_toArray, List.set_cons_zero, List.set_cons_succ]
        refine wpAnyH_take (i := 7) (v := ?_) rfl (by kernel_rfl) (by kernel_rfl) (by kernel_rfl) (fun _ _ _ h => h) (Or.inl ⟨by rfl, ?_⟩) (by assumption) ?_
        rotate_left
        · intro w hSw
          simp only [List.getElem_toArray, List.getElem_cons_succ, List.getElem_cons_zero]
          (try dsimp only at hSw)
          go_simp
          first | done | (with_reducible rfl)
        simp only [List.getElem_toArray, List.getElem_cons_succ, List.getElem_cons_zero, Act.put, List.setIfInBounds_toArray, List.set_cons_zero, List.set_cons_succ]
        refine wpAnyH_take (i := 8) (v := ?_) rfl (by kernel_rfl) (by kernel_rfl) (by kernel_rfl) (fun _ _ _ h => h) (Or.inl ⟨by rfl, ?_⟩) (by assumption) ?_
        rotate_left
        · intro w hSw
          simp only [List.getElem_toArray, List.getElem_cons_succ, List.getElem_cons_zero]
          (try dsimp only at hSw)
          go_simp
          first | done | (with_reducible rfl)
        simp only [List.getElem_toArray, List.getElem_cons_succ, List.getElem_cons_zero, Act.put, List.setIfInBounds_toArray, List.set_cons_zero, List.set_cons_succ]
        refine wpAnyH_take (i := 9) (v := ?_) rfl (by kernel_rfl) (by kernel_rfl) (by kernel_rfl) (fun _ _ _ h => h) (Or.inl ⟨by rfl, ?_⟩) (by assumption) ?_
        rotate_left
        · intro w hSw
          simp only [List.getElem_toArray, List.getElem_cons_succ, List.getElem_cons_zero]
          (try dsimp only at hSw)
          go_simp
          first | done | (with_reducible rfl)
        simp only [List.getElem_toArray, List.getElem_cons_succ, List.getElem_cons_zero, Act.put, List.setIfInBounds_toArray, List.set_cons_zero, List.set_cons_succ]
        refine wpAnyH_take (i := 10) (v := ?_) rfl (by kernel_rfl) (by kernel_rfl) (by kernel_rfl) (fun _ _ _ h => h) (Or.inl ⟨by rfl, ?_⟩) (by assumption) ?_
        rotate_left
        · intro w hSw
          simp only [List.getElem_toArray, List.getElem_cons_succ, List.getElem_cons_zero]
          (try dsimp only at hSw)
          go_simp
          first | done | (with_reducible rfl)
        simp only [List.getElem_toArray, List.getElem_cons_succ, List.getElem_cons_zero, Act.put, List.setIfInBounds_toArray, List.set_cons_zero, List.set_cons_succ]
        refine wpAnyH_done (by kernel_rfl) ?_ _
        refine offQ_last rfl (fun KL hKL => ?_)
        go_simp
        refine hKL.out _ _ ?_
        (try rw [show w2.drew.setCell ⟨V, d, none⟩ (.int .i64 x) = (w2.setCell ⟨V, d, none⟩ (.int .i64 x)).drew from rfl])
        have hdr : RF R V ev ev w2 (w2.drew.setCell ⟨V, d, none⟩ (.int .i64 x)) := (RF.below (Below.refl _ _).drew).trans (RF.setV _ d _)
        have HW3 : Hid (RW f wa (w2.drew.setCell ⟨V, d, none⟩ (.int .i64 x)) bl R V G { s with σ := mvS ms s.σ (k + 1) } st val vis ev) := by
          rw [HSU.out]
          exact (HW2.out.below (Below.refl _ _).drew).setV hVR rfl x
        have HF3 := Lib.hid (HF2.out.trans hdr)
        have HB3 := Lib.hid (HB2.out.rf hdr)
        have HT3 : Hid (IL (w2.drew.setCell ⟨V, d, none⟩ (.int .i64 x)) T ms.length (tkS ms s.σ ms.length)) := HT2.out.fw hdr.fw (by
          obtain ⟨h1, h2, h3, _⟩ := HB2.out
          rintro (h | h | h)
          · exact h1 h
          · exact h2 h
          · exact h3 h)
        have hsw : w2.drew.setCell ⟨V, d, none⟩ (.int .i64 x) = (w2.setCell ⟨V, d, none⟩ (.int .i64 x)).drew := rfl
        rw [hsw] at HW3 HF3 HB3 HT3
        clear hsw hdr
        generalize (w2.setCell ⟨V, d, none⟩ (.int .i64 x)).drew = w3 at *
        clear Kd r2 vc vf k0 tc HRS
        go_wp2_with fail
        go_roundw
        case rel => exact ⟨k + 1, by omega, by go_num, HW3.out, HF3.out, HB3.out, HT3.out⟩
        case measure => simp [intOf]; omega
      obtain rfl : k = ms.length := by omega
      go_wp2_with fail
      exact bodyPost_end (results_none Tryz.results63 _ _ _) rfl ⟨_, _, rfl, HWr.out, HF.out⟩
end

/- toMoveS and toInsS of the laws. -/
section
open Go.ChangeShapes Go.WideShapes Go.ChangeAt Go.RowKit Go.Joins

def GivesV (R : World → Zn → Value → Prop) (w : World) (e : Ending) (w' : World) : Prop := ∃ r, e = .returned r ∧ R w' (Zn.new w.heap.size w'.heap.size) r ∧ Below w.heap.size w w'

set_option maxHeartbeats 400000 in
theorem toMove_any (a b : Int) (w : World) :
    Calls Tryz.prog 132 #[.agg #[.int .i64 a, .int .i64 b]] w fun e w' => e = .returned (.agg #[.int .i64 a, .int .i64 b]) ∧ Below w.heap.size w w' := by
  go_enter Tryz.func132, Tryz.ntmps132
  go_wp2
  refine bodyPost_ret (v := .agg #[.int .i64 a, .int .i64 b]) (by simp [results, Tryz.results132, go_sem]) rfl ⟨rfl, ?_⟩
  repeat (first | exact Below.refl _ _ | refine Below.alloc ?_ (by first | (simp; done) | (simp; omega)) _ | refine Below.setCell ?_ (by simp) _)

theorem info_Move : (Tryz.prog.info? 82).map (fun i => (i.zero, i.size, i.bytes)) = some (some (.agg #[.int .i64 0, .int .i64 0]), 2, 16) := by kernel_rfl

set_option maxHeartbeats 400000 in
theorem toMoveS_any (v : Value) (xs : List MoveD) (w : World) (Z : Zn) (hv : Row w Z 2 EMove v xs) (hD : ∀ b, Z.D b → b < w.heap.size) (hn : xs.length ≤ 1048576) :
    Calls Tryz.prog 106 #[v] w (GivesV (fun w Z v => Row w Z 2 EMove v xs) w) := by
  obtain ⟨_, A, c, rfl, hx⟩ := hv
  obtain ⟨i0, hi, hz0, hz1, hz2⟩ := info_parts info_Move
  have hmk := fun W => run_make_rowN (P := Tryz.prog) 64 82 i0 _ Tryz.underlying64 hi hz0 .i64 .i64 xs.length xs.length (Nat.le_refl _) (by rw [hz2]; omega) (by omega) W
  rw [hz1] at hmk
  clear hi hz0 hz1 hz2
  go_enter Tryz.func106, Tryz.ntmps106
  go_wp2
  go_loopw [4] (fun i wr => ∃ k : Nat, k ≤ xs.length ∧ i = .int .i64 k ∧ Hid (Below w.heap.size w wr) ∧ w.heap.size < wr.heap.size ∧ Hid (Fill wr w.heap.size 82 2 xs.length k EMove xs)) (fun i _ => xs.length - (intOf i).toNat)
  case atStart => exact ⟨0, Nat.zero_le _, rfl, (Below.refl _ _).alloc (Nat.le_refl _) _, by simp, Fill.zero (heap_alloc_new w _) (size_madeCells _ _)⟩
  case round =>
    obtain ⟨k, hk, rfl, HB, hsz, HF⟩ := hrel
    by_cases hlt : k < xs.length
    · have hxk : xs[k]? = some xs[k] := List.getElem?_eq_getElem hlt
      generalize xs[k] = x at hxk
      obtain ⟨b, off, rfl, hDb, hrow⟩ := hx (by rintro rfl; simp at hlt)
      obtain ⟨cs, rfl, hcs⟩ := hrow k x hxk
      have hbl := hD b hDb
      have c0 : wr.cell? ⟨b, off + k * 2, none⟩ = some (.int .i64 x.dst) := (HB.out.cell (p := ⟨b, _, none⟩) hbl).trans (hcs 0 _ rfl).1
      have c1 : wr.cell? ⟨b, off + k * 2 + 1, none⟩ = some (.int .i64 x.src) := (HB.out.cell (p := ⟨b, _, none⟩) hbl).trans (hcs 1 _ rfl).1
      clear hcs hrow hx
      have Hxk := Lib.hid hxk
      clear hxk
      go_wp2_with fail
      refine (toMove_any _ _ _).mono ?_
      rintro e w1 ⟨rfl, hb1⟩
      have hsz1 := hb1.size
      have HF1 : Hid (Fill w1 w.heap.size 82 2 xs.length k EMove xs) := HF.out.keep (hb1.block _ hsz) fun _ _ h => h
      obtain ⟨u0, d0⟩ := HF1.out.cell (j := 0) hlt (by omega)
      obtain ⟨u1, d1⟩ := HF1.out.cell (j := 1) hlt (by omega)
      have f0 := HF1.out.frozen (k * 2)
      have f1 := HF1.out.frozen (k * 2 + 1)
      rw [Nat.add_zero] at d0
      have HB1 : Hid (Below w.heap.size w w1) := HB.out.trans (hb1.mono (by omega))
      clear hb1 HB HF
      go_wp2_with fail
      go_roundw
      case rel =>
        exact ⟨k + 1, by omega, by go_num, (HB1.out.setCell (by simp) _).setCell (by simp) _, by simp; omega, HF1.out.store (cs := [.int .i64 x.dst, .int .i64 x.src]) Hxk.out hlt rfl rfl (fun _ _ h => h) (fun _ _ h => by rw [h]; rfl)⟩
      case measure => simp [intOf]; omega
    · obtain rfl : k = xs.length := by omega
      go_wp2
      go_ret
      exact ⟨_, rfl, HF.out.row (Z := Zn.new _ _) rfl (by omega) ⟨Nat.le_refl _, hsz⟩ _, HB.out⟩

theorem info_Ins : (Tryz.prog.info? 84).map (fun i => (i.zero, i.size, i.bytes)) = some (some (.agg #[.int .i64 0, .int .i64 0, .int .i64 0, .int .i64 0]), 4, 32) := by kernel_rfl

set_option maxHeartbeats 400000 in
theorem toInsS_any (v : Value) (xs : List InsD) (w : World) (Z : Zn) (hv : Row w Z 4 EIns v xs) (hD : ∀ b, Z.D b → b < w.heap.size) (hn : xs.length ≤ 1048576) :
    Calls Tryz.prog 107 #[v] w (GivesV (fun w Z v => Row w Z 4 EIns v xs) w) := by
  obtain ⟨_, A, c, rfl, hx⟩ := hv
  obtain ⟨i0, hi, hz0, hz1, hz2⟩ := info_parts info_Ins
  have hmk := fun W => run_make_rowN (P := Tryz.prog) 65 84 i0 _ Tryz.underlying65 hi hz0 .i64 .i64 xs.length xs.length (Nat.le_refl _) (by rw [hz2]; omega) (by omega) W
  rw [hz1] at hmk
  clear hi hz0 hz1 hz2
  go_enter Tryz.func107, Tryz.ntmps107
  go_wp2
  go_loopw [4] (fun i wr => ∃ k : Nat, k ≤ xs.length ∧ i = .int .i64 k ∧ Hid (Below w.heap.size w wr) ∧ w.heap.size < wr.heap.size ∧ Hid (Fill wr w.heap.size 84 4 xs.length k EIns xs)) (fun i _ => xs.length - (intOf i).toNat)
  case atStart => exact ⟨0, Nat.zero_le _, rfl, (Below.refl _ _).alloc (Nat.le_refl _) _, by simp, Fill.zero (heap_alloc_new w _) (size_madeCells _ _)⟩
  case round =>
    obtain ⟨k, hk, rfl, HB, hsz, HF⟩ := hrel
    by_cases hlt : k < xs.length
    · have hxk : xs[k]? = some xs[k] := List.getElem?_eq_getElem hlt
      generalize xs[k] = x at hxk
      obtain ⟨b, off, rfl, hDb, hrow⟩ := hx (by rintro rfl; simp at hlt)
      obtain ⟨cs, rfl, hcs⟩ := hrow k x hxk
      have hbl := hD b hDb
      have c0 : wr.cell? ⟨b, off + k * 4, none⟩ = some (.int .i64 x.op) := (HB.out.cell (p := ⟨b, _, none⟩) hbl).trans (hcs 0 _ rfl).1
      have c1 : wr.cell? ⟨b, off + k * 4 + 1, none⟩ = some (.int .i64 x.v) := (HB.out.cell (p := ⟨b, _, none⟩) hbl).trans (hcs 1 _ rfl).1
      have c2 : wr.cell? ⟨b, off + k * 4 + 2, none⟩ = some (.int .i64 x.a) := (HB.out.cell (p := ⟨b, _, none⟩) hbl).trans (hcs 2 _ rfl).1
      have c3 : wr.cell? ⟨b, off + k * 4 + 3, none⟩ = some (.int .i64 x.b) := (HB.out.cell (p := ⟨b, _, none⟩) hbl).trans (hcs 3 _ rfl).1
      clear hcs hrow hx
      have Hxk := Lib.hid hxk
      clear hxk
      go_wp2_with fail
      refine (toIns_any _ _ _ _ _).mono ?_
      rintro e w1 ⟨rfl, hb1⟩
      have hsz1 := hb1.size
      have HF1 : Hid (Fill w1 w.heap.size 84 4 xs.length k EIns xs) := HF.out.keep (hb1.block _ hsz) fun _ _ h => h
      obtain ⟨u0, d0⟩ := HF1.out.cell (j := 0) hlt (by omega)
      obtain ⟨u1, d1⟩ := HF1.out.cell (j := 1) hlt (by omega)
      obtain ⟨u2, d2⟩ := HF1.out.cell (j := 2) hlt (by omega)
      obtain ⟨u3, d3⟩ := HF1.out.cell (j := 3) hlt (by omega)
      have f2 := HF1.out.frozen (k * 4 + 2)
      have f3 := HF1.out.frozen (k * 4 + 3)
      have f0 := HF1.out.frozen (k * 4)
      have f1 := HF1.out.frozen (k * 4 + 1)
      rw [Nat.add_zero] at d0
      have HB1 : Hid (Below w.heap.size w w1) := HB.out.trans (hb1.mono (by omega))
      clear hb1 HB HF
      go_wp2_with fail
      go_roundw
      case rel =>
        exact ⟨k + 1, by omega, by go_num, (((HB1.out.setCell (by simp) _).setCell (by simp) _).setCell (by simp) _).setCell (by simp) _, by simp; omega, HF1.out.store (cs := [.int .i64 x.op, .int .i64 x.v, .int .i64 x.a, .int .i64 x.b]) Hxk.out hlt rfl rfl (fun _ _ h => h) (fun _ _ h => by rw [h]; rfl)⟩
      case measure => simp [intOf]; omega
    · obtain rfl : k = xs.length := by omega
      go_wp2
      go_ret
      exact ⟨_, rfl, HF.out.row (Z := Zn.new _ _) rfl (by omega) ⟨Nat.le_refl _, hsz⟩ _, HB.out⟩

theorem info_Int : (Tryz.prog.info? 2).map (fun i => (i.zero, i.size, i.bytes)) = some (some (.int .i64 0), 1, 8) := by kernel_rfl

set_option maxHeartbeats 400000 in
theorem toInt64S_any (v : Value) (xs : List Int) (w : World) (Z : Zn) (hv : Row w Z 1 EInt v xs) (hD : ∀ b, Z.D b → b < w.heap.size) (hn : xs.length ≤ 1048576) :
    Calls Tryz.prog 15 #[v] w (GivesV (fun w Z v => Row w Z 1 EInt v xs) w) := by
  obtain ⟨_, A, c, rfl, hx⟩ := hv
  obtain ⟨i0, hi, hz0, hz1, hz2⟩ := info_parts info_Int
  have hmk := fun W => run_make_rowN (P := Tryz.prog) 27 2 i0 _ Tryz.underlying27 hi hz0 .i64 .i64 xs.length xs.length (Nat.le_refl _) (by rw [hz2]; omega) (by omega) W
  rw [hz1] at hmk
  clear hi hz0 hz1 hz2
  go_enter Tryz.func15, Tryz.ntmps15
  go_wp2
  go_loopw [4] (fun i wr => ∃ k : Nat, k ≤ xs.length ∧ i = .int .i64 k ∧ Hid (Below w.heap.size w wr) ∧ w.heap.size < wr.heap.size ∧ Hid (Fill wr w.heap.size 2 1 xs.length k EInt xs)) (fun i _ => xs.length - (intOf i).toNat)
  case atStart => exact ⟨0, Nat.zero_le _, rfl, (Below.refl _ _).alloc (Nat.le_refl _) _, by simp, Fill.zero (heap_alloc_new w _) (by simp [size_madeCells])⟩
  case round =>
    obtain ⟨k, hk, rfl, HB, hsz, HF⟩ := hrel
    by_cases hlt : k < xs.length
    · have hxk : xs[k]? = some xs[k] := List.getElem?_eq_getElem hlt
      generalize xs[k] = x at hxk
      obtain ⟨b, off, rfl, hDb, hrow⟩ := hx (by rintro rfl; simp at hlt)
      obtain ⟨cs, rfl, hcs⟩ := hrow k x hxk
      have hbl := hD b hDb
      have c0 : wr.cell? ⟨b, off + k, none⟩ = some (.int .i64 x) := (HB.out.cell (p := ⟨b, _, none⟩) hbl).trans (by have := (hcs 0 _ rfl).1; rwa [Nat.mul_one] at this)
      clear hcs hrow hx
      have Hxk := Lib.hid hxk
      clear hxk
      obtain ⟨u0, d0⟩ := HF.out.cell (j := 0) hlt (by omega)
      have f0 := HF.out.frozen k
      rw [Nat.mul_one, Nat.add_zero] at d0
      go_wp2
      go_roundw
      case rel =>
        refine ⟨k + 1, by omega, by go_num, HB.out.setCell (by simp) _, by simp; omega, ?_⟩
        have h := HF.out.store (cs := [.int .i64 x]) Hxk.out hlt rfl rfl (fun _ _ h => h) (fun _ _ h => by rw [h]; rfl)
        rw [Nat.mul_one] at h
        exact h
      case measure => simp [intOf]; omega
    · obtain rfl : k = xs.length := by omega
      go_wp2
      go_ret
      exact ⟨_, rfl, HF.out.row (Z := Zn.new _ _) rfl (by omega) ⟨Nat.le_refl _, hsz⟩ _, HB.out⟩
end

/- toPhi and toPhiS of the laws. -/
section
open Go.ChangeShapes Go.WideShapes Go.ChangeAt Go.RowKit Go.Joins

def GivesE (R : World → Zn → List Value → Prop) (w : World) (e : Ending) (w' : World) : Prop := ∃ cs, e = .returned (.agg cs.toArray) ∧ R w' (Zn.new w.heap.size w'.heap.size) cs ∧ Below w.heap.size w w'

theorem Zn.new_mono {lo lo' hi hi' : Nat} (h1 : lo' ≤ lo) (h2 : hi ≤ hi') : ∀ b, (Zn.new lo hi).D b → (Zn.new lo' hi').D b := fun _ h => ⟨Nat.le_trans h1 h.1, Nat.lt_of_lt_of_le h.2 h2⟩
theorem Kept.new {lo lo' hi hi' : Nat} {w w' : World} (h1 : lo' ≤ lo) (h2 : hi ≤ hi') (hw : ∀ b, lo ≤ b → b < hi → w'.heap[b]? = w.heap[b]?) : Kept (Zn.new lo hi) (Zn.new lo' hi') w w' :=
  ⟨Zn.new_mono h1 h2, fun h => h, fun b h => hw b h.1 h.2⟩

set_option maxHeartbeats 400000 in
theorem toPhi_any (a : Int) (u : Value) (xs : List Int) (w : World) (Z : Zn) (hv : Row w Z 1 EInt u xs) (hD : ∀ b, Z.D b → b < w.heap.size) (hn : xs.length ≤ 1048576) :
    Calls Tryz.prog 131 #[.agg #[.int .i64 a, u]] w (GivesE (fun w Z cs => EPhi w Z ⟨a, xs⟩ cs) w) := by
  have HV := Lib.hid hv
  obtain ⟨_, A, c, rfl, _⟩ := hv
  go_enter Tryz.func131, Tryz.ntmps131
  go_wp2_with fail
  refine (toInt64S_any _ _ _ Z (HV.out.keep (Kept.below (B := w.heap.size) (by repeat (first | exact Below.refl _ _ | refine Below.alloc ?_ (by first | (simp; done) | (simp; omega)) _ | refine Below.setCell ?_ (by simp) _)) hD) fun _ _ h => h) (fun b hb => by have := hD b hb; simp; omega) hn).mono ?_
  rintro e w1 ⟨r, rfl, hr, hb1⟩
  have HR := Lib.hid hr
  obtain ⟨_, A1, c1, rfl, _⟩ := hr
  obtain ⟨hc, hf⟩ := bcell hb1
  have hz : w.heap.size + 3 ≤ w1.heap.size := by have := hb1.size; simp at this; omega
  have HB := Lib.hid hb1
  clear hb1
  go_wp2_with fail
  refine bodyPost_ret (v := .agg #[.int .i64 a, .slice A1 xs.length c1]) (by simp [results, Tryz.results131, go_sem, hc]) rfl ?_
  refine ⟨[.int .i64 a, .slice A1 xs.length c1], rfl, ⟨_, rfl, HR.out.keep (Kept.new (by simp; omega) (by simp) fun b h1 h2 => ?_) fun _ _ h => h⟩, ?_⟩
  · simp at h1
    repeat (first | rfl | refine (Below.heap_setCell _ _ _ _ (by simp; omega)).trans ?_)
  · refine Below.setCell (Below.setCell (Below.setCell (Below.trans ?_ (HB.out.mono (by simp; omega))) (by simp; omega) _) (by simp) _) (by simp) _
    repeat (first | exact Below.refl _ _ | refine Below.alloc ?_ (by first | (simp; done) | (simp; omega)) _ | refine Below.setCell ?_ (by simp) _)

theorem info_Phi : (Tryz.prog.info? 87).map (fun i => (i.zero, i.size, i.bytes)) = some (some (.agg #[.int .i64 0, .slice none 0 0]), 2, 32) := by kernel_rfl

theorem EPhi.len {w : World} {Z : Zn} (p : PhiD) (cs : List Value) (h : EPhi w Z p cs) : cs.length = 2 := by
  obtain ⟨v, rfl, _⟩ := h
  rfl

def smallPhi (p : PhiD) : Prop := p.args.length ≤ 1048576

set_option maxHeartbeats 400000 in
theorem toPhiS_any (v : Value) (xs : List PhiD) (w : World) (Z : Zn) (hv : Row w Z 2 (EPhi w Z) v xs) (hD : ∀ b, Z.D b → b < w.heap.size) (hn : xs.length ≤ 1048576) (hm : ∀ p ∈ xs, smallPhi p) :
    Calls Tryz.prog 105 #[v] w (GivesV (fun w Z v => Row w Z 2 (EPhi w Z) v xs) w) := by
  obtain ⟨_, A, c, rfl, hx⟩ := hv
  obtain ⟨i0, hi, hz0, hz1, hz2⟩ := info_parts info_Phi
  have hmk := fun W => run_make_rowN (P := Tryz.prog) 63 87 i0 _ Tryz.underlying63 hi hz0 .i64 .i64 xs.length xs.length (Nat.le_refl _) (by rw [hz2]; omega) (by omega) W
  rw [hz1] at hmk
  clear hi hz0 hz1 hz2
  go_enter Tryz.func105, Tryz.ntmps105
  go_wp2
  go_loopw [4] (fun i wr => ∃ k : Nat, k ≤ xs.length ∧ i = .int .i64 k ∧ Hid (Below w.heap.size w wr) ∧ w.heap.size < wr.heap.size ∧ Hid (Fill wr w.heap.size 87 2 xs.length k (EPhi wr (Zn.new (w.heap.size + 1) wr.heap.size)) xs)) (fun i _ => xs.length - (intOf i).toNat)
  case atStart => exact ⟨0, Nat.zero_le _, rfl, (Below.refl _ _).alloc (Nat.le_refl _) _, by simp, Fill.zero (heap_alloc_new w _) (size_madeCells _ _)⟩
  case round =>
    obtain ⟨k, hk, rfl, HB, hsz, HF⟩ := hrel
    by_cases hlt : k < xs.length
    · have hxk : xs[k]? = some xs[k] := List.getElem?_eq_getElem hlt
      have hmk := hm _ (List.getElem_mem hlt)
      generalize xs[k] = x at hxk hmk
      obtain ⟨b, off, rfl, hDb, hrow⟩ := hx (by rintro rfl; simp at hlt)
      obtain ⟨cs, ⟨u, rfl, hu⟩, hcs⟩ := hrow k x hxk
      have hbl := hD b hDb
      have c0 : wr.cell? ⟨b, off + k * 2, none⟩ = some (.int .i64 x.v) := (HB.out.cell (p := ⟨b, _, none⟩) hbl).trans (hcs 0 _ rfl).1
      have c1 : wr.cell? ⟨b, off + k * 2 + 1, none⟩ = some u := (HB.out.cell (p := ⟨b, _, none⟩) hbl).trans (hcs 1 _ rfl).1
      have HU := Lib.hid (hu.keep (Kept.below HB.out hD) fun _ _ h => h)
      have Hxk := Lib.hid hxk
      have Hm := Lib.hid hmk
      clear hcs hrow hx hxk hu hmk
      go_wp2_with fail
      refine (toPhi_any x.v u x.args wr Z HU.out (fun b hb => by have := hD b hb; have := HB.out.size; omega) Hm.out).mono ?_
      rintro e w1 ⟨cs, rfl, ⟨r, rfl, hr⟩, hb1⟩
      have HR := Lib.hid hr
      obtain ⟨_, A1, c1', rfl, _⟩ := hr
      have hsz1 := hb1.size
      have HF1 : Hid (Fill w1 w.heap.size 87 2 xs.length k (EPhi w1 (Zn.new (w.heap.size + 1) w1.heap.size)) xs) := HF.out.keep (hb1.block _ hsz) fun _ _ h => h.keep (Kept.new (Nat.le_refl _) hsz1 fun b _ h2 => hb1.block b h2)
      obtain ⟨u0, d0⟩ := HF1.out.cell (j := 0) hlt (by omega)
      obtain ⟨u1, d1⟩ := HF1.out.cell (j := 1) hlt (by omega)
      have f0 := HF1.out.frozen (k * 2)
      have f1 := HF1.out.frozen (k * 2 + 1)
      rw [Nat.add_zero] at d0
      have HB1 : Hid (Below w.heap.size w w1) := HB.out.trans (hb1.mono (by omega))
      clear hb1 HB HF
      go_wp2_with fail
      go_roundw
      case rel =>
        refine ⟨k + 1, by omega, by go_num, (HB1.out.setCell (by simp) _).setCell (by simp) _, by simp; omega, ?_⟩
        have hg := storeAll_grown [.int .i64 x.v, .slice A1 x.args.length c1'] w1 w.heap.size (k * 2)
        have hK : ∀ lo, w.heap.size + 1 ≤ lo → Kept (Zn.new lo w1.heap.size) (Zn.new (w.heap.size + 1) w1.heap.size) w1 _ := fun lo hlo => Kept.new hlo (Nat.le_refl _) fun b h1 h2 => hg.block b h2 (by simp; omega)
        have h := HF1.out.store (cs := [.int .i64 x.v, .slice A1 x.args.length c1']) (E' := EPhi (storeAll w1 w.heap.size (k * 2) [.int .i64 x.v, .slice A1 x.args.length c1']) (Zn.new (w.heap.size + 1) w1.heap.size)) Hxk.out hlt ⟨_, rfl, HR.out.keep (hK _ (by omega)) fun _ _ h => h⟩ rfl (fun _ _ h => h.keep (hK _ (Nat.le_refl _))) (fun _ _ h => h.len)
        simpa [storeAll, Hid] using h
      case measure => simp [intOf]; omega
    · obtain rfl : k = xs.length := by omega
      go_wp2
      go_ret
      exact ⟨_, rfl, (HF.out.keep rfl fun _ _ h => h.keep (Kept.new (by omega) (Nat.le_refl _) fun _ _ _ => rfl)).row (Z := Zn.new _ _) rfl (by omega) ⟨Nat.le_refl _, hsz⟩ _, HB.out⟩
end

end Go.Proofs.YtnjmlhokkhkaaaaGreat
