/- IntsM, OutV, Open, Mark, FunLaw0, joined. -/
import Derived.Test.YtnjmlhokkhkaaaaGreatQ1
import Derived.Test.YtnjmlhokkhkaaaaGreatQ7
import Derived.Test.YtnjmlhokkhkaaaaGreatQ11
import Derived.Deep.Slices
namespace Go.Proofs.YtnjmlhokkhkaaaaGreat

/- Slices of int64: what markInt64S and heldInt64S of the laws do. -/
section
open Go.ChangeShapes Go.WideShapes Go.ChangeAt Go.RowKit Go.Joins

set_option maxHeartbeats 400000 in
theorem markInt64S_any (B : Nat) (v : Value) (xs : List Int) (k : Int) (w : World) (hv : OI w B v xs) (hk0 : 0 ≤ k) (hk1 : k + xs.length ≤ 9223372036854775807) :
    Calls Tryz.prog 20 #[v, .int .i64 k] w fun e w' => e = .returned (.int .i64 (k + xs.length)) ∧ OI w' B v (markL k xs.length) ∧ w.grownBy w' v.ownBlock := by
  have hlen := hv.ri.1
  by_cases h0 : xs.length = 0
  · obtain rfl := List.length_eq_zero_iff.1 h0
    obtain ⟨_, A, c, rfl, _⟩ := hv.ri
    simp only [List.length_nil] at *
    go_enter Tryz.func20, Tryz.ntmps20
    go_wp2
    go_loopw [1, 5] (fun q i wr => i = .int .i64 0 ∧ q = .int .i64 k ∧ wr = w) (fun _ _ _ => 0)
    case atStart => exact ⟨rfl, rfl, rfl⟩
    case round =>
      obtain ⟨rfl, rfl, rfl⟩ := hrel
      go_wp2
      go_ret
      exact ⟨by simp, by rw [markL_zero]; exact hv, World.grownBy.refl _ _⟩
  · obtain ⟨g, cap, rfl, hBg, hg⟩ := World.ownsRow.form hv (by omega)
    have HV := Lib.hid hv
    clear hv
    have hpos : 0 < xs.length := by omega
    clear h0
    go_enter Tryz.func20, Tryz.ntmps20
    go_wp2
    go_loopw [1, 5] (fun q i wr => ∃ j : Nat, j ≤ xs.length ∧ i = .int .i64 j ∧ q = .int .i64 (k + j) ∧ Hid (wr.ownsRow B 2 1 (.slice (some ⟨g, 0, none⟩) xs.length cap) xs.length ((markL k j ++ xs.drop j).map iv)) ∧ Hid (w.grownBy wr (some g))) (fun _ i _ => xs.length - (intOf i).toNat)
    case atStart => exact ⟨0, Nat.zero_le _, rfl, by simp, (by rw [markL_zero]; exact HV.out), World.grownBy.refl _ _⟩
    case round =>
      obtain ⟨j, hj, rfl, rfl, HO, HG⟩ := hrel
      by_cases hlt : j < xs.length
      · have hcl : (markL k j ++ xs.drop j).length = xs.length := by simp [markL_length]; omega
        obtain ⟨x, hx⟩ : ∃ x, (markL k j ++ xs.drop j)[j]? = some x := ⟨_, List.getElem?_eq_getElem (by rw [hcl]; exact hlt)⟩
        have hcell : wr.cell? ⟨g, j, none⟩ = some (iv x) := by
          rw [World.ownsRow.cellAt HO.out j (by omega), List.getElem?_map, hx]; rfl
        unfold iv at hcell
        have hfr : wr.frozen? ⟨g, j, none⟩ = false := World.ownsRow.frozenAt HO.out j
        clear hx hcl
        go_wp2
        go_roundw
        case rel =>
          refine ⟨j + 1, by omega, by go_num, by go_num, ?_, ?_⟩
          · have h := (World.ownsRow.stored HO.out j (iv (k + j))).1
            rw [set_step k xs hlt] at h
            exact h
          · exact World.grownBy.trans HG.out (World.ownsRow.stored HO.out j (iv (k + j))).2
        case measure => simp [intOf]; omega
      · obtain rfl : j = xs.length := by omega
        go_wp2
        go_ret
        refine ⟨rfl, ?_, HG.out⟩
        have h := HO.out
        rw [List.drop_length, List.append_nil] at h
        unfold OI
        rw [markL_length]
        exact h

set_option maxHeartbeats 400000 in
theorem heldInt64S_any (v : Value) (k : Int) (n : Nat) (w : World) (hv : RI w v (markL k n)) (hk0 : 0 ≤ k) (hk1 : k + n ≤ 9223372036854775807) :
    Calls Tryz.prog 50 #[v, .int .i64 k] w fun e w' => e = .returned (.int .i64 (k + n)) ∧ w = w' := by
  obtain ⟨hl, A, c, rfl, hx⟩ := hv
  rw [markL_length] at hl ⊢
  go_enter Tryz.func50, Tryz.ntmps50
  go_wp2
  go_loop [1, 5] (fun q i => ∃ j : Nat, j ≤ n ∧ i = .int .i64 j ∧ q = .int .i64 (k + j)) (fun _ i => n - (intOf i).toNat)
  case atStart => exact ⟨0, Nat.zero_le _, rfl, by simp⟩
  case round =>
    obtain ⟨j, hj, rfl, rfl⟩ := hrel
    by_cases hlt : j < n
    · obtain ⟨b, off, rfl, hx'⟩ := hx (by intro h; have := congrArg List.length h; rw [markL_length] at this; simp at this; omega)
      have hc := hx' j _ (markL_get k hlt)
      clear hx hx'
      go_wp2
      go_round
      case rel => exact ⟨j + 1, by omega, by go_num, by go_num⟩
      case measure => simp [intOf]; omega
    · obtain rfl : j = n := by omega
      go_wp2
      go_ret
      exact ⟨rfl, rfl⟩
end

/- An Out as a value: what eqOut, markOut and heldOut of the laws do. -/
section
open Go.ChangeShapes Go.WideShapes Go.ChangeAt Go.RowKit Go.Joins

def outV (o : OutD) (v : Value) : Value := .agg #[.int .i64 o.st, .int .i64 o.val, v, .int .i64 o.vis]

set_option maxHeartbeats 1000000 in
theorem eqOut_same (st val vis : Int) (B1 B2 : Nat) (u v : Value) (em : List Int) (w : World) (hu : OI w B1 u em) (hv : OI w B2 v em) :
    Calls Tryz.prog 16 #[.agg #[.int .i64 st, .int .i64 val, u, .int .i64 vis], .agg #[.int .i64 st, .int .i64 val, v, .int .i64 vis]] w fun e w' => e = .returned (.bool true) ∧ Below w.heap.size w w' := by
  have HU := Lib.hid hu
  have HV := Lib.hid hv
  obtain ⟨_, A1, c1, rfl, _⟩ := hu.ri
  obtain ⟨_, A2, c2, rfl, _⟩ := hv.ri
  clear hu hv
  go_enter Tryz.func16, Tryz.ntmps16
  go_wp2_with fail
  have hb : Below w.heap.size w ((w.alloc (.cells #[.int .i64 st, .int .i64 val, .slice A1 em.length c1, .int .i64 vis] 31)).alloc (.cells #[.int .i64 st, .int .i64 val, .slice A2 em.length c2, .int .i64 vis] 31)) := by
    repeat (first | exact Below.refl _ _ | refine Below.alloc ?_ (by first | (simp; done) | (simp; omega)) _)
  have HB := Lib.hid hb
  refine (eqInt64S_same _ _ em _ (HU.out.below hb fun k hk => (HU.out.lt k hk).2).ri (HV.out.below hb fun k hk => (HV.out.lt k hk).2).ri).mono ?_
  rintro e w1 ⟨rfl, n, rfl⟩
  clear hb
  go_wp2_with fail
  go_ret
  exact ⟨rfl, below_drewN HB.out n⟩

set_option maxHeartbeats 1000000 in
theorem markOut_any (st val vis : Int) (B : Nat) (v : Value) (xs : List Int) (k : Int) (w : World) (hv : OI w B v xs) (hk0 : 0 ≤ k) (hk1 : k + xs.length ≤ 9223372036854775807) :
    Calls Tryz.prog 21 #[.agg #[.int .i64 st, .int .i64 val, v, .int .i64 vis], .int .i64 k] w fun e w' => e = .returned (.int .i64 (k + xs.length)) ∧ OI w' B v (markL k xs.length) ∧ w.grownBy w' v.ownBlock := by
  have HV := Lib.hid hv
  obtain ⟨_, A1, c1, rfl, _⟩ := hv.ri
  clear hv
  go_enter Tryz.func21, Tryz.ntmps21
  go_wp2_with fail
  have hb : Below w.heap.size w (w.alloc (.cells #[.int .i64 st, .int .i64 val, .slice A1 xs.length c1, .int .i64 vis] 31)) := (Below.refl _ _).alloc (Nat.le_refl _) _
  have HG : Hid (w.grownBy (w.alloc (.cells #[.int .i64 st, .int .i64 val, .slice A1 xs.length c1, .int .i64 vis] 31)) (Value.slice A1 xs.length c1).ownBlock) := World.grownBy_alloc w _ _
  refine (markInt64S_any B _ xs k _ (HV.out.below hb fun k hk => (HV.out.lt k hk).2) hk0 hk1).mono ?_
  rintro e w1 ⟨rfl, ho, hg⟩
  have HO := Lib.hid ho
  have HG1 := Lib.hid hg
  clear hb ho hg
  go_wp2_with fail
  go_ret
  exact ⟨rfl, HO.out, HG.out.trans HG1.out⟩

set_option maxHeartbeats 1000000 in
theorem heldOut_any (st val vis : Int) (B : Nat) (v : Value) (n : Nat) (k : Int) (w : World) (hv : OI w B v (markL k n)) (hk0 : 0 ≤ k) (hk1 : k + n ≤ 9223372036854775807) :
    Calls Tryz.prog 22 #[.agg #[.int .i64 st, .int .i64 val, v, .int .i64 vis], .int .i64 k] w fun e w' => e = .returned (.int .i64 (k + n)) ∧ Below w.heap.size w w' := by
  have HV := Lib.hid hv
  obtain ⟨_, A1, c1, rfl, _⟩ := hv.ri
  clear hv
  have hkn : 0 ≤ k + (n : Int) := by omega
  go_enter Tryz.func22, Tryz.ntmps22
  go_wp2_with fail
  have hb : Below w.heap.size w (w.alloc (.cells #[.int .i64 st, .int .i64 val, .slice A1 (markL k n).length c1, .int .i64 vis] 31)) := (Below.refl _ _).alloc (Nat.le_refl _) _
  have HB := Lib.hid hb
  refine (heldInt64S_any _ k n _ (HV.out.below hb fun k hk => (HV.out.lt k hk).2).ri hk0 hk1).mono ?_
  rintro e w1 ⟨rfl, rfl⟩
  clear hb
  go_wp2_with fail
  go_ret
  exact ⟨rfl, HB.out⟩
end

/- A function that came in as an argument reads as one. -/
section
open Go.ChangeShapes Go.WideShapes Go.ChangeAt Go.RowKit Go.Joins Go.Deep

theorem cell_here {w : World} {a : Addr} {v : Value} (h : w.cell? a = some v) : a.block < w.heap.size ∧ a.spot = none := by
  unfold World.cell? at h
  rcases Nat.lt_or_ge a.block w.heap.size with hlt | hge
  · refine ⟨hlt, ?_⟩
    split at h
    · split at h
      · cases h
      · rename_i hs; simpa using hs
    · cases h
  · rw [Array.getElem?_eq_none hge] at h; cases h

theorem list2 {α : Type} : ∀ {l : List α}, l.length = 2 → ∃ a b, l = [a, b]
  | [a, b], _ => ⟨a, b, rfl⟩
theorem list4 {α : Type} : ∀ {l : List α}, l.length = 4 → ∃ a b c d, l = [a, b, c, d]
  | [a, b, c, d], _ => ⟨a, b, c, d, rfl⟩
theorem list8 {α : Type} : ∀ {l : List α}, l.length = 8 → ∃ a b c d e f g h, l = [a, b, c, d, e, f, g, h]
  | [a, b, c, d, e, f, g, h], _ => ⟨a, b, c, d, e, f, g, h, rfl⟩

section
variable {H : Type} {enc : TypeId × Value → H} {W : World} {spare : Nat → Bool}

theorem open_row {α : Type} [Inhabited α] {t e : TypeId} {S : Nat} {E : α → List Value → Prop} {fuel : Nat} {cs : List Value} {x : DataW H × List MemPlace} (ht : Tryz.prog.underlying t = some (.slice e)) (hS : Tryz.prog.cellsOf e = S) (hS0 : 0 < S)
    (hE : ∀ (n : Nat) cs (y : DataW H × List MemPlace), DataW.trod enc Tryz.prog W 0 spare true n e cs = some y → ∃ a, E a cs) (h : DataW.trod enc Tryz.prog W 0 spare true fuel t cs = some x) :
    ∃ (v : Value) (xs : List α), cs = [v] ∧ Row W (Zn.old W.heap.size) S E v xs := by
  rcases open_slice ht h with ⟨rfl, _⟩ | ⟨a, len, cap, m, n, D, Pl, rfl, _, hl, hm, hmm, _, hx⟩
  · exact ⟨_, [], rfl, by simp, none, 0, rfl, fun h => absurd rfl h⟩
  · rw [hS] at hx
    have hlm : len ≤ m := by rw [hmm]; split <;> omega
    obtain ⟨V, hV⟩ := choose_lt (n := m) (p := fun i (x : α) => ∃ cs', W.cells? 0 (a.add (i * S)) S = some cs' ∧ E x cs') (fun i hi => by
      obtain ⟨cs', h1, h2⟩ := hx i hi
      obtain ⟨y, hy⟩ := hE _ _ _ h2
      exact ⟨y, cs', h1, hy⟩)
    have hlen : ((List.range len).map V).length = len := by simp
    refine ⟨_, (List.range len).map V, rfl, by rw [hlen]; rw [maxLen_is] at hm; omega, _, cap, by rw [hlen], fun hne => ?_⟩
    have h0 : 0 < len := by
      rcases Nat.eq_zero_or_pos len with h | h
      · subst h; exact absurd rfl hne
      · exact h
    obtain ⟨cs0, hc0, _⟩ := hV 0 (by omega)
    obtain ⟨_, hl0, hat0⟩ := World.cells?_some hc0
    have hc00 := hat0 0 hS0
    rw [add_add, Nat.zero_mul, Nat.add_zero] at hc00
    have ha0 : a.add 0 = a := by simp [Addr.add]
    rw [ha0, List.getElem?_eq_getElem (by omega)] at hc00
    obtain ⟨hb, hs⟩ := cell_here hc00
    obtain ⟨b, off, spot⟩ := a
    simp only at hs hb
    subst hs
    refine ⟨b, off, rfl, hb, fun k y hy => ?_⟩
    have hk : k < len := by
      have := (List.getElem?_eq_some_iff.1 hy).1
      omega
    have hyV : V k = y := by simpa [List.getElem?_map, List.getElem?_range hk] using hy
    subst hyV
    obtain ⟨cs', h1, h2⟩ := hV k (by omega)
    obtain ⟨_, hl1, hat⟩ := World.cells?_some h1
    refine ⟨cs', h2, fun j u hu => ⟨?_, fun ho => by cases ho⟩⟩
    have hj : j < S := by rw [← hl1]; exact (List.getElem?_eq_some_iff.1 hu).1
    have := hat j hj
    rw [add_add, hu] at this
    have hadd : (⟨b, off, none⟩ : Addr).add (k * S + j) = ⟨b, off + k * S + j, none⟩ := by
      unfold Addr.add; split
      · simp_all
      · simp [Nat.add_assoc]
    rw [hadd] at this
    exact this

theorem some_of {α : Type} {xs : List α} {i : Nat} {o : Option α} (h : o = xs[i]?) (hi : i < xs.length) : ∃ y, o = some y := ⟨_, h.trans (List.getElem?_eq_getElem hi)⟩

theorem cells_int64 : Tryz.prog.cellsOf 2 = 1 := by kernel_rfl

theorem open_int64 {n : Nat} {cs : List Value} {y : DataW H × List MemPlace} (h : DataW.trod enc Tryz.prog W 0 spare true n 2 cs = some y) : ∃ a, EInt a cs := by
  obtain ⟨a, rfl, -⟩ := DataW.trod_int Tryz.underlying2 h
  exact ⟨a, rfl⟩

theorem cells_Move : Tryz.prog.cellsOf 184 = 2 := by kernel_rfl
theorem cells_Ins : Tryz.prog.cellsOf 186 = 4 := by kernel_rfl
theorem cells_End : Tryz.prog.cellsOf 112 = 4 := by kernel_rfl
theorem cells_Phi : Tryz.prog.cellsOf 181 = 2 := by kernel_rfl
theorem cells_Block : Tryz.prog.cellsOf 114 = 8 := by kernel_rfl
theorem cells_Fun : Tryz.prog.cellsOf 38 = 3 := by kernel_rfl
theorem cells_Ints : Tryz.prog.cellsOf 27 = 1 := by kernel_rfl
theorem cells_Phis : Tryz.prog.cellsOf 109 = 1 := by kernel_rfl
theorem cells_Moves : Tryz.prog.cellsOf 110 = 1 := by kernel_rfl
theorem cells_Inss : Tryz.prog.cellsOf 111 = 1 := by kernel_rfl
theorem cells_Blocks : Tryz.prog.cellsOf 36 = 1 := by kernel_rfl

theorem open_Move {n : Nat} {cs : List Value} {y : DataW H × List MemPlace} (h : DataW.trod enc Tryz.prog W 0 spare true n 184 cs = some y) : ∃ m : MoveD, EMove m cs := by
  obtain ⟨ys, n', _, _, hlen, hyl, hf⟩ := DataW.trod_struct Tryz.underlying184 h
  obtain ⟨c0, c1, rfl⟩ := list2 (hlen.trans cells_Move)
  clear hlen h
  have h0 : DataW.trod enc Tryz.prog W 0 spare true n' 2 ((([c0, c1] : List Value).drop 0).take (Tryz.prog.cellsOf 2)) = ys[0]? := hf 0 _ rfl
  rw [cells_int64] at h0
  have h1 : DataW.trod enc Tryz.prog W 0 spare true n' 2 ((([c0, c1] : List Value).drop 1).take (Tryz.prog.cellsOf 2)) = ys[1]? := hf 1 _ rfl
  rw [cells_int64] at h1
  obtain ⟨_, h0⟩ := some_of h0 (by rw [hyl]; decide)
  obtain ⟨_, h1⟩ := some_of h1 (by rw [hyl]; decide)
  obtain ⟨a0, e0⟩ := open_int64 h0
  obtain ⟨a1, e1⟩ := open_int64 h1
  simp [EInt] at e0 e1
  subst e0 e1
  exact ⟨⟨a0, a1⟩, rfl⟩

theorem open_four {t : TypeId} {n : Nat} {cs : List Value} {y : DataW H × List MemPlace} {f0 f1 f2 f3 : Field} (hu : Tryz.prog.underlying t = some (.struct #[f0, f1, f2, f3])) (hc : Tryz.prog.cellsOf t = 4)
    (h0 : f0.type = 2 ∧ f0.offset = 0) (h1 : f1.type = 2 ∧ f1.offset = 1) (h2 : f2.type = 2 ∧ f2.offset = 2) (h3 : f3.type = 2 ∧ f3.offset = 3)
    (h : DataW.trod enc Tryz.prog W 0 spare true n t cs = some y) : ∃ a b c d : Int, cs = [.int .i64 a, .int .i64 b, .int .i64 c, .int .i64 d] := by
  obtain ⟨ys, n', _, _, hlen, hyl, hf⟩ := DataW.trod_struct hu h
  obtain ⟨c0, c1, c2, c3, rfl⟩ := list4 (hlen.trans hc)
  clear hlen h
  have g0 : DataW.trod enc Tryz.prog W 0 spare true n' f0.type ((([c0, c1, c2, c3] : List Value).drop f0.offset).take (Tryz.prog.cellsOf f0.type)) = ys[0]? := hf 0 _ rfl
  rw [h0.1, h0.2, cells_int64] at g0
  have g1 : DataW.trod enc Tryz.prog W 0 spare true n' f1.type ((([c0, c1, c2, c3] : List Value).drop f1.offset).take (Tryz.prog.cellsOf f1.type)) = ys[1]? := hf 1 _ rfl
  rw [h1.1, h1.2, cells_int64] at g1
  have g2 : DataW.trod enc Tryz.prog W 0 spare true n' f2.type ((([c0, c1, c2, c3] : List Value).drop f2.offset).take (Tryz.prog.cellsOf f2.type)) = ys[2]? := hf 2 _ rfl
  rw [h2.1, h2.2, cells_int64] at g2
  have g3 : DataW.trod enc Tryz.prog W 0 spare true n' f3.type ((([c0, c1, c2, c3] : List Value).drop f3.offset).take (Tryz.prog.cellsOf f3.type)) = ys[3]? := hf 3 _ rfl
  rw [h3.1, h3.2, cells_int64] at g3
  obtain ⟨_, g0⟩ := some_of g0 (by rw [hyl]; simp)
  obtain ⟨_, g1⟩ := some_of g1 (by rw [hyl]; simp)
  obtain ⟨_, g2⟩ := some_of g2 (by rw [hyl]; simp)
  obtain ⟨_, g3⟩ := some_of g3 (by rw [hyl]; simp)
  obtain ⟨a0, e0⟩ := open_int64 g0
  obtain ⟨a1, e1⟩ := open_int64 g1
  obtain ⟨a2, e2⟩ := open_int64 g2
  obtain ⟨a3, e3⟩ := open_int64 g3
  simp [EInt] at e0 e1 e2 e3
  subst e0 e1 e2 e3
  exact ⟨a0, a1, a2, a3, rfl⟩

theorem open_Ins {n : Nat} {cs : List Value} {y : DataW H × List MemPlace} (h : DataW.trod enc Tryz.prog W 0 spare true n 186 cs = some y) : ∃ m : InsD, EIns m cs := by
  obtain ⟨a, b, c, d, rfl⟩ := open_four Tryz.underlying186 cells_Ins ⟨rfl, rfl⟩ ⟨rfl, rfl⟩ ⟨rfl, rfl⟩ ⟨rfl, rfl⟩ h
  exact ⟨⟨a, b, c, d⟩, rfl⟩

instance : Inhabited MoveD := ⟨⟨0, 0⟩⟩
instance : Inhabited InsD := ⟨⟨0, 0, 0, 0⟩⟩
instance : Inhabited EndD := ⟨⟨0, 0, 0, 0⟩⟩
instance : Inhabited PhiD := ⟨⟨0, []⟩⟩
instance : Inhabited BlockD := ⟨⟨[], [], [], [], default⟩⟩

theorem open_Phi {n : Nat} {cs : List Value} {y : DataW H × List MemPlace} (h : DataW.trod enc Tryz.prog W 0 spare true n 181 cs = some y) : ∃ p : PhiD, EPhi W (Zn.old W.heap.size) p cs := by
  obtain ⟨ys, n', _, _, hlen, hyl, hf⟩ := DataW.trod_struct Tryz.underlying181 h
  obtain ⟨c0, c1, rfl⟩ := list2 (hlen.trans cells_Phi)
  clear hlen h
  have h0 : DataW.trod enc Tryz.prog W 0 spare true n' 2 ((([c0, c1] : List Value).drop 0).take (Tryz.prog.cellsOf 2)) = ys[0]? := hf 0 _ rfl
  rw [cells_int64] at h0
  have h1 : DataW.trod enc Tryz.prog W 0 spare true n' 27 ((([c0, c1] : List Value).drop 1).take (Tryz.prog.cellsOf 27)) = ys[1]? := hf 1 _ rfl
  rw [cells_Ints] at h1
  obtain ⟨_, h0⟩ := some_of h0 (by rw [hyl]; decide)
  obtain ⟨_, h1⟩ := some_of h1 (by rw [hyl]; decide)
  obtain ⟨a0, e0⟩ := open_int64 h0
  obtain ⟨v, xs, e1, hr⟩ := open_row Tryz.underlying27 cells_int64 (by decide) (fun _ _ _ h => open_int64 h) h1
  simp [EInt] at e0 e1
  subst e0 e1
  exact ⟨⟨a0, xs⟩, _, rfl, hr⟩

theorem open_Block {n : Nat} {cs : List Value} {y : DataW H × List MemPlace} (h : DataW.trod enc Tryz.prog W 0 spare true n 114 cs = some y) : ∃ x : BlockD, EBlock W (Zn.old W.heap.size) x cs := by
  obtain ⟨ys, n', _, _, hlen, hyl, hf⟩ := DataW.trod_struct Tryz.underlying114 h
  obtain ⟨c0, c1, c2, c3, c4, c5, c6, c7, rfl⟩ := list8 (hlen.trans cells_Block)
  clear hlen h
  have h0 : DataW.trod enc Tryz.prog W 0 spare true n' 109 ((([c0, c1, c2, c3, c4, c5, c6, c7] : List Value).drop 0).take (Tryz.prog.cellsOf 109)) = ys[0]? := hf 0 _ rfl
  rw [cells_Phis] at h0
  have h1 : DataW.trod enc Tryz.prog W 0 spare true n' 110 ((([c0, c1, c2, c3, c4, c5, c6, c7] : List Value).drop 1).take (Tryz.prog.cellsOf 110)) = ys[1]? := hf 1 _ rfl
  rw [cells_Moves] at h1
  have h2 : DataW.trod enc Tryz.prog W 0 spare true n' 111 ((([c0, c1, c2, c3, c4, c5, c6, c7] : List Value).drop 2).take (Tryz.prog.cellsOf 111)) = ys[2]? := hf 2 _ rfl
  rw [cells_Inss] at h2
  have h3 : DataW.trod enc Tryz.prog W 0 spare true n' 110 ((([c0, c1, c2, c3, c4, c5, c6, c7] : List Value).drop 3).take (Tryz.prog.cellsOf 110)) = ys[3]? := hf 3 _ rfl
  rw [cells_Moves] at h3
  have h4 : DataW.trod enc Tryz.prog W 0 spare true n' 112 ((([c0, c1, c2, c3, c4, c5, c6, c7] : List Value).drop 4).take (Tryz.prog.cellsOf 112)) = ys[4]? := hf 4 _ rfl
  rw [cells_End] at h4
  obtain ⟨_, h0⟩ := some_of h0 (by rw [hyl]; decide)
  obtain ⟨_, h1⟩ := some_of h1 (by rw [hyl]; decide)
  obtain ⟨_, h2⟩ := some_of h2 (by rw [hyl]; decide)
  obtain ⟨_, h3⟩ := some_of h3 (by rw [hyl]; decide)
  obtain ⟨_, h4⟩ := some_of h4 (by rw [hyl]; decide)
  obtain ⟨v0, x0, e0, r0⟩ := open_row Tryz.underlying109 cells_Phi (by decide) (fun _ _ _ h => open_Phi h) h0
  obtain ⟨v1, x1, e1, r1⟩ := open_row Tryz.underlying110 cells_Move (by decide) (fun _ _ _ h => open_Move h) h1
  obtain ⟨v2, x2, e2, r2⟩ := open_row Tryz.underlying111 cells_Ins (by decide) (fun _ _ _ h => open_Ins h) h2
  obtain ⟨v3, x3, e3, r3⟩ := open_row Tryz.underlying110 cells_Move (by decide) (fun _ _ _ h => open_Move h) h3
  obtain ⟨a, b, c, d, e4⟩ := open_four Tryz.underlying112 cells_End ⟨rfl, rfl⟩ ⟨rfl, rfl⟩ ⟨rfl, rfl⟩ ⟨rfl, rfl⟩ h4
  simp at e0 e1 e2 e3 e4
  obtain ⟨rfl, rfl, rfl, rfl⟩ := e4
  subst e0 e1 e2 e3
  exact ⟨⟨x0, x1, x2, x3, ⟨a, b, c, d⟩⟩, _, _, _, _, rfl, r0, r1, r2, r3⟩

set_option maxRecDepth 100000 in
/-- An argument that is a function. -/
theorem open_Fun {base : Nat} {v : Value} {d : DataW H} {p : List MemPlace} (hv : Value.okWide Tryz.prog W .any base 38 v) (h : DataW.Trod enc Tryz.prog W 0 spare true 38 v d p) :
    ∃ f : FunD, EFun W (Zn.old W.heap.size) f v := by
  obtain ⟨c0, c1, c2, y0, y1, y2, m, rfl, rfl, rfl, h0, h1, h2⟩ := open_agg3 Tryz.underlying38 (by kernel_rfl) cells_Fun hv h
  obtain ⟨a0, e0⟩ := open_int64 h0
  obtain ⟨a1, e1⟩ := open_int64 h1
  obtain ⟨u, xs, e2, hr⟩ := open_row Tryz.underlying36 cells_Block (by decide) (fun _ _ _ h => open_Block h) h2
  simp [EInt] at e0 e1 e2
  subst e0 e1 e2
  exact ⟨⟨a0, a1, xs⟩, _, rfl, hr⟩
end
end

/- markFun of the laws: it writes numbers where numbers were, and nothing else. -/
section
open Go.ChangeShapes Go.WideShapes Go.ChangeAt Go.RowKit Go.Joins

/-- The call answers this number, having marked. -/
def Marks (D : Nat → Prop) (n : Int) (w : World) (e : Ending) (w' : World) : Prop := e = .returned (.int .i64 n) ∧ Marked D w w'

theorem shift_markInt64S (k0 : Int) (k : Nat) : k0 + (k * 1 : Nat) + 1 = k0 + ((k + 1) * 1 : Nat) := by omega
set_option maxHeartbeats 1000000 in
theorem markInt64S_sh (D : Nat → Prop) (v : Value) (n : Nat) (k0 : Int) (w : World) (hv : SFlat D w 1 v n) (h0 : 0 ≤ k0) (h1 : k0 + (n * 1 : Nat) ≤ 9223372036854775807) :
    Calls Tryz.prog 20 #[v, .int .i64 k0] w (Marks D (k0 + (n * 1 : Nat)) w) := by
  have HV := Lib.hid hv
  obtain ⟨hle, A, c, rfl, _⟩ := hv
  go_enter Tryz.func20, Tryz.ntmps20
  go_wp2
  go_loopw [1, 5] (fun q i wr => ∃ k : Nat, k ≤ n ∧ i = .int .i64 k ∧ q = .int .i64 (k0 + (k * 1 : Nat)) ∧ Hid (Marked D w wr)) (fun _ i _ => n - (intOf i).toNat)
  case atStart => exact ⟨0, Nat.zero_le _, rfl, by simp, Marked.refl _ _⟩
  case round =>
    obtain ⟨k, hk, rfl, rfl, HM⟩ := hrel
    by_cases hlt : k < n
    · obtain ⟨_, A', c', he, hx⟩ := HV.out.marked HM.out
      injection he with e1 _ e2
      subst e1 e2
      obtain ⟨b, off, rfl, hD, hcell⟩ := hx (by omega)
      obtain ⟨⟨x0, c0⟩, f0⟩ := hcell k 0 hlt (by omega)
      simp only [Nat.mul_one, Nat.add_zero] at c0 f0
      have hbd : (k + 1) * 1 ≤ n * 1 := Nat.mul_le_mul_right _ (by omega)
      clear hcell hx
      obtain ⟨q, hq⟩ : ∃ q : Int, q = k0 + (k * 1 : Nat) := ⟨_, rfl⟩
      have hq0 : 0 ≤ q := by omega
      have hq1 : q + 1 ≤ 9223372036854775807 := by omega
      rw [← hq]
      have HQ := Lib.hid hq
      have HK := Lib.hid (shift_markInt64S k0 k)
      clear hq hbd
      go_wp2
      go_roundw
      case rel =>
        refine ⟨k + 1, by omega, by go_num, ?_, ?_⟩
        · rw [← HK.out, ← HQ.out]
        · exact HM.out.trans (Marked.set hD c0 ⟨_, rfl⟩ _)
      case measure => simp [intOf]; omega
    · obtain rfl : k = n := by omega
      go_wp2
      go_ret
      exact ⟨rfl, HM.out⟩

theorem shift_markMoveS (k0 : Int) (k : Nat) : k0 + (k * 2 : Nat) + 2 = k0 + ((k + 1) * 2 : Nat) := by omega
set_option maxHeartbeats 1000000 in
theorem markMoveS_sh (D : Nat → Prop) (v : Value) (n : Nat) (k0 : Int) (w : World) (hv : SFlat D w 2 v n) (h0 : 0 ≤ k0) (h1 : k0 + (n * 2 : Nat) ≤ 9223372036854775807) :
    Calls Tryz.prog 78 #[v, .int .i64 k0] w (Marks D (k0 + (n * 2 : Nat)) w) := by
  have HV := Lib.hid hv
  obtain ⟨hle, A, c, rfl, _⟩ := hv
  go_enter Tryz.func78, Tryz.ntmps78
  go_wp2
  go_loopw [1, 5] (fun q i wr => ∃ k : Nat, k ≤ n ∧ i = .int .i64 k ∧ q = .int .i64 (k0 + (k * 2 : Nat)) ∧ Hid (Marked D w wr)) (fun _ i _ => n - (intOf i).toNat)
  case atStart => exact ⟨0, Nat.zero_le _, rfl, by simp, Marked.refl _ _⟩
  case round =>
    obtain ⟨k, hk, rfl, rfl, HM⟩ := hrel
    by_cases hlt : k < n
    · obtain ⟨_, A', c', he, hx⟩ := HV.out.marked HM.out
      injection he with e1 _ e2
      subst e1 e2
      obtain ⟨b, off, rfl, hD, hcell⟩ := hx (by omega)
      obtain ⟨⟨x0, c0⟩, f0⟩ := hcell k 0 hlt (by omega)
      obtain ⟨⟨x1, c1⟩, f1⟩ := hcell k 1 hlt (by omega)
      rw [Nat.add_zero] at c0 f0
      have hbd : (k + 1) * 2 ≤ n * 2 := Nat.mul_le_mul_right _ (by omega)
      clear hcell hx
      obtain ⟨q, hq⟩ : ∃ q : Int, q = k0 + (k * 2 : Nat) := ⟨_, rfl⟩
      have hq0 : 0 ≤ q := by omega
      have hq1 : q + 2 ≤ 9223372036854775807 := by omega
      rw [← hq]
      have HQ := Lib.hid hq
      have HK := Lib.hid (shift_markMoveS k0 k)
      clear hq hbd
      go_wp2
      go_roundw
      case rel =>
        refine ⟨k + 1, by omega, by go_num, ?_, ?_⟩
        · rw [← HK.out, ← HQ.out]; go_num
        · have m0 : Marked D w (wr.setCell ⟨b, off + k * 2, none⟩ (.int .i64 (q + 0))) := HM.out.trans (Marked.set hD (u := .int .i64 x0) (by exact c0) ⟨_, rfl⟩ _)
          have m1 : Marked D w ((wr.setCell ⟨b, off + k * 2, none⟩ (.int .i64 (q + 0))).setCell ⟨b, off + k * 2 + 1, none⟩ (.int .i64 (q + 1))) := m0.trans (Marked.set hD (u := .int .i64 x1) (by go_simp) ⟨_, rfl⟩ _)
          simpa [Hid, Int.add_assoc] using m1
      case measure => simp [intOf]; omega
    · obtain rfl : k = n := by omega
      go_wp2
      go_ret
      exact ⟨rfl, HM.out⟩

theorem shift_markInsS (k0 : Int) (k : Nat) : k0 + (k * 4 : Nat) + 4 = k0 + ((k + 1) * 4 : Nat) := by omega
set_option maxHeartbeats 1000000 in
theorem markInsS_sh (D : Nat → Prop) (v : Value) (n : Nat) (k0 : Int) (w : World) (hv : SFlat D w 4 v n) (h0 : 0 ≤ k0) (h1 : k0 + (n * 4 : Nat) ≤ 9223372036854775807) :
    Calls Tryz.prog 79 #[v, .int .i64 k0] w (Marks D (k0 + (n * 4 : Nat)) w) := by
  have HV := Lib.hid hv
  obtain ⟨hle, A, c, rfl, _⟩ := hv
  go_enter Tryz.func79, Tryz.ntmps79
  go_wp2
  go_loopw [1, 5] (fun q i wr => ∃ k : Nat, k ≤ n ∧ i = .int .i64 k ∧ q = .int .i64 (k0 + (k * 4 : Nat)) ∧ Hid (Marked D w wr)) (fun _ i _ => n - (intOf i).toNat)
  case atStart => exact ⟨0, Nat.zero_le _, rfl, by simp, Marked.refl _ _⟩
  case round =>
    obtain ⟨k, hk, rfl, rfl, HM⟩ := hrel
    by_cases hlt : k < n
    · obtain ⟨_, A', c', he, hx⟩ := HV.out.marked HM.out
      injection he with e1 _ e2
      subst e1 e2
      obtain ⟨b, off, rfl, hD, hcell⟩ := hx (by omega)
      obtain ⟨⟨x0, c0⟩, f0⟩ := hcell k 0 hlt (by omega)
      obtain ⟨⟨x1, c1⟩, f1⟩ := hcell k 1 hlt (by omega)
      obtain ⟨⟨x2, c2⟩, f2⟩ := hcell k 2 hlt (by omega)
      obtain ⟨⟨x3, c3⟩, f3⟩ := hcell k 3 hlt (by omega)
      rw [Nat.add_zero] at c0 f0
      have hbd : (k + 1) * 4 ≤ n * 4 := Nat.mul_le_mul_right _ (by omega)
      clear hcell hx
      obtain ⟨q, hq⟩ : ∃ q : Int, q = k0 + (k * 4 : Nat) := ⟨_, rfl⟩
      have hq0 : 0 ≤ q := by omega
      have hq1 : q + 4 ≤ 9223372036854775807 := by omega
      rw [← hq]
      have HQ := Lib.hid hq
      have HK := Lib.hid (shift_markInsS k0 k)
      clear hq hbd
      go_wp2
      go_roundw
      case rel =>
        refine ⟨k + 1, by omega, by go_num, ?_, ?_⟩
        · rw [← HK.out, ← HQ.out]; go_num
        · have m0 : Marked D w (wr.setCell ⟨b, off + k * 4, none⟩ (.int .i64 (q + 0))) := HM.out.trans (Marked.set hD (u := .int .i64 x0) (by exact c0) ⟨_, rfl⟩ _)
          have m1 : Marked D w ((wr.setCell ⟨b, off + k * 4, none⟩ (.int .i64 (q + 0))).setCell ⟨b, off + k * 4 + 1, none⟩ (.int .i64 (q + 1))) := m0.trans (Marked.set hD (u := .int .i64 x1) (by go_simp) ⟨_, rfl⟩ _)
          have m2 : Marked D w (((wr.setCell ⟨b, off + k * 4, none⟩ (.int .i64 (q + 0))).setCell ⟨b, off + k * 4 + 1, none⟩ (.int .i64 (q + 1))).setCell ⟨b, off + k * 4 + 2, none⟩ (.int .i64 (q + 2))) := m1.trans (Marked.set hD (u := .int .i64 x2) (by go_simp) ⟨_, rfl⟩ _)
          have m3 : Marked D w ((((wr.setCell ⟨b, off + k * 4, none⟩ (.int .i64 (q + 0))).setCell ⟨b, off + k * 4 + 1, none⟩ (.int .i64 (q + 1))).setCell ⟨b, off + k * 4 + 2, none⟩ (.int .i64 (q + 2))).setCell ⟨b, off + k * 4 + 3, none⟩ (.int .i64 (q + 3))) := m2.trans (Marked.set hD (u := .int .i64 x3) (by go_simp) ⟨_, rfl⟩ _)
          simpa [Hid, Int.add_assoc] using m3
      case measure => simp [intOf]; omega
    · obtain rfl : k = n := by omega
      go_wp2
      go_ret
      exact ⟨rfl, HM.out⟩

def cntPhis (ns : List Nat) : Nat := (ns.map fun n => n + 1).sum
def cntB (s : BShape) : Nat := cntPhis s.phis + s.head * 2 + s.body * 4 + s.tail * 2 + 4
def cntS (ss : List BShape) : Nat := (ss.map cntB).sum

set_option maxHeartbeats 1000000 in
theorem markPhiS_sh (D : Nat → Prop) (v : Value) (ns : List Nat) (k0 : Int) (w : World) (hv : SPhis D w v ns) (h0 : 0 ≤ k0) (h1 : k0 + (cntPhis ns : Nat) ≤ 9223372036854775807) :
    Calls Tryz.prog 77 #[v, .int .i64 k0] w (Marks D (k0 + (cntPhis ns : Nat)) w) := by
  have HV := Lib.hid hv
  obtain ⟨hle, A, c, rfl, _⟩ := hv
  have hall : pre (fun n => n + 1) ns ns.length = cntPhis ns := pre_all _ _
  have HALL := Lib.hid hall
  clear hall
  go_enter Tryz.func77, Tryz.ntmps77
  go_wp2
  go_loopw [1, 5] (fun q i wr => ∃ k : Nat, k ≤ ns.length ∧ i = .int .i64 k ∧ q = .int .i64 (k0 + (pre (fun n => n + 1) ns k : Nat)) ∧ Hid (Marked D w wr)) (fun _ i _ => ns.length - (intOf i).toNat)
  case atStart => exact ⟨0, Nat.zero_le _, rfl, by rw [pre_zero]; simp, Marked.refl _ _⟩
  case round =>
    obtain ⟨k, hk, rfl, rfl, HM⟩ := hrel
    by_cases hlt : k < ns.length
    · obtain ⟨_, A', c', he, hx⟩ := HV.out.marked HM.out
      injection he with e1 _ e2
      subst e1 e2
      obtain ⟨b, off, rfl, hD, hcell⟩ := hx (by omega)
      have hxk : ns[k]? = some ns[k] := List.getElem?_eq_getElem hlt
      generalize ns[k] = n at hxk
      obtain ⟨⟨⟨x0, c0⟩, f0⟩, u, c1, hu⟩ := hcell k n hxk
      have hbd : pre (fun n => n + 1) ns (k + 1) = pre (fun n => n + 1) ns k + (n + 1) := pre_succ _ hxk
      have hbd2 : pre (fun n => n + 1) ns (k + 1) ≤ cntPhis ns := pre_le _ _ _
      clear hcell hx hxk
      obtain ⟨q, hq⟩ : ∃ q : Int, q = k0 + (pre (fun n => n + 1) ns k : Nat) := ⟨_, rfl⟩
      have hq0 : 0 ≤ q := by omega
      have hq1 : q + 1 + (n * 1 : Nat) ≤ 9223372036854775807 := by omega
      have hnext : q + 1 + (n * 1 : Nat) = k0 + (pre (fun n => n + 1) ns (k + 1) : Nat) := by omega
      have hqb : q + 1 ≤ 9223372036854775807 := by omega
      rw [← hq]
      have HN := Lib.hid hnext
      have HU := Lib.hid hu
      have HM1 : Hid (Marked D w (wr.setCell ⟨b, off + k * 2, none⟩ (.int .i64 q))) := HM.out.trans (Marked.set hD c0 ⟨_, rfl⟩ _)
      have HMs : Hid (Marked D wr (wr.setCell ⟨b, off + k * 2, none⟩ (.int .i64 q))) := Marked.set hD c0 ⟨_, rfl⟩ _
      clear hq hbd hbd2 hnext hu
      go_wp2_with fail
      refine (markInt64S_sh D u n (q + 1) _ (HU.out.marked HMs.out) (by omega) hq1).mono ?_
      rintro e w2 ⟨rfl, hm2⟩
      have HM2 := Lib.hid (HM1.out.trans hm2)
      rw [HN.out]
      clear hm2
      go_wp2_with fail
      go_roundw
      case rel => exact ⟨k + 1, by omega, by go_num, rfl, HM2.out⟩
      case measure => simp [intOf]; omega
    · obtain rfl : k = ns.length := by omega
      go_wp2
      go_ret
      exact ⟨by rw [HALL.out]; rfl, HM.out⟩

set_option maxRecDepth 10000 in
set_option maxHeartbeats 2000000 in
theorem markBlockS_sh (D : Nat → Prop) (v : Value) (ss : List BShape) (k0 : Int) (w : World) (hv : SBlocks D w v ss) (h0 : 0 ≤ k0) (h1 : k0 + (cntS ss : Nat) ≤ 9223372036854775807) :
    Calls Tryz.prog 49 #[v, .int .i64 k0] w (Marks D (k0 + (cntS ss : Nat)) w) := by
  have HV := Lib.hid hv
  obtain ⟨hle, A, c, rfl, _⟩ := hv
  have HALL : Hid (pre cntB ss ss.length = cntS ss) := pre_all _ _
  go_enter Tryz.func49, Tryz.ntmps49
  go_wp2
  go_loopw [1, 5] (fun q i wr => ∃ k : Nat, k ≤ ss.length ∧ i = .int .i64 k ∧ q = .int .i64 (k0 + (pre cntB ss k : Nat)) ∧ Hid (Marked D w wr)) (fun _ i _ => ss.length - (intOf i).toNat)
  case atStart => exact ⟨0, Nat.zero_le _, rfl, by rw [pre_zero]; simp, Marked.refl _ _⟩
  case round =>
    obtain ⟨k, hk, rfl, rfl, HM⟩ := hrel
    by_cases hlt : k < ss.length
    case neg =>
      obtain rfl : k = ss.length := by omega
      go_wp2
      go_ret
      exact ⟨by rw [HALL.out]; rfl, HM.out⟩
    obtain ⟨_, A', c', he, hx⟩ := HV.out.marked HM.out
    injection he with e1 _ e2
    subst e1 e2
    obtain ⟨b, off, rfl, hD, hcell⟩ := hx (by omega)
    have hxk : ss[k]? = some ss[k] := List.getElem?_eq_getElem hlt
    generalize ss[k] = s at hxk
    obtain ⟨u0, u1, u2, u3, c0, c1, c2, c3, s0, s1, s2, s3, i0, i1, i2, i3⟩ := hcell k s hxk
    have hbd : pre cntB ss (k + 1) = pre cntB ss k + cntB s := pre_succ _ hxk
    have hbd2 : pre cntB ss (k + 1) ≤ cntS ss := pre_le _ _ _
    have hcb : cntB s = cntPhis s.phis + s.head * 2 + s.body * 4 + s.tail * 2 + 4 := rfl
    obtain ⟨q, hq⟩ : ∃ q : Int, q = k0 + (pre cntB ss k : Nat) := ⟨_, rfl⟩
    have hq0 : 0 ≤ q := by omega
    obtain ⟨q1, hq1⟩ : ∃ q1 : Int, q1 = q + (cntPhis s.phis : Nat) := ⟨_, rfl⟩
    obtain ⟨q2, hq2⟩ : ∃ q2 : Int, q2 = q1 + (s.head * 2 : Nat) := ⟨_, rfl⟩
    obtain ⟨q3, hq3⟩ : ∃ q3 : Int, q3 = q2 + (s.body * 4 : Nat) := ⟨_, rfl⟩
    obtain ⟨q4, hq4⟩ : ∃ q4 : Int, q4 = q3 + (s.tail * 2 : Nat) := ⟨_, rfl⟩
    have hnext : q4 + 4 = k0 + (pre cntB ss (k + 1) : Nat) := by omega
    have hb4 : q4 + 4 ≤ 9223372036854775807 := by omega
    have hb40 : 0 ≤ q4 := by omega
    have hm1 : q + (cntPhis s.phis : Nat) ≤ 9223372036854775807 := by omega
    have hm2 : q1 + (s.head * 2 : Nat) ≤ 9223372036854775807 := by omega
    have hm3 : q2 + (s.body * 4 : Nat) ≤ 9223372036854775807 := by omega
    have hm4 : q3 + (s.tail * 2 : Nat) ≤ 9223372036854775807 := by omega
    have hp1 : 0 ≤ q1 := by omega
    have hp2 : 0 ≤ q2 := by omega
    have hp3 : 0 ≤ q3 := by omega
    have HQ1 := Lib.hid hq1
    have HQ2 := Lib.hid hq2
    have HQ3 := Lib.hid hq3
    have HQ4 := Lib.hid hq4
    have HN := Lib.hid hnext
    have S0 := Lib.hid s0
    have S1 := Lib.hid s1
    have S2 := Lib.hid s2
    have S3 := Lib.hid s3
    have C1 := Lib.hid c1
    have C2 := Lib.hid c2
    have C3 := Lib.hid c3
    have I0 := Lib.hid i0
    have I1 := Lib.hid i1
    have I2 := Lib.hid i2
    have I3 := Lib.hid i3
    have n1 := s1.form
    have n2 := s2.form
    have n3 := s3.form
    rw [← hq]
    clear hq hbd hbd2 hcb hnext hq1 hq2 hq3 hq4 hcell hx hxk s0 s1 s2 s3 c1 c2 c3 i0 i1 i2 i3
    go_wp2_with fail
    refine (markPhiS_sh D u0 s.phis q _ S0.out hq0 hm1).mono ?_
    rintro e w1 ⟨rfl, hk1⟩
    rw [← HQ1.out]
    have HM1 := Lib.hid (HM.out.trans hk1)
    have K1 := Lib.hid hk1
    have d1 := hk1.same _ _ _ hD C1.out n1
    clear hk1
    go_wp2_with fail
    refine (markMoveS_sh D u1 s.head q1 _ (S1.out.marked K1.out) hp1 hm2).mono ?_
    rintro e w2 ⟨rfl, hk2⟩
    rw [← HQ2.out]
    have HM2 := Lib.hid (HM1.out.trans hk2)
    have K2 := Lib.hid (K1.out.trans hk2)
    have d2 := K2.out.same _ _ _ hD C2.out n2
    clear hk2 d1
    go_wp2_with fail
    refine (markInsS_sh D u2 s.body q2 _ (S2.out.marked K2.out) hp2 hm3).mono ?_
    rintro e w3 ⟨rfl, hk3⟩
    rw [← HQ3.out]
    have HM3 := Lib.hid (HM2.out.trans hk3)
    have K3 := Lib.hid (K2.out.trans hk3)
    have d3 := K3.out.same _ _ _ hD C3.out n3
    clear hk3 d2
    go_wp2_with fail
    refine (markMoveS_sh D u3 s.tail q3 _ (S3.out.marked K3.out) hp3 hm4).mono ?_
    rintro e w4 ⟨rfl, hk4⟩
    rw [← HQ4.out]
    have HM4 := Lib.hid (HM3.out.trans hk4)
    have K4 := Lib.hid (K3.out.trans hk4)
    clear hk4 d3 c0
    obtain ⟨⟨x4, c4⟩, f4⟩ := I0.out.marked hD K4.out
    obtain ⟨⟨x5, c5⟩, f5⟩ := I1.out.marked hD K4.out
    obtain ⟨⟨x6, c6⟩, f6⟩ := I2.out.marked hD K4.out
    obtain ⟨⟨x7, c7⟩, f7⟩ := I3.out.marked hD K4.out
    have m0 : Marked D w (w4.setCell ⟨b, off + k * 8 + 4, none⟩ (.int .i64 q4)) := HM4.out.trans (Marked.set hD c4 ⟨_, rfl⟩ _)
    have m1 : Marked D w ((w4.setCell ⟨b, off + k * 8 + 4, none⟩ (.int .i64 q4)).setCell ⟨b, off + k * 8 + 5, none⟩ (.int .i64 (q4 + 1))) := m0.trans (Marked.set hD (u := .int .i64 x5) (by go_simp) ⟨_, rfl⟩ _)
    have m2 : Marked D w (((w4.setCell ⟨b, off + k * 8 + 4, none⟩ (.int .i64 q4)).setCell ⟨b, off + k * 8 + 5, none⟩ (.int .i64 (q4 + 1))).setCell ⟨b, off + k * 8 + 6, none⟩ (.int .i64 (q4 + 1 + 1))) := m1.trans (Marked.set hD (u := .int .i64 x6) (by go_simp) ⟨_, rfl⟩ _)
    have m3 : Marked D w ((((w4.setCell ⟨b, off + k * 8 + 4, none⟩ (.int .i64 q4)).setCell ⟨b, off + k * 8 + 5, none⟩ (.int .i64 (q4 + 1))).setCell ⟨b, off + k * 8 + 6, none⟩ (.int .i64 (q4 + 1 + 1))).setCell ⟨b, off + k * 8 + 7, none⟩ (.int .i64 (q4 + 1 + 1 + 1))) := m2.trans (Marked.set hD (u := .int .i64 x7) (by go_simp) ⟨_, rfl⟩ _)
    have HM5 := Lib.hid m3
    clear m0 m1 m2 m3
    go_wp2_with fail
    go_roundw
    case rel =>
      refine ⟨k + 1, by omega, by go_num, by rw [← HN.out]; go_num, ?_⟩
      simpa [Hid, Int.add_assoc] using HM5.out
    case measure => simp [intOf]; omega

set_option maxHeartbeats 400000 in
theorem markFun_sh (D : Nat → Prop) (a b : Int) (u : Value) (ss : List BShape) (k0 : Int) (w : World) (hv : SBlocks D w u ss) (h0 : 0 ≤ k0) (h1 : k0 + (cntS ss : Nat) ≤ 9223372036854775807) :
    Calls Tryz.prog 19 #[.agg #[.int .i64 a, .int .i64 b, u], .int .i64 k0] w (Marks D (k0 + (cntS ss : Nat)) w) := by
  have HV := Lib.hid hv
  obtain ⟨_, A, c, rfl, _⟩ := hv
  go_enter Tryz.func19, Tryz.ntmps19
  go_wp2_with fail
  have hm := fun T : Obj => Marked.below (D := D) ((Below.refl w.heap.size w).alloc (Nat.le_refl _) T)
  refine (markBlockS_sh D _ ss k0 _ (HV.out.marked (hm _)) h0 h1).mono ?_
  rintro e w1 ⟨rfl, hm1⟩
  have HM := Lib.hid ((hm _).trans hm1)
  clear hm1 hm
  go_wp2_with fail
  go_ret
  exact ⟨rfl, HM.out⟩

theorem cntPhis_is (l : List PhiD) : cntPhis (phisS l) = szPhisN l := by
  unfold cntPhis phisS szPhisN
  induction l with
  | nil => rfl
  | cons p l ih =>
    simp only [List.map_cons, List.sum_cons, List.length_cons] at ih ⊢
    have : szPhiN p = p.args.length := rfl
    omega
theorem cntB_le (x : BlockD) : cntB (blockS x) ≤ 4 * szBlockN x + 4 := by
  have h1 : cntB (blockS x) = cntPhis (phisS x.phis) + x.head.length * 2 + x.body.length * 4 + x.tail.length * 2 + 4 := rfl
  have h2 : szBlockN x = szPhisN x.phis + x.head.length + x.body.length + x.tail.length := rfl
  rw [h1, h2, cntPhis_is]
  omega
theorem cntS_le (l : List BlockD) : cntS (l.map blockS) ≤ 4 * (l.length + (l.map szBlockN).sum) := by
  unfold cntS
  induction l with
  | nil => simp
  | cons x l ih =>
    simp only [List.map_cons, List.sum_cons, List.length_cons] at ih ⊢
    have := cntB_le x
    omega
theorem cntF_le {f : FunD} (h : szFunN f ≤ 1048576) : cntS (f.blocks.map blockS) ≤ 4194304 := by
  have := cntS_le f.blocks
  have e : szFunN f = f.blocks.length + (f.blocks.map szBlockN).sum := rfl
  omega
end

/- Small lemmas of the exact laws over functions. -/
section
open Go.ChangeShapes Go.WideShapes Go.ChangeAt Go.RowKit Go.Joins

theorem EFun.form {w : World} {Z : Zn} {f : FunD} {v : Value} (h : EFun w Z f v) : ∃ A c, v = .agg #[.int .i64 f.params, .int .i64 f.names, .slice A f.blocks.length c] := by
  obtain ⟨u, rfl, _, A, c, rfl, _⟩ := h
  exact ⟨A, c, rfl⟩
theorem leftI_yes' {f : FunD} (h : szFunN f ≤ 1048576) : 0 ≤ leftI 1048576 (szFunN f) := by unfold leftI; split <;> omega
theorem leftI_no' {f : FunD} (h : ¬ szFunN f ≤ 1048576) : leftI 1048576 (szFunN f) < 0 := by unfold leftI; split <;> omega

theorem Marked.belowB {D : Nat → Prop} {w w' : World} {B : Nat} (h : Marked D w w') (hD : ∀ b, D b → B ≤ b) (hB : B ≤ w.heap.size) : Below B w w' :=
  ⟨h.os, h.tape, h.output, h.size, fun b hb => h.far b (Nat.lt_of_lt_of_le hb hB) fun hd => by have := hD b hd; omega⟩
theorem OI.marked {D : Nat → Prop} {w w' : World} {B : Nat} {v : Value} {xs : List Int} (h : OI w B v xs) (hm : Marked D w w') (hn : ∀ k, v.ownBlock = some k → ¬ D k) : OI w' B v xs := by
  have hlt := h.lt
  obtain ⟨h1, h2⟩ := h
  refine ⟨h1, ?_⟩
  rcases h2 with h2 | ⟨g, cap, cur, rfl, hg, hh, r⟩
  · exact .inl h2
  · exact .inr ⟨g, cap, cur, rfl, hg, (hm.far g (hlt g rfl).2 (hn g rfl)).trans hh, r⟩
end

end Go.Proofs.YtnjmlhokkhkaaaaGreat
