/- Fr, To1, To2, To3, joined. -/
import Derived.Test.YtnjmlhokkhkaaaaGreatDoorQ1
import Derived.Test.YtnjmlhokkhkaaaaGreatDoorQ2
import Derived.Test.YtnjmlhokkhkaaaaGreatDoorQ3
import Derived.Test.YtnjmlhokkhkaaaaGreatDoorQ6
namespace Go.Proofs.YtnjmlhokkhkaaaaGreatDoor

/- Frames by block numbers; a row of bools of the call's own; the succs of a right function. -/
section
open Go.ChangeShapes Go.WideShapes Go.ChangeAt Go.RowKit Go.Joins

/-- Of what lay there the blocks of P alone may have turned. -/
structure Fw (P : Nat → Prop) (w w' : World) : Prop where
  os : w'.os = w.os
  tape : w'.tape = w.tape
  output : w'.output = w.output
  size : w.heap.size ≤ w'.heap.size
  block : ∀ k, k < w.heap.size → ¬ P k → w'.heap[k]? = w.heap[k]?
theorem Fw.refl (P : Nat → Prop) (w : World) : Fw P w w := ⟨rfl, rfl, rfl, Nat.le_refl _, fun _ _ _ => rfl⟩
theorem Fw.trans {P Q : Nat → Prop} {a b c : World} (h : Fw P a b) (k : Fw Q b c) (hq : ∀ i, i < a.heap.size → Q i → P i) : Fw P a c :=
  ⟨k.os.trans h.os, k.tape.trans h.tape, k.output.trans h.output, Nat.le_trans h.size k.size, fun i hi hn => (k.block i (Nat.lt_of_lt_of_le hi h.size) fun hqi => hn (hq i hi hqi)).trans (h.block i hi hn)⟩
theorem Fw.below {P : Nat → Prop} {a b : World} (h : Below a.heap.size a b) : Fw P a b := ⟨h.os, h.tape, h.output, h.size, fun k hk _ => h.block k hk⟩
theorem Fw.toBelow {P : Nat → Prop} {a b : World} {B : Nat} (h : Fw P a b) (hB : B ≤ a.heap.size) (hn : ∀ k, k < B → ¬ P k) : Below B a b := ⟨h.os, h.tape, h.output, h.size, fun k hk => h.block k (Nat.lt_of_lt_of_le hk hB) (hn k hk)⟩
theorem Fw.grown {P : Nat → Prop} {a b : World} {row : Option Nat} (h : a.grownBy b row) (hr : ∀ g, row = some g → g < a.heap.size → P g) : Fw P a b :=
  ⟨h.os, h.tape, h.output, h.size, fun k hk hn => h.block k hk fun e => hn (hr k e.symm hk)⟩
theorem Fw.set {P : Nat → Prop} (w : World) {g : Nat} (hg : P g) (o : Nat) (u : Value) : Fw P w (w.setCell ⟨g, o, none⟩ u) :=
  ⟨rfl, rfl, rfl, by simp, fun k _ hn => Below.heap_setCell w ⟨g, o, none⟩ u k (fun e => by
    have : k = g := e
    subst this
    exact hn hg)⟩
theorem Fw.alloc (P : Nat → Prop) (w : World) (o : Obj) : Fw P w (w.alloc o) := ⟨rfl, rfl, rfl, by simp, fun k hk _ => Below.heap_alloc w o k hk⟩
theorem Fw.drewN (P : Nat → Prop) (w : World) (n : Nat) : Fw P w (w.drewN n) := ⟨rfl, rfl, rfl, Nat.le_refl _, fun _ _ _ => rfl⟩

theorem own_fw {w w' : World} {B : Nat} {T : TypeId} {S n : Nat} {v : Value} {xs : List Value} {P : Nat → Prop} (h : w.ownsRow B T S v n xs) (hf : Fw P w w') (hn : ∀ k, v.ownBlock = some k → ¬ P k) : w'.ownsRow B T S v n xs := by
  have hlt := World.ownsRow.lt h
  refine ⟨h.1, ?_⟩
  rcases h.2 with h4 | ⟨g, cap, cur, rfl, hb, hg, r⟩
  · exact .inl h4
  · exact .inr ⟨g, cap, cur, rfl, hb, (hf.block g (hlt g rfl).2 (hn g rfl)).trans hg, r⟩
theorem OI.fw {w w' : World} {B : Nat} {v : Value} {xs : List Int} {P : Nat → Prop} (h : OI w B v xs) (hf : Fw P w w') (hn : ∀ k, v.ownBlock = some k → ¬ P k) : OI w' B v xs := own_fw h hf hn
theorem OB.fw {w w' : World} {B : Nat} {v : Value} {xs : List Bool} {P : Nat → Prop} (h : OB w B v xs) (hf : Fw P w w') (hn : ∀ k, v.ownBlock = some k → ¬ P k) : OB w' B v xs := own_fw h hf hn
theorem OB.lt {w : World} {B : Nat} {v : Value} {xs : List Bool} (h : OB w B v xs) : ∀ k, v.ownBlock = some k → B ≤ k ∧ k < w.heap.size := World.ownsRow.lt h

/-- The n bools of block q. -/
def BL (w : World) (q n : Nat) (bs : List Bool) : Prop := bs.length = n ∧ OB w q (.slice (some ⟨q, 0, none⟩) n n) bs
theorem BL.own {w : World} {q n : Nat} {bs : List Bool} (h : BL w q n bs) : w.ownsRow q 4 1 (.slice (some ⟨q, 0, none⟩) n n) n (bs.map bv) := by
  obtain ⟨rfl, h⟩ := h
  exact h
theorem BL.mk {w : World} {q n : Nat} {bs : List Bool} (hl : bs.length = n) (h : w.ownsRow q 4 1 (.slice (some ⟨q, 0, none⟩) n n) n (bs.map bv)) : BL w q n bs := by
  subst hl
  exact ⟨rfl, h⟩
theorem BL.cell {w : World} {q n k : Nat} {bs : List Bool} (h : BL w q n bs) {b : Bool} (hk : bs[k]? = some b) : w.cell? ⟨q, k, none⟩ = some (.bool b) := by
  have hlt := (List.getElem?_eq_some_iff.1 hk).1
  rw [World.ownsRow.cellAt h.own k (by rw [h.1] at hlt; omega), List.getElem?_map, hk]; rfl
theorem BL.frozen {w : World} {q n : Nat} {bs : List Bool} (h : BL w q n bs) (k : Nat) : w.frozen? ⟨q, k, none⟩ = false := World.ownsRow.frozenAt h.own k
theorem BL.set {w : World} {q n : Nat} {bs : List Bool} (h : BL w q n bs) (k : Nat) (b : Bool) : BL (w.setCell ⟨q, k, none⟩ (.bool b)) q n (bs.set k b) := by
  refine BL.mk (by simp [h.1]) ?_
  have := (World.ownsRow.stored h.own k (bv b)).1
  rw [← List.map_set] at this
  exact this
theorem BL.fw {w w' : World} {q n : Nat} {bs : List Bool} {P : Nat → Prop} (h : BL w q n bs) (hf : Fw P w w') (hn : ¬ P q) : BL w' q n bs :=
  BL.mk h.1 (own_fw h.own hf fun k hk => by injection hk with hk; subst hk; exact hn)
theorem BL.lt {w : World} {q n : Nat} {bs : List Bool} (h : BL w q n bs) : q < w.heap.size := (World.ownsRow.lt h.own q rfl).2
theorem BL.start (w : World) (n : Nat) (hm : n ≤ maxLen) : BL (w.alloc (.cells (madeCells #[.bool false] n) 4)) w.heap.size n (List.replicate n false) := by
  refine BL.mk (by simp) ⟨by simp, .inr ⟨w.heap.size, n, _, rfl, Nat.le_refl _, heap_alloc_new w _, Nat.le_refl _, hm, by simp [size_madeCells], ?_⟩⟩
  rw [toList_madeCells_one]
  simp [bv]

/-- The targets of block x, as its End names them. -/
def scF (bs : List BlockD) (x : Int) : List Int := match bs[x.toNat]? with
  | some y => toL y.fin.k y.fin.t y.fin.l
  | none => []
theorem scF_at {bs : List BlockD} {k : Nat} {y : BlockD} (h : bs[k]? = some y) : scF bs k = toL y.fin.k y.fin.t y.fin.l := by
  unfold scF
  rw [Int.toNat_natCast, h]

theorem isBlockB_ge {t : Int} (h : isBelowB t 40 = true) : 0 ≤ t := by
  simp [isBelowB] at h; omega

/-- All targets are blocks of the function. -/
def TargetsOk (bs : List BlockD) : Prop := ∀ (k : Nat) x, bs[k]? = some x → endOkB x.fin.k x.fin.a x.fin.t x.fin.l = true ∧ ∀ t ∈ toL x.fin.k x.fin.t x.fin.l, 0 ≤ t ∧ t < (bs.length : Int)
theorem TargetsOk.sc {bs : List BlockD} (h : TargetsOk bs) : ∀ b : Nat, b < bs.length → ∀ t ∈ scF bs b, 0 ≤ t ∧ t < (bs.length : Int) := fun b hb t ht => by
  have hx : bs[b]? = some bs[b] := List.getElem?_eq_getElem hb
  rw [scF_at hx] at ht
  exact (h b _ hx).2 t ht
theorem TargetsOk.succs {bs : List BlockD} (h : TargetsOk bs) {k : Nat} {x : BlockD} (hx : bs[k]? = some x) : succsL x.fin.k x.fin.a x.fin.t x.fin.l = scF bs k := by
  rw [scF_at hx, succsL, if_pos (h k x hx).1]
end

/- toMoveS and toInsS of the laws. -/
section
open Go.ChangeShapes Go.WideShapes Go.ChangeAt Go.RowKit Go.Joins

def GivesV (R : World → Zn → Value → Prop) (w : World) (e : Ending) (w' : World) : Prop := ∃ r, e = .returned r ∧ R w' (Zn.new w.heap.size w'.heap.size) r ∧ Below w.heap.size w w'

set_option maxHeartbeats 400000 in
theorem toMove_any (a b : Int) (w : World) :
    Calls Tryz.prog 144 #[.agg #[.int .i64 a, .int .i64 b]] w fun e w' => e = .returned (.agg #[.int .i64 a, .int .i64 b]) ∧ Below w.heap.size w w' := by
  go_enter Tryz.func144, Tryz.ntmps144
  go_wp2
  refine bodyPost_ret (v := .agg #[.int .i64 a, .int .i64 b]) (by simp [results, Tryz.results144, go_sem]) rfl ⟨rfl, ?_⟩
  repeat (first | exact Below.refl _ _ | refine Below.alloc ?_ (by first | (simp; done) | (simp; omega)) _ | refine Below.setCell ?_ (by simp) _)

theorem info_Move : (Tryz.prog.info? 90).map (fun i => (i.zero, i.size, i.bytes)) = some (some (.agg #[.int .i64 0, .int .i64 0]), 2, 16) := by kernel_rfl

set_option maxHeartbeats 400000 in
theorem toMoveS_any (v : Value) (xs : List MoveD) (w : World) (Z : Zn) (hv : Row w Z 2 EMove v xs) (hD : ∀ b, Z.D b → b < w.heap.size) (hn : xs.length ≤ 1048576) :
    Calls Tryz.prog 121 #[v] w (GivesV (fun w Z v => Row w Z 2 EMove v xs) w) := by
  obtain ⟨_, A, c, rfl, hx⟩ := hv
  obtain ⟨i0, hi, hz0, hz1, hz2⟩ := info_parts info_Move
  have hmk := fun W => run_make_rowN (P := Tryz.prog) 56 90 i0 _ Tryz.underlying56 hi hz0 .i64 .i64 xs.length xs.length (Nat.le_refl _) (by rw [hz2]; omega) (by omega) W
  rw [hz1] at hmk
  clear hi hz0 hz1 hz2
  go_enter Tryz.func121, Tryz.ntmps121
  go_wp2
  go_loopw [4] (fun i wr => ∃ k : Nat, k ≤ xs.length ∧ i = .int .i64 k ∧ Hid (Below w.heap.size w wr) ∧ w.heap.size < wr.heap.size ∧ Hid (Fill wr w.heap.size 90 2 xs.length k EMove xs)) (fun i _ => xs.length - (intOf i).toNat)
  case atStart => exact ⟨0, Nat.zero_le _, rfl, (Below.refl _ _).alloc (Nat.le_refl _) _, by simp, Fill.zero (heap_alloc_new w _) (size_madeCells _ _)⟩
  case round =>
    obtain ⟨k, hk, rfl, HB, hsz, HF⟩ := hrel
    by_cases hlt : k < xs.length
    · have hxk : xs[k]? = some xs[k] := List.getElem?_eq_getElem hlt
      generalize xs[k] = x at hxk
      obtain ⟨b, off, rfl, hDb, hrow⟩ := hx (by rintro rfl; simp at hlt)
      obtain ⟨cs, rfl, hcs⟩ := hrow k x hxk
      have hbl := hD b hDb
      have c0 : wr.cell? ⟨b, off + k * 2, none⟩ = some (.int .i64 x.dst) := (HB.out.cell (p := ⟨b, _, none⟩) hbl).trans (hcs 0 _ rfl).1
      have c1 : wr.cell? ⟨b, off + k * 2 + 1, none⟩ = some (.int .i64 x.src) := (HB.out.cell (p := ⟨b, _, none⟩) hbl).trans (hcs 1 _ rfl).1
      clear hcs hrow hx
      have Hxk := Lib.hid hxk
      clear hxk
      go_wp2_with fail
      refine (toMove_any _ _ _).mono ?_
      rintro e w1 ⟨rfl, hb1⟩
      have hsz1 := hb1.size
      have HF1 : Hid (Fill w1 w.heap.size 90 2 xs.length k EMove xs) := HF.out.keep (hb1.block _ hsz) fun _ _ h => h
      obtain ⟨u0, d0⟩ := HF1.out.cell (j := 0) hlt (by omega)
      obtain ⟨u1, d1⟩ := HF1.out.cell (j := 1) hlt (by omega)
      have f0 := HF1.out.frozen (k * 2)
      have f1 := HF1.out.frozen (k * 2 + 1)
      rw [Nat.add_zero] at d0
      have HB1 : Hid (Below w.heap.size w w1) := HB.out.trans (hb1.mono (by omega))
      clear hb1 HB HF
      go_wp2_with fail
      go_roundw
      case rel =>
        exact ⟨k + 1, by omega, by go_num, (HB1.out.setCell (by simp) _).setCell (by simp) _, by simp; omega, HF1.out.store (cs := [.int .i64 x.dst, .int .i64 x.src]) Hxk.out hlt rfl rfl (fun _ _ h => h) (fun _ _ h => by rw [h]; rfl)⟩
      case measure => simp [intOf]; omega
    · obtain rfl : k = xs.length := by omega
      go_wp2
      go_ret
      exact ⟨_, rfl, HF.out.row (Z := Zn.new _ _) rfl (by omega) ⟨Nat.le_refl _, hsz⟩ _, HB.out⟩

theorem info_Ins : (Tryz.prog.info? 62).map (fun i => (i.zero, i.size, i.bytes)) = some (some (.agg #[.int .i64 0, .int .i64 0, .int .i64 0, .int .i64 0]), 4, 32) := by kernel_rfl

set_option maxHeartbeats 400000 in
theorem toInsS_any (v : Value) (xs : List InsD) (w : World) (Z : Zn) (hv : Row w Z 4 EIns v xs) (hD : ∀ b, Z.D b → b < w.heap.size) (hn : xs.length ≤ 1048576) :
    Calls Tryz.prog 122 #[v] w (GivesV (fun w Z v => Row w Z 4 EIns v xs) w) := by
  obtain ⟨_, A, c, rfl, hx⟩ := hv
  obtain ⟨i0, hi, hz0, hz1, hz2⟩ := info_parts info_Ins
  have hmk := fun W => run_make_rowN (P := Tryz.prog) 54 62 i0 _ Tryz.underlying54 hi hz0 .i64 .i64 xs.length xs.length (Nat.le_refl _) (by rw [hz2]; omega) (by omega) W
  rw [hz1] at hmk
  clear hi hz0 hz1 hz2
  go_enter Tryz.func122, Tryz.ntmps122
  go_wp2
  go_loopw [4] (fun i wr => ∃ k : Nat, k ≤ xs.length ∧ i = .int .i64 k ∧ Hid (Below w.heap.size w wr) ∧ w.heap.size < wr.heap.size ∧ Hid (Fill wr w.heap.size 62 4 xs.length k EIns xs)) (fun i _ => xs.length - (intOf i).toNat)
  case atStart => exact ⟨0, Nat.zero_le _, rfl, (Below.refl _ _).alloc (Nat.le_refl _) _, by simp, Fill.zero (heap_alloc_new w _) (size_madeCells _ _)⟩
  case round =>
    obtain ⟨k, hk, rfl, HB, hsz, HF⟩ := hrel
    by_cases hlt : k < xs.length
    · have hxk : xs[k]? = some xs[k] := List.getElem?_eq_getElem hlt
      generalize xs[k] = x at hxk
      obtain ⟨b, off, rfl, hDb, hrow⟩ := hx (by rintro rfl; simp at hlt)
      obtain ⟨cs, rfl, hcs⟩ := hrow k x hxk
      have hbl := hD b hDb
      have c0 : wr.cell? ⟨b, off + k * 4, none⟩ = some (.int .i64 x.op) := (HB.out.cell (p := ⟨b, _, none⟩) hbl).trans (hcs 0 _ rfl).1
      have c1 : wr.cell? ⟨b, off + k * 4 + 1, none⟩ = some (.int .i64 x.v) := (HB.out.cell (p := ⟨b, _, none⟩) hbl).trans (hcs 1 _ rfl).1
      have c2 : wr.cell? ⟨b, off + k * 4 + 2, none⟩ = some (.int .i64 x.a) := (HB.out.cell (p := ⟨b, _, none⟩) hbl).trans (hcs 2 _ rfl).1
      have c3 : wr.cell? ⟨b, off + k * 4 + 3, none⟩ = some (.int .i64 x.b) := (HB.out.cell (p := ⟨b, _, none⟩) hbl).trans (hcs 3 _ rfl).1
      clear hcs hrow hx
      have Hxk := Lib.hid hxk
      clear hxk
      go_wp2_with fail
      refine (toIns_any _ _ _ _ _).mono ?_
      rintro e w1 ⟨rfl, hb1⟩
      have hsz1 := hb1.size
      have HF1 : Hid (Fill w1 w.heap.size 62 4 xs.length k EIns xs) := HF.out.keep (hb1.block _ hsz) fun _ _ h => h
      obtain ⟨u0, d0⟩ := HF1.out.cell (j := 0) hlt (by omega)
      obtain ⟨u1, d1⟩ := HF1.out.cell (j := 1) hlt (by omega)
      obtain ⟨u2, d2⟩ := HF1.out.cell (j := 2) hlt (by omega)
      obtain ⟨u3, d3⟩ := HF1.out.cell (j := 3) hlt (by omega)
      have f2 := HF1.out.frozen (k * 4 + 2)
      have f3 := HF1.out.frozen (k * 4 + 3)
      have f0 := HF1.out.frozen (k * 4)
      have f1 := HF1.out.frozen (k * 4 + 1)
      rw [Nat.add_zero] at d0
      have HB1 : Hid (Below w.heap.size w w1) := HB.out.trans (hb1.mono (by omega))
      clear hb1 HB HF
      go_wp2_with fail
      go_roundw
      case rel =>
        exact ⟨k + 1, by omega, by go_num, (((HB1.out.setCell (by simp) _).setCell (by simp) _).setCell (by simp) _).setCell (by simp) _, by simp; omega, HF1.out.store (cs := [.int .i64 x.op, .int .i64 x.v, .int .i64 x.a, .int .i64 x.b]) Hxk.out hlt rfl rfl (fun _ _ h => h) (fun _ _ h => by rw [h]; rfl)⟩
      case measure => simp [intOf]; omega
    · obtain rfl : k = xs.length := by omega
      go_wp2
      go_ret
      exact ⟨_, rfl, HF.out.row (Z := Zn.new _ _) rfl (by omega) ⟨Nat.le_refl _, hsz⟩ _, HB.out⟩

theorem info_Int : (Tryz.prog.info? 2).map (fun i => (i.zero, i.size, i.bytes)) = some (some (.int .i64 0), 1, 8) := by kernel_rfl

set_option maxHeartbeats 400000 in
theorem toInt64S_any (v : Value) (xs : List Int) (w : World) (Z : Zn) (hv : Row w Z 1 EInt v xs) (hD : ∀ b, Z.D b → b < w.heap.size) (hn : xs.length ≤ 1048576) :
    Calls Tryz.prog 153 #[v] w (GivesV (fun w Z v => Row w Z 1 EInt v xs) w) := by
  obtain ⟨_, A, c, rfl, hx⟩ := hv
  obtain ⟨i0, hi, hz0, hz1, hz2⟩ := info_parts info_Int
  have hmk := fun W => run_make_rowN (P := Tryz.prog) 64 2 i0 _ Tryz.underlying64 hi hz0 .i64 .i64 xs.length xs.length (Nat.le_refl _) (by rw [hz2]; omega) (by omega) W
  rw [hz1] at hmk
  clear hi hz0 hz1 hz2
  go_enter Tryz.func153, Tryz.ntmps153
  go_wp2
  go_loopw [4] (fun i wr => ∃ k : Nat, k ≤ xs.length ∧ i = .int .i64 k ∧ Hid (Below w.heap.size w wr) ∧ w.heap.size < wr.heap.size ∧ Hid (Fill wr w.heap.size 2 1 xs.length k EInt xs)) (fun i _ => xs.length - (intOf i).toNat)
  case atStart => exact ⟨0, Nat.zero_le _, rfl, (Below.refl _ _).alloc (Nat.le_refl _) _, by simp, Fill.zero (heap_alloc_new w _) (by simp [size_madeCells])⟩
  case round =>
    obtain ⟨k, hk, rfl, HB, hsz, HF⟩ := hrel
    by_cases hlt : k < xs.length
    · have hxk : xs[k]? = some xs[k] := List.getElem?_eq_getElem hlt
      generalize xs[k] = x at hxk
      obtain ⟨b, off, rfl, hDb, hrow⟩ := hx (by rintro rfl; simp at hlt)
      obtain ⟨cs, rfl, hcs⟩ := hrow k x hxk
      have hbl := hD b hDb
      have c0 : wr.cell? ⟨b, off + k, none⟩ = some (.int .i64 x) := (HB.out.cell (p := ⟨b, _, none⟩) hbl).trans (by have := (hcs 0 _ rfl).1; rwa [Nat.mul_one] at this)
      clear hcs hrow hx
      have Hxk := Lib.hid hxk
      clear hxk
      obtain ⟨u0, d0⟩ := HF.out.cell (j := 0) hlt (by omega)
      have f0 := HF.out.frozen k
      rw [Nat.mul_one, Nat.add_zero] at d0
      go_wp2
      go_roundw
      case rel =>
        refine ⟨k + 1, by omega, by go_num, HB.out.setCell (by simp) _, by simp; omega, ?_⟩
        have h := HF.out.store (cs := [.int .i64 x]) Hxk.out hlt rfl rfl (fun _ _ h => h) (fun _ _ h => by rw [h]; rfl)
        rw [Nat.mul_one] at h
        exact h
      case measure => simp [intOf]; omega
    · obtain rfl : k = xs.length := by omega
      go_wp2
      go_ret
      exact ⟨_, rfl, HF.out.row (Z := Zn.new _ _) rfl (by omega) ⟨Nat.le_refl _, hsz⟩ _, HB.out⟩
end

/- toPhi and toPhiS of the laws. -/
section
open Go.ChangeShapes Go.WideShapes Go.ChangeAt Go.RowKit Go.Joins

def GivesE (R : World → Zn → List Value → Prop) (w : World) (e : Ending) (w' : World) : Prop := ∃ cs, e = .returned (.agg cs.toArray) ∧ R w' (Zn.new w.heap.size w'.heap.size) cs ∧ Below w.heap.size w w'

theorem Zn.new_mono {lo lo' hi hi' : Nat} (h1 : lo' ≤ lo) (h2 : hi ≤ hi') : ∀ b, (Zn.new lo hi).D b → (Zn.new lo' hi').D b := fun _ h => ⟨Nat.le_trans h1 h.1, Nat.lt_of_lt_of_le h.2 h2⟩
theorem Kept.new {lo lo' hi hi' : Nat} {w w' : World} (h1 : lo' ≤ lo) (h2 : hi ≤ hi') (hw : ∀ b, lo ≤ b → b < hi → w'.heap[b]? = w.heap[b]?) : Kept (Zn.new lo hi) (Zn.new lo' hi') w w' :=
  ⟨Zn.new_mono h1 h2, fun h => h, fun b h => hw b h.1 h.2⟩

set_option maxHeartbeats 400000 in
theorem toPhi_any (a : Int) (u : Value) (xs : List Int) (w : World) (Z : Zn) (hv : Row w Z 1 EInt u xs) (hD : ∀ b, Z.D b → b < w.heap.size) (hn : xs.length ≤ 1048576) :
    Calls Tryz.prog 143 #[.agg #[.int .i64 a, u]] w (GivesE (fun w Z cs => EPhi w Z ⟨a, xs⟩ cs) w) := by
  have HV := Lib.hid hv
  obtain ⟨_, A, c, rfl, _⟩ := hv
  go_enter Tryz.func143, Tryz.ntmps143
  go_wp2_with fail
  refine (toInt64S_any _ _ _ Z (HV.out.keep (Kept.below (B := w.heap.size) (by repeat (first | exact Below.refl _ _ | refine Below.alloc ?_ (by first | (simp; done) | (simp; omega)) _ | refine Below.setCell ?_ (by simp) _)) hD) fun _ _ h => h) (fun b hb => by have := hD b hb; simp; omega) hn).mono ?_
  rintro e w1 ⟨r, rfl, hr, hb1⟩
  have HR := Lib.hid hr
  obtain ⟨_, A1, c1, rfl, _⟩ := hr
  obtain ⟨hc, hf⟩ := bcell hb1
  have hz : w.heap.size + 3 ≤ w1.heap.size := by have := hb1.size; simp at this; omega
  have HB := Lib.hid hb1
  clear hb1
  go_wp2_with fail
  refine bodyPost_ret (v := .agg #[.int .i64 a, .slice A1 xs.length c1]) (by simp [results, Tryz.results143, go_sem, hc]) rfl ?_
  refine ⟨[.int .i64 a, .slice A1 xs.length c1], rfl, ⟨_, rfl, HR.out.keep (Kept.new (by simp; omega) (by simp) fun b h1 h2 => ?_) fun _ _ h => h⟩, ?_⟩
  · simp at h1
    repeat (first | rfl | refine (Below.heap_setCell _ _ _ _ (by simp; omega)).trans ?_)
  · refine Below.setCell (Below.setCell (Below.setCell (Below.trans ?_ (HB.out.mono (by simp; omega))) (by simp; omega) _) (by simp) _) (by simp) _
    repeat (first | exact Below.refl _ _ | refine Below.alloc ?_ (by first | (simp; done) | (simp; omega)) _ | refine Below.setCell ?_ (by simp) _)

theorem info_Phi : (Tryz.prog.info? 88).map (fun i => (i.zero, i.size, i.bytes)) = some (some (.agg #[.int .i64 0, .slice none 0 0]), 2, 32) := by kernel_rfl

theorem EPhi.len {w : World} {Z : Zn} (p : PhiD) (cs : List Value) (h : EPhi w Z p cs) : cs.length = 2 := by
  obtain ⟨v, rfl, _⟩ := h
  rfl

def smallPhi (p : PhiD) : Prop := p.args.length ≤ 1048576

set_option maxHeartbeats 400000 in
theorem toPhiS_any (v : Value) (xs : List PhiD) (w : World) (Z : Zn) (hv : Row w Z 2 (EPhi w Z) v xs) (hD : ∀ b, Z.D b → b < w.heap.size) (hn : xs.length ≤ 1048576) (hm : ∀ p ∈ xs, smallPhi p) :
    Calls Tryz.prog 120 #[v] w (GivesV (fun w Z v => Row w Z 2 (EPhi w Z) v xs) w) := by
  obtain ⟨_, A, c, rfl, hx⟩ := hv
  obtain ⟨i0, hi, hz0, hz1, hz2⟩ := info_parts info_Phi
  have hmk := fun W => run_make_rowN (P := Tryz.prog) 55 88 i0 _ Tryz.underlying55 hi hz0 .i64 .i64 xs.length xs.length (Nat.le_refl _) (by rw [hz2]; omega) (by omega) W
  rw [hz1] at hmk
  clear hi hz0 hz1 hz2
  go_enter Tryz.func120, Tryz.ntmps120
  go_wp2
  go_loopw [4] (fun i wr => ∃ k : Nat, k ≤ xs.length ∧ i = .int .i64 k ∧ Hid (Below w.heap.size w wr) ∧ w.heap.size < wr.heap.size ∧ Hid (Fill wr w.heap.size 88 2 xs.length k (EPhi wr (Zn.new (w.heap.size + 1) wr.heap.size)) xs)) (fun i _ => xs.length - (intOf i).toNat)
  case atStart => exact ⟨0, Nat.zero_le _, rfl, (Below.refl _ _).alloc (Nat.le_refl _) _, by simp, Fill.zero (heap_alloc_new w _) (size_madeCells _ _)⟩
  case round =>
    obtain ⟨k, hk, rfl, HB, hsz, HF⟩ := hrel
    by_cases hlt : k < xs.length
    · have hxk : xs[k]? = some xs[k] := List.getElem?_eq_getElem hlt
      have hmk := hm _ (List.getElem_mem hlt)
      generalize xs[k] = x at hxk hmk
      obtain ⟨b, off, rfl, hDb, hrow⟩ := hx (by rintro rfl; simp at hlt)
      obtain ⟨cs, ⟨u, rfl, hu⟩, hcs⟩ := hrow k x hxk
      have hbl := hD b hDb
      have c0 : wr.cell? ⟨b, off + k * 2, none⟩ = some (.int .i64 x.v) := (HB.out.cell (p := ⟨b, _, none⟩) hbl).trans (hcs 0 _ rfl).1
      have c1 : wr.cell? ⟨b, off + k * 2 + 1, none⟩ = some u := (HB.out.cell (p := ⟨b, _, none⟩) hbl).trans (hcs 1 _ rfl).1
      have HU := Lib.hid (hu.keep (Kept.below HB.out hD) fun _ _ h => h)
      have Hxk := Lib.hid hxk
      have Hm := Lib.hid hmk
      clear hcs hrow hx hxk hu hmk
      go_wp2_with fail
      refine (toPhi_any x.v u x.args wr Z HU.out (fun b hb => by have := hD b hb; have := HB.out.size; omega) Hm.out).mono ?_
      rintro e w1 ⟨cs, rfl, ⟨r, rfl, hr⟩, hb1⟩
      have HR := Lib.hid hr
      obtain ⟨_, A1, c1', rfl, _⟩ := hr
      have hsz1 := hb1.size
      have HF1 : Hid (Fill w1 w.heap.size 88 2 xs.length k (EPhi w1 (Zn.new (w.heap.size + 1) w1.heap.size)) xs) := HF.out.keep (hb1.block _ hsz) fun _ _ h => h.keep (Kept.new (Nat.le_refl _) hsz1 fun b _ h2 => hb1.block b h2)
      obtain ⟨u0, d0⟩ := HF1.out.cell (j := 0) hlt (by omega)
      obtain ⟨u1, d1⟩ := HF1.out.cell (j := 1) hlt (by omega)
      have f0 := HF1.out.frozen (k * 2)
      have f1 := HF1.out.frozen (k * 2 + 1)
      rw [Nat.add_zero] at d0
      have HB1 : Hid (Below w.heap.size w w1) := HB.out.trans (hb1.mono (by omega))
      clear hb1 HB HF
      go_wp2_with fail
      go_roundw
      case rel =>
        refine ⟨k + 1, by omega, by go_num, (HB1.out.setCell (by simp) _).setCell (by simp) _, by simp; omega, ?_⟩
        have hg := storeAll_grown [.int .i64 x.v, .slice A1 x.args.length c1'] w1 w.heap.size (k * 2)
        have hK : ∀ lo, w.heap.size + 1 ≤ lo → Kept (Zn.new lo w1.heap.size) (Zn.new (w.heap.size + 1) w1.heap.size) w1 _ := fun lo hlo => Kept.new hlo (Nat.le_refl _) fun b h1 h2 => hg.block b h2 (by simp; omega)
        have h := HF1.out.store (cs := [.int .i64 x.v, .slice A1 x.args.length c1']) (E' := EPhi (storeAll w1 w.heap.size (k * 2) [.int .i64 x.v, .slice A1 x.args.length c1']) (Zn.new (w.heap.size + 1) w1.heap.size)) Hxk.out hlt ⟨_, rfl, HR.out.keep (hK _ (by omega)) fun _ _ h => h⟩ rfl (fun _ _ h => h.keep (hK _ (Nat.le_refl _))) (fun _ _ h => h.len)
        simpa [storeAll, Hid] using h
      case measure => simp [intOf]; omega
    · obtain rfl : k = xs.length := by omega
      go_wp2
      go_ret
      exact ⟨_, rfl, (HF.out.keep rfl fun _ _ h => h.keep (Kept.new (by omega) (Nat.le_refl _) fun _ _ _ => rfl)).row (Z := Zn.new _ _) rfl (by omega) ⟨Nat.le_refl _, hsz⟩ _, HB.out⟩
end

/- toBlock, toBlockS and toFun of the laws. -/
section
open Go.ChangeShapes Go.WideShapes Go.ChangeAt Go.RowKit Go.Joins

theorem kept_step {lo g o : Nat} {u : Value} {w V w' : World} (hV : V = w.setCell ⟨g, o, none⟩ u) (hg : g < lo) (hb : Below V.heap.size V w') : Kept (Zn.new lo w.heap.size) (Zn.new lo w'.heap.size) w w' := by
  subst hV
  have hs := hb.size
  simp only [nblk_set] at hs
  refine Kept.new (Nat.le_refl _) hs fun b h1 h2 => ?_
  exact (hb.block b (by rw [nblk_set]; exact h2)).trans (Below.heap_setCell _ _ _ _ (by first | omega | (simp; done) | (simp; omega)))

def smallBlock (x : BlockD) : Prop := x.phis.length ≤ 1048576 ∧ (∀ p ∈ x.phis, smallPhi p) ∧ x.head.length ≤ 1048576 ∧ x.body.length ≤ 1048576 ∧ x.tail.length ≤ 1048576
def smallFun (f : FunD) : Prop := f.blocks.length ≤ 1048576 ∧ ∀ x ∈ f.blocks, smallBlock x

set_option maxHeartbeats 1000000 in
theorem toBlock_any (x : BlockD) (cs : List Value) (w : World) (Z : Zn) (hv : EBlock w Z x cs) (hD : ∀ b, Z.D b → b < w.heap.size) (hn : smallBlock x) :
    Calls Tryz.prog 83 #[.agg cs.toArray] w (GivesE (fun w Z cs => EBlock w Z x cs) w) := by
  obtain ⟨v0, v1, v2, v3, rfl, hv0, hv1, hv2, hv3⟩ := hv
  obtain ⟨hn0, hn1, hn2, hn3, hn4⟩ := hn
  have HV0 := Lib.hid hv0
  have HV1 := Lib.hid hv1
  have HV2 := Lib.hid hv2
  have HV3 := Lib.hid hv3
  have HN1 := Lib.hid hn1
  obtain ⟨_, A0, c0, rfl, _⟩ := hv0
  obtain ⟨_, A1, c1, rfl, _⟩ := hv1
  obtain ⟨_, A2, c2, rfl, _⟩ := hv2
  obtain ⟨_, A3, c3, rfl, _⟩ := hv3
  clear hn1
  go_enter Tryz.func83, Tryz.ntmps83
  go_wp2_with fail
  have hK1 : ∀ V : World, Below w.heap.size w V → Kept Z Z w V := fun V hb => Kept.below hb hD
  refine (toPhiS_any _ _ _ Z (HV0.out.keep (hK1 _ (by repeat (first | exact Below.refl _ _ | refine Below.alloc ?_ (by first | (simp; done) | (simp; omega)) _ | refine Below.setCell ?_ (by simp) _))) fun _ _ h => h.keep (hK1 _ (by repeat (first | exact Below.refl _ _ | refine Below.alloc ?_ (by first | (simp; done) | (simp; omega)) _ | refine Below.setCell ?_ (by simp) _)))) (fun b hb => by have := hD b hb; first | omega | (simp; omega)) hn0 HN1.out).mono ?_
  rintro e w1 ⟨r, rfl, hr, hb1⟩
  have HB1 : Hid (Below w.heap.size w w1) := Below.trans (by repeat (first | exact Below.refl _ _ | refine Below.alloc ?_ (by first | (simp; done) | (simp; omega)) _ | refine Below.setCell ?_ (by simp) _)) (hb1.mono (by first | omega | (simp; done) | (simp; omega)))
  have HR0 : Hid (Row w1 (Zn.new (w.heap.size + 3) w1.heap.size) 2 (EPhi w1 (Zn.new (w.heap.size + 3) w1.heap.size)) r x.phis) := by simpa [Hid] using hr
  obtain ⟨_, B0, d0, rfl, _⟩ := hr
  obtain ⟨hc1, hf1⟩ := bcellB (hb1.mono (B' := w.heap.size + 3) (by simp))
  have hz1 : w.heap.size + 3 ≤ w1.heap.size := by have := hb1.size; simp at this; omega
  clear hb1
  go_wp2_with fail
  refine (toMoveS_any _ _ _ Z (HV1.out.keep (hK1 _ (HB1.out.setCell (by first | omega | (simp; done) | (simp; omega)) _)) fun _ _ h => h) (fun b hb => by have := hD b hb; first | omega | (simp; omega)) hn2).mono ?_
  rintro e w2 ⟨r, rfl, hr, hb2⟩
  have HB2 : Hid (Below w.heap.size w w2) := (HB1.out.setCell (by first | omega | (simp; done) | (simp; omega)) _).trans (hb2.mono (by first | omega | (simp; done) | (simp; omega)))
  have HK : Hid (Kept (Zn.new (w.heap.size + 3) w1.heap.size) (Zn.new (w.heap.size + 3) w2.heap.size) w1 w2) := kept_step rfl (by omega) hb2
  have hz2 : w1.heap.size ≤ w2.heap.size := by have := hb2.size; first | omega | (simp at this; omega)
  replace HR0 := Lib.hid (HR0.out.keep HK.out fun _ _ h => h.keep HK.out)
  have HR1 : Hid (Row w2 (Zn.new (w.heap.size + 3) w2.heap.size) 2 EMove r x.head) := hr.keep (Kept.new (by first | omega | (simp; done) | (simp; omega)) (Nat.le_refl _) fun _ _ _ => rfl) fun _ _ h => h
  obtain ⟨_, B1, d1, rfl, _⟩ := hr
  obtain ⟨hc2, hf2⟩ := bcellB (hb2.mono (B' := w.heap.size + 3) (by first | omega | (simp; omega)))
  clear hb2 HK
  go_wp2_with fail
  refine (toInsS_any _ _ _ Z (HV2.out.keep (hK1 _ (HB2.out.setCell (by first | omega | (simp; done) | (simp; omega)) _)) fun _ _ h => h) (fun b hb => by have := hD b hb; first | omega | (simp; omega)) hn3).mono ?_
  rintro e w3 ⟨r, rfl, hr, hb3⟩
  have HB3 : Hid (Below w.heap.size w w3) := (HB2.out.setCell (by first | omega | (simp; done) | (simp; omega)) _).trans (hb3.mono (by first | omega | (simp; done) | (simp; omega)))
  have HK : Hid (Kept (Zn.new (w.heap.size + 3) w2.heap.size) (Zn.new (w.heap.size + 3) w3.heap.size) w2 w3) := kept_step rfl (by omega) hb3
  have hz3 : w2.heap.size ≤ w3.heap.size := by have := hb3.size; first | omega | (simp at this; omega)
  replace HR0 := Lib.hid (HR0.out.keep HK.out fun _ _ h => h.keep HK.out)
  replace HR1 := Lib.hid (HR1.out.keep HK.out fun _ _ h => h)
  have HR2 : Hid (Row w3 (Zn.new (w.heap.size + 3) w3.heap.size) 4 EIns r x.body) := hr.keep (Kept.new (by first | omega | (simp; done) | (simp; omega)) (Nat.le_refl _) fun _ _ _ => rfl) fun _ _ h => h
  obtain ⟨_, B2, d2, rfl, _⟩ := hr
  obtain ⟨hc3, hf3⟩ := bcellB (hb3.mono (B' := w.heap.size + 3) (by first | omega | (simp; omega)))
  clear hb3 HK
  go_wp2_with fail
  refine (toMoveS_any _ _ _ Z (HV3.out.keep (hK1 _ (HB3.out.setCell (by first | omega | (simp; done) | (simp; omega)) _)) fun _ _ h => h) (fun b hb => by have := hD b hb; first | omega | (simp; omega)) hn4).mono ?_
  rintro e w4 ⟨r, rfl, hr, hb4⟩
  have HB4 : Hid (Below w.heap.size w w4) := (HB3.out.setCell (by first | omega | (simp; done) | (simp; omega)) _).trans (hb4.mono (by first | omega | (simp; done) | (simp; omega)))
  have HK : Hid (Kept (Zn.new (w.heap.size + 3) w3.heap.size) (Zn.new (w.heap.size + 3) w4.heap.size) w3 w4) := kept_step rfl (by omega) hb4
  have hz4 : w3.heap.size ≤ w4.heap.size := by have := hb4.size; first | omega | (simp at this; omega)
  replace HR0 := Lib.hid (HR0.out.keep HK.out fun _ _ h => h.keep HK.out)
  replace HR1 := Lib.hid (HR1.out.keep HK.out fun _ _ h => h)
  replace HR2 := Lib.hid (HR2.out.keep HK.out fun _ _ h => h)
  have HR3 : Hid (Row w4 (Zn.new (w.heap.size + 3) w4.heap.size) 2 EMove r x.tail) := hr.keep (Kept.new (by first | omega | (simp; done) | (simp; omega)) (Nat.le_refl _) fun _ _ _ => rfl) fun _ _ h => h
  obtain ⟨_, B3, d3, rfl, _⟩ := hr
  obtain ⟨hc4, hf4⟩ := bcellB (hb4.mono (B' := w.heap.size + 3) (by first | omega | (simp; omega)))
  clear hb4 HK
  go_wp2_with fail
  refine (toEnd_any _ _ _ _ _).mono ?_
  rintro e w5 ⟨rfl, hb5⟩
  have HB5 : Hid (Below w.heap.size w w5) := (HB4.out.setCell (by first | omega | (simp; done) | (simp; omega)) _).trans (hb5.mono (by first | omega | (simp; done) | (simp; omega)))
  have HK : Hid (Kept (Zn.new (w.heap.size + 3) w4.heap.size) (Zn.new (w.heap.size + 3) w5.heap.size) w4 w5) := kept_step rfl (by omega) hb5
  have hz5 : w4.heap.size ≤ w5.heap.size := by have := hb5.size; first | omega | (simp at this; omega)
  replace HR0 := Lib.hid (HR0.out.keep HK.out fun _ _ h => h.keep HK.out)
  replace HR1 := Lib.hid (HR1.out.keep HK.out fun _ _ h => h)
  replace HR2 := Lib.hid (HR2.out.keep HK.out fun _ _ h => h)
  replace HR3 := Lib.hid (HR3.out.keep HK.out fun _ _ h => h)
  obtain ⟨hc5, hf5⟩ := bcellB (hb5.mono (B' := w.heap.size + 3) (by first | omega | (simp; omega)))
  clear hb5 HK
  unfold vEnd
  go_wp2_with fail
  refine bodyPost_ret (v := .agg #[.slice B0 x.phis.length d0, .slice B1 x.head.length d1, .slice B2 x.body.length d2, .slice B3 x.tail.length d3, .int .i64 x.fin.k, .int .i64 x.fin.a, .int .i64 x.fin.t, .int .i64 x.fin.l]) (by simp [results, Tryz.results83, go_sem, hc5, hc4, hc3, hc2, hc1]) rfl ?_
  refine ⟨[.slice B0 x.phis.length d0, .slice B1 x.head.length d1, .slice B2 x.body.length d2, .slice B3 x.tail.length d3, .int .i64 x.fin.k, .int .i64 x.fin.a, .int .i64 x.fin.t, .int .i64 x.fin.l], rfl, ?_, ?_⟩
  · refine EBlock.keep (w := w5) (Z := Zn.new (w.heap.size + 3) w5.heap.size) ⟨_, _, _, _, rfl, HR0.out, HR1.out, HR2.out, HR3.out⟩ (Kept.new (by omega) (by simp) fun b hb _ => ?_)
    repeat (refine (Below.heap_setCell _ _ _ _ (by simp; omega)).trans ?_)
    with_reducible rfl
  repeat (refine Below.setCell ?_ (by first | (simp; done) | (simp; omega)) _)
  exact HB5.out


theorem info_Block : (Tryz.prog.info? 60).map (fun i => (i.zero, i.size, i.bytes)) = some (some (.agg #[.slice none 0 0, .slice none 0 0, .slice none 0 0, .slice none 0 0, .int .i64 0, .int .i64 0, .int .i64 0, .int .i64 0]), 8, 128) := by kernel_rfl

theorem EBlock.len {w : World} {Z : Zn} (p : BlockD) (cs : List Value) (h : EBlock w Z p cs) : cs.length = 8 := by
  obtain ⟨_, _, _, _, rfl, _⟩ := h
  rfl

set_option maxHeartbeats 1000000 in
theorem toBlockS_any (v : Value) (xs : List BlockD) (w : World) (Z : Zn) (hv : Row w Z 8 (EBlock w Z) v xs) (hD : ∀ b, Z.D b → b < w.heap.size) (hn : xs.length ≤ 1048576) (hm : ∀ p ∈ xs, smallBlock p) :
    Calls Tryz.prog 43 #[v] w (GivesV (fun w Z v => Row w Z 8 (EBlock w Z) v xs) w) := by
  obtain ⟨_, A, c, rfl, hx⟩ := hv
  obtain ⟨i0, hi, hz0, hz1, hz2⟩ := info_parts info_Block
  have hmk := fun W => run_make_rowN (P := Tryz.prog) 24 60 i0 _ Tryz.underlying24 hi hz0 .i64 .i64 xs.length xs.length (Nat.le_refl _) (by rw [hz2]; omega) (by omega) W
  rw [hz1] at hmk
  clear hi hz0 hz1 hz2
  go_enter Tryz.func43, Tryz.ntmps43
  go_wp2
  go_loopw [4] (fun i wr => ∃ k : Nat, k ≤ xs.length ∧ i = .int .i64 k ∧ Hid (Below w.heap.size w wr) ∧ w.heap.size < wr.heap.size ∧ Hid (Fill wr w.heap.size 60 8 xs.length k (EBlock wr (Zn.new (w.heap.size + 1) wr.heap.size)) xs)) (fun i _ => xs.length - (intOf i).toNat)
  case atStart => exact ⟨0, Nat.zero_le _, rfl, (Below.refl _ _).alloc (Nat.le_refl _) _, by simp, Fill.zero (heap_alloc_new w _) (size_madeCells _ _)⟩
  case round =>
    obtain ⟨k, hk, rfl, HB, hsz, HF⟩ := hrel
    by_cases hlt : k < xs.length
    · have hxk : xs[k]? = some xs[k] := List.getElem?_eq_getElem hlt
      have hmk := hm _ (List.getElem_mem hlt)
      generalize xs[k] = x at hxk hmk
      obtain ⟨b, off, rfl, hDb, hrow⟩ := hx (by rintro rfl; simp at hlt)
      obtain ⟨cs, hu, hcs⟩ := hrow k x hxk
      have HU := Lib.hid (hu.keep (Kept.below HB.out hD))
      obtain ⟨v0, v1, v2, v3, rfl, _⟩ := hu
      have hbl := hD b hDb
      have c0 : wr.cell? ⟨b, off + k * 8, none⟩ = some v0 := (HB.out.cell (p := ⟨b, _, none⟩) hbl).trans (hcs 0 _ rfl).1
      have c1 : wr.cell? ⟨b, off + k * 8 + 1, none⟩ = some v1 := (HB.out.cell (p := ⟨b, _, none⟩) hbl).trans (hcs 1 _ rfl).1
      have c2 : wr.cell? ⟨b, off + k * 8 + 2, none⟩ = some v2 := (HB.out.cell (p := ⟨b, _, none⟩) hbl).trans (hcs 2 _ rfl).1
      have c3 : wr.cell? ⟨b, off + k * 8 + 3, none⟩ = some v3 := (HB.out.cell (p := ⟨b, _, none⟩) hbl).trans (hcs 3 _ rfl).1
      have c4 : wr.cell? ⟨b, off + k * 8 + 4, none⟩ = some (.int .i64 x.fin.k) := (HB.out.cell (p := ⟨b, _, none⟩) hbl).trans (hcs 4 _ rfl).1
      have c5 : wr.cell? ⟨b, off + k * 8 + 5, none⟩ = some (.int .i64 x.fin.a) := (HB.out.cell (p := ⟨b, _, none⟩) hbl).trans (hcs 5 _ rfl).1
      have c6 : wr.cell? ⟨b, off + k * 8 + 6, none⟩ = some (.int .i64 x.fin.t) := (HB.out.cell (p := ⟨b, _, none⟩) hbl).trans (hcs 6 _ rfl).1
      have c7 : wr.cell? ⟨b, off + k * 8 + 7, none⟩ = some (.int .i64 x.fin.l) := (HB.out.cell (p := ⟨b, _, none⟩) hbl).trans (hcs 7 _ rfl).1
      have Hxk := Lib.hid hxk
      have Hm := Lib.hid hmk
      clear hcs hrow hx hxk hmk
      go_wp2_with fail
      refine (toBlock_any x _ wr Z HU.out (fun b hb => by have := hD b hb; have := HB.out.size; omega) Hm.out).mono ?_
      rintro e w1 ⟨cs, rfl, hr, hb1⟩
      have HR := Lib.hid hr
      obtain ⟨r0, r1, r2, r3, rfl, ⟨_, A0, c0, rfl, _⟩, ⟨_, A1, c1, rfl, _⟩, ⟨_, A2, c2, rfl, _⟩, ⟨_, A3, c3, rfl, _⟩⟩ := hr
      have hsz1 := hb1.size
      have HF1 : Hid (Fill w1 w.heap.size 60 8 xs.length k (EBlock w1 (Zn.new (w.heap.size + 1) w1.heap.size)) xs) := HF.out.keep (hb1.block _ hsz) fun _ _ h => h.keep (Kept.new (Nat.le_refl _) hsz1 fun b _ h2 => hb1.block b h2)
      obtain ⟨u0, d0⟩ := HF1.out.cell (j := 0) hlt (by omega)
      have f0 := HF1.out.frozen (k * 8)
      obtain ⟨u1, d1⟩ := HF1.out.cell (j := 1) hlt (by omega)
      have f1 := HF1.out.frozen (k * 8 + 1)
      obtain ⟨u2, d2⟩ := HF1.out.cell (j := 2) hlt (by omega)
      have f2 := HF1.out.frozen (k * 8 + 2)
      obtain ⟨u3, d3⟩ := HF1.out.cell (j := 3) hlt (by omega)
      have f3 := HF1.out.frozen (k * 8 + 3)
      obtain ⟨u4, d4⟩ := HF1.out.cell (j := 4) hlt (by omega)
      have f4 := HF1.out.frozen (k * 8 + 4)
      obtain ⟨u5, d5⟩ := HF1.out.cell (j := 5) hlt (by omega)
      have f5 := HF1.out.frozen (k * 8 + 5)
      obtain ⟨u6, d6⟩ := HF1.out.cell (j := 6) hlt (by omega)
      have f6 := HF1.out.frozen (k * 8 + 6)
      obtain ⟨u7, d7⟩ := HF1.out.cell (j := 7) hlt (by omega)
      have f7 := HF1.out.frozen (k * 8 + 7)
      rw [Nat.add_zero] at d0
      have HB1 : Hid (Below w.heap.size w w1) := HB.out.trans (hb1.mono (by omega))
      clear hb1 HB HF
      go_wp2_with fail
      go_roundw
      case rel =>
        refine ⟨k + 1, by omega, by go_num, (((((((HB1.out.setCell (by simp) _).setCell (by simp) _).setCell (by simp) _).setCell (by simp) _).setCell (by simp) _).setCell (by simp) _).setCell (by simp) _).setCell (by simp) _, by simp; omega, ?_⟩
        have hg := storeAll_grown [.slice A0 x.phis.length c0, .slice A1 x.head.length c1, .slice A2 x.body.length c2, .slice A3 x.tail.length c3, .int .i64 x.fin.k, .int .i64 x.fin.a, .int .i64 x.fin.t, .int .i64 x.fin.l] w1 w.heap.size (k * 8)
        have hK : ∀ lo, w.heap.size + 1 ≤ lo → Kept (Zn.new lo w1.heap.size) (Zn.new (w.heap.size + 1) w1.heap.size) w1 _ := fun lo hlo => Kept.new hlo (Nat.le_refl _) fun b h1 h2 => hg.block b h2 (by simp; omega)
        have h := HF1.out.store (cs := [.slice A0 x.phis.length c0, .slice A1 x.head.length c1, .slice A2 x.body.length c2, .slice A3 x.tail.length c3, .int .i64 x.fin.k, .int .i64 x.fin.a, .int .i64 x.fin.t, .int .i64 x.fin.l]) (E' := EBlock (storeAll w1 w.heap.size (k * 8) [.slice A0 x.phis.length c0, .slice A1 x.head.length c1, .slice A2 x.body.length c2, .slice A3 x.tail.length c3, .int .i64 x.fin.k, .int .i64 x.fin.a, .int .i64 x.fin.t, .int .i64 x.fin.l]) (Zn.new (w.heap.size + 1) w1.heap.size)) Hxk.out hlt (HR.out.keep (hK _ (by omega))) rfl (fun _ _ h => h.keep (hK _ (Nat.le_refl _))) (fun _ _ h => h.len)
        simpa [storeAll, Hid] using h
      case measure => simp [intOf]; omega
    · obtain rfl : k = xs.length := by omega
      go_wp2
      go_ret
      exact ⟨_, rfl, (HF.out.keep rfl fun _ _ h => h.keep (Kept.new (by omega) (Nat.le_refl _) fun _ _ _ => rfl)).row (Z := Zn.new _ _) rfl (by omega) ⟨Nat.le_refl _, hsz⟩ _, HB.out⟩

set_option maxHeartbeats 400000 in
theorem toFun_any (f : FunD) (v : Value) (w : World) (Z : Zn) (hv : EFun w Z f v) (hD : ∀ b, Z.D b → b < w.heap.size) (hn : smallFun f) :
    Calls Tryz.prog 20 #[v] w (GivesV (fun w Z v => EFun w Z f v) w) := by
  obtain ⟨u, rfl, hu⟩ := hv
  have HV := Lib.hid hu
  obtain ⟨_, A, c, rfl, _⟩ := hu
  go_enter Tryz.func20, Tryz.ntmps20
  go_wp2_with fail
  have hK1 : ∀ V : World, Below w.heap.size w V → Kept Z Z w V := fun V hb => Kept.below hb hD
  refine (toBlockS_any _ _ _ Z (HV.out.keep (hK1 _ (by repeat (first | exact Below.refl _ _ | refine Below.alloc ?_ (by first | (simp; done) | (simp; omega)) _ | refine Below.setCell ?_ (by simp) _))) fun _ _ h => h.keep (hK1 _ (by repeat (first | exact Below.refl _ _ | refine Below.alloc ?_ (by first | (simp; done) | (simp; omega)) _ | refine Below.setCell ?_ (by simp) _)))) (fun b hb => by have := hD b hb; simp; omega) hn.1 hn.2).mono ?_
  rintro e w1 ⟨r, rfl, hr, hb1⟩
  have HB1 : Hid (Below w.heap.size w w1) := Below.trans (by repeat (first | exact Below.refl _ _ | refine Below.alloc ?_ (by first | (simp; done) | (simp; omega)) _ | refine Below.setCell ?_ (by simp) _)) (hb1.mono (by simp; omega))
  have HR0 : Hid (Row w1 (Zn.new (w.heap.size + 3) w1.heap.size) 8 (EBlock w1 (Zn.new (w.heap.size + 3) w1.heap.size)) r f.blocks) := by simpa [Hid] using hr
  obtain ⟨_, B0, d0, rfl, _⟩ := hr
  obtain ⟨hc1, hf1⟩ := bcellB (hb1.mono (B' := w.heap.size + 3) (by simp))
  have hz1 : w.heap.size + 3 ≤ w1.heap.size := by have := hb1.size; simp at this; omega
  clear hb1
  go_wp2_with fail
  refine bodyPost_ret (v := .agg #[.int .i64 f.params, .int .i64 f.names, .slice B0 f.blocks.length d0]) (by simp [results, Tryz.results20, go_sem, hc1]) rfl ?_
  refine ⟨_, rfl, ?_, ?_⟩
  · refine EFun.keep (w := w1) (Z := Zn.new (w.heap.size + 3) w1.heap.size) ⟨_, rfl, HR0.out⟩ (Kept.new (by omega) (by simp) fun b hb _ => ?_)
    repeat (refine (Below.heap_setCell _ _ _ _ (by simp; omega)).trans ?_)
    with_reducible rfl
  repeat (refine Below.setCell ?_ (by first | (simp; done) | (simp; omega)) _)
  exact HB1.out
end

end Go.Proofs.YtnjmlhokkhkaaaaGreatDoor
