/- Coll, MapE, joined. -/
import Derived.Test.YteikpekffgifoaaGr7
import Derived.Test.YteikpekffgifoaaGr18
import Derived.Maps.OwnIn
import Derived.Maps.Ext
import Derived.DeepKeys4
namespace Go.Proofs.Yteikpekffgifoaa

/- slices.AppendSeq and slices.Collect over the edges; EdgesOf of both sides. -/
section
open Go.ChangeShapes Go.WideShapes Go.ChangeAt Go.RowKit Go.Joins Go.Shelf

attribute [local go_sem] Oper.semAt_some

theorem edges_stops (n Bs n₀ : Nat) (bs : List BlockD) (A : Option Addr) (c : Nat) (Z : Zn) (w : World) (hn : bs.length ≤ 1000) (ht : TargetsOk bs) (hn1 : 1 ≤ n) (hZ : ∀ b, Z.D b → b < n₀) (hn0 : n₀ ≤ w.heap.size) (hBl : Bs < w.heap.size) (hBs : w.cell? ⟨Bs, 0, none⟩ = some (.slice A bs.length c)) (hrow : Row w Z 8 (EBlock w Z) (.slice A bs.length c) bs) :
    SeqStopsK Fence.wide n Try.prog 89 #[.pointer (some ⟨Bs, 0, none⟩)] encE (EKp n₀) (fun ys => ys = edgesOf bs) (fun _ => True) (2 * bs.length) w := fun l J Jx W hW hJ _ hY h0 =>
  edges1_in n l Bs n₀ bs A c Z hn ht hn1 hZ J Jx _ hJ (fun _ => True) (fun _ _ _ _ => trivial) (fun pre x W _ => hY pre x W) W (by have := hW.size; omega) ((hW.cell (p := ⟨Bs, 0, none⟩) hBl).trans hBs) (hrow.keep (Kept.below hW fun b hb => by have := hZ b hb; omega) fun _ _ h => h.keep (Kept.below hW fun b hb => by have := hZ b hb; omega)) h0

set_option maxHeartbeats 400000 in
theorem allEdges_any (A : Option Addr) (m c : Nat) (w : World) :
    Calls Try.prog 60 #[.slice A m c] w fun e w' => e = .returned (.func (.func 89) #[] #[.pointer (some ⟨w.heap.size, 0, none⟩)]) ∧ w.alloc (.cells #[.slice A m c] 24) = w' := by
  go_enter Try.func60, Try.ntmps60
  go_wp2
  go_ret
  exact ⟨rfl, rfl⟩

theorem append_ikept {W w1 : World} {n₀ B : Nat} {T : TypeId} {v v' : Value} {k : Nat} {xs : List Value} {tmp : Obj} (hv : Boxed W B T v) (hT : T ≠ 2) (hrow : W.ownsRow n₀ 51 2 v k xs) (hgrow : (W.alloc tmp).grownBy w1 v.ownBlock) : IntsKept W (w1.setCell ⟨B, 0, none⟩ v') := by
  intro i cur fz hi
  have hlt := (Array.getElem?_eq_some_iff.1 hi).1
  have hB : i ≠ B := by
    rintro rfl
    have h := hv
    unfold Boxed at h
    rw [hi] at h
    injection h with h
    injection h with _ h _
    exact hT h.symm
  have hne : some i ≠ v.ownBlock := by
    intro e
    rcases hrow.2 with ⟨rfl, _⟩ | ⟨g, cap, cur', rfl, _, hg, _⟩
    · cases e
    · injection e with e
      have e' : i = g := e
      subst e'
      rw [hi] at hg
      injection hg with hg
      injection hg with _ hg _
      exact absurd hg (by decide)
  rw [Below.heap_setCell _ _ _ _ hB, hgrow.block i (by simp; omega) hne, Below.heap_alloc _ _ _ hlt]

def BoxE (W : World) (B : Nat) (x : MoveD) : Prop := W.heap[B]? = some (.cells #[.int .i64 x.dst, .int .i64 x.src] 51 (0, 0))
theorem BoxE.cells {W : World} {B : Nat} {x : MoveD} (h : BoxE W B x) : W.cell? ⟨B, 0, none⟩ = some (.int .i64 x.dst) ∧ W.cell? ⟨B, 1, none⟩ = some (.int .i64 x.src) := ⟨cell_of_row W B 0 _ _ (0, 0) h, cell_of_row W B 1 _ _ (0, 0) h⟩
theorem boxE_own {β : Type} (B : Nat) (f : β → MoveD) : Own (fun s W => BoxE W B (f s)) := fun s X Y row hs hg hr => by
  refine (hg.block B (Array.getElem?_eq_some_iff.1 hs).1 fun e => ?_).trans hs
  obtain ⟨o, ho, hc⟩ := hr B e.symm
  rw [show X.heap[B]? = _ from hs] at ho
  injection ho with ho
  subst ho
  cases hc

set_option maxRecDepth 100000 in
set_option maxHeartbeats 4000000 in
theorem AppendSeq_in (n Bs : Nat) (bs : List BlockD) (A : Option Addr) (c : Nat) (Z : Zn) (w : World) (hn3 : 3 ≤ n) (hn : bs.length ≤ 1000) (ht : TargetsOk bs) (hZ : ∀ b, Z.D b → b < w.heap.size) (hBl : Bs < w.heap.size) (hBs : w.cell? ⟨Bs, 0, none⟩ = some (.slice A bs.length c)) (hrow : Row w Z 8 (EBlock w Z) (.slice A bs.length c) bs) :
    CallsIn Fence.wide n Try.prog 88 #[.slice none 0 0, .func (.func 89) #[] #[.pointer (some ⟨Bs, 0, none⟩)]] w (GivesEs (edgesOf bs) w) := by
  have h1 : 1 ≤ n := by omega
  obtain ⟨i0, hi, hz0, hz1, hz2⟩ := info_parts info_edge
  have bO := Boxed.new w 48 (.slice none 0 0)
  have hB0 : Below w.heap.size w (w.alloc (.cells #[.slice none 0 0] 48)) := (Below.refl _ w).alloc (Nat.le_refl _) _
  have hrow0 : Row (w.alloc (.cells #[.slice none 0 0] 48)) Z 8 (EBlock (w.alloc (.cells #[.slice none 0 0] 48)) Z) (.slice A bs.length c) bs := hrow.keep (Kept.below hB0 hZ) fun _ _ h => h.keep (Kept.below hB0 hZ)
  have hBs0 := (hB0.cell (p := ⟨Bs, 0, none⟩) hBl).trans hBs
  clear hBs hrow
  refine callsIn_of_wp_marks Try.func88 rfl trivial ?_
  simp only [Try.ntmps88, List.size_toArray, List.length_cons, List.length_nil, Nat.reduceAdd, Nat.reduceSub, Array.replicate_succ, Array.replicate_zero, List.push_toArray, List.append_toArray, List.nil_append, List.cons_append]
  gi_wp2
  obtain ⟨W0, hW0⟩ : ∃ W0, w.alloc (.cells #[.slice none 0 0] 48) = W0 := ⟨_, rfl⟩
  have hsz : W0.heap.size = w.heap.size + 1 := by rw [← hW0]; simp
  rw [hW0] at bO hB0 hrow0 hBs0 ⊢
  clear hW0
  refine wpIn_rangeFunc_ownH rfl h1 (gf := 89) (lb := #[.pointer (some ⟨Bs, 0, none⟩)]) rfl trivial (enters_of Try.func89 (by kernel_rfl) rfl)
    (edges_stops (n - 1) Bs w.heap.size bs A c Z W0 hn ht (by omega) hZ (by omega) (by omega) hBs0 hrow0) EKp.t (EKp.b (by omega)) (Below.refl _ _) (fun _ => rfl)
    (fun pre W => (∃ v, Boxed W w.heap.size 48 v ∧ W.ownsRow w.heap.size 51 2 v pre.length (fl pre) ∧ True) ∧ Below w.heap.size w W)
    (fun _ _ _ => False)
    (OwnFrom.and (Own.from (holdsRow_own w.heap.size w.heap.size 48 51 2 (fun pre : List MoveD => pre.length) (fun pre => fl pre) (fun _ _ => True)) _) (ownFrom_below (Nat.le_refl _) (by omega)))
    (fun _ _ _ _ _ hs _ _ => hs)
    ⟨⟨_, bO, World.ownsRow_nil _ _ _ _, trivial⟩, hB0⟩
    (fun x a' W => ∃ Bx, w.heap.size < Bx ∧ BoxE W Bx x ∧ a' = { tmps := #[.slice none 0 0, .func (.func 89) #[] #[.pointer (some ⟨Bs, 0, none⟩)], .pointer (some ⟨w.heap.size, 0, none⟩), undef, .slice none 0 0, .pointer (some ⟨Bx, 0, none⟩), .func (.func 89) #[] #[.pointer (some ⟨Bs, 0, none⟩)], .agg #[.int .i64 x.dst, .int .i64 x.src], undef, undef, undef, undef, undef], defers := [] })
    (fun x a' _ X Y row hs hg hr => by obtain ⟨Bx, h1, h2, h3⟩ := hs; exact ⟨Bx, h1, boxE_own Bx (fun (_ : Unit) => x) () X Y row h2 hg (fun r e => (hr r e).2), h3⟩)
    ?assign ?body ?done ?stop
  case assign =>
    rintro l pre x W K ⟨⟨v, hv, hr, _⟩, hB⟩ hK
    simp only [encE]
    gi_wp2
    have hsW := hB.size
    exact hK _ _ ((KeepsOthers.alloc _ _).from _) ⟨(Below.refl _ W).alloc hsW _, IntsKept.below ((Below.refl _ W).alloc (Nat.le_refl _) _)⟩ ⟨⟨v, hv.alloc _, World.ownsRow.alloc hr _, trivial⟩, hB.alloc hsW _⟩ ⟨W.heap.size, hv.lt, heap_alloc_new W _, rfl⟩
  case body =>
    rintro l pre x a' W hl ⟨r, hr⟩ ⟨⟨v, hv, hrow, _⟩, hB⟩ ⟨Bx, hBx, bX, rfl⟩ hlt
    have hc := hv.cell
    have hBs := hB.size
    have x0 := bX.cells.1
    have x1 := bX.cells.2
    gi_wp2_with (gi_at_builtin; refine wpListIn_append_own _ rfl _ _ 48 rfl w.heap.size 51 i0 (.agg #[.int .i64 0, .int .i64 0]) 2 16 Try.underlying48 hi hz0 hz1 hz2 rfl (by decide) _ _ _ rfl (hrow.alloc _) ⟨W.heap.size, 0, none⟩ 1 1 [.int .i64 x.dst, .int .i64 x.src] rfl rfl (edge_news _ _ _) (by simp [Value.oneCell']) (by rw [maxLen_is]; omega) (by omega) (by simp; omega) ?_; intro v' w1 hown' hgrow _; obtain ⟨g', cap', rfl⟩ := ownsRow_succ hown'; obtain ⟨hv1, hv2, hr2, hk2, hb2⟩ := hv.appended (by decide) hrow hBs (Nat.le_refl _) hown' hgrow; have hik := append_ikept (v' := .slice (some ⟨g', 0, none⟩) (pre.length + 1) cap') hv (by decide) hrow hgrow; have hc1 := hv1.cell; have hf1 := hv1.frozen)
    exact ⟨hk2.from _, ⟨hb2, hik⟩, ⟨_, hv2, by rw [fl_append, List.length_append]; exact hr2, trivial⟩, hB.trans hb2⟩
  case done =>
    rintro D ys W hD rfl ⟨⟨v, hv, hrow, _⟩, hB⟩ hK
    have hc := hv.cell
    obtain ⟨Af, cf, rfl⟩ := OE.form hrow
    gi_wp2
    refine ⟨by simp, .inl ⟨_, _, rfl, run_takeDeferred hK, ?_⟩⟩
    exact ⟨_, results_tmp rfl _ _ _, .slice Af (edgesOf bs).length cf, rfl, ownsRow_putObj hrow _ hK rfl, hB.trans (belowK_b (w := w) (Nat.le_refl _) W D _ _ (by omega) hK rfl rfl)⟩
  case stop =>
    rintro D c pre W _ _ h _
    exact h.elim

theorem AppendSeq_any (Bs : Nat) (bs : List BlockD) (A : Option Addr) (c : Nat) (Z : Zn) (w : World) (hn : bs.length ≤ 1000) (ht : TargetsOk bs) (hZ : ∀ b, Z.D b → b < w.heap.size) (hBl : Bs < w.heap.size) (hBs : w.cell? ⟨Bs, 0, none⟩ = some (.slice A bs.length c)) (hrow : Row w Z 8 (EBlock w Z) (.slice A bs.length c) bs) :
    Calls Try.prog 88 #[.slice none 0 0, .func (.func 89) #[] #[.pointer (some ⟨Bs, 0, none⟩)]] w (GivesEs (edgesOf bs) w) :=
  (callsIn_wide (n := 3)).1 (AppendSeq_in 3 Bs bs A c Z w (Nat.le_refl _) hn ht hZ hBl hBs hrow)

set_option maxHeartbeats 400000 in
theorem Collect_any (Bs : Nat) (bs : List BlockD) (A : Option Addr) (c : Nat) (Z : Zn) (w : World) (hn : bs.length ≤ 1000) (ht : TargetsOk bs) (hZ : ∀ b, Z.D b → b < w.heap.size) (hBl : Bs < w.heap.size) (hBs : w.cell? ⟨Bs, 0, none⟩ = some (.slice A bs.length c)) (hrow : Row w Z 8 (EBlock w Z) (.slice A bs.length c) bs) :
    Calls Try.prog 59 #[.func (.func 89) #[] #[.pointer (some ⟨Bs, 0, none⟩)]] w (GivesEs (edgesOf bs) w) := by
  have HC := Lib.hid (AppendSeq_any Bs bs A c Z w hn ht hZ hBl hBs hrow)
  clear hBs hrow
  go_enter Try.func59, Try.ntmps59
  go_wp2_with fail
  refine HC.out.mono ?_
  rintro e w1 ⟨r, rfl, hr, hb⟩
  have HR := Lib.hid hr
  have HB := Lib.hid hb
  clear hr hb
  go_wp2_with fail
  go_ret
  exact ⟨_, rfl, HR.out, HB.out⟩

/-- What EdgesOf answers. -/
def EdgesRes (f : FunD) (es : List MoveD) : Prop := (FunP f ∧ es = edgesOf f.blocks) ∨ (¬ FunP f ∧ es = [])
theorem EdgesRes.one {f : FunD} {xs ys : List MoveD} (h : EdgesRes f xs) (k : EdgesRes f ys) : xs = ys := by
  rcases h with ⟨h1, rfl⟩ | ⟨h1, rfl⟩ <;> rcases k with ⟨k1, rfl⟩ | ⟨k1, rfl⟩
  · rfl
  · exact absurd h1 k1
  · exact absurd k1 h1
  · rfl
theorem EdgesRes.len {f : FunD} {xs : List MoveD} (h : EdgesRes f xs) : xs.length ≤ 80 := by
  rcases h with ⟨h, rfl⟩ | ⟨_, rfl⟩
  · have h1 := edgesK_len f.blocks f.blocks.length
    have h2 := h.1.1.2
    unfold edgesOf
    omega
  · simp
def GivesEdges (f : FunD) (w : World) (e : Ending) (w' : World) : Prop := ∃ xs r, e = .returned r ∧ EdgesRes f xs ∧ OE w' w.heap.size r xs ∧ Below w.heap.size w w'

set_option maxRecDepth 10000 in
set_option maxHeartbeats 1000000 in
theorem EdgesOf_any (f : FunD) (v : Value) (w : World) (Z : Zn) (hv : EFun w Z f v) (hD : ∀ b, Z.D b → b < w.heap.size) (hn : f.blocks.length ≤ 1048576) : Calls Try.prog 24 #[v] w (GivesEdges f w) := by
  have HF := Lib.hid hv
  obtain ⟨u, rfl, hu⟩ := hv
  obtain ⟨_, A, c, rfl, hx⟩ := hu
  clear hx
  go_enter Try.func24, Try.ntmps24
  go_wp2_with fail
  refine (FunOk_any f _ _ Z (HF.out.keep (Kept.below ((Below.refl _ _).alloc (Nat.le_refl _) _) hD)) (fun b hb => by have := hD b hb; simp; omega) hn).mono ?_
  rintro e w1 ⟨r, rfl, hr, hb1⟩
  have HR := Lib.hid hr
  have HB1 := Lib.hid (hb1.mono (B' := w.heap.size + 1) (by simp))
  have HB01 : Hid (Below w.heap.size w w1) := ((Below.refl _ _).alloc (Nat.le_refl _) _).trans (HB1.out.mono (by omega))
  have hz1 : w.heap.size + 1 ≤ w1.heap.size := by have := hb1.size; simp at this; omega
  obtain ⟨hc1, hf1⟩ := bcellB HB1.out
  clear hb1 hf1 hr
  cases r
  · have HN : Hid (¬ FunP f) := fun h => by have := HR.out.2 h; cases this
    go_wp2_with fail
    go_ret
    exact ⟨[], _, rfl, .inr ⟨HN.out, rfl⟩, OE_lit0 _ rfl (by omega), HB01.out.alloc (by omega) _⟩
  have HP := Lib.hid (HR.out.1 rfl)
  clear HR
  have h1n := HP.out.1.1.1
  have h40 := HP.out.1.1.2
  go_wp2_with fail
  refine (allEdges_any _ _ _ _).mono ?_
  rintro e w2 ⟨rfl, rfl⟩
  have hB2 : Below w.heap.size w (w1.alloc (.cells #[.slice A f.blocks.length c] 24)) := HB01.out.alloc (by omega) _
  have HC := Lib.hid (Collect_any w1.heap.size f.blocks A c Z (w1.alloc (.cells #[.slice A f.blocks.length c] 24)) (by omega) (targets_of HP.out) (fun b hb => by have := hD b hb; simp; omega) (by simp) (Boxed.new w1 _ _).cell (HF.out.row.keep (Kept.below hB2 hD) fun _ _ h => h.keep (Kept.below hB2 hD)))
  have HB2 := Lib.hid hB2
  clear hB2 hc1
  go_wp2_with fail
  refine HC.out.mono ?_
  rintro e w3 ⟨r3, rfl, hr3, hb3⟩
  have HB03 := Lib.hid (HB2.out.trans (hb3.mono (by simp; omega)))
  have HR3 := Lib.hid hr3
  clear hb3 hr3 HC
  go_wp2_with fail
  go_ret
  exact ⟨_, _, rfl, .inl ⟨HP.out, rfl⟩, World.ownsRow.mono HR3.out (by simp; omega), HB03.out⟩

set_option maxRecDepth 10000 in
set_option maxHeartbeats 1000000 in
theorem sEdgesOf_any (f : FunD) (v : Value) (w : World) (Z : Zn) (hv : EFun w Z f v) (hD : ∀ b, Z.D b → b < w.heap.size) (hn : f.blocks.length ≤ 1048576) : Calls Try.prog 25 #[v] w (GivesEdges f w) := by
  have HF := Lib.hid hv
  obtain ⟨u, rfl, hu⟩ := hv
  obtain ⟨_, A, c, rfl, hx⟩ := hu
  clear hx
  go_enter Try.func25, Try.ntmps25
  go_wp2_with fail
  refine (sFunOk_any f _ _ Z (HF.out.keep (Kept.below ((Below.refl _ _).alloc (Nat.le_refl _) _) hD)) (fun b hb => by have := hD b hb; simp; omega) hn).mono ?_
  rintro e w1 ⟨r, rfl, hr, hb1⟩
  have HR := Lib.hid hr
  have HB1 := Lib.hid (hb1.mono (B' := w.heap.size + 1) (by simp))
  have HB01 : Hid (Below w.heap.size w w1) := ((Below.refl _ _).alloc (Nat.le_refl _) _).trans (HB1.out.mono (by omega))
  have hz1 : w.heap.size + 1 ≤ w1.heap.size := by have := hb1.size; simp at this; omega
  obtain ⟨hc1, hf1⟩ := bcellB HB1.out
  clear hb1 hf1 hr
  cases r
  · have HN : Hid (¬ FunP f) := fun h => by have := HR.out.2 h; cases this
    go_wp2_with fail
    go_ret
    exact ⟨[], _, rfl, .inr ⟨HN.out, rfl⟩, OE_lit0 _ rfl (by omega), HB01.out.alloc (by omega) _⟩
  have HP := Lib.hid (HR.out.1 rfl)
  clear HR
  have h1n := HP.out.1.1.1
  have h40 := HP.out.1.1.2
  go_wp2_with fail
  refine (l3Edges_any f _ _ Z (HF.out.keep (Kept.below HB01.out hD)) (fun b hb => by have := hD b hb; omega) (by omega)).mono ?_
  rintro e w3 ⟨r3, rfl, hr3, hb3⟩
  have HB03 := Lib.hid (HB01.out.trans (hb3.mono (by omega)))
  have HR3 := Lib.hid hr3
  clear hb3 hr3 hc1
  go_wp2_with fail
  go_ret
  exact ⟨_, _, rfl, .inl ⟨HP.out, rfl⟩, World.ownsRow.mono HR3.out (by omega), HB03.out⟩
end

/- A set of edges, held as a map from edges to bools. -/
section
open Go.ChangeShapes Go.WideShapes Go.ChangeAt Go.RowKit Go.Joins Go.Maps

theorem lawE : Keyed Try.prog 51 := Keyed.of_law (deep_law_laid Try.laidOut (m := 2) (by decide) (of_decide_eq_true (by kernel_rfl)) (by kernel_rfl) (by kernel_rfl))

def wf64 (a : Int) : Prop := (Lit.int .i64 a).wf = true
def klE (a b : Int) : Lit := .string (keyBytes [.int .i64 a, .int .i64 b])
theorem keyLits_i64 (d : Nat) {a : Int} (wa : wf64 a) : Try.prog.keyLits (d + 1) 2 [.int .i64 a] = some [.int .i64 a] := by
  unfold Program.keyLits
  simp only [Try.underlying2]
  rw [if_pos ⟨trivial, wa⟩]
theorem cells_edge : Try.prog.cellsOf 51 = 2 := by kernel_rfl
theorem cells_i64 : Try.prog.cellsOf 2 = 1 := by kernel_rfl
theorem keyOf_edge {a b : Int} (wa : wf64 a) (wb : wf64 b) : keyOf Try.prog 51 (.agg #[.int .i64 a, .int .i64 b]) = some (klE a b) := by
  obtain ⟨m, hm⟩ : ∃ m, Try.prog.types.size = m + 1 := ⟨Try.prog.types.size - 1, by have : 0 < Try.prog.types.size := of_decide_eq_true (by kernel_rfl); omega⟩
  have hkt : Try.prog.keyType 51 = true := by kernel_rfl
  unfold keyOf
  simp only [Try.underlying51]
  rw [if_pos (by simp [hkt, Value.formed, Try.underlying51, cells_edge]), hm]
  unfold Program.keyLits
  simp only [Try.underlying51, Value.cells]
  rw [if_pos (by rw [cells_edge]; exact ⟨rfl, by kernel_rfl⟩)]
  simp [List.mapM_cons, List.mapM_nil, cells_i64, keyLits_i64 m wa, keyLits_i64 m wb, klE]
theorem klE_inj {a b c d : Int} (wa : wf64 a) (wb : wf64 b) (wc : wf64 c) (wd : wf64 d) (h : klE a b = klE c d) : a = c ∧ b = d := by
  have := lawE.inj (keyOf_edge wa wb) (h ▸ keyOf_edge wc wd)
  injection this with this
  have h0 := congrArg (fun l : Array Value => l[0]?) this
  have h1 := congrArg (fun l : Array Value => l[1]?) this
  simp at h0 h1
  exact ⟨h0, h1⟩

def hasE (xs : List MoveD) (a b : Int) : Bool := xs.any fun e => e.dst == a && e.src == b
theorem hasE_snoc (xs : List MoveD) (x : MoveD) (a b : Int) : hasE (xs ++ [x]) a b = (hasE xs a b || (x.dst == a && x.src == b)) := by simp [hasE]

/-- The map's datum tells which edges are in it. -/
def AtK (D : DataW Unit) (xs : List MoveD) : Prop := IsMap D ∧ ∀ a b, wf64 a → wf64 b → D.atKey (klE a b) (.lit (.bool false)) = .lit (.bool (hasE xs a b))
theorem AtK.nil : AtK (.map []) [] := ⟨⟨_, rfl⟩, fun _ _ _ _ => rfl⟩
theorem AtK.put {D : DataW Unit} {xs : List MoveD} (h : AtK D xs) {x : MoveD} (w1 : wf64 x.dst) (w2 : wf64 x.src) : AtK (D.put (klE x.dst x.src) (.lit (.bool true))) (xs ++ [x]) := by
  obtain ⟨⟨es, rfl⟩, h2⟩ := h
  refine ⟨⟨_, rfl⟩, fun a b wa wb => ?_⟩
  rw [hasE_snoc]
  by_cases e : klE a b = klE x.dst x.src
  · obtain ⟨rfl, rfl⟩ := klE_inj wa wb w1 w2 e
    rw [atKey_put_same ⟨_, rfl⟩ (lawE.key (keyOf_edge w1 w2))]
    simp
  · rw [atKey_put_other e, h2 a b wa wb]
    have : (x.dst == a && x.src == b) = false := by
      by_cases e1 : x.dst = a
      · by_cases e2 : x.src = b
        · exact absurd (by rw [e1, e2]) e
        · simp [e2]
      · simp [e1]
    rw [this, Bool.or_false]

/-- Block B is a map of at most n entries, and it holds the edges xs. -/
def MapE (w : World) (B n : Nat) (xs : List MoveD) : Prop := ∃ D : DataW Unit, w.ownsMap Try.prog 51 (plainElem Try.prog 4) B n D ∧ AtK D xs
theorem MapE.made (w : World) : MapE (w.alloc (.map #[] 0)) w.heap.size 0 [] := ⟨_, World.ownsMap_made _ _ _ _, AtK.nil⟩
theorem MapE.kept {w w' : World} {B n : Nat} {xs : List MoveD} {row : Option Nat} (h : MapE w B n xs) (hg : w.grownBy w' row) (hne : some B ≠ row) : MapE w' B n xs := by
  obtain ⟨D, h1, h2⟩ := h
  exact ⟨D, h1.kept hg hne, h2⟩
theorem MapE.mono {w : World} {B n n' : Nat} {xs : List MoveD} (h : MapE w B n xs) (hn : n ≤ n') : MapE w B n' xs := by
  obtain ⟨D, h1, h2⟩ := h
  exact ⟨D, h1.mono hn, h2⟩
theorem MapE.lt {w : World} {B n : Nat} {xs : List MoveD} (h : MapE w B n xs) : B < w.heap.size := by
  obtain ⟨D, h1, _⟩ := h
  exact h1.lt
theorem zero_bool (w : World) : (zeroValue 4).run Try.prog w = .ok (.bool false) w := Try.zeroValue4 w
set_option maxRecDepth 100000 in
theorem MapE.look {w : World} {B n : Nat} {xs : List MoveD} (h : MapE w B n xs) {a b : Int} (wa : wf64 a) (wb : wf64 b) :
    (Instr.lookup 88 (.map (some B)) (.agg #[.int .i64 a, .int .i64 b]) false).run Try.prog w = .ok (.bool (hasE xs a b)) w := by
  obtain ⟨D, h1, _, h2⟩ := h
  obtain ⟨v, ps, hrun, hv⟩ := h1.lookup lawE Try.underlying88 (zero_bool w) (plainElem_bool Try.underlying4 false) (keyOf_edge wa wb)
  rw [h2 a b wa wb] at hv
  have : v = .bool (hasE xs a b) := by
    unfold plainElem at hv
    rw [Try.underlying4] at hv
    cases v <;> simp at hv
    rw [hv.1]
  rw [this] at hrun
  exact hrun
end

end Go.Proofs.Yteikpekffgifoaa
