/- Crit, Crit2, Skip, joined. -/
import Derived.Test.YteikpekffgifoaaGr1
import Derived.Test.YteikpekffgifoaaGr19
import Derived.Deep.RegionHeld3
namespace Go.Proofs.Yteikpekffgifoaa

/- criticalEdges of the program. -/
section
open Go.ChangeShapes Go.WideShapes Go.ChangeAt Go.RowKit Go.Joins Go.Shelf Go.Maps

attribute [local go_sem] Oper.semAt_some

/-- Has its From more than one succ, its To more than one pred? -/
def isC (bs : List BlockD) (e : MoveD) : Bool := decide (1 < (scF bs e.dst).length) && decide (1 < (predsK succsE bs bs.length e.src).length)
def critL (bs : List BlockD) (es : List MoveD) : List MoveD := es.filter (isC bs)
theorem critL_snoc (bs : List BlockD) (es : List MoveD) (x : MoveD) : critL bs (es ++ [x]) = if isC bs x = true then critL bs es ++ [x] else critL bs es := by
  unfold critL
  rw [List.filter_append]
  by_cases h : isC bs x = true
  · rw [if_pos h]; simp [h]
  · rw [if_neg h]; simp [h]
theorem critL_len (bs : List BlockD) (es : List MoveD) : (critL bs es).length ≤ es.length := List.length_filter_le _ _

/-- An edge between blocks that are there. -/
def EIn (bs : List BlockD) (x : MoveD) : Prop := (0 ≤ x.dst ∧ x.dst < (bs.length : Int)) ∧ 0 ≤ x.src ∧ x.src < (bs.length : Int)
abbrev EdgeIn (bs : List BlockD) := { x : MoveD // EIn bs x }
theorem edges_stopsP (n Bs n₀ : Nat) (bs : List BlockD) (A : Option Addr) (c : Nat) (Z : Zn) (w : World) (hn : bs.length ≤ 1000) (ht : TargetsOk bs) (hn1 : 1 ≤ n) (hZ : ∀ b, Z.D b → b < n₀) (hn0 : n₀ ≤ w.heap.size) (hBl : Bs < w.heap.size) (hBs : w.cell? ⟨Bs, 0, none⟩ = some (.slice A bs.length c)) (hrow : Row w Z 8 (EBlock w Z) (.slice A bs.length c) bs) :
    SeqStopsK Fence.wide n Try.prog 89 #[.pointer (some ⟨Bs, 0, none⟩)] (fun x : EdgeIn bs => encE x.1) (EKp n₀) (fun ys => ys.map (·.1) = edgesOf bs) (fun _ => True) (2 * bs.length) w := fun l J Jx W hW hJ _ hY h0 => by
  refine (edges1_in n l Bs n₀ bs A c Z hn ht hn1 hZ (fun pre W => ∃ p : List (EdgeIn bs), p.map (·.1) = pre ∧ J p W) (fun pre W => ∃ p : List (EdgeIn bs), p.map (·.1) = pre ∧ Jx p W) W.heap.size (fun s A B row hs hg hr => ?_) (EIn bs) (fun k t hk htk => ?_) (fun pre x W1 hx hs hl => ?_) W (by have := hW.size; omega) ((hW.cell (p := ⟨Bs, 0, none⟩) hBl).trans hBs) (hrow.keep (Kept.below hW fun b hb => by have := hZ b hb; omega) fun _ _ h => h.keep (Kept.below hW fun b hb => by have := hZ b hb; omega)) ⟨[], rfl, h0⟩).mono ?_
  · obtain ⟨p, hp, hJp⟩ := hs
    exact ⟨p, hp, hJ p A B row hJp hg hr⟩
  · have := ht.sc k hk t htk
    exact ⟨⟨by show 0 ≤ (k : Int); omega, by show (k : Int) < _; omega⟩, this⟩
  · obtain ⟨p, rfl, hJp⟩ := hs
    rw [List.length_map] at hl
    refine (hY p ⟨x, hx⟩ W1 hJp hl).mono ?_
    rintro e W' (⟨he, hj, hk⟩ | ⟨he, hj⟩)
    · exact .inl ⟨he, ⟨_, by simp, hj⟩, hk⟩
    · exact .inr ⟨he, ⟨_, by simp, hj⟩⟩
  · rintro e W' ⟨he, ⟨ys, rfl, p, hp, hj⟩ | ⟨pre, _, p, hp, hj⟩⟩
    · exact ⟨he, .inl ⟨p, hp, hj⟩⟩
    · exact ⟨he, .inr ⟨p, trivial, hj⟩⟩

def GivesMap (bs : List BlockD) (w : World) (e : Ending) (w' : World) : Prop := ∃ mb n, e = .returned (.map (some mb)) ∧ MapE w' mb n (critL bs (edgesOf bs)) ∧ Below w.heap.size w w'

set_option maxRecDepth 100000 in
set_option maxHeartbeats 8000000 in
theorem criticalEdges_in (n : Nat) (bs : List BlockD) (v : Value) (Z : Zn) (w : World) (hn3 : 3 ≤ n) (hn : bs.length ≤ 1000) (ht : TargetsOk bs) (hZ : ∀ b, Z.D b → b < w.heap.size) (hrow : Row w Z 8 (EBlock w Z) v bs) :
    CallsIn Fence.wide n Try.prog 63 #[v] w (GivesMap bs w) := by
  have h1 : 1 ≤ n := by omega
  have HROW := Lib.hid hrow
  obtain ⟨_, A, c, rfl, hx⟩ := hrow
  have hmm := @run_makeMap Try.prog
  have hB1 : Below w.heap.size w (w.alloc (.cells #[.slice A bs.length c] 24)) := (Below.refl _ _).alloc (Nat.le_refl _) _
  have HP1 := Lib.hid (predsOfAll_any (.slice A bs.length c) bs (w.alloc (.cells #[.slice A bs.length c] 24)) Z (HROW.out.keep (Kept.below hB1 hZ) fun _ _ h => h.keep (Kept.below hB1 hZ)) (fun b hb => by have := hZ b hb; simp; omega) (by omega))
  have HB1 := Lib.hid hB1
  clear hB1
  refine callsIn_of_wp_marks Try.func63 rfl trivial ?_
  simp only [Try.ntmps63, List.size_toArray, List.length_cons, List.length_nil, Nat.reduceAdd, Nat.reduceSub, Array.replicate_succ, Array.replicate_zero, List.push_toArray, List.append_toArray, List.nil_append, List.cons_append]
  gi_wp2_with (first
    | (refine ⟨trivial, ?_⟩; gi_at_call 44; refine (callsIn_wide.2 HP1.out).mono ?_; rintro e w1 ⟨rfl, hp1, hb1⟩; have hbox := (Boxed.new w 24 (.slice A bs.length c)).kept (grown_none hb1) (by simp); have hc1 := hbox.cell; have hz1 : w.heap.size + 1 < w1.heap.size := (by have := hp1.lt; simp at this; omega); have hz1' : w.heap.size < w1.heap.size := (by omega); have hc3 := (((hbox.alloc (.cells #[.slice (some ⟨w.heap.size + 1, 0, none⟩) bs.length bs.length] 69)).alloc (.map #[] 0)).alloc (.cells #[.map (some (w1.heap.size + 1))] 88)).cell)
    | (refine ⟨trivial, ?_⟩; gi_at_call 60; refine (callsIn_wide.2 (allEdges_any _ _ _ _)).mono ?_; rintro e w2 ⟨rfl, hw2⟩))
  have hs0 : (w.alloc (.cells #[.slice A bs.length c] 24)).heap.size = w.heap.size + 1 := by simp
  rw [hs0] at hp1 hb1
  have hB2 : Below w1.heap.size w1 w2 := by
    rw [← hw2]
    exact ((((Below.refl _ w1).alloc (Nat.le_refl _) _).alloc (by simp) _).alloc (by simp; omega) _).alloc (by simp; omega) _
  have hsz : w2.heap.size = w1.heap.size + 1 + 1 + 1 + 1 := by rw [← hw2]; simp
  have bP : Boxed w2 w1.heap.size 69 (.slice (some ⟨w.heap.size + 1, 0, none⟩) bs.length bs.length) := by
    rw [← hw2]; exact (((Boxed.new w1 _ _).alloc _).alloc _).alloc _
  have hM : MapE w2 (w1.heap.size + 1) 0 [] := by
    rw [← hw2]
    have h := MapE.made (w1.alloc (.cells #[.slice (some ⟨w.heap.size + 1, 0, none⟩) bs.length bs.length] 69))
    rw [World.size_alloc] at h
    refine (h.kept (World.grownBy_alloc _ _ none) (by simp)).kept (World.grownBy_alloc _ _ none) (by simp)
  have bM : Boxed w2 (w1.heap.size + 1 + 1) 88 (.map (some (w1.heap.size + 1))) := by
    rw [← hw2]
    have h := Boxed.new ((w1.alloc (.cells #[.slice (some ⟨w.heap.size + 1, 0, none⟩) bs.length bs.length] 69)).alloc (.map #[] 0)) 88 (.map (some (w1.heap.size + 1)))
    rw [World.size_alloc, World.size_alloc] at h
    exact h.alloc _
  have bS : Boxed w2 (w1.heap.size + 1 + 1 + 1) 24 (.slice A bs.length c) := by
    rw [← hw2]
    have h := Boxed.new (((w1.alloc (.cells #[.slice (some ⟨w.heap.size + 1, 0, none⟩) bs.length bs.length] 69)).alloc (.map #[] 0)).alloc (.cells #[.map (some (w1.heap.size + 1))] 88)) 24 (.slice A bs.length c)
    rw [World.size_alloc, World.size_alloc, World.size_alloc] at h
    exact h
  have hb1' : Below w.heap.size w w1 := HB1.out.trans (hb1.mono (by omega))
  have hB02 : Below w.heap.size w w2 := hb1'.trans (hB2.mono (by omega))
  have bB := hbox.kept (grown_none hB2) (by simp)
  have hP2 := hp1.below hB2
  have hrow2 : Row w2 Z 8 (EBlock w2 Z) (.slice A bs.length c) bs := HROW.out.keep (Kept.below hB02 hZ) fun _ _ h => h.keep (Kept.below hB02 hZ)
  have HSUF := Lib.hid ht
  clear hw2 hc3 hc1 hbox hb1 hp1 HP1 HROW hmm hb1'
  refine wpIn_rangeFunc_ownH rfl h1 (gf := 89) (lb := #[.pointer (some ⟨w1.heap.size + 1 + 1 + 1, 0, none⟩)]) rfl trivial (enters_of Try.func89 (by kernel_rfl) rfl)
    (edges_stopsP (n - 1) (w1.heap.size + 1 + 1 + 1) w.heap.size bs A c Z w2 hn ht (by omega) hZ (by omega) (by omega) bS.cell hrow2) EKp.t (EKp.b (by omega)) (Below.refl _ _) (fun _ => rfl)
    (fun pre W => (Boxed W (w1.heap.size + 1 + 1) 88 (.map (some (w1.heap.size + 1))) ∧ MapE W (w1.heap.size + 1) pre.length (critL bs (pre.map (·.1)))) ∧ Below (w1.heap.size + 1) w2 W)
    (fun _ _ _ => False)
    (OwnFrom.and (OwnFrom.and (Own.from (boxed_own _ _ _) _) (fun s X Y row hs hg hr => hs.kept hg (fun e => by have := (hr _ e.symm).1; omega))) (ownFrom_below (by omega) (by omega)))
    (fun _ _ _ _ _ hs _ _ => hs)
    ⟨⟨bM, hM⟩, Below.refl _ _⟩
    (fun x a' W => ∃ Bx, w1.heap.size + 1 + 1 + 1 < Bx ∧ BoxE W Bx x.1 ∧ a' = { tmps := #[.slice A bs.length c, .pointer (some ⟨w.heap.size, 0, none⟩), .map none, .pointer (some ⟨w1.heap.size, 0, none⟩), .pointer (some ⟨w1.heap.size + 1 + 1, 0, none⟩), .pointer (some ⟨Bx, 0, none⟩), .slice A bs.length c, .slice (some ⟨w.heap.size + 1, 0, none⟩) bs.length bs.length, .map (some (w1.heap.size + 1)), .slice A bs.length c, .func (.func 89) #[] #[.pointer (some ⟨w1.heap.size + 1 + 1 + 1, 0, none⟩)], .agg #[.int .i64 x.1.dst, .int .i64 x.1.src], undef, undef, undef, undef, undef, undef, undef, undef, undef, undef, undef, undef, undef, undef, undef, undef, undef, undef, undef, undef, undef], defers := [] })
    (fun x a' _ X Y row hs hg hr => by obtain ⟨Bx, h1, h2, h3⟩ := hs; exact ⟨Bx, h1, boxE_own Bx (fun (_ : Unit) => x.1) () X Y row h2 hg (fun r e => (hr r e).2), h3⟩)
    ?assign ?body ?done ?stop
  case assign =>
    rintro l pre x W K ⟨⟨hbM, hMM⟩, hB⟩ hK
    simp only [encE]
    gi_wp2
    have hsW := hB.size
    exact hK _ _ ((KeepsOthers.alloc _ _).from _) ⟨(Below.refl _ W).alloc (by omega) _, IntsKept.below ((Below.refl _ W).alloc (Nat.le_refl _) _)⟩ ⟨⟨hbM.alloc _, hMM.kept (World.grownBy_alloc _ _ none) (by simp)⟩, hB.alloc (by omega) _⟩ ⟨W.heap.size, by omega, heap_alloc_new W _, rfl⟩
  case body =>
    rintro l pre x a' W hl ⟨r, hr⟩ ⟨⟨hbM, hMM⟩, hB⟩ ⟨Bx, hBx, bX, rfl⟩ hlt
    have hxC := critL_snoc bs (pre.map (·.1)) x.1
    have hpm : (pre ++ [x]).map (·.1) = pre.map (·.1) ++ [x.1] := by simp
    have hpl : (pre ++ [x]).length = pre.length + 1 := by simp
    obtain ⟨⟨p, q⟩, ⟨hp0, hpN⟩, hq0, hqN⟩ := x
    simp only at hp0 hpN hq0 hqN bX hxC hpm
    obtain ⟨k, rfl⟩ : ∃ k : Nat, p = k := ⟨p.toNat, by omega⟩
    obtain ⟨m, rfl⟩ : ∃ m : Nat, q = m := ⟨q.toNat, by omega⟩
    have hk : k < bs.length := by omega
    have hm : m < bs.length := by omega
    have hsW := hB.size
    have hcB : W.cell? ⟨w.heap.size, 0, none⟩ = some (.slice A bs.length c) := (hB.cell (p := ⟨w.heap.size, 0, none⟩) (by show w.heap.size < w1.heap.size + 1; omega)).trans bB.cell
    have hcP : W.cell? ⟨w1.heap.size, 0, none⟩ = some (.slice (some ⟨w.heap.size + 1, 0, none⟩) bs.length bs.length) := (hB.cell (p := ⟨w1.heap.size, 0, none⟩) (by show w1.heap.size < w1.heap.size + 1; omega)).trans bP.cell
    have hcM := hbM.cell
    have x0 := bX.cells.1
    have x1 := bX.cells.2
    obtain ⟨pv, hpv, hpo⟩ := hP2.get hm
    have hpc : W.cell? ⟨w.heap.size + 1, m, none⟩ = some pv := (hB.cell (p := ⟨w.heap.size + 1, _, none⟩) (by show w.heap.size + 1 < w1.heap.size + 1; omega)).trans hpv
    obtain ⟨_, Ap, cp, rfl, _⟩ := hpo.ri
    have hxk : bs[k]? = some bs[k] := List.getElem?_eq_getElem hk
    generalize bs[k] = y at hxk
    obtain ⟨b, off, rfl, hDb, hrow⟩ := hx (by rintro rfl; simp at hk)
    obtain ⟨cs, hE, hcs⟩ := hrow k y hxk
    have hbl := hZ b hDb
    obtain ⟨_, _, _, _, rfl, _⟩ := hE
    have hWb : ∀ o' u', w.cell? ⟨b, o', none⟩ = some u' → W.cell? ⟨b, o', none⟩ = some u' := fun o' u' h => (hB.cell (p := ⟨b, o', none⟩) (by show b < w1.heap.size + 1; omega)).trans ((hB02.cell (p := ⟨b, o', none⟩) hbl).trans h)
    have c4 := hWb _ _ (hcs 4 _ rfl).1
    have c5 : W.cell? ⟨b, off + k * 8 + 4 + 1, none⟩ = some (.int .i64 y.fin.a) := hWb _ _ (hcs 5 _ rfl).1
    have c6 : W.cell? ⟨b, off + k * 8 + 4 + 2, none⟩ = some (.int .i64 y.fin.t) := hWb _ _ (hcs 6 _ rfl).1
    have c7 : W.cell? ⟨b, off + k * 8 + 4 + 3, none⟩ = some (.int .i64 y.fin.l) := hWb _ _ (hcs 7 _ rfl).1
    have HSU := Lib.hid (HSUF.out.succs hxk)
    have hwk : wf64 (k : Int) := WalkArith.wf_i64 (by omega)
    have hwm : wf64 (m : Int) := WalkArith.wf_i64 (by omega)
    have HXC := Lib.hid hxC
    have HPM := Lib.hid hpm
    have HPL := Lib.hid hpl
    have hisC : isC bs ⟨(k : Int), (m : Int)⟩ = (decide (1 < (scF bs k).length) && decide (1 < (predsK succsE bs bs.length m).length)) := rfl
    have HIS := Lib.hid hisC
    have hnl : pre.length < maxLen := by rw [maxLen_is]; omega
    have hbxW := (Array.getElem?_eq_some_iff.1 bX).1
    have HBX := Lib.hid bX
    have HMM := Lib.hid hMM
    have HBM := Lib.hid hbM
    have HBW := Lib.hid hB
    clear hcs hrow hx hxk hWb hxC hpm hpl hisC hpv hpo hP2 bB bP bM bS hM hrow2 hr hMM
    have h1' : 1 ≤ n - 1 - 1 := by omega
    by_cases h1s : 1 < (scF bs k).length
    case neg =>
      have hg1 : decide (1 < (succsL y.fin.k y.fin.a y.fin.t y.fin.l).length) = false := by rw [HSU.out]; simpa using h1s
      have hg1' : decide ((1 : Int) < ((succsL y.fin.k y.fin.a y.fin.t y.fin.l).length : Int)) = false := by rw [HSU.out]; simp; omega
      have HNC : Hid (isC bs ⟨(k : Int), (m : Int)⟩ = false) := by rw [Hid, HIS.out]; simp [h1s]
      clear h1s
      gi_wp2_with (refine ⟨trivial, ?_⟩; gi_at_call 15; refine (CallsIn.inRound l (callsIn_wide.2 (SuccsOf_any _ _ _ _ _))).mono ?_; rintro e w3 ⟨r3, rfl, hr3, hb3⟩; obtain ⟨_, A5, c5', rfl, hx5⟩ := hr3.ri; clear hx5)
      have hM3 := (HMM.out.kept (grown_none hb3) (show some (w1.heap.size + 1) ≠ none by simp)).mono (show pre.length ≤ pre.length + 1 by omega)
      have hC3 := HXC.out
      rw [HNC.out, if_neg (by decide)] at hC3
      rw [← hC3, ← HPM.out, ← HPL.out] at hM3
      have hK3 : KeepsFrom w2.heap.size W w3 := KeepsFrom.of_grownBy (grown_none hb3) (fun _ e => by cases e)
      have hb3' : Below w.heap.size W w3 := hb3.mono (by omega)
      have hb3'' : Below (w1.heap.size + 1) w2 w3 := HBW.out.trans (hb3.mono (by omega))
      have hbM3 := HBM.out.kept (grown_none hb3) (show some (w1.heap.size + 1 + 1) ≠ none by simp)
      exact ⟨hK3, ⟨hb3', IntsKept.below hb3⟩, ⟨hbM3, hM3⟩, hb3''⟩
    have hg1 : decide (1 < (succsL y.fin.k y.fin.a y.fin.t y.fin.l).length) = true := by rw [HSU.out]; simpa using h1s
    have hg1' : decide ((1 : Int) < ((succsL y.fin.k y.fin.a y.fin.t y.fin.l).length : Int)) = true := by rw [HSU.out]; simp; omega
    by_cases h2s : 1 < (predsK succsE bs bs.length m).length
    case neg =>
      have hg2 : decide (1 < (predsK succsE bs bs.length m).length) = false := by simpa using h2s
      have hg2' : decide ((1 : Int) < ((predsK succsE bs bs.length m).length : Int)) = false := by simp; omega
      have HNC : Hid (isC bs ⟨(k : Int), (m : Int)⟩ = false) := by rw [Hid, HIS.out]; simp [h2s]
      clear h1s h2s
      gi_wp2_with (refine ⟨trivial, ?_⟩; gi_at_call 15; refine (CallsIn.inRound l (callsIn_wide.2 (SuccsOf_any _ _ _ _ _))).mono ?_; rintro e w3 ⟨r3, rfl, hr3, hb3⟩; obtain ⟨_, A5, c5', rfl, hx5⟩ := hr3.ri; clear hx5; have g1 := (hb3.cell (p := ⟨w1.heap.size, 0, none⟩) (show w1.heap.size < W.heap.size by omega)).trans hcP; have g2 := (hb3.cell (p := ⟨Bx, 1, none⟩) hbxW).trans x1; have g3 := (hb3.cell (p := ⟨Bx, 0, none⟩) hbxW).trans x0; have g4 := (hb3.cell (p := ⟨w.heap.size + 1, m, none⟩) (show w.heap.size + 1 < W.heap.size by omega)).trans hpc; have g5 := (hb3.cell (p := ⟨w1.heap.size + 1 + 1, 0, none⟩) (show w1.heap.size + 1 + 1 < W.heap.size by omega)).trans hcM)
      have hM3 := (HMM.out.kept (grown_none hb3) (show some (w1.heap.size + 1) ≠ none by simp)).mono (show pre.length ≤ pre.length + 1 by omega)
      have hC3 := HXC.out
      rw [HNC.out, if_neg (by decide)] at hC3
      rw [← hC3, ← HPM.out, ← HPL.out] at hM3
      have hK3 : KeepsFrom w2.heap.size W w3 := KeepsFrom.of_grownBy (grown_none hb3) (fun _ e => by cases e)
      have hb3' : Below w.heap.size W w3 := hb3.mono (by omega)
      have hb3'' : Below (w1.heap.size + 1) w2 w3 := HBW.out.trans (hb3.mono (by omega))
      have hbM3 := HBM.out.kept (grown_none hb3) (show some (w1.heap.size + 1 + 1) ≠ none by simp)
      exact ⟨hK3, ⟨hb3', IntsKept.below hb3⟩, ⟨hbM3, hM3⟩, hb3''⟩
    have hg2 : decide (1 < (predsK succsE bs bs.length m).length) = true := by simpa using h2s
    have hg2' : decide ((1 : Int) < ((predsK succsE bs bs.length m).length : Int)) = true := by simp; omega
    have HNC : Hid (isC bs ⟨(k : Int), (m : Int)⟩ = true) := by rw [Hid, HIS.out]; simp [h1s, h2s]
    clear h1s h2s
    gi_wp2_with (first
      | (refine ⟨trivial, ?_⟩; gi_at_call 15; refine (CallsIn.inRound l (callsIn_wide.2 (SuccsOf_any _ _ _ _ _))).mono ?_; rintro e w3 ⟨r3, rfl, hr3, hb3⟩; obtain ⟨_, A5, c5', rfl, hx5⟩ := hr3.ri; clear hx5; have g1 := (hb3.cell (p := ⟨w1.heap.size, 0, none⟩) (show w1.heap.size < W.heap.size by omega)).trans hcP; have g2 := (hb3.cell (p := ⟨Bx, 1, none⟩) hbxW).trans x1; have g3 := (hb3.cell (p := ⟨Bx, 0, none⟩) hbxW).trans x0; have g4 := (hb3.cell (p := ⟨w.heap.size + 1, m, none⟩) (show w.heap.size + 1 < W.heap.size by omega)).trans hpc; have g5 := (hb3.cell (p := ⟨w1.heap.size + 1 + 1, 0, none⟩) (show w1.heap.size + 1 + 1 < W.heap.size by omega)).trans hcM; obtain ⟨D3, hown3, hat3⟩ := HMM.out.kept (grown_none hb3) (by simp); have HAT3 := Lib.hid hat3; clear hat3)
      | (gi_at_mapUpdate; refine wpListIn_mapUpdate_own _ rfl _ _ _ 88 rfl 51 4 lawE Try.underlying88 _ (w1.heap.size + 1) pre.length _ rfl hown3 hnl _ _ _ rfl rfl (keyOf_edge hwk hwm) _ [] (plainElem_bool Try.underlying4 true) ?_; intro w4 hown4 hgr4))
    have hb34 : Below (w1.heap.size + 1) W w4 := (hb3.mono (by omega)).grown hgr4 (by have := hb3.size; omega) (fun j e => by injection e with e; omega)
    have hik4 : IntsKept w3 w4 := fun i cur fz hi => hgr4.block i (Array.getElem?_eq_some_iff.1 hi).1 (by
      intro e
      injection e with e
      subst e
      obtain ⟨es, clock, hm3, _⟩ := hown3
      rw [hi] at hm3
      cases hm3)
    have hM4 : MapE w4 (w1.heap.size + 1) (pre.length + 1) (critL bs (pre.map (·.1)) ++ [⟨(k : Int), (m : Int)⟩]) := ⟨_, hown4, HAT3.out.put (x := ⟨(k : Int), (m : Int)⟩) hwk hwm⟩
    have hC3 := HXC.out
    rw [HNC.out, if_pos rfl] at hC3
    rw [← hC3, ← HPM.out, ← HPL.out] at hM4
    have hK3 : KeepsFrom w2.heap.size W w4 := (KeepsFrom.of_grownBy (grown_none hb3) (fun _ e => by cases e)).trans (KeepsFrom.of_grownBy hgr4 (fun j e => by injection e with e; omega))
    have hb4' : Below w.heap.size W w4 := hb34.mono (by omega)
    have hb4'' : Below (w1.heap.size + 1) w2 w4 := HBW.out.trans hb34
    have hbM4 := (HBM.out.kept (grown_none hb3) (show some (w1.heap.size + 1 + 1) ≠ none by simp)).kept hgr4 (by intro e; injection e with e; omega)
    exact ⟨hK3, ⟨hb4', (IntsKept.below hb3).trans hik4⟩, ⟨hbM4, hM4⟩, hb4''⟩
  case done =>
    rintro D ys W hD hys ⟨⟨hbM, hMM⟩, hB⟩ hK
    have hc := hbM.cell
    gi_wp2
    refine ⟨by simp, .inl ⟨_, _, rfl, run_takeDeferred hK, ?_⟩⟩
    refine ⟨_, results_tmp rfl _ _ _, w1.heap.size + 1, ys.length, rfl, ?_, ?_⟩
    · rw [hys] at hMM
      exact hMM.kept (grownBy_putObj' _ D (.deferred none)) (by have := hMM.lt; intro e; injection e with e; omega)
    · exact (hB02.trans (hB.mono (by omega))).trans (belowK_b (w := w) (Nat.le_refl _) W D _ _ (by omega) hK rfl rfl)
  case stop =>
    rintro D c pre W _ _ h _
    exact h.elim
end

/- Critical of the program. -/
section
open Go.ChangeShapes Go.WideShapes Go.ChangeAt Go.RowKit Go.Joins Go.Maps

theorem criticalEdges_any (bs : List BlockD) (v : Value) (Z : Zn) (w : World) (hn : bs.length ≤ 1000) (ht : TargetsOk bs) (hZ : ∀ b, Z.D b → b < w.heap.size) (hrow : Row w Z 8 (EBlock w Z) v bs) :
    Calls Try.prog 63 #[v] w (GivesMap bs w) := (callsIn_wide (n := 3)).1 (criticalEdges_in 3 bs v Z w (Nat.le_refl _) hn ht hZ hrow)

theorem FunOk_yes {f : FunD} (hp : FunP f) (v : Value) (w : World) (Z : Zn) (hv : EFun w Z f v) (hD : ∀ b, Z.D b → b < w.heap.size) : Calls Try.prog 10 #[v] w fun e w' => e = .returned (.bool true) ∧ Below w.heap.size w w' :=
  (FunOk_any f v w Z hv hD (by have := hp.1.1.2; omega)).mono fun _ _ ⟨r, he, hr, hb⟩ => ⟨by rw [he, hr.2 hp], hb⟩
theorem FunOk_no {f : FunD} (hp : ¬ FunP f) (hn : f.blocks.length ≤ 1048576) (v : Value) (w : World) (Z : Zn) (hv : EFun w Z f v) (hD : ∀ b, Z.D b → b < w.heap.size) : Calls Try.prog 10 #[v] w fun e w' => e = .returned (.bool false) ∧ Below w.heap.size w w' :=
  (FunOk_any f v w Z hv hD hn).mono fun _ _ ⟨r, he, hr, hb⟩ => ⟨by rw [he]; cases r with
    | false => rfl
    | true => exact absurd (hr.1 rfl) hp, hb⟩

/-- Is it critical? -/
def critB (f : FunD) (a b : Int) : Bool := hasE (critL f.blocks (edgesOf f.blocks)) a b
def CritRes (f : FunD) (a b : Int) (r : Bool) : Prop := (FunP f ∧ r = critB f a b) ∨ (¬ FunP f ∧ r = false)
theorem CritRes.one {f : FunD} {a b : Int} {r s : Bool} (h : CritRes f a b r) (k : CritRes f a b s) : r = s := by
  rcases h with ⟨h1, rfl⟩ | ⟨h1, rfl⟩ <;> rcases k with ⟨k1, rfl⟩ | ⟨k1, rfl⟩
  · rfl
  · exact absurd h1 k1
  · exact absurd k1 h1
  · rfl
def GivesCrit (f : FunD) (a b : Int) (w : World) (e : Ending) (w' : World) : Prop := ∃ r, e = .returned (.bool r) ∧ CritRes f a b r ∧ Below w.heap.size w w'

set_option maxRecDepth 100000 in
set_option maxHeartbeats 4000000 in
theorem Critical_any (f : FunD) (v : Value) (a b : Int) (w : World) (Z : Zn) (hv : EFun w Z f v) (hD : ∀ b, Z.D b → b < w.heap.size) (hn : f.blocks.length ≤ 1048576) (wa : wf64 a) (wb : wf64 b) :
    Calls Try.prog 28 #[v, .agg #[.int .i64 a, .int .i64 b]] w (GivesCrit f a b w) := by
  have HF := Lib.hid hv
  obtain ⟨u, rfl, hu⟩ := hv
  obtain ⟨_, A, c, rfl, hx⟩ := hu
  clear hx
  obtain ⟨w0, hw0⟩ : ∃ w0, w0 = (w.alloc (.cells #[.int .i64 f.params, .int .i64 f.names, .slice A f.blocks.length c] 26)).alloc (.cells #[.int .i64 a, .int .i64 b] 51) := ⟨_, rfl⟩
  have hB0 : Below w.heap.size w w0 := by rw [hw0]; exact ((Below.refl _ _).alloc (Nat.le_refl _) _).alloc (by simp) _
  have hs0 : w0.heap.size = w.heap.size + 1 + 1 := by rw [hw0]; simp
  have hf : w0.heap[w.heap.size]? = some (.cells #[.int .i64 f.params, .int .i64 f.names, .slice A f.blocks.length c] 26 (0, 0)) := by
    rw [hw0, Below.heap_alloc _ _ _ (by simp)]; exact heap_alloc_new w _
  have he : w0.heap[w.heap.size + 1]? = some (.cells #[.int .i64 a, .int .i64 b] 51 (0, 0)) := by
    have := heap_alloc_new (w.alloc (.cells #[.int .i64 f.params, .int .i64 f.names, .slice A f.blocks.length c] 26)) (.cells #[.int .i64 a, .int .i64 b] 51)
    rw [World.size_alloc] at this
    rw [hw0]; exact this
  have keepS : ∀ w7 : World, Below w0.heap.size w0 w7 → (fun w' => w'.cell? ⟨w.heap.size, 0, none⟩ = some (.int .i64 f.params) ∧ w'.cell? ⟨w.heap.size, 1, none⟩ = some (.int .i64 f.names) ∧ w'.cell? ⟨w.heap.size, 2, none⟩ = some (.slice A f.blocks.length c) ∧ w'.cell? ⟨w.heap.size + 1, 0, none⟩ = some (.int .i64 a) ∧ w'.cell? ⟨w.heap.size + 1, 1, none⟩ = some (.int .i64 b)) w7 := fun w7 hb => ⟨cell_of_row w7 _ 0 _ _ (0, 0) ((hb.block _ (by omega)).trans hf), cell_of_row w7 _ 1 _ _ (0, 0) ((hb.block _ (by omega)).trans hf), cell_of_row w7 _ 2 _ _ (0, 0) ((hb.block _ (by omega)).trans hf), cell_of_row w7 _ 0 _ _ (0, 0) ((hb.block _ (by omega)).trans he), cell_of_row w7 _ 1 _ _ (0, 0) ((hb.block _ (by omega)).trans he)⟩
  have K := keepS _ (Below.refl _ _).drew
  have HB0 := Lib.hid hB0
  have HW0 := Lib.hid hw0
  obtain ⟨k0, k1, k2, k3, k4⟩ := K
  have K := keepS _ (Below.refl _ _).drew
  clear hf he hB0 hw0
  by_cases hp : FunP f
  · have HP := Lib.hid hp
    have h1n := hp.1.1.1
    have h40 := hp.1.1.2
    clear hp
    go_enter Try.func28, Try.ntmps28
    go_wp2_with fail
    rw [← HW0.out]
    go_region_held3 (fun w' => w'.cell? ⟨w.heap.size, 0, none⟩ = some (.int .i64 f.params) ∧ w'.cell? ⟨w.heap.size, 1, none⟩ = some (.int .i64 f.names) ∧ w'.cell? ⟨w.heap.size, 2, none⟩ = some (.slice A f.blocks.length c) ∧ w'.cell? ⟨w.heap.size + 1, 0, none⟩ = some (.int .i64 a) ∧ w'.cell? ⟨w.heap.size + 1, 1, none⟩ = some (.int .i64 b)) (first | exact K | exact K5 | exact K6 | fail)
      (first
      | (go_at_call 10; refine (FunOk_yes HP.out _ _ Z (HF.out.keep (Kept.below HB0.out.drew hD)) (fun b hb => by have := hD b hb; show b < w0.heap.size; omega)).mono ?_; rintro e w5 ⟨rfl, hb5⟩; have K5 := keepS w5 ((Below.refl _ w0).drew.trans hb5); have HB5 : Hid (Below w0.heap.size w0 w5) := (Below.refl _ w0).drew.trans hb5; clear hb5)
      | (go_at_call 63; refine (criticalEdges_any f.blocks _ Z _ (by omega) (targets_of HP.out) (fun b hb => by have h1 := hD b hb; have h2 := HB5.out.size; omega) (HF.out.row.keep (Kept.below (HB0.out.trans (HB5.out.mono (by omega))) hD) fun _ _ h => h.keep (Kept.below (HB0.out.trans (HB5.out.mono (by omega))) hD))).mono ?_; rintro e w6 ⟨mb, nn, rfl, hm6, hb6⟩; have K6 := keepS w6 (HB5.out.trans (hb6.mono HB5.out.size)); have HB6 : Hid (Below w0.heap.size w0 w6) := HB5.out.trans (hb6.mono HB5.out.size); have hlk := hm6.look wa wb; clear hm6 hb6)
      | fail)
    go_wp2_with fail
    go_ret
    exact ⟨_, rfl, .inl ⟨HP.out, rfl⟩, HB0.out.trans (HB6.out.mono (by omega))⟩
  · have HP := Lib.hid hp
    clear hp
    go_enter Try.func28, Try.ntmps28
    go_wp2_with fail
    rw [← HW0.out]
    first
    | go_region_with (first | (go_at_call 10; refine (FunOk_no HP.out hn _ _ Z (HF.out.keep (Kept.below HB0.out.drew hD)) (fun b hb => by have := hD b hb; show b < w0.heap.size; omega)).mono ?_; rintro e w5 ⟨rfl, hb5⟩; have HB5 : Hid (Below w0.heap.size w0 w5) := (Below.refl _ w0).drew.trans hb5; clear hb5))
    | fail
    all_goals (go_wp2_with fail; go_ret; exact ⟨_, rfl, .inr ⟨HP.out, rfl⟩, HB0.out.trans (HB5.out.mono (by omega))⟩)
end

/- An operation of a region that is not wanted may be passed by. -/
section
open Go.ChangeShapes Go.WideShapes Go.ChangeAt Go.RowKit Go.Joins

/-- An operation that is not wanted, and whose slot is empty, may be passed by. -/
theorem skipH {P : Program} {md : Region.Mode} {ops : Array Oper} {Q : Exit → Act → World → Prop} {S : World → Prop} {i d fuel : Nat} {listed : Array Bool} {a : Act} {w : World} (hd : (ops[i]?).map Oper.dst = some (some d))
    (hs : Region.noSelect ops = true) (hf : Region.free md ops listed i = true) (hr : (Region.ready md ops listed).contains i = true) (hQ : ∀ c a w, Q (.panic c) (a.put (some d) undef) w → Q (.panic c) a w)
    (hw : (ops[i]?).map (fun o => Region.wanted o (yielded ops a.tmps)) = some false) (hu : a.tmps[d]? = some undef) (hS : S w) (h : wpAnyH P md ops Q S fuel (listed.setIfInBounds i true) a w) : wpAnyH P md ops Q S (fuel + 1) listed a w := by
  obtain ⟨o, ho, hd⟩ := Option.map_eq_some_iff.1 hd
  rw [ho] at hw
  have hw' : Region.wanted o (yielded ops a.tmps) = false := by simpa using hw
  refine wpAnyH_take (i := i) (oi := o) (v := undef) ho hs hf hr (by rw [hd]; exact hQ) (.inr ⟨hw', rfl⟩) hS ?_
  have e : a.put o.dst undef = a := by
    rw [hd]
    obtain ⟨t, ds⟩ := a
    simp only [Act.put]
    congr 1
    simp only at hu
    apply Array.ext_getElem?
    intro j
    rw [Array.getElem?_setIfInBounds]
    by_cases e : d = j
    · subst e
      rw [if_pos rfl, hu, if_pos (Array.getElem?_eq_some_iff.1 hu).1]
    · rw [if_neg e]
  rw [e]
  exact h
end

end Go.Proofs.Yteikpekffgifoaa
