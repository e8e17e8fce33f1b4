/- Mv, Index, Run2, joined. -/
import Derived.Test.YtnjmlhokkhkaaaaGreatQ1
import Derived.Test.YtnjmlhokkhkaaaaGreatQ7
import Derived.Test.YtnjmlhokkhkaaaaGreatQ10
import Derived.Test.YtnjmlhokkhkaaaaGreatQ11
import Derived.Deep.AppendLies
namespace Go.Proofs.YtnjmlhokkhkaaaaGreat

/- Rows of moves: how they read, whose they are, and one more. -/
section
open Go.ChangeShapes Go.WideShapes Go.ChangeAt Go.RowKit Go.Joins

/-- The slice value v is the call's own, from block B on, and reads as the moves es. -/
def OM (w : World) (B : Nat) (v : Value) (es : List MoveD) : Prop := w.ownsRow B 82 2 v es.length (fl es)
theorem OM.lt {w : World} {B : Nat} {v : Value} {es : List MoveD} (h : OM w B v es) : ∀ k, v.ownBlock = some k → B ≤ k ∧ k < w.heap.size := World.ownsRow.lt h
theorem OM.fw {w w' : World} {B : Nat} {v : Value} {xs : List MoveD} {P : Nat → Prop} (h : OM w B v xs) (hf : Fw P w w') (hn : ∀ k, v.ownBlock = some k → ¬ P k) : OM w' B v xs := own_fw h hf hn
theorem OM.drewN {w : World} {B : Nat} {v : Value} {xs : List MoveD} (h : OM w B v xs) (n : Nat) : OM (w.drewN n) B v xs := h
theorem OM.grown {w w' : World} {B : Nat} {v : Value} {xs : List MoveD} (h : OM w B v xs) {row : Option Nat} (hg : w.grownBy w' row) (hne : v.ownBlock = none ∨ v.ownBlock ≠ row) : OM w' B v xs := World.ownsRow.kept h hg hne
theorem OM.below {w w' : World} {B B' : Nat} {v : Value} {xs : List MoveD} (h : OM w B v xs) (hb : Below B' w w') (hB : ∀ k, v.ownBlock = some k → k < B') : OM w' B v xs := by
  obtain ⟨h1, h2⟩ := h
  refine ⟨h1, ?_⟩
  rcases h2 with h2 | ⟨g, cap, cur, rfl, hg, hh, r⟩
  · exact .inl h2
  · exact .inr ⟨g, cap, cur, rfl, hg, (hb.block g (hB g rfl)).trans hh, r⟩
theorem OM.marked {D : Nat → Prop} {w w' : World} {B : Nat} {v : Value} {xs : List MoveD} (h : OM w B v xs) (hm : Marked D w w') (hn : ∀ k, v.ownBlock = some k → ¬ D k) : OM w' B v xs := by
  have hlt := h.lt
  obtain ⟨h1, h2⟩ := h
  refine ⟨h1, ?_⟩
  rcases h2 with h2 | ⟨g, cap, cur, rfl, hg, hh, r⟩
  · exact .inl h2
  · exact .inr ⟨g, cap, cur, rfl, hg, (hm.far g (hlt g rfl).2 (hn g rfl)).trans hh, r⟩
/-- It reads as a row. -/
theorem OM.row {w : World} {B : Nat} {v : Value} {es : List MoveD} (h : OM w B v es) : Row w ⟨fun b => B ≤ b ∧ b < w.heap.size, false⟩ 2 EMove v es := by
  have h0 := h
  rcases h.2 with ⟨rfl, hn⟩ | ⟨g, cap, cur, rfl, hBg, hg, hnc, hcm, hs, ht⟩
  · exact ⟨by omega, none, 0, by rw [hn], fun hne => absurd (List.length_eq_zero_iff.1 hn) hne⟩
  · refine ⟨by rw [maxLen_is] at hcm; omega, _, cap, rfl, fun _ => ⟨g, 0, rfl, ⟨hBg, (Array.getElem?_eq_some_iff.1 hg).1⟩, fun k e he => ⟨_, rfl, fun j u hu => ⟨?_, fun h => by cases h⟩⟩⟩⟩
    have hk := (List.getElem?_eq_some_iff.1 he).1
    have hget := fl_get he
    match j, hu with
    | 0, hu =>
      have hu' : iv e.dst = u := by simpa [iv] using hu
      rw [← hu', World.ownsRow.cellAt h0 _ (by omega), Nat.zero_add, Nat.add_zero]
      exact hget.1
    | 1, hu =>
      have hu' : iv e.src = u := by simpa [iv] using hu
      rw [← hu', World.ownsRow.cellAt h0 _ (by omega), Nat.zero_add]
      exact hget.2
    | j + 2, hu => simp at hu
theorem OM.form {w : World} {B : Nat} {v : Value} {es : List MoveD} (h : OM w B v es) : ∃ A c, v = .slice A es.length c := by
  obtain ⟨_, A, c, rfl, _⟩ := h.row
  exact ⟨A, c, rfl⟩

theorem info_move : (Tryz.prog.info? 82).map (fun i => (i.zero, i.size, i.bytes)) = some (some (.agg #[.int .i64 0, .int .i64 0]), 2, 16) := by kernel_rfl

theorem move_news (w : World) (x y : Int) : ∀ j u, [Value.int .i64 x, Value.int .i64 y][j]? = some u → (w.alloc (.cells #[.int .i64 x, .int .i64 y] 82)).cell? ((⟨w.heap.size, 0, none⟩ : Addr).add j) = some u := World.news_of_block (heap_alloc_new w _)

theorem wpList_append_move {ops : Array Oper} {rest : List Oper} {o : Oper} {a : Act} {Q : Exit → Act → World → Prop} (hgd : o.guard = none) (s x : Operand)
    (ho : o.op = .call { callee := .builtin .append, args := #[s, x], argTypes := #[64, 64] })
    (B : Nat) (v : Value) (es : List MoveD) (p q : Int) (w : World) (g : Nat) (hg : w.heap.size = g) (hs : a.eval s = v) (hown : OM w B v es) (hx : a.eval x = .slice (some ⟨g, 0, none⟩) 1 1) (hb : B ≤ w.heap.size) (hlen : es.length ≤ 1048576)
    (h : ∀ v' w', OM w' B v' (es ++ [⟨p, q⟩]) → w.grownBy w' v.ownBlock → (v'.ownBlock = v.ownBlock ∨ ∃ k, v'.ownBlock = some k ∧ w.heap.size ≤ k) → wpList Tryz.prog ops Q rest (a.put o.dst v') w') :
    wpList Tryz.prog ops Q (o :: rest) a (w.alloc (.cells #[.int .i64 p, .int .i64 q] 82)) := by
  subst hg
  obtain ⟨i0, hi, hz0, hz1, hz2⟩ := info_parts info_move
  refine wpList_append_own_at (P := Tryz.prog) _ hgd s x _ ho B 82 i0 (.agg #[.int .i64 0, .int .i64 0]) 2 16 Tryz.underlying64 hi hz0 hz1 hz2 rfl (by decide) v es.length (fl es) hs (World.ownsRow.alloc hown _) ⟨w.heap.size, 0, none⟩ 1 1 [.int .i64 p, .int .i64 q] hx rfl (move_news w p q) (by simp [Value.oneCell']) (by rw [maxLen_is]; omega) (by omega) (by simp; omega) ?_
  intro v' w' hown' hgr _ hat
  refine h v' w' ?_ ((World.grownBy_alloc w _ _).trans hgr) ?_
  · unfold OM
    rw [fl_append, List.length_append]
    exact hown'
  · rcases hat with h | h
    · exact .inl h
    · exact .inr ⟨_, h, by simp⟩

theorem OM_lit0 (w : World) {B g : Nat} (hg : w.heap.size = g) (hB : B ≤ g) : OM (w.alloc (.cells #[] 82)) B (.slice (some ⟨g, 0, none⟩) 0 0) [] := by
  subst hg
  exact World.ownsRow_lit (base := B) (e := 82) (size := 2) w #[] 0 hB (by simp) rfl

theorem step_append_move {ops : Array Oper} {o : Oper} {a : Act} {K : Act → World → Prop} {Q : Exit → Act → World → Prop} {F : Prop} (hgd : o.guard = none) (s x : Operand)
    (ho : o.op = .call { callee := .builtin .append, args := #[s, x], argTypes := #[64, 64] })
    (B : Nat) (v : Value) (es : List MoveD) (p q : Int) (w : World) (g : Nat) (hs : a.eval s = v) (hown : OM w B v es) (hx : a.eval x = .slice (some ⟨g, 0, none⟩) 1 1) (hg : w.heap[g]? = some (.cells #[.int .i64 p, .int .i64 q] 82 (0, 0))) (hb : B ≤ w.heap.size) (hlen : es.length ≤ 1048576)
    (h : ∀ g cap w', OM w' B (.slice (some ⟨g, 0, none⟩) (es.length + 1) cap) (es ++ [⟨p, q⟩]) → w.grownBy w' v.ownBlock → (v.ownBlock = some g ∨ g = w.heap.size) → K (a.put o.dst (.slice (some ⟨g, 0, none⟩) (es.length + 1) cap)) w') :
    if Region.wanted o (yielded ops a.tmps) = true then Oper.wp Tryz.prog o a w K Q else F := by
  obtain ⟨i0, hi, hz0, hz1, hz2⟩ := info_parts info_move
  refine step_append_lies (P := Tryz.prog) w hgd s x 64 ho B 82 i0 (.agg #[.int .i64 0, .int .i64 0]) 2 16 Tryz.underlying64 hi hz0 hz1 hz2 rfl (by decide) v es.length (fl es) hs hown ⟨g, 0, none⟩ 1 1 [.int .i64 p, .int .i64 q] hx rfl (World.news_of_block hg) (by simp [Value.oneCell']) (by omega) (by rw [maxLen_is]; omega) (by omega) hb w.heap.size rfl ?_
  intro g cap w' hown' hgr hat _
  refine h g cap w' ?_ hgr hat
  unfold OM
  rw [fl_append, List.length_append]
  exact hown'

def GivesMv (es : List MoveD) (w : World) (e : Ending) (w' : World) : Prop := ∃ r, e = .returned r ∧ OM w' w.heap.size r es ∧ Below w.heap.size w w'
end

/- slices.Index at numbers: the first place, or -1. -/
section
open Go.ChangeShapes Go.WideShapes Go.ChangeAt Go.RowKit Go.Joins

def idxI (xs : List Int) (x : Int) : Int := if x ∈ xs then (xs.idxOf x : Nat) else -1
theorem idxOf_first {x : Int} : ∀ (xs : List Int) (k : Nat), xs[k]? = some x → (∀ j, j < k → xs[j]? ≠ some x) → xs.idxOf x = k
  | [], _, h, _ => by simp at h
  | y :: ys, 0, h, _ => by
    simp only [List.getElem?_cons_zero, Option.some.injEq] at h
    subst h
    exact List.idxOf_cons_self
  | y :: ys, k + 1, h, hf => by
    have hy : y ≠ x := fun e => hf 0 (by omega) (by simp [e])
    have h1 := idxOf_first ys k (by simpa using h) (fun j hj => by have := hf (j + 1) (by omega); simpa using this)
    have h2 : (y == x) = false := by simpa using hy
    rw [List.idxOf_cons, h1, h2]; rfl
theorem idxI_at {xs : List Int} {x : Int} {k : Nat} (h : xs[k]? = some x) (hf : ∀ j, j < k → xs[j]? ≠ some x) : idxI xs x = k := by
  unfold idxI
  rw [if_pos (List.mem_of_getElem? h), idxOf_first xs k h hf]
theorem idxI_no {xs : List Int} {x : Int} (hf : ∀ j, j < xs.length → xs[j]? ≠ some x) : idxI xs x = -1 := by
  unfold idxI
  rw [if_neg]
  intro h
  obtain ⟨i, hi⟩ := List.mem_iff_getElem?.1 h
  exact hf i (List.getElem?_eq_some_iff.1 hi).1 hi

set_option maxHeartbeats 400000 in
theorem IndexA_any (v : Value) (xs : List Int) (x : Int) (w : World) (hv : RI w v xs) :
    Calls Tryz.prog 94 #[v, .int .i64 x] w fun e w' => e = .returned (.int .i64 (idxI xs x)) ∧ w = w' := by
  obtain ⟨hl, A, c, rfl, hx⟩ := hv
  go_enter Tryz.func94, Tryz.ntmps94
  go_wp2_with fail
  go_loop [8] (fun q => ∃ k : Nat, k ≤ xs.length ∧ q = .int .i64 k ∧ Hid (∀ j, j < k → xs[j]? ≠ some x)) (fun q => xs.length - (intOf q).toNat)
  case atStart => exact ⟨0, Nat.zero_le _, rfl, fun _ h => absurd h (by omega)⟩
  case round =>
    obtain ⟨k, hk, rfl, HF⟩ := hrel
    by_cases hkl : k < xs.length
    case neg =>
      obtain rfl : k = xs.length := by omega
      have HE := Lib.hid (idxI_no HF.out)
      go_wp2
      go_ret
      exact ⟨by rw [HE.out]; rfl, rfl⟩
    have hxk : xs[k]? = some xs[k] := List.getElem?_eq_getElem hkl
    generalize xs[k] = y at hxk
    obtain ⟨b, off, rfl, hx'⟩ := hx (by rintro rfl; simp at hkl)
    have hc := hx' k _ hxk
    have hkl' : (k : Int) < (xs.length : Int) := by omega
    have Hxk := Lib.hid hxk
    clear hx hx' hxk
    by_cases hxy : y = x
    · subst hxy
      have HE := Lib.hid (idxI_at Hxk.out HF.out)
      have hb : (y == y) = true := by simp
      go_wp2
      go_ret
      exact ⟨by rw [HE.out]; rfl, rfl⟩
    · have hb : (x == y) = false := by simp; exact fun e => hxy e.symm
      have HF' : Hid (∀ j, j < k + 1 → xs[j]? ≠ some x) := fun j hj => by
        by_cases e : j = k
        · subst e; rw [Hxk.out]; intro e; exact hxy (Option.some.inj e)
        · exact HF.out j (by omega)
      clear hxy
      go_wp2
      go_round
      case rel => exact ⟨k + 1, by omega, by go_num, HF'⟩
      case measure => simp [intOf]; omega
end

/- phiMoves of the program: the Phis as moves, by the way that was come. -/
section
open Go.ChangeShapes Go.WideShapes Go.ChangeAt Go.RowKit Go.Joins

theorem phM_take {way : Nat} {l : List PhiD} {j : Nat} {p : PhiD} (h : l[j]? = some p) : phM way (l.take (j + 1)) = phM way (l.take j) ++ [⟨p.v, p.args.getD way 0⟩] := by
  unfold phM
  rw [take_snoc h, List.map_append, List.map_singleton]

set_option maxRecDepth 10000 in
set_option maxHeartbeats 2000000 in
theorem phiMoves_any (f : FunD) (Z : Zn) (wa w : World) (bl : Value) (B R V G : Nat) (s : VSt) (st val : Int) (vis : Nat) (ev : Value) (h : RW f wa w bl R V G s st val vis ev) (ha : RA f Z wa bl B V G)
    (x : BlockD) (hx : f.blocks[s.at_]? = some x) (hc : x.phis = [] ∨ (s.bef : Int) ∈ predsF f s.at_) :
    Calls Tryz.prog 64 #[.pointer (some ⟨R, 0, none⟩)] w (GivesMv (phM (wayF f s.at_ s.bef) x.phis) w) := by
  have hlt : s.at_ < f.blocks.length := (List.getElem?_eq_some_iff.1 hx).1
  have hlt' : (s.at_ : Int) < (f.blocks.length : Int) := by omega
  have ha0 : 0 ≤ (s.at_ : Int) := by omega
  have hrow := h.blocks ha
  obtain ⟨hle, A, c, rfl, hxr⟩ := hrow
  obtain ⟨b, off, rfl, hDb, hr8⟩ := hxr (by intro e; rw [e] at hlt; simp at hlt)
  obtain ⟨cs, hE, hcs⟩ := hr8 s.at_ x hx
  obtain ⟨v0, _, _, _, rfl, hr0, _⟩ := hE
  obtain ⟨_, A0, q0, rfl, h0⟩ := hr0
  have g1 : w.cell? ⟨b, off + s.at_ * 8, none⟩ = some (.slice A0 x.phis.length q0) := by simpa using (hcs 0 _ rfl).1
  obtain ⟨vp, hvp, hop⟩ := h.preds ha hlt
  have HOP := Lib.hid hop
  have hph := ha.hp.2.2.2 s.at_ x hx
  have HPH := Lib.hid hph.2
  have hp4 := hph.1
  have H0 := Lib.hid h0
  have hpl := predsF_len f s.at_
  have hDlt : ∀ b, Z.D b → b < w.heap.size := fun b hb => (h.ltZ ha hb).2.2.2
  have HDL := Lib.hid hDlt
  have r0 : w.cell? ⟨R, 0, none⟩ = some (.slice (some ⟨b, off, none⟩) f.blocks.length c) := h.cell rfl
  have r1 : w.cell? ⟨R, 1, none⟩ = some (.slice (some ⟨G, 0, none⟩) f.blocks.length f.blocks.length) := h.cell rfl
  have r3 : w.cell? ⟨R, 3, none⟩ = some (.int .i64 s.at_) := h.cell rfl
  have r4 : w.cell? ⟨R, 4, none⟩ = some (.int .i64 s.bef) := h.cell rfl
  have hRl := h.ltR
  have hbl := hDlt b hDb
  have hGl : G < w.heap.size := by have h1 := ha.szG; have h2 := h.fw.size; omega
  have HWAY : Hid (x.phis ≠ [] → idxI (predsF f s.at_) s.bef = (wayF f s.at_ s.bef : Nat) ∧ wayF f s.at_ s.bef < (predsF f s.at_).length) := fun hne => by
    rcases hc with h | h
    · exact absurd h hne
    · exact ⟨by unfold idxI; rw [if_pos h]; rfl, wayF_lt h⟩
  obtain ⟨ix, hix⟩ : ∃ ix, ix = idxI (predsF f s.at_) s.bef := ⟨_, rfl⟩
  rw [← hix] at HWAY
  have HIX := Lib.hid hix
  clear hcs hr8 hxr h hop hph h0 hDlt hc hix hx
  generalize s.at_ = at0 at *
  generalize s.bef = be0 at *
  generalize predsF f at0 = ps at *
  go_enter Tryz.func64, Tryz.ntmps64
  go_upto_region 1 with fail
  have Kd : (fun w' => w'.cell? ⟨R, 1, none⟩ = some (.slice (some ⟨G, 0, none⟩) f.blocks.length f.blocks.length) ∧ w'.cell? ⟨R, 3, none⟩ = some (.int .i64 at0) ∧ w'.cell? ⟨G, at0, none⟩ = some vp ∧ w'.cell? ⟨R, 4, none⟩ = some (.int .i64 be0)) w.drew := ⟨r1, r3, hvp, r4⟩
  refine wp_region_held_drew (S := ((fun w' => w'.cell? ⟨R, 1, none⟩ = some (.slice (some ⟨G, 0, none⟩) f.blocks.length f.blocks.length) ∧ w'.cell? ⟨R, 3, none⟩ = some (.int .i64 at0) ∧ w'.cell? ⟨G, at0, none⟩ = some vp ∧ w'.cell? ⟨R, 4, none⟩ = some (.int .i64 be0)))) (by kernel_rfl) ?_ (fun hHeld => ?_)
  · (try dsimp only)
    (first | exact Kd | fail)
  refine wpAnyH_take (i := 0) (v := ?_) rfl (by kernel_rfl) (by kernel_rfl) (by kernel_rfl) (fun _ _ _ h => h) (Or.inl ⟨by rfl, ?_⟩) (by assumption) ?_
  rotate_left
  · intro w hSw
    simp only [List.getElem_toArray, List.getElem_cons_zero]
    (try dsimp only at hSw)
    go_simp
    first | done | (with_reducible rfl)
  simp only [List.getElem_toArray, List.getElem_cons_zero, Act.put, List.setIfInBounds_toArray, List.set_cons_zero, List.set_cons_succ]
  refine wpAnyH_take (i := 1) (v := ?_) rfl (by kernel_rfl) (by kernel_rfl) (by kernel_rfl) (fun _ _ _ h => h) (Or.inl ⟨by rfl, ?_⟩) (by assumption) ?_
  rotate_left
  · intro w hSw
    simp only [List.getElem_toArray, List.getElem_cons_succ, List.getElem_cons_zero]
    (try dsimp only at hSw)
    go_simp
    first | done | (with_reducible rfl)
  simp only [List.getElem_toArray, List.getElem_cons_succ, List.getElem_cons_zero, Act.put, List.setIfInBounds_toArray, List.set_cons_zero, List.set_cons_succ]
  refine wpAnyH_take (i := 2) (v := ?_) rfl (by kernel_rfl) (by kernel_rfl) (by kernel_rfl) (fun _ _ _ h => h) (Or.inl ⟨by rfl, ?_⟩) (by assumption) ?_
  rotate_left
  · intro w hSw
    simp only [List.getElem_toArray, List.getElem_cons_succ, List.getElem_cons_zero]
    (try dsimp only at hSw)
    go_simp
    first | done | (with_reducible rfl)
  simp only [List.getElem_toArray, List.getElem_cons_succ, List.getElem_cons_zero, Act.put, List.setIfInBounds_toArray, List.set_cons_zero, List.set_cons_succ]
  refine wpAnyH_take (i := 3) (v := ?_) rfl (by kernel_rfl) (by kernel_rfl) (by kernel_rfl) (fun _ _ _ h => h) (Or.inl ⟨by rfl, ?_⟩) (by assumption) ?_
  rotate_left
  · intro w hSw
    simp only [List.getElem_toArray, List.getElem_cons_succ, List.getElem_cons_zero]
    (try dsimp only at hSw)
    go_simp
    first | done | (with_reducible rfl)
  simp only [List.getElem_toArray, List.getElem_cons_succ, List.getElem_cons_zero, Act.put, List.setIfInBounds_toArray, List.set_cons_zero, List.set_cons_succ]
  refine wpAnyH_take (i := 4) (v := ?_) rfl (by kernel_rfl) (by kernel_rfl) (by kernel_rfl) (fun _ _ _ h => h) (Or.inl ⟨by rfl, ?_⟩) (by assumption) ?_
  rotate_left
  · intro w hSw
    simp only [List.getElem_toArray, List.getElem_cons_succ, List.getElem_cons_zero]
    (try dsimp only at hSw)
    go_simp
    first | done | (with_reducible rfl)
  simp only [List.getElem_toArray, List.getElem_cons_succ, List.getElem_cons_zero, Act.put, List.setIfInBounds_toArray, List.set_cons_zero, List.set_cons_succ]
  refine wpAnyH_take (i := 5) (v := ?_) rfl (by kernel_rfl) (by kernel_rfl) (by kernel_rfl) (fun _ _ _ h => h) (Or.inl ⟨by rfl, ?_⟩) (by assumption) ?_
  rotate_left
  · intro w hSw
    simp only [List.getElem_toArray, List.getElem_cons_succ, List.getElem_cons_zero]
    (try dsimp only at hSw)
    go_simp
    first | done | (with_reducible rfl)
  simp only [List.getElem_toArray, List.getElem_cons_succ, List.getElem_cons_zero, Act.put, List.setIfInBounds_toArray, List.set_cons_zero, List.set_cons_succ]
  refine wpAnyH_take (i := 6) (v := ?_) rfl (by kernel_rfl) (by kernel_rfl) (by kernel_rfl) (fun _ _ _ h => h) (Or.inl ⟨by rfl, ?_⟩) (by assumption) ?_
  rotate_left
  · intro w hSw
    simp only [List.getElem_toArray, List.getElem_cons_succ, List.getElem_cons_zero]
    (try dsimp only at hSw)
    go_simp
    first | done | (with_reducible rfl)
  simp only [List.getElem_toArray, List.getElem_cons_succ, List.getElem_cons_zero, Act.put, List.setIfInBounds_toArray, List.set_cons_zero, List.set_cons_succ]
  refine wpAnyH_take (i := 7) (v := ?_) rfl (by kernel_rfl) (by kernel_rfl) (by kernel_rfl) (fun _ _ _ h => h) (Or.inl ⟨by rfl, ?_⟩) (by assumption) ?_
  rotate_left
  · intro w hSw
    simp only [List.getElem_toArray, List.getElem_cons_succ, List.getElem_cons_zero]
    (try dsimp only at hSw)
    go_simp
    first | done | (with_reducible rfl)
  simp only [List.getElem_toArray, List.getElem_cons_succ, List.getElem_cons_zero, Act.put, List.setIfInBounds_toArray, List.set_cons_zero, List.set_cons_succ]
  refine wpAnyH_take (i := 8) (v := ?_) rfl (by kernel_rfl) (by kernel_rfl) (by kernel_rfl) (fun _ _ _ h => h) (Or.inl ⟨by rfl, ?_⟩) (by assumption) ?_
  rotate_left
  · intro w hSw
    simp only [List.getElem_toArray, List.getElem_cons_succ, List.getElem_cons_zero]
    (try dsimp only at hSw)
    go_simp
    first | done | (with_reducible rfl)
  simp only [List.getElem_toArray, List.getElem_cons_succ, List.getElem_cons_zero, Act.put, List.setIfInBounds_toArray, List.set_cons_zero, List.set_cons_succ]
  refine wpAnyH_take (i := 9) (v := ?_) rfl (by kernel_rfl) (by kernel_rfl) (by kernel_rfl) (fun _ _ _ h => h) (Or.inl ⟨by rfl, ?_⟩) (by assumption) ?_
  rotate_left
  · intro w hSw
    simp only [List.getElem_toArray, List.getElem_cons_succ, List.getElem_cons_zero]
    (try dsimp only at hSw)
    go_simp
    first | done | (with_reducible rfl)
  simp only [List.getElem_toArray, List.getElem_cons_succ, List.getElem_cons_zero, Act.put, List.setIfInBounds_toArray, List.set_cons_zero, List.set_cons_succ]
  refine wpAnyH_take (i := 10) (v := ?_) rfl (by kernel_rfl) (by kernel_rfl) (by kernel_rfl) (fun _ _ _ h => h) (Or.inl ⟨by rfl, ?_⟩) (by assumption) ?_
  rotate_left
  · intro w hSw
    simp only [List.getElem_toArray, List.getElem_cons_succ, List.getElem_cons_zero]
    (try dsimp only at hSw)
    go_simp
    first | done | (with_reducible rfl)
  simp only [List.getElem_toArray, List.getElem_cons_succ, List.getElem_cons_zero, Act.put, List.setIfInBounds_toArray, List.set_cons_zero, List.set_cons_succ]
  refine wpAnyH_take (i := 11) (v := ?_) rfl (by kernel_rfl) (by kernel_rfl) (by kernel_rfl) (fun _ _ _ h => h) (Or.inl ⟨by rfl, ?_⟩) (by assumption) ?_
  rotate_left
  · intro w hSw
    simp only [List.getElem_toArray, List.getElem_cons_succ, List.getElem_cons_zero]
    (try dsimp only at hSw)
    go_simp
    first | done | (with_reducible rfl)
  simp only [List.getElem_toArray, List.getElem_cons_succ, List.getElem_cons_zero, Act.put, List.setIfInBounds_toArray, List.set_cons_zero, List.set_cons_succ]
  refine wpAnyH_take (i := 12) (v := ?_) rfl (by kernel_rfl) (by kernel_rfl) (by kernel_rfl) (fun _ _ _ h => h) (Or.inl ⟨by rfl, ?_⟩) (by assumption) ?_
  rotate_left
  · intro w hSw
    simp only [List.getElem_toArray, List.getElem_cons_succ, List.getElem_cons_zero]
    (try dsimp only at hSw)
    go_simp
    first | done | (with_reducible rfl)
  simp only [List.getElem_toArray, List.getElem_cons_succ, List.getElem_cons_zero, Act.put, List.setIfInBounds_toArray, List.set_cons_zero, List.set_cons_succ]
  refine wpAnyH_take (i := 13) (v := ?_) rfl (by kernel_rfl) (by kernel_rfl) (by kernel_rfl) (fun _ _ _ h => h) (Or.inl ⟨by rfl, ?_⟩) (by assumption) ?_
  rotate_left
  · intro w hSw
    simp only [List.getElem_toArray, List.getElem_cons_succ, List.getElem_cons_zero]
    (try dsimp only at hSw)
    go_simp
    first | done | (with_reducible rfl)
  simp only [List.getElem_toArray, List.getElem_cons_succ, List.getElem_cons_zero, Act.put, List.setIfInBounds_toArray, List.set_cons_zero, List.set_cons_succ]
  refine wpAnyH_ready (rs := [14]) (by kernel_rfl) (by simp) ?_
  refine AllReadyH.cons rfl (fun KZ hKZ => ?_) AllReadyH.nil
  simp only [List.getElem_toArray, List.getElem_cons_succ, List.getElem_cons_zero]
  go_simp
  (first | (go_at_call 94; refine (IndexA_any vp ps be0 _ (HOP.out.drewN 1).ri).mono ?_; rintro e w' ⟨rfl, rfl⟩; rw [← HIX.out]) | fail)
  go_wp2_with fail
  refine hKZ.out _ _ ?_ (fun hHeld => ?_)
  · (try dsimp only)
    (first | exact Kd | fail)
  clear hKZ KZ
  (try simp only [List.getElem_toArray, List.getElem_cons_succ, List.getElem_cons_zero, Act.put, List.setIfInBounds_toArray, List.set_cons_zero, List.set_cons_succ])
  refine wpAnyH_take (i := 15) (v := ?_) rfl (by kernel_rfl) (by kernel_rfl) (by kernel_rfl) (fun _ _ _ h => h) (Or.inl ⟨by rfl, ?_⟩) (by assumption) ?_
  rotate_left
  · intro w hSw
    simp only [List.getElem_toArray, List.getElem_cons_succ, List.getElem_cons_zero]
    (try dsimp only at hSw)
    go_simp
    first | done | (with_reducible rfl)
  simp only [List.getElem_toArray, List.getElem_cons_succ, List.getElem_cons_zero, Act.put, List.setIfInBounds_toArray, List.set_cons_zero, List.set_cons_succ]
  refine wpAnyH_done (by kernel_rfl) ?_ _
  clear Kd
  go_upto_region 3 with fail
  have hB1 : Below w.heap.size w ((w.drewN 1).alloc (.cells #[] 82)) := (below_drewN (Below.refl _ _) 1).alloc (Nat.le_refl _) _
  have hO1 : OM ((w.drewN 1).alloc (.cells #[] 82)) w.heap.size (.slice (some ⟨w.heap.size, 0, none⟩) 0 0) [] := OM_lit0 (w.drewN 1) rfl (Nat.le_refl _)
  generalize (w.drewN 1).alloc (.cells #[] 82) = w1 at *
  have HB1 := Lib.hid hB1
  have HO1 := Lib.hid hO1
  have hr0' : w1.cell? ⟨R, 0, none⟩ = some (.slice (some ⟨b, off, none⟩) f.blocks.length c) := (hB1.cell (p := ⟨R, 0, none⟩) hRl).trans r0
  have hr3' : w1.cell? ⟨R, 3, none⟩ = some (.int .i64 at0) := (hB1.cell (p := ⟨R, 3, none⟩) hRl).trans r3
  have hg1' : w1.cell? ⟨b, off + at0 * 8, none⟩ = some (.slice A0 x.phis.length q0) := (hB1.cell (p := ⟨b, _, none⟩) hbl).trans g1
  clear hB1 hO1 r0 r1 r3 r4 g1 hvp
  have Kd : (fun w' => w'.cell? ⟨R, 0, none⟩ = some (.slice (some ⟨b, off, none⟩) f.blocks.length c) ∧ w'.cell? ⟨R, 3, none⟩ = some (.int .i64 at0) ∧ w'.cell? ⟨b, off + at0 * 8, none⟩ = some (.slice A0 x.phis.length q0)) w1.drew := ⟨hr0', hr3', hg1'⟩
  clear hr0' hr3' hg1'
  refine wp_region_held_drew (S := ((fun w' => w'.cell? ⟨R, 0, none⟩ = some (.slice (some ⟨b, off, none⟩) f.blocks.length c) ∧ w'.cell? ⟨R, 3, none⟩ = some (.int .i64 at0) ∧ w'.cell? ⟨b, off + at0 * 8, none⟩ = some (.slice A0 x.phis.length q0)))) (by kernel_rfl) ?_ (fun hHeld => ?_)
  · (try dsimp only)
    (first | exact Kd | fail)
  refine wpAnyH_take (i := 0) (v := ?_) rfl (by kernel_rfl) (by kernel_rfl) (by kernel_rfl) (fun _ _ _ h => h) (Or.inl ⟨by rfl, ?_⟩) (by assumption) ?_
  rotate_left
  · intro w hSw
    simp only [List.getElem_toArray, List.getElem_cons_zero]
    (try dsimp only at hSw)
    go_simp
    first | done | (with_reducible rfl)
  simp only [List.getElem_toArray, List.getElem_cons_zero, Act.put, List.setIfInBounds_toArray, List.set_cons_zero, List.set_cons_succ]
  refine wpAnyH_take (i := 1) (v := ?_) rfl (by kernel_rfl) (by kernel_rfl) (by kernel_rfl) (fun _ _ _ h => h) (Or.inl ⟨by rfl, ?_⟩) (by assumption) ?_
  rotate_left
  · intro w hSw
    simp only [List.getElem_toArray, List.getElem_cons_succ, List.getElem_cons_zero]
    (try dsimp only at hSw)
    go_simp
    first | done | (with_reducible rfl)
  simp only [List.getElem_toArray, List.getElem_cons_succ, List.getElem_cons_zero, Act.put, List.setIfInBounds_toArray, List.set_cons_zero, List.set_cons_succ]
  refine wpAnyH_take (i := 2) (v := ?_) rfl (by kernel_rfl) (by kernel_rfl) (by kernel_rfl) (fun _ _ _ h => h) (Or.inl ⟨by rfl, ?_⟩) (by assumption) ?_
  rotate_left
  · intro w hSw
    simp only [List.getElem_toArray, List.getElem_cons_succ, List.getElem_cons_zero]
    (try dsimp only at hSw)
    go_simp
    first | done | (with_reducible rfl)
  simp only [List.getElem_toArray, List.getElem_cons_succ, List.getElem_cons_zero, Act.put, List.setIfInBounds_toArray, List.set_cons_zero, List.set_cons_succ]
  refine wpAnyH_take (i := 3) (v := ?_) rfl (by kernel_rfl) (by kernel_rfl) (by kernel_rfl) (fun _ _ _ h => h) (Or.inl ⟨by rfl, ?_⟩) (by assumption) ?_
  rotate_left
  · intro w hSw
    simp only [List.getElem_toArray, List.getElem_cons_succ, List.getElem_cons_zero]
    (try dsimp only at hSw)
    go_simp
    first | done | (with_reducible rfl)
  simp only [List.getElem_toArray, List.getElem_cons_succ, List.getElem_cons_zero, Act.put, List.setIfInBounds_toArray, List.set_cons_zero, List.set_cons_succ]
  refine wpAnyH_take (i := 4) (v := ?_) rfl (by kernel_rfl) (by kernel_rfl) (by kernel_rfl) (fun _ _ _ h => h) (Or.inl ⟨by rfl, ?_⟩) (by assumption) ?_
  rotate_left
  · intro w hSw
    simp only [List.getElem_toArray, List.getElem_cons_succ, List.getElem_cons_zero]
    (try dsimp only at hSw)
    go_simp
    first | done | (with_reducible rfl)
  simp only [List.getElem_toArray, List.getElem_cons_succ, List.getElem_cons_zero, Act.put, List.setIfInBounds_toArray, List.set_cons_zero, List.set_cons_succ]
  refine wpAnyH_take (i := 5) (v := ?_) rfl (by kernel_rfl) (by kernel_rfl) (by kernel_rfl) (fun _ _ _ h => h) (Or.inl ⟨by rfl, ?_⟩) (by assumption) ?_
  rotate_left
  · intro w hSw
    simp only [List.getElem_toArray, List.getElem_cons_succ, List.getElem_cons_zero]
    (try dsimp only at hSw)
    go_simp
    first | done | (with_reducible rfl)
  simp only [List.getElem_toArray, List.getElem_cons_succ, List.getElem_cons_zero, Act.put, List.setIfInBounds_toArray, List.set_cons_zero, List.set_cons_succ]
  refine wpAnyH_take (i := 6) (v := ?_) rfl (by kernel_rfl) (by kernel_rfl) (by kernel_rfl) (fun _ _ _ h => h) (Or.inl ⟨by rfl, ?_⟩) (by assumption) ?_
  rotate_left
  · intro w hSw
    simp only [List.getElem_toArray, List.getElem_cons_succ, List.getElem_cons_zero]
    (try dsimp only at hSw)
    go_simp
    first | done | (with_reducible rfl)
  simp only [List.getElem_toArray, List.getElem_cons_succ, List.getElem_cons_zero, Act.put, List.setIfInBounds_toArray, List.set_cons_zero, List.set_cons_succ]
  refine wpAnyH_take (i := 7) (v := ?_) rfl (by kernel_rfl) (by kernel_rfl) (by kernel_rfl) (fun _ _ _ h => h) (Or.inl ⟨by rfl, ?_⟩) (by assumption) ?_
  rotate_left
  · intro w hSw
    simp only [List.getElem_toArray, List.getElem_cons_succ, List.getElem_cons_zero]
    (try dsimp only at hSw)
    go_simp
    first | done | (with_reducible rfl)
  simp only [List.getElem_toArray, List.getElem_cons_succ, List.getElem_cons_zero, Act.put, List.setIfInBounds_toArray, List.set_cons_zero, List.set_cons_succ]
  refine wpAnyH_take (i := 8) (v := ?_) rfl (by kernel_rfl) (by kernel_rfl) (by kernel_rfl) (fun _ _ _ h => h) (Or.inl ⟨by rfl, ?_⟩) (by assumption) ?_
  rotate_left
  · intro w hSw
    simp only [List.getElem_toArray, List.getElem_cons_succ, List.getElem_cons_zero]
    (try dsimp only at hSw)
    go_simp
    first | done | (with_reducible rfl)
  simp only [List.getElem_toArray, List.getElem_cons_succ, List.getElem_cons_zero, Act.put, List.setIfInBounds_toArray, List.set_cons_zero, List.set_cons_succ]
  refine wpAnyH_take (i := 9) (v := ?_) rfl (by kernel_rfl) (by kernel_rfl) (by kernel_rfl) (fun _ _ _ h => h) (Or.inl ⟨by rfl, ?_⟩) (by assumption) ?_
  rotate_left
  · intro w hSw
    simp only [List.getElem_toArray, List.getElem_cons_succ, List.getElem_cons_zero]
    (try dsimp only at hSw)
    go_simp
    first | done | (with_reducible rfl)
  simp only [List.getElem_toArray, List.getElem_cons_succ, List.getElem_cons_zero, Act.put, List.setIfInBounds_toArray, List.set_cons_zero, List.set_cons_succ]
  refine wpAnyH_take (i := 10) (v := ?_) rfl (by kernel_rfl) (by kernel_rfl) (by kernel_rfl) (fun _ _ _ h => h) (Or.inl ⟨by rfl, ?_⟩) (by assumption) ?_
  rotate_left
  · intro w hSw
    simp only [List.getElem_toArray, List.getElem_cons_succ, List.getElem_cons_zero]
    (try dsimp only at hSw)
    go_simp
    first | done | (with_reducible rfl)
  simp only [List.getElem_toArray, List.getElem_cons_succ, List.getElem_cons_zero, Act.put, List.setIfInBounds_toArray, List.set_cons_zero, List.set_cons_succ]
  refine wpAnyH_take (i := 11) (v := ?_) rfl (by kernel_rfl) (by kernel_rfl) (by kernel_rfl) (fun _ _ _ h => h) (Or.inl ⟨by rfl, ?_⟩) (by assumption) ?_
  rotate_left
  · intro w hSw
    simp only [List.getElem_toArray, List.getElem_cons_succ, List.getElem_cons_zero]
    (try dsimp only at hSw)
    go_simp
    first | done | (with_reducible rfl)
  simp only [List.getElem_toArray, List.getElem_cons_succ, List.getElem_cons_zero, Act.put, List.setIfInBounds_toArray, List.set_cons_zero, List.set_cons_succ]
  refine wpAnyH_take (i := 12) (v := ?_) rfl (by kernel_rfl) (by kernel_rfl) (by kernel_rfl) (fun _ _ _ h => h) (Or.inl ⟨by rfl, ?_⟩) (by assumption) ?_
  rotate_left
  · intro w hSw
    simp only [List.getElem_toArray, List.getElem_cons_succ, List.getElem_cons_zero]
    (try dsimp only at hSw)
    go_simp
    first | done | (with_reducible rfl)
  simp only [List.getElem_toArray, List.getElem_cons_succ, List.getElem_cons_zero, Act.put, List.setIfInBounds_toArray, List.set_cons_zero, List.set_cons_succ]
  refine wpAnyH_done (by kernel_rfl) ?_ _
  clear Kd
  have HB2 : Hid (Below w.heap.size w w1.drew) := below_drewN HB1.out 1
  have HO2 : Hid (OM w1.drew w.heap.size (.slice (some ⟨w.heap.size, 0, none⟩) 0 0) []) := HO1.out.drewN 1
  generalize w1.drew = w2 at *
  clear HB1 HO1
  go_wp2_with fail
  go_loopw [4, 35] (fun ov i wr => ∃ j : Nat, j ≤ x.phis.length ∧ i = .int .i64 j ∧ Hid (Below w.heap.size w wr) ∧ Hid (OM wr w.heap.size ov (phM (wayF f at0 be0) (x.phis.take j)))) (fun _ i _ => x.phis.length - (intOf i).toNat)
  case atStart => exact ⟨0, Nat.zero_le _, rfl, HB2.out, HO2.out⟩
  clear HB2 HO2
  case round =>
    obtain ⟨j, hj, rfl, HB, HO⟩ := hrel
    have HO' : Hid (OM wr w.heap.size u4 (phM (wayF f at0 be0) (x.phis.take j))) := HO.out
    clear HO
    by_cases hjl : j < x.phis.length
    case neg =>
      obtain rfl : j = x.phis.length := by omega
      go_wp2_with fail
      go_ret
      exact ⟨_, rfl, by have h := HO'.out; rwa [List.take_length] at h, HB.out⟩
    have hne : x.phis ≠ [] := by rintro e; rw [e] at hjl; simp at hjl
    obtain ⟨hixw, hwl⟩ := HWAY.out hne
    have hxj : x.phis[j]? = some x.phis[j] := List.getElem?_eq_getElem hjl
    generalize x.phis[j] = ph at hxj
    obtain ⟨b3, off3, rfl, hDb3, hrow3⟩ := H0.out hne
    obtain ⟨ds, hE3, hds⟩ := hrow3 j ph hxj
    obtain ⟨u', rfl, _, A9, q9, rfl, hargs⟩ := hE3
    have hbl3 := HDL.out b3 hDb3
    have e0 : wr.cell? ⟨b3, off3 + j * 2, none⟩ = some (.int .i64 ph.v) := (HB.out.cell (p := ⟨b3, _, none⟩) hbl3).trans (hds 0 _ rfl).1
    have e1 : wr.cell? ⟨b3, off3 + j * 2 + 1, none⟩ = some (.slice A9 ph.args.length q9) := (HB.out.cell (p := ⟨b3, _, none⟩) hbl3).trans (hds 1 _ rfl).1
    have hal := (HPH.out j ph hxj).2.1
    generalize hwy : wayF f at0 be0 = way at *
    have hwl2 : way < ph.args.length := by omega
    have hwl' : (way : Int) < (ph.args.length : Int) := by omega
    have hw0 : 0 ≤ (way : Int) := by omega
    have hxa : ph.args[way]? = some ph.args[way] := List.getElem?_eq_getElem hwl2
    have HGD : Hid (ph.args.getD way 0 = ph.args[way]) := by rw [Hid, List.getD_eq_getElem?_getD, hxa]; rfl
    generalize ph.args[way] = a at hxa HGD
    obtain ⟨b4, off4, rfl, hDb4, hrow4⟩ := hargs (by intro h; rw [h] at hwl2; simp at hwl2)
    obtain ⟨ds4, hE4, hds4⟩ := hrow4 way a hxa
    subst hE4
    have hbl4 := HDL.out b4 hDb4
    have e2 : wr.cell? ⟨b4, off4 + way, none⟩ = some (.int .i64 a) := by
      have h := (HB.out.cell (p := ⟨b4, _, none⟩) hbl4).trans (hds4 0 _ rfl).1
      simpa using h
    have HTJ : Hid (phM way (x.phis.take (j + 1)) = phM way (x.phis.take j) ++ [⟨ph.v, a⟩]) := by rw [Hid, phM_take hxj, HGD.out]
    have hjl' : (j : Int) < (x.phis.length : Int) := by omega
    have hel : (phM way (x.phis.take j)).length ≤ 1000 := by rw [phM_len, List.length_take]; omega
    have hbw4 : b4 < wr.heap.size := by have := HB.out.size; omega
    have hsz : w.heap.size ≤ wr.heap.size := HB.out.size
    clear hds hds4 hrow3 hrow4 hargs hxj hxa hal HGD hwy hne hwl
    generalize phM way (x.phis.take j) = ll at HO' hel HTJ
    have hOlt := HO'.out.lt
    obtain ⟨A8, q8, rfl⟩ := HO'.out.form
    have hixw' := hixw
    subst hixw'
    go_upto_region 6 with fail
    have hB5 : Below wr.heap.size wr (wr.alloc (.cells #[.int .i64 ph.v, .slice (some ⟨b4, off4, none⟩) ph.args.length q9] 87)) := (Below.refl _ _).alloc (Nat.le_refl _) _
    have k0 : (wr.alloc (.cells #[.int .i64 ph.v, .slice (some ⟨b4, off4, none⟩) ph.args.length q9] 87)).cell? ⟨wr.heap.size, 0, none⟩ = some (.int .i64 ph.v) := by go_simp
    have k1 : (wr.alloc (.cells #[.int .i64 ph.v, .slice (some ⟨b4, off4, none⟩) ph.args.length q9] 87)).cell? ⟨wr.heap.size, 1, none⟩ = some (.slice (some ⟨b4, off4, none⟩) ph.args.length q9) := by go_simp
    have hs5 : (wr.alloc (.cells #[.int .i64 ph.v, .slice (some ⟨b4, off4, none⟩) ph.args.length q9] 87)).heap.size = wr.heap.size + 1 := by simp
    obtain ⟨q, hq⟩ : ∃ q, q = wr.heap.size := ⟨_, rfl⟩
    rw [← hq] at k0 k1 hs5 ⊢
    generalize wr.alloc (.cells #[.int .i64 ph.v, .slice (some ⟨b4, off4, none⟩) ph.args.length q9] 87) = w5 at *
    have HO5 := Lib.hid (HO'.out.below hB5 fun kk hkk => (hOlt kk hkk).2)
    have HB5 := Lib.hid (HB.out.trans (hB5.mono hsz))
    have e2' : w5.cell? ⟨b4, off4 + way, none⟩ = some (.int .i64 a) := (hB5.cell (p := ⟨b4, _, none⟩) hbw4).trans e2
    have hq5 : q < w5.heap.size := by omega
    have hb45 : b4 < w5.heap.size := by omega
    have hsz5 : w.heap.size ≤ w5.heap.size := by omega
    have HAV : Hid (∀ kk, (Value.slice A8 ll.length q8).ownBlock = some kk → w.heap.size ≤ kk ∧ kk < q) := fun kk hkk => by have := hOlt kk hkk; omega
    have HBL : Hid (b4 < w.heap.size) := hbl4
    clear hB5 e0 e1 e2 hq HO' HB hOlt hixw hs5
    have Kd : (fun w' => w'.cell? ⟨q, 0, none⟩ = some (.int .i64 ph.v) ∧ w'.cell? ⟨q, 1, none⟩ = some (.slice (some ⟨b4, off4, none⟩) ph.args.length q9) ∧ w'.cell? ⟨b4, off4 + way, none⟩ = some (.int .i64 a)) w5.drew := ⟨k0, k1, e2'⟩
    refine wp_region_offL (S := ((fun w' => w'.cell? ⟨q, 0, none⟩ = some (.int .i64 ph.v) ∧ w'.cell? ⟨q, 1, none⟩ = some (.slice (some ⟨b4, off4, none⟩) ph.args.length q9) ∧ w'.cell? ⟨b4, off4 + way, none⟩ = some (.int .i64 a)))) (by simp) (by kernel_rfl) (by kernel_rfl) (by kernel_rfl) (by kernel_rfl) (by kernel_rfl) ?_ (fun hHeld => ?_)
    · (try dsimp only)
      (first | exact Kd | exact HK9.out | (refine ⟨?_, ?_, ?_⟩ <;> go_simp) | fail)
    simp only [List.dropLast_cons_cons, List.dropLast_singleton, List.length_cons, List.length_nil]
    refine wpAnyH_take (i := 0) (v := ?_) rfl (by kernel_rfl) (by kernel_rfl) (by kernel_rfl) (fun _ _ _ h => h) (Or.inl ⟨by rfl, ?_⟩) (by assumption) ?_
    rotate_left
    · intro w hSw
      simp only [List.getElem_toArray, List.getElem_cons_zero]
      (try dsimp only at hSw)
      go_simp
      first | done | (with_reducible rfl)
    simp only [List.getElem_toArray, List.getElem_cons_zero, Act.put, List.setIfInBounds_toArray, List.set_cons_zero, List.set_cons_succ]
    refine wpAnyH_take (i := 1) (v := ?_) rfl (by kernel_rfl) (by kernel_rfl) (by kernel_rfl) (fun _ _ _ h => h) (Or.inl ⟨by rfl, ?_⟩) (by assumption) ?_
    rotate_left
    · intro w hSw
      simp only [List.getElem_toArray, List.getElem_cons_succ, List.getElem_cons_zero]
      (try dsimp only at hSw)
      go_simp
      first | done | (with_reducible rfl)
    simp only [List.getElem_toArray, List.getElem_cons_succ, List.getElem_cons_zero, Act.put, List.setIfInBounds_toArray, List.set_cons_zero, List.set_cons_succ]
    refine wpAnyH_take (i := 2) (v := ?_) rfl (by kernel_rfl) (by kernel_rfl) (by kernel_rfl) (fun _ _ _ h => h) (Or.inl ⟨by rfl, ?_⟩) (by assumption) ?_
    rotate_left
    · intro w hSw
      simp only [List.getElem_toArray, List.getElem_cons_succ, List.getElem_cons_zero]
      (try dsimp only at hSw)
      go_simp
      first | done | (with_reducible rfl)
    simp only [List.getElem_toArray, List.getElem_cons_succ, List.getElem_cons_zero, Act.put, List.setIfInBounds_toArray, List.set_cons_zero, List.set_cons_succ]
    refine wpAnyH_take (i := 3) (v := ?_) rfl (by kernel_rfl) (by kernel_rfl) (by kernel_rfl) (fun _ _ _ h => h) (Or.inl ⟨by rfl, ?_⟩) (by assumption) ?_
    rotate_left
    · intro w hSw
      simp only [List.getElem_toArray, List.getElem_cons_succ, List.getElem_cons_zero]
      (try dsimp only at hSw)
      go_simp
      first | done | (with_reducible rfl)
    simp only [List.getElem_toArray, List.getElem_cons_succ, List.getElem_cons_zero, Act.put, List.setIfInBounds_toArray, List.set_cons_zero, List.set_cons_succ]
    refine wpAnyH_take (i := 4) (v := ?_) rfl (by kernel_rfl) (by kernel_rfl) (by kernel_rfl) (fun _ _ _ h => h) (Or.inl ⟨by rfl, ?_⟩) (by assumption) ?_
    rotate_left
    · intro w hSw
      simp only [List.getElem_toArray, List.getElem_cons_succ, List.getElem_cons_zero]
      (try dsimp only at hSw)
      go_simp
      first | done | (with_reducible rfl)
    simp only [List.getElem_toArray, List.getElem_cons_succ, List.getElem_cons_zero, Act.put, List.setIfInBounds_toArray, List.set_cons_zero, List.set_cons_succ]
    refine wpAnyH_take (i := 5) (v := ?_) rfl (by kernel_rfl) (by kernel_rfl) (by kernel_rfl) (fun _ _ _ h => h) (Or.inl ⟨by rfl, ?_⟩) (by assumption) ?_
    rotate_left
    · intro w hSw
      simp only [List.getElem_toArray, List.getElem_cons_succ, List.getElem_cons_zero]
      (try dsimp only at hSw)
      go_simp
      first | done | (with_reducible rfl)
    simp only [List.getElem_toArray, List.getElem_cons_succ, List.getElem_cons_zero, Act.put, List.setIfInBounds_toArray, List.set_cons_zero, List.set_cons_succ]
    refine wpAnyH_take (i := 6) (v := ?_) rfl (by kernel_rfl) (by kernel_rfl) (by kernel_rfl) (fun _ _ _ h => h) (Or.inl ⟨by rfl, ?_⟩) (by assumption) ?_
    rotate_left
    · intro w hSw
      simp only [List.getElem_toArray, List.getElem_cons_succ, List.getElem_cons_zero]
      (try dsimp only at hSw)
      go_simp
      first | done | (with_reducible rfl)
    simp only [List.getElem_toArray, List.getElem_cons_succ, List.getElem_cons_zero, Act.put, List.setIfInBounds_toArray, List.set_cons_zero, List.set_cons_succ]
    refine wpAnyH_take (i := 7) (v := ?_) rfl (by kernel_rfl) (by kernel_rfl) (by kernel_rfl) (fun _ _ _ h => h) (Or.inl ⟨by rfl, ?_⟩) (by assumption) ?_
    rotate_left
    · intro w hSw
      simp only [List.getElem_toArray, List.getElem_cons_succ, List.getElem_cons_zero]
      (try dsimp only at hSw)
      go_simp
      first | done | (with_reducible rfl)
    simp only [List.getElem_toArray, List.getElem_cons_succ, List.getElem_cons_zero, Act.put, List.setIfInBounds_toArray, List.set_cons_zero, List.set_cons_succ]
    refine wpAnyH_take (i := 8) (v := ?_) rfl (by kernel_rfl) (by kernel_rfl) (by kernel_rfl) (fun _ _ _ h => h) (Or.inl ⟨by rfl, ?_⟩) (by assumption) ?_
    rotate_left
    · intro w hSw
      simp only [List.getElem_toArray, List.getElem_cons_succ, List.getElem_cons_zero]
      (try dsimp only at hSw)
      go_simp
      first | done | (with_reducible rfl)
    simp only [List.getElem_toArray, List.getElem_cons_succ, List.getElem_cons_zero, Act.put, List.setIfInBounds_toArray, List.set_cons_zero, List.set_cons_succ]
    refine wpAnyH_ready (rs := [9]) (by kernel_rfl) (by simp) ?_
    refine AllReadyH.cons rfl (fun KZ hKZ => ?_) AllReadyH.nil
    simp only [List.getElem_toArray, List.getElem_cons_succ, List.getElem_cons_zero]
    go_simp
    refine hKZ.out _ _ ?_ (fun hHeld => ?_)
    · (try dsimp only)
      (first | exact Kd | exact HK9.out | (refine ⟨?_, ?_, ?_⟩ <;> go_simp) | fail)
    clear hKZ KZ
    (try simp only [List.getElem_toArray, List.getElem_cons_succ, List.getElem_cons_zero, Act.put, List.setIfInBounds_toArray, List.set_cons_zero, List.set_cons_succ])
    refine wpAnyH_ready (rs := [10]) (by kernel_rfl) (by simp) ?_
    refine AllReadyH.cons rfl (fun KZ hKZ => ?_) AllReadyH.nil
    ((refine step_append_move (by rfl) (.tmp 39) (.tmp 48) (by rfl) w.heap.size (.slice A8 ll.length q8) ll ph.v a _ w5.heap.size (by rfl) (HO5.out.below ((Below.refl w5.heap.size w5).drew.alloc (by simp) _) (fun k hk => by have := HAV.out k hk; omega)) (by rfl) (heap_alloc_new _ _) (by simp; omega) (by omega) ?_; intro g cap w9 hown9 hg9 hat9; have HO9 := Lib.hid hown9; have HG9 : Hid (w5.grownBy w9 (Value.slice A8 ll.length q8).ownBlock) := ((show w5.grownBy w5.drew _ from ⟨rfl, rfl, rfl, Nat.le_refl _, fun _ _ _ => rfl⟩).trans (World.grownBy_alloc w5.drew _ _)).trans hg9; have HK9 : Hid ((fun w' => w'.cell? ⟨q, 0, none⟩ = some (.int .i64 ph.v) ∧ w'.cell? ⟨q, 1, none⟩ = some (.slice (some ⟨b4, off4, none⟩) ph.args.length q9) ∧ w'.cell? ⟨b4, off4 + way, none⟩ = some (.int .i64 a)) w9) := ⟨(World.cell?_of_block (a := ⟨q, 0, none⟩) (HG9.out.block _ hq5 (fun e => by have := (HAV.out q e.symm).2; omega))).trans Kd.1, (World.cell?_of_block (a := ⟨q, 1, none⟩) (HG9.out.block _ hq5 (fun e => by have := (HAV.out q e.symm).2; omega))).trans Kd.2.1, (World.cell?_of_block (a := ⟨b4, off4 + way, none⟩) (HG9.out.block _ hb45 (fun e => by have h1 := (HAV.out b4 e.symm).1; have h2 := HBL.out; omega))).trans Kd.2.2⟩; clear hown9 hg9 hat9))
    refine hKZ.out _ _ ?_ (fun hHeld => ?_)
    · (try dsimp only)
      (first | exact Kd | exact HK9.out | (refine ⟨?_, ?_, ?_⟩ <;> go_simp) | fail)
    clear hKZ KZ
    (try simp only [List.getElem_toArray, List.getElem_cons_succ, List.getElem_cons_zero, Act.put, List.setIfInBounds_toArray, List.set_cons_zero, List.set_cons_succ])
    refine wpAnyH_done (by kernel_rfl) ?_ _
    refine offQ_last rfl (fun KL hKL => ?_)
    go_simp
    refine hKL.out _ _ ?_
    have HB9 : Hid (Below w.heap.size w w9) := HB5.out.grown HG9.out hsz5 fun kk hkk => (HAV.out kk hkk).1
    have HO10 : Hid (OM w9 w.heap.size (.slice (some ⟨g, 0, none⟩) (ll.length + 1) cap) (phM way (x.phis.take (j + 1)))) := by rw [HTJ.out]; exact HO9.out
    clear HK9 HO9 HG9 Kd k0 k1 e2' HTJ
    go_wp2_with fail
    go_roundw
    case rel => exact ⟨j + 1, by omega, by go_num, HB9.out, HO10.out⟩
    case measure => simp [intOf]; omega
end

end Go.Proofs.YtnjmlhokkhkaaaaGreat
