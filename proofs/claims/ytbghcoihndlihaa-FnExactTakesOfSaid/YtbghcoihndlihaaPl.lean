/- Rows of places: how they read, whose they are, and one more. -/
import Derived.Test.YtbghcoihndlihaaFl
import Derived.Deep.AppendLies
namespace Go.Proofs.Ytbghcoihndlihaa
open Go.ChangeShapes Go.WideShapes Go.ChangeAt Go.RowKit Go.Joins

/-- The slice value v is the call's own, from block B on, and reads as the places es. -/
def OP (w : World) (B : Nat) (v : Value) (es : List MoveD) : Prop := w.ownsRow B 43 2 v es.length (fl es)
theorem OP.lt {w : World} {B : Nat} {v : Value} {es : List MoveD} (h : OP w B v es) : ∀ k, v.ownBlock = some k → B ≤ k ∧ k < w.heap.size := World.ownsRow.lt h
theorem OP.fw {w w' : World} {B : Nat} {v : Value} {xs : List MoveD} {P : Nat → Prop} (h : OP w B v xs) (hf : Fw P w w') (hn : ∀ k, v.ownBlock = some k → ¬ P k) : OP w' B v xs := own_fw h hf hn
theorem OP.drewN {w : World} {B : Nat} {v : Value} {xs : List MoveD} (h : OP w B v xs) (n : Nat) : OP (w.drewN n) B v xs := h
theorem OP.grown {w w' : World} {B : Nat} {v : Value} {xs : List MoveD} (h : OP w B v xs) {row : Option Nat} (hg : w.grownBy w' row) (hne : v.ownBlock = none ∨ v.ownBlock ≠ row) : OP w' B v xs := World.ownsRow.kept h hg hne
theorem OP.below {w w' : World} {B B' : Nat} {v : Value} {xs : List MoveD} (h : OP w B v xs) (hb : Below B' w w') (hB : ∀ k, v.ownBlock = some k → k < B') : OP w' B v xs := by
  obtain ⟨h1, h2⟩ := h
  refine ⟨h1, ?_⟩
  rcases h2 with h2 | ⟨g, cap, cur, rfl, hg, hh, r⟩
  · exact .inl h2
  · exact .inr ⟨g, cap, cur, rfl, hg, (hb.block g (hB g rfl)).trans hh, r⟩
theorem OP.marked {D : Nat → Prop} {w w' : World} {B : Nat} {v : Value} {xs : List MoveD} (h : OP w B v xs) (hm : Marked D w w') (hn : ∀ k, v.ownBlock = some k → ¬ D k) : OP w' B v xs := by
  have hlt := h.lt
  obtain ⟨h1, h2⟩ := h
  refine ⟨h1, ?_⟩
  rcases h2 with h2 | ⟨g, cap, cur, rfl, hg, hh, r⟩
  · exact .inl h2
  · exact .inr ⟨g, cap, cur, rfl, hg, (hm.far g (hlt g rfl).2 (hn g rfl)).trans hh, r⟩
/-- It reads as a row. -/
theorem OP.row {w : World} {B : Nat} {v : Value} {es : List MoveD} (h : OP w B v es) : Row w (Zn.old w.heap.size) 2 EMove v es := by
  have h0 := h
  rcases h.2 with ⟨rfl, hn⟩ | ⟨g, cap, cur, rfl, _, hg, hnc, hcm, hs, ht⟩
  · exact ⟨by omega, none, 0, by rw [hn], fun hne => absurd (List.length_eq_zero_iff.1 hn) hne⟩
  · refine ⟨by rw [maxLen_is] at hcm; omega, _, cap, rfl, fun _ => ⟨g, 0, rfl, (Array.getElem?_eq_some_iff.1 hg).1, fun k e he => ⟨_, rfl, fun j u hu => ⟨?_, fun h => by cases h⟩⟩⟩⟩
    have hk := (List.getElem?_eq_some_iff.1 he).1
    have hget := fl_get he
    match j, hu with
    | 0, hu =>
      have hu' : iv e.dst = u := by simpa [iv] using hu
      rw [← hu', World.ownsRow.cellAt h0 _ (by omega), Nat.zero_add, Nat.add_zero]
      exact hget.1
    | 1, hu =>
      have hu' : iv e.src = u := by simpa [iv] using hu
      rw [← hu', World.ownsRow.cellAt h0 _ (by omega), Nat.zero_add]
      exact hget.2
    | j + 2, hu => simp at hu
theorem OP.form {w : World} {B : Nat} {v : Value} {es : List MoveD} (h : OP w B v es) : ∃ A c, v = .slice A es.length c := by
  obtain ⟨_, A, c, rfl, _⟩ := h.row
  exact ⟨A, c, rfl⟩

theorem info_place : (Try.prog.info? 43).map (fun i => (i.zero, i.size, i.bytes)) = some (some (.agg #[.int .i64 0, .int .i64 0]), 2, 16) := by kernel_rfl

theorem place_news (w : World) (x y : Int) : ∀ j u, [Value.int .i64 x, Value.int .i64 y][j]? = some u → (w.alloc (.cells #[.int .i64 x, .int .i64 y] 43)).cell? ((⟨w.heap.size, 0, none⟩ : Addr).add j) = some u := World.news_of_block (heap_alloc_new w _)

theorem wpList_append_place {ops : Array Oper} {rest : List Oper} {o : Oper} {a : Act} {Q : Exit → Act → World → Prop} (hgd : o.guard = none) (s x : Operand)
    (ho : o.op = .call { callee := .builtin .append, args := #[s, x], argTypes := #[26, 26] })
    (B : Nat) (v : Value) (es : List MoveD) (p q : Int) (w : World) (g : Nat) (hg : w.heap.size = g) (hs : a.eval s = v) (hown : OP w B v es) (hx : a.eval x = .slice (some ⟨g, 0, none⟩) 1 1) (hb : B ≤ w.heap.size) (hlen : es.length ≤ 1048576)
    (h : ∀ v' w', OP w' B v' (es ++ [⟨p, q⟩]) → w.grownBy w' v.ownBlock → (v'.ownBlock = v.ownBlock ∨ ∃ k, v'.ownBlock = some k ∧ w.heap.size ≤ k) → wpList Try.prog ops Q rest (a.put o.dst v') w') :
    wpList Try.prog ops Q (o :: rest) a (w.alloc (.cells #[.int .i64 p, .int .i64 q] 43)) := by
  subst hg
  obtain ⟨i0, hi, hz0, hz1, hz2⟩ := info_parts info_place
  refine wpList_append_own_at (P := Try.prog) _ hgd s x _ ho B 43 i0 (.agg #[.int .i64 0, .int .i64 0]) 2 16 Try.underlying26 hi hz0 hz1 hz2 rfl (by decide) v es.length (fl es) hs (World.ownsRow.alloc hown _) ⟨w.heap.size, 0, none⟩ 1 1 [.int .i64 p, .int .i64 q] hx rfl (place_news w p q) (by simp [Value.oneCell']) (by rw [maxLen_is]; omega) (by omega) (by simp; omega) ?_
  intro v' w' hown' hgr _ hat
  refine h v' w' ?_ ((World.grownBy_alloc w _ _).trans hgr) ?_
  · unfold OP
    rw [fl_append, List.length_append]
    exact hown'
  · rcases hat with h | h
    · exact .inl h
    · exact .inr ⟨_, h, by simp⟩

theorem OP_lit0 (w : World) {B g : Nat} (hg : w.heap.size = g) (hB : B ≤ g) : OP (w.alloc (.cells #[] 43)) B (.slice (some ⟨g, 0, none⟩) 0 0) [] := by
  subst hg
  exact World.ownsRow_lit (base := B) (e := 43) (size := 2) w #[] 0 hB (by simp) rfl

def GivesPl (es : List MoveD) (w : World) (e : Ending) (w' : World) : Prop := ∃ r, e = .returned r ∧ OP w' w.heap.size r es ∧ Below w.heap.size w w'

end Go.Proofs.Ytbghcoihndlihaa
