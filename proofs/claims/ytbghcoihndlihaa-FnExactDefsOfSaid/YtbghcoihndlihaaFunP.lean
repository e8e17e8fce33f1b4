/- What a right function is, in plain words; and the small functions of both sides on moves. -/
import Derived.Test.YtbghcoihndlihaaRow
import Derived.Test.YtbghcoihndlihaaEnd
import Derived.Deep.QuietTactic
import Derived.BigQuiet
namespace Go.Proofs.Ytbghcoihndlihaa
open Go.ChangeShapes Go.WideShapes Go.ChangeAt Go.RowKit Go.Joins

def InsP (names : Int) (i : InsD) : Prop := insOkB i.op i.v i.a i.b = true ∧ i.v < names ∧ ∀ u ∈ usesL i.op i.v i.a i.b, u < names
def BodyP (names : Int) (l : List InsD) : Prop := l.length ≤ 80 ∧ ∀ (j : Nat) i, l[j]? = some i → InsP names i
def MoveP (names : Int) (m : MoveD) : Prop := isBelowB m.dst names = true ∧ isBelowB m.src names = true
def MovesP (names : Int) (l : List MoveD) : Prop := l.length ≤ 40 ∧ (∀ (j : Nat) m, l[j]? = some m → MoveP names m) ∧ ∀ (i k : Nat) m m', k < i → l[i]? = some m → l[k]? = some m' → m'.dst ≠ m.dst
def PhiP (names : Int) (preds : Nat) (p : PhiD) : Prop := isBelowB p.v names = true ∧ p.args.length = preds ∧ ∀ (j : Nat) a, p.args[j]? = some a → isBelowB a names = true
def PhisP (names : Int) (preds : Nat) (l : List PhiD) : Prop := l.length ≤ 4 ∧ ∀ (j : Nat) p, l[j]? = some p → PhiP names preds p
def EndP (names : Int) (blocks : Nat) (e : EndD) : Prop := endOkB e.k e.a e.t e.l = true ∧ (e.k = 2 ∨ e.a < names) ∧ e.t < blocks ∧ e.l < blocks
def BlockP (names : Int) (blocks : Nat) (x : BlockD) : Prop := EndP names blocks x.fin ∧ MovesP names x.head ∧ MovesP names x.tail ∧ BodyP names x.body
def FrameP (f : FunD) : Prop := (1 ≤ f.blocks.length ∧ f.blocks.length ≤ 40) ∧ (0 ≤ f.names ∧ f.names ≤ 150) ∧ (0 ≤ f.params ∧ f.params ≤ 6) ∧ f.params ≤ f.names ∧ ∀ (j : Nat) x, f.blocks[j]? = some x → BlockP f.names f.blocks.length x

/-- Is j in the list? -/
def hasB (xs : List Int) (j : Int) : Bool := decide (j ∈ xs)
theorem hasB_iff {xs : List Int} {j : Int} : hasB xs j = true ↔ j ∈ xs := by simp [hasB]

/-- Is j a target of the i-th block? -/
def hasT (g : EndD → List Int) (xs : List BlockD) (j : Int) (i : Nat) : Bool :=
  match xs[i]? with
  | some x => hasB (g x.fin) j
  | none => false
/-- The first k blocks of which j is a target. -/
def predsK (g : EndD → List Int) (xs : List BlockD) (k : Nat) (j : Int) : List Int := ((List.range k).filter (hasT g xs j)).map fun (i : Nat) => (i : Int)
def toE (e : EndD) : List Int := toL e.k e.t e.l
def succsE (e : EndD) : List Int := succsL e.k e.a e.t e.l
def predsF (f : FunD) (j : Int) : List Int := predsK toE f.blocks f.blocks.length j
def FunP (f : FunD) : Prop := FrameP f ∧ predsF f 0 = [] ∧ (∀ x, f.blocks[0]? = some x → x.phis = []) ∧ ∀ (i : Nat) x, f.blocks[i]? = some x → PhisP f.names (predsF f i).length x.phis

theorem predsK_zero (g : EndD → List Int) (xs : List BlockD) (j : Int) : predsK g xs 0 j = [] := rfl
theorem predsK_succ (g : EndD → List Int) {xs : List BlockD} {k : Nat} {x : BlockD} (j : Int) (h : xs[k]? = some x) : predsK g xs (k + 1) j = predsK g xs k j ++ if hasB (g x.fin) j then [(k : Int)] else [] := by
  unfold predsK
  rw [List.range_succ, List.filter_append, List.map_append]
  congr 1
  have e : hasT g xs j k = hasB (g x.fin) j := by unfold hasT; rw [h]
  by_cases hc : hasB (g x.fin) j = true
  · rw [List.filter_cons_of_pos (by rw [e]; exact hc), if_pos hc]; rfl
  · rw [List.filter_cons_of_neg (by rw [e]; exact hc), if_neg hc]; rfl
theorem predsK_len (g : EndD → List Int) (xs : List BlockD) (k : Nat) (j : Int) : (predsK g xs k j).length ≤ k := by
  unfold predsK
  rw [List.length_map]
  exact Nat.le_trans (List.length_filter_le _ _) (by simp)
/-- Where the ends are right it is all one whether they are asked. -/
theorem predsK_congr {g h : EndD → List Int} {xs : List BlockD} (hg : ∀ (i : Nat) x, xs[i]? = some x → g x.fin = h x.fin) (k : Nat) (j : Int) : predsK g xs k j = predsK h xs k j := by
  unfold predsK
  congr 2
  funext i
  unfold hasT
  cases hx : xs[i]? with
  | none => rfl
  | some x =>
    show hasB (g x.fin) j = hasB (h x.fin) j
    rw [hg i x hx]

/-- The call answers whether P, and old memory stays. -/
def GivesB (P : Prop) (w : World) (e : Ending) (w' : World) : Prop := ∃ b : Bool, e = .returned (.bool b) ∧ (b = true ↔ P) ∧ Below w.heap.size w w'
theorem gives_yes {P : Prop} {w w' : World} (h : P) (hb : Below w.heap.size w w') : GivesB P w (.returned (.bool true)) w' := ⟨true, rfl, by simpa using h, hb⟩
theorem gives_no {P : Prop} {w w' : World} (h : ¬ P) (hb : Below w.heap.size w w') : GivesB P w (.returned (.bool false)) w' := ⟨false, rfl, by simpa using h, hb⟩

theorem hasB_snoc (xs : List Int) (j : Int) (k : Nat) (x : Int) (h : xs[k]? = some x) (hk : ∀ i, i < k → xs[i]? ≠ some j) : (hasB xs j = true ∧ x = j) ∨ (x ≠ j ∧ ∀ i, i < k + 1 → xs[i]? ≠ some j) := by
  by_cases hx : x = j
  · exact .inl ⟨by rw [hasB_iff]; subst hx; exact List.mem_of_getElem? h, hx⟩
  · refine .inr ⟨hx, fun i hi => ?_⟩
    by_cases hik : i = k
    · subst hik; rw [h]; intro e; exact hx (Option.some.inj e)
    · exact hk i (by omega)
theorem not_hasB {xs : List Int} {j : Int} (h : ∀ i, i < xs.length → xs[i]? ≠ some j) : hasB xs j = false := by
  cases hc : hasB xs j with
  | false => rfl
  | true =>
    rw [hasB_iff] at hc
    obtain ⟨i, hi⟩ := List.mem_iff_getElem?.1 hc
    exact absurd hi (h i (List.getElem?_eq_some_iff.1 hi).1)

set_option maxHeartbeats 400000 in
theorem l1Has_any (v : Value) (xs : List Int) (j : Int) (w : World) (hv : RI w v xs) :
    Calls Try.prog 58 #[v, .int .i64 j] w fun e w' => e = .returned (.bool (hasB xs j)) ∧ w = w' := by
  obtain ⟨hl, A, c, rfl, hx⟩ := hv
  go_enter Try.func58, Try.ntmps58
  go_wp2
  go_loop [5] (fun i => ∃ k : Nat, k ≤ xs.length ∧ i = .int .i64 k ∧ Hid (∀ i, i < k → xs[i]? ≠ some j)) (fun i => xs.length - (intOf i).toNat)
  case atStart => exact ⟨0, Nat.zero_le _, rfl, fun i hi => absurd hi (by omega)⟩
  case round =>
    obtain ⟨k, hk, rfl, HN⟩ := hrel
    by_cases hlt : k < xs.length
    · have hxk : xs[k]? = some xs[k] := List.getElem?_eq_getElem hlt
      generalize xs[k] = x at hxk
      obtain ⟨b, off, rfl, hx'⟩ := hx (by rintro rfl; simp at hlt)
      have hc := hx' k _ hxk
      have hs := hasB_snoc xs j k x hxk HN.out
      clear hx hx' hxk
      rcases hs with ⟨hs, rfl⟩ | ⟨hs, hn⟩
      · have HS := Lib.hid hs
        clear hs
        go_wp2
        go_ret
        exact ⟨by rw [HS.out]; rfl, rfl⟩
      · have hb : (x == j) = false := by simpa using hs
        have HN' := Lib.hid hn
        clear hs hn
        go_wp2
        go_round
        case rel => exact ⟨k + 1, by omega, by go_num, HN'⟩
        case measure => simp [intOf]; omega
    · obtain rfl : k = xs.length := by omega
      have HS := Lib.hid (not_hasB HN.out)
      go_wp2
      go_ret
      exact ⟨by rw [HS.out]; rfl, rfl⟩

set_option maxHeartbeats 400000 in
theorem l1In_below (n names : Int) (w : World) :
    Calls Try.prog 54 #[.int .i64 n, .int .i64 0, .int .i64 (names - 1)] w fun e w' => e = .returned (.bool (isBelowB n names)) ∧ w = w' := by
  have h : (decide (0 ≤ n) && decide (n ≤ names - 1)) = isBelowB n names := by unfold isBelowB; congr 1; rw [decide_eq_decide]; omega
  rw [← h]
  exact l1In_any n 0 (names - 1) w

end Go.Proofs.Ytbghcoihndlihaa
