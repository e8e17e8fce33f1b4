/- movesWithin of the program. -/
import Derived.Test.YtbghcoihndlihaaL2a
import Derived.Laws.CopyRow
namespace Go.Proofs.Ytbghcoihndlihaa
open Go.ChangeShapes Go.WideShapes Go.ChangeAt Go.RowKit Go.Joins

theorem zeros_given : Try.zeroCells123 = Array.replicate 150 (.bool false) := by kernel_rfl

theorem run_store_same {P : Program} (w : World) (cs : Array Value) (t : TypeId) (h : ∀ v ∈ cs.toList, v.oneCell' = true) : (storeCells ⟨w.heap.size, 0, none⟩ cs.toList).run P (w.alloc (.cells cs t)) = .ok () (w.alloc (.cells cs t)) := by
  have hg := heap_alloc_new w (.cells cs t)
  rw [run_storeCells_at P w.heap.size 0 t cs.toList 0 cs (w.alloc (.cells cs t)) hg (by simp) h]
  have e : (cs.toList.take (0 + 0) ++ cs.toList ++ cs.toList.drop (0 + 0 + cs.toList.length)).toArray = cs := by rw [List.drop_eq_nil_of_le (by simp)]; simp
  rw [e, setRow_self _ _ _ _ _ hg]

def givenB (ms : List MoveD) (k : Nat) (d : Nat) : Bool := (ms.take k).any fun m => m.dst == (d : Int)
theorem givenB_succ {ms : List MoveD} {k : Nat} {x : MoveD} (h : ms[k]? = some x) (d : Nat) : givenB ms (k + 1) d = (givenB ms k d || (x.dst == (d : Int))) := by
  unfold givenB
  rw [List.take_add_one, h]
  simp
theorem givenB_yes {ms : List MoveD} {k d : Nat} (h : givenB ms k d = true) : ∃ j m, j < k ∧ ms[j]? = some m ∧ m.dst = d := by
  unfold givenB at h
  rw [List.any_eq_true] at h
  obtain ⟨m, hm, hd⟩ := h
  obtain ⟨j, hj⟩ := List.mem_iff_getElem?.1 hm
  have hjk : j < k := by
    rcases Nat.lt_or_ge j k with h | h
    · exact h
    · rw [List.getElem?_take, if_neg (by omega)] at hj; cases hj
  rw [List.getElem?_take, if_pos hjk] at hj
  exact ⟨j, m, hjk, hj, by simpa using hd⟩
theorem givenB_no {ms : List MoveD} {k d : Nat} (h : givenB ms k d = false) {j : Nat} {m : MoveD} (hj : j < k) (hm : ms[j]? = some m) : m.dst ≠ d := by
  intro e
  unfold givenB at h
  rw [List.any_eq_false] at h
  refine h m (List.mem_iff_getElem?.2 ⟨j, ?_⟩) (by simpa using e)
  rw [List.getElem?_take, if_pos hj]; exact hm

/-- Row g tells which names have been given. -/
def Given (w : World) (g : Nat) (ms : List MoveD) (k : Nat) : Prop := ∃ cur : Array Value, w.heap[g]? = some (.cells cur 123 (0, 0)) ∧ cur.size = 150 ∧ ∀ d, d < 150 → cur[d]? = some (.bool (givenB ms k d))
theorem Given.start {w : World} (ms : List MoveD) : Given (w.alloc (.cells Try.zeroCells123 123)) w.heap.size ms 0 := by
  refine ⟨_, heap_alloc_new w _, by rw [zeros_given]; simp, fun d hd => ?_⟩
  rw [zeros_given]
  simp [givenB, hd]
theorem Given.cell {w : World} {g : Nat} {ms : List MoveD} {k d : Nat} (h : Given w g ms k) (hd : d < 150) : w.cell? ⟨g, d, none⟩ = some (.bool (givenB ms k d)) := by
  obtain ⟨cur, h1, _, h3⟩ := h
  exact (cell_of_row w g _ cur _ (0, 0) h1).trans (h3 d hd)
theorem Given.frozen {w : World} {g : Nat} {ms : List MoveD} {k : Nat} (h : Given w g ms k) (d : Nat) : w.frozen? ⟨g, d, none⟩ = false := by
  obtain ⟨cur, h1, _⟩ := h
  simp [World.frozen?, h1]
theorem Given.keep {w w' : World} {g : Nat} {ms : List MoveD} {k : Nat} (h : Given w g ms k) (hw : w'.heap[g]? = w.heap[g]?) : Given w' g ms k := by
  obtain ⟨cur, h1, h2⟩ := h
  exact ⟨cur, hw.trans h1, h2⟩
theorem Given.step {w : World} {g : Nat} {ms : List MoveD} {k d : Nat} {x : MoveD} (h : Given w g ms k) (hx : ms[k]? = some x) (hd : x.dst = d) : Given (w.setCell ⟨g, d, none⟩ (.bool true)) g ms (k + 1) := by
  obtain ⟨cur, h1, h2, h3⟩ := h
  refine ⟨cur.setIfInBounds d (.bool true), heap_setCell_same w g d cur _ _ h1, by simpa using h2, fun d' hd' => ?_⟩
  rw [givenB_succ hx, Array.getElem?_setIfInBounds]
  by_cases e : d = d'
  · subst e
    rw [if_pos rfl, if_pos (by omega), hd]
    simp
  · rw [if_neg e, h3 d' hd']
    have : (x.dst == (d' : Int)) = false := by simp; omega
    rw [this, Bool.or_false]

set_option maxRecDepth 10000 in
set_option maxHeartbeats 1000000 in
theorem movesWithin_any (v : Value) (ms : List MoveD) (names : Int) (w : World) (Z : Zn) (hv : Row w Z 2 EMove v ms) (hD : ∀ b, Z.D b → b < w.heap.size) (h1 : names ≤ 150) :
    Calls Try.prog 84 #[v, .int .i64 names] w (GivesB (MovesP names ms) w) := by
  obtain ⟨hle, A, c, rfl, hx⟩ := hv
  by_cases hlen : ms.length ≤ 40
  case neg =>
    have h' : (40 : Int) < (ms.length : Int) := by omega
    have HN : Hid (¬ MovesP names ms) := fun h => hlen h.1
    clear hlen
    go_enter Try.func84, Try.ntmps84
    go_wp2
    go_ret
    exact gives_no HN.out (Below.refl _ _)
  have h' : (ms.length : Int) ≤ 40 := by omega
  have hst := run_store_same (P := Try.prog) w Try.zeroCells123 123 (by rw [zeros_given]; simp [Value.oneCell'])
  go_enter Try.func84, Try.ntmps84
  go_wp2
  clear hst
  go_loopw [14] (fun i wr => ∃ k : Nat, k ≤ ms.length ∧ i = .int .i64 k ∧ Hid (Below w.heap.size w wr) ∧ w.heap.size < wr.heap.size ∧ Hid (Given wr w.heap.size ms k) ∧ Hid (∀ (j : Nat) m, j < k → ms[j]? = some m → MoveP names m) ∧ Hid (∀ (i j : Nat) m m', i < k → j < i → ms[i]? = some m → ms[j]? = some m' → m'.dst ≠ m.dst)) (fun i _ => ms.length - (intOf i).toNat)
  case atStart => exact ⟨0, Nat.zero_le _, rfl, (Below.refl _ _).alloc (Nat.le_refl _) _, by simp, Given.start ms, fun _ _ h => absurd h (by omega), fun _ _ _ _ h => absurd h (by omega)⟩
  case round =>
    obtain ⟨k, hk, rfl, HB, hgz, HG, H1, H2⟩ := hrel
    by_cases hlt : k < ms.length
    case neg =>
      obtain rfl : k = ms.length := by omega
      go_wp2
      go_ret
      exact gives_yes ⟨hlen, fun j m hm => H1.out j m (List.getElem?_eq_some_iff.1 hm).1 hm, fun i j m m' hj hm hm' => H2.out i j m m' (List.getElem?_eq_some_iff.1 hm).1 hj hm hm'⟩ HB.out
    have hxk : ms[k]? = some ms[k] := List.getElem?_eq_getElem hlt
    generalize ms[k] = x at hxk
    obtain ⟨b, off, rfl, hDb, hrow⟩ := hx (by rintro rfl; simp at hlt)
    obtain ⟨cs, rfl, hcs⟩ := hrow k x hxk
    have hbl := hD b hDb
    have c0 : wr.cell? ⟨b, off + k * 2, none⟩ = some (.int .i64 x.dst) := (HB.out.cell (p := ⟨b, _, none⟩) hbl).trans (hcs 0 _ rfl).1
    have c1 : wr.cell? ⟨b, off + k * 2 + 1, none⟩ = some (.int .i64 x.src) := (HB.out.cell (p := ⟨b, _, none⟩) hbl).trans (hcs 1 _ rfl).1
    have Hxk := Lib.hid hxk
    clear hcs hx hxk hrow
    have hBm : ∀ T : Obj, Below w.heap.size w (wr.alloc T) := fun T => HB.out.alloc (by omega) _
    have HBm := Lib.hid hBm
    clear hBm
    cases hd : isBelowB x.dst names
    · have HN : Hid (¬ MovesP names ms) := movesP_first Hxk.out (moveP_dst hd)
      go_wp2_with (go_at_call 21; refine (isBelow_any _ _ _).mono ?_; rintro e w' ⟨rfl, rfl⟩)
      go_ret
      exact gives_no HN.out (HBm.out _)
    cases hs : isBelowB x.src names
    · have HN : Hid (¬ MovesP names ms) := movesP_first Hxk.out (moveP_src hs)
      go_wp2_with (go_at_call 21; refine (isBelow_any _ _ _).mono ?_; rintro e w' ⟨rfl, rfl⟩)
      go_ret
      exact gives_no HN.out (HBm.out _)
    have hdd : 0 ≤ x.dst ∧ x.dst < names := by simpa [isBelowB] using hd
    have H1' : Hid (∀ (j : Nat) m, j < k + 1 → ms[j]? = some m → MoveP names m) := fun j m hj hm => by
      by_cases hjk : j = k
      · subst hjk
        rw [Hxk.out] at hm
        injection hm with hm
        subst hm
        exact ⟨hd, hs⟩
      · exact H1.out j m (by omega) hm
    obtain ⟨dst, src⟩ := x
    simp only at hdd hd hs c0 c1
    obtain ⟨d, rfl⟩ : ∃ d : Nat, dst = d := ⟨dst.toNat, by omega⟩
    have hdl : d < 150 := by omega
    have hdl' : (d : Int) < 150 := by omega
    have hd0 : 0 ≤ (d : Int) := by omega
    have g0 := HG.out.cell (d := d) hdl
    have gf := HG.out.frozen d
    clear hdd
    cases hgv : givenB ms k d
    · rw [hgv] at g0
      have H2' : Hid (∀ (i j' : Nat) m m', i < k + 1 → j' < i → ms[i]? = some m → ms[j']? = some m' → m'.dst ≠ m.dst) := fun i j' m m' hi hj' hm hm' => by
        by_cases e : i = k
        · subst e
          rw [Hxk.out] at hm
          injection hm with hm
          subst hm
          exact givenB_no hgv hj' hm'
        · exact H2.out i j' m m' (by omega) hj' hm hm'
      clear hgv
      go_wp2_with (go_at_call 21; refine (isBelow_any _ _ _).mono ?_; rintro e w' ⟨rfl, rfl⟩)
      go_roundw
      case rel =>
        refine ⟨k + 1, by omega, by go_num, (HB.out.setCell (by simp) _).alloc (by simp; omega) _, by simp; omega, ?_, H1', H2'⟩
        exact (HG.out.step Hxk.out rfl).keep (Below.heap_alloc _ _ _ (by rw [nblk_set]; exact hgz))
      case measure => simp [intOf]; omega
    · rw [hgv] at g0
      have HN : Hid (¬ MovesP names ms) := fun h => by
        obtain ⟨j, m, hj, hm, hmd⟩ := givenB_yes hgv
        exact h.2.2 k j _ m hj Hxk.out hm hmd
      clear hgv
      go_wp2_with (go_at_call 21; refine (isBelow_any _ _ _).mono ?_; rintro e w' ⟨rfl, rfl⟩)
      go_ret
      exact gives_no HN.out (HBm.out _)

end Go.Proofs.Ytbghcoihndlihaa
