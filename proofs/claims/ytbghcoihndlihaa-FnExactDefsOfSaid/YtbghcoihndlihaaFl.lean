/- The cells of pairs. -/
import Derived.Test.YtbghcoihndlihaaEq
import Derived.Test.YtbghcoihndlihaaFr
import Derived.Test.YtbghcoihndlihaaObMore
import Derived.Deep.RegionHeld3
import Derived.Maps.AppendAt
namespace Go.Proofs.Ytbghcoihndlihaa
open Go.ChangeShapes Go.WideShapes Go.ChangeAt Go.RowKit Go.Joins

/-- The cells of edges (dst: From; src: To). -/
def fl (es : List MoveD) : List Value := es.flatMap fun e => [iv e.dst, iv e.src]
theorem fl_nil : fl [] = [] := rfl
theorem fl_cons (e : MoveD) (es : List MoveD) : fl (e :: es) = iv e.dst :: iv e.src :: fl es := rfl
theorem fl_append (a b : List MoveD) : fl (a ++ b) = fl a ++ fl b := by simp [fl, List.flatMap_append]
theorem fl_len : ∀ (es : List MoveD), (fl es).length = es.length * 2
  | [] => rfl
  | e :: es => by rw [fl_cons]; simp [fl_len es]; omega
theorem fl_get : ∀ {es : List MoveD} {k : Nat} {e : MoveD}, es[k]? = some e → (fl es)[k * 2]? = some (iv e.dst) ∧ (fl es)[k * 2 + 1]? = some (iv e.src)
  | [], k, e, h => by simp at h
  | a :: es, 0, e, h => by
    simp at h
    subst h
    exact ⟨rfl, rfl⟩
  | a :: es, k + 1, e, h => by
    have := fl_get (es := es) (k := k) (e := e) (by simpa using h)
    rw [fl_cons, show (k + 1) * 2 = k * 2 + 1 + 1 by omega]
    simpa using this

/-- Edges that are numbered on from k. -/
def markE (k : Int) (n : Nat) : List MoveD := (List.range n).map fun (i : Nat) => ⟨k + ((i * 2 : Nat) : Int), k + ((i * 2 : Nat) : Int) + 1⟩
theorem markE_length (k : Int) (n : Nat) : (markE k n).length = n := by simp [markE]
theorem markE_get (k : Int) {n j : Nat} (h : j < n) : (markE k n)[j]? = some ⟨k + ((j * 2 : Nat) : Int), k + ((j * 2 : Nat) : Int) + 1⟩ := by simp [markE, h]
theorem markE_zero (k : Int) : markE k 0 = [] := rfl
theorem markE_succ (k : Int) (j : Nat) : markE k (j + 1) = markE k j ++ [⟨k + ((j * 2 : Nat) : Int), k + ((j * 2 : Nat) : Int) + 1⟩] := by simp [markE, List.range_succ]
theorem set_two {α : Type} (A R : List α) (x y u v : α) (j : Nat) (h : A.length = j) : ((A ++ x :: y :: R).set j u).set (j + 1) v = A ++ u :: v :: R := by
  subst h
  rw [List.set_append_right _ _ (Nat.le_refl _), Nat.sub_self, List.set_cons_zero, List.set_append_right _ _ (by omega), show A.length + 1 - A.length = 1 by omega]
  rfl
theorem set_stepE (k : Int) (es : List MoveD) {j : Nat} (h : j < es.length) :
    ((fl (markE k j ++ es.drop j)).set (j * 2) (iv (k + ((j * 2 : Nat) : Int)))).set (j * 2 + 1) (iv (k + ((j * 2 : Nat) : Int) + 1)) = fl (markE k (j + 1) ++ es.drop (j + 1)) := by
  rw [List.drop_eq_getElem_cons h, fl_append, fl_cons, set_two _ _ _ _ _ _ _ (by rw [fl_len, markE_length]), markE_succ, fl_append, fl_append, List.append_assoc]
  rfl

end Go.Proofs.Ytbghcoihndlihaa
