/- toIns of the laws. -/
import Derived.Test.YtbghcoihndlihaaLeaf
namespace Go.Proofs.Ytbghcoihndlihaa
open Go.ChangeShapes Go.WideShapes Go.ChangeAt Go.RowKit Go.Joins

set_option maxHeartbeats 400000 in
theorem toIns_any (o v a b : Int) (w : World) :
    Calls Try.prog 82 #[.agg #[.int .i64 o, .int .i64 v, .int .i64 a, .int .i64 b]] w fun e w' => e = .returned (.agg #[.int .i64 o, .int .i64 v, .int .i64 a, .int .i64 b]) ∧ Below w.heap.size w w' := by
  go_enter Try.func82, Try.ntmps82
  go_wp2
  refine bodyPost_ret (v := .agg #[.int .i64 o, .int .i64 v, .int .i64 a, .int .i64 b]) (by simp [results, Try.results82, go_sem]) rfl ⟨rfl, ?_⟩
  repeat (first | exact Below.refl _ _ | refine Below.alloc ?_ (by first | (simp; done) | (simp; omega)) _ | refine Below.setCell ?_ (by simp) _)

end Go.Proofs.Ytbghcoihndlihaa
