/- The fields of a walk. -/
import Derived.Test.YteikpekffgifoaaDoorLaw
namespace Go.Proofs.YteikpekffgifoaaDoor
open Go.ChangeShapes Go.WideShapes Go.ChangeAt Go.RowKit Go.Joins

theorem field_walk1 (A0 A1 A2 : Option Addr) (n0 c0 n1 c1 n2 c2 : Nat) (w : World) : (Instr.field 80 (.agg #[.slice A0 n0 c0, .slice A1 n1 c1, .slice A2 n2 c2]) 1).run Tryd.prog w = .ok (.slice A1 n1 c1) w := by kernel_rfl
theorem field_walk2 (A0 A1 A2 : Option Addr) (n0 c0 n1 c1 n2 c2 : Nat) (w : World) : (Instr.field 80 (.agg #[.slice A0 n0 c0, .slice A1 n1 c1, .slice A2 n2 c2]) 2).run Tryd.prog w = .ok (.slice A2 n2 c2) w := by kernel_rfl

end Go.Proofs.YteikpekffgifoaaDoor
