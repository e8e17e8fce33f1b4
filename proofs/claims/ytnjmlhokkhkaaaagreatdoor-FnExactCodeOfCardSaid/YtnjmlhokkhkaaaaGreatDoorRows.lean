/-
  NARROWER THAN 'FOR EVERY INPUT', by the rows' own cells (each row's printed sentence says how): FnStrict: ifaces, laid · FnExactCodeOf: ifaces, laid.
  DERIVED. THE GIVEN ROWS OF THIS SEAT. 2 by the template 'for every input the law returns true; each argument reads behind the call as it read before'; 0 by the template 'total and deterministic' (their statements: YtnjmlhokkhkaaaaGreatDoorTotals.lean).
  GIVEN WITH THE SEED: the statements are not yours to turn. If you find one false, say at which input.
  Laid BY PROGRAM, IN A SANDBOX (cutbox-rows.mjs): the forced cells as the released guide's own fill.sh prints them over the translation 7d437707509dae49… (all of the seat's roots in one cut). By AI agents, Wed Nov 11 2026. No macro, syntax, notation, axiom, sorry.
-/
import Derived.Test.YtnjmlhokkhkaaaaGreatDoorChecked
import GoSem.Claim
import GoSem.ClaimJoined
import GoSem.ClaimMapViews
import Derived.JoinedTies
import Derived.KernelRfl
namespace Go.Proofs.YtnjmlhokkhkaaaaGreatDoor
/- THE CELL 'sum', in the pinned program and in every row, IS THE sha256 OF THE DUMP (.gsa) THAT YtnjmlhokkhkaaaaGreatDoorProg.lean LOADS. Nothing in Lean hashes anything: it is a label: what it is worth is what the hold of that sum in a sandbox is worth. -/
noncomputable def Tryz.pinned : Pinned := { name := "ytnjmlhokkhkaaaagreatdoor", sum := "7d437707509dae490981d987c55602ce55b022b52db0c56f92179e3d33f30d03", checked := Tryz.checked }
namespace Rows
def none {H : Type} : Left H := { results := [], args := [] }

/- WHAT THE LISTED PACKAGE-LEVEL VARIABLES READ AS WHEN THE CALL BEGINS. Each datum BY PROGRAM (the guide's laid-datum.mjs) off the statement by which the dump's own 'gosem.cut.vars' lays the variable. In a bare row this is a premise. The card (YtnjmlhokkhkaaaaGreatDoorCards.lean) ties it to the program's text. -/
def laid_errors_errorType {H : Type} : DataW H := .iface "internal/reflectlite.rtype" (.agg [.ptr (.lit (.string [101, 114, 114, 111, 114]))])
def laid_loop_example_g00823_impl_errBad {H : Type} : DataW H := .iface "*errors.errorString" (.ptr (.agg [.lit (.string [116, 104, 101, 32, 102, 117, 110, 99, 116, 105, 111, 110, 32, 105, 115, 32, 110, 111, 116, 32, 114, 105, 103, 104, 116])]))
def laid_loop_example_g00823_impl_errMoves {H : Type} : DataW H := .iface "*errors.errorString" (.ptr (.agg [.lit (.string [97, 32, 72, 101, 97, 100, 32, 111, 114, 32, 97, 32, 84, 97, 105, 108, 32, 105, 115, 32, 110, 111, 116, 32, 101, 109, 112, 116, 121])]))
def laid_loop_example_g00823_impl_errLost {H : Type} : DataW H := .iface "*errors.errorString" (.ptr (.agg [.lit (.string [97, 32, 98, 108, 111, 99, 107, 32, 105, 115, 32, 110, 111, 116, 32, 114, 101, 97, 99, 104, 101, 100])]))
def laid_loop_example_g00823_impl_errTwice {H : Type} : DataW H := .iface "*errors.errorString" (.ptr (.agg [.lit (.string [97, 32, 110, 97, 109, 101, 32, 105, 115, 32, 110, 111, 116, 32, 103, 105, 118, 101, 110, 32, 106, 117, 115, 116, 32, 111, 110, 99, 101])]))
def laid_loop_example_g00823_impl_errLoose {H : Type} : DataW H := .iface "*errors.errorString" (.ptr (.agg [.lit (.string [97, 32, 110, 97, 109, 101, 32, 105, 115, 32, 116, 97, 107, 101, 110, 32, 119, 104, 101, 114, 101, 32, 105, 116, 32, 105, 115, 32, 110, 111, 116, 32, 103, 105, 118, 101, 110, 32, 121, 101, 116])]))
def laid_loop_example_g00823_impl_errLarge {H : Type} : DataW H := .iface "*errors.errorString" (.ptr (.agg [.lit (.string [116, 104, 101, 32, 102, 117, 110, 99, 116, 105, 111, 110, 32, 105, 115, 32, 116, 111, 111, 32, 108, 97, 114, 103, 101])]))

/-- 'laws.FnStrict': WHATEVER THE INPUT: true; the input reads as it did. -/
def fnStrictSpec : ChangeSpec := { name := "fnStrict", vars := ["loop.example/g00823/impl.errBad", "loop.example/g00823/impl.errMoves", "loop.example/g00823/impl.errLarge", "loop.example/g00823/impl.errLost", "loop.example/g00823/impl.errTwice", "loop.example/g00823/impl.errLoose"], fn := fun _ => fun
  | [d, g1, g2, g3, g4, g5, g6] => { results := [.lit (.bool true)], args := [d], vars := [g1, g2, g3, g4, g5, g6] }
  | _ => none }
def fnStrictRow : OpenClaim := { program := "ytnjmlhokkhkaaaagreatdoor", sum := "7d437707509dae490981d987c55602ce55b022b52db0c56f92179e3d33f30d03", func := "loop.example/g00823/laws.FnStrict", spec := "fnStrict", inPlace := ["internal/reflectlite.TypeOf", "internal/reflectlite.ValueOf", "(internal/reflectlite.Value).Type", "(internal/reflectlite.Value).IsNil", "(internal/reflectlite.Value).Elem", "(internal/reflectlite.Value).Set"], unfollowed := true, recurses := true, named := ["loop.example/g00823/impl.errBad", "loop.example/g00823/impl.errMoves", "loop.example/g00823/impl.errLarge", "loop.example/g00823/impl.errLost", "loop.example/g00823/impl.errTwice", "loop.example/g00823/impl.errLoose", "errors.errorType"], ifaces := true, apart := false, laid := [("errors.errorType", laid_errors_errorType), ("loop.example/g00823/impl.errBad", laid_loop_example_g00823_impl_errBad), ("loop.example/g00823/impl.errMoves", laid_loop_example_g00823_impl_errMoves), ("loop.example/g00823/impl.errLost", laid_loop_example_g00823_impl_errLost), ("loop.example/g00823/impl.errTwice", laid_loop_example_g00823_impl_errTwice), ("loop.example/g00823/impl.errLoose", laid_loop_example_g00823_impl_errLoose), ("loop.example/g00823/impl.errLarge", laid_loop_example_g00823_impl_errLarge)] }
def FnStrictSaid : Prop := fnStrictRow.holds Tryz.pinned (OpenSpec.ofChange fnStrictSpec)

/-- ITS FALSE NEIGHBOUR: 'it returns false'. Refute it at one input. -/
def fnStrictWrong : ChangeSpec := { name := "fnStrict", vars := ["loop.example/g00823/impl.errBad", "loop.example/g00823/impl.errMoves", "loop.example/g00823/impl.errLarge", "loop.example/g00823/impl.errLost", "loop.example/g00823/impl.errTwice", "loop.example/g00823/impl.errLoose"], fn := fun _ => fun
  | [d, g1, g2, g3, g4, g5, g6] => { results := [.lit (.bool false)], args := [d], vars := [g1, g2, g3, g4, g5, g6] }
  | _ => none }
def FnStrictWrongFalsely : Prop := fnStrictRow.holds Tryz.pinned (OpenSpec.ofChange fnStrictWrong)

/-- 'laws.FnExactCodeOf': WHATEVER THE INPUT: true; the input reads as it did. -/
def fnExactCodeOfSpec : ChangeSpec := { name := "fnExactCodeOf", vars := ["loop.example/g00823/impl.errBad", "loop.example/g00823/impl.errMoves", "loop.example/g00823/impl.errLarge", "loop.example/g00823/impl.errLost", "loop.example/g00823/impl.errTwice", "loop.example/g00823/impl.errLoose"], fn := fun _ => fun
  | [d, g1, g2, g3, g4, g5, g6] => { results := [.lit (.bool true)], args := [d], vars := [g1, g2, g3, g4, g5, g6] }
  | _ => none }
def fnExactCodeOfRow : OpenClaim := { program := "ytnjmlhokkhkaaaagreatdoor", sum := "7d437707509dae490981d987c55602ce55b022b52db0c56f92179e3d33f30d03", func := "loop.example/g00823/laws.FnExactCodeOf", spec := "fnExactCodeOf", inPlace := ["internal/reflectlite.TypeOf", "internal/reflectlite.ValueOf", "(internal/reflectlite.Value).Type", "(internal/reflectlite.Value).IsNil", "(internal/reflectlite.Value).Elem", "(internal/reflectlite.Value).Set"], unfollowed := true, recurses := true, named := ["loop.example/g00823/impl.errBad", "loop.example/g00823/impl.errMoves", "loop.example/g00823/impl.errLarge", "loop.example/g00823/impl.errLost", "loop.example/g00823/impl.errTwice", "loop.example/g00823/impl.errLoose", "errors.errorType"], ifaces := true, apart := false, laid := [("errors.errorType", laid_errors_errorType), ("loop.example/g00823/impl.errBad", laid_loop_example_g00823_impl_errBad), ("loop.example/g00823/impl.errMoves", laid_loop_example_g00823_impl_errMoves), ("loop.example/g00823/impl.errLost", laid_loop_example_g00823_impl_errLost), ("loop.example/g00823/impl.errTwice", laid_loop_example_g00823_impl_errTwice), ("loop.example/g00823/impl.errLoose", laid_loop_example_g00823_impl_errLoose), ("loop.example/g00823/impl.errLarge", laid_loop_example_g00823_impl_errLarge)] }
def FnExactCodeOfSaid : Prop := fnExactCodeOfRow.holds Tryz.pinned (OpenSpec.ofChange fnExactCodeOfSpec)

/-- ITS FALSE NEIGHBOUR: 'it returns false'. Refute it at one input. -/
def fnExactCodeOfWrong : ChangeSpec := { name := "fnExactCodeOf", vars := ["loop.example/g00823/impl.errBad", "loop.example/g00823/impl.errMoves", "loop.example/g00823/impl.errLarge", "loop.example/g00823/impl.errLost", "loop.example/g00823/impl.errTwice", "loop.example/g00823/impl.errLoose"], fn := fun _ => fun
  | [d, g1, g2, g3, g4, g5, g6] => { results := [.lit (.bool false)], args := [d], vars := [g1, g2, g3, g4, g5, g6] }
  | _ => none }
def FnExactCodeOfWrongFalsely : Prop := fnExactCodeOfRow.holds Tryz.pinned (OpenSpec.ofChange fnExactCodeOfWrong)

/- THE SECOND FORM. 'bulk': how many values and letters a reading holds, each counted each time it is reached (what is shared counts as often as it is met; a slice's spare places count too). A statement '..UptoSaid' is the law's where the arguments, and the package variables that the reading takes, are together of bulk at most 1048576: NARROWER than '..Said'. Prove '..Said' where nothing that the law and all that it calls make is longer than what came in: it says more and counts as full. Else prove '..UptoSaid'. A law counts once. -/
mutual
def uptoBulk {H : Type} : DataW H → Nat
  | .lit (.string bytes) => bytes.length + 1
  | .lit _ => 1
  | .nil => 1
  | .ptr d => uptoBulk d + 1
  | .slice elems spare => uptoBulkAll elems + uptoBulkAll spare + 1
  | .agg parts => uptoBulkAll parts + 1
  | .iface _ d => uptoBulk d + 1
  | .map entries => uptoBulkEntries entries + 1
  | .held _ => 1
def uptoBulkAll {H : Type} : List (DataW H) → Nat
  | [] => 0
  | d :: r => uptoBulk d + uptoBulkAll r
def uptoBulkEntries {H : Type} : List (Lit × DataW H) → Nat
  | [] => 0
  | x :: r => uptoBulkEntry x + uptoBulkEntries r
def uptoBulkEntry {H : Type} : Lit × DataW H → Nat
  | (.string bytes, d) => bytes.length + uptoBulk d + 1
  | (_, d) => uptoBulk d + 1
 end
def uptoSmall : (H : Type) → List (DataW H) → Bool := fun _ ds => decide (uptoBulkAll ds ≤ 1048576)
def OpenSpec.upto (s : _root_.Go.ChangeSpec) : _root_.Go.OpenSpec := { _root_.Go.OpenSpec.ofChange s with cond := some uptoSmall }

/-- 'laws.FnStrict', WHERE WHAT IT READS IS OF BULK AT MOST 1048576: true; the input reads as it did. -/
def fnStrictUptoRow : OpenClaim := { program := "ytnjmlhokkhkaaaagreatdoor", sum := "7d437707509dae490981d987c55602ce55b022b52db0c56f92179e3d33f30d03", func := "loop.example/g00823/laws.FnStrict", spec := "fnStrict", inPlace := ["internal/reflectlite.TypeOf", "internal/reflectlite.ValueOf", "(internal/reflectlite.Value).Type", "(internal/reflectlite.Value).IsNil", "(internal/reflectlite.Value).Elem", "(internal/reflectlite.Value).Set"], unfollowed := true, recurses := true, named := ["loop.example/g00823/impl.errBad", "loop.example/g00823/impl.errMoves", "loop.example/g00823/impl.errLarge", "loop.example/g00823/impl.errLost", "loop.example/g00823/impl.errTwice", "loop.example/g00823/impl.errLoose", "errors.errorType"], ifaces := true, apart := false, laid := [("errors.errorType", laid_errors_errorType), ("loop.example/g00823/impl.errBad", laid_loop_example_g00823_impl_errBad), ("loop.example/g00823/impl.errMoves", laid_loop_example_g00823_impl_errMoves), ("loop.example/g00823/impl.errLost", laid_loop_example_g00823_impl_errLost), ("loop.example/g00823/impl.errTwice", laid_loop_example_g00823_impl_errTwice), ("loop.example/g00823/impl.errLoose", laid_loop_example_g00823_impl_errLoose), ("loop.example/g00823/impl.errLarge", laid_loop_example_g00823_impl_errLarge)], narrowed := true }
def FnStrictUptoSaid : Prop := fnStrictUptoRow.holds Tryz.pinned (OpenSpec.upto fnStrictSpec)

/-- 'laws.FnExactCodeOf', WHERE WHAT IT READS IS OF BULK AT MOST 1048576: true; the input reads as it did. -/
def fnExactCodeOfUptoRow : OpenClaim := { program := "ytnjmlhokkhkaaaagreatdoor", sum := "7d437707509dae490981d987c55602ce55b022b52db0c56f92179e3d33f30d03", func := "loop.example/g00823/laws.FnExactCodeOf", spec := "fnExactCodeOf", inPlace := ["internal/reflectlite.TypeOf", "internal/reflectlite.ValueOf", "(internal/reflectlite.Value).Type", "(internal/reflectlite.Value).IsNil", "(internal/reflectlite.Value).Elem", "(internal/reflectlite.Value).Set"], unfollowed := true, recurses := true, named := ["loop.example/g00823/impl.errBad", "loop.example/g00823/impl.errMoves", "loop.example/g00823/impl.errLarge", "loop.example/g00823/impl.errLost", "loop.example/g00823/impl.errTwice", "loop.example/g00823/impl.errLoose", "errors.errorType"], ifaces := true, apart := false, laid := [("errors.errorType", laid_errors_errorType), ("loop.example/g00823/impl.errBad", laid_loop_example_g00823_impl_errBad), ("loop.example/g00823/impl.errMoves", laid_loop_example_g00823_impl_errMoves), ("loop.example/g00823/impl.errLost", laid_loop_example_g00823_impl_errLost), ("loop.example/g00823/impl.errTwice", laid_loop_example_g00823_impl_errTwice), ("loop.example/g00823/impl.errLoose", laid_loop_example_g00823_impl_errLoose), ("loop.example/g00823/impl.errLarge", laid_loop_example_g00823_impl_errLarge)], narrowed := true }
def FnExactCodeOfUptoSaid : Prop := fnExactCodeOfUptoRow.holds Tryz.pinned (OpenSpec.upto fnExactCodeOfSpec)

end Rows
end Go.Proofs.YtnjmlhokkhkaaaaGreatDoor
