/-
  NARROWER THAN 'FOR EVERY INPUT', by the rows' own cells (each row's printed sentence says how): FnExactStrict: ifaces, laid.
  DERIVED. THE GIVEN ROWS OF THIS SEAT. 1 by the template 'for every input the law returns true; each argument reads behind the call as it read before'; 0 by the template 'total and deterministic' (their statements: YtbghcoihndlihaaDoorTotals.lean).
  GIVEN WITH THE SEED: the statements are not yours to turn. If you find one false, say at which input.
  Laid BY PROGRAM, IN A SANDBOX (cutbox-rows.mjs): the forced cells as the released guide's own fill.sh prints them over the translation e57d5665ae41e4d8… (all of the seat's roots in one cut). By AI agents, Wed Nov 11 2026. No macro, syntax, notation, axiom, sorry.
-/
import Derived.Test.YtbghcoihndlihaaDoorChecked
import GoSem.Claim
import GoSem.ClaimJoined
import GoSem.ClaimMapViews
import Derived.JoinedTies
import Derived.KernelRfl
namespace Go.Proofs.YtbghcoihndlihaaDoor
/- THE CELL 'sum', in the pinned program and in every row, IS THE sha256 OF THE DUMP (.gsa) THAT YtbghcoihndlihaaDoorProg.lean LOADS. Nothing in Lean hashes anything: it is a label: what it is worth is what the hold of that sum in a sandbox is worth. -/
noncomputable def Tryd.pinned : Pinned := { name := "ytbghcoihndlihaadoor", sum := "e57d5665ae41e4d80b12b18bafeef71acf379f6a63a8607fd7614082f18d4869", checked := Tryd.checked }
namespace Rows
def none {H : Type} : Left H := { results := [], args := [] }

/- WHAT THE LISTED PACKAGE-LEVEL VARIABLES READ AS WHEN THE CALL BEGINS. Each datum BY PROGRAM (the guide's laid-datum.mjs) off the statement by which the dump's own 'gosem.cut.vars' lays the variable. In a bare row this is a premise. The card (YtbghcoihndlihaaDoorCards.lean) ties it to the program's text. -/
def laid_loop_example_g00823_impl_errBad {H : Type} : DataW H := .iface "*errors.errorString" (.ptr (.agg [.lit (.string [116, 104, 101, 32, 102, 117, 110, 99, 116, 105, 111, 110, 32, 105, 115, 32, 110, 111, 116, 32, 114, 105, 103, 104, 116])]))
def laid_loop_example_g00823_impl_errLost {H : Type} : DataW H := .iface "*errors.errorString" (.ptr (.agg [.lit (.string [97, 32, 98, 108, 111, 99, 107, 32, 105, 115, 32, 110, 111, 116, 32, 114, 101, 97, 99, 104, 101, 100])]))
def laid_loop_example_g00823_impl_errTwice {H : Type} : DataW H := .iface "*errors.errorString" (.ptr (.agg [.lit (.string [97, 32, 110, 97, 109, 101, 32, 105, 115, 32, 110, 111, 116, 32, 103, 105, 118, 101, 110, 32, 106, 117, 115, 116, 32, 111, 110, 99, 101])]))
def laid_loop_example_g00823_impl_errLoose {H : Type} : DataW H := .iface "*errors.errorString" (.ptr (.agg [.lit (.string [97, 32, 110, 97, 109, 101, 32, 105, 115, 32, 116, 97, 107, 101, 110, 32, 119, 104, 101, 114, 101, 32, 105, 116, 32, 105, 115, 32, 110, 111, 116, 32, 103, 105, 118, 101, 110, 32, 121, 101, 116])]))

/-- 'laws.FnExactStrict': WHATEVER THE INPUT: true; the input reads as it did. -/
def fnExactStrictSpec : ChangeSpec := { name := "fnExactStrict", vars := ["loop.example/g00823/impl.errBad", "loop.example/g00823/impl.errLost", "loop.example/g00823/impl.errTwice", "loop.example/g00823/impl.errLoose"], fn := fun _ => fun
  | [d, g1, g2, g3, g4] => { results := [.lit (.bool true)], args := [d], vars := [g1, g2, g3, g4] }
  | _ => none }
def fnExactStrictRow : OpenClaim := { program := "ytbghcoihndlihaadoor", sum := "e57d5665ae41e4d80b12b18bafeef71acf379f6a63a8607fd7614082f18d4869", func := "loop.example/g00823/laws.FnExactStrict", spec := "fnExactStrict", unfollowed := true, recurses := true, named := ["loop.example/g00823/impl.errBad", "loop.example/g00823/impl.errLost", "loop.example/g00823/impl.errTwice", "loop.example/g00823/impl.errLoose"], ifaces := true, apart := false, laid := [("loop.example/g00823/impl.errBad", laid_loop_example_g00823_impl_errBad), ("loop.example/g00823/impl.errLost", laid_loop_example_g00823_impl_errLost), ("loop.example/g00823/impl.errTwice", laid_loop_example_g00823_impl_errTwice), ("loop.example/g00823/impl.errLoose", laid_loop_example_g00823_impl_errLoose)] }
def FnExactStrictSaid : Prop := fnExactStrictRow.holds Tryd.pinned (OpenSpec.ofChange fnExactStrictSpec)

/-- ITS FALSE NEIGHBOUR: 'it returns false'. Refute it at one input. -/
def fnExactStrictWrong : ChangeSpec := { name := "fnExactStrict", vars := ["loop.example/g00823/impl.errBad", "loop.example/g00823/impl.errLost", "loop.example/g00823/impl.errTwice", "loop.example/g00823/impl.errLoose"], fn := fun _ => fun
  | [d, g1, g2, g3, g4] => { results := [.lit (.bool false)], args := [d], vars := [g1, g2, g3, g4] }
  | _ => none }
def FnExactStrictWrongFalsely : Prop := fnExactStrictRow.holds Tryd.pinned (OpenSpec.ofChange fnExactStrictWrong)

/- THE SECOND FORM. 'bulk': how many values and letters a reading holds, each counted each time it is reached (what is shared counts as often as it is met; a slice's spare places count too). A statement '..UptoSaid' is the law's where the arguments, and the package variables that the reading takes, are together of bulk at most 1048576: NARROWER than '..Said'. Prove '..Said' where nothing that the law and all that it calls make is longer than what came in: it says more and counts as full. Else prove '..UptoSaid'. A law counts once. -/
mutual
def uptoBulk {H : Type} : DataW H → Nat
  | .lit (.string bytes) => bytes.length + 1
  | .lit _ => 1
  | .nil => 1
  | .ptr d => uptoBulk d + 1
  | .slice elems spare => uptoBulkAll elems + uptoBulkAll spare + 1
  | .agg parts => uptoBulkAll parts + 1
  | .iface _ d => uptoBulk d + 1
  | .map entries => uptoBulkEntries entries + 1
  | .held _ => 1
def uptoBulkAll {H : Type} : List (DataW H) → Nat
  | [] => 0
  | d :: r => uptoBulk d + uptoBulkAll r
def uptoBulkEntries {H : Type} : List (Lit × DataW H) → Nat
  | [] => 0
  | x :: r => uptoBulkEntry x + uptoBulkEntries r
def uptoBulkEntry {H : Type} : Lit × DataW H → Nat
  | (.string bytes, d) => bytes.length + uptoBulk d + 1
  | (_, d) => uptoBulk d + 1
 end
def uptoSmall : (H : Type) → List (DataW H) → Bool := fun _ ds => decide (uptoBulkAll ds ≤ 1048576)
def OpenSpec.upto (s : _root_.Go.ChangeSpec) : _root_.Go.OpenSpec := { _root_.Go.OpenSpec.ofChange s with cond := some uptoSmall }

/-- 'laws.FnExactStrict', WHERE WHAT IT READS IS OF BULK AT MOST 1048576: true; the input reads as it did. -/
def fnExactStrictUptoRow : OpenClaim := { program := "ytbghcoihndlihaadoor", sum := "e57d5665ae41e4d80b12b18bafeef71acf379f6a63a8607fd7614082f18d4869", func := "loop.example/g00823/laws.FnExactStrict", spec := "fnExactStrict", unfollowed := true, recurses := true, named := ["loop.example/g00823/impl.errBad", "loop.example/g00823/impl.errLost", "loop.example/g00823/impl.errTwice", "loop.example/g00823/impl.errLoose"], ifaces := true, apart := false, laid := [("loop.example/g00823/impl.errBad", laid_loop_example_g00823_impl_errBad), ("loop.example/g00823/impl.errLost", laid_loop_example_g00823_impl_errLost), ("loop.example/g00823/impl.errTwice", laid_loop_example_g00823_impl_errTwice), ("loop.example/g00823/impl.errLoose", laid_loop_example_g00823_impl_errLoose)], narrowed := true }
def FnExactStrictUptoSaid : Prop := fnExactStrictUptoRow.holds Tryd.pinned (OpenSpec.upto fnExactStrictSpec)

end Rows
end Go.Proofs.YtbghcoihndlihaaDoor
