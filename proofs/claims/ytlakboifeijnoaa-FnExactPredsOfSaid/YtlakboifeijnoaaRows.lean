/-
  No cell of these rows narrows 'for every input' (looked for: loops, veiled, ifaces, maps, wideKeys, modest, calm, conditions, laid).
  DERIVED. THE GIVEN ROWS OF THIS SEAT. 5 by the template 'for every input the law returns true; each argument reads behind the call as it read before'; 0 by the template 'total and deterministic' (their statements: YtlakboifeijnoaaTotals.lean).
  GIVEN WITH THE SEED: the statements are not yours to turn. If you find one false, say at which input.
  Laid BY PROGRAM, IN A SANDBOX (cutbox-rows.mjs): the forced cells as the released guide's own fill.sh prints them over the translation f250a5dcc16369a9… (all of the seat's roots in one cut). By AI agents, Wed Nov 11 2026. No macro, syntax, notation, axiom, sorry.
-/
import Derived.Test.YtlakboifeijnoaaChecked
import GoSem.Claim
import GoSem.ClaimJoined
import GoSem.ClaimMapViews
import Derived.JoinedTies
import Derived.KernelRfl
namespace Go.Proofs.Ytlakboifeijnoaa
/- THE CELL 'sum', in the pinned program and in every row, IS THE sha256 OF THE DUMP (.gsa) THAT YtlakboifeijnoaaProg.lean LOADS. Nothing in Lean hashes anything: it is a label: what it is worth is what the hold of that sum in a sandbox is worth. -/
noncomputable def Try.pinned : Pinned := { name := "ytlakboifeijnoaa", sum := "f250a5dcc16369a9587008b81fddd1c2da4d29eaf813f9e0325a78f033b5efba", checked := Try.checked }
namespace Rows
def none {H : Type} : Left H := { results := [], args := [] }

/-- 'laws.FnFuns': WHATEVER THE INPUT: true; the input reads as it did. -/
def fnFunsSpec : ChangeSpec := { name := "fnFuns", fn := fun _ => fun
  | [d] => { results := [.lit (.bool true)], args := [d] }
  | _ => none }
def fnFunsRow : OpenClaim := { program := "ytlakboifeijnoaa", sum := "f250a5dcc16369a9587008b81fddd1c2da4d29eaf813f9e0325a78f033b5efba", func := "loop.example/g00823/laws.FnFuns", spec := "fnFuns", unfollowed := true, recurses := true, apart := false }
def FnFunsSaid : Prop := fnFunsRow.holds Try.pinned (OpenSpec.ofChange fnFunsSpec)

/-- ITS FALSE NEIGHBOUR: 'it returns false'. Refute it at one input. -/
def fnFunsWrong : ChangeSpec := { name := "fnFuns", fn := fun _ => fun
  | [d] => { results := [.lit (.bool false)], args := [d] }
  | _ => none }
def FnFunsWrongFalsely : Prop := fnFunsRow.holds Try.pinned (OpenSpec.ofChange fnFunsWrong)

/-- 'laws.FnExactEndOk': WHATEVER THE INPUT: true; the input reads as it did. -/
def fnExactEndOkSpec : ChangeSpec := { name := "fnExactEndOk", fn := fun _ => fun
  | [d] => { results := [.lit (.bool true)], args := [d] }
  | _ => none }
def fnExactEndOkRow : OpenClaim := { program := "ytlakboifeijnoaa", sum := "f250a5dcc16369a9587008b81fddd1c2da4d29eaf813f9e0325a78f033b5efba", func := "loop.example/g00823/laws.FnExactEndOk", spec := "fnExactEndOk", apart := false }
def FnExactEndOkSaid : Prop := fnExactEndOkRow.holds Try.pinned (OpenSpec.ofChange fnExactEndOkSpec)

/-- ITS FALSE NEIGHBOUR: 'it returns false'. Refute it at one input. -/
def fnExactEndOkWrong : ChangeSpec := { name := "fnExactEndOk", fn := fun _ => fun
  | [d] => { results := [.lit (.bool false)], args := [d] }
  | _ => none }
def FnExactEndOkWrongFalsely : Prop := fnExactEndOkRow.holds Try.pinned (OpenSpec.ofChange fnExactEndOkWrong)

/-- 'laws.FnExactSuccsOf': WHATEVER THE INPUT: true; the input reads as it did. -/
def fnExactSuccsOfSpec : ChangeSpec := { name := "fnExactSuccsOf", fn := fun _ => fun
  | [d] => { results := [.lit (.bool true)], args := [d] }
  | _ => none }
def fnExactSuccsOfRow : OpenClaim := { program := "ytlakboifeijnoaa", sum := "f250a5dcc16369a9587008b81fddd1c2da4d29eaf813f9e0325a78f033b5efba", func := "loop.example/g00823/laws.FnExactSuccsOf", spec := "fnExactSuccsOf", apart := false }
def FnExactSuccsOfSaid : Prop := fnExactSuccsOfRow.holds Try.pinned (OpenSpec.ofChange fnExactSuccsOfSpec)

/-- ITS FALSE NEIGHBOUR: 'it returns false'. Refute it at one input. -/
def fnExactSuccsOfWrong : ChangeSpec := { name := "fnExactSuccsOf", fn := fun _ => fun
  | [d] => { results := [.lit (.bool false)], args := [d] }
  | _ => none }
def FnExactSuccsOfWrongFalsely : Prop := fnExactSuccsOfRow.holds Try.pinned (OpenSpec.ofChange fnExactSuccsOfWrong)

/-- 'laws.FnExactFunOk': WHATEVER THE INPUT: true; the input reads as it did. -/
def fnExactFunOkSpec : ChangeSpec := { name := "fnExactFunOk", fn := fun _ => fun
  | [d] => { results := [.lit (.bool true)], args := [d] }
  | _ => none }
def fnExactFunOkRow : OpenClaim := { program := "ytlakboifeijnoaa", sum := "f250a5dcc16369a9587008b81fddd1c2da4d29eaf813f9e0325a78f033b5efba", func := "loop.example/g00823/laws.FnExactFunOk", spec := "fnExactFunOk", unfollowed := true, recurses := true, apart := false }
def FnExactFunOkSaid : Prop := fnExactFunOkRow.holds Try.pinned (OpenSpec.ofChange fnExactFunOkSpec)

/-- ITS FALSE NEIGHBOUR: 'it returns false'. Refute it at one input. -/
def fnExactFunOkWrong : ChangeSpec := { name := "fnExactFunOk", fn := fun _ => fun
  | [d] => { results := [.lit (.bool false)], args := [d] }
  | _ => none }
def FnExactFunOkWrongFalsely : Prop := fnExactFunOkRow.holds Try.pinned (OpenSpec.ofChange fnExactFunOkWrong)

/-- 'laws.FnExactPredsOf': WHATEVER THE INPUT: true; the input reads as it did. -/
def fnExactPredsOfSpec : ChangeSpec := { name := "fnExactPredsOf", fn := fun _ => fun
  | [d1, d2] => { results := [.lit (.bool true)], args := [d1, d2] }
  | _ => none }
def fnExactPredsOfRow : OpenClaim := { program := "ytlakboifeijnoaa", sum := "f250a5dcc16369a9587008b81fddd1c2da4d29eaf813f9e0325a78f033b5efba", func := "loop.example/g00823/laws.FnExactPredsOf", spec := "fnExactPredsOf", unfollowed := true, recurses := true, apart := false }
def FnExactPredsOfSaid : Prop := fnExactPredsOfRow.holds Try.pinned (OpenSpec.ofChange fnExactPredsOfSpec)

/-- ITS FALSE NEIGHBOUR: 'it returns false'. Refute it at one input. -/
def fnExactPredsOfWrong : ChangeSpec := { name := "fnExactPredsOf", fn := fun _ => fun
  | [d1, d2] => { results := [.lit (.bool false)], args := [d1, d2] }
  | _ => none }
def FnExactPredsOfWrongFalsely : Prop := fnExactPredsOfRow.holds Try.pinned (OpenSpec.ofChange fnExactPredsOfWrong)

/- THE SECOND FORM. 'bulk': how many values and letters a reading holds, each counted each time it is reached (what is shared counts as often as it is met; a slice's spare places count too). A statement '..UptoSaid' is the law's where the arguments, and the package variables that the reading takes, are together of bulk at most 1048576: NARROWER than '..Said'. Prove '..Said' where nothing that the law and all that it calls make is longer than what came in: it says more and counts as full. Else prove '..UptoSaid'. A law counts once. -/
mutual
def uptoBulk {H : Type} : DataW H → Nat
  | .lit (.string bytes) => bytes.length + 1
  | .lit _ => 1
  | .nil => 1
  | .ptr d => uptoBulk d + 1
  | .slice elems spare => uptoBulkAll elems + uptoBulkAll spare + 1
  | .agg parts => uptoBulkAll parts + 1
  | .iface _ d => uptoBulk d + 1
  | .map entries => uptoBulkEntries entries + 1
  | .held _ => 1
def uptoBulkAll {H : Type} : List (DataW H) → Nat
  | [] => 0
  | d :: r => uptoBulk d + uptoBulkAll r
def uptoBulkEntries {H : Type} : List (Lit × DataW H) → Nat
  | [] => 0
  | x :: r => uptoBulkEntry x + uptoBulkEntries r
def uptoBulkEntry {H : Type} : Lit × DataW H → Nat
  | (.string bytes, d) => bytes.length + uptoBulk d + 1
  | (_, d) => uptoBulk d + 1
 end
def uptoSmall : (H : Type) → List (DataW H) → Bool := fun _ ds => decide (uptoBulkAll ds ≤ 1048576)
def OpenSpec.upto (s : _root_.Go.ChangeSpec) : _root_.Go.OpenSpec := { _root_.Go.OpenSpec.ofChange s with cond := some uptoSmall }

/-- 'laws.FnFuns', WHERE WHAT IT READS IS OF BULK AT MOST 1048576: true; the input reads as it did. -/
def fnFunsUptoRow : OpenClaim := { program := "ytlakboifeijnoaa", sum := "f250a5dcc16369a9587008b81fddd1c2da4d29eaf813f9e0325a78f033b5efba", func := "loop.example/g00823/laws.FnFuns", spec := "fnFuns", unfollowed := true, recurses := true, apart := false, narrowed := true }
def FnFunsUptoSaid : Prop := fnFunsUptoRow.holds Try.pinned (OpenSpec.upto fnFunsSpec)

/-- 'laws.FnExactEndOk', WHERE WHAT IT READS IS OF BULK AT MOST 1048576: true; the input reads as it did. -/
def fnExactEndOkUptoRow : OpenClaim := { program := "ytlakboifeijnoaa", sum := "f250a5dcc16369a9587008b81fddd1c2da4d29eaf813f9e0325a78f033b5efba", func := "loop.example/g00823/laws.FnExactEndOk", spec := "fnExactEndOk", apart := false, narrowed := true }
def FnExactEndOkUptoSaid : Prop := fnExactEndOkUptoRow.holds Try.pinned (OpenSpec.upto fnExactEndOkSpec)

/-- 'laws.FnExactSuccsOf', WHERE WHAT IT READS IS OF BULK AT MOST 1048576: true; the input reads as it did. -/
def fnExactSuccsOfUptoRow : OpenClaim := { program := "ytlakboifeijnoaa", sum := "f250a5dcc16369a9587008b81fddd1c2da4d29eaf813f9e0325a78f033b5efba", func := "loop.example/g00823/laws.FnExactSuccsOf", spec := "fnExactSuccsOf", apart := false, narrowed := true }
def FnExactSuccsOfUptoSaid : Prop := fnExactSuccsOfUptoRow.holds Try.pinned (OpenSpec.upto fnExactSuccsOfSpec)

/-- 'laws.FnExactFunOk', WHERE WHAT IT READS IS OF BULK AT MOST 1048576: true; the input reads as it did. -/
def fnExactFunOkUptoRow : OpenClaim := { program := "ytlakboifeijnoaa", sum := "f250a5dcc16369a9587008b81fddd1c2da4d29eaf813f9e0325a78f033b5efba", func := "loop.example/g00823/laws.FnExactFunOk", spec := "fnExactFunOk", unfollowed := true, recurses := true, apart := false, narrowed := true }
def FnExactFunOkUptoSaid : Prop := fnExactFunOkUptoRow.holds Try.pinned (OpenSpec.upto fnExactFunOkSpec)

/-- 'laws.FnExactPredsOf', WHERE WHAT IT READS IS OF BULK AT MOST 1048576: true; the input reads as it did. -/
def fnExactPredsOfUptoRow : OpenClaim := { program := "ytlakboifeijnoaa", sum := "f250a5dcc16369a9587008b81fddd1c2da4d29eaf813f9e0325a78f033b5efba", func := "loop.example/g00823/laws.FnExactPredsOf", spec := "fnExactPredsOf", unfollowed := true, recurses := true, apart := false, narrowed := true }
def FnExactPredsOfUptoSaid : Prop := fnExactPredsOfUptoRow.holds Try.pinned (OpenSpec.upto fnExactPredsOfSpec)

end Rows
end Go.Proofs.Ytlakboifeijnoaa
