/-
  No cell of these rows narrows 'for every input' (looked for: loops, veiled, ifaces, maps, wideKeys, modest, calm, conditions, laid).
  DERIVED. THE GIVEN ROWS OF THIS SEAT. 4 by the template 'for every input the law returns true; each argument reads behind the call as it read before'; 0 by the template 'total and deterministic' (their statements: YtgnfiggofadmmaaTotals.lean).
  GIVEN WITH THE SEED: the statements are not yours to turn. If you find one false, say at which input.
  Laid BY PROGRAM, IN A SANDBOX (cutbox-rows.mjs): the forced cells as the released guide's own fill.sh prints them over the translation 3016e6209dbc55ae… (all of the seat's roots in one cut). By AI agents, Wed Nov 11 2026. No macro, syntax, notation, axiom, sorry.
-/
import Derived.Test.YtgnfiggofadmmaaChecked
import GoSem.Claim
import GoSem.ClaimJoined
import GoSem.ClaimMapViews
import Derived.JoinedTies
import Derived.KernelRfl
namespace Go.Proofs.Ytgnfiggofadmmaa
/- THE CELL 'sum', in the pinned program and in every row, IS THE sha256 OF THE DUMP (.gsa) THAT YtgnfiggofadmmaaProg.lean LOADS. Nothing in Lean hashes anything: it is a label: what it is worth is what the hold of that sum in a sandbox is worth. -/
noncomputable def Try.pinned : Pinned := { name := "ytgnfiggofadmmaa", sum := "3016e6209dbc55ae4238d09638847e4692635e1dcf072b655a09b77b4da2258d", checked := Try.checked }
namespace Rows
def none {H : Type} : Left H := { results := [], args := [] }

/-- 'laws.FnReckoned': WHATEVER THE INPUT: true; the input reads as it did. -/
def fnReckonedSpec : ChangeSpec := { name := "fnReckoned", fn := fun _ => fun
  | [d] => { results := [.lit (.bool true)], args := [d] }
  | _ => none }
def fnReckonedRow : OpenClaim := { program := "ytgnfiggofadmmaa", sum := "3016e6209dbc55ae4238d09638847e4692635e1dcf072b655a09b77b4da2258d", func := "loop.example/g00823/laws.FnReckoned", spec := "fnReckoned", unfollowed := true, recurses := true, apart := false }
def FnReckonedSaid : Prop := fnReckonedRow.holds Try.pinned (OpenSpec.ofChange fnReckonedSpec)

/-- ITS FALSE NEIGHBOUR: 'it returns false'. Refute it at one input. -/
def fnReckonedWrong : ChangeSpec := { name := "fnReckoned", fn := fun _ => fun
  | [d] => { results := [.lit (.bool false)], args := [d] }
  | _ => none }
def FnReckonedWrongFalsely : Prop := fnReckonedRow.holds Try.pinned (OpenSpec.ofChange fnReckonedWrong)

/-- 'laws.FnExactInsOk': WHATEVER THE INPUT: true; the input reads as it did. -/
def fnExactInsOkSpec : ChangeSpec := { name := "fnExactInsOk", fn := fun _ => fun
  | [d] => { results := [.lit (.bool true)], args := [d] }
  | _ => none }
def fnExactInsOkRow : OpenClaim := { program := "ytgnfiggofadmmaa", sum := "3016e6209dbc55ae4238d09638847e4692635e1dcf072b655a09b77b4da2258d", func := "loop.example/g00823/laws.FnExactInsOk", spec := "fnExactInsOk", apart := false }
def FnExactInsOkSaid : Prop := fnExactInsOkRow.holds Try.pinned (OpenSpec.ofChange fnExactInsOkSpec)

/-- ITS FALSE NEIGHBOUR: 'it returns false'. Refute it at one input. -/
def fnExactInsOkWrong : ChangeSpec := { name := "fnExactInsOk", fn := fun _ => fun
  | [d] => { results := [.lit (.bool false)], args := [d] }
  | _ => none }
def FnExactInsOkWrongFalsely : Prop := fnExactInsOkRow.holds Try.pinned (OpenSpec.ofChange fnExactInsOkWrong)

/-- 'laws.FnExactUsesOf': WHATEVER THE INPUT: true; the input reads as it did. -/
def fnExactUsesOfSpec : ChangeSpec := { name := "fnExactUsesOf", fn := fun _ => fun
  | [d] => { results := [.lit (.bool true)], args := [d] }
  | _ => none }
def fnExactUsesOfRow : OpenClaim := { program := "ytgnfiggofadmmaa", sum := "3016e6209dbc55ae4238d09638847e4692635e1dcf072b655a09b77b4da2258d", func := "loop.example/g00823/laws.FnExactUsesOf", spec := "fnExactUsesOf", apart := false }
def FnExactUsesOfSaid : Prop := fnExactUsesOfRow.holds Try.pinned (OpenSpec.ofChange fnExactUsesOfSpec)

/-- ITS FALSE NEIGHBOUR: 'it returns false'. Refute it at one input. -/
def fnExactUsesOfWrong : ChangeSpec := { name := "fnExactUsesOf", fn := fun _ => fun
  | [d] => { results := [.lit (.bool false)], args := [d] }
  | _ => none }
def FnExactUsesOfWrongFalsely : Prop := fnExactUsesOfRow.holds Try.pinned (OpenSpec.ofChange fnExactUsesOfWrong)

/-- 'laws.FnExactReckoned': WHATEVER THE INPUT: true; the input reads as it did. -/
def fnExactReckonedSpec : ChangeSpec := { name := "fnExactReckoned", fn := fun _ => fun
  | [d1, d2, d3] => { results := [.lit (.bool true)], args := [d1, d2, d3] }
  | _ => none }
def fnExactReckonedRow : OpenClaim := { program := "ytgnfiggofadmmaa", sum := "3016e6209dbc55ae4238d09638847e4692635e1dcf072b655a09b77b4da2258d", func := "loop.example/g00823/laws.FnExactReckoned", spec := "fnExactReckoned", unfollowed := true, recurses := true, apart := false }
def FnExactReckonedSaid : Prop := fnExactReckonedRow.holds Try.pinned (OpenSpec.ofChange fnExactReckonedSpec)

/-- ITS FALSE NEIGHBOUR: 'it returns false'. Refute it at one input. -/
def fnExactReckonedWrong : ChangeSpec := { name := "fnExactReckoned", fn := fun _ => fun
  | [d1, d2, d3] => { results := [.lit (.bool false)], args := [d1, d2, d3] }
  | _ => none }
def FnExactReckonedWrongFalsely : Prop := fnExactReckonedRow.holds Try.pinned (OpenSpec.ofChange fnExactReckonedWrong)

/- THE SECOND FORM. 'bulk': how many values and letters a reading holds, each counted each time it is reached (what is shared counts as often as it is met; a slice's spare places count too). A statement '..UptoSaid' is the law's where the arguments, and the package variables that the reading takes, are together of bulk at most 1048576: NARROWER than '..Said'. Prove '..Said' where nothing that the law and all that it calls make is longer than what came in: it says more and counts as full. Else prove '..UptoSaid'. A law counts once. -/
mutual
def uptoBulk {H : Type} : DataW H → Nat
  | .lit (.string bytes) => bytes.length + 1
  | .lit _ => 1
  | .nil => 1
  | .ptr d => uptoBulk d + 1
  | .slice elems spare => uptoBulkAll elems + uptoBulkAll spare + 1
  | .agg parts => uptoBulkAll parts + 1
  | .iface _ d => uptoBulk d + 1
  | .map entries => uptoBulkEntries entries + 1
  | .held _ => 1
def uptoBulkAll {H : Type} : List (DataW H) → Nat
  | [] => 0
  | d :: r => uptoBulk d + uptoBulkAll r
def uptoBulkEntries {H : Type} : List (Lit × DataW H) → Nat
  | [] => 0
  | x :: r => uptoBulkEntry x + uptoBulkEntries r
def uptoBulkEntry {H : Type} : Lit × DataW H → Nat
  | (.string bytes, d) => bytes.length + uptoBulk d + 1
  | (_, d) => uptoBulk d + 1
 end
def uptoSmall : (H : Type) → List (DataW H) → Bool := fun _ ds => decide (uptoBulkAll ds ≤ 1048576)
def OpenSpec.upto (s : _root_.Go.ChangeSpec) : _root_.Go.OpenSpec := { _root_.Go.OpenSpec.ofChange s with cond := some uptoSmall }

/-- 'laws.FnReckoned', WHERE WHAT IT READS IS OF BULK AT MOST 1048576: true; the input reads as it did. -/
def fnReckonedUptoRow : OpenClaim := { program := "ytgnfiggofadmmaa", sum := "3016e6209dbc55ae4238d09638847e4692635e1dcf072b655a09b77b4da2258d", func := "loop.example/g00823/laws.FnReckoned", spec := "fnReckoned", unfollowed := true, recurses := true, apart := false, narrowed := true }
def FnReckonedUptoSaid : Prop := fnReckonedUptoRow.holds Try.pinned (OpenSpec.upto fnReckonedSpec)

/-- 'laws.FnExactInsOk', WHERE WHAT IT READS IS OF BULK AT MOST 1048576: true; the input reads as it did. -/
def fnExactInsOkUptoRow : OpenClaim := { program := "ytgnfiggofadmmaa", sum := "3016e6209dbc55ae4238d09638847e4692635e1dcf072b655a09b77b4da2258d", func := "loop.example/g00823/laws.FnExactInsOk", spec := "fnExactInsOk", apart := false, narrowed := true }
def FnExactInsOkUptoSaid : Prop := fnExactInsOkUptoRow.holds Try.pinned (OpenSpec.upto fnExactInsOkSpec)

/-- 'laws.FnExactUsesOf', WHERE WHAT IT READS IS OF BULK AT MOST 1048576: true; the input reads as it did. -/
def fnExactUsesOfUptoRow : OpenClaim := { program := "ytgnfiggofadmmaa", sum := "3016e6209dbc55ae4238d09638847e4692635e1dcf072b655a09b77b4da2258d", func := "loop.example/g00823/laws.FnExactUsesOf", spec := "fnExactUsesOf", apart := false, narrowed := true }
def FnExactUsesOfUptoSaid : Prop := fnExactUsesOfUptoRow.holds Try.pinned (OpenSpec.upto fnExactUsesOfSpec)

/-- 'laws.FnExactReckoned', WHERE WHAT IT READS IS OF BULK AT MOST 1048576: true; the input reads as it did. -/
def fnExactReckonedUptoRow : OpenClaim := { program := "ytgnfiggofadmmaa", sum := "3016e6209dbc55ae4238d09638847e4692635e1dcf072b655a09b77b4da2258d", func := "loop.example/g00823/laws.FnExactReckoned", spec := "fnExactReckoned", unfollowed := true, recurses := true, apart := false, narrowed := true }
def FnExactReckonedUptoSaid : Prop := fnExactReckonedUptoRow.holds Try.pinned (OpenSpec.upto fnExactReckonedSpec)

end Rows
end Go.Proofs.Ytgnfiggofadmmaa
