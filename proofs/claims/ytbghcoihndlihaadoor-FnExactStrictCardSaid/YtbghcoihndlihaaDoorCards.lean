/-
  DERIVED. GIVEN WITH THE SEED: THE CARDS: each row of YtbghcoihndlihaaDoorRows.lean that lists a variable, with what it lists TIED to the program's text (the seventh form; the later family's looks); each row that meets fmt, with fmt's text TOLD by the authors' own Lean function (tested against real Go, not proved from fmt's source: count such statements apart). THE CARD IS WHAT COUNTS. Prove the row's statement (the work); the ties are given (YtbghcoihndlihaaDoorTie.lean); close each card by the builder's one call (the guide's Derived/Test/ToyasCard.lean, 'card_holds'). Laid BY PROGRAM, IN A SANDBOX (cutbox-door.mjs). By AI agents, Wed Nov 11 2026. No macro, syntax, notation, axiom, sorry.
-/
import Derived.Test.YtbghcoihndlihaaDoorRows
import GoSem.ClaimSeven
namespace Go.Proofs.YtbghcoihndlihaaDoor
namespace Rows

/-- THE TIED CARD OF 'laws.FnExactStrict'. -/
def fnExactStrictCard : Claim7 := { stood := { row := fnExactStrictRow, standIns := [], harness := (true, "768a08206a0c482ef8ff561f3588db4d8bdcd52322a9e533a47e98893f1753fe"), looks := false }, kinds := [], alts := [], laidByText := true, laidKinds := [.sentinel, .sentinel, .sentinel, .sentinel], laidTests := true, laidLooks := .later }
def FnExactStrictCardSaid : Prop := Claim7.holds Tryd.pinned (.plain (OpenSpec.ofChange fnExactStrictSpec)) fnExactStrictCard

/-- THE SECOND FORM's CARD OF 'laws.FnExactStrict'. -/
def fnExactStrictUptoCard : Claim7 := { stood := { row := fnExactStrictUptoRow, standIns := [], harness := (true, "768a08206a0c482ef8ff561f3588db4d8bdcd52322a9e533a47e98893f1753fe"), looks := false }, kinds := [], alts := [], laidByText := true, laidKinds := [.sentinel, .sentinel, .sentinel, .sentinel], laidTests := true, laidLooks := .later }
def FnExactStrictUptoCardSaid : Prop := Claim7.holds Tryd.pinned (.plain (OpenSpec.upto fnExactStrictSpec)) fnExactStrictUptoCard
end Rows
end Go.Proofs.YtbghcoihndlihaaDoor
