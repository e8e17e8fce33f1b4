/-
  DERIVED. GIVEN WITH THE SEED: THE CARDS: each row of YteikpekffgifoaaDoorRows.lean that lists a variable, with what it lists TIED to the program's text (the seventh form; the later family's looks); each row that meets fmt, with fmt's text TOLD by the authors' own Lean function (tested against real Go, not proved from fmt's source: count such statements apart). THE CARD IS WHAT COUNTS. Prove the row's statement (the work); the ties are given (YteikpekffgifoaaDoorTie.lean); close each card by the builder's one call (the guide's Derived/Test/ToyasCard.lean, 'card_holds'). Laid BY PROGRAM, IN A SANDBOX (cutbox-door.mjs). By AI agents, Wed Nov 11 2026. No macro, syntax, notation, axiom, sorry.
-/
import Derived.Test.YteikpekffgifoaaDoorRows
import GoSem.ClaimSeven
namespace Go.Proofs.YteikpekffgifoaaDoor
namespace Rows

/-- THE TIED CARD OF 'laws.FnDoms'. -/
def fnDomsCard : Claim7 := { stood := { row := fnDomsRow, standIns := [], harness := (true, "90fa4c1776a1e565ce4a5027bcfea22a618a9da6cbb3855794fa09f1f5bdbae4"), looks := false }, kinds := [], alts := [], laidByText := true, laidKinds := [.data], laidTests := true, laidLooks := .later }
def FnDomsCardSaid : Prop := Claim7.holds Tryd.pinned (.plain (OpenSpec.ofChange fnDomsSpec)) fnDomsCard

/-- THE TIED CARD OF 'laws.FnExactDomsOf'. -/
def fnExactDomsOfCard : Claim7 := { stood := { row := fnExactDomsOfRow, standIns := [], harness := (true, "90fa4c1776a1e565ce4a5027bcfea22a618a9da6cbb3855794fa09f1f5bdbae4"), looks := false }, kinds := [], alts := [], laidByText := true, laidKinds := [.data], laidTests := true, laidLooks := .later }
def FnExactDomsOfCardSaid : Prop := Claim7.holds Tryd.pinned (.plain (OpenSpec.ofChange fnExactDomsOfSpec)) fnExactDomsOfCard

/-- THE TIED CARD OF 'laws.FnExactIdomOf'. -/
def fnExactIdomOfCard : Claim7 := { stood := { row := fnExactIdomOfRow, standIns := [], harness := (true, "90fa4c1776a1e565ce4a5027bcfea22a618a9da6cbb3855794fa09f1f5bdbae4"), looks := false }, kinds := [], alts := [], laidByText := true, laidKinds := [.data], laidTests := true, laidLooks := .later }
def FnExactIdomOfCardSaid : Prop := Claim7.holds Tryd.pinned (.plain (OpenSpec.ofChange fnExactIdomOfSpec)) fnExactIdomOfCard

/-- THE SECOND FORM's CARD OF 'laws.FnDoms'. -/
def fnDomsUptoCard : Claim7 := { stood := { row := fnDomsUptoRow, standIns := [], harness := (true, "90fa4c1776a1e565ce4a5027bcfea22a618a9da6cbb3855794fa09f1f5bdbae4"), looks := false }, kinds := [], alts := [], laidByText := true, laidKinds := [.data], laidTests := true, laidLooks := .later }
def FnDomsUptoCardSaid : Prop := Claim7.holds Tryd.pinned (.plain (OpenSpec.upto fnDomsSpec)) fnDomsUptoCard

/-- THE SECOND FORM's CARD OF 'laws.FnExactDomsOf'. -/
def fnExactDomsOfUptoCard : Claim7 := { stood := { row := fnExactDomsOfUptoRow, standIns := [], harness := (true, "90fa4c1776a1e565ce4a5027bcfea22a618a9da6cbb3855794fa09f1f5bdbae4"), looks := false }, kinds := [], alts := [], laidByText := true, laidKinds := [.data], laidTests := true, laidLooks := .later }
def FnExactDomsOfUptoCardSaid : Prop := Claim7.holds Tryd.pinned (.plain (OpenSpec.upto fnExactDomsOfSpec)) fnExactDomsOfUptoCard

/-- THE SECOND FORM's CARD OF 'laws.FnExactIdomOf'. -/
def fnExactIdomOfUptoCard : Claim7 := { stood := { row := fnExactIdomOfUptoRow, standIns := [], harness := (true, "90fa4c1776a1e565ce4a5027bcfea22a618a9da6cbb3855794fa09f1f5bdbae4"), looks := false }, kinds := [], alts := [], laidByText := true, laidKinds := [.data], laidTests := true, laidLooks := .later }
def FnExactIdomOfUptoCardSaid : Prop := Claim7.holds Tryd.pinned (.plain (OpenSpec.upto fnExactIdomOfSpec)) fnExactIdomOfUptoCard
end Rows
end Go.Proofs.YteikpekffgifoaaDoor
