/-
  DERIVED. GIVEN WITH THE SEED: THE CARDS: each row of YthacceemhacglaaDoorRows.lean that lists a variable, with what it lists TIED to the program's text (the seventh form; the later family's looks); each row that meets fmt, with fmt's text TOLD by the authors' own Lean function (tested against real Go, not proved from fmt's source: count such statements apart). THE CARD IS WHAT COUNTS. Prove the row's statement (the work); the ties are given (YthacceemhacglaaDoorTie.lean); close each card by the builder's one call (the guide's Derived/Test/ToyasCard.lean, 'card_holds'). Laid BY PROGRAM, IN A SANDBOX (cutbox-door.mjs). By AI agents, Wed Nov 11 2026. No macro, syntax, notation, axiom, sorry.
-/
import Derived.Test.YthacceemhacglaaDoorRows
import GoSem.ClaimSeven
namespace Go.Proofs.YthacceemhacglaaDoor
namespace Rows

/-- THE TIED CARD OF 'laws.FnExactFormatPerm'. -/
def fnExactFormatPermCard : Claim7 := { stood := { row := fnExactFormatPermRow, standIns := [], harness := (true, "c2162b9ca169304789f9217b83bb01365c611aeb925b4435cfd39d6be1b1fe80"), looks := true }, kinds := [], alts := [], laidByText := true, laidKinds := [.data, .data, .data], laidTests := true, laidLooks := .later }
def FnExactFormatPermCardSaid : Prop := Claim7.holds Tryd.pinned (.plain (OpenSpec.ofChange fnExactFormatPermSpec)) fnExactFormatPermCard

/-- THE TIED CARD OF 'laws.FnExactParsePerm'. -/
def fnExactParsePermCard : Claim7 := { stood := { row := fnExactParsePermRow, standIns := [], harness := (true, "c2162b9ca169304789f9217b83bb01365c611aeb925b4435cfd39d6be1b1fe80"), looks := true }, kinds := [], alts := [], laidByText := true, laidKinds := [.data, .data, .data, .sentinel, .sentinel], laidTests := true, laidLooks := .later }
def FnExactParsePermCardSaid : Prop := Claim7.holds Tryd.pinned (.plain (OpenSpec.ofChange fnExactParsePermSpec)) fnExactParsePermCard

/-- THE SECOND FORM's CARD OF 'laws.FnExactFormatPerm'. -/
def fnExactFormatPermUptoCard : Claim7 := { stood := { row := fnExactFormatPermUptoRow, standIns := [], harness := (true, "c2162b9ca169304789f9217b83bb01365c611aeb925b4435cfd39d6be1b1fe80"), looks := true }, kinds := [], alts := [], laidByText := true, laidKinds := [.data, .data, .data], laidTests := true, laidLooks := .later }
def FnExactFormatPermUptoCardSaid : Prop := Claim7.holds Tryd.pinned (.plain (OpenSpec.upto fnExactFormatPermSpec)) fnExactFormatPermUptoCard

/-- THE SECOND FORM's CARD OF 'laws.FnExactParsePerm'. -/
def fnExactParsePermUptoCard : Claim7 := { stood := { row := fnExactParsePermUptoRow, standIns := [], harness := (true, "c2162b9ca169304789f9217b83bb01365c611aeb925b4435cfd39d6be1b1fe80"), looks := true }, kinds := [], alts := [], laidByText := true, laidKinds := [.data, .data, .data, .sentinel, .sentinel], laidTests := true, laidLooks := .later }
def FnExactParsePermUptoCardSaid : Prop := Claim7.holds Tryd.pinned (.plain (OpenSpec.upto fnExactParsePermSpec)) fnExactParsePermUptoCard
end Rows
end Go.Proofs.YthacceemhacglaaDoor
