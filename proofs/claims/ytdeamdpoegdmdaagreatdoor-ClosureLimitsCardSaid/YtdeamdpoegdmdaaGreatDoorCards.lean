/-
  DERIVED. GIVEN WITH THE SEED: THE CARDS: each row of YtdeamdpoegdmdaaGreatDoorRows.lean that lists a variable, with what it lists TIED to the program's text (the seventh form; the later family's looks); each row that meets fmt, with fmt's text TOLD by the authors' own Lean function (tested against real Go, not proved from fmt's source: count such statements apart). THE CARD IS WHAT COUNTS. Prove the row's statement (the work); the ties are given (YtdeamdpoegdmdaaGreatDoorTie.lean); close each card by the builder's one call (the guide's Derived/Test/ToyasCard.lean, 'card_holds'). Laid BY PROGRAM, IN A SANDBOX (cutbox-door.mjs). By AI agents, Wed Nov 11 2026. No macro, syntax, notation, axiom, sorry.
-/
import Derived.Test.YtdeamdpoegdmdaaGreatDoorRows
import GoSem.ClaimSeven
namespace Go.Proofs.YtdeamdpoegdmdaaGreatDoor
namespace Rows

/-- THE TIED CARD OF 'grammarlablaw04.ClosureCodes'. -/
def closureCodesCard : Claim7 := { stood := { row := closureCodesRow, standIns := [], harness := (true, "2e7e3ac083aa0e9c0a76dc7230d80ad65bf332e91c8dd4bcf162243993ade1b3"), looks := false }, kinds := [], alts := [], laidByText := true, laidKinds := [.data], laidTests := true, laidLooks := .later }
def ClosureCodesCardSaid : Prop := Claim7.holds Tryz.pinned (.plain (OpenSpec.ofChange closureCodesSpec)) closureCodesCard

/-- THE TIED CARD OF 'grammarlablaw04.ClosureFinds'. -/
def closureFindsCard : Claim7 := { stood := { row := closureFindsRow, standIns := [], harness := (true, "2e7e3ac083aa0e9c0a76dc7230d80ad65bf332e91c8dd4bcf162243993ade1b3"), looks := false }, kinds := [], alts := [], laidByText := true, laidKinds := [.data], laidTests := true, laidLooks := .later }
def ClosureFindsCardSaid : Prop := Claim7.holds Tryz.pinned (.plain (OpenSpec.ofChange closureFindsSpec)) closureFindsCard

/-- THE TIED CARD OF 'grammarlablaw04.ClosureRelations'. -/
def closureRelationsCard : Claim7 := { stood := { row := closureRelationsRow, standIns := [], harness := (true, "2e7e3ac083aa0e9c0a76dc7230d80ad65bf332e91c8dd4bcf162243993ade1b3"), looks := false }, kinds := [], alts := [], laidByText := true, laidKinds := [.data], laidTests := true, laidLooks := .later }
def ClosureRelationsCardSaid : Prop := Claim7.holds Tryz.pinned (.plain (OpenSpec.ofChange closureRelationsSpec)) closureRelationsCard

/-- THE TIED CARD OF 'grammarlablaw04.ClosureMeets'. -/
def closureMeetsCard : Claim7 := { stood := { row := closureMeetsRow, standIns := [], harness := (true, "2e7e3ac083aa0e9c0a76dc7230d80ad65bf332e91c8dd4bcf162243993ade1b3"), looks := false }, kinds := [], alts := [], laidByText := true, laidKinds := [.data], laidTests := true, laidLooks := .later }
def ClosureMeetsCardSaid : Prop := Claim7.holds Tryz.pinned (.plain (OpenSpec.ofChange closureMeetsSpec)) closureMeetsCard

/-- THE TIED CARD OF 'grammarlablaw04.ClosureOrders'. -/
def closureOrdersCard : Claim7 := { stood := { row := closureOrdersRow, standIns := [], harness := (true, "2e7e3ac083aa0e9c0a76dc7230d80ad65bf332e91c8dd4bcf162243993ade1b3"), looks := false }, kinds := [], alts := [], laidByText := true, laidKinds := [.data], laidTests := true, laidLooks := .later }
def ClosureOrdersCardSaid : Prop := Claim7.holds Tryz.pinned (.plain (OpenSpec.ofChange closureOrdersSpec)) closureOrdersCard

/-- THE TIED CARD OF 'grammarlablaw04.ClosureDeclared'. -/
def closureDeclaredCard : Claim7 := { stood := { row := closureDeclaredRow, standIns := [], harness := (true, "2e7e3ac083aa0e9c0a76dc7230d80ad65bf332e91c8dd4bcf162243993ade1b3"), looks := false }, kinds := [], alts := [], laidByText := true, laidKinds := [.data], laidTests := true, laidLooks := .later }
def ClosureDeclaredCardSaid : Prop := Claim7.holds Tryz.pinned (.plain (OpenSpec.ofChange closureDeclaredSpec)) closureDeclaredCard

/-- THE TIED CARD OF 'grammarlablaw04.ClosureLaws'. -/
def closureLawsCard : Claim7 := { stood := { row := closureLawsRow, standIns := [], harness := (true, "2e7e3ac083aa0e9c0a76dc7230d80ad65bf332e91c8dd4bcf162243993ade1b3"), looks := false }, kinds := [], alts := [], laidByText := true, laidKinds := [.data], laidTests := true, laidLooks := .later }
def ClosureLawsCardSaid : Prop := Claim7.holds Tryz.pinned (.plain (OpenSpec.ofChange closureLawsSpec)) closureLawsCard

/-- THE TIED CARD OF 'grammarlablaw04.ClosureChains'. -/
def closureChainsCard : Claim7 := { stood := { row := closureChainsRow, standIns := [], harness := (true, "2e7e3ac083aa0e9c0a76dc7230d80ad65bf332e91c8dd4bcf162243993ade1b3"), looks := false }, kinds := [], alts := [], laidByText := true, laidKinds := [.data], laidTests := true, laidLooks := .later }
def ClosureChainsCardSaid : Prop := Claim7.holds Tryz.pinned (.plain (OpenSpec.ofChange closureChainsSpec)) closureChainsCard

/-- THE TIED CARD OF 'grammarlablaw04.ClosureLimits'. -/
def closureLimitsCard : Claim7 := { stood := { row := closureLimitsRow, standIns := [], harness := (true, "2e7e3ac083aa0e9c0a76dc7230d80ad65bf332e91c8dd4bcf162243993ade1b3"), looks := false }, kinds := [], alts := [], laidByText := true, laidKinds := [.data], laidTests := true, laidLooks := .later }
def ClosureLimitsCardSaid : Prop := Claim7.holds Tryz.pinned (.plain (OpenSpec.ofChange closureLimitsSpec)) closureLimitsCard

/-- THE SECOND FORM's CARD OF 'grammarlablaw04.ClosureCodes'. -/
def closureCodesUptoCard : Claim7 := { stood := { row := closureCodesUptoRow, standIns := [], harness := (true, "2e7e3ac083aa0e9c0a76dc7230d80ad65bf332e91c8dd4bcf162243993ade1b3"), looks := false }, kinds := [], alts := [], laidByText := true, laidKinds := [.data], laidTests := true, laidLooks := .later }
def ClosureCodesUptoCardSaid : Prop := Claim7.holds Tryz.pinned (.plain (OpenSpec.upto closureCodesSpec)) closureCodesUptoCard

/-- THE SECOND FORM's CARD OF 'grammarlablaw04.ClosureFinds'. -/
def closureFindsUptoCard : Claim7 := { stood := { row := closureFindsUptoRow, standIns := [], harness := (true, "2e7e3ac083aa0e9c0a76dc7230d80ad65bf332e91c8dd4bcf162243993ade1b3"), looks := false }, kinds := [], alts := [], laidByText := true, laidKinds := [.data], laidTests := true, laidLooks := .later }
def ClosureFindsUptoCardSaid : Prop := Claim7.holds Tryz.pinned (.plain (OpenSpec.upto closureFindsSpec)) closureFindsUptoCard

/-- THE SECOND FORM's CARD OF 'grammarlablaw04.ClosureRelations'. -/
def closureRelationsUptoCard : Claim7 := { stood := { row := closureRelationsUptoRow, standIns := [], harness := (true, "2e7e3ac083aa0e9c0a76dc7230d80ad65bf332e91c8dd4bcf162243993ade1b3"), looks := false }, kinds := [], alts := [], laidByText := true, laidKinds := [.data], laidTests := true, laidLooks := .later }
def ClosureRelationsUptoCardSaid : Prop := Claim7.holds Tryz.pinned (.plain (OpenSpec.upto closureRelationsSpec)) closureRelationsUptoCard

/-- THE SECOND FORM's CARD OF 'grammarlablaw04.ClosureMeets'. -/
def closureMeetsUptoCard : Claim7 := { stood := { row := closureMeetsUptoRow, standIns := [], harness := (true, "2e7e3ac083aa0e9c0a76dc7230d80ad65bf332e91c8dd4bcf162243993ade1b3"), looks := false }, kinds := [], alts := [], laidByText := true, laidKinds := [.data], laidTests := true, laidLooks := .later }
def ClosureMeetsUptoCardSaid : Prop := Claim7.holds Tryz.pinned (.plain (OpenSpec.upto closureMeetsSpec)) closureMeetsUptoCard

/-- THE SECOND FORM's CARD OF 'grammarlablaw04.ClosureOrders'. -/
def closureOrdersUptoCard : Claim7 := { stood := { row := closureOrdersUptoRow, standIns := [], harness := (true, "2e7e3ac083aa0e9c0a76dc7230d80ad65bf332e91c8dd4bcf162243993ade1b3"), looks := false }, kinds := [], alts := [], laidByText := true, laidKinds := [.data], laidTests := true, laidLooks := .later }
def ClosureOrdersUptoCardSaid : Prop := Claim7.holds Tryz.pinned (.plain (OpenSpec.upto closureOrdersSpec)) closureOrdersUptoCard

/-- THE SECOND FORM's CARD OF 'grammarlablaw04.ClosureDeclared'. -/
def closureDeclaredUptoCard : Claim7 := { stood := { row := closureDeclaredUptoRow, standIns := [], harness := (true, "2e7e3ac083aa0e9c0a76dc7230d80ad65bf332e91c8dd4bcf162243993ade1b3"), looks := false }, kinds := [], alts := [], laidByText := true, laidKinds := [.data], laidTests := true, laidLooks := .later }
def ClosureDeclaredUptoCardSaid : Prop := Claim7.holds Tryz.pinned (.plain (OpenSpec.upto closureDeclaredSpec)) closureDeclaredUptoCard

/-- THE SECOND FORM's CARD OF 'grammarlablaw04.ClosureLaws'. -/
def closureLawsUptoCard : Claim7 := { stood := { row := closureLawsUptoRow, standIns := [], harness := (true, "2e7e3ac083aa0e9c0a76dc7230d80ad65bf332e91c8dd4bcf162243993ade1b3"), looks := false }, kinds := [], alts := [], laidByText := true, laidKinds := [.data], laidTests := true, laidLooks := .later }
def ClosureLawsUptoCardSaid : Prop := Claim7.holds Tryz.pinned (.plain (OpenSpec.upto closureLawsSpec)) closureLawsUptoCard

/-- THE SECOND FORM's CARD OF 'grammarlablaw04.ClosureChains'. -/
def closureChainsUptoCard : Claim7 := { stood := { row := closureChainsUptoRow, standIns := [], harness := (true, "2e7e3ac083aa0e9c0a76dc7230d80ad65bf332e91c8dd4bcf162243993ade1b3"), looks := false }, kinds := [], alts := [], laidByText := true, laidKinds := [.data], laidTests := true, laidLooks := .later }
def ClosureChainsUptoCardSaid : Prop := Claim7.holds Tryz.pinned (.plain (OpenSpec.upto closureChainsSpec)) closureChainsUptoCard

/-- THE SECOND FORM's CARD OF 'grammarlablaw04.ClosureLimits'. -/
def closureLimitsUptoCard : Claim7 := { stood := { row := closureLimitsUptoRow, standIns := [], harness := (true, "2e7e3ac083aa0e9c0a76dc7230d80ad65bf332e91c8dd4bcf162243993ade1b3"), looks := false }, kinds := [], alts := [], laidByText := true, laidKinds := [.data], laidTests := true, laidLooks := .later }
def ClosureLimitsUptoCardSaid : Prop := Claim7.holds Tryz.pinned (.plain (OpenSpec.upto closureLimitsSpec)) closureLimitsUptoCard
end Rows
end Go.Proofs.YtdeamdpoegdmdaaGreatDoor
