/-
  NARROWER THAN 'FOR EVERY INPUT', by the rows' own cells (each row's printed sentence says how): ClosureCodes: laid · ClosureFinds: laid · ClosureRelations: laid · ClosureMeets: laid · ClosureOrders: laid · ClosureDeclared: laid · ClosureLaws: laid · ClosureChains: laid · ClosureLimits: laid.
  DERIVED. THE GIVEN ROWS OF THIS SEAT. 9 by the template 'for every input the law returns true; each argument reads behind the call as it read before'; 0 by the template 'total and deterministic' (their statements: YtdeamdpoegdmdaaGreatDoorTotals.lean).
  GIVEN WITH THE SEED: the statements are not yours to turn. If you find one false, say at which input.
  Laid BY PROGRAM, IN A SANDBOX (cutbox-rows.mjs): the forced cells as the released guide's own fill.sh prints them over the translation bde3129e0e35777a… (all of the seat's roots in one cut). By AI agents, Wed Nov 11 2026. No macro, syntax, notation, axiom, sorry.
-/
import Derived.Test.YtdeamdpoegdmdaaGreatDoorChecked
import GoSem.Claim
import GoSem.ClaimJoined
import GoSem.ClaimMapViews
import Derived.JoinedTies
import Derived.KernelRfl
namespace Go.Proofs.YtdeamdpoegdmdaaGreatDoor
/- THE CELL 'sum', in the pinned program and in every row, IS THE sha256 OF THE DUMP (.gsa) THAT YtdeamdpoegdmdaaGreatDoorProg.lean LOADS. Nothing in Lean hashes anything: it is a label: what it is worth is what the hold of that sum in a sandbox is worth. -/
noncomputable def Tryz.pinned : Pinned := { name := "ytdeamdpoegdmdaagreatdoor", sum := "bde3129e0e35777a38ac94c1053cdda724d2abbd322df69b62d4ce7e270b9965", checked := Tryz.checked }
namespace Rows
def none {H : Type} : Left H := { results := [], args := [] }

/- WHAT THE LISTED PACKAGE-LEVEL VARIABLES READ AS WHEN THE CALL BEGINS. Each datum BY PROGRAM (the guide's laid-datum.mjs) off the statement by which the dump's own 'gosem.cut.vars' lays the variable. In a bare row this is a premise. The card (YtdeamdpoegdmdaaGreatDoorCards.lean) ties it to the program's text. -/
def laid_math_bits_deBruijn64tab {H : Type} : DataW H := .agg [.lit (.int .u8 0), .lit (.int .u8 1), .lit (.int .u8 56), .lit (.int .u8 2), .lit (.int .u8 57), .lit (.int .u8 49), .lit (.int .u8 28), .lit (.int .u8 3), .lit (.int .u8 61), .lit (.int .u8 58), .lit (.int .u8 42), .lit (.int .u8 50), .lit (.int .u8 38), .lit (.int .u8 29), .lit (.int .u8 17), .lit (.int .u8 4), .lit (.int .u8 62), .lit (.int .u8 47), .lit (.int .u8 59), .lit (.int .u8 36), .lit (.int .u8 45), .lit (.int .u8 43), .lit (.int .u8 51), .lit (.int .u8 22), .lit (.int .u8 53), .lit (.int .u8 39), .lit (.int .u8 33), .lit (.int .u8 30), .lit (.int .u8 24), .lit (.int .u8 18), .lit (.int .u8 12), .lit (.int .u8 5), .lit (.int .u8 63), .lit (.int .u8 55), .lit (.int .u8 48), .lit (.int .u8 27), .lit (.int .u8 60), .lit (.int .u8 41), .lit (.int .u8 37), .lit (.int .u8 16), .lit (.int .u8 46), .lit (.int .u8 35), .lit (.int .u8 44), .lit (.int .u8 21), .lit (.int .u8 52), .lit (.int .u8 32), .lit (.int .u8 23), .lit (.int .u8 11), .lit (.int .u8 54), .lit (.int .u8 26), .lit (.int .u8 40), .lit (.int .u8 15), .lit (.int .u8 34), .lit (.int .u8 20), .lit (.int .u8 31), .lit (.int .u8 10), .lit (.int .u8 25), .lit (.int .u8 14), .lit (.int .u8 19), .lit (.int .u8 9), .lit (.int .u8 13), .lit (.int .u8 8), .lit (.int .u8 7), .lit (.int .u8 6)]

/-- 'grammarlablaw04.ClosureCodes': WHATEVER THE INPUT: true; the input reads as it did. -/
def closureCodesSpec : ChangeSpec := { name := "closureCodes", fn := fun _ => fun
  | [d] => { results := [.lit (.bool true)], args := [d] }
  | _ => none }
def closureCodesRow : OpenClaim := { program := "ytdeamdpoegdmdaagreatdoor", sum := "bde3129e0e35777a38ac94c1053cdda724d2abbd322df69b62d4ce7e270b9965", func := "grammarlab/grammarlablaw04.ClosureCodes", spec := "closureCodes", inPlace := ["internal/abi.NoEscape", "internal/bytealg.MakeNoZero", "internal/bytealg.abigen_runtime_cmpstring"], unfollowed := true, recurses := true, named := ["math/bits.deBruijn64tab"], apart := false, laid := [("math/bits.deBruijn64tab", laid_math_bits_deBruijn64tab)] }
def ClosureCodesSaid : Prop := closureCodesRow.holds Tryz.pinned (OpenSpec.ofChange closureCodesSpec)

/-- ITS FALSE NEIGHBOUR: 'it returns false'. Refute it at one input. -/
def closureCodesWrong : ChangeSpec := { name := "closureCodes", fn := fun _ => fun
  | [d] => { results := [.lit (.bool false)], args := [d] }
  | _ => none }
def ClosureCodesWrongFalsely : Prop := closureCodesRow.holds Tryz.pinned (OpenSpec.ofChange closureCodesWrong)

/-- 'grammarlablaw04.ClosureFinds': WHATEVER THE INPUT: true; the input reads as it did. -/
def closureFindsSpec : ChangeSpec := { name := "closureFinds", fn := fun _ => fun
  | [d1, d2, d3] => { results := [.lit (.bool true)], args := [d1, d2, d3] }
  | _ => none }
def closureFindsRow : OpenClaim := { program := "ytdeamdpoegdmdaagreatdoor", sum := "bde3129e0e35777a38ac94c1053cdda724d2abbd322df69b62d4ce7e270b9965", func := "grammarlab/grammarlablaw04.ClosureFinds", spec := "closureFinds", inPlace := ["internal/abi.NoEscape", "internal/bytealg.MakeNoZero", "internal/bytealg.abigen_runtime_cmpstring"], unfollowed := true, recurses := true, named := ["math/bits.deBruijn64tab"], apart := false, laid := [("math/bits.deBruijn64tab", laid_math_bits_deBruijn64tab)] }
def ClosureFindsSaid : Prop := closureFindsRow.holds Tryz.pinned (OpenSpec.ofChange closureFindsSpec)

/-- ITS FALSE NEIGHBOUR: 'it returns false'. Refute it at one input. -/
def closureFindsWrong : ChangeSpec := { name := "closureFinds", fn := fun _ => fun
  | [d1, d2, d3] => { results := [.lit (.bool false)], args := [d1, d2, d3] }
  | _ => none }
def ClosureFindsWrongFalsely : Prop := closureFindsRow.holds Tryz.pinned (OpenSpec.ofChange closureFindsWrong)

/-- 'grammarlablaw04.ClosureRelations': WHATEVER THE INPUT: true; the input reads as it did. -/
def closureRelationsSpec : ChangeSpec := { name := "closureRelations", fn := fun _ => fun
  | [d1, d2, d3] => { results := [.lit (.bool true)], args := [d1, d2, d3] }
  | _ => none }
def closureRelationsRow : OpenClaim := { program := "ytdeamdpoegdmdaagreatdoor", sum := "bde3129e0e35777a38ac94c1053cdda724d2abbd322df69b62d4ce7e270b9965", func := "grammarlab/grammarlablaw04.ClosureRelations", spec := "closureRelations", inPlace := ["internal/abi.NoEscape", "internal/bytealg.MakeNoZero", "internal/bytealg.abigen_runtime_cmpstring"], unfollowed := true, recurses := true, named := ["math/bits.deBruijn64tab"], apart := false, laid := [("math/bits.deBruijn64tab", laid_math_bits_deBruijn64tab)] }
def ClosureRelationsSaid : Prop := closureRelationsRow.holds Tryz.pinned (OpenSpec.ofChange closureRelationsSpec)

/-- ITS FALSE NEIGHBOUR: 'it returns false'. Refute it at one input. -/
def closureRelationsWrong : ChangeSpec := { name := "closureRelations", fn := fun _ => fun
  | [d1, d2, d3] => { results := [.lit (.bool false)], args := [d1, d2, d3] }
  | _ => none }
def ClosureRelationsWrongFalsely : Prop := closureRelationsRow.holds Tryz.pinned (OpenSpec.ofChange closureRelationsWrong)

/-- 'grammarlablaw04.ClosureMeets': WHATEVER THE INPUT: true; the input reads as it did. -/
def closureMeetsSpec : ChangeSpec := { name := "closureMeets", fn := fun _ => fun
  | [d1, d2, d3] => { results := [.lit (.bool true)], args := [d1, d2, d3] }
  | _ => none }
def closureMeetsRow : OpenClaim := { program := "ytdeamdpoegdmdaagreatdoor", sum := "bde3129e0e35777a38ac94c1053cdda724d2abbd322df69b62d4ce7e270b9965", func := "grammarlab/grammarlablaw04.ClosureMeets", spec := "closureMeets", inPlace := ["internal/abi.NoEscape", "internal/bytealg.MakeNoZero", "internal/bytealg.abigen_runtime_cmpstring"], unfollowed := true, recurses := true, named := ["math/bits.deBruijn64tab"], apart := false, laid := [("math/bits.deBruijn64tab", laid_math_bits_deBruijn64tab)] }
def ClosureMeetsSaid : Prop := closureMeetsRow.holds Tryz.pinned (OpenSpec.ofChange closureMeetsSpec)

/-- ITS FALSE NEIGHBOUR: 'it returns false'. Refute it at one input. -/
def closureMeetsWrong : ChangeSpec := { name := "closureMeets", fn := fun _ => fun
  | [d1, d2, d3] => { results := [.lit (.bool false)], args := [d1, d2, d3] }
  | _ => none }
def ClosureMeetsWrongFalsely : Prop := closureMeetsRow.holds Tryz.pinned (OpenSpec.ofChange closureMeetsWrong)

/-- 'grammarlablaw04.ClosureOrders': WHATEVER THE INPUT: true; the input reads as it did. -/
def closureOrdersSpec : ChangeSpec := { name := "closureOrders", fn := fun _ => fun
  | [d] => { results := [.lit (.bool true)], args := [d] }
  | _ => none }
def closureOrdersRow : OpenClaim := { program := "ytdeamdpoegdmdaagreatdoor", sum := "bde3129e0e35777a38ac94c1053cdda724d2abbd322df69b62d4ce7e270b9965", func := "grammarlab/grammarlablaw04.ClosureOrders", spec := "closureOrders", inPlace := ["internal/abi.NoEscape", "internal/bytealg.MakeNoZero", "internal/bytealg.abigen_runtime_cmpstring"], unfollowed := true, recurses := true, named := ["math/bits.deBruijn64tab"], apart := false, laid := [("math/bits.deBruijn64tab", laid_math_bits_deBruijn64tab)] }
def ClosureOrdersSaid : Prop := closureOrdersRow.holds Tryz.pinned (OpenSpec.ofChange closureOrdersSpec)

/-- ITS FALSE NEIGHBOUR: 'it returns false'. Refute it at one input. -/
def closureOrdersWrong : ChangeSpec := { name := "closureOrders", fn := fun _ => fun
  | [d] => { results := [.lit (.bool false)], args := [d] }
  | _ => none }
def ClosureOrdersWrongFalsely : Prop := closureOrdersRow.holds Tryz.pinned (OpenSpec.ofChange closureOrdersWrong)

/-- 'grammarlablaw04.ClosureDeclared': WHATEVER THE INPUT: true; the input reads as it did. -/
def closureDeclaredSpec : ChangeSpec := { name := "closureDeclared", fn := fun _ => fun
  | [d] => { results := [.lit (.bool true)], args := [d] }
  | _ => none }
def closureDeclaredRow : OpenClaim := { program := "ytdeamdpoegdmdaagreatdoor", sum := "bde3129e0e35777a38ac94c1053cdda724d2abbd322df69b62d4ce7e270b9965", func := "grammarlab/grammarlablaw04.ClosureDeclared", spec := "closureDeclared", inPlace := ["internal/abi.NoEscape", "internal/bytealg.MakeNoZero", "internal/bytealg.abigen_runtime_cmpstring"], unfollowed := true, recurses := true, named := ["math/bits.deBruijn64tab"], apart := false, laid := [("math/bits.deBruijn64tab", laid_math_bits_deBruijn64tab)] }
def ClosureDeclaredSaid : Prop := closureDeclaredRow.holds Tryz.pinned (OpenSpec.ofChange closureDeclaredSpec)

/-- ITS FALSE NEIGHBOUR: 'it returns false'. Refute it at one input. -/
def closureDeclaredWrong : ChangeSpec := { name := "closureDeclared", fn := fun _ => fun
  | [d] => { results := [.lit (.bool false)], args := [d] }
  | _ => none }
def ClosureDeclaredWrongFalsely : Prop := closureDeclaredRow.holds Tryz.pinned (OpenSpec.ofChange closureDeclaredWrong)

/-- 'grammarlablaw04.ClosureLaws': WHATEVER THE INPUT: true; the input reads as it did. -/
def closureLawsSpec : ChangeSpec := { name := "closureLaws", fn := fun _ => fun
  | [d1, d2] => { results := [.lit (.bool true)], args := [d1, d2] }
  | _ => none }
def closureLawsRow : OpenClaim := { program := "ytdeamdpoegdmdaagreatdoor", sum := "bde3129e0e35777a38ac94c1053cdda724d2abbd322df69b62d4ce7e270b9965", func := "grammarlab/grammarlablaw04.ClosureLaws", spec := "closureLaws", inPlace := ["internal/abi.NoEscape", "internal/bytealg.MakeNoZero", "internal/bytealg.abigen_runtime_cmpstring"], unfollowed := true, recurses := true, named := ["math/bits.deBruijn64tab"], apart := false, laid := [("math/bits.deBruijn64tab", laid_math_bits_deBruijn64tab)] }
def ClosureLawsSaid : Prop := closureLawsRow.holds Tryz.pinned (OpenSpec.ofChange closureLawsSpec)

/-- ITS FALSE NEIGHBOUR: 'it returns false'. Refute it at one input. -/
def closureLawsWrong : ChangeSpec := { name := "closureLaws", fn := fun _ => fun
  | [d1, d2] => { results := [.lit (.bool false)], args := [d1, d2] }
  | _ => none }
def ClosureLawsWrongFalsely : Prop := closureLawsRow.holds Tryz.pinned (OpenSpec.ofChange closureLawsWrong)

/-- 'grammarlablaw04.ClosureChains': WHATEVER THE INPUT: true; the input reads as it did. -/
def closureChainsSpec : ChangeSpec := { name := "closureChains", fn := fun _ => fun
  | [d1, d2] => { results := [.lit (.bool true)], args := [d1, d2] }
  | _ => none }
def closureChainsRow : OpenClaim := { program := "ytdeamdpoegdmdaagreatdoor", sum := "bde3129e0e35777a38ac94c1053cdda724d2abbd322df69b62d4ce7e270b9965", func := "grammarlab/grammarlablaw04.ClosureChains", spec := "closureChains", inPlace := ["internal/abi.NoEscape", "internal/bytealg.MakeNoZero", "internal/bytealg.abigen_runtime_cmpstring"], unfollowed := true, recurses := true, named := ["math/bits.deBruijn64tab"], apart := false, laid := [("math/bits.deBruijn64tab", laid_math_bits_deBruijn64tab)] }
def ClosureChainsSaid : Prop := closureChainsRow.holds Tryz.pinned (OpenSpec.ofChange closureChainsSpec)

/-- ITS FALSE NEIGHBOUR: 'it returns false'. Refute it at one input. -/
def closureChainsWrong : ChangeSpec := { name := "closureChains", fn := fun _ => fun
  | [d1, d2] => { results := [.lit (.bool false)], args := [d1, d2] }
  | _ => none }
def ClosureChainsWrongFalsely : Prop := closureChainsRow.holds Tryz.pinned (OpenSpec.ofChange closureChainsWrong)

/-- 'grammarlablaw04.ClosureLimits': WHATEVER THE INPUT: true; the input reads as it did. -/
def closureLimitsSpec : ChangeSpec := { name := "closureLimits", fn := fun _ => fun
  | [d] => { results := [.lit (.bool true)], args := [d] }
  | _ => none }
def closureLimitsRow : OpenClaim := { program := "ytdeamdpoegdmdaagreatdoor", sum := "bde3129e0e35777a38ac94c1053cdda724d2abbd322df69b62d4ce7e270b9965", func := "grammarlab/grammarlablaw04.ClosureLimits", spec := "closureLimits", inPlace := ["internal/abi.NoEscape", "internal/bytealg.MakeNoZero", "internal/bytealg.abigen_runtime_cmpstring"], unfollowed := true, recurses := true, named := ["math/bits.deBruijn64tab"], apart := false, laid := [("math/bits.deBruijn64tab", laid_math_bits_deBruijn64tab)] }
def ClosureLimitsSaid : Prop := closureLimitsRow.holds Tryz.pinned (OpenSpec.ofChange closureLimitsSpec)

/-- ITS FALSE NEIGHBOUR: 'it returns false'. Refute it at one input. -/
def closureLimitsWrong : ChangeSpec := { name := "closureLimits", fn := fun _ => fun
  | [d] => { results := [.lit (.bool false)], args := [d] }
  | _ => none }
def ClosureLimitsWrongFalsely : Prop := closureLimitsRow.holds Tryz.pinned (OpenSpec.ofChange closureLimitsWrong)

/- THE SECOND FORM. 'bulk': how many values and letters a reading holds, each counted each time it is reached (what is shared counts as often as it is met; a slice's spare places count too). A statement '..UptoSaid' is the law's where the arguments, and the package variables that the reading takes, are together of bulk at most 1048576: NARROWER than '..Said'. Prove '..Said' where nothing that the law and all that it calls make is longer than what came in: it says more and counts as full. Else prove '..UptoSaid'. A law counts once. -/
mutual
def uptoBulk {H : Type} : DataW H → Nat
  | .lit (.string bytes) => bytes.length + 1
  | .lit _ => 1
  | .nil => 1
  | .ptr d => uptoBulk d + 1
  | .slice elems spare => uptoBulkAll elems + uptoBulkAll spare + 1
  | .agg parts => uptoBulkAll parts + 1
  | .iface _ d => uptoBulk d + 1
  | .map entries => uptoBulkEntries entries + 1
  | .held _ => 1
def uptoBulkAll {H : Type} : List (DataW H) → Nat
  | [] => 0
  | d :: r => uptoBulk d + uptoBulkAll r
def uptoBulkEntries {H : Type} : List (Lit × DataW H) → Nat
  | [] => 0
  | x :: r => uptoBulkEntry x + uptoBulkEntries r
def uptoBulkEntry {H : Type} : Lit × DataW H → Nat
  | (.string bytes, d) => bytes.length + uptoBulk d + 1
  | (_, d) => uptoBulk d + 1
 end
def uptoSmall : (H : Type) → List (DataW H) → Bool := fun _ ds => decide (uptoBulkAll ds ≤ 1048576)
def OpenSpec.upto (s : _root_.Go.ChangeSpec) : _root_.Go.OpenSpec := { _root_.Go.OpenSpec.ofChange s with cond := some uptoSmall }

/-- 'grammarlablaw04.ClosureCodes', WHERE WHAT IT READS IS OF BULK AT MOST 1048576: true; the input reads as it did. -/
def closureCodesUptoRow : OpenClaim := { program := "ytdeamdpoegdmdaagreatdoor", sum := "bde3129e0e35777a38ac94c1053cdda724d2abbd322df69b62d4ce7e270b9965", func := "grammarlab/grammarlablaw04.ClosureCodes", spec := "closureCodes", inPlace := ["internal/abi.NoEscape", "internal/bytealg.MakeNoZero", "internal/bytealg.abigen_runtime_cmpstring"], unfollowed := true, recurses := true, named := ["math/bits.deBruijn64tab"], apart := false, laid := [("math/bits.deBruijn64tab", laid_math_bits_deBruijn64tab)], narrowed := true }
def ClosureCodesUptoSaid : Prop := closureCodesUptoRow.holds Tryz.pinned (OpenSpec.upto closureCodesSpec)

/-- 'grammarlablaw04.ClosureFinds', WHERE WHAT IT READS IS OF BULK AT MOST 1048576: true; the input reads as it did. -/
def closureFindsUptoRow : OpenClaim := { program := "ytdeamdpoegdmdaagreatdoor", sum := "bde3129e0e35777a38ac94c1053cdda724d2abbd322df69b62d4ce7e270b9965", func := "grammarlab/grammarlablaw04.ClosureFinds", spec := "closureFinds", inPlace := ["internal/abi.NoEscape", "internal/bytealg.MakeNoZero", "internal/bytealg.abigen_runtime_cmpstring"], unfollowed := true, recurses := true, named := ["math/bits.deBruijn64tab"], apart := false, laid := [("math/bits.deBruijn64tab", laid_math_bits_deBruijn64tab)], narrowed := true }
def ClosureFindsUptoSaid : Prop := closureFindsUptoRow.holds Tryz.pinned (OpenSpec.upto closureFindsSpec)

/-- 'grammarlablaw04.ClosureRelations', WHERE WHAT IT READS IS OF BULK AT MOST 1048576: true; the input reads as it did. -/
def closureRelationsUptoRow : OpenClaim := { program := "ytdeamdpoegdmdaagreatdoor", sum := "bde3129e0e35777a38ac94c1053cdda724d2abbd322df69b62d4ce7e270b9965", func := "grammarlab/grammarlablaw04.ClosureRelations", spec := "closureRelations", inPlace := ["internal/abi.NoEscape", "internal/bytealg.MakeNoZero", "internal/bytealg.abigen_runtime_cmpstring"], unfollowed := true, recurses := true, named := ["math/bits.deBruijn64tab"], apart := false, laid := [("math/bits.deBruijn64tab", laid_math_bits_deBruijn64tab)], narrowed := true }
def ClosureRelationsUptoSaid : Prop := closureRelationsUptoRow.holds Tryz.pinned (OpenSpec.upto closureRelationsSpec)

/-- 'grammarlablaw04.ClosureMeets', WHERE WHAT IT READS IS OF BULK AT MOST 1048576: true; the input reads as it did. -/
def closureMeetsUptoRow : OpenClaim := { program := "ytdeamdpoegdmdaagreatdoor", sum := "bde3129e0e35777a38ac94c1053cdda724d2abbd322df69b62d4ce7e270b9965", func := "grammarlab/grammarlablaw04.ClosureMeets", spec := "closureMeets", inPlace := ["internal/abi.NoEscape", "internal/bytealg.MakeNoZero", "internal/bytealg.abigen_runtime_cmpstring"], unfollowed := true, recurses := true, named := ["math/bits.deBruijn64tab"], apart := false, laid := [("math/bits.deBruijn64tab", laid_math_bits_deBruijn64tab)], narrowed := true }
def ClosureMeetsUptoSaid : Prop := closureMeetsUptoRow.holds Tryz.pinned (OpenSpec.upto closureMeetsSpec)

/-- 'grammarlablaw04.ClosureOrders', WHERE WHAT IT READS IS OF BULK AT MOST 1048576: true; the input reads as it did. -/
def closureOrdersUptoRow : OpenClaim := { program := "ytdeamdpoegdmdaagreatdoor", sum := "bde3129e0e35777a38ac94c1053cdda724d2abbd322df69b62d4ce7e270b9965", func := "grammarlab/grammarlablaw04.ClosureOrders", spec := "closureOrders", inPlace := ["internal/abi.NoEscape", "internal/bytealg.MakeNoZero", "internal/bytealg.abigen_runtime_cmpstring"], unfollowed := true, recurses := true, named := ["math/bits.deBruijn64tab"], apart := false, laid := [("math/bits.deBruijn64tab", laid_math_bits_deBruijn64tab)], narrowed := true }
def ClosureOrdersUptoSaid : Prop := closureOrdersUptoRow.holds Tryz.pinned (OpenSpec.upto closureOrdersSpec)

/-- 'grammarlablaw04.ClosureDeclared', WHERE WHAT IT READS IS OF BULK AT MOST 1048576: true; the input reads as it did. -/
def closureDeclaredUptoRow : OpenClaim := { program := "ytdeamdpoegdmdaagreatdoor", sum := "bde3129e0e35777a38ac94c1053cdda724d2abbd322df69b62d4ce7e270b9965", func := "grammarlab/grammarlablaw04.ClosureDeclared", spec := "closureDeclared", inPlace := ["internal/abi.NoEscape", "internal/bytealg.MakeNoZero", "internal/bytealg.abigen_runtime_cmpstring"], unfollowed := true, recurses := true, named := ["math/bits.deBruijn64tab"], apart := false, laid := [("math/bits.deBruijn64tab", laid_math_bits_deBruijn64tab)], narrowed := true }
def ClosureDeclaredUptoSaid : Prop := closureDeclaredUptoRow.holds Tryz.pinned (OpenSpec.upto closureDeclaredSpec)

/-- 'grammarlablaw04.ClosureLaws', WHERE WHAT IT READS IS OF BULK AT MOST 1048576: true; the input reads as it did. -/
def closureLawsUptoRow : OpenClaim := { program := "ytdeamdpoegdmdaagreatdoor", sum := "bde3129e0e35777a38ac94c1053cdda724d2abbd322df69b62d4ce7e270b9965", func := "grammarlab/grammarlablaw04.ClosureLaws", spec := "closureLaws", inPlace := ["internal/abi.NoEscape", "internal/bytealg.MakeNoZero", "internal/bytealg.abigen_runtime_cmpstring"], unfollowed := true, recurses := true, named := ["math/bits.deBruijn64tab"], apart := false, laid := [("math/bits.deBruijn64tab", laid_math_bits_deBruijn64tab)], narrowed := true }
def ClosureLawsUptoSaid : Prop := closureLawsUptoRow.holds Tryz.pinned (OpenSpec.upto closureLawsSpec)

/-- 'grammarlablaw04.ClosureChains', WHERE WHAT IT READS IS OF BULK AT MOST 1048576: true; the input reads as it did. -/
def closureChainsUptoRow : OpenClaim := { program := "ytdeamdpoegdmdaagreatdoor", sum := "bde3129e0e35777a38ac94c1053cdda724d2abbd322df69b62d4ce7e270b9965", func := "grammarlab/grammarlablaw04.ClosureChains", spec := "closureChains", inPlace := ["internal/abi.NoEscape", "internal/bytealg.MakeNoZero", "internal/bytealg.abigen_runtime_cmpstring"], unfollowed := true, recurses := true, named := ["math/bits.deBruijn64tab"], apart := false, laid := [("math/bits.deBruijn64tab", laid_math_bits_deBruijn64tab)], narrowed := true }
def ClosureChainsUptoSaid : Prop := closureChainsUptoRow.holds Tryz.pinned (OpenSpec.upto closureChainsSpec)

/-- 'grammarlablaw04.ClosureLimits', WHERE WHAT IT READS IS OF BULK AT MOST 1048576: true; the input reads as it did. -/
def closureLimitsUptoRow : OpenClaim := { program := "ytdeamdpoegdmdaagreatdoor", sum := "bde3129e0e35777a38ac94c1053cdda724d2abbd322df69b62d4ce7e270b9965", func := "grammarlab/grammarlablaw04.ClosureLimits", spec := "closureLimits", inPlace := ["internal/abi.NoEscape", "internal/bytealg.MakeNoZero", "internal/bytealg.abigen_runtime_cmpstring"], unfollowed := true, recurses := true, named := ["math/bits.deBruijn64tab"], apart := false, laid := [("math/bits.deBruijn64tab", laid_math_bits_deBruijn64tab)], narrowed := true }
def ClosureLimitsUptoSaid : Prop := closureLimitsUptoRow.holds Tryz.pinned (OpenSpec.upto closureLimitsSpec)

end Rows
end Go.Proofs.YtdeamdpoegdmdaaGreatDoor
