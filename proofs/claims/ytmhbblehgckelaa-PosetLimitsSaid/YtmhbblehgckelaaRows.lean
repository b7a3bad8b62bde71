/-
  No cell of these rows narrows 'for every input' (looked for: loops, veiled, ifaces, maps, wideKeys, modest, calm, conditions, laid).
  DERIVED. THE GIVEN ROWS OF THIS SEAT. 3 by the template 'for every input the law returns true; each argument reads behind the call as it read before'; 0 by the template 'total and deterministic' (their statements: YtmhbblehgckelaaTotals.lean).
  GIVEN WITH THE SEED: the statements are not yours to turn. If you find one false, say at which input.
  Laid BY PROGRAM, IN A SANDBOX (cutbox-rows.mjs): the forced cells as the released guide's own fill.sh prints them over the translation cc6968ce843a29df… (all of the seat's roots in one cut). By AI agents, Wed Nov 11 2026. No macro, syntax, notation, axiom, sorry.
-/
import Derived.Test.YtmhbblehgckelaaChecked
import GoSem.Claim
import GoSem.ClaimJoined
import GoSem.ClaimMapViews
import Derived.JoinedTies
import Derived.KernelRfl
namespace Go.Proofs.Ytmhbblehgckelaa
/- THE CELL 'sum', in the pinned program and in every row, IS THE sha256 OF THE DUMP (.gsa) THAT YtmhbblehgckelaaProg.lean LOADS. Nothing in Lean hashes anything: it is a label: what it is worth is what the hold of that sum in a sandbox is worth. -/
noncomputable def Try.pinned : Pinned := { name := "ytmhbblehgckelaa", sum := "cc6968ce843a29dfbf55a7baacfaf4ed992365b915b0b90d9af871d2e60d0880", checked := Try.checked }
namespace Rows
def none {H : Type} : Left H := { results := [], args := [] }

/-- 'grammarlablaw03.PosetRelates': WHATEVER THE INPUT: true; the input reads as it did. -/
def posetRelatesSpec : ChangeSpec := { name := "posetRelates", fn := fun _ => fun
  | [d] => { results := [.lit (.bool true)], args := [d] }
  | _ => none }
def posetRelatesRow : OpenClaim := { program := "ytmhbblehgckelaa", sum := "cc6968ce843a29dfbf55a7baacfaf4ed992365b915b0b90d9af871d2e60d0880", func := "grammarlab/grammarlablaw03.PosetRelates", spec := "posetRelates", unfollowed := true, recurses := true, apart := false }
def PosetRelatesSaid : Prop := posetRelatesRow.holds Try.pinned (OpenSpec.ofChange posetRelatesSpec)

/-- ITS FALSE NEIGHBOUR: 'it returns false'. Refute it at one input. -/
def posetRelatesWrong : ChangeSpec := { name := "posetRelates", fn := fun _ => fun
  | [d] => { results := [.lit (.bool false)], args := [d] }
  | _ => none }
def PosetRelatesWrongFalsely : Prop := posetRelatesRow.holds Try.pinned (OpenSpec.ofChange posetRelatesWrong)

/-- 'grammarlablaw03.PosetTurns': WHATEVER THE INPUT: true; the input reads as it did. -/
def posetTurnsSpec : ChangeSpec := { name := "posetTurns", fn := fun _ => fun
  | [d1, d2] => { results := [.lit (.bool true)], args := [d1, d2] }
  | _ => none }
def posetTurnsRow : OpenClaim := { program := "ytmhbblehgckelaa", sum := "cc6968ce843a29dfbf55a7baacfaf4ed992365b915b0b90d9af871d2e60d0880", func := "grammarlab/grammarlablaw03.PosetTurns", spec := "posetTurns", unfollowed := true, recurses := true, apart := false }
def PosetTurnsSaid : Prop := posetTurnsRow.holds Try.pinned (OpenSpec.ofChange posetTurnsSpec)

/-- ITS FALSE NEIGHBOUR: 'it returns false'. Refute it at one input. -/
def posetTurnsWrong : ChangeSpec := { name := "posetTurns", fn := fun _ => fun
  | [d1, d2] => { results := [.lit (.bool false)], args := [d1, d2] }
  | _ => none }
def PosetTurnsWrongFalsely : Prop := posetTurnsRow.holds Try.pinned (OpenSpec.ofChange posetTurnsWrong)

/-- 'grammarlablaw03.PosetLimits': WHATEVER THE INPUT: true; the input reads as it did. -/
def posetLimitsSpec : ChangeSpec := { name := "posetLimits", fn := fun _ => fun
  | [d] => { results := [.lit (.bool true)], args := [d] }
  | _ => none }
def posetLimitsRow : OpenClaim := { program := "ytmhbblehgckelaa", sum := "cc6968ce843a29dfbf55a7baacfaf4ed992365b915b0b90d9af871d2e60d0880", func := "grammarlab/grammarlablaw03.PosetLimits", spec := "posetLimits", unfollowed := true, recurses := true, apart := false }
def PosetLimitsSaid : Prop := posetLimitsRow.holds Try.pinned (OpenSpec.ofChange posetLimitsSpec)

/-- ITS FALSE NEIGHBOUR: 'it returns false'. Refute it at one input. -/
def posetLimitsWrong : ChangeSpec := { name := "posetLimits", fn := fun _ => fun
  | [d] => { results := [.lit (.bool false)], args := [d] }
  | _ => none }
def PosetLimitsWrongFalsely : Prop := posetLimitsRow.holds Try.pinned (OpenSpec.ofChange posetLimitsWrong)

/- THE SECOND FORM. 'bulk': how many values and letters a reading holds, each counted each time it is reached (what is shared counts as often as it is met; a slice's spare places count too). A statement '..UptoSaid' is the law's where the arguments, and the package variables that the reading takes, are together of bulk at most 1048576: NARROWER than '..Said'. Prove '..Said' where nothing that the law and all that it calls make is longer than what came in: it says more and counts as full. Else prove '..UptoSaid'. A law counts once. -/
mutual
def uptoBulk {H : Type} : DataW H → Nat
  | .lit (.string bytes) => bytes.length + 1
  | .lit _ => 1
  | .nil => 1
  | .ptr d => uptoBulk d + 1
  | .slice elems spare => uptoBulkAll elems + uptoBulkAll spare + 1
  | .agg parts => uptoBulkAll parts + 1
  | .iface _ d => uptoBulk d + 1
  | .map entries => uptoBulkEntries entries + 1
  | .held _ => 1
def uptoBulkAll {H : Type} : List (DataW H) → Nat
  | [] => 0
  | d :: r => uptoBulk d + uptoBulkAll r
def uptoBulkEntries {H : Type} : List (Lit × DataW H) → Nat
  | [] => 0
  | x :: r => uptoBulkEntry x + uptoBulkEntries r
def uptoBulkEntry {H : Type} : Lit × DataW H → Nat
  | (.string bytes, d) => bytes.length + uptoBulk d + 1
  | (_, d) => uptoBulk d + 1
 end
def uptoSmall : (H : Type) → List (DataW H) → Bool := fun _ ds => decide (uptoBulkAll ds ≤ 1048576)
def OpenSpec.upto (s : _root_.Go.ChangeSpec) : _root_.Go.OpenSpec := { _root_.Go.OpenSpec.ofChange s with cond := some uptoSmall }

/-- 'grammarlablaw03.PosetRelates', WHERE WHAT IT READS IS OF BULK AT MOST 1048576: true; the input reads as it did. -/
def posetRelatesUptoRow : OpenClaim := { program := "ytmhbblehgckelaa", sum := "cc6968ce843a29dfbf55a7baacfaf4ed992365b915b0b90d9af871d2e60d0880", func := "grammarlab/grammarlablaw03.PosetRelates", spec := "posetRelates", unfollowed := true, recurses := true, apart := false, narrowed := true }
def PosetRelatesUptoSaid : Prop := posetRelatesUptoRow.holds Try.pinned (OpenSpec.upto posetRelatesSpec)

/-- 'grammarlablaw03.PosetTurns', WHERE WHAT IT READS IS OF BULK AT MOST 1048576: true; the input reads as it did. -/
def posetTurnsUptoRow : OpenClaim := { program := "ytmhbblehgckelaa", sum := "cc6968ce843a29dfbf55a7baacfaf4ed992365b915b0b90d9af871d2e60d0880", func := "grammarlab/grammarlablaw03.PosetTurns", spec := "posetTurns", unfollowed := true, recurses := true, apart := false, narrowed := true }
def PosetTurnsUptoSaid : Prop := posetTurnsUptoRow.holds Try.pinned (OpenSpec.upto posetTurnsSpec)

/-- 'grammarlablaw03.PosetLimits', WHERE WHAT IT READS IS OF BULK AT MOST 1048576: true; the input reads as it did. -/
def posetLimitsUptoRow : OpenClaim := { program := "ytmhbblehgckelaa", sum := "cc6968ce843a29dfbf55a7baacfaf4ed992365b915b0b90d9af871d2e60d0880", func := "grammarlab/grammarlablaw03.PosetLimits", spec := "posetLimits", unfollowed := true, recurses := true, apart := false, narrowed := true }
def PosetLimitsUptoSaid : Prop := posetLimitsUptoRow.holds Try.pinned (OpenSpec.upto posetLimitsSpec)

end Rows
end Go.Proofs.Ytmhbblehgckelaa
