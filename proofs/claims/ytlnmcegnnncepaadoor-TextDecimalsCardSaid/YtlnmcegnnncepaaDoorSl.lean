/- What the text cards' rows list: the witness world, and what the walks ask, out of the listed variables. -/
import Derived.Test.YtlnmcegnnncepaaDoorCards
import Derived.Test.YtlnmcegnnncepaaDoorTie
import Derived.Test.YtlnmcegnnncepaaDoorTe
import Derived.ProofKit
import Derived.OpenShut
import Derived.Deep.DeepHandedRow
import Derived.Deep.DeepWitnessRowRef
import Derived.Deep.DeepLaidRun
import Derived.Lib.LaidTab
import Derived.Lib.TrailingZeros
import Derived.Lib.DecodeN
import Derived.Lib.LaidU8
import Derived.Stop.LaidErr
namespace Go.Proofs.YtlnmcegnnncepaaDoor
open Go.ChangeShapes Go.WideShapes Go.ChangeAt Go.RowKit

namespace Txt
theorem own : ownKnob Tryd.prog.godebug = none := by kernel_rfl
theorem laidOut : laidOutB Tryd.prog = true := by kernel_rfl
theorem gPowType : (Tryd.prog.globals[4]?).map (·.type) = some 116 := by kernel_rfl
theorem cells20 : Tryd.prog.cellsOf 116 = 20 := by kernel_rfl
theorem cells64 : Tryd.prog.cellsOf 56 = 1 := by kernel_rfl
theorem gER : Tryd.prog.globalNamed "strconv.ErrRange" = some 3 := by kernel_rfl
theorem gERType : (Tryd.prog.globals[3]?).map (·.type) = some 64 := by kernel_rfl
theorem star : "*" ++ "errors.errorString" = "*errors.errorString" := by decide
theorem rowErr (u : TypeId) (h : Tryd.prog.typeName? 3 u = some "*errors.errorString") : u = 112 :=
  typeName_ptr_named (nm := "errors.errorString") (by rw [star]; kernel_rfl) (by kernel_rfl) (by decide) u (by rw [star]; exact h)
theorem cellsErr : Tryd.prog.cellsOf 114 = 1 := by kernel_rfl
theorem cellsStr : Tryd.prog.cellsOf 9 = 1 := by kernel_rfl

theorem txtOk {W : World} (hL : laidMetH Tryd.prog Rows.textNamesRow.laid W) (hsh : W.ShapedOpen Tryd.prog) : TxtOk W := by
  have h : laidMet Tryd.prog Rows.textNamesRow.laid W := hL
  have hp : Lib.TabIs Tryd.prog W "internal/strconv.uint64pow10" .u64 Lib.pow10Tab := Lib.tabIs_of_head gPow gPowType Tryd.underlying116 Tryd.underlying56 cells64 cells20 (laidMet.tail (laidMet.tail h))
  obtain ⟨a, s, hv, -, -, -⟩ := laid_sentinel (laidMet.tail (laidMet.tail (laidMet.tail (laidMet.tail h)))) gER gERType Tryd.underlying64 rowErr Tryd.underlying112 Tryd.underlying114 rfl rfl Tryd.underlying9 cellsErr cellsStr
  have hr : W.cell? ⟨3, 0, none⟩ = some (.iface 112 (.pointer (some a))) := by have h0 := World.var?_cell gER hv 0; simpa using h0
  obtain ⟨m, hm⟩ := Tryd.laysM146.s1_3 W hsh
  exact ⟨⟨World.block_lt_of_cell? W _ hm, World.block_lt_of_cell? W _ hr, World.block_lt_of_cell? W _ (hp.cell gPow 0 (by decide))⟩, ⟨_, _, hr⟩, ⟨m, hm⟩, hp⟩

abbrev synS : ByteArray := { data := #[105, 110, 118, 97, 108, 105, 100, 32, 115, 121, 110, 116, 97, 120] }
abbrev rngS : ByteArray := { data := #[118, 97, 108, 117, 101, 32, 111, 117, 116, 32, 111, 102, 32, 114, 97, 110, 103, 101] }
noncomputable def low : Nat := (World.holding Tryd.prog default ⟨#[], #[], []⟩).heap.size
/-- A world for the witness: the settled one with two blocks more, the listed variables holding what their initialisers lay. -/
noncomputable def laidWorld (os : Os) : World :=
  let w0 := World.holding Tryd.prog os ⟨#[.cells #[.string synS] 114, .cells #[.string rngS] 114], #[], []⟩
  let put (h : Array Obj) (g : Nat) (cs : Array Value) : Array Obj := h.modify g fun
    | .cells _ t frozen => .cells cs t frozen
    | o => o
  let h1 := put w0.heap 0 (Lib.deBruijn64tab.map fun (n : Nat) => Value.int .u8 (n : Int)).toArray
  let h2 := put h1 7 (([0, 1, 28, 2, 29, 14, 24, 3, 30, 22, 20, 15, 25, 17, 4, 8, 31, 27, 13, 23, 21, 19, 16, 7, 26, 12, 18, 6, 11, 5, 10, 9] : List Int).map fun n => Value.int .u8 n).toArray
  let h3 := put h2 4 (Lib.pow10Tab.map fun z => Value.int .u64 z).toArray
  let h4 := put h3 5 (Lib.firstTab.map fun z => Value.int .u8 z).toArray
  let h5 := put h4 6 ((List.range 16).flatMap fun i => [Value.int .u8 (Lib.accLo i), Value.int .u8 (Lib.accHi i)]).toArray
  let h6 := put h5 2 #[.iface 112 (.pointer (some ⟨low, 0, none⟩))]
  let h7 := put h6 3 #[.iface 112 (.pointer (some ⟨low + 1, 0, none⟩))]
  { w0 with heap := h7 }
set_option maxRecDepth 1000000 in
theorem laid_met (os : Os) (args : Array Value) : laidMet Tryd.prog Rows.textNamesRow.laid ((laidWorld os).forCall (fun _ _ => 0) ⟨#[], args, []⟩).memory :=
  laidMet_of_run3 8 (by kernel_rfl) (by kernel_rfl) (by kernel_rfl)
end Txt
end Go.Proofs.YtlnmcegnnncepaaDoor
