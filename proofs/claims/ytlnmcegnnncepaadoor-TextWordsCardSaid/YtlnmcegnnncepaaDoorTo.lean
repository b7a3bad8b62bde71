/- Walk of the reference of package text: Same, at two lists that read alike. -/
import Derived.Test.YtlnmcegnnncepaaDoorTl
import Derived.BigQuiet
namespace Go.Proofs.YtlnmcegnnncepaaDoor
open Go.RowKit

theorem below_drewN2 {B : Nat} {a w : World} (h : Below B a w) (k : Nat) : Below B a (w.drewN k) := ⟨h.os, h.tape, h.output, h.size, h.block⟩

theorem SameS_any (w : World) (a1 a2 : Option Addr) (n1 cap1 cap2 : Nat) (zs : List (List UInt8)) (h1 : IsStrs w a1 n1 cap1 zs) (h2 : IsStrs w a2 n1 cap2 zs) :
    Calls Tryd.prog 28 #[.slice a1 n1 cap1, .slice a2 n1 cap2] w fun e w' => e = .returned (.bool true) ∧ Below w.heap.size w w' := by
  have hm1 := h1.maxLe
  have hm2 := h2.maxLe
  have hc1 := h1.capLe
  have hc2 := h2.capLe
  unfold maxLen at hm1 hm2
  have H1 := Lib.hid h1
  have H2 := Lib.hid h2
  clear h1 h2
  go_enter Tryd.func28, Tryd.ntmps28
  go_wp2
  go_loopw [5] (fun v wr => ∃ k : Nat, k ≤ n1 ∧ v = .int .i64 k ∧ Below w.heap.size w wr) (fun v _ => n1 - (intOf v).toNat)
  case atStart => exact ⟨0, Nat.zero_le _, rfl, Below.refl _ _⟩
  case round =>
    obtain ⟨k, hk, rfl, hb⟩ := hrel
    by_cases hlt : k < n1
    · obtain ⟨b1, o1, rfl, hl1, hx1⟩ := H1.out.at_ (by omega)
      obtain ⟨b2, o2, rfl, hl2, hx2⟩ := H2.out.at_ (by omega)
      have c1 := (hb.cell (p := ⟨b1, o1 + k, none⟩) hl1).trans (hx1 k (by omega))
      have c2 := (hb.cell (p := ⟨b2, o2 + k, none⟩) hl2).trans (hx2 k (by omega))
      clear hx1 hx2
      go_wp2
      go_quiet (fail)
      go_wp2
      go_roundw
      case rel => exact ⟨k + 1, by omega, by go_num, by first | exact hb | exact hb.drew | exact below_drewN2 hb _⟩
      case measure => simp [intOf]; omega
    · obtain rfl : n1 = k := by omega
      go_wp2
      go_ret
      exact ⟨rfl, hb⟩
end Go.Proofs.YtlnmcegnnncepaaDoor
