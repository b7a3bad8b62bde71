/- Walk over math/bits.TrailingZeros64. -/
import Derived.Test.YtlphlbhbhcpnpaaDoorBb
import Derived.Lib.TrailingZeros
namespace Go.Proofs.YtlphlbhbhcpnpaaDoor
open Go.RowKit

/-- The table of math/bits, as it lies in memory. -/
def TabOk (w : World) : Prop := 0 < w.heap.size ∧ ∀ j, j < 64 → w.cell? ⟨0, j, none⟩ = some (.int .u8 ((Lib.deBruijn64tab.getD j 0 : Nat) : Int))
theorem TabOk.below {w w' : World} (h : TabOk w) (hb : Below w.heap.size w w') : TabOk w' :=
  ⟨Nat.lt_of_lt_of_le h.1 hb.size, fun j hj => (hb.cell (p := ⟨_, j, none⟩) h.1).trans (h.2 j hj)⟩

theorem Tz_any (w : World) (x : Nat) (hx : x < 18446744073709551616) (h0 : x ≠ 0) (hT : TabOk w) :
    Calls Tryd.prog 73 #[.int .u64 x] w fun e w' => e = .returned (.int .i64 ((Lib.ctz 64 x : Nat) : Int)) ∧ w = w' := by
  obtain ⟨e1, e2⟩ := Lib.lowest_bit 64 x h0 hx
  obtain ⟨e3, e4⟩ := Lib.deBruijn64_at _ e2
  obtain ⟨c, hc⟩ : ∃ c, Lib.ctz 64 x = c := ⟨_, rfl⟩
  rw [hc] at e1 e2 e3 e4
  obtain ⟨nx, hnx⟩ : ∃ nx, 2 ^ 64 - x = nx := ⟨_, rfl⟩
  rw [hnx] at e1
  obtain ⟨p, hp⟩ : ∃ p, 2 ^ c = p := ⟨_, rfl⟩
  rw [hp] at e1 e3 e4
  obtain ⟨q, hq⟩ : ∃ q, p * 285870213051353865 % 18446744073709551616 = q := ⟨_, rfl⟩
  rw [hq] at e3 e4
  obtain ⟨r, hr⟩ : ∃ r, q / 288230376151711744 = r := ⟨_, rfl⟩
  rw [hr] at e3 e4
  have f1 : IntKind.u64.wrap (-(x : Int)) = (nx : Int) := by rw [IntKind.wrap_u64]; omega
  have f2 : bits BinOp.and IntKind.u64 (x : Int) (nx : Int) = (p : Int) := by rw [andc hx (by omega), e1]
  have f3 : IntKind.u64.wrap ((p : Int) * 285870213051353865) = (q : Int) := by rw [IntKind.wrap_u64]; omega
  have f4 : (q : Int) / 288230376151711744 = (r : Int) := by omega
  have f5 := hT.2 r e3
  rw [e4] at f5
  have f6 : ((x : Int) == 0) = false := by simpa using h0
  have HC := Lib.hid hc
  clear hc e1 e4 hnx hp hq hr hT
  go_enter Tryd.func73, Tryd.ntmps73
  go_wp2
  go_ret
  refine ⟨?_, rfl⟩
  rw [HC.out]
  rfl
end Go.Proofs.YtlphlbhbhcpnpaaDoor
