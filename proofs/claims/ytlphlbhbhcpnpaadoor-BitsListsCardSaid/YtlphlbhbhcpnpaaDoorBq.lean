/- What a slice that came in reads as. -/
import Derived.Test.YtlphlbhbhcpnpaaDoorBh
import Derived.ProofKit
namespace Go.Proofs.YtlphlbhbhcpnpaaDoor
open Go.RowKit

theorem row64_nil (W : World) : ∃ zs : List Nat, zs.length = 0 ∧ Is64 W none zs.length 0 zs := ⟨[], rfl, (nil_64 W).1⟩
theorem rowInt_nil (W : World) : ∃ zs : List Int, zs.length = 0 ∧ IsInt W none zs.length 0 zs :=
  ⟨[], rfl, rfl, Nat.le_refl _, Nat.zero_le _, fun i hi => absurd hi (Nat.not_lt_zero _), fun h0 => absurd h0 (Nat.lt_irrefl _)⟩

theorem wi_take (zs : List Int) (n i : Nat) (h : i < n) : wi (zs.take n) i = zs.getD i 0 := by
  simp [wi, List.getD_eq_getElem?_getD, List.getElem?_take, h]

theorem rowInt_some {W : World} {x : Addr} {len cap : Nat} {zs : List Int} (hl : len ≤ cap) (hm : cap ≤ maxLen) (hz : zs.length = cap) (hcell : ∀ i, i < zs.length → W.cell? (x.add i) = some (.int .i64 (zs.getD i 0)))
    (hwz : ∀ n ∈ zs, (Lit.int .i64 n).wf = true) : ∃ ys : List Int, ys.length = len ∧ IsInt W (some x) ys.length cap ys := by
  have hlen : (zs.take len).length = len := by rw [List.length_take]; omega
  refine ⟨zs.take len, hlen, rfl, by omega, hm, fun i hi => ?_, fun h0 => ?_⟩
  · rw [wi_take _ _ _ (by omega), List.getD_eq_getElem?_getD, List.getElem?_eq_getElem (by omega)]
    have := hwz _ (List.getElem_mem (show i < zs.length by omega))
    simp [Lit.wf, IntKind.min, IntKind.max, IntKind.bits, IntKind.signed] at this
    simpa using (by omega : _)
  · obtain ⟨b, off, spot⟩ := x
    have hspot : spot = none := by
      have := World.cell?_spot (hcell 0 (by omega))
      simpa [Addr.add] using this
    subst hspot
    refine ⟨b, off, rfl, World.block_lt_of_cell? W _ (hcell 0 (by omega)), fun i hi => ?_⟩
    rw [wi_take _ _ _ (by omega), ← hcell i (by omega)]
    congr 1
    unfold Addr.add
    split <;> simp_all

theorem wd_toNat (zs : List Int) (n i : Nat) (h : i < n) (h2 : i < zs.length) : wd ((zs.take n).map Int.toNat) i = (zs.getD i 0).toNat := by
  simp [wd, List.getD_eq_getElem?_getD, List.getElem?_take, h, List.getElem?_eq_getElem h2]

theorem row64_some {W : World} {x : Addr} {len cap : Nat} {zs : List Int} (hl : len ≤ cap) (hm : cap ≤ maxLen) (hz : zs.length = cap) (hcell : ∀ i, i < zs.length → W.cell? (x.add i) = some (.int .u64 (zs.getD i 0)))
    (hwz : ∀ n ∈ zs, (Lit.int .u64 n).wf = true) : ∃ ys : List Nat, ys.length = len ∧ Is64 W (some x) ys.length cap ys := by
  have hlen : ((zs.take len).map Int.toNat).length = len := by rw [List.length_map, List.length_take]; omega
  have hb : ∀ i, i < len → 0 ≤ zs.getD i 0 ∧ zs.getD i 0 < 18446744073709551616 := fun i hi => by
    rw [List.getD_eq_getElem?_getD, List.getElem?_eq_getElem (by omega)]
    have := hwz _ (List.getElem_mem (show i < zs.length by omega))
    simp [Lit.wf, IntKind.min, IntKind.max, IntKind.bits, IntKind.signed] at this
    simpa using (by omega : _)
  refine ⟨(zs.take len).map Int.toNat, hlen, rfl, by omega, hm, fun i hi => ?_, fun h0 => ?_, fun e => by cases e⟩
  · rw [wd_toNat _ _ _ (by omega) (by omega)]
    have := hb i (by omega)
    omega
  · obtain ⟨b, off, spot⟩ := x
    have hspot : spot = none := by
      have := World.cell?_spot (hcell 0 (by omega))
      simpa [Addr.add] using this
    subst hspot
    refine ⟨b, off, rfl, World.block_lt_of_cell? W _ (hcell 0 (by omega)), fun i hi => ?_⟩
    rw [wd_toNat _ _ _ (by omega) (by omega), Int.toNat_of_nonneg (hb i (by omega)).1, ← hcell i (by omega)]
    congr 1
    unfold Addr.add
    split <;> simp_all
end Go.Proofs.YtlphlbhbhcpnpaaDoor
