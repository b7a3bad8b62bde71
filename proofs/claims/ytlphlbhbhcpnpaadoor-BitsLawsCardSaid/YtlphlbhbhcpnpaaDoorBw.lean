/- Walks over package bits: the leaves. -/
import Derived.Test.YtlphlbhbhcpnpaaDoorRows
import Derived.WalkKit
import Derived.Lib.Hide
import Derived.Deep.QuietTactic
import Derived.BigQuiet
namespace Go.Proofs.YtlphlbhbhcpnpaaDoor
open Go.RowKit

/-- The word of a list at a place, 0 behind its end. Plain, so that no tactic opens it. -/
def wd (xs : List Nat) (i : Nat) : Nat := xs.getD i 0

/-- A slice of 64-bit words that reads as a list. -/
structure Is64 (w : World) (a : Option Addr) (n cap : Nat) (xs : List Nat) : Prop where
  len : xs.length = n
  capLe : n ≤ cap
  maxLe : cap ≤ maxLen
  bnd : ∀ i, i < n → wd xs i < 18446744073709551616
  at_ : 0 < n → ∃ b off, a = some ⟨b, off, none⟩ ∧ b < w.heap.size ∧ ∀ i, i < n → w.cell? ⟨b, off + i, none⟩ = some (.int .u64 ((wd xs i : Nat) : Int))
  nil : a = none → n = 0 ∧ cap = 0

theorem Is64.below {w w' : World} {a : Option Addr} {n cap : Nat} {xs : List Nat} (h : Is64 w a n cap xs) (hb : Below w.heap.size w w') : Is64 w' a n cap xs := by
  refine ⟨h.len, h.capLe, h.maxLe, h.bnd, fun h0 => ?_, h.nil⟩
  obtain ⟨b, off, rfl, hl, hc⟩ := h.at_ h0
  exact ⟨b, off, rfl, Nat.lt_of_lt_of_le hl hb.size, fun i hi => (hb.cell (p := ⟨b, off + i, none⟩) hl).trans (hc i hi)⟩

theorem wd_take (xs : List Nat) (m i : Nat) (h : i < m) : wd (xs.take m) i = wd xs i := by
  simp [wd, List.getD_eq_getElem?_getD, List.getElem?_take, h]

theorem Is64.take {w : World} {a : Option Addr} {n cap m : Nat} {xs : List Nat} (h : Is64 w a n cap xs) (hm : m ≤ n) : Is64 w a m cap (xs.take m) := by
  refine ⟨by rw [List.length_take, h.len]; omega, by have := h.capLe; omega, h.maxLe, fun i hi => ?_, fun h0 => ?_, fun e => by have := h.nil e; omega⟩
  · rw [wd_take _ _ _ hi]; exact h.bnd i (by omega)
  · obtain ⟨b, off, rfl, hl, hc⟩ := h.at_ (by omega)
    exact ⟨b, off, rfl, hl, fun i hi => by rw [wd_take _ _ _ hi]; exact hc i (by omega)⟩

theorem word_in (w : World) (a : Option Addr) (n cap : Nat) (xs : List Nat) (h : Is64 w a n cap xs) (i : Nat) (hi : i < n) :
    Calls Tryd.prog 76 #[.slice a n cap, .int .i64 i] w fun e w' => e = .returned (.int .u64 ((wd xs i : Nat) : Int)) ∧ w = w' := by
  obtain ⟨b, off, rfl, hbl, hcell⟩ := h.at_ (by omega)
  have h0 := hcell i hi
  have hm := h.maxLe
  have hc := h.capLe
  unfold maxLen at hm
  clear hcell h
  go_enter Tryd.func76, Tryd.ntmps76
  go_wp2
  go_ret
  exact ⟨rfl, rfl⟩

theorem word_out (w : World) (a : Option Addr) (n cap : Nat) (i : Int) (hi : (n : Int) ≤ i) :
    Calls Tryd.prog 76 #[.slice a n cap, .int .i64 i] w fun e w' => e = .returned (.int .u64 0) ∧ w = w' := by
  go_enter Tryd.func76, Tryd.ntmps76
  go_wp2
  go_ret
  exact ⟨rfl, rfl⟩

theorem wd_out (xs : List Nat) (i : Nat) (h : xs.length ≤ i) : wd xs i = 0 := by
  simp [wd, List.getD_eq_getElem?_getD, List.getElem?_eq_none h]

/-- The word at any place that is not negative. -/
theorem word_any (w : World) (a : Option Addr) (n cap : Nat) (xs : List Nat) (h : Is64 w a n cap xs) (i : Nat) :
    Calls Tryd.prog 76 #[.slice a n cap, .int .i64 i] w fun e w' => e = .returned (.int .u64 ((wd xs i : Nat) : Int)) ∧ w = w' := by
  by_cases hi : i < n
  · exact word_in w a n cap xs h i hi
  · rw [wd_out xs i (by rw [h.len]; omega)]
    exact word_out w a n cap i (by omega)

theorem rword_in (w : World) (a : Option Addr) (n cap : Nat) (xs : List Nat) (h : Is64 w a n cap xs) (i : Nat) (hi : i < n) :
    Calls Tryd.prog 75 #[.slice a n cap, .int .i64 i] w fun e w' => e = .returned (.int .u64 ((wd xs i : Nat) : Int)) ∧ w = w' := by
  obtain ⟨b, off, rfl, hbl, hcell⟩ := h.at_ (by omega)
  have h0 := hcell i hi
  have hm := h.maxLe
  have hc := h.capLe
  unfold maxLen at hm
  clear hcell h
  go_enter Tryd.func75, Tryd.ntmps75
  go_wp2
  go_ret
  exact ⟨rfl, rfl⟩

theorem rword_out (w : World) (a : Option Addr) (n cap : Nat) (i : Int) (hi : (n : Int) ≤ i) :
    Calls Tryd.prog 75 #[.slice a n cap, .int .i64 i] w fun e w' => e = .returned (.int .u64 0) ∧ w = w' := by
  go_enter Tryd.func75, Tryd.ntmps75
  go_wp2
  go_ret
  exact ⟨rfl, rfl⟩

theorem rword_any (w : World) (a : Option Addr) (n cap : Nat) (xs : List Nat) (h : Is64 w a n cap xs) (i : Nat) :
    Calls Tryd.prog 75 #[.slice a n cap, .int .i64 i] w fun e w' => e = .returned (.int .u64 ((wd xs i : Nat) : Int)) ∧ w = w' := by
  by_cases hi : i < n
  · exact rword_in w a n cap xs h i hi
  · rw [wd_out xs i (by rw [h.len]; omega)]
    exact rword_out w a n cap i (by omega)

/-- How many words stay when the zero words at the end of the first n are dropped. -/
def nlen (xs : List Nat) : Nat → Nat
  | 0 => 0
  | n + 1 => if wd xs n = 0 then nlen xs n else n + 1

theorem nlen_le (xs : List Nat) : ∀ n, nlen xs n ≤ n
  | 0 => Nat.le_refl _
  | n + 1 => by
    unfold nlen
    split
    · have := nlen_le xs n; omega
    · omega

theorem normal_any (w : World) (a : Option Addr) (n cap : Nat) (xs : List Nat) (h : Is64 w a n cap xs) :
    Calls Tryd.prog 74 #[.slice a n cap] w fun e w' => e = .returned (.slice a (nlen xs n) cap) ∧ w = w' := by
  have hm := h.maxLe
  have hc := h.capLe
  have HX := Lib.hid h.at_
  unfold maxLen at hm
  clear h
  go_enter Tryd.func74, Tryd.ntmps74
  go_wp2
  go_loop [3] (fun v => ∃ k : Nat, k ≤ n ∧ v = .int .i64 k ∧ Hid (nlen xs k = nlen xs n)) (fun v => (intOf v).toNat)
  case atStart => exact ⟨n, Nat.le_refl _, rfl, rfl⟩
  case round =>
    obtain ⟨k, hk, rfl, hr⟩ := hrel
    match k, hk, hr with
    | 0, hk, hr =>
      go_wp2
      go_ret
      exact ⟨by rw [← hr.out]; rfl, rfl⟩
    | k + 1, hk, hr =>
      obtain ⟨b, off, rfl, hbl, hcell⟩ := HX.out (by omega)
      have h0 := hcell k (by omega)
      by_cases hz : wd xs k = 0
      · rw [hz] at h0
        clear hcell HX
        have hr' : Hid (nlen xs k = nlen xs n) := by
          have := hr.out
          rw [nlen, if_pos hz] at this
          exact this
        clear hr hz
        go_wp2
        exact ⟨⟨k, by omega, rfl, hr'⟩, by simp [intOf]⟩
      · clear hcell HX
        have hz1 : (((wd xs k : Nat) : Int) == 0) = false := by simpa using hz
        have hr' : Hid (nlen xs n = k + 1) := by
          have := hr.out
          rw [nlen, if_neg hz] at this
          exact this.symm
        clear hr hz
        go_wp2
        go_ret
        exact ⟨by rw [hr'.out]; rfl, rfl⟩
end Go.Proofs.YtlphlbhbhcpnpaaDoor
