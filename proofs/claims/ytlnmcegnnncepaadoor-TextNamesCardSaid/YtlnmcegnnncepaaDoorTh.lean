/- Walks of package text: Decimal, on both sides; the reference's Number as one contract. -/
import Derived.Test.YtlnmcegnnncepaaDoorTg
import Derived.Lib.ItoaNum
namespace Go.Proofs.YtlnmcegnnncepaaDoor
open Go.RowKit

theorem rNumber_any (s : ByteArray) (w : World) (hs : s.size ≤ 1000000) :
    Calls Tryd.prog 23 #[.string s] w fun e w' => e = .returned (.tuple #[.int .i64 (numV s.data.toList), .int .i64 (numE s.data.toList)]) ∧ w = w' := by
  by_cases h : s.data.toList.head? = some 45
  · exact rNumber_neg s w hs h
  · exact rNumber_pos s w hs h

/-- The byte of the last digit. -/
def dgb (x : Nat) : UInt8 := UInt8.ofNat (48 + x % 10)
theorem dgb_nat (x : Nat) : (dgb x).toNat = 48 + x % 10 := by unfold dgb; simp; omega
/-- The digits that are written and those to be written. -/
def digs (u : Nat) (l : List UInt8) : List UInt8 := if u = 0 then l else Lib.decDigits u ++ l
theorem digs_zero (l : List UInt8) : digs 0 l = l := rfl
theorem digs_all {u : Nat} (h : u ≠ 0) : digs u [] = Lib.decDigits u := by simp [digs, h]
theorem digs_step {u : Nat} (h : u ≠ 0) (l : List UInt8) : digs (u / 10) (dgb u :: l) = digs u l := by
  unfold digs dgb
  rw [if_neg h]
  conv => rhs; rw [Lib.decDigits]
  by_cases h2 : u < 10
  · have : u / 10 = 0 := by omega
    rw [if_pos this, dif_pos h2, Nat.mod_eq_of_lt h2]; rfl
  · have : ¬ u / 10 = 0 := by omega
    rw [if_neg this, dif_neg h2]; simp

/-- A string of one digit, made of a row that was laid for it. -/
theorem conv_digit (x : Nat) (w : World) : (convert 67 9 (.slice (some ⟨w.heap.size, 0, none⟩) 1 1)).run Tryd.prog (w.alloc (.cells #[.int .u8 (48 + (x : Int) % 10)] 5)) = .ok (.string (mk [dgb x])) (w.alloc (.cells #[.int .u8 (48 + (x : Int) % 10)] 5)) := by
  refine run_convert_bytes_back (P := Tryd.prog) _ _ _ 5 ⟨w.heap.size, 0, none⟩ 1 [dgb x] Tryd.underlying67 Tryd.underlying5 Tryd.underlying9 (fun j hj => ?_)
  obtain rfl : j = 0 := by simpa using hj
  rw [show (([dgb x] : List UInt8)[0]).toNat = 48 + x % 10 from dgb_nat x]
  show (w.alloc _).cell? ⟨w.heap.size, 0, none⟩ = _
  rw [World.cell?_alloc_new]
  simp
theorem append_mk (a : UInt8) (l : List UInt8) : mk [a] ++ mk l = mk (a :: l) := by
  apply ByteArray.ext
  simp [mk]

set_option maxRecDepth 100000 in
theorem rDecimal_neg (N : Nat) (hN : N ≠ 0) (hN2 : N ≤ 9223372036854775808) (w : World) :
    Calls Tryd.prog 25 #[.int .i64 (-((N : Nat) : Int))] w fun e w' => e = .returned (.string (mk (45 :: Lib.decDigits N))) ∧ Below w.heap.size w w' := by
  obtain ⟨U, hU⟩ : ∃ U : Nat, U = 18446744073709551616 - N := ⟨_, rfl⟩
  have hw : IntKind.u64.wrap (-((N : Nat) : Int)) = ((U : Nat) : Int) := by simp [IntKind.wrap, IntKind.bits, IntKind.signed]; omega
  have hw2 : IntKind.u64.wrap (-((U : Nat) : Int)) = ((N : Nat) : Int) := by simp [IntKind.wrap, IntKind.bits, IntKind.signed]; omega
  have hn0 : -((N : Nat) : Int) < 0 := by omega
  have e0 : ((-((N : Nat) : Int)) == 0) = false := by rw [beq_eq_false_iff_ne]; omega
  clear hU
  go_enter Tryd.func25, Tryd.ntmps25
  go_wp2
  go_loopw [3, 4] (fun u l wr => ∃ (x : Nat) (t : List UInt8), u = .int .u64 ((x : Nat) : Int) ∧ ((0 < x ∧ 2 * t.length + x ≤ N + 1) ∨ (x = 0 ∧ 2 * t.length ≤ N + 2)) ∧ l = .string (mk t) ∧ Hid (digs x t = Lib.decDigits N) ∧ Below w.heap.size w wr) (fun u _ _ => (intOf u).toNat)
  case atStart => exact ⟨N, [], rfl, by simp; omega, rfl, digs_all hN, Below.refl _ _⟩
  case round =>
    obtain ⟨x, t, rfl, hx, rfl, hD, hB⟩ := hrel
    by_cases hx0 : x = 0
    · subst hx0
      have ht : Hid (t = Lib.decDigits N) := hD.out
      have hlt : 2 * t.length ≤ N + 2 := by omega
      have hsz := mk_size t
      have hap := append_mk 45 t
      have hlen : ((mk [45]).size : Int) + ((mk t).size : Int) ≤ 9223372036854775807 := by rw [hsz, mk_size]; simp; omega
      have hlen2 : (mk [45]).size + (mk t).size ≤ 9223372036854775807 := by rw [hsz, mk_size]; simp; omega
      have hmk : (⟨#[45]⟩ : ByteArray) = mk [45] := rfl
      go_wp2
      go_ret
      exact ⟨by rw [← ht.out]; rfl, hB⟩
    · have hs := digs_step hx0 t
      rw [hD.out] at hs
      have HS := Lib.hid hs
      have hgt : (0 : Int) < (x : Int) := by omega
      have hcv := conv_digit x
      have hap := append_mk (dgb x) t
      have hsz := mk_size t
      have hlen : ((mk [dgb x]).size : Int) + ((mk t).size : Int) ≤ 9223372036854775807 := by rw [hsz, mk_size]; simp; omega
      have hlen2 : (mk [dgb x]).size + (mk t).size ≤ 9223372036854775807 := by rw [hsz, mk_size]; simp; omega
      clear hs hD
      go_wp2
      go_round
      case rel => exact ⟨x / 10, dgb x :: t, by go_num, by simp only [List.length_cons]; omega, rfl, HS, hB.alloc hB.size _⟩
      case measure => simp [intOf]; omega

set_option maxRecDepth 100000 in
theorem rDecimal_pos (N : Nat) (hN : N ≠ 0) (hN2 : N < 9223372036854775808) (w : World) :
    Calls Tryd.prog 25 #[.int .i64 ((N : Nat) : Int)] w fun e w' => e = .returned (.string (mk (Lib.decDigits N))) ∧ Below w.heap.size w w' := by
  have hw : IntKind.u64.wrap ((N : Nat) : Int) = ((N : Nat) : Int) := by simp [IntKind.wrap, IntKind.bits, IntKind.signed]; omega
  have e0 : (((N : Nat) : Int) == 0) = false := by rw [beq_eq_false_iff_ne]; omega
  go_enter Tryd.func25, Tryd.ntmps25
  go_wp2
  go_loopw [3, 4] (fun u l wr => ∃ (x : Nat) (t : List UInt8), u = .int .u64 ((x : Nat) : Int) ∧ ((0 < x ∧ 2 * t.length + x ≤ N + 1) ∨ (x = 0 ∧ 2 * t.length ≤ N + 2)) ∧ l = .string (mk t) ∧ Hid (digs x t = Lib.decDigits N) ∧ Below w.heap.size w wr) (fun u _ _ => (intOf u).toNat)
  case atStart => exact ⟨N, [], rfl, by simp; omega, rfl, digs_all hN, Below.refl _ _⟩
  case round =>
    obtain ⟨x, t, rfl, hx, rfl, hD, hB⟩ := hrel
    by_cases hx0 : x = 0
    · subst hx0
      have ht : Hid (t = Lib.decDigits N) := hD.out
      have hlt : 2 * t.length ≤ N + 2 := by omega
      go_wp2
      go_ret
      exact ⟨by rw [← ht.out]; rfl, hB⟩
    · have hs := digs_step hx0 t
      rw [hD.out] at hs
      have HS := Lib.hid hs
      have hgt : (0 : Int) < (x : Int) := by omega
      have hcv := conv_digit x
      have hap := append_mk (dgb x) t
      have hsz := mk_size t
      have hlen : ((mk [dgb x]).size : Int) + ((mk t).size : Int) ≤ 9223372036854775807 := by rw [hsz, mk_size]; simp; omega
      have hlen2 : (mk [dgb x]).size + (mk t).size ≤ 9223372036854775807 := by rw [hsz, mk_size]; simp; omega
      clear hs hD
      go_wp2
      go_round
      case rel => exact ⟨x / 10, dgb x :: t, by go_num, by simp only [List.length_cons]; omega, rfl, HS, hB.alloc hB.size _⟩
      case measure => simp [intOf]; omega

theorem rDecimal_any (n : Int) (h1 : -9223372036854775808 ≤ n) (h2 : n ≤ 9223372036854775807) (w : World) :
    Calls Tryd.prog 25 #[.int .i64 n] w fun e w' => e = .returned (.string (mk (Lib.itoa n))) ∧ Below w.heap.size w w' := by
  by_cases h0 : n = 0
  · subst h0
    clear h1 h2
    go_enter Tryd.func25, Tryd.ntmps25
    go_wp2
    go_ret
    exact ⟨by rw [show Lib.itoa 0 = [48] by unfold Lib.itoa; rw [if_neg (by decide), Lib.decDigits]; rfl]; rfl, Below.refl _ _⟩
  by_cases hn : n < 0
  · obtain ⟨N, rfl⟩ : ∃ N : Nat, n = -((N : Nat) : Int) := ⟨n.natAbs, by omega⟩
    have : Lib.itoa (-((N : Nat) : Int)) = 45 :: Lib.decDigits N := by unfold Lib.itoa; rw [if_pos hn]; simp
    rw [this]
    exact rDecimal_neg N (by omega) (by omega) w
  · obtain ⟨N, rfl⟩ : ∃ N : Nat, n = ((N : Nat) : Int) := ⟨n.natAbs, by omega⟩
    have : Lib.itoa ((N : Nat) : Int) = Lib.decDigits N := by unfold Lib.itoa; rw [if_neg hn]; rfl
    rw [this]
    exact rDecimal_pos N (by omega) (by omega) w

theorem below_drewN (w : World) (k : Nat) : Below w.heap.size w (w.drewN k) := ⟨rfl, rfl, rfl, Nat.le_refl _, fun _ _ => rfl⟩
theorem below_grow (w : World) (k : Nat) (os : Array Obj) : Below w.heap.size w (Sort.grow (w.drewN k) os) := by
  refine ⟨rfl, rfl, rfl, ?_, fun i hi => ?_⟩
  · show w.heap.size ≤ (w.heap ++ os).size
    simp
  · show (w.heap ++ os)[i]? = w.heap[i]?
    exact Array.getElem?_append_left hi
/-- The program's Decimal: strconv.Itoa. -/
theorem Decimal_any (n : Int) (h1 : -9223372036854775808 ≤ n) (h2 : n ≤ 9223372036854775807) (w : World) (hw : TxtOk w) :
    Calls Tryd.prog 24 #[.int .i64 n] w fun e w' => e = .returned (.string (mk (Lib.itoa n))) ∧ Below w.heap.size w w' := by
  have hp := Lib.hid hw.pow
  clear hw
  go_enter Tryd.func24, Tryd.ntmps24
  go_wp2_with (go_at_call 64; refine (Tryd.strconv_Itoa n h1 h2 _ hp.out).mono ?_; rintro e w' ⟨rfl, k, os, rfl⟩)
  go_ret
  exact ⟨rfl, below_grow _ _ _⟩
end Go.Proofs.YtlnmcegnnncepaaDoor
