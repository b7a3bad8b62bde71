/- Walk over the reference of package text: Number. -/
import Derived.Test.YtlnmcegnnncepaaDoorTe
namespace Go.Proofs.YtlnmcegnnncepaaDoor
open Go.RowKit

/-- What the first k digits spell. -/
def dk (d : ByteArray) (k : Nat) : Nat := dval 0 (d.data.toList.take k)
theorem dk_succ (d : ByteArray) (k : Nat) (h : k < d.size) : dk d (k + 1) = dk d k * 10 + (bn d k - 48) := by
  unfold dk
  have hl : k < d.data.toList.length := by rw [size_list]; exact h
  rw [List.take_succ_eq_append_getElem hl]
  unfold dval
  rw [List.foldl_append]
  simp only [List.foldl_cons, List.foldl_nil, dstep]
  have : bn d k = (d.data.toList[k]).toNat := by unfold bn; rw [List.getD_eq_getElem?_getD, List.getElem?_eq_getElem hl]; rfl
  rw [this]
theorem dk_all (d : ByteArray) : dk d d.size = dval 0 d.data.toList := by
  unfold dk
  rw [List.take_of_length_le (by rw [size_list]; exact Nat.le_refl _)]
theorem dk_le (d : ByteArray) (k : Nat) : dk d k ≤ dval 0 d.data.toList := by
  have h := List.take_append_drop k d.data.toList
  unfold dk
  conv => rhs; rw [← h]
  unfold dval
  rw [List.foldl_append]
  exact dval_ge _ _

/-- A string that has not the form of a number. -/
theorem num_bad {l : List UInt8} (h : isDec l = false) : numV l = 0 ∧ numE l = 8 := by
  unfold numV numE
  rw [h]
  exact ⟨rfl, rfl⟩

theorem all_dig (d : ByteArray) : d.data.toList.all (by8 kDig) = (List.range d.size).all fun i => kDig (bn d i) := by
  rw [Bool.eq_iff_iff, all_bn, List.all_eq_true]

/-- The form of a number, digit by digit. -/
theorem dec_good {s d : ByteArray} (hd : d.data.toList = dg s.data.toList) (h0 : 0 < d.size) (hall : ∀ i, i < d.size → kDig (bn d i) = true) (hz : s.data.toList = [48] ∨ bn d 0 ≠ 48) : isDec s.data.toList = true := by
  rw [isDec_eq s d hd, decide_eq_true h0]
  have h1 : pre (by8 kDig) d.data.toList = d.size := by
    rw [← size_list d]
    refine (pre_all _ _).2 ?_
    exact (all_bn d kDig).1 (by rw [List.all_eq_true]; exact fun i hi => hall i (List.mem_range.1 hi))
  rw [h1]
  rcases hz with h | h
  · rw [h]; simp
  · simp [h]
theorem dec_bad_dig {s d : ByteArray} (hd : d.data.toList = dg s.data.toList) {k : Nat} (hk : k < d.size) (h : kDig (bn d k) = false) : isDec s.data.toList = false := by
  rw [isDec_eq s d hd]
  have h1 : (pre (by8 kDig) d.data.toList == d.size) = false := by
    rw [beq_eq_false_iff_ne, ← size_list d]
    intro e
    have := (all_bn d kDig).2 ((pre_all _ _).1 e)
    rw [List.all_eq_true] at this
    rw [this k (List.mem_range.2 hk)] at h
    cases h
  rw [h1]; simp
theorem dec_bad_zero {s d : ByteArray} (hd : d.data.toList = dg s.data.toList) (h : bn d 0 = 48) (hs : s.data.toList ≠ [48]) : isDec s.data.toList = false := by
  rw [isDec_eq s d hd, h]
  have : (s.data.toList == [48]) = false := by rw [beq_eq_false_iff_ne]; exact hs
  rw [this]; simp
theorem dec_bad_empty {s d : ByteArray} (hd : d.data.toList = dg s.data.toList) (h : d.size = 0) : isDec s.data.toList = false := by
  rw [isDec_eq s d hd, h]; simp
theorem dk_zero (d : ByteArray) : dk d 0 = 0 := by simp [dk, dval]
/-- A number whose digits spell too much. -/
theorem num_over {s d : ByteArray} (hd : d.data.toList = dg s.data.toList) (h : isDec s.data.toList = true) {k : Nat} (hk : 9223372036854775808 < dk d k) : numV s.data.toList = 0 ∧ numE s.data.toList = 2 := by
  have h1 := Nat.lt_of_lt_of_le hk (dk_le d k)
  rw [hd] at h1
  have h2 : ¬ dval 0 (dg s.data.toList) ≤ 9223372036854775808 := Nat.not_le.2 h1
  have h3 : ¬ dval 0 (dg s.data.toList) < 9223372036854775808 := fun e => h2 (Nat.le_of_lt e)
  unfold numV numE
  rw [h, if_neg h2, if_neg h3]
  by_cases hm : s.data.toList.head? = some 45
  · rw [if_pos hm, if_pos hm, if_neg h2]; exact ⟨rfl, rfl⟩
  · rw [if_neg hm, if_neg hm, if_neg h3]; exact ⟨rfl, rfl⟩
theorem num_neg {s d : ByteArray} (hd : d.data.toList = dg s.data.toList) (h : isDec s.data.toList = true) (hm : s.data.toList.head? = some 45) {v : Nat} (hv : dk d d.size = v) (hk : v ≤ 9223372036854775808) : numV s.data.toList = -((v : Nat) : Int) ∧ numE s.data.toList = 0 := by
  rw [dk_all, hd] at hv
  unfold numV numE
  rw [h, if_pos hm, if_pos hm, hv, if_pos hk]
  exact ⟨rfl, by simpa using hk⟩
theorem num_pos {s d : ByteArray} (hd : d.data.toList = dg s.data.toList) (h : isDec s.data.toList = true) (hm : ¬ s.data.toList.head? = some 45) {v : Nat} (hv : dk d d.size = v) (hk : v < 9223372036854775808) : numV s.data.toList = ((v : Nat) : Int) ∧ numE s.data.toList = 0 := by
  rw [dk_all, hd] at hv
  unfold numV numE
  rw [h, if_neg hm, if_neg hm, hv, if_pos hk]
  exact ⟨rfl, by simpa using hk⟩
theorem num_edge {s d : ByteArray} (hd : d.data.toList = dg s.data.toList) (h : isDec s.data.toList = true) (hm : ¬ s.data.toList.head? = some 45) (hk : dk d d.size = 9223372036854775808) : numV s.data.toList = 0 ∧ numE s.data.toList = 2 := by
  rw [dk_all, hd] at hk
  unfold numV numE
  rw [h, if_neg hm, if_neg hm, hk]
  exact ⟨rfl, rfl⟩
/-- One digit more, or too much. -/
theorem dk_fits (d : ByteArray) {k : Nat} (hk : k < d.size) (hd : kDig (bn d k) = true) : ∃ x : Nat, bn d k = 48 + x ∧ x ≤ 9 ∧ dk d (k + 1) = dk d k * 10 + x := by
  have h := (by simpa [kDig] using hd : 48 ≤ bn d k ∧ bn d k ≤ 57)
  exact ⟨bn d k - 48, by omega, by omega, dk_succ d k hk⟩
theorem neg_back (N : Nat) (h : N ≤ 9223372036854775808) : Go.RowKit.wrap64 (IntKind.u64.wrap (-((N : Nat) : Int))) = -((N : Nat) : Int) := by
  have : IntKind.u64.wrap (-((N : Nat) : Int)) = (-((N : Nat) : Int)) % 18446744073709551616 := by simp [IntKind.wrap, IntKind.bits, IntKind.signed]
  rw [this]
  unfold Go.RowKit.wrap64
  omega
theorem i64_back (N : Nat) (h : N < 9223372036854775808) : IntKind.i64.wrap ((N : Nat) : Int) = ((N : Nat) : Int) := by
  rw [IntKind.wrap_i64]
  omega
end Go.Proofs.YtlnmcegnnncepaaDoor
