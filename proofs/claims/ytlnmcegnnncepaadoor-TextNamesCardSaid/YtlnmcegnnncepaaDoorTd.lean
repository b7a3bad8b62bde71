/- Plain: decimal numbers in strings. Imports no walk of its own. -/
import Derived.Test.YtlnmcegnnncepaaDoorTv
import Derived.Lib.AtoiAll
namespace Go.Proofs.YtlnmcegnnncepaaDoor

/-- What stands behind the minus sign. -/
def dg (l : List UInt8) : List UInt8 := if l.head? = some 45 then l.tail else l
/-- One digit more. -/
def dstep (acc : Nat) (b : UInt8) : Nat := acc * 10 + (b.toNat - 48)
/-- What digits spell. -/
def dval (acc : Nat) (l : List UInt8) : Nat := l.foldl dstep acc
theorem dval_nil (acc : Nat) : dval acc [] = acc := by simp only [dval, List.foldl_nil]
theorem dval_cons (acc : Nat) (b : UInt8) (r : List UInt8) : dval acc (b :: r) = dval (dstep acc b) r := by simp only [dval, List.foldl_cons]
/-- Whether a string has the form of a number. -/
def isDec (l : List UInt8) : Bool := !(dg l).isEmpty && (dg l).all (by8 kDig) && (l == [48] || (dg l).head? != some 48)
/-- The number and the error of a string. -/
def numV (l : List UInt8) : Int :=
  if !isDec l then 0
  else if l.head? = some 45 then (if dval 0 (dg l) ≤ 9223372036854775808 then -((dval 0 (dg l) : Nat) : Int) else 0)
  else if dval 0 (dg l) < 9223372036854775808 then ((dval 0 (dg l) : Nat) : Int) else 0
def numE (l : List UInt8) : Int :=
  if !isDec l then 8
  else if l.head? = some 45 then (if dval 0 (dg l) ≤ 9223372036854775808 then 0 else 2)
  else if dval 0 (dg l) < 9223372036854775808 then 0 else 2

theorem dval_ge (l : List UInt8) : ∀ (acc : Nat), acc ≤ dval acc l := by
  induction l with
  | nil => intro acc; rw [dval_nil]; exact Nat.le_refl _
  | cons b r ih =>
    intro acc
    have h := ih (dstep acc b)
    rw [dval_cons]
    have h2 : acc ≤ dstep acc b := by unfold dstep; omega
    exact Nat.le_trans h2 h
theorem dig_of {b : UInt8} (h : by8 kDig b = true) : 48 ≤ b.toNat ∧ b.toNat ≤ 57 := by simpa [by8, kDig] using h
theorem parse_ok (l : List UInt8) : ∀ (acc : Nat), l.all (by8 kDig) = true → dval acc l < 18446744073709551616 → Lib.parseUint10 acc l = .ok (dval acc l) := by
  induction l with
  | nil => intro acc _ _; rw [dval_nil]; rfl
  | cons b r ih0 =>
    intro acc h hd
    rw [List.all_cons, Bool.and_eq_true] at h
    have hb' := dig_of h.1
    rw [dval_cons] at hd ⊢
    have ih := ih0 (dstep acc b) h.2 hd
    have hx := Nat.lt_of_le_of_lt (dval_ge r (dstep acc b)) hd
    unfold dstep at hx
    have h1 : ¬ 1844674407370955162 ≤ acc := by clear ih hd; omega
    have h2 : ¬ 18446744073709551616 ≤ acc * 10 + (b.toNat - 48) := by clear ih hd; omega
    simp only [Lib.parseUint10, if_pos hb']
    rw [if_neg h1, if_neg h2]
    exact ih
theorem parse_range (l : List UInt8) : ∀ (acc : Nat), l.all (by8 kDig) = true → acc < 18446744073709551616 → 18446744073709551616 ≤ dval acc l → Lib.parseUint10 acc l = .range := by
  induction l with
  | nil => intro acc _ ha hd; rw [dval_nil] at hd; exact absurd hd (Nat.not_le.2 ha)
  | cons b r ih0 =>
    intro acc h ha hd
    rw [List.all_cons, Bool.and_eq_true] at h
    have hb' := dig_of h.1
    rw [dval_cons] at hd
    have ih := fun h2 => ih0 (dstep acc b) h.2 h2 hd
    clear hd
    simp only [Lib.parseUint10, if_pos hb']
    by_cases h1 : 1844674407370955162 ≤ acc
    · rw [if_pos h1]
    · rw [if_neg h1]
      by_cases h2 : 18446744073709551616 ≤ acc * 10 + (b.toNat - 48)
      · rw [if_pos h2]
      · rw [if_neg h2]
        exact ih (Nat.not_le.1 h2)

theorem head45 {l : List UInt8} : l.head? = some 45 ↔ ∃ r, l = 45 :: r := by
  cases l with
  | nil => simp
  | cons b r => simp

theorem atoi_dec {l : List UInt8} (h : isDec l = true) :
    (numE l = 0 ∧ Lib.atoiAll l = .ok (numV l)) ∨ (numE l = 2 ∧ numV l = 0 ∧ Lib.atoiAll l = .range) := by
  have hd := h
  unfold isDec at hd
  simp only [Bool.and_eq_true, Bool.not_eq_true'] at hd
  obtain ⟨⟨hne, hall⟩, _⟩ := hd
  have hmag : Lib.parseMag (dg l) = Lib.parseUint10 0 (dg l) := by
    unfold Lib.parseMag
    rw [if_neg]
    intro e
    rw [e] at hne
    cases hne
  have p1 := parse_ok (dg l) 0 hall
  have p2 := parse_range (dg l) 0 hall (by decide)
  unfold numE numV
  rw [h]
  by_cases hm : l.head? = some 45
  · obtain ⟨r, rfl⟩ := head45.1 hm
    have hdg : dg (45 :: r) = r := rfl
    have ha : Lib.atoiAll (45 :: r) = match Lib.parseMag r with
      | Lib.NumEnd.syntax => Lib.NumEnd.syntax
      | .range => .range
      | .ok u => if 9223372036854775808 < u then .range else .ok (-(u : Int)) := by
      unfold Lib.atoiAll
      simp
      cases Lib.parseMag r <;> rfl
    rw [hdg] at hmag p1 p2 ⊢
    rw [if_pos hm, if_pos hm]
    obtain ⟨v, hv⟩ : ∃ v, dval 0 r = v := ⟨_, rfl⟩
    rw [hv] at p1 p2 ⊢
    rcases Nat.lt_or_ge v 18446744073709551616 with h1 | h1
    · rw [hmag, p1 h1] at ha
      rcases Nat.lt_or_ge 9223372036854775808 v with h2 | h2
      · right
        have h3 : ¬ v ≤ 9223372036854775808 := by omega
        rw [if_neg h3]
        exact ⟨rfl, by simp [h3], by rw [ha]; simp [h2]⟩
      · left
        rw [if_pos h2]
        exact ⟨rfl, by rw [ha]; simp [show ¬ 9223372036854775808 < v by omega, h2]⟩
    · rw [hmag, p2 h1] at ha
      right
      have h3 : ¬ v ≤ 9223372036854775808 := by omega
      rw [if_neg h3]
      exact ⟨rfl, by simp [h3], ha⟩
  · have hdg : dg l = l := by simp [dg, hm]
    rw [hdg] at hmag hall hne p1 p2 ⊢
    rw [if_neg hm, if_neg hm]
    cases l with
    | nil => cases hne
    | cons b r =>
      have hb : by8 kDig b = true := by simp at hall; exact hall.1
      have hb' := dig_of hb
      have ha : Lib.atoiAll (b :: r) = match Lib.parseMag (b :: r) with
        | Lib.NumEnd.syntax => Lib.NumEnd.syntax
        | .range => .range
        | .ok u => if 9223372036854775808 ≤ u then .range else .ok (u : Int) := by
        unfold Lib.atoiAll
        have n1 : ¬ b.toNat = 43 := by omega
        have n2 : ¬ b.toNat = 45 := by omega
        simp [n1, n2]
        cases Lib.parseMag (b :: r) <;> rfl
      obtain ⟨v, hv⟩ : ∃ v, dval 0 (b :: r) = v := ⟨_, rfl⟩
      rw [hv] at p1 p2 ⊢
      rcases Nat.lt_or_ge v 18446744073709551616 with h1 | h1
      · rw [hmag, p1 h1] at ha
        rcases Nat.lt_or_ge v 9223372036854775808 with h2 | h2
        · left
          rw [if_pos h2]
          exact ⟨rfl, by rw [ha]; simp [show ¬ 9223372036854775808 ≤ v by omega, h2]⟩
        · right
          have h3 : ¬ v < 9223372036854775808 := by omega
          rw [if_neg h3]
          exact ⟨rfl, by simp [h3], by rw [ha]; simp [show 9223372036854775808 ≤ v by omega]⟩
      · rw [hmag, p2 h1] at ha
        right
        have h3 : ¬ v < 9223372036854775808 := by omega
        rw [if_neg h3]
        exact ⟨rfl, by simp [h3], ha⟩

theorem trim_dash (l : List UInt8) : Lib.trimPrefix l [45] = dg l := by
  unfold Lib.trimPrefix Lib.hasPrefix dg
  cases l with
  | nil => simp
  | cons b r =>
    by_cases h : b = 45
    · subst h; simp
    · have : ¬ (45 : UInt8) = b := fun e => h e.symm
      simp [h, this]

/-- A string of these bytes. -/
def mk (l : List UInt8) : ByteArray := ⟨l.toArray⟩
theorem mk_list (l : List UInt8) : (mk l).data.toList = l := by simp [mk]
theorem mk_size (l : List UInt8) : (mk l).size = l.length := by simp [mk, ByteArray.size]
theorem size_list (s : ByteArray) : s.data.toList.length = s.size := by simp
end Go.Proofs.YtlnmcegnnncepaaDoor
