/- Plain: lists of the one bits of words. Imports no walk. -/
import Derived.Test.YtlphlbhbhcpnpaaDoorBs
namespace Go.Proofs.YtlphlbhbhcpnpaaDoor

/-- The one bits of a word, ascending. -/
def bl (w : Nat) : List Nat := (List.range 64).filter w.testBit

theorem bl_zero : bl 0 = [] := by decide

theorem filter_first {p q : Nat → Bool} {c : Nat} (hc : p c = true) (hlo : ∀ i, i < c → p i = false) (hq : ∀ i, q i = (p i && decide (i ≠ c))) :
    ∀ d, (List.range (c + 1 + d)).filter p = c :: (List.range (c + 1 + d)).filter q
  | 0 => by
    have h1 : (List.range c).filter p = [] := by
      rw [List.filter_eq_nil_iff]; intro a ha; rw [hlo a (List.mem_range.1 ha)]; decide
    have h2 : (List.range c).filter q = [] := by
      rw [List.filter_eq_nil_iff]; intro a ha; rw [hq, hlo a (List.mem_range.1 ha)]; simp
    have h3 : q c = false := by rw [hq]; simp
    simp [List.range_succ, List.filter_append, h1, h2, h3, hc]
  | d + 1 => by
    have ih := filter_first hc hlo hq d
    rw [show c + 1 + (d + 1) = (c + 1 + d) + 1 from rfl, List.range_succ, List.filter_append, List.filter_append, ih]
    have : q (c + 1 + d) = p (c + 1 + d) := by rw [hq]; simp; omega
    simp [List.filter_cons, this]

theorem low_bit (c m : Nat) (i : Nat) : (2 ^ c * (2 * m + 1)).testBit i = (decide (c ≤ i) && (2 * m + 1).testBit (i - c)) := by
  rw [Nat.testBit_two_pow_mul]

theorem less_one (c m : Nat) (i : Nat) : (2 ^ c * (2 * m + 1) - 1).testBit i = if i < c then true else (2 * m).testBit (i - c) := by
  have hp : 0 < 2 ^ c := Nat.two_pow_pos c
  have e : 2 ^ c * (2 * m + 1) - 1 = 2 ^ c * (2 * m) + (2 ^ c - 1) := by
    rw [Nat.mul_add, Nat.mul_one]; omega
  rw [e, Nat.testBit_two_pow_mul_add _ (by omega)]
  split
  · rename_i h; simp [Nat.testBit_two_pow_sub_one, h]
  · rfl

theorem bl_next (w : Nat) (h0 : w ≠ 0) (h : w < 2 ^ 64) : bl w = Lib.ctz 64 w :: bl (w &&& (w - 1)) := by
  obtain ⟨m, hm, hk⟩ := Lib.ctzFrom_spec 64 w (by omega) h
  have e : Lib.ctz 64 w = Lib.ctzFrom 64 w := by simp [Lib.ctz, h0]
  rw [e]
  generalize Lib.ctzFrom 64 w = c at *
  obtain ⟨d, hd⟩ : ∃ d, 64 = c + 1 + d := ⟨63 - c, by omega⟩
  unfold bl
  rw [hd]
  refine filter_first ?_ ?_ ?_ d
  · rw [hm, low_bit]; simp
  · intro i hi
    rw [hm, low_bit]; simp; omega
  · intro i
    rw [Nat.testBit_and, hm, low_bit, less_one]
    by_cases h1 : i < c
    · simp [h1, show ¬ c ≤ i by omega]
    · by_cases h2 : i = c
      · subst h2; simp
      · obtain ⟨t, ht⟩ : ∃ t, i - c = t + 1 := ⟨i - c - 1, by omega⟩
        rw [ht]
        have a1 : (2 * m + 1).testBit (t + 1) = m.testBit t := by rw [Nat.testBit_succ]; congr 1; omega
        have a2 : (2 * m).testBit (t + 1) = m.testBit t := by rw [Nat.testBit_succ]; congr 1; omega
        rw [a1, a2]
        simp [h1, h2, show c ≤ i by omega]

theorem and_less (w : Nat) (h0 : w ≠ 0) : w &&& (w - 1) < w := by
  have : w &&& (w - 1) ≤ w - 1 := Nat.and_le_right
  omega

theorem lst_word (xs : List Nat) (k : Nat) (h : wd xs k < 2 ^ 64) : lst xs (64 * (k + 1)) = lst xs (64 * k) ++ (bl (wd xs k)).map (fun j => 64 * k + j) := by
  unfold lst bl
  rw [show 64 * (k + 1) = 64 * k + 64 by omega, List.range_add, List.filter_append]
  congr 1
  rw [List.filter_map]
  congr 1
  apply List.filter_congr
  intro j hj
  have hj := List.mem_range.1 hj
  simp only [Function.comp, bit]
  rw [show (64 * k + j) / 64 = k by omega, show (64 * k + j) % 64 = j by omega]

theorem popN_testBit : ∀ n x, popN n x = ((List.range n).filter x.testBit).length
  | 0, x => rfl
  | n + 1, x => by
    rw [popN, popN_testBit n (x / 2), List.range_succ_eq_map, List.filter_cons, List.filter_map, ]
    have : (x.testBit ∘ Nat.succ) = (x / 2).testBit := by
      funext i; simp [Nat.testBit_succ]
    rw [this]
    simp only [Nat.testBit_zero]
    by_cases h : x % 2 = 1
    · simp [h]; omega
    · simp [h]; omega

theorem pop_bl (x : Nat) : pop x = (bl x).length := popN_testBit 64 x

theorem cnt_lst (xs : List Nat) (hb : ∀ k, wd xs k < 2 ^ 64) : ∀ k, cnt xs k = (lst xs (64 * k)).length
  | 0 => rfl
  | k + 1 => by
    rw [cnt, cnt_lst xs hb k, lst_word xs k (hb k), List.length_append, List.length_map, pop_bl]
end Go.Proofs.YtlphlbhbhcpnpaaDoor
