/- Plain: prefixes of strings, byte by byte and character by character. Imports no walk. -/
import Derived.Laws.RangeAny
import Derived.Lib.IndexBytes
import Derived.Lib.Hide
namespace Go.Proofs.Ytmhbblehgckelaa

/-- The length of the longest beginning whose bytes are all of a kind. -/
def pre (p : UInt8 → Bool) (l : List UInt8) : Nat := (l.takeWhile p).length

theorem pre_le (p : UInt8 → Bool) (l : List UInt8) : pre p l ≤ l.length := by
  have := (List.takeWhile_prefix p (l := l)).length_le
  exact this
theorem pre_cons (p : UInt8 → Bool) (b : UInt8) (l : List UInt8) : pre p (b :: l) = if p b then pre p l + 1 else 0 := by
  unfold pre
  rw [List.takeWhile_cons]
  split <;> simp
theorem pre_stop {p : UInt8 → Bool} : ∀ {l : List UInt8} {k : Nat}, (∀ j, j < k → ∃ b, l[j]? = some b ∧ p b = true) → (∀ b, l[k]? = some b → p b = false) → k ≤ l.length → pre p l = k
  | [], k, _, _, h => by have : k = 0 := by simpa using h
                         subst this; rfl
  | b :: l, 0, _, h2, _ => by rw [pre_cons, if_neg]; have := h2 b rfl; simp [this]
  | b :: l, k + 1, h1, h2, h3 => by
    obtain ⟨b', e, hb⟩ := h1 0 (by omega)
    cases e
    rw [pre_cons, if_pos hb, pre_stop (k := k) (fun j hj => by simpa using h1 (j + 1) (by omega)) (fun c hc => h2 c (by simpa using hc)) (by simpa using h3)]

/-- All bytes before a place are of a kind. -/
def Upto (p : UInt8 → Bool) (s : ByteArray) (k : Nat) : Prop := k ≤ s.size ∧ ∀ j, j < k → ∃ b, s.data.toList[j]? = some b ∧ p b = true

theorem byte_at (s : ByteArray) (k : Nat) (h : k < s.size) : s.data.toList[k]? = some (s[k]'h) := by
  rw [List.getElem?_eq_getElem (by simpa using h)]
  rfl

theorem Upto.end {p : UInt8 → Bool} {s : ByteArray} {k : Nat} (h : Upto p s k) (hk : ¬ k < s.size) : pre p s.data.toList = s.size := by
  have e : k = s.size := by have := h.1; omega
  subst e
  exact pre_stop h.2 (fun b hb => by rw [List.getElem?_eq_none (by simp)] at hb; cases hb) (by simp)
theorem Upto.stop {p : UInt8 → Bool} {s : ByteArray} {k : Nat} (h : Upto p s k) (hk : k < s.size) (hb : p (s[k]'hk) = false) : pre p s.data.toList = k :=
  pre_stop h.2 (fun b hb' => by rw [byte_at s k hk] at hb'; cases hb'; exact hb) (by have := h.1; simpa using this)
theorem Upto.one {p : UInt8 → Bool} {s : ByteArray} {k : Nat} (h : Upto p s k) (hk : k < s.size) (hb : p (s[k]'hk) = true) : Upto p s (k + 1) :=
  ⟨by omega, fun j hj => by
    rcases Nat.lt_succ_iff_lt_or_eq.1 hj with h1 | h1
    · exact h.2 j h1
    · subst h1; exact ⟨_, byte_at s j hk, hb⟩⟩

/-- A character of several bytes has no byte below 128. -/
theorem decode_wide (s : ByteArray) (pos : Nat) (h : pos < s.size) (ha : 128 ≤ (s[pos]'h).toNat) :
    ∀ j, j < (Utf8.decode s pos).2 → ∃ hj : pos + j < s.size, 128 ≤ (s[pos + j]'hj).toNat := by
  have hget : ∀ k (hk : pos + k < s.size), s.get! (pos + k) = s[pos + k]'hk := fun k hk => by
    simp [ByteArray.get!, getElem!_pos, hk]
    rfl
  have hcont : ∀ k, (decide (pos + k < s.size) && (s.get! (pos + k)).toNat / 64 == 2) = true → ∃ hj : pos + k < s.size, 128 ≤ (s[pos + k]'hj).toNat := by
    intro k hk
    simp only [Bool.and_eq_true, decide_eq_true_eq, beq_iff_eq] at hk
    obtain ⟨h1, h2⟩ := hk
    rw [hget k h1] at h2
    exact ⟨h1, by omega⟩
  intro j hj
  match j, hj with
  | 0, _ => exact ⟨h, ha⟩
  | j + 1, hj =>
    revert hj
    simp only [Utf8.decode]
    split
    · intro hj; omega
    · split
      · rename_i hc
        simp only [Bool.and_eq_true] at hc
        split
        · intro hj
          have : j = 0 := by omega
          subst this
          exact hcont 1 (by simpa using hc.2)
        · intro hj; omega
      · split
        · rename_i hc
          simp only [Bool.and_eq_true] at hc
          split
          · intro hj
            rcases (by omega : j = 0 ∨ j = 1) with e | e
            · subst e; exact hcont 1 (by simpa using hc.1.2)
            · subst e; exact hcont 2 (by simpa using hc.2)
          · intro hj; omega
        · split
          · rename_i hc
            simp only [Bool.and_eq_true] at hc
            split
            · intro hj
              rcases (by omega : j = 0 ∨ j = 1 ∨ j = 2) with e | e | e
              · subst e; exact hcont 1 (by simpa using hc.1.1.2)
              · subst e; exact hcont 2 (by simpa using hc.1.2)
              · subst e; exact hcont 3 (by simpa using hc.2)
            · intro hj; omega
          · intro hj; omega

/-- A kind of characters, and the same of bytes: all characters above 127 are of the kind, or none. -/
structure Kind (K : Nat → Bool) (p : UInt8 → Bool) (hi : Bool) : Prop where
  low : ∀ b : UInt8, b.toNat < 128 → K b.toNat = p b
  high : ∀ c, 128 ≤ c → K c = hi
  byte : ∀ b : UInt8, 128 ≤ b.toNat → p b = hi

theorem Kind.next {K : Nat → Bool} {p : UInt8 → Bool} {hi : Bool} (hk : Kind K p hi) {s : ByteArray} {k : Nat} (h : Upto p s k) (hlt : k < s.size) (hy : K (Utf8.decode s k).1 = true) : Upto p s (k + (Utf8.decode s k).2) := by
  by_cases ha : (s[k]'hlt).toNat < 128
  · rw [decode_ascii s k hlt ha] at hy ⊢
    exact h.one hlt (by rw [← hk.low _ ha]; exact hy)
  · have ha : 128 ≤ (s[k]'hlt).toNat := by omega
    have hd := decode_high s k hlt ha
    rw [hk.high _ hd.1] at hy
    subst hy
    have hw := decode_wide s k hlt ha
    refine ⟨?_, fun j hj => ?_⟩
    · obtain ⟨h1, _⟩ := hw ((Utf8.decode s k).2 - 1) (by omega)
      omega
    · by_cases hjk : j < k
      · exact h.2 j hjk
      · obtain ⟨h1, h2⟩ := hw (j - k) (by omega)
        have e : k + (j - k) = j := by omega
        simp only [e] at h1 h2
        exact ⟨_, byte_at s j h1, hk.byte _ h2⟩
theorem Kind.halt {K : Nat → Bool} {p : UInt8 → Bool} {hi : Bool} (hk : Kind K p hi) {s : ByteArray} {k : Nat} (h : Upto p s k) (hlt : k < s.size) (hn : K (Utf8.decode s k).1 = false) : pre p s.data.toList = k := by
  by_cases ha : (s[k]'hlt).toNat < 128
  · rw [decode_ascii s k hlt ha] at hn
    exact h.stop hlt (by rw [← hk.low _ ha]; exact hn)
  · have ha : 128 ≤ (s[k]'hlt).toNat := by omega
    have hd := decode_high s k hlt ha
    rw [hk.high _ hd.1] at hn
    exact h.stop hlt (by rw [hk.byte _ ha]; exact hn)
theorem width_pos (s : ByteArray) (pos : Nat) (h : pos < s.size) : 1 ≤ (Utf8.decode s pos).2 := by
  by_cases ha : (s[pos]'h).toNat < 128
  · rw [decode_ascii s pos h ha]
    exact Nat.le_refl _
  · exact (decode_high s pos h (by omega)).2
end Go.Proofs.Ytmhbblehgckelaa
