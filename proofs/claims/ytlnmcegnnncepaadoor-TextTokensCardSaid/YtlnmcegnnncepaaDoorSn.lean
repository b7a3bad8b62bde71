/- Plain: the tokens of a source before a line feed, and those behind it. -/
import Derived.Test.YtlnmcegnnncepaaDoorSm
namespace Go.Proofs.YtlnmcegnnncepaaDoor

theorem take_pre {p : UInt8 → Bool} (h : p 10 = false) : ∀ l : List UInt8, (l.take (pre p l)).count 10 = 0 := by
  intro l
  induction l with
  | nil => rfl
  | cons b r ih =>
    rw [pre_cons]
    cases hb : p b
    · rfl
    · rw [if_pos rfl, List.take_succ_cons, List.count_cons_of_ne (fun e => by rw [e, h] at hb; cases hb)]
      exact ih
theorem take_num (b : UInt8) (r : List UInt8) : ((b :: r).take (numLen (b :: r))).count 10 = 0 := by
  unfold numLen
  by_cases hb : b = 45
  · subst hb
    have e : dg (45 :: r) = r := rfl
    rw [e]
    split
    · rfl
    · rw [List.length_cons, show r.length + 1 - r.length + pre (by8 kDig) r = pre (by8 kDig) r + 1 by omega, List.take_succ_cons, List.count_cons_of_ne (by decide)]
      exact take_pre (by decide) r
  · have e : dg (b :: r) = b :: r := by unfold dg; rw [if_neg (fun h : (b :: r).head? = some 45 => hb (Option.some.inj h))]
    rw [e]
    split
    · rfl
    · rw [Nat.sub_self, Nat.zero_add]
      exact take_pre (by decide) _
theorem take_quo {r : List UInt8} (h : (quo (34 :: r)).2.2 = 0) : ((34 :: r).take (quo (34 :: r)).2.1).count 10 = 0 := by
  have e0 : (34 :: r : List UInt8).tail = r := rfl
  unfold quo at h ⊢
  rw [e0] at h ⊢
  by_cases c1 : 1 + pre (by8 kStr) r = (34 :: r : List UInt8).length
  · rw [if_pos c1] at h; exact absurd h (by decide)
  · rw [if_neg c1] at h ⊢
    by_cases c2 : (34 :: r : List UInt8).getD (1 + pre (by8 kStr) r) 0 = 34
    · rw [if_pos c2]
      have hp := pre_le (by8 kStr) r
      have hlt : pre (by8 kStr) r < r.length := by rw [List.length_cons] at c1; omega
      show ((34 :: r : List UInt8).take (1 + pre (by8 kStr) r + 1)).count 10 = 0
      rw [show 1 + pre (by8 kStr) r + 1 = (pre (by8 kStr) r + 1) + 1 by omega, List.take_succ_cons, List.count_cons_of_ne (by decide), List.take_succ_eq_append_getElem hlt, List.count_append, take_pre (by decide) r]
      have c3 : r[pre (by8 kStr) r] = 34 := by
        rw [Nat.add_comm 1, List.getD_eq_getElem?_getD, List.getElem?_cons_succ, List.getElem?_eq_getElem hlt] at c2
        exact c2
      rw [c3]; rfl
    · rw [if_neg c2] at h; exact absurd h (by decide)
theorem take_sym (b : UInt8) (r : List UInt8) : ((b :: r).take (symLen (b :: r))).count 10 = 0 := by
  unfold symLen
  split
  · rename_i h
    rw [Bool.or_eq_true] at h
    unfold Lib.hasPrefix at h
    cases r with
    | nil => simp [List.isPrefixOf] at h
    | cons c q =>
      simp [List.isPrefixOf] at h
      rcases h with ⟨h1, h2⟩ | ⟨h1, h2⟩
      · rw [← h1, ← h2]; rfl
      · rw [← h1, ← h2]; rfl
  · split
    · rename_i h
      have hb : b ≠ 10 := fun e => by
        have h2 : syms.contains b = true := h
        rw [e] at h2
        exact absurd h2 (by decide)
      rw [List.take_succ_cons, List.count_cons_of_ne hb]; rfl
    · rfl
/-- No line feed in a token. -/
theorem tok_nl {b : UInt8} {r : List UInt8} (h : (fst3 (b :: r)).2.2 = 0) : ((b :: r).take (fst3 (b :: r)).2.1).count 10 = 0 := by
  have hl : ∀ K k, kPart K 10 = false → (lim k (nam K (b :: r))).2.2 = 0 → ((b :: r).take (lim k (nam K (b :: r))).2.1).count 10 = 0 := by
    intro K k hK hz
    unfold lim at hz ⊢
    split
    · rfl
    · show ((b :: r).take (nam K (b :: r))).count 10 = 0
      unfold nam nameLen
      show ((b :: r).take (if by8 K b then pre (by8 (kPart K)) (b :: r) else 0)).count 10 = 0
      split
      · exact take_pre (show by8 (kPart K) 10 = false from hK) _
      · rfl
  unfold fst3 at h ⊢
  split
  · rename_i c; rw [if_pos c] at h; exact hl _ _ (by decide) h
  · rename_i c; rw [if_neg c] at h
    split
    · rename_i c2; rw [if_pos c2] at h; exact hl _ _ (by decide) h
    · rename_i c2; rw [if_neg c2] at h
      split
      · exact take_num b r
      · rename_i c3; rw [if_neg c3] at h
        split
        · rename_i c4
          rw [if_pos c4] at h
          have e : b = 34 := c4
          subst e
          exact take_quo h
        · rename_i c4; rw [if_neg c4] at h
          split
          · exact take_sym b r
          · rfl
theorem text_nl (k n : Nat) (l m : List UInt8) (h : n ≤ l.length) : tokText k n (l ++ m) = tokText k n l := by
  unfold tokText
  rw [List.take_append_of_le_length h, List.take_append_of_le_length (by omega)]
/-- A source that is read without an error, a line feed, and more. -/
theorem run_nl (n : Nat) : ∀ (l : List UInt8), l.length ≤ n → ∀ (m : List UInt8) (line : Nat) (com : Bool) (acc : List Tok), (run l line com acc).err = 0 →
    run (l ++ 10 :: m) line com acc = run m (line + 1 + l.count 10) false (run l line com acc).toks := by
  induction n with
  | zero =>
    intro l hl m line com acc _
    have : l = [] := List.eq_nil_of_length_eq_zero (by omega)
    subst this
    rw [List.nil_append, run_lf, run_nil]; rfl
  | succ n ih =>
    intro l hl m line com acc he
    cases l with
    | nil => rw [List.nil_append, run_lf, run_nil]; rfl
    | cons b r =>
      rw [List.length_cons] at hl
      by_cases h1 : b = 10
      · subst h1
        rw [run_lf] at he ⊢
        rw [List.cons_append, run_lf, ih r (by omega) m _ _ _ he, List.count_cons_self]
        congr 1; omega
      · cases h2 : (com || b == 37 || isSep b)
        · by_cases h3 : (fst3 (b :: r)).2.2 = 0
          · have hf := fst3_nl m h3
            have hle := (fst3_le (l := b :: r) (by simp)).1
            have hp := fst3_pos h3
            have hnl := tok_nl h3
            rw [run_tok r line com acc h1 h2 h3] at he ⊢
            rw [List.cons_append, run_tok (r ++ 10 :: m) line com acc h1 h2 (by rw [← List.cons_append, hf]; exact h3), ← List.cons_append, hf, text_nl _ _ _ _ hle, List.drop_append_of_le_length hle]
            rw [ih _ (by rw [List.length_drop, List.length_cons]; omega) m _ _ _ he]
            congr 1
            have hcnt : (b :: r).count 10 = ((b :: r).take (fst3 (b :: r)).2.1).count 10 + ((b :: r).drop (fst3 (b :: r)).2.1).count 10 := by
              rw [← List.count_append, List.take_append_drop]
            rw [hcnt, hnl]; omega
          · rw [run_err r line com acc h1 h2 h3] at he
            exact absurd he h3
        · rw [run_skip r line com acc h1 h2] at he ⊢
          rw [List.cons_append, run_skip _ line com acc h1 h2, ih r (by omega) m _ _ _ he, List.count_cons_of_ne h1]
/-- Another first line, and tokens before. -/
def moved (d : Nat) (ts : List Tok) : List Tok := ts.map fun t => ⟨t.kind, t.text, t.line + d⟩
theorem run_moved (n : Nat) : ∀ (l : List UInt8), l.length ≤ n → ∀ (line d : Nat) (com : Bool) (acc pre : List Tok), (run l line com acc).err = 0 →
    run l (line + d) com (pre ++ moved d acc) = ⟨pre ++ moved d (run l line com acc).toks, 0, 0⟩ := by
  induction n with
  | zero =>
    intro l hl line d com acc pre _
    have : l = [] := List.eq_nil_of_length_eq_zero (by omega)
    subst this
    rw [run_nil, run_nil]
  | succ n ih =>
    intro l hl line d com acc pre he
    cases l with
    | nil => rw [run_nil, run_nil]
    | cons b r =>
      rw [List.length_cons] at hl
      by_cases h1 : b = 10
      · subst h1
        rw [run_lf] at he ⊢
        rw [run_lf, show line + d + 1 = line + 1 + d by omega]
        exact ih r (by omega) _ d _ _ _ he
      · cases h2 : (com || b == 37 || isSep b)
        · by_cases h3 : (fst3 (b :: r)).2.2 = 0
          · have hp := fst3_pos h3
            rw [run_tok r line com acc h1 h2 h3] at he ⊢
            rw [run_tok r _ com _ h1 h2 h3, List.append_assoc]
            have := ih ((b :: r).drop (fst3 (b :: r)).2.1) (by rw [List.length_drop, List.length_cons]; omega) line d false _ pre he
            rw [← this]
            congr 2
            simp [moved]
          · rw [run_err r line com acc h1 h2 h3] at he
            exact absurd he h3
        · rw [run_skip r line com acc h1 h2] at he ⊢
          rw [run_skip r _ com _ h1 h2]
          exact ih r (by omega) _ d _ _ _ he
end Go.Proofs.YtlnmcegnnncepaaDoor
