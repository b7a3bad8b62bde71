/- Plain: a source with a line feed and more behind it. -/
import Derived.Test.YtlnmcegnnncepaaDoorTy
import Derived.Test.YtlnmcegnnncepaaDoorTz
namespace Go.Proofs.YtlnmcegnnncepaaDoor

theorem pre_nl {p : UInt8 → Bool} (h : p 10 = false) (m : List UInt8) : ∀ l, pre p (l ++ 10 :: m) = pre p l := by
  intro l
  induction l with
  | nil => rw [List.nil_append, pre_cons, h]; rfl
  | cons b r ih => rw [List.cons_append, pre_cons, pre_cons, ih]
theorem nam_nl {K : Nat → Bool} (h : kPart K 10 = false) (b : UInt8) (r m : List UInt8) : nam K (b :: r ++ 10 :: m) = nam K (b :: r) := by
  unfold nam nameLen
  show (if by8 K b then pre (by8 (kPart K)) (b :: r ++ 10 :: m) else 0) = _
  rw [pre_nl (show by8 (kPart K) 10 = false from h)]
theorem dg_nl (b : UInt8) (r m : List UInt8) : dg (b :: r ++ 10 :: m) = dg (b :: r) ++ 10 :: m := by
  unfold dg
  by_cases h : b = 45
  · subst h; rfl
  · have : ¬ some b = some 45 := fun e => h (Option.some.inj e)
    simp [this]
theorem numLen_nl (b : UInt8) (r m : List UInt8) : numLen (b :: r ++ 10 :: m) = numLen (b :: r) := by
  unfold numLen
  rw [dg_nl, pre_nl (show by8 kDig 10 = false by decide)]
  have h1 := dg_le (b :: r)
  split
  · rfl
  · rw [List.length_append, List.length_append]; omega
theorem pref_nl {x y : UInt8} (hy : y ≠ 10) (b : UInt8) (r m : List UInt8) : Lib.hasPrefix (b :: r ++ 10 :: m) [x, y] = Lib.hasPrefix (b :: r) [x, y] := by
  unfold Lib.hasPrefix
  cases r with
  | nil => simp [List.isPrefixOf, hy]
  | cons c q => simp [List.isPrefixOf]
theorem symLen_nl (b : UInt8) (r m : List UInt8) : symLen (b :: r ++ 10 :: m) = symLen (b :: r) := by
  unfold symLen
  rw [pref_nl (by decide), pref_nl (by decide)]
  rfl
theorem quo_nl {b : UInt8} {r : List UInt8} (m : List UInt8) (h : (quo (b :: r)).2.2 = 0) : quo (b :: r ++ 10 :: m) = quo (b :: r) := by
  have hp := pre_le (by8 kStr) r
  unfold quo at h ⊢
  have e0 : (b :: r).tail = r := rfl
  have e5 : pre (by8 kStr) (b :: r ++ 10 :: m).tail = pre (by8 kStr) r := pre_nl (show by8 kStr 10 = false by decide) m r
  rw [e5]
  rw [e0] at h ⊢
  have e1 : ¬ 1 + pre (by8 kStr) r = (b :: r).length := fun e => by rw [if_pos e] at h; exact absurd h (by decide)
  have e2 : ¬ 1 + pre (by8 kStr) r = (b :: r ++ 10 :: m).length := by
    rw [List.length_append, List.length_cons, List.length_cons]; omega
  have e3 : 1 + pre (by8 kStr) r < (b :: r).length := by rw [List.length_cons] at e1 ⊢; omega
  have e4 : (b :: r ++ 10 :: m).getD (1 + pre (by8 kStr) r) 0 = (b :: r).getD (1 + pre (by8 kStr) r) 0 := by
    rw [List.getD_eq_getElem?_getD, List.getD_eq_getElem?_getD, List.getElem?_append_left e3]
  rw [if_neg e1, if_neg e2, e4]
/-- A token is read as it is where a line feed stands behind. -/
theorem fst3_nl {b : UInt8} {r : List UInt8} (m : List UInt8) (h : (fst3 (b :: r)).2.2 = 0) : fst3 (b :: r ++ 10 :: m) = fst3 (b :: r) := by
  have hn := numLen_len (b :: r)
  have hk1 : kPart kLow 10 = false := by decide
  have hk2 : kPart kUp 10 = false := by decide
  have ht : (b :: r ++ 10 :: m).take (numLen (b :: r)) = (b :: r).take (numLen (b :: r)) := List.take_append_of_le_length hn
  unfold fst3 at h ⊢
  rw [nam_nl hk1, nam_nl hk2, numLen_nl, symLen_nl, ht]
  show (if _ then _ else if _ then _ else if _ then _ else if b = 34 then quo (b :: r ++ 10 :: m) else _) = _
  by_cases c1 : 0 < nam kLow (b :: r)
  · rw [if_pos c1, if_pos c1]
  · rw [if_neg c1] at h ⊢
    rw [if_neg c1]
    by_cases c2 : 0 < nam kUp (b :: r)
    · rw [if_pos c2, if_pos c2]
    · rw [if_neg c2] at h ⊢
      rw [if_neg c2]
      by_cases c3 : 0 < numLen (b :: r)
      · rw [if_pos c3, if_pos c3]
      · rw [if_neg c3] at h ⊢
        rw [if_neg c3]
        by_cases c4 : b = 34
        · rw [if_pos c4]
          have c4' : (b :: r).headD 0 = 34 := c4
          rw [if_pos c4'] at h ⊢
          exact quo_nl m h
        · have c4' : ¬ (b :: r).headD 0 = 34 := c4
          rw [if_neg c4, if_neg c4']
end Go.Proofs.YtlnmcegnnncepaaDoor
