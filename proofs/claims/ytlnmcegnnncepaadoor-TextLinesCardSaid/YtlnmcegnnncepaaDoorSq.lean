/- Plain: tokens that are written with spaces between are read as the same tokens. -/
import Derived.Test.YtlnmcegnnncepaaDoorSn
namespace Go.Proofs.YtlnmcegnnncepaaDoor

theorem pre_take (p : UInt8 → Bool) : ∀ (l : List UInt8) (j : Nat), pre p (l.take j) = min j (pre p l) := by
  intro l
  induction l with
  | nil => intro j; simp [pre]
  | cons b r ih =>
    intro j
    cases j with
    | zero => simp [pre]
    | succ j =>
      rw [List.take_succ_cons, pre_cons, pre_cons, ih]
      split <;> omega
theorem pre_app {p : UInt8 → Bool} (m : List UInt8) : ∀ l : List UInt8, pre p l < l.length → pre p (l ++ m) = pre p l := by
  intro l
  induction l with
  | nil => intro h; exact absurd h (Nat.not_lt_zero _)
  | cons b r ih =>
    intro h
    rw [List.cons_append, pre_cons, pre_cons]
    rw [pre_cons, List.length_cons] at h
    split
    · rename_i hb; rw [if_pos hb] at h; rw [ih (by omega)]
    · rfl
theorem pre_at {p : UInt8 → Bool} : ∀ (l : List UInt8), (l.getD (pre p l) 34 : UInt8) = 34 ∨ p (l.getD (pre p l) 34) = false := by
  intro l
  induction l with
  | nil => exact .inl rfl
  | cons b r ih =>
    rw [pre_cons]
    split
    · rw [List.getD_cons_succ]; exact ih
    · rename_i h; right; simpa using h
/-- A separator byte stops a token, where it is the first byte of what follows. -/
def Sepd (m : List UInt8) : Prop := m = [] ∨ ∃ q, m = 32 :: q
theorem pre_sep {p : UInt8 → Bool} (h : p 32 = false) {m : List UInt8} (hm : Sepd m) : ∀ l, pre p (l ++ m) = pre p l := by
  intro l
  rcases hm with rfl | ⟨q, rfl⟩
  · rw [List.append_nil]
  · induction l with
    | nil => rw [List.nil_append, pre_cons, h]; rfl
    | cons b r ih => rw [List.cons_append, pre_cons, pre_cons, ih]
theorem nam_cut {K : Nat → Bool} (h : kPart K 32 = false) {m : List UInt8} (hm : Sepd m) (b : UInt8) (r : List UInt8) (n : Nat) (hn : 1 ≤ n) : nam K ((b :: r).take n ++ m) = min n (nam K (b :: r)) := by
  obtain ⟨k, rfl⟩ : ∃ k, n = k + 1 := ⟨n - 1, by omega⟩
  have h1 : pre (by8 (kPart K)) ((b :: r).take (k + 1) ++ m) = min (k + 1) (pre (by8 (kPart K)) (b :: r)) := by
    rw [pre_sep (show by8 (kPart K) 32 = false from h) hm, pre_take]
  unfold nam nameLen
  show (if by8 K b then pre (by8 (kPart K)) ((b :: r).take (k + 1) ++ m) else 0) = min (k + 1) (if by8 K b then pre (by8 (kPart K)) (b :: r) else 0)
  rw [h1]
  split <;> omega
theorem num_cut {m : List UInt8} (hm : Sepd m) (b : UInt8) (r : List UInt8) (n : Nat) (hn : 1 ≤ n) (h : numLen (b :: r) = 0 ∨ numLen (b :: r) = n) : numLen ((b :: r).take n ++ m) = numLen (b :: r) := by
  obtain ⟨k, rfl⟩ : ∃ k, n = k + 1 := ⟨n - 1, by omega⟩
  have hd : by8 kDig 32 = false := by decide
  by_cases hb : b = 45
  · subst hb
    have e1 : dg (45 :: r) = r := rfl
    have e2 : dg ((45 :: r).take (k + 1) ++ m) = r.take k ++ m := rfl
    have hp : pre (by8 kDig) (r.take k ++ m) = min k (pre (by8 kDig) r) := by rw [pre_sep hd hm, pre_take]
    have hle := pre_le (by8 kDig) r
    unfold numLen at h ⊢
    rw [e1] at h ⊢
    rw [e2, hp]
    simp only [List.length_cons, List.length_append, List.take_succ_cons, List.cons_append] at h ⊢
    split at h <;> split <;> omega
  · have e1 : dg (b :: r) = b :: r := by unfold dg; rw [if_neg (fun h : (b :: r).head? = some 45 => hb (Option.some.inj h))]
    have e2 : dg ((b :: r).take (k + 1) ++ m) = (b :: r).take (k + 1) ++ m := by
      unfold dg; rw [if_neg (fun h : ((b :: r).take (k + 1) ++ m).head? = some 45 => hb (Option.some.inj h))]
    have hp : pre (by8 kDig) ((b :: r).take (k + 1) ++ m) = min (k + 1) (pre (by8 kDig) (b :: r)) := by rw [pre_sep hd hm, pre_take]
    unfold numLen at h ⊢
    rw [e1] at h ⊢
    rw [e2, hp, Nat.sub_self]
    rw [Nat.sub_self] at h
    split at h <;> split <;> omega
theorem quo_cut {r m : List UInt8} {n : Nat} (h : quo (34 :: r) = (3, n, 0)) : quo ((34 :: r).take n ++ m) = (3, n, 0) ∧ n ≤ (34 :: r : List UInt8).length ∧ 2 ≤ n ∧ (34 :: r : List UInt8).take n = 34 :: ((34 :: r : List UInt8).take (n - 1)).drop 1 ++ [34] := by
  have hp := pre_le (by8 kStr) r
  have e0 : (34 :: r : List UInt8).tail = r := rfl
  unfold quo at h
  rw [e0] at h
  by_cases c1 : 1 + pre (by8 kStr) r = (34 :: r : List UInt8).length
  · rw [if_pos c1] at h; exact absurd h (by simp)
  · rw [if_neg c1] at h
    by_cases c2 : (34 :: r : List UInt8).getD (1 + pre (by8 kStr) r) 0 = 34
    · rw [if_pos c2] at h
      obtain ⟨q, hq⟩ : ∃ q, pre (by8 kStr) r = q := ⟨_, rfl⟩
      rw [hq] at h c1 c2 hp
      have hn : n = q + 2 := by
        have := congrArg (fun x => x.2.1) h
        simp only at this; omega
      subst hn
      have hlt : q < r.length := by rw [List.length_cons] at c1; omega
      have c3 : r[q] = 34 := by
        rw [Nat.add_comm 1, List.getD_eq_getElem?_getD, List.getElem?_cons_succ, List.getElem?_eq_getElem hlt] at c2
        exact c2
      have ht : r.take (q + 1) = r.take q ++ [34] := by rw [List.take_succ_eq_append_getElem hlt, c3]
      have hpq : pre (by8 kStr) (r.take (q + 1) ++ m) = q := by
        have h1 : pre (by8 kStr) (r.take (q + 1)) = q := by rw [pre_take, hq]; omega
        rw [pre_app m _ (by rw [h1, List.length_take]; omega), h1]
      refine ⟨?_, by rw [List.length_cons]; omega, by omega, ?_⟩
      · unfold quo
        have e1 : ((34 :: r : List UInt8).take (q + 2) ++ m).tail = r.take (q + 1) ++ m := rfl
        have e2 : ((34 :: r : List UInt8).take (q + 2) ++ m).length = 1 + (q + 1) + m.length := by
          show (34 :: (r.take (q + 1)) ++ m).length = _
          rw [List.length_append, List.length_cons, List.length_take]; omega
        have e3 : ((34 :: r : List UInt8).take (q + 2) ++ m).getD (1 + q) 0 = 34 := by
          show (34 :: (r.take (q + 1)) ++ m).getD (1 + q) 0 = 34
          rw [ht, Nat.add_comm 1, List.cons_append, List.getD_cons_succ, List.append_assoc, List.getD_eq_getElem?_getD, List.getElem?_append_right (by rw [List.length_take]; omega), List.length_take]
          rw [show q - min q r.length = 0 by omega]; rfl
        rw [e1, hpq, if_neg (by rw [e2]; omega), if_pos e3, show 1 + q + 1 = q + 2 by omega]
      · show 34 :: r.take (q + 1) = 34 :: (r.take q) ++ [34]
        rw [ht]; rfl
    · rw [if_neg c2] at h
      exact absurd (congrArg (fun x => x.2.2) h) (by simp)
theorem sym_cut {m : List UInt8} (hm : Sepd m) (b : UInt8) (r : List UInt8) (h : 0 < symLen (b :: r)) : symLen ((b :: r).take (symLen (b :: r)) ++ m) = symLen (b :: r) := by
  have hpre : ∀ x y : UInt8, y ≠ 32 → Lib.hasPrefix (b :: m) [x, y] = false := by
    intro x y hy
    unfold Lib.hasPrefix
    rcases hm with rfl | ⟨q, rfl⟩
    · simp [List.isPrefixOf]
    · simp [List.isPrefixOf, hy]
  unfold symLen at h ⊢
  split
  · rename_i c
    rw [Bool.or_eq_true] at c
    unfold Lib.hasPrefix at c
    cases r with
    | nil => simp [List.isPrefixOf] at c
    | cons d q =>
      simp [List.isPrefixOf] at c
      rcases c with ⟨h1, h2⟩ | ⟨h1, h2⟩
      · subst h1 h2; rfl
      · subst h1 h2; rfl
  · rename_i c
    rw [if_neg c] at h
    split
    · rename_i c2
      show (if Lib.hasPrefix (b :: m) [60, 33] || Lib.hasPrefix (b :: m) [33, 62] then 2 else if syms.contains b then 1 else 0) = 1
      rw [hpre _ _ (by decide), hpre _ _ (by decide)]
      have c3 : syms.contains b = true := c2
      rw [c3]; rfl
    · rename_i c2; rw [if_neg c2] at h; exact absurd h (by decide)
/-- A token is read again where it stands before a space or the end. -/
theorem fst3_cut {b : UInt8} {r m : List UInt8} (hm : Sepd m) {k n : Nat} (h : fst3 (b :: r) = (k, n, 0)) : fst3 ((b :: r).take n ++ m) = (k, n, 0) := by
  have hn : 1 ≤ n := by have := fst3_pos (l := b :: r) (by rw [h]); rwa [h] at this
  have hle : n ≤ (b :: r).length := by have := (fst3_le (l := b :: r) (by simp)).1; rwa [h] at this
  have hk1 : kPart kLow 32 = false := by decide
  have hk2 : kPart kUp 32 = false := by decide
  have hhead : ((b :: r).take n ++ m).headD 0 = b := by
    obtain ⟨j, rfl⟩ : ∃ j, n = j + 1 := ⟨n - 1, by omega⟩
    rfl
  have htk : ∀ j, j ≤ n → ((b :: r).take n ++ m).take j = (b :: r).take j := by
    intro j hj
    rw [List.take_append_of_le_length (by rw [List.length_take]; omega), List.take_take, Nat.min_eq_left hj]
  have hlim : ∀ x y, lim x y = (k, n, 0) → y = n ∧ x = k := by
    intro x y e
    unfold lim at e
    split at e
    · exact absurd (congrArg (fun z => z.2.2) e) (by simp)
    · exact ⟨congrArg (fun z => z.2.1) e, congrArg (fun z => z.1) e⟩
  unfold fst3 at h ⊢
  rw [nam_cut hk1 hm b r n hn, nam_cut hk2 hm b r n hn, hhead]
  by_cases c1 : 0 < nam kLow (b :: r)
  · rw [if_pos c1] at h
    have e := hlim _ _ h
    rw [if_pos (by omega), e.1, Nat.min_self, ← h, e.1]
  · rw [if_neg c1] at h
    rw [if_neg (by omega)]
    by_cases c2 : 0 < nam kUp (b :: r)
    · rw [if_pos c2] at h
      have e := hlim _ _ h
      rw [if_pos (by omega), e.1, Nat.min_self, ← h, e.1]
    · rw [if_neg c2] at h
      rw [if_neg (by omega)]
      by_cases c3 : 0 < numLen (b :: r)
      · rw [if_pos c3] at h
        have e : numLen (b :: r) = n := congrArg (fun z => z.2.1) h
        rw [num_cut hm b r n hn (.inr e), if_pos c3, htk _ (by omega)]
        exact h
      · rw [if_neg c3] at h
        have e0 : numLen (b :: r) = 0 := by omega
        rw [num_cut hm b r n hn (.inl e0), if_neg c3]
        by_cases c4 : b = 34
        · subst c4
          have c5 : (34 :: r : List UInt8).headD 0 = 34 := rfl
          rw [if_pos c5] at h
          have hk : k = 3 := by
            unfold quo at h
            split at h
            · exact absurd (congrArg (fun z => z.2.2) h) (by simp)
            · split at h
              · exact (congrArg (fun z => z.1) h).symm
              · exact absurd (congrArg (fun z => z.2.2) h) (by simp)
          subst hk
          rw [if_pos rfl]
          exact (quo_cut h).1
        · have c5 : ¬ (b :: r).headD 0 = 34 := c4
          rw [if_neg c5] at h
          rw [if_neg c4]
          by_cases c6 : 0 < symLen (b :: r)
          · rw [if_pos c6] at h
            have e : symLen (b :: r) = n := congrArg (fun z => z.2.1) h
            have hs := sym_cut hm b r c6
            rw [e] at hs
            rw [hs, if_pos (by omega)]
            rw [e] at h
            exact h
          · rw [if_neg c6] at h
            exact absurd (congrArg (fun z => z.2.2) h) (by simp)

/-- A token as it is written. -/
def wri (t : Tok) : List UInt8 := if t.kind = 3 then 34 :: t.text ++ [34] else t.text
def flat (ts : List Tok) : List UInt8 := ts.flatMap fun t => 32 :: wri t
/-- A token that was read somewhere. -/
def Read (t : Tok) : Prop := ∃ b r, ¬ b = 10 ∧ (false || b == 37 || isSep b) = false ∧ fst3 (b :: r) = (t.kind, (wri t).length, 0) ∧ wri t = (b :: r).take (wri t).length ∧ t.text = tokText t.kind (wri t).length (b :: r)
theorem read_of {b : UInt8} {r : List UInt8} {line : Nat} (h1 : ¬ b = 10) (h2 : (false || b == 37 || isSep b) = false) (h3 : (fst3 (b :: r)).2.2 = 0) :
    Read ⟨(fst3 (b :: r)).1, tokText (fst3 (b :: r)).1 (fst3 (b :: r)).2.1 (b :: r), line⟩ ∧ (wri ⟨(fst3 (b :: r)).1, tokText (fst3 (b :: r)).1 (fst3 (b :: r)).2.1 (b :: r), line⟩).length = (fst3 (b :: r)).2.1 := by
  have hle := fst3_le (l := b :: r) (by simp)
  obtain ⟨k, n, e, hf⟩ : ∃ k n e, fst3 (b :: r) = (k, n, e) := ⟨_, _, _, rfl⟩
  rw [hf] at h3 hle ⊢
  simp only at h3 hle ⊢
  subst h3
  have hw : wri ⟨k, tokText k n (b :: r), line⟩ = (b :: r).take n := by
    unfold wri tokText
    by_cases hk : k = 3
    · subst hk
      simp only [if_true]
      have hb : b = 34 := by
        unfold fst3 at hf
        split at hf
        · unfold lim at hf; split at hf <;> exact absurd (congrArg (fun z => z.1) hf) (by simp)
        · split at hf
          · unfold lim at hf; split at hf <;> exact absurd (congrArg (fun z => z.1) hf) (by simp)
          · split at hf
            · exact absurd (congrArg (fun z => z.1) hf) (by simp)
            · split at hf
              · rename_i c; exact c
              · split at hf <;> exact absurd (congrArg (fun z => z.1) hf) (by simp)
      subst hb
      have hq : quo (34 :: r) = (3, n, 0) := by
        have g1 : nam kLow (34 :: r) = 0 := by unfold nam nameLen; rfl
        have g2 : nam kUp (34 :: r) = 0 := by unfold nam nameLen; rfl
        have g3 : numLen (34 :: r) = 0 := by
          have e1 : dg (34 :: r) = 34 :: r := rfl
          have e2 : pre (by8 kDig) (34 :: r) = 0 := by rw [pre_cons, if_neg (by decide)]
          unfold numLen; rw [e1, if_pos e2]
        unfold fst3 at hf
        rw [g1, g2, g3, if_neg (by decide), if_neg (by decide), if_neg (by decide), if_pos (show (34 :: r : List UInt8).headD 0 = 34 from rfl)] at hf
        exact hf
      exact (quo_cut (m := []) hq).2.2.2.symm
    · simp only [if_neg hk]
  have hlen : (wri ⟨k, tokText k n (b :: r), line⟩).length = n := by rw [hw, List.length_take]; omega
  exact ⟨⟨b, r, h1, h2, by rw [hlen]; exact hf, by rw [hlen]; exact hw, by rw [hlen]⟩, hlen⟩
theorem run_read (n : Nat) : ∀ (l : List UInt8), l.length ≤ n → ∀ (line : Nat) (com : Bool) (acc : List Tok), (∀ t ∈ acc, Read t) → (∀ t ∈ (run l line com acc).toks, Read t) ∧ (flat (run l line com acc).toks).length ≤ (flat acc).length + 2 * l.length := by
  induction n with
  | zero =>
    intro l hl line com acc ha
    have : l = [] := List.eq_nil_of_length_eq_zero (by omega)
    subst this
    rw [run_nil]; exact ⟨ha, Nat.le_refl _⟩
  | succ n ih =>
    intro l hl line com acc ha
    cases l with
    | nil => rw [run_nil]; exact ⟨ha, Nat.le_refl _⟩
    | cons b r =>
      rw [List.length_cons] at hl ⊢
      by_cases h1 : b = 10
      · subst h1
        rw [run_lf]
        have := ih r (by omega) (line + 1) false acc ha
        exact ⟨this.1, by omega⟩
      · cases h2 : (com || b == 37 || isSep b)
        · by_cases h3 : (fst3 (b :: r)).2.2 = 0
          · have hp := fst3_pos h3
            have hle := (fst3_le (l := b :: r) (by simp)).1
            have h2' : (false || b == 37 || isSep b) = false := by
              cases com
              · exact h2
              · exact absurd h2 (by simp)
            have hr := read_of (line := line) h1 h2' h3
            rw [run_tok r line com acc h1 h2 h3]
            obtain ⟨t, ht⟩ : ∃ t : Tok, Tok.mk (fst3 (b :: r)).1 (tokText (fst3 (b :: r)).1 (fst3 (b :: r)).2.1 (b :: r)) line = t := ⟨_, rfl⟩
            rw [ht] at hr ⊢
            have := ih ((b :: r).drop (fst3 (b :: r)).2.1) (by rw [List.length_drop, List.length_cons]; omega) line false (acc ++ [t]) (fun u hu => by
              rcases List.mem_append.1 hu with h | h
              · exact ha u h
              · rw [List.mem_singleton] at h; subst h; exact hr.1)
            refine ⟨this.1, Nat.le_trans this.2 ?_⟩
            have hf : (flat (acc ++ [t])).length = (flat acc).length + 1 + (fst3 (b :: r)).2.1 := by
              unfold flat; rw [List.flatMap_append, List.length_append]; simp [hr.2]; omega
            rw [hf, List.length_drop, List.length_cons]
            rw [List.length_cons] at hle
            omega
          · rw [run_err r line com acc h1 h2 h3]
            exact ⟨fun t ht => (List.not_mem_nil ht).elim, Nat.zero_le _⟩
        · rw [run_skip r line com acc h1 h2]
          have := ih r (by omega) line (com || b == 37) acc ha
          exact ⟨this.1, by omega⟩
theorem flat_sep : ∀ ts, Sepd (flat ts)
  | [] => .inl rfl
  | t :: ts => .inr ⟨wri t ++ flat ts, rfl⟩
theorem run_written : ∀ (ts : List Tok), (∀ t ∈ ts, Read t) → ∀ (acc : List Tok), run (flat ts) 1 false acc = ⟨acc ++ ts.map fun t => ⟨t.kind, t.text, 1⟩, 0, 0⟩
  | [], _, acc => by rw [show flat [] = [] from rfl, run_nil]; simp
  | t :: ts, h, acc => by
    obtain ⟨b, r, h1, h2, h3, h4, h5⟩ := h t (List.mem_cons_self ..)
    have hn := fst3_pos (l := b :: r) (by rw [h3])
    rw [h3] at hn
    have hc := fst3_cut (flat_sep ts) h3
    have hle := (fst3_le (l := b :: r) (by simp)).1
    rw [h3] at hle
    simp only at hn hle
    have e : flat (t :: ts) = 32 :: ((b :: r).take (wri t).length ++ flat ts) := by
      rw [← h4]; rfl
    obtain ⟨n, hnn⟩ : ∃ n, (wri t).length = n := ⟨_, rfl⟩
    rw [hnn] at h3 h4 h5 hn hc hle e
    obtain ⟨j, rfl⟩ : ∃ j, n = j + 1 := ⟨n - 1, by omega⟩
    rw [List.take_succ_cons, List.cons_append] at hc e
    rw [e, run_skip _ 1 false acc (by decide) (by decide)]
    show run (b :: (r.take j ++ flat ts)) 1 false acc = _
    rw [run_tok _ 1 false acc h1 h2 (by rw [hc]), hc]
    have hl : (b :: r.take j).length = j + 1 := by
      rw [List.length_cons, List.length_take]
      rw [List.length_cons] at hle; omega
    have hd : (b :: (r.take j ++ flat ts)).drop (j + 1) = flat ts := by
      rw [← List.cons_append, List.drop_append_of_le_length (by omega), ← hl, List.drop_length, List.nil_append]
    have ht : tokText t.kind (j + 1) (b :: (r.take j ++ flat ts)) = t.text := by
      rw [← List.cons_append, text_nl _ _ _ _ (by omega), h5]
      unfold tokText
      rw [← List.take_succ_cons, List.take_take, List.take_take, Nat.min_self, Nat.min_eq_left (by omega)]
    show run ((b :: (r.take j ++ flat ts)).drop (j + 1)) 1 false (acc ++ [⟨t.kind, tokText t.kind (j + 1) (b :: (r.take j ++ flat ts)), 1⟩]) = _
    rw [hd, ht, run_written ts (fun u hu => h u (List.mem_cons_of_mem _ hu))]
    simp
/-- What TextTokens asks, of the plain scanner. -/
theorem tokens_back (l : List UInt8) (hl : l.length ≤ 1000) : (flat (scanR l).toks).length ≤ 2000 ∧ scanR (flat (scanR l).toks) = ⟨(scanR l).toks.map fun t => ⟨t.kind, t.text, 1⟩, 0, 0⟩ := by
  have e1 : scanR l = run l 1 false [] := by unfold scanR; rw [if_neg (by omega)]
  have h := run_read l.length l (Nat.le_refl _) 1 false [] (fun t ht => (List.not_mem_nil ht).elim)
  have h2 : (flat (scanR l).toks).length ≤ 2000 := by
    rw [e1]; refine Nat.le_trans h.2 ?_
    show 0 + 2 * l.length ≤ 2000; omega
  refine ⟨h2, ?_⟩
  have e2 : scanR (flat (scanR l).toks) = run (flat (scanR l).toks) 1 false [] := by
    obtain ⟨z, hz⟩ : ∃ z, flat (scanR l).toks = z := ⟨_, rfl⟩
    rw [hz] at h2 ⊢
    unfold scanR; rw [if_neg (by omega)]
  rw [e2, e1, run_written _ h.1]
  rfl
end Go.Proofs.YtlnmcegnnncepaaDoor
