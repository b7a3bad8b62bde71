/- Plain: strings in their order, ascending lists without repetitions. Imports nothing. -/
namespace Go.Proofs.Ytmhbblehgckelaa
abbrev Str := List UInt8

theorem str_tri (a b : Str) : a < b ∨ a = b ∨ b < a := by
  by_cases h : a < b
  · exact .inl h
  · by_cases h2 : b < a
    · exact .inr (.inr h2)
    · exact .inr (.inl (List.le_antisymm (List.not_lt.1 h2) (List.not_lt.1 h)))
theorem str_ne {a b : Str} (h : a < b) : a ≠ b := fun e => by rw [e] at h; exact List.lt_irrefl b h

def Asc (l : List Str) : Prop := l.Pairwise (· < ·)
theorem asc_nil : Asc [] := List.Pairwise.nil
theorem Asc.nodup {l : List Str} (h : Asc l) : l.Nodup := List.Pairwise.imp (fun {_ _} h => str_ne h) h
/-- Two ascending lists with the same elements are the same. -/
theorem asc_ext : ∀ {a b : List Str}, Asc a → Asc b → (∀ x, x ∈ a ↔ x ∈ b) → a = b
  | [], [], _, _, _ => rfl
  | [], y :: b, _, _, h => by have := (h y).2 (List.mem_cons_self ..); cases this
  | x :: a, [], _, _, h => by have := (h x).1 (List.mem_cons_self ..); cases this
  | x :: a, y :: b, ha, hb, h => by
    obtain ⟨ha1, ha2⟩ := List.pairwise_cons.1 ha
    obtain ⟨hb1, hb2⟩ := List.pairwise_cons.1 hb
    have hxy : x = y := by
      rcases List.mem_cons.1 ((h x).1 (List.mem_cons_self ..)) with e | e
      · exact e
      · rcases List.mem_cons.1 ((h y).2 (List.mem_cons_self ..)) with e2 | e2
        · exact e2.symm
        · exact absurd (List.lt_trans (hb1 x e) (ha1 y e2)) (List.lt_irrefl y)
    subst hxy
    have : a = b := asc_ext ha2 hb2 (fun z => by
      constructor
      · intro hz
        rcases List.mem_cons.1 ((h z).1 (List.mem_cons_of_mem _ hz)) with e | e
        · subst e; exact absurd (ha1 z hz) (List.lt_irrefl z)
        · exact e
      · intro hz
        rcases List.mem_cons.1 ((h z).2 (List.mem_cons_of_mem _ hz)) with e | e
        · subst e; exact absurd (hb1 z hz) (List.lt_irrefl z)
        · exact e)
    rw [this]

/-- The place of a string in an ascending list. -/
def pat (l : List Str) (s : Str) : Nat := (l.takeWhile fun x => decide (x < s)).length
theorem pat_le (l : List Str) (s : Str) : pat l s ≤ l.length := by
  have := (List.takeWhile_prefix (p := fun x => decide (x < s)) (l := l)).length_le
  exact this
theorem pat_cons (x : Str) (l : List Str) (s : Str) : pat (x :: l) s = if x < s then pat l s + 1 else 0 := by
  unfold pat
  rw [List.takeWhile_cons]
  by_cases h : x < s <;> simp [h]
theorem pat_lt {l : List Str} {s : Str} {k : Nat} (hk : k < pat l s) : ∃ x, l[k]? = some x ∧ x < s := by
  induction l generalizing k with
  | nil => exact absurd hk (Nat.not_lt_zero _)
  | cons y l ih =>
    rw [pat_cons] at hk
    split at hk
    · rename_i h
      cases k with
      | zero => exact ⟨y, rfl, h⟩
      | succ k => exact ih (k := k) (by omega)
    · omega
theorem pat_at {l : List Str} {s x : Str} (h : l[pat l s]? = some x) : ¬ x < s := by
  induction l with
  | nil => cases h
  | cons y l ih =>
    rw [pat_cons] at h
    split at h
    · exact ih h
    · rename_i hy; cases h; exact hy
/-- The place, found by going up to it. -/
theorem pat_eq {l : List Str} {s : Str} {k : Nat} (h1 : ∀ j, j < k → ∃ x, l[j]? = some x ∧ x < s) (h2 : ∀ x, l[k]? = some x → ¬ x < s) (_ : k ≤ l.length) : pat l s = k := by
  rcases Nat.lt_trichotomy (pat l s) k with h | h | h
  · obtain ⟨x, hx, hlt⟩ := h1 _ h
    exact absurd hlt (pat_at hx)
  · exact h
  · obtain ⟨x, hx, hlt⟩ := pat_lt h
    exact absurd hlt (h2 x hx)
/-- An ascending list with one more string, unless it is there. -/
def put (l : List Str) (s : Str) : List Str := if l[pat l s]? = some s then l else l.take (pat l s) ++ s :: l.drop (pat l s)
theorem put_cons (x : Str) (l : List Str) (s : Str) : put (x :: l) s = if x < s then x :: put l s else if x = s then x :: l else s :: x :: l := by
  unfold put
  rw [pat_cons]
  by_cases h : x < s
  · rw [if_pos h, if_pos h, List.getElem?_cons_succ, List.take_succ_cons, List.drop_succ_cons]
    split <;> rfl
  · rw [if_neg h, if_neg h]
    by_cases h2 : x = s
    · rw [if_pos h2, if_pos (by rw [List.getElem?_cons_zero, h2])]
    · rw [if_neg h2, if_neg (by rw [List.getElem?_cons_zero]; exact fun e => h2 (Option.some.inj e))]
      rfl
theorem mem_put : ∀ (l : List Str) (s x : Str), x ∈ put l s ↔ x = s ∨ x ∈ l
  | [], s, x => by unfold put pat; simp
  | y :: l, s, x => by
    rw [put_cons]
    split
    · rw [List.mem_cons, mem_put l s x, List.mem_cons]
      constructor
      · rintro (h | h | h)
        · exact .inr (.inl h)
        · exact .inl h
        · exact .inr (.inr h)
      · rintro (h | h | h)
        · exact .inr (.inl h)
        · exact .inl h
        · exact .inr (.inr h)
    · split
      · rename_i h; subst h; simp
      · simp
theorem put_asc : ∀ {l : List Str}, Asc l → ∀ s, Asc (put l s)
  | [], _, s => by unfold put pat; simp [Asc]
  | y :: l, h, s => by
    obtain ⟨h1, h2⟩ := List.pairwise_cons.1 h
    rw [put_cons]
    split
    · rename_i hy
      refine List.pairwise_cons.2 ⟨fun z hz => ?_, put_asc h2 s⟩
      rcases (mem_put l s z).1 hz with e | e
      · rw [e]; exact hy
      · exact h1 z e
    · split
      · exact h
      · rename_i hy hne
        have hs : s < y := by
          rcases str_tri y s with e | e | e
          · exact absurd e hy
          · exact absurd e hne
          · exact e
        refine List.pairwise_cons.2 ⟨fun z hz => ?_, h⟩
        rcases List.mem_cons.1 hz with e | e
        · rw [e]; exact hs
        · exact List.lt_trans hs (h1 z e)
/-- Several strings, ascending and each once. -/
def srt (l : List Str) : List Str := l.foldl put []
theorem foldl_put (l : List Str) : ∀ acc : List Str, Asc acc → Asc (l.foldl put acc) ∧ ∀ x, x ∈ l.foldl put acc ↔ x ∈ acc ∨ x ∈ l := by
  induction l with
  | nil => intro acc h; exact ⟨h, fun x => by simp⟩
  | cons y l ih =>
    intro acc h
    obtain ⟨h1, h2⟩ := ih (put acc y) (put_asc h y)
    refine ⟨h1, fun x => ?_⟩
    rw [List.foldl_cons, h2, mem_put, List.mem_cons]
    constructor
    · rintro ((e | e) | e)
      · exact .inr (.inl e)
      · exact .inl e
      · exact .inr (.inr e)
    · rintro (e | e | e)
      · exact .inl (.inr e)
      · exact .inl (.inl e)
      · exact .inr e
theorem srt_asc (l : List Str) : Asc (srt l) := (foldl_put l [] asc_nil).1
theorem mem_srt (l : List Str) (x : Str) : x ∈ srt l ↔ x ∈ l := by
  have := (foldl_put l [] asc_nil).2 x
  unfold srt
  simpa using this
theorem srt_snoc (l : List Str) (s : Str) : srt (l ++ [s]) = put (srt l) s := by unfold srt; rw [List.foldl_append]; rfl
theorem put_len (l : List Str) (s : Str) : (put l s).length ≤ l.length + 1 := by
  unfold put
  split
  · omega
  · have := pat_le l s
    simp; omega
theorem srt_len : ∀ l : List Str, (srt l).length ≤ l.length := by
  intro l
  suffices ∀ acc : List Str, (l.foldl put acc).length ≤ acc.length + l.length by unfold srt; simpa using this []
  induction l with
  | nil => intro acc; simp
  | cons y l ih =>
    intro acc
    have h1 := ih (put acc y)
    have h2 := put_len acc y
    rw [List.foldl_cons, List.length_cons]; omega
theorem asc_eq_srt {a l : List Str} (ha : Asc a) (h : ∀ x, x ∈ a ↔ x ∈ l) : a = srt l := asc_ext ha (srt_asc l) (fun x => by rw [h, mem_srt])
/-- Sorting a list without repetitions. -/
theorem merge_srt {l : List Str} (h : l.Nodup) : l.mergeSort (fun x y => decide (x ≤ y)) = srt l := by
  have hp := List.mergeSort_perm l (fun x y => decide (x ≤ y))
  have hs : (l.mergeSort (fun x y => decide (x ≤ y))).Pairwise (fun x y => decide (x ≤ y) = true) :=
    List.pairwise_mergeSort (fun a b c h1 h2 => by
      simp only [decide_eq_true_eq] at h1 h2 ⊢
      exact List.le_trans h1 h2) (fun a b => by
      have := List.le_total a b
      simpa using this) l
  have hn : (l.mergeSort (fun x y => decide (x ≤ y))).Nodup := hp.nodup_iff.2 h
  refine asc_eq_srt ?_ (fun x => hp.mem_iff)
  have := List.Pairwise.and hs hn
  refine this.imp ?_
  intro a b ⟨h1, h2⟩
  simp only [decide_eq_true_eq] at h1
  rcases str_tri a b with e | e | e
  · exact e
  · exact absurd e h2
  · exact absurd (List.le_antisymm h1 (List.not_lt.1 (fun h3 => List.lt_irrefl a (List.lt_trans h3 e)))) h2
end Go.Proofs.Ytmhbblehgckelaa
