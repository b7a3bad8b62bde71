/- Walk of the law TextTokens. -/
import Derived.Test.YtlnmcegnnncepaaDoorSo
import Derived.Test.YtlnmcegnnncepaaDoorSq
namespace Go.Proofs.YtlnmcegnnncepaaDoor
open Go.RowKit

theorem run_bad (n : Nat) : ∀ (l : List UInt8), l.length ≤ n → ∀ (line : Nat) (com : Bool) (acc : List Tok), ¬ (run l line com acc).err = 0 → (run l line com acc).toks = [] ∧ line ≤ (run l line com acc).line := by
  induction n with
  | zero =>
    intro l hl line com acc h
    have : l = [] := List.eq_nil_of_length_eq_zero (by omega)
    subst this
    rw [run_nil] at h; exact absurd rfl h
  | succ n ih =>
    intro l hl line com acc h
    cases l with
    | nil => rw [run_nil] at h; exact absurd rfl h
    | cons b r =>
      rw [List.length_cons] at hl
      by_cases h1 : b = 10
      · subst h1
        rw [run_lf] at h ⊢
        have := ih r (by omega) (line + 1) false acc h
        exact ⟨this.1, by omega⟩
      · cases h2 : (com || b == 37 || isSep b)
        · by_cases h3 : (fst3 (b :: r)).2.2 = 0
          · have hp := fst3_pos h3
            rw [run_tok r line com acc h1 h2 h3] at h ⊢
            exact ih _ (by rw [List.length_drop, List.length_cons]; omega) _ _ _ h
          · rw [run_err r line com acc h1 h2 h3]
            exact ⟨rfl, Nat.le_refl _⟩
        · rw [run_skip r line com acc h1 h2] at h ⊢
          exact ih r (by omega) _ _ _ h
theorem scanR_bad {l : List UInt8} (hl : l.length ≤ 1000) (h : ¬ (scanR l).err = 0) : (scanR l).toks = [] ∧ 1 ≤ (scanR l).line := by
  have e1 : scanR l = run l 1 false [] := by unfold scanR; rw [if_neg (by omega)]
  rw [e1] at h ⊢
  exact run_bad l.length l (Nat.le_refl _) 1 false [] h
theorem run_line (n : Nat) : ∀ (l : List UInt8), l.length ≤ n → ∀ (line : Nat) (com : Bool) (acc : List Tok), (∀ t ∈ acc, t.line ≤ line) → (run l line com acc).err = 0 → (run l line com acc).line ≤ line + l.length := by
  induction n with
  | zero =>
    intro l hl line com acc _ h
    have : l = [] := List.eq_nil_of_length_eq_zero (by omega)
    subst this
    rw [run_nil]; exact Nat.zero_le _
  | succ n ih =>
    intro l hl line com acc ha h
    cases l with
    | nil => rw [run_nil]; exact Nat.zero_le _
    | cons b r =>
      rw [List.length_cons] at hl ⊢
      by_cases h1 : b = 10
      · subst h1
        rw [run_lf] at h ⊢
        have := ih r (by omega) (line + 1) false acc (fun t ht => by have := ha t ht; omega) h
        omega
      · cases h2 : (com || b == 37 || isSep b)
        · by_cases h3 : (fst3 (b :: r)).2.2 = 0
          · have hp := fst3_pos h3
            rw [run_tok r line com acc h1 h2 h3] at h ⊢
            have := ih _ (by rw [List.length_drop, List.length_cons]; omega) line false _ (fun t ht => by
              rcases List.mem_append.1 ht with e | e
              · exact ha t e
              · rw [List.mem_singleton] at e; subst e; exact Nat.le_refl _) h
            rw [List.length_drop, List.length_cons] at this
            omega
          · rw [run_err r line com acc h1 h2 h3] at h
            exact absurd h h3
        · rw [run_skip r line com acc h1 h2] at h ⊢
          have := ih r (by omega) line (com || b == 37) acc ha h
          omega

theorem flat_take {ts : List Tok} {k : Nat} (hk : k < ts.length) : flat (ts.take (k + 1)) = flat (ts.take k) ++ 32 :: wri (tk ts k) := by
  rw [List.take_succ_eq_append_getElem hk]
  have : tk ts k = ts[k] := by unfold tk; rw [List.getD_eq_getElem?_getD, List.getElem?_eq_getElem hk]; rfl
  rw [this]
  unfold flat
  rw [List.flatMap_append]; simp
theorem flat_le {ts : List Tok} (k : Nat) : (flat (ts.take k)).length ≤ (flat ts).length := by
  have : flat ts = flat (ts.take k) ++ flat (ts.drop k) := by unfold flat; rw [← List.flatMap_append, List.take_append_drop]
  rw [this, List.length_append]; omega
theorem wr_le {ts : List Tok} {k : Nat} (hk : k < ts.length) : (wri (tk ts k)).length ≤ (flat ts).length := by
  have h1 := flat_take hk
  have h2 := flat_le (ts := ts) (k + 1)
  rw [h1, List.length_append, List.length_cons] at h2
  omega
theorem text_le (t : Tok) : t.text.length ≤ (wri t).length := by unfold wri; split <;> simp; omega
theorem mk_append (a b : List UInt8) : mk a ++ mk b = mk (a ++ b) := by apply ByteArray.ext; simp [mk]
theorem mk_sz (l : List UInt8) : (mk l).size = l.length := by simp [mk, ByteArray.size]

set_option maxRecDepth 100000 in
theorem written_any (t : Tok) (w : World) (hk : t.kind ≤ 5) (hl : t.text.length ≤ 2000) :
    Calls Tryd.prog 32 #[.agg #[.int .i64 ((t.kind : Nat) : Int), .string (mk t.text), .int .i64 ((t.line : Nat) : Int)]] w fun e w' => e = .returned (.string (mk (wri t))) ∧ Below w.heap.size w w' := by
  obtain ⟨k, x, line⟩ := t
  simp only at hk hl ⊢
  by_cases h3 : k = 3
  · have hr : Hid (mk (wri ⟨k, x, line⟩) = (⟨#[34]⟩ ++ mk x) ++ ⟨#[34]⟩) := by
      show _ = _
      unfold wri
      simp only [if_pos h3]
      apply ByteArray.ext; simp [mk]
    subst h3
    have hz : (mk x).size ≤ 2000 := by rw [mk_sz]; exact hl
    have hz1 : (⟨#[34]⟩ : ByteArray).size + (mk x).size ≤ 9223372036854775807 := by show 1 + _ ≤ _; omega
    have hz2 : ((⟨#[34]⟩ : ByteArray) ++ mk x).size + (⟨#[34]⟩ : ByteArray).size ≤ 9223372036854775807 := by
      rw [ByteArray.size_append]; show 1 + _ + 1 ≤ _; omega
    go_enter Tryd.func32, Tryd.ntmps32
    go_wp2
    go_ret
    exact ⟨by rw [hr.out]; rfl, (Below.refl _ _).alloc (Nat.le_refl _) _⟩
  · have hr : Hid (mk (wri ⟨k, x, line⟩) = mk x) := by
      show _ = _
      unfold wri
      simp only [if_neg h3]
    have e3 : (((k : Nat) : Int) == 3) = false := by rw [beq_eq_false_iff_ne]; omega
    go_enter Tryd.func32, Tryd.ntmps32
    go_wp2
    go_ret
    exact ⟨by rw [hr.out]; rfl, (Below.refl _ _).alloc (Nat.le_refl _) _⟩
end Go.Proofs.YtlnmcegnnncepaaDoor
