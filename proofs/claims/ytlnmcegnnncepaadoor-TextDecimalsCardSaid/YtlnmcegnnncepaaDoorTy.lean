/- Plain: the tokens of a source. -/
import Derived.Test.YtlnmcegnnncepaaDoorTs
namespace Go.Proofs.YtlnmcegnnncepaaDoor
open Go.RowKit

/-- A token: kind, text, line. -/
structure Tok where
  kind : Nat
  text : List UInt8
  line : Nat
/-- The bytes of a token of this kind and length. -/
def tokText (k n : Nat) (l : List UInt8) : List UInt8 := if k = 3 then (l.take (n - 1)).drop 1 else l.take n
/-- The tokens, or the line of the error and the error. -/
structure Res where
  toks : List Tok
  line : Nat
  err : Int
def isSep (b : UInt8) : Bool := b == 32 || b == 9 || b == 13
/-- Byte by byte: at most fuel steps; the rest, the line, whether in a comment, the tokens so far. -/
def scn : Nat → List UInt8 → Nat → Bool → List Tok → Res
  | 0, _, _, _, acc => ⟨acc, 0, 0⟩
  | _ + 1, [], _, _, acc => ⟨acc, 0, 0⟩
  | f + 1, b :: r, line, com, acc =>
    if b = 10 then scn f r (line + 1) false acc
    else if com || b == 37 || isSep b then scn f r line (com || b == 37) acc
    else if (fst3 (b :: r)).2.2 = 0 then scn f ((b :: r).drop (fst3 (b :: r)).2.1) line false (acc ++ [⟨(fst3 (b :: r)).1, tokText (fst3 (b :: r)).1 (fst3 (b :: r)).2.1 (b :: r), line⟩])
    else ⟨[], line, (fst3 (b :: r)).2.2⟩
def run (l : List UInt8) (line : Nat) (com : Bool) (acc : List Tok) : Res := scn l.length l line com acc

/-- A token has a byte at least. -/
theorem fst3_pos {l : List UInt8} (h : (fst3 l).2.2 = 0) : 1 ≤ (fst3 l).2.1 := by
  unfold fst3 at h ⊢
  split
  · unfold lim at h ⊢; split
    · rename_i h1 h2; rw [if_pos h1, if_pos h2] at h; exact absurd h (by decide)
    · assumption
  · split
    · rename_i h0 h1; rw [if_neg h0, if_pos h1] at h
      unfold lim at h ⊢; split
      · rename_i h2; rw [if_pos h2] at h; exact absurd h (by decide)
      · assumption
    · split
      · assumption
      · split
        · rename_i h0 h1 h2 h3
          rw [if_neg h0, if_neg h1, if_neg h2, if_pos h3] at h
          unfold quo at h ⊢
          split
          · rename_i h4; rw [if_pos h4] at h; exact absurd h (by decide)
          · split
            · show 1 ≤ 1 + _ + 1; omega
            · rename_i h4 h5; rw [if_neg h4, if_neg h5] at h; exact absurd h (by decide)
        · split
          · assumption
          · rename_i h0 h1 h2 h3 h4
            rw [if_neg h0, if_neg h1, if_neg h2, if_neg h3, if_neg h4] at h
            exact absurd h (by decide)
theorem scn_fuel (n : Nat) : ∀ (l : List UInt8), l.length ≤ n → ∀ (f g : Nat), l.length ≤ f → l.length ≤ g → ∀ line com acc, scn f l line com acc = scn g l line com acc := by
  induction n with
  | zero =>
    intro l hl f g _ _ line com acc
    have : l = [] := List.eq_nil_of_length_eq_zero (by omega)
    subst this
    cases f <;> cases g <;> rfl
  | succ n ih =>
    intro l hl f g hf hg line com acc
    cases l with
    | nil => cases f <;> cases g <;> rfl
    | cons b r =>
      rw [List.length_cons] at hl hf hg
      obtain ⟨f, rfl⟩ : ∃ x, f = x + 1 := ⟨f - 1, by omega⟩
      obtain ⟨g, rfl⟩ : ∃ x, g = x + 1 := ⟨g - 1, by omega⟩
      unfold scn
      by_cases h1 : b = 10
      · rw [if_pos h1, if_pos h1]; exact ih r (by omega) f g (by omega) (by omega) _ _ _
      · rw [if_neg h1, if_neg h1]
        cases h2 : (com || b == 37 || isSep b)
        · rw [if_neg Bool.false_ne_true, if_neg Bool.false_ne_true]
          by_cases h3 : (fst3 (b :: r)).2.2 = 0
          · rw [if_pos h3, if_pos h3]
            have hp := fst3_pos h3
            have hl2 : ((b :: r).drop (fst3 (b :: r)).2.1).length ≤ r.length := by rw [List.length_drop, List.length_cons]; omega
            exact ih _ (by omega) f g (by omega) (by omega) _ _ _
          · rw [if_neg h3, if_neg h3]
        · rw [if_pos rfl, if_pos rfl]; exact ih r (by omega) f g (by omega) (by omega) _ _ _
theorem run_nil (line : Nat) (com : Bool) (acc : List Tok) : run [] line com acc = ⟨acc, 0, 0⟩ := rfl
theorem run_lf (r : List UInt8) (line : Nat) (com : Bool) (acc : List Tok) : run (10 :: r) line com acc = run r (line + 1) false acc := by
  unfold run
  rw [List.length_cons]
  show scn (r.length + 1) (10 :: r) line com acc = _
  rw [scn, if_pos rfl]
theorem run_skip {b : UInt8} (r : List UInt8) (line : Nat) (com : Bool) (acc : List Tok) (h1 : ¬ b = 10) (h2 : (com || b == 37 || isSep b) = true) : run (b :: r) line com acc = run r line (com || b == 37) acc := by
  unfold run
  rw [List.length_cons, scn, if_neg h1, h2, if_pos rfl]
theorem run_tok {b : UInt8} (r : List UInt8) (line : Nat) (com : Bool) (acc : List Tok) (h1 : ¬ b = 10) (h2 : (com || b == 37 || isSep b) = false) (h3 : (fst3 (b :: r)).2.2 = 0) :
    run (b :: r) line com acc = run ((b :: r).drop (fst3 (b :: r)).2.1) line false (acc ++ [⟨(fst3 (b :: r)).1, tokText (fst3 (b :: r)).1 (fst3 (b :: r)).2.1 (b :: r), line⟩]) := by
  unfold run
  have hp := fst3_pos h3
  have hl2 : ((b :: r).drop (fst3 (b :: r)).2.1).length ≤ r.length := by rw [List.length_drop, List.length_cons]; omega
  rw [List.length_cons, scn, if_neg h1, h2, if_neg (by decide), if_pos h3]
  exact scn_fuel r.length _ hl2 _ _ hl2 (Nat.le_refl _) _ _ _
theorem run_err {b : UInt8} (r : List UInt8) (line : Nat) (com : Bool) (acc : List Tok) (h1 : ¬ b = 10) (h2 : (com || b == 37 || isSep b) = false) (h3 : ¬ (fst3 (b :: r)).2.2 = 0) :
    run (b :: r) line com acc = ⟨[], line, (fst3 (b :: r)).2.2⟩ := by
  unfold run
  rw [List.length_cons, scn, if_neg h1, h2, if_neg (by decide), if_neg h3]

/-- White space is passed in one go. -/
theorem run_space (l : List UInt8) : ∀ (line : Nat) (acc : List Tok), run l line false acc = run (l.drop (pre (by8 kSpc) l)) (line + (l.take (pre (by8 kSpc) l)).count 10) false acc := by
  induction l with
  | nil => intro line acc; simp [pre]
  | cons b r ih =>
    intro line acc
    rw [pre_cons]
    cases hb : by8 kSpc b
    · simp
    · rw [if_pos rfl, List.drop_succ_cons, List.take_succ_cons]
      by_cases h : b = 10
      · subst h
        rw [run_lf, ih, List.count_cons_self]
        congr 1; omega
      · have hs : isSep b = true := by
          have : b.toNat = 32 ∨ b.toNat = 9 ∨ b.toNat = 13 ∨ b.toNat = 10 := by simpa [by8, kSpc, or_assoc] using hb
          have h10 : b.toNat ≠ 10 := fun e => h (UInt8.toNat_inj.1 e)
          rcases this with e | e | e | e
          · have : b = 32 := UInt8.toNat_inj.1 e
            subst this; rfl
          · have : b = 9 := UInt8.toNat_inj.1 e
            subst this; rfl
          · have : b = 13 := UInt8.toNat_inj.1 e
            subst this; rfl
          · exact absurd e h10
        have h37 : (b == 37) = false := by
          rw [beq_eq_false_iff_ne]; intro e; subst e; exact absurd hs (by decide)
        rw [run_skip r line false acc h (by rw [hs]; simp), h37, List.count_cons_of_ne h]
        exact ih line acc
/-- A comment is passed in one go. -/
theorem run_com (l : List UInt8) : ∀ (line : Nat) (acc : List Tok), run l line true acc = run (l.drop (pre (by8 kCom) l)) line false acc ∧ (l.take (pre (by8 kCom) l)).count 10 = 0 := by
  induction l with
  | nil => intro line acc; exact ⟨rfl, rfl⟩
  | cons b r ih =>
    intro line acc
    rw [pre_cons]
    by_cases h : b = 10
    · subst h
      have : by8 kCom 10 = false := by decide
      rw [this, if_neg (by decide)]
      exact ⟨by rw [List.drop_zero, run_lf, run_lf], rfl⟩
    · have : by8 kCom b = true := by
        simp only [by8, kCom, bne_iff_ne]
        exact fun e => h (UInt8.toNat_inj.1 e)
      rw [this, if_pos rfl, List.drop_succ_cons, List.take_succ_cons, List.count_cons_of_ne h, run_skip r line true acc h (by simp)]
      exact ih line acc
theorem run_sep (l : List UInt8) (line : Nat) (acc : List Tok) : run l line false acc = run (l.drop (sepLen l)) (line + (l.take (sepLen l)).count 10) false acc := by
  unfold sepLen
  by_cases h : l.headD 0 = 37
  · rw [if_pos h]
    cases l with
    | nil => simp [pre]
    | cons b r =>
      simp only [List.headD_cons] at h
      subst h
      have : by8 kCom 37 = true := by decide
      have h2 := run_com r line acc
      rw [pre_cons, this, if_pos rfl, List.drop_succ_cons, List.take_succ_cons, List.count_cons_of_ne (by decide), h2.2, run_skip r line false acc (by decide) (by simp)]
      exact h2.1
  · rw [if_neg h]; exact run_space l line acc
/-- Where nothing is passed, a token begins. -/
theorem sep_none {b : UInt8} {r : List UInt8} (h : sepLen (b :: r) = 0) : ¬ b = 10 ∧ (b == 37 || isSep b) = false := by
  unfold sepLen at h
  by_cases h37 : b = 37
  · rw [if_pos (show (b :: r).headD 0 = 37 from h37), h37, pre_cons, if_pos (by decide)] at h; omega
  · rw [if_neg (show ¬ (b :: r).headD 0 = 37 from h37), pre_cons] at h
    cases hb : by8 kSpc b
    · have : ¬ (b.toNat = 32 ∨ b.toNat = 9 ∨ b.toNat = 13 ∨ b.toNat = 10) := by
        intro e
        have : by8 kSpc b = true := by simpa [by8, kSpc, or_assoc] using e
        rw [hb] at this; cases this
      refine ⟨fun e => this (by rw [e]; decide), ?_⟩
      rw [Bool.or_eq_false_iff]
      refine ⟨by rw [beq_eq_false_iff_ne]; exact h37, ?_⟩
      rw [Bool.eq_false_iff]
      intro e
      simp only [isSep, Bool.or_eq_true, beq_iff_eq] at e
      rcases e with (e | e) | e <;> exact this (by rw [e]; decide)
    · rw [hb, if_pos rfl] at h; omega
end Go.Proofs.YtlnmcegnnncepaaDoor
