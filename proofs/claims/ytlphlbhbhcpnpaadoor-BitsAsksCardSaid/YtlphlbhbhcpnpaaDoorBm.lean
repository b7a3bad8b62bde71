/- The laws of sets, on lists of words; the contracts in that spelling. -/
import Derived.Test.YtlphlbhbhcpnpaaDoorBe
namespace Go.Proofs.YtlphlbhbhcpnpaaDoor
open Go.RowKit

def WB (xs : List Nat) : Prop := ∀ i, wd xs i < 18446744073709551616
def SAnd (xs ys : List Nat) : List Nat := nrm (min xs.length ys.length) (andF xs ys)
def SOr (xs ys : List Nat) : List Nat := nrm (max xs.length ys.length) (orF xs ys)
def SMinus (xs ys : List Nat) : List Nat := nrm xs.length (minF xs ys)

theorem nrm_le (m : Nat) (f : Nat → Nat) : (nrm m f).length ≤ m := by rw [nrm_len]; exact nlen_le _ _
theorem SAnd_le {xs ys : List Nat} (h : xs.length ≤ 80) : (SAnd xs ys).length ≤ 80 := by have := nrm_le (min xs.length ys.length) (andF xs ys); unfold SAnd; omega
theorem SOr_le {xs ys : List Nat} (h : xs.length ≤ 80) (h' : ys.length ≤ 80) : (SOr xs ys).length ≤ 80 := by have := nrm_le (max xs.length ys.length) (orF xs ys); unfold SOr; omega
theorem SMinus_le {xs ys : List Nat} (h : xs.length ≤ 80) : (SMinus xs ys).length ≤ 80 := by have := nrm_le xs.length (minF xs ys); unfold SMinus; omega

theorem wd_SAnd (xs ys : List Nat) (i : Nat) : wd (SAnd xs ys) i = wd xs i &&& wd ys i := by
  unfold SAnd
  rw [wd_nrm]
  split
  · rfl
  · rcases Nat.lt_or_ge i xs.length with h | h
    · rw [wd_out ys i (by omega)]; simp
    · rw [wd_out xs i (by omega)]; simp
theorem wd_SOr (xs ys : List Nat) (i : Nat) : wd (SOr xs ys) i = wd xs i ||| wd ys i := by
  unfold SOr
  rw [wd_nrm]
  split
  · rfl
  · rw [wd_out ys i (by omega), wd_out xs i (by omega)]; rfl
theorem wd_SMinus (xs ys : List Nat) (i : Nat) : wd (SMinus xs ys) i = nat_not (wd xs i) (wd ys i) := by
  unfold SMinus
  rw [wd_nrm]
  split
  · rfl
  · rw [wd_out xs i (by omega)]; simp [nat_not]

theorem WB.and {xs ys : List Nat} (h : WB xs) : WB (SAnd xs ys) := fun i => by rw [wd_SAnd]; exact and_lt (h i)
theorem WB.or {xs ys : List Nat} (h : WB xs) (h' : WB ys) : WB (SOr xs ys) := fun i => by rw [wd_SOr]; exact or_lt (h i) (h' i)
theorem WB.minus {xs ys : List Nat} (h : WB xs) : WB (SMinus xs ys) := fun i => by rw [wd_SMinus]; exact not_lt' (h i)

theorem bit_SAnd (xs ys : List Nat) (i : Nat) : bit (SAnd xs ys) i = (bit xs i && bit ys i) := by
  unfold bit; rw [wd_SAnd, Nat.testBit_and]
theorem bit_SOr (xs ys : List Nat) (i : Nat) : bit (SOr xs ys) i = (bit xs i || bit ys i) := by
  unfold bit; rw [wd_SOr, Nat.testBit_or]
theorem testBit_not {a b j : Nat} (hb : b < 18446744073709551616) (hj : j < 64) : (nat_not a b).testBit j = (a.testBit j && !b.testBit j) := by
  unfold nat_not
  rw [Nat.testBit_and, show 18446744073709551615 - b = 2 ^ 64 - (b + 1) by omega, Nat.testBit_two_pow_sub_succ hb]
  simp [hj]
theorem bit_SMinus {xs ys : List Nat} (h : WB ys) (i : Nat) : bit (SMinus xs ys) i = (bit xs i && !bit ys i) := by
  unfold bit; rw [wd_SMinus, testBit_not (h _) (Nat.mod_lt _ (by decide))]

theorem nAnd (xs ys : List Nat) : Norm (SAnd xs ys) := norm_nrm _ _
theorem nOr (xs ys : List Nat) : Norm (SOr xs ys) := norm_nrm _ _
theorem nMinus (xs ys : List Nat) : Norm (SMinus xs ys) := norm_nrm _ _

theorem same_of {xs ys : List Nat} (hx : Norm xs) (hy : Norm ys) (bx : WB xs) (by_ : WB ys) (h : ∀ i, bit xs i = bit ys i) : sameB xs ys = true := by
  simp only [sameB, decide_eq_true_eq]; exact set_ext hx hy bx by_ h

theorem sub_of {xs ys : List Nat} (hx : WB xs) (hy : WB ys) (n : Nat) (h : ∀ i, bit xs i = true → bit ys i = true) : subB n xs ys = true := by
  refine subB_true fun k _ => ?_
  apply Nat.eq_of_testBit_eq
  intro j
  rw [Nat.zero_testBit]
  by_cases hj : j < 64
  · rw [testBit_not (hy _) hj]
    have := h (64 * k + j)
    unfold bit at this
    rw [show (64 * k + j) / 64 = k by omega, show (64 * k + j) % 64 = j by omega] at this
    cases hb : (wd xs k).testBit j
    · simp
    · rw [this hb]; simp
  · exact Nat.testBit_lt_two_pow (Nat.lt_of_lt_of_le (not_lt' (hx k)) (Nat.pow_le_pow_right (n := 2) (by decide) (show 64 ≤ j by omega)))

theorem eq_of {xs ys : List Nat} (hx : WB xs) (hy : WB ys) (h : ∀ i, bit xs i = bit ys i) : (subB xs.length xs ys && subB ys.length ys xs) = true := by
  rw [sub_of hx hy _ (fun i hi => by rw [← h i]; exact hi), sub_of hy hx _ (fun i hi => by rw [h i]; exact hi)]; rfl

theorem filter_sum {α : Type} (p q : α → Bool) : ∀ l : List α, (l.filter fun x => p x || q x).length + (l.filter fun x => p x && q x).length = (l.filter p).length + (l.filter q).length
  | [] => rfl
  | a :: l => by
    have ih := filter_sum p q l
    cases hp : p a <;> cases hq : q a <;> simp [List.filter_cons, hp, hq] <;> omega

theorem lst_more (xs : List Nat) (k d : Nat) (h : 64 * xs.length ≤ k) : lst xs (k + d) = lst xs k := by
  induction d with
  | zero => rfl
  | succ d ih =>
    rw [← Nat.add_assoc, lst_no (bit_out _ _ (by omega)), ih]

theorem cnt_all {xs : List Nat} (hb : WB xs) (h : xs.length ≤ 80) : cnt xs xs.length = (lst xs 5120).length := by
  rw [cnt_lst xs hb, ← lst_more xs (64 * xs.length) (5120 - 64 * xs.length) (Nat.le_refl _)]
  congr 2
  omega
theorem cnt_sum {xs ys : List Nat} (hx : WB xs) (hy : WB ys) (lx : xs.length ≤ 80) (ly : ys.length ≤ 80) :
    cnt (SOr xs ys) (SOr xs ys).length + cnt (SAnd xs ys) (SAnd xs ys).length = cnt xs xs.length + cnt ys ys.length := by
  rw [cnt_all (hx.or hy) (SOr_le lx ly), cnt_all hx.and (SAnd_le lx), cnt_all hx lx, cnt_all hy ly]
  have := filter_sum (bit xs) (bit ys) (List.range 5120)
  unfold lst
  rw [show bit (SOr xs ys) = fun i => bit xs i || bit ys i from funext (bit_SOr xs ys), show bit (SAnd xs ys) = fun i => bit xs i && bit ys i from funext (bit_SAnd xs ys)]
  exact this

/-- A slice that reads as a short list; its length is the list's. -/
def L64 (w : World) (a : Option Addr) (cap : Nat) (xs : List Nat) : Prop := Is64 w a xs.length cap xs ∧ xs.length ≤ 80
theorem L64.wb {w : World} {a : Option Addr} {cap : Nat} {xs : List Nat} (h : L64 w a cap xs) : WB xs := h.1.lt
theorem L64.below {w w' : World} {a : Option Addr} {cap : Nat} {xs : List Nat} (h : L64 w a cap xs) (hb : Below w.heap.size w w') : L64 w' a cap xs := ⟨h.1.below hb, h.2⟩
theorem L64.nil_len {w : World} {a : Option Addr} {cap : Nat} {xs : List Nat} (h : L64 w a cap xs) : xs.length ≤ 80 := h.2

def RetL (xs : List Nat) (w : World) (e : Ending) (w' : World) : Prop :=
  ∃ a cap, e = .returned (.slice a xs.length cap) ∧ L64 w' a cap xs ∧ Below w.heap.size w w'
theorem Ret64.l {xs : List Nat} {w w' : World} {e : Ending} (h : Ret64 xs w e w') (hl : xs.length ≤ 80) : RetL xs w e w' := by
  obtain ⟨a, cap, he, h1, h2⟩ := h.eq xs rfl
  exact ⟨a, cap, he, ⟨h1, hl⟩, h2⟩

section
variable {w : World} {a1 a2 : Option Addr} {cap1 cap2 : Nat} {xs ys : List Nat} (h1 : L64 w a1 cap1 xs) (h2 : L64 w a2 cap2 ys)
include h1 h2
theorem And_l : Calls Tryd.prog 40 #[.slice a1 xs.length cap1, .slice a2 ys.length cap2] w (RetL (SAnd xs ys) w) :=
  (And_any w a1 a2 _ _ cap1 cap2 xs ys h1.1 h2.1 (by have := h1.2; omega) (by have := h2.2; omega)).mono fun _ _ h => Ret64.l h (SAnd_le h1.2)
theorem Or_l : Calls Tryd.prog 42 #[.slice a1 xs.length cap1, .slice a2 ys.length cap2] w (RetL (SOr xs ys) w) :=
  (Or_any w a1 a2 _ _ cap1 cap2 xs ys h1.1 h2.1 (by have := h1.2; omega) (by have := h2.2; omega)).mono fun _ _ h => Ret64.l h (SOr_le h1.2 h2.2)
theorem Minus_l : Calls Tryd.prog 44 #[.slice a1 xs.length cap1, .slice a2 ys.length cap2] w (RetL (SMinus xs ys) w) :=
  (Minus_any w a1 a2 _ _ cap1 cap2 xs ys h1.1 h2.1 (by have := h1.2; omega) (by have := h2.2; omega)).mono fun _ _ h => Ret64.l h (SMinus_le h1.2)
theorem rAnd_l : Calls Tryd.prog 41 #[.slice a1 xs.length cap1, .slice a2 ys.length cap2] w (RetL (SAnd xs ys) w) :=
  (rAnd_any w a1 a2 _ _ cap1 cap2 xs ys h1.1 h2.1 (by have := h1.2; omega) (by have := h2.2; omega)).mono fun e w' h => by
    have e1 : nrm xs.length (andF xs ys) = SAnd xs ys := by
      refine ext_wd (Nat.le_antisymm (norm_len (norm_nrm _ _) fun i => ?_) (norm_len (nAnd _ _) fun i => ?_)) fun i _ => ?_
      all_goals
        rw [wd_SAnd, wd_nrm]
        split
        · rfl
        · rw [wd_out xs i (by omega)]; simp
    rw [e1] at h
    exact Ret64.l h (SAnd_le h1.2)
theorem rOr_l : Calls Tryd.prog 43 #[.slice a1 xs.length cap1, .slice a2 ys.length cap2] w (RetL (SOr xs ys) w) :=
  (rOr_any w a1 a2 _ _ cap1 cap2 xs ys h1.1 h2.1 (by have := h1.2; omega) (by have := h2.2; omega)).mono fun _ _ h => Ret64.l h (SOr_le h1.2 h2.2)
theorem rMinus_l : Calls Tryd.prog 45 #[.slice a1 xs.length cap1, .slice a2 ys.length cap2] w (RetL (SMinus xs ys) w) :=
  (rMinus_any w a1 a2 _ _ cap1 cap2 xs ys h1.1 h2.1 (by have := h1.2; omega) (by have := h2.2; omega)).mono fun _ _ h => Ret64.l h (SMinus_le h1.2)
theorem Same_l (hs : sameB xs ys = true) : Calls Tryd.prog 36 #[.slice a1 xs.length cap1, .slice a2 ys.length cap2] w fun e w' => e = .returned (.bool true) ∧ Below w.heap.size w w' :=
  Same_val true w a1 a2 _ _ cap1 cap2 xs ys h1.1 h2.1 hs
theorem Equal_l (hs : (subB xs.length xs ys && subB ys.length ys xs) = true) : Calls Tryd.prog 50 #[.slice a1 xs.length cap1, .slice a2 ys.length cap2] w fun e w' => e = .returned (.bool true) ∧ w = w' :=
  Equal_val true w a1 a2 _ _ cap1 cap2 xs ys h1.1 h2.1 hs
end
end Go.Proofs.YtlphlbhbhcpnpaaDoor
