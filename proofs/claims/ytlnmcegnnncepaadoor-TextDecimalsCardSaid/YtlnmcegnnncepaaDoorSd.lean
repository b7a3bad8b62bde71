/- Plain: Number and Decimal are inverse to each other. -/
import Derived.Test.YtlnmcegnnncepaaDoorTh
namespace Go.Proofs.YtlnmcegnnncepaaDoor

theorem dd_small {u : Nat} (h : u < 10) : Lib.decDigits u = [dgb u] := by
  rw [Lib.decDigits, dif_pos h]
  unfold dgb
  rw [Nat.mod_eq_of_lt h]
theorem dd_big {u : Nat} (h : ¬ u < 10) : Lib.decDigits u = Lib.decDigits (u / 10) ++ [dgb u] := by
  rw [Lib.decDigits, dif_neg h]; rfl
theorem dval_snoc (l : List UInt8) (b : UInt8) : dval 0 (l ++ [b]) = dval 0 l * 10 + (b.toNat - 48) := by
  unfold dval
  rw [List.foldl_append]
  simp only [List.foldl_cons, List.foldl_nil, dstep]
theorem dval_one (b : UInt8) : dval 0 [b] = b.toNat - 48 := by
  unfold dval
  simp only [List.foldl_cons, List.foldl_nil, dstep]
  omega
theorem dd_ne (u : Nat) : Lib.decDigits u ≠ [] := by
  by_cases h : u < 10
  · rw [dd_small h]; simp
  · rw [dd_big h]; simp
theorem dd_val (u : Nat) : dval 0 (Lib.decDigits u) = u := by
  induction u using Nat.strongRecOn with
  | _ u ih =>
    by_cases h : u < 10
    · rw [dd_small h, dval_one, dgb_nat]; omega
    · rw [dd_big h, dval_snoc, ih (u / 10) (by omega), dgb_nat]; omega
theorem dgb_dig (u : Nat) : by8 kDig (dgb u) = true := by
  unfold by8
  rw [dgb_nat]
  simp [kDig]; omega
theorem dd_all (u : Nat) : (Lib.decDigits u).all (by8 kDig) = true := by
  induction u using Nat.strongRecOn with
  | _ u ih =>
    by_cases h : u < 10
    · rw [dd_small h]; simp [dgb_dig]
    · rw [dd_big h, List.all_append, ih (u / 10) (by omega)]; simp [dgb_dig]
theorem dd_head (u : Nat) (h0 : u ≠ 0) : (Lib.decDigits u).head? ≠ some 48 := by
  induction u using Nat.strongRecOn with
  | _ u ih =>
    by_cases h : u < 10
    · rw [dd_small h]
      intro e
      have e2 : dgb u = 48 := by simpa using e
      have := congrArg UInt8.toNat e2
      rw [dgb_nat] at this
      have e3 : (48 : UInt8).toNat = 48 := rfl
      omega
    · have hi := ih (u / 10) (by omega) (by omega)
      rw [dd_big h]
      have hne := dd_ne (u / 10)
      cases hl : Lib.decDigits (u / 10) with
      | nil => exact absurd hl hne
      | cons b r => rw [hl] at hi; simpa using hi
theorem dval_pos {l : List UInt8} (hall : l.all (by8 kDig) = true) (hne : l ≠ []) (hh : l.head? ≠ some 48) : 0 < dval 0 l := by
  cases l with
  | nil => exact absurd rfl hne
  | cons b r =>
    rw [List.all_cons, Bool.and_eq_true] at hall
    have hb := dig_of hall.1
    have hb2 : b.toNat ≠ 48 := fun e => hh (by
      have : b = 48 := UInt8.toNat_inj.1 e
      rw [this]; rfl)
    rw [dval_cons]
    have := dval_ge r (dstep 0 b)
    unfold dstep at this ⊢
    omega
/-- Digits without a zero at the head are the numeral of what they spell. -/
theorem dd_back (n : Nat) : ∀ (l : List UInt8), l.length = n → l.all (by8 kDig) = true → l ≠ [] → l.head? ≠ some 48 → Lib.decDigits (dval 0 l) = l := by
  induction n with
  | zero => intro l hl _ hne; exact absurd (List.eq_nil_of_length_eq_zero hl) hne
  | succ n ih =>
    intro l hl hall hne hh
    obtain ⟨r, b, rfl⟩ : ∃ r b, l = r ++ [b] := ⟨l.dropLast, l.getLast hne, (List.dropLast_concat_getLast hne).symm⟩
    rw [List.all_append, Bool.and_eq_true] at hall
    have hb := dig_of (by simpa using hall.2 : by8 kDig b = true)
    have hdg : dgb (b.toNat - 48) = b := by
      apply UInt8.toNat_inj.1
      rw [dgb_nat]; omega
    by_cases hr : r = []
    · subst hr
      rw [List.nil_append, dval_one, dd_small (by omega), hdg]
    · have hh2 : r.head? ≠ some 48 := by
        cases r with
        | nil => exact absurd rfl hr
        | cons c q => simpa using hh
      have hrl : r.length = n := by simp at hl; exact hl
      have h1 := ih r hrl hall.1 hr hh2
      have h2 := dval_pos hall.1 hr hh2
      rw [dval_snoc, dd_big (by omega)]
      have e1 : (dval 0 r * 10 + (b.toNat - 48)) / 10 = dval 0 r := by omega
      have e2 : dgb (dval 0 r * 10 + (b.toNat - 48)) = b := by
        apply UInt8.toNat_inj.1
        rw [dgb_nat]; omega
      rw [e1, e2, h1]
theorem head_dig {l : List UInt8} (hall : l.all (by8 kDig) = true) : l.head? ≠ some 45 := by
  cases l with
  | nil => simp
  | cons b r =>
    rw [List.all_cons, Bool.and_eq_true] at hall
    have hb := dig_of hall.1
    intro e
    have e2 : b = 45 := by simpa using e
    subst e2
    exact absurd hb.1 (by decide)

/-- The numeral of a number spells it. -/
theorem num_itoa (n : Int) (h1 : -9223372036854775808 ≤ n) (h2 : n ≤ 9223372036854775807) : numV (Lib.itoa n) = n ∧ numE (Lib.itoa n) = 0 := by
  by_cases hn : n < 0
  · obtain ⟨N, rfl⟩ : ∃ N : Nat, n = -((N : Nat) : Int) := ⟨n.natAbs, by omega⟩
    have hi : Lib.itoa (-((N : Nat) : Int)) = 45 :: Lib.decDigits N := by unfold Lib.itoa; rw [if_pos hn]; simp
    rw [hi]
    have hd : dg (45 :: Lib.decDigits N) = Lib.decDigits N := rfl
    have hdec : isDec (45 :: Lib.decDigits N) = true := by
      unfold isDec
      rw [hd, dd_all N]
      have e1 : (Lib.decDigits N).isEmpty = false := by
        cases hl : Lib.decDigits N with
        | nil => exact absurd hl (dd_ne N)
        | cons b r => rfl
      have e2 : ((Lib.decDigits N).head? != some 48) = true := by rw [bne_iff_ne]; exact dd_head N (by omega)
      rw [e1, e2]; simp
    have hm : (45 :: Lib.decDigits N).head? = some 45 := rfl
    unfold numV numE
    rw [hdec, if_pos hm, if_pos hm, hd, dd_val, if_pos (by omega : N ≤ 9223372036854775808)]
    exact ⟨rfl, by simp; omega⟩
  · obtain ⟨N, rfl⟩ : ∃ N : Nat, n = ((N : Nat) : Int) := ⟨n.natAbs, by omega⟩
    have hi : Lib.itoa ((N : Nat) : Int) = Lib.decDigits N := by unfold Lib.itoa; rw [if_neg hn]; rfl
    rw [hi]
    have hm : ¬ (Lib.decDigits N).head? = some 45 := head_dig (dd_all N)
    have hd : dg (Lib.decDigits N) = Lib.decDigits N := by unfold dg; rw [if_neg hm]
    have hdec : isDec (Lib.decDigits N) = true := by
      unfold isDec
      rw [hd, dd_all N]
      have e1 : (Lib.decDigits N).isEmpty = false := by
        cases hl : Lib.decDigits N with
        | nil => exact absurd hl (dd_ne N)
        | cons b r => rfl
      by_cases h0 : N = 0
      · subst h0
        rw [e1, dd_small (by decide)]; rfl
      · have e2 : ((Lib.decDigits N).head? != some 48) = true := by rw [bne_iff_ne]; exact dd_head N h0
        rw [e1, e2]; simp
    unfold numV numE
    rw [hdec, if_neg hm, if_neg hm, hd, dd_val, if_pos (by omega : N < 9223372036854775808)]
    exact ⟨rfl, by simp; omega⟩
/-- A numeral is what is written of the number that it spells. -/
theorem itoa_num {l : List UInt8} (h : numE l = 0) : Lib.itoa (numV l) = l := by
  have hdec : isDec l = true := by
    cases hd : isDec l
    · rw [(num_bad hd).2] at h; exact absurd h (by decide)
    · rfl
  have hdec2 := hdec
  unfold isDec at hdec2
  simp only [Bool.and_eq_true, Bool.not_eq_true', Bool.or_eq_true, beq_iff_eq, bne_iff_ne] at hdec2
  obtain ⟨⟨h1, h2⟩, h3⟩ := hdec2
  have hne : dg l ≠ [] := fun e => by rw [e] at h1; cases h1
  by_cases hm : l.head? = some 45
  · obtain ⟨r, rfl⟩ := head45.1 hm
    have hd : dg (45 :: r) = r := rfl
    rw [hd] at h2 h3 hne
    have hh : r.head? ≠ some 48 := by
      rcases h3 with h3 | h3
      · exact absurd h3 (by intro e; cases e)
      · exact h3
    have hpos := dval_pos h2 hne hh
    unfold numE at h
    unfold numV
    rw [hdec, if_pos hm, hd] at h
    rw [hdec, if_pos hm, hd]
    by_cases hb : dval 0 r ≤ 9223372036854775808
    · rw [if_pos hb]
      have : Lib.itoa (-((dval 0 r : Nat) : Int)) = 45 :: Lib.decDigits (dval 0 r) := by unfold Lib.itoa; rw [if_pos (by omega)]; simp
      show Lib.itoa (-((dval 0 r : Nat) : Int)) = _
      rw [this, dd_back _ r rfl h2 hne hh]
    · rw [if_neg hb] at h; exact absurd h (by decide)
  · have hd : dg l = l := by unfold dg; rw [if_neg hm]
    rw [hd] at h2 h3 hne
    unfold numE at h
    unfold numV
    rw [hdec, if_neg hm, hd] at h
    rw [hdec, if_neg hm, hd]
    by_cases hb : dval 0 l < 9223372036854775808
    · rw [if_pos hb]
      have : Lib.itoa ((dval 0 l : Nat) : Int) = Lib.decDigits (dval 0 l) := by unfold Lib.itoa; rw [if_neg (by omega)]; rfl
      show Lib.itoa ((dval 0 l : Nat) : Int) = _
      rw [this]
      rcases h3 with h3 | h3
      · subst h3
        have e0 : dval 0 [48] = 0 := by rw [dval_one]; rfl
        rw [e0, dd_small (by decide)]; rfl
      · exact dd_back _ l rfl h2 hne h3
    · rw [if_neg hb] at h; exact absurd h (by decide)
end Go.Proofs.YtlnmcegnnncepaaDoor
