/- Walks over package text and its reference: Name, Feature, Word. -/
import Derived.Test.YtlnmcegnnncepaaDoorTr
namespace Go.Proofs.YtlnmcegnnncepaaDoor
open Go.RowKit

theorem Name_any (s : ByteArray) (w : World) (hs : s.size ≤ maxLen) :
    Calls Tryd.prog 16 #[.string s] w fun e w' => e = .returned (.bool (isNam kLow s.data.toList)) ∧ Below w.heap.size w w' := by
  have HS := Lib.hid hs
  clear hs
  go_enter Tryd.func16, Tryd.ntmps16
  go_wp2_with fail
  refine (named_any _ kLow isLower_tells isLower_enters kLow_hi s w HS.out).mono ?_
  rintro e w' ⟨rfl, hb⟩
  go_wp2
  go_ret
  exact ⟨rfl, hb⟩
theorem rName_any (s : ByteArray) (w : World) (hs : s.size ≤ maxLen) :
    Calls Tryd.prog 17 #[.string s] w fun e w' => e = .returned (.bool (isNam kLow s.data.toList)) ∧ w = w' := by
  have HS := Lib.hid hs
  clear hs
  have hK : ∀ c, kLow c = true → kDig c = false ∧ c ≠ 45 := fun c h => by simp [kLow, kDig] at h ⊢; omega
  have HE := Lib.hid (rNam_eq kLow hK s)
  clear hK
  go_enter Tryd.func17, Tryd.ntmps17
  go_wp2_with fail
  refine (rnamed_any false s w HS.out).mono ?_
  rintro e w' ⟨rfl, rfl⟩
  go_wp2
  go_ret
  exact ⟨by rw [← HE.out]; rfl, rfl⟩
theorem Feature_any (s : ByteArray) (w : World) (hs : s.size ≤ maxLen) :
    Calls Tryd.prog 18 #[.string s] w fun e w' => e = .returned (.bool (isNam kUp s.data.toList)) ∧ Below w.heap.size w w' := by
  have HS := Lib.hid hs
  clear hs
  go_enter Tryd.func18, Tryd.ntmps18
  go_wp2_with fail
  refine (named_any _ kUp isUpper_tells isUpper_enters kUp_hi s w HS.out).mono ?_
  rintro e w' ⟨rfl, hb⟩
  go_wp2
  go_ret
  exact ⟨rfl, hb⟩
theorem rFeature_any (s : ByteArray) (w : World) (hs : s.size ≤ maxLen) :
    Calls Tryd.prog 19 #[.string s] w fun e w' => e = .returned (.bool (isNam kUp s.data.toList)) ∧ w = w' := by
  have HS := Lib.hid hs
  clear hs
  have hK : ∀ c, kUp c = true → kDig c = false ∧ c ≠ 45 := fun c h => by simp [kUp, kDig] at h ⊢; omega
  have HE := Lib.hid (rNam_eq kUp hK s)
  clear hK
  go_enter Tryd.func19, Tryd.ntmps19
  go_wp2_with fail
  refine (rnamed_any true s w HS.out).mono ?_
  rintro e w' ⟨rfl, rfl⟩
  go_wp2
  go_ret
  exact ⟨by rw [← HE.out]; rfl, rfl⟩

/-- Whether a string is a word. -/
def isWrd (s : ByteArray) : Bool := decide (0 < s.size) && decide (s.size ≤ 32) && (pre (by8 kWrd) s.data.toList == s.size)

theorem empty_of {s : ByteArray} (h : s.size = 0) : s = ByteArray.empty := by
  obtain ⟨⟨l⟩⟩ := s
  simp [ByteArray.size] at h
  subst h
  rfl
theorem ne_empty {s : ByteArray} (h : 0 < s.size) : s.toList.isEmpty = false := by
  rw [Lib.toList_data]
  cases hc : s.data.toList with
  | nil => have := congrArg List.length hc; simp only [Array.length_toList, List.length_nil] at this; change s.size = 0 at this; omega
  | cons b l => rfl

theorem Word_any (s : ByteArray) (w : World) (hs : s.size ≤ maxLen) :
    Calls Tryd.prog 20 #[.string s] w fun e w' => e = .returned (.bool (isWrd s)) ∧ Below w.heap.size w w' := by
  by_cases h0 : s.size = 0
  · obtain rfl := empty_of h0
    clear h0 hs
    go_enter Tryd.func20, Tryd.ntmps20
    go_wp2
    go_ret
    exact ⟨rfl, Below.refl _ _⟩
  have hp : 0 < s.size := by omega
  have hne := ne_empty hp
  have HS := Lib.hid hs
  unfold maxLen at hs
  obtain ⟨n, hn⟩ : ∃ n, pre (by8 kWrd) s.data.toList = n := ⟨_, rfl⟩
  have HN := Lib.hid hn
  have e1 : (((n : Nat) : Int) == ((s.size : Nat) : Int)) = (n == s.size) := eq_cast n s.size
  have hres : Hid (isWrd s = (decide (s.size ≤ 32) && (n == s.size))) := by
    show _ = _
    unfold isWrd
    rw [decide_eq_true hp, hn]; simp
  clear hn h0
  have e2 : decide (((s.size : Nat) : Int) ≤ 32) = decide (s.size ≤ 32) := le_cast1 s.size 32
  cases h1 : (n == s.size) <;> cases h2 : decide (s.size ≤ 32)
  all_goals
    rw [h1] at e1
    rw [h2] at e2
    have H1 := Lib.hid h1
    have H2 := Lib.hid h2
    clear h1
    go_enter Tryd.func20, Tryd.ntmps20
    go_wp2_with (go_at_call 58; refine (prefix_any _ kWrd (by8 kWrd) false inWord_tells inWord_enters (kind_low kWrd_hi) s _ HS.out).mono ?_; rw [HN.out]; rintro e w' ⟨rfl, hb⟩)
    go_ret
    first | exact ⟨by rw [hres.out, H1.out, H2.out]; rfl, hb⟩ | exact ⟨by rw [hres.out, H1.out, H2.out]; rfl, Below.refl _ _⟩

/-- The same by the reference: each byte by itself. -/
theorem wrd_all (s : ByteArray) : (pre (by8 kWrd) s.data.toList == s.size) = (List.range s.size).all fun i => kWrd (bn s i) := by
  rw [Bool.eq_iff_iff, beq_iff_eq, all_bn]
  have hsz : s.data.toList.length = s.size := by simp
  rw [← hsz]
  exact pre_all _ _

set_option maxRecDepth 100000 in
theorem rWord_any (s : ByteArray) (w : World) (hs : s.size ≤ maxLen) :
    Calls Tryd.prog 21 #[.string s] w fun e w' => e = .returned (.bool (isWrd s)) ∧ w = w' := by
  have HW := Lib.hid (wrd_all s)
  unfold maxLen at hs
  by_cases h0 : s.size = 0
  · obtain rfl := empty_of h0
    clear h0 hs
    go_enter Tryd.func21, Tryd.ntmps21
    go_wp2
    go_ret
    exact ⟨rfl, rfl⟩
  have hp : 0 < s.size := by omega
  by_cases h32 : 32 < s.size
  · have hf : Hid (isWrd s = false) := by
      show _ = _; unfold isWrd
      have : decide (s.size ≤ 32) = false := by simp; omega
      rw [this]; simp
    clear h0
    go_enter Tryd.func21, Tryd.ntmps21
    go_wp2
    go_ret
    exact ⟨by rw [hf.out]; rfl, rfl⟩
  clear h0
  have hq : s.size ≤ 32 := by omega
  go_enter Tryd.func21, Tryd.ntmps21
  go_wp2
  go_loop [3] (fun v => ∃ k : Nat, k ≤ s.size ∧ v = .int .i64 k ∧ Hid (∀ i, i < k → kWrd (bn s i) = true)) (fun v => s.size - (intOf v).toNat)
  case atStart => exact ⟨0, Nat.zero_le _, rfl, fun i hi => absurd hi (Nat.not_lt_zero _)⟩
  case round =>
    obtain ⟨k, hk, rfl, hr⟩ := hrel
    by_cases hlt : k < s.size
    · have hbk := bn_int s k hlt
      have hlk := bn_lt s k
      have hf : kWrd (bn s k) = false → isWrd s = false := fun hp => by
        unfold isWrd
        rw [HW.out]
        have : ((List.range s.size).all fun i => kWrd (bn s i)) = false := by
          rw [← Bool.not_eq_true, List.all_eq_true]
          intro h
          rw [h k (List.mem_range.2 hlt)] at hp
          cases hp
        rw [this]; simp
      have ht : kWrd (bn s k) = true → ∀ i, i < k + 1 → kWrd (bn s i) = true := fun hp i hi => by
        rcases Nat.lt_succ_iff_lt_or_eq.1 hi with h | h
        · exact hr.out i h
        · rw [h]; exact hp
      obtain ⟨n, hn⟩ : ∃ n, bn s k = n := ⟨_, rfl⟩
      rw [hn] at hbk hlk hf ht
      have HF := Lib.hid hf
      have HT := Lib.hid ht
      clear hn hr hf ht
      by_cases c1 : n < 33
      · have hff : Hid (isWrd s = false) := HF.out (by simp [kWrd, kPri]; omega)
        clear HF HT
        go_wp2
        go_ret
        exact ⟨by rw [hff.out]; rfl, rfl⟩
      by_cases c2 : 126 < n
      · have hff : Hid (isWrd s = false) := HF.out (by simp [kWrd, kPri]; omega)
        clear HF HT
        go_wp2
        go_ret
        exact ⟨by rw [hff.out]; rfl, rfl⟩
      have c1' : 33 ≤ n := by omega
      have c2' : n ≤ 126 := by omega
      clear c1 c2
      cases c3 : kUp n
      · have C3 := Lib.hid c3
        have e4 : (((n : Nat) : Int) == 34) = (n == 34) := eq_cast n 34
        have e5 : (((n : Nat) : Int) == 92) = (n == 92) := eq_cast n 92
        cases c4 : (n == 34)
        · cases c5 : (n == 92)
          · have htt : Hid (∀ i, i < k + 1 → kWrd (bn s i) = true) := HT.out (by
              simp at c4 c5
              simp [kWrd, kPri, c3, c4, c5]; omega)
            rw [c4] at e4
            rw [c5] at e5
            clear HF HT c3 c4 c5
            go_wp2_with (go_at_call 60; refine (tells8_val rupper_tells _ _ _ hlk C3.out).mono ?_; rintro e w' ⟨rfl, rfl⟩)
            go_round
            case rel => exact ⟨k + 1, by omega, by go_num, htt⟩
            case measure => simp [intOf]; omega
          · have hff : Hid (isWrd s = false) := HF.out (by simp at c5; subst c5; decide)
            rw [c4] at e4
            rw [c5] at e5
            clear HF HT c3 c4 c5
            go_wp2_with (go_at_call 60; refine (tells8_val rupper_tells _ _ _ hlk C3.out).mono ?_; rintro e w' ⟨rfl, rfl⟩)
            go_ret
            exact ⟨by rw [hff.out]; rfl, rfl⟩
        · have hff : Hid (isWrd s = false) := HF.out (by simp at c4; subst c4; decide)
          rw [c4] at e4
          clear HF HT c3 c4 e5
          go_wp2_with (go_at_call 60; refine (tells8_val rupper_tells _ _ _ hlk C3.out).mono ?_; rintro e w' ⟨rfl, rfl⟩)
          go_ret
          exact ⟨by rw [hff.out]; rfl, rfl⟩
      · have hff : Hid (isWrd s = false) := HF.out (by simp [kWrd, c3])
        have C3 := Lib.hid c3
        clear HF HT c3
        go_wp2_with (go_at_call 60; refine (tells8_val rupper_tells _ _ _ hlk C3.out).mono ?_; rintro e w' ⟨rfl, rfl⟩)
        go_ret
        exact ⟨by rw [hff.out]; rfl, rfl⟩
    · obtain rfl : k = s.size := by omega
      have ht : Hid (isWrd s = true) := by
        show _ = _
        unfold isWrd
        rw [HW.out]
        have : ((List.range s.size).all fun i => kWrd (bn s i)) = true := by
          rw [List.all_eq_true]; exact fun i hi => hr.out i (List.mem_range.1 hi)
        rw [this, decide_eq_true hp, decide_eq_true hq]; rfl
      clear hr
      go_wp2
      go_ret
      exact ⟨by rw [ht.out]; rfl, rfl⟩
end Go.Proofs.YtlnmcegnnncepaaDoor
