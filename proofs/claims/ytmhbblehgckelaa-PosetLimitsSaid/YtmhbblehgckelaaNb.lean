/- text.Name, as the reference has it. -/
import Derived.Test.YtmhbblehgckelaaNa
namespace Go.Proofs.Ytmhbblehgckelaa
open Go.RowKit

/-- The function f tells of every byte whether it is of the kind. -/
def Tells8 (f : FuncId) (K : Nat → Bool) : Prop := ∀ (c : Nat) (w : World), c ≤ 255 → Calls Try.prog f #[.int .u8 c] w fun e w' => e = .returned (.bool (K c)) ∧ w = w'
theorem tells8_val {f : FuncId} {K : Nat → Bool} (h : Tells8 f K) (b : Bool) (c : Nat) (w : World) (hc : c ≤ 255) (hb : K c = b) : Calls Try.prog f #[.int .u8 c] w fun e w' => e = .returned (.bool b) ∧ w = w' := hb ▸ h c w hc

theorem rlower_tells : Tells8 76 kLow := by
  intro c w _
  unfold kLow
  have e1 : decide ((97 : Int) ≤ ((c : Nat) : Int)) = decide (97 ≤ c) := le_cast1 97 c
  have e2 : decide (((c : Nat) : Int) ≤ 122) = decide (c ≤ 122) := le_cast1 c 122
  cases h1 : decide (97 ≤ c) <;> cases h2 : decide (c ≤ 122)
  all_goals
    rw [h1] at e1
    rw [h2] at e2
    clear h1 h2
    go_enter Try.func76, Try.ntmps76
    go_wp2
    go_ret
    exact ⟨rfl, rfl⟩
theorem rupper_tells : Tells8 75 kUp := by
  intro c w _
  unfold kUp
  have e1 : decide ((65 : Int) ≤ ((c : Nat) : Int)) = decide (65 ≤ c) := le_cast1 65 c
  have e2 : decide (((c : Nat) : Int) ≤ 90) = decide (c ≤ 90) := le_cast1 c 90
  cases h1 : decide (65 ≤ c) <;> cases h2 : decide (c ≤ 90)
  all_goals
    rw [h1] at e1
    rw [h2] at e2
    clear h1 h2
    go_enter Try.func75, Try.ntmps75
    go_wp2
    go_ret
    exact ⟨rfl, rfl⟩
theorem rdigit_tells : Tells8 59 kDig := by
  intro c w _
  unfold kDig
  have e1 : decide ((48 : Int) ≤ ((c : Nat) : Int)) = decide (48 ≤ c) := le_cast1 48 c
  have e2 : decide (((c : Nat) : Int) ≤ 57) = decide (c ≤ 57) := le_cast1 c 57
  cases h1 : decide (48 ≤ c) <;> cases h2 : decide (c ≤ 57)
  all_goals
    rw [h1] at e1
    rw [h2] at e2
    clear h1 h2
    go_enter Try.func59, Try.ntmps59
    go_wp2
    go_ret
    exact ⟨rfl, rfl⟩

def kBig (big : Bool) : Nat → Bool := if big then kUp else kLow

set_option maxHeartbeats 1600000 in
theorem part_any (big : Bool) (c : Nat) (w : World) (hc : c ≤ 255) :
    Calls Try.prog 60 #[.int .u8 c, .bool big] w fun e w' => e = .returned (.bool (kPart (kBig big) c)) ∧ w = w' := by
  have e1 : (((c : Nat) : Int) == 45) = (c == 45) := eq_cast c 45
  cases hB : kPart (kBig big) c
  all_goals
    cases big
    · cases h1 : (c == 45) <;> cases h2 : kLow c <;> cases h3 : kDig c
      all_goals
        first
        | (exfalso; revert hB; simp [kPart, kBig, h1, h2, h3]; done)
        | (rw [h1] at e1
           have H2 := Lib.hid h2
           have H3 := Lib.hid h3
           clear h1 h2 h3 hB
           go_enter Try.func60, Try.ntmps60
           go_wp2_with (first | (go_at_call 59; refine (tells8_val rdigit_tells _ _ _ hc H3.out).mono ?_; rintro e w' ⟨rfl, rfl⟩) | (go_at_call 76; refine (tells8_val rlower_tells _ _ _ hc H2.out).mono ?_; rintro e w' ⟨rfl, rfl⟩))
           go_ret
           exact ⟨rfl, rfl⟩)
    · cases h1 : (c == 45) <;> cases h2 : kUp c <;> cases h3 : kDig c
      all_goals
        first
        | (exfalso; revert hB; simp [kPart, kBig, h1, h2, h3]; done)
        | (rw [h1] at e1
           have H2 := Lib.hid h2
           have H3 := Lib.hid h3
           clear h1 h2 h3 hB
           go_enter Try.func60, Try.ntmps60
           go_wp2_with (first | (go_at_call 59; refine (tells8_val rdigit_tells _ _ _ hc H3.out).mono ?_; rintro e w' ⟨rfl, rfl⟩) | (go_at_call 75; refine (tells8_val rupper_tells _ _ _ hc H2.out).mono ?_; rintro e w' ⟨rfl, rfl⟩))
           go_ret
           exact ⟨rfl, rfl⟩)
theorem part_val (b big : Bool) (c : Nat) (w : World) (hc : c ≤ 255) (hb : kPart (kBig big) c = b) :
    Calls Try.prog 60 #[.int .u8 c, .bool big] w fun e w' => e = .returned (.bool b) ∧ w = w' := hb ▸ part_any big c w hc

/-- The byte at a place, as a number; 0 behind the end. -/
def bn (s : ByteArray) (k : Nat) : Nat := (s.data.toList.getD k 0).toNat
theorem bn_lt (s : ByteArray) (k : Nat) : bn s k ≤ 255 := by have := (s.data.toList.getD k 0).toNat_lt; unfold bn; omega
theorem bn_get (s : ByteArray) (k : Nat) (h : k < s.size) : (s[k]'h).toNat = bn s k := by
  unfold bn
  rw [List.getD_eq_getElem?_getD, byte_at s k h]
  rfl
theorem bn_int (s : ByteArray) (k : Nat) (h : k < s.size) : (((s[k]'h).toNat : Nat) : Int) = ((bn s k : Nat) : Int) := by rw [bn_get]

/-- Whether a string is a name, by the reference. -/
def rNam (K : Nat → Bool) (s : ByteArray) : Bool :=
  decide (1 ≤ s.size) && decide (s.size ≤ 32) && !kDig (bn s 0) && bn s 0 != 45 && (List.range s.size).all fun i => kPart K (bn s i)

set_option maxRecDepth 100000 in
theorem rnamed_any (big : Bool) (s : ByteArray) (w : World) (hs : s.size ≤ maxLen) :
    Calls Try.prog 53 #[.string s, .bool big] w fun e w' => e = .returned (.bool (rNam (kBig big) s)) ∧ w = w' := by
  unfold maxLen at hs
  by_cases h0 : s.size = 0
  · have hf : Hid (rNam (kBig big) s = false) := by show _ = _; unfold rNam; simp [h0]
    have hlt : s.size < 1 := by omega
    clear h0
    go_enter Try.func53, Try.ntmps53
    go_wp2
    go_ret
    exact ⟨by rw [hf.out]; rfl, rfl⟩
  by_cases h32 : 32 < s.size
  · have hf : Hid (rNam (kBig big) s = false) := by
      show _ = _; unfold rNam
      have : decide (s.size ≤ 32) = false := by simp; omega
      rw [this]; simp
    have h1 : 1 ≤ s.size := by omega
    clear h0
    go_enter Try.func53, Try.ntmps53
    go_wp2
    go_ret
    exact ⟨by rw [hf.out]; rfl, rfl⟩
  have h1 : 0 < s.size := by omega
  have hb0 := bn_int s 0 h1
  have hl0 := bn_lt s 0
  cases hd : kDig (bn s 0)
  · cases hh : (bn s 0 == 45)
    · have e1 : (((bn s 0 : Nat) : Int) == 45) = false := (eq_cast _ 45).trans hh
      have HD := Lib.hid hd
      have HHH := Lib.hid hh
      clear hd hh h0
      obtain ⟨n0, hn0⟩ : ∃ n, bn s 0 = n := ⟨_, rfl⟩
      rw [hn0] at hb0 e1 hl0
      have HDn : Hid (kDig n0 = false) := by rw [← hn0]; exact HD.out
      clear hn0
      go_enter Try.func53, Try.ntmps53
      go_wp2_with (go_at_call 59; refine (tells8_val rdigit_tells _ _ _ hl0 HDn.out).mono ?_; rintro e w' ⟨rfl, rfl⟩)
      go_loop [5] (fun v => ∃ k : Nat, k ≤ s.size ∧ v = .int .i64 k ∧ Hid (∀ i, i < k → kPart (kBig big) (bn s i) = true)) (fun v => s.size - (intOf v).toNat)
      case atStart => exact ⟨0, Nat.zero_le _, rfl, fun i hi => absurd hi (Nat.not_lt_zero _)⟩
      case round =>
        obtain ⟨k, hk, rfl, hr⟩ := hrel
        by_cases hlt : k < s.size
        · have hbk := bn_int s k hlt
          have hlk := bn_lt s k
          cases hp : kPart (kBig big) (bn s k)
          · have hf : Hid (rNam (kBig big) s = false) := by
              show _ = _
              unfold rNam
              have : ((List.range s.size).all fun i => kPart (kBig big) (bn s i)) = false := by
                rw [← Bool.not_eq_true, List.all_eq_true]
                intro h
                rw [h k (List.mem_range.2 hlt)] at hp
                cases hp
              rw [this]; simp
            obtain ⟨n, hn⟩ : ∃ n, bn s k = n := ⟨_, rfl⟩
            rw [hn] at hbk hlk hp
            have HP := Lib.hid hp
            clear hn hp hr
            go_wp2_with (go_at_call 60; refine (part_val false big _ _ hlk HP.out).mono ?_; rintro e w' ⟨rfl, rfl⟩)
            go_ret
            exact ⟨by rw [hf.out]; rfl, rfl⟩
          · have hr' : Hid (∀ i, i < k + 1 → kPart (kBig big) (bn s i) = true) := fun i hi => by
              rcases Nat.lt_succ_iff_lt_or_eq.1 hi with h | h
              · exact hr.out i h
              · rw [h]; exact hp
            obtain ⟨n, hn⟩ : ∃ n, bn s k = n := ⟨_, rfl⟩
            rw [hn] at hbk hlk hp
            have HP := Lib.hid hp
            clear hn hp hr
            go_wp2_with (go_at_call 60; refine (part_val true big _ _ hlk HP.out).mono ?_; rintro e w' ⟨rfl, rfl⟩)
            go_round
            case rel => exact ⟨k + 1, by omega, by go_num, hr'⟩
            case measure => simp [intOf]; omega
        · obtain rfl : k = s.size := by omega
          have ht : Hid (rNam (kBig big) s = true) := by
            show _ = _
            unfold rNam
            have : ((List.range s.size).all fun i => kPart (kBig big) (bn s i)) = true := by
              rw [List.all_eq_true]; exact fun i hi => hr.out i (List.mem_range.1 hi)
            have e2 : (bn s 0 != 45) = true := by simpa using HHH.out
            rw [this, HD.out, e2]
            simp
            omega
          clear hr
          go_wp2
          go_ret
          exact ⟨by rw [ht.out]; rfl, rfl⟩
    · have hf : Hid (rNam (kBig big) s = false) := by
        show _ = _
        unfold rNam
        have e2 : (bn s 0 != 45) = false := by simpa using hh
        rw [e2]; simp
      have e1 : (((bn s 0 : Nat) : Int) == 45) = true := (eq_cast _ 45).trans hh
      obtain ⟨n0, hn0⟩ : ∃ n, bn s 0 = n := ⟨_, rfl⟩
      rw [hn0] at hb0 e1 hl0 hd
      have HDn := Lib.hid hd
      clear hd hh h0 hn0
      go_enter Try.func53, Try.ntmps53
      go_wp2_with (go_at_call 59; refine (tells8_val rdigit_tells _ _ _ hl0 HDn.out).mono ?_; rintro e w' ⟨rfl, rfl⟩)
      go_ret
      exact ⟨by rw [hf.out]; rfl, rfl⟩
  · have hf : Hid (rNam (kBig big) s = false) := by
      show _ = _
      unfold rNam
      rw [hd]; simp
    obtain ⟨n0, hn0⟩ : ∃ n, bn s 0 = n := ⟨_, rfl⟩
    rw [hn0] at hb0 hl0 hd
    have HDn := Lib.hid hd
    clear hd h0 hn0
    go_enter Try.func53, Try.ntmps53
    go_wp2_with (go_at_call 59; refine (tells8_val rdigit_tells _ _ _ hl0 HDn.out).mono ?_; rintro e w' ⟨rfl, rfl⟩)
    go_ret
    exact ⟨by rw [hf.out]; rfl, rfl⟩

theorem pre_all (q : UInt8 → Bool) : ∀ l : List UInt8, pre q l = l.length ↔ ∀ b ∈ l, q b = true
  | [] => by simp [pre]
  | b :: l => by
    rw [pre_cons]
    by_cases h : q b = true
    · rw [if_pos h]
      have := pre_all q l
      simp [h, this]
    · rw [if_neg h]
      simp [h]

theorem all_bn (s : ByteArray) (K : Nat → Bool) : ((List.range s.size).all fun i => K (bn s i)) = true ↔ ∀ b ∈ s.data.toList, by8 K b = true := by
  rw [List.all_eq_true]
  constructor
  · intro h b hb
    obtain ⟨i, hi, rfl⟩ := List.getElem_of_mem hb
    have hi' : i < s.size := by simpa using hi
    have := h i (List.mem_range.2 hi')
    unfold bn at this
    rwa [List.getD_eq_getElem?_getD, List.getElem?_eq_getElem hi] at this
  · intro h i hi
    have hi := List.mem_range.1 hi
    have hm : s.data.toList[i]'(by simpa using hi) ∈ s.data.toList := List.getElem_mem _
    have := h _ hm
    unfold bn
    rw [List.getD_eq_getElem?_getD, List.getElem?_eq_getElem (by simpa using hi)]
    exact this

/-- The reference's test and the program's are the same. -/
theorem rNam_eq (K : Nat → Bool) (hK : ∀ c, K c = true → kDig c = false ∧ c ≠ 45) (s : ByteArray) : rNam K s = isNam K s.data.toList := by
  have hsz : s.data.toList.length = s.size := by simp
  have hall := all_bn s (kPart K)
  unfold rNam isNam
  rw [Bool.eq_iff_iff]
  simp only [Bool.and_eq_true, decide_eq_true_eq, Bool.not_eq_true', bne_iff_ne, beq_iff_eq]
  cases hl : s.data.toList with
  | nil =>
    rw [hl] at hsz
    simp at hsz
    simp [nameLen]
    omega
  | cons b l =>
    have hb0 : bn s 0 = b.toNat := by unfold bn; rw [hl]; rfl
    rw [hl] at hall hsz
    rw [hb0]
    simp only [nameLen]
    constructor
    · rintro ⟨⟨⟨⟨h1, h2⟩, h3⟩, h4⟩, h5⟩
      have hq := hall.1 h5
      have hKb : K b.toNat = true := by
        have := hq b (by simp)
        simp only [by8, kPart, h3, Bool.or_false, Bool.or_eq_true, beq_iff_eq] at this
        rcases this with h | h
        · exact h
        · exact absurd h h4
      have hp := (pre_all (by8 (kPart K)) (b :: l)).2 hq
      have hp8 : by8 K b = true := hKb
      rw [if_pos hp8, hp, hsz]
      exact ⟨⟨by omega, rfl⟩, h2⟩
    · rintro ⟨⟨h1, h2⟩, h3⟩
      by_cases hKb : by8 K b = true
      · rw [if_pos hKb] at h1 h2
        have hq := (pre_all (by8 (kPart K)) (b :: l)).1 h2
        obtain ⟨g1, g2⟩ := hK b.toNat hKb
        exact ⟨⟨⟨⟨by omega, by omega⟩, g1⟩, g2⟩, hall.2 hq⟩
      · rw [if_neg hKb] at h1; omega
theorem rName_any (s : ByteArray) (w : World) (hs : s.size ≤ maxLen) :
    Calls Try.prog 42 #[.string s] w fun e w' => e = .returned (.bool (isNam kLow s.data.toList)) ∧ w = w' := by
  have HS := Lib.hid hs
  clear hs
  have hK : ∀ c, kLow c = true → kDig c = false ∧ c ≠ 45 := fun c h => by simp [kLow, kDig] at h ⊢; omega
  have HE := Lib.hid (rNam_eq kLow hK s)
  clear hK
  go_enter Try.func42, Try.ntmps42
  go_wp2_with fail
  refine (rnamed_any false s w HS.out).mono ?_
  rintro e w' ⟨rfl, rfl⟩
  go_wp2
  go_ret
  exact ⟨by rw [← HE.out]; rfl, rfl⟩
end Go.Proofs.Ytmhbblehgckelaa
