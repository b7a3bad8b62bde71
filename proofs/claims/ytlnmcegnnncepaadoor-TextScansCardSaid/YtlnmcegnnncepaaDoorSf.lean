/- Walks of the reference of package text: the parts of Scan. -/
import Derived.Test.YtlnmcegnnncepaaDoorTz
namespace Go.Proofs.YtlnmcegnnncepaaDoor
open Go.RowKit

theorem bn_byte {s : ByteArray} {k : Nat} (hk : k < s.size) : ∃ b, s.data.toList[k]? = some b ∧ b.toNat = bn s k := by
  have hl : k < s.data.toList.length := by rw [size_list]; exact hk
  refine ⟨s.data.toList[k], List.getElem?_eq_getElem hl, ?_⟩
  unfold bn; rw [List.getD_eq_getElem?_getD, List.getElem?_eq_getElem hl]; rfl
/-- Where the bytes of a kind end, behind the first n. -/
theorem pre_from {s : ByteArray} {K : Nat → Bool} {n k : Nat} (h1 : ∀ i, n ≤ i → i < k → K (bn s i) = true) (h2 : k < s.size → K (bn s k) = false) (h3 : n ≤ k) (h4 : k ≤ s.size) : pre (by8 K) (s.data.toList.drop n) = k - n := by
  refine pre_stop (fun j hj => ?_) (fun b hb => ?_) (by rw [List.length_drop, size_list]; omega)
  · obtain ⟨b, hb, he⟩ := bn_byte (s := s) (k := n + j) (by omega)
    refine ⟨b, by rw [List.getElem?_drop]; exact hb, ?_⟩
    unfold by8
    rw [he]
    exact h1 (n + j) (by omega) (by omega)
  · rw [List.getElem?_drop, show n + (k - n) = k by omega] at hb
    by_cases hlt : k < s.size
    · obtain ⟨c, hc, he⟩ := bn_byte hlt
      rw [hc] at hb
      cases hb
      unfold by8
      rw [he]
      exact h2 hlt
    · rw [List.getElem?_eq_none (by rw [size_list]; omega)] at hb
      cases hb

set_option maxRecDepth 100000 in
set_option maxHeartbeats 3200000 in
theorem rrun_any (s : ByteArray) (big : Bool) (w : World) (hs : s.size ≤ 1000000) :
    Calls Tryd.prog 97 #[.string s, .bool big] w fun e w' => e = .returned (.int .i64 ((pre (by8 (kPart (kBig big))) s.data.toList : Nat) : Int)) ∧ w = w' := by
  go_enter Tryd.func97, Tryd.ntmps97
  go_wp2
  go_loop [5] (fun v => ∃ k : Nat, k ≤ s.size ∧ v = .int .i64 k ∧ Hid (∀ i, 0 ≤ i → i < k → kPart (kBig big) (bn s i) = true)) (fun v => s.size - (intOf v).toNat)
  case atStart => exact ⟨0, Nat.zero_le _, rfl, fun i _ hi => absurd hi (Nat.not_lt_zero _)⟩
  case round =>
    obtain ⟨k, hk, rfl, hr⟩ := hrel
    by_cases hlt : k < s.size
    · have hbk := bn_int s k hlt
      have hlk := bn_lt s k
      cases hp : kPart (kBig big) (bn s k)
      · have hres : Hid (pre (by8 (kPart (kBig big))) s.data.toList = k) := by
          have := pre_from hr.out (fun _ => hp) (Nat.zero_le _) hk
          rw [List.drop_zero] at this
          exact this
        obtain ⟨n, hn⟩ : ∃ n, bn s k = n := ⟨_, rfl⟩
        rw [hn] at hbk hlk hp
        have HP := Lib.hid hp
        clear hn hp hr
        go_wp2_with (go_at_call 79; refine (part_val false big _ _ hlk HP.out).mono ?_; rintro e w' ⟨rfl, rfl⟩)
        go_ret
        exact ⟨by rw [hres.out]; rfl, rfl⟩
      · have hr' : Hid (∀ i, 0 ≤ i → i < k + 1 → kPart (kBig big) (bn s i) = true) := fun i h0 hi => by
          rcases Nat.lt_succ_iff_lt_or_eq.1 hi with h | h
          · exact hr.out i h0 h
          · rw [h]; exact hp
        obtain ⟨n, hn⟩ : ∃ n, bn s k = n := ⟨_, rfl⟩
        rw [hn] at hbk hlk hp
        have HP := Lib.hid hp
        clear hn hp hr
        go_wp2_with (go_at_call 79; refine (part_val true big _ _ hlk HP.out).mono ?_; rintro e w' ⟨rfl, rfl⟩)
        go_round
        case rel => exact ⟨k + 1, by omega, by go_num, hr'⟩
        case measure => simp [intOf]; omega
    · obtain rfl : k = s.size := by omega
      have hres : Hid (pre (by8 (kPart (kBig big))) s.data.toList = s.size) := by
        have := pre_from hr.out (fun h => absurd h (Nat.lt_irrefl _)) (Nat.zero_le _) hk
        rw [List.drop_zero] at this
        exact this
      clear hr
      go_wp2
      go_ret
      exact ⟨by rw [hres.out]; rfl, rfl⟩

theorem numLen_from {s : ByteArray} {n : Nat} (hp : 0 < s.size) (hn : dg s.data.toList = s.data.toList.drop n) (hn1 : n ≤ s.size) : numLen s.data.toList = if pre (by8 kDig) (s.data.toList.drop n) = 0 then 0 else n + pre (by8 kDig) (s.data.toList.drop n) := by
  unfold numLen
  rw [hn, List.length_drop, size_list]
  split
  · rfl
  · omega
theorem dg_drop {s : ByteArray} (hp : 0 < s.size) : dg s.data.toList = s.data.toList.drop (if bn s 0 = 45 then 1 else 0) := by
  obtain ⟨b, hb, he⟩ := bn_byte hp
  unfold dg
  cases hl : s.data.toList with
  | nil => rw [hl] at hb; cases hb
  | cons c r =>
    rw [hl] at hb
    cases hb
    by_cases h : bn s 0 = 45
    · have : b = 45 := UInt8.toNat_inj.1 (by rw [he, h]; rfl)
      subst this
      simp [h]
    · have : ¬ b = 45 := fun e => h (by rw [← he, e]; rfl)
      simp [h, this]

set_option maxRecDepth 100000 in
set_option maxHeartbeats 3200000 in
theorem rfigures_any (s : ByteArray) (w : World) (hs : s.size ≤ 1000000) (hp : 0 < s.size) :
    Calls Tryd.prog 98 #[.string s] w fun e w' => e = .returned (.int .i64 ((numLen s.data.toList : Nat) : Int)) ∧ w = w' := by
  have hb0 := bn_int s 0 hp
  have hl0 := bn_lt s 0
  obtain ⟨p, hpp⟩ : ∃ p, (if bn s 0 = 45 then 1 else 0) = p := ⟨_, rfl⟩
  have hd := dg_drop hp
  rw [hpp] at hd
  have hp1 : p ≤ 1 := by rw [← hpp]; split <;> omega
  have hres := numLen_from hp hd (by omega)
  have HR := Lib.hid hres
  obtain ⟨x, hx⟩ : ∃ x, bn s 0 = x := ⟨_, rfl⟩
  rw [hx] at hb0 hl0 hpp
  clear hres hd hx
  by_cases h45 : x = 45
  · subst h45
    rw [if_pos rfl] at hpp
    subst hpp
    go_enter Tryd.func98, Tryd.ntmps98
    go_wp2
    go_loop [4] (fun v => ∃ k : Nat, 1 ≤ k ∧ k ≤ s.size ∧ v = .int .i64 k ∧ Hid (∀ i, 1 ≤ i → i < k → kDig (bn s i) = true)) (fun v => s.size - (intOf v).toNat)
    case atStart => exact ⟨1, Nat.le_refl _, by omega, rfl, fun i h1 h2 => absurd (Nat.lt_of_le_of_lt h1 h2) (Nat.lt_irrefl _)⟩
    case round =>
      obtain ⟨k, hk0, hk, rfl, hr⟩ := hrel
      have hstop : Hid ((k < s.size → kDig (bn s k) = false) → numLen s.data.toList = if k - 1 = 0 then 0 else k) := fun h => by
        have := pre_from hr.out h hk0 hk
        rw [HR.out, this]
        split <;> omega
      by_cases hlt : k < s.size
      · have hbk := bn_int s k hlt
        have hlk := bn_lt s k
        cases hdk : kDig (bn s k)
        · have hres := hstop.out (fun _ => hdk)
          obtain ⟨n, hn⟩ : ∃ n, bn s k = n := ⟨_, rfl⟩
          rw [hn] at hbk hlk hdk
          have HK := Lib.hid hdk
          by_cases hkp : k = 1
          · subst hkp
            have HRes : Hid (numLen s.data.toList = 0) := by show _ = _; rw [hres]; simp
            clear hn hdk hr hstop hres
            go_wp2_with (go_at_call 63; refine (tells8_val rdigit_tells _ _ _ hlk HK.out).mono ?_; rintro e w' ⟨rfl, rfl⟩)
            go_ret
            exact ⟨by rw [HRes.out]; rfl, rfl⟩
          · have HRes : Hid (numLen s.data.toList = k) := by show _ = _; rw [hres, if_neg (by omega)]
            have ek : (((k : Nat) : Int) == 1) = false := by rw [beq_eq_false_iff_ne]; omega
            clear hn hdk hr hstop hres
            go_wp2_with (go_at_call 63; refine (tells8_val rdigit_tells _ _ _ hlk HK.out).mono ?_; rintro e w' ⟨rfl, rfl⟩)
            go_ret
            exact ⟨by rw [HRes.out]; rfl, rfl⟩
        · have hr' : Hid (∀ i, 1 ≤ i → i < k + 1 → kDig (bn s i) = true) := fun i h0 hi => by
            rcases Nat.lt_succ_iff_lt_or_eq.1 hi with h | h
            · exact hr.out i h0 h
            · rw [h]; exact hdk
          obtain ⟨n, hn⟩ : ∃ n, bn s k = n := ⟨_, rfl⟩
          rw [hn] at hbk hlk hdk
          have HK := Lib.hid hdk
          clear hn hdk hr hstop
          go_wp2_with (go_at_call 63; refine (tells8_val rdigit_tells _ _ _ hlk HK.out).mono ?_; rintro e w' ⟨rfl, rfl⟩)
          go_round
          case rel => exact ⟨k + 1, by omega, by omega, by go_num, hr'⟩
          case measure => simp [intOf]; omega
      · obtain rfl : k = s.size := by omega
        have hres := hstop.out (fun h => absurd h (Nat.lt_irrefl _))
        by_cases hkp : s.size = 1
        · have HRes : Hid (numLen s.data.toList = 0) := by show _ = _; rw [hres]; simp [hkp]
          have ek : (((s.size : Nat) : Int) == 1) = true := by rw [beq_iff_eq]; omega
          clear hr hstop hres hkp
          go_wp2
          go_ret
          exact ⟨by rw [HRes.out]; rfl, rfl⟩
        · have HRes : Hid (numLen s.data.toList = s.size) := by show _ = _; rw [hres, if_neg (by omega)]
          have ek : (((s.size : Nat) : Int) == 1) = false := by rw [beq_eq_false_iff_ne]; omega
          clear hr hstop hres hkp
          go_wp2
          go_ret
          exact ⟨by rw [HRes.out]; rfl, rfl⟩
  · rw [if_neg h45] at hpp
    subst hpp
    have e45 : (((x : Nat) : Int) == 45) = false := by rw [beq_eq_false_iff_ne]; omega
    clear h45
    go_enter Tryd.func98, Tryd.ntmps98
    go_wp2
    go_loop [4] (fun v => ∃ k : Nat, 0 ≤ k ∧ k ≤ s.size ∧ v = .int .i64 k ∧ Hid (∀ i, 0 ≤ i → i < k → kDig (bn s i) = true)) (fun v => s.size - (intOf v).toNat)
    case atStart => exact ⟨0, Nat.le_refl _, by omega, rfl, fun i h1 h2 => absurd (Nat.lt_of_le_of_lt h1 h2) (Nat.lt_irrefl _)⟩
    case round =>
      obtain ⟨k, hk0, hk, rfl, hr⟩ := hrel
      have hstop : Hid ((k < s.size → kDig (bn s k) = false) → numLen s.data.toList = if k - 0 = 0 then 0 else k) := fun h => by
        have := pre_from hr.out h hk0 hk
        rw [HR.out, this]
        split <;> omega
      by_cases hlt : k < s.size
      · have hbk := bn_int s k hlt
        have hlk := bn_lt s k
        cases hdk : kDig (bn s k)
        · have hres := hstop.out (fun _ => hdk)
          obtain ⟨n, hn⟩ : ∃ n, bn s k = n := ⟨_, rfl⟩
          rw [hn] at hbk hlk hdk
          have HK := Lib.hid hdk
          by_cases hkp : k = 0
          · subst hkp
            have HRes : Hid (numLen s.data.toList = 0) := by show _ = _; rw [hres]; simp
            clear hn hdk hr hstop hres hb0
            go_wp2_with (go_at_call 63; refine (tells8_val rdigit_tells _ _ _ hlk HK.out).mono ?_; rintro e w' ⟨rfl, rfl⟩)
            go_ret
            exact ⟨by rw [HRes.out]; rfl, rfl⟩
          · have HRes : Hid (numLen s.data.toList = k) := by show _ = _; rw [hres, if_neg (by omega)]
            have ek : (((k : Nat) : Int) == 0) = false := by rw [beq_eq_false_iff_ne]; omega
            clear hn hdk hr hstop hres
            go_wp2_with (go_at_call 63; refine (tells8_val rdigit_tells _ _ _ hlk HK.out).mono ?_; rintro e w' ⟨rfl, rfl⟩)
            go_ret
            exact ⟨by rw [HRes.out]; rfl, rfl⟩
        · have hr' : Hid (∀ i, 0 ≤ i → i < k + 1 → kDig (bn s i) = true) := fun i h0 hi => by
            rcases Nat.lt_succ_iff_lt_or_eq.1 hi with h | h
            · exact hr.out i h0 h
            · rw [h]; exact hdk
          obtain ⟨n, hn⟩ : ∃ n, bn s k = n := ⟨_, rfl⟩
          rw [hn] at hbk hlk hdk
          have HK := Lib.hid hdk
          clear hn hdk hr hstop
          go_wp2_with (go_at_call 63; refine (tells8_val rdigit_tells _ _ _ hlk HK.out).mono ?_; rintro e w' ⟨rfl, rfl⟩)
          go_round
          case rel => exact ⟨k + 1, by omega, by omega, by go_num, hr'⟩
          case measure => simp [intOf]; omega
      · obtain rfl : k = s.size := by omega
        have hres := hstop.out (fun h => absurd h (Nat.lt_irrefl _))
        by_cases hkp : s.size = 0
        · have HRes : Hid (numLen s.data.toList = 0) := by show _ = _; rw [hres]; simp [hkp]
          have ek : (((s.size : Nat) : Int) == 0) = true := by rw [beq_iff_eq]; omega
          clear hr hstop hres hkp
          go_wp2
          go_ret
          exact ⟨by rw [HRes.out]; rfl, rfl⟩
        · have HRes : Hid (numLen s.data.toList = s.size) := by show _ = _; rw [hres, if_neg (by omega)]
          have ek : (((s.size : Nat) : Int) == 0) = false := by rw [beq_eq_false_iff_ne]; omega
          clear hr hstop hres hkp
          go_wp2
          go_ret
          exact ⟨by rw [HRes.out]; rfl, rfl⟩

set_option maxRecDepth 100000 in
set_option maxHeartbeats 3200000 in
theorem rquoted_any (s : ByteArray) (w : World) (hs : s.size ≤ 1000000) (hp : 0 < s.size) :
    Calls Tryd.prog 99 #[.string s] w fun e w' => e = .returned (.tuple #[.int .i64 (((quo s.data.toList).2.1 : Nat) : Int), .int .i64 (quo s.data.toList).2.2]) ∧ w = w' := by
  go_enter Tryd.func99, Tryd.ntmps99
  go_wp2
  go_loop [4] (fun v => ∃ k : Nat, 1 ≤ k ∧ k ≤ s.size ∧ v = .int .i64 k ∧ Hid (∀ i, 1 ≤ i → i < k → kStr (bn s i) = true)) (fun v => s.size - (intOf v).toNat)
  case atStart => exact ⟨1, Nat.le_refl _, hp, rfl, fun i h1 h2 => absurd (Nat.lt_of_le_of_lt h1 h2) (Nat.lt_irrefl _)⟩
  case round =>
    obtain ⟨k, hk0, hk, rfl, hr⟩ := hrel
    have hstop : Hid ((k < s.size → kStr (bn s k) = false) → quo s.data.toList = if k = s.size then (0, 0, 9) else if s.data.toList.getD k 0 = 34 then (3, k + 1, 0) else (0, 0, 8)) := fun h => by
      have := pre_from hr.out h hk0 hk
      rw [List.drop_one] at this
      unfold quo
      rw [this, size_list, show 1 + (k - 1) = k by omega]
    by_cases hlt : k < s.size
    · have hbk := bn_int s k hlt
      have hlk := bn_lt s k
      have h34 := getD_bn hlt 34
      have hne : ¬ k = s.size := by omega
      have hr2 : kStr (bn s k) = true → ∀ i, 1 ≤ i → i < k + 1 → kStr (bn s i) = true := fun hd i h0 hi => by
        rcases Nat.lt_succ_iff_lt_or_eq.1 hi with h | h
        · exact hr.out i h0 h
        · rw [h]; exact hd
      have hst := fun h => hstop.out (fun _ => h)
      rw [if_neg hne] at hst
      obtain ⟨n, hn⟩ : ∃ n, bn s k = n := ⟨_, rfl⟩
      rw [hn] at hbk hlk h34 hr2 hst
      have HST := Lib.hid hst
      have HR2 := Lib.hid hr2
      have H34 := Lib.hid h34
      clear hn hr hstop hst hr2 h34 hne
      by_cases c1 : n = 34
      · have HRes : Hid (quo s.data.toList = (3, k + 1, 0)) := by show _ = _; rw [HST.out (by simp [kStr, c1]), if_pos (H34.out.2 c1)]
        subst c1
        clear HST HR2 H34
        go_wp2
        go_ret2
        exact ⟨by rw [HRes.out]; rfl, rfl⟩
      have e34 : (((n : Nat) : Int) == 34) = false := by rw [beq_eq_false_iff_ne]; omega
      by_cases c2 : n < 32
      · have HRes : Hid (quo s.data.toList = (0, 0, 8)) := by show _ = _; rw [HST.out (by simp [kStr, kPri]; omega), if_neg (fun e => c1 (H34.out.1 e))]
        clear HST HR2 H34 c1
        go_wp2
        go_ret2
        exact ⟨by rw [HRes.out]; rfl, rfl⟩
      by_cases c3 : 126 < n
      · have HRes : Hid (quo s.data.toList = (0, 0, 8)) := by show _ = _; rw [HST.out (by simp [kStr, kPri]; omega), if_neg (fun e => c1 (H34.out.1 e))]
        clear HST HR2 H34 c1
        go_wp2
        go_ret2
        exact ⟨by rw [HRes.out]; rfl, rfl⟩
      have c2' : 32 ≤ n := by omega
      have c3' : n ≤ 126 := by omega
      have hr' := Lib.hid (HR2.out (by simp [kStr, kPri, c1]; omega))
      clear HST HR2 H34 c1 c2 c3
      go_wp2
      go_round
      case rel => exact ⟨k + 1, by omega, by omega, by go_num, hr'⟩
      case measure => simp [intOf]; omega
    · obtain rfl : k = s.size := by omega
      have HRes : Hid (quo s.data.toList = (0, 0, 9)) := by show _ = _; rw [hstop.out (fun h => absurd h (Nat.lt_irrefl _)), if_pos rfl]
      clear hr hstop
      go_wp2
      go_ret2
      exact ⟨by rw [HRes.out]; rfl, rfl⟩
end Go.Proofs.YtlnmcegnnncepaaDoor
