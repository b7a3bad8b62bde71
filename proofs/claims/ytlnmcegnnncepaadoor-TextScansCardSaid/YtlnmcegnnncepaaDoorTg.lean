/- Walk over the reference of package text: Number. Written by wip/gen/tg.py. -/
import Derived.Test.YtlnmcegnnncepaaDoorTf
namespace Go.Proofs.YtlnmcegnnncepaaDoor
open Go.RowKit

set_option maxRecDepth 100000 in
set_option maxHeartbeats 1600000 in
theorem rNumber_neg (s : ByteArray) (w : World) (hs : s.size ≤ 1000000) (hneg : s.data.toList.head? = some 45) :
    Calls Tryd.prog 23 #[.string s] w fun e w' => e = .returned (.tuple #[.int .i64 (numV s.data.toList), .int .i64 (numE s.data.toList)]) ∧ w = w' := by
  have HN := Lib.hid hneg
  obtain ⟨r, hr⟩ := head45.1 hneg
  have hsp : 0 < s.size := by rw [← size_list, hr]; simp
  have hb0s := bn_int s 0 hsp
  have hbs : bn s 0 = 45 := by unfold bn; rw [hr]; rfl
  rw [hbs] at hb0s
  obtain ⟨d, hdx⟩ : ∃ d, s.extract 1 s.size = d := ⟨_, rfl⟩
  have hd : d.data.toList = dg s.data.toList := by
    rw [← hdx, Lib.extract_to_end]
    unfold dg
    rw [if_pos hneg]
    simp
  have hds : d.size = s.size - 1 := by
    rw [← size_list, hd]
    unfold dg
    rw [if_pos hneg, List.length_tail, size_list]
  have hs48 : s.data.toList ≠ [48] := by rw [hr]; simp
  clear hr hbs
  have HD := Lib.hid hd
  by_cases h0 : d.size = 0
  · obtain ⟨g1, g2⟩ := num_bad (dec_bad_empty hd h0)
    have G1 := Lib.hid g1
    have G2 := Lib.hid g2
    have he := empty_of h0
    rw [he] at hdx
    have h1s : s.size = 1 := by omega
    have h1s' : (s.size : Int) = 1 := by omega
    clear hd HD h0 g1 g2 he hds hneg hs48 h1s
    go_enter Tryd.func23, Tryd.ntmps23
    go_wp2
    go_ret2
    exact ⟨by rw [G1.out, G2.out]; rfl, rfl⟩
  have hp : 0 < d.size := by omega
  have hne := ne_empty hp
  have hb0 := bn_int d 0 hp
  have hl0 := bn_lt d 0
  by_cases hz : bn d 0 = 48
  · obtain ⟨g1, g2⟩ := num_bad (dec_bad_zero hd hz hs48)
    have G1 := Lib.hid g1
    have G2 := Lib.hid g2
    rw [hz] at hb0
    have hs1 : decide ((1 : Int) < (s.size : Int)) = true := by simp; omega
    clear hd HD h0 g1 g2 hneg hs48 hz
    by_cases hd1 : 1 < d.size
    all_goals
      go_enter Tryd.func23, Tryd.ntmps23
      go_wp2
      go_ret2
      exact ⟨by rw [G1.out, G2.out]; rfl, rfl⟩
  have hzz : Hid (s.data.toList = [48] ∨ bn d 0 ≠ 48) := by
    show _ ∨ _
    exact .inr hz
  obtain ⟨x0, hx0⟩ : ∃ x, bn d 0 = x := ⟨_, rfl⟩
  rw [hx0] at hb0 hl0
  have e48 : (((x0 : Nat) : Int) == 48) = false := by rw [beq_eq_false_iff_ne, ← hx0]; omega
  have hlen : d.size < s.size := by omega
  clear hz hx0 h0 hneg hs48 hds hd
  have e48s : [true] = [true] := rfl
  all_goals
    go_enter Tryd.func23, Tryd.ntmps23
    go_wp2
    go_loop [5] (fun v => ∃ k : Nat, k ≤ d.size ∧ v = .int .i64 k ∧ Hid (∀ i, i < k → kDig (bn d i) = true)) (fun v => d.size - (intOf v).toNat)
    case atStart => exact ⟨0, Nat.zero_le _, rfl, fun i hi => absurd hi (Nat.not_lt_zero _)⟩
    case round =>
      obtain ⟨k, hk, rfl, hr⟩ := hrel
      by_cases hlt : k < d.size
      · have hbk := bn_int d k hlt
        have hlk := bn_lt d k
        cases hdk : kDig (bn d k)
        · obtain ⟨g1, g2⟩ := num_bad (dec_bad_dig HD.out hlt hdk)
          have G1 := Lib.hid g1
          have G2 := Lib.hid g2
          obtain ⟨n, hn⟩ : ∃ n, bn d k = n := ⟨_, rfl⟩
          rw [hn] at hbk hlk hdk
          have HK := Lib.hid hdk
          clear hn hdk hr g1 g2
          go_wp2_with (go_at_call 63; refine (tells8_val rdigit_tells _ _ _ hlk HK.out).mono ?_; rintro e w' ⟨rfl, rfl⟩)
          go_ret2
          exact ⟨by rw [G1.out, G2.out]; rfl, rfl⟩
        · have hr' : Hid (∀ i, i < k + 1 → kDig (bn d i) = true) := fun i hi => by
            rcases Nat.lt_succ_iff_lt_or_eq.1 hi with h | h
            · exact hr.out i h
            · rw [h]; exact hdk
          obtain ⟨n, hn⟩ : ∃ n, bn d k = n := ⟨_, rfl⟩
          rw [hn] at hbk hlk hdk
          have HK := Lib.hid hdk
          clear hn hdk hr
          go_wp2_with (go_at_call 63; refine (tells8_val rdigit_tells _ _ _ hlk HK.out).mono ?_; rintro e w' ⟨rfl, rfl⟩)
          go_round
          case rel => exact ⟨k + 1, by omega, by go_num, hr'⟩
          case measure => simp [intOf]; omega
      · obtain rfl : k = d.size := by omega
        have hdec := dec_good HD.out hp hr.out hzz.out
        have HDec := Lib.hid hdec
        clear hdec
        go_wp2
        go_loop [6, 7] (fun n v => ∃ k : Nat, k ≤ d.size ∧ v = .int .i64 k ∧ ∃ N : Nat, n = .int .u64 ((N : Nat) : Int) ∧ N ≤ 9223372036854775808 ∧ Hid (dk d k = N)) (fun _ v => d.size - (intOf v).toNat)
        case atStart => exact ⟨0, Nat.zero_le _, rfl, 0, rfl, by decide, dk_zero _⟩
        case round =>
          obtain ⟨k, hk, rfl, N, rfl, hN, hD⟩ := hrel
          by_cases hlt : k < d.size
          · have hbk := bn_int d k hlt
            obtain ⟨x, hx, hx9, hnext⟩ := dk_fits d hlt (hr.out k hlt)
            rw [hx] at hbk
            rw [hD.out] at hnext
            clear hx hD
            by_cases hov : N * 10 + x ≤ 9223372036854775808
            · have hD2 : Hid (dk d (k + 1) = N * 10 + x) := hnext
              clear hnext
              go_wp2
              go_round
              case rel => exact ⟨k + 1, by omega, by go_num, N * 10 + x, by go_num, hov, hD2⟩
              case measure => simp [intOf]; omega
            · obtain ⟨g1, g2⟩ := num_over (k := k + 1) HD.out HDec.out (by rw [hnext]; omega)
              have G1 := Lib.hid g1
              have G2 := Lib.hid g2
              clear hnext g1 g2
              go_wp2
              go_ret2
              exact ⟨by rw [G1.out, G2.out]; rfl, rfl⟩
          · obtain rfl : k = d.size := by omega
            obtain ⟨g1, g2⟩ := num_neg HD.out HDec.out HN.out hD.out hN
            have G1 := Lib.hid g1
            have G2 := Lib.hid g2
            clear g1 g2 hlt hD
            go_wp2
            go_ret2
            exact ⟨by rw [G1.out, G2.out, neg_back N hN]; rfl, rfl⟩

set_option maxRecDepth 100000 in
set_option maxHeartbeats 1600000 in
theorem rNumber_pos (s : ByteArray) (w : World) (hs : s.size ≤ 1000000) (hneg : ¬ s.data.toList.head? = some 45) :
    Calls Tryd.prog 23 #[.string s] w fun e w' => e = .returned (.tuple #[.int .i64 (numV s.data.toList), .int .i64 (numE s.data.toList)]) ∧ w = w' := by
  have HN := Lib.hid hneg
  have hd : s.data.toList = dg s.data.toList := by unfold dg; rw [if_neg hneg]
  have hfirst : 0 < s.size → bn s 0 ≠ 45 := fun h e => hneg (by
    have hb := byte_at s 0 h
    have h2 := bn_get s 0 h
    rw [e] at h2
    cases hl : s.data.toList with
    | nil => rw [hl] at hb; cases hb
    | cons x r =>
      rw [hl] at hb
      cases hb
      simp only [List.head?_cons]
      exact congrArg some (UInt8.toNat_inj.1 (by rw [h2]; rfl)))
  have HD := Lib.hid hd
  by_cases h0 : s.size = 0
  · obtain ⟨g1, g2⟩ := num_bad (dec_bad_empty hd h0)
    have G1 := Lib.hid g1
    have G2 := Lib.hid g2
    have he := empty_of h0
    subst he
    clear hd HD h0 g1 g2 hneg hfirst
    go_enter Tryd.func23, Tryd.ntmps23
    go_wp2
    go_ret2
    exact ⟨by rw [G1.out, G2.out]; rfl, rfl⟩
  have hp : 0 < s.size := by omega
  have hne := ne_empty hp
  have hb0 := bn_int s 0 hp
  have hl0 := bn_lt s 0
  have h45 : (((bn s 0 : Nat) : Int) == 45) = false := by rw [beq_eq_false_iff_ne]; have := hfirst hp; omega
  clear hfirst
  by_cases hz : bn s 0 = 48 ∧ 1 < s.size
  · obtain ⟨hz1, hz2⟩ := hz
    have hs48 : s.data.toList ≠ [48] := fun e => by have := congrArg List.length e; rw [size_list] at this; simp at this; omega
    obtain ⟨g1, g2⟩ := num_bad (dec_bad_zero hd hz1 hs48)
    have G1 := Lib.hid g1
    have G2 := Lib.hid g2
    rw [hz1] at hb0 h45
    clear hd HD h0 g1 g2 hneg hs48 hz1
    go_enter Tryd.func23, Tryd.ntmps23
    go_wp2
    go_ret2
    exact ⟨by rw [G1.out, G2.out]; rfl, rfl⟩
  have hzz : Hid (s.data.toList = [48] ∨ bn s 0 ≠ 48) := by
    show _ ∨ _
    by_cases e : bn s 0 = 48
    · left
      have h1 : s.size = 1 := by omega
      have hb := byte_at s 0 hp
      have h2 := bn_get s 0 hp
      rw [e] at h2
      cases hl : s.data.toList with
      | nil => rw [hl] at hb; cases hb
      | cons x r =>
        have h3 := size_list s
        rw [hl, h1] at h3
        rw [hl] at hb
        cases hb
        have : r = [] := by cases r with
          | nil => rfl
          | cons y q => simp at h3
        rw [this]
        congr 1
        exact UInt8.toNat_inj.1 (by rw [h2]; rfl)
    · exact .inr e
  obtain ⟨x0, hx0⟩ : ∃ x, bn s 0 = x := ⟨_, rfl⟩
  rw [hx0] at hb0 hl0 h45
  have hz2 : x0 = 48 → s.size = 1 := fun e => by rw [← hx0] at e; omega
  clear hz hx0 h0 hneg hd
  by_cases e48n : x0 = 48
  case' pos =>
    obtain rfl := e48n
    have hs1 := hz2 rfl
    have e48 : decide ((1 : Int) < (s.size : Int)) = false := by simp; omega
    clear hz2 hs1
  case' neg =>
    have e48 : (((x0 : Nat) : Int) == 48) = false := by rw [beq_eq_false_iff_ne]; omega
    clear hz2 e48n
  all_goals
    go_enter Tryd.func23, Tryd.ntmps23
    go_wp2
    go_loop [5] (fun v => ∃ k : Nat, k ≤ s.size ∧ v = .int .i64 k ∧ Hid (∀ i, i < k → kDig (bn s i) = true)) (fun v => s.size - (intOf v).toNat)
    case atStart => exact ⟨0, Nat.zero_le _, rfl, fun i hi => absurd hi (Nat.not_lt_zero _)⟩
    case round =>
      obtain ⟨k, hk, rfl, hr⟩ := hrel
      by_cases hlt : k < s.size
      · have hbk := bn_int s k hlt
        have hlk := bn_lt s k
        cases hdk : kDig (bn s k)
        · obtain ⟨g1, g2⟩ := num_bad (dec_bad_dig HD.out hlt hdk)
          have G1 := Lib.hid g1
          have G2 := Lib.hid g2
          obtain ⟨n, hn⟩ : ∃ n, bn s k = n := ⟨_, rfl⟩
          rw [hn] at hbk hlk hdk
          have HK := Lib.hid hdk
          clear hn hdk hr g1 g2
          go_wp2_with (go_at_call 63; refine (tells8_val rdigit_tells _ _ _ hlk HK.out).mono ?_; rintro e w' ⟨rfl, rfl⟩)
          go_ret2
          exact ⟨by rw [G1.out, G2.out]; rfl, rfl⟩
        · have hr' : Hid (∀ i, i < k + 1 → kDig (bn s i) = true) := fun i hi => by
            rcases Nat.lt_succ_iff_lt_or_eq.1 hi with h | h
            · exact hr.out i h
            · rw [h]; exact hdk
          obtain ⟨n, hn⟩ : ∃ n, bn s k = n := ⟨_, rfl⟩
          rw [hn] at hbk hlk hdk
          have HK := Lib.hid hdk
          clear hn hdk hr
          go_wp2_with (go_at_call 63; refine (tells8_val rdigit_tells _ _ _ hlk HK.out).mono ?_; rintro e w' ⟨rfl, rfl⟩)
          go_round
          case rel => exact ⟨k + 1, by omega, by go_num, hr'⟩
          case measure => simp [intOf]; omega
      · obtain rfl : k = s.size := by omega
        have hdec := dec_good HD.out hp hr.out hzz.out
        have HDec := Lib.hid hdec
        clear hdec
        go_wp2
        go_loop [6, 7] (fun n v => ∃ k : Nat, k ≤ s.size ∧ v = .int .i64 k ∧ ∃ N : Nat, n = .int .u64 ((N : Nat) : Int) ∧ N ≤ 9223372036854775808 ∧ Hid (dk s k = N)) (fun _ v => s.size - (intOf v).toNat)
        case atStart => exact ⟨0, Nat.zero_le _, rfl, 0, rfl, by decide, dk_zero _⟩
        case round =>
          obtain ⟨k, hk, rfl, N, rfl, hN, hD⟩ := hrel
          by_cases hlt : k < s.size
          · have hbk := bn_int s k hlt
            obtain ⟨x, hx, hx9, hnext⟩ := dk_fits s hlt (hr.out k hlt)
            rw [hx] at hbk
            rw [hD.out] at hnext
            clear hx hD
            by_cases hov : N * 10 + x ≤ 9223372036854775808
            · have hD2 : Hid (dk s (k + 1) = N * 10 + x) := hnext
              clear hnext
              go_wp2
              go_round
              case rel => exact ⟨k + 1, by omega, by go_num, N * 10 + x, by go_num, hov, hD2⟩
              case measure => simp [intOf]; omega
            · obtain ⟨g1, g2⟩ := num_over (k := k + 1) HD.out HDec.out (by rw [hnext]; omega)
              have G1 := Lib.hid g1
              have G2 := Lib.hid g2
              clear hnext g1 g2
              go_wp2
              go_ret2
              exact ⟨by rw [G1.out, G2.out]; rfl, rfl⟩
          · obtain rfl : k = s.size := by omega
            by_cases he : N = 9223372036854775808
            · subst he
              obtain ⟨g1, g2⟩ := num_edge HD.out HDec.out HN.out hD.out
              have G1 := Lib.hid g1
              have G2 := Lib.hid g2
              clear g1 g2 hlt hD
              go_wp2
              go_ret2
              exact ⟨by rw [G1.out, G2.out]; rfl, rfl⟩
            · obtain ⟨g1, g2⟩ := num_pos HD.out HDec.out HN.out hD.out (by omega)
              have G1 := Lib.hid g1
              have G2 := Lib.hid g2
              have hne2 : (((N : Nat) : Int) == 9223372036854775808) = false := by rw [beq_eq_false_iff_ne]; omega
              have hw64 : IntKind.i64.wrap ((N : Nat) : Int) = ((N : Nat) : Int) := i64_back N (by omega)
              clear g1 g2 hlt hD
              go_wp2
              go_ret2
              exact ⟨by rw [G1.out, G2.out]; rfl, rfl⟩
end Go.Proofs.YtlnmcegnnncepaaDoor
