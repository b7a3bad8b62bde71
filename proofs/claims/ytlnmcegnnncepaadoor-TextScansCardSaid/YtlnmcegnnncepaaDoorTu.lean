/- Walks of package text: first, what begins a token. -/
import Derived.Test.YtlnmcegnnncepaaDoorTs
namespace Go.Proofs.YtlnmcegnnncepaaDoor
open Go.RowKit

theorem getD_bn {s : ByteArray} {k : Nat} (hk : k < s.size) (c : UInt8) : (s.data.toList.getD k 0 = c) ↔ bn s k = c.toNat := by
  unfold bn
  constructor
  · intro e; rw [e]
  · intro e; exact UInt8.toNat_inj.1 e

theorem quoted_any (s : ByteArray) (w : World) (hs : s.size ≤ 1000000) (hp : 0 < s.size) :
    Calls Tryd.prog 94 #[.string s] w fun e w' => e = ret3 (quo s.data.toList) ∧ Below w.heap.size w w' := by
  obtain ⟨d, hdx⟩ : ∃ d, s.extract 1 s.size = d := ⟨_, rfl⟩
  have hd : d.data.toList = s.data.toList.tail := by
    rw [← hdx, Lib.extract_to_end]; simp
  have hds : d.size = s.size - 1 := by
    rw [← size_list, hd, List.length_tail, size_list]
  have HM := Lib.hid (show d.size ≤ maxLen by unfold maxLen; omega)
  have hnl := pre_le (by8 kStr) d.data.toList
  obtain ⟨n, hn⟩ : ∃ n, pre (by8 kStr) d.data.toList = n := ⟨_, rfl⟩
  rw [hn, size_list] at hnl
  have hq : quo s.data.toList = if 1 + n = s.size then (0, 0, 9) else if s.data.toList.getD (1 + n) 0 = 34 then (3, 1 + n + 1, 0) else (0, 0, 8) := by
    unfold quo
    rw [← hd, hn, size_list]
  have hn6 : n ≤ 1000000 := by omega
  have HQ := Lib.hid hq
  have HN := Lib.hid hn
  clear hq hn hd
  by_cases h1 : 1 + n = s.size
  · have hr : Hid (ret3 (quo s.data.toList) = ret3 (0, 0, 9)) := by show _ = _; rw [HQ.out, if_pos h1]
    have e1 : ((1 : Int) + ((n : Nat) : Int) == (s.size : Int)) = true := by rw [beq_iff_eq]; omega
    clear HQ h1 hds
    go_enter Tryd.func94, Tryd.ntmps94
    go_wp2_with (go_at_call 58; refine (prefix_any _ kStr (by8 kStr) false inString_tells inString_enters (kind_low kStr_hi) d _ HM.out).mono ?_; rw [HN.out]; rintro e w' ⟨rfl, hb⟩)
    go_ret3
    exact ⟨by rw [hr.out]; rfl, hb⟩
  · have hlt : 1 + n < s.size := by omega
    have e1 : ((1 : Int) + ((n : Nat) : Int) == (s.size : Int)) = false := by rw [beq_eq_false_iff_ne]; omega
    have hbk := bn_int s (1 + n) hlt
    have hlk := bn_lt s (1 + n)
    have h34 := getD_bn hlt 34
    obtain ⟨x, hx⟩ : ∃ x, bn s (1 + n) = x := ⟨_, rfl⟩
    rw [hx] at hbk hlk h34
    by_cases h2 : x = 34
    · have hr : Hid (ret3 (quo s.data.toList) = ret3 (3, 1 + n + 1, 0)) := by show _ = _; rw [HQ.out, if_neg h1, if_pos (h34.2 h2)]
      subst h2
      clear HQ h1 hds hx h34
      go_enter Tryd.func94, Tryd.ntmps94
      go_wp2_with (go_at_call 58; refine (prefix_any _ kStr (by8 kStr) false inString_tells inString_enters (kind_low kStr_hi) d _ HM.out).mono ?_; rw [HN.out]; rintro e w' ⟨rfl, hb⟩)
      go_ret3
      exact ⟨by rw [hr.out]; rfl, hb⟩
    · have hr : Hid (ret3 (quo s.data.toList) = ret3 (0, 0, 8)) := by show _ = _; rw [HQ.out, if_neg h1, if_neg (fun e => h2 (h34.1 e))]
      have e2 : (((x : Nat) : Int) == 34) = false := by rw [beq_eq_false_iff_ne]; omega
      clear HQ h1 hds hx h34 h2
      go_enter Tryd.func94, Tryd.ntmps94
      go_wp2_with (go_at_call 58; refine (prefix_any _ kStr (by8 kStr) false inString_tells inString_enters (kind_low kStr_hi) d _ HM.out).mono ?_; rw [HN.out]; rintro e w' ⟨rfl, hb⟩)
      go_ret3
      exact ⟨by rw [hr.out]; rfl, hb⟩

theorem IndexByte_any (c : Nat) (hc : c ≤ 255) (w : World) :
    Calls Tryd.prog 113 #[.string ⟨#[40, 41, 91, 93, 60, 62, 123, 125, 44, 46, 59, 58, 61, 38, 124, 47, 35, 64]⟩, .int .u8 ((c : Nat) : Int)] w fun e w' => e = .returned (.int .i64 (Lib.indexByte syms (c.toUInt8))) ∧ w = w' := by
  go_enter Tryd.func113, Tryd.ntmps113
  go_wp2_with (go_at_call 123; refine (Tryd.stringslite_IndexByte _ _ _).mono ?_; rintro e w' ⟨rfl, rfl⟩)
  go_ret
  exact ⟨rfl, rfl⟩
theorem index_syms256 : ∀ n : Fin 256, decide (0 ≤ Lib.indexByte syms (UInt8.ofNat n.val)) = syms.contains (UInt8.ofNat n.val) := by decide +kernel
theorem index_syms (b : UInt8) : decide (0 ≤ Lib.indexByte syms b) = syms.contains b := by
  have := index_syms256 ⟨b.toNat, b.toNat_lt⟩
  simpa using this

set_option maxRecDepth 100000 in
set_option maxHeartbeats 1600000 in
theorem symbolLength_any (s : ByteArray) (w : World) (hs : s.size ≤ 1000000) (hp : 0 < s.size) :
    Calls Tryd.prog 95 #[.string s] w fun e w' => e = .returned (.int .i64 ((symLen s.data.toList : Nat) : Int)) ∧ w = w' := by
  have hb0 := bn_int s 0 hp
  have hl0 := bn_lt s 0
  have hh : s.data.toList.headD 0 = (bn s 0).toUInt8 := by
    rw [head_is hp]
    show bn s 0 = ((bn s 0).toUInt8).toNat
    simp; omega
  have hidx := index_syms (bn s 0).toUInt8
  rw [← hh] at hidx
  obtain ⟨x, hx⟩ : ∃ x, bn s 0 = x := ⟨_, rfl⟩
  rw [hx] at hb0 hl0 hh
  obtain ⟨z, hz⟩ : ∃ z, Lib.indexByte syms x.toUInt8 = z := ⟨_, rfl⟩
  rw [hh, hz] at hidx
  have hcall : Hid (∀ W, Calls Tryd.prog 113 #[.string ⟨#[40, 41, 91, 93, 60, 62, 123, 125, 44, 46, 59, 58, 61, 38, 124, 47, 35, 64]⟩, .int .u8 ((x : Nat) : Int)] W fun e w' => e = .returned (.int .i64 z) ∧ W = w') := fun W => hz ▸ IndexByte_any x hl0 W
  have hres : symLen s.data.toList = if Lib.hasPrefix s.data.toList [60, 33] || Lib.hasPrefix s.data.toList [33, 62] then 2 else if decide (0 ≤ z) then 1 else 0 := by
    unfold symLen; rw [hh, ← hidx]
  have HR := Lib.hid hres
  clear hres hidx hz hh hx
  cases h1 : Lib.hasPrefix s.data.toList [60, 33] <;> cases h2 : Lib.hasPrefix s.data.toList [33, 62] <;> cases h3 : decide (0 ≤ z)
  all_goals
    have hr := HR.out
    rw [h1, h2, h3] at hr
    have HR2 := Lib.hid hr
    have H1 := Lib.hid h1
    have H2 := Lib.hid h2
    clear hr HR h1 h2
    go_enter Tryd.func95, Tryd.ntmps95
    go_wp2_with (first | (go_at_call 112; refine (Tryd.strings_HasPrefix s ⟨#[60, 33]⟩ _).mono ?_; rw [show (⟨#[60, 33]⟩ : ByteArray).data.toList = [60, 33] from rfl, H1.out]; rintro e w' ⟨rfl, rfl⟩) | (go_at_call 112; refine (Tryd.strings_HasPrefix s ⟨#[33, 62]⟩ _).mono ?_; rw [show (⟨#[33, 62]⟩ : ByteArray).data.toList = [33, 62] from rfl, H2.out]; rintro e w' ⟨rfl, rfl⟩) | (go_at_call 113; refine (hcall.out _).mono ?_; rintro e w' ⟨rfl, rfl⟩))
    go_ret
    exact ⟨by rw [HR2.out]; rfl, rfl⟩
end Go.Proofs.YtlnmcegnnncepaaDoor
