/- Walk of the reference of package text: symbol. -/
import Derived.Test.YtlnmcegnnncepaaDoorSf
import Derived.Test.YtlnmcegnnncepaaDoorTx
namespace Go.Proofs.YtlnmcegnnncepaaDoor
open Go.RowKit

theorem pref2 {s t : ByteArray} (h1 : 1 < s.size) (ht : t.data.toList = s.data.toList.take 2) (a b : UInt8) : Lib.hasPrefix s.data.toList [a, b] = (t.toList == [a, b]) := by
  rw [Lib.toList_data, ht]
  have hsz := size_list s
  cases hl : s.data.toList with
  | nil => rw [hl] at hsz; simp at hsz; omega
  | cons x r =>
    cases r with
    | nil => rw [hl] at hsz; simp at hsz; omega
    | cons y q =>
      rw [Bool.eq_iff_iff]
      simp [Lib.hasPrefix]
      constructor
      · rintro ⟨rfl, rfl⟩; exact ⟨rfl, rfl⟩
      · rintro ⟨rfl, rfl⟩; exact ⟨rfl, rfl⟩
theorem pref1 {s : ByteArray} (h1 : ¬ 1 < s.size) (a b : UInt8) : Lib.hasPrefix s.data.toList [a, b] = false := by
  rw [Bool.eq_false_iff]
  intro h
  unfold Lib.hasPrefix at h
  have := (List.isPrefixOf_iff_prefix.1 h).length_le
  rw [size_list] at this
  simp at this
  omega
theorem syms_nat (x : UInt8) : syms.contains x = true → x.toNat = 40 ∨ x.toNat = 41 ∨ x.toNat = 91 ∨ x.toNat = 93 ∨ x.toNat = 60 ∨ x.toNat = 62 ∨ x.toNat = 123 ∨ x.toNat = 125 ∨ x.toNat = 44 ∨ x.toNat = 46 ∨ x.toNat = 59 ∨ x.toNat = 58 ∨ x.toNat = 61 ∨ x.toNat = 38 ∨ x.toNat = 124 ∨ x.toNat = 47 ∨ x.toNat = 35 ∨ x.toNat = 64 := by
  intro h
  have := List.contains_iff_mem.1 h
  simp only [syms, List.mem_cons, List.not_mem_nil, or_false] at this
  rcases this with rfl | rfl | rfl | rfl | rfl | rfl | rfl | rfl | rfl | rfl | rfl | rfl | rfl | rfl | rfl | rfl | rfl | rfl <;> decide
theorem syms_not (x : UInt8) (c : UInt8) (hc : syms.contains c = true) (h : syms.contains x = false) : ((((x.toNat : Nat) : Int)) == ((c.toNat : Nat) : Int)) = false := by
  rw [beq_eq_false_iff_ne]
  intro e
  have : x = c := UInt8.toNat_inj.1 (by omega)
  rw [this, hc] at h
  cases h

set_option maxRecDepth 100000 in
set_option maxHeartbeats 3200000 in
theorem rsymbol_one (s : ByteArray) (w : World) (h1 : ¬ 1 < s.size) (hp : 0 < s.size) (c : UInt8) (hb0 : (((s[0]'hp).toNat : Nat) : Int) = ((c.toNat : Nat) : Int)) (FIN2 : Hid (symLen s.data.toList = if syms.contains c then 1 else 0)) :
    Calls Tryd.prog 100 #[.string s] w fun e w' => e = .returned (.int .i64 ((symLen s.data.toList : Nat) : Int)) ∧ w = w' := by
  cases hcc : syms.contains c
  · have HR := Lib.hid (show symLen s.data.toList = 0 by rw [FIN2.out, hcc]; rfl)
    clear FIN2
    have m40 : (((c.toNat : Nat) : Int) == 40) = false := syms_not c 40 (by decide) hcc
    have m41 : (((c.toNat : Nat) : Int) == 41) = false := syms_not c 41 (by decide) hcc
    have m91 : (((c.toNat : Nat) : Int) == 91) = false := syms_not c 91 (by decide) hcc
    have m93 : (((c.toNat : Nat) : Int) == 93) = false := syms_not c 93 (by decide) hcc
    have m60 : (((c.toNat : Nat) : Int) == 60) = false := syms_not c 60 (by decide) hcc
    have m62 : (((c.toNat : Nat) : Int) == 62) = false := syms_not c 62 (by decide) hcc
    have m123 : (((c.toNat : Nat) : Int) == 123) = false := syms_not c 123 (by decide) hcc
    have m125 : (((c.toNat : Nat) : Int) == 125) = false := syms_not c 125 (by decide) hcc
    have m44 : (((c.toNat : Nat) : Int) == 44) = false := syms_not c 44 (by decide) hcc
    have m46 : (((c.toNat : Nat) : Int) == 46) = false := syms_not c 46 (by decide) hcc
    have m59 : (((c.toNat : Nat) : Int) == 59) = false := syms_not c 59 (by decide) hcc
    have m58 : (((c.toNat : Nat) : Int) == 58) = false := syms_not c 58 (by decide) hcc
    have m61 : (((c.toNat : Nat) : Int) == 61) = false := syms_not c 61 (by decide) hcc
    have m38 : (((c.toNat : Nat) : Int) == 38) = false := syms_not c 38 (by decide) hcc
    have m124 : (((c.toNat : Nat) : Int) == 124) = false := syms_not c 124 (by decide) hcc
    have m47 : (((c.toNat : Nat) : Int) == 47) = false := syms_not c 47 (by decide) hcc
    have m35 : (((c.toNat : Nat) : Int) == 35) = false := syms_not c 35 (by decide) hcc
    have m64 : (((c.toNat : Nat) : Int) == 64) = false := syms_not c 64 (by decide) hcc
    clear hcc
    go_enter Tryd.func100, Tryd.ntmps100
    go_wp2
    go_ret
    exact ⟨by rw [HR.out]; rfl, rfl⟩
  · have HR := Lib.hid (show symLen s.data.toList = 1 by rw [FIN2.out, hcc]; rfl)
    have hall := syms_nat c hcc
    clear FIN2 hcc
    rcases hall with h | h | h | h | h | h | h | h | h | h | h | h | h | h | h | h | h | h
    all_goals
      rw [h] at hb0
      clear h
      go_enter Tryd.func100, Tryd.ntmps100
      go_wp2
      go_ret
      exact ⟨by rw [HR.out]; rfl, rfl⟩

set_option maxRecDepth 100000 in
set_option maxHeartbeats 3200000 in
theorem rsymbol_two (s t : ByteArray) (w : World) (h1 : 1 < s.size) (hp : 0 < s.size) (hs : s.size ≤ 1000000) (ht : s.extract 0 2 = t) (q1 : (t.toList == [60, 33]) = false) (q2 : (t.toList == [33, 62]) = false) (c : UInt8) (hb0 : (((s[0]'hp).toNat : Nat) : Int) = ((c.toNat : Nat) : Int)) (FIN2 : Hid (symLen s.data.toList = if syms.contains c then 1 else 0)) :
    Calls Tryd.prog 100 #[.string s] w fun e w' => e = .returned (.int .i64 ((symLen s.data.toList : Nat) : Int)) ∧ w = w' := by
  cases hcc : syms.contains c
  · have HR := Lib.hid (show symLen s.data.toList = 0 by rw [FIN2.out, hcc]; rfl)
    clear FIN2
    have m40 : (((c.toNat : Nat) : Int) == 40) = false := syms_not c 40 (by decide) hcc
    have m41 : (((c.toNat : Nat) : Int) == 41) = false := syms_not c 41 (by decide) hcc
    have m91 : (((c.toNat : Nat) : Int) == 91) = false := syms_not c 91 (by decide) hcc
    have m93 : (((c.toNat : Nat) : Int) == 93) = false := syms_not c 93 (by decide) hcc
    have m60 : (((c.toNat : Nat) : Int) == 60) = false := syms_not c 60 (by decide) hcc
    have m62 : (((c.toNat : Nat) : Int) == 62) = false := syms_not c 62 (by decide) hcc
    have m123 : (((c.toNat : Nat) : Int) == 123) = false := syms_not c 123 (by decide) hcc
    have m125 : (((c.toNat : Nat) : Int) == 125) = false := syms_not c 125 (by decide) hcc
    have m44 : (((c.toNat : Nat) : Int) == 44) = false := syms_not c 44 (by decide) hcc
    have m46 : (((c.toNat : Nat) : Int) == 46) = false := syms_not c 46 (by decide) hcc
    have m59 : (((c.toNat : Nat) : Int) == 59) = false := syms_not c 59 (by decide) hcc
    have m58 : (((c.toNat : Nat) : Int) == 58) = false := syms_not c 58 (by decide) hcc
    have m61 : (((c.toNat : Nat) : Int) == 61) = false := syms_not c 61 (by decide) hcc
    have m38 : (((c.toNat : Nat) : Int) == 38) = false := syms_not c 38 (by decide) hcc
    have m124 : (((c.toNat : Nat) : Int) == 124) = false := syms_not c 124 (by decide) hcc
    have m47 : (((c.toNat : Nat) : Int) == 47) = false := syms_not c 47 (by decide) hcc
    have m35 : (((c.toNat : Nat) : Int) == 35) = false := syms_not c 35 (by decide) hcc
    have m64 : (((c.toNat : Nat) : Int) == 64) = false := syms_not c 64 (by decide) hcc
    clear hcc
    go_enter Tryd.func100, Tryd.ntmps100
    go_wp2
    go_ret
    exact ⟨by rw [HR.out]; rfl, rfl⟩
  · have HR := Lib.hid (show symLen s.data.toList = 1 by rw [FIN2.out, hcc]; rfl)
    have hall := syms_nat c hcc
    clear FIN2 hcc
    rcases hall with h | h | h | h | h | h | h | h | h | h | h | h | h | h | h | h | h | h
    all_goals
      rw [h] at hb0
      clear h
      go_enter Tryd.func100, Tryd.ntmps100
      go_wp2
      go_ret
      exact ⟨by rw [HR.out]; rfl, rfl⟩

set_option maxRecDepth 100000 in
theorem rsymbol_any (s : ByteArray) (w : World) (hs : s.size ≤ 1000000) (hp : 0 < s.size) :
    Calls Tryd.prog 100 #[.string s] w fun e w' => e = .returned (.int .i64 ((symLen s.data.toList : Nat) : Int)) ∧ w = w' := by
  have hb0 := bn_int s 0 hp
  have hx0 := head_bn hp
  obtain ⟨c, hc⟩ : ∃ c, s.data.toList.headD 0 = c := ⟨_, rfl⟩
  rw [hc] at hx0
  have hsl : symLen s.data.toList = if Lib.hasPrefix s.data.toList [60, 33] || Lib.hasPrefix s.data.toList [33, 62] then 2 else if syms.contains c then 1 else 0 := by unfold symLen; rw [hc]
  rw [← hx0] at hb0
  obtain ⟨t, ht⟩ : ∃ t, s.extract 0 2 = t := ⟨_, rfl⟩
  have htl : t.data.toList = s.data.toList.take 2 := by rw [← ht, take_extract]
  by_cases h1 : 1 < s.size
  · have p1 := pref2 h1 htl 60 33
    have p2 := pref2 h1 htl 33 62
    rw [p1, p2] at hsl
    cases q1 : (t.toList == [60, 33])
    · cases q2 : (t.toList == [33, 62])
      · rw [q1, q2] at hsl
        exact rsymbol_two s t w h1 hp hs ht q1 q2 c hb0 hsl
      · have HR := Lib.hid (show symLen s.data.toList = 2 by rw [hsl, q2]; simp)
        clear p1 p2 hsl htl hx0 hc
        go_enter Tryd.func100, Tryd.ntmps100
        go_wp2
        go_ret
        exact ⟨by rw [HR.out]; rfl, rfl⟩
    · have HR := Lib.hid (show symLen s.data.toList = 2 by rw [hsl, q1]; simp)
      clear p1 p2 hsl htl hx0 hc
      go_enter Tryd.func100, Tryd.ntmps100
      go_wp2
      go_ret
      exact ⟨by rw [HR.out]; rfl, rfl⟩
  · rw [pref1 h1, pref1 h1] at hsl
    exact rsymbol_one s w h1 hp c hb0 hsl
end Go.Proofs.YtlnmcegnnncepaaDoor
