/- Walk of package text: first. -/
import Derived.Test.YtlnmcegnnncepaaDoorTu
namespace Go.Proofs.YtlnmcegnnncepaaDoor
open Go.RowKit

theorem nam_le (K : Nat → Bool) (s : ByteArray) : nam K s.data.toList ≤ s.size := by
  have := nameLen_le (by8 K) (by8 (kPart K)) s.data.toList
  rw [size_list] at this
  exact this
theorem dg_len (l : List UInt8) : (dg l).length ≤ l.length := by
  unfold dg
  split
  · simp
  · exact Nat.le_refl _
theorem numLen_le (s : ByteArray) : numLen s.data.toList ≤ s.size := by
  have h1 := dg_len s.data.toList
  have h2 := pre_le (by8 kDig) (dg s.data.toList)
  rw [size_list] at h1
  unfold numLen
  rw [size_list]
  split <;> omega
theorem symLen_le (l : List UInt8) : symLen l ≤ 2 := by
  unfold symLen
  split
  · exact Nat.le_refl _
  · split <;> omega
theorem take_extract (s : ByteArray) (n : Nat) : (s.extract 0 n).data.toList = s.data.toList.take n := by
  rw [Lib.extract_data]; simp

theorem nameL_any (f : FuncId) (K : Nat → Bool) (hf : Tells f K) (he : Enters f) (hhi : ∀ c, 128 ≤ c → K c = false) (s : ByteArray) (w : World) (hs : s.size ≤ maxLen) (n : Nat) (hn : nam K s.data.toList = n) :
    Calls Tryd.prog 78 #[.string s, .func (.func f) #[] #[]] w fun e w' => e = .returned (.int .i64 ((n : Nat) : Int)) ∧ Below w.heap.size w w' :=
  hn ▸ nameLength_any f K (by8 K) (by8 (kPart K)) hf he (fun _ => rfl) (kind_low (kPart_hi hhi)) s w hs

set_option maxRecDepth 100000 in
set_option maxHeartbeats 1600000 in
theorem first_any (s : ByteArray) (w : World) (hs : s.size ≤ 1000000) (hp : 0 < s.size) (hT : TxtOk w) :
    Calls Tryd.prog 70 #[.string s] w fun e w' => e = ret3 (fst3 s.data.toList) ∧ Below w.heap.size w w' := by
  have HM := Lib.hid (show s.size ≤ maxLen by unfold maxLen; omega)
  have HS := Lib.hid hs
  have HP := Lib.hid hp
  have HT := Lib.hid hT
  have hal := nam_le kLow s
  have hbl := nam_le kUp s
  have hcl := numLen_le s
  have hdl := symLen_le s.data.toList
  have hf : fst3 s.data.toList = if 0 < nam kLow s.data.toList then lim 1 (nam kLow s.data.toList)
    else if 0 < nam kUp s.data.toList then lim 2 (nam kUp s.data.toList)
    else if 0 < numLen s.data.toList then (4, numLen s.data.toList, numE (s.data.toList.take (numLen s.data.toList)))
    else if s.data.toList.headD 0 = 34 then quo s.data.toList
    else if 0 < symLen s.data.toList then (5, symLen s.data.toList, 0)
    else (0, 0, 8) := rfl
  obtain ⟨a, ha⟩ : ∃ a, nam kLow s.data.toList = a := ⟨_, rfl⟩
  obtain ⟨b, hb⟩ : ∃ b, nam kUp s.data.toList = b := ⟨_, rfl⟩
  obtain ⟨c, hc⟩ : ∃ c, numLen s.data.toList = c := ⟨_, rfl⟩
  obtain ⟨d, hd⟩ : ∃ d, symLen s.data.toList = d := ⟨_, rfl⟩
  rw [ha] at hal hf
  rw [hb] at hbl hf
  rw [hc] at hcl hf
  rw [hd] at hdl hf
  have HF := Lib.hid hf
  have HA := Lib.hid ha
  have HB := Lib.hid hb
  have HC := Lib.hid (show ∀ W, Calls Tryd.prog 93 #[.string s] W fun e w' => e = .returned (.int .i64 ((c : Nat) : Int)) ∧ Below W.heap.size W w' from fun W => hc ▸ numberLength_any s W hs)
  have HD := Lib.hid (show ∀ W, Calls Tryd.prog 95 #[.string s] W fun e w' => e = .returned (.int .i64 ((d : Nat) : Int)) ∧ W = w' from fun W => hd ▸ symbolLength_any s W hs hp)
  clear hf ha hb hc hd hT
  by_cases a0 : 0 < a
  · have hr : Hid (ret3 (fst3 s.data.toList) = ret3 (lim 1 a)) := by show _ = _; rw [HF.out, if_pos a0]
    have a1 : a ≤ 1000000 := by omega
    clear HF hal hbl hcl hdl
    go_enter Tryd.func70, Tryd.ntmps70
    go_wp2_with (first | (go_at_call 78; with_reducible refine (nameL_any _ kLow isLower_tells isLower_enters kLow_hi s _ HM.out a HA.out).mono ?_; rintro e w' ⟨rfl, hbA⟩) | (go_at_call 92; refine (limited_any 1 a _ (by decide) a1).mono ?_; rintro e w2 ⟨rfl, rfl⟩; unfold ret3))
    go_ret3
    exact ⟨by rw [hr.out]; rfl, hbA⟩
  have a0' : a = 0 := by omega
  subst a0'
  by_cases b0 : 0 < b
  · have hr : Hid (ret3 (fst3 s.data.toList) = ret3 (lim 2 b)) := by show _ = _; rw [HF.out, if_neg a0, if_pos b0]
    have b1 : b ≤ 1000000 := by omega
    clear HF hal hbl hcl hdl a0
    go_enter Tryd.func70, Tryd.ntmps70
    go_wp2_with (first | (go_at_call 78; with_reducible refine (nameL_any _ kLow isLower_tells isLower_enters kLow_hi s _ HM.out 0 HA.out).mono ?_; rintro e w' ⟨rfl, hbA⟩) | (go_at_call 78; with_reducible refine (nameL_any _ kUp isUpper_tells isUpper_enters kUp_hi s _ HM.out b HB.out).mono ?_; rintro e w' ⟨rfl, hbB⟩) | (go_at_call 92; refine (limited_any 2 b _ (by decide) b1).mono ?_; rintro e w2 ⟨rfl, rfl⟩; unfold ret3))
    go_ret3
    exact ⟨by rw [hr.out]; rfl, hbA.trans (hbB.mono hbA.size)⟩
  have b0' : b = 0 := by omega
  subst b0'
  by_cases c0 : 0 < c
  · have hr : Hid (ret3 (fst3 s.data.toList) = ret3 (4, c, numE (s.data.toList.take c))) := by show _ = _; rw [HF.out, if_neg a0, if_neg b0, if_pos c0]
    have c1 : c ≤ 1000000 := by omega
    obtain ⟨t, ht⟩ : ∃ t, s.extract 0 c = t := ⟨_, rfl⟩
    have htl : Hid (t.data.toList = s.data.toList.take c) := by show _ = _; rw [← ht, take_extract]
    have hts : Hid (t.size ≤ 1000000) := by
      show _ ≤ _
      rw [← size_list, htl.out]
      simp; omega
    clear HF hal hbl hdl a0 b0
    go_enter Tryd.func70, Tryd.ntmps70
    go_wp2_with (first | (go_at_call 78; with_reducible refine (nameL_any _ kLow isLower_tells isLower_enters kLow_hi s _ HM.out 0 HA.out).mono ?_; rintro e w' ⟨rfl, hbA⟩) | (go_at_call 78; with_reducible refine (nameL_any _ kUp isUpper_tells isUpper_enters kUp_hi s _ HM.out 0 HB.out).mono ?_; rintro e w' ⟨rfl, hbB⟩) | (go_at_call 93; refine (HC.out _).mono ?_; rintro e w' ⟨rfl, hbC⟩) | (go_at_call 22; refine (Number_any t _ hts.out (HT.out.below (hbA.trans ((hbB.trans (hbC.mono hbB.size)).mono hbA.size)))).mono ?_; rintro e w' ⟨rfl, hbD⟩))
    go_ret3
    exact ⟨by rw [hr.out, ← htl.out]; rfl, (hbA.trans ((hbB.trans (hbC.mono hbB.size)).mono hbA.size)).trans (hbD.mono (by have := hbA.size; have := hbB.size; have := hbC.size; omega))⟩
  have c0' : c = 0 := by omega
  subst c0'
  have hb0 := bn_int s 0 hp
  have hl0 := bn_lt s 0
  have hh := head_is hp 34
  obtain ⟨x, hx⟩ : ∃ x, bn s 0 = x := ⟨_, rfl⟩
  rw [hx] at hb0 hl0 hh
  by_cases x0 : x = 34
  · have hr : Hid (ret3 (fst3 s.data.toList) = ret3 (quo s.data.toList)) := by show _ = _; rw [HF.out, if_neg a0, if_neg b0, if_neg c0, if_pos (hh.2 x0)]
    subst x0
    clear HF hal hbl hcl hdl a0 b0 c0 hx hh
    go_enter Tryd.func70, Tryd.ntmps70
    go_wp2_with (first | (go_at_call 78; with_reducible refine (nameL_any _ kLow isLower_tells isLower_enters kLow_hi s _ HM.out 0 HA.out).mono ?_; rintro e w' ⟨rfl, hbA⟩) | (go_at_call 78; with_reducible refine (nameL_any _ kUp isUpper_tells isUpper_enters kUp_hi s _ HM.out 0 HB.out).mono ?_; rintro e w' ⟨rfl, hbB⟩) | (go_at_call 93; refine (HC.out _).mono ?_; rintro e w' ⟨rfl, hbC⟩) | (go_at_call 94; refine (quoted_any s _ HS.out HP.out).mono ?_; rintro e w' ⟨rfl, hbD⟩; unfold ret3))
    go_ret3
    exact ⟨by rw [hr.out]; rfl, (hbA.trans ((hbB.trans (hbC.mono hbB.size)).mono hbA.size)).trans (hbD.mono (by have := hbA.size; have := hbB.size; have := hbC.size; omega))⟩
  have ex : (((x : Nat) : Int) == 34) = false := by rw [beq_eq_false_iff_ne]; omega
  by_cases d0 : 0 < d
  · have hr : Hid (ret3 (fst3 s.data.toList) = ret3 (5, d, 0)) := by show _ = _; rw [HF.out, if_neg a0, if_neg b0, if_neg c0, if_neg (fun e => x0 (hh.1 e)), if_pos d0]
    clear HF hal hbl hcl a0 b0 c0 hx hh x0
    go_enter Tryd.func70, Tryd.ntmps70
    go_wp2_with (first | (go_at_call 78; with_reducible refine (nameL_any _ kLow isLower_tells isLower_enters kLow_hi s _ HM.out 0 HA.out).mono ?_; rintro e w' ⟨rfl, hbA⟩) | (go_at_call 78; with_reducible refine (nameL_any _ kUp isUpper_tells isUpper_enters kUp_hi s _ HM.out 0 HB.out).mono ?_; rintro e w' ⟨rfl, hbB⟩) | (go_at_call 93; refine (HC.out _).mono ?_; rintro e w' ⟨rfl, hbC⟩) | (go_at_call 95; refine (HD.out _).mono ?_; rintro e w' ⟨rfl, rfl⟩))
    go_ret3
    exact ⟨by rw [hr.out]; rfl, hbA.trans ((hbB.trans (hbC.mono hbB.size)).mono hbA.size)⟩
  · have hr : Hid (ret3 (fst3 s.data.toList) = ret3 (0, 0, 8)) := by show _ = _; rw [HF.out, if_neg a0, if_neg b0, if_neg c0, if_neg (fun e => x0 (hh.1 e)), if_neg d0]
    have d0' : d = 0 := by omega
    subst d0'
    clear HF hal hbl hcl hdl a0 b0 c0 hx hh x0 d0
    go_enter Tryd.func70, Tryd.ntmps70
    go_wp2_with (first | (go_at_call 78; with_reducible refine (nameL_any _ kLow isLower_tells isLower_enters kLow_hi s _ HM.out 0 HA.out).mono ?_; rintro e w' ⟨rfl, hbA⟩) | (go_at_call 78; with_reducible refine (nameL_any _ kUp isUpper_tells isUpper_enters kUp_hi s _ HM.out 0 HB.out).mono ?_; rintro e w' ⟨rfl, hbB⟩) | (go_at_call 93; refine (HC.out _).mono ?_; rintro e w' ⟨rfl, hbC⟩) | (go_at_call 95; refine (HD.out _).mono ?_; rintro e w' ⟨rfl, rfl⟩))
    go_ret3
    exact ⟨by rw [hr.out]; rfl, hbA.trans ((hbB.trans (hbC.mono hbB.size)).mono hbA.size)⟩
end Go.Proofs.YtlnmcegnnncepaaDoor
