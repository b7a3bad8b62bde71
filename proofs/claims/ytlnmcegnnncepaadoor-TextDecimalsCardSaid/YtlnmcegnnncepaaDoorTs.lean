/- Walks of package text: the parts of Scan. -/
import Derived.Test.YtlnmcegnnncepaaDoorTo
namespace Go.Proofs.YtlnmcegnnncepaaDoor
open Go.RowKit

/-- A name or a feature of this length. -/
def lim (k n : Nat) : Nat × Nat × Int := if 32 < n then (0, 0, 7) else (k, n, 0)
def numLen (l : List UInt8) : Nat := if pre (by8 kDig) (dg l) = 0 then 0 else l.length - (dg l).length + pre (by8 kDig) (dg l)
def quo (l : List UInt8) : Nat × Nat × Int :=
  if 1 + pre (by8 kStr) l.tail = l.length then (0, 0, 9)
  else if l.getD (1 + pre (by8 kStr) l.tail) 0 = 34 then (3, 1 + pre (by8 kStr) l.tail + 1, 0) else (0, 0, 8)
def syms : List UInt8 := [40, 41, 91, 93, 60, 62, 123, 125, 44, 46, 59, 58, 61, 38, 124, 47, 35, 64]
def symLen (l : List UInt8) : Nat :=
  if Lib.hasPrefix l [60, 33] || Lib.hasPrefix l [33, 62] then 2 else if syms.contains (l.headD 0) then 1 else 0
def nam (K : Nat → Bool) (l : List UInt8) : Nat := nameLen (by8 K) (by8 (kPart K)) l
/-- Kind, length, error of the token at the beginning. -/
def fst3 (l : List UInt8) : Nat × Nat × Int :=
  if 0 < nam kLow l then lim 1 (nam kLow l)
  else if 0 < nam kUp l then lim 2 (nam kUp l)
  else if 0 < numLen l then (4, numLen l, numE (l.take (numLen l)))
  else if l.headD 0 = 34 then quo l
  else if 0 < symLen l then (5, symLen l, 0)
  else (0, 0, 8)
def sepLen (l : List UInt8) : Nat := if l.headD 0 = 37 then pre (by8 kCom) l else pre (by8 kSpc) l
/-- Three numbers returned. -/
def ret3 (p : Nat × Nat × Int) : Ending := .returned (.tuple #[.int .i64 ((p.1 : Nat) : Int), .int .i64 ((p.2.1 : Nat) : Int), .int .i64 p.2.2])

theorem kind_com : Kind kCom (by8 kCom) true := ⟨fun _ _ => rfl, fun c h => by simp [kCom]; omega, fun b h => by simp [by8, kCom]; intro e; rw [e] at h; exact absurd h (by decide)⟩
theorem head_bn {s : ByteArray} (h : 0 < s.size) : (s.data.toList.headD 0).toNat = bn s 0 := by
  have hb := byte_at s 0 h
  unfold bn
  cases hl : s.data.toList with
  | nil => rw [hl] at hb; cases hb
  | cons b r => simp
theorem head_is {s : ByteArray} (h : 0 < s.size) (c : UInt8) : (s.data.toList.headD 0 = c) ↔ bn s 0 = c.toNat := by
  rw [← head_bn h]
  constructor
  · intro e; rw [e]
  · intro e; exact UInt8.toNat_inj.1 e

theorem limited_any (k n : Nat) (w : World) (hk : k ≤ 5) (hn : n ≤ 1000000) :
    Calls Tryd.prog 92 #[.int .i64 ((k : Nat) : Int), .int .i64 ((n : Nat) : Int)] w fun e w' => e = ret3 (lim k n) ∧ w = w' := by
  by_cases h : 32 < n
  · have hr : Hid (ret3 (lim k n) = ret3 (0, 0, 7)) := by show _ = _; rw [lim, if_pos h]
    go_enter Tryd.func92, Tryd.ntmps92
    go_wp2
    go_ret3
    exact ⟨by rw [hr.out]; rfl, rfl⟩
  · have hr : Hid (ret3 (lim k n) = ret3 (k, n, 0)) := by show _ = _; rw [lim, if_neg h]
    have h' : n ≤ 32 := by omega
    clear h
    go_enter Tryd.func92, Tryd.ntmps92
    go_wp2
    go_ret3
    exact ⟨by rw [hr.out]; rfl, rfl⟩

theorem separator_any (s : ByteArray) (w : World) (hs : s.size ≤ 1000000) (hp : 0 < s.size) :
    Calls Tryd.prog 68 #[.string s] w fun e w' => e = .returned (.int .i64 ((sepLen s.data.toList : Nat) : Int)) ∧ Below w.heap.size w w' := by
  have HM := Lib.hid (show s.size ≤ maxLen by unfold maxLen; omega)
  have hb0 := bn_int s 0 hp
  have hl0 := bn_lt s 0
  have hh := head_is hp 37
  obtain ⟨n, hn⟩ : ∃ n, bn s 0 = n := ⟨_, rfl⟩
  rw [hn] at hb0 hl0 hh
  by_cases h : n = 37
  · subst h
    have hr : Hid (sepLen s.data.toList = pre (by8 kCom) s.data.toList) := by show _ = _; rw [sepLen, if_pos (hh.2 rfl)]
    clear hh hn
    go_enter Tryd.func68, Tryd.ntmps68
    go_wp2_with (go_at_call 58; refine (prefix_any _ kCom (by8 kCom) true inComment_tells inComment_enters kind_com s _ HM.out).mono ?_; rintro e w' ⟨rfl, hb⟩)
    go_ret
    exact ⟨by rw [hr.out]; rfl, hb⟩
  · have hr : Hid (sepLen s.data.toList = pre (by8 kSpc) s.data.toList) := by show _ = _; rw [sepLen, if_neg (fun e => h (hh.1 e))]
    have e37 : (((n : Nat) : Int) == 37) = false := by rw [beq_eq_false_iff_ne]; omega
    clear hh hn h
    go_enter Tryd.func68, Tryd.ntmps68
    go_wp2_with (go_at_call 58; refine (prefix_any _ kSpc (by8 kSpc) false isSpace_tells isSpace_enters (kind_low kSpc_hi) s _ HM.out).mono ?_; rintro e w' ⟨rfl, hb⟩)
    go_ret
    exact ⟨by rw [hr.out]; rfl, hb⟩

theorem numberLength_any (s : ByteArray) (w : World) (hs : s.size ≤ 1000000) :
    Calls Tryd.prog 93 #[.string s] w fun e w' => e = .returned (.int .i64 ((numLen s.data.toList : Nat) : Int)) ∧ Below w.heap.size w w' := by
  obtain ⟨d, hd⟩ : ∃ d : ByteArray, d.data.toList = dg s.data.toList := ⟨mk (dg s.data.toList), mk_list _⟩
  have hdl : d.size ≤ s.size := by
    rw [← size_list d, hd, ← size_list s]
    unfold dg
    split
    · simp
    · exact Nat.le_refl _
  have HM := Lib.hid (show d.size ≤ maxLen by unfold maxLen; omega)
  have hres : numLen s.data.toList = if pre (by8 kDig) d.data.toList = 0 then 0 else s.size - d.size + pre (by8 kDig) d.data.toList := by
    unfold numLen
    rw [← hd, size_list, size_list]
  have hnl := pre_le (by8 kDig) d.data.toList
  obtain ⟨n, hn⟩ : ∃ n, pre (by8 kDig) d.data.toList = n := ⟨_, rfl⟩
  rw [hn, size_list] at hnl
  rw [hn] at hres
  have HD := Lib.hid hd
  have HN := Lib.hid hn
  have HR := Lib.hid hres
  clear hd hn hres
  by_cases h : n = 0
  · have hr : Hid (numLen s.data.toList = 0) := by show _ = _; rw [HR.out, if_pos h]
    subst h
    clear HR
    go_enter Tryd.func93, Tryd.ntmps93
    go_wp2_with (first | (go_at_call 80; refine (Trim_any s _ HD.out _).mono ?_; rintro e w' ⟨rfl, rfl⟩) | (go_at_call 58; refine (prefix_any _ kDig (by8 kDig) false isDigit_tells isDigit_enters (kind_low kDig_hi) d _ HM.out).mono ?_; rw [HN.out]; rintro e w' ⟨rfl, hb⟩))
    go_ret
    exact ⟨by rw [hr.out]; rfl, hb⟩
  · have hr : Hid (numLen s.data.toList = s.size - d.size + n) := by show _ = _; rw [HR.out, if_neg h]
    have e0 : (((n : Nat) : Int) == 0) = false := by rw [beq_eq_false_iff_ne]; omega
    have hsub : ((s.size - d.size + n : Nat) : Int) = (s.size : Int) - (d.size : Int) + (n : Int) := by omega
    have HSub := Lib.hid hsub
    clear HR h hsub
    go_enter Tryd.func93, Tryd.ntmps93
    go_wp2_with (first | (go_at_call 80; refine (Trim_any s _ HD.out _).mono ?_; rintro e w' ⟨rfl, rfl⟩) | (go_at_call 58; refine (prefix_any _ kDig (by8 kDig) false isDigit_tells isDigit_enters (kind_low kDig_hi) d _ HM.out).mono ?_; rw [HN.out]; rintro e w' ⟨rfl, hb⟩))
    go_ret
    exact ⟨by rw [hr.out, HSub.out]; rfl, hb⟩
end Go.Proofs.YtlnmcegnnncepaaDoor
