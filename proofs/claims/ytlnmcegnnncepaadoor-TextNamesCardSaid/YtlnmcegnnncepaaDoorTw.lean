/- Walks over package text and its reference: Name, Feature, Word. -/
import Derived.Test.YtlnmcegnnncepaaDoorTm
namespace Go.Proofs.YtlnmcegnnncepaaDoor
open Go.RowKit

/-- A kind of bytes. -/
def by8 (K : Nat → Bool) (b : UInt8) : Bool := K b.toNat
theorem kind_low {K : Nat → Bool} (h : ∀ c, 128 ≤ c → K c = false) : Kind K (by8 K) false := ⟨fun _ _ => rfl, h, fun b hb => h _ hb⟩
theorem kLow_hi (c : Nat) (h : 128 ≤ c) : kLow c = false := by simp [kLow]; omega
theorem kUp_hi (c : Nat) (h : 128 ≤ c) : kUp c = false := by simp [kUp]; omega
theorem kDig_hi (c : Nat) (h : 128 ≤ c) : kDig c = false := by simp [kDig]; omega
theorem kPri_hi (c : Nat) (h : 128 ≤ c) : kPri c = false := by simp [kPri]; omega
theorem kPart_hi {K : Nat → Bool} (hK : ∀ c, 128 ≤ c → K c = false) (c : Nat) (h : 128 ≤ c) : kPart K c = false := by
  simp [kPart, hK c h, kDig_hi c h]; omega
theorem kSpc_hi (c : Nat) (h : 128 ≤ c) : kSpc c = false := by simp [kSpc]; omega
theorem kWrd_hi (c : Nat) (h : 128 ≤ c) : kWrd c = false := by simp [kWrd, kPri_hi c h]
theorem kStr_hi (c : Nat) (h : 128 ≤ c) : kStr c = false := by simp [kStr, kPri_hi c h]

/-- Whether a string is a name whose first byte is a letter of this kind. -/
def isNam (K : Nat → Bool) (l : List UInt8) : Bool :=
  decide (0 < nameLen (by8 K) (by8 (kPart K)) l) && (nameLen (by8 K) (by8 (kPart K)) l == l.length) && decide (l.length ≤ 32)

theorem nameLen_le (p q : UInt8 → Bool) (l : List UInt8) : nameLen p q l ≤ l.length := by
  cases l with
  | nil => exact Nat.le_refl _
  | cons b l => simp only [nameLen]; split; exact pre_le _ _; exact Nat.zero_le _

theorem named_any (f : FuncId) (K : Nat → Bool) (hf : Tells f K) (he : Enters f) (hhi : ∀ c, 128 ≤ c → K c = false) (s : ByteArray) (w : World) (hs : s.size ≤ maxLen) :
    Calls Tryd.prog 54 #[.string s, .func (.func f) #[] #[]] w fun e w' => e = .returned (.bool (isNam K s.data.toList)) ∧ Below w.heap.size w w' := by
  have HF := Lib.hid hf
  have HE := Lib.hid he
  have HH := Lib.hid hhi
  have hl := nameLen_le (by8 K) (by8 (kPart K)) s.data.toList
  have hsz : s.data.toList.length = s.size := by simp
  rw [hsz] at hl
  obtain ⟨n, hn⟩ : ∃ n, nameLen (by8 K) (by8 (kPart K)) s.data.toList = n := ⟨_, rfl⟩
  have hres : Hid (isNam K s.data.toList = (decide (0 < n) && (n == s.size) && decide (s.size ≤ 32))) := by show _ = _; unfold isNam; rw [hn, hsz]
  rw [hn] at hl
  have HS := Lib.hid hs
  have HN := Lib.hid hn
  have e1 : (((n : Nat) : Int) == ((s.size : Nat) : Int)) = (n == s.size) := eq_cast n s.size
  have e2 : decide ((0 : Int) < ((n : Nat) : Int)) = decide (0 < n) := by rw [decide_eq_decide]; omega
  have e3 : decide (((n : Nat) : Int) ≤ 32) = decide (n ≤ 32) := le_cast1 n 32
  unfold maxLen at hs
  clear hf he hhi hsz hn
  cases h1 : (n == s.size) <;> cases h2 : decide (0 < n) <;> cases h3 : decide (n ≤ 32)
  all_goals
    rw [h1] at e1
    rw [h2] at e2
    rw [h3] at e3
    have hres' : Hid (isNam K s.data.toList = (decide (0 < n) && (n == s.size) && decide (n ≤ 32))) := by
      show _ = _
      rw [hres.out]
      by_cases h : n = s.size
      · rw [h]
      · have : (n == s.size) = false := by simpa using h
        rw [this]; simp
    have H1 := Lib.hid h1
    have H2 := Lib.hid h2
    have H3 := Lib.hid h3
    clear h1 h3 hres
    go_enter Tryd.func54, Tryd.ntmps54
    go_wp2_with fail
    refine (nameLength_any f K (by8 K) (by8 (kPart K)) HF.out HE.out (fun _ => rfl) (kind_low (kPart_hi HH.out)) s w HS.out).mono ?_
    rw [HN.out]
    rintro e w' ⟨rfl, hb⟩
    go_wp2
    go_ret
    exact ⟨by rw [hres'.out, H1.out, H2.out, H3.out]; rfl, hb⟩
end Go.Proofs.YtlnmcegnnncepaaDoor
