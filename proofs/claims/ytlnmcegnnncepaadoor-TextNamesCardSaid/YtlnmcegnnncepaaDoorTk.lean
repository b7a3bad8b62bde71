/- Walks over package text: the kinds of characters, and prefix. -/
import Derived.Test.YtlnmcegnnncepaaDoorProg
import Derived.Test.YtlnmcegnnncepaaDoorTp
import Derived.WalkKit
import Derived.Deep.QuietTactic
import Derived.BigQuiet
namespace Go.Proofs.YtlnmcegnnncepaaDoor
open Go.RowKit

def kLow (c : Nat) : Bool := decide (97 ≤ c) && decide (c ≤ 122)
def kUp (c : Nat) : Bool := decide (65 ≤ c) && decide (c ≤ 90)
def kDig (c : Nat) : Bool := decide (48 ≤ c) && decide (c ≤ 57)
def kPri (c : Nat) : Bool := decide (32 ≤ c) && decide (c ≤ 126)
def kSpc (c : Nat) : Bool := c == 32 || c == 9 || c == 13 || c == 10
def kWrd (c : Nat) : Bool := kPri c && c != 32 && !kUp c && c != 34 && c != 92
def kStr (c : Nat) : Bool := kPri c && c != 34
def kCom (c : Nat) : Bool := c != 10

/-- The function f tells of every character whether it is of the kind. -/
def Tells (f : FuncId) (K : Nat → Bool) : Prop := ∀ (c : Nat) (w : World), c ≤ 2147483647 → Calls Tryd.prog f #[.int .i32 c] w fun e w' => e = .returned (.bool (K c)) ∧ w = w'

theorem le_cast1 (a b : Nat) : decide (((a : Nat) : Int) ≤ ((b : Nat) : Int)) = decide (a ≤ b) := by
  rw [decide_eq_decide]; omega
theorem isLower_tells : Tells 55 kLow := by
  intro c w _
  unfold kLow
  have e1 : decide ((97 : Int) ≤ ((c : Nat) : Int)) = decide (97 ≤ c) := le_cast1 97 c
  have e2 : decide (((c : Nat) : Int) ≤ 122) = decide (c ≤ 122) := le_cast1 c 122
  cases h1 : decide (97 ≤ c) <;> cases h2 : decide (c ≤ 122)
  all_goals
    rw [h1] at e1
    rw [h2] at e2
    clear h1 h2
    go_enter Tryd.func55, Tryd.ntmps55
    go_wp2
    go_ret
    exact ⟨rfl, rfl⟩
theorem isUpper_tells : Tells 57 kUp := by
  intro c w _
  unfold kUp
  have e1 : decide ((65 : Int) ≤ ((c : Nat) : Int)) = decide (65 ≤ c) := le_cast1 65 c
  have e2 : decide (((c : Nat) : Int) ≤ 90) = decide (c ≤ 90) := le_cast1 c 90
  cases h1 : decide (65 ≤ c) <;> cases h2 : decide (c ≤ 90)
  all_goals
    rw [h1] at e1
    rw [h2] at e2
    clear h1 h2
    go_enter Tryd.func57, Tryd.ntmps57
    go_wp2
    go_ret
    exact ⟨rfl, rfl⟩
theorem isDigit_tells : Tells 81 kDig := by
  intro c w _
  unfold kDig
  have e1 : decide ((48 : Int) ≤ ((c : Nat) : Int)) = decide (48 ≤ c) := le_cast1 48 c
  have e2 : decide (((c : Nat) : Int) ≤ 57) = decide (c ≤ 57) := le_cast1 c 57
  cases h1 : decide (48 ≤ c) <;> cases h2 : decide (c ≤ 57)
  all_goals
    rw [h1] at e1
    rw [h2] at e2
    clear h1 h2
    go_enter Tryd.func81, Tryd.ntmps81
    go_wp2
    go_ret
    exact ⟨rfl, rfl⟩
theorem isPrintable_tells : Tells 65 kPri := by
  intro c w _
  unfold kPri
  have e1 : decide ((32 : Int) ≤ ((c : Nat) : Int)) = decide (32 ≤ c) := le_cast1 32 c
  have e2 : decide (((c : Nat) : Int) ≤ 126) = decide (c ≤ 126) := le_cast1 c 126
  cases h1 : decide (32 ≤ c) <;> cases h2 : decide (c ≤ 126)
  all_goals
    rw [h1] at e1
    rw [h2] at e2
    clear h1 h2
    go_enter Tryd.func65, Tryd.ntmps65
    go_wp2
    go_ret
    exact ⟨rfl, rfl⟩
theorem eq_cast (c k : Nat) : (((c : Nat) : Int) == ((k : Nat) : Int)) = (c == k) := by
  rw [Bool.eq_iff_iff]; simp; omega
theorem ne_cast (c k : Nat) : (((c : Nat) : Int) != ((k : Nat) : Int)) = (c != k) := by
  rw [Bool.eq_iff_iff]; simp; omega

theorem isSpace_tells : Tells 88 kSpc := by
  intro c w hc
  unfold kSpc
  have e1 : (((c : Nat) : Int) == 32) = (c == 32) := eq_cast c 32
  have e2 : (((c : Nat) : Int) == 9) = (c == 9) := eq_cast c 9
  have e3 : (((c : Nat) : Int) == 13) = (c == 13) := eq_cast c 13
  have e4 : (((c : Nat) : Int) == 10) = (c == 10) := eq_cast c 10
  cases h1 : (c == 32) <;> cases h2 : (c == 9) <;> cases h3 : (c == 13) <;> cases h4 : (c == 10)
  all_goals
    rw [h1] at e1
    rw [h2] at e2
    rw [h3] at e3
    rw [h4] at e4
    clear h1 h2 h3 h4
    go_enter Tryd.func88, Tryd.ntmps88
    go_wp2
    go_ret
    exact ⟨rfl, rfl⟩

theorem tells_val {f : FuncId} {K : Nat → Bool} (h : Tells f K) (b : Bool) (c : Nat) (w : World) (hc : c ≤ 2147483647) (hb : K c = b) : Calls Tryd.prog f #[.int .i32 c] w fun e w' => e = .returned (.bool b) ∧ w = w' := hb ▸ h c w hc

theorem inString_tells : Tells 111 kStr := by
  intro c w hc
  unfold kStr
  have e1 : (((c : Nat) : Int) != 34) = (c != 34) := ne_cast c 34
  cases h1 : (c != 34) <;> cases h2 : kPri c
  all_goals
    rw [h1] at e1
    have H2 := Lib.hid h2
    clear h1 h2
    go_enter Tryd.func111, Tryd.ntmps111
    go_wp2_with (go_at_call 65; refine (tells_val isPrintable_tells _ _ _ hc H2.out).mono ?_; rintro e w' ⟨rfl, rfl⟩)
    go_ret
    exact ⟨rfl, rfl⟩
theorem inComment_tells : Tells 87 kCom := by
  intro c w hc
  unfold kCom
  have e1 : (((c : Nat) : Int) != 10) = (c != 10) := ne_cast c 10
  cases h1 : (c != 10)
  all_goals
    rw [h1] at e1
    clear h1
    go_enter Tryd.func87, Tryd.ntmps87
    go_wp2
    go_ret
    exact ⟨rfl, rfl⟩
theorem inWord_tells : Tells 59 kWrd := by
  intro c w hc
  unfold kWrd
  have e1 : (((c : Nat) : Int) != 32) = (c != 32) := ne_cast c 32
  have e2 : (((c : Nat) : Int) != 34) = (c != 34) := ne_cast c 34
  have e3 : (((c : Nat) : Int) != 92) = (c != 92) := ne_cast c 92
  cases h1 : (c != 32) <;> cases h2 : (c != 34) <;> cases h3 : (c != 92) <;> cases h4 : kPri c <;> cases h5 : kUp c
  all_goals
    rw [h1] at e1
    rw [h2] at e2
    rw [h3] at e3
    have H4 := Lib.hid h4
    have H5 := Lib.hid h5
    clear h1 h2 h3 h4 h5
    go_enter Tryd.func59, Tryd.ntmps59
    go_wp2_with (first | (go_at_call 65; refine (tells_val isPrintable_tells _ _ _ hc H4.out).mono ?_; rintro e w' ⟨rfl, rfl⟩) | (go_at_call 57; refine (tells_val isUpper_tells _ _ _ hc H5.out).mono ?_; rintro e w' ⟨rfl, rfl⟩))
    go_ret
    exact ⟨rfl, rfl⟩

/-- The function f has a body in this program. -/
def Enters (f : FuncId) : Prop := ∀ (args : Array Value) (w : World), (callFunc f args).run Tryd.prog w = .ok (.enter f args) w
theorem isLower_enters : Enters 55 := fun _ _ => by kernel_rfl
theorem isUpper_enters : Enters 57 := fun _ _ => by kernel_rfl
theorem isDigit_enters : Enters 81 := fun _ _ => by kernel_rfl
theorem isPrintable_enters : Enters 65 := fun _ _ => by kernel_rfl
theorem isSpace_enters : Enters 88 := fun _ _ => by kernel_rfl
theorem inWord_enters : Enters 59 := fun _ _ => by kernel_rfl
theorem inString_enters : Enters 111 := fun _ _ => by kernel_rfl
theorem inComment_enters : Enters 87 := fun _ _ => by kernel_rfl

set_option maxRecDepth 100000 in
theorem prefix_any (f : FuncId) (K : Nat → Bool) (p : UInt8 → Bool) (hi : Bool) (hf : Tells f K) (he : Enters f) (hk : Kind K p hi) (s : ByteArray) (w : World) (hs : s.size ≤ maxLen) :
    Calls Tryd.prog 58 #[.string s, .func (.func f) #[] #[]] w fun e w' => e = .returned (.int .i64 ((pre p s.data.toList : Nat) : Int)) ∧ Below w.heap.size w w' := by
  have HF := Lib.hid hf
  have HK := Lib.hid hk
  unfold maxLen at hs
  clear hf hk
  unfold Enters at he
  go_enter Tryd.func58, Tryd.ntmps58
  go_wp2
  go_loopw [4] (fun n wr => ∃ pos, wr = w.iter s pos ∧ Hid (Upto p s pos)) (fun _ wr => s.size - wr.iterPos w.heap.size)
  case atStart => exact ⟨0, rfl, Nat.zero_le _, fun j hj => absurd hj (Nat.not_lt_zero _)⟩
  case round =>
    obtain ⟨pos, rfl, hu⟩ := hrel
    by_cases hp : pos < s.size
    · have hnx : ∀ ty, (Instr.next (.pointer (some ⟨w.heap.size, 0, none⟩)) true ty).run Tryd.prog (w.iter s pos) = _ := fun ty => run_next_any w s pos ty hp
      have hd := decode_le s pos
      have hwd := width_pos s pos hp
      have hnext := Lib.hid (HK.out.next hu.out hp)
      have hhalt := Lib.hid (HK.out.halt hu.out hp)
      obtain ⟨c, hc⟩ : ∃ c, (Utf8.decode s pos).1 = c := ⟨_, rfl⟩
      obtain ⟨wd, hw⟩ : ∃ c, (Utf8.decode s pos).2 = c := ⟨_, rfl⟩
      rw [hc, hw] at hnx
      rw [hc] at hd
      rw [hw] at hwd
      rw [hc, hw] at hnext
      rw [hc] at hhalt
      clear hc hw
      cases hkc : K c
      · have HC := Lib.hid hkc
        have hpre := Lib.hid (hhalt.out hkc)
        clear hkc hnext hhalt
        go_wp2_with fail
        refine (tells_val HF.out false c _ hd HC.out).mono ?_
        rintro e w' ⟨rfl, rfl⟩
        go_wp2
        go_ret
        exact ⟨by rw [hpre.out]; rfl, (Below.refl _ _).alloc (Nat.le_refl _) _⟩
      · have HC := Lib.hid hkc
        have hup := Lib.hid (hnext.out hkc)
        clear hkc hnext hhalt
        go_wp2_with fail
        refine (tells_val HF.out true c _ hd HC.out).mono ?_
        rintro e w' ⟨rfl, rfl⟩
        go_wp2
        go_roundw
        case rel => exact ⟨pos + wd, rfl, hup⟩
        case measure => simp; omega
    · have hnx : ∀ ty, (Instr.next (.pointer (some ⟨w.heap.size, 0, none⟩)) true ty).run Tryd.prog (w.iter s pos) = _ := fun ty => run_next_end w s pos ty hp
      have hpre := Lib.hid (hu.out.end hp)
      go_wp2
      go_ret
      exact ⟨by rw [hpre.out]; rfl, (Below.refl _ _).alloc (Nat.le_refl _) _⟩
end Go.Proofs.YtlnmcegnnncepaaDoor
