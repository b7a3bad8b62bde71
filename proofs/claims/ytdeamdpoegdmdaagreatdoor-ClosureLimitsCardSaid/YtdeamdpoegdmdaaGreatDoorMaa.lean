/- Texts joined by wip/gen/merge.py: Tp Na Nb Pa Pb Pc Pd Pe Pf Pg Ph Pi Pj Pk Pn Po. -/
import Derived.Laws.RangeAny
import Derived.Lib.IndexBytes
import Derived.Lib.Hide
import Derived.Test.YtdeamdpoegdmdaaGreatDoorProg
import Derived.WalkKit
import Derived.Deep.QuietTactic
import Derived.BigQuiet
import Derived.WalkSmall
import Derived.Laws.AppendOwn
import Derived.Maps.AppendAt
import Derived.Laws.AppendOwnNone
import Derived.Outline
import Derived.WalkLawsBesides
import Derived.Sort.Walk0
set_option linter.unusedVariables false
set_option linter.unusedSimpArgs false
/- Plain: prefixes of strings, byte by byte and character by character. Imports no walk. -/
namespace Go.Proofs.YtdeamdpoegdmdaaGreatDoor

/-- The length of the longest beginning whose bytes are all of a kind. -/
def pre (p : UInt8 → Bool) (l : List UInt8) : Nat := (l.takeWhile p).length

theorem pre_le (p : UInt8 → Bool) (l : List UInt8) : pre p l ≤ l.length := by
  have := (List.takeWhile_prefix p (l := l)).length_le
  exact this
theorem pre_cons (p : UInt8 → Bool) (b : UInt8) (l : List UInt8) : pre p (b :: l) = if p b then pre p l + 1 else 0 := by
  unfold pre
  rw [List.takeWhile_cons]
  split <;> simp
theorem pre_stop {p : UInt8 → Bool} : ∀ {l : List UInt8} {k : Nat}, (∀ j, j < k → ∃ b, l[j]? = some b ∧ p b = true) → (∀ b, l[k]? = some b → p b = false) → k ≤ l.length → pre p l = k
  | [], k, _, _, h => by have : k = 0 := by simpa using h
                         subst this; rfl
  | b :: l, 0, _, h2, _ => by rw [pre_cons, if_neg]; have := h2 b rfl; simp [this]
  | b :: l, k + 1, h1, h2, h3 => by
    obtain ⟨b', e, hb⟩ := h1 0 (by omega)
    cases e
    rw [pre_cons, if_pos hb, pre_stop (k := k) (fun j hj => by simpa using h1 (j + 1) (by omega)) (fun c hc => h2 c (by simpa using hc)) (by simpa using h3)]

/-- All bytes before a place are of a kind. -/
def Upto (p : UInt8 → Bool) (s : ByteArray) (k : Nat) : Prop := k ≤ s.size ∧ ∀ j, j < k → ∃ b, s.data.toList[j]? = some b ∧ p b = true

theorem byte_at (s : ByteArray) (k : Nat) (h : k < s.size) : s.data.toList[k]? = some (s[k]'h) := by
  rw [List.getElem?_eq_getElem (by simpa using h)]
  rfl

theorem Upto.end {p : UInt8 → Bool} {s : ByteArray} {k : Nat} (h : Upto p s k) (hk : ¬ k < s.size) : pre p s.data.toList = s.size := by
  have e : k = s.size := by have := h.1; omega
  subst e
  exact pre_stop h.2 (fun b hb => by rw [List.getElem?_eq_none (by simp)] at hb; cases hb) (by simp)
theorem Upto.stop {p : UInt8 → Bool} {s : ByteArray} {k : Nat} (h : Upto p s k) (hk : k < s.size) (hb : p (s[k]'hk) = false) : pre p s.data.toList = k :=
  pre_stop h.2 (fun b hb' => by rw [byte_at s k hk] at hb'; cases hb'; exact hb) (by have := h.1; simpa using this)
theorem Upto.one {p : UInt8 → Bool} {s : ByteArray} {k : Nat} (h : Upto p s k) (hk : k < s.size) (hb : p (s[k]'hk) = true) : Upto p s (k + 1) :=
  ⟨by omega, fun j hj => by
    rcases Nat.lt_succ_iff_lt_or_eq.1 hj with h1 | h1
    · exact h.2 j h1
    · subst h1; exact ⟨_, byte_at s j hk, hb⟩⟩

/-- A character of several bytes has no byte below 128. -/
theorem decode_wide (s : ByteArray) (pos : Nat) (h : pos < s.size) (ha : 128 ≤ (s[pos]'h).toNat) :
    ∀ j, j < (Utf8.decode s pos).2 → ∃ hj : pos + j < s.size, 128 ≤ (s[pos + j]'hj).toNat := by
  have hget : ∀ k (hk : pos + k < s.size), s.get! (pos + k) = s[pos + k]'hk := fun k hk => by
    simp [ByteArray.get!, getElem!_pos, hk]
    rfl
  have hcont : ∀ k, (decide (pos + k < s.size) && (s.get! (pos + k)).toNat / 64 == 2) = true → ∃ hj : pos + k < s.size, 128 ≤ (s[pos + k]'hj).toNat := by
    intro k hk
    simp only [Bool.and_eq_true, decide_eq_true_eq, beq_iff_eq] at hk
    obtain ⟨h1, h2⟩ := hk
    rw [hget k h1] at h2
    exact ⟨h1, by omega⟩
  intro j hj
  match j, hj with
  | 0, _ => exact ⟨h, ha⟩
  | j + 1, hj =>
    revert hj
    simp only [Utf8.decode]
    split
    · intro hj; omega
    · split
      · rename_i hc
        simp only [Bool.and_eq_true] at hc
        split
        · intro hj
          have : j = 0 := by omega
          subst this
          exact hcont 1 (by simpa using hc.2)
        · intro hj; omega
      · split
        · rename_i hc
          simp only [Bool.and_eq_true] at hc
          split
          · intro hj
            rcases (by omega : j = 0 ∨ j = 1) with e | e
            · subst e; exact hcont 1 (by simpa using hc.1.2)
            · subst e; exact hcont 2 (by simpa using hc.2)
          · intro hj; omega
        · split
          · rename_i hc
            simp only [Bool.and_eq_true] at hc
            split
            · intro hj
              rcases (by omega : j = 0 ∨ j = 1 ∨ j = 2) with e | e | e
              · subst e; exact hcont 1 (by simpa using hc.1.1.2)
              · subst e; exact hcont 2 (by simpa using hc.1.2)
              · subst e; exact hcont 3 (by simpa using hc.2)
            · intro hj; omega
          · intro hj; omega

/-- A kind of characters, and the same of bytes: all characters above 127 are of the kind, or none. -/
structure Kind (K : Nat → Bool) (p : UInt8 → Bool) (hi : Bool) : Prop where
  low : ∀ b : UInt8, b.toNat < 128 → K b.toNat = p b
  high : ∀ c, 128 ≤ c → K c = hi
  byte : ∀ b : UInt8, 128 ≤ b.toNat → p b = hi

theorem Kind.next {K : Nat → Bool} {p : UInt8 → Bool} {hi : Bool} (hk : Kind K p hi) {s : ByteArray} {k : Nat} (h : Upto p s k) (hlt : k < s.size) (hy : K (Utf8.decode s k).1 = true) : Upto p s (k + (Utf8.decode s k).2) := by
  by_cases ha : (s[k]'hlt).toNat < 128
  · rw [decode_ascii s k hlt ha] at hy ⊢
    exact h.one hlt (by rw [← hk.low _ ha]; exact hy)
  · have ha : 128 ≤ (s[k]'hlt).toNat := by omega
    have hd := decode_high s k hlt ha
    rw [hk.high _ hd.1] at hy
    subst hy
    have hw := decode_wide s k hlt ha
    refine ⟨?_, fun j hj => ?_⟩
    · obtain ⟨h1, _⟩ := hw ((Utf8.decode s k).2 - 1) (by omega)
      omega
    · by_cases hjk : j < k
      · exact h.2 j hjk
      · obtain ⟨h1, h2⟩ := hw (j - k) (by omega)
        have e : k + (j - k) = j := by omega
        simp only [e] at h1 h2
        exact ⟨_, byte_at s j h1, hk.byte _ h2⟩
theorem Kind.halt {K : Nat → Bool} {p : UInt8 → Bool} {hi : Bool} (hk : Kind K p hi) {s : ByteArray} {k : Nat} (h : Upto p s k) (hlt : k < s.size) (hn : K (Utf8.decode s k).1 = false) : pre p s.data.toList = k := by
  by_cases ha : (s[k]'hlt).toNat < 128
  · rw [decode_ascii s k hlt ha] at hn
    exact h.stop hlt (by rw [← hk.low _ ha]; exact hn)
  · have ha : 128 ≤ (s[k]'hlt).toNat := by omega
    have hd := decode_high s k hlt ha
    rw [hk.high _ hd.1] at hn
    exact h.stop hlt (by rw [hk.byte _ ha]; exact hn)
theorem width_pos (s : ByteArray) (pos : Nat) (h : pos < s.size) : 1 ≤ (Utf8.decode s pos).2 := by
  by_cases ha : (s[pos]'h).toNat < 128
  · rw [decode_ascii s pos h ha]
    exact Nat.le_refl _
  · exact (decode_high s pos h (by omega)).2
end Go.Proofs.YtdeamdpoegdmdaaGreatDoor

/- text.Name, as the program has it. -/
namespace Go.Proofs.YtdeamdpoegdmdaaGreatDoor
open Go.RowKit

def kLow (c : Nat) : Bool := decide (97 ≤ c) && decide (c ≤ 122)
def kUp (c : Nat) : Bool := decide (65 ≤ c) && decide (c ≤ 90)
def kDig (c : Nat) : Bool := decide (48 ≤ c) && decide (c ≤ 57)
def kPri (c : Nat) : Bool := decide (32 ≤ c) && decide (c ≤ 126)
def kSpc (c : Nat) : Bool := c == 32 || c == 9 || c == 13 || c == 10
def kWrd (c : Nat) : Bool := kPri c && c != 32 && !kUp c && c != 34 && c != 92
def kStr (c : Nat) : Bool := kPri c && c != 34
def kCom (c : Nat) : Bool := c != 10

/-- The function f tells of every character whether it is of the kind. -/
def Tells (f : FuncId) (K : Nat → Bool) : Prop := ∀ (c : Nat) (w : World), c ≤ 2147483647 → Calls Tryz.prog f #[.int .i32 c] w fun e w' => e = .returned (.bool (K c)) ∧ w = w'

theorem le_cast1 (a b : Nat) : decide (((a : Nat) : Int) ≤ ((b : Nat) : Int)) = decide (a ≤ b) := by
  rw [decide_eq_decide]; omega
theorem isLower_tells : Tells 168 kLow := by
  intro c w _
  unfold kLow
  have e1 : decide ((97 : Int) ≤ ((c : Nat) : Int)) = decide (97 ≤ c) := le_cast1 97 c
  have e2 : decide (((c : Nat) : Int) ≤ 122) = decide (c ≤ 122) := le_cast1 c 122
  cases h1 : decide (97 ≤ c) <;> cases h2 : decide (c ≤ 122)
  all_goals
    rw [h1] at e1
    rw [h2] at e2
    clear h1 h2
    go_enter Tryz.func168, Tryz.ntmps168
    go_wp2
    go_ret
    exact ⟨rfl, rfl⟩
theorem isDigit_tells : Tells 183 kDig := by
  intro c w _
  unfold kDig
  have e1 : decide ((48 : Int) ≤ ((c : Nat) : Int)) = decide (48 ≤ c) := le_cast1 48 c
  have e2 : decide (((c : Nat) : Int) ≤ 57) = decide (c ≤ 57) := le_cast1 c 57
  cases h1 : decide (48 ≤ c) <;> cases h2 : decide (c ≤ 57)
  all_goals
    rw [h1] at e1
    rw [h2] at e2
    clear h1 h2
    go_enter Tryz.func183, Tryz.ntmps183
    go_wp2
    go_ret
    exact ⟨rfl, rfl⟩
theorem eq_cast (c k : Nat) : (((c : Nat) : Int) == ((k : Nat) : Int)) = (c == k) := by
  rw [Bool.eq_iff_iff]; simp; omega
theorem ne_cast (c k : Nat) : (((c : Nat) : Int) != ((k : Nat) : Int)) = (c != k) := by
  rw [Bool.eq_iff_iff]; simp; omega

theorem tells_val {f : FuncId} {K : Nat → Bool} (h : Tells f K) (b : Bool) (c : Nat) (w : World) (hc : c ≤ 2147483647) (hb : K c = b) : Calls Tryz.prog f #[.int .i32 c] w fun e w' => e = .returned (.bool b) ∧ w = w' := hb ▸ h c w hc

/-- The function f has a body in this program. -/
def Enters (f : FuncId) : Prop := ∀ (args : Array Value) (w : World), (callFunc f args).run Tryz.prog w = .ok (.enter f args) w
theorem isLower_enters : Enters 168 := fun _ _ => by kernel_rfl
theorem isDigit_enters : Enters 183 := fun _ _ => by kernel_rfl
set_option maxRecDepth 100000 in
theorem prefix_any (f : FuncId) (K : Nat → Bool) (p : UInt8 → Bool) (hi : Bool) (hf : Tells f K) (he : Enters f) (hk : Kind K p hi) (s : ByteArray) (w : World) (hs : s.size ≤ maxLen) :
    Calls Tryz.prog 181 #[.string s, .func (.func f) #[] #[]] w fun e w' => e = .returned (.int .i64 ((pre p s.data.toList : Nat) : Int)) ∧ Below w.heap.size w w' := by
  have HF := Lib.hid hf
  have HK := Lib.hid hk
  unfold maxLen at hs
  clear hf hk
  unfold Enters at he
  go_enter Tryz.func181, Tryz.ntmps181
  go_wp2
  go_loopw [4] (fun n wr => ∃ pos, wr = w.iter s pos ∧ Hid (Upto p s pos)) (fun _ wr => s.size - wr.iterPos w.heap.size)
  case atStart => exact ⟨0, rfl, Nat.zero_le _, fun j hj => absurd hj (Nat.not_lt_zero _)⟩
  case round =>
    obtain ⟨pos, rfl, hu⟩ := hrel
    by_cases hp : pos < s.size
    · have hnx : ∀ ty, (Instr.next (.pointer (some ⟨w.heap.size, 0, none⟩)) true ty).run Tryz.prog (w.iter s pos) = _ := fun ty => run_next_any w s pos ty hp
      have hd := decode_le s pos
      have hwd := width_pos s pos hp
      have hnext := Lib.hid (HK.out.next hu.out hp)
      have hhalt := Lib.hid (HK.out.halt hu.out hp)
      obtain ⟨c, hc⟩ : ∃ c, (Utf8.decode s pos).1 = c := ⟨_, rfl⟩
      obtain ⟨wd, hw⟩ : ∃ c, (Utf8.decode s pos).2 = c := ⟨_, rfl⟩
      rw [hc, hw] at hnx
      rw [hc] at hd
      rw [hw] at hwd
      rw [hc, hw] at hnext
      rw [hc] at hhalt
      clear hc hw
      cases hkc : K c
      · have HC := Lib.hid hkc
        have hpre := Lib.hid (hhalt.out hkc)
        clear hkc hnext hhalt
        go_wp2_with fail
        refine (tells_val HF.out false c _ hd HC.out).mono ?_
        rintro e w' ⟨rfl, rfl⟩
        go_wp2
        go_ret
        exact ⟨by rw [hpre.out]; rfl, (Below.refl _ _).alloc (Nat.le_refl _) _⟩
      · have HC := Lib.hid hkc
        have hup := Lib.hid (hnext.out hkc)
        clear hkc hnext hhalt
        go_wp2_with fail
        refine (tells_val HF.out true c _ hd HC.out).mono ?_
        rintro e w' ⟨rfl, rfl⟩
        go_wp2
        go_roundw
        case rel => exact ⟨pos + wd, rfl, hup⟩
        case measure => simp; omega
    · have hnx : ∀ ty, (Instr.next (.pointer (some ⟨w.heap.size, 0, none⟩)) true ty).run Tryz.prog (w.iter s pos) = _ := fun ty => run_next_end w s pos ty hp
      have hpre := Lib.hid (hu.out.end hp)
      go_wp2
      go_ret
      exact ⟨by rw [hpre.out]; rfl, (Below.refl _ _).alloc (Nat.le_refl _) _⟩
theorem clo_enters (args : Array Value) (w : World) : (callFunc 182 args).run Tryz.prog w = .ok (.enter 182 args) w := by kernel_rfl

/-- A letter, a digit or a hyphen. -/
def kPart (K : Nat → Bool) (c : Nat) : Bool := K c || kDig c || c == 45

set_option maxHeartbeats 1600000 in
theorem clo_any (f : FuncId) (K : Nat → Bool) (hf : Tells f K) (he : Enters f) (a : Addr) (c : Nat) (w : World) (hc : c ≤ 2147483647) (ha : w.cell? a = some (.func (.func f) #[] #[])) :
    Calls Tryz.prog 182 #[.int .i32 c, .pointer (some a)] w fun e w' => e = .returned (.bool (kPart K c)) ∧ w = w' := by
  unfold kPart
  have HF := Lib.hid hf
  unfold Enters at he
  clear hf
  have e1 : (((c : Nat) : Int) == 45) = (c == 45) := eq_cast c 45
  cases h1 : (c == 45) <;> cases h2 : K c <;> cases h3 : kDig c
  all_goals
    rw [h1] at e1
    have H2 := Lib.hid h2
    have H3 := Lib.hid h3
    clear h1 h2 h3
    go_enter Tryz.func182, Tryz.ntmps182
    go_wp2_with fail
    refine (tells_val HF.out _ _ _ hc H2.out).mono ?_
    rintro e w' ⟨rfl, rfl⟩
    go_wp2_with (go_at_call 183; refine (tells_val isDigit_tells _ _ _ hc H3.out).mono ?_; rintro e w' ⟨rfl, rfl⟩)
    go_ret
    exact ⟨rfl, rfl⟩
theorem clo_val (b : Bool) (f : FuncId) (K : Nat → Bool) (hf : Tells f K) (he : Enters f) (a : Addr) (c : Nat) (w : World) (hc : c ≤ 2147483647) (ha : w.cell? a = some (.func (.func f) #[] #[])) (hb : kPart K c = b) :
    Calls Tryz.prog 182 #[.int .i32 c, .pointer (some a)] w fun e w' => e = .returned (.bool b) ∧ w = w' := hb ▸ clo_any f K hf he a c w hc ha

set_option maxRecDepth 100000 in
theorem prefix_clo (f : FuncId) (K : Nat → Bool) (p : UInt8 → Bool) (hf : Tells f K) (he : Enters f) (hk : Kind (kPart K) p false) (s : ByteArray) (ab : Nat) (w : World) (hs : s.size ≤ maxLen) (hab : ab < w.heap.size) (ha : w.cell? ⟨ab, 0, none⟩ = some (.func (.func f) #[] #[])) :
    Calls Tryz.prog 181 #[.string s, .func (.func 182) #[] #[.pointer (some ⟨ab, 0, none⟩)]] w fun e w' => e = .returned (.int .i64 ((pre p s.data.toList : Nat) : Int)) ∧ Below w.heap.size w w' := by
  have HF := Lib.hid hf
  have HK := Lib.hid hk
  have HE := Lib.hid he
  have HA := Lib.hid ha
  unfold maxLen at hs
  clear hf hk he ha
  have hce := clo_enters
  go_enter Tryz.func181, Tryz.ntmps181
  go_wp2
  go_loopw [4] (fun n wr => ∃ pos, wr = w.iter s pos ∧ Hid (Upto p s pos)) (fun _ wr => s.size - wr.iterPos w.heap.size)
  case atStart => exact ⟨0, rfl, Nat.zero_le _, fun j hj => absurd hj (Nat.not_lt_zero _)⟩
  case round =>
    obtain ⟨pos, rfl, hu⟩ := hrel
    by_cases hp : pos < s.size
    · have hnx : ∀ ty, (Instr.next (.pointer (some ⟨w.heap.size, 0, none⟩)) true ty).run Tryz.prog (w.iter s pos) = _ := fun ty => run_next_any w s pos ty hp
      have hd := decode_le s pos
      have hwd := width_pos s pos hp
      have hnext := Lib.hid (HK.out.next hu.out hp)
      have hhalt := Lib.hid (HK.out.halt hu.out hp)
      obtain ⟨c, hc⟩ : ∃ c, (Utf8.decode s pos).1 = c := ⟨_, rfl⟩
      obtain ⟨wd, hw⟩ : ∃ c, (Utf8.decode s pos).2 = c := ⟨_, rfl⟩
      rw [hc, hw] at hnx
      rw [hc] at hd
      rw [hw] at hwd
      rw [hc, hw] at hnext
      rw [hc] at hhalt
      clear hc hw
      have HA2 : Hid ((w.iter s (pos + wd)).cell? ⟨ab, 0, none⟩ = some (.func (.func f) #[] #[])) := ((Below.refl w.heap.size w).alloc (Nat.le_refl _) _).cell (p := ⟨ab, 0, none⟩) hab ▸ HA.out
      cases hkc : kPart K c
      · have HC := Lib.hid hkc
        have hpre := Lib.hid (hhalt.out hkc)
        clear hkc hnext hhalt
        go_wp2_with fail
        refine (clo_val false f K HF.out HE.out _ c _ hd HA2.out HC.out).mono ?_
        rintro e w' ⟨rfl, rfl⟩
        go_wp2
        go_ret
        exact ⟨by rw [hpre.out]; rfl, (Below.refl _ _).alloc (Nat.le_refl _) _⟩
      · have HC := Lib.hid hkc
        have hup := Lib.hid (hnext.out hkc)
        clear hkc hnext hhalt
        go_wp2_with fail
        refine (clo_val true f K HF.out HE.out _ c _ hd HA2.out HC.out).mono ?_
        rintro e w' ⟨rfl, rfl⟩
        go_wp2
        go_roundw
        case rel => exact ⟨pos + wd, rfl, hup⟩
        case measure => simp; omega
    · have hnx : ∀ ty, (Instr.next (.pointer (some ⟨w.heap.size, 0, none⟩)) true ty).run Tryz.prog (w.iter s pos) = _ := fun ty => run_next_end w s pos ty hp
      have hpre := Lib.hid (hu.out.end hp)
      go_wp2
      go_ret
      exact ⟨by rw [hpre.out]; rfl, (Below.refl _ _).alloc (Nat.le_refl _) _⟩

/-- The length of the longest name at the beginning: the first byte a letter, the others letters, digits, hyphens. -/
def nameLen (p q : UInt8 → Bool) (l : List UInt8) : Nat :=
  match l with
  | [] => 0
  | b :: _ => if p b then pre q l else 0

set_option maxRecDepth 100000 in
theorem nameLength_any (f : FuncId) (K : Nat → Bool) (p q : UInt8 → Bool) (hf : Tells f K) (he : Enters f) (hp : ∀ b : UInt8, K b.toNat = p b) (hk : Kind (kPart K) q false) (s : ByteArray) (w : World) (hs : s.size ≤ maxLen) :
    Calls Tryz.prog 179 #[.string s, .func (.func f) #[] #[]] w fun e w' => e = .returned (.int .i64 ((nameLen p q s.data.toList : Nat) : Int)) ∧ Below w.heap.size w w' := by
  have HF := Lib.hid hf
  have HE := Lib.hid he
  unfold Enters at he
  by_cases h0 : s.size = 0
  · obtain rfl : s = ByteArray.empty := by
      obtain ⟨⟨l⟩⟩ := s
      simp [ByteArray.size] at h0
      subst h0
      rfl
    go_enter Tryz.func179, Tryz.ntmps179
    go_wp2
    go_quiet (fail)
    go_wp2
    go_ret
    exact ⟨rfl, below_drewN ((Below.refl _ _).alloc (Nat.le_refl _) _) _⟩
  · obtain ⟨b, l, hl⟩ : ∃ b l, s.data.toList = b :: l := by
      cases hc : s.data.toList with
      | nil => exact absurd (by have := congrArg List.length hc; simpa using this) h0
      | cons b l => exact ⟨b, l, rfl⟩
    have hb0 : s[0]'(by omega) = b := by
      have := byte_at s 0 (by omega)
      rw [hl] at this
      exact (Option.some.inj this).symm
    have hne : s.toList.isEmpty = false := by rw [Lib.toList_data, hl]; rfl
    have hsz : 0 < s.size := by omega
    obtain ⟨n, hn⟩ : ∃ n, b.toNat = n := ⟨_, rfl⟩
    have hn8 : n < 256 := by rw [← hn]; exact b.toNat_lt
    have hwr : IntKind.i32.wrap (n : Int) = (n : Int) := IntWalk.i32_in _ (by omega)
    have hi8 : Hid (((s[0]'hsz).toNat : Nat) = n) := by show _ = _; rw [hb0, hn]
    have hb1 : ((s[0]'hsz).toNat : Int) = (n : Int) := by rw [hi8.out]
    cases hpb : p b
    · have hcall : Hid (∀ W, Calls Tryz.prog f #[.int .i32 (n : Int)] W fun e w' => e = .returned (.bool false) ∧ w' = W) :=
        fun W => (tells_val HF.out false n W (by omega) (by rw [← hn, hp, hpb])).mono fun _ _ h => ⟨h.1, h.2.symm⟩
      have hres : Hid (nameLen p q s.data.toList = 0) := by show _ = _; rw [hl]; simp [nameLen, hpb]
      clear hpb hn hl hb0 hi8 hf hk hp
      go_enter Tryz.func179, Tryz.ntmps179
      go_wp2
      go_quiet ((exact Calls.quiet_of_same (hcall.out _)))
      go_wp2
      go_ret
      exact ⟨by rw [hres.out]; rfl, below_drewN ((Below.refl _ _).alloc (Nat.le_refl _) _) _⟩
    · have hcall : Hid (∀ W, Calls Tryz.prog f #[.int .i32 (n : Int)] W fun e w' => e = .returned (.bool true) ∧ w' = W) :=
        fun W => (tells_val HF.out true n W (by omega) (by rw [← hn, hp, hpb])).mono fun _ _ h => ⟨h.1, h.2.symm⟩
      have hres : Hid (nameLen p q s.data.toList = pre q s.data.toList) := by show _ = _; rw [hl]; simp [nameLen, hpb]
      have HK := Lib.hid hk
      clear hpb hn hl hb0 hi8 hf hk hp
      go_enter Tryz.func179, Tryz.ntmps179
      go_wp2
      go_quiet ((exact Calls.quiet_of_same (hcall.out _)))
      go_wp2_with fail
      refine (prefix_clo f _ q HF.out HE.out HK.out s w.heap.size _ hs (by simp) ?_).mono ?_
      · exact cell_of_one (heap_alloc_new w _)
      · rintro e w' ⟨rfl, hb⟩
        go_wp2
        go_ret
        exact ⟨by rw [hres.out]; rfl, (below_drewN ((Below.refl _ _).alloc (Nat.le_refl _) _) _).trans (hb.mono (by simp))⟩
/-- A kind of bytes. -/
def by8 (K : Nat → Bool) (b : UInt8) : Bool := K b.toNat
theorem kind_low {K : Nat → Bool} (h : ∀ c, 128 ≤ c → K c = false) : Kind K (by8 K) false := ⟨fun _ _ => rfl, h, fun b hb => h _ hb⟩
theorem kLow_hi (c : Nat) (h : 128 ≤ c) : kLow c = false := by simp [kLow]; omega
theorem kUp_hi (c : Nat) (h : 128 ≤ c) : kUp c = false := by simp [kUp]; omega
theorem kDig_hi (c : Nat) (h : 128 ≤ c) : kDig c = false := by simp [kDig]; omega
theorem kPri_hi (c : Nat) (h : 128 ≤ c) : kPri c = false := by simp [kPri]; omega
theorem kPart_hi {K : Nat → Bool} (hK : ∀ c, 128 ≤ c → K c = false) (c : Nat) (h : 128 ≤ c) : kPart K c = false := by
  simp [kPart, hK c h, kDig_hi c h]; omega
theorem kSpc_hi (c : Nat) (h : 128 ≤ c) : kSpc c = false := by simp [kSpc]; omega
theorem kWrd_hi (c : Nat) (h : 128 ≤ c) : kWrd c = false := by simp [kWrd, kPri_hi c h]
theorem kStr_hi (c : Nat) (h : 128 ≤ c) : kStr c = false := by simp [kStr, kPri_hi c h]

/-- Whether a string is a name whose first byte is a letter of this kind. -/
def isNam (K : Nat → Bool) (l : List UInt8) : Bool :=
  decide (0 < nameLen (by8 K) (by8 (kPart K)) l) && (nameLen (by8 K) (by8 (kPart K)) l == l.length) && decide (l.length ≤ 32)

theorem nameLen_le (p q : UInt8 → Bool) (l : List UInt8) : nameLen p q l ≤ l.length := by
  cases l with
  | nil => exact Nat.le_refl _
  | cons b l => simp only [nameLen]; split; exact pre_le _ _; exact Nat.zero_le _

theorem named_any (f : FuncId) (K : Nat → Bool) (hf : Tells f K) (he : Enters f) (hhi : ∀ c, 128 ≤ c → K c = false) (s : ByteArray) (w : World) (hs : s.size ≤ maxLen) :
    Calls Tryz.prog 167 #[.string s, .func (.func f) #[] #[]] w fun e w' => e = .returned (.bool (isNam K s.data.toList)) ∧ Below w.heap.size w w' := by
  have HF := Lib.hid hf
  have HE := Lib.hid he
  have HH := Lib.hid hhi
  have hl := nameLen_le (by8 K) (by8 (kPart K)) s.data.toList
  have hsz : s.data.toList.length = s.size := by simp
  rw [hsz] at hl
  obtain ⟨n, hn⟩ : ∃ n, nameLen (by8 K) (by8 (kPart K)) s.data.toList = n := ⟨_, rfl⟩
  have hres : Hid (isNam K s.data.toList = (decide (0 < n) && (n == s.size) && decide (s.size ≤ 32))) := by show _ = _; unfold isNam; rw [hn, hsz]
  rw [hn] at hl
  have HS := Lib.hid hs
  have HN := Lib.hid hn
  have e1 : (((n : Nat) : Int) == ((s.size : Nat) : Int)) = (n == s.size) := eq_cast n s.size
  have e2 : decide ((0 : Int) < ((n : Nat) : Int)) = decide (0 < n) := by rw [decide_eq_decide]; omega
  have e3 : decide (((n : Nat) : Int) ≤ 32) = decide (n ≤ 32) := le_cast1 n 32
  unfold maxLen at hs
  clear hf he hhi hsz hn
  cases h1 : (n == s.size) <;> cases h2 : decide (0 < n) <;> cases h3 : decide (n ≤ 32)
  all_goals
    rw [h1] at e1
    rw [h2] at e2
    rw [h3] at e3
    have hres' : Hid (isNam K s.data.toList = (decide (0 < n) && (n == s.size) && decide (n ≤ 32))) := by
      show _ = _
      rw [hres.out]
      by_cases h : n = s.size
      · rw [h]
      · have : (n == s.size) = false := by simpa using h
        rw [this]; simp
    have H1 := Lib.hid h1
    have H2 := Lib.hid h2
    have H3 := Lib.hid h3
    clear h1 h3 hres
    go_enter Tryz.func167, Tryz.ntmps167
    go_wp2_with fail
    refine (nameLength_any f K (by8 K) (by8 (kPart K)) HF.out HE.out (fun _ => rfl) (kind_low (kPart_hi HH.out)) s w HS.out).mono ?_
    rw [HN.out]
    rintro e w' ⟨rfl, hb⟩
    go_wp2
    go_ret
    exact ⟨by rw [hres'.out, H1.out, H2.out, H3.out]; rfl, hb⟩
theorem Name_any (s : ByteArray) (w : World) (hs : s.size ≤ maxLen) :
    Calls Tryz.prog 145 #[.string s] w fun e w' => e = .returned (.bool (isNam kLow s.data.toList)) ∧ Below w.heap.size w w' := by
  have HS := Lib.hid hs
  clear hs
  go_enter Tryz.func145, Tryz.ntmps145
  go_wp2_with fail
  refine (named_any _ kLow isLower_tells isLower_enters kLow_hi s w HS.out).mono ?_
  rintro e w' ⟨rfl, hb⟩
  go_wp2
  go_ret
  exact ⟨rfl, hb⟩
end Go.Proofs.YtdeamdpoegdmdaaGreatDoor

/- text.Name, as the reference has it. -/
namespace Go.Proofs.YtdeamdpoegdmdaaGreatDoor
open Go.RowKit

/-- The function f tells of every byte whether it is of the kind. -/
def Tells8 (f : FuncId) (K : Nat → Bool) : Prop := ∀ (c : Nat) (w : World), c ≤ 255 → Calls Tryz.prog f #[.int .u8 c] w fun e w' => e = .returned (.bool (K c)) ∧ w = w'
theorem tells8_val {f : FuncId} {K : Nat → Bool} (h : Tells8 f K) (b : Bool) (c : Nat) (w : World) (hc : c ≤ 255) (hb : K c = b) : Calls Tryz.prog f #[.int .u8 c] w fun e w' => e = .returned (.bool b) ∧ w = w' := hb ▸ h c w hc

theorem rlower_tells : Tells8 178 kLow := by
  intro c w _
  unfold kLow
  have e1 : decide ((97 : Int) ≤ ((c : Nat) : Int)) = decide (97 ≤ c) := le_cast1 97 c
  have e2 : decide (((c : Nat) : Int) ≤ 122) = decide (c ≤ 122) := le_cast1 c 122
  cases h1 : decide (97 ≤ c) <;> cases h2 : decide (c ≤ 122)
  all_goals
    rw [h1] at e1
    rw [h2] at e2
    clear h1 h2
    go_enter Tryz.func178, Tryz.ntmps178
    go_wp2
    go_ret
    exact ⟨rfl, rfl⟩
theorem rupper_tells : Tells8 177 kUp := by
  intro c w _
  unfold kUp
  have e1 : decide ((65 : Int) ≤ ((c : Nat) : Int)) = decide (65 ≤ c) := le_cast1 65 c
  have e2 : decide (((c : Nat) : Int) ≤ 90) = decide (c ≤ 90) := le_cast1 c 90
  cases h1 : decide (65 ≤ c) <;> cases h2 : decide (c ≤ 90)
  all_goals
    rw [h1] at e1
    rw [h2] at e2
    clear h1 h2
    go_enter Tryz.func177, Tryz.ntmps177
    go_wp2
    go_ret
    exact ⟨rfl, rfl⟩
theorem rdigit_tells : Tells8 165 kDig := by
  intro c w _
  unfold kDig
  have e1 : decide ((48 : Int) ≤ ((c : Nat) : Int)) = decide (48 ≤ c) := le_cast1 48 c
  have e2 : decide (((c : Nat) : Int) ≤ 57) = decide (c ≤ 57) := le_cast1 c 57
  cases h1 : decide (48 ≤ c) <;> cases h2 : decide (c ≤ 57)
  all_goals
    rw [h1] at e1
    rw [h2] at e2
    clear h1 h2
    go_enter Tryz.func165, Tryz.ntmps165
    go_wp2
    go_ret
    exact ⟨rfl, rfl⟩

def kBig (big : Bool) : Nat → Bool := if big then kUp else kLow

set_option maxHeartbeats 1600000 in
theorem part_any (big : Bool) (c : Nat) (w : World) (hc : c ≤ 255) :
    Calls Tryz.prog 166 #[.int .u8 c, .bool big] w fun e w' => e = .returned (.bool (kPart (kBig big) c)) ∧ w = w' := by
  have e1 : (((c : Nat) : Int) == 45) = (c == 45) := eq_cast c 45
  cases hB : kPart (kBig big) c
  all_goals
    cases big
    · cases h1 : (c == 45) <;> cases h2 : kLow c <;> cases h3 : kDig c
      all_goals
        first
        | (exfalso; revert hB; simp [kPart, kBig, h1, h2, h3]; done)
        | (rw [h1] at e1
           have H2 := Lib.hid h2
           have H3 := Lib.hid h3
           clear h1 h2 h3 hB
           go_enter Tryz.func166, Tryz.ntmps166
           go_wp2_with (first | (go_at_call 165; refine (tells8_val rdigit_tells _ _ _ hc H3.out).mono ?_; rintro e w' ⟨rfl, rfl⟩) | (go_at_call 178; refine (tells8_val rlower_tells _ _ _ hc H2.out).mono ?_; rintro e w' ⟨rfl, rfl⟩))
           go_ret
           exact ⟨rfl, rfl⟩)
    · cases h1 : (c == 45) <;> cases h2 : kUp c <;> cases h3 : kDig c
      all_goals
        first
        | (exfalso; revert hB; simp [kPart, kBig, h1, h2, h3]; done)
        | (rw [h1] at e1
           have H2 := Lib.hid h2
           have H3 := Lib.hid h3
           clear h1 h2 h3 hB
           go_enter Tryz.func166, Tryz.ntmps166
           go_wp2_with (first | (go_at_call 165; refine (tells8_val rdigit_tells _ _ _ hc H3.out).mono ?_; rintro e w' ⟨rfl, rfl⟩) | (go_at_call 177; refine (tells8_val rupper_tells _ _ _ hc H2.out).mono ?_; rintro e w' ⟨rfl, rfl⟩))
           go_ret
           exact ⟨rfl, rfl⟩)
theorem part_val (b big : Bool) (c : Nat) (w : World) (hc : c ≤ 255) (hb : kPart (kBig big) c = b) :
    Calls Tryz.prog 166 #[.int .u8 c, .bool big] w fun e w' => e = .returned (.bool b) ∧ w = w' := hb ▸ part_any big c w hc

/-- The byte at a place, as a number; 0 behind the end. -/
def bn (s : ByteArray) (k : Nat) : Nat := (s.data.toList.getD k 0).toNat
theorem bn_lt (s : ByteArray) (k : Nat) : bn s k ≤ 255 := by have := (s.data.toList.getD k 0).toNat_lt; unfold bn; omega
theorem bn_get (s : ByteArray) (k : Nat) (h : k < s.size) : (s[k]'h).toNat = bn s k := by
  unfold bn
  rw [List.getD_eq_getElem?_getD, byte_at s k h]
  rfl
theorem bn_int (s : ByteArray) (k : Nat) (h : k < s.size) : (((s[k]'h).toNat : Nat) : Int) = ((bn s k : Nat) : Int) := by rw [bn_get]

/-- Whether a string is a name, by the reference. -/
def rNam (K : Nat → Bool) (s : ByteArray) : Bool :=
  decide (1 ≤ s.size) && decide (s.size ≤ 32) && !kDig (bn s 0) && bn s 0 != 45 && (List.range s.size).all fun i => kPart K (bn s i)

set_option maxRecDepth 100000 in
theorem rnamed_any (big : Bool) (s : ByteArray) (w : World) (hs : s.size ≤ maxLen) :
    Calls Tryz.prog 142 #[.string s, .bool big] w fun e w' => e = .returned (.bool (rNam (kBig big) s)) ∧ w = w' := by
  unfold maxLen at hs
  by_cases h0 : s.size = 0
  · have hf : Hid (rNam (kBig big) s = false) := by show _ = _; unfold rNam; simp [h0]
    have hlt : s.size < 1 := by omega
    clear h0
    go_enter Tryz.func142, Tryz.ntmps142
    go_wp2
    go_ret
    exact ⟨by rw [hf.out]; rfl, rfl⟩
  by_cases h32 : 32 < s.size
  · have hf : Hid (rNam (kBig big) s = false) := by
      show _ = _; unfold rNam
      have : decide (s.size ≤ 32) = false := by simp; omega
      rw [this]; simp
    have h1 : 1 ≤ s.size := by omega
    clear h0
    go_enter Tryz.func142, Tryz.ntmps142
    go_wp2
    go_ret
    exact ⟨by rw [hf.out]; rfl, rfl⟩
  have h1 : 0 < s.size := by omega
  have hb0 := bn_int s 0 h1
  have hl0 := bn_lt s 0
  cases hd : kDig (bn s 0)
  · cases hh : (bn s 0 == 45)
    · have e1 : (((bn s 0 : Nat) : Int) == 45) = false := (eq_cast _ 45).trans hh
      have HD := Lib.hid hd
      have HHH := Lib.hid hh
      clear hd hh h0
      obtain ⟨n0, hn0⟩ : ∃ n, bn s 0 = n := ⟨_, rfl⟩
      rw [hn0] at hb0 e1 hl0
      have HDn : Hid (kDig n0 = false) := by rw [← hn0]; exact HD.out
      clear hn0
      go_enter Tryz.func142, Tryz.ntmps142
      go_wp2_with (go_at_call 165; refine (tells8_val rdigit_tells _ _ _ hl0 HDn.out).mono ?_; rintro e w' ⟨rfl, rfl⟩)
      go_loop [5] (fun v => ∃ k : Nat, k ≤ s.size ∧ v = .int .i64 k ∧ Hid (∀ i, i < k → kPart (kBig big) (bn s i) = true)) (fun v => s.size - (intOf v).toNat)
      case atStart => exact ⟨0, Nat.zero_le _, rfl, fun i hi => absurd hi (Nat.not_lt_zero _)⟩
      case round =>
        obtain ⟨k, hk, rfl, hr⟩ := hrel
        by_cases hlt : k < s.size
        · have hbk := bn_int s k hlt
          have hlk := bn_lt s k
          cases hp : kPart (kBig big) (bn s k)
          · have hf : Hid (rNam (kBig big) s = false) := by
              show _ = _
              unfold rNam
              have : ((List.range s.size).all fun i => kPart (kBig big) (bn s i)) = false := by
                rw [← Bool.not_eq_true, List.all_eq_true]
                intro h
                rw [h k (List.mem_range.2 hlt)] at hp
                cases hp
              rw [this]; simp
            obtain ⟨n, hn⟩ : ∃ n, bn s k = n := ⟨_, rfl⟩
            rw [hn] at hbk hlk hp
            have HP := Lib.hid hp
            clear hn hp hr
            go_wp2_with (go_at_call 166; refine (part_val false big _ _ hlk HP.out).mono ?_; rintro e w' ⟨rfl, rfl⟩)
            go_ret
            exact ⟨by rw [hf.out]; rfl, rfl⟩
          · have hr' : Hid (∀ i, i < k + 1 → kPart (kBig big) (bn s i) = true) := fun i hi => by
              rcases Nat.lt_succ_iff_lt_or_eq.1 hi with h | h
              · exact hr.out i h
              · rw [h]; exact hp
            obtain ⟨n, hn⟩ : ∃ n, bn s k = n := ⟨_, rfl⟩
            rw [hn] at hbk hlk hp
            have HP := Lib.hid hp
            clear hn hp hr
            go_wp2_with (go_at_call 166; refine (part_val true big _ _ hlk HP.out).mono ?_; rintro e w' ⟨rfl, rfl⟩)
            go_round
            case rel => exact ⟨k + 1, by omega, by go_num, hr'⟩
            case measure => simp [intOf]; omega
        · obtain rfl : k = s.size := by omega
          have ht : Hid (rNam (kBig big) s = true) := by
            show _ = _
            unfold rNam
            have : ((List.range s.size).all fun i => kPart (kBig big) (bn s i)) = true := by
              rw [List.all_eq_true]; exact fun i hi => hr.out i (List.mem_range.1 hi)
            have e2 : (bn s 0 != 45) = true := by simpa using HHH.out
            rw [this, HD.out, e2]
            simp
            omega
          clear hr
          go_wp2
          go_ret
          exact ⟨by rw [ht.out]; rfl, rfl⟩
    · have hf : Hid (rNam (kBig big) s = false) := by
        show _ = _
        unfold rNam
        have e2 : (bn s 0 != 45) = false := by simpa using hh
        rw [e2]; simp
      have e1 : (((bn s 0 : Nat) : Int) == 45) = true := (eq_cast _ 45).trans hh
      obtain ⟨n0, hn0⟩ : ∃ n, bn s 0 = n := ⟨_, rfl⟩
      rw [hn0] at hb0 e1 hl0 hd
      have HDn := Lib.hid hd
      clear hd hh h0 hn0
      go_enter Tryz.func142, Tryz.ntmps142
      go_wp2_with (go_at_call 165; refine (tells8_val rdigit_tells _ _ _ hl0 HDn.out).mono ?_; rintro e w' ⟨rfl, rfl⟩)
      go_ret
      exact ⟨by rw [hf.out]; rfl, rfl⟩
  · have hf : Hid (rNam (kBig big) s = false) := by
      show _ = _
      unfold rNam
      rw [hd]; simp
    obtain ⟨n0, hn0⟩ : ∃ n, bn s 0 = n := ⟨_, rfl⟩
    rw [hn0] at hb0 hl0 hd
    have HDn := Lib.hid hd
    clear hd h0 hn0
    go_enter Tryz.func142, Tryz.ntmps142
    go_wp2_with (go_at_call 165; refine (tells8_val rdigit_tells _ _ _ hl0 HDn.out).mono ?_; rintro e w' ⟨rfl, rfl⟩)
    go_ret
    exact ⟨by rw [hf.out]; rfl, rfl⟩

theorem pre_all (q : UInt8 → Bool) : ∀ l : List UInt8, pre q l = l.length ↔ ∀ b ∈ l, q b = true
  | [] => by simp [pre]
  | b :: l => by
    rw [pre_cons]
    by_cases h : q b = true
    · rw [if_pos h]
      have := pre_all q l
      simp [h, this]
    · rw [if_neg h]
      simp [h]

theorem all_bn (s : ByteArray) (K : Nat → Bool) : ((List.range s.size).all fun i => K (bn s i)) = true ↔ ∀ b ∈ s.data.toList, by8 K b = true := by
  rw [List.all_eq_true]
  constructor
  · intro h b hb
    obtain ⟨i, hi, rfl⟩ := List.getElem_of_mem hb
    have hi' : i < s.size := by simpa using hi
    have := h i (List.mem_range.2 hi')
    unfold bn at this
    rwa [List.getD_eq_getElem?_getD, List.getElem?_eq_getElem hi] at this
  · intro h i hi
    have hi := List.mem_range.1 hi
    have hm : s.data.toList[i]'(by simpa using hi) ∈ s.data.toList := List.getElem_mem _
    have := h _ hm
    unfold bn
    rw [List.getD_eq_getElem?_getD, List.getElem?_eq_getElem (by simpa using hi)]
    exact this

/-- The reference's test and the program's are the same. -/
theorem rNam_eq (K : Nat → Bool) (hK : ∀ c, K c = true → kDig c = false ∧ c ≠ 45) (s : ByteArray) : rNam K s = isNam K s.data.toList := by
  have hsz : s.data.toList.length = s.size := by simp
  have hall := all_bn s (kPart K)
  unfold rNam isNam
  rw [Bool.eq_iff_iff]
  simp only [Bool.and_eq_true, decide_eq_true_eq, Bool.not_eq_true', bne_iff_ne, beq_iff_eq]
  cases hl : s.data.toList with
  | nil =>
    rw [hl] at hsz
    simp at hsz
    simp [nameLen]
    omega
  | cons b l =>
    have hb0 : bn s 0 = b.toNat := by unfold bn; rw [hl]; rfl
    rw [hl] at hall hsz
    rw [hb0]
    simp only [nameLen]
    constructor
    · rintro ⟨⟨⟨⟨h1, h2⟩, h3⟩, h4⟩, h5⟩
      have hq := hall.1 h5
      have hKb : K b.toNat = true := by
        have := hq b (by simp)
        simp only [by8, kPart, h3, Bool.or_false, Bool.or_eq_true, beq_iff_eq] at this
        rcases this with h | h
        · exact h
        · exact absurd h h4
      have hp := (pre_all (by8 (kPart K)) (b :: l)).2 hq
      have hp8 : by8 K b = true := hKb
      rw [if_pos hp8, hp, hsz]
      exact ⟨⟨by omega, rfl⟩, h2⟩
    · rintro ⟨⟨h1, h2⟩, h3⟩
      by_cases hKb : by8 K b = true
      · rw [if_pos hKb] at h1 h2
        have hq := (pre_all (by8 (kPart K)) (b :: l)).1 h2
        obtain ⟨g1, g2⟩ := hK b.toNat hKb
        exact ⟨⟨⟨⟨by omega, by omega⟩, g1⟩, g2⟩, hall.2 hq⟩
      · rw [if_neg hKb] at h1; omega
theorem rName_any (s : ByteArray) (w : World) (hs : s.size ≤ maxLen) :
    Calls Tryz.prog 104 #[.string s] w fun e w' => e = .returned (.bool (isNam kLow s.data.toList)) ∧ w = w' := by
  have HS := Lib.hid hs
  clear hs
  have hK : ∀ c, kLow c = true → kDig c = false ∧ c ≠ 45 := fun c h => by simp [kLow, kDig] at h ⊢; omega
  have HE := Lib.hid (rNam_eq kLow hK s)
  clear hK
  go_enter Tryz.func104, Tryz.ntmps104
  go_wp2_with fail
  refine (rnamed_any false s w HS.out).mono ?_
  rintro e w' ⟨rfl, rfl⟩
  go_wp2
  go_ret
  exact ⟨by rw [← HE.out]; rfl, rfl⟩
end Go.Proofs.YtdeamdpoegdmdaaGreatDoor

/- Plain: strings in their order, ascending lists without repetitions. Imports nothing. -/
namespace Go.Proofs.YtdeamdpoegdmdaaGreatDoor
abbrev Str := List UInt8

theorem str_tri (a b : Str) : a < b ∨ a = b ∨ b < a := by
  by_cases h : a < b
  · exact .inl h
  · by_cases h2 : b < a
    · exact .inr (.inr h2)
    · exact .inr (.inl (List.le_antisymm (List.not_lt.1 h2) (List.not_lt.1 h)))
theorem str_ne {a b : Str} (h : a < b) : a ≠ b := fun e => by rw [e] at h; exact List.lt_irrefl b h

def Asc (l : List Str) : Prop := l.Pairwise (· < ·)
theorem asc_nil : Asc [] := List.Pairwise.nil
theorem Asc.nodup {l : List Str} (h : Asc l) : l.Nodup := List.Pairwise.imp (fun {_ _} h => str_ne h) h
/-- Two ascending lists with the same elements are the same. -/
theorem asc_ext : ∀ {a b : List Str}, Asc a → Asc b → (∀ x, x ∈ a ↔ x ∈ b) → a = b
  | [], [], _, _, _ => rfl
  | [], y :: b, _, _, h => by have := (h y).2 (List.mem_cons_self ..); cases this
  | x :: a, [], _, _, h => by have := (h x).1 (List.mem_cons_self ..); cases this
  | x :: a, y :: b, ha, hb, h => by
    obtain ⟨ha1, ha2⟩ := List.pairwise_cons.1 ha
    obtain ⟨hb1, hb2⟩ := List.pairwise_cons.1 hb
    have hxy : x = y := by
      rcases List.mem_cons.1 ((h x).1 (List.mem_cons_self ..)) with e | e
      · exact e
      · rcases List.mem_cons.1 ((h y).2 (List.mem_cons_self ..)) with e2 | e2
        · exact e2.symm
        · exact absurd (List.lt_trans (hb1 x e) (ha1 y e2)) (List.lt_irrefl y)
    subst hxy
    have : a = b := asc_ext ha2 hb2 (fun z => by
      constructor
      · intro hz
        rcases List.mem_cons.1 ((h z).1 (List.mem_cons_of_mem _ hz)) with e | e
        · subst e; exact absurd (ha1 z hz) (List.lt_irrefl z)
        · exact e
      · intro hz
        rcases List.mem_cons.1 ((h z).2 (List.mem_cons_of_mem _ hz)) with e | e
        · subst e; exact absurd (hb1 z hz) (List.lt_irrefl z)
        · exact e)
    rw [this]

/-- The place of a string in an ascending list. -/
def pat (l : List Str) (s : Str) : Nat := (l.takeWhile fun x => decide (x < s)).length
theorem pat_le (l : List Str) (s : Str) : pat l s ≤ l.length := by
  have := (List.takeWhile_prefix (p := fun x => decide (x < s)) (l := l)).length_le
  exact this
theorem pat_cons (x : Str) (l : List Str) (s : Str) : pat (x :: l) s = if x < s then pat l s + 1 else 0 := by
  unfold pat
  rw [List.takeWhile_cons]
  by_cases h : x < s <;> simp [h]
theorem pat_lt {l : List Str} {s : Str} {k : Nat} (hk : k < pat l s) : ∃ x, l[k]? = some x ∧ x < s := by
  induction l generalizing k with
  | nil => exact absurd hk (Nat.not_lt_zero _)
  | cons y l ih =>
    rw [pat_cons] at hk
    split at hk
    · rename_i h
      cases k with
      | zero => exact ⟨y, rfl, h⟩
      | succ k => exact ih (k := k) (by omega)
    · omega
theorem pat_at {l : List Str} {s x : Str} (h : l[pat l s]? = some x) : ¬ x < s := by
  induction l with
  | nil => cases h
  | cons y l ih =>
    rw [pat_cons] at h
    split at h
    · exact ih h
    · rename_i hy; cases h; exact hy
/-- The place, found by going up to it. -/
theorem pat_eq {l : List Str} {s : Str} {k : Nat} (h1 : ∀ j, j < k → ∃ x, l[j]? = some x ∧ x < s) (h2 : ∀ x, l[k]? = some x → ¬ x < s) (_ : k ≤ l.length) : pat l s = k := by
  rcases Nat.lt_trichotomy (pat l s) k with h | h | h
  · obtain ⟨x, hx, hlt⟩ := h1 _ h
    exact absurd hlt (pat_at hx)
  · exact h
  · obtain ⟨x, hx, hlt⟩ := pat_lt h
    exact absurd hlt (h2 x hx)
/-- An ascending list with one more string, unless it is there. -/
def put (l : List Str) (s : Str) : List Str := if l[pat l s]? = some s then l else l.take (pat l s) ++ s :: l.drop (pat l s)
theorem put_cons (x : Str) (l : List Str) (s : Str) : put (x :: l) s = if x < s then x :: put l s else if x = s then x :: l else s :: x :: l := by
  unfold put
  rw [pat_cons]
  by_cases h : x < s
  · rw [if_pos h, if_pos h, List.getElem?_cons_succ, List.take_succ_cons, List.drop_succ_cons]
    split <;> rfl
  · rw [if_neg h, if_neg h]
    by_cases h2 : x = s
    · rw [if_pos h2, if_pos (by rw [List.getElem?_cons_zero, h2])]
    · rw [if_neg h2, if_neg (by rw [List.getElem?_cons_zero]; exact fun e => h2 (Option.some.inj e))]
      rfl
theorem mem_put : ∀ (l : List Str) (s x : Str), x ∈ put l s ↔ x = s ∨ x ∈ l
  | [], s, x => by unfold put pat; simp
  | y :: l, s, x => by
    rw [put_cons]
    split
    · rw [List.mem_cons, mem_put l s x, List.mem_cons]
      constructor
      · rintro (h | h | h)
        · exact .inr (.inl h)
        · exact .inl h
        · exact .inr (.inr h)
      · rintro (h | h | h)
        · exact .inr (.inl h)
        · exact .inl h
        · exact .inr (.inr h)
    · split
      · rename_i h; subst h; simp
      · simp
theorem put_asc : ∀ {l : List Str}, Asc l → ∀ s, Asc (put l s)
  | [], _, s => by unfold put pat; simp [Asc]
  | y :: l, h, s => by
    obtain ⟨h1, h2⟩ := List.pairwise_cons.1 h
    rw [put_cons]
    split
    · rename_i hy
      refine List.pairwise_cons.2 ⟨fun z hz => ?_, put_asc h2 s⟩
      rcases (mem_put l s z).1 hz with e | e
      · rw [e]; exact hy
      · exact h1 z e
    · split
      · exact h
      · rename_i hy hne
        have hs : s < y := by
          rcases str_tri y s with e | e | e
          · exact absurd e hy
          · exact absurd e hne
          · exact e
        refine List.pairwise_cons.2 ⟨fun z hz => ?_, h⟩
        rcases List.mem_cons.1 hz with e | e
        · rw [e]; exact hs
        · exact List.lt_trans hs (h1 z e)
/-- Several strings, ascending and each once. -/
def srt (l : List Str) : List Str := l.foldl put []
theorem foldl_put (l : List Str) : ∀ acc : List Str, Asc acc → Asc (l.foldl put acc) ∧ ∀ x, x ∈ l.foldl put acc ↔ x ∈ acc ∨ x ∈ l := by
  induction l with
  | nil => intro acc h; exact ⟨h, fun x => by simp⟩
  | cons y l ih =>
    intro acc h
    obtain ⟨h1, h2⟩ := ih (put acc y) (put_asc h y)
    refine ⟨h1, fun x => ?_⟩
    rw [List.foldl_cons, h2, mem_put, List.mem_cons]
    constructor
    · rintro ((e | e) | e)
      · exact .inr (.inl e)
      · exact .inl e
      · exact .inr (.inr e)
    · rintro (e | e | e)
      · exact .inl (.inr e)
      · exact .inl (.inl e)
      · exact .inr e
theorem srt_asc (l : List Str) : Asc (srt l) := (foldl_put l [] asc_nil).1
theorem mem_srt (l : List Str) (x : Str) : x ∈ srt l ↔ x ∈ l := by
  have := (foldl_put l [] asc_nil).2 x
  unfold srt
  simpa using this
theorem srt_snoc (l : List Str) (s : Str) : srt (l ++ [s]) = put (srt l) s := by unfold srt; rw [List.foldl_append]; rfl
theorem put_len (l : List Str) (s : Str) : (put l s).length ≤ l.length + 1 := by
  unfold put
  split
  · omega
  · have := pat_le l s
    simp; omega
theorem srt_len : ∀ l : List Str, (srt l).length ≤ l.length := by
  intro l
  suffices ∀ acc : List Str, (l.foldl put acc).length ≤ acc.length + l.length by unfold srt; simpa using this []
  induction l with
  | nil => intro acc; simp
  | cons y l ih =>
    intro acc
    have h1 := ih (put acc y)
    have h2 := put_len acc y
    rw [List.foldl_cons, List.length_cons]; omega
theorem asc_eq_srt {a l : List Str} (ha : Asc a) (h : ∀ x, x ∈ a ↔ x ∈ l) : a = srt l := asc_ext ha (srt_asc l) (fun x => by rw [h, mem_srt])
/-- Sorting a list without repetitions. -/
theorem merge_srt {l : List Str} (h : l.Nodup) : l.mergeSort (fun x y => decide (x ≤ y)) = srt l := by
  have hp := List.mergeSort_perm l (fun x y => decide (x ≤ y))
  have hs : (l.mergeSort (fun x y => decide (x ≤ y))).Pairwise (fun x y => decide (x ≤ y) = true) :=
    List.pairwise_mergeSort (fun a b c h1 h2 => by
      simp only [decide_eq_true_eq] at h1 h2 ⊢
      exact List.le_trans h1 h2) (fun a b => by
      have := List.le_total a b
      simpa using this) l
  have hn : (l.mergeSort (fun x y => decide (x ≤ y))).Nodup := hp.nodup_iff.2 h
  refine asc_eq_srt ?_ (fun x => hp.mem_iff)
  have := List.Pairwise.and hs hn
  refine this.imp ?_
  intro a b ⟨h1, h2⟩
  simp only [decide_eq_true_eq] at h1
  rcases str_tri a b with e | e | e
  · exact e
  · exact absurd e h2
  · exact absurd (List.le_antisymm h1 (List.not_lt.1 (fun h3 => List.lt_irrefl a (List.lt_trans h3 e)))) h2
end Go.Proofs.YtdeamdpoegdmdaaGreatDoor

/- Plain: links between strings, what they lead to; declarations and their order. -/
namespace Go.Proofs.YtdeamdpoegdmdaaGreatDoor

/-- From x to y by one or more links. -/
inductive Rc (f : Str → List Str) : Str → Str → Prop
  | one {x y : Str} : y ∈ f x → Rc f x y
  | more {x y z : Str} : Rc f x y → z ∈ f y → Rc f x z
theorem Rc.trans {f : Str → List Str} {x y z : Str} (h : Rc f x y) (g : Rc f y z) : Rc f x z := by
  induction g with
  | one e => exact .more h e
  | more _ e ih => exact .more ih e
theorem Rc.turn {f g : Str → List Str} (h : ∀ x y, y ∈ f x → x ∈ g y) {x y : Str} (r : Rc f x y) : Rc g y x := by
  induction r with
  | one e => exact .one (h _ _ e)
  | more _ e ih => exact (Rc.one (h _ _ e)).trans ih
theorem Rc.last {f : Str → List Str} {x z : Str} (r : Rc f x z) : ∃ y, z ∈ f y := by
  cases r with
  | one e => exact ⟨_, e⟩
  | more _ e => exact ⟨_, e⟩
theorem Rc.first {f : Str → List Str} {x z : Str} (r : Rc f x z) : ∃ y, y ∈ f x := by
  induction r with
  | one e => exact ⟨_, e⟩
  | more _ _ ih => exact ih
theorem Rc.congr {f g : Str → List Str} (h : ∀ x y, y ∈ f x → y ∈ g x) {x y : Str} (r : Rc f x y) : Rc g x y := by
  induction r with
  | one e => exact .one (h _ _ e)
  | more _ e ih => exact .more ih (h _ _ e)

/-- A declaration: its name, its supertypes, how many features. -/
structure Dec where
  name : Str
  sup : List Str
  nf : Nat
def nms (D : List Dec) : List Str := D.map Dec.name
theorem nms_len (D : List Dec) : (nms D).length = D.length := by simp [nms]
/-- The first declaration with this name. -/
def fnd (D : List Dec) (x : Str) : Option Dec := D.find? fun d => d.name == x
def up (D : List Dec) (x : Str) : List Str := match fnd D x with | some d => d.sup | none => []
/-- The types directly below one, in the order of declarations. -/
def dn (D : List Dec) (x : Str) : List Str := D.flatMap fun d => (d.sup.filter (· == x)).map fun _ => d.name
theorem mem_dn {D : List Dec} {x y : Str} : y ∈ dn D x ↔ ∃ d ∈ D, d.name = y ∧ x ∈ d.sup := by
  unfold dn
  rw [List.mem_flatMap]
  constructor
  · rintro ⟨d, hd, h⟩
    obtain ⟨z, hz, e⟩ := List.mem_map.1 h
    obtain ⟨h1, h2⟩ := List.mem_filter.1 hz
    have : z = x := by simpa using h2
    exact ⟨d, hd, e, this ▸ h1⟩
  · rintro ⟨d, hd, e, hx⟩
    exact ⟨d, hd, List.mem_map.2 ⟨x, List.mem_filter.2 ⟨hx, by simp⟩, e⟩⟩
theorem fnd_some {D : List Dec} {x : Str} {d : Dec} (h : fnd D x = some d) : d ∈ D ∧ d.name = x := by
  unfold fnd at h
  exact ⟨List.mem_of_find?_eq_some h, by simpa using List.find?_some h⟩
theorem fnd_none {D : List Dec} {x : Str} (h : fnd D x = none) : x ∉ nms D := by
  intro hx
  obtain ⟨d, hd, e⟩ := List.mem_map.1 hx
  unfold fnd at h
  have := List.find?_eq_none.1 h d hd
  exact this (by simp [e])
theorem fnd_mem {D : List Dec} {x : Str} (h : x ∈ nms D) : ∃ d, fnd D x = some d := by
  cases e : fnd D x with
  | none => exact absurd h (fnd_none e)
  | some d => exact ⟨d, rfl⟩
/-- Names are different: each declaration is found by its name. -/
theorem fnd_of {D : List Dec} (hn : (nms D).Nodup) {d : Dec} (hd : d ∈ D) : fnd D d.name = some d := by
  induction D with
  | nil => cases hd
  | cons a D ih =>
    have h2 : a.name ∉ nms D ∧ (nms D).Nodup := List.nodup_cons.1 hn
    unfold fnd
    rw [List.find?_cons]
    rcases List.mem_cons.1 hd with e | e
    · subst e; simp
    · have : (a.name == d.name) = false := by
        rw [beq_eq_false_iff_ne]
        intro e2
        exact h2.1 (e2 ▸ List.mem_map.2 ⟨d, e, rfl⟩)
      rw [this]
      exact ih h2.2 e
theorem up_of {D : List Dec} (hn : (nms D).Nodup) {d : Dec} (hd : d ∈ D) : up D d.name = d.sup := by
  unfold up; rw [fnd_of hn hd]
theorem mem_up {D : List Dec} {x y : Str} (h : y ∈ up D x) : ∃ d ∈ D, d.name = x ∧ y ∈ d.sup := by
  unfold up at h
  split at h
  · rename_i d e; exact ⟨d, (fnd_some e).1, (fnd_some e).2, h⟩
  · cases h
theorem dn_up {D : List Dec} (hn : (nms D).Nodup) {x y : Str} : y ∈ dn D x ↔ x ∈ up D y := by
  rw [mem_dn]
  constructor
  · rintro ⟨d, hd, e, hx⟩
    subst e
    rw [up_of hn hd]; exact hx
  · intro h
    obtain ⟨d, hd, e, hx⟩ := mem_up h
    exact ⟨d, hd, e, hx⟩

/-- What holds of declarations behind the numbers 1 to 3 of Check, but for the limits. -/
structure Ok (D : List Dec) : Prop where
  nodup : (nms D).Nodup
  decl : ∀ d ∈ D, ∀ s ∈ d.sup, s ∈ nms D
  once : ∀ d ∈ D, d.sup.Nodup

/-! ### The order -/
/-- May this name be the next one? -/
def may (D : List Dec) (out : List Str) (x : Str) : Prop := x ∈ nms D ∧ x ∉ out ∧ ∀ s ∈ up D x, s ∈ out
/-- The next name is the least one that may be. -/
def nxt (D : List Dec) (out : List Str) (x : Str) : Prop := may D out x ∧ ∀ y, may D out y → ¬ y < x
theorem nxt_one {D : List Dec} {out : List Str} {x y : Str} (h : nxt D out x) (g : nxt D out y) : x = y := by
  rcases str_tri x y with e | e | e
  · exact absurd e (g.2 x h.1)
  · exact e
  · exact absurd e (h.2 y g.1)
/-- Lists that are built by next names. -/
inductive Plc (D : List Dec) : List Str → Prop
  | nil : Plc D []
  | snoc {out : List Str} {x : Str} : Plc D out → nxt D out x → Plc D (out ++ [x])
def Done (D : List Dec) (out : List Str) : Prop := ∀ x, ¬ may D out x
theorem plc_prefix {D : List Dec} {a b : List Str} (ha : Plc D a) (hb : Plc D b) : a <+: b ∨ b <+: a := by
  induction ha generalizing b with
  | nil => exact .inl (List.nil_prefix)
  | @snoc a x ha hx ih =>
    rcases ih hb with ⟨t, rfl⟩ | ⟨t, e⟩
    · -- a is a beginning of b = a ++ t
      cases t with
      | nil => right; rw [List.append_nil]; exact List.prefix_append _ _
      | cons y t =>
        left
        have : ∀ {l : List Str}, Plc D l → ∀ (t' : List Str) (z : Str), l = a ++ z :: t' → nxt D a z := by
          intro l hl
          induction hl with
          | nil => intro t' z e; simp at e
          | @snoc o w ho hw iho =>
            intro t' z e
            rcases List.eq_nil_or_concat t' with rfl | ⟨t2, u, rfl⟩
            · have := List.append_inj' (s₁ := o) (t₁ := [w]) (s₂ := a) (t₂ := [z]) e rfl
              obtain ⟨e1, e2⟩ := this
              cases e2; subst e1; exact hw
            · have e' : o ++ [w] = (a ++ z :: t2) ++ [u] := by rw [e]; simp
              have := List.append_inj' e' rfl
              exact iho t2 z this.1
        have hy := this hb t y rfl
        have : x = y := nxt_one hx hy
        subst this
        exact ⟨t, by simp⟩
    · right; exact ⟨t ++ [x], by rw [← List.append_assoc, e]⟩
theorem plc_done {D : List Dec} {a b : List Str} (ha : Plc D a) (hb : Plc D b) (da : Done D a) (db : Done D b) : a = b := by
  have key : ∀ {a b : List Str}, Plc D b → Done D a → a <+: b → a = b := by
    intro a b hb da h
    obtain ⟨t, e⟩ := h
    have : ∀ {l : List Str}, Plc D l → ∀ t : List Str, l = a ++ t → t = [] := by
      intro l hl
      induction hl with
      | nil => intro t e; simp at e; exact e.2
      | @snoc o w ho hw iho =>
        intro t e
        rcases List.eq_nil_or_concat t with rfl | ⟨t2, u, rfl⟩
        · rfl
        · have e' : o ++ [w] = (a ++ t2) ++ [u] := by rw [e]; simp
          have := List.append_inj' e' rfl
          have h2 := iho t2 this.1
          subst h2
          rw [List.append_nil] at this
          exact absurd (this.1 ▸ hw.1) (da w)
    have := this hb t e.symm
    subst this
    simpa using e
  rcases plc_prefix ha hb with h | h
  · exact key hb da h
  · exact (key ha db h).symm
theorem Plc.nodup {D : List Dec} {a : List Str} (h : Plc D a) : a.Nodup := by
  induction h with
  | nil => exact List.nodup_nil
  | snoc _ hx ih =>
    rw [List.nodup_append]
    refine ⟨ih, by simp, ?_⟩
    intro y hy z hz
    simp at hz
    subst hz
    exact fun e => hx.1.2.1 (e ▸ hy)
theorem Plc.sub {D : List Dec} {a : List Str} (h : Plc D a) : ∀ x ∈ a, x ∈ nms D := by
  induction h with
  | nil => intro x hx; cases hx
  | snoc _ hx ih =>
    intro y hy
    rcases List.mem_append.1 hy with e | e
    · exact ih y e
    · simp at e; subst e; exact hx.1.1
theorem nodup_len {a b : List Str} (h : a.Nodup) (hs : ∀ x ∈ a, x ∈ b) : a.length ≤ b.length := by
  induction a generalizing b with
  | nil => exact Nat.zero_le _
  | cons x a ih =>
    obtain ⟨h1, h2⟩ := List.nodup_cons.1 h
    have hx := hs x (List.mem_cons_self ..)
    have := ih (b := b.erase x) h2 (fun y hy => by
      have hne : y ≠ x := fun e => h1 (e ▸ hy)
      exact (List.mem_erase_of_ne hne).2 (hs y (List.mem_cons_of_mem _ hy)))
    rw [List.length_erase_of_mem hx] at this
    have : 0 < b.length := List.length_pos_of_mem hx
    rw [List.length_cons]; omega
theorem Plc.len {D : List Dec} {a : List Str} (h : Plc D a) : a.length ≤ D.length := by
  have := nodup_len h.nodup h.sub
  rwa [nms_len] at this
/-- Each name comes behind its supertypes. -/
theorem Plc.behind {D : List Dec} {a : List Str} (h : Plc D a) : ∀ (b c : List Str) (x : Str), a = b ++ x :: c → ∀ s ∈ up D x, s ∈ b := by
  induction h with
  | nil => intro b c x e; simp at e
  | @snoc o w ho hw ih =>
    intro b c x e
    rcases List.eq_nil_or_concat c with rfl | ⟨t2, u, rfl⟩
    · have := List.append_inj' (s₁ := o) (t₁ := [w]) (s₂ := b) (t₂ := [x]) e rfl
      obtain ⟨e1, e2⟩ := this
      cases e2; subst e1
      exact hw.1.2.2
    · have e' : o ++ [w] = (b ++ x :: t2) ++ [u] := by rw [e]; simp
      have := List.append_inj' e' rfl
      exact ih b t2 x this.1
theorem Plc.sup {D : List Dec} {a : List Str} (h : Plc D a) {x : Str} (hx : x ∈ a) : ∀ s ∈ up D x, s ∈ a := by
  obtain ⟨b, c, e⟩ := List.append_of_mem hx
  intro s hs
  rw [e]
  exact List.mem_append_left _ (h.behind b c x e s hs)
/-- No name in the order leads to itself. -/
theorem Plc.acyc {D : List Dec} {a : List Str} (h : Plc D a) {x y : Str} (r : Rc (up D) x y) (hx : x ∈ a) : x ≠ y := by
  have key : ∀ {x y : Str}, Rc (up D) x y → ∀ b c, a = b ++ x :: c → y ∈ b := by
    intro x y r
    induction r with
    | one e => intro b c ha; exact h.behind b c _ ha _ e
    | @more y z _ e ih =>
      intro b c ha
      have hy := ih b c ha
      obtain ⟨b1, c1, e1⟩ := List.append_of_mem hy
      have := h.behind b1 (c1 ++ x :: c) y (by rw [ha, e1]; simp) z e
      rw [e1]; exact List.mem_append_left _ this
  obtain ⟨b, c, e⟩ := List.append_of_mem hx
  have hy := key r b c e
  intro e2
  subst e2
  have hn := h.nodup
  rw [e, List.nodup_append] at hn
  exact hn.2.2 x hy x (List.mem_cons_self ..) rfl
/-- The order of declarations exists. -/
theorem least_of {p : Str → Prop} (l : List Str) (h : ∃ x ∈ l, p x) : ∃ x ∈ l, p x ∧ ∀ y ∈ l, p y → ¬ y < x := by
  induction l with
  | nil => obtain ⟨x, hx, _⟩ := h; cases hx
  | cons a l ih =>
    by_cases ha : p a
    · by_cases hl : ∃ x ∈ l, p x
      · obtain ⟨x, hx, px, hm⟩ := ih hl
        by_cases hax : a < x
        · refine ⟨a, List.mem_cons_self .., ha, fun y hy py h => ?_⟩
          rcases List.mem_cons.1 hy with e | e
          · subst e; exact List.lt_irrefl _ h
          · exact hm y e py (List.lt_trans h hax)
        · refine ⟨x, List.mem_cons_of_mem _ hx, px, fun y hy py hlt => ?_⟩
          rcases List.mem_cons.1 hy with e | e
          · exact hax (e ▸ hlt)
          · exact hm y e py hlt
      · refine ⟨a, List.mem_cons_self .., ha, fun y hy py h => ?_⟩
        rcases List.mem_cons.1 hy with e | e
        · subst e; exact List.lt_irrefl _ h
        · exact hl ⟨y, e, py⟩
    · have hl : ∃ x ∈ l, p x := by
        obtain ⟨x, hx, px⟩ := h
        rcases List.mem_cons.1 hx with e | e
        · subst e; exact absurd px ha
        · exact ⟨x, e, px⟩
      obtain ⟨x, hx, px, hm⟩ := ih hl
      refine ⟨x, List.mem_cons_of_mem _ hx, px, fun y hy py h => ?_⟩
      rcases List.mem_cons.1 hy with e | e
      · subst e; exact ha py
      · exact hm y e py h
theorem plc_exists (D : List Dec) : ∃ out, Plc D out ∧ Done D out := by
  suffices ∀ n out, Plc D out → D.length - out.length ≤ n → ∃ o, Plc D o ∧ Done D o from this D.length [] .nil (by simp)
  intro n
  induction n with
  | zero =>
    intro out h hn
    by_cases hd : Done D out
    · exact ⟨out, h, hd⟩
    · unfold Done at hd
      have : ∃ x, may D out x := Classical.byContradiction fun e => hd (fun x hx => e ⟨x, hx⟩)
      obtain ⟨x, hx⟩ := this
      obtain ⟨y, _, my, hm⟩ := least_of (p := may D out) (nms D) ⟨x, hx.1, hx⟩
      have := (Plc.snoc h ⟨my, fun z hz => hm z hz.1 hz⟩).len
      rw [List.length_append] at this
      simp at this; omega
  | succ n ih =>
    intro out h hn
    by_cases hd : Done D out
    · exact ⟨out, h, hd⟩
    · unfold Done at hd
      have : ∃ x, may D out x := Classical.byContradiction fun e => hd (fun x hx => e ⟨x, hx⟩)
      obtain ⟨x, hx⟩ := this
      obtain ⟨y, _, my, hm⟩ := least_of (p := may D out) (nms D) ⟨x, hx.1, hx⟩
      have hp := Plc.snoc h ⟨my, fun z hz => hm z hz.1 hz⟩
      have hl := hp.len
      refine ih _ hp ?_
      rw [List.length_append] at hl ⊢
      simp at hl ⊢; omega
/-- The names in their order. -/
noncomputable def plc (D : List Dec) : List Str := Classical.choose (plc_exists D)
theorem plc_plc (D : List Dec) : Plc D (plc D) := (Classical.choose_spec (plc_exists D)).1
theorem plc_is {D : List Dec} {a : List Str} (h : Plc D a) (hd : Done D a) : a = plc D := plc_done h (plc_plc D) hd (Classical.choose_spec (plc_exists D)).2
end Go.Proofs.YtdeamdpoegdmdaaGreatDoor

/- Plain: what the functions of package poset return, in terms of lists. -/
namespace Go.Proofs.YtdeamdpoegdmdaaGreatDoor

/-! ### The order, computed -/
def mayB (D : List Dec) (out : List Str) (x : Str) : Bool := !out.contains x && (up D x).all out.contains
theorem mayB_iff {D : List Dec} {out : List Str} {x : Str} (hx : x ∈ nms D) : mayB D out x = true ↔ may D out x := by
  unfold mayB may
  simp [hx]
def lower (o : Option Str) (x : Str) : Option Str := match o with | none => some x | some y => if x < y then some x else some y
/-- The least one of some strings. -/
def least (l : List Str) : Option Str := l.foldl lower none
theorem least_snoc (l : List Str) (x : Str) : least (l ++ [x]) = lower (least l) x := by unfold least; rw [List.foldl_append]; rfl
theorem least_none {l : List Str} : least l = none ↔ l = [] := by
  rcases List.eq_nil_or_concat l with rfl | ⟨t, u, rfl⟩
  · exact ⟨fun _ => rfl, fun _ => rfl⟩
  · constructor
    · intro h
      rw [List.concat_eq_append, least_snoc] at h
      unfold lower at h
      split at h
      · cases h
      · split at h <;> cases h
    · intro h; simp at h
theorem least_some (n : Nat) : ∀ {l : List Str} {x : Str}, l.length = n → least l = some x → x ∈ l ∧ ∀ y ∈ l, ¬ y < x := by
  induction n with
  | zero =>
    intro l x hl h
    have := List.eq_nil_of_length_eq_zero hl
    subst this; cases h
  | succ n ih =>
    intro l x hl h
    rcases List.eq_nil_or_concat l with rfl | ⟨t, u, rfl⟩
    · cases h
    · rw [List.concat_eq_append] at h hl ⊢
      rw [least_snoc] at h
      have hlt : t.length = n := by rw [List.length_append] at hl; simpa using hl
      unfold lower at h
      split at h
      · rename_i e
        have := least_none.1 e
        subst this
        cases h
        exact ⟨by simp, fun y hy hlt => by simp at hy; subst hy; exact List.lt_irrefl _ hlt⟩
      · rename_i z e
        obtain ⟨h1, h2⟩ := ih hlt e
        split at h
        · rename_i hlt2
          cases h
          refine ⟨by simp, fun y hy hy2 => ?_⟩
          rcases List.mem_append.1 hy with g | g
          · exact h2 y g (List.lt_trans hy2 hlt2)
          · simp at g; subst g; exact List.lt_irrefl _ hy2
        · rename_i hge
          cases h
          refine ⟨List.mem_append_left _ h1, fun y hy hy2 => ?_⟩
          rcases List.mem_append.1 hy with g | g
          · exact h2 y g hy2
          · simp at g; subst g; exact hge hy2
def nxB (D : List Dec) (out : List Str) : Option Str := least ((nms D).filter (mayB D out))
theorem nxB_some {D : List Dec} {out : List Str} {x : Str} (h : nxB D out = some x) : nxt D out x := by
  obtain ⟨h1, h2⟩ := least_some _ rfl h
  obtain ⟨h3, h4⟩ := List.mem_filter.1 h1
  exact ⟨(mayB_iff h3).1 h4, fun y hy => h2 y (List.mem_filter.2 ⟨hy.1, (mayB_iff hy.1).2 hy⟩)⟩
theorem nxB_none {D : List Dec} {out : List Str} (h : nxB D out = none) : Done D out := by
  intro x hx
  have := least_none.1 h
  have h2 : x ∈ (nms D).filter (mayB D out) := List.mem_filter.2 ⟨hx.1, (mayB_iff hx.1).2 hx⟩
  rw [this] at h2; cases h2
def plF : Nat → List Dec → List Str → List Str
  | 0, _, out => out
  | n + 1, D, out => match nxB D out with | none => out | some x => plF n D (out ++ [x])
theorem plF_plc : ∀ (n : Nat) (D : List Dec) (out : List Str), Plc D out → D.length - out.length ≤ n → Plc D (plF n D out) ∧ Done D (plF n D out)
  | 0, D, out, h, hn => by
    refine ⟨h, ?_⟩
    cases e : nxB D out with
    | none => exact nxB_none e
    | some x =>
      have := (Plc.snoc h (nxB_some e)).len
      rw [List.length_append] at this
      simp at this; omega
  | n + 1, D, out, h, hn => by
    unfold plF
    cases e : nxB D out with
    | none => exact ⟨h, nxB_none e⟩
    | some x =>
      have hp := Plc.snoc h (nxB_some e)
      have hl := hp.len
      refine plF_plc n D _ hp ?_
      rw [List.length_append] at hl ⊢
      simp at hl ⊢; omega
theorem plc_eq (D : List Dec) : plc D = plF D.length D [] := by
  have := plF_plc D.length D [] .nil (by simp)
  exact (plc_is this.1 this.2).symm

/-! ### Check -/
/-- The error of the names, behind some earlier ones. -/
def nmE (nm : Str → Bool) : List Str → List Dec → Nat
  | _, [] => 0
  | ea, d :: r => if nm d.name then (if ea.contains d.name then 4 else nmE nm (ea ++ [d.name]) r) else 1
/-- The error of the supertypes of one declaration. -/
def spE (N : List Str) : List Str → List Str → Nat
  | _, [] => 0
  | ea, s :: r => if N.contains s then (if ea.contains s then 4 else spE N (ea ++ [s]) r) else 5
def suE (N : List Str) : List Dec → Nat
  | [] => 0
  | d :: r => if spE N [] d.sup = 0 then suE N r else spE N [] d.sup
def tops (D : List Dec) : Nat := (D.filter fun d => d.sup.isEmpty).length
def szE (D : List Dec) : Nat := if 256 < D.length then 7 else if D.any (fun d => decide (256 < d.sup.length) || decide (256 < d.nf)) then 7 else 0
noncomputable def chk (nm : Str → Bool) (D : List Dec) : Nat :=
  if szE D ≠ 0 then szE D
  else if nmE nm [] D ≠ 0 then nmE nm [] D
  else if suE (nms D) D ≠ 0 then suE (nms D) D
  else if tops D ≠ 1 then 1
  else if (plc D).length < D.length then 6 else 0
theorem nmE_zero {nm : Str → Bool} : ∀ {D : List Dec} {ea : List Str}, nmE nm ea D = 0 → (nms D).Nodup ∧ (∀ x ∈ nms D, x ∉ ea) ∧ ∀ d ∈ D, nm d.name = true
  | [], _, _ => ⟨List.nodup_nil, (fun _ hx => (List.not_mem_nil hx).elim), (fun _ hd => (List.not_mem_nil hd).elim)⟩
  | d :: r, ea, h => by
    unfold nmE at h
    split at h
    · rename_i hn
      split at h
      · cases h
      · rename_i hc
        obtain ⟨h1, h2, h3⟩ := nmE_zero h
        have hc2 : d.name ∉ ea := by simpa using hc
        refine ⟨List.nodup_cons.2 ⟨fun hm => h2 _ hm (by simp), h1⟩, fun x hx => ?_, fun e he => ?_⟩
        · rcases List.mem_cons.1 hx with e | e
          · rw [e]; exact hc2
          · exact fun hm => h2 x e (List.mem_append_left _ hm)
        · rcases List.mem_cons.1 he with e2 | e2
          · rw [e2]; exact hn
          · exact h3 e e2
    · cases h
theorem spE_zero {N : List Str} : ∀ {l ea : List Str}, spE N ea l = 0 → l.Nodup ∧ (∀ x ∈ l, x ∉ ea) ∧ ∀ x ∈ l, x ∈ N
  | [], _, _ => ⟨List.nodup_nil, (fun _ hx => (List.not_mem_nil hx).elim), (fun _ hd => (List.not_mem_nil hd).elim)⟩
  | s :: r, ea, h => by
    unfold spE at h
    split at h
    · rename_i hn
      split at h
      · cases h
      · rename_i hc
        obtain ⟨h1, h2, h3⟩ := spE_zero h
        have hc2 : s ∉ ea := by simpa using hc
        refine ⟨List.nodup_cons.2 ⟨fun hm => h2 _ hm (by simp), h1⟩, fun x hx => ?_, fun e he => ?_⟩
        · rcases List.mem_cons.1 hx with e | e
          · rw [e]; exact hc2
          · exact fun hm => h2 x e (List.mem_append_left _ hm)
        · rcases List.mem_cons.1 he with e2 | e2
          · rw [e2]; simpa using hn
          · exact h3 e e2
    · cases h
theorem suE_zero {N : List Str} : ∀ {D : List Dec}, suE N D = 0 → ∀ d ∈ D, d.sup.Nodup ∧ ∀ x ∈ d.sup, x ∈ N
  | [], _, d, hd => by cases hd
  | d :: r, h, e, he => by
    unfold suE at h
    split at h
    · rename_i h0
      rcases List.mem_cons.1 he with e2 | e2
      · rw [e2]
        obtain ⟨h1, _, h3⟩ := spE_zero h0
        exact ⟨h1, h3⟩
      · exact suE_zero h e e2
    · rename_i h0; exact absurd h h0
theorem ok_of {nm : Str → Bool} {D : List Dec} (h1 : nmE nm [] D = 0) (h2 : suE (nms D) D = 0) : Ok D :=
  ⟨(nmE_zero h1).1, fun d hd s hs => (suE_zero h2 d hd).2 s hs, fun d hd => (suE_zero h2 d hd).1⟩
structure Good (nm : Str → Bool) (D : List Dec) : Prop where
  sz : szE D = 0
  ok : Ok D
  top : tops D = 1
  all : (plc D).length = D.length
theorem good_of {nm : Str → Bool} {D : List Dec} (h : chk nm D = 0) : Good nm D := by
  unfold chk at h
  split at h
  · rename_i h0; exact absurd h h0
  · rename_i h0
    split at h
    · rename_i h1; exact absurd h h1
    · rename_i h1
      split at h
      · rename_i h2; exact absurd h h2
      · rename_i h2
        split at h
        · cases h
        · rename_i h3
          split at h
          · cases h
          · rename_i h4
            have := (plc_plc D).len
            exact ⟨by omega, ok_of (nm := nm) (by omega) (by omega), by omega, by omega⟩
/-- A nodup list as long as one that has all its elements has all of that. -/
theorem full_of {a b : List Str} (h : a.Nodup) (hs : ∀ x ∈ a, x ∈ b) (hl : a.length = b.length) : ∀ x ∈ b, x ∈ a := by
  intro x hx
  by_cases hxa : x ∈ a
  · exact hxa
  · have := nodup_len (a := x :: a) (b := b) (List.nodup_cons.2 ⟨hxa, h⟩) (fun y hy => by
      rcases List.mem_cons.1 hy with e | e
      · rw [e]; exact hx
      · exact hs y e)
    rw [List.length_cons] at this; omega
theorem Good.plc_all {nm : Str → Bool} {D : List Dec} (h : Good nm D) : ∀ x ∈ nms D, x ∈ plc D :=
  full_of (plc_plc D).nodup (plc_plc D).sub (by rw [nms_len]; exact h.all)
theorem Good.acyc {nm : Str → Bool} {D : List Dec} (h : Good nm D) {x y : Str} (r : Rc (up D) x y) (hx : x ∈ nms D) : x ≠ y :=
  (plc_plc D).acyc r (h.plc_all x hx)
theorem Ok.up_mem {D : List Dec} (h : Ok D) {x y : Str} (hy : y ∈ up D x) : y ∈ nms D := by
  obtain ⟨d, hd, _, hs⟩ := mem_up hy
  exact h.decl d hd y hs
theorem up_left {D : List Dec} {x y : Str} (hy : y ∈ up D x) : x ∈ nms D := by
  obtain ⟨d, hd, e, _⟩ := mem_up hy
  exact List.mem_map.2 ⟨d, hd, e⟩

/-! ### What is above, what is below -/
def add (t : List Str) (y : Str) : List Str := if t.contains y then t else t ++ [y]
def bfs (f : Str → List Str) : Nat → Nat → List Str → List Str
  | 0, _, t => t
  | n + 1, i, t => match t[i]? with | none => t | some x => bfs f n (i + 1) ((f x).foldl add t)
theorem mem_add {t : List Str} {x y : Str} : x ∈ add t y ↔ x ∈ t ∨ x = y := by
  unfold add
  split
  · rename_i h
    constructor
    · exact .inl
    · rintro (h2 | h2)
      · exact h2
      · rw [h2]; simpa using h
  · simp
theorem add_nodup {t : List Str} {y : Str} (h : t.Nodup) : (add t y).Nodup := by
  unfold add
  split
  · exact h
  · rename_i hc
    rw [List.nodup_append]
    refine ⟨h, by simp, fun a ha b hb => ?_⟩
    simp at hb hc
    subst hb
    exact fun e => hc (e ▸ ha)
theorem adds {l : List Str} : ∀ {t : List Str}, (∀ x, x ∈ l.foldl add t ↔ x ∈ t ∨ x ∈ l) ∧ (t.Nodup → (l.foldl add t).Nodup) ∧ t <+: l.foldl add t := by
  induction l with
  | nil => intro t; exact ⟨fun x => by simp, id, List.prefix_rfl⟩
  | cons y l ih =>
    intro t
    obtain ⟨h1, h2, h3⟩ := ih (t := add t y)
    refine ⟨fun x => ?_, fun h => h2 (add_nodup h), List.IsPrefix.trans ?_ h3⟩
    · rw [List.foldl_cons, h1, mem_add, List.mem_cons]
      constructor
      · rintro ((e | e) | e)
        · exact .inl e
        · exact .inr (.inl e)
        · exact .inr (.inr e)
      · rintro (e | e | e)
        · exact .inl (.inl e)
        · exact .inl (.inr e)
        · exact .inr e
    · unfold add
      split
      · exact List.prefix_rfl
      · exact List.prefix_append _ _
/-- What holds while the list grows. -/
structure Bfs (f : Str → List Str) (N : List Str) (x : Str) (i : Nat) (t : List Str) : Prop where
  nodup : t.Nodup
  sub : ∀ y ∈ t, y ∈ N
  le : i ≤ t.length
  has : x ∈ t
  from_ : ∀ y ∈ t, y = x ∨ Rc f x y
  done : ∀ j y, j < i → t[j]? = some y → ∀ z ∈ f y, z ∈ t
theorem Bfs.step {f : Str → List Str} {N : List Str} (hf : ∀ x y, y ∈ f x → y ∈ N) {x : Str} {i : Nat} {t : List Str} (h : Bfs f N x i t) {y : Str} (hy : t[i]? = some y) : Bfs f N x (i + 1) ((f y).foldl add t) := by
  obtain ⟨h1, h2, h3⟩ := adds (l := f y) (t := t)
  have hyt : y ∈ t := List.mem_of_getElem? hy
  have hl : i < t.length := (List.getElem?_eq_some_iff.1 hy).1
  have hle := h3.length_le
  refine ⟨h2 h.nodup, fun z hz => ?_, by omega, (h1 x).2 (.inl h.has), fun z hz => ?_, fun j z hj hz w hw => ?_⟩
  · rcases (h1 z).1 hz with e | e
    · exact h.sub z e
    · exact hf y z e
  · rcases (h1 z).1 hz with e | e
    · exact h.from_ z e
    · rcases h.from_ y hyt with e2 | e2
      · rw [e2] at e; exact .inr (.one e)
      · exact .inr (.more e2 e)
  · have hzt : t[j]? = some z := by
      obtain ⟨u, hu⟩ := h3
      rw [← hu, List.getElem?_append_left (by omega)] at hz
      exact hz
    rcases Nat.lt_succ_iff_lt_or_eq.1 hj with e | e
    · exact (h1 w).2 (.inl (h.done j z e hzt w hw))
    · subst e
      rw [hzt] at hy
      cases hy
      exact (h1 w).2 (.inr hw)
theorem Bfs.end {f : Str → List Str} {N : List Str} {x : Str} {i : Nat} {t : List Str} (h : Bfs f N x i t) (hi : t[i]? = none) : ∀ y, y ∈ t ↔ y = x ∨ Rc f x y := by
  have hl : t.length ≤ i := List.getElem?_eq_none_iff.1 hi
  intro y
  constructor
  · exact h.from_ y
  · rintro (e | e)
    · rw [e]; exact h.has
    · have hc : ∀ z ∈ t, ∀ u ∈ f z, u ∈ t := fun z hz u hu => by
        obtain ⟨j, hj, e⟩ := List.getElem_of_mem hz
        exact h.done j z (by omega) (by rw [List.getElem?_eq_getElem hj, e]) u hu
      have hx := h.has
      clear h hi
      induction e with
      | one e => exact hc _ hx _ e
      | more _ e ih => exact hc _ ih _ e
theorem prefix_nodup_at {t : List Str} {i : Nat} {x : Str} (h : t.Nodup) (hx : t[i]? = some x) {j : Nat} (hj : t[j]? = some x) : i = j := by
  obtain ⟨h1, e1⟩ := List.getElem?_eq_some_iff.1 hx
  obtain ⟨h2, e2⟩ := List.getElem?_eq_some_iff.1 hj
  have hp := List.pairwise_iff_getElem.1 h
  rcases Nat.lt_trichotomy i j with g | g | g
  · exact absurd (e1.trans e2.symm) (hp i j h1 h2 g)
  · exact g
  · exact absurd (e2.trans e1.symm) (hp j i h2 h1 g)
theorem bfs_bfs {f : Str → List Str} {N : List Str} (hf : ∀ x y, y ∈ f x → y ∈ N) {x : Str} : ∀ (n i : Nat) (t : List Str), Bfs f N x i t → N.length - i ≤ n → ∀ y, y ∈ bfs f n i t ↔ y = x ∨ Rc f x y
  | 0, i, t, h, hn => by
    have := nodup_len h.nodup h.sub
    have hle := h.le
    exact h.end (List.getElem?_eq_none_iff.2 (by omega))
  | n + 1, i, t, h, hn => by
    unfold bfs
    cases e : t[i]? with
    | none => exact h.end e
    | some y => exact bfs_bfs hf n (i + 1) _ (h.step hf e) (by omega)
theorem bfs_start {f : Str → List Str} {N : List Str} {x : Str} (hx : x ∈ N) : Bfs f N x 0 [x] :=
  ⟨by simp, fun y hy => by simp at hy; rw [hy]; exact hx, Nat.zero_le _, by simp, fun y hy => by simp at hy; exact .inl hy, fun j y hj => absurd hj (Nat.not_lt_zero _)⟩
theorem bfs_sub {f : Str → List Str} {N : List Str} (hf : ∀ x y, y ∈ f x → y ∈ N) : ∀ (n i : Nat) (t : List Str), t.Nodup → (∀ y ∈ t, y ∈ N) → (bfs f n i t).Nodup ∧ ∀ y ∈ bfs f n i t, y ∈ N
  | 0, _, _, h, hs => ⟨h, hs⟩
  | n + 1, i, t, h, hs => by
    unfold bfs
    cases e : t[i]? with
    | none => exact ⟨h, hs⟩
    | some y =>
      obtain ⟨h1, h2, _⟩ := adds (l := f y) (t := t)
      exact bfs_sub hf n (i + 1) _ (h2 h) (fun z hz => by
        rcases (h1 z).1 hz with e | e
        · exact hs z e
        · exact hf y z e)

/-- The names of the declarations that have x among their supertypes, each once. -/
def dnR (D : List Dec) (x : Str) : List Str := (D.filter fun d => d.sup.contains x).map Dec.name
theorem mem_dnR {D : List Dec} {x y : Str} : y ∈ dnR D x ↔ y ∈ dn D x := by
  rw [mem_dn]; unfold dnR
  rw [List.mem_map]
  constructor
  · rintro ⟨d, hd, e⟩
    obtain ⟨h1, h2⟩ := List.mem_filter.1 hd
    exact ⟨d, h1, e, by simpa using h2⟩
  · rintro ⟨d, hd, e, hx⟩
    exact ⟨d, List.mem_filter.2 ⟨hd, by simpa using hx⟩, e⟩
def ab (D : List Dec) (x : Str) : List Str := if x ∈ nms D then srt (bfs (up D) D.length 0 [x]) else []
def bl (D : List Dec) (x : Str) : List Str := if x ∈ nms D then srt (bfs (dnR D) D.length 0 [x]) else []
theorem ab_asc (D : List Dec) (x : Str) : Asc (ab D x) := by unfold ab; split; exact srt_asc _; exact asc_nil
theorem bl_asc (D : List Dec) (x : Str) : Asc (bl D x) := by unfold bl; split; exact srt_asc _; exact asc_nil
theorem mem_ab {D : List Dec} (h : Ok D) {x y : Str} : y ∈ ab D x ↔ x ∈ nms D ∧ (y = x ∨ Rc (up D) x y) := by
  unfold ab
  split
  · rename_i hx
    rw [mem_srt, bfs_bfs (N := nms D) (fun x y hy => h.up_mem hy) D.length 0 [x] (bfs_start hx) (by rw [nms_len]; omega)]
    simp [hx]
  · rename_i hx; simp [hx]
theorem dn_mem {D : List Dec} {x y : Str} (hy : y ∈ dn D x) : y ∈ nms D := by
  obtain ⟨d, hd, e, _⟩ := mem_dn.1 hy
  exact List.mem_map.2 ⟨d, hd, e⟩
theorem mem_bl {D : List Dec} {x y : Str} : y ∈ bl D x ↔ x ∈ nms D ∧ (y = x ∨ Rc (dn D) x y) := by
  unfold bl
  split
  · rename_i hx
    rw [mem_srt, bfs_bfs (N := nms D) (fun x y hy => dn_mem (mem_dnR.1 hy)) D.length 0 [x] (bfs_start hx) (by rw [nms_len]; omega)]
    simp only [hx, true_and]
    constructor
    · rintro (e | e)
      · exact .inl e
      · exact .inr (e.congr fun _ _ => mem_dnR.1)
    · rintro (e | e)
      · exact .inl e
      · exact .inr (e.congr fun _ _ => mem_dnR.2)
  · rename_i hx; simp [hx]
theorem rc_turn {D : List Dec} (h : Ok D) {x y : Str} : Rc (dn D) x y ↔ Rc (up D) y x :=
  ⟨fun r => r.turn fun _ _ => (dn_up h.nodup).1, fun r => r.turn fun _ _ => (dn_up h.nodup).2⟩
theorem ab_bl {D : List Dec} (h : Ok D) {x y : Str} (hx : x ∈ nms D) (hy : y ∈ nms D) : y ∈ ab D x ↔ x ∈ bl D y := by
  rw [mem_ab h, mem_bl, rc_turn h]
  constructor
  · rintro ⟨_, e | e⟩
    · exact ⟨hy, .inl e.symm⟩
    · exact ⟨hy, .inr e⟩
  · rintro ⟨_, e | e⟩
    · exact ⟨hx, .inl e.symm⟩
    · exact ⟨hx, .inr e⟩
/-- The declared names of a list, ascending. -/
def dcl (D : List Dec) (l : List Str) : List Str := srt (l.filter (nms D).contains)
def mx (D : List Dec) (l : List Str) : List Str := (dcl D l).filter fun x => (dcl D l).all fun y => y == x || !(ab D x).contains y
def mn (D : List Dec) (l : List Str) : List Str := (dcl D l).filter fun x => (dcl D l).all fun y => y == x || !(ab D y).contains x
theorem mem_dcl {D : List Dec} {l : List Str} {x : Str} : x ∈ dcl D l ↔ x ∈ l ∧ x ∈ nms D := by
  unfold dcl; rw [mem_srt, List.mem_filter]; simp
/-- The program's way: those that no links lead to. -/
theorem mx_eq {nm : Str → Bool} {D : List Dec} (h : Good nm D) (l : List Str) (r : Str → Bool) (hr : ∀ x, r x = true ↔ ∃ y ∈ dcl D l, Rc (dn D) y x) : (dcl D l).filter (fun x => !r x) = mx D l := by
  unfold mx
  refine List.filter_congr fun x hx => ?_
  have hxn := (mem_dcl.1 hx).2
  rw [Bool.eq_iff_iff, Bool.not_eq_true', Bool.eq_false_iff, List.all_eq_true]
  constructor
  · intro hn y hy
    have hyn := (mem_dcl.1 hy).2
    rw [Bool.or_eq_true, beq_iff_eq, Bool.not_eq_true', Bool.eq_false_iff]
    by_cases e : y = x
    · exact .inl e
    · refine .inr fun hc => hn ((hr x).2 ⟨y, hy, ?_⟩)
      rcases (mem_ab h.ok).1 (by simpa using hc) with ⟨_, e2 | e2⟩
      · exact absurd e2 e
      · exact (rc_turn h.ok).2 e2
  · intro ha hc
    obtain ⟨y, hy, r1⟩ := (hr x).1 hc
    have r2 := (rc_turn h.ok).1 r1
    have hne : x ≠ y := h.acyc r2 hxn
    have := ha y hy
    rw [Bool.or_eq_true, beq_iff_eq, Bool.not_eq_true', Bool.eq_false_iff] at this
    rcases this with e | e
    · exact hne e.symm
    · exact e (by simpa using (mem_ab h.ok).2 ⟨hxn, .inr r2⟩)
theorem mn_eq {nm : Str → Bool} {D : List Dec} (h : Good nm D) (l : List Str) (r : Str → Bool) (hr : ∀ x, r x = true ↔ ∃ y ∈ dcl D l, Rc (up D) y x) : (dcl D l).filter (fun x => !r x) = mn D l := by
  unfold mn
  refine List.filter_congr fun x hx => ?_
  have hxn := (mem_dcl.1 hx).2
  rw [Bool.eq_iff_iff, Bool.not_eq_true', Bool.eq_false_iff, List.all_eq_true]
  constructor
  · intro hn y hy
    have hyn := (mem_dcl.1 hy).2
    rw [Bool.or_eq_true, beq_iff_eq, Bool.not_eq_true', Bool.eq_false_iff]
    by_cases e : y = x
    · exact .inl e
    · refine .inr fun hc => hn ((hr x).2 ⟨y, hy, ?_⟩)
      rcases (mem_ab h.ok).1 (by simpa using hc) with ⟨_, e2 | e2⟩
      · exact absurd e2.symm e
      · exact e2
  · intro ha hc
    obtain ⟨y, hy, r2⟩ := (hr x).1 hc
    have hyn := (mem_dcl.1 hy).2
    have hne : y ≠ x := h.acyc r2 hyn
    have := ha y hy
    rw [Bool.or_eq_true, beq_iff_eq, Bool.not_eq_true', Bool.eq_false_iff] at this
    rcases this with e | e
    · exact hne e
    · exact e (by simpa using (mem_ab h.ok).2 ⟨hyn, .inr r2⟩)
end Go.Proofs.YtdeamdpoegdmdaaGreatDoor

/- Lists of strings and of declarations in memory. -/
namespace Go.Proofs.YtdeamdpoegdmdaaGreatDoor
open Go.RowKit

def mk (l : List UInt8) : ByteArray := ⟨l.toArray⟩
theorem mk_list (l : List UInt8) : (mk l).data.toList = l := by simp [mk]
theorem mk_size (l : List UInt8) : (mk l).size = l.length := by simp [mk, ByteArray.size]
theorem mk_self (s : ByteArray) : mk s.data.toList = s := by
  apply ByteArray.ext; simp [mk]
theorem mk_inj {a b : List UInt8} (h : mk a = mk b) : a = b := by
  have := congrArg (fun s : ByteArray => s.data.toList) h
  simpa [mk] using this
theorem below_drewN2 {B : Nat} {a w : World} (h : Below B a w) (k : Nat) : Below B a (w.drewN k) := ⟨h.os, h.tape, h.output, h.size, h.block⟩

def st (zs : List Str) (i : Nat) : Str := zs.getD i []
def svals (zs : List Str) : List Value := zs.map fun l => Value.string (mk l)
theorem svals_len (zs : List Str) : (svals zs).length = zs.length := by simp [svals]
theorem svals_snoc (zs : List Str) (l : Str) : svals zs ++ [Value.string (mk l)] = svals (zs ++ [l]) := by simp [svals]
theorem svals_app (a b : List Str) : svals a ++ svals b = svals (a ++ b) := by simp [svals]
theorem st_get {zs : List Str} {i : Nat} (h : i < zs.length) : zs[i]? = some (st zs i) := by
  unfold st; rw [List.getD_eq_getElem?_getD, List.getElem?_eq_getElem h]; rfl
theorem st_mem {zs : List Str} {i : Nat} (h : i < zs.length) : st zs i ∈ zs := List.mem_of_getElem? (st_get h)
theorem take_st {zs : List Str} {i : Nat} (h : i < zs.length) : zs.take (i + 1) = zs.take i ++ [st zs i] := by
  rw [List.take_succ_eq_append_getElem h]
  have := st_get h
  rw [List.getElem?_eq_getElem h] at this
  rw [Option.some.inj this]
/-- A slice of strings that reads as a list. -/
structure IsStrs (w : World) (a : Option Addr) (n cap : Nat) (zs : List Str) : Prop where
  len : zs.length = n
  capLe : n ≤ cap
  maxLe : cap ≤ maxLen
  small : ∀ z ∈ zs, z.length ≤ maxLen
  nil_ : a = none → cap = 0
  at_ : 0 < n → ∃ b off, a = some ⟨b, off, none⟩ ∧ b < w.heap.size ∧ ∀ i, i < n → w.cell? ⟨b, off + i, none⟩ = some (.string (mk (st zs i)))
theorem IsStrs.below {w w' : World} {a : Option Addr} {n cap : Nat} {xs : List Str} (h : IsStrs w a n cap xs) (hb : Below w.heap.size w w') : IsStrs w' a n cap xs := by
  have hsz := hb.size
  refine ⟨h.len, h.capLe, h.maxLe, h.small, h.nil_, fun h0 => ?_⟩
  obtain ⟨b, off, e, hl, hc⟩ := h.at_ h0
  exact ⟨b, off, e, by omega, fun i hi => (hb.cell (p := ⟨b, off + i, none⟩) hl).trans (hc i hi)⟩
theorem IsStrs.nil (w : World) : IsStrs w none 0 0 [] := ⟨rfl, Nat.le_refl _, Nat.zero_le _, (fun _ h => (List.not_mem_nil h).elim), fun _ => rfl, fun h => absurd h (Nat.lt_irrefl _)⟩
/-- Another world that has the same cells. -/
theorem IsStrs.same {w w' : World} {a : Option Addr} {n cap : Nat} {xs : List Str} (h : IsStrs w a n cap xs) (hz : w.heap.size ≤ w'.heap.size) (hc : ∀ b off, a = some ⟨b, off, none⟩ → w'.heap[b]? = w.heap[b]?) : IsStrs w' a n cap xs := by
  refine ⟨h.len, h.capLe, h.maxLe, h.small, h.nil_, fun h0 => ?_⟩
  obtain ⟨b, off, e, hl, hcs⟩ := h.at_ h0
  exact ⟨b, off, e, by omega, fun i hi => (World.cell?_of_block (a := ⟨b, off + i, none⟩) (hc b off e)).trans (hcs i hi)⟩
theorem Tryz.infoS : (Tryz.prog.info? 9).map (fun i => (i.zero, i.size, i.bytes)) = some (some (.string ByteArray.empty), 1, 16) := by kernel_rfl
/-- A row of strings that the call owns reads as its list. -/
theorem IsStrs.of_owns {w : World} {B n : Nat} {v : Value} {zs : List Str} (h : w.ownsRow B 9 1 v n (svals zs)) (hs : ∀ z ∈ zs, z.length ≤ maxLen) :
    ∃ a cap, v = .slice a n cap ∧ IsStrs w a n cap zs := by
  have hh := h
  have hlen : zs.length = n := by have := h.1; rw [svals_len] at this; omega
  obtain ⟨h1, ⟨h2, h3⟩ | ⟨g, cap, cur, hv, hB, hg, h3, h4, h5, h6⟩⟩ := h
  · subst h3
    exact ⟨none, 0, h2, hlen, Nat.le_refl _, Nat.zero_le _, hs, fun _ => rfl, fun h0 => absurd h0 (Nat.lt_irrefl _)⟩
  · refine ⟨some ⟨g, 0, none⟩, cap, hv, hlen, h3, h4, hs, (fun e => by cases e), fun _ => ⟨g, 0, rfl, lt_of_block hg, fun i hi => ?_⟩⟩
    have := hh.cells (g := g) (by rw [hv]; rfl) i (.string (Go.Proofs.YtdeamdpoegdmdaaGreatDoor.mk (st zs i))) (by
      simp [svals, st, List.getD_eq_getElem?_getD, List.getElem?_eq_getElem (show i < zs.length by omega)])
    rw [show (⟨g, 0, none⟩ : Addr).add i = ⟨g, i, none⟩ by unfold Addr.add; split <;> simp_all] at this
    rw [Nat.zero_add]
    exact this
theorem owns_below {w w' : World} {B n sz : Nat} {e : TypeId} {v : Value} {xs : List Value} (h : w.ownsRow B e sz v n xs) (hb : Below w.heap.size w w') : w'.ownsRow B e sz v n xs := by
  obtain ⟨h1, h2 | ⟨g, cap, cur, hv, hB, hg, r⟩⟩ := h
  · exact ⟨h1, .inl h2⟩
  · have hlt : g < w.heap.size := lt_of_block hg
    exact ⟨h1, .inr ⟨g, cap, cur, hv, hB, (hb.block g hlt).trans hg, r⟩⟩
theorem one_newS (w : World) (x : Value) (t : TypeId) : ∀ j u, [x][j]? = some u → (w.alloc (.cells #[x] t)).cell? ((⟨w.heap.size, 0, none⟩ : Addr).add j) = some u := cell_one_new w x t

/-- The call returns a slice of strings that reads as this list, and is its own; nothing that was there has changed. -/
def RetL (xs : List Str) (w : World) (e : Ending) (w' : World) : Prop :=
  ∃ v, e = .returned v ∧ w'.ownsRow w.heap.size 9 1 v xs.length (svals xs) ∧ (∀ z ∈ xs, z.length ≤ maxLen) ∧ Below w.heap.size w w'

/-- A new block of one string. -/
theorem IsStrs.one (w : World) (x : Str) (hx : x.length ≤ maxLen) : IsStrs (w.alloc (.cells #[.string (Go.Proofs.YtdeamdpoegdmdaaGreatDoor.mk x)] 9)) (some ⟨w.heap.size, 0, none⟩) 1 1 [x] :=
  ⟨rfl, Nat.le_refl _, by unfold maxLen; omega, (fun z hz => by simp at hz; rw [hz]; exact hx), (fun e => by cases e), fun _ => ⟨w.heap.size, 0, rfl, by simp, fun i hi => by
    obtain rfl : i = 0 := by omega
    exact cell_of_one (heap_alloc_new w _)⟩⟩
set_option maxRecDepth 100000 in
/-- append of a slice of strings to a row that the call owns. -/
theorem wpList_append_strs {w : World} {ops : Array Oper} {rest : List Oper} {o : Oper} {a : Act} {Q : Exit → Act → World → Prop} (hgd : o.guard = none) (s x : Operand)
    (ho : o.op = .call { callee := .builtin .append, args := #[s, x], argTypes := #[49, 49] })
    (base : Nat) (v : Value) (n : Nat) (zs : List Str) (hs : a.eval s = v) (hown : w.ownsRow base 9 1 v n (svals zs))
    (xa : Option Addr) (m c : Nat) (ys : List Str) (hx : a.eval x = .slice xa m c) (hys : IsStrs w xa m c ys) (h63 : n + m ≤ 1000000) (hbase : base ≤ w.heap.size)
    (h : ∀ v' w', w'.ownsRow base 9 1 v' (n + m) (svals (zs ++ ys)) → w.grownBy w' v.ownBlock → wpList Tryz.prog ops Q rest (a.put o.dst v') w') : wpList Tryz.prog ops Q (o :: rest) a w := by
  obtain ⟨i0, hi, hz0, hz1, hz2⟩ := info_parts Tryz.infoS
  have hl := hys.len
  cases xa with
  | none =>
    have hc0 := hys.nil_ rfl
    have hcl := hys.capLe
    obtain rfl : m = 0 := by omega
    subst hc0
    have hy0 : ys = [] := List.eq_nil_of_length_eq_zero hl
    subst hy0
    refine wpList_append_own_none hgd s x 49 ho base 9 i0 1 Tryz.underlying49 hi v n (svals zs) hs hown hx ?_
    exact h v w (by rw [List.append_nil]; exact hown) ⟨rfl, rfl, rfl, Nat.le_refl _, fun _ _ _ => rfl⟩
  | some ad =>
    refine wpList_append_own w hgd s x 49 ho base 9 i0 (.string ByteArray.empty) 1 16 Tryz.underlying49 hi hz0 hz1 hz2 rfl (by decide) v n (svals zs) hs hown ad m c (svals ys) hx (by rw [svals_len]; omega) ?_ ?_ (by unfold maxLen; omega) (by omega) hbase fun v' w' h1 h2 _ => h v' w' (by rw [← svals_app]; exact h1) h2
    · intro j u hu
      have hj : j < m := by
        have := (List.getElem?_eq_some_iff.1 hu).1
        rw [svals_len] at this; omega
      obtain ⟨b, off, e, _, hc⟩ := hys.at_ (by omega)
      cases e
      have hu2 : u = .string (mk (st ys j)) := by
        unfold svals at hu
        rw [List.getElem?_map, st_get (by omega)] at hu
        exact (Option.some.inj hu).symm
      rw [hu2, ← hc j hj]
      congr 1
      unfold Addr.add; split <;> simp_all
    · intro u hu
      obtain ⟨z, _, rfl⟩ := List.mem_map.1 hu
      rfl

theorem bcell {W w1 : World} (hb : Below W.heap.size W w1) : (∀ b o, b < W.heap.size → w1.cell? ⟨b, o, none⟩ = W.cell? ⟨b, o, none⟩) ∧ (∀ b o, b < W.heap.size → w1.frozen? ⟨b, o, none⟩ = W.frozen? ⟨b, o, none⟩) :=
  ⟨fun b o h => hb.cell (p := ⟨b, o, none⟩) h, fun b o h => hb.frozen (p := ⟨b, o, none⟩) h⟩

/-! ### Declarations -/
def dc (D : List Dec) (i : Nat) : Dec := D.getD i ⟨[], [], 0⟩
theorem dc_get {D : List Dec} {i : Nat} (h : i < D.length) : D[i]? = some (dc D i) := by
  unfold dc; rw [List.getD_eq_getElem?_getD, List.getElem?_eq_getElem h]; rfl
theorem dc_mem {D : List Dec} {i : Nat} (h : i < D.length) : dc D i ∈ D := List.mem_of_getElem? (dc_get h)
theorem take_dc {D : List Dec} {i : Nat} (h : i < D.length) : D.take (i + 1) = D.take i ++ [dc D i] := by
  rw [List.take_succ_eq_append_getElem h]
  have := dc_get h
  rw [List.getElem?_eq_getElem h] at this
  rw [Option.some.inj this]
/-- A declaration at a place in memory. -/
structure DecAt (w : World) (b o : Nat) (d : Dec) (sa : Option Addr) (sc : Nat) (fa : Option Addr) (fc : Nat) : Prop where
  c0 : w.cell? ⟨b, o, none⟩ = some (.string (mk d.name))
  c1 : w.cell? ⟨b, o + 1, none⟩ = some (.slice sa d.sup.length sc)
  c2 : w.cell? ⟨b, o + 2, none⟩ = some (.slice fa d.nf fc)
  ss : IsStrs w sa d.sup.length sc d.sup
  fl : d.nf ≤ fc
  fm : fc ≤ maxLen
  nl : d.name.length ≤ maxLen
theorem DecAt.below {w w' : World} {b o : Nat} {d : Dec} {sa fa : Option Addr} {sc fc : Nat} (h : DecAt w b o d sa sc fa fc) (hl : b < w.heap.size) (hb : Below w.heap.size w w') : DecAt w' b o d sa sc fa fc :=
  ⟨(hb.cell (p := ⟨b, o, none⟩) hl).trans h.c0, (hb.cell (p := ⟨b, o + 1, none⟩) hl).trans h.c1, (hb.cell (p := ⟨b, o + 2, none⟩) hl).trans h.c2, h.ss.below hb, h.fl, h.fm, h.nl⟩
/-- A slice of declarations that reads as a list. -/
structure IsDecs (w : World) (a : Option Addr) (n cap : Nat) (D : List Dec) : Prop where
  len : D.length = n
  capLe : n ≤ cap
  maxLe : cap ≤ maxLen
  at_ : 0 < n → ∃ b off, a = some ⟨b, off, none⟩ ∧ b < w.heap.size ∧ ∀ i, i < n → ∃ sa sc fa fc, DecAt w b (off + i * 3) (dc D i) sa sc fa fc
theorem IsDecs.below {w w' : World} {a : Option Addr} {n cap : Nat} {D : List Dec} (h : IsDecs w a n cap D) (hb : Below w.heap.size w w') : IsDecs w' a n cap D := by
  have hsz := hb.size
  refine ⟨h.len, h.capLe, h.maxLe, fun h0 => ?_⟩
  obtain ⟨b, off, e, hl, hc⟩ := h.at_ h0
  refine ⟨b, off, e, by omega, fun i hi => ?_⟩
  obtain ⟨sa, sc, fa, fc, hd⟩ := hc i hi
  exact ⟨sa, sc, fa, fc, hd.below hl hb⟩
end Go.Proofs.YtdeamdpoegdmdaaGreatDoor

/- Walks of package poset: checkLengths, checkTop. -/
namespace Go.Proofs.YtdeamdpoegdmdaaGreatDoor
open Go.RowKit

theorem szE_long {D : List Dec} (h : 256 < D.length) : szE D = 7 := by unfold szE; rw [if_pos h]
theorem szE_bad {D : List Dec} {i : Nat} (h : ¬ 256 < D.length) (hi : i < D.length) (hb : 256 < (dc D i).sup.length ∨ 256 < (dc D i).nf) : szE D = 7 := by
  unfold szE
  rw [if_neg h, if_pos]
  rw [List.any_eq_true]
  exact ⟨dc D i, dc_mem hi, by simpa using hb⟩
theorem szE_fine {D : List Dec} (h : ¬ 256 < D.length) (hb : ∀ i, i < D.length → ¬ 256 < (dc D i).sup.length ∧ ¬ 256 < (dc D i).nf) : szE D = 0 := by
  unfold szE
  rw [if_neg h, if_neg]
  rw [List.any_eq_true]
  rintro ⟨d, hd, he⟩
  obtain ⟨i, hi, e⟩ := List.getElem_of_mem hd
  have h2 := hb i hi
  have : dc D i = d := by
    have := dc_get hi
    rw [List.getElem?_eq_getElem hi, e] at this
    exact (Option.some.inj this).symm
  rw [this] at h2
  simp at he
  omega

set_option maxRecDepth 100000 in
theorem checkLengths_any (w : World) (a : Option Addr) (n cap : Nat) (D : List Dec) (h : IsDecs w a n cap D) :
    Calls Tryz.prog 109 #[.slice a n cap] w fun e w' => e = .returned (.int .i64 ((szE D : Nat) : Int)) ∧ Below w.heap.size w w' := by
  have hm := h.maxLe
  have hc := h.capLe
  have hl := h.len
  unfold maxLen at hm
  by_cases hbig : 256 < n
  · have hr : Hid (szE D = 7) := szE_long (by omega)
    clear h hl
    go_enter Tryz.func109, Tryz.ntmps109
    go_wp2
    go_ret
    exact ⟨by rw [hr.out]; rfl, Below.refl _ _⟩
  have H := Lib.hid h
  have HL := Lib.hid hl
  clear h hl
  go_enter Tryz.func109, Tryz.ntmps109
  go_wp2
  go_loopw [10] (fun v wr => ∃ k : Nat, k ≤ n ∧ v = .int .i64 k ∧ Hid (∀ i, i < k → ¬ 256 < (dc D i).sup.length ∧ ¬ 256 < (dc D i).nf) ∧ Below w.heap.size w wr) (fun v _ => n - (intOf v).toNat)
  case atStart => exact ⟨0, Nat.zero_le _, rfl, fun i hi => absurd hi (Nat.not_lt_zero _), Below.refl _ _⟩
  case round =>
    obtain ⟨k, hk, rfl, hall, hb⟩ := hrel
    by_cases hlt : k < n
    · obtain ⟨b, off, rfl, hbl, hx⟩ := H.out.at_ (by omega)
      obtain ⟨sa, sc, fa, fc, hd⟩ := hx k hlt
      have hd2 := hd.below hbl hb
      have c0 := hd2.c0
      have c1 := hd2.c1
      have c2 := hd2.c2
      have hs1 := hd2.ss.capLe
      have hs2 := hd2.ss.maxLe
      have hs3 := hd2.fl
      have hs4 := hd2.fm
      unfold maxLen at hs2 hs4
      have hbad := fun g => szE_bad (D := D) (i := k) (by rw [HL.out]; omega) (by rw [HL.out]; exact hlt) g
      have HBAD := Lib.hid hbad
      obtain ⟨sl, hsl⟩ : ∃ m, (dc D k).sup.length = m := ⟨_, rfl⟩
      obtain ⟨nf, hnf⟩ : ∃ m, (dc D k).nf = m := ⟨_, rfl⟩
      rw [hsl] at c1 hs1
      rw [hnf] at c2 hs3
      have HSL := Lib.hid hsl
      have HNF := Lib.hid hnf
      clear hbad hd hd2 hx hsl hnf
      by_cases g1 : 256 < sl
      · go_wp2
        go_ret
        exact ⟨by rw [HBAD.out (.inl (by rw [HSL.out]; exact g1))]; rfl, hb.alloc hb.size _⟩
      · by_cases g2 : 256 < nf
        · go_wp2
          go_ret
          exact ⟨by rw [HBAD.out (.inr (by rw [HNF.out]; exact g2))]; rfl, hb.alloc hb.size _⟩
        · have hall' : Hid (∀ i, i < k + 1 → ¬ 256 < (dc D i).sup.length ∧ ¬ 256 < (dc D i).nf) := fun i hi => by
            rcases Nat.lt_succ_iff_lt_or_eq.1 hi with e | e
            · exact hall.out i e
            · rw [e, HSL.out, HNF.out]; exact ⟨g1, g2⟩
          clear hall
          go_wp2
          go_roundw
          case rel => exact ⟨k + 1, by omega, by go_num, hall', hb.alloc hb.size _⟩
          case measure => simp [intOf]; omega
    · obtain rfl : n = k := by omega
      have hr : Hid (szE D = 0) := szE_fine (by rw [HL.out]; exact hbig) (fun i hi => hall.out i (by rw [HL.out] at hi; exact hi))
      clear hall
      go_wp2
      go_ret
      exact ⟨by rw [hr.out]; rfl, hb⟩
end Go.Proofs.YtdeamdpoegdmdaaGreatDoor

/- Walks of the reference of package poset: Among, SameStrings, find, Light, sizes, names. -/
namespace Go.Proofs.YtdeamdpoegdmdaaGreatDoor
open Go.RowKit

theorem mk_toList (x : Str) : (mk x).toList = x := by rw [Lib.toList_data, mk_list]
theorem mk_eq (x y : Str) : ((mk x).toList == (mk y).toList) = (x == y) := by rw [mk_toList, mk_toList]
theorem mk_ne {x y : Str} {b : Bool} (h : (x == y) = b) : (!((mk x).toList == (mk y).toList)) = !b := by rw [mk_eq, h]
/-- Is this string in the list? -/
def inS (zs : List Str) (s : Str) : Bool := zs.contains s
theorem inS_iff {zs : List Str} {s : Str} : inS zs s = true ↔ s ∈ zs := by unfold inS; simp
theorem inS_not {zs : List Str} {s : Str} : inS zs s = false ↔ s ∉ zs := by rw [← inS_iff, Bool.eq_false_iff]
theorem contains_at {zs : List Str} {s : Str} {k : Nat} (hk : k < zs.length) (h : (st zs k == s) = true) : inS zs s = true := by
  have e : st zs k = s := by simpa using h
  have := st_mem hk
  rw [e] at this
  exact inS_iff.2 this
theorem contains_not {zs : List Str} {s : Str} (h : ∀ i, i < zs.length → (st zs i == s) = false) : inS zs s = false := by
  unfold inS
  rw [Bool.eq_false_iff]
  intro hc
  have hm : s ∈ zs := by simpa using hc
  obtain ⟨i, hi, e⟩ := List.getElem_of_mem hm
  have h2 := h i hi
  have := st_get hi
  rw [List.getElem?_eq_getElem hi, e] at this
  rw [← Option.some.inj this] at h2
  simp at h2

set_option maxRecDepth 100000 in
theorem Among_any (w : World) (a : Option Addr) (n cap : Nat) (zs : List Str) (s : Str) (h : IsStrs w a n cap zs) :
    Calls Tryz.prog 35 #[.slice a n cap, .string (mk s)] w fun e w' => e = .returned (.bool (inS zs s)) ∧ w = w' := by
  have hm := h.maxLe
  have hc := h.capLe
  unfold maxLen at hm
  have HL := Lib.hid h.len
  have H := Lib.hid h
  clear h
  go_enter Tryz.func35, Tryz.ntmps35
  go_wp2
  go_loop [5] (fun v => ∃ k : Nat, k ≤ n ∧ v = .int .i64 k ∧ Hid (∀ i, i < k → (st zs i == s) = false)) (fun v => n - (intOf v).toNat)
  case atStart => exact ⟨0, Nat.zero_le _, rfl, fun i hi => absurd hi (Nat.not_lt_zero _)⟩
  case round =>
    obtain ⟨k, hk, rfl, hall⟩ := hrel
    by_cases hlt : k < n
    · obtain ⟨b, off, rfl, hbl, hx⟩ := H.out.at_ (by omega)
      have c0 := hx k hlt
      have he := mk_eq (st zs k) s
      have hyes := Lib.hid (fun g => contains_at (zs := zs) (s := s) (k := k) (by rw [HL.out]; exact hlt) g)
      obtain ⟨x, hx'⟩ : ∃ x, st zs k = x := ⟨_, rfl⟩
      rw [hx'] at c0 he
      have HX := Lib.hid hx'
      clear hx hx'
      cases hq : (x == s)
      · rw [hq] at he
        have hall' : Hid (∀ i, i < k + 1 → (st zs i == s) = false) := fun i hi => by
          rcases Nat.lt_succ_iff_lt_or_eq.1 hi with e | e
          · exact hall.out i e
          · rw [e, HX.out]; exact hq
        clear hq hall
        go_wp2
        go_round
        case rel => exact ⟨k + 1, by omega, by go_num, hall'⟩
        case measure => simp [intOf]; omega
      · rw [hq] at he
        have hr : Hid (inS zs s = true) := hyes.out (by rw [HX.out]; exact hq)
        clear hq hall
        go_wp2
        go_ret
        exact ⟨by rw [hr.out]; rfl, rfl⟩
    · obtain rfl : n = k := by omega
      have hr : Hid (inS zs s = false) := contains_not (fun i hi => hall.out i (by rw [HL.out] at hi; exact hi))
      clear hall
      go_wp2
      go_ret
      exact ⟨by rw [hr.out]; rfl, rfl⟩

/-- Are the lists the same? -/
def sameS (xs ys : List Str) : Bool := decide (xs = ys)
theorem strs_eq {xs ys : List Str} (hl : xs.length = ys.length) (h : ∀ i, i < xs.length → (st xs i == st ys i) = true) : xs = ys := by
  refine List.ext_getElem? fun i => ?_
  by_cases hi : i < xs.length
  · rw [st_get hi, st_get (by omega)]
    have := h i hi
    rw [beq_iff_eq] at this
    rw [this]
  · rw [List.getElem?_eq_none_iff.2 (by omega), List.getElem?_eq_none_iff.2 (by omega)]

/-- The index of the first declaration with a name, or -1. -/
def fi (D : List Dec) (s : Str) : Int := match D.findIdx? (fun d => d.name == s) with | some i => (i : Int) | none => -1
theorem fi_at {D : List Dec} {s : Str} {k : Nat} (hk : k < D.length) (h : ((dc D k).name == s) = true) (hb : ∀ i, i < k → ((dc D i).name == s) = false) : fi D s = (k : Int) := by
  have : D.findIdx? (fun d => d.name == s) = some k := by
    rw [List.findIdx?_eq_some_iff_getElem]
    have hg : ∀ j (hj : j < D.length), D[j] = dc D j := fun j hj => by
      have := dc_get hj
      rw [List.getElem?_eq_getElem hj] at this
      exact Option.some.inj this
    exact ⟨hk, by rw [hg k hk]; exact h, fun j hj => by rw [hg j (by omega)]; have := hb j hj; simp at this ⊢; exact this⟩
  unfold fi; rw [this]
theorem fi_not {D : List Dec} {s : Str} (hb : ∀ i, i < D.length → ((dc D i).name == s) = false) : fi D s = -1 := by
  have : D.findIdx? (fun d => d.name == s) = none := by
    rw [List.findIdx?_eq_none_iff]
    intro d hd
    obtain ⟨i, hi, e⟩ := List.getElem_of_mem hd
    have := dc_get hi
    rw [List.getElem?_eq_getElem hi, e] at this
    rw [Option.some.inj this]
    exact hb i hi
  unfold fi; rw [this]

set_option maxRecDepth 100000 in
theorem find_any (w : World) (a : Option Addr) (n cap : Nat) (D : List Dec) (s : Str) (h : IsDecs w a n cap D) :
    Calls Tryz.prog 105 #[.slice a n cap, .string (mk s)] w fun e w' => e = .returned (.int .i64 (fi D s)) ∧ w = w' := by
  have hm := h.maxLe
  have hc := h.capLe
  unfold maxLen at hm
  have HL := Lib.hid h.len
  have H := Lib.hid h
  clear h
  go_enter Tryz.func105, Tryz.ntmps105
  go_wp2
  go_loop [5] (fun v => ∃ k : Nat, k ≤ n ∧ v = .int .i64 k ∧ Hid (∀ i, i < k → ((dc D i).name == s) = false)) (fun v => n - (intOf v).toNat)
  case atStart => exact ⟨0, Nat.zero_le _, rfl, fun i hi => absurd hi (Nat.not_lt_zero _)⟩
  case round =>
    obtain ⟨k, hk, rfl, hall⟩ := hrel
    by_cases hlt : k < n
    · obtain ⟨b, off, rfl, hbl, hx⟩ := H.out.at_ (by omega)
      obtain ⟨sa, sc, fa, fc, hd⟩ := hx k hlt
      have c0 := hd.c0
      have he := mk_eq (dc D k).name s
      have hyes := Lib.hid (fun g => fi_at (D := D) (s := s) (k := k) (by rw [HL.out]; exact hlt) g hall.out)
      obtain ⟨x, hx'⟩ : ∃ x, (dc D k).name = x := ⟨_, rfl⟩
      rw [hx'] at c0 he
      have HX := Lib.hid hx'
      clear hx hx' hd
      cases hq : (x == s)
      · rw [hq] at he
        have hall' : Hid (∀ i, i < k + 1 → ((dc D i).name == s) = false) := fun i hi => by
          rcases Nat.lt_succ_iff_lt_or_eq.1 hi with e | e
          · exact hall.out i e
          · rw [e, HX.out]; exact hq
        clear hq hall
        go_wp2
        go_round
        case rel => exact ⟨k + 1, by omega, by go_num, hall'⟩
        case measure => simp [intOf]; omega
      · rw [hq] at he
        have hr : Hid (fi D s = (k : Int)) := hyes.out (by rw [HX.out]; exact hq)
        clear hq hall
        go_wp2
        go_ret
        exact ⟨by rw [hr.out]; rfl, rfl⟩
    · obtain rfl : n = k := by omega
      have hr : Hid (fi D s = -1) := fi_not (fun i hi => hall.out i (by rw [HL.out] at hi; exact hi))
      clear hall
      go_wp2
      go_ret
      exact ⟨by rw [hr.out]; rfl, rfl⟩
end Go.Proofs.YtdeamdpoegdmdaaGreatDoor

/- Walks of the reference of package poset: Light, sizes, names. -/
namespace Go.Proofs.YtdeamdpoegdmdaaGreatDoor
open Go.RowKit

/-- Few declarations with short lists. -/
def lite (D : List Dec) : Bool := if 16 < D.length then false else if D.any (fun d => decide (20 < d.sup.length) || decide (20 < d.nf)) then false else true

theorem Light_long {D : List Dec} (h : 16 < D.length) : lite D = false := by unfold lite; rw [if_pos h]
theorem Light_bad {D : List Dec} {i : Nat} (h : ¬ 16 < D.length) (hi : i < D.length) (hb : 20 < (dc D i).sup.length ∨ 20 < (dc D i).nf) : lite D = false := by
  unfold lite
  rw [if_neg h, if_pos]
  rw [List.any_eq_true]
  exact ⟨dc D i, dc_mem hi, by simpa using hb⟩
theorem Light_fine {D : List Dec} (h : ¬ 16 < D.length) (hb : ∀ i, i < D.length → ¬ 20 < (dc D i).sup.length ∧ ¬ 20 < (dc D i).nf) : lite D = true := by
  unfold lite
  rw [if_neg h, if_neg]
  rw [List.any_eq_true]
  rintro ⟨d, hd, he⟩
  obtain ⟨i, hi, e⟩ := List.getElem_of_mem hd
  have h2 := hb i hi
  have : dc D i = d := by
    have := dc_get hi
    rw [List.getElem?_eq_getElem hi, e] at this
    exact (Option.some.inj this).symm
  rw [this] at h2
  simp at he
  omega
set_option maxRecDepth 100000 in
theorem Light_any (w : World) (a : Option Addr) (n cap : Nat) (D : List Dec) (h : IsDecs w a n cap D) :
    Calls Tryz.prog 38 #[.slice a n cap] w fun e w' => e = .returned (.bool (lite D)) ∧ w = w' := by
  have hm := h.maxLe
  have hc := h.capLe
  have hl := h.len
  unfold maxLen at hm
  by_cases hbig : 16 < n
  · have hr : Hid (lite D = false) := Light_long (by omega)
    clear h hl
    go_enter Tryz.func38, Tryz.ntmps38
    go_wp2
    go_ret
    exact ⟨by rw [hr.out]; rfl, rfl⟩
  have H := Lib.hid h
  have HL := Lib.hid hl
  clear h hl
  go_enter Tryz.func38, Tryz.ntmps38
  go_wp2
  go_loop [3] (fun v => ∃ k : Nat, k ≤ n ∧ v = .int .i64 k ∧ Hid (∀ i, i < k → ¬ 20 < (dc D i).sup.length ∧ ¬ 20 < (dc D i).nf)) (fun v => n - (intOf v).toNat)
  case atStart => exact ⟨0, Nat.zero_le _, rfl, fun i hi => absurd hi (Nat.not_lt_zero _)⟩
  case round =>
    obtain ⟨k, hk, rfl, hall⟩ := hrel
    by_cases hlt : k < n
    · obtain ⟨b, off, rfl, hbl, hx⟩ := H.out.at_ (by omega)
      obtain ⟨sa, sc, fa, fc, hd⟩ := hx k hlt
      have c1 := hd.c1
      have c2 := hd.c2
      have hs1 := hd.ss.capLe
      have hs2 := hd.ss.maxLe
      have hs3 := hd.fl
      have hs4 := hd.fm
      unfold maxLen at hs2 hs4
      have hbad := fun g => Light_bad (D := D) (i := k) (by rw [HL.out]; omega) (by rw [HL.out]; exact hlt) g
      have HBAD := Lib.hid hbad
      obtain ⟨sl, hsl⟩ : ∃ m, (dc D k).sup.length = m := ⟨_, rfl⟩
      obtain ⟨nf, hnf⟩ : ∃ m, (dc D k).nf = m := ⟨_, rfl⟩
      rw [hsl] at c1 hs1
      rw [hnf] at c2 hs3
      have HSL := Lib.hid hsl
      have HNF := Lib.hid hnf
      clear hbad hd hx hsl hnf
      by_cases g1 : 20 < sl
      · have hr : Hid (lite D = false) := HBAD.out (.inl (by rw [HSL.out]; exact g1))
        go_wp2
        go_ret
        exact ⟨by rw [hr.out]; rfl, rfl⟩
      · by_cases g2 : 20 < nf
        · have hr : Hid (lite D = false) := HBAD.out (.inr (by rw [HNF.out]; exact g2))
          go_wp2
          go_ret
          exact ⟨by rw [hr.out]; rfl, rfl⟩
        · have hall' : Hid (∀ i, i < k + 1 → ¬ 20 < (dc D i).sup.length ∧ ¬ 20 < (dc D i).nf) := fun i hi => by
            rcases Nat.lt_succ_iff_lt_or_eq.1 hi with e | e
            · exact hall.out i e
            · rw [e, HSL.out, HNF.out]; exact ⟨g1, g2⟩
          clear hall
          go_wp2
          go_round
          case rel => exact ⟨k + 1, by omega, by go_num, hall'⟩
          case measure => simp [intOf]; omega
    · obtain rfl : n = k := by omega
      have hr : Hid (lite D = true) := Light_fine (by rw [HL.out]; exact hbig) (fun i hi => hall.out i (by rw [HL.out] at hi; exact hi))
      clear hall
      go_wp2
      go_ret
      exact ⟨by rw [hr.out]; rfl, rfl⟩

theorem sizes_long {D : List Dec} (h : 256 < D.length) : szE D = 7 := by unfold szE; rw [if_pos h]
theorem sizes_bad {D : List Dec} {i : Nat} (h : ¬ 256 < D.length) (hi : i < D.length) (hb : 256 < (dc D i).sup.length ∨ 256 < (dc D i).nf) : szE D = 7 := by
  unfold szE
  rw [if_neg h, if_pos]
  rw [List.any_eq_true]
  exact ⟨dc D i, dc_mem hi, by simpa using hb⟩
theorem sizes_fine {D : List Dec} (h : ¬ 256 < D.length) (hb : ∀ i, i < D.length → ¬ 256 < (dc D i).sup.length ∧ ¬ 256 < (dc D i).nf) : szE D = 0 := by
  unfold szE
  rw [if_neg h, if_neg]
  rw [List.any_eq_true]
  rintro ⟨d, hd, he⟩
  obtain ⟨i, hi, e⟩ := List.getElem_of_mem hd
  have h2 := hb i hi
  have : dc D i = d := by
    have := dc_get hi
    rw [List.getElem?_eq_getElem hi, e] at this
    exact (Option.some.inj this).symm
  rw [this] at h2
  simp at he
  omega
set_option maxRecDepth 100000 in
theorem sizes_any (w : World) (a : Option Addr) (n cap : Nat) (D : List Dec) (h : IsDecs w a n cap D) :
    Calls Tryz.prog 67 #[.slice a n cap] w fun e w' => e = .returned (.int .i64 ((szE D : Nat) : Int)) ∧ w = w' := by
  have hm := h.maxLe
  have hc := h.capLe
  have hl := h.len
  unfold maxLen at hm
  by_cases hbig : 256 < n
  · have hr : Hid (szE D = 7) := sizes_long (by omega)
    clear h hl
    go_enter Tryz.func67, Tryz.ntmps67
    go_wp2
    go_ret
    exact ⟨by rw [hr.out]; rfl, rfl⟩
  have H := Lib.hid h
  have HL := Lib.hid hl
  clear h hl
  go_enter Tryz.func67, Tryz.ntmps67
  go_wp2
  go_loop [3] (fun v => ∃ k : Nat, k ≤ n ∧ v = .int .i64 k ∧ Hid (∀ i, i < k → ¬ 256 < (dc D i).sup.length ∧ ¬ 256 < (dc D i).nf)) (fun v => n - (intOf v).toNat)
  case atStart => exact ⟨0, Nat.zero_le _, rfl, fun i hi => absurd hi (Nat.not_lt_zero _)⟩
  case round =>
    obtain ⟨k, hk, rfl, hall⟩ := hrel
    by_cases hlt : k < n
    · obtain ⟨b, off, rfl, hbl, hx⟩ := H.out.at_ (by omega)
      obtain ⟨sa, sc, fa, fc, hd⟩ := hx k hlt
      have c1 := hd.c1
      have c2 := hd.c2
      have hs1 := hd.ss.capLe
      have hs2 := hd.ss.maxLe
      have hs3 := hd.fl
      have hs4 := hd.fm
      unfold maxLen at hs2 hs4
      have hbad := fun g => sizes_bad (D := D) (i := k) (by rw [HL.out]; omega) (by rw [HL.out]; exact hlt) g
      have HBAD := Lib.hid hbad
      obtain ⟨sl, hsl⟩ : ∃ m, (dc D k).sup.length = m := ⟨_, rfl⟩
      obtain ⟨nf, hnf⟩ : ∃ m, (dc D k).nf = m := ⟨_, rfl⟩
      rw [hsl] at c1 hs1
      rw [hnf] at c2 hs3
      have HSL := Lib.hid hsl
      have HNF := Lib.hid hnf
      clear hbad hd hx hsl hnf
      by_cases g1 : 256 < sl
      · have hr : Hid (szE D = 7) := HBAD.out (.inl (by rw [HSL.out]; exact g1))
        go_wp2
        go_ret
        exact ⟨by rw [hr.out]; rfl, rfl⟩
      · by_cases g2 : 256 < nf
        · have hr : Hid (szE D = 7) := HBAD.out (.inr (by rw [HNF.out]; exact g2))
          go_wp2
          go_ret
          exact ⟨by rw [hr.out]; rfl, rfl⟩
        · have hall' : Hid (∀ i, i < k + 1 → ¬ 256 < (dc D i).sup.length ∧ ¬ 256 < (dc D i).nf) := fun i hi => by
            rcases Nat.lt_succ_iff_lt_or_eq.1 hi with e | e
            · exact hall.out i e
            · rw [e, HSL.out, HNF.out]; exact ⟨g1, g2⟩
          clear hall
          go_wp2
          go_round
          case rel => exact ⟨k + 1, by omega, by go_num, hall'⟩
          case measure => simp [intOf]; omega
    · obtain rfl : n = k := by omega
      have hr : Hid (szE D = 0) := sizes_fine (by rw [HL.out]; exact hbig) (fun i hi => hall.out i (by rw [HL.out] at hi; exact hi))
      clear hall
      go_wp2
      go_ret
      exact ⟨by rw [hr.out]; rfl, rfl⟩

theorem fi_range (D : List Dec) (s : Str) : -1 ≤ fi D s ∧ fi D s ≤ D.length := by
  unfold fi
  split
  · rename_i i e
    have := (List.findIdx?_eq_some_iff_getElem.1 e).1
    omega
  · omega
theorem dc_nms {D : List Dec} {i : Nat} (h : i < D.length) : (nms D)[i]? = some (dc D i).name := by
  unfold nms; rw [List.getElem?_map, dc_get h]; rfl
/-- The name at a place stands earlier, or not. -/
theorem fi_early {D : List Dec} {k : Nat} (hk : k < D.length) : (fi D (dc D k).name < (k : Int)) ↔ (dc D k).name ∈ (nms D).take k := by
  unfold fi
  cases e : D.findIdx? (fun d => d.name == (dc D k).name) with
  | none =>
    have := List.findIdx?_eq_none_iff.1 e (dc D k) (dc_mem hk)
    simp at this
  | some i =>
    obtain ⟨h1, h2, h3⟩ := List.findIdx?_eq_some_iff_getElem.1 e
    have hg : ∀ j (hj : j < D.length), D[j] = dc D j := fun j hj => by
      have := dc_get hj
      rw [List.getElem?_eq_getElem hj] at this
      exact Option.some.inj this
    rw [hg i h1] at h2
    have h2' : (dc D i).name = (dc D k).name := by simpa using h2
    constructor
    · intro h
      have hik : i < k := by simpa using h
      rw [List.mem_iff_getElem?]
      exact ⟨i, by rw [List.getElem?_take_of_lt hik, dc_nms h1, h2']⟩
    · intro h
      rw [List.mem_iff_getElem?] at h
      obtain ⟨j, hj⟩ := h
      have hjk : j < k := by
        have := (List.getElem?_eq_some_iff.1 hj).1
        rw [List.length_take] at this; omega
      rw [List.getElem?_take_of_lt hjk, dc_nms (by omega)] at hj
      have hje : (dc D j).name = (dc D k).name := Option.some.inj hj
      have : ¬ j < i := fun hji => by
        have := h3 j hji
        rw [hg j (by omega)] at this
        simp [hje] at this
      show ((i : Int)) < (k : Int)
      omega
/-- The error of the names, after k of them without one. -/
theorem nmE_drop {nm : Str → Bool} {D : List Dec} {k : Nat} (h : ∀ i, i < k → nm (dc D i).name = true ∧ (dc D i).name ∉ (nms D).take i) (hk : k ≤ D.length) : nmE nm [] D = nmE nm ((nms D).take k) (D.drop k) := by
  induction k with
  | zero => simp
  | succ k ih =>
    rw [ih (fun i hi => h i (by omega)) (by omega)]
    have hk2 : k < D.length := by omega
    have hd : D.drop k = dc D k :: D.drop (k + 1) := by
      rw [List.drop_eq_getElem_cons hk2]
      have := dc_get hk2
      rw [List.getElem?_eq_getElem hk2] at this
      rw [Option.some.inj this]
    obtain ⟨h1, h2⟩ := h k (by omega)
    rw [hd]
    show (if nm (dc D k).name then (if ((nms D).take k).contains (dc D k).name then 4 else nmE nm ((nms D).take k ++ [(dc D k).name]) (D.drop (k + 1))) else 1) = _
    rw [if_pos h1, if_neg (by simpa using h2)]
    congr 1
    have hkn : k < (nms D).length := by rw [nms_len]; exact hk2
    rw [List.take_succ_eq_append_getElem hkn]
    have := dc_nms hk2
    rw [List.getElem?_eq_getElem hkn] at this
    rw [Option.some.inj this]
theorem nmE_at {nm : Str → Bool} {D : List Dec} {k : Nat} (h : ∀ i, i < k → nm (dc D i).name = true ∧ (dc D i).name ∉ (nms D).take i) (hk : k < D.length) :
    (nm (dc D k).name = false → nmE nm [] D = 1) ∧ (nm (dc D k).name = true → (dc D k).name ∈ (nms D).take k → nmE nm [] D = 4) := by
  have hd : D.drop k = dc D k :: D.drop (k + 1) := by
    rw [List.drop_eq_getElem_cons hk]
    have := dc_get hk
    rw [List.getElem?_eq_getElem hk] at this
    rw [Option.some.inj this]
  rw [nmE_drop h (by omega), hd]
  constructor
  · intro e
    show (if nm (dc D k).name then _ else 1) = 1
    rw [e]; rfl
  · intro e e2
    show (if nm (dc D k).name then (if ((nms D).take k).contains (dc D k).name then 4 else _) else 1) = 4
    rw [if_pos e, if_pos (by simpa using e2)]
theorem nmE_end {nm : Str → Bool} {D : List Dec} (h : ∀ i, i < D.length → nm (dc D i).name = true ∧ (dc D i).name ∉ (nms D).take i) : nmE nm [] D = 0 := by
  rw [nmE_drop h (Nat.le_refl _), List.drop_length]; rfl

set_option maxRecDepth 100000 in
theorem rnames_any (w : World) (a : Option Addr) (n cap : Nat) (D : List Dec) (h : IsDecs w a n cap D) :
    Calls Tryz.prog 68 #[.slice a n cap] w fun e w' => e = .returned (.int .i64 ((nmE (isNam kLow) [] D : Nat) : Int)) ∧ w = w' := by
  have hm := h.maxLe
  have hc := h.capLe
  have hl := h.len
  unfold maxLen at hm
  have H := Lib.hid h
  have HL := Lib.hid hl
  clear h hl
  go_enter Tryz.func68, Tryz.ntmps68
  go_wp2
  go_loop [3] (fun v => ∃ k : Nat, k ≤ n ∧ v = .int .i64 k ∧ Hid (∀ i, i < k → isNam kLow (dc D i).name = true ∧ (dc D i).name ∉ (nms D).take i)) (fun v => n - (intOf v).toNat)
  case atStart => exact ⟨0, Nat.zero_le _, rfl, fun i hi => absurd hi (Nat.not_lt_zero _)⟩
  case round =>
    obtain ⟨k, hk, rfl, hall⟩ := hrel
    by_cases hlt : k < n
    · have hf := H.out
      obtain ⟨b, off, rfl, hbl, hx⟩ := H.out.at_ (by omega)
      obtain ⟨sa, sc, fa, fc, hd⟩ := hx k hlt
      have c0 := hd.c0
      have hsz : (mk (dc D k).name).size ≤ maxLen := by rw [mk_size]; exact hd.nl
      have hat := nmE_at (nm := isNam kLow) hall.out (k := k) (by rw [HL.out]; exact hlt)
      have hfi := fi_early (D := D) (k := k) (by rw [HL.out]; exact hlt)
      have hfr := fi_range D (dc D k).name
      have hall2 := hall.out
      have hnm : ∀ W, Calls Tryz.prog 104 #[.string (mk (dc D k).name)] W fun e w' => e = .returned (.bool (isNam kLow (dc D k).name)) ∧ W = w' := fun W => by
        have := rName_any (mk (dc D k).name) W hsz
        rwa [mk_list] at this
      have hfa : ∀ W, W = w → Calls Tryz.prog 105 #[.slice (some ⟨b, off, none⟩) n cap, .string (mk (dc D k).name)] W fun e w' => e = .returned (.int .i64 (fi D (dc D k).name)) ∧ W = w' := fun W e => e ▸ find_any w _ n cap D (dc D k).name hf
      rw [HL.out] at hfr
      obtain ⟨x, hx'⟩ : ∃ x, (dc D k).name = x := ⟨_, rfl⟩
      rw [hx'] at c0 hat hfi hfr hnm hfa
      obtain ⟨fv, hfv⟩ : ∃ v, fi D x = v := ⟨_, rfl⟩
      rw [hfv] at hfi hfr hfa
      have HX := Lib.hid hx'
      have HFI := Lib.hid hfi
      have HAT := Lib.hid hat
      have HNM := Lib.hid hnm
      have HFA := Lib.hid hfa
      have HALL := Lib.hid hall2
      clear hx hx' hd hat hfi hnm hfa hall hall2 hf hfv hsz
      cases hq : isNam kLow x
      · have hr : Hid (nmE (isNam kLow) [] D = 1) := HAT.out.1 hq
        rw [hq] at HNM
        clear hq
        go_wp2_with (go_at_call 104; refine (HNM.out _).mono ?_; rintro e w' ⟨rfl, rfl⟩)
        go_ret
        exact ⟨by rw [hr.out]; rfl, rfl⟩
      · rw [hq] at HNM
        by_cases he : fv < (k : Int)
        · have hr : Hid (nmE (isNam kLow) [] D = 4) := HAT.out.2 hq (HFI.out.1 he)
          clear hq
          go_wp2_with (first | (go_at_call 104; refine (HNM.out _).mono ?_; rintro e w' ⟨rfl, rfl⟩) | (go_at_call 105; refine (HFA.out _ rfl).mono ?_; rintro e w' ⟨rfl, rfl⟩))
          go_ret
          exact ⟨by rw [hr.out]; rfl, rfl⟩
        · have hall' : Hid (∀ i, i < k + 1 → isNam kLow (dc D i).name = true ∧ (dc D i).name ∉ (nms D).take i) := fun i hi => by
            rcases Nat.lt_succ_iff_lt_or_eq.1 hi with e | e
            · exact HALL.out i e
            · rw [e, HX.out]; exact ⟨hq, fun g => he (HFI.out.2 g)⟩
          clear hq
          go_wp2_with (first | (go_at_call 104; refine (HNM.out _).mono ?_; rintro e w' ⟨rfl, rfl⟩) | (go_at_call 105; refine (HFA.out _ rfl).mono ?_; rintro e w' ⟨rfl, rfl⟩))
          go_round
          case rel => exact ⟨k + 1, by omega, by go_num, hall'⟩
          case measure => simp [intOf]; omega
    · obtain rfl : n = k := by omega
      have hr : Hid (nmE (isNam kLow) [] D = 0) := nmE_end (fun i hi => hall.out i (by rw [HL.out] at hi; exact hi))
      clear hall
      go_wp2
      go_ret
      exact ⟨by rw [hr.out]; rfl, rfl⟩
end Go.Proofs.YtdeamdpoegdmdaaGreatDoor

/- Walks of the reference of package poset: supers. -/
namespace Go.Proofs.YtdeamdpoegdmdaaGreatDoor
open Go.RowKit

theorem fi_neg (D : List Dec) (s : Str) : (fi D s < 0) ↔ s ∉ nms D := by
  unfold fi
  cases e : D.findIdx? (fun d => d.name == s) with
  | none =>
    have h := List.findIdx?_eq_none_iff.1 e
    constructor
    · intro _ hm
      obtain ⟨d, hd, e2⟩ := List.mem_map.1 hm
      have := h d hd
      simp [e2] at this
    · intro _; show (-1 : Int) < 0; decide
  | some i =>
    obtain ⟨h1, h2, h3⟩ := List.findIdx?_eq_some_iff_getElem.1 e
    constructor
    · intro h; exact absurd h (by show ¬ ((i : Int) < 0); omega)
    · intro h
      refine absurd (List.mem_map.2 ⟨D[i], List.getElem_mem _, ?_⟩) h
      simpa using h2
theorem st_drop {zs : List Str} {i : Nat} (h : i < zs.length) : zs.drop i = st zs i :: zs.drop (i + 1) := by
  rw [List.drop_eq_getElem_cons h]
  have := st_get h
  rw [List.getElem?_eq_getElem h] at this
  rw [Option.some.inj this]
theorem dc_drop {D : List Dec} {i : Nat} (h : i < D.length) : D.drop i = dc D i :: D.drop (i + 1) := by
  rw [List.drop_eq_getElem_cons h]
  have := dc_get h
  rw [List.getElem?_eq_getElem h] at this
  rw [Option.some.inj this]
theorem spE_drop {N l : List Str} {k : Nat} (h : ∀ i, i < k → st l i ∈ N ∧ st l i ∉ l.take i) (hk : k ≤ l.length) : spE N [] l = spE N (l.take k) (l.drop k) := by
  induction k with
  | zero => simp
  | succ k ih =>
    rw [ih (fun i hi => h i (by omega)) (by omega)]
    have hk2 : k < l.length := by omega
    obtain ⟨h1, h2⟩ := h k (by omega)
    rw [st_drop hk2, take_st hk2]
    show (if N.contains (st l k) then (if (l.take k).contains (st l k) then 4 else spE N (l.take k ++ [st l k]) (l.drop (k + 1))) else 5) = _
    rw [if_pos (by simpa using h1), if_neg (by simpa using h2)]
theorem spE_at {N l : List Str} {k : Nat} (h : ∀ i, i < k → st l i ∈ N ∧ st l i ∉ l.take i) (hk : k < l.length) :
    (st l k ∉ N → spE N [] l = 5) ∧ (st l k ∈ N → st l k ∈ l.take k → spE N [] l = 4) := by
  rw [spE_drop h (by omega), st_drop hk]
  constructor
  · intro e
    show (if N.contains (st l k) then _ else 5) = 5
    rw [if_neg (by simpa using e)]
  · intro e e2
    show (if N.contains (st l k) then (if (l.take k).contains (st l k) then 4 else _) else 5) = 4
    rw [if_pos (by simpa using e), if_pos (by simpa using e2)]
theorem spE_end {N l : List Str} (h : ∀ i, i < l.length → st l i ∈ N ∧ st l i ∉ l.take i) : spE N [] l = 0 := by
  rw [spE_drop h (Nat.le_refl _), List.drop_length]; rfl
theorem suE_drop {N : List Str} {D : List Dec} {k : Nat} (h : ∀ i, i < k → spE N [] (dc D i).sup = 0) (hk : k ≤ D.length) : suE N D = suE N (D.drop k) := by
  induction k with
  | zero => simp
  | succ k ih =>
    rw [ih (fun i hi => h i (by omega)) (by omega), dc_drop (by omega)]
    show (if spE N [] (dc D k).sup = 0 then suE N (D.drop (k + 1)) else _) = _
    rw [if_pos (h k (by omega))]
theorem suE_at {N : List Str} {D : List Dec} {k : Nat} (h : ∀ i, i < k → spE N [] (dc D i).sup = 0) (hk : k < D.length) (hne : ¬ spE N [] (dc D k).sup = 0) : suE N D = spE N [] (dc D k).sup := by
  rw [suE_drop h (by omega), dc_drop hk]
  show (if spE N [] (dc D k).sup = 0 then _ else spE N [] (dc D k).sup) = _
  rw [if_neg hne]
theorem suE_end {N : List Str} {D : List Dec} (h : ∀ i, i < D.length → spE N [] (dc D i).sup = 0) : suE N D = 0 := by
  rw [suE_drop h (Nat.le_refl _), List.drop_length]; rfl
theorem st_take {zs : List Str} {k i : Nat} (h : i < k) : st (zs.take k) i = st zs i := by
  unfold st; rw [List.getD_eq_getElem?_getD, List.getElem?_take_of_lt h, List.getD_eq_getElem?_getD]
/-- A beginning of a slice reads as a beginning of its list. -/
theorem IsStrs.take {w : World} {a : Option Addr} {n cap : Nat} {zs : List Str} (h : IsStrs w a n cap zs) {k : Nat} (hk : k ≤ n) : IsStrs w a k cap (zs.take k) := by
  have hl := h.len
  refine ⟨by rw [List.length_take]; omega, Nat.le_trans hk h.capLe, h.maxLe, fun z hz => h.small z (List.mem_of_mem_take hz), h.nil_, fun h0 => ?_⟩
  obtain ⟨b, off, e, hbl, hx⟩ := h.at_ (by omega)
  exact ⟨b, off, e, hbl, fun i hi => by rw [st_take hi]; exact hx i (by omega)⟩

set_option maxRecDepth 100000 in
set_option maxHeartbeats 1600000 in
theorem rsupers_any (w : World) (a : Option Addr) (n cap : Nat) (D : List Dec) (h : IsDecs w a n cap D) :
    Calls Tryz.prog 69 #[.slice a n cap] w fun e w' => e = .returned (.int .i64 ((suE (nms D) D : Nat) : Int)) ∧ Below w.heap.size w w' := by
  have hm := h.maxLe
  have hc := h.capLe
  have hl := h.len
  unfold maxLen at hm
  have H := Lib.hid h
  have HL := Lib.hid hl
  clear h hl
  go_enter Tryz.func69, Tryz.ntmps69
  go_wp2
  go_loopw [3] (fun v wr => ∃ k : Nat, k ≤ n ∧ v = .int .i64 k ∧ Hid (∀ i, i < k → spE (nms D) [] (dc D i).sup = 0) ∧ Below w.heap.size w wr) (fun v _ => n - (intOf v).toNat)
  case atStart => exact ⟨0, Nat.zero_le _, rfl, fun i hi => absurd hi (Nat.not_lt_zero _), Below.refl _ _⟩
  case round =>
    obtain ⟨k, hk, rfl, hall, hb⟩ := hrel
    obtain ⟨wo, hwo⟩ : ∃ wo : World, wo = wr := ⟨_, rfl⟩
    subst hwo
    by_cases hlt : k < n
    · have H2 := Lib.hid (H.out.below hb)
      obtain ⟨b, off, rfl, hbl, hx⟩ := H2.out.at_ (by omega)
      obtain ⟨sa, sc, fa, fc, hd⟩ := hx k hlt
      have c1 := hd.c1
      have hs1 := hd.ss.capLe
      have hs2 := hd.ss.maxLe
      have SS := Lib.hid hd.ss
      unfold maxLen at hs2
      have SUE := Lib.hid (suE_at (N := nms D) (D := D) (k := k) hall.out (by rw [HL.out]; exact hlt))
      obtain ⟨l, hl⟩ : ∃ l, (dc D k).sup = l := ⟨_, rfl⟩
      rw [hl] at c1 hs1 SS SUE
      have HSL := Lib.hid hl
      obtain ⟨sl, hsl⟩ : ∃ m, l.length = m := ⟨_, rfl⟩
      rw [hsl] at c1 hs1 SS
      have HLL := Lib.hid hsl
      clear hd hx hl hsl
      go_wp2
      go_loopw [5] (fun v wi => ∃ j : Nat, j ≤ sl ∧ v = .int .i64 j ∧ Hid (∀ i, i < j → st l i ∈ nms D ∧ st l i ∉ l.take i) ∧ Below wo.heap.size wo wi) (fun v _ => sl - (intOf v).toNat)
      case atStart => exact ⟨0, Nat.zero_le _, rfl, fun i hi => absurd hi (Nat.not_lt_zero _), Below.refl _ _⟩
      case round =>
        obtain ⟨j, hj, rfl, hin, hbi⟩ := hrel
        obtain ⟨wi, hwi⟩ : ∃ wi : World, wi = wr := ⟨_, rfl⟩
        subst hwi
        have hbw := hb.trans (hbi.mono hb.size)
        by_cases hjl : j < sl
        · have SI := Lib.hid (SS.out.below hbi)
          obtain ⟨b2, off2, rfl, hbl2, hx2⟩ := SI.out.at_ (by omega)
          have d0 := hx2 j hjl
          have hin2 := hin.out
          have SPE := Lib.hid (spE_at (N := nms D) (l := l) (k := j) hin2 (by rw [HLL.out]; exact hjl))
          have FNEG := Lib.hid (fi_neg D (st l j))
          have hfr := fi_range D (st l j)
          rw [HL.out] at hfr
          have FA := Lib.hid (find_any wi _ n cap D (st l j) (H.out.below hbw))
          have AM := Lib.hid (show ∀ m, Calls Tryz.prog 35 #[.slice (some ⟨b2, off2, none⟩) j sc, .string (mk (st l j))] (wi.drewN m) fun e w' => e = .returned (.bool (inS (l.take j) (st l j))) ∧ w' = wi.drewN m from fun m =>
            (Among_any (wi.drewN m) _ j sc (l.take j) (st l j) ((SI.out.below (below_drewN2 (Below.refl _ _) m)).take (by omega))).mono fun _ _ h => ⟨h.1, h.2.symm⟩)
          obtain ⟨x, hx'⟩ : ∃ x, st l j = x := ⟨_, rfl⟩
          rw [hx'] at d0 SPE FNEG hfr FA AM
          obtain ⟨fv, hfv⟩ : ∃ v, fi D x = v := ⟨_, rfl⟩
          rw [hfv] at FNEG hfr FA
          have HX := Lib.hid hx'
          clear hx2 hx' hfv
          by_cases hf : fv < 0
          · have hr5 : Hid (spE (nms D) [] l = 5) := SPE.out.1 (FNEG.out.1 hf)
            have hr : Hid (suE (nms D) D = 5) := by show _ = _; rw [SUE.out (by rw [hr5.out]; decide), hr5.out]
            clear hin hin2
            go_wp2_with (go_at_call 105; refine (FA.out).mono ?_; rintro e w' ⟨rfl, rfl⟩)
            go_ret
            exact ⟨by rw [hr.out]; rfl, hbw⟩
          · have hxn : Hid (x ∈ nms D) := Classical.byContradiction fun g => hf (FNEG.out.2 g)
            obtain ⟨ab, hab⟩ : ∃ q, inS (l.take j) x = q := ⟨_, rfl⟩
            rw [hab] at AM
            cases ab
            · have hin' : Hid (∀ i, i < j + 1 → st l i ∈ nms D ∧ st l i ∉ l.take i) := fun i hi => by
                rcases Nat.lt_succ_iff_lt_or_eq.1 hi with e | e
                · exact hin2 i e
                · rw [e, HX.out]; exact ⟨hxn.out, inS_not.1 hab⟩
              clear hin hin2 hab
              go_wp2_with (go_at_call 105; refine (FA.out).mono ?_; rintro e w' ⟨rfl, rfl⟩)
              go_quiet ((go_at_call 35; exact Calls.quiet_of_same (AM.out _)))
              go_wp2
              go_roundw
              case rel => exact ⟨j + 1, by omega, by go_num, hin', by first | exact hbi | exact below_drewN2 hbi _⟩
              case measure => simp [intOf]; omega
            · have hr4 : Hid (spE (nms D) [] l = 4) := SPE.out.2 hxn.out (inS_iff.1 hab)
              have hr : Hid (suE (nms D) D = 4) := by show _ = _; rw [SUE.out (by rw [hr4.out]; decide), hr4.out]
              clear hin hin2 hab
              go_wp2_with (go_at_call 105; refine (FA.out).mono ?_; rintro e w' ⟨rfl, rfl⟩)
              go_quiet ((go_at_call 35; exact Calls.quiet_of_same (AM.out _)))
              go_wp2
              go_ret
              exact ⟨by rw [hr.out]; rfl, by first | exact hbw | exact below_drewN2 hbw _⟩
        · obtain rfl : j = sl := by omega
          have hall' : Hid (∀ i, i < k + 1 → spE (nms D) [] (dc D i).sup = 0) := fun i hi => by
            rcases Nat.lt_succ_iff_lt_or_eq.1 hi with e | e
            · exact hall.out i e
            · rw [e, HSL.out]; exact spE_end (fun i hi => hin.out i (by rw [HLL.out] at hi; exact hi))
          clear hin hall
          go_wp2
          go_roundw
          case rel => exact ⟨k + 1, by omega, by go_num, hall', hbw⟩
          case measure => simp [intOf]; omega
    · obtain rfl : n = k := by omega
      have hr : Hid (suE (nms D) D = 0) := suE_end (fun i hi => hall.out i (by rw [HL.out] at hi; exact hi))
      clear hall
      go_wp2
      go_ret
      exact ⟨by rw [hr.out]; rfl, hb⟩
end Go.Proofs.YtdeamdpoegdmdaaGreatDoor

/- Walks of package poset and its reference: Put, Names, ready, checkTop. -/
namespace Go.Proofs.YtdeamdpoegdmdaaGreatDoor
open Go.RowKit

theorem mk_less (x y : Str) : Op.bytesLess (mk x).toList (mk y).toList = decide (x < y) := by
  rw [Go.Proofs.bytesLess_eq, mk_toList, mk_toList]
/-- A row of strings that the call owns: nil, or at the head of a block. -/
theorem owns_shape {w : World} {B n : Nat} {v : Value} {zs : List Str} (h : w.ownsRow B 9 1 v n (svals zs)) (hs : ∀ z ∈ zs, z.length ≤ maxLen) :
    (v = .slice none 0 0 ∧ n = 0 ∧ zs = []) ∨ ∃ g cap, v = .slice (some ⟨g, 0, none⟩) n cap ∧ B ≤ g ∧ g < w.heap.size ∧ IsStrs w (some ⟨g, 0, none⟩) n cap zs := by
  have hh := h
  have hlen : zs.length = n := by have := h.1; rw [svals_len] at this; omega
  obtain ⟨h1, ⟨h2, h3⟩ | ⟨g, cap, cur, hv, hB, hg, h3, h4, h5, h6⟩⟩ := h
  · subst h3
    exact .inl ⟨h2, rfl, List.eq_nil_of_length_eq_zero hlen⟩
  · obtain ⟨a2, cap2, e2, hi⟩ := IsStrs.of_owns hh hs
    rw [hv] at e2
    cases e2
    exact .inr ⟨g, cap, hv, hB, lt_of_block hg, hi⟩
theorem IsStrs.drop {w : World} {b off n cap : Nat} {zs : List Str} (h : IsStrs w (some ⟨b, off, none⟩) n cap zs) {k : Nat} (hk : k ≤ n) : IsStrs w (some ⟨b, off + k, none⟩) (n - k) (cap - k) (zs.drop k) := by
  have hl := h.len
  have hc := h.capLe
  have hm := h.maxLe
  refine ⟨by rw [List.length_drop]; omega, by omega, by omega, fun z hz => h.small z (List.mem_of_mem_drop hz), (fun e => by cases e), fun h0 => ?_⟩
  obtain ⟨b2, off2, e, hbl, hx⟩ := h.at_ (by omega)
  cases e
  refine ⟨b, off + k, rfl, hbl, fun i hi => ?_⟩
  have := hx (k + i) (by omega)
  rw [show off + k + i = off + (k + i) by omega, this]
  congr 3
  unfold st
  rw [List.getD_eq_getElem?_getD, List.getD_eq_getElem?_getD, List.getElem?_drop]
theorem IsStrs.empty {w : World} (ad : Addr) (cap : Nat) (hm : cap ≤ maxLen) : IsStrs w (some ad) 0 cap [] :=
  ⟨rfl, Nat.zero_le _, hm, (fun _ h => (List.not_mem_nil h).elim), (fun e => by cases e), fun h => absurd h (Nat.lt_irrefl _)⟩
theorem small_put {zs : List Str} {s : Str} (h : ∀ z ∈ zs, z.length ≤ maxLen) (hs : s.length ≤ maxLen) : ∀ z ∈ put zs s, z.length ≤ maxLen := fun z hz => by
  rcases (mem_put zs s z).1 hz with e | e
  · rw [e]; exact hs
  · exact h z e

/-- The call returns a row of its caller's base that reads as this list. -/
def RetP (B : Nat) (xs : List Str) (w : World) (e : Ending) (w' : World) : Prop :=
  ∃ v, e = .returned v ∧ w'.ownsRow B 9 1 v xs.length (svals xs) ∧ Below w.heap.size w w'

theorem owns_base {W : World} {base base' : Nat} {e : TypeId} {size : Nat} {v : Value} {k : Nat} {xs : List Value} (h : W.ownsRow base e size v k xs) (hb : base' ≤ base) : W.ownsRow base' e size v k xs := by
  obtain ⟨h1, h2 | ⟨g, cap, cur, hv, hB, r⟩⟩ := h
  · exact ⟨h1, .inl h2⟩
  · exact ⟨h1, .inr ⟨g, cap, cur, hv, by omega, r⟩⟩
theorem grown_below {B : Nat} {w w1 w2 : World} {v : Value} {e : TypeId} {sz n : Nat} {xs : List Value} (hb : Below B w w1) (hz : B ≤ w1.heap.size) (hrow : w1.ownsRow B e sz v n xs) (hg : w1.grownBy w2 v.ownBlock) : Below B w w2 :=
  hb.grown hg hz (fun j hj => (hrow.lt j hj).1)
/-- The last three appends of Put. -/
theorem put_split {zs : List Str} {s : Str} {k : Nat} (hk : pat zs s = k) (hn : ¬ zs[k]? = some s) : put zs s = (([] ++ zs.take k) ++ [s]) ++ zs.drop k := by
  unfold put
  rw [hk, if_neg hn]; simp
theorem put_same {zs : List Str} {s : Str} {k : Nat} (hk : pat zs s = k) (hn : zs[k]? = some s) : put zs s = zs := by
  unfold put
  rw [hk, if_pos hn]

set_option maxRecDepth 100000 in
set_option maxHeartbeats 1600000 in
theorem Put_nil (w : World) (B : Nat) (s : Str) (hx : s.length ≤ maxLen) (hB : B ≤ w.heap.size) :
    Calls Tryz.prog 90 #[.slice none 0 0, .string (mk s)] w (RetP B (put [] s) w) := by
  have hr : Hid (put [] s = ([] ++ [s]) ++ []) := rfl
  have hrow0 := Lib.hid (World.ownsRow_nil w w.heap.size 9 1)
  have HI := Lib.hid (IsStrs.nil w)
  have HX := Lib.hid hx
  clear hx
  go_enter Tryz.func90, Tryz.ntmps90
  go_wp2
  go_loop [6] (fun i => i = .int .i64 0) (fun _ => 0)
  case atStart => rfl
  case round =>
    obtain rfl := hrel
    have tok1 : True := trivial
    have tok2 : True := trivial
    have tok3 : True := trivial
    go_wp2_with (first
      | (at_builtin; have _t := tok1; refine wpList_append_strs rfl _ _ rfl w.heap.size _ 0 [] rfl hrow0.out none 0 0 [] rfl HI.out (by omega) (Nat.le_refl _) ?_; intro v1 w1 hown1 hgrow1; have R1 := Lib.hid hown1; have B1 := Lib.hid (grown_below (Below.refl _ _) (Nat.le_refl _) hrow0.out hgrow1); have hz1 := hgrow1.size; clear hown1 hgrow1 tok1)
      | (at_builtin; have _t := tok2; refine wpList_append_strs rfl _ _ rfl w.heap.size _ _ _ rfl (R1.out.alloc _) _ 1 1 [s] rfl (IsStrs.one w1 s HX.out) (by omega) (by simp; omega) ?_; intro v2 w2 hown2 hgrow2; have R2 := Lib.hid hown2; have B2 := Lib.hid (grown_below (B1.out.alloc hz1 _) (by simp; omega) (R1.out.alloc _) hgrow2); have hz2 := hgrow2.size; clear hown2 hgrow2 tok2)
      | (at_builtin; have _t := tok3; refine wpList_append_strs rfl _ _ rfl w.heap.size _ _ _ rfl R2.out none 0 0 [] rfl (IsStrs.nil _) (by omega) (by have := B2.out.size; omega) ?_; intro v3 w3 hown3 hgrow3; have R3 := Lib.hid hown3; have B3 := Lib.hid (grown_below B2.out B2.out.size R2.out hgrow3); clear hown3 hgrow3 tok3))
    go_ret
    rw [hr.out]
    exact ⟨v3, rfl, owns_base R3.out hB, B3.out⟩

set_option maxRecDepth 100000 in
set_option maxHeartbeats 3200000 in
theorem Put_some (w : World) (B n cap g : Nat) (zs : List Str) (s : Str) (h : w.ownsRow B 9 1 (.slice (some ⟨g, 0, none⟩) n cap) n (svals zs)) (hi : IsStrs w (some ⟨g, 0, none⟩) n cap zs) (hx : s.length ≤ maxLen) (hn : n ≤ 1000) (hB : B ≤ w.heap.size) :
    Calls Tryz.prog 90 #[.slice (some ⟨g, 0, none⟩) n cap, .string (mk s)] w (RetP B (put zs s) w) := by
  have hl := hi.len
  have hc := hi.capLe
  have hm := hi.maxLe
  unfold maxLen at hm
  have hrow0 := Lib.hid (World.ownsRow_nil w w.heap.size 9 1)
  have HI := Lib.hid hi
  have HX := Lib.hid hx
  have HL := Lib.hid hl
  have HROW := Lib.hid h
  clear hx h hi hl
  go_enter Tryz.func90, Tryz.ntmps90
  go_wp2
  go_loop [6] (fun v => ∃ k : Nat, k ≤ n ∧ v = .int .i64 k ∧ Hid (∀ j, j < k → ∃ x, zs[j]? = some x ∧ x < s)) (fun v => n - (intOf v).toNat)
  case atStart => exact ⟨0, Nat.zero_le _, rfl, fun i hi => absurd hi (Nat.not_lt_zero _)⟩
  case round =>
    obtain ⟨k, hk, rfl, hall⟩ := hrel
    by_cases hlt : k < n
    · have c0 : w.cell? ⟨g, k, none⟩ = some (.string (mk (st zs k))) := by
        obtain ⟨b2, o2, e, _, hcs⟩ := HI.out.at_ (by omega)
        cases e
        have := hcs k hlt
        rwa [Nat.zero_add] at this
      have hg := st_get (zs := zs) (i := k) (by rw [HL.out]; exact hlt)
      have he := mk_less (st zs k) s
      have hq := mk_eq (st zs k) s
      obtain ⟨x, hx'⟩ : ∃ x, st zs k = x := ⟨_, rfl⟩
      rw [hx'] at c0 he hg hq
      have HG := Lib.hid hg
      clear hx' hg
      by_cases hxs : x < s
      · rw [decide_eq_true hxs] at he
        have hall' : Hid (∀ j, j < k + 1 → ∃ x, zs[j]? = some x ∧ x < s) := fun i hi => by
          rcases Nat.lt_succ_iff_lt_or_eq.1 hi with e | e
          · exact hall.out i e
          · rw [e]; exact ⟨x, HG.out, hxs⟩
        clear hall hq
        go_wp2
        go_round
        case rel => exact ⟨k + 1, by omega, by go_num, hall'⟩
        case measure => simp [intOf]; omega
      · rw [decide_eq_false hxs] at he
        have hp : Hid (pat zs s = k) := pat_eq hall.out (fun y hy => by rw [HG.out] at hy; cases hy; exact hxs) (by rw [HL.out]; exact hk)
        by_cases hxe : x = s
        · have hr : Hid (put zs s = zs) := put_same hp.out (by rw [HG.out, hxe])
          have hq2 : ((mk x).toList == (mk s).toList) = true := by rw [hq, hxe]; simp
          clear hall hq hxe
          go_wp2
          go_ret
          rw [hr.out]
          exact ⟨_, rfl, by rw [HL.out]; exact HROW.out, Below.refl _ _⟩
        · have hr : Hid (put zs s = (([] ++ zs.take k) ++ [s]) ++ zs.drop k) := put_split hp.out (by rw [HG.out]; exact fun e => hxe (Option.some.inj e))
          have hq2 : ((mk x).toList == (mk s).toList) = false := by rw [hq]; simp [hxe]
          have hkc : ¬ cap = k := by omega
          have IT := Lib.hid (HI.out.take hk)
          have ID := Lib.hid (HI.out.drop hk)
          rw [Nat.zero_add] at ID
          have tok1 : True := trivial
          have tok2 : True := trivial
          have tok3 : True := trivial
          clear hall hq
          go_wp2_with (first
            | (at_builtin; have _t := tok1; refine wpList_append_strs rfl _ _ rfl w.heap.size _ 0 [] rfl hrow0.out _ k cap _ rfl IT.out (by omega) (Nat.le_refl _) ?_; intro v1 w1 hown1 hgrow1; have R1 := Lib.hid hown1; have B1 := Lib.hid (grown_below (Below.refl _ _) (Nat.le_refl _) hrow0.out hgrow1); have hz1 := hgrow1.size; clear hown1 hgrow1 tok1)
            | (at_builtin; have _t := tok2; refine wpList_append_strs rfl _ _ rfl w.heap.size _ _ _ rfl (R1.out.alloc _) _ 1 1 [s] rfl (IsStrs.one w1 s HX.out) (by omega) (by simp; omega) ?_; intro v2 w2 hown2 hgrow2; have R2 := Lib.hid hown2; have B2 := Lib.hid (grown_below (B1.out.alloc hz1 _) (by simp; omega) (R1.out.alloc _) hgrow2); have hz2 := hgrow2.size; clear hown2 hgrow2 tok2)
            | (at_builtin; have _t := tok3; refine wpList_append_strs rfl _ _ rfl w.heap.size _ _ _ rfl R2.out _ (n - k) (cap - k) _ rfl (ID.out.below B2.out) (by omega) (by have := B2.out.size; omega) ?_; intro v3 w3 hown3 hgrow3; have R3 := Lib.hid hown3; have B3 := Lib.hid (grown_below B2.out B2.out.size R2.out hgrow3); clear hown3 hgrow3 tok3))
          go_ret
          have hlr : (put zs s).length = 0 + k + 1 + (n - k) := by
            rw [hr.out]; simp; rw [HL.out]; omega
          refine ⟨v3, rfl, ?_, B3.out⟩
          rw [hlr, hr.out]
          exact owns_base R3.out hB
    · obtain rfl : n = k := by omega
      have hp : Hid (pat zs s = n) := pat_eq hall.out (fun y hy => by rw [List.getElem?_eq_none_iff.2 (by rw [HL.out]; exact Nat.le_refl _)] at hy; cases hy) (by rw [HL.out]; exact Nat.le_refl _)
      have hr : Hid (put zs s = (([] ++ zs.take n) ++ [s]) ++ zs.drop n) := put_split hp.out (by rw [List.getElem?_eq_none_iff.2 (by rw [HL.out]; exact Nat.le_refl _)]; exact fun e => by cases e)
      have IT := Lib.hid (HI.out.take (Nat.le_refl n))
      have ID := Lib.hid (HI.out.drop (Nat.le_refl n))
      have hlr : Hid ((put zs s).length = 0 + n + 1 + 0) := by
        show _ = _
        rw [hr.out]; simp; rw [HL.out]; omega
      have hd0 : Hid (zs.drop n = []) := by
        show _ = _
        rw [← HL.out, List.drop_length]
      clear hall hlt hk
      by_cases hkc : cap = n
      · subst hkc
        have tok1 : True := trivial
        have tok2 : True := trivial
        have tok3 : True := trivial
        go_wp2_with (first
          | (at_builtin; have _t := tok1; refine wpList_append_strs rfl _ _ rfl w.heap.size _ 0 [] rfl hrow0.out _ cap cap _ rfl IT.out (by omega) (Nat.le_refl _) ?_; intro v1 w1 hown1 hgrow1; have R1 := Lib.hid hown1; have B1 := Lib.hid (grown_below (Below.refl _ _) (Nat.le_refl _) hrow0.out hgrow1); have hz1 := hgrow1.size; clear hown1 hgrow1 tok1)
          | (at_builtin; have _t := tok2; refine wpList_append_strs rfl _ _ rfl w.heap.size _ _ _ rfl (R1.out.alloc _) _ 1 1 [s] rfl (IsStrs.one w1 s HX.out) (by omega) (by simp; omega) ?_; intro v2 w2 hown2 hgrow2; have R2 := Lib.hid hown2; have B2 := Lib.hid (grown_below (B1.out.alloc hz1 _) (by simp; omega) (R1.out.alloc _) hgrow2); have hz2 := hgrow2.size; clear hown2 hgrow2 tok2)
          | (at_builtin; have _t := tok3; refine wpList_append_strs rfl _ _ rfl w.heap.size _ _ _ rfl R2.out _ _ _ [] rfl (IsStrs.empty _ _ (by unfold maxLen; omega)) (by omega) (by have := B2.out.size; omega) ?_; intro v3 w3 hown3 hgrow3; have R3 := Lib.hid hown3; have B3 := Lib.hid (grown_below B2.out B2.out.size R2.out hgrow3); clear hown3 hgrow3 tok3))
        go_ret
        refine ⟨v3, rfl, ?_, B3.out⟩
        rw [hlr.out, hr.out, hd0.out]
        exact owns_base R3.out hB
      · have tok1 : True := trivial
        have tok2 : True := trivial
        have tok3 : True := trivial
        go_wp2_with (first
          | (at_builtin; have _t := tok1; refine wpList_append_strs rfl _ _ rfl w.heap.size _ 0 [] rfl hrow0.out _ n cap _ rfl IT.out (by omega) (Nat.le_refl _) ?_; intro v1 w1 hown1 hgrow1; have R1 := Lib.hid hown1; have B1 := Lib.hid (grown_below (Below.refl _ _) (Nat.le_refl _) hrow0.out hgrow1); have hz1 := hgrow1.size; clear hown1 hgrow1 tok1)
          | (at_builtin; have _t := tok2; refine wpList_append_strs rfl _ _ rfl w.heap.size _ _ _ rfl (R1.out.alloc _) _ 1 1 [s] rfl (IsStrs.one w1 s HX.out) (by omega) (by simp; omega) ?_; intro v2 w2 hown2 hgrow2; have R2 := Lib.hid hown2; have B2 := Lib.hid (grown_below (B1.out.alloc hz1 _) (by simp; omega) (R1.out.alloc _) hgrow2); have hz2 := hgrow2.size; clear hown2 hgrow2 tok2)
          | (at_builtin; have _t := tok3; refine wpList_append_strs rfl _ _ rfl w.heap.size _ _ _ rfl R2.out _ _ _ [] rfl (IsStrs.empty _ _ (by unfold maxLen; omega)) (by omega) (by have := B2.out.size; omega) ?_; intro v3 w3 hown3 hgrow3; have R3 := Lib.hid hown3; have B3 := Lib.hid (grown_below B2.out B2.out.size R2.out hgrow3); clear hown3 hgrow3 tok3))
        go_ret
        refine ⟨v3, rfl, ?_, B3.out⟩
        rw [hlr.out, hr.out, hd0.out]
        exact owns_base R3.out hB
theorem Put_any (w : World) (B n : Nat) (v : Value) (zs : List Str) (s : Str) (h : w.ownsRow B 9 1 v n (svals zs)) (hs : ∀ z ∈ zs, z.length ≤ maxLen) (hx : s.length ≤ maxLen) (hn : n ≤ 1000) (hB : B ≤ w.heap.size) :
    Calls Tryz.prog 90 #[v, .string (mk s)] w (RetP B (put zs s) w) := by
  rcases owns_shape h hs with ⟨rfl, rfl, rfl⟩ | ⟨g, cap, rfl, hBg, hg, hi⟩
  · exact Put_nil w B s hx hB
  · exact Put_some w B n cap g zs s h hi hx hn hB
end Go.Proofs.YtdeamdpoegdmdaaGreatDoor

/- Walks of package poset and its reference: Names, ready, checkTop, declared. -/
namespace Go.Proofs.YtdeamdpoegdmdaaGreatDoor
open Go.RowKit

theorem IsDecs.nl {w : World} {a : Option Addr} {n cap : Nat} {D : List Dec} (h : IsDecs w a n cap D) : ∀ d ∈ D, d.name.length ≤ maxLen := by
  intro d hd
  obtain ⟨i, hi, e⟩ := List.getElem_of_mem hd
  have hl := h.len
  obtain ⟨b, off, _, _, hx⟩ := h.at_ (by omega)
  obtain ⟨sa, sc, fa, fc, hd2⟩ := hx i (by omega)
  have := dc_get hi
  rw [List.getElem?_eq_getElem hi, e] at this
  rw [Option.some.inj this]
  exact hd2.nl
theorem nms_take (D : List Dec) (k : Nat) : nms (D.take k) = (nms D).take k := by unfold nms; rw [List.map_take]
theorem nms_succ {D : List Dec} {k : Nat} (hk : k < D.length) : (nms D).take (k + 1) = (nms D).take k ++ [(dc D k).name] := by
  have hkn : k < (nms D).length := by rw [nms_len]; exact hk
  rw [List.take_succ_eq_append_getElem hkn]
  have := dc_nms hk
  rw [List.getElem?_eq_getElem hkn] at this
  rw [Option.some.inj this]
theorem small_srt {l : List Str} (h : ∀ z ∈ l, z.length ≤ maxLen) : ∀ z ∈ srt l, z.length ≤ maxLen := fun z hz => h z ((mem_srt l z).1 hz)
theorem nms_small {w : World} {a : Option Addr} {n cap : Nat} {D : List Dec} (h : IsDecs w a n cap D) : ∀ z ∈ nms D, z.length ≤ maxLen := fun z hz => by
  obtain ⟨d, hd, e⟩ := List.mem_map.1 hz
  rw [← e]; exact h.nl d hd
def lenV : Value → Nat | .slice _ n _ => n | _ => 0
def boolV : Value → Nat | .bool true => 1 | _ => 0

set_option maxRecDepth 100000 in
theorem Names_any (w : World) (a : Option Addr) (n cap : Nat) (D : List Dec) (h : IsDecs w a n cap D) (hn : n ≤ 1000) :
    Calls Tryz.prog 49 #[.slice a n cap] w (RetL (srt (nms D)) w) := by
  have hm := h.maxLe
  have hc := h.capLe
  unfold maxLen at hm
  have HS := Lib.hid (nms_small h)
  have HL := Lib.hid h.len
  have H := Lib.hid h
  clear h
  go_enter Tryz.func49, Tryz.ntmps49
  go_wp2
  go_loopw [3, 4] (fun o v wr => ∃ k : Nat, k ≤ n ∧ v = .int .i64 k ∧ Hid (wr.ownsRow w.heap.size 9 1 o (srt ((nms D).take k)).length (svals (srt ((nms D).take k)))) ∧ Below w.heap.size w wr) (fun _ v _ => n - (intOf v).toNat)
  case atStart => exact ⟨0, Nat.zero_le _, rfl, World.ownsRow_nil _ _ _ _, Below.refl _ _⟩
  case round =>
    obtain ⟨k, hk, rfl, hrow, hb⟩ := hrel
    by_cases hlt : k < n
    · obtain ⟨b, off, rfl, hbl, hx⟩ := (H.out.below hb).at_ (by omega)
      obtain ⟨sa, sc, fa, fc, hd⟩ := hx k hlt
      have c0 := hd.c0
      have hsn := nms_succ (D := D) (k := k) (by rw [HL.out]; exact hlt)
      have hle := srt_len ((nms D).take k)
      rw [List.length_take] at hle
      have PU := Lib.hid (Put_any wr w.heap.size _ _ _ (dc D k).name hrow.out (small_srt (fun z hz => HS.out z (List.mem_of_mem_take hz))) hd.nl (by omega) hb.size)
      rw [← srt_snoc, ← hsn] at PU
      obtain ⟨x, hx'⟩ : ∃ x, (dc D k).name = x := ⟨_, rfl⟩
      rw [hx'] at c0 PU
      clear hx hx' hd hsn hle hrow
      go_wp2_with (go_at_call 90; (with_reducible refine PU.out.mono ?_); rintro e w1 ⟨v1, rfl, hrow1, hb1⟩; have R1 := Lib.hid hrow1; clear hrow1)
      go_roundw
      case rel => exact ⟨k + 1, by omega, by go_num, R1.out, hb.trans (hb1.mono hb.size)⟩
      case measure => simp [intOf]; omega
    · obtain rfl : n = k := by omega
      have hall : (nms D).take n = nms D := List.take_of_length_le (by rw [nms_len, HL.out]; exact Nat.le_refl _)
      rw [hall] at hrow
      clear hall
      go_wp2
      go_ret
      exact ⟨_, rfl, hrow.out, small_srt HS.out, hb⟩

theorem fi_ge (D : List Dec) (s : Str) : (0 ≤ fi D s) ↔ s ∈ nms D := by
  have := fi_neg D s
  constructor
  · intro h; exact Classical.byContradiction fun g => absurd (this.2 g) (by omega)
  · intro h; exact Classical.byContradiction fun g => this.1 (by omega) h
theorem dcl_step {D : List Dec} {l : List Str} {k : Nat} (hk : k < l.length) : dcl D (l.take (k + 1)) = if st l k ∈ nms D then put (dcl D (l.take k)) (st l k) else dcl D (l.take k) := by
  unfold dcl
  rw [take_st hk, List.filter_append]
  by_cases h : st l k ∈ nms D
  · rw [if_pos h]
    have : ([st l k].filter (nms D).contains) = [st l k] := by simp [h]
    rw [this, srt_snoc]
  · rw [if_neg h]
    have : ([st l k].filter (nms D).contains) = [] := by simp [h]
    rw [this, List.append_nil]
theorem dcl_len (D : List Dec) (l : List Str) : (dcl D l).length ≤ l.length := Nat.le_trans (srt_len _) (List.length_filter_le _ _)
theorem small_dcl {D : List Dec} {l : List Str} (h : ∀ z ∈ l, z.length ≤ maxLen) : ∀ z ∈ dcl D l, z.length ≤ maxLen := fun z hz => h z (mem_dcl.1 hz).1

set_option maxRecDepth 100000 in
theorem declared_any (w : World) (a : Option Addr) (n cap : Nat) (D : List Dec) (h : IsDecs w a n cap D) (la : Option Addr) (m lc : Nat) (l : List Str) (hl : IsStrs w la m lc l) (hn : m ≤ 1000) :
    Calls Tryz.prog 139 #[.slice a n cap, .slice la m lc] w (RetL (dcl D l) w) := by
  have hm := hl.maxLe
  have hc := hl.capLe
  unfold maxLen at hm
  have HS := Lib.hid hl.small
  have HLL := Lib.hid hl.len
  have HL := Lib.hid hl
  have H := Lib.hid h
  have hm2 := h.maxLe
  have hc2 := h.capLe
  unfold maxLen at hm2
  have HDL := Lib.hid h.len
  clear h hl
  go_enter Tryz.func139, Tryz.ntmps139
  go_wp2
  go_loopw [5, 6] (fun o v wr => ∃ k : Nat, k ≤ m ∧ v = .int .i64 k ∧ Hid (wr.ownsRow w.heap.size 9 1 o (dcl D (l.take k)).length (svals (dcl D (l.take k)))) ∧ Below w.heap.size w wr) (fun _ v _ => m - (intOf v).toNat)
  case atStart => exact ⟨0, Nat.zero_le _, rfl, World.ownsRow_nil _ _ _ _, Below.refl _ _⟩
  case round =>
    obtain ⟨k, hk, rfl, hrow, hb⟩ := hrel
    by_cases hlt : k < m
    · obtain ⟨b, off, rfl, hbl, hx⟩ := (HL.out.below hb).at_ (by omega)
      have c0 := hx k hlt
      have hsn := dcl_step (D := D) (l := l) (k := k) (by rw [HLL.out]; exact hlt)
      have hle := dcl_len D (l.take k)
      rw [List.length_take] at hle
      have hsx := HS.out _ (st_mem (zs := l) (i := k) (by rw [HLL.out]; exact hlt))
      have PU := Lib.hid (Put_any wr w.heap.size _ _ _ (st l k) hrow.out (small_dcl (fun z hz => HS.out z (List.mem_of_mem_take hz))) hsx (by omega) hb.size)
      have FA := Lib.hid (find_any wr a n cap D (st l k) (H.out.below hb))
      have FGE := fi_ge D (st l k)
      have hfr := fi_range D (st l k)
      rw [HDL.out] at hfr
      obtain ⟨x, hx'⟩ : ∃ x, st l k = x := ⟨_, rfl⟩
      rw [hx'] at c0 PU FA FGE hsn hfr
      obtain ⟨fv, hfv⟩ : ∃ v, fi D x = v := ⟨_, rfl⟩
      rw [hfv] at FA FGE hfr
      by_cases hf : 0 ≤ fv
      · rw [if_pos (FGE.1 hf)] at hsn
        rw [← hsn] at PU
        clear hx hx' hsn hle hrow hsx FGE hfv
        go_wp2_with (first
          | (go_at_call 105; refine (FA.out).mono ?_; rintro e w' ⟨rfl, rfl⟩)
          | (go_at_call 90; (with_reducible refine PU.out.mono ?_); rintro e w1 ⟨v1, rfl, hrow1, hb1⟩; have R1 := Lib.hid hrow1; clear hrow1))
        go_roundw
        case rel => exact ⟨k + 1, by omega, by go_num, R1.out, hb.trans (hb1.mono hb.size)⟩
        case measure => simp [intOf]; omega
      · rw [if_neg (fun g => hf (FGE.2 g))] at hsn
        rw [← hsn] at hrow
        clear hx hx' hsn hle hsx FGE hfv PU
        go_wp2_with (go_at_call 105; refine (FA.out).mono ?_; rintro e w' ⟨rfl, rfl⟩)
        go_roundw
        case rel => exact ⟨k + 1, by omega, by go_num, hrow.out, hb⟩
        case measure => simp [intOf]; omega
    · obtain rfl : m = k := by omega
      have hall : l.take m = l := List.take_of_length_le (by rw [HLL.out]; exact Nat.le_refl _)
      rw [hall] at hrow
      clear hall
      go_wp2
      go_ret
      exact ⟨_, rfl, hrow.out, small_dcl HS.out, hb⟩

/-- Are all direct supertypes in the list? -/
def rdy (sup out : List Str) : Bool := sup.all fun s => inS out s
theorem rdy_iff {sup out : List Str} : rdy sup out = true ↔ ∀ s ∈ sup, s ∈ out := by
  unfold rdy; rw [List.all_eq_true]
  exact ⟨fun h s hs => inS_iff.1 (h s hs), fun h s hs => inS_iff.2 (h s hs)⟩
theorem rdy_not {sup out : List Str} {k : Nat} (hk : k < sup.length) (h : inS out (st sup k) = false) : rdy sup out = false := by
  rw [Bool.eq_false_iff]
  intro g
  exact (inS_not.1 h) (rdy_iff.1 g _ (st_mem hk))
theorem rdy_all {sup out : List Str} (h : ∀ i, i < sup.length → inS out (st sup i) = true) : rdy sup out = true := by
  refine rdy_iff.2 fun s hs => ?_
  obtain ⟨i, hi, e⟩ := List.getElem_of_mem hs
  have := st_get hi
  rw [List.getElem?_eq_getElem hi, e] at this
  rw [Option.some.inj this]
  exact inS_iff.1 (h i hi)

set_option maxRecDepth 100000 in
theorem ready_any (w : World) (nm : Str) (fv : Value) (sa : Option Addr) (sl sc : Nat) (sup : List Str) (hs : IsStrs w sa sl sc sup) (oa : Option Addr) (on oc : Nat) (out : List Str) (ho : IsStrs w oa on oc out) (hfv : ∃ fa fl fc, fv = .slice fa fl fc) :
    Calls Tryz.prog 106 #[.agg #[.string (mk nm), .slice sa sl sc, fv], .slice oa on oc] w fun e w' => e = .returned (.bool (rdy sup out)) ∧ Below w.heap.size w w' := by
  obtain ⟨fa, fl, fc, rfl⟩ := hfv
  have hm := hs.maxLe
  have hc := hs.capLe
  unfold maxLen at hm
  have HSL := Lib.hid hs.len
  have hb1 := (Below.refl w.heap.size w).alloc (Nat.le_refl _) (.cells #[.string (mk nm), .slice sa sl sc, .slice fa fl fc] 53)
  have HS := Lib.hid (hs.below hb1)
  have HO := Lib.hid (ho.below hb1)
  clear hs ho hb1
  go_enter Tryz.func106, Tryz.ntmps106
  go_wp2
  go_loop [5] (fun v => ∃ k : Nat, k ≤ sl ∧ v = .int .i64 k ∧ Hid (∀ i, i < k → inS out (st sup i) = true)) (fun v => sl - (intOf v).toNat)
  case atStart => exact ⟨0, Nat.zero_le _, rfl, fun i hi => absurd hi (Nat.not_lt_zero _)⟩
  case round =>
    obtain ⟨k, hk, rfl, hall⟩ := hrel
    by_cases hlt : k < sl
    · obtain ⟨b, off, rfl, hbl, hx⟩ := HS.out.at_ (by omega)
      have c0 := hx k hlt
      have AM := Lib.hid (Among_any _ oa on oc out (st sup k) HO.out)
      have RN := Lib.hid (rdy_not (sup := sup) (out := out) (k := k) (by rw [HSL.out]; exact hlt))
      obtain ⟨x, hx'⟩ : ∃ x, st sup k = x := ⟨_, rfl⟩
      rw [hx'] at c0 AM RN
      have HX := Lib.hid hx'
      obtain ⟨q, hq⟩ : ∃ q, inS out x = q := ⟨_, rfl⟩
      rw [hq] at AM
      cases q
      · have hr : Hid (rdy sup out = false) := RN.out hq
        clear hx hx' hq hall
        go_wp2_with (go_at_call 35; refine (AM.out).mono ?_; rintro e w' ⟨rfl, rfl⟩)
        go_ret
        exact ⟨by rw [hr.out]; rfl, (Below.refl _ _).alloc (Nat.le_refl _) _⟩
      · have hall' : Hid (∀ i, i < k + 1 → inS out (st sup i) = true) := fun i hi => by
          rcases Nat.lt_succ_iff_lt_or_eq.1 hi with e | e
          · exact hall.out i e
          · rw [e, HX.out]; exact hq
        clear hx hx' hq hall
        go_wp2_with (go_at_call 35; refine (AM.out).mono ?_; rintro e w' ⟨rfl, rfl⟩)
        go_round
        case rel => exact ⟨k + 1, by omega, by go_num, hall'⟩
        case measure => simp [intOf]; omega
    · obtain rfl : sl = k := by omega
      have hr : Hid (rdy sup out = true) := rdy_all (fun i hi => hall.out i (by rw [HSL.out] at hi; exact hi))
      clear hall
      go_wp2
      go_ret
      exact ⟨by rw [hr.out]; rfl, (Below.refl _ _).alloc (Nat.le_refl _) _⟩
end Go.Proofs.YtdeamdpoegdmdaaGreatDoor

/- Walks of the reference of package poset: placed. -/
namespace Go.Proofs.YtdeamdpoegdmdaaGreatDoor
open Go.RowKit

/-- The least one that may be next among the first i. -/
def sc (D : List Dec) (out : List Str) (i : Nat) : Option Str := least (((nms D).take i).filter (mayB D out))
theorem sc_step {D : List Dec} {out : List Str} {i : Nat} (hi : i < D.length) : sc D out (i + 1) = if mayB D out (dc D i).name then lower (sc D out i) (dc D i).name else sc D out i := by
  unfold sc
  rw [nms_succ hi, List.filter_append]
  by_cases h : mayB D out (dc D i).name = true
  · rw [if_pos h]
    have : ([(dc D i).name].filter (mayB D out)) = [(dc D i).name] := by simp [h]
    rw [this, least_snoc]
  · rw [if_neg h]
    have : ([(dc D i).name].filter (mayB D out)) = [] := by simp [h]
    rw [this, List.append_nil]
theorem sc_zero (D : List Dec) (out : List Str) : sc D out 0 = none := rfl
theorem sc_all (D : List Dec) (out : List Str) : sc D out D.length = nxB D out := by
  unfold sc nxB
  rw [List.take_of_length_le (by rw [nms_len]; exact Nat.le_refl _)]
theorem mayB_eq {D : List Dec} (hn : (nms D).Nodup) {out : List Str} {i : Nat} (hi : i < D.length) : mayB D out (dc D i).name = (!inS out (dc D i).name && rdy (dc D i).sup out) := by
  unfold mayB
  rw [up_of hn (dc_mem hi)]
  rfl
theorem plc_small {D : List Dec} {out : List Str} (h : Plc D out) (hs : ∀ z ∈ nms D, z.length ≤ maxLen) : ∀ z ∈ out, z.length ≤ maxLen := fun z hz => hs z (h.sub z hz)

set_option maxRecDepth 100000 in
set_option maxHeartbeats 3200000 in
theorem placed_any (w : World) (a : Option Addr) (n cap : Nat) (D : List Dec) (h : IsDecs w a n cap D) (hnd : (nms D).Nodup) (hn : n ≤ 1000) :
    Calls Tryz.prog 70 #[.slice a n cap] w (RetL (plc D) w) := by
  have hm := h.maxLe
  have hc := h.capLe
  unfold maxLen at hm
  have HS := Lib.hid (nms_small h)
  have HL := Lib.hid h.len
  have H := Lib.hid h
  have HND := Lib.hid hnd
  clear h hnd
  go_enter Tryz.func70, Tryz.ntmps70
  go_wp2
  go_loopw [3, 4] (fun o m wr => ∃ (out : List Str) (on : Nat) (mb : Bool), on ≤ n ∧ out.length = on ∧ Hid (Plc D out) ∧ Hid (wr.ownsRow w.heap.size 9 1 o on (svals out)) ∧ m = .bool mb ∧ Hid (mb = false → Done D out) ∧ Below w.heap.size w wr) (fun o m _ => n - lenV o + boolV m)
  case atStart => exact ⟨[], 0, true, Nat.zero_le _, rfl, .nil, World.ownsRow_nil _ _ _ _, rfl, (fun e => by cases e), Below.refl _ _⟩
  case round =>
    obtain ⟨out, on, mb, hon, hlo, hp, hrow, rfl, hdone, hb⟩ := hrel
    obtain ⟨oa, oc, rfl, hio⟩ := IsStrs.of_owns hrow.out (plc_small hp.out HS.out)
    have HIO := Lib.hid hio
    have HLO := Lib.hid hlo
    have hocl := hio.capLe
    have hocm := hio.maxLe
    unfold maxLen at hocm
    clear hio hlo
    obtain ⟨wo, hwo⟩ : ∃ wo : World, wo = wr := ⟨_, rfl⟩
    subst hwo
    cases mb
    · have hr : Hid (out = plc D) := plc_is hp.out (hdone.out rfl)
      have hlr : Hid ((plc D).length = on) := by show _ = _; rw [← hr.out, HLO.out]
      clear hdone
      go_wp2
      go_ret
      refine ⟨_, rfl, ?_, plc_small (plc_plc D) HS.out, hb⟩
      rw [hlr.out, ← hr.out]
      exact hrow.out
    · clear hdone
      go_wp2
      go_loopw [4, 5, 6] (fun m x v wi => ∃ (i : Nat) (q : Option Str), i ≤ n ∧ v = .int .i64 i ∧ Hid (q = sc D out i) ∧ m = .bool q.isSome ∧ x = .string (mk (q.getD [])) ∧ Below wo.heap.size wo wi) (fun _ _ v _ => n - (intOf v).toNat)
      case atStart => exact ⟨0, none, Nat.zero_le _, rfl, rfl, rfl, rfl, Below.refl _ _⟩
      case round =>
        obtain ⟨i, q, hi, rfl, hq, rfl, rfl, hbi⟩ := hrel
        obtain ⟨wi, hwi⟩ : ∃ wi : World, wi = wr := ⟨_, rfl⟩
        subst hwi
        have hbw := hb.trans (hbi.mono hb.size)
        by_cases hlt : i < n
        · obtain ⟨b, off, rfl, hbl, hx⟩ := (H.out.below hbw).at_ (by omega)
          obtain ⟨sa, sc', fa, fc, hd⟩ := hx i hlt
          have c0 := hd.c0
          have c1 := hd.c1
          have c2 := hd.c2
          have HI2 := Lib.hid (HIO.out.below hbi)
          have AM := Lib.hid (Among_any wi oa on oc out (dc D i).name HI2.out)
          have RD := Lib.hid (fun W (e : W = wi) => e ▸ ready_any wi (dc D i).name (.slice fa (dc D i).nf fc) sa _ sc' _ hd.ss oa on oc out HI2.out ⟨_, _, _, rfl⟩)
          have SC := Lib.hid (sc_step (D := D) (out := out) (i := i) (by rw [HL.out]; exact hlt))
          have MB := Lib.hid (mayB_eq HND.out (out := out) (i := i) (by rw [HL.out]; exact hlt))
          obtain ⟨nm, hnm⟩ : ∃ z, (dc D i).name = z := ⟨_, rfl⟩
          obtain ⟨su, hsu⟩ : ∃ z, (dc D i).sup = z := ⟨_, rfl⟩
          rw [hnm] at c0 AM RD SC MB
          rw [hsu] at c1 RD MB
          obtain ⟨sl, hsl⟩ : ∃ z, su.length = z := ⟨_, rfl⟩
          rw [hsl] at c1 RD
          obtain ⟨nf, hnf⟩ : ∃ z, (dc D i).nf = z := ⟨_, rfl⟩
          rw [hnf] at c2 RD
          obtain ⟨p1, hp1⟩ : ∃ z, inS out nm = z := ⟨_, rfl⟩
          obtain ⟨p2, hp2⟩ : ∃ z, rdy su out = z := ⟨_, rfl⟩
          rw [hp1] at AM MB
          rw [hp2] at RD MB
          clear hx hd hnm hsu hsl hnf hp1 hp2
          cases p1
          · cases p2
            · have hq' : Hid (q = sc D out (i + 1)) := by show _ = _; rw [SC.out, MB.out, hq.out]; rfl
              clear hq
              go_wp2_with (first
                | (go_at_call 35; refine (AM.out).mono ?_; rintro e w' ⟨rfl, rfl⟩)
                | (go_at_call 106; refine (RD.out _ rfl).mono ?_; rintro e w2 ⟨rfl, hb2⟩))
              go_roundw
              case rel => exact ⟨i + 1, q, by omega, by go_num, hq', rfl, rfl, hbi.trans (hb2.mono hbi.size)⟩
              case measure => simp [intOf]; omega
            · have hq2 : Hid (sc D out (i + 1) = lower q nm) := by show _ = _; rw [SC.out, MB.out, hq.out]; rfl
              clear hq
              cases q with
              | none =>
                have hq' : Hid (some nm = sc D out (i + 1)) := by show _ = _; rw [hq2.out]; rfl
                go_wp2_with (first
                  | (go_at_call 35; refine (AM.out).mono ?_; rintro e w' ⟨rfl, rfl⟩)
                  | (go_at_call 106; refine (RD.out _ rfl).mono ?_; rintro e w2 ⟨rfl, hb2⟩; obtain ⟨d0, f0⟩ := bcell hb2))
                go_roundw
                case rel => exact ⟨i + 1, some nm, by omega, by go_num, hq', rfl, rfl, hbi.trans (hb2.mono hbi.size)⟩
                case measure => simp [intOf]; omega
              | some y =>
                have he := mk_less nm y
                by_cases hlt2 : nm < y
                · rw [decide_eq_true hlt2] at he
                  have hq' : Hid (some nm = sc D out (i + 1)) := by show _ = _; rw [hq2.out]; exact (if_pos (c := nm < y) hlt2).symm
                  clear hq2
                  go_wp2_with (first
                    | (go_at_call 35; refine (AM.out).mono ?_; rintro e w' ⟨rfl, rfl⟩)
                    | (go_at_call 106; refine (RD.out _ rfl).mono ?_; rintro e w2 ⟨rfl, hb2⟩; obtain ⟨d0, f0⟩ := bcell hb2))
                  go_roundw
                  case rel => exact ⟨i + 1, some nm, by omega, by go_num, hq', rfl, rfl, hbi.trans (hb2.mono hbi.size)⟩
                  case measure => simp [intOf]; omega
                · rw [decide_eq_false hlt2] at he
                  have hq' : Hid (some y = sc D out (i + 1)) := by show _ = _; rw [hq2.out]; exact (if_neg (c := nm < y) hlt2).symm
                  clear hq2
                  go_wp2_with (first
                    | (go_at_call 35; refine (AM.out).mono ?_; rintro e w' ⟨rfl, rfl⟩)
                    | (go_at_call 106; refine (RD.out _ rfl).mono ?_; rintro e w2 ⟨rfl, hb2⟩; obtain ⟨d0, f0⟩ := bcell hb2))
                  go_roundw
                  case rel => exact ⟨i + 1, some y, by omega, by go_num, hq', rfl, rfl, hbi.trans (hb2.mono hbi.size)⟩
                  case measure => simp [intOf]; omega
          · have hq' : Hid (q = sc D out (i + 1)) := by show _ = _; rw [SC.out, MB.out, hq.out]; rfl
            clear hq
            go_wp2_with (first
              | (go_at_call 35; refine (AM.out).mono ?_; rintro e w' ⟨rfl, rfl⟩)
              | (go_at_call 106; refine (RD.out _ rfl).mono ?_; rintro e w2 ⟨rfl, hb2⟩))
            go_roundw
            case rel => exact ⟨i + 1, q, by omega, by go_num, hq', rfl, rfl, hbi⟩
            case measure => simp [intOf]; omega
        · obtain rfl : i = n := by omega
          have hqn : Hid (q = nxB D out) := by show _ = _; rw [hq.out, ← HL.out, sc_all]
          clear hq
          cases q with
          | none =>
            have hdn : Hid (false = false → Done D out) := fun _ => nxB_none hqn.out.symm
            go_wp2
            go_roundw
            case rel => exact ⟨out, on, false, hon, HLO.out, hp, owns_below hrow.out hbi, rfl, hdn, hbw⟩
            case measure => simp [lenV, boolV]
          | some y =>
            have hpn : Hid (Plc D (out ++ [y])) := .snoc hp.out (nxB_some hqn.out.symm)
            have hle := hpn.out.len
            rw [HL.out, List.length_append, HLO.out] at hle
            have hys : y.length ≤ maxLen := plc_small hpn.out HS.out y (by simp)
            have HYS := Lib.hid hys
            clear hys
            simp only [List.length_cons, List.length_nil] at hle
            have hlo2 := HLO.out
            have HLO2 := Lib.hid hlo2
            clear hlo2
            go_wp2_with (at_builtin; refine wpList_append_strs rfl _ _ rfl w.heap.size _ on out rfl ((owns_below hrow.out hbi).alloc _) _ 1 1 [y] rfl (IsStrs.one wi y HYS.out) (by omega) (by have := hbw.size; simp; omega) ?_; intro v1 w1 hown1 hgrow1; have R1 := Lib.hid hown1; have B1 := Lib.hid (grown_below (hbw.alloc hbw.size _) (by have := hbw.size; simp; omega) ((owns_below hrow.out hbi).alloc _) hgrow1); clear hown1 hgrow1; obtain ⟨oa2, oc2, rfl, hio2⟩ := IsStrs.of_owns R1.out (plc_small hpn.out HS.out); clear hio2)
            go_roundw
            case rel => exact ⟨out ++ [y], on + 1, true, by omega, by rw [List.length_append, HLO2.out]; rfl, hpn, R1.out, rfl, (fun e => by cases e), B1.out⟩
            case measure => simp [lenV, boolV]; omega
end Go.Proofs.YtdeamdpoegdmdaaGreatDoor

/- Walks of the reference of package poset: Check, Order. -/
namespace Go.Proofs.YtdeamdpoegdmdaaGreatDoor
open Go.RowKit

theorem tops_succ {D : List Dec} {k : Nat} (hk : k < D.length) : tops (D.take (k + 1)) = tops (D.take k) + if (dc D k).sup.length = 0 then 1 else 0 := by
  unfold tops
  rw [take_dc hk, List.filter_append, List.length_append]
  congr 1
  by_cases h : (dc D k).sup.length = 0
  · rw [if_pos h]
    have : (dc D k).sup.isEmpty = true := by rw [List.isEmpty_iff]; exact List.eq_nil_of_length_eq_zero h
    simp [this]
  · rw [if_neg h]
    have : (dc D k).sup.isEmpty = false := by
      rw [Bool.eq_false_iff]; intro e; rw [List.isEmpty_iff] at e; rw [e] at h; exact h rfl
    simp [this]
theorem tops_le (D : List Dec) : tops D ≤ D.length := List.length_filter_le _ _
/-- The error of Check. -/
noncomputable def chkN (D : List Dec) : Nat := chk (isNam kLow) D
theorem szE_le {D : List Dec} (h : szE D = 0) : D.length ≤ 256 := by
  unfold szE at h
  split at h
  · cases h
  · omega

set_option maxRecDepth 100000 in
set_option maxHeartbeats 1600000 in
theorem rCheck_any (w : World) (a : Option Addr) (n cap : Nat) (D : List Dec) (h : IsDecs w a n cap D) :
    Calls Tryz.prog 32 #[.slice a n cap] w fun e w' => e = .returned (.int .i64 ((chkN D : Nat) : Int)) ∧ Below w.heap.size w w' := by
  have hm := h.maxLe
  have hc := h.capLe
  unfold maxLen at hm
  have HL := Lib.hid h.len
  have H := Lib.hid h
  have SZ := Lib.hid (sizes_any w a n cap D h)
  have NM := Lib.hid (rnames_any w a n cap D h)
  have SU := Lib.hid (rsupers_any w a n cap D h)
  obtain ⟨e1, he1⟩ : ∃ z, szE D = z := ⟨_, rfl⟩
  obtain ⟨e2, he2⟩ : ∃ z, nmE (isNam kLow) [] D = z := ⟨_, rfl⟩
  obtain ⟨e3, he3⟩ : ∃ z, suE (nms D) D = z := ⟨_, rfl⟩
  have hck : chkN D = if e1 ≠ 0 then e1 else if e2 ≠ 0 then e2 else if e3 ≠ 0 then e3 else if tops D ≠ 1 then 1 else if (plc D).length < D.length then 6 else 0 := by
    unfold chkN chk; rw [he1, he2, he3]
  have HCK := Lib.hid hck
  rw [he1] at SZ
  rw [he2] at NM
  rw [he3] at SU
  have H1 := Lib.hid he1
  have H2 := Lib.hid he2
  have H3 := Lib.hid he3
  clear h hck he1 he2 he3
  by_cases h1 : e1 = 0
  case neg =>
    have hr : Hid (chkN D = e1) := by show _ = _; rw [HCK.out, if_pos h1]
    have hne : (((e1 : Nat) : Int) != 0) = true := by simp; omega
    go_enter Tryz.func32, Tryz.ntmps32
    go_wp2_with (go_at_call 67; refine (SZ.out).mono ?_; rintro e w' ⟨rfl, rfl⟩)
    go_ret
    exact ⟨by rw [hr.out]; rfl, Below.refl _ _⟩
  have hn256 : Hid (n ≤ 256) := by have := szE_le (H1.out.trans h1); rw [HL.out] at this; exact this
  subst h1
  by_cases h2 : e2 = 0
  case neg =>
    have hr : Hid (chkN D = e2) := by show _ = _; rw [HCK.out, if_neg (by simp), if_pos h2]
    have hne : (((e2 : Nat) : Int) != 0) = true := by simp; omega
    go_enter Tryz.func32, Tryz.ntmps32
    go_wp2_with (first
      | (go_at_call 67; refine (SZ.out).mono ?_; rintro e w' ⟨rfl, rfl⟩)
      | (go_at_call 68; refine (NM.out).mono ?_; rintro e w' ⟨rfl, rfl⟩))
    go_ret
    exact ⟨by rw [hr.out]; rfl, Below.refl _ _⟩
  subst h2
  by_cases h3 : e3 = 0
  case neg =>
    have hr : Hid (chkN D = e3) := by show _ = _; rw [HCK.out, if_neg (by simp), if_neg (by simp), if_pos h3]
    have hne : (((e3 : Nat) : Int) != 0) = true := by simp; omega
    go_enter Tryz.func32, Tryz.ntmps32
    go_wp2_with (first
      | (go_at_call 67; refine (SZ.out).mono ?_; rintro e w' ⟨rfl, rfl⟩)
      | (go_at_call 68; refine (NM.out).mono ?_; rintro e w' ⟨rfl, rfl⟩)
      | (go_at_call 69; refine (SU.out).mono ?_; rintro e w' ⟨rfl, hb1⟩))
    go_ret
    exact ⟨by rw [hr.out]; rfl, hb1⟩
  subst h3
  have HCK2 : Hid (chkN D = if tops D ≠ 1 then 1 else if (plc D).length < D.length then 6 else 0) := by
    show _ = _; rw [HCK.out, if_neg (by simp), if_neg (by simp), if_neg (by simp)]
  have OK := Lib.hid (ok_of (nm := isNam kLow) H2.out H3.out)
  clear HCK H1 H2 H3
  go_enter Tryz.func32, Tryz.ntmps32
  go_wp2_with (first
    | (go_at_call 67; refine (SZ.out).mono ?_; rintro e w' ⟨rfl, rfl⟩)
    | (go_at_call 68; refine (NM.out).mono ?_; rintro e w' ⟨rfl, rfl⟩)
    | (go_at_call 69; refine (SU.out).mono ?_; rintro e w1 ⟨rfl, hb1⟩))
  have HW1 := Lib.hid (H.out.below hb1)
  go_loop [6, 7] (fun c v => ∃ k : Nat, k ≤ n ∧ v = .int .i64 k ∧ c = .int .i64 ((tops (D.take k) : Nat) : Int)) (fun _ v => n - (intOf v).toNat)
  case atStart => exact ⟨0, Nat.zero_le _, rfl, rfl⟩
  case round =>
    obtain ⟨k, hk, rfl, rfl⟩ := hrel
    have htl := tops_le (D.take k)
    rw [List.length_take] at htl
    by_cases hlt : k < n
    · obtain ⟨b, off, rfl, hbl, hx⟩ := HW1.out.at_ (by omega)
      obtain ⟨sa, sc', fa, fc, hd⟩ := hx k hlt
      have c1 := hd.c1
      have hts := tops_succ (D := D) (k := k) (by rw [HL.out]; exact hlt)
      obtain ⟨sl, hsl⟩ : ∃ z, (dc D k).sup.length = z := ⟨_, rfl⟩
      rw [hsl] at c1 hts
      obtain ⟨tk, htk⟩ : ∃ z, tops (D.take k) = z := ⟨_, rfl⟩
      rw [htk] at hts htl
      rw [htk]
      clear hx hd hsl htk
      by_cases h0 : sl = 0
      · rw [if_pos h0] at hts
        have HTS := Lib.hid hts
        subst h0
        clear hts
        go_wp2
        go_round
        case rel => exact ⟨k + 1, by omega, by go_num, by rw [HTS.out]; go_num⟩
        case measure => simp [intOf]; omega
      · rw [if_neg h0] at hts
        have HTS := Lib.hid hts
        have hne : (((sl : Nat) : Int) == 0) = false := by simp; omega
        clear hts
        go_wp2
        go_round
        case rel => exact ⟨k + 1, by omega, by go_num, by rw [HTS.out]; go_num⟩
        case measure => simp [intOf]; omega
    · obtain rfl : n = k := by omega
      have hall : D.take n = D := List.take_of_length_le (by rw [HL.out]; exact Nat.le_refl _)
      rw [hall] at htl
      rw [hall]
      obtain ⟨tp, htp⟩ : ∃ z, tops D = z := ⟨_, rfl⟩
      rw [htp] at HCK2 htl
      rw [htp]
      clear hall htp hlt
      by_cases ht : tp = 1
      · subst ht
        have HCK3 : Hid (chkN D = if (plc D).length < n then 6 else 0) := by show _ = _; rw [HCK2.out, if_neg (by simp), HL.out]
        have PL := Lib.hid (placed_any w1 a n cap D HW1.out OK.out.nodup (by have := hn256.out; omega))
        obtain ⟨pl, hpl⟩ : ∃ z, (plc D).length = z := ⟨_, rfl⟩
        rw [hpl] at HCK3
        have HPL := Lib.hid hpl
        clear hpl HCK2
        by_cases hp : pl < n
        · have hr : Hid (chkN D = 6) := by show _ = _; rw [HCK3.out, if_pos hp]
          clear HCK3
          go_wp2_with (go_at_call 70; (with_reducible refine PL.out.mono ?_); rintro e w2 ⟨v2, rfl, hrow, hsm, hb2⟩; rw [HPL.out] at hrow; obtain ⟨a2, c2, rfl, hi2⟩ := IsStrs.of_owns hrow hsm; clear hrow hsm hi2)
          go_ret
          exact ⟨by rw [hr.out]; rfl, hb1.trans (hb2.mono hb1.size)⟩
        · have hr : Hid (chkN D = 0) := by show _ = _; rw [HCK3.out, if_neg hp]
          clear HCK3
          go_wp2_with (go_at_call 70; (with_reducible refine PL.out.mono ?_); rintro e w2 ⟨v2, rfl, hrow, hsm, hb2⟩; rw [HPL.out] at hrow; obtain ⟨a2, c2, rfl, hi2⟩ := IsStrs.of_owns hrow hsm; clear hrow hsm hi2)
          go_ret
          exact ⟨by rw [hr.out]; rfl, hb1.trans (hb2.mono hb1.size)⟩
      · have hr : Hid (chkN D = 1) := by show _ = _; rw [HCK2.out, if_pos ht]
        have hne : (((tp : Nat) : Int) != 1) = true := by simp; omega
        clear HCK2
        go_wp2
        go_ret
        exact ⟨by rw [hr.out]; rfl, hb1⟩

/-- The call returns a slice of strings that reads as this list, and is its own, and an error. -/
def RetLE (xs : List Str) (k : Nat) (w : World) (e : Ending) (w' : World) : Prop :=
  ∃ v, e = .returned (.tuple #[v, .int .i64 ((k : Nat) : Int)]) ∧ w'.ownsRow w.heap.size 9 1 v xs.length (svals xs) ∧ (∀ z ∈ xs, z.length ≤ maxLen) ∧ Below w.heap.size w w'
noncomputable def ordN (D : List Dec) : List Str := if chkN D = 0 then plc D else []
theorem goodN {D : List Dec} (h : chkN D = 0) : Good (isNam kLow) D := good_of h

end Go.Proofs.YtdeamdpoegdmdaaGreatDoor

/- Walks of the reference of package poset: Above, Below. -/
namespace Go.Proofs.YtdeamdpoegdmdaaGreatDoor
open Go.RowKit

theorem owns_one (w : World) (x : Str) : (w.alloc (.cells #[.string (mk x)] 9)).ownsRow w.heap.size 9 1 (.slice (some ⟨w.heap.size, 0, none⟩) 1 1) 1 (svals [x]) :=
  ⟨rfl, .inr ⟨w.heap.size, 1, _, rfl, Nat.le_refl _, heap_alloc_new w _, Nat.le_refl _, by unfold maxLen; omega, rfl, rfl⟩⟩
/-- The declaration that is found by a name. -/
theorem fi_up {D : List Dec} (hn : (nms D).Nodup) {y : Str} (hy : y ∈ nms D) : ∃ i, i < D.length ∧ fi D y = (i : Int) ∧ up D y = (dc D i).sup := by
  unfold fi
  cases e : D.findIdx? (fun d => d.name == y) with
  | none =>
    obtain ⟨d, hd, e2⟩ := List.mem_map.1 hy
    have := List.findIdx?_eq_none_iff.1 e d hd
    simp [e2] at this
  | some i =>
    obtain ⟨h1, h2, _⟩ := List.findIdx?_eq_some_iff_getElem.1 e
    have hg : D[i] = dc D i := by
      have := dc_get h1
      rw [List.getElem?_eq_getElem h1] at this
      exact Option.some.inj this
    rw [hg] at h2
    have h3 : (dc D i).name = y := by simpa using h2
    exact ⟨i, h1, rfl, by rw [← h3]; exact up_of hn (dc_mem h1)⟩
theorem owns_draw {w : World} {B n sz : Nat} {e : TypeId} {v : Value} {xs : List Value} {o : Obj} (h : w.ownsRow B e sz v n xs) (m : Nat) : ((w.alloc o).drewN m).ownsRow B e sz v n xs :=
  owns_below (h.alloc o) (below_drewN2 (Below.refl _ _) m)
theorem below_draw {B : Nat} {a w : World} {o : Obj} (h : Below B a w) (hz : B ≤ w.heap.size) (m : Nat) : Below B a ((w.alloc o).drewN m) := below_drewN2 (h.alloc hz o) m
theorem Bfs.small {f : Str → List Str} {N : List Str} {x : Str} {i : Nat} {t : List Str} (h : Bfs f N x i t) (hs : ∀ z ∈ N, z.length ≤ maxLen) : ∀ z ∈ t, z.length ≤ maxLen := fun z hz => hs z (h.sub z hz)
theorem Bfs.len {f : Str → List Str} {N : List Str} {x : Str} {i : Nat} {t : List Str} (h : Bfs f N x i t) : t.length ≤ N.length := nodup_len h.nodup h.sub
theorem ab_end {D : List Dec} (ok : Ok D) {x : Str} (hx : x ∈ nms D) {i : Nat} {t : List Str} (h : Bfs (up D) (nms D) x i t) (hi : t.length ≤ i) : ab D x = srt t :=
  asc_ext (ab_asc D x) (srt_asc t) fun y => by
    rw [mem_ab ok, mem_srt, h.end (List.getElem?_eq_none_iff.2 hi)]
    exact ⟨fun g => g.2, fun g => ⟨hx, g⟩⟩
theorem bl_end {D : List Dec} {x : Str} (hx : x ∈ nms D) {i : Nat} {t : List Str} (h : Bfs (dnR D) (nms D) x i t) (hi : t.length ≤ i) : bl D x = srt t :=
  asc_ext (bl_asc D x) (srt_asc t) fun y => by
    rw [mem_bl, mem_srt, h.end (List.getElem?_eq_none_iff.2 hi)]
    constructor
    · rintro ⟨_, e | e⟩
      · exact .inl e
      · exact .inr (e.congr fun _ _ => mem_dnR.2)
    · rintro (e | e)
      · exact ⟨hx, .inl e⟩
      · exact ⟨hx, .inr (e.congr fun _ _ => mem_dnR.1)⟩
theorem ab_none {D : List Dec} {x : Str} (h : x ∉ nms D) : ab D x = [] := by unfold ab; rw [if_neg h]
theorem bl_none {D : List Dec} {x : Str} (h : x ∉ nms D) : bl D x = [] := by unfold bl; rw [if_neg h]
theorem adds_take {l t : List Str} {j : Nat} (hj : j < l.length) : (l.take (j + 1)).foldl add t = add ((l.take j).foldl add t) (st l j) := by
  rw [take_st hj, List.foldl_append]; rfl
theorem add_in {t : List Str} {x : Str} (h : inS t x = true) : add t x = t := by unfold add; exact if_pos h
theorem add_out {t : List Str} {x : Str} (h : inS t x = false) : add t x = t ++ [x] := by
  unfold add
  have : ¬ t.contains x = true := by
    intro g; have g2 : inS t x = true := g; rw [h] at g2; cases g2
  rw [if_neg this]
theorem dnR_sub {D : List Dec} : ∀ x y, y ∈ dnR D x → y ∈ nms D := fun _ _ hy => dn_mem (mem_dnR.1 hy)
theorem dnR_take {D : List Dec} {x : Str} {t : List Str} {j : Nat} (hj : j < D.length) : (dnR (D.take (j + 1)) x).foldl add t = if inS (dc D j).sup x then add ((dnR (D.take j) x).foldl add t) (dc D j).name else (dnR (D.take j) x).foldl add t := by
  unfold dnR
  rw [take_dc hj, List.filter_append, List.map_append, List.foldl_append]
  by_cases h : inS (dc D j).sup x = true
  · rw [if_pos h]
    have : ([dc D j].filter fun d => d.sup.contains x) = [dc D j] := by
      have h2 : (dc D j).sup.contains x = true := h
      rw [List.filter_cons, if_pos h2]; rfl
    rw [this]; rfl
  · rw [if_neg h]
    have : ([dc D j].filter fun d => d.sup.contains x) = [] := by
      have h2 : ¬ (dc D j).sup.contains x = true := h
      rw [List.filter_cons, if_neg h2]; rfl
    rw [this]; rfl

set_option maxRecDepth 100000 in
set_option maxHeartbeats 3200000 in
theorem rAbove_any (w : World) (a : Option Addr) (n cap : Nat) (D : List Dec) (h : IsDecs w a n cap D) (ok : Ok D) (hn : n ≤ 256) (x : Str) (hxl : x.length ≤ maxLen) :
    Calls Tryz.prog 140 #[.slice a n cap, .string (mk x)] w (RetL (ab D x) w) := by
  have hm := h.maxLe
  have hc := h.capLe
  unfold maxLen at hm
  have HL := Lib.hid h.len
  have HS := Lib.hid (nms_small h)
  have FA := Lib.hid (find_any w a n cap D x h)
  have FN := fi_neg D x
  have hfr := fi_range D x
  rw [HL.out] at hfr
  obtain ⟨fx, hfx⟩ : ∃ z, fi D x = z := ⟨_, rfl⟩
  rw [hfx] at FA FN hfr
  have H := Lib.hid h
  have OK := Lib.hid ok
  have HXL := Lib.hid hxl
  clear h ok hxl hfx
  by_cases hf : fx < 0
  · have hr : Hid (ab D x = []) := ab_none (FN.1 hf)
    clear FN
    go_enter Tryz.func140, Tryz.ntmps140
    go_wp2_with (go_at_call 105; refine (FA.out).mono ?_; rintro e w' ⟨rfl, rfl⟩)
    go_ret
    rw [hr.out]
    exact ⟨_, rfl, World.ownsRow_nil _ _ _ _, (fun _ h => (List.not_mem_nil h).elim), Below.refl _ _⟩
  have HX : Hid (x ∈ nms D) := Classical.byContradiction fun g => hf (FN.2 g)
  clear FN
  go_enter Tryz.func140, Tryz.ntmps140
  go_wp2_with (go_at_call 105; refine (FA.out).mono ?_; rintro e w' ⟨rfl, rfl⟩)
  go_loopw [5, 6] (fun o v wr => ∃ (i tn : Nat) (t : List Str), i ≤ tn ∧ tn ≤ n ∧ v = .int .i64 i ∧ Hid (t.length = tn) ∧ Hid (Bfs (up D) (nms D) x i t) ∧ Hid (wr.ownsRow w.heap.size 9 1 o tn (svals t)) ∧ Below w.heap.size w wr) (fun _ v _ => n - (intOf v).toNat)
  case atStart =>
    have hb0 := bfs_start (f := up D) HX.out
    have := hb0.len
    rw [nms_len, HL.out] at this
    exact ⟨0, 1, [x], Nat.zero_le _, this, rfl, rfl, hb0, owns_one w x, (Below.refl _ _).alloc (Nat.le_refl _) _⟩
  case round =>
    obtain ⟨i, tn, t, hit, htn, rfl, HTL, HBF, hrow, hb⟩ := hrel
    have HTS := Lib.hid (HBF.out.small HS.out)
    obtain ⟨oa, oc, rfl, hio⟩ := IsStrs.of_owns hrow.out HTS.out
    have hocl := hio.capLe
    have hocm := hio.maxLe
    unfold maxLen at hocm
    have HIT := Lib.hid hio
    clear hio
    obtain ⟨wo, hwo⟩ : ∃ wo : World, wo = wr := ⟨_, rfl⟩
    subst hwo
    by_cases hlt0 : i < tn
    · obtain ⟨b0, off0, rfl, hbl0, hx0⟩ := HIT.out.at_ (by omega)
      have c0 := hx0 i hlt0
      have hy : st t i ∈ nms D := HBF.out.sub _ (st_mem (by rw [HTL.out]; exact hlt0))
      obtain ⟨k, hkD, hfk, huk⟩ := fi_up OK.out.nodup hy
      rw [HL.out] at hkD
      have FA2 := Lib.hid (find_any wo a n cap D (st t i) (H.out.below hb))
      obtain ⟨b, off, rfl, hbl, hx⟩ := H.out.at_ (by omega)
      obtain ⟨sa, sc', fa, fc, hd⟩ := hx k hkD
      have c1 := (hd.below hbl hb).c1
      have hs1 := hd.ss.capLe
      have hs2 := hd.ss.maxLe
      unfold maxLen at hs2
      have SS := Lib.hid hd.ss
      rw [hfk] at FA2
      have STEP := Lib.hid (HBF.out.step (fun x y hy => OK.out.up_mem hy) (st_get (by rw [HTL.out]; exact hlt0)))
      have UPS := Lib.hid (fun z (hz : z ∈ up D (st t i)) => OK.out.up_mem hz)
      obtain ⟨y, hyy⟩ : ∃ z, st t i = z := ⟨_, rfl⟩
      rw [hyy] at c0 huk FA2 STEP UPS
      rw [huk] at STEP UPS
      obtain ⟨l, hl⟩ : ∃ z, (dc D k).sup = z := ⟨_, rfl⟩
      rw [hl] at c1 hs1 SS STEP UPS
      obtain ⟨sl, hsl⟩ : ∃ z, l.length = z := ⟨_, rfl⟩
      rw [hsl] at c1 hs1 SS
      have HLL := Lib.hid hsl
      clear hx0 hy hfk huk hx hd hyy hl hsl
      go_wp2_with (go_at_call 105; refine (FA2.out).mono ?_; rintro e w' ⟨rfl, rfl⟩)
      go_loopw [5, 8] (fun o v wi => ∃ (j sn : Nat) (s : List Str), j ≤ sl ∧ v = .int .i64 j ∧ sn ≤ n ∧ Hid (s.length = sn) ∧ Hid (s = (l.take j).foldl add t) ∧ Hid (wi.ownsRow w.heap.size 9 1 o sn (svals s)) ∧ Below w.heap.size w wi) (fun _ v _ => sl - (intOf v).toNat)
      case atStart => exact ⟨0, tn, t, Nat.zero_le _, rfl, htn, HTL, rfl, hrow, hb⟩
      case round =>
        obtain ⟨j, sn, s, hj, rfl, hsn, HSL, HSE, hrow2, hb2⟩ := hrel
        obtain ⟨wi, hwi⟩ : ∃ wi : World, wi = wr := ⟨_, rfl⟩
        subst hwi
        by_cases hlt : j < sl
        · obtain ⟨b2, off2, rfl, hbl2, hx2⟩ := (SS.out.below hb2).at_ (by omega)
          have d0 := hx2 j hlt
          have hsub : ∀ z ∈ s, z ∈ nms D := fun z hz => by
            rw [HSE.out] at hz
            rcases (adds.1 z).1 hz with e | e
            · exact HBF.out.sub z e
            · exact UPS.out z (List.mem_of_mem_take e)
          have hsnd : s.Nodup := by rw [HSE.out]; exact adds.2.1 HBF.out.nodup
          have hsm : ∀ z ∈ s, z.length ≤ maxLen := fun z hz => HS.out z (hsub z hz)
          obtain ⟨oa2, oc2, rfl, hi2⟩ := IsStrs.of_owns hrow2.out hsm
          have AM := Lib.hid (Among_any wi oa2 sn oc2 s (st l j) hi2)
          have hin := UPS.out _ (st_mem (zs := l) (i := j) (by rw [HLL.out]; exact hlt))
          have hat := adds_take (l := l) (t := t) (j := j) (by rw [HLL.out]; exact hlt)
          rw [← HSE.out] at hat
          obtain ⟨z, hzz⟩ : ∃ z, st l j = z := ⟨_, rfl⟩
          rw [hzz] at d0 AM hin hat
          have HIN := Lib.hid hin
          have hi2c := hi2.capLe
          have hi2m := hi2.maxLe
          unfold maxLen at hi2m
          obtain ⟨q, hq⟩ : ∃ q, inS s z = q := ⟨_, rfl⟩
          rw [hq] at AM
          have HSUB := Lib.hid hsub
          have HSND := Lib.hid hsnd
          clear hx2 hzz hin hi2 hsub hsnd hsm
          cases q
          · have hadd := add_out hq
            rw [hadd] at hat
            have hlen : sn + 1 ≤ n := by
              have := nodup_len (a := s ++ [z]) (b := nms D) (by rw [← hadd]; exact add_nodup HSND.out) (fun u hu => by
                rcases List.mem_append.1 hu with e | e
                · exact HSUB.out u e
                · simp at e; rw [e]; exact HIN.out)
              rw [List.length_append, nms_len, HL.out, HSL.out] at this
              exact this
            have HAT : Hid (s ++ [z] = (l.take (j + 1)).foldl add t) := hat.symm
            have hzl := Lib.hid (HS.out z HIN.out)
            clear hq hadd hat
            go_wp2_with (first
              | (go_at_call 35; refine (AM.out).mono ?_; rintro e w' ⟨rfl, rfl⟩)
              | (at_builtin; refine wpList_append_strs rfl _ _ rfl w.heap.size _ sn s rfl (hrow2.out.alloc _) _ 1 1 [z] rfl (IsStrs.one wi z hzl.out) (by omega) (by have := hb2.size; simp; omega) ?_; intro v3 w3 hown3 hgrow3; have R3 := Lib.hid hown3; have B3 := Lib.hid (grown_below (hb2.alloc hb2.size _) (by have := hb2.size; simp; omega) (hrow2.out.alloc _) hgrow3); clear hown3 hgrow3))
            go_roundw
            case rel => exact ⟨j + 1, sn + 1, s ++ [z], by omega, by go_num, hlen, by show _ = _; rw [List.length_append, HSL.out]; rfl, HAT, R3.out, B3.out⟩
            case measure => simp [intOf]; omega
          · rw [add_in hq] at hat
            have HAT : Hid (s = (l.take (j + 1)).foldl add t) := hat.symm
            clear hq hat
            go_wp2_with (go_at_call 35; refine (AM.out).mono ?_; rintro e w' ⟨rfl, rfl⟩)
            go_roundw
            case rel => exact ⟨j + 1, sn, s, by omega, by go_num, hsn, HSL, HAT, hrow2.out, hb2⟩
            case measure => simp [intOf]; omega
        · obtain rfl : j = sl := by omega
          have hall : l.take j = l := List.take_of_length_le (by rw [HLL.out]; exact Nat.le_refl _)
          rw [hall] at HSE
          have HNB : Hid (Bfs (up D) (nms D) x (i + 1) s) := by show Bfs _ _ _ _ _; rw [HSE.out]; exact STEP.out
          have hle := HNB.out.le
          rw [HSL.out] at hle
          clear hall hlt hj
          go_wp2
          go_roundw
          case rel => exact ⟨i + 1, sn, s, hle, hsn, by go_num, HSL, HNB, hrow2.out, hb2⟩
          case measure => simp [intOf]; omega
    · obtain rfl : tn = i := by omega
      have HEND := Lib.hid (ab_end OK.out HX.out HBF.out (by rw [HTL.out]; exact Nat.le_refl _))
      clear hlt0 hit
      go_wp2
      go_loopw [9, 10] (fun o v w3 => ∃ k : Nat, k ≤ tn ∧ v = .int .i64 k ∧ Hid (w3.ownsRow w.heap.size 9 1 o (srt (t.take k)).length (svals (srt (t.take k)))) ∧ Below wo.heap.size wo w3) (fun _ v _ => tn - (intOf v).toNat)
      case atStart => exact ⟨0, Nat.zero_le _, rfl, World.ownsRow_nil _ _ _ _, Below.refl _ _⟩
      case round =>
        obtain ⟨k, hk, rfl, hrow3, hb3⟩ := hrel
        have hbw := hb.trans (hb3.mono hb.size)
        by_cases hlt : k < tn
        · obtain ⟨b, off, rfl, hbl, hx⟩ := (HIT.out.below hb3).at_ (by omega)
          have c0 := hx k hlt
          have hle := srt_len (t.take k)
          rw [List.length_take] at hle
          have hts := take_st (zs := t) (i := k) (by rw [HTL.out]; exact hlt)
          have PU := Lib.hid (Put_any wr w.heap.size _ _ _ (st t k) hrow3.out (small_srt (fun z hz => HTS.out z (List.mem_of_mem_take hz))) (HTS.out _ (st_mem (by rw [HTL.out]; exact hlt))) (by omega) hbw.size)
          rw [← srt_snoc, ← hts] at PU
          obtain ⟨z, hz⟩ : ∃ z, st t k = z := ⟨_, rfl⟩
          rw [hz] at c0 PU
          clear hx hz hts hle hrow3
          go_wp2_with (go_at_call 90; (with_reducible refine PU.out.mono ?_); rintro e w4 ⟨v4, rfl, hrow4, hb4⟩; have R4 := Lib.hid hrow4; clear hrow4)
          go_roundw
          case rel => exact ⟨k + 1, by omega, by go_num, R4.out, hb3.trans (hb4.mono hb3.size)⟩
          case measure => simp [intOf]; omega
        · obtain rfl : tn = k := by omega
          have hall : t.take tn = t := List.take_of_length_le (by rw [HTL.out]; exact Nat.le_refl _)
          rw [hall] at hrow3
          clear hall hlt hk
          go_wp2
          go_ret
          rw [HEND.out]
          exact ⟨_, rfl, hrow3.out, small_srt HTS.out, hbw⟩

set_option maxRecDepth 100000 in
set_option maxHeartbeats 3200000 in
theorem rBelow_any (w : World) (a : Option Addr) (n cap : Nat) (D : List Dec) (h : IsDecs w a n cap D) (hn : n ≤ 256) (x : Str) (hxl : x.length ≤ maxLen) :
    Calls Tryz.prog 91 #[.slice a n cap, .string (mk x)] w (RetL (bl D x) w) := by
  have hm := h.maxLe
  have hc := h.capLe
  unfold maxLen at hm
  have HL := Lib.hid h.len
  have HS := Lib.hid (nms_small h)
  have FA := Lib.hid (find_any w a n cap D x h)
  have FN := fi_neg D x
  have hfr := fi_range D x
  rw [HL.out] at hfr
  obtain ⟨fx, hfx⟩ : ∃ z, fi D x = z := ⟨_, rfl⟩
  rw [hfx] at FA FN hfr
  have H := Lib.hid h
  have HXL := Lib.hid hxl
  clear h hxl hfx
  by_cases hf : fx < 0
  · have hr : Hid (bl D x = []) := bl_none (FN.1 hf)
    clear FN
    go_enter Tryz.func91, Tryz.ntmps91
    go_wp2_with (go_at_call 105; refine (FA.out).mono ?_; rintro e w' ⟨rfl, rfl⟩)
    go_ret
    rw [hr.out]
    exact ⟨_, rfl, World.ownsRow_nil _ _ _ _, (fun _ h => (List.not_mem_nil h).elim), Below.refl _ _⟩
  have HX : Hid (x ∈ nms D) := Classical.byContradiction fun g => hf (FN.2 g)
  clear FN
  go_enter Tryz.func91, Tryz.ntmps91
  go_wp2_with (go_at_call 105; refine (FA.out).mono ?_; rintro e w' ⟨rfl, rfl⟩)
  go_loopw [5, 6] (fun o v wr => ∃ (i tn : Nat) (t : List Str), i ≤ tn ∧ tn ≤ n ∧ v = .int .i64 i ∧ Hid (t.length = tn) ∧ Hid (Bfs (dnR D) (nms D) x i t) ∧ Hid (wr.ownsRow w.heap.size 9 1 o tn (svals t)) ∧ Below w.heap.size w wr) (fun _ v _ => n - (intOf v).toNat)
  case atStart =>
    have hb0 := bfs_start (f := dnR D) HX.out
    have := hb0.len
    rw [nms_len, HL.out] at this
    exact ⟨0, 1, [x], Nat.zero_le _, this, rfl, rfl, hb0, owns_one w x, (Below.refl _ _).alloc (Nat.le_refl _) _⟩
  case round =>
    obtain ⟨i, tn, t, hit, htn, rfl, HTL, HBF, hrow, hb⟩ := hrel
    have HTS := Lib.hid (HBF.out.small HS.out)
    obtain ⟨oa, oc, rfl, hio⟩ := IsStrs.of_owns hrow.out HTS.out
    have hocl := hio.capLe
    have hocm := hio.maxLe
    unfold maxLen at hocm
    have HIT := Lib.hid hio
    clear hio
    obtain ⟨wo, hwo⟩ : ∃ wo : World, wo = wr := ⟨_, rfl⟩
    subst hwo
    by_cases hlt0 : i < tn
    · have hgy := st_get (zs := t) (i := i) (by rw [HTL.out]; exact hlt0)
      have STEP := Lib.hid (HBF.out.step dnR_sub hgy)
      obtain ⟨y, hyy⟩ : ∃ z, st t i = z := ⟨_, rfl⟩
      rw [hyy] at STEP hgy
      have HGY := Lib.hid hgy
      clear hgy hyy
      go_wp2
      go_loopw [5, 7] (fun o v wi => ∃ (j sn : Nat) (s : List Str), j ≤ n ∧ v = .int .i64 j ∧ sn ≤ n ∧ i < sn ∧ Hid (s.length = sn) ∧ Hid (s = (dnR (D.take j) y).foldl add t) ∧ Hid (wi.ownsRow w.heap.size 9 1 o sn (svals s)) ∧ Below w.heap.size w wi) (fun _ v _ => n - (intOf v).toNat)
      case atStart => exact ⟨0, tn, t, Nat.zero_le _, rfl, htn, hlt0, HTL, rfl, hrow, hb⟩
      case round =>
        obtain ⟨j, sn, s, hj, rfl, hsn, hisn, HSL, HSE, hrow2, hb2⟩ := hrel
        obtain ⟨wi, hwi⟩ : ∃ wi : World, wi = wr := ⟨_, rfl⟩
        subst hwi
        by_cases hlt : j < n
        · obtain ⟨b, off, rfl, hbl, hx⟩ := H.out.at_ (by omega)
          obtain ⟨sa, sc', fa, fc, hd⟩ := hx j hlt
          have hd2 := hd.below hbl hb2
          have c0 := hd2.c0
          have c1 := hd2.c1
          have hs1 := hd2.ss.capLe
          have hs2 := hd2.ss.maxLe
          unfold maxLen at hs2
          have hsub : ∀ z ∈ s, z ∈ nms D := fun z hz => by
            rw [HSE.out] at hz
            rcases (adds.1 z).1 hz with e | e
            · exact HBF.out.sub z e
            · obtain ⟨d, hd, e2⟩ := List.mem_map.1 e
              exact List.mem_map.2 ⟨d, List.mem_of_mem_take (List.mem_filter.1 hd).1, e2⟩
          have hsnd : s.Nodup := by rw [HSE.out]; exact adds.2.1 HBF.out.nodup
          have hsm : ∀ z ∈ s, z.length ≤ maxLen := fun z hz => HS.out z (hsub z hz)
          obtain ⟨oa2, oc2, rfl, hi2⟩ := IsStrs.of_owns hrow2.out hsm
          obtain ⟨b3, off3, rfl, hbl3, hx3⟩ := hi2.at_ (by omega)
          have hsy : s[i]? = some y := by
            have hpre := (adds (l := dnR (D.take j) y) (t := t)).2.2
            rw [← HSE.out] at hpre
            obtain ⟨u, hu⟩ := hpre
            rw [← hu, List.getElem?_append_left (by rw [HTL.out]; exact hlt0)]
            exact HGY.out
          have hsty : st s i = y := by
            have := st_get (zs := s) (i := i) (by rw [HSL.out]; exact hisn)
            rw [hsy] at this
            exact (Option.some.inj this).symm
          have d0 := hx3 i hisn
          rw [hsty] at d0
          have AM1 := Lib.hid (show ∀ m, Calls Tryz.prog 35 #[.slice sa (dc D j).sup.length sc', .string (mk y)] (wi.drewN m) fun e w' => e = .returned (.bool (inS (dc D j).sup y)) ∧ w' = wi.drewN m from fun m =>
            (Among_any (wi.drewN m) _ _ sc' _ y (hd2.ss.below (below_drewN2 (Below.refl _ _) m))).mono fun _ _ h => ⟨h.1, h.2.symm⟩)
          have AM2 := Lib.hid (show ∀ m, Calls Tryz.prog 35 #[.slice (some ⟨b3, off3, none⟩) sn oc2, .string (mk (dc D j).name)] (wi.drewN m) fun e w' => e = .returned (.bool (inS s (dc D j).name)) ∧ w' = wi.drewN m from fun m =>
            (Among_any (wi.drewN m) _ _ oc2 s _ (hi2.below (below_drewN2 (Below.refl _ _) m))).mono fun _ _ h => ⟨h.1, h.2.symm⟩)
          have hin : (dc D j).name ∈ nms D := List.mem_map.2 ⟨_, dc_mem (by rw [HL.out]; exact hlt), rfl⟩
          have hat := dnR_take (D := D) (x := y) (t := t) (j := j) (by rw [HL.out]; exact hlt)
          rw [← HSE.out] at hat
          obtain ⟨z, hzz⟩ : ∃ z, (dc D j).name = z := ⟨_, rfl⟩
          obtain ⟨l, hll⟩ : ∃ z, (dc D j).sup = z := ⟨_, rfl⟩
          rw [hzz] at c0 AM2 hin hat
          rw [hll] at c1 AM1 hat hs1
          obtain ⟨sl, hsl⟩ : ∃ z, l.length = z := ⟨_, rfl⟩
          rw [hsl] at c1 AM1 hs1
          have HIN := Lib.hid hin
          have hi2c := hi2.capLe
          have hi2m := hi2.maxLe
          unfold maxLen at hi2m
          obtain ⟨p, hp⟩ : ∃ q, inS l y = q := ⟨_, rfl⟩
          obtain ⟨q, hq⟩ : ∃ q, inS s z = q := ⟨_, rfl⟩
          rw [hp] at AM1 hat
          rw [hq] at AM2
          have HSUB := Lib.hid hsub
          have HSND := Lib.hid hsnd
          clear hx hd hd2 hx3 hzz hll hsl hin hi2 hsub hsnd hsm hsy hsty hp
          cases p
          · have HAT : Hid (s = (dnR (D.take (j + 1)) y).foldl add t) := by show _ = _; rw [hat]; rfl
            clear hq hat
            go_wp2
            go_quiet ((go_at_call 35; exact Calls.quiet_of_same (AM1.out _)))
            go_wp2
            go_roundw
            case rel => exact ⟨j + 1, sn, s, by omega, by go_num, hsn, hisn, HSL, HAT, hrow2.out, below_drewN2 hb2 _⟩
            case measure => simp [intOf]; omega
          · cases q
            · have hadd := add_out hq
              have HAT : Hid (s ++ [z] = (dnR (D.take (j + 1)) y).foldl add t) := by show _ = _; rw [hat, ← hadd]; rfl
              have hlen : sn + 1 ≤ n := by
                have := nodup_len (a := s ++ [z]) (b := nms D) (by rw [← hadd]; exact add_nodup HSND.out) (fun u hu => by
                  rcases List.mem_append.1 hu with e | e
                  · exact HSUB.out u e
                  · simp at e; rw [e]; exact HIN.out)
                rw [List.length_append, nms_len, HL.out, HSL.out] at this
                exact this
              have hzl := Lib.hid (HS.out z HIN.out)
              clear hq hadd hat
              go_wp2
              go_quiet ((first | (go_at_call 35; with_reducible exact Calls.quiet_of_same (AM1.out _)) | (go_at_call 35; with_reducible exact Calls.quiet_of_same (AM2.out _))))
              go_wp2_with (at_builtin; refine wpList_append_strs rfl _ _ rfl w.heap.size _ sn s rfl (owns_draw hrow2.out _) _ 1 1 [z] rfl (IsStrs.one _ z hzl.out) (by omega) (by have := hb2.size; simp; omega) ?_; intro v3 w3 hown3 hgrow3; have R3 := Lib.hid hown3; have B3 := Lib.hid (grown_below (below_draw hb2 hb2.size _) (by have := hb2.size; simp; omega) (owns_draw hrow2.out _) hgrow3); clear hown3 hgrow3)
              go_roundw
              case rel => exact ⟨j + 1, sn + 1, s ++ [z], by omega, by go_num, hlen, by omega, by show _ = _; rw [List.length_append, HSL.out]; rfl, HAT, R3.out, B3.out⟩
              case measure => simp [intOf]; omega
            · have HAT : Hid (s = (dnR (D.take (j + 1)) y).foldl add t) := by show _ = _; rw [hat]; exact (add_in hq).symm
              clear hq hat
              go_wp2
              go_quiet ((first | (go_at_call 35; with_reducible exact Calls.quiet_of_same (AM1.out _)) | (go_at_call 35; with_reducible exact Calls.quiet_of_same (AM2.out _))))
              go_wp2
              go_roundw
              case rel => exact ⟨j + 1, sn, s, by omega, by go_num, hsn, hisn, HSL, HAT, hrow2.out, below_drewN2 hb2 _⟩
              case measure => simp [intOf]; omega
        · obtain rfl : n = j := by omega
          have hall : D.take n = D := List.take_of_length_le (by rw [HL.out]; exact Nat.le_refl _)
          rw [hall] at HSE
          have HNB : Hid (Bfs (dnR D) (nms D) x (i + 1) s) := by show Bfs _ _ _ _ _; rw [HSE.out]; exact STEP.out
          have hle := HNB.out.le
          rw [HSL.out] at hle
          clear hall hlt hj
          go_wp2
          go_roundw
          case rel => exact ⟨i + 1, sn, s, hle, hsn, by go_num, HSL, HNB, hrow2.out, hb2⟩
          case measure => simp [intOf]; omega
    · obtain rfl : tn = i := by omega
      have HEND := Lib.hid (bl_end HX.out HBF.out (by rw [HTL.out]; exact Nat.le_refl _))
      clear hlt0 hit
      go_wp2
      go_loopw [8, 9] (fun o v w3 => ∃ k : Nat, k ≤ tn ∧ v = .int .i64 k ∧ Hid (w3.ownsRow w.heap.size 9 1 o (srt (t.take k)).length (svals (srt (t.take k)))) ∧ Below wo.heap.size wo w3) (fun _ v _ => tn - (intOf v).toNat)
      case atStart => exact ⟨0, Nat.zero_le _, rfl, World.ownsRow_nil _ _ _ _, Below.refl _ _⟩
      case round =>
        obtain ⟨k, hk, rfl, hrow3, hb3⟩ := hrel
        have hbw := hb.trans (hb3.mono hb.size)
        by_cases hlt : k < tn
        · obtain ⟨b, off, rfl, hbl, hx⟩ := (HIT.out.below hb3).at_ (by omega)
          have c0 := hx k hlt
          have hle := srt_len (t.take k)
          rw [List.length_take] at hle
          have hts := take_st (zs := t) (i := k) (by rw [HTL.out]; exact hlt)
          have PU := Lib.hid (Put_any wr w.heap.size _ _ _ (st t k) hrow3.out (small_srt (fun z hz => HTS.out z (List.mem_of_mem_take hz))) (HTS.out _ (st_mem (by rw [HTL.out]; exact hlt))) (by omega) hbw.size)
          rw [← srt_snoc, ← hts] at PU
          obtain ⟨z, hz⟩ : ∃ z, st t k = z := ⟨_, rfl⟩
          rw [hz] at c0 PU
          clear hx hz hts hle hrow3
          go_wp2_with (go_at_call 90; (with_reducible refine PU.out.mono ?_); rintro e w4 ⟨v4, rfl, hrow4, hb4⟩; have R4 := Lib.hid hrow4; clear hrow4)
          go_roundw
          case rel => exact ⟨k + 1, by omega, by go_num, R4.out, hb3.trans (hb4.mono hb3.size)⟩
          case measure => simp [intOf]; omega
        · obtain rfl : tn = k := by omega
          have hall : t.take tn = t := List.take_of_length_le (by rw [HTL.out]; exact Nat.le_refl _)
          rw [hall] at hrow3
          clear hall hlt hk
          go_wp2
          go_ret
          rw [HEND.out]
          exact ⟨_, rfl, hrow3.out, small_srt HTS.out, hbw⟩
end Go.Proofs.YtdeamdpoegdmdaaGreatDoor
