/- text.Name, as the program has it. -/
import Derived.Test.YtmhbblehgckelaaProg
import Derived.Test.YtmhbblehgckelaaTp
import Derived.WalkKit
import Derived.Deep.QuietTactic
import Derived.BigQuiet
import Derived.Lib.IndexBytes
import Derived.WalkSmall
namespace Go.Proofs.Ytmhbblehgckelaa
open Go.RowKit

def kLow (c : Nat) : Bool := decide (97 ≤ c) && decide (c ≤ 122)
def kUp (c : Nat) : Bool := decide (65 ≤ c) && decide (c ≤ 90)
def kDig (c : Nat) : Bool := decide (48 ≤ c) && decide (c ≤ 57)
def kPri (c : Nat) : Bool := decide (32 ≤ c) && decide (c ≤ 126)
def kSpc (c : Nat) : Bool := c == 32 || c == 9 || c == 13 || c == 10
def kWrd (c : Nat) : Bool := kPri c && c != 32 && !kUp c && c != 34 && c != 92
def kStr (c : Nat) : Bool := kPri c && c != 34
def kCom (c : Nat) : Bool := c != 10

/-- The function f tells of every character whether it is of the kind. -/
def Tells (f : FuncId) (K : Nat → Bool) : Prop := ∀ (c : Nat) (w : World), c ≤ 2147483647 → Calls Try.prog f #[.int .i32 c] w fun e w' => e = .returned (.bool (K c)) ∧ w = w'

theorem le_cast1 (a b : Nat) : decide (((a : Nat) : Int) ≤ ((b : Nat) : Int)) = decide (a ≤ b) := by
  rw [decide_eq_decide]; omega
theorem isLower_tells : Tells 52 kLow := by
  intro c w _
  unfold kLow
  have e1 : decide ((97 : Int) ≤ ((c : Nat) : Int)) = decide (97 ≤ c) := le_cast1 97 c
  have e2 : decide (((c : Nat) : Int) ≤ 122) = decide (c ≤ 122) := le_cast1 c 122
  cases h1 : decide (97 ≤ c) <;> cases h2 : decide (c ≤ 122)
  all_goals
    rw [h1] at e1
    rw [h2] at e2
    clear h1 h2
    go_enter Try.func52, Try.ntmps52
    go_wp2
    go_ret
    exact ⟨rfl, rfl⟩
theorem isDigit_tells : Tells 74 kDig := by
  intro c w _
  unfold kDig
  have e1 : decide ((48 : Int) ≤ ((c : Nat) : Int)) = decide (48 ≤ c) := le_cast1 48 c
  have e2 : decide (((c : Nat) : Int) ≤ 57) = decide (c ≤ 57) := le_cast1 c 57
  cases h1 : decide (48 ≤ c) <;> cases h2 : decide (c ≤ 57)
  all_goals
    rw [h1] at e1
    rw [h2] at e2
    clear h1 h2
    go_enter Try.func74, Try.ntmps74
    go_wp2
    go_ret
    exact ⟨rfl, rfl⟩
theorem eq_cast (c k : Nat) : (((c : Nat) : Int) == ((k : Nat) : Int)) = (c == k) := by
  rw [Bool.eq_iff_iff]; simp; omega
theorem ne_cast (c k : Nat) : (((c : Nat) : Int) != ((k : Nat) : Int)) = (c != k) := by
  rw [Bool.eq_iff_iff]; simp; omega

theorem tells_val {f : FuncId} {K : Nat → Bool} (h : Tells f K) (b : Bool) (c : Nat) (w : World) (hc : c ≤ 2147483647) (hb : K c = b) : Calls Try.prog f #[.int .i32 c] w fun e w' => e = .returned (.bool b) ∧ w = w' := hb ▸ h c w hc

/-- The function f has a body in this program. -/
def Enters (f : FuncId) : Prop := ∀ (args : Array Value) (w : World), (callFunc f args).run Try.prog w = .ok (.enter f args) w
theorem isLower_enters : Enters 52 := fun _ _ => by kernel_rfl
theorem isDigit_enters : Enters 74 := fun _ _ => by kernel_rfl
set_option maxRecDepth 100000 in
theorem prefix_any (f : FuncId) (K : Nat → Bool) (p : UInt8 → Bool) (hi : Bool) (hf : Tells f K) (he : Enters f) (hk : Kind K p hi) (s : ByteArray) (w : World) (hs : s.size ≤ maxLen) :
    Calls Try.prog 72 #[.string s, .func (.func f) #[] #[]] w fun e w' => e = .returned (.int .i64 ((pre p s.data.toList : Nat) : Int)) ∧ Below w.heap.size w w' := by
  have HF := Lib.hid hf
  have HK := Lib.hid hk
  unfold maxLen at hs
  clear hf hk
  unfold Enters at he
  go_enter Try.func72, Try.ntmps72
  go_wp2
  go_loopw [4] (fun n wr => ∃ pos, wr = w.iter s pos ∧ Hid (Upto p s pos)) (fun _ wr => s.size - wr.iterPos w.heap.size)
  case atStart => exact ⟨0, rfl, Nat.zero_le _, fun j hj => absurd hj (Nat.not_lt_zero _)⟩
  case round =>
    obtain ⟨pos, rfl, hu⟩ := hrel
    by_cases hp : pos < s.size
    · have hnx : ∀ ty, (Instr.next (.pointer (some ⟨w.heap.size, 0, none⟩)) true ty).run Try.prog (w.iter s pos) = _ := fun ty => run_next_any w s pos ty hp
      have hd := decode_le s pos
      have hwd := width_pos s pos hp
      have hnext := Lib.hid (HK.out.next hu.out hp)
      have hhalt := Lib.hid (HK.out.halt hu.out hp)
      obtain ⟨c, hc⟩ : ∃ c, (Utf8.decode s pos).1 = c := ⟨_, rfl⟩
      obtain ⟨wd, hw⟩ : ∃ c, (Utf8.decode s pos).2 = c := ⟨_, rfl⟩
      rw [hc, hw] at hnx
      rw [hc] at hd
      rw [hw] at hwd
      rw [hc, hw] at hnext
      rw [hc] at hhalt
      clear hc hw
      cases hkc : K c
      · have HC := Lib.hid hkc
        have hpre := Lib.hid (hhalt.out hkc)
        clear hkc hnext hhalt
        go_wp2_with fail
        refine (tells_val HF.out false c _ hd HC.out).mono ?_
        rintro e w' ⟨rfl, rfl⟩
        go_wp2
        go_ret
        exact ⟨by rw [hpre.out]; rfl, (Below.refl _ _).alloc (Nat.le_refl _) _⟩
      · have HC := Lib.hid hkc
        have hup := Lib.hid (hnext.out hkc)
        clear hkc hnext hhalt
        go_wp2_with fail
        refine (tells_val HF.out true c _ hd HC.out).mono ?_
        rintro e w' ⟨rfl, rfl⟩
        go_wp2
        go_roundw
        case rel => exact ⟨pos + wd, rfl, hup⟩
        case measure => simp; omega
    · have hnx : ∀ ty, (Instr.next (.pointer (some ⟨w.heap.size, 0, none⟩)) true ty).run Try.prog (w.iter s pos) = _ := fun ty => run_next_end w s pos ty hp
      have hpre := Lib.hid (hu.out.end hp)
      go_wp2
      go_ret
      exact ⟨by rw [hpre.out]; rfl, (Below.refl _ _).alloc (Nat.le_refl _) _⟩
theorem clo_enters (args : Array Value) (w : World) : (callFunc 73 args).run Try.prog w = .ok (.enter 73 args) w := by kernel_rfl

/-- A letter, a digit or a hyphen. -/
def kPart (K : Nat → Bool) (c : Nat) : Bool := K c || kDig c || c == 45

set_option maxHeartbeats 1600000 in
theorem clo_any (f : FuncId) (K : Nat → Bool) (hf : Tells f K) (he : Enters f) (a : Addr) (c : Nat) (w : World) (hc : c ≤ 2147483647) (ha : w.cell? a = some (.func (.func f) #[] #[])) :
    Calls Try.prog 73 #[.int .i32 c, .pointer (some a)] w fun e w' => e = .returned (.bool (kPart K c)) ∧ w = w' := by
  unfold kPart
  have HF := Lib.hid hf
  unfold Enters at he
  clear hf
  have e1 : (((c : Nat) : Int) == 45) = (c == 45) := eq_cast c 45
  cases h1 : (c == 45) <;> cases h2 : K c <;> cases h3 : kDig c
  all_goals
    rw [h1] at e1
    have H2 := Lib.hid h2
    have H3 := Lib.hid h3
    clear h1 h2 h3
    go_enter Try.func73, Try.ntmps73
    go_wp2_with fail
    refine (tells_val HF.out _ _ _ hc H2.out).mono ?_
    rintro e w' ⟨rfl, rfl⟩
    go_wp2_with (go_at_call 74; refine (tells_val isDigit_tells _ _ _ hc H3.out).mono ?_; rintro e w' ⟨rfl, rfl⟩)
    go_ret
    exact ⟨rfl, rfl⟩
theorem clo_val (b : Bool) (f : FuncId) (K : Nat → Bool) (hf : Tells f K) (he : Enters f) (a : Addr) (c : Nat) (w : World) (hc : c ≤ 2147483647) (ha : w.cell? a = some (.func (.func f) #[] #[])) (hb : kPart K c = b) :
    Calls Try.prog 73 #[.int .i32 c, .pointer (some a)] w fun e w' => e = .returned (.bool b) ∧ w = w' := hb ▸ clo_any f K hf he a c w hc ha

set_option maxRecDepth 100000 in
theorem prefix_clo (f : FuncId) (K : Nat → Bool) (p : UInt8 → Bool) (hf : Tells f K) (he : Enters f) (hk : Kind (kPart K) p false) (s : ByteArray) (ab : Nat) (w : World) (hs : s.size ≤ maxLen) (hab : ab < w.heap.size) (ha : w.cell? ⟨ab, 0, none⟩ = some (.func (.func f) #[] #[])) :
    Calls Try.prog 72 #[.string s, .func (.func 73) #[] #[.pointer (some ⟨ab, 0, none⟩)]] w fun e w' => e = .returned (.int .i64 ((pre p s.data.toList : Nat) : Int)) ∧ Below w.heap.size w w' := by
  have HF := Lib.hid hf
  have HK := Lib.hid hk
  have HE := Lib.hid he
  have HA := Lib.hid ha
  unfold maxLen at hs
  clear hf hk he ha
  have hce := clo_enters
  go_enter Try.func72, Try.ntmps72
  go_wp2
  go_loopw [4] (fun n wr => ∃ pos, wr = w.iter s pos ∧ Hid (Upto p s pos)) (fun _ wr => s.size - wr.iterPos w.heap.size)
  case atStart => exact ⟨0, rfl, Nat.zero_le _, fun j hj => absurd hj (Nat.not_lt_zero _)⟩
  case round =>
    obtain ⟨pos, rfl, hu⟩ := hrel
    by_cases hp : pos < s.size
    · have hnx : ∀ ty, (Instr.next (.pointer (some ⟨w.heap.size, 0, none⟩)) true ty).run Try.prog (w.iter s pos) = _ := fun ty => run_next_any w s pos ty hp
      have hd := decode_le s pos
      have hwd := width_pos s pos hp
      have hnext := Lib.hid (HK.out.next hu.out hp)
      have hhalt := Lib.hid (HK.out.halt hu.out hp)
      obtain ⟨c, hc⟩ : ∃ c, (Utf8.decode s pos).1 = c := ⟨_, rfl⟩
      obtain ⟨wd, hw⟩ : ∃ c, (Utf8.decode s pos).2 = c := ⟨_, rfl⟩
      rw [hc, hw] at hnx
      rw [hc] at hd
      rw [hw] at hwd
      rw [hc, hw] at hnext
      rw [hc] at hhalt
      clear hc hw
      have HA2 : Hid ((w.iter s (pos + wd)).cell? ⟨ab, 0, none⟩ = some (.func (.func f) #[] #[])) := ((Below.refl w.heap.size w).alloc (Nat.le_refl _) _).cell (p := ⟨ab, 0, none⟩) hab ▸ HA.out
      cases hkc : kPart K c
      · have HC := Lib.hid hkc
        have hpre := Lib.hid (hhalt.out hkc)
        clear hkc hnext hhalt
        go_wp2_with fail
        refine (clo_val false f K HF.out HE.out _ c _ hd HA2.out HC.out).mono ?_
        rintro e w' ⟨rfl, rfl⟩
        go_wp2
        go_ret
        exact ⟨by rw [hpre.out]; rfl, (Below.refl _ _).alloc (Nat.le_refl _) _⟩
      · have HC := Lib.hid hkc
        have hup := Lib.hid (hnext.out hkc)
        clear hkc hnext hhalt
        go_wp2_with fail
        refine (clo_val true f K HF.out HE.out _ c _ hd HA2.out HC.out).mono ?_
        rintro e w' ⟨rfl, rfl⟩
        go_wp2
        go_roundw
        case rel => exact ⟨pos + wd, rfl, hup⟩
        case measure => simp; omega
    · have hnx : ∀ ty, (Instr.next (.pointer (some ⟨w.heap.size, 0, none⟩)) true ty).run Try.prog (w.iter s pos) = _ := fun ty => run_next_end w s pos ty hp
      have hpre := Lib.hid (hu.out.end hp)
      go_wp2
      go_ret
      exact ⟨by rw [hpre.out]; rfl, (Below.refl _ _).alloc (Nat.le_refl _) _⟩

/-- The length of the longest name at the beginning: the first byte a letter, the others letters, digits, hyphens. -/
def nameLen (p q : UInt8 → Bool) (l : List UInt8) : Nat :=
  match l with
  | [] => 0
  | b :: _ => if p b then pre q l else 0

set_option maxRecDepth 100000 in
theorem nameLength_any (f : FuncId) (K : Nat → Bool) (p q : UInt8 → Bool) (hf : Tells f K) (he : Enters f) (hp : ∀ b : UInt8, K b.toNat = p b) (hk : Kind (kPart K) q false) (s : ByteArray) (w : World) (hs : s.size ≤ maxLen) :
    Calls Try.prog 58 #[.string s, .func (.func f) #[] #[]] w fun e w' => e = .returned (.int .i64 ((nameLen p q s.data.toList : Nat) : Int)) ∧ Below w.heap.size w w' := by
  have HF := Lib.hid hf
  have HE := Lib.hid he
  unfold Enters at he
  by_cases h0 : s.size = 0
  · obtain rfl : s = ByteArray.empty := by
      obtain ⟨⟨l⟩⟩ := s
      simp [ByteArray.size] at h0
      subst h0
      rfl
    go_enter Try.func58, Try.ntmps58
    go_wp2
    go_quiet (fail)
    go_wp2
    go_ret
    exact ⟨rfl, below_drewN ((Below.refl _ _).alloc (Nat.le_refl _) _) _⟩
  · obtain ⟨b, l, hl⟩ : ∃ b l, s.data.toList = b :: l := by
      cases hc : s.data.toList with
      | nil => exact absurd (by have := congrArg List.length hc; simpa using this) h0
      | cons b l => exact ⟨b, l, rfl⟩
    have hb0 : s[0]'(by omega) = b := by
      have := byte_at s 0 (by omega)
      rw [hl] at this
      exact (Option.some.inj this).symm
    have hne : s.toList.isEmpty = false := by rw [Lib.toList_data, hl]; rfl
    have hsz : 0 < s.size := by omega
    obtain ⟨n, hn⟩ : ∃ n, b.toNat = n := ⟨_, rfl⟩
    have hn8 : n < 256 := by rw [← hn]; exact b.toNat_lt
    have hwr : IntKind.i32.wrap (n : Int) = (n : Int) := IntWalk.i32_in _ (by omega)
    have hi8 : Hid (((s[0]'hsz).toNat : Nat) = n) := by show _ = _; rw [hb0, hn]
    have hb1 : ((s[0]'hsz).toNat : Int) = (n : Int) := by rw [hi8.out]
    cases hpb : p b
    · have hcall : Hid (∀ W, Calls Try.prog f #[.int .i32 (n : Int)] W fun e w' => e = .returned (.bool false) ∧ w' = W) :=
        fun W => (tells_val HF.out false n W (by omega) (by rw [← hn, hp, hpb])).mono fun _ _ h => ⟨h.1, h.2.symm⟩
      have hres : Hid (nameLen p q s.data.toList = 0) := by show _ = _; rw [hl]; simp [nameLen, hpb]
      clear hpb hn hl hb0 hi8 hf hk hp
      go_enter Try.func58, Try.ntmps58
      go_wp2
      go_quiet ((exact Calls.quiet_of_same (hcall.out _)))
      go_wp2
      go_ret
      exact ⟨by rw [hres.out]; rfl, below_drewN ((Below.refl _ _).alloc (Nat.le_refl _) _) _⟩
    · have hcall : Hid (∀ W, Calls Try.prog f #[.int .i32 (n : Int)] W fun e w' => e = .returned (.bool true) ∧ w' = W) :=
        fun W => (tells_val HF.out true n W (by omega) (by rw [← hn, hp, hpb])).mono fun _ _ h => ⟨h.1, h.2.symm⟩
      have hres : Hid (nameLen p q s.data.toList = pre q s.data.toList) := by show _ = _; rw [hl]; simp [nameLen, hpb]
      have HK := Lib.hid hk
      clear hpb hn hl hb0 hi8 hf hk hp
      go_enter Try.func58, Try.ntmps58
      go_wp2
      go_quiet ((exact Calls.quiet_of_same (hcall.out _)))
      go_wp2_with fail
      refine (prefix_clo f _ q HF.out HE.out HK.out s w.heap.size _ hs (by simp) ?_).mono ?_
      · exact cell_of_one (heap_alloc_new w _)
      · rintro e w' ⟨rfl, hb⟩
        go_wp2
        go_ret
        exact ⟨by rw [hres.out]; rfl, (below_drewN ((Below.refl _ _).alloc (Nat.le_refl _) _) _).trans (hb.mono (by simp))⟩
/-- A kind of bytes. -/
def by8 (K : Nat → Bool) (b : UInt8) : Bool := K b.toNat
theorem kind_low {K : Nat → Bool} (h : ∀ c, 128 ≤ c → K c = false) : Kind K (by8 K) false := ⟨fun _ _ => rfl, h, fun b hb => h _ hb⟩
theorem kLow_hi (c : Nat) (h : 128 ≤ c) : kLow c = false := by simp [kLow]; omega
theorem kUp_hi (c : Nat) (h : 128 ≤ c) : kUp c = false := by simp [kUp]; omega
theorem kDig_hi (c : Nat) (h : 128 ≤ c) : kDig c = false := by simp [kDig]; omega
theorem kPri_hi (c : Nat) (h : 128 ≤ c) : kPri c = false := by simp [kPri]; omega
theorem kPart_hi {K : Nat → Bool} (hK : ∀ c, 128 ≤ c → K c = false) (c : Nat) (h : 128 ≤ c) : kPart K c = false := by
  simp [kPart, hK c h, kDig_hi c h]; omega
theorem kSpc_hi (c : Nat) (h : 128 ≤ c) : kSpc c = false := by simp [kSpc]; omega
theorem kWrd_hi (c : Nat) (h : 128 ≤ c) : kWrd c = false := by simp [kWrd, kPri_hi c h]
theorem kStr_hi (c : Nat) (h : 128 ≤ c) : kStr c = false := by simp [kStr, kPri_hi c h]

/-- Whether a string is a name whose first byte is a letter of this kind. -/
def isNam (K : Nat → Bool) (l : List UInt8) : Bool :=
  decide (0 < nameLen (by8 K) (by8 (kPart K)) l) && (nameLen (by8 K) (by8 (kPart K)) l == l.length) && decide (l.length ≤ 32)

theorem nameLen_le (p q : UInt8 → Bool) (l : List UInt8) : nameLen p q l ≤ l.length := by
  cases l with
  | nil => exact Nat.le_refl _
  | cons b l => simp only [nameLen]; split; exact pre_le _ _; exact Nat.zero_le _

theorem named_any (f : FuncId) (K : Nat → Bool) (hf : Tells f K) (he : Enters f) (hhi : ∀ c, 128 ≤ c → K c = false) (s : ByteArray) (w : World) (hs : s.size ≤ maxLen) :
    Calls Try.prog 51 #[.string s, .func (.func f) #[] #[]] w fun e w' => e = .returned (.bool (isNam K s.data.toList)) ∧ Below w.heap.size w w' := by
  have HF := Lib.hid hf
  have HE := Lib.hid he
  have HH := Lib.hid hhi
  have hl := nameLen_le (by8 K) (by8 (kPart K)) s.data.toList
  have hsz : s.data.toList.length = s.size := by simp
  rw [hsz] at hl
  obtain ⟨n, hn⟩ : ∃ n, nameLen (by8 K) (by8 (kPart K)) s.data.toList = n := ⟨_, rfl⟩
  have hres : Hid (isNam K s.data.toList = (decide (0 < n) && (n == s.size) && decide (s.size ≤ 32))) := by show _ = _; unfold isNam; rw [hn, hsz]
  rw [hn] at hl
  have HS := Lib.hid hs
  have HN := Lib.hid hn
  have e1 : (((n : Nat) : Int) == ((s.size : Nat) : Int)) = (n == s.size) := eq_cast n s.size
  have e2 : decide ((0 : Int) < ((n : Nat) : Int)) = decide (0 < n) := by rw [decide_eq_decide]; omega
  have e3 : decide (((n : Nat) : Int) ≤ 32) = decide (n ≤ 32) := le_cast1 n 32
  unfold maxLen at hs
  clear hf he hhi hsz hn
  cases h1 : (n == s.size) <;> cases h2 : decide (0 < n) <;> cases h3 : decide (n ≤ 32)
  all_goals
    rw [h1] at e1
    rw [h2] at e2
    rw [h3] at e3
    have hres' : Hid (isNam K s.data.toList = (decide (0 < n) && (n == s.size) && decide (n ≤ 32))) := by
      show _ = _
      rw [hres.out]
      by_cases h : n = s.size
      · rw [h]
      · have : (n == s.size) = false := by simpa using h
        rw [this]; simp
    have H1 := Lib.hid h1
    have H2 := Lib.hid h2
    have H3 := Lib.hid h3
    clear h1 h3 hres
    go_enter Try.func51, Try.ntmps51
    go_wp2_with fail
    refine (nameLength_any f K (by8 K) (by8 (kPart K)) HF.out HE.out (fun _ => rfl) (kind_low (kPart_hi HH.out)) s w HS.out).mono ?_
    rw [HN.out]
    rintro e w' ⟨rfl, hb⟩
    go_wp2
    go_ret
    exact ⟨by rw [hres'.out, H1.out, H2.out, H3.out]; rfl, hb⟩
theorem Name_any (s : ByteArray) (w : World) (hs : s.size ≤ maxLen) :
    Calls Try.prog 40 #[.string s] w fun e w' => e = .returned (.bool (isNam kLow s.data.toList)) ∧ Below w.heap.size w w' := by
  have HS := Lib.hid hs
  clear hs
  go_enter Try.func40, Try.ntmps40
  go_wp2_with fail
  refine (named_any _ kLow isLower_tells isLower_enters kLow_hi s w HS.out).mono ?_
  rintro e w' ⟨rfl, hb⟩
  go_wp2
  go_ret
  exact ⟨rfl, hb⟩
end Go.Proofs.Ytmhbblehgckelaa
