/- Walks over package bits: Subset, Equal, Count, Has. -/
import Derived.Test.YtlphlbhbhcpnpaaDoorBa
import Derived.Test.YtlphlbhbhcpnpaaDoorPop
namespace Go.Proofs.YtlphlbhbhcpnpaaDoor
open Go.RowKit

/-- Whether the first n words of xs have no bit that ys lacks. -/
def subB (n : Nat) (xs ys : List Nat) : Bool := (List.range n).all fun i => nat_not (wd xs i) (wd ys i) == 0
theorem subB_true {n : Nat} {xs ys : List Nat} (h : ∀ i, i < n → nat_not (wd xs i) (wd ys i) = 0) : subB n xs ys = true := by
  simp only [subB, List.all_eq_true, List.mem_range, beq_iff_eq]; exact h
theorem subB_false {n : Nat} {xs ys : List Nat} (k : Nat) (hk : k < n) (h : nat_not (wd xs k) (wd ys k) ≠ 0) : subB n xs ys = false := by
  rw [← Bool.not_eq_true]
  simp only [subB, List.all_eq_true, List.mem_range, beq_iff_eq]
  exact fun hh => h (hh k hk)

theorem Subset_any (w : World) (a1 a2 : Option Addr) (n1 n2 cap1 cap2 : Nat) (xs ys : List Nat) (h1 : Is64 w a1 n1 cap1 xs) (h2 : Is64 w a2 n2 cap2 ys) :
    Calls Tryd.prog 48 #[.slice a1 n1 cap1, .slice a2 n2 cap2] w fun e w' => e = .returned (.bool (subB n1 xs ys)) ∧ w = w' := by
  have hc1 := h1.capLe
  have hc2 := h2.capLe
  have hm1 := h1.maxLe
  have hm2 := h2.maxLe
  unfold maxLen at hm1 hm2
  have H1 := Lib.hid h1
  have H2 := Lib.hid h2
  clear h1 h2
  go_enter Tryd.func48, Tryd.ntmps48
  go_wp2
  go_loop [9] (fun v => ∃ k : Nat, k ≤ n1 ∧ v = .int .i64 k ∧ Hid (∀ i, i < k → nat_not (wd xs i) (wd ys i) = 0)) (fun v => n1 - (intOf v).toNat)
  case atStart => exact ⟨0, Nat.zero_le _, rfl, fun i hi => absurd hi (Nat.not_lt_zero _)⟩
  case round =>
    obtain ⟨k, hk, rfl, hr⟩ := hrel
    by_cases hlt : k < n1
    · obtain ⟨b1, o1, rfl, hl1, hx1⟩ := H1.out.at_ (by omega)
      have c1 := hx1 k (by omega)
      clear hx1
      have hbit := not_int (H1.out.lt k) (H2.out.lt k)
      by_cases hz : nat_not (wd xs k) (wd ys k) = 0
      · have hz1 : (bits BinOp.andNot IntKind.u64 ((wd xs k : Nat) : Int) ((wd ys k : Nat) : Int) != 0) = false := by rw [hbit, hz]; rfl
        have hr' : Hid (∀ i, i < k + 1 → nat_not (wd xs i) (wd ys i) = 0) := fun i hi => by
          rcases Nat.lt_succ_iff_lt_or_eq.1 hi with h | h
          · exact hr.out i h
          · rw [h]; exact hz
        clear hbit hz hr
        go_wp2_with (go_at_call 76; ((with_reducible refine (word_any _ _ _ _ _ H2.out k).mono ?_); rintro e w' ⟨rfl, rfl⟩))
        go_round
        case rel => exact ⟨k + 1, by omega, by go_num, hr'⟩
        case measure => simp [intOf]; omega
      · have hz1 : (bits BinOp.andNot IntKind.u64 ((wd xs k : Nat) : Int) ((wd ys k : Nat) : Int) != 0) = true := by rw [hbit]; simpa using hz
        have hf := Lib.hid (subB_false k hlt hz)
        clear hbit hz hr
        go_wp2_with (go_at_call 76; ((with_reducible refine (word_any _ _ _ _ _ H2.out k).mono ?_); rintro e w' ⟨rfl, rfl⟩))
        go_ret
        exact ⟨by rw [hf.out]; rfl, rfl⟩
    · obtain rfl : n1 = k := by omega
      have hf := Lib.hid (subB_true hr.out)
      clear hr
      go_wp2
      go_ret
      exact ⟨by rw [hf.out]; rfl, rfl⟩

theorem Subset_val (b : Bool) (w : World) (a1 a2 : Option Addr) (n1 n2 cap1 cap2 : Nat) (xs ys : List Nat) (h1 : Is64 w a1 n1 cap1 xs) (h2 : Is64 w a2 n2 cap2 ys) (hb : subB n1 xs ys = b) :
    Calls Tryd.prog 48 #[.slice a1 n1 cap1, .slice a2 n2 cap2] w fun e w' => e = .returned (.bool b) ∧ w = w' := hb ▸ Subset_any w a1 a2 n1 n2 cap1 cap2 xs ys h1 h2

theorem Equal_any (w : World) (a1 a2 : Option Addr) (n1 n2 cap1 cap2 : Nat) (xs ys : List Nat) (h1 : Is64 w a1 n1 cap1 xs) (h2 : Is64 w a2 n2 cap2 ys) :
    Calls Tryd.prog 50 #[.slice a1 n1 cap1, .slice a2 n2 cap2] w fun e w' => e = .returned (.bool (subB n1 xs ys && subB n2 ys xs)) ∧ w = w' := by
  have H1 := Lib.hid h1
  have H2 := Lib.hid h2
  clear h1 h2
  cases hb : subB n1 xs ys
  all_goals
    have HB := Lib.hid hb
    clear hb
    go_enter Tryd.func50, Tryd.ntmps50
    go_wp2_with (go_at_call 48; first | ((with_reducible refine (Subset_val _ _ _ _ _ _ _ _ _ _ H1.out H2.out HB.out).mono ?_); rintro e w' ⟨rfl, rfl⟩) | ((with_reducible refine (Subset_any _ _ _ _ _ _ _ _ _ H2.out H1.out).mono ?_); rintro e w' ⟨rfl, rfl⟩))
    go_ret
    exact ⟨rfl, rfl⟩

theorem andc {a c : Nat} (h : a < 18446744073709551616) (h' : c < 18446744073709551616) : bits .and .u64 (a : Int) (c : Int) = ((a &&& c : Nat) : Int) := u64_and_nat a c h h'
theorem wrapu {a : Nat} (h : a < 18446744073709551616) : IntKind.u64.wrap (a : Int) = (a : Int) := by rw [IntKind.wrap_u64]; omega

theorem i64_and127 (a : Nat) (h : a < 9223372036854775808) : bits .and .i64 (a : Int) 127 = ((a % 128 : Nat) : Int) := by
  have h1 : (BitVec.ofInt 64 (a : Int)).toNat = a := by
    rw [BitVec.ofInt_natCast, BitVec.toNat_ofNat]; exact Nat.mod_eq_of_lt (by omega)
  have h2 : (BitVec.ofInt 64 127).toNat = 127 := by decide
  show IntKind.i64.wrap ((BitVec.ofInt 64 (a : Int) &&& BitVec.ofInt 64 127).toNat : Int) = _
  rw [BitVec.toNat_and, h1, h2, show (127 : Nat) = 2 ^ 7 - 1 from rfl, Nat.and_two_pow_sub_one_eq_mod]
  have : a % 2 ^ 7 < 128 := Nat.mod_lt _ (by decide)
  show IntKind.i64.wrap _ = ((a % 128 : Nat) : Int)
  rw [IntKind.wrap_i64]
  omega

theorem Ones_any (w : World) (x : Nat) (hx : x < 18446744073709551616) :
    Calls Tryd.prog 77 #[.int .u64 x] w fun e w' => e = .returned (.int .i64 ((pop x : Nat) : Int)) ∧ w = w' := by
  obtain ⟨k1, k2, k3, k4, k5, k6, k7, k8⟩ := s_bounds x hx
  have f1 : IntKind.u64.wrap (bits BinOp.and IntKind.u64 ((x : Int) / 2) 6148914691236517205 + bits BinOp.and IntKind.u64 (x : Int) 6148914691236517205) = ((s1 x : Nat) : Int) := by
    rw [show ((x : Int) / 2) = ((x / 2 : Nat) : Int) from rfl, show (6148914691236517205 : Int) = ((6148914691236517205 : Nat) : Int) from rfl, andc (by omega) (by decide), andc hx (by decide), ← Int.natCast_add]
    exact wrapu k1
  have f2 : IntKind.u64.wrap (bits BinOp.and IntKind.u64 (((s1 x : Nat) : Int) / 4) 3689348814741910323 + bits BinOp.and IntKind.u64 ((s1 x : Nat) : Int) 3689348814741910323) = ((s2 x : Nat) : Int) := by
    rw [show (((s1 x : Nat) : Int) / 4) = ((s1 x / 4 : Nat) : Int) from rfl, show (3689348814741910323 : Int) = ((3689348814741910323 : Nat) : Int) from rfl, andc (by omega) (by decide), andc k1 (by decide), ← Int.natCast_add]
    exact wrapu k2
  have f3 : bits BinOp.and IntKind.u64 (IntKind.u64.wrap (((s2 x : Nat) : Int) / 16 + ((s2 x : Nat) : Int))) 1085102592571150095 = ((s3 x : Nat) : Int) := by
    rw [show (((s2 x : Nat) : Int) / 16) = ((s2 x / 16 : Nat) : Int) from rfl, ← Int.natCast_add, wrapu k3, show (1085102592571150095 : Int) = ((1085102592571150095 : Nat) : Int) from rfl, andc k3 (by decide)]
    rfl
  have f4 : IntKind.u64.wrap (((s3 x : Nat) : Int) + ((s3 x : Nat) : Int) / 256) = ((s4 x : Nat) : Int) := by
    rw [show (((s3 x : Nat) : Int) / 256) = ((s3 x / 256 : Nat) : Int) from rfl, ← Int.natCast_add]
    exact wrapu k5
  have f5 : IntKind.u64.wrap (((s4 x : Nat) : Int) + ((s4 x : Nat) : Int) / 65536) = ((s5 x : Nat) : Int) := by
    rw [show (((s4 x : Nat) : Int) / 65536) = ((s4 x / 65536 : Nat) : Int) from rfl, ← Int.natCast_add]
    exact wrapu k6
  have f6 : IntKind.u64.wrap (((s5 x : Nat) : Int) + ((s5 x : Nat) : Int) / 4294967296) = ((s6 x : Nat) : Int) := by
    rw [show (((s5 x : Nat) : Int) / 4294967296) = ((s5 x / 4294967296 : Nat) : Int) from rfl, ← Int.natCast_add]
    exact wrapu (show s6 x < _ by omega)
  have K7 := Lib.hid k7
  have K8 := Lib.hid k8
  clear k1 k2 k3 k4 k5 k6 k7 k8
  go_enter Tryd.func77, Tryd.ntmps77
  go_wp2
  go_ret
  refine ⟨?_, rfl⟩
  clear f1 f2 f3 f4 f5 f6
  show Ending.returned (.int .i64 _) = _
  rw [show wrap64 ((s6 x : Nat) : Int) = ((s6 x : Nat) : Int) from IntWalk.wrap64_in _ (by have := K7.out; omega), i64_and127 _ K7.out, K8.out]

/-- The sum of the counts of the first k words. -/
def cnt (xs : List Nat) : Nat → Nat
  | 0 => 0
  | k + 1 => cnt xs k + pop (wd xs k)
theorem cnt_le (xs : List Nat) : ∀ k, cnt xs k ≤ 64 * k
  | 0 => Nat.le_refl _
  | k + 1 => by have := cnt_le xs k; have := popN_le 64 (wd xs k); simp only [cnt, pop]; omega

theorem Count_any (w : World) (a1 : Option Addr) (n1 cap1 : Nat) (xs : List Nat) (h1 : Is64 w a1 n1 cap1 xs) (s1 : n1 ≤ 1000000) :
    Calls Tryd.prog 52 #[.slice a1 n1 cap1] w fun e w' => e = .returned (.int .i64 ((cnt xs n1 : Nat) : Int)) ∧ w = w' := by
  have hc1 := h1.capLe
  have hm1 := h1.maxLe
  unfold maxLen at hm1
  have H1 := Lib.hid h1
  clear h1
  go_enter Tryd.func52, Tryd.ntmps52
  go_wp2
  go_loop [3, 8] (fun c v => ∃ k : Nat, k ≤ n1 ∧ v = .int .i64 k ∧ c = .int .i64 ((cnt xs k : Nat) : Int)) (fun _ v => n1 - (intOf v).toNat)
  case atStart => exact ⟨0, Nat.zero_le _, rfl, rfl⟩
  case round =>
    obtain ⟨k, hk, rfl, rfl⟩ := hrel
    by_cases hlt : k < n1
    · obtain ⟨b1, o1, rfl, hl1, hx1⟩ := H1.out.at_ (by omega)
      have c1 := hx1 k (by omega)
      clear hx1
      have q1 := cnt_le xs k
      have q2 := popN_le 64 (wd xs k)
      change pop (wd xs k) ≤ 64 at q2
      go_wp2_with (go_at_call 77; ((with_reducible refine (Ones_any _ _ (H1.out.lt k)).mono ?_); rintro e w' ⟨rfl, rfl⟩))
      go_round
      case rel => exact ⟨k + 1, by omega, by go_num, by simp only [cnt]; go_num⟩
      case measure => simp [intOf]; omega
    · obtain rfl : n1 = k := by omega
      go_wp2
      go_ret
      exact ⟨rfl, rfl⟩

theorem Has_neg (w : World) (a1 : Option Addr) (n1 cap1 : Nat) (i : Int) (hi : i < 0) :
    Calls Tryd.prog 46 #[.slice a1 n1 cap1, .int .i64 i] w fun e w' => e = .returned (.bool false) ∧ w = w' := by
  go_enter Tryd.func46, Tryd.ntmps46
  go_wp2
  go_ret
  exact ⟨rfl, rfl⟩

/-- Whether the set has this number. -/
def bit (xs : List Nat) (i : Nat) : Bool := (wd xs (i / 64)).testBit (i % 64)

theorem word_div (w : World) (a : Option Addr) (n cap : Nat) (xs : List Nat) (h : Is64 w a n cap xs) (i : Nat) :
    Calls Tryd.prog 76 #[.slice a n cap, .int .i64 ((i : Int) / 64)] w fun e w' => e = .returned (.int .u64 ((wd xs (i / 64) : Nat) : Int)) ∧ w = w' := word_any w a n cap xs h (i / 64)

theorem and_shift {x j : Nat} (h : x < 18446744073709551616) : (bits BinOp.and IntKind.u64 ((x : Int) / 2 ^ j) 1 == 1) = x.testBit j := by
  have e : ((x : Int) / 2 ^ j) = ((x / 2 ^ j : Nat) : Int) := by rw [Int.natCast_ediv, Int.natCast_pow]; rfl
  have hl : x / 2 ^ j < 18446744073709551616 := Nat.lt_of_le_of_lt (Nat.div_le_self _ _) h
  rw [e, show (1 : Int) = ((1 : Nat) : Int) from rfl, andc hl (by decide), Nat.and_one_is_mod, Nat.testBit_eq_decide_div_mod_eq]
  rw [Bool.eq_iff_iff]
  simp
  omega

theorem Has_pos (w : World) (a1 : Option Addr) (n1 cap1 : Nat) (xs : List Nat) (h1 : Is64 w a1 n1 cap1 xs) (i : Nat) (hi : i ≤ 9223372036854775807) :
    Calls Tryd.prog 46 #[.slice a1 n1 cap1, .int .i64 i] w fun e w' => e = .returned (.bool (bit xs i)) ∧ w = w' := by
  have H1 := Lib.hid h1
  clear h1
  go_enter Tryd.func46, Tryd.ntmps46
  go_wp2_with (go_at_call 76; ((with_reducible refine (word_div _ _ _ _ _ H1.out i).mono ?_); rintro e w' ⟨rfl, rfl⟩))
  go_ret
  refine ⟨?_, rfl⟩
  show Ending.returned (.bool _) = _
  rw [and_shift (H1.out.lt _)]
  rfl
end Go.Proofs.YtlphlbhbhcpnpaaDoor
