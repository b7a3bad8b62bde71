/- Sets in normal form with the same elements are the same; the chapter's examples. -/
import Derived.Test.YtlphlbhbhcpnpaaDoorBp
namespace Go.Proofs.YtlphlbhbhcpnpaaDoor
open Go.RowKit

theorem wd_of_bits {xs ys : List Nat} (bx : ∀ i, wd xs i < 18446744073709551616) (by_ : ∀ i, wd ys i < 18446744073709551616) (h : ∀ i, bit xs i = bit ys i) (k : Nat) : wd xs k = wd ys k := by
  apply Nat.eq_of_testBit_eq
  intro j
  by_cases hj : j < 64
  · have := h (64 * k + j)
    unfold bit at this
    rw [show (64 * k + j) / 64 = k by omega, show (64 * k + j) % 64 = j by omega] at this
    exact this
  · have hp : (18446744073709551616 : Nat) ≤ 2 ^ j := Nat.pow_le_pow_right (n := 2) (by decide) (show 64 ≤ j by omega)
    rw [Nat.testBit_lt_two_pow (Nat.lt_of_lt_of_le (bx k) hp), Nat.testBit_lt_two_pow (Nat.lt_of_lt_of_le (by_ k) hp)]

theorem norm_len {xs ys : List Nat} (hx : Norm xs) (h : ∀ i, wd xs i = wd ys i) : xs.length ≤ ys.length := by
  rcases Nat.lt_or_ge ys.length xs.length with hl | hl
  · have := hx (by omega)
    rw [h, wd_out _ _ (by omega)] at this
    exact absurd rfl this
  · exact hl

theorem set_ext {xs ys : List Nat} (hx : Norm xs) (hy : Norm ys) (bx : ∀ i, wd xs i < 18446744073709551616) (by_ : ∀ i, wd ys i < 18446744073709551616) (h : ∀ i, bit xs i = bit ys i) : xs = ys := by
  have hw := wd_of_bits bx by_ h
  refine ext_wd (Nat.le_antisymm (norm_len hx hw) (norm_len hy fun i => (hw i).symm)) fun i _ => hw i

/-- A slice that has just been built. -/
theorem built_int (w : World) (zs : List Int) (hb : ∀ z ∈ zs, -9223372036854775808 ≤ z ∧ z ≤ 9223372036854775807) (hl : zs.length ≤ 1000) :
    IsInt (w.alloc (.cells (ivals zs).toArray 3)) (some ⟨w.heap.size, 0, none⟩) zs.length zs.length zs := by
  refine ⟨rfl, Nat.le_refl _, by unfold maxLen; omega, fun i hi => ?_, fun _ => ⟨w.heap.size, 0, rfl, by simp, fun i hi => ?_⟩⟩
  · have : wi zs i = zs[i] := by simp [wi, List.getD_eq_getElem?_getD, List.getElem?_eq_getElem hi]
    rw [this]
    exact hb _ (List.getElem_mem _)
  · rw [Nat.zero_add, cell_of_row _ _ _ _ _ (0, 0) (heap_alloc_new w _)]
    simp [ivals, wi, List.getD_eq_getElem?_getD, List.getElem?_eq_getElem hi]
theorem built_64 (w : World) (ws : List Nat) (hb : ∀ i, i < ws.length → wd ws i < 18446744073709551616) (hl : ws.length ≤ 1000) :
    Is64 (w.alloc (.cells (uvals ws).toArray 56)) (some ⟨w.heap.size, 0, none⟩) ws.length ws.length ws := by
  refine ⟨rfl, Nat.le_refl _, by unfold maxLen; omega, hb, fun _ => ⟨w.heap.size, 0, rfl, by simp, fun i hi => ?_⟩, fun e => by cases e⟩
  rw [Nat.zero_add, cell_of_row _ _ _ _ _ (0, 0) (heap_alloc_new w _)]
  simpa using uvals_at ws i hi

/-- The call returns this set and no error. -/
def RetSet (ws : List Nat) (w : World) (e : Ending) (w' : World) : Prop :=
  ∃ a cap, e = .returned (.tuple #[.slice a ws.length cap, .int .i64 0]) ∧ Is64 w' a ws.length cap ws ∧ Below w.heap.size w w'

theorem OfPost.eq {zs : List Int} {ws : List Nat} {w w' : World} {e : Ending} (h : OfPost zs w e w') (hg : ∀ i, i < zs.length → 0 ≤ wi zs i ∧ wi zs i ≤ 4095) (hn : Norm ws) (hb : ∀ i, wd ws i < 18446744073709551616)
    (hbit : ∀ i, bit ws i = inL zs zs.length i) : RetSet ws w e w' := by
  obtain ⟨h1, ⟨_, ws', a, n, cap, he, h64, hn', hl, hb'⟩ | ⟨⟨i, hi, hbad⟩, _⟩⟩ := h
  · have : ws' = ws := set_ext hn' hn h64.lt hb fun i => (hb' i).trans (hbit i).symm
    subst this
    have hl := h64.len
    subst hl
    exact ⟨a, cap, he, h64, h1⟩
  · exact absurd (hg i hi) hbad

theorem ex_bits1 : ∀ i, bit [2, 64] i = inL [1, 70] 2 i := fun i => by
  by_cases h : i < 128
  · revert i; decide +kernel
  · rw [bit_out _ _ (by simp; omega)]
    simp [inL, wi]
    omega
theorem ex_bits2 : ∀ i, bit [0, 192] i = inL [71, 70] 2 i := fun i => by
  by_cases h : i < 128
  · revert i; decide +kernel
  · rw [bit_out _ _ (by simp; omega)]
    simp [inL, wi]
    omega
theorem wd_lt_of {ws : List Nat} (h : ∀ x ∈ ws, x < 18446744073709551616) (i : Nat) : wd ws i < 18446744073709551616 := by
  by_cases hi : i < ws.length
  · have : wd ws i = ws[i] := by simp [wd, List.getD_eq_getElem?_getD, List.getElem?_eq_getElem hi]
    rw [this]; exact h _ (List.getElem_mem _)
  · rw [wd_out _ _ (by omega)]; decide

theorem Of_ex1 (w : World) (a1 : Option Addr) (cap1 : Nat) (h1 : IsInt w a1 2 cap1 [1, 70]) :
    Calls Tryd.prog 34 #[.slice a1 2 cap1] w (RetSet [2, 64] w) :=
  (Of_any w a1 2 cap1 _ h1).mono fun e w' h => h.eq (by decide +kernel) (by unfold Norm; decide +kernel) (wd_lt_of (by decide)) ex_bits1
theorem Of_ex2 (w : World) (a1 : Option Addr) (cap1 : Nat) (h1 : IsInt w a1 2 cap1 [71, 70]) :
    Calls Tryd.prog 34 #[.slice a1 2 cap1] w (RetSet [0, 192] w) :=
  (Of_any w a1 2 cap1 _ h1).mono fun e w' h => h.eq (by decide +kernel) (by unfold Norm; decide +kernel) (wd_lt_of (by decide)) ex_bits2

theorem Ret64.eq {xs : List Nat} {w w' : World} {e : Ending} (ys : List Nat) (h : Ret64 xs w e w') (hx : xs = ys) : ∃ a cap, e = .returned (.slice a ys.length cap) ∧ Is64 w' a ys.length cap ys ∧ Below w.heap.size w w' := by
  subst hx
  obtain ⟨a, n, cap, he, h1, h2⟩ := h
  have := h1.len
  subst this
  exact ⟨a, cap, he, h1, h2⟩
theorem RetI.eq {xs : List Int} {w w' : World} {e : Ending} (ys : List Int) (h : RetI xs w e w') (hx : xs = ys) : ∃ a cap, e = .returned (.slice a ys.length cap) ∧ IsInt w' a ys.length cap ys ∧ Below w.heap.size w w' := by
  subst hx
  obtain ⟨a, n, cap, he, h1, h2⟩ := h
  have := h1.len
  subst this
  exact ⟨a, cap, he, h1, h2⟩

theorem Same_val (b : Bool) (w : World) (a1 a2 : Option Addr) (n1 n2 cap1 cap2 : Nat) (xs ys : List Nat) (h1 : Is64 w a1 n1 cap1 xs) (h2 : Is64 w a2 n2 cap2 ys) (hb : sameB xs ys = b) :
    Calls Tryd.prog 36 #[.slice a1 n1 cap1, .slice a2 n2 cap2] w fun e w' => e = .returned (.bool b) ∧ Below w.heap.size w w' := hb ▸ Same_any w a1 a2 n1 n2 cap1 cap2 xs ys h1 h2
theorem SameInts_val (b : Bool) (w : World) (a1 a2 : Option Addr) (n1 n2 cap1 cap2 : Nat) (xs ys : List Int) (h1 : IsInt w a1 n1 cap1 xs) (h2 : IsInt w a2 n2 cap2 ys) (hb : sameI xs ys = b) :
    Calls Tryd.prog 37 #[.slice a1 n1 cap1, .slice a2 n2 cap2] w fun e w' => e = .returned (.bool b) ∧ Below w.heap.size w w' := hb ▸ SameInts_any w a1 a2 n1 n2 cap1 cap2 xs ys h1 h2
theorem Count_val (c : Nat) (w : World) (a1 : Option Addr) (n1 cap1 : Nat) (xs : List Nat) (h1 : Is64 w a1 n1 cap1 xs) (s1 : n1 ≤ 1000000) (hc : cnt xs n1 = c) :
    Calls Tryd.prog 52 #[.slice a1 n1 cap1] w fun e w' => e = .returned (.int .i64 (c : Int)) ∧ w = w' := hc ▸ Count_any w a1 n1 cap1 xs h1 s1
theorem Has_val (b : Bool) (w : World) (a1 : Option Addr) (n1 cap1 : Nat) (xs : List Nat) (h1 : Is64 w a1 n1 cap1 xs) (i : Nat) (hi : i ≤ 9223372036854775807) (hb : bit xs i = b) :
    Calls Tryd.prog 46 #[.slice a1 n1 cap1, .int .i64 i] w fun e w' => e = .returned (.bool b) ∧ w = w' := hb ▸ Has_pos w a1 n1 cap1 xs h1 i hi
theorem Equal_val (b : Bool) (w : World) (a1 a2 : Option Addr) (n1 n2 cap1 cap2 : Nat) (xs ys : List Nat) (h1 : Is64 w a1 n1 cap1 xs) (h2 : Is64 w a2 n2 cap2 ys) (hb : (subB n1 xs ys && subB n2 ys xs) = b) :
    Calls Tryd.prog 50 #[.slice a1 n1 cap1, .slice a2 n2 cap2] w fun e w' => e = .returned (.bool b) ∧ w = w' := hb ▸ Equal_any w a1 a2 n1 n2 cap1 cap2 xs ys h1 h2

set_option maxRecDepth 100000 in
theorem ex_holds (w : World) (hT : TabOk w) : Calls Tryd.prog 33 #[] w fun e w' => e = .returned (.bool true) ∧ Below w.heap.size w w' := by
  have HT := Lib.hid hT
  clear hT
  go_enter Tryd.func33, Tryd.ntmps33
  go_wp2_with fail
  refine (Of_ex1 _ _ _ (built_int w [1, 70] (by decide) (by decide))).mono ?_
  rintro e W1 ⟨a1, cap1, rfl, h1, hb1⟩
  have b1 : Below w.heap.size w W1 := ((Below.refl _ _).alloc (Nat.le_refl _) _).trans (hb1.mono (by simp))
  have H1 := Lib.hid h1
  have B1 := Lib.hid b1
  clear h1 hb1 b1
  go_wp2_with fail
  refine (Of_ex2 _ _ _ (built_int W1 [71, 70] (by decide) (by decide))).mono ?_
  rintro e W2 ⟨a2, cap2, rfl, h2, hb2⟩
  have k2 : Below W1.heap.size W1 W2 := ((Below.refl _ _).alloc (Nat.le_refl _) _).trans (hb2.mono (by simp))
  have H1 := Lib.hid (H1.out.below k2)
  have B2 := Lib.hid (B1.out.trans (k2.mono B1.out.size))
  have H2 := Lib.hid h2
  clear h2 hb2 k2 B1
  go_wp2_with fail
  refine (And_any _ _ _ _ _ _ _ _ _ H1.out H2.out (by decide) (by decide)).mono ?_
  intro e W3 hx
  obtain ⟨a3, cap3, rfl, h3, k3⟩ := hx.eq [0, 64] (by decide +kernel)
  have H1 := Lib.hid (H1.out.below k3)
  have H2 := Lib.hid (H2.out.below k3)
  have B3 := Lib.hid (B2.out.trans (k3.mono B2.out.size))
  have H3 := Lib.hid h3
  clear hx h3 k3 B2
  go_wp2_with fail
  refine (Or_any _ _ _ _ _ _ _ _ _ H1.out H2.out (by decide) (by decide)).mono ?_
  intro e W4 hx
  obtain ⟨a4, cap4, rfl, h4, k4⟩ := hx.eq [2, 192] (by decide +kernel)
  have H1 := Lib.hid (H1.out.below k4)
  have H3 := Lib.hid (H3.out.below k4)
  have B4 := Lib.hid (B3.out.trans (k4.mono B3.out.size))
  have H4 := Lib.hid h4
  clear hx h4 k4 B3 H2
  go_wp2_with fail
  refine (List_any _ _ _ _ _ H4.out (by decide) (HT.out.below B4.out)).mono ?_
  intro e W5 hx
  obtain ⟨a5, cap5, rfl, h5, k5⟩ := hx.eq [1, 70, 71] (by decide +kernel)
  have H1 := Lib.hid (H1.out.below k5)
  have H3 := Lib.hid (H3.out.below k5)
  have H4 := Lib.hid (H4.out.below k5)
  have B5 := Lib.hid (B4.out.trans (k5.mono B4.out.size))
  have H5 := Lib.hid h5
  clear hx h5 k5 B4
  go_wp2_with fail
  have kk : Below W5.heap.size W5 (W5.alloc (.cells (uvals [0, 64]).toArray 56)) := (Below.refl _ _).alloc (Nat.le_refl _) _
  refine (Same_val true _ _ _ _ _ _ _ _ _ (H3.out.below kk) (built_64 W5 [0, 64] (by decide +kernel) (by decide)) (by decide +kernel)).mono ?_
  rintro e W6 ⟨rfl, hb6⟩
  have k6 : Below W5.heap.size W5 W6 := kk.trans (hb6.mono (by simp))
  have H1 := Lib.hid (H1.out.below k6)
  have H3 := Lib.hid (H3.out.below k6)
  have H4 := Lib.hid (H4.out.below k6)
  have H5 := Lib.hid (H5.out.below k6)
  have B6 := Lib.hid (B5.out.trans (k6.mono B5.out.size))
  clear kk hb6 k6 B5
  go_wp2_with fail
  have kk : Below W6.heap.size W6 (W6.alloc (.cells (ivals [1, 70, 71]).toArray 3)) := (Below.refl _ _).alloc (Nat.le_refl _) _
  refine (SameInts_val true _ _ _ _ _ _ _ _ _ (H5.out.below kk) (built_int W6 [1, 70, 71] (by decide) (by decide)) (by decide +kernel)).mono ?_
  rintro e W7 ⟨rfl, hb7⟩
  have k7 : Below W6.heap.size W6 W7 := kk.trans (hb7.mono (by simp))
  have H1 := Lib.hid (H1.out.below k7)
  have H3 := Lib.hid (H3.out.below k7)
  have H4 := Lib.hid (H4.out.below k7)
  have B7 := Lib.hid (B6.out.trans (k7.mono B6.out.size))
  clear kk hb7 k7 B6 H5
  go_wp2_with fail
  refine (Count_val 3 _ _ _ _ _ H4.out (by decide) (by decide +kernel)).mono ?_
  rintro e w' ⟨rfl, rfl⟩
  go_wp2_with fail
  refine (Has_val true _ _ _ _ _ H4.out 70 (by decide) (by decide +kernel)).mono ?_
  rintro e w' ⟨rfl, rfl⟩
  go_wp2_with fail
  refine (Has_val false _ _ _ _ _ H3.out 1 (by decide) (by decide +kernel)).mono ?_
  rintro e w' ⟨rfl, rfl⟩
  go_wp2_with fail
  refine (Minus_any _ _ _ _ _ _ _ _ _ H3.out H3.out (by decide) (by decide)).mono ?_
  intro e W8 hx
  obtain ⟨a8, cap8, rfl, h8, k8⟩ := hx.eq [] (by decide +kernel)
  have H1 := Lib.hid (H1.out.below k8)
  have H3 := Lib.hid (H3.out.below k8)
  have B8 := Lib.hid (B7.out.trans (k8.mono B7.out.size))
  clear hx h8 k8 B7 H4
  go_wp2_with fail
  have kk1 : Below W8.heap.size W8 (W8.alloc (.cells (uvals [2, 0]).toArray 56)) := (Below.refl _ _).alloc (Nat.le_refl _) _
  have kk2 : Below (W8.alloc (.cells (uvals [2, 0]).toArray 56)).heap.size (W8.alloc (.cells (uvals [2, 0]).toArray 56)) ((W8.alloc (.cells (uvals [2, 0]).toArray 56)).alloc (.cells (uvals [2]).toArray 56)) := (Below.refl _ _).alloc (Nat.le_refl _) _
  have g1 := (built_64 W8 [2, 0] (by decide +kernel) (by decide)).below kk2
  have g2 := built_64 (W8.alloc (.cells (uvals [2, 0]).toArray 56)) [2] (by decide +kernel) (by decide)
  rw [World.size_alloc] at g2
  have k9 := kk1.trans (kk2.mono (by simp))
  have H1 := Lib.hid (H1.out.below k9)
  have H3 := Lib.hid (H3.out.below k9)
  have B9 := Lib.hid (B8.out.trans (k9.mono B8.out.size))
  clear kk1 kk2 k9 B8
  refine (Equal_val true _ _ _ _ _ _ _ _ _ g1 g2 (by decide +kernel)).mono ?_
  rintro e w' ⟨rfl, rfl⟩
  clear g1 g2
  go_wp2_with fail
  refine (Subset_val true _ _ _ _ _ _ _ _ _ H3.out H1.out (by decide +kernel)).mono ?_
  rintro e w' ⟨rfl, rfl⟩
  go_wp2_with fail
  refine (Subset_val false _ _ _ _ _ _ _ _ _ H1.out H3.out (by decide +kernel)).mono ?_
  rintro e w' ⟨rfl, rfl⟩
  go_wp2
  go_ret
  exact ⟨rfl, B9.out⟩
end Go.Proofs.YtlphlbhbhcpnpaaDoor
