/- The laws over package bits: each returns true, and nothing that was there has changed. Written by wip/gen/bits.py. -/
import Derived.Test.YtlphlbhbhcpnpaaDoorBm
namespace Go.Proofs.YtlphlbhbhcpnpaaDoor
open Go.RowKit

/-- A length that is above the bound. -/
theorem big_dec {n b : Nat} (h : b < n) : decide ((b : Int) < (n : Int)) = true := by simp; omega
theorem small_dec {n b : Nat} (h : n ≤ b) : decide ((b : Int) < (n : Int)) = false := by simp; omega

theorem SAnd_nil (xs ys : List Nat) (hx : WB xs) (hy : WB ys) : (SAnd (SMinus xs ys) ys).length = 0 := by
  rw [show SAnd (SMinus xs ys) ys = [] from set_ext (nAnd _ _) (fun h => absurd h (Nat.lt_irrefl _)) hx.minus.and (fun i => by simp [wd]) fun i => by
    rw [bit_SAnd, bit_SMinus hy]
    rw [show bit [] i = false by simp [bit, wd]]
    cases bit xs i <;> cases bit ys i <;> rfl]
  rfl

set_option maxRecDepth 100000 in
theorem BitsCombines_law (w : World) (ax : Option Addr) (capx : Nat) (xs : List Nat) (ay : Option Addr) (capy : Nat) (ys : List Nat) (hx : Is64 w ax xs.length capx xs) (hy : Is64 w ay ys.length capy ys) (hT : TabOk w) :
    Calls Tryd.prog 11 #[.slice ax xs.length capx, .slice ay ys.length capy] w fun e w' => e = .returned (.bool true) ∧ Below w.heap.size w w' := by
  have HT := Lib.hid hT
  clear hT
  have Ix := Lib.hid hx
  have mx := hx.maxLe
  have lx := hx.capLe
  have Iy := Lib.hid hy
  have my := hy.maxLe
  have ly := hy.capLe
  unfold maxLen at mx my
  clear hx hy
  by_cases bbx : 80 < xs.length
  · go_enter Tryd.func11, Tryd.ntmps11
    go_wp2_with (go_at_call 33; refine (ex_holds _ HT.out).mono ?_; rintro e w' ⟨rfl, kk⟩)
    go_ret
    exact ⟨rfl, kk⟩
  by_cases bby : 80 < ys.length
  · go_enter Tryd.func11, Tryd.ntmps11
    go_wp2_with (go_at_call 33; refine (ex_holds _ HT.out).mono ?_; rintro e w' ⟨rfl, kk⟩)
    go_ret
    exact ⟨rfl, kk⟩
  have qx : xs.length ≤ 80 := by omega
  have Hx : Hid (L64 w ax capx xs) := ⟨Ix.out, by omega⟩
  have qy : ys.length ≤ 80 := by omega
  have Hy : Hid (L64 w ay capy ys) := ⟨Iy.out, by omega⟩
  clear bbx bby
  go_enter Tryd.func11, Tryd.ntmps11
  have B0 := Lib.hid (Below.refl w.heap.size w)
  go_wp2_with fail
  refine (And_l Hx.out Hy.out).mono ?_
  rintro e W1 ⟨a1, cap1, rfl, h1, kk1⟩
  have Hx := Lib.hid (Hx.out.below kk1)
  have Hy := Lib.hid (Hy.out.below kk1)
  have B1 := Lib.hid (B0.out.trans (kk1.mono B0.out.size))
  have P := Lib.hid h1
  clear h1 kk1
  go_wp2_with fail
  refine (rAnd_l Hx.out Hy.out).mono ?_
  rintro e W2 ⟨a2, cap2, rfl, h2, kk2⟩
  have Hx := Lib.hid (Hx.out.below kk2)
  have Hy := Lib.hid (Hy.out.below kk2)
  have P := Lib.hid (P.out.below kk2)
  have B2 := Lib.hid (B1.out.trans (kk2.mono B1.out.size))
  have R := Lib.hid h2
  clear h2 kk2
  go_wp2_with fail
  refine (Same_l P.out R.out (same_of (nAnd _ _) (nAnd _ _) Hx.out.wb.and Hx.out.wb.and fun _ => rfl)).mono ?_
  rintro e W3 ⟨rfl, kk3⟩
  have Hx := Lib.hid (Hx.out.below kk3)
  have Hy := Lib.hid (Hy.out.below kk3)
  have P := Lib.hid (P.out.below kk3)
  have R := Lib.hid (R.out.below kk3)
  have B3 := Lib.hid (B2.out.trans (kk3.mono B2.out.size))
  clear kk3
  clear P R
  go_wp2_with fail
  refine (Or_l Hx.out Hy.out).mono ?_
  rintro e W4 ⟨a4, cap4, rfl, h4, kk4⟩
  have Hx := Lib.hid (Hx.out.below kk4)
  have Hy := Lib.hid (Hy.out.below kk4)
  have B4 := Lib.hid (B3.out.trans (kk4.mono B3.out.size))
  have P := Lib.hid h4
  clear h4 kk4
  go_wp2_with fail
  refine (rOr_l Hx.out Hy.out).mono ?_
  rintro e W5 ⟨a5, cap5, rfl, h5, kk5⟩
  have Hx := Lib.hid (Hx.out.below kk5)
  have Hy := Lib.hid (Hy.out.below kk5)
  have P := Lib.hid (P.out.below kk5)
  have B5 := Lib.hid (B4.out.trans (kk5.mono B4.out.size))
  have R := Lib.hid h5
  clear h5 kk5
  go_wp2_with fail
  refine (Same_l P.out R.out (same_of (nOr _ _) (nOr _ _) (Hx.out.wb.or Hy.out.wb) (Hx.out.wb.or Hy.out.wb) fun _ => rfl)).mono ?_
  rintro e W6 ⟨rfl, kk6⟩
  have Hx := Lib.hid (Hx.out.below kk6)
  have Hy := Lib.hid (Hy.out.below kk6)
  have P := Lib.hid (P.out.below kk6)
  have R := Lib.hid (R.out.below kk6)
  have B6 := Lib.hid (B5.out.trans (kk6.mono B5.out.size))
  clear kk6
  clear P R
  go_wp2_with fail
  refine (Minus_l Hx.out Hy.out).mono ?_
  rintro e W7 ⟨a7, cap7, rfl, h7, kk7⟩
  have Hx := Lib.hid (Hx.out.below kk7)
  have Hy := Lib.hid (Hy.out.below kk7)
  have B7 := Lib.hid (B6.out.trans (kk7.mono B6.out.size))
  have P := Lib.hid h7
  clear h7 kk7
  go_wp2_with fail
  refine (rMinus_l Hx.out Hy.out).mono ?_
  rintro e W8 ⟨a8, cap8, rfl, h8, kk8⟩
  have Hx := Lib.hid (Hx.out.below kk8)
  have Hy := Lib.hid (Hy.out.below kk8)
  have P := Lib.hid (P.out.below kk8)
  have B8 := Lib.hid (B7.out.trans (kk8.mono B7.out.size))
  have R := Lib.hid h8
  clear h8 kk8
  go_wp2_with fail
  refine (Same_l P.out R.out (same_of (nMinus _ _) (nMinus _ _) Hx.out.wb.minus Hx.out.wb.minus fun _ => rfl)).mono ?_
  rintro e W9 ⟨rfl, kk9⟩
  have Hx := Lib.hid (Hx.out.below kk9)
  have Hy := Lib.hid (Hy.out.below kk9)
  have P := Lib.hid (P.out.below kk9)
  have R := Lib.hid (R.out.below kk9)
  have B9 := Lib.hid (B8.out.trans (kk9.mono B8.out.size))
  clear kk9
  clear P R
  go_wp2_with fail
  refine (ex_holds _ (HT.out.below B9.out)).mono ?_
  rintro e W10 ⟨rfl, kk10⟩
  have Hx := Lib.hid (Hx.out.below kk10)
  have Hy := Lib.hid (Hy.out.below kk10)
  have B10 := Lib.hid (B9.out.trans (kk10.mono B9.out.size))
  clear kk10
  go_wp2
  go_ret
  exact ⟨rfl, B10.out⟩

set_option maxRecDepth 100000 in
theorem BitsLaws_law (w : World) (ax : Option Addr) (capx : Nat) (xs : List Nat) (ay : Option Addr) (capy : Nat) (ys : List Nat) (az : Option Addr) (capz : Nat) (zs : List Nat) (hx : Is64 w ax xs.length capx xs) (hy : Is64 w ay ys.length capy ys) (hz : Is64 w az zs.length capz zs) (hT : TabOk w) :
    Calls Tryd.prog 13 #[.slice ax xs.length capx, .slice ay ys.length capy, .slice az zs.length capz] w fun e w' => e = .returned (.bool true) ∧ Below w.heap.size w w' := by
  have HT := Lib.hid hT
  clear hT
  have Ix := Lib.hid hx
  have mx := hx.maxLe
  have lx := hx.capLe
  have Iy := Lib.hid hy
  have my := hy.maxLe
  have ly := hy.capLe
  have Iz := Lib.hid hz
  have mz := hz.maxLe
  have lz := hz.capLe
  unfold maxLen at mx my mz
  clear hx hy hz
  by_cases bbx : 80 < xs.length
  · go_enter Tryd.func13, Tryd.ntmps13
    go_wp2_with (go_at_call 33; refine (ex_holds _ HT.out).mono ?_; rintro e w' ⟨rfl, kk⟩)
    go_ret
    exact ⟨rfl, kk⟩
  by_cases bby : 80 < ys.length
  · go_enter Tryd.func13, Tryd.ntmps13
    go_wp2_with (go_at_call 33; refine (ex_holds _ HT.out).mono ?_; rintro e w' ⟨rfl, kk⟩)
    go_ret
    exact ⟨rfl, kk⟩
  by_cases bbz : 80 < zs.length
  · go_enter Tryd.func13, Tryd.ntmps13
    go_wp2_with (go_at_call 33; refine (ex_holds _ HT.out).mono ?_; rintro e w' ⟨rfl, kk⟩)
    go_ret
    exact ⟨rfl, kk⟩
  have qx : xs.length ≤ 80 := by omega
  have Hx : Hid (L64 w ax capx xs) := ⟨Ix.out, by omega⟩
  have qy : ys.length ≤ 80 := by omega
  have Hy : Hid (L64 w ay capy ys) := ⟨Iy.out, by omega⟩
  have qz : zs.length ≤ 80 := by omega
  have Hz : Hid (L64 w az capz zs) := ⟨Iz.out, by omega⟩
  clear bbx bby bbz
  go_enter Tryd.func13, Tryd.ntmps13
  have B0 := Lib.hid (Below.refl w.heap.size w)
  go_wp2_with fail
  refine (And_l Hx.out Hy.out).mono ?_
  rintro e W1 ⟨a1, cap1, rfl, h1, kk1⟩
  have Hx := Lib.hid (Hx.out.below kk1)
  have Hy := Lib.hid (Hy.out.below kk1)
  have Hz := Lib.hid (Hz.out.below kk1)
  have B1 := Lib.hid (B0.out.trans (kk1.mono B0.out.size))
  have A := Lib.hid h1
  clear h1 kk1
  go_wp2_with fail
  refine (Or_l Hx.out Hy.out).mono ?_
  rintro e W2 ⟨a2, cap2, rfl, h2, kk2⟩
  have Hx := Lib.hid (Hx.out.below kk2)
  have Hy := Lib.hid (Hy.out.below kk2)
  have Hz := Lib.hid (Hz.out.below kk2)
  have A := Lib.hid (A.out.below kk2)
  have B2 := Lib.hid (B1.out.trans (kk2.mono B1.out.size))
  have U := Lib.hid h2
  clear h2 kk2
  go_wp2_with fail
  refine (And_l Hy.out Hx.out).mono ?_
  rintro e W3 ⟨a3, cap3, rfl, h3, kk3⟩
  have Hx := Lib.hid (Hx.out.below kk3)
  have Hy := Lib.hid (Hy.out.below kk3)
  have Hz := Lib.hid (Hz.out.below kk3)
  have A := Lib.hid (A.out.below kk3)
  have U := Lib.hid (U.out.below kk3)
  have B3 := Lib.hid (B2.out.trans (kk3.mono B2.out.size))
  have R := Lib.hid h3
  clear h3 kk3
  go_wp2_with fail
  refine (Same_l A.out R.out (same_of (nAnd _ _) (nAnd _ _) Hx.out.wb.and Hy.out.wb.and fun i => by simp only [bit_SAnd, bit_SOr]; cases bit xs i <;> cases bit ys i <;> rfl)).mono ?_
  rintro e W4 ⟨rfl, kk4⟩
  have Hx := Lib.hid (Hx.out.below kk4)
  have Hy := Lib.hid (Hy.out.below kk4)
  have Hz := Lib.hid (Hz.out.below kk4)
  have A := Lib.hid (A.out.below kk4)
  have U := Lib.hid (U.out.below kk4)
  have R := Lib.hid (R.out.below kk4)
  have B4 := Lib.hid (B3.out.trans (kk4.mono B3.out.size))
  clear kk4
  clear R
  go_wp2_with fail
  refine (Or_l Hy.out Hx.out).mono ?_
  rintro e W5 ⟨a5, cap5, rfl, h5, kk5⟩
  have Hx := Lib.hid (Hx.out.below kk5)
  have Hy := Lib.hid (Hy.out.below kk5)
  have Hz := Lib.hid (Hz.out.below kk5)
  have A := Lib.hid (A.out.below kk5)
  have U := Lib.hid (U.out.below kk5)
  have B5 := Lib.hid (B4.out.trans (kk5.mono B4.out.size))
  have R := Lib.hid h5
  clear h5 kk5
  go_wp2_with fail
  refine (Same_l U.out R.out (same_of (nOr _ _) (nOr _ _) (Hx.out.wb.or Hy.out.wb) (Hy.out.wb.or Hx.out.wb) fun i => by simp only [bit_SAnd, bit_SOr]; cases bit xs i <;> cases bit ys i <;> rfl)).mono ?_
  rintro e W6 ⟨rfl, kk6⟩
  have Hx := Lib.hid (Hx.out.below kk6)
  have Hy := Lib.hid (Hy.out.below kk6)
  have Hz := Lib.hid (Hz.out.below kk6)
  have A := Lib.hid (A.out.below kk6)
  have U := Lib.hid (U.out.below kk6)
  have R := Lib.hid (R.out.below kk6)
  have B6 := Lib.hid (B5.out.trans (kk6.mono B5.out.size))
  clear kk6
  clear R
  go_wp2_with fail
  refine (And_l A.out Hz.out).mono ?_
  rintro e W7 ⟨a7, cap7, rfl, h7, kk7⟩
  have Hx := Lib.hid (Hx.out.below kk7)
  have Hy := Lib.hid (Hy.out.below kk7)
  have Hz := Lib.hid (Hz.out.below kk7)
  have A := Lib.hid (A.out.below kk7)
  have U := Lib.hid (U.out.below kk7)
  have B7 := Lib.hid (B6.out.trans (kk7.mono B6.out.size))
  have P := Lib.hid h7
  clear h7 kk7
  go_wp2_with fail
  refine (And_l Hy.out Hz.out).mono ?_
  rintro e W8 ⟨a8, cap8, rfl, h8, kk8⟩
  have Hx := Lib.hid (Hx.out.below kk8)
  have Hy := Lib.hid (Hy.out.below kk8)
  have Hz := Lib.hid (Hz.out.below kk8)
  have A := Lib.hid (A.out.below kk8)
  have U := Lib.hid (U.out.below kk8)
  have P := Lib.hid (P.out.below kk8)
  have B8 := Lib.hid (B7.out.trans (kk8.mono B7.out.size))
  have Q := Lib.hid h8
  clear h8 kk8
  go_wp2_with fail
  refine (And_l Hx.out Q.out).mono ?_
  rintro e W9 ⟨a9, cap9, rfl, h9, kk9⟩
  have Hx := Lib.hid (Hx.out.below kk9)
  have Hy := Lib.hid (Hy.out.below kk9)
  have Hz := Lib.hid (Hz.out.below kk9)
  have A := Lib.hid (A.out.below kk9)
  have U := Lib.hid (U.out.below kk9)
  have P := Lib.hid (P.out.below kk9)
  have Q := Lib.hid (Q.out.below kk9)
  have B9 := Lib.hid (B8.out.trans (kk9.mono B8.out.size))
  have R := Lib.hid h9
  clear h9 kk9
  go_wp2_with fail
  refine (Same_l P.out R.out (same_of (nAnd _ _) (nAnd _ _) (WB.and Hx.out.wb.and) Hx.out.wb.and fun i => by simp only [bit_SAnd, bit_SOr]; cases bit xs i <;> cases bit ys i <;> cases bit zs i <;> rfl)).mono ?_
  rintro e W10 ⟨rfl, kk10⟩
  have Hx := Lib.hid (Hx.out.below kk10)
  have Hy := Lib.hid (Hy.out.below kk10)
  have Hz := Lib.hid (Hz.out.below kk10)
  have A := Lib.hid (A.out.below kk10)
  have U := Lib.hid (U.out.below kk10)
  have P := Lib.hid (P.out.below kk10)
  have Q := Lib.hid (Q.out.below kk10)
  have R := Lib.hid (R.out.below kk10)
  have B10 := Lib.hid (B9.out.trans (kk10.mono B9.out.size))
  clear kk10
  clear P Q R
  go_wp2_with fail
  refine (Or_l U.out Hz.out).mono ?_
  rintro e W11 ⟨a11, cap11, rfl, h11, kk11⟩
  have Hx := Lib.hid (Hx.out.below kk11)
  have Hy := Lib.hid (Hy.out.below kk11)
  have Hz := Lib.hid (Hz.out.below kk11)
  have A := Lib.hid (A.out.below kk11)
  have U := Lib.hid (U.out.below kk11)
  have B11 := Lib.hid (B10.out.trans (kk11.mono B10.out.size))
  have P := Lib.hid h11
  clear h11 kk11
  go_wp2_with fail
  refine (Or_l Hy.out Hz.out).mono ?_
  rintro e W12 ⟨a12, cap12, rfl, h12, kk12⟩
  have Hx := Lib.hid (Hx.out.below kk12)
  have Hy := Lib.hid (Hy.out.below kk12)
  have Hz := Lib.hid (Hz.out.below kk12)
  have A := Lib.hid (A.out.below kk12)
  have U := Lib.hid (U.out.below kk12)
  have P := Lib.hid (P.out.below kk12)
  have B12 := Lib.hid (B11.out.trans (kk12.mono B11.out.size))
  have Q := Lib.hid h12
  clear h12 kk12
  go_wp2_with fail
  refine (Or_l Hx.out Q.out).mono ?_
  rintro e W13 ⟨a13, cap13, rfl, h13, kk13⟩
  have Hx := Lib.hid (Hx.out.below kk13)
  have Hy := Lib.hid (Hy.out.below kk13)
  have Hz := Lib.hid (Hz.out.below kk13)
  have A := Lib.hid (A.out.below kk13)
  have U := Lib.hid (U.out.below kk13)
  have P := Lib.hid (P.out.below kk13)
  have Q := Lib.hid (Q.out.below kk13)
  have B13 := Lib.hid (B12.out.trans (kk13.mono B12.out.size))
  have R := Lib.hid h13
  clear h13 kk13
  go_wp2_with fail
  refine (Same_l P.out R.out (same_of (nOr _ _) (nOr _ _) (WB.or (Hx.out.wb.or Hy.out.wb) Hz.out.wb) (Hx.out.wb.or (Hy.out.wb.or Hz.out.wb)) fun i => by simp only [bit_SAnd, bit_SOr]; cases bit xs i <;> cases bit ys i <;> cases bit zs i <;> rfl)).mono ?_
  rintro e W14 ⟨rfl, kk14⟩
  have Hx := Lib.hid (Hx.out.below kk14)
  have Hy := Lib.hid (Hy.out.below kk14)
  have Hz := Lib.hid (Hz.out.below kk14)
  have A := Lib.hid (A.out.below kk14)
  have U := Lib.hid (U.out.below kk14)
  have P := Lib.hid (P.out.below kk14)
  have Q := Lib.hid (Q.out.below kk14)
  have R := Lib.hid (R.out.below kk14)
  have B14 := Lib.hid (B13.out.trans (kk14.mono B13.out.size))
  clear kk14
  clear P Q R
  go_wp2_with fail
  refine (And_l U.out Hz.out).mono ?_
  rintro e W15 ⟨a15, cap15, rfl, h15, kk15⟩
  have Hx := Lib.hid (Hx.out.below kk15)
  have Hy := Lib.hid (Hy.out.below kk15)
  have Hz := Lib.hid (Hz.out.below kk15)
  have A := Lib.hid (A.out.below kk15)
  have U := Lib.hid (U.out.below kk15)
  have B15 := Lib.hid (B14.out.trans (kk15.mono B14.out.size))
  have P := Lib.hid h15
  clear h15 kk15
  go_wp2_with fail
  refine (And_l Hx.out Hz.out).mono ?_
  rintro e W16 ⟨a16, cap16, rfl, h16, kk16⟩
  have Hx := Lib.hid (Hx.out.below kk16)
  have Hy := Lib.hid (Hy.out.below kk16)
  have Hz := Lib.hid (Hz.out.below kk16)
  have A := Lib.hid (A.out.below kk16)
  have U := Lib.hid (U.out.below kk16)
  have P := Lib.hid (P.out.below kk16)
  have B16 := Lib.hid (B15.out.trans (kk16.mono B15.out.size))
  have Q := Lib.hid h16
  clear h16 kk16
  go_wp2_with fail
  refine (And_l Hy.out Hz.out).mono ?_
  rintro e W17 ⟨a17, cap17, rfl, h17, kk17⟩
  have Hx := Lib.hid (Hx.out.below kk17)
  have Hy := Lib.hid (Hy.out.below kk17)
  have Hz := Lib.hid (Hz.out.below kk17)
  have A := Lib.hid (A.out.below kk17)
  have U := Lib.hid (U.out.below kk17)
  have P := Lib.hid (P.out.below kk17)
  have Q := Lib.hid (Q.out.below kk17)
  have B17 := Lib.hid (B16.out.trans (kk17.mono B16.out.size))
  have Q2 := Lib.hid h17
  clear h17 kk17
  go_wp2_with fail
  refine (Or_l Q.out Q2.out).mono ?_
  rintro e W18 ⟨a18, cap18, rfl, h18, kk18⟩
  have Hx := Lib.hid (Hx.out.below kk18)
  have Hy := Lib.hid (Hy.out.below kk18)
  have Hz := Lib.hid (Hz.out.below kk18)
  have A := Lib.hid (A.out.below kk18)
  have U := Lib.hid (U.out.below kk18)
  have P := Lib.hid (P.out.below kk18)
  have Q := Lib.hid (Q.out.below kk18)
  have Q2 := Lib.hid (Q2.out.below kk18)
  have B18 := Lib.hid (B17.out.trans (kk18.mono B17.out.size))
  have R := Lib.hid h18
  clear h18 kk18
  go_wp2_with fail
  refine (Same_l P.out R.out (same_of (nAnd _ _) (nOr _ _) (WB.and (Hx.out.wb.or Hy.out.wb)) (WB.or Hx.out.wb.and Hy.out.wb.and) fun i => by simp only [bit_SAnd, bit_SOr]; cases bit xs i <;> cases bit ys i <;> cases bit zs i <;> rfl)).mono ?_
  rintro e W19 ⟨rfl, kk19⟩
  have Hx := Lib.hid (Hx.out.below kk19)
  have Hy := Lib.hid (Hy.out.below kk19)
  have Hz := Lib.hid (Hz.out.below kk19)
  have A := Lib.hid (A.out.below kk19)
  have U := Lib.hid (U.out.below kk19)
  have P := Lib.hid (P.out.below kk19)
  have Q := Lib.hid (Q.out.below kk19)
  have Q2 := Lib.hid (Q2.out.below kk19)
  have R := Lib.hid (R.out.below kk19)
  have B19 := Lib.hid (B18.out.trans (kk19.mono B18.out.size))
  clear kk19
  clear P Q Q2 R
  go_wp2_with fail
  refine (Or_l A.out Hz.out).mono ?_
  rintro e W20 ⟨a20, cap20, rfl, h20, kk20⟩
  have Hx := Lib.hid (Hx.out.below kk20)
  have Hy := Lib.hid (Hy.out.below kk20)
  have Hz := Lib.hid (Hz.out.below kk20)
  have A := Lib.hid (A.out.below kk20)
  have U := Lib.hid (U.out.below kk20)
  have B20 := Lib.hid (B19.out.trans (kk20.mono B19.out.size))
  have P := Lib.hid h20
  clear h20 kk20
  go_wp2_with fail
  refine (Or_l Hx.out Hz.out).mono ?_
  rintro e W21 ⟨a21, cap21, rfl, h21, kk21⟩
  have Hx := Lib.hid (Hx.out.below kk21)
  have Hy := Lib.hid (Hy.out.below kk21)
  have Hz := Lib.hid (Hz.out.below kk21)
  have A := Lib.hid (A.out.below kk21)
  have U := Lib.hid (U.out.below kk21)
  have P := Lib.hid (P.out.below kk21)
  have B21 := Lib.hid (B20.out.trans (kk21.mono B20.out.size))
  have Q := Lib.hid h21
  clear h21 kk21
  go_wp2_with fail
  refine (Or_l Hy.out Hz.out).mono ?_
  rintro e W22 ⟨a22, cap22, rfl, h22, kk22⟩
  have Hx := Lib.hid (Hx.out.below kk22)
  have Hy := Lib.hid (Hy.out.below kk22)
  have Hz := Lib.hid (Hz.out.below kk22)
  have A := Lib.hid (A.out.below kk22)
  have U := Lib.hid (U.out.below kk22)
  have P := Lib.hid (P.out.below kk22)
  have Q := Lib.hid (Q.out.below kk22)
  have B22 := Lib.hid (B21.out.trans (kk22.mono B21.out.size))
  have Q2 := Lib.hid h22
  clear h22 kk22
  go_wp2_with fail
  refine (And_l Q.out Q2.out).mono ?_
  rintro e W23 ⟨a23, cap23, rfl, h23, kk23⟩
  have Hx := Lib.hid (Hx.out.below kk23)
  have Hy := Lib.hid (Hy.out.below kk23)
  have Hz := Lib.hid (Hz.out.below kk23)
  have A := Lib.hid (A.out.below kk23)
  have U := Lib.hid (U.out.below kk23)
  have P := Lib.hid (P.out.below kk23)
  have Q := Lib.hid (Q.out.below kk23)
  have Q2 := Lib.hid (Q2.out.below kk23)
  have B23 := Lib.hid (B22.out.trans (kk23.mono B22.out.size))
  have R := Lib.hid h23
  clear h23 kk23
  go_wp2_with fail
  refine (Same_l P.out R.out (same_of (nOr _ _) (nAnd _ _) (WB.or Hx.out.wb.and Hz.out.wb) (WB.and (Hx.out.wb.or Hz.out.wb)) fun i => by simp only [bit_SAnd, bit_SOr]; cases bit xs i <;> cases bit ys i <;> cases bit zs i <;> rfl)).mono ?_
  rintro e W24 ⟨rfl, kk24⟩
  have Hx := Lib.hid (Hx.out.below kk24)
  have Hy := Lib.hid (Hy.out.below kk24)
  have Hz := Lib.hid (Hz.out.below kk24)
  have A := Lib.hid (A.out.below kk24)
  have U := Lib.hid (U.out.below kk24)
  have P := Lib.hid (P.out.below kk24)
  have Q := Lib.hid (Q.out.below kk24)
  have Q2 := Lib.hid (Q2.out.below kk24)
  have R := Lib.hid (R.out.below kk24)
  have B24 := Lib.hid (B23.out.trans (kk24.mono B23.out.size))
  clear kk24
  clear P Q Q2 R
  go_wp2_with fail
  refine (And_l Hx.out U.out).mono ?_
  rintro e W25 ⟨a25, cap25, rfl, h25, kk25⟩
  have Hx := Lib.hid (Hx.out.below kk25)
  have Hy := Lib.hid (Hy.out.below kk25)
  have Hz := Lib.hid (Hz.out.below kk25)
  have A := Lib.hid (A.out.below kk25)
  have U := Lib.hid (U.out.below kk25)
  have B25 := Lib.hid (B24.out.trans (kk25.mono B24.out.size))
  have P := Lib.hid h25
  clear h25 kk25
  go_wp2_with fail
  refine (Equal_l P.out Hx.out (eq_of Hx.out.wb.and Hx.out.wb fun i => by simp only [bit_SAnd, bit_SOr]; cases bit xs i <;> cases bit ys i <;> rfl)).mono ?_
  rintro e w' ⟨rfl, rfl⟩
  clear P
  go_wp2_with fail
  refine (Or_l Hx.out Hx.out).mono ?_
  rintro e W26 ⟨a26, cap26, rfl, h26, kk26⟩
  have Hx := Lib.hid (Hx.out.below kk26)
  have Hy := Lib.hid (Hy.out.below kk26)
  have Hz := Lib.hid (Hz.out.below kk26)
  have A := Lib.hid (A.out.below kk26)
  have U := Lib.hid (U.out.below kk26)
  have B26 := Lib.hid (B25.out.trans (kk26.mono B25.out.size))
  have P := Lib.hid h26
  clear h26 kk26
  go_wp2_with fail
  refine (Equal_l P.out Hx.out (eq_of (Hx.out.wb.or Hx.out.wb) Hx.out.wb fun i => by simp only [bit_SOr]; cases bit xs i <;> rfl)).mono ?_
  rintro e w' ⟨rfl, rfl⟩
  clear P
  go_wp2_with fail
  refine (Minus_l Hx.out Hy.out).mono ?_
  rintro e W27 ⟨a27, cap27, rfl, h27, kk27⟩
  have Hx := Lib.hid (Hx.out.below kk27)
  have Hy := Lib.hid (Hy.out.below kk27)
  have Hz := Lib.hid (Hz.out.below kk27)
  have A := Lib.hid (A.out.below kk27)
  have U := Lib.hid (U.out.below kk27)
  have B27 := Lib.hid (B26.out.trans (kk27.mono B26.out.size))
  have D := Lib.hid h27
  clear h27 kk27
  go_wp2_with fail
  refine (And_l D.out Hy.out).mono ?_
  rintro e W28 ⟨a28, cap28, rfl, h28, kk28⟩
  have Hx := Lib.hid (Hx.out.below kk28)
  have Hy := Lib.hid (Hy.out.below kk28)
  have Hz := Lib.hid (Hz.out.below kk28)
  have A := Lib.hid (A.out.below kk28)
  have U := Lib.hid (U.out.below kk28)
  have D := Lib.hid (D.out.below kk28)
  have B28 := Lib.hid (B27.out.trans (kk28.mono B27.out.size))
  have P := Lib.hid h28
  clear h28 kk28
  have hnil := SAnd_nil xs ys Hx.out.wb Hy.out.wb
  rw [hnil]
  clear hnil
  clear P
  go_wp2_with fail
  refine (Or_l D.out A.out).mono ?_
  rintro e W29 ⟨a29, cap29, rfl, h29, kk29⟩
  have Hx := Lib.hid (Hx.out.below kk29)
  have Hy := Lib.hid (Hy.out.below kk29)
  have Hz := Lib.hid (Hz.out.below kk29)
  have A := Lib.hid (A.out.below kk29)
  have U := Lib.hid (U.out.below kk29)
  have D := Lib.hid (D.out.below kk29)
  have B29 := Lib.hid (B28.out.trans (kk29.mono B28.out.size))
  have P := Lib.hid h29
  clear h29 kk29
  go_wp2_with fail
  refine (Equal_l P.out Hx.out (eq_of (WB.or Hx.out.wb.minus Hx.out.wb.and) Hx.out.wb fun i => by simp only [bit_SOr, bit_SAnd, bit_SMinus Hy.out.wb]; cases bit xs i <;> cases bit ys i <;> rfl)).mono ?_
  rintro e w' ⟨rfl, rfl⟩
  clear P D
  have hsum := cnt_sum Hx.out.wb Hy.out.wb qx qy
  have q1 := cnt_le (SOr xs ys) (SOr xs ys).length
  have q2 := cnt_le (SAnd xs ys) (SAnd xs ys).length
  have q3 := cnt_le xs xs.length
  have q4 := cnt_le ys ys.length
  have q5 := U.out.2
  have q6 := A.out.2
  obtain ⟨c1, ec1⟩ : ∃ c, cnt (SOr xs ys) (SOr xs ys).length = c := ⟨_, rfl⟩
  rw [ec1] at hsum
  have Ec1 := Lib.hid ec1
  obtain ⟨c2, ec2⟩ : ∃ c, cnt (SAnd xs ys) (SAnd xs ys).length = c := ⟨_, rfl⟩
  rw [ec2] at hsum
  have Ec2 := Lib.hid ec2
  obtain ⟨c3, ec3⟩ : ∃ c, cnt xs xs.length = c := ⟨_, rfl⟩
  rw [ec3] at hsum
  have Ec3 := Lib.hid ec3
  obtain ⟨c4, ec4⟩ : ∃ c, cnt ys ys.length = c := ⟨_, rfl⟩
  rw [ec4] at hsum
  have Ec4 := Lib.hid ec4
  rw [ec1] at q1
  clear ec1
  rw [ec2] at q2
  clear ec2
  rw [ec3] at q3
  clear ec3
  rw [ec4] at q4
  clear ec4
  have hs2 : (((c1 : Nat) : Int) + ((c2 : Nat) : Int) == ((c3 : Nat) : Int) + ((c4 : Nat) : Int)) = true := by rw [beq_iff_eq]; omega
  clear hsum
  go_wp2_with fail
  refine (Count_val c1 _ _ _ _ _ U.out.1 (by have := U.out.2; omega) Ec1.out).mono ?_
  rintro e w' ⟨rfl, rfl⟩
  go_wp2_with fail
  refine (Count_val c2 _ _ _ _ _ A.out.1 (by have := A.out.2; omega) Ec2.out).mono ?_
  rintro e w' ⟨rfl, rfl⟩
  go_wp2_with fail
  refine (Count_val c3 _ _ _ _ _ Hx.out.1 (by have := Hx.out.2; omega) Ec3.out).mono ?_
  rintro e w' ⟨rfl, rfl⟩
  go_wp2_with fail
  refine (Count_val c4 _ _ _ _ _ Hy.out.1 (by have := Hy.out.2; omega) Ec4.out).mono ?_
  rintro e w' ⟨rfl, rfl⟩
  go_wp2_with fail
  refine (ex_holds _ (HT.out.below B29.out)).mono ?_
  rintro e W30 ⟨rfl, kk30⟩
  have Hx := Lib.hid (Hx.out.below kk30)
  have Hy := Lib.hid (Hy.out.below kk30)
  have Hz := Lib.hid (Hz.out.below kk30)
  have A := Lib.hid (A.out.below kk30)
  have U := Lib.hid (U.out.below kk30)
  have B30 := Lib.hid (B29.out.trans (kk30.mono B29.out.size))
  clear kk30
  go_wp2
  go_ret
  exact ⟨rfl, B30.out⟩

end Go.Proofs.YtlphlbhbhcpnpaaDoor
