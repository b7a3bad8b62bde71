/- Walks of the laws of poset: exampleHolds. -/
import Derived.Test.YtmhbblehgckelaaQe
namespace Go.Proofs.Ytmhbblehgckelaa
open Go.RowKit Go.Maps

def exX : List Dec := [⟨[97], [[98]], 0⟩, ⟨[98], [[97]], 0⟩, ⟨[116], [], 0⟩]
abbrev exX1 (w : World) : World := (((((w.alloc (.cells #[exS 98] 9)).alloc (.cells #[exS 97, .slice (some ⟨w.heap.size, 0, none⟩) 1 1, .slice none 0 0] 35)).alloc (.cells #[exS 97] 9)).alloc (.cells #[exS 98, .slice (some ⟨w.heap.size + 1 + 1, 0, none⟩) 1 1, .slice none 0 0] 35)).alloc (.cells #[exS 116, .slice none 0 0, .slice none 0 0] 35))
abbrev exXW (w : World) : World := (exX1 w).alloc (.cells #[exS 97, .slice (some ⟨w.heap.size, 0, none⟩) 1 1, .slice none 0 0, exS 98, .slice (some ⟨w.heap.size + 1 + 1, 0, none⟩) 1 1, .slice none 0 0, exS 116, .slice none 0 0, .slice none 0 0] 35)
theorem exX_is (w : World) (n : Nat) (hn : n ≤ 3) : IsDecs (exXW w) (some ⟨w.heap.size + 1 + 1 + 1 + 1 + 1, 0, none⟩) n 3 (exX.take n) ∧ Below w.heap.size w (exXW w) := by
  have s1 := ((((lit_at w [[98]] (by decide) (by decide) _ rfl (by decide)).below (ba _ (.cells #[exS 97, .slice (some ⟨w.heap.size, 0, none⟩) 1 1, .slice none 0 0] 35))).below (ba _ (.cells #[exS 97] 9))).below (ba _ (.cells #[exS 98, .slice (some ⟨w.heap.size + 1 + 1, 0, none⟩) 1 1, .slice none 0 0] 35))).below (ba _ (.cells #[exS 116, .slice none 0 0, .slice none 0 0] 35))
  have s2 := ((lit_at ((w.alloc (.cells #[exS 98] 9)).alloc (.cells #[exS 97, .slice (some ⟨w.heap.size, 0, none⟩) 1 1, .slice none 0 0] 35)) [[97]] (by decide) (by decide) (w.heap.size + 1 + 1) (by simp) (by decide)).below (ba _ (.cells #[exS 98, .slice (some ⟨w.heap.size + 1 + 1, 0, none⟩) 1 1, .slice none 0 0] 35))).below (ba _ (.cells #[exS 116, .slice none 0 0, .slice none 0 0] 35))
  have hbb : w.heap.size + 1 + 1 + 1 + 1 + 1 = (exX1 w).heap.size := by simp
  have hd : ∀ i, i < n → dc (exX.take n) i = dc exX i := fun i hi => by
    unfold dc
    simp [List.getD_eq_getElem?_getD, List.getElem?_take, hi]
  refine ⟨⟨by rw [List.length_take]; exact Nat.min_eq_left hn, hn, by decide, fun _ => ⟨_, _, rfl, by simp, fun i hi => ?_⟩⟩, ?_⟩
  · rw [hd i hi]
    rcases i with _ | _ | _ | i
    · exact ⟨some ⟨w.heap.size, 0, none⟩, 1, none, 0, dec_new (exX1 w) _ _ _ 0 hbb (dc exX 0) _ _ rfl rfl rfl s1 rfl (by decide)⟩
    · exact ⟨some ⟨w.heap.size + 1 + 1, 0, none⟩, 1, none, 0, dec_new (exX1 w) _ _ _ 3 hbb (dc exX 1) _ _ rfl rfl rfl s2 rfl (by decide)⟩
    · exact ⟨none, 0, none, 0, dec_new (exX1 w) _ _ _ 6 hbb (dc exX 2) _ _ rfl rfl rfl (IsStrs.nil _) rfl (by decide)⟩
    · omega
  · refine ((((((Below.refl _ _).alloc ?_ _).alloc ?_ _).alloc ?_ _).alloc ?_ _).alloc ?_ _).alloc ?_ _ <;> (simp; try omega)
theorem IsDecs.nil (w : World) : IsDecs w none 0 0 [] := ⟨rfl, Nat.le_refl _, Nat.zero_le _, fun h => absurd h (Nat.lt_irrefl _)⟩

theorem ex_chk : chkN exD = 0 := by unfold chkN chk; rw [plc_eq]; decide +kernel
theorem ex_ord : ordN exD = [[116], [97], [98], [99]] := by unfold ordN; rw [if_pos ex_chk, plc_eq]; decide +kernel
theorem ex_ab : ab exD [99] = [[97], [98], [99], [116]] := by decide +kernel
theorem ex_bl : bl exD [97] = [[97], [99]] := by decide +kernel
theorem ex_mn : mn exD [[98], [97], [99]] = [[99]] := by decide +kernel
theorem ex_mx : mx exD [[99], [97], [120], [97]] = [[97]] := by decide +kernel
theorem ex_c3 : chkN (exX.take 3) = 6 := by unfold chkN chk; rw [plc_eq]; decide +kernel
theorem ex_c2 : chkN (exX.take 2) = 1 := by unfold chkN chk; rw [plc_eq]; decide +kernel
theorem ex_c1 : chkN (exX.take 1) = 5 := by unfold chkN chk; rw [plc_eq]; decide +kernel
theorem ex_c0 : chkN [] = 1 := by unfold chkN chk; rw [plc_eq]; decide +kernel
theorem lit_ (w : World) (zs : List Str) (hs : ∀ z ∈ zs, z.length ≤ maxLen) (hl : zs.length ≤ maxLen) (h0 : 0 < zs.length) : IsStrs (w.alloc (.cells (svals zs).toArray 9)) (some ⟨w.heap.size, 0, none⟩) zs.length zs.length zs := lit_at w zs hs hl _ rfl h0

set_option maxRecDepth 100000 in
theorem ex_holds (w : World) : Calls Try.prog 7 #[] w fun e w' => e = .returned (.bool true) ∧ Below w.heap.size w w' := by
  go_enter Try.func7, Try.ntmps7
  go_wp2_with (go_at_call 15; refine (decl_any _ _ _ _ _).mono ?_; rintro e w' ⟨rfl, rfl⟩)
  have HD := Lib.hid (exW_is w).1
  have B0 := Lib.hid (exW_is w).2
  refine (Order_any (exW w) _ 4 4 exD HD.out).mono ?_
  obtain ⟨W0, hW0⟩ : ∃ W0, exW w = W0 := ⟨_, rfl⟩
  rw [hW0] at HD B0
  rw [ex_chk]
  intro e W1 hx
  obtain ⟨a1, c1, rfl, h1, hb1⟩ := hx.eq _ ex_ord
  rw [hW0] at hb1
  have HD := Lib.hid (HD.out.below hb1)
  have B1 := Lib.hid (B0.out.trans (hb1.mono B0.out.size))
  have H1 := Lib.hid h1
  clear hx h1 hb1 B0 hW0
  go_wp2_with fail
  refine (SameStrings_val true _ _ _ _ _ _ _ _ _ (H1.out.below (ba _ _)) (lit_ W1 [[116], [97], [98], [99]] (by decide) (by decide) (by decide)) (by decide)).mono ?_
  rintro e W2 ⟨rfl, hb2⟩
  have k2 : Below W1.heap.size W1 W2 := (ba _ _).trans (hb2.mono (by simp))
  have HD := Lib.hid (HD.out.below k2)
  have B2 := Lib.hid (B1.out.trans (k2.mono B1.out.size))
  clear hb2 k2 B1 H1
  go_wp2_with fail
  refine (Above_any _ _ _ _ _ HD.out ex_chk [99] (by decide)).mono ?_
  intro e W3 hx
  obtain ⟨a3, c3, rfl, h3, hb3⟩ := hx.eq _ ex_ab
  have HD := Lib.hid (HD.out.below hb3)
  have B3 := Lib.hid (B2.out.trans (hb3.mono B2.out.size))
  have H3 := Lib.hid h3
  clear hx h3 hb3 B2
  go_wp2_with fail
  refine (SameStrings_val true _ _ _ _ _ _ _ _ _ (H3.out.below (ba _ _)) (lit_ W3 [[97], [98], [99], [116]] (by decide) (by decide) (by decide)) (by decide)).mono ?_
  rintro e W4 ⟨rfl, hb4⟩
  have k4 : Below W3.heap.size W3 W4 := (ba _ _).trans (hb4.mono (by simp))
  have HD := Lib.hid (HD.out.below k4)
  have B4 := Lib.hid (B3.out.trans (k4.mono B3.out.size))
  clear hb4 k4 B3 H3
  go_wp2_with fail
  refine (Below_any _ _ _ _ _ HD.out ex_chk [97] (by decide)).mono ?_
  intro e W5 hx
  obtain ⟨a5, c5, rfl, h5, hb5⟩ := hx.eq _ ex_bl
  have HD := Lib.hid (HD.out.below hb5)
  have B5 := Lib.hid (B4.out.trans (hb5.mono B4.out.size))
  have H5 := Lib.hid h5
  clear hx h5 hb5 B4
  go_wp2_with fail
  refine (SameStrings_val true _ _ _ _ _ _ _ _ _ (H5.out.below (ba _ _)) (lit_ W5 [[97], [99]] (by decide) (by decide) (by decide)) (by decide)).mono ?_
  rintro e W6 ⟨rfl, hb6⟩
  have k6 : Below W5.heap.size W5 W6 := (ba _ _).trans (hb6.mono (by simp))
  have HD := Lib.hid (HD.out.below k6)
  have B6 := Lib.hid (B5.out.trans (k6.mono B5.out.size))
  clear hb6 k6 B5 H5
  go_wp2_with fail
  refine (Minimal_any _ _ _ _ _ (HD.out.below (ba _ _)) ex_chk _ _ _ [[98], [97], [99]] (lit_ W6 [[98], [97], [99]] (by decide) (by decide) (by decide)) (by decide)).mono ?_
  intro e W7 hx
  obtain ⟨a7, c7, rfl, h7, hb7⟩ := hx.eq _ ex_mn
  have k7 : Below W6.heap.size W6 W7 := (ba _ _).trans (hb7.mono (by simp))
  have HD := Lib.hid (HD.out.below k7)
  have B7 := Lib.hid (B6.out.trans (k7.mono B6.out.size))
  have H7 := Lib.hid h7
  clear hx h7 hb7 k7 B6
  go_wp2_with fail
  refine (SameStrings_val true _ _ _ _ _ _ _ _ _ (H7.out.below (ba _ _)) (lit_ W7 [[99]] (by decide) (by decide) (by decide)) (by decide)).mono ?_
  rintro e W8 ⟨rfl, hb8⟩
  have k8 : Below W7.heap.size W7 W8 := (ba _ _).trans (hb8.mono (by simp))
  have HD := Lib.hid (HD.out.below k8)
  have B8 := Lib.hid (B7.out.trans (k8.mono B7.out.size))
  clear hb8 k8 B7 H7
  go_wp2_with fail
  refine (Maximal_any _ _ _ _ _ (HD.out.below (ba _ _)) ex_chk _ _ _ [[99], [97], [120], [97]] (lit_ W8 [[99], [97], [120], [97]] (by decide) (by decide) (by decide)) (by decide)).mono ?_
  intro e W9 hx
  obtain ⟨a9, c9, rfl, h9, hb9⟩ := hx.eq _ ex_mx
  have k9 : Below W8.heap.size W8 W9 := (ba _ _).trans (hb9.mono (by simp))
  have B9 := Lib.hid (B8.out.trans (k9.mono B8.out.size))
  have H9 := Lib.hid h9
  clear hx h9 hb9 k9 B8 HD
  go_wp2_with fail
  refine (SameStrings_val true _ _ _ _ _ _ _ _ _ (H9.out.below (ba _ _)) (lit_ W9 [[97]] (by decide) (by decide) (by decide)) (by decide)).mono ?_
  rintro e Wa ⟨rfl, hba⟩
  have ka : Below W9.heap.size W9 Wa := (ba _ _).trans (hba.mono (by simp))
  have Ba := Lib.hid (B9.out.trans (ka.mono B9.out.size))
  clear hba ka B9 H9
  go_wp2_with (go_at_call 15; refine (decl_any _ _ _ _ _).mono ?_; rintro e w' ⟨rfl, rfl⟩)
  have HX := Lib.hid (fun n hn => (exX_is Wa n hn).1)
  have Bb := Lib.hid (Ba.out.trans ((exX_is Wa 0 (by decide)).2.mono Ba.out.size))
  refine (Check_val 6 (exXW Wa) _ 3 3 _ (HX.out 3 (by decide)) ex_c3).mono ?_
  obtain ⟨Wx, hWx⟩ : ∃ Wx, exXW Wa = Wx := ⟨_, rfl⟩
  rw [hWx] at Bb HX
  rintro e Wb ⟨rfl, hbb⟩
  rw [hWx] at hbb
  have HX := Lib.hid (fun n hn => (HX.out n hn).below hbb)
  have Bb := Lib.hid (Bb.out.trans (hbb.mono Bb.out.size))
  clear hbb hWx Ba
  go_wp2_with fail
  refine (Check_val 1 _ _ 2 3 _ (HX.out 2 (by decide)) ex_c2).mono ?_
  rintro e Wc ⟨rfl, hbc⟩
  have HX := Lib.hid (fun n hn => (HX.out n hn).below hbc)
  have Bc := Lib.hid (Bb.out.trans (hbc.mono Bb.out.size))
  clear hbc Bb
  go_wp2_with fail
  refine (Check_val 5 _ _ 1 3 _ (HX.out 1 (by decide)) ex_c1).mono ?_
  rintro e Wd ⟨rfl, hbd⟩
  have Bd := Lib.hid (Bc.out.trans (hbd.mono Bc.out.size))
  clear hbd Bc HX
  go_wp2_with fail
  refine (Check_val 1 _ _ 0 0 _ (IsDecs.nil _) ex_c0).mono ?_
  rintro e We ⟨rfl, hbe⟩
  have Be := Lib.hid (Bd.out.trans (hbe.mono Bd.out.size))
  clear hbe Bd
  go_wp2_with fail
  go_ret
  exact ⟨rfl, Be.out⟩
end Go.Proofs.Ytmhbblehgckelaa
