/- The walk of the law PosetExtremes. -/
import Derived.Test.YtokbfplligdaeaaQl
namespace Go.Proofs.Ytokbfplligdaeaa
open Go.RowKit Go.Maps

set_option maxRecDepth 100000 in
set_option maxHeartbeats 3200000 in
theorem PosetExtremes_law (w : World) (a : Option Addr) (n cap : Nat) (D : List Dec) (h : IsDecs w a n cap D) (na : Option Addr) (m nc : Nat) (l : List Str) (hl : IsStrs w na m nc l) :
    Calls Try.prog 6 #[.slice a n cap, .slice na m nc] w fun e w' => e = .returned (.bool true) ∧ Below w.heap.size w w' := by
  have HD := Lib.hid h
  have HN := Lib.hid hl
  have hml := hl.capLe
  have hmm := hl.maxLe
  unfold maxLen at hmm
  have VA := Lib.hid (valid_any w a n cap D h)
  clear h hl
  go_enter Try.func6, Try.ntmps6
  go_wp2_with fail
  refine VA.out.mono ?_
  rintro e w1 ⟨b, rfl, hv, hb1⟩
  have B1 := Lib.hid hb1
  have HD := Lib.hid (HD.out.below hb1)
  have HN := Lib.hid (HN.out.below hb1)
  clear hb1 VA
  cases b
  · clear hv
    go_wp2_with (go_at_call 12; refine (ex_holds _).mono ?_; rintro e w2 ⟨rfl, hb2⟩)
    go_ret
    exact ⟨rfl, B1.out.trans (hb2.mono B1.out.size)⟩
  · have hc : chkN D = 0 := (hv.1 rfl).2
    have HC := Lib.hid hc
    clear hv hc
    by_cases hbig : 30 < m
    · have h30 : decide ((30 : Int) < (m : Int)) = true := by simp; omega
      go_wp2_with (go_at_call 12; refine (ex_holds _).mono ?_; rintro e w2 ⟨rfl, hb2⟩)
      go_ret
      exact ⟨rfl, B1.out.trans (hb2.mono B1.out.size)⟩
    · have h30 : decide ((30 : Int) < (m : Int)) = false := by simp; omega
      have hs5 : sameS (mx D l) (mx D l) = true := by unfold sameS; simp
      have hs7 : sameS (mn D l) (mn D l) = true := by unfold sameS; simp
      go_wp2_with (first
        | (go_at_call 24; refine (Maximal_any _ _ _ _ _ HD.out HC.out _ _ _ _ HN.out (by omega)).mono ?_; intro e w2 hx; obtain ⟨a5, c5, rfl, h5, hb2⟩ := hx.eq _ rfl; have HD2 := Lib.hid (HD.out.below hb2); have HN2 := Lib.hid (HN.out.below hb2); have B2 := Lib.hid (B1.out.trans (hb2.mono B1.out.size)); have H5 := Lib.hid h5; clear hx h5 hb2)
        | (go_at_call 25; refine (rMaximal_any _ _ _ _ _ HD2.out HC.out _ _ _ _ HN2.out (by omega)).mono ?_; intro e w3 hx; obtain ⟨a6, c6, rfl, h6, hb3⟩ := hx.eq _ rfl; have HD3 := Lib.hid (HD2.out.below hb3); have HN3 := Lib.hid (HN2.out.below hb3); have B3 := Lib.hid (B2.out.trans (hb3.mono B2.out.size)); have H53 := Lib.hid (H5.out.below hb3); have H6 := Lib.hid h6; clear hx h6 hb3)
        | (go_at_call 17; (with_reducible refine (SameStrings_val true _ _ _ _ _ _ _ _ _ H53.out H6.out hs5).mono ?_); rintro e w4 ⟨rfl, hb4⟩; have HD4 := Lib.hid (HD3.out.below hb4); have HN4 := Lib.hid (HN3.out.below hb4); have B4 := Lib.hid (B3.out.trans (hb4.mono B3.out.size)); clear hb4)
        | (go_at_call 26; refine (Minimal_any _ _ _ _ _ HD4.out HC.out _ _ _ _ HN4.out (by omega)).mono ?_; intro e w5 hx; obtain ⟨a7, c7, rfl, h7, hb5⟩ := hx.eq _ rfl; have HD5 := Lib.hid (HD4.out.below hb5); have HN5 := Lib.hid (HN4.out.below hb5); have B5 := Lib.hid (B4.out.trans (hb5.mono B4.out.size)); have H7 := Lib.hid h7; clear hx h7 hb5)
        | (go_at_call 27; refine (rMinimal_any _ _ _ _ _ HD5.out HC.out _ _ _ _ HN5.out (by omega)).mono ?_; intro e w6 hx; obtain ⟨a8, c8, rfl, h8, hb6⟩ := hx.eq _ rfl; have B6 := Lib.hid (B5.out.trans (hb6.mono B5.out.size)); have H76 := Lib.hid (H7.out.below hb6); have H8 := Lib.hid h8; clear hx h8 hb6)
        | (go_at_call 17; (with_reducible refine (SameStrings_val true _ _ _ _ _ _ _ _ _ H76.out H8.out hs7).mono ?_); rintro e w7 ⟨rfl, hb7⟩; have B7 := Lib.hid (B6.out.trans (hb7.mono B6.out.size)); clear hb7)
        | (go_at_call 12; refine (ex_holds _).mono ?_; rintro e w8 ⟨rfl, hb8⟩))
      go_ret
      exact ⟨rfl, B7.out.trans (hb8.mono B7.out.size)⟩
end Go.Proofs.Ytokbfplligdaeaa
