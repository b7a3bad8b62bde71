/- Walks of the laws PosetChecks, PosetOrders. -/
import Derived.Test.YtokbfplligdaeaaQf
namespace Go.Proofs.Ytokbfplligdaeaa
open Go.RowKit Go.Maps

set_option maxRecDepth 100000 in
theorem PosetChecks_law (w : World) (a : Option Addr) (n cap : Nat) (D : List Dec) (h : IsDecs w a n cap D) :
    Calls Try.prog 3 #[.slice a n cap] w fun e w' => e = .returned (.bool true) ∧ Below w.heap.size w w' := by
  have HD := Lib.hid h
  obtain ⟨b, hb⟩ : ∃ b, lite D = b := ⟨_, rfl⟩
  have LT : Hid (Calls Try.prog 11 #[.slice a n cap] w fun e w' => e = .returned (.bool b) ∧ w = w') := hb ▸ Light_any w a n cap D h
  clear h
  go_enter Try.func3, Try.ntmps3
  cases b
  · go_wp2_with (first
      | (go_at_call 11; refine LT.out.mono ?_; rintro e w1 ⟨rfl, rfl⟩)
      | (go_at_call 12; refine (ex_holds _).mono ?_; rintro e w2 ⟨rfl, hb2⟩))
    go_ret
    exact ⟨rfl, hb2⟩
  · go_wp2_with (first
      | (go_at_call 11; refine LT.out.mono ?_; rintro e w1 ⟨rfl, rfl⟩)
      | (go_at_call 13; refine (Check_any _ _ _ _ _ HD.out).mono ?_; rintro e w2 ⟨rfl, hb2⟩)
      | (go_at_call 14; refine (rCheck_any _ _ _ _ _ (HD.out.below hb2)).mono ?_; rintro e w3 ⟨rfl, hb3⟩; have B3 := Lib.hid (hb2.trans (hb3.mono hb2.size)); clear hb2 hb3)
      | (go_at_call 12; refine (ex_holds _).mono ?_; rintro e w4 ⟨rfl, hb4⟩))
    go_ret
    exact ⟨rfl, B3.out.trans (hb4.mono B3.out.size)⟩

set_option maxRecDepth 100000 in
theorem PosetOrders_law (w : World) (a : Option Addr) (n cap : Nat) (D : List Dec) (h : IsDecs w a n cap D) :
    Calls Try.prog 4 #[.slice a n cap] w fun e w' => e = .returned (.bool true) ∧ Below w.heap.size w w' := by
  have HD := Lib.hid h
  obtain ⟨b, hb⟩ : ∃ b, lite D = b := ⟨_, rfl⟩
  have LT : Hid (Calls Try.prog 11 #[.slice a n cap] w fun e w' => e = .returned (.bool b) ∧ w = w') := hb ▸ Light_any w a n cap D h
  clear h
  go_enter Try.func4, Try.ntmps4
  cases b
  · go_wp2_with (first
      | (go_at_call 11; refine LT.out.mono ?_; rintro e w1 ⟨rfl, rfl⟩)
      | (go_at_call 12; refine (ex_holds _).mono ?_; rintro e w2 ⟨rfl, hb2⟩))
    go_ret
    exact ⟨rfl, hb2⟩
  · go_wp2_with (first
      | (go_at_call 11; refine LT.out.mono ?_; rintro e w1 ⟨rfl, rfl⟩)
      | (go_at_call 15; refine (Order_any _ _ _ _ _ HD.out).mono ?_; intro e w2 hx; obtain ⟨a2, c2, rfl, h2, hb2⟩ := hx.eq _ rfl; clear hx)
      | (go_at_call 16; refine (rOrder_any _ _ _ _ _ (HD.out.below hb2)).mono ?_; intro e w3 hx; obtain ⟨a3, c3, rfl, h3, hb3⟩ := hx.eq _ rfl; have H2 := Lib.hid (h2.below hb3); have H3 := Lib.hid h3; have B3 := Lib.hid (hb2.trans (hb3.mono hb2.size)); clear hb2 hb3 hx h2 h3)
      | (go_at_call 17; refine (SameStrings_val true _ _ _ _ _ _ _ _ _ H2.out H3.out (by unfold sameS; simp)).mono ?_; rintro e w4 ⟨rfl, hb4⟩; have B4 := Lib.hid (B3.out.trans (hb4.mono B3.out.size)); clear hb4)
      | (go_at_call 12; refine (ex_holds _).mono ?_; rintro e w5 ⟨rfl, hb5⟩))
    go_ret
    exact ⟨rfl, B4.out.trans (hb5.mono B4.out.size)⟩
end Go.Proofs.Ytokbfplligdaeaa
