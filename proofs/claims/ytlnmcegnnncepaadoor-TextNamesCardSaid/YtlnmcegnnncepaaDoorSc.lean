/- Walks of the laws of package text: TextNames, TextNumbers, TextWords. -/
import Derived.Test.YtlnmcegnnncepaaDoorSb
namespace Go.Proofs.YtlnmcegnnncepaaDoor
open Go.RowKit

set_option maxRecDepth 100000 in
theorem TextNames_law (W : World) (s : ByteArray) (hs : s.size ≤ maxLen) (hT : TxtOk W) :
    Calls Tryd.prog 3 #[.string s] W fun e W' => e = .returned (.bool true) ∧ Below W.heap.size W W' := by
  have HT := Lib.hid hT
  have HS := Lib.hid hs
  unfold maxLen at hs
  clear hT
  by_cases hbig : 200 < s.size
  · go_enter Tryd.func3, Tryd.ntmps3
    go_wp2_with (go_at_call 15; refine (exampleHolds_any _ HT.out).mono ?_; rintro e w1 ⟨rfl, hb1⟩)
    go_ret
    exact ⟨rfl, hb1⟩
  have hs2 : s.size ≤ 200 := by omega
  obtain ⟨n1, h1⟩ : ∃ b, isNam kLow s.data.toList = b := ⟨_, rfl⟩
  obtain ⟨n2, h2⟩ : ∃ b, isNam kUp s.data.toList = b := ⟨_, rfl⟩
  obtain ⟨n3, h3⟩ : ∃ b, isWrd s = b := ⟨_, rfl⟩
  have C1 := Lib.hid (show ∀ w, Calls Tryd.prog 16 #[.string s] w fun e w' => e = .returned (.bool n1) ∧ Below w.heap.size w w' from fun w => h1 ▸ Name_any s w HS.out)
  have D1 := Lib.hid (show ∀ w, Calls Tryd.prog 17 #[.string s] w fun e w' => e = .returned (.bool n1) ∧ w = w' from fun w => h1 ▸ rName_any s w HS.out)
  have C2 := Lib.hid (show ∀ w, Calls Tryd.prog 18 #[.string s] w fun e w' => e = .returned (.bool n2) ∧ Below w.heap.size w w' from fun w => h2 ▸ Feature_any s w HS.out)
  have D2 := Lib.hid (show ∀ w, Calls Tryd.prog 19 #[.string s] w fun e w' => e = .returned (.bool n2) ∧ w = w' from fun w => h2 ▸ rFeature_any s w HS.out)
  have C3 := Lib.hid (show ∀ w, Calls Tryd.prog 20 #[.string s] w fun e w' => e = .returned (.bool n3) ∧ Below w.heap.size w w' from fun w => h3 ▸ Word_any s w HS.out)
  have D3 := Lib.hid (show ∀ w, Calls Tryd.prog 21 #[.string s] w fun e w' => e = .returned (.bool n3) ∧ w = w' from fun w => h3 ▸ rWord_any s w HS.out)
  clear h1 h2 h3 hbig
  go_enter Tryd.func3, Tryd.ntmps3
  go_wp2_with (first
    | (go_at_call 16; refine (C1.out _).mono ?_; rintro e w1 ⟨rfl, hb1⟩)
    | (go_at_call 17; refine (D1.out _).mono ?_; rintro e w1' ⟨rfl, rfl⟩)
    | (go_at_call 18; refine (C2.out _).mono ?_; rintro e w2 ⟨rfl, hb2⟩; have B2 := hb1.trans (hb2.mono hb1.size))
    | (go_at_call 19; refine (D2.out _).mono ?_; rintro e w2' ⟨rfl, rfl⟩)
    | (go_at_call 20; refine (C3.out _).mono ?_; rintro e w3 ⟨rfl, hb3⟩; have B3 := B2.trans (hb3.mono B2.size))
    | (go_at_call 21; refine (D3.out _).mono ?_; rintro e w3' ⟨rfl, rfl⟩)
    | (go_at_call 15; refine (exampleHolds_any _ (HT.out.below B3)).mono ?_; rintro e w4 ⟨rfl, hb4⟩; have B4 := B3.trans (hb4.mono B3.size)))
  go_ret
  exact ⟨rfl, B4⟩

set_option maxRecDepth 100000 in
theorem TextNumbers_law (W : World) (s : ByteArray) (hs : s.size ≤ maxLen) (n : Int) (hn : -9223372036854775808 ≤ n ∧ n ≤ 9223372036854775807) (hT : TxtOk W) :
    Calls Tryd.prog 4 #[.string s, .int .i64 n] W fun e W' => e = .returned (.bool true) ∧ Below W.heap.size W W' := by
  have HT := Lib.hid hT
  have HN := Lib.hid hn
  unfold maxLen at hs
  clear hT hn
  by_cases hbig : 200 < s.size
  · go_enter Tryd.func4, Tryd.ntmps4
    go_wp2_with (go_at_call 15; refine (exampleHolds_any _ HT.out).mono ?_; rintro e w1 ⟨rfl, hb1⟩)
    go_ret
    exact ⟨rfl, hb1⟩
  have hs2 : s.size ≤ 200 := by omega
  have HS := Lib.hid (show s.size ≤ 1000000 by omega)
  obtain ⟨v, h1⟩ : ∃ b, numV s.data.toList = b := ⟨_, rfl⟩
  obtain ⟨x, h2⟩ : ∃ b, numE s.data.toList = b := ⟨_, rfl⟩
  obtain ⟨t, h3⟩ : ∃ b, mk (Lib.itoa n) = b := ⟨_, rfl⟩
  have C1 := Lib.hid (show ∀ w, TxtOk w → Calls Tryd.prog 22 #[.string s] w fun e w' => e = .returned (.tuple #[.int .i64 v, .int .i64 x]) ∧ Below w.heap.size w w' from fun w hw => h1 ▸ h2 ▸ Number_any s w HS.out hw)
  have D1 := Lib.hid (show ∀ w, Calls Tryd.prog 23 #[.string s] w fun e w' => e = .returned (.tuple #[.int .i64 v, .int .i64 x]) ∧ w = w' from fun w => h1 ▸ h2 ▸ rNumber_any s w HS.out)
  have C2 := Lib.hid (show ∀ w, TxtOk w → Calls Tryd.prog 24 #[.int .i64 n] w fun e w' => e = .returned (.string t) ∧ Below w.heap.size w w' from fun w hw => h3 ▸ Decimal_any n HN.out.1 HN.out.2 w hw)
  have D2 := Lib.hid (show ∀ w, Calls Tryd.prog 25 #[.int .i64 n] w fun e w' => e = .returned (.string t) ∧ Below w.heap.size w w' from fun w => h3 ▸ rDecimal_any n HN.out.1 HN.out.2 w)
  clear h1 h2 h3 hbig
  go_enter Tryd.func4, Tryd.ntmps4
  go_wp2_with (first
    | (go_at_call 22; refine (C1.out _ HT.out).mono ?_; rintro e w1 ⟨rfl, hb1⟩)
    | (go_at_call 23; refine (D1.out _).mono ?_; rintro e w1' ⟨rfl, rfl⟩)
    | (go_at_call 24; refine (C2.out _ (HT.out.below hb1)).mono ?_; rintro e w2 ⟨rfl, hb2⟩; have B2 := hb1.trans (hb2.mono hb1.size))
    | (go_at_call 25; refine (D2.out _).mono ?_; rintro e w3 ⟨rfl, hb3⟩; have B3 := B2.trans (hb3.mono B2.size))
    | (go_at_call 15; refine (exampleHolds_any _ (HT.out.below B3)).mono ?_; rintro e w4 ⟨rfl, hb4⟩; have B4 := B3.trans (hb4.mono B3.size)))
  go_ret
  exact ⟨rfl, B4⟩

set_option maxRecDepth 100000 in
theorem TextWords_law (W : World) (s : ByteArray) (hs : s.size ≤ maxLen) (hT : TxtOk W) :
    Calls Tryd.prog 5 #[.string s] W fun e W' => e = .returned (.bool true) ∧ Below W.heap.size W W' := by
  have HT := Lib.hid hT
  unfold maxLen at hs
  clear hT
  by_cases hbig : 2000 < s.size
  · go_enter Tryd.func5, Tryd.ntmps5
    go_wp2_with (go_at_call 15; refine (exampleHolds_any _ HT.out).mono ?_; rintro e w1 ⟨rfl, hb1⟩)
    go_ret
    exact ⟨rfl, hb1⟩
  have hs2 : s.size ≤ 2000 := by omega
  have HS := Lib.hid (show s.size ≤ 1000000 by omega)
  obtain ⟨v, h1⟩ : ∃ b, wordsV s.data.toList = b := ⟨_, rfl⟩
  obtain ⟨x, h2⟩ : ∃ b, wordsE s.data.toList = b := ⟨_, rfl⟩
  have C1 := Lib.hid (show ∀ w, TxtOk w → Calls Tryd.prog 26 #[.string s] w (RetS v x w) from fun w hw => h1 ▸ h2 ▸ Words_any s w HS.out hw)
  have D1 := Lib.hid (show ∀ w, Calls Tryd.prog 27 #[.string s] w (RetS v x w) from fun w => h1 ▸ h2 ▸ rWords_any s w HS.out)
  clear h1 h2 hbig
  go_enter Tryd.func5, Tryd.ntmps5
  go_wp2_with (first
    | (go_at_call 26; refine (C1.out _ HT.out).mono ?_; rintro e w1 ⟨a1, m1, k1, rfl, hx1, hb1⟩; have X1 := Lib.hid hx1; have E1 := hx1.len; clear hx1; subst E1)
    | (go_at_call 27; refine (D1.out _).mono ?_; rintro e w2 ⟨a2, m2, k2, rfl, hx2, hb2⟩; have X2 := Lib.hid hx2; have E2 := hx2.len; clear hx2; subst E2; have Y1 := Lib.hid (X1.out.below hb2); have B2 := hb1.trans (hb2.mono hb1.size))
    | (go_at_call 28; refine (SameS_any _ _ _ _ _ _ v Y1.out X2.out).mono ?_; rintro e w3 ⟨rfl, hb3⟩; have B3 := B2.trans (hb3.mono B2.size))
    | (go_at_call 15; refine (exampleHolds_any _ (HT.out.below B3)).mono ?_; rintro e w4 ⟨rfl, hb4⟩; have B4 := B3.trans (hb4.mono B3.size)))
  go_ret
  exact ⟨rfl, B4⟩
end Go.Proofs.YtlnmcegnnncepaaDoor
