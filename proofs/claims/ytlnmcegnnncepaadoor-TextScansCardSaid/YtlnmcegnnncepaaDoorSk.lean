/- Walk of the law TextScans; the reference's SameTokens, at two lists that read alike. -/
import Derived.Test.YtlnmcegnnncepaaDoorSj
import Derived.Test.YtlnmcegnnncepaaDoorSc
namespace Go.Proofs.YtlnmcegnnncepaaDoor
open Go.RowKit

set_option maxRecDepth 100000 in
theorem SameToks_any (w : World) (a1 a2 : Option Addr) (n1 cap1 cap2 : Nat) (ts : List Tok) (h1 : IsToks w a1 n1 cap1 ts) (h2 : IsToks w a2 n1 cap2 ts) :
    Calls Tryd.prog 31 #[.slice a1 n1 cap1, .slice a2 n1 cap2] w fun e w' => e = .returned (.bool true) ∧ Below w.heap.size w w' := by
  have hm1 := h1.maxLe
  have hm2 := h2.maxLe
  have hc1 := h1.capLe
  have hc2 := h2.capLe
  unfold maxLen at hm1 hm2
  have H1 := Lib.hid h1
  have H2 := Lib.hid h2
  clear h1 h2
  go_enter Tryd.func31, Tryd.ntmps31
  go_wp2
  go_loopw [5] (fun v wr => ∃ k : Nat, k ≤ n1 ∧ v = .int .i64 k ∧ Below w.heap.size w wr) (fun v _ => n1 - (intOf v).toNat)
  case atStart => exact ⟨0, Nat.zero_le _, rfl, Below.refl _ _⟩
  case round =>
    obtain ⟨k, hk, rfl, hb⟩ := hrel
    by_cases hlt : k < n1
    · obtain ⟨b1, o1, rfl, hl1, hx1⟩ := H1.out.at_ (by omega)
      obtain ⟨b2, o2, rfl, hl2, hx2⟩ := H2.out.at_ (by omega)
      obtain ⟨x1, x2, x3⟩ := hx1 k (by omega)
      obtain ⟨y1, y2, y3⟩ := hx2 k (by omega)
      have c1 := (hb.cell (p := ⟨b1, o1 + 3 * k, none⟩) hl1).trans x1
      have c2 := (hb.cell (p := ⟨b1, o1 + (3 * k + 1), none⟩) hl1).trans x2
      have c3 := (hb.cell (p := ⟨b1, o1 + (3 * k + 2), none⟩) hl1).trans x3
      have d1 := (hb.cell (p := ⟨b2, o2 + 3 * k, none⟩) hl2).trans y1
      have d2 := (hb.cell (p := ⟨b2, o2 + (3 * k + 1), none⟩) hl2).trans y2
      have d3 := (hb.cell (p := ⟨b2, o2 + (3 * k + 2), none⟩) hl2).trans y3
      rw [show o1 + 3 * k = o1 + k * 3 by omega] at c1
      rw [show o1 + (3 * k + 1) = o1 + k * 3 + 1 by omega] at c2
      rw [show o1 + (3 * k + 2) = o1 + k * 3 + 2 by omega] at c3
      rw [show o2 + 3 * k = o2 + k * 3 by omega] at d1
      rw [show o2 + (3 * k + 1) = o2 + k * 3 + 1 by omega] at d2
      rw [show o2 + (3 * k + 2) = o2 + k * 3 + 2 by omega] at d3
      clear hx1 hx2 x1 x2 x3 y1 y2 y3
      go_wp2
      go_quiet (fail)
      go_wp2
      go_roundw
      case rel => exact ⟨k + 1, by omega, by go_num, by first | exact hb | exact hb.drew | exact below_drewN2 hb _⟩
      case measure => simp [intOf]; omega
    · obtain rfl : n1 = k := by omega
      go_wp2
      go_ret
      exact ⟨rfl, hb⟩

set_option maxRecDepth 100000 in
theorem TextScans_law (W : World) (s : ByteArray) (hs : s.size ≤ maxLen) (hT : TxtOk W) :
    Calls Tryd.prog 6 #[.string s] W fun e W' => e = .returned (.bool true) ∧ Below W.heap.size W W' := by
  have HT := Lib.hid hT
  have HS := Lib.hid hs
  unfold maxLen at hs
  clear hT
  obtain ⟨R, h1⟩ : ∃ b, scanR s.data.toList = b := ⟨_, rfl⟩
  have C1 := Lib.hid (show ∀ w, TxtOk w → Calls Tryd.prog 29 #[.string s] w (RetT R w) from fun w hw => h1 ▸ Scan_any s w HS.out hw)
  have D1 := Lib.hid (show ∀ w, Calls Tryd.prog 30 #[.string s] w (RetT R w) from fun w => h1 ▸ rScan_any s w HS.out)
  clear h1
  by_cases hbig : 2000 < s.size ∧ s.size ≤ 65536
  · obtain ⟨g1, g2⟩ := hbig
    go_enter Tryd.func6, Tryd.ntmps6
    go_wp2_with (go_at_call 15; refine (exampleHolds_any _ HT.out).mono ?_; rintro e w1 ⟨rfl, hb1⟩)
    go_ret
    exact ⟨rfl, hb1⟩
  by_cases g1 : 2000 < s.size
  case' pos => have g2 : 65536 < s.size := by omega
  case' neg => have g2 : s.size ≤ 2000 := by omega
  all_goals
    clear hbig
    go_enter Tryd.func6, Tryd.ntmps6
    go_wp2_with (first
      | (go_at_call 29; refine (C1.out _ HT.out).mono ?_; rintro e w1 ⟨a1, m1, k1, rfl, hx1, hb1⟩; have X1 := Lib.hid hx1; have E1 := hx1.len; clear hx1; subst E1)
      | (go_at_call 30; refine (D1.out _).mono ?_; rintro e w2 ⟨a2, m2, k2, rfl, hx2, hb2⟩; have X2 := Lib.hid hx2; have E2 := hx2.len; clear hx2; subst E2; have Y1 := Lib.hid (X1.out.below hb2); have B2 := hb1.trans (hb2.mono hb1.size))
      | (go_at_call 31; refine (SameToks_any _ _ _ _ _ _ R.toks Y1.out X2.out).mono ?_; rintro e w3 ⟨rfl, hb3⟩; have B3 := B2.trans (hb3.mono B2.size))
      | (go_at_call 15; refine (exampleHolds_any _ (HT.out.below B3)).mono ?_; rintro e w4 ⟨rfl, hb4⟩; have B4 := B3.trans (hb4.mono B3.size)))
    go_ret
    exact ⟨rfl, B4⟩
end Go.Proofs.YtlnmcegnnncepaaDoor
