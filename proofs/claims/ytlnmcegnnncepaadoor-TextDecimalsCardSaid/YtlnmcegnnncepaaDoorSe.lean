/- Walk of the law TextDecimals. -/
import Derived.Test.YtlnmcegnnncepaaDoorSd
import Derived.Test.YtlnmcegnnncepaaDoorSc
namespace Go.Proofs.YtlnmcegnnncepaaDoor
open Go.RowKit

theorem dd_len (k : Nat) : ∀ (u : Nat), u < 10 ^ (k + 1) → (Lib.decDigits u).length ≤ k + 1 := by
  induction k with
  | zero => intro u h; rw [dd_small (by simpa using h)]; simp
  | succ k ih =>
    intro u h
    by_cases hs : u < 10
    · rw [dd_small hs]; simp
    · rw [dd_big hs, List.length_append]
      have := ih (u / 10) (by rw [Nat.pow_succ] at h; omega)
      simp; omega
theorem itoa_len (n : Int) (h1 : -9223372036854775808 ≤ n) (h2 : n ≤ 9223372036854775807) : (Lib.itoa n).length ≤ 21 := by
  have e : (10 : Nat) ^ (19 + 1) = 100000000000000000000 := by decide
  unfold Lib.itoa
  split
  · have := dd_len 19 n.natAbs (by rw [e]; omega)
    simp; omega
  · have := dd_len 19 n.toNat (by rw [e]; omega)
    omega
theorem numV_bounds (l : List UInt8) : -9223372036854775808 ≤ numV l ∧ numV l ≤ 9223372036854775807 := by
  unfold numV
  split
  · omega
  · split
    · split <;> omega
    · split <;> omega

set_option maxRecDepth 100000 in
theorem TextDecimals_law (W : World) (s : ByteArray) (hs : s.size ≤ maxLen) (n : Int) (hn : -9223372036854775808 ≤ n ∧ n ≤ 9223372036854775807) (hT : TxtOk W) :
    Calls Tryd.prog 7 #[.string s, .int .i64 n] W fun e W' => e = .returned (.bool true) ∧ Below W.heap.size W W' := by
  have HT := Lib.hid hT
  have HN := Lib.hid hn
  unfold maxLen at hs
  clear hT hn
  by_cases hbig : 200 < s.size
  · go_enter Tryd.func7, Tryd.ntmps7
    go_wp2_with (go_at_call 15; refine (exampleHolds_any _ HT.out).mono ?_; rintro e w1 ⟨rfl, hb1⟩)
    go_ret
    exact ⟨rfl, hb1⟩
  have hs2 : s.size ≤ 200 := by omega
  have HS := Lib.hid (show s.size ≤ 1000000 by omega)
  obtain ⟨t, h3⟩ : ∃ b, mk (Lib.itoa n) = b := ⟨_, rfl⟩
  have htl : t.data.toList = Lib.itoa n := by rw [← h3, mk_list]
  have hts : t.size ≤ 1000000 := by
    rw [← size_list, htl]
    exact Nat.le_trans (itoa_len n HN.out.1 HN.out.2) (by decide)
  obtain ⟨hv, he⟩ := num_itoa n HN.out.1 HN.out.2
  rw [← htl] at hv he
  have C2 := Lib.hid (show ∀ w, TxtOk w → Calls Tryd.prog 24 #[.int .i64 n] w fun e w' => e = .returned (.string t) ∧ Below w.heap.size w w' from fun w hw => h3 ▸ Decimal_any n HN.out.1 HN.out.2 w hw)
  have C1 := Lib.hid (show ∀ w, TxtOk w → Calls Tryd.prog 22 #[.string t] w fun e w' => e = .returned (.tuple #[.int .i64 n, .int .i64 0]) ∧ Below w.heap.size w w' from fun w hw => (Number_any t w hts hw).mono fun e w' h => ⟨by rw [h.1, hv, he], h.2⟩)
  obtain ⟨v, h1⟩ : ∃ b, numV s.data.toList = b := ⟨_, rfl⟩
  obtain ⟨x, h2⟩ : ∃ b, numE s.data.toList = b := ⟨_, rfl⟩
  have D1 := Lib.hid (show ∀ w, TxtOk w → Calls Tryd.prog 22 #[.string s] w fun e w' => e = .returned (.tuple #[.int .i64 v, .int .i64 x]) ∧ Below w.heap.size w w' from fun w hw => h1 ▸ h2 ▸ Number_any s w HS.out hw)
  have hvb := numV_bounds s.data.toList
  rw [h1] at hvb
  have hback : x = 0 → mk (Lib.itoa v) = s := fun e => by
    rw [← h1, itoa_num (by rw [h2]; exact e), mk_self]
  have D2 := Lib.hid (show x = 0 → ∀ w, TxtOk w → Calls Tryd.prog 24 #[.int .i64 v] w fun e w' => e = .returned (.string s) ∧ Below w.heap.size w w' from fun e w hw => hback e ▸ Decimal_any v hvb.1 hvb.2 w hw)
  clear h1 h2 h3 hbig hv he htl hts hvb hback
  by_cases hx : x = 0
  · subst hx
    have D3 := Lib.hid (D2.out rfl)
    go_enter Tryd.func7, Tryd.ntmps7
    go_wp2_with (first
      | (go_at_call 24; with_reducible refine (C2.out _ HT.out).mono ?_; rintro e w1 ⟨rfl, hb1⟩; have T1 := Lib.hid (HT.out.below hb1))
      | (go_at_call 22; with_reducible refine (C1.out _ T1.out).mono ?_; rintro e w2 ⟨rfl, hb2⟩; have T2 := Lib.hid (T1.out.below hb2); have B2 := hb1.trans (hb2.mono hb1.size))
      | (go_at_call 22; with_reducible refine (D1.out _ T2.out).mono ?_; rintro e w3 ⟨rfl, hb3⟩; have T3 := Lib.hid (T2.out.below hb3); have B3 := B2.trans (hb3.mono B2.size))
      | (go_at_call 24; with_reducible refine (D3.out _ T3.out).mono ?_; rintro e w4 ⟨rfl, hb4⟩; have T4 := Lib.hid (T3.out.below hb4); have B4 := B3.trans (hb4.mono B3.size))
      | (go_at_call 15; refine (exampleHolds_any _ T4.out).mono ?_; rintro e w5 ⟨rfl, hb5⟩; have B5 := B4.trans (hb5.mono B4.size)))
    go_ret
    exact ⟨rfl, B5⟩
  · have hx2 : (x != 0) = true := by simpa using hx
    clear D2 hx
    go_enter Tryd.func7, Tryd.ntmps7
    go_wp2_with (first
      | (go_at_call 24; with_reducible refine (C2.out _ HT.out).mono ?_; rintro e w1 ⟨rfl, hb1⟩; have T1 := Lib.hid (HT.out.below hb1))
      | (go_at_call 22; with_reducible refine (C1.out _ T1.out).mono ?_; rintro e w2 ⟨rfl, hb2⟩; have T2 := Lib.hid (T1.out.below hb2); have B2 := hb1.trans (hb2.mono hb1.size))
      | (go_at_call 22; with_reducible refine (D1.out _ T2.out).mono ?_; rintro e w3 ⟨rfl, hb3⟩; have T3 := Lib.hid (T2.out.below hb3); have B3 := B2.trans (hb3.mono B2.size))
      | (go_at_call 15; refine (exampleHolds_any _ T3.out).mono ?_; rintro e w5 ⟨rfl, hb5⟩; have B5 := B3.trans (hb5.mono B3.size)))
    go_ret
    exact ⟨rfl, B5⟩
end Go.Proofs.YtlnmcegnnncepaaDoor
