/- Walk of the laws of package text: exampleHolds. -/
import Derived.Test.YtlnmcegnnncepaaDoorSa
namespace Go.Proofs.YtlnmcegnnncepaaDoor
open Go.RowKit

theorem ex1 : scanR [97, 32, 37, 32, 98, 10, 60, 33, 99] = ⟨[⟨1, [97], 1⟩, ⟨5, [60, 33], 2⟩, ⟨1, [99], 2⟩], 0, 0⟩ := by kernel_rfl
theorem ex2 : scanR [120, 32, 34, 121] = ⟨[], 1, 9⟩ := by kernel_rfl
theorem ex3 : wordsV [116, 104, 101, 32, 100, 111, 103] = [[116, 104, 101], [100, 111, 103]] ∧ wordsE [116, 104, 101, 32, 100, 111, 103] = 0 := ⟨by kernel_rfl, by kernel_rfl⟩
theorem ex4 : numV [45, 48] = 0 ∧ numE [45, 48] = 8 := ⟨by kernel_rfl, by kernel_rfl⟩
theorem ex9 : Lib.itoa (-12) = [45, 49, 50] := by
  unfold Lib.itoa
  rw [if_pos (by decide), show (-12 : Int).natAbs = 12 from rfl, Lib.decDigits, dif_neg (by decide), show 12 / 10 = 1 from rfl, Lib.decDigits, dif_pos (by decide)]
  rfl

/-- Three tokens of the first example. -/
structure Ex1 (w : World) (b off : Nat) : Prop where
  lt : b < w.heap.size
  c0 : w.cell? ⟨b, off, none⟩ = some (.int .i64 1)
  c1 : w.cell? ⟨b, off + 1, none⟩ = some (.string ⟨#[97]⟩)
  c2 : w.cell? ⟨b, off + 2, none⟩ = some (.int .i64 1)
  c3 : w.cell? ⟨b, off + 3, none⟩ = some (.int .i64 5)
  c4 : w.cell? ⟨b, off + 4, none⟩ = some (.string ⟨#[60, 33]⟩)
  c5 : w.cell? ⟨b, off + 5, none⟩ = some (.int .i64 2)
  c7 : w.cell? ⟨b, off + 7, none⟩ = some (.string ⟨#[99]⟩)
theorem Ex1.below {w w' : World} {b off : Nat} (h : Ex1 w b off) (hb : Below w.heap.size w w') : Ex1 w' b off :=
  ⟨Nat.lt_of_lt_of_le h.lt hb.size, (hb.cell (p := ⟨b, off, none⟩) h.lt).trans h.c0, (hb.cell (p := ⟨b, off + 1, none⟩) h.lt).trans h.c1, (hb.cell (p := ⟨b, off + 2, none⟩) h.lt).trans h.c2, (hb.cell (p := ⟨b, off + 3, none⟩) h.lt).trans h.c3, (hb.cell (p := ⟨b, off + 4, none⟩) h.lt).trans h.c4, (hb.cell (p := ⟨b, off + 5, none⟩) h.lt).trans h.c5, (hb.cell (p := ⟨b, off + 7, none⟩) h.lt).trans h.c7⟩
theorem ex_scan1 (w : World) (hT : TxtOk w) :
    Calls Tryd.prog 29 #[.string ⟨#[97, 32, 37, 32, 98, 10, 60, 33, 99]⟩] w fun e w' => ∃ b off cap, e = .returned (.tuple #[.slice (some ⟨b, off, none⟩) 3 cap, .int .i64 0, .int .i64 0]) ∧ Hid (Ex1 w' b off) ∧ 3 ≤ cap ∧ cap ≤ 9223372036854775807 ∧ Below w.heap.size w w' := by
  refine (Scan_any ⟨#[97, 32, 37, 32, 98, 10, 60, 33, 99]⟩ w (by decide) hT).mono fun e w' h => ?_
  obtain ⟨a, n, cap, rfl, ht, hb⟩ := h
  have e1 : scanR (⟨#[97, 32, 37, 32, 98, 10, 60, 33, 99]⟩ : ByteArray).data.toList = ⟨[⟨1, [97], 1⟩, ⟨5, [60, 33], 2⟩, ⟨1, [99], 2⟩], 0, 0⟩ := ex1
  rw [e1] at ht ⊢
  obtain rfl : n = 3 := ht.len.symm
  obtain ⟨b, off, rfl, hlt, hc⟩ := ht.at_ (by decide)
  have hm := ht.maxLe
  unfold maxLen at hm
  exact ⟨b, off, cap, rfl, ⟨hlt, (hc 0 (by decide)).1, (hc 0 (by decide)).2.1, (hc 0 (by decide)).2.2, (hc 1 (by decide)).1, (hc 1 (by decide)).2.1, (hc 1 (by decide)).2.2, (hc 2 (by decide)).2.1⟩, ht.capLe, by omega, hb⟩
theorem ex_scan2 (w : World) (hT : TxtOk w) :
    Calls Tryd.prog 29 #[.string ⟨#[120, 32, 34, 121]⟩] w fun e w' => ∃ a cap, e = .returned (.tuple #[.slice a 0 cap, .int .i64 1, .int .i64 9]) ∧ Below w.heap.size w w' := by
  refine (Scan_any ⟨#[120, 32, 34, 121]⟩ w (by decide) hT).mono fun e w' h => ?_
  obtain ⟨a, n, cap, rfl, ht, hb⟩ := h
  have e1 : scanR (⟨#[120, 32, 34, 121]⟩ : ByteArray).data.toList = ⟨[], 1, 9⟩ := ex2
  rw [e1] at ht ⊢
  obtain rfl : n = 0 := ht.len.symm
  exact ⟨a, cap, rfl, hb⟩
/-- Two words of the example. -/
structure Ex3 (w : World) (b off : Nat) : Prop where
  lt : b < w.heap.size
  c1 : w.cell? ⟨b, off + 1, none⟩ = some (.string ⟨#[100, 111, 103]⟩)
theorem Ex3.below {w w' : World} {b off : Nat} (h : Ex3 w b off) (hb : Below w.heap.size w w') : Ex3 w' b off :=
  ⟨Nat.lt_of_lt_of_le h.lt hb.size, (hb.cell (p := ⟨b, off + 1, none⟩) h.lt).trans h.c1⟩
theorem ex_words (w : World) (hT : TxtOk w) :
    Calls Tryd.prog 26 #[.string ⟨#[116, 104, 101, 32, 100, 111, 103]⟩] w fun e w' => ∃ b off cap, e = .returned (.tuple #[.slice (some ⟨b, off, none⟩) 2 cap, .int .i64 0]) ∧ Hid (Ex3 w' b off) ∧ 2 ≤ cap ∧ cap ≤ 9223372036854775807 ∧ Below w.heap.size w w' := by
  refine (Words_any ⟨#[116, 104, 101, 32, 100, 111, 103]⟩ w (by decide) hT).mono fun e w' h => ?_
  obtain ⟨a, n, cap, rfl, ht, hb⟩ := h
  have e1 : wordsV (⟨#[116, 104, 101, 32, 100, 111, 103]⟩ : ByteArray).data.toList = [[116, 104, 101], [100, 111, 103]] := ex3.1
  have e2 : wordsE (⟨#[116, 104, 101, 32, 100, 111, 103]⟩ : ByteArray).data.toList = 0 := ex3.2
  rw [e1] at ht
  rw [e2]
  obtain rfl : n = 2 := ht.len.symm
  obtain ⟨b, off, rfl, hlt, hc⟩ := ht.at_ (by decide)
  have hm := ht.maxLe
  unfold maxLen at hm
  exact ⟨b, off, cap, rfl, ⟨hlt, hc 1 (by decide)⟩, ht.capLe, by omega, hb⟩
theorem ex_number (w : World) (hT : TxtOk w) :
    Calls Tryd.prog 22 #[.string ⟨#[45, 48]⟩] w fun e w' => e = .returned (.tuple #[.int .i64 0, .int .i64 8]) ∧ Below w.heap.size w w' := by
  refine (Number_any ⟨#[45, 48]⟩ w (by decide) hT).mono fun e w' h => ⟨?_, h.2⟩
  rw [h.1, show numV (⟨#[45, 48]⟩ : ByteArray).data.toList = 0 from ex4.1, show numE (⟨#[45, 48]⟩ : ByteArray).data.toList = 8 from ex4.2]
theorem ex_name1 (w : World) : Calls Tryd.prog 16 #[.string ⟨#[115, 103, 45, 110, 111, 117, 110]⟩] w fun e w' => e = .returned (.bool true) ∧ Below w.heap.size w w' :=
  (Name_any ⟨#[115, 103, 45, 110, 111, 117, 110]⟩ w (by decide)).mono fun e w' h => ⟨by rw [h.1]; kernel_rfl, h.2⟩
theorem ex_name2 (w : World) : Calls Tryd.prog 16 #[.string ⟨#[50, 110, 100]⟩] w fun e w' => e = .returned (.bool false) ∧ Below w.heap.size w w' :=
  (Name_any ⟨#[50, 110, 100]⟩ w (by decide)).mono fun e w' h => ⟨by rw [h.1]; kernel_rfl, h.2⟩
theorem ex_feature (w : World) : Calls Tryd.prog 18 #[.string ⟨#[72, 69, 65, 68, 45, 68, 84, 82]⟩] w fun e w' => e = .returned (.bool true) ∧ Below w.heap.size w w' :=
  (Feature_any ⟨#[72, 69, 65, 68, 45, 68, 84, 82]⟩ w (by decide)).mono fun e w' h => ⟨by rw [h.1]; kernel_rfl, h.2⟩
theorem ex_word (w : World) : Calls Tryd.prog 20 #[.string ⟨#[100, 111, 110, 39, 116]⟩] w fun e w' => e = .returned (.bool true) ∧ Below w.heap.size w w' :=
  (Word_any ⟨#[100, 111, 110, 39, 116]⟩ w (by decide)).mono fun e w' h => ⟨by rw [h.1]; kernel_rfl, h.2⟩
theorem ex_decimal (w : World) (hT : TxtOk w) : Calls Tryd.prog 24 #[.int .i64 (-12)] w fun e w' => e = .returned (.string ⟨#[45, 49, 50]⟩) ∧ Below w.heap.size w w' :=
  (Decimal_any (-12) (by decide) (by decide) w hT).mono fun e w' h => ⟨by rw [h.1, ex9]; rfl, h.2⟩

set_option maxRecDepth 100000 in
set_option maxHeartbeats 3200000 in
theorem exampleHolds_any (w : World) (hT : TxtOk w) :
    Calls Tryd.prog 15 #[] w fun e w' => e = .returned (.bool true) ∧ Below w.heap.size w w' := by
  have HT := Lib.hid hT
  clear hT
  go_enter Tryd.func15, Tryd.ntmps15
  go_wp2_with (first
    | (go_at_call 29; with_reducible refine (ex_scan1 _ HT.out).mono ?_; rintro e w1 ⟨b1, o1, cap1, rfl, hx1, hca1, hcb1, hb1⟩; have T1 := Lib.hid (HT.out.below hb1))
    | (go_at_call 29; with_reducible refine (ex_scan2 _ T1.out).mono ?_; rintro e w2 ⟨a2, cap2, rfl, hb2⟩; have T2 := Lib.hid (T1.out.below hb2); have X2 := Lib.hid (hx1.out.below hb2); have B2 := hb1.trans (hb2.mono hb1.size))
    | (go_at_call 26; with_reducible refine (ex_words _ T2.out).mono ?_; rintro e w3 ⟨b3, o3, cap3, rfl, hx3, hca3, hcb3, hb3⟩; have T3 := Lib.hid (T2.out.below hb3); have X3 := Lib.hid (X2.out.below hb3); have B3 := B2.trans (hb3.mono B2.size))
    | (go_at_call 22; with_reducible refine (ex_number _ T3.out).mono ?_; rintro e w4 ⟨rfl, hb4⟩; have T4 := Lib.hid (T3.out.below hb4); have B4 := B3.trans (hb4.mono B3.size); obtain ⟨lt1, c0, c1, c2, c3, c4, c5, c7⟩ := X3.out.below hb4; obtain ⟨lt3, d1⟩ := hx3.out.below hb4)
    | (go_at_call 16; with_reducible refine (ex_name1 _).mono ?_; rintro e w5 ⟨rfl, hb5⟩; have T5 := Lib.hid (T4.out.below hb5); have B5 := B4.trans (hb5.mono B4.size); clear c0 c1 c2 c3 c4 c5 c7 d1)
    | (go_at_call 16; with_reducible refine (ex_name2 _).mono ?_; rintro e w6 ⟨rfl, hb6⟩; have T6 := Lib.hid (T5.out.below hb6); have B6 := B5.trans (hb6.mono B5.size))
    | (go_at_call 18; with_reducible refine (ex_feature _).mono ?_; rintro e w7 ⟨rfl, hb7⟩; have T7 := Lib.hid (T6.out.below hb7); have B7 := B6.trans (hb7.mono B6.size))
    | (go_at_call 20; with_reducible refine (ex_word _).mono ?_; rintro e w8 ⟨rfl, hb8⟩; have T8 := Lib.hid (T7.out.below hb8); have B8 := B7.trans (hb8.mono B7.size))
    | (go_at_call 24; with_reducible refine (ex_decimal _ T8.out).mono ?_; rintro e w9 ⟨rfl, hb9⟩; have B9 := B8.trans (hb9.mono B8.size)))
  go_ret
  exact ⟨rfl, B9⟩
end Go.Proofs.YtlnmcegnnncepaaDoor
