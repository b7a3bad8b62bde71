/- The walk of the law PosetNeighbours. -/
import Derived.Test.YtokbfplligdaeaaQi
import Derived.Deep.RegionHeld3
namespace Go.Proofs.Ytokbfplligdaeaa
open Go.RowKit Go.Maps

set_option maxRecDepth 100000 in
set_option maxHeartbeats 3200000 in
theorem PosetNeighbours_mk (w : World) (a : Option Addr) (n cap : Nat) (D : List Dec) (h : IsDecs w a n cap D) (nm : Str) (hnm : nm.length ≤ maxLen) :
    Calls Try.prog 5 #[.slice a n cap, .string (mk nm)] w fun e w' => e = .returned (.bool true) ∧ Below w.heap.size w w' := by
  have HD := Lib.hid h
  have HX := Lib.hid hnm
  have VA := Lib.hid (valid_any w a n cap D h)
  clear h hnm
  go_enter Try.func5, Try.ntmps5
  go_wp2_with fail
  refine VA.out.mono ?_
  rintro e w1 ⟨b, rfl, hv, hb1⟩
  have B1 := Lib.hid hb1
  have HD := Lib.hid (HD.out.below hb1)
  clear hb1 VA
  cases b
  · clear hv
    go_wp2_with (go_at_call 12; refine (ex_holds _).mono ?_; rintro e w2 ⟨rfl, hb2⟩)
    go_ret
    exact ⟨rfl, B1.out.trans (hb2.mono B1.out.size)⟩
  · have hc : chkN D = 0 := (hv.1 rfl).2
    have HC := Lib.hid hc
    have hg := good_up HD.out hc
    have hn : n ≤ 256 := hg.2.2.2.2.1
    have OK := Lib.hid hg.2.2.2.2.2
    have HNS := Lib.hid (small_srt hg.2.2.1)
    have hsl : (srt (nms D)).length ≤ 256 := Nat.le_trans (srt_len _) hg.2.1
    clear hv hc hg
    obtain ⟨m, hm⟩ : ∃ m, (srt (nms D)).length + 1 = m := ⟨_, rfl⟩
    have HM := Lib.hid hm
    clear hm
    have HLS : Hid (∀ z ∈ srt (nms D) ++ [nm], z.length ≤ maxLen) := fun z hz => by
      rcases List.mem_append.1 hz with e | e
      · exact HNS.out z e
      · simp at e; rw [e]; exact HX.out
    go_wp2_with (first
      | (go_at_call 19; refine (Names_any _ _ _ _ _ HD.out (by omega)).mono ?_; rintro e w4 ⟨v4, rfl, hrow, -, hb4⟩; have R4 := Lib.hid hrow; have B4 := Lib.hid hb4; clear hrow hb4)
      | (at_builtin; refine wpList_append_at rfl _ _ rfl w1.heap.size _ _ _ rfl (R4.out.alloc _) ⟨w4.heap.size, 0, none⟩ nm rfl (cell_of_one (heap_alloc_new w4 _)) (by omega) (by simp; have := B4.out.size; omega) ?_; intro v6 w6 hown6 hgrow6 hloc6; rw [HM.out] at hown6; have O6 := Lib.hid hown6; have B6 := Lib.hid (grown_below (B4.out.alloc B4.out.size _) (by have := B4.out.size; simp; omega) (owns_base (R4.out.alloc _) (by omega)) hgrow6); clear hown6 hgrow6 hloc6; obtain ⟨a5, c5, rfl, h5⟩ := IsStrs.of_owns O6.out HLS.out; have H5 := Lib.hid h5; clear h5))
    have HDz := Lib.hid (HD.out.below B6.out)
    clear O6 R4 B4 HD HNS
    obtain ⟨L, hL⟩ : ∃ L, srt (nms D) ++ [nm] = L := ⟨_, rfl⟩
    rw [hL] at H5 HLS
    have hcx := H5.out.capLe
    have hmx := H5.out.maxLe
    unfold maxLen at hmx
    clear hL hsl
    go_loopw [18] (fun v wr => ∃ i : Nat, i ≤ m ∧ v = .int .i64 i ∧ Below w6.heap.size w6 wr) (fun v _ => m - (intOf v).toNat)
    case atStart => exact ⟨0, Nat.zero_le _, rfl, Below.refl _ _⟩
    case round =>
      obtain ⟨i, hi, rfl, hb⟩ := hrel
      obtain ⟨wo, hwo⟩ : ∃ wo : World, wo = wr := ⟨_, rfl⟩
      subst hwo
      by_cases hlt : i < m
      · obtain ⟨b1, off1, rfl, hbl1, hx1⟩ := H5.out.at_ (by omega)
        have d1 := (hb.cell (p := ⟨b1, off1 + i, none⟩) hbl1).trans (hx1 i hlt)
        have hil : i < L.length := by rw [H5.out.len]; exact hlt
        have HXL := Lib.hid (HLS.out _ (st_mem hil))
        obtain ⟨x, hx⟩ : ∃ x, st L i = x := ⟨_, rfl⟩
        rw [hx] at d1 HXL
        have HX0 := Lib.hid hx
        have HS1 : Hid (sameS (ab D x) (ab D x) = true) := by show _ = _; unfold sameS; simp
        have HS2 : Hid (sameS (bl D x) (bl D x) = true) := by show _ = _; unfold sameS; simp
        have hbd := hb.drew
        clear hx hil
        go_wp2
        go_region_held3 (fun w' => w'.cell? ⟨b1, off1 + i, none⟩ = some (.string (mk x))) (first | go_keep) ((first
          | (go_at_call 20; (with_reducible refine (Above_any wo.drew a n cap D (HDz.out.below hbd) HC.out x HXL.out).mono ?_); intro e y1 hy; obtain ⟨ua, uc, rfl, hu, hb1⟩ := hy.eq _ rfl; have HU1 := Lib.hid hu; have k1 := hbd.trans (hb1.mono hbd.size); have f1 := (k1.cell (p := ⟨b1, off1 + i, none⟩) hbl1).trans (hx1 i hlt); rw [HX0.out] at f1; clear hy hu hb1)
          | (go_at_call 21; (with_reducible refine (rAbove_any y1 a n cap D (HDz.out.below k1) OK.out hn x HXL.out).mono ?_); intro e y2 hy; obtain ⟨va, vc, rfl, hu, hb2⟩ := hy.eq _ rfl; have HU2 := Lib.hid (HU1.out.below hb2); have HV2 := Lib.hid hu; have k2 := k1.trans (hb2.mono k1.size); have f2 := (k2.cell (p := ⟨b1, off1 + i, none⟩) hbl1).trans (hx1 i hlt); rw [HX0.out] at f2; clear hy hu hb2)
          | (go_at_call 17; (with_reducible refine (SameStrings_val true y2 _ _ _ _ _ _ _ _ HU2.out HV2.out HS1.out).mono ?_); rintro e y3 ⟨rfl, hb3⟩; have k3 := k2.trans (hb3.mono k2.size); have f3 := (k3.cell (p := ⟨b1, off1 + i, none⟩) hbl1).trans (hx1 i hlt); rw [HX0.out] at f3; clear hb3)
          | (go_at_call 22; (with_reducible refine (Below_any y3 a n cap D (HDz.out.below k3) HC.out x HXL.out).mono ?_); intro e y4 hy; obtain ⟨sa, sc, rfl, hu, hb4⟩ := hy.eq _ rfl; have HU4 := Lib.hid hu; have k4 := k3.trans (hb4.mono k3.size); have f4 := (k4.cell (p := ⟨b1, off1 + i, none⟩) hbl1).trans (hx1 i hlt); rw [HX0.out] at f4; clear hy hu hb4)
          | (go_at_call 23; (with_reducible refine (rBelow_any y4 a n cap D (HDz.out.below k4) hn x HXL.out).mono ?_); intro e y5 hy; obtain ⟨ta, tc, rfl, hu, hb5⟩ := hy.eq _ rfl; have HU5 := Lib.hid (HU4.out.below hb5); have HV5 := Lib.hid hu; have k5 := k4.trans (hb5.mono k4.size); have f5 := (k5.cell (p := ⟨b1, off1 + i, none⟩) hbl1).trans (hx1 i hlt); rw [HX0.out] at f5; clear hy hu hb5)
          | (go_at_call 17; (with_reducible refine (SameStrings_val true y5 _ _ _ _ _ _ _ _ HU5.out HV5.out HS2.out).mono ?_); rintro e y6 ⟨rfl, hb6⟩; have k6 := k5.trans (hb6.mono k5.size); have f6 := (k6.cell (p := ⟨b1, off1 + i, none⟩) hbl1).trans (hx1 i hlt); rw [HX0.out] at f6; clear hb6)))
        go_wp2
        go_roundw
        case rel => exact ⟨i + 1, by omega, by go_num, k6⟩
        case measure => simp [intOf]; omega
      · obtain rfl : m = i := by omega
        clear hlt hi
        go_wp2_with (go_at_call 12; refine (ex_holds _).mono ?_; rintro e w9 ⟨rfl, hb9⟩)
        go_ret
        have z1 := B1.out.trans (B6.out.mono B1.out.size)
        have z2 := z1.trans (hb.mono z1.size)
        exact ⟨rfl, z2.trans (hb9.mono z2.size)⟩

theorem PosetNeighbours_law (w : World) (a : Option Addr) (n cap : Nat) (D : List Dec) (h : IsDecs w a n cap D) (s : ByteArray) (hs : s.size ≤ maxLen) :
    Calls Try.prog 5 #[.slice a n cap, .string s] w fun e w' => e = .returned (.bool true) ∧ Below w.heap.size w w' := by
  have hmk : mk s.data.toList = s := by unfold mk; simp
  have := PosetNeighbours_mk w a n cap D h s.data.toList (by rw [Array.length_toList]; exact hs)
  rwa [hmk] at this
end Go.Proofs.Ytokbfplligdaeaa
