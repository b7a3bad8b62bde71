/- The walk of the law PosetCovers. -/
import Derived.Test.YtokbfplligdaeaaQi
namespace Go.Proofs.Ytokbfplligdaeaa
open Go.RowKit Go.Maps

set_option maxRecDepth 100000 in
set_option maxHeartbeats 12800000 in
theorem PosetCovers_law (w : World) (a : Option Addr) (n cap : Nat) (D : List Dec) (h : IsDecs w a n cap D) (na : Option Addr) (m nc : Nat) (l : List Str) (hl : IsStrs w na m nc l) :
    Calls Try.prog 8 #[.slice a n cap, .slice na m nc] w fun e w' => e = .returned (.bool true) ∧ Below w.heap.size w w' := by
  have HD := Lib.hid h
  have HN := Lib.hid hl
  have hml := hl.capLe
  have hmm := hl.maxLe
  unfold maxLen at hmm
  have VA := Lib.hid (valid_any w a n cap D h)
  clear h hl
  go_enter Try.func8, Try.ntmps8
  go_wp2_with fail
  refine VA.out.mono ?_
  rintro e w1 ⟨b, rfl, hv, hb1⟩
  have B1 := Lib.hid hb1
  have HD := Lib.hid (HD.out.below hb1)
  have HN := Lib.hid (HN.out.below hb1)
  clear hb1 VA
  cases b
  · clear hv
    go_wp2_with (go_at_call 12; refine (ex_holds _).mono ?_; rintro e w2 ⟨rfl, hb2⟩)
    go_ret
    exact ⟨rfl, B1.out.trans (hb2.mono B1.out.size)⟩
  · have hc : chkN D = 0 := (hv.1 rfl).2
    have HC := Lib.hid hc
    clear hv hc
    by_cases hbig : 30 < m
    · have h30 : decide ((30 : Int) < (m : Int)) = true := by simp; omega
      go_wp2_with (go_at_call 12; refine (ex_holds _).mono ?_; rintro e w2 ⟨rfl, hb2⟩)
      go_ret
      exact ⟨rfl, B1.out.trans (hb2.mono B1.out.size)⟩
    · have h30 : decide ((30 : Int) < (m : Int)) = false := by simp; omega
      have hn : n ≤ 256 := (good_up HD.out HC.out).2.2.2.2.1
      go_wp2_with (first
        | (go_at_call 24; refine (Maximal_any _ _ _ _ _ HD.out HC.out _ _ _ _ HN.out (by omega)).mono ?_; intro e w2 hx; obtain ⟨a5, c5, rfl, h5, hb2⟩ := hx.eq _ rfl; have HD2 := Lib.hid (HD.out.below hb2); have HN2 := Lib.hid (HN.out.below hb2); have B2 := Lib.hid (B1.out.trans (hb2.mono B1.out.size)); have H5 := Lib.hid h5; clear hx h5 hb2)
        | (go_at_call 26; refine (Minimal_any _ _ _ _ _ HD2.out HC.out _ _ _ _ HN2.out (by omega)).mono ?_; intro e w3 hx; obtain ⟨a6, c6, rfl, h6, hb3⟩ := hx.eq _ rfl; have HD3 := Lib.hid (HD2.out.below hb3); have HN3 := Lib.hid (HN2.out.below hb3); have B3 := Lib.hid (B2.out.trans (hb3.mono B2.out.size)); have H53 := Lib.hid (H5.out.below hb3); have H6 := Lib.hid h6; clear hx h6 hb3)
        | (go_at_call 19; refine (Names_any _ _ _ _ _ HD3.out (by omega)).mono ?_; intro e w4 hx; obtain ⟨a7, c7, rfl, h7, hb4⟩ := hx.eq _ rfl; have HDz := Lib.hid (HD3.out.below hb4); have HNz := Lib.hid (HN3.out.below hb4); have Bz := Lib.hid (B3.out.trans (hb4.mono B3.out.size)); have H5z := Lib.hid (H53.out.below hb4); have H6z := Lib.hid (H6.out.below hb4); have H7z := Lib.hid h7; clear hx h7 hb4))
      clear HD HN HD2 HN2 HD3 HN3 B1 B2 B3 H5 H53 H6 h30
      have A5 := Lib.hid (mx_apart HC.out l)
      have A6 := Lib.hid (mn_apart HC.out l)
      have C5 := Lib.hid (fun s (hs : s ∈ dcl D l) => mx_cov HC.out hs)
      have C6 := Lib.hid (fun s (hs : s ∈ dcl D l) => mn_cov HC.out hs)
      obtain ⟨L5, hL5⟩ : ∃ L, mx D l = L := ⟨_, rfl⟩
      obtain ⟨L6, hL6⟩ : ∃ L, mn D l = L := ⟨_, rfl⟩
      rw [hL5] at H5z A5 C5 ⊢
      rw [hL6] at H6z A6 C6 ⊢
      obtain ⟨n5, hn5⟩ : ∃ z, L5.length = z := ⟨_, rfl⟩
      obtain ⟨n6, hn6⟩ : ∃ z, L6.length = z := ⟨_, rfl⟩
      rw [hn5] at H5z ⊢
      rw [hn6] at H6z ⊢
      have H5 := H5z
      have H6 := H6z
      have HL5 := Lib.hid hn5
      have HL6 := Lib.hid hn6
      have HS5 := Lib.hid H5.out.small
      have HS6 := Lib.hid H6.out.small
      clear hL5 hL6 hn5 hn6 H5z H6z
      go_loopw [41] (fun v wr => ∃ k : Nat, k ≤ m ∧ v = .int .i64 k ∧ Below w4.heap.size w4 wr) (fun v _ => m - (intOf v).toNat)
      case atStart => exact ⟨0, Nat.zero_le _, rfl, Below.refl _ _⟩
      case round =>
        obtain ⟨k, hk, rfl, hb⟩ := hrel
        obtain ⟨wo, hwo⟩ : ∃ wo : World, wo = wr := ⟨_, rfl⟩
        subst hwo
        by_cases hlt : k < m
        · obtain ⟨b1, off1, rfl, hbl1, hx1⟩ := HNz.out.at_ (by omega)
          have d1 := (hb.cell (p := ⟨b1, off1 + k, none⟩) hbl1).trans (hx1 k hlt)
          have hkl : k < l.length := by rw [HNz.out.len]; exact hlt
          have HM := Lib.hid (st_mem hkl)
          obtain ⟨s, hs⟩ : ∃ s, st l k = s := ⟨_, rfl⟩
          rw [hs] at d1 HM
          obtain ⟨p, hp⟩ : ∃ p, inS (srt (nms D)) s = p := ⟨_, rfl⟩
          have AM : Hid (Calls Try.prog 28 #[.slice a7 (srt (nms D)).length c7, .string (mk s)] wo fun e w' => e = .returned (.bool p) ∧ wo = w') := hp ▸ Among_any wo a7 _ c7 _ s (H7z.out.below hb)
          clear hx1 hs hkl
          cases p
          · go_wp2_with (go_at_call 28; (with_reducible refine AM.out.mono ?_); rintro e w6 ⟨rfl, rfl⟩)
            go_roundw
            case rel => exact ⟨k + 1, by omega, by go_num, hb⟩
            case measure => simp [intOf]; omega
          · have hsd : s ∈ dcl D l := mem_dcl.2 ⟨HM.out, (mem_srt _ _).1 (inS_iff.1 hp)⟩
            have HC5 : Hid (covB (bl D) L5 s n5 = true) := by have := covB_all (C5.out s hsd); rwa [HL5.out] at this
            have HC6 : Hid (covB (ab D) L6 s n6 = true) := by have := covB_all (C6.out s hsd); rwa [HL6.out] at this
            clear hp hsd
            go_wp2_with (go_at_call 28; (with_reducible refine AM.out.mono ?_); rintro e w6 ⟨rfl, rfl⟩)
            clear AM
            go_loopw [10, 51] (fun u v wi => ∃ j : Nat, j ≤ n5 ∧ u = .bool (covB (bl D) L5 s j) ∧ v = .int .i64 j ∧ Below w4.heap.size w4 wi) (fun _ v _ => n5 - (intOf v).toNat)
            case atStart => exact ⟨0, Nat.zero_le _, by rw [covB_zero], rfl, hb⟩
            case round =>
              clear hb
              obtain ⟨j, hj, rfl, rfl, hbi⟩ := hrel
              obtain ⟨wi, hwi⟩ : ∃ wi : World, wi = wr := ⟨_, rfl⟩
              subst hwi
              by_cases hlt2 : j < n5
              · obtain ⟨b2, off2, rfl, hbl2, hx2⟩ := H5.out.at_ (by omega)
                have d0 := (hbi.cell (p := ⟨b2, off2 + j, none⟩) hbl2).trans (hx2 j hlt2)
                have hjl : j < L5.length := by rw [HL5.out]; exact hlt2
                have HTL := Lib.hid (HS5.out _ (st_mem hjl))
                have HCS := Lib.hid (covB_succ (f := bl D) (L := L5) (s := s) hjl)
                obtain ⟨t, ht⟩ : ∃ t, st L5 j = t := ⟨_, rfl⟩
                rw [ht] at d0 HTL HCS
                obtain ⟨p, hp⟩ : ∃ p, covB (bl D) L5 s j = p := ⟨_, rfl⟩
                rw [hp] at HCS ⊢
                have hcx := H5.out.capLe
                have hmx := H5.out.maxLe
                unfold maxLen at hmx
                clear hx2 ht hjl hp
                cases p
                · go_wp2_with (first
                    | (go_at_call 22; (with_reducible refine (Below_any wi a n cap D (HDz.out.below hbi) HC.out t HTL.out).mono ?_); intro e w5 hx; obtain ⟨ar, cr, rfl, hr, hb5⟩ := hx.eq _ rfl; have HR := Lib.hid hr; clear hx hr)
                    | (go_at_call 28; (with_reducible refine (Among_any w5 ar _ cr _ s HR.out).mono ?_); rintro e w6 ⟨rfl, rfl⟩))
                  go_roundw
                  case rel => exact ⟨j + 1, by omega, by rw [HCS.out]; rfl, by go_num, hbi.trans (hb5.mono hbi.size)⟩
                  case measure => simp [intOf]; omega
                · go_wp2
                  go_roundw
                  case rel => exact ⟨j + 1, by omega, by rw [HCS.out]; rfl, by go_num, hbi⟩
                  case measure => simp [intOf]; omega
              · obtain rfl : n5 = j := by omega
                have hct := HC5.out
                rw [hct]
                clear hct hlt2 hj
                have hb := hbi
                go_wp2
                go_loopw [11, 66] (fun u v wi => ∃ j : Nat, j ≤ n6 ∧ u = .bool (covB (ab D) L6 s j) ∧ v = .int .i64 j ∧ Below w4.heap.size w4 wi) (fun _ v _ => n6 - (intOf v).toNat)
                case atStart => exact ⟨0, Nat.zero_le _, by rw [covB_zero], rfl, hb⟩
                case round =>
                  clear hb
                  obtain ⟨j, hj, rfl, rfl, hbi⟩ := hrel
                  obtain ⟨wi, hwi⟩ : ∃ wi : World, wi = wr := ⟨_, rfl⟩
                  subst hwi
                  by_cases hlt2 : j < n6
                  · obtain ⟨b2, off2, rfl, hbl2, hx2⟩ := H6.out.at_ (by omega)
                    have d0 := (hbi.cell (p := ⟨b2, off2 + j, none⟩) hbl2).trans (hx2 j hlt2)
                    have hjl : j < L6.length := by rw [HL6.out]; exact hlt2
                    have HTL := Lib.hid (HS6.out _ (st_mem hjl))
                    have HCS := Lib.hid (covB_succ (f := ab D) (L := L6) (s := s) hjl)
                    obtain ⟨t, ht⟩ : ∃ t, st L6 j = t := ⟨_, rfl⟩
                    rw [ht] at d0 HTL HCS
                    obtain ⟨p, hp⟩ : ∃ p, covB (ab D) L6 s j = p := ⟨_, rfl⟩
                    rw [hp] at HCS ⊢
                    have hcx := H6.out.capLe
                    have hmx := H6.out.maxLe
                    unfold maxLen at hmx
                    clear hx2 ht hjl hp
                    cases p
                    · go_wp2_with (first
                        | (go_at_call 20; (with_reducible refine (Above_any wi a n cap D (HDz.out.below hbi) HC.out t HTL.out).mono ?_); intro e w5 hx; obtain ⟨ar, cr, rfl, hr, hb5⟩ := hx.eq _ rfl; have HR := Lib.hid hr; clear hx hr)
                        | (go_at_call 28; (with_reducible refine (Among_any w5 ar _ cr _ s HR.out).mono ?_); rintro e w6 ⟨rfl, rfl⟩))
                      go_roundw
                      case rel => exact ⟨j + 1, by omega, by rw [HCS.out]; rfl, by go_num, hbi.trans (hb5.mono hbi.size)⟩
                      case measure => simp [intOf]; omega
                    · go_wp2
                      go_roundw
                      case rel => exact ⟨j + 1, by omega, by rw [HCS.out]; rfl, by go_num, hbi⟩
                      case measure => simp [intOf]; omega
                  · obtain rfl : n6 = j := by omega
                    have hct := HC6.out
                    rw [hct]
                    clear hct hlt2 hj
                    go_wp2
                    go_roundw
                    case rel => exact ⟨k + 1, by omega, by go_num, hbi⟩
                    case measure => simp [intOf]; omega
        · obtain rfl : m = k := by omega
          clear hlt hk C5 C6
          go_wp2
          have CZ : Hid (∀ i, i < 2 → ∃ la ln lc L, (wo.alloc (.cells #[.slice a5 n5 c5, .slice a6 n6 c6] 27)).cell? ⟨wo.heap.size, i, none⟩ = some (.slice la ln lc) ∧ IsStrs w4 la ln lc L ∧ Aside D l L) := fun i hi => by
            rcases i with _ | _ | i
            · exact ⟨a5, n5, c5, L5, by rw [World.cell?_alloc_new]; rfl, H5.out, A5.out⟩
            · exact ⟨a6, n6, c6, L6, by rw [World.cell?_alloc_new]; rfl, H6.out, A6.out⟩
            · omega
          have BW := Lib.hid (hb.alloc hb.size (.cells #[.slice a5 n5 c5, .slice a6 n6 c6] 27))
          have hbn : wo.heap.size < (wo.alloc (.cells #[.slice a5 n5 c5, .slice a6 n6 c6] 27)).heap.size := by simp
          obtain ⟨bn, hbn'⟩ : ∃ z, wo.heap.size = z := ⟨_, rfl⟩
          rw [hbn'] at CZ hbn ⊢
          obtain ⟨wz, hwz⟩ : ∃ z, wo.alloc (.cells #[.slice a5 n5 c5, .slice a6 n6 c6] 27) = z := ⟨_, rfl⟩
          rw [hwz] at CZ BW hbn ⊢
          clear hwz hb H5 H6 A5 A6 HS5 HS6 HL5 HL6 hbn' H7z
          go_loopw [90] (fun v wr => ∃ i : Nat, i ≤ 2 ∧ v = .int .i64 i ∧ Below wz.heap.size wz wr) (fun v _ => 2 - (intOf v).toNat)
          case atStart => exact ⟨0, Nat.zero_le _, rfl, Below.refl _ _⟩
          case round =>
            obtain ⟨i, hi, rfl, hb⟩ := hrel
            obtain ⟨wo2, hwo2⟩ : ∃ wo2 : World, wo2 = wr := ⟨_, rfl⟩
            subst hwo2
            by_cases hlt : i < 2
            · obtain ⟨la, ln, lc, L, hce, hli, hasi⟩ := CZ.out i hlt
              have hi2 : decide (((i : Nat) : Int) < 2) = true := by simp; omega
              have dz := (hb.cell (p := ⟨bn, i, none⟩) hbn).trans hce
              have LI := Lib.hid (hli.below BW.out)
              have LS := Lib.hid hli.small
              have LL := Lib.hid hli.len
              have AS := Lib.hid hasi
              have hcx := hli.capLe
              have hmx := hli.maxLe
              unfold maxLen at hmx
              clear hce hli hasi
              go_wp2
              go_loopw [96] (fun v wr => ∃ k : Nat, k ≤ ln ∧ v = .int .i64 k ∧ Below wz.heap.size wz wr) (fun v _ => ln - (intOf v).toNat)
              case atStart => exact ⟨0, Nat.zero_le _, rfl, hb⟩
              case round =>
                clear dz hb
                obtain ⟨k, hk, rfl, hb⟩ := hrel
                obtain ⟨wo3, hwo3⟩ : ∃ wo3 : World, wo3 = wr := ⟨_, rfl⟩
                subst hwo3
                by_cases hltk : k < ln
                · obtain ⟨b1, off1, rfl, hbl1, hx1⟩ := LI.out.at_ (by omega)
                  have d1 := (hb.cell (p := ⟨b1, off1 + k, none⟩) hbl1).trans (hx1 k hltk)
                  have hkl : k < L.length := by rw [LL.out]; exact hltk
                  have HK := Lib.hid (st_get hkl)
                  have HKM := Lib.hid (st_mem hkl)
                  obtain ⟨s, hs⟩ : ∃ s, st L k = s := ⟨_, rfl⟩
                  rw [hs] at d1 HK HKM
                  have hin : inS l s = true := inS_iff.2 (AS.out.sub s HKM.out)
                  have AM1 : Hid (∀ W, Below wz.heap.size wz W → Calls Try.prog 28 #[.slice na m nc, .string (mk s)] W fun e w' => e = .returned (.bool true) ∧ W = w') := fun W hW => hin ▸ Among_any W na m nc l s ((HNz.out.below BW.out).below hW)
                  clear hs hkl hin
                  go_wp2
                  go_loopw [103] (fun v wr => ∃ j : Nat, j ≤ ln ∧ v = .int .i64 j ∧ Below wz.heap.size wz wr) (fun v _ => ln - (intOf v).toNat)
                  case atStart => exact ⟨0, Nat.zero_le _, rfl, hb⟩
                  case round =>
                    clear d1 hb
                    obtain ⟨j, hj, rfl, hb⟩ := hrel
                    obtain ⟨wo4, hwo4⟩ : ∃ wo4 : World, wo4 = wr := ⟨_, rfl⟩
                    subst hwo4
                    by_cases hltj : j < ln
                    · have d2 := (hb.cell (p := ⟨b1, off1 + j, none⟩) hbl1).trans (hx1 j hltj)
                      have hjl : j < L.length := by rw [LL.out]; exact hltj
                      have HTL := Lib.hid (LS.out _ (st_mem hjl))
                      have HJ := Lib.hid (st_get hjl)
                      have HJM := Lib.hid (st_mem hjl)
                      obtain ⟨t, ht⟩ : ∃ t, st L j = t := ⟨_, rfl⟩
                      rw [ht] at d2 HTL HJ HJM
                      clear ht hjl
                      by_cases hjk : j = k
                      · subst hjk
                        go_wp2_with (go_at_call 28; (with_reducible refine (AM1.out _ hb).mono ?_); rintro e w6 ⟨rfl, rfl⟩)
                        go_roundw
                        case rel => exact ⟨j + 1, by omega, by go_num, hb⟩
                        case measure => simp [intOf]; omega
                      · have hne1 : (((j : Nat) : Int) == ((k : Nat) : Int)) = false := by simp; omega
                        have hne2 : (((j : Nat) : Int) != ((k : Nat) : Int)) = true := by simp; omega
                        have hst : s ≠ t := fun e => hjk (prefix_nodup_at AS.out.nodup (e ▸ HJ.out) HK.out)
                        have hbt : inS (bl D t) s = false := inS_not.2 (AS.out.ap s HKM.out t HJM.out hst)
                        have HB := Lib.hid hbt
                        have AM2 : Hid (∀ W ar cr, IsStrs W ar (bl D t).length cr (bl D t) → Calls Try.prog 28 #[.slice ar (bl D t).length cr, .string (mk s)] W fun e w' => e = .returned (.bool false) ∧ W = w') := fun W ar cr hr => hbt ▸ Among_any W ar _ cr _ s hr
                        clear hst hbt
                        go_wp2_with (first
                          | (go_at_call 28; (with_reducible refine (AM1.out _ hb).mono ?_); rintro e w6 ⟨rfl, rfl⟩)
                          | (go_at_call 22; (with_reducible refine (Below_any wo4 a n cap D ((HDz.out.below BW.out).below hb) HC.out t HTL.out).mono ?_); intro e w5 hx; obtain ⟨ar, cr, rfl, hr, hb5⟩ := hx.eq _ rfl; have HR := Lib.hid hr; clear hx hr)
                          | (go_at_call 28; (with_reducible refine (AM2.out w5 ar cr HR.out).mono ?_); rintro e w6 ⟨rfl, rfl⟩))
                        go_roundw
                        case rel => exact ⟨j + 1, by omega, by go_num, hb.trans (hb5.mono hb.size)⟩
                        case measure => simp [intOf]; omega
                    · obtain rfl : ln = j := by omega
                      clear hltj hj
                      go_wp2
                      go_roundw
                      case rel => exact ⟨k + 1, by omega, by go_num, hb⟩
                      case measure => simp [intOf]; omega
                · obtain rfl : ln = k := by omega
                  clear hltk hk
                  go_wp2
                  go_roundw
                  case rel => exact ⟨i + 1, by omega, by go_num, hb⟩
                  case measure => simp [intOf]; omega
            · obtain rfl : i = 2 := by omega
              clear hlt hi
              go_wp2_with (go_at_call 12; refine (ex_holds _).mono ?_; rintro e w9 ⟨rfl, hb9⟩)
              go_ret
              have z1 := Bz.out.trans (BW.out.mono Bz.out.size)
              have z2 := z1.trans (hb.mono z1.size)
              exact ⟨rfl, z2.trans (hb9.mono z2.size)⟩
end Go.Proofs.Ytokbfplligdaeaa
