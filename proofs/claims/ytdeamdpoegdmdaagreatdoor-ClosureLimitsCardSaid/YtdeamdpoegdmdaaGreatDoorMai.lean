/- Texts joined by wip/gen/merge.py: Dk. -/
import Derived.Test.YtdeamdpoegdmdaaGreatDoorMah
set_option linter.unusedVariables false
set_option linter.unusedSimpArgs false
/- closure: walk of ClosureMeets. Written by wip/gen/cmeets.py. -/
namespace Go.Proofs.YtdeamdpoegdmdaaGreatDoor
open Go.RowKit Go.Maps Go.Shelf
open S (wd Is64 Fresh bit SAnd SOr IsInt wi ints)

theorem Codes_got {D : List Dec} {w w' : World} {e : Ending} (h : CodesPost D w e w') (hc : chkN D = 0) (hf : (fam D).length ≤ 256) (L : List Ty) (hL : tys D = L) (m : Nat) (hm : L.length = m) : ∃ a c, e = .returned (.tuple #[.slice a m c, .int .i64 0]) ∧ InHand w' a m c L ∧ Below w.heap.size w w' := by
  obtain ⟨a, c, e1, h1, h2⟩ := Codes_eq h hc hf L hL
  subst hm
  refine ⟨a, c, e1, ⟨h1, ?_, ?_, ?_, rfl⟩, h2⟩
  · rw [← hL]; exact tys_tys (acc_of hc)
  · rw [← hL]; exact tys_pos (acc_of hc)
  · rw [← hL, tys_len (acc_of hc)]; exact hf

set_option maxRecDepth 100000 in
set_option maxHeartbeats 12800000 in
theorem ClosureMeets_law (w : World) (a : Option Addr) (n0 cap : Nat) (D : List Dec) (h : IsDecs w a n0 cap D) (i j : Nat) (hi : i < 256) (hj : j < 256) (hT : S.TabOk w) :
    Calls Tryz.prog 6 #[.slice a n0 cap, .int .u8 i, .int .u8 j] w fun e w' => e = .returned (.bool true) ∧ Below w.heap.size w w' := by
  have HT := Lib.hid hT
  have HD := Lib.hid h
  have TY := Lib.hid (types4_got w a n0 cap D h i j hi hj)
  clear h hT
  go_enter Tryz.func6, Tryz.ntmps6
  go_wp2_with fail
  refine TY.out.mono ?_
  rintro e w1 ⟨hb1, rfl | ⟨hc, hf, h12, ta0, m, tc0, x, y, L, hL, hx0, hy0, hx, hy, rfl, hI⟩⟩
  · go_wp2_with (go_at_call 13; refine (ex4_holds _ (HT.out.below hb1)).mono ?_; rintro e w2 ⟨rfl, hb2⟩)
    go_ret
    exact ⟨rfl, hb1.trans (hb2.mono hb1.size)⟩
  · have B1 := Lib.hid hb1
    have CO := Lib.hid (Codes_any w1 a n0 cap D (HD.out.below hb1) (HT.out.below hb1))
    have GOT := Lib.hid (fun (e : Ending) (w' : World) (hp : CodesPost D w1 e w') => Codes_got hp hc hf L hL.symm m hI.len)
    clear hL hx0 hy0 hb1 hc hf h12 TY hI
    go_wp2_with fail
    refine CO.out.mono ?_
    intro e w2 hp
    obtain ⟨ta, tc, rfl, hI, hb2⟩ := GOT.out e w2 hp
    have B2 := Lib.hid (B1.out.trans (hb2.mono B1.out.size))
    have I2 := Lib.hid hI
    have hle := hI.le
    have hlen := hI.len
    have T := hI.ok
    have hcap := hI.is.capLe
    have hmx := hI.is.maxLe
    unfold maxLen at hmx
    have IH := Lib.hid (fun W hW => I2.out.below (w' := W) hW)
    have J := T.join (i := x) (j := y) (by omega) (by omega)
    obtain ⟨n, hnn⟩ : ∃ n, jn2 L x y = n := ⟨_, rfl⟩
    rw [hnn] at J
    have NV := Lib.hid hnn
    have hn : n < m := by have := J.lt; omega
    have NX := Lib.hid ((T.sub_iff (by omega) (by omega)).2 J.l)
    have NY := Lib.hid ((T.sub_iff (by omega) (by omega)).2 J.r)
    have HJ : Hid (∀ k, k < m → subT L k x = true → subT L k y = true → subT L k n = true) := fun k hk h1 h2 =>
      (T.sub_iff (by omega) (by omega)).2 (J.least k (by omega) ((T.sub_iff (by omega) (by omega)).1 h1) ((T.sub_iff (by omega) (by omega)).1 h2))
    have hn0 : ¬ (n : Int) < 0 := by omega
    have hn1 : ¬ (m : Int) ≤ (n : Int) := by omega
    have hx0 : (0 : Int) ≤ (x : Int) := by omega
    have hx1 : (x : Int) < (m : Int) := by omega
    have hx2 : ¬ (m : Int) ≤ (x : Int) := by omega
    have hy0 : (0 : Int) ≤ (y : Int) := by omega
    have hy1 : (y : Int) < (m : Int) := by omega
    have hy2 : ¬ (m : Int) ≤ (y : Int) := by omega
    have sx := T.at (i := x) (by omega)
    have sy := T.at (i := y) (by omega)
    obtain ⟨bl, off, rfl, hbl, hcells⟩ := hI.is.at_ hI.pos
    obtain ⟨xa, xc, hxt⟩ := hcells x hx
    obtain ⟨ya, yc, hyt⟩ := hcells y hy
    have c1 : w2.cell? ⟨bl, off + x * 2 + 1, none⟩ = some (.slice xa (ty L x).2.length xc) := hxt.c1
    have c2 : w2.cell? ⟨bl, off + y * 2 + 1, none⟩ = some (.slice ya (ty L y).2.length yc) := hyt.c1
    have X64 := Lib.hid hxt.is
    have Y64 := Lib.hid hyt.is
    have hxl := sx.2.2
    have hyl := sy.2.2
    obtain ⟨both, hbo⟩ : ∃ both, SAnd (ty L x).2 (ty L y).2 = both := ⟨_, rfl⟩
    have HBO : Hid (S.nrm (min (ty L x).2.length (ty L y).2.length) (S.andF (ty L x).2 (ty L y).2) = both) := hbo
    have HBS : Hid (IsS both) := by rw [← hbo]; exact sx.1.and _
    have hbl64 : both.length ≤ 64 := by rw [← hbo]; exact Nat.le_trans (S.nrm_le _ _) (Nat.le_trans (Nat.min_le_left _ _) hxl)
    have HBB := Lib.hid hbo
    have MC := T.meet_cases (x := x) (y := y) (by omega) (by omega)
    rw [hbo] at MC
    have HCN0 : Hid (S.cnt both both.length = cnS both) := cnt_cnS HBS.out hbl64
    obtain ⟨bn, hbn⟩ : ∃ bn, cnS both = bn := ⟨_, rfl⟩
    have HCN : Hid (S.cnt both both.length = bn) := HCN0.out.trans hbn
    have HZ : Hid (bn = 0 ↔ both = []) := by show _ ↔ _; rw [← hbn]; exact cnS_zero HBS.out
    have TT := Lib.hid T
    clear T J hnn sx sy hxt hyt hbo HCN0 hbn hp hb2 CO GOT hI
    rcases MC with ⟨k0, hk0, hke, hmv⟩ | ⟨hbe, hmv⟩
    · have MV := Lib.hid hmv
      obtain ⟨ka, kc, hkt⟩ := hcells k0 (by omega)
      have c3 : w2.cell? ⟨bl, off + k0 * 2 + 1, none⟩ = some (.slice ka (ty L k0).2.length kc) := hkt.c1
      have K64 := Lib.hid hkt.is
      have sk := TT.out.at hk0
      have HKS := Lib.hid sk.1
      have HKE := Lib.hid hke
      have hbn0 : bn ≠ 0 := fun e => sk.2.1 (hke.trans (HZ.out.1 e))
      have q1 : ((bn : Int) == 0) = false := by rw [beq_eq_false_iff_ne]; omega
      have q2 : decide ((k0 : Int) < 0) = false := by rw [decide_eq_false_iff_not]; omega
      have q3 : (0 : Int) ≤ (k0 : Int) := by omega
      have q4 : ¬ (m : Int) ≤ (k0 : Int) := by omega
      have XK : Hid (subT L x k0 = true) := (TT.out.sub_iff (by omega) hk0).2 (by rw [hke, ← HBB.out]; exact and_left _ _)
      have YK : Hid (subT L y k0 = true) := (TT.out.sub_iff (by omega) hk0).2 (by rw [hke, ← HBB.out]; exact and_right _ _)
      have HK : Hid (∀ k, k < m → subT L x k = true → subT L y k = true → subT L k0 k = true) := fun k hk h1 h2 =>
        (TT.out.sub_iff hk0 (by omega)).2 (by rw [hke, ← HBB.out]; exact sub_and.2 ⟨(TT.out.sub_iff (by omega) (by omega)).1 h1, (TT.out.sub_iff (by omega) (by omega)).1 h2⟩)
      have hk0 : k0 < m := by omega
      have hk1 : (k0 : Int) < (m : Int) := by omega
      clear hmv hkt sk hke hcells hbn0
      go_wp2_with fail
      refine (MeetI_any w2 _ m tc L (IH.out w2 (Below.refl w2.heap.size w2)) x y hx hy _ MV.out).mono ?_
      rintro e aw0 ⟨rfl, hbaw0⟩
      have aB0 := Lib.hid hbaw0
      clear hbaw0
      go_wp2_with fail
      refine (JoinI_any aw0 _ m tc L (IH.out aw0 aB0.out) x y hx hy n NV.out).mono ?_
      rintro e aw1 ⟨rfl, hbaw1⟩
      have aB1 := Lib.hid (aB0.out.trans (hbaw1.mono aB0.out.size))
      clear hbaw1 aB0
      go_wp2_with fail
      refine (Subsumes_val aw1 _ m tc L (IH.out aw1 aB1.out).is n x hn hx true NX.out).mono ?_
      rintro e aw2 ⟨rfl, hbaw2⟩
      have aB2 := Lib.hid (aB1.out.trans (hbaw2.mono aB1.out.size))
      clear hbaw2 aB1
      go_wp2_with fail
      refine (Subsumes_val aw2 _ m tc L (IH.out aw2 aB2.out).is n y hn hy true NY.out).mono ?_
      rintro e aw3 ⟨rfl, hbaw3⟩
      have aB3 := Lib.hid (aB2.out.trans (hbaw3.mono aB2.out.size))
      clear hbaw3 aB2
      have d1 := (aB3.out.cell (p := ⟨bl, off + x * 2 + 1, none⟩) hbl).trans c1
      have d2 := (aB3.out.cell (p := ⟨bl, off + y * 2 + 1, none⟩) hbl).trans c2
      have hblw : bl < aw3.heap.size := Nat.lt_of_lt_of_le hbl aB3.out.size
      have BD := Lib.hid (show Below aw3.heap.size aw3 aw3.drew from (Below.refl _ aw3).drew)
      have AN := Lib.hid (S.And_any aw3.drew xa ya _ _ xc yc _ _ ((X64.out.below aB3.out).below BD.out) ((Y64.out.below aB3.out).below BD.out) (by omega) (by omega))
      go_wp2_with fail
      go_region_held3 (fun w' => w'.cell? ⟨bl, off + x * 2 + 1, none⟩ = some (.slice xa (ty L x).2.length xc) ∧ w'.cell? ⟨bl, off + y * 2 + 1, none⟩ = some (.slice ya (ty L y).2.length yc)) (first | (go_keep; done) | exact ⟨d1, d2⟩ | exact ⟨f1, f2⟩) ((go_at_call 29; refine AN.out.mono ?_; intro e w7 hr; obtain ⟨za, zc, rfl, hz64, -, hb7⟩ := S.Ret64.eqF both hr HBO.out; have f1 := (hb7.cell (p := ⟨bl, off + x * 2 + 1, none⟩) hblw).trans d1; have f2 := (hb7.cell (p := ⟨bl, off + y * 2 + 1, none⟩) hblw).trans d2; have k7 := BD.out.trans (hb7.mono BD.out.size); have B7 := Lib.hid (aB3.out.trans (k7.mono aB3.out.size)); have Z7 := Lib.hid hz64; clear hr hz64 hb7 k7))
      clear d1 d2 f1 f2 AN BD
      go_wp2_with fail
      refine (S.Count_val bn w7 za _ zc both Z7.out (by omega) HCN.out).mono ?_
      rintro e w7' ⟨rfl, rfl⟩
      have d3 := (B7.out.cell (p := ⟨bl, off + k0 * 2 + 1, none⟩) hbl).trans c3
      have EQ := Lib.hid (EqualS_any w7 (.slice ka (ty L k0).2.length kc) (.slice za both.length zc) (ty L k0).2 both ⟨ka, kc, rfl, K64.out.below B7.out⟩ ⟨za, zc, rfl, Z7.out⟩ HKS.out HBS.out)
      rw [decide_eq_true HKE.out] at EQ
      go_wp2_with fail
      refine EQ.out.mono ?_
      rintro e w8' ⟨rfl, rfl⟩
      go_wp2_with fail
      refine (Subsumes_val w7 _ m tc L (IH.out w7 B7.out).is x k0 hx hk0 true XK.out).mono ?_
      rintro e bw0 ⟨rfl, hbbw0⟩
      have bB0 := Lib.hid (B7.out.trans (hbbw0.mono B7.out.size))
      clear hbbw0
      go_wp2_with fail
      refine (Subsumes_val bw0 _ m tc L (IH.out bw0 bB0.out).is y k0 hy hk0 true YK.out).mono ?_
      rintro e bw1 ⟨rfl, hbbw1⟩
      have bB1 := Lib.hid (bB0.out.trans (hbbw1.mono bB0.out.size))
      clear hbbw1 bB0
      go_wp2_with fail
      go_loopw [131] (fun v wr => ∃ k : Nat, k ≤ m ∧ v = .int .i64 k ∧ Hid (Below w2.heap.size w2 wr)) (fun v _ => m - (intOf v).toNat)
      case atStart => exact ⟨0, Nat.zero_le _, rfl, bB1.out⟩
      case round =>
        obtain ⟨k, hk, rfl, hB⟩ := hrel
        by_cases hlt : k < m
        · have hkk0 : (0 : Int) ≤ (k : Int) := by omega
          have hkk1 : (k : Int) < (m : Int) := by omega
          cases hc1 : subT L x k
          · have C1 := Lib.hid hc1
            clear hc1
            cases hd1 : subT L k x
            · have D1 := Lib.hid hd1
              clear hd1
              go_wp2_with fail
              refine (Subsumes_val wr _ m tc L (IH.out wr hB.out).is x k hx hlt false C1.out).mono ?_
              rintro e vw0 ⟨rfl, hbvw0⟩
              have vB0 := Lib.hid (hB.out.trans (hbvw0.mono hB.out.size))
              clear hbvw0
              go_wp2_with fail
              refine (Subsumes_val vw0 _ m tc L (IH.out vw0 vB0.out).is k x hlt hx false D1.out).mono ?_
              rintro e vw1 ⟨rfl, hbvw1⟩
              have vB1 := Lib.hid (vB0.out.trans (hbvw1.mono vB0.out.size))
              clear hbvw1 vB0
              go_wp2_with fail
              go_roundw
              case rel => exact ⟨k + 1, by omega, by go_num, vB1.out⟩
              case measure => simp [intOf]; omega
            · cases hd2 : subT L k y
              · have D1 := Lib.hid hd1
                have D2 := Lib.hid hd2
                clear hd1 hd2
                go_wp2_with fail
                refine (Subsumes_val wr _ m tc L (IH.out wr hB.out).is x k hx hlt false C1.out).mono ?_
                rintro e vw0 ⟨rfl, hbvw0⟩
                have vB0 := Lib.hid (hB.out.trans (hbvw0.mono hB.out.size))
                clear hbvw0
                go_wp2_with fail
                refine (Subsumes_val vw0 _ m tc L (IH.out vw0 vB0.out).is k x hlt hx true D1.out).mono ?_
                rintro e vw1 ⟨rfl, hbvw1⟩
                have vB1 := Lib.hid (vB0.out.trans (hbvw1.mono vB0.out.size))
                clear hbvw1 vB0
                go_wp2_with fail
                refine (Subsumes_val vw1 _ m tc L (IH.out vw1 vB1.out).is k y hlt hy false D2.out).mono ?_
                rintro e vw2 ⟨rfl, hbvw2⟩
                have vB2 := Lib.hid (vB1.out.trans (hbvw2.mono vB1.out.size))
                clear hbvw2 vB1
                go_wp2_with fail
                go_roundw
                case rel => exact ⟨k + 1, by omega, by go_num, vB2.out⟩
                case measure => simp [intOf]; omega
              · have DN := Lib.hid (HJ.out k hlt hd1 hd2)
                have D1 := Lib.hid hd1
                have D2 := Lib.hid hd2
                clear hd1 hd2
                go_wp2_with fail
                refine (Subsumes_val wr _ m tc L (IH.out wr hB.out).is x k hx hlt false C1.out).mono ?_
                rintro e vw0 ⟨rfl, hbvw0⟩
                have vB0 := Lib.hid (hB.out.trans (hbvw0.mono hB.out.size))
                clear hbvw0
                go_wp2_with fail
                refine (Subsumes_val vw0 _ m tc L (IH.out vw0 vB0.out).is k x hlt hx true D1.out).mono ?_
                rintro e vw1 ⟨rfl, hbvw1⟩
                have vB1 := Lib.hid (vB0.out.trans (hbvw1.mono vB0.out.size))
                clear hbvw1 vB0
                go_wp2_with fail
                refine (Subsumes_val vw1 _ m tc L (IH.out vw1 vB1.out).is k y hlt hy true D2.out).mono ?_
                rintro e vw2 ⟨rfl, hbvw2⟩
                have vB2 := Lib.hid (vB1.out.trans (hbvw2.mono vB1.out.size))
                clear hbvw2 vB1
                go_wp2_with fail
                refine (Subsumes_val vw2 _ m tc L (IH.out vw2 vB2.out).is k n hlt hn true DN.out).mono ?_
                rintro e vw3 ⟨rfl, hbvw3⟩
                have vB3 := Lib.hid (vB2.out.trans (hbvw3.mono vB2.out.size))
                clear hbvw3 vB2
                go_wp2_with fail
                go_roundw
                case rel => exact ⟨k + 1, by omega, by go_num, vB3.out⟩
                case measure => simp [intOf]; omega
          · cases hc2 : subT L y k
            · have C1 := Lib.hid hc1
              have C2 := Lib.hid hc2
              clear hc1 hc2
              cases hd1 : subT L k x
              · have D1 := Lib.hid hd1
                clear hd1
                go_wp2_with fail
                refine (Subsumes_val wr _ m tc L (IH.out wr hB.out).is x k hx hlt true C1.out).mono ?_
                rintro e vw0 ⟨rfl, hbvw0⟩
                have vB0 := Lib.hid (hB.out.trans (hbvw0.mono hB.out.size))
                clear hbvw0
                go_wp2_with fail
                refine (Subsumes_val vw0 _ m tc L (IH.out vw0 vB0.out).is y k hy hlt false C2.out).mono ?_
                rintro e vw1 ⟨rfl, hbvw1⟩
                have vB1 := Lib.hid (vB0.out.trans (hbvw1.mono vB0.out.size))
                clear hbvw1 vB0
                go_wp2_with fail
                refine (Subsumes_val vw1 _ m tc L (IH.out vw1 vB1.out).is k x hlt hx false D1.out).mono ?_
                rintro e vw2 ⟨rfl, hbvw2⟩
                have vB2 := Lib.hid (vB1.out.trans (hbvw2.mono vB1.out.size))
                clear hbvw2 vB1
                go_wp2_with fail
                go_roundw
                case rel => exact ⟨k + 1, by omega, by go_num, vB2.out⟩
                case measure => simp [intOf]; omega
              · cases hd2 : subT L k y
                · have D1 := Lib.hid hd1
                  have D2 := Lib.hid hd2
                  clear hd1 hd2
                  go_wp2_with fail
                  refine (Subsumes_val wr _ m tc L (IH.out wr hB.out).is x k hx hlt true C1.out).mono ?_
                  rintro e vw0 ⟨rfl, hbvw0⟩
                  have vB0 := Lib.hid (hB.out.trans (hbvw0.mono hB.out.size))
                  clear hbvw0
                  go_wp2_with fail
                  refine (Subsumes_val vw0 _ m tc L (IH.out vw0 vB0.out).is y k hy hlt false C2.out).mono ?_
                  rintro e vw1 ⟨rfl, hbvw1⟩
                  have vB1 := Lib.hid (vB0.out.trans (hbvw1.mono vB0.out.size))
                  clear hbvw1 vB0
                  go_wp2_with fail
                  refine (Subsumes_val vw1 _ m tc L (IH.out vw1 vB1.out).is k x hlt hx true D1.out).mono ?_
                  rintro e vw2 ⟨rfl, hbvw2⟩
                  have vB2 := Lib.hid (vB1.out.trans (hbvw2.mono vB1.out.size))
                  clear hbvw2 vB1
                  go_wp2_with fail
                  refine (Subsumes_val vw2 _ m tc L (IH.out vw2 vB2.out).is k y hlt hy false D2.out).mono ?_
                  rintro e vw3 ⟨rfl, hbvw3⟩
                  have vB3 := Lib.hid (vB2.out.trans (hbvw3.mono vB2.out.size))
                  clear hbvw3 vB2
                  go_wp2_with fail
                  go_roundw
                  case rel => exact ⟨k + 1, by omega, by go_num, vB3.out⟩
                  case measure => simp [intOf]; omega
                · have DN := Lib.hid (HJ.out k hlt hd1 hd2)
                  have D1 := Lib.hid hd1
                  have D2 := Lib.hid hd2
                  clear hd1 hd2
                  go_wp2_with fail
                  refine (Subsumes_val wr _ m tc L (IH.out wr hB.out).is x k hx hlt true C1.out).mono ?_
                  rintro e vw0 ⟨rfl, hbvw0⟩
                  have vB0 := Lib.hid (hB.out.trans (hbvw0.mono hB.out.size))
                  clear hbvw0
                  go_wp2_with fail
                  refine (Subsumes_val vw0 _ m tc L (IH.out vw0 vB0.out).is y k hy hlt false C2.out).mono ?_
                  rintro e vw1 ⟨rfl, hbvw1⟩
                  have vB1 := Lib.hid (vB0.out.trans (hbvw1.mono vB0.out.size))
                  clear hbvw1 vB0
                  go_wp2_with fail
                  refine (Subsumes_val vw1 _ m tc L (IH.out vw1 vB1.out).is k x hlt hx true D1.out).mono ?_
                  rintro e vw2 ⟨rfl, hbvw2⟩
                  have vB2 := Lib.hid (vB1.out.trans (hbvw2.mono vB1.out.size))
                  clear hbvw2 vB1
                  go_wp2_with fail
                  refine (Subsumes_val vw2 _ m tc L (IH.out vw2 vB2.out).is k y hlt hy true D2.out).mono ?_
                  rintro e vw3 ⟨rfl, hbvw3⟩
                  have vB3 := Lib.hid (vB2.out.trans (hbvw3.mono vB2.out.size))
                  clear hbvw3 vB2
                  go_wp2_with fail
                  refine (Subsumes_val vw3 _ m tc L (IH.out vw3 vB3.out).is k n hlt hn true DN.out).mono ?_
                  rintro e vw4 ⟨rfl, hbvw4⟩
                  have vB4 := Lib.hid (vB3.out.trans (hbvw4.mono vB3.out.size))
                  clear hbvw4 vB3
                  go_wp2_with fail
                  go_roundw
                  case rel => exact ⟨k + 1, by omega, by go_num, vB4.out⟩
                  case measure => simp [intOf]; omega
            · have CM := Lib.hid (HK.out k hlt hc1 hc2)
              have C1 := Lib.hid hc1
              have C2 := Lib.hid hc2
              clear hc1 hc2
              cases hd1 : subT L k x
              · have D1 := Lib.hid hd1
                clear hd1
                go_wp2_with fail
                refine (Subsumes_val wr _ m tc L (IH.out wr hB.out).is x k hx hlt true C1.out).mono ?_
                rintro e vw0 ⟨rfl, hbvw0⟩
                have vB0 := Lib.hid (hB.out.trans (hbvw0.mono hB.out.size))
                clear hbvw0
                go_wp2_with fail
                refine (Subsumes_val vw0 _ m tc L (IH.out vw0 vB0.out).is y k hy hlt true C2.out).mono ?_
                rintro e vw1 ⟨rfl, hbvw1⟩
                have vB1 := Lib.hid (vB0.out.trans (hbvw1.mono vB0.out.size))
                clear hbvw1 vB0
                go_wp2_with fail
                refine (Subsumes_val vw1 _ m tc L (IH.out vw1 vB1.out).is k0 k hk0 hlt true CM.out).mono ?_
                rintro e vw2 ⟨rfl, hbvw2⟩
                have vB2 := Lib.hid (vB1.out.trans (hbvw2.mono vB1.out.size))
                clear hbvw2 vB1
                go_wp2_with fail
                refine (Subsumes_val vw2 _ m tc L (IH.out vw2 vB2.out).is k x hlt hx false D1.out).mono ?_
                rintro e vw3 ⟨rfl, hbvw3⟩
                have vB3 := Lib.hid (vB2.out.trans (hbvw3.mono vB2.out.size))
                clear hbvw3 vB2
                go_wp2_with fail
                go_roundw
                case rel => exact ⟨k + 1, by omega, by go_num, vB3.out⟩
                case measure => simp [intOf]; omega
              · cases hd2 : subT L k y
                · have D1 := Lib.hid hd1
                  have D2 := Lib.hid hd2
                  clear hd1 hd2
                  go_wp2_with fail
                  refine (Subsumes_val wr _ m tc L (IH.out wr hB.out).is x k hx hlt true C1.out).mono ?_
                  rintro e vw0 ⟨rfl, hbvw0⟩
                  have vB0 := Lib.hid (hB.out.trans (hbvw0.mono hB.out.size))
                  clear hbvw0
                  go_wp2_with fail
                  refine (Subsumes_val vw0 _ m tc L (IH.out vw0 vB0.out).is y k hy hlt true C2.out).mono ?_
                  rintro e vw1 ⟨rfl, hbvw1⟩
                  have vB1 := Lib.hid (vB0.out.trans (hbvw1.mono vB0.out.size))
                  clear hbvw1 vB0
                  go_wp2_with fail
                  refine (Subsumes_val vw1 _ m tc L (IH.out vw1 vB1.out).is k0 k hk0 hlt true CM.out).mono ?_
                  rintro e vw2 ⟨rfl, hbvw2⟩
                  have vB2 := Lib.hid (vB1.out.trans (hbvw2.mono vB1.out.size))
                  clear hbvw2 vB1
                  go_wp2_with fail
                  refine (Subsumes_val vw2 _ m tc L (IH.out vw2 vB2.out).is k x hlt hx true D1.out).mono ?_
                  rintro e vw3 ⟨rfl, hbvw3⟩
                  have vB3 := Lib.hid (vB2.out.trans (hbvw3.mono vB2.out.size))
                  clear hbvw3 vB2
                  go_wp2_with fail
                  refine (Subsumes_val vw3 _ m tc L (IH.out vw3 vB3.out).is k y hlt hy false D2.out).mono ?_
                  rintro e vw4 ⟨rfl, hbvw4⟩
                  have vB4 := Lib.hid (vB3.out.trans (hbvw4.mono vB3.out.size))
                  clear hbvw4 vB3
                  go_wp2_with fail
                  go_roundw
                  case rel => exact ⟨k + 1, by omega, by go_num, vB4.out⟩
                  case measure => simp [intOf]; omega
                · have DN := Lib.hid (HJ.out k hlt hd1 hd2)
                  have D1 := Lib.hid hd1
                  have D2 := Lib.hid hd2
                  clear hd1 hd2
                  go_wp2_with fail
                  refine (Subsumes_val wr _ m tc L (IH.out wr hB.out).is x k hx hlt true C1.out).mono ?_
                  rintro e vw0 ⟨rfl, hbvw0⟩
                  have vB0 := Lib.hid (hB.out.trans (hbvw0.mono hB.out.size))
                  clear hbvw0
                  go_wp2_with fail
                  refine (Subsumes_val vw0 _ m tc L (IH.out vw0 vB0.out).is y k hy hlt true C2.out).mono ?_
                  rintro e vw1 ⟨rfl, hbvw1⟩
                  have vB1 := Lib.hid (vB0.out.trans (hbvw1.mono vB0.out.size))
                  clear hbvw1 vB0
                  go_wp2_with fail
                  refine (Subsumes_val vw1 _ m tc L (IH.out vw1 vB1.out).is k0 k hk0 hlt true CM.out).mono ?_
                  rintro e vw2 ⟨rfl, hbvw2⟩
                  have vB2 := Lib.hid (vB1.out.trans (hbvw2.mono vB1.out.size))
                  clear hbvw2 vB1
                  go_wp2_with fail
                  refine (Subsumes_val vw2 _ m tc L (IH.out vw2 vB2.out).is k x hlt hx true D1.out).mono ?_
                  rintro e vw3 ⟨rfl, hbvw3⟩
                  have vB3 := Lib.hid (vB2.out.trans (hbvw3.mono vB2.out.size))
                  clear hbvw3 vB2
                  go_wp2_with fail
                  refine (Subsumes_val vw3 _ m tc L (IH.out vw3 vB3.out).is k y hlt hy true D2.out).mono ?_
                  rintro e vw4 ⟨rfl, hbvw4⟩
                  have vB4 := Lib.hid (vB3.out.trans (hbvw4.mono vB3.out.size))
                  clear hbvw4 vB3
                  go_wp2_with fail
                  refine (Subsumes_val vw4 _ m tc L (IH.out vw4 vB4.out).is k n hlt hn true DN.out).mono ?_
                  rintro e vw5 ⟨rfl, hbvw5⟩
                  have vB5 := Lib.hid (vB4.out.trans (hbvw5.mono vB4.out.size))
                  clear hbvw5 vB4
                  go_wp2_with fail
                  go_roundw
                  case rel => exact ⟨k + 1, by omega, by go_num, vB5.out⟩
                  case measure => simp [intOf]; omega
        · obtain rfl : m = k := by omega
          have BE := Lib.hid (B2.out.trans (hB.out.mono B2.out.size))
          go_wp2_with (go_at_call 13; refine (ex4_holds _ (HT.out.below BE.out)).mono ?_; rintro e we ⟨rfl, hbe⟩)
          go_ret
          exact ⟨rfl, BE.out.trans (hbe.mono BE.out.size)⟩
    · have MV := Lib.hid hmv
      have hbn0 : bn = 0 := HZ.out.2 hbe
      have q1 : ((bn : Int) == 0) = true := by rw [hbn0]; rfl
      have HK : Hid (∀ k, k < m → subT L x k = true → ¬ subT L y k = true) := fun k hk h1 h2 => by
        have h3 : Sub (ty L k).2 both := by rw [← HBB.out]; exact sub_and.2 ⟨(TT.out.sub_iff (by omega) (by omega)).1 h1, (TT.out.sub_iff (by omega) (by omega)).1 h2⟩
        obtain ⟨b, hb⟩ := (TT.out.at (i := k) (by omega)).1.has (TT.out.at (by omega)).2.1
        have := h3 b hb
        rw [hbe, bit_nil] at this
        cases this
      clear hmv hbe hcells hbn0
      go_wp2_with fail
      refine (MeetI_any w2 _ m tc L (IH.out w2 (Below.refl w2.heap.size w2)) x y hx hy _ MV.out).mono ?_
      rintro e aw0 ⟨rfl, hbaw0⟩
      have aB0 := Lib.hid hbaw0
      clear hbaw0
      go_wp2_with fail
      refine (JoinI_any aw0 _ m tc L (IH.out aw0 aB0.out) x y hx hy n NV.out).mono ?_
      rintro e aw1 ⟨rfl, hbaw1⟩
      have aB1 := Lib.hid (aB0.out.trans (hbaw1.mono aB0.out.size))
      clear hbaw1 aB0
      go_wp2_with fail
      refine (Subsumes_val aw1 _ m tc L (IH.out aw1 aB1.out).is n x hn hx true NX.out).mono ?_
      rintro e aw2 ⟨rfl, hbaw2⟩
      have aB2 := Lib.hid (aB1.out.trans (hbaw2.mono aB1.out.size))
      clear hbaw2 aB1
      go_wp2_with fail
      refine (Subsumes_val aw2 _ m tc L (IH.out aw2 aB2.out).is n y hn hy true NY.out).mono ?_
      rintro e aw3 ⟨rfl, hbaw3⟩
      have aB3 := Lib.hid (aB2.out.trans (hbaw3.mono aB2.out.size))
      clear hbaw3 aB2
      have d1 := (aB3.out.cell (p := ⟨bl, off + x * 2 + 1, none⟩) hbl).trans c1
      have d2 := (aB3.out.cell (p := ⟨bl, off + y * 2 + 1, none⟩) hbl).trans c2
      have hblw : bl < aw3.heap.size := Nat.lt_of_lt_of_le hbl aB3.out.size
      have BD := Lib.hid (show Below aw3.heap.size aw3 aw3.drew from (Below.refl _ aw3).drew)
      have AN := Lib.hid (S.And_any aw3.drew xa ya _ _ xc yc _ _ ((X64.out.below aB3.out).below BD.out) ((Y64.out.below aB3.out).below BD.out) (by omega) (by omega))
      go_wp2_with fail
      go_region_held3 (fun w' => w'.cell? ⟨bl, off + x * 2 + 1, none⟩ = some (.slice xa (ty L x).2.length xc) ∧ w'.cell? ⟨bl, off + y * 2 + 1, none⟩ = some (.slice ya (ty L y).2.length yc)) (first | (go_keep; done) | exact ⟨d1, d2⟩ | exact ⟨f1, f2⟩) ((go_at_call 29; refine AN.out.mono ?_; intro e w7 hr; obtain ⟨za, zc, rfl, hz64, -, hb7⟩ := S.Ret64.eqF both hr HBO.out; have f1 := (hb7.cell (p := ⟨bl, off + x * 2 + 1, none⟩) hblw).trans d1; have f2 := (hb7.cell (p := ⟨bl, off + y * 2 + 1, none⟩) hblw).trans d2; have k7 := BD.out.trans (hb7.mono BD.out.size); have B7 := Lib.hid (aB3.out.trans (k7.mono aB3.out.size)); have Z7 := Lib.hid hz64; clear hr hz64 hb7 k7))
      clear d1 d2 f1 f2 AN BD
      go_wp2_with fail
      refine (S.Count_val bn w7 za _ zc both Z7.out (by omega) HCN.out).mono ?_
      rintro e w7' ⟨rfl, rfl⟩
      go_wp2_with fail
      go_loopw [131] (fun v wr => ∃ k : Nat, k ≤ m ∧ v = .int .i64 k ∧ Hid (Below w2.heap.size w2 wr)) (fun v _ => m - (intOf v).toNat)
      case atStart => exact ⟨0, Nat.zero_le _, rfl, B7.out⟩
      case round =>
        obtain ⟨k, hk, rfl, hB⟩ := hrel
        by_cases hlt : k < m
        · have hkk0 : (0 : Int) ≤ (k : Int) := by omega
          have hkk1 : (k : Int) < (m : Int) := by omega
          cases hc1 : subT L x k
          · have C1 := Lib.hid hc1
            clear hc1
            cases hd1 : subT L k x
            · have D1 := Lib.hid hd1
              clear hd1
              go_wp2_with fail
              refine (Subsumes_val wr _ m tc L (IH.out wr hB.out).is x k hx hlt false C1.out).mono ?_
              rintro e vw0 ⟨rfl, hbvw0⟩
              have vB0 := Lib.hid (hB.out.trans (hbvw0.mono hB.out.size))
              clear hbvw0
              go_wp2_with fail
              refine (Subsumes_val vw0 _ m tc L (IH.out vw0 vB0.out).is k x hlt hx false D1.out).mono ?_
              rintro e vw1 ⟨rfl, hbvw1⟩
              have vB1 := Lib.hid (vB0.out.trans (hbvw1.mono vB0.out.size))
              clear hbvw1 vB0
              go_wp2_with fail
              go_roundw
              case rel => exact ⟨k + 1, by omega, by go_num, vB1.out⟩
              case measure => simp [intOf]; omega
            · cases hd2 : subT L k y
              · have D1 := Lib.hid hd1
                have D2 := Lib.hid hd2
                clear hd1 hd2
                go_wp2_with fail
                refine (Subsumes_val wr _ m tc L (IH.out wr hB.out).is x k hx hlt false C1.out).mono ?_
                rintro e vw0 ⟨rfl, hbvw0⟩
                have vB0 := Lib.hid (hB.out.trans (hbvw0.mono hB.out.size))
                clear hbvw0
                go_wp2_with fail
                refine (Subsumes_val vw0 _ m tc L (IH.out vw0 vB0.out).is k x hlt hx true D1.out).mono ?_
                rintro e vw1 ⟨rfl, hbvw1⟩
                have vB1 := Lib.hid (vB0.out.trans (hbvw1.mono vB0.out.size))
                clear hbvw1 vB0
                go_wp2_with fail
                refine (Subsumes_val vw1 _ m tc L (IH.out vw1 vB1.out).is k y hlt hy false D2.out).mono ?_
                rintro e vw2 ⟨rfl, hbvw2⟩
                have vB2 := Lib.hid (vB1.out.trans (hbvw2.mono vB1.out.size))
                clear hbvw2 vB1
                go_wp2_with fail
                go_roundw
                case rel => exact ⟨k + 1, by omega, by go_num, vB2.out⟩
                case measure => simp [intOf]; omega
              · have DN := Lib.hid (HJ.out k hlt hd1 hd2)
                have D1 := Lib.hid hd1
                have D2 := Lib.hid hd2
                clear hd1 hd2
                go_wp2_with fail
                refine (Subsumes_val wr _ m tc L (IH.out wr hB.out).is x k hx hlt false C1.out).mono ?_
                rintro e vw0 ⟨rfl, hbvw0⟩
                have vB0 := Lib.hid (hB.out.trans (hbvw0.mono hB.out.size))
                clear hbvw0
                go_wp2_with fail
                refine (Subsumes_val vw0 _ m tc L (IH.out vw0 vB0.out).is k x hlt hx true D1.out).mono ?_
                rintro e vw1 ⟨rfl, hbvw1⟩
                have vB1 := Lib.hid (vB0.out.trans (hbvw1.mono vB0.out.size))
                clear hbvw1 vB0
                go_wp2_with fail
                refine (Subsumes_val vw1 _ m tc L (IH.out vw1 vB1.out).is k y hlt hy true D2.out).mono ?_
                rintro e vw2 ⟨rfl, hbvw2⟩
                have vB2 := Lib.hid (vB1.out.trans (hbvw2.mono vB1.out.size))
                clear hbvw2 vB1
                go_wp2_with fail
                refine (Subsumes_val vw2 _ m tc L (IH.out vw2 vB2.out).is k n hlt hn true DN.out).mono ?_
                rintro e vw3 ⟨rfl, hbvw3⟩
                have vB3 := Lib.hid (vB2.out.trans (hbvw3.mono vB2.out.size))
                clear hbvw3 vB2
                go_wp2_with fail
                go_roundw
                case rel => exact ⟨k + 1, by omega, by go_num, vB3.out⟩
                case measure => simp [intOf]; omega
          · cases hc2 : subT L y k
            · have C1 := Lib.hid hc1
              have C2 := Lib.hid hc2
              clear hc1 hc2
              cases hd1 : subT L k x
              · have D1 := Lib.hid hd1
                clear hd1
                go_wp2_with fail
                refine (Subsumes_val wr _ m tc L (IH.out wr hB.out).is x k hx hlt true C1.out).mono ?_
                rintro e vw0 ⟨rfl, hbvw0⟩
                have vB0 := Lib.hid (hB.out.trans (hbvw0.mono hB.out.size))
                clear hbvw0
                go_wp2_with fail
                refine (Subsumes_val vw0 _ m tc L (IH.out vw0 vB0.out).is y k hy hlt false C2.out).mono ?_
                rintro e vw1 ⟨rfl, hbvw1⟩
                have vB1 := Lib.hid (vB0.out.trans (hbvw1.mono vB0.out.size))
                clear hbvw1 vB0
                go_wp2_with fail
                refine (Subsumes_val vw1 _ m tc L (IH.out vw1 vB1.out).is k x hlt hx false D1.out).mono ?_
                rintro e vw2 ⟨rfl, hbvw2⟩
                have vB2 := Lib.hid (vB1.out.trans (hbvw2.mono vB1.out.size))
                clear hbvw2 vB1
                go_wp2_with fail
                go_roundw
                case rel => exact ⟨k + 1, by omega, by go_num, vB2.out⟩
                case measure => simp [intOf]; omega
              · cases hd2 : subT L k y
                · have D1 := Lib.hid hd1
                  have D2 := Lib.hid hd2
                  clear hd1 hd2
                  go_wp2_with fail
                  refine (Subsumes_val wr _ m tc L (IH.out wr hB.out).is x k hx hlt true C1.out).mono ?_
                  rintro e vw0 ⟨rfl, hbvw0⟩
                  have vB0 := Lib.hid (hB.out.trans (hbvw0.mono hB.out.size))
                  clear hbvw0
                  go_wp2_with fail
                  refine (Subsumes_val vw0 _ m tc L (IH.out vw0 vB0.out).is y k hy hlt false C2.out).mono ?_
                  rintro e vw1 ⟨rfl, hbvw1⟩
                  have vB1 := Lib.hid (vB0.out.trans (hbvw1.mono vB0.out.size))
                  clear hbvw1 vB0
                  go_wp2_with fail
                  refine (Subsumes_val vw1 _ m tc L (IH.out vw1 vB1.out).is k x hlt hx true D1.out).mono ?_
                  rintro e vw2 ⟨rfl, hbvw2⟩
                  have vB2 := Lib.hid (vB1.out.trans (hbvw2.mono vB1.out.size))
                  clear hbvw2 vB1
                  go_wp2_with fail
                  refine (Subsumes_val vw2 _ m tc L (IH.out vw2 vB2.out).is k y hlt hy false D2.out).mono ?_
                  rintro e vw3 ⟨rfl, hbvw3⟩
                  have vB3 := Lib.hid (vB2.out.trans (hbvw3.mono vB2.out.size))
                  clear hbvw3 vB2
                  go_wp2_with fail
                  go_roundw
                  case rel => exact ⟨k + 1, by omega, by go_num, vB3.out⟩
                  case measure => simp [intOf]; omega
                · have DN := Lib.hid (HJ.out k hlt hd1 hd2)
                  have D1 := Lib.hid hd1
                  have D2 := Lib.hid hd2
                  clear hd1 hd2
                  go_wp2_with fail
                  refine (Subsumes_val wr _ m tc L (IH.out wr hB.out).is x k hx hlt true C1.out).mono ?_
                  rintro e vw0 ⟨rfl, hbvw0⟩
                  have vB0 := Lib.hid (hB.out.trans (hbvw0.mono hB.out.size))
                  clear hbvw0
                  go_wp2_with fail
                  refine (Subsumes_val vw0 _ m tc L (IH.out vw0 vB0.out).is y k hy hlt false C2.out).mono ?_
                  rintro e vw1 ⟨rfl, hbvw1⟩
                  have vB1 := Lib.hid (vB0.out.trans (hbvw1.mono vB0.out.size))
                  clear hbvw1 vB0
                  go_wp2_with fail
                  refine (Subsumes_val vw1 _ m tc L (IH.out vw1 vB1.out).is k x hlt hx true D1.out).mono ?_
                  rintro e vw2 ⟨rfl, hbvw2⟩
                  have vB2 := Lib.hid (vB1.out.trans (hbvw2.mono vB1.out.size))
                  clear hbvw2 vB1
                  go_wp2_with fail
                  refine (Subsumes_val vw2 _ m tc L (IH.out vw2 vB2.out).is k y hlt hy true D2.out).mono ?_
                  rintro e vw3 ⟨rfl, hbvw3⟩
                  have vB3 := Lib.hid (vB2.out.trans (hbvw3.mono vB2.out.size))
                  clear hbvw3 vB2
                  go_wp2_with fail
                  refine (Subsumes_val vw3 _ m tc L (IH.out vw3 vB3.out).is k n hlt hn true DN.out).mono ?_
                  rintro e vw4 ⟨rfl, hbvw4⟩
                  have vB4 := Lib.hid (vB3.out.trans (hbvw4.mono vB3.out.size))
                  clear hbvw4 vB3
                  go_wp2_with fail
                  go_roundw
                  case rel => exact ⟨k + 1, by omega, by go_num, vB4.out⟩
                  case measure => simp [intOf]; omega
            · exact absurd hc2 (HK.out k hlt hc1)
        · obtain rfl : m = k := by omega
          have BE := Lib.hid (B2.out.trans (hB.out.mono B2.out.size))
          go_wp2_with (go_at_call 13; refine (ex4_holds _ (HT.out.below BE.out)).mono ?_; rintro e we ⟨rfl, hbe⟩)
          go_ret
          exact ⟨rfl, BE.out.trans (hbe.mono BE.out.size)⟩
end Go.Proofs.YtdeamdpoegdmdaaGreatDoor
