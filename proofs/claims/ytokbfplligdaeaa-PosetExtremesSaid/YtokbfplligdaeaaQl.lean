/- Walks of the reference of poset: Minimal. -/
import Derived.Test.YtokbfplligdaeaaQk
import Derived.Deep.QuietTactic
import Derived.Deep.RegionHeld3
namespace Go.Proofs.Ytokbfplligdaeaa
open Go.RowKit Go.Maps

set_option maxRecDepth 100000 in
set_option maxHeartbeats 1600000 in
theorem rMinimal_any (w : World) (a : Option Addr) (n cap : Nat) (D : List Dec) (h : IsDecs w a n cap D) (hc : chkN D = 0) (la : Option Addr) (m lc : Nat) (s : List Str) (hs : IsStrs w la m lc s) (hm : m ≤ 1000) :
    Calls Try.prog 27 #[.slice a n cap, .slice la m lc] w (RetL (mn D s) w) := by
  obtain ⟨-, -, -, -, hn, hok⟩ := good_up h hc
  have H := Lib.hid h
  have OK := Lib.hid hok
  have DL := Lib.hid (declared_any w a n cap D h la m lc s hs hm)
  have hTl : (dcl D s).length ≤ m := by have := dcl_len D s; rw [hs.len] at this; exact this
  have HTA := Lib.hid (show (dcl D s).Nodup from (srt_asc _).nodup)
  have HMX := Lib.hid (mn_g D s)
  obtain ⟨T, hT⟩ : ∃ T, dcl D s = T := ⟨_, rfl⟩
  rw [hT] at DL hTl HTA HMX
  clear h hok hs hc
  go_enter Try.func27, Try.ntmps27
  go_wp2_with (go_at_call 47; refine DL.out.mono ?_; intro e w2 hx; obtain ⟨at_, ct, rfl, ht, hb2⟩ := hx.eq _ rfl; have HT := Lib.hid ht; have B2 := Lib.hid hb2; have HD := Lib.hid (H.out.below hb2); clear hx ht hb2)
  clear DL H hT
  have HTS := Lib.hid HT.out.small
  obtain ⟨tn, htn⟩ : ∃ z, T.length = z := ⟨_, rfl⟩
  rw [htn] at HT hTl ⊢
  have HTL := Lib.hid htn
  have hcx := HT.out.capLe
  have hmx := HT.out.maxLe
  unfold maxLen at hmx
  clear htn
  go_loopw [5, 7] (fun o v wr => ∃ (i rn : Nat) (R : List Str), i ≤ tn ∧ v = .int .i64 i ∧ rn ≤ i ∧ Hid (R.length = rn) ∧ Hid (R = (T.take i).filter fun x => T.all (gmn D x)) ∧ Hid (wr.ownsRow w2.heap.size 9 1 o rn (svals R)) ∧ Below w2.heap.size w2 wr) (fun _ v _ => tn - (intOf v).toNat)
  case atStart => exact ⟨0, 0, [], Nat.zero_le _, rfl, Nat.zero_le _, rfl, by show _ = _; rw [List.take_zero]; rfl, World.ownsRow_nil _ _ _ _, Below.refl _ _⟩
  case round =>
    obtain ⟨i, rn, R, hi, rfl, hrn, HRL, HR, HO, hb⟩ := hrel
    obtain ⟨wo, hwo⟩ : ∃ wo : World, wo = wr := ⟨_, rfl⟩
    subst hwo
    by_cases hlt : i < tn
    · obtain ⟨b1, off1, rfl, hbl1, hx1⟩ := HT.out.at_ (by omega)
      have d1 := (hb.cell (p := ⟨b1, off1 + i, none⟩) hbl1).trans (hx1 i hlt)
      have hil : i < T.length := by rw [HTL.out]; exact hlt
      have HXL := Lib.hid (HTS.out _ (st_mem hil))
      have FS := Lib.hid (filt_succ hil (fun x => T.all (gmn D x)))
      have EQ := Lib.hid (fun j (hj : j < T.length) => st_eq HTA.out hil hj)
      obtain ⟨x, hx⟩ : ∃ x, st T i = x := ⟨_, rfl⟩
      rw [hx] at d1 HXL FS EQ
      have HX0 := Lib.hid hx
      rw [← HR.out] at FS
      clear hx hil HR
      obtain ⟨ro, hro⟩ : ∃ z, u5 = z := ⟨_, rfl⟩
      rw [hro] at HO ⊢
      clear hro
      go_wp2
      go_loopw [8, 9] (fun u v wi => ∃ j : Nat, j ≤ tn ∧ u = .bool (okB (gmn D x) T j) ∧ v = .int .i64 j ∧ Hid (wi.ownsRow w2.heap.size 9 1 ro rn (svals R)) ∧ Below w2.heap.size w2 wi) (fun _ v _ => tn - (intOf v).toNat)
      case atStart => exact ⟨0, Nat.zero_le _, by rw [okB_zero], rfl, HO, hb⟩
      case round =>
        clear HO hb
        obtain ⟨j, hj, rfl, rfl, HO3, hb4⟩ := hrel
        obtain ⟨wi, hwi⟩ : ∃ wi : World, wi = wr := ⟨_, rfl⟩
        subst hwi
        by_cases hltj : j < tn
        · have hjl : j < T.length := by rw [HTL.out]; exact hltj
          have d2 := (hb4.cell (p := ⟨b1, off1 + j, none⟩) hbl1).trans (hx1 j hltj)
          have HYL := Lib.hid (HTS.out _ (st_mem hjl))
          have HCS := Lib.hid (okB_succ (g := gmn D x) hjl)
          have hgv : gmn D x (st T j) = (decide (j = i) || !inS (ab D (st T j)) x) := by unfold gmn inS; rw [EQ.out j hjl]
          rw [hgv] at HCS
          obtain ⟨y, hy⟩ : ∃ y, st T j = y := ⟨_, rfl⟩
          rw [hy] at d2 HCS HYL
          have HY0 := Lib.hid hy
          obtain ⟨p, hp⟩ : ∃ p, okB (gmn D x) T j = p := ⟨_, rfl⟩
          rw [hp] at HCS ⊢
          clear hy hjl hp hgv
          cases p
          · go_wp2
            go_quiet (fail)
            go_wp2
            go_roundw
            case rel => exact ⟨j + 1, by omega, by rw [HCS.out]; rfl, by go_num, owns_below HO3.out (below_drewN2 (Below.refl _ _) _), below_drewN2 hb4 _⟩
            case measure => simp [intOf]; omega
          · by_cases hji : j = i
            · subst hji
              go_wp2
              go_quiet (fail)
              go_wp2
              go_roundw
              case rel => exact ⟨j + 1, by omega, by rw [HCS.out]; simp, by go_num, owns_below HO3.out (below_drewN2 (Below.refl _ _) _), below_drewN2 hb4 _⟩
              case measure => simp [intOf]; omega
            · have hne1 : (((j : Nat) : Int) == ((i : Nat) : Int)) = false := by simp; omega
              have HDE : Hid (decide (j = i) = false) := by show _ = _; simpa using hji
              have d3 := (hb4.cell (p := ⟨b1, off1 + i, none⟩) hbl1).trans (hx1 i hlt)
              rw [HX0.out] at d3
              go_wp2
              have hb4d := hb4.drew
              have e2 := hb4d.size
              have hji2 : decide (((j : Nat) : Int) = ((i : Nat) : Int)) = false := by simp; omega
              go_region_held3 (fun w' => w'.cell? ⟨b1, off1 + j, none⟩ = some (.string (mk y)) ∧ w'.cell? ⟨b1, off1 + i, none⟩ = some (.string (mk x))) (first | go_keep) ((first | (go_at_call 21; (with_reducible refine (rAbove_any wi.drew a n cap D (HD.out.below hb4d) OK.out hn y HYL.out).mono ?_); intro e w3 hx; obtain ⟨ua, uc, rfl, hu, hb3⟩ := hx.eq _ rfl; have HU := Lib.hid hu; have hb5 := hb4d.trans (hb3.mono hb4d.size); have f1 := (hb5.cell (p := ⟨b1, off1 + j, none⟩) hbl1).trans (hx1 j hltj); have f2 := (hb5.cell (p := ⟨b1, off1 + i, none⟩) hbl1).trans (hx1 i hlt); rw [HY0.out] at f1; rw [HX0.out] at f2; clear hx hu) | (go_at_call 28; (with_reducible refine (Among_any w3 ua _ uc (ab D y) x HU.out).mono ?_); rintro e w6 ⟨rfl, rfl⟩)))
              go_wp2
              go_roundw
              case rel => exact ⟨j + 1, by omega, by rw [HCS.out, HDE.out]; rfl, by go_num, owns_below HO3.out ((Below.refl wi.heap.size wi).drew.trans (hb3.mono (Nat.le_refl wi.heap.size))), hb5⟩
              case measure => simp [intOf]; omega
        · obtain rfl : tn = j := by omega
          have HOA : Hid (okB (gmn D x) T tn = T.all (gmn D x)) := by have := okB_all (gmn D x) T; rwa [HTL.out] at this
          obtain ⟨p, hp⟩ : ∃ p, T.all (gmn D x) = p := ⟨_, rfl⟩
          rw [hp] at HOA FS
          have hoa := HOA.out
          rw [hoa]
          clear hoa hltj hj hp
          cases p
          · go_wp2
            go_roundw
            case rel => exact ⟨i + 1, rn, R, by omega, by go_num, by omega, HRL, by show _ = _; rw [FS.out]; simp, HO3.out, hb4⟩
            case measure => simp [intOf]; omega
          · have hz2 := hb4.size
            have d3 := (hb4.cell (p := ⟨b1, off1 + i, none⟩) hbl1).trans (hx1 i hlt)
            rw [HX0.out] at d3
            go_wp2_with (at_builtin; go_loud (refine wpList_append_at rfl _ _ rfl w2.heap.size _ _ _ rfl (HO3.out.alloc _) ⟨wi.heap.size, 0, none⟩ x rfl (cell_of_one (heap_alloc_new wi _)) (by omega) (by simp; omega) ?_); intro v6 w6 hown6 hgrow6 hloc6; have O6 := Lib.hid hown6; have hz6 := hgrow6.size; have B6 := Lib.hid (grown_below (hb4.alloc hb4.size _) (by have := hb4.size; simp; omega) (owns_base (HO3.out.alloc _) (by omega)) hgrow6); clear hown6 hgrow6 hloc6)
            go_roundw
            case rel => exact ⟨i + 1, rn + 1, R ++ [x], by omega, by go_num, by omega, by show _ = _; rw [List.length_append, HRL.out]; rfl, by show _ = _; rw [FS.out]; simp, O6.out, B6.out⟩
            case measure => simp [intOf]; omega
    · obtain rfl : tn = i := by omega
      have hRT : R = mn D s := by
        rw [HMX.out, HR.out]
        have := List.take_length (l := T)
        rw [HTL.out] at this
        rw [this]
      subst hRT
      obtain ⟨ra, rc, rfl, hri⟩ := IsStrs.of_owns HO.out (fun z hz => HTS.out z (by rw [HMX.out] at hz; exact (List.mem_filter.1 hz).1))
      clear hlt hi HR
      go_wp2
      go_ret
      have hz := B2.out.size
      have HO2 := HO.out
      rw [← HRL.out] at HO2 ⊢
      exact ⟨_, rfl, owns_base HO2 (by omega), (fun z hz => HTS.out z (by rw [HMX.out] at hz; exact (List.mem_filter.1 hz).1)), B2.out.trans (hb.mono hz)⟩
end Go.Proofs.Ytokbfplligdaeaa
