/- The walk of the law PosetTurns. Written by wip/gen/turns.py. -/
import Derived.Test.YtmhbblehgckelaaQo
import Derived.Test.YtmhbblehgckelaaQu
import Derived.Test.YtmhbblehgckelaaQi
namespace Go.Proofs.Ytmhbblehgckelaa
open Go.RowKit Go.Maps

set_option maxRecDepth 100000 in
set_option maxHeartbeats 6400000 in
theorem PosetTurns_mk (w : World) (a : Option Addr) (n cap : Nat) (D : List Dec) (h : IsDecs w a n cap D) (j : Nat) (hj : j < 256) :
    Calls Try.prog 4 #[.slice a n cap, .int .u8 j] w fun e w' => e = .returned (.bool true) ∧ Below w.heap.size w w' := by
  have HD := Lib.hid h
  have VA := Lib.hid (valid_any w a n cap D h)
  clear h
  go_enter Try.func4, Try.ntmps4
  go_wp2_with fail
  refine VA.out.mono ?_
  rintro e w1 ⟨b, rfl, hv, hb1⟩
  have B1 := Lib.hid hb1
  have HD := Lib.hid (HD.out.below hb1)
  clear hb1 VA
  cases b
  · clear hv
    go_wp2_with (go_at_call 7; refine (ex_holds _).mono ?_; rintro e w2 ⟨rfl, hb2⟩)
    go_ret
    exact ⟨rfl, B1.out.trans (hb2.mono B1.out.size)⟩
  · have hc : chkN D = 0 := (hv.1 rfl).2
    have HC := Lib.hid hc
    have hg := goodN hc
    have OK := Lib.hid hg.ok
    have hn0 : 0 < n := by
      have ht := hg.top
      unfold tops at ht
      have := List.length_filter_le (fun d : Dec => d.sup.isEmpty) D
      rw [ht, HD.out.len] at this
      omega
    have hn : n ≤ 256 := (good_up HD.out hc).2.2.2.2.1
    have hcx := HD.out.capLe
    have hmx := HD.out.maxLe
    unfold maxLen at hmx
    clear hv hc hg
    go_wp2
    have e : ((j : Int) % (n : Int)) = ((j % n : Nat) : Int) := (Int.natCast_emod j n).symm
    rw [e]
    clear e
    have hqn := Nat.mod_lt j hn0
    obtain ⟨q, hq⟩ : ∃ q, j % n = q := ⟨_, rfl⟩
    rw [hq] at hqn ⊢
    clear hq
    obtain ⟨b, off, rfl, hbl, hx1⟩ := HD.out.at_ hn0
    obtain ⟨vs, hdv, hcs⟩ := HD.out.vals hn0
    have HX1 := Lib.hid hx1
    have HN0 := Lib.hid hcs
    have HLD := Lib.hid HD.out.len
    have HQ1 : Hid (q ≤ D.length) := by show q ≤ D.length; rw [HLD.out]; omega
    have BA : Below w1.heap.size w1 (w1.drew.alloc (.cells #[] 35)) := (Below.refl _ w1).drew.alloc (by simp) _
    have OW : (w1.drew.alloc (.cells #[] 35)).ownsRow w1.heap.size 35 3 (.slice (some ⟨w1.heap.size, 0, none⟩) 0 0) 0 [] := by
      have := World.ownsRow_made (base := w1.heap.size) (e := 35) (size := 3) w1.drew #[] 0 (by simp) (Nat.zero_le _) rfl
      simpa using this
    have hvl := hdv.1
    have HDV := Lib.hid hdv
    have HL1 : Hid ((vs.drop (q * 3)).length = (n - q) * 3) := by show _ = _; rw [List.length_drop, hvl, HLD.out]; omega
    have HL2 : Hid ((vs.take (q * 3)).length = q * 3) := by show _ = _; rw [List.length_take, hvl, HLD.out]; omega
    have HN1 : Hid (∀ (j : Nat) (u : Value), (vs.drop (q * 3))[j]? = some u → (w1.drew.alloc (.cells #[] 35)).cell? ⟨b, off + q * 3 + j, none⟩ = some u) := fun j u hu => by
      rw [List.getElem?_drop] at hu
      rw [Nat.add_assoc]
      exact (BA.cell (p := ⟨b, off + (q * 3 + j), none⟩) hbl).trans (hcs _ u hu)
    have HO1 : Hid (∀ u ∈ vs.drop (q * 3), u.oneCell' = true) := fun u hu => hdv.one u (List.mem_of_mem_drop hu)
    have HO2 : Hid (∀ u ∈ vs.take (q * 3), u.oneCell' = true) := fun u hu => hdv.one u (List.mem_of_mem_take hu)
    have HLE : Hid ((D.drop q ++ D.take q).length = n) := by show _ = _; rw [List.length_append, List.length_drop, List.length_take, HLD.out]; omega
    have hqc : ¬ cap = q := by omega
    have hi0 : (0 : Int) ≤ (q : Int) := by omega
    have hi1 : (q : Int) ≤ (n : Int) := by omega
    have hi2 : (n : Int) ≤ (cap : Int) := by omega
    have hi3 : (q : Int) ≤ (cap : Int) := by omega
    clear hcs hx1 hdv hvl
    refine wp_region_held_drew (S := fun _ => True) (by kernel_rfl) ?_ (fun hHeld => ?_)
    · trivial
    refine wpAnyH_take (i := 1) (oi := ⟨some 22, _, _, _, _, _⟩) (v := ?_) rfl (by kernel_rfl) (by kernel_rfl) (by kernel_rfl) (fun _ _ _ h => h) (Or.inl ⟨by kernel_rfl, ?_⟩) (by assumption) ?_; rotate_left
    · intro w hSw; (try dsimp only at hSw); go_simp; (try with_reducible rfl)
    simp only [Act.put, List.setIfInBounds_toArray, List.set_cons_zero, List.set_cons_succ]
    refine wpAnyH_take (i := 2) (oi := ⟨some 23, _, _, _, _, _⟩) (v := ?_) rfl (by kernel_rfl) (by kernel_rfl) (by kernel_rfl) (fun _ _ _ h => h) (Or.inl ⟨by kernel_rfl, ?_⟩) (by assumption) ?_; rotate_left
    · intro w hSw; (try dsimp only at hSw); go_simp; (try with_reducible rfl)
    simp only [Act.put, List.setIfInBounds_toArray, List.set_cons_zero, List.set_cons_succ]
    refine wpAnyH_take (i := 3) (oi := ⟨some 24, _, _, _, _, _⟩) (v := ?_) rfl (by kernel_rfl) (by kernel_rfl) (by kernel_rfl) (fun _ _ _ h => h) (Or.inl ⟨by kernel_rfl, ?_⟩) (by assumption) ?_; rotate_left
    · intro w hSw; (try dsimp only at hSw); go_simp; (try with_reducible rfl)
    simp only [Act.put, List.setIfInBounds_toArray, List.set_cons_zero, List.set_cons_succ]
    refine wpAnyH_take (i := 5) (oi := ⟨some 26, _, _, _, _, _⟩) (v := ?_) rfl (by kernel_rfl) (by kernel_rfl) (by kernel_rfl) (fun _ _ _ h => h) (Or.inl ⟨by kernel_rfl, ?_⟩) (by assumption) ?_; rotate_left
    · intro w hSw; (try dsimp only at hSw); go_simp; (try with_reducible rfl)
    simp only [Act.put, List.setIfInBounds_toArray, List.set_cons_zero, List.set_cons_succ]
    refine wpAnyH_take (i := 6) (oi := ⟨some 27, _, _, _, _, _⟩) (v := ?_) rfl (by kernel_rfl) (by kernel_rfl) (by kernel_rfl) (fun _ _ _ h => h) (Or.inl ⟨by kernel_rfl, ?_⟩) (by assumption) ?_; rotate_left
    · intro w hSw; (try dsimp only at hSw); go_simp; (try with_reducible rfl)
    simp only [Act.put, List.setIfInBounds_toArray, List.set_cons_zero, List.set_cons_succ]
    refine wpAnyH_take (i := 7) (oi := ⟨some 28, _, _, _, _, _⟩) (v := ?_) rfl (by kernel_rfl) (by kernel_rfl) (by kernel_rfl) (fun _ _ _ h => h) (Or.inl ⟨by kernel_rfl, ?_⟩) (by assumption) ?_; rotate_left
    · intro w hSw; (try dsimp only at hSw); go_simp; (try with_reducible rfl)
    simp only [Act.put, List.setIfInBounds_toArray, List.set_cons_zero, List.set_cons_succ]
    refine wpAnyH_ready (rs := [0]) (by kernel_rfl) (by simp) ?_
    refine AllReadyH.cons (o := ⟨some 21, _, _, _, _, _⟩) rfl (fun K hK => ?_) AllReadyH.nil
    go_simp
    refine hK.out _ _ ?_ (fun hHeld => ?_)
    · trivial
    clear hK K
    (try simp only [Act.put, List.setIfInBounds_toArray, List.set_cons_zero, List.set_cons_succ])
    refine wpAnyH_ready (rs := [4]) (by kernel_rfl) (by simp) ?_
    refine AllReadyH.cons (o := ⟨some 25, _, _, _, _, _⟩) rfl (fun K hK => ?_) AllReadyH.nil
    refine step_append_decs rfl _ _ (by rfl) w1.heap.size (.slice (some ⟨w1.heap.size, 0, none⟩) 0 0) 0 [] (by rfl) OW b (off + q * 3) (n - q) (cap - q) (vs.drop (q * 3)) (by rfl) HL1.out HN1.out HO1.out (by omega) (by simp) ?_; intro v5 w5 hown5 hgrow5 _; have B5 := grown_below BA (by simp) OW hgrow5; obtain ⟨g5, c5, rfl, -, -⟩ := hown5.form (by omega)
    refine hK.out _ _ ?_ (fun hHeld => ?_)
    · trivial
    clear hK K
    (try simp only [Act.put, List.setIfInBounds_toArray, List.set_cons_zero, List.set_cons_succ])
    refine wpAnyH_ready (rs := [8]) (by kernel_rfl) (by simp) ?_
    refine AllReadyH.cons (o := ⟨some 29, _, _, _, _, _⟩) rfl (fun K hK => ?_) AllReadyH.nil
    refine step_append_decs rfl _ _ (by rfl) w1.heap.size (.slice (some ⟨g5, 0, none⟩) (0 + (n - q)) c5) (0 + (n - q)) _ (by rfl) hown5 b off q cap (vs.take (q * 3)) (by rfl) HL2.out (fun j u hu => (B5.cell (p := ⟨b, off + j, none⟩) hbl).trans (HN0.out j u (by rw [← hu, List.getElem?_take_of_lt (by have := (List.getElem?_eq_some_iff.1 hu).1; rw [List.length_take] at this; omega)]))) HO2.out (by omega) B5.size ?_; intro v8 w8 hown8 hgrow8 _; have B8 := grown_below B5 B5.size hown5 hgrow8; rw [show 0 + (n - q) + q = n by omega] at hown8; obtain ⟨a8, c8, rfl, h8⟩ := IsDecs.of_owns hown8 ((HDV.out.drop HQ1.out).app (HDV.out.take HQ1.out) |>.below B8) HLE.out
    refine hK.out _ _ ?_ (fun hHeld => ?_)
    · trivial
    clear hK K
    (try simp only [Act.put, List.setIfInBounds_toArray, List.set_cons_zero, List.set_cons_succ])
    refine wpAnyH_take (i := 9) (oi := ⟨some 6, _, _, _, _, _⟩) (v := ?_) rfl (by kernel_rfl) (by kernel_rfl) (by kernel_rfl) (fun _ _ _ h => h) (Or.inl ⟨by kernel_rfl, ?_⟩) (by assumption) ?_; rotate_left
    · intro w hSw; (try dsimp only at hSw); go_simp; (try with_reducible rfl)
    simp only [Act.put, List.setIfInBounds_toArray, List.set_cons_zero, List.set_cons_succ]
    refine wpAnyH_done (by kernel_rfl) ?_ _
    have HD8 := Lib.hid (HD.out.below B8)
    have B8' := Lib.hid (B1.out.trans (B8.mono B1.out.size))
    have HP := Lib.hid (rot_perm D q)
    have HCE : Hid (chkN (D.drop q ++ D.take q) = 0) := chk_perm HC.out HP.out.symm
    have H8 := Lib.hid h8
    clear HN0 HN1 HL1 HL2 HO1 HO2 HDV OW BA hown5 hgrow5 hown8 hgrow8 B5 B8 h8 HLE HQ1 HLD hHeld
    obtain ⟨E, hE⟩ : ∃ E, D.drop q ++ D.take q = E := ⟨_, rfl⟩
    rw [hE] at HP HCE H8
    clear hE
    have hor : ordN D = plc D := by unfold ordN; rw [if_pos HC.out]
    have hoe : ordN E = plc D := by unfold ordN; rw [if_pos HCE.out]; exact (plc_perm OK.out.nodup HP.out.symm).symm
    have OR : Hid (∀ W, IsDecs W (some ⟨b, off, none⟩) n cap D → Calls Try.prog 8 #[.slice (some ⟨b, off, none⟩) n cap] W (RetLE (plc D) 0 W)) := fun W hW => by
      have := Order_any W _ n cap D hW
      rwa [hor, HC.out] at this
    have OE : Hid (∀ W, IsDecs W a8 n c8 E → Calls Try.prog 8 #[.slice a8 n c8] W (RetLE (plc D) 0 W)) := fun W hW => by
      have := Order_any W _ n c8 E hW
      rwa [hoe, HCE.out] at this
    have SS : Hid (∀ L : List Str, sameS L L = true) := fun L => by unfold sameS; simp
    clear hor hoe
    go_wp2_with (go_at_call 12; (with_reducible refine (Check_val 0 w8 a8 n c8 E H8.out HCE.out).mono ?_); rintro e w9 ⟨rfl, hb9⟩; have B9 := Lib.hid hb9; clear hb9; go_wp2_with fail)
    refine (OR.out w9 (HD8.out.below B9.out)).mono ?_
    intro e w10 hy
    obtain ⟨a10, c10, rfl, h10, hb10⟩ := hy.eq _ rfl
    have k10 := B9.out.trans (hb10.mono B9.out.size)
    have H10 := Lib.hid h10
    clear hy h10 hb10
    go_wp2_with fail
    refine (OE.out w10 (H8.out.below k10)).mono ?_
    intro e w11 hy
    obtain ⟨a11, c11, rfl, h11, hb11⟩ := hy.eq _ rfl
    have k11 := k10.trans (hb11.mono k10.size)
    have H11 := Lib.hid h11
    have H10 := Lib.hid (H10.out.below hb11)
    clear hy h11 hb11 k10
    go_wp2_with (go_at_call 13; (with_reducible refine (SameStrings_val true w11 _ _ _ _ _ _ _ _ H10.out H11.out (SS.out _)).mono ?_); rintro e w12 ⟨rfl, hb12⟩; have K12 := Lib.hid (k11.trans (hb12.mono k11.size)); clear hb12)
    clear k11 H10 H11 OR OE B9
    go_loopw [49] (fun v wr => ∃ i : Nat, i ≤ n ∧ v = .int .i64 i ∧ Below w8.heap.size w8 wr) (fun v _ => n - (intOf v).toNat)
    case atStart => exact ⟨0, Nat.zero_le _, rfl, K12.out⟩
    case round =>
      obtain ⟨i, hi, rfl, hb⟩ := hrel
      obtain ⟨wo, hwo⟩ : ∃ wo : World, wo = wr := ⟨_, rfl⟩
      subst hwo
      by_cases hlt : i < n
      · have hbd := hb.drew
        obtain ⟨x, hx⟩ : ∃ x, (dc D i).name = x := ⟨_, rfl⟩
        have HXL : Hid (x.length ≤ maxLen) := hx ▸ HD8.out.nl _ (dc_mem (by rw [HD8.out.len]; exact hlt))
        obtain ⟨b', off', e', hbl8, hx8⟩ := HD8.out.at_ hn0
        cases e'
        obtain ⟨sa, sc, fa, fc, hdx⟩ := hx8 i hlt
        have d0 := hdx.c0
        rw [hx] at d0
        have d1 := (hb.cell (p := ⟨b, off + i * 3, none⟩) hbl8).trans d0
        have D0 := Lib.hid d0
        have EA := Lib.hid (ab_perm OK.out HP.out.symm x)
        have EB := Lib.hid (bl_perm HP.out.symm x)
        clear hx hdx d0 hx8
        go_wp2
        go_region_held3 (fun w' => w'.cell? ⟨b, off + i * 3, none⟩ = some (.string (mk x))) (first | go_keep) ((first
          | (go_at_call 10; (with_reducible refine (Above_any wo.drew _ n cap D (HD8.out.below hbd) HC.out x HXL.out).mono ?_); intro e y1 hy; obtain ⟨ua, uc, rfl, hu, hb1⟩ := hy.eq _ rfl; have HU1 := Lib.hid hu; have k1 := hbd.trans (hb1.mono hbd.size); have f1 := (k1.cell (p := ⟨b, off + i * 3, none⟩) hbl8).trans D0.out; clear hy hu hb1)
          | (go_at_call 10; (with_reducible refine (Above_any y1 a8 n c8 E (H8.out.below k1) HCE.out x HXL.out).mono ?_); intro e y2 hy; obtain ⟨va, vc, rfl, hu, hb2⟩ := hy.eq _ EA.out.symm; have HU2 := Lib.hid (HU1.out.below hb2); have HV2 := Lib.hid hu; have k2 := k1.trans (hb2.mono k1.size); have f2 := (k2.cell (p := ⟨b, off + i * 3, none⟩) hbl8).trans D0.out; clear hy hu hb2)
          | (go_at_call 13; (with_reducible refine (SameStrings_val true y2 _ _ _ _ _ _ _ _ HU2.out HV2.out (SS.out _)).mono ?_); rintro e y3 ⟨rfl, hb3⟩; have k3 := k2.trans (hb3.mono k2.size); have f3 := (k3.cell (p := ⟨b, off + i * 3, none⟩) hbl8).trans D0.out; clear hb3)
          | (go_at_call 9; (with_reducible refine (Below_any y3 _ n cap D (HD8.out.below k3) HC.out x HXL.out).mono ?_); intro e y4 hy; obtain ⟨sa, sc, rfl, hu, hb4⟩ := hy.eq _ rfl; have HU4 := Lib.hid hu; have k4 := k3.trans (hb4.mono k3.size); have f4 := (k4.cell (p := ⟨b, off + i * 3, none⟩) hbl8).trans D0.out; clear hy hu hb4)
          | (go_at_call 9; (with_reducible refine (Below_any y4 a8 n c8 E (H8.out.below k4) HCE.out x HXL.out).mono ?_); intro e y5 hy; obtain ⟨ta, tc, rfl, hu, hb5⟩ := hy.eq _ EB.out.symm; have HU5 := Lib.hid (HU4.out.below hb5); have HV5 := Lib.hid hu; have k5 := k4.trans (hb5.mono k4.size); have f5 := (k5.cell (p := ⟨b, off + i * 3, none⟩) hbl8).trans D0.out; clear hy hu hb5)
          | (go_at_call 13; (with_reducible refine (SameStrings_val true y5 _ _ _ _ _ _ _ _ HU5.out HV5.out (SS.out _)).mono ?_); rintro e y6 ⟨rfl, hb6⟩; have k6 := k5.trans (hb6.mono k5.size); have f6 := (k6.cell (p := ⟨b, off + i * 3, none⟩) hbl8).trans D0.out; clear hb6)))
        go_wp2
        go_roundw
        case rel => exact ⟨i + 1, by omega, by go_num, k6⟩
        case measure => simp [intOf]; omega
      · obtain rfl : n = i := by omega
        clear hlt hi
        go_wp2_with (go_at_call 7; refine (ex_holds _).mono ?_; rintro e w13 ⟨rfl, hb13⟩)
        go_ret
        have z2 := B8'.out.trans (hb.mono B8'.out.size)
        exact ⟨rfl, z2.trans (hb13.mono z2.size)⟩

theorem PosetTurns_law (w : World) (a : Option Addr) (n cap : Nat) (D : List Dec) (h : IsDecs w a n cap D) (x : Int) (h0 : 0 ≤ x) (h1 : x < 256) :
    Calls Try.prog 4 #[.slice a n cap, .int .u8 x] w fun e w' => e = .returned (.bool true) ∧ Below w.heap.size w w' := by
  obtain ⟨j, rfl⟩ : ∃ j : Nat, x = (j : Int) := ⟨x.toNat, by omega⟩
  exact PosetTurns_mk w a n cap D h j (by omega)
end Go.Proofs.Ytmhbblehgckelaa
