/- Texts joined by wip/gen/merge.py: Dm. -/
import Derived.Test.YtdeamdpoegdmdaaGreatDoorMaj
set_option linter.unusedVariables false
set_option linter.unusedSimpArgs false
/- closure: number; walk of ClosureDeclared. Written by wip/gen/cdeclared.py. -/
namespace Go.Proofs.YtdeamdpoegdmdaaGreatDoor
open Go.RowKit Go.Maps Go.Shelf
open S (wd Is64 Fresh bit SAnd SOr IsInt wi ints)

set_option maxRecDepth 100000 in
theorem number_any (w : World) (a : Option Addr) (m c : Nat) (L : List Ty) (h : InHand w a m c L) (x : Str) (j : Nat) (hj : j < m) (hx : (ty L j).1 = x) :
    Calls Tryz.prog 34 #[.slice a m c, .string (mk x)] w fun e w' => e = .returned (.int .i64 (j : Int)) ∧ w = w' := by
  have H := Lib.hid h
  have hle := h.le
  have hcap := h.is.capLe
  have hmx := h.is.maxLe
  have hlen := h.len
  unfold maxLen at hmx
  have ONE : Hid (∀ k, k < m → k ≠ j → (ty L k).1 ≠ x) := fun k hk hn e => hn (h.ok.name_inj (by omega) (by omega) (e.trans hx.symm))
  obtain ⟨bl, off, rfl, hbl, hcells⟩ := h.is.at_ h.pos
  have HCE := Lib.hid hcells
  have HX := Lib.hid hx
  clear h hcells hx
  go_enter Tryz.func34, Tryz.ntmps34
  go_wp2
  go_loop [8] (fun v => ∃ k : Nat, k ≤ j ∧ v = .int .i64 k) (fun v => j - (intOf v).toNat)
  case atStart => exact ⟨0, Nat.zero_le _, rfl⟩
  case round =>
    obtain ⟨k, hk, rfl⟩ := hrel
    obtain ⟨xa, xc, hkt⟩ := HCE.out k (by omega)
    have c0 := hkt.c0
    have hk0 : (0 : Int) ≤ (k : Int) := by omega
    have hk1 : (k : Int) < (m : Int) := by omega
    clear hkt
    by_cases hkj : k = j
    · have e : ((mk (ty L k).1).toList == (mk x).toList) = true := by rw [hkj, HX.out]; simp
      have hkj2 := Lib.hid hkj
      clear hkj
      go_wp2
      go_ret
      exact ⟨by rw [hkj2.out]; rfl, rfl⟩
    · have hn := ONE.out k (by omega) hkj
      have e : ((mk (ty L k).1).toList == (mk x).toList) = false := by rw [mk_eq]; simp [hn]
      have hlt : k < j := by omega
      clear hn hkj
      go_wp2
      go_round
      case rel => exact ⟨k + 1, by omega, by go_num⟩
      case measure => simp [intOf]; omega

theorem cod_sub {D : List Dec} (h : Acc D) {x y : Str} (hx : x ∈ nms D) (hy : y ∈ nms D) : Sub (cod D x) (cod D y) ↔ y ∈ ab D x := by
  rw [ab_bl h.ok hx hy]
  constructor
  · intro hs
    obtain ⟨i, hi⟩ := al_at hx
    have h1 := (bit_cod h x i).2 ⟨x, hi, bl_self h hx⟩
    obtain ⟨z, hz, hzb⟩ := (bit_cod h y i).1 (hs i h1)
    rw [hi] at hz
    cases hz
    exact hzb
  · intro hb i hi
    obtain ⟨z, hz, hzb⟩ := (bit_cod h x i).1 hi
    exact (bit_cod h y i).2 ⟨z, hz, bl_trans h hb hzb⟩
theorem tys_has {D : List Dec} (h : Acc D) {x : Str} (hx : x ∈ nms D) : ∃ k, k < (tys D).length ∧ ty (tys D) k = (x, cod D x) := by
  have hin : cod D x ∈ fam D := (mem_fam h).2 (.base (List.mem_map_of_mem (mem_al.2 hx)))
  have hm : (x, cod D x) ∈ tys D := ((tys_spec h).2 _).2 ⟨_, hin, by rw [nam_cod h hx]⟩
  obtain ⟨k, hk, e⟩ := List.getElem_of_mem hm
  exact ⟨k, hk, by rw [← e, ty_elem hk]⟩
theorem dc_memN {D : List Dec} {i : Nat} (hi : i < D.length) : (dc D i).name ∈ nms D := by
  unfold dc nms
  rw [List.getD_eq_getElem?_getD, List.getElem?_eq_getElem hi]
  exact List.mem_map_of_mem (List.getElem_mem hi)

set_option maxRecDepth 100000 in
set_option maxHeartbeats 12800000 in
theorem ClosureDeclared_law (w : World) (a : Option Addr) (n0 cap : Nat) (D : List Dec) (h : IsDecs w a n0 cap D) (hT : S.TabOk w) :
    Calls Tryz.prog 8 #[.slice a n0 cap] w fun e w' => e = .returned (.bool true) ∧ Below w.heap.size w w' := by
  have HD := Lib.hid h
  have HT := Lib.hid hT
  cases hb : lt12 D
  · have LT := Lib.hid (light4_val false w a n0 cap D h hb)
    have BE := Lib.hid (Below.refl w.heap.size w)
    clear h hb hT
    go_enter Tryz.func8, Tryz.ntmps8
    go_wp2_with (first
      | (go_at_call 12; refine LT.out.mono ?_; rintro e w1 ⟨rfl, rfl⟩)
      | (go_at_call 13; refine (ex4_holds _ (HT.out.below BE.out)).mono ?_; rintro e we ⟨rfl, hbe⟩))
    go_ret
    exact ⟨rfl, hbe⟩
  · have LT := Lib.hid (light4_val true w a n0 cap D h hb)
    clear hb
    by_cases hc : chkN D = 0
    · have CK := Lib.hid (rCheck_val 0 w a n0 cap D h hc)
      by_cases hf : (fam D).length ≤ 256
      · have GOT := Lib.hid (fun (W : World) (e : Ending) (w' : World) (hp : CodesPost D W e w') => Codes_got hp hc hf (tys D) rfl (tys D).length rfl)
        have HC := Lib.hid hc
        have HAS := Lib.hid (fun x hx => tys_has (D := D) (acc_of hc) (x := x) hx)
        have hlenD := h.len
        have hn12 : n0 ≤ 256 := (good_up h hc).2.2.2.2.1
        obtain ⟨L, hL⟩ : ∃ L, tys D = L := ⟨_, rfl⟩
        obtain ⟨m, hm⟩ : ∃ m, L.length = m := ⟨_, rfl⟩
        rw [hL, hm] at GOT HAS
        clear h hT hc hf hL hm
        go_enter Tryz.func8, Tryz.ntmps8
        go_wp2_with (first
          | (go_at_call 12; refine LT.out.mono ?_; rintro e w1 ⟨rfl, rfl⟩)
          | (go_at_call 32; refine CK.out.mono ?_; rintro e w1 ⟨rfl, hb1⟩; have B1 := Lib.hid hb1; clear hb1))
        refine (Codes_any w1 a n0 cap D (HD.out.below B1.out) (HT.out.below B1.out)).mono ?_
        intro e w2 hp
        obtain ⟨ta, tc, rfl, hI, hb2⟩ := GOT.out w1 e w2 hp
        have B2 := Lib.hid (B1.out.trans (hb2.mono B1.out.size))
        have I2 := Lib.hid hI
        have hle := hI.le
        have hlen := hI.len
        have IH := Lib.hid (fun W hW => I2.out.below (w' := W) hW)
        have TT := Lib.hid hI.ok
        have D2 := Lib.hid (HD.out.below B2.out)
        have hdm := HD.out.maxLe
        have hdc := HD.out.capLe
        unfold maxLen at hdm
        clear hp hb2 GOT hI CK LT
        go_wp2_with fail
        go_loopw [33] (fun v wr => ∃ k : Nat, k ≤ n0 ∧ v = .int .i64 k ∧ Hid (Below w2.heap.size w2 wr)) (fun v _ => n0 - (intOf v).toNat)
        case atStart => exact ⟨0, Nat.zero_le _, rfl, Below.refl _ _⟩
        case round =>
          obtain ⟨i, hi', rfl, hA⟩ := hrel
          obtain ⟨wo, hwo⟩ : ∃ wo : World, wo = wr := ⟨_, rfl⟩
          subst hwo
          by_cases hi : i < n0
          · obtain ⟨db, doff, rfl, hdb, hds⟩ := D2.out.at_ (by omega)
            obtain ⟨_, _, _, _, hdi⟩ := hds i hi
            have hxn := dc_memN (D := D) (i := i) (by omega)
            obtain ⟨ni, hni0, hnie⟩ := HAS.out _ hxn
            have hni : ni < m := by omega
            have HNI : Hid ((ty L ni).1 = (dc D i).name ∧ (ty L ni).2 = cod D (dc D i).name) := ⟨by rw [hnie], by rw [hnie]⟩
            have HXN := Lib.hid hxn
            have c0 := (hA.out.cell (p := ⟨db, doff + i * 3, none⟩) hdb).trans hdi.c0
            have DH := Lib.hid (fun W (hW : Below w2.heap.size w2 W) => D2.out.below hW)
            have AB := Lib.hid (Above_any wo _ n0 cap D (DH.out wo hA.out) HC.out (dc D i).name hdi.nl)
            have HDS := Lib.hid hds
            obtain ⟨xi, hxi⟩ : ∃ xi, (dc D i).name = xi := ⟨_, rfl⟩
            rw [hxi] at c0 AB HNI HXN
            have hi0 : (0 : Int) ≤ (i : Int) := by omega
            have hi1 : (i : Int) < (n0 : Int) := by omega
            clear hds hdi hxn hnie hxi hni0
            go_wp2_with fail
            refine AB.out.mono ?_
            intro e w3 hy
            obtain ⟨ua, uc, rfl, hus, hb3⟩ := hy.eq _ rfl
            have U3 := Lib.hid hus
            obtain ⟨un, hun⟩ : ∃ un, (ab D xi).length = un := ⟨_, rfl⟩
            rw [hun] at U3 ⊢
            have A3 := Lib.hid (hA.out.trans (hb3.mono hA.out.size))
            have c3 := (hb3.cell (p := ⟨db, doff + i * 3, none⟩) (Nat.lt_of_lt_of_le hdb hA.out.size)).trans c0
            clear hy hus hb3 AB hun c0
            go_wp2_with fail
            refine (number_any w3 ta m tc L (IH.out w3 A3.out) xi ni hni HNI.out.1).mono ?_
            rintro e w3' ⟨rfl, rfl⟩
            clear c3
            go_wp2_with fail
            go_loopw [52] (fun v wr => ∃ k : Nat, k ≤ n0 ∧ v = .int .i64 k ∧ Hid (Below w3.heap.size w3 wr)) (fun v _ => n0 - (intOf v).toNat)
            case atStart => exact ⟨0, Nat.zero_le _, rfl, Below.refl _ _⟩
            case round =>
              obtain ⟨k, hk', rfl, hB⟩ := hrel
              obtain ⟨w5, hw5⟩ : ∃ w5 : World, w5 = wr := ⟨_, rfl⟩
              subst hw5
              by_cases hk : k < n0
              · obtain ⟨_, _, _, _, hdk⟩ := HDS.out k hk
                have hxn := dc_memN (D := D) (i := k) (by omega)
                obtain ⟨nk, hnk0, hnke⟩ := HAS.out _ hxn
                have hnk : nk < m := by omega
                have B5 := Lib.hid (A3.out.trans (hB.out.mono A3.out.size))
                have B35 := Lib.hid hB.out
                have d2 := (B5.out.cell (p := ⟨db, doff + k * 3, none⟩) hdb).trans hdk.c0
                have HNK : Hid ((ty L nk).1 = (dc D k).name) := by show _ = _; rw [hnke]
                have ES : Hid (subT L nk ni = inS (ab D xi) (dc D k).name) := by
                  show _ = _
                  rw [Bool.eq_iff_iff, TT.out.sub_iff (by omega) (by omega), inS_iff, HNI.out.2, hnke]
                  exact cod_sub (acc_of HC.out) HXN.out hxn
                have BD := Lib.hid B5.out.drew
                have AMG := Lib.hid (fun W (hW : Below w3.heap.size w3 W) => Among_any W ua un uc (ab D xi) (dc D k).name (U3.out.below hW))
                obtain ⟨xk, hxk⟩ : ∃ xk, (dc D k).name = xk := ⟨_, rfl⟩
                rw [hxk] at d2 HNK ES AMG
                obtain ⟨r, hr⟩ : ∃ r, inS (ab D xi) xk = r := ⟨_, rfl⟩
                rw [hr] at ES AMG
                have HS : Hid (subT L nk ni = r) := ES.out
                have hk0 : (0 : Int) ≤ (k : Int) := by omega
                have hk1 : (k : Int) < (n0 : Int) := by omega
                have hdbw : db < w5.heap.size := Nat.lt_of_lt_of_le hdb B5.out.size
                have q1 : decide ((ni : Int) < 0) = false := by rw [decide_eq_false_iff_not]; omega
                have q2 : decide ((nk : Int) < 0) = false := by rw [decide_eq_false_iff_not]; omega
                have q3 : (r != r) = false := by simp
                clear hdk hxn hnke hnk0 hxk hr ES
                go_wp2_with fail
                refine (number_any w5 ta m tc L (IH.out w5 B5.out) xk nk hnk HNK.out).mono ?_
                rintro e w5' ⟨rfl, rfl⟩
                go_wp2_with fail
                refine wp_region_held_drew (S := fun w' => w'.cell? ⟨db, doff + k * 3, none⟩ = some (.string (mk xk))) (by kernel_rfl) ?_ (fun hHeld => ?_)
                · (first | (go_keep; done) | exact d2 | exact e2)
                refine wpAnyH_take (i := 0) (oi := ⟨some 62, _, _, _, _, _⟩) (v := ?_) rfl (by kernel_rfl) (by kernel_rfl) (by kernel_rfl) (fun _ _ _ h => h) (Or.inl ⟨by kernel_rfl, ?_⟩) (by assumption) ?_; rotate_left
                · intro w hSw; (try dsimp only at hSw); go_simp; (try with_reducible rfl)
                simp only [Act.put, List.setIfInBounds_toArray, List.set_cons_zero, List.set_cons_succ]
                refine wpAnyH_take (i := 1) (oi := ⟨some 63, _, _, _, _, _⟩) (v := ?_) rfl (by kernel_rfl) (by kernel_rfl) (by kernel_rfl) (fun _ _ _ h => h) (Or.inl ⟨by kernel_rfl, ?_⟩) (by assumption) ?_; rotate_left
                · intro w hSw; (try dsimp only at hSw); go_simp; (try with_reducible rfl)
                simp only [Act.put, List.setIfInBounds_toArray, List.set_cons_zero, List.set_cons_succ]
                refine wpAnyH_take (i := 2) (oi := ⟨some 64, _, _, _, _, _⟩) (v := ?_) rfl (by kernel_rfl) (by kernel_rfl) (by kernel_rfl) (fun _ _ _ h => h) (Or.inl ⟨by kernel_rfl, ?_⟩) (by assumption) ?_; rotate_left
                · intro w hSw; (try dsimp only at hSw); go_simp; (try with_reducible rfl)
                simp only [Act.put, List.setIfInBounds_toArray, List.set_cons_zero, List.set_cons_succ]
                refine wpAnyH_take (i := 3) (oi := ⟨some 65, _, _, _, _, _⟩) (v := ?_) rfl (by kernel_rfl) (by kernel_rfl) (by kernel_rfl) (fun _ _ _ h => h) (Or.inl ⟨by kernel_rfl, ?_⟩) (by assumption) ?_; rotate_left
                · intro w hSw; (try dsimp only at hSw); go_simp; (try with_reducible rfl)
                simp only [Act.put, List.setIfInBounds_toArray, List.set_cons_zero, List.set_cons_succ]
                refine wpAnyH_take (i := 4) (oi := ⟨some 66, _, _, _, _, _⟩) (v := ?_) rfl (by kernel_rfl) (by kernel_rfl) (by kernel_rfl) (fun _ _ _ h => h) (Or.inl ⟨by kernel_rfl, ?_⟩) (by assumption) ?_; rotate_left
                · intro w hSw; (try dsimp only at hSw); go_simp; (try with_reducible rfl)
                simp only [Act.put, List.setIfInBounds_toArray, List.set_cons_zero, List.set_cons_succ]
                refine wpAnyH_take (i := 5) (oi := ⟨some 67, _, _, _, _, _⟩) (v := ?_) rfl (by kernel_rfl) (by kernel_rfl) (by kernel_rfl) (fun _ _ _ h => h) (Or.inl ⟨by kernel_rfl, ?_⟩) (by assumption) ?_; rotate_left
                · intro w hSw; (try dsimp only at hSw); go_simp; (try with_reducible rfl)
                simp only [Act.put, List.setIfInBounds_toArray, List.set_cons_zero, List.set_cons_succ]
                refine wpAnyH_take (i := 6) (oi := ⟨some 68, _, _, _, _, _⟩) (v := ?_) rfl (by kernel_rfl) (by kernel_rfl) (by kernel_rfl) (fun _ _ _ h => h) (Or.inl ⟨by kernel_rfl, ?_⟩) (by assumption) ?_; rotate_left
                · intro w hSw; (try dsimp only at hSw); go_simp; (try with_reducible rfl)
                simp only [Act.put, List.setIfInBounds_toArray, List.set_cons_zero, List.set_cons_succ]
                refine wpAnyH_take (i := 7) (oi := ⟨some 69, _, _, _, _, _⟩) (v := ?_) rfl (by kernel_rfl) (by kernel_rfl) (by kernel_rfl) (fun _ _ _ h => h) (Or.inl ⟨by kernel_rfl, ?_⟩) (by assumption) ?_; rotate_left
                · intro w hSw; (try dsimp only at hSw); go_simp; (try with_reducible rfl)
                simp only [Act.put, List.setIfInBounds_toArray, List.set_cons_zero, List.set_cons_succ]
                refine wpAnyH_take (i := 8) (oi := ⟨some 70, _, _, _, _, _⟩) (v := ?_) rfl (by kernel_rfl) (by kernel_rfl) (by kernel_rfl) (fun _ _ _ h => h) (Or.inl ⟨by kernel_rfl, ?_⟩) (by assumption) ?_; rotate_left
                · intro w hSw; (try dsimp only at hSw); go_simp; (try with_reducible rfl)
                simp only [Act.put, List.setIfInBounds_toArray, List.set_cons_zero, List.set_cons_succ]
                refine wpAnyH_take (i := 9) (oi := ⟨some 71, _, _, _, _, _⟩) (v := ?_) rfl (by kernel_rfl) (by kernel_rfl) (by kernel_rfl) (fun _ _ _ h => h) (Or.inl ⟨by kernel_rfl, ?_⟩) (by assumption) ?_; rotate_left
                · intro w hSw; (try dsimp only at hSw); go_simp; (try with_reducible rfl)
                simp only [Act.put, List.setIfInBounds_toArray, List.set_cons_zero, List.set_cons_succ]
                refine wpAnyH_take (i := 11) (oi := ⟨some 73, _, _, _, _, _⟩) (v := ?_) rfl (by kernel_rfl) (by kernel_rfl) (by kernel_rfl) (fun _ _ _ h => h) (Or.inl ⟨by kernel_rfl, ?_⟩) (by assumption) ?_; rotate_left
                · intro w hSw; (try dsimp only at hSw); go_simp; (try with_reducible rfl)
                simp only [Act.put, List.setIfInBounds_toArray, List.set_cons_zero, List.set_cons_succ]
                refine wpAnyH_take (i := 12) (oi := ⟨some 74, _, _, _, _, _⟩) (v := ?_) rfl (by kernel_rfl) (by kernel_rfl) (by kernel_rfl) (fun _ _ _ h => h) (Or.inl ⟨by kernel_rfl, ?_⟩) (by assumption) ?_; rotate_left
                · intro w hSw; (try dsimp only at hSw); go_simp; (try with_reducible rfl)
                simp only [Act.put, List.setIfInBounds_toArray, List.set_cons_zero, List.set_cons_succ]
                refine wpAnyH_take (i := 13) (oi := ⟨some 75, _, _, _, _, _⟩) (v := ?_) rfl (by kernel_rfl) (by kernel_rfl) (by kernel_rfl) (fun _ _ _ h => h) (Or.inl ⟨by kernel_rfl, ?_⟩) (by assumption) ?_; rotate_left
                · intro w hSw; (try dsimp only at hSw); go_simp; (try with_reducible rfl)
                simp only [Act.put, List.setIfInBounds_toArray, List.set_cons_zero, List.set_cons_succ]
                refine wpAnyH_take (i := 14) (oi := ⟨some 76, _, _, _, _, _⟩) (v := ?_) rfl (by kernel_rfl) (by kernel_rfl) (by kernel_rfl) (fun _ _ _ h => h) (Or.inl ⟨by kernel_rfl, ?_⟩) (by assumption) ?_; rotate_left
                · intro w hSw; (try dsimp only at hSw); go_simp; (try with_reducible rfl)
                simp only [Act.put, List.setIfInBounds_toArray, List.set_cons_zero, List.set_cons_succ]
                refine wpAnyH_take (i := 15) (oi := ⟨some 77, _, _, _, _, _⟩) (v := ?_) rfl (by kernel_rfl) (by kernel_rfl) (by kernel_rfl) (fun _ _ _ h => h) (Or.inl ⟨by kernel_rfl, ?_⟩) (by assumption) ?_; rotate_left
                · intro w hSw; (try dsimp only at hSw); go_simp; (try with_reducible rfl)
                simp only [Act.put, List.setIfInBounds_toArray, List.set_cons_zero, List.set_cons_succ]
                refine wpAnyH_take (i := 16) (oi := ⟨some 78, _, _, _, _, _⟩) (v := ?_) rfl (by kernel_rfl) (by kernel_rfl) (by kernel_rfl) (fun _ _ _ h => h) (Or.inl ⟨by kernel_rfl, ?_⟩) (by assumption) ?_; rotate_left
                · intro w hSw; (try dsimp only at hSw); go_simp; (try with_reducible rfl)
                simp only [Act.put, List.setIfInBounds_toArray, List.set_cons_zero, List.set_cons_succ]
                refine wpAnyH_ready (rs := [10]) (by kernel_rfl) (by simp) ?_
                refine AllReadyH.cons (o := ⟨some 72, _, _, _, _, _⟩) rfl (fun K hK => ?_) AllReadyH.nil
                rw [if_pos (by kernel_rfl)]
                go_simp
                go_at_call 24; (with_reducible refine (Subsumes_val w5.drew _ m tc L (IH.out _ BD.out).is nk ni hnk hni r HS.out).mono ?_); rintro e w7 ⟨rfl, hb7⟩; have k7 := (Below.refl _ w5).drew.trans hb7; have e2 := (k7.cell (p := ⟨db, doff + k * 3, none⟩) hdbw).trans d2; have B7 := Lib.hid (B5.out.trans (k7.mono B5.out.size)); have B37 := Lib.hid (B35.out.trans (k7.mono B35.out.size)); have AM := Lib.hid (AMG.out w7 (B35.out.trans (k7.mono B35.out.size))); clear hb7 k7
                refine hK.out _ _ ?_ (fun hHeld => ?_)
                · (first | (go_keep; done) | exact d2 | exact e2)
                clear hK K
                (try simp only [Act.put, List.setIfInBounds_toArray, List.set_cons_zero, List.set_cons_succ])
                refine wpAnyH_ready (rs := [17]) (by kernel_rfl) (by simp) ?_
                refine AllReadyH.cons (o := ⟨some 79, _, _, _, _, _⟩) rfl (fun K hK => ?_) AllReadyH.nil
                rw [if_pos (by kernel_rfl)]
                go_simp
                go_at_call 35; (with_reducible refine AM.out.mono ?_); rintro e w8 ⟨rfl, rfl⟩
                refine hK.out _ _ ?_ (fun hHeld => ?_)
                · (first | (go_keep; done) | exact d2 | exact e2)
                clear hK K
                (try simp only [Act.put, List.setIfInBounds_toArray, List.set_cons_zero, List.set_cons_succ])
                refine wpAnyH_take (i := 18) (oi := ⟨some 80, _, _, _, _, _⟩) (v := ?_) rfl (by kernel_rfl) (by kernel_rfl) (by kernel_rfl) (fun _ _ _ h => h) (Or.inl ⟨by kernel_rfl, ?_⟩) (by assumption) ?_; rotate_left
                · intro w hSw; (try dsimp only at hSw); go_simp; (try with_reducible rfl)
                simp only [Act.put, List.setIfInBounds_toArray, List.set_cons_zero, List.set_cons_succ]
                refine wpAnyH_take (i := 19) (oi := ⟨some 81, _, _, _, _, _⟩) (v := ?_) rfl (by kernel_rfl) (by kernel_rfl) (by kernel_rfl) (fun _ _ _ h => h) (Or.inl ⟨by kernel_rfl, ?_⟩) (by assumption) ?_; rotate_left
                · intro w hSw; (try dsimp only at hSw); go_simp; (try with_reducible rfl)
                simp only [Act.put, List.setIfInBounds_toArray, List.set_cons_zero, List.set_cons_succ]
                refine wpAnyH_done (by kernel_rfl) ?_ _
                go_wp2_with fail
                go_roundw
                case rel => exact ⟨k + 1, by omega, by go_num, B37.out⟩
                case measure => simp [intOf]; omega
              · obtain rfl : n0 = k := by omega
                go_wp2_with fail
                go_roundw
                case rel => exact ⟨i + 1, by omega, by go_num, A3.out.trans (hB.out.mono A3.out.size)⟩
                case measure => simp [intOf]; omega
          · obtain rfl : n0 = i := by omega
            have BE := Lib.hid (B2.out.trans (hA.out.mono B2.out.size))
            go_wp2_with (go_at_call 13; refine (ex4_holds _ (HT.out.below BE.out)).mono ?_; rintro e we ⟨rfl, hbe⟩)
            go_ret
            exact ⟨rfl, BE.out.trans (hbe.mono BE.out.size)⟩
      · have BAD := Lib.hid (fun (W : World) (e : Ending) (w' : World) (hp : CodesPost D W e w') => hp.bad (fun h => hf h.2) 7 (by unfold errN; rw [if_pos hc]; rfl))
        clear h hT hc hf
        go_enter Tryz.func8, Tryz.ntmps8
        go_wp2_with (first
          | (go_at_call 12; refine LT.out.mono ?_; rintro e w1 ⟨rfl, rfl⟩)
          | (go_at_call 32; refine CK.out.mono ?_; rintro e w1 ⟨rfl, hb1⟩; have B1 := Lib.hid hb1; clear hb1))
        refine (Codes_any w1 a n0 cap D (HD.out.below B1.out) (HT.out.below B1.out)).mono ?_
        intro e w2 hp
        obtain ⟨rfl, hb2⟩ := BAD.out w1 e w2 hp
        have BE := Lib.hid (B1.out.trans (hb2.mono B1.out.size))
        clear hp hb2 BAD
        go_wp2_with (go_at_call 13; refine (ex4_holds _ (HT.out.below BE.out)).mono ?_; rintro e we ⟨rfl, hbe⟩)
        go_ret
        exact ⟨rfl, BE.out.trans (hbe.mono BE.out.size)⟩
    · obtain ⟨c, hcc⟩ : ∃ c, chkN D = c := ⟨_, rfl⟩
      have CK := Lib.hid (rCheck_val c w a n0 cap D h hcc)
      rw [hcc] at hc
      have q1 : ((c : Int) != 0) = true := by simpa using hc
      clear h hT hc hcc
      go_enter Tryz.func8, Tryz.ntmps8
      go_wp2_with (first
        | (go_at_call 12; refine LT.out.mono ?_; rintro e w1 ⟨rfl, rfl⟩)
        | (go_at_call 32; refine CK.out.mono ?_; rintro e w1 ⟨rfl, hb1⟩; have BE := Lib.hid hb1; clear hb1)
        | (go_at_call 13; refine (ex4_holds _ (HT.out.below BE.out)).mono ?_; rintro e we ⟨rfl, hbe⟩))
      go_ret
      exact ⟨rfl, BE.out.trans (hbe.mono BE.out.size)⟩
end Go.Proofs.YtdeamdpoegdmdaaGreatDoor
