/- Walks of package poset: downward, the walk. -/
import Derived.Test.YtmhbblehgckelaaPt
namespace Go.Proofs.Ytmhbblehgckelaa
open Go.RowKit Go.Maps

theorem dn_zero (D : List Dec) (x : Str) : dn (D.take 0) x = [] := by rw [List.take_zero]; rfl
theorem mput_nil {M : DataW Value} (h : IsMap M) (hz : ∀ x, mget M x (.slice none 0 0) = .slice none 0 0) (y : Str) : ∀ x, mget (mput M y (.slice none 0 0)) x (.slice none 0 0) = .slice none 0 0 := fun x => by
  rw [mget_put h]
  split
  · rfl
  · exact hz x

set_option maxRecDepth 100000 in
set_option maxHeartbeats 6400000 in
theorem downward_any (w : World) (a : Option Addr) (n cap : Nat) (D : List Dec) (h : IsDecs w a n cap D) (ok : Ok D) (hn : n ≤ 256) (hsz : ∀ i, i < n → (dc D i).sup.length ≤ 256) :
    Calls Try.prog 21 #[.slice a n cap] w (RetM n (nms D) (dn D) w) := by
  have hm := h.maxLe
  have hc := h.capLe
  unfold maxLen at hm
  have HL := Lib.hid h.len
  have HS := Lib.hid (nms_small h)
  have H := Lib.hid h
  have OK := Lib.hid ok
  have HSZ := Lib.hid hsz
  clear h ok hsz
  have hmm := fun x w => run_makeMapN Try.underlying45 x w
  go_enter Try.func21, Try.ntmps21
  go_wp2
  clear hmm
  go_loopw [15] (fun v wr => ∃ (k : Nat) (M : DataW Value), k ≤ n ∧ v = .int .i64 k ∧ Hid (wr.ownsMap Try.prog 9 raw w.heap.size k M) ∧ Hid (∀ x, mhas M x = inS ((nms D).take k) x) ∧ Hid (∀ x, mget M x (.slice none 0 0) = .slice none 0 0) ∧ Below w.heap.size w wr) (fun v _ => n - (intOf v).toNat)
  case atStart => exact ⟨0, .map [], Nat.zero_le _, rfl, World.ownsMap_made _ _ _ _, fun x => rfl, fun x => rfl, (Below.refl _ _).alloc (Nat.le_refl _) _⟩
  case round =>
    obtain ⟨k, M, hk, rfl, hown, hhas, hget, hb⟩ := hrel
    obtain ⟨wo, hwo⟩ : ∃ wo : World, wo = wr := ⟨_, rfl⟩
    subst hwo
    by_cases hlt : k < n
    · obtain ⟨b, off, rfl, hbl, hx⟩ := H.out.at_ (by omega)
      obtain ⟨sa, sc', fa, fc, hd0⟩ := hx k hlt
      have hd := hd0.below hbl hb
      have c0 := hd.c0
      have c1 := hd.c1
      have c2 := hd.c2
      have HNL := Lib.hid hd.nl
      have HTK := Lib.hid (nms_succ (D := D) (k := k) (by rw [HL.out]; exact hlt))
      have HO1 := Lib.hid (fun o => hown.out.alloc o)
      have HIM := Lib.hid (owns_isMap hown.out)
      obtain ⟨x, hx'⟩ : ∃ x, (dc D k).name = x := ⟨_, rfl⟩
      rw [hx'] at c0 HNL HTK
      obtain ⟨sl, hsl⟩ : ∃ z, (dc D k).sup.length = z := ⟨_, rfl⟩
      rw [hsl] at c1
      obtain ⟨nf, hnf⟩ : ∃ z, (dc D k).nf = z := ⟨_, rfl⟩
      rw [hnf] at c2
      clear hx hd hd0 hx' hsl hnf hown
      go_wp2_with (at_mapUpdate; refine wpList_update_raw rfl _ _ _ 45 rfl 25 Try.underlying45 w.heap.size k M rfl (HO1.out _) (by omega) x (.slice none 0 0) rfl rfl HNL.out ?_; intro w2 hown2 hgrow2; have HO2 := Lib.hid hown2; have HB2 := Lib.hid ((hb.alloc hb.size _).grown hgrow2 (by have := hb.size; simp; omega) (fun j e => by cases e; exact Nat.le_refl _)); clear hown2 hgrow2)
      go_roundw
      case rel => exact ⟨k + 1, mput M x (.slice none 0 0), by omega, by go_num, HO2.out, fun y => by rw [mhas_put HIM.out, hhas.out, HTK.out, inS_snoc], mput_nil HIM.out hget.out x, HB2.out⟩
      case measure => simp [intOf]; omega
    · obtain rfl : n = k := by omega
      have hall1 : (nms D).take n = nms D := List.take_of_length_le (by rw [nms_len, HL.out]; exact Nat.le_refl _)
      rw [hall1] at hhas
      have hz1 : w.heap.size < wo.heap.size := hown.out.lt
      have HOM : Hid (OwnsM wo (w.heap.size + 1) w.heap.size n (nms D) (dn (D.take 0)) M) :=
        ⟨hown.out, hhas.out, fun x => by rw [hget.out, dn_zero]; exact World.ownsRow_nil _ _ _ _, fun x y g _ e => by rw [hget.out] at e; cases e⟩
      clear hall1 hown hhas hget hlt hk
      obtain ⟨wf, hwf⟩ : ∃ wf : World, wf = wo := ⟨_, rfl⟩
      have HZ : Hid (w.heap.size < wo.heap.size) := hz1
      clear hz1
      go_wp2
      go_loopw [25] (fun v wr => ∃ (k : Nat) (M : DataW Value), k ≤ n ∧ v = .int .i64 k ∧ Hid (OwnsM wr (w.heap.size + 1) w.heap.size n (nms D) (dn (D.take k)) M) ∧ w.heap.size < wr.heap.size ∧ Below w.heap.size w wr) (fun v _ => n - (intOf v).toNat)
      case atStart => exact ⟨0, M, Nat.zero_le _, rfl, HOM.out, HZ.out, hb⟩
      case round =>
        clear HOM HZ hwf
        obtain ⟨k, M, hk, rfl, HOM, hz, hb⟩ := hrel
        obtain ⟨wo, hwo⟩ : ∃ wo : World, wo = wr := ⟨_, rfl⟩
        subst hwo
        by_cases hlt : k < n
        · obtain ⟨b, off, rfl, hbl, hx⟩ := H.out.at_ (by omega)
          obtain ⟨sa, sc', fa, fc, hd0⟩ := hx k hlt
          have hd := hd0.below hbl hb
          have c0 := hd.c0
          have c1 := hd.c1
          have c2 := hd.c2
          have hs1 := hd.ss.capLe
          have hs2 := hd.ss.maxLe
          have SS := Lib.hid hd0.ss
          unfold maxLen at hs2
          have HDN := Lib.hid (fun j x => dnJ_len D (k := k) (j := j) x (fun i hi => HSZ.out i (by rw [HL.out] at hi; exact hi)) (by rw [HL.out]; exact hlt) (by rw [HL.out]; exact hn))
          have HDC := Lib.hid (fun j (hj : j < (dc D k).sup.length) => OK.out.decl _ (dc_mem (by rw [HL.out]; exact hlt)) _ (st_mem hj))
          have HJS := Lib.hid (fun j (hj : j < (dc D k).sup.length) x => dnJ_succ (D := D) (k := k) hj x)
          have HJE := Lib.hid (fun x => dnJ_end (D := D) (k := k) (by rw [HL.out]; exact hlt) x)
          obtain ⟨nm, hnm⟩ : ∃ z, (dc D k).name = z := ⟨_, rfl⟩
          rw [hnm] at c0 HJS
          obtain ⟨nf, hnf⟩ : ∃ z, (dc D k).nf = z := ⟨_, rfl⟩
          rw [hnf] at c2
          obtain ⟨l, hl⟩ : ∃ l, (dc D k).sup = l := ⟨_, rfl⟩
          rw [hl] at c1 hs1 SS HDC HJS HJE
          obtain ⟨sl, hsl⟩ : ∃ m, l.length = m := ⟨_, rfl⟩
          rw [hsl] at c1 hs1 SS HDC HJS HJE
          have HLL := Lib.hid hsl
          obtain ⟨wt, hwt⟩ : ∃ wt : World, wt = wo.alloc (.cells #[.string (mk nm), .slice sa sl sc', .slice fa nf fc] 35) := ⟨_, rfl⟩
          have hzt : wo.heap.size + 1 = wt.heap.size := by rw [hwt]; simp
          have T0 : Hid (wt.cell? ⟨wo.heap.size, 0, none⟩ = some (.string (mk nm))) := by show _ = _; rw [hwt, World.cell?_alloc_new]; rfl
          have t1 : wt.cell? ⟨wo.heap.size, 1, none⟩ = some (.slice sa sl sc') := by rw [hwt, World.cell?_alloc_new]; rfl
          have HBT : Hid (Below w.heap.size w wt) := hwt ▸ hb.alloc hb.size _
          have HOT : Hid (OwnsM wt (w.heap.size + 1) w.heap.size n (nms D) (dnJ D k 0) M) := by
            have h2 := HOM.out.alloc (.cells #[.string (mk nm), .slice sa sl sc', .slice fa nf fc] 35)
            rw [← hwt] at h2
            exact ⟨h2.map, h2.has, fun x => by rw [dnJ_zero]; exact h2.row x, h2.apart⟩
          have HSH : Hid (∀ x, (mget M x (.slice none 0 0)).ownBlock ≠ some wo.heap.size) := fun x e => by
            have := ((HOM.out.row x).lt _ e).2
            omega
          have HWT := Lib.hid hwt
          clear hx hd hd0 hnm hnf hl hsl hwt HOM
          go_wp2
          rw [← HWT.out]
          go_loopw [32] (fun v wi => ∃ (j : Nat) (M : DataW Value), j ≤ sl ∧ v = .int .i64 j ∧ Hid (OwnsM wi (w.heap.size + 1) w.heap.size n (nms D) (dnJ D k j) M) ∧ Hid (∀ x, (mget M x (.slice none 0 0)).ownBlock ≠ some wo.heap.size) ∧ Hid (wi.cell? ⟨wo.heap.size, 0, none⟩ = some (.string (mk nm))) ∧ wo.heap.size < wi.heap.size ∧ Below w.heap.size w wi) (fun v _ => sl - (intOf v).toNat)
          case atStart => exact ⟨0, M, Nat.zero_le _, rfl, HOT.out, HSH.out, T0.out, by omega, HBT.out⟩
          case round =>
            clear HOT HSH T0
            obtain ⟨j, M, hj, rfl, HOM, HSH, HT, hzi, hbi⟩ := hrel
            obtain ⟨wi, hwi⟩ : ∃ wi : World, wi = wr := ⟨_, rfl⟩
            subst hwi
            by_cases hjl : j < sl
            · obtain ⟨b2, off2, rfl, hbl2, hx2⟩ := SS.out.at_ (by omega)
              have d0 := (hbi.cell (p := ⟨b2, off2 + j, none⟩) hbl2).trans (hx2 j hjl)
              have t0 := HT.out
              have HIN := Lib.hid (HDC.out j hjl)
              have HJ := Lib.hid (HJS.out j hjl)
              have HXL := Lib.hid (SS.out.small _ (st_mem (zs := l) (i := j) (by rw [HLL.out]; exact hjl)))
              have HLE := Lib.hid (HDN.out j (st l j))
              obtain ⟨x, hx'⟩ : ∃ x, st l j = x := ⟨_, rfl⟩
              rw [hx'] at d0 HIN HJ HXL HLE
              obtain ⟨v0, hv0⟩ : ∃ v, mget M x (.slice none 0 0) = v := ⟨_, rfl⟩
              have HV0 := Lib.hid hv0
              have HROW : Hid (wi.ownsRow (w.heap.size + 1) 9 1 v0 (dnJ D k j x).length (svals (dnJ D k j x))) := hv0 ▸ HOM.out.row x
              have HHX : Hid (mhas M x = true) := (HOM.out.has x).trans (inS_iff.2 HIN.out)
              have HMAP := Lib.hid HOM.out.map
              clear hx2 hx' hv0
              have hzw := hbi.size
              go_wp2_with (first
                | (at_lookup; refine wpList_lookup_raw rfl _ _ 45 rfl 25 Try.underlying45 (zeroL _) w.heap.size n M rfl HMAP.out x rfl HXL.out ?_; rw [HV0.out])
                | (at_builtin; refine wpList_append_at rfl _ _ rfl (w.heap.size + 1) v0 _ _ rfl (HROW.out.alloc _) ⟨wi.heap.size, 0, none⟩ nm rfl (cell_of_one (heap_alloc_new wi _)) (by have := HLE.out; omega) (by simp; omega) ?_; intro v3 w3 hown3 hgrow3 hloc3; have R3 := Lib.hid hown3; have G3 := Lib.hid hgrow3; have L3 := Lib.hid hloc3; have hz3 := hgrow3.size; clear hown3 hgrow3 hloc3; have HM3 := Lib.hid ((HMAP.out.alloc (.cells #[.string (mk nm)] 9)).kept G3.out (fun e => by have := ((HROW.out).lt _ e.symm).1; omega)))
                | (at_mapUpdate; refine wpList_update_raw rfl _ _ _ 45 rfl 25 Try.underlying45 w.heap.size n M rfl HM3.out (by omega) x v3 rfl rfl HXL.out ?_; intro w4 hown4 hgrow4; have HO4 := Lib.hid hown4; have G4 := Lib.hid hgrow4; have hz4 := hgrow4.size; clear hown4 hgrow4))
              go_roundw
              case rel =>
                have hlen : (dnJ D k j x ++ [nm]).length = (dnJ D k j x).length + 1 := by simp
                have hst := (HOM.out.alloc (.cells #[.string (mk nm)] 9)).step (zs := dnJ D k j x ++ [nm]) (f' := dnJ D k (j + 1)) (by omega) HHX.out (by rw [hlen]; exact R3.out) (by rw [HV0.out]; exact G3.out) (by rw [HV0.out]; exact L3.out) HO4.out G4.out (fun y => by rw [HJ.out y])
                have hv0s : v0.ownBlock ≠ some wo.heap.size := by rw [← HV0.out]; exact HSH.out x
                have hv3s : v3.ownBlock ≠ some wo.heap.size := by
                  rcases L3.out with e | e
                  · rw [e]; exact hv0s
                  · rw [e]; intro e2; have e3 := Option.some.inj e2; simp at e3; omega
                have hw3 : Below w.heap.size w w3 := (hbi.alloc hbi.size _).grown G3.out (by simp; omega) (fun g e => by have := (HROW.out.lt g e).1; omega)
                have hc3 : w3.cell? ⟨wo.heap.size, 0, none⟩ = some (.string (mk nm)) := by
                  have : (wi.alloc (.cells #[.string (mk nm)] 9)).cell? ⟨wo.heap.size, 0, none⟩ = some (.string (mk nm)) := ((Below.refl wi.heap.size wi).alloc (Nat.le_refl _) _).cell (p := ⟨wo.heap.size, 0, none⟩) hzi ▸ HT.out
                  exact G3.out.cell this (fun e => hv0s e.symm)
                refine ⟨j + 1, mput M x v3, by omega, by go_num, hst, fun y => ?_, G4.out.cell hc3 (fun e => by have e3 := Option.some.inj e; simp at e3; omega), by simp at hz3; omega, hw3.grown G4.out (by simp at hz3; omega) (fun g e => by cases e; exact Nat.le_refl _)⟩
                rw [mget_put (owns_isMap HMAP.out)]
                split
                · exact hv3s
                · exact HSH.out y
              case measure => simp [intOf]; omega
            · obtain rfl : sl = j := by omega
              have HOM2 : Hid (OwnsM wi (w.heap.size + 1) w.heap.size n (nms D) (dn (D.take (k + 1))) M) :=
                ⟨HOM.out.map, HOM.out.has, fun x => by rw [← HJE.out x]; exact HOM.out.row x, HOM.out.apart⟩
              clear HOM HSH HT hjl hj
              go_wp2
              go_roundw
              case rel => exact ⟨k + 1, M, by omega, by go_num, HOM2.out, by omega, hbi⟩
              case measure => simp [intOf]; omega
        · obtain rfl : n = k := by omega
          have hall2 : D.take n = D := List.take_of_length_le (by rw [HL.out]; exact Nat.le_refl _)
          rw [hall2] at HOM
          clear hall2
          go_wp2
          go_ret
          exact ⟨w.heap.size, rfl, Nat.le_refl _, HOM.out.links (dn_small HS.out), hb⟩
end Go.Proofs.Ytmhbblehgckelaa
