/- Walks of package poset: unreached, Maximal, Minimal. -/
import Derived.Test.YtmhbblehgckelaaQc
namespace Go.Proofs.Ytmhbblehgckelaa
open Go.RowKit Go.Maps

set_option maxRecDepth 100000 in
theorem pred_any (w : World) (box mb n : Nat) (M : DataW Value) (K : List Str) (hbox : w.cell? ⟨box, 0, none⟩ = some (.map (some mb))) (h : IsSet w mb n M K) (x : Str) (hx : x.length ≤ maxLen) :
    Calls Try.prog 46 #[.string (mk x), .pointer (some ⟨box, 0, none⟩)] w fun e w' => e = .returned (.bool (inS K x)) ∧ w = w' := by
  have S := Lib.hid h
  have HX := Lib.hid hx
  have HG := Lib.hid (h.get x)
  clear h
  go_enter Try.func46, Try.ntmps46
  go_wp2_with (at_lookup; refine wpList_lookup_raw rfl _ _ 56 rfl 4 Try.underlying56 (zeroB _) mb _ M rfl S.out.map x rfl HX.out ?_; rw [HG.out])
  go_ret
  exact ⟨rfl, rfl⟩

/-- Strings within the bound. -/
abbrev SStr := { x : Str // x.length ≤ maxLen }
instance : Inhabited SStr := ⟨⟨[], Nat.zero_le _⟩⟩
def encT (x : SStr) : Value := .string (mk x.1)
def subL (L : List Str) (h : ∀ z ∈ L, z.length ≤ maxLen) : List SStr := L.pmap (fun z h => ⟨z, h⟩) h
theorem subL_map (L : List Str) (h : ∀ z ∈ L, z.length ≤ maxLen) : (subL L h).map encT = svals L := by
  induction L with
  | nil => rfl
  | cons y L ih =>
    have e : subL (y :: L) h = ⟨y, h y (by simp)⟩ :: subL L (fun z hz => h z (by simp [hz])) := rfl
    rw [e, List.map_cons, ih]; rfl
theorem subL_len (L : List Str) (h : ∀ z ∈ L, z.length ≤ maxLen) : (subL L h).length = L.length := by unfold subL; simp
theorem subL_filter (L : List Str) (h : ∀ z ∈ L, z.length ≤ maxLen) (r : Str → Bool) : ((subL L h).filter fun x => r x.1).map encT = svals (L.filter r) := by
  induction L with
  | nil => rfl
  | cons y L ih =>
    have e : subL (y :: L) h = ⟨y, h y (by simp)⟩ :: subL L (fun z hz => h z (by simp [hz])) := rfl
    rw [e, List.filter_cons, List.filter_cons]
    split
    · rw [List.map_cons, ih]; rfl
    · exact ih _

theorem grown_sortWorld (w : World) (blk off m : Nat) (dk : Array SStr) (os : Array Obj) : w.grownBy (sortWorld encT w blk off m dk os) (some blk) := by
  refine ⟨rfl, rfl, rfl, ?_, fun k hk hne => ?_⟩
  · show _ ≤ ((w.heap.modify blk _) ++ os).size
    rw [Array.size_append, Array.size_modify]; omega
  · show ((w.heap.modify blk _) ++ os)[k]? = _
    rw [Array.getElem?_append_left (by rw [Array.size_modify]; exact hk), Array.getElem?_modify]
    rw [if_neg (fun e => hne (by rw [e]))]

set_option maxRecDepth 100000 in
set_option maxHeartbeats 1600000 in
theorem DeleteFunc_any (w0 w : World) (B : Nat) (a : Option Addr) (cap : Nat) (T : List Str) (hrow : w0.ownsRow B 9 1 (.slice a T.length cap) T.length (svals T)) (hs : ∀ z ∈ T, z.length ≤ maxLen) (hl : T.length ≤ 1000) (hw : Below w0.heap.size w0 w) (hB : B ≤ w0.heap.size)
    (box mb n : Nat) (M : DataW Value) (K : List Str) (hb0 : w0.heap.size ≤ box) (hm0 : w0.heap.size ≤ mb) (hbox : w.cell? ⟨box, 0, none⟩ = some (.map (some mb))) (h : IsSet w mb n M K) :
    Calls Try.prog 45 #[.slice a T.length cap, .func (.func 46) #[] #[.pointer (some ⟨box, 0, none⟩)]] w fun e w' => ∃ v, e = .returned v ∧ w'.ownsRow B 9 1 v (T.filter fun x => !inS K x).length (svals (T.filter fun x => !inS K x)) ∧ Below B w w' := by
  have hroww := owns_below hrow hw
  by_cases h0 : (Value.slice a T.length cap) = .slice none 0 0
  · rw [h0]
    have hT : T = [] := by
      injection h0 with h1 h2 h3
      exact List.eq_nil_of_length_eq_zero h2
    subst hT
    clear hrow hroww h0 hbox h
    go_enter Try.func45, Try.ntmps45
    go_wp2_with (go_at_call 54; refine (Try.slices_IndexFunc_empty (α := SStr) none 0 _ w).mono ?_; rintro e w1 ⟨rfl, rfl⟩)
    go_ret
    exact ⟨_, rfl, World.ownsRow_nil _ _ _ _, Below.refl _ _⟩
  · have hr2 : w.ownsRow B 9 1 (.slice a T.length cap) T.length ((subL T hs).map encT) := by rw [subL_map]; exact hroww
    obtain ⟨g, cap', hv, hBg, hg, hnc, hcm, hlen, hH⟩ := Lib.holds_of_ownsRow hr2 h0
    injection hv with e1 _ e3
    subst e1
    subst e3
    have hgw : g < w0.heap.size := by
      rcases hrow.2 with ⟨e0, _⟩ | ⟨g', cap'', cur, e0, hb, hg', r⟩
      · exact absurd e0 h0
      · injection e0 with e1
        injection e1 with e1
        injection e1 with e1
        rw [e1]; exact lt_of_block hg'
    have hmb := h.map.lt
    have hbl : box < w.heap.size := World.block_lt_of_cell? w _ hbox
    have eg : ∀ args W, (callFunc 46 args).run Try.prog W = .ok (.enter 46 args) W := enters_of Try.func46 (by kernel_rfl) rfl
    have hsz : (subL T hs).toArray.size = T.length := by rw [List.size_toArray, subL_len]
    have hp : PredAt Try.prog 46 #[.pointer (some ⟨box, 0, none⟩)] encT (fun x => inS K x.1) w := fun W x hb => by
      refine (pred_any W box mb n M K ((hb.cell (p := ⟨box, 0, none⟩) hbl).trans hbox) (h.below hb) x.1 x.2).mono ?_
      rintro e W' ⟨e1, e2⟩
      exact ⟨e1, 0, e2.symm⟩
    have hpo : PredOver Try.prog 46 #[.pointer (some ⟨box, 0, none⟩)] encT (fun x => inS K x.1) g 0 (subL T hs).toArray.size w := fun m os dk x _ => by
      have hgr := grown_sortWorld w g 0 m dk os
      have hs2 : IsSet (sortWorld encT w g 0 m dk os) mb n M K := ⟨h.map.kept hgr (by intro e; injection e with e; omega), h.has, h.get⟩
      refine (pred_any _ box mb n M K (hgr.cell hbox (fun e => by injection e with e; simp at e; omega)) hs2 x.1 x.2).mono ?_
      rintro e W' ⟨e1, e2⟩
      exact ⟨e1, 0, e2.symm⟩
    have hc := Try.slices_DeleteFunc encT (fun x => rfl) (fun x => inS K x.1) _ _ eg (⟨[], Nat.zero_le _⟩ : SStr) (fun W => by kernel_rfl) g 0 cap (subL T hs).toArray w hp hpo hH (by rw [hsz]; omega) (by rw [hsz]; exact hnc)
    have ef := subL_filter T hs (fun x => !inS K x)
    have hfl : ((subL T hs).filter fun x => !inS K x.1).length = (T.filter fun x => !inS K x).length := by
      have := congrArg List.length ef
      rwa [List.length_map, svals_len] at this
    have hle : (T.filter fun x => !inS K x).length ≤ T.length := List.length_filter_le _ _
    rw [hsz, List.toList_toArray, hfl] at hc
    obtain ⟨ys, hys⟩ : ∃ ys, ((subL T hs).filter fun x => !inS K x.1) ++ List.replicate (T.length - (T.filter fun x => !inS K x).length) (⟨[], Nat.zero_le _⟩ : SStr) = ys := ⟨_, rfl⟩
    rw [hys] at hc
    refine hc.mono ?_
    rintro e w' ⟨rfl, q, rfl⟩
    have hrow' := Lib.ownsRow_putRow (q := q) (k := (T.filter fun x => !inS K x).length) (ys := ys) hr2 (by rw [← hys, List.length_append, List.length_replicate, hfl]; omega) hle
    have htk : ys.take (T.filter fun x => !inS K x).length = (subL T hs).filter fun x => !inS K x.1 := by rw [← hys]; exact List.take_left' hfl
    rw [htk, ef] at hrow'
    refine ⟨_, rfl, hrow', ?_⟩
    have hgr := grown_sortWorld w g 0 q ys.toArray #[]
    have e2 : sortWorld encT w g 0 q ys.toArray #[] = Sort.putRow encT (Sort.ahead w q) g 0 ys.toArray := by
      unfold sortWorld; exact Sort.grow_empty _
    rw [e2] at hgr
    exact (Below.refl _ _).grown hgr (by have := hw.size; omega) (fun j e => by injection e with e; rw [← e]; exact hBg)

set_option maxRecDepth 100000 in
set_option maxHeartbeats 6400000 in
theorem unreached_any (w : World) (lb ln : Nat) (N : List Str) (f : Str → List Str) (hl : Links w lb ln N f) (hN : ∀ x y, y ∈ f x → y ∈ N) (hNl : N.length ≤ 256) (hNs : ∀ z ∈ N, z.length ≤ maxLen) (hfl : ∀ x, (f x).length ≤ 70000) (a : Option Addr) (m cap : Nat) (s : List Str) (hs : IsStrs w a m cap s) (hm : m ≤ 1000) (R : List Str)
    (hR : ∀ r : Str → Bool, (∀ x, r x = true ↔ ∃ y ∈ srt (s.filter (inS N)), Rc f y x) → (srt (s.filter (inS N))).filter (fun x => !r x) = R) :
    Calls Try.prog 33 #[.map (some lb), .slice a m cap] w (RetL R w) := by
  have LK := Lib.hid hl
  have HSS := Lib.hid hs
  have HSL := Lib.hid hs.small
  have HSN := Lib.hid hs.len
  have HRR := Lib.hid hR
  have RS := Lib.hid (fun W (hb : Below w.heap.size w W) a m cap s hs hm => reach_any W lb ln N f (hl.below hb) hN hNl hNs hfl a m cap s hs hm)
  obtain ⟨M0, hmown, hmhas, -⟩ := hl
  have HM0 := Lib.hid hmown
  have HH0 := Lib.hid hmhas
  have hmm := @run_makeMap Try.prog
  clear hmown hmhas hs hR hfl
  go_enter Try.func33, Try.ntmps33
  go_wp2
  clear hmm
  have hml := HSS.out.maxLe
  unfold maxLen at hml
  go_loopw [15] (fun v wr => ∃ (k nn : Nat) (M : DataW Value), k ≤ m ∧ v = .int .i64 k ∧ nn ≤ k ∧ Hid (IsSet wr w.heap.size nn M (srt ((s.take k).filter (inS N)))) ∧ w.heap.size < wr.heap.size ∧ Below w.heap.size w wr) (fun v _ => m - (intOf v).toNat)
  case atStart => exact ⟨0, 0, .map [], Nat.zero_le _, rfl, Nat.zero_le _, IsSet.made w, by simp, (Below.refl _ _).alloc (Nat.le_refl _) _⟩
  case round =>
    obtain ⟨k, nn, M, hk, rfl, hnn, HS, hz, hb⟩ := hrel
    obtain ⟨wo, hwo⟩ : ∃ wo : World, wo = wr := ⟨_, rfl⟩
    subst hwo
    by_cases hlt : k < m
    · obtain ⟨b2, off2, rfl, hbl2, hx2⟩ := HSS.out.at_ (by omega)
      have d0 := (hb.cell (p := ⟨b2, off2 + k, none⟩) hbl2).trans (hx2 k hlt)
      have hkl : k < s.length := by rw [HSN.out]; exact hlt
      have HXL := Lib.hid (HSL.out _ (st_mem hkl))
      have HMW := Lib.hid (map_below HM0.out hb)
      have HP := Lib.hid (HH0.out (st s k))
      have HT : Hid (∀ y, y ∈ srt ((s.take (k + 1)).filter (inS N)) ↔ y ∈ srt ((s.take k).filter (inS N)) ∨ (inS N (st s k) = true ∧ y = st s k)) := fun y => by
        rw [mem_srt, mem_srt, take_st hkl, List.filter_append, List.mem_append]
        constructor
        · rintro (e | e)
          · exact .inl e
          · have := List.mem_filter.1 e
            simp at this
            exact .inr ⟨by rw [← this.1]; exact this.2, this.1⟩
        · rintro (e | ⟨e, rfl⟩)
          · exact .inl e
          · exact .inr (List.mem_filter.2 ⟨by simp, e⟩)
      obtain ⟨x, hx'⟩ : ∃ x, st s k = x := ⟨_, rfl⟩
      rw [hx'] at d0 HXL HP HT
      clear hx2 hx' hkl
      cases hp : inS N x
      · rw [hp] at HP HT
        go_wp2_with (at_lookup; refine wpList_lookup_raw_ok rfl _ _ 45 rfl 25 Try.underlying45 (zeroL _) lb ln M0 rfl HMW.out x rfl HXL.out ?_; rw [HP.out])
        go_roundw
        case rel => exact ⟨k + 1, nn, M, by omega, by go_num, by omega, HS.out.perm (fun y => by rw [HT.out]; simp), hz, hb⟩
        case measure => simp [intOf]; omega
      · rw [hp] at HP HT
        go_wp2_with (first
          | (at_lookup; refine wpList_lookup_raw_ok rfl _ _ 45 rfl 25 Try.underlying45 (zeroL _) lb ln M0 rfl HMW.out x rfl HXL.out ?_; rw [HP.out])
          | (at_mapUpdate; refine wpList_update_raw rfl _ _ _ 56 rfl 4 Try.underlying56 w.heap.size _ M rfl HS.out.map (by omega) x (.bool true) rfl rfl HXL.out ?_; intro w5 hown5 hgrow5; have S5 := Lib.hid (HS.out.put x hown5); have hz5 := hgrow5.size; have B5 := Lib.hid (hb.grown hgrow5 hb.size (fun g e => by cases e; exact Nat.le_refl _)); clear hown5 hgrow5))
        go_roundw
        case rel => exact ⟨k + 1, _, _, by omega, by go_num, by omega, S5.out.perm (fun y => by rw [HT.out, List.mem_append, List.mem_singleton]; simp), by omega, B5.out⟩
        case measure => simp [intOf]; omega
    · obtain rfl : m = k := by omega
      obtain ⟨T, hT⟩ : ∃ T, srt (s.filter (inS N)) = T := ⟨_, rfl⟩
      have hTA : Asc T := hT ▸ srt_asc _
      have HTT : Hid (srt T = T) := (asc_eq_srt hTA (fun _ => Iff.rfl)).symm
      have HTS : Hid (∀ z ∈ T, z.length ≤ maxLen) := fun z hz => by
        rw [← hT, mem_srt] at hz
        exact HSL.out z (List.mem_filter.1 hz).1
      have HTL : T.length ≤ m := by
        rw [← hT]
        have h1 := srt_len (s.filter (inS N))
        have h2 := List.length_filter_le (inS N) s
        rw [HSN.out] at h2
        omega
      rw [show s.take m = s from by rw [← HSN.out]; exact List.take_length, hT] at HS
      rw [hT] at HRR
      have HTN := Lib.hid hTA.nodup
      clear hlt hk hT hTA
      go_wp2_with (first
        | (go_at_call 39; refine (Keys_any _ _).mono ?_; rintro e w6 ⟨rfl, rfl⟩)
        | (go_at_call 38; (with_reducible refine (SortedKeys_any wo w.heap.size _ _ _ HS.out HTN.out (by omega) HTS.out).mono ?_); rintro e w7 ⟨v7, rfl, hrow7, hsm7, hb7⟩; rw [HTT.out] at hrow7; have R7 := Lib.hid hrow7; have hz7 := hb7.size; rw [World.size_alloc] at hz7; have B7 := Lib.hid ((hb.alloc hb.size _).trans (hb7.mono (by rw [World.size_alloc]; omega))); obtain ⟨ta, tc, rfl, hti⟩ := IsStrs.of_owns R7.out HTS.out; have TI := Lib.hid hti; clear hrow7 hb7 hsm7 hti)
        | (go_at_call 37; (with_reducible refine (RS.out _ B7.out _ _ _ _ TI.out (by omega)).mono ?_); rintro e w1 ⟨mb, M1, K1, rfl, hmb, hs1, hr1, hb1⟩; have S1 := Lib.hid hs1; have R1 := Lib.hid hr1; have B1 := Lib.hid hb1; have hz1 := hb1.size; clear hs1 hr1 hb1))
      have HDF : Hid (Calls Try.prog 45 #[.slice ta T.length tc, .func (.func 46) #[] #[.pointer (some ⟨w1.heap.size, 0, none⟩)]] (w1.alloc (.cells #[.map (some mb)] 56)) fun e w' => ∃ v, e = .returned v ∧ w'.ownsRow (wo.alloc (.cells #[.map (some w.heap.size)] 56)).heap.size 9 1 v (T.filter fun x => !inS K1 x).length (svals (T.filter fun x => !inS K1 x)) ∧ Below (wo.alloc (.cells #[.map (some w.heap.size)] 56)).heap.size (w1.alloc (.cells #[.map (some mb)] 56)) w') :=
        DeleteFunc_any w7 _ _ ta tc T R7.out HTS.out (by omega) (B1.out.alloc B1.out.size _) (by rw [World.size_alloc]; omega) _ mb _ M1 K1 (by omega) hmb (cell_of_one (heap_alloc_new w1 _)) (S1.out.below ((Below.refl _ _).alloc (Nat.le_refl _) _))
      go_wp2_with (go_at_call 45; (with_reducible refine HDF.out.mono ?_); rintro e w8 ⟨v8, rfl, hrow8, hb8⟩; have R8 := Lib.hid hrow8; have B8 := Lib.hid hb8; clear hrow8 hb8)
      go_ret
      have e1 := HRR.out (inS K1) (fun x => by rw [inS_iff, R1.out.end])
      have R9 := R8.out
      rw [e1] at R9
      have hz := hb.size
      exact ⟨v8, rfl, owns_base R9 (by rw [World.size_alloc]; omega), (fun z hz => HTS.out z (by rw [← e1] at hz; exact (List.mem_filter.1 hz).1)), ((B7.out.trans (B1.out.mono (by omega))).alloc (by have := B7.out.size; omega) _).trans (B8.out.mono (by rw [World.size_alloc]; omega))⟩

theorem dcl_inS (D : List Dec) (l : List Str) : srt (l.filter (inS (nms D))) = dcl D l := by
  rfl

set_option maxRecDepth 100000 in
theorem Maximal_any (w : World) (a : Option Addr) (n cap : Nat) (D : List Dec) (h : IsDecs w a n cap D) (hc : chkN D = 0) (la : Option Addr) (m lc : Nat) (s : List Str) (hs : IsStrs w la m lc s) (hm : m ≤ 1000) :
    Calls Try.prog 19 #[.slice a n cap, .slice la m lc] w (RetL (mx D s) w) := by
  obtain ⟨-, h2, h3, -, h5, h6⟩ := good_up h hc
  obtain ⟨h1, h4, h7⟩ := good_dn h hc
  have UP := Lib.hid (downward_any w a n cap D h h6 h5 h7)
  have FR := Lib.hid (fun W (hb : Below w.heap.size w W) lb ln (hl : Links W lb ln (nms D) (dn D)) => unreached_any W lb ln (nms D) (dn D) hl h1 h2 h3 h4 la m lc s (hs.below hb) hm (mx D s) (fun r hr => by
    rw [dcl_inS] at hr ⊢
    exact mx_eq (goodN hc) s r hr))
  clear h1 h2 h3 h4 h5 h6 h7 h hc hs
  go_enter Try.func19, Try.ntmps19
  go_wp2_with (first
    | (go_at_call 21; (with_reducible refine UP.out.mono ?_); rintro e w1 ⟨mb, rfl, hmb, hlk, hb1⟩; have LK := Lib.hid hlk; have HB1 := Lib.hid hb1; clear hlk hb1)
    | (go_at_call 33; (with_reducible refine (FR.out _ HB1.out _ _ LK.out).mono ?_); rintro e w2 ⟨v2, rfl, hrow, hsm, hb2⟩; have R2 := Lib.hid hrow; have HB2 := Lib.hid hb2; clear hrow hb2))
  go_ret
  exact ⟨v2, rfl, owns_base R2.out HB1.out.size, hsm, HB1.out.trans (HB2.out.mono HB1.out.size)⟩

set_option maxRecDepth 100000 in
theorem Minimal_any (w : World) (a : Option Addr) (n cap : Nat) (D : List Dec) (h : IsDecs w a n cap D) (hc : chkN D = 0) (la : Option Addr) (m lc : Nat) (s : List Str) (hs : IsStrs w la m lc s) (hm : m ≤ 1000) :
    Calls Try.prog 18 #[.slice a n cap, .slice la m lc] w (RetL (mn D s) w) := by
  obtain ⟨h1, h2, h3, h4, h5, h6⟩ := good_up h hc
  have UP := Lib.hid (upward_any w a n cap D h h6.nodup h5)
  have FR := Lib.hid (fun W (hb : Below w.heap.size w W) lb ln (hl : Links W lb ln (nms D) (up D)) => unreached_any W lb ln (nms D) (up D) hl h1 h2 h3 h4 la m lc s (hs.below hb) hm (mn D s) (fun r hr => by
    rw [dcl_inS] at hr ⊢
    exact mn_eq (goodN hc) s r hr))
  clear h1 h2 h3 h4 h5 h6 h hc hs
  go_enter Try.func18, Try.ntmps18
  go_wp2_with (first
    | (go_at_call 23; (with_reducible refine UP.out.mono ?_); rintro e w1 ⟨mb, rfl, hmb, hlk, hb1⟩; have LK := Lib.hid hlk; have HB1 := Lib.hid hb1; clear hlk hb1)
    | (go_at_call 33; (with_reducible refine (FR.out _ HB1.out _ _ LK.out).mono ?_); rintro e w2 ⟨v2, rfl, hrow, hsm, hb2⟩; have R2 := Lib.hid hrow; have HB2 := Lib.hid hb2; clear hrow hb2))
  go_ret
  exact ⟨v2, rfl, owns_base R2.out HB1.out.size, hsm, HB1.out.trans (HB2.out.mono HB1.out.size)⟩
end Go.Proofs.Ytmhbblehgckelaa
