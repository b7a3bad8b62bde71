/- Walks of the reference of package poset: Above, Below. -/
import Derived.Test.YtokbfplligdaeaaPn
namespace Go.Proofs.Ytokbfplligdaeaa
open Go.RowKit

theorem owns_one (w : World) (x : Str) : (w.alloc (.cells #[.string (mk x)] 9)).ownsRow w.heap.size 9 1 (.slice (some ⟨w.heap.size, 0, none⟩) 1 1) 1 (svals [x]) :=
  ⟨rfl, .inr ⟨w.heap.size, 1, _, rfl, Nat.le_refl _, heap_alloc_new w _, Nat.le_refl _, by unfold maxLen; omega, rfl, rfl⟩⟩
/-- The declaration that is found by a name. -/
theorem fi_up {D : List Dec} (hn : (nms D).Nodup) {y : Str} (hy : y ∈ nms D) : ∃ i, i < D.length ∧ fi D y = (i : Int) ∧ up D y = (dc D i).sup := by
  unfold fi
  cases e : D.findIdx? (fun d => d.name == y) with
  | none =>
    obtain ⟨d, hd, e2⟩ := List.mem_map.1 hy
    have := List.findIdx?_eq_none_iff.1 e d hd
    simp [e2] at this
  | some i =>
    obtain ⟨h1, h2, _⟩ := List.findIdx?_eq_some_iff_getElem.1 e
    have hg : D[i] = dc D i := by
      have := dc_get h1
      rw [List.getElem?_eq_getElem h1] at this
      exact Option.some.inj this
    rw [hg] at h2
    have h3 : (dc D i).name = y := by simpa using h2
    exact ⟨i, h1, rfl, by rw [← h3]; exact up_of hn (dc_mem h1)⟩
theorem owns_draw {w : World} {B n sz : Nat} {e : TypeId} {v : Value} {xs : List Value} {o : Obj} (h : w.ownsRow B e sz v n xs) (m : Nat) : ((w.alloc o).drewN m).ownsRow B e sz v n xs :=
  owns_below (h.alloc o) (below_drewN2 (Below.refl _ _) m)
theorem below_draw {B : Nat} {a w : World} {o : Obj} (h : Below B a w) (hz : B ≤ w.heap.size) (m : Nat) : Below B a ((w.alloc o).drewN m) := below_drewN2 (h.alloc hz o) m
theorem Bfs.small {f : Str → List Str} {N : List Str} {x : Str} {i : Nat} {t : List Str} (h : Bfs f N x i t) (hs : ∀ z ∈ N, z.length ≤ maxLen) : ∀ z ∈ t, z.length ≤ maxLen := fun z hz => hs z (h.sub z hz)
theorem Bfs.len {f : Str → List Str} {N : List Str} {x : Str} {i : Nat} {t : List Str} (h : Bfs f N x i t) : t.length ≤ N.length := nodup_len h.nodup h.sub
theorem ab_end {D : List Dec} (ok : Ok D) {x : Str} (hx : x ∈ nms D) {i : Nat} {t : List Str} (h : Bfs (up D) (nms D) x i t) (hi : t.length ≤ i) : ab D x = srt t :=
  asc_ext (ab_asc D x) (srt_asc t) fun y => by
    rw [mem_ab ok, mem_srt, h.end (List.getElem?_eq_none_iff.2 hi)]
    exact ⟨fun g => g.2, fun g => ⟨hx, g⟩⟩
theorem bl_end {D : List Dec} {x : Str} (hx : x ∈ nms D) {i : Nat} {t : List Str} (h : Bfs (dnR D) (nms D) x i t) (hi : t.length ≤ i) : bl D x = srt t :=
  asc_ext (bl_asc D x) (srt_asc t) fun y => by
    rw [mem_bl, mem_srt, h.end (List.getElem?_eq_none_iff.2 hi)]
    constructor
    · rintro ⟨_, e | e⟩
      · exact .inl e
      · exact .inr (e.congr fun _ _ => mem_dnR.2)
    · rintro (e | e)
      · exact ⟨hx, .inl e⟩
      · exact ⟨hx, .inr (e.congr fun _ _ => mem_dnR.1)⟩
theorem ab_none {D : List Dec} {x : Str} (h : x ∉ nms D) : ab D x = [] := by unfold ab; rw [if_neg h]
theorem bl_none {D : List Dec} {x : Str} (h : x ∉ nms D) : bl D x = [] := by unfold bl; rw [if_neg h]
theorem adds_take {l t : List Str} {j : Nat} (hj : j < l.length) : (l.take (j + 1)).foldl add t = add ((l.take j).foldl add t) (st l j) := by
  rw [take_st hj, List.foldl_append]; rfl
theorem add_in {t : List Str} {x : Str} (h : inS t x = true) : add t x = t := by unfold add; exact if_pos h
theorem add_out {t : List Str} {x : Str} (h : inS t x = false) : add t x = t ++ [x] := by
  unfold add
  have : ¬ t.contains x = true := by
    intro g; have g2 : inS t x = true := g; rw [h] at g2; cases g2
  rw [if_neg this]
theorem dnR_sub {D : List Dec} : ∀ x y, y ∈ dnR D x → y ∈ nms D := fun _ _ hy => dn_mem (mem_dnR.1 hy)
theorem dnR_take {D : List Dec} {x : Str} {t : List Str} {j : Nat} (hj : j < D.length) : (dnR (D.take (j + 1)) x).foldl add t = if inS (dc D j).sup x then add ((dnR (D.take j) x).foldl add t) (dc D j).name else (dnR (D.take j) x).foldl add t := by
  unfold dnR
  rw [take_dc hj, List.filter_append, List.map_append, List.foldl_append]
  by_cases h : inS (dc D j).sup x = true
  · rw [if_pos h]
    have : ([dc D j].filter fun d => d.sup.contains x) = [dc D j] := by
      have h2 : (dc D j).sup.contains x = true := h
      rw [List.filter_cons, if_pos h2]; rfl
    rw [this]; rfl
  · rw [if_neg h]
    have : ([dc D j].filter fun d => d.sup.contains x) = [] := by
      have h2 : ¬ (dc D j).sup.contains x = true := h
      rw [List.filter_cons, if_neg h2]; rfl
    rw [this]; rfl

set_option maxRecDepth 100000 in
set_option maxHeartbeats 3200000 in
theorem rAbove_any (w : World) (a : Option Addr) (n cap : Nat) (D : List Dec) (h : IsDecs w a n cap D) (ok : Ok D) (hn : n ≤ 256) (x : Str) (hxl : x.length ≤ maxLen) :
    Calls Try.prog 21 #[.slice a n cap, .string (mk x)] w (RetL (ab D x) w) := by
  have hm := h.maxLe
  have hc := h.capLe
  unfold maxLen at hm
  have HL := Lib.hid h.len
  have HS := Lib.hid (nms_small h)
  have FA := Lib.hid (find_any w a n cap D x h)
  have FN := fi_neg D x
  have hfr := fi_range D x
  rw [HL.out] at hfr
  obtain ⟨fx, hfx⟩ : ∃ z, fi D x = z := ⟨_, rfl⟩
  rw [hfx] at FA FN hfr
  have H := Lib.hid h
  have OK := Lib.hid ok
  have HXL := Lib.hid hxl
  clear h ok hxl hfx
  by_cases hf : fx < 0
  · have hr : Hid (ab D x = []) := ab_none (FN.1 hf)
    clear FN
    go_enter Try.func21, Try.ntmps21
    go_wp2_with (go_at_call 44; refine (FA.out).mono ?_; rintro e w' ⟨rfl, rfl⟩)
    go_ret
    rw [hr.out]
    exact ⟨_, rfl, World.ownsRow_nil _ _ _ _, (fun _ h => (List.not_mem_nil h).elim), Below.refl _ _⟩
  have HX : Hid (x ∈ nms D) := Classical.byContradiction fun g => hf (FN.2 g)
  clear FN
  go_enter Try.func21, Try.ntmps21
  go_wp2_with (go_at_call 44; refine (FA.out).mono ?_; rintro e w' ⟨rfl, rfl⟩)
  go_loopw [5, 6] (fun o v wr => ∃ (i tn : Nat) (t : List Str), i ≤ tn ∧ tn ≤ n ∧ v = .int .i64 i ∧ Hid (t.length = tn) ∧ Hid (Bfs (up D) (nms D) x i t) ∧ Hid (wr.ownsRow w.heap.size 9 1 o tn (svals t)) ∧ Below w.heap.size w wr) (fun _ v _ => n - (intOf v).toNat)
  case atStart =>
    have hb0 := bfs_start (f := up D) HX.out
    have := hb0.len
    rw [nms_len, HL.out] at this
    exact ⟨0, 1, [x], Nat.zero_le _, this, rfl, rfl, hb0, owns_one w x, (Below.refl _ _).alloc (Nat.le_refl _) _⟩
  case round =>
    obtain ⟨i, tn, t, hit, htn, rfl, HTL, HBF, hrow, hb⟩ := hrel
    have HTS := Lib.hid (HBF.out.small HS.out)
    obtain ⟨oa, oc, rfl, hio⟩ := IsStrs.of_owns hrow.out HTS.out
    have hocl := hio.capLe
    have hocm := hio.maxLe
    unfold maxLen at hocm
    have HIT := Lib.hid hio
    clear hio
    obtain ⟨wo, hwo⟩ : ∃ wo : World, wo = wr := ⟨_, rfl⟩
    subst hwo
    by_cases hlt0 : i < tn
    · obtain ⟨b0, off0, rfl, hbl0, hx0⟩ := HIT.out.at_ (by omega)
      have c0 := hx0 i hlt0
      have hy : st t i ∈ nms D := HBF.out.sub _ (st_mem (by rw [HTL.out]; exact hlt0))
      obtain ⟨k, hkD, hfk, huk⟩ := fi_up OK.out.nodup hy
      rw [HL.out] at hkD
      have FA2 := Lib.hid (find_any wo a n cap D (st t i) (H.out.below hb))
      obtain ⟨b, off, rfl, hbl, hx⟩ := H.out.at_ (by omega)
      obtain ⟨sa, sc', fa, fc, hd⟩ := hx k hkD
      have c1 := (hd.below hbl hb).c1
      have hs1 := hd.ss.capLe
      have hs2 := hd.ss.maxLe
      unfold maxLen at hs2
      have SS := Lib.hid hd.ss
      rw [hfk] at FA2
      have STEP := Lib.hid (HBF.out.step (fun x y hy => OK.out.up_mem hy) (st_get (by rw [HTL.out]; exact hlt0)))
      have UPS := Lib.hid (fun z (hz : z ∈ up D (st t i)) => OK.out.up_mem hz)
      obtain ⟨y, hyy⟩ : ∃ z, st t i = z := ⟨_, rfl⟩
      rw [hyy] at c0 huk FA2 STEP UPS
      rw [huk] at STEP UPS
      obtain ⟨l, hl⟩ : ∃ z, (dc D k).sup = z := ⟨_, rfl⟩
      rw [hl] at c1 hs1 SS STEP UPS
      obtain ⟨sl, hsl⟩ : ∃ z, l.length = z := ⟨_, rfl⟩
      rw [hsl] at c1 hs1 SS
      have HLL := Lib.hid hsl
      clear hx0 hy hfk huk hx hd hyy hl hsl
      go_wp2_with (go_at_call 44; refine (FA2.out).mono ?_; rintro e w' ⟨rfl, rfl⟩)
      go_loopw [5, 8] (fun o v wi => ∃ (j sn : Nat) (s : List Str), j ≤ sl ∧ v = .int .i64 j ∧ sn ≤ n ∧ Hid (s.length = sn) ∧ Hid (s = (l.take j).foldl add t) ∧ Hid (wi.ownsRow w.heap.size 9 1 o sn (svals s)) ∧ Below w.heap.size w wi) (fun _ v _ => sl - (intOf v).toNat)
      case atStart => exact ⟨0, tn, t, Nat.zero_le _, rfl, htn, HTL, rfl, hrow, hb⟩
      case round =>
        obtain ⟨j, sn, s, hj, rfl, hsn, HSL, HSE, hrow2, hb2⟩ := hrel
        obtain ⟨wi, hwi⟩ : ∃ wi : World, wi = wr := ⟨_, rfl⟩
        subst hwi
        by_cases hlt : j < sl
        · obtain ⟨b2, off2, rfl, hbl2, hx2⟩ := (SS.out.below hb2).at_ (by omega)
          have d0 := hx2 j hlt
          have hsub : ∀ z ∈ s, z ∈ nms D := fun z hz => by
            rw [HSE.out] at hz
            rcases (adds.1 z).1 hz with e | e
            · exact HBF.out.sub z e
            · exact UPS.out z (List.mem_of_mem_take e)
          have hsnd : s.Nodup := by rw [HSE.out]; exact adds.2.1 HBF.out.nodup
          have hsm : ∀ z ∈ s, z.length ≤ maxLen := fun z hz => HS.out z (hsub z hz)
          obtain ⟨oa2, oc2, rfl, hi2⟩ := IsStrs.of_owns hrow2.out hsm
          have AM := Lib.hid (Among_any wi oa2 sn oc2 s (st l j) hi2)
          have hin := UPS.out _ (st_mem (zs := l) (i := j) (by rw [HLL.out]; exact hlt))
          have hat := adds_take (l := l) (t := t) (j := j) (by rw [HLL.out]; exact hlt)
          rw [← HSE.out] at hat
          obtain ⟨z, hzz⟩ : ∃ z, st l j = z := ⟨_, rfl⟩
          rw [hzz] at d0 AM hin hat
          have HIN := Lib.hid hin
          have hi2c := hi2.capLe
          have hi2m := hi2.maxLe
          unfold maxLen at hi2m
          obtain ⟨q, hq⟩ : ∃ q, inS s z = q := ⟨_, rfl⟩
          rw [hq] at AM
          have HSUB := Lib.hid hsub
          have HSND := Lib.hid hsnd
          clear hx2 hzz hin hi2 hsub hsnd hsm
          cases q
          · have hadd := add_out hq
            rw [hadd] at hat
            have hlen : sn + 1 ≤ n := by
              have := nodup_len (a := s ++ [z]) (b := nms D) (by rw [← hadd]; exact add_nodup HSND.out) (fun u hu => by
                rcases List.mem_append.1 hu with e | e
                · exact HSUB.out u e
                · simp at e; rw [e]; exact HIN.out)
              rw [List.length_append, nms_len, HL.out, HSL.out] at this
              exact this
            have HAT : Hid (s ++ [z] = (l.take (j + 1)).foldl add t) := hat.symm
            have hzl := Lib.hid (HS.out z HIN.out)
            clear hq hadd hat
            go_wp2_with (first
              | (go_at_call 28; refine (AM.out).mono ?_; rintro e w' ⟨rfl, rfl⟩)
              | (at_builtin; refine wpList_append_strs rfl _ _ rfl w.heap.size _ sn s rfl (hrow2.out.alloc _) _ 1 1 [z] rfl (IsStrs.one wi z hzl.out) (by omega) (by have := hb2.size; simp; omega) ?_; intro v3 w3 hown3 hgrow3; have R3 := Lib.hid hown3; have B3 := Lib.hid (grown_below (hb2.alloc hb2.size _) (by have := hb2.size; simp; omega) (hrow2.out.alloc _) hgrow3); clear hown3 hgrow3))
            go_roundw
            case rel => exact ⟨j + 1, sn + 1, s ++ [z], by omega, by go_num, hlen, by show _ = _; rw [List.length_append, HSL.out]; rfl, HAT, R3.out, B3.out⟩
            case measure => simp [intOf]; omega
          · rw [add_in hq] at hat
            have HAT : Hid (s = (l.take (j + 1)).foldl add t) := hat.symm
            clear hq hat
            go_wp2_with (go_at_call 28; refine (AM.out).mono ?_; rintro e w' ⟨rfl, rfl⟩)
            go_roundw
            case rel => exact ⟨j + 1, sn, s, by omega, by go_num, hsn, HSL, HAT, hrow2.out, hb2⟩
            case measure => simp [intOf]; omega
        · obtain rfl : j = sl := by omega
          have hall : l.take j = l := List.take_of_length_le (by rw [HLL.out]; exact Nat.le_refl _)
          rw [hall] at HSE
          have HNB : Hid (Bfs (up D) (nms D) x (i + 1) s) := by show Bfs _ _ _ _ _; rw [HSE.out]; exact STEP.out
          have hle := HNB.out.le
          rw [HSL.out] at hle
          clear hall hlt hj
          go_wp2
          go_roundw
          case rel => exact ⟨i + 1, sn, s, hle, hsn, by go_num, HSL, HNB, hrow2.out, hb2⟩
          case measure => simp [intOf]; omega
    · obtain rfl : tn = i := by omega
      have HEND := Lib.hid (ab_end OK.out HX.out HBF.out (by rw [HTL.out]; exact Nat.le_refl _))
      clear hlt0 hit
      go_wp2
      go_loopw [9, 10] (fun o v w3 => ∃ k : Nat, k ≤ tn ∧ v = .int .i64 k ∧ Hid (w3.ownsRow w.heap.size 9 1 o (srt (t.take k)).length (svals (srt (t.take k)))) ∧ Below wo.heap.size wo w3) (fun _ v _ => tn - (intOf v).toNat)
      case atStart => exact ⟨0, Nat.zero_le _, rfl, World.ownsRow_nil _ _ _ _, Below.refl _ _⟩
      case round =>
        obtain ⟨k, hk, rfl, hrow3, hb3⟩ := hrel
        have hbw := hb.trans (hb3.mono hb.size)
        by_cases hlt : k < tn
        · obtain ⟨b, off, rfl, hbl, hx⟩ := (HIT.out.below hb3).at_ (by omega)
          have c0 := hx k hlt
          have hle := srt_len (t.take k)
          rw [List.length_take] at hle
          have hts := take_st (zs := t) (i := k) (by rw [HTL.out]; exact hlt)
          have PU := Lib.hid (Put_any wr w.heap.size _ _ _ (st t k) hrow3.out (small_srt (fun z hz => HTS.out z (List.mem_of_mem_take hz))) (HTS.out _ (st_mem (by rw [HTL.out]; exact hlt))) (by omega) hbw.size)
          rw [← srt_snoc, ← hts] at PU
          obtain ⟨z, hz⟩ : ∃ z, st t k = z := ⟨_, rfl⟩
          rw [hz] at c0 PU
          clear hx hz hts hle hrow3
          go_wp2_with (go_at_call 41; (with_reducible refine PU.out.mono ?_); rintro e w4 ⟨v4, rfl, hrow4, hb4⟩; have R4 := Lib.hid hrow4; clear hrow4)
          go_roundw
          case rel => exact ⟨k + 1, by omega, by go_num, R4.out, hb3.trans (hb4.mono hb3.size)⟩
          case measure => simp [intOf]; omega
        · obtain rfl : tn = k := by omega
          have hall : t.take tn = t := List.take_of_length_le (by rw [HTL.out]; exact Nat.le_refl _)
          rw [hall] at hrow3
          clear hall hlt hk
          go_wp2
          go_ret
          rw [HEND.out]
          exact ⟨_, rfl, hrow3.out, small_srt HTS.out, hbw⟩

set_option maxRecDepth 100000 in
set_option maxHeartbeats 3200000 in
theorem rBelow_any (w : World) (a : Option Addr) (n cap : Nat) (D : List Dec) (h : IsDecs w a n cap D) (hn : n ≤ 256) (x : Str) (hxl : x.length ≤ maxLen) :
    Calls Try.prog 23 #[.slice a n cap, .string (mk x)] w (RetL (bl D x) w) := by
  have hm := h.maxLe
  have hc := h.capLe
  unfold maxLen at hm
  have HL := Lib.hid h.len
  have HS := Lib.hid (nms_small h)
  have FA := Lib.hid (find_any w a n cap D x h)
  have FN := fi_neg D x
  have hfr := fi_range D x
  rw [HL.out] at hfr
  obtain ⟨fx, hfx⟩ : ∃ z, fi D x = z := ⟨_, rfl⟩
  rw [hfx] at FA FN hfr
  have H := Lib.hid h
  have HXL := Lib.hid hxl
  clear h hxl hfx
  by_cases hf : fx < 0
  · have hr : Hid (bl D x = []) := bl_none (FN.1 hf)
    clear FN
    go_enter Try.func23, Try.ntmps23
    go_wp2_with (go_at_call 44; refine (FA.out).mono ?_; rintro e w' ⟨rfl, rfl⟩)
    go_ret
    rw [hr.out]
    exact ⟨_, rfl, World.ownsRow_nil _ _ _ _, (fun _ h => (List.not_mem_nil h).elim), Below.refl _ _⟩
  have HX : Hid (x ∈ nms D) := Classical.byContradiction fun g => hf (FN.2 g)
  clear FN
  go_enter Try.func23, Try.ntmps23
  go_wp2_with (go_at_call 44; refine (FA.out).mono ?_; rintro e w' ⟨rfl, rfl⟩)
  go_loopw [5, 6] (fun o v wr => ∃ (i tn : Nat) (t : List Str), i ≤ tn ∧ tn ≤ n ∧ v = .int .i64 i ∧ Hid (t.length = tn) ∧ Hid (Bfs (dnR D) (nms D) x i t) ∧ Hid (wr.ownsRow w.heap.size 9 1 o tn (svals t)) ∧ Below w.heap.size w wr) (fun _ v _ => n - (intOf v).toNat)
  case atStart =>
    have hb0 := bfs_start (f := dnR D) HX.out
    have := hb0.len
    rw [nms_len, HL.out] at this
    exact ⟨0, 1, [x], Nat.zero_le _, this, rfl, rfl, hb0, owns_one w x, (Below.refl _ _).alloc (Nat.le_refl _) _⟩
  case round =>
    obtain ⟨i, tn, t, hit, htn, rfl, HTL, HBF, hrow, hb⟩ := hrel
    have HTS := Lib.hid (HBF.out.small HS.out)
    obtain ⟨oa, oc, rfl, hio⟩ := IsStrs.of_owns hrow.out HTS.out
    have hocl := hio.capLe
    have hocm := hio.maxLe
    unfold maxLen at hocm
    have HIT := Lib.hid hio
    clear hio
    obtain ⟨wo, hwo⟩ : ∃ wo : World, wo = wr := ⟨_, rfl⟩
    subst hwo
    by_cases hlt0 : i < tn
    · have hgy := st_get (zs := t) (i := i) (by rw [HTL.out]; exact hlt0)
      have STEP := Lib.hid (HBF.out.step dnR_sub hgy)
      obtain ⟨y, hyy⟩ : ∃ z, st t i = z := ⟨_, rfl⟩
      rw [hyy] at STEP hgy
      have HGY := Lib.hid hgy
      clear hgy hyy
      go_wp2
      go_loopw [5, 7] (fun o v wi => ∃ (j sn : Nat) (s : List Str), j ≤ n ∧ v = .int .i64 j ∧ sn ≤ n ∧ i < sn ∧ Hid (s.length = sn) ∧ Hid (s = (dnR (D.take j) y).foldl add t) ∧ Hid (wi.ownsRow w.heap.size 9 1 o sn (svals s)) ∧ Below w.heap.size w wi) (fun _ v _ => n - (intOf v).toNat)
      case atStart => exact ⟨0, tn, t, Nat.zero_le _, rfl, htn, hlt0, HTL, rfl, hrow, hb⟩
      case round =>
        obtain ⟨j, sn, s, hj, rfl, hsn, hisn, HSL, HSE, hrow2, hb2⟩ := hrel
        obtain ⟨wi, hwi⟩ : ∃ wi : World, wi = wr := ⟨_, rfl⟩
        subst hwi
        by_cases hlt : j < n
        · obtain ⟨b, off, rfl, hbl, hx⟩ := H.out.at_ (by omega)
          obtain ⟨sa, sc', fa, fc, hd⟩ := hx j hlt
          have hd2 := hd.below hbl hb2
          have c0 := hd2.c0
          have c1 := hd2.c1
          have hs1 := hd2.ss.capLe
          have hs2 := hd2.ss.maxLe
          unfold maxLen at hs2
          have hsub : ∀ z ∈ s, z ∈ nms D := fun z hz => by
            rw [HSE.out] at hz
            rcases (adds.1 z).1 hz with e | e
            · exact HBF.out.sub z e
            · obtain ⟨d, hd, e2⟩ := List.mem_map.1 e
              exact List.mem_map.2 ⟨d, List.mem_of_mem_take (List.mem_filter.1 hd).1, e2⟩
          have hsnd : s.Nodup := by rw [HSE.out]; exact adds.2.1 HBF.out.nodup
          have hsm : ∀ z ∈ s, z.length ≤ maxLen := fun z hz => HS.out z (hsub z hz)
          obtain ⟨oa2, oc2, rfl, hi2⟩ := IsStrs.of_owns hrow2.out hsm
          obtain ⟨b3, off3, rfl, hbl3, hx3⟩ := hi2.at_ (by omega)
          have hsy : s[i]? = some y := by
            have hpre := (adds (l := dnR (D.take j) y) (t := t)).2.2
            rw [← HSE.out] at hpre
            obtain ⟨u, hu⟩ := hpre
            rw [← hu, List.getElem?_append_left (by rw [HTL.out]; exact hlt0)]
            exact HGY.out
          have hsty : st s i = y := by
            have := st_get (zs := s) (i := i) (by rw [HSL.out]; exact hisn)
            rw [hsy] at this
            exact (Option.some.inj this).symm
          have d0 := hx3 i hisn
          rw [hsty] at d0
          have AM1 := Lib.hid (show ∀ m, Calls Try.prog 28 #[.slice sa (dc D j).sup.length sc', .string (mk y)] (wi.drewN m) fun e w' => e = .returned (.bool (inS (dc D j).sup y)) ∧ w' = wi.drewN m from fun m =>
            (Among_any (wi.drewN m) _ _ sc' _ y (hd2.ss.below (below_drewN2 (Below.refl _ _) m))).mono fun _ _ h => ⟨h.1, h.2.symm⟩)
          have AM2 := Lib.hid (show ∀ m, Calls Try.prog 28 #[.slice (some ⟨b3, off3, none⟩) sn oc2, .string (mk (dc D j).name)] (wi.drewN m) fun e w' => e = .returned (.bool (inS s (dc D j).name)) ∧ w' = wi.drewN m from fun m =>
            (Among_any (wi.drewN m) _ _ oc2 s _ (hi2.below (below_drewN2 (Below.refl _ _) m))).mono fun _ _ h => ⟨h.1, h.2.symm⟩)
          have hin : (dc D j).name ∈ nms D := List.mem_map.2 ⟨_, dc_mem (by rw [HL.out]; exact hlt), rfl⟩
          have hat := dnR_take (D := D) (x := y) (t := t) (j := j) (by rw [HL.out]; exact hlt)
          rw [← HSE.out] at hat
          obtain ⟨z, hzz⟩ : ∃ z, (dc D j).name = z := ⟨_, rfl⟩
          obtain ⟨l, hll⟩ : ∃ z, (dc D j).sup = z := ⟨_, rfl⟩
          rw [hzz] at c0 AM2 hin hat
          rw [hll] at c1 AM1 hat hs1
          obtain ⟨sl, hsl⟩ : ∃ z, l.length = z := ⟨_, rfl⟩
          rw [hsl] at c1 AM1 hs1
          have HIN := Lib.hid hin
          have hi2c := hi2.capLe
          have hi2m := hi2.maxLe
          unfold maxLen at hi2m
          obtain ⟨p, hp⟩ : ∃ q, inS l y = q := ⟨_, rfl⟩
          obtain ⟨q, hq⟩ : ∃ q, inS s z = q := ⟨_, rfl⟩
          rw [hp] at AM1 hat
          rw [hq] at AM2
          have HSUB := Lib.hid hsub
          have HSND := Lib.hid hsnd
          clear hx hd hd2 hx3 hzz hll hsl hin hi2 hsub hsnd hsm hsy hsty hp
          cases p
          · have HAT : Hid (s = (dnR (D.take (j + 1)) y).foldl add t) := by show _ = _; rw [hat]; rfl
            clear hq hat
            go_wp2
            go_quiet ((go_at_call 28; exact Calls.quiet_of_same (AM1.out _)))
            go_wp2
            go_roundw
            case rel => exact ⟨j + 1, sn, s, by omega, by go_num, hsn, hisn, HSL, HAT, hrow2.out, below_drewN2 hb2 _⟩
            case measure => simp [intOf]; omega
          · cases q
            · have hadd := add_out hq
              have HAT : Hid (s ++ [z] = (dnR (D.take (j + 1)) y).foldl add t) := by show _ = _; rw [hat, ← hadd]; rfl
              have hlen : sn + 1 ≤ n := by
                have := nodup_len (a := s ++ [z]) (b := nms D) (by rw [← hadd]; exact add_nodup HSND.out) (fun u hu => by
                  rcases List.mem_append.1 hu with e | e
                  · exact HSUB.out u e
                  · simp at e; rw [e]; exact HIN.out)
                rw [List.length_append, nms_len, HL.out, HSL.out] at this
                exact this
              have hzl := Lib.hid (HS.out z HIN.out)
              clear hq hadd hat
              go_wp2
              go_quiet ((first | (go_at_call 28; with_reducible exact Calls.quiet_of_same (AM1.out _)) | (go_at_call 28; with_reducible exact Calls.quiet_of_same (AM2.out _))))
              go_wp2_with (at_builtin; refine wpList_append_strs rfl _ _ rfl w.heap.size _ sn s rfl (owns_draw hrow2.out _) _ 1 1 [z] rfl (IsStrs.one _ z hzl.out) (by omega) (by have := hb2.size; simp; omega) ?_; intro v3 w3 hown3 hgrow3; have R3 := Lib.hid hown3; have B3 := Lib.hid (grown_below (below_draw hb2 hb2.size _) (by have := hb2.size; simp; omega) (owns_draw hrow2.out _) hgrow3); clear hown3 hgrow3)
              go_roundw
              case rel => exact ⟨j + 1, sn + 1, s ++ [z], by omega, by go_num, hlen, by omega, by show _ = _; rw [List.length_append, HSL.out]; rfl, HAT, R3.out, B3.out⟩
              case measure => simp [intOf]; omega
            · have HAT : Hid (s = (dnR (D.take (j + 1)) y).foldl add t) := by show _ = _; rw [hat]; exact (add_in hq).symm
              clear hq hat
              go_wp2
              go_quiet ((first | (go_at_call 28; with_reducible exact Calls.quiet_of_same (AM1.out _)) | (go_at_call 28; with_reducible exact Calls.quiet_of_same (AM2.out _))))
              go_wp2
              go_roundw
              case rel => exact ⟨j + 1, sn, s, by omega, by go_num, hsn, hisn, HSL, HAT, hrow2.out, below_drewN2 hb2 _⟩
              case measure => simp [intOf]; omega
        · obtain rfl : n = j := by omega
          have hall : D.take n = D := List.take_of_length_le (by rw [HL.out]; exact Nat.le_refl _)
          rw [hall] at HSE
          have HNB : Hid (Bfs (dnR D) (nms D) x (i + 1) s) := by show Bfs _ _ _ _ _; rw [HSE.out]; exact STEP.out
          have hle := HNB.out.le
          rw [HSL.out] at hle
          clear hall hlt hj
          go_wp2
          go_roundw
          case rel => exact ⟨i + 1, sn, s, hle, hsn, by go_num, HSL, HNB, hrow2.out, hb2⟩
          case measure => simp [intOf]; omega
    · obtain rfl : tn = i := by omega
      have HEND := Lib.hid (bl_end HX.out HBF.out (by rw [HTL.out]; exact Nat.le_refl _))
      clear hlt0 hit
      go_wp2
      go_loopw [8, 9] (fun o v w3 => ∃ k : Nat, k ≤ tn ∧ v = .int .i64 k ∧ Hid (w3.ownsRow w.heap.size 9 1 o (srt (t.take k)).length (svals (srt (t.take k)))) ∧ Below wo.heap.size wo w3) (fun _ v _ => tn - (intOf v).toNat)
      case atStart => exact ⟨0, Nat.zero_le _, rfl, World.ownsRow_nil _ _ _ _, Below.refl _ _⟩
      case round =>
        obtain ⟨k, hk, rfl, hrow3, hb3⟩ := hrel
        have hbw := hb.trans (hb3.mono hb.size)
        by_cases hlt : k < tn
        · obtain ⟨b, off, rfl, hbl, hx⟩ := (HIT.out.below hb3).at_ (by omega)
          have c0 := hx k hlt
          have hle := srt_len (t.take k)
          rw [List.length_take] at hle
          have hts := take_st (zs := t) (i := k) (by rw [HTL.out]; exact hlt)
          have PU := Lib.hid (Put_any wr w.heap.size _ _ _ (st t k) hrow3.out (small_srt (fun z hz => HTS.out z (List.mem_of_mem_take hz))) (HTS.out _ (st_mem (by rw [HTL.out]; exact hlt))) (by omega) hbw.size)
          rw [← srt_snoc, ← hts] at PU
          obtain ⟨z, hz⟩ : ∃ z, st t k = z := ⟨_, rfl⟩
          rw [hz] at c0 PU
          clear hx hz hts hle hrow3
          go_wp2_with (go_at_call 41; (with_reducible refine PU.out.mono ?_); rintro e w4 ⟨v4, rfl, hrow4, hb4⟩; have R4 := Lib.hid hrow4; clear hrow4)
          go_roundw
          case rel => exact ⟨k + 1, by omega, by go_num, R4.out, hb3.trans (hb4.mono hb3.size)⟩
          case measure => simp [intOf]; omega
        · obtain rfl : tn = k := by omega
          have hall : t.take tn = t := List.take_of_length_le (by rw [HTL.out]; exact Nat.le_refl _)
          rw [hall] at hrow3
          clear hall hlt hk
          go_wp2
          go_ret
          rw [HEND.out]
          exact ⟨_, rfl, hrow3.out, small_srt HTS.out, hbw⟩
end Go.Proofs.Ytokbfplligdaeaa
