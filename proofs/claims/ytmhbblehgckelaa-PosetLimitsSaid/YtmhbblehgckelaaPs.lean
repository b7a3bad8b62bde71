/- Walks of package poset: upward, checkSupers. -/
import Derived.Test.YtmhbblehgckelaaPr
import Derived.Test.YtmhbblehgckelaaShelf
namespace Go.Proofs.Ytmhbblehgckelaa
open Go.RowKit Go.Maps

/-- Block b is a map that leads from each of some names to a list, and from others to none. -/
def Links (w : World) (b n : Nat) (N : List Str) (f : Str → List Str) : Prop :=
  ∃ M, w.ownsMap Try.prog 9 raw b n M ∧ (∀ x, mhas M x = inS N x) ∧ ∀ x, ∃ a c, mget M x (.slice none 0 0) = .slice a (f x).length c ∧ IsStrs w a (f x).length c (f x)
theorem Links.below {w w' : World} {b n : Nat} {N : List Str} {f : Str → List Str} (h : Links w b n N f) (hb : Below w.heap.size w w') : Links w' b n N f := by
  obtain ⟨M, h1, h2, h3⟩ := h
  refine ⟨M, map_below h1 hb, h2, fun x => ?_⟩
  obtain ⟨a, c, e, hi⟩ := h3 x
  exact ⟨a, c, e, hi.below hb⟩
theorem Links.lt {w : World} {b n : Nat} {N : List Str} {f : Str → List Str} (h : Links w b n N f) : b < w.heap.size := by
  obtain ⟨M, h1, _⟩ := h; exact h1.lt
/-- The same, where the lists lie in another world. -/
def LinksIn (w0 w : World) (b n : Nat) (N : List Str) (f : Str → List Str) : Prop :=
  ∃ M, w.ownsMap Try.prog 9 raw b n M ∧ (∀ x, mhas M x = inS N x) ∧ ∀ x, ∃ a c, mget M x (.slice none 0 0) = .slice a (f x).length c ∧ IsStrs w0 a (f x).length c (f x)
theorem LinksIn.out {w0 w : World} {b n : Nat} {N : List Str} {f : Str → List Str} (h : LinksIn w0 w b n N f) (hb : Below w0.heap.size w0 w) : Links w b n N f := by
  obtain ⟨M, h1, h2, h3⟩ := h
  refine ⟨M, h1, h2, fun x => ?_⟩
  obtain ⟨a, c, e, hi⟩ := h3 x
  exact ⟨a, c, e, hi.below hb⟩
/-- The call returns such a map, which is its own. -/
def RetM (n : Nat) (N : List Str) (f : Str → List Str) (w : World) (e : Ending) (w' : World) : Prop :=
  ∃ b, e = .returned (.map (some b)) ∧ w.heap.size ≤ b ∧ Links w' b n N f ∧ Below w.heap.size w w'
theorem up_succ {D : List Dec} (hn : (nms D).Nodup) {k : Nat} (hk : k < D.length) (x : Str) : up (D.take (k + 1)) x = if x = (dc D k).name then (dc D k).sup else up (D.take k) x := by
  have hnot : (dc D k).name ∉ nms (D.take k) := by
    rw [nms_take]
    have h2 := nms_succ hk
    have : ((nms D).take (k + 1)).Nodup := hn.sublist (List.take_sublist _ _)
    rw [h2, List.nodup_append] at this
    exact fun hm => this.2.2 _ hm _ (by simp) rfl
  unfold up fnd
  rw [take_dc hk, List.find?_append]
  by_cases e : x = (dc D k).name
  · rw [if_pos e]
    have h1 : (D.take k).find? (fun d => d.name == x) = none := by
      rw [List.find?_eq_none]
      intro d hd hx
      have : d.name = x := by simpa using hx
      exact hnot (by rw [← e, ← this]; exact List.mem_map.2 ⟨d, hd, rfl⟩)
    have h2 : [dc D k].find? (fun d => d.name == x) = some (dc D k) := by simp [e]
    rw [h1, h2]; rfl
  · rw [if_neg e]
    have h2 : [dc D k].find? (fun d => d.name == x) = none := by
      rw [List.find?_eq_none]
      intro d hd hx
      simp at hd
      rw [hd] at hx
      exact e (by simpa using hx : (dc D k).name = x).symm
    rw [h2, Option.or_none]
theorem up_zero (D : List Dec) (x : Str) : up (D.take 0) x = [] := by rw [List.take_zero]; rfl

set_option maxRecDepth 100000 in
set_option maxHeartbeats 1600000 in
theorem upward_any (w : World) (a : Option Addr) (n cap : Nat) (D : List Dec) (h : IsDecs w a n cap D) (hnd : (nms D).Nodup) (hn : n ≤ 256) :
    Calls Try.prog 23 #[.slice a n cap] w (RetM n (nms D) (up D) w) := by
  have hm := h.maxLe
  have hc := h.capLe
  unfold maxLen at hm
  have HL := Lib.hid h.len
  have H := Lib.hid h
  have HND := Lib.hid hnd
  clear h hnd
  have hmm := fun x w => run_makeMapN Try.underlying45 x w
  go_enter Try.func23, Try.ntmps23
  go_wp2
  clear hmm
  go_loopw [11] (fun v wr => ∃ (k : Nat), k ≤ n ∧ v = .int .i64 k ∧ Hid (LinksIn w wr w.heap.size k ((nms D).take k) (up (D.take k))) ∧ Below w.heap.size w wr) (fun v _ => n - (intOf v).toNat)
  case atStart => exact ⟨0, Nat.zero_le _, rfl, ⟨.map [], World.ownsMap_made _ _ _ _, fun x => rfl, fun x => ⟨none, 0, by rw [up_zero]; rfl, by rw [up_zero]; exact IsStrs.nil _⟩⟩, (Below.refl _ _).alloc (Nat.le_refl _) _⟩
  case round =>
    obtain ⟨k, hk, rfl, hlk, hb⟩ := hrel
    obtain ⟨wo, hwo⟩ : ∃ wo : World, wo = wr := ⟨_, rfl⟩
    subst hwo
    by_cases hlt : k < n
    · obtain ⟨b, off, rfl, hbl, hx⟩ := H.out.at_ (by omega)
      obtain ⟨sa, sc', fa, fc, hd0⟩ := hx k hlt
      have hd := hd0.below hbl hb
      have c0 := hd.c0
      have c1 := hd.c1
      have c2 := hd.c2
      have SS := Lib.hid hd0.ss
      have HNL := Lib.hid hd.nl
      have HTK := Lib.hid (nms_succ (D := D) (k := k) (by rw [HL.out]; exact hlt))
      have HUP := Lib.hid (fun x => up_succ HND.out (k := k) (by rw [HL.out]; exact hlt) x)
      obtain ⟨M, hown, hhas, hget⟩ := hlk.out
      have HO1 := Lib.hid (fun o => hown.alloc o)
      have HHAS := Lib.hid hhas
      have HGET := Lib.hid hget
      have HIM := Lib.hid (owns_isMap hown)
      obtain ⟨x, hx'⟩ : ∃ x, (dc D k).name = x := ⟨_, rfl⟩
      rw [hx'] at c0 HNL HTK HUP
      obtain ⟨l, hl⟩ : ∃ z, (dc D k).sup = z := ⟨_, rfl⟩
      rw [hl] at c1 SS HUP
      obtain ⟨sl, hsl⟩ : ∃ z, l.length = z := ⟨_, rfl⟩
      rw [hsl] at c1 SS
      have HSL := Lib.hid hsl
      obtain ⟨nf, hnf⟩ : ∃ z, (dc D k).nf = z := ⟨_, rfl⟩
      rw [hnf] at c2
      clear hx hd hd0 hx' hl hsl hnf hown hhas hget
      go_wp2_with (at_mapUpdate; refine wpList_update_raw rfl _ _ _ 45 rfl 25 Try.underlying45 w.heap.size k M rfl (HO1.out _) (by omega) x (.slice sa sl sc') rfl rfl HNL.out ?_; intro w2 hown2 hgrow2; have HO2 := Lib.hid hown2; have HB2 := Lib.hid ((hb.alloc hb.size _).grown hgrow2 (by have := hb.size; simp; omega) (fun j e => by cases e; exact Nat.le_refl _)); have HG2 := Lib.hid hgrow2; clear hown2 hgrow2)
      go_roundw
      case rel =>
        refine ⟨k + 1, by omega, by go_num, ⟨mput M x (.slice sa sl sc'), HO2.out, fun y => by rw [mhas_put HIM.out, HHAS.out, HTK.out, inS_snoc], fun y => ?_⟩, HB2.out⟩
        rw [HUP.out y, mget_put HIM.out]
        by_cases e : y = x
        · rw [if_pos e, if_pos e]
          exact ⟨sa, sc', by rw [HSL.out], by rw [HSL.out]; exact SS.out⟩
        · rw [if_neg e, if_neg e]
          exact HGET.out y
      case measure => simp [intOf]; omega
    · obtain rfl : n = k := by omega
      rw [List.take_of_length_le (by rw [nms_len, HL.out]; exact Nat.le_refl _), List.take_of_length_le (by rw [HL.out]; exact Nat.le_refl _)] at hlk
      go_wp2
      go_ret
      exact ⟨w.heap.size, rfl, Nat.le_refl _, LinksIn.out hlk.out hb, hb⟩

theorem keepS {w : World} {a : Option Addr} {n cap : Nat} {zs : List Str} (h : IsStrs w a n cap zs) (j : Nat) (hj : j < n) : ∃ b off, a = some ⟨b, off, none⟩ ∧ b < w.heap.size ∧ w.cell? ⟨b, off + j, none⟩ = some (.string (mk (st zs j))) := by
  obtain ⟨b, off, e, hbl, hx⟩ := h.at_ (by omega)
  exact ⟨b, off, e, hbl, hx j hj⟩
/-- slices.Contains at a slice of strings. -/
theorem Contains_any (w : World) (a : Option Addr) (n cap : Nat) (zs : List Str) (s : Str) (h : IsStrs w a n cap zs) (hn : n ≤ 100000) :
    Calls Try.prog 41 #[.slice a n cap, .string (mk s)] w fun e w' => e = .returned (.bool (inS zs s)) ∧ w' = w := by
  have hl := h.len
  by_cases h0 : n = 0
  · subst h0
    have hz : zs = [] := List.eq_nil_of_length_eq_zero hl
    subst hz
    exact (Try.slices_Contains_string_empty a cap (mk s) w).mono fun e w' hh => ⟨by rw [hh.1]; rfl, hh.2⟩
  · obtain ⟨b, off, rfl, hbl, hx⟩ := h.at_ (by omega)
    refine (Try.slices_Contains_string b off n cap (zs.map mk) (mk s) w (by simp [hl]) (by omega) (fun j hj => ?_)).mono fun e w' hh => ⟨?_, hh.2⟩
    · have hj : j < n := by simpa [hl] using hj
      rw [hx j hj]
      simp [st, List.getD_eq_getElem?_getD, List.getElem?_eq_getElem (show j < zs.length by omega)]
    · rw [hh.1]
      congr 2
      rw [Bool.eq_iff_iff, Lib.containsS_iff, inS_iff, List.take_of_length_le (by simp [hl]), List.mem_map]
      constructor
      · rintro ⟨x, hx, he⟩
        rw [← mk_inj he]; exact hx
      · intro hx
        exact ⟨s, hx, rfl⟩

set_option maxRecDepth 100000 in
set_option maxHeartbeats 3200000 in
theorem checkSupers_any (w : World) (a : Option Addr) (n cap : Nat) (D : List Dec) (h : IsDecs w a n cap D) (hnd : (nms D).Nodup) (hn : n ≤ 256) (hsz : ∀ i, i < n → (dc D i).sup.length ≤ 256) :
    Calls Try.prog 26 #[.slice a n cap] w fun e w' => e = .returned (.int .i64 ((suE (nms D) D : Nat) : Int)) ∧ Below w.heap.size w w' := by
  have hm := h.maxLe
  have hc := h.capLe
  have hl := h.len
  unfold maxLen at hm
  have UP := Lib.hid (upward_any w a n cap D h hnd hn)
  have H := Lib.hid h
  have HL := Lib.hid hl
  have HSZ := Lib.hid hsz
  clear h hl hnd hsz
  go_enter Try.func26, Try.ntmps26
  go_wp2_with (go_at_call 23; (with_reducible refine UP.out.mono ?_); rintro e w1 ⟨mb, rfl, hmb, hlk, hb1⟩; have LK := Lib.hid hlk; have HB1 := Lib.hid hb1; clear hlk hb1)
  go_loopw [14] (fun v wr => ∃ k : Nat, k ≤ n ∧ v = .int .i64 k ∧ Hid (∀ i, i < k → spE (nms D) [] (dc D i).sup = 0) ∧ Below w1.heap.size w1 wr) (fun v _ => n - (intOf v).toNat)
  case atStart => exact ⟨0, Nat.zero_le _, rfl, fun i hi => absurd hi (Nat.not_lt_zero _), Below.refl _ _⟩
  case round =>
    obtain ⟨k, hk, rfl, hall, hb⟩ := hrel
    obtain ⟨wo, hwo⟩ : ∃ wo : World, wo = wr := ⟨_, rfl⟩
    subst hwo
    have hz1 := HB1.out.size
    have hzo := hb.size
    by_cases hlt : k < n
    · obtain ⟨b, off, rfl, hbl, hx⟩ := H.out.at_ (by omega)
      obtain ⟨sa, sc', fa, fc, hd0⟩ := hx k hlt
      have hd := hd0.below hbl (HB1.out.trans (hb.mono hz1))
      have c0 := hd.c0
      have c1 := hd.c1
      have c2 := hd.c2
      have hs1 := hd.ss.capLe
      have hs2 := hd.ss.maxLe
      have SS := Lib.hid hd.ss
      unfold maxLen at hs2
      have hsl0 := HSZ.out k hlt
      have SUE := Lib.hid (suE_at (N := nms D) (D := D) (k := k) hall.out (by rw [HL.out]; exact hlt))
      obtain ⟨nm, hnm⟩ : ∃ z, (dc D k).name = z := ⟨_, rfl⟩
      rw [hnm] at c0
      obtain ⟨nf, hnf⟩ : ∃ z, (dc D k).nf = z := ⟨_, rfl⟩
      rw [hnf] at c2
      obtain ⟨l, hl⟩ : ∃ l, (dc D k).sup = l := ⟨_, rfl⟩
      rw [hl] at c1 hs1 SS SUE hsl0
      have HSL := Lib.hid hl
      obtain ⟨sl, hsl⟩ : ∃ m, l.length = m := ⟨_, rfl⟩
      rw [hsl] at c1 hs1 SS hsl0
      have HLL := Lib.hid hsl
      obtain ⟨wt, hwt⟩ : ∃ wt : World, wt = wo.alloc (.cells #[.string (mk nm), .slice sa sl sc', .slice fa nf fc] 35) := ⟨_, rfl⟩
      have HBT : Hid (Below wo.heap.size wo wt) := hwt ▸ (Below.refl _ _).alloc (Nat.le_refl _) _
      have hzt : wo.heap.size + 1 = wt.heap.size := by rw [hwt]; simp
      have t1 : wt.cell? ⟨wo.heap.size, 1, none⟩ = some (.slice sa sl sc') := by rw [hwt, World.cell?_alloc_new]; rfl
      have HWT := Lib.hid hwt
      clear hx hd hd0 hnm hnf hl hsl hwt
      go_wp2
      rw [← HWT.out]
      go_loopw [21] (fun v wi => ∃ j : Nat, j ≤ sl ∧ v = .int .i64 j ∧ Hid (∀ i, i < j → st l i ∈ nms D ∧ st l i ∉ l.take i) ∧ Below wt.heap.size wt wi) (fun v _ => sl - (intOf v).toNat)
      case atStart => exact ⟨0, Nat.zero_le _, rfl, fun i hi => absurd hi (Nat.not_lt_zero _), Below.refl _ _⟩
      case round =>
        obtain ⟨j, hj, rfl, hin, hbi⟩ := hrel
        obtain ⟨wi, hwi⟩ : ∃ wi : World, wi = wr := ⟨_, rfl⟩
        subst hwi
        have hb0 : Below wo.heap.size wo wi := HBT.out.trans (hbi.mono (by omega))
        have hbw : Below w1.heap.size w1 wi := hb.trans (hb0.mono hzo)
        have HBW := Lib.hid hbw
        have HB0 := Lib.hid hb0
        clear hbw hb0
        by_cases hjl : j < sl
        · obtain ⟨b2, off2, rfl, hbl2, hx2⟩ := (SS.out.below HB0.out).at_ (by omega)
          have d0 := hx2 j hjl
          have t2 : wi.cell? ⟨wo.heap.size, 1, none⟩ = some (.slice (some ⟨b2, off2, none⟩) sl sc') := (hbi.cell (p := ⟨wo.heap.size, 1, none⟩) (by show wo.heap.size < _; omega)).trans t1
          have hin2 := hin.out
          have SPE := Lib.hid (spE_at (N := nms D) (l := l) (k := j) hin2 (by rw [HLL.out]; exact hjl))
          have CO := Lib.hid (Contains_any wi _ j sc' (l.take j) (st l j) ((SS.out.below HB0.out).take (by omega)) (by omega))
          obtain ⟨M, hown, hhas, hget⟩ := LK.out.below HBW.out
          have HO := Lib.hid hown
          have HHAS := Lib.hid (hhas (st l j))
          have HXL := Lib.hid (SS.out.small _ (st_mem (zs := l) (i := j) (by rw [HLL.out]; exact hjl)))
          obtain ⟨x, hx'⟩ : ∃ x, st l j = x := ⟨_, rfl⟩
          rw [hx'] at d0 SPE CO HHAS HXL
          have HX := Lib.hid hx'
          clear hx2 hx' hown hhas hget
          obtain ⟨p, hp⟩ : ∃ p, inS (nms D) x = p := ⟨_, rfl⟩
          rw [hp] at HHAS
          cases p
          · have hr5 : Hid (spE (nms D) [] l = 5) := SPE.out.1 (inS_not.1 hp)
            have hr : Hid (suE (nms D) D = 5) := by show _ = _; rw [SUE.out (by rw [hr5.out]; decide), hr5.out]
            clear hin hin2 hp
            go_wp2_with (at_lookup; refine wpList_lookup_raw_ok rfl _ _ 45 rfl 25 Try.underlying45 (zeroL _) mb n M rfl HO.out x rfl HXL.out ?_; rw [HHAS.out])
            go_ret
            exact ⟨by rw [hr.out]; rfl, HB1.out.trans (HBW.out.mono hz1)⟩
          · have HXN := Lib.hid (inS_iff.1 hp)
            obtain ⟨q, hq⟩ : ∃ q, inS (l.take j) x = q := ⟨_, rfl⟩
            rw [hq] at CO
            cases q
            · have hin' : Hid (∀ i, i < j + 1 → st l i ∈ nms D ∧ st l i ∉ l.take i) := fun i hi => by
                rcases Nat.lt_succ_iff_lt_or_eq.1 hi with e | e
                · exact hin2 i e
                · rw [e, HX.out]; exact ⟨HXN.out, inS_not.1 hq⟩
              clear hin hin2 hp hq
              go_wp2_with (first
                | (at_lookup; refine wpList_lookup_raw_ok rfl _ _ 45 rfl 25 Try.underlying45 (zeroL _) mb n M rfl HO.out x rfl HXL.out ?_; rw [HHAS.out])
                | (go_at_call 41; refine (CO.out).mono ?_; rintro e w' ⟨rfl, rfl⟩))
              go_roundw
              case rel => exact ⟨j + 1, by omega, by go_num, hin', hbi⟩
              case measure => simp [intOf]; omega
            · have hr4 : Hid (spE (nms D) [] l = 4) := SPE.out.2 HXN.out (inS_iff.1 hq)
              have hr : Hid (suE (nms D) D = 4) := by show _ = _; rw [SUE.out (by rw [hr4.out]; decide), hr4.out]
              clear hin hin2 hp hq
              go_wp2_with (first
                | (at_lookup; refine wpList_lookup_raw_ok rfl _ _ 45 rfl 25 Try.underlying45 (zeroL _) mb n M rfl HO.out x rfl HXL.out ?_; rw [HHAS.out])
                | (go_at_call 41; refine (CO.out).mono ?_; rintro e w' ⟨rfl, rfl⟩))
              go_ret
              exact ⟨by rw [hr.out]; rfl, HB1.out.trans (HBW.out.mono hz1)⟩
        · obtain rfl : j = sl := by omega
          have hall' : Hid (∀ i, i < k + 1 → spE (nms D) [] (dc D i).sup = 0) := fun i hi => by
            rcases Nat.lt_succ_iff_lt_or_eq.1 hi with e | e
            · exact hall.out i e
            · rw [e, HSL.out]; exact spE_end (fun i hi => hin.out i (by rw [HLL.out] at hi; exact hi))
          clear hin hall
          go_wp2
          go_roundw
          case rel => exact ⟨k + 1, by omega, by go_num, hall', HBW.out⟩
          case measure => simp [intOf]; omega
    · obtain rfl : n = k := by omega
      have hr : Hid (suE (nms D) D = 0) := suE_end (fun i hi => hall.out i (by rw [HL.out] at hi; exact hi))
      clear hall
      go_wp2
      go_ret
      exact ⟨by rw [hr.out]; rfl, HB1.out.trans (hb.mono hz1)⟩
end Go.Proofs.Ytmhbblehgckelaa
