/- Walks of the reference of package poset: supers. -/
import Derived.Test.YtmhbblehgckelaaPg
namespace Go.Proofs.Ytmhbblehgckelaa
open Go.RowKit

theorem fi_neg (D : List Dec) (s : Str) : (fi D s < 0) ↔ s ∉ nms D := by
  unfold fi
  cases e : D.findIdx? (fun d => d.name == s) with
  | none =>
    have h := List.findIdx?_eq_none_iff.1 e
    constructor
    · intro _ hm
      obtain ⟨d, hd, e2⟩ := List.mem_map.1 hm
      have := h d hd
      simp [e2] at this
    · intro _; show (-1 : Int) < 0; decide
  | some i =>
    obtain ⟨h1, h2, h3⟩ := List.findIdx?_eq_some_iff_getElem.1 e
    constructor
    · intro h; exact absurd h (by show ¬ ((i : Int) < 0); omega)
    · intro h
      refine absurd (List.mem_map.2 ⟨D[i], List.getElem_mem _, ?_⟩) h
      simpa using h2
theorem st_drop {zs : List Str} {i : Nat} (h : i < zs.length) : zs.drop i = st zs i :: zs.drop (i + 1) := by
  rw [List.drop_eq_getElem_cons h]
  have := st_get h
  rw [List.getElem?_eq_getElem h] at this
  rw [Option.some.inj this]
theorem dc_drop {D : List Dec} {i : Nat} (h : i < D.length) : D.drop i = dc D i :: D.drop (i + 1) := by
  rw [List.drop_eq_getElem_cons h]
  have := dc_get h
  rw [List.getElem?_eq_getElem h] at this
  rw [Option.some.inj this]
theorem spE_drop {N l : List Str} {k : Nat} (h : ∀ i, i < k → st l i ∈ N ∧ st l i ∉ l.take i) (hk : k ≤ l.length) : spE N [] l = spE N (l.take k) (l.drop k) := by
  induction k with
  | zero => simp
  | succ k ih =>
    rw [ih (fun i hi => h i (by omega)) (by omega)]
    have hk2 : k < l.length := by omega
    obtain ⟨h1, h2⟩ := h k (by omega)
    rw [st_drop hk2, take_st hk2]
    show (if N.contains (st l k) then (if (l.take k).contains (st l k) then 4 else spE N (l.take k ++ [st l k]) (l.drop (k + 1))) else 5) = _
    rw [if_pos (by simpa using h1), if_neg (by simpa using h2)]
theorem spE_at {N l : List Str} {k : Nat} (h : ∀ i, i < k → st l i ∈ N ∧ st l i ∉ l.take i) (hk : k < l.length) :
    (st l k ∉ N → spE N [] l = 5) ∧ (st l k ∈ N → st l k ∈ l.take k → spE N [] l = 4) := by
  rw [spE_drop h (by omega), st_drop hk]
  constructor
  · intro e
    show (if N.contains (st l k) then _ else 5) = 5
    rw [if_neg (by simpa using e)]
  · intro e e2
    show (if N.contains (st l k) then (if (l.take k).contains (st l k) then 4 else _) else 5) = 4
    rw [if_pos (by simpa using e), if_pos (by simpa using e2)]
theorem spE_end {N l : List Str} (h : ∀ i, i < l.length → st l i ∈ N ∧ st l i ∉ l.take i) : spE N [] l = 0 := by
  rw [spE_drop h (Nat.le_refl _), List.drop_length]; rfl
theorem suE_drop {N : List Str} {D : List Dec} {k : Nat} (h : ∀ i, i < k → spE N [] (dc D i).sup = 0) (hk : k ≤ D.length) : suE N D = suE N (D.drop k) := by
  induction k with
  | zero => simp
  | succ k ih =>
    rw [ih (fun i hi => h i (by omega)) (by omega), dc_drop (by omega)]
    show (if spE N [] (dc D k).sup = 0 then suE N (D.drop (k + 1)) else _) = _
    rw [if_pos (h k (by omega))]
theorem suE_at {N : List Str} {D : List Dec} {k : Nat} (h : ∀ i, i < k → spE N [] (dc D i).sup = 0) (hk : k < D.length) (hne : ¬ spE N [] (dc D k).sup = 0) : suE N D = spE N [] (dc D k).sup := by
  rw [suE_drop h (by omega), dc_drop hk]
  show (if spE N [] (dc D k).sup = 0 then _ else spE N [] (dc D k).sup) = _
  rw [if_neg hne]
theorem suE_end {N : List Str} {D : List Dec} (h : ∀ i, i < D.length → spE N [] (dc D i).sup = 0) : suE N D = 0 := by
  rw [suE_drop h (Nat.le_refl _), List.drop_length]; rfl
theorem st_take {zs : List Str} {k i : Nat} (h : i < k) : st (zs.take k) i = st zs i := by
  unfold st; rw [List.getD_eq_getElem?_getD, List.getElem?_take_of_lt h, List.getD_eq_getElem?_getD]
/-- A beginning of a slice reads as a beginning of its list. -/
theorem IsStrs.take {w : World} {a : Option Addr} {n cap : Nat} {zs : List Str} (h : IsStrs w a n cap zs) {k : Nat} (hk : k ≤ n) : IsStrs w a k cap (zs.take k) := by
  have hl := h.len
  refine ⟨by rw [List.length_take]; omega, Nat.le_trans hk h.capLe, h.maxLe, fun z hz => h.small z (List.mem_of_mem_take hz), h.nil_, fun h0 => ?_⟩
  obtain ⟨b, off, e, hbl, hx⟩ := h.at_ (by omega)
  exact ⟨b, off, e, hbl, fun i hi => by rw [st_take hi]; exact hx i (by omega)⟩

set_option maxRecDepth 100000 in
set_option maxHeartbeats 1600000 in
theorem rsupers_any (w : World) (a : Option Addr) (n cap : Nat) (D : List Dec) (h : IsDecs w a n cap D) :
    Calls Try.prog 31 #[.slice a n cap] w fun e w' => e = .returned (.int .i64 ((suE (nms D) D : Nat) : Int)) ∧ Below w.heap.size w w' := by
  have hm := h.maxLe
  have hc := h.capLe
  have hl := h.len
  unfold maxLen at hm
  have H := Lib.hid h
  have HL := Lib.hid hl
  clear h hl
  go_enter Try.func31, Try.ntmps31
  go_wp2
  go_loopw [3] (fun v wr => ∃ k : Nat, k ≤ n ∧ v = .int .i64 k ∧ Hid (∀ i, i < k → spE (nms D) [] (dc D i).sup = 0) ∧ Below w.heap.size w wr) (fun v _ => n - (intOf v).toNat)
  case atStart => exact ⟨0, Nat.zero_le _, rfl, fun i hi => absurd hi (Nat.not_lt_zero _), Below.refl _ _⟩
  case round =>
    obtain ⟨k, hk, rfl, hall, hb⟩ := hrel
    obtain ⟨wo, hwo⟩ : ∃ wo : World, wo = wr := ⟨_, rfl⟩
    subst hwo
    by_cases hlt : k < n
    · have H2 := Lib.hid (H.out.below hb)
      obtain ⟨b, off, rfl, hbl, hx⟩ := H2.out.at_ (by omega)
      obtain ⟨sa, sc, fa, fc, hd⟩ := hx k hlt
      have c1 := hd.c1
      have hs1 := hd.ss.capLe
      have hs2 := hd.ss.maxLe
      have SS := Lib.hid hd.ss
      unfold maxLen at hs2
      have SUE := Lib.hid (suE_at (N := nms D) (D := D) (k := k) hall.out (by rw [HL.out]; exact hlt))
      obtain ⟨l, hl⟩ : ∃ l, (dc D k).sup = l := ⟨_, rfl⟩
      rw [hl] at c1 hs1 SS SUE
      have HSL := Lib.hid hl
      obtain ⟨sl, hsl⟩ : ∃ m, l.length = m := ⟨_, rfl⟩
      rw [hsl] at c1 hs1 SS
      have HLL := Lib.hid hsl
      clear hd hx hl hsl
      go_wp2
      go_loopw [5] (fun v wi => ∃ j : Nat, j ≤ sl ∧ v = .int .i64 j ∧ Hid (∀ i, i < j → st l i ∈ nms D ∧ st l i ∉ l.take i) ∧ Below wo.heap.size wo wi) (fun v _ => sl - (intOf v).toNat)
      case atStart => exact ⟨0, Nat.zero_le _, rfl, fun i hi => absurd hi (Nat.not_lt_zero _), Below.refl _ _⟩
      case round =>
        obtain ⟨j, hj, rfl, hin, hbi⟩ := hrel
        obtain ⟨wi, hwi⟩ : ∃ wi : World, wi = wr := ⟨_, rfl⟩
        subst hwi
        have hbw := hb.trans (hbi.mono hb.size)
        by_cases hjl : j < sl
        · have SI := Lib.hid (SS.out.below hbi)
          obtain ⟨b2, off2, rfl, hbl2, hx2⟩ := SI.out.at_ (by omega)
          have d0 := hx2 j hjl
          have hin2 := hin.out
          have SPE := Lib.hid (spE_at (N := nms D) (l := l) (k := j) hin2 (by rw [HLL.out]; exact hjl))
          have FNEG := Lib.hid (fi_neg D (st l j))
          have hfr := fi_range D (st l j)
          rw [HL.out] at hfr
          have FA := Lib.hid (find_any wi _ n cap D (st l j) (H.out.below hbw))
          have AM := Lib.hid (show ∀ m, Calls Try.prog 11 #[.slice (some ⟨b2, off2, none⟩) j sc, .string (mk (st l j))] (wi.drewN m) fun e w' => e = .returned (.bool (inS (l.take j) (st l j))) ∧ w' = wi.drewN m from fun m =>
            (Among_any (wi.drewN m) _ j sc (l.take j) (st l j) ((SI.out.below (below_drewN2 (Below.refl _ _) m)).take (by omega))).mono fun _ _ h => ⟨h.1, h.2.symm⟩)
          obtain ⟨x, hx'⟩ : ∃ x, st l j = x := ⟨_, rfl⟩
          rw [hx'] at d0 SPE FNEG hfr FA AM
          obtain ⟨fv, hfv⟩ : ∃ v, fi D x = v := ⟨_, rfl⟩
          rw [hfv] at FNEG hfr FA
          have HX := Lib.hid hx'
          clear hx2 hx' hfv
          by_cases hf : fv < 0
          · have hr5 : Hid (spE (nms D) [] l = 5) := SPE.out.1 (FNEG.out.1 hf)
            have hr : Hid (suE (nms D) D = 5) := by show _ = _; rw [SUE.out (by rw [hr5.out]; decide), hr5.out]
            clear hin hin2
            go_wp2_with (go_at_call 43; refine (FA.out).mono ?_; rintro e w' ⟨rfl, rfl⟩)
            go_ret
            exact ⟨by rw [hr.out]; rfl, hbw⟩
          · have hxn : Hid (x ∈ nms D) := Classical.byContradiction fun g => hf (FNEG.out.2 g)
            obtain ⟨ab, hab⟩ : ∃ q, inS (l.take j) x = q := ⟨_, rfl⟩
            rw [hab] at AM
            cases ab
            · have hin' : Hid (∀ i, i < j + 1 → st l i ∈ nms D ∧ st l i ∉ l.take i) := fun i hi => by
                rcases Nat.lt_succ_iff_lt_or_eq.1 hi with e | e
                · exact hin2 i e
                · rw [e, HX.out]; exact ⟨hxn.out, inS_not.1 hab⟩
              clear hin hin2 hab
              go_wp2_with (go_at_call 43; refine (FA.out).mono ?_; rintro e w' ⟨rfl, rfl⟩)
              go_quiet ((go_at_call 11; exact Calls.quiet_of_same (AM.out _)))
              go_wp2
              go_roundw
              case rel => exact ⟨j + 1, by omega, by go_num, hin', by first | exact hbi | exact below_drewN2 hbi _⟩
              case measure => simp [intOf]; omega
            · have hr4 : Hid (spE (nms D) [] l = 4) := SPE.out.2 hxn.out (inS_iff.1 hab)
              have hr : Hid (suE (nms D) D = 4) := by show _ = _; rw [SUE.out (by rw [hr4.out]; decide), hr4.out]
              clear hin hin2 hab
              go_wp2_with (go_at_call 43; refine (FA.out).mono ?_; rintro e w' ⟨rfl, rfl⟩)
              go_quiet ((go_at_call 11; exact Calls.quiet_of_same (AM.out _)))
              go_wp2
              go_ret
              exact ⟨by rw [hr.out]; rfl, by first | exact hbw | exact below_drewN2 hbw _⟩
        · obtain rfl : j = sl := by omega
          have hall' : Hid (∀ i, i < k + 1 → spE (nms D) [] (dc D i).sup = 0) := fun i hi => by
            rcases Nat.lt_succ_iff_lt_or_eq.1 hi with e | e
            · exact hall.out i e
            · rw [e, HSL.out]; exact spE_end (fun i hi => hin.out i (by rw [HLL.out] at hi; exact hi))
          clear hin hall
          go_wp2
          go_roundw
          case rel => exact ⟨k + 1, by omega, by go_num, hall', hbw⟩
          case measure => simp [intOf]; omega
    · obtain rfl : n = k := by omega
      have hr : Hid (suE (nms D) D = 0) := suE_end (fun i hi => hall.out i (by rw [HL.out] at hi; exact hi))
      clear hall
      go_wp2
      go_ret
      exact ⟨by rw [hr.out]; rfl, hb⟩
end Go.Proofs.Ytmhbblehgckelaa
