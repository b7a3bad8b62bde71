/- Walks of package poset and its reference: Names, ready, checkTop, declared. -/
import Derived.Test.YtmhbblehgckelaaPi
namespace Go.Proofs.Ytmhbblehgckelaa
open Go.RowKit

theorem IsDecs.nl {w : World} {a : Option Addr} {n cap : Nat} {D : List Dec} (h : IsDecs w a n cap D) : ∀ d ∈ D, d.name.length ≤ maxLen := by
  intro d hd
  obtain ⟨i, hi, e⟩ := List.getElem_of_mem hd
  have hl := h.len
  obtain ⟨b, off, _, _, hx⟩ := h.at_ (by omega)
  obtain ⟨sa, sc, fa, fc, hd2⟩ := hx i (by omega)
  have := dc_get hi
  rw [List.getElem?_eq_getElem hi, e] at this
  rw [Option.some.inj this]
  exact hd2.nl
theorem nms_take (D : List Dec) (k : Nat) : nms (D.take k) = (nms D).take k := by unfold nms; rw [List.map_take]
theorem nms_succ {D : List Dec} {k : Nat} (hk : k < D.length) : (nms D).take (k + 1) = (nms D).take k ++ [(dc D k).name] := by
  have hkn : k < (nms D).length := by rw [nms_len]; exact hk
  rw [List.take_succ_eq_append_getElem hkn]
  have := dc_nms hk
  rw [List.getElem?_eq_getElem hkn] at this
  rw [Option.some.inj this]
theorem small_srt {l : List Str} (h : ∀ z ∈ l, z.length ≤ maxLen) : ∀ z ∈ srt l, z.length ≤ maxLen := fun z hz => h z ((mem_srt l z).1 hz)
theorem nms_small {w : World} {a : Option Addr} {n cap : Nat} {D : List Dec} (h : IsDecs w a n cap D) : ∀ z ∈ nms D, z.length ≤ maxLen := fun z hz => by
  obtain ⟨d, hd, e⟩ := List.mem_map.1 hz
  rw [← e]; exact h.nl d hd
def lenV : Value → Nat | .slice _ n _ => n | _ => 0
def boolV : Value → Nat | .bool true => 1 | _ => 0

theorem fi_ge (D : List Dec) (s : Str) : (0 ≤ fi D s) ↔ s ∈ nms D := by
  have := fi_neg D s
  constructor
  · intro h; exact Classical.byContradiction fun g => absurd (this.2 g) (by omega)
  · intro h; exact Classical.byContradiction fun g => this.1 (by omega) h
theorem dcl_step {D : List Dec} {l : List Str} {k : Nat} (hk : k < l.length) : dcl D (l.take (k + 1)) = if st l k ∈ nms D then put (dcl D (l.take k)) (st l k) else dcl D (l.take k) := by
  unfold dcl
  rw [take_st hk, List.filter_append]
  by_cases h : st l k ∈ nms D
  · rw [if_pos h]
    have : ([st l k].filter (nms D).contains) = [st l k] := by simp [h]
    rw [this, srt_snoc]
  · rw [if_neg h]
    have : ([st l k].filter (nms D).contains) = [] := by simp [h]
    rw [this, List.append_nil]
theorem dcl_len (D : List Dec) (l : List Str) : (dcl D l).length ≤ l.length := Nat.le_trans (srt_len _) (List.length_filter_le _ _)
theorem small_dcl {D : List Dec} {l : List Str} (h : ∀ z ∈ l, z.length ≤ maxLen) : ∀ z ∈ dcl D l, z.length ≤ maxLen := fun z hz => h z (mem_dcl.1 hz).1

/-- Are all direct supertypes in the list? -/
def rdy (sup out : List Str) : Bool := sup.all fun s => inS out s
theorem rdy_iff {sup out : List Str} : rdy sup out = true ↔ ∀ s ∈ sup, s ∈ out := by
  unfold rdy; rw [List.all_eq_true]
  exact ⟨fun h s hs => inS_iff.1 (h s hs), fun h s hs => inS_iff.2 (h s hs)⟩
theorem rdy_not {sup out : List Str} {k : Nat} (hk : k < sup.length) (h : inS out (st sup k) = false) : rdy sup out = false := by
  rw [Bool.eq_false_iff]
  intro g
  exact (inS_not.1 h) (rdy_iff.1 g _ (st_mem hk))
theorem rdy_all {sup out : List Str} (h : ∀ i, i < sup.length → inS out (st sup i) = true) : rdy sup out = true := by
  refine rdy_iff.2 fun s hs => ?_
  obtain ⟨i, hi, e⟩ := List.getElem_of_mem hs
  have := st_get hi
  rw [List.getElem?_eq_getElem hi, e] at this
  rw [Option.some.inj this]
  exact inS_iff.1 (h i hi)

set_option maxRecDepth 100000 in
theorem ready_any (w : World) (nm : Str) (fv : Value) (sa : Option Addr) (sl sc : Nat) (sup : List Str) (hs : IsStrs w sa sl sc sup) (oa : Option Addr) (on oc : Nat) (out : List Str) (ho : IsStrs w oa on oc out) (hfv : ∃ fa fl fc, fv = .slice fa fl fc) :
    Calls Try.prog 44 #[.agg #[.string (mk nm), .slice sa sl sc, fv], .slice oa on oc] w fun e w' => e = .returned (.bool (rdy sup out)) ∧ Below w.heap.size w w' := by
  obtain ⟨fa, fl, fc, rfl⟩ := hfv
  have hm := hs.maxLe
  have hc := hs.capLe
  unfold maxLen at hm
  have HSL := Lib.hid hs.len
  have hb1 := (Below.refl w.heap.size w).alloc (Nat.le_refl _) (.cells #[.string (mk nm), .slice sa sl sc, .slice fa fl fc] 35)
  have HS := Lib.hid (hs.below hb1)
  have HO := Lib.hid (ho.below hb1)
  clear hs ho hb1
  go_enter Try.func44, Try.ntmps44
  go_wp2
  go_loop [5] (fun v => ∃ k : Nat, k ≤ sl ∧ v = .int .i64 k ∧ Hid (∀ i, i < k → inS out (st sup i) = true)) (fun v => sl - (intOf v).toNat)
  case atStart => exact ⟨0, Nat.zero_le _, rfl, fun i hi => absurd hi (Nat.not_lt_zero _)⟩
  case round =>
    obtain ⟨k, hk, rfl, hall⟩ := hrel
    by_cases hlt : k < sl
    · obtain ⟨b, off, rfl, hbl, hx⟩ := HS.out.at_ (by omega)
      have c0 := hx k hlt
      have AM := Lib.hid (Among_any _ oa on oc out (st sup k) HO.out)
      have RN := Lib.hid (rdy_not (sup := sup) (out := out) (k := k) (by rw [HSL.out]; exact hlt))
      obtain ⟨x, hx'⟩ : ∃ x, st sup k = x := ⟨_, rfl⟩
      rw [hx'] at c0 AM RN
      have HX := Lib.hid hx'
      obtain ⟨q, hq⟩ : ∃ q, inS out x = q := ⟨_, rfl⟩
      rw [hq] at AM
      cases q
      · have hr : Hid (rdy sup out = false) := RN.out hq
        clear hx hx' hq hall
        go_wp2_with (go_at_call 11; refine (AM.out).mono ?_; rintro e w' ⟨rfl, rfl⟩)
        go_ret
        exact ⟨by rw [hr.out]; rfl, (Below.refl _ _).alloc (Nat.le_refl _) _⟩
      · have hall' : Hid (∀ i, i < k + 1 → inS out (st sup i) = true) := fun i hi => by
          rcases Nat.lt_succ_iff_lt_or_eq.1 hi with e | e
          · exact hall.out i e
          · rw [e, HX.out]; exact hq
        clear hx hx' hq hall
        go_wp2_with (go_at_call 11; refine (AM.out).mono ?_; rintro e w' ⟨rfl, rfl⟩)
        go_round
        case rel => exact ⟨k + 1, by omega, by go_num, hall'⟩
        case measure => simp [intOf]; omega
    · obtain rfl : sl = k := by omega
      have hr : Hid (rdy sup out = true) := rdy_all (fun i hi => hall.out i (by rw [HSL.out] at hi; exact hi))
      clear hall
      go_wp2
      go_ret
      exact ⟨by rw [hr.out]; rfl, (Below.refl _ _).alloc (Nat.le_refl _) _⟩
end Go.Proofs.Ytmhbblehgckelaa
