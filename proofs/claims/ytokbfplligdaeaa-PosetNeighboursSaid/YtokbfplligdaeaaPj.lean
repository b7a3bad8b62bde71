/- Walks of package poset and its reference: Names, ready, checkTop, declared. -/
import Derived.Test.YtokbfplligdaeaaPi
namespace Go.Proofs.Ytokbfplligdaeaa
open Go.RowKit

theorem IsDecs.nl {w : World} {a : Option Addr} {n cap : Nat} {D : List Dec} (h : IsDecs w a n cap D) : ∀ d ∈ D, d.name.length ≤ maxLen := by
  intro d hd
  obtain ⟨i, hi, e⟩ := List.getElem_of_mem hd
  have hl := h.len
  obtain ⟨b, off, _, _, hx⟩ := h.at_ (by omega)
  obtain ⟨sa, sc, fa, fc, hd2⟩ := hx i (by omega)
  have := dc_get hi
  rw [List.getElem?_eq_getElem hi, e] at this
  rw [Option.some.inj this]
  exact hd2.nl
theorem nms_take (D : List Dec) (k : Nat) : nms (D.take k) = (nms D).take k := by unfold nms; rw [List.map_take]
theorem nms_succ {D : List Dec} {k : Nat} (hk : k < D.length) : (nms D).take (k + 1) = (nms D).take k ++ [(dc D k).name] := by
  have hkn : k < (nms D).length := by rw [nms_len]; exact hk
  rw [List.take_succ_eq_append_getElem hkn]
  have := dc_nms hk
  rw [List.getElem?_eq_getElem hkn] at this
  rw [Option.some.inj this]
theorem small_srt {l : List Str} (h : ∀ z ∈ l, z.length ≤ maxLen) : ∀ z ∈ srt l, z.length ≤ maxLen := fun z hz => h z ((mem_srt l z).1 hz)
theorem nms_small {w : World} {a : Option Addr} {n cap : Nat} {D : List Dec} (h : IsDecs w a n cap D) : ∀ z ∈ nms D, z.length ≤ maxLen := fun z hz => by
  obtain ⟨d, hd, e⟩ := List.mem_map.1 hz
  rw [← e]; exact h.nl d hd
def lenV : Value → Nat | .slice _ n _ => n | _ => 0
def boolV : Value → Nat | .bool true => 1 | _ => 0

set_option maxRecDepth 100000 in
theorem Names_any (w : World) (a : Option Addr) (n cap : Nat) (D : List Dec) (h : IsDecs w a n cap D) (hn : n ≤ 1000) :
    Calls Try.prog 19 #[.slice a n cap] w (RetL (srt (nms D)) w) := by
  have hm := h.maxLe
  have hc := h.capLe
  unfold maxLen at hm
  have HS := Lib.hid (nms_small h)
  have HL := Lib.hid h.len
  have H := Lib.hid h
  clear h
  go_enter Try.func19, Try.ntmps19
  go_wp2
  go_loopw [3, 4] (fun o v wr => ∃ k : Nat, k ≤ n ∧ v = .int .i64 k ∧ Hid (wr.ownsRow w.heap.size 9 1 o (srt ((nms D).take k)).length (svals (srt ((nms D).take k)))) ∧ Below w.heap.size w wr) (fun _ v _ => n - (intOf v).toNat)
  case atStart => exact ⟨0, Nat.zero_le _, rfl, World.ownsRow_nil _ _ _ _, Below.refl _ _⟩
  case round =>
    obtain ⟨k, hk, rfl, hrow, hb⟩ := hrel
    by_cases hlt : k < n
    · obtain ⟨b, off, rfl, hbl, hx⟩ := (H.out.below hb).at_ (by omega)
      obtain ⟨sa, sc, fa, fc, hd⟩ := hx k hlt
      have c0 := hd.c0
      have hsn := nms_succ (D := D) (k := k) (by rw [HL.out]; exact hlt)
      have hle := srt_len ((nms D).take k)
      rw [List.length_take] at hle
      have PU := Lib.hid (Put_any wr w.heap.size _ _ _ (dc D k).name hrow.out (small_srt (fun z hz => HS.out z (List.mem_of_mem_take hz))) hd.nl (by omega) hb.size)
      rw [← srt_snoc, ← hsn] at PU
      obtain ⟨x, hx'⟩ : ∃ x, (dc D k).name = x := ⟨_, rfl⟩
      rw [hx'] at c0 PU
      clear hx hx' hd hsn hle hrow
      go_wp2_with (go_at_call 41; (with_reducible refine PU.out.mono ?_); rintro e w1 ⟨v1, rfl, hrow1, hb1⟩; have R1 := Lib.hid hrow1; clear hrow1)
      go_roundw
      case rel => exact ⟨k + 1, by omega, by go_num, R1.out, hb.trans (hb1.mono hb.size)⟩
      case measure => simp [intOf]; omega
    · obtain rfl : n = k := by omega
      have hall : (nms D).take n = nms D := List.take_of_length_le (by rw [nms_len, HL.out]; exact Nat.le_refl _)
      rw [hall] at hrow
      clear hall
      go_wp2
      go_ret
      exact ⟨_, rfl, hrow.out, small_srt HS.out, hb⟩

theorem fi_ge (D : List Dec) (s : Str) : (0 ≤ fi D s) ↔ s ∈ nms D := by
  have := fi_neg D s
  constructor
  · intro h; exact Classical.byContradiction fun g => absurd (this.2 g) (by omega)
  · intro h; exact Classical.byContradiction fun g => this.1 (by omega) h
theorem dcl_step {D : List Dec} {l : List Str} {k : Nat} (hk : k < l.length) : dcl D (l.take (k + 1)) = if st l k ∈ nms D then put (dcl D (l.take k)) (st l k) else dcl D (l.take k) := by
  unfold dcl
  rw [take_st hk, List.filter_append]
  by_cases h : st l k ∈ nms D
  · rw [if_pos h]
    have : ([st l k].filter (nms D).contains) = [st l k] := by simp [h]
    rw [this, srt_snoc]
  · rw [if_neg h]
    have : ([st l k].filter (nms D).contains) = [] := by simp [h]
    rw [this, List.append_nil]
theorem dcl_len (D : List Dec) (l : List Str) : (dcl D l).length ≤ l.length := Nat.le_trans (srt_len _) (List.length_filter_le _ _)
theorem small_dcl {D : List Dec} {l : List Str} (h : ∀ z ∈ l, z.length ≤ maxLen) : ∀ z ∈ dcl D l, z.length ≤ maxLen := fun z hz => h z (mem_dcl.1 hz).1

set_option maxRecDepth 100000 in
theorem declared_any (w : World) (a : Option Addr) (n cap : Nat) (D : List Dec) (h : IsDecs w a n cap D) (la : Option Addr) (m lc : Nat) (l : List Str) (hl : IsStrs w la m lc l) (hn : m ≤ 1000) :
    Calls Try.prog 47 #[.slice a n cap, .slice la m lc] w (RetL (dcl D l) w) := by
  have hm := hl.maxLe
  have hc := hl.capLe
  unfold maxLen at hm
  have HS := Lib.hid hl.small
  have HLL := Lib.hid hl.len
  have HL := Lib.hid hl
  have H := Lib.hid h
  have hm2 := h.maxLe
  have hc2 := h.capLe
  unfold maxLen at hm2
  have HDL := Lib.hid h.len
  clear h hl
  go_enter Try.func47, Try.ntmps47
  go_wp2
  go_loopw [5, 6] (fun o v wr => ∃ k : Nat, k ≤ m ∧ v = .int .i64 k ∧ Hid (wr.ownsRow w.heap.size 9 1 o (dcl D (l.take k)).length (svals (dcl D (l.take k)))) ∧ Below w.heap.size w wr) (fun _ v _ => m - (intOf v).toNat)
  case atStart => exact ⟨0, Nat.zero_le _, rfl, World.ownsRow_nil _ _ _ _, Below.refl _ _⟩
  case round =>
    obtain ⟨k, hk, rfl, hrow, hb⟩ := hrel
    by_cases hlt : k < m
    · obtain ⟨b, off, rfl, hbl, hx⟩ := (HL.out.below hb).at_ (by omega)
      have c0 := hx k hlt
      have hsn := dcl_step (D := D) (l := l) (k := k) (by rw [HLL.out]; exact hlt)
      have hle := dcl_len D (l.take k)
      rw [List.length_take] at hle
      have hsx := HS.out _ (st_mem (zs := l) (i := k) (by rw [HLL.out]; exact hlt))
      have PU := Lib.hid (Put_any wr w.heap.size _ _ _ (st l k) hrow.out (small_dcl (fun z hz => HS.out z (List.mem_of_mem_take hz))) hsx (by omega) hb.size)
      have FA := Lib.hid (find_any wr a n cap D (st l k) (H.out.below hb))
      have FGE := fi_ge D (st l k)
      have hfr := fi_range D (st l k)
      rw [HDL.out] at hfr
      obtain ⟨x, hx'⟩ : ∃ x, st l k = x := ⟨_, rfl⟩
      rw [hx'] at c0 PU FA FGE hsn hfr
      obtain ⟨fv, hfv⟩ : ∃ v, fi D x = v := ⟨_, rfl⟩
      rw [hfv] at FA FGE hfr
      by_cases hf : 0 ≤ fv
      · rw [if_pos (FGE.1 hf)] at hsn
        rw [← hsn] at PU
        clear hx hx' hsn hle hrow hsx FGE hfv
        go_wp2_with (first
          | (go_at_call 44; refine (FA.out).mono ?_; rintro e w' ⟨rfl, rfl⟩)
          | (go_at_call 41; (with_reducible refine PU.out.mono ?_); rintro e w1 ⟨v1, rfl, hrow1, hb1⟩; have R1 := Lib.hid hrow1; clear hrow1))
        go_roundw
        case rel => exact ⟨k + 1, by omega, by go_num, R1.out, hb.trans (hb1.mono hb.size)⟩
        case measure => simp [intOf]; omega
      · rw [if_neg (fun g => hf (FGE.2 g))] at hsn
        rw [← hsn] at hrow
        clear hx hx' hsn hle hsx FGE hfv PU
        go_wp2_with (go_at_call 44; refine (FA.out).mono ?_; rintro e w' ⟨rfl, rfl⟩)
        go_roundw
        case rel => exact ⟨k + 1, by omega, by go_num, hrow.out, hb⟩
        case measure => simp [intOf]; omega
    · obtain rfl : m = k := by omega
      have hall : l.take m = l := List.take_of_length_le (by rw [HLL.out]; exact Nat.le_refl _)
      rw [hall] at hrow
      clear hall
      go_wp2
      go_ret
      exact ⟨_, rfl, hrow.out, small_dcl HS.out, hb⟩

/-- Are all direct supertypes in the list? -/
def rdy (sup out : List Str) : Bool := sup.all fun s => inS out s
theorem rdy_iff {sup out : List Str} : rdy sup out = true ↔ ∀ s ∈ sup, s ∈ out := by
  unfold rdy; rw [List.all_eq_true]
  exact ⟨fun h s hs => inS_iff.1 (h s hs), fun h s hs => inS_iff.2 (h s hs)⟩
theorem rdy_not {sup out : List Str} {k : Nat} (hk : k < sup.length) (h : inS out (st sup k) = false) : rdy sup out = false := by
  rw [Bool.eq_false_iff]
  intro g
  exact (inS_not.1 h) (rdy_iff.1 g _ (st_mem hk))
theorem rdy_all {sup out : List Str} (h : ∀ i, i < sup.length → inS out (st sup i) = true) : rdy sup out = true := by
  refine rdy_iff.2 fun s hs => ?_
  obtain ⟨i, hi, e⟩ := List.getElem_of_mem hs
  have := st_get hi
  rw [List.getElem?_eq_getElem hi, e] at this
  rw [Option.some.inj this]
  exact inS_iff.1 (h i hi)

set_option maxRecDepth 100000 in
theorem ready_any (w : World) (nm : Str) (fv : Value) (sa : Option Addr) (sl sc : Nat) (sup : List Str) (hs : IsStrs w sa sl sc sup) (oa : Option Addr) (on oc : Nat) (out : List Str) (ho : IsStrs w oa on oc out) (hfv : ∃ fa fl fc, fv = .slice fa fl fc) :
    Calls Try.prog 51 #[.agg #[.string (mk nm), .slice sa sl sc, fv], .slice oa on oc] w fun e w' => e = .returned (.bool (rdy sup out)) ∧ Below w.heap.size w w' := by
  obtain ⟨fa, fl, fc, rfl⟩ := hfv
  have hm := hs.maxLe
  have hc := hs.capLe
  unfold maxLen at hm
  have HSL := Lib.hid hs.len
  have hb1 := (Below.refl w.heap.size w).alloc (Nat.le_refl _) (.cells #[.string (mk nm), .slice sa sl sc, .slice fa fl fc] 40)
  have HS := Lib.hid (hs.below hb1)
  have HO := Lib.hid (ho.below hb1)
  clear hs ho hb1
  go_enter Try.func51, Try.ntmps51
  go_wp2
  go_loop [5] (fun v => ∃ k : Nat, k ≤ sl ∧ v = .int .i64 k ∧ Hid (∀ i, i < k → inS out (st sup i) = true)) (fun v => sl - (intOf v).toNat)
  case atStart => exact ⟨0, Nat.zero_le _, rfl, fun i hi => absurd hi (Nat.not_lt_zero _)⟩
  case round =>
    obtain ⟨k, hk, rfl, hall⟩ := hrel
    by_cases hlt : k < sl
    · obtain ⟨b, off, rfl, hbl, hx⟩ := HS.out.at_ (by omega)
      have c0 := hx k hlt
      have AM := Lib.hid (Among_any _ oa on oc out (st sup k) HO.out)
      have RN := Lib.hid (rdy_not (sup := sup) (out := out) (k := k) (by rw [HSL.out]; exact hlt))
      obtain ⟨x, hx'⟩ : ∃ x, st sup k = x := ⟨_, rfl⟩
      rw [hx'] at c0 AM RN
      have HX := Lib.hid hx'
      obtain ⟨q, hq⟩ : ∃ q, inS out x = q := ⟨_, rfl⟩
      rw [hq] at AM
      cases q
      · have hr : Hid (rdy sup out = false) := RN.out hq
        clear hx hx' hq hall
        go_wp2_with (go_at_call 28; refine (AM.out).mono ?_; rintro e w' ⟨rfl, rfl⟩)
        go_ret
        exact ⟨by rw [hr.out]; rfl, (Below.refl _ _).alloc (Nat.le_refl _) _⟩
      · have hall' : Hid (∀ i, i < k + 1 → inS out (st sup i) = true) := fun i hi => by
          rcases Nat.lt_succ_iff_lt_or_eq.1 hi with e | e
          · exact hall.out i e
          · rw [e, HX.out]; exact hq
        clear hx hx' hq hall
        go_wp2_with (go_at_call 28; refine (AM.out).mono ?_; rintro e w' ⟨rfl, rfl⟩)
        go_round
        case rel => exact ⟨k + 1, by omega, by go_num, hall'⟩
        case measure => simp [intOf]; omega
    · obtain rfl : sl = k := by omega
      have hr : Hid (rdy sup out = true) := rdy_all (fun i hi => hall.out i (by rw [HSL.out] at hi; exact hi))
      clear hall
      go_wp2
      go_ret
      exact ⟨by rw [hr.out]; rfl, (Below.refl _ _).alloc (Nat.le_refl _) _⟩
end Go.Proofs.Ytokbfplligdaeaa
