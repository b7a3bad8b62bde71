/- Walks of the reference of package poset: Check, Order. -/
import Derived.Test.YtmhbblehgckelaaPk
namespace Go.Proofs.Ytmhbblehgckelaa
open Go.RowKit

theorem tops_succ {D : List Dec} {k : Nat} (hk : k < D.length) : tops (D.take (k + 1)) = tops (D.take k) + if (dc D k).sup.length = 0 then 1 else 0 := by
  unfold tops
  rw [take_dc hk, List.filter_append, List.length_append]
  congr 1
  by_cases h : (dc D k).sup.length = 0
  · rw [if_pos h]
    have : (dc D k).sup.isEmpty = true := by rw [List.isEmpty_iff]; exact List.eq_nil_of_length_eq_zero h
    simp [this]
  · rw [if_neg h]
    have : (dc D k).sup.isEmpty = false := by
      rw [Bool.eq_false_iff]; intro e; rw [List.isEmpty_iff] at e; rw [e] at h; exact h rfl
    simp [this]
theorem tops_le (D : List Dec) : tops D ≤ D.length := List.length_filter_le _ _
/-- The error of Check. -/
noncomputable def chkN (D : List Dec) : Nat := chk (isNam kLow) D
theorem szE_le {D : List Dec} (h : szE D = 0) : D.length ≤ 256 := by
  unfold szE at h
  split at h
  · cases h
  · omega

set_option maxRecDepth 100000 in
set_option maxHeartbeats 1600000 in
theorem rCheck_any (w : World) (a : Option Addr) (n cap : Nat) (D : List Dec) (h : IsDecs w a n cap D) :
    Calls Try.prog 17 #[.slice a n cap] w fun e w' => e = .returned (.int .i64 ((chkN D : Nat) : Int)) ∧ Below w.heap.size w w' := by
  have hm := h.maxLe
  have hc := h.capLe
  unfold maxLen at hm
  have HL := Lib.hid h.len
  have H := Lib.hid h
  have SZ := Lib.hid (sizes_any w a n cap D h)
  have NM := Lib.hid (rnames_any w a n cap D h)
  have SU := Lib.hid (rsupers_any w a n cap D h)
  obtain ⟨e1, he1⟩ : ∃ z, szE D = z := ⟨_, rfl⟩
  obtain ⟨e2, he2⟩ : ∃ z, nmE (isNam kLow) [] D = z := ⟨_, rfl⟩
  obtain ⟨e3, he3⟩ : ∃ z, suE (nms D) D = z := ⟨_, rfl⟩
  have hck : chkN D = if e1 ≠ 0 then e1 else if e2 ≠ 0 then e2 else if e3 ≠ 0 then e3 else if tops D ≠ 1 then 1 else if (plc D).length < D.length then 6 else 0 := by
    unfold chkN chk; rw [he1, he2, he3]
  have HCK := Lib.hid hck
  rw [he1] at SZ
  rw [he2] at NM
  rw [he3] at SU
  have H1 := Lib.hid he1
  have H2 := Lib.hid he2
  have H3 := Lib.hid he3
  clear h hck he1 he2 he3
  by_cases h1 : e1 = 0
  case neg =>
    have hr : Hid (chkN D = e1) := by show _ = _; rw [HCK.out, if_pos h1]
    have hne : (((e1 : Nat) : Int) != 0) = true := by simp; omega
    go_enter Try.func17, Try.ntmps17
    go_wp2_with (go_at_call 29; refine (SZ.out).mono ?_; rintro e w' ⟨rfl, rfl⟩)
    go_ret
    exact ⟨by rw [hr.out]; rfl, Below.refl _ _⟩
  have hn256 : Hid (n ≤ 256) := by have := szE_le (H1.out.trans h1); rw [HL.out] at this; exact this
  subst h1
  by_cases h2 : e2 = 0
  case neg =>
    have hr : Hid (chkN D = e2) := by show _ = _; rw [HCK.out, if_neg (by simp), if_pos h2]
    have hne : (((e2 : Nat) : Int) != 0) = true := by simp; omega
    go_enter Try.func17, Try.ntmps17
    go_wp2_with (first
      | (go_at_call 29; refine (SZ.out).mono ?_; rintro e w' ⟨rfl, rfl⟩)
      | (go_at_call 30; refine (NM.out).mono ?_; rintro e w' ⟨rfl, rfl⟩))
    go_ret
    exact ⟨by rw [hr.out]; rfl, Below.refl _ _⟩
  subst h2
  by_cases h3 : e3 = 0
  case neg =>
    have hr : Hid (chkN D = e3) := by show _ = _; rw [HCK.out, if_neg (by simp), if_neg (by simp), if_pos h3]
    have hne : (((e3 : Nat) : Int) != 0) = true := by simp; omega
    go_enter Try.func17, Try.ntmps17
    go_wp2_with (first
      | (go_at_call 29; refine (SZ.out).mono ?_; rintro e w' ⟨rfl, rfl⟩)
      | (go_at_call 30; refine (NM.out).mono ?_; rintro e w' ⟨rfl, rfl⟩)
      | (go_at_call 31; refine (SU.out).mono ?_; rintro e w' ⟨rfl, hb1⟩))
    go_ret
    exact ⟨by rw [hr.out]; rfl, hb1⟩
  subst h3
  have HCK2 : Hid (chkN D = if tops D ≠ 1 then 1 else if (plc D).length < D.length then 6 else 0) := by
    show _ = _; rw [HCK.out, if_neg (by simp), if_neg (by simp), if_neg (by simp)]
  have OK := Lib.hid (ok_of (nm := isNam kLow) H2.out H3.out)
  clear HCK H1 H2 H3
  go_enter Try.func17, Try.ntmps17
  go_wp2_with (first
    | (go_at_call 29; refine (SZ.out).mono ?_; rintro e w' ⟨rfl, rfl⟩)
    | (go_at_call 30; refine (NM.out).mono ?_; rintro e w' ⟨rfl, rfl⟩)
    | (go_at_call 31; refine (SU.out).mono ?_; rintro e w1 ⟨rfl, hb1⟩))
  have HW1 := Lib.hid (H.out.below hb1)
  go_loop [6, 7] (fun c v => ∃ k : Nat, k ≤ n ∧ v = .int .i64 k ∧ c = .int .i64 ((tops (D.take k) : Nat) : Int)) (fun _ v => n - (intOf v).toNat)
  case atStart => exact ⟨0, Nat.zero_le _, rfl, rfl⟩
  case round =>
    obtain ⟨k, hk, rfl, rfl⟩ := hrel
    have htl := tops_le (D.take k)
    rw [List.length_take] at htl
    by_cases hlt : k < n
    · obtain ⟨b, off, rfl, hbl, hx⟩ := HW1.out.at_ (by omega)
      obtain ⟨sa, sc', fa, fc, hd⟩ := hx k hlt
      have c1 := hd.c1
      have hts := tops_succ (D := D) (k := k) (by rw [HL.out]; exact hlt)
      obtain ⟨sl, hsl⟩ : ∃ z, (dc D k).sup.length = z := ⟨_, rfl⟩
      rw [hsl] at c1 hts
      obtain ⟨tk, htk⟩ : ∃ z, tops (D.take k) = z := ⟨_, rfl⟩
      rw [htk] at hts htl
      rw [htk]
      clear hx hd hsl htk
      by_cases h0 : sl = 0
      · rw [if_pos h0] at hts
        have HTS := Lib.hid hts
        subst h0
        clear hts
        go_wp2
        go_round
        case rel => exact ⟨k + 1, by omega, by go_num, by rw [HTS.out]; go_num⟩
        case measure => simp [intOf]; omega
      · rw [if_neg h0] at hts
        have HTS := Lib.hid hts
        have hne : (((sl : Nat) : Int) == 0) = false := by simp; omega
        clear hts
        go_wp2
        go_round
        case rel => exact ⟨k + 1, by omega, by go_num, by rw [HTS.out]; go_num⟩
        case measure => simp [intOf]; omega
    · obtain rfl : n = k := by omega
      have hall : D.take n = D := List.take_of_length_le (by rw [HL.out]; exact Nat.le_refl _)
      rw [hall] at htl
      rw [hall]
      obtain ⟨tp, htp⟩ : ∃ z, tops D = z := ⟨_, rfl⟩
      rw [htp] at HCK2 htl
      rw [htp]
      clear hall htp hlt
      by_cases ht : tp = 1
      · subst ht
        have HCK3 : Hid (chkN D = if (plc D).length < n then 6 else 0) := by show _ = _; rw [HCK2.out, if_neg (by simp), HL.out]
        have PL := Lib.hid (placed_any w1 a n cap D HW1.out OK.out.nodup (by have := hn256.out; omega))
        obtain ⟨pl, hpl⟩ : ∃ z, (plc D).length = z := ⟨_, rfl⟩
        rw [hpl] at HCK3
        have HPL := Lib.hid hpl
        clear hpl HCK2
        by_cases hp : pl < n
        · have hr : Hid (chkN D = 6) := by show _ = _; rw [HCK3.out, if_pos hp]
          clear HCK3
          go_wp2_with (go_at_call 32; (with_reducible refine PL.out.mono ?_); rintro e w2 ⟨v2, rfl, hrow, hsm, hb2⟩; rw [HPL.out] at hrow; obtain ⟨a2, c2, rfl, hi2⟩ := IsStrs.of_owns hrow hsm; clear hrow hsm hi2)
          go_ret
          exact ⟨by rw [hr.out]; rfl, hb1.trans (hb2.mono hb1.size)⟩
        · have hr : Hid (chkN D = 0) := by show _ = _; rw [HCK3.out, if_neg hp]
          clear HCK3
          go_wp2_with (go_at_call 32; (with_reducible refine PL.out.mono ?_); rintro e w2 ⟨v2, rfl, hrow, hsm, hb2⟩; rw [HPL.out] at hrow; obtain ⟨a2, c2, rfl, hi2⟩ := IsStrs.of_owns hrow hsm; clear hrow hsm hi2)
          go_ret
          exact ⟨by rw [hr.out]; rfl, hb1.trans (hb2.mono hb1.size)⟩
      · have hr : Hid (chkN D = 1) := by show _ = _; rw [HCK2.out, if_pos ht]
        have hne : (((tp : Nat) : Int) != 1) = true := by simp; omega
        clear HCK2
        go_wp2
        go_ret
        exact ⟨by rw [hr.out]; rfl, hb1⟩

/-- The call returns a slice of strings that reads as this list, and is its own, and an error. -/
def RetLE (xs : List Str) (k : Nat) (w : World) (e : Ending) (w' : World) : Prop :=
  ∃ v, e = .returned (.tuple #[v, .int .i64 ((k : Nat) : Int)]) ∧ w'.ownsRow w.heap.size 9 1 v xs.length (svals xs) ∧ (∀ z ∈ xs, z.length ≤ maxLen) ∧ Below w.heap.size w w'
noncomputable def ordN (D : List Dec) : List Str := if chkN D = 0 then plc D else []
theorem goodN {D : List Dec} (h : chkN D = 0) : Good (isNam kLow) D := good_of h

end Go.Proofs.Ytmhbblehgckelaa
