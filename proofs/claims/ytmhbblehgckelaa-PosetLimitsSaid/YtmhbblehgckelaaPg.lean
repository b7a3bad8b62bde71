/- Walks of the reference of package poset: Light, sizes, names. -/
import Derived.Test.YtmhbblehgckelaaPf
namespace Go.Proofs.Ytmhbblehgckelaa
open Go.RowKit

/-- Few declarations with short lists. -/
def lite (D : List Dec) : Bool := if 16 < D.length then false else if D.any (fun d => decide (20 < d.sup.length) || decide (20 < d.nf)) then false else true

theorem Light_long {D : List Dec} (h : 16 < D.length) : lite D = false := by unfold lite; rw [if_pos h]
theorem Light_bad {D : List Dec} {i : Nat} (h : ¬ 16 < D.length) (hi : i < D.length) (hb : 20 < (dc D i).sup.length ∨ 20 < (dc D i).nf) : lite D = false := by
  unfold lite
  rw [if_neg h, if_pos]
  rw [List.any_eq_true]
  exact ⟨dc D i, dc_mem hi, by simpa using hb⟩
theorem Light_fine {D : List Dec} (h : ¬ 16 < D.length) (hb : ∀ i, i < D.length → ¬ 20 < (dc D i).sup.length ∧ ¬ 20 < (dc D i).nf) : lite D = true := by
  unfold lite
  rw [if_neg h, if_neg]
  rw [List.any_eq_true]
  rintro ⟨d, hd, he⟩
  obtain ⟨i, hi, e⟩ := List.getElem_of_mem hd
  have h2 := hb i hi
  have : dc D i = d := by
    have := dc_get hi
    rw [List.getElem?_eq_getElem hi, e] at this
    exact (Option.some.inj this).symm
  rw [this] at h2
  simp at he
  omega
set_option maxRecDepth 100000 in
theorem Light_any (w : World) (a : Option Addr) (n cap : Nat) (D : List Dec) (h : IsDecs w a n cap D) :
    Calls Try.prog 16 #[.slice a n cap] w fun e w' => e = .returned (.bool (lite D)) ∧ w = w' := by
  have hm := h.maxLe
  have hc := h.capLe
  have hl := h.len
  unfold maxLen at hm
  by_cases hbig : 16 < n
  · have hr : Hid (lite D = false) := Light_long (by omega)
    clear h hl
    go_enter Try.func16, Try.ntmps16
    go_wp2
    go_ret
    exact ⟨by rw [hr.out]; rfl, rfl⟩
  have H := Lib.hid h
  have HL := Lib.hid hl
  clear h hl
  go_enter Try.func16, Try.ntmps16
  go_wp2
  go_loop [3] (fun v => ∃ k : Nat, k ≤ n ∧ v = .int .i64 k ∧ Hid (∀ i, i < k → ¬ 20 < (dc D i).sup.length ∧ ¬ 20 < (dc D i).nf)) (fun v => n - (intOf v).toNat)
  case atStart => exact ⟨0, Nat.zero_le _, rfl, fun i hi => absurd hi (Nat.not_lt_zero _)⟩
  case round =>
    obtain ⟨k, hk, rfl, hall⟩ := hrel
    by_cases hlt : k < n
    · obtain ⟨b, off, rfl, hbl, hx⟩ := H.out.at_ (by omega)
      obtain ⟨sa, sc, fa, fc, hd⟩ := hx k hlt
      have c1 := hd.c1
      have c2 := hd.c2
      have hs1 := hd.ss.capLe
      have hs2 := hd.ss.maxLe
      have hs3 := hd.fl
      have hs4 := hd.fm
      unfold maxLen at hs2 hs4
      have hbad := fun g => Light_bad (D := D) (i := k) (by rw [HL.out]; omega) (by rw [HL.out]; exact hlt) g
      have HBAD := Lib.hid hbad
      obtain ⟨sl, hsl⟩ : ∃ m, (dc D k).sup.length = m := ⟨_, rfl⟩
      obtain ⟨nf, hnf⟩ : ∃ m, (dc D k).nf = m := ⟨_, rfl⟩
      rw [hsl] at c1 hs1
      rw [hnf] at c2 hs3
      have HSL := Lib.hid hsl
      have HNF := Lib.hid hnf
      clear hbad hd hx hsl hnf
      by_cases g1 : 20 < sl
      · have hr : Hid (lite D = false) := HBAD.out (.inl (by rw [HSL.out]; exact g1))
        go_wp2
        go_ret
        exact ⟨by rw [hr.out]; rfl, rfl⟩
      · by_cases g2 : 20 < nf
        · have hr : Hid (lite D = false) := HBAD.out (.inr (by rw [HNF.out]; exact g2))
          go_wp2
          go_ret
          exact ⟨by rw [hr.out]; rfl, rfl⟩
        · have hall' : Hid (∀ i, i < k + 1 → ¬ 20 < (dc D i).sup.length ∧ ¬ 20 < (dc D i).nf) := fun i hi => by
            rcases Nat.lt_succ_iff_lt_or_eq.1 hi with e | e
            · exact hall.out i e
            · rw [e, HSL.out, HNF.out]; exact ⟨g1, g2⟩
          clear hall
          go_wp2
          go_round
          case rel => exact ⟨k + 1, by omega, by go_num, hall'⟩
          case measure => simp [intOf]; omega
    · obtain rfl : n = k := by omega
      have hr : Hid (lite D = true) := Light_fine (by rw [HL.out]; exact hbig) (fun i hi => hall.out i (by rw [HL.out] at hi; exact hi))
      clear hall
      go_wp2
      go_ret
      exact ⟨by rw [hr.out]; rfl, rfl⟩

theorem sizes_long {D : List Dec} (h : 256 < D.length) : szE D = 7 := by unfold szE; rw [if_pos h]
theorem sizes_bad {D : List Dec} {i : Nat} (h : ¬ 256 < D.length) (hi : i < D.length) (hb : 256 < (dc D i).sup.length ∨ 256 < (dc D i).nf) : szE D = 7 := by
  unfold szE
  rw [if_neg h, if_pos]
  rw [List.any_eq_true]
  exact ⟨dc D i, dc_mem hi, by simpa using hb⟩
theorem sizes_fine {D : List Dec} (h : ¬ 256 < D.length) (hb : ∀ i, i < D.length → ¬ 256 < (dc D i).sup.length ∧ ¬ 256 < (dc D i).nf) : szE D = 0 := by
  unfold szE
  rw [if_neg h, if_neg]
  rw [List.any_eq_true]
  rintro ⟨d, hd, he⟩
  obtain ⟨i, hi, e⟩ := List.getElem_of_mem hd
  have h2 := hb i hi
  have : dc D i = d := by
    have := dc_get hi
    rw [List.getElem?_eq_getElem hi, e] at this
    exact (Option.some.inj this).symm
  rw [this] at h2
  simp at he
  omega
set_option maxRecDepth 100000 in
theorem sizes_any (w : World) (a : Option Addr) (n cap : Nat) (D : List Dec) (h : IsDecs w a n cap D) :
    Calls Try.prog 29 #[.slice a n cap] w fun e w' => e = .returned (.int .i64 ((szE D : Nat) : Int)) ∧ w = w' := by
  have hm := h.maxLe
  have hc := h.capLe
  have hl := h.len
  unfold maxLen at hm
  by_cases hbig : 256 < n
  · have hr : Hid (szE D = 7) := sizes_long (by omega)
    clear h hl
    go_enter Try.func29, Try.ntmps29
    go_wp2
    go_ret
    exact ⟨by rw [hr.out]; rfl, rfl⟩
  have H := Lib.hid h
  have HL := Lib.hid hl
  clear h hl
  go_enter Try.func29, Try.ntmps29
  go_wp2
  go_loop [3] (fun v => ∃ k : Nat, k ≤ n ∧ v = .int .i64 k ∧ Hid (∀ i, i < k → ¬ 256 < (dc D i).sup.length ∧ ¬ 256 < (dc D i).nf)) (fun v => n - (intOf v).toNat)
  case atStart => exact ⟨0, Nat.zero_le _, rfl, fun i hi => absurd hi (Nat.not_lt_zero _)⟩
  case round =>
    obtain ⟨k, hk, rfl, hall⟩ := hrel
    by_cases hlt : k < n
    · obtain ⟨b, off, rfl, hbl, hx⟩ := H.out.at_ (by omega)
      obtain ⟨sa, sc, fa, fc, hd⟩ := hx k hlt
      have c1 := hd.c1
      have c2 := hd.c2
      have hs1 := hd.ss.capLe
      have hs2 := hd.ss.maxLe
      have hs3 := hd.fl
      have hs4 := hd.fm
      unfold maxLen at hs2 hs4
      have hbad := fun g => sizes_bad (D := D) (i := k) (by rw [HL.out]; omega) (by rw [HL.out]; exact hlt) g
      have HBAD := Lib.hid hbad
      obtain ⟨sl, hsl⟩ : ∃ m, (dc D k).sup.length = m := ⟨_, rfl⟩
      obtain ⟨nf, hnf⟩ : ∃ m, (dc D k).nf = m := ⟨_, rfl⟩
      rw [hsl] at c1 hs1
      rw [hnf] at c2 hs3
      have HSL := Lib.hid hsl
      have HNF := Lib.hid hnf
      clear hbad hd hx hsl hnf
      by_cases g1 : 256 < sl
      · have hr : Hid (szE D = 7) := HBAD.out (.inl (by rw [HSL.out]; exact g1))
        go_wp2
        go_ret
        exact ⟨by rw [hr.out]; rfl, rfl⟩
      · by_cases g2 : 256 < nf
        · have hr : Hid (szE D = 7) := HBAD.out (.inr (by rw [HNF.out]; exact g2))
          go_wp2
          go_ret
          exact ⟨by rw [hr.out]; rfl, rfl⟩
        · have hall' : Hid (∀ i, i < k + 1 → ¬ 256 < (dc D i).sup.length ∧ ¬ 256 < (dc D i).nf) := fun i hi => by
            rcases Nat.lt_succ_iff_lt_or_eq.1 hi with e | e
            · exact hall.out i e
            · rw [e, HSL.out, HNF.out]; exact ⟨g1, g2⟩
          clear hall
          go_wp2
          go_round
          case rel => exact ⟨k + 1, by omega, by go_num, hall'⟩
          case measure => simp [intOf]; omega
    · obtain rfl : n = k := by omega
      have hr : Hid (szE D = 0) := sizes_fine (by rw [HL.out]; exact hbig) (fun i hi => hall.out i (by rw [HL.out] at hi; exact hi))
      clear hall
      go_wp2
      go_ret
      exact ⟨by rw [hr.out]; rfl, rfl⟩

theorem fi_range (D : List Dec) (s : Str) : -1 ≤ fi D s ∧ fi D s ≤ D.length := by
  unfold fi
  split
  · rename_i i e
    have := (List.findIdx?_eq_some_iff_getElem.1 e).1
    omega
  · omega
theorem dc_nms {D : List Dec} {i : Nat} (h : i < D.length) : (nms D)[i]? = some (dc D i).name := by
  unfold nms; rw [List.getElem?_map, dc_get h]; rfl
/-- The name at a place stands earlier, or not. -/
theorem fi_early {D : List Dec} {k : Nat} (hk : k < D.length) : (fi D (dc D k).name < (k : Int)) ↔ (dc D k).name ∈ (nms D).take k := by
  unfold fi
  cases e : D.findIdx? (fun d => d.name == (dc D k).name) with
  | none =>
    have := List.findIdx?_eq_none_iff.1 e (dc D k) (dc_mem hk)
    simp at this
  | some i =>
    obtain ⟨h1, h2, h3⟩ := List.findIdx?_eq_some_iff_getElem.1 e
    have hg : ∀ j (hj : j < D.length), D[j] = dc D j := fun j hj => by
      have := dc_get hj
      rw [List.getElem?_eq_getElem hj] at this
      exact Option.some.inj this
    rw [hg i h1] at h2
    have h2' : (dc D i).name = (dc D k).name := by simpa using h2
    constructor
    · intro h
      have hik : i < k := by simpa using h
      rw [List.mem_iff_getElem?]
      exact ⟨i, by rw [List.getElem?_take_of_lt hik, dc_nms h1, h2']⟩
    · intro h
      rw [List.mem_iff_getElem?] at h
      obtain ⟨j, hj⟩ := h
      have hjk : j < k := by
        have := (List.getElem?_eq_some_iff.1 hj).1
        rw [List.length_take] at this; omega
      rw [List.getElem?_take_of_lt hjk, dc_nms (by omega)] at hj
      have hje : (dc D j).name = (dc D k).name := Option.some.inj hj
      have : ¬ j < i := fun hji => by
        have := h3 j hji
        rw [hg j (by omega)] at this
        simp [hje] at this
      show ((i : Int)) < (k : Int)
      omega
/-- The error of the names, after k of them without one. -/
theorem nmE_drop {nm : Str → Bool} {D : List Dec} {k : Nat} (h : ∀ i, i < k → nm (dc D i).name = true ∧ (dc D i).name ∉ (nms D).take i) (hk : k ≤ D.length) : nmE nm [] D = nmE nm ((nms D).take k) (D.drop k) := by
  induction k with
  | zero => simp
  | succ k ih =>
    rw [ih (fun i hi => h i (by omega)) (by omega)]
    have hk2 : k < D.length := by omega
    have hd : D.drop k = dc D k :: D.drop (k + 1) := by
      rw [List.drop_eq_getElem_cons hk2]
      have := dc_get hk2
      rw [List.getElem?_eq_getElem hk2] at this
      rw [Option.some.inj this]
    obtain ⟨h1, h2⟩ := h k (by omega)
    rw [hd]
    show (if nm (dc D k).name then (if ((nms D).take k).contains (dc D k).name then 4 else nmE nm ((nms D).take k ++ [(dc D k).name]) (D.drop (k + 1))) else 1) = _
    rw [if_pos h1, if_neg (by simpa using h2)]
    congr 1
    have hkn : k < (nms D).length := by rw [nms_len]; exact hk2
    rw [List.take_succ_eq_append_getElem hkn]
    have := dc_nms hk2
    rw [List.getElem?_eq_getElem hkn] at this
    rw [Option.some.inj this]
theorem nmE_at {nm : Str → Bool} {D : List Dec} {k : Nat} (h : ∀ i, i < k → nm (dc D i).name = true ∧ (dc D i).name ∉ (nms D).take i) (hk : k < D.length) :
    (nm (dc D k).name = false → nmE nm [] D = 1) ∧ (nm (dc D k).name = true → (dc D k).name ∈ (nms D).take k → nmE nm [] D = 4) := by
  have hd : D.drop k = dc D k :: D.drop (k + 1) := by
    rw [List.drop_eq_getElem_cons hk]
    have := dc_get hk
    rw [List.getElem?_eq_getElem hk] at this
    rw [Option.some.inj this]
  rw [nmE_drop h (by omega), hd]
  constructor
  · intro e
    show (if nm (dc D k).name then _ else 1) = 1
    rw [e]; rfl
  · intro e e2
    show (if nm (dc D k).name then (if ((nms D).take k).contains (dc D k).name then 4 else _) else 1) = 4
    rw [if_pos e, if_pos (by simpa using e2)]
theorem nmE_end {nm : Str → Bool} {D : List Dec} (h : ∀ i, i < D.length → nm (dc D i).name = true ∧ (dc D i).name ∉ (nms D).take i) : nmE nm [] D = 0 := by
  rw [nmE_drop h (Nat.le_refl _), List.drop_length]; rfl

set_option maxRecDepth 100000 in
theorem rnames_any (w : World) (a : Option Addr) (n cap : Nat) (D : List Dec) (h : IsDecs w a n cap D) :
    Calls Try.prog 30 #[.slice a n cap] w fun e w' => e = .returned (.int .i64 ((nmE (isNam kLow) [] D : Nat) : Int)) ∧ w = w' := by
  have hm := h.maxLe
  have hc := h.capLe
  have hl := h.len
  unfold maxLen at hm
  have H := Lib.hid h
  have HL := Lib.hid hl
  clear h hl
  go_enter Try.func30, Try.ntmps30
  go_wp2
  go_loop [3] (fun v => ∃ k : Nat, k ≤ n ∧ v = .int .i64 k ∧ Hid (∀ i, i < k → isNam kLow (dc D i).name = true ∧ (dc D i).name ∉ (nms D).take i)) (fun v => n - (intOf v).toNat)
  case atStart => exact ⟨0, Nat.zero_le _, rfl, fun i hi => absurd hi (Nat.not_lt_zero _)⟩
  case round =>
    obtain ⟨k, hk, rfl, hall⟩ := hrel
    by_cases hlt : k < n
    · have hf := H.out
      obtain ⟨b, off, rfl, hbl, hx⟩ := H.out.at_ (by omega)
      obtain ⟨sa, sc, fa, fc, hd⟩ := hx k hlt
      have c0 := hd.c0
      have hsz : (mk (dc D k).name).size ≤ maxLen := by rw [mk_size]; exact hd.nl
      have hat := nmE_at (nm := isNam kLow) hall.out (k := k) (by rw [HL.out]; exact hlt)
      have hfi := fi_early (D := D) (k := k) (by rw [HL.out]; exact hlt)
      have hfr := fi_range D (dc D k).name
      have hall2 := hall.out
      have hnm : ∀ W, Calls Try.prog 42 #[.string (mk (dc D k).name)] W fun e w' => e = .returned (.bool (isNam kLow (dc D k).name)) ∧ W = w' := fun W => by
        have := rName_any (mk (dc D k).name) W hsz
        rwa [mk_list] at this
      have hfa : ∀ W, W = w → Calls Try.prog 43 #[.slice (some ⟨b, off, none⟩) n cap, .string (mk (dc D k).name)] W fun e w' => e = .returned (.int .i64 (fi D (dc D k).name)) ∧ W = w' := fun W e => e ▸ find_any w _ n cap D (dc D k).name hf
      rw [HL.out] at hfr
      obtain ⟨x, hx'⟩ : ∃ x, (dc D k).name = x := ⟨_, rfl⟩
      rw [hx'] at c0 hat hfi hfr hnm hfa
      obtain ⟨fv, hfv⟩ : ∃ v, fi D x = v := ⟨_, rfl⟩
      rw [hfv] at hfi hfr hfa
      have HX := Lib.hid hx'
      have HFI := Lib.hid hfi
      have HAT := Lib.hid hat
      have HNM := Lib.hid hnm
      have HFA := Lib.hid hfa
      have HALL := Lib.hid hall2
      clear hx hx' hd hat hfi hnm hfa hall hall2 hf hfv hsz
      cases hq : isNam kLow x
      · have hr : Hid (nmE (isNam kLow) [] D = 1) := HAT.out.1 hq
        rw [hq] at HNM
        clear hq
        go_wp2_with (go_at_call 42; refine (HNM.out _).mono ?_; rintro e w' ⟨rfl, rfl⟩)
        go_ret
        exact ⟨by rw [hr.out]; rfl, rfl⟩
      · rw [hq] at HNM
        by_cases he : fv < (k : Int)
        · have hr : Hid (nmE (isNam kLow) [] D = 4) := HAT.out.2 hq (HFI.out.1 he)
          clear hq
          go_wp2_with (first | (go_at_call 42; refine (HNM.out _).mono ?_; rintro e w' ⟨rfl, rfl⟩) | (go_at_call 43; refine (HFA.out _ rfl).mono ?_; rintro e w' ⟨rfl, rfl⟩))
          go_ret
          exact ⟨by rw [hr.out]; rfl, rfl⟩
        · have hall' : Hid (∀ i, i < k + 1 → isNam kLow (dc D i).name = true ∧ (dc D i).name ∉ (nms D).take i) := fun i hi => by
            rcases Nat.lt_succ_iff_lt_or_eq.1 hi with e | e
            · exact HALL.out i e
            · rw [e, HX.out]; exact ⟨hq, fun g => he (HFI.out.2 g)⟩
          clear hq
          go_wp2_with (first | (go_at_call 42; refine (HNM.out _).mono ?_; rintro e w' ⟨rfl, rfl⟩) | (go_at_call 43; refine (HFA.out _ rfl).mono ?_; rintro e w' ⟨rfl, rfl⟩))
          go_round
          case rel => exact ⟨k + 1, by omega, by go_num, hall'⟩
          case measure => simp [intOf]; omega
    · obtain rfl : n = k := by omega
      have hr : Hid (nmE (isNam kLow) [] D = 0) := nmE_end (fun i hi => hall.out i (by rw [HL.out] at hi; exact hi))
      clear hall
      go_wp2
      go_ret
      exact ⟨by rw [hr.out]; rfl, rfl⟩
end Go.Proofs.Ytmhbblehgckelaa
