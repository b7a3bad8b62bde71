/- Walks over the reference of package bits: Has, List, Count, Subset, Equal, Same, SameInts. -/
import Derived.Test.YtlphlbhbhcpnpaaDoorBr
import Derived.Test.YtlphlbhbhcpnpaaDoorBt
namespace Go.Proofs.YtlphlbhbhcpnpaaDoor
open Go.RowKit

/-- A slice of ints that reads as a list. -/
def wi (zs : List Int) (i : Nat) : Int := zs.getD i 0
structure IsInt (w : World) (a : Option Addr) (n cap : Nat) (zs : List Int) : Prop where
  len : zs.length = n
  capLe : n ≤ cap
  maxLe : cap ≤ maxLen
  bnd : ∀ i, i < n → -9223372036854775808 ≤ wi zs i ∧ wi zs i ≤ 9223372036854775807
  at_ : 0 < n → ∃ b off, a = some ⟨b, off, none⟩ ∧ b < w.heap.size ∧ ∀ i, i < n → w.cell? ⟨b, off + i, none⟩ = some (.int .i64 (wi zs i))

theorem IsInt.below {w w' : World} {a : Option Addr} {n cap : Nat} {xs : List Int} (h : IsInt w a n cap xs) (hb : Below w.heap.size w w') : IsInt w' a n cap xs := by
  refine ⟨h.len, h.capLe, h.maxLe, h.bnd, fun h0 => ?_⟩
  obtain ⟨b, off, rfl, hl, hc⟩ := h.at_ h0
  exact ⟨b, off, rfl, Nat.lt_of_lt_of_le hl hb.size, fun i hi => (hb.cell (p := ⟨b, off + i, none⟩) hl).trans (hc i hi)⟩

theorem Tryd.infoI : (Tryd.prog.info? 3).map (fun i => (i.zero, i.size, i.bytes)) = some (some (.int .i64 0), 1, 8) := by kernel_rfl

def ints (l : List Nat) : List Int := List.map (fun n : Nat => (n : Int)) l
def ivals (zs : List Int) : List Value := zs.map (Value.int .i64)
theorem ivals_len (zs : List Int) : (ivals zs).length = zs.length := by simp [ivals]

theorem IsInt.of_owns {w : World} {B n : Nat} {v : Value} {zs : List Int} (h : w.ownsRow B 3 1 v n (ivals zs)) (hb : ∀ z ∈ zs, -9223372036854775808 ≤ z ∧ z ≤ 9223372036854775807) :
    ∃ a cap, v = .slice a n cap ∧ IsInt w a n cap zs := by
  have hh := h
  have hlen : zs.length = n := by have := h.1; rw [ivals_len] at this; omega
  have hbn : ∀ i, i < n → -9223372036854775808 ≤ wi zs i ∧ wi zs i ≤ 9223372036854775807 := fun i hi => by
    have : wi zs i = zs[i]'(by omega) := by simp [wi, List.getD_eq_getElem?_getD, List.getElem?_eq_getElem (show i < zs.length by omega)]
    rw [this]
    exact hb _ (List.getElem_mem _)
  obtain ⟨h1, ⟨h2, h3⟩ | ⟨g, cap, cur, hv, hB, hg, h3, h4, h5, h6⟩⟩ := h
  · subst h3
    exact ⟨none, 0, h2, hlen, Nat.le_refl _, Nat.zero_le _, fun i hi => absurd hi (Nat.not_lt_zero _), fun h0 => absurd h0 (Nat.lt_irrefl _)⟩
  · refine ⟨some ⟨g, 0, none⟩, cap, hv, hlen, h3, h4, hbn, fun _ => ⟨g, 0, rfl, lt_of_block hg, fun i hi => ?_⟩⟩
    have := hh.cells (g := g) (by rw [hv]; rfl) i (.int .i64 (wi zs i)) (by
      simp [ivals, wi, List.getD_eq_getElem?_getD, List.getElem?_eq_getElem (show i < zs.length by omega)])
    rw [show (⟨g, 0, none⟩ : Addr).add i = ⟨g, i, none⟩ by unfold Addr.add; split <;> simp_all] at this
    rw [Nat.zero_add]
    exact this

/-- The call returns a slice of ints that reads as this list; nothing that was there has changed. -/
def RetI (xs : List Int) (w : World) (e : Ending) (w' : World) : Prop :=
  ∃ a n cap, e = .returned (.slice a n cap) ∧ IsInt w' a n cap xs ∧ Below w.heap.size w w'

theorem bit_out (xs : List Nat) (i : Nat) (h : xs.length ≤ i / 64) : bit xs i = false := by
  unfold bit
  rw [wd_out _ _ h]
  simp

theorem rHas_neg (w : World) (a1 : Option Addr) (n1 cap1 : Nat) (i : Int) (hi : i < 0) :
    Calls Tryd.prog 47 #[.slice a1 n1 cap1, .int .i64 i] w fun e w' => e = .returned (.bool false) ∧ w = w' := by
  go_enter Tryd.func47, Tryd.ntmps47
  go_wp2
  go_ret
  exact ⟨rfl, rfl⟩

theorem rHas_pos (w : World) (a1 : Option Addr) (n1 cap1 : Nat) (xs : List Nat) (h1 : Is64 w a1 n1 cap1 xs) (i : Nat) (hi : i ≤ 9223372036854775807) :
    Calls Tryd.prog 47 #[.slice a1 n1 cap1, .int .i64 i] w fun e w' => e = .returned (.bool (bit xs i)) ∧ w = w' := by
  have H1 := Lib.hid h1
  have hm := h1.maxLe
  have hc := h1.capLe
  unfold maxLen at hm
  clear h1
  by_cases ho : n1 ≤ i / 64
  · have hf := Lib.hid (bit_out xs i (by rw [H1.out.len]; exact ho))
    go_enter Tryd.func47, Tryd.ntmps47
    go_wp2
    go_ret
    exact ⟨by rw [hf.out]; rfl, rfl⟩
  · obtain ⟨b1, o1, rfl, hl1, hx1⟩ := H1.out.at_ (by omega)
    have c1 := hx1 (i / 64) (by omega)
    clear hx1
    have ho' : i / 64 < n1 := by omega
    go_enter Tryd.func47, Tryd.ntmps47
    go_wp2
    go_ret
    refine ⟨?_, rfl⟩
    show Ending.returned (.bool _) = _
    rw [and_shift (H1.out.lt _)]
    rfl

theorem rHas_val (b : Bool) (w : World) (a1 : Option Addr) (n1 cap1 : Nat) (xs : List Nat) (h1 : Is64 w a1 n1 cap1 xs) (i : Nat) (hi : i ≤ 9223372036854775807) (hb : bit xs i = b) :
    Calls Tryd.prog 47 #[.slice a1 n1 cap1, .int .i64 i] w fun e w' => e = .returned (.bool b) ∧ w = w' := hb ▸ rHas_pos w a1 n1 cap1 xs h1 i hi

/-- The elements below k, ascending. -/
def lst (xs : List Nat) (k : Nat) : List Nat := (List.range k).filter (bit xs)
theorem lst_yes {xs : List Nat} {k : Nat} (h : bit xs k = true) : lst xs (k + 1) = lst xs k ++ [k] := by simp [lst, List.range_succ, List.filter_append, h]
theorem lst_no {xs : List Nat} {k : Nat} (h : bit xs k = false) : lst xs (k + 1) = lst xs k := by simp [lst, List.range_succ, List.filter_append, h]
theorem lst_len (xs : List Nat) (k : Nat) : (lst xs k).length ≤ k := by
  have := List.length_filter_le (bit xs) (List.range k)
  simpa [lst] using this
theorem lst_mem {xs : List Nat} {k : Nat} {z : Int} (h : z ∈ ints (lst xs k)) : 0 ≤ z ∧ z < k := by
  simp only [ints, lst, List.mem_map, List.mem_filter, List.mem_range] at h
  omega
theorem ivals_snoc (l : List Nat) (k : Nat) : ivals (ints l) ++ [Value.int .i64 (k : Int)] = ivals (ints (l ++ [k])) := by simp [ivals, ints]

set_option maxRecDepth 100000 in
theorem rList_any (w : World) (a1 : Option Addr) (n1 cap1 : Nat) (xs : List Nat) (h1 : Is64 w a1 n1 cap1 xs) (s1 : n1 ≤ 1000000) :
    Calls Tryd.prog 39 #[.slice a1 n1 cap1] w (RetI (ints (lst xs (64 * n1))) w) := by
  have H1 := Lib.hid h1
  obtain ⟨i0, hi, hz0, hz1, hz2⟩ := info_parts Tryd.infoI
  have HI := Lib.hid (And.intro hi (And.intro hz0 (And.intro hz1 hz2)))
  clear h1 hi hz0 hz1 hz2
  go_enter Tryd.func39, Tryd.ntmps39
  go_wp2
  go_loopw [3, 4] (fun o v wr => ∃ k : Nat, k ≤ 64 * n1 ∧ v = .int .i64 k ∧ Hid (wr.ownsRow w.heap.size 3 1 o (lst xs k).length (ivals (ints (lst xs k)))) ∧ Below w.heap.size w wr) (fun _ v _ => 64 * n1 - (intOf v).toNat)
  case atStart => exact ⟨0, Nat.zero_le _, rfl, World.ownsRow_nil _ _ _ _, Below.refl _ _⟩
  case round =>
    obtain ⟨k, hk, rfl, hrow, hb⟩ := hrel
    by_cases hlt : k < 64 * n1
    · have G1 := Lib.hid (H1.out.below hb)
      have hlr := hb.size
      have hll := lst_len xs k
      cases hbit : bit xs k
      · have hB := Lib.hid hbit
        clear hbit
        go_wp2_with (go_at_call 47; ((with_reducible refine (rHas_val false _ _ _ _ _ G1.out k (by omega) hB.out).mono ?_); rintro e w' ⟨rfl, rfl⟩))
        go_roundw
        case rel => exact ⟨k + 1, by omega, by go_num, by rw [lst_no hB.out]; exact hrow, hb⟩
        case measure => simp [intOf]; omega
      · have hB := Lib.hid hbit
        clear hbit
        go_wp2_with (first | (go_at_call 47; ((with_reducible refine (rHas_val true _ _ _ _ _ G1.out k (by omega) hB.out).mono ?_); rintro e w' ⟨rfl, rfl⟩)) | (at_builtin; refine wpList_append_own _ rfl _ _ 41 rfl w.heap.size 3 i0 (.int .i64 0) 1 8 Tryd.underlying41 HI.out.1 HI.out.2.1 HI.out.2.2.1 HI.out.2.2.2 rfl (by decide) _ _ _ rfl (hrow.out.alloc _) ⟨wr.heap.size, 0, none⟩ 1 1 [.int .i64 (k : Int)] rfl rfl (one_new _ _ _) ?_ ?_ ?_ ?_ ?_; rotate_right; intro v' w3 hown hgrow _))
        · have hown' : w3.ownsRow w.heap.size 3 1 v' (lst xs (k + 1)).length (ivals (ints (lst xs (k + 1)))) := by
            rw [lst_yes hB.out, ← ivals_snoc, List.length_append]
            exact hown
          exact ⟨⟨k + 1, by omega, by go_num, hown', (hb.alloc hb.size _).grown hgrow (by simp; omega) (fun j hj => (hrow.out.lt j hj).1)⟩, by simp [intOf]; omega⟩
        · exact oneCell_one _ _
        · unfold maxLen; omega
        · omega
        · simp; omega
    · obtain rfl : k = 64 * n1 := by omega
      obtain ⟨aa, cc, rfl, hres⟩ := IsInt.of_owns hrow.out (fun z hz => by have := lst_mem hz; omega)
      have HRes := Lib.hid hres
      clear hrow hres
      go_wp2
      go_ret
      exact ⟨aa, _, cc, rfl, HRes.out, hb⟩

/-- Whether two lists are the same. -/
def sameB (xs ys : List Nat) : Bool := decide (xs = ys)
theorem ext_wd {xs ys : List Nat} (hl : xs.length = ys.length) (h : ∀ i, i < xs.length → wd xs i = wd ys i) : xs = ys := by
  apply List.ext_getElem? 
  intro i
  by_cases hi : i < xs.length
  · have := h i hi
    simp only [wd, List.getD_eq_getElem?_getD, List.getElem?_eq_getElem hi, List.getElem?_eq_getElem (show i < ys.length by omega), Option.getD_some] at this
    rw [List.getElem?_eq_getElem hi, List.getElem?_eq_getElem (show i < ys.length by omega), this]
  · rw [List.getElem?_eq_none (by omega), List.getElem?_eq_none (by omega)]
theorem sameB_len {xs ys : List Nat} (h : xs.length ≠ ys.length) : sameB xs ys = false := by
  simp only [sameB, decide_eq_false_iff_not]; exact fun e => h (by rw [e])
theorem sameB_no {xs ys : List Nat} {i : Nat} (h : wd xs i ≠ wd ys i) : sameB xs ys = false := by
  simp only [sameB, decide_eq_false_iff_not]; exact fun e => h (by rw [e])
theorem sameB_yes {xs ys : List Nat} (hl : xs.length = ys.length) (h : ∀ i, i < xs.length → wd xs i = wd ys i) : sameB xs ys = true := by
  simp only [sameB, decide_eq_true_eq]; exact ext_wd hl h

theorem Same_any (w : World) (a1 a2 : Option Addr) (n1 n2 cap1 cap2 : Nat) (xs ys : List Nat) (h1 : Is64 w a1 n1 cap1 xs) (h2 : Is64 w a2 n2 cap2 ys) :
    Calls Tryd.prog 36 #[.slice a1 n1 cap1, .slice a2 n2 cap2] w fun e w' => e = .returned (.bool (sameB xs ys)) ∧ Below w.heap.size w w' := by
  have hm1 := h1.maxLe
  have hm2 := h2.maxLe
  have hc1 := h1.capLe
  have hc2 := h2.capLe
  unfold maxLen at hm1 hm2
  have H1 := Lib.hid h1
  have H2 := Lib.hid h2
  clear h1 h2
  by_cases hn : n1 = n2
  · subst hn
    go_enter Tryd.func36, Tryd.ntmps36
    go_wp2
    go_loopw [5] (fun v wr => ∃ k : Nat, k ≤ n1 ∧ v = .int .i64 k ∧ Hid (∀ i, i < k → wd xs i = wd ys i) ∧ Below w.heap.size w wr) (fun v _ => n1 - (intOf v).toNat)
    case atStart => exact ⟨0, Nat.zero_le _, rfl, fun i hi => absurd hi (Nat.not_lt_zero _), Below.refl _ _⟩
    case round =>
      obtain ⟨k, hk, rfl, hr, hb⟩ := hrel
      by_cases hlt : k < n1
      · obtain ⟨b1, o1, rfl, hl1, hx1⟩ := H1.out.at_ (by omega)
        obtain ⟨b2, o2, rfl, hl2, hx2⟩ := H2.out.at_ (by omega)
        have c1 := (hb.cell (p := ⟨b1, o1 + k, none⟩) hl1).trans (hx1 k (by omega))
        have c2 := (hb.cell (p := ⟨b2, o2 + k, none⟩) hl2).trans (hx2 k (by omega))
        clear hx1 hx2
        by_cases he : wd xs k = wd ys k
        · have hr' : Hid (∀ i, i < k + 1 → wd xs i = wd ys i) := fun i hi => by
            rcases Nat.lt_succ_iff_lt_or_eq.1 hi with h | h
            · exact hr.out i h
            · rw [h]; exact he
          rw [he] at c1
          clear he hr
          go_wp2
          go_quiet (fail)
          go_wp2
          go_roundw
          case rel => exact ⟨k + 1, by omega, by go_num, hr', by first | exact hb | exact hb.drew | exact below_drewN hb _⟩
          case measure => simp [intOf]; omega
        · have hf := Lib.hid (sameB_no he)
          have hz : (((wd xs k : Nat) : Int) == ((wd ys k : Nat) : Int)) = false := by simpa using (fun e => he (by omega))
          have hz1 : (((wd xs k : Nat) : Int) != ((wd ys k : Nat) : Int)) = true := by simpa using (fun e => he (by omega))
          clear he hr
          go_wp2
          go_quiet (fail)
          go_wp2
          go_ret
          exact ⟨by rw [hf.out]; rfl, by first | exact hb | exact hb.drew | exact below_drewN hb _⟩
      · obtain rfl : n1 = k := by omega
        have hf := Lib.hid (sameB_yes (xs := xs) (ys := ys) (by rw [H1.out.len, H2.out.len]) (by rw [H1.out.len]; exact hr.out))
        clear hr
        go_wp2
        go_ret
        exact ⟨by rw [hf.out]; rfl, hb⟩
  · have hf := Lib.hid (sameB_len (xs := xs) (ys := ys) (by rw [H1.out.len, H2.out.len]; exact hn))
    have hz : (((n1 : Nat) : Int) != ((n2 : Nat) : Int)) = true := by simpa using (fun e => hn (by omega))
    go_enter Tryd.func36, Tryd.ntmps36
    go_wp2
    go_ret
    exact ⟨by rw [hf.out]; rfl, Below.refl _ _⟩

/-- Whether two lists are the same. -/
def sameI (xs ys : List Int) : Bool := decide (xs = ys)
theorem ext_wi {xs ys : List Int} (hl : xs.length = ys.length) (h : ∀ i, i < xs.length → wi xs i = wi ys i) : xs = ys := by
  apply List.ext_getElem? 
  intro i
  by_cases hi : i < xs.length
  · have := h i hi
    simp only [wi, List.getD_eq_getElem?_getD, List.getElem?_eq_getElem hi, List.getElem?_eq_getElem (show i < ys.length by omega), Option.getD_some] at this
    rw [List.getElem?_eq_getElem hi, List.getElem?_eq_getElem (show i < ys.length by omega), this]
  · rw [List.getElem?_eq_none (by omega), List.getElem?_eq_none (by omega)]
theorem sameI_len {xs ys : List Int} (h : xs.length ≠ ys.length) : sameI xs ys = false := by
  simp only [sameI, decide_eq_false_iff_not]; exact fun e => h (by rw [e])
theorem sameI_no {xs ys : List Int} {i : Nat} (h : wi xs i ≠ wi ys i) : sameI xs ys = false := by
  simp only [sameI, decide_eq_false_iff_not]; exact fun e => h (by rw [e])
theorem sameI_yes {xs ys : List Int} (hl : xs.length = ys.length) (h : ∀ i, i < xs.length → wi xs i = wi ys i) : sameI xs ys = true := by
  simp only [sameI, decide_eq_true_eq]; exact ext_wi hl h

theorem SameInts_any (w : World) (a1 a2 : Option Addr) (n1 n2 cap1 cap2 : Nat) (xs ys : List Int) (h1 : IsInt w a1 n1 cap1 xs) (h2 : IsInt w a2 n2 cap2 ys) :
    Calls Tryd.prog 37 #[.slice a1 n1 cap1, .slice a2 n2 cap2] w fun e w' => e = .returned (.bool (sameI xs ys)) ∧ Below w.heap.size w w' := by
  have hm1 := h1.maxLe
  have hm2 := h2.maxLe
  have hc1 := h1.capLe
  have hc2 := h2.capLe
  unfold maxLen at hm1 hm2
  have H1 := Lib.hid h1
  have H2 := Lib.hid h2
  clear h1 h2
  by_cases hn : n1 = n2
  · subst hn
    go_enter Tryd.func37, Tryd.ntmps37
    go_wp2
    go_loopw [5] (fun v wr => ∃ k : Nat, k ≤ n1 ∧ v = .int .i64 k ∧ Hid (∀ i, i < k → wi xs i = wi ys i) ∧ Below w.heap.size w wr) (fun v _ => n1 - (intOf v).toNat)
    case atStart => exact ⟨0, Nat.zero_le _, rfl, fun i hi => absurd hi (Nat.not_lt_zero _), Below.refl _ _⟩
    case round =>
      obtain ⟨k, hk, rfl, hr, hb⟩ := hrel
      by_cases hlt : k < n1
      · obtain ⟨b1, o1, rfl, hl1, hx1⟩ := H1.out.at_ (by omega)
        obtain ⟨b2, o2, rfl, hl2, hx2⟩ := H2.out.at_ (by omega)
        have c1 := (hb.cell (p := ⟨b1, o1 + k, none⟩) hl1).trans (hx1 k (by omega))
        have c2 := (hb.cell (p := ⟨b2, o2 + k, none⟩) hl2).trans (hx2 k (by omega))
        clear hx1 hx2
        by_cases he : wi xs k = wi ys k
        · have hr' : Hid (∀ i, i < k + 1 → wi xs i = wi ys i) := fun i hi => by
            rcases Nat.lt_succ_iff_lt_or_eq.1 hi with h | h
            · exact hr.out i h
            · rw [h]; exact he
          rw [he] at c1
          clear he hr
          go_wp2
          go_quiet (fail)
          go_wp2
          go_roundw
          case rel => exact ⟨k + 1, by omega, by go_num, hr', by first | exact hb | exact hb.drew | exact below_drewN hb _⟩
          case measure => simp [intOf]; omega
        · have hf := Lib.hid (sameI_no he)
          have hz : ((wi xs k : Int) == (wi ys k : Int)) = false := by simpa using (fun e => he (by omega))
          have hz1 : ((wi xs k : Int) != (wi ys k : Int)) = true := by simpa using (fun e => he (by omega))
          clear he hr
          go_wp2
          go_quiet (fail)
          go_wp2
          go_ret
          exact ⟨by rw [hf.out]; rfl, by first | exact hb | exact hb.drew | exact below_drewN hb _⟩
      · obtain rfl : n1 = k := by omega
        have hf := Lib.hid (sameI_yes (xs := xs) (ys := ys) (by rw [H1.out.len, H2.out.len]) (by rw [H1.out.len]; exact hr.out))
        clear hr
        go_wp2
        go_ret
        exact ⟨by rw [hf.out]; rfl, hb⟩
  · have hf := Lib.hid (sameI_len (xs := xs) (ys := ys) (by rw [H1.out.len, H2.out.len]; exact hn))
    have hz : (((n1 : Nat) : Int) != ((n2 : Nat) : Int)) = true := by simpa using (fun e => hn (by omega))
    go_enter Tryd.func37, Tryd.ntmps37
    go_wp2
    go_ret
    exact ⟨by rw [hf.out]; rfl, Below.refl _ _⟩

theorem rCount_any (w : World) (a1 : Option Addr) (n1 cap1 : Nat) (xs : List Nat) (h1 : Is64 w a1 n1 cap1 xs) (s1 : n1 ≤ 1000000) :
    Calls Tryd.prog 53 #[.slice a1 n1 cap1] w fun e w' => e = .returned (.int .i64 (((lst xs (64 * n1)).length : Nat) : Int)) ∧ Below w.heap.size w w' := by
  have H1 := Lib.hid h1
  clear h1
  go_enter Tryd.func53, Tryd.ntmps53
  go_wp2_with (go_at_call 39; refine (rList_any _ _ _ _ _ H1.out s1).mono ?_; rintro e w' ⟨a', n', cap', rfl, h', hb'⟩)
  go_ret
  have := h'.len
  simp only [ints, List.length_map] at this
  exact ⟨by rw [this]; rfl, hb'⟩

/-- Whether a normal form has no words. -/
theorem nlen_zero {xs : List Nat} : ∀ {n : Nat}, nlen xs n = 0 ↔ ∀ i, i < n → wd xs i = 0
  | 0 => by simp [nlen]
  | n + 1 => by
    unfold nlen
    split
    · rename_i h
      rw [nlen_zero]
      exact ⟨fun hh i hi => by
        rcases Nat.lt_succ_iff_lt_or_eq.1 hi with h1 | h1
        · exact hh i h1
        · rw [h1]; exact h, fun hh i hi => hh i (by omega)⟩
    · rename_i h
      exact ⟨fun e => by omega, fun hh => absurd (hh n (by omega)) h⟩

theorem nrm_len (m : Nat) (f : Nat → Nat) : (nrm m f).length = nlen (tab m f) m := by
  unfold nrm
  rw [List.length_take, tab_len]
  have := nlen_le (tab m f) m
  omega
theorem nrm_sub (n : Nat) (xs ys : List Nat) : decide ((nrm n (minF xs ys)).length = 0) = subB n xs ys := by
  rw [Bool.eq_iff_iff, decide_eq_true_eq, nrm_len, nlen_zero]
  simp only [subB, List.all_eq_true, List.mem_range, beq_iff_eq]
  exact ⟨fun h i hi => by have := h i hi; rwa [wd_tab _ _ _ hi] at this, fun h i hi => by rw [wd_tab _ _ _ hi]; exact h i hi⟩

theorem rSubset_any (w : World) (a1 a2 : Option Addr) (n1 n2 cap1 cap2 : Nat) (xs ys : List Nat) (h1 : Is64 w a1 n1 cap1 xs) (h2 : Is64 w a2 n2 cap2 ys) (s1 : n1 ≤ 1000000) (s2 : n2 ≤ 1000000) :
    Calls Tryd.prog 49 #[.slice a1 n1 cap1, .slice a2 n2 cap2] w fun e w' => e = .returned (.bool (subB n1 xs ys)) ∧ Below w.heap.size w w' := by
  have H1 := Lib.hid h1
  have H2 := Lib.hid h2
  clear h1 h2
  go_enter Tryd.func49, Tryd.ntmps49
  go_wp2_with (go_at_call 45; refine (rMinus_any _ _ _ _ _ _ _ _ _ H1.out H2.out s1 s2).mono ?_; rintro e w' ⟨a', n', cap', rfl, h', hb'⟩)
  go_ret
  refine ⟨?_, hb'⟩
  have hl := h'.len
  show Ending.returned (.bool (((n' : Nat) : Int) == 0)) = _
  rw [← nrm_sub, hl]
  congr 2
  rw [Bool.eq_iff_iff]
  simp

theorem rSubset_val (b : Bool) (w : World) (a1 a2 : Option Addr) (n1 n2 cap1 cap2 : Nat) (xs ys : List Nat) (h1 : Is64 w a1 n1 cap1 xs) (h2 : Is64 w a2 n2 cap2 ys) (s1 : n1 ≤ 1000000) (s2 : n2 ≤ 1000000) (hb : subB n1 xs ys = b) :
    Calls Tryd.prog 49 #[.slice a1 n1 cap1, .slice a2 n2 cap2] w fun e w' => e = .returned (.bool b) ∧ Below w.heap.size w w' := hb ▸ rSubset_any w a1 a2 n1 n2 cap1 cap2 xs ys h1 h2 s1 s2

theorem rEqual_any (w : World) (a1 a2 : Option Addr) (n1 n2 cap1 cap2 : Nat) (xs ys : List Nat) (h1 : Is64 w a1 n1 cap1 xs) (h2 : Is64 w a2 n2 cap2 ys) (s1 : n1 ≤ 1000000) (s2 : n2 ≤ 1000000) :
    Calls Tryd.prog 51 #[.slice a1 n1 cap1, .slice a2 n2 cap2] w fun e w' => e = .returned (.bool (subB n1 xs ys && subB n2 ys xs)) ∧ Below w.heap.size w w' := by
  have H1 := Lib.hid h1
  have H2 := Lib.hid h2
  clear h1 h2
  cases hb : subB n1 xs ys
  · have HB := Lib.hid hb
    clear hb
    go_enter Tryd.func51, Tryd.ntmps51
    go_wp2_with (go_at_call 49; refine (rSubset_val false _ _ _ _ _ _ _ _ _ H1.out H2.out s1 s2 HB.out).mono ?_; rintro e w' ⟨rfl, hb'⟩)
    go_ret
    exact ⟨rfl, hb'⟩
  · have HB := Lib.hid hb
    clear hb
    go_enter Tryd.func51, Tryd.ntmps51
    go_wp2_with fail
    refine (rSubset_val true _ _ _ _ _ _ _ _ _ H1.out H2.out s1 s2 HB.out).mono ?_
    rintro e w' ⟨rfl, hb'⟩
    go_wp2_with fail
    refine (rSubset_any _ _ _ _ _ _ _ _ _ (H2.out.below hb') (H1.out.below hb') s2 s1).mono ?_
    rintro e w2 ⟨rfl, hb2⟩
    go_wp2
    go_ret
    exact ⟨rfl, hb'.trans (hb2.mono hb'.size)⟩
end Go.Proofs.YtlphlbhbhcpnpaaDoor
