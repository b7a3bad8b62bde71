/- Walks over package bits: And, Or, Minus. -/
import Derived.Test.YtlphlbhbhcpnpaaDoorBw
import Derived.RegionTactic
namespace Go.Proofs.YtlphlbhbhcpnpaaDoor
open Go.RowKit

theorem Tryd.info64 : (Tryd.prog.info? 56).map (fun i => (i.zero, i.size, i.bytes)) = some (some (.int .u64 0), 1, 8) := by kernel_rfl

/-- A block that holds just these words. -/
def Row64 (w : World) (g m : Nat) (f : Nat → Nat) : Prop := w.heap[g]? = some (.cells ((List.range m).map fun i => Value.int .u64 ((f i : Nat) : Int)).toArray 56 (0, 0))

theorem Row64.cell {w : World} {g m : Nat} {f : Nat → Nat} (h : Row64 w g m f) {k : Nat} (hk : k < m) : w.cell? ⟨g, k, none⟩ = some (.int .u64 ((f k : Nat) : Int)) := by
  unfold Row64 at h
  simp [World.cell?, h, hk]
theorem Row64.free {w : World} {g m : Nat} {f : Nat → Nat} (h : Row64 w g m f) (k : Nat) : w.frozen? ⟨g, k, none⟩ = false := by
  unfold Row64 at h
  simp [World.frozen?, h]
theorem Row64.set {w : World} {g m : Nat} {f f' : Nat → Nat} (h : Row64 w g m f) {k : Nat} (hk : k < m) (v : Int) (hv : v = ((f' k : Nat) : Int)) (ho : ∀ i, i ≠ k → f' i = f i) :
    Row64 (w.setCell ⟨g, k, none⟩ (.int .u64 v)) g m f' := by
  unfold Row64 at h ⊢
  subst hv
  simp only [World.setCell, Array.getElem?_modify, h, if_true, Option.map_some, Option.isSome_none, Bool.false_eq_true, if_false]
  congr 2
  apply Array.ext_getElem?
  intro i
  simp only [List.setIfInBounds_toArray, List.getElem?_toArray, List.getElem?_set, List.getElem?_map, List.length_map, List.length_range]
  by_cases hi : k = i
  · subst hi; simp [hk]
  · by_cases him : i < m <;> simp [hi, him, ho i (Ne.symm hi)]
theorem Row64.of_heap {w w' : World} {g m : Nat} {f : Nat → Nat} (h : Row64 w g m f) (e : w'.heap[g]? = w.heap[g]?) : Row64 w' g m f := by
  unfold Row64 at h ⊢
  rw [e, h]

theorem Row64.made {w : World} {B g m : Nat} (h : w.ownsRow B 56 1 (.slice (some ⟨g, 0, none⟩) m m) m (madeCells (Value.int .u64 0).cells (m * 1)).toList) : Row64 w g m (fun _ => 0) := by
  obtain ⟨h1, ⟨h2, _⟩ | ⟨g', cap, cur, hv, hb, hg, h3, h4, h5, h6⟩⟩ := h
  · cases h2
  · cases hv
    unfold Row64
    rw [hg]
    have e : cur = ((List.range m).map fun _ => Value.int .u64 (((0 : Nat) : Nat) : Int)).toArray := by
      have e2 : cur.toList = (madeCells (Value.int .u64 0).cells (m * 1)).toList := by
        rw [← h6, List.take_of_length_le]
        simp; omega
      apply Array.ext'
      rw [e2]
      simp [madeCells, Value.cells, Nat.mod_one]
    rw [e]



/-- The list of a function's first values. -/
def tab (m : Nat) (f : Nat → Nat) : List Nat := (List.range m).map f
theorem tab_len (m : Nat) (f : Nat → Nat) : (tab m f).length = m := by simp [tab]
theorem wd_tab (m : Nat) (f : Nat → Nat) (i : Nat) (h : i < m) : wd (tab m f) i = f i := by simp [wd, tab, h]
/-- The same without the zero words at its end. -/
def nrm (m : Nat) (f : Nat → Nat) : List Nat := (tab m f).take (nlen (tab m f) m)

theorem Row64.is64 {w : World} {g m : Nat} {f f' : Nat → Nat} (h : Row64 w g m f') (he : ∀ i, i < m → f' i = f i) (hb : ∀ i, i < m → f i < 18446744073709551616) (hm : m ≤ maxLen) (hg : g < w.heap.size) :
    Is64 w (some ⟨g, 0, none⟩) m m (tab m f) := by
  refine ⟨tab_len m f, Nat.le_refl _, hm, fun i hi => by rw [wd_tab _ _ _ hi]; exact hb i hi, fun _ => ⟨g, 0, rfl, hg, fun i hi => ?_⟩, fun e => by cases e⟩
  rw [wd_tab _ _ _ hi, ← he i hi, Nat.zero_add]
  exact h.cell hi

/-- The call returns a slice that reads as this list; nothing that was there has changed. -/
def Ret64 (xs : List Nat) (w : World) (e : Ending) (w' : World) : Prop :=
  ∃ a n cap, e = .returned (.slice a n cap) ∧ Is64 w' a n cap xs ∧ Below w.heap.size w w'

theorem Ret64.nrm {w w' : World} {a : Option Addr} {m cap : Nat} {f : Nat → Nat} {e : Ending} (h : Is64 w' a m cap (tab m f)) (hb : Below w.heap.size w w') (he : e = .returned (.slice a (nlen (tab m f) m) cap)) :
    Ret64 (nrm m f) w e w' := ⟨a, _, cap, he, h.take (nlen_le _ _), hb⟩

/-- What the loop of And, Or or Minus has done after k rounds. -/
def upTo (f : Nat → Nat) (k i : Nat) : Nat := if i < k then f i else 0
theorem upTo_lt (f : Nat → Nat) (k i : Nat) (h : i < k) : upTo f k i = f i := by simp [upTo, h]
theorem upTo_ne (f : Nat → Nat) (k i : Nat) (h : i ≠ k) : upTo f (k + 1) i = upTo f k i := by
  unfold upTo
  by_cases h1 : i < k
  · rw [if_pos h1, if_pos (by omega)]
  · rw [if_neg h1, if_neg (by omega)]

theorem Row64.next {w : World} {g m k : Nat} {f : Nat → Nat} (h : Row64 w g m (upTo f k)) (hk : k < m) (v : Int) (hv : v = ((f k : Nat) : Int)) : Row64 (w.setCell ⟨g, k, none⟩ (.int .u64 v)).drew g m (upTo f (k + 1)) :=
  Row64.set h hk v (by rw [hv, upTo_lt _ _ _ (Nat.lt_succ_self k)]) fun i hi => upTo_ne f k i hi

theorem and_lt {a b : Nat} (h : a < 18446744073709551616) : a &&& b < 18446744073709551616 := Nat.lt_of_le_of_lt Nat.and_le_left h
theorem and_int {a b : Nat} (h : a < 18446744073709551616) (h' : b < 18446744073709551616) : bits .and .u64 (a : Int) (b : Int) = ((a &&& b : Nat) : Int) := u64_and_nat a b h h'

def andF (xs ys : List Nat) (i : Nat) : Nat := wd xs i &&& wd ys i

set_option maxRecDepth 100000 in
theorem And_any (w : World) (a1 a2 : Option Addr) (n1 n2 cap1 cap2 : Nat) (xs ys : List Nat) (h1 : Is64 w a1 n1 cap1 xs) (h2 : Is64 w a2 n2 cap2 ys) (s1 : n1 ≤ 1000000) (s2 : n2 ≤ 1000000) :
    Calls Tryd.prog 40 #[.slice a1 n1 cap1, .slice a2 n2 cap2] w (Ret64 (nrm (min n1 n2) (andF xs ys)) w) := by
  have hc1 := h1.capLe
  have hc2 := h2.capLe
  have hm1 := h1.maxLe
  have hm2 := h2.maxLe
  obtain ⟨m, em⟩ : ∃ m : Nat, min n1 n2 = m := ⟨_, rfl⟩
  rw [em]
  have l1 : m ≤ n1 := by omega
  have l2 : m ≤ n2 := by omega
  have em' : Hid (m = n1 ∨ m = n2) := by show _ ∨ _; omega
  unfold maxLen at hm1 hm2
  have H1 := Lib.hid h1
  have H2 := Lib.hid h2
  obtain ⟨i0, hi, hz0, hz1, hz2⟩ := info_parts Tryd.info64
  have HI := Lib.hid (And.intro hi (And.intro hz0 (And.intro hz1 hz2)))
  clear h1 h2 em hi hz0 hz1 hz2
  by_cases hle : n2 < n1
  all_goals
    go_enter Tryd.func40, Tryd.ntmps40
    go_wp2_with (at_make; refine wpList_make_full _ rfl _ _ _ rfl w.heap.size 56 i0 (.int .u64 0) 1 Tryd.underlying43 HI.out.1 HI.out.2.1 HI.out.2.2.1 _ _ _ _ m rfl rfl ?_ ?_ ?_ ?_ (Nat.le_refl _) ?_; rotate_right; intro w1 hown hgrow)
    · have hb0 : Below w.heap.size w w1 := (Below.refl _ _).grown hgrow (Nat.le_refl _) (fun _ e => by cases e)
      have hr0 := Row64.made hown
      have HR := Lib.hid hr0
      have hsz := lt_of_block hr0
      clear hown hgrow hr0
      go_loopw [15] (fun v wr => ∃ k : Nat, k ≤ m ∧ v = .int .i64 k ∧ Hid (Row64 wr w.heap.size m (upTo (andF xs ys) k)) ∧ Below w.heap.size w wr ∧ w.heap.size < wr.heap.size) (fun v _ => m - (intOf v).toNat)
      case atStart => exact ⟨0, Nat.zero_le _, rfl, HR.out, hb0, hsz⟩
      case round =>
        obtain ⟨k, hk, rfl, hrow, hb, hsr⟩ := hrel
        by_cases hlt : k < m
        · obtain ⟨b1, o1, rfl, hl1, hx1⟩ := H1.out.at_ (by omega)
          obtain ⟨b2, o2, rfl, hl2, hx2⟩ := H2.out.at_ (by omega)
          have c1 := (hb.cell (p := ⟨b1, o1 + k, none⟩) hl1).trans (hx1 k (by omega))
          have c2 := (hb.cell (p := ⟨b2, o2 + k, none⟩) hl2).trans (hx2 k (by omega))
          have c3 := hrow.out.cell hlt
          have f3 := hrow.out.free k
          clear hx1 hx2
          go_wp2
          go_region
          go_wp2
          go_roundw
          case rel =>
            exact ⟨k + 1, by omega, by go_num, hrow.out.next hlt _ (and_int (H1.out.bnd k (by omega)) (H2.out.bnd k (by omega))), (hb.setCell (Nat.le_refl _) _).drew, by simpa using hsr⟩
          case measure => simp [intOf]; omega
        · obtain rfl : k = m := by omega
          have hres := hrow.out.is64 (f := andF xs ys) (fun i hi => upTo_lt _ _ _ hi) (fun i hi => and_lt (H1.out.bnd i (by omega))) (by unfold maxLen; omega) hsr
          have HRes := Lib.hid hres
          clear hrow hres
          go_wp2_with (go_at_call 74; refine (normal_any _ _ _ _ _ HRes.out).mono ?_; rintro e w' ⟨rfl, rfl⟩)
          go_ret
          exact Ret64.nrm HRes.out hb rfl
    all_goals first | (rw [HI.out.2.2.2]; omega) | (unfold maxLen; omega) | (have := em'.out; omega)

theorem Is64.lt {w : World} {a : Option Addr} {n cap : Nat} {xs : List Nat} (h : Is64 w a n cap xs) (i : Nat) : wd xs i < 18446744073709551616 := by
  by_cases hi : i < n
  · exact h.bnd i hi
  · rw [wd_out xs i (by rw [h.len]; omega)]; decide
theorem or_lt {a b : Nat} (h : a < 18446744073709551616) (h' : b < 18446744073709551616) : a ||| b < 18446744073709551616 := Nat.or_lt_two_pow (n := 64) h h'
theorem or_int {a b : Nat} (h : a < 18446744073709551616) (h' : b < 18446744073709551616) : bits .or .u64 (a : Int) (b : Int) = ((a ||| b : Nat) : Int) := u64_or_nat a b h h'
/-- The bits of a that b lacks. -/
def nat_not (a b : Nat) : Nat := a &&& (18446744073709551615 - b)
theorem not_lt' {a b : Nat} (h : a < 18446744073709551616) : nat_not a b < 18446744073709551616 := and_lt h
theorem not_int {a b : Nat} (h : a < 18446744073709551616) (h' : b < 18446744073709551616) : bits .andNot .u64 (a : Int) (b : Int) = ((nat_not a b : Nat) : Int) := u64_andNot_nat a b h h'

def orF (xs ys : List Nat) (i : Nat) : Nat := wd xs i ||| wd ys i

set_option maxRecDepth 100000 in
theorem Or_any (w : World) (a1 a2 : Option Addr) (n1 n2 cap1 cap2 : Nat) (xs ys : List Nat) (h1 : Is64 w a1 n1 cap1 xs) (h2 : Is64 w a2 n2 cap2 ys) (s1 : n1 ≤ 1000000) (s2 : n2 ≤ 1000000) :
    Calls Tryd.prog 42 #[.slice a1 n1 cap1, .slice a2 n2 cap2] w (Ret64 (nrm (max n1 n2) (orF xs ys)) w) := by
  have hc1 := h1.capLe
  have hc2 := h2.capLe
  have hm1 := h1.maxLe
  have hm2 := h2.maxLe
  obtain ⟨m, em⟩ : ∃ m : Nat, max n1 n2 = m := ⟨_, rfl⟩
  rw [em]
  have l1 : n1 ≤ m := by omega
  have l2 : n2 ≤ m := by omega
  have l3 : m ≤ 1000000 := by omega
  have em' : Hid (m = n1 ∨ m = n2) := by show _ ∨ _; omega
  unfold maxLen at hm1 hm2
  have H1 := Lib.hid h1
  have H2 := Lib.hid h2
  obtain ⟨i0, hi, hz0, hz1, hz2⟩ := info_parts Tryd.info64
  have HI := Lib.hid (And.intro hi (And.intro hz0 (And.intro hz1 hz2)))
  clear h1 h2 em hi hz0 hz1 hz2
  by_cases hle : n1 < n2
  all_goals
    go_enter Tryd.func42, Tryd.ntmps42
    go_wp2_with (at_make; refine wpList_make_full _ rfl _ _ _ rfl w.heap.size 56 i0 (.int .u64 0) 1 Tryd.underlying43 HI.out.1 HI.out.2.1 HI.out.2.2.1 _ _ _ _ m rfl rfl ?_ ?_ ?_ ?_ (Nat.le_refl _) ?_; rotate_right; intro w1 hown hgrow)
    · have hb0 : Below w.heap.size w w1 := (Below.refl _ _).grown hgrow (Nat.le_refl _) (fun _ e => by cases e)
      have hr0 := Row64.made hown
      have HR := Lib.hid hr0
      have hsz := lt_of_block hr0
      clear hown hgrow hr0
      go_loopw [15] (fun v wr => ∃ k : Nat, k ≤ m ∧ v = .int .i64 k ∧ Hid (Row64 wr w.heap.size m (upTo (orF xs ys) k)) ∧ Below w.heap.size w wr ∧ w.heap.size < wr.heap.size) (fun v _ => m - (intOf v).toNat)
      case atStart => exact ⟨0, Nat.zero_le _, rfl, HR.out, hb0, hsz⟩
      case round =>
        obtain ⟨k, hk, rfl, hrow, hb, hsr⟩ := hrel
        by_cases hlt : k < m
        · have c3 := hrow.out.cell hlt
          have f3 := hrow.out.free k
          have G1 := Lib.hid (H1.out.below hb)
          have G2 := Lib.hid (H2.out.below hb)
          go_wp2_with (go_at_call 76; first | ((with_reducible refine (word_any _ _ _ _ _ G1.out k).mono ?_); rintro e w' ⟨rfl, rfl⟩) | ((with_reducible refine (word_any _ _ _ _ _ G2.out k).mono ?_); rintro e w' ⟨rfl, rfl⟩))
          go_roundw
          case rel =>
            exact ⟨k + 1, by omega, by go_num, hrow.out.next hlt _ (or_int (H1.out.lt k) (H2.out.lt k)), hb.setCell (Nat.le_refl _) _, by simpa using hsr⟩
          case measure => simp [intOf]; omega
        · obtain rfl : k = m := by omega
          have hres := hrow.out.is64 (f := orF xs ys) (fun i hi => upTo_lt _ _ _ hi) (fun i hi => or_lt (H1.out.lt i) (H2.out.lt i)) (by unfold maxLen; omega) hsr
          have HRes := Lib.hid hres
          clear hrow hres
          go_wp2_with (go_at_call 74; refine (normal_any _ _ _ _ _ HRes.out).mono ?_; rintro e w' ⟨rfl, rfl⟩)
          go_ret
          exact Ret64.nrm HRes.out hb rfl
    all_goals first | (rw [HI.out.2.2.2]; omega) | (unfold maxLen; omega) | (have := em'.out; omega)
def minF (xs ys : List Nat) (i : Nat) : Nat := nat_not (wd xs i) (wd ys i)

set_option maxRecDepth 100000 in
theorem Minus_any (w : World) (a1 a2 : Option Addr) (n1 n2 cap1 cap2 : Nat) (xs ys : List Nat) (h1 : Is64 w a1 n1 cap1 xs) (h2 : Is64 w a2 n2 cap2 ys) (s1 : n1 ≤ 1000000) (s2 : n2 ≤ 1000000) :
    Calls Tryd.prog 44 #[.slice a1 n1 cap1, .slice a2 n2 cap2] w (Ret64 (nrm (n1) (minF xs ys)) w) := by
  have hc1 := h1.capLe
  have hc2 := h2.capLe
  have hm1 := h1.maxLe
  have hm2 := h2.maxLe
  unfold maxLen at hm1 hm2
  have H1 := Lib.hid h1
  have H2 := Lib.hid h2
  obtain ⟨i0, hi, hz0, hz1, hz2⟩ := info_parts Tryd.info64
  have HI := Lib.hid (And.intro hi (And.intro hz0 (And.intro hz1 hz2)))
  clear h1 h2 hi hz0 hz1 hz2
  all_goals
    go_enter Tryd.func44, Tryd.ntmps44
    go_wp2_with (at_make; refine wpList_make_full _ rfl _ _ _ rfl w.heap.size 56 i0 (.int .u64 0) 1 Tryd.underlying43 HI.out.1 HI.out.2.1 HI.out.2.2.1 _ _ _ _ n1 rfl rfl rfl rfl ?_ ?_ (Nat.le_refl _) ?_; rotate_right; intro w1 hown hgrow)
    · have hb0 : Below w.heap.size w w1 := (Below.refl _ _).grown hgrow (Nat.le_refl _) (fun _ e => by cases e)
      have hr0 := Row64.made hown
      have HR := Lib.hid hr0
      have hsz := lt_of_block hr0
      clear hown hgrow hr0
      go_loopw [13] (fun v wr => ∃ k : Nat, k ≤ n1 ∧ v = .int .i64 k ∧ Hid (Row64 wr w.heap.size n1 (upTo (minF xs ys) k)) ∧ Below w.heap.size w wr ∧ w.heap.size < wr.heap.size) (fun v _ => n1 - (intOf v).toNat)
      case atStart => exact ⟨0, Nat.zero_le _, rfl, HR.out, hb0, hsz⟩
      case round =>
        obtain ⟨k, hk, rfl, hrow, hb, hsr⟩ := hrel
        by_cases hlt : k < n1
        · obtain ⟨b1, o1, rfl, hl1, hx1⟩ := H1.out.at_ (by omega)
          have c1 := (hb.cell (p := ⟨b1, o1 + k, none⟩) hl1).trans (hx1 k (by omega))
          clear hx1
          have c3 := hrow.out.cell hlt
          have f3 := hrow.out.free k
          have G1 := Lib.hid (H1.out.below hb)
          have G2 := Lib.hid (H2.out.below hb)
          go_wp2_with (go_at_call 76; first | ((with_reducible refine (word_any _ _ _ _ _ G1.out k).mono ?_); rintro e w' ⟨rfl, rfl⟩) | ((with_reducible refine (word_any _ _ _ _ _ G2.out k).mono ?_); rintro e w' ⟨rfl, rfl⟩))
          go_roundw
          case rel =>
            exact ⟨k + 1, by omega, by go_num, hrow.out.next hlt _ (not_int (H1.out.lt k) (H2.out.lt k)), hb.setCell (Nat.le_refl _) _, by simpa using hsr⟩
          case measure => simp [intOf]; omega
        · have ek : n1 = k := by omega
          subst ek
          have hres := hrow.out.is64 (f := minF xs ys) (fun i hi => upTo_lt _ _ _ hi) (fun i hi => not_lt' (H1.out.lt i)) (by unfold maxLen; omega) hsr
          have HRes := Lib.hid hres
          clear hrow hres
          go_wp2_with (go_at_call 74; refine (normal_any _ _ _ _ _ HRes.out).mono ?_; rintro e w' ⟨rfl, rfl⟩)
          go_ret
          exact Ret64.nrm HRes.out hb rfl
    all_goals first | (rw [HI.out.2.2.2]; omega) | (unfold maxLen; omega)
end Go.Proofs.YtlphlbhbhcpnpaaDoor
