/- Walks over the reference of package bits. -/
import Derived.Test.YtlphlbhbhcpnpaaDoorBb
import Derived.Deep.RegionHeld3
import Derived.Deep.AppendLies
import Derived.Laws.AppendOwnNone
import Derived.WalkSmall
namespace Go.Proofs.YtlphlbhbhcpnpaaDoor
open Go.RowKit

/-- The first values of a function, as cells. -/
def vals (f : Nat → Nat) (m : Nat) : List Value := (List.range m).map fun i => Value.int .u64 ((f i : Nat) : Int)
theorem vals_len (f : Nat → Nat) (m : Nat) : (vals f m).length = m := by simp [vals]
theorem vals_succ (f : Nat → Nat) (m : Nat) : vals f m ++ [Value.int .u64 ((f m : Nat) : Int)] = vals f (m + 1) := by simp [vals, List.range_succ]
theorem vals_at (f : Nat → Nat) (m i : Nat) (h : i < m) : (vals f m)[i]? = some (Value.int .u64 ((f i : Nat) : Int)) := by simp [vals, h]

theorem Is64.of_owns {w : World} {B m : Nat} {v : Value} {f : Nat → Nat} (h : w.ownsRow B 56 1 v m (vals f m)) (hb : ∀ i, i < m → f i < 18446744073709551616) :
    ∃ a cap, v = .slice a m cap ∧ Is64 w a m cap (tab m f) := by
  have hh := h
  obtain ⟨h1, ⟨h2, h3⟩ | ⟨g, cap, cur, hv, hB, hg, h3, h4, h5, h6⟩⟩ := h
  · subst h3
    exact ⟨none, 0, h2, rfl, Nat.le_refl _, Nat.zero_le _, fun i hi => absurd hi (Nat.not_lt_zero _), fun h0 => absurd h0 (Nat.lt_irrefl _), fun _ => ⟨rfl, rfl⟩⟩
  · refine ⟨some ⟨g, 0, none⟩, cap, hv, tab_len m f, h3, h4, fun i hi => by rw [wd_tab _ _ _ hi]; exact hb i hi, fun _ => ⟨g, 0, rfl, lt_of_block hg, fun i hi => ?_⟩, fun e => by cases e⟩
    have := hh.cells (g := g) (by rw [hv]; rfl) i _ (vals_at f m i hi)
    rw [wd_tab _ _ _ hi]
    rw [show (⟨g, 0, none⟩ : Addr).add i = ⟨g, i, none⟩ by unfold Addr.add; split <;> simp_all] at this
    rw [Nat.zero_add]
    exact this

theorem one_new (w : World) (x : Value) (t : TypeId) : ∀ j u, [x][j]? = some u → (w.alloc (.cells #[x] t)).cell? ((⟨w.heap.size, 0, none⟩ : Addr).add j) = some u := by
  intro j u hj
  match j, hj with
  | 0, hj =>
    simp at hj
    subst hj
    have := cell_of_one (w := w.alloc (.cells #[x] t)) (heap_alloc_new w _)
    simp [Addr.add]
  | j + 1, hj => simp at hj

theorem oneCell_one (k : IntKind) (x : Int) : ∀ u ∈ [Value.int k x], u.oneCell' = true := by
  intro u hu
  simp at hu
  subst hu
  rfl
theorem oneCell_vals (f : Nat → Nat) (m : Nat) : ∀ u ∈ vals f m, u.oneCell' = true := by
  intro u hu
  simp only [vals, List.mem_map] at hu
  obtain ⟨i, _, rfl⟩ := hu
  rfl

theorem tab_wd (xs : List Nat) (m : Nat) (h : m ≤ xs.length) : tab m (wd xs) = xs.take m := by
  apply List.ext_getElem?
  intro i
  by_cases hi : i < m
  · simp [tab, hi, List.getElem?_take, wd, List.getD_eq_getElem?_getD, List.getElem?_eq_getElem (show i < xs.length by omega)]
  · simp [tab, hi, List.getElem?_take]

set_option maxRecDepth 100000 in
theorem rNormal_any (w : World) (a : Option Addr) (n cap : Nat) (xs : List Nat) (h : Is64 w a n cap xs) (s1 : n ≤ 1000000) :
    Calls Tryd.prog 72 #[.slice a n cap] w (Ret64 (xs.take (nlen xs n)) w) := by
  have hm := h.maxLe
  have hc := h.capLe
  have H := Lib.hid h
  unfold maxLen at hm
  obtain ⟨i0, hi, hz0, hz1, hz2⟩ := info_parts Tryd.info64
  have HI := Lib.hid (And.intro hi (And.intro hz0 (And.intro hz1 hz2)))
  clear h hi hz0 hz1 hz2
  go_enter Tryd.func72, Tryd.ntmps72
  go_wp2
  go_loop [3] (fun v => ∃ k : Nat, k ≤ n ∧ v = .int .i64 k ∧ Hid (nlen xs k = nlen xs n)) (fun v => (intOf v).toNat)
  case atStart => exact ⟨n, Nat.le_refl _, rfl, rfl⟩
  case round =>
    obtain ⟨k, hk, rfl, hr⟩ := hrel
    match k, hk, hr with
    | 0, hk, hr =>
      cases a with
      | none =>
        obtain ⟨rfl, rfl⟩ := H.out.nil rfl
        go_wp2_with (at_builtin; refine wpList_append_own_none rfl _ _ 43 rfl w.heap.size 56 i0 1 Tryd.underlying43 HI.out.1 _ 0 [] rfl (World.ownsRow_made (base := w.heap.size) (size := 1) (e := 56) w #[] 0 (Nat.le_refl _) (Nat.zero_le _) rfl) rfl ?_)
        go_ret
        exact ⟨_, 0, 0, rfl, ⟨by simp [nlen], Nat.le_refl _, Nat.zero_le _, fun i hi => absurd hi (Nat.not_lt_zero _), fun h0 => absurd h0 (Nat.lt_irrefl _), fun e => by cases e⟩, (Below.refl _ _).alloc (Nat.le_refl _) _⟩
      | some ad =>
        go_wp2_with (at_builtin; go_loud (refine wpList_append_own _ rfl _ _ 43 rfl w.heap.size 56 i0 (.int .u64 0) 1 8 Tryd.underlying43 HI.out.1 HI.out.2.1 HI.out.2.2.1 HI.out.2.2.2 rfl (by decide) _ _ _ rfl (World.ownsRow_made (base := w.heap.size) (size := 1) (e := 56) w #[] 0 (Nat.le_refl _) (Nat.zero_le _) rfl) ad 0 cap [] rfl rfl ?_ ?_ ?_ ?_ ?_ ?_); rotate_right; intro v' w3 hown hgrow _)
        go_ret
        obtain ⟨aa, cc, rfl, hres⟩ := Is64.of_owns (f := wd xs) (m := 0) hown (fun i hi => absurd hi (Nat.not_lt_zero _))
        rw [← hr.out]
        exact ⟨aa, 0, cc, rfl, hres, ((Below.refl _ _).alloc (Nat.le_refl _) _).grown hgrow (by simp) (fun j hj => Nat.le_of_eq (Option.some.inj hj))⟩
    | k + 1, hk, hr =>
      obtain ⟨b, off, rfl, hbl, hcell⟩ := H.out.at_ (by omega)
      have h0 := hcell k (by omega)
      by_cases hz : wd xs k = 0
      · rw [hz] at h0
        clear hcell
        have hr' : Hid (nlen xs k = nlen xs n) := by
          have := hr.out
          rw [nlen, if_pos hz] at this
          exact this
        clear hr hz
        go_wp2
        exact ⟨⟨k, by omega, rfl, hr'⟩, by simp [intOf]⟩
      · clear hcell
        have hz1 : (((wd xs k : Nat) : Int) == 0) = false := by simpa using hz
        have hr' : Hid (nlen xs n = k + 1) := by
          have := hr.out
          rw [nlen, if_neg hz] at this
          exact this.symm
        clear hr hz
        go_wp2_with (at_builtin; go_loud (refine wpList_append_own _ rfl _ _ 43 rfl w.heap.size 56 i0 (.int .u64 0) 1 8 Tryd.underlying43 HI.out.1 HI.out.2.1 HI.out.2.2.1 HI.out.2.2.2 rfl (by decide) _ _ _ rfl (World.ownsRow_made (base := w.heap.size) (size := 1) (e := 56) w #[] 0 (Nat.le_refl _) (Nat.zero_le _) rfl) ⟨b, off, none⟩ (k + 1) cap (vals (wd xs) (k + 1)) rfl (by rw [vals_len, Nat.mul_one]) ?_ ?_ ?_ ?_ ?_ ?_); rotate_right; intro v' w3 hown hgrow _)
        · go_ret
          obtain ⟨aa, cc, rfl, hres⟩ := Is64.of_owns (f := wd xs) (m := k + 1) (by simpa using hown) (fun i hi => H.out.bnd i (by omega))
          rw [tab_wd _ _ (by rw [H.out.len]; omega)] at hres
          rw [hr'.out]
          exact ⟨aa, k + 1, cc, rfl, hres, ((Below.refl _ _).alloc (Nat.le_refl _) _).grown hgrow (by simp) (fun j hj => Nat.le_of_eq (Option.some.inj hj))⟩
        · intro j u hu
          have hj : j < k + 1 := by
            have := (List.getElem?_eq_some_iff.1 hu).1
            rw [vals_len] at this
            exact this
          rw [vals_at _ _ _ hj] at hu
          obtain rfl := Option.some.inj hu
          obtain ⟨b', off', e', _, hcell'⟩ := H.out.at_ (by omega)
          cases e'
          exact hcell' j (by omega)
        · exact oneCell_vals _ _
        · unfold maxLen; omega
        · omega
set_option maxRecDepth 100000 in
theorem rAnd_any (w : World) (a1 a2 : Option Addr) (n1 n2 cap1 cap2 : Nat) (xs ys : List Nat) (h1 : Is64 w a1 n1 cap1 xs) (h2 : Is64 w a2 n2 cap2 ys) (s1 : n1 ≤ 1000000) (s2 : n2 ≤ 1000000) :
    Calls Tryd.prog 41 #[.slice a1 n1 cap1, .slice a2 n2 cap2] w (Ret64 (nrm n1 (andF xs ys)) w) := by
  have hc1 := h1.capLe
  have hc2 := h2.capLe
  have hm1 := h1.maxLe
  have hm2 := h2.maxLe
  unfold maxLen at hm1 hm2
  have H1 := Lib.hid h1
  have H2 := Lib.hid h2
  obtain ⟨i0, hi, hz0, hz1, hz2⟩ := info_parts Tryd.info64
  have HI := Lib.hid (And.intro hi (And.intro hz0 (And.intro hz1 hz2)))
  clear h1 h2 hi hz0 hz1 hz2
  go_enter Tryd.func41, Tryd.ntmps41
  go_wp2
  go_loopw [5, 6] (fun o v wr => ∃ k : Nat, k ≤ n1 ∧ v = .int .i64 k ∧ Hid (wr.ownsRow w.heap.size 56 1 o k (vals (andF xs ys) k)) ∧ Below w.heap.size w wr) (fun _ v _ => n1 - (intOf v).toNat)
  case atStart => exact ⟨0, Nat.zero_le _, rfl, World.ownsRow_nil _ _ _ _, Below.refl _ _⟩
  case round =>
    obtain ⟨k, hk, rfl, hrow, hb⟩ := hrel
    by_cases hlt : k < n1
    · obtain ⟨b1, o1, rfl, hl1, hx1⟩ := H1.out.at_ (by omega)
      have c1 := (hb.cell (p := ⟨b1, o1 + k, none⟩) hl1).trans (hx1 k (by omega))
      have G2' := Lib.hid (H2.out.below hb.drew)
      clear hx1
      go_wp2_with fail
      have hrow2 := Lib.hid ((hrow.out.alloc (.cells #[.int .u64 (bits BinOp.and IntKind.u64 ((wd xs k : Nat) : Int) ((wd ys k : Nat) : Int))] 56)).drew)
      have ak : u5.ownBlock ≠ some b1 := fun e => by have := (hrow.out.lt b1 e).1; omega
      have hlr := hb.size
      go_region_held3 (fun w' => w'.cell? ⟨b1, o1 + k, none⟩ = some (.int .u64 ((wd xs k : Nat) : Int))) (first | go_keep | (go_split_ands; rw [hgrow.cell_far _ (by simp; omega) (Ne.symm ak)]; assumption)) ((first | (go_at_call 75; (with_reducible refine (rword_any _ _ _ _ _ G2'.out k).mono ?_); rintro e w' ⟨rfl, rfl⟩) | (refine step_append_lies _ (by rfl) _ _ _ (by rfl) w.heap.size 56 i0 (.int .u64 0) 1 8 Tryd.underlying43 HI.out.1 HI.out.2.1 HI.out.2.2.1 HI.out.2.2.2 rfl (by decide) u5 k _ (by rfl) hrow2.out ⟨wr.heap.size, 0, none⟩ 1 1 [.int .u64 (bits BinOp.and IntKind.u64 ((wd xs k : Nat) : Int) ((wd ys k : Nat) : Int))] (by rfl) (by rfl) (World.news_of_block (cs := #[.int .u64 (bits BinOp.and IntKind.u64 ((wd xs k : Nat) : Int) ((wd ys k : Nat) : Int))]) (t := 56) (fr := (0, 0)) (heap_alloc_new wr _)) (oneCell_one _ _) (by omega) (by unfold maxLen; omega) (by omega) (by simp; have := hb.size; omega) (wr.heap.size + 1) (by simp) ?_; intro gg cap w1 hown1 hgrow hat hlt2)))
      go_wp2
      have hown' : w1.ownsRow w.heap.size 56 1 (.slice (some ⟨gg, 0, none⟩) (k + 1) cap) (k + 1) (vals (andF xs ys) (k + 1)) := by
        rw [and_int (H1.out.lt k) (H2.out.lt k)] at hown1
        rw [← vals_succ]
        exact hown1
      exact ⟨⟨k + 1, by omega, by go_num, hown', ((hb.alloc hb.size _).drew).grown hgrow (by simp; omega) (fun j hj => (hrow.out.lt j hj).1)⟩, by simp [intOf]; omega⟩
    · have ek : n1 = k := by omega
      subst ek
      obtain ⟨aa, cc, rfl, hres⟩ := Is64.of_owns hrow.out (fun i hi => and_lt (H1.out.bnd i hi))
      have HRes := Lib.hid hres
      clear hrow hres
      go_wp2_with (go_at_call 72; refine (rNormal_any _ _ _ _ _ HRes.out s1).mono ?_; rintro e w' ⟨a', n', cap', rfl, h', hb'⟩)
      go_ret
      exact ⟨a', n', cap', rfl, h', hb.trans (hb'.mono hb.size)⟩
set_option maxRecDepth 100000 in
theorem rMinus_any (w : World) (a1 a2 : Option Addr) (n1 n2 cap1 cap2 : Nat) (xs ys : List Nat) (h1 : Is64 w a1 n1 cap1 xs) (h2 : Is64 w a2 n2 cap2 ys) (s1 : n1 ≤ 1000000) (s2 : n2 ≤ 1000000) :
    Calls Tryd.prog 45 #[.slice a1 n1 cap1, .slice a2 n2 cap2] w (Ret64 (nrm n1 (minF xs ys)) w) := by
  have hc1 := h1.capLe
  have hc2 := h2.capLe
  have hm1 := h1.maxLe
  have hm2 := h2.maxLe
  unfold maxLen at hm1 hm2
  have H1 := Lib.hid h1
  have H2 := Lib.hid h2
  obtain ⟨i0, hi, hz0, hz1, hz2⟩ := info_parts Tryd.info64
  have HI := Lib.hid (And.intro hi (And.intro hz0 (And.intro hz1 hz2)))
  clear h1 h2 hi hz0 hz1 hz2
  go_enter Tryd.func45, Tryd.ntmps45
  go_wp2
  go_loopw [5, 6] (fun o v wr => ∃ k : Nat, k ≤ n1 ∧ v = .int .i64 k ∧ Hid (wr.ownsRow w.heap.size 56 1 o k (vals (minF xs ys) k)) ∧ Below w.heap.size w wr) (fun _ v _ => n1 - (intOf v).toNat)
  case atStart => exact ⟨0, Nat.zero_le _, rfl, World.ownsRow_nil _ _ _ _, Below.refl _ _⟩
  case round =>
    obtain ⟨k, hk, rfl, hrow, hb⟩ := hrel
    by_cases hlt : k < n1
    · obtain ⟨b1, o1, rfl, hl1, hx1⟩ := H1.out.at_ (by omega)
      have c1 := (hb.cell (p := ⟨b1, o1 + k, none⟩) hl1).trans (hx1 k (by omega))
      have G2' := Lib.hid (H2.out.below hb.drew)
      clear hx1
      go_wp2_with fail
      have hrow2 := Lib.hid ((hrow.out.alloc (.cells #[.int .u64 (bits BinOp.andNot IntKind.u64 ((wd xs k : Nat) : Int) ((wd ys k : Nat) : Int))] 56)).drew)
      have ak : u5.ownBlock ≠ some b1 := fun e => by have := (hrow.out.lt b1 e).1; omega
      have hlr := hb.size
      go_region_held3 (fun w' => w'.cell? ⟨b1, o1 + k, none⟩ = some (.int .u64 ((wd xs k : Nat) : Int))) (first | go_keep | (go_split_ands; rw [hgrow.cell_far _ (by simp; omega) (Ne.symm ak)]; assumption)) ((first | (go_at_call 75; (with_reducible refine (rword_any _ _ _ _ _ G2'.out k).mono ?_); rintro e w' ⟨rfl, rfl⟩) | (refine step_append_lies _ (by rfl) _ _ _ (by rfl) w.heap.size 56 i0 (.int .u64 0) 1 8 Tryd.underlying43 HI.out.1 HI.out.2.1 HI.out.2.2.1 HI.out.2.2.2 rfl (by decide) u5 k _ (by rfl) hrow2.out ⟨wr.heap.size, 0, none⟩ 1 1 [.int .u64 (bits BinOp.andNot IntKind.u64 ((wd xs k : Nat) : Int) ((wd ys k : Nat) : Int))] (by rfl) (by rfl) (World.news_of_block (cs := #[.int .u64 (bits BinOp.andNot IntKind.u64 ((wd xs k : Nat) : Int) ((wd ys k : Nat) : Int))]) (t := 56) (fr := (0, 0)) (heap_alloc_new wr _)) (oneCell_one _ _) (by omega) (by unfold maxLen; omega) (by omega) (by simp; have := hb.size; omega) (wr.heap.size + 1) (by simp) ?_; intro gg cap w1 hown1 hgrow hat hlt2)))
      go_wp2
      have hown' : w1.ownsRow w.heap.size 56 1 (.slice (some ⟨gg, 0, none⟩) (k + 1) cap) (k + 1) (vals (minF xs ys) (k + 1)) := by
        rw [not_int (H1.out.lt k) (H2.out.lt k)] at hown1
        rw [← vals_succ]
        exact hown1
      exact ⟨⟨k + 1, by omega, by go_num, hown', ((hb.alloc hb.size _).drew).grown hgrow (by simp; omega) (fun j hj => (hrow.out.lt j hj).1)⟩, by simp [intOf]; omega⟩
    · have ek : n1 = k := by omega
      subst ek
      obtain ⟨aa, cc, rfl, hres⟩ := Is64.of_owns hrow.out (fun i hi => not_lt' (H1.out.bnd i hi))
      have HRes := Lib.hid hres
      clear hrow hres
      go_wp2_with (go_at_call 72; refine (rNormal_any _ _ _ _ _ HRes.out s1).mono ?_; rintro e w' ⟨a', n', cap', rfl, h', hb'⟩)
      go_ret
      exact ⟨a', n', cap', rfl, h', hb.trans (hb'.mono hb.size)⟩
set_option maxRecDepth 100000 in
theorem rOr_any (w : World) (a1 a2 : Option Addr) (n1 n2 cap1 cap2 : Nat) (xs ys : List Nat) (h1 : Is64 w a1 n1 cap1 xs) (h2 : Is64 w a2 n2 cap2 ys) (s1 : n1 ≤ 1000000) (s2 : n2 ≤ 1000000) :
    Calls Tryd.prog 43 #[.slice a1 n1 cap1, .slice a2 n2 cap2] w (Ret64 (nrm (max n1 n2) (orF xs ys)) w) := by
  have hc1 := h1.capLe
  have hc2 := h2.capLe
  have hm1 := h1.maxLe
  have hm2 := h2.maxLe
  unfold maxLen at hm1 hm2
  have H1 := Lib.hid h1
  have H2 := Lib.hid h2
  obtain ⟨i0, hi, hz0, hz1, hz2⟩ := info_parts Tryd.info64
  have HI := Lib.hid (And.intro hi (And.intro hz0 (And.intro hz1 hz2)))
  clear h1 h2 hi hz0 hz1 hz2
  obtain ⟨m, em⟩ : ∃ m : Nat, max n1 n2 = m := ⟨_, rfl⟩
  rw [em]
  have l1 : n1 ≤ m := by omega
  have l2 : n2 ≤ m := by omega
  have l3 : m ≤ 1000000 := by omega
  have em' : Hid ((n1 < n2 → m = n2) ∧ (¬ n1 < n2 → m = n1)) := by show _ ∧ _; omega
  clear em
  by_cases hle : n1 < n2
  all_goals
    first | (have e := em'.out.1 hle; clear em'; subst e) | (have e := em'.out.2 hle; clear em'; subst e)
    go_enter Tryd.func43, Tryd.ntmps43
    go_wp2
    go_loopw [5, 6] (fun o v wr => ∃ k : Nat, k ≤ m ∧ v = .int .i64 k ∧ Hid (wr.ownsRow w.heap.size 56 1 o k (vals (orF xs ys) k)) ∧ Below w.heap.size w wr) (fun _ v _ => m - (intOf v).toNat)
    case atStart => exact ⟨0, Nat.zero_le _, rfl, World.ownsRow_nil _ _ _ _, Below.refl _ _⟩
    case round =>
      obtain ⟨k, hk, rfl, hrow, hb⟩ := hrel
      by_cases hlt : k < m
      · have G1 := Lib.hid (H1.out.below hb)
        have G2 := Lib.hid (H2.out.below hb)
        have hlr := hb.size
        go_wp2_with (first | (go_at_call 75; first | ((with_reducible refine (rword_any _ _ _ _ _ G1.out k).mono ?_); rintro e w' ⟨rfl, rfl⟩) | ((with_reducible refine (rword_any _ _ _ _ _ G2.out k).mono ?_); rintro e w' ⟨rfl, rfl⟩)) | (at_builtin; refine wpList_append_own _ rfl _ _ 43 rfl w.heap.size 56 i0 (.int .u64 0) 1 8 Tryd.underlying43 HI.out.1 HI.out.2.1 HI.out.2.2.1 HI.out.2.2.2 rfl (by decide) _ _ _ rfl (hrow.out.alloc _) ⟨wr.heap.size, 0, none⟩ 1 1 [.int .u64 (bits BinOp.or IntKind.u64 ((wd xs k : Nat) : Int) ((wd ys k : Nat) : Int))] rfl rfl (one_new _ _ _) ?_ ?_ ?_ ?_ ?_; rotate_right; intro v' w3 hown hgrow _))
        · have hown' : w3.ownsRow w.heap.size 56 1 v' (k + 1) (vals (orF xs ys) (k + 1)) := by
            rw [or_int (H1.out.lt k) (H2.out.lt k)] at hown
            rw [← vals_succ]
            exact hown
          exact ⟨⟨k + 1, by omega, by go_num, hown', (hb.alloc hb.size _).grown hgrow (by simp; omega) (fun j hj => (hrow.out.lt j hj).1)⟩, by simp [intOf]; omega⟩
        · exact oneCell_one _ _
        · unfold maxLen; omega
        · omega
        · simp; omega
      · have ek : m = k := by omega
        subst ek
        obtain ⟨aa, cc, rfl, hres⟩ := Is64.of_owns hrow.out (fun i hi => or_lt (H1.out.lt i) (H2.out.lt i))
        have HRes := Lib.hid hres
        clear hrow hres
        go_wp2_with (go_at_call 72; refine (rNormal_any _ _ _ _ _ HRes.out l3).mono ?_; rintro e w' ⟨a', n', cap', rfl, h', hb'⟩)
        go_ret
        exact ⟨a', n', cap', rfl, h', hb.trans (hb'.mono hb.size)⟩
end Go.Proofs.YtlphlbhbhcpnpaaDoor
