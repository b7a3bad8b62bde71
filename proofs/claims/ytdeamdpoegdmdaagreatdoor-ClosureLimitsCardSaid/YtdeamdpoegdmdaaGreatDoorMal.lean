/- Texts joined by wip/gen/merge.py: Dn. -/
import Derived.Test.YtdeamdpoegdmdaaGreatDoorMak
set_option linter.unusedVariables false
set_option linter.unusedSimpArgs false
/- closure: walk of ClosureChains. -/
namespace Go.Proofs.YtdeamdpoegdmdaaGreatDoor
open Go.RowKit Go.Maps Go.Shelf
open S (wd Is64 Fresh bit SAnd SOr IsInt wi ints ivals)

/-! The plain part: what is reached by Supers. -/
theorem Tys.sups_zero {L : List Ty} (T : Tys L) (h : 0 < L.length) : sups L 0 = [] := by
  refine List.eq_nil_iff_forall_not_mem.2 fun k hk => ?_
  have := ((T.mem_sups h).1 hk).1
  omega
theorem Tys.sups_pos {L : List Ty} (T : Tys L) {x : Nat} (hx : x < L.length) (h0 : 0 < x) : sups L x ≠ [] := by
  intro e
  obtain ⟨m, hm, hp, hmax⟩ := greatest (p := fun k => subT L k x = true) x ⟨0, h0, (T.sub_iff (by omega) hx).2 (T.top0 hx)⟩
  have hd : Dir L x m := by
    refine ⟨by omega, hp, fun y hy => ?_⟩
    refine Classical.byContradiction fun hn => ?_
    have e1 : subT L m y = true := by
      cases e : subT L m y with
      | true => rfl
      | false => exact absurd (.inr (.inr (.inl e))) hn
    have e2 : subT L y x = true := by
      cases e : subT L y x with
      | true => rfl
      | false => exact absurd (.inr (.inr (.inr e))) hn
    have hyx : y ≠ x := fun e => hn (.inl e)
    have hym : y ≠ m := fun e => hn (.inr (.inl e))
    have a1 := T.subT_le hy hx e2
    have a2 := T.subT_le (by omega) hy e1
    have a3 := hmax y (by omega) e2
    omega
  have hm2 : m ∈ sups L x := (T.mem_sups hx).2 ⟨hm, hd⟩
  rw [e] at hm2
  cases hm2
structure Rsp (L : List Ty) (a n : Nat) (T : List Nat) : Prop where
  nodup : T.Nodup
  has : a ∈ T
  ok : ∀ x ∈ T, x < L.length ∧ subT L x a = true
  done : ∀ i x, i < n → T[i]? = some x → ∀ s ∈ sups L x, s ∈ T
theorem Rsp.len {L : List Ty} {a n : Nat} {T : List Nat} (h : Rsp L a n T) : T.length ≤ L.length := by
  have := nodup_len_g (b := List.range L.length) h.nodup (fun x hx => List.mem_range.2 (h.ok x hx).1)
  rwa [List.length_range] at this
theorem Rsp.start {L : List Ty} (T : Tys L) {a : Nat} (ha : a < L.length) : Rsp L a 0 [a] :=
  ⟨by simp, by simp, fun x hx => by
    rw [List.mem_singleton] at hx
    rw [hx]
    exact ⟨ha, (T.sub_iff ha ha).2 (Sub.refl _)⟩, fun i x hi => absurd hi (Nat.not_lt_zero _)⟩
theorem Rsp.add {L : List Ty} (Y : Tys L) {a n t k : Nat} {T : List Nat} (h : Rsp L a n T) (ha : a < L.length) (hn : n < T.length) (ht : T[n]? = some t) (hk : k ∈ sups L t) (hkT : k ∉ T) : Rsp L a n (T ++ [k]) := by
  have hto := h.ok t (List.mem_of_getElem? ht)
  obtain ⟨hlt, hd⟩ := (Y.mem_sups hto.1).1 hk
  refine ⟨?_, List.mem_append_left _ h.has, fun x hx => ?_, fun i x hi hx s hs => ?_⟩
  · rw [List.nodup_append]
    exact ⟨h.nodup, by simp, fun x hx y hy => by rw [List.mem_singleton] at hy; rw [hy]; rintro rfl; exact hkT hx⟩
  · rcases List.mem_append.1 hx with e | e
    · exact h.ok x e
    · rw [List.mem_singleton] at e
      rw [e]
      exact ⟨by omega, Y.sub_trans (by omega) hto.1 ha hd.2.1 hto.2⟩
  · rw [List.getElem?_append_left (by omega)] at hx
    exact List.mem_append_left _ (h.done i x hi hx s hs)
theorem Rsp.next {L : List Ty} {a n t : Nat} {T : List Nat} (h : Rsp L a n T) (ht : T[n]? = some t) (hs : ∀ s ∈ sups L t, s ∈ T) : Rsp L a (n + 1) T :=
  ⟨h.nodup, h.has, h.ok, fun i x hi hx s hm => by
    rcases Nat.lt_or_ge i n with g | g
    · exact h.done i x g hx s hm
    · obtain rfl : i = n := by omega
      rw [ht] at hx
      cases hx
      exact hs s hm⟩
theorem Rsp.end {L : List Ty} (Y : Tys L) {a : Nat} {T : List Nat} (h : Rsp L a T.length T) (ha : a < L.length) {k : Nat} (hk : k < L.length) : decide (k ∈ T) = subT L k a := by
  rw [Bool.eq_iff_iff, decide_eq_true_iff]
  constructor
  · exact fun hm => (h.ok k hm).2
  · intro hs
    refine Classical.byContradiction fun hn => ?_
    obtain ⟨x, hx, ⟨hxn, hxs⟩, hmax⟩ := greatest (p := fun k => k ∉ T ∧ subT L k a = true) L.length ⟨k, hk, hn, hs⟩
    have hxa : x ≠ a := fun e => hxn (e ▸ h.has)
    have hex : ∃ j, j < L.length ∧ (subT L x (L.length - 1 - j) = true ∧ subT L (L.length - 1 - j) a = true ∧ (L.length - 1 - j) ≠ x) := by
      refine ⟨L.length - 1 - a, by omega, ?_⟩
      rw [show L.length - 1 - (L.length - 1 - a) = a by omega]
      exact ⟨hxs, (Y.sub_iff ha ha).2 (Sub.refl _), fun e => hxa e.symm⟩
    obtain ⟨j, hj, ⟨g1, g2, g3⟩, hleast⟩ := greatest L.length hex
    obtain ⟨m, hm⟩ : ∃ m, L.length - 1 - j = m := ⟨_, rfl⟩
    rw [hm] at g1 g2 g3
    have hml : m < L.length := by omega
    have hxm := Y.subT_le hx hml g1
    have hmT : m ∈ T := by
      refine Classical.byContradiction fun hmn => ?_
      have := hmax m hml ⟨hmn, g2⟩
      omega
    have hd : Dir L m x := by
      refine ⟨fun e => g3 e.symm, g1, fun y hy => ?_⟩
      refine Classical.byContradiction fun hn2 => ?_
      have e1 : subT L x y = true := by
        cases e : subT L x y with
        | true => rfl
        | false => exact absurd (.inr (.inr (.inl e))) hn2
      have e2 : subT L y m = true := by
        cases e : subT L y m with
        | true => rfl
        | false => exact absurd (.inr (.inr (.inr e))) hn2
      have a1 := Y.subT_le hy hml e2
      have hym : y ≠ m := fun e => hn2 (.inl e)
      have hyx : y ≠ x := fun e => hn2 (.inr (.inl e))
      have := hleast (L.length - 1 - y) (by omega) (by
        rw [show L.length - 1 - (L.length - 1 - y) = y by omega]
        exact ⟨e1, Y.sub_trans hy hml ha e2 g2, hyx⟩)
      omega
    obtain ⟨i, hi, e⟩ := List.getElem_of_mem hmT
    exact hxn (h.done i m hi (by rw [List.getElem?_eq_getElem hi, e]) x ((Y.mem_sups hml).2 ⟨by omega, hd⟩))

/-! The two rows. -/
theorem Tryz.infoBo : (Tryz.prog.info? 4).map (fun i => (i.zero, i.size, i.bytes)) = some (some (.bool false), 1, 1) := by kernel_rfl
def bv (m : Nat) (T : List Nat) : List Value := (List.range m).map fun k => .bool (decide (k ∈ T))
theorem bv_len (m : Nat) (T : List Nat) : (bv m T).length = m := by simp [bv]
theorem bv_at {m k : Nat} (T : List Nat) (h : k < m) : (bv m T)[k]? = some (.bool (decide (k ∈ T))) := by simp [bv, h]
theorem bv_set {m k : Nat} (T : List Nat) (h : k < m) : (bv m T).set k (.bool true) = bv m (T ++ [k]) := by
  apply List.ext_getElem?
  intro i
  rw [List.getElem?_set]
  by_cases e : k = i
  · subst e
    rw [if_pos rfl, if_pos (by rw [bv_len]; exact h), bv_at _ h]
    simp
  · rw [if_neg e]
    by_cases hi : i < m
    · rw [bv_at _ hi, bv_at _ hi]
      simp [Ne.symm e]
    · rw [List.getElem?_eq_none (by rw [bv_len]; omega), List.getElem?_eq_none (by rw [bv_len]; omega)]
structure Two (w : World) (B g m : Nat) (u : Value) (T : List Nat) : Prop where
  r : w.ownsRow B 4 1 (.slice (some ⟨g, 0, none⟩) m m) m (bv m T)
  t : w.ownsRow B 3 1 u T.length (ivals (ints T))
  ne : u.ownBlock ≠ some g
theorem Two.below {w w' : World} {B g m : Nat} {u : Value} {T : List Nat} (h : Two w B g m u T) (hb : Below w.heap.size w w') : Two w' B g m u T := ⟨owns_below h.r hb, owns_below h.t hb, h.ne⟩
theorem Two.form {w : World} {B g m : Nat} {u : Value} {T : List Nat} (h : Two w B g m u T) (h0 : 0 < T.length) : ∃ gt ct, u = .slice (some ⟨gt, 0, none⟩) T.length ct ∧ gt ≠ g ∧ gt < w.heap.size ∧ T.length ≤ ct ∧ ct ≤ maxLen ∧ ∀ i (x : Nat), T[i]? = some x → w.cell? ⟨gt, i, none⟩ = some (.int .i64 (x : Int)) := by
  have hr := h.t
  obtain ⟨h1, ⟨_, h3⟩ | ⟨gt, ct, cur, hv, hB, hg, h3, h4, h5, h6⟩⟩ := h.t
  · omega
  · refine ⟨gt, ct, hv, fun e => h.ne (by rw [hv, e]; rfl), lt_of_block hg, h3, h4, fun i x hx => ?_⟩
    have := World.ownsRow.cells hr (g := gt) (by rw [hv]; rfl) i (.int .i64 (x : Int)) (by simp [S.ivals, S.ints, hx])
    rwa [show (⟨gt, 0, none⟩ : Addr).add i = ⟨gt, i, none⟩ by unfold Addr.add; split <;> simp_all] at this
theorem Two.bit {w : World} {B g m k : Nat} {u : Value} {T : List Nat} (h : Two w B g m u T) (hk : k < m) : w.cell? ⟨g, k, none⟩ = some (.bool (decide (k ∈ T))) ∧ w.frozen? ⟨g, k, none⟩ = false ∧ B ≤ g ∧ g < w.heap.size :=
  ⟨(h.r.cellAt k (by omega)).trans (bv_at T hk), h.r.frozenAt k, h.r.lt g rfl⟩
/-- Behind a store and an append. -/
theorem Two.grow {w w' : World} {B g m k : Nat} {u v' : Value} {T : List Nat} {o : Obj} (h : Two w B g m u T) (hk : k < m) (ht : w'.ownsRow B 3 1 v' (T.length + 1) (ivals (ints T) ++ [.int .i64 (k : Int)])) (hg : ((w.setCell ⟨g, k, none⟩ (.bool true)).alloc o).grownBy w' u.ownBlock)
    (hl : v'.ownBlock = u.ownBlock ∨ v'.ownBlock = some ((w.setCell ⟨g, k, none⟩ (.bool true)).alloc o).heap.size) : Two w' B g m v' (T ++ [k]) := by
  obtain ⟨r1, _⟩ := h.r.stored k (.bool true)
  rw [bv_set T hk] at r1
  refine ⟨World.ownsRow.kept (r1.alloc o) hg (.inr fun e => h.ne e.symm), ?_, fun e => ?_⟩
  · rw [List.length_append, ← S.ivals_snoc]; exact ht
  · rcases hl with hl | hl
    · exact h.ne (hl ▸ e)
    · rw [hl] at e
      have h2 := (h.r.lt g rfl).2
      have e2 := Option.some.inj e
      simp at e2
      omega
theorem Two.start {w w1 : World} {m x : Nat} (hm : x < m) (h : w1.ownsRow w.heap.size 4 1 (.slice (some ⟨w.heap.size, 0, none⟩) m m) m (madeCells (Value.bool false).cells (m * 1)).toList) :
    Two ((w1.setCell ⟨w.heap.size, x, none⟩ (.bool true)).alloc (.cells #[.int .i64 (x : Int)] 3)) w.heap.size w.heap.size m (.slice (some ⟨w1.heap.size, 0, none⟩) 1 1) [x] := by
  have e : (madeCells (Value.bool false).cells (m * 1)).toList = bv m [] := by
    apply List.ext_getElem?
    intro i
    by_cases hi : i < m
    · rw [bv_at _ hi]
      simp [madeCells, Value.cells, Nat.mod_one, hi]
    · rw [List.getElem?_eq_none (by simp [madeCells]; omega), List.getElem?_eq_none (by rw [bv_len]; omega)]
  rw [e] at h
  obtain ⟨r1, _⟩ := h.stored x (.bool true)
  rw [bv_set [] hm] at r1
  have hlt := (h.lt w.heap.size rfl).2
  refine ⟨r1.alloc _, ?_, fun e => ?_⟩
  · have := World.ownsRow_lit (base := w.heap.size) (size := 1) (e := 3) (w1.setCell ⟨w.heap.size, x, none⟩ (.bool true)) #[.int .i64 (x : Int)] 1 (by simp; omega) (by decide) rfl
    rw [show (w1.setCell ⟨w.heap.size, x, none⟩ (.bool true)).heap.size = w1.heap.size by simp] at this
    exact this
  · have : w1.heap.size = w.heap.size := Option.some.inj e
    omega
set_option maxRecDepth 100000 in
set_option maxHeartbeats 3200000 in
/-- Supers once more: the row that it returns is new. -/
theorem SupersF_any (w : World) (a : Option Addr) (n cap : Nat) (L : List Ty) (h : IsTys w a n cap L) (hn : n ≤ 100000) (i : Nat) (hi : i < n) :
    Calls Tryz.prog 27 #[.slice a n cap, .int .i64 i] w fun e w' => ∃ la lc, e = .returned (.slice la (supP L i i).length lc) ∧ IsInt w' la (supP L i i).length lc (ints (supP L i i).reverse) ∧ Fresh w.heap.size la ∧ Below w.heap.size w w' := by
  have hmx := h.maxLe
  have hcx := h.capLe
  unfold maxLen at hmx
  obtain ⟨W0, hW0⟩ : ∃ W0, W0 = w.alloc (.cells #[.slice a n cap] 25) := ⟨_, rfl⟩
  have b0 : Below w.heap.size w W0 := by rw [hW0]; exact ba _ _
  have hz0 : W0.heap.size = w.heap.size + 1 := by rw [hW0]; simp
  have c0 : W0.cell? ⟨w.heap.size, 0, none⟩ = some (.slice a n cap) := by rw [hW0]; exact cell_of_one (heap_alloc_new w _)
  have H := Lib.hid (h.below b0)
  have B0 := Lib.hid b0
  have EN := above_enters
  obtain ⟨i0, hi0, hiz0, hiz1, hiz2⟩ := info_parts S.Tryz.infoI
  have HI := Lib.hid (And.intro hi0 (And.intro hiz0 (And.intro hiz1 hiz2)))
  clear h b0 hi0 hiz0 hiz1 hiz2
  go_enter Tryz.func27, Tryz.ntmps27
  go_wp2_with fail
  rw [← hW0]
  go_wp2_with fail
  have START := SupI.next (w := w) (W0 := W0) (wx := W0) (L := L) (i := i) (m := i) (u := .slice none 0 0) (by omega) (Below.refl _ _) (by rw [Nat.sub_self]; exact World.ownsRow_nil _ _ _ _) hz0 _ rfl
  go_loopg [5, 6] i (fun m u p wr => m ≤ i ∧ Hid (SupI w wr L i m u p) ∧ Hid (Below (w.heap.size + 1) W0 wr))
  case atStart => exact ⟨Nat.le_refl _, (START _).1, (START _).2⟩
  case round =>
    obtain ⟨hm, hS, hB⟩ := hrel
    obtain ⟨hrow, bk, rfl, hbox, hfz, hbk1, hbk2, hbk3⟩ := hS.out
    cases gk with
    | zero =>
      have hbox0 : wr.cell? ⟨bk, 0, none⟩ = some (.int .i64 (-1)) := hbox
      obtain ⟨la, lc, rfl, hI⟩ := IsInt.of_owns hrow (fun z hz => by
        obtain ⟨k, hk, rfl⟩ := List.mem_map.1 hz
        have := supP_lt L i (i - 0) (by omega) k hk
        omega)
      have BW := Lib.hid (B0.out.trans (hB.out.mono (by omega)))
      rw [Nat.sub_zero] at hrow hI ⊢
      have HB := Lib.hid hB.out
      have hcap := hI.capLe
      have hcm := hI.maxLe
      have hlen := hI.len
      unfold maxLen at hcm
      have HR := Lib.hid hrow
      have HIN := Lib.hid hI
      obtain ⟨q, hq⟩ : ∃ q, supP L i i = q := ⟨_, rfl⟩
      rw [hq] at HR HIN hcap hlen ⊢
      have HQ := Lib.hid hq
      have hql : q.length ≤ i := by rw [← hq]; exact supP_len L i i
      clear hbox hfz hbk3 hS hrow hI hq
      by_cases h0 : q.length = 0
      · have hq0 : q = [] := List.eq_nil_of_length_eq_zero h0
        subst hq0
        rw [List.length_nil]
        go_wp2_with (go_at_call 64; refine (Tryz.slices_Reverse_int_empty la lc wr).mono ?_; rintro e w' ⟨rfl, rfl⟩)
        go_ret
        rw [HQ.out]
        exact ⟨la, lc, rfl, HIN.out, (fun p hp => by have := (HR.out.lt p.block (by rw [hp]; rfl)).1; omega), BW.out⟩
      · have hne : (Value.slice la q.length lc) ≠ .slice none 0 0 := fun e => by injection e with _ e2 _; exact h0 e2
        obtain ⟨g, cap', hv, hBg, hg, -, -, -, hH⟩ := Lib.holds_of_ownsRow (enc := Value.int .i64) (zs := ints q) HR.out hne
        injection hv with e1 _ e3
        subst e1
        subst e3
        have RV := Lib.hid (Tryz.slices_Reverse_int g 0 lc (ints q) wr hH (by rw [show (ints q).length = q.length by simp [S.ints]]; omega))
        rw [show (ints q).length = q.length by simp [S.ints]] at RV
        clear hH hne
        go_wp2_with (go_at_call 64; refine RV.out.mono ?_; rintro e w' ⟨rfl, nq, rfl⟩)
        go_ret
        have hrow' := Lib.ownsRow_putRow (enc := Value.int .i64) (q := nq) (k := q.length) (ys := (ints q).reverse) (zs := ints q) HR.out (by simp [S.ints]) (Nat.le_refl _)
        have htk : (ints q).reverse.take q.length = ints q.reverse := by
          rw [List.take_of_length_le (by simp [S.ints])]
          simp [S.ints]
        rw [htk] at hrow'
        obtain ⟨la2, lc2, e2, hI2⟩ := IsInt.of_owns (zs := ints q.reverse) hrow' (fun z hz => by
          have hz' : z ∈ ints q := by
            simp [S.ints] at hz ⊢
            exact hz
          have := HIN.out.bnd
          obtain ⟨k, hk, rfl⟩ := List.getElem_of_mem hz'
          have hk' : k < q.length := by simpa [S.ints] using hk
          have h2 := this k hk'
          have e : wi (ints q) k = (ints q)[k] := by
            unfold S.wi
            rw [List.getD_eq_getElem?_getD, List.getElem?_eq_getElem hk]; rfl
          rw [e] at h2
          exact h2)
        cases e2
        rw [HQ.out]
        exact ⟨_, _, rfl, hI2, (fun p hp => by cases hp; show w.heap.size ≤ g; omega), BW.out.grown (grown_putRow wr g nq _) BW.out.size (fun j e => by cases e; omega)⟩
    | succ m =>
      have hbox0 : wr.cell? ⟨bk, 0, none⟩ = some (.int .i64 (m : Int)) := by rw [hbox]; congr 2; omega
      have hbl := (hB.out.cell (p := ⟨w.heap.size, 0, none⟩) (Nat.lt_succ_self _)).trans c0
      have HBW : Hid (Below W0.heap.size W0 wr) := by show Below _ _ _; rw [hz0]; exact hB.out
      have HTY := Lib.hid (H.out.below HBW.out)
      have ST := Lib.hid (supP_step L (i := i) (m := m) hm)
      obtain ⟨l, hl⟩ : ∃ l, supP L i (i - (m + 1)) = l := ⟨_, rfl⟩
      have hll : l.length ≤ i := by rw [← hl]; exact Nat.le_trans (supP_len L i _) (by omega)
      have HLT : Hid (∀ k ∈ l, k < i) := fun k hk => (supP_lt L i (i - (m + 1)) (by omega) k (by rw [hl]; exact hk)).2
      rw [hl] at hrow ST
      obtain ⟨la, lc, rfl, hI⟩ := IsInt.of_owns hrow (fun z hz => by
        obtain ⟨k, hk, rfl⟩ := List.mem_map.1 hz
        have := HLT.out k hk
        omega)
      have HROW := Lib.hid hrow
      have HIN := Lib.hid hI
      have hzw : w.heap.size + 1 ≤ wr.heap.size := by omega
      have hm0 : (0 : Int) ≤ (m : Int) := by omega
      clear hbox hS hrow hI hl
      have AB : ∀ W, Below wr.heap.size wr W → ∀ x, x < n → ∀ r, subT L m x = r → Calls Tryz.prog 62 #[.int .i64 x, .pointer (some ⟨w.heap.size, 0, none⟩), .pointer (some ⟨bk, 0, none⟩)] W fun e w' => e = .returned (.bool r) ∧ Below W.heap.size W w' := fun W hW x hx r hr =>
        above_any W w.heap.size bk a n cap L (HTY.out.below hW) m x (by omega) hx ((hW.cell (p := ⟨w.heap.size, 0, none⟩) (by show w.heap.size < _; omega)).trans hbl) ((hW.cell (p := ⟨bk, 0, none⟩) hbk2).trans hbox0) r hr
      have HAB := Lib.hid AB
      clear AB
      cases h1 : subT L m i
      · have E : Hid (supP L i (i - m) = l) := by show _ = _; rw [ST.out, h1]; simp
        have H1 := Lib.hid h1
        clear h1
        go_wp2_with (go_at_call 62; refine (HAB.out wr (Below.refl _ _) i hi false H1.out).mono ?_; rintro e w2 ⟨rfl, hb2⟩; have hbox2 := (hb2.cell (p := ⟨bk, 0, none⟩) hbk2).trans hbox0; have B2 := Lib.hid (hB.out.trans (hb2.mono hzw)); have R2 := Lib.hid (owns_below HROW.out hb2); have hz2 := hb2.size; clear hb2)
        have NX := SupI.next (w := w) (W0 := W0) (wx := w2) (L := L) (i := i) (m := m) (g := w2.heap.size) (u := .slice la l.length lc) (by omega) B2.out (by rw [E.out]; exact R2.out) rfl _ rfl
        go_roundg m
        case rel => exact ⟨by omega, (NX _).1, (NX _).2⟩
        case measure => omega
      · obtain ⟨r, hr⟩ : ∃ r, l.any (subT L m) = r := ⟨_, rfl⟩
        have CI : Hid (∀ W, Below wr.heap.size wr W → Calls Tryz.prog 63 #[.slice la l.length lc, .func (.func 62) #[] #[.pointer (some ⟨w.heap.size, 0, none⟩), .pointer (some ⟨bk, 0, none⟩)]] W fun e w' => e = .returned (.bool r) ∧ Below W.heap.size W w') := fun W hW =>
          ContainsI_any W la l.length lc (ints l) (HIN.out.below hW) _ _ (fun x => subT L m (l.getD x 0)) (fun V x hx hV => by
            have e : wi (ints l) x = ((l.getD x 0 : Nat) : Int) := by
              rw [wi_ints hx, List.getD_eq_getElem?_getD, List.getElem?_eq_getElem hx]; rfl
            rw [e]
            refine HAB.out V (hW.trans (hV.mono hW.size)) _ ?_ _ rfl
            have : l.getD x 0 ∈ l := by
              rw [List.getD_eq_getElem?_getD, List.getElem?_eq_getElem hx]; exact List.getElem_mem hx
            have := HLT.out _ this
            omega) r (by rw [any_range]; exact hr)
        rw [h1, hr] at ST
        have H1 := Lib.hid h1
        clear h1 hr
        cases r
        · have E : Hid (supP L i (i - m) = l ++ [m]) := by show _ = _; rw [ST.out]; simp
          go_wp2_with (first
            | (go_at_call 62; refine (HAB.out wr (Below.refl _ _) i hi true H1.out).mono ?_; rintro e w2 ⟨rfl, hb2⟩; have BB2 := Lib.hid hb2; clear hb2)
            | (go_at_call 63; refine (CI.out w2 BB2.out).mono ?_; rintro e w3 ⟨rfl, hb3⟩; have hb3 := BB2.out.trans (hb3.mono BB2.out.size); have hbox3 := (hb3.cell (p := ⟨bk, 0, none⟩) hbk2).trans hbox0; have B3 := Lib.hid (hB.out.trans (hb3.mono hzw)); have R3 := Lib.hid (owns_below HROW.out hb3); have hz3 := hb3.size; clear hb3)
            | (at_builtin; refine wpList_append_own_at (w3.alloc (.cells #[.int .i64 (m : Int)] 3)) rfl _ _ 42 rfl (w.heap.size + 1) 3 i0 (.int .i64 0) 1 8 Tryz.underlying42 HI.out.1 HI.out.2.1 HI.out.2.2.1 HI.out.2.2.2 rfl (by decide) (.slice la l.length lc) l.length (ivals (ints l)) rfl (R3.out.alloc _) ⟨w3.heap.size, 0, none⟩ 1 1 [.int .i64 (m : Int)] rfl rfl (S.one_new _ _ _) (S.oneCell_one _ _) (by unfold maxLen; omega) (by omega) (by simp; omega) ?_; intro v4 w4 hown hgrow _ hloc; have R4 := Lib.hid hown; have G4 := Lib.hid hgrow; have hbox4 : w4.cell? ⟨bk, 0, none⟩ = some (.int .i64 (m : Int)) := (hgrow.cell ((World.cell?_alloc_lt _ _ _ (by show bk < _; omega)).trans hbox3) (fun e => hbk3 e.symm)); clear hown hgrow hloc))
          have hz4 := G4.out.size
          rw [World.size_alloc] at hz4
          have B4 : Hid (Below (w.heap.size + 1) W0 w4) := by
            refine ((B3.out.alloc (by omega) _).grown G4.out (by rw [World.size_alloc]; omega) (fun j e => (HROW.out.lt j e).1))
          have NX := SupI.next (w := w) (W0 := W0) (wx := w4) (L := L) (i := i) (m := m) (g := w4.heap.size) (u := v4) (by omega) B4.out (by rw [E.out, List.length_append, ← S.ivals_snoc]; exact R4.out) rfl _ rfl
          go_roundg m
          case rel => exact ⟨by omega, (NX _).1, (NX _).2⟩
          case measure => omega
        · have E : Hid (supP L i (i - m) = l) := by show _ = _; rw [ST.out]; simp
          go_wp2_with (first
            | (go_at_call 62; refine (HAB.out wr (Below.refl _ _) i hi true H1.out).mono ?_; rintro e w2 ⟨rfl, hb2⟩; have BB2 := Lib.hid hb2; clear hb2)
            | (go_at_call 63; refine (CI.out w2 BB2.out).mono ?_; rintro e w3 ⟨rfl, hb3⟩; have hb3 := BB2.out.trans (hb3.mono BB2.out.size); have hbox3 := (hb3.cell (p := ⟨bk, 0, none⟩) hbk2).trans hbox0; have B3 := Lib.hid (hB.out.trans (hb3.mono hzw)); have R3 := Lib.hid (owns_below HROW.out hb3); have hz3 := hb3.size; clear hb3))
          have NX := SupI.next (w := w) (W0 := W0) (wx := w3) (L := L) (i := i) (m := m) (g := w3.heap.size) (u := .slice la l.length lc) (by omega) B3.out (by rw [E.out]; exact R3.out) rfl _ rfl
          go_roundg m
          case rel => exact ⟨by omega, (NX _).1, (NX _).2⟩
          case measure => omega
theorem SupersF_val (l : List Nat) (w : World) (a : Option Addr) (n cap : Nat) (L : List Ty) (h : IsTys w a n cap L) (hn : n ≤ 100000) (i : Nat) (hi : i < n) (hr : sups L i = l) :
    Calls Tryz.prog 27 #[.slice a n cap, .int .i64 i] w fun e w' => ∃ la lc, e = .returned (.slice la l.length lc) ∧ IsInt w' la l.length lc (ints l) ∧ Fresh w.heap.size la ∧ Below w.heap.size w w' := by
  subst hr
  have e : (sups L i).length = (supP L i i).length := by unfold sups; rw [List.length_reverse]
  rw [e]
  exact SupersF_any w a n cap L h hn i hi
/-- All but two blocks are as they were. -/
structure Kp (w w' : World) (g : Nat) (u : Value) : Prop where
  size : w.heap.size ≤ w'.heap.size
  block : ∀ b, b < w.heap.size → b ≠ g → u.ownBlock ≠ some b → w'.heap[b]? = w.heap[b]?
theorem Kp.refl (w : World) (g : Nat) (u : Value) : Kp w w g u := ⟨Nat.le_refl _, fun _ _ _ _ => rfl⟩
theorem Kp.ints {w w' : World} {g : Nat} {u : Value} {a : Option Addr} {n cap : Nat} {zs : List Int} (h : Kp w w' g u) (hi : IsInt w a n cap zs) (hg : ∀ p : Addr, a = some p → p.block ≠ g ∧ u.ownBlock ≠ some p.block) : IsInt w' a n cap zs :=
  ⟨hi.len, hi.capLe, hi.maxLe, hi.bnd, fun h0 => by
    obtain ⟨b, o, e, hl, hx⟩ := hi.at_ h0
    obtain ⟨g1, g2⟩ := hg _ e
    exact ⟨b, o, e, Nat.lt_of_lt_of_le hl h.size, fun i hi => (World.cell?_of_block (a := ⟨b, o + i, none⟩) (h.block b hl g1 g2)).trans (hx i hi)⟩⟩
theorem Kp.grow {w wi w' : World} {g k : Nat} {u u' : Value} {o : Obj} (h : Kp w wi g u) (hu : u'.ownBlock = u.ownBlock ∨ ∃ b, u'.ownBlock = some b ∧ w.heap.size ≤ b) (hg : ((wi.setCell ⟨g, k, none⟩ (.bool true)).alloc o).grownBy w' u'.ownBlock) : Kp w w' g u := by
  refine ⟨by have := h.size; have := hg.size; simp at this; omega, fun b hb h1 h2 => ?_⟩
  have hsz := h.size
  refine (hg.block b (by simp; omega) ?_).trans ((heap_alloc_old _ o (show b < _ by simp; omega)).trans ((heap_setCell_other _ _ b _ h1).trans (h.block b hb h1 h2)))
  intro e
  rcases hu with e2 | ⟨c, e2, hc⟩
  · exact h2 (e2 ▸ e.symm)
  · rw [e2] at e
    have := Option.some.inj e
    omega
set_option maxRecDepth 100000 in
set_option maxHeartbeats 12800000 in
theorem ClosureChains_law (w : World) (a : Option Addr) (n0 cap : Nat) (D : List Dec) (h : IsDecs w a n0 cap D) (i : Nat) (hi : i < 256) (hT : S.TabOk w) :
    Calls Tryz.prog 10 #[.slice a n0 cap, .int .u8 i] w fun e w' => e = .returned (.bool true) ∧ Below w.heap.size w w' := by
  have HT := Lib.hid hT
  have TY := Lib.hid (types4_got w a n0 cap D h i 0 hi (by decide))
  clear h hT
  go_enter Tryz.func10, Tryz.ntmps10
  go_wp2_with fail
  refine TY.out.mono ?_
  rintro e w1 ⟨hb1, rfl | ⟨hc, hf, h12, ta, m, tc, x, y, L, hL, hx0, hy0, hx, hy, rfl, hI⟩⟩
  · go_wp2_with (go_at_call 13; refine (ex4_holds _ (HT.out.below hb1)).mono ?_; rintro e w2 ⟨rfl, hb2⟩)
    go_ret
    exact ⟨rfl, hb1.trans (hb2.mono hb1.size)⟩
  · have B1 := Lib.hid hb1
    have I1 := Lib.hid hI
    have hle := hI.le
    have hlen := hI.len
    have hpos := hI.pos
    have hcap := hI.is.capLe
    have hmx := hI.is.maxLe
    unfold maxLen at hmx
    have IH := Lib.hid (fun W hW => I1.out.below (w' := W) hW)
    have TT := Lib.hid hI.ok
    have hx0' : (0 : Int) ≤ (x : Int) := by omega
    have hx1' : (x : Int) < (m : Int) := by omega
    obtain ⟨i1, hi1, hj0, hj1, hj2⟩ := info_parts Tryz.infoBo
    have HJ := Lib.hid (And.intro hi1 (And.intro hj0 (And.intro hj1 hj2)))
    clear hL hx0 hy0 hb1 hc hf h12 TY hI hi1 hj0 hj1 hj2
    go_wp2_with (at_make; refine wpList_make_full _ rfl _ _ _ rfl w1.heap.size 4 i1 (.bool false) 1 Tryz.underlying59 HJ.out.1 HJ.out.2.1 HJ.out.2.2.1 _ _ _ _ m rfl rfl ?_ ?_ ?_ ?_ (Nat.le_refl _) ?_; rotate_right; intro w2 hown hgrow; have O2 := Lib.hid hown; have B2 := Lib.hid ((Below.refl w1.heap.size w1).grown hgrow (Nat.le_refl _) (fun _ e => by cases e)); have hfz := (fun j => hown.frozenAt j); have hcx : w2.cell? ⟨w1.heap.size, x, none⟩ = some (.bool false) := (hown.cellAt x (by omega)).trans (by simp [madeCells, Value.cells, Nat.mod_one, hx]); have hz2 := (hown.lt w1.heap.size rfl).2; clear hown hgrow)
    · go_loopw [10, 11] (fun u v wr => ∃ (n : Nat) (T : List Nat), n ≤ T.length ∧ v = .int .i64 n ∧ Hid (Rsp L x n T) ∧ Hid (Two wr w1.heap.size w1.heap.size m u T) ∧ Hid (Below w1.heap.size w1 wr)) (fun _ v _ => m + 1 - (intOf v).toNat)
      case atStart => exact ⟨0, [x], by simp, rfl, Rsp.start TT.out (by omega), Two.start hx O2.out, (B2.out.setCell (p := ⟨w1.heap.size, x, none⟩) (Nat.le_refl _) _).alloc (by simp; omega) _⟩
      case round =>
        obtain ⟨n, T0, hn, rfl, hP, hW, hB⟩ := hrel
        obtain ⟨wo, hwo⟩ : ∃ wo : World, wo = wr := ⟨_, rfl⟩
        subst hwo
        have hTl0 := hP.out.len
        by_cases hlt : n < T0.length
        · obtain ⟨gt0, ct0, rfl, hg1, hg2, hg3, hg4, hg5⟩ := hW.out.form (by omega)
          unfold maxLen at hg4
          obtain ⟨t, ht0⟩ : ∃ t, T0[n]? = some t := ⟨_, List.getElem?_eq_getElem hlt⟩
          have htm := (hP.out.ok t (List.mem_of_getElem? ht0)).1
          have htm2 : t < m := by omega
          have b2 := hg5 n t ht0
          have hn0' : (0 : Int) ≤ (n : Int) := by omega
          have hn1' : (n : Int) < (T0.length : Int) := by omega
          have SV := Lib.hid (SupersF_val (sups L t) wo ta m tc L (IH.out wo hB.out).is (by omega) t htm2 rfl)
          have hz9 := (hW.out.r.lt w1.heap.size rfl).2
          have SZ := Lib.hid (fun h => TT.out.sups_zero h)
          have SP := Lib.hid (fun h => TT.out.sups_pos htm h)
          clear hg5
          go_wp2_with fail
          refine SV.out.mono ?_
          rintro e w5 ⟨la, lc, rfl, hU, hUF, hb5⟩
          have U5 := Lib.hid hU
          have UF : Hid (∀ p : Addr, la = some p → p.block ≠ w1.heap.size ∧ (Value.slice (some ⟨gt0, 0, none⟩) T0.length ct0).ownBlock ≠ some p.block) := fun p hp => by
            have h1 := hUF p hp
            refine ⟨by omega, fun e => ?_⟩
            have e2 : gt0 = p.block := Option.some.inj e
            omega
          have W5 := Lib.hid (hW.out.below hb5)
          have B5 := Lib.hid (hB.out.trans (hb5.mono hB.out.size))
          have b3 := (hb5.cell (p := ⟨gt0, n, none⟩) hg2).trans b2
          have hucap := hU.capLe
          have humax := hU.maxLe
          unfold maxLen at humax
          obtain ⟨q, hq⟩ : ∃ q, (sups L t).length = q := ⟨_, rfl⟩
          have HQ := Lib.hid hq
          rw [hq] at hucap ⊢
          clear hU hUF hb5 b2 SV
          by_cases h0 : t = 0
          · have hq0 : q = 0 := by rw [← hq, h0, SZ.out (by omega)]; rfl
            have q1 : ((q : Int) == 0) = true := by rw [hq0]; rfl
            have q2 : ((t : Int) != 0) = false := by rw [h0]; rfl
            have q3 : decide ((0 : Int) < (q : Int)) = false := by rw [hq0]; rfl
            have q4 : ¬ 0 < q := by omega
            clear hq h0 hq0
            go_wp2_with fail
            go_loopw [10, 71] (fun u v wr => ∃ (j : Nat) (T : List Nat), j ≤ q ∧ v = .int .i64 j ∧ n < T.length ∧ T[n]? = some t ∧ Hid (Rsp L x n T) ∧ Hid (∀ s ∈ (sups L t).take j, s ∈ T) ∧ Hid (Two wr w1.heap.size w1.heap.size m u T) ∧ Hid (Below w1.heap.size w1 wr) ∧ Hid (Kp w5 wr w1.heap.size (.slice (some ⟨gt0, 0, none⟩) T0.length ct0) ∧ (u.ownBlock = some gt0 ∨ ∃ b, u.ownBlock = some b ∧ w5.heap.size ≤ b))) (fun _ v _ => q - (intOf v).toNat)
            case atStart => exact ⟨0, T0, Nat.zero_le _, rfl, hlt, ht0, hP.out, (fun s hs => by simp at hs), W5.out, B5.out, Kp.refl _ _ _, .inl rfl⟩
            case round =>
              obtain ⟨j, T, hj, rfl, hnT, htT, hP2, hD2, hW2, hB2, hK2⟩ := hrel
              obtain ⟨wi, hwi⟩ : ∃ wi : World, wi = wr := ⟨_, rfl⟩
              subst hwi
              obtain ⟨gt, ct, rfl, hgt1, hgt2, hgt3, hgt4, hgt5⟩ := hW2.out.form (by omega)
              unfold maxLen at hgt4
              by_cases hlj : j < q
              · exfalso; omega
              · obtain rfl : q = j := by omega
                have hN := Lib.hid (hP2.out.next htT (fun s hs => hD2.out s (by rw [List.take_of_length_le (by rw [HQ.out]; exact Nat.le_refl _)]; exact hs)))
                have hTl := hP2.out.len
                go_wp2_with fail
                go_roundw
                case rel => exact ⟨n + 1, T, by omega, by go_num, hN.out, hW2.out, hB2.out⟩
                case measure => simp [intOf]; omega
          · have hq0 : q ≠ 0 := fun e => SP.out (by omega) (List.eq_nil_of_length_eq_zero (hq.trans e))
            have q1 : ((q : Int) == 0) = false := by rw [beq_eq_false_iff_ne]; omega
            have q2 : ((t : Int) == 0) = false := by rw [beq_eq_false_iff_ne]; omega
            have q3 : (0 : Int) < (q : Int) := by omega
            have q4 : 0 < q := by omega
            clear hq h0 hq0
            go_wp2_with fail
            go_loopw [10, 71] (fun u v wr => ∃ (j : Nat) (T : List Nat), j ≤ q ∧ v = .int .i64 j ∧ n < T.length ∧ T[n]? = some t ∧ Hid (Rsp L x n T) ∧ Hid (∀ s ∈ (sups L t).take j, s ∈ T) ∧ Hid (Two wr w1.heap.size w1.heap.size m u T) ∧ Hid (Below w1.heap.size w1 wr) ∧ Hid (Kp w5 wr w1.heap.size (.slice (some ⟨gt0, 0, none⟩) T0.length ct0) ∧ (u.ownBlock = some gt0 ∨ ∃ b, u.ownBlock = some b ∧ w5.heap.size ≤ b))) (fun _ v _ => q - (intOf v).toNat)
            case atStart => exact ⟨0, T0, Nat.zero_le _, rfl, hlt, ht0, hP.out, (fun s hs => by simp at hs), W5.out, B5.out, Kp.refl _ _ _, .inl rfl⟩
            case round =>
              obtain ⟨j, T, hj, rfl, hnT, htT, hP2, hD2, hW2, hB2, hK2⟩ := hrel
              obtain ⟨wi, hwi⟩ : ∃ wi : World, wi = wr := ⟨_, rfl⟩
              subst hwi
              obtain ⟨gt, ct, rfl, hgt1, hgt2, hgt3, hgt4, hgt5⟩ := hW2.out.form (by omega)
              unfold maxLen at hgt4
              by_cases hlj : j < q
              · obtain ⟨ub, uo, eub, hub, huc⟩ := (hK2.out.1.ints U5.out UF.out).at_ (by rw [HQ.out]; omega)
                subst eub
                have hjs : j < (sups L t).length := by rw [HQ.out]; exact hlj
                obtain ⟨k, hk⟩ : ∃ k, (sups L t)[j]? = some k := ⟨_, List.getElem?_eq_getElem hjs⟩
                have c1 := huc j (by rw [← HQ.out] at hlj; exact hlj)
                rw [wi_ints hjs] at c1
                have hke : (sups L t)[j] = k := by
                  have := hk
                  rw [List.getElem?_eq_getElem hjs] at this
                  exact Option.some.inj this
                rw [hke] at c1
                have hkm := List.mem_of_getElem? hk
                obtain ⟨hkt, -⟩ := (TT.out.mem_sups (by omega)).1 hkm
                have hkm2 : k < m := by omega
                have c2 := hgt5 n t htT
                obtain ⟨c3, c4, c5, c6⟩ := hW2.out.bit hkm2
                have hk0 : ¬ (k : Int) < 0 := by omega
                have hk1 : ¬ (t : Int) ≤ (k : Int) := by omega
                have hk2 : (0 : Int) ≤ (k : Int) := by omega
                have hk3 : (k : Int) < (m : Int) := by omega
                have hj0 : (0 : Int) ≤ (j : Int) := by omega
                have hj1 : (j : Int) < (q : Int) := by omega
                have hn0 : (0 : Int) ≤ (n : Int) := by omega
                have hn1 : (n : Int) < (T.length : Int) := by omega
                have TK : Hid (∀ T' : List Nat, (∀ s ∈ (sups L t).take j, s ∈ T') → k ∈ T' → ∀ s ∈ (sups L t).take (j + 1), s ∈ T') := fun T' h1 h2 s hs => by
                  rw [List.take_add_one, hk] at hs
                  rcases List.mem_append.1 hs with e | e
                  · exact h1 s e
                  · rw [Option.toList_some, List.mem_singleton] at e; rw [e]; exact h2
                have ADD := Lib.hid (fun hn => hP2.out.add TT.out (by omega) hnT htT hkm (k := k) hn)
                have hTl := hP2.out.len
                clear huc hke hkm hk hgt5
                by_cases hkT : k ∈ T
                · rw [decide_eq_true hkT] at c3
                  have E := Lib.hid hkT
                  clear hkT
                  go_wp2_with fail
                  go_roundw
                  case rel => exact ⟨j + 1, T, by omega, by go_num, hnT, htT, hP2.out, TK.out T hD2.out E.out, hW2.out, hB2.out, hK2.out⟩
                  case measure => simp [intOf]; omega
                · rw [decide_eq_false hkT] at c3
                  have E := Lib.hid hkT
                  clear hkT
                  obtain ⟨i0, hi0, hiz0, hiz1, hiz2⟩ := info_parts S.Tryz.infoI
                  have HI := Lib.hid (And.intro hi0 (And.intro hiz0 (And.intro hiz1 hiz2)))
                  clear hi0 hiz0 hiz1 hiz2
                  have RT : Hid (((wi.setCell ⟨w1.heap.size, k, none⟩ (.bool true)).alloc (.cells #[.int .i64 (k : Int)] 3)).ownsRow w1.heap.size 3 1 (.slice (some ⟨gt, 0, none⟩) T.length ct) T.length (ivals (ints T))) := by
                    refine World.ownsRow.alloc (World.ownsRow.kept hW2.out.t (hW2.out.r.stored k (.bool true)).2 (.inr ?_)) _
                    intro e
                    exact hgt1 (Option.some.inj e)
                  go_wp2_with (at_builtin; refine wpList_append_own_at ((wi.setCell ⟨w1.heap.size, k, none⟩ (.bool true)).alloc (.cells #[.int .i64 (k : Int)] 3)) rfl _ _ 42 rfl w1.heap.size 3 i0 (.int .i64 0) 1 8 Tryz.underlying42 HI.out.1 HI.out.2.1 HI.out.2.2.1 HI.out.2.2.2 rfl (by decide) (.slice (some ⟨gt, 0, none⟩) T.length ct) T.length (ivals (ints T)) rfl RT.out ⟨wi.heap.size, 0, none⟩ 1 1 [.int .i64 (k : Int)] rfl rfl (by have := S.one_new (wi.setCell ⟨w1.heap.size, k, none⟩ (.bool true)) (.int .i64 (k : Int)) 3; simpa using this) (S.oneCell_one _ _) (by unfold maxLen; omega) (by omega) (by simp; omega) ?_; intro v4 w4 hown hgrow _ hloc; have W4 := Lib.hid (hW2.out.grow hkm2 hown hgrow hloc); have B4 : Hid (Below w1.heap.size w1 w4) := (((hB2.out.setCell (p := ⟨w1.heap.size, k, none⟩) (Nat.le_refl _) _).alloc (by simp; omega) _).grown hgrow (by simp; omega) (fun j e => (hW2.out.t.lt j e).1)); have K4 := Lib.hid (hK2.out.1.grow (u' := .slice (some ⟨gt, 0, none⟩) T.length ct) hK2.out.2 hgrow); have L4 : Hid (v4.ownBlock = some gt0 ∨ ∃ b, v4.ownBlock = some b ∧ w5.heap.size ≤ b) := (by rcases hloc with e | e; (rw [e]; exact hK2.out.2); (exact .inr ⟨_, e, by have := hK2.out.1.size; simp; omega⟩)); clear hown hgrow hloc)
                  go_roundw
                  case rel => exact ⟨j + 1, T ++ [k], by omega, by go_num, by rw [List.length_append]; omega, by rw [List.getElem?_append_left hnT]; exact htT, ADD.out E.out, TK.out _ (fun s hs => List.mem_append_left _ (hD2.out s hs)) (List.mem_append_right _ (List.mem_singleton.2 rfl)), W4.out, B4.out, K4.out, L4.out⟩
                  case measure => simp [intOf]; omega
              · obtain rfl : q = j := by omega
                have hN := Lib.hid (hP2.out.next htT (fun s hs => hD2.out s (by rw [List.take_of_length_le (by rw [HQ.out]; exact Nat.le_refl _)]; exact hs)))
                have hTl := hP2.out.len
                go_wp2_with fail
                go_roundw
                case rel => exact ⟨n + 1, T, by omega, by go_num, hN.out, hW2.out, hB2.out⟩
                case measure => simp [intOf]; omega
        · obtain rfl : n = T0.length := by omega
          have RE := Lib.hid (fun k hk => hP.out.end TT.out (by omega) (k := k) hk)
          obtain ⟨gt0, ct0, rfl, hg1, hg2, hg3, hg4, hg5⟩ := hW.out.form (List.length_pos_of_mem hP.out.has)
          clear hg5
          go_wp2_with fail
          go_loopw [100] (fun v wr => ∃ k : Nat, k ≤ m ∧ v = .int .i64 k ∧ Hid (Below wo.heap.size wo wr)) (fun v _ => m - (intOf v).toNat)
          case atStart => exact ⟨0, Nat.zero_le _, rfl, Below.refl _ _⟩
          case round =>
            obtain ⟨k, hk', rfl, hC⟩ := hrel
            obtain ⟨wi, hwi⟩ : ∃ wi : World, wi = wr := ⟨_, rfl⟩
            subst hwi
            by_cases hk : k < m
            · obtain ⟨c3, c4, c5, c6⟩ := (hW.out.below hC.out).bit hk
              obtain ⟨r, hr⟩ : ∃ r, subT L k x = r := ⟨_, rfl⟩
              rw [RE.out k (by omega), hr] at c3
              have BD := Lib.hid ((hB.out.trans (hC.out.mono hB.out.size)).drew)
              have SB := Lib.hid (Subsumes_val wi.drew ta m tc L (IH.out _ BD.out).is k x hk hx r hr)
              have q1 : (r != r) = false := by simp
              have hk0 : (0 : Int) ≤ (k : Int) := by omega
              have hk1 : (k : Int) < (m : Int) := by omega
              clear hr
              go_wp2_with fail
              go_region_held3 (fun w' => w'.cell? ⟨w1.heap.size, k, none⟩ = some (.bool r)) (first | (go_keep; done) | exact c3 | exact e3) ((go_at_call 24; refine SB.out.mono ?_; rintro e w7 ⟨rfl, hb7⟩; have k7 := (Below.refl _ wi).drew.trans hb7; have e3 := (k7.cell (p := ⟨w1.heap.size, k, none⟩) c6).trans c3; have C7 := Lib.hid (hC.out.trans (k7.mono hC.out.size)); clear hb7 k7))
              go_wp2_with fail
              go_roundw
              case rel => exact ⟨k + 1, by omega, by go_num, C7.out⟩
              case measure => simp [intOf]; omega
            · obtain rfl : m = k := by omega
              have BE := Lib.hid (B1.out.trans ((hB.out.trans (hC.out.mono hB.out.size)).mono B1.out.size))
              go_wp2_with (go_at_call 13; refine (ex4_holds _ (HT.out.below BE.out)).mono ?_; rintro e we ⟨rfl, hbe⟩)
              go_ret
              exact ⟨rfl, BE.out.trans (hbe.mono BE.out.size)⟩
    all_goals first | rfl | (rw [HJ.out.2.2.2]; omega) | (unfold maxLen; omega)
end Go.Proofs.YtdeamdpoegdmdaaGreatDoor
