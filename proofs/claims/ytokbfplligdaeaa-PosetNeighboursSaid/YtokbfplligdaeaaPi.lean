/- Walks of package poset and its reference: Put, Names, ready, checkTop. -/
import Derived.Test.YtokbfplligdaeaaPh
import Derived.WalkLawsBesides
import Derived.Sort.Walk0
namespace Go.Proofs.Ytokbfplligdaeaa
open Go.RowKit

theorem mk_less (x y : Str) : Op.bytesLess (mk x).toList (mk y).toList = decide (x < y) := by
  rw [Go.Proofs.bytesLess_eq, mk_toList, mk_toList]
/-- A row of strings that the call owns: nil, or at the head of a block. -/
theorem owns_shape {w : World} {B n : Nat} {v : Value} {zs : List Str} (h : w.ownsRow B 9 1 v n (svals zs)) (hs : ∀ z ∈ zs, z.length ≤ maxLen) :
    (v = .slice none 0 0 ∧ n = 0 ∧ zs = []) ∨ ∃ g cap, v = .slice (some ⟨g, 0, none⟩) n cap ∧ B ≤ g ∧ g < w.heap.size ∧ IsStrs w (some ⟨g, 0, none⟩) n cap zs := by
  have hh := h
  have hlen : zs.length = n := by have := h.1; rw [svals_len] at this; omega
  obtain ⟨h1, ⟨h2, h3⟩ | ⟨g, cap, cur, hv, hB, hg, h3, h4, h5, h6⟩⟩ := h
  · subst h3
    exact .inl ⟨h2, rfl, List.eq_nil_of_length_eq_zero hlen⟩
  · obtain ⟨a2, cap2, e2, hi⟩ := IsStrs.of_owns hh hs
    rw [hv] at e2
    cases e2
    exact .inr ⟨g, cap, hv, hB, lt_of_block hg, hi⟩
theorem IsStrs.drop {w : World} {b off n cap : Nat} {zs : List Str} (h : IsStrs w (some ⟨b, off, none⟩) n cap zs) {k : Nat} (hk : k ≤ n) : IsStrs w (some ⟨b, off + k, none⟩) (n - k) (cap - k) (zs.drop k) := by
  have hl := h.len
  have hc := h.capLe
  have hm := h.maxLe
  refine ⟨by rw [List.length_drop]; omega, by omega, by omega, fun z hz => h.small z (List.mem_of_mem_drop hz), (fun e => by cases e), fun h0 => ?_⟩
  obtain ⟨b2, off2, e, hbl, hx⟩ := h.at_ (by omega)
  cases e
  refine ⟨b, off + k, rfl, hbl, fun i hi => ?_⟩
  have := hx (k + i) (by omega)
  rw [show off + k + i = off + (k + i) by omega, this]
  congr 3
  unfold st
  rw [List.getD_eq_getElem?_getD, List.getD_eq_getElem?_getD, List.getElem?_drop]
theorem IsStrs.empty {w : World} (ad : Addr) (cap : Nat) (hm : cap ≤ maxLen) : IsStrs w (some ad) 0 cap [] :=
  ⟨rfl, Nat.zero_le _, hm, (fun _ h => (List.not_mem_nil h).elim), (fun e => by cases e), fun h => absurd h (Nat.lt_irrefl _)⟩
theorem small_put {zs : List Str} {s : Str} (h : ∀ z ∈ zs, z.length ≤ maxLen) (hs : s.length ≤ maxLen) : ∀ z ∈ put zs s, z.length ≤ maxLen := fun z hz => by
  rcases (mem_put zs s z).1 hz with e | e
  · rw [e]; exact hs
  · exact h z e

/-- The call returns a row of its caller's base that reads as this list. -/
def RetP (B : Nat) (xs : List Str) (w : World) (e : Ending) (w' : World) : Prop :=
  ∃ v, e = .returned v ∧ w'.ownsRow B 9 1 v xs.length (svals xs) ∧ Below w.heap.size w w'

theorem owns_base {W : World} {base base' : Nat} {e : TypeId} {size : Nat} {v : Value} {k : Nat} {xs : List Value} (h : W.ownsRow base e size v k xs) (hb : base' ≤ base) : W.ownsRow base' e size v k xs := by
  obtain ⟨h1, h2 | ⟨g, cap, cur, hv, hB, r⟩⟩ := h
  · exact ⟨h1, .inl h2⟩
  · exact ⟨h1, .inr ⟨g, cap, cur, hv, by omega, r⟩⟩
theorem grown_below {B : Nat} {w w1 w2 : World} {v : Value} {e : TypeId} {sz n : Nat} {xs : List Value} (hb : Below B w w1) (hz : B ≤ w1.heap.size) (hrow : w1.ownsRow B e sz v n xs) (hg : w1.grownBy w2 v.ownBlock) : Below B w w2 :=
  hb.grown hg hz (fun j hj => (hrow.lt j hj).1)
/-- The last three appends of Put. -/
theorem put_split {zs : List Str} {s : Str} {k : Nat} (hk : pat zs s = k) (hn : ¬ zs[k]? = some s) : put zs s = (([] ++ zs.take k) ++ [s]) ++ zs.drop k := by
  unfold put
  rw [hk, if_neg hn]; simp
theorem put_same {zs : List Str} {s : Str} {k : Nat} (hk : pat zs s = k) (hn : zs[k]? = some s) : put zs s = zs := by
  unfold put
  rw [hk, if_pos hn]

set_option maxRecDepth 100000 in
set_option maxHeartbeats 1600000 in
theorem Put_nil (w : World) (B : Nat) (s : Str) (hx : s.length ≤ maxLen) (hB : B ≤ w.heap.size) :
    Calls Try.prog 41 #[.slice none 0 0, .string (mk s)] w (RetP B (put [] s) w) := by
  have hr : Hid (put [] s = ([] ++ [s]) ++ []) := rfl
  have hrow0 := Lib.hid (World.ownsRow_nil w w.heap.size 9 1)
  have HI := Lib.hid (IsStrs.nil w)
  have HX := Lib.hid hx
  clear hx
  go_enter Try.func41, Try.ntmps41
  go_wp2
  go_loop [6] (fun i => i = .int .i64 0) (fun _ => 0)
  case atStart => rfl
  case round =>
    obtain rfl := hrel
    have tok1 : True := trivial
    have tok2 : True := trivial
    have tok3 : True := trivial
    go_wp2_with (first
      | (at_builtin; have _t := tok1; refine wpList_append_strs rfl _ _ rfl w.heap.size _ 0 [] rfl hrow0.out none 0 0 [] rfl HI.out (by omega) (Nat.le_refl _) ?_; intro v1 w1 hown1 hgrow1; have R1 := Lib.hid hown1; have B1 := Lib.hid (grown_below (Below.refl _ _) (Nat.le_refl _) hrow0.out hgrow1); have hz1 := hgrow1.size; clear hown1 hgrow1 tok1)
      | (at_builtin; have _t := tok2; refine wpList_append_strs rfl _ _ rfl w.heap.size _ _ _ rfl (R1.out.alloc _) _ 1 1 [s] rfl (IsStrs.one w1 s HX.out) (by omega) (by simp; omega) ?_; intro v2 w2 hown2 hgrow2; have R2 := Lib.hid hown2; have B2 := Lib.hid (grown_below (B1.out.alloc hz1 _) (by simp; omega) (R1.out.alloc _) hgrow2); have hz2 := hgrow2.size; clear hown2 hgrow2 tok2)
      | (at_builtin; have _t := tok3; refine wpList_append_strs rfl _ _ rfl w.heap.size _ _ _ rfl R2.out none 0 0 [] rfl (IsStrs.nil _) (by omega) (by have := B2.out.size; omega) ?_; intro v3 w3 hown3 hgrow3; have R3 := Lib.hid hown3; have B3 := Lib.hid (grown_below B2.out B2.out.size R2.out hgrow3); clear hown3 hgrow3 tok3))
    go_ret
    rw [hr.out]
    exact ⟨v3, rfl, owns_base R3.out hB, B3.out⟩

set_option maxRecDepth 100000 in
set_option maxHeartbeats 3200000 in
theorem Put_some (w : World) (B n cap g : Nat) (zs : List Str) (s : Str) (h : w.ownsRow B 9 1 (.slice (some ⟨g, 0, none⟩) n cap) n (svals zs)) (hi : IsStrs w (some ⟨g, 0, none⟩) n cap zs) (hx : s.length ≤ maxLen) (hn : n ≤ 1000) (hB : B ≤ w.heap.size) :
    Calls Try.prog 41 #[.slice (some ⟨g, 0, none⟩) n cap, .string (mk s)] w (RetP B (put zs s) w) := by
  have hl := hi.len
  have hc := hi.capLe
  have hm := hi.maxLe
  unfold maxLen at hm
  have hrow0 := Lib.hid (World.ownsRow_nil w w.heap.size 9 1)
  have HI := Lib.hid hi
  have HX := Lib.hid hx
  have HL := Lib.hid hl
  have HROW := Lib.hid h
  clear hx h hi hl
  go_enter Try.func41, Try.ntmps41
  go_wp2
  go_loop [6] (fun v => ∃ k : Nat, k ≤ n ∧ v = .int .i64 k ∧ Hid (∀ j, j < k → ∃ x, zs[j]? = some x ∧ x < s)) (fun v => n - (intOf v).toNat)
  case atStart => exact ⟨0, Nat.zero_le _, rfl, fun i hi => absurd hi (Nat.not_lt_zero _)⟩
  case round =>
    obtain ⟨k, hk, rfl, hall⟩ := hrel
    by_cases hlt : k < n
    · have c0 : w.cell? ⟨g, k, none⟩ = some (.string (mk (st zs k))) := by
        obtain ⟨b2, o2, e, _, hcs⟩ := HI.out.at_ (by omega)
        cases e
        have := hcs k hlt
        rwa [Nat.zero_add] at this
      have hg := st_get (zs := zs) (i := k) (by rw [HL.out]; exact hlt)
      have he := mk_less (st zs k) s
      have hq := mk_eq (st zs k) s
      obtain ⟨x, hx'⟩ : ∃ x, st zs k = x := ⟨_, rfl⟩
      rw [hx'] at c0 he hg hq
      have HG := Lib.hid hg
      clear hx' hg
      by_cases hxs : x < s
      · rw [decide_eq_true hxs] at he
        have hall' : Hid (∀ j, j < k + 1 → ∃ x, zs[j]? = some x ∧ x < s) := fun i hi => by
          rcases Nat.lt_succ_iff_lt_or_eq.1 hi with e | e
          · exact hall.out i e
          · rw [e]; exact ⟨x, HG.out, hxs⟩
        clear hall hq
        go_wp2
        go_round
        case rel => exact ⟨k + 1, by omega, by go_num, hall'⟩
        case measure => simp [intOf]; omega
      · rw [decide_eq_false hxs] at he
        have hp : Hid (pat zs s = k) := pat_eq hall.out (fun y hy => by rw [HG.out] at hy; cases hy; exact hxs) (by rw [HL.out]; exact hk)
        by_cases hxe : x = s
        · have hr : Hid (put zs s = zs) := put_same hp.out (by rw [HG.out, hxe])
          have hq2 : ((mk x).toList == (mk s).toList) = true := by rw [hq, hxe]; simp
          clear hall hq hxe
          go_wp2
          go_ret
          rw [hr.out]
          exact ⟨_, rfl, by rw [HL.out]; exact HROW.out, Below.refl _ _⟩
        · have hr : Hid (put zs s = (([] ++ zs.take k) ++ [s]) ++ zs.drop k) := put_split hp.out (by rw [HG.out]; exact fun e => hxe (Option.some.inj e))
          have hq2 : ((mk x).toList == (mk s).toList) = false := by rw [hq]; simp [hxe]
          have hkc : ¬ cap = k := by omega
          have IT := Lib.hid (HI.out.take hk)
          have ID := Lib.hid (HI.out.drop hk)
          rw [Nat.zero_add] at ID
          have tok1 : True := trivial
          have tok2 : True := trivial
          have tok3 : True := trivial
          clear hall hq
          go_wp2_with (first
            | (at_builtin; have _t := tok1; refine wpList_append_strs rfl _ _ rfl w.heap.size _ 0 [] rfl hrow0.out _ k cap _ rfl IT.out (by omega) (Nat.le_refl _) ?_; intro v1 w1 hown1 hgrow1; have R1 := Lib.hid hown1; have B1 := Lib.hid (grown_below (Below.refl _ _) (Nat.le_refl _) hrow0.out hgrow1); have hz1 := hgrow1.size; clear hown1 hgrow1 tok1)
            | (at_builtin; have _t := tok2; refine wpList_append_strs rfl _ _ rfl w.heap.size _ _ _ rfl (R1.out.alloc _) _ 1 1 [s] rfl (IsStrs.one w1 s HX.out) (by omega) (by simp; omega) ?_; intro v2 w2 hown2 hgrow2; have R2 := Lib.hid hown2; have B2 := Lib.hid (grown_below (B1.out.alloc hz1 _) (by simp; omega) (R1.out.alloc _) hgrow2); have hz2 := hgrow2.size; clear hown2 hgrow2 tok2)
            | (at_builtin; have _t := tok3; refine wpList_append_strs rfl _ _ rfl w.heap.size _ _ _ rfl R2.out _ (n - k) (cap - k) _ rfl (ID.out.below B2.out) (by omega) (by have := B2.out.size; omega) ?_; intro v3 w3 hown3 hgrow3; have R3 := Lib.hid hown3; have B3 := Lib.hid (grown_below B2.out B2.out.size R2.out hgrow3); clear hown3 hgrow3 tok3))
          go_ret
          have hlr : (put zs s).length = 0 + k + 1 + (n - k) := by
            rw [hr.out]; simp; rw [HL.out]; omega
          refine ⟨v3, rfl, ?_, B3.out⟩
          rw [hlr, hr.out]
          exact owns_base R3.out hB
    · obtain rfl : n = k := by omega
      have hp : Hid (pat zs s = n) := pat_eq hall.out (fun y hy => by rw [List.getElem?_eq_none_iff.2 (by rw [HL.out]; exact Nat.le_refl _)] at hy; cases hy) (by rw [HL.out]; exact Nat.le_refl _)
      have hr : Hid (put zs s = (([] ++ zs.take n) ++ [s]) ++ zs.drop n) := put_split hp.out (by rw [List.getElem?_eq_none_iff.2 (by rw [HL.out]; exact Nat.le_refl _)]; exact fun e => by cases e)
      have IT := Lib.hid (HI.out.take (Nat.le_refl n))
      have ID := Lib.hid (HI.out.drop (Nat.le_refl n))
      have hlr : Hid ((put zs s).length = 0 + n + 1 + 0) := by
        show _ = _
        rw [hr.out]; simp; rw [HL.out]; omega
      have hd0 : Hid (zs.drop n = []) := by
        show _ = _
        rw [← HL.out, List.drop_length]
      clear hall hlt hk
      by_cases hkc : cap = n
      · subst hkc
        have tok1 : True := trivial
        have tok2 : True := trivial
        have tok3 : True := trivial
        go_wp2_with (first
          | (at_builtin; have _t := tok1; refine wpList_append_strs rfl _ _ rfl w.heap.size _ 0 [] rfl hrow0.out _ cap cap _ rfl IT.out (by omega) (Nat.le_refl _) ?_; intro v1 w1 hown1 hgrow1; have R1 := Lib.hid hown1; have B1 := Lib.hid (grown_below (Below.refl _ _) (Nat.le_refl _) hrow0.out hgrow1); have hz1 := hgrow1.size; clear hown1 hgrow1 tok1)
          | (at_builtin; have _t := tok2; refine wpList_append_strs rfl _ _ rfl w.heap.size _ _ _ rfl (R1.out.alloc _) _ 1 1 [s] rfl (IsStrs.one w1 s HX.out) (by omega) (by simp; omega) ?_; intro v2 w2 hown2 hgrow2; have R2 := Lib.hid hown2; have B2 := Lib.hid (grown_below (B1.out.alloc hz1 _) (by simp; omega) (R1.out.alloc _) hgrow2); have hz2 := hgrow2.size; clear hown2 hgrow2 tok2)
          | (at_builtin; have _t := tok3; refine wpList_append_strs rfl _ _ rfl w.heap.size _ _ _ rfl R2.out _ _ _ [] rfl (IsStrs.empty _ _ (by unfold maxLen; omega)) (by omega) (by have := B2.out.size; omega) ?_; intro v3 w3 hown3 hgrow3; have R3 := Lib.hid hown3; have B3 := Lib.hid (grown_below B2.out B2.out.size R2.out hgrow3); clear hown3 hgrow3 tok3))
        go_ret
        refine ⟨v3, rfl, ?_, B3.out⟩
        rw [hlr.out, hr.out, hd0.out]
        exact owns_base R3.out hB
      · have tok1 : True := trivial
        have tok2 : True := trivial
        have tok3 : True := trivial
        go_wp2_with (first
          | (at_builtin; have _t := tok1; refine wpList_append_strs rfl _ _ rfl w.heap.size _ 0 [] rfl hrow0.out _ n cap _ rfl IT.out (by omega) (Nat.le_refl _) ?_; intro v1 w1 hown1 hgrow1; have R1 := Lib.hid hown1; have B1 := Lib.hid (grown_below (Below.refl _ _) (Nat.le_refl _) hrow0.out hgrow1); have hz1 := hgrow1.size; clear hown1 hgrow1 tok1)
          | (at_builtin; have _t := tok2; refine wpList_append_strs rfl _ _ rfl w.heap.size _ _ _ rfl (R1.out.alloc _) _ 1 1 [s] rfl (IsStrs.one w1 s HX.out) (by omega) (by simp; omega) ?_; intro v2 w2 hown2 hgrow2; have R2 := Lib.hid hown2; have B2 := Lib.hid (grown_below (B1.out.alloc hz1 _) (by simp; omega) (R1.out.alloc _) hgrow2); have hz2 := hgrow2.size; clear hown2 hgrow2 tok2)
          | (at_builtin; have _t := tok3; refine wpList_append_strs rfl _ _ rfl w.heap.size _ _ _ rfl R2.out _ _ _ [] rfl (IsStrs.empty _ _ (by unfold maxLen; omega)) (by omega) (by have := B2.out.size; omega) ?_; intro v3 w3 hown3 hgrow3; have R3 := Lib.hid hown3; have B3 := Lib.hid (grown_below B2.out B2.out.size R2.out hgrow3); clear hown3 hgrow3 tok3))
        go_ret
        refine ⟨v3, rfl, ?_, B3.out⟩
        rw [hlr.out, hr.out, hd0.out]
        exact owns_base R3.out hB
theorem Put_any (w : World) (B n : Nat) (v : Value) (zs : List Str) (s : Str) (h : w.ownsRow B 9 1 v n (svals zs)) (hs : ∀ z ∈ zs, z.length ≤ maxLen) (hx : s.length ≤ maxLen) (hn : n ≤ 1000) (hB : B ≤ w.heap.size) :
    Calls Try.prog 41 #[v, .string (mk s)] w (RetP B (put zs s) w) := by
  rcases owns_shape h hs with ⟨rfl, rfl, rfl⟩ | ⟨g, cap, rfl, hBg, hg, hi⟩
  · exact Put_nil w B s hx hB
  · exact Put_some w B n cap g zs s h hi hx hn hB
end Go.Proofs.Ytokbfplligdaeaa
