/- Walks of package poset: library functions at rows of the call's own; what the order's loop keeps. -/
import Derived.Test.YtmhbblehgckelaaPu
import Derived.Lib.OwnBridge
namespace Go.Proofs.Ytmhbblehgckelaa
open Go.RowKit Go.Maps Go.Lib Go.Sort

theorem minS_cases (x y : ByteArray) : (Lib.minS x y = x ∧ ¬ y.data.toList < x.data.toList) ∨ (Lib.minS x y = y ∧ ¬ x.data.toList < y.data.toList) := by
  unfold Lib.minS
  split
  · rename_i h
    refine .inl ⟨rfl, fun g => ?_⟩
    rcases h with h | h
    · exact List.lt_irrefl _ (List.lt_trans h g)
    · rw [h] at g; exact List.lt_irrefl _ g
  · rename_i h
    exact .inr ⟨rfl, fun g => h (.inl g)⟩
theorem minS_fold : ∀ (L : List ByteArray) (a : ByteArray), (L.foldl Lib.minS a ∈ a :: L) ∧ ∀ y ∈ a :: L, ¬ y.data.toList < (L.foldl Lib.minS a).data.toList
  | [], a => ⟨by simp, fun y hy => by simp at hy; subst hy; exact List.lt_irrefl _⟩
  | b :: L, a => by
    obtain ⟨h1, h2⟩ := minS_fold L (Lib.minS a b)
    rw [List.foldl_cons]
    have hm := h2 (Lib.minS a b) (List.mem_cons_self ..)
    rcases minS_cases a b with ⟨e, hl⟩ | ⟨e, hl⟩
    · rw [e] at h1 h2 hm ⊢
      refine ⟨?_, fun y hy => ?_⟩
      · rcases List.mem_cons.1 h1 with g | g
        · rw [g]; exact List.mem_cons_self ..
        · exact List.mem_cons_of_mem _ (List.mem_cons_of_mem _ g)
      · rcases List.mem_cons.1 hy with g | g
        · rw [g]; exact hm
        · rcases List.mem_cons.1 g with g | g
          · rw [g]; intro hlt
            rcases str_tri b.data.toList a.data.toList with t | t | t
            · exact hl t
            · rw [t] at hlt; exact hm hlt
            · exact hm (List.lt_trans t hlt)
          · exact h2 y (List.mem_cons_of_mem _ g)
    · rw [e] at h1 h2 hm ⊢
      refine ⟨?_, fun y hy => ?_⟩
      · rcases List.mem_cons.1 h1 with g | g
        · rw [g]; exact List.mem_cons_of_mem _ (List.mem_cons_self ..)
        · exact List.mem_cons_of_mem _ (List.mem_cons_of_mem _ g)
      · rcases List.mem_cons.1 hy with g | g
        · rw [g]; intro hlt
          rcases str_tri a.data.toList b.data.toList with t | t | t
          · exact hl t
          · rw [t] at hlt; exact hm hlt
          · exact hm (List.lt_trans t hlt)
        · rcases List.mem_cons.1 g with g | g
          · rw [g]; exact hm
          · exact h2 y (List.mem_cons_of_mem _ g)
theorem minOfS_spec {zs : List Str} (h : zs ≠ []) : ∃ m ∈ zs, Lib.minOfS (zs.map mk) = mk m ∧ ∀ y ∈ zs, ¬ y < m := by
  cases zs with
  | nil => exact absurd rfl h
  | cons a l =>
    have h2 := minS_fold (mk a :: l.map mk) (mk a)
    have e : Lib.minOfS ((a :: l).map mk) = (mk a :: l.map mk).foldl Lib.minS (mk a) := rfl
    rw [← e] at h2
    have hin : Lib.minOfS ((a :: l).map mk) ∈ (a :: l).map mk := by
      rcases List.mem_cons.1 h2.1 with g | g
      · rw [g]; simp
      · exact g
    obtain ⟨m, hm, he⟩ := List.mem_map.1 hin
    refine ⟨m, hm, he.symm, fun y hy => ?_⟩
    have := h2.2 (mk y) (List.mem_cons_of_mem _ (List.mem_map.2 ⟨y, hy, rfl⟩))
    rw [← he, mk_list, mk_list] at this
    exact this
theorem getD_mk {zs : List Str} {j : Nat} (hj : j < zs.length) : (zs.map mk).getD j ByteArray.empty = mk (st zs j) := by
  rw [List.getD_eq_getElem?_getD, List.getElem?_map, st_get hj]; rfl
theorem Min_any (w : World) (a : Option Addr) (n cap : Nat) (zs : List Str) (h : IsStrs w a n cap zs) (h0 : 0 < n) (hn : n ≤ 100000) :
    Calls Try.prog 34 #[.slice a n cap] w fun e w' => (∃ m, m ∈ zs ∧ (∀ y ∈ zs, ¬ y < m) ∧ e = .returned (.string (mk m))) ∧ w = w' := by
  have hl := h.len
  obtain ⟨b, off, rfl, hbl, hx⟩ := h.at_ h0
  refine (Try.slices_Min_string b off n cap (zs.map mk) w h0 (by simp [hl]) (by omega) (fun j hj => ?_)).mono fun e w' hh => ⟨?_, hh.2.symm⟩
  · have hj : j < n := by simpa [hl] using hj
    rw [hx j hj, getD_mk (by omega)]
  · rw [List.take_of_length_le (by simp [hl])] at hh
    obtain ⟨m, hm, e1, e2⟩ := minOfS_spec (zs := zs) (fun e => by rw [e] at hl; simp at hl; omega)
    exact ⟨m, hm, e2, by rw [hh.1, e1]⟩
theorem Index_any (w : World) (a : Option Addr) (n cap : Nat) (zs : List Str) (s : Str) (h : IsStrs w a n cap zs) (hnd : zs.Nodup) (hs : s ∈ zs) (hn : n ≤ 100000) :
    Calls Try.prog 35 #[.slice a n cap, .string (mk s)] w fun e w' => (∃ k : Nat, k < n ∧ st zs k = s ∧ e = .returned (.int .i64 ((k : Nat) : Int))) ∧ w = w' := by
  have hl := h.len
  obtain ⟨k, hk, e⟩ := List.getElem_of_mem hs
  have hsk : st zs k = s := by
    have := st_get hk
    rw [List.getElem?_eq_getElem hk, e] at this
    exact (Option.some.inj this).symm
  obtain ⟨b, off, rfl, hbl, hx⟩ := h.at_ (by omega)
  refine (Try.slices_Index_string b off n cap (zs.map mk) (mk s) w (by simp [hl]) (by omega) (fun j hj => ?_)).mono fun e w' hh => ⟨?_, hh.2.symm⟩
  · have hj : j < n := by simpa [hl] using hj
    rw [hx j hj, getD_mk (by omega)]
  · refine ⟨k, by omega, hsk, ?_⟩
    rw [hh.1]
    congr 2
    refine Lib.idxOfS_hit (zs.map mk) n k (mk s) (by omega) (by simp [hl]) (by rw [getD_mk hk, hsk]) fun j hj => ?_
    rw [getD_mk (by omega)]
    intro e2
    have := mk_inj e2
    have h1 := st_get hk
    have h2 := st_get (zs := zs) (i := j) (by omega)
    rw [hsk] at h1
    rw [this] at h2
    have := prefix_nodup_at hnd h1 h2
    omega
/-- slices.Delete of one element of a row that the call owns. -/
theorem Delete_any (w : World) (B n : Nat) (v : Value) (zs : List Str) (k : Nat) (h : w.ownsRow B 9 1 v n (svals zs)) (hk : k < n) :
    Calls Try.prog 36 #[v, .int .i64 ((k : Nat) : Int), .int .i64 ((k : Nat) + 1 : Int)] w fun e w' => ∃ v', e = .returned v' ∧ w'.ownsRow B 9 1 v' (n - 1) (svals (zs.eraseIdx k)) ∧ w.grownBy w' v.ownBlock ∧ v'.ownBlock = v.ownBlock := by
  have hv : v ≠ .slice none 0 0 := by
    rintro rfl
    rcases h.2 with ⟨_, e⟩ | ⟨g, cap, cur, e, _⟩
    · omega
    · cases e
  obtain ⟨g, cap, rfl, hB, hg, hnc, hcm, hl, hH⟩ := holds_of_ownsRow (enc := encStr) h hv
  have hd := Try.slices_Delete_string g 0 cap k (k + 1) zs w hH (by omega) (by unfold maxLen at hcm; omega) (by omega) (by omega)
  rw [hl] at hd
  refine hd.mono fun e w' hh => ?_
  obtain ⟨he, q, hw⟩ := hh
  have hlen : (zs.take k ++ zs.drop (k + 1) ++ List.replicate (k + 1 - k) ([] : List UInt8)).length = n := by simp; omega
  have hrow := ownsRow_putRow (enc := encStr) (q := q) (ys := zs.take k ++ zs.drop (k + 1) ++ List.replicate (k + 1 - k) ([] : List UInt8)) (k := n - 1) h hlen (by omega)
  rw [← hw] at hrow
  have htk : (zs.take k ++ zs.drop (k + 1) ++ List.replicate (k + 1 - k) ([] : List UInt8)).take (n - 1) = zs.eraseIdx k := by
    rw [List.take_append_of_le_length (by simp; omega), List.take_of_length_le (by simp; omega), List.eraseIdx_eq_take_drop_succ]
  rw [htk] at hrow
  refine ⟨.slice (some ⟨g, 0, none⟩) (n - 1) cap, ?_, hrow, ?_, rfl⟩
  · rw [he, show n - (k + 1 - k) = n - 1 by omega]
  · rw [hw]
    refine ⟨rfl, rfl, rfl, by simp [putRow, mapBlock, Sort.ahead], fun j hj hne => ?_⟩
    have hgj : g ≠ j := fun e => hne (by rw [e]; rfl)
    simp [putRow, mapBlock, Sort.ahead, Array.getElem?_modify, hgj]
end Go.Proofs.Ytmhbblehgckelaa
