/- Walks of the reference of package poset: Above, Below. -/
import Derived.Test.YtmhbblehgckelaaPn
namespace Go.Proofs.Ytmhbblehgckelaa
open Go.RowKit

theorem owns_one (w : World) (x : Str) : (w.alloc (.cells #[.string (mk x)] 9)).ownsRow w.heap.size 9 1 (.slice (some ⟨w.heap.size, 0, none⟩) 1 1) 1 (svals [x]) :=
  ⟨rfl, .inr ⟨w.heap.size, 1, _, rfl, Nat.le_refl _, heap_alloc_new w _, Nat.le_refl _, by unfold maxLen; omega, rfl, rfl⟩⟩
/-- The declaration that is found by a name. -/
theorem fi_up {D : List Dec} (hn : (nms D).Nodup) {y : Str} (hy : y ∈ nms D) : ∃ i, i < D.length ∧ fi D y = (i : Int) ∧ up D y = (dc D i).sup := by
  unfold fi
  cases e : D.findIdx? (fun d => d.name == y) with
  | none =>
    obtain ⟨d, hd, e2⟩ := List.mem_map.1 hy
    have := List.findIdx?_eq_none_iff.1 e d hd
    simp [e2] at this
  | some i =>
    obtain ⟨h1, h2, _⟩ := List.findIdx?_eq_some_iff_getElem.1 e
    have hg : D[i] = dc D i := by
      have := dc_get h1
      rw [List.getElem?_eq_getElem h1] at this
      exact Option.some.inj this
    rw [hg] at h2
    have h3 : (dc D i).name = y := by simpa using h2
    exact ⟨i, h1, rfl, by rw [← h3]; exact up_of hn (dc_mem h1)⟩
theorem owns_draw {w : World} {B n sz : Nat} {e : TypeId} {v : Value} {xs : List Value} {o : Obj} (h : w.ownsRow B e sz v n xs) (m : Nat) : ((w.alloc o).drewN m).ownsRow B e sz v n xs :=
  owns_below (h.alloc o) (below_drewN2 (Below.refl _ _) m)
theorem below_draw {B : Nat} {a w : World} {o : Obj} (h : Below B a w) (hz : B ≤ w.heap.size) (m : Nat) : Below B a ((w.alloc o).drewN m) := below_drewN2 (h.alloc hz o) m
theorem Bfs.small {f : Str → List Str} {N : List Str} {x : Str} {i : Nat} {t : List Str} (h : Bfs f N x i t) (hs : ∀ z ∈ N, z.length ≤ maxLen) : ∀ z ∈ t, z.length ≤ maxLen := fun z hz => hs z (h.sub z hz)
theorem Bfs.len {f : Str → List Str} {N : List Str} {x : Str} {i : Nat} {t : List Str} (h : Bfs f N x i t) : t.length ≤ N.length := nodup_len h.nodup h.sub
theorem ab_end {D : List Dec} (ok : Ok D) {x : Str} (hx : x ∈ nms D) {i : Nat} {t : List Str} (h : Bfs (up D) (nms D) x i t) (hi : t.length ≤ i) : ab D x = srt t :=
  asc_ext (ab_asc D x) (srt_asc t) fun y => by
    rw [mem_ab ok, mem_srt, h.end (List.getElem?_eq_none_iff.2 hi)]
    exact ⟨fun g => g.2, fun g => ⟨hx, g⟩⟩
theorem bl_end {D : List Dec} {x : Str} (hx : x ∈ nms D) {i : Nat} {t : List Str} (h : Bfs (dnR D) (nms D) x i t) (hi : t.length ≤ i) : bl D x = srt t :=
  asc_ext (bl_asc D x) (srt_asc t) fun y => by
    rw [mem_bl, mem_srt, h.end (List.getElem?_eq_none_iff.2 hi)]
    constructor
    · rintro ⟨_, e | e⟩
      · exact .inl e
      · exact .inr (e.congr fun _ _ => mem_dnR.2)
    · rintro (e | e)
      · exact ⟨hx, .inl e⟩
      · exact ⟨hx, .inr (e.congr fun _ _ => mem_dnR.1)⟩
theorem ab_none {D : List Dec} {x : Str} (h : x ∉ nms D) : ab D x = [] := by unfold ab; rw [if_neg h]
theorem bl_none {D : List Dec} {x : Str} (h : x ∉ nms D) : bl D x = [] := by unfold bl; rw [if_neg h]
theorem adds_take {l t : List Str} {j : Nat} (hj : j < l.length) : (l.take (j + 1)).foldl add t = add ((l.take j).foldl add t) (st l j) := by
  rw [take_st hj, List.foldl_append]; rfl
theorem add_in {t : List Str} {x : Str} (h : inS t x = true) : add t x = t := by unfold add; exact if_pos h
theorem add_out {t : List Str} {x : Str} (h : inS t x = false) : add t x = t ++ [x] := by
  unfold add
  have : ¬ t.contains x = true := by
    intro g; have g2 : inS t x = true := g; rw [h] at g2; cases g2
  rw [if_neg this]
theorem dnR_sub {D : List Dec} : ∀ x y, y ∈ dnR D x → y ∈ nms D := fun _ _ hy => dn_mem (mem_dnR.1 hy)
theorem dnR_take {D : List Dec} {x : Str} {t : List Str} {j : Nat} (hj : j < D.length) : (dnR (D.take (j + 1)) x).foldl add t = if inS (dc D j).sup x then add ((dnR (D.take j) x).foldl add t) (dc D j).name else (dnR (D.take j) x).foldl add t := by
  unfold dnR
  rw [take_dc hj, List.filter_append, List.map_append, List.foldl_append]
  by_cases h : inS (dc D j).sup x = true
  · rw [if_pos h]
    have : ([dc D j].filter fun d => d.sup.contains x) = [dc D j] := by
      have h2 : (dc D j).sup.contains x = true := h
      rw [List.filter_cons, if_pos h2]; rfl
    rw [this]; rfl
  · rw [if_neg h]
    have : ([dc D j].filter fun d => d.sup.contains x) = [] := by
      have h2 : ¬ (dc D j).sup.contains x = true := h
      rw [List.filter_cons, if_neg h2]; rfl
    rw [this]; rfl

end Go.Proofs.Ytmhbblehgckelaa
