/- Plain: the first type of the order is above all; each comes behind what is above it. -/
import Derived.Test.YtmhbblehgckelaaQi
namespace Go.Proofs.Ytmhbblehgckelaa
open Go.RowKit Go.Maps

theorem Plc.before {D : List Dec} {a : List Str} (h : Plc D a) {x y : Str} (r : Rc (up D) x y) : ∀ b c, a = b ++ x :: c → y ∈ b := by
  induction r with
  | one e => intro b c ha; exact h.behind b c _ ha _ e
  | @more y z _ e ih =>
    intro b c ha
    have hy := ih b c ha
    obtain ⟨b1, b2, e2⟩ := List.append_of_mem hy
    have hz := h.behind b1 (b2 ++ x :: c) y (by rw [ha, e2]; simp) z e
    rw [e2]
    exact List.mem_append_left _ hz
theorem rc_before {D : List Dec} {x y : Str} (r : Rc (up D) x y) {i k : Nat} (hi : (plc D)[i]? = some x) (hk : (plc D)[k]? = some y) : k < i := by
  obtain ⟨hil, e1⟩ := List.getElem?_eq_some_iff.1 hi
  have hsp : plc D = (plc D).take i ++ x :: (plc D).drop (i + 1) := by
    rw [← e1, List.getElem_cons_drop hil, List.take_append_drop]
  have hy := (plc_plc D).before r _ _ hsp
  obtain ⟨j, hj, e2⟩ := List.getElem_of_mem hy
  rw [List.length_take] at hj
  have h2 : (plc D)[j]? = some y := by
    rw [List.getElem_take] at e2
    rw [List.getElem?_eq_getElem (by omega), e2]
  have := prefix_nodup_at (plc_plc D).nodup hk h2
  omega
theorem top_up {D : List Dec} {t : Str} {r : List Str} (e : plc D = t :: r) : up D t = [] :=
  List.eq_nil_iff_forall_not_mem.2 fun s hs => (List.not_mem_nil ((plc_plc D).behind [] r t e s hs)).elim
theorem top_one {D : List Dec} (hc : chkN D = 0) {x y : Str} (hx : x ∈ nms D) (hy : y ∈ nms D) (ex : up D x = []) (ey : up D y = []) : x = y := by
  have hg := goodN hc
  obtain ⟨d, hd, e1⟩ := List.mem_map.1 hx
  obtain ⟨d', hd', e2⟩ := List.mem_map.1 hy
  subst e1
  subst e2
  rw [up_of hg.ok.nodup hd] at ex
  rw [up_of hg.ok.nodup hd'] at ey
  have h1 : d ∈ D.filter fun d => d.sup.isEmpty := List.mem_filter.2 ⟨hd, by rw [ex]; rfl⟩
  have h2 : d' ∈ D.filter fun d => d.sup.isEmpty := List.mem_filter.2 ⟨hd', by rw [ey]; rfl⟩
  have ht := hg.top
  unfold tops at ht
  obtain ⟨z, hz⟩ := List.length_eq_one_iff.1 ht
  rw [hz, List.mem_singleton] at h1 h2
  rw [h1, h2]
theorem top_all {D : List Dec} (hc : chkN D = 0) {t : Str} {r : List Str} (e : plc D = t :: r) : ∀ x ∈ nms D, x = t ∨ Rc (up D) x t := by
  have hg := goodN hc
  have ht : t ∈ nms D := (plc_plc D).sub t (by rw [e]; simp)
  suffices ∀ n i x, i ≤ n → (plc D)[i]? = some x → x = t ∨ Rc (up D) x t from fun x hx => by
    obtain ⟨i, hi, e1⟩ := List.getElem_of_mem (hg.plc_all x hx)
    exact this i i x (Nat.le_refl _) (by rw [List.getElem?_eq_getElem hi, e1])
  intro n
  induction n with
  | zero =>
    intro i x hi hx
    obtain rfl : i = 0 := by omega
    rw [e] at hx
    exact .inl (Option.some.inj hx).symm
  | succ n ih =>
    intro i x hi hx
    have hxn : x ∈ nms D := (plc_plc D).sub x (List.mem_of_getElem? hx)
    cases hu : up D x with
    | nil => exact .inl (top_one hc hxn ht hu (top_up e))
    | cons s l =>
      have hs : s ∈ up D x := by rw [hu]; simp
      have hsn := hg.ok.up_mem hs
      obtain ⟨k, hk, e1⟩ := List.getElem_of_mem (hg.plc_all s hsn)
      have hks : (plc D)[k]? = some s := by rw [List.getElem?_eq_getElem hk, e1]
      have hlt := rc_before (.one hs) hx hks
      rcases ih k s (by omega) hks with g | g
      · rw [← g]; exact .inr (.one hs)
      · exact .inr ((Rc.one hs).trans g)
theorem top_bl {D : List Dec} (hc : chkN D = 0) {t : Str} {r : List Str} (e : plc D = t :: r) : (bl D t).length = D.length := by
  have hg := goodN hc
  have ht : t ∈ nms D := (plc_plc D).sub t (by rw [e]; simp)
  have h1 := nodup_len (bl_asc D t).nodup (b := nms D) (fun x hx => by
    rcases (mem_bl.1 hx).2 with g | g
    · rw [g]; exact ht
    · obtain ⟨y, hy⟩ := g.last
      exact dn_mem hy)
  have h2 := nodup_len hg.ok.nodup (b := bl D t) (fun x hx => mem_bl.2 ⟨ht, by
    rcases top_all hc e x hx with g | g
    · exact .inl g
    · exact .inr ((rc_turn hg.ok).2 g)⟩)
  rw [nms_len] at h1 h2
  omega
theorem top_ab {D : List Dec} (hc : chkN D = 0) {t : Str} {r : List Str} (e : plc D = t :: r) : (ab D t).length = 1 := by
  have hg := goodN hc
  have ht : t ∈ nms D := (plc_plc D).sub t (by rw [e]; simp)
  have : ab D t = [t] := by
    refine asc_ext (ab_asc D t) (by unfold Asc; simp) fun y => ?_
    rw [mem_ab hg.ok, List.mem_singleton]
    constructor
    · rintro ⟨_, g | g⟩
      · exact g
      · obtain ⟨z, hz⟩ := g.first
        rw [top_up e] at hz
        exact (List.not_mem_nil hz).elim
    · exact fun g => ⟨ht, .inl g⟩
  rw [this]; rfl
end Go.Proofs.Ytmhbblehgckelaa
