/- Plain: the order of the declarations does not matter. -/
import Derived.Test.YtmhbblehgckelaaQf
namespace Go.Proofs.Ytmhbblehgckelaa
open Go.RowKit Go.Maps

theorem nms_perm {D E : List Dec} (h : D.Perm E) : (nms D).Perm (nms E) := h.map _
theorem up_perm {D E : List Dec} (hn : (nms D).Nodup) (h : D.Perm E) (x : Str) : up D x = up E x := by
  have hn2 : (nms E).Nodup := (nms_perm h).nodup_iff.1 hn
  by_cases hx : x ∈ nms D
  · obtain ⟨d, hd, e⟩ := List.mem_map.1 hx
    subst e
    rw [up_of hn hd, up_of hn2 (h.mem_iff.1 hd)]
  · have h1 : ∀ y, y ∉ up D x := fun y hy => hx (up_left hy)
    have h2 : ∀ y, y ∉ up E x := fun y hy => hx ((nms_perm h).mem_iff.2 (up_left hy))
    rw [List.eq_nil_iff_forall_not_mem.2 h1, List.eq_nil_iff_forall_not_mem.2 h2]
theorem may_perm {D E : List Dec} (hn : (nms D).Nodup) (h : D.Perm E) (out : List Str) (x : Str) : may D out x ↔ may E out x := by
  unfold may
  rw [(nms_perm h).mem_iff, up_perm hn h]
theorem nxt_perm {D E : List Dec} (hn : (nms D).Nodup) (h : D.Perm E) (out : List Str) (x : Str) : nxt D out x ↔ nxt E out x := by
  unfold nxt
  rw [may_perm hn h]
  exact and_congr_right fun _ => forall_congr' fun y => by rw [may_perm hn h]
theorem Plc.perm {D E : List Dec} (hn : (nms D).Nodup) (h : D.Perm E) {l : List Str} (p : Plc D l) : Plc E l := by
  induction p with
  | nil => exact .nil
  | snoc _ hx ih => exact .snoc ih ((nxt_perm hn h _ _).1 hx)
theorem plc_perm {D E : List Dec} (hn : (nms D).Nodup) (h : D.Perm E) : plc D = plc E :=
  plc_is ((plc_plc D).perm hn h) (fun x hx => (Classical.choose_spec (plc_exists D)).2 x ((may_perm hn h _ _).2 hx))
theorem Ok.perm {D E : List Dec} (ok : Ok D) (h : D.Perm E) : Ok E :=
  ⟨(nms_perm h).nodup_iff.1 ok.nodup, fun d hd s hs => (nms_perm h).mem_iff.1 (ok.decl d (h.mem_iff.2 hd) s hs), fun d hd => ok.once d (h.mem_iff.2 hd)⟩
theorem ab_perm {D E : List Dec} (ok : Ok D) (h : D.Perm E) (x : Str) : ab D x = ab E x := by
  refine asc_ext (ab_asc D x) (ab_asc E x) fun y => ?_
  rw [mem_ab ok, mem_ab (ok.perm h), (nms_perm h).mem_iff]
  refine and_congr_right fun _ => or_congr_right ⟨fun r => r.congr fun a b hb => by rw [← up_perm ok.nodup h]; exact hb, fun r => r.congr fun a b hb => by rw [up_perm ok.nodup h]; exact hb⟩
theorem mem_dn_perm {D E : List Dec} (h : D.Perm E) {x y : Str} : y ∈ dn D x ↔ y ∈ dn E x := by
  rw [mem_dn, mem_dn]
  exact ⟨fun ⟨d, hd, r⟩ => ⟨d, h.mem_iff.1 hd, r⟩, fun ⟨d, hd, r⟩ => ⟨d, h.mem_iff.2 hd, r⟩⟩
theorem bl_perm {D E : List Dec} (h : D.Perm E) (x : Str) : bl D x = bl E x := by
  refine asc_ext (bl_asc D x) (bl_asc E x) fun y => ?_
  rw [mem_bl, mem_bl, (nms_perm h).mem_iff]
  refine and_congr_right fun _ => or_congr_right ⟨fun r => r.congr fun a b hb => (mem_dn_perm h).1 hb, fun r => r.congr fun a b hb => (mem_dn_perm h).2 hb⟩
theorem nmE_of {nm : Str → Bool} : ∀ {D : List Dec} {ea : List Str}, (nms D).Nodup → (∀ x ∈ nms D, x ∉ ea) → (∀ d ∈ D, nm d.name = true) → nmE nm ea D = 0
  | [], _, _, _, _ => rfl
  | d :: r, ea, h1, h2, h3 => by
    unfold nmE
    have hd : d.name ∉ ea := h2 _ (by simp [nms])
    have hn := List.nodup_cons.1 (show (d.name :: nms r).Nodup from h1)
    rw [if_pos (h3 d (by simp)), if_neg (by simpa using hd)]
    refine nmE_of hn.2 (fun x hx => ?_) (fun e he => h3 e (by simp [he]))
    intro hm
    rcases List.mem_append.1 hm with e | e
    · exact h2 x (by simp [nms] at hx ⊢; exact .inr hx) e
    · simp at e
      exact hn.1 (e ▸ hx)
theorem spE_of {N : List Str} : ∀ {l ea : List Str}, l.Nodup → (∀ x ∈ l, x ∉ ea) → (∀ x ∈ l, x ∈ N) → spE N ea l = 0
  | [], _, _, _, _ => rfl
  | s :: r, ea, h1, h2, h3 => by
    unfold spE
    have hs : s ∉ ea := h2 _ (by simp)
    have hn := List.nodup_cons.1 h1
    rw [if_pos (by simpa using h3 s (by simp)), if_neg (by simpa using hs)]
    refine spE_of hn.2 (fun x hx => ?_) (fun e he => h3 e (by simp [he]))
    intro hm
    rcases List.mem_append.1 hm with e | e
    · exact h2 x (by simp [hx]) e
    · simp at e
      exact hn.1 (e ▸ hx)
theorem suE_of {N : List Str} : ∀ {D : List Dec}, (∀ d ∈ D, d.sup.Nodup ∧ ∀ s ∈ d.sup, s ∈ N) → suE N D = 0
  | [], _ => rfl
  | d :: r, h => by
    unfold suE
    have := h d (by simp)
    rw [if_pos (spE_of this.1 (fun _ _ => List.not_mem_nil) this.2)]
    exact suE_of fun e he => h e (by simp [he])
theorem chk_perm {D E : List Dec} (hc : chkN D = 0) (h : D.Perm E) : chkN E = 0 := by
  have hg := goodN hc
  have hok := hg.ok.perm h
  have hnm : ∀ d ∈ D, isNam kLow d.name = true := by
    have h0 : nmE (isNam kLow) [] D = 0 := by
      unfold chkN chk at hc
      rw [if_neg (by rw [hg.sz]; simp)] at hc
      by_cases e : nmE (isNam kLow) [] D = 0
      · exact e
      · rw [if_pos e] at hc; exact absurd hc e
    exact (nmE_zero h0).2.2
  have hsz : szE E = 0 := by
    have h1 := hg.sz
    unfold szE at h1 ⊢
    rw [← h.length_eq]
    have ha : (E.any fun d => decide (256 < d.sup.length) || decide (256 < d.nf)) = D.any fun d => decide (256 < d.sup.length) || decide (256 < d.nf) := by
      rw [Bool.eq_iff_iff, List.any_eq_true, List.any_eq_true]
      exact ⟨fun ⟨d, hd, r⟩ => ⟨d, h.mem_iff.2 hd, r⟩, fun ⟨d, hd, r⟩ => ⟨d, h.mem_iff.1 hd, r⟩⟩
    rw [ha]; exact h1
  have h1 : nmE (isNam kLow) [] E = 0 := nmE_of hok.nodup (fun _ _ => List.not_mem_nil) (fun d hd => hnm d (h.mem_iff.2 hd))
  have h2 : suE (nms E) E = 0 := suE_of fun d hd => ⟨hok.once d hd, hok.decl d hd⟩
  have h3 : tops E = 1 := by
    have := hg.top
    unfold tops at this ⊢
    rw [← this]
    exact ((h.filter _).length_eq).symm
  unfold chkN chk
  rw [if_neg (by rw [hsz]; simp), if_neg (by rw [h1]; simp), if_neg (by rw [h2]; simp), if_neg (by rw [h3]; simp), if_neg]
  rw [← plc_perm hg.ok.nodup h, hg.all, h.length_eq]
  omega
theorem rot_perm (D : List Dec) (k : Nat) : (D.drop k ++ D.take k).Perm D := by
  have := List.perm_append_comm (l₁ := D.drop k) (l₂ := D.take k)
  rwa [List.take_append_drop] at this
end Go.Proofs.Ytmhbblehgckelaa
