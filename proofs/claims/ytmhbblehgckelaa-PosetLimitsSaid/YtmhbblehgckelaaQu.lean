/- Rows of declarations as their cells: taking them apart, joining them, appending to them. -/
import Derived.Test.YtmhbblehgckelaaQf
import Derived.Maps.AppendAt
import Derived.Deep.AppendLies
import Derived.Deep.RegionHeld3
namespace Go.Proofs.Ytmhbblehgckelaa
open Go.RowKit Go.Maps

/-- The cells from 3 i on are those of a declaration. -/
def DecV (w : World) (vs : List Value) (i : Nat) (d : Dec) : Prop :=
  ∃ sa sc fa fc, vs[i * 3]? = some (.string (mk d.name)) ∧ vs[i * 3 + 1]? = some (.slice sa d.sup.length sc) ∧ vs[i * 3 + 2]? = some (.slice fa d.nf fc) ∧
    IsStrs w sa d.sup.length sc d.sup ∧ d.nf ≤ fc ∧ fc ≤ maxLen ∧ d.name.length ≤ maxLen
def DecVs (w : World) (vs : List Value) (D : List Dec) : Prop := vs.length = D.length * 3 ∧ ∀ i d, D[i]? = some d → DecV w vs i d

theorem DecVs.below {w w' : World} {vs : List Value} {D : List Dec} (h : DecVs w vs D) (hb : Below w.heap.size w w') : DecVs w' vs D :=
  ⟨h.1, fun i d hd => let ⟨sa, sc, fa, fc, h0, h1, h2, h3, h4⟩ := h.2 i d hd; ⟨sa, sc, fa, fc, h0, h1, h2, h3.below hb, h4⟩⟩
theorem DecVs.one {w : World} {vs : List Value} {D : List Dec} (h : DecVs w vs D) : ∀ u ∈ vs, u.oneCell' = true := by
  intro u hu
  obtain ⟨j, hj⟩ := List.getElem?_of_mem hu
  have hlt := (List.getElem?_eq_some_iff.1 hj).1
  rw [h.1] at hlt
  obtain ⟨sa, sc, fa, fc, h0, h1, h2, _⟩ := h.2 (j / 3) _ (List.getElem?_eq_getElem (by omega))
  rcases (show j = j / 3 * 3 ∨ j = j / 3 * 3 + 1 ∨ j = j / 3 * 3 + 2 by omega) with e | e | e
  · rw [← e, hj] at h0; cases h0; rfl
  · rw [← e, hj] at h1; cases h1; rfl
  · rw [← e, hj] at h2; cases h2; rfl
theorem DecVs.app {w : World} {us vs : List Value} {D E : List Dec} (h : DecVs w us D) (g : DecVs w vs E) : DecVs w (us ++ vs) (D ++ E) := by
  refine ⟨by rw [List.length_append, List.length_append, h.1, g.1]; omega, fun i d hd => ?_⟩
  rcases Nat.lt_or_ge i D.length with hi | hi
  · rw [List.getElem?_append_left hi] at hd
    obtain ⟨sa, sc, fa, fc, h0, h1, h2, h3⟩ := h.2 i d hd
    have hl := h.1
    exact ⟨sa, sc, fa, fc, by rw [List.getElem?_append_left (by omega)]; exact h0, by rw [List.getElem?_append_left (by omega)]; exact h1, by rw [List.getElem?_append_left (by omega)]; exact h2, h3⟩
  · rw [List.getElem?_append_right hi] at hd
    obtain ⟨sa, sc, fa, fc, h0, h1, h2, h3⟩ := g.2 _ d hd
    have hl := h.1
    have sh : ∀ k, i * 3 + k - us.length = (i - D.length) * 3 + k := fun k => by omega
    refine ⟨sa, sc, fa, fc, ?_, ?_, ?_, h3⟩
    · rw [List.getElem?_append_right (by omega)]; have := sh 0; simp only [Nat.add_zero] at this; rw [this]; exact h0
    · rw [List.getElem?_append_right (by omega), sh 1]; exact h1
    · rw [List.getElem?_append_right (by omega), sh 2]; exact h2
theorem DecVs.take {w : World} {vs : List Value} {D : List Dec} (h : DecVs w vs D) {k : Nat} (hk : k ≤ D.length) : DecVs w (vs.take (k * 3)) (D.take k) := by
  have hl := h.1
  refine ⟨by rw [List.length_take, List.length_take]; omega, fun i d hd => ?_⟩
  have hi : i < k := by
    have := (List.getElem?_eq_some_iff.1 hd).1
    rw [List.length_take] at this; omega
  rw [List.getElem?_take_of_lt hi] at hd
  obtain ⟨sa, sc, fa, fc, h0, h1, h2, h3⟩ := h.2 i d hd
  exact ⟨sa, sc, fa, fc, by rw [List.getElem?_take_of_lt (by omega)]; exact h0, by rw [List.getElem?_take_of_lt (by omega)]; exact h1, by rw [List.getElem?_take_of_lt (by omega)]; exact h2, h3⟩
theorem DecVs.drop {w : World} {vs : List Value} {D : List Dec} (h : DecVs w vs D) {k : Nat} (hk : k ≤ D.length) : DecVs w (vs.drop (k * 3)) (D.drop k) := by
  have hl := h.1
  refine ⟨by rw [List.length_drop, List.length_drop]; omega, fun i d hd => ?_⟩
  rw [List.getElem?_drop] at hd
  obtain ⟨sa, sc, fa, fc, h0, h1, h2, h3⟩ := h.2 _ d hd
  refine ⟨sa, sc, fa, fc, ?_, ?_, ?_, h3⟩
  · rw [List.getElem?_drop, show k * 3 + i * 3 = (k + i) * 3 by omega]; exact h0
  · rw [List.getElem?_drop, show k * 3 + (i * 3 + 1) = (k + i) * 3 + 1 by omega]; exact h1
  · rw [List.getElem?_drop, show k * 3 + (i * 3 + 2) = (k + i) * 3 + 2 by omega]; exact h2

/-- The cells of a slice of declarations. -/
theorem IsDecs.vals {w : World} {b off n cap : Nat} {D : List Dec} (h : IsDecs w (some ⟨b, off, none⟩) n cap D) (h0 : 0 < n) : ∃ vs, DecVs w vs D ∧ ∀ j u, vs[j]? = some u → w.cell? ⟨b, off + j, none⟩ = some u := by
  obtain ⟨b', off', e, hb, hc⟩ := h.at_ h0
  cases e
  have hlen := h.len
  have cell : ∀ j, j < n * 3 → ∃ u, w.cell? ⟨b, off + j, none⟩ = some u := by
    intro j hj
    obtain ⟨sa, sc, fa, fc, hd⟩ := hc (j / 3) (by omega)
    rcases (show j = j / 3 * 3 ∨ j = j / 3 * 3 + 1 ∨ j = j / 3 * 3 + 2 by omega) with e | e | e
    · have := hd.c0; rw [← e] at this; exact ⟨_, this⟩
    · have := hd.c1; rw [Nat.add_assoc, ← e] at this; exact ⟨_, this⟩
    · have := hd.c2; rw [Nat.add_assoc, ← e] at this; exact ⟨_, this⟩
  refine ⟨(List.range (n * 3)).map fun j => (w.cell? ⟨b, off + j, none⟩).getD undef, ⟨by rw [List.length_map, List.length_range, hlen], fun i d hd => ?_⟩, fun j u hu => ?_⟩
  · have hi : i < n := by rw [← hlen]; exact (List.getElem?_eq_some_iff.1 hd).1
    have e : dc D i = d := by
      have := dc_get (D := D) (i := i) (by omega)
      rw [hd] at this; exact (Option.some.inj this).symm
    obtain ⟨sa, sc, fa, fc, hx⟩ := hc i hi
    rw [e] at hx
    have at_ : ∀ k v, k < 3 → w.cell? ⟨b, off + i * 3 + k, none⟩ = some v → ((List.range (n * 3)).map fun j => (w.cell? ⟨b, off + j, none⟩).getD undef)[i * 3 + k]? = some v := by
      intro k v hk hv
      rw [List.getElem?_map, List.getElem?_range (by omega), Option.map_some, ← Nat.add_assoc, hv]; rfl
    exact ⟨sa, sc, fa, fc, at_ 0 _ (by omega) hx.c0, at_ 1 _ (by omega) hx.c1, at_ 2 _ (by omega) hx.c2, hx.ss, hx.fl, hx.fm, hx.nl⟩
  · rw [List.getElem?_map] at hu
    have hj : j < n * 3 := by
      rcases Nat.lt_or_ge j (n * 3) with g | g
      · exact g
      · rw [List.getElem?_eq_none (by rw [List.length_range]; exact g)] at hu; cases hu
    rw [List.getElem?_range hj, Option.map_some] at hu
    obtain ⟨v, hv⟩ := cell j hj
    rw [hv] at hu ⊢
    exact hu

theorem Try.infoD : (Try.prog.info? 35).map (fun i => (i.zero, i.size, i.bytes)) = some (some (.agg #[.string ByteArray.empty, .slice none 0 0, .slice none 0 0]), 3, 64) := by kernel_rfl
/-- An owned row of cells reads as the declarations. -/
theorem IsDecs.of_owns {w : World} {B n : Nat} {v : Value} {vs : List Value} {D : List Dec} (h : w.ownsRow B 35 3 v n vs) (hv : DecVs w vs D) (hn : D.length = n) : ∃ a cap, v = .slice a n cap ∧ IsDecs w a n cap D := by
  have hh := h
  obtain ⟨h1, ⟨h2, h3⟩ | ⟨g, cap, cur, hv2, hB, hg, h3, h4, h5, h6⟩⟩ := h
  · subst h3
    exact ⟨none, 0, h2, hn, Nat.le_refl _, Nat.zero_le _, fun h0 => absurd h0 (Nat.lt_irrefl _)⟩
  · refine ⟨some ⟨g, 0, none⟩, cap, hv2, hn, h3, h4, fun _ => ⟨g, 0, rfl, lt_of_block hg, fun i hi => ?_⟩⟩
    obtain ⟨sa, sc, fa, fc, c0, c1, c2, r1, r2, r3, r4⟩ := hv.2 i _ (dc_get (by omega))
    have cell : ∀ j u, vs[j]? = some u → w.cell? ⟨g, j, none⟩ = some u := fun j u hu => by
      have := hh.cells (g := g) (by rw [hv2]; rfl) j u hu
      rwa [show (⟨g, 0, none⟩ : Addr).add j = ⟨g, j, none⟩ by unfold Addr.add; split <;> simp_all] at this
    rw [Nat.zero_add]
    exact ⟨sa, sc, fa, fc, ⟨cell _ _ c0, cell _ _ c1, cell _ _ c2, r1, r2, r3, r4⟩⟩

/-- append of a slice of declarations to an owned row, at a step of a region that draws its order; either may be empty. -/
theorem step_append_decs {w : World} {ops : Array Oper} {o : Oper} {a : Act} {K : Act → World → Prop} {Q : Exit → Act → World → Prop} {E : Prop} (hgd : o.guard = none) (s x : Operand)
    (ho : o.op = .call { callee := .builtin .append, args := #[s, x], argTypes := #[22, 22] })
    (base : Nat) (v : Value) (n : Nat) (xs : List Value) (hs : a.eval s = v) (hown : w.ownsRow base 35 3 v n xs)
    (b off m c : Nat) (news : List Value) (hx : a.eval x = .slice (some ⟨b, off, none⟩) m c) (hl : news.length = m * 3) (hnews : ∀ j u, news[j]? = some u → w.cell? ⟨b, off + j, none⟩ = some u) (h1 : ∀ u ∈ news, u.oneCell' = true)
    (h63 : n + m ≤ 1000000) (hbase : base ≤ w.heap.size)
    (h : ∀ v' w', w'.ownsRow base 35 3 v' (n + m) (xs ++ news) → w.grownBy w' v.ownBlock → (v'.ownBlock = v.ownBlock ∨ v'.ownBlock = some w.heap.size) → K (a.put o.dst v') w') :
    if Region.wanted o (yielded ops a.tmps) = true then Oper.wp Try.prog o a w K Q else E := by
  have hw : Region.wanted o (yielded ops a.tmps) = true := by simp [Region.wanted, hgd]
  rw [if_pos hw]
  obtain ⟨i0, hi, hz0, hz1, hz2⟩ := info_parts Try.infoD
  obtain ⟨v', w', hr, h2, h3, _, h5⟩ := run_append_own_at (P := Try.prog) w base 22 o.type 35 i0 _ 3 64 Try.underlying22 hi hz0 hz1 hz2 rfl (by decide) v n xs hown ⟨b, off, none⟩ m c news hl
    (fun j u hu => by rw [show (⟨b, off, none⟩ : Addr).add j = ⟨b, off + j, none⟩ by unfold Addr.add; split <;> simp_all]; exact hnews j u hu) h1 (by unfold maxLen; omega) (by omega) hbase
  unfold Oper.wp execOp
  simp only [ho, resolve, invoke, builtin, Sem.run_bind, Sem.run_pure, Result.andThen_ok, List.map_toArray, List.map_cons, List.map_nil, hs, hx, hr]
  exact h v' w' h2 h3 h5
end Go.Proofs.Ytmhbblehgckelaa
