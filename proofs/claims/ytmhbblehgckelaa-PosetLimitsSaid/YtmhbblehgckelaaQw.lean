/- A store in a row of declarations; the declarations of PosetLimits. -/
import Derived.Test.YtmhbblehgckelaaQv
namespace Go.Proofs.Ytmhbblehgckelaa
open Go.RowKit Go.Maps

theorem DecVs.setAt {w : World} {vs : List Value} {D : List Dec} (h : DecVs w vs D) {i j : Nat} (u : Value) {d' : Dec} (hi : i < D.length) (h1 : i * 3 ≤ j) (h2 : j < i * 3 + 3) (hd : DecV w (vs.set j u) i d') : DecVs w (vs.set j u) (D.set i d') := by
  refine ⟨by rw [List.length_set, List.length_set]; exact h.1, fun k d hk => ?_⟩
  by_cases e : k = i
  · subst e
    rw [List.getElem?_set_self hi] at hk
    cases hk
    exact hd
  · rw [List.getElem?_set_ne (fun h => e h.symm)] at hk
    obtain ⟨sa, sc, fa, fc, c0, c1, c2, r⟩ := h.2 k d hk
    refine ⟨sa, sc, fa, fc, ?_, ?_, ?_, r⟩
    · rw [List.getElem?_set_ne (by omega)]; exact c0
    · rw [List.getElem?_set_ne (by omega)]; exact c1
    · rw [List.getElem?_set_ne (by omega)]; exact c2
theorem OwnD.setAt {w : World} {B n g c i j : Nat} {vs : List Value} {D : List Dec} {d' : Dec} (h : OwnD w B n (.slice (some ⟨g, 0, none⟩) n c) vs D) (u : Value) (hi : i < D.length) (h1 : i * 3 ≤ j) (h2 : j < i * 3 + 3)
    (hu : ∀ (sa : Option Addr) (m cc : Nat) (p : Addr), u = .slice sa m cc → sa = some p → g ≠ p.block ∧ p.block < w.heap.size) (hd : w.grownBy (w.setCell ⟨g, j, none⟩ u) (some g) → DecV (w.setCell ⟨g, j, none⟩ u) (vs.set j u) i d') :
    OwnD (w.setCell ⟨g, j, none⟩ u) B n (.slice (some ⟨g, 0, none⟩) n c) (vs.set j u) (D.set i d') := by
  obtain ⟨hr, hg⟩ := h.row.stored j u
  refine ⟨hr, (h.dec.apart hg h.apart).setAt u hi h1 h2 (hd hg), fun k sa m cc p hk hp => ?_⟩
  rw [World.size_setCell]
  by_cases e : j = k
  · subst e
    have hl : j < vs.length := by rw [h.dec.1]; omega
    rw [List.getElem?_set_self hl] at hk
    obtain ⟨k1, k2⟩ := hu sa m cc p (Option.some.inj hk) hp
    exact ⟨fun e => k1 (Option.some.inj e), k2⟩
  · rw [List.getElem?_set_ne e] at hk
    exact h.apart k sa m cc p hk hp

def featT (k : Nat) : List Dec := (manyT 255).set 0 ⟨[116], [], k⟩
def supT (k : Nat) : List Dec := (manyT 255).set 1 ⟨mnm 1, List.replicate k [116], 0⟩
theorem featT_len (k : Nat) : (featT k).length = 256 := by unfold featT; rw [List.length_set, manyT_len]
theorem supT_len (k : Nat) : (supT k).length = 256 := by unfold supT; rw [List.length_set, manyT_len]
theorem featT_set (k m : Nat) : (featT k).set 0 ⟨[116], [], m⟩ = featT m := by unfold featT; rw [List.set_set]
theorem supT_set (k m : Nat) : (supT k).set 1 ⟨mnm 1, List.replicate m [116], 0⟩ = supT m := by unfold supT; rw [List.set_set]
theorem featT_zero : featT 0 = manyT 255 := by
  unfold featT manyT; rfl
theorem supT_one : supT 1 = manyT 255 := by
  unfold supT manyT
  rw [show (255 : Nat) = 254 + 1 from rfl, List.range_succ_eq_map]
  rfl
theorem featT_bad : chkN (featT 257) = 7 := long_at (i := 0) (by rw [featT_len]; exact Nat.le_refl _) (by unfold featT; rw [List.getElem?_set_self (by rw [manyT_len]; decide)]) (.inr (by decide))
theorem supT_bad : chkN (supT 257) = 7 := long_at (i := 1) (by rw [supT_len]; exact Nat.le_refl _) (by unfold supT; rw [List.getElem?_set_self (by rw [manyT_len]; decide)]) (.inl (by rw [List.length_replicate]; decide))
theorem featT_get (k : Nat) : (featT k)[0]? = some ⟨[116], [], k⟩ := by unfold featT; rw [List.getElem?_set_self (by rw [manyT_len]; decide)]
theorem supT_get (k : Nat) : (supT k)[1]? = some ⟨mnm 1, List.replicate k [116], 0⟩ := by unfold supT; rw [List.getElem?_set_self (by rw [manyT_len]; decide)]

theorem Try.infoFd : (Try.prog.info? 39).map (fun i => (i.zero, i.size, i.bytes)) = some (some (.agg #[.string ByteArray.empty, .string ByteArray.empty]), 2, 32) := by kernel_rfl
theorem DecVs.apart1 {w w' : World} {vs : List Value} {D : List Dec} {row : Option Nat} (h : DecVs w vs D) (hg : w.grownBy w' row) (hr : ∀ (i : Nat) (sa : Option Addr) (m c : Nat) (p : Addr), vs[i * 3 + 1]? = some (.slice sa m c) → sa = some p → row ≠ some p.block) : DecVs w' vs D :=
  ⟨h.1, fun i d hd => let ⟨sa, sc, fa, fc, h0, h1, h2, h3, h4⟩ := h.2 i d hd; ⟨sa, sc, fa, fc, h0, h1, h2, h3.apart hg (fun p hp => hr i _ _ _ p h1 hp), h4⟩⟩
/-- The row of the limits, with k features at its first declaration. -/
structure FeatS (w : World) (B B1 g c k : Nat) (fv : Value) : Prop where
  own : ∃ vs, OwnD w B 256 (.slice (some ⟨g, 0, none⟩) 256 c) vs (featT k) ∧ vs[2]? = some fv ∧ ∀ (i : Nat) (sa : Option Addr) (m cc : Nat) (p : Addr), vs[i * 3 + 1]? = some (.slice sa m cc) → sa = some p → p.block < B1
  row : ∃ fs, w.ownsRow B1 39 2 fv k fs
  lt : g < B1
theorem FeatS.cell {w : World} {B B1 g c k : Nat} {fv : Value} (h : FeatS w B B1 g c k fv) : w.cell? ⟨g, 2, none⟩ = some fv := by
  obtain ⟨vs, ho, h2, _⟩ := h.own
  have := ho.row.cells (g := g) rfl 2 fv h2
  rwa [show (⟨g, 0, none⟩ : Addr).add 2 = ⟨g, 2, none⟩ by unfold Addr.add; simp] at this
theorem FeatS.below {w w' : World} {B B1 g c k : Nat} {fv : Value} (h : FeatS w B B1 g c k fv) (hb : Below w.heap.size w w') : FeatS w' B B1 g c k fv :=
  let ⟨vs, h1, h2⟩ := h.own
  let ⟨fs, h3⟩ := h.row
  ⟨⟨vs, h1.below hb, h2⟩, ⟨fs, owns_below h3 hb⟩, h.lt⟩
/-- The row of features has grown, and is put in its place. -/
theorem FeatS.put {w w' : World} {B B1 g c k : Nat} {fv fv' : Value} {fs' : List Value} (h : FeatS w B B1 g c k fv) (hr : w'.ownsRow B1 39 2 fv' (k + 1) fs') (hg : w.grownBy w' fv.ownBlock) :
    FeatS (w'.setCell ⟨g, 2, none⟩ fv') B B1 g c (k + 1) fv' ∧ w'.frozen? ⟨g, 2, none⟩ = false ∧ w'.cell? ⟨g, 2, none⟩ = some fv ∧ w'.grownBy (w'.setCell ⟨g, 2, none⟩ fv') (some g) := by
  obtain ⟨vs, ho, h2, hB⟩ := h.own
  obtain ⟨fs, hf⟩ := h.row
  have hlt := h.lt
  have hne : (Value.slice (some ⟨g, 0, none⟩) 256 c).ownBlock ≠ fv.ownBlock := fun e => by have := (hf.lt g e.symm).1; omega
  have ho' : OwnD w' B 256 (.slice (some ⟨g, 0, none⟩) 256 c) vs (featT k) := by
    refine ⟨ho.row.kept hg (.inr hne), ho.dec.apart1 hg (fun i sa m cc p h1 hp e => ?_), fun j sa m cc p h1 hp => ⟨(ho.apart j sa m cc p h1 hp).1, Nat.lt_of_lt_of_le (ho.apart j sa m cc p h1 hp).2 hg.size⟩⟩
    have k1 := (hf.lt _ e).1
    have k2 := hB i sa m cc p h1 hp
    omega
  obtain ⟨f, fc, rfl, hf1, hf2⟩ := hr.form (by omega)
  have hcap : k + 1 ≤ fc ∧ fc ≤ maxLen := by
    obtain ⟨_, ⟨_, h0⟩ | ⟨g', cap, cur, hv, _, _, h3, h4, _⟩⟩ := hr
    · omega
    · cases hv; exact ⟨h3, h4⟩
  have hst := (ho'.row.stored 2 (.slice (some ⟨f, 0, none⟩) (k + 1) fc))
  have hset : OwnD (w'.setCell ⟨g, 2, none⟩ (.slice (some ⟨f, 0, none⟩) (k + 1) fc)) B 256 (.slice (some ⟨g, 0, none⟩) 256 c) (vs.set 2 (.slice (some ⟨f, 0, none⟩) (k + 1) fc)) ((featT k).set 0 ⟨[116], [], k + 1⟩) := by
    refine ho'.setAt (i := 0) (j := 2) _ (by rw [featT_len]; decide) (by omega) (by omega) (fun sa m cc p h1 hp => ?_) (fun hg2 => ?_)
    · cases h1
      cases hp
      exact ⟨by show g ≠ f; omega, hf2⟩
    · obtain ⟨sa, sc, fa, fc', c0, c1, c2, r1, r2, r3, r4⟩ := ho'.dec.2 0 _ (featT_get k)
      refine ⟨sa, sc, some ⟨f, 0, none⟩, fc, ?_, ?_, ?_, r1.apart hg2 (fun p hp e => (ho'.apart _ _ _ _ p c1 hp).1 e), hcap.1, hcap.2, (by show 1 ≤ maxLen; decide)⟩
      · rw [List.getElem?_set_ne (by omega)]; exact c0
      · rw [List.getElem?_set_ne (by omega)]; exact c1
      · rw [List.getElem?_set_self (by rw [ho'.dec.1, featT_len]; decide)]
  rw [featT_set] at hset
  refine ⟨⟨⟨_, hset, ?_, fun i sa m cc p h1 hp => ?_⟩, ⟨_, hr.kept hst.2 (.inr fun e => ?_)⟩, hlt⟩, ho'.row.frozenAt 2, ?_, hst.2⟩
  · rw [List.getElem?_set_self (by rw [ho'.dec.1, featT_len]; decide)]
  · rw [List.getElem?_set_ne (by omega)] at h1
    exact hB i sa m cc p h1 hp
  · have : f = g := Option.some.inj e
    omega
  · have := ho'.row.cells (g := g) rfl 2 fv h2
    rwa [show (⟨g, 0, none⟩ : Addr).add 2 = ⟨g, 2, none⟩ by unfold Addr.add; simp] at this

/-- The row of the limits, with k supertypes at its second declaration. -/
structure SupS (w : World) (B g c k m : Nat) (sv : Value) : Prop where
  own : ∃ vs, OwnD w B 256 (.slice (some ⟨g, 0, none⟩) 256 c) vs (supT m) ∧ vs[4]? = some sv
  form : ∃ b off cap, sv = .slice (some ⟨b, off, none⟩) m cap ∧ m ≤ cap ∧ cap ≤ maxLen ∧ b < w.heap.size ∧ ∀ i, i < m → w.cell? ⟨b, off + i, none⟩ = some (.string (mk [116]))
  km : k ≤ m ∧ (m = k ∨ (k = 0 ∧ m = 1))
theorem SupS.cell {w : World} {B g c k m : Nat} {sv : Value} (h : SupS w B g c k m sv) : w.cell? ⟨g, 4, none⟩ = some sv := by
  obtain ⟨vs, ho, h2⟩ := h.own
  have := ho.row.cells (g := g) rfl 4 sv h2
  rwa [show (⟨g, 0, none⟩ : Addr).add 4 = ⟨g, 4, none⟩ by unfold Addr.add; simp] at this
theorem SupS.of {w : World} {B g c m k : Nat} {vs : List Value} (ho : OwnD w B 256 (.slice (some ⟨g, 0, none⟩) 256 c) vs (supT m)) (hm : 0 < m) (km : k ≤ m ∧ (m = k ∨ (k = 0 ∧ m = 1))) : ∃ sv, SupS w B g c k m sv := by
  obtain ⟨sa, sc, fa, fc, c0, c1, c2, r1, r2⟩ := ho.dec.2 1 _ (supT_get m)
  have hl : (List.replicate m ([116] : Str)).length = m := List.length_replicate
  dsimp only at c1 r1
  rw [hl] at c1 r1
  obtain ⟨b, off, rfl, hb, hx⟩ := r1.at_ hm
  refine ⟨_, ⟨vs, ho, c1⟩, ⟨b, off, sc, rfl, r1.capLe, r1.maxLe, hb, fun i hi => ?_⟩, km⟩
  rw [hx i hi]
  unfold st
  rw [List.getD_eq_getElem?_getD, List.getElem?_replicate, if_pos hi]; rfl
theorem SupS.below {w w' : World} {B g c k m : Nat} {sv : Value} (h : SupS w B g c k m sv) (hb : Below w.heap.size w w') : SupS w' B g c k m sv :=
  let ⟨vs, h1, h2⟩ := h.own
  let ⟨b, off, cap, e, h3, h4, h5, h6⟩ := h.form
  ⟨⟨vs, h1.below hb, h2⟩, ⟨b, off, cap, e, h3, h4, Nat.lt_of_lt_of_le h5 hb.size, fun i hi => (hb.cell (p := ⟨b, off + i, none⟩) h5).trans (h6 i hi)⟩, h.km⟩
/-- A new row of supertypes is put in its place. -/
theorem SupS.put {w w' : World} {B g c k m : Nat} {sv sv' : Value} (h : SupS w B g c k m sv) (hr : w'.ownsRow w.heap.size 9 1 sv' (k + 1) (svals (List.replicate (k + 1) [116]))) (hg : w.grownBy w' none) :
    (∃ sv'', SupS (w'.setCell ⟨g, 4, none⟩ sv') B g c (k + 1) (k + 1) sv'') ∧ w'.frozen? ⟨g, 4, none⟩ = false ∧ w'.cell? ⟨g, 4, none⟩ = some sv ∧ w'.grownBy (w'.setCell ⟨g, 4, none⟩ sv') (some g) := by
  have hb : Below w.heap.size w w' := (Below.refl _ w).grown hg (Nat.le_refl _) (fun _ e => by cases e)
  have h' := h.below hb
  obtain ⟨vs, ho', h2⟩ := h'.own
  have hgl := (h.own.choose_spec.1.row.lt g rfl).2
  obtain ⟨f, fc, rfl, hf1, hf2⟩ := hr.form (by omega)
  obtain ⟨a, cap, e, hs⟩ := IsStrs.of_owns hr (fun z hz => by rw [List.eq_of_mem_replicate hz]; decide)
  cases e
  have hlen : (List.replicate (k + 1) ([116] : Str)).length = k + 1 := List.length_replicate
  have hset : OwnD (w'.setCell ⟨g, 4, none⟩ (.slice (some ⟨f, 0, none⟩) (k + 1) fc)) B 256 (.slice (some ⟨g, 0, none⟩) 256 c) (vs.set 4 (.slice (some ⟨f, 0, none⟩) (k + 1) fc)) ((supT m).set 1 ⟨mnm 1, List.replicate (k + 1) [116], 0⟩) := by
    refine ho'.setAt (i := 1) (j := 4) _ (by rw [supT_len]; decide) (by omega) (by omega) (fun sa m cc p h1 hp => ?_) (fun hg2 => ?_)
    · cases h1
      cases hp
      exact ⟨by show g ≠ f; omega, hf2⟩
    · obtain ⟨sa, sc, fa, fc', c0, c1, c2, r1, r2, r3, r4⟩ := ho'.dec.2 1 _ (supT_get m)
      refine ⟨some ⟨f, 0, none⟩, fc, fa, fc', ?_, ?_, ?_, ?_, r2, r3, r4⟩
      · rw [List.getElem?_set_ne (by omega)]; exact c0
      · rw [List.getElem?_set_self (by rw [ho'.dec.1, supT_len]; decide)]
        dsimp only
        rw [hlen]
      · rw [List.getElem?_set_ne (by omega)]; exact c2
      · dsimp only
        rw [hlen]
        refine hs.apart hg2 (fun p hp e => ?_)
        cases hp
        have : g = f := Option.some.inj e
        omega
  rw [supT_set] at hset
  refine ⟨SupS.of hset (by omega) ⟨Nat.le_refl _, .inl rfl⟩, ho'.row.frozenAt 4, h'.cell, (ho'.row.stored 4 _).2⟩
end Go.Proofs.Ytmhbblehgckelaa
