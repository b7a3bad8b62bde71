/- What arguments of the laws of poset read as: lists of strings, declarations. -/
import Derived.Test.YtmhbblehgckelaaQf
import Derived.ProofKit
import Derived.OpenShut
import Derived.Deep.Slices
namespace Go.Proofs.Ytmhbblehgckelaa
open Go.RowKit Go.ChangeShapes Go.WideShapes Go.Deep

theorem add_none (b off i : Nat) : (⟨b, off, none⟩ : Addr).add i = ⟨b, off + i, none⟩ := by unfold Addr.add; split <;> simp_all
instance : Inhabited Dec := ⟨⟨[], [], 0⟩⟩

section
variable {H : Type} {enc : TypeId × Value → H} {W : World} {spare : Nat → Bool} {held : Bool}
theorem trod_strs {fuel : Nat} {v : Value} {x : DataW H × List MemPlace} (h : DataW.trod enc Try.prog W 0 spare held fuel 25 [v] = some x) : ∃ a n cap zs, v = .slice a n cap ∧ IsStrs W a n cap zs := by
  rcases open_slice1 Try.underlying25 (by kernel_rfl) h with ⟨hcs, _⟩ | ⟨a, len, cap, m, n, V, D, Pl, hcs, _, hl, hm, hmm, _, hi⟩
  · injection hcs with e _
    exact ⟨none, 0, 0, [], e, IsStrs.nil _⟩
  · injection hcs with e _
    have hlm : len ≤ m := by rw [hmm]; split <;> omega
    have hz : ∀ i, i < len → ∃ z : Str, z.length ≤ maxLen ∧ W.cell? (a.add i) = some (.string (mk z)) := fun i h => by
      obtain ⟨hc, ht⟩ := hi i (by omega)
      obtain ⟨s, hs, _, hsz⟩ := DataW.trod_string Try.underlying9 ht
      injection hs with e1 _
      refine ⟨s.data.toList, by rw [Array.length_toList]; exact hsz, ?_⟩
      rw [hc, e1]
      have : mk s.data.toList = s := by unfold mk; simp
      rw [this]
    obtain ⟨f, hf⟩ : ∃ f : Nat → Str, ∀ i, i < len → (f i).length ≤ maxLen ∧ W.cell? (a.add i) = some (.string (mk (f i))) :=
      choose_lt (α := Str) (p := fun i z => z.length ≤ maxLen ∧ W.cell? (a.add i) = some (.string (mk z))) hz
    have hst : ∀ i, i < len → st ((List.range len).map f) i = f i := fun i hi => by
      unfold st
      rw [List.getD_eq_getElem?_getD, List.getElem?_map, List.getElem?_range hi]; rfl
    refine ⟨some a, len, cap, (List.range len).map f, e, by simp, hl, hm, fun z hz => ?_, (fun e => by cases e), fun h0 => ?_⟩
    · obtain ⟨i, hi, rfl⟩ := List.mem_map.1 hz
      exact (hf i (List.mem_range.1 hi)).1
    · obtain ⟨b, off, spot⟩ := a
      have hspot : spot = none := by
        have := World.cell?_spot (hf 0 h0).2
        simpa [Addr.add] using this
      subst hspot
      refine ⟨b, off, rfl, ?_, fun i hi => ?_⟩
      · have := World.block_lt_of_cell? W _ (hf 0 h0).2
        simpa [Addr.add] using this
      · have := (hf i hi).2
        rw [hst i hi]
        rwa [add_none] at this
theorem trod_row {fuel : Nat} {v : Value} {x : DataW H × List MemPlace} {t e : TypeId} (ht : Try.prog.underlying t = some (.slice e)) (h : DataW.trod enc Try.prog W 0 spare held fuel t [v] = some x) : ∃ a n cap, v = .slice a n cap ∧ n ≤ cap ∧ cap ≤ maxLen := by
  rcases open_slice ht h with ⟨hcs, _⟩ | ⟨a, len, cap, m, n, D, Pl, hcs, _, hl, hm, hmm, _, hi⟩
  · injection hcs with e _
    exact ⟨none, 0, 0, e, Nat.le_refl _, Nat.zero_le _⟩
  · injection hcs with e _
    exact ⟨some a, len, cap, e, hl, hm⟩
set_option maxRecDepth 100000 in
theorem trod_decs {fuel : Nat} {v : Value} {x : DataW H × List MemPlace} (h : DataW.trod enc Try.prog W 0 spare held fuel 22 [v] = some x) : ∃ a n cap D, v = .slice a n cap ∧ IsDecs W a n cap D := by
  rcases open_slice Try.underlying22 h with ⟨hcs, _⟩ | ⟨a, len, cap, m, n, D, Pl, hcs, _, hl, hm, hmm, _, hi⟩
  · injection hcs with e _
    exact ⟨none, 0, 0, [], e, IsDecs.nil _⟩
  · injection hcs with e _
    have hlm : len ≤ m := by rw [hmm]; split <;> omega
    have hk : Try.prog.cellsOf 35 = 3 := by kernel_rfl
    have hd : ∀ i, i < len → ∃ (d : Dec) (sa : Option Addr) (sc : Nat) (fa : Option Addr) (fc : Nat), W.cell? (a.add (i * 3)) = some (.string (mk d.name)) ∧ W.cell? (a.add (i * 3 + 1)) = some (.slice sa d.sup.length sc) ∧ W.cell? (a.add (i * 3 + 2)) = some (.slice fa d.nf fc) ∧ IsStrs W sa d.sup.length sc d.sup ∧ d.nf ≤ fc ∧ fc ≤ maxLen ∧ d.name.length ≤ maxLen := fun i h => by
      obtain ⟨cs', hc, ht⟩ := hi i (by omega)
      rw [hk] at hc
      obtain ⟨_, hcl, hat⟩ := World.cells?_some hc
      obtain ⟨ys, n', _, _, _, hyl, hf⟩ := DataW.trod_struct Try.underlying35 ht
      match cs', hcl with
      | [c0, c1, c2], _ =>
        match ys, hyl with
        | [y0, y1, y2], _ =>
          have g0 := hf 0 _ rfl
          have g1 := hf 1 _ rfl
          have g2 := hf 2 _ rfl
          have t0 : DataW.trod enc Try.prog W 0 spare held n' 9 [c0] = some y0 := g0
          have t1 : DataW.trod enc Try.prog W 0 spare held n' 25 [c1] = some y1 := g1
          have t2 : DataW.trod enc Try.prog W 0 spare held n' 33 [c2] = some y2 := g2
          obtain ⟨s, hs, _, hsz⟩ := DataW.trod_string Try.underlying9 t0
          injection hs with e0 _
          obtain ⟨sa, sn, sc, zs, e1, hss⟩ := trod_strs t1
          obtain ⟨fa, fn, fc, e2, hf1, hf2⟩ := trod_row Try.underlying33 t2
          have a0 := hat 0 (by decide)
          have a1 := hat 1 (by decide)
          have a2 := hat 2 (by decide)
          rw [Go.Deep.add_add] at a0 a1 a2
          have hmk : mk s.data.toList = s := by unfold mk; simp
          have hsl := hss.len
          subst hsl
          exact ⟨⟨s.data.toList, zs, fn⟩, sa, sc, fa, fc, by rw [hmk, ← e0]; exact a0, by rw [← e1]; exact a1, by rw [← e2]; exact a2, hss, hf1, hf2, by rw [Array.length_toList]; exact hsz⟩
    obtain ⟨f, hf⟩ : ∃ f : Nat → Dec, ∀ i, i < len → ∃ (sa : Option Addr) (sc : Nat) (fa : Option Addr) (fc : Nat), W.cell? (a.add (i * 3)) = some (.string (mk (f i).name)) ∧ W.cell? (a.add (i * 3 + 1)) = some (.slice sa (f i).sup.length sc) ∧ W.cell? (a.add (i * 3 + 2)) = some (.slice fa (f i).nf fc) ∧ IsStrs W sa (f i).sup.length sc (f i).sup ∧ (f i).nf ≤ fc ∧ fc ≤ maxLen ∧ (f i).name.length ≤ maxLen :=
      choose_lt (α := Dec) (p := fun i d => ∃ (sa : Option Addr) (sc : Nat) (fa : Option Addr) (fc : Nat), W.cell? (a.add (i * 3)) = some (.string (mk d.name)) ∧ W.cell? (a.add (i * 3 + 1)) = some (.slice sa d.sup.length sc) ∧ W.cell? (a.add (i * 3 + 2)) = some (.slice fa d.nf fc) ∧ IsStrs W sa d.sup.length sc d.sup ∧ d.nf ≤ fc ∧ fc ≤ maxLen ∧ d.name.length ≤ maxLen) hd
    have hst : ∀ i, i < len → dc ((List.range len).map f) i = f i := fun i hi => by
      unfold dc
      rw [List.getD_eq_getElem?_getD, List.getElem?_map, List.getElem?_range hi]; rfl
    refine ⟨some a, len, cap, (List.range len).map f, e, by simp, hl, hm, fun h0 => ?_⟩
    obtain ⟨b, off, spot⟩ := a
    obtain ⟨_, _, _, _, c00, _⟩ := hf 0 h0
    have hspot : spot = none := by
      have := World.cell?_spot c00
      simpa [Addr.add] using this
    subst hspot
    refine ⟨b, off, rfl, ?_, fun i hi => ?_⟩
    · have := World.block_lt_of_cell? W _ c00
      simpa [Addr.add] using this
    · obtain ⟨sa, sc, fa, fc, h1, h2, h3, h4, h5, h6, h7⟩ := hf i hi
      refine ⟨sa, sc, fa, fc, ?_⟩
      rw [hst i hi]
      rw [add_none] at h1 h2 h3
      exact ⟨h1, by rw [Nat.add_assoc]; exact h2, by rw [Nat.add_assoc]; exact h3, h4, h5, h6, h7⟩
end
theorem Txt.own : ownKnob Try.prog.godebug = none := by kernel_rfl
theorem Txt.laidOut : laidOutB Try.prog = true := by kernel_rfl
end Go.Proofs.Ytmhbblehgckelaa
