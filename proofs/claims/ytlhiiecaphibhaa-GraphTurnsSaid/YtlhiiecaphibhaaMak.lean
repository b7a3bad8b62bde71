/- Texts joined by wip/gen/merge.py: Jh Ji Jk Jl Jm. -/
import Derived.Deep.Onto
import Derived.BigQuiet
import Derived.ChangeOld
import Derived.Test.YtlhiiecaphibhaaMaj
set_option linter.unusedVariables false
set_option linter.unusedSimpArgs false
/- graph, plain: graphs whose nodes are renumbered, with the arcs in the opposite order and a further node. -/
namespace Go.Proofs.Ytlhiiecaphibhaa
open Go.RowKit Go.Maps

/-- Where each of n nodes is put. -/
structure Plc (n : Nat) (l : List Int) : Prop where
  len : l.length = n
  rng : ∀ i, i < n → 0 ≤ iv l i ∧ iv l i < n
  inj : ∀ i j, i < n → j < n → iv l i = iv l j → i = j
  zero : iv l 0 = 0
theorem plc_id (n : Nat) : Plc n ((List.range n).map fun (i : Nat) => (i : Int)) := by
  have h : ∀ i, i < n → iv ((List.range n).map fun (i : Nat) => (i : Int)) i = i := fun i hi => by
    unfold iv
    rw [List.getD_eq_getElem?_getD, List.getElem?_map, List.getElem?_range hi]; rfl
  refine ⟨by simp, fun i hi => by rw [h i hi]; omega, fun i j hi hj e => by rw [h i hi, h j hj] at e; omega, ?_⟩
  by_cases h0 : 0 < n
  · exact h 0 h0
  · obtain rfl : n = 0 := by omega
    rfl
/-- a and b changed. -/
def tau (a b i : Nat) : Nat := if i = b then a else if i = a then b else i
theorem tau_tau (a b i : Nat) : tau a b (tau a b i) = i := by
  unfold tau
  by_cases h1 : i = b <;> by_cases h2 : i = a <;> by_cases h3 : a = b <;> simp_all
theorem tau_lt {a b n i : Nat} (ha : a < n) (hb : b < n) (hi : i < n) : tau a b i < n := by
  unfold tau; split
  · exact ha
  · split
    · exact hb
    · exact hi
theorem swap_iv {l : List Int} {a b : Nat} (ha : a < l.length) (hb : b < l.length) (i : Nat) : iv ((l.set a (iv l b)).set b (iv l a)) i = iv l (tau a b i) := by
  rw [iv_set (by rw [List.length_set]; exact hb), iv_set ha]
  unfold tau
  by_cases h1 : i = b
  · rw [if_pos h1, if_pos h1]
  · rw [if_neg h1, if_neg h1]
    by_cases h2 : i = a
    · rw [if_pos h2, if_pos h2]
    · rw [if_neg h2, if_neg h2]
theorem Plc.swap {n : Nat} {l : List Int} {a b : Nat} (h : Plc n l) (ha : a < n) (hb : b < n) (ha0 : 0 < a) (hb0 : 0 < b) : Plc n ((l.set a (iv l b)).set b (iv l a)) := by
  have hs := fun i => swap_iv (l := l) (by rw [h.len]; exact ha) (by rw [h.len]; exact hb) i
  refine ⟨by rw [List.length_set, List.length_set]; exact h.len, fun i hi => by rw [hs]; exact h.rng _ (tau_lt ha hb hi), fun i j hi hj e => ?_, ?_⟩
  · rw [hs, hs] at e
    have := h.inj _ _ (tau_lt ha hb hi) (tau_lt ha hb hj) e
    rw [← tau_tau a b i, this, tau_tau]
  · rw [hs]
    have : tau a b 0 = 0 := by unfold tau; rw [if_neg (by omega), if_neg (by omega)]
    rw [this]; exact h.zero
theorem Plc.sur {n : Nat} {l : List Int} (h : Plc n l) {j : Nat} (hj : j < n) : ∃ i, i < n ∧ iv l i = j := by
  have hp := perm_of (l := (List.range n).map fun i => (iv l i).toNat) (m := List.range n) (by
    show List.Pairwise _ _
    rw [List.pairwise_map]
    refine List.Pairwise.imp_of_mem (fun {x y} hx hy hne e => hne ?_) (List.nodup_range (n := n))
    have h1 := h.rng x (List.mem_range.1 hx)
    have h2 := h.rng y (List.mem_range.1 hy)
    exact h.inj x y (List.mem_range.1 hx) (List.mem_range.1 hy) (by omega)) (fun x hx => by
      obtain ⟨i, hi, rfl⟩ := List.mem_map.1 hx
      have := h.rng i (List.mem_range.1 hi)
      exact List.mem_range.2 (by omega)) (by simp)
  obtain ⟨i, hi, e⟩ := List.mem_map.1 (hp.mem_iff.2 (List.mem_range.2 hj))
  have := h.rng i (List.mem_range.1 hi)
  exact ⟨i, List.mem_range.1 hi, by omega⟩
/-- A node with its arcs in the opposite order, renumbered. -/
def tnA (l : List Int) (a : Arc) : Arc := (a.1, iv l a.2.toNat)
def tnN (l : List Int) (x : Nd) : Nd := (x.1, x.2.reverse.map (tnA l))
/-- The graph whose node i is put at its place, with a further node. -/
structure Permd (F : Gr) (l : List Int) (G : Gr) : Prop where
  plc : Plc F.length l
  len : G.length = F.length + 1
  at_ : ∀ i, i < F.length → nd G (iv l i).toNat = tnN l (nd F i)
  new : nd G F.length = (3, [(2, 0)])
theorem tn_fst (l : List Int) (L : List Arc) : (L.map (tnA l)).map Prod.fst = L.map Prod.fst := by
  rw [List.map_map]; exact List.map_congr_left fun a _ => rfl
theorem dif_rev {L : List Arc} (h : Dif L) : Dif L.reverse := ((List.reverse_perm L).map Prod.fst).nodup_iff.2 h
theorem Permd.ok {F : Gr} {l : List Int} {G : Gr} (h : Permd F l G) (hF : OkG F) (hl : F.length + 1 ≤ 4096) : OkG G := by
  refine ⟨by rw [h.len]; omega, by rw [h.len]; exact hl, fun x hx => ?_⟩
  obtain ⟨j, hj, rfl⟩ : ∃ j, j < G.length ∧ x = nd G j := by
    obtain ⟨j, hj, e⟩ := List.getElem_of_mem hx
    refine ⟨j, hj, ?_⟩
    have := nd_get hj
    rw [List.getElem?_eq_getElem hj, e] at this
    exact Option.some.inj this
  rw [h.len] at hj ⊢
  rcases Nat.lt_or_ge j F.length with e | e
  · obtain ⟨i, hi, e2⟩ := h.plc.sur e
    have h3 := h.at_ i hi
    rw [e2, Int.toNat_natCast] at h3
    rw [h3]
    have hn := hF.node _ (nd_mem hi)
    refine ⟨hn.1, fun a ha => ?_, ?_⟩
    · obtain ⟨b, hb, rfl⟩ := List.mem_map.1 ha
      have hb := List.mem_reverse.1 hb
      have h4 := hn.2.1 b hb
      have h5 := h.plc.rng b.2.toNat (by omega)
      exact ⟨h4.1, h5.1, by have := h5.2; show iv l b.2.toNat < _; omega⟩
    · show ((((nd F i).2.reverse.map (tnA l))).map Prod.fst).Nodup
      rw [tn_fst]
      exact dif_rev hn.2.2
  · obtain rfl : j = F.length := by omega
    rw [h.new]
    exact ⟨by decide, fun a ha => by simp at ha; subst ha; exact ⟨by decide, by decide, by show (0 : Int) < _; omega⟩, by simp [Dif]⟩
theorem Permd.cfEq {F : Gr} {l : List Int} {G : Gr} (h : Permd F l G) (hF : OkG F) : cf G 0 = cf F 0 := by
  have hf := hF.fine
  obtain ⟨r, hd⟩ := dfs_root hf hF.pos
  obtain ⟨hn, hlt⟩ := dfs_good hf hF.pos hd
  have iso : Iso F G r (fun i => (iv l i).toNat) := by
    refine ⟨fun x hx y hy e => ?_, fun x hx => ?_, fun x hx => ?_⟩
    · have h1 := h.plc.rng x (hlt x hx)
      have h2 := h.plc.rng y (hlt y hy)
      have e : (iv l x).toNat = (iv l y).toNat := e
      exact h.plc.inj x y (hlt x hx) (hlt y hy) (by omega)
    · show (nd G (iv l x).toNat).1 = _
      rw [h.at_ x (hlt x hx)]; rfl
    · show srt (nd G (iv l x).toNat).2 = _
      rw [h.at_ x (hlt x hx)]
      have hx2 := hf _ (nd_mem (hlt x hx))
      have e : ((srt (nd F x).2).map fun a => ((a.1, (((iv l a.2.toNat).toNat : Nat) : Int)) : Arc)) = (srt (nd F x).2).map (tnA l) := by
        refine List.map_congr_left fun a ha => ?_
        have ha := (srt_perm _).mem_iff.1 ha
        have h1 := hx2.1 a ha
        have h2 := h.plc.rng a.2.toNat (by omega)
        unfold tnA
        rw [Int.toNat_of_nonneg h2.1]
      show _ = ((srt (nd F x).2).map fun a => ((a.1, (((iv l a.2.toNat).toNat : Nat) : Int)) : Arc))
      rw [e]
      refine (srt_of (((srt_perm (nd F x).2).trans (List.reverse_perm _).symm).map (tnA l)) ?_ ?_).symm
      · unfold Asc
        rw [List.pairwise_map]
        exact srt_asc _
      · show ((((nd F x).2.reverse.map (tnA l))).map Prod.fst).Nodup
        rw [tn_fst]
        exact dif_rev hx2.2
  have e := iso.cfEq hd
  have e0 : (fun i => (iv l i).toNat) 0 = 0 := by show (iv l 0).toNat = 0; rw [h.plc.zero]; rfl
  rw [show (iv l 0).toNat = 0 from e0] at e
  exact e
end Go.Proofs.Ytlhiiecaphibhaa

/- graph: made rows of nodes; rows of small numbers. -/
namespace Go.Proofs.Ytlhiiecaphibhaa
open Go.RowKit Go.Maps

theorem isArcs_grown {w w' : World} {a : Option Addr} {n cap g : Nat} {L : List Arc} (h : IsArcs w a n cap L) (hg : w.grownBy w' (some g)) (hp : ∀ p : Addr, a = some p → p.block ≠ g) : IsArcs w' a n cap L :=
  ⟨h.len, h.capLe, h.maxLe, h.nil_, h.rng, fun h0 => by
    obtain ⟨b, off, e, hl, hx⟩ := h.at_ h0
    have hk := hg.block b hl (fun e2 => hp _ e (by have := Option.some.inj e2; simp_all))
    exact ⟨b, off, e, Nat.lt_of_lt_of_le hl hg.size, fun i hi => ⟨(World.cell?_of_block (a := ⟨b, off + i * 2, none⟩) hk).trans (hx i hi).1, (World.cell?_of_block (a := ⟨b, off + i * 2 + 1, none⟩) hk).trans (hx i hi).2⟩⟩⟩
/-- A made row of nodes, whose arcs lie behind it. -/
def RowM (w : World) (B n g : Nat) (F : Gr) : Prop := ∃ vs : List Value, w.ownsRow B 43 2 (.slice (some ⟨g, 0, none⟩) n n) n vs ∧ F.length = n ∧
  ∀ i, i < n → ∃ xa xc, vs[i * 2]? = some (.int .i64 (nd F i).1) ∧ vs[i * 2 + 1]? = some (.slice xa (nd F i).2.length xc) ∧ IsArcs w xa (nd F i).2.length xc (nd F i).2 ∧ ∀ p : Addr, xa = some p → g < p.block
theorem RowM.made {w : World} {B g n : Nat} (h : w.ownsRow B 43 2 (.slice (some ⟨g, 0, none⟩) n n) n (madeCells (Value.agg #[.int .i64 0, .slice none 0 0]).cells (n * 2)).toList) : RowM w B n g (List.replicate n (0, [])) := by
  refine ⟨_, h, List.length_replicate, fun i hi => ⟨none, 0, ?_, ?_, ?_, (fun p e => by cases e)⟩⟩
  all_goals
    have e : nd (List.replicate n ((0, []) : Nd)) i = (0, []) := by unfold nd; rw [List.getD_eq_getElem?_getD, List.getElem?_replicate, if_pos hi]; rfl
    rw [e]
  · simp [madeCells, Value.cells, show i * 2 < n * 2 by omega]
  · simp [madeCells, Value.cells, show i * 2 + 1 < n * 2 by omega, show (i * 2 + 1) % 2 = 1 by omega]
  · exact IsArcs.nil w
theorem RowM.below {w w' : World} {B n g : Nat} {F : Gr} (h : RowM w B n g F) (hb : Below w.heap.size w w') : RowM w' B n g F := by
  obtain ⟨vs, h1, h2, h3⟩ := h
  refine ⟨vs, owns_below h1 hb, h2, fun i hi => ?_⟩
  obtain ⟨xa, xc, k1, k2, k3, k4⟩ := h3 i hi
  exact ⟨xa, xc, k1, k2, k3.below hb, k4⟩
theorem RowM.lt {w : World} {B n g : Nat} {F : Gr} (h : RowM w B n g F) : g < w.heap.size := by
  obtain ⟨vs, h1, _, _⟩ := h
  exact (h1.lt g rfl).2
theorem RowM.store {w : World} {B n g i : Nat} {F : Gr} (h : RowM w B n g F) (hi : i < n) (x : Nd) (xa : Option Addr) (xc : Nat) (hx : IsArcs w xa x.2.length xc x.2) (hp : ∀ p : Addr, xa = some p → g < p.block) :
    RowM ((w.setCell ⟨g, i * 2, none⟩ (.int .i64 x.1)).setCell ⟨g, i * 2 + 1, none⟩ (.slice xa x.2.length xc)) B n g (F.set i x) ∧
    w.grownBy ((w.setCell ⟨g, i * 2, none⟩ (.int .i64 x.1)).setCell ⟨g, i * 2 + 1, none⟩ (.slice xa x.2.length xc)) (some g) := by
  obtain ⟨vs, h1, h2, h3⟩ := h
  obtain ⟨r1, g1⟩ := h1.stored (i * 2) (.int .i64 x.1)
  obtain ⟨r2, g2⟩ := r1.stored (i * 2 + 1) (.slice xa x.2.length xc)
  have hg := g1.trans g2
  have hvl : vs.length = n * 2 := h1.1
  refine ⟨⟨_, r2, by rw [List.length_set]; exact h2, fun j hj => ?_⟩, hg⟩
  by_cases e : j = i
  · subst e
    have ex : nd (F.set j x) j = x := by unfold nd; rw [List.getD_eq_getElem?_getD, List.getElem?_set_self (by rw [h2]; exact hj)]; rfl
    rw [ex]
    refine ⟨xa, xc, ?_, ?_, isArcs_grown hx hg (fun p e => by have := hp p e; omega), hp⟩
    · rw [List.getElem?_set_ne (by omega), List.getElem?_set_self (by omega)]
    · rw [List.getElem?_set_self (by rw [List.length_set]; omega)]
  · have ex : nd (F.set i x) j = nd F j := by unfold nd; rw [List.getD_eq_getElem?_getD, List.getD_eq_getElem?_getD, List.getElem?_set_ne (fun h => e h.symm)]
    rw [ex]
    obtain ⟨ya, yc, k1, k2, k3, k4⟩ := h3 j hj
    refine ⟨ya, yc, ?_, ?_, isArcs_grown k3 hg (fun p e => by have := k4 p e; omega), k4⟩
    · rw [List.getElem?_set_ne (by omega), List.getElem?_set_ne (by omega)]; exact k1
    · rw [List.getElem?_set_ne (by omega), List.getElem?_set_ne (by omega)]; exact k2
theorem RowM.isG {w : World} {B n g : Nat} {F : Gr} (h : RowM w B n g F) (hn : n ≤ 1000) : IsG w (some ⟨g, 0, none⟩) n n F := by
  have hlt := h.lt
  obtain ⟨vs, h1, h2, h3⟩ := h
  refine ⟨h2, Nat.le_refl _, by unfold maxLen; omega, (fun e => by cases e), fun _ => ⟨g, 0, rfl, hlt, fun i hi => ?_⟩⟩
  obtain ⟨xa, xc, k1, k2, k3, _⟩ := h3 i hi
  rw [Nat.zero_add]
  exact ⟨xa, xc, (h1.cellAt (i * 2) (by omega)).trans k1, (h1.cellAt (i * 2 + 1) (by omega)).trans k2, k3⟩
theorem RowM.frozen {w : World} {B n g : Nat} {F : Gr} (h : RowM w B n g F) (j : Nat) : w.frozen? ⟨g, j, none⟩ = false := by
  obtain ⟨vs, h1, _, _⟩ := h
  exact h1.frozenAt j
theorem RowM.cells {w : World} {B n g i : Nat} {F : Gr} (h : RowM w B n g F) (hi : i < n) : ∃ u v, w.cell? ⟨g, i * 2, none⟩ = some u ∧ w.cell? ⟨g, i * 2 + 1, none⟩ = some v := by
  obtain ⟨vs, h1, h2, h3⟩ := h
  obtain ⟨xa, xc, k1, k2, _⟩ := h3 i hi
  exact ⟨_, _, (h1.cellAt (i * 2) (by omega)).trans k1, (h1.cellAt (i * 2 + 1) (by omega)).trans k2⟩
/-- A slice of small numbers. -/
structure IsU8 (w : World) (a : Option Addr) (n cap : Nat) : Prop where
  capLe : n ≤ cap
  maxLe : cap ≤ maxLen
  at_ : 0 < n → ∃ b off, a = some ⟨b, off, none⟩ ∧ b < w.heap.size ∧ ∀ i, i < n → ∃ v : Nat, v < 256 ∧ w.cell? ⟨b, off + i, none⟩ = some (.int .u8 (v : Int))
theorem IsU8.below {w w' : World} {a : Option Addr} {n cap : Nat} (h : IsU8 w a n cap) (hb : Below w.heap.size w w') : IsU8 w' a n cap :=
  ⟨h.capLe, h.maxLe, fun h0 => by
    obtain ⟨b, off, e, hl, hx⟩ := h.at_ h0
    refine ⟨b, off, e, Nat.lt_of_lt_of_le hl hb.size, fun i hi => ?_⟩
    obtain ⟨v, hv, hc⟩ := hx i hi
    exact ⟨v, hv, (hb.cell (p := ⟨b, off + i, none⟩) hl).trans hc⟩⟩
/-- The first k numbers, then zeros. -/
def idl (n k : Nat) : List Int := (List.range n).map fun i => if i < k then (i : Int) else 0
theorem idl_len (n k : Nat) : (idl n k).length = n := by simp [idl]
theorem idl_get {n : Nat} (k : Nat) {i : Nat} (h : i < n) : iv (idl n k) i = if i < k then (i : Int) else 0 := by
  unfold iv idl
  rw [List.getD_eq_getElem?_getD, List.getElem?_map, List.getElem?_range h]; rfl
theorem idl_zero (n : Nat) : idl n 0 = List.replicate n 0 := by
  unfold idl
  rw [List.eq_replicate_iff]
  exact ⟨by simp, fun b hb => by
    obtain ⟨x, _, rfl⟩ := List.mem_map.1 hb
    simp⟩
theorem idl_next {n k : Nat} (h : k < n) : (idl n k).set k (k : Int) = idl n (k + 1) := by
  apply List.ext_getElem?
  intro i
  by_cases hi : i < n
  · have h1 : i < ((idl n k).set k (k : Int)).length := by rw [List.length_set, idl_len]; exact hi
    rw [iv_get h1, iv_get (by rw [idl_len]; exact hi), iv_set (by rw [idl_len]; exact h), idl_get _ hi, idl_get _ hi]
    congr 1
    by_cases e : i = k
    · subst e; rw [if_pos rfl, if_pos (by omega)]
    · rw [if_neg e]
      by_cases e2 : i < k
      · rw [if_pos e2, if_pos (by omega)]
      · rw [if_neg e2, if_neg (by omega)]
  · rw [List.getElem?_eq_none (by rw [List.length_set, idl_len]; omega), List.getElem?_eq_none (by rw [idl_len]; omega)]
theorem idl_all (n : Nat) : Plc n (idl n n) := by
  have e : idl n n = (List.range n).map fun (i : Nat) => (i : Int) := by
    unfold idl
    exact List.map_congr_left fun i hi => by rw [if_pos (List.mem_range.1 hi)]
  rw [e]
  exact plc_id n
end Go.Proofs.Ytlhiiecaphibhaa

/- graph: permuted of the laws. Written by wip/gen/gturns.py. -/
namespace Go.Proofs.Ytlhiiecaphibhaa
open Go.RowKit Go.Maps

theorem owns_pa {w : World} {B n s m c : Nat} {e : TypeId} {pa : Option Addr} {xs : List Value} (h : w.ownsRow B e s (.slice pa m c) n xs) : ∀ p : Addr, pa = some p → B ≤ p.block := by
  intro p hp
  obtain ⟨_, ⟨h1, _⟩ | ⟨g1, c1, cur1, h1, hB, _⟩⟩ := h
  · cases h1; cases hp
  · cases h1; cases hp; exact hB
theorem set_nd {G : Gr} {i : Nat} (hi : i < G.length) (x : Nd) (j : Nat) : nd (G.set i x) j = if j = i then x else nd G j := by
  unfold nd
  rw [List.getD_eq_getElem?_getD, List.getD_eq_getElem?_getD]
  by_cases e : j = i
  · subst e; rw [List.getElem?_set_self hi, if_pos rfl]; rfl
  · rw [List.getElem?_set_ne (fun h => e h.symm), if_neg e]
theorem RowM.len {w : World} {B n g : Nat} {F : Gr} (h : RowM w B n g F) : F.length = n := by
  obtain ⟨vs, _, h2, _⟩ := h; exact h2
set_option maxRecDepth 100000 in
set_option maxHeartbeats 25600000 in
theorem permuted_any (w : World) (a : Option Addr) (n cap : Nat) (F : Gr) (h : IsG w a n cap F) (hF : OkG F) (hs : Siz F) (hn : n ≤ 12) (ma : Option Addr) (mk mc : Nat) (hM : IsU8 w ma mk mc) (hk : mk ≤ 30) :
    Calls Try.prog 27 #[.agg #[.slice a n cap], .slice ma mk mc] w fun e w' => ∃ aa G l, e = .returned (.agg #[.slice aa (n + 1) (n + 1)]) ∧ IsG w' aa (n + 1) (n + 1) G ∧ Permd F l G ∧ Below w.heap.size w w' := by
  have hm := h.maxLe
  have hc := h.capLe
  unfold maxLen at hm
  have HL := Lib.hid h.len
  have hn0 : 0 < n := by rw [← h.len]; exact hF.pos
  have HF := Lib.hid hF.fine
  have HZ := Lib.hid hs
  obtain ⟨W, hW⟩ : ∃ W, twoF w (.slice a n cap) (.slice none 0 0) = W := ⟨_, rfl⟩
  obtain ⟨b1, hz, d1, d2⟩ := twoF_is w _ _ W hW
  have HRES := Lib.hid (res_cell w (.slice a n cap) 25 W _ hW)
  have B := Lib.hid b1
  have H := Lib.hid (h.below b1)
  have HU := Lib.hid (hM.below b1)
  obtain ⟨lg, hlg0⟩ : ∃ lg, w.heap.size + 2 = lg := ⟨_, rfl⟩
  have hlg : W.heap.size = lg := by omega
  have HLG := Lib.hid hlg
  have hmc := hM.capLe
  have hmm := hM.maxLe
  unfold maxLen at hmm
  have hwz : w.heap.size < lg := by omega
  have KP : Hid (∀ V, Below lg W V → V.cell? ⟨w.heap.size, 0, none⟩ = some (.slice a n cap)) := fun V hV => (hV.cell (p := ⟨w.heap.size, 0, none⟩) hwz).trans d1
  have hbl : ∀ i, i < n → ∃ b off xa xc, a = some ⟨b, off, none⟩ ∧ ∀ V, Below lg W V → NdAt V b (off + i * 2) (nd F i) xa xc := fun i hi => by
    obtain ⟨b, off, e, hb, hx⟩ := H.out.at_ (by omega)
    obtain ⟨xa, xc, hd⟩ := hx i hi
    exact ⟨b, off, xa, xc, e, fun V hV => hd.below hb (HLG.out ▸ hV)⟩
  have HBL := Lib.hid hbl
  have hul : ∀ i, i < mk → ∃ b off, ma = some ⟨b, off, none⟩ ∧ ∃ v : Nat, v < 256 ∧ ∀ V, Below lg W V → V.cell? ⟨b, off + i, none⟩ = some (.int .u8 (v : Int)) := fun i hi => by
    obtain ⟨b, off, e, hb, hx⟩ := HU.out.at_ (by omega)
    obtain ⟨v, hv, hcc⟩ := hx i hi
    exact ⟨b, off, e, v, hv, fun V hV => ((HLG.out ▸ hV : Below W.heap.size W V).cell (p := ⟨b, off + i, none⟩) hb).trans hcc⟩
  have HUL := Lib.hid hul
  have hbx := KP.out W (Below.refl _ _)
  obtain ⟨i0, hi, hz0, hz1, hz2⟩ := info_parts Try.infoI
  have HI := Lib.hid (And.intro hi (And.intro hz0 (And.intro hz1 hz2)))
  obtain ⟨j0, hj, hy0, hy1, hy2⟩ := info_parts Try.infoN
  have HJ := Lib.hid (And.intro hj (And.intro hy0 (And.intro hy1 hy2)))
  have HFO := Lib.hid hF
  clear h hs hF hM b1 hbl hul d1 d2 hi hz0 hz1 hz2 hj hy0 hy1 hy2
  go_enter Try.func27, Try.ntmps27
  go_wp2_with (at_make; (try rw [hW]); refine wpList_make_full _ rfl _ _ _ rfl W.heap.size 3 i0 (.int .i64 0) 1 Try.underlying51 HI.out.1 HI.out.2.1 HI.out.2.2.1 _ _ _ _ n rfl rfl rfl rfl (by rw [HI.out.2.2.2]; omega) (by unfold maxLen; omega) (Nat.le_refl _) ?_; intro w1 hown hgrow; rw [madeI] at hown; have BW := Lib.hid ((Below.refl _ W).grown hgrow (Nat.le_refl _) (fun _ e => by cases e)); have O1 := Lib.hid hown; clear hown hgrow)
  rw [hlg] at O1 BW
  (try rw [hlg])
  (try rw [hlg0])
  have IX : Hid (∀ V, Below lg W V → V.cell? ⟨w.heap.size, 0, none⟩ = some (.slice a n cap)) := KP
  have O2 : Hid (w1.ownsRow lg 3 1 (.slice (some ⟨lg, 0, none⟩) n n) n (ivals (idl n 0))) := by show World.ownsRow _ _ _ _ _ _ _; rw [idl_zero]; exact O1.out
  clear hlg0 hz hW O1 hbx
  go_loopw [25] (fun kv wr => ∃ k : Nat, k ≤ n ∧ kv = .int .i64 k ∧ Hid (wr.ownsRow lg 3 1 (.slice (some ⟨lg, 0, none⟩) n n) n (ivals (idl n k))) ∧ Hid (Below lg W wr)) (fun kv _ => n - (intOf kv).toNat)
  case atStart => exact ⟨0, Nat.zero_le _, rfl, O2, BW⟩
  case round =>
    clear O2 BW
    obtain ⟨k, hk2, rfl, hO, hB⟩ := hrel
    by_cases hlt : k < n
    · have e1 : wr.cell? ⟨lg, k, none⟩ = some (.int .i64 (iv (idl n k) k)) := (hO.out.cellAt k (by omega)).trans (ivals_get (by rw [idl_len]; exact hlt))
      have e2 : wr.frozen? ⟨lg, k, none⟩ = false := hO.out.frozenAt _
      have st := hO.out.stored k (.int .i64 (k : Int))
      rw [ivals_set, idl_next hlt] at st
      have OS := Lib.hid st.1
      have BS := Lib.hid (hB.out.setCell (p := ⟨lg, k, none⟩) (Nat.le_refl _) (.int .i64 (k : Int)))
      have hk0 : (0 : Int) ≤ (k : Int) := by omega
      have hk1 : (k : Int) < (n : Int) := by omega
      clear st hO hB
      go_wp2
      go_roundw
      case rel => exact ⟨k + 1, by omega, by go_num, OS, BS⟩
      case measure => simp [intOf]; omega
    · obtain rfl : n = k := by omega
      have hPL := idl_all n
      obtain ⟨l0, hl0⟩ : ∃ l, idl n n = l := ⟨_, rfl⟩
      rw [hl0] at hPL hO
      have PL0 := Lib.hid hPL
      clear hPL hl0
      go_wp2
      go_loopw [35] (fun kv wr => ∃ (k : Nat) (l : List Int), k ≤ mk ∧ kv = .int .i64 k ∧ Hid (Plc n l) ∧ Hid (wr.ownsRow lg 3 1 (.slice (some ⟨lg, 0, none⟩) n n) n (ivals l)) ∧ Hid (Below lg W wr)) (fun kv _ => mk - (intOf kv).toNat)
      case atStart => exact ⟨0, l0, Nat.zero_le _, rfl, PL0, hO, hB⟩
      case round =>
        clear PL0 hO hB
        obtain ⟨k, l, hk2, rfl, hP, hO, hB⟩ := hrel
        by_cases hlt : k < mk
        · obtain ⟨ub, uo, rfl, v, hv, hu⟩ := HUL.out k hlt
          have u1 := hu wr hB.out
          have hk0 : (0 : Int) ≤ (k : Int) := by omega
          have hk1 : (k : Int) < (mk : Int) := by omega
          by_cases h1 : 1 < n
          · obtain ⟨n1, hn1⟩ : ∃ n1, n = n1 + 1 := ⟨n - 1, by omega⟩
            have hn1p : 0 < n1 := by omega
            have hg1 : (1 : Int) < (n : Int) := by omega
            have q1 : IntKind.i64.wrap ((n : Int) - 1) = (n1 : Int) := by rw [IntKind.wrap_i64]; omega
            have q2 : ((k : Int)).tmod (n1 : Int) = ((k % n1 : Nat) : Int) := by rw [Int.ofNat_tmod]
            have q3 : ((v : Int)).tmod (n1 : Int) = ((v % n1 : Nat) : Int) := by rw [Int.ofNat_tmod]
            have q4 : (n1 : Int) ≠ 0 := by omega
            have ha := Nat.mod_lt k hn1p
            have hb := Nat.mod_lt v hn1p
            obtain ⟨ka, hka⟩ : ∃ z, k % n1 = z := ⟨_, rfl⟩
            obtain ⟨kb, hkb⟩ : ∃ z, v % n1 = z := ⟨_, rfl⟩
            rw [hka] at q2 ha
            rw [hkb] at q3 hb
            obtain ⟨pa, hpa⟩ : ∃ z, 1 + ka = z := ⟨_, rfl⟩
            obtain ⟨pb, hpb⟩ : ∃ z, 1 + kb = z := ⟨_, rfl⟩
            have q5 : IntKind.i64.wrap (1 + (ka : Int)) = (pa : Int) := by rw [IntKind.wrap_i64]; omega
            have q6 : IntKind.i64.wrap (1 + (kb : Int)) = (pb : Int) := by rw [IntKind.wrap_i64]; omega
            have hpa0 : (0 : Int) ≤ (pa : Int) := by omega
            have hpb0 : (0 : Int) ≤ (pb : Int) := by omega
            have hpa1 : (pa : Int) < (n : Int) := by omega
            have hpb1 : (pb : Int) < (n : Int) := by omega
            have hpan : pa < n := by omega
            have hpbn : pb < n := by omega
            have hPN := Lib.hid (hP.out.swap hpan hpbn (by omega) (by omega))
            have HPL := Lib.hid hP.out.len
            have q7 : IntKind.i64.wrap (v : Int) = (v : Int) := by rw [IntKind.wrap_i64]; omega
            clear hka hkb hpa hpb hP
            go_wp2_with fail
            go_big_quiet (fail)
            obtain ⟨wz, hwz⟩ : ∃ wz, wz = wr.drewN nq := ⟨_, rfl⟩
            have BZ : Hid (Below lg W wz) := by rw [hwz]; exact below_drewN hB.out _
            have OZ : Hid (wz.ownsRow lg 3 1 (.slice (some ⟨lg, 0, none⟩) n n) n (ivals l)) := by rw [hwz]; exact owns_below hO.out (below_drewN (Below.refl _ _) _)
            rw [← hwz]
            have e1 : wz.cell? ⟨lg, pa, none⟩ = some (.int .i64 (iv l pa)) := (OZ.out.cellAt pa (by omega)).trans (ivals_get (by rw [HPL.out]; exact hpan))
            have e2 : wz.cell? ⟨lg, pb, none⟩ = some (.int .i64 (iv l pb)) := (OZ.out.cellAt pb (by omega)).trans (ivals_get (by rw [HPL.out]; exact hpbn))
            have e3 : wz.frozen? ⟨lg, pa, none⟩ = false := OZ.out.frozenAt _
            have st := OZ.out.stored pa (.int .i64 (iv l pb))
            obtain ⟨w6, hw6⟩ : ∃ w6, wz.setCell ⟨lg, pa, none⟩ (.int .i64 (iv l pb)) = w6 := ⟨_, rfl⟩
            rw [hw6, ivals_set] at st
            have O6 := Lib.hid st.1
            have B6 := Lib.hid (hw6 ▸ BZ.out.setCell (p := ⟨lg, pa, none⟩) (Nat.le_refl _) (.int .i64 (iv l pb)))
            have e5 : w6.frozen? ⟨lg, pb, none⟩ = false := O6.out.frozenAt _
            have e6 : w6.cell? ⟨lg, pb, none⟩ = some (.int .i64 (iv (l.set pa (iv l pb)) pb)) := (O6.out.cellAt pb (by omega)).trans (ivals_get (by rw [List.length_set, HPL.out]; exact hpbn))
            have st2 := O6.out.stored pb (.int .i64 (iv l pa))
            rw [ivals_set] at st2
            have O7 := Lib.hid st2.1
            have B7 := Lib.hid (B6.out.setCell (p := ⟨lg, pb, none⟩) (Nat.le_refl _) (.int .i64 (iv l pa)))
            clear hwz st st2 OZ BZ O6 B6 hO hB hu u1 HPL
            go_wp2
            go_roundw
            case rel => exact ⟨k + 1, _, by omega, by go_num, hPN, O7, B7⟩
            case measure => simp [intOf]; omega
          · have hg1 : ¬ (1 : Int) < (n : Int) := by omega
            go_wp2
            go_roundw
            case rel => exact ⟨k + 1, l, by omega, by go_num, hP, hO, hB⟩
            case measure => simp [intOf]; omega
        · obtain rfl : mk = k := by omega
          have PERM := hP
          have hPL := hP.out.len
          have HPL := Lib.hid hPL
          obtain ⟨np, hnp⟩ : ∃ np, n + 1 = np := ⟨_, rfl⟩
          have HNP := Lib.hid hnp
          have q1 : IntKind.i64.wrap ((n : Int) + 1) = (np : Int) := by rw [IntKind.wrap_i64]; omega
          have hnpl : np ≤ 13 := by omega
          have hszw : lg ≤ wr.heap.size := by have := hB.out.size; rw [HLG.out] at this; exact this
          have b0 := KP.out wr hB.out
          clear hPL hnp
          go_wp2_with (at_make; refine wpList_make_full _ rfl _ _ _ rfl wr.heap.size 43 j0 (.agg #[.int .i64 0, .slice none 0 0]) 2 Try.underlying23 HJ.out.1 HJ.out.2.1 HJ.out.2.2.1 _ _ _ _ np rfl rfl rfl rfl (by rw [HJ.out.2.2.2]; omega) (by unfold maxLen; omega) (Nat.le_refl _) ?_; intro w2 hown hgrow; have BN := Lib.hid (hB.out.grown hgrow hszw (fun _ e => by cases e)); have RM0 := Lib.hid (RowM.made hown); have ON := Lib.hid (hO.out.kept hgrow (.inr (fun e => by cases e))); have hz2 := hgrow.size; have b3 := KP.out (w2.alloc (.cells #[.slice (some ⟨wr.heap.size, 0, none⟩) np np] 25)) (BN.out.alloc (by omega) _); clear hown hgrow)
          obtain ⟨gb, hgb⟩ : ∃ gb, wr.heap.size = gb := ⟨_, rfl⟩
          obtain ⟨bx, hbx⟩ : ∃ bx, w2.heap.size = bx := ⟨_, rfl⟩
          rw [hgb] at RM0 b3
          (try rw [hgb])
          (try rw [hbx])
          have hg0 : gb < bx := by rw [← hbx]; exact RM0.out.lt
          obtain ⟨w3, hw3⟩ : ∃ w3, w2.alloc (.cells #[.slice (some ⟨gb, 0, none⟩) np np] 25) = w3 := ⟨_, rfl⟩
          have X3 : Hid (w3.heap[bx]? = some (.cells #[.slice (some ⟨gb, 0, none⟩) np np] 25)) := by rw [← hw3, ← hbx]; exact heap_alloc_new w2 _
          have BY : Below w2.heap.size w2 w3 := hw3 ▸ ba w2 _
          have B3 := Lib.hid (BN.out.trans (BY.mono (by omega)))
          have R3 := Lib.hid (RM0.out.below BY)
          have O3 := Lib.hid (owns_below ON.out BY)
          have hlgb1 : lg < gb := by rw [← hgb]; exact (hO.out.lt lg rfl).2
          have hlgb : lg ≤ gb := by omega
          (try rw [hw3])
          clear b3 BY hw3 RM0 ON BN hO hB b0 hbx hgb hz2 hszw
          go_loopw [76] (fun kv wr => ∃ (k : Nat) (G : Gr), k ≤ n ∧ kv = .int .i64 k ∧ Hid (RowM wr gb np gb G) ∧ Hid (∀ i, i < k → nd G (iv l i).toNat = tnN l (nd F i)) ∧ Hid (wr.heap[bx]? = some (.cells #[.slice (some ⟨gb, 0, none⟩) np np] 25)) ∧ Hid (wr.ownsRow lg 3 1 (.slice (some ⟨lg, 0, none⟩) n n) n (ivals l)) ∧ Hid (Below lg W wr)) (fun kv _ => n - (intOf kv).toNat)
          case atStart => exact ⟨0, _, Nat.zero_le _, rfl, R3, (fun i hi => absurd hi (Nat.not_lt_zero _)), X3, O3, B3⟩
          case round =>
            clear R3 X3 O3 B3
            obtain ⟨k, G, hk3, rfl, hR, hG, hX, hO, hB⟩ := hrel
            have b0 := KP.out wr hB.out
            by_cases hlt3 : k < n
            · obtain ⟨ab, ao, xa, xc, rfl, hnd⟩ := HBL.out k hlt3
              have hkF : k < F.length := by rw [HL.out]; exact hlt3
              have c0 := (hnd wr hB.out).c0
              have HND := Lib.hid hnd
              have hs2 := (hnd wr hB.out).is.maxLe
              have hs1 := (hnd wr hB.out).is.capLe
              have HRG := Lib.hid (hnd wr hB.out).is.rng
              unfold maxLen at hs2
              have HTP := Lib.hid (fun z hz => (HF.out _ (nd_mem hkF)).1 z hz)
              have hll0 := HZ.out.arcs _ (nd_mem hkF)
              obtain ⟨p, hp⟩ : ∃ p, nd F k = p := ⟨_, rfl⟩
              have HP := Lib.hid hp
              rw [hp] at c0 hs1 HRG HTP hll0
              obtain ⟨ty, L⟩ := p
              obtain ⟨ll, hll⟩ : ∃ l, L.length = l := ⟨_, rfl⟩
              have HLL := Lib.hid hll
              dsimp only at c0 hs1 HRG HTP hll0
              rw [hll] at hs1 hll0
              have CN : Hid (∀ V, Below lg W V → V.cell? ⟨ab, ao + k * 2 + 1, none⟩ = some (.slice xa ll xc)) := fun V hV => by have := (HND.out V hV).c1; rw [HP.out] at this; rw [← HLL.out]; exact this
              have AR : Hid (∀ V, Below lg W V → IsArcs V xa ll xc L) := fun V hV => by have := (HND.out V hV).is; rw [HP.out] at this; rw [← HLL.out]; exact this
              have hk0 : (0 : Int) ≤ (k : Int) := by omega
              have hk1 : (k : Int) < (n : Int) := by omega
              have q2 : IntKind.i64.wrap ((ll : Int) - 1) = (ll : Int) - 1 := by rw [IntKind.wrap_i64]; omega
              obtain ⟨xb, hxb⟩ : ∃ xb, wr.heap.size = xb := ⟨_, rfl⟩
              have hszx : lg ≤ xb := by have := hB.out.size; rw [HLG.out] at this; omega
              obtain ⟨w5, hw5⟩ : ∃ w5, wr.alloc (.cells #[.int .i64 ty, .slice none 0 0] 43) = w5 := ⟨_, rfl⟩
              have Y5 : Hid (w5.heap[xb]? = some (.cells #[.int .i64 ty, .slice none 0 0] 43)) := by rw [← hw5, ← hxb]; exact heap_alloc_new wr _
              have B5 : Hid (Below xb wr w5) := by rw [← hw5, ← hxb]; exact ba wr _
              have hz5 : Hid (xb + 1 ≤ w5.heap.size) := by show _ ≤ _; rw [← hw5]; simp; omega
              have BT : Hid (∀ V, Below xb wr V → Below lg W V) := fun V hV => hB.out.trans (hV.mono hszx)
              have KR : Hid (∀ V, Below xb wr V → RowM V gb np gb G ∧ V.heap[bx]? = some (.cells #[.slice (some ⟨gb, 0, none⟩) np np] 25) ∧ V.ownsRow lg 3 1 (.slice (some ⟨lg, 0, none⟩) n n) n (ivals l)) := fun V hV => by
                have hV' : Below wr.heap.size wr V := by rw [hxb]; exact hV
                exact ⟨hR.out.below hV', (hV'.block bx (lt_of_block hX.out)).trans hX.out, owns_below hO.out hV'⟩
              have b5 := KP.out w5 (BT.out w5 B5.out)
              have c5 := CN.out w5 (BT.out w5 B5.out)
              have hgbx : gb < xb := by rw [← hxb]; exact hR.out.lt
              rw [← hw5] at b5 c5
              have HW5 := Lib.hid hw5
              have HXB := Lib.hid hxb
              clear hnd hkF hp hll hR hX hO hB hw5 hxb
              go_wp2_with fail
              rw [HW5.out, HXB.out]
              clear b0 b5 c0 c5
              have R5 : Hid (w5.ownsRow (xb + 1) 45 2 (.slice none 0 0) (ll - ll) (avals (((L.drop ll).reverse).map (tnA l)))) := by
                show World.ownsRow _ _ _ _ _ _ _
                rw [List.drop_eq_nil_of_le (by rw [HLL.out]; exact Nat.le_refl _), Nat.sub_self]
                exact World.ownsRow_nil _ _ _ _
              go_loopw [16] (fun cv wq => ∃ (j : Nat) (v : Value), j ≤ ll ∧ cv = .int .i64 ((j : Int) - 1) ∧ Hid (wq.heap[xb]? = some (.cells #[.int .i64 ty, v] 43)) ∧ Hid (wq.ownsRow (xb + 1) 45 2 v (ll - j) (avals (((L.drop j).reverse).map (tnA l)))) ∧ Hid (Below xb wr wq) ∧ Hid (xb + 1 ≤ wq.heap.size)) (fun cv _ => (intOf cv + 1).toNat)
              case atStart => exact ⟨ll, _, Nat.le_refl _, rfl, Y5, R5, B5, hz5⟩
              case round =>
                clear Y5 R5 B5 hz5
                obtain ⟨j, v, hj, rfl, hY, hA, hB, hz⟩ := hrel
                have hkr := KR.out wr hB.out
                obtain ⟨hR, hX, hO⟩ := hkr
                have HR := Lib.hid hR
                have HX := Lib.hid hX
                have HO := Lib.hid hO
                have HBT := Lib.hid (BT.out wr hB.out)
                have b0 := KP.out wr HBT.out
                have hRA : Hid (∀ x ∈ ((L.drop j).reverse).map (tnA l), R64 x.1) := fun x hx => by
                  obtain ⟨y, hy, rfl⟩ := List.mem_map.1 hx
                  exact HRG.out y (List.mem_of_mem_drop (List.mem_reverse.1 hy))
                obtain ⟨pa, pc, hv, hIA⟩ := IsArcs.of_owns hA.out hRA.out
                subst hv
                have hpc1 := hIA.capLe
                have hpc2 := hIA.maxLe
                unfold maxLen at hpc2
                have y0 : wr.cell? ⟨xb, 0, none⟩ = some (.int .i64 ty) := by rw [cell_of_row _ _ _ _ _ _ hY.out]; rfl
                have y1 : wr.cell? ⟨xb, 1, none⟩ = some (.slice pa (ll - j) pc) := by rw [cell_of_row _ _ _ _ _ _ hY.out]; rfl
                clear hR hX hO
                by_cases hj0 : j = 0
                · have q3 : (j : Int) - 1 = -1 := by omega
                  rw [q3]
                  clear q3
                  subst hj0
                  rw [Nat.sub_zero] at y1 hpc1 hIA hY hA
                  rw [List.drop_zero] at hIA hA
                  have hzr := (PERM.out.rng k hlt3)
                  obtain ⟨zn, hzn⟩ : ∃ zn : Nat, iv l k = (zn : Int) := ⟨(iv l k).toNat, (Int.toNat_of_nonneg hzr.1).symm⟩
                  have p1 : wr.cell? ⟨lg, k, none⟩ = some (.int .i64 (zn : Int)) := (HO.out.cellAt k (by omega)).trans (by rw [ivals_get (by rw [HPL.out]; exact hlt3), hzn])
                  rw [hzn] at hzr
                  have HZN := Lib.hid hzn
                  have b3 : wr.cell? ⟨bx, 0, none⟩ = some (.slice (some ⟨gb, 0, none⟩) np np) := by rw [cell_of_row _ _ _ _ _ _ HX.out]; rfl
                  have hz0 : (0 : Int) ≤ (zn : Int) := by omega
                  have hz1 : (zn : Int) < (np : Int) := by have := HNP.out; omega
                  have hznp : zn < np := by omega
                  have f0 : wr.frozen? ⟨gb, zn * 2, none⟩ = false := HR.out.frozen _
                  have f1 : wr.frozen? ⟨gb, zn * 2 + 1, none⟩ = false := HR.out.frozen _
                  have hxl : ((L.reverse).map (tnA l)).length = ll := by rw [List.length_map, List.length_reverse]; exact HLL.out
                  have f2 := (HR.out.store hznp (ty, (L.reverse).map (tnA l)) pa pc (by show IsArcs wr pa ((L.reverse).map (tnA l)).length pc _; rw [hxl]; exact hIA) (fun p hp => by have := owns_pa hA.out p hp; omega))
                  dsimp only at f2
                  rw [hxl] at f2
                  obtain ⟨u0, u1, g0, g1⟩ := HR.out.cells hznp
                  obtain ⟨w9, hw9⟩ : ∃ w9, (wr.setCell ⟨gb, zn * 2, none⟩ (.int .i64 ty)).setCell ⟨gb, zn * 2 + 1, none⟩ (.slice pa ll pc) = w9 := ⟨_, rfl⟩
                  rw [hw9] at f2
                  have hk9 : ∀ q, q < wr.heap.size → q ≠ gb → w9.heap[q]? = wr.heap[q]? := fun q hq hne => f2.2.block q hq (fun e => hne (by have := Option.some.inj e; omega))
                  have hbl3 := lt_of_block HX.out
                  have hbl4 := lt_of_block hY.out
                  have hbl5 := (HO.out.lt lg rfl).2
                  have hlgg : lg ≠ gb := by omega
                  have hxbg : xb ≠ gb := by omega
                  have hbxg : bx ≠ gb := by omega
                  have S9 : w9.drew.cell? ⟨bx, 0, none⟩ = some (.slice (some ⟨gb, 0, none⟩) np np) ∧ w9.drew.cell? ⟨lg, k, none⟩ = some (.int .i64 (zn : Int)) ∧ w9.drew.cell? ⟨xb, 0, none⟩ = some (.int .i64 ty) ∧ w9.drew.cell? ⟨xb, 1, none⟩ = some (.slice pa ll pc) :=
                    ⟨(World.cell?_of_block (a := ⟨bx, 0, none⟩) (hk9 bx hbl3 hbxg)).trans b3, (World.cell?_of_block (a := ⟨lg, k, none⟩) (hk9 lg hbl5 hlgg)).trans p1, (World.cell?_of_block (a := ⟨xb, 0, none⟩) (hk9 xb hbl4 hxbg)).trans y0, (World.cell?_of_block (a := ⟨xb, 1, none⟩) (hk9 xb hbl4 hxbg)).trans y1⟩
                  have R9 : Hid (RowM w9.drew gb np gb (G.set zn (ty, (L.reverse).map (tnA l)))) := f2.1.below (Below.refl _ w9).drew
                  have X9 : Hid (w9.drew.heap[bx]? = some (.cells #[.slice (some ⟨gb, 0, none⟩) np np] 25)) := (hk9 bx hbl3 hbxg).trans HX.out
                  have O9 : Hid (w9.drew.ownsRow lg 3 1 (.slice (some ⟨lg, 0, none⟩) n n) n (ivals l)) := (HO.out.kept f2.2 (.inr (fun e => hlgg (Option.some.inj e)))).drew
                  have B9 : Hid (Below lg W w9.drew) := (hw9 ▸ (HBT.out.setCell (p := ⟨gb, zn * 2, none⟩) hlgb (.int .i64 ty)).setCell (p := ⟨gb, zn * 2 + 1, none⟩) hlgb (.slice pa ll pc) : Below lg W w9).drew
                  have G9 : Hid (∀ i, i < k + 1 → nd (G.set zn (ty, (L.reverse).map (tnA l))) (iv l i).toNat = tnN l (nd F i)) := fun i hi => by
                    rw [set_nd (by rw [HR.out.len]; exact hznp)]
                    have hri := PERM.out.rng i (by omega)
                    by_cases e : i = k
                    · subst e
                      rw [HZN.out, Int.toNat_natCast, if_pos rfl, HP.out]; rfl
                    · rw [if_neg (fun h => e (PERM.out.inj i k (by omega) hlt3 (by rw [HZN.out]; omega)))]
                      exact hG.out i (by omega)
                  have HW9 := Lib.hid hw9
                  rw [← hw9] at S9
                  clear hzn f2 hk9 hw9 hpc1
                  go_wp2_with fail
                  go_region_held3 (fun w' => w'.cell? ⟨bx, 0, none⟩ = some (.slice (some ⟨gb, 0, none⟩) np np) ∧ w'.cell? ⟨lg, k, none⟩ = some (.int .i64 (zn : Int)) ∧ w'.cell? ⟨xb, 0, none⟩ = some (.int .i64 ty) ∧ w'.cell? ⟨xb, 1, none⟩ = some (.slice pa ll pc)) (first | exact ⟨b3, p1, y0, y1⟩ | exact S9 | go_keep) ((first | fail))
                  rw [HW9.out]
                  go_wp2
                  go_roundw
                  case rel => exact ⟨k + 1, _, by omega, by go_num, R9, G9, X9, O9, B9⟩
                  case measure => simp [intOf]; omega
                · obtain ⟨i, hi⟩ : ∃ i, j = i + 1 := ⟨j - 1, by omega⟩
                  have hil : i < ll := by omega
                  have hiL : i < L.length := by rw [HLL.out]; exact hil
                  have q3 : (j : Int) - 1 = (i : Int) := by omega
                  rw [q3]
                  have hdr : Hid ((((L.drop i).reverse).map (tnA l)) = ((L.drop j).reverse).map (tnA l) ++ [tnA l (ar L i)]) := by
                    show _ = _
                    rw [drop_ar hiL, hi, List.reverse_cons, List.map_append]; rfl
                  have hlen2 : Hid (ll - i = ll - j + 1) := by show _ = _; omega
                  obtain ⟨pm, hpm⟩ : ∃ z, ll - j = z := ⟨_, rfl⟩
                  obtain ⟨ps, hps⟩ : ∃ z, ((L.drop j).reverse).map (tnA l) = z := ⟨_, rfl⟩
                  have hpm0 : pm ≤ 64 := by omega
                  obtain ⟨pb, po, rfl, _, hax⟩ := (AR.out wr HBT.out).at_ (by omega)
                  obtain ⟨t0, t1⟩ := hax i hil
                  have hto := HTP.out (ar L i) (ar_mem hiL)
                  rw [HL.out] at hto
                  have hzr : ∃ z, iv l (ar L i).2.toNat = z := ⟨_, rfl⟩
                  obtain ⟨f, hf⟩ : ∃ f, ar L i = f := ⟨_, rfl⟩
                  rw [hf] at t0 t1 hto hdr
                  obtain ⟨ff, tt⟩ := f
                  obtain ⟨tn, rfl⟩ : ∃ tn : Nat, tt = (tn : Int) := ⟨tt.toNat, (Int.toNat_of_nonneg hto.1).symm⟩
                  dsimp only at t0 t1 hto
                  have htn : tn < n := by omega
                  have htn0 : (0 : Int) ≤ (tn : Int) := by omega
                  have htn1 : (tn : Int) < (n : Int) := by omega
                  obtain ⟨z, hz⟩ : ∃ z, iv l tn = z := ⟨_, rfl⟩
                  have hdr2 : Hid ((((L.drop i).reverse).map (tnA l)) = ps ++ [(ff, z)]) := by
                    show _ = _
                    rw [hdr.out, hps, ← hz]; rfl
                  have c5 := CN.out wr HBT.out
                  have hi0 : (0 : Int) ≤ (i : Int) := by omega
                  have hi1 : (i : Int) < (ll : Int) := by omega
                  rw [hpm] at y1 hpc1 hY hA hlen2
                  rw [hps] at hA
                  have hszw : lg ≤ wr.heap.size := by have := HBT.out.size; rw [HLG.out] at this; exact this
                  have hgw := HR.out.lt
                  obtain ⟨w6, hw6⟩ : ∃ w6, wr.alloc (.cells #[.int .i64 ff, .int .i64 (tn : Int)] 45) = w6 := ⟨_, rfl⟩
                  have BY6 : Below wr.heap.size wr w6 := hw6 ▸ ba wr _
                  have Y6 := Lib.hid ((BY6.block xb (lt_of_block hY.out)).trans hY.out)
                  have A6 := Lib.hid (owns_below hA.out BY6)
                  have B6 := Lib.hid (hB.out.trans (BY6.mono (Nat.le_of_lt (lt_of_block hY.out))))
                  have O6 := Lib.hid (owns_below HO.out BY6)
                  have s0 : w6.cell? ⟨wr.heap.size, 0, none⟩ = some (.int .i64 ff) := by rw [← hw6]; exact (World.cell?_alloc_new wr _ _ 0).trans rfl
                  have s1 : w6.cell? ⟨wr.heap.size, 1, none⟩ = some (.int .i64 (tn : Int)) := by rw [← hw6]; exact (World.cell?_alloc_new wr _ _ 1).trans rfl
                  have hz6 : wr.heap.size < w6.heap.size := by rw [← hw6]; simp
                  have s2 : w6.cell? ⟨xb, 1, none⟩ = some (.slice pa pm pc) := by rw [cell_of_row _ _ _ _ _ _ Y6.out]; rfl
                  have s3 : w6.cell? ⟨lg, tn, none⟩ = some (.int .i64 z) := (O6.out.cellAt tn (by omega)).trans (by rw [ivals_get (by rw [HPL.out]; exact htn), hz])
                  have hz1 : xb + 1 ≤ w6.heap.size := by have := lt_of_block Y6.out; omega
                  have HW6 := Lib.hid hw6
                  clear hiL hdr hps hax hto hf hz BY6 hw6 hzr hpm
                  have hij := Lib.hid hi
                  clear hi
                  go_wp2_with fail
                  rw [HW6.out]
                  have q4 : IntKind.i64.wrap ((i : Int) - 1) = (i : Int) - 1 := by rw [IntKind.wrap_i64]; omega
                  have AL := Lib.hid (show (w6.drew.alloc (.cells #[.int .i64 ff, .int .i64 z] 45)).ownsRow (xb + 1) 45 2 (.slice pa pm pc) pm (avals ps) from World.ownsRow.alloc (w := w6.drew) A6.out _)
                  have ABL := Lib.hid (show (w6.drew.alloc (.cells #[.int .i64 ff, .int .i64 z] 45)).heap[xb]? = some (.cells #[.int .i64 ty, .slice pa pm pc] 43) from (heap_alloc_old w6.drew _ (lt_of_block Y6.out)).trans Y6.out)
                  have BAL := Lib.hid (B6.out.drew.alloc (Nat.le_of_lt (lt_of_block Y6.out)) (.cells #[.int .i64 ff, .int .i64 z] 45))
                  have s4 : (w6.alloc (.cells #[.int .i64 ff, .int .i64 z] 45)).cell? ⟨xb, 1, none⟩ = some (.slice pa pm pc) := (World.cell?_alloc_lt _ _ _ (lt_of_block Y6.out)).trans s2
                  clear HW6 HR HX HO b0 y0 y1 t0 t1 c5 hIA q3
                  go_region_law (first | (refine step_append_arcs (by rfl) _ _ (by rfl) (xb + 1) _ pm ps (by rfl) AL.out w6.heap.size 1 (ff, z) (by rfl) (heap_alloc_new w6.drew _) (by omega) (by simp; omega) ?_; intro g5 c5 w8 hown5 hgrow5 hlt5; have K8 := Lib.hid (blk_kept hgrow5 (owns_rowT AL.out) ABL.out (by decide)); have O8 := Lib.hid hown5; have B8 := Lib.hid (BAL.out.grown hgrow5 (by simp; omega) (fun j hj => by have := (AL.out.lt j hj).1; omega)); have S8 := Lib.hid (Nat.le_trans (show xb + 1 ≤ (w6.drew.alloc (.cells #[.int .i64 ff, .int .i64 z] 45)).heap.size by simp; omega) hgrow5.size); have y1 : w8.cell? ⟨xb, 1, none⟩ = some (.slice pa pm pc) := (by rw [cell_of_row _ _ _ _ _ _ K8.out]; rfl); have y2 : w8.frozen? ⟨xb, 1, none⟩ = false := (by simp [World.frozen?, K8.out]); clear hown5 hgrow5 hlt5))
                  all_goals (go_wp2; go_roundw)
                  all_goals first
                    | (simp [intOf]; done)
                    | (simp [intOf]; omega)
                    | (refine ⟨i, .slice (some ⟨g5, 0, none⟩) (pm + 1) c5, by omega, by go_num, heap_setCell_same w8 xb 1 _ _ (.slice (some ⟨g5, 0, none⟩) (pm + 1) c5) K8.out, ?_, B8.out.setCell (p := ⟨xb, 1, none⟩) (Nat.le_refl _) (.slice (some ⟨g5, 0, none⟩) (pm + 1) c5), by show _ ≤ _; rw [World.size_setCell]; exact S8.out⟩
                       show World.ownsRow _ _ _ _ _ _ _
                       rw [hlen2.out, hdr2.out]
                       exact owns_keptT O8.out (setCell_grown w8 xb 1 (.slice (some ⟨g5, 0, none⟩) (pm + 1) c5)) (blk_rowT K8.out) (by decide))
            · obtain rfl : n = k := by omega
              have b3 : wr.cell? ⟨bx, 0, none⟩ = some (.slice (some ⟨gb, 0, none⟩) np np) := by rw [cell_of_row _ _ _ _ _ _ hX.out]; rfl
              have b4 : (wr.alloc (.cells #[.int .i64 2, .int .i64 0] 3)).cell? ⟨bx, 0, none⟩ = some (.slice (some ⟨gb, 0, none⟩) np np) := (World.cell?_alloc_lt _ _ _ (lt_of_block hX.out)).trans b3
              have ND := Lib.hid (fun V la lc (hV : IsInts V la 2 lc [2, 0]) => node_own V 3 2 0 la lc hV (by unfold R64; omega))
              have hnnp : n < np := by have := HNP.out; omega
              have hn1 : (n : Int) < (np : Int) := by omega
              have hn2 : (0 : Int) ≤ (n : Int) := by omega
              have BD := Lib.hid ((ba wr (.cells #[.int .i64 2, .int .i64 0] 3)).drew)
              have hszw : lg ≤ wr.heap.size := by have := hB.out.size; rw [HLG.out] at this; exact this
              have hgw := hR.out.lt
              have hbw := lt_of_block hX.out
              have hrs : w.heap.size + 1 < lg := by have := lt_of_block HRES.out; rw [HLG.out] at this; exact this
              clear b0
              go_wp2_with fail
              go_region_law (first
                | (rw [if_pos (by kernel_rfl)]; go_simp; go_at_call 29; have HH := (lit2 wr _ 2 0 rfl).drew; (with_reducible refine (ND.out _ _ _ HH).mono ?_); rintro e w2 ⟨na, nc, rfl, ho, hb2⟩; have B2 := Lib.hid (BD.out.trans (hb2.mono BD.out.size)); have R2 := Lib.hid (hR.out.below B2.out); have X2 := Lib.hid ((B2.out.block bx hbw).trans hX.out); have BL2 := Lib.hid (hB.out.trans (B2.out.mono hszw)); have O2 := Lib.hid ho; have c2 : w2.cell? ⟨bx, 0, none⟩ = some (.slice (some ⟨gb, 0, none⟩) np np) := (by rw [cell_of_row _ _ _ _ _ _ X2.out]; rfl); have f0 : w2.frozen? ⟨gb, n * 2, none⟩ = false := R2.out.frozen _; have f1 : w2.frozen? ⟨gb, n * 2 + 1, none⟩ = false := R2.out.frozen _; obtain ⟨u0, u1, g0, g1⟩ := R2.out.cells hnnp; have RS2 := Lib.hid ((BL2.out.block (w.heap.size + 1) hrs).trans HRES.out); have t2 : w2.cell? ⟨w.heap.size + 1, 0, none⟩ = some (.slice none 0 0) := (by rw [cell_of_row _ _ _ _ _ _ RS2.out]; rfl); have t3 : w2.frozen? ⟨w.heap.size + 1, 0, none⟩ = false := (by simp [World.frozen?, RS2.out]); have hrg : w.heap.size + 1 ≠ gb := (by omega); have hbxg : bx ≠ gb := (by omega); clear ho hb2 HH))
              all_goals (try go_wp2)
              all_goals
                obtain ⟨pa', pc', e9, hI⟩ := IsArcs.of_owns O2.out (fun x hx => by simp at hx; subst hx; unfold R64; omega)
                cases e9
                have f2 := R2.out.store hnnp (3, [(2, 0)]) na nc hI (fun p hp => by have := owns_pa O2.out p hp; simp at this; omega)
                obtain ⟨w9, hw9⟩ : ∃ w9, (w2.setCell ⟨gb, n * 2, none⟩ (.int .i64 3)).setCell ⟨gb, n * 2 + 1, none⟩ (.slice na 1 nc) = w9 := ⟨_, rfl⟩
                have f3 : RowM w9 gb np gb (G.set n (3, [(2, 0)])) ∧ w2.grownBy w9 (some gb) := by rw [← hw9]; exact f2
                have RS9 : Hid (w9.heap[w.heap.size + 1]? = some (.cells #[.slice none 0 0] 25)) := (f3.2.block (w.heap.size + 1) (lt_of_block RS2.out) (fun e => hrg (Option.some.inj e))).trans RS2.out
                have BL9 : Hid (Below lg W w9) := by rw [← hw9]; exact (BL2.out.setCell (p := ⟨gb, n * 2, none⟩) hlgb (.int .i64 3)).setCell (p := ⟨gb, n * 2 + 1, none⟩) hlgb (.slice na 1 nc)
                have hGl := hR.out.len
                rw [hw9]
                refine bodyPost_ret (results_cell_row rfl _ _ (w.heap.size + 1) 25 #[.slice (some ⟨gb, 0, none⟩) np np] (0, 0) _ rfl (heap_setCell_same w9 (w.heap.size + 1) 0 _ _ _ RS9.out) Try.underlying25 rfl (by kernel_rfl)) rfl ?_
                have hnp := HNP.out
                subst hnp
                refine ⟨_, G.set n (3, [(2, 0)]), l, rfl, isG_setRes _ (f3.1.isG (by omega)) RS9.out, ⟨by rw [HL.out]; exact PERM.out, by rw [List.length_set, hGl, HL.out], fun i hi => ?_, ?_⟩, ?_⟩
                · rw [HL.out] at hi
                  rw [set_nd (by rw [hGl]; omega), if_neg (by have := (PERM.out.rng i hi); omega)]
                  exact hG.out i hi
                · rw [HL.out, set_nd (by rw [hGl]; omega), if_pos rfl]
                · exact (B.out.trans ((HLG.out ▸ BL9.out : Below W.heap.size W w9).mono B.out.size)).setCell (p := ⟨w.heap.size + 1, 0, none⟩) (by show w.heap.size ≤ w.heap.size + 1; omega) _
end Go.Proofs.Ytlhiiecaphibhaa

/- graph: the walk of the law GraphTurns. -/
namespace Go.Proofs.Ytlhiiecaphibhaa
open Go.RowKit Go.Maps

theorem Permd.siz {F : Gr} {l : List Int} {G : Gr} (h : Permd F l G) (hs : Siz F) (hn : F.length ≤ 12) : Siz G := by
  refine ⟨by rw [h.len]; omega, fun x hx => ?_⟩
  obtain ⟨j, hj, e⟩ := List.getElem_of_mem hx
  have e2 : x = nd G j := by
    have := nd_get hj
    rw [List.getElem?_eq_getElem hj, e] at this
    exact Option.some.inj this
  subst e2
  rw [h.len] at hj
  rcases Nat.lt_or_ge j F.length with hl | hl
  · obtain ⟨i, hi, e3⟩ := h.plc.sur hl
    have h3 := h.at_ i hi
    rw [e3, Int.toNat_natCast] at h3
    rw [h3]
    show ((nd F i).2.reverse.map (tnA l)).length ≤ 64
    rw [List.length_map, List.length_reverse]
    exact hs.arcs _ (nd_mem hi)
  · obtain rfl : j = F.length := by omega
    rw [h.new]
    show 1 ≤ 64
    decide
theorem Canon_permd (F G x : Gr) (l : List Int) (m : Nat) (w : World) (a : Option Addr) (n cap : Nat) (h : IsG w a n cap G) (hP : Permd F l G) (hF : OkG F) (hs : Siz F) (hn : F.length ≤ 12) (hx : cf F 0 = x) (hm : x.length = m) :
    Calls Try.prog 13 #[.agg #[.slice a n cap]] w fun e w' => ∃ aa cc, e = .returned (.tuple #[.agg #[.slice aa m cc], .int .i64 0]) ∧ IsG w' aa m cc x ∧ Below w.heap.size w w' :=
  Canon_ex G x m hm w a n cap h (hP.siz hs hn) (frm_ok.2 (hP.ok hF (by omega))) (by rw [hP.cfEq hF]; exact hx)
set_option maxRecDepth 100000 in
set_option maxHeartbeats 25600000 in
theorem GraphTurns_law (w : World) (a : Option Addr) (n cap : Nat) (F : Gr) (ma : Option Addr) (mk mc : Nat) (h : IsG w a n cap F) (hM : IsU8 w ma mk mc) :
    Calls Try.prog 8 #[.agg #[.slice a n cap], .slice ma mk mc] w fun e w' => e = .returned (.bool true) ∧ Below w.heap.size w w' := by
  obtain ⟨W, hW⟩ : ∃ W, w.alloc (.cells #[.slice a n cap] 25) = W := ⟨_, rfl⟩
  have B := Lib.hid (show Below w.heap.size w W from hW ▸ ba w _)
  have hwz : w.heap.size < W.heap.size := by rw [← hW]; simp
  have hbox : W.cell? ⟨w.heap.size, 0, none⟩ = some (.slice a n cap) := hW ▸ box_cell w _ _
  have KP : Hid (∀ V, Below W.heap.size W V → V.cell? ⟨w.heap.size, 0, none⟩ = some (.slice a n cap)) := fun V hV => (hV.cell (p := ⟨w.heap.size, 0, none⟩) hwz).trans hbox
  have H := Lib.hid (fun V (hV : Below W.heap.size W V) => (h.below B.out).below hV)
  have HU := Lib.hid (fun V (hV : Below W.heap.size W V) => (hM.below B.out).below hV)
  have hlF := h.len
  have hmc := hM.capLe
  have hmm := hM.maxLe
  unfold maxLen at hmm
  clear h hM
  cases g0 : lite F
  · have LV := Lib.hid (Light_val false W a n cap F (H.out W (Below.refl _ _)) g0)
    clear g0
    go_enter Try.func8, Try.ntmps8
    go_wp2_with (first
      | (go_at_call 17; (try rw [hW]); (with_reducible refine LV.out.mono ?_); rintro e w1 ⟨rfl, hb1⟩; have B1 := Lib.hid hb1; clear hb1)
      | (go_at_call 16; refine (ex_holds w1).mono ?_; rintro e w2 ⟨rfl, hb2⟩; have B2 := Lib.hid (B1.out.trans (hb2.mono B1.out.size)); clear hb2))
    go_ret
    exact ⟨rfl, B.out.trans (B2.out.mono B.out.size)⟩
  have LV := Lib.hid (Light_val true W a n cap F (H.out W (Below.refl _ _)) g0)
  have hF12 := ((lite_iff F).1 g0).1
  have HSF := lite_siz g0
  clear g0
  by_cases hk : 30 < mk
  · have hg1 : (30 : Int) < (mk : Int) := by omega
    clear HSF hF12
    go_enter Try.func8, Try.ntmps8
    go_wp2_with (first
      | (go_at_call 17; (try rw [hW]); (with_reducible refine LV.out.mono ?_); rintro e w1 ⟨rfl, hb1⟩; have B1 := Lib.hid hb1; clear hb1)
      | (go_at_call 16; refine (ex_holds w1).mono ?_; rintro e w2 ⟨rfl, hb2⟩; have B2 := Lib.hid (B1.out.trans (hb2.mono B1.out.size)); clear hb2))
    go_ret
    exact ⟨rfl, B.out.trans (B2.out.mono B.out.size)⟩
  have hg1 : ¬ (30 : Int) < (mk : Int) := by omega
  have CF := Lib.hid (fun V (hV : Below W.heap.size W V) => Canon_any V a n cap F (H.out V hV) (.inl HSF))
  obtain ⟨x, hx⟩ : ∃ x, can F = x := ⟨_, rfl⟩
  obtain ⟨e0, he0⟩ : ∃ z, frm F = z := ⟨_, rfl⟩
  unfold CanonPost at CF
  rw [hx, he0] at CF
  by_cases h0 : e0 ≠ 0
  · have h1 : ((e0 : Int) != 0) = true := by simp; omega
    have hx0 : x = [] := by rw [← hx]; unfold can; rw [if_neg (by rw [he0]; exact h0)]
    subst hx0
    clear h0 he0 hx HSF hF12 hk
    go_enter Try.func8, Try.ntmps8
    go_wp2_with (first
      | (go_at_call 17; (try rw [hW]); (with_reducible refine LV.out.mono ?_); rintro e w1 ⟨rfl, hb1⟩; have B1 := Lib.hid hb1; have x1 := KP.out w1 hb1; clear hb1)
      | (go_at_call 13; (with_reducible refine (CF.out w1 B1.out).mono ?_); rintro e w3 ⟨xa, xc, rfl, hI, hb3⟩; have B3 := Lib.hid (B1.out.trans (hb3.mono B1.out.size)); have BA := Lib.hid (B3.out.alloc B3.out.size (.cells #[.slice xa 0 xc] 25)); clear hb3 hI)
      | (go_at_call 16; refine (ex_holds _).mono ?_; rintro e w2 ⟨rfl, hb2⟩; have B2 := Lib.hid (BA.out.trans (hb2.mono BA.out.size)); clear hb2))
    go_ret
    exact ⟨rfl, B.out.trans (B2.out.mono B.out.size)⟩
  obtain rfl : e0 = 0 := Classical.byContradiction fun h => h0 h
  have okF := frm_ok.1 he0
  have ex : x = cf F 0 := by rw [← hx]; unfold can; rw [if_pos he0]
  have okX : OkG x := ex ▸ cf_ok okF
  have HSX : Siz x := hx ▸ HSF.can
  have hcx : cf x 0 = x := by rw [ex, cf_cf okF.fine okF.pos]
  obtain ⟨m, hm⟩ : ∃ m, x.length = m := ⟨_, rfl⟩
  have PM := Lib.hid (fun V (hV : Below W.heap.size W V) => permuted_any V a n cap F (H.out V hV) okF HSF (by rw [← hlF]; exact hF12) ma mk mc (HU.out V hV) (by omega))
  have CP := Lib.hid (fun V aa cc (G : Gr) (l : List Int) (hG : IsG V aa (n + 1) cc G) (hP : Permd F l G) => Canon_permd F G x l m V aa (n + 1) cc hG hP okF HSF hF12 ex.symm hm)
  have CX := Lib.hid (fun V aa cc (hX : IsG V aa m cc x) => Canon_ex x x m hm V aa m cc hX HSX (frm_ok.2 okX) hcx)
  have EQ := Lib.hid (fun V aa cc a2 c2 (h1 : IsG V aa m cc x) (h2 : IsG V a2 m c2 x) => rEqual_val true V aa a2 m cc m c2 x x h1 h2 HSX.nums HSX.nums (by rw [cG_self]; rfl))
  rw [hm] at CF
  clear h0 he0 hx HSF hF12 hk okF ex okX HSX hcx hm
  go_enter Try.func8, Try.ntmps8
  go_wp2_with (first
    | (go_at_call 17; (try rw [hW]); (with_reducible refine LV.out.mono ?_); rintro e w1 ⟨rfl, hb1⟩; have B1 := Lib.hid hb1; have x1 := KP.out w1 hb1; clear hb1)
    | (go_at_call 13; (with_reducible refine (CF.out w1 B1.out).mono ?_); rintro e w3 ⟨xa, xc, rfl, hI, hb3⟩; have B3 := Lib.hid (B1.out.trans (hb3.mono B1.out.size)); obtain ⟨w4, hw4⟩ : ∃ w4, w3.alloc (.cells #[.slice xa m xc] 25) = w4 := ⟨_, rfl⟩; have B4 : Hid (Below W.heap.size W w4) := hw4 ▸ B3.out.alloc B3.out.size _; have I4 : Hid (IsG w4 xa m xc x) := hw4 ▸ hI.below (ba w3 _); have q4 : w4.cell? ⟨w3.heap.size, 0, none⟩ = some (.slice xa m xc) := hw4 ▸ box_cell w3 _ _; have z4 : w3.heap.size < w4.heap.size := (by rw [← hw4]; simp); have x4 := KP.out w4 B4.out; clear hb3 hI)
    | (go_at_call 27; (try rw [hw4]); (with_reducible refine (PM.out w4 B4.out).mono ?_); rintro e w5 ⟨ga, G, l, rfl, hI, hP, hb⟩; have B5 := Lib.hid (B4.out.trans (hb.mono B4.out.size)); have G5 := Lib.hid hI; have P5 := Lib.hid hP; have I5 := Lib.hid (I4.out.below hb); have q5 := (hb.cell (p := ⟨w3.heap.size, 0, none⟩) z4).trans q4; have z5 : w3.heap.size < w5.heap.size := Nat.lt_of_lt_of_le z4 hb.size; clear hb hI hP)
    | (go_at_call 13; (with_reducible refine (CP.out w5 ga (n + 1) G l G5.out P5.out).mono ?_); rintro e w6 ⟨ya, yc, rfl, hI, hb⟩; have B6 := Lib.hid (B5.out.trans (hb.mono B5.out.size)); have I6 := Lib.hid (I5.out.below hb); have q6 := (hb.cell (p := ⟨w3.heap.size, 0, none⟩) z5).trans q5; have z6 : w3.heap.size < w6.heap.size := Nat.lt_of_lt_of_le z5 hb.size; obtain ⟨w7, hw7⟩ : ∃ w7, w6.alloc (.cells #[.slice ya m yc] 25) = w7 := ⟨_, rfl⟩; have B7 : Hid (Below W.heap.size W w7) := hw7 ▸ B6.out.alloc B6.out.size _; have I7 : Hid (IsG w7 xa m xc x) := hw7 ▸ I6.out.below (ba w6 _); have J7 : Hid (IsG w7 ya m yc x) := hw7 ▸ hI.below (ba w6 _); have q7 : w7.cell? ⟨w3.heap.size, 0, none⟩ = some (.slice xa m xc) := hw7 ▸ (World.cell?_alloc_lt _ _ _ z6).trans q6; have r7 : w7.cell? ⟨w6.heap.size, 0, none⟩ = some (.slice ya m yc) := hw7 ▸ box_cell w6 _ _; have z7 : w6.heap.size < w7.heap.size := (by rw [← hw7]; simp); clear hb hI)
    | (go_at_call 13; (try rw [hw7]); (with_reducible refine (CX.out w7 xa xc I7.out).mono ?_); rintro e w8 ⟨ua, uc, rfl, hI, hb⟩; have B8 := Lib.hid (B7.out.trans (hb.mono B7.out.size)); have I8 := Lib.hid (I7.out.below hb); have J8 := Lib.hid (J7.out.below hb); have q8 := (hb.cell (p := ⟨w3.heap.size, 0, none⟩) (by show w3.heap.size < _; omega)).trans q7; have r8 := (hb.cell (p := ⟨w6.heap.size, 0, none⟩) z7).trans r7; have z8 : w6.heap.size < w8.heap.size := Nat.lt_of_lt_of_le z7 hb.size; obtain ⟨w9, hw9⟩ : ∃ w9, w8.alloc (.cells #[.slice ua m uc] 25) = w9 := ⟨_, rfl⟩; have B9 : Hid (Below W.heap.size W w9) := hw9 ▸ B8.out.alloc B8.out.size _; have I9 : Hid (IsG w9 xa m xc x) := hw9 ▸ I8.out.below (ba w8 _); have J9 : Hid (IsG w9 ya m yc x) := hw9 ▸ J8.out.below (ba w8 _); have U9 : Hid (IsG w9 ua m uc x) := hw9 ▸ hI.below (ba w8 _); have q9 : w9.cell? ⟨w3.heap.size, 0, none⟩ = some (.slice xa m xc) := hw9 ▸ (World.cell?_alloc_lt _ _ _ (by show w3.heap.size < _; omega)).trans q8; have r9 : w9.cell? ⟨w6.heap.size, 0, none⟩ = some (.slice ya m yc) := hw9 ▸ (World.cell?_alloc_lt _ _ _ z8).trans r8; have s9 : w9.cell? ⟨w8.heap.size, 0, none⟩ = some (.slice ua m uc) := hw9 ▸ box_cell w8 _ _; have z9 : w8.heap.size < w9.heap.size := (by rw [← hw9]; simp); clear hb hI)
    | (go_at_call 14; (try rw [hw9]); (with_reducible refine (EQ.out w9 _ _ _ _ I9.out J9.out).mono ?_); rintro e w10 ⟨rfl, hb⟩; have B10 := Lib.hid (B9.out.trans (hb.mono B9.out.size)); have I10 := Lib.hid (I9.out.below hb); have U10 := Lib.hid (U9.out.below hb); have q10 := (hb.cell (p := ⟨w3.heap.size, 0, none⟩) (by show w3.heap.size < _; omega)).trans q9; have s10 := (hb.cell (p := ⟨w8.heap.size, 0, none⟩) z9).trans s9; clear hb)
    | (go_at_call 14; (with_reducible refine (EQ.out w10 _ _ _ _ I10.out U10.out).mono ?_); rintro e w11 ⟨rfl, hb⟩; have B11 := Lib.hid (B10.out.trans (hb.mono B10.out.size)); clear hb)
    | (go_at_call 16; refine (ex_holds _).mono ?_; rintro e w12 ⟨rfl, hb⟩; have B12 := Lib.hid (B11.out.trans (hb.mono B11.out.size)); clear hb))
  go_ret
  exact ⟨rfl, B.out.trans (B12.out.mono B.out.size)⟩
end Go.Proofs.Ytlhiiecaphibhaa

/- graph: what an argument of small numbers reads as. -/
namespace Go.Proofs.Ytlhiiecaphibhaa
open Go.RowKit Go.ChangeShapes Go.WideShapes Go.Deep

section
variable {H : Type} {enc : TypeId × Value → H} {W : World} {spare : Nat → Bool} {held : Bool}
set_option maxRecDepth 100000 in
theorem trod_B {r : Reach} {b0 : Nat} {v : Value} {d : DataW H} {ps : List MemPlace} (hval : Value.okWide Try.prog W r b0 37 v) (h : DataW.Trod enc Try.prog W 0 spare held 37 v d ps) : ∃ a n cap, v = .slice a n cap ∧ IsU8 W a n cap := by
  obtain ⟨a, len, cap, rfl⟩ := okWide_slice Try.underlying37 hval
  obtain ⟨fuel, hf⟩ := h
  rcases open_ints Try.underlying37 Try.underlying5 (by kernel_rfl) hf with ⟨hcs, _⟩ | ⟨x, l, c, zs, hcs, _, hl, hm, hz, _, hcell, hwz⟩
  · simp [Value.cells] at hcs
    obtain ⟨rfl, rfl, rfl⟩ := hcs
    exact ⟨none, 0, 0, rfl, Nat.le_refl _, Nat.zero_le _, fun h => absurd h (Nat.lt_irrefl _)⟩
  · simp [Value.cells] at hcs
    obtain ⟨rfl, rfl, rfl⟩ := hcs
    have hlz : len ≤ zs.length := by rw [hz]; split <;> omega
    refine ⟨some x, len, cap, rfl, hl, hm, fun h0 => ?_⟩
    have c0 := hcell 0 (by omega)
    obtain ⟨b, off, spot⟩ := x
    have hspot : spot = none := by
      have := World.cell?_spot c0
      simpa [Addr.add] using this
    subst hspot
    refine ⟨b, off, rfl, ?_, fun i hi => ?_⟩
    · have := World.block_lt_of_cell? W _ c0
      simpa [Addr.add] using this
    · have hc := hcell i (by omega)
      have hm2 : zs.getD i 0 ∈ zs := by
        rw [List.getD_eq_getElem?_getD, List.getElem?_eq_getElem (by omega)]
        exact List.getElem_mem _
      have hw := hwz _ hm2
      simp [Lit.wf, IntKind.min, IntKind.max, IntKind.bits, IntKind.signed] at hw
      rw [add_none] at hc
      refine ⟨(zs.getD i 0).toNat, by simp; omega, ?_⟩
      rw [hc, Int.toNat_of_nonneg (by simp; omega)]
end
end Go.Proofs.Ytlhiiecaphibhaa
