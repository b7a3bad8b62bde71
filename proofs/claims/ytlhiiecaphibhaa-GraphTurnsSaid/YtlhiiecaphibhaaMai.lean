/- Texts joined by wip/gen/merge.py: Ja Jc Jb Jd Je. -/
import Derived.OwnWalk
import Derived.BigQuiet
import Derived.Deep.Onto
import Derived.Test.YtlhiiecaphibhaaMah
set_option linter.unusedVariables false
set_option linter.unusedSimpArgs false
/- graph, plain: forms that differ in the numbers of the nodes only; the canonical form of a canonical form. -/
namespace Go.Proofs.Ytlhiiecaphibhaa
open Go.RowKit Go.Maps

/-- The nodes r of F look, by σ, as they do in G. -/
structure Iso (F G : Gr) (r : List Nat) (σ : Nat → Nat) : Prop where
  inj : ∀ x ∈ r, ∀ y ∈ r, σ x = σ y → x = y
  typ : ∀ x ∈ r, (nd G (σ x)).1 = (nd F x).1
  arcs : ∀ x ∈ r, srt (nd G (σ x)).2 = (srt (nd F x).2).map fun a => (a.1, ((σ a.2.toNat : Nat) : Int))
theorem Iso.mono {F G : Gr} {r s : List Nat} {σ : Nat → Nat} (h : Iso F G r σ) (hs : ∀ x ∈ s, x ∈ r) : Iso F G s σ :=
  ⟨fun x hx y hy e => h.inj x (hs x hx) y (hs y hy) e, fun x hx => h.typ x (hs x hx), fun x hx => h.arcs x (hs x hx)⟩
theorem Iso.tosEq {F G : Gr} {r : List Nat} {σ : Nat → Nat} (h : Iso F G r σ) : ∀ x ∈ r, tos G (σ x) = (tos F x).map σ := by
  intro x hx
  unfold tos
  rw [h.arcs x hx, List.map_map, List.map_map]; rfl
theorem idxOf_map {σ : Nat → Nat} : ∀ {r : List Nat}, (∀ x ∈ r, ∀ y ∈ r, σ x = σ y → x = y) → ∀ y ∈ r, (r.map σ).idxOf (σ y) = r.idxOf y
  | [], _, y, hy => by cases hy
  | a :: l, inj, y, hy => by
    rw [List.map_cons, List.idxOf_cons, List.idxOf_cons]
    by_cases e : a = y
    · subst e; simp
    · have hy' : y ∈ l := by
        rcases List.mem_cons.1 hy with h | h
        · exact absurd h.symm e
        · exact h
      have e2 : σ a ≠ σ y := fun h => e (inj a List.mem_cons_self y hy h)
      have ih := idxOf_map (fun x hx z hz => inj x (List.mem_cons_of_mem _ hx) z (List.mem_cons_of_mem _ hz)) y hy'
      rw [show (σ a == σ y) = false by simpa using e2, show (a == y) = false by simpa using e, ih]
theorem idx_inj {r : List Nat} {x y : Nat} (hx : x ∈ r) (e : r.idxOf x = r.idxOf y) : x = y := by
  have hp := List.idxOf_lt_length_of_mem hx
  have hq : r.idxOf y < r.length := e ▸ hp
  have h1 := List.getElem_idxOf hp
  have h2 := List.getElem_idxOf hq
  rw [← h1, ← h2]
  congr 1
theorem tos_mem {F : Gr} {x : Nat} {a : Arc} (h : a ∈ (nd F x).2) : a.2.toNat ∈ tos F x := by
  unfold tos
  exact List.mem_map.2 ⟨a, (srt_perm _).mem_iff.2 h, rfl⟩
/-- The nodes that were visited are closed. -/
theorem dfs_closed {F : Gr} {root : Nat} {r : List Nat} (h : Dfs (tos F) [root] [] r) : ∀ x ∈ r, ∀ y ∈ tos F x, y ∈ r :=
  h.closed (fun x hx => by cases hx)
theorem Iso.cfEq {F G : Gr} {r : List Nat} {σ : Nat → Nat} {root : Nat} (h : Iso F G r σ) (hd : Dfs (tos F) [root] [] r) : cf G (σ root) = cf F root := by
  have hm : Dfs (tos G) [σ root] [] (r.map σ) := by simpa using hd.map σ h.inj h.tosEq
  have hcl := dfs_closed hd
  rw [cf_eq hm, cf_eq hd]
  unfold outG
  rw [List.map_map]
  refine List.map_congr_left fun x hx => ?_
  show outN G (r.map σ) (σ x) = outN F r x
  unfold outN
  rw [h.typ x hx, h.arcs x hx, List.map_map]
  congr 1
  refine List.map_congr_left fun a ha => ?_
  show relA (r.map σ) (a.1, ((σ a.2.toNat : Nat) : Int)) = relA r a
  unfold relA
  have hmem : a.2.toNat ∈ r := hcl x hx _ (tos_mem ((srt_perm _).mem_iff.1 ha))
  show (a.1, (((r.map σ).idxOf (((σ a.2.toNat : Nat) : Int)).toNat : Nat) : Int)) = _
  rw [Int.toNat_natCast, idxOf_map h.inj _ hmem]
theorem dfs_head {F : Gr} {root : Nat} {r : List Nat} (h : Dfs (tos F) [root] [] r) : ∃ t, r = root :: t := by
  cases h with
  | skip h _ => cases h
  | step _ g =>
    obtain ⟨e, he⟩ := g.pre
    exact ⟨e, by simpa using he⟩
theorem dfs_mem {F : Gr} {root : Nat} {r : List Nat} (h : Dfs (tos F) [root] [] r) : root ∈ r := by
  obtain ⟨t, rfl⟩ := dfs_head h; exact List.mem_cons_self
theorem idx_root {F : Gr} {root : Nat} {r : List Nat} (h : Dfs (tos F) [root] [] r) : r.idxOf root = 0 := by
  obtain ⟨t, rfl⟩ := dfs_head h; simp
theorem outG_nd (F : Gr) (r : List Nat) {i : Nat} (h : i < r.length) : nd (outG F r) i = outN F r r[i] := by
  unfold nd outG
  rw [List.getD_eq_getElem?_getD, List.getElem?_map, List.getElem?_eq_getElem h]; rfl
theorem outG_idx (F : Gr) (r : List Nat) {x : Nat} (h : x ∈ r) : nd (outG F r) (r.idxOf x) = outN F r x := by
  have hp := List.idxOf_lt_length_of_mem h
  rw [outG_nd F r hp, List.getElem_idxOf hp]
theorem rel_fst (r : List Nat) (L : List Arc) : (L.map (relA r)).map Prod.fst = L.map Prod.fst := by
  rw [List.map_map]; exact List.map_congr_left fun a _ => rfl
theorem rel_asc (r : List Nat) {L : List Arc} (h : Asc L) : Asc (L.map (relA r)) := by
  unfold Asc
  rw [List.pairwise_map]
  exact h
theorem out_dif {F : Gr} (r : List Nat) {x : Nat} (h : Dif (nd F x).2) : Dif (outN F r x).2 := by
  show ((((srt (nd F x).2).map (relA r))).map Prod.fst).Nodup
  rw [rel_fst]
  exact srt_dif h
theorem out_asc (F : Gr) (r : List Nat) (x : Nat) : Asc (outN F r x).2 := rel_asc r (srt_asc _)
theorem out_srt {F : Gr} (r : List Nat) {x : Nat} (h : Dif (nd F x).2) : srt (outN F r x).2 = (outN F r x).2 :=
  srt_self (out_asc F r x) (out_dif r h)
/-- A graph and its form. -/
theorem iso_out {F : Gr} (hf : Fine F) {root : Nat} {r : List Nat} (hd : Dfs (tos F) [root] [] r) (hr : root < F.length) : Iso F (outG F r) r (fun x => r.idxOf x) := by
  obtain ⟨hn, hlt⟩ := dfs_good hf hr hd
  refine ⟨fun x hx y _ e => idx_inj hx e, fun x hx => ?_, fun x hx => ?_⟩
  · show (nd (outG F r) (r.idxOf x)).1 = _
    rw [outG_idx F r hx]; rfl
  · show srt (nd (outG F r) (r.idxOf x)).2 = _
    rw [outG_idx F r hx, out_srt r (fine_dif hf (hlt x hx))]; rfl
/-- The canonical form of the canonical form. -/
theorem cf_cf {F : Gr} (hf : Fine F) {root : Nat} (hr : root < F.length) : cf (cf F root) 0 = cf F root := by
  obtain ⟨r, hd⟩ := dfs_root hf hr
  have h := (iso_out hf hd hr).cfEq hd
  rw [show r.idxOf root = 0 from idx_root hd] at h
  rw [← h]
  congr 1
  rw [h, cf_eq hd]
theorem cf_len {F : Gr} (hf : Fine F) {root : Nat} (hr : root < F.length) : 0 < (cf F root).length ∧ (cf F root).length ≤ F.length := by
  obtain ⟨r, hd⟩ := dfs_root hf hr
  obtain ⟨hn, hlt⟩ := dfs_good hf hr hd
  obtain ⟨t, ht⟩ := dfs_head hd
  rw [cf_eq hd, outG_len]
  exact ⟨by rw [ht]; simp, nodup_lt hn hlt⟩
theorem out_mem {F : Gr} {r : List Nat} {x : Nd} (h : x ∈ outG F r) : ∃ i ∈ r, x = outN F r i := by
  unfold outG at h
  obtain ⟨i, hi, rfl⟩ := List.mem_map.1 h
  exact ⟨i, hi, rfl⟩
theorem out_arc {F : Gr} {r : List Nat} {i : Nat} {a : Arc} (h : a ∈ (outN F r i).2) : ∃ b ∈ (nd F i).2, a = relA r b := by
  have h : a ∈ (srt (nd F i).2).map (relA r) := h
  obtain ⟨b, hb, rfl⟩ := List.mem_map.1 h
  exact ⟨b, (srt_perm _).mem_iff.1 hb, rfl⟩
theorem cf_fine {F : Gr} (hf : Fine F) {root : Nat} (hr : root < F.length) : Fine (cf F root) := by
  obtain ⟨r, hd⟩ := dfs_root hf hr
  obtain ⟨hn, hlt⟩ := dfs_good hf hr hd
  rw [cf_eq hd]
  intro x hx
  obtain ⟨i, hi, rfl⟩ := out_mem hx
  refine ⟨fun a ha => ?_, out_dif r (fine_dif hf (hlt i hi))⟩
  obtain ⟨b, hb, rfl⟩ := out_arc ha
  have hm := List.idxOf_lt_length_of_mem (dfs_closed hd i hi _ (tos_mem hb))
  rw [outG_len]
  show (0 : Int) ≤ ((r.idxOf b.2.toNat : Nat) : Int) ∧ ((r.idxOf b.2.toNat : Nat) : Int) < _
  omega
theorem cf_ok {F : Gr} (h : OkG F) : OkG (cf F 0) := by
  have hf := h.fine
  obtain ⟨l1, l2⟩ := cf_len hf h.pos
  have hfi := cf_fine hf h.pos
  obtain ⟨r, hd⟩ := dfs_root hf h.pos
  obtain ⟨hn, hlt⟩ := dfs_good hf h.pos hd
  refine ⟨l1, Nat.le_trans l2 h.le, fun x hx => ⟨?_, fun a ha => ?_, (hfi x hx).2⟩⟩
  · rw [cf_eq hd] at hx
    obtain ⟨i, hi, rfl⟩ := out_mem hx
    exact (h.node _ (nd_mem (hlt i hi))).1
  · have hk := (hfi x hx).1 a ha
    rw [cf_eq hd] at hx
    obtain ⟨i, hi, rfl⟩ := out_mem hx
    obtain ⟨b, hb, rfl⟩ := out_arc ha
    exact ⟨((h.node _ (nd_mem (hlt i hi))).2.1 b hb).1, hk.1, hk.2⟩
theorem can_can {F : Gr} (h : frm F = 0) : frm (can F) = 0 ∧ can (can F) = can F := by
  have ok := frm_ok.1 h
  have e : can F = cf F 0 := by unfold can; rw [if_pos h]
  have h2 : frm (can F) = 0 := by rw [e]; exact frm_ok.2 (cf_ok ok)
  refine ⟨h2, ?_⟩
  have e2 : can (can F) = cf (can F) 0 := by
    generalize can F = X at h2
    unfold can
    rw [if_pos h2]
  rw [e2, e]
  exact cf_cf ok.fine ok.pos
end Go.Proofs.Ytlhiiecaphibhaa

/- graph: arc and unset of the laws. -/
namespace Go.Proofs.Ytlhiiecaphibhaa
open Go.RowKit Go.Maps

/-- Where the first arc with a feature leads. -/
def fnd (L : List Arc) (f : Int) : Option Int := (L.find? (fun a => decide (a.1 = f))).map Prod.snd
theorem fnd_some {L : List Arc} {f c : Int} (h : fnd L f = some c) : (f, c) ∈ L := by
  unfold fnd at h
  cases e : L.find? (fun a => decide (a.1 = f)) with
  | none => rw [e] at h; cases h
  | some a =>
    rw [e] at h
    have h1 := List.find?_some e
    have h2 := List.mem_of_find?_eq_some e
    have h3 : a.1 = f := by simpa using h1
    have h4 : a.2 = c := by simpa using h
    rw [← h3, ← h4]; exact h2
theorem fnd_none {L : List Arc} {f : Int} (h : fnd L f = none) : ∀ a ∈ L, a.1 ≠ f := by
  unfold fnd at h
  intro a ha
  have h2 : L.find? (fun a => decide (a.1 = f)) = none := by
    cases e : L.find? (fun a => decide (a.1 = f)) with
    | none => rfl
    | some a => rw [e] at h; cases h
  have := List.find?_eq_none.1 h2 a ha
  simpa using this
theorem fnd_nil (f : Int) : fnd [] f = none := rfl
theorem fnd_hit {L : List Arc} {i : Nat} {f : Int} (hi : i < L.length) (h : (ar L i).1 = f) : fnd (L.drop i) f = some (ar L i).2 := by
  have e : L.drop i = ar L i :: L.drop (i + 1) := by
    rw [List.drop_eq_getElem_cons hi]
    have := ar_get hi
    rw [List.getElem?_eq_getElem hi] at this
    rw [Option.some.inj this]
  rw [e]
  unfold fnd
  rw [List.find?_cons_of_pos (by simpa using h)]; rfl
theorem fnd_miss {L : List Arc} {i : Nat} {f : Int} (hi : i < L.length) (h : (ar L i).1 ≠ f) : fnd (L.drop i) f = fnd (L.drop (i + 1)) f := by
  have e : L.drop i = ar L i :: L.drop (i + 1) := by
    rw [List.drop_eq_getElem_cons hi]
    have := ar_get hi
    rw [List.getElem?_eq_getElem hi] at this
    rw [Option.some.inj this]
  rw [e]
  unfold fnd
  rw [List.find?_cons_of_neg (by simpa using h)]

set_option maxRecDepth 100000 in
set_option maxHeartbeats 1600000 in
theorem unset_any (w : World) (n : Nat) (hn : n ≤ 5000) :
    Calls Try.prog 39 #[.int .i64 n] w fun e w' => ∃ v, e = .returned v ∧ w'.ownsRow w.heap.size 3 1 v n (ivals (List.replicate n (-1))) ∧ Below w.heap.size w w' := by
  go_enter Try.func39, Try.ntmps39
  go_wp2_with fail
  go_loopw [3, 4] (fun tv kv wr => ∃ k : Nat, k ≤ n ∧ kv = .int .i64 k ∧ Hid (wr.ownsRow w.heap.size 3 1 tv k (ivals (List.replicate k (-1)))) ∧ Hid (Below w.heap.size w wr)) (fun _ kv _ => n - (intOf kv).toNat)
  case atStart => exact ⟨0, Nat.zero_le _, rfl, World.ownsRow_nil _ _ _ _, Below.refl _ _⟩
  case round =>
    obtain ⟨k, hk, rfl, hT, hB⟩ := hrel
    by_cases hlt : k < n
    · have hs := hB.out.size
      have TA := Lib.hid (hT.out.alloc (.cells #[.int .i64 (-1)] 3))
      have BA := Lib.hid (hB.out.alloc hs (.cells #[.int .i64 (-1)] 3))
      have hlt2 : (k : Int) < (n : Int) := by omega
      clear hT hB
      go_wp2_with (at_builtin; refine wpList_append_ints (w := wr.alloc (.cells #[.int .i64 (-1)] 3)) rfl _ _ rfl w.heap.size _ k (List.replicate k (-1)) rfl TA.out wr.heap.size 1 [-1] #[.int .i64 (-1)] rfl (heap_alloc_new wr _) rfl (by simp; omega) (by simp; omega) ?_; intro v2 w2 hown2 hgrow2 hloc2; have T2 := Lib.hid hown2; have B2 := Lib.hid (BA.out.grown hgrow2 (by simp; omega) (fun j hj => (TA.out.lt j hj).1)); clear hown2 hgrow2 hloc2)
      go_roundw
      case rel => exact ⟨k + 1, by omega, by go_num, by have := T2.out; rwa [← List.replicate_succ'] at this, B2⟩
      case measure => simp [intOf]; omega
    · obtain rfl : n = k := by omega
      go_wp2
      go_ret
      exact ⟨_, rfl, hT.out, hB.out⟩
/-- What arc returns. -/
def arcV (o : Option Int) : Value := .tuple #[.int .i64 (o.getD 0), .bool o.isSome]
set_option maxRecDepth 100000 in
set_option maxHeartbeats 1600000 in
theorem arc_any (w : World) (a : Option Addr) (n cap : Nat) (F : Gr) (h : IsG w a n cap F) (m : Nat) (hm : m < n) (f : Int) :
    Calls Try.prog 40 #[.agg #[.slice a n cap], .int .i64 m, .int .i64 f] w fun e w' => e = .returned (arcV (fnd (nd F m).2 f)) ∧ Below w.heap.size w w' := by
  have hmx := h.maxLe
  have hc := h.capLe
  unfold maxLen at hmx
  obtain ⟨W, hW⟩ : ∃ W, w.alloc (.cells #[.slice a n cap] 25) = W := ⟨_, rfl⟩
  have B := Lib.hid (show Below w.heap.size w W from hW ▸ ba w _)
  have hwz : w.heap.size < W.heap.size := by rw [← hW]; simp
  have hbox : W.cell? ⟨w.heap.size, 0, none⟩ = some (.slice a n cap) := hW ▸ box_cell w _ _
  obtain ⟨b, off, rfl, hbl, hx0⟩ := (h.below B.out).at_ (by omega)
  obtain ⟨xa, xc, hnd⟩ := hx0 m hm
  have c0 := hnd.c0
  have c1 := hnd.c1
  have hs1 := hnd.is.capLe
  have hs2 := hnd.is.maxLe
  unfold maxLen at hs2
  have IA := Lib.hid hnd.is
  obtain ⟨y, hy⟩ : ∃ y, nd F m = y := ⟨_, rfl⟩
  rw [hy] at c0 c1 hs1 IA ⊢
  have hm0 : (0 : Int) ≤ (m : Int) := by omega
  have hm1 : (m : Int) < (n : Int) := by omega
  clear h hx0 hnd hy
  go_enter Try.func40, Try.ntmps40
  go_wp2_with fail
  (try rw [hW])
  obtain ⟨l, hl⟩ : ∃ l, y.2.length = l := ⟨_, rfl⟩
  have HLL := Lib.hid hl
  rw [hl] at c1 hs1 IA
  go_wp2_with fail
  go_loopw [17] (fun jv wr => ∃ j : Nat, j ≤ l ∧ jv = .int .i64 j ∧ Hid (fnd y.2 f = fnd (y.2.drop j) f) ∧ Hid (Below W.heap.size W wr)) (fun jv _ => l - (intOf jv).toNat)
  case atStart => exact ⟨0, Nat.zero_le _, rfl, (show _ = _ by rw [List.drop_zero]), Below.refl _ _⟩
  case round =>
    obtain ⟨j, hj, rfl, hE, hB⟩ := hrel
    by_cases hjl : j < l
    · obtain ⟨ab, ao, rfl, _, hax⟩ := (IA.out.below hB.out).at_ (by omega)
      obtain ⟨d0, d1⟩ := hax j hjl
      have hjL : j < y.2.length := by rw [HLL.out]; exact hjl
      have HH := Lib.hid (fun h => fnd_hit (f := f) hjL h)
      have HM := Lib.hid (fun h => fnd_miss (f := f) hjL h)
      obtain ⟨x, hxe⟩ : ∃ x, ar y.2 j = x := ⟨_, rfl⟩
      rw [hxe] at d0 d1 HH HM
      obtain ⟨ff, tt⟩ := x
      dsimp only at d0 d1 HH HM
      have hj0 : (0 : Int) ≤ (j : Int) := by omega
      have hj1 : (j : Int) < (l : Int) := by omega
      have BA := Lib.hid (hB.out.alloc hB.out.size (.cells #[.int .i64 ff, .int .i64 tt] 45))
      clear hax hxe hjL hB
      by_cases hq : ff = f
      · subst hq
        have hr : Hid (fnd y.2 ff = some tt) := by show _ = _; rw [hE.out, HH.out rfl]
        go_wp2
        (try simp only [Exit.inBlock, Exit.then])
        refine bodyPost_ret (results_tmp2 rfl _ _ _) rfl ?_
        exact ⟨by rw [hr.out]; rfl, B.out.trans (BA.out.mono B.out.size)⟩
      · have hne : (ff == f) = false := by simpa using hq
        have hr : Hid (fnd y.2 f = fnd (y.2.drop (j + 1)) f) := by show _ = _; rw [hE.out, HM.out hq]
        go_wp2
        go_roundw
        case rel => exact ⟨j + 1, by omega, by go_num, hr, BA⟩
        case measure => simp [intOf]; omega
    · obtain rfl : l = j := by omega
      have hr : Hid (fnd y.2 f = none) := by show _ = _; rw [hE.out, List.drop_eq_nil_of_le (by rw [HLL.out]; exact Nat.le_refl _)]; rfl
      go_wp2
      (try simp only [Exit.inBlock, Exit.then])
      refine bodyPost_ret (results_tmp2 rfl _ _ _) rfl ?_
      exact ⟨by rw [hr.out]; rfl, B.out.trans (hB.out.mono B.out.size)⟩
end Go.Proofs.Ytlhiiecaphibhaa

/- graph, plain: the search for a renaming of nodes tells whether two graphs have the same form. -/
namespace Go.Proofs.Ytlhiiecaphibhaa
open Go.RowKit Go.Maps

/-! ### Equal forms -/
theorem same_node {F G : Gr} {r s : List Nat} (h : outG F r = outG G s) {m n : Nat} (hm : m ∈ r) (hn : n ∈ s) (e : r.idxOf m = s.idxOf n) : outN F r m = outN G s n := by
  rw [← outG_idx F r hm, ← outG_idx G s hn, h, e]
theorem same_arc {F G : Gr} {r s : List Nat} (h : outG F r = outG G s) {m n : Nat} (hm : m ∈ r) (hn : n ∈ s) (e : r.idxOf m = s.idxOf n) {a : Arc} (ha : a ∈ (nd F m).2) : ∃ c ∈ (nd G n).2, c.1 = a.1 ∧ r.idxOf a.2.toNat = s.idxOf c.2.toNat := by
  have h1 : (srt (nd F m).2).map (relA r) = (srt (nd G n).2).map (relA s) := congrArg Prod.snd (same_node h hm hn e)
  have h2 : relA r a ∈ (srt (nd G n).2).map (relA s) := h1 ▸ List.mem_map_of_mem ((srt_perm _).mem_iff.2 ha)
  obtain ⟨c, hc, e2⟩ := List.mem_map.1 h2
  have e3 := congrArg Prod.fst e2
  have e4 : ((s.idxOf c.2.toNat : Nat) : Int) = ((r.idxOf a.2.toNat : Nat) : Int) := congrArg Prod.snd e2
  exact ⟨c, (srt_perm _).mem_iff.1 hc, e3, by omega⟩
theorem same_typ {F G : Gr} {r s : List Nat} (h : outG F r = outG G s) {m n : Nat} (hm : m ∈ r) (hn : n ∈ s) (e : r.idxOf m = s.idxOf n) : (nd F m).1 = (nd G n).1 ∧ (nd F m).2.length = (nd G n).2.length := by
  have h0 := same_node h hm hn e
  have h1 : (srt (nd F m).2).map (relA r) = (srt (nd G n).2).map (relA s) := congrArg Prod.snd h0
  have h2 := congrArg List.length h1
  rw [List.length_map, List.length_map, srt_len, srt_len] at h2
  have h3 : (outN F r m).1 = (outN G s n).1 := by rw [h0]
  exact ⟨h3, h2⟩
/-- The numbers t and b say which nodes correspond; those of F in q do. -/
structure AInv (F G : Gr) (r s : List Nat) (t b : List Int) (q : List Nat) : Prop where
  tl : t.length = F.length
  bl : b.length = G.length
  nod : q.Nodup
  zero : 0 ∈ q ∧ iv t 0 = 0
  mem : ∀ m ∈ q, m < F.length ∧ 0 ≤ iv t m ∧ (iv t m).toNat < G.length ∧ iv b (iv t m).toNat = m
  neg : ∀ m, m < F.length → m ∉ q → iv t m = -1
  neb : ∀ n, n < G.length → iv b n = -1 ∨ ∃ m ∈ q, iv b n = m ∧ iv t m = n
  eq : outG F r = outG G s → ∀ m ∈ q, m ∈ r ∧ (iv t m).toNat ∈ s ∧ r.idxOf m = s.idxOf (iv t m).toNat
theorem iv_rep {n i : Nat} (h : i < n) (x : Int) : iv (List.replicate n x) i = x := by
  unfold iv; rw [List.getD_eq_getElem?_getD, List.getElem?_replicate, if_pos h]; rfl
theorem ainv_zero {F G : Gr} (hF : 0 < F.length) (hG : 0 < G.length) {r s : List Nat} (hr : Dfs (tos F) [0] [] r) (hs : Dfs (tos G) [0] [] s) :
    AInv F G r s ((List.replicate F.length (-1)).set 0 0) ((List.replicate G.length (-1)).set 0 0) [0] := by
  have h1 : ∀ i, i < F.length → iv ((List.replicate F.length (-1)).set 0 0) i = if i = 0 then 0 else -1 := fun i hi => by
    rw [iv_set (by rw [List.length_replicate]; exact hF)]
    split
    · rfl
    · exact iv_rep hi _
  have h2 : ∀ i, i < G.length → iv ((List.replicate G.length (-1)).set 0 0) i = if i = 0 then 0 else -1 := fun i hi => by
    rw [iv_set (by rw [List.length_replicate]; exact hG)]
    split
    · rfl
    · exact iv_rep hi _
  have e1 : iv ((List.replicate F.length (-1)).set 0 0) 0 = 0 := by rw [h1 0 hF]; rfl
  have e2 : iv ((List.replicate G.length (-1)).set 0 0) 0 = 0 := by rw [h2 0 hG]; rfl
  refine ⟨by simp, by simp, by simp, ⟨by simp, e1⟩, fun m hm => ?_, fun m hm hn => ?_, fun n hn => ?_, fun _ m hm => ?_⟩
  · simp at hm; subst hm
    rw [e1]
    exact ⟨hF, by decide, hG, e2⟩
  · rw [h1 m hm, if_neg (by simpa using hn)]
  · by_cases e : n = 0
    · subst e; exact .inr ⟨0, by simp, e2, e1⟩
    · left; rw [h2 n hn, if_neg e]
  · simp at hm; subst hm
    rw [e1]
    refine ⟨dfs_mem hr, dfs_mem hs, ?_⟩
    rw [idx_root hr]
    exact (idx_root hs).symm
section
variable {F G : Gr} {r s : List Nat} {t b : List Int} {q : List Nat}
theorem AInv.len (h : AInv F G r s t b q) : q.length ≤ F.length := nodup_lt h.nod fun x hx => (h.mem x hx).1
/-- An arc of a node and that with its feature of the other node. -/
structure Two (F G : Gr) (t : List Int) (q : List Nat) (m : Nat) (a : Arc) (c : Int) : Prop where
  m_ : m ∈ q
  a_ : a ∈ (nd F m).2
  c_ : (a.1, c) ∈ (nd G (iv t m).toNat).2
theorem Two.rng {m : Nat} {a : Arc} {c : Int} (h : AInv F G r s t b q) (hF : Fine F) (hG : Fine G) (w : Two F G t q m a c) : 0 ≤ a.2 ∧ a.2.toNat < F.length ∧ 0 ≤ c ∧ c.toNat < G.length := by
  obtain ⟨h1, h2, h3, h4⟩ := h.mem m w.m_
  have k1 := (hF _ (nd_mem h1)).1 a w.a_
  have k2 := (hG _ (nd_mem h3)).1 _ w.c_
  refine ⟨k1.1, by omega, k2.1, by have := k2.2; simp at this; omega⟩
theorem Two.eq {m : Nat} {a : Arc} {c : Int} (h : AInv F G r s t b q) (hG : Fine G) (hr : Dfs (tos F) [0] [] r) (hs : Dfs (tos G) [0] [] s) (w : Two F G t q m a c) (e : outG F r = outG G s) : a.2.toNat ∈ r ∧ c.toNat ∈ s ∧ r.idxOf a.2.toNat = s.idxOf c.toNat := by
  obtain ⟨h1, h2, h3⟩ := h.eq e m w.m_
  obtain ⟨_, _, h4, _⟩ := h.mem m w.m_
  obtain ⟨d, hd, e1, e2⟩ := same_arc e h1 h2 h3 w.a_
  have e3 : d = (a.1, c) := dif_inj (hG _ (nd_mem h4)).2 hd w.c_ e1
  subst e3
  exact ⟨dfs_closed hr m h1 _ (tos_mem w.a_), dfs_closed hs _ h2 _ (tos_mem w.c_), e2⟩
theorem AInv.add {m : Nat} {a : Arc} {c : Int} (h : AInv F G r s t b q) (hF : Fine F) (hG : Fine G) (hr : Dfs (tos F) [0] [] r) (hs : Dfs (tos G) [0] [] s) (w : Two F G t q m a c) (n1 : iv t a.2.toNat < 0) (n2 : iv b c.toNat < 0) :
    AInv F G r s (t.set a.2.toNat c) (b.set c.toNat a.2) (q ++ [a.2.toNat]) := by
  obtain ⟨r1, r2, r3, r4⟩ := w.rng h hF hG
  have hy : a.2.toNat ∉ q := fun hq => by have := (h.mem _ hq).2.1; omega
  have t1 : ∀ i, iv (t.set a.2.toNat c) i = if i = a.2.toNat then c else iv t i := fun i => iv_set (by rw [h.tl]; exact r2) _ _
  have b1 : ∀ i, iv (b.set c.toNat a.2) i = if i = c.toNat then a.2 else iv b i := fun i => iv_set (by rw [h.bl]; exact r4) _ _
  have t2 : ∀ i ∈ q, iv (t.set a.2.toNat c) i = iv t i := fun i hi => by rw [t1, if_neg (fun e => hy (by rw [← e]; exact hi))]
  have b2 : ∀ i ∈ q, iv (b.set c.toNat a.2) (iv t i).toNat = iv b (iv t i).toNat := fun i hi => by
    rw [b1, if_neg (fun e => ?_)]
    have := (h.mem i hi).2.2.2
    rw [e] at this
    omega
  have t3 : iv (t.set a.2.toNat c) a.2.toNat = c := by rw [t1, if_pos rfl]
  have b3 : iv (b.set c.toNat a.2) c.toNat = a.2 := by rw [b1, if_pos rfl]
  refine ⟨by rw [List.length_set]; exact h.tl, by rw [List.length_set]; exact h.bl, ?_, ⟨List.mem_append_left _ h.zero.1, by rw [t2 0 h.zero.1]; exact h.zero.2⟩, fun i hi => ?_, fun i hi hn => ?_, fun n hn => ?_, fun e i hi => ?_⟩
  · exact List.nodup_append.2 ⟨h.nod, by simp, fun x hx y hy' => by simp at hy'; subst hy'; exact fun e => hy (e ▸ hx)⟩
  · rcases List.mem_append.1 hi with hi | hi
    · rw [t2 i hi, b2 i hi]; exact h.mem i hi
    · simp at hi; subst hi
      rw [t3, b3]
      exact ⟨r2, r3, r4, by omega⟩
  · rw [t1, if_neg (fun e => hn (by simp [e]))]
    exact h.neg i hi (fun hq => hn (List.mem_append_left _ hq))
  · rw [b1]
    by_cases e : n = c.toNat
    · subst e
      rw [if_pos rfl]
      exact .inr ⟨a.2.toNat, by simp, by omega, by rw [t3]; omega⟩
    · rw [if_neg e]
      rcases h.neb n hn with k | ⟨i, hi, k1, k2⟩
      · exact .inl k
      · exact .inr ⟨i, List.mem_append_left _ hi, k1, by rw [t2 i hi]; exact k2⟩
  · rcases List.mem_append.1 hi with hi | hi
    · rw [t2 i hi]; exact h.eq e i hi
    · simp at hi; subst hi
      rw [t3]
      exact w.eq h hG hr hs e
/-- The nodes don't correspond. -/
theorem AInv.bad_typ {m : Nat} (h : AInv F G r s t b q) (hm : m ∈ q) (hb : (nd F m).1 ≠ (nd G (iv t m).toNat).1 ∨ (nd F m).2.length ≠ (nd G (iv t m).toNat).2.length) : outG F r ≠ outG G s := by
  intro e
  obtain ⟨h1, h2, h3⟩ := h.eq e m hm
  obtain ⟨k1, k2⟩ := same_typ e h1 h2 h3
  rcases hb with hb | hb
  · exact hb k1
  · exact hb k2
theorem AInv.bad_arc {m : Nat} {a : Arc} (h : AInv F G r s t b q) (hm : m ∈ q) (ha : a ∈ (nd F m).2) (hb : fnd (nd G (iv t m).toNat).2 a.1 = none) : outG F r ≠ outG G s := by
  intro e
  obtain ⟨h1, h2, h3⟩ := h.eq e m hm
  obtain ⟨d, hd, e1, _⟩ := same_arc e h1 h2 h3 ha
  exact fnd_none hb d hd e1
theorem AInv.bad_to {m : Nat} {a : Arc} {c : Int} (h : AInv F G r s t b q) (hF : Fine F) (hG : Fine G) (hr : Dfs (tos F) [0] [] r) (hs : Dfs (tos G) [0] [] s) (w : Two F G t q m a c) (hn : ¬ (iv t a.2.toNat < 0 ∧ iv b c.toNat < 0)) (hb : iv t a.2.toNat ≠ c ∨ iv b c.toNat ≠ a.2) : outG F r ≠ outG G s := by
  intro e
  obtain ⟨r1, r2, r3, r4⟩ := w.rng h hF hG
  obtain ⟨h1, h2, h3⟩ := w.eq h hG hr hs e
  by_cases n1 : iv t a.2.toNat < 0
  · have n2 : ¬ iv b c.toNat < 0 := fun n2 => hn ⟨n1, n2⟩
    rcases h.neb _ r4 with k | ⟨i, hi, k1, k2⟩
    · omega
    · obtain ⟨g1, g2, g3⟩ := h.eq e i hi
      have e2 : i = a.2.toNat := idx_inj g1 (by rw [g3, h3]; congr 1; omega)
      subst e2
      have := (h.mem _ hi).2.1
      omega
  · have hq : a.2.toNat ∈ q := Classical.byContradiction fun hq => by have := h.neg _ r2 hq; omega
    obtain ⟨g1, g2, g3⟩ := h.eq e _ hq
    have e2 : (iv t a.2.toNat).toNat = c.toNat := idx_inj g2 (by rw [← g3, h3])
    have g4 := (h.mem _ hq).2.2.2
    rw [e2] at g4
    rcases hb with hb | hb
    · omega
    · omega
/-- An arc has been followed in both. -/
def Fit (G : Gr) (t : List Int) (n : Nat) (a : Arc) : Prop := (a.1, iv t a.2.toNat) ∈ (nd G n).2 ∧ 0 ≤ iv t a.2.toNat
structure Don (F G : Gr) (t : List Int) (m k : Nat) : Prop where
  typ : (nd F m).1 = (nd G (iv t m).toNat).1
  len : (nd F m).2.length = (nd G (iv t m).toNat).2.length
  fit : ∀ j, j < k → j < (nd F m).2.length → Fit G t (iv t m).toNat (ar (nd F m).2 j)
/-- i nodes of the queue are done, and k arcs of the next one. -/
structure Far (F G : Gr) (t : List Int) (q : List Nat) (i : Nat) : Prop where
  all : ∀ j m, j < i → q[j]? = some m → Don F G t m (nd F m).2.length
theorem Fit.set {n : Nat} {a : Arc} {y : Nat} {c : Int} (h : Fit G t n a) (hy : y < t.length) (n1 : iv t y < 0) : Fit G (t.set y c) n a := by
  have e : iv (t.set y c) a.2.toNat = iv t a.2.toNat := by
    rw [iv_set hy, if_neg (fun e => ?_)]
    have := h.2
    rw [e] at this
    omega
  unfold Fit
  rw [e]; exact h
theorem Don.set {m k y : Nat} {c : Int} (h : Don F G t m k) (hy : y < t.length) (n1 : iv t y < 0) (hm : 0 ≤ iv t m) : Don F G (t.set y c) m k := by
  have e : iv (t.set y c) m = iv t m := by
    rw [iv_set hy, if_neg (fun e => ?_)]
    rw [e] at hm
    omega
  exact ⟨by rw [e]; exact h.typ, by rw [e]; exact h.len, fun j hj hl => by rw [e]; exact (h.fit j hj hl).set hy n1⟩
theorem Far.set {i y : Nat} {c : Int} (h : Far F G t q i) (ha : AInv F G r s t b q) (hi : i ≤ q.length) (hy : y < t.length) (n1 : iv t y < 0) : Far F G (t.set y c) (q ++ [y]) i :=
  ⟨fun j m hj hq => by
    rw [List.getElem?_append_left (by omega)] at hq
    exact (h.all j m hj hq).set hy n1 (ha.mem m (List.mem_of_getElem? hq)).2.1⟩
theorem Don.next {m k : Nat} (h : Don F G t m k) (hk : k < (nd F m).2.length) (hf : Fit G t (iv t m).toNat (ar (nd F m).2 k)) : Don F G t m (k + 1) :=
  ⟨h.typ, h.len, fun j hj hl => by
    rcases Nat.lt_or_ge j k with e | e
    · exact h.fit j e hl
    · obtain rfl : j = k := by omega
      exact hf⟩
theorem Far.next {i m : Nat} (h : Far F G t q i) (hm : q[i]? = some m) (hd : Don F G t m (nd F m).2.length) : Far F G t q (i + 1) :=
  ⟨fun j n hj hn => by
    rcases Nat.lt_or_ge j i with e | e
    · exact h.all j n e hn
    · obtain rfl : j = i := by omega
      rw [hm] at hn
      cases hn
      exact hd⟩
theorem perm_of {α : Type} [DecidableEq α] : ∀ {l m : List α}, l.Nodup → (∀ x ∈ l, x ∈ m) → m.length ≤ l.length → l.Perm m
  | [], m, _, _, h => by
    have : m = [] := List.length_eq_zero_iff.1 (by simpa using h)
    subst this; exact .refl _
  | a :: l, m, hn, hs, hl => by
    have hn2 := List.nodup_cons.1 hn
    have ham := hs a List.mem_cons_self
    have ih := perm_of (l := l) (m := m.erase a) hn2.2 (fun x hx => (List.mem_erase_of_ne (fun e => hn2.1 (by rw [← e]; exact hx))).2 (hs x (List.mem_cons_of_mem _ hx))) (by
      rw [List.length_erase_of_mem ham]; simp at hl; omega)
    exact (ih.cons a).trans (List.perm_cons_erase ham).symm
theorem AInv.good (h : AInv F G r s t b q) (hF : Fine F) (hG : Fine G) (hr : Dfs (tos F) [0] [] r) (hs : Dfs (tos G) [0] [] s) (hd : Far F G t q q.length) : outG F r = outG G s := by
  have don : ∀ m ∈ q, Don F G t m (nd F m).2.length := fun m hm => by
    obtain ⟨j, hj, e⟩ := List.getElem_of_mem hm
    exact hd.all j m hj (by rw [List.getElem?_eq_getElem hj, e])
  have fit : ∀ m ∈ q, ∀ a ∈ (nd F m).2, Fit G t (iv t m).toNat a := fun m hm a ha => by
    obtain ⟨j, hj, e⟩ := List.getElem_of_mem ha
    have := (don m hm).fit j hj hj
    have e2 := ar_get hj
    rw [List.getElem?_eq_getElem hj, e] at e2
    rw [← Option.some.inj e2] at this
    exact this
  have sub : ∀ x ∈ r, x ∈ q := hr.least (fun x => x ∈ q) (fun x hx y hy => by
    unfold tos at hy
    obtain ⟨a, ha, rfl⟩ := List.mem_map.1 hy
    have ha := (srt_perm _).mem_iff.1 ha
    have hf := (fit x hx a ha).2
    have hl := (hF _ (nd_mem (h.mem x hx).1)).1 a ha
    exact Classical.byContradiction fun hq => by have := h.neg _ (by omega) hq; omega) (fun x hx => by cases hx) (fun x hx => by simp at hx; subst hx; exact h.zero.1)
  have iso : Iso F G q (fun x => (iv t x).toNat) := by
    refine ⟨fun x hx y hy e => ?_, fun x hx => (don x hx).typ.symm, fun x hx => ?_⟩
    · have h1 := (h.mem x hx).2.2.2
      have h2 := (h.mem y hy).2.2.2
      have e : (iv t x).toNat = (iv t y).toNat := e
      rw [e] at h1
      omega
    · show srt (nd G (iv t x).toNat).2 = _
      have hx1 := h.mem x hx
      have dF : Dif (nd F x).2 := (hF _ (nd_mem hx1.1)).2
      have dG : Dif (nd G (iv t x).toNat).2 := (hG _ (nd_mem hx1.2.2.1)).2
      have dM : Dif ((nd F x).2.map fun a => ((a.1, (((iv t a.2.toNat).toNat : Nat) : Int)) : Arc)) := by
        show ((((nd F x).2.map fun a => ((a.1, (((iv t a.2.toNat).toNat : Nat) : Int)) : Arc))).map Prod.fst).Nodup
        rw [List.map_map]
        exact dF
      have p1 : ((nd F x).2.map fun a => ((a.1, (((iv t a.2.toNat).toNat : Nat) : Int)) : Arc)).Perm (nd G (iv t x).toNat).2 := by
        refine perm_of (List.Pairwise.of_map Prod.fst (fun _ _ h e => h (by rw [e])) dM) (fun y hy => ?_) (by rw [List.length_map, (don x hx).len]; exact Nat.le_refl _)
        obtain ⟨a, ha, rfl⟩ := List.mem_map.1 hy
        have hf := fit x hx a ha
        have e3 : (((iv t a.2.toNat).toNat : Nat) : Int) = iv t a.2.toNat := Int.toNat_of_nonneg hf.2
        show (a.1, (((iv t a.2.toNat).toNat : Nat) : Int)) ∈ _
        rw [e3]; exact hf.1
      refine (srt_of (((srt_perm (nd F x).2).map _).trans p1) ?_ dG).symm
      unfold Asc
      rw [List.pairwise_map]
      exact srt_asc _
  have e := (iso.mono sub).cfEq hr
  have e0 : (fun x => (iv t x).toNat) 0 = 0 := by show (iv t 0).toNat = 0; rw [h.zero.2]; rfl
  rw [show (iv t 0).toNat = 0 from e0] at e
  rw [← cf_eq hr, ← cf_eq hs]
  exact e.symm
end
end Go.Proofs.Ytlhiiecaphibhaa

/- graph: alike of the laws. Written by wip/gen/galike.py. -/
namespace Go.Proofs.Ytlhiiecaphibhaa
open Go.RowKit Go.Maps

theorem owns_some {w : World} {B n s : Nat} {e : TypeId} {v : Value} {xs : List Value} (h : w.ownsRow B e s v n xs) (hn : 0 < n) : ∃ g c, v = .slice (some ⟨g, 0, none⟩) n c ∧ n ≤ c ∧ c ≤ maxLen ∧ B ≤ g ∧ g < w.heap.size := by
  have hh := h
  obtain ⟨_, ⟨e, e2⟩ | ⟨g1, c1, cur1, e, hB, hg, h3, h4, _⟩⟩ := h
  · omega
  · exact ⟨_, _, e, h3, h4, hB, lt_of_block hg⟩
theorem arcV_none : arcV none = .tuple #[.int .i64 0, .bool false] := rfl
theorem arcV_some (c : Int) : arcV (some c) = .tuple #[.int .i64 c, .bool true] := rfl
set_option maxRecDepth 100000 in
set_option maxHeartbeats 25600000 in
theorem alike_any (ans : Bool) (w : World) (a a' : Option Addr) (n cap n' cap' : Nat) (F G : Gr) (h : IsG w a n cap F) (h' : IsG w a' n' cap' G) (hF : Fine F) (hG : Fine G) (hsF : Siz F) (hsG : Siz G) (hn : 0 < n) (hn' : 0 < n')
    (hb : ans = true ↔ cf F 0 = cf G 0) :
    Calls Try.prog 28 #[.agg #[.slice a n cap], .agg #[.slice a' n' cap']] w fun e w' => e = .returned (.bool ans) ∧ Below w.heap.size w w' := by
  have hm := h.maxLe
  have hm' := h'.maxLe
  have hc := h.capLe
  have hc' := h'.capLe
  unfold maxLen at hm hm'
  have HL := Lib.hid h.len
  have HL' := Lib.hid h'.len
  have hnF : n ≤ 4097 := by rw [← h.len]; exact hsF.len
  have hnG : n' ≤ 4097 := by rw [← h'.len]; exact hsG.len
  obtain ⟨r, hr⟩ := dfs_root hF (show 0 < F.length by rw [HL.out]; exact hn)
  obtain ⟨s, hs⟩ := dfs_root hG (show 0 < G.length by rw [HL'.out]; exact hn')
  rw [cf_eq hr, cf_eq hs] at hb
  have HAB := Lib.hid hb
  have HR := Lib.hid hr
  have HS := Lib.hid hs
  have HF := Lib.hid hF
  have HG := Lib.hid hG
  have HZF := Lib.hid hsF
  have HZG := Lib.hid hsG
  obtain ⟨W, hW⟩ : ∃ W, twoF w (.slice a n cap) (.slice a' n' cap') = W := ⟨_, rfl⟩
  obtain ⟨b1, hz, d1, d2⟩ := twoF_is w _ _ W hW
  have B := Lib.hid b1
  have H := Lib.hid (h.below b1)
  have H' := Lib.hid (h'.below b1)
  obtain ⟨lg, hlg⟩ : ∃ lg, W.heap.size = lg := ⟨_, rfl⟩
  have HLG := Lib.hid hlg
  have KP : Hid (∀ V, Below lg W V → V.cell? ⟨w.heap.size, 0, none⟩ = some (.slice a n cap) ∧ V.cell? ⟨w.heap.size + 1, 0, none⟩ = some (.slice a' n' cap')) := fun V hV => ⟨(hV.cell (p := ⟨w.heap.size, 0, none⟩) (by show w.heap.size < _; omega)).trans d1, (hV.cell (p := ⟨w.heap.size + 1, 0, none⟩) (by show w.heap.size + 1 < _; omega)).trans d2⟩
  have HV : Hid (∀ V, Below lg W V → IsG V a' n' cap' G) := fun V hV => H'.out.below (HLG.out ▸ hV)
  have hbl : ∀ i, i < n → ∃ b off xa xc, a = some ⟨b, off, none⟩ ∧ ∀ V, Below lg W V → NdAt V b (off + i * 2) (nd F i) xa xc := fun i hi => by
    obtain ⟨b, off, e, hb, hx⟩ := H.out.at_ (by omega)
    obtain ⟨xa, xc, hd⟩ := hx i hi
    exact ⟨b, off, xa, xc, e, fun V hV => hd.below hb (HLG.out ▸ hV)⟩
  have hbl' : ∀ i, i < n' → ∃ b off xa xc, a' = some ⟨b, off, none⟩ ∧ ∀ V, Below lg W V → NdAt V b (off + i * 2) (nd G i) xa xc := fun i hi => by
    obtain ⟨b, off, e, hb, hx⟩ := H'.out.at_ (by omega)
    obtain ⟨xa, xc, hd⟩ := hx i hi
    exact ⟨b, off, xa, xc, e, fun V hV => hd.below hb (HLG.out ▸ hV)⟩
  have HBL := Lib.hid hbl
  have HBL' := Lib.hid hbl'
  have HEND : Hid (∀ V, Below lg W V → Below w.heap.size w V) := fun V hV => B.out.trans ((HLG.out ▸ hV : Below W.heap.size W V).mono B.out.size)
  have IV0 : Hid (AInv F G r s ((List.replicate n (-1)).set 0 0) ((List.replicate n' (-1)).set 0 0) [0]) := by
    have := ainv_zero (by rw [HL.out]; exact hn) (by rw [HL'.out]; exact hn') hr hs
    rw [HL.out, HL'.out] at this
    exact this
  have hbx := KP.out W (Below.refl _ _)
  have BW := Lib.hid (Below.refl lg W).drew
  have hlgd : lg ≤ W.drew.heap.size := by rw [← hlg]; exact Nat.le_refl _
  clear h h' hF hG hsF hsG hr hs hb b1 hbl hbl' d1 d2
  go_enter Try.func28, Try.ntmps28
  go_wp2_with fail
  (try rw [hW])
  go_region_held3 (fun w' => w'.cell? ⟨w.heap.size, 0, none⟩ = some (.slice a n cap) ∧ w'.cell? ⟨w.heap.size + 1, 0, none⟩ = some (.slice a' n' cap')) (first | exact hbx | exact KP.out _ BW.out | exact KP.out _ B1.out | exact KP.out _ B2.out) ((first
    | (go_at_call 39; (with_reducible refine (unset_any W.drew n (by omega)).mono ?_); rintro e w1 ⟨vt, rfl, ho, hb⟩; have B1 := Lib.hid (BW.out.trans (hb.mono hlgd)); have OT := Lib.hid (ho.mono hlgd); have hs1 := hb.size; clear ho hb)
    | (go_at_call 39; (with_reducible refine (unset_any w1 n' (by omega)).mono ?_); rintro e w2 ⟨vb, rfl, ho, hb⟩; have B2 := Lib.hid (B1.out.trans (hb.mono (Nat.le_trans hlgd hs1))); have OT2 := Lib.hid (owns_below OT.out hb); have OB2 := Lib.hid ho; have hs2 := hb.size; clear ho hb)))
  have hdT := owns_some OT.out hn
  obtain ⟨tg, tc, rfl, htc1, htc2, htg1, htg2⟩ := hdT
  obtain ⟨bg, bc, rfl, hbc1, hbc2, hbg1, hbg2⟩ := owns_some OB2.out hn'
  have htb : tg ≠ bg := by omega
  have hlg1 : lg ≤ w1.heap.size := Nat.le_trans hlgd hs1
  have OBm := Lib.hid (OB2.out.mono hlg1)
  unfold maxLen at htc2 hbc2
  clear OT OB2
  have e1 : w2.cell? ⟨tg, 0, none⟩ = some (.int .i64 (-1)) := (OT2.out.cellAt 0 (by omega)).trans (by rw [ivals_get (by rw [List.length_replicate]; exact hn), iv_rep hn])
  have e2 : w2.frozen? ⟨tg, 0, none⟩ = false := OT2.out.frozenAt _
  have st1 := OT2.out.stored 0 (.int .i64 0)
  obtain ⟨w3, hw3⟩ : ∃ w3, w2.setCell ⟨tg, 0, none⟩ (.int .i64 0) = w3 := ⟨_, rfl⟩
  rw [hw3, ivals_set] at st1
  have OT3 := Lib.hid st1.1
  have OB3 := Lib.hid (OBm.out.kept st1.2 (.inr (fun e => htb (Option.some.inj e).symm)))
  have B3 := Lib.hid (hw3 ▸ B2.out.setCell (p := ⟨tg, 0, none⟩) htg1 (.int .i64 0))
  have e3 : w3.cell? ⟨bg, 0, none⟩ = some (.int .i64 (-1)) := (OB3.out.cellAt 0 (by omega)).trans (by rw [ivals_get (by rw [List.length_replicate]; exact hn'), iv_rep hn'])
  have e4 : w3.frozen? ⟨bg, 0, none⟩ = false := OB3.out.frozenAt _
  have st2 := OB3.out.stored 0 (.int .i64 0)
  obtain ⟨w4, hw4⟩ : ∃ w4, w3.setCell ⟨bg, 0, none⟩ (.int .i64 0) = w4 := ⟨_, rfl⟩
  rw [hw4, ivals_set] at st2
  have hbgl : lg ≤ bg := by omega
  have B4 := Lib.hid (hw4 ▸ B3.out.setCell (p := ⟨bg, 0, none⟩) hbgl (.int .i64 0))
  have hz4 : w4.heap.size = w2.heap.size := by rw [← hw4, ← hw3]; simp
  have hlg4 : lg ≤ w4.heap.size := by omega
  have OT4 := Lib.hid ((OT3.out.kept st2.2 (.inr (fun e => htb (Option.some.inj e)))).alloc (.cells #[.int .i64 0] 3))
  have OB4 := Lib.hid (st2.1.alloc (.cells #[.int .i64 0] 3))
  have OQ4 : Hid ((w4.alloc (.cells #[.int .i64 0] 3)).ownsRow lg 3 1 (.slice (some ⟨w4.heap.size, 0, none⟩) 1 1) 1 (ivals (omem [0]))) :=
    ⟨rfl, .inr ⟨w4.heap.size, 1, #[.int .i64 0], rfl, hlg4, heap_alloc_new w4 _, Nat.le_refl _, by unfold maxLen; omega, rfl, rfl⟩⟩
  have BA4 := Lib.hid (B4.out.alloc hlg4 (.cells #[.int .i64 0] 3))
  have NT4 : Hid ((Value.slice (some ⟨w4.heap.size, 0, none⟩) 1 1).ownBlock ≠ some tg) := fun e => by have : w4.heap.size = tg := Option.some.inj e; omega
  have NB4 : Hid ((Value.slice (some ⟨w4.heap.size, 0, none⟩) 1 1).ownBlock ≠ some bg) := fun e => by have : w4.heap.size = bg := Option.some.inj e; omega
  have hn0 : (0 : Int) < (n : Int) := by omega
  have hn0' : (0 : Int) < (n' : Int) := by omega
  have hlgt : lg ≤ tg := htg1
  clear st1 st2 OT2 OBm OT3 OB3 B1 B2 B3 B4 hs1 hs2 htg1 htg2 hbg1 hbg2 hlg1
  go_wp2
  go_loopw [7, 8] (fun qv kv wr => ∃ (i : Nat) (q : List Nat) (t b : List Int), i ≤ q.length ∧ kv = .int .i64 i ∧ Hid (AInv F G r s t b q) ∧ Hid (Far F G t q i) ∧ Hid (wr.ownsRow lg 3 1 qv q.length (ivals (omem q))) ∧ Hid (qv.ownBlock ≠ some tg) ∧ Hid (qv.ownBlock ≠ some bg) ∧ Hid (wr.ownsRow lg 3 1 (.slice (some ⟨tg, 0, none⟩) n tc) n (ivals t)) ∧ Hid (wr.ownsRow lg 3 1 (.slice (some ⟨bg, 0, none⟩) n' bc) n' (ivals b)) ∧ Hid (Below lg W wr)) (fun _ kv _ => n - (intOf kv).toNat)
  case atStart => exact ⟨0, [0], _, _, Nat.zero_le _, rfl, IV0, ⟨fun j m hj _ => absurd hj (Nat.not_lt_zero _)⟩, (by have h := OQ4; rw [hz4] at h; exact h), (by have h := NT4; rw [hz4] at h; exact h), (by have h := NB4; rw [hz4] at h; exact h), OT4, OB4, BA4⟩
  case round =>
    clear IV0 OQ4 NT4 NB4 OT4 OB4 BA4 hw3 hw4 e1 e2 e3 e4
    obtain ⟨i, q, t, b, hi, rfl, hI, hD, hQ, hqt, hqb, hT, hB', hB⟩ := hrel
    have hql := hI.out.len
    rw [HL.out] at hql
    obtain ⟨qa, qc, hqv, hqc1, hqc2⟩ := owns_slice hQ.out
    subst hqv
    unfold maxLen at hqc2
    by_cases hlt : i < q.length
    · have hxi := List.getElem?_eq_getElem hlt
      have hxq := List.getElem_mem hlt
      obtain ⟨x, hx⟩ : ∃ x, q[i] = x := ⟨_, rfl⟩
      rw [hx] at hxi hxq
      obtain ⟨hxn, hy0, hyn, hyb⟩ := hI.out.mem x hxq
      have hxF := hxn
      rw [HL.out] at hxn
      obtain ⟨y, hy⟩ : ∃ y, (iv t x).toNat = y := ⟨_, rfl⟩
      have hty : iv t x = (y : Int) := by omega
      have BT := Lib.hid (fun h => hI.out.bad_typ hxq h)
      rw [hy] at hyn hyb BT
      have hyG := hyn
      rw [HL'.out] at hyn
      have f1 : wr.cell? ⟨tg, x, none⟩ = some (.int .i64 (y : Int)) := by
        rw [hT.out.cellAt x (by omega), ivals_get (by rw [hI.out.tl]; exact hxF), hty]
      obtain ⟨qgb, hqg⟩ : ∃ g, qa = some ⟨g, 0, none⟩ := by
        obtain ⟨g, c, e, _⟩ := owns_some hQ.out (by omega)
        cases e; exact ⟨_, rfl⟩
      subst hqg
      have f2 : wr.cell? ⟨qgb, i, none⟩ = some (.int .i64 (x : Int)) := by
        rw [hQ.out.cellAt i (by omega)]
        unfold ivals omem
        rw [List.map_map, List.getElem?_map, hxi]; rfl
      obtain ⟨ab, ao, xa, xc, rfl, hnd⟩ := HBL.out x hxn
      obtain ⟨ab', ao', ya, yc, rfl, hnd'⟩ := HBL'.out y hyn
      have c0 := (hnd wr hB.out).c0
      have c1 := (hnd wr hB.out).c1
      have k0 := (hnd' wr hB.out).c0
      have k1 := (hnd' wr hB.out).c1
      have hs1 := (hnd wr hB.out).is.capLe
      have hs2 := (hnd wr hB.out).is.maxLe
      unfold maxLen at hs2
      have HND := Lib.hid hnd
      obtain ⟨x1, x2⟩ := KP.out wr hB.out
      have HTP := Lib.hid (fun z hz => (HF.out _ (nd_mem hxF)).1 z hz)
      have TP : Hid (∀ (T : List Int), iv T x = (y : Int) → ∀ (m : Nat), m < (nd F x).2.length → ∀ (c : Int), fnd (nd G y).2 (ar (nd F x).2 m).1 = some c → Two F G T q x (ar (nd F x).2 m) c) := fun T hT m hm c hc => ⟨hxq, ar_mem hm, by rw [hT]; exact fnd_some hc⟩
      obtain ⟨ll, hll⟩ : ∃ l, (nd F x).2.length = l := ⟨_, rfl⟩
      obtain ⟨ll', hll'⟩ : ∃ l, (nd G y).2.length = l := ⟨_, rfl⟩
      have HLL := Lib.hid hll
      have HLL' := Lib.hid hll'
      rw [hll] at c1 hs1
      rw [hll'] at k1
      have hll0 : ll ≤ 64 := by rw [← hll]; exact HZF.out.arcs _ (nd_mem hxF)
      obtain ⟨ty, hty1⟩ : ∃ z, (nd F x).1 = z := ⟨_, rfl⟩
      obtain ⟨ty', hty2⟩ : ∃ z, (nd G y).1 = z := ⟨_, rfl⟩
      have HT1 := Lib.hid hty1
      have HT2 := Lib.hid hty2
      rw [hty1] at c0
      rw [hty2] at k0
      have hi0 : (0 : Int) ≤ (i : Int) := by omega
      have hx0 : (0 : Int) ≤ (x : Int) := by omega
      have hx1 : (x : Int) < (n : Int) := by omega
      have hy1 : (y : Int) < (n' : Int) := by omega
      have hy2 : (0 : Int) ≤ (y : Int) := by omega
      obtain ⟨ql, hqle⟩ : ∃ l, q.length = l := ⟨_, rfl⟩
      have HQLE := Lib.hid hqle
      rw [hqle] at hlt hqc1
      have hi1 : (i : Int) < (ql : Int) := by omega
      have HTY := Lib.hid hty
      have HXI := Lib.hid hxi
      have HXQ := Lib.hid hxq
      rw [hqle]
      clear hnd hnd' hx hy hty hxi hxq hyb hy0 hll hll' hty1 hty2 hqle hi hxF hyG
      by_cases hbad : ty ≠ ty' ∨ ll ≠ ll'
      · have HA : Hid (ans = false) := by
          have h1 := BT.out (by rw [HT1.out, HT2.out, HLL.out, HLL'.out]; exact hbad)
          show _ = _
          cases ans
          · rfl
          · exact absurd (HAB.out.1 rfl) h1
        by_cases ht : ty = ty'
        · have hl : ll ≠ ll' := by
            rcases hbad with h | h
            · exact absurd ht h
            · exact h
          have hl2 : ((ll : Int) != (ll' : Int)) = true := by simp; omega
          subst ht
          clear hbad
          go_wp2_with fail
          go_quiet (fail)
          go_wp2
          (try simp only [Exit.inBlock, Exit.then])
          refine bodyPost_ret (results_tmp rfl _ _ _) rfl ?_
          exact ⟨by rw [HA.out]; rfl, HEND.out _ (below_drewN hB.out _)⟩
        · have hl2 : (ty != ty') = true := by simpa using ht
          clear hbad
          go_wp2_with fail
          go_quiet (fail)
          go_wp2
          (try simp only [Exit.inBlock, Exit.then])
          refine bodyPost_ret (results_tmp rfl _ _ _) rfl ?_
          exact ⟨by rw [HA.out]; rfl, HEND.out _ (below_drewN hB.out _)⟩
      · obtain ⟨rfl, rfl⟩ : ty = ty' ∧ ll = ll' := ⟨Classical.byContradiction fun h => hbad (.inl h), Classical.byContradiction fun h => hbad (.inr h)⟩
        clear hbad
        go_wp2_with fail
        go_quiet (fail)
        obtain ⟨wz, hwz⟩ : ∃ wz, wz = wr.drewN nq := ⟨_, rfl⟩
        have BZ : Hid (Below lg W wz) := by rw [hwz]; exact below_drewN hB.out _
        have BY : Below wr.heap.size wr wz := by rw [hwz]; exact below_drewN (Below.refl _ _) _
        have TZ := Lib.hid (owns_below hT.out BY)
        have BBZ := Lib.hid (owns_below hB'.out BY)
        have QZ := Lib.hid (owns_below hQ.out BY)
        rw [← hwz]
        obtain ⟨x1, x2⟩ := KP.out wz BZ.out
        have c1 : wz.cell? ⟨ab, ao + x * 2 + 1, none⟩ = some (.slice xa ll xc) := by have := (HND.out wz BZ.out).c1; rwa [HLL.out] at this
        have DN : Hid (Don F G t x 0) := ⟨by rw [HTY.out, Int.toNat_natCast, HT1.out, HT2.out], by rw [HTY.out, Int.toNat_natCast, HLL.out, HLL'.out], fun j hj => absurd hj (Nat.not_lt_zero _)⟩
        have AR : Hid (∀ V, Below lg W V → IsArcs V xa ll xc (nd F x).2) := fun V hV => by have := (HND.out V hV).is; rwa [HLL.out] at this
        have ARC : Hid (∀ V, Below lg W V → ∀ f, Calls Try.prog 40 #[.agg #[.slice (some ⟨ab', ao', none⟩) n' cap'], .int .i64 y, .int .i64 f] V fun e w' => e = .returned (arcV (fnd (nd G y).2 f)) ∧ Below V.heap.size V w') := fun V hV f => arc_any V _ n' cap' G (HV.out V hV) y hyn f
        obtain ⟨p, hp⟩ : ∃ p, (nd F x).2 = p := ⟨_, rfl⟩
        have HP := Lib.hid hp
        rw [hp] at AR
        have HPL : Hid (p.length = ll) := by have := HLL.out; rwa [hp] at this
        clear hwz hT hB' hQ hB BY f1 f2 c0 k0 k1 hp BT
        go_wp2
        clear x1 x2 c1
        go_loopw [7, 79] (fun qv kv wr => ∃ (j : Nat) (q : List Nat) (t b : List Int), j ≤ ll ∧ kv = .int .i64 j ∧ Hid (AInv F G r s t b q) ∧ Hid (Far F G t q i) ∧ Hid (q[i]? = some x) ∧ Hid (iv t x = (y : Int)) ∧ Hid (Don F G t x j) ∧ Hid (wr.ownsRow lg 3 1 qv q.length (ivals (omem q))) ∧ Hid (qv.ownBlock ≠ some tg) ∧ Hid (qv.ownBlock ≠ some bg) ∧ Hid (wr.ownsRow lg 3 1 (.slice (some ⟨tg, 0, none⟩) n tc) n (ivals t)) ∧ Hid (wr.ownsRow lg 3 1 (.slice (some ⟨bg, 0, none⟩) n' bc) n' (ivals b)) ∧ Hid (Below lg W wr)) (fun _ kv _ => ll - (intOf kv).toNat)
        case atStart => exact ⟨0, q, t, b, Nat.zero_le _, rfl, hI, hD, HXI, HTY, DN, (by have h := QZ; rw [HQLE.out] at h; rw [HQLE.out]; exact h), hqt, hqb, TZ, BBZ, BZ⟩
        case round =>
          clear hI hD HXI HTY DN QZ hqt hqb TZ BBZ BZ TP HXQ HQLE hlt hqc1 hi1
          obtain ⟨j, q, t, b, hj, rfl, hI, hD, HXI, HTY, hDN, hQ, hqt, hqb, hT, hB', hB⟩ := hrel
          have hlgw := (hT.out.lt tg rfl).2
          have hbgw := (hB'.out.lt bg rfl).2
          by_cases hjl : j < ll
          · obtain ⟨pb, po, rfl, _, hax⟩ := (AR.out wr hB.out).at_ (by omega)
            obtain ⟨d0, d1⟩ := hax j hjl
            have hjL : j < p.length := by rw [HPL.out]; exact hjl
            have hxq := List.mem_of_getElem? HXI.out
            have TP : Hid (∀ (c : Int), fnd (nd G y).2 (ar p j).1 = some c → Two F G t q x (ar p j) c) := fun c hc => ⟨hxq, (by rw [HP.out]; exact ar_mem hjL), by rw [HTY.out]; exact fnd_some hc⟩
            have BA : Hid (fnd (nd G y).2 (ar p j).1 = none → outG F r ≠ outG G s) := fun h => hI.out.bad_arc (a := ar p j) hxq (by rw [HP.out]; exact ar_mem hjL) (by rw [HTY.out]; exact h)
            have hto := HTP.out (ar p j) (by rw [HP.out]; exact ar_mem hjL)
            rw [HL.out] at hto
            have HNX : Hid (Fit G t (iv t x).toNat (ar p j) → Don F G t x (j + 1)) := fun h => hDN.out.next (by rw [HP.out, HPL.out]; exact hjl) (by rw [HP.out]; exact h)
            have HDL : Hid (j < (nd F x).2.length) := by show _ < _; rw [HP.out]; exact hjL
            obtain ⟨f, hf⟩ : ∃ f, ar p j = f := ⟨_, rfl⟩
            have HARJ : Hid (ar (nd F x).2 j = f) := by show _ = _; rw [HP.out]; exact hf
            rw [hf] at d0 d1 hto TP BA HNX
            obtain ⟨ff, tt⟩ := f
            obtain ⟨tn, rfl⟩ : ∃ tn : Nat, tt = (tn : Int) := ⟨tt.toNat, (Int.toNat_of_nonneg hto.1).symm⟩
            dsimp only at d0 d1 hto TP BA HNX
            have htn : tn < n := by omega
            have htnF : tn < F.length := by rw [HL.out]; exact htn
            have hj0 : (0 : Int) ≤ (j : Int) := by omega
            have hj1 : (j : Int) < (ll : Int) := by omega
            have htn0 : (0 : Int) ≤ (tn : Int) := by omega
            have htn1 : (tn : Int) < (n : Int) := by omega
            obtain ⟨bx, hbx0⟩ : ∃ bx, wr.heap.size = bx := ⟨_, rfl⟩
            have hab : (wr.alloc (.cells #[.int .i64 ff, .int .i64 (tn : Int)] 45)).heap[wr.heap.size]? = some (.cells #[.int .i64 ff, .int .i64 (tn : Int)] 45) := heap_alloc_new wr _
            have TA := Lib.hid (hT.out.alloc (.cells #[.int .i64 ff, .int .i64 (tn : Int)] 45))
            have BBA := Lib.hid (hB'.out.alloc (.cells #[.int .i64 ff, .int .i64 (tn : Int)] 45))
            have QA := Lib.hid (hQ.out.alloc (.cells #[.int .i64 ff, .int .i64 (tn : Int)] 45))
            have BAA := Lib.hid (hB.out.alloc (by omega) (.cells #[.int .i64 ff, .int .i64 (tn : Int)] 45))
            have hlga : lg ≤ (wr.alloc (.cells #[.int .i64 ff, .int .i64 (tn : Int)] 45)).heap.size := by simp; omega
            obtain ⟨y1, y2⟩ := KP.out _ BAA.out
            have hqbx : ∀ k, u7.ownBlock = some k → k < wr.heap.size := fun k hk => (hQ.out.lt k hk).2
            have HQBX := Lib.hid hqbx
            rw [hbx0] at hab hlgw hbgw HQBX
            have hbxa : bx < (wr.alloc (.cells #[.int .i64 ff, .int .i64 (tn : Int)] 45)).heap.size := by simp; omega
            obtain ⟨oc, hoc⟩ : ∃ o, fnd (nd G y).2 ff = o := ⟨_, rfl⟩
            rw [hoc] at TP BA
            have HOC := Lib.hid hoc
            clear hax hjL hxq hf hoc hT hB' hQ hB hqbx
            cases oc with
            | none =>
              have HA : Hid (ans = false) := by
                show _ = _
                cases ans
                · rfl
                · exact absurd (HAB.out.1 rfl) (BA.out rfl)
              go_wp2_with ((go_at_call 40; (with_reducible refine (ARC.out _ BAA.out ff).mono ?_); rintro e w5 ⟨rfl, hb5⟩; rw [HOC.out, arcV_none]; have B5 := Lib.hid (BAA.out.trans (hb5.mono hlga)); clear hb5))
              (try simp only [Exit.inBlock, Exit.then])
              refine bodyPost_ret (results_tmp rfl _ _ _) rfl ?_
              exact ⟨by rw [HA.out]; rfl, HEND.out _ B5.out⟩
            | some c =>
              have TW := TP.out c rfl
              obtain ⟨_, _, hc0, hcnG⟩ := TW.rng hI.out HF.out HG.out
              obtain ⟨cn, rfl⟩ : ∃ cn : Nat, c = (cn : Int) := ⟨c.toNat, (Int.toNat_of_nonneg hc0).symm⟩
              rw [Int.toNat_natCast] at hcnG
              have hcn := hcnG
              rw [HL'.out] at hcn
              have hcn1 : (cn : Int) < (n' : Int) := by omega
              have hxq := List.mem_of_getElem? HXI.out
              have hiq := (List.getElem?_eq_some_iff.1 HXI.out).1
              have hqlen := hI.out.len
              rw [HL.out] at hqlen
              have hx0' := (hI.out.mem x hxq).2.1
              have HTL : Hid (t.length = n) := by show _ = _; rw [hI.out.tl]; exact HL.out
              have HBLN : Hid (b.length = n') := by show _ = _; rw [hI.out.bl]; exact HL'.out
              have BADT : Hid (¬ (iv t tn < 0 ∧ iv b cn < 0) → (iv t tn ≠ cn ∨ iv b cn ≠ tn) → outG F r ≠ outG G s) := fun h1 h2 => hI.out.bad_to HF.out HG.out HR.out HS.out TW h1 h2
              have ADD : Hid (iv t tn < 0 → iv b cn < 0 → AInv F G r s (t.set tn cn) (b.set cn tn) (q ++ [tn])) := fun h1 h2 => hI.out.add HF.out HG.out HR.out HS.out TW h1 h2
              have FARN : Hid (iv t tn < 0 → Far F G (t.set tn cn) (q ++ [tn]) i) := fun h1 => hD.out.set hI.out (Nat.le_of_lt hiq) (by rw [hI.out.tl]; exact htnF) h1
              have TYN : Hid (iv t tn < 0 → iv (t.set tn cn) x = (y : Int)) := fun h1 => by
                rw [iv_set (by rw [hI.out.tl]; exact htnF), if_neg (fun e => by rw [e] at hx0'; omega)]
                exact HTY.out
              have DONN : Hid (iv t tn < 0 → Don F G (t.set tn cn) x (j + 1)) := fun h1 => by
                refine (hDN.out.set (by rw [hI.out.tl]; exact htnF) h1 hx0').next HDL.out ?_
                rw [TYN.out h1, HARJ.out]
                have e0 : iv (t.set tn cn) tn = (cn : Int) := by rw [iv_set (by rw [hI.out.tl]; exact htnF), if_pos rfl]
                have hc := TW.c_
                rw [HTY.out] at hc
                refine ⟨?_, ?_⟩
                · show (ff, iv (t.set tn cn) tn) ∈ _
                  rw [e0]; exact hc
                · show 0 ≤ iv (t.set tn cn) tn
                  omega
              have DONK : Hid (iv t tn = cn → Don F G t x (j + 1)) := fun h1 => HNX.out ⟨by show (ff, iv t tn) ∈ _; rw [h1]; exact TW.c_, by show 0 ≤ iv t tn; omega⟩
              have HIT : Hid (iv t tn = cn → iv b cn = tn) := fun h1 => by
                have hq : tn ∈ q := Classical.byContradiction fun hq => by have := hI.out.neg tn htnF hq; omega
                have := (hI.out.mem tn hq).2.2.2
                rw [h1, Int.toNat_natCast] at this
                exact this
              have XI2 : Hid ((q ++ [tn])[i]? = some x) := by
                show _ = _
                rw [List.getElem?_append_left hiq]; exact HXI.out
              obtain ⟨z1, hz1⟩ : ∃ z, iv t tn = z := ⟨_, rfl⟩
              obtain ⟨z2, hz2⟩ : ∃ z, iv b cn = z := ⟨_, rfl⟩
              have HZ1 := Lib.hid hz1
              have HZ2 := Lib.hid hz2
              rw [hz1, hz2] at BADT ADD HIT
              rw [hz1] at FARN TYN DONN DONK
              have hbt : tg ≠ bx := by omega
              have hbb : bg ≠ bx := by omega
              clear TW hc0 hxq hz1 hz2 hx0' hiq
              by_cases h1 : z1 < 0
              · by_cases h2 : z2 < 0
                · have AN := Lib.hid (ADD.out h1 h2)
                  have FN := Lib.hid (FARN.out h1)
                  have YN := Lib.hid (TYN.out h1)
                  have DN := Lib.hid (DONN.out h1)
                  have hd1 : ((cn : Int) != (cn : Int)) = false := by simp
                  have hd2 : ((tn : Int) != (tn : Int)) = false := by simp
                  clear hI hD hDN HTY HXI BADT ADD FARN TYN DONN DONK HIT HNX
                  go_wp2_with (first
                    | (go_at_call 40; (with_reducible refine (ARC.out _ BAA.out ff).mono ?_); rintro e w5 ⟨rfl, hb5⟩; rw [HOC.out, arcV_some]; have B5 := Lib.hid (BAA.out.trans (hb5.mono hlga)); have T5 := Lib.hid (owns_below TA.out hb5); have BB5 := Lib.hid (owns_below BBA.out hb5); have Q5 := Lib.hid (owns_below QA.out hb5); have X5 := Lib.hid ((hb5.block bx hbxa).trans hab); clear hb5; have a1 : w5.cell? ⟨bx, 1, none⟩ = some (.int .i64 (tn : Int)) := (by rw [cell_of_row _ _ _ _ _ _ X5.out]; rfl); have e1 : w5.cell? ⟨tg, tn, none⟩ = some (.int .i64 z1) := ((T5.out.cellAt tn (by omega)).trans (by rw [ivals_get (by rw [HTL.out]; exact htn), HZ1.out])); have e2 : w5.cell? ⟨bg, cn, none⟩ = some (.int .i64 z2) := ((BB5.out.cellAt cn (by omega)).trans (by rw [ivals_get (by rw [HBLN.out]; exact hcn), HZ2.out])); have e1f : w5.frozen? ⟨tg, tn, none⟩ = false := T5.out.frozenAt _; have st1 := T5.out.stored tn (.int .i64 (cn : Int)); obtain ⟨w6, hw6⟩ : ∃ w6, w5.setCell ⟨tg, tn, none⟩ (.int .i64 (cn : Int)) = w6 := ⟨_, rfl⟩; rw [hw6, ivals_set] at st1; have T6 := Lib.hid st1.1; have BB6 := Lib.hid (BB5.out.kept st1.2 (.inr (fun e => htb (Option.some.inj e).symm))); have Q6 := Lib.hid (Q5.out.kept st1.2 (.inr hqt.out)); have B6 := Lib.hid (hw6 ▸ B5.out.setCell (p := ⟨tg, tn, none⟩) hlgt (.int .i64 (cn : Int))); have X6 := Lib.hid ((st1.2.block bx (lt_of_block X5.out) (fun e => hbt (Option.some.inj e).symm)).trans X5.out); clear st1; have a2 : w6.cell? ⟨bx, 1, none⟩ = some (.int .i64 (tn : Int)) := (by rw [cell_of_row _ _ _ _ _ _ X6.out]; rfl); have e3 : w6.cell? ⟨bg, cn, none⟩ = some (.int .i64 z2) := ((BB6.out.cellAt cn (by omega)).trans (by rw [ivals_get (by rw [HBLN.out]; exact hcn), HZ2.out])); have e3f : w6.frozen? ⟨bg, cn, none⟩ = false := BB6.out.frozenAt _; have st2 := BB6.out.stored cn (.int .i64 (tn : Int)); obtain ⟨w7, hw7⟩ : ∃ w7, w6.setCell ⟨bg, cn, none⟩ (.int .i64 (tn : Int)) = w7 := ⟨_, rfl⟩; rw [hw7, ivals_set] at st2; have BB7 := Lib.hid st2.1; have T7 := Lib.hid (T6.out.kept st2.2 (.inr (fun e => htb (Option.some.inj e)))); have Q7 := Lib.hid (Q6.out.kept st2.2 (.inr hqb.out)); have B7 := Lib.hid (hw7 ▸ B6.out.setCell (p := ⟨bg, cn, none⟩) hbgl (.int .i64 (tn : Int))); have X7 := Lib.hid ((st2.2.block bx (lt_of_block X6.out) (fun e => hbb (Option.some.inj e).symm)).trans X6.out); clear st2; have a3 : w7.cell? ⟨bx, 1, none⟩ = some (.int .i64 (tn : Int)) := (by rw [cell_of_row _ _ _ _ _ _ X7.out]; rfl); have hz7 : lg ≤ w7.heap.size := (by have := lt_of_block X7.out; omega); have QX := Lib.hid (Q7.out.alloc (.cells #[.int .i64 (tn : Int)] 3)); have TX := Lib.hid (T7.out.alloc (.cells #[.int .i64 (tn : Int)] 3)); have BBX := Lib.hid (BB7.out.alloc (.cells #[.int .i64 (tn : Int)] 3)); have BX7 := Lib.hid (B7.out.alloc hz7 (.cells #[.int .i64 (tn : Int)] 3)); have X8 := Lib.hid ((heap_alloc_old w7 (.cells #[.int .i64 (tn : Int)] 3) (lt_of_block X7.out)).trans X7.out); have htg7 := (T7.out.lt tg rfl).2; have hbg7 := (BB7.out.lt bg rfl).2)
                    | (at_builtin; go_loud (refine wpList_append_ints (w := w7.alloc (.cells #[.int .i64 (tn : Int)] 3)) rfl _ _ rfl lg _ q.length (omem q) rfl QX.out w7.heap.size 1 [(tn : Int)] #[.int .i64 (tn : Int)] rfl (heap_alloc_new w7 _) rfl (by simp; omega) (by simp; omega) ?_; intro v8 w8 hown8 hgrow8 hloc8; have Q9 := Lib.hid hown8; have T9 := Lib.hid (TX.out.kept hgrow8 (.inr (fun e => hqt.out e.symm))); have BB9 := Lib.hid (BBX.out.kept hgrow8 (.inr (fun e => hqb.out e.symm))); have B9 := Lib.hid (BX7.out.grown hgrow8 (by simp; omega) (fun j hj => (QX.out.lt j hj).1)); have NT9 : Hid (v8.ownBlock ≠ some tg) := (fun e => by rcases hloc8 with h | h; exact hqt.out (h ▸ e); rw [h] at e; have := Option.some.inj e; simp at this; omega); have NB9 : Hid (v8.ownBlock ≠ some bg) := (fun e => by rcases hloc8 with h | h; exact hqb.out (h ▸ e); rw [h] at e; have := Option.some.inj e; simp at this; omega); have X9 := Lib.hid ((hgrow8.block bx (lt_of_block X8.out) (fun e => by have e2 : u7.ownBlock = some bx := (by first | exact e | exact e.symm); have := HQBX.out bx e2; omega)).trans X8.out); have a9 : w8.cell? ⟨bx, 1, none⟩ = some (.int .i64 (tn : Int)) := (by rw [cell_of_row _ _ _ _ _ _ X9.out]; rfl); have g1 : w8.cell? ⟨tg, tn, none⟩ = some (.int .i64 (cn : Int)) := ((T9.out.cellAt tn (by omega)).trans (by rw [ivals_get (by rw [List.length_set, HTL.out]; exact htn), iv_set (by rw [HTL.out]; exact htn), if_pos rfl])); have g2 : w8.cell? ⟨bg, cn, none⟩ = some (.int .i64 (tn : Int)) := ((BB9.out.cellAt cn (by omega)).trans (by rw [ivals_get (by rw [List.length_set, HBLN.out]; exact hcn), iv_set (by rw [HBLN.out]; exact hcn), if_pos rfl])); clear hown8 hgrow8 hloc8)))
                  go_quiet (fail)
                  go_wp2
                  go_roundw
                  case rel => exact ⟨j + 1, q ++ [tn], _, _, by omega, by go_num, AN, FN, XI2, YN, DN, (by rw [List.length_append, ← omem_snoc]; exact owns_below Q9.out (below_drewN (Below.refl _ _) _)), NT9, NB9, owns_below T9.out (below_drewN (Below.refl _ _) _), owns_below BB9.out (below_drewN (Below.refl _ _) _), below_drewN B9.out _⟩
                  case measure => simp [intOf]; omega
                · have BADX := BADT.out (fun h => h2 h.2) (.inl (by omega))
                  have hd1 : (z1 != (cn : Int)) = true := by simp; omega
                  have HA : Hid (ans = false) := by
                    show _ = _
                    cases ans
                    · rfl
                    · exact absurd (HAB.out.1 rfl) BADX
                  clear BADX
                  go_wp2_with (go_at_call 40; (with_reducible refine (ARC.out _ BAA.out ff).mono ?_); rintro e w5 ⟨rfl, hb5⟩; rw [HOC.out, arcV_some]; have B5 := Lib.hid (BAA.out.trans (hb5.mono hlga)); have T5 := Lib.hid (owns_below TA.out hb5); have BB5 := Lib.hid (owns_below BBA.out hb5); have Q5 := Lib.hid (owns_below QA.out hb5); have X5 := Lib.hid ((hb5.block bx hbxa).trans hab); clear hb5; have a1 : w5.cell? ⟨bx, 1, none⟩ = some (.int .i64 (tn : Int)) := (by rw [cell_of_row _ _ _ _ _ _ X5.out]; rfl); have e1 : w5.cell? ⟨tg, tn, none⟩ = some (.int .i64 z1) := ((T5.out.cellAt tn (by omega)).trans (by rw [ivals_get (by rw [HTL.out]; exact htn), HZ1.out])); have e2 : w5.cell? ⟨bg, cn, none⟩ = some (.int .i64 z2) := ((BB5.out.cellAt cn (by omega)).trans (by rw [ivals_get (by rw [HBLN.out]; exact hcn), HZ2.out])))
                  go_quiet (fail)
                  go_wp2
                  (try simp only [Exit.inBlock, Exit.then])
                  refine bodyPost_ret (results_tmp rfl _ _ _) rfl ?_
                  exact ⟨by rw [HA.out]; rfl, HEND.out _ (below_drewN B5.out _)⟩
              · by_cases h3 : z1 = (cn : Int)
                · have h4 := HIT.out h3
                  have DN := Lib.hid (DONK.out h3)
                  subst h3
                  subst h4
                  have hd1 : ((cn : Int) != (cn : Int)) = false := by simp
                  have hd2 : ((tn : Int) != (tn : Int)) = false := by simp
                  clear hDN BADT ADD FARN TYN DONN DONK HIT HNX
                  go_wp2_with (go_at_call 40; (with_reducible refine (ARC.out _ BAA.out ff).mono ?_); rintro e w5 ⟨rfl, hb5⟩; rw [HOC.out, arcV_some]; have B5 := Lib.hid (BAA.out.trans (hb5.mono hlga)); have T5 := Lib.hid (owns_below TA.out hb5); have BB5 := Lib.hid (owns_below BBA.out hb5); have Q5 := Lib.hid (owns_below QA.out hb5); have X5 := Lib.hid ((hb5.block bx hbxa).trans hab); clear hb5; have a1 : w5.cell? ⟨bx, 1, none⟩ = some (.int .i64 (tn : Int)) := (by rw [cell_of_row _ _ _ _ _ _ X5.out]; rfl); have e1 : w5.cell? ⟨tg, tn, none⟩ = some (.int .i64 (cn : Int)) := ((T5.out.cellAt tn (by omega)).trans (by rw [ivals_get (by rw [HTL.out]; exact htn), HZ1.out])); have e2 : w5.cell? ⟨bg, cn, none⟩ = some (.int .i64 (tn : Int)) := ((BB5.out.cellAt cn (by omega)).trans (by rw [ivals_get (by rw [HBLN.out]; exact hcn), HZ2.out])))
                  go_quiet (fail)
                  go_wp2
                  go_roundw
                  case rel => exact ⟨j + 1, q, t, b, by omega, by go_num, hI, hD, HXI, HTY, DN, owns_below Q5.out (below_drewN (Below.refl _ _) _), hqt, hqb, owns_below T5.out (below_drewN (Below.refl _ _) _), owns_below BB5.out (below_drewN (Below.refl _ _) _), below_drewN B5.out _⟩
                  case measure => simp [intOf]; omega
                · have BADX := BADT.out (fun h => h1 h.1) (.inl h3)
                  have hd1 : (z1 != (cn : Int)) = true := by simpa using h3
                  have HA : Hid (ans = false) := by
                    show _ = _
                    cases ans
                    · rfl
                    · exact absurd (HAB.out.1 rfl) BADX
                  clear BADX
                  go_wp2_with (go_at_call 40; (with_reducible refine (ARC.out _ BAA.out ff).mono ?_); rintro e w5 ⟨rfl, hb5⟩; rw [HOC.out, arcV_some]; have B5 := Lib.hid (BAA.out.trans (hb5.mono hlga)); have T5 := Lib.hid (owns_below TA.out hb5); have BB5 := Lib.hid (owns_below BBA.out hb5); have Q5 := Lib.hid (owns_below QA.out hb5); have X5 := Lib.hid ((hb5.block bx hbxa).trans hab); clear hb5; have a1 : w5.cell? ⟨bx, 1, none⟩ = some (.int .i64 (tn : Int)) := (by rw [cell_of_row _ _ _ _ _ _ X5.out]; rfl); have e1 : w5.cell? ⟨tg, tn, none⟩ = some (.int .i64 z1) := ((T5.out.cellAt tn (by omega)).trans (by rw [ivals_get (by rw [HTL.out]; exact htn), HZ1.out])); have e2 : w5.cell? ⟨bg, cn, none⟩ = some (.int .i64 z2) := ((BB5.out.cellAt cn (by omega)).trans (by rw [ivals_get (by rw [HBLN.out]; exact hcn), HZ2.out])))
                  go_quiet (fail)
                  go_wp2
                  (try simp only [Exit.inBlock, Exit.then])
                  refine bodyPost_ret (results_tmp rfl _ _ _) rfl ?_
                  exact ⟨by rw [HA.out]; rfl, HEND.out _ (below_drewN B5.out _)⟩
          · obtain rfl : ll = j := by omega
            have FN : Hid (Far F G t q (i + 1)) := hD.out.next HXI.out (by rw [HLL.out]; exact hDN.out)
            have hil := (List.getElem?_eq_some_iff.1 HXI.out).1
            clear hD hDN
            go_wp2
            go_roundw
            case rel => exact ⟨i + 1, q, t, b, hil, by go_num, hI, FN, hQ, hqt, hqb, hT, hB', hB⟩
            case measure => simp [intOf]; omega
    · have hie : i = q.length := by omega
      subst hie
      have HA : Hid (ans = true) := HAB.out.2 (hI.out.good HF.out HG.out HR.out HS.out hD.out)
      go_wp2
      (try simp only [Exit.inBlock, Exit.then])
      refine bodyPost_ret (results_tmp rfl _ _ _) rfl ?_
      exact ⟨by rw [HA.out]; rfl, HEND.out _ hB.out⟩
end Go.Proofs.Ytlhiiecaphibhaa

/- graph: the walk of the law GraphCanon. -/
namespace Go.Proofs.Ytlhiiecaphibhaa
open Go.RowKit Go.Maps

set_option maxRecDepth 100000 in
set_option maxHeartbeats 12800000 in
theorem GraphCanon_law (w : World) (a a' : Option Addr) (n cap n' cap' : Nat) (F G : Gr) (h : IsG w a n cap F) (h' : IsG w a' n' cap' G) :
    Calls Try.prog 9 #[.agg #[.slice a n cap], .agg #[.slice a' n' cap']] w fun e w' => e = .returned (.bool true) ∧ Below w.heap.size w w' := by
  obtain ⟨W, hW⟩ : ∃ W, twoF w (.slice a n cap) (.slice a' n' cap') = W := ⟨_, rfl⟩
  obtain ⟨b1, hz, d1, d2⟩ := twoF_is w _ _ W hW
  have B := Lib.hid b1
  have H := Lib.hid (fun V (hV : Below W.heap.size W V) => (h.below b1).below hV)
  have H' := Lib.hid (fun V (hV : Below W.heap.size W V) => (h'.below b1).below hV)
  have KP : Hid (∀ V, Below W.heap.size W V → V.cell? ⟨w.heap.size, 0, none⟩ = some (.slice a n cap) ∧ V.cell? ⟨w.heap.size + 1, 0, none⟩ = some (.slice a' n' cap')) := fun V hV => ⟨(hV.cell (p := ⟨w.heap.size, 0, none⟩) (by show w.heap.size < _; omega)).trans d1, (hV.cell (p := ⟨w.heap.size + 1, 0, none⟩) (by show w.heap.size + 1 < _; omega)).trans d2⟩
  have hlF := h.len
  have hlG := h'.len
  clear h h' b1 hz
  cases g0 : lite F
  · have LV := Lib.hid (Light_val false W a n cap F (H.out W (Below.refl _ _)) g0)
    clear g0
    go_enter Try.func9, Try.ntmps9
    go_wp2_with (first
      | (go_at_call 17; (try rw [hW]); (with_reducible refine LV.out.mono ?_); rintro e w1 ⟨rfl, hb1⟩; have B1 := Lib.hid hb1; clear hb1)
      | (go_at_call 16; refine (ex_holds w1).mono ?_; rintro e w2 ⟨rfl, hb2⟩; have B2 := Lib.hid (B1.out.trans (hb2.mono B1.out.size)); clear hb2))
    go_ret
    exact ⟨rfl, B.out.trans (B2.out.mono B.out.size)⟩
  cases g1 : lite G
  · have LV := Lib.hid (Light_val true W a n cap F (H.out W (Below.refl _ _)) g0)
    have LV1 := Lib.hid (fun V (hV : Below W.heap.size W V) => Light_val false V a' n' cap' G (H'.out V hV) g1)
    clear g0 g1
    go_enter Try.func9, Try.ntmps9
    go_wp2_with (first
      | (go_at_call 17; (try rw [hW]); (with_reducible refine LV.out.mono ?_); rintro e w1 ⟨rfl, hb1⟩; have B1 := Lib.hid hb1; obtain ⟨x1, x2⟩ := KP.out w1 hb1; clear hb1)
      | (go_at_call 17; (with_reducible refine (LV1.out w1 B1.out).mono ?_); rintro e wb ⟨rfl, hb1⟩; have Bb := Lib.hid (B1.out.trans (hb1.mono B1.out.size)); clear hb1)
      | (go_at_call 16; refine (ex_holds wb).mono ?_; rintro e w2 ⟨rfl, hb2⟩; have B2 := Lib.hid (Bb.out.trans (hb2.mono Bb.out.size)); clear hb2))
    go_ret
    exact ⟨rfl, B.out.trans (B2.out.mono B.out.size)⟩
  have LV := Lib.hid (Light_val true W a n cap F (H.out W (Below.refl _ _)) g0)
  have LV1 := Lib.hid (fun V (hV : Below W.heap.size W V) => Light_val true V a' n' cap' G (H'.out V hV) g1)
  have HSF := lite_siz g0
  have HSG := lite_siz g1
  have CF := Lib.hid (fun V (hV : Below W.heap.size W V) => Canon_any V a n cap F (H.out V hV) (.inl HSF))
  have CG := Lib.hid (fun V (hV : Below W.heap.size W V) => Canon_any V a' n' cap' G (H'.out V hV) (.inl HSG))
  obtain ⟨x, hx⟩ : ∃ x, can F = x := ⟨_, rfl⟩
  obtain ⟨y, hy⟩ : ∃ y, can G = y := ⟨_, rfl⟩
  obtain ⟨e0, he0⟩ : ∃ z, frm F = z := ⟨_, rfl⟩
  obtain ⟨e1, he1⟩ : ∃ z, frm G = z := ⟨_, rfl⟩
  unfold CanonPost at CF CG
  rw [hx, he0] at CF
  rw [hy, he1] at CG
  clear g0 g1
  by_cases hbad : e0 ≠ 0 ∨ e1 ≠ 0
  · clear HSF HSG hx hy he0 he1
    by_cases h0 : e0 = 0
    · subst h0
      have h1 : ((e1 : Int) != 0) = true := by simp; omega
      clear hbad
      go_enter Try.func9, Try.ntmps9
      go_wp2_with (first
        | (go_at_call 17; (try rw [hW]); (with_reducible refine LV.out.mono ?_); rintro e w1 ⟨rfl, hb1⟩; have B1 := Lib.hid hb1; obtain ⟨x1, x2⟩ := KP.out w1 hb1; clear hb1)
        | (go_at_call 17; (with_reducible refine (LV1.out w1 B1.out).mono ?_); rintro e wb ⟨rfl, hb1⟩; have Bb := Lib.hid (B1.out.trans (hb1.mono B1.out.size)); obtain ⟨x3, x4⟩ := KP.out wb Bb.out; clear hb1)
        | (go_at_call 13; (with_reducible refine (CF.out wb Bb.out).mono ?_); rintro e w3 ⟨xa, xc, rfl, hI, hb3⟩; have B3 := Lib.hid (Bb.out.trans (hb3.mono Bb.out.size)); have BA := Lib.hid (B3.out.alloc B3.out.size (.cells #[.slice xa x.length xc] 25)); obtain ⟨x5, x6⟩ := KP.out _ BA.out; clear hb3 hI)
        | (go_at_call 13; (with_reducible refine (CG.out _ BA.out).mono ?_); rintro e w4 ⟨ya, yc, rfl, hI, hb3⟩; have B4 := Lib.hid (BA.out.trans (hb3.mono BA.out.size)); have BB := Lib.hid (B4.out.alloc B4.out.size (.cells #[.slice ya y.length yc] 25)); clear hb3 hI)
        | (go_at_call 16; refine (ex_holds _).mono ?_; rintro e w2 ⟨rfl, hb2⟩; have B2 := Lib.hid (BB.out.trans (hb2.mono BB.out.size)); clear hb2))
      go_ret
      exact ⟨rfl, B.out.trans (B2.out.mono B.out.size)⟩
    · have h1 : ((e0 : Int) != 0) = true := by simp; omega
      clear hbad
      go_enter Try.func9, Try.ntmps9
      go_wp2_with (first
        | (go_at_call 17; (try rw [hW]); (with_reducible refine LV.out.mono ?_); rintro e w1 ⟨rfl, hb1⟩; have B1 := Lib.hid hb1; obtain ⟨x1, x2⟩ := KP.out w1 hb1; clear hb1)
        | (go_at_call 17; (with_reducible refine (LV1.out w1 B1.out).mono ?_); rintro e wb ⟨rfl, hb1⟩; have Bb := Lib.hid (B1.out.trans (hb1.mono B1.out.size)); obtain ⟨x3, x4⟩ := KP.out wb Bb.out; clear hb1)
        | (go_at_call 13; (with_reducible refine (CF.out wb Bb.out).mono ?_); rintro e w3 ⟨xa, xc, rfl, hI, hb3⟩; have B3 := Lib.hid (Bb.out.trans (hb3.mono Bb.out.size)); have BA := Lib.hid (B3.out.alloc B3.out.size (.cells #[.slice xa x.length xc] 25)); obtain ⟨x5, x6⟩ := KP.out _ BA.out; clear hb3 hI)
        | (go_at_call 13; (with_reducible refine (CG.out _ BA.out).mono ?_); rintro e w4 ⟨ya, yc, rfl, hI, hb3⟩; have B4 := Lib.hid (BA.out.trans (hb3.mono BA.out.size)); have BB := Lib.hid (B4.out.alloc B4.out.size (.cells #[.slice ya y.length yc] 25)); clear hb3 hI)
        | (go_at_call 16; refine (ex_holds _).mono ?_; rintro e w2 ⟨rfl, hb2⟩; have B2 := Lib.hid (BB.out.trans (hb2.mono BB.out.size)); clear hb2))
      go_ret
      exact ⟨rfl, B.out.trans (B2.out.mono B.out.size)⟩
  · obtain rfl : e0 = 0 := Classical.byContradiction fun h => hbad (.inl h)
    obtain rfl : e1 = 0 := Classical.byContradiction fun h => hbad (.inr h)
    have okF := frm_ok.1 he0
    have okG := frm_ok.1 he1
    have ex : x = cf F 0 := by rw [← hx]; unfold can; rw [if_pos he0]
    have ey : y = cf G 0 := by rw [← hy]; unfold can; rw [if_pos he1]
    have okX : OkG x := ex ▸ cf_ok okF
    have okY : OkG y := ey ▸ cf_ok okG
    have HSX : Siz x := hx ▸ HSF.can
    have HSY : Siz y := hy ▸ HSG.can
    have cx : cf F 0 = cf x 0 := by rw [ex, cf_cf okF.fine okF.pos]
    have cy : cf G 0 = cf y 0 := by rw [ey, cf_cf okG.fine okG.pos]
    obtain ⟨b, hb⟩ : ∃ b : Bool, b = true ↔ cf F 0 = cf G 0 := by
      by_cases hA : cf F 0 = cf G 0
      · exact ⟨true, fun _ => hA, fun _ => rfl⟩
      · exact ⟨false, fun e => (by cases e), fun e => absurd e hA⟩
    have hbe : decide (cG x y = 0) = b := by
      have h1 : cG x y = 0 ↔ cf F 0 = cf G 0 := by rw [cG_iff, ex, ey]
      by_cases hA : cf F 0 = cf G 0
      · rw [hb.2 hA]; simpa using h1.2 hA
      · have : b = false := by
          cases b
          · rfl
          · exact absurd (hb.1 rfl) hA
        rw [this]; simpa using fun h => hA (h1.1 h)
    have AL := Lib.hid (fun V (hV : Below W.heap.size W V) => alike_any b V a a' n cap n' cap' F G (H.out V hV) (H'.out V hV) okF.fine okG.fine HSF HSG (by rw [← hlF]; exact okF.pos) (by rw [← hlG]; exact okG.pos) hb)
    have AX := Lib.hid (fun V aa cc (hV : Below W.heap.size W V) (hx : IsG V aa x.length cc x) => alike_any true V a aa n cap x.length cc F x (H.out V hV) hx okF.fine okX.fine HSF HSX (by rw [← hlF]; exact okF.pos) okX.pos ⟨fun _ => cx, fun _ => rfl⟩)
    have AY := Lib.hid (fun V aa cc (hV : Below W.heap.size W V) (hy : IsG V aa y.length cc y) => alike_any true V a' aa n' cap' y.length cc G y (H'.out V hV) hy okG.fine okY.fine HSG HSY (by rw [← hlG]; exact okG.pos) okY.pos ⟨fun _ => cy, fun _ => rfl⟩)
    have EQ := Lib.hid (fun V aa cc a2 c2 (h1 : IsG V aa x.length cc x) (h2 : IsG V a2 y.length c2 y) => Equal_val b V aa a2 x.length cc y.length c2 x y h1 h2 (by first | exact hbe | (rw [← hbe]; rfl) | (rw [← hbe]; simp)))
    clear hbad HSF HSG hx hy he0 he1 okF okG ex ey okX okY HSX HSY cx cy hb hbe
    cases b
    all_goals
      go_enter Try.func9, Try.ntmps9
      go_wp2_with (first
        | (go_at_call 17; (try rw [hW]); (with_reducible refine LV.out.mono ?_); rintro e w1 ⟨rfl, hb1⟩; have B1 := Lib.hid hb1; obtain ⟨x1, x2⟩ := KP.out w1 hb1; clear hb1)
        | (go_at_call 17; (with_reducible refine (LV1.out w1 B1.out).mono ?_); rintro e wb ⟨rfl, hb1⟩; have Bb := Lib.hid (B1.out.trans (hb1.mono B1.out.size)); obtain ⟨x3, x4⟩ := KP.out wb Bb.out; clear hb1)
        | (go_at_call 13; (with_reducible refine (CF.out wb Bb.out).mono ?_); rintro e w3 ⟨xa, xc, rfl, hI, hb3⟩; have B3 := Lib.hid (Bb.out.trans (hb3.mono Bb.out.size)); have BA := Lib.hid (B3.out.alloc B3.out.size (.cells #[.slice xa x.length xc] 25)); obtain ⟨x5, x6⟩ := KP.out _ BA.out; have IX := Lib.hid (hI.below (ba w3 (.cells #[.slice xa x.length xc] 25))); have QX := Lib.hid (box_cell w3 (.slice xa x.length xc) 25); have hw3 : w3.heap.size < (w3.alloc (.cells #[.slice xa x.length xc] 25)).heap.size := (by simp); clear hb3 hI)
        | (go_at_call 13; (with_reducible refine (CG.out _ BA.out).mono ?_); rintro e w4 ⟨ya, yc, rfl, hI, hb3⟩; have B4 := Lib.hid (BA.out.trans (hb3.mono BA.out.size)); have BB := Lib.hid (B4.out.alloc B4.out.size (.cells #[.slice ya y.length yc] 25)); have IY := Lib.hid (hI.below (ba w4 (.cells #[.slice ya y.length yc] 25))); have IX2 := Lib.hid ((IX.out.below hb3).below (ba w4 (.cells #[.slice ya y.length yc] 25))); have QY := Lib.hid (box_cell w4 (.slice ya y.length yc) 25); have hw4 : w4.heap.size < (w4.alloc (.cells #[.slice ya y.length yc] 25)).heap.size := (by simp); have hw34 : w3.heap.size < w4.heap.size := (Nat.lt_of_lt_of_le hw3 hb3.size); have QX2 := Lib.hid ((World.cell?_alloc_lt _ (.cells #[.slice ya y.length yc] 25) _ hw34).trans ((hb3.cell (p := ⟨w3.heap.size, 0, none⟩) hw3).trans QX.out)); clear hb3 hI))
      obtain ⟨w5, hw5⟩ : ∃ w5, w4.alloc (.cells #[.slice ya y.length yc] 25) = w5 := ⟨_, rfl⟩
      have B5 : Hid (Below W.heap.size W w5) := by rw [← hw5]; exact BB
      have IX5 : Hid (IsG w5 xa x.length xc x) := by rw [← hw5]; exact IX2
      have IY5 : Hid (IsG w5 ya y.length yc y) := by rw [← hw5]; exact IY
      have QX5 : w5.cell? ⟨w3.heap.size, 0, none⟩ = some (.slice xa x.length xc) := by rw [← hw5]; exact QX2.out
      have QY5 : w5.cell? ⟨w4.heap.size, 0, none⟩ = some (.slice ya y.length yc) := by rw [← hw5]; exact QY.out
      have hz5 : w4.heap.size < w5.heap.size := by rw [← hw5]; exact hw4
      have KQ : Hid (∀ V, Below w5.heap.size w5 V → V.cell? ⟨w.heap.size, 0, none⟩ = some (.slice a n cap) ∧ V.cell? ⟨w.heap.size + 1, 0, none⟩ = some (.slice a' n' cap') ∧ V.cell? ⟨w3.heap.size, 0, none⟩ = some (.slice xa x.length xc) ∧ V.cell? ⟨w4.heap.size, 0, none⟩ = some (.slice ya y.length yc)) := fun V hV => by
        obtain ⟨p1, p2⟩ := KP.out V (B5.out.trans (hV.mono B5.out.size))
        exact ⟨p1, p2, (hV.cell (p := ⟨w3.heap.size, 0, none⟩) (by show w3.heap.size < _; omega)).trans QX5, (hV.cell (p := ⟨w4.heap.size, 0, none⟩) (by show w4.heap.size < _; omega)).trans QY5⟩
      have KG : Hid (∀ V, Below w5.heap.size w5 V → Below W.heap.size W V ∧ IsG V xa x.length xc x ∧ IsG V ya y.length yc y) := fun V hV => ⟨B5.out.trans (hV.mono B5.out.size), IX5.out.below hV, IY5.out.below hV⟩
      have q5 := KQ.out w5 (Below.refl _ _)
      have BD := Lib.hid (Below.refl w5.heap.size w5).drew
      (try rw [hw5])
      clear hw5 hw4 hw3 hw34 QX5 QY5 QX QX2 QY IX IX2 IY IX5 IY5 B1 B3 B4 Bb BA BB x1 x2 x3 x4 x5 x6 d1 d2
      go_region_held3 (fun w' => w'.cell? ⟨w.heap.size, 0, none⟩ = some (.slice a n cap) ∧ w'.cell? ⟨w.heap.size + 1, 0, none⟩ = some (.slice a' n' cap') ∧ w'.cell? ⟨w3.heap.size, 0, none⟩ = some (.slice xa x.length xc) ∧ w'.cell? ⟨w4.heap.size, 0, none⟩ = some (.slice ya y.length yc)) (first | exact q5 | exact KQ.out _ BD.out | exact KQ.out _ Bp.out | exact KQ.out _ Bq.out | exact KQ.out _ Br.out | exact KQ.out _ Bs.out | exact KQ.out _ Bt.out) ((first
        | (go_at_call 26; (with_reducible refine (EQ.out _ _ _ _ _ (KG.out _ BD.out).2.1 (KG.out _ BD.out).2.2).mono ?_); rintro e wp ⟨rfl, hb⟩; have Bp := Lib.hid (BD.out.trans (hb.mono BD.out.size)); clear hb)
        | (go_at_call 28; (with_reducible refine (AL.out wp (KG.out _ Bp.out).1).mono ?_); rintro e wq ⟨rfl, hb⟩; have Bq := Lib.hid (Bp.out.trans (hb.mono Bp.out.size)); clear hb)
        | (go_at_call 28; (with_reducible refine (AX.out wq _ _ (KG.out _ Bq.out).1 (KG.out _ Bq.out).2.1).mono ?_); rintro e wr ⟨rfl, hb⟩; have Br := Lib.hid (Bq.out.trans (hb.mono Bq.out.size)); clear hb)
        | (go_at_call 28; (with_reducible refine (AY.out wr _ _ (KG.out _ Br.out).1 (KG.out _ Br.out).2.2).mono ?_); rintro e ws ⟨rfl, hb⟩; have Bs := Lib.hid (Br.out.trans (hb.mono Br.out.size)); clear hb)
        | (go_at_call 16; (with_reducible refine (ex_holds ws).mono ?_); rintro e wt ⟨rfl, hb⟩; have Bt := Lib.hid (Bs.out.trans (hb.mono Bs.out.size)); clear hb)))
      go_wp2
      go_ret
      exact ⟨rfl, B.out.trans ((KG.out _ Bt.out).1.mono B.out.size)⟩
end Go.Proofs.Ytlhiiecaphibhaa
