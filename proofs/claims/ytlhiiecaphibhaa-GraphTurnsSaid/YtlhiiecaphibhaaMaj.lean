/- Texts joined by wip/gen/merge.py: Jf Jg. -/
import Derived.BigQuiet
import Derived.Test.YtlhiiecaphibhaaMai
set_option linter.unusedVariables false
set_option linter.unusedSimpArgs false
/- graph, plain: the nodes of a canonical form are led to from earlier ones; forms of nodes of a graph without cycles. -/
namespace Go.Proofs.Ytlhiiecaphibhaa
open Go.RowKit Go.Maps

/-- Each node but the first is led to from an earlier one. -/
def LedG (X : Gr) : Prop := ∀ k, 0 < k → k < X.length → ∃ i, i < k ∧ k ∈ tg X i
theorem cf_led {F : Gr} (hf : Fine F) {root : Nat} (hr : root < F.length) : LedG (cf F root) := by
  obtain ⟨r, hd⟩ := dfs_root hf hr
  obtain ⟨hn, _⟩ := dfs_good hf hr hd
  rw [cf_eq hd]
  intro k h0 hk
  rw [outG_len] at hk
  have hl : Dfs.Led (tos F) r := hd.led (fun j y h => by simp at h) (fun _ _ => .inl rfl) (fun _ => by simp)
  obtain ⟨j, rfl⟩ : ∃ j, k = j + 1 := ⟨k - 1, by omega⟩
  obtain ⟨i, x, hi, hx, hy⟩ := hl j r[j + 1] (List.getElem?_eq_getElem hk)
  refine ⟨i, by omega, ?_⟩
  obtain ⟨hil, e⟩ := List.getElem?_eq_some_iff.1 hx
  unfold tg
  rw [outG_nd F r hil, e]
  unfold tos at hy
  obtain ⟨a, ha, e2⟩ := List.mem_map.1 hy
  refine List.mem_map.2 ⟨relA r a, List.mem_map_of_mem ha, ?_⟩
  show (((r.idxOf a.2.toNat : Nat) : Int)).toNat = j + 1
  rw [Int.toNat_natCast, e2]
  exact List.Nodup.idxOf_getElem hn (j + 1) hk
/-- The features of each node ascend. -/
def AscG (X : Gr) : Prop := ∀ i, i < X.length → ∀ j, j + 1 < (nd X i).2.length → (ar (nd X i).2 j).1 < (ar (nd X i).2 (j + 1)).1
theorem cf_asc {F : Gr} (hf : Fine F) {root : Nat} (hr : root < F.length) : AscG (cf F root) := by
  have hfi := cf_fine hf hr
  intro i hi j hj
  have hd := fine_dif hfi hi
  have ha : Asc (nd (cf F root) i).2 := by
    obtain ⟨r, hd⟩ := dfs_root hf hr
    rw [cf_eq hd] at hi ⊢
    rw [outG_len] at hi
    rw [outG_nd F r hi]
    exact out_asc F r _
  have hj0 : j < (nd (cf F root) i).2.length := by omega
  have e0 := ar_get hj0
  have e1 := ar_get hj
  rw [List.getElem?_eq_getElem hj0] at e0
  rw [List.getElem?_eq_getElem hj] at e1
  rw [← Option.some.inj e0, ← Option.some.inj e1]
  have h1 := List.pairwise_iff_getElem.1 ha j (j + 1) hj0 hj (by omega)
  have h2 := List.pairwise_iff_getElem.1 hd j (j + 1) (by rw [List.length_map]; exact hj0) (by rw [List.length_map]; exact hj) (by omega)
  rw [List.getElem_map, List.getElem_map] at h2
  omega
theorem tos_tg {F : Gr} {x y : Nat} : y ∈ tos F x ↔ y ∈ tg F x := by
  unfold tos tg
  exact ((srt_perm (nd F x).2).map _).mem_iff
theorem Acyc.cfEq {X : Gr} (h : Acyc X) (hf : Fine X) {root : Nat} (hr : root < X.length) : Acyc (cf X root) := by
  obtain ⟨rk, hk⟩ := h
  obtain ⟨r, hd⟩ := dfs_root hf hr
  obtain ⟨hn, hlt⟩ := dfs_good hf hr hd
  rw [cf_eq hd]
  refine ⟨fun i => rk (r.getD i 0), fun x hx y hy => ?_⟩
  rw [outG_len] at hx
  have gx : r.getD x 0 = r[x] := by rw [List.getD_eq_getElem?_getD, List.getElem?_eq_getElem hx]; rfl
  have hxr : r[x] ∈ r := List.getElem_mem hx
  unfold tg at hy
  rw [outG_nd X r hx] at hy
  obtain ⟨a, ha, rfl⟩ := List.mem_map.1 hy
  obtain ⟨b, hb, rfl⟩ := out_arc ha
  have hb2 := dfs_closed hd _ hxr _ (tos_mem hb)
  have hp := List.idxOf_lt_length_of_mem hb2
  have gy : r.getD (r.idxOf b.2.toNat) 0 = b.2.toNat := by rw [List.getD_eq_getElem?_getD, List.getElem?_eq_getElem hp, List.getElem_idxOf hp]; rfl
  show rk (r.getD ((((r.idxOf b.2.toNat : Nat) : Int)).toNat) 0) < rk (r.getD x 0)
  rw [Int.toNat_natCast, gy, gx]
  exact hk _ (hlt _ hxr) _ (List.mem_map_of_mem hb)
theorem cf_less {X : Gr} (h : Acyc X) (hf : Fine X) (hl : LedG X) {n : Nat} (h0 : 0 < n) (hn : n < X.length) : (cf X n).length < X.length := by
  obtain ⟨rk, hk⟩ := h
  have top : ∀ m k, k ≤ m → 0 < k → k < X.length → rk k < rk 0 := by
    intro m
    induction m with
    | zero => intro k h1 h2; omega
    | succ m ih =>
      intro k h1 h2 h3
      obtain ⟨i, hi, hy⟩ := hl k h2 h3
      have g := hk i (by omega) k hy
      rcases Nat.eq_zero_or_pos i with e | e
      · subst e; exact g
      · have := ih i (by omega) e (by omega)
        omega
  obtain ⟨r, hd⟩ := dfs_root hf hn
  obtain ⟨hnd, hlt⟩ := dfs_good hf hn hd
  have hle : ∀ x ∈ r, x < X.length ∧ rk x ≤ rk n := hd.least (fun x => x < X.length ∧ rk x ≤ rk n) (fun x hx y hy => ⟨tos_lt hf hx.1 y hy, by have := hk x hx.1 y (tos_tg.1 hy); omega⟩) (fun x hx => by cases hx) (fun x hx => by simp at hx; subst hx; exact ⟨hn, Nat.le_refl _⟩)
  have hno : 0 ∉ r := fun hm => by
    have := (hle 0 hm).2
    have := top n n (Nat.le_refl _) h0 hn
    omega
  have := nodup_lt (n := X.length) (List.nodup_cons.2 ⟨hno, hnd⟩) (fun x hx => by
    rcases List.mem_cons.1 hx with rfl | hx
    · omega
    · exact hlt x hx)
  rw [cf_eq hd, outG_len]
  simp at this
  omega
end Go.Proofs.Ytlhiiecaphibhaa

/- graph: the walk of the law GraphParents. Written by wip/gen/gparents.py. -/
namespace Go.Proofs.Ytlhiiecaphibhaa
open Go.RowKit Go.Maps

/-- The targets of the arcs of k nodes, and of j arcs of the next one, are marked. -/
structure Mk (X : Gr) (g : List Bool) (k j : Nat) : Prop where
  len : g.length = X.length
  old : ∀ i, i < k → ∀ y ∈ tg X i, bv g y = true
  new : ∀ y ∈ (tg X k).take j, bv g y = true
theorem Mk.next {X : Gr} {g : List Bool} {k j y : Nat} (h : Mk X g k j) (hy : (tg X k)[j]? = some y) (hl : y < X.length) : Mk X (g.set y true) k (j + 1) := by
  have hs : ∀ z, bv g z = true → bv (g.set y true) z = true := fun z hz => by
    rw [bv_set (by rw [h.len]; exact hl)]
    split
    · rfl
    · exact hz
  refine ⟨by rw [List.length_set]; exact h.len, fun i hi z hz => hs z (h.old i hi z hz), fun z hz => ?_⟩
  rw [List.take_add_one, hy] at hz
  rcases List.mem_append.1 hz with hz | hz
  · exact hs z (h.new z hz)
  · simp at hz; subst hz
    rw [bv_set (by rw [h.len]; exact hl), if_pos rfl]
theorem Mk.done {X : Gr} {g : List Bool} {k : Nat} (h : Mk X g k (tg X k).length) : Mk X g (k + 1) 0 :=
  ⟨h.len, fun i hi y hy => by
    rcases Nat.lt_succ_iff_lt_or_eq.1 hi with e | e
    · exact h.old i e y hy
    · subst e; exact h.new y (by rw [List.take_length]; exact hy), fun y hy => by simp at hy⟩
theorem mk_zero (X : Gr) : Mk X (List.replicate X.length false) 0 0 := ⟨by simp, fun i hi => absurd hi (Nat.not_lt_zero _), fun y hy => by simp at hy⟩
theorem Mk.at {X : Gr} {g : List Bool} {k : Nat} (h : Mk X g k 0) (hl : LedG X) (h0 : 0 < k) (hk : k < X.length) : bv g k = true := by
  obtain ⟨i, hi, hy⟩ := hl k h0 hk
  exact h.old i hi k hy

set_option maxRecDepth 100000 in
set_option maxHeartbeats 25600000 in
theorem GraphParents_law (w : World) (a : Option Addr) (n cap : Nat) (F : Gr) (h : IsG w a n cap F) :
    Calls Try.prog 10 #[.agg #[.slice a n cap]] w fun e w' => e = .returned (.bool true) ∧ Below w.heap.size w w' := by
  obtain ⟨W, hW⟩ : ∃ W, w.alloc (.cells #[.slice a n cap] 25) = W := ⟨_, rfl⟩
  have B := Lib.hid (show Below w.heap.size w W from hW ▸ ba w _)
  have hwz : w.heap.size < W.heap.size := by rw [← hW]; simp
  have hbox : W.cell? ⟨w.heap.size, 0, none⟩ = some (.slice a n cap) := hW ▸ box_cell w _ _
  have KP : Hid (∀ V, Below W.heap.size W V → V.cell? ⟨w.heap.size, 0, none⟩ = some (.slice a n cap)) := fun V hV => (hV.cell (p := ⟨w.heap.size, 0, none⟩) hwz).trans hbox
  have H := Lib.hid (fun V (hV : Below W.heap.size W V) => (h.below B.out).below hV)
  clear h
  cases g0 : lite F
  · have LV := Lib.hid (Light_val false W a n cap F (H.out W (Below.refl _ _)) g0)
    clear g0
    go_enter Try.func10, Try.ntmps10
    go_wp2_with (first
      | (go_at_call 17; (try rw [hW]); (with_reducible refine LV.out.mono ?_); rintro e w1 ⟨rfl, hb1⟩; have B1 := Lib.hid hb1; clear hb1)
      | (go_at_call 16; refine (ex_holds w1).mono ?_; rintro e w2 ⟨rfl, hb2⟩; have B2 := Lib.hid (B1.out.trans (hb2.mono B1.out.size)); clear hb2))
    go_ret
    exact ⟨rfl, B.out.trans (B2.out.mono B.out.size)⟩
  have LV := Lib.hid (Light_val true W a n cap F (H.out W (Below.refl _ _)) g0)
  have HSF := lite_siz g0
  have CF := Lib.hid (fun V (hV : Below W.heap.size W V) => Canon_any V a n cap F (H.out V hV) (.inl HSF))
  obtain ⟨x, hx⟩ : ∃ x, can F = x := ⟨_, rfl⟩
  obtain ⟨e0, he0⟩ : ∃ z, frm F = z := ⟨_, rfl⟩
  unfold CanonPost at CF
  rw [hx, he0] at CF
  clear g0
  by_cases h0 : e0 ≠ 0
  · have h1 : ((e0 : Int) != 0) = true := by simp; omega
    clear h0 he0 hx HSF
    go_enter Try.func10, Try.ntmps10
    go_wp2_with (first
      | (go_at_call 17; (try rw [hW]); (with_reducible refine LV.out.mono ?_); rintro e w1 ⟨rfl, hb1⟩; have B1 := Lib.hid hb1; have x1 := KP.out w1 hb1; clear hb1)
      | (go_at_call 13; (with_reducible refine (CF.out w1 B1.out).mono ?_); rintro e w3 ⟨xa, xc, rfl, hI, hb3⟩; have B3 := Lib.hid (B1.out.trans (hb3.mono B1.out.size)); have BA := Lib.hid (B3.out.alloc B3.out.size (.cells #[.slice xa x.length xc] 25)); clear hb3 hI)
      | (go_at_call 16; refine (ex_holds _).mono ?_; rintro e w2 ⟨rfl, hb2⟩; have B2 := Lib.hid (BA.out.trans (hb2.mono BA.out.size)); clear hb2))
    go_ret
    exact ⟨rfl, B.out.trans (B2.out.mono B.out.size)⟩
  obtain rfl : e0 = 0 := Classical.byContradiction fun h => h0 h
  have okF := frm_ok.1 he0
  have ex : x = cf F 0 := by rw [← hx]; unfold can; rw [if_pos he0]
  have okX : OkG x := ex ▸ cf_ok okF
  have HSX := Lib.hid (hx ▸ HSF.can : Siz x)
  have HFX := Lib.hid okX.fine
  have HLED : Hid (LedG x) := by show LedG x; rw [ex]; exact cf_led okF.fine okF.pos
  have HASC : Hid (AscG x) := by show AscG x; rw [ex]; exact cf_asc okF.fine okF.pos
  have HCF : Hid (cf x 0 = x) := by show _ = _; rw [ex, cf_cf okF.fine okF.pos]
  obtain ⟨m, hm⟩ : ∃ m, x.length = m := ⟨_, rfl⟩
  have HM := Lib.hid hm
  have hm0 : 0 < m := hm ▸ okX.pos
  have hm1 : m ≤ 4096 := hm ▸ okX.le
  obtain ⟨cyc, hcyc⟩ : ∃ b : Bool, (b = true ↔ ¬ Acyc x) := by
    by_cases hA : Acyc x
    · exact ⟨false, fun e => (by cases e), fun e => absurd hA e⟩
    · exact ⟨true, fun _ => hA, fun _ => rfl⟩
  have HCY := Lib.hid hcyc
  obtain ⟨i0, hi, hz0, hz1, hz2⟩ := info_parts Try.infoBo
  have HI := Lib.hid (And.intro hi (And.intro hz0 (And.intro hz1 hz2)))
  rw [hm] at CF
  clear h0 he0 hx HSF okF ex okX hcyc hi hz0 hz1 hz2 hm
  go_enter Try.func10, Try.ntmps10
  go_wp2_with (first
    | (go_at_call 17; (try rw [hW]); (with_reducible refine LV.out.mono ?_); rintro e w1 ⟨rfl, hb1⟩; have B1 := Lib.hid hb1; have x1 := KP.out w1 hb1; clear hb1)
    | (go_at_call 13; (with_reducible refine (CF.out w1 B1.out).mono ?_); rintro e w3 ⟨xa, xc, rfl, hI, hb3⟩; have B3 := Lib.hid (B1.out.trans (hb3.mono B1.out.size)); have BA := Lib.hid (B3.out.alloc B3.out.size (.cells #[.slice xa m xc] 25)); have IX := Lib.hid (hI.below (ba w3 (.cells #[.slice xa m xc] 25))); have QX := Lib.hid (box_cell w3 (.slice xa m xc) 25); have hxc := hI.capLe; have hxm := hI.maxLe; obtain ⟨w5, hw5⟩ : ∃ w5, w3.alloc (.cells #[.slice xa m xc] 25) = w5 := ⟨_, rfl⟩; have qx : w5.cell? ⟨w3.heap.size, 0, none⟩ = some (.slice xa m xc) := (by rw [← hw5]; exact QX.out); have hz5 : w5.heap.size = w3.heap.size + 1 := (by rw [← hw5]; simp); have hw35 : w3.heap.size < w5.heap.size := (by omega); clear hb3 hI)
    | (at_make; (try rw [hw5]); refine wpList_make_full _ rfl _ _ _ rfl w5.heap.size 4 i0 (.bool false) 1 Try.underlying40 HI.out.1 HI.out.2.1 HI.out.2.2.1 _ _ _ _ m rfl rfl rfl rfl (by rw [HI.out.2.2.2]; omega) (by unfold maxLen; omega) (Nat.le_refl _) ?_; intro w6 hown hgrow; rw [madeB] at hown; have BW := Lib.hid ((Below.refl _ w5).grown hgrow (Nat.le_refl _) (fun _ e => by cases e)); have O1 := Lib.hid hown; have q6 := (BW.out.cell (p := ⟨w3.heap.size, 0, none⟩) hw35).trans qx; clear hown hgrow))
  obtain ⟨lg, hlg0⟩ : ∃ lg, w3.heap.size + 1 = lg := ⟨_, rfl⟩
  have hlg : w5.heap.size = lg := by omega
  rw [hlg] at O1 BW
  rw [hlg] at hw35
  rw [hlg0]
  have IX5 : Hid (∀ V, Below lg w5 V → IsG V xa m xc x) := fun V hV => (hw5 ▸ IX.out : IsG w5 xa m xc x).below (hlg ▸ hV)
  have KX : Hid (∀ V, Below lg w5 V → V.cell? ⟨w3.heap.size, 0, none⟩ = some (.slice xa m xc)) := fun V hV => (hV.cell (p := ⟨w3.heap.size, 0, none⟩) hw35).trans qx
  have HLG := Lib.hid hlg
  have HEND : Hid (∀ V, Below lg w5 V → Below w.heap.size w V) := fun V hV => B.out.trans ((hw5 ▸ BA.out : Below W.heap.size W w5).mono B.out.size |>.trans ((HLG.out ▸ hV : Below w5.heap.size w5 V).mono (Nat.le_trans B.out.size (hw5 ▸ BA.out : Below W.heap.size W w5).size)))
  have MK0 : Hid (Mk x (List.replicate m false) 0 0) := by show Mk _ _ _ _; rw [← HM.out]; exact mk_zero x
  have hbl : ∀ i, i < m → ∃ b off ya yc, xa = some ⟨b, off, none⟩ ∧ ∀ V, Below lg w5 V → NdAt V b (off + i * 2) (nd x i) ya yc := fun i hi => by
    obtain ⟨b, off, e, hb, hx⟩ := (IX5.out w5 (Below.refl _ _)).at_ (by omega)
    obtain ⟨ya, yc, hd⟩ := hx i hi
    exact ⟨b, off, ya, yc, e, fun V hV => hd.below hb (HLG.out ▸ hV)⟩
  have HBL := Lib.hid hbl
  unfold maxLen at hxm
  clear hz5 hlg0 hlg IX QX BA B1 B3 hw5 hbox LV CF hbl qx x1 hW
  go_loopw [30] (fun kv wr => ∃ (k : Nat) (g : List Bool), k ≤ m ∧ kv = .int .i64 k ∧ Hid (Mk x g k 0) ∧ Hid (wr.ownsRow lg 4 1 (.slice (some ⟨lg, 0, none⟩) m m) m (bvals g)) ∧ Hid (Below lg w5 wr)) (fun kv _ => m - (intOf kv).toNat)
  case atStart => exact ⟨0, _, Nat.zero_le _, rfl, MK0, O1, BW⟩
  case round =>
    clear MK0 O1 BW q6
    obtain ⟨k, g, hk, rfl, hM, hO, hB⟩ := hrel
    have hlgw := (hO.out.lt lg rfl).2
    have b1 := KX.out wr hB.out
    by_cases hlt : k < m
    · obtain ⟨ab, ao, ya, yc, rfl, hnd⟩ := HBL.out k hlt
      have c1 := (hnd wr hB.out).c1
      have hs1 := (hnd wr hB.out).is.capLe
      have hs2 := (hnd wr hB.out).is.maxLe
      unfold maxLen at hs2
      have hkx : k < x.length := by rw [HM.out]; exact hlt
      have HND := Lib.hid hnd
      have HTP := Lib.hid (fun z hz => (HFX.out _ (nd_mem hkx)).1 z hz)
      have hll0 := HSX.out.arcs _ (nd_mem hkx)
      have HAS := Lib.hid (HASC.out k hkx)
      have HDN := Lib.hid (fun g (h : Mk x g k (tg x k).length) => h.done)
      have HTG : Hid (tg x k = (nd x k).2.map fun a => a.2.toNat) := rfl
      have HAT := Lib.hid (fun h0 => hM.out.at HLED.out h0 hkx)
      have e1 : wr.cell? ⟨lg, k, none⟩ = some (.bool (bv g k)) := (hO.out.cellAt k (by omega)).trans (bvals_get (by rw [hM.out.len]; exact hkx))
      obtain ⟨p, hp⟩ : ∃ p, (nd x k).2 = p := ⟨_, rfl⟩
      rw [hp] at c1 hs1 HTP hll0 HAS HTG
      obtain ⟨ll, hll⟩ : ∃ l, p.length = l := ⟨_, rfl⟩
      have HLL := Lib.hid hll
      have HTLEN : Hid ((tg x k).length = ll) := by show _ = _; rw [HTG.out, List.length_map, hll]
      have AR : Hid (∀ V, Below lg w5 V → IsArcs V ya ll yc p) := fun V hV => by have := (HND.out V hV).is; rwa [hp, hll] at this
      have CN : Hid (∀ V, Below lg w5 V → V.cell? ⟨ab, ao + k * 2 + 1, none⟩ = some (.slice ya ll yc)) := fun V hV => by have := (HND.out V hV).c1; rwa [hp, hll] at this
      rw [hll] at c1 hs1 hll0
      have hk0 : (0 : Int) ≤ (k : Int) := by omega
      have hk1 : (k : Int) < (m : Int) := by omega
      clear hnd hkx hp hll
      rcases Nat.eq_zero_or_pos k with hkz | hkp
      · have hd0 : ¬ (0 : Int) < (k : Int) := by omega
        have hd1 : decide ((0 : Int) < (k : Int)) = false := by simpa using hkz
        have hd2 : decide ((k : Int) > 0) = false := by simpa using hkz
        clear e1 hkz
        go_wp2
        clear b1 c1 hd0 hd1 hd2
        go_loopw [49] (fun jv wr => ∃ (j : Nat) (g : List Bool), j ≤ ll ∧ jv = .int .i64 j ∧ Hid (Mk x g k j) ∧ Hid (wr.ownsRow lg 4 1 (.slice (some ⟨lg, 0, none⟩) m m) m (bvals g)) ∧ Hid (Below lg w5 wr)) (fun jv _ => ll - (intOf jv).toNat)
        case atStart => exact ⟨0, g, Nat.zero_le _, rfl, hM, hO, hB⟩
        case round =>
          clear hM hO hB hlgw HAT
          obtain ⟨j, g, hj, rfl, hM, hO, hB⟩ := hrel
          have hlgw := (hO.out.lt lg rfl).2
          by_cases hjl : j < ll
          · obtain ⟨pb, po, rfl, _, hax⟩ := (AR.out wr hB.out).at_ (by omega)
            obtain ⟨d0, d1⟩ := hax j hjl
            have hjL : j < p.length := by rw [HLL.out]; exact hjl
            have hto := HTP.out (ar p j) (ar_mem hjL)
            rw [HM.out] at hto
            have htj : (tg x k)[j]? = some (ar p j).2.toNat := by rw [HTG.out, List.getElem?_map, ar_get hjL]; rfl
            have hprev : ∀ i, i + 1 = j → (ar p i).1 < (ar p j).1 ∧ wr.cell? ⟨pb, po + i * 2, none⟩ = some (.int .i64 (ar p i).1) := fun i hi => by
              subst hi
              exact ⟨HAS.out i (by rw [HLL.out]; exact hjl), (hax i (by omega)).1⟩
            obtain ⟨f, hf⟩ : ∃ f, ar p j = f := ⟨_, rfl⟩
            rw [hf] at d0 d1 hto htj hprev
            obtain ⟨ff, tt⟩ := f
            obtain ⟨tn, rfl⟩ : ∃ tn : Nat, tt = (tn : Int) := ⟨tt.toNat, (Int.toNat_of_nonneg hto.1).symm⟩
            dsimp only at d0 d1 hto htj hprev
            rw [Int.toNat_natCast] at htj
            have htn : tn < m := by omega
            have hj0 : (0 : Int) ≤ (j : Int) := by omega
            have hj1 : (j : Int) < (ll : Int) := by omega
            have htn0 : (0 : Int) ≤ (tn : Int) := by omega
            have htn1 : (tn : Int) < (m : Int) := by omega
            have htn2 : ¬ (tn : Int) < 0 := by omega
            have hdt : decide ((tn : Int) < 0) = false := by simp
            have hdt2 : decide ((m : Int) ≤ (tn : Int)) = false := by simp; omega
            have hdt3 : decide ((tn : Int) ≥ (m : Int)) = false := by simp; omega
            have hdt4 : decide (m ≤ tn) = false := by simp; omega
            have MN := Lib.hid (hM.out.next htj (by rw [HM.out]; exact htn))
            have OA := Lib.hid (hO.out.alloc (.cells #[.int .i64 ff, .int .i64 (tn : Int)] 45))
            have BA := Lib.hid (hB.out.alloc (by omega) (.cells #[.int .i64 ff, .int .i64 (tn : Int)] 45))
            have a0 : (wr.alloc (.cells #[.int .i64 ff, .int .i64 (tn : Int)] 45)).cell? ⟨wr.heap.size, 0, none⟩ = some (.int .i64 ff) := (World.cell?_alloc_new wr _ _ 0).trans rfl
            have a1 : (wr.alloc (.cells #[.int .i64 ff, .int .i64 (tn : Int)] 45)).cell? ⟨wr.heap.size, 1, none⟩ = some (.int .i64 (tn : Int)) := (World.cell?_alloc_new wr _ _ 1).trans rfl
            have b1 := KX.out _ BA.out
            have c1 := CN.out _ BA.out
            have OD : Hid ((wr.alloc (.cells #[.int .i64 ff, .int .i64 (tn : Int)] 45)).drew.ownsRow lg 4 1 (.slice (some ⟨lg, 0, none⟩) m m) m (bvals g)) := OA
            clear hax hjL hto htj hf
            rcases Nat.eq_zero_or_pos j with hjz | hjp
            · have hd0 : ¬ (0 : Int) < (j : Int) := by omega
              have hd1 : decide ((0 : Int) < (j : Int)) = false := by simpa using hjz
              have hd2 : decide ((j : Int) > 0) = false := by simpa using hjz
              have hd3 : decide (0 < j) = false := by simpa using hjz
              clear hprev hjz
              go_wp2_with fail
              go_big_quiet (fail)
              obtain ⟨wz, hwz⟩ : ∃ wz, wz = (wr.alloc (.cells #[.int .i64 ff, .int .i64 (tn : Int)] 45)).drewN nq := ⟨_, rfl⟩
              have BY : Below (wr.alloc (.cells #[.int .i64 ff, .int .i64 (tn : Int)] 45)).heap.size (wr.alloc (.cells #[.int .i64 ff, .int .i64 (tn : Int)] 45)) wz := by rw [hwz]; exact below_drewN (Below.refl _ _) _
              have hsz : lg ≤ (wr.alloc (.cells #[.int .i64 ff, .int .i64 (tn : Int)] 45)).heap.size := by simp; omega
              have BZ := Lib.hid (BA.out.trans (BY.mono hsz))
              have OZ := Lib.hid (owns_below OA.out BY)
              have a1 : wz.cell? ⟨wr.heap.size, 1, none⟩ = some (.int .i64 (tn : Int)) := (BY.cell (p := ⟨wr.heap.size, 1, none⟩) (by simp)).trans a1
              have e1 : wz.cell? ⟨lg, tn, none⟩ = some (.bool (bv g tn)) := (OZ.out.cellAt tn (by omega)).trans (bvals_get (by rw [hM.out.len, HM.out]; exact htn))
              have e2 : wz.frozen? ⟨lg, tn, none⟩ = false := OZ.out.frozenAt _
              have st := OZ.out.stored tn (.bool true)
              rw [bvals_set] at st
              have OS := Lib.hid st.1
              have BS := Lib.hid (BZ.out.setCell (p := ⟨lg, tn, none⟩) (Nat.le_refl _) (.bool true))
              rw [← hwz]
              clear hwz BY BZ OZ st OA BA OD hO hB hM a0 b1 c1 hlgw
              go_wp2
              go_roundw
              case rel => exact ⟨j + 1, _, by omega, by go_num, MN, OS, BS⟩
              case measure => simp [intOf]; omega
            · obtain ⟨i, hi⟩ : ∃ i, i + 1 = j := ⟨j - 1, by omega⟩
              obtain ⟨hlt1, dp⟩ := hprev i hi
              have dp2 : (wr.alloc (.cells #[.int .i64 ff, .int .i64 (tn : Int)] 45)).cell? ⟨pb, po + i * 2, none⟩ = some (.int .i64 (ar p i).1) := by
                obtain ⟨pb', po', e, _, hax2⟩ := (AR.out _ BA.out).at_ (by omega)
                cases e
                exact (hax2 i (by omega)).1
              obtain ⟨pf, hpf⟩ : ∃ z, (ar p i).1 = z := ⟨_, rfl⟩
              rw [hpf] at dp2 hlt1
              have hd0 : (0 : Int) < (j : Int) := by omega
              have hd1 : decide ((0 : Int) < (j : Int)) = true := by simpa using hjp
              have hd2 : decide ((j : Int) > 0) = true := by simpa using hjp
              have hd3 : decide (0 < j) = true := by simpa using hjp
              have hd4 : decide (ff ≤ pf) = false := by simp; omega
              have hd5 : ¬ ff ≤ pf := by omega
              have hw1 : IntKind.i64.wrap ((j : Int) - 1) = (i : Int) := by rw [IntKind.wrap_i64]; omega
              have hi0 : (0 : Int) ≤ (i : Int) := by omega
              have hi1 : (i : Int) < (ll : Int) := by omega
              have hij : (j : Int) - 1 = (i : Int) := by omega
              clear hprev hjp hi dp hpf
              go_wp2_with fail
              go_big_quiet (fail)
              obtain ⟨wz, hwz⟩ : ∃ wz, wz = (wr.alloc (.cells #[.int .i64 ff, .int .i64 (tn : Int)] 45)).drewN nq := ⟨_, rfl⟩
              have BY : Below (wr.alloc (.cells #[.int .i64 ff, .int .i64 (tn : Int)] 45)).heap.size (wr.alloc (.cells #[.int .i64 ff, .int .i64 (tn : Int)] 45)) wz := by rw [hwz]; exact below_drewN (Below.refl _ _) _
              have hsz : lg ≤ (wr.alloc (.cells #[.int .i64 ff, .int .i64 (tn : Int)] 45)).heap.size := by simp; omega
              have BZ := Lib.hid (BA.out.trans (BY.mono hsz))
              have OZ := Lib.hid (owns_below OA.out BY)
              have a1 : wz.cell? ⟨wr.heap.size, 1, none⟩ = some (.int .i64 (tn : Int)) := (BY.cell (p := ⟨wr.heap.size, 1, none⟩) (by simp)).trans a1
              have e1 : wz.cell? ⟨lg, tn, none⟩ = some (.bool (bv g tn)) := (OZ.out.cellAt tn (by omega)).trans (bvals_get (by rw [hM.out.len, HM.out]; exact htn))
              have e2 : wz.frozen? ⟨lg, tn, none⟩ = false := OZ.out.frozenAt _
              have st := OZ.out.stored tn (.bool true)
              rw [bvals_set] at st
              have OS := Lib.hid st.1
              have BS := Lib.hid (BZ.out.setCell (p := ⟨lg, tn, none⟩) (Nat.le_refl _) (.bool true))
              rw [← hwz]
              clear hwz BY BZ OZ st OA BA OD hO hB hM a0 b1 c1 hlgw
              go_wp2
              go_roundw
              case rel => exact ⟨j + 1, _, by omega, by go_num, MN, OS, BS⟩
              case measure => simp [intOf]; omega
          · obtain rfl : ll = j := by omega
            have MN : Hid (Mk x g (k + 1) 0) := HDN.out g (by rw [HTLEN.out]; exact hM.out)
            go_wp2
            go_roundw
            case rel => exact ⟨k + 1, g, by omega, by go_num, MN, hO, hB⟩
            case measure => simp [intOf]; omega
      · have hd0 : (0 : Int) < (k : Int) := by omega
        have hd1 : decide ((0 : Int) < (k : Int)) = true := by simpa using hkp
        have hd2 : decide ((k : Int) > 0) = true := by simpa using hkp
        rw [HAT.out hkp] at e1
        clear hkp
        go_wp2
        clear b1 c1 hd0 hd1 hd2
        go_loopw [49] (fun jv wr => ∃ (j : Nat) (g : List Bool), j ≤ ll ∧ jv = .int .i64 j ∧ Hid (Mk x g k j) ∧ Hid (wr.ownsRow lg 4 1 (.slice (some ⟨lg, 0, none⟩) m m) m (bvals g)) ∧ Hid (Below lg w5 wr)) (fun jv _ => ll - (intOf jv).toNat)
        case atStart => exact ⟨0, g, Nat.zero_le _, rfl, hM, hO, hB⟩
        case round =>
          clear hM hO hB hlgw HAT
          obtain ⟨j, g, hj, rfl, hM, hO, hB⟩ := hrel
          have hlgw := (hO.out.lt lg rfl).2
          by_cases hjl : j < ll
          · obtain ⟨pb, po, rfl, _, hax⟩ := (AR.out wr hB.out).at_ (by omega)
            obtain ⟨d0, d1⟩ := hax j hjl
            have hjL : j < p.length := by rw [HLL.out]; exact hjl
            have hto := HTP.out (ar p j) (ar_mem hjL)
            rw [HM.out] at hto
            have htj : (tg x k)[j]? = some (ar p j).2.toNat := by rw [HTG.out, List.getElem?_map, ar_get hjL]; rfl
            have hprev : ∀ i, i + 1 = j → (ar p i).1 < (ar p j).1 ∧ wr.cell? ⟨pb, po + i * 2, none⟩ = some (.int .i64 (ar p i).1) := fun i hi => by
              subst hi
              exact ⟨HAS.out i (by rw [HLL.out]; exact hjl), (hax i (by omega)).1⟩
            obtain ⟨f, hf⟩ : ∃ f, ar p j = f := ⟨_, rfl⟩
            rw [hf] at d0 d1 hto htj hprev
            obtain ⟨ff, tt⟩ := f
            obtain ⟨tn, rfl⟩ : ∃ tn : Nat, tt = (tn : Int) := ⟨tt.toNat, (Int.toNat_of_nonneg hto.1).symm⟩
            dsimp only at d0 d1 hto htj hprev
            rw [Int.toNat_natCast] at htj
            have htn : tn < m := by omega
            have hj0 : (0 : Int) ≤ (j : Int) := by omega
            have hj1 : (j : Int) < (ll : Int) := by omega
            have htn0 : (0 : Int) ≤ (tn : Int) := by omega
            have htn1 : (tn : Int) < (m : Int) := by omega
            have htn2 : ¬ (tn : Int) < 0 := by omega
            have hdt : decide ((tn : Int) < 0) = false := by simp
            have hdt2 : decide ((m : Int) ≤ (tn : Int)) = false := by simp; omega
            have hdt3 : decide ((tn : Int) ≥ (m : Int)) = false := by simp; omega
            have hdt4 : decide (m ≤ tn) = false := by simp; omega
            have MN := Lib.hid (hM.out.next htj (by rw [HM.out]; exact htn))
            have OA := Lib.hid (hO.out.alloc (.cells #[.int .i64 ff, .int .i64 (tn : Int)] 45))
            have BA := Lib.hid (hB.out.alloc (by omega) (.cells #[.int .i64 ff, .int .i64 (tn : Int)] 45))
            have a0 : (wr.alloc (.cells #[.int .i64 ff, .int .i64 (tn : Int)] 45)).cell? ⟨wr.heap.size, 0, none⟩ = some (.int .i64 ff) := (World.cell?_alloc_new wr _ _ 0).trans rfl
            have a1 : (wr.alloc (.cells #[.int .i64 ff, .int .i64 (tn : Int)] 45)).cell? ⟨wr.heap.size, 1, none⟩ = some (.int .i64 (tn : Int)) := (World.cell?_alloc_new wr _ _ 1).trans rfl
            have b1 := KX.out _ BA.out
            have c1 := CN.out _ BA.out
            have OD : Hid ((wr.alloc (.cells #[.int .i64 ff, .int .i64 (tn : Int)] 45)).drew.ownsRow lg 4 1 (.slice (some ⟨lg, 0, none⟩) m m) m (bvals g)) := OA
            clear hax hjL hto htj hf
            rcases Nat.eq_zero_or_pos j with hjz | hjp
            · have hd0 : ¬ (0 : Int) < (j : Int) := by omega
              have hd1 : decide ((0 : Int) < (j : Int)) = false := by simpa using hjz
              have hd2 : decide ((j : Int) > 0) = false := by simpa using hjz
              have hd3 : decide (0 < j) = false := by simpa using hjz
              clear hprev hjz
              go_wp2_with fail
              go_big_quiet (fail)
              obtain ⟨wz, hwz⟩ : ∃ wz, wz = (wr.alloc (.cells #[.int .i64 ff, .int .i64 (tn : Int)] 45)).drewN nq := ⟨_, rfl⟩
              have BY : Below (wr.alloc (.cells #[.int .i64 ff, .int .i64 (tn : Int)] 45)).heap.size (wr.alloc (.cells #[.int .i64 ff, .int .i64 (tn : Int)] 45)) wz := by rw [hwz]; exact below_drewN (Below.refl _ _) _
              have hsz : lg ≤ (wr.alloc (.cells #[.int .i64 ff, .int .i64 (tn : Int)] 45)).heap.size := by simp; omega
              have BZ := Lib.hid (BA.out.trans (BY.mono hsz))
              have OZ := Lib.hid (owns_below OA.out BY)
              have a1 : wz.cell? ⟨wr.heap.size, 1, none⟩ = some (.int .i64 (tn : Int)) := (BY.cell (p := ⟨wr.heap.size, 1, none⟩) (by simp)).trans a1
              have e1 : wz.cell? ⟨lg, tn, none⟩ = some (.bool (bv g tn)) := (OZ.out.cellAt tn (by omega)).trans (bvals_get (by rw [hM.out.len, HM.out]; exact htn))
              have e2 : wz.frozen? ⟨lg, tn, none⟩ = false := OZ.out.frozenAt _
              have st := OZ.out.stored tn (.bool true)
              rw [bvals_set] at st
              have OS := Lib.hid st.1
              have BS := Lib.hid (BZ.out.setCell (p := ⟨lg, tn, none⟩) (Nat.le_refl _) (.bool true))
              rw [← hwz]
              clear hwz BY BZ OZ st OA BA OD hO hB hM a0 b1 c1 hlgw
              go_wp2
              go_roundw
              case rel => exact ⟨j + 1, _, by omega, by go_num, MN, OS, BS⟩
              case measure => simp [intOf]; omega
            · obtain ⟨i, hi⟩ : ∃ i, i + 1 = j := ⟨j - 1, by omega⟩
              obtain ⟨hlt1, dp⟩ := hprev i hi
              have dp2 : (wr.alloc (.cells #[.int .i64 ff, .int .i64 (tn : Int)] 45)).cell? ⟨pb, po + i * 2, none⟩ = some (.int .i64 (ar p i).1) := by
                obtain ⟨pb', po', e, _, hax2⟩ := (AR.out _ BA.out).at_ (by omega)
                cases e
                exact (hax2 i (by omega)).1
              obtain ⟨pf, hpf⟩ : ∃ z, (ar p i).1 = z := ⟨_, rfl⟩
              rw [hpf] at dp2 hlt1
              have hd0 : (0 : Int) < (j : Int) := by omega
              have hd1 : decide ((0 : Int) < (j : Int)) = true := by simpa using hjp
              have hd2 : decide ((j : Int) > 0) = true := by simpa using hjp
              have hd3 : decide (0 < j) = true := by simpa using hjp
              have hd4 : decide (ff ≤ pf) = false := by simp; omega
              have hd5 : ¬ ff ≤ pf := by omega
              have hw1 : IntKind.i64.wrap ((j : Int) - 1) = (i : Int) := by rw [IntKind.wrap_i64]; omega
              have hi0 : (0 : Int) ≤ (i : Int) := by omega
              have hi1 : (i : Int) < (ll : Int) := by omega
              have hij : (j : Int) - 1 = (i : Int) := by omega
              clear hprev hjp hi dp hpf
              go_wp2_with fail
              go_big_quiet (fail)
              obtain ⟨wz, hwz⟩ : ∃ wz, wz = (wr.alloc (.cells #[.int .i64 ff, .int .i64 (tn : Int)] 45)).drewN nq := ⟨_, rfl⟩
              have BY : Below (wr.alloc (.cells #[.int .i64 ff, .int .i64 (tn : Int)] 45)).heap.size (wr.alloc (.cells #[.int .i64 ff, .int .i64 (tn : Int)] 45)) wz := by rw [hwz]; exact below_drewN (Below.refl _ _) _
              have hsz : lg ≤ (wr.alloc (.cells #[.int .i64 ff, .int .i64 (tn : Int)] 45)).heap.size := by simp; omega
              have BZ := Lib.hid (BA.out.trans (BY.mono hsz))
              have OZ := Lib.hid (owns_below OA.out BY)
              have a1 : wz.cell? ⟨wr.heap.size, 1, none⟩ = some (.int .i64 (tn : Int)) := (BY.cell (p := ⟨wr.heap.size, 1, none⟩) (by simp)).trans a1
              have e1 : wz.cell? ⟨lg, tn, none⟩ = some (.bool (bv g tn)) := (OZ.out.cellAt tn (by omega)).trans (bvals_get (by rw [hM.out.len, HM.out]; exact htn))
              have e2 : wz.frozen? ⟨lg, tn, none⟩ = false := OZ.out.frozenAt _
              have st := OZ.out.stored tn (.bool true)
              rw [bvals_set] at st
              have OS := Lib.hid st.1
              have BS := Lib.hid (BZ.out.setCell (p := ⟨lg, tn, none⟩) (Nat.le_refl _) (.bool true))
              rw [← hwz]
              clear hwz BY BZ OZ st OA BA OD hO hB hM a0 b1 c1 hlgw
              go_wp2
              go_roundw
              case rel => exact ⟨j + 1, _, by omega, by go_num, MN, OS, BS⟩
              case measure => simp [intOf]; omega
          · obtain rfl : ll = j := by omega
            have MN : Hid (Mk x g (k + 1) 0) := HDN.out g (by rw [HTLEN.out]; exact hM.out)
            go_wp2
            go_roundw
            case rel => exact ⟨k + 1, g, by omega, by go_num, MN, hO, hB⟩
            case measure => simp [intOf]; omega
    · obtain rfl : m = k := by omega
      have BB := Lib.hid hB.out
      clear hM hO hlgw
      go_wp2
      go_loopw [94] (fun kv wr => ∃ k : Nat, k ≤ m ∧ kv = .int .i64 k ∧ Hid (Below lg w5 wr)) (fun kv _ => m - (intOf kv).toNat)
      case atStart => exact ⟨0, Nat.zero_le _, rfl, BB⟩
      case round =>
        clear BB hB b1
        obtain ⟨k, hk, rfl, hB⟩ := hrel
        have b1 := KX.out wr hB.out
        by_cases hlt : k < m
        · have hkx : k < x.length := by rw [HM.out]; exact hlt
          have S1 := Lib.hid (Sub_cf wr xa m xc x (IX5.out wr hB.out) HFX.out HSX.out k hlt)
          have FY := cf_fine HFX.out hkx
          have SY := HSX.out.cf HFX.out hkx
          have hle := (cf_len HFX.out hkx).2
          have hac := Lib.hid (fun h : Acyc x => h.cfEq HFX.out hkx)
          have hls := Lib.hid (fun (h : Acyc x) h0 => cf_less h HFX.out HLED.out h0 hkx)
          have hy0 : k = 0 → cf x k = x := fun e => by rw [e]; exact HCF.out
          obtain ⟨y, hy⟩ : ∃ y, cf x k = y := ⟨_, rfl⟩
          rw [hy] at S1 FY SY hle hy0 hac hls
          obtain ⟨l, hl⟩ : ∃ l, y.length = l := ⟨_, rfl⟩
          rw [hl] at S1 hle hls
          rw [HM.out] at hle hls
          have hszw : lg ≤ wr.heap.size := by have := hB.out.size; rw [HLG.out] at this; exact this
          have CX := Lib.hid (fun V (hV : Below lg w5 V) => Cyclic_val cyc V xa m xc x (IX5.out V hV) HFX.out HSX.out HCY.out)
          have hg1 : decide ((m : Int) < (l : Int)) = false := by simp; omega
          have hg2 : decide (m < l) = false := by simp; omega
          have hg3 : ¬ (m : Int) < (l : Int) := by omega
          have hk0 : (0 : Int) ≤ (k : Int) := by omega
          have hk1 : (k : Int) < (m : Int) := by omega
          clear hkx hy
          rcases Nat.eq_zero_or_pos k with hkz | hkp
          · have e0 := hy0 hkz
            have EQ := Lib.hid (fun V sa sc (hV : Below lg w5 V) (h : IsG V sa l sc y) => rEqual_val true V sa xa l sc m xc y x h (IX5.out V hV) SY.nums HSX.out.nums (by rw [e0, cG_self]; rfl))
            subst hkz
            have S1 := Lib.hid (show Calls Try.prog 20 #[.agg #[.slice xa m xc], .int .i64 0] wr _ from S1.out)
            clear hk0 hk1 hls
            cases hc : cyc
            · have hA : Acyc x := Classical.byContradiction fun h => by have := HCY.out.2 h; rw [hc] at this; cases this
              have hAy := hac.out hA
              have CS := Lib.hid (fun V sa sc (h : IsG V sa l sc y) => Cyclic_val false V sa l sc y h FY SY ⟨fun e => (by cases e), fun e => absurd hAy e⟩)
              subst hc
              clear hac hA hAy FY SY hl HCY
              go_wp2_with (first
                | (go_at_call 20; (with_reducible refine S1.out.mono ?_); rintro e w16 ⟨sa, sc, rfl, hI, hbx⟩; have B16 := Lib.hid (hB.out.trans (hbx.mono hszw)); have I16 := Lib.hid hI; have hsz16 : lg ≤ w16.heap.size := Nat.le_trans hszw hbx.size; obtain ⟨w17, hw17⟩ : ∃ w17, w16.alloc (.cells #[.slice sa l sc] 25) = w17 := ⟨_, rfl⟩; have B17 : Hid (Below lg w5 w17) := hw17 ▸ B16.out.alloc hsz16 _; have I17 : Hid (IsG w17 sa l sc y) := hw17 ▸ hI.below (ba w16 _); have s17 : w17.cell? ⟨w16.heap.size, 0, none⟩ = some (.slice sa l sc) := hw17 ▸ box_cell w16 _ _; have hz17 : w16.heap.size < w17.heap.size := (by rw [← hw17]; simp); have x17 := KX.out w17 B17.out; have hsc := hI.capLe; have hsm := hI.maxLe; have hszx : lg ≤ w17.heap.size := (by omega); clear hI hbx)
                | (go_at_call 14; (try rw [hw17]); (with_reducible refine (EQ.out w17 sa sc B17.out I17.out).mono ?_); rintro e w18 ⟨rfl, hbx⟩; have Bw18 := Lib.hid (B17.out.trans (hbx.mono hszx)); have hw18 := hbx.size; have xw18 := KX.out w18 Bw18.out; have sw18 := (hbx.cell (p := ⟨w16.heap.size, 0, none⟩) (by show w16.heap.size < _; omega)).trans s17; have Iw18 := Lib.hid (I17.out.below hbx); clear hbx)
                | (go_at_call 22; (try rw [hw17]); (with_reducible refine (CX.out w18 Bw18.out).mono ?_); rintro e w19 ⟨rfl, hbx⟩; have Bw19 := Lib.hid (Bw18.out.trans (hbx.mono (Nat.le_trans hszx hw18))); have hw19 := hbx.size; have xw19 := KX.out w19 Bw19.out; have sw19 := (hbx.cell (p := ⟨w16.heap.size, 0, none⟩) (by show w16.heap.size < _; omega)).trans sw18; have Iw19 := Lib.hid (Iw18.out.below hbx); clear hbx)
                | (go_at_call 22; (with_reducible refine (CS.out w19 sa sc Iw19.out).mono ?_); rintro e w20 ⟨rfl, hbx⟩; have Bw20 := Lib.hid (Bw19.out.trans (hbx.mono (Nat.le_trans (Nat.le_trans hszx hw18) hw19))); have hw20 := hbx.size; have xw20 := KX.out w20 Bw20.out; have sw20 := (hbx.cell (p := ⟨w16.heap.size, 0, none⟩) (by show w16.heap.size < _; omega)).trans sw19; clear hbx))
              go_roundw
              case rel => exact ⟨0 + 1, by omega, by go_num, Bw20⟩
              case measure => simp [intOf]; omega
            · subst hc
              clear hac FY SY hl HCY
              go_wp2_with (first
                | (go_at_call 20; (with_reducible refine S1.out.mono ?_); rintro e w16 ⟨sa, sc, rfl, hI, hbx⟩; have B16 := Lib.hid (hB.out.trans (hbx.mono hszw)); have I16 := Lib.hid hI; have hsz16 : lg ≤ w16.heap.size := Nat.le_trans hszw hbx.size; obtain ⟨w17, hw17⟩ : ∃ w17, w16.alloc (.cells #[.slice sa l sc] 25) = w17 := ⟨_, rfl⟩; have B17 : Hid (Below lg w5 w17) := hw17 ▸ B16.out.alloc hsz16 _; have I17 : Hid (IsG w17 sa l sc y) := hw17 ▸ hI.below (ba w16 _); have s17 : w17.cell? ⟨w16.heap.size, 0, none⟩ = some (.slice sa l sc) := hw17 ▸ box_cell w16 _ _; have hz17 : w16.heap.size < w17.heap.size := (by rw [← hw17]; simp); have x17 := KX.out w17 B17.out; have hsc := hI.capLe; have hsm := hI.maxLe; have hszx : lg ≤ w17.heap.size := (by omega); clear hI hbx)
                | (go_at_call 14; (try rw [hw17]); (with_reducible refine (EQ.out w17 sa sc B17.out I17.out).mono ?_); rintro e w18 ⟨rfl, hbx⟩; have Bw18 := Lib.hid (B17.out.trans (hbx.mono hszx)); have hw18 := hbx.size; have xw18 := KX.out w18 Bw18.out; have sw18 := (hbx.cell (p := ⟨w16.heap.size, 0, none⟩) (by show w16.heap.size < _; omega)).trans s17; have Iw18 := Lib.hid (I17.out.below hbx); clear hbx)
                | (go_at_call 22; (try rw [hw17]); (with_reducible refine (CX.out w18 Bw18.out).mono ?_); rintro e w19 ⟨rfl, hbx⟩; have Bw19 := Lib.hid (Bw18.out.trans (hbx.mono (Nat.le_trans hszx hw18))); have hw19 := hbx.size; have xw19 := KX.out w19 Bw19.out; have sw19 := (hbx.cell (p := ⟨w16.heap.size, 0, none⟩) (by show w16.heap.size < _; omega)).trans sw18; have Iw19 := Lib.hid (Iw18.out.below hbx); clear hbx))
              go_roundw
              case rel => exact ⟨0 + 1, by omega, by go_num, Bw19⟩
              case measure => simp [intOf]; omega
          · have hp1 : ((k : Int) == 0) = false := by simp; omega
            have hp2 : (k == 0) = false := by simp; omega
            have hp3 : decide ((0 : Int) < (k : Int)) = true := by simp; omega
            have hp4 : decide (0 < k) = true := by simp; omega
            have hp5 : (0 : Int) < (k : Int) := by omega
            cases hc : cyc
            · have hA : Acyc x := Classical.byContradiction fun h => by have := HCY.out.2 h; rw [hc] at this; cases this
              have hAy := hac.out hA
              have hlm := hls.out hA hkp
              have CS := Lib.hid (fun V sa sc (h : IsG V sa l sc y) => Cyclic_val false V sa l sc y h FY SY ⟨fun e => (by cases e), fun e => absurd hAy e⟩)
              have hq1 : decide ((m : Int) ≤ (l : Int)) = false := by simp; omega
              have hq2 : decide (m ≤ l) = false := by simp; omega
              have hq3 : ¬ (m : Int) ≤ (l : Int) := by omega
              subst hc
              clear hac hA hAy FY SY hl hy0 hls HCY hkp
              go_wp2_with (first
                | (go_at_call 20; (with_reducible refine S1.out.mono ?_); rintro e w16 ⟨sa, sc, rfl, hI, hbx⟩; have B16 := Lib.hid (hB.out.trans (hbx.mono hszw)); have I16 := Lib.hid hI; have hsz16 : lg ≤ w16.heap.size := Nat.le_trans hszw hbx.size; obtain ⟨w17, hw17⟩ : ∃ w17, w16.alloc (.cells #[.slice sa l sc] 25) = w17 := ⟨_, rfl⟩; have B17 : Hid (Below lg w5 w17) := hw17 ▸ B16.out.alloc hsz16 _; have I17 : Hid (IsG w17 sa l sc y) := hw17 ▸ hI.below (ba w16 _); have s17 : w17.cell? ⟨w16.heap.size, 0, none⟩ = some (.slice sa l sc) := hw17 ▸ box_cell w16 _ _; have hz17 : w16.heap.size < w17.heap.size := (by rw [← hw17]; simp); have x17 := KX.out w17 B17.out; have hsc := hI.capLe; have hsm := hI.maxLe; have hszx : lg ≤ w17.heap.size := (by omega); clear hI hbx)
                | (go_at_call 22; (try rw [hw17]); (with_reducible refine (CX.out w17 B17.out).mono ?_); rintro e w19 ⟨rfl, hbx⟩; have Bw19 := Lib.hid (B17.out.trans (hbx.mono hszx)); have hw19 := hbx.size; have xw19 := KX.out w19 Bw19.out; have sw19 := (hbx.cell (p := ⟨w16.heap.size, 0, none⟩) (by show w16.heap.size < _; omega)).trans s17; have Iw19 := Lib.hid (I17.out.below hbx); clear hbx)
                | (go_at_call 22; (with_reducible refine (CS.out w19 sa sc Iw19.out).mono ?_); rintro e w20 ⟨rfl, hbx⟩; have Bw20 := Lib.hid (Bw19.out.trans (hbx.mono (Nat.le_trans hszx hw19))); have hw20 := hbx.size; have xw20 := KX.out w20 Bw20.out; have sw20 := (hbx.cell (p := ⟨w16.heap.size, 0, none⟩) (by show w16.heap.size < _; omega)).trans sw19; clear hbx))
              go_roundw
              case rel => exact ⟨k + 1, by omega, by go_num, Bw20⟩
              case measure => simp [intOf]; omega
            · subst hc
              clear hac FY SY hl hy0 hls HCY hkp
              go_wp2_with (first
                | (go_at_call 20; (with_reducible refine S1.out.mono ?_); rintro e w16 ⟨sa, sc, rfl, hI, hbx⟩; have B16 := Lib.hid (hB.out.trans (hbx.mono hszw)); have I16 := Lib.hid hI; have hsz16 : lg ≤ w16.heap.size := Nat.le_trans hszw hbx.size; obtain ⟨w17, hw17⟩ : ∃ w17, w16.alloc (.cells #[.slice sa l sc] 25) = w17 := ⟨_, rfl⟩; have B17 : Hid (Below lg w5 w17) := hw17 ▸ B16.out.alloc hsz16 _; have I17 : Hid (IsG w17 sa l sc y) := hw17 ▸ hI.below (ba w16 _); have s17 : w17.cell? ⟨w16.heap.size, 0, none⟩ = some (.slice sa l sc) := hw17 ▸ box_cell w16 _ _; have hz17 : w16.heap.size < w17.heap.size := (by rw [← hw17]; simp); have x17 := KX.out w17 B17.out; have hsc := hI.capLe; have hsm := hI.maxLe; have hszx : lg ≤ w17.heap.size := (by omega); clear hI hbx)
                | (go_at_call 22; (try rw [hw17]); (with_reducible refine (CX.out w17 B17.out).mono ?_); rintro e w19 ⟨rfl, hbx⟩; have Bw19 := Lib.hid (B17.out.trans (hbx.mono hszx)); have hw19 := hbx.size; have xw19 := KX.out w19 Bw19.out; have sw19 := (hbx.cell (p := ⟨w16.heap.size, 0, none⟩) (by show w16.heap.size < _; omega)).trans s17; have Iw19 := Lib.hid (I17.out.below hbx); clear hbx))
              go_roundw
              case rel => exact ⟨k + 1, by omega, by go_num, Bw19⟩
              case measure => simp [intOf]; omega
        · obtain rfl : m = k := by omega
          go_wp2_with (go_at_call 16; refine (ex_holds wr).mono ?_; rintro e w2 ⟨rfl, hb2⟩; have B2 := Lib.hid (hB.out.trans (hb2.mono (HLG.out ▸ hB.out.size))); clear hb2)
          go_ret
          exact ⟨rfl, HEND.out _ B2.out⟩
end Go.Proofs.Ytlhiiecaphibhaa
