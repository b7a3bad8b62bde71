/- Texts joined by wip/gen/merge.py: Hg Hl Hm Hn. -/
import Derived.Deep.RegionLaw
import Derived.Test.YtlhiiecaphibhaaMag
set_option linter.unusedVariables false
set_option linter.unusedSimpArgs false
/- graph: the results of Sub and Canon are new. -/

namespace Go.Proofs.Ytlhiiecaphibhaa
open Go.RowKit Go.Maps

set_option maxRecDepth 100000 in
set_option maxHeartbeats 6400000 in
theorem Sub_new (w : World) (a : Option Addr) (n cap : Nat) (F : Gr) (h : IsG w a n cap F) (hf : Fine F) (hA : ∀ x ∈ F, x.2.length ≤ 64) (hn : n ≤ 4097) (root : Nat) (hr : root < n) :
    Calls Try.prog 20 #[.agg #[.slice a n cap], .int .i64 root] w fun e w' => ∃ r aa cc, Dfs (tos F) [root] [] r ∧ e = .returned (.agg #[.slice aa r.length cc]) ∧ IsG w' aa r.length cc (outG F r) ∧ Below w.heap.size w w' ∧ ∀ p, aa = some p → w.heap.size ≤ p.block := by
  have hm := h.maxLe
  have hc := h.capLe
  have hl := h.len
  unfold maxLen at hm
  obtain ⟨W, hW⟩ : ∃ W, twoF w (.slice a n cap) (.slice none 0 0) = W := ⟨_, rfl⟩
  obtain ⟨b1, hz, d1, d2⟩ := twoF_is w _ _ W hW
  have hres : W.heap[w.heap.size + 1]? = some (.cells #[.slice none 0 0] 25) := by
    rw [← hW]
    have := heap_alloc_new (w.alloc (.cells #[.slice a n cap] 25)) (.cells #[.slice none 0 0] 25)
    rw [World.size_alloc] at this
    exact this
  have HRES := Lib.hid hres
  have H := Lib.hid (h.below b1)
  have HRNG := Lib.hid (rng_of h)
  have B1 := Lib.hid b1
  have HZ := Lib.hid hz
  have HF := Lib.hid hf
  have HA := Lib.hid hA
  have HL := Lib.hid hl
  have SS := Lib.hid (St.start (F := F) (root := root) (by rw [hl]; exact hr))
  clear h b1 hz hf hA hl hres
  have hmm : ∀ w, (Instr.makeMap 50 none).run Try.prog w = .ok (.map (some w.heap.size)) (w.alloc (.map #[] 0)) := fun w => rfl
  go_enter Try.func20, Try.ntmps20
  go_wp2
  (try rw [hW])
  clear hmm
  have hmb : Hid (((W.alloc (.map #[] 0)).alloc (.cells #[.int .i64 (root : Int)] 3)).ownsMap Try.prog 3 raw W.heap.size 0 (.map [])) := (World.ownsMap_made W _ _ _).alloc _
  have hwr : Hid (((W.alloc (.map #[] 0)).alloc (.cells #[.int .i64 (root : Int)] 3)).ownsRow W.heap.size 3 1 (.slice (some ⟨W.heap.size + 1, 0, none⟩) 1 1) 1 (ivals (smem [root]))) :=
    ⟨rfl, .inr ⟨W.heap.size + 1, 1, #[.int .i64 (root : Int)], rfl, by omega, (by have := heap_alloc_new (W.alloc (.map #[] 0)) (.cells #[.int .i64 (root : Int)] 3); rwa [World.size_alloc] at this), Nat.le_refl _, by unfold maxLen; omega, rfl, rfl⟩⟩
  have hbw : Hid (Below W.heap.size W ((W.alloc (.map #[] 0)).alloc (.cells #[.int .i64 (root : Int)] 3))) := ((Below.refl _ W).alloc (Nat.le_refl _) _).alloc (by simp) _
  go_loopw [6, 7] (fun nv wt wr => ∃ (s v : List Nat) (M : DataW Value) (P : List (Int × Value)), Hid (St F root s v) ∧ Hid (wr.ownsRow W.heap.size 3 1 wt s.length (ivals (smem s))) ∧ Hid (wr.ownsMap Try.prog 3 raw W.heap.size v.length M) ∧ Hid (NumIs M v) ∧ Hid (OwnN wr W.heap.size nv P (arcss F v)) ∧ Hid (P.map Prod.fst = typs F v) ∧ Hid (Below W.heap.size W wr)) (fun nv wt _ => (n - lenOf nv) * 66 + lenOf wt)
  case atStart => exact ⟨[root], [], .map [], [], SS, hwr, hmb, NumIs.nil, OwnN.nil _ _, rfl, hbw⟩
  case round =>
    clear hmb hwr hbw SS
    obtain ⟨s, v, M, P, hS, hrow, hmap, hM, hN, hT, hB⟩ := hrel
    obtain ⟨w0, hw0⟩ : ∃ w0 : World, w0 = wr := ⟨_, rfl⟩
    subst hw0
    have hws := hB.out.size
    have hPv : Hid (P.length = v.length) := by
      show _ = _
      have := congrArg List.length hT.out
      simpa [typs] using this
    cases s with
    | nil =>
      have DF := Lib.hid (hS.out.bw v (.done v))
      have hvn := nodup_lt hS.out.nd (fun y hy => hS.out.vok y hy)
      rw [HL.out] at hvn
      have hPl := hPv.out
      have HRA : Hid (∀ L ∈ arcss F v, ∀ z ∈ L, R64 z.1) := fun L hL z hz => by
        unfold arcss at hL
        obtain ⟨i, hi, rfl⟩ := List.mem_map.1 hL
        exact HRNG.out i (by rw [← HL.out]; exact hS.out.vok i hi) z ((srt_perm _).mem_iff.1 hz)
      have HTO : Hid (∀ L ∈ arcss F v, ∀ z ∈ L, 0 ≤ z.2 ∧ z.2.toNat ∈ v ∧ z.2.toNat < n) := fun L hL z hz => by
        unfold arcss at hL
        obtain ⟨i, hi, rfl⟩ := List.mem_map.1 hL
        have hil := hS.out.vok i hi
        have h1 := (HF.out _ (nd_mem hil)).1 z ((srt_perm _).mem_iff.1 hz)
        have h2 : z.2.toNat ∈ tos F i := List.mem_map_of_mem hz
        have h3 := DF.out.closed (fun x hx => (by cases hx)) i hi _ h2
        refine ⟨h1.1, h3, ?_⟩
        have := HL.out
        omega
      obtain ⟨ni, nc, rfl⟩ : ∃ a c, u6 = Value.slice a P.length c := by
        obtain ⟨_, ⟨e, e2⟩ | ⟨g1, c1, cur1, e, _⟩⟩ := hN.out.row
        · exact ⟨none, 0, by rw [e, e2]⟩
        · exact ⟨_, _, e⟩
      obtain ⟨wa, wc, rfl⟩ : ∃ a c, u7 = Value.slice a 0 c := by
        obtain ⟨_, ⟨e, e2⟩ | ⟨g1, c1, cur1, e, _⟩⟩ := hrow.out
        · exact ⟨none, 0, e⟩
        · exact ⟨_, _, e⟩
      rw [hPl] at hN ⊢
      have hLl : (arcss F v).length = v.length := by unfold arcss; simp
      have HLl := Lib.hid hLl
      obtain ⟨Ls, hLs⟩ : ∃ Ls, arcss F v = Ls := ⟨_, rfl⟩
      have HLs := Lib.hid hLs
      rw [hLs] at hN HRA HTO HLl
      obtain ⟨vl, hvl⟩ : ∃ q, v.length = q := ⟨_, rfl⟩
      rw [hvl] at hN hmap hvn HLl hPl ⊢
      have HVL := Lib.hid hvl
      have HPL := Lib.hid hPl
      have hncm := hN.out.row
      have hnc : vl ≤ nc ∧ nc ≤ maxLen := by
        obtain ⟨_, ⟨e, e2⟩ | ⟨g1, c1, cur1, e, _, _, h3, h4, _⟩⟩ := hncm
        · cases e; exact ⟨Nat.le_refl _, Nat.zero_le _⟩
        · cases e; exact ⟨by omega, h4⟩
      obtain ⟨hnc1, hnc2⟩ := hnc
      unfold maxLen at hnc2
      have N0 : Hid (OwnN w0 W.heap.size (.slice ni vl nc) P (mix (List.map (relA v)) 0 Ls)) := by show OwnN _ _ _ _ _; rw [mix_zero]; exact hN.out
      have B0 := Lib.hid hB.out
      have M0 := Lib.hid hmap.out
      clear hrow hS hPl hLs hvl hncm hLl hN hB hmap hPv hws
      go_wp2
      go_loopw [80] (fun kv wr => ∃ k : Nat, k ≤ vl ∧ kv = .int .i64 k ∧ Hid (OwnN wr W.heap.size (.slice ni vl nc) P (mix (List.map (relA v)) k Ls)) ∧ Hid (wr.ownsMap Try.prog 3 raw W.heap.size vl M) ∧ Hid (Below W.heap.size W wr)) (fun kv _ => vl - (intOf kv).toNat)
      case atStart => exact ⟨0, Nat.zero_le _, rfl, N0, M0, B0⟩
      case round =>
        clear N0 M0 B0
        obtain ⟨k, hk, rfl, hN, hmap, hB⟩ := hrel
        obtain ⟨w1, hw1⟩ : ∃ w1 : World, w1 = wr := ⟨_, rfl⟩
        subst hw1
        have hw1s := hB.out.size
        by_cases hlt : k < vl
        · have hkP : k < P.length := by rw [HPL.out]; exact hlt
          have hkL : k < Ls.length := by rw [HLl.out]; exact hlt
          have hp := List.getElem?_eq_getElem hkP
          have hL := List.getElem?_eq_getElem hkL
          have hL64 := HRA.out _ (List.getElem_mem hkL)
          have hLto := HTO.out _ (List.getElem_mem hkL)
          have hml := mix_get (List.map (relA v)) hL
          obtain ⟨g0, g1⟩ := nvals_get hp
          obtain ⟨p, hpe⟩ : ∃ p, P[k] = p := ⟨_, rfl⟩
          obtain ⟨L, hLe⟩ : ∃ L, Ls[k] = L := ⟨_, rfl⟩
          rw [hpe] at hp g0 g1
          rw [hLe] at hL hL64 hLto hml
          obtain ⟨t, pv⟩ := p
          obtain ⟨pa, pc, hpv, hIA⟩ := IsArcs.of_owns (hN.out.arcs k _ L hp hml) hL64
          dsimp only at hpv
          subst hpv
          have hrw := hN.out.row
          rw [HPL.out] at hrw
          obtain ⟨ng, hng⟩ : ∃ ng, ni = some ⟨ng, 0, none⟩ := by
            obtain ⟨_, ⟨e, e2⟩ | ⟨g1', c1', cur1', e, _⟩⟩ := hrw
            · omega
            · cases e; exact ⟨_, rfl⟩
          subst hng
          have c0 : w1.cell? ⟨ng, k * 2, none⟩ = some (.int .i64 t) := (hrw.cellAt _ (by omega)).trans g0
          have c1 : w1.cell? ⟨ng, k * 2 + 1, none⟩ = some (.slice pa L.length pc) := (hrw.cellAt _ (by omega)).trans g1
          have hpc1 := hIA.capLe
          have hpc2 := hIA.maxLe
          have hpnil := hIA.nil_
          unfold maxLen at hpc2
          have HP := Lib.hid hp
          have HL2 := Lib.hid hL
          have HML := Lib.hid hml
          have L64 := Lib.hid hL64
          have LTO := Lib.hid hLto
          have hk0 : (0 : Int) ≤ (k : Int) := by omega
          have hk1 : (k : Int) < (vl : Int) := by omega
          obtain ⟨ll, hll⟩ : ∃ q, L.length = q := ⟨_, rfl⟩
          rw [hll] at c1 hpc1 HP
          have HLL := Lib.hid hll
          have hN2 : OwnN w1 W.heap.size (.slice (some ⟨ng, 0, none⟩) vl nc) P ((mix (List.map (relA v)) k Ls).set k (mix (relA v) 0 L)) := by
            have e : (mix (List.map (relA v)) k Ls).set k (mix (relA v) 0 L) = mix (List.map (relA v)) k Ls := by
              rw [mix_zero]
              apply List.ext_getElem?
              intro i
              by_cases e : i = k
              · subst e
                rw [List.getElem?_set_self (by rw [mix_len]; exact hkL), hml]
              · rw [List.getElem?_set_ne (fun h => e h.symm)]
            rw [e]; exact hN.out
          have NX := Lib.hid (hN2.below (ba w1 (.cells #[.int .i64 t, .slice pa ll pc] 43)))
          have MX := Lib.hid (hmap.out.alloc (.cells #[.int .i64 t, .slice pa ll pc] 43))
          have BX := Lib.hid (hB.out.alloc hw1s (.cells #[.int .i64 t, .slice pa ll pc] 43))
          have hxb := Lib.hid (heap_alloc_new w1 (.cells #[.int .i64 t, .slice pa ll pc] 43))
          clear hp hL hml g0 g1 hpe hLe hIA hrw hkP hL64 hLto hll hN2 hN hmap hB
          go_wp2
          go_loopw [87] (fun jv wr => ∃ j : Nat, j ≤ ll ∧ jv = .int .i64 j ∧ Hid (OwnN wr W.heap.size (.slice (some ⟨ng, 0, none⟩) vl nc) P ((mix (List.map (relA v)) k Ls).set k (mix (relA v) j L))) ∧ Hid (wr.ownsMap Try.prog 3 raw W.heap.size vl M) ∧ Hid (Below W.heap.size W wr) ∧ Hid (wr.heap[w1.heap.size]? = some (.cells #[.int .i64 t, .slice pa ll pc] 43))) (fun jv _ => ll - (intOf jv).toNat)
          case atStart => exact ⟨0, Nat.zero_le _, rfl, NX, MX, BX, hxb⟩
          case round =>
            clear NX MX BX hxb
            obtain ⟨j, hj, rfl, hN, hmap, hB, hxb⟩ := hrel
            have hwz := hB.out.size
            by_cases hjl : j < ll
            · have hjL : j < L.length := by rw [HLL.out]; exact hjl
              have hgj := mix_get (relA v) (ar_get hjL)
              have hto := LTO.out _ (ar_mem hjL)
              have hms := mix_set (relA v) (ar_get hjL)
              have hjm : j < (mix (relA v) j L).length := by rw [mix_len]; exact hjL
              have haj : ar (mix (relA v) j L) j = ar L j := by
                have := ar_get hjm
                rw [hgj] at this
                exact (Option.some.inj this).symm
              have hav := fun z => avals_set hjm z
              have hcv := avals_get hjm
              rw [haj] at hav hcv
              obtain ⟨f, hf⟩ : ∃ f, ar L j = f := ⟨_, rfl⟩
              rw [hf] at hto hms hav hcv
              obtain ⟨ff, tt⟩ := f
              obtain ⟨g, hg⟩ : ∃ g, pa = some ⟨g, 0, none⟩ := by
                have harc := hN.out.arcs k _ (mix (relA v) j L) HP.out (by rw [List.getElem?_set_self (by rw [mix_len]; exact hkL)])
                obtain ⟨_, ⟨e, e2⟩ | ⟨g1', c1', cur1', e, _⟩⟩ := harc
                · rw [mix_len, HLL.out] at e2; omega
                · cases e; exact ⟨_, rfl⟩
              subst hg
              have NA := Lib.hid (hN.out.below (ba wr (.cells #[.int .i64 ff, .int .i64 tt] 45)))
              have hsl : ((mix (List.map (relA v)) k Ls).set k (mix (relA v) j L))[k]? = some (mix (relA v) j L) := by rw [List.getElem?_set_self (by rw [mix_len]; exact hkL)]
              have harc0 := hN.out.arcs k _ (mix (relA v) j L) HP.out hsl
              rw [mix_len, HLL.out] at harc0
              have harc := NA.out.arcs k _ (mix (relA v) j L) HP.out hsl
              rw [mix_len, HLL.out] at harc
              have d0 : wr.cell? ⟨g, j * 2, none⟩ = some (.int .i64 ff) := (harc0.cellAt _ (by omega)).trans hcv.1
              have d1 : wr.cell? ⟨g, j * 2 + 1, none⟩ = some (.int .i64 tt) := (harc0.cellAt _ (by omega)).trans hcv.2
              have e1 : (wr.alloc (.cells #[.int .i64 ff, .int .i64 tt] 45)).cell? ⟨g, j * 2 + 1, none⟩ = some (.int .i64 tt) := (harc.cellAt _ (by omega)).trans hcv.2
              have e2 : (wr.alloc (.cells #[.int .i64 ff, .int .i64 tt] 45)).frozen? ⟨g, j * 2 + 1, none⟩ = false := harc.frozenAt _
              have x1 : (wr.alloc (.cells #[.int .i64 ff, .int .i64 tt] 45)).cell? ⟨w1.heap.size, 1, none⟩ = some (.slice (some ⟨g, 0, none⟩) ll pc) := (World.cell?_alloc_lt _ _ _ (lt_of_block hxb.out)).trans (by rw [cell_of_row _ _ _ _ _ _ hxb.out]; rfl)
              have MA := Lib.hid (hmap.out.alloc (.cells #[.int .i64 ff, .int .i64 tt] 45))
              have htt : ((tt.toNat : Nat) : Int) = tt := Int.toNat_of_nonneg hto.1
              have HG : Hid (mget M tt (.int .i64 0) = .int .i64 ((v.idxOf tt.toNat : Nat) : Int)) := by
                show _ = _
                have := hM.out.get_ _ hto.2.1
                rwa [htt] at this
              have HT64 : Hid (R64 tt) := by show _ ∧ _; have := hto.2.2; omega
              have hsa := NA.out.setAt (i := k) (j := j * 2 + 1) (L' := mix (relA v) (j + 1) L) (.int .i64 ((v.idxOf tt.toNat : Nat) : Int)) HP.out hsl (by rw [hav, ← hms]; rfl) (by rw [mix_len, mix_len])
              have N2 := Lib.hid hsa.1
              have M2 := Lib.hid (map_apart MA.out hsa.2 (own_map harc MA.out))
              have hgB := (harc.lt g rfl).1
              have B2 := Lib.hid ((hB.out.alloc hwz (.cells #[.int .i64 ff, .int .i64 tt] 45)).setCell (p := ⟨g, j * 2 + 1, none⟩) hgB (.int .i64 ((v.idxOf tt.toNat : Nat) : Int)))
              have hxg : g ≠ w1.heap.size := fun e => by
                obtain ⟨_, ⟨q1, _⟩ | ⟨g1', c1', cur1', q1, _, q2, _⟩⟩ := harc0
                · cases q1
                · cases q1
                  rw [e, hxb.out] at q2
                  cases q2
              have X2 : Hid (((wr.alloc (.cells #[.int .i64 ff, .int .i64 tt] 45)).setCell ⟨g, j * 2 + 1, none⟩ (.int .i64 ((v.idxOf tt.toNat : Nat) : Int))).heap[w1.heap.size]? = some (.cells #[.int .i64 t, .slice (some ⟨g, 0, none⟩) ll pc] 43)) := by
                show _ = _
                rw [heap_setCell_other _ _ _ _ (fun e => hxg e.symm), heap_alloc_old _ _ (lt_of_block hxb.out)]
                exact hxb.out
              obtain ⟨ix, hix⟩ : ∃ ix, ((v.idxOf tt.toNat : Nat) : Int) = ix := ⟨_, rfl⟩
              rw [hix] at HG N2 M2 B2 X2
              have hj0 : (0 : Int) ≤ (j : Int) := by omega
              have hj1 : (j : Int) < (ll : Int) := by omega
              clear hgj hto hms haj hav hcv hf hsl harc harc0 hsa htt hix hxg hjL hjm
              go_wp2_with (at_lookup; refine wpList_lookup_raw rfl _ _ 50 rfl 3 Try.underlying50 (zeroI _) W.heap.size vl M rfl MA.out tt rfl HT64.out ?_; rw [HG.out])
              go_roundw
              case rel => exact ⟨j + 1, by omega, by go_num, by have := N2.out; rwa [List.set_set] at this, M2, B2, X2⟩
              case measure => simp [intOf]; omega
            · obtain rfl : j = ll := by omega
              have N3 : Hid (OwnN wr W.heap.size (.slice (some ⟨ng, 0, none⟩) vl nc) P (mix (List.map (relA v)) (k + 1) Ls)) := by
                show OwnN _ _ _ _ _
                have := hN.out
                rw [← HLL.out, mix_all, mix_set (List.map (relA v)) HL2.out] at this
                exact this
              clear hN
              go_wp2
              go_roundw
              case rel => exact ⟨k + 1, by omega, by go_num, N3, hmap, hB⟩
              case measure => simp [intOf]; omega
        · obtain rfl : k = vl := by omega
          have hN3 : OwnN w1 W.heap.size (.slice ni k nc) P (Ls.map (List.map (relA v))) := by
            have := hN.out
            rwa [← HLl.out, mix_all, HLl.out] at this
          have hrb : w1.heap[w.heap.size + 1]? = some (.cells #[.slice none 0 0] 25) := (hB.out.block _ (by have := HZ.out; omega)).trans HRES.out
          have r0 : w1.cell? ⟨w.heap.size + 1, 0, none⟩ = some (.slice none 0 0) := by rw [cell_of_row _ _ _ _ _ _ hrb]; rfl
          have r1 : w1.frozen? ⟨w.heap.size + 1, 0, none⟩ = false := by simp [World.frozen?, hrb]
          have HRB := Lib.hid hrb
          have NEWA : Hid (∀ p, ni = some p → w.heap.size ≤ p.block) := fun p e => by
            have h3 := (hN3.row.lt p.block (by rw [e]; rfl)).1
            have := HZ.out
            omega
          have hne : ∀ {e s m : Nat} {vv : Value} {xs : List Value}, w1.ownsRow W.heap.size e s vv m xs → ∀ g', vv.ownBlock = some g' → some (w.heap.size + 1) ≠ some g' := fun h g' hg e => by
            have := (h.lt g' hg).1
            have h2 := HZ.out
            have h3 := Option.some.inj e
            omega
          have hgr : w1.grownBy (w1.setCell ⟨w.heap.size + 1, 0, none⟩ (.slice ni k nc)) (some (w.heap.size + 1)) := ⟨rfl, rfl, rfl, by simp, fun q _ hq => heap_setCell_other w1 ⟨w.heap.size + 1, 0, none⟩ q _ (fun e => hq (by simp [e]))⟩
          have hN4 := hN3.kept hgr (fun g' hg => hne hN3.row g' hg) (fun i p L g' h1 h2 hg => hne (hN3.arcs i p L h1 h2) g' hg)
          obtain ⟨ra, rc, hre, hIG⟩ := hN4.isG (fun L hL z hz => by
            obtain ⟨L0, hL0, rfl⟩ := List.mem_map.1 hL
            obtain ⟨z0, hz0, rfl⟩ := List.mem_map.1 hz
            exact HRA.out L0 hL0 z0 hz0)
          rw [HPL.out] at hre hIG
          cases hre
          have hout : (P.map Prod.fst).zip (Ls.map (List.map (relA v))) = outG F v := by
            rw [hT.out, ← HLs.out]
            unfold typs arcss outG outN
            rw [List.map_map, List.zip_map']
            rfl
          rw [hout] at hIG
          have IG := Lib.hid hIG
          have B3 := Lib.hid ((B1.out.trans (hB.out.mono B1.out.size)).setCell (p := ⟨w.heap.size + 1, 0, none⟩) (by show w.heap.size ≤ w.heap.size + 1; omega) (.slice ni k nc))
          clear hN hN3 hN4 hIG hout hne hgr hmap hM hB
          go_wp2
          refine bodyPost_ret (results_cell_row rfl _ _ (w.heap.size + 1) 25 #[.slice ni k nc] (0, 0) _ rfl (heap_setCell_same w1 (w.heap.size + 1) 0 _ _ _ HRB.out) Try.underlying25 rfl (by kernel_rfl)) rfl ?_
          rw [← HVL.out] at IG B3 ⊢
          exact ⟨v, _, _, DF.out, rfl, IG.out, B3.out, NEWA.out⟩
    | cons x s =>
      have hrow1 := hrow.out
      rw [smem_cons, List.length_cons] at hrow1
      obtain ⟨g, c, rfl, hgc, hgm, hcell⟩ := owns_top hrow1
      have POP := Lib.hid (owns_pop hrow1)
      have hxn : x < n := by rw [← HL.out]; exact hS.out.sok x List.mem_cons_self
      have HH := Lib.hid (hM.out.has_ x)
      have HX64 : Hid (R64 (x : Int)) := by show _ ∧ _; omega
      unfold maxLen at hgm
      clear hrow1 hrow
      obtain ⟨sl, hsl⟩ : ∃ q, s.length = q := ⟨_, rfl⟩
      rw [hsl]
      rw [hsl] at POP hgc hcell
      have hsub : ((sl + 1 : Nat) : Int) - 1 = (sl : Int) := by omega
      have hwrap : IntKind.i64.wrap (sl : Int) = (sl : Int) := by rw [IntKind.wrap_i64]; omega
      have HSL := Lib.hid hsl
      clear hsl
      by_cases hxv : x ∈ v
      · rw [decide_eq_true hxv] at HH
        have ST' := Lib.hid (hS.out.skip hxv)
        clear hS hxv
        go_wp2_with (at_lookup; refine wpList_lookup_raw_ok rfl _ _ 50 rfl 3 Try.underlying50 (zeroI _) W.heap.size v.length M rfl hmap.out (x : Int) rfl HX64.out ?_; rw [HH.out])
        go_roundw
        case rel => exact ⟨s, v, M, P, ST', by rw [HSL.out]; exact POP.out, hmap, hM, hN, hT, hB⟩
        case measure => simp [lenOf]
      · rw [decide_eq_false hxv] at HH
        have HXV := Lib.hid hxv
        have ST' := Lib.hid (hS.out.step hxv HF.out HA.out)
        have hroom := hS.out.room hxv
        rw [HL.out] at hroom
        have hbnd := hS.out.bnd
        rw [List.length_cons, HSL.out] at hbnd
        have hkl : x < F.length := by rw [HL.out]; exact hxn
        have HALX := Lib.hid (HA.out _ (nd_mem hkl))
        have HDX := Lib.hid (fine_dif HF.out hkl)
        have HTG := Lib.hid (fun a ha => ((HF.out _ (nd_mem hkl)).1 a ha).1)
        have HTL := Lib.hid (tos_len F x)
        have HFX := Lib.hid (fun y hy => tos_lt HF.out hkl y hy)
        have M' := Lib.hid (hM.out.put (owns_isMap hmap.out) hxv)
        clear hS hxv hkl hM
        obtain ⟨b, off, rfl, hbl, hx0⟩ := H.out.at_ (by omega)
        obtain ⟨xa, xc, hd0⟩ := hx0 x hxn
        have HD := Lib.hid (fun V (hV : Below W.heap.size W V) => hd0.below hbl hV)
        have HBX := Lib.hid (fun V (hV : Below W.heap.size W V) => show V.cell? ⟨w.heap.size, 0, none⟩ = some (.slice (some ⟨b, off, none⟩) n cap) from (hV.cell (p := ⟨w.heap.size, 0, none⟩) (by have := HZ.out; show w.heap.size < _; omega)).trans d1)
        clear hx0 hd0
        obtain ⟨vl, hvl⟩ : ∃ q, v.length = q := ⟨_, rfl⟩
        rw [hvl] at hmap hroom M' hbnd hPv
        have HVL := Lib.hid hvl
        have HRX := Lib.hid (HRNG.out x hxn)
        have hTA : Hid (typs F (v ++ [x]) = typs F v ++ [(nd F x).1] ∧ arcss F (v ++ [x]) = arcss F v ++ [srt (nd F x).2]) := by unfold typs arcss; exact ⟨by simp, by simp⟩
        obtain ⟨y, hy⟩ : ∃ y, nd F x = y := ⟨_, rfl⟩
        have HTOS : Hid (tos F x = (srt y.2).map fun a => a.2.toNat) := by show _ = _; rw [← hy]; rfl
        rw [hy] at HD HALX HDX HTL HRX hTA HTG
        clear hvl hy
        obtain ⟨ni, nc, rfl, _⟩ : ∃ a c, u6 = Value.slice a P.length c ∧ True := by
          obtain ⟨_, ⟨e, e2⟩ | ⟨g1, c1, cur1, e, _⟩⟩ := hN.out.row
          · exact ⟨none, 0, by rw [e, e2], trivial⟩
          · exact ⟨_, _, e, trivial⟩
        have hPl := hPv.out
        rw [hPl] at hN
        rw [hPl]
        have hmp0 := hmap.out
        obtain ⟨yl, hyl⟩ : ∃ q, y.2.length = q := ⟨_, rfl⟩
        have hyl64 := HALX.out
        rw [hyl] at hyl64 HTL
        have HD2 : Hid (∀ V, Below W.heap.size W V → V.cell? ⟨b, off + x * 2, none⟩ = some (.int .i64 y.1) ∧ V.cell? ⟨b, off + x * 2 + 1, none⟩ = some (.slice xa yl xc) ∧ IsArcs V xa yl xc y.2) := fun V hV => by
          have h := HD.out V hV
          have h1 := h.c1
          have h2 := h.is
          rw [hyl] at h1 h2
          exact ⟨h.c0, h1, h2⟩
        have HYL := Lib.hid hyl
        obtain ⟨z0, hz0⟩ : ∃ z, (yl : Int) - 1 = z := ⟨_, rfl⟩
        have hz1 : IntKind.i64.wrap z0 = z0 := by rw [IntKind.wrap_i64]; omega
        have HZ0 := Lib.hid hz0
        clear hyl
        have hx1 : (x : Int) < (n : Int) := by omega
        have hx2 : (0 : Int) ≤ (x : Int) := by omega
        go_wp2_with (first
          | (at_lookup; refine wpList_lookup_raw_ok rfl _ _ 50 rfl 3 Try.underlying50 (zeroI _) W.heap.size vl M rfl hmap.out (x : Int) rfl HX64.out ?_; rw [HH.out])
          | (at_mapUpdate; refine wpList_update_raw rfl _ _ _ 50 rfl 3 Try.underlying50 W.heap.size vl M rfl hmap.out (by omega) (x : Int) (.int .i64 (vl : Int)) rfl HX64.out rfl ?_; intro w2 hown2 hgrow2; have MP2 := Lib.hid hown2; have B2 := Lib.hid (hB.out.grown hgrow2 hws (fun j e => by cases e; exact Nat.le_refl _)); have N2 := Lib.hid (hN.out.kept hgrow2 (fun g' e e2 => own_map hN.out.row hmp0 (e.trans e2.symm)) (fun i p L g' h1 h2 e e2 => own_map (hN.out.arcs i p L h1 h2) hmp0 (e.trans e2.symm))); have P2 := Lib.hid (POP.out.kept hgrow2 (.inr (own_map POP.out hmp0))); have bx2 := HBX.out _ B2.out; obtain ⟨cx0, cx1, ix⟩ := HD2.out _ B2.out; have IX := Lib.hid ix; clear ix; clear hown2 hgrow2))
        refine (ascending_any w2 _ _ _ _ IX.out (by omega) HDX.out).mono ?_
        rintro e w3 ⟨v3, rfl, hown3, hb3⟩
        obtain ⟨va, vc, rfl, hIA⟩ := IsArcs.of_owns hown3 (fun z hz => HRX.out z ((srt_perm _).mem_iff.1 hz))
        have O3 := Lib.hid hown3
        have B3 := Lib.hid (B2.out.trans (hb3.mono B2.out.size))
        have N3 := Lib.hid (N2.out.below hb3)
        have P3 := Lib.hid (owns_below P2.out hb3)
        have MP3 := Lib.hid (map_below MP2.out hb3)
        have HFR := Lib.hid (fun (i : Nat) (q : Int × Value) (hq : P[i]? = some q) (g : Nat) (hg : q.2.ownBlock = some g) (hv : (Value.slice va yl vc).ownBlock = some g) => fresh_ne N2.out hown3 hq hg hv)
        have bx3 := HBX.out _ B3.out
        obtain ⟨dx0, dx1, _⟩ := HD2.out _ B3.out
        clear hown3 hb3 hIA
        go_wp2_with (at_builtin; refine wpList_append_node (w := w3.alloc (.cells #[.int .i64 y.1, .slice va yl vc] 43)) rfl _ _ rfl W.heap.size _ P rfl (N3.out.row.alloc _) w3.heap.size 1 (y.1, .slice va yl vc) rfl (heap_alloc_new w3 _) rfl (by have := hPv.out; omega) (by have := B3.out.size; simp; omega) ?_; intro v4 w4 hown4 hgrow4; have PS := Lib.hid (after_push N3.out MP3.out P3.out O3.out (by have := B2.out.size; omega) HYL.out (y.1) HFR.out B3.out B3.out.size hown4 hgrow4); clear hown4 hgrow4)
        have SLEN : Hid ((typs F (v ++ [x])).length = vl + 1) := by show _ = _; unfold typs; simp; exact HVL.out
        have hslb : sl ≤ 300000 := by omega
        have T2 : Hid ((P ++ [(y.1, Value.slice va yl vc)]).map Prod.fst = typs F (v ++ [x])) := by show _ = _; rw [hTA.out.1, List.map_append, hT.out]; rfl
        have A2 : Hid (arcss F v ++ [srt y.2] = arcss F (v ++ [x])) := hTA.out.2.symm
        have HP1 : Hid (P.length = vl) := hPv
        clear hN hT hTA hPl hmp0 N2 P2 MP2 N3 P3 MP3 O3 POP hmap bx2 cx0 cx1 dx0 dx1 bx3 HFR IX HH hbnd
        go_loopw [7, 12] (fun wt zv wr => ∃ (t : Nat) (z : Int) (q : Nat), t ≤ yl ∧ z = (t : Int) - 1 ∧ zv = .int .i64 z ∧ q = ((tos F x).drop t ++ s).length ∧ Hid (wr.ownsRow W.heap.size 3 1 wt q (ivals (smem ((tos F x).drop t ++ s)))) ∧ Hid (OwnN wr W.heap.size v4 (P ++ [(y.1, Value.slice va yl vc)]) (arcss F v ++ [srt y.2])) ∧ Hid (wr.ownsMap Try.prog 3 raw W.heap.size (vl + 1) (mput M (x : Int) (.int .i64 (vl : Int)))) ∧ Hid (Below W.heap.size W wr)) (fun _ zv _ => (intOf zv + 1).toNat)
        case atStart => exact ⟨yl, z0, sl, Nat.le_refl _, HZ0.out.symm, rfl, (by rw [List.drop_eq_nil_of_le (by rw [HTL.out]; exact Nat.le_refl _), List.nil_append]; exact HSL.out.symm), (by rw [List.drop_eq_nil_of_le (by rw [HTL.out]; exact Nat.le_refl _), List.nil_append]; exact PS.out.wait), PS.out.nodes, PS.out.map, PS.out.below⟩
        case round =>
          clear PS
          obtain ⟨t, z, q, ht, hz, rfl, hq, hrow, hN, hMP, hB⟩ := hrel
          have hwz := hB.out.size
          cases t with
          | zero =>
            have hzn : ¬ (0 ≤ z) := by omega
            have hzd : decide (z ≥ 0) = false := decide_eq_false hzn
            clear hz
            have hq2 : q ≤ sl + 64 := by
              rw [hq, List.drop_zero, List.length_append, HTL.out, HSL.out]; omega
            obtain ⟨hv4a, hv4c, hv4, _⟩ : ∃ a c, v4 = Value.slice a (vl + 1) c ∧ True := by
              have hl : (P ++ [(y.1, Value.slice va yl vc)]).length = vl + 1 := by rw [List.length_append, HP1.out]; rfl
              have hrw := hN.out.row
              rw [hl] at hrw
              obtain ⟨_, ⟨e, e2⟩ | ⟨g1, c1, cur1, e, _⟩⟩ := hrw
              · omega
              · exact ⟨_, _, e, trivial⟩
            have hqt : ∃ a c, u7 = Value.slice a q c := by
              obtain ⟨_, ⟨e, e2⟩ | ⟨g1, c1, cur1, e, _⟩⟩ := hrow.out
              · exact ⟨none, 0, by rw [e, e2]⟩
              · exact ⟨_, _, e⟩
            obtain ⟨qa, qc, rfl⟩ := hqt
            subst hv4
            rw [A2.out] at hN
            go_wp2
            go_roundw
            case rel => exact ⟨tos F x ++ s, v ++ [x], _, _, ST', (by have := hrow.out; rw [List.drop_zero] at this hq; rw [← hq]; exact this), (by rw [List.length_append, HVL.out]; exact hMP.out), M', hN, T2, hB⟩
            case measure => simp [lenOf]; omega
          | succ t =>
            obtain rfl : z = (t : Int) := by omega
            have hIA : IsArcs wr va yl vc (srt y.2) := by
              have h1 := hN.out.arcs P.length (y.1, Value.slice va yl vc) (srt y.2) (by rw [List.getElem?_append_right (Nat.le_refl _)]; simp) (by rw [List.getElem?_append_right (by rw [← nodes_len F v hN.out]; exact Nat.le_refl _), ← nodes_len F v hN.out]; simp)
              obtain ⟨a', c', e, h'⟩ := IsArcs.of_owns h1 (fun z hz => HRX.out z ((srt_perm _).mem_iff.1 hz))
              cases e
              exact h'
            obtain ⟨ab, ao, rfl, habl, hax⟩ := hIA.at_ (by omega)
            have c0 := (hax t (by omega)).2
            have htl : t < (tos F x).length := by rw [HTL.out]; omega
            have hdr : (tos F x).drop t = (ar (srt y.2) t).2.toNat :: (tos F x).drop (t + 1) := by
              rw [List.drop_eq_getElem_cons htl]
              congr 1
              have := ar_get (L := srt y.2) (i := t) (by rw [srt_len, HYL.out]; omega)
              have e2 := congrArg (fun l : List Nat => l[t]?) HTOS.out
              simp only [List.getElem?_map, this, Option.map_some] at e2
              rw [List.getElem?_eq_getElem htl] at e2
              exact Option.some.inj e2
            have hpos : 0 ≤ (ar (srt y.2) t).2 := by
              have hm := ar_mem (L := srt y.2) (i := t) (by rw [srt_len, HYL.out]; omega)
              have := HTG.out _ ((srt_perm _).mem_iff.1 hm)
              exact this
            have HDR : Hid (smem ((tos F x).drop t ++ s) = smem ((tos F x).drop (t + 1) ++ s) ++ [(ar (srt y.2) t).2] ∧ ((tos F x).drop t ++ s).length = ((tos F x).drop (t + 1) ++ s).length + 1) := by
              show _ ∧ _
              rw [hdr, List.cons_append, smem_cons]
              refine ⟨?_, by simp⟩
              rw [Int.toNat_of_nonneg hpos]
            have hq3 : q ≤ sl + 64 := by
              rw [hq, List.length_append, List.length_drop, HTL.out, HSL.out]; omega
            obtain ⟨f, hf⟩ : ∃ f, (ar (srt y.2) t).2 = f := ⟨_, rfl⟩
            rw [hf] at c0 HDR
            have ht0 : (0 : Int) ≤ (t : Int) := by omega
            have ht1 : (t : Int) < (yl : Int) := by omega
            obtain ⟨hqa, hqc, hqe⟩ : ∃ a c, u7 = Value.slice a q c := by
              obtain ⟨_, ⟨e, e2⟩ | ⟨g1, c1, cur1, e, _⟩⟩ := hrow.out
              · exact ⟨none, 0, by rw [e, e2]⟩
              · exact ⟨_, _, e⟩
            subst hqe
            have WA := Lib.hid (hrow.out.alloc (.cells #[.int .i64 f] 3))
            have NA := Lib.hid (hN.out.below (ba wr (.cells #[.int .i64 f] 3)))
            have MA := Lib.hid (hMP.out.alloc (.cells #[.int .i64 f] 3))
            have HQ := Lib.hid hq
            clear hf hdr hpos htl hax hIA hq hz
            go_wp2_with (at_builtin; refine wpList_append_ints (w := wr.alloc (.cells #[.int .i64 f] 3)) rfl _ _ rfl W.heap.size _ q _ rfl WA.out wr.heap.size 1 [f] #[.int .i64 f] rfl (heap_alloc_new wr _) rfl (by simp; omega) (by simp; omega) ?_; intro v5 w5 hown5 hgrow5 _; have O5 := Lib.hid hown5; have N5 := Lib.hid (nodes_kept NA.out WA.out hgrow5); have M5 := Lib.hid (map_apart MA.out hgrow5 (own_map WA.out MA.out)); have B5 := Lib.hid (grown_below (hB.out.alloc hwz _) (by simp; omega) WA.out hgrow5); clear hown5 hgrow5)
            go_roundw
            case rel => exact ⟨t, (t : Int) - 1, q + 1, by omega, rfl, rfl, by rw [HDR.out.2, ← HQ.out], by rw [HDR.out.1]; exact O5.out, N5, M5, B5.out⟩
            case measure => simp [intOf]
theorem Sub_cf_new (w : World) (a : Option Addr) (n cap : Nat) (F : Gr) (h : IsG w a n cap F) (hf : Fine F) (hs : Siz F) (root : Nat) (hr : root < n) :
    Calls Try.prog 20 #[.agg #[.slice a n cap], .int .i64 root] w fun e w' => ∃ aa cc, e = .returned (.agg #[.slice aa (cf F root).length cc]) ∧ IsG w' aa (cf F root).length cc (cf F root) ∧ Below w.heap.size w w' ∧ ∀ p, aa = some p → w.heap.size ≤ p.block := by
  refine (Sub_new w a n cap F h hf hs.arcs (by rw [← h.len]; exact hs.len) root hr).mono ?_
  rintro e w' ⟨r, aa, cc, hd, rfl, hg, hb, hn⟩
  refine ⟨aa, cc, ?_, ?_, hb, hn⟩
  · rw [cf_eq hd, outG_len]
  · rw [cf_eq hd, outG_len]; exact hg
def CanonNew (F : Gr) (w : World) (e : Ending) (w' : World) : Prop := ∃ aa cc, e = .returned (.tuple #[.agg #[.slice aa (can F).length cc], .int .i64 ((frm F : Nat) : Int)]) ∧ IsG w' aa (can F).length cc (can F) ∧ Below w.heap.size w w' ∧ ∀ p, aa = some p → w.heap.size ≤ p.block
theorem Canon_postN (F : Gr) (w w1 : World) (tmps : Array Value) (g : Nat) (aa : Option Addr) (cc : Nat) (h2 : tmps.getD 2 undef = .pointer (some ⟨g, 0, none⟩)) (h3 : tmps.getD 3 undef = .int .i64 ((frm F : Nat) : Int))
    (hg : w1.heap[g]? = some (.cells #[.slice aa (can F).length cc] 25)) (hI : IsG w1 aa (can F).length cc (can F)) (hb : Below w.heap.size w w1) (hn : ∀ p, aa = some p → w.heap.size ≤ p.block) : bodyPost Try.prog Try.f13 (CanonNew F w) .ret { tmps := tmps, defers := [] } w1 := by
  have hr : (results Try.f13 tmps).run Try.prog w1 = .ok (.tuple #[.agg #[.slice aa (can F).length cc], .int .i64 ((frm F : Nat) : Int)]) w1 := by
    have hrs : Try.f13.results = #[.cell 2 25, .tmp 3] := by kernel_rfl
    have hl := run_loadVar_row (P := Try.prog) w1 g 25 25 _ (0, 0) _ hg Try.underlying25 rfl (by show _ = some 1; kernel_rfl)
    have h2' : tmps[2]?.getD undef = .pointer (some ⟨g, 0, none⟩) := by simpa using h2
    have h3' : tmps[3]?.getD undef = .int .i64 ((frm F : Nat) : Int) := by simpa using h3
    simp [results, hrs, h2', h3', asAddr, hl, Sem.run_bind, Result.andThen]
  exact bodyPost_ret hr rfl ⟨aa, cc, rfl, hI, hb, hn⟩
set_option maxRecDepth 100000 in
set_option maxHeartbeats 1600000 in
theorem Canon_new (w : World) (a : Option Addr) (n cap : Nat) (F : Gr) (h : IsG w a n cap F) (hs : Siz F ∨ 4097 ≤ F.length ∧ ∀ x ∈ F, x.2.length ≤ 64) :
    Calls Try.prog 13 #[.agg #[.slice a n cap]] w (CanonNew F w) := by
  have hA : ∀ x ∈ F, x.2.length ≤ 64 := hs.elim (fun h => h.arcs) (fun h => h.2)
  have hm := h.maxLe
  have hc := h.capLe
  unfold maxLen at hm
  have HL := Lib.hid h.len
  obtain ⟨W, hW⟩ : ∃ W, twoF w (.slice a n cap) (.slice none 0 0) = W := ⟨_, rfl⟩
  obtain ⟨b1, hz, d1, d2⟩ := twoF_is w _ _ W hW
  have HRES := Lib.hid (res_cell w (.slice a n cap) 25 W _ hW)
  have HZ := Lib.hid hz
  have B1 := Lib.hid b1
  have H := Lib.hid (h.below b1)
  obtain ⟨e0, he0⟩ : ∃ e0, frm F = e0 := ⟨_, rfl⟩
  have EX := Lib.hid (examine_val e0 W a n cap F (h.below b1) (fun x hx => Nat.le_trans (hA x hx) (by decide)) he0)
  have HE0 := Lib.hid he0
  have hwz1 : w.heap.size + 1 < W.heap.size := by omega
  have hwz0 : w.heap.size < W.heap.size := by omega
  clear h b1 hz
  go_enter Try.func13, Try.ntmps13
  by_cases h0 : e0 = 0
  · subst h0
    have ok := frm_ok.1 he0
    have hsz : Siz F := ⟨by have := ok.le; omega, hA⟩
    have hfi := ok.fine
    have hn0 : 0 < n := by rw [← HL.out]; exact ok.pos
    have SB := Lib.hid (fun V (hV : IsG V a n cap F) => Sub_cf_new V a n cap F hV hfi hsz 0 hn0)
    have HC : Hid (can F = cf F 0) := by show _ = _; unfold can; rw [if_pos he0]
    clear he0 ok hA hsz hfi hs
    go_wp2_with fail
    (try rw [hW])
    refine EX.out.mono ?_
    rintro e w1 ⟨rfl, hb1⟩
    have B2 := Lib.hid (B1.out.trans (hb1.mono B1.out.size))
    have x0 := (hb1.cell (p := ⟨w.heap.size, 0, none⟩) hwz0).trans d1
    have hb1s := hb1.size
    have HR1 := Lib.hid ((hb1.block _ hwz1).trans HRES.out)
    have H1 := Lib.hid (H.out.below hb1)
    clear hb1 EX d1 d2 hW
    go_wp2_with fail
    refine (SB.out w1 H1.out).mono ?_
    rintro e w2 ⟨aa, cc, rfl, hI, hb2, hnew⟩
    have HNW : Hid (∀ p, aa = some p → w.heap.size ≤ p.block) := fun p e => by
      have h1 := hnew p e
      have h2 := B2.out.size
      omega
    have HR2 := Lib.hid ((hb2.block _ (by omega)).trans HR1.out)
    have r0 : w2.cell? ⟨w.heap.size + 1, 0, none⟩ = some (.slice none 0 0) := by rw [cell_of_row _ _ _ _ _ _ HR2.out]; rfl
    have r1 : w2.frozen? ⟨w.heap.size + 1, 0, none⟩ = false := by simp [World.frozen?, HR2.out]
    have B3 := Lib.hid (B2.out.trans (hb2.mono B2.out.size))
    have hIn := isG_setRes (.slice aa (cf F 0).length cc) hI HR2.out
    rw [← HC.out] at hIn
    have IG := Lib.hid hIn
    rw [← HC.out]
    clear hI hb2 hIn SB hnew
    go_wp2
    exact Canon_postN F w _ _ (w.heap.size + 1) aa cc rfl (by rw [HE0.out]; rfl) (heap_setCell_same w2 (w.heap.size + 1) 0 _ _ _ HR2.out) IG.out (B3.out.setCell (p := ⟨w.heap.size + 1, 0, none⟩) (by show w.heap.size ≤ w.heap.size + 1; omega) _) HNW.out
  · have HC : Hid (can F = []) := by show _ = _; unfold can; rw [if_neg (by rw [he0]; exact h0)]
    have hne : ((e0 : Int) != 0) = true := by simp; omega
    clear he0 hs hA
    go_wp2_with fail
    (try rw [hW])
    refine EX.out.mono ?_
    rintro e w1 ⟨rfl, hb1⟩
    have B2 := Lib.hid (B1.out.trans (hb1.mono B1.out.size))
    have HR1 := Lib.hid ((hb1.block _ hwz1).trans HRES.out)
    have r0 : w1.cell? ⟨w.heap.size + 1, 0, none⟩ = some (.slice none 0 0) := by rw [cell_of_row _ _ _ _ _ _ HR1.out]; rfl
    have r1 : w1.frozen? ⟨w.heap.size + 1, 0, none⟩ = false := by simp [World.frozen?, HR1.out]
    clear hb1 EX d1 d2 hW
    go_wp2
    exact Canon_postN F w _ _ (w.heap.size + 1) none 0 rfl (by rw [HE0.out]; rfl) (by rw [HC.out]; exact heap_setCell_same w1 (w.heap.size + 1) 0 _ _ _ HR1.out) (by rw [HC.out]; exact IsG.nil _) (B2.out.setCell (p := ⟨w.heap.size + 1, 0, none⟩) (by show w.heap.size ≤ w.heap.size + 1; omega) _) (fun p e => by cases e)
end Go.Proofs.Ytlhiiecaphibhaa

/- graph, plain: a chain of nodes, for the law GraphLimits. -/
namespace Go.Proofs.Ytlhiiecaphibhaa
open Go.RowKit Go.Maps

/-- n nodes, each with one arc to the next. -/
def chn (f : Int) (n : Nat) : Gr := (List.range n).map fun i => ((0 : Int), [(f, ((i + 1 : Nat) : Int))])
def full (f : Int) (n : Nat) : Gr := chn f n ++ [((1 : Int), [])]
theorem chn_len (f : Int) (n : Nat) : (chn f n).length = n := by simp [chn]
theorem chn_succ (f : Int) (n : Nat) : chn f (n + 1) = chn f n ++ [((0 : Int), [(f, ((n + 1 : Nat) : Int))])] := by
  unfold chn; rw [List.range_succ, List.map_append]; rfl
theorem full_len (f : Int) (n : Nat) : (full f n).length = n + 1 := by
  unfold full; rw [List.length_append, chn_len]; rfl
theorem full_nd (f : Int) {n i : Nat} (h : i < n) : nd (full f n) i = ((0 : Int), [(f, ((i + 1 : Nat) : Int))]) := by
  unfold nd full
  rw [List.getD_eq_getElem?_getD, List.getElem?_append_left (by rw [chn_len]; exact h)]
  unfold chn
  rw [List.getElem?_map, List.getElem?_range h]; rfl
theorem full_last (f : Int) (n : Nat) : nd (full f n) n = ((1 : Int), []) := by
  unfold nd full
  rw [List.getD_eq_getElem?_getD, List.getElem?_append_right (by rw [chn_len]; exact Nat.le_refl _), chn_len, Nat.sub_self]; rfl
theorem full_tos (f : Int) {n i : Nat} (h : i < n) : tos (full f n) i = [i + 1] := by
  unfold tos; rw [full_nd f h]; rfl
theorem full_tos_last (f : Int) (n : Nat) : tos (full f n) n = [] := by
  unfold tos; rw [full_last]; rfl
theorem full_dfs (f : Int) (n : Nat) : ∀ d k : Nat, k + d = n → Dfs (tos (full f n)) [k] (List.range k) (List.range (n + 1)) := by
  intro d
  induction d with
  | zero =>
    intro k hk
    have e : k = n := by omega
    subst e
    refine .step (by simp) ?_
    rw [full_tos_last, ← List.range_succ]
    exact .done _
  | succ d ih =>
    intro k hk
    refine .step (by simp) ?_
    rw [full_tos f (by omega : k < n), ← List.range_succ]
    exact ih (k + 1) (by omega)
theorem idx_range {n i : Nat} (h : i < n) : (List.range n).idxOf i = i := by
  have := List.Nodup.idxOf_getElem (List.nodup_range (n := n)) i (by rw [List.length_range]; exact h)
  rwa [List.getElem_range] at this
theorem full_cf (f : Int) (n : Nat) : cf (full f n) 0 = full f n := by
  rw [cf_eq (full_dfs f n n 0 (by omega))]
  apply List.ext_getElem?
  intro i
  unfold outG
  rw [List.getElem?_map]
  by_cases hi : i < n + 1
  · rw [List.getElem?_range hi, nd_get (by rw [full_len]; exact hi)]
    simp only [Option.map_some]
    unfold outN
    rcases Nat.lt_succ_iff_lt_or_eq.1 hi with e | e
    · rw [full_nd f e]
      show some ((0 : Int), [(f, (((List.range (n + 1)).idxOf (((i + 1 : Nat) : Int).toNat) : Nat) : Int))]) = _
      rw [Int.toNat_natCast, idx_range (by omega)]
    · subst e
      rw [full_last]; rfl
  · rw [List.getElem?_eq_none (by rw [List.length_range]; omega), List.getElem?_eq_none (by rw [full_len]; omega)]; rfl
theorem full_ok {f : Int} {n : Nat} (hf : 0 ≤ f) (hn : n + 1 ≤ 4096) : frm (full f n) = 0 := by
  refine frm_ok.2 ⟨by rw [full_len]; omega, by rw [full_len]; exact hn, fun x hx => ?_⟩
  obtain ⟨i, hi, rfl⟩ := mem_nd hx
  rw [full_len] at hi
  rcases Nat.lt_succ_iff_lt_or_eq.1 hi with e | e
  · rw [full_nd f e, full_len]
    refine ⟨Int.le_refl _, fun y hy => ?_, by simp [Dif]⟩
    simp at hy
    subst hy
    exact ⟨hf, by show (0 : Int) ≤ ((i : Int) + 1); omega, by show ((i : Int) + 1) < _; omega⟩
  · subst e
    rw [full_last]
    exact ⟨by decide, (fun y hy => by cases hy), by simp [Dif]⟩
theorem full_arcs (f : Int) (n : Nat) : ∀ x ∈ full f n, x.2.length ≤ 64 := fun x hx => by
  obtain ⟨i, hi, rfl⟩ := mem_nd hx
  rw [full_len] at hi
  rcases Nat.lt_succ_iff_lt_or_eq.1 hi with e | e
  · rw [full_nd f e]; show 1 ≤ 64; decide
  · subst e; rw [full_last]; show 0 ≤ 64; decide
theorem full_siz (f : Int) {n : Nat} (h : n ≤ 4096) : Siz (full f n) := ⟨by rw [full_len]; omega, full_arcs f n⟩
theorem long_siz (f : Int) {n : Nat} (h : n ≤ 4095) : Siz (full f n ++ [((1 : Int), [])]) := ⟨by rw [List.length_append, full_len]; simp; omega, fun x hx => by
  rcases List.mem_append.1 hx with hx | hx
  · exact full_arcs f n x hx
  · simp at hx; subst hx; show 0 ≤ 64; decide⟩
theorem long_frm (f : Int) : frm (full f 4095 ++ [((1 : Int), [])]) = 7 := by
  unfold frm
  rw [List.length_append, full_len]
  rfl
theorem Canon_full (w : World) (t : Int) (a : Option Addr) (cap : Nat) (ht : 0 ≤ t) (h : IsG w a 4096 cap (full t 4095)) :
    Calls Try.prog 13 #[.agg #[.slice a 4096 cap]] w fun e w' => ∃ aa cc, e = .returned (.tuple #[.agg #[.slice aa 4096 cc], .int .i64 0]) ∧ IsG w' aa 4096 cc (full t 4095) ∧ Below w.heap.size w w' ∧ ∀ p, aa = some p → w.heap.size ≤ p.block := by
  refine (Canon_new w a 4096 cap (full t 4095) h (.inl (full_siz t (by decide)))).mono ?_
  rintro e w' ⟨aa, cc, rfl, hI, hb, hn⟩
  have h0 := full_ok (n := 4095) ht (by decide)
  have hc : can (full t 4095) = full t 4095 := by unfold can; rw [if_pos h0, full_cf]
  have hl : (full t 4095).length = 4096 := full_len t 4095
  rw [hc, hl] at hI
  exact ⟨aa, cc, by rw [hc, hl, h0]; rfl, hI, hb, hn⟩
theorem Canon_long (w : World) (t : Int) (a : Option Addr) (cap : Nat) (h : IsG w a 4097 cap (full t 4095 ++ [((1 : Int), [])])) :
    Calls Try.prog 13 #[.agg #[.slice a 4097 cap]] w fun e w' => ∃ aa cc, e = .returned (.tuple #[.agg #[.slice aa 0 cc], .int .i64 7]) ∧ Below w.heap.size w w' := by
  refine (Canon_any w a 4097 cap (full t 4095 ++ [((1 : Int), [])]) h (.inl (long_siz t (by decide)))).mono ?_
  rintro e w' ⟨aa, cc, rfl, hI, hb⟩
  have h0 := long_frm t
  have hc : can (full t 4095 ++ [((1 : Int), [])]) = [] := by unfold can; rw [if_neg (by rw [h0]; decide)]
  exact ⟨aa, cc, by rw [hc, h0]; rfl, hb⟩
theorem full_r64 {t : Int} (ht : R64 t) (n : Nat) : ∀ x ∈ full t n, ∀ a ∈ x.2, R64 a.1 := fun x hx a ha => by
  obtain ⟨i, hi, rfl⟩ := mem_nd hx
  rw [full_len] at hi
  rcases Nat.lt_succ_iff_lt_or_eq.1 hi with e | e
  · rw [full_nd t e] at ha
    simp at ha
    subst ha
    exact ht
  · subst e
    rw [full_last] at ha
    cases ha
end Go.Proofs.Ytlhiiecaphibhaa

/- graph: a node appended to an owned row, as one step of a region that draws its order. -/
namespace Go.Proofs.Ytlhiiecaphibhaa
open Go.RowKit Go.Maps

theorem step_append_node {w : World} {ops : Array Oper} {o : Oper} {a : Act} {K : Act → World → Prop} {Q : Exit → Act → World → Prop} {E : Prop} (hgd : o.guard = none) (s x : Operand)
    (ho : o.op = .call { callee := .builtin .append, args := #[s, x], argTypes := #[23, 23] })
    (base : Nat) (v : Value) (n : Nat) (P : List (Int × Value)) (hs : a.eval s = v) (hown : w.ownsRow base 43 2 v n (nvals P))
    (g c : Nat) (p : Int × Value) (hx : a.eval x = .slice (some ⟨g, 0, none⟩) 1 c) (hg : w.heap[g]? = some (.cells #[.int .i64 p.1, p.2] 43)) (hp : p.2.oneCell' = true)
    (h63 : n ≤ 100000) (hbase : base ≤ w.heap.size)
    (h : ∀ g' cap' w', w'.ownsRow base 43 2 (.slice (some ⟨g', 0, none⟩) (n + 1) cap') (n + 1) (nvals (P ++ [p])) → w.grownBy w' v.ownBlock → g' < w'.heap.size → K (a.put o.dst (.slice (some ⟨g', 0, none⟩) (n + 1) cap')) w') :
    if Region.wanted o (yielded ops a.tmps) = true then Oper.wp Try.prog o a w K Q else E := by
  obtain ⟨i0, hi, hz0, hz1, hz2⟩ := info_parts Try.infoN
  exact step_append_lies w hgd s x 23 ho base 43 i0 _ 2 32 Try.underlying23 hi hz0 hz1 hz2 rfl (by decide) v n (nvals P) hs hown ⟨g, 0, none⟩ 1 c [.int .i64 p.1, p.2] hx rfl
    (World.news_of_block hg) (fun u hu => by simp at hu; rcases hu with rfl | rfl; rfl; exact hp) (by omega) (by unfold maxLen; omega) (by omega) hbase w.heap.size rfl fun g' cap w' h1 h2 _ h4 => h g' cap w' (by rw [nvals_app]; exact h1) h2 h4

/-- A box that holds a row of nodes, which reads as a graph. -/
structure BoxN (w : World) (B b0 : Nat) (v : Value) (P : List (Int × Value)) (Ls : List (List Arc)) (F : Gr) : Prop where
  blk : w.heap[b0]? = some (.cells #[v] 25)
  own : OwnN w B v P Ls
  is : (P.map Prod.fst).zip Ls = F
  base : B ≤ w.heap.size
/-- Behind a call that leaves what lies below as it was. -/
theorem BoxN.below {w w' : World} {B b0 : Nat} {v : Value} {P : List (Int × Value)} {Ls : List (List Arc)} {F : Gr} (h : BoxN w B b0 v P Ls F) (hb : Below w.heap.size w w') : BoxN w' B b0 v P Ls F :=
  ⟨(hb.block b0 (lt_of_block h.blk)).trans h.blk, h.own.below hb, h.is, Nat.le_trans h.base hb.size⟩
theorem BoxN.len {w : World} {B b0 : Nat} {v : Value} {P : List (Int × Value)} {Ls : List (List Arc)} {F : Gr} (h : BoxN w B b0 v P Ls F) : P.length = F.length := by
  rw [← h.is, List.length_zip, List.length_map, h.own.len, Nat.min_self]
theorem BoxN.cell {w : World} {B b0 : Nat} {v : Value} {P : List (Int × Value)} {Ls : List (List Arc)} {F : Gr} (h : BoxN w B b0 v P Ls F) : w.cell? ⟨b0, 0, none⟩ = some v := by
  rw [cell_of_row _ _ _ _ _ _ h.blk]; rfl
theorem BoxN.frozen {w : World} {B b0 : Nat} {v : Value} {P : List (Int × Value)} {Ls : List (List Arc)} {F : Gr} (h : BoxN w B b0 v P Ls F) : w.frozen? ⟨b0, 0, none⟩ = false := by
  simp [World.frozen?, h.blk]
/-- A node with a fresh row of arcs is appended, and the row is stored into the box. -/
theorem BoxN.push {w w' : World} {B b0 : Nat} {v v' : Value} {P : List (Int × Value)} {Ls : List (List Arc)} {F : Gr} {p : Int × Value} {L : List Arc} (h : BoxN w B b0 v P Ls F) (hp : w.ownsRow B 45 2 p.2 L.length (avals L))
    (hf : ∀ (i : Nat) (q : Int × Value), P[i]? = some q → ∀ g : Nat, q.2.ownBlock = some g → p.2.ownBlock ≠ some g)
    (hr : w'.ownsRow B 43 2 v' (P.length + 1) (nvals (P ++ [p]))) (hg : w.grownBy w' v.ownBlock) : BoxN (w'.setCell ⟨b0, 0, none⟩ v') B b0 v' (P ++ [p]) (Ls ++ [L]) (F ++ [(p.1, L)]) := by
  have hb := blk_kept hg (owns_rowT h.own.row) h.blk (by decide)
  have hN := h.own.push hp hf hr hg
  have hG := setCell_grown w' b0 0 v'
  have hT := blk_rowT hb
  refine ⟨heap_setCell_same w' b0 0 _ _ v' hb, ⟨owns_keptT hN.row hG hT (by decide), hN.len, fun i q L k1 k2 => owns_keptT (hN.arcs i q L k1 k2) hG hT (by decide), hN.apart⟩, ?_, ?_⟩
  · rw [List.map_append, List.zip_append (by rw [List.length_map, h.own.len]), h.is]; rfl
  · rw [World.size_setCell]; exact Nat.le_trans h.base hg.size
/-- What one append to the box makes of it. -/
theorem box_next {wr w2 w5 : World} {B0 b0 k V g5 c5 : Nat} {pa : Option Addr} {pc : Nat} {P : List (Int × Value)} {Ls : List (List Arc)} {F : Gr} {x : Int} {v : Value} {L : List Arc} {c : Array Value}
    (hX : BoxN wr B0 b0 (.slice pa k pc) P Ls F) (hk : P.length = k) (B2 : Below wr.heap.size wr w2) (ho : w2.ownsRow V 45 2 v L.length (avals L)) (hV : wr.heap.size ≤ V)
    (h5 : w5.ownsRow B0 43 2 (.slice (some ⟨g5, 0, none⟩) (k + 1) c5) (k + 1) (nvals (P ++ [(x, v)]))) (hg : (w2.alloc (.cells c 43)).grownBy w5 (Value.slice pa k pc).ownBlock) :
    BoxN (w5.setCell ⟨b0, 0, none⟩ (.slice (some ⟨g5, 0, none⟩) (k + 1) c5)) B0 b0 (.slice (some ⟨g5, 0, none⟩) (k + 1) c5) (P ++ [(x, v)]) (Ls ++ [L]) (F ++ [(x, L)]) := by
  have X3 := (hX.below B2).below (ba w2 (.cells c 43))
  refine X3.push (p := (x, v)) (L := L) (owns_base (ho.alloc _) (Nat.le_trans hX.base hV)) (fun i q hq g hgq hgv => ?_) (by rw [hk]; exact h5) hg
  have hi : i < Ls.length := by rw [← hX.own.len]; exact (List.getElem?_eq_some_iff.1 hq).1
  have h1 := ((hX.own.arcs i q _ hq (List.getElem?_eq_getElem hi)).lt g hgq).2
  have h2 := (ho.lt g hgv).1
  omega
theorem box_below {w wr w2 w5 : World} {B0 b0 k : Nat} {pa : Option Addr} {pc : Nat} {P : List (Int × Value)} {Ls : List (List Arc)} {F : Gr} {c : Array Value} (u : Value)
    (hX : BoxN wr B0 b0 (.slice pa k pc) P Ls F) (hB : Below w.heap.size w wr) (B2 : Below wr.heap.size wr w2) (hb : w.heap.size ≤ b0) (hb0 : b0 < B0)
    (hg : (w2.alloc (.cells c 43)).grownBy w5 (Value.slice pa k pc).ownBlock) : Below w.heap.size w (w5.setCell ⟨b0, 0, none⟩ u) := by
  have X3 := (hX.below B2).below (ba w2 (.cells c 43))
  have hB2 : Below w.heap.size w w2 := hB.trans (B2.mono hB.size)
  have hB3 : Below w.heap.size w (w2.alloc (.cells c 43)) := hB2.alloc hB2.size _
  exact (hB3.grown hg hB3.size (fun j hj => by have := (X3.own.row.lt j hj).1; omega)).setCell (p := ⟨b0, 0, none⟩) hb u
/-- What lies in the box reads as a graph. -/
theorem BoxN.isG {w : World} {B b0 k c : Nat} {a : Option Addr} {P : List (Int × Value)} {Ls : List (List Arc)} {F : Gr} (h : BoxN w B b0 (.slice a k c) P Ls F) (hk : F.length = k) (hr : ∀ x ∈ F, ∀ z ∈ x.2, R64 z.1) : IsG w a k c F := by
  obtain ⟨a', c', e, hI⟩ := h.own.isG (fun L hL z hz => by
    obtain ⟨i, hi, rfl⟩ := List.getElem_of_mem hL
    have hp : i < (P.map Prod.fst).length := by rw [List.length_map, h.own.len]; exact hi
    have hz0 : i < ((P.map Prod.fst).zip Ls).length := by rw [List.length_zip]; omega
    have hm := List.getElem_mem hz0
    rw [List.getElem_zip] at hm
    rw [h.is] at hm
    exact hr _ hm z hz)
  rw [h.len, hk] at e hI
  rw [h.is] at hI
  injection e with e1 _ e3
  subst e1
  subst e3
  exact hI
/-- A block that is neither the row's nor the box is kept by an append and the store. -/
theorem box_keep {wr w2 w5 : World} {B0 b0 k q : Nat} {pa : Option Addr} {pc : Nat} {P : List (Int × Value)} {Ls : List (List Arc)} {F : Gr} {c : Array Value} (u : Value)
    (hX : BoxN wr B0 b0 (.slice pa k pc) P Ls F) (B2 : Below wr.heap.size wr w2) (hg : (w2.alloc (.cells c 43)).grownBy w5 (Value.slice pa k pc).ownBlock)
    (hq : q < wr.heap.size) (hq1 : q ≠ b0) (hq2 : some q ≠ (Value.slice pa k pc).ownBlock) : (w5.setCell ⟨b0, 0, none⟩ u).heap[q]? = wr.heap[q]? := by
  have h2 : q < w2.heap.size := Nat.lt_of_lt_of_le hq B2.size
  rw [heap_setCell_other w5 ⟨b0, 0, none⟩ q _ hq1, hg.block q (by rw [World.size_alloc]; omega) hq2, heap_alloc_old _ _ h2]
  exact B2.block q hq
end Go.Proofs.Ytlhiiecaphibhaa

/- graph: the walk of the law GraphLimits, its loop. -/
namespace Go.Proofs.Ytlhiiecaphibhaa
open Go.RowKit Go.Maps

theorem node_own (w : World) (t f K : Int) (la : Option Addr) (lc : Nat) (h : IsInts w la 2 lc [f, K]) (hf : R64 f) :
    Calls Try.prog 29 #[.int .i64 t, .slice la 2 lc] w fun e w' => ∃ pa pc, e = .returned (.agg #[.int .i64 t, .slice pa 1 pc]) ∧ w'.ownsRow w.heap.size 45 2 (.slice pa 1 pc) 1 (avals [(f, K)]) ∧ Below w.heap.size w w' := by
  refine (node_any w t la 2 lc [f, K] h (by decide) (fun x hx => ?_)).mono ?_
  · have : prs [f, K] = [(f, K)] := rfl
    rw [this] at hx
    simp at hx
    subst hx
    exact hf
  rintro e w' ⟨v, rfl, ho, hb⟩
  obtain ⟨pa, pc, rfl, _, _⟩ := owns_slice ho
  exact ⟨pa, pc, rfl, ho, hb⟩
theorem node_none (w : World) (t : Int) :
    Calls Try.prog 29 #[.int .i64 t, .slice none 0 0] w fun e w' => ∃ pa pc, e = .returned (.agg #[.int .i64 t, .slice pa 0 pc]) ∧ w'.ownsRow w.heap.size 45 2 (.slice pa 0 pc) 0 (avals []) ∧ Below w.heap.size w w' := by
  refine (node_any w t none 0 0 [] (IsInts.nil w) (by decide) (fun x hx => by cases hx)).mono ?_
  rintro e w' ⟨v, rfl, ho, hb⟩
  obtain ⟨pa, pc, rfl, _, _⟩ := owns_slice ho
  exact ⟨pa, pc, rfl, ho, hb⟩
def EndPost (F : Gr) (w : World) (B0 : Nat) (wr : World) (k : Nat) : Prop := ∃ (g pc : Nat) (P : List (Int × Value)) (Ls : List (List Arc)), BoxN wr B0 w.heap.size (.slice (some ⟨g, 0, none⟩) k pc) P Ls F
def LimPost (f : Int) (w : World) (B0 : Nat) (wr : World) (k : Nat) : Prop := ∃ (pa : Option Addr) (pc : Nat) (P : List (Int × Value)) (Ls : List (List Arc)), BoxN wr B0 w.heap.size (.slice pa k pc) P Ls (chn f k)
set_option maxRecDepth 100000 in
set_option maxHeartbeats 6400000 in
theorem GraphLimits_law (w : World) (t : Int) (h0 : 0 ≤ t) (h1 : t < 256) :
    Calls Try.prog 11 #[.int .u8 t] w fun e w' => e = .returned (.bool true) ∧ Below w.heap.size w w' := by
  have hwrap : IntKind.i64.wrap t = t := by rw [IntKind.wrap_i64]; omega
  have HR : Hid (R64 t) := by unfold R64; show _ ∧ _; omega
  obtain ⟨W, hW⟩ : ∃ W, w.alloc (.cells #[.slice none 0 0] 25) = W := ⟨_, rfl⟩
  have B := Lib.hid (show Below w.heap.size w W from hW ▸ ba w _)
  have hb0 : W.heap[w.heap.size]? = some (.cells #[.slice none 0 0] 25) := hW ▸ heap_alloc_new w _
  obtain ⟨B0, hB0⟩ : ∃ q, W.heap.size = q := ⟨_, rfl⟩
  have BX0 : Hid (LimPost t w B0 W 0) := ⟨none, 0, [], [], hb0, OwnN.nil _ _, rfl, Nat.le_of_eq hB0.symm⟩
  have HB0 := Lib.hid (show w.heap.size < B0 by rw [← hB0, ← hW]; simp)
  clear hb0 hB0
  go_enter Try.func11, Try.ntmps11
  go_wp2_with fail
  (try rw [hW])
  clear hW
  go_loopw [4] (fun kv wr => ∃ k : Nat, k ≤ 4095 ∧ kv = .int .i64 ((k + 1 : Nat) : Int) ∧ Hid (LimPost t w B0 wr k) ∧ Hid (Below w.heap.size w wr)) (fun kv _ => 4096 - (intOf kv).toNat)
  case atStart => exact ⟨0, by omega, rfl, BX0, B⟩
  case round =>
    clear BX0 B
    obtain ⟨k, hk, rfl, hX, hB⟩ := hrel
    obtain ⟨pa, pc, P, Ls, hX⟩ := hX.out
    have hlen := hX.len
    rw [chn_len] at hlen
    obtain ⟨kk, hkk⟩ : ∃ kk, k + 1 = kk := ⟨_, rfl⟩
    have c0 := hX.cell
    have hsz := lt_of_block hX.blk
    have HX := Lib.hid hX
    have HLN := Lib.hid hlen
    clear hX hlen
    by_cases hlt : kk < 4096
    · have hi1 : ((kk : Nat) : Int) < 4096 := by omega
      have ND := Lib.hid (fun V la lc (hV : IsInts V la 2 lc [t, ((kk : Nat) : Int)]) => node_own V 0 t ((kk : Nat) : Int) la lc hV HR.out)
      have BD := Lib.hid ((ba wr (.cells #[.int .i64 t, .int .i64 ((kk : Nat) : Int)] 3)).drew)
      have hKK := Lib.hid hkk
      have hw1 : IntKind.i64.wrap ((kk : Int) + 1) = (kk : Int) + 1 := by rw [IntKind.wrap_i64]; omega
      have HE : Hid (chn t (k + 1) = chn t k ++ [((0 : Int), [(t, ((kk : Nat) : Int))])]) := by show _ = _; rw [chn_succ, hkk]
      rw [hkk]
      clear hkk
      go_wp2_with fail
      go_region_law (first
        | (rw [if_pos (by kernel_rfl)]; go_simp; go_at_call 29; have HH := (lit2 wr _ t ((kk : Nat) : Int) rfl).drew; (with_reducible refine (ND.out _ _ _ HH).mono ?_); rintro e w2 ⟨na, nc, rfl, ho, hb2⟩; have B2 := Lib.hid (BD.out.trans (hb2.mono BD.out.size)); have X2 := Lib.hid (HX.out.below B2.out); have c2 := X2.out.cell; have s2 := lt_of_block X2.out.blk; have O2 := Lib.hid ho; clear ho hb2 HH)
        | (refine step_append_node (by rfl) _ _ (by rfl) B0 _ k P (by rfl) (by have := (X2.out.below (ba w2 (.cells #[.int .i64 0, .slice na 1 nc] 43))).own.row; rw [HLN.out] at this; exact this) w2.heap.size 1 (0, .slice na 1 nc) (by rfl) (heap_alloc_new w2 _) rfl (by omega) (by have := X2.out.base; simp; omega) ?_; intro g5 c5 w5 hown5 hgrow5 hlt5; have K5 := Lib.hid (blk_kept hgrow5 (owns_rowT (X2.out.below (ba w2 (.cells #[.int .i64 0, .slice na 1 nc] 43))).own.row) (X2.out.below (ba w2 (.cells #[.int .i64 0, .slice na 1 nc] 43))).blk (by decide)); have y1 : w5.cell? ⟨w.heap.size, 0, none⟩ = some (.slice pa k pc) := (by rw [cell_of_row _ _ _ _ _ _ K5.out]; rfl); have y2 : w5.frozen? ⟨w.heap.size, 0, none⟩ = false := (by simp [World.frozen?, K5.out]); have O5 := Lib.hid hown5; have G5 := Lib.hid hgrow5; clear hown5 hgrow5 hlt5))
      all_goals (go_wp2; go_roundw)
      all_goals first
        | (simp [intOf]; omega)
        | (refine ⟨k + 1, (by have := hKK.out; omega), by rw [hKK.out]; go_num, ⟨some ⟨g5, 0, none⟩, c5, P ++ [(0, .slice na 1 nc)], Ls ++ [[(t, ((kk : Nat) : Int))]], ?_⟩, box_below (.slice (some ⟨g5, 0, none⟩) (k + 1) c5) HX.out hB.out B2.out (Nat.le_refl _) HB0.out G5.out⟩
           have hh := box_next (x := 0) (v := .slice na 1 nc) (L := [(t, ((kk : Nat) : Int))]) HX.out HLN.out B2.out O2.out (by show _ ≤ _; simp) O5.out G5.out
           rw [HE.out]
           exact hh)
    · have hke : Hid (k = 4095) := by show _ = _; omega
      have hi1 : ¬ (((kk : Nat) : Int) < 4096) := by omega
      rw [hkk]
      have HK1 : Hid (k + 1 = 4096) := by show _ = _; rw [hke.out]
      clear hkk hlt hk
      have hk : k ≤ 4096 := by have := HK1.out; omega
      go_upto_region 6 with fail
      go_cut [2] from 23 (fun s2 wc => s2 = .bool false ∧ Hid (EndPost (chn t k ++ [((1 : Int), [])]) w B0 wc (k + 1)) ∧ Hid (Below w.heap.size w wc))
      case first =>
        (go_region_law (first
          | (rw [if_pos (by kernel_rfl)]; go_simp; go_at_call 29; (with_reducible refine (node_none _ 1).mono ?_); rintro e w2 ⟨na, nc, rfl, ho, hb2⟩; have B2 := Lib.hid ((Below.refl wr.heap.size wr).drew.trans hb2); have X2 := Lib.hid (HX.out.below B2.out); have c2 := X2.out.cell; have s2 := lt_of_block X2.out.blk; have O2 := Lib.hid ho; clear ho hb2)
          | (refine step_append_node (by rfl) _ _ (by rfl) B0 _ k P (by rfl) (by have := (X2.out.below (ba w2 (.cells #[.int .i64 1, .slice na 0 nc] 43))).own.row; rw [HLN.out] at this; exact this) w2.heap.size 1 (1, .slice na 0 nc) (by rfl) (heap_alloc_new w2 _) rfl (by omega) (by have := X2.out.base; simp; omega) ?_; intro g5 c5 w5 hown5 hgrow5 hlt5; have K5 := Lib.hid (blk_kept hgrow5 (owns_rowT (X2.out.below (ba w2 (.cells #[.int .i64 1, .slice na 0 nc] 43))).own.row) (X2.out.below (ba w2 (.cells #[.int .i64 1, .slice na 0 nc] 43))).blk (by decide)); have y1 : w5.cell? ⟨w.heap.size, 0, none⟩ = some (.slice pa k pc) := (by rw [cell_of_row _ _ _ _ _ _ K5.out]; rfl); have y2 : w5.frozen? ⟨w.heap.size, 0, none⟩ = false := (by simp [World.frozen?, K5.out]); have O5 := Lib.hid hown5; have G5 := Lib.hid hgrow5; clear hown5 hgrow5 hlt5)))
        all_goals (try go_wp2_with fail)
        all_goals (go_meet; exact ⟨rfl, ⟨g5, c5, P ++ [(1, .slice na 0 nc)], Ls ++ [[]], box_next (x := 1) (v := .slice na 0 nc) (L := []) HX.out HLN.out B2.out O2.out (Nat.le_refl _) O5.out G5.out⟩, box_below (.slice (some ⟨g5, 0, none⟩) (k + 1) c5) HX.out hB.out B2.out (Nat.le_refl _) HB0.out G5.out⟩)
      case rest =>
        obtain ⟨rfl, hE, hB2⟩ := hcut
        obtain ⟨wk, hwk⟩ : ∃ wk : World, wk = wc := ⟨_, rfl⟩
        subst hwk
        obtain ⟨g1, c1, P1, L1, hX1⟩ := hE.out
        have hke' := hke.out
        subst hke'
        have HX1 : Hid (BoxN wk B0 w.heap.size (.slice (some ⟨g1, 0, none⟩) 4096 c1) P1 L1 (full t 4095)) := hX1
        have I1 := Lib.hid (HX1.out.isG (full_len t 4095) (full_r64 HR.out 4095))
        have c01 := HX1.out.cell
        have s01 := lt_of_block HX1.out.blk
        clear hX1 hE c0
        go_wp2_with fail
        refine (Canon_full wk t _ c1 h0 I1.out).mono ?_
        rintro e w7 ⟨aa, cc, rfl, hI7, hb7, hn7⟩
        obtain ⟨w8, hw8⟩ : ∃ w8, w7.alloc (.cells #[.slice aa 4096 cc] 25) = w8 := ⟨_, rfl⟩
        have hb8 : Below w7.heap.size w7 w8 := hw8 ▸ ba w7 _
        have y8 : w8.heap[w7.heap.size]? = some (.cells #[.slice aa 4096 cc] 25) := hw8 ▸ heap_alloc_new w7 _
        have B8 := Lib.hid (hb7.trans (hb8.mono hb7.size))
        obtain ⟨rb, ro, hra, hrb, hx⟩ := hI7.at_ (by decide)
        subst hra
        obtain ⟨xa, xc, hd⟩ := hx 4095 (by decide)
        have hrn := hn7 _ rfl
        have k8 : w7.cell? ⟨rb, ro + 4095 * 2, none⟩ = some (.int .i64 1) := by have := hd.c0; rw [full_last] at this; exact this
        obtain ⟨m, hm⟩ : ∃ m : Nat, 4096 = m := ⟨_, rfl⟩
        have X8 : Hid (BoxN w8 B0 w.heap.size (.slice (some ⟨g1, 0, none⟩) m c1) P1 L1 (full t 4095)) := by show BoxN _ _ _ _ _ _ _; rw [← hm]; exact HX1.out.below B8.out
        have HL8 : Hid (P1.length = m) := by show _ = _; rw [X8.out.len, full_len, ← hm]
        have HM := Lib.hid hm
        have hm5 : m ≤ 5000 := by omega
        have c08 := X8.out.cell
        have s08 := lt_of_block X8.out.blk
        have BW8 := Lib.hid (hB2.out.trans (B8.out.mono hB2.out.size))
        have g1l : g1 < wk.heap.size := (HX1.out.own.row.lt g1 rfl).2
        have Q1 : Hid (w7.heap.size < w8.heap.size ∧ w7.heap.size ≠ w.heap.size ∧ some w7.heap.size ≠ (Value.slice (some ⟨g1, 0, none⟩) m c1).ownBlock) := by
          refine ⟨by rw [← hw8]; simp, by have := hb7.size; omega, fun e => ?_⟩
          have e2 : w7.heap.size = g1 := Option.some.inj e
          have := hb7.size; omega
        have Q2 : Hid (rb < w8.heap.size ∧ rb ≠ w.heap.size ∧ some rb ≠ (Value.slice (some ⟨g1, 0, none⟩) m c1).ownBlock) := by
          refine ⟨by have := hb8.size; omega, by dsimp only at hrn; omega, fun e => ?_⟩
          have e2 : rb = g1 := Option.some.inj e
          dsimp only at hrn; omega
        have k88 := Lib.hid ((hb8.cell (p := ⟨rb, ro + 4095 * 2, none⟩) hrb).trans k8)
        have Y8 := Lib.hid y8
        clear hI7 hb7 hb8 hn7 hx hd hrn k8 y8 hm g1l c01 s01
        go_upto_region 8 with fail
        (try rw [hw8])
        clear hw8
        go_cut [2] from 34 (fun s2 wc => s2 = .bool false ∧ Hid (EndPost (full t 4095 ++ [((1 : Int), [])]) w B0 wc (m + 1)) ∧ Hid (Below w.heap.size w wc) ∧ Hid (wc.heap[w7.heap.size]? = w8.heap[w7.heap.size]?) ∧ Hid (wc.heap[rb]? = w8.heap[rb]?))
        case first =>
          (go_region_law (first
          | (rw [if_pos (by kernel_rfl)]; go_simp; go_at_call 29; (with_reducible refine (node_none _ 1).mono ?_); rintro e w2 ⟨na, nc, rfl, ho, hb2⟩; have B2 := Lib.hid ((Below.refl w8.heap.size w8).drew.trans hb2); have X2 := Lib.hid (X8.out.below B2.out); have c2 := X2.out.cell; have s2 := lt_of_block X2.out.blk; have O2 := Lib.hid ho; clear ho hb2)
          | (refine step_append_node (by rfl) _ _ (by rfl) B0 _ m P1 (by rfl) (by have := (X2.out.below (ba w2 (.cells #[.int .i64 1, .slice na 0 nc] 43))).own.row; rw [HL8.out] at this; exact this) w2.heap.size 1 (1, .slice na 0 nc) (by rfl) (heap_alloc_new w2 _) rfl (by omega) (by have := X2.out.base; simp; omega) ?_; intro g5 c5 w5 hown5 hgrow5 hlt5; have K5 := Lib.hid (blk_kept hgrow5 (owns_rowT (X2.out.below (ba w2 (.cells #[.int .i64 1, .slice na 0 nc] 43))).own.row) (X2.out.below (ba w2 (.cells #[.int .i64 1, .slice na 0 nc] 43))).blk (by decide)); have y1 : w5.cell? ⟨w.heap.size, 0, none⟩ = some (.slice (some ⟨g1, 0, none⟩) m c1) := (by rw [cell_of_row _ _ _ _ _ _ K5.out]; rfl); have y2 : w5.frozen? ⟨w.heap.size, 0, none⟩ = false := (by simp [World.frozen?, K5.out]); have O5 := Lib.hid hown5; have G5 := Lib.hid hgrow5; clear hown5 hgrow5 hlt5)))
          all_goals (try go_wp2_with fail)
          all_goals (go_meet; exact ⟨rfl, ⟨g5, c5, P1 ++ [(1, .slice na 0 nc)], L1 ++ [[]], box_next (x := 1) (v := .slice na 0 nc) (L := []) X8.out HL8.out B2.out O2.out (Nat.le_refl _) O5.out G5.out⟩, box_below (.slice (some ⟨g5, 0, none⟩) (m + 1) c5) X8.out BW8.out B2.out (Nat.le_refl _) HB0.out G5.out, box_keep _ X8.out B2.out G5.out Q1.out.1 Q1.out.2.1 Q1.out.2.2, box_keep _ X8.out B2.out G5.out Q2.out.1 Q2.out.2.1 Q2.out.2.2⟩)
        case rest =>
          obtain ⟨rfl, hE, hB9, hK1, hK2⟩ := hcut
          obtain ⟨wl, hwl⟩ : ∃ wl : World, wl = wc := ⟨_, rfl⟩
          subst hwl
          obtain ⟨g2, c2, P2, L2, hX2⟩ := hE.out
          have hm' := HM.out
          subst hm'
          have HX2 : Hid (BoxN wl B0 w.heap.size (.slice (some ⟨g2, 0, none⟩) 4097 c2) P2 L2 (full t 4095 ++ [((1 : Int), [])])) := hX2
          have I2 := Lib.hid (HX2.out.isG (by rw [List.length_append, full_len]; rfl) (fun x hx z hz => by
            rcases List.mem_append.1 hx with hx | hx
            · exact full_r64 HR.out 4095 x hx z hz
            · simp at hx; subst hx; cases hz))
          have c02 := HX2.out.cell
          have kb := Lib.hid (hK1.out.trans Y8.out)
          have kc := Lib.hid ((World.cell?_of_block (a := ⟨rb, ro + 4095 * 2, none⟩) hK2.out).trans k88.out)
          clear hX2 hE c08 s08 hK1 hK2 Y8 k88 hm5
          go_wp2_with fail
          refine (Canon_long wl t _ c2 I2.out).mono ?_
          rintro e w9 ⟨za, zc, rfl, hb9⟩
          obtain ⟨wz, hwz⟩ : ∃ wz, w9.alloc (.cells #[.slice za 0 zc] 25) = wz := ⟨_, rfl⟩
          have hbz : Below w9.heap.size w9 wz := hwz ▸ ba w9 _
          have B9 := Lib.hid (hb9.trans (hbz.mono hb9.size))
          have f1 : wz.cell? ⟨w7.heap.size, 0, none⟩ = some (.slice (some ⟨rb, ro, none⟩) 4096 cc) := by rw [cell_of_row _ _ _ _ _ _ ((B9.out.block _ (lt_of_block kb.out)).trans kb.out)]; rfl
          have f2 : wz.cell? ⟨rb, ro + 4095 * 2, none⟩ = some (.int .i64 1) := (B9.out.cell (p := ⟨rb, ro + 4095 * 2, none⟩) (World.block_lt_of_cell? wl _ kc.out)).trans kc.out
          have f3 : wz.cell? ⟨rb, ro + 8190, none⟩ = some (.int .i64 1) := f2
          have BZ := Lib.hid (hB9.out.trans (B9.out.mono hB9.out.size))
          clear hb9 hbz c02
          go_upto_region 10 with fail
          (try rw [hwz])
          clear hwz
          go_wp2_with (go_at_call 16; (with_reducible refine (ex_holds wz).mono ?_); rintro e wx ⟨rfl, hbx⟩; have BX := Lib.hid (BZ.out.trans (hbx.mono BZ.out.size)); clear hbx)
          go_ret
          exact ⟨rfl, BX.out⟩
end Go.Proofs.Ytlhiiecaphibhaa
