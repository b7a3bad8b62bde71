/- Texts joined by wip/gen/merge.py: Go Gp Gq Gr Gs Gg Gt Gu Gv Gw. -/
import Derived.StillTailTactics
import Derived.Deep.RegionLaw
import Derived.OwnWalk
import Derived.Test.YtlhiiecaphibhaaMab
set_option linter.unusedVariables false
set_option linter.unusedSimpArgs false
/- graph: Sub of the program. -/
namespace Go.Proofs.Ytlhiiecaphibhaa
open Go.RowKit Go.Maps

def lenOf : Value → Nat | .slice _ n _ => n | _ => 0
/-- The types of the nodes that were visited. -/
def typs (F : Gr) (v : List Nat) : List Int := v.map fun i => (nd F i).1
def arcss (F : Gr) (v : List Nat) : List (List Arc) := v.map fun i => srt (nd F i).2

theorem fresh_ne {w2 w3 : World} {B n : Nat} {nv v : Value} {P : List (Int × Value)} {Ls : List (List Arc)} {xs : List Value} {e s : Nat} (h : OwnN w2 B nv P Ls) (h3 : w3.ownsRow w2.heap.size e s v n xs) {i : Nat} {q : Int × Value} (hq : P[i]? = some q) {g : Nat} (hg : q.2.ownBlock = some g) (hv : v.ownBlock = some g) : False := by
  have hi : i < Ls.length := by rw [← h.len]; exact (List.getElem?_eq_some_iff.1 hq).1
  have h1 := ((h.arcs i q _ hq (List.getElem?_eq_getElem hi)).lt g hg).2
  have h2 := (h3.lt g hv).1
  omega
theorem nodes_len (F : Gr) (v : List Nat) {w : World} {B : Nat} {nv : Value} {P : List (Int × Value)} {p : Int × Value} {L : List Arc} (h : OwnN w B nv (P ++ [p]) (arcss F v ++ [L])) : P.length = (arcss F v).length := by
  have := h.len
  simpa using this
theorem nodes_kept {w w' : World} {B B' n : Nat} {nv v : Value} {xs : List Value} {P : List (Int × Value)} {Ls : List (List Arc)} (h : OwnN w B nv P Ls) (h2 : w.ownsRow B' 3 1 v n xs) (hg : w.grownBy w' v.ownBlock) : OwnN w' B nv P Ls :=
  h.kept hg (fun g e e2 => by
    have := own_type h.row h2 e e2
    revert this; decide) (fun i p L g h1 h3 e e2 => by
    have := own_type (h.arcs i p L h1 h3) h2 e e2
    revert this; decide)
/-- What stands after a node was appended. -/
structure Pushed (W w4 : World) (mb vl sl g c : Nat) (v4 : Value) (P : List (Int × Value)) (Ls : List (List Arc)) (M : DataW Value) (st : List Int) : Prop where
  nodes : OwnN w4 W.heap.size v4 P Ls
  map : w4.ownsMap Try.prog 3 raw mb vl M
  wait : w4.ownsRow W.heap.size 3 1 (.slice (some ⟨g, 0, none⟩) sl c) sl (ivals st)
  below : Below W.heap.size W w4
theorem after_push {W w2 w3 w4 : World} {mb vl sl g c yl : Nat} {nv v4 v : Value} {P : List (Int × Value)} {Ls : List (List Arc)} {M : DataW Value} {st : List Int} {L : List Arc} (hN : OwnN w3 W.heap.size nv P Ls) (hM : w3.ownsMap Try.prog 3 raw mb vl M)
    (hP : w3.ownsRow W.heap.size 3 1 (.slice (some ⟨g, 0, none⟩) sl c) sl (ivals st)) (hO : w3.ownsRow w2.heap.size 45 2 v yl (avals (srt L))) (hz : W.heap.size ≤ w2.heap.size) (hl : L.length = yl) (t : Int)
    (hf : ∀ (i : Nat) (q : Int × Value), P[i]? = some q → ∀ g : Nat, q.2.ownBlock = some g → v.ownBlock = some g → False) (hB : Below W.heap.size W w3) (hz3 : W.heap.size ≤ w3.heap.size)
    (hr : w4.ownsRow W.heap.size 43 2 v4 (P.length + 1) (nvals (P ++ [(t, v)]))) (hg : (w3.alloc (.cells #[.int .i64 t, v] 43)).grownBy w4 nv.ownBlock) : Pushed W w4 mb vl sl g c v4 (P ++ [(t, v)]) (Ls ++ [srt L]) M st := by
  have hN2 := hN.below (ba w3 (.cells #[.int .i64 t, v] 43))
  have hP2 := hP.alloc (.cells #[.int .i64 t, v] 43)
  have hM2 := hM.alloc (.cells #[.int .i64 t, v] 43)
  refine ⟨hN2.push (p := (t, v)) (by rw [srt_len, hl]; exact owns_base (hO.alloc _) hz) (fun i q hq g' hg' hv => hf i q hq g' hg' hv) hr hg, map_apart hM2 hg (own_map hN2.row hM2), hP2.kept hg (.inr (fun e => ?_)), ?_⟩
  · have := own_type hP2 hN2.row (g := g) rfl e.symm
    revert this; decide
  · exact grown_below (hB.alloc hz3 _) (by simp; omega) hN2.row hg
set_option maxRecDepth 100000 in
set_option maxHeartbeats 6400000 in
theorem Sub_any (w : World) (a : Option Addr) (n cap : Nat) (F : Gr) (h : IsG w a n cap F) (hf : Fine F) (hA : ∀ x ∈ F, x.2.length ≤ 64) (hn : n ≤ 4097) (root : Nat) (hr : root < n) :
    Calls Try.prog 20 #[.agg #[.slice a n cap], .int .i64 root] w fun e w' => ∃ r aa cc, Dfs (tos F) [root] [] r ∧ e = .returned (.agg #[.slice aa r.length cc]) ∧ IsG w' aa r.length cc (outG F r) ∧ Below w.heap.size w w' := by
  have hm := h.maxLe
  have hc := h.capLe
  have hl := h.len
  unfold maxLen at hm
  obtain ⟨W, hW⟩ : ∃ W, twoF w (.slice a n cap) (.slice none 0 0) = W := ⟨_, rfl⟩
  obtain ⟨b1, hz, d1, d2⟩ := twoF_is w _ _ W hW
  have hres : W.heap[w.heap.size + 1]? = some (.cells #[.slice none 0 0] 25) := by
    rw [← hW]
    have := heap_alloc_new (w.alloc (.cells #[.slice a n cap] 25)) (.cells #[.slice none 0 0] 25)
    rw [World.size_alloc] at this
    exact this
  have HRES := Lib.hid hres
  have H := Lib.hid (h.below b1)
  have HRNG := Lib.hid (rng_of h)
  have B1 := Lib.hid b1
  have HZ := Lib.hid hz
  have HF := Lib.hid hf
  have HA := Lib.hid hA
  have HL := Lib.hid hl
  have SS := Lib.hid (St.start (F := F) (root := root) (by rw [hl]; exact hr))
  clear h b1 hz hf hA hl hres
  have hmm : ∀ w, (Instr.makeMap 50 none).run Try.prog w = .ok (.map (some w.heap.size)) (w.alloc (.map #[] 0)) := fun w => rfl
  go_enter Try.func20, Try.ntmps20
  go_wp2
  (try rw [hW])
  clear hmm
  have hmb : Hid (((W.alloc (.map #[] 0)).alloc (.cells #[.int .i64 (root : Int)] 3)).ownsMap Try.prog 3 raw W.heap.size 0 (.map [])) := (World.ownsMap_made W _ _ _).alloc _
  have hwr : Hid (((W.alloc (.map #[] 0)).alloc (.cells #[.int .i64 (root : Int)] 3)).ownsRow W.heap.size 3 1 (.slice (some ⟨W.heap.size + 1, 0, none⟩) 1 1) 1 (ivals (smem [root]))) :=
    ⟨rfl, .inr ⟨W.heap.size + 1, 1, #[.int .i64 (root : Int)], rfl, by omega, (by have := heap_alloc_new (W.alloc (.map #[] 0)) (.cells #[.int .i64 (root : Int)] 3); rwa [World.size_alloc] at this), Nat.le_refl _, by unfold maxLen; omega, rfl, rfl⟩⟩
  have hbw : Hid (Below W.heap.size W ((W.alloc (.map #[] 0)).alloc (.cells #[.int .i64 (root : Int)] 3))) := ((Below.refl _ W).alloc (Nat.le_refl _) _).alloc (by simp) _
  go_loopw [6, 7] (fun nv wt wr => ∃ (s v : List Nat) (M : DataW Value) (P : List (Int × Value)), Hid (St F root s v) ∧ Hid (wr.ownsRow W.heap.size 3 1 wt s.length (ivals (smem s))) ∧ Hid (wr.ownsMap Try.prog 3 raw W.heap.size v.length M) ∧ Hid (NumIs M v) ∧ Hid (OwnN wr W.heap.size nv P (arcss F v)) ∧ Hid (P.map Prod.fst = typs F v) ∧ Hid (Below W.heap.size W wr)) (fun nv wt _ => (n - lenOf nv) * 66 + lenOf wt)
  case atStart => exact ⟨[root], [], .map [], [], SS, hwr, hmb, NumIs.nil, OwnN.nil _ _, rfl, hbw⟩
  case round =>
    clear hmb hwr hbw SS
    obtain ⟨s, v, M, P, hS, hrow, hmap, hM, hN, hT, hB⟩ := hrel
    obtain ⟨w0, hw0⟩ : ∃ w0 : World, w0 = wr := ⟨_, rfl⟩
    subst hw0
    have hws := hB.out.size
    have hPv : Hid (P.length = v.length) := by
      show _ = _
      have := congrArg List.length hT.out
      simpa [typs] using this
    cases s with
    | nil =>
      have DF := Lib.hid (hS.out.bw v (.done v))
      have hvn := nodup_lt hS.out.nd (fun y hy => hS.out.vok y hy)
      rw [HL.out] at hvn
      have hPl := hPv.out
      have HRA : Hid (∀ L ∈ arcss F v, ∀ z ∈ L, R64 z.1) := fun L hL z hz => by
        unfold arcss at hL
        obtain ⟨i, hi, rfl⟩ := List.mem_map.1 hL
        exact HRNG.out i (by rw [← HL.out]; exact hS.out.vok i hi) z ((srt_perm _).mem_iff.1 hz)
      have HTO : Hid (∀ L ∈ arcss F v, ∀ z ∈ L, 0 ≤ z.2 ∧ z.2.toNat ∈ v ∧ z.2.toNat < n) := fun L hL z hz => by
        unfold arcss at hL
        obtain ⟨i, hi, rfl⟩ := List.mem_map.1 hL
        have hil := hS.out.vok i hi
        have h1 := (HF.out _ (nd_mem hil)).1 z ((srt_perm _).mem_iff.1 hz)
        have h2 : z.2.toNat ∈ tos F i := List.mem_map_of_mem hz
        have h3 := DF.out.closed (fun x hx => (by cases hx)) i hi _ h2
        refine ⟨h1.1, h3, ?_⟩
        have := HL.out
        omega
      obtain ⟨ni, nc, rfl⟩ : ∃ a c, u6 = Value.slice a P.length c := by
        obtain ⟨_, ⟨e, e2⟩ | ⟨g1, c1, cur1, e, _⟩⟩ := hN.out.row
        · exact ⟨none, 0, by rw [e, e2]⟩
        · exact ⟨_, _, e⟩
      obtain ⟨wa, wc, rfl⟩ : ∃ a c, u7 = Value.slice a 0 c := by
        obtain ⟨_, ⟨e, e2⟩ | ⟨g1, c1, cur1, e, _⟩⟩ := hrow.out
        · exact ⟨none, 0, e⟩
        · exact ⟨_, _, e⟩
      rw [hPl] at hN ⊢
      have hLl : (arcss F v).length = v.length := by unfold arcss; simp
      have HLl := Lib.hid hLl
      obtain ⟨Ls, hLs⟩ : ∃ Ls, arcss F v = Ls := ⟨_, rfl⟩
      have HLs := Lib.hid hLs
      rw [hLs] at hN HRA HTO HLl
      obtain ⟨vl, hvl⟩ : ∃ q, v.length = q := ⟨_, rfl⟩
      rw [hvl] at hN hmap hvn HLl hPl ⊢
      have HVL := Lib.hid hvl
      have HPL := Lib.hid hPl
      have hncm := hN.out.row
      have hnc : vl ≤ nc ∧ nc ≤ maxLen := by
        obtain ⟨_, ⟨e, e2⟩ | ⟨g1, c1, cur1, e, _, _, h3, h4, _⟩⟩ := hncm
        · cases e; exact ⟨Nat.le_refl _, Nat.zero_le _⟩
        · cases e; exact ⟨by omega, h4⟩
      obtain ⟨hnc1, hnc2⟩ := hnc
      unfold maxLen at hnc2
      have N0 : Hid (OwnN w0 W.heap.size (.slice ni vl nc) P (mix (List.map (relA v)) 0 Ls)) := by show OwnN _ _ _ _ _; rw [mix_zero]; exact hN.out
      have B0 := Lib.hid hB.out
      have M0 := Lib.hid hmap.out
      clear hrow hS hPl hLs hvl hncm hLl hN hB hmap hPv hws
      go_wp2
      go_loopw [80] (fun kv wr => ∃ k : Nat, k ≤ vl ∧ kv = .int .i64 k ∧ Hid (OwnN wr W.heap.size (.slice ni vl nc) P (mix (List.map (relA v)) k Ls)) ∧ Hid (wr.ownsMap Try.prog 3 raw W.heap.size vl M) ∧ Hid (Below W.heap.size W wr)) (fun kv _ => vl - (intOf kv).toNat)
      case atStart => exact ⟨0, Nat.zero_le _, rfl, N0, M0, B0⟩
      case round =>
        clear N0 M0 B0
        obtain ⟨k, hk, rfl, hN, hmap, hB⟩ := hrel
        obtain ⟨w1, hw1⟩ : ∃ w1 : World, w1 = wr := ⟨_, rfl⟩
        subst hw1
        have hw1s := hB.out.size
        by_cases hlt : k < vl
        · have hkP : k < P.length := by rw [HPL.out]; exact hlt
          have hkL : k < Ls.length := by rw [HLl.out]; exact hlt
          have hp := List.getElem?_eq_getElem hkP
          have hL := List.getElem?_eq_getElem hkL
          have hL64 := HRA.out _ (List.getElem_mem hkL)
          have hLto := HTO.out _ (List.getElem_mem hkL)
          have hml := mix_get (List.map (relA v)) hL
          obtain ⟨g0, g1⟩ := nvals_get hp
          obtain ⟨p, hpe⟩ : ∃ p, P[k] = p := ⟨_, rfl⟩
          obtain ⟨L, hLe⟩ : ∃ L, Ls[k] = L := ⟨_, rfl⟩
          rw [hpe] at hp g0 g1
          rw [hLe] at hL hL64 hLto hml
          obtain ⟨t, pv⟩ := p
          obtain ⟨pa, pc, hpv, hIA⟩ := IsArcs.of_owns (hN.out.arcs k _ L hp hml) hL64
          dsimp only at hpv
          subst hpv
          have hrw := hN.out.row
          rw [HPL.out] at hrw
          obtain ⟨ng, hng⟩ : ∃ ng, ni = some ⟨ng, 0, none⟩ := by
            obtain ⟨_, ⟨e, e2⟩ | ⟨g1', c1', cur1', e, _⟩⟩ := hrw
            · omega
            · cases e; exact ⟨_, rfl⟩
          subst hng
          have c0 : w1.cell? ⟨ng, k * 2, none⟩ = some (.int .i64 t) := (hrw.cellAt _ (by omega)).trans g0
          have c1 : w1.cell? ⟨ng, k * 2 + 1, none⟩ = some (.slice pa L.length pc) := (hrw.cellAt _ (by omega)).trans g1
          have hpc1 := hIA.capLe
          have hpc2 := hIA.maxLe
          have hpnil := hIA.nil_
          unfold maxLen at hpc2
          have HP := Lib.hid hp
          have HL2 := Lib.hid hL
          have HML := Lib.hid hml
          have L64 := Lib.hid hL64
          have LTO := Lib.hid hLto
          have hk0 : (0 : Int) ≤ (k : Int) := by omega
          have hk1 : (k : Int) < (vl : Int) := by omega
          obtain ⟨ll, hll⟩ : ∃ q, L.length = q := ⟨_, rfl⟩
          rw [hll] at c1 hpc1 HP
          have HLL := Lib.hid hll
          have hN2 : OwnN w1 W.heap.size (.slice (some ⟨ng, 0, none⟩) vl nc) P ((mix (List.map (relA v)) k Ls).set k (mix (relA v) 0 L)) := by
            have e : (mix (List.map (relA v)) k Ls).set k (mix (relA v) 0 L) = mix (List.map (relA v)) k Ls := by
              rw [mix_zero]
              apply List.ext_getElem?
              intro i
              by_cases e : i = k
              · subst e
                rw [List.getElem?_set_self (by rw [mix_len]; exact hkL), hml]
              · rw [List.getElem?_set_ne (fun h => e h.symm)]
            rw [e]; exact hN.out
          have NX := Lib.hid (hN2.below (ba w1 (.cells #[.int .i64 t, .slice pa ll pc] 43)))
          have MX := Lib.hid (hmap.out.alloc (.cells #[.int .i64 t, .slice pa ll pc] 43))
          have BX := Lib.hid (hB.out.alloc hw1s (.cells #[.int .i64 t, .slice pa ll pc] 43))
          have hxb := Lib.hid (heap_alloc_new w1 (.cells #[.int .i64 t, .slice pa ll pc] 43))
          clear hp hL hml g0 g1 hpe hLe hIA hrw hkP hL64 hLto hll hN2 hN hmap hB
          go_wp2
          go_loopw [87] (fun jv wr => ∃ j : Nat, j ≤ ll ∧ jv = .int .i64 j ∧ Hid (OwnN wr W.heap.size (.slice (some ⟨ng, 0, none⟩) vl nc) P ((mix (List.map (relA v)) k Ls).set k (mix (relA v) j L))) ∧ Hid (wr.ownsMap Try.prog 3 raw W.heap.size vl M) ∧ Hid (Below W.heap.size W wr) ∧ Hid (wr.heap[w1.heap.size]? = some (.cells #[.int .i64 t, .slice pa ll pc] 43))) (fun jv _ => ll - (intOf jv).toNat)
          case atStart => exact ⟨0, Nat.zero_le _, rfl, NX, MX, BX, hxb⟩
          case round =>
            clear NX MX BX hxb
            obtain ⟨j, hj, rfl, hN, hmap, hB, hxb⟩ := hrel
            have hwz := hB.out.size
            by_cases hjl : j < ll
            · have hjL : j < L.length := by rw [HLL.out]; exact hjl
              have hgj := mix_get (relA v) (ar_get hjL)
              have hto := LTO.out _ (ar_mem hjL)
              have hms := mix_set (relA v) (ar_get hjL)
              have hjm : j < (mix (relA v) j L).length := by rw [mix_len]; exact hjL
              have haj : ar (mix (relA v) j L) j = ar L j := by
                have := ar_get hjm
                rw [hgj] at this
                exact (Option.some.inj this).symm
              have hav := fun z => avals_set hjm z
              have hcv := avals_get hjm
              rw [haj] at hav hcv
              obtain ⟨f, hf⟩ : ∃ f, ar L j = f := ⟨_, rfl⟩
              rw [hf] at hto hms hav hcv
              obtain ⟨ff, tt⟩ := f
              obtain ⟨g, hg⟩ : ∃ g, pa = some ⟨g, 0, none⟩ := by
                have harc := hN.out.arcs k _ (mix (relA v) j L) HP.out (by rw [List.getElem?_set_self (by rw [mix_len]; exact hkL)])
                obtain ⟨_, ⟨e, e2⟩ | ⟨g1', c1', cur1', e, _⟩⟩ := harc
                · rw [mix_len, HLL.out] at e2; omega
                · cases e; exact ⟨_, rfl⟩
              subst hg
              have NA := Lib.hid (hN.out.below (ba wr (.cells #[.int .i64 ff, .int .i64 tt] 45)))
              have hsl : ((mix (List.map (relA v)) k Ls).set k (mix (relA v) j L))[k]? = some (mix (relA v) j L) := by rw [List.getElem?_set_self (by rw [mix_len]; exact hkL)]
              have harc0 := hN.out.arcs k _ (mix (relA v) j L) HP.out hsl
              rw [mix_len, HLL.out] at harc0
              have harc := NA.out.arcs k _ (mix (relA v) j L) HP.out hsl
              rw [mix_len, HLL.out] at harc
              have d0 : wr.cell? ⟨g, j * 2, none⟩ = some (.int .i64 ff) := (harc0.cellAt _ (by omega)).trans hcv.1
              have d1 : wr.cell? ⟨g, j * 2 + 1, none⟩ = some (.int .i64 tt) := (harc0.cellAt _ (by omega)).trans hcv.2
              have e1 : (wr.alloc (.cells #[.int .i64 ff, .int .i64 tt] 45)).cell? ⟨g, j * 2 + 1, none⟩ = some (.int .i64 tt) := (harc.cellAt _ (by omega)).trans hcv.2
              have e2 : (wr.alloc (.cells #[.int .i64 ff, .int .i64 tt] 45)).frozen? ⟨g, j * 2 + 1, none⟩ = false := harc.frozenAt _
              have x1 : (wr.alloc (.cells #[.int .i64 ff, .int .i64 tt] 45)).cell? ⟨w1.heap.size, 1, none⟩ = some (.slice (some ⟨g, 0, none⟩) ll pc) := (World.cell?_alloc_lt _ _ _ (lt_of_block hxb.out)).trans (by rw [cell_of_row _ _ _ _ _ _ hxb.out]; rfl)
              have MA := Lib.hid (hmap.out.alloc (.cells #[.int .i64 ff, .int .i64 tt] 45))
              have htt : ((tt.toNat : Nat) : Int) = tt := Int.toNat_of_nonneg hto.1
              have HG : Hid (mget M tt (.int .i64 0) = .int .i64 ((v.idxOf tt.toNat : Nat) : Int)) := by
                show _ = _
                have := hM.out.get_ _ hto.2.1
                rwa [htt] at this
              have HT64 : Hid (R64 tt) := by show _ ∧ _; have := hto.2.2; omega
              have hsa := NA.out.setAt (i := k) (j := j * 2 + 1) (L' := mix (relA v) (j + 1) L) (.int .i64 ((v.idxOf tt.toNat : Nat) : Int)) HP.out hsl (by rw [hav, ← hms]; rfl) (by rw [mix_len, mix_len])
              have N2 := Lib.hid hsa.1
              have M2 := Lib.hid (map_apart MA.out hsa.2 (own_map harc MA.out))
              have hgB := (harc.lt g rfl).1
              have B2 := Lib.hid ((hB.out.alloc hwz (.cells #[.int .i64 ff, .int .i64 tt] 45)).setCell (p := ⟨g, j * 2 + 1, none⟩) hgB (.int .i64 ((v.idxOf tt.toNat : Nat) : Int)))
              have hxg : g ≠ w1.heap.size := fun e => by
                obtain ⟨_, ⟨q1, _⟩ | ⟨g1', c1', cur1', q1, _, q2, _⟩⟩ := harc0
                · cases q1
                · cases q1
                  rw [e, hxb.out] at q2
                  cases q2
              have X2 : Hid (((wr.alloc (.cells #[.int .i64 ff, .int .i64 tt] 45)).setCell ⟨g, j * 2 + 1, none⟩ (.int .i64 ((v.idxOf tt.toNat : Nat) : Int))).heap[w1.heap.size]? = some (.cells #[.int .i64 t, .slice (some ⟨g, 0, none⟩) ll pc] 43)) := by
                show _ = _
                rw [heap_setCell_other _ _ _ _ (fun e => hxg e.symm), heap_alloc_old _ _ (lt_of_block hxb.out)]
                exact hxb.out
              obtain ⟨ix, hix⟩ : ∃ ix, ((v.idxOf tt.toNat : Nat) : Int) = ix := ⟨_, rfl⟩
              rw [hix] at HG N2 M2 B2 X2
              have hj0 : (0 : Int) ≤ (j : Int) := by omega
              have hj1 : (j : Int) < (ll : Int) := by omega
              clear hgj hto hms haj hav hcv hf hsl harc harc0 hsa htt hix hxg hjL hjm
              go_wp2_with (at_lookup; refine wpList_lookup_raw rfl _ _ 50 rfl 3 Try.underlying50 (zeroI _) W.heap.size vl M rfl MA.out tt rfl HT64.out ?_; rw [HG.out])
              go_roundw
              case rel => exact ⟨j + 1, by omega, by go_num, by have := N2.out; rwa [List.set_set] at this, M2, B2, X2⟩
              case measure => simp [intOf]; omega
            · obtain rfl : j = ll := by omega
              have N3 : Hid (OwnN wr W.heap.size (.slice (some ⟨ng, 0, none⟩) vl nc) P (mix (List.map (relA v)) (k + 1) Ls)) := by
                show OwnN _ _ _ _ _
                have := hN.out
                rw [← HLL.out, mix_all, mix_set (List.map (relA v)) HL2.out] at this
                exact this
              clear hN
              go_wp2
              go_roundw
              case rel => exact ⟨k + 1, by omega, by go_num, N3, hmap, hB⟩
              case measure => simp [intOf]; omega
        · obtain rfl : k = vl := by omega
          have hN3 : OwnN w1 W.heap.size (.slice ni k nc) P (Ls.map (List.map (relA v))) := by
            have := hN.out
            rwa [← HLl.out, mix_all, HLl.out] at this
          have hrb : w1.heap[w.heap.size + 1]? = some (.cells #[.slice none 0 0] 25) := (hB.out.block _ (by have := HZ.out; omega)).trans HRES.out
          have r0 : w1.cell? ⟨w.heap.size + 1, 0, none⟩ = some (.slice none 0 0) := by rw [cell_of_row _ _ _ _ _ _ hrb]; rfl
          have r1 : w1.frozen? ⟨w.heap.size + 1, 0, none⟩ = false := by simp [World.frozen?, hrb]
          have HRB := Lib.hid hrb
          have hne : ∀ {e s m : Nat} {vv : Value} {xs : List Value}, w1.ownsRow W.heap.size e s vv m xs → ∀ g', vv.ownBlock = some g' → some (w.heap.size + 1) ≠ some g' := fun h g' hg e => by
            have := (h.lt g' hg).1
            have h2 := HZ.out
            have h3 := Option.some.inj e
            omega
          have hgr : w1.grownBy (w1.setCell ⟨w.heap.size + 1, 0, none⟩ (.slice ni k nc)) (some (w.heap.size + 1)) := ⟨rfl, rfl, rfl, by simp, fun q _ hq => heap_setCell_other w1 ⟨w.heap.size + 1, 0, none⟩ q _ (fun e => hq (by simp [e]))⟩
          have hN4 := hN3.kept hgr (fun g' hg => hne hN3.row g' hg) (fun i p L g' h1 h2 hg => hne (hN3.arcs i p L h1 h2) g' hg)
          obtain ⟨ra, rc, hre, hIG⟩ := hN4.isG (fun L hL z hz => by
            obtain ⟨L0, hL0, rfl⟩ := List.mem_map.1 hL
            obtain ⟨z0, hz0, rfl⟩ := List.mem_map.1 hz
            exact HRA.out L0 hL0 z0 hz0)
          rw [HPL.out] at hre hIG
          cases hre
          have hout : (P.map Prod.fst).zip (Ls.map (List.map (relA v))) = outG F v := by
            rw [hT.out, ← HLs.out]
            unfold typs arcss outG outN
            rw [List.map_map, List.zip_map']
            rfl
          rw [hout] at hIG
          have IG := Lib.hid hIG
          have B3 := Lib.hid ((B1.out.trans (hB.out.mono B1.out.size)).setCell (p := ⟨w.heap.size + 1, 0, none⟩) (by show w.heap.size ≤ w.heap.size + 1; omega) (.slice ni k nc))
          clear hN hN3 hN4 hIG hout hne hgr hmap hM hB
          go_wp2
          refine bodyPost_ret (results_cell_row rfl _ _ (w.heap.size + 1) 25 #[.slice ni k nc] (0, 0) _ rfl (heap_setCell_same w1 (w.heap.size + 1) 0 _ _ _ HRB.out) Try.underlying25 rfl (by kernel_rfl)) rfl ?_
          rw [← HVL.out] at IG B3 ⊢
          exact ⟨v, _, _, DF.out, rfl, IG.out, B3.out⟩
    | cons x s =>
      have hrow1 := hrow.out
      rw [smem_cons, List.length_cons] at hrow1
      obtain ⟨g, c, rfl, hgc, hgm, hcell⟩ := owns_top hrow1
      have POP := Lib.hid (owns_pop hrow1)
      have hxn : x < n := by rw [← HL.out]; exact hS.out.sok x List.mem_cons_self
      have HH := Lib.hid (hM.out.has_ x)
      have HX64 : Hid (R64 (x : Int)) := by show _ ∧ _; omega
      unfold maxLen at hgm
      clear hrow1 hrow
      obtain ⟨sl, hsl⟩ : ∃ q, s.length = q := ⟨_, rfl⟩
      rw [hsl]
      rw [hsl] at POP hgc hcell
      have hsub : ((sl + 1 : Nat) : Int) - 1 = (sl : Int) := by omega
      have hwrap : IntKind.i64.wrap (sl : Int) = (sl : Int) := by rw [IntKind.wrap_i64]; omega
      have HSL := Lib.hid hsl
      clear hsl
      by_cases hxv : x ∈ v
      · rw [decide_eq_true hxv] at HH
        have ST' := Lib.hid (hS.out.skip hxv)
        clear hS hxv
        go_wp2_with (at_lookup; refine wpList_lookup_raw_ok rfl _ _ 50 rfl 3 Try.underlying50 (zeroI _) W.heap.size v.length M rfl hmap.out (x : Int) rfl HX64.out ?_; rw [HH.out])
        go_roundw
        case rel => exact ⟨s, v, M, P, ST', by rw [HSL.out]; exact POP.out, hmap, hM, hN, hT, hB⟩
        case measure => simp [lenOf]
      · rw [decide_eq_false hxv] at HH
        have HXV := Lib.hid hxv
        have ST' := Lib.hid (hS.out.step hxv HF.out HA.out)
        have hroom := hS.out.room hxv
        rw [HL.out] at hroom
        have hbnd := hS.out.bnd
        rw [List.length_cons, HSL.out] at hbnd
        have hkl : x < F.length := by rw [HL.out]; exact hxn
        have HALX := Lib.hid (HA.out _ (nd_mem hkl))
        have HDX := Lib.hid (fine_dif HF.out hkl)
        have HTG := Lib.hid (fun a ha => ((HF.out _ (nd_mem hkl)).1 a ha).1)
        have HTL := Lib.hid (tos_len F x)
        have HFX := Lib.hid (fun y hy => tos_lt HF.out hkl y hy)
        have M' := Lib.hid (hM.out.put (owns_isMap hmap.out) hxv)
        clear hS hxv hkl hM
        obtain ⟨b, off, rfl, hbl, hx0⟩ := H.out.at_ (by omega)
        obtain ⟨xa, xc, hd0⟩ := hx0 x hxn
        have HD := Lib.hid (fun V (hV : Below W.heap.size W V) => hd0.below hbl hV)
        have HBX := Lib.hid (fun V (hV : Below W.heap.size W V) => show V.cell? ⟨w.heap.size, 0, none⟩ = some (.slice (some ⟨b, off, none⟩) n cap) from (hV.cell (p := ⟨w.heap.size, 0, none⟩) (by have := HZ.out; show w.heap.size < _; omega)).trans d1)
        clear hx0 hd0
        obtain ⟨vl, hvl⟩ : ∃ q, v.length = q := ⟨_, rfl⟩
        rw [hvl] at hmap hroom M' hbnd hPv
        have HVL := Lib.hid hvl
        have HRX := Lib.hid (HRNG.out x hxn)
        have hTA : Hid (typs F (v ++ [x]) = typs F v ++ [(nd F x).1] ∧ arcss F (v ++ [x]) = arcss F v ++ [srt (nd F x).2]) := by unfold typs arcss; exact ⟨by simp, by simp⟩
        obtain ⟨y, hy⟩ : ∃ y, nd F x = y := ⟨_, rfl⟩
        have HTOS : Hid (tos F x = (srt y.2).map fun a => a.2.toNat) := by show _ = _; rw [← hy]; rfl
        rw [hy] at HD HALX HDX HTL HRX hTA HTG
        clear hvl hy
        obtain ⟨ni, nc, rfl, _⟩ : ∃ a c, u6 = Value.slice a P.length c ∧ True := by
          obtain ⟨_, ⟨e, e2⟩ | ⟨g1, c1, cur1, e, _⟩⟩ := hN.out.row
          · exact ⟨none, 0, by rw [e, e2], trivial⟩
          · exact ⟨_, _, e, trivial⟩
        have hPl := hPv.out
        rw [hPl] at hN
        rw [hPl]
        have hmp0 := hmap.out
        obtain ⟨yl, hyl⟩ : ∃ q, y.2.length = q := ⟨_, rfl⟩
        have hyl64 := HALX.out
        rw [hyl] at hyl64 HTL
        have HD2 : Hid (∀ V, Below W.heap.size W V → V.cell? ⟨b, off + x * 2, none⟩ = some (.int .i64 y.1) ∧ V.cell? ⟨b, off + x * 2 + 1, none⟩ = some (.slice xa yl xc) ∧ IsArcs V xa yl xc y.2) := fun V hV => by
          have h := HD.out V hV
          have h1 := h.c1
          have h2 := h.is
          rw [hyl] at h1 h2
          exact ⟨h.c0, h1, h2⟩
        have HYL := Lib.hid hyl
        obtain ⟨z0, hz0⟩ : ∃ z, (yl : Int) - 1 = z := ⟨_, rfl⟩
        have hz1 : IntKind.i64.wrap z0 = z0 := by rw [IntKind.wrap_i64]; omega
        have HZ0 := Lib.hid hz0
        clear hyl
        have hx1 : (x : Int) < (n : Int) := by omega
        have hx2 : (0 : Int) ≤ (x : Int) := by omega
        go_wp2_with (first
          | (at_lookup; refine wpList_lookup_raw_ok rfl _ _ 50 rfl 3 Try.underlying50 (zeroI _) W.heap.size vl M rfl hmap.out (x : Int) rfl HX64.out ?_; rw [HH.out])
          | (at_mapUpdate; refine wpList_update_raw rfl _ _ _ 50 rfl 3 Try.underlying50 W.heap.size vl M rfl hmap.out (by omega) (x : Int) (.int .i64 (vl : Int)) rfl HX64.out rfl ?_; intro w2 hown2 hgrow2; have MP2 := Lib.hid hown2; have B2 := Lib.hid (hB.out.grown hgrow2 hws (fun j e => by cases e; exact Nat.le_refl _)); have N2 := Lib.hid (hN.out.kept hgrow2 (fun g' e e2 => own_map hN.out.row hmp0 (e.trans e2.symm)) (fun i p L g' h1 h2 e e2 => own_map (hN.out.arcs i p L h1 h2) hmp0 (e.trans e2.symm))); have P2 := Lib.hid (POP.out.kept hgrow2 (.inr (own_map POP.out hmp0))); have bx2 := HBX.out _ B2.out; obtain ⟨cx0, cx1, ix⟩ := HD2.out _ B2.out; have IX := Lib.hid ix; clear ix; clear hown2 hgrow2))
        refine (ascending_any w2 _ _ _ _ IX.out (by omega) HDX.out).mono ?_
        rintro e w3 ⟨v3, rfl, hown3, hb3⟩
        obtain ⟨va, vc, rfl, hIA⟩ := IsArcs.of_owns hown3 (fun z hz => HRX.out z ((srt_perm _).mem_iff.1 hz))
        have O3 := Lib.hid hown3
        have B3 := Lib.hid (B2.out.trans (hb3.mono B2.out.size))
        have N3 := Lib.hid (N2.out.below hb3)
        have P3 := Lib.hid (owns_below P2.out hb3)
        have MP3 := Lib.hid (map_below MP2.out hb3)
        have HFR := Lib.hid (fun (i : Nat) (q : Int × Value) (hq : P[i]? = some q) (g : Nat) (hg : q.2.ownBlock = some g) (hv : (Value.slice va yl vc).ownBlock = some g) => fresh_ne N2.out hown3 hq hg hv)
        have bx3 := HBX.out _ B3.out
        obtain ⟨dx0, dx1, _⟩ := HD2.out _ B3.out
        clear hown3 hb3 hIA
        go_wp2_with (at_builtin; refine wpList_append_node (w := w3.alloc (.cells #[.int .i64 y.1, .slice va yl vc] 43)) rfl _ _ rfl W.heap.size _ P rfl (N3.out.row.alloc _) w3.heap.size 1 (y.1, .slice va yl vc) rfl (heap_alloc_new w3 _) rfl (by have := hPv.out; omega) (by have := B3.out.size; simp; omega) ?_; intro v4 w4 hown4 hgrow4; have PS := Lib.hid (after_push N3.out MP3.out P3.out O3.out (by have := B2.out.size; omega) HYL.out (y.1) HFR.out B3.out B3.out.size hown4 hgrow4); clear hown4 hgrow4)
        have SLEN : Hid ((typs F (v ++ [x])).length = vl + 1) := by show _ = _; unfold typs; simp; exact HVL.out
        have hslb : sl ≤ 300000 := by omega
        have T2 : Hid ((P ++ [(y.1, Value.slice va yl vc)]).map Prod.fst = typs F (v ++ [x])) := by show _ = _; rw [hTA.out.1, List.map_append, hT.out]; rfl
        have A2 : Hid (arcss F v ++ [srt y.2] = arcss F (v ++ [x])) := hTA.out.2.symm
        have HP1 : Hid (P.length = vl) := hPv
        clear hN hT hTA hPl hmp0 N2 P2 MP2 N3 P3 MP3 O3 POP hmap bx2 cx0 cx1 dx0 dx1 bx3 HFR IX HH hbnd
        go_loopw [7, 12] (fun wt zv wr => ∃ (t : Nat) (z : Int) (q : Nat), t ≤ yl ∧ z = (t : Int) - 1 ∧ zv = .int .i64 z ∧ q = ((tos F x).drop t ++ s).length ∧ Hid (wr.ownsRow W.heap.size 3 1 wt q (ivals (smem ((tos F x).drop t ++ s)))) ∧ Hid (OwnN wr W.heap.size v4 (P ++ [(y.1, Value.slice va yl vc)]) (arcss F v ++ [srt y.2])) ∧ Hid (wr.ownsMap Try.prog 3 raw W.heap.size (vl + 1) (mput M (x : Int) (.int .i64 (vl : Int)))) ∧ Hid (Below W.heap.size W wr)) (fun _ zv _ => (intOf zv + 1).toNat)
        case atStart => exact ⟨yl, z0, sl, Nat.le_refl _, HZ0.out.symm, rfl, (by rw [List.drop_eq_nil_of_le (by rw [HTL.out]; exact Nat.le_refl _), List.nil_append]; exact HSL.out.symm), (by rw [List.drop_eq_nil_of_le (by rw [HTL.out]; exact Nat.le_refl _), List.nil_append]; exact PS.out.wait), PS.out.nodes, PS.out.map, PS.out.below⟩
        case round =>
          clear PS
          obtain ⟨t, z, q, ht, hz, rfl, hq, hrow, hN, hMP, hB⟩ := hrel
          have hwz := hB.out.size
          cases t with
          | zero =>
            have hzn : ¬ (0 ≤ z) := by omega
            have hzd : decide (z ≥ 0) = false := decide_eq_false hzn
            clear hz
            have hq2 : q ≤ sl + 64 := by
              rw [hq, List.drop_zero, List.length_append, HTL.out, HSL.out]; omega
            obtain ⟨hv4a, hv4c, hv4, _⟩ : ∃ a c, v4 = Value.slice a (vl + 1) c ∧ True := by
              have hl : (P ++ [(y.1, Value.slice va yl vc)]).length = vl + 1 := by rw [List.length_append, HP1.out]; rfl
              have hrw := hN.out.row
              rw [hl] at hrw
              obtain ⟨_, ⟨e, e2⟩ | ⟨g1, c1, cur1, e, _⟩⟩ := hrw
              · omega
              · exact ⟨_, _, e, trivial⟩
            have hqt : ∃ a c, u7 = Value.slice a q c := by
              obtain ⟨_, ⟨e, e2⟩ | ⟨g1, c1, cur1, e, _⟩⟩ := hrow.out
              · exact ⟨none, 0, by rw [e, e2]⟩
              · exact ⟨_, _, e⟩
            obtain ⟨qa, qc, rfl⟩ := hqt
            subst hv4
            rw [A2.out] at hN
            go_wp2
            go_roundw
            case rel => exact ⟨tos F x ++ s, v ++ [x], _, _, ST', (by have := hrow.out; rw [List.drop_zero] at this hq; rw [← hq]; exact this), (by rw [List.length_append, HVL.out]; exact hMP.out), M', hN, T2, hB⟩
            case measure => simp [lenOf]; omega
          | succ t =>
            obtain rfl : z = (t : Int) := by omega
            have hIA : IsArcs wr va yl vc (srt y.2) := by
              have h1 := hN.out.arcs P.length (y.1, Value.slice va yl vc) (srt y.2) (by rw [List.getElem?_append_right (Nat.le_refl _)]; simp) (by rw [List.getElem?_append_right (by rw [← nodes_len F v hN.out]; exact Nat.le_refl _), ← nodes_len F v hN.out]; simp)
              obtain ⟨a', c', e, h'⟩ := IsArcs.of_owns h1 (fun z hz => HRX.out z ((srt_perm _).mem_iff.1 hz))
              cases e
              exact h'
            obtain ⟨ab, ao, rfl, habl, hax⟩ := hIA.at_ (by omega)
            have c0 := (hax t (by omega)).2
            have htl : t < (tos F x).length := by rw [HTL.out]; omega
            have hdr : (tos F x).drop t = (ar (srt y.2) t).2.toNat :: (tos F x).drop (t + 1) := by
              rw [List.drop_eq_getElem_cons htl]
              congr 1
              have := ar_get (L := srt y.2) (i := t) (by rw [srt_len, HYL.out]; omega)
              have e2 := congrArg (fun l : List Nat => l[t]?) HTOS.out
              simp only [List.getElem?_map, this, Option.map_some] at e2
              rw [List.getElem?_eq_getElem htl] at e2
              exact Option.some.inj e2
            have hpos : 0 ≤ (ar (srt y.2) t).2 := by
              have hm := ar_mem (L := srt y.2) (i := t) (by rw [srt_len, HYL.out]; omega)
              have := HTG.out _ ((srt_perm _).mem_iff.1 hm)
              exact this
            have HDR : Hid (smem ((tos F x).drop t ++ s) = smem ((tos F x).drop (t + 1) ++ s) ++ [(ar (srt y.2) t).2] ∧ ((tos F x).drop t ++ s).length = ((tos F x).drop (t + 1) ++ s).length + 1) := by
              show _ ∧ _
              rw [hdr, List.cons_append, smem_cons]
              refine ⟨?_, by simp⟩
              rw [Int.toNat_of_nonneg hpos]
            have hq3 : q ≤ sl + 64 := by
              rw [hq, List.length_append, List.length_drop, HTL.out, HSL.out]; omega
            obtain ⟨f, hf⟩ : ∃ f, (ar (srt y.2) t).2 = f := ⟨_, rfl⟩
            rw [hf] at c0 HDR
            have ht0 : (0 : Int) ≤ (t : Int) := by omega
            have ht1 : (t : Int) < (yl : Int) := by omega
            obtain ⟨hqa, hqc, hqe⟩ : ∃ a c, u7 = Value.slice a q c := by
              obtain ⟨_, ⟨e, e2⟩ | ⟨g1, c1, cur1, e, _⟩⟩ := hrow.out
              · exact ⟨none, 0, by rw [e, e2]⟩
              · exact ⟨_, _, e⟩
            subst hqe
            have WA := Lib.hid (hrow.out.alloc (.cells #[.int .i64 f] 3))
            have NA := Lib.hid (hN.out.below (ba wr (.cells #[.int .i64 f] 3)))
            have MA := Lib.hid (hMP.out.alloc (.cells #[.int .i64 f] 3))
            have HQ := Lib.hid hq
            clear hf hdr hpos htl hax hIA hq hz
            go_wp2_with (at_builtin; refine wpList_append_ints (w := wr.alloc (.cells #[.int .i64 f] 3)) rfl _ _ rfl W.heap.size _ q _ rfl WA.out wr.heap.size 1 [f] #[.int .i64 f] rfl (heap_alloc_new wr _) rfl (by simp; omega) (by simp; omega) ?_; intro v5 w5 hown5 hgrow5 _; have O5 := Lib.hid hown5; have N5 := Lib.hid (nodes_kept NA.out WA.out hgrow5); have M5 := Lib.hid (map_apart MA.out hgrow5 (own_map WA.out MA.out)); have B5 := Lib.hid (grown_below (hB.out.alloc hwz _) (by simp; omega) WA.out hgrow5); clear hown5 hgrow5)
            go_roundw
            case rel => exact ⟨t, (t : Int) - 1, q + 1, by omega, rfl, rfl, by rw [HDR.out.2, ← HQ.out], by rw [HDR.out.1]; exact O5.out, N5, M5, B5.out⟩
            case measure => simp [intOf]
end Go.Proofs.Ytlhiiecaphibhaa

/- graph: parts of the reference's visit. -/
namespace Go.Proofs.Ytlhiiecaphibhaa
open Go.RowKit Go.Maps

/-- Every block of arcs is as it was. -/
def ArcKept (w w' : World) : Prop := w.heap.size ≤ w'.heap.size ∧ ∀ (k : Nat) (c : Array Value) (fr : Nat × Nat), w.heap[k]? = some (.cells c 45 fr) → w'.heap[k]? = w.heap[k]?
theorem ArcKept.refl (w : World) : ArcKept w w := ⟨Nat.le_refl _, fun _ _ _ _ => rfl⟩
theorem ArcKept.trans {a b c : World} (h : ArcKept a b) (g : ArcKept b c) : ArcKept a c :=
  ⟨Nat.le_trans h.1 g.1, fun k cs fr hk => by
    have h1 := h.2 k cs fr hk
    rw [← h1]
    exact g.2 k cs fr (h1.trans hk)⟩
theorem ArcKept.below {w w' : World} (h : Below w.heap.size w w') : ArcKept w w' := ⟨h.size, fun k _ _ hk => h.block k (lt_of_block hk)⟩
theorem ArcKept.grown {w w' : World} {row : Option Nat} (h : w.grownBy w' row) (hr : ∀ g c fr, row = some g → w.heap[g]? = some (.cells c 45 fr) → False) : ArcKept w w' :=
  ⟨h.size, fun k c fr hk => h.block k (lt_of_block hk) (fun e => hr k c fr e.symm hk)⟩
theorem ArcKept.owns {w w' : World} {B n : Nat} {v : Value} {xs : List Value} (h : w.ownsRow B 45 2 v n xs) (hk : ArcKept w w') : w'.ownsRow B 45 2 v n xs := by
  obtain ⟨h1, h2 | ⟨g, cap, cur, hv, hB, hg, r⟩⟩ := h
  · exact ⟨h1, .inl h2⟩
  · exact ⟨h1, .inr ⟨g, cap, cur, hv, hB, (hk.2 g _ _ hg).trans hg, r⟩⟩
theorem row_not {w : World} {B n : Nat} {v : Value} {xs : List Value} (h : w.ownsRow B 3 1 v n xs) : ∀ g c fr, v.ownBlock = some g → w.heap[g]? = some (.cells c 45 fr) → False := fun g c fr hg hk => by
  obtain ⟨_, ⟨rfl, _⟩ | ⟨g1, c1, cur1, rfl, _, k1, _⟩⟩ := h
  · cases hg
  · simp [Value.ownBlock] at hg
    subst hg
    rw [k1] at hk
    injection hk with hk
    injection hk with _ hk
    revert hk; decide
/-- The numbers of n nodes. -/
def numsOf (n : Nat) (v : List Nat) : List Int := (List.range n).map fun x => if x ∈ v then ((v.idxOf x : Nat) : Int) else -1
theorem numsOf_len (n : Nat) (v : List Nat) : (numsOf n v).length = n := by simp [numsOf]
theorem numsOf_get {n : Nat} (v : List Nat) {x : Nat} (h : x < n) : (numsOf n v)[x]? = some (if x ∈ v then ((v.idxOf x : Nat) : Int) else -1) := by
  unfold numsOf
  rw [List.getElem?_map, List.getElem?_range h]; rfl
theorem numsOf_put {n : Nat} {v : List Nat} {x : Nat} (hx : x ∉ v) (hn : x < n) : (numsOf n v).set x (v.length : Int) = numsOf n (v ++ [x]) := by
  apply List.ext_getElem?
  intro i
  by_cases hi : i < n
  · by_cases e : i = x
    · subst e
      rw [List.getElem?_set_self (by rw [numsOf_len]; exact hi), numsOf_get _ hi, if_pos (by simp), List.idxOf_append, if_neg hx]
      simp
    · rw [List.getElem?_set_ne (fun h => e h.symm), numsOf_get _ hi, numsOf_get _ hi]
      by_cases hv : i ∈ v
      · rw [if_pos hv, if_pos (List.mem_append_left _ hv), List.idxOf_append, if_pos hv]
      · rw [if_neg hv, if_neg (by simp [hv, e])]
  · rw [List.getElem?_eq_none (by rw [List.length_set, numsOf_len]; omega), List.getElem?_eq_none (by rw [numsOf_len]; omega)]
theorem ivals_set (l : List Int) (i : Nat) (z : Int) : (ivals l).set i (.int .i64 z) = ivals (l.set i z) := by unfold ivals; rw [List.map_set]
/-- The reference's walk in memory: N its numbers, O its order. -/
structure WK (w : World) (B wb : Nat) (a : Option Addr) (n cap ng nc : Nat) (ov : Value) (N O : List Int) : Prop where
  blk : w.heap[wb]? = some (.cells #[.slice a n cap, .slice (some ⟨ng, 0, none⟩) n nc, ov] 63)
  num : w.ownsRow B 3 1 (.slice (some ⟨ng, 0, none⟩) n nc) n (ivals N)
  ord : w.ownsRow B 3 1 ov O.length (ivals O)
  ne : ov.ownBlock ≠ some ng
section
variable {w w' : World} {B wb : Nat} {a : Option Addr} {n cap ng nc : Nat} {ov ov' : Value} {N O O' : List Int}
theorem WK.drew (h : WK w B wb a n cap ng nc ov N O) : WK w.drew B wb a n cap ng nc ov N O := ⟨h.blk, h.num, h.ord, h.ne⟩
theorem WK.below (h : WK w B wb a n cap ng nc ov N O) (hb : Below w.heap.size w w') : WK w' B wb a n cap ng nc ov N O :=
  ⟨(hb.block wb (lt_of_block h.blk)).trans h.blk, owns_below h.num hb, owns_below h.ord hb, h.ne⟩
theorem WK.c0 (h : WK w B wb a n cap ng nc ov N O) : w.cell? ⟨wb, 0, none⟩ = some (.slice a n cap) := by rw [cell_of_row _ _ _ _ _ _ h.blk]; rfl
theorem WK.c1 (h : WK w B wb a n cap ng nc ov N O) : w.cell? ⟨wb, 1, none⟩ = some (.slice (some ⟨ng, 0, none⟩) n nc) := by rw [cell_of_row _ _ _ _ _ _ h.blk]; rfl
theorem WK.c2 (h : WK w B wb a n cap ng nc ov N O) : w.cell? ⟨wb, 2, none⟩ = some ov := by rw [cell_of_row _ _ _ _ _ _ h.blk]; rfl
theorem WK.fz (h : WK w B wb a n cap ng nc ov N O) (j : Nat) : w.frozen? ⟨wb, j, none⟩ = false := by simp [World.frozen?, h.blk]
theorem own_walk {e s m : Nat} {v : Value} {xs : List Value} (h : WK w B wb a n cap ng nc ov N O) (hr : w.ownsRow B e s v m xs) (he : e ≠ 63) : v.ownBlock ≠ some wb := fun hg => by
  obtain ⟨_, ⟨rfl, _⟩ | ⟨g1, c1, cur1, rfl, _, k1, _⟩⟩ := hr
  · cases hg
  · simp [Value.ownBlock] at hg
    subst hg
    rw [h.blk] at k1
    injection k1 with k1
    injection k1 with _ k1
    exact he k1.symm
/-- A number is written. -/
theorem WK.setNum (h : WK w B wb a n cap ng nc ov N O) (x : Nat) (z : Int) : WK (w.setCell ⟨ng, x, none⟩ (.int .i64 z)) B wb a n cap ng nc ov (N.set x z) O ∧ ArcKept w (w.setCell ⟨ng, x, none⟩ (.int .i64 z)) := by
  obtain ⟨h1, h2⟩ := h.num.stored x (.int .i64 z)
  rw [ivals_set] at h1
  refine ⟨⟨?_, h1, h.ord.kept h2 (.inr h.ne), h.ne⟩, ArcKept.grown h2 (fun g c fr e => row_not h.num g c fr e)⟩
  rw [h2.block wb (lt_of_block h.blk) (fun e => own_walk h h.num (by decide) e.symm)]
  exact h.blk
/-- The order has grown, and is written back. -/
theorem WK.setOrd {w0 : World} (h : WK w0 B wb a n cap ng nc ov N O) (hr : w.ownsRow B 3 1 ov' O'.length (ivals O')) (hg : w0.grownBy w ov.ownBlock) (hl : ov'.ownBlock = ov.ownBlock ∨ ov'.ownBlock = some w0.heap.size) : WK (w.setCell ⟨wb, 2, none⟩ ov') B wb a n cap ng nc ov' N O' ∧ ArcKept w0 (w.setCell ⟨wb, 2, none⟩ ov') := by
  have hb : w.heap[wb]? = some (.cells #[.slice a n cap, .slice (some ⟨ng, 0, none⟩) n nc, ov] 63) := (hg.block wb (lt_of_block h.blk) (fun e => own_walk h h.ord (by decide) e.symm)).trans h.blk
  have hgr : w.grownBy (w.setCell ⟨wb, 2, none⟩ ov') (some wb) := ⟨rfl, rfl, rfl, by simp, fun q _ hq => heap_setCell_other w ⟨wb, 2, none⟩ q _ (fun e => hq (by simp [e]))⟩
  have hnum := h.num.kept hg (.inr (fun e => h.ne e.symm))
  have hw : ∀ {e s m : Nat} {v : Value} {xs : List Value}, w.ownsRow B e s v m xs → e ≠ 63 → v.ownBlock ≠ some wb := fun {e s m v xs} hr he hg => by
    obtain ⟨_, ⟨rfl, _⟩ | ⟨g1, c1, cur1, rfl, _, k1, _⟩⟩ := hr
    · cases hg
    · simp [Value.ownBlock] at hg
      subst hg
      rw [hb] at k1
      injection k1 with k1
      injection k1 with _ k1
      exact he k1.symm
  refine ⟨⟨heap_setCell_same w wb 2 _ _ _ hb, hnum.kept hgr (.inr (hw hnum (by decide))), hr.kept hgr (.inr (hw hr (by decide))), ?_⟩, (ArcKept.grown hg (fun g c fr e => row_not h.ord g c fr e)).trans (ArcKept.grown hgr (fun g c fr e hk => ?_))⟩
  · rcases hl with e | e
    · rw [e]; exact h.ne
    · rw [e]
      intro e2
      have := (h.num.lt ng rfl).2
      have := Option.some.inj e2
      omega
  · cases e
    rw [hb] at hk
    injection hk with hk
    injection hk with _ hk
    revert hk; decide
end
theorem owns_slice {w : World} {B n s : Nat} {e : TypeId} {v : Value} {xs : List Value} (h : w.ownsRow B e s v n xs) : ∃ a c, v = .slice a n c ∧ n ≤ c ∧ c ≤ maxLen := by
  obtain ⟨_, ⟨e, e2⟩ | ⟨g1, c1, cur1, e, _, _, h3, h4, _⟩⟩ := h
  · exact ⟨none, 0, by rw [e, e2], by omega, Nat.zero_le _⟩
  · exact ⟨_, _, e, h3, h4⟩
/-- The order in memory. -/
def omem (v : List Nat) : List Int := v.map fun (x : Nat) => (x : Int)
theorem omem_len (v : List Nat) : (omem v).length = v.length := by simp [omem]
theorem omem_snoc (v : List Nat) (x : Nat) : omem v ++ [(x : Int)] = omem (v ++ [x]) := by simp [omem]
end Go.Proofs.Ytlhiiecaphibhaa

/- graph: visit of the reference. Written by wip/gen/gvisit.py. -/
namespace Go.Proofs.Ytlhiiecaphibhaa
open Go.RowKit Go.Maps

set_option maxRecDepth 100000 in
set_option maxHeartbeats 6400000 in
theorem visit_any (F : Gr) (hf : Fine F) (hA : ∀ x ∈ F, x.2.length ≤ 64) (W0 : World) (a : Option Addr) (n cap : Nat) (hG : IsG W0 a n cap F) (hn : n ≤ 4097) (wb ng nc : Nat) (hwb : W0.heap.size ≤ wb) :
    ∀ (m : Nat) (w : World) (v : List Nat) (x : Nat) (ov : Value), n - v.length ≤ m → x < n → x ∉ v → (∀ y ∈ v, y < n) → v.Nodup → WK w W0.heap.size wb a n cap ng nc ov (numsOf n v) (omem v) → Below W0.heap.size W0 w →
    Calls Try.prog 43 #[.pointer (some ⟨wb, 0, none⟩), .int .i64 x] w fun e w' => e = .returned (.tuple #[]) ∧ ∃ r ov', Dfs (tos F) [x] v r ∧ WK w' W0.heap.size wb a n cap ng nc ov' (numsOf n r) (omem r) ∧ ArcKept w w' ∧ Below W0.heap.size W0 w' := by
  intro m
  induction m with
  | zero =>
    intro w v x ov hm hx hxv hv hvn hW hB
    exfalso
    have := nodup_lt (l := v ++ [x]) (n := n) (List.nodup_append.2 ⟨hvn, by simp, fun a ha b hb => by simp at hb; subst hb; exact fun e => hxv (e ▸ ha)⟩) (fun y hy => by
      rcases List.mem_append.1 hy with hy | hy
      · exact hv y hy
      · simp at hy; subst hy; exact hx)
    simp at this; omega
  | succ m ih =>
  intro w v x ov hm hx hxv hv hvn hW hB
  have IH := Lib.hid ih
  have HL := Lib.hid hG.len
  have HG := Lib.hid hG
  have HRNG := Lib.hid (rng_of hG)
  have HF := Lib.hid hf
  have HA := Lib.hid hA
  have hcm := hG.capLe
  have hcx := hG.maxLe
  have hvl2 := nodup_lt hvn hv
  unfold maxLen at hcx
  obtain ⟨vl, hvl⟩ : ∃ q, v.length = q := ⟨_, rfl⟩
  rw [hvl] at hm hvl2
  have HVL := Lib.hid hvl
  obtain ⟨oa, oc, hov, hoc⟩ : ∃ a c, ov = Value.slice a vl c ∧ vl ≤ c ∧ c ≤ maxLen := by
    have h1 := hW.ord
    rw [omem_len, hvl] at h1
    obtain ⟨_, ⟨e, e2⟩ | ⟨g1, c1, cur1, e, _, _, h3, h4, _⟩⟩ := h1
    · exact ⟨none, 0, by rw [e, e2], by omega, Nat.zero_le _⟩
    · exact ⟨_, _, e, h3, h4⟩
  subst hov
  have hnum := hW.num
  have hncm : n ≤ nc ∧ nc ≤ maxLen := by
    obtain ⟨_, ⟨e, e2⟩ | ⟨g1, c1, cur1, e, _, _, h3, h4, _⟩⟩ := hnum
    · cases e
    · cases e; exact ⟨h3, h4⟩
  obtain ⟨hnc1, hnc2⟩ := hncm
  obtain ⟨hoc1, hoc2⟩ := hoc
  unfold maxLen at hnc2 hoc2
  have k1 := hW.c1
  have k2 := hW.c2
  have k3 : w.cell? ⟨ng, x, none⟩ = some (.int .i64 (-1)) := by
    have h1 := hnum.cellAt x (by omega)
    rw [h1]
    unfold ivals
    rw [List.getElem?_map, numsOf_get v hx, if_neg hxv]; rfl
  have k4 : w.frozen? ⟨ng, x, none⟩ = false := hnum.frozenAt x
  have hs := hW.drew.setNum x (v.length : Int)
  rw [numsOf_put hxv hx, hvl] at hs
  have W1 := Lib.hid hs.1
  have A1 := Lib.hid (show ArcKept w (w.drew.setCell ⟨ng, x, none⟩ (.int .i64 (vl : Int))) from hs.2)
  have hngB := (hnum.lt ng rfl).1
  have B1 := Lib.hid (hB.drew.setCell (p := ⟨ng, x, none⟩) hngB (.int .i64 (vl : Int)))
  have hxF : x < F.length := by rw [HL.out]; exact hx
  have HXV := Lib.hid hxv
  have HVN := Lib.hid hvn
  have HV := Lib.hid hv
  have HXF := Lib.hid hxF
  obtain ⟨w1, hw1⟩ : ∃ w1, w.drew.setCell ⟨ng, x, none⟩ (.int .i64 (vl : Int)) = w1 := ⟨_, rfl⟩
  rw [hw1] at W1 A1 B1
  have j1 := W1.out.c1
  have j2 := W1.out.c2
  have j0 := W1.out.c0
  have hx0 : (0 : Int) ≤ (x : Int) := by omega
  have hx1 : (x : Int) < (n : Int) := by omega
  have K2 : Hid (w1.cell? ⟨wb, 1, none⟩ = some (.slice (some ⟨ng, 0, none⟩) n nc) ∧ w1.cell? ⟨wb, 2, none⟩ = some (.slice oa vl oc)) := ⟨j1, j2⟩
  clear hG hW hB hnum hs hxv hvn hv hvl ih hf hA hxF
  go_enter Try.func43, Try.ntmps43
  go_wp2_with fail
  refine wp_region_noPanic ?_
  refine wp_region_held_drew (S := fun w' => w'.cell? ⟨wb, 1, none⟩ = some (.slice (some ⟨ng, 0, none⟩) n nc) ∧ w'.cell? ⟨wb, 2, none⟩ = some (.slice oa vl oc)) (by kernel_rfl) ?_ (fun hHeld => ?_)
  · first | exact ⟨k1, k2⟩ | exact K2.out | (rw [hw1]; exact K2.out)
  refine wpAnyH_take (i := 0) (oi := ⟨some 6, _, _, _, _, _⟩) (v := ?_) rfl (by kernel_rfl) (by kernel_rfl) (by kernel_rfl) (fun _ _ _ h => h) (Or.inl ⟨by kernel_rfl, ?_⟩) (by assumption) ?_; rotate_left
  · intro w hSw; (try dsimp only at hSw); go_simp; (try with_reducible rfl)
  simp only [Act.put, List.setIfInBounds_toArray, List.set_cons_zero, List.set_cons_succ]
  refine wpAnyH_take (i := 1) (oi := ⟨some 7, _, _, _, _, _⟩) (v := ?_) rfl (by kernel_rfl) (by kernel_rfl) (by kernel_rfl) (fun _ _ _ h => h) (Or.inl ⟨by kernel_rfl, ?_⟩) (by assumption) ?_; rotate_left
  · intro w hSw; (try dsimp only at hSw); go_simp; (try with_reducible rfl)
  simp only [Act.put, List.setIfInBounds_toArray, List.set_cons_zero, List.set_cons_succ]
  refine wpAnyH_take (i := 2) (oi := ⟨some 8, _, _, _, _, _⟩) (v := ?_) rfl (by kernel_rfl) (by kernel_rfl) (by kernel_rfl) (fun _ _ _ h => h) (Or.inl ⟨by kernel_rfl, ?_⟩) (by assumption) ?_; rotate_left
  · intro w hSw; (try dsimp only at hSw); go_simp; (try with_reducible rfl)
  simp only [Act.put, List.setIfInBounds_toArray, List.set_cons_zero, List.set_cons_succ]
  refine wpAnyH_take (i := 3) (oi := ⟨some 9, _, _, _, _, _⟩) (v := ?_) rfl (by kernel_rfl) (by kernel_rfl) (by kernel_rfl) (fun _ _ _ h => h) (Or.inl ⟨by kernel_rfl, ?_⟩) (by assumption) ?_; rotate_left
  · intro w hSw; (try dsimp only at hSw); go_simp; (try with_reducible rfl)
  simp only [Act.put, List.setIfInBounds_toArray, List.set_cons_zero, List.set_cons_succ]
  refine wpAnyH_take (i := 4) (oi := ⟨some 10, _, _, _, _, _⟩) (v := ?_) rfl (by kernel_rfl) (by kernel_rfl) (by kernel_rfl) (fun _ _ _ h => h) (Or.inl ⟨by kernel_rfl, ?_⟩) (by assumption) ?_; rotate_left
  · intro w hSw; (try dsimp only at hSw); go_simp; (try with_reducible rfl)
  simp only [Act.put, List.setIfInBounds_toArray, List.set_cons_zero, List.set_cons_succ]
  refine wpAnyH_take (i := 5) (oi := ⟨some 11, _, _, _, _, _⟩) (v := ?_) rfl (by kernel_rfl) (by kernel_rfl) (by kernel_rfl) (fun _ _ _ h => h) (Or.inl ⟨by kernel_rfl, ?_⟩) (by assumption) ?_; rotate_left
  · intro w hSw; (try dsimp only at hSw); go_simp; (try with_reducible rfl)
  simp only [Act.put, List.setIfInBounds_toArray, List.set_cons_zero, List.set_cons_succ]
  refine wpAnyH_take (i := 6) (oi := ⟨some 12, _, _, _, _, _⟩) (v := ?_) rfl (by kernel_rfl) (by kernel_rfl) (by kernel_rfl) (fun _ _ _ h => h) (Or.inl ⟨by kernel_rfl, ?_⟩) (by assumption) ?_; rotate_left
  · intro w hSw; (try dsimp only at hSw); go_simp; (try with_reducible rfl)
  simp only [Act.put, List.setIfInBounds_toArray, List.set_cons_zero, List.set_cons_succ]
  refine wpAnyH_take (i := 7) (oi := ⟨some 13, _, _, _, _, _⟩) (v := ?_) rfl (by kernel_rfl) (by kernel_rfl) (by kernel_rfl) (fun _ _ _ h => h) (Or.inl ⟨by kernel_rfl, ?_⟩) (by assumption) ?_; rotate_left
  · intro w hSw; (try dsimp only at hSw); go_simp; (try with_reducible rfl)
  simp only [Act.put, List.setIfInBounds_toArray, List.set_cons_zero, List.set_cons_succ]
  refine wpAnyH_take (i := 8) (oi := ⟨some 14, _, _, _, _, _⟩) (v := ?_) rfl (by kernel_rfl) (by kernel_rfl) (by kernel_rfl) (fun _ _ _ h => h) (Or.inl ⟨by kernel_rfl, ?_⟩) (by assumption) ?_; rotate_left
  · intro w hSw; (try dsimp only at hSw); go_simp; (try with_reducible rfl)
  simp only [Act.put, List.setIfInBounds_toArray, List.set_cons_zero, List.set_cons_succ]
  refine wpAnyH_take (i := 9) (oi := ⟨some 15, _, _, _, _, _⟩) (v := ?_) rfl (by kernel_rfl) (by kernel_rfl) (by kernel_rfl) (fun _ _ _ h => h) (Or.inl ⟨by kernel_rfl, ?_⟩) (by assumption) ?_; rotate_left
  · intro w hSw; (try dsimp only at hSw); go_simp; (try with_reducible rfl)
  simp only [Act.put, List.setIfInBounds_toArray, List.set_cons_zero, List.set_cons_succ]
  refine wpAnyH_take (i := 10) (oi := ⟨some 16, _, _, _, _, _⟩) (v := ?_) rfl (by kernel_rfl) (by kernel_rfl) (by kernel_rfl) (fun _ _ _ h => h) (Or.inl ⟨by kernel_rfl, ?_⟩) (by assumption) ?_; rotate_left
  · intro w hSw; (try dsimp only at hSw); go_simp; (try with_reducible rfl)
  simp only [Act.put, List.setIfInBounds_toArray, List.set_cons_zero, List.set_cons_succ]
  refine wpAnyH_ready (rs := [11]) (by kernel_rfl) (by simp) ?_
  refine AllReadyH.cons (o := ⟨none, _, _, _, _, _⟩) rfl (fun K hK => ?_) AllReadyH.nil
  go_simp
  refine hK.out _ _ ?_ (fun hHeld => ?_)
  · first | exact ⟨k1, k2⟩ | exact K2.out | (rw [hw1]; exact K2.out)
  clear hK K
  (try simp only [Act.put, List.setIfInBounds_toArray, List.set_cons_zero, List.set_cons_succ])
  refine wpAnyH_done (by kernel_rfl) ?_ _
  refine NoPanic.normal ?_
  (try rw [hw1])
  clear K2 k1 k2 k3 k4
  have hw1s := B1.out.size
  have WA := Lib.hid (W1.out.below (ba w1 (.cells #[.int .i64 (x : Int)] 3)))
  have fz1 := W1.out.fz 2
  obtain ⟨b, off, rfl, hbl, hx0'⟩ := HG.out.at_ (by omega)
  obtain ⟨xa, xc, hd0⟩ := hx0' x hx
  have HD := Lib.hid (fun V (hV : Below W0.heap.size W0 V) => hd0.below hbl hV)
  have HAX := Lib.hid (HA.out _ (nd_mem HXF.out))
  have HDX := Lib.hid (fine_dif HF.out HXF.out)
  have HTL := Lib.hid (tos_len F x)
  have HTN := Lib.hid (fun a ha => (HF.out _ (nd_mem HXF.out)).1 a ha)
  have HRX := Lib.hid (HRNG.out x hx)
  have HTOS : Hid (tos F x = (srt (nd F x).2).map fun a => a.2.toNat) := rfl
  rw [HL.out] at HTN
  obtain ⟨y, hy⟩ : ∃ y, nd F x = y := ⟨_, rfl⟩
  rw [hy] at HD HAX HDX HTL HTN HRX HTOS
  obtain ⟨yl, hyl⟩ : ∃ q, y.2.length = q := ⟨_, rfl⟩
  have hyl64 := HAX.out
  rw [hyl] at hyl64 HTL
  have HYL := Lib.hid hyl
  have HD2 : Hid (∀ V, Below W0.heap.size W0 V → V.cell? ⟨b, off + x * 2 + 1, none⟩ = some (.slice xa yl xc) ∧ IsArcs V xa yl xc y.2) := fun V hV => by
    have h := HD.out V hV
    have h1 := h.c1
    have h2 := h.is
    rw [hyl] at h1 h2
    exact ⟨h1, h2⟩
  have hox : (oa = none → vl = 0) := fun e => by
    have h1 := W1.out.ord
    rw [e] at h1
    obtain ⟨h2, ⟨e1, e2⟩ | ⟨g1, c1, cur1, e1, _⟩⟩ := h1
    · rw [omem_len] at e2; rw [← HVL.out]; exact e2
    · cases e1
  clear hx0' hd0 hy hyl hox HD
  go_wp2_with (at_builtin; refine wpList_append_ints (w := w1.alloc (.cells #[.int .i64 (x : Int)] 3)) rfl _ _ rfl W0.heap.size _ _ (omem v) rfl WA.out.ord w1.heap.size 1 [(x : Int)] #[.int .i64 (x : Int)] rfl (heap_alloc_new w1 _) rfl (by rw [omem_len, HVL.out]; simp; omega) (by simp; omega) ?_; intro v2 w2 hown2' hgrow2 hloc2; have hown2 : w2.ownsRow W0.heap.size 3 1 v2 (vl + 1) (ivals (omem (v ++ [x]))) := (by rw [← omem_snoc]; have h := hown2'; rw [omem_len, HVL.out] at h; exact h); clear hown2'; obtain ⟨oa2, oc2, rfl, hoc3, hoc4⟩ := owns_slice hown2; have SO := Lib.hid (WA.out.setOrd (O' := omem (v ++ [x])) (by rw [omem_len, List.length_append, HVL.out]; exact hown2) hgrow2 hloc2); have GB := Lib.hid (grown_below (B1.out.alloc hw1s _) (by simp; omega) WA.out.ord hgrow2); have y1 : w2.cell? ⟨wb, 2, none⟩ = some (.slice oa vl oc) := ((World.cell?_of_block (a := ⟨wb, 2, none⟩) (hgrow2.block wb (lt_of_block WA.out.blk) (fun e => own_walk WA.out WA.out.ord (by decide) e.symm))).trans WA.out.c2); have y2 : w2.frozen? ⟨wb, 2, none⟩ = false := (World.frozen?_of_block (a := ⟨wb, 2, none⟩) (hgrow2.block wb (lt_of_block WA.out.blk) (fun e => own_walk WA.out WA.out.ord (by decide) e.symm))).trans (WA.out.fz 2); clear hown2 hgrow2 hloc2; have B3 := Lib.hid (GB.out.setCell (p := ⟨wb, 2, none⟩) hwb (.slice oa2 (vl + 1) oc2)); obtain ⟨w3, hw3⟩ : ∃ w3, w2.setCell ⟨wb, 2, none⟩ (.slice oa2 (vl + 1) oc2) = w3 := ⟨_, rfl⟩; rw [hw3] at SO B3; have z0 := SO.out.1.c0; obtain ⟨z1, z2⟩ := HD2.out w3 B3.out)
  refine (rsorted_any w3 xa yl xc y.2 z2 (by omega) HDX.out).mono ?_
  rintro e w4 ⟨vs, rfl, hown4, hb4⟩
  have hown4' := hown4
  have e4 : yl = (srt y.2).length := by rw [srt_len]; exact HYL.out.symm
  obtain ⟨la, lc, rfl, hIA⟩ := IsArcs.of_owns hown4 (fun z hz => HRX.out z ((srt_perm _).mem_iff.1 hz))
  have O4 := Lib.hid hown4'
  have hlc := hIA.capLe
  have hlm := hIA.maxLe
  unfold maxLen at hlm
  have W4 := Lib.hid (SO.out.1.below hb4)
  have A4 := Lib.hid (A1.out.trans ((ArcKept.below (ba w1 _)).trans (SO.out.2.trans (ArcKept.below hb4))))
  have B4 := Lib.hid (B3.out.trans (hb4.mono B3.out.size))
  have ND : Hid ((v ++ [x]).Nodup ∧ ∀ y ∈ v ++ [x], y < n) := ⟨List.nodup_append.2 ⟨HVN.out, by simp, fun a ha b hb => by simp at hb; subst hb; exact fun e => HXV.out (e ▸ ha)⟩, fun y hy => by
    rcases List.mem_append.1 hy with hy | hy
    · exact HV.out y hy
    · simp at hy; subst hy; exact hx⟩
  have B3s := B3.out.size
  clear hown4 hown4' hb4 hIA SO B3 A1 W1 j0 j1 j2 z0 z1 z2 GB WA fz1 y1 y2 hw3 hw1 B1 hw1s e4
  go_wp2
  go_loopw [5] (fun kv wr => ∃ (k : Nat) (r : List Nat) (ov' : Value), k ≤ yl ∧ kv = .int .i64 k ∧ Hid (Dfs (tos F) ((tos F x).take k) (v ++ [x]) r) ∧ Hid (WK wr W0.heap.size wb (some ⟨b, off, none⟩) n cap ng nc ov' (numsOf n r) (omem r)) ∧ Hid (ArcKept w wr) ∧ Hid (Below W0.heap.size W0 wr) ∧ Hid (wr.ownsRow W0.heap.size 45 2 (.slice la yl lc) yl (avals (srt y.2)))) (fun kv _ => yl - (intOf kv).toNat)
  case atStart => exact ⟨0, v ++ [x], _, Nat.zero_le _, rfl, .done _, W4, A4, B4, owns_base O4.out B3s⟩
  case round =>
    clear W4 A4 B4 O4
    obtain ⟨k, r, ov', hk, rfl, hD, hW, hAK, hB, hO⟩ := hrel
    by_cases hlt : k < yl
    · have hlen := srt_len y.2
      have hkl : k < (srt y.2).length := by rw [hlen, HYL.out]; exact hlt
      obtain ⟨la', lc', e, hIA⟩ := IsArcs.of_owns hO.out (fun z hz => HRX.out z ((srt_perm _).mem_iff.1 hz))
      cases e
      obtain ⟨lb, lo, rfl, hll, hlx⟩ := hIA.at_ (by omega)
      have d1 := (hlx k hlt).2
      have htn := HTN.out _ ((srt_perm _).mem_iff.1 (ar_mem hkl))
      have htake : (tos F x).take (k + 1) = (tos F x).take k ++ [(ar (srt y.2) k).2.toNat] := by
        have hkt : k < (tos F x).length := by rw [HTL.out]; exact hlt
        rw [List.take_succ_eq_append_getElem hkt]
        have e2 := congrArg (fun l : List Nat => l[k]?) HTOS.out
        simp only [List.getElem?_map, ar_get hkl, Option.map_some] at e2
        rw [List.getElem?_eq_getElem hkt] at e2
        rw [Option.some.inj e2]
      obtain ⟨tt, htt⟩ : ∃ tt, (ar (srt y.2) k).2 = tt := ⟨_, rfl⟩
      rw [htt] at d1 htn htake
      obtain ⟨tn, rfl⟩ : ∃ tn : Nat, tt = (tn : Int) := ⟨tt.toNat, (Int.toNat_of_nonneg htn.1).symm⟩
      rw [Int.toNat_natCast] at htake
      have HTK := Lib.hid htake
      have htn0 : (0 : Int) ≤ (tn : Int) := htn.1
      have htn1 : (tn : Int) < (n : Int) := htn.2
      have htnn : tn < n := by omega
      have k1 := hW.out.c1
      have k3 : wr.cell? ⟨ng, tn, none⟩ = some (.int .i64 (if tn ∈ r then ((r.idxOf tn : Nat) : Int) else -1)) := by
        rw [hW.out.num.cellAt tn (by omega)]
        unfold ivals
        rw [List.getElem?_map, numsOf_get r htnn]; rfl
      have hk0 : (0 : Int) ≤ (k : Int) := by omega
      have hk1 : (k : Int) < (yl : Int) := by omega
      clear hlx htn htt htake hIA hkl hlen
      by_cases hin : tn ∈ r
      · rw [if_pos hin] at k3
        obtain ⟨q, hq⟩ : ∃ q, ((r.idxOf tn : Nat) : Int) = q := ⟨_, rfl⟩
        rw [hq] at k3
        have hq0 : ¬ q < 0 := by omega
        have D2 : Hid (Dfs (tos F) ((tos F x).take (k + 1)) (v ++ [x]) r) := by
          show Dfs _ _ _ _
          rw [HTK.out]
          exact hD.out.app (.skip hin (.done _))
        clear hq hD
        go_wp2_with fail
        refine wp_region_noPanic ?_
        refine wp_region_held_drew (S := fun w' => w'.cell? ⟨wb, 1, none⟩ = some (.slice (some ⟨ng, 0, none⟩) n nc) ∧ w'.cell? ⟨lb, lo + k * 2 + 1, none⟩ = some (.int .i64 (tn : Int)) ∧ w'.cell? ⟨ng, tn, none⟩ = some (.int .i64 q)) (by kernel_rfl) ?_ (fun hHeld => ?_)
        · exact ⟨k1, d1, k3⟩
        refine wpAnyH_take (i := 0) (oi := ⟨some 43, _, _, _, _, _⟩) (v := ?_) rfl (by kernel_rfl) (by kernel_rfl) (by kernel_rfl) (fun _ _ _ h => h) (Or.inl ⟨by kernel_rfl, ?_⟩) (by assumption) ?_; rotate_left
        · intro w hSw; (try dsimp only at hSw); go_simp; (try with_reducible rfl)
        simp only [Act.put, List.setIfInBounds_toArray, List.set_cons_zero, List.set_cons_succ]
        refine wpAnyH_take (i := 1) (oi := ⟨some 44, _, _, _, _, _⟩) (v := ?_) rfl (by kernel_rfl) (by kernel_rfl) (by kernel_rfl) (fun _ _ _ h => h) (Or.inl ⟨by kernel_rfl, ?_⟩) (by assumption) ?_; rotate_left
        · intro w hSw; (try dsimp only at hSw); go_simp; (try with_reducible rfl)
        simp only [Act.put, List.setIfInBounds_toArray, List.set_cons_zero, List.set_cons_succ]
        refine wpAnyH_take (i := 2) (oi := ⟨some 45, _, _, _, _, _⟩) (v := ?_) rfl (by kernel_rfl) (by kernel_rfl) (by kernel_rfl) (fun _ _ _ h => h) (Or.inl ⟨by kernel_rfl, ?_⟩) (by assumption) ?_; rotate_left
        · intro w hSw; (try dsimp only at hSw); go_simp; (try with_reducible rfl)
        simp only [Act.put, List.setIfInBounds_toArray, List.set_cons_zero, List.set_cons_succ]
        refine wpAnyH_take (i := 3) (oi := ⟨some 46, _, _, _, _, _⟩) (v := ?_) rfl (by kernel_rfl) (by kernel_rfl) (by kernel_rfl) (fun _ _ _ h => h) (Or.inl ⟨by kernel_rfl, ?_⟩) (by assumption) ?_; rotate_left
        · intro w hSw; (try dsimp only at hSw); go_simp; (try with_reducible rfl)
        simp only [Act.put, List.setIfInBounds_toArray, List.set_cons_zero, List.set_cons_succ]
        refine wpAnyH_take (i := 4) (oi := ⟨some 47, _, _, _, _, _⟩) (v := ?_) rfl (by kernel_rfl) (by kernel_rfl) (by kernel_rfl) (fun _ _ _ h => h) (Or.inl ⟨by kernel_rfl, ?_⟩) (by assumption) ?_; rotate_left
        · intro w hSw; (try dsimp only at hSw); go_simp; (try with_reducible rfl)
        simp only [Act.put, List.setIfInBounds_toArray, List.set_cons_zero, List.set_cons_succ]
        refine wpAnyH_take (i := 5) (oi := ⟨some 48, _, _, _, _, _⟩) (v := ?_) rfl (by kernel_rfl) (by kernel_rfl) (by kernel_rfl) (fun _ _ _ h => h) (Or.inl ⟨by kernel_rfl, ?_⟩) (by assumption) ?_; rotate_left
        · intro w hSw; (try dsimp only at hSw); go_simp; (try with_reducible rfl)
        simp only [Act.put, List.setIfInBounds_toArray, List.set_cons_zero, List.set_cons_succ]
        refine wpAnyH_take (i := 6) (oi := ⟨some 49, _, _, _, _, _⟩) (v := ?_) rfl (by kernel_rfl) (by kernel_rfl) (by kernel_rfl) (fun _ _ _ h => h) (Or.inl ⟨by kernel_rfl, ?_⟩) (by assumption) ?_; rotate_left
        · intro w hSw; (try dsimp only at hSw); go_simp; (try with_reducible rfl)
        simp only [Act.put, List.setIfInBounds_toArray, List.set_cons_zero, List.set_cons_succ]
        refine wpAnyH_take (i := 7) (oi := ⟨some 50, _, _, _, _, _⟩) (v := ?_) rfl (by kernel_rfl) (by kernel_rfl) (by kernel_rfl) (fun _ _ _ h => h) (Or.inl ⟨by kernel_rfl, ?_⟩) (by assumption) ?_; rotate_left
        · intro w hSw; (try dsimp only at hSw); go_simp; (try with_reducible rfl)
        simp only [Act.put, List.setIfInBounds_toArray, List.set_cons_zero, List.set_cons_succ]
        refine wpAnyH_take (i := 8) (oi := ⟨some 51, _, _, _, _, _⟩) (v := ?_) rfl (by kernel_rfl) (by kernel_rfl) (by kernel_rfl) (fun _ _ _ h => h) (Or.inl ⟨by kernel_rfl, ?_⟩) (by assumption) ?_; rotate_left
        · intro w hSw; (try dsimp only at hSw); go_simp; (try with_reducible rfl)
        simp only [Act.put, List.setIfInBounds_toArray, List.set_cons_zero, List.set_cons_succ]
        refine wpAnyH_take (i := 9) (oi := ⟨some 52, _, _, _, _, _⟩) (v := ?_) rfl (by kernel_rfl) (by kernel_rfl) (by kernel_rfl) (fun _ _ _ h => h) (Or.inl ⟨by kernel_rfl, ?_⟩) (by assumption) ?_; rotate_left
        · intro w hSw; (try dsimp only at hSw); go_simp; (try with_reducible rfl)
        simp only [Act.put, List.setIfInBounds_toArray, List.set_cons_zero, List.set_cons_succ]
        refine wpAnyH_take (i := 10) (oi := ⟨some 53, _, _, _, _, _⟩) (v := ?_) rfl (by kernel_rfl) (by kernel_rfl) (by kernel_rfl) (fun _ _ _ h => h) (Or.inl ⟨by kernel_rfl, ?_⟩) (by assumption) ?_; rotate_left
        · intro w hSw; (try dsimp only at hSw); go_simp; (try with_reducible rfl)
        simp only [Act.put, List.setIfInBounds_toArray, List.set_cons_zero, List.set_cons_succ]
        refine wpAnyH_take (i := 11) (oi := ⟨some 54, _, _, _, _, _⟩) (v := ?_) rfl (by kernel_rfl) (by kernel_rfl) (by kernel_rfl) (fun _ _ _ h => h) (Or.inl ⟨by kernel_rfl, ?_⟩) (by assumption) ?_; rotate_left
        · intro w hSw; (try dsimp only at hSw); go_simp; (try with_reducible rfl)
        simp only [Act.put, List.setIfInBounds_toArray, List.set_cons_zero, List.set_cons_succ]
        refine wpAnyH_done (by kernel_rfl) ?_ _
        refine NoPanic.normal ?_
        go_wp2
        go_roundw
        case rel => exact ⟨k + 1, r, ov', by omega, by go_num, D2, hW.out.drew, hAK.out, hB.out.drew, hO.out⟩
        case measure => simp [intOf]; omega
      · rw [if_neg hin] at k3
        obtain ⟨q, hq⟩ : ∃ q : Int, -1 = q := ⟨_, rfl⟩
        rw [hq] at k3
        have hq0 : q < 0 := by omega
        have hrn : Hid (r.Nodup ∧ (∀ y ∈ r, y < n) ∧ n - r.length ≤ m) := by
          refine ⟨hD.out.nodup ND.out.1, hD.out.least (fun y => y < n) (fun z hz y hy => ?_) ND.out.2 (fun y hy => ?_), ?_⟩
          · have := tos_lt HF.out (i := z) (by rw [HL.out]; exact hz) y hy
            rw [HL.out] at this; exact this
          · have := tos_lt HF.out HXF.out y (List.mem_of_mem_take hy)
            rw [HL.out] at this; exact this
          · obtain ⟨e, he⟩ := hD.out.pre
            have := congrArg List.length he
            rw [List.length_append, List.length_append, HVL.out] at this
            simp at this; omega
        have CALL := Lib.hid (IH.out wr.drew r tn ov' hrn.out.2.2 htnn hin hrn.out.2.1 hrn.out.1 hW.out.drew hB.out.drew)
        have HIN := Lib.hid hin
        clear hq hin hrn
        go_wp2_with fail
        refine wp_region_noPanic ?_
        refine wp_region_held_drew (S := fun w' => w'.cell? ⟨wb, 1, none⟩ = some (.slice (some ⟨ng, 0, none⟩) n nc) ∧ w'.cell? ⟨lb, lo + k * 2 + 1, none⟩ = some (.int .i64 (tn : Int)) ∧ w'.cell? ⟨ng, tn, none⟩ = some (.int .i64 q)) (by kernel_rfl) ?_ (fun hHeld => ?_)
        · exact ⟨k1, d1, k3⟩
        refine wpAnyH_take (i := 0) (oi := ⟨some 43, _, _, _, _, _⟩) (v := ?_) rfl (by kernel_rfl) (by kernel_rfl) (by kernel_rfl) (fun _ _ _ h => h) (Or.inl ⟨by kernel_rfl, ?_⟩) (by assumption) ?_; rotate_left
        · intro w hSw; (try dsimp only at hSw); go_simp; (try with_reducible rfl)
        simp only [Act.put, List.setIfInBounds_toArray, List.set_cons_zero, List.set_cons_succ]
        refine wpAnyH_take (i := 1) (oi := ⟨some 44, _, _, _, _, _⟩) (v := ?_) rfl (by kernel_rfl) (by kernel_rfl) (by kernel_rfl) (fun _ _ _ h => h) (Or.inl ⟨by kernel_rfl, ?_⟩) (by assumption) ?_; rotate_left
        · intro w hSw; (try dsimp only at hSw); go_simp; (try with_reducible rfl)
        simp only [Act.put, List.setIfInBounds_toArray, List.set_cons_zero, List.set_cons_succ]
        refine wpAnyH_take (i := 2) (oi := ⟨some 45, _, _, _, _, _⟩) (v := ?_) rfl (by kernel_rfl) (by kernel_rfl) (by kernel_rfl) (fun _ _ _ h => h) (Or.inl ⟨by kernel_rfl, ?_⟩) (by assumption) ?_; rotate_left
        · intro w hSw; (try dsimp only at hSw); go_simp; (try with_reducible rfl)
        simp only [Act.put, List.setIfInBounds_toArray, List.set_cons_zero, List.set_cons_succ]
        refine wpAnyH_take (i := 3) (oi := ⟨some 46, _, _, _, _, _⟩) (v := ?_) rfl (by kernel_rfl) (by kernel_rfl) (by kernel_rfl) (fun _ _ _ h => h) (Or.inl ⟨by kernel_rfl, ?_⟩) (by assumption) ?_; rotate_left
        · intro w hSw; (try dsimp only at hSw); go_simp; (try with_reducible rfl)
        simp only [Act.put, List.setIfInBounds_toArray, List.set_cons_zero, List.set_cons_succ]
        refine wpAnyH_take (i := 4) (oi := ⟨some 47, _, _, _, _, _⟩) (v := ?_) rfl (by kernel_rfl) (by kernel_rfl) (by kernel_rfl) (fun _ _ _ h => h) (Or.inl ⟨by kernel_rfl, ?_⟩) (by assumption) ?_; rotate_left
        · intro w hSw; (try dsimp only at hSw); go_simp; (try with_reducible rfl)
        simp only [Act.put, List.setIfInBounds_toArray, List.set_cons_zero, List.set_cons_succ]
        refine wpAnyH_take (i := 5) (oi := ⟨some 48, _, _, _, _, _⟩) (v := ?_) rfl (by kernel_rfl) (by kernel_rfl) (by kernel_rfl) (fun _ _ _ h => h) (Or.inl ⟨by kernel_rfl, ?_⟩) (by assumption) ?_; rotate_left
        · intro w hSw; (try dsimp only at hSw); go_simp; (try with_reducible rfl)
        simp only [Act.put, List.setIfInBounds_toArray, List.set_cons_zero, List.set_cons_succ]
        refine wpAnyH_take (i := 6) (oi := ⟨some 49, _, _, _, _, _⟩) (v := ?_) rfl (by kernel_rfl) (by kernel_rfl) (by kernel_rfl) (fun _ _ _ h => h) (Or.inl ⟨by kernel_rfl, ?_⟩) (by assumption) ?_; rotate_left
        · intro w hSw; (try dsimp only at hSw); go_simp; (try with_reducible rfl)
        simp only [Act.put, List.setIfInBounds_toArray, List.set_cons_zero, List.set_cons_succ]
        refine wpAnyH_take (i := 7) (oi := ⟨some 50, _, _, _, _, _⟩) (v := ?_) rfl (by kernel_rfl) (by kernel_rfl) (by kernel_rfl) (fun _ _ _ h => h) (Or.inl ⟨by kernel_rfl, ?_⟩) (by assumption) ?_; rotate_left
        · intro w hSw; (try dsimp only at hSw); go_simp; (try with_reducible rfl)
        simp only [Act.put, List.setIfInBounds_toArray, List.set_cons_zero, List.set_cons_succ]
        refine wpAnyH_take (i := 8) (oi := ⟨some 51, _, _, _, _, _⟩) (v := ?_) rfl (by kernel_rfl) (by kernel_rfl) (by kernel_rfl) (fun _ _ _ h => h) (Or.inl ⟨by kernel_rfl, ?_⟩) (by assumption) ?_; rotate_left
        · intro w hSw; (try dsimp only at hSw); go_simp; (try with_reducible rfl)
        simp only [Act.put, List.setIfInBounds_toArray, List.set_cons_zero, List.set_cons_succ]
        refine wpAnyH_take (i := 9) (oi := ⟨some 52, _, _, _, _, _⟩) (v := ?_) rfl (by kernel_rfl) (by kernel_rfl) (by kernel_rfl) (fun _ _ _ h => h) (Or.inl ⟨by kernel_rfl, ?_⟩) (by assumption) ?_; rotate_left
        · intro w hSw; (try dsimp only at hSw); go_simp; (try with_reducible rfl)
        simp only [Act.put, List.setIfInBounds_toArray, List.set_cons_zero, List.set_cons_succ]
        refine wpAnyH_take (i := 10) (oi := ⟨some 53, _, _, _, _, _⟩) (v := ?_) rfl (by kernel_rfl) (by kernel_rfl) (by kernel_rfl) (fun _ _ _ h => h) (Or.inl ⟨by kernel_rfl, ?_⟩) (by assumption) ?_; rotate_left
        · intro w hSw; (try dsimp only at hSw); go_simp; (try with_reducible rfl)
        simp only [Act.put, List.setIfInBounds_toArray, List.set_cons_zero, List.set_cons_succ]
        refine wpAnyH_take (i := 11) (oi := ⟨some 54, _, _, _, _, _⟩) (v := ?_) rfl (by kernel_rfl) (by kernel_rfl) (by kernel_rfl) (fun _ _ _ h => h) (Or.inl ⟨by kernel_rfl, ?_⟩) (by assumption) ?_; rotate_left
        · intro w hSw; (try dsimp only at hSw); go_simp; (try with_reducible rfl)
        simp only [Act.put, List.setIfInBounds_toArray, List.set_cons_zero, List.set_cons_succ]
        refine wpAnyH_done (by kernel_rfl) ?_ _
        refine NoPanic.normal ?_
        have d1 : wr.drew.cell? ⟨lb, lo + k * 2 + 1, none⟩ = some (.int .i64 (tn : Int)) := d1
        go_wp2_with (go_at_call 43; (with_reducible refine CALL.out.mono ?_); rintro e w5 ⟨rfl, r2, ov2, hD2, hW2, hK2, hB2⟩; have D2 := Lib.hid hD2; have W2 := Lib.hid hW2; have A2 := Lib.hid (hAK.out.trans hK2); have B2 := Lib.hid hB2; have O2 := Lib.hid (ArcKept.owns (w := wr.drew) hO.out hK2); clear hD2 hW2 hK2 hB2)
        go_roundw
        case rel => exact ⟨k + 1, r2, ov2, by omega, by go_num, by show Dfs _ _ _ _; rw [HTK.out]; exact hD.out.app D2.out, W2, A2, B2, O2⟩
        case measure => simp [intOf]; omega
    · obtain rfl : k = yl := by omega
      have HDF : Hid (Dfs (tos F) [x] v r) := by
        have h1 := hD.out
        rw [List.take_of_length_le (by rw [HTL.out]; exact Nat.le_refl _)] at h1
        exact .step HXV.out (by rw [List.append_nil]; exact h1)
      clear hD
      go_wp2
      go_end0
      exact ⟨rfl, r, ov', HDF.out, hW.out, hAK.out, hB.out⟩
end Go.Proofs.Ytlhiiecaphibhaa

/- graph: parts of the reference's From. -/
namespace Go.Proofs.Ytlhiiecaphibhaa
open Go.RowKit Go.Maps

/-- The row, if there is one, has elements of this type. -/
def RowT (w : World) (row : Option Nat) (t : TypeId) : Prop := ∀ g, row = some g → ∃ c fr, w.heap[g]? = some (.cells c t fr)
theorem owns_rowT {w : World} {B n s : Nat} {e : TypeId} {v : Value} {xs : List Value} (h : w.ownsRow B e s v n xs) : RowT w v.ownBlock e := fun g hg => by
  obtain ⟨_, ⟨rfl, _⟩ | ⟨g1, c1, cur1, rfl, _, k1, _⟩⟩ := h
  · cases hg
  · simp [Value.ownBlock] at hg
    subst hg
    exact ⟨_, _, k1⟩
theorem blk_rowT {w : World} {g : Nat} {c : Array Value} {t : TypeId} {fr : Nat × Nat} (h : w.heap[g]? = some (.cells c t fr)) : RowT w (some g) t := fun g' e => by cases e; exact ⟨_, _, h⟩
theorem blk_kept {w w' : World} {row : Option Nat} {t e : TypeId} {k : Nat} {c : Array Value} {fr : Nat × Nat} (hg : w.grownBy w' row) (hr : RowT w row t) (hk : w.heap[k]? = some (.cells c e fr)) (he : e ≠ t) : w'.heap[k]? = some (.cells c e fr) := by
  rw [hg.block k (lt_of_block hk) (fun e2 => ?_)]
  · exact hk
  · obtain ⟨c', fr', h⟩ := hr k e2.symm
    rw [hk] at h
    injection h with h
    injection h with _ h
    exact he h
theorem owns_keptT {w w' : World} {row : Option Nat} {t : TypeId} {B n s : Nat} {e : TypeId} {v : Value} {xs : List Value} (h : w.ownsRow B e s v n xs) (hg : w.grownBy w' row) (hr : RowT w row t) (he : e ≠ t) : w'.ownsRow B e s v n xs := by
  obtain ⟨h1, h2 | ⟨g, cap, cur, hv, hB, hgg, r⟩⟩ := h
  · exact ⟨h1, .inl h2⟩
  · exact ⟨h1, .inr ⟨g, cap, cur, hv, hB, blk_kept hg hr hgg he, r⟩⟩
theorem WK.keptT {w w' : World} {row : Option Nat} {t : TypeId} {B wb : Nat} {a : Option Addr} {n cap ng nc : Nat} {ov : Value} {N O : List Int} (h : WK w B wb a n cap ng nc ov N O) (hg : w.grownBy w' row) (hr : RowT w row t) (h1 : 3 ≠ t) (h2 : 63 ≠ t) : WK w' B wb a n cap ng nc ov N O :=
  ⟨blk_kept hg hr h.blk h2, owns_keptT h.num hg hr h1, owns_keptT h.ord hg hr h1, h.ne⟩
theorem OwnN.keptT {w w' : World} {row : Option Nat} {t : TypeId} {B : Nat} {v : Value} {P : List (Int × Value)} {Ls : List (List Arc)} (h : OwnN w B v P Ls) (hg : w.grownBy w' row) (hr : RowT w row t) (h1 : 43 ≠ t) (h2 : 45 ≠ t) : OwnN w' B v P Ls :=
  ⟨owns_keptT h.row hg hr h1, h.len, fun i p L k1 k2 => owns_keptT (h.arcs i p L k1 k2) hg hr h2, h.apart⟩
/-- All rows of arcs lie below. -/
def Under (P : List (Int × Value)) (H : Nat) : Prop := ∀ (i : Nat) (p : Int × Value) (g : Nat), P[i]? = some p → p.2.ownBlock = some g → g < H
theorem OwnN.under {w : World} {B : Nat} {v : Value} {P : List (Int × Value)} {Ls : List (List Arc)} (h : OwnN w B v P Ls) : Under P w.heap.size := fun i p g hp hg => by
  have hi : i < Ls.length := by rw [← h.len]; exact (List.getElem?_eq_some_iff.1 hp).1
  exact ((h.arcs i p _ hp (List.getElem?_eq_getElem hi)).lt g hg).2
/-- A store in a row of arcs that is newer than all of the row. -/
theorem OwnN.keptU {w w' : World} {B H g : Nat} {v : Value} {P : List (Int × Value)} {Ls : List (List Arc)} (h : OwnN w B v P Ls) (hg : w.grownBy w' (some g)) (hr : RowT w (some g) 45) (hu : Under P H) (hH : H ≤ g) : OwnN w' B v P Ls :=
  ⟨owns_keptT h.row hg hr (by decide), h.len, fun i p L k1 k2 => (h.arcs i p L k1 k2).kept hg (by
    cases e : p.2.ownBlock with
    | none => exact .inl rfl
    | some g' => exact .inr (fun e2 => by
        have := hu i p g' k1 e
        have := Option.some.inj e2
        omega)), h.apart⟩
theorem setCell_grown (w : World) (g j : Nat) (u : Value) : w.grownBy (w.setCell ⟨g, j, none⟩ u) (some g) := ⟨rfl, rfl, rfl, by simp, fun q _ hq => heap_setCell_other w ⟨g, j, none⟩ q _ (fun e => hq (by simp [e]))⟩
theorem numsOf_nil (n : Nat) : numsOf n [] = List.replicate n (-1) := by
  unfold numsOf
  rw [List.eq_replicate_iff]
  exact ⟨by simp, fun b hb => by
    obtain ⟨x, _, rfl⟩ := List.mem_map.1 hb
    simp⟩
theorem rep_succ (k : Nat) : List.replicate (k + 1) (-1 : Int) = List.replicate k (-1) ++ [-1] := List.replicate_succ'
/-- What was built for the first k nodes. -/
def typT (F : Gr) (r : List Nat) (k : Nat) : List Int := (r.take k).map fun i => (nd F i).1
def arcT (F : Gr) (r : List Nat) (k : Nat) : List (List Arc) := (r.take k).map fun i => (srt (nd F i).2).map (relA r)
theorem typT_succ {F : Gr} {r : List Nat} {k : Nat} {i : Nat} (h : r[k]? = some i) : typT F r (k + 1) = typT F r k ++ [(nd F i).1] := by
  unfold typT
  rw [List.take_add_one, h]; simp
theorem arcT_succ {F : Gr} {r : List Nat} {k : Nat} {i : Nat} (h : r[k]? = some i) : arcT F r (k + 1) = arcT F r k ++ [(srt (nd F i).2).map (relA r)] := by
  unfold arcT
  rw [List.take_add_one, h]; simp
theorem outT (F : Gr) (r : List Nat) : (typT F r r.length).zip (arcT F r r.length) = outG F r := by
  unfold typT arcT outG outN
  rw [List.take_length, List.zip_map']
end Go.Proofs.Ytlhiiecaphibhaa

/- graph: From of the reference. Written by wip/gen/gfrom.py. -/
namespace Go.Proofs.Ytlhiiecaphibhaa
open Go.RowKit Go.Maps

set_option maxRecDepth 100000 in
set_option maxHeartbeats 12800000 in
theorem From_any (w : World) (a : Option Addr) (n cap : Nat) (F : Gr) (h : IsG w a n cap F) (hf : Fine F) (hA : ∀ x ∈ F, x.2.length ≤ 64) (hn : n ≤ 4097) (root : Nat) (hr : root < n) :
    Calls Try.prog 33 #[.agg #[.slice a n cap], .int .i64 root] w fun e w' => ∃ r aa cc, Dfs (tos F) [root] [] r ∧ e = .returned (.agg #[.slice aa r.length cc]) ∧ IsG w' aa r.length cc (outG F r) ∧ Below w.heap.size w w' := by
  have hm := h.maxLe
  have hc := h.capLe
  have hl := h.len
  unfold maxLen at hm
  obtain ⟨W, hW⟩ : ∃ W, twoF w (.slice a n cap) (.slice none 0 0) = W := ⟨_, rfl⟩
  obtain ⟨b1, hz, d1, d2⟩ := twoF_is w _ _ W hW
  have hres : W.heap[w.heap.size + 1]? = some (.cells #[.slice none 0 0] 25) := by
    rw [← hW]
    have := heap_alloc_new (w.alloc (.cells #[.slice a n cap] 25)) (.cells #[.slice none 0 0] 25)
    rw [World.size_alloc] at this
    exact this
  have HRES := Lib.hid hres
  have H := Lib.hid (h.below b1)
  have HRNG := Lib.hid (rng_of h)
  have B1 := Lib.hid b1
  have HZ := Lib.hid hz
  have HF := Lib.hid hf
  have HA := Lib.hid hA
  have HL := Lib.hid hl
  have VIS := Lib.hid (fun ng nc => visit_any F hf hA W a n cap (h.below b1) hn W.heap.size ng nc (Nat.le_refl _))
  clear h b1 hz hf hA hl hres
  go_enter Try.func33, Try.ntmps33
  go_wp2
  (try rw [hW])
  have hbk := Lib.hid (heap_alloc_new W (.cells #[.slice a n cap, .slice none 0 0, .slice none 0 0] 63))
  go_loopw [6] (fun kv wr => ∃ (k : Nat) (nv : Value), k ≤ n ∧ kv = .int .i64 k ∧ Hid (wr.heap[W.heap.size]? = some (.cells #[.slice a n cap, nv, .slice none 0 0] 63)) ∧ Hid (wr.ownsRow W.heap.size 3 1 nv k (ivals (List.replicate k (-1)))) ∧ Hid (Below W.heap.size W wr)) (fun kv _ => n - (intOf kv).toNat)
  case atStart => exact ⟨0, _, Nat.zero_le _, rfl, hbk, World.ownsRow_nil _ _ _ _, ba W _⟩
  case round =>
    clear hbk
    obtain ⟨k, nv, hk, rfl, hbk, hnv, hB⟩ := hrel
    have hbx : wr.cell? ⟨w.heap.size, 0, none⟩ = some (.slice a n cap) := (hB.out.cell (p := ⟨w.heap.size, 0, none⟩) (by have := HZ.out; show w.heap.size < _; omega)).trans d1
    have hws := hB.out.size
    obtain ⟨na, nc, rfl, hnc1, hnc2⟩ := owns_slice hnv.out
    unfold maxLen at hnc2
    have q1 : wr.cell? ⟨W.heap.size, 1, none⟩ = some (.slice na k nc) := by rw [cell_of_row _ _ _ _ _ _ hbk.out]; rfl
    by_cases hlt : k < n
    · have AL := Lib.hid (hnv.out.alloc (.cells #[.int .i64 (-1)] 3))
      have BL := Lib.hid (heap_alloc_old wr (.cells #[.int .i64 (-1)] 3) (lt_of_block hbk.out) |>.trans hbk.out)
      go_wp2_with (at_builtin; refine wpList_append_ints (w := wr.alloc (.cells #[.int .i64 (-1)] 3)) rfl _ _ rfl W.heap.size _ k (List.replicate k (-1)) rfl AL.out wr.heap.size 1 [-1] #[.int .i64 (-1)] rfl (heap_alloc_new wr _) rfl (by simp; omega) (by simp; omega) ?_; intro v2 w2 hown2 hgrow2 _; obtain ⟨oa2, oc2, rfl, _, _⟩ := owns_slice hown2; have O2 := Lib.hid hown2; have B2 := Lib.hid (grown_below (hB.out.alloc hws _) (by simp; omega) AL.out hgrow2); have K2 := Lib.hid (blk_kept hgrow2 (owns_rowT AL.out) BL.out (by decide)); have y1 : w2.cell? ⟨W.heap.size, 1, none⟩ = some (.slice na k nc) := (by rw [cell_of_row _ _ _ _ _ _ K2.out]; rfl); have y2 : w2.frozen? ⟨W.heap.size, 1, none⟩ = false := (by simp [World.frozen?, K2.out]); clear hown2 hgrow2)
      go_roundw
      case rel => exact ⟨k + 1, .slice oa2 (k + 1) oc2, by omega, by go_num, heap_setCell_same w2 W.heap.size 1 _ _ _ K2.out, by rw [rep_succ]; exact owns_keptT O2.out (setCell_grown w2 W.heap.size 1 _) (blk_rowT K2.out) (by decide), B2.out.setCell (p := ⟨W.heap.size, 1, none⟩) (Nat.le_refl _) _⟩
      case measure => simp [intOf]; omega
    · obtain rfl : n = k := by omega
      obtain ⟨ng, hng⟩ : ∃ ng, na = some ⟨ng, 0, none⟩ := by
        obtain ⟨_, ⟨e, e2⟩ | ⟨g1, c1, cur1, e, _⟩⟩ := hnv.out
        · omega
        · cases e; exact ⟨_, rfl⟩
      subst hng
      have hWK : WK wr W.heap.size W.heap.size a n cap ng nc (.slice none 0 0) (numsOf n []) (omem []) := ⟨hbk.out, by rw [numsOf_nil]; exact hnv.out, World.ownsRow_nil _ _ _ _, fun e => by cases e⟩
      have CALL := Lib.hid (VIS.out ng nc n wr [] root _ (by simp) hr (by simp) (fun y hy => by cases hy) List.nodup_nil hWK hB.out)
      clear hbk hnv hB hWK VIS q1
      go_wp2_with (go_at_call 43; (with_reducible refine CALL.out.mono ?_); rintro e w3 ⟨rfl, r, ov, hD, hWK, _, hB3⟩; have DF := Lib.hid hD; have WK3 := Lib.hid hWK; have B3 := Lib.hid hB3; clear hD hWK hB3; go_wp2_with fail)
      have hrn := DF.out.nodup List.nodup_nil
      have hrlt : ∀ y ∈ r, y < n := DF.out.least (fun y => y < n) (fun z hz y hy => by
        have := tos_lt HF.out (i := z) (by rw [HL.out]; exact hz) y hy
        rw [HL.out] at this; exact this) (fun y hy => by cases hy) (fun y hy => by simp at hy; subst hy; exact hr)
      have hrl := nodup_lt hrn hrlt
      have HRLT := Lib.hid hrlt
      have HCL := Lib.hid (DF.out.closed (fun x hx => (by cases hx)))
      have hroot : root ∈ r := DF.out.stack root (by simp)
      have hr0 : 0 < r.length := List.length_pos_of_mem hroot
      obtain ⟨rl, hrl'⟩ : ∃ q, r.length = q := ⟨_, rfl⟩
      have HRL := Lib.hid hrl'
      have hord := WK3.out.ord
      rw [omem_len] at hord
      obtain ⟨oga, oc, hov, hoc1, hoc2⟩ := owns_slice hord
      subst hov
      obtain ⟨og, hog⟩ : ∃ og, oga = some ⟨og, 0, none⟩ := by
        obtain ⟨_, ⟨e, e2⟩ | ⟨g1, c1, cur1, e, _⟩⟩ := hord
        · omega
        · cases e; exact ⟨_, rfl⟩
      subst hog
      rw [hrl'] at WK3 hrl hr0 hoc1
      unfold maxLen at hoc2
      have WK4 := Lib.hid (WK3.out.below (ba w3 (.cells #[.slice none 0 0] 25)))
      have B4 := Lib.hid (B3.out.alloc B3.out.size (.cells #[.slice none 0 0] 25))
      have HOB := Lib.hid (heap_alloc_new w3 (.cells #[.slice none 0 0] 25))
      have hobB : Hid (W.heap.size ≤ w3.heap.size) := B3.out.size
      obtain ⟨ob, hob⟩ : ∃ ob, w3.heap.size = ob := ⟨_, rfl⟩
      rw [hob] at HOB hobB
      clear WK3 B3 hbx hrn hrlt hroot hord hrl' CALL
      go_wp2
      (try rw [hob])
      clear hob
      go_loopw [8] (fun kv wr => ∃ (k : Nat) (nv : Value) (P : List (Int × Value)), k ≤ rl ∧ kv = .int .i64 k ∧ Hid (WK wr W.heap.size W.heap.size a n cap ng nc (.slice (some ⟨og, 0, none⟩) rl oc) (numsOf n r) (omem r)) ∧ Hid (wr.heap[ob]? = some (.cells #[nv] 25)) ∧ Hid (OwnN wr W.heap.size nv P (arcT F r k)) ∧ Hid (P.map Prod.fst = typT F r k) ∧ Hid (Below W.heap.size W wr)) (fun kv _ => rl - (intOf kv).toNat)
      case atStart => exact ⟨0, .slice none 0 0, [], Nat.zero_le _, rfl, WK4, HOB, OwnN.nil _ _, rfl, B4⟩
      case round =>
        clear WK4 HOB B4
        obtain ⟨k, nv, P, hk, rfl, hWK, hob1, hN, hT, hB⟩ := hrel
        have hbx : wr.cell? ⟨w.heap.size, 0, none⟩ = some (.slice a n cap) := (hB.out.cell (p := ⟨w.heap.size, 0, none⟩) (by have := HZ.out; show w.heap.size < _; omega)).trans d1
        have hws := hB.out.size
        have f1 := hWK.out.c2
        by_cases hlt : k < rl
        · have hkr : k < r.length := by rw [HRL.out]; exact hlt
          have hxr := List.getElem?_eq_getElem hkr
          have hxn := HRLT.out _ (List.getElem_mem hkr)
          have hxm := List.getElem_mem hkr
          obtain ⟨x, hx⟩ : ∃ x, r[k] = x := ⟨_, rfl⟩
          rw [hx] at hxr hxn hxm
          have TS := Lib.hid (typT_succ (F := F) hxr)
          have AS := Lib.hid (arcT_succ (F := F) hxr)
          have f2 : wr.cell? ⟨og, k, none⟩ = some (.int .i64 (x : Int)) := by
            have h1 := hWK.out.ord
            rw [omem_len, HRL.out] at h1
            rw [h1.cellAt k (by omega)]
            unfold ivals omem
            rw [List.map_map, List.getElem?_map, hxr]; rfl
          obtain ⟨b, off, rfl, hbl, hx0⟩ := H.out.at_ (by omega)
          obtain ⟨xa, xc, hd0⟩ := hx0 x hxn
          have hxF : x < F.length := by rw [HL.out]; exact hxn
          have HD := Lib.hid (fun V (hV : Below W.heap.size W V) => hd0.below hbl hV)
          have HAX := Lib.hid (HA.out _ (nd_mem hxF))
          have HDX := Lib.hid (fine_dif HF.out hxF)
          have HTN := Lib.hid (fun a ha => (HF.out _ (nd_mem hxF)).1 a ha)
          have HRX := Lib.hid (HRNG.out x hxn)
          have HTR : Hid (∀ z ∈ srt (nd F x).2, z.2.toNat ∈ r) := fun z hz => HCL.out x hxm _ (List.mem_map_of_mem hz)
          rw [HL.out] at HTN
          obtain ⟨y, hy⟩ : ∃ y, nd F x = y := ⟨_, rfl⟩
          rw [hy] at HD HAX HDX HTN HRX HTR TS AS
          obtain ⟨yl, hyl⟩ : ∃ q, y.2.length = q := ⟨_, rfl⟩
          have hyl64 := HAX.out
          rw [hyl] at hyl64
          have HYL := Lib.hid hyl
          have HD2 : Hid (∀ V, Below W.heap.size W V → V.cell? ⟨b, off + x * 2, none⟩ = some (.int .i64 y.1) ∧ V.cell? ⟨b, off + x * 2 + 1, none⟩ = some (.slice xa yl xc) ∧ IsArcs V xa yl xc y.2) := fun V hV => by
            have h := HD.out V hV
            have h1 := h.c1
            have h2 := h.is
            rw [hyl] at h1 h2
            exact ⟨h.c0, h1, h2⟩
          obtain ⟨f3, f4, _⟩ := HD2.out wr hB.out
          have f0 := hbx
          have hk0 : (0 : Int) ≤ (k : Int) := by omega
          have hk1 : (k : Int) < (rl : Int) := by omega
          have hx0' : (0 : Int) ≤ (x : Int) := by omega
          have hx1 : (x : Int) < (n : Int) := by omega
          obtain ⟨w4, hw4⟩ : ∃ w4, (wr.alloc (.cells #[.int .i64 y.1, .slice xa yl xc] 43)).drew = w4 := ⟨_, rfl⟩
          have hb4 : Below wr.heap.size wr w4 := hw4 ▸ (ba wr _).drew
          have HS0 : Hid (∀ o, (wr.alloc o).drew.cell? ⟨w.heap.size, 0, none⟩ = some (.slice (some ⟨b, off, none⟩) n cap) ∧ (wr.alloc o).drew.cell? ⟨W.heap.size, 2, none⟩ = some (.slice (some ⟨og, 0, none⟩) rl oc) ∧ (wr.alloc o).drew.cell? ⟨og, k, none⟩ = some (.int .i64 (x : Int)) ∧ (wr.alloc o).drew.cell? ⟨b, off + x * 2, none⟩ = some (.int .i64 y.1) ∧ (wr.alloc o).drew.cell? ⟨b, off + x * 2 + 1, none⟩ = some (.slice xa yl xc)) := fun o => by
            have hb : Below wr.heap.size wr (wr.alloc o).drew := (ba wr o).drew
            obtain ⟨p3, p4, _⟩ := HD2.out _ (hB.out.trans (hb.mono hws))
            exact ⟨(hb.cell (p := ⟨w.heap.size, 0, none⟩) (by have := HZ.out; show w.heap.size < _; omega)).trans hbx, (hWK.out.below hb).c2, (hb.cell (p := ⟨og, k, none⟩) (World.block_lt_of_cell? wr ⟨og, k, none⟩ f2)).trans f2, p3, p4⟩
          have WK5 := Lib.hid (hWK.out.below hb4)
          have N5 := Lib.hid (hN.out.below hb4)
          have HU := Lib.hid (OwnN.under N5.out)
          have O5 := Lib.hid ((hb4.block ob (lt_of_block hob1.out)).trans hob1.out)
          have B5 := Lib.hid (hB.out.trans (hb4.mono hws))
          have hxb : w4.heap[wr.heap.size]? = some (.cells #[.int .i64 y.1, .slice xa yl xc] 43) := hw4 ▸ heap_alloc_new wr _
          have XB := Lib.hid hxb
          have g0 := (hb4.cell (p := ⟨w.heap.size, 0, none⟩) (by have := HZ.out; show w.heap.size < _; omega)).trans hbx
          have g1 := WK5.out.c2
          have g2 := (hb4.cell (p := ⟨og, k, none⟩) (World.block_lt_of_cell? wr ⟨og, k, none⟩ f2)).trans f2
          obtain ⟨g3, g4, hI4⟩ := HD2.out w4 B5.out
          have I4 := Lib.hid hI4
          have x1 : w4.cell? ⟨wr.heap.size, 1, none⟩ = some (.slice xa yl xc) := by rw [cell_of_row _ _ _ _ _ _ hxb]; rfl
          have SRT := Lib.hid (rsorted_any w4 xa yl xc y.2 I4.out (by omega) HDX.out)
          clear hx hx0 hd0 hy hyl hxr hxm hkr hxF HD hI4 hxb hb4
          go_wp2_with fail
          refine wp_region_noPanic ?_
          refine wp_region_held_drew (S := fun w' => w'.cell? ⟨w.heap.size, 0, none⟩ = some (.slice (some ⟨b, off, none⟩) n cap) ∧ w'.cell? ⟨W.heap.size, 2, none⟩ = some (.slice (some ⟨og, 0, none⟩) rl oc) ∧ w'.cell? ⟨og, k, none⟩ = some (.int .i64 (x : Int)) ∧ w'.cell? ⟨b, off + x * 2, none⟩ = some (.int .i64 y.1) ∧ w'.cell? ⟨b, off + x * 2 + 1, none⟩ = some (.slice xa yl xc)) (by kernel_rfl) ?_ (fun hHeld => ?_)
          · first | exact ⟨f0, f1, f2, f3, f4⟩ | exact HS0.out _ | exact ⟨g0, g1, g2, g3, g4⟩ | (rw [hw4]; exact ⟨g0, g1, g2, g3, g4⟩)
          refine wpAnyH_take (i := 0) (oi := ⟨some 43, _, _, _, _, _⟩) (v := ?_) rfl (by kernel_rfl) (by kernel_rfl) (by kernel_rfl) (fun _ _ _ h => h) (Or.inl ⟨by kernel_rfl, ?_⟩) (by assumption) ?_; rotate_left
          · intro w hSw; (try dsimp only at hSw); go_simp; (try with_reducible rfl)
          simp only [Act.put, List.setIfInBounds_toArray, List.set_cons_zero, List.set_cons_succ]
          refine wpAnyH_take (i := 1) (oi := ⟨some 44, _, _, _, _, _⟩) (v := ?_) rfl (by kernel_rfl) (by kernel_rfl) (by kernel_rfl) (fun _ _ _ h => h) (Or.inl ⟨by kernel_rfl, ?_⟩) (by assumption) ?_; rotate_left
          · intro w hSw; (try dsimp only at hSw); go_simp; (try with_reducible rfl)
          simp only [Act.put, List.setIfInBounds_toArray, List.set_cons_zero, List.set_cons_succ]
          refine wpAnyH_take (i := 2) (oi := ⟨some 45, _, _, _, _, _⟩) (v := ?_) rfl (by kernel_rfl) (by kernel_rfl) (by kernel_rfl) (fun _ _ _ h => h) (Or.inl ⟨by kernel_rfl, ?_⟩) (by assumption) ?_; rotate_left
          · intro w hSw; (try dsimp only at hSw); go_simp; (try with_reducible rfl)
          simp only [Act.put, List.setIfInBounds_toArray, List.set_cons_zero, List.set_cons_succ]
          refine wpAnyH_take (i := 3) (oi := ⟨some 46, _, _, _, _, _⟩) (v := ?_) rfl (by kernel_rfl) (by kernel_rfl) (by kernel_rfl) (fun _ _ _ h => h) (Or.inl ⟨by kernel_rfl, ?_⟩) (by assumption) ?_; rotate_left
          · intro w hSw; (try dsimp only at hSw); go_simp; (try with_reducible rfl)
          simp only [Act.put, List.setIfInBounds_toArray, List.set_cons_zero, List.set_cons_succ]
          refine wpAnyH_take (i := 4) (oi := ⟨some 47, _, _, _, _, _⟩) (v := ?_) rfl (by kernel_rfl) (by kernel_rfl) (by kernel_rfl) (fun _ _ _ h => h) (Or.inl ⟨by kernel_rfl, ?_⟩) (by assumption) ?_; rotate_left
          · intro w hSw; (try dsimp only at hSw); go_simp; (try with_reducible rfl)
          simp only [Act.put, List.setIfInBounds_toArray, List.set_cons_zero, List.set_cons_succ]
          refine wpAnyH_take (i := 5) (oi := ⟨some 48, _, _, _, _, _⟩) (v := ?_) rfl (by kernel_rfl) (by kernel_rfl) (by kernel_rfl) (fun _ _ _ h => h) (Or.inl ⟨by kernel_rfl, ?_⟩) (by assumption) ?_; rotate_left
          · intro w hSw; (try dsimp only at hSw); go_simp; (try with_reducible rfl)
          simp only [Act.put, List.setIfInBounds_toArray, List.set_cons_zero, List.set_cons_succ]
          refine wpAnyH_take (i := 6) (oi := ⟨some 49, _, _, _, _, _⟩) (v := ?_) rfl (by kernel_rfl) (by kernel_rfl) (by kernel_rfl) (fun _ _ _ h => h) (Or.inl ⟨by kernel_rfl, ?_⟩) (by assumption) ?_; rotate_left
          · intro w hSw; (try dsimp only at hSw); go_simp; (try with_reducible rfl)
          simp only [Act.put, List.setIfInBounds_toArray, List.set_cons_zero, List.set_cons_succ]
          refine wpAnyH_take (i := 7) (oi := ⟨some 50, _, _, _, _, _⟩) (v := ?_) rfl (by kernel_rfl) (by kernel_rfl) (by kernel_rfl) (fun _ _ _ h => h) (Or.inl ⟨by kernel_rfl, ?_⟩) (by assumption) ?_; rotate_left
          · intro w hSw; (try dsimp only at hSw); go_simp; (try with_reducible rfl)
          simp only [Act.put, List.setIfInBounds_toArray, List.set_cons_zero, List.set_cons_succ]
          refine wpAnyH_take (i := 8) (oi := ⟨some 51, _, _, _, _, _⟩) (v := ?_) rfl (by kernel_rfl) (by kernel_rfl) (by kernel_rfl) (fun _ _ _ h => h) (Or.inl ⟨by kernel_rfl, ?_⟩) (by assumption) ?_; rotate_left
          · intro w hSw; (try dsimp only at hSw); go_simp; (try with_reducible rfl)
          simp only [Act.put, List.setIfInBounds_toArray, List.set_cons_zero, List.set_cons_succ]
          refine wpAnyH_take (i := 9) (oi := ⟨some 52, _, _, _, _, _⟩) (v := ?_) rfl (by kernel_rfl) (by kernel_rfl) (by kernel_rfl) (fun _ _ _ h => h) (Or.inl ⟨by kernel_rfl, ?_⟩) (by assumption) ?_; rotate_left
          · intro w hSw; (try dsimp only at hSw); go_simp; (try with_reducible rfl)
          simp only [Act.put, List.setIfInBounds_toArray, List.set_cons_zero, List.set_cons_succ]
          refine wpAnyH_take (i := 10) (oi := ⟨some 53, _, _, _, _, _⟩) (v := ?_) rfl (by kernel_rfl) (by kernel_rfl) (by kernel_rfl) (fun _ _ _ h => h) (Or.inl ⟨by kernel_rfl, ?_⟩) (by assumption) ?_; rotate_left
          · intro w hSw; (try dsimp only at hSw); go_simp; (try with_reducible rfl)
          simp only [Act.put, List.setIfInBounds_toArray, List.set_cons_zero, List.set_cons_succ]
          refine wpAnyH_ready (rs := [11]) (by kernel_rfl) (by simp) ?_
          refine AllReadyH.cons (o := ⟨some 9, _, _, _, _, _⟩) rfl (fun K hK => ?_) AllReadyH.nil
          go_simp
          refine hK.out _ _ ?_ (fun hHeld => ?_)
          · first | exact ⟨f0, f1, f2, f3, f4⟩ | exact HS0.out _ | exact ⟨g0, g1, g2, g3, g4⟩ | (rw [hw4]; exact ⟨g0, g1, g2, g3, g4⟩)
          clear hK K
          (try simp only [Act.put, List.setIfInBounds_toArray, List.set_cons_zero, List.set_cons_succ])
          refine wpAnyH_ready (rs := [12]) (by kernel_rfl) (by simp) ?_
          refine AllReadyH.cons (o := ⟨none, _, _, _, _, _⟩) rfl (fun K hK => ?_) AllReadyH.nil
          go_simp
          refine hK.out _ _ ?_ (fun hHeld => ?_)
          · first | exact ⟨f0, f1, f2, f3, f4⟩ | exact HS0.out _ | exact ⟨g0, g1, g2, g3, g4⟩ | (rw [hw4]; exact ⟨g0, g1, g2, g3, g4⟩)
          clear hK K
          (try simp only [Act.put, List.setIfInBounds_toArray, List.set_cons_zero, List.set_cons_succ])
          refine wpAnyH_done (by kernel_rfl) ?_ _
          refine NoPanic.normal ?_
          (try rw [hw4])
          obtain ⟨xb, hxbe⟩ : ∃ xb, wr.heap.size = xb := ⟨_, rfl⟩
          rw [hxbe] at XB x1
          (try rw [hxbe])
          clear hxbe
          clear hw4 hWK hN hob1 hB f0 f1 f2 f3 f4 g0 g1 g2 g3 g4 hbx hws
          go_wp2_with fail
          refine SRT.out.mono ?_
          rintro e w5 ⟨vs, rfl, hown5, hb5⟩
          obtain ⟨la, lc, rfl, hIA⟩ := IsArcs.of_owns hown5 (fun z hz => HRX.out z ((srt_perm _).mem_iff.1 hz))
          have hlc := hIA.capLe
          have hlm := hIA.maxLe
          have hlnil := hIA.nil_
          unfold maxLen at hlm
          have WK6 := Lib.hid (WK5.out.below hb5)
          have N6 := Lib.hid (N5.out.below hb5)
          have O6 := Lib.hid ((hb5.block ob (lt_of_block O5.out)).trans O5.out)
          have XB6 := Lib.hid ((hb5.block xb (lt_of_block XB.out)).trans XB.out)
          have hb4s := B5.out.size
          have B6 := Lib.hid (B5.out.trans (hb5.mono hb4s))
          have L6 : Hid (w5.ownsRow w4.heap.size 45 2 (.slice la yl lc) yl (avals (mix (relA r) 0 (srt y.2)))) := by show World.ownsRow _ _ _ _ _ _ _; rw [mix_zero]; exact hown5
          have hsl : Hid ((srt y.2).length = yl) := by show _ = _; rw [srt_len]; exact HYL.out
          clear hown5 hb5 hIA SRT WK5 N5 O5 XB B5 x1 I4
          go_wp2
          go_loopw [11] (fun jv wr => ∃ j : Nat, j ≤ yl ∧ jv = .int .i64 j ∧ Hid (WK wr W.heap.size W.heap.size (some ⟨b, off, none⟩) n cap ng nc (.slice (some ⟨og, 0, none⟩) rl oc) (numsOf n r) (omem r)) ∧ Hid (wr.heap[ob]? = some (.cells #[nv] 25)) ∧ Hid (OwnN wr W.heap.size nv P (arcT F r k)) ∧ Hid (wr.heap[xb]? = some (.cells #[.int .i64 y.1, .slice xa yl xc] 43)) ∧ Hid (wr.ownsRow w4.heap.size 45 2 (.slice la yl lc) yl (avals (mix (relA r) j (srt y.2)))) ∧ Hid (Below W.heap.size W wr)) (fun jv _ => yl - (intOf jv).toNat)
          case atStart => exact ⟨0, Nat.zero_le _, rfl, WK6, O6, N6, XB6, L6, B6⟩
          case round =>
            clear WK6 O6 N6 XB6 L6 B6
            obtain ⟨j, hj, rfl, hWK, hob1, hN, hXB, hLO, hB⟩ := hrel
            have hws := hB.out.size
            by_cases hjl : j < yl
            · have hjL : j < (srt y.2).length := by rw [hsl.out]; exact hjl
              have hgj := mix_get (relA r) (ar_get hjL)
              have hms := mix_set (relA r) (ar_get hjL)
              have hjm : j < (mix (relA r) j (srt y.2)).length := by rw [mix_len]; exact hjL
              have haj : ar (mix (relA r) j (srt y.2)) j = ar (srt y.2) j := by
                have := ar_get hjm
                rw [hgj] at this
                exact (Option.some.inj this).symm
              have hav := fun z => avals_set hjm z
              have hcv := avals_get hjm
              rw [haj] at hav hcv
              have hto := HTN.out _ ((srt_perm _).mem_iff.1 (ar_mem hjL))
              have htr := HTR.out _ (ar_mem hjL)
              obtain ⟨f, hf⟩ : ∃ f, ar (srt y.2) j = f := ⟨_, rfl⟩
              rw [hf] at hto htr hms hav hcv
              obtain ⟨ff, tt⟩ := f
              obtain ⟨tn, rfl⟩ : ∃ tn : Nat, tt = (tn : Int) := ⟨tt.toNat, (Int.toNat_of_nonneg hto.1).symm⟩
              dsimp only at hto htr hcv
              rw [Int.toNat_natCast] at htr
              have htn0 : (0 : Int) ≤ (tn : Int) := hto.1
              have htn1 : (tn : Int) < (n : Int) := hto.2
              have htnn : tn < n := by omega
              obtain ⟨lg, hlg⟩ : ∃ lg, la = some ⟨lg, 0, none⟩ := by
                obtain ⟨_, ⟨e, e2⟩ | ⟨g1', c1', cur1', e, _⟩⟩ := hLO.out
                · omega
                · cases e; exact ⟨_, rfl⟩
              subst hlg
              have e0 := hWK.out.c1
              have e1 : wr.cell? ⟨lg, j * 2 + 1, none⟩ = some (.int .i64 (tn : Int)) := (hLO.out.cellAt _ (by omega)).trans hcv.2
              have e2 : wr.cell? ⟨ng, tn, none⟩ = some (.int .i64 ((r.idxOf tn : Nat) : Int)) := by
                rw [hWK.out.num.cellAt tn (by omega)]
                unfold ivals
                rw [List.getElem?_map, numsOf_get r htnn, if_pos htr]; rfl
              have hWKd := hWK.out.drew
              have hLOd : wr.drew.ownsRow w4.heap.size 45 2 (.slice (some ⟨lg, 0, none⟩) yl lc) yl (avals (mix (relA r) j (srt y.2))) := hLO.out
              have hNd : OwnN wr.drew W.heap.size nv P (arcT F r k) := ⟨hN.out.row, hN.out.len, hN.out.arcs, hN.out.apart⟩
              have hobd : wr.drew.heap[ob]? = some (.cells #[nv] 25) := hob1.out
              have hXBd : wr.drew.heap[xb]? = some (.cells #[.int .i64 y.1, .slice xa yl xc] 43) := hXB.out
              have hBd := hB.out.drew
              obtain ⟨wd, hwd⟩ : ∃ wd, wr.drew = wd := ⟨_, rfl⟩
              rw [hwd] at hWKd hLOd hNd hobd hXBd hBd
              have e4 : wd.cell? ⟨lg, j * 2 + 1, none⟩ = some (.int .i64 (tn : Int)) := (hLOd.cellAt _ (by omega)).trans hcv.2
              have e3 : wd.frozen? ⟨lg, j * 2 + 1, none⟩ = false := hLOd.frozenAt _
              have hst := hLOd.stored (j * 2 + 1) (.int .i64 ((r.idxOf tn : Nat) : Int))
              have hgr := hst.2
              have hRT : RowT wd (some lg) 45 := owns_rowT hLOd
              have hlgB := (hLOd.lt lg rfl).1
              have WK7 := Lib.hid (hWKd.keptT hgr hRT (by decide) (by decide))
              have O7 := Lib.hid (blk_kept hgr hRT hobd (by decide))
              have N7 := Lib.hid (hNd.keptU hgr hRT HU.out hlgB)
              have XB7 := Lib.hid (blk_kept hgr hRT hXBd (by decide))
              have B7 := Lib.hid (hBd.setCell (p := ⟨lg, j * 2 + 1, none⟩) (Nat.le_trans hb4s hlgB) (.int .i64 ((r.idxOf tn : Nat) : Int)))
              have L7 : Hid ((wd.setCell ⟨lg, j * 2 + 1, none⟩ (.int .i64 ((r.idxOf tn : Nat) : Int))).ownsRow w4.heap.size 45 2 (.slice (some ⟨lg, 0, none⟩) yl lc) yl (avals (mix (relA r) (j + 1) (srt y.2)))) := by
                show World.ownsRow _ _ _ _ _ _ _
                rw [← hms]
                have := hst.1
                rw [hav] at this
                exact this
              obtain ⟨q, hq⟩ : ∃ q, ((r.idxOf tn : Nat) : Int) = q := ⟨_, rfl⟩
              rw [hq] at e2 WK7 O7 N7 XB7 B7 L7
              have hj0 : (0 : Int) ≤ (j : Int) := by omega
              have hj1 : (j : Int) < (yl : Int) := by omega
              have HWD := Lib.hid hwd
              clear hwd hgj hms hjm haj hav hcv hto htr hf hst hgr hRT hq hjL hWKd hLOd hNd hobd hXBd hBd hWK hN hob1 hXB hLO hB hws
              go_wp2_with fail
              go_still_tail 15, (by kernel_rfl)
              change wpList _ _ _ _ _ wr.drew
              rw [HWD.out]
              clear HWD e0 e1 e2
              go_wp2
              go_roundw
              case rel => exact ⟨j + 1, by omega, by go_num, WK7, O7, N7, XB7, L7, B7⟩
              case measure => simp [intOf]; omega
            · obtain rfl : yl = j := by omega
              have hLF : Hid (wr.ownsRow w4.heap.size 45 2 (.slice la yl lc) yl (avals ((srt y.2).map (relA r)))) := by
                show World.ownsRow _ _ _ _ _ _ _
                have := hLO.out
                rw [← hsl.out, mix_all, hsl.out] at this
                exact this
              have o0 : wr.cell? ⟨ob, 0, none⟩ = some nv := by rw [cell_of_row _ _ _ _ _ _ hob1.out]; rfl
              have x0 : wr.cell? ⟨xb, 0, none⟩ = some (.int .i64 y.1) := by rw [cell_of_row _ _ _ _ _ _ hXB.out]; rfl
              have hPl : Hid (P.length = k) := by
                show _ = _
                have := congrArg List.length hT.out
                unfold typT at this
                rw [List.length_map, List.length_map, List.length_take, HRL.out] at this
                omega
              obtain ⟨nia, nic, hnv, hni1, hni2⟩ := owns_slice hN.out.row
              subst hnv
              have hob2 := Lib.hid (hob1.out)
              have WA := Lib.hid (hWK.out.below (ba wr (.cells #[.int .i64 y.1, .slice la yl lc] 43)))
              have NA := Lib.hid (hN.out.below (ba wr (.cells #[.int .i64 y.1, .slice la yl lc] 43)))
              have OA := Lib.hid ((heap_alloc_old wr (.cells #[.int .i64 y.1, .slice la yl lc] 43) (lt_of_block hob1.out)).trans hob1.out)
              have LA := Lib.hid (hLF.out.alloc (.cells #[.int .i64 y.1, .slice la yl lc] 43))
              have BA := Lib.hid (hB.out.alloc hws (.cells #[.int .i64 y.1, .slice la yl lc] 43))
              clear hLO hWK hN hXB hLF hB hob1
              go_wp2_with (at_builtin; refine wpList_append_node (w := wr.alloc (.cells #[.int .i64 y.1, .slice la yl lc] 43)) rfl _ _ rfl W.heap.size _ P rfl NA.out.row wr.heap.size 1 (y.1, .slice la yl lc) rfl (heap_alloc_new wr _) rfl (by have := hPl.out; omega) (by simp; omega) ?_; intro v8 w8 hown8 hgrow8; obtain ⟨o8a, o8c, rfl, _, _⟩ := owns_slice hown8; have PS := Lib.hid (NA.out.push (p := (y.1, .slice la yl lc)) (L := (srt y.2).map (relA r)) (by rw [List.length_map, hsl.out]; exact owns_base LA.out hb4s) (fun i q hq g hg hv => by have h1 := HU.out i q g hq hg; have h2 := (LA.out.lt g hv).1; omega) hown8 hgrow8); have RN := Lib.hid (owns_rowT NA.out.row); have WK8 := Lib.hid (WA.out.keptT hgrow8 RN.out (by decide) (by decide)); have O8 := Lib.hid (blk_kept hgrow8 RN.out OA.out (by decide)); have B8 := Lib.hid (grown_below BA.out (by simp; omega) NA.out.row hgrow8); have p1 : w8.cell? ⟨ob, 0, none⟩ = some (.slice nia P.length nic) := (by rw [cell_of_row _ _ _ _ _ _ O8.out]; rfl); have p2 : w8.frozen? ⟨ob, 0, none⟩ = false := (by simp [World.frozen?, O8.out]); clear hown8 hgrow8)
              go_roundw
              case rel =>
                have r1 := WK8.out.keptT (setCell_grown w8 ob 0 (.slice o8a (P.length + 1) o8c)) (blk_rowT O8.out) (by decide) (by decide)
                have r2 := heap_setCell_same w8 ob 0 _ _ (.slice o8a (P.length + 1) o8c) O8.out
                have r3 := PS.out.keptT (setCell_grown w8 ob 0 (.slice o8a (P.length + 1) o8c)) (blk_rowT O8.out) (by decide) (by decide)
                have r4 : (P ++ [(y.1, Value.slice la yl lc)]).map Prod.fst = typT F r (k + 1) := by rw [TS.out, List.map_append, hT.out]; rfl
                have r5 := B8.out.setCell (p := ⟨ob, 0, none⟩) hobB.out (.slice o8a (P.length + 1) o8c)
                rw [← AS.out] at r3
                exact ⟨k + 1, _, _, by omega, by go_num, r1, r2, r3, r4, r5⟩
              case measure => simp [intOf]; omega
        · obtain rfl : rl = k := by omega
          have hPl : P.length = rl := by
            have := congrArg List.length hT.out
            unfold typT at this
            rw [List.length_map, List.length_map, List.length_take, HRL.out] at this
            omega
          obtain ⟨nia, nic, hnv, hni1, hni2⟩ := owns_slice hN.out.row
          subst hnv
          have o0 : wr.cell? ⟨ob, 0, none⟩ = some (.slice nia P.length nic) := by rw [cell_of_row _ _ _ _ _ _ hob1.out]; rfl
          have hrb : wr.heap[w.heap.size + 1]? = some (.cells #[.slice none 0 0] 25) := (hB.out.block _ (by have := HZ.out; omega)).trans HRES.out
          have r0 : wr.cell? ⟨w.heap.size + 1, 0, none⟩ = some (.slice none 0 0) := by rw [cell_of_row _ _ _ _ _ _ hrb]; rfl
          have r1 : wr.frozen? ⟨w.heap.size + 1, 0, none⟩ = false := by simp [World.frozen?, hrb]
          have HRB := Lib.hid hrb
          have hN4 := hN.out.keptT (setCell_grown wr (w.heap.size + 1) 0 (.slice nia P.length nic)) (blk_rowT hrb) (by decide) (by decide)
          obtain ⟨ra, rc, hre, hIG⟩ := hN4.isG (fun L hL z hz => by
            unfold arcT at hL
            obtain ⟨i, hi, rfl⟩ := List.mem_map.1 hL
            obtain ⟨z0, hz0, rfl⟩ := List.mem_map.1 hz
            exact HRNG.out i (HRLT.out i (List.mem_of_mem_take hi)) z0 ((srt_perm _).mem_iff.1 hz0))
          cases hre
          have hout : (P.map Prod.fst).zip (arcT F r rl) = outG F r := by
            rw [hT.out, ← HRL.out]
            exact outT F r
          rw [hout] at hIG
          have IG := Lib.hid hIG
          have B3 := Lib.hid ((B1.out.trans (hB.out.mono B1.out.size)).setCell (p := ⟨w.heap.size + 1, 0, none⟩) (by show w.heap.size ≤ w.heap.size + 1; omega) (.slice nia P.length nic))
          have HPL := Lib.hid hPl
          clear hN hN4 hIG hout hWK hob1 hB hT hrb hPl
          go_wp2
          refine bodyPost_ret (results_cell_row rfl _ _ (w.heap.size + 1) 25 #[.slice nia P.length nic] (0, 0) _ rfl (heap_setCell_same wr (w.heap.size + 1) 0 _ _ _ HRB.out) Try.underlying25 rfl (by kernel_rfl)) rfl ?_
          rw [HPL.out, ← HRL.out] at IG B3 ⊢
          exact ⟨r, _, _, DF.out, rfl, IG.out, B3.out⟩
end Go.Proofs.Ytlhiiecaphibhaa

/- graph: the reference's Compare and Equal. -/
namespace Go.Proofs.Ytlhiiecaphibhaa
open Go.RowKit

set_option maxRecDepth 100000 in
set_option maxHeartbeats 1600000 in
theorem rCompare_any (w : World) (a a' : Option Addr) (n cap m cap' : Nat) (F F' : Gr) (hF : IsG w a n cap F) (hF' : IsG w a' m cap' F') (hb : (nums F).length ≤ 1000000) (hb' : (nums F').length ≤ 1000000) :
    Calls Try.prog 25 #[.agg #[.slice a n cap], .agg #[.slice a' m cap']] w fun e w' => e = .returned (.int .i64 (cG F F')) ∧ Below w.heap.size w w' := by
  obtain ⟨W, hW⟩ : ∃ W, twoF w (.slice a n cap) (.slice a' m cap') = W := ⟨_, rfl⟩
  obtain ⟨b1, hz, d1, d2⟩ := twoF_is w _ _ W hW
  have NA := Lib.hid (numbers_any W a n cap F (hF.below b1) hb)
  have HF' := Lib.hid (hF'.below b1)
  have B1 := Lib.hid b1
  have hwz : w.heap.size < W.heap.size := by omega
  have hwz1 : w.heap.size + 1 < W.heap.size := by omega
  rw [← rl_nums F F']
  have NBF := Lib.hid (fun V (h : IsG V a' m cap' F') => numbers_any V a' m cap' F' h hb')
  obtain ⟨L, hL⟩ : ∃ L, nums F = L := ⟨_, rfl⟩
  rw [hL] at NA hb ⊢
  obtain ⟨M, hM⟩ : ∃ M, nums F' = M := ⟨_, rfl⟩
  rw [hM] at NBF ⊢
  obtain ⟨nl, hnl⟩ : ∃ n, L.length = n := ⟨_, rfl⟩
  obtain ⟨nm, hnm⟩ : ∃ n, M.length = n := ⟨_, rfl⟩
  rw [hnl] at NA
  rw [hnm] at NBF
  have HNL := Lib.hid hnl
  have HNM := Lib.hid hnm
  clear hF hF' b1 hz hL hM hb hb' hnl hnm
  go_enter Try.func25, Try.ntmps25
  go_wp2_with fail
  (try rw [hW])
  refine NA.out.mono ?_
  rintro e w1 ⟨la, lc, rfl, hi1, hb1⟩
  have hm1 := hi1.maxLe
  have hc1 := hi1.capLe
  have I1 := Lib.hid hi1
  have BW1 := Lib.hid hb1
  have d3 : w1.cell? ⟨w.heap.size + 1, 0, none⟩ = some (.slice a' m cap') := (hb1.cell (p := ⟨w.heap.size + 1, 0, none⟩) hwz1).trans d2
  have NB := Lib.hid (NBF.out w1 (HF'.out.below hb1))
  clear hi1 hb1 NA d1 d2 HF' NBF
  go_wp2_with fail
  refine NB.out.mono ?_
  rintro e w2 ⟨ma, mc, rfl, hi2, hb2⟩
  have hm2 := hi2.maxLe
  have hc2 := hi2.capLe
  unfold maxLen at hm1 hm2
  have I2 := Lib.hid hi2
  have B2 := Lib.hid (B1.out.trans ((BW1.out.trans (hb2.mono BW1.out.size)).mono B1.out.size))
  have J1 := Lib.hid (I1.out.below hb2)
  clear hi2 hb2 NB d3 I1 BW1 B1
  go_wp2
  go_loopw [7] (fun v wr => ∃ k : Nat, k ≤ nl ∧ k ≤ nm ∧ v = .int .i64 k ∧ Hid (rl L M = rl (L.drop k) (M.drop k)) ∧ Hid (Below w2.heap.size w2 wr)) (fun v _ => nl - (intOf v).toNat)
  case atStart => exact ⟨0, Nat.zero_le _, Nat.zero_le _, rfl, rfl, Below.refl _ _⟩
  case round =>
    obtain ⟨k, hk, hk', rfl, hE, hB⟩ := hrel
    by_cases h1 : k < nl
    · by_cases h2 : k < nm
      · obtain ⟨b, off, rfl, hbl, hx⟩ := (J1.out.below hB.out).at_ (by omega)
        obtain ⟨b', off', rfl, hbl', hx'⟩ := (I2.out.below hB.out).at_ (by omega)
        have c0 := hx k h1
        have c1 := hx' k h2
        have hE2 : Hid (rl L M = orJ (ci (iv L k) (iv M k)) (rl (L.drop (k + 1)) (M.drop (k + 1)))) := by
          show _ = _
          rw [hE.out, drop_iv (l := L) (by rw [HNL.out]; exact h1), drop_iv (l := M) (by rw [HNM.out]; exact h2)]; rfl
        obtain ⟨x, hxe⟩ : ∃ x, iv L k = x := ⟨_, rfl⟩
        obtain ⟨y, hye⟩ : ∃ y, iv M k = y := ⟨_, rfl⟩
        rw [hxe] at c0 hE2
        rw [hye] at c1 hE2
        have BD := Lib.hid hB.out.drew
        have BD2 := Lib.hid hB.out.drew.drew
        have hk0 : (0 : Int) ≤ (k : Int) := by omega
        have hk1 : (k : Int) < (nl : Int) := by omega
        have hk2 : (k : Int) < (nm : Int) := by omega
        clear hx hx' hxe hye hE
        rcases ci_cases x y with ⟨e, h⟩ | ⟨e, h⟩ | ⟨e, h⟩
        · have hr : Hid (rl L M = -1) := by show _ = _; rw [hE2.out, e]; rfl
          clear e hE2
          go_wp2_with fail
          go_region_held3 (fun w' => w'.cell? ⟨b, off + k, none⟩ = some (.int .i64 x) ∧ w'.cell? ⟨b', off' + k, none⟩ = some (.int .i64 y)) (first | exact ⟨c0, c1⟩ | go_keep) ((first | fail))
          go_wp2
          go_ret
          exact ⟨by rw [hr.out]; rfl, B2.out.trans (BD.out.mono B2.out.size)⟩
        · have hr : Hid (rl L M = rl (L.drop (k + 1)) (M.drop (k + 1))) := by show _ = _; rw [hE2.out, e]; rfl
          subst h
          clear e hE2
          go_wp2_with fail
          go_region_held3 (fun w' => w'.cell? ⟨b, off + k, none⟩ = some (.int .i64 x) ∧ w'.cell? ⟨b', off' + k, none⟩ = some (.int .i64 x)) (first | exact ⟨c0, c1⟩ | go_keep) ((first | fail))
          have c0 : wr.drew.cell? ⟨b, off + k, none⟩ = some (.int .i64 x) := c0
          have c1 : wr.drew.cell? ⟨b', off' + k, none⟩ = some (.int .i64 x) := c1
          go_wp2_with fail
          go_region_held3 (fun w' => w'.cell? ⟨b, off + k, none⟩ = some (.int .i64 x) ∧ w'.cell? ⟨b', off' + k, none⟩ = some (.int .i64 x)) (first | exact ⟨c0, c1⟩ | go_keep) ((first | fail))
          go_wp2
          go_roundw
          case rel => exact ⟨k + 1, by omega, by omega, by go_num, hr, BD2.out⟩
          case measure => simp [intOf]; omega
        · have hr : Hid (rl L M = 1) := by show _ = _; rw [hE2.out, e]; rfl
          have h3 : ¬ x < y := by omega
          clear e hE2
          go_wp2_with fail
          go_region_held3 (fun w' => w'.cell? ⟨b, off + k, none⟩ = some (.int .i64 x) ∧ w'.cell? ⟨b', off' + k, none⟩ = some (.int .i64 y)) (first | exact ⟨c0, c1⟩ | go_keep) ((first | fail))
          have c0 : wr.drew.cell? ⟨b, off + k, none⟩ = some (.int .i64 x) := c0
          have c1 : wr.drew.cell? ⟨b', off' + k, none⟩ = some (.int .i64 y) := c1
          go_wp2_with fail
          go_region_held3 (fun w' => w'.cell? ⟨b, off + k, none⟩ = some (.int .i64 x) ∧ w'.cell? ⟨b', off' + k, none⟩ = some (.int .i64 y)) (first | exact ⟨c0, c1⟩ | go_keep) ((first | fail))
          go_wp2
          go_ret
          exact ⟨by rw [hr.out]; rfl, B2.out.trans (BD2.out.mono B2.out.size)⟩
      · obtain rfl : k = nm := by omega
        have hr : Hid (rl L M = 0) := by
          show _ = _
          rw [hE.out, drop_iv (l := L) (by rw [HNL.out]; exact h1), List.drop_eq_nil_of_le (show M.length ≤ k by rw [HNM.out]; exact Nat.le_refl _)]; rfl
        clear hE
        go_wp2
        go_ret
        exact ⟨by rw [hr.out]; rfl, B2.out.trans (hB.out.mono B2.out.size)⟩
    · obtain rfl : k = nl := by omega
      have hr : Hid (rl L M = 0) := by
        show _ = _
        rw [hE.out, List.drop_eq_nil_of_le (show L.length ≤ k by rw [HNL.out]; exact Nat.le_refl _)]; rfl
      clear hE
      go_wp2
      go_ret
      exact ⟨by rw [hr.out]; rfl, B2.out.trans (hB.out.mono B2.out.size)⟩
theorem rCompare_val (c : Int) (w : World) (a a' : Option Addr) (n cap m cap' : Nat) (F F' : Gr) (hF : IsG w a n cap F) (hF' : IsG w a' m cap' F') (hb : (nums F).length ≤ 1000000) (hb' : (nums F').length ≤ 1000000) (hc : cG F F' = c) :
    Calls Try.prog 25 #[.agg #[.slice a n cap], .agg #[.slice a' m cap']] w fun e w' => e = .returned (.int .i64 c) ∧ Below w.heap.size w w' := hc ▸ rCompare_any w a a' n cap m cap' F F' hF hF' hb hb'
set_option maxRecDepth 100000 in
theorem rEqual_any (w : World) (a a' : Option Addr) (n cap m cap' : Nat) (F F' : Gr) (hF : IsG w a n cap F) (hF' : IsG w a' m cap' F') (hb : (nums F).length ≤ 1000000) (hb' : (nums F').length ≤ 1000000) :
    Calls Try.prog 14 #[.agg #[.slice a n cap], .agg #[.slice a' m cap']] w fun e w' => e = .returned (.bool (cG F F' == 0)) ∧ Below w.heap.size w w' := by
  obtain ⟨c, hc⟩ : ∃ c, cG F F' = c := ⟨_, rfl⟩
  obtain ⟨W, hW⟩ : ∃ W, twoF w (.slice a n cap) (.slice a' m cap') = W := ⟨_, rfl⟩
  obtain ⟨b1, hz, d1, d2⟩ := twoF_is w _ _ W hW
  have CV := Lib.hid (rCompare_val c W a a' n cap m cap' F F' (hF.below b1) (hF'.below b1) hb hb' hc)
  have B1 := Lib.hid b1
  rw [hc]
  clear hF hF' hc b1 hz hb hb'
  go_enter Try.func14, Try.ntmps14
  go_wp2_with (go_at_call 25; (try rw [hW]); (with_reducible refine CV.out.mono ?_); rintro e w2 ⟨rfl, hb2⟩; have B2 := Lib.hid (B1.out.trans (hb2.mono B1.out.size)); clear hb2)
  go_ret
  exact ⟨rfl, B2.out⟩
theorem rEqual_val (b : Bool) (w : World) (a a' : Option Addr) (n cap m cap' : Nat) (F F' : Gr) (hF : IsG w a n cap F) (hF' : IsG w a' m cap' F') (hb : (nums F).length ≤ 1000000) (hb' : (nums F').length ≤ 1000000) (hc : (cG F F' == 0) = b) :
    Calls Try.prog 14 #[.agg #[.slice a n cap], .agg #[.slice a' m cap']] w fun e w' => e = .returned (.bool b) ∧ Below w.heap.size w w' := hc ▸ rEqual_any w a a' n cap m cap' F F' hF hF' hb hb'
end Go.Proofs.Ytlhiiecaphibhaa

/- graph: Canon, Sub, Atom of both sides. Written by wip/gen/gcanon.py. -/
namespace Go.Proofs.Ytlhiiecaphibhaa
open Go.RowKit Go.Maps

theorem dfs_ex {F : Gr} (hf : Fine F) : ∀ (m : Nat) (s v : List Nat), v.Nodup → (∀ x ∈ v, x < F.length) → (∀ x ∈ s, x < F.length) → F.length - v.length ≤ m → ∃ r, Dfs (tos F) s v r := by
  intro m
  induction m with
  | zero =>
    intro s
    induction s with
    | nil => exact fun v _ _ _ _ => ⟨v, .done v⟩
    | cons x s ih =>
      intro v hn hv hs hm
      by_cases hx : x ∈ v
      · obtain ⟨r, hr⟩ := ih v hn hv (fun y hy => hs y (List.mem_cons_of_mem _ hy)) hm
        exact ⟨r, .skip hx hr⟩
      · exfalso
        have := nodup_lt (l := v ++ [x]) (n := F.length) (List.nodup_append.2 ⟨hn, by simp, fun a ha b hb => by simp at hb; subst hb; exact fun e => hx (e ▸ ha)⟩) (fun y hy => by
          rcases List.mem_append.1 hy with hy | hy
          · exact hv y hy
          · simp at hy; subst hy; exact hs _ List.mem_cons_self)
        simp at this; omega
  | succ m ihm =>
    intro s
    induction s with
    | nil => exact fun v _ _ _ _ => ⟨v, .done v⟩
    | cons x s ih =>
      intro v hn hv hs hm
      by_cases hx : x ∈ v
      · obtain ⟨r, hr⟩ := ih v hn hv (fun y hy => hs y (List.mem_cons_of_mem _ hy)) hm
        exact ⟨r, .skip hx hr⟩
      · have hxl := hs x List.mem_cons_self
        obtain ⟨r, hr⟩ := ihm (tos F x ++ s) (v ++ [x]) (List.nodup_append.2 ⟨hn, by simp, fun a ha b hb => by simp at hb; subst hb; exact fun e => hx (e ▸ ha)⟩) (fun y hy => by
          rcases List.mem_append.1 hy with hy | hy
          · exact hv y hy
          · simp at hy; subst hy; exact hxl) (fun y hy => by
          rcases List.mem_append.1 hy with hy | hy
          · exact tos_lt hf hxl y hy
          · exact hs y (List.mem_cons_of_mem _ hy)) (by simp; omega)
        exact ⟨r, .step hx hr⟩
theorem dfs_root {F : Gr} (hf : Fine F) {n : Nat} (h : n < F.length) : ∃ r, Dfs (tos F) [n] [] r :=
  dfs_ex hf _ [n] [] List.nodup_nil (fun x hx => by cases hx) (fun x hx => by simp at hx; subst hx; exact h) (Nat.le_refl _)
open Classical in
/-- The canonical form with a root. -/
noncomputable def cf (F : Gr) (root : Nat) : Gr := if h : ∃ r, Dfs (tos F) [root] [] r then outG F h.choose else []
theorem cf_eq {F : Gr} {root : Nat} {r : List Nat} (h : Dfs (tos F) [root] [] r) : cf F root = outG F r := by
  have hex : ∃ r, Dfs (tos F) [root] [] r := ⟨r, h⟩
  unfold cf
  rw [dif_pos hex, hex.choose_spec.det h]
/-- The canonical form, or nothing. -/
noncomputable def can (F : Gr) : Gr := if frm F = 0 then cf F 0 else []
theorem outG_len (F : Gr) (r : List Nat) : (outG F r).length = r.length := by unfold outG; simp
theorem nums_len (F : Gr) {m k : Nat} (h1 : F.length ≤ m) (h2 : ∀ x ∈ F, x.2.length ≤ k) : (nums F).length ≤ 1 + m * (2 + 2 * k) := by
  unfold nums
  have : ∀ l : Gr, (∀ x ∈ l, x.2.length ≤ k) → (l.flatMap flN).length ≤ l.length * (2 + 2 * k) := by
    intro l
    induction l with
    | nil => intro _; simp
    | cons x l ih =>
      intro hx
      have h1 := ih (fun y hy => hx y (List.mem_cons_of_mem _ hy))
      have h2 := hx x List.mem_cons_self
      have h3 : ∀ l : List Arc, (l.flatMap flA).length = 2 * l.length := by
        intro l
        induction l with
        | nil => rfl
        | cons a l ih => rw [List.flatMap_cons, List.length_append, ih]; simp [flA]; omega
      rw [List.flatMap_cons, List.length_append, List.length_cons, Nat.add_mul]
      have h4 : (flN x).length = 2 + 2 * x.2.length := by unfold flN; rw [List.length_cons, List.length_cons, h3]; omega
      rw [h4]
      have : 2 * x.2.length ≤ 2 * k := by omega
      omega
  have h3 := this F h2
  have h4 : F.length * (2 + 2 * k) ≤ m * (2 + 2 * k) := Nat.mul_le_mul_right _ h1
  rw [List.length_cons]
  omega
/-- The sizes that the walks allow. -/
structure Siz (F : Gr) : Prop where
  len : F.length ≤ 4097
  arcs : ∀ x ∈ F, x.2.length ≤ 64
theorem Siz.nums {F : Gr} (h : Siz F) : (nums F).length ≤ 1000000 := Nat.le_trans (nums_len F h.len h.arcs) (by decide)
theorem Siz.out {F : Gr} (h : Siz F) {r : List Nat} (hn : r.Nodup) (hr : ∀ x ∈ r, x < F.length) : Siz (outG F r) :=
  ⟨by rw [outG_len]; exact Nat.le_trans (nodup_lt hn hr) h.len, fun x hx => by
    unfold outG at hx
    obtain ⟨i, hi, rfl⟩ := List.mem_map.1 hx
    unfold outN
    rw [List.length_map, srt_len]
    exact h.arcs _ (nd_mem (hr i hi))⟩
theorem dfs_good {F : Gr} (hf : Fine F) {root : Nat} (h : root < F.length) {r : List Nat} (hr : Dfs (tos F) [root] [] r) : r.Nodup ∧ ∀ x ∈ r, x < F.length :=
  ⟨hr.nodup List.nodup_nil, hr.least (fun y => y < F.length) (fun z hz y hy => tos_lt hf hz y hy) (fun y hy => by cases hy) (fun y hy => by simp at hy; subst hy; exact h)⟩
theorem Siz.cf {F : Gr} (h : Siz F) (hf : Fine F) {root : Nat} (hr : root < F.length) : Siz (cf F root) := by
  obtain ⟨r, h1⟩ := dfs_root hf hr
  obtain ⟨h2, h3⟩ := dfs_good hf hr h1
  rw [cf_eq h1]
  exact h.out h2 h3
theorem Siz.nil : Siz [] := ⟨Nat.zero_le _, fun _ h => by cases h⟩
theorem Siz.can {F : Gr} (h : Siz F) : Siz (can F) := by
  unfold Go.Proofs.Ytlhiiecaphibhaa.can
  split
  · rename_i h0
    have ok := frm_ok.1 h0
    exact h.cf ok.fine ok.pos
  · exact Siz.nil
theorem lite_siz {F : Gr} (h : lite F = true) : Siz F := by
  obtain ⟨h1, h2⟩ := (lite_iff F).1 h
  exact ⟨by omega, fun x hx => Nat.le_trans (h2 x hx) (by decide)⟩

theorem Sub_cf (w : World) (a : Option Addr) (n cap : Nat) (F : Gr) (h : IsG w a n cap F) (hf : Fine F) (hs : Siz F) (root : Nat) (hr : root < n) :
    Calls Try.prog 20 #[.agg #[.slice a n cap], .int .i64 root] w fun e w' => ∃ aa cc, e = .returned (.agg #[.slice aa (cf F root).length cc]) ∧ IsG w' aa (cf F root).length cc (cf F root) ∧ Below w.heap.size w w' := by
  refine (Sub_any w a n cap F h hf hs.arcs (by rw [← h.len]; exact hs.len) root hr).mono ?_
  rintro e w' ⟨r, aa, cc, hd, rfl, hg, hb⟩
  refine ⟨aa, cc, ?_, ?_, hb⟩
  · rw [cf_eq hd, outG_len]
  · rw [cf_eq hd, outG_len]; exact hg
theorem From_cf (w : World) (a : Option Addr) (n cap : Nat) (F : Gr) (h : IsG w a n cap F) (hf : Fine F) (hs : Siz F) (root : Nat) (hr : root < n) :
    Calls Try.prog 33 #[.agg #[.slice a n cap], .int .i64 root] w fun e w' => ∃ aa cc, e = .returned (.agg #[.slice aa (cf F root).length cc]) ∧ IsG w' aa (cf F root).length cc (cf F root) ∧ Below w.heap.size w w' := by
  refine (From_any w a n cap F h hf hs.arcs (by rw [← h.len]; exact hs.len) root hr).mono ?_
  rintro e w' ⟨r, aa, cc, hd, rfl, hg, hb⟩
  refine ⟨aa, cc, ?_, ?_, hb⟩
  · rw [cf_eq hd, outG_len]
  · rw [cf_eq hd, outG_len]; exact hg

theorem res_cell (w : World) (v : Value) (t : TypeId) (W : World) (u : Value) (hW : twoF w v u = W) : W.heap[w.heap.size + 1]? = some (.cells #[u] 25) := by
  rw [← hW]
  have := heap_alloc_new (w.alloc (.cells #[v] 25)) (.cells #[u] 25)
  rw [World.size_alloc] at this
  exact this
/-- What Canon returns. -/
def CanonPost (F : Gr) (w : World) (e : Ending) (w' : World) : Prop := ∃ aa cc, e = .returned (.tuple #[.agg #[.slice aa (can F).length cc], .int .i64 ((frm F : Nat) : Int)]) ∧ IsG w' aa (can F).length cc (can F) ∧ Below w.heap.size w w'

theorem int_apart {w : World} {g b o : Nat} {fr : Nat × Nat} {x : Int} (hg : w.heap[g]? = some (.cells #[.slice none 0 0] 25 fr)) (h : w.cell? ⟨b, o, none⟩ = some (.int .i64 x)) : b ≠ g := fun e => by
  subst e
  rw [cell_of_row _ _ _ _ _ _ hg] at h
  rcases o with _ | o
  · cases h
  · simp at h
theorem isArcs_res {w : World} {a : Option Addr} {n cap g : Nat} {L : List Arc} {fr : Nat × Nat} {u : Value} (h : IsArcs w a n cap L) (hg : w.heap[g]? = some (.cells #[.slice none 0 0] 25 fr)) : IsArcs (w.setCell ⟨g, 0, none⟩ u) a n cap L :=
  ⟨h.len, h.capLe, h.maxLe, h.nil_, h.rng, fun h0 => by
    obtain ⟨b, off, e, hl, hx⟩ := h.at_ h0
    have hb : b ≠ g := int_apart hg (hx 0 h0).1
    have hk := (setCell_grown w g 0 u).block b hl (fun e => hb (Option.some.inj e))
    exact ⟨b, off, e, by simpa using hl, fun i hi => ⟨(World.cell?_of_block (a := ⟨b, off + i * 2, none⟩) hk).trans (hx i hi).1, (World.cell?_of_block (a := ⟨b, off + i * 2 + 1, none⟩) hk).trans (hx i hi).2⟩⟩⟩
/-- A store into a cell of a feature structure that was empty. -/
theorem isG_setRes {w : World} {a : Option Addr} {n cap g : Nat} {F : Gr} {fr : Nat × Nat} (u : Value) (h : IsG w a n cap F) (hg : w.heap[g]? = some (.cells #[.slice none 0 0] 25 fr)) : IsG (w.setCell ⟨g, 0, none⟩ u) a n cap F :=
  ⟨h.len, h.capLe, h.maxLe, h.nil_, fun h0 => by
    obtain ⟨b, off, e, hl, hx⟩ := h.at_ h0
    obtain ⟨xa, xc, hd⟩ := hx 0 h0
    have hb : b ≠ g := int_apart hg hd.c0
    have hk := (setCell_grown w g 0 u).block b hl (fun e => hb (Option.some.inj e))
    refine ⟨b, off, e, by simpa using hl, fun i hi => ?_⟩
    obtain ⟨ya, yc, hd2⟩ := hx i hi
    exact ⟨ya, yc, (World.cell?_of_block (a := ⟨b, off + i * 2, none⟩) hk).trans hd2.c0, (World.cell?_of_block (a := ⟨b, off + i * 2 + 1, none⟩) hk).trans hd2.c1, isArcs_res hd2.is hg⟩⟩

theorem Canon_post (F : Gr) (w w1 : World) (tmps : Array Value) (g : Nat) (aa : Option Addr) (cc : Nat) (h2 : tmps.getD 2 undef = .pointer (some ⟨g, 0, none⟩)) (h3 : tmps.getD 3 undef = .int .i64 ((frm F : Nat) : Int))
    (hg : w1.heap[g]? = some (.cells #[.slice aa (can F).length cc] 25)) (hI : IsG w1 aa (can F).length cc (can F)) (hb : Below w.heap.size w w1) : bodyPost Try.prog Try.f13 (CanonPost F w) .ret { tmps := tmps, defers := [] } w1 := by
  have hr : (results Try.f13 tmps).run Try.prog w1 = .ok (.tuple #[.agg #[.slice aa (can F).length cc], .int .i64 ((frm F : Nat) : Int)]) w1 := by
    have hrs : Try.f13.results = #[.cell 2 25, .tmp 3] := by kernel_rfl
    have hl := run_loadVar_row (P := Try.prog) w1 g 25 25 _ (0, 0) _ hg Try.underlying25 rfl (by show _ = some 1; kernel_rfl)
    have h2' : tmps[2]?.getD undef = .pointer (some ⟨g, 0, none⟩) := by simpa using h2
    have h3' : tmps[3]?.getD undef = .int .i64 ((frm F : Nat) : Int) := by simpa using h3
    simp [results, hrs, h2', h3', asAddr, hl, Sem.run_bind, Result.andThen]
  exact bodyPost_ret hr rfl ⟨aa, cc, rfl, hI, hb⟩
set_option maxRecDepth 100000 in
set_option maxHeartbeats 1600000 in
theorem Canon_any (w : World) (a : Option Addr) (n cap : Nat) (F : Gr) (h : IsG w a n cap F) (hs : Siz F ∨ 4097 ≤ F.length ∧ ∀ x ∈ F, x.2.length ≤ 64) :
    Calls Try.prog 13 #[.agg #[.slice a n cap]] w (CanonPost F w) := by
  have hA : ∀ x ∈ F, x.2.length ≤ 64 := hs.elim (fun h => h.arcs) (fun h => h.2)
  have hm := h.maxLe
  have hc := h.capLe
  unfold maxLen at hm
  have HL := Lib.hid h.len
  obtain ⟨W, hW⟩ : ∃ W, twoF w (.slice a n cap) (.slice none 0 0) = W := ⟨_, rfl⟩
  obtain ⟨b1, hz, d1, d2⟩ := twoF_is w _ _ W hW
  have HRES := Lib.hid (res_cell w (.slice a n cap) 25 W _ hW)
  have HZ := Lib.hid hz
  have B1 := Lib.hid b1
  have H := Lib.hid (h.below b1)
  obtain ⟨e0, he0⟩ : ∃ e0, frm F = e0 := ⟨_, rfl⟩
  have EX := Lib.hid (examine_val e0 W a n cap F (h.below b1) (fun x hx => Nat.le_trans (hA x hx) (by decide)) he0)
  have HE0 := Lib.hid he0
  have hwz1 : w.heap.size + 1 < W.heap.size := by omega
  have hwz0 : w.heap.size < W.heap.size := by omega
  clear h b1 hz
  go_enter Try.func13, Try.ntmps13
  by_cases h0 : e0 = 0
  · subst h0
    have ok := frm_ok.1 he0
    have hsz : Siz F := ⟨by have := ok.le; omega, hA⟩
    have hfi := ok.fine
    have hn0 : 0 < n := by rw [← HL.out]; exact ok.pos
    have SB := Lib.hid (fun V (hV : IsG V a n cap F) => Sub_cf V a n cap F hV hfi hsz 0 hn0)
    have HC : Hid (can F = cf F 0) := by show _ = _; unfold can; rw [if_pos he0]
    clear he0 ok hA hsz hfi hs
    go_wp2_with fail
    (try rw [hW])
    refine EX.out.mono ?_
    rintro e w1 ⟨rfl, hb1⟩
    have B2 := Lib.hid (B1.out.trans (hb1.mono B1.out.size))
    have x0 := (hb1.cell (p := ⟨w.heap.size, 0, none⟩) hwz0).trans d1
    have hb1s := hb1.size
    have HR1 := Lib.hid ((hb1.block _ hwz1).trans HRES.out)
    have H1 := Lib.hid (H.out.below hb1)
    clear hb1 EX d1 d2 hW
    go_wp2_with fail
    refine (SB.out w1 H1.out).mono ?_
    rintro e w2 ⟨aa, cc, rfl, hI, hb2⟩
    have HR2 := Lib.hid ((hb2.block _ (by omega)).trans HR1.out)
    have r0 : w2.cell? ⟨w.heap.size + 1, 0, none⟩ = some (.slice none 0 0) := by rw [cell_of_row _ _ _ _ _ _ HR2.out]; rfl
    have r1 : w2.frozen? ⟨w.heap.size + 1, 0, none⟩ = false := by simp [World.frozen?, HR2.out]
    have B3 := Lib.hid (B2.out.trans (hb2.mono B2.out.size))
    have hIn := isG_setRes (.slice aa (cf F 0).length cc) hI HR2.out
    rw [← HC.out] at hIn
    have IG := Lib.hid hIn
    rw [← HC.out]
    clear hI hb2 hIn SB
    go_wp2
    exact Canon_post F w _ _ (w.heap.size + 1) aa cc rfl (by rw [HE0.out]; rfl) (heap_setCell_same w2 (w.heap.size + 1) 0 _ _ _ HR2.out) IG.out (B3.out.setCell (p := ⟨w.heap.size + 1, 0, none⟩) (by show w.heap.size ≤ w.heap.size + 1; omega) _)
  · have HC : Hid (can F = []) := by show _ = _; unfold can; rw [if_neg (by rw [he0]; exact h0)]
    have hne : ((e0 : Int) != 0) = true := by simp; omega
    clear he0 hs hA
    go_wp2_with fail
    (try rw [hW])
    refine EX.out.mono ?_
    rintro e w1 ⟨rfl, hb1⟩
    have B2 := Lib.hid (B1.out.trans (hb1.mono B1.out.size))
    have HR1 := Lib.hid ((hb1.block _ hwz1).trans HRES.out)
    have r0 : w1.cell? ⟨w.heap.size + 1, 0, none⟩ = some (.slice none 0 0) := by rw [cell_of_row _ _ _ _ _ _ HR1.out]; rfl
    have r1 : w1.frozen? ⟨w.heap.size + 1, 0, none⟩ = false := by simp [World.frozen?, HR1.out]
    clear hb1 EX d1 d2 hW
    go_wp2
    exact Canon_post F w _ _ (w.heap.size + 1) none 0 rfl (by rw [HE0.out]; rfl) (by rw [HC.out]; exact heap_setCell_same w1 (w.heap.size + 1) 0 _ _ _ HR1.out) (by rw [HC.out]; exact IsG.nil _) (B2.out.setCell (p := ⟨w.heap.size + 1, 0, none⟩) (by show w.heap.size ≤ w.heap.size + 1; omega) _)

theorem rCanon_post (F : Gr) (w w1 : World) (tmps : Array Value) (g : Nat) (aa : Option Addr) (cc : Nat) (h2 : tmps.getD 2 undef = .pointer (some ⟨g, 0, none⟩)) (h3 : tmps.getD 3 undef = .int .i64 ((frm F : Nat) : Int))
    (hg : w1.heap[g]? = some (.cells #[.slice aa (can F).length cc] 25)) (hI : IsG w1 aa (can F).length cc (can F)) (hb : Below w.heap.size w w1) : bodyPost Try.prog Try.f18 (CanonPost F w) .ret { tmps := tmps, defers := [] } w1 := by
  have hr : (results Try.f18 tmps).run Try.prog w1 = .ok (.tuple #[.agg #[.slice aa (can F).length cc], .int .i64 ((frm F : Nat) : Int)]) w1 := by
    have hrs : Try.f18.results = #[.cell 2 25, .tmp 3] := by kernel_rfl
    have hl := run_loadVar_row (P := Try.prog) w1 g 25 25 _ (0, 0) _ hg Try.underlying25 rfl (by show _ = some 1; kernel_rfl)
    have h2' : tmps[2]?.getD undef = .pointer (some ⟨g, 0, none⟩) := by simpa using h2
    have h3' : tmps[3]?.getD undef = .int .i64 ((frm F : Nat) : Int) := by simpa using h3
    simp [results, hrs, h2', h3', asAddr, hl, Sem.run_bind, Result.andThen]
  exact bodyPost_ret hr rfl ⟨aa, cc, rfl, hI, hb⟩
set_option maxRecDepth 100000 in
set_option maxHeartbeats 1600000 in
theorem rCanon_any (w : World) (a : Option Addr) (n cap : Nat) (F : Gr) (h : IsG w a n cap F) (hs : Siz F ∨ 4097 ≤ F.length ∧ ∀ x ∈ F, x.2.length ≤ 64) :
    Calls Try.prog 18 #[.agg #[.slice a n cap]] w (CanonPost F w) := by
  have hA : ∀ x ∈ F, x.2.length ≤ 64 := hs.elim (fun h => h.arcs) (fun h => h.2)
  have hm := h.maxLe
  have hc := h.capLe
  unfold maxLen at hm
  have HL := Lib.hid h.len
  obtain ⟨W, hW⟩ : ∃ W, twoF w (.slice a n cap) (.slice none 0 0) = W := ⟨_, rfl⟩
  obtain ⟨b1, hz, d1, d2⟩ := twoF_is w _ _ W hW
  have HRES := Lib.hid (res_cell w (.slice a n cap) 25 W _ hW)
  have HZ := Lib.hid hz
  have B1 := Lib.hid b1
  have H := Lib.hid (h.below b1)
  obtain ⟨e0, he0⟩ : ∃ e0, frm F = e0 := ⟨_, rfl⟩
  have EX := Lib.hid (rform_val e0 W a n cap F (h.below b1) he0)
  have HE0 := Lib.hid he0
  have hwz1 : w.heap.size + 1 < W.heap.size := by omega
  have hwz0 : w.heap.size < W.heap.size := by omega
  clear h b1 hz
  go_enter Try.func18, Try.ntmps18
  by_cases h0 : e0 = 0
  · subst h0
    have ok := frm_ok.1 he0
    have hsz : Siz F := ⟨by have := ok.le; omega, hA⟩
    have hfi := ok.fine
    have hn0 : 0 < n := by rw [← HL.out]; exact ok.pos
    have SB := Lib.hid (fun V (hV : IsG V a n cap F) => From_cf V a n cap F hV hfi hsz 0 hn0)
    have HC : Hid (can F = cf F 0) := by show _ = _; unfold can; rw [if_pos he0]
    clear he0 ok hA hsz hfi hs
    go_wp2_with fail
    (try rw [hW])
    refine EX.out.mono ?_
    rintro e w1 ⟨rfl, hb1⟩
    have B2 := Lib.hid (B1.out.trans (hb1.mono B1.out.size))
    have x0 := (hb1.cell (p := ⟨w.heap.size, 0, none⟩) hwz0).trans d1
    have hb1s := hb1.size
    have HR1 := Lib.hid ((hb1.block _ hwz1).trans HRES.out)
    have H1 := Lib.hid (H.out.below hb1)
    clear hb1 EX d1 d2 hW
    go_wp2_with fail
    refine (SB.out w1 H1.out).mono ?_
    rintro e w2 ⟨aa, cc, rfl, hI, hb2⟩
    have HR2 := Lib.hid ((hb2.block _ (by omega)).trans HR1.out)
    have r0 : w2.cell? ⟨w.heap.size + 1, 0, none⟩ = some (.slice none 0 0) := by rw [cell_of_row _ _ _ _ _ _ HR2.out]; rfl
    have r1 : w2.frozen? ⟨w.heap.size + 1, 0, none⟩ = false := by simp [World.frozen?, HR2.out]
    have B3 := Lib.hid (B2.out.trans (hb2.mono B2.out.size))
    have hIn := isG_setRes (.slice aa (cf F 0).length cc) hI HR2.out
    rw [← HC.out] at hIn
    have IG := Lib.hid hIn
    rw [← HC.out]
    clear hI hb2 hIn SB
    go_wp2
    exact rCanon_post F w _ _ (w.heap.size + 1) aa cc rfl (by rw [HE0.out]; rfl) (heap_setCell_same w2 (w.heap.size + 1) 0 _ _ _ HR2.out) IG.out (B3.out.setCell (p := ⟨w.heap.size + 1, 0, none⟩) (by show w.heap.size ≤ w.heap.size + 1; omega) _)
  · have HC : Hid (can F = []) := by show _ = _; unfold can; rw [if_neg (by rw [he0]; exact h0)]
    have hne : ((e0 : Int) != 0) = true := by simp; omega
    clear he0 hs hA
    go_wp2_with fail
    (try rw [hW])
    refine EX.out.mono ?_
    rintro e w1 ⟨rfl, hb1⟩
    have B2 := Lib.hid (B1.out.trans (hb1.mono B1.out.size))
    have HR1 := Lib.hid ((hb1.block _ hwz1).trans HRES.out)
    have r0 : w1.cell? ⟨w.heap.size + 1, 0, none⟩ = some (.slice none 0 0) := by rw [cell_of_row _ _ _ _ _ _ HR1.out]; rfl
    have r1 : w1.frozen? ⟨w.heap.size + 1, 0, none⟩ = false := by simp [World.frozen?, HR1.out]
    clear hb1 EX d1 d2 hW
    go_wp2
    exact rCanon_post F w _ _ (w.heap.size + 1) none 0 rfl (by rw [HE0.out]; rfl) (by rw [HC.out]; exact heap_setCell_same w1 (w.heap.size + 1) 0 _ _ _ HR1.out) (by rw [HC.out]; exact IsG.nil _) (B2.out.setCell (p := ⟨w.heap.size + 1, 0, none⟩) (by show w.heap.size ≤ w.heap.size + 1; omega) _)

set_option maxRecDepth 100000 in
theorem Atom_any (w : World) (t : Int) : Calls Try.prog 12 #[.int .i64 t] w fun e w' => ∃ aa cc, e = .returned (.agg #[.slice aa 1 cc]) ∧ IsG w' aa 1 cc [(t, [])] ∧ Below w.heap.size w w' := by
  go_enter Try.func12, Try.ntmps12
  go_wp2
  refine bodyPost_ret (results_cell_row rfl _ _ w.heap.size 25 #[.slice (some ⟨w.heap.size + 1, 0, none⟩) 1 1] (0, 0) _ rfl ((heap_alloc_old _ _ (by simp)).trans (heap_alloc_new w _)) Try.underlying25 rfl (by kernel_rfl)) rfl ?_
  refine ⟨_, _, rfl, ?_, ((Below.refl _ w).alloc (Nat.le_refl _) _).alloc (by simp) _⟩
  have hb := heap_alloc_new (w.alloc (.cells #[.slice (some ⟨w.heap.size + 1, 0, none⟩) 1 1] 25)) (.cells #[.int .i64 t, .slice none 0 0] 43)
  rw [World.size_alloc] at hb
  refine ⟨rfl, Nat.le_refl _, by unfold maxLen; omega, (fun e => by cases e), fun _ => ⟨w.heap.size + 1, 0, rfl, by simp, fun i hi => ?_⟩⟩
  obtain rfl : i = 0 := by omega
  refine ⟨none, 0, ?_, ?_, IsArcs.nil _⟩
  · rw [cell_of_row _ _ _ _ _ _ hb]; rfl
  · rw [cell_of_row _ _ _ _ _ _ hb]; rfl

set_option maxRecDepth 100000 in
theorem rAtom_any (w : World) (t : Int) : Calls Try.prog 15 #[.int .i64 t] w fun e w' => ∃ aa cc, e = .returned (.agg #[.slice aa 1 cc]) ∧ IsG w' aa 1 cc [(t, [])] ∧ Below w.heap.size w w' := by
  go_enter Try.func15, Try.ntmps15
  go_wp2
  refine bodyPost_ret (results_cell_row rfl _ _ w.heap.size 25 #[.slice (some ⟨w.heap.size + 1, 0, none⟩) 1 1] (0, 0) _ rfl ((heap_alloc_old _ _ (by simp)).trans (heap_alloc_new w _)) Try.underlying25 rfl (by kernel_rfl)) rfl ?_
  refine ⟨_, _, rfl, ?_, ((Below.refl _ w).alloc (Nat.le_refl _) _).alloc (by simp) _⟩
  have hb := heap_alloc_new (w.alloc (.cells #[.slice (some ⟨w.heap.size + 1, 0, none⟩) 1 1] 25)) (.cells #[.int .i64 t, .slice none 0 0] 43)
  rw [World.size_alloc] at hb
  refine ⟨rfl, Nat.le_refl _, by unfold maxLen; omega, (fun e => by cases e), fun _ => ⟨w.heap.size + 1, 0, rfl, by simp, fun i hi => ?_⟩⟩
  obtain rfl : i = 0 := by omega
  refine ⟨none, 0, ?_, ?_, IsArcs.nil _⟩
  · rw [cell_of_row _ _ _ _ _ _ hb]; rfl
  · rw [cell_of_row _ _ _ _ _ _ hb]; rfl

set_option maxRecDepth 100000 in
theorem rSub_cf (w : World) (a : Option Addr) (n cap : Nat) (F : Gr) (h : IsG w a n cap F) (hf : Fine F) (hs : Siz F) (root : Nat) (hr : root < n) :
    Calls Try.prog 21 #[.agg #[.slice a n cap], .int .i64 root] w fun e w' => ∃ aa cc, e = .returned (.agg #[.slice aa (cf F root).length cc]) ∧ IsG w' aa (cf F root).length cc (cf F root) ∧ Below w.heap.size w w' := by
  obtain ⟨W, hW⟩ : ∃ W, twoF w (.slice a n cap) (.slice none 0 0) = W := ⟨_, rfl⟩
  obtain ⟨b1, hz, d1, d2⟩ := twoF_is w _ _ W hW
  have HRES := Lib.hid (res_cell w (.slice a n cap) 25 W _ hW)
  have B1 := Lib.hid b1
  have hwz1 : w.heap.size + 1 < W.heap.size := by omega
  have FR := Lib.hid (From_cf W a n cap F (h.below b1) hf hs root hr)
  clear h hf hs b1 hz
  go_enter Try.func21, Try.ntmps21
  go_wp2_with fail
  (try rw [hW])
  refine FR.out.mono ?_
  rintro e w2 ⟨aa, cc, rfl, hI, hb2⟩
  have HR2 := Lib.hid ((hb2.block _ hwz1).trans HRES.out)
  have r0 : w2.cell? ⟨w.heap.size + 1, 0, none⟩ = some (.slice none 0 0) := by rw [cell_of_row _ _ _ _ _ _ HR2.out]; rfl
  have r1 : w2.frozen? ⟨w.heap.size + 1, 0, none⟩ = false := by simp [World.frozen?, HR2.out]
  have B3 := Lib.hid (B1.out.trans (hb2.mono B1.out.size))
  have IG := Lib.hid (isG_setRes (.slice aa (cf F root).length cc) hI HR2.out)
  clear hI hb2 hW
  go_wp2
  refine bodyPost_ret (results_cell_row rfl _ _ (w.heap.size + 1) 25 #[.slice aa (cf F root).length cc] (0, 0) _ rfl (heap_setCell_same w2 (w.heap.size + 1) 0 _ _ _ HR2.out) Try.underlying25 rfl (by kernel_rfl)) rfl ?_
  exact ⟨_, _, rfl, IG.out, B3.out.setCell (p := ⟨w.heap.size + 1, 0, none⟩) (by show w.heap.size ≤ w.heap.size + 1; omega) _⟩
set_option maxRecDepth 100000 in
theorem of_any (w : World) (n c : Nat) (a : Option Addr) : Calls Try.prog 31 #[.slice a n c] w fun e w' => e = .returned (.agg #[.slice a n c]) ∧ Below w.heap.size w w' := by
  go_enter Try.func31, Try.ntmps31
  go_wp2
  refine bodyPost_ret (results_cell_row rfl _ _ w.heap.size 25 #[.slice a n c] (0, 0) _ rfl (heap_alloc_new w _) Try.underlying25 rfl (by kernel_rfl)) rfl ?_
  exact ⟨rfl, ba w _⟩
end Go.Proofs.Ytlhiiecaphibhaa

/- graph: node of the laws. -/
namespace Go.Proofs.Ytlhiiecaphibhaa
open Go.RowKit Go.Maps

/-- Features, each with a node. -/
def prs : List Int → List Arc
  | a :: b :: l => (a, b) :: prs l
  | _ => []
theorem prs_take : ∀ (l : List Int) (k : Nat), 2 * k + 1 < l.length → prs (l.take (2 * (k + 1))) = prs (l.take (2 * k)) ++ [(iv l (2 * k), iv l (2 * k + 1))]
  | [], k, h => by simp at h
  | [a], k, h => by simp at h
  | a :: b :: l, 0, h => by simp [prs, iv]
  | a :: b :: l, k + 1, h => by
    have ih := prs_take l k (by simp at h; omega)
    have e1 : 2 * (k + 1 + 1) = 2 * (k + 1) + 1 + 1 := by omega
    have e2 : 2 * (k + 1) = 2 * k + 1 + 1 := by omega
    rw [e1, List.take_succ_cons, List.take_succ_cons]
    conv => rhs; rw [e2, List.take_succ_cons, List.take_succ_cons]
    show (a, b) :: prs (l.take (2 * (k + 1))) = ((a, b) :: prs (l.take (2 * k))) ++ _
    rw [ih]
    have e3 : iv (a :: b :: l) (2 * k + 1 + 1) = iv l (2 * k) := by simp [iv]
    have e4 : iv (a :: b :: l) (2 * k + 1 + 1 + 1) = iv l (2 * k + 1) := by simp [iv]
    rw [e3, e4]; rfl
theorem prs_all : ∀ (l : List Int) (k : Nat), l.length ≤ 2 * k + 1 → prs (l.take (2 * k)) = prs l
  | [], k, _ => by simp
  | [a], 0, _ => by simp [prs]
  | [a], k + 1, _ => by rw [List.take_of_length_le (by simp; omega)]
  | a :: b :: l, 0, h => by simp at h
  | a :: b :: l, k + 1, h => by
    have e1 : 2 * (k + 1) = 2 * k + 1 + 1 := by omega
    rw [e1, List.take_succ_cons, List.take_succ_cons]
    show (a, b) :: prs (l.take (2 * k)) = (a, b) :: prs l
    rw [prs_all l k (by simp at h; omega)]
theorem step_append_arcs {w : World} {ops : Array Oper} {o : Oper} {a : Act} {K : Act → World → Prop} {Q : Exit → Act → World → Prop} {E : Prop} (hgd : o.guard = none) (s x : Operand)
    (ho : o.op = .call { callee := .builtin .append, args := #[s, x], argTypes := #[41, 41] })
    (base : Nat) (v : Value) (n : Nat) (xs : List Arc) (hs : a.eval s = v) (hown : w.ownsRow base 45 2 v n (avals xs))
    (g c : Nat) (y : Arc) (hx : a.eval x = .slice (some ⟨g, 0, none⟩) 1 c) (hg : w.heap[g]? = some (.cells #[.int .i64 y.1, .int .i64 y.2] 45))
    (h63 : n ≤ 100000) (hbase : base ≤ w.heap.size)
    (h : ∀ g' cap' w', w'.ownsRow base 45 2 (.slice (some ⟨g', 0, none⟩) (n + 1) cap') (n + 1) (avals (xs ++ [y])) → w.grownBy w' v.ownBlock → g' < w'.heap.size → K (a.put o.dst (.slice (some ⟨g', 0, none⟩) (n + 1) cap')) w') :
    if Region.wanted o (yielded ops a.tmps) = true then Oper.wp Try.prog o a w K Q else E := by
  obtain ⟨i0, hi, hz0, hz1, hz2⟩ := info_parts Try.infoA
  exact step_append_lies w hgd s x 41 ho base 45 i0 _ 2 16 Try.underlying41 hi hz0 hz1 hz2 rfl (by decide) v n (avals xs) hs hown ⟨g, 0, none⟩ 1 c (avals [y]) hx rfl
    (World.news_of_block hg) (avals_one [y]) (by omega) (by unfold maxLen; omega) (by omega) hbase w.heap.size rfl fun g' cap w' h1 h2 _ h4 => h g' cap w' (by rw [avals_app]; exact h1) h2 h4
set_option maxRecDepth 100000 in
set_option maxHeartbeats 3200000 in
theorem node_any (w : World) (t : Int) (la : Option Addr) (m lc : Nat) (l : List Int) (h : IsInts w la m lc l) (hm : m ≤ 1000) (hr : ∀ x ∈ prs l, R64 x.1) :
    Calls Try.prog 29 #[.int .i64 t, .slice la m lc] w fun e w' => ∃ v, e = .returned (.agg #[.int .i64 t, v]) ∧ w'.ownsRow w.heap.size 45 2 v (prs l).length (avals (prs l)) ∧ Below w.heap.size w w' := by
  have hc := h.capLe
  have hmx := h.maxLe
  unfold maxLen at hmx
  obtain ⟨W, hW⟩ : ∃ W, twoN w (.int .i64 0) (.slice none 0 0) (.int .i64 t) (.slice none 0 0) = W := ⟨_, rfl⟩
  obtain ⟨b1, hz, _, _, _, _⟩ := twoN_is w _ _ _ _ W hW
  have hab : W.heap[w.heap.size + 1]? = some (.cells #[.int .i64 t, .slice none 0 0] 43) := by
    rw [← hW]
    have := heap_alloc_new (w.alloc (.cells #[.int .i64 0, .slice none 0 0] 43)) (.cells #[.int .i64 t, .slice none 0 0] 43)
    rw [World.size_alloc] at this
    exact this
  have hrs : W.heap[w.heap.size]? = some (.cells #[.int .i64 0, .slice none 0 0] 43) := by
    rw [← hW]
    exact (heap_alloc_old _ _ (by simp)).trans (heap_alloc_new w _)
  have HRS := Lib.hid hrs
  have HAB := Lib.hid hab
  have H := Lib.hid h
  have HL := Lib.hid h.len
  have B1 := Lib.hid b1
  have HZ := Lib.hid hz
  have HW := Lib.hid hW
  clear h hr b1 hz hab hrs hW
  go_enter Try.func29, Try.ntmps29
  go_wp2
  rw [show (w.alloc (.cells #[.int .i64 0, .slice none 0 0] 43)).alloc (.cells #[.int .i64 t, .slice none 0 0] 43) = W from HW.out]
  go_loopw [6] (fun kv wr => ∃ (k : Nat) (v : Value), 2 * k ≤ m + 1 ∧ kv = .int .i64 ((2 * k : Nat) : Int) ∧ Hid (wr.heap[w.heap.size + 1]? = some (.cells #[.int .i64 t, v] 43)) ∧ Hid (wr.heap[w.heap.size]? = some (.cells #[.int .i64 0, .slice none 0 0] 43)) ∧ Hid (wr.ownsRow W.heap.size 45 2 v (prs (l.take (2 * k))).length (avals (prs (l.take (2 * k))))) ∧ Hid (Below w.heap.size w wr) ∧ Hid (W.heap.size ≤ wr.heap.size)) (fun kv _ => m + 2 - (intOf kv).toNat)
  case atStart => exact ⟨0, .slice none 0 0, by omega, rfl, HAB, HRS, World.ownsRow_nil _ _ _ _, B1, Nat.le_refl _⟩
  case round =>
    clear HAB HRS B1
    obtain ⟨k, v, hk, rfl, hab, hrs, hrow, hB, hwz⟩ := hrel
    have a0 : wr.cell? ⟨w.heap.size + 1, 0, none⟩ = some (.int .i64 t) := by rw [cell_of_row _ _ _ _ _ _ hab.out]; rfl
    have a1 : wr.cell? ⟨w.heap.size + 1, 1, none⟩ = some v := by rw [cell_of_row _ _ _ _ _ _ hab.out]; rfl
    have a2 : wr.frozen? ⟨w.heap.size + 1, 1, none⟩ = false := by simp [World.frozen?, hab.out]
    have hpl : Hid ((prs (l.take (2 * k))).length ≤ 1000) := by
      show _ ≤ _
      have h1 : ∀ l : List Int, (prs l).length ≤ l.length := by
        intro l
        induction l using prs.induct with
        | case1 a b l ih => simp [prs]; omega
        | case2 => unfold prs; split <;> simp_all
      refine Nat.le_trans (h1 _) ?_
      rw [List.length_take, HL.out]; omega
    obtain ⟨kk, hkk⟩ : ∃ kk, 2 * k = kk := ⟨_, rfl⟩
    by_cases hlt : 2 * k + 1 < m
    · have HP := Lib.hid (prs_take l k (by rw [HL.out]; exact hlt))
      obtain ⟨b, off, rfl, hbl, hx⟩ := (H.out.below hB.out).at_ (by omega)
      have c0 := hx (2 * k) (by omega)
      have c1 := hx (2 * k + 1) (by omega)
      obtain ⟨pa, pc, hpv, hpc1, hpc2⟩ := owns_slice hrow.out
      subst hpv
      obtain ⟨pl, hpl'⟩ : ∃ q, (prs (l.take (2 * k))).length = q := ⟨_, rfl⟩
      obtain ⟨ps, hps⟩ : ∃ ps, prs (l.take (2 * k)) = ps := ⟨_, rfl⟩
      obtain ⟨x, hxe⟩ : ∃ x, iv l (2 * k) = x := ⟨_, rfl⟩
      obtain ⟨y, hye⟩ : ∃ y, iv l (2 * k + 1) = y := ⟨_, rfl⟩
      rw [hps] at hpl' HP hrow
      rw [hps] at a1 hpl hab hpc1
      rw [hpl'] at hrow a1 hpl hab hpc1
      rw [hxe] at c0 HP
      rw [hye] at c1 HP
      rw [hkk] at c0 c1 hlt hk ⊢
      unfold maxLen at hpc2
      have hk0 : (0 : Int) ≤ (kk : Int) := by omega
      have hk1 : (kk : Int) < (m : Int) := by omega
      have hk3 : (kk : Int) + 1 < (m : Int) := by omega
      have hk4 : IntKind.i64.wrap ((kk : Int) + 1) = (kk : Int) + 1 := by rw [IntKind.wrap_i64]; omega
      have hk6 : (0 : Int) ≤ (kk : Int) + 1 := by omega
      have hk5 : ((kk : Int) + 1).toNat = kk + 1 := by omega
      have AL := Lib.hid (show (wr.drew.alloc (.cells #[.int .i64 x, .int .i64 y] 45)).ownsRow W.heap.size 45 2 (.slice pa pl pc) pl (avals ps) from World.ownsRow.alloc (w := wr.drew) hrow.out _)
      have ABL := Lib.hid (show (wr.drew.alloc (.cells #[.int .i64 x, .int .i64 y] 45)).heap[w.heap.size + 1]? = some (.cells #[.int .i64 t, .slice pa pl pc] 43) from (heap_alloc_old wr.drew _ (lt_of_block hab.out)).trans hab.out)
      have RBL := Lib.hid (show (wr.drew.alloc (.cells #[.int .i64 x, .int .i64 y] 45)).heap[w.heap.size]? = some (.cells #[.int .i64 0, .slice none 0 0] 43) from (heap_alloc_old wr.drew _ (lt_of_block hrs.out)).trans hrs.out)
      have BAL := Lib.hid (hB.out.drew.alloc hB.out.size (.cells #[.int .i64 x, .int .i64 y] 45))
      have HPL := Lib.hid hpl'
      have a3 : (wr.alloc (.cells #[.int .i64 x, .int .i64 y] 45)).cell? ⟨w.heap.size + 1, 1, none⟩ = some (.slice pa pl pc) := (World.cell?_alloc_lt _ _ _ (lt_of_block hab.out)).trans a1
      clear hx hps hpl' hxe hye
      go_wp2_with fail
      go_region_law (first | (refine step_append_arcs (by rfl) _ _ (by rfl) W.heap.size _ pl ps (by rfl) AL.out wr.heap.size 1 (x, y) (by rfl) (heap_alloc_new wr.drew _) (by have := hpl.out; omega) (by simp; have := hwz.out; omega) ?_; intro g5 c5 w5 hown5 hgrow5 hlt5; have K5 := Lib.hid (blk_kept hgrow5 (owns_rowT AL.out) ABL.out (by decide)); have R5 := Lib.hid (blk_kept hgrow5 (owns_rowT AL.out) RBL.out (by decide)); have O5 := Lib.hid hown5; have B5 := Lib.hid (BAL.out.grown hgrow5 (by simp; have := hB.out.size; omega) (fun j hj => by have := (AL.out.lt j hj).1; have := HZ.out; omega)); have S5 := Lib.hid (Nat.le_trans (show W.heap.size ≤ (wr.drew.alloc (.cells #[.int .i64 x, .int .i64 y] 45)).heap.size by simp; have := hwz.out; omega) hgrow5.size); have y1 : w5.cell? ⟨w.heap.size + 1, 1, none⟩ = some (.slice pa pl pc) := (by rw [cell_of_row _ _ _ _ _ _ K5.out]; rfl); have y2 : w5.frozen? ⟨w.heap.size + 1, 1, none⟩ = false := (by simp [World.frozen?, K5.out]); clear hown5 hgrow5 hlt5))
      all_goals (go_wp2; go_roundw)
      all_goals first
        | (simp [intOf]; omega)
        | (refine ⟨k + 1, _, by omega, by simp; omega, heap_setCell_same w5 (w.heap.size + 1) 1 _ _ (.slice (some ⟨g5, 0, none⟩) (pl + 1) c5) K5.out, (heap_setCell_other _ _ _ _ (by show w.heap.size ≠ w.heap.size + 1; omega)).trans R5.out, ?_, B5.out.setCell (p := ⟨w.heap.size + 1, 1, none⟩) (by show w.heap.size ≤ w.heap.size + 1; omega) (.slice (some ⟨g5, 0, none⟩) (pl + 1) c5), by show _ ≤ _; rw [World.size_setCell]; exact S5.out⟩
           show World.ownsRow _ _ _ _ _ _ _
           rw [HP.out, List.length_append, HPL.out]
           exact owns_keptT O5.out (setCell_grown w5 (w.heap.size + 1) 1 (.slice (some ⟨g5, 0, none⟩) (pl + 1) c5)) (blk_rowT K5.out) (by decide))
    · have hE : Hid (prs (l.take (2 * k)) = prs l) := prs_all l k (by rw [HL.out]; omega)
      obtain ⟨pa, pc, hpv, hpc1, hpc2⟩ := owns_slice hrow.out
      subst hpv
      rw [hE.out] at hrow a1 hab hpc1
      have hw0 : wr.cell? ⟨w.heap.size, 0, none⟩ = some (.int .i64 0) := by rw [cell_of_row _ _ _ _ _ _ hrs.out]; rfl
      have hw1 : wr.cell? ⟨w.heap.size, 1, none⟩ = some (.slice none 0 0) := by rw [cell_of_row _ _ _ _ _ _ hrs.out]; rfl
      have hw2 : wr.frozen? ⟨w.heap.size, 0, none⟩ = false := by simp [World.frozen?, hrs.out]
      have hw3 : wr.frozen? ⟨w.heap.size, 1, none⟩ = false := by simp [World.frozen?, hrs.out]
      rw [hkk] at hlt hk ⊢
      go_wp2
      have h1 := heap_setCell_same wr w.heap.size 0 _ _ (.int .i64 t) hrs.out
      have h2 := heap_setCell_same _ w.heap.size 1 _ _ (.slice pa (prs l).length pc) h1
      refine bodyPost_ret (results_cell_row rfl _ _ w.heap.size 43 #[.int .i64 t, .slice pa (prs l).length pc] (0, 0) _ rfl h2 Try.underlying43 rfl (by kernel_rfl)) rfl ?_
      refine ⟨_, rfl, owns_base (base := W.heap.size) ?_ (by have := HZ.out; omega), (hB.out.setCell (p := ⟨w.heap.size, 0, none⟩) (Nat.le_refl _) _).setCell (p := ⟨w.heap.size, 1, none⟩) (Nat.le_refl _) _⟩
      exact owns_keptT (owns_keptT hrow.out (setCell_grown wr w.heap.size 0 _) (blk_rowT hrs.out) (by decide)) (setCell_grown _ w.heap.size 1 _) (blk_rowT h1) (by decide)
end Go.Proofs.Ytlhiiecaphibhaa

/- graph, plain: removing nodes to which no arc leads. -/
namespace Go.Proofs.Ytlhiiecaphibhaa
open Go.RowKit Go.Maps

def tg (F : Gr) (x : Nat) : List Nat := (nd F x).2.map fun a => a.2.toNat
/-- No node can be reached from itself: the nodes can be ranked. -/
def Acyc (F : Gr) : Prop := ∃ rk : Nat → Nat, ∀ x, x < F.length → ∀ y ∈ tg F x, rk y < rk x
def allE (F : Gr) : List Nat := (List.range F.length).flatMap (tg F)
def rem (F : Gr) (T : List Nat) (i j : Nat) : List Nat := (T.take i).flatMap (tg F) ++ (((T[i]?).map (tg F)).getD []).take j
theorem tg_lt {F : Gr} (h : Fine F) {x : Nat} (hx : x < F.length) : ∀ y ∈ tg F x, y < F.length := fun y hy => by
  unfold tg at hy
  obtain ⟨a, ha, rfl⟩ := List.mem_map.1 hy
  have := (h _ (nd_mem hx)).1 a ha
  omega
theorem flat_le (F : Gr) {U : List Nat} (hn : U.Nodup) (hU : ∀ x ∈ U, x < F.length) (y : Nat) : (U.flatMap (tg F)).count y ≤ (allE F).count y := by
  have hp : (List.range F.length).Perm (U ++ (List.range F.length).filter (fun x => decide (x ∉ U))) := by
    refine (List.perm_ext_iff_of_nodup List.nodup_range ?_).2 fun x => ?_
    · refine List.nodup_append.2 ⟨hn, List.nodup_range.filter _, fun a ha b hb => ?_⟩
      have := (List.mem_filter.1 hb).2
      rintro rfl
      simp at this
      exact this ha
    · rw [List.mem_append, List.mem_filter, List.mem_range]
      constructor
      · intro h
        by_cases hx : x ∈ U
        · exact .inl hx
        · exact .inr ⟨h, by simpa using hx⟩
      · rintro (h | h)
        · exact hU x h
        · exact h.1
  unfold allE
  rw [(hp.flatMap_right (tg F)).count_eq, List.flatMap_append, List.count_append]
  omega
/-- The queue T, of which i nodes and j arcs of the next one were taken away; c counts the arcs that remain. -/
structure Que (F : Gr) (T : List Nat) (i j : Nat) (c : List Int) : Prop where
  len : c.length = F.length
  nd : T.Nodup
  lt : ∀ x ∈ T, x < F.length
  cnt : ∀ y, y < F.length → iv c y = ((allE F).count y : Int) - ((rem F T i j).count y : Int)
  zero : ∀ y, y < F.length → (y ∈ T ↔ iv c y = 0)
  led : ∀ (p y : Nat), T[p]? = some y → ∀ x, x < F.length → y ∈ tg F x → ∃ q, q < p ∧ T[q]? = some x
theorem iv_set {c : List Int} {y : Nat} (hy : y < c.length) (z : Int) (i : Nat) : iv (c.set y z) i = if i = y then z else iv c i := by
  unfold iv
  rw [List.getD_eq_getElem?_getD, List.getD_eq_getElem?_getD]
  by_cases e : i = y
  · subst e; rw [List.getElem?_set_self hy, if_pos rfl]; rfl
  · rw [List.getElem?_set_ne (fun h => e h.symm), if_neg e]
theorem rem_next {F : Gr} {T : List Nat} {i j x y : Nat} (hx : T[i]? = some x) (hy : (tg F x)[j]? = some y) : rem F T i (j + 1) = rem F T i j ++ [y] := by
  unfold rem
  rw [hx]
  simp only [Option.map_some, Option.getD_some]
  rw [List.take_add_one, hy, List.append_assoc]; rfl
theorem rem_done {F : Gr} {T : List Nat} {i x : Nat} (hx : T[i]? = some x) : rem F T (i + 1) 0 = rem F T i (tg F x).length := by
  unfold rem
  rw [hx, List.take_add_one, hx, List.flatMap_append]
  simp
theorem rem_app {F : Gr} {T : List Nat} {i j : Nat} (hi : i < T.length) (y : Nat) : rem F (T ++ [y]) i j = rem F T i j := by
  unfold rem
  rw [List.take_append_of_le_length (Nat.le_of_lt hi), List.getElem?_append_left hi]
section
variable {F : Gr} {T : List Nat} {i j x y : Nat} {c : List Int}
theorem Que.rem_le (h : Que F T i j c) (hx : T[i]? = some x) {k : Nat} (z : Nat) : (rem F T i k).count z ≤ ((T.take (i + 1)).flatMap (tg F)).count z := by
  unfold rem
  rw [hx, List.take_add_one, hx, List.flatMap_append, List.count_append, List.count_append]
  simp only [Option.map_some, Option.getD_some, Option.toList_some, List.flatMap_cons, List.flatMap_nil, List.append_nil]
  have := List.Sublist.count_le z (List.take_sublist k (tg F x))
  omega
theorem Que.take_ok (h : Que F T i j c) (k : Nat) : (T.take k).Nodup ∧ ∀ z ∈ T.take k, z < F.length :=
  ⟨(List.take_sublist k T).nodup h.nd, fun z hz => h.lt z (List.mem_of_mem_take hz)⟩
/-- The arc is there still. -/
theorem Que.pos (h : Que F T i j c) (hx : T[i]? = some x) (hy : (tg F x)[j]? = some y) (hyl : y < F.length) : 1 ≤ iv c y := by
  have h1 := h.rem_le hx (k := j + 1) y
  have h2 := flat_le F (h.take_ok (i + 1)).1 (h.take_ok (i + 1)).2 y
  rw [rem_next hx hy, List.count_append] at h1
  have h3 := h.cnt y hyl
  simp at h1
  omega
/-- An arc is taken away, and its node has others. -/
theorem Que.keep (h : Que F T i j c) (hx : T[i]? = some x) (hy : (tg F x)[j]? = some y) (hyl : y < F.length) (hz : iv c y - 1 ≠ 0) : Que F T i (j + 1) (c.set y (iv c y - 1)) := by
  have hcl : y < c.length := by rw [h.len]; exact hyl
  have hp := h.pos hx hy hyl
  refine ⟨by rw [List.length_set]; exact h.len, h.nd, h.lt, fun z hzl => ?_, fun z hzl => ?_, h.led⟩
  · rw [iv_set hcl, rem_next hx hy, List.count_append]
    have := h.cnt z hzl
    by_cases e : z = y
    · subst e
      rw [if_pos rfl]
      simp; omega
    · rw [if_neg e]
      have e2 : ([y] : List Nat).count z = 0 := List.count_eq_zero.2 (by simpa using e)
      rw [e2]; simpa using this
  · rw [iv_set hcl]
    by_cases e : z = y
    · subst e
      rw [if_pos rfl, h.zero z hzl]
      constructor
      · intro e'; omega
      · intro e'; exact absurd e' hz
    · rw [if_neg e]; exact h.zero z hzl
/-- The last arc to a node is taken away. -/
theorem Que.push (h : Que F T i j c) (hx : T[i]? = some x) (hy : (tg F x)[j]? = some y) (hyl : y < F.length) (hz : iv c y - 1 = 0) : Que F (T ++ [y]) i (j + 1) (c.set y (iv c y - 1)) := by
  have hcl : y < c.length := by rw [h.len]; exact hyl
  have hyT : y ∉ T := fun e => by have := (h.zero y hyl).1 e; omega
  have hi : i < T.length := (List.getElem?_eq_some_iff.1 hx).1
  refine ⟨by rw [List.length_set]; exact h.len, List.nodup_append.2 ⟨h.nd, by simp, fun a ha b hb => by simp at hb; subst hb; exact fun e => hyT (e ▸ ha)⟩, fun z hzm => ?_, fun z hzl => ?_, fun z hzl => ?_, fun p z hp x' hx' hz' => ?_⟩
  · rcases List.mem_append.1 hzm with hzm | hzm
    · exact h.lt z hzm
    · simp at hzm; subst hzm; exact hyl
  · rw [iv_set hcl, rem_app hi, rem_next hx hy, List.count_append]
    have := h.cnt z hzl
    by_cases e : z = y
    · subst e
      rw [if_pos rfl]
      simp; omega
    · rw [if_neg e]
      have e2 : ([y] : List Nat).count z = 0 := List.count_eq_zero.2 (by simpa using e)
      rw [e2]; simpa using this
  · rw [iv_set hcl, List.mem_append]
    by_cases e : z = y
    · subst e
      rw [if_pos rfl]
      exact ⟨fun _ => hz, fun _ => .inr (by simp)⟩
    · rw [if_neg e]
      constructor
      · rintro (h1 | h1)
        · exact (h.zero z hzl).1 h1
        · simp at h1; exact absurd h1 e
      · exact fun h1 => .inl ((h.zero z hzl).2 h1)
  · rcases Nat.lt_or_ge p T.length with hpl | hpl
    · rw [List.getElem?_append_left hpl] at hp
      obtain ⟨q, hq, e⟩ := h.led p z hp x' hx' hz'
      exact ⟨q, hq, by rw [List.getElem?_append_left (by omega)]; exact e⟩
    · rw [List.getElem?_append_right hpl] at hp
      have hp0 : p - T.length = 0 := by
        have := (List.getElem?_eq_some_iff.1 hp).1
        simp at this; omega
      rw [hp0] at hp
      obtain rfl : y = z := by simpa using hp
      have hin : x' ∈ T.take (i + 1) := by
        refine Classical.byContradiction fun hno => ?_
        have hok := h.take_ok (i + 1)
        have h1 := flat_le F (U := T.take (i + 1) ++ [x']) (List.nodup_append.2 ⟨hok.1, by simp, fun a ha b hb => by simp at hb; subst hb; exact fun e => hno (e ▸ ha)⟩) (fun w hw => by
          rcases List.mem_append.1 hw with hw | hw
          · exact hok.2 w hw
          · simp at hw; subst hw; exact hx') y
        rw [List.flatMap_append, List.count_append] at h1
        have h2 : 1 ≤ (([x'] : List Nat).flatMap (tg F)).count y := by
          simp
          exact hz'
        have h3 := h.rem_le hx (k := j + 1) y
        rw [rem_next hx hy, List.count_append] at h3
        have h4 := h.cnt y hyl
        simp at h3
        omega
      obtain ⟨q, hq, e⟩ := List.getElem_of_mem hin
      rw [List.length_take] at hq
      rw [List.getElem_take] at e
      refine ⟨q, by omega, ?_⟩
      rw [List.getElem?_append_left (by omega), List.getElem?_eq_getElem (by omega), e]
theorem Que.next (h : Que F T i (tg F x).length c) (hx : T[i]? = some x) : Que F T (i + 1) 0 c :=
  ⟨h.len, h.nd, h.lt, fun y hy => by rw [rem_done hx]; exact h.cnt y hy, h.zero, h.led⟩
/-- At the end all are taken exactly if there is no cycle. -/
theorem Que.done (h : Que F T T.length 0 c) (hf : Fine F) : T.length < F.length ↔ ¬ Acyc F := by
  have hr : rem F T T.length 0 = T.flatMap (tg F) := by unfold rem; simp
  constructor
  · rintro hlt ⟨rk, hrk⟩
    have hex : ∃ m, m < F.length ∧ m ∉ T := by
      refine Classical.byContradiction fun hno => ?_
      have : ∀ m ∈ List.range F.length, m ∈ T := fun m hm => Classical.byContradiction fun hmT => hno ⟨m, List.mem_range.1 hm, hmT⟩
      have hp : (List.range F.length).Perm ((T).filter (fun x => decide (x < F.length))) := by
        refine (List.perm_ext_iff_of_nodup List.nodup_range (h.nd.filter _)).2 fun x => ?_
        rw [List.mem_filter, List.mem_range]
        exact ⟨fun hx => ⟨this x (List.mem_range.2 hx), by simpa using hx⟩, fun hx => by simpa using hx.2⟩
      have h1 := hp.length_eq
      rw [List.length_range] at h1
      have := List.length_filter_le (fun x => decide (x < F.length)) T
      omega
    -- every such node has a predecessor that is left
    have hpre : ∀ m, m < F.length → m ∉ T → ∃ x, x < F.length ∧ x ∉ T ∧ m ∈ tg F x := by
      intro m hm hmT
      have h1 := h.cnt m hm
      rw [hr] at h1
      have h2 : iv c m ≠ 0 := fun e => hmT ((h.zero m hm).2 e)
      have h3 := flat_le F h.nd h.lt m
      refine Classical.byContradiction fun hno => ?_
      have hall : ∀ x ∈ List.range F.length, x ∉ T → (tg F x).count m = 0 := fun x hx hxT => by
        rw [List.count_eq_zero]
        exact fun hmx => hno ⟨x, List.mem_range.1 hx, hxT, hmx⟩
      have hp : (List.range F.length).Perm (T ++ (List.range F.length).filter (fun x => decide (x ∉ T))) := by
        refine (List.perm_ext_iff_of_nodup List.nodup_range ?_).2 fun x => ?_
        · refine List.nodup_append.2 ⟨h.nd, List.nodup_range.filter _, fun a ha b hb => ?_⟩
          have := (List.mem_filter.1 hb).2
          rintro rfl
          simp at this
          exact this ha
        · rw [List.mem_append, List.mem_filter, List.mem_range]
          constructor
          · intro hx
            by_cases hxT : x ∈ T
            · exact .inl hxT
            · exact .inr ⟨hx, by simpa using hxT⟩
          · rintro (hx | hx)
            · exact h.lt x hx
            · exact hx.1
      have h4 : (allE F).count m = (T.flatMap (tg F)).count m := by
        unfold allE
        rw [(hp.flatMap_right (tg F)).count_eq, List.flatMap_append, List.count_append]
        have : (((List.range F.length).filter (fun x => decide (x ∉ T))).flatMap (tg F)).count m = 0 := by
          rw [List.count_eq_zero]
          intro hm'
          obtain ⟨x, hx, hmx⟩ := List.mem_flatMap.1 hm'
          obtain ⟨hx1, hx2⟩ := List.mem_filter.1 hx
          have := hall x hx1 (by simpa using hx2)
          rw [List.count_eq_zero] at this
          exact this hmx
        omega
      omega
    -- going back the rank grows without end
    have grow : ∀ k, ∃ m, m < F.length ∧ m ∉ T ∧ k ≤ rk m := by
      intro k
      induction k with
      | zero => obtain ⟨m, h1, h2⟩ := hex; exact ⟨m, h1, h2, Nat.zero_le _⟩
      | succ k ih =>
        obtain ⟨m, h1, h2, h3⟩ := ih
        obtain ⟨x, h4, h5, h6⟩ := hpre m h1 h2
        exact ⟨x, h4, h5, by have := hrk x h4 m h6; omega⟩
    have bnd : ∃ b, ∀ m, m < F.length → rk m ≤ b := by
      clear hpre grow hex hrk
      generalize F.length = n
      induction n with
      | zero => exact ⟨0, fun m hm => by omega⟩
      | succ n ih =>
        obtain ⟨b, hb⟩ := ih
        refine ⟨max b (rk n), fun m hm => ?_⟩
        rcases Nat.lt_succ_iff_lt_or_eq.1 hm with e | e
        · exact Nat.le_trans (hb m e) (Nat.le_max_left _ _)
        · rw [e]; exact Nat.le_max_right _ _
    obtain ⟨b, hb⟩ := bnd
    obtain ⟨m, h1, _, h3⟩ := grow (b + 1)
    have := hb m h1
    omega
  · intro hno
    refine Classical.byContradiction fun hge => hno ⟨fun x => F.length - T.idxOf x, fun x hx y hy => ?_⟩
    have hall : ∀ z, z < F.length → z ∈ T := by
      intro z hz
      refine Classical.byContradiction fun hzT => ?_
      have := nodup_lt (l := T ++ [z]) (n := F.length) (List.nodup_append.2 ⟨h.nd, by simp, fun a ha b hb => by simp at hb; subst hb; exact fun e => hzT (e ▸ ha)⟩) (fun w hw => by
        rcases List.mem_append.1 hw with hw | hw
        · exact h.lt w hw
        · simp at hw; subst hw; exact hz)
      simp at this; omega
    have hyl := tg_lt hf hx y hy
    have hyT := hall y hyl
    have hp := List.idxOf_lt_length_of_mem hyT
    obtain ⟨q, hq, e⟩ := h.led (T.idxOf y) y (by rw [List.getElem?_eq_getElem hp, List.getElem_idxOf]) x hx hy
    have hqx : T.idxOf x = q := by
      have hql : q < T.length := (List.getElem?_eq_some_iff.1 e).1
      have : T[q] = x := by rw [List.getElem?_eq_getElem hql] at e; exact Option.some.inj e
      rw [← this]
      exact List.Nodup.idxOf_getElem h.nd q hql
    have hle := nodup_lt h.nd h.lt
    have : T.idxOf y < F.length := by omega
    show F.length - T.idxOf y < F.length - T.idxOf x
    rw [hqx]; omega
end
end Go.Proofs.Ytlhiiecaphibhaa

/- graph: Cyclic of the program. -/
namespace Go.Proofs.Ytlhiiecaphibhaa
open Go.RowKit Go.Maps

/-- What Cyclic returns. -/
def CycPost (F : Gr) (w : World) (e : Ending) (w' : World) : Prop := ∃ b : Bool, e = .returned (.bool b) ∧ (b = true ↔ ¬ Acyc F) ∧ Below w.heap.size w w'
/-- The arcs into each node, of the nodes k and of j arcs of the next one. -/
def cnts (F : Gr) (k j : Nat) : List Int := (List.range F.length).map fun y => ((((List.range k).flatMap (tg F) ++ (tg F k).take j).count y : Nat) : Int)
theorem cnts_len (F : Gr) (k j : Nat) : (cnts F k j).length = F.length := by simp [cnts]
theorem cnts_get (F : Gr) (k j : Nat) {y : Nat} (h : y < F.length) : iv (cnts F k j) y = ((((List.range k).flatMap (tg F) ++ (tg F k).take j).count y : Nat) : Int) := by
  unfold iv cnts
  rw [List.getD_eq_getElem?_getD, List.getElem?_map, List.getElem?_range h]; rfl
theorem cnts_zero (F : Gr) : cnts F 0 0 = List.replicate F.length 0 := by
  unfold cnts
  rw [List.eq_replicate_iff]
  exact ⟨by simp, fun b hb => by
    obtain ⟨x, _, rfl⟩ := List.mem_map.1 hb
    simp⟩
theorem cnts_next {F : Gr} {k j y : Nat} (hy : (tg F k)[j]? = some y) (hl : y < F.length) : (cnts F k j).set y (iv (cnts F k j) y + 1) = cnts F k (j + 1) := by
  apply List.ext_getElem?
  intro i
  by_cases hi : i < F.length
  · by_cases e : i = y
    · subst e
      rw [List.getElem?_set_self (by rw [cnts_len]; exact hi), iv_get (by rw [cnts_len]; exact hi), cnts_get _ _ _ hi, cnts_get _ _ _ hi, List.take_add_one, hy]
      simp; omega
    · rw [List.getElem?_set_ne (fun h => e h.symm), iv_get (by rw [cnts_len]; exact hi), iv_get (by rw [cnts_len]; exact hi), cnts_get _ _ _ hi, cnts_get _ _ _ hi, List.take_add_one, hy]
      have e2 : ([y] : List Nat).count i = 0 := List.count_eq_zero.2 (by simpa using e)
      simp only [Option.toList_some, List.count_append, e2, Nat.add_zero]
  · rw [List.getElem?_eq_none (by rw [List.length_set, cnts_len]; omega), List.getElem?_eq_none (by rw [cnts_len]; omega)]
theorem cnts_done (F : Gr) (k : Nat) : cnts F k (tg F k).length = cnts F (k + 1) 0 := by
  unfold cnts
  congr 1
  funext y
  rw [List.range_succ, List.flatMap_append]
  simp
theorem cnts_all (F : Gr) {y : Nat} (h : y < F.length) : iv (cnts F F.length 0) y = ((allE F).count y : Int) := by
  rw [cnts_get _ _ _ h]; simp [allE]
/-- The nodes before k to which no arc leads. -/
def none0 (F : Gr) (k : Nat) : List Nat := (List.range k).filter fun y => iv (cnts F F.length 0) y == 0
theorem none0_succ (F : Gr) (k : Nat) : none0 F (k + 1) = if iv (cnts F F.length 0) k = 0 then none0 F k ++ [k] else none0 F k := by
  unfold none0
  rw [List.range_succ, List.filter_append]
  by_cases h : iv (cnts F F.length 0) k = 0
  · rw [if_pos h]; simp [h]
  · rw [if_neg h]; simp [h]
theorem que_start (F : Gr) : Que F (none0 F F.length) 0 0 (cnts F F.length 0) := by
  have hm : ∀ y, y ∈ none0 F F.length ↔ y < F.length ∧ iv (cnts F F.length 0) y = 0 := fun y => by
    unfold none0; rw [List.mem_filter, List.mem_range]; simp
  refine ⟨cnts_len _ _ _, List.nodup_range.filter _, fun x hx => ((hm x).1 hx).1, fun y hy => ?_, fun y hy => ?_, fun p y hp x hx hy => ?_⟩
  · rw [cnts_all F hy]; simp [rem]
  · rw [hm]; exact ⟨fun h => h.2, fun h => ⟨hy, h⟩⟩
  · obtain ⟨h1, h2⟩ := (hm y).1 (List.mem_of_getElem? hp)
    rw [cnts_all F h1] at h2
    have : y ∈ allE F := List.mem_flatMap.2 ⟨x, List.mem_range.2 hx, hy⟩
    have := List.count_pos_iff.2 this
    omega
theorem none0_len (F : Gr) (k : Nat) : (none0 F k).length ≤ k := by
  unfold none0
  refine Nat.le_trans (List.length_filter_le _ _) ?_
  rw [List.length_range]; exact Nat.le_refl _
theorem madeI (n : Nat) : (madeCells (Value.int .i64 0).cells (n * 1)).toList = ivals (List.replicate n 0) := by
  unfold madeCells ivals
  simp
  apply List.ext_getElem?
  intro i
  by_cases hi : i < n
  · simp [hi, Value.cells, Nat.mod_one]
  · simp [hi]

theorem flat_len {F : Gr} (hs : Siz F) : ∀ l : List Nat, (l.flatMap (tg F)).length ≤ l.length * 64
  | [] => by simp
  | x :: l => by
    rw [List.flatMap_cons, List.length_append, List.length_cons, Nat.add_mul]
    have h1 := flat_len hs l
    have h2 : (tg F x).length ≤ 64 := by
      unfold tg
      rw [List.length_map]
      by_cases hx : x < F.length
      · exact hs.arcs _ (nd_mem hx)
      · unfold nd
        rw [List.getD_eq_getElem?_getD, List.getElem?_eq_none (by omega)]
        simp
    omega
theorem cnts_bd {F : Gr} (hs : Siz F) (k j y : Nat) : -1 ≤ iv (cnts F k j) y ∧ iv (cnts F k j) y ≤ (k : Int) * 64 + 64 := by
  by_cases hy : y < F.length
  · rw [cnts_get _ _ _ hy]
    have h1 := List.count_le_length (a := y) (l := (List.range k).flatMap (tg F) ++ (tg F k).take j)
    have h2 := flat_len hs (List.range k)
    have h3 := flat_len hs [k]
    rw [List.length_append, List.length_take] at h1
    rw [List.length_range] at h2
    simp at h3
    omega
  · unfold iv
    rw [List.getD_eq_getElem?_getD, List.getElem?_eq_none (by rw [cnts_len]; omega)]
    simp; omega
theorem que_bd {F : Gr} (hs : Siz F) {T : List Nat} {i j y : Nat} {c : List Int} (h : Que F T i j c) (hy : y < F.length) : iv c y ≤ 300000 := by
  have h1 := h.cnt y hy
  have h2 := List.count_le_length (a := y) (l := allE F)
  have h3 := flat_len hs (List.range F.length)
  rw [List.length_range] at h3
  have h4 := hs.len
  unfold allE at h2 h1
  omega
set_option maxRecDepth 100000 in
set_option maxHeartbeats 12800000 in
theorem Cyclic_any (w : World) (a : Option Addr) (n cap : Nat) (F : Gr) (h : IsG w a n cap F) (hf : Fine F) (hs : Siz F) :
    Calls Try.prog 22 #[.agg #[.slice a n cap]] w (CycPost F w) := by
  have hm := h.maxLe
  have hc := h.capLe
  have hl := h.len
  have hn := hs.len
  rw [hl] at hn
  unfold maxLen at hm
  obtain ⟨W, hW⟩ : ∃ W, w.alloc (.cells #[.slice a n cap] 25) = W := ⟨_, rfl⟩
  have B := Lib.hid (show Below w.heap.size w W from hW ▸ ba w _)
  have hwz : w.heap.size < W.heap.size := by rw [← hW]; simp
  have hbox : W.cell? ⟨w.heap.size, 0, none⟩ = some (.slice a n cap) := hW ▸ box_cell w _ _
  have H := Lib.hid (h.below B.out)
  have HL := Lib.hid hl
  have HF := Lib.hid hf
  have HS := Lib.hid hs
  obtain ⟨i0, hi, hz0, hz1, hz2⟩ := info_parts Try.infoI
  have HI := Lib.hid (And.intro hi (And.intro hz0 (And.intro hz1 hz2)))
  clear h hl hf hs hi hz0 hz1 hz2
  go_enter Try.func22, Try.ntmps22
  go_wp2_with (at_make; (try rw [hW]); refine wpList_make_full _ rfl _ _ _ rfl W.heap.size 3 i0 (.int .i64 0) 1 Try.underlying51 HI.out.1 HI.out.2.1 HI.out.2.2.1 _ _ _ _ n rfl rfl rfl rfl (by rw [HI.out.2.2.2]; omega) (by unfold maxLen; omega) (Nat.le_refl _) ?_; intro w1 hown hgrow; rw [madeI] at hown; have BW := Lib.hid ((Below.refl _ W).grown hgrow (Nat.le_refl _) (fun _ e => by cases e)); have O1 := Lib.hid hown; have bx1 := (BW.out.cell (p := ⟨w.heap.size, 0, none⟩) hwz).trans hbox; clear hown hgrow)
  clear hW hbox
  obtain ⟨lg, hlg⟩ : ∃ lg, W.heap.size = lg := ⟨_, rfl⟩
  have HLG := Lib.hid hlg
  rw [hlg] at O1 ⊢
  rw [hlg] at hwz BW
  have O2 : Hid (w1.ownsRow lg 3 1 (.slice (some ⟨lg, 0, none⟩) n n) n (ivals (cnts F 0 0))) := by show World.ownsRow _ _ _ _ _ _ _; rw [cnts_zero, HL.out]; exact O1.out
  have HW : Hid (∀ V, Below lg W V → IsG V a n cap F) := fun V hV => H.out.below (HLG.out ▸ hV)
  have HBX : Hid (∀ V, Below lg W V → V.cell? ⟨w.heap.size, 0, none⟩ = W.cell? ⟨w.heap.size, 0, none⟩) := fun V hV => hV.cell (p := ⟨w.heap.size, 0, none⟩) hwz
  have hbx0 : W.cell? ⟨w.heap.size, 0, none⟩ = some (.slice a n cap) := (HBX.out _ BW.out).symm.trans bx1
  have hbl : ∀ i, i < n → ∃ b off xa xc, a = some ⟨b, off, none⟩ ∧ ∀ V, Below lg W V → NdAt V b (off + i * 2) (nd F i) xa xc := fun i hi => by
    obtain ⟨b, off, e, hb, hx⟩ := H.out.at_ (by omega)
    obtain ⟨xa, xc, hd⟩ := hx i hi
    exact ⟨b, off, xa, xc, e, fun V hV => hd.below hb (HLG.out ▸ hV)⟩
  have HBL := Lib.hid hbl
  have HTL : Hid (∀ i, i < n → ∀ y ∈ tg F i, y < n) := fun i hi y hy => by
    have := tg_lt HF.out (by rw [HL.out]; exact hi) y hy
    rwa [HL.out] at this
  clear O1 hlg bx1 hbl
  go_loopw [21] (fun kv wr => ∃ k : Nat, k ≤ n ∧ kv = .int .i64 k ∧ Hid (wr.ownsRow lg 3 1 (.slice (some ⟨lg, 0, none⟩) n n) n (ivals (cnts F k 0))) ∧ Hid (Below lg W wr)) (fun kv _ => n - (intOf kv).toNat)
  case atStart => exact ⟨0, Nat.zero_le _, rfl, O2, BW⟩
  case round =>
    clear O2 BW
    obtain ⟨k, hk, rfl, hO, hB⟩ := hrel
    have hws := hB.out.size
    have hlgw := (hO.out.lt lg rfl).2
    by_cases hlt : k < n
    · obtain ⟨b, off, xa, xc, rfl, hnd⟩ := HBL.out k hlt
      have c0 := (hnd wr hB.out).c0
      have c1 := (hnd wr hB.out).c1
      have HND := Lib.hid hnd
      have hs1 := (hnd wr hB.out).is.capLe
      have hs2 := (hnd wr hB.out).is.maxLe
      unfold maxLen at hs2
      have hkF : k < F.length := by rw [HL.out]; exact hlt
      have hal := HS.out.arcs _ (nd_mem hkF)
      have HTG : Hid (tg F k = (nd F k).2.map fun a => a.2.toNat) := rfl
      have HTP := Lib.hid (fun z hz => ((HF.out _ (nd_mem hkF)).1 z hz).1)
      have HCD := Lib.hid (cnts_done F k)
      have HTLK := Lib.hid (HTL.out k hlt)
      obtain ⟨y, hy⟩ : ∃ y, nd F k = y := ⟨_, rfl⟩
      rw [hy] at c0 c1 hs1 hal HTG HTP HND
      obtain ⟨ll, hll⟩ : ∃ q, y.2.length = q := ⟨_, rfl⟩
      have HLL := Lib.hid hll
      have HTLEN : Hid ((tg F k).length = ll) := by show _ = _; rw [HTG.out, List.length_map, hll]
      have HAR : Hid (∀ V, Below lg W V → IsArcs V xa ll xc y.2) := fun V hV => by have := (HND.out V hV).is; rwa [hll] at this
      rw [hll] at c1 hs1 hal
      have OX := Lib.hid (hO.out.alloc (.cells #[.int .i64 y.1, .slice xa ll xc] 43))
      have BX := Lib.hid (hB.out.alloc (by omega) (.cells #[.int .i64 y.1, .slice xa ll xc] 43))
      clear hy hll hO hB hnd hkF
      go_wp2
      go_loopw [28] (fun jv wr => ∃ j : Nat, j ≤ ll ∧ jv = .int .i64 j ∧ Hid (wr.ownsRow lg 3 1 (.slice (some ⟨lg, 0, none⟩) n n) n (ivals (cnts F k j))) ∧ Hid (Below lg W wr)) (fun jv _ => ll - (intOf jv).toNat)
      case atStart => exact ⟨0, Nat.zero_le _, rfl, OX, BX⟩
      case round =>
        clear OX BX
        obtain ⟨j, hj, rfl, hO, hB⟩ := hrel
        have hlgw := (hO.out.lt lg rfl).2
        by_cases hjl : j < ll
        · obtain ⟨ab, ao, rfl, _, hax⟩ := (HAR.out wr hB.out).at_ (by omega)
          obtain ⟨d0, d1⟩ := hax j hjl
          have hjL : j < y.2.length := by rw [HLL.out]; exact hjl
          have hto := HTP.out _ (ar_mem hjL)
          have htj : (tg F k)[j]? = some (ar y.2 j).2.toNat := by rw [HTG.out, List.getElem?_map, ar_get hjL]; rfl
          obtain ⟨f, hf⟩ : ∃ f, ar y.2 j = f := ⟨_, rfl⟩
          rw [hf] at d0 d1 hto htj
          obtain ⟨ff, tt⟩ := f
          obtain ⟨tn, rfl⟩ : ∃ tn : Nat, tt = (tn : Int) := ⟨tt.toNat, (Int.toNat_of_nonneg hto).symm⟩
          dsimp only at d0 d1 htj
          rw [Int.toNat_natCast] at htj
          have htn := HTLK.out tn (List.mem_of_getElem? htj)
          have hnx := cnts_next (k := k) htj (by rw [HL.out]; exact htn)
          have hbd := cnts_bd HS.out k j tn
          have e1 : wr.cell? ⟨lg, tn, none⟩ = some (.int .i64 (iv (cnts F k j) tn)) := (hO.out.cellAt tn (by omega)).trans (ivals_get (by rw [cnts_len, HL.out]; exact htn))
          have OA := Lib.hid (hO.out.alloc (.cells #[.int .i64 ff, .int .i64 (tn : Int)] 45))
          have e2 : (wr.alloc (.cells #[.int .i64 ff, .int .i64 (tn : Int)] 45)).cell? ⟨lg, tn, none⟩ = some (.int .i64 (iv (cnts F k j) tn)) := (World.cell?_alloc_lt _ _ _ hlgw).trans e1
          have e3 : (wr.alloc (.cells #[.int .i64 ff, .int .i64 (tn : Int)] 45)).frozen? ⟨lg, tn, none⟩ = false := OA.out.frozenAt _
          have hst := OA.out.stored tn (.int .i64 (iv (cnts F k j) tn + 1))
          have OS : Hid (((wr.alloc (.cells #[.int .i64 ff, .int .i64 (tn : Int)] 45)).setCell ⟨lg, tn, none⟩ (.int .i64 (iv (cnts F k j) tn + 1))).ownsRow lg 3 1 (.slice (some ⟨lg, 0, none⟩) n n) n (ivals (cnts F k (j + 1)))) := by
            show World.ownsRow _ _ _ _ _ _ _
            rw [← hnx, ← ivals_set]
            exact hst.1
          have BS := Lib.hid ((hB.out.alloc (by omega) (.cells #[.int .i64 ff, .int .i64 (tn : Int)] 45)).setCell (p := ⟨lg, tn, none⟩) (Nat.le_refl _) (.int .i64 (iv (cnts F k j) tn + 1)))
          obtain ⟨c, hcc⟩ : ∃ c, iv (cnts F k j) tn = c := ⟨_, rfl⟩
          rw [hcc] at e1 e2 OS BS hbd
          have htn0 : (0 : Int) ≤ (tn : Int) := by omega
          have htn1 : (tn : Int) < (n : Int) := by omega
          have hw1 : IntKind.i64.wrap (c + 1) = c + 1 := by rw [IntKind.wrap_i64]; omega
          clear hax hjL hto htj hf hnx hst hcc hO hB OA hbd hlgw
          go_wp2
          go_roundw
          case rel => exact ⟨j + 1, by omega, by go_num, OS, BS⟩
          case measure => simp [intOf]; omega
        · obtain rfl : ll = j := by omega
          rw [← HTLEN.out, HCD.out] at hO
          go_wp2
          go_roundw
          case rel => exact ⟨k + 1, by omega, by go_num, hO, hB⟩
          case measure => simp [intOf]; omega
    · obtain rfl : n = k := by omega
      have OC : Hid (wr.ownsRow lg 3 1 (.slice (some ⟨lg, 0, none⟩) n n) n (ivals (cnts F F.length 0))) := by show World.ownsRow _ _ _ _ _ _ _; rw [HL.out]; exact hO.out
      have BC := Lib.hid hB.out
      clear hO hB
      go_wp2
      have hbox : ∀ V, Below lg W V → V.cell? ⟨w.heap.size, 0, none⟩ = some (.slice a n cap) := fun V hV => (HBX.out V hV).trans hbx0
      have HBOX := Lib.hid hbox
      clear hbox
      go_loopw [8, 43] (fun tv kv wr => ∃ k : Nat, k ≤ n ∧ kv = .int .i64 k ∧ Hid (wr.ownsRow lg 3 1 tv (none0 F k).length (ivals (omem (none0 F k)))) ∧ Hid (tv.ownBlock ≠ some lg) ∧ Hid (wr.ownsRow lg 3 1 (.slice (some ⟨lg, 0, none⟩) n n) n (ivals (cnts F F.length 0))) ∧ Hid (Below lg W wr)) (fun _ kv _ => n - (intOf kv).toNat)
      case atStart => exact ⟨0, Nat.zero_le _, rfl, World.ownsRow_nil _ _ _ _, (fun e => by cases e), OC, BC⟩
      case round =>
        clear OC BC
        obtain ⟨k, hk, rfl, hT, hne, hO, hB⟩ := hrel
        have hlgw := (hO.out.lt lg rfl).2
        by_cases hlt : k < n
        · have hkF : k < F.length := by rw [HL.out]; exact hlt
          have e1 : wr.cell? ⟨lg, k, none⟩ = some (.int .i64 (iv (cnts F F.length 0) k)) := (hO.out.cellAt k (by omega)).trans (ivals_get (by rw [cnts_len]; exact hkF))
          have HN := Lib.hid (none0_succ F k)
          have hnl := none0_len F k
          obtain ⟨c, hcc⟩ : ∃ c, iv (cnts F F.length 0) k = c := ⟨_, rfl⟩
          rw [hcc] at e1 HN
          obtain ⟨T, hTe⟩ : ∃ T, none0 F k = T := ⟨_, rfl⟩
          rw [hTe] at hT HN hnl
          clear hcc hTe hkF
          by_cases h0 : c = 0
          · rw [if_pos h0] at HN
            subst h0
            have TA := Lib.hid (hT.out.alloc (.cells #[.int .i64 (k : Int)] 3))
            have OA := Lib.hid (hO.out.alloc (.cells #[.int .i64 (k : Int)] 3))
            have BA := Lib.hid (hB.out.alloc (by omega) (.cells #[.int .i64 (k : Int)] 3))
            clear hT hO hB
            go_wp2_with (at_builtin; refine wpList_append_ints (w := wr.alloc (.cells #[.int .i64 (k : Int)] 3)) rfl _ _ rfl lg _ T.length (omem T) rfl TA.out wr.heap.size 1 [(k : Int)] #[.int .i64 (k : Int)] rfl (heap_alloc_new wr _) rfl (by simp; omega) (by simp; omega) ?_; intro v2 w2 hown2 hgrow2 hloc2; have T2 := Lib.hid hown2; have O2 := Lib.hid (OA.out.kept hgrow2 (.inr (fun e => hne.out e.symm))); have B2 := Lib.hid (BA.out.grown hgrow2 (by simp; omega) (fun j hj => (TA.out.lt j hj).1)); have N2 : Hid (v2.ownBlock ≠ some lg) := (fun e => by rcases hloc2 with h | h; exact hne.out (h ▸ e); rw [h] at e; have := Option.some.inj e; simp at this; omega); clear hown2 hgrow2 hloc2)
            go_roundw
            case rel => exact ⟨k + 1, by omega, by go_num, by rw [HN.out, List.length_append, ← omem_snoc]; exact T2.out, N2, O2, B2⟩
            case measure => simp [intOf]; omega
          · rw [if_neg h0] at HN
            have hne0 : (c == 0) = false := by simpa using h0
            go_wp2
            go_roundw
            case rel => exact ⟨k + 1, by omega, by go_num, by rw [HN.out]; exact hT.out, hne, hO, hB⟩
            case measure => simp [intOf]; omega
        · obtain rfl : n = k := by omega
          have QS := Lib.hid (que_start F)
          have T0 : Hid (wr.ownsRow lg 3 1 u8 (none0 F F.length).length (ivals (omem (none0 F F.length)))) := by show World.ownsRow _ _ _ _ _ _ _; rw [HL.out]; exact hT.out
          obtain ⟨T00, hT00⟩ : ∃ T, none0 F F.length = T := ⟨_, rfl⟩
          rw [hT00] at QS T0
          clear hT hT00
          go_wp2
          go_loopw [8, 11] (fun tv kv wr => ∃ (i : Nat) (T : List Nat) (c : List Int), i ≤ T.length ∧ kv = .int .i64 i ∧ Hid (Que F T i 0 c) ∧ Hid (wr.ownsRow lg 3 1 tv T.length (ivals (omem T))) ∧ Hid (tv.ownBlock ≠ some lg) ∧ Hid (wr.ownsRow lg 3 1 (.slice (some ⟨lg, 0, none⟩) n n) n (ivals c)) ∧ Hid (Below lg W wr)) (fun _ kv _ => n - (intOf kv).toNat)
          case atStart => exact ⟨0, T00, _, Nat.zero_le _, rfl, QS, T0, hne, hO, hB⟩
          case round =>
            clear QS T0 hO hB hlgw
            obtain ⟨i, T, c, hi, rfl, hQ, hT, hne, hO, hB⟩ := hrel
            have hlgw := (hO.out.lt lg rfl).2
            have hTn := nodup_lt hQ.out.nd hQ.out.lt
            rw [HL.out] at hTn
            obtain ⟨ta, tc, htv, htc1, htc2⟩ := owns_slice hT.out
            subst htv
            unfold maxLen at htc2
            have hbx := HBOX.out wr hB.out
            by_cases hlt2 : i < T.length
            · have hxi := List.getElem?_eq_getElem hlt2
              have hxn := hQ.out.lt _ (List.getElem_mem hlt2)
              rw [HL.out] at hxn
              obtain ⟨x, hx⟩ : ∃ x, T[i] = x := ⟨_, rfl⟩
              rw [hx] at hxi hxn
              obtain ⟨tgb, htg⟩ : ∃ tgb, ta = some ⟨tgb, 0, none⟩ := by
                obtain ⟨_, ⟨e, e2⟩ | ⟨g1', c1', cur1', e, _⟩⟩ := hT.out
                · omega
                · cases e; exact ⟨_, rfl⟩
              subst htg
              have f1 : wr.cell? ⟨tgb, i, none⟩ = some (.int .i64 (x : Int)) := by
                rw [hT.out.cellAt i (by omega)]
                unfold ivals omem
                rw [List.map_map, List.getElem?_map, hxi]; rfl
              obtain ⟨b, off, xa, xc, rfl, hnd⟩ := HBL.out x hxn
              have f2 := (hnd wr hB.out).c1
              have HND := Lib.hid hnd
              have hs1 := (hnd wr hB.out).is.capLe
              have hs2 := (hnd wr hB.out).is.maxLe
              unfold maxLen at hs2
              have hxF : x < F.length := by rw [HL.out]; exact hxn
              have hal := HS.out.arcs _ (nd_mem hxF)
              have HTG : Hid (tg F x = (nd F x).2.map fun a => a.2.toNat) := rfl
              have HTP := Lib.hid (fun z hz => ((HF.out _ (nd_mem hxF)).1 z hz).1)
              have HTLX := Lib.hid (HTL.out x hxn)
              obtain ⟨y, hy⟩ : ∃ y, nd F x = y := ⟨_, rfl⟩
              rw [hy] at f2 hs1 hal HTG HTP HND
              obtain ⟨ll, hll⟩ : ∃ q, y.2.length = q := ⟨_, rfl⟩
              have HLL := Lib.hid hll
              have HTLEN : Hid ((tg F x).length = ll) := by show _ = _; rw [HTG.out, List.length_map, hll]
              have HAR : Hid (∀ V, Below lg W V → IsArcs V xa ll xc y.2) := fun V hV => by have := (HND.out V hV).is; rwa [hll] at this
              rw [hll] at f2 hs1 hal
              have HXI := Lib.hid hxi
              have QD : Hid (Que F T i 0 c) := hQ
              have TD : Hid (wr.drew.ownsRow lg 3 1 (.slice (some ⟨tgb, 0, none⟩) T.length tc) T.length (ivals (omem T))) := hT
              have OD : Hid (wr.drew.ownsRow lg 3 1 (.slice (some ⟨lg, 0, none⟩) n n) n (ivals c)) := hO
              have BD := Lib.hid hB.out.drew
              have HLT2 := Lib.hid hlt2
              obtain ⟨tl, htl⟩ : ∃ q, T.length = q := ⟨_, rfl⟩
              have HTLN := Lib.hid htl
              rw [htl] at hlt2 htc1 TD ⊢
              have hi0 : (0 : Int) ≤ (i : Int) := by omega
              have hi1 : (i : Int) < (tl : Int) := by omega
              have hxx0 : (0 : Int) ≤ (x : Int) := by omega
              have hxx1 : (x : Int) < (n : Int) := by omega
              have hin : i < n := by omega
              clear hx hxi hy hll hnd hQ hT hO hB hxF htl hlgw hi
              go_wp2_with fail
              go_region_held3 (fun w' => w'.cell? ⟨w.heap.size, 0, none⟩ = some (.slice (some ⟨b, off, none⟩) n cap) ∧ w'.cell? ⟨tgb, i, none⟩ = some (.int .i64 (x : Int)) ∧ w'.cell? ⟨b, off + x * 2 + 1, none⟩ = some (.slice xa ll xc)) (first | exact ⟨hbx, f1, f2⟩ | go_keep) ((first | fail))
              go_wp2
              clear hbx f1 f2
              go_loopw [8, 71] (fun tv jv wr => ∃ (j : Nat) (T : List Nat) (c : List Int), j ≤ ll ∧ jv = .int .i64 j ∧ Hid (Que F T i j c) ∧ Hid (T[i]? = some x) ∧ Hid (wr.ownsRow lg 3 1 tv T.length (ivals (omem T))) ∧ Hid (tv.ownBlock ≠ some lg) ∧ Hid (wr.ownsRow lg 3 1 (.slice (some ⟨lg, 0, none⟩) n n) n (ivals c)) ∧ Hid (Below lg W wr)) (fun _ jv _ => ll - (intOf jv).toNat)
              case atStart => exact ⟨0, T, c, Nat.zero_le _, rfl, QD, HXI, (by rw [HTLN.out]; exact TD), hne, OD, BD⟩
              case round =>
                clear QD HXI TD OD BD hne
                obtain ⟨j, T, c, hj, rfl, hQ, hxi, hT, hne, hO, hB⟩ := hrel
                have hlgw := (hO.out.lt lg rfl).2
                have hTn := nodup_lt hQ.out.nd hQ.out.lt
                rw [HL.out] at hTn
                by_cases hjl : j < ll
                · obtain ⟨ab, ao, rfl, _, hax⟩ := (HAR.out wr hB.out).at_ (by omega)
                  obtain ⟨d0, d1⟩ := hax j hjl
                  have hjL : j < y.2.length := by rw [HLL.out]; exact hjl
                  have hto := HTP.out _ (ar_mem hjL)
                  have htj : (tg F x)[j]? = some (ar y.2 j).2.toNat := by rw [HTG.out, List.getElem?_map, ar_get hjL]; rfl
                  obtain ⟨f, hf⟩ : ∃ f, ar y.2 j = f := ⟨_, rfl⟩
                  rw [hf] at d0 d1 hto htj
                  obtain ⟨ff, tt⟩ := f
                  obtain ⟨tn, rfl⟩ : ∃ tn : Nat, tt = (tn : Int) := ⟨tt.toNat, (Int.toNat_of_nonneg hto).symm⟩
                  dsimp only at d0 d1 htj
                  rw [Int.toNat_natCast] at htj
                  have htn := HTLX.out tn (List.mem_of_getElem? htj)
                  have htF : tn < F.length := by rw [HL.out]; exact htn
                  have hpos := hQ.out.pos hxi.out htj htF
                  have hqb := que_bd HS.out hQ.out htF
                  have QK := Lib.hid (hQ.out.keep hxi.out htj htF)
                  have QP := Lib.hid (hQ.out.push hxi.out htj htF)
                  have OA := Lib.hid (hO.out.alloc (.cells #[.int .i64 ff, .int .i64 (tn : Int)] 45))
                  have e1 : (wr.alloc (.cells #[.int .i64 ff, .int .i64 (tn : Int)] 45)).cell? ⟨lg, tn, none⟩ = some (.int .i64 (iv c tn)) := (OA.out.cellAt tn (by omega)).trans (ivals_get (by rw [hQ.out.len]; exact htF))
                  have e3 : (wr.alloc (.cells #[.int .i64 ff, .int .i64 (tn : Int)] 45)).frozen? ⟨lg, tn, none⟩ = false := OA.out.frozenAt _
                  have hst := OA.out.stored tn (.int .i64 (iv c tn - 1))
                  obtain ⟨w6, hw6⟩ : ∃ w6, (wr.alloc (.cells #[.int .i64 ff, .int .i64 (tn : Int)] 45)).setCell ⟨lg, tn, none⟩ (.int .i64 (iv c tn - 1)) = w6 := ⟨_, rfl⟩
                  rw [hw6] at hst
                  have OS : Hid (w6.ownsRow lg 3 1 (.slice (some ⟨lg, 0, none⟩) n n) n (ivals (c.set tn (iv c tn - 1)))) := by
                    show World.ownsRow _ _ _ _ _ _ _
                    rw [← ivals_set]
                    exact hst.1
                  have TS := Lib.hid ((hT.out.alloc (.cells #[.int .i64 ff, .int .i64 (tn : Int)] 45)).kept hst.2 (.inr hne.out))
                  have BS := Lib.hid (hw6 ▸ ((hB.out.alloc (by omega) (.cells #[.int .i64 ff, .int .i64 (tn : Int)] 45)).setCell (p := ⟨lg, tn, none⟩) (Nat.le_refl _) (.int .i64 (iv c tn - 1))))
                  have hab : (wr.alloc (.cells #[.int .i64 ff, .int .i64 (tn : Int)] 45)).heap[wr.heap.size]? = some (.cells #[.int .i64 ff, .int .i64 (tn : Int)] 45) := heap_alloc_new wr _
                  have a1 : w6.cell? ⟨wr.heap.size, 1, none⟩ = some (.int .i64 (tn : Int)) := by
                    rw [← hw6, World.cell?_of_block (a := ⟨wr.heap.size, 1, none⟩) ((setCell_grown _ lg tn _).block wr.heap.size (by simp) (fun e => by have := Option.some.inj e; omega)), cell_of_row _ _ _ _ _ _ hab]; rfl
                  have e5 : w6.cell? ⟨lg, tn, none⟩ = some (.int .i64 (iv c tn - 1)) := (OS.out.cellAt tn (by omega)).trans (by rw [ivals_get (by rw [List.length_set, hQ.out.len]; exact htF), iv_set (by rw [hQ.out.len]; exact htF), if_pos rfl])
                  have hlg6 : lg ≤ w6.heap.size := by rw [← hw6]; simp; omega
                  obtain ⟨z, hz⟩ : ∃ z, iv c tn - 1 = z := ⟨_, rfl⟩
                  obtain ⟨q, hq⟩ : ∃ q, iv c tn = q := ⟨_, rfl⟩
                  rw [hz] at QK QP OS hw6 e5
                  rw [hq] at hpos hqb e1
                  have hqz : q - 1 = z := by rw [← hq]; exact hz
                  have hwq : IntKind.i64.wrap z = z := by rw [IntKind.wrap_i64]; omega
                  have htn0 : (0 : Int) ≤ (tn : Int) := by omega
                  have htn1 : (tn : Int) < (n : Int) := by omega
                  have HTJ := Lib.hid htj
                  clear hax hjL hto htj hf hst hO hB OA hT hlgw hq hz hab htF hpos hqb
                  by_cases hz0 : z = 0
                  · have QN := Lib.hid (QP.out hz0)
                    subst hz0
                    clear QN
                    have QN := Lib.hid (QP.out rfl)
                    have TA := Lib.hid (TS.out.alloc (.cells #[.int .i64 (tn : Int)] 3))
                    have OB := Lib.hid (OS.out.alloc (.cells #[.int .i64 (tn : Int)] 3))
                    have BA := Lib.hid (BS.out.alloc hlg6 (.cells #[.int .i64 (tn : Int)] 3))
                    have XI2 : Hid ((T ++ [tn])[i]? = some x) := by
                      show _ = _
                      have := (List.getElem?_eq_some_iff.1 hxi.out).1
                      rw [List.getElem?_append_left this]; exact hxi.out
                    clear QK QP hQ
                    go_wp2_with (at_builtin; refine wpList_append_ints (w := w6.alloc (.cells #[.int .i64 (tn : Int)] 3)) rfl _ _ rfl lg _ T.length (omem T) rfl TA.out w6.heap.size 1 [(tn : Int)] #[.int .i64 (tn : Int)] rfl (heap_alloc_new w6 _) rfl (by simp; omega) (by simp; omega) ?_; intro v2 w2 hown2 hgrow2 hloc2; have T2 := Lib.hid hown2; have O2 := Lib.hid (OB.out.kept hgrow2 (.inr (fun e => hne.out e.symm))); have B2 := Lib.hid (BA.out.grown hgrow2 (by simp; omega) (fun j hj => (TA.out.lt j hj).1)); have N2 : Hid (v2.ownBlock ≠ some lg) := (fun e => by rcases hloc2 with h | h; exact hne.out (h ▸ e); rw [h] at e; have := Option.some.inj e; have := (OS.out.lt lg rfl).2; simp at *; omega); clear hown2 hgrow2 hloc2)
                    go_roundw
                    case rel => exact ⟨j + 1, T ++ [tn], _, by omega, by go_num, QN, XI2, by rw [List.length_append, ← omem_snoc]; exact T2.out, N2, O2, B2⟩
                    case measure => simp [intOf]; omega
                  · have QN := Lib.hid (QK.out hz0)
                    have hzt : (z == 0) = false := by simpa using hz0
                    clear QK QP hQ
                    go_wp2
                    go_roundw
                    case rel => exact ⟨j + 1, T, _, by omega, by go_num, QN, hxi, TS, hne, OS, BS⟩
                    case measure => simp [intOf]; omega
                · obtain rfl : ll = j := by omega
                  rw [← HTLEN.out] at hQ
                  have QN := Lib.hid (hQ.out.next hxi.out)
                  have hil := (List.getElem?_eq_some_iff.1 hxi.out).1
                  clear hQ
                  go_wp2
                  go_roundw
                  case rel => exact ⟨i + 1, T, c, hil, by go_num, QN, hT, hne, hO, hB⟩
                  case measure => simp [intOf]; omega
            · have hie : i = T.length := by omega
              subst hie
              have HD := Lib.hid (hQ.out.done HF.out)
              rw [HL.out] at HD
              obtain ⟨tl, htl⟩ : ∃ q, T.length = q := ⟨_, rfl⟩
              rw [htl] at HD htc1 ⊢
              clear hQ hT
              by_cases hd : tl < n
              · go_wp2
                go_ret
                exact ⟨true, rfl, ⟨fun _ => HD.out.1 hd, fun _ => rfl⟩, B.out.trans ((HLG.out ▸ hB.out : Below W.heap.size W wr).mono B.out.size)⟩
              · have hd2 : ¬ ((tl : Int) < (n : Int)) := by omega
                go_wp2
                go_ret
                exact ⟨false, rfl, ⟨fun h => (by cases h), fun h => absurd (HD.out.2 h) hd⟩, B.out.trans ((HLG.out ▸ hB.out : Below W.heap.size W wr).mono B.out.size)⟩
end Go.Proofs.Ytlhiiecaphibhaa
