/- Texts joined by wip/gen/merge.py: Gc Gd Ge Gf Gh Gi Gj Shelf Gk Gl Gm Gn. -/
import Derived.Sort.KeysCollected
import Derived.Deep.AppendLies
import Derived.Maps.OwnSet
import Derived.Maps.OwnOps
import Derived.Maps.Views
import Derived.Shelf.SlSortCmp.WholeK
import Derived.Ground.SlsfProg
import Derived.Shelf.SlicesE.Clone
import Derived.Ground.SlgnProg
import Derived.Shelf.Small.Bits
import Derived.Shelf.Strconv.Itoa0
import Derived.Test.YtlhiiecaphibhaaProg
import Derived.Shelf.SlSortFuncK.HeapSortK
import Derived.Shelf.SlSortCmp.NoneTotal
import Derived.Test.YtlhiiecaphibhaaMaa
set_option linter.unusedVariables false
set_option linter.unusedSimpArgs false
/- graph: how the program compares arcs. -/
namespace Go.Proofs.Ytlhiiecaphibhaa
open Go.RowKit

set_option maxRecDepth 100000 in
theorem isNaN_any (w : World) (x : Int) : Calls Try.prog 48 #[.int .i64 x] w fun e w' => e = .returned (.bool false) ∧ w = w' := by
  go_enter Try.func48, Try.ntmps48
  go_wp2
  go_ret
  exact ⟨rfl, rfl⟩
set_option maxRecDepth 100000 in
theorem Compare_int (w : World) (x y : Int) : Calls Try.prog 35 #[.int .i64 x, .int .i64 y] w fun e w' => e = .returned (.int .i64 (ci x y)) ∧ w = w' := by
  rcases ci_cases x y with ⟨e, h⟩ | ⟨e, h⟩ | ⟨e, h⟩
  all_goals
    rw [e]
    clear e
  · go_enter Try.func35, Try.ntmps35
    go_wp2_with (go_at_call 48; (with_reducible refine (isNaN_any _ _).mono ?_); rintro e w' ⟨rfl, rfl⟩)
    go_ret
    exact ⟨rfl, rfl⟩
  · subst h
    go_enter Try.func35, Try.ntmps35
    go_wp2_with (go_at_call 48; (with_reducible refine (isNaN_any _ _).mono ?_); rintro e w' ⟨rfl, rfl⟩)
    go_ret
    exact ⟨rfl, rfl⟩
  · have h2 : ¬ x < y := by omega
    go_enter Try.func35, Try.ntmps35
    go_wp2_with (go_at_call 48; (with_reducible refine (isNaN_any _ _).mono ?_); rintro e w' ⟨rfl, rfl⟩)
    go_ret
    exact ⟨rfl, rfl⟩

set_option maxRecDepth 100000 in
theorem OrJ_any (w : World) (b : Nat) (x y : Int) (h0 : w.cell? ⟨b, 0, none⟩ = some (.int .i64 x)) (h1 : w.cell? ⟨b, 1, none⟩ = some (.int .i64 y)) :
    Calls Try.prog 49 #[.slice (some ⟨b, 0, none⟩) 2 2] w fun e w' => e = .returned (.int .i64 (orJ x y)) ∧ w' = w := by
  go_enter Try.func49, Try.ntmps49
  go_wp2
  go_loopw [8] (fun u wr => ∃ k : Nat, k ≤ 2 ∧ u = .int .i64 k ∧ wr = w ∧ Hid ((1 ≤ k → x = 0) ∧ (2 ≤ k → y = 0))) (fun u _ => 2 - (intOf u).toNat)
  case atStart => exact ⟨0, by omega, rfl, rfl, fun h => absurd h (by omega), fun h => absurd h (by omega)⟩
  case round =>
    obtain ⟨k, hk, rfl, rfl, hz⟩ := hrel
    match k, hk, hz with
    | 0, hk, hz =>
      by_cases e : x = 0
      · subst e
        go_wp2
        go_roundw
        case rel => exact ⟨1, by omega, rfl, by first | trivial | rfl, by first | trivial | exact fun _ => rfl, by first | trivial | exact fun h => absurd h (by omega)⟩
        case measure => simp [intOf]
      · go_wp2
        go_ret
        exact ⟨by unfold orJ; rw [if_neg e]; rfl, rfl⟩
    | 1, hk, hz =>
      have hx := hz.out.1 (Nat.le_refl _)
      subst hx
      by_cases e : y = 0
      · subst e
        go_wp2
        go_roundw
        case rel => exact ⟨2, by omega, rfl, by first | trivial | rfl, by first | trivial | exact fun _ => rfl, by first | trivial | exact fun _ => rfl⟩
        case measure => simp [intOf]
      · go_wp2
        go_ret
        exact ⟨by unfold orJ; rw [if_pos rfl]; rfl, rfl⟩
    | 2, hk, hz =>
      have hx := hz.out.1 (by omega)
      have hy := hz.out.2 (by omega)
      subst hx
      subst hy
      go_wp2
      go_ret
      exact ⟨rfl, rfl⟩

/-- The world behind the boxes of two arcs. -/
abbrev twoA (w : World) (x y : Arc) : World := (w.alloc (.cells #[.int .i64 x.1, .int .i64 x.2] 45)).alloc (.cells #[.int .i64 y.1, .int .i64 y.2] 45)
theorem twoA_is (w : World) (x y : Arc) (W : World) (hW : twoA w x y = W) : Below w.heap.size w W ∧ W.heap.size = w.heap.size + 2 ∧ W.cell? ⟨w.heap.size, 0, none⟩ = some (.int .i64 x.1) ∧ W.cell? ⟨w.heap.size, 1, none⟩ = some (.int .i64 x.2) ∧
    W.cell? ⟨w.heap.size + 1, 0, none⟩ = some (.int .i64 y.1) ∧ W.cell? ⟨w.heap.size + 1, 1, none⟩ = some (.int .i64 y.2) := by
  subst hW
  refine ⟨((Below.refl _ w).alloc (Nat.le_refl _) _).alloc (by simp) _, by simp, ?_, ?_, ?_, ?_⟩
  · refine (World.cell?_alloc_lt _ _ _ (by simp)).trans ?_
    rw [World.cell?_alloc_new]; rfl
  · refine (World.cell?_alloc_lt _ _ _ (by simp)).trans ?_
    rw [World.cell?_alloc_new]; rfl
  · have := World.cell?_alloc_new (w.alloc (.cells #[.int .i64 x.1, .int .i64 x.2] 45)) #[.int .i64 y.1, .int .i64 y.2] 45 0
    rw [World.size_alloc] at this
    exact this
  · have := World.cell?_alloc_new (w.alloc (.cells #[.int .i64 x.1, .int .i64 x.2] 45)) #[.int .i64 y.1, .int .i64 y.2] 45 1
    rw [World.size_alloc] at this
    exact this
set_option maxRecDepth 100000 in
/-- How SortFunc compares. -/
theorem feat_any (w : World) (x y : Arc) : Calls Try.prog 47 #[.agg #[.int .i64 x.1, .int .i64 x.2], .agg #[.int .i64 y.1, .int .i64 y.2]] w fun e w' => e = .returned (.int .i64 (ci x.1 y.1)) ∧ w' = twoA w x y := by
  obtain ⟨W, hW⟩ : ∃ W, twoA w x y = W := ⟨_, rfl⟩
  obtain ⟨_, _, d1, d2, d3, d4⟩ := twoA_is w x y W hW
  go_enter Try.func47, Try.ntmps47
  go_wp2_with (go_at_call 35; (with_reducible refine (Compare_int _ _ _).mono ?_); rintro e w' ⟨rfl, rfl⟩)
  go_ret
  exact ⟨rfl, by first | exact hW.symm | rfl⟩
abbrev ors (w : World) (x y : Int) : World := w.alloc (.cells #[.int .i64 x, .int .i64 y] 3)
set_option maxRecDepth 100000 in
set_option maxHeartbeats 1600000 in
theorem compareArcs_any (w : World) (x y : Arc) : Calls Try.prog 51 #[.agg #[.int .i64 x.1, .int .i64 x.2], .agg #[.int .i64 y.1, .int .i64 y.2]] w fun e w' => e = .returned (.int .i64 (cA x y)) ∧ Below w.heap.size w w' := by
  obtain ⟨W, hW⟩ : ∃ W, twoA w x y = W := ⟨_, rfl⟩
  obtain ⟨b1, hz, d1, d2, d3, d4⟩ := twoA_is w x y W hW
  have OR := Lib.hid (OrJ_any ((ors W (ci x.1 y.1) (ci x.2 y.2)).drew) W.heap.size _ _ (World.cell?_alloc_new W _ _ 0) (World.cell?_alloc_new W _ _ 1))
  have e1 : (ors W (ci x.1 y.1) (ci x.2 y.2)).drew.cell? ⟨w.heap.size, 0, none⟩ = some (.int .i64 x.1) := (World.cell?_alloc_lt W _ _ (by show w.heap.size < _; omega)).trans d1
  have e2 : (ors W (ci x.1 y.1) (ci x.2 y.2)).drew.cell? ⟨w.heap.size, 1, none⟩ = some (.int .i64 x.2) := (World.cell?_alloc_lt W _ _ (by show w.heap.size < _; omega)).trans d2
  have e3 : (ors W (ci x.1 y.1) (ci x.2 y.2)).drew.cell? ⟨w.heap.size + 1, 0, none⟩ = some (.int .i64 y.1) := (World.cell?_alloc_lt W _ _ (by show w.heap.size + 1 < _; omega)).trans d3
  have e4 : (ors W (ci x.1 y.1) (ci x.2 y.2)).drew.cell? ⟨w.heap.size + 1, 1, none⟩ = some (.int .i64 y.2) := (World.cell?_alloc_lt W _ _ (by show w.heap.size + 1 < _; omega)).trans d4
  have B1 := Lib.hid b1
  clear b1 hz
  go_enter Try.func51, Try.ntmps51
  go_wp2
  (try rw [hW])
  clear hW
  go_region_held3 (fun w' => w'.cell? ⟨w.heap.size, 0, none⟩ = some (.int .i64 x.1) ∧ w'.cell? ⟨w.heap.size, 1, none⟩ = some (.int .i64 x.2) ∧ w'.cell? ⟨w.heap.size + 1, 0, none⟩ = some (.int .i64 y.1) ∧ w'.cell? ⟨w.heap.size + 1, 1, none⟩ = some (.int .i64 y.2)) (first | exact ⟨d1, d2, d3, d4⟩ | exact ⟨e1, e2, e3, e4⟩) ((first
    | (go_at_call 35; (with_reducible refine (Compare_int _ _ _).mono ?_); rintro e w' ⟨rfl, rfl⟩)
    | (go_at_call 49; (with_reducible refine OR.out.mono ?_); rintro e w' ⟨rfl, rfl⟩)))
  go_wp2
  go_ret
  exact ⟨rfl, (B1.out.alloc B1.out.size _).drew⟩
end Go.Proofs.Ytlhiiecaphibhaa

/- graph: slices.CompareFunc of arcs. Written by wip/gen/gd.py. -/
namespace Go.Proofs.Ytlhiiecaphibhaa
open Go.RowKit
theorem compareArcs_val (w : World) (x y : Arc) (c : Int) (hc : cA x y = c) : Calls Try.prog 51 #[.agg #[.int .i64 x.1, .int .i64 x.2], .agg #[.int .i64 y.1, .int .i64 y.2]] w fun e w' => e = .returned (.int .i64 c) ∧ Below w.heap.size w w' := hc ▸ compareArcs_any w x y

set_option maxRecDepth 100000 in
set_option maxHeartbeats 1600000 in
theorem CompareFunc_arcs (w : World) (a a' : Option Addr) (n cap m cap' : Nat) (L M : List Arc) (hL : IsArcs w a n cap L) (hM : IsArcs w a' m cap' M) :
    Calls Try.prog 50 #[.slice a n cap, .slice a' m cap', .func (.func 51) #[] #[]] w fun e w' => e = .returned (.int .i64 (cL cA L M)) ∧ Below w.heap.size w w' := by
  have eg : ∀ args W, (callFunc 51 args).run Try.prog W = .ok (.enter 51 args) W := fun _ _ => by kernel_rfl
  have hm1 := hL.maxLe
  have hc1 := hL.capLe
  have hm2 := hM.maxLe
  have hc2 := hM.capLe
  unfold maxLen at hm1 hm2
  have HL := Lib.hid hL
  have HM := Lib.hid hM
  clear hL hM
  go_enter Try.func50, Try.ntmps50
  go_wp2
  go_loopw [13] (fun v wr => ∃ k : Nat, k ≤ n ∧ v = .int .i64 k ∧ Hid (cL cA L M = cL cA (L.drop k) (M.drop k)) ∧ Hid (k ≤ m) ∧ Hid (Below w.heap.size w wr)) (fun v _ => n - (intOf v).toNat)
  case atStart => exact ⟨0, Nat.zero_le _, rfl, rfl, Nat.zero_le _, Below.refl _ _⟩
  case round =>
    obtain ⟨k, hk, rfl, hE, hkm, hB⟩ := hrel
    by_cases hlt : k < n
    · obtain ⟨b, off, rfl, hbl, hx⟩ := (HL.out.below hB.out).at_ (by omega)
      obtain ⟨c0, c1⟩ := hx k hlt
      have hdL : L.drop k = ar L k :: L.drop (k + 1) := by
        have h1 : k < L.length := by rw [HL.out.len]; exact hlt
        rw [List.drop_eq_getElem_cons h1]
        have := ar_get h1
        rw [List.getElem?_eq_getElem h1] at this
        rw [Option.some.inj this]
      by_cases hgt : k < m
      · obtain ⟨b', off', rfl, hbl', hx'⟩ := (HM.out.below hB.out).at_ (by omega)
        obtain ⟨d0, d1⟩ := hx' k hgt
        have hdM : M.drop k = ar M k :: M.drop (k + 1) := by
          have h1 : k < M.length := by rw [HM.out.len]; exact hgt
          rw [List.drop_eq_getElem_cons h1]
          have := ar_get h1
          rw [List.getElem?_eq_getElem h1] at this
          rw [Option.some.inj this]
        have hE2 : Hid (cL cA L M = orJ (cA (ar L k) (ar M k)) (cL cA (L.drop (k + 1)) (M.drop (k + 1)))) := by
          show _ = _
          rw [hE.out, hdL, hdM]; rfl
        clear hdL hdM hx hx' hE
        obtain ⟨x, hxe⟩ : ∃ x, ar L k = x := ⟨_, rfl⟩
        obtain ⟨y, hye⟩ : ∃ y, ar M k = y := ⟨_, rfl⟩
        rw [hxe] at c0 c1  hE2
        rw [hye] at d0 d1  hE2
        clear hxe hye
        obtain ⟨c, hc⟩ : ∃ c, cA x y = c := ⟨_, rfl⟩
        rw [hc] at hE2
        by_cases h0 : c = 0
        · subst h0
          have CV := Lib.hid (fun W => compareArcs_val W x y 0 hc)
          clear hc
          go_wp2_with (go_at_call 51; (with_reducible refine (CV.out _).mono ?_); rintro e w2 ⟨rfl, hb2⟩; have B2 := Lib.hid (((hB.out.alloc hB.out.size _).alloc (by have := hB.out.size; simp; omega) _).trans (hb2.mono (by have := hB.out.size; simp; omega))); clear hb2)
          go_roundw
          case rel => exact ⟨k + 1, by omega, by go_num, by show _ = _; rw [hE2.out]; rfl, hgt, B2.out⟩
          case measure => simp [intOf]; omega
        · have hr : Hid (cL cA L M = c) := by show _ = _; rw [hE2.out]; unfold orJ; rw [if_neg h0]
          have hne : (c != 0) = true := by simpa using h0
          have CV := Lib.hid (fun W => compareArcs_val W x y c hc)
          clear hc hE2
          go_wp2_with (go_at_call 51; (with_reducible refine (CV.out _).mono ?_); rintro e w2 ⟨rfl, hb2⟩; have B2 := Lib.hid (((hB.out.alloc hB.out.size _).alloc (by have := hB.out.size; simp; omega) _).trans (hb2.mono (by have := hB.out.size; simp; omega))); clear hb2)
          go_ret
          exact ⟨by rw [hr.out]; rfl, B2.out⟩
      · obtain rfl : k = m := by have := hkm.out; omega
        have hdM : M.drop k = [] := List.drop_eq_nil_of_le (by rw [HM.out.len]; exact Nat.le_refl _)
        have hr : Hid (cL cA L M = 1) := by show _ = _; rw [hE.out, hdL, hdM]; rfl
        clear hdL hdM hx hE
        go_wp2
        go_ret
        exact ⟨by rw [hr.out]; rfl, hB.out.alloc hB.out.size _⟩
    · obtain rfl : n = k := by omega
      have hdL : L.drop n = [] := List.drop_eq_nil_of_le (by rw [HL.out.len]; exact Nat.le_refl _)
      by_cases hgt : n < m
      · have hr : Hid (cL cA L M = -1) := by
          show _ = _
          have h1 : n < M.length := by rw [HM.out.len]; exact hgt
          rw [hE.out, hdL, List.drop_eq_getElem_cons h1]; rfl
        clear hdL hE
        go_wp2
        go_ret
        exact ⟨by rw [hr.out]; rfl, hB.out⟩
      · have hr : Hid (cL cA L M = 0) := by
          show _ = _
          rw [hE.out, hdL, List.drop_eq_nil_of_le (by rw [HM.out.len]; omega)]; rfl
        clear hdL hE
        go_wp2
        go_ret
        exact ⟨by rw [hr.out]; rfl, hB.out⟩
end Go.Proofs.Ytlhiiecaphibhaa

/- graph: compareNodes, Compare, Equal of the program. Written by wip/gen/gd.py. -/
namespace Go.Proofs.Ytlhiiecaphibhaa
open Go.RowKit

abbrev twoN (w : World) (v0 v1 u0 u1 : Value) : World := (w.alloc (.cells #[v0, v1] 43)).alloc (.cells #[u0, u1] 43)
theorem twoN_is (w : World) (v0 v1 u0 u1 : Value) (W : World) (hW : twoN w v0 v1 u0 u1 = W) : Below w.heap.size w W ∧ W.heap.size = w.heap.size + 2 ∧ W.cell? ⟨w.heap.size, 0, none⟩ = some v0 ∧ W.cell? ⟨w.heap.size, 1, none⟩ = some v1 ∧
    W.cell? ⟨w.heap.size + 1, 0, none⟩ = some u0 ∧ W.cell? ⟨w.heap.size + 1, 1, none⟩ = some u1 := by
  subst hW
  refine ⟨((Below.refl _ w).alloc (Nat.le_refl _) _).alloc (by simp) _, by simp, ?_, ?_, ?_, ?_⟩
  · refine (World.cell?_alloc_lt _ _ _ (by simp)).trans ?_
    rw [World.cell?_alloc_new]; rfl
  · refine (World.cell?_alloc_lt _ _ _ (by simp)).trans ?_
    rw [World.cell?_alloc_new]; rfl
  · have := World.cell?_alloc_new (w.alloc (.cells #[v0, v1] 43)) #[u0, u1] 43 0
    rw [World.size_alloc] at this
    exact this
  · have := World.cell?_alloc_new (w.alloc (.cells #[v0, v1] 43)) #[u0, u1] 43 1
    rw [World.size_alloc] at this
    exact this
set_option maxRecDepth 100000 in
set_option maxHeartbeats 1600000 in
theorem compareNodes_any (w : World) (x y : Nd) (xa ya : Option Addr) (xc yc : Nat) (hx : IsArcs w xa x.2.length xc x.2) (hy : IsArcs w ya y.2.length yc y.2) :
    Calls Try.prog 37 #[.agg #[.int .i64 x.1, .slice xa x.2.length xc], .agg #[.int .i64 y.1, .slice ya y.2.length yc]] w fun e w' => e = .returned (.int .i64 (cN x y)) ∧ Below w.heap.size w w' := by
  obtain ⟨W, hW⟩ : ∃ W, twoN w (.int .i64 x.1) (.slice xa x.2.length xc) (.int .i64 y.1) (.slice ya y.2.length yc) = W := ⟨_, rfl⟩
  obtain ⟨b1, hz, d1, d2, d3, d4⟩ := twoN_is w _ _ _ _ W hW
  obtain ⟨V, hV⟩ : ∃ V, V = (ors W (ci x.1 y.1) (ci x.2.length y.2.length)).drew := ⟨_, rfl⟩
  have OR := Lib.hid (OrJ_any ((ors W (ci x.1 y.1) (ci x.2.length y.2.length)).drew) W.heap.size _ _ (World.cell?_alloc_new W _ _ 0) (World.cell?_alloc_new W _ _ 1))
  have bv : Below W.heap.size W ((ors W (ci x.1 y.1) (ci x.2.length y.2.length)).drew) := (ba W _).drew
  have e1 := (bv.cell (p := ⟨w.heap.size, 0, none⟩) (by show w.heap.size < _; omega)).trans d1
  have e2 := (bv.cell (p := ⟨w.heap.size, 1, none⟩) (by show w.heap.size < _; omega)).trans d2
  have e3 := (bv.cell (p := ⟨w.heap.size + 1, 0, none⟩) (by show w.heap.size + 1 < _; omega)).trans d3
  have e4 := (bv.cell (p := ⟨w.heap.size + 1, 1, none⟩) (by show w.heap.size + 1 < _; omega)).trans d4
  have BV := Lib.hid (b1.trans (bv.mono b1.size))
  have HX := Lib.hid (hx.below BV.out)
  have HY := Lib.hid (hy.below BV.out)
  have hc1 := hx.capLe
  have hc2 := hy.capLe
  have hm1 := hx.maxLe
  have hm2 := hy.maxLe
  unfold maxLen at hm1 hm2
  have CF := Lib.hid (fun c (hc : cL cA x.2 y.2 = c) => hc ▸ CompareFunc_arcs ((ors W (ci x.1 y.1) (ci x.2.length y.2.length)).drew) xa ya x.2.length xc y.2.length yc x.2 y.2 HX.out HY.out)
  obtain ⟨cc, hcc⟩ : ∃ cc, orJ (ci x.1 y.1) (ci x.2.length y.2.length) = cc := ⟨_, rfl⟩
  have HR : Hid (cN x y = orJ cc (cL cA x.2 y.2)) := by show _ = _; rw [← hcc]; rfl
  rw [hcc] at OR
  clear hx hy b1 hz bv hV V hcc
  go_enter Try.func37, Try.ntmps37
  go_wp2
  (try rw [hW])
  clear hW
  go_region_held3 (fun w' => w'.cell? ⟨w.heap.size, 0, none⟩ = some (.int .i64 x.1) ∧ w'.cell? ⟨w.heap.size, 1, none⟩ = some (.slice xa x.2.length xc) ∧ w'.cell? ⟨w.heap.size + 1, 0, none⟩ = some (.int .i64 y.1) ∧ w'.cell? ⟨w.heap.size + 1, 1, none⟩ = some (.slice ya y.2.length yc)) (first | exact ⟨d1, d2, d3, d4⟩ | exact ⟨e1, e2, e3, e4⟩) ((first
    | (go_at_call 35; (with_reducible refine (Compare_int _ _ _).mono ?_); rintro e w' ⟨rfl, rfl⟩)
    | (go_at_call 49; (with_reducible refine OR.out.mono ?_); rintro e w' ⟨rfl, rfl⟩)))
  by_cases h0 : cc = 0
  · subst h0
    go_wp2_with (go_at_call 50; (with_reducible refine (CF.out _ rfl).mono ?_); rintro e w2 ⟨rfl, hb2⟩; have B2 := Lib.hid (BV.out.trans (hb2.mono BV.out.size)); clear hb2)
    go_ret
    exact ⟨by rw [HR.out]; rfl, B2.out⟩
  · have hr : Hid (cN x y = cc) := by show _ = _; rw [HR.out]; unfold orJ; rw [if_neg h0]
    have hne : (cc != 0) = true := by simpa using h0
    clear HR
    go_wp2
    go_ret
    exact ⟨by rw [hr.out]; rfl, BV.out⟩
theorem compareNodes_val (w : World) (x y : Nd) (xa ya : Option Addr) (xc yc : Nat) (c : Int) (hc : cN x y = c) (hx : IsArcs w xa x.2.length xc x.2) (hy : IsArcs w ya y.2.length yc y.2) :
    Calls Try.prog 37 #[.agg #[.int .i64 x.1, .slice xa x.2.length xc], .agg #[.int .i64 y.1, .slice ya y.2.length yc]] w fun e w' => e = .returned (.int .i64 c) ∧ Below w.heap.size w w' := hc ▸ compareNodes_any w x y xa ya xc yc hx hy

set_option maxRecDepth 100000 in
set_option maxHeartbeats 1600000 in
theorem CompareFunc_nodes (w : World) (a a' : Option Addr) (n cap m cap' : Nat) (L M : List Nd) (hL : IsG w a n cap L) (hM : IsG w a' m cap' M) :
    Calls Try.prog 36 #[.slice a n cap, .slice a' m cap', .func (.func 37) #[] #[]] w fun e w' => e = .returned (.int .i64 (cL cN L M)) ∧ Below w.heap.size w w' := by
  have eg : ∀ args W, (callFunc 37 args).run Try.prog W = .ok (.enter 37 args) W := fun _ _ => by kernel_rfl
  have hm1 := hL.maxLe
  have hc1 := hL.capLe
  have hm2 := hM.maxLe
  have hc2 := hM.capLe
  unfold maxLen at hm1 hm2
  have HL := Lib.hid hL
  have HM := Lib.hid hM
  clear hL hM
  go_enter Try.func36, Try.ntmps36
  go_wp2
  go_loopw [13] (fun v wr => ∃ k : Nat, k ≤ n ∧ v = .int .i64 k ∧ Hid (cL cN L M = cL cN (L.drop k) (M.drop k)) ∧ Hid (k ≤ m) ∧ Hid (Below w.heap.size w wr)) (fun v _ => n - (intOf v).toNat)
  case atStart => exact ⟨0, Nat.zero_le _, rfl, rfl, Nat.zero_le _, Below.refl _ _⟩
  case round =>
    obtain ⟨k, hk, rfl, hE, hkm, hB⟩ := hrel
    by_cases hlt : k < n
    · obtain ⟨b, off, rfl, hbl, hx⟩ := (HL.out.below hB.out).at_ (by omega)
      obtain ⟨xa, xc, hd⟩ := hx k hlt
      have c0 := hd.c0
      have c1 := hd.c1
      have I1 := Lib.hid hd.is
      clear hd
      have hdL : L.drop k = nd L k :: L.drop (k + 1) := by
        have h1 : k < L.length := by rw [HL.out.len]; exact hlt
        rw [List.drop_eq_getElem_cons h1]
        have := nd_get h1
        rw [List.getElem?_eq_getElem h1] at this
        rw [Option.some.inj this]
      by_cases hgt : k < m
      · obtain ⟨b', off', rfl, hbl', hx'⟩ := (HM.out.below hB.out).at_ (by omega)
        obtain ⟨ya, yc, hd'⟩ := hx' k hgt
        have d0 := hd'.c0
        have d1 := hd'.c1
        have I2 := Lib.hid hd'.is
        clear hd'
        have hdM : M.drop k = nd M k :: M.drop (k + 1) := by
          have h1 : k < M.length := by rw [HM.out.len]; exact hgt
          rw [List.drop_eq_getElem_cons h1]
          have := nd_get h1
          rw [List.getElem?_eq_getElem h1] at this
          rw [Option.some.inj this]
        have hE2 : Hid (cL cN L M = orJ (cN (nd L k) (nd M k)) (cL cN (L.drop (k + 1)) (M.drop (k + 1)))) := by
          show _ = _
          rw [hE.out, hdL, hdM]; rfl
        clear hdL hdM hx hx' hE
        obtain ⟨x, hxe⟩ : ∃ x, nd L k = x := ⟨_, rfl⟩
        obtain ⟨y, hye⟩ : ∃ y, nd M k = y := ⟨_, rfl⟩
        rw [hxe] at c0 c1 I1 hE2
        rw [hye] at d0 d1 I2 hE2
        clear hxe hye
        obtain ⟨c, hc⟩ : ∃ c, cN x y = c := ⟨_, rfl⟩
        rw [hc] at hE2
        by_cases h0 : c = 0
        · subst h0
          have CV := Lib.hid (fun W => compareNodes_val W x y xa ya xc yc 0 hc)
          clear hc
          go_wp2_with (go_at_call 37; (with_reducible refine (CV.out _ (I1.out.below (((Below.refl _ _).alloc (Nat.le_refl _) _).alloc (by simp) _)) (I2.out.below (((Below.refl _ _).alloc (Nat.le_refl _) _).alloc (by simp) _))).mono ?_); rintro e w2 ⟨rfl, hb2⟩; have B2 := Lib.hid (((hB.out.alloc hB.out.size _).alloc (by have := hB.out.size; simp; omega) _).trans (hb2.mono (by have := hB.out.size; simp; omega))); clear hb2)
          go_roundw
          case rel => exact ⟨k + 1, by omega, by go_num, by show _ = _; rw [hE2.out]; rfl, hgt, B2.out⟩
          case measure => simp [intOf]; omega
        · have hr : Hid (cL cN L M = c) := by show _ = _; rw [hE2.out]; unfold orJ; rw [if_neg h0]
          have hne : (c != 0) = true := by simpa using h0
          have CV := Lib.hid (fun W => compareNodes_val W x y xa ya xc yc c hc)
          clear hc hE2
          go_wp2_with (go_at_call 37; (with_reducible refine (CV.out _ (I1.out.below (((Below.refl _ _).alloc (Nat.le_refl _) _).alloc (by simp) _)) (I2.out.below (((Below.refl _ _).alloc (Nat.le_refl _) _).alloc (by simp) _))).mono ?_); rintro e w2 ⟨rfl, hb2⟩; have B2 := Lib.hid (((hB.out.alloc hB.out.size _).alloc (by have := hB.out.size; simp; omega) _).trans (hb2.mono (by have := hB.out.size; simp; omega))); clear hb2)
          go_ret
          exact ⟨by rw [hr.out]; rfl, B2.out⟩
      · obtain rfl : k = m := by have := hkm.out; omega
        have hdM : M.drop k = [] := List.drop_eq_nil_of_le (by rw [HM.out.len]; exact Nat.le_refl _)
        have hr : Hid (cL cN L M = 1) := by show _ = _; rw [hE.out, hdL, hdM]; rfl
        clear hdL hdM hx hE
        go_wp2
        go_ret
        exact ⟨by rw [hr.out]; rfl, hB.out.alloc hB.out.size _⟩
    · obtain rfl : n = k := by omega
      have hdL : L.drop n = [] := List.drop_eq_nil_of_le (by rw [HL.out.len]; exact Nat.le_refl _)
      by_cases hgt : n < m
      · have hr : Hid (cL cN L M = -1) := by
          show _ = _
          have h1 : n < M.length := by rw [HM.out.len]; exact hgt
          rw [hE.out, hdL, List.drop_eq_getElem_cons h1]; rfl
        clear hdL hE
        go_wp2
        go_ret
        exact ⟨by rw [hr.out]; rfl, hB.out⟩
      · have hr : Hid (cL cN L M = 0) := by
          show _ = _
          rw [hE.out, hdL, List.drop_eq_nil_of_le (by rw [HM.out.len]; omega)]; rfl
        clear hdL hE
        go_wp2
        go_ret
        exact ⟨by rw [hr.out]; rfl, hB.out⟩
abbrev twoF (w : World) (v u : Value) : World := (w.alloc (.cells #[v] 25)).alloc (.cells #[u] 25)
theorem twoF_is (w : World) (v u : Value) (W : World) (hW : twoF w v u = W) : Below w.heap.size w W ∧ W.heap.size = w.heap.size + 2 ∧ W.cell? ⟨w.heap.size, 0, none⟩ = some v ∧ W.cell? ⟨w.heap.size + 1, 0, none⟩ = some u := by
  subst hW
  refine ⟨((Below.refl _ w).alloc (Nat.le_refl _) _).alloc (by simp) _, by simp, ?_, ?_⟩
  · refine (World.cell?_alloc_lt _ _ _ (by simp)).trans ?_
    rw [World.cell?_alloc_new]; rfl
  · have := World.cell?_alloc_new (w.alloc (.cells #[v] 25)) #[u] 25 0
    rw [World.size_alloc] at this
    exact this
set_option maxRecDepth 100000 in
set_option maxHeartbeats 1600000 in
theorem Compare_any (w : World) (a a' : Option Addr) (n cap m cap' : Nat) (F F' : Gr) (hF : IsG w a n cap F) (hF' : IsG w a' m cap' F') :
    Calls Try.prog 24 #[.agg #[.slice a n cap], .agg #[.slice a' m cap']] w fun e w' => e = .returned (.int .i64 (cG F F')) ∧ Below w.heap.size w w' := by
  have hm1 := hF.maxLe
  have hc1 := hF.capLe
  have hm2 := hF'.maxLe
  have hc2 := hF'.capLe
  unfold maxLen at hm1 hm2
  obtain ⟨W, hW⟩ : ∃ W, twoF w (.slice a n cap) (.slice a' m cap') = W := ⟨_, rfl⟩
  obtain ⟨b1, hz, d1, d2⟩ := twoF_is w _ _ W hW
  have HR : Hid (cG F F' = orJ (ci n m) (cL cN F F')) := by show _ = _; unfold cG; rw [hF.len, hF'.len]
  have B1 := Lib.hid b1
  have CF := Lib.hid (CompareFunc_nodes W a a' n cap m cap' F F' (hF.below b1) (hF'.below b1))
  clear hF hF' b1 hz
  obtain ⟨cc, hcc⟩ : ∃ cc, ci n m = cc := ⟨_, rfl⟩
  have CI := Lib.hid (fun (V : World) => show Calls Try.prog 35 #[.int .i64 n, .int .i64 m] V fun e w' => e = .returned (.int .i64 cc) ∧ V = w' from hcc ▸ Compare_int V n m)
  rw [hcc] at HR
  clear hcc
  go_enter Try.func24, Try.ntmps24
  by_cases h0 : cc = 0
  · subst h0
    go_wp2_with (first
      | (go_at_call 35; (try rw [hW]); (with_reducible refine (CI.out _).mono ?_); rintro e w' ⟨rfl, rfl⟩)
      | (go_at_call 36; (with_reducible refine CF.out.mono ?_); rintro e w2 ⟨rfl, hb2⟩; have B2 := Lib.hid (B1.out.trans (hb2.mono B1.out.size)); clear hb2))
    go_ret
    exact ⟨by rw [HR.out]; rfl, B2.out⟩
  · have hr : Hid (cG F F' = cc) := by show _ = _; rw [HR.out]; unfold orJ; rw [if_neg h0]
    have hne : (cc != 0) = true := by simpa using h0
    clear HR
    go_wp2_with (go_at_call 35; (try rw [hW]); (with_reducible refine (CI.out _).mono ?_); rintro e w' ⟨rfl, rfl⟩)
    go_ret
    exact ⟨by rw [hr.out]; rfl, B1.out⟩
theorem Compare_val (c : Int) (w : World) (a a' : Option Addr) (n cap m cap' : Nat) (F F' : Gr) (hF : IsG w a n cap F) (hF' : IsG w a' m cap' F') (hc : cG F F' = c) :
    Calls Try.prog 24 #[.agg #[.slice a n cap], .agg #[.slice a' m cap']] w fun e w' => e = .returned (.int .i64 c) ∧ Below w.heap.size w w' := hc ▸ Compare_any w a a' n cap m cap' F F' hF hF'
set_option maxRecDepth 100000 in
theorem Equal_any (w : World) (a a' : Option Addr) (n cap m cap' : Nat) (F F' : Gr) (hF : IsG w a n cap F) (hF' : IsG w a' m cap' F') :
    Calls Try.prog 26 #[.agg #[.slice a n cap], .agg #[.slice a' m cap']] w fun e w' => e = .returned (.bool (cG F F' == 0)) ∧ Below w.heap.size w w' := by
  obtain ⟨c, hc⟩ : ∃ c, cG F F' = c := ⟨_, rfl⟩
  obtain ⟨W, hW⟩ : ∃ W, twoF w (.slice a n cap) (.slice a' m cap') = W := ⟨_, rfl⟩
  obtain ⟨b1, hz, d1, d2⟩ := twoF_is w _ _ W hW
  have CV := Lib.hid (Compare_val c W a a' n cap m cap' F F' (hF.below b1) (hF'.below b1) hc)
  have B1 := Lib.hid b1
  rw [hc]
  clear hF hF' hc b1 hz
  go_enter Try.func26, Try.ntmps26
  go_wp2_with (go_at_call 24; (try rw [hW]); (with_reducible refine CV.out.mono ?_); rintro e w2 ⟨rfl, hb2⟩; have B2 := Lib.hid (B1.out.trans (hb2.mono B1.out.size)); clear hb2)
  go_ret
  exact ⟨rfl, B2.out⟩
theorem Equal_val (b : Bool) (w : World) (a a' : Option Addr) (n cap m cap' : Nat) (F F' : Gr) (hF : IsG w a n cap F) (hF' : IsG w a' m cap' F') (hb : (cG F F' == 0) = b) :
    Calls Try.prog 26 #[.agg #[.slice a n cap], .agg #[.slice a' m cap']] w fun e w' => e = .returned (.bool b) ∧ Below w.heap.size w w' := hb ▸ Equal_any w a a' n cap m cap' F F' hF hF'
end Go.Proofs.Ytlhiiecaphibhaa

/- graph: rows of numbers; the reference's numbers, Compare, Equal. -/
namespace Go.Proofs.Ytlhiiecaphibhaa
open Go.RowKit

def ivals (l : List Int) : List Value := l.map fun x => .int .i64 x
theorem ivals_len (l : List Int) : (ivals l).length = l.length := by simp [ivals]
theorem ivals_app (l m : List Int) : ivals (l ++ m) = ivals l ++ ivals m := by simp [ivals]
theorem ivals_one (l : List Int) : ∀ u ∈ ivals l, u.oneCell' = true := fun u hu => by
  obtain ⟨x, _, rfl⟩ := List.mem_map.1 hu; rfl
def iv (l : List Int) (i : Nat) : Int := l.getD i 0
theorem iv_get {l : List Int} {i : Nat} (h : i < l.length) : l[i]? = some (iv l i) := by
  unfold iv; rw [List.getD_eq_getElem?_getD, List.getElem?_eq_getElem h]; rfl
theorem drop_iv {l : List Int} {i : Nat} (h : i < l.length) : l.drop i = iv l i :: l.drop (i + 1) := by
  rw [List.drop_eq_getElem_cons h]
  have := iv_get h
  rw [List.getElem?_eq_getElem h] at this
  rw [Option.some.inj this]
theorem ivals_get {l : List Int} {i : Nat} (h : i < l.length) : (ivals l)[i]? = some (.int .i64 (iv l i)) := by
  unfold ivals; rw [List.getElem?_map, iv_get h]; rfl
theorem Try.infoI : (Try.prog.info? 3).map (fun i => (i.zero, i.size, i.bytes)) = some (some (.int .i64 0), 1, 8) := by kernel_rfl
theorem Try.infoA : (Try.prog.info? 45).map (fun i => (i.zero, i.size, i.bytes)) = some (some (.agg #[.int .i64 0, .int .i64 0]), 2, 16) := by kernel_rfl
theorem Try.infoN : (Try.prog.info? 43).map (fun i => (i.zero, i.size, i.bytes)) = some (some (.agg #[.int .i64 0, .slice none 0 0]), 2, 32) := by kernel_rfl
theorem info_parts {i? : Option TypeInfo} {z : Option Value} {s b : Nat} (h : i?.map (fun i => (i.zero, i.size, i.bytes)) = some (z, s, b)) : ∃ i, i? = some i ∧ i.zero = z ∧ i.size = s ∧ i.bytes = b := by
  cases i? with
  | none => cases h
  | some i =>
    simp only [Option.map_some, Option.some.injEq, Prod.mk.injEq] at h
    exact ⟨i, rfl, h.1, h.2.1, h.2.2⟩
/-- A slice of numbers that reads as a list. -/
structure IsInts (w : World) (a : Option Addr) (n cap : Nat) (l : List Int) : Prop where
  len : l.length = n
  capLe : n ≤ cap
  maxLe : cap ≤ maxLen
  at_ : 0 < n → ∃ b off, a = some ⟨b, off, none⟩ ∧ b < w.heap.size ∧ ∀ i, i < n → w.cell? ⟨b, off + i, none⟩ = some (.int .i64 (iv l i))
theorem IsInts.below {w w' : World} {a : Option Addr} {n cap : Nat} {l : List Int} (h : IsInts w a n cap l) (hb : Below w.heap.size w w') : IsInts w' a n cap l :=
  ⟨h.len, h.capLe, h.maxLe, fun h0 => by
    obtain ⟨b, off, e, hl, hx⟩ := h.at_ h0
    exact ⟨b, off, e, Nat.lt_of_lt_of_le hl hb.size, fun i hi => (hb.cell (p := ⟨b, off + i, none⟩) hl).trans (hx i hi)⟩⟩
theorem IsInts.of_owns {w : World} {B n : Nat} {v : Value} {l : List Int} (h : w.ownsRow B 3 1 v n (ivals l)) : ∃ a cap, v = .slice a l.length cap ∧ IsInts w a l.length cap l := by
  have hh := h
  have hlen : l.length = n := by have := h.1; rw [ivals_len] at this; omega
  subst hlen
  obtain ⟨h1, ⟨h2, h3⟩ | ⟨g, cap, cur, hv, hB, hg, h3, h4, h5, h6⟩⟩ := h
  · exact ⟨none, 0, by rw [h3]; exact h2, rfl, by omega, Nat.zero_le _, fun h0 => absurd h0 (by omega)⟩
  · refine ⟨some ⟨g, 0, none⟩, cap, hv, rfl, h3, h4, fun _ => ⟨g, 0, rfl, lt_of_block hg, fun i hi => ?_⟩⟩
    have := hh.cells (g := g) (by rw [hv]; rfl) i _ (ivals_get hi)
    rw [show (⟨g, 0, none⟩ : Addr).add i = ⟨g, i, none⟩ by unfold Addr.add; split <;> simp_all] at this
    rw [Nat.zero_add]
    exact this
theorem owns_below {w w' : World} {B n sz : Nat} {e : TypeId} {v : Value} {xs : List Value} (h : w.ownsRow B e sz v n xs) (hb : Below w.heap.size w w') : w'.ownsRow B e sz v n xs := by
  obtain ⟨h1, h2 | ⟨g, cap, cur, hv, hB, hg, r⟩⟩ := h
  · exact ⟨h1, .inl h2⟩
  · have hlt : g < w.heap.size := lt_of_block hg
    exact ⟨h1, .inr ⟨g, cap, cur, hv, hB, (hb.block g hlt).trans hg, r⟩⟩
theorem grown_below {B : Nat} {w w1 w2 : World} {v : Value} {e : TypeId} {sz n : Nat} {xs : List Value} (hb : Below B w w1) (hz : B ≤ w1.heap.size) (hrow : w1.ownsRow B e sz v n xs) (hg : w1.grownBy w2 v.ownBlock) : Below B w w2 :=
  hb.grown hg hz (fun j hj => (hrow.lt j hj).1)
/-- append of a new block of numbers to an owned row of numbers. -/
theorem wpList_append_ints {w : World} {ops : Array Oper} {rest : List Oper} {o : Oper} {a : Act} {Q : Exit → Act → World → Prop} (hgd : o.guard = none) (s x : Operand)
    (ho : o.op = .call { callee := .builtin .append, args := #[s, x], argTypes := #[51, 51] })
    (base : Nat) (v : Value) (n : Nat) (xs : List Int) (hs : a.eval s = v) (hown : w.ownsRow base 3 1 v n (ivals xs))
    (g c : Nat) (ys : List Int) (cs : Array Value) (hx : a.eval x = .slice (some ⟨g, 0, none⟩) ys.length c) (hg : w.heap[g]? = some (.cells cs 3)) (hcs : cs.toList = ivals ys)
    (h63 : n + ys.length ≤ 1000000) (hbase : base ≤ w.heap.size)
    (h : ∀ v' w', w'.ownsRow base 3 1 v' (n + ys.length) (ivals (xs ++ ys)) → w.grownBy w' v.ownBlock → (v'.ownBlock = v.ownBlock ∨ v'.ownBlock = some w.heap.size) → wpList Try.prog ops Q rest (a.put o.dst v') w') : wpList Try.prog ops Q (o :: rest) a w := by
  obtain ⟨i0, hi, hz0, hz1, hz2⟩ := info_parts Try.infoI
  exact wpList_append_own_at w hgd s x 51 ho base 3 i0 (.int .i64 0) 1 8 Try.underlying51 hi hz0 hz1 hz2 rfl (by decide) v n (ivals xs) hs hown ⟨g, 0, none⟩ ys.length c (ivals ys) hx (by rw [ivals_len]; omega)
    (by rw [← hcs]; exact World.news_of_block hg) (ivals_one ys) (by unfold maxLen; omega) (by omega) hbase fun v' w' h1 h2 _ h3 => h v' w' (by rw [ivals_app]; exact h1) h2 h3
theorem step_append_ints {w : World} {ops : Array Oper} {o : Oper} {a : Act} {K : Act → World → Prop} {Q : Exit → Act → World → Prop} {E : Prop} (hgd : o.guard = none) (s x : Operand)
    (ho : o.op = .call { callee := .builtin .append, args := #[s, x], argTypes := #[51, 51] })
    (base : Nat) (v : Value) (n : Nat) (xs : List Int) (hs : a.eval s = v) (hown : w.ownsRow base 3 1 v n (ivals xs))
    (g c : Nat) (ys : List Int) (cs : Array Value) (hx : a.eval x = .slice (some ⟨g, 0, none⟩) ys.length c) (hg : w.heap[g]? = some (.cells cs 3)) (hcs : cs.toList = ivals ys)
    (h0 : 0 < ys.length) (h63 : n + ys.length ≤ 1000000) (hbase : base ≤ w.heap.size)
    (h : ∀ v' w', w'.ownsRow base 3 1 v' (n + ys.length) (ivals (xs ++ ys)) → w.grownBy w' v.ownBlock → K (a.put o.dst v') w') :
    if Region.wanted o (yielded ops a.tmps) = true then Oper.wp Try.prog o a w K Q else E := by
  obtain ⟨i0, hi, hz0, hz1, hz2⟩ := info_parts Try.infoI
  exact step_append_lies w hgd s x 51 ho base 3 i0 (.int .i64 0) 1 8 Try.underlying51 hi hz0 hz1 hz2 rfl (by decide) v n (ivals xs) hs hown ⟨g, 0, none⟩ ys.length c (ivals ys) hx (by rw [ivals_len]; omega)
    (by rw [← hcs]; exact World.news_of_block hg) (ivals_one ys) h0 (by unfold maxLen; omega) (by omega) hbase w.heap.size rfl fun g cap w' h1 h2 _ _ => h _ w' (by rw [ivals_app]; exact h1) h2

theorem take_nd {F : Gr} {k : Nat} (h : k < F.length) : F.take (k + 1) = F.take k ++ [nd F k] := by
  rw [List.take_succ_eq_append_getElem h]
  have := nd_get h
  rw [List.getElem?_eq_getElem h] at this
  rw [Option.some.inj this]
theorem take_ar {L : List Arc} {k : Nat} (h : k < L.length) : L.take (k + 1) = L.take k ++ [ar L k] := by
  rw [List.take_succ_eq_append_getElem h]
  have := ar_get h
  rw [List.getElem?_eq_getElem h] at this
  rw [Option.some.inj this]
/-- The numbers of the first k nodes, and of j arcs of the next one. -/
def numsAt (F : Gr) (k : Nat) : List Int := (F.length : Int) :: (F.take k).flatMap flN
def numsIn (F : Gr) (k j : Nat) : List Int := numsAt F k ++ ((nd F k).1 :: ((nd F k).2.length : Int) :: ((nd F k).2.take j).flatMap flA)
theorem numsAt_all (F : Gr) : numsAt F F.length = nums F := by unfold numsAt nums; rw [List.take_length]
theorem numsIn_zero (F : Gr) (k : Nat) : numsIn F k 0 = numsAt F k ++ [(nd F k).1, ((nd F k).2.length : Int)] := by unfold numsIn; simp
theorem numsIn_succ {F : Gr} {k j : Nat} (h : j < (nd F k).2.length) : numsIn F k (j + 1) = numsIn F k j ++ [(ar (nd F k).2 j).1, (ar (nd F k).2 j).2] := by
  unfold numsIn
  rw [take_ar h, List.flatMap_append]
  simp [flA]
theorem numsIn_all {F : Gr} {k : Nat} (h : k < F.length) : numsIn F k (nd F k).2.length = numsAt F (k + 1) := by
  unfold numsIn numsAt
  rw [take_nd h, List.flatMap_append, List.take_length]
  simp [flN]
theorem numsAt_le {F : Gr} {k : Nat} : (numsAt F k).length ≤ (nums F).length := by
  unfold numsAt nums
  conv => rhs; rw [← List.take_append_drop k F]
  rw [List.flatMap_append]
  simp
theorem numsIn_le {F : Gr} {k j : Nat} (h : k < F.length) : (numsIn F k j).length ≤ (nums F).length := by
  refine Nat.le_trans ?_ (numsAt_le (k := k + 1))
  rw [← numsIn_all h]
  unfold numsIn
  have e := congrArg (fun l => (l.flatMap flA).length) (List.take_append_drop j (nd F k).2)
  simp only [List.flatMap_append, List.length_append] at e
  rw [List.length_append, List.length_append, List.take_length, List.length_cons, List.length_cons, List.length_cons, List.length_cons]
  omega

set_option maxRecDepth 100000 in
set_option maxHeartbeats 1600000 in
theorem numbers_any (w : World) (a : Option Addr) (n cap : Nat) (F : Gr) (h : IsG w a n cap F) (hb6 : (nums F).length ≤ 1000000) :
    Calls Try.prog 38 #[.agg #[.slice a n cap]] w fun e w' => ∃ aa cc, e = .returned (.slice aa (nums F).length cc) ∧ IsInts w' aa (nums F).length cc (nums F) ∧ Below w.heap.size w w' := by
  have hm := h.maxLe
  have hc := h.capLe
  have hl := h.len
  unfold maxLen at hm
  obtain ⟨W, hW⟩ : ∃ W, w.alloc (.cells #[.slice a n cap] 25) = W := ⟨_, rfl⟩
  have B := Lib.hid (show Below w.heap.size w W from hW ▸ ba w _)
  have hwz : w.heap.size < W.heap.size := by rw [← hW]; simp
  have hbox : W.cell? ⟨w.heap.size, 0, none⟩ = some (.slice a n cap) := hW ▸ box_cell w _ _
  have H := Lib.hid (h.below B.out)
  have HL := Lib.hid hl
  have hown1 : (W.alloc (.cells #[.int .i64 (n : Int)] 3)).ownsRow W.heap.size 3 1 (.slice (some ⟨W.heap.size, 0, none⟩) 1 1) 1 (ivals (numsAt F 0)) := by
    unfold numsAt
    rw [hl]
    exact ⟨rfl, .inr ⟨W.heap.size, 1, #[.int .i64 (n : Int)], rfl, Nat.le_refl _, heap_alloc_new W _, Nat.le_refl _, by unfold maxLen; omega, rfl, rfl⟩⟩
  have HO := Lib.hid hown1
  have B6 := Lib.hid hb6
  clear h hl hown1 hb6
  go_enter Try.func38, Try.ntmps38
  go_wp2
  (try rw [hW])
  clear hW
  go_loopw [3, 4] (fun o v wr => ∃ k : Nat, k ≤ n ∧ v = .int .i64 k ∧ Hid (wr.ownsRow W.heap.size 3 1 o (numsAt F k).length (ivals (numsAt F k))) ∧ Hid (Below W.heap.size W wr)) (fun _ v _ => n - (intOf v).toNat)
  case atStart => exact ⟨0, Nat.zero_le _, rfl, HO.out, ba _ _⟩
  case round =>
    clear HO
    obtain ⟨k, hk, rfl, hrow, hB⟩ := hrel
    have hbx : wr.cell? ⟨w.heap.size, 0, none⟩ = some (.slice a n cap) := (hB.out.cell (p := ⟨w.heap.size, 0, none⟩) hwz).trans hbox
    have hws := hB.out.size
    by_cases hlt : k < n
    · obtain ⟨b, off, rfl, hbl, hx⟩ := H.out.at_ (by omega)
      obtain ⟨xa, xc, hd⟩ := hx k hlt
      have hd2 := hd.below hbl hB.out
      have c0 := hd2.c0
      have c1 := hd2.c1
      have IS := Lib.hid hd.is
      have hs1 := hd.is.capLe
      have hs2 := hd.is.maxLe
      unfold maxLen at hs2
      have HZ := Lib.hid (numsIn_zero F k)
      have HN := Lib.hid (fun j (hj : j < (nd F k).2.length) => numsIn_succ (F := F) (k := k) hj)
      have HA := Lib.hid (numsIn_all (F := F) (k := k) (by rw [HL.out]; exact hlt))
      have HLE := Lib.hid (fun j => Nat.le_trans (numsIn_le (F := F) (k := k) (j := j) (by rw [HL.out]; exact hlt)) B6.out)
      have hle0 : (numsAt F k).length + 2 ≤ 1000000 := by
        have := HLE.out 0
        rw [HZ.out, List.length_append] at this
        simpa using this
      obtain ⟨x, hxe⟩ : ∃ x, nd F k = x := ⟨_, rfl⟩
      rw [hxe] at c0 c1 IS hs1 HZ HN HA
      obtain ⟨l, hle⟩ : ∃ l, numsAt F k = l := ⟨_, rfl⟩
      rw [hle] at hrow hle0 HZ
      clear hx hd hd2 hxe hle
      go_wp2_with (at_builtin; refine wpList_append_ints (w := wr.alloc (.cells #[.int .i64 x.1, .int .i64 (x.2.length : Int)] 3)) rfl _ _ rfl W.heap.size _ _ l rfl (hrow.out.alloc _) wr.heap.size 2 [x.1, (x.2.length : Int)] #[.int .i64 x.1, .int .i64 (x.2.length : Int)] rfl (heap_alloc_new wr _) rfl hle0 (by simp; omega) ?_; intro v2 w2 hown hgrow _; have O2 := Lib.hid hown; have B2 := Lib.hid (grown_below (hB.out.alloc hws _) (by simp; omega) (hrow.out.alloc _) hgrow); clear hown hgrow)
      have O3 : Hid (w2.ownsRow W.heap.size 3 1 v2 (numsIn F k 0).length (ivals (numsIn F k 0))) := by
        show w2.ownsRow _ _ _ _ _ _
        rw [HZ.out, List.length_append]
        exact O2.out
      clear O2 hrow hB hbx c0 c1 hws
      go_loopw [3, 6] (fun o v wi => ∃ j : Nat, j ≤ x.2.length ∧ v = .int .i64 j ∧ Hid (wi.ownsRow W.heap.size 3 1 o (numsIn F k j).length (ivals (numsIn F k j))) ∧ Hid (Below W.heap.size W wi)) (fun _ v _ => x.2.length - (intOf v).toNat)
      case atStart => exact ⟨0, Nat.zero_le _, rfl, O3.out, B2.out⟩
      case round =>
        clear O3
        obtain ⟨j, hj, rfl, hrow, hB⟩ := hrel
        have hwi := hB.out.size
        by_cases hjl : j < x.2.length
        · obtain ⟨b2, off2, rfl, hbl2, hx2⟩ := IS.out.at_ (by omega)
          have hx3 := hx2 j hjl
          have hq := HLE.out (j + 1)
          have HS := Lib.hid (HN.out j hjl)
          rw [HS.out, List.length_append] at hq
          have hq2 : (numsIn F k j).length + 2 ≤ 1000000 := hq
          obtain ⟨y, hye⟩ : ∃ y, ar x.2 j = y := ⟨_, rfl⟩
          rw [hye] at hx3 HS
          have DD := Lib.hid (fun (V : World) (hV : Below W.heap.size W V) => (⟨(hV.cell (p := ⟨b2, off2 + j * 2, none⟩) hbl2).trans hx3.1, (hV.cell (p := ⟨b2, off2 + j * 2 + 1, none⟩) hbl2).trans hx3.2⟩ : V.cell? ⟨b2, off2 + j * 2, none⟩ = some (.int .i64 y.1) ∧ V.cell? ⟨b2, off2 + j * 2 + 1, none⟩ = some (.int .i64 y.2)))
          obtain ⟨d0, d1⟩ := DD.out wr hB.out
          obtain ⟨l2, hl2⟩ : ∃ l, numsIn F k j = l := ⟨_, rfl⟩
          rw [hl2] at hrow hq2 HS
          have hj0 : (0 : Int) ≤ (j : Int) := by omega
          have hj1 : (j : Int) < (x.2.length : Int) := by omega
          have AL := Lib.hid (((hrow.out.alloc (.cells #[.int .i64 y.1, .int .i64 y.2] 3))).drew)
          have BB := Lib.hid (hB.out.alloc hwi (.cells #[.int .i64 y.1, .int .i64 y.2] 3)).drew
          clear hx2 hx3 hye hl2 hq
          go_wp2_with fail
          go_region_held3 (fun w' => w'.cell? ⟨b2, off2 + j * 2, none⟩ = some (.int .i64 y.1) ∧ w'.cell? ⟨b2, off2 + j * 2 + 1, none⟩ = some (.int .i64 y.2)) (first | exact ⟨d0, d1⟩ | go_keep | exact DD.out _ BB.out | exact DD.out _ B4.out) ((first | (refine step_append_ints (by rfl) _ _ (by rfl) W.heap.size _ _ l2 (by rfl) AL.out wr.heap.size 2 [y.1, y.2] #[.int .i64 y.1, .int .i64 y.2] (by rfl) (heap_alloc_new wr _) (by rfl) (by simp) hq2 (by simp; omega) ?_; intro v3 w3 hown hgrow; have O4 := Lib.hid hown; have B4 := Lib.hid (grown_below BB.out (by simp; omega) AL.out hgrow); clear hown hgrow)))
          go_wp2
          go_roundw
          case rel => exact ⟨j + 1, by omega, by go_num, by rw [HS.out, List.length_append]; exact O4.out, B4.out⟩
          case measure => simp [intOf]; omega
        · obtain rfl : j = x.2.length := by omega
          rw [HA.out] at hrow
          go_wp2
          go_roundw
          case rel => exact ⟨k + 1, by omega, by go_num, hrow.out, hB.out⟩
          case measure => simp [intOf]; omega
    · obtain rfl : n = k := by omega
      obtain ⟨aa, cc, rfl, hI⟩ := IsInts.of_owns hrow.out
      have e : numsAt F n = nums F := by rw [← HL.out]; exact numsAt_all F
      rw [e] at hI ⊢
      have HI := Lib.hid hI
      clear hrow hI e
      go_wp2
      go_ret
      exact ⟨aa, cc, rfl, HI.out, B.out.trans (hB.out.mono B.out.size)⟩
end Go.Proofs.Ytlhiiecaphibhaa

/- graph: maps whose keys are numbers; examine. -/
namespace Go.Proofs.Ytlhiiecaphibhaa
open Go.RowKit Go.Maps

def raw (v : Value) : Option (DataW Value × List MemPlace) := some (.held v, [])
def un : DataW Value → Value | .held v => v | _ => undef
def mget (D : DataW Value) (x : Int) (z : Value) : Value := un (D.atKey (.int .i64 x) (.held z))
def mhas (D : DataW Value) (x : Int) : Bool := Maps.has D (.int .i64 x)
def mput (D : DataW Value) (x : Int) (v : Value) : DataW Value := D.put (.int .i64 x) (.held v)
theorem lawI : Keyed Try.prog 3 := int_keyed Try.underlying3
theorem key_int (x : Int) : WideAt.IsKeyLit (.int .i64 x) := trivial
theorem keyI {x : Int} (hx : R64 x) : keyOf Try.prog 3 (.int .i64 x) = some (.int .i64 x) := by
  have hw : (Lit.int IntKind.i64 x).wf = true := by
    simp [Lit.wf, IntKind.min, IntKind.max, IntKind.bits, IntKind.signed]
    exact hx
  simp [keyOf, mapKey, Try.underlying3, hw]
theorem mget_put {D : DataW Value} (h : IsMap D) (x y : Int) (v z : Value) : mget (mput D y v) x z = if x = y then v else mget D x z := by
  unfold mget mput
  by_cases e : x = y
  · rw [if_pos e, e, atKey_put_same h (key_int y)]; rfl
  · rw [if_neg e, atKey_put_other (fun g => e (by injection g))]
theorem mhas_put {D : DataW Value} (h : IsMap D) (x y : Int) (v : Value) : mhas (mput D y v) x = (x == y || mhas D x) := by
  unfold mhas mput
  by_cases e : x = y
  · rw [e, has_put_same h (key_int y)]; simp
  · rw [has_put_other (fun g => e (by injection g))]
    have : (x == y) = false := by simpa using e
    rw [this]; rfl
theorem mhas_empty (x : Int) : mhas (.map []) x = false := rfl
theorem mget_empty (x : Int) (z : Value) : mget (.map []) x z = z := rfl

section
variable {w : World} {ops : Array Oper} {rest : List Oper} {o : Oper} {a : Act} {Q : Exit → Act → World → Prop}
/-- m[x], without ok. -/
theorem wpList_lookup_raw (hg : o.guard = none) (m x : Operand) (t : TypeId) (hop : o.op = Op.lookup t m x false)
    (e : TypeId) (ht : Try.prog.underlying t = some (.map 3 e)) {z : Value} (hz : (zeroValue e).run Try.prog w = .ok z w) (b n : Nat) (D : DataW Value)
    (hm : a.eval m = .map (some b)) (hown : w.ownsMap Try.prog 3 raw b n D) (s : Int) (hx : a.eval x = .int .i64 s) (hs : R64 s)
    (hK : wpList Try.prog ops Q rest (a.put o.dst (mget D s z)) w) : wpList Try.prog ops Q (o :: rest) a w := by
  refine wpList_plain hg fun K' hK' => ?_
  obtain ⟨v, ps, hrun, hv⟩ := hown.lookup lawI ht hz (zd := .held z) (zp := []) rfl (keyI hs)
  have e1 : mget D s z = v := by
    unfold mget
    unfold raw at hv
    have := congrArg (fun y : DataW Value × List MemPlace => y.1) (Option.some.inj hv)
    simp only at this
    rw [← this]; rfl
  rw [e1] at hK
  unfold Oper.wp
  simp [execOp, hop, hm, hx, hrun, Result.andThen]
  exact hK' _ _ hK
/-- v, ok := m[x]. -/
theorem wpList_lookup_raw_ok (hg : o.guard = none) (m x : Operand) (t : TypeId) (hop : o.op = Op.lookup t m x true)
    (e : TypeId) (ht : Try.prog.underlying t = some (.map 3 e)) {z : Value} (hz : (zeroValue e).run Try.prog w = .ok z w) (b n : Nat) (D : DataW Value)
    (hm : a.eval m = .map (some b)) (hown : w.ownsMap Try.prog 3 raw b n D) (s : Int) (hx : a.eval x = .int .i64 s) (hs : R64 s)
    (hK : wpList Try.prog ops Q rest (a.put o.dst (.tuple #[mget D s z, .bool (mhas D s)])) w) : wpList Try.prog ops Q (o :: rest) a w :=
  wpList_lookup_own_ok w hg m x t hop 3 e lawI ht raw hz (.held z) [] rfl b n D hm hown (.int .i64 s) (.int .i64 s) hx (keyI hs) fun v ps hv => by
    have e1 : mget D s z = v := by
      unfold mget
      unfold raw at hv
      have := congrArg (fun y : DataW Value × List MemPlace => y.1) (Option.some.inj hv)
      simp only at this
      rw [← this]; rfl
    rw [e1] at hK
    exact hK
/-- m[x] = v. -/
theorem wpList_update_raw (hg : o.guard = none) (m x v : Operand) (t : TypeId) (hop : o.op = Op.mapUpdate t m x v)
    (e : TypeId) (ht : Try.prog.underlying t = some (.map 3 e)) (b n : Nat) (D : DataW Value)
    (hm : a.eval m = .map (some b)) (hown : w.ownsMap Try.prog 3 raw b n D) (hn : n < 1000000) (s : Int) (val : Value) (hx : a.eval x = .int .i64 s) (hs : R64 s) (hv : a.eval v = val)
    (hK : ∀ w', w'.ownsMap Try.prog 3 raw b (n + 1) (mput D s val) → w.grownBy w' (some b) → wpList Try.prog ops Q rest (a.put o.dst undef) w') : wpList Try.prog ops Q (o :: rest) a w :=
  wpList_mapUpdate_own w hg m x v t hop 3 e lawI ht raw b n D hm hown (by unfold maxLen; omega) (.int .i64 s) val (.int .i64 s) hx hv (keyI hs) (.held val) [] rfl hK
end
theorem owns_isMap {w : World} {b n : Nat} {D : DataW Value} (h : w.ownsMap Try.prog 3 raw b n D) : IsMap D := by
  obtain ⟨es, clock, _, _, _, rfl⟩ := h; exact ⟨_, rfl⟩
theorem map_below {w w' : World} {b n : Nat} {D : DataW Value} (h : w.ownsMap Try.prog 3 raw b n D) (hb : Below w.heap.size w w') : w'.ownsMap Try.prog 3 raw b n D := by
  have hlt := h.lt
  obtain ⟨es, clock, he, F, hs, hD⟩ := h
  exact ⟨es, clock, (hb.block b hlt).trans he, F, hs, hD⟩
theorem map_apart {w w' : World} {b n : Nat} {D : DataW Value} {row : Option Nat} (h : w.ownsMap Try.prog 3 raw b n D) (hg : w.grownBy w' row) (hr : row ≠ some b) : w'.ownsMap Try.prog 3 raw b n D := by
  have hlt := h.lt
  obtain ⟨es, clock, he, F, hs, hD⟩ := h
  exact ⟨es, clock, (hg.block b hlt (fun e => hr e.symm)).trans he, F, hs, hD⟩
theorem run_makeMapN {t k e : TypeId} (ht : Try.prog.underlying t = some (.map k e)) (x : Int) (w : World) : (Instr.makeMap t (some (.int .i64 x))).run Try.prog w = .ok (.map (some w.heap.size)) (w.alloc (.map #[] 0)) := by
  simp [Instr.makeMap, run_underlying ht, asInt, Result.andThen]
  rfl
theorem zeroB (w : World) : (zeroValue 4).run Try.prog w = .ok (.bool false) w := by kernel_rfl
theorem zeroI (w : World) : (zeroValue 3).run Try.prog w = .ok (.int .i64 0) w := by kernel_rfl

/-! ### The error of Canon -/
def arE (n : Nat) : List Int → List Arc → Nat
  | _, [] => 0
  | seen, x :: l => if x.1 < 0 ∨ x.2 < 0 ∨ (n : Int) ≤ x.2 then 2 else if x.1 ∈ seen then 4 else arE n (seen ++ [x.1]) l
def ndE (n : Nat) : List Nd → Nat
  | [] => 0
  | x :: l => if x.1 < 0 then 2 else if arE n [] x.2 ≠ 0 then arE n [] x.2 else ndE n l
def frm (F : Gr) : Nat := if F.length = 0 then 1 else if 4096 < F.length then 7 else ndE F.length F
/-- The arcs of a node that Canon accepts. -/
def OkA (n : Nat) (l : List Arc) : Prop := (∀ x ∈ l, 0 ≤ x.1 ∧ 0 ≤ x.2 ∧ x.2 < (n : Int)) ∧ Dif l
theorem arE_iff (n : Nat) : ∀ (l : List Arc) (seen : List Int), arE n seen l = 0 ↔ (∀ x ∈ l, (0 ≤ x.1 ∧ 0 ≤ x.2 ∧ x.2 < (n : Int)) ∧ x.1 ∉ seen) ∧ Dif l
  | [], seen => by simp [arE, Dif]
  | x :: l, seen => by
    unfold arE
    by_cases h1 : x.1 < 0 ∨ x.2 < 0 ∨ (n : Int) ≤ x.2
    · rw [if_pos h1]
      constructor
      · intro h; cases h
      · rintro ⟨h, _⟩
        have := (h x List.mem_cons_self).1
        omega
    · rw [if_neg h1]
      by_cases h2 : x.1 ∈ seen
      · rw [if_pos h2]
        constructor
        · intro h; cases h
        · rintro ⟨h, _⟩
          exact absurd h2 (h x List.mem_cons_self).2
      · rw [if_neg h2, arE_iff n l]
        constructor
        · rintro ⟨h, hd⟩
          refine ⟨fun y hy => ?_, ?_⟩
          · rcases List.mem_cons.1 hy with rfl | hy
            · exact ⟨by omega, h2⟩
            · exact ⟨(h y hy).1, fun g => (h y hy).2 (List.mem_append_left _ g)⟩
          · refine List.nodup_cons.2 ⟨fun g => ?_, hd⟩
            obtain ⟨y, hy, e⟩ := List.mem_map.1 g
            exact (h y hy).2 (by rw [e]; simp)
        · rintro ⟨h, hd⟩
          obtain ⟨k1, k2⟩ := List.nodup_cons.1 (show (x.1 :: l.map Prod.fst).Nodup from hd)
          refine ⟨fun y hy => ⟨(h y (List.mem_cons_of_mem _ hy)).1, fun g => ?_⟩, k2⟩
          rcases List.mem_append.1 g with g | g
          · exact (h y (List.mem_cons_of_mem _ hy)).2 g
          · have e : y.1 = x.1 := by simpa using g
            exact k1 (e ▸ List.mem_map_of_mem hy)
theorem arE_ok {n : Nat} {l : List Arc} : arE n [] l = 0 ↔ OkA n l := by
  rw [arE_iff]; unfold OkA; simp
theorem ndE_iff (n : Nat) : ∀ l : List Nd, ndE n l = 0 ↔ ∀ x ∈ l, 0 ≤ x.1 ∧ OkA n x.2
  | [] => by simp [ndE]
  | x :: l => by
    unfold ndE
    by_cases h1 : x.1 < 0
    · rw [if_pos h1]
      constructor
      · intro h; cases h
      · intro h; have := (h x List.mem_cons_self).1; omega
    · rw [if_neg h1]
      by_cases h2 : arE n [] x.2 = 0
      · rw [if_neg (by rw [h2]; simp), ndE_iff n l]
        constructor
        · intro h y hy
          rcases List.mem_cons.1 hy with rfl | hy
          · exact ⟨by omega, arE_ok.1 h2⟩
          · exact h y hy
        · exact fun h y hy => h y (List.mem_cons_of_mem _ hy)
      · rw [if_pos h2]
        constructor
        · intro h; exact absurd h h2
        · intro h; exact absurd (arE_ok.2 (h x List.mem_cons_self).2) h2
/-- A graph that Canon accepts. -/
structure OkG (F : Gr) : Prop where
  pos : 0 < F.length
  le : F.length ≤ 4096
  node : ∀ x ∈ F, 0 ≤ x.1 ∧ OkA F.length x.2
theorem frm_ok {F : Gr} : frm F = 0 ↔ OkG F := by
  unfold frm
  by_cases h1 : F.length = 0
  · rw [if_pos h1]; exact ⟨fun h => (by cases h), fun h => (by have := h.pos; omega)⟩
  · rw [if_neg h1]
    by_cases h2 : 4096 < F.length
    · rw [if_pos h2]; exact ⟨fun h => (by cases h), fun h => (by have := h.le; omega)⟩
    · rw [if_neg h2, ndE_iff]
      exact ⟨fun h => ⟨by omega, by omega, h⟩, fun h => h.node⟩
theorem drop_ar {l : List Arc} {i : Nat} (h : i < l.length) : l.drop i = ar l i :: l.drop (i + 1) := by
  rw [List.drop_eq_getElem_cons h]
  have := ar_get h
  rw [List.getElem?_eq_getElem h] at this
  rw [Option.some.inj this]
theorem drop_nd {l : Gr} {i : Nat} (h : i < l.length) : l.drop i = nd l i :: l.drop (i + 1) := by
  rw [List.drop_eq_getElem_cons h]
  have := nd_get h
  rw [List.getElem?_eq_getElem h] at this
  rw [Option.some.inj this]
end Go.Proofs.Ytlhiiecaphibhaa

/- graph: examine of the program. -/
namespace Go.Proofs.Ytlhiiecaphibhaa
open Go.RowKit Go.Maps

theorem ite_boolI (x y : Int) (p : Bool) : (if x = y then Value.bool true else .bool p) = .bool (x == y || p) := by
  by_cases h : x = y
  · rw [if_pos h, h]; simp
  · rw [if_neg h]
    have : (x == y) = false := by simpa using h
    rw [this]; rfl
def fts (L : List Arc) : List Int := L.map Prod.fst
def inI (l : List Int) (x : Int) : Bool := decide (x ∈ l)
theorem inI_iff {l : List Int} {x : Int} : inI l x = true ↔ x ∈ l := by simp [inI]
theorem inI_snoc (l : List Int) (x y : Int) : inI (l ++ [y]) x = (x == y || inI l x) := by
  rw [Bool.eq_iff_iff, inI_iff, List.mem_append, Bool.or_eq_true, inI_iff, beq_iff_eq, List.mem_singleton]
  exact Or.comm
theorem fts_succ {L : List Arc} {k : Nat} (h : k < L.length) : fts (L.take (k + 1)) = fts (L.take k) ++ [(ar L k).1] := by
  unfold fts; rw [take_ar h]; simp

set_option maxRecDepth 100000 in
set_option maxHeartbeats 1600000 in
theorem examineArcs_any (w : World) (a : Option Addr) (n cap N : Nat) (L : List Arc) (h : IsArcs w a n cap L) (hn : n ≤ 100000) :
    Calls Try.prog 41 #[.slice a n cap, .int .i64 N] w fun e w' => e = .returned (.int .i64 ((arE N [] L : Nat) : Int)) ∧ Below w.heap.size w w' := by
  have hm := h.maxLe
  have hc := h.capLe
  unfold maxLen at hm
  have HL := Lib.hid h.len
  have H := Lib.hid h
  clear h
  have hmm := fun x w => run_makeMapN Try.underlying70 x w
  go_enter Try.func41, Try.ntmps41
  go_wp2
  clear hmm
  go_loopw [13] (fun v wr => ∃ (k : Nat) (M : DataW Value), k ≤ n ∧ v = .int .i64 k ∧ Hid (wr.ownsMap Try.prog 3 raw w.heap.size k M) ∧ Hid (∀ x, mget M x (.bool false) = .bool (inI (fts (L.take k)) x)) ∧ Hid (arE N [] L = arE N (fts (L.take k)) (L.drop k)) ∧ Hid (Below w.heap.size w wr)) (fun v _ => n - (intOf v).toNat)
  case atStart => exact ⟨0, .map [], Nat.zero_le _, rfl, World.ownsMap_made _ _ _ _, fun x => rfl, rfl, (Below.refl _ _).alloc (Nat.le_refl _) _⟩
  case round =>
    obtain ⟨k, M, hk, rfl, hown, hM, hE, hB⟩ := hrel
    by_cases hlt : k < n
    · obtain ⟨b, off, rfl, hbl, hx⟩ := (H.out.below hB.out).at_ (by omega)
      obtain ⟨c0, c1⟩ := hx k hlt
      have hkl : k < L.length := by rw [HL.out]; exact hlt
      have HS := Lib.hid (fts_succ hkl)
      have HR := Lib.hid (H.out.rng _ (ar_mem hkl))
      have HMX := Lib.hid (hM.out (ar L k).1)
      have HE2 : Hid (arE N [] L = if (ar L k).1 < 0 ∨ (ar L k).2 < 0 ∨ (N : Int) ≤ (ar L k).2 then 2 else if (ar L k).1 ∈ fts (L.take k) then 4 else arE N (fts (L.take k) ++ [(ar L k).1]) (L.drop (k + 1))) := by
        show _ = _
        rw [hE.out, drop_ar hkl]; rfl
      obtain ⟨x, hxe⟩ : ∃ x, ar L k = x := ⟨_, rfl⟩
      rw [hxe] at c0 c1 HS HR HMX HE2
      have hsz := hB.out.size
      have BA := Lib.hid (hB.out.alloc hsz (.cells #[.int .i64 x.1, .int .i64 x.2] 45))
      have OA := Lib.hid (hown.out.alloc (.cells #[.int .i64 x.1, .int .i64 x.2] 45))
      clear hx hkl hxe hE
      by_cases g1 : x.1 < 0
      · have hr : Hid (arE N [] L = 2) := by show _ = _; rw [HE2.out, if_pos (.inl g1)]
        go_wp2
        go_ret
        exact ⟨by rw [hr.out]; rfl, BA.out⟩
      by_cases g2 : x.2 < 0
      · have hr : Hid (arE N [] L = 2) := by show _ = _; rw [HE2.out, if_pos (.inr (.inl g2))]
        go_wp2
        go_ret
        exact ⟨by rw [hr.out]; rfl, BA.out⟩
      by_cases g3 : (N : Int) ≤ x.2
      · have hr : Hid (arE N [] L = 2) := by show _ = _; rw [HE2.out, if_pos (.inr (.inr g3))]
        go_wp2
        go_ret
        exact ⟨by rw [hr.out]; rfl, BA.out⟩
      have HG : Hid ¬(x.1 < 0 ∨ x.2 < 0 ∨ (N : Int) ≤ x.2) := by show ¬ _; omega
      obtain ⟨p, hp⟩ : ∃ p, inI (fts (L.take k)) x.1 = p := ⟨_, rfl⟩
      rw [hp] at HMX
      cases p
      · have HNE := Lib.hid (show x.1 ∉ fts (L.take k) from fun h => by rw [inI_iff.2 h] at hp; cases hp)
        have hE' : Hid (arE N [] L = arE N (fts (L.take (k + 1))) (L.drop (k + 1))) := by show _ = _; rw [HE2.out, if_neg HG.out, if_neg HNE.out, HS.out]
        have hM' : Hid (∀ y, mget (mput M x.1 (.bool true)) y (.bool false) = .bool (inI (fts (L.take (k + 1))) y)) := fun y => by
          rw [mget_put (owns_isMap hown.out), hM.out, HS.out, inI_snoc, ite_boolI]
        clear hp HE2 hM
        go_wp2_with (first
          | (at_lookup; refine wpList_lookup_raw rfl _ _ 70 rfl 4 Try.underlying70 (zeroB _) w.heap.size k M rfl OA.out x.1 rfl HR.out ?_; rw [HMX.out])
          | (at_mapUpdate; refine wpList_update_raw rfl _ _ _ 70 rfl 4 Try.underlying70 w.heap.size k M rfl OA.out (by omega) x.1 (.bool true) rfl HR.out rfl ?_; intro w2 hown2 hgrow2; have HO2 := Lib.hid hown2; have HB2 := Lib.hid (BA.out.grown hgrow2 BA.out.size (fun j e => by cases e; exact Nat.le_refl _)); clear hown2 hgrow2))
        go_roundw
        case rel => exact ⟨k + 1, mput M x.1 (.bool true), by omega, by go_num, HO2.out, hM', hE', HB2.out⟩
        case measure => simp [intOf]; omega
      · have hr : Hid (arE N [] L = 4) := by show _ = _; rw [HE2.out, if_neg HG.out, if_pos (inI_iff.1 hp)]
        clear hp HE2 hM
        go_wp2_with (at_lookup; refine wpList_lookup_raw rfl _ _ 70 rfl 4 Try.underlying70 (zeroB _) w.heap.size k M rfl OA.out x.1 rfl HR.out ?_; rw [HMX.out])
        go_ret
        exact ⟨by rw [hr.out]; rfl, BA.out⟩
    · obtain rfl : n = k := by omega
      have hr : Hid (arE N [] L = 0) := by
        show _ = _
        rw [hE.out, List.drop_eq_nil_of_le (by rw [HL.out]; exact Nat.le_refl _)]; rfl
      clear hE hM
      go_wp2
      go_ret
      exact ⟨by rw [hr.out]; rfl, hB.out⟩
theorem examineArcs_val (e0 : Nat) (w : World) (a : Option Addr) (n cap N : Nat) (L : List Arc) (h : IsArcs w a n cap L) (hn : n ≤ 100000) (he : arE N [] L = e0) :
    Calls Try.prog 41 #[.slice a n cap, .int .i64 N] w fun e w' => e = .returned (.int .i64 (e0 : Int)) ∧ Below w.heap.size w w' := he ▸ examineArcs_any w a n cap N L h hn

set_option maxRecDepth 100000 in
set_option maxHeartbeats 1600000 in
theorem examine_any (w : World) (a : Option Addr) (n cap : Nat) (F : Gr) (h : IsG w a n cap F) (hA : ∀ x ∈ F, x.2.length ≤ 100000) :
    Calls Try.prog 30 #[.agg #[.slice a n cap]] w fun e w' => e = .returned (.int .i64 ((frm F : Nat) : Int)) ∧ Below w.heap.size w w' := by
  have hm := h.maxLe
  have hc := h.capLe
  unfold maxLen at hm
  obtain ⟨W, hW⟩ : ∃ W, w.alloc (.cells #[.slice a n cap] 25) = W := ⟨_, rfl⟩
  have B := Lib.hid (show Below w.heap.size w W from hW ▸ ba w _)
  have hwz : w.heap.size < W.heap.size := by rw [← hW]; simp
  have hbox : W.cell? ⟨w.heap.size, 0, none⟩ = some (.slice a n cap) := hW ▸ box_cell w _ _
  have H := Lib.hid (h.below B.out)
  have HL := Lib.hid h.len
  have HA := Lib.hid hA
  clear h hA
  by_cases z0 : n = 0
  · have hr : Hid (frm F = 1) := by show _ = _; unfold frm; rw [if_pos (by rw [HL.out]; exact z0)]
    subst z0
    go_enter Try.func30, Try.ntmps30
    go_wp2
    go_ret
    exact ⟨by rw [hr.out]; rfl, B.out⟩
  by_cases z1 : 4096 < n
  · have hr : Hid (frm F = 7) := by show _ = _; unfold frm; rw [if_neg (by rw [HL.out]; exact z0), if_pos (by rw [HL.out]; exact z1)]
    have z2 : ((n : Int) == 0) = false := by simp; omega
    go_enter Try.func30, Try.ntmps30
    go_wp2
    go_ret
    exact ⟨by rw [hr.out]; rfl, B.out⟩
  have HR : Hid (frm F = ndE n F) := by show _ = _; unfold frm; rw [if_neg (by rw [HL.out]; exact z0), if_neg (by rw [HL.out]; exact z1), HL.out]
  have z2 : ((n : Int) == 0) = false := by simp; omega
  go_enter Try.func30, Try.ntmps30
  go_wp2
  (try rw [hW])
  clear hW z2
  go_loopw [17] (fun v wr => ∃ k : Nat, k ≤ n ∧ v = .int .i64 k ∧ Hid (ndE n F = ndE n (F.drop k)) ∧ Hid (Below W.heap.size W wr)) (fun v _ => n - (intOf v).toNat)
  case atStart => exact ⟨0, Nat.zero_le _, rfl, rfl, Below.refl _ _⟩
  case round =>
    obtain ⟨k, hk, rfl, hE, hB⟩ := hrel
    have hbx : wr.cell? ⟨w.heap.size, 0, none⟩ = some (.slice a n cap) := (hB.out.cell (p := ⟨w.heap.size, 0, none⟩) hwz).trans hbox
    have hws := hB.out.size
    by_cases hlt : k < n
    · obtain ⟨b, off, rfl, hbl, hx⟩ := (H.out.below hB.out).at_ (by omega)
      obtain ⟨xa, xc, hd⟩ := hx k hlt
      have c0 := hd.c0
      have c1 := hd.c1
      have hkl : k < F.length := by rw [HL.out]; exact hlt
      have hs1 := hd.is.capLe
      have hs2 := hd.is.maxLe
      unfold maxLen at hs2
      have IS := Lib.hid hd.is
      have hl := HA.out _ (nd_mem hkl)
      have HE2 : Hid (ndE n F = if (nd F k).1 < 0 then 2 else if arE n [] (nd F k).2 ≠ 0 then arE n [] (nd F k).2 else ndE n (F.drop (k + 1))) := by
        show _ = _
        rw [hE.out, drop_nd hkl]; rfl
      obtain ⟨x, hxe⟩ : ∃ x, nd F k = x := ⟨_, rfl⟩
      rw [hxe] at c0 c1 IS hs1 hl HE2
      have BA := Lib.hid (hB.out.alloc hws (.cells #[.int .i64 x.1, .slice xa x.2.length xc] 43))
      have hbx2 : (wr.alloc (.cells #[.int .i64 x.1, .slice xa x.2.length xc] 43)).cell? ⟨w.heap.size, 0, none⟩ = some (.slice (some ⟨b, off, none⟩) n cap) := (World.cell?_alloc_lt _ _ _ (Nat.lt_of_lt_of_le hwz hws)).trans hbx
      clear hx hd hkl hxe hE
      by_cases g1 : x.1 < 0
      · have hr : Hid (frm F = 2) := by show _ = _; rw [HR.out, HE2.out, if_pos g1]
        go_wp2
        go_ret
        exact ⟨by rw [hr.out]; rfl, B.out.trans (BA.out.mono B.out.size)⟩
      obtain ⟨e0, he0⟩ : ∃ e0, arE n [] x.2 = e0 := ⟨_, rfl⟩
      have EX := Lib.hid (examineArcs_val e0 (wr.alloc (.cells #[.int .i64 x.1, .slice xa x.2.length xc] 43)) xa x.2.length xc n x.2 (IS.out.below (ba _ _)) hl he0)
      rw [he0] at HE2
      clear he0
      by_cases g2 : e0 = 0
      · have hE' : Hid (ndE n F = ndE n (F.drop (k + 1))) := by show _ = _; rw [HE2.out, if_neg g1, if_neg (by rw [g2]; simp)]
        subst g2
        clear HE2
        go_wp2_with (go_at_call 41; (with_reducible refine EX.out.mono ?_); rintro e w2 ⟨rfl, hb2⟩; have B2 := Lib.hid (BA.out.trans (hb2.mono BA.out.size)); clear hb2)
        go_roundw
        case rel => exact ⟨k + 1, by omega, by go_num, hE', B2.out⟩
        case measure => simp [intOf]; omega
      · have hr : Hid (frm F = e0) := by show _ = _; rw [HR.out, HE2.out, if_neg g1, if_pos g2]
        have hne : ((e0 : Int) != 0) = true := by simp; omega
        clear HE2
        go_wp2_with (go_at_call 41; (with_reducible refine EX.out.mono ?_); rintro e w2 ⟨rfl, hb2⟩; have B2 := Lib.hid (BA.out.trans (hb2.mono BA.out.size)); clear hb2)
        go_ret
        exact ⟨by rw [hr.out]; rfl, B.out.trans (B2.out.mono B.out.size)⟩
    · obtain rfl : n = k := by omega
      have hr : Hid (frm F = 0) := by
        show _ = _
        rw [HR.out, hE.out, List.drop_eq_nil_of_le (by rw [HL.out]; exact Nat.le_refl _)]; rfl
      clear hE
      go_wp2
      go_ret
      exact ⟨by rw [hr.out]; rfl, B.out.trans (hB.out.mono B.out.size)⟩
theorem examine_val (e0 : Nat) (w : World) (a : Option Addr) (n cap : Nat) (F : Gr) (h : IsG w a n cap F) (hA : ∀ x ∈ F, x.2.length ≤ 100000) (he : frm F = e0) :
    Calls Try.prog 30 #[.agg #[.slice a n cap]] w fun e w' => e = .returned (.int .i64 (e0 : Int)) ∧ Below w.heap.size w w' := he ▸ examine_any w a n cap F h hA
end Go.Proofs.Ytlhiiecaphibhaa

/- graph: form of the reference. -/
namespace Go.Proofs.Ytlhiiecaphibhaa
open Go.RowKit Go.Maps

theorem not_fts {L : List Arc} {k : Nat} {x : Int} (h : ∀ j, j < k → (ar L j).1 ≠ x) (hk : k ≤ L.length) : x ∉ fts (L.take k) := by
  intro hx
  unfold fts at hx
  obtain ⟨y, hy, e⟩ := List.mem_map.1 hx
  obtain ⟨j, hj, e2⟩ := List.getElem_of_mem hy
  rw [List.length_take] at hj
  have h1 := h j (by omega)
  rw [List.getElem_take] at e2
  have := ar_get (L := L) (i := j) (by omega)
  rw [List.getElem?_eq_getElem (by omega), e2] at this
  exact h1 (by rw [← Option.some.inj this]; exact e)
theorem yes_fts {L : List Arc} {k j : Nat} (hj : j < k) (hk : k ≤ L.length) : (ar L j).1 ∈ fts (L.take k) := by
  unfold fts
  refine List.mem_map_of_mem ?_
  refine List.mem_of_getElem? (i := j) ?_
  rw [List.getElem?_take_of_lt hj]
  exact ar_get (by omega)
set_option maxRecDepth 100000 in
set_option maxHeartbeats 1600000 in
theorem rarcs_any (w : World) (a : Option Addr) (n cap N : Nat) (L : List Arc) (h : IsArcs w a n cap L) :
    Calls Try.prog 42 #[.slice a n cap, .int .i64 N] w fun e w' => e = .returned (.int .i64 ((arE N [] L : Nat) : Int)) ∧ Below w.heap.size w w' := by
  have hm := h.maxLe
  have hc := h.capLe
  unfold maxLen at hm
  have HL := Lib.hid h.len
  have H := Lib.hid h
  clear h
  go_enter Try.func42, Try.ntmps42
  go_wp2
  go_loopw [5] (fun v wr => ∃ k : Nat, k ≤ n ∧ v = .int .i64 k ∧ Hid (arE N [] L = arE N (fts (L.take k)) (L.drop k)) ∧ Hid (Below w.heap.size w wr)) (fun v _ => n - (intOf v).toNat)
  case atStart => exact ⟨0, Nat.zero_le _, rfl, rfl, Below.refl _ _⟩
  case round =>
    obtain ⟨k, hk, rfl, hE, hB⟩ := hrel
    by_cases hlt : k < n
    · obtain ⟨b, off, rfl, hbl, hx0⟩ := H.out.at_ (by omega)
      have HX := Lib.hid (fun V (hV : Below w.heap.size w V) i (hi : i < n) => (⟨(hV.cell (p := ⟨b, off + i * 2, none⟩) hbl).trans (hx0 i hi).1, (hV.cell (p := ⟨b, off + i * 2 + 1, none⟩) hbl).trans (hx0 i hi).2⟩ : V.cell? ⟨b, off + i * 2, none⟩ = some (.int .i64 (ar L i).1) ∧ V.cell? ⟨b, off + i * 2 + 1, none⟩ = some (.int .i64 (ar L i).2)))
      obtain ⟨c0, c1⟩ := HX.out wr hB.out k hlt
      have hkl : k < L.length := by rw [HL.out]; exact hlt
      have HS := Lib.hid (fts_succ hkl)
      have HE2 : Hid (arE N [] L = if (ar L k).1 < 0 ∨ (ar L k).2 < 0 ∨ (N : Int) ≤ (ar L k).2 then 2 else if (ar L k).1 ∈ fts (L.take k) then 4 else arE N (fts (L.take k) ++ [(ar L k).1]) (L.drop (k + 1))) := by
        show _ = _
        rw [hE.out, drop_ar hkl]; rfl
      have HNF := Lib.hid (fun h => not_fts (L := L) (k := k) (x := (ar L k).1) h (Nat.le_of_lt hkl))
      have HYF := Lib.hid (fun j (hj : j < k) => yes_fts (L := L) hj (Nat.le_of_lt hkl))
      have HXK := Lib.hid (fun V hV => HX.out V hV k hlt)
      obtain ⟨x, hxe⟩ : ∃ x, ar L k = x := ⟨_, rfl⟩
      rw [hxe] at c0 c1 HS HE2 HNF HXK
      have hi0 : (0 : Int) ≤ (k : Int) := by omega
      have hi1 : (k : Int) < (n : Int) := by omega
      clear hx0 hkl hxe hE
      by_cases g1 : x.1 < 0
      · have hr : Hid (arE N [] L = 2) := by show _ = _; rw [HE2.out, if_pos (.inl g1)]
        go_wp2
        go_ret
        exact ⟨by rw [hr.out]; rfl, hB.out⟩
      by_cases g2 : x.2 < 0
      · have hr : Hid (arE N [] L = 2) := by show _ = _; rw [HE2.out, if_pos (.inr (.inl g2))]
        go_wp2
        go_ret
        exact ⟨by rw [hr.out]; rfl, hB.out⟩
      by_cases g3 : (N : Int) ≤ x.2
      · have hr : Hid (arE N [] L = 2) := by show _ = _; rw [HE2.out, if_pos (.inr (.inr g3))]
        go_wp2
        go_ret
        exact ⟨by rw [hr.out]; rfl, hB.out⟩
      have HG : Hid ¬(x.1 < 0 ∨ x.2 < 0 ∨ (N : Int) ≤ x.2) := by show ¬ _; omega
      go_wp2
      clear g1 g2 g3 c0 c1
      go_loopw [6] (fun v wi => ∃ j : Nat, j ≤ k ∧ v = .int .i64 j ∧ Hid (∀ i, i < j → (ar L i).1 ≠ x.1) ∧ Hid (Below w.heap.size w wi)) (fun v _ => k - (intOf v).toNat)
      case atStart => exact ⟨0, Nat.zero_le _, rfl, fun i hi => absurd hi (Nat.not_lt_zero _), hB.out⟩
      case round =>
        clear hB
        obtain ⟨j, hj, rfl, hall, hB⟩ := hrel
        by_cases hjk : j < k
        · obtain ⟨d0, _⟩ := HX.out wr hB.out j (by omega)
          obtain ⟨c0, _⟩ := HXK.out wr hB.out
          have hj0 : (0 : Int) ≤ (j : Int) := by omega
          have hj1 : (j : Int) < (n : Int) := by omega
          have HY := Lib.hid (HYF.out j hjk)
          have BD := Lib.hid hB.out.drew
          obtain ⟨y, hye⟩ : ∃ y, (ar L j).1 = y := ⟨_, rfl⟩
          have HYE := Lib.hid hye
          rw [hye] at d0 HY
          clear hye
          by_cases hq : y = x.1
          · have hr : Hid (arE N [] L = 4) := by show _ = _; rw [HE2.out, if_neg HG.out, if_pos (hq ▸ HY.out)]
            obtain ⟨f, hf⟩ : ∃ f, x.1 = f := ⟨_, rfl⟩
            rw [hf] at hq c0
            subst hq
            clear hf
            go_wp2_with fail
            go_region_held3 (fun w' => w'.cell? ⟨b, off + j * 2, none⟩ = some (.int .i64 y) ∧ w'.cell? ⟨b, off + k * 2, none⟩ = some (.int .i64 y)) (first | exact ⟨d0, c0⟩ | go_keep) ((first | fail))
            go_wp2
            go_ret
            exact ⟨by rw [hr.out]; rfl, BD.out⟩
          · have hall' : Hid (∀ i, i < j + 1 → (ar L i).1 ≠ x.1) := fun i hi => by
              rcases Nat.lt_succ_iff_lt_or_eq.1 hi with e | e
              · exact hall.out i e
              · rw [e, HYE.out]; exact hq
            have hne : (y == x.1) = false := by simpa using hq
            clear hall
            go_wp2_with fail
            go_region_held3 (fun w' => w'.cell? ⟨b, off + j * 2, none⟩ = some (.int .i64 y) ∧ w'.cell? ⟨b, off + k * 2, none⟩ = some (.int .i64 x.1)) (first | exact ⟨d0, c0⟩ | go_keep) ((first | fail))
            go_wp2
            go_roundw
            case rel => exact ⟨j + 1, by omega, by go_num, hall', BD.out⟩
            case measure => simp [intOf]; omega
        · obtain rfl : j = k := by omega
          have hE' : Hid (arE N [] L = arE N (fts (L.take (j + 1))) (L.drop (j + 1))) := by show _ = _; rw [HE2.out, if_neg HG.out, if_neg (HNF.out hall.out), HS.out]
          clear hall
          go_wp2
          go_roundw
          case rel => exact ⟨j + 1, by omega, by go_num, hE', hB.out⟩
          case measure => simp [intOf]; omega
    · obtain rfl : n = k := by omega
      have hr : Hid (arE N [] L = 0) := by
        show _ = _
        rw [hE.out, List.drop_eq_nil_of_le (by rw [HL.out]; exact Nat.le_refl _)]; rfl
      clear hE
      go_wp2
      go_ret
      exact ⟨by rw [hr.out]; rfl, hB.out⟩
theorem rarcs_val (e0 : Nat) (w : World) (a : Option Addr) (n cap N : Nat) (L : List Arc) (h : IsArcs w a n cap L) (he : arE N [] L = e0) :
    Calls Try.prog 42 #[.slice a n cap, .int .i64 N] w fun e w' => e = .returned (.int .i64 (e0 : Int)) ∧ Below w.heap.size w w' := he ▸ rarcs_any w a n cap N L h

set_option maxRecDepth 100000 in
set_option maxHeartbeats 1600000 in
theorem rform_any (w : World) (a : Option Addr) (n cap : Nat) (F : Gr) (h : IsG w a n cap F) :
    Calls Try.prog 32 #[.agg #[.slice a n cap]] w fun e w' => e = .returned (.int .i64 ((frm F : Nat) : Int)) ∧ Below w.heap.size w w' := by
  have hm := h.maxLe
  have hc := h.capLe
  unfold maxLen at hm
  obtain ⟨W, hW⟩ : ∃ W, w.alloc (.cells #[.slice a n cap] 25) = W := ⟨_, rfl⟩
  have B := Lib.hid (show Below w.heap.size w W from hW ▸ ba w _)
  have hwz : w.heap.size < W.heap.size := by rw [← hW]; simp
  have hbox : W.cell? ⟨w.heap.size, 0, none⟩ = some (.slice a n cap) := hW ▸ box_cell w _ _
  have H := Lib.hid (h.below B.out)
  have HL := Lib.hid h.len
  clear h
  by_cases z0 : n = 0
  · have hr : Hid (frm F = 1) := by show _ = _; unfold frm; rw [if_pos (by rw [HL.out]; exact z0)]
    subst z0
    go_enter Try.func32, Try.ntmps32
    go_wp2
    go_ret
    exact ⟨by rw [hr.out]; rfl, B.out⟩
  by_cases z1 : 4096 < n
  · have hr : Hid (frm F = 7) := by show _ = _; unfold frm; rw [if_neg (by rw [HL.out]; exact z0), if_pos (by rw [HL.out]; exact z1)]
    have z2 : ((n : Int) == 0) = false := by simp; omega
    go_enter Try.func32, Try.ntmps32
    go_wp2
    go_ret
    exact ⟨by rw [hr.out]; rfl, B.out⟩
  have HR : Hid (frm F = ndE n F) := by show _ = _; unfold frm; rw [if_neg (by rw [HL.out]; exact z0), if_neg (by rw [HL.out]; exact z1), HL.out]
  have z2 : ((n : Int) == 0) = false := by simp; omega
  go_enter Try.func32, Try.ntmps32
  go_wp2
  (try rw [hW])
  clear hW z2
  go_loopw [3] (fun v wr => ∃ k : Nat, k ≤ n ∧ v = .int .i64 k ∧ Hid (ndE n F = ndE n (F.drop k)) ∧ Hid (Below W.heap.size W wr)) (fun v _ => n - (intOf v).toNat)
  case atStart => exact ⟨0, Nat.zero_le _, rfl, rfl, Below.refl _ _⟩
  case round =>
    obtain ⟨k, hk, rfl, hE, hB⟩ := hrel
    have hbx : wr.cell? ⟨w.heap.size, 0, none⟩ = some (.slice a n cap) := (hB.out.cell (p := ⟨w.heap.size, 0, none⟩) hwz).trans hbox
    have hws := hB.out.size
    by_cases hlt : k < n
    · obtain ⟨b, off, rfl, hbl, hx⟩ := H.out.at_ (by omega)
      obtain ⟨xa, xc, hd0⟩ := hx k hlt
      have HD := Lib.hid (fun V (hV : Below W.heap.size W V) => hd0.below hbl hV)
      have c0 := (HD.out wr hB.out).c0
      have c1 := (HD.out wr hB.out).c1
      have hkl : k < F.length := by rw [HL.out]; exact hlt
      have hs1 := hd0.is.capLe
      have hs2 := hd0.is.maxLe
      unfold maxLen at hs2
      have IS := Lib.hid hd0.is
      have HBX := Lib.hid (fun V (hV : Below W.heap.size W V) => show V.cell? ⟨w.heap.size, 0, none⟩ = some (.slice (some ⟨b, off, none⟩) n cap) from (hV.cell (p := ⟨w.heap.size, 0, none⟩) hwz).trans hbox)
      have HE2 : Hid (ndE n F = if (nd F k).1 < 0 then 2 else if arE n [] (nd F k).2 ≠ 0 then arE n [] (nd F k).2 else ndE n (F.drop (k + 1))) := by
        show _ = _
        rw [hE.out, drop_nd hkl]; rfl
      obtain ⟨x, hxe⟩ : ∃ x, nd F k = x := ⟨_, rfl⟩
      rw [hxe] at c0 c1 IS hs1 HE2 HD
      have hi0 : (0 : Int) ≤ (k : Int) := by omega
      have hi1 : (k : Int) < (n : Int) := by omega
      clear hx hd0 hkl hxe hE
      by_cases g1 : x.1 < 0
      · have hr : Hid (frm F = 2) := by show _ = _; rw [HR.out, HE2.out, if_pos g1]
        go_wp2
        go_ret
        exact ⟨by rw [hr.out]; rfl, B.out.trans (hB.out.mono B.out.size)⟩
      obtain ⟨e0, he0⟩ : ∃ e0, arE n [] x.2 = e0 := ⟨_, rfl⟩
      have EX := Lib.hid (rarcs_val e0 wr.drew xa x.2.length xc n x.2 (IS.out.below hB.out.drew) he0)
      have BD := Lib.hid hB.out.drew
      rw [he0] at HE2
      clear he0
      by_cases g2 : e0 = 0
      · have hE' : Hid (ndE n F = ndE n (F.drop (k + 1))) := by show _ = _; rw [HE2.out, if_neg g1, if_neg (by rw [g2]; simp)]
        subst g2
        clear HE2
        go_wp2_with fail
        go_region_held3 (fun w' => w'.cell? ⟨w.heap.size, 0, none⟩ = some (.slice (some ⟨b, off, none⟩) n cap) ∧ w'.cell? ⟨b, off + k * 2 + 1, none⟩ = some (.slice xa x.2.length xc)) (first | exact ⟨hbx, c1⟩ | exact ⟨HBX.out _ BD.out, (HD.out _ BD.out).c1⟩ | exact ⟨HBX.out _ B2.out, (HD.out _ B2.out).c1⟩) ((first | (go_at_call 42; (with_reducible refine EX.out.mono ?_); rintro e w2 ⟨rfl, hb2⟩; have B2 := Lib.hid (BD.out.trans (hb2.mono BD.out.size)); clear hb2)))
        go_wp2
        go_roundw
        case rel => exact ⟨k + 1, by omega, by go_num, hE', B2.out⟩
        case measure => simp [intOf]; omega
      · have hr : Hid (frm F = e0) := by show _ = _; rw [HR.out, HE2.out, if_neg g1, if_pos g2]
        have hne : ((e0 : Int) != 0) = true := by simp; omega
        clear HE2
        go_wp2_with fail
        go_region_held3 (fun w' => w'.cell? ⟨w.heap.size, 0, none⟩ = some (.slice (some ⟨b, off, none⟩) n cap) ∧ w'.cell? ⟨b, off + k * 2 + 1, none⟩ = some (.slice xa x.2.length xc)) (first | exact ⟨hbx, c1⟩ | exact ⟨HBX.out _ BD.out, (HD.out _ BD.out).c1⟩ | exact ⟨HBX.out _ B2.out, (HD.out _ B2.out).c1⟩) ((first | (go_at_call 42; (with_reducible refine EX.out.mono ?_); rintro e w2 ⟨rfl, hb2⟩; have B2 := Lib.hid (BD.out.trans (hb2.mono BD.out.size)); clear hb2)))
        go_wp2
        go_ret
        exact ⟨by rw [hr.out]; rfl, B.out.trans (B2.out.mono B.out.size)⟩
    · obtain rfl : n = k := by omega
      have hr : Hid (frm F = 0) := by
        show _ = _
        rw [HR.out, hE.out, List.drop_eq_nil_of_le (by rw [HL.out]; exact Nat.le_refl _)]; rfl
      clear hE
      go_wp2
      go_ret
      exact ⟨by rw [hr.out]; rfl, B.out.trans (hB.out.mono B.out.size)⟩
theorem rform_val (e0 : Nat) (w : World) (a : Option Addr) (n cap : Nat) (F : Gr) (h : IsG w a n cap F) (he : frm F = e0) :
    Calls Try.prog 32 #[.agg #[.slice a n cap]] w fun e w' => e = .returned (.int .i64 (e0 : Int)) ∧ Below w.heap.size w w' := he ▸ rform_any w a n cap F h
end Go.Proofs.Ytlhiiecaphibhaa

/-
  DERIVED: THE SHELF's CONTRACTS AT THIS DUMP, IN PLAIN WORDS (tools/lay-plain.mjs out of 'TryShelf.lean', which tools/lay-shelf.mjs wrote): THE SAME DECLARATIONS UNDER THE SAME NAMES: 'import', 'namespace', 'open', 'def', 'theorem' AND NOTHING ELSE: no command of the shelf's: FOR A HAND-IN. Each laying: the table of numbers ('.._ren') and one theorem, a field a fact of the dump's own or the kernel's comparison; each contract: ONE APPLICATION.
-/
namespace Go.Proofs
open Go.Shelf
def Try.lays128_ren : Go.Shelf.Ren := ⟨fun | 128 => 62 | n => n, fun | 51 => 82 | 3 => 3 | 4 => 4 | 46 => 73 | 5 => 5 | 9 => 9 | n => n, fun | n => n⟩
theorem Try.lays128 : Go.Proofs.Lays.n128 Try.prog Try.lays128_ren := {
  mixed := by kernel_rfl
  f128 := Try.func62.trans (congrArg some (by kernel_rfl))
  t3 := Try.underlying3
  a3 := Try.isAgg3
  z3 := Try.sizeOf3
  v3 := Try.zeroValue3
  t4 := Try.underlying4
  a4 := Try.isAgg4
  z4 := Try.sizeOf4
  v4 := Try.zeroValue4
  t5 := Try.underlying5
  a5 := Try.isAgg5
  z5 := Try.sizeOf5
  v5 := Try.zeroValue5
  t9 := Try.underlying9
  a9 := Try.isAgg9
  z9 := Try.sizeOf9
  v9 := Try.zeroValue9
  t46 := Try.underlying73
  a46 := Try.isAgg73
  z46 := Try.sizeOf73
  v46 := Try.zeroValue73
  t51 := Try.underlying82
  a51 := Try.isAgg82
  z51 := Try.sizeOf82
  v51 := Try.zeroValue82 }
/-- bits.Len32: "Len32 returns the minimum number of bits required to represent x; the result is 0 for x == 0.": IT RETURNS 'Lib.bitLen x'; the world is as it was. ('h0', 'h1': x is a uint32.) (LAID: no walk: one application.) -/
theorem Try.bits_Len32 (x : Int) (w : World) (h0 : 0 ≤ x) (h1 : x ≤ 4294967295) :
    Calls Try.prog 62 #[.int .u32 x] w fun e w' => e = .returned (.int .i64 (Lib.bitLen x.toNat)) ∧ w' = w := Any.bits_Len32 Try.lays128 x w h0 h1
def Try.lays125_ren : Go.Shelf.Ren := ⟨fun | 125 => 53 | 128 => 62 | 129 => 63 | n => n, fun | 46 => 73 | 3 => 3 | 51 => 82 | 53 => 84 | 4 => 4 | 5 => 5 | 9 => 9 | n => n, fun | n => n⟩
theorem Try.lays125 : Go.Proofs.Lays.n125 Try.prog Try.lays125_ren := {
  mixed := by kernel_rfl
  f125 := Try.func53.trans (congrArg some (by kernel_rfl))
  f128 := Try.func62.trans (congrArg some (by kernel_rfl))
  f129 := Try.func63.trans (congrArg some (by kernel_rfl))
  t3 := Try.underlying3
  a3 := Try.isAgg3
  z3 := Try.sizeOf3
  v3 := Try.zeroValue3
  t4 := Try.underlying4
  a4 := Try.isAgg4
  z4 := Try.sizeOf4
  v4 := Try.zeroValue4
  t5 := Try.underlying5
  a5 := Try.isAgg5
  z5 := Try.sizeOf5
  v5 := Try.zeroValue5
  t9 := Try.underlying9
  a9 := Try.isAgg9
  z9 := Try.sizeOf9
  v9 := Try.zeroValue9
  t46 := Try.underlying73
  a46 := Try.isAgg73
  z46 := Try.sizeOf73
  v46 := Try.zeroValue73
  t51 := Try.underlying82
  a51 := Try.isAgg82
  z51 := Try.sizeOf82
  v51 := Try.zeroValue82
  t53 := Try.underlying84
  a53 := Try.isAgg84
  z53 := Try.sizeOf84
  v53 := Try.zeroValue84 }
/-- bits.Len: "Len returns the minimum number of bits required to represent x; the result is 0 for x == 0.": IT RETURNS 'Lib.bitLen x'; the world is as it was. (A uint has 64 bits in the model.) ITS CALLEE bits.Len64 IS MET BY ITS OWN CONTRACT OFF THE SHELF (lay that first). (LAID: no walk: one application.) -/
theorem Try.bits_Len (x : Int) (w : World) (h0 : 0 ≤ x) (h1 : x ≤ 18446744073709551615) :
    Calls Try.prog 53 #[.int .u64 x] w fun e w' => e = .returned (.int .i64 (Lib.bitLen x.toNat)) ∧ w' = w := Any.bits_Len Try.lays125 x w h0 h1
def Try.lays129_ren : Go.Shelf.Ren := ⟨fun | 129 => 63 | n => n, fun | 53 => 84 | 3 => 3 | 4 => 4 | 46 => 73 | 5 => 5 | 9 => 9 | n => n, fun | n => n⟩
theorem Try.lays129 : Go.Proofs.Lays.n129 Try.prog Try.lays129_ren := {
  mixed := by kernel_rfl
  f129 := Try.func63.trans (congrArg some (by kernel_rfl))
  t3 := Try.underlying3
  a3 := Try.isAgg3
  z3 := Try.sizeOf3
  v3 := Try.zeroValue3
  t4 := Try.underlying4
  a4 := Try.isAgg4
  z4 := Try.sizeOf4
  v4 := Try.zeroValue4
  t5 := Try.underlying5
  a5 := Try.isAgg5
  z5 := Try.sizeOf5
  v5 := Try.zeroValue5
  t9 := Try.underlying9
  a9 := Try.isAgg9
  z9 := Try.sizeOf9
  v9 := Try.zeroValue9
  t46 := Try.underlying73
  a46 := Try.isAgg73
  z46 := Try.sizeOf73
  v46 := Try.zeroValue73
  t53 := Try.underlying84
  a53 := Try.isAgg84
  z53 := Try.sizeOf84
  v53 := Try.zeroValue84 }
/-- bits.Len64: "Len64 returns the minimum number of bits required to represent x; the result is 0 for x == 0.": IT RETURNS 'Lib.bitLen x'; the world is as it was. ('h0', 'h1': x is a uint64.) (LAID: no walk: one application.) -/
theorem Try.bits_Len64 (x : Int) (w : World) (h0 : 0 ≤ x) (h1 : x ≤ 18446744073709551615) :
    Calls Try.prog 63 #[.int .u64 x] w fun e w' => e = .returned (.int .i64 (Lib.bitLen x.toNat)) ∧ w' = w := Any.bits_Len64 Try.lays129 x w h0 h1
def Try.sortF46_ren : Go.Shelf.Ren := ⟨fun | 6 => 46 | 15 => 53 | 14 => 52 | 28 => 62 | 29 => 63 | 20 => 54 | 21 => 55 | 22 => 56 | 23 => 57 | 24 => 58 | 25 => 59 | 26 => 60 | 27 => 61 | 46 => 64 | 47 => 65 | 48 => 66 | 49 => 67 | 50 => 68 | 57 => 69 | n => n, fun | 22 => 41 | 24 => 45 | 25 => 66 | 3 => 3 | 39 => 73 | 0 => 0 | 53 => 82 | 55 => 84 | 4 => 4 | 46 => 76 | 45 => 75 | 50 => 52 | 5 => 5 | 9 => 9 | 66 => 85 | 70 => 89 | 76 => 91 | 77 => 92 | n => n, fun | n => n⟩
theorem Try.sortF46 : Go.Proofs.SlLaysF0.n6 Try.prog Try.sortF46_ren := {
  mixed := by kernel_rfl
  f6 := ⟨Try.f46.name, by decide, Try.func46.trans (congrArg some (by kernel_rfl))⟩
  f14 := ⟨Try.f52.name, by decide, Try.func52.trans (congrArg some (by kernel_rfl))⟩
  f15 := Try.func53.trans (congrArg some (by kernel_rfl))
  f20 := ⟨Try.f54.name, by decide, Try.func54.trans (congrArg some (by kernel_rfl))⟩
  f21 := ⟨Try.f55.name, by decide, Try.func55.trans (congrArg some (by kernel_rfl))⟩
  f22 := ⟨Try.f56.name, by decide, Try.func56.trans (congrArg some (by kernel_rfl))⟩
  f23 := ⟨Try.f57.name, by decide, Try.func57.trans (congrArg some (by kernel_rfl))⟩
  f24 := ⟨Try.f58.name, by decide, Try.func58.trans (congrArg some (by kernel_rfl))⟩
  f25 := ⟨Try.f59.name, by decide, Try.func59.trans (congrArg some (by kernel_rfl))⟩
  f26 := ⟨Try.f60.name, by decide, Try.func60.trans (congrArg some (by kernel_rfl))⟩
  f27 := ⟨Try.f61.name, by decide, Try.func61.trans (congrArg some (by kernel_rfl))⟩
  f28 := Try.func62.trans (congrArg some (by kernel_rfl))
  f29 := Try.func63.trans (congrArg some (by kernel_rfl))
  f46 := ⟨Try.f64.name, by decide, Try.func64.trans (congrArg some (by kernel_rfl))⟩
  f47 := Try.func65.trans (congrArg some (by kernel_rfl))
  f48 := Try.func66.trans (congrArg some (by kernel_rfl))
  f49 := ⟨Try.f67.name, by decide, Try.func67.trans (congrArg some (by kernel_rfl))⟩
  f50 := ⟨Try.f68.name, by decide, Try.func68.trans (congrArg some (by kernel_rfl))⟩
  f57 := ⟨Try.f69.name, by decide, Try.func69.trans (congrArg some (by kernel_rfl))⟩
  t0 := Try.underlying0
  a0 := Try.isAgg0
  z0 := Try.sizeOf0
  v0 := Try.zeroValue0
  t3 := Try.underlying3
  a3 := Try.isAgg3
  z3 := Try.sizeOf3
  v3 := Try.zeroValue3
  t4 := Try.underlying4
  a4 := Try.isAgg4
  z4 := Try.sizeOf4
  v4 := Try.zeroValue4
  t5 := Try.underlying5
  a5 := Try.isAgg5
  z5 := Try.sizeOf5
  v5 := Try.zeroValue5
  t9 := Try.underlying9
  a9 := Try.isAgg9
  z9 := Try.sizeOf9
  v9 := Try.zeroValue9
  t22 := Try.underlying41
  a22 := Try.isAgg41
  z22 := Try.sizeOf41
  v22 := Try.zeroValue41
  t25 := Try.underlying66
  a25 := Try.isAgg66
  z25 := Try.sizeOf66
  v25 := Try.zeroValue66
  t39 := Try.underlying73
  a39 := Try.isAgg73
  z39 := Try.sizeOf73
  v39 := Try.zeroValue73
  t45 := Try.underlying75
  a45 := Try.isAgg75
  z45 := Try.sizeOf75
  v45 := Try.zeroValue75
  t46 := Try.underlying76
  a46 := Try.isAgg76
  z46 := Try.sizeOf76
  v46 := Try.zeroValue76
  t50 := Try.underlying52
  a50 := Try.isAgg52
  z50 := Try.sizeOf52
  v50 := Try.zeroValue52
  t53 := Try.underlying82
  a53 := Try.isAgg82
  z53 := Try.sizeOf82
  v53 := Try.zeroValue82
  t55 := Try.underlying84
  a55 := Try.isAgg84
  z55 := Try.sizeOf84
  v55 := Try.zeroValue84
  t66 := Try.underlying85
  a66 := Try.isAgg85
  z66 := Try.sizeOf85
  v66 := Try.zeroValue85
  t70 := Try.underlying89
  a70 := Try.isAgg89
  z70 := Try.sizeOf89
  v70 := Try.zeroValue89
  t76 := Try.underlying91
  a76 := Try.isAgg91
  z76 := Try.sizeOf91
  v76 := Try.zeroValue91
  t77 := Try.underlying92
  a77 := Try.isAgg92
  z77 := Try.sizeOf92
  v77 := Try.zeroValue92 }
def Try.cloneE45_ren : Go.Shelf.Ren := ⟨fun | 41 => 45 | n => n, fun | 22 => 41 | 23 => 45 | 4 => 4 | n => n, fun | n => n⟩
theorem Try.cloneE45 : Go.Proofs.SlLaysE0.n41 Try.prog Try.cloneE45_ren := {
  mixed := by kernel_rfl
  f41 := ⟨Try.f45.name, by decide, Try.func45.trans (congrArg some (by kernel_rfl))⟩
  t4 := Try.underlying4
  a4 := Try.isAgg4
  z4 := Try.sizeOf4
  v4 := Try.zeroValue4
  t22 := Try.underlying41
  a22 := Try.isAgg41
  z22 := Try.sizeOf41
  v22 := Try.zeroValue41 }
end Go.Proofs

/- graph: ascending of the program. -/
namespace Go.Proofs.Ytlhiiecaphibhaa
open Go.RowKit Go.Shelf Go.Sort

def encA (x : Arc) : List Value := [.int .i64 x.1, .int .i64 x.2]
/-- The cells of a row of arcs. -/
def avals (L : List Arc) : List Value := L.flatMap encA
theorem avals_len (L : List Arc) : (avals L).length = L.length * 2 := by
  induction L with
  | nil => rfl
  | cons a l ih =>
    show (encA a ++ l.flatMap encA).length = _
    rw [List.length_append]
    have : (l.flatMap encA).length = l.length * 2 := ih
    rw [this, List.length_cons]
    simp [encA]; omega
theorem avals_app (L M : List Arc) : avals (L ++ M) = avals L ++ avals M := by simp [avals]
theorem avals_get {L : List Arc} {i : Nat} (h : i < L.length) : (avals L)[i * 2]? = some (.int .i64 (ar L i).1) ∧ (avals L)[i * 2 + 1]? = some (.int .i64 (ar L i).2) := by
  induction L generalizing i with
  | nil => cases h
  | cons a l ih =>
    cases i with
    | zero => exact ⟨rfl, rfl⟩
    | succ i =>
      have h1 := ih (i := i) (by simpa using h)
      have e0 : ar (a :: l) (i + 1) = ar l i := by simp [ar]
      rw [e0]
      have e1 : (i + 1) * 2 = i * 2 + 2 := by omega
      have e2 : avals (a :: l) = .int .i64 a.1 :: .int .i64 a.2 :: avals l := rfl
      rw [e1, e2]
      exact h1
theorem avals_one (L : List Arc) : ∀ u ∈ avals L, u.oneCell' = true := fun u hu => by
  unfold avals at hu
  obtain ⟨x, _, hx⟩ := List.mem_flatMap.1 hu
  simp [encA] at hx
  rcases hx with rfl | rfl <;> rfl
theorem IsArcs.news {w : World} {b off n cap : Nat} {L : List Arc} (h : IsArcs w (some ⟨b, off, none⟩) n cap L) : ∀ j u, (avals L)[j]? = some u → w.cell? ⟨b, off + j, none⟩ = some u := by
  intro j u hu
  have hj : j < (avals L).length := (List.getElem?_eq_some_iff.1 hu).1
  rw [avals_len] at hj
  have hl := h.len
  obtain ⟨b', off', e, _, hx⟩ := h.at_ (by omega)
  cases e
  have hi : j / 2 < n := by omega
  obtain ⟨c0, c1⟩ := hx (j / 2) hi
  obtain ⟨g0, g1⟩ := avals_get (L := L) (i := j / 2) (by omega)
  rcases Nat.mod_two_eq_zero_or_one j with hm | hm
  · have e : j / 2 * 2 = j := by omega
    rw [e] at c0 g0
    rw [hu] at g0
    rw [c0, g0]
  · have e : j / 2 * 2 + 1 = j := by omega
    rw [Nat.add_assoc, e] at c1
    rw [e] at g1
    rw [hu] at g1
    rw [c1, g1]
theorem IsArcs.of_owns {w : World} {B n : Nat} {v : Value} {L : List Arc} (h : w.ownsRow B 45 2 v n (avals L)) (hr : ∀ x ∈ L, R64 x.1) : ∃ a cap, v = .slice a n cap ∧ IsArcs w a n cap L := by
  have hh := h
  have hlen : L.length = n := by have := h.1; rw [avals_len] at this; omega
  obtain ⟨h1, ⟨h2, h3⟩ | ⟨g, cap, cur, hv, hB, hg, h3, h4, h5, h6⟩⟩ := h
  · exact ⟨none, 0, by rw [h3]; exact h2, hlen, by omega, Nat.zero_le _, fun _ => rfl, hr, fun h0 => absurd h0 (by omega)⟩
  · refine ⟨some ⟨g, 0, none⟩, cap, hv, hlen, h3, h4, (fun e => by cases e), hr, fun _ => ⟨g, 0, rfl, lt_of_block hg, fun i hi => ?_⟩⟩
    obtain ⟨g0, g1⟩ := avals_get (L := L) (i := i) (by omega)
    have k0 := hh.cells (g := g) (by rw [hv]; rfl) _ _ g0
    have k1 := hh.cells (g := g) (by rw [hv]; rfl) _ _ g1
    have e : ∀ j, (⟨g, 0, none⟩ : Addr).add j = ⟨g, j, none⟩ := fun j => by unfold Addr.add; split <;> simp_all
    rw [e] at k0 k1
    rw [Nat.zero_add]
    exact ⟨k0, k1⟩
theorem flatK_arcs (d : Array Arc) : (flatK encA 2 d).toList = avals d.toList := by
  apply List.ext_getElem?
  intro t
  have hs : (flatK encA 2 d).size = d.size * 2 := size_flatK _ _ _
  by_cases ht : t < d.size * 2
  · have hi : t / 2 < d.size := by omega
    obtain ⟨g0, g1⟩ := avals_get (L := d.toList) (i := t / 2) (by simpa using hi)
    have hg := get_flatK encA 2 d t ht
    rw [Array.getElem?_toList, Array.getElem?_eq_getElem (by omega), ← getElem!_pos (flatK encA 2 d) t (by omega), hg]
    have ea : ar d.toList (t / 2) = d[t / 2]! := by
      unfold ar
      rw [List.getD_eq_getElem?_getD, Array.getElem?_toList, Array.getElem?_eq_getElem hi, getElem!_pos d _ hi]; rfl
    rw [ea] at g0 g1
    rcases Nat.mod_two_eq_zero_or_one t with hm | hm
    · have e : t / 2 * 2 = t := by omega
      rw [e] at g0
      rw [g0, hm]; rfl
    · have e : t / 2 * 2 + 1 = t := by omega
      rw [e] at g1
      rw [g1, hm]; rfl
  · rw [List.getElem?_eq_none (by rw [Array.length_toList, hs]; omega), List.getElem?_eq_none (by rw [avals_len]; simp; omega)]
theorem holdsK_arcs {w : World} {B n g cap : Nat} {L : List Arc} (h : w.ownsRow B 45 2 (.slice (some ⟨g, 0, none⟩) n cap) n (avals L)) : HoldsK encA 2 w g 0 L.toArray := by
  intro j hj
  rw [size_flatK] at hj
  have hl : L.length = n := by have := h.1; rw [avals_len] at this; omega
  have hj2 : j < n * 2 := by simpa [hl] using hj
  refine ⟨?_, by rw [Nat.zero_add]; exact h.frozenAt j⟩
  rw [Nat.zero_add, h.cellAt j hj2]
  have e := flatK_arcs L.toArray
  rw [List.toList_toArray] at e
  have hs : j < (flatK encA 2 L.toArray).size := by rw [size_flatK]; exact hj
  rw [← e, Array.getElem?_toList, Array.getElem?_eq_getElem hs]
  exact congrArg some (getElem!_pos (flatK encA 2 L.toArray) j hs).symm
/-- A row that was sorted is owned as before. -/
theorem owns_sorted {w : World} {B n g cap m : Nat} {L : List Arc} {d : Array Arc} {os : Array Obj} (h : w.ownsRow B 45 2 (.slice (some ⟨g, 0, none⟩) n cap) n (avals L)) (hd : d.size = n) :
    (sortWorldK encA 2 w g 0 m d os).ownsRow B 45 2 (.slice (some ⟨g, 0, none⟩) n cap) n (avals d.toList) := by
  obtain ⟨h1, ⟨h2, h3⟩ | ⟨g', cap', cur, hv, hB, hg, h3, h4, h5, h6⟩⟩ := h
  · cases h2
  · cases hv
    refine ⟨by rw [avals_len, Array.length_toList, hd], .inr ⟨g, cap, putCells id 0 (flatK encA 2 d) cur, rfl, hB, ?_, h3, h4, by simpa [putCells] using h5, ?_⟩⟩
    · have hlt : g < w.heap.size := lt_of_block hg
      unfold sortWorldK
      rw [Sort.heap_grow_old _ _ (by rw [size_putRowK]; exact hlt)]
      simp [putRowK, putRow, mapBlock, Sort.ahead, Array.getElem?_modify, hg, onCells]
    · rw [← flatK_arcs]
      apply List.ext_getElem?
      intro j
      rw [List.getElem?_take, Array.getElem?_toList, Array.getElem?_toList]
      by_cases hj : j < n * 2
      · have hjc : j < cur.size := by
          rw [h5]
          have : n * 2 ≤ cap * 2 := Nat.mul_le_mul_right 2 h3
          omega
        have hf : j < (flatK encA 2 d).size := by rw [size_flatK, hd]; exact hj
        rw [if_pos hj, Array.getElem?_eq_getElem hf]
        simp only [putCells, Array.getElem?_mapIdx, Array.getElem?_eq_getElem hjc, Option.map_some]
        rw [if_pos (by omega), getElem!_pos _ _ (by omega)]
        simp
      · rw [if_neg hj, Array.getElem?_eq_none (by rw [size_flatK, hd]; omega)]
theorem below_sorted {B : Nat} {w0 w : World} {g m : Nat} {d : Array Arc} {os : Array Obj} (h : Below B w0 w) (hg : B ≤ g) (hz : B ≤ w.heap.size) : Below B w0 (sortWorldK encA 2 w g 0 m d os) := by
  refine h.trans ⟨rfl, rfl, rfl, size_sortWorldK_c encA 2 w g 0 m d os, fun b hb => ?_⟩
  unfold sortWorldK
  rw [Sort.heap_grow_old _ _ (by rw [size_putRowK]; show b < w.heap.size; omega)]
  simp [putRowK, putRow, mapBlock, Sort.ahead, Array.getElem?_modify]
  intro e; omega
def ltF (x y : Arc) : Bool := ltOf (fun x y : Arc => ci x.1 y.1) x y
theorem ltF_iff (x y : Arc) : ltOf (fun x y : Arc => ci x.1 y.1) x y = true ↔ x.1 < y.1 := by
  unfold ltOf
  rw [decide_eq_true_iff]
  show ci x.1 y.1 < 0 ↔ _
  rcases ci_cases x.1 y.1 with ⟨e, h⟩ | ⟨e, h⟩ | ⟨e, h⟩ <;> rw [e] <;> constructor <;> intro g <;> omega
theorem ltF_no (x y : Arc) : ltOf (fun x y : Arc => ci x.1 y.1) x y = false ↔ y.1 ≤ x.1 := by
  rw [← Bool.not_eq_true, ltF_iff]; omega
theorem swoF : SWO (ltOf (fun x y : Arc => ci x.1 y.1)) :=
  ⟨fun x => (ltF_no x x).2 (Int.le_refl _), fun x y z h g => (ltF_iff x z).2 (by have := (ltF_iff x y).1 h; have := (ltF_iff y z).1 g; omega), fun x y z h g => (ltF_no x z).2 (by have := (ltF_no x y).1 h; have := (ltF_no y z).1 g; omega)⟩
theorem feat_lays (w : World) (blk off size : Nat) : CmpLays Try.prog 47 #[] encA 2 (fun x y : Arc => ci x.1 y.1) blk off size w := fun m os dk _ x y =>
  (feat_any (sortWorldK encA 2 w blk off m dk os) x y).mono fun _ _ ⟨he, hw⟩ => ⟨he, 0, #[_, _], hw⟩
theorem sortA_any (w : World) (B n g cap : Nat) (L : List Arc) (h : w.ownsRow B 45 2 (.slice (some ⟨g, 0, none⟩) n cap) n (avals L)) (hd : Dif L) (hcap : n < 4611686018427387904) :
    Calls Try.prog 46 #[.slice (some ⟨g, 0, none⟩) n cap, .func (.func 47) #[] #[]] w fun e w' => e = .returned (.tuple #[]) ∧
      w'.ownsRow B 45 2 (.slice (some ⟨g, 0, none⟩) n cap) n (avals (srt L)) ∧ (B ≤ w.heap.size → Below B w w') := by
  have hl : L.length = n := by have := h.1; rw [avals_len] at this; omega
  obtain ⟨hB, hlt⟩ := h.lt g rfl
  have hsz : L.toArray.size = n := by simpa using hl
  have hc := (AnyQ.slices_SortFunc Try.sortF46 2 (fun w => by kernel_rfl) (fun w => by kernel_rfl) encA (fun _ => rfl) (fun x v hv => by simp [encA] at hv; rcases hv with rfl | rfl <;> rfl) (fun x y : Arc => ci x.1 y.1) swoF 47 #[] g 0 cap L.toArray w
    (fun _ _ => by kernel_rfl) (feat_lays w g 0 _) (holdsK_arcs h) hlt (by rw [hsz]; exact hcap))
  rw [hsz] at hc
  refine hc.mono ?_
  rintro e w' ⟨he, d', q, os, hp, hs, rfl⟩
  have hs1 : d'.size = n := by rw [hp.1]; exact hsz
  have hperm : d'.toList.Perm L := by
    have e1 : d'.extract 0 n = d' := by rw [← hs1]; exact Array.extract_size
    have e2 : L.toArray.extract 0 n = L.toArray := by rw [← hsz]; exact Array.extract_size
    have := hp.2.2
    rw [e1, e2] at this
    exact this
  have hasc : Asc d'.toList := by
    refine List.pairwise_iff_getElem.2 ?_
    intro i j hi hj hij
    have hj' : j < d'.size := by simpa using hj
    have := hs i j (Nat.zero_le _) hij (by omega)
    rw [getElem!_pos d' j hj', getElem!_pos d' i (by omega)] at this
    have := (ltF_no _ _).1 this
    simpa using this
  have hsrt := srt_of hperm hasc hd
  refine ⟨he, ?_, fun hb => below_sorted (Below.refl _ _) hB hb⟩
  rw [← hsrt]
  exact owns_sorted h hs1
set_option maxRecDepth 100000 in
theorem Clone_zero (w : World) (p : Addr) (c : Nat) :
    Calls Try.prog 45 #[.slice (some p) 0 c] w fun e w' => ∃ v', e = .returned v' ∧ w'.ownsRow w.heap.size 45 2 v' 0 [] ∧ Below w.heap.size w w' := by
  obtain ⟨i0, hi, hz0, hz1, hz2⟩ := info_parts Try.infoA
  have q22 : ∀ (w : World) (a : Option Addr) (n c n' c' : Nat), (binOp .eql 41 (.slice a n c) (.slice none n' c')).run Try.prog w = .ok (.bool a.isNone) w := fun w a n c n' c' => Lib.run_eql_slice_nil w _ _ a n c n' c' Try.underlying41
  go_enter Try.func45, Try.ntmps45
  go_wp2_with (at_builtin; refine wpList_append_own _ rfl _ _ 41 rfl w.heap.size 45 i0 _ 2 16 Try.underlying41 hi hz0 hz1 hz2 rfl (by decide) _ _ _ rfl (World.ownsRow_made w #[] 0 (Nat.le_refl _) (Nat.zero_le _) (by simp)) p 0 c [] rfl rfl (fun j u h => by simp at h) (fun u h => by cases h) (by simp) (by simp) (by simp) ?_)
  intro v' w1 hown hgrow hnil
  go_wp2
  go_ret
  exact ⟨v', rfl, hown, ((Below.refl _ w).alloc (Nat.le_refl _) _).grown hgrow (by simp) (by intro k hk; simp [Value.ownBlock] at hk; omega)⟩
theorem Clone_any (w : World) (a : Option Addr) (n cap : Nat) (L : List Arc) (h : IsArcs w a n cap L) (hn : n ≤ 100000) :
    Calls Try.prog 45 #[.slice a n cap] w fun e w' => ∃ v', e = .returned v' ∧ w'.ownsRow w.heap.size 45 2 v' n (avals L) ∧ Below w.heap.size w w' := by
  obtain ⟨i0, hi, hz0, hz1, hz2⟩ := info_parts Try.infoA
  cases a with
  | none =>
    have hc := h.nil_ rfl
    have hl := h.capLe
    obtain rfl : n = 0 := by omega
    have hL : L = [] := List.eq_nil_of_length_eq_zero h.len
    subst hL
    refine (AnyE.slices_Clone_nil Try.cloneE45 0 cap w).mono ?_
    rintro e w' ⟨rfl, rfl⟩
    exact ⟨_, rfl, World.ownsRow_nil _ _ _ _, Below.refl _ _⟩
  | some p =>
    by_cases h0 : n = 0
    · subst h0
      have hL : L = [] := List.eq_nil_of_length_eq_zero h.len
      subst hL
      exact Clone_zero w p cap
    · obtain ⟨b, off, e, hb, -⟩ := h.at_ (by omega)
      cases e
      refine (AnyE.slices_Clone Try.cloneE45 i0 _ 2 16 hi hz0 hz1 hz2 rfl (by decide) (fun w => by kernel_rfl) b off n cap (avals L) w (by rw [avals_len, h.len]) (by unfold maxLen; omega) (by omega) h.news (avals_one L)).mono ?_
      rintro e w' ⟨v', he, hrow, _, hbl⟩
      exact ⟨v', he, hrow, hbl⟩
theorem sort_none (w : World) (cap : Nat) (fv : Value) : Calls Try.prog 46 #[.slice none 0 cap, fv] w fun e w' => e = .returned (.tuple #[]) ∧ w' = w :=
  AnyF.slices_SortFunc_none Try.sortF46 none cap fv w
set_option maxRecDepth 100000 in
theorem ascending_any (w : World) (a : Option Addr) (n cap : Nat) (L : List Arc) (h : IsArcs w a n cap L) (hn : n ≤ 100000) (hd : Dif L) :
    Calls Try.prog 34 #[.slice a n cap] w fun e w' => ∃ v', e = .returned v' ∧ w'.ownsRow w.heap.size 45 2 v' n (avals (srt L)) ∧ Below w.heap.size w w' := by
  have CL := Lib.hid (Clone_any w a n cap L h hn)
  have HD := Lib.hid hd
  have hl := h.len
  clear h hd
  go_enter Try.func34, Try.ntmps34
  go_wp2_with fail
  refine CL.out.mono ?_
  rintro e w1 ⟨v', rfl, hown, hb1⟩
  have hz1 := hb1.size
  have O1 := Lib.hid hown
  have B1 := Lib.hid hb1
  clear CL hb1
  obtain ⟨k1, ⟨rfl, k3⟩ | ⟨g, cap', cur, rfl, kB, kg, kr⟩⟩ := hown
  · subst k3
    have hL : L = [] := List.eq_nil_of_length_eq_zero hl
    subst hL
    clear k1
    go_wp2_with (go_at_call 46; (with_reducible refine (sort_none _ _ _).mono ?_); rintro e w2 ⟨rfl, rfl⟩)
    go_ret
    exact ⟨_, rfl, World.ownsRow_nil _ _ _ _, B1.out⟩
  · clear kg kr k1
    have SO := Lib.hid (sortA_any w1 w.heap.size n g cap' L O1.out HD.out (by omega))
    go_wp2_with (go_at_call 46; (with_reducible refine SO.out.mono ?_); rintro e w2 ⟨rfl, hown2, hb2⟩; have O2 := Lib.hid hown2; have B2 := Lib.hid (B1.out.trans (hb2 hz1)); clear hown2 hb2)
    go_ret
    exact ⟨_, rfl, O2.out, B2.out⟩
end Go.Proofs.Ytlhiiecaphibhaa

/- graph: sorted of the reference. Written by wip/gen/gsorted.py. -/
namespace Go.Proofs.Ytlhiiecaphibhaa
open Go.RowKit

theorem owns_base {W : World} {base base' : Nat} {e : TypeId} {size : Nat} {v : Value} {k : Nat} {xs : List Value} (h : W.ownsRow base e size v k xs) (hb : base' ≤ base) : W.ownsRow base' e size v k xs := by
  obtain ⟨h1, h2 | ⟨g, cap, cur, hv, hB, r⟩⟩ := h
  · exact ⟨h1, .inl h2⟩
  · exact ⟨h1, .inr ⟨g, cap, cur, hv, by omega, r⟩⟩
theorem IsArcs.empty (w : World) (a : Option Addr) {c : Nat} (hc : c ≤ maxLen) (h0 : a = none → c = 0 := by intro h; cases h) : IsArcs w a 0 c [] := ⟨rfl, Nat.zero_le _, hc, h0, (fun _ h => by cases h), fun h => absurd h (Nat.lt_irrefl _)⟩
theorem ar_take {L : List Arc} {k i : Nat} (h : i < k) : ar (L.take k) i = ar L i := by
  unfold ar; rw [List.getD_eq_getElem?_getD, List.getD_eq_getElem?_getD, List.getElem?_take_of_lt h]
theorem ar_drop {L : List Arc} {k i : Nat} : ar (L.drop k) i = ar L (k + i) := by
  unfold ar; rw [List.getD_eq_getElem?_getD, List.getD_eq_getElem?_getD, List.getElem?_drop]
theorem IsArcs.take {w : World} {a : Option Addr} {n cap k : Nat} {L : List Arc} (h : IsArcs w a n cap L) (hk : k ≤ n) : IsArcs w a k cap (L.take k) :=
  ⟨by rw [List.length_take, h.len]; omega, by have := h.capLe; omega, h.maxLe, h.nil_, fun x hx => h.rng x (List.mem_of_mem_take hx), fun h0 => by
    obtain ⟨b, off, e, hl, hx⟩ := h.at_ (by omega)
    exact ⟨b, off, e, hl, fun i hi => by rw [ar_take hi]; exact hx i (by omega)⟩⟩
theorem IsArcs.drop {w : World} {b off n cap k : Nat} {L : List Arc} (h : IsArcs w (some ⟨b, off, none⟩) n cap L) (hk : k ≤ n) : IsArcs w (some ⟨b, off + k * 2, none⟩) (n - k) (cap - k) (L.drop k) :=
  ⟨by rw [List.length_drop, h.len], by have := h.capLe; omega, by have := h.maxLe; omega, (fun e => by cases e), fun x hx => h.rng x (List.mem_of_mem_drop hx), fun h0 => by
    obtain ⟨b', off', e, hl, hx⟩ := h.at_ (by omega)
    cases e
    refine ⟨b, _, rfl, hl, fun i hi => ?_⟩
    rw [ar_drop]
    have := hx (k + i) (by omega)
    rw [show off + k * 2 + i * 2 = off + (k + i) * 2 by omega]
    exact this⟩
theorem IsArcs.one (w : World) (x : Arc) (hx : R64 x.1) : IsArcs (w.alloc (.cells #[.int .i64 x.1, .int .i64 x.2] 45)) (some ⟨w.heap.size, 0, none⟩) 1 1 [x] :=
  ⟨rfl, Nat.le_refl _, by unfold maxLen; omega, (fun e => by cases e), (fun z hz => by simp at hz; rw [hz]; exact hx), fun _ => ⟨w.heap.size, 0, rfl, by simp, fun i hi => by
    obtain rfl : i = 0 := by omega
    exact ⟨(World.cell?_alloc_new w _ _ 0).trans rfl, (World.cell?_alloc_new w _ _ 1).trans rfl⟩⟩⟩
/-- append of a slice of arcs to an owned row of arcs. -/
theorem wpList_append_arcs {w : World} {ops : Array Oper} {rest : List Oper} {o : Oper} {a : Act} {Q : Exit → Act → World → Prop} (hgd : o.guard = none) (s x : Operand)
    (ho : o.op = .call { callee := .builtin .append, args := #[s, x], argTypes := #[41, 41] })
    (base : Nat) (v : Value) (n : Nat) (zs : List Arc) (hs : a.eval s = v) (hown : w.ownsRow base 45 2 v n (avals zs))
    (xa : Option Addr) (m c : Nat) (ys : List Arc) (hx : a.eval x = .slice xa m c) (hys : IsArcs w xa m c ys) (h63 : n + m ≤ 1000000) (hbase : base ≤ w.heap.size)
    (h : ∀ v' w', w'.ownsRow base 45 2 v' (n + m) (avals (zs ++ ys)) → w.grownBy w' v.ownBlock → wpList Try.prog ops Q rest (a.put o.dst v') w') : wpList Try.prog ops Q (o :: rest) a w := by
  obtain ⟨i0, hi, hz0, hz1, hz2⟩ := info_parts Try.infoA
  have hl := hys.len
  cases xa with
  | none =>
    have hc0 := hys.nil_ rfl
    have hcl := hys.capLe
    obtain rfl : m = 0 := by omega
    subst hc0
    have hy0 : ys = [] := List.eq_nil_of_length_eq_zero hl
    subst hy0
    refine wpList_append_own_none hgd s x 41 ho base 45 i0 2 Try.underlying41 hi v n (avals zs) hs hown hx ?_
    exact h v w (by rw [List.append_nil]; exact hown) ⟨rfl, rfl, rfl, Nat.le_refl _, fun _ _ _ => rfl⟩
  | some ad =>
    refine wpList_append_own w hgd s x 41 ho base 45 i0 _ 2 16 Try.underlying41 hi hz0 hz1 hz2 rfl (by decide) v n (avals zs) hs hown ad m c (avals ys) hx (by rw [avals_len, hl]) ?_ (avals_one ys) (by unfold maxLen; omega) (by omega) hbase fun v' w' h1 h2 _ => h v' w' (by rw [avals_app]; exact h1) h2
    intro j u hu
    have hj : 0 < m := by
      have := (List.getElem?_eq_some_iff.1 hu).1
      rw [avals_len] at this; omega
    obtain ⟨b, off, e, _, hc⟩ := hys.at_ hj
    cases e
    rw [← hys.news j u hu]
    congr 1
    unfold Addr.add; split <;> simp_all
/-- The place where an arc goes. -/
theorem ins_at {S M : List Arc} {x : Arc} {at_ : Nat} (hp : S.Perm M) (ha : Asc S) (hle : at_ ≤ S.length) (hgt : ∀ j, at_ ≤ j → j < S.length → x.1 < (ar S j).1) (hst : at_ = 0 ∨ (ar S (at_ - 1)).1 ≤ x.1) :
    ((([] ++ S.take at_) ++ [x]) ++ S.drop at_).Perm (M ++ [x]) ∧ Asc ((([] ++ S.take at_) ++ [x]) ++ S.drop at_) := by
  rw [List.nil_append]
  constructor
  · have h1 : ((S.take at_ ++ [x]) ++ S.drop at_).Perm ((S.take at_ ++ S.drop at_) ++ [x]) := by
      rw [List.append_assoc, List.append_assoc]
      exact (List.perm_append_comm (l₁ := [x])).append_left _
    rw [List.take_append_drop] at h1
    exact h1.trans (hp.append_right _)
  · have hsplit : Asc (S.take at_ ++ S.drop at_) := by rw [List.take_append_drop]; exact ha
    obtain ⟨p1, p2, p3⟩ := List.pairwise_append.1 hsplit
    have low : ∀ y ∈ S.take at_, y.1 ≤ x.1 := by
      intro y hy
      obtain ⟨i, hi, e⟩ := List.getElem_of_mem hy
      rw [List.length_take] at hi
      rw [List.getElem_take] at e
      have hyi : ar S i = y := by
        have := ar_get (L := S) (i := i) (by omega)
        rw [List.getElem?_eq_getElem (by omega), e] at this
        exact (Option.some.inj this).symm
      rcases hst with h0 | h0
      · omega
      · refine Int.le_trans ?_ h0
        rcases Nat.lt_or_ge i (at_ - 1) with g | g
        · have := List.pairwise_iff_getElem.1 ha i (at_ - 1) (by omega) (by omega) g
          have e2 : ar S (at_ - 1) = S[at_ - 1] := by
            have := ar_get (L := S) (i := at_ - 1) (by omega)
            rw [List.getElem?_eq_getElem (by omega)] at this
            exact (Option.some.inj this).symm
          rw [e2, ← e]; exact this
        · have : i = at_ - 1 := by omega
          rw [← this, hyi]; exact Int.le_refl _
    have high : ∀ y ∈ S.drop at_, x.1 ≤ y.1 := by
      intro y hy
      obtain ⟨i, hi, e⟩ := List.getElem_of_mem hy
      rw [List.length_drop] at hi
      rw [List.getElem_drop] at e
      have hyi : ar S (at_ + i) = y := by
        have := ar_get (L := S) (i := at_ + i) (by omega)
        rw [List.getElem?_eq_getElem (by omega), e] at this
        exact (Option.some.inj this).symm
      rw [← hyi]
      exact Int.le_of_lt (hgt _ (by omega) (by omega))
    refine List.pairwise_append.2 ⟨List.pairwise_append.2 ⟨p1, List.pairwise_singleton _ _, fun y hy z hz => ?_⟩, p2, fun y hy z hz => ?_⟩
    · simp at hz; subst hz; exact low y hy
    · rcases List.mem_append.1 hy with hy | hy
      · exact p3 y hy z hz
      · simp at hy; subst hy; exact high z hz

set_option maxRecDepth 100000 in
set_option maxHeartbeats 6400000 in
theorem rsorted_any (w : World) (a : Option Addr) (n cap : Nat) (L : List Arc) (h : IsArcs w a n cap L) (hn : n ≤ 100000) (hd : Dif L) :
    Calls Try.prog 44 #[.slice a n cap] w fun e w' => ∃ v', e = .returned v' ∧ w'.ownsRow w.heap.size 45 2 v' n (avals (srt L)) ∧ Below w.heap.size w w' := by
  have hm := h.maxLe
  have hc := h.capLe
  unfold maxLen at hm
  have HL := Lib.hid h.len
  have H := Lib.hid h
  have HD := Lib.hid hd
  clear h hd
  go_enter Try.func44, Try.ntmps44
  go_wp2
  go_loopw [3, 4] (fun o v wr => ∃ (k : Nat) (S : List Arc), k ≤ n ∧ v = .int .i64 k ∧ Hid (wr.ownsRow w.heap.size 45 2 o k (avals S)) ∧ Hid (S.Perm (L.take k)) ∧ Hid (Asc S) ∧ Hid (Below w.heap.size w wr)) (fun _ v _ => n - (intOf v).toNat)
  case atStart => exact ⟨0, [], Nat.zero_le _, rfl, World.ownsRow_nil _ _ _ _, List.Perm.refl _, List.Pairwise.nil, Below.refl _ _⟩
  case round =>
    obtain ⟨k, S, hk, rfl, hrow, hP, hA, hB⟩ := hrel
    have hws := hB.out.size
    by_cases hlt : k < n
    · obtain ⟨b, off, rfl, hbl, hx⟩ := H.out.at_ (by omega)
      have HX := Lib.hid (hx k hlt)
      have hkl : k < L.length := by rw [HL.out]; exact hlt
      have HRX := Lib.hid (H.out.rng _ (ar_mem hkl))
      have HTK := Lib.hid (take_ar hkl)
      have HBL := Lib.hid hbl
      have hSl : Hid (S.length = k) := by
        show _ = _
        have := hrow.out.1
        rw [avals_len] at this; omega
      have HSR : Hid (∀ x ∈ S, R64 x.1) := fun x hx => H.out.rng x (List.mem_of_mem_take (hP.out.mem_iff.1 hx))
      obtain ⟨x, hxe⟩ : ∃ x, ar L k = x := ⟨_, rfl⟩
      rw [hxe] at HX HRX HTK
      clear hx hkl hxe hbl
      have hi0 : (0 : Int) ≤ (k : Int) := by omega
      have hi1 : (k : Int) < (n : Int) := by omega
      have hrow2 := hrow.out
      obtain ⟨w0, hw0⟩ : ∃ w0 : World, w0 = wr := ⟨_, rfl⟩
      subst hw0
      obtain ⟨k1, ⟨rfl, k3⟩ | ⟨g, cap2, cur, rfl, kB, kg, kr1, kr2, kr3⟩⟩ := hrow2
      · subst k3
        have hS0 : S = [] := List.eq_nil_of_length_eq_zero hSl.out
        subst hS0
        have NXT : Hid ((((([] : List Arc) ++ []) ++ [x]) ++ []).Perm (L.take (0 + 1)) ∧ Asc (((([] : List Arc) ++ []) ++ [x]) ++ [])) := by
          show _ ∧ _
          rw [HTK.out]
          exact ins_at hP.out hA.out (Nat.zero_le _) (fun j _ h => absurd h (Nat.not_lt_zero _)) (.inl rfl)
        clear k1
        go_wp2
        go_loopw [5] (fun v wi => v = .int .i64 0 ∧ Hid (Below w0.heap.size w0 wi)) (fun _ _ => 0)
        case atStart => exact ⟨rfl, Below.refl _ _⟩
        case round =>
          obtain ⟨rfl, hBi⟩ := hrel
          go_wp2_with fail
          refine wp_region_noPanic ?_
          refine wp_region_held_drew (S := fun _ => True) (by kernel_rfl) ?_ (fun hHeld => ?_)
          · trivial
          refine wpAnyH_take (i := 0) (oi := ⟨some 15, _, _, _, _, _⟩) (v := ?_) rfl (by kernel_rfl) (by kernel_rfl) (by kernel_rfl) (fun _ _ _ h => h) (Or.inl ⟨by kernel_rfl, ?_⟩) (by assumption) ?_; rotate_left
          · intro w hSw; (try dsimp only at hSw); go_simp; (try with_reducible rfl)
          simp only [Act.put, List.setIfInBounds_toArray, List.set_cons_zero, List.set_cons_succ]
          refine wpAnyH_take (i := 1) (oi := ⟨some 16, _, _, _, _, _⟩) (v := ?_) rfl (by kernel_rfl) (by kernel_rfl) (by kernel_rfl) (fun _ _ _ h => h) (Or.inl ⟨by kernel_rfl, ?_⟩) (by assumption) ?_; rotate_left
          · intro w hSw; (try dsimp only at hSw); go_simp; (try with_reducible rfl)
          simp only [Act.put, List.setIfInBounds_toArray, List.set_cons_zero, List.set_cons_succ]
          refine wpAnyH_take (i := 2) (oi := ⟨some 17, _, _, _, _, _⟩) (v := ?_) rfl (by kernel_rfl) (by kernel_rfl) (by kernel_rfl) (fun _ _ _ h => h) (Or.inl ⟨by kernel_rfl, ?_⟩) (by assumption) ?_; rotate_left
          · intro w hSw; (try dsimp only at hSw); go_simp; (try with_reducible rfl)
          simp only [Act.put, List.setIfInBounds_toArray, List.set_cons_zero, List.set_cons_succ]
          refine wpAnyH_take (i := 3) (oi := ⟨some 18, _, _, _, _, _⟩) (v := undef) rfl (by kernel_rfl) (by kernel_rfl) (by kernel_rfl) (fun _ _ _ h => h) (Or.inr ⟨by kernel_rfl, rfl⟩) (by assumption) ?_
          simp only [Act.put, List.setIfInBounds_toArray, List.set_cons_zero, List.set_cons_succ]
          refine wpAnyH_take (i := 4) (oi := ⟨some 19, _, _, _, _, _⟩) (v := undef) rfl (by kernel_rfl) (by kernel_rfl) (by kernel_rfl) (fun _ _ _ h => h) (Or.inr ⟨by kernel_rfl, rfl⟩) (by assumption) ?_
          simp only [Act.put, List.setIfInBounds_toArray, List.set_cons_zero, List.set_cons_succ]
          refine wpAnyH_take (i := 5) (oi := ⟨some 20, _, _, _, _, _⟩) (v := undef) rfl (by kernel_rfl) (by kernel_rfl) (by kernel_rfl) (fun _ _ _ h => h) (Or.inr ⟨by kernel_rfl, rfl⟩) (by assumption) ?_
          simp only [Act.put, List.setIfInBounds_toArray, List.set_cons_zero, List.set_cons_succ]
          refine wpAnyH_take (i := 6) (oi := ⟨some 21, _, _, _, _, _⟩) (v := undef) rfl (by kernel_rfl) (by kernel_rfl) (by kernel_rfl) (fun _ _ _ h => h) (Or.inr ⟨by kernel_rfl, rfl⟩) (by assumption) ?_
          simp only [Act.put, List.setIfInBounds_toArray, List.set_cons_zero, List.set_cons_succ]
          refine wpAnyH_take (i := 7) (oi := ⟨some 22, _, _, _, _, _⟩) (v := undef) rfl (by kernel_rfl) (by kernel_rfl) (by kernel_rfl) (fun _ _ _ h => h) (Or.inr ⟨by kernel_rfl, rfl⟩) (by assumption) ?_
          simp only [Act.put, List.setIfInBounds_toArray, List.set_cons_zero, List.set_cons_succ]
          refine wpAnyH_take (i := 8) (oi := ⟨some 23, _, _, _, _, _⟩) (v := undef) rfl (by kernel_rfl) (by kernel_rfl) (by kernel_rfl) (fun _ _ _ h => h) (Or.inr ⟨by kernel_rfl, rfl⟩) (by assumption) ?_
          simp only [Act.put, List.setIfInBounds_toArray, List.set_cons_zero, List.set_cons_succ]
          refine wpAnyH_take (i := 9) (oi := ⟨some 24, _, _, _, _, _⟩) (v := undef) rfl (by kernel_rfl) (by kernel_rfl) (by kernel_rfl) (fun _ _ _ h => h) (Or.inr ⟨by kernel_rfl, rfl⟩) (by assumption) ?_
          simp only [Act.put, List.setIfInBounds_toArray, List.set_cons_zero, List.set_cons_succ]
          refine wpAnyH_take (i := 10) (oi := ⟨some 25, _, _, _, _, _⟩) (v := undef) rfl (by kernel_rfl) (by kernel_rfl) (by kernel_rfl) (fun _ _ _ h => h) (Or.inr ⟨by kernel_rfl, rfl⟩) (by assumption) ?_
          simp only [Act.put, List.setIfInBounds_toArray, List.set_cons_zero, List.set_cons_succ]
          refine wpAnyH_take (i := 11) (oi := ⟨some 26, _, _, _, _, _⟩) (v := undef) rfl (by kernel_rfl) (by kernel_rfl) (by kernel_rfl) (fun _ _ _ h => h) (Or.inr ⟨by kernel_rfl, rfl⟩) (by assumption) ?_
          simp only [Act.put, List.setIfInBounds_toArray, List.set_cons_zero, List.set_cons_succ]
          refine wpAnyH_take (i := 12) (oi := ⟨some 27, _, _, _, _, _⟩) (v := undef) rfl (by kernel_rfl) (by kernel_rfl) (by kernel_rfl) (fun _ _ _ h => h) (Or.inr ⟨by kernel_rfl, rfl⟩) (by assumption) ?_
          simp only [Act.put, List.setIfInBounds_toArray, List.set_cons_zero, List.set_cons_succ]
          refine wpAnyH_take (i := 13) (oi := ⟨some 28, _, _, _, _, _⟩) (v := undef) rfl (by kernel_rfl) (by kernel_rfl) (by kernel_rfl) (fun _ _ _ h => h) (Or.inr ⟨by kernel_rfl, rfl⟩) (by assumption) ?_
          simp only [Act.put, List.setIfInBounds_toArray, List.set_cons_zero, List.set_cons_succ]
          refine wpAnyH_take (i := 14) (oi := ⟨some 29, _, _, _, _, _⟩) (v := undef) rfl (by kernel_rfl) (by kernel_rfl) (by kernel_rfl) (fun _ _ _ h => h) (Or.inr ⟨by kernel_rfl, rfl⟩) (by assumption) ?_
          simp only [Act.put, List.setIfInBounds_toArray, List.set_cons_zero, List.set_cons_succ]
          refine wpAnyH_take (i := 15) (oi := ⟨some 30, _, _, _, _, _⟩) (v := ?_) rfl (by kernel_rfl) (by kernel_rfl) (by kernel_rfl) (fun _ _ _ h => h) (Or.inl ⟨by kernel_rfl, ?_⟩) (by assumption) ?_; rotate_left
          · intro w hSw; (try dsimp only at hSw); go_simp; (try with_reducible rfl)
          simp only [Act.put, List.setIfInBounds_toArray, List.set_cons_zero, List.set_cons_succ]
          refine wpAnyH_done (by kernel_rfl) ?_ _
          refine NoPanic.normal ?_
          have hBw : Below w.heap.size w wr.drew := hB.out.trans (hBi.out.drew.mono hws)
          have BX := Lib.hid hBw
          have LB := Lib.hid (Nat.lt_of_lt_of_le HBL.out hBw.size)
          have c0 : wr.drew.cell? ⟨b, off, none⟩ = some (.int .i64 x.1) := (hBw.cell (p := ⟨b, off, none⟩) HBL.out).trans HX.out.1
          have c1 : wr.drew.cell? ⟨b, off + 1, none⟩ = some (.int .i64 x.2) := (hBw.cell (p := ⟨b, off + 1, none⟩) HBL.out).trans HX.out.2
          obtain ⟨wj, hwj⟩ : ∃ wj : World, wj = wr.drew := ⟨_, rfl⟩
          rw [← hwj] at BX LB c0 c1 ⊢
          clear hwj hBw
          have ROW0 := Lib.hid (World.ownsRow_nil wj wj.heap.size 45 2)
          have tok1 : True := trivial
          have tok2 : True := trivial
          have tok3 : True := trivial
          go_wp2_with (first
            | (at_builtin; have _t := tok1; refine wpList_append_arcs rfl _ _ rfl wj.heap.size _ 0 [] rfl ROW0.out none 0 0 [] rfl (IsArcs.nil _) (by omega) (Nat.le_refl _) ?_; intro v1 w1 hown1 hgrow1; have R1 := Lib.hid hown1; have B1 := Lib.hid (grown_below (Below.refl _ _) (Nat.le_refl _) ROW0.out hgrow1); have hz1 := hgrow1.size; have c2 : w1.cell? ⟨b, off, none⟩ = some (.int .i64 x.1) := (B1.out.cell (p := ⟨b, off, none⟩) LB.out).trans c0; have c3 : w1.cell? ⟨b, off + 1, none⟩ = some (.int .i64 x.2) := (B1.out.cell (p := ⟨b, off + 1, none⟩) LB.out).trans c1; clear hown1 hgrow1 tok1)
            | (at_builtin; have _t := tok2; refine wpList_append_arcs rfl _ _ rfl wj.heap.size _ _ _ rfl (R1.out.alloc _) _ 1 1 [x] rfl (IsArcs.one w1 x HRX.out) (by omega) (by simp; omega) ?_; intro v2 w2 hown2 hgrow2; have R2 := Lib.hid hown2; have B2 := Lib.hid (grown_below (B1.out.alloc hz1 _) (by simp; omega) (R1.out.alloc _) hgrow2); have hz2 := hgrow2.size; clear hown2 hgrow2 tok2)
            | (at_builtin; have _t := tok3; refine wpList_append_arcs rfl _ _ rfl wj.heap.size _ _ _ rfl R2.out none 0 0 [] rfl (IsArcs.nil _) (by omega) (by have := B2.out.size; omega) ?_; intro v3 w3 hown3 hgrow3; have R3 := Lib.hid hown3; have B3 := Lib.hid (grown_below B2.out B2.out.size R2.out hgrow3); clear hown3 hgrow3 tok3))
          go_roundw
          case rel => exact ⟨0 + 1, _, by omega, by go_num, (by exact owns_base R3.out BX.out.size), NXT.out.1, NXT.out.2, BX.out.trans (B3.out.mono BX.out.size)⟩
          case measure => simp [intOf]; omega
      · have hIS : IsArcs w0 (some ⟨g, 0, none⟩) k cap2 S := by
          obtain ⟨a', c', e, h'⟩ := IsArcs.of_owns hrow.out HSR.out
          cases e
          exact h'
        have HS := Lib.hid hIS
        unfold maxLen at kr2
        clear hIS kg kr3 k1
        go_wp2
        go_loopw [5] (fun v wi => ∃ t : Nat, t ≤ k ∧ v = .int .i64 t ∧ Hid (∀ j, t ≤ j → j < S.length → x.1 < (ar S j).1) ∧ Hid (Below w0.heap.size w0 wi)) (fun v _ => (intOf v).toNat)
        case atStart => exact ⟨k, Nat.le_refl _, rfl, fun j h1 h2 => (by rw [hSl.out] at h2; omega), Below.refl _ _⟩
        case round =>
          obtain ⟨t, ht, rfl, hall, hBi⟩ := hrel
          have AK := Lib.hid ht
          cases t with
          | zero =>
            have NXT : Hid ((((([] : List Arc) ++ S.take 0) ++ [x]) ++ S.drop 0).Perm (L.take (k + 1)) ∧ Asc (((([] : List Arc) ++ S.take 0) ++ [x]) ++ S.drop 0)) := by
              show _ ∧ _
              rw [HTK.out]
              exact ins_at hP.out hA.out (Nat.zero_le _) hall.out (.inl rfl)
            clear hall
            go_wp2_with fail
            refine wp_region_noPanic ?_
            refine wp_region_held_drew (S := fun _ => True) (by kernel_rfl) ?_ (fun hHeld => ?_)
            · trivial
            refine wpAnyH_take (i := 0) (oi := ⟨some 15, _, _, _, _, _⟩) (v := ?_) rfl (by kernel_rfl) (by kernel_rfl) (by kernel_rfl) (fun _ _ _ h => h) (Or.inl ⟨by kernel_rfl, ?_⟩) (by assumption) ?_; rotate_left
            · intro w hSw; (try dsimp only at hSw); go_simp; (try with_reducible rfl)
            simp only [Act.put, List.setIfInBounds_toArray, List.set_cons_zero, List.set_cons_succ]
            refine wpAnyH_take (i := 1) (oi := ⟨some 16, _, _, _, _, _⟩) (v := ?_) rfl (by kernel_rfl) (by kernel_rfl) (by kernel_rfl) (fun _ _ _ h => h) (Or.inl ⟨by kernel_rfl, ?_⟩) (by assumption) ?_; rotate_left
            · intro w hSw; (try dsimp only at hSw); go_simp; (try with_reducible rfl)
            simp only [Act.put, List.setIfInBounds_toArray, List.set_cons_zero, List.set_cons_succ]
            refine wpAnyH_take (i := 2) (oi := ⟨some 17, _, _, _, _, _⟩) (v := ?_) rfl (by kernel_rfl) (by kernel_rfl) (by kernel_rfl) (fun _ _ _ h => h) (Or.inl ⟨by kernel_rfl, ?_⟩) (by assumption) ?_; rotate_left
            · intro w hSw; (try dsimp only at hSw); go_simp; (try with_reducible rfl)
            simp only [Act.put, List.setIfInBounds_toArray, List.set_cons_zero, List.set_cons_succ]
            refine wpAnyH_take (i := 3) (oi := ⟨some 18, _, _, _, _, _⟩) (v := undef) rfl (by kernel_rfl) (by kernel_rfl) (by kernel_rfl) (fun _ _ _ h => h) (Or.inr ⟨by kernel_rfl, rfl⟩) (by assumption) ?_
            simp only [Act.put, List.setIfInBounds_toArray, List.set_cons_zero, List.set_cons_succ]
            refine wpAnyH_take (i := 4) (oi := ⟨some 19, _, _, _, _, _⟩) (v := undef) rfl (by kernel_rfl) (by kernel_rfl) (by kernel_rfl) (fun _ _ _ h => h) (Or.inr ⟨by kernel_rfl, rfl⟩) (by assumption) ?_
            simp only [Act.put, List.setIfInBounds_toArray, List.set_cons_zero, List.set_cons_succ]
            refine wpAnyH_take (i := 5) (oi := ⟨some 20, _, _, _, _, _⟩) (v := undef) rfl (by kernel_rfl) (by kernel_rfl) (by kernel_rfl) (fun _ _ _ h => h) (Or.inr ⟨by kernel_rfl, rfl⟩) (by assumption) ?_
            simp only [Act.put, List.setIfInBounds_toArray, List.set_cons_zero, List.set_cons_succ]
            refine wpAnyH_take (i := 6) (oi := ⟨some 21, _, _, _, _, _⟩) (v := undef) rfl (by kernel_rfl) (by kernel_rfl) (by kernel_rfl) (fun _ _ _ h => h) (Or.inr ⟨by kernel_rfl, rfl⟩) (by assumption) ?_
            simp only [Act.put, List.setIfInBounds_toArray, List.set_cons_zero, List.set_cons_succ]
            refine wpAnyH_take (i := 7) (oi := ⟨some 22, _, _, _, _, _⟩) (v := undef) rfl (by kernel_rfl) (by kernel_rfl) (by kernel_rfl) (fun _ _ _ h => h) (Or.inr ⟨by kernel_rfl, rfl⟩) (by assumption) ?_
            simp only [Act.put, List.setIfInBounds_toArray, List.set_cons_zero, List.set_cons_succ]
            refine wpAnyH_take (i := 8) (oi := ⟨some 23, _, _, _, _, _⟩) (v := undef) rfl (by kernel_rfl) (by kernel_rfl) (by kernel_rfl) (fun _ _ _ h => h) (Or.inr ⟨by kernel_rfl, rfl⟩) (by assumption) ?_
            simp only [Act.put, List.setIfInBounds_toArray, List.set_cons_zero, List.set_cons_succ]
            refine wpAnyH_take (i := 9) (oi := ⟨some 24, _, _, _, _, _⟩) (v := undef) rfl (by kernel_rfl) (by kernel_rfl) (by kernel_rfl) (fun _ _ _ h => h) (Or.inr ⟨by kernel_rfl, rfl⟩) (by assumption) ?_
            simp only [Act.put, List.setIfInBounds_toArray, List.set_cons_zero, List.set_cons_succ]
            refine wpAnyH_take (i := 10) (oi := ⟨some 25, _, _, _, _, _⟩) (v := undef) rfl (by kernel_rfl) (by kernel_rfl) (by kernel_rfl) (fun _ _ _ h => h) (Or.inr ⟨by kernel_rfl, rfl⟩) (by assumption) ?_
            simp only [Act.put, List.setIfInBounds_toArray, List.set_cons_zero, List.set_cons_succ]
            refine wpAnyH_take (i := 11) (oi := ⟨some 26, _, _, _, _, _⟩) (v := undef) rfl (by kernel_rfl) (by kernel_rfl) (by kernel_rfl) (fun _ _ _ h => h) (Or.inr ⟨by kernel_rfl, rfl⟩) (by assumption) ?_
            simp only [Act.put, List.setIfInBounds_toArray, List.set_cons_zero, List.set_cons_succ]
            refine wpAnyH_take (i := 12) (oi := ⟨some 27, _, _, _, _, _⟩) (v := undef) rfl (by kernel_rfl) (by kernel_rfl) (by kernel_rfl) (fun _ _ _ h => h) (Or.inr ⟨by kernel_rfl, rfl⟩) (by assumption) ?_
            simp only [Act.put, List.setIfInBounds_toArray, List.set_cons_zero, List.set_cons_succ]
            refine wpAnyH_take (i := 13) (oi := ⟨some 28, _, _, _, _, _⟩) (v := undef) rfl (by kernel_rfl) (by kernel_rfl) (by kernel_rfl) (fun _ _ _ h => h) (Or.inr ⟨by kernel_rfl, rfl⟩) (by assumption) ?_
            simp only [Act.put, List.setIfInBounds_toArray, List.set_cons_zero, List.set_cons_succ]
            refine wpAnyH_take (i := 14) (oi := ⟨some 29, _, _, _, _, _⟩) (v := undef) rfl (by kernel_rfl) (by kernel_rfl) (by kernel_rfl) (fun _ _ _ h => h) (Or.inr ⟨by kernel_rfl, rfl⟩) (by assumption) ?_
            simp only [Act.put, List.setIfInBounds_toArray, List.set_cons_zero, List.set_cons_succ]
            refine wpAnyH_take (i := 15) (oi := ⟨some 30, _, _, _, _, _⟩) (v := ?_) rfl (by kernel_rfl) (by kernel_rfl) (by kernel_rfl) (fun _ _ _ h => h) (Or.inl ⟨by kernel_rfl, ?_⟩) (by assumption) ?_; rotate_left
            · intro w hSw; (try dsimp only at hSw); go_simp; (try with_reducible rfl)
            simp only [Act.put, List.setIfInBounds_toArray, List.set_cons_zero, List.set_cons_succ]
            refine wpAnyH_done (by kernel_rfl) ?_ _
            refine NoPanic.normal ?_
            have hBw : Below w.heap.size w wr.drew := hB.out.trans (hBi.out.drew.mono hws)
            have BX := Lib.hid hBw
            have LB := Lib.hid (Nat.lt_of_lt_of_le HBL.out hBw.size)
            have c0 : wr.drew.cell? ⟨b, off + k * 2, none⟩ = some (.int .i64 x.1) := (hBw.cell (p := ⟨b, off + k * 2, none⟩) HBL.out).trans HX.out.1
            have c1 : wr.drew.cell? ⟨b, off + k * 2 + 1, none⟩ = some (.int .i64 x.2) := (hBw.cell (p := ⟨b, off + k * 2 + 1, none⟩) HBL.out).trans HX.out.2
            have IJ := Lib.hid (HS.out.below hBi.out.drew)
            obtain ⟨wj, hwj⟩ : ∃ wj : World, wj = wr.drew := ⟨_, rfl⟩
            rw [← hwj] at BX LB c0 c1 IJ ⊢
            clear hwj hBw
            have DR := Lib.hid (IJ.out.drop AK.out)
            by_cases hce : cap2 = 0
            · subst hce
              obtain rfl : k = 0 := by omega
              have hd0 : S.drop 0 = [] := List.drop_eq_nil_of_le (by rw [hSl.out]; exact Nat.le_refl _)
              rw [hd0] at NXT
              have c0 : wj.cell? ⟨b, off, none⟩ = some (.int .i64 x.1) := c0
              have c1 : wj.cell? ⟨b, off + 1, none⟩ = some (.int .i64 x.2) := c1
              have ROW0 := Lib.hid (World.ownsRow_nil wj wj.heap.size 45 2)
              have tok1 : True := trivial
              have tok2 : True := trivial
              have tok3 : True := trivial
              go_wp2_with (first
                | (at_builtin; have _t := tok1; refine wpList_append_arcs rfl _ _ rfl wj.heap.size _ 0 [] rfl ROW0.out _ 0 0 _ rfl (IJ.out.take AK.out) (by omega) (Nat.le_refl _) ?_; intro v1 w1 hown1 hgrow1; have R1 := Lib.hid hown1; have B1 := Lib.hid (grown_below (Below.refl _ _) (Nat.le_refl _) ROW0.out hgrow1); have hz1 := hgrow1.size; have c2 : w1.cell? ⟨b, off, none⟩ = some (.int .i64 x.1) := (B1.out.cell (p := ⟨b, off, none⟩) LB.out).trans c0; have c3 : w1.cell? ⟨b, off + 1, none⟩ = some (.int .i64 x.2) := (B1.out.cell (p := ⟨b, off + 1, none⟩) LB.out).trans c1; clear hown1 hgrow1 tok1)
                | (at_builtin; have _t := tok2; refine wpList_append_arcs rfl _ _ rfl wj.heap.size _ _ _ rfl (R1.out.alloc _) _ 1 1 [x] rfl (IsArcs.one w1 x HRX.out) (by omega) (by simp; omega) ?_; intro v2 w2 hown2 hgrow2; have R2 := Lib.hid hown2; have B2 := Lib.hid (grown_below (B1.out.alloc hz1 _) (by simp; omega) (R1.out.alloc _) hgrow2); have hz2 := hgrow2.size; clear hown2 hgrow2 tok2)
                | (at_builtin; have _t := tok3; refine wpList_append_arcs rfl _ _ rfl wj.heap.size _ _ _ rfl R2.out _ _ _ [] rfl (IsArcs.empty _ _ (by unfold maxLen; omega)) (by omega) (by have := B2.out.size; omega) ?_; intro v3 w3 hown3 hgrow3; have R3 := Lib.hid hown3; have B3 := Lib.hid (grown_below B2.out B2.out.size R2.out hgrow3); clear hown3 hgrow3 tok3))
              go_roundw
              case rel => exact ⟨0 + 1, _, by omega, by go_num, (by rw [show 0 + 1 = 0 + 0 + 1 + 0 by omega]; exact owns_base R3.out BX.out.size), NXT.out.1, NXT.out.2, BX.out.trans (B3.out.mono BX.out.size)⟩
              case measure => simp [intOf]; omega
            · have hkc : ¬ cap2 = 0 := hce
              have ROW0 := Lib.hid (World.ownsRow_nil wj wj.heap.size 45 2)
              have tok1 : True := trivial
              have tok2 : True := trivial
              have tok3 : True := trivial
              go_wp2_with (first
                | (at_builtin; have _t := tok1; refine wpList_append_arcs rfl _ _ rfl wj.heap.size _ 0 [] rfl ROW0.out _ 0 cap2 _ rfl (IJ.out.take AK.out) (by omega) (Nat.le_refl _) ?_; intro v1 w1 hown1 hgrow1; have R1 := Lib.hid hown1; have B1 := Lib.hid (grown_below (Below.refl _ _) (Nat.le_refl _) ROW0.out hgrow1); have hz1 := hgrow1.size; have c2 : w1.cell? ⟨b, off + k * 2, none⟩ = some (.int .i64 x.1) := (B1.out.cell (p := ⟨b, off + k * 2, none⟩) LB.out).trans c0; have c3 : w1.cell? ⟨b, off + k * 2 + 1, none⟩ = some (.int .i64 x.2) := (B1.out.cell (p := ⟨b, off + k * 2 + 1, none⟩) LB.out).trans c1; clear hown1 hgrow1 tok1)
                | (at_builtin; have _t := tok2; refine wpList_append_arcs rfl _ _ rfl wj.heap.size _ _ _ rfl (R1.out.alloc _) _ 1 1 [x] rfl (IsArcs.one w1 x HRX.out) (by omega) (by simp; omega) ?_; intro v2 w2 hown2 hgrow2; have R2 := Lib.hid hown2; have B2 := Lib.hid (grown_below (B1.out.alloc hz1 _) (by simp; omega) (R1.out.alloc _) hgrow2); have hz2 := hgrow2.size; clear hown2 hgrow2 tok2)
                | (at_builtin; have _t := tok3; refine wpList_append_arcs rfl _ _ rfl wj.heap.size _ _ _ rfl R2.out _ (k - 0) (cap2 - 0) _ rfl (DR.out.below B2.out) (by omega) (by have := B2.out.size; omega) ?_; intro v3 w3 hown3 hgrow3; have R3 := Lib.hid hown3; have B3 := Lib.hid (grown_below B2.out B2.out.size R2.out hgrow3); clear hown3 hgrow3 tok3))
              go_roundw
              case rel => exact ⟨k + 1, _, by omega, by go_num, (by rw [show k + 1 = 0 + 0 + 1 + (k - 0) by have := AK.out; omega]; exact owns_base R3.out BX.out.size), NXT.out.1, NXT.out.2, BX.out.trans (B3.out.mono BX.out.size)⟩
              case measure => simp [intOf]; omega
          | succ m =>
            have hsub : ((m + 1 : Nat) : Int) - 1 = (m : Int) := by omega
            have hwrap : IntKind.i64.wrap (m : Int) = (m : Int) := by rw [IntKind.wrap_i64]; omega
            have hm0 : (0 : Int) ≤ (m : Int) := by omega
            have hm1 : (m : Int) < (k : Int) := by omega
            have hm2 : (0 : Int) < ((m + 1 : Nat) : Int) := by omega
            have hBw : Below w.heap.size w wr := hB.out.trans (hBi.out.mono hws)
            have BX := Lib.hid hBw
            have LB := Lib.hid (Nat.lt_of_lt_of_le HBL.out hBw.size)
            have c0 : wr.cell? ⟨b, off + k * 2, none⟩ = some (.int .i64 x.1) := (hBw.cell (p := ⟨b, off + k * 2, none⟩) HBL.out).trans HX.out.1
            have c1 : wr.cell? ⟨b, off + k * 2 + 1, none⟩ = some (.int .i64 x.2) := (hBw.cell (p := ⟨b, off + k * 2 + 1, none⟩) HBL.out).trans HX.out.2
            have d0 : wr.cell? ⟨g, m * 2, none⟩ = some (.int .i64 (ar S m).1) := by
              obtain ⟨b2, o2, e, _, hcs⟩ := (HS.out.below hBi.out).at_ (by omega)
              cases e
              have := (hcs m (by omega)).1
              rwa [Nat.zero_add] at this
            obtain ⟨f, hf⟩ : ∃ f, (ar S m).1 = f := ⟨_, rfl⟩
            rw [hf] at d0
            have HF := Lib.hid hf
            clear hf hBw BX LB
            obtain ⟨q, hq⟩ : ∃ q, m + 1 = q := ⟨_, rfl⟩
            have HQ := Lib.hid hq
            rw [hq] at hsub hm2 hall AK ht ⊢
            have hm5 : 0 < q := by omega
            have hm3 : decide ((0 : Int) < (q : Int)) = true := decide_eq_true hm2
            have hm4 : decide (0 < q) = true := decide_eq_true hm5
            clear hq
            by_cases hgt : x.1 < f
            · have hall' : Hid (∀ j, m ≤ j → j < S.length → x.1 < (ar S j).1) := fun j h1 h2 => by
                rcases Nat.lt_or_ge m j with e | e
                · exact hall.out j (by have := HQ.out; omega) h2
                · have : j = m := by omega
                  rw [this, HF.out]; exact hgt
              clear hall
              go_wp2_with fail
              refine wp_region_noPanic ?_
              refine wp_region_held_drew (S := fun w' => w'.cell? ⟨g, m * 2, none⟩ = some (.int .i64 f) ∧ w'.cell? ⟨b, off + k * 2, none⟩ = some (.int .i64 x.1)) (by kernel_rfl) ?_ (fun hHeld => ?_)
              · exact ⟨d0, c0⟩
              refine wpAnyH_take (i := 0) (oi := ⟨some 15, _, _, _, _, _⟩) (v := ?_) rfl (by kernel_rfl) (by kernel_rfl) (by kernel_rfl) (fun _ _ _ h => h) (Or.inl ⟨by kernel_rfl, ?_⟩) (by assumption) ?_; rotate_left
              · intro w hSw; (try dsimp only at hSw); go_simp; (try with_reducible rfl)
              simp only [Act.put, List.setIfInBounds_toArray, List.set_cons_zero, List.set_cons_succ]
              refine wpAnyH_take (i := 1) (oi := ⟨some 16, _, _, _, _, _⟩) (v := ?_) rfl (by kernel_rfl) (by kernel_rfl) (by kernel_rfl) (fun _ _ _ h => h) (Or.inl ⟨by kernel_rfl, ?_⟩) (by assumption) ?_; rotate_left
              · intro w hSw; (try dsimp only at hSw); go_simp; (try with_reducible rfl)
              simp only [Act.put, List.setIfInBounds_toArray, List.set_cons_zero, List.set_cons_succ]
              refine wpAnyH_take (i := 2) (oi := ⟨some 17, _, _, _, _, _⟩) (v := ?_) rfl (by kernel_rfl) (by kernel_rfl) (by kernel_rfl) (fun _ _ _ h => h) (Or.inl ⟨by kernel_rfl, ?_⟩) (by assumption) ?_; rotate_left
              · intro w hSw; (try dsimp only at hSw); go_simp; (try with_reducible rfl)
              simp only [Act.put, List.setIfInBounds_toArray, List.set_cons_zero, List.set_cons_succ]
              refine wpAnyH_take (i := 3) (oi := ⟨some 18, _, _, _, _, _⟩) (v := ?_) rfl (by kernel_rfl) (by kernel_rfl) (by kernel_rfl) (fun _ _ _ h => h) (Or.inl ⟨by kernel_rfl, ?_⟩) (by assumption) ?_; rotate_left
              · intro w hSw; (try dsimp only at hSw); go_simp; (try with_reducible rfl)
              simp only [Act.put, List.setIfInBounds_toArray, List.set_cons_zero, List.set_cons_succ]
              refine wpAnyH_take (i := 4) (oi := ⟨some 19, _, _, _, _, _⟩) (v := ?_) rfl (by kernel_rfl) (by kernel_rfl) (by kernel_rfl) (fun _ _ _ h => h) (Or.inl ⟨by kernel_rfl, ?_⟩) (by assumption) ?_; rotate_left
              · intro w hSw; (try dsimp only at hSw); go_simp; (try with_reducible rfl)
              simp only [Act.put, List.setIfInBounds_toArray, List.set_cons_zero, List.set_cons_succ]
              refine wpAnyH_take (i := 5) (oi := ⟨some 20, _, _, _, _, _⟩) (v := ?_) rfl (by kernel_rfl) (by kernel_rfl) (by kernel_rfl) (fun _ _ _ h => h) (Or.inl ⟨by kernel_rfl, ?_⟩) (by assumption) ?_; rotate_left
              · intro w hSw; (try dsimp only at hSw); go_simp; (try with_reducible rfl)
              simp only [Act.put, List.setIfInBounds_toArray, List.set_cons_zero, List.set_cons_succ]
              refine wpAnyH_take (i := 6) (oi := ⟨some 21, _, _, _, _, _⟩) (v := ?_) rfl (by kernel_rfl) (by kernel_rfl) (by kernel_rfl) (fun _ _ _ h => h) (Or.inl ⟨by kernel_rfl, ?_⟩) (by assumption) ?_; rotate_left
              · intro w hSw; (try dsimp only at hSw); go_simp; (try with_reducible rfl)
              simp only [Act.put, List.setIfInBounds_toArray, List.set_cons_zero, List.set_cons_succ]
              refine wpAnyH_take (i := 7) (oi := ⟨some 22, _, _, _, _, _⟩) (v := ?_) rfl (by kernel_rfl) (by kernel_rfl) (by kernel_rfl) (fun _ _ _ h => h) (Or.inl ⟨by kernel_rfl, ?_⟩) (by assumption) ?_; rotate_left
              · intro w hSw; (try dsimp only at hSw); go_simp; (try with_reducible rfl)
              simp only [Act.put, List.setIfInBounds_toArray, List.set_cons_zero, List.set_cons_succ]
              refine wpAnyH_take (i := 8) (oi := ⟨some 23, _, _, _, _, _⟩) (v := ?_) rfl (by kernel_rfl) (by kernel_rfl) (by kernel_rfl) (fun _ _ _ h => h) (Or.inl ⟨by kernel_rfl, ?_⟩) (by assumption) ?_; rotate_left
              · intro w hSw; (try dsimp only at hSw); go_simp; (try with_reducible rfl)
              simp only [Act.put, List.setIfInBounds_toArray, List.set_cons_zero, List.set_cons_succ]
              refine wpAnyH_take (i := 9) (oi := ⟨some 24, _, _, _, _, _⟩) (v := ?_) rfl (by kernel_rfl) (by kernel_rfl) (by kernel_rfl) (fun _ _ _ h => h) (Or.inl ⟨by kernel_rfl, ?_⟩) (by assumption) ?_; rotate_left
              · intro w hSw; (try dsimp only at hSw); go_simp; (try with_reducible rfl)
              simp only [Act.put, List.setIfInBounds_toArray, List.set_cons_zero, List.set_cons_succ]
              refine wpAnyH_take (i := 10) (oi := ⟨some 25, _, _, _, _, _⟩) (v := ?_) rfl (by kernel_rfl) (by kernel_rfl) (by kernel_rfl) (fun _ _ _ h => h) (Or.inl ⟨by kernel_rfl, ?_⟩) (by assumption) ?_; rotate_left
              · intro w hSw; (try dsimp only at hSw); go_simp; (try with_reducible rfl)
              simp only [Act.put, List.setIfInBounds_toArray, List.set_cons_zero, List.set_cons_succ]
              refine wpAnyH_take (i := 11) (oi := ⟨some 26, _, _, _, _, _⟩) (v := ?_) rfl (by kernel_rfl) (by kernel_rfl) (by kernel_rfl) (fun _ _ _ h => h) (Or.inl ⟨by kernel_rfl, ?_⟩) (by assumption) ?_; rotate_left
              · intro w hSw; (try dsimp only at hSw); go_simp; (try with_reducible rfl)
              simp only [Act.put, List.setIfInBounds_toArray, List.set_cons_zero, List.set_cons_succ]
              refine wpAnyH_take (i := 12) (oi := ⟨some 27, _, _, _, _, _⟩) (v := ?_) rfl (by kernel_rfl) (by kernel_rfl) (by kernel_rfl) (fun _ _ _ h => h) (Or.inl ⟨by kernel_rfl, ?_⟩) (by assumption) ?_; rotate_left
              · intro w hSw; (try dsimp only at hSw); go_simp; (try with_reducible rfl)
              simp only [Act.put, List.setIfInBounds_toArray, List.set_cons_zero, List.set_cons_succ]
              refine wpAnyH_take (i := 13) (oi := ⟨some 28, _, _, _, _, _⟩) (v := ?_) rfl (by kernel_rfl) (by kernel_rfl) (by kernel_rfl) (fun _ _ _ h => h) (Or.inl ⟨by kernel_rfl, ?_⟩) (by assumption) ?_; rotate_left
              · intro w hSw; (try dsimp only at hSw); go_simp; (try with_reducible rfl)
              simp only [Act.put, List.setIfInBounds_toArray, List.set_cons_zero, List.set_cons_succ]
              refine wpAnyH_take (i := 14) (oi := ⟨some 29, _, _, _, _, _⟩) (v := ?_) rfl (by kernel_rfl) (by kernel_rfl) (by kernel_rfl) (fun _ _ _ h => h) (Or.inl ⟨by kernel_rfl, ?_⟩) (by assumption) ?_; rotate_left
              · intro w hSw; (try dsimp only at hSw); go_simp; (try with_reducible rfl)
              simp only [Act.put, List.setIfInBounds_toArray, List.set_cons_zero, List.set_cons_succ]
              refine wpAnyH_take (i := 15) (oi := ⟨some 30, _, _, _, _, _⟩) (v := ?_) rfl (by kernel_rfl) (by kernel_rfl) (by kernel_rfl) (fun _ _ _ h => h) (Or.inl ⟨by kernel_rfl, ?_⟩) (by assumption) ?_; rotate_left
              · intro w hSw; (try dsimp only at hSw); go_simp; (try with_reducible rfl)
              simp only [Act.put, List.setIfInBounds_toArray, List.set_cons_zero, List.set_cons_succ]
              refine wpAnyH_done (by kernel_rfl) ?_ _
              refine NoPanic.normal ?_
              go_wp2
              go_roundw
              case rel => exact ⟨m, by have := HQ.out; omega, by simp [hsub], hall', hBi.out.drew⟩
              case measure => have := HQ.out; simp [intOf]; omega
            · have NXT : Hid ((((([] : List Arc) ++ S.take q) ++ [x]) ++ S.drop q).Perm (L.take (k + 1)) ∧ Asc (((([] : List Arc) ++ S.take q) ++ [x]) ++ S.drop q)) := by
                show _ ∧ _
                rw [HTK.out]
                exact ins_at hP.out hA.out (by rw [hSl.out]; exact AK.out) hall.out (.inr (by rw [show q - 1 = m by have := HQ.out; omega, HF.out]; omega))
              clear hall
              go_wp2_with fail
              refine wp_region_noPanic ?_
              refine wp_region_held_drew (S := fun w' => w'.cell? ⟨g, m * 2, none⟩ = some (.int .i64 f) ∧ w'.cell? ⟨b, off + k * 2, none⟩ = some (.int .i64 x.1)) (by kernel_rfl) ?_ (fun hHeld => ?_)
              · exact ⟨d0, c0⟩
              refine wpAnyH_take (i := 0) (oi := ⟨some 15, _, _, _, _, _⟩) (v := ?_) rfl (by kernel_rfl) (by kernel_rfl) (by kernel_rfl) (fun _ _ _ h => h) (Or.inl ⟨by kernel_rfl, ?_⟩) (by assumption) ?_; rotate_left
              · intro w hSw; (try dsimp only at hSw); go_simp; (try with_reducible rfl)
              simp only [Act.put, List.setIfInBounds_toArray, List.set_cons_zero, List.set_cons_succ]
              refine wpAnyH_take (i := 1) (oi := ⟨some 16, _, _, _, _, _⟩) (v := ?_) rfl (by kernel_rfl) (by kernel_rfl) (by kernel_rfl) (fun _ _ _ h => h) (Or.inl ⟨by kernel_rfl, ?_⟩) (by assumption) ?_; rotate_left
              · intro w hSw; (try dsimp only at hSw); go_simp; (try with_reducible rfl)
              simp only [Act.put, List.setIfInBounds_toArray, List.set_cons_zero, List.set_cons_succ]
              refine wpAnyH_take (i := 2) (oi := ⟨some 17, _, _, _, _, _⟩) (v := ?_) rfl (by kernel_rfl) (by kernel_rfl) (by kernel_rfl) (fun _ _ _ h => h) (Or.inl ⟨by kernel_rfl, ?_⟩) (by assumption) ?_; rotate_left
              · intro w hSw; (try dsimp only at hSw); go_simp; (try with_reducible rfl)
              simp only [Act.put, List.setIfInBounds_toArray, List.set_cons_zero, List.set_cons_succ]
              refine wpAnyH_take (i := 3) (oi := ⟨some 18, _, _, _, _, _⟩) (v := ?_) rfl (by kernel_rfl) (by kernel_rfl) (by kernel_rfl) (fun _ _ _ h => h) (Or.inl ⟨by kernel_rfl, ?_⟩) (by assumption) ?_; rotate_left
              · intro w hSw; (try dsimp only at hSw); go_simp; (try with_reducible rfl)
              simp only [Act.put, List.setIfInBounds_toArray, List.set_cons_zero, List.set_cons_succ]
              refine wpAnyH_take (i := 4) (oi := ⟨some 19, _, _, _, _, _⟩) (v := ?_) rfl (by kernel_rfl) (by kernel_rfl) (by kernel_rfl) (fun _ _ _ h => h) (Or.inl ⟨by kernel_rfl, ?_⟩) (by assumption) ?_; rotate_left
              · intro w hSw; (try dsimp only at hSw); go_simp; (try with_reducible rfl)
              simp only [Act.put, List.setIfInBounds_toArray, List.set_cons_zero, List.set_cons_succ]
              refine wpAnyH_take (i := 5) (oi := ⟨some 20, _, _, _, _, _⟩) (v := ?_) rfl (by kernel_rfl) (by kernel_rfl) (by kernel_rfl) (fun _ _ _ h => h) (Or.inl ⟨by kernel_rfl, ?_⟩) (by assumption) ?_; rotate_left
              · intro w hSw; (try dsimp only at hSw); go_simp; (try with_reducible rfl)
              simp only [Act.put, List.setIfInBounds_toArray, List.set_cons_zero, List.set_cons_succ]
              refine wpAnyH_take (i := 6) (oi := ⟨some 21, _, _, _, _, _⟩) (v := ?_) rfl (by kernel_rfl) (by kernel_rfl) (by kernel_rfl) (fun _ _ _ h => h) (Or.inl ⟨by kernel_rfl, ?_⟩) (by assumption) ?_; rotate_left
              · intro w hSw; (try dsimp only at hSw); go_simp; (try with_reducible rfl)
              simp only [Act.put, List.setIfInBounds_toArray, List.set_cons_zero, List.set_cons_succ]
              refine wpAnyH_take (i := 7) (oi := ⟨some 22, _, _, _, _, _⟩) (v := ?_) rfl (by kernel_rfl) (by kernel_rfl) (by kernel_rfl) (fun _ _ _ h => h) (Or.inl ⟨by kernel_rfl, ?_⟩) (by assumption) ?_; rotate_left
              · intro w hSw; (try dsimp only at hSw); go_simp; (try with_reducible rfl)
              simp only [Act.put, List.setIfInBounds_toArray, List.set_cons_zero, List.set_cons_succ]
              refine wpAnyH_take (i := 8) (oi := ⟨some 23, _, _, _, _, _⟩) (v := ?_) rfl (by kernel_rfl) (by kernel_rfl) (by kernel_rfl) (fun _ _ _ h => h) (Or.inl ⟨by kernel_rfl, ?_⟩) (by assumption) ?_; rotate_left
              · intro w hSw; (try dsimp only at hSw); go_simp; (try with_reducible rfl)
              simp only [Act.put, List.setIfInBounds_toArray, List.set_cons_zero, List.set_cons_succ]
              refine wpAnyH_take (i := 9) (oi := ⟨some 24, _, _, _, _, _⟩) (v := ?_) rfl (by kernel_rfl) (by kernel_rfl) (by kernel_rfl) (fun _ _ _ h => h) (Or.inl ⟨by kernel_rfl, ?_⟩) (by assumption) ?_; rotate_left
              · intro w hSw; (try dsimp only at hSw); go_simp; (try with_reducible rfl)
              simp only [Act.put, List.setIfInBounds_toArray, List.set_cons_zero, List.set_cons_succ]
              refine wpAnyH_take (i := 10) (oi := ⟨some 25, _, _, _, _, _⟩) (v := ?_) rfl (by kernel_rfl) (by kernel_rfl) (by kernel_rfl) (fun _ _ _ h => h) (Or.inl ⟨by kernel_rfl, ?_⟩) (by assumption) ?_; rotate_left
              · intro w hSw; (try dsimp only at hSw); go_simp; (try with_reducible rfl)
              simp only [Act.put, List.setIfInBounds_toArray, List.set_cons_zero, List.set_cons_succ]
              refine wpAnyH_take (i := 11) (oi := ⟨some 26, _, _, _, _, _⟩) (v := ?_) rfl (by kernel_rfl) (by kernel_rfl) (by kernel_rfl) (fun _ _ _ h => h) (Or.inl ⟨by kernel_rfl, ?_⟩) (by assumption) ?_; rotate_left
              · intro w hSw; (try dsimp only at hSw); go_simp; (try with_reducible rfl)
              simp only [Act.put, List.setIfInBounds_toArray, List.set_cons_zero, List.set_cons_succ]
              refine wpAnyH_take (i := 12) (oi := ⟨some 27, _, _, _, _, _⟩) (v := ?_) rfl (by kernel_rfl) (by kernel_rfl) (by kernel_rfl) (fun _ _ _ h => h) (Or.inl ⟨by kernel_rfl, ?_⟩) (by assumption) ?_; rotate_left
              · intro w hSw; (try dsimp only at hSw); go_simp; (try with_reducible rfl)
              simp only [Act.put, List.setIfInBounds_toArray, List.set_cons_zero, List.set_cons_succ]
              refine wpAnyH_take (i := 13) (oi := ⟨some 28, _, _, _, _, _⟩) (v := ?_) rfl (by kernel_rfl) (by kernel_rfl) (by kernel_rfl) (fun _ _ _ h => h) (Or.inl ⟨by kernel_rfl, ?_⟩) (by assumption) ?_; rotate_left
              · intro w hSw; (try dsimp only at hSw); go_simp; (try with_reducible rfl)
              simp only [Act.put, List.setIfInBounds_toArray, List.set_cons_zero, List.set_cons_succ]
              refine wpAnyH_take (i := 14) (oi := ⟨some 29, _, _, _, _, _⟩) (v := ?_) rfl (by kernel_rfl) (by kernel_rfl) (by kernel_rfl) (fun _ _ _ h => h) (Or.inl ⟨by kernel_rfl, ?_⟩) (by assumption) ?_; rotate_left
              · intro w hSw; (try dsimp only at hSw); go_simp; (try with_reducible rfl)
              simp only [Act.put, List.setIfInBounds_toArray, List.set_cons_zero, List.set_cons_succ]
              refine wpAnyH_take (i := 15) (oi := ⟨some 30, _, _, _, _, _⟩) (v := ?_) rfl (by kernel_rfl) (by kernel_rfl) (by kernel_rfl) (fun _ _ _ h => h) (Or.inl ⟨by kernel_rfl, ?_⟩) (by assumption) ?_; rotate_left
              · intro w hSw; (try dsimp only at hSw); go_simp; (try with_reducible rfl)
              simp only [Act.put, List.setIfInBounds_toArray, List.set_cons_zero, List.set_cons_succ]
              refine wpAnyH_done (by kernel_rfl) ?_ _
              refine NoPanic.normal ?_
              clear hsub hwrap hm0 hm1 d0 c0 c1
              have hBw : Below w.heap.size w wr.drew := hB.out.trans (hBi.out.drew.mono hws)
              have BX := Lib.hid hBw
              have LB := Lib.hid (Nat.lt_of_lt_of_le HBL.out hBw.size)
              have c0 : wr.drew.cell? ⟨b, off + k * 2, none⟩ = some (.int .i64 x.1) := (hBw.cell (p := ⟨b, off + k * 2, none⟩) HBL.out).trans HX.out.1
              have c1 : wr.drew.cell? ⟨b, off + k * 2 + 1, none⟩ = some (.int .i64 x.2) := (hBw.cell (p := ⟨b, off + k * 2 + 1, none⟩) HBL.out).trans HX.out.2
              have IJ := Lib.hid (HS.out.below hBi.out.drew)
              obtain ⟨wj, hwj⟩ : ∃ wj : World, wj = wr.drew := ⟨_, rfl⟩
              rw [← hwj] at BX LB c0 c1 IJ ⊢
              clear hwj hBw
              have DR := Lib.hid (IJ.out.drop AK.out)
              rw [Nat.zero_add] at DR
              by_cases hce : cap2 = q
              · subst hce
                obtain rfl : k = cap2 := by omega
                have hd0 : S.drop k = [] := List.drop_eq_nil_of_le (by rw [hSl.out]; exact Nat.le_refl _)
                rw [hd0] at NXT
                have ROW0 := Lib.hid (World.ownsRow_nil wj wj.heap.size 45 2)
                have tok1 : True := trivial
                have tok2 : True := trivial
                have tok3 : True := trivial
                go_wp2_with (first
                  | (at_builtin; have _t := tok1; refine wpList_append_arcs rfl _ _ rfl wj.heap.size _ 0 [] rfl ROW0.out _ k k _ rfl (IJ.out.take AK.out) (by omega) (Nat.le_refl _) ?_; intro v1 w1 hown1 hgrow1; have R1 := Lib.hid hown1; have B1 := Lib.hid (grown_below (Below.refl _ _) (Nat.le_refl _) ROW0.out hgrow1); have hz1 := hgrow1.size; have c2 : w1.cell? ⟨b, off + k * 2, none⟩ = some (.int .i64 x.1) := (B1.out.cell (p := ⟨b, off + k * 2, none⟩) LB.out).trans c0; have c3 : w1.cell? ⟨b, off + k * 2 + 1, none⟩ = some (.int .i64 x.2) := (B1.out.cell (p := ⟨b, off + k * 2 + 1, none⟩) LB.out).trans c1; clear hown1 hgrow1 tok1)
                  | (at_builtin; have _t := tok2; refine wpList_append_arcs rfl _ _ rfl wj.heap.size _ _ _ rfl (R1.out.alloc _) _ 1 1 [x] rfl (IsArcs.one w1 x HRX.out) (by omega) (by simp; omega) ?_; intro v2 w2 hown2 hgrow2; have R2 := Lib.hid hown2; have B2 := Lib.hid (grown_below (B1.out.alloc hz1 _) (by simp; omega) (R1.out.alloc _) hgrow2); have hz2 := hgrow2.size; clear hown2 hgrow2 tok2)
                  | (at_builtin; have _t := tok3; refine wpList_append_arcs rfl _ _ rfl wj.heap.size _ _ _ rfl R2.out _ _ _ [] rfl (IsArcs.empty _ _ (by unfold maxLen; omega)) (by omega) (by have := B2.out.size; omega) ?_; intro v3 w3 hown3 hgrow3; have R3 := Lib.hid hown3; have B3 := Lib.hid (grown_below B2.out B2.out.size R2.out hgrow3); clear hown3 hgrow3 tok3))
                go_roundw
                case rel => exact ⟨k + 1, _, by omega, by go_num, (by rw [show k + 1 = 0 + k + 1 + 0 by omega]; exact owns_base R3.out BX.out.size), NXT.out.1, NXT.out.2, BX.out.trans (B3.out.mono BX.out.size)⟩
                case measure => simp [intOf]; omega
              · have hkc : ¬ cap2 = q := hce
                have ROW0 := Lib.hid (World.ownsRow_nil wj wj.heap.size 45 2)
                have tok1 : True := trivial
                have tok2 : True := trivial
                have tok3 : True := trivial
                go_wp2_with (first
                  | (at_builtin; have _t := tok1; refine wpList_append_arcs rfl _ _ rfl wj.heap.size _ 0 [] rfl ROW0.out _ q cap2 _ rfl (IJ.out.take AK.out) (by omega) (Nat.le_refl _) ?_; intro v1 w1 hown1 hgrow1; have R1 := Lib.hid hown1; have B1 := Lib.hid (grown_below (Below.refl _ _) (Nat.le_refl _) ROW0.out hgrow1); have hz1 := hgrow1.size; have c2 : w1.cell? ⟨b, off + k * 2, none⟩ = some (.int .i64 x.1) := (B1.out.cell (p := ⟨b, off + k * 2, none⟩) LB.out).trans c0; have c3 : w1.cell? ⟨b, off + k * 2 + 1, none⟩ = some (.int .i64 x.2) := (B1.out.cell (p := ⟨b, off + k * 2 + 1, none⟩) LB.out).trans c1; clear hown1 hgrow1 tok1)
                  | (at_builtin; have _t := tok2; refine wpList_append_arcs rfl _ _ rfl wj.heap.size _ _ _ rfl (R1.out.alloc _) _ 1 1 [x] rfl (IsArcs.one w1 x HRX.out) (by omega) (by simp; omega) ?_; intro v2 w2 hown2 hgrow2; have R2 := Lib.hid hown2; have B2 := Lib.hid (grown_below (B1.out.alloc hz1 _) (by simp; omega) (R1.out.alloc _) hgrow2); have hz2 := hgrow2.size; clear hown2 hgrow2 tok2)
                  | (at_builtin; have _t := tok3; refine wpList_append_arcs rfl _ _ rfl wj.heap.size _ _ _ rfl R2.out _ (k - q) (cap2 - q) _ rfl (DR.out.below B2.out) (by omega) (by have := B2.out.size; omega) ?_; intro v3 w3 hown3 hgrow3; have R3 := Lib.hid hown3; have B3 := Lib.hid (grown_below B2.out B2.out.size R2.out hgrow3); clear hown3 hgrow3 tok3))
                go_roundw
                case rel => exact ⟨k + 1, _, by omega, by go_num, (by rw [show k + 1 = 0 + q + 1 + (k - q) by have := AK.out; omega]; exact owns_base R3.out BX.out.size), NXT.out.1, NXT.out.2, BX.out.trans (B3.out.mono BX.out.size)⟩
                case measure => simp [intOf]; omega
    · obtain rfl : n = k := by omega
      have e : L.take n = L := by rw [← HL.out]; exact List.take_length
      have hE : Hid (S = srt L) := srt_of (by have := hP.out; rwa [e] at this) hA.out HD.out
      clear hP hA e
      go_wp2
      go_ret
      rw [← hE.out]
      exact ⟨_, rfl, hrow.out, hB.out⟩
end Go.Proofs.Ytlhiiecaphibhaa

/- graph: the canonical form, plain; rows of nodes that own their arcs. -/
namespace Go.Proofs.Ytlhiiecaphibhaa
open Go.RowKit Go.Maps

/-- The nodes to which the arcs of a node lead, by features. -/
def tos (F : Gr) (i : Nat) : List Nat := (srt (nd F i).2).map fun a => a.2.toNat
/-- A node with its new numbers. -/
def relA (r : List Nat) (a : Arc) : Arc := (a.1, ((r.idxOf a.2.toNat : Nat) : Int))
def outN (F : Gr) (r : List Nat) (i : Nat) : Nd := ((nd F i).1, (srt (nd F i).2).map (relA r))
/-- The form of a graph that was visited in the order r. -/
def outG (F : Gr) (r : List Nat) : Gr := r.map (outN F r)
/-- All arcs lead to nodes, and the features of a node differ. -/
def Fine (F : Gr) : Prop := ∀ x ∈ F, (∀ a ∈ x.2, 0 ≤ a.2 ∧ a.2 < (F.length : Int)) ∧ Dif x.2
theorem OkG.fine {F : Gr} (h : OkG F) : Fine F := fun x hx => ⟨fun a ha => ⟨((h.node x hx).2.1 a ha).2.1, ((h.node x hx).2.1 a ha).2.2⟩, (h.node x hx).2.2⟩
theorem tos_len (F : Gr) (i : Nat) : (tos F i).length = (nd F i).2.length := by unfold tos; rw [List.length_map, srt_len]
theorem tos_lt {F : Gr} (h : Fine F) {i : Nat} (hi : i < F.length) : ∀ y ∈ tos F i, y < F.length := by
  intro y hy
  unfold tos at hy
  obtain ⟨a, ha, rfl⟩ := List.mem_map.1 hy
  have := (h _ (nd_mem hi)).1 a ((srt_perm _).mem_iff.1 ha)
  omega
theorem nodup_lt {n : Nat} {l : List Nat} (hn : l.Nodup) (h : ∀ x ∈ l, x < n) : l.length ≤ n := by
  have hp : l.Perm ((List.range n).filter (fun x => decide (x ∈ l))) := by
    refine (List.perm_ext_iff_of_nodup hn (List.nodup_range.filter _)).2 fun x => ?_
    rw [List.mem_filter, List.mem_range]
    exact ⟨fun hx => ⟨h x hx, by simpa using hx⟩, fun hx => by simpa using hx.2⟩
  rw [hp.length_eq]
  refine Nat.le_trans (List.length_filter_le _ _) ?_
  rw [List.length_range]; exact Nat.le_refl _
theorem fine_dif {F : Gr} (h : Fine F) {i : Nat} (hi : i < F.length) : Dif (nd F i).2 := (h _ (nd_mem hi)).2

/-! ### Rows -/
theorem own_type {w : World} {B B' n n' s s' : Nat} {e e' : TypeId} {v v' : Value} {xs xs' : List Value} {g : Nat} (h : w.ownsRow B e s v n xs) (h' : w.ownsRow B' e' s' v' n' xs') (hg : v.ownBlock = some g) (hg' : v'.ownBlock = some g) : e = e' := by
  obtain ⟨_, ⟨rfl, _⟩ | ⟨g1, c1, cur1, rfl, _, k1, _⟩⟩ := h
  · cases hg
  · obtain ⟨_, ⟨rfl, _⟩ | ⟨g2, c2, cur2, rfl, _, k2, _⟩⟩ := h'
    · cases hg'
    · simp [Value.ownBlock] at hg hg'
      subst hg
      subst hg'
      rw [k1] at k2
      cases k2; rfl
theorem own_map {w : World} {B n s b m : Nat} {e : TypeId} {v : Value} {xs : List Value} {D : DataW Value} (h : w.ownsRow B e s v n xs) (h' : w.ownsMap Try.prog 3 raw b m D) : v.ownBlock ≠ some b := by
  obtain ⟨_, ⟨rfl, _⟩ | ⟨g1, c1, cur1, rfl, _, k1, _⟩⟩ := h
  · intro h; cases h
  · obtain ⟨es, clock, he, _⟩ := h'
    intro hg
    simp [Value.ownBlock] at hg
    subst hg
    rw [k1] at he
    cases he
/-- The cells of a row of nodes. -/
def nvals (P : List (Int × Value)) : List Value := P.flatMap fun p => [.int .i64 p.1, p.2]
theorem nvals_len (P : List (Int × Value)) : (nvals P).length = P.length * 2 := by
  induction P with
  | nil => rfl
  | cons a l ih =>
    have e : nvals (a :: l) = .int .i64 a.1 :: a.2 :: nvals l := rfl
    rw [e, List.length_cons, List.length_cons, ih, List.length_cons]; omega
theorem nvals_app (P Q : List (Int × Value)) : nvals (P ++ Q) = nvals P ++ nvals Q := by simp [nvals]
theorem nvals_get {P : List (Int × Value)} {i : Nat} {p : Int × Value} (h : P[i]? = some p) : (nvals P)[i * 2]? = some (.int .i64 p.1) ∧ (nvals P)[i * 2 + 1]? = some p.2 := by
  induction P generalizing i with
  | nil => simp at h
  | cons a l ih =>
    have e2 : nvals (a :: l) = .int .i64 a.1 :: a.2 :: nvals l := rfl
    cases i with
    | zero =>
      simp at h
      subst h
      rw [e2]
      exact ⟨rfl, rfl⟩
    | succ i =>
      have h1 := ih (i := i) (by simpa using h)
      have e1 : (i + 1) * 2 = i * 2 + 2 := by omega
      rw [e1, e2]
      exact h1
/-- A row of nodes that is owned, with the rows of their arcs. -/
structure OwnN (w : World) (B : Nat) (v : Value) (P : List (Int × Value)) (Ls : List (List Arc)) : Prop where
  row : w.ownsRow B 43 2 v P.length (nvals P)
  len : P.length = Ls.length
  arcs : ∀ (i : Nat) (p : Int × Value) (L : List Arc), P[i]? = some p → Ls[i]? = some L → w.ownsRow B 45 2 p.2 L.length (avals L)
  apart : ∀ (i j : Nat) (p q : Int × Value) (g : Nat), i ≠ j → P[i]? = some p → P[j]? = some q → p.2.ownBlock = some g → q.2.ownBlock ≠ some g
theorem OwnN.below {w w' : World} {B : Nat} {v : Value} {P : List (Int × Value)} {Ls : List (List Arc)} (h : OwnN w B v P Ls) (hb : Below w.heap.size w w') : OwnN w' B v P Ls :=
  ⟨owns_below h.row hb, h.len, fun i p L h1 h2 => owns_below (h.arcs i p L h1 h2) hb, h.apart⟩
/-- Another row has grown. -/
theorem OwnN.kept {w w' : World} {B : Nat} {v : Value} {P : List (Int × Value)} {Ls : List (List Arc)} {row : Option Nat} (h : OwnN w B v P Ls) (hg : w.grownBy w' row) (h1 : ∀ g, v.ownBlock = some g → row ≠ some g) (h2 : ∀ (i : Nat) (p : Int × Value) (L : List Arc) (g : Nat), P[i]? = some p → Ls[i]? = some L → p.2.ownBlock = some g → row ≠ some g) : OwnN w' B v P Ls :=
  ⟨h.row.kept hg (by
      cases e : v.ownBlock with
      | none => exact .inl rfl
      | some g => exact .inr (fun h => h1 g e h.symm)), h.len, fun i p L k1 k2 => (h.arcs i p L k1 k2).kept hg (by
      cases e : p.2.ownBlock with
      | none => exact .inl rfl
      | some g => exact .inr (fun h => h2 i p L g k1 k2 e h.symm)), h.apart⟩
theorem OwnN.nil (w : World) (B : Nat) : OwnN w B (.slice none 0 0) [] [] := ⟨World.ownsRow_nil _ _ _ _, rfl, (fun i p L h => by simp at h), fun i j p q g _ h => by simp at h⟩
/-- A fresh row of arcs does not lie in the row. -/
theorem OwnN.push {w w' : World} {B : Nat} {v v' : Value} {P : List (Int × Value)} {Ls : List (List Arc)} {p : Int × Value} {L : List Arc} (h : OwnN w B v P Ls) (hp : w.ownsRow B 45 2 p.2 L.length (avals L))
    (hf : ∀ (i : Nat) (q : Int × Value), P[i]? = some q → ∀ g : Nat, q.2.ownBlock = some g → p.2.ownBlock ≠ some g)
    (hr : w'.ownsRow B 43 2 v' (P.length + 1) (nvals (P ++ [p]))) (hg : w.grownBy w' v.ownBlock) : OwnN w' B v' (P ++ [p]) (Ls ++ [L]) := by
  have keep : ∀ (i : Nat) (q : Int × Value) (M : List Arc), (P ++ [p])[i]? = some q → (Ls ++ [L])[i]? = some M → w.ownsRow B 45 2 q.2 M.length (avals M) := by
    intro i q M h1 h2
    have hl := h.len
    rcases Nat.lt_or_ge i P.length with hi | hi
    · rw [List.getElem?_append_left hi] at h1
      rw [List.getElem?_append_left (by omega)] at h2
      exact h.arcs i q M h1 h2
    · rw [List.getElem?_append_right hi] at h1
      rw [List.getElem?_append_right (by omega)] at h2
      have hi0 : i - P.length = 0 := by
        have := (List.getElem?_eq_some_iff.1 h1).1
        simp at this; omega
      rw [hi0] at h1
      rw [← hl, hi0] at h2
      simp at h1 h2
      subst h1
      subst h2
      exact hp
  refine ⟨by rw [List.length_append]; exact hr, by simp [h.len], fun i q M h1 h2 => (keep i q M h1 h2).kept hg ?_, ?_⟩
  · cases e : q.2.ownBlock with
    | none => exact .inl rfl
    | some g => exact .inr (fun e2 => by
        have := own_type (keep i q M h1 h2) h.row e e2.symm
        revert this; decide)
  · intro i j q q' g hij h1 h2 hgq
    rcases Nat.lt_or_ge i P.length with hi | hi <;> rcases Nat.lt_or_ge j P.length with hj | hj
    · rw [List.getElem?_append_left hi] at h1
      rw [List.getElem?_append_left hj] at h2
      exact h.apart i j q q' g hij h1 h2 hgq
    · rw [List.getElem?_append_left hi] at h1
      rw [List.getElem?_append_right hj] at h2
      have : j - P.length = 0 := by
        have := (List.getElem?_eq_some_iff.1 h2).1
        simp at this; omega
      rw [this] at h2
      simp at h2
      subst h2
      exact hf i q h1 g hgq
    · rw [List.getElem?_append_left hj] at h2
      rw [List.getElem?_append_right hi] at h1
      have : i - P.length = 0 := by
        have := (List.getElem?_eq_some_iff.1 h1).1
        simp at this; omega
      rw [this] at h1
      simp at h1
      subst h1
      exact fun e => hf j q' h2 g e hgq
    · have a1 := (List.getElem?_eq_some_iff.1 h1).1
      have a2 := (List.getElem?_eq_some_iff.1 h2).1
      simp at a1 a2
      omega
/-- A store in one row of arcs. -/
theorem OwnN.setAt {w : World} {B : Nat} {v : Value} {P : List (Int × Value)} {Ls : List (List Arc)} (h : OwnN w B v P Ls) {i j : Nat} {t : Int} {g n c : Nat} {L L' : List Arc} (u : Value) (hp : P[i]? = some (t, .slice (some ⟨g, 0, none⟩) n c)) (hL : Ls[i]? = some L) (hs : (avals L).set j u = avals L') (hl : L'.length = L.length) :
    OwnN (w.setCell ⟨g, j, none⟩ u) B v P (Ls.set i L') ∧ w.grownBy (w.setCell ⟨g, j, none⟩ u) (some g) := by
  have ha := h.arcs i _ L hp hL
  have hln : L.length = n := by
    obtain ⟨_, ⟨k1, _⟩ | ⟨g', c', cur, k1, _⟩⟩ := ha
    · cases k1
    · cases k1; rfl
  rw [hln] at ha
  obtain ⟨hst, hg⟩ := ha.stored j u
  have hgrow := hg
  refine ⟨⟨h.row.kept hg ?_, by rw [List.length_set]; exact h.len, fun k q M h1 h2 => ?_, h.apart⟩, hgrow⟩
  · cases e : v.ownBlock with
    | none => exact .inl rfl
    | some g' => exact .inr (fun e2 => by
        have := own_type ha h.row rfl (e.trans e2)
        revert this; decide)
  · by_cases e : k = i
    · subst e
      rw [hp] at h1
      cases h1
      have hlt : k < Ls.length := (List.getElem?_eq_some_iff.1 hL).1
      rw [List.getElem?_set_self hlt] at h2
      cases h2
      rw [hl, hln, ← hs]
      exact hst
    · rw [List.getElem?_set_ne (fun x => e x.symm)] at h2
      refine (h.arcs k q M h1 h2).kept hg ?_
      cases eq : q.2.ownBlock with
      | none => exact .inl rfl
      | some g' => exact .inr (fun e2 => h.apart i k _ q g (fun x => e x.symm) hp h1 rfl (eq.trans e2))
/-- It reads as a graph. -/
theorem OwnN.isG {w : World} {B : Nat} {v : Value} {P : List (Int × Value)} {Ls : List (List Arc)} (h : OwnN w B v P Ls) (hr : ∀ L ∈ Ls, ∀ a ∈ L, R64 a.1) : ∃ a cap, v = .slice a P.length cap ∧ IsG w a P.length cap ((P.map Prod.fst).zip Ls) := by
  have hh := h.row
  have hlen : ((P.map Prod.fst).zip Ls).length = P.length := by simp [h.len]
  obtain ⟨h1, ⟨h2, h3⟩ | ⟨g, cap, cur, hv, hB, hg, h3, h4, h5, h6⟩⟩ := h.row
  · exact ⟨none, 0, by rw [h3]; exact h2, hlen, by omega, Nat.zero_le _, fun _ => rfl, fun h0 => absurd h0 (by omega)⟩
  · refine ⟨some ⟨g, 0, none⟩, cap, hv, hlen, h3, h4, (fun e => by cases e), fun _ => ⟨g, 0, rfl, lt_of_block hg, fun i hi => ?_⟩⟩
    have hiL : i < Ls.length := by rw [← h.len]; exact hi
    have hp := List.getElem?_eq_getElem hi
    have hL := List.getElem?_eq_getElem hiL
    obtain ⟨g0, g1⟩ := nvals_get hp
    have k0 := hh.cells (g := g) (by rw [hv]; rfl) _ _ g0
    have k1 := hh.cells (g := g) (by rw [hv]; rfl) _ _ g1
    have e : ∀ j, (⟨g, 0, none⟩ : Addr).add j = ⟨g, j, none⟩ := fun j => by unfold Addr.add; split <;> simp_all
    rw [e] at k0 k1
    obtain ⟨xa, xc, ev, hI⟩ := IsArcs.of_owns (h.arcs i _ _ hp hL) (hr _ (List.getElem_mem hiL))
    have ex : nd ((P.map Prod.fst).zip Ls) i = ((P[i]).1, Ls[i]) := by
      unfold nd
      rw [List.getD_eq_getElem?_getD, List.getElem?_eq_getElem (by rw [hlen]; exact hi)]
      simp
    rw [ex, Nat.zero_add]
    exact ⟨xa, xc, k0, by rw [← ev]; exact k1, hI⟩
end Go.Proofs.Ytlhiiecaphibhaa

/- graph: parts of Sub's walk. -/
namespace Go.Proofs.Ytlhiiecaphibhaa
open Go.RowKit Go.Maps

/-- The stack in memory: its top is the last one. -/
def smem (s : List Nat) : List Int := s.reverse.map fun (x : Nat) => (x : Int)
theorem smem_cons (x : Nat) (s : List Nat) : smem (x :: s) = smem s ++ [(x : Int)] := by simp [smem]
theorem smem_len (s : List Nat) : (smem s).length = s.length := by simp [smem]
/-- The stack s, the visited nodes v. -/
structure St (F : Gr) (root : Nat) (s v : List Nat) : Prop where
  sok : ∀ x ∈ s, x < F.length
  vok : ∀ x ∈ v, x < F.length
  nd : v.Nodup
  bw : ∀ r, Dfs (tos F) s v r → Dfs (tos F) [root] [] r
  bnd : s.length ≤ 1 + 64 * v.length
theorem St.start {F : Gr} {root : Nat} (h : root < F.length) : St F root [root] [] := ⟨fun x hx => by simp at hx; subst hx; exact h, fun x hx => (by cases hx), List.nodup_nil, fun _ h => h, by simp⟩
theorem St.skip {F : Gr} {root x : Nat} {s v : List Nat} (h : St F root (x :: s) v) (hx : x ∈ v) : St F root s v :=
  ⟨fun y hy => h.sok y (List.mem_cons_of_mem _ hy), h.vok, h.nd, fun r hr => h.bw r (.skip hx hr), by have := h.bnd; rw [List.length_cons] at this; omega⟩
theorem St.step {F : Gr} {root x : Nat} {s v : List Nat} (h : St F root (x :: s) v) (hx : x ∉ v) (hf : Fine F) (hA : ∀ x ∈ F, x.2.length ≤ 64) : St F root (tos F x ++ s) (v ++ [x]) := by
  have hxl := h.sok x List.mem_cons_self
  refine ⟨fun y hy => ?_, fun y hy => ?_, ?_, fun r hr => h.bw r (.step hx hr), ?_⟩
  · rcases List.mem_append.1 hy with hy | hy
    · exact tos_lt hf hxl y hy
    · exact h.sok y (List.mem_cons_of_mem _ hy)
  · rcases List.mem_append.1 hy with hy | hy
    · exact h.vok y hy
    · simp at hy; subst hy; exact hxl
  · exact List.nodup_append.2 ⟨h.nd, by simp, fun a ha b hb => by simp at hb; subst hb; exact fun e => hx (e ▸ ha)⟩
  · have h1 := h.bnd
    have h2 := hA _ (nd_mem hxl)
    rw [List.length_cons] at h1
    rw [List.length_append, List.length_append, tos_len]
    simp; omega
theorem St.room {F : Gr} {root x : Nat} {s v : List Nat} (h : St F root (x :: s) v) (hx : x ∉ v) : v.length < F.length := by
  have hxl := h.sok x List.mem_cons_self
  have := nodup_lt (l := v ++ [x]) (n := F.length) (List.nodup_append.2 ⟨h.nd, by simp, fun a ha b hb => by simp at hb; subst hb; exact fun e => hx (e ▸ ha)⟩) (fun y hy => by
    rcases List.mem_append.1 hy with hy | hy
    · exact h.vok y hy
    · simp at hy; subst hy; exact hxl)
  simp at this; omega
/-- The map of the numbers. -/
structure NumIs (M : DataW Value) (v : List Nat) : Prop where
  has_ : ∀ x : Nat, mhas M (x : Int) = decide (x ∈ v)
  get_ : ∀ x : Nat, x ∈ v → mget M (x : Int) (.int .i64 0) = .int .i64 ((v.idxOf x : Nat) : Int)
theorem NumIs.nil : NumIs (.map []) [] := ⟨fun x => rfl, fun x h => by cases h⟩
theorem NumIs.put {M : DataW Value} {v : List Nat} (h : NumIs M v) (hM : IsMap M) {x : Nat} (hx : x ∉ v) : NumIs (mput M (x : Int) (.int .i64 (v.length : Int))) (v ++ [x]) := by
  refine ⟨fun y => ?_, fun y hy => ?_⟩
  · rw [mhas_put hM, h.has_]
    by_cases e : y = x
    · subst e; simp
    · have : ((y : Int) == (x : Int)) = false := by simp; omega
      rw [this]
      simp [e]
  · rw [mget_put hM]
    by_cases e : y = x
    · subst e
      rw [if_pos rfl, List.idxOf_append, if_neg hx]
      simp
    · rw [if_neg (by omega)]
      have hyv : y ∈ v := by
        rcases List.mem_append.1 hy with hy | hy
        · exact hy
        · simp at hy; exact absurd hy e
      rw [h.get_ y hyv, List.idxOf_append, if_pos hyv]
/-- The first k were done. -/
def mix {α : Type} (f : α → α) (k : Nat) (l : List α) : List α := (l.take k).map f ++ l.drop k
theorem mix_zero {α : Type} (f : α → α) (l : List α) : mix f 0 l = l := by simp [mix]
theorem mix_all {α : Type} (f : α → α) (l : List α) : mix f l.length l = l.map f := by simp [mix]
theorem mix_len {α : Type} (f : α → α) (k : Nat) (l : List α) : (mix f k l).length = l.length := by simp [mix]; omega
theorem mix_get {α : Type} (f : α → α) {k : Nat} {l : List α} {x : α} (h : l[k]? = some x) : (mix f k l)[k]? = some x := by
  have hk := (List.getElem?_eq_some_iff.1 h).1
  unfold mix
  rw [List.getElem?_append_right (by simp; omega)]
  simp [Nat.min_eq_left (Nat.le_of_lt hk), h]
theorem mix_set {α : Type} (f : α → α) {k : Nat} {l : List α} {x : α} (h : l[k]? = some x) : (mix f k l).set k (f x) = mix f (k + 1) l := by
  have hk := (List.getElem?_eq_some_iff.1 h).1
  unfold mix
  rw [List.set_append_right _ _ (by simp; omega)]
  have e1 : k - ((l.take k).map f).length = 0 := by simp; omega
  have hx : l[k] = x := by rw [List.getElem?_eq_getElem hk] at h; exact Option.some.inj h
  rw [e1, List.drop_eq_getElem_cons hk, List.set_cons_zero, List.take_succ_eq_append_getElem hk, List.map_append, hx]
  simp
theorem avals_set {L : List Arc} {j : Nat} (h : j < L.length) (z : Int) : (avals L).set (j * 2 + 1) (.int .i64 z) = avals (L.set j ((ar L j).1, z)) := by
  induction L generalizing j with
  | nil => cases h
  | cons a l ih =>
    have e2 : ∀ (b : Arc) (m : List Arc), avals (b :: m) = .int .i64 b.1 :: .int .i64 b.2 :: avals m := fun _ _ => rfl
    cases j with
    | zero => rfl
    | succ j =>
      have e0 : ar (a :: l) (j + 1) = ar l j := by simp [ar]
      rw [List.set_cons_succ, e2, e2, show (j + 1) * 2 + 1 = (j * 2 + 1) + 1 + 1 by omega, List.set_cons_succ, List.set_cons_succ, ih (by simpa using h), e0]
theorem owns_pop {w : World} {B g c n : Nat} {xs : List Int} {x : Int} (h : w.ownsRow B 3 1 (.slice (some ⟨g, 0, none⟩) (n + 1) c) (n + 1) (ivals (xs ++ [x]))) : w.ownsRow B 3 1 (.slice (some ⟨g, 0, none⟩) n c) n (ivals xs) := by
  obtain ⟨h1, ⟨h2, _⟩ | ⟨g', c', cur, hv, hB, hg, k1, k2, k3, k4⟩⟩ := h
  · cases h2
  · cases hv
    rw [ivals_app, List.length_append, ivals_len] at h1
    have hl : xs.length = n := by simp [ivals] at h1; omega
    refine ⟨by rw [ivals_len, hl]; omega, .inr ⟨g, c, cur, rfl, hB, hg, by omega, k2, k3, ?_⟩⟩
    have e : cur.toList.take (n * 1) = (cur.toList.take ((n + 1) * 1)).take (n * 1) := by rw [List.take_take]; congr 1; omega
    rw [e, k4, ivals_app, List.take_append_of_le_length (by rw [ivals_len, hl]; omega), List.take_of_length_le (by rw [ivals_len, hl]; omega)]
theorem owns_top {w : World} {B n : Nat} {v : Value} {xs : List Int} {x : Int} (h : w.ownsRow B 3 1 v (n + 1) (ivals (xs ++ [x]))) : ∃ g c, v = .slice (some ⟨g, 0, none⟩) (n + 1) c ∧ n + 1 ≤ c ∧ c ≤ maxLen ∧ w.cell? ⟨g, n, none⟩ = some (.int .i64 x) := by
  have hh := h
  obtain ⟨h1, ⟨_, h2⟩ | ⟨g, c, cur, rfl, hB, hg, k1, k2, k3, k4⟩⟩ := h
  · omega
  · refine ⟨g, c, rfl, k1, k2, ?_⟩
    rw [hh.cellAt n (by omega), ivals_app]
    rw [ivals_app, List.length_append, ivals_len] at h1
    have hl : xs.length = n := by simp [ivals] at h1; omega
    rw [List.getElem?_append_right (by rw [ivals_len, hl]; exact Nat.le_refl _), ivals_len, hl, Nat.sub_self]; rfl
theorem owns_one {w : World} {B n s : Nat} {e : TypeId} {v : Value} {xs : List Value} (h : w.ownsRow B e s v n xs) : v.oneCell' = true := by
  obtain ⟨_, ⟨rfl, _⟩ | ⟨g, c, cur, rfl, _⟩⟩ := h <;> rfl
/-- append of a node to a row of nodes that is owned. -/
theorem wpList_append_node {w : World} {ops : Array Oper} {rest : List Oper} {o : Oper} {a : Act} {Q : Exit → Act → World → Prop} (hgd : o.guard = none) (s x : Operand)
    (ho : o.op = .call { callee := .builtin .append, args := #[s, x], argTypes := #[23, 23] })
    (base : Nat) (v : Value) (P : List (Int × Value)) (hs : a.eval s = v) (hown : w.ownsRow base 43 2 v P.length (nvals P))
    (g c : Nat) (p : Int × Value) (hx : a.eval x = .slice (some ⟨g, 0, none⟩) 1 c) (hg : w.heap[g]? = some (.cells #[.int .i64 p.1, p.2] 43)) (hp : p.2.oneCell' = true)
    (h63 : P.length + 1 ≤ 1000000) (hbase : base ≤ w.heap.size)
    (h : ∀ v' w', w'.ownsRow base 43 2 v' (P.length + 1) (nvals (P ++ [p])) → w.grownBy w' v.ownBlock → wpList Try.prog ops Q rest (a.put o.dst v') w') : wpList Try.prog ops Q (o :: rest) a w := by
  obtain ⟨i0, hi, hz0, hz1, hz2⟩ := info_parts Try.infoN
  exact wpList_append_own_at w hgd s x 23 ho base 43 i0 _ 2 32 Try.underlying23 hi hz0 hz1 hz2 rfl (by decide) v P.length (nvals P) hs hown ⟨g, 0, none⟩ 1 c [.int .i64 p.1, p.2] hx rfl
    (World.news_of_block hg) (fun u hu => by simp at hu; rcases hu with rfl | rfl; rfl; exact hp) (by unfold maxLen; omega) (by omega) hbase fun v' w' h1 h2 _ _ => h v' w' (by rw [nvals_app]; exact h1) h2
theorem rng_of {w : World} {a : Option Addr} {n cap : Nat} {F : Gr} (h : IsG w a n cap F) : ∀ i, i < n → ∀ x ∈ (nd F i).2, R64 x.1 := fun i hi => by
  obtain ⟨b, off, _, _, hx⟩ := h.at_ (by omega)
  obtain ⟨xa, xc, hd⟩ := hx i hi
  exact hd.is.rng
end Go.Proofs.Ytlhiiecaphibhaa
