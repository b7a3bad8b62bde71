/- Texts joined by wip/gen/merge.py: Dj. -/
import Derived.OpenShut
import Derived.Test.YtdeamdpoegdmdaaGreatDoorMag
set_option linter.unusedVariables false
set_option linter.unusedSimpArgs false
/- closure: walk of ClosureFinds. -/
namespace Go.Proofs.YtdeamdpoegdmdaaGreatDoor
open Go.RowKit Go.Maps Go.Shelf
open S (wd Is64 Fresh bit SAnd SOr IsInt wi ints uvals)

/-- An operation whose guard strikes is walked as one without. -/
theorem wpList_guarded {P : Program} {ops : Array Oper} {Q : Exit → Act → World → Prop} {a : Act} {w : World} {rest : List Oper} {d : Option Tmp} {op : Op} {ty : TypeId} {ps : String} {af : Array Edge} {g : Option (Nat × Bool)}
    (hw : Region.wanted ⟨d, op, ty, ps, af, g⟩ (yielded ops a.tmps) = true) (h : wpList P ops Q (⟨d, op, ty, ps, af, none⟩ :: rest) a w) : wpList P ops Q (⟨d, op, ty, ps, af, g⟩ :: rest) a w := by
  have hn : Region.wanted ⟨d, op, ty, ps, af, none⟩ (yielded ops a.tmps) = true := rfl
  unfold wpList at h ⊢
  rw [if_pos hw]
  rw [if_pos hn] at h
  exact h
theorem nf_snoc {c : Cd} (h : IsS c) : NfS (c ++ [0]) c := by
  refine ⟨fun i => ?_, h, fun i => ?_⟩
  · rw [S.wd_snoc0]; exact h.2 i
  · unfold S.bit; rw [S.wd_snoc0]
theorem uvals_one (l : List Nat) : ∀ u ∈ uvals l, u.oneCell' = true := by
  intro u hu
  obtain ⟨x, _, rfl⟩ := List.mem_map.1 hu
  rfl
theorem uvals_get (l : List Nat) (j : Nat) (u : Value) (h : (uvals l)[j]? = some u) : j < l.length ∧ u = .int .u64 ((wd l j : Nat) : Int) := by
  have hj : j < l.length := by have := (List.getElem?_eq_some_iff.1 h).1; rwa [S.uvals_len] at this
  rw [S.uvals_at l j hj] at h
  exact ⟨hj, (Option.some.inj h).symm⟩

/- Row of words out of a reading. -/
namespace S
theorem wd_toNat (zs : List Int) (n i : Nat) (h : i < n) (h2 : i < zs.length) : wd ((zs.take n).map Int.toNat) i = (zs.getD i 0).toNat := by
  simp [wd, List.getD_eq_getElem?_getD, List.getElem?_take, h, List.getElem?_eq_getElem h2]
theorem row64_some {W : World} {x : Addr} {len cap : Nat} {zs : List Int} (hl : len ≤ cap) (hm : cap ≤ maxLen) (hz : zs.length = cap) (hcell : ∀ i, i < zs.length → W.cell? (x.add i) = some (.int .u64 (zs.getD i 0)))
    (hwz : ∀ n ∈ zs, (Lit.int .u64 n).wf = true) : ∃ ys : List Nat, ys.length = len ∧ Is64 W (some x) ys.length cap ys := by
  have hlen : ((zs.take len).map Int.toNat).length = len := by rw [List.length_map, List.length_take]; omega
  have hb : ∀ i, i < len → 0 ≤ zs.getD i 0 ∧ zs.getD i 0 < 18446744073709551616 := fun i hi => by
    rw [List.getD_eq_getElem?_getD, List.getElem?_eq_getElem (by omega)]
    have := hwz _ (List.getElem_mem (show i < zs.length by omega))
    simp [Lit.wf, IntKind.min, IntKind.max, IntKind.bits, IntKind.signed] at this
    simpa using (by omega : _)
  refine ⟨(zs.take len).map Int.toNat, hlen, rfl, by omega, hm, fun i hi => ?_, fun h0 => ?_, fun e => by cases e⟩
  · rw [wd_toNat _ _ _ (by omega) (by omega)]
    have := hb i (by omega)
    omega
  · obtain ⟨b, off, spot⟩ := x
    have hspot : spot = none := by
      have := World.cell?_spot (hcell 0 (by omega))
      simpa [Addr.add] using this
    subst hspot
    refine ⟨b, off, rfl, World.block_lt_of_cell? W _ (hcell 0 (by omega)), fun i hi => ?_⟩
    rw [wd_toNat _ _ _ (by omega) (by omega), Int.toNat_of_nonneg (hb i (by omega)).1, ← hcell i (by omega)]
    congr 1
    unfold Addr.add
    split <;> simp_all
end S

set_option maxRecDepth 100000 in
set_option maxHeartbeats 3200000 in
theorem ClosureFinds_law (w : World) (a : Option Addr) (n cap : Nat) (D : List Dec) (h : IsDecs w a n cap D) (ca : Option Addr) (cn cc : Nat) (code : List Nat) (hcode : Is64 w ca cn cc code) (i : Nat) (hi : i < 256) (hT : S.TabOk w) :
    Calls Tryz.prog 4 #[.slice a n cap, .slice ca cn cc, .int .u8 i] w fun e w' => e = .returned (.bool true) ∧ Below w.heap.size w w' := by
  have HT := Lib.hid hT
  have TY := Lib.hid (types4_got w a n cap D h i 0 hi (by decide))
  have HC := Lib.hid hcode
  have hcl := hcode.len
  subst hcl
  clear h hT hcode
  go_enter Tryz.func4, Tryz.ntmps4
  go_wp2_with fail
  refine TY.out.mono ?_
  rintro e w1 ⟨hb1, rfl | ⟨hc, hf, h12, ta, m, tc, x, y, L, hL, hx0, hy0, hx, hy, rfl, hI⟩⟩
  · go_wp2_with (go_at_call 13; refine (ex4_holds _ (HT.out.below hb1)).mono ?_; rintro e w2 ⟨rfl, hb2⟩)
    go_ret
    exact ⟨rfl, hb1.trans (hb2.mono hb1.size)⟩
  · have B1 := Lib.hid hb1
    have HT1 := Lib.hid (HT.out.below hb1)
    by_cases h70 : 70 < code.length
    · have hq : (70 : Int) < (code.length : Int) := by omega
      clear hL hx0 hy0 hb1 hI hc hf h12 TY
      go_wp2_with (go_at_call 13; refine (ex4_holds _ HT1.out).mono ?_; rintro e w2 ⟨rfl, hb2⟩)
      go_ret
      exact ⟨rfl, B1.out.trans (hb2.mono B1.out.size)⟩
    · have hq : ¬ (70 : Int) < (code.length : Int) := by omega
      have I1 := Lib.hid hI
      have hle := hI.le
      have hlen := hI.len
      have hcap := hI.is.capLe
      have hmx := hI.is.maxLe
      unfold maxLen at hmx
      have IH := Lib.hid (fun W hW => I1.out.below (w' := W) hW)
      have C1 := Lib.hid (HC.out.below hb1)
      have HWB : S.WB code := HC.out.lt
      obtain ⟨q, hqn⟩ : ∃ q, code.take (S.nlen code code.length) = q := ⟨_, rfl⟩
      have NF := Lib.hid (hqn ▸ nz_nf HWB)
      obtain ⟨r, hr⟩ : ∃ r, ixS (L.map Prod.snd) q = r := ⟨_, rfl⟩
      have F1 := Lib.hid (fun W (hW : Below w1.heap.size w1 W) => FindN_val r W ta m tc L _ code q (IH.out W hW).is (by have := (IH.out W hW).pos; omega) (by omega) (fun d hd => ((IH.out W hW).S d hd).1) ⟨ca, cc, rfl, C1.out.below hW⟩ NF.out hr)
      have F2 := Lib.hid (fun W (hW : Below w1.heap.size w1 W) => hr ▸ rFindN_any W ta m tc L ca cc code q (IH.out W hW).is (C1.out.below hW) hqn (by omega))
      have hax := hI.ok.at (i := x) (by omega)
      have hix := hI.ok.ix_at (k := x) (by omega)
      clear hL hx0 hy0 hb1 hc hf h12 TY HWB
      obtain ⟨b, off, rfl, hbl, hxx⟩ := hI.is.at_ (by omega)
      obtain ⟨xa, xc, hty⟩ := hxx x hx
      obtain ⟨xb, xo, rfl, hxb, hxcells⟩ := hty.is.at_ (List.length_pos_iff.2 hax.2.1)
      have d1 : w1.cell? ⟨b, off + x * 2 + 1, none⟩ = some (.slice (some ⟨xb, xo, none⟩) (ty L x).2.length xc) := hty.c1
      have hx0 : (0 : Int) ≤ (x : Int) := by omega
      have hx1 : (x : Int) < (m : Int) := by omega
      have XC := Lib.hid hxcells
      have hcl64 := hax.2.2
      have HAX := Lib.hid hax.1
      obtain ⟨cx, hcx⟩ : ∃ cx, (ty L x).2 = cx := ⟨_, rfl⟩
      rw [hcx] at d1 XC hcl64 HAX hix
      have HIX := Lib.hid hix
      obtain ⟨i0, hi0, hiz0, hiz1, hiz2⟩ := info_parts S.Tryz.info64
      have HI := Lib.hid (And.intro hi0 (And.intro hiz0 (And.intro hiz1 hiz2)))
      clear hI hxx hty hxcells hax hix hi0 hiz0 hiz1 hiz2 hr hqn
      go_wp2_with fail
      refine (F1.out w1 (Below.refl _ _)).mono ?_
      rintro e w2 ⟨rfl, hb2⟩
      have B2 := Lib.hid hb2
      clear hb2
      go_wp2_with fail
      refine (F2.out w2 B2.out).mono ?_
      rintro e w3 ⟨rfl, hb3⟩
      have B3 := Lib.hid (B2.out.trans (hb3.mono B2.out.size))
      clear hb3 B2
      have d3 := (B3.out.cell (p := ⟨b, off + x * 2 + 1, none⟩) hbl).trans d1
      have hz3 := B3.out.size
      have d4 : (w3.alloc (.cells #[] 37)).cell? ⟨b, off + x * 2 + 1, none⟩ = some (.slice (some ⟨xb, xo, none⟩) cx.length xc) := (World.cell?_alloc_lt _ _ _ (Nat.lt_of_lt_of_le hbl hz3)).trans d3
      have tok1 : True := trivial
      have tok2 : True := trivial
      have HN1 : Hid (∀ j u, (uvals cx)[j]? = some u → (w3.alloc (.cells #[] 37)).cell? ((⟨xb, xo, none⟩ : Addr).add j) = some u) := fun j u hu => by
        obtain ⟨hj, rfl⟩ := uvals_get cx j u hu
        rw [show (⟨xb, xo, none⟩ : Addr).add j = ⟨xb, xo + j, none⟩ by unfold Addr.add; split <;> simp_all]
        exact (World.cell?_alloc_lt _ _ _ (Nat.lt_of_lt_of_le hxb hz3)).trans ((B3.out.cell (p := ⟨xb, xo + j, none⟩) hxb).trans (XC.out j hj))
      go_wp2_with (first
        | (at_builtin; have _t := tok1; refine wpList_guarded (by kernel_rfl) ?_; refine wpList_append_own (w3.alloc (.cells #[] 37)) rfl _ _ 31 rfl w3.heap.size 37 i0 (.int .u64 0) 1 8 Tryz.underlying31 HI.out.1 HI.out.2.1 HI.out.2.2.1 HI.out.2.2.2 rfl (by decide) (.slice (some ⟨w3.heap.size, 0, none⟩) 0 0) 0 [] rfl (World.ownsRow_made (base := w3.heap.size) (size := 1) (e := 37) w3 #[] 0 (Nat.le_refl _) (Nat.zero_le _) rfl) ⟨xb, xo, none⟩ cx.length xc (uvals cx) rfl (by have := S.uvals_len cx; omega) HN1.out (uvals_one cx) (by unfold maxLen; omega) (by omega) (by simp) ?_; intro v4 w4 hown hgrow _; rw [Nat.zero_add, List.nil_append] at hown; have O4 := Lib.hid hown; have B4 : Hid (Below w3.heap.size w3 w4) := (((Below.refl w3.heap.size w3).alloc (Nat.le_refl _) (.cells #[] 37)).grown hgrow (by simp) (fun j hj => by cases hj; exact Nat.le_refl _)); have hz4 := B4.out.size; clear hown hgrow tok1)
        | (at_builtin; have _t := tok2; refine wpList_guarded (by kernel_rfl) ?_; refine wpList_append_own (w4.alloc (.cells #[.int .u64 0] 37)) rfl _ _ 31 rfl w3.heap.size 37 i0 (.int .u64 0) 1 8 Tryz.underlying31 HI.out.1 HI.out.2.1 HI.out.2.2.1 HI.out.2.2.2 rfl (by decide) v4 cx.length (uvals cx) rfl (O4.out.alloc _) ⟨w4.heap.size, 0, none⟩ 1 1 [.int .u64 0] rfl rfl (S.one_new _ _ _) (S.oneCell_one _ _) (by unfold maxLen; omega) (by omega) (by simp; omega) ?_; intro v5 w5 hown hgrow _; have O5 := Lib.hid hown; have B5 := Lib.hid (grown_below (B4.out.alloc B4.out.size _) (by simp; omega) (O4.out.alloc _) hgrow); clear hown hgrow tok2))
      have O6 : w5.ownsRow w3.heap.size 37 1 v5 (cx.length + 1) (uvals (cx ++ [0])) := by
        have e := S.uvals_snoc cx 0
        rw [← e]; exact O5.out
      obtain ⟨fa, fc, rfl, h64⟩ := S.Is64.of_uvals O6 (fun i _ => (nf_snoc HAX.out).wb i)
      have B35 := Lib.hid (B3.out.trans (B5.out.mono hz3))
      have F3 := Lib.hid (FindN_val _ w5 _ m tc L (.slice fa (cx.length + 1) fc) (cx ++ [0]) cx (IH.out w5 B35.out).is (by omega) (by omega) (fun d hd => ((IH.out w5 B35.out).S d hd).1) ⟨fa, fc, by simp, by rw [List.length_append]; exact h64⟩ (nf_snoc HAX.out) HIX.out)
      clear h64 O5 O4 O6
      refine F3.out.mono ?_
      rintro e w6 ⟨rfl, hb6⟩
      have BE := Lib.hid (B1.out.trans ((B35.out.trans (hb6.mono B35.out.size)).mono B1.out.size))
      have HTE := Lib.hid (HT1.out.below (B35.out.trans (hb6.mono B35.out.size)))
      clear hb6
      go_wp2_with (go_at_call 13; refine (ex4_holds _ HTE.out).mono ?_; rintro e we ⟨rfl, hbe⟩)
      go_ret
      exact ⟨rfl, BE.out.trans (hbe.mono BE.out.size)⟩
end Go.Proofs.YtdeamdpoegdmdaaGreatDoor
