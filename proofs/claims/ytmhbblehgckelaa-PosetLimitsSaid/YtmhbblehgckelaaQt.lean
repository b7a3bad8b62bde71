/- The walk of the law PosetLimits. Written by wip/gen/limits.py. -/
import Derived.Test.YtmhbblehgckelaaQw
import Derived.Test.YtmhbblehgckelaaQi
namespace Go.Proofs.Ytmhbblehgckelaa
open Go.RowKit Go.Maps

theorem many_256 (w : World) : Calls Try.prog 14 #[.int .i64 256] w fun e w' => ∃ g c vs, e = .returned (.slice (some ⟨g, 0, none⟩) 256 c) ∧ OwnD w' w.heap.size 256 (.slice (some ⟨g, 0, none⟩) 256 c) vs (manyT 255) ∧ vs[2]? = some (.slice none 0 0) ∧ Below w.heap.size w w' := by
  refine (many_any w 256 (by decide) (by decide)).mono fun e w' ⟨v, vs, e1, h, hv2, hb⟩ => ?_
  obtain ⟨g, c, rfl, _, _⟩ := h.row.form (by decide)
  exact ⟨g, c, vs, e1, h, hv2, hb⟩
theorem many_257 (w : World) : Calls Try.prog 14 #[.int .i64 257] w fun e w' => ∃ a c, e = .returned (.slice a 257 c) ∧ IsDecs w' a 257 c (manyT 256) ∧ Below w.heap.size w w' := by
  refine (many_any w 257 (by decide) (by decide)).mono fun e w' ⟨v, vs, e1, h, hv2, hb⟩ => ?_
  obtain ⟨a, c, rfl, h2⟩ := IsDecs.of_owns h.row h.dec (by rw [manyT_len])
  exact ⟨a, c, e1, h2, hb⟩
theorem OwnD.decs {w : World} {B n g c : Nat} {vs : List Value} {D : List Dec} (h : OwnD w B n (.slice (some ⟨g, 0, none⟩) n c) vs D) (hn : D.length = n) : IsDecs w (some ⟨g, 0, none⟩) n c D := by
  obtain ⟨a, cap, e, h2⟩ := IsDecs.of_owns h.row h.dec hn
  cases e
  exact h2
/-- append of one feature. -/
theorem wpList_append_feat {w : World} {ops : Array Oper} {rest : List Oper} {o : Oper} {a : Act} {Q : Exit → Act → World → Prop} (hgd : o.guard = none) (s x : Operand)
    (ho : o.op = .call { callee := .builtin .append, args := #[s, x], argTypes := #[33, 33] })
    (B B1 g c k : Nat) (fv : Value) (hown : FeatS w B B1 g c k fv) (hs : a.eval s = fv)
    (b cc : Nat) (x0 x1 : ByteArray) (hx : a.eval x = .slice (some ⟨b, 0, none⟩) 1 cc) (hc : w.heap[b]? = some (.cells #[.string x0, .string x1] 39)) (h63 : k ≤ 100000) (hbase : B1 ≤ w.heap.size)
    (h : ∀ v' w' fs, w'.ownsRow B1 39 2 v' (k + 1) fs → w.grownBy w' fv.ownBlock → wpList Try.prog ops Q rest (a.put o.dst v') w') : wpList Try.prog ops Q (o :: rest) a w := by
  obtain ⟨i0, hi, hz0, hz1, hz2⟩ := info_parts Try.infoFd
  obtain ⟨fs, hrow⟩ := hown.row
  refine wpList_append_own_at w hgd s x 33 ho B1 39 i0 _ 2 32 Try.underlying33 hi hz0 hz1 hz2 rfl (by decide) fv k fs hs hrow ⟨b, 0, none⟩ 1 cc [.string x0, .string x1] hx rfl ?_ ?_ (by unfold maxLen; omega) (by omega) hbase fun v' w' h2 h3 _ _ => h v' w' _ h2 h3
  · intro j u hu
    rw [show (⟨b, 0, none⟩ : Addr).add j = ⟨b, j, none⟩ by unfold Addr.add; split <;> simp_all]
    rw [← hu]
    rw [cell_of_row w b j _ _ _ hc]
    simp
  · intro u hu
    simp at hu
    rcases hu with rfl | rfl <;> rfl
theorem decs_one (w : World) (f fc : Nat) (h1 : 256 ≤ fc) (h2 : fc ≤ maxLen) : IsDecs (w.alloc (.cells #[.string ⟨#[116]⟩, .slice none 0 0, .slice (some ⟨f, 0, none⟩) 256 fc] 35)) (some ⟨w.heap.size, 0, none⟩) 1 1 [⟨[116], [], 256⟩] := by
  refine ⟨rfl, Nat.le_refl _, by decide, fun _ => ⟨_, _, rfl, by simp, fun i hi => ?_⟩⟩
  obtain rfl : i = 0 := by omega
  exact ⟨none, 0, some ⟨f, 0, none⟩, fc, ⟨World.cell?_alloc_new .., World.cell?_alloc_new .., World.cell?_alloc_new .., IsStrs.nil _, h1, h2, by show 1 ≤ maxLen; decide⟩⟩
/-- append of one supertype to a slice that has no room. -/
theorem wpList_append_sup {w : World} {ops : Array Oper} {rest : List Oper} {o : Oper} {a : Act} {Q : Exit → Act → World → Prop} (hgd : o.guard = none) (s x : Operand)
    (ho : o.op = .call { callee := .builtin .append, args := #[s, x], argTypes := #[25, 25] })
    (B g c k m b off cap : Nat) (hS : SupS w B g c k m (.slice (some ⟨b, off, none⟩) m cap)) (hs : a.eval s = .slice (some ⟨b, off, none⟩) k k)
    (nb cc : Nat) (hx : a.eval x = .slice (some ⟨nb, 0, none⟩) 1 cc) (hc : w.heap[nb]? = some (.cells #[.string ⟨#[116]⟩] 9)) (h63 : k ≤ 100000)
    (h : ∀ v' w', w'.ownsRow w.heap.size 9 1 v' (k + 1) (svals (List.replicate (k + 1) [116])) → w.grownBy w' none → wpList Try.prog ops Q rest (a.put o.dst v') w') : wpList Try.prog ops Q (o :: rest) a w := by
  obtain ⟨i0, hi, hz0, hz1, hz2⟩ := info_parts Try.infoS
  obtain ⟨b', off', cap', e, h1, h2, h3, h4⟩ := hS.form
  cases e
  have hkm := hS.km.1
  refine wpList_append_arg w hgd s x 25 ho 9 i0 (.string ByteArray.empty) 1 16 Try.underlying25 hi hz0 hz1 hz2 rfl (by decide) b off k k (svals (List.replicate k [116])) hs (by rw [svals_len, List.length_replicate]; omega) ?_ ⟨nb, 0, none⟩ 1 cc [.string (mk [116])] hx rfl ?_ ?_ (by omega) (by unfold maxLen; omega) (by omega) (fun hh => absurd hh (by omega)) ?_
  · intro j u hu
    unfold svals at hu
    rw [List.getElem?_map] at hu
    have hj : j < k := by
      rcases Nat.lt_or_ge j k with hj | hj
      · exact hj
      · rw [List.getElem?_replicate, if_neg (by omega)] at hu; cases hu
    rw [List.getElem?_replicate, if_pos hj] at hu
    rw [h4 j (by omega), ← hu]; rfl
  · intro j u hu
    rw [show (⟨nb, 0, none⟩ : Addr).add j = ⟨nb, j, none⟩ by unfold Addr.add; split <;> simp_all]
    rw [← hu, cell_of_row w nb j _ _ _ hc]
    simp [mk]
  · intro u hu
    simp at hu
    rw [hu]; rfl
  · intro _ v' w' r1 r2
    refine h v' w' ?_ r2
    rw [List.replicate_succ', ← svals_snoc]
    exact r1
theorem decs_two (w : World) (b off cap : Nat) (h1 : 256 ≤ cap) (h2 : cap ≤ maxLen) (hb : b < w.heap.size) (hx : ∀ i, i < 256 → w.cell? ⟨b, off + i, none⟩ = some (.string (mk [116]))) :
    IsDecs (w.alloc (.cells #[.string ⟨#[116]⟩, .slice none 0 0, .slice none 0 0, .string ⟨#[97]⟩, .slice (some ⟨b, off, none⟩) 256 cap, .slice none 0 0] 35)) (some ⟨w.heap.size, 0, none⟩) 2 2 [⟨[116], [], 0⟩, ⟨[97], List.replicate 256 [116], 0⟩] := by
  have hs : IsStrs w (some ⟨b, off, none⟩) 256 cap (List.replicate 256 [116]) := by
    refine ⟨List.length_replicate, h1, h2, fun z hz => by rw [List.eq_of_mem_replicate hz]; decide, (fun e => by cases e), fun _ => ⟨b, off, rfl, hb, fun i hi => ?_⟩⟩
    rw [hx i hi]
    unfold st
    rw [List.getD_eq_getElem?_getD, List.getElem?_replicate, if_pos hi]; rfl
  have hl : (List.replicate 256 ([116] : Str)).length = 256 := List.length_replicate
  refine ⟨rfl, Nat.le_refl _, by decide, fun _ => ⟨_, _, rfl, by simp, fun i hi => ?_⟩⟩
  rcases i with _ | _ | i
  · exact ⟨none, 0, none, 0, ⟨World.cell?_alloc_new .., World.cell?_alloc_new .., World.cell?_alloc_new .., IsStrs.nil _, Nat.le_refl _, Nat.zero_le _, by show 1 ≤ maxLen; decide⟩⟩
  · refine ⟨some ⟨b, off, none⟩, cap, none, 0, ⟨World.cell?_alloc_new .., ?_, World.cell?_alloc_new .., ?_, Nat.le_refl _, Nat.zero_le _, by show 1 ≤ maxLen; decide⟩⟩
    · show _ = some (Value.slice (some ⟨b, off, none⟩) (List.replicate 256 ([116] : Str)).length cap)
      rw [hl]
      exact World.cell?_alloc_new ..
    · show IsStrs _ _ (List.replicate 256 ([116] : Str)).length cap (List.replicate 256 [116])
      rw [hl]
      exact hs.below (ba _ _)
  · omega
theorem chk_cases (x : Nat) : (x : Int) % 3 = 0 ∨ (x : Int) % 3 = 1 ∨ (x : Int) % 3 = 2 := by omega

set_option maxRecDepth 100000 in
set_option maxHeartbeats 6400000 in
theorem PosetLimits_mk (w : World) (j : Nat) (hj : j < 256) :
    Calls Try.prog 5 #[.int .u8 j] w fun e w' => e = .returned (.bool true) ∧ Below w.heap.size w w' := by
  go_enter Try.func5, Try.ntmps5
  go_wp2_with fail
  refine (many_256 w).mono ?_
  rintro e w1 ⟨g, c, vs, rfl, hown, hv2, hb1⟩
  have B1 := Lib.hid hb1
  have OW := Lib.hid hown
  obtain ⟨q, hq⟩ : ∃ q : Int, (j : Int) % 3 = q := ⟨_, rfl⟩
  have hc := chk_cases j
  rw [hq] at hc
  clear hown hb1
  rcases hc with rfl | rfl | rfl
  · clear hv2
    go_wp2_with fail
    refine (Check_val 0 w1 _ 256 c _ (OW.out.decs (manyT_len _)) many_ok).mono ?_
    rintro e w2 ⟨rfl, hb2⟩
    have B2 := Lib.hid (B1.out.trans (hb2.mono B1.out.size))
    clear hb2
    go_wp2_with fail
    refine (many_257 w2).mono ?_
    rintro e w3 ⟨a3, c3, rfl, h3, hb3⟩
    have H3 := Lib.hid h3
    have B3 := Lib.hid (B2.out.trans (hb3.mono B2.out.size))
    clear h3 hb3
    go_wp2_with fail
    refine (Check_val 7 w3 _ 257 c3 _ H3.out many_long).mono ?_
    rintro e w4 ⟨rfl, hb4⟩
    have B4 := Lib.hid (B3.out.trans (hb4.mono B3.out.size))
    clear hb4
    go_wp2_with fail
    refine (ex_holds w4).mono ?_
    rintro e w5 ⟨rfl, hb5⟩
    have B5 := Lib.hid (B4.out.trans (hb5.mono B4.out.size))
    clear hb5
    go_wp2
    go_ret
    exact ⟨rfl, B5.out⟩
  · have hgl := OW.out.row.lt g rfl
    have F0 : FeatS w1 w.heap.size w1.heap.size g c 0 (.slice none 0 0) := ⟨⟨vs, featT_zero ▸ OW.out, hv2, fun i sa m cc p h1 hp => (OW.out.apart _ _ _ _ p h1 hp).2⟩, ⟨[], rfl, .inl ⟨rfl, rfl⟩⟩, hgl.2⟩
    have F0 := Lib.hid F0
    have hgl2 := hgl.2
    clear hv2 hgl
    go_wp2_with fail
    clear hq
    go_loopw [4] (fun u wr => ∃ (k : Nat) (fv : Value), k ≤ 257 ∧ u = .int .i64 k ∧ Hid (FeatS wr w.heap.size w1.heap.size g c k fv) ∧ Hid (Below w.heap.size w wr ∧ w1.heap.size ≤ wr.heap.size)) (fun u _ => 257 - (intOf u).toNat)
    case atStart => exact ⟨0, _, Nat.zero_le _, rfl, F0.out, B1.out, Nat.le_refl _⟩
    case round =>
      obtain ⟨k, fv, hk, rfl, hF, hB⟩ := hrel
      by_cases hlt : k < 257
      · have hk' : (k : Int) ≤ 256 := by omega
        have c2 := hF.out.cell
        have FA := Lib.hid (fun o => hF.out.below (ba wr o))
        have hwz := (hF.out.own.choose_spec.1.row.lt g rfl)
        have hbs : w1.heap.size ≤ wr.heap.size := hB.out.2
        go_wp2_with (at_builtin; refine wpList_append_feat (w := wr.alloc (.cells #[.string ⟨#[70]⟩, .string ⟨#[116]⟩] 39)) rfl _ _ rfl w.heap.size w1.heap.size g c k fv (FA.out _) rfl wr.heap.size 1 _ _ rfl (heap_alloc_new wr _) (by omega) (by simp; omega) ?_; intro v5 w5 fs5 hr5 hg5; obtain ⟨f5, fc5, rfl, _, _⟩ := hr5.form (by omega); have P5 := Lib.hid ((FA.out _).put hr5 hg5); have f5 := P5.out.2.1; have c5 := P5.out.2.2.1; have B5 := Lib.hid (And.intro ((hB.out.1.alloc hB.out.1.size _).grown hg5 (by have := hB.out.1.size; simp; omega) (fun j e => Nat.le_trans B1.out.size ((FA.out (.cells #[.string ⟨#[70]⟩, .string ⟨#[116]⟩] 39)).row.choose_spec.lt j e).1)) hg5.size); clear hr5 hg5)
        go_roundw
        case rel =>
          refine ⟨k + 1, _, by omega, by go_num, P5.out.1, B5.out.1.setCell (p := ⟨g, 2, none⟩) hwz.1 _, ?_⟩
          have := B5.out.2
          rw [World.size_alloc] at this
          rw [World.size_setCell]
          omega
        case measure => simp [intOf]; omega
      · obtain rfl : k = 257 := by omega
        obtain ⟨f, fc, rfl, hf1, hf2⟩ := hF.out.row.choose_spec.form (by decide)
        have c2 := hF.out.cell
        have hcap : 257 ≤ fc ∧ fc ≤ maxLen := by
          obtain ⟨_, ⟨_, h0⟩ | ⟨g', cap, cur, hv, _, _, h3, h4, _⟩⟩ := hF.out.row.choose_spec
          · omega
          · cases hv; exact ⟨h3, h4⟩
        have hcm := hcap.2
        unfold maxLen at hcm
        have hc1 := hcap.1
        go_wp2_with fail
        have FY := Lib.hid (hF.out.below (ba wr (.cells #[.string ⟨#[116]⟩, .slice none 0 0, .slice (some ⟨f, 0, none⟩) 256 fc] 35)))
        have HY := Lib.hid (decs_one wr f fc (by omega) hcap.2)
        obtain ⟨wy, hwy⟩ : ∃ wy, wy = wr.alloc (.cells #[.string ⟨#[116]⟩, .slice none 0 0, .slice (some ⟨f, 0, none⟩) 256 fc] 35) := ⟨_, rfl⟩
        have BY := Lib.hid (hB.out.1.alloc hB.out.1.size (.cells #[.string ⟨#[116]⟩, .slice none 0 0, .slice (some ⟨f, 0, none⟩) 256 fc] 35))
        rw [← hwy] at FY HY BY ⊢
        clear hwy c2
        refine (Check_val 7 wy _ 256 c _ (FY.out.own.choose_spec.1.decs (featT_len _)) featT_bad).mono ?_
        rintro e w2 ⟨rfl, hb2⟩
        have H2 := Lib.hid (HY.out.below hb2)
        have B2 := Lib.hid (BY.out.trans (hb2.mono BY.out.size))
        clear hb2
        go_wp2_with fail
        refine (Check_val 0 w2 _ 1 1 _ H2.out feats_ok).mono ?_
        rintro e w4 ⟨rfl, hb4⟩
        have B4 := Lib.hid (B2.out.trans (hb4.mono B2.out.size))
        clear hb4
        go_wp2_with fail
        refine (ex_holds w4).mono ?_
        rintro e w5 ⟨rfl, hb5⟩
        have B5 := Lib.hid (B4.out.trans (hb5.mono B4.out.size))
        clear hb5
        go_wp2
        go_ret
        exact ⟨rfl, B5.out⟩
  · have hgl := OW.out.row.lt g rfl
    have S0 : Hid (∃ sv, SupS w1 w.heap.size g c 0 1 sv) := SupS.of (supT_one ▸ OW.out) (by decide) ⟨by decide, .inr ⟨rfl, rfl⟩⟩
    have hgl1 := hgl.1
    clear hv2 hgl
    go_wp2_with fail
    clear hq
    go_loopw [6] (fun u wr => ∃ (k m : Nat) (sv : Value), k ≤ 257 ∧ u = .int .i64 k ∧ Hid (SupS wr w.heap.size g c k m sv) ∧ Hid (Below w.heap.size w wr)) (fun u _ => 257 - (intOf u).toNat)
    case atStart =>
      obtain ⟨sv, h⟩ := S0.out
      exact ⟨0, 1, sv, Nat.zero_le _, rfl, h, B1.out⟩
    case round =>
      obtain ⟨k, m, sv, hk, rfl, hF, hB⟩ := hrel
      obtain ⟨b, off, cap, rfl, hmc, hcm, hbl, hx⟩ := hF.out.form
      have HX := Lib.hid hx
      have HCM := Lib.hid hcm
      have hkm := hF.out.km
      unfold maxLen at hcm
      have c4 := hF.out.cell
      clear hx
      by_cases hlt : k < 257
      · have hk' : (k : Int) ≤ 256 := by omega
        have hkc : k ≤ cap := by omega
        have FA := Lib.hid (fun o => hF.out.below (ba wr o))
        go_wp2_with (at_builtin; refine wpList_append_sup (w := wr.alloc (.cells #[.string ⟨#[116]⟩] 9)) rfl _ _ rfl w.heap.size g c k m b off cap (FA.out _) rfl wr.heap.size 1 rfl (heap_alloc_new wr _) (by omega) ?_; intro v5 w5 hr5 hg5; obtain ⟨f5, fc5, rfl, _, _⟩ := hr5.form (by omega); have P5 := Lib.hid ((FA.out _).put hr5 hg5); have f5 := P5.out.2.1; have c5 := P5.out.2.2.1; have B5 := Lib.hid ((hB.out.alloc hB.out.size _).grown hg5 (by have := hB.out.size; simp; omega) (fun j e => by cases e)); clear hr5 hg5)
        go_roundw
        case rel =>
          obtain ⟨sv, h⟩ := P5.out.1
          exact ⟨k + 1, k + 1, sv, by omega, by go_num, h, B5.out.setCell (p := ⟨g, 4, none⟩) hgl1 _⟩
        case measure => simp [intOf]; omega
      · obtain rfl : k = 257 := by omega
        obtain rfl : m = 257 := by omega
        have hgw := (hF.out.own.choose_spec.1.row.lt g rfl).2
        have hgl : g < wr.drew.heap.size := by simp; omega
        have d0 : wr.drew.cell? ⟨g, 4, none⟩ = some (.slice (some ⟨b, off, none⟩) 257 cap) := c4
        have hc1 : (256 : Int) ≤ (cap : Int) := by omega
        have hg2 : (g : Nat) < wr.heap.size := hgw
        go_wp2_with fail
        refine wp_region_held_drew (S := fun w' => w'.cell? ⟨g, 4, none⟩ = some (.slice (some ⟨b, off, none⟩) 257 cap)) (by kernel_rfl) ?_ (fun hHeld => ?_)
        · go_keep
        refine wpAnyH_take (i := 1) (oi := ⟨some 75, _, _, _, _, _⟩) (v := ?_) rfl (by kernel_rfl) (by kernel_rfl) (by kernel_rfl) (fun _ _ _ h => h) (Or.inl ⟨by kernel_rfl, ?_⟩) (by assumption) ?_; rotate_left
        · intro w hSw; (try dsimp only at hSw); go_simp; (try with_reducible rfl)
        simp only [Act.put, List.setIfInBounds_toArray, List.set_cons_zero, List.set_cons_succ]
        refine wpAnyH_take (i := 2) (oi := ⟨some 76, _, _, _, _, _⟩) (v := ?_) rfl (by kernel_rfl) (by kernel_rfl) (by kernel_rfl) (fun _ _ _ h => h) (Or.inl ⟨by kernel_rfl, ?_⟩) (by assumption) ?_; rotate_left
        · intro w hSw; (try dsimp only at hSw); go_simp; (try with_reducible rfl)
        simp only [Act.put, List.setIfInBounds_toArray, List.set_cons_zero, List.set_cons_succ]
        refine wpAnyH_take (i := 3) (oi := ⟨some 77, _, _, _, _, _⟩) (v := ?_) rfl (by kernel_rfl) (by kernel_rfl) (by kernel_rfl) (fun _ _ _ h => h) (Or.inl ⟨by kernel_rfl, ?_⟩) (by assumption) ?_; rotate_left
        · intro w hSw; (try dsimp only at hSw); go_simp; (try with_reducible rfl)
        simp only [Act.put, List.setIfInBounds_toArray, List.set_cons_zero, List.set_cons_succ]
        refine wpAnyH_take (i := 4) (oi := ⟨some 78, _, _, _, _, _⟩) (v := ?_) rfl (by kernel_rfl) (by kernel_rfl) (by kernel_rfl) (fun _ _ _ h => h) (Or.inl ⟨by kernel_rfl, ?_⟩) (by assumption) ?_; rotate_left
        · intro w hSw; (try dsimp only at hSw); go_simp; (try with_reducible rfl)
        simp only [Act.put, List.setIfInBounds_toArray, List.set_cons_zero, List.set_cons_succ]
        refine wpAnyH_take (i := 5) (oi := ⟨some 79, _, _, _, _, _⟩) (v := ?_) rfl (by kernel_rfl) (by kernel_rfl) (by kernel_rfl) (fun _ _ _ h => h) (Or.inl ⟨by kernel_rfl, ?_⟩) (by assumption) ?_; rotate_left
        · intro w hSw; (try dsimp only at hSw); go_simp; (try with_reducible rfl)
        simp only [Act.put, List.setIfInBounds_toArray, List.set_cons_zero, List.set_cons_succ]
        refine wpAnyH_take (i := 6) (oi := ⟨some 80, _, _, _, _, _⟩) (v := ?_) rfl (by kernel_rfl) (by kernel_rfl) (by kernel_rfl) (fun _ _ _ h => h) (Or.inl ⟨by kernel_rfl, ?_⟩) (by assumption) ?_; rotate_left
        · intro w hSw; (try dsimp only at hSw); go_simp; (try with_reducible rfl)
        simp only [Act.put, List.setIfInBounds_toArray, List.set_cons_zero, List.set_cons_succ]
        refine wpAnyH_ready (rs := [0]) (by kernel_rfl) (by simp) ?_
        refine AllReadyH.cons (o := ⟨some 74, _, _, _, _, _⟩) rfl (fun K hK => ?_) AllReadyH.nil
        go_simp
        refine (decl_any _ _ _ _ _).mono ?_; rintro e w6 ⟨rfl, rfl⟩; have f6 := (World.cell?_alloc_lt wr.drew (.cells #[.string ⟨#[116]⟩, .slice none 0 0, .slice none 0 0] 35) _ hgl).trans d0
        refine hK.out _ _ ?_ (fun hHeld => ?_)
        · go_keep
        clear hK K
        (try simp only [Act.put, List.setIfInBounds_toArray, List.set_cons_zero, List.set_cons_succ])
        refine wpAnyH_ready (rs := [7]) (by kernel_rfl) (by simp) ?_
        refine AllReadyH.cons (o := ⟨some 81, _, _, _, _, _⟩) rfl (fun K hK => ?_) AllReadyH.nil
        go_simp
        refine hK.out _ _ ?_ (fun hHeld => ?_)
        · go_keep
        clear hK K
        (try simp only [Act.put, List.setIfInBounds_toArray, List.set_cons_zero, List.set_cons_succ])
        refine wpAnyH_take (i := 8) (oi := ⟨some 7, _, _, _, _, _⟩) (v := ?_) rfl (by kernel_rfl) (by kernel_rfl) (by kernel_rfl) (fun _ _ _ h => h) (Or.inl ⟨by kernel_rfl, ?_⟩) (by assumption) ?_; rotate_left
        · intro w hSw; (try dsimp only at hSw); go_simp; (try with_reducible rfl)
        simp only [Act.put, List.setIfInBounds_toArray, List.set_cons_zero, List.set_cons_succ]
        refine wpAnyH_done (by kernel_rfl) ?_ _
        obtain ⟨W1, hW1⟩ : ∃ W1, W1 = wr.alloc (.cells #[.string ⟨#[116]⟩, .slice none 0 0, .slice none 0 0] 35) := ⟨_, rfl⟩
        have b1 : Below wr.heap.size wr W1 := by rw [hW1]; exact ba _ _
        have hs1 : W1.heap.size = wr.heap.size + 1 := by rw [hW1]; simp
        rw [← hW1]
        have HY1 := decs_two W1 b off cap (by omega) HCM.out (by omega) (fun i hi => (b1.cell (p := ⟨b, off + i, none⟩) hbl).trans (HX.out i (by omega)))
        rw [hs1] at HY1
        obtain ⟨wy, hwy⟩ : ∃ wy, wy = (W1.alloc (.cells #[.string ⟨#[116]⟩, .slice none 0 0, .slice none 0 0, .string ⟨#[97]⟩, .slice (some ⟨b, off, none⟩) 256 cap, .slice none 0 0] 35)).drew := ⟨_, rfl⟩
        have b2 : Below wr.heap.size wr wy := by rw [hwy]; exact (b1.alloc b1.size _).drew
        have HY := Lib.hid (show IsDecs wy (some ⟨wr.heap.size + 1, 0, none⟩) 2 2 [⟨[116], [], 0⟩, ⟨[97], List.replicate 256 [116], 0⟩] from by rw [hwy]; exact HY1.below (Below.refl _ _).drew)
        have FY := Lib.hid (hF.out.below b2)
        have BY := Lib.hid (hB.out.trans (b2.mono hB.out.size))
        rw [← hwy]
        clear hwy HY1 b2 b1 hW1 hs1 c4 d0 f6 hHeld
        go_wp2_with fail
        refine (Check_val 7 wy _ 256 c _ (FY.out.own.choose_spec.1.decs (supT_len _)) supT_bad).mono ?_
        rintro e w2 ⟨rfl, hb2⟩
        have H2 := Lib.hid (HY.out.below hb2)
        have B2 := Lib.hid (BY.out.trans (hb2.mono BY.out.size))
        clear hb2
        go_wp2_with fail
        refine (Check_val 4 w2 _ 2 2 _ H2.out twice_bad).mono ?_
        rintro e w4 ⟨rfl, hb4⟩
        have B4 := Lib.hid (B2.out.trans (hb4.mono B2.out.size))
        clear hb4
        go_wp2_with fail
        refine (ex_holds w4).mono ?_
        rintro e w5 ⟨rfl, hb5⟩
        have B5 := Lib.hid (B4.out.trans (hb5.mono B4.out.size))
        clear hb5
        go_wp2
        go_ret
        exact ⟨rfl, B5.out⟩

theorem PosetLimits_law (w : World) (x : Int) (h0 : 0 ≤ x) (h1 : x < 256) :
    Calls Try.prog 5 #[.int .u8 x] w fun e w' => e = .returned (.bool true) ∧ Below w.heap.size w w' := by
  obtain ⟨j, rfl⟩ : ∃ j : Nat, x = (j : Int) := ⟨x.toNat, by omega⟩
  exact PosetLimits_mk w j (by omega)
end Go.Proofs.Ytmhbblehgckelaa
