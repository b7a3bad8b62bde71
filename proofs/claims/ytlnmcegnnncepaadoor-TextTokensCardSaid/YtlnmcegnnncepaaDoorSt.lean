/- Walk of the law TextTokens: the law. -/
import Derived.Test.YtlnmcegnnncepaaDoorSr
namespace Go.Proofs.YtlnmcegnnncepaaDoor
open Go.RowKit

theorem map_tk {ts : List Tok} {k : Nat} (hk : k < ts.length) : (tk (ts.map fun t => (⟨t.kind, t.text, 1⟩ : Tok)) k).kind = (tk ts k).kind ∧ (tk (ts.map fun t => (⟨t.kind, t.text, 1⟩ : Tok)) k).text = (tk ts k).text ∧ (tk (ts.map fun t => (⟨t.kind, t.text, 1⟩ : Tok)) k).line = 1 := by
  have e : tk (ts.map fun t => (⟨t.kind, t.text, 1⟩ : Tok)) k = ⟨(tk ts k).kind, (tk ts k).text, 1⟩ := by
    unfold tk
    rw [List.getD_eq_getElem?_getD, List.getElem?_map, List.getD_eq_getElem?_getD, List.getElem?_eq_getElem hk]; rfl
  rw [e]; exact ⟨rfl, rfl, rfl⟩
theorem kinds_le {l : List UInt8} (hl : l.length ≤ 1000) : ∀ t ∈ (scanR l).toks, t.kind ≤ 5 := by
  have e1 : scanR l = run l 1 false [] := by unfold scanR; rw [if_neg (by omega)]
  intro t ht
  rw [e1] at ht
  obtain ⟨b, r, _, _, h3, _, _⟩ := (run_read l.length l (Nat.le_refl _) 1 false [] (fun t ht => (List.not_mem_nil ht).elim)).1 t ht
  have := (fst3_le (l := b :: r) (by simp)).2.1
  rw [h3] at this
  exact this
theorem tk_mem {ts : List Tok} {k : Nat} (hk : k < ts.length) : tk ts k ∈ ts := by
  unfold tk; rw [List.getD_eq_getElem?_getD, List.getElem?_eq_getElem hk]; exact List.getElem_mem _

set_option maxRecDepth 100000 in
set_option maxHeartbeats 6400000 in
theorem TextTokens_law (W : World) (s : ByteArray) (hs : s.size ≤ maxLen) (hT : TxtOk W) :
    Calls Tryd.prog 8 #[.string s] W fun e W' => e = .returned (.bool true) ∧ Below W.heap.size W W' := by
  have HT := Lib.hid hT
  unfold maxLen at hs
  clear hT
  by_cases hbig : 1000 < s.size
  · go_enter Tryd.func8, Tryd.ntmps8
    go_wp2_with (go_at_call 15; refine (exampleHolds_any _ HT.out).mono ?_; rintro e w1 ⟨rfl, hb1⟩)
    go_ret
    exact ⟨rfl, hb1⟩
  have hs2 : s.size ≤ 1000 := by omega
  clear hbig
  have hsl : s.data.toList.length ≤ 1000 := by rw [size_list]; exact hs2
  have hbk := tokens_back s.data.toList hsl
  have hkd := kinds_le hsl
  have hbad := scanR_bad hsl
  obtain ⟨A, hA⟩ : ∃ b, scanR s.data.toList = b := ⟨_, rfl⟩
  have hlA : A.toks.length ≤ 1000 := by rw [← hA]; exact Nat.le_trans (scanR_len _) hsl
  have CA := Lib.hid (show ∀ w, TxtOk w → Calls Tryd.prog 29 #[.string s] w (RetT A w) from fun w hw => hA ▸ Scan_any s w (by unfold maxLen; omega) hw)
  rw [hA] at hbk hkd hbad
  clear hA
  obtain ⟨TA, LA, EA⟩ := A
  simp only at hbk hkd hbad hlA
  by_cases hae : EA = 0
  · subst hae
    clear hbad
    have hfl := hbk.1
    have CB := Lib.hid (show ∀ w, TxtOk w → Calls Tryd.prog 29 #[.string (mk (flat TA))] w (RetT ⟨TA.map fun t => ⟨t.kind, t.text, 1⟩, 0, 0⟩ w) from fun w hw => by
      have h := Scan_any (mk (flat TA)) w (by rw [mk_sz]; unfold maxLen; omega) hw
      rw [mk_list, hbk.2] at h
      exact h)
    have HKD := Lib.hid hkd
    have HFL := Lib.hid hfl
    clear hbk hkd hfl hsl
    go_enter Tryd.func8, Tryd.ntmps8
    go_wp2_with (go_at_call 29; (with_reducible refine (CA.out _ HT.out).mono ?_); rintro e w1 ⟨a1, m1, k1, rfl, hx1, hb1⟩; have X1 := Lib.hid hx1; have E1 := hx1.len; clear hx1; subst E1; have T1 := Lib.hid (HT.out.below hb1))
    have hc1 := X1.out.capLe
    have hm1 := X1.out.maxLe
    unfold maxLen at hm1
    obtain ⟨wb, ewb⟩ : ∃ wb : World, wb = w1 := ⟨_, rfl⟩
    go_loopw [6, 7] (fun l v wr => ∃ i : Nat, i ≤ TA.length ∧ v = .int .i64 ((i : Nat) : Int) ∧ l = .string (mk (flat (TA.take i))) ∧ Below w1.heap.size w1 wr) (fun _ v _ => TA.length - (intOf v).toNat)
    case atStart => exact ⟨0, Nat.zero_le _, rfl, by rw [List.take_zero]; rfl, Below.refl _ _⟩
    case round =>
      obtain ⟨i, hi, rfl, rfl, hb⟩ := hrel
      by_cases hlt : i < TA.length
      · obtain ⟨b, off, rfl, hbl, hx⟩ := X1.out.at_ (by omega)
        obtain ⟨x1, x2, x3⟩ := hx i hlt
        have c1 := (hb.cell (p := ⟨b, off + 3 * i, none⟩) hbl).trans x1
        have c2 := (hb.cell (p := ⟨b, off + (3 * i + 1), none⟩) hbl).trans x2
        have c3 := (hb.cell (p := ⟨b, off + (3 * i + 2), none⟩) hbl).trans x3
        rw [show off + 3 * i = off + i * 3 by omega] at c1
        rw [show off + (3 * i + 1) = off + i * 3 + 1 by omega] at c2
        rw [show off + (3 * i + 2) = off + i * 3 + 2 by omega] at c3
        have h1 := flat_take hlt
        have h2 := flat_le (ts := TA) i
        have h3 := Nat.le_trans (wr_le hlt) HFL.out
        have h4 := text_le (tk TA i)
        have h5 := HKD.out _ (tk_mem hlt)
        have hfl := HFL.out
        have hw := fun W => written_any (tk TA i) W h5 (by omega)
        have hfin : (mk (flat (TA.take i)) ++ (⟨#[32]⟩ : ByteArray)) ++ mk (wri (tk TA i)) = mk (flat (TA.take (i + 1))) := by
          rw [h1]; apply ByteArray.ext; simp [mk]
        obtain ⟨t, ht⟩ : ∃ t, tk TA i = t := ⟨_, rfl⟩
        obtain ⟨f, hf⟩ : ∃ f, mk (flat (TA.take i)) = f := ⟨_, rfl⟩
        obtain ⟨g, hg⟩ : ∃ g, mk (wri t) = g := ⟨_, rfl⟩
        have hz1 : f.size + (⟨#[32]⟩ : ByteArray).size ≤ 9223372036854775807 := by rw [← hf, mk_sz]; show _ + 1 ≤ _; omega
        have hz2 : (f ++ (⟨#[32]⟩ : ByteArray)).size + g.size ≤ 9223372036854775807 := by rw [ByteArray.size_append, ← hf, ← hg, mk_sz, mk_sz, ← ht]; show _ + 1 + _ ≤ _; omega
        rw [ht] at c1 c2 c3 hw hfin
        rw [hg] at hw hfin
        rw [hf] at hfin
        rw [hf]
        have HW := Lib.hid hw
        have HF := Lib.hid hfin
        clear hx x1 x2 x3 h1 h2 h3 h4 h5 hfl hw hfin ht hf hg
        go_wp2_with (go_at_call 32; (with_reducible refine (HW.out _).mono ?_); rintro e w2 ⟨rfl, hb2⟩)
        go_roundw
        case rel => exact ⟨i + 1, by omega, by go_num, by rw [← HF.out], hb.trans (hb2.mono hb.size)⟩
        case measure => simp [intOf]; omega
      · obtain rfl : i = TA.length := by omega
        rw [List.take_length]
        have TR := Lib.hid (T1.out.below hb)
        have XR := Lib.hid (X1.out.below hb)
        clear hlt hi
        go_wp2_with (go_at_call 29; (with_reducible refine (CB.out _ TR.out).mono ?_); rintro e w2 ⟨a2, m2, k2, rfl, hx2, hb2⟩; have X2 := Lib.hid hx2; have E2 := hx2.len; clear hx2; rw [List.length_map] at E2; subst E2; have T2 := Lib.hid (TR.out.below hb2); have X3 := Lib.hid (XR.out.below hb2); have B2 := (hb1.trans (hb.mono hb1.size)).trans (hb2.mono (Nat.le_trans hb1.size hb.size)))
        have hc2 := X2.out.capLe
        have hm2 := X2.out.maxLe
        unfold maxLen at hm2
        go_loopw [11] (fun v wr2 => ∃ i : Nat, i ≤ TA.length ∧ v = .int .i64 ((i : Nat) : Int) ∧ Below w2.heap.size w2 wr2) (fun v _ => TA.length - (intOf v).toNat)
        case atStart => exact ⟨0, Nat.zero_le _, rfl, Below.refl _ _⟩
        case round =>
          obtain ⟨i, hi, rfl, hbb⟩ := hrel
          by_cases hlt : i < TA.length
          · obtain ⟨b, off, rfl, hbl, hx⟩ := X3.out.at_ (by omega)
            obtain ⟨b2, off2, rfl, hbl2, hy⟩ := X2.out.at_ (by omega)
            obtain ⟨x1, x2, x3⟩ := hx i hlt
            obtain ⟨y1, y2, y3⟩ := hy i hlt
            obtain ⟨m1, m2, m3⟩ := map_tk hlt
            rw [m1] at y1
            rw [m2] at y2
            rw [m3] at y3
            have c1 := (hbb.cell (p := ⟨b, off + 3 * i, none⟩) hbl).trans x1
            have c2 := (hbb.cell (p := ⟨b, off + (3 * i + 1), none⟩) hbl).trans x2
            have d1 := (hbb.cell (p := ⟨b2, off2 + 3 * i, none⟩) hbl2).trans y1
            have d2 := (hbb.cell (p := ⟨b2, off2 + (3 * i + 1), none⟩) hbl2).trans y2
            have d3 := (hbb.cell (p := ⟨b2, off2 + (3 * i + 2), none⟩) hbl2).trans y3
            rw [show off + 3 * i = off + i * 3 by omega] at c1
            rw [show off + (3 * i + 1) = off + i * 3 + 1 by omega] at c2
            rw [show off2 + 3 * i = off2 + i * 3 by omega] at d1
            rw [show off2 + (3 * i + 1) = off2 + i * 3 + 1 by omega] at d2
            rw [show off2 + (3 * i + 2) = off2 + i * 3 + 2 by omega] at d3
            obtain ⟨kd, hkd⟩ : ∃ x, (tk TA i).kind = x := ⟨_, rfl⟩
            obtain ⟨tx, htx⟩ : ∃ x, mk (tk TA i).text = x := ⟨_, rfl⟩
            rw [hkd] at c1 d1
            rw [htx] at c2 d2
            clear hx hy x1 x2 x3 y1 y2 y3 m1 m2 m3 hkd htx
            go_wp2
            go_quiet (fail)
            go_wp2
            go_roundw
            case rel => exact ⟨i + 1, by omega, by go_num, by first | exact hbb | exact hbb.drew | exact below_drewN2 hbb _⟩
            case measure => simp [intOf]; omega
          · have B3 := B2.trans (hbb.mono B2.size)
            have T3 := Lib.hid (T2.out.below hbb)
            go_wp2_with (go_at_call 15; refine (exampleHolds_any _ T3.out).mono ?_; rintro e w4 ⟨rfl, hb4⟩; have B4 := B3.trans (hb4.mono B3.size))
            go_ret
            exact ⟨rfl, B4⟩
  · obtain ⟨hb0, hl1⟩ := hbad hae
    subst hb0
    have ha2 : (EA != 0) = true := by simpa using hae
    have hl2 : ((1 : Int)) ≤ ((LA : Nat) : Int) := by omega
    clear hbk hkd hbad hsl hae hlA
    go_enter Tryd.func8, Tryd.ntmps8
    go_wp2_with (first
      | (go_at_call 29; (with_reducible refine (CA.out _ HT.out).mono ?_); rintro e w1 ⟨a1, m1, k1, rfl, hx1, hb1⟩; have X1 := Lib.hid hx1; have E1 := hx1.len; clear hx1; rw [List.length_nil] at E1; subst E1; have T1 := Lib.hid (HT.out.below hb1))
      | (go_at_call 15; refine (exampleHolds_any _ T1.out).mono ?_; rintro e w4 ⟨rfl, hb4⟩; have B4 := hb1.trans (hb4.mono hb1.size)))
    go_ret
    exact ⟨rfl, B4⟩
end Go.Proofs.YtlnmcegnnncepaaDoor
