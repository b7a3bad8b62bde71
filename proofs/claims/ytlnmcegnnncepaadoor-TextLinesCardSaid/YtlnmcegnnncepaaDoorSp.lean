/- Walk of the law TextLines. -/
import Derived.Test.YtlnmcegnnncepaaDoorSr
namespace Go.Proofs.YtlnmcegnnncepaaDoor
open Go.RowKit

theorem run_lines (n : Nat) : ∀ (l : List UInt8), l.length ≤ n → ∀ (line : Nat) (com : Bool) (acc : List Tok), (∀ t ∈ acc, t.line ≤ line) → ∀ t ∈ (run l line com acc).toks, t.line ≤ line + l.length := by
  induction n with
  | zero =>
    intro l hl line com acc ha
    have : l = [] := List.eq_nil_of_length_eq_zero (by omega)
    subst this
    rw [run_nil]; exact fun t ht => by have := ha t ht; omega
  | succ n ih =>
    intro l hl line com acc ha
    cases l with
    | nil => rw [run_nil]; exact fun t ht => by have := ha t ht; omega
    | cons b r =>
      rw [List.length_cons] at hl ⊢
      by_cases h1 : b = 10
      · subst h1
        rw [run_lf]
        intro t ht
        have := ih r (by omega) (line + 1) false acc (fun t ht => by have := ha t ht; omega) t ht
        omega
      · cases h2 : (com || b == 37 || isSep b)
        · by_cases h3 : (fst3 (b :: r)).2.2 = 0
          · have hp := fst3_pos h3
            rw [run_tok r line com acc h1 h2 h3]
            intro t ht
            have := ih _ (by rw [List.length_drop, List.length_cons]; omega) line false _ (fun t ht => by
              rcases List.mem_append.1 ht with e | e
              · exact ha t e
              · rw [List.mem_singleton] at e; subst e; exact Nat.le_refl _) t ht
            rw [List.length_drop, List.length_cons] at this
            omega
          · rw [run_err r line com acc h1 h2 h3]
            exact fun t ht => (List.not_mem_nil ht).elim
        · rw [run_skip r line com acc h1 h2]
          intro t ht
          have := ih r (by omega) line (com || b == 37) acc ha t ht
          omega
theorem scanR_lines {l : List UInt8} (hl : l.length ≤ 1000) : ∀ t ∈ (scanR l).toks, t.line ≤ 1001 := by
  have e1 : scanR l = run l 1 false [] := by unfold scanR; rw [if_neg (by omega)]
  rw [e1]
  intro t ht
  have := run_lines l.length l (Nat.le_refl _) 1 false [] (fun t ht => (List.not_mem_nil ht).elim) t ht
  omega
theorem tk_memL {ts : List Tok} {k : Nat} (hk : k < ts.length) : tk ts k ∈ ts := by
  unfold tk; rw [List.getD_eq_getElem?_getD, List.getElem?_eq_getElem hk]; exact List.getElem_mem _

set_option maxRecDepth 100000 in
set_option maxHeartbeats 6400000 in
theorem TextLines_law (W : World) (s : ByteArray) (hs : s.size ≤ maxLen) (t : ByteArray) (ht : t.size ≤ maxLen) (hT : TxtOk W) :
    Calls Tryd.prog 9 #[.string s, .string t] W fun e W' => e = .returned (.bool true) ∧ Below W.heap.size W W' := by
  have HT := Lib.hid hT
  unfold maxLen at hs ht
  clear hT
  by_cases hbig : 1000 < s.size
  · go_enter Tryd.func9, Tryd.ntmps9
    go_wp2_with (go_at_call 15; refine (exampleHolds_any _ HT.out).mono ?_; rintro e w1 ⟨rfl, hb1⟩)
    go_ret
    exact ⟨rfl, hb1⟩
  have hs2 : s.size ≤ 1000 := by omega
  clear hbig
  by_cases hbig2 : 1000 < t.size
  · go_enter Tryd.func9, Tryd.ntmps9
    go_wp2_with (go_at_call 15; refine (exampleHolds_any _ HT.out).mono ?_; rintro e w1 ⟨rfl, hb1⟩)
    go_ret
    exact ⟨rfl, hb1⟩
  have ht2 : t.size ≤ 1000 := by omega
  clear hbig2
  obtain ⟨u1, hu1⟩ : ∃ u, s ++ (⟨#[10]⟩ : ByteArray) = u := ⟨_, rfl⟩
  obtain ⟨u, hu⟩ : ∃ u', u1 ++ t = u' := ⟨_, rfl⟩
  have hul : u.data.toList = s.data.toList ++ 10 :: t.data.toList := by
    rw [← hu, ← hu1]; simp
  have hz1 : u1.size = s.size + 1 := by rw [← hu1, ByteArray.size_append]; rfl
  have hz2 : u.size ≤ 2001 := by rw [← hu, ByteArray.size_append]; omega
  have hl1 : s.size + (⟨#[10]⟩ : ByteArray).size ≤ 9223372036854775807 := by show s.size + 1 ≤ _; omega
  have hl2 : u1.size + t.size ≤ 9223372036854775807 := by omega
  have hj := fun (a : (scanR s.data.toList).err = 0) (b : (scanR t.data.toList).err = 0) => lines_join s.data.toList t.data.toList (by rw [size_list]; exact hs2) (by rw [size_list]; exact ht2) a b
  rw [← hul] at hj
  obtain ⟨A, hA⟩ : ∃ b, scanR s.data.toList = b := ⟨_, rfl⟩
  obtain ⟨B, hB⟩ : ∃ b, scanR t.data.toList = b := ⟨_, rfl⟩
  obtain ⟨C, hC⟩ : ∃ b, scanR u.data.toList = b := ⟨_, rfl⟩
  rw [hA, hB, hC] at hj
  have CA := Lib.hid (show ∀ w, TxtOk w → Calls Tryd.prog 29 #[.string s] w (RetT A w) from fun w hw => hA ▸ Scan_any s w (by unfold maxLen; omega) hw)
  have CB := Lib.hid (show ∀ w, TxtOk w → Calls Tryd.prog 29 #[.string t] w (RetT B w) from fun w hw => hB ▸ Scan_any t w (by unfold maxLen; omega) hw)
  have CC := Lib.hid (show ∀ w, TxtOk w → Calls Tryd.prog 29 #[.string u] w (RetT C w) from fun w hw => hC ▸ Scan_any u w (by unfold maxLen; omega) hw)
  have hlA : A.toks.length ≤ 1000 := by rw [← hA]; exact Nat.le_trans (scanR_len _) (by rw [size_list]; exact hs2)
  have hlB : B.toks.length ≤ 1000 := by rw [← hB]; exact Nat.le_trans (scanR_len _) (by rw [size_list]; exact ht2)
  have HJ := Lib.hid hj
  have HLB := Lib.hid (show ∀ t ∈ B.toks, t.line ≤ 1001 by rw [← hB]; exact scanR_lines (by rw [size_list]; exact ht2))
  clear hA hB hC hj hul hz1 hz2
  by_cases hae : A.err = 0
  · by_cases hbe : B.err = 0
    · have hC := HJ.out hae hbe
      obtain ⟨TA, LA, EA⟩ := A
      obtain ⟨TB, LB, EB⟩ := B
      simp only at hae hbe hlA hlB
      subst hae hbe
      subst hC
      clear HJ
      obtain ⟨dd, hdd⟩ : ∃ d, 1 + s.data.toList.count 10 = d := ⟨_, rfl⟩
      rw [hdd] at CC
      have HDD := Lib.hid hdd
      clear hdd
      go_enter Tryd.func9, Tryd.ntmps9
      go_wp2_with (first
        | (go_at_call 29; (with_reducible refine (CA.out _ HT.out).mono ?_); rintro e w1 ⟨a1, m1, k1, rfl, hx1, hb1⟩; have X1 := Lib.hid hx1; have E1 := hx1.len; clear hx1; subst E1; have T1 := Lib.hid (HT.out.below hb1))
        | (go_at_call 29; (with_reducible refine (CB.out _ T1.out).mono ?_); rintro e w2 ⟨a2, m2, k2, rfl, hx2, hb2⟩; have X2 := Lib.hid hx2; have E2 := hx2.len; clear hx2; subst E2; have T2 := Lib.hid (T1.out.below hb2); have B2 := hb1.trans (hb2.mono hb1.size); have WB2 := Lib.hid hb2)
        | (go_at_call 29; (with_reducible refine (CC.out _ T2.out).mono ?_); rintro e w3 ⟨a3, m3, k3, rfl, hx3, hb3⟩; have X3 := Lib.hid hx3; have E3 := hx3.len; clear hx3; rw [List.length_append, moved_len] at E3; subst E3; have T3 := Lib.hid (T2.out.below hb3); have B3 := B2.trans (hb3.mono B2.size); have WB3 := Lib.hid hb3))
      obtain ⟨wb, ewb⟩ : ∃ wb : World, wb = w3 := ⟨_, rfl⟩
      go_loopw [14, 15] (fun mo v wr => ∃ i : Nat, i ≤ s.size ∧ v = .int .i64 ((i : Nat) : Int) ∧ mo = .int .i64 ((1 + (s.data.toList.take i).count 10 : Nat) : Int) ∧ wr = w3) (fun _ v _ => s.size - (intOf v).toNat)
      case atStart => exact ⟨0, Nat.zero_le _, rfl, by simp, rfl⟩
      case round =>
        obtain ⟨i, hi, rfl, rfl, rfl⟩ := hrel
        by_cases hlt : i < s.size
        · have hbi := bn_int s i hlt
          have hcs := cnt_succ hlt
          have hcl : (s.data.toList.take i).count 10 ≤ 1000 := Nat.le_trans List.count_le_length (by rw [List.length_take, size_list]; omega)
          obtain ⟨x, hx⟩ : ∃ x, bn s i = x := ⟨_, rfl⟩
          rw [hx] at hbi hcs
          by_cases h10 : x = 10
          · rw [if_pos h10] at hcs
            have HS := Lib.hid hcs
            subst h10
            clear hcs hx
            go_wp2
            go_roundw
            case rel => exact ⟨i + 1, by omega, by go_num, by rw [HS.out]; go_num, by first | rfl | trivial⟩
            case measure => simp [intOf]; omega
          · rw [if_neg h10] at hcs
            have HS := Lib.hid hcs
            have e10 : (((x : Nat) : Int) == 10) = false := by rw [beq_eq_false_iff_ne]; omega
            clear hcs hx h10
            go_wp2
            go_roundw
            case rel => exact ⟨i + 1, by omega, by go_num, by rw [HS.out]; go_num, by first | rfl | trivial⟩
            case measure => simp [intOf]; omega
        · obtain rfl : i = s.size := by omega
          have hfin : 1 + (s.data.toList.take s.size).count 10 = dd := by
            rw [List.take_of_length_le (by rw [size_list]; exact Nat.le_refl _)]; exact HDD.out
          have hdl : dd ≤ 1001 := by
            rw [← HDD.out]
            have := List.count_le_length (a := (10 : UInt8)) (l := s.data.toList)
            rw [size_list] at this
            omega
          rw [hfin]
          clear hfin hlt hi
          have hc1 := X1.out.capLe
          have hm1 := X1.out.maxLe
          have hc2 := X2.out.capLe
          have hm2 := X2.out.maxLe
          have hc3 := X3.out.capLe
          have hm3 := X3.out.maxLe
          unfold maxLen at hm1 hm2 hm3
          have Y2 := Lib.hid (X2.out.below WB3.out)
          have Y1 := Lib.hid ((X1.out.below WB2.out).below WB3.out)
          go_wp2
          go_loopw [16] (fun v wq => ∃ i : Nat, i ≤ TA.length + TB.length ∧ v = .int .i64 ((i : Nat) : Int) ∧ Below wr.heap.size wr wq) (fun v _ => TA.length + TB.length - (intOf v).toNat)
          case atStart => exact ⟨0, Nat.zero_le _, rfl, Below.refl _ _⟩
          case round =>
            obtain ⟨i, hi, rfl, hbb⟩ := hrel
            by_cases hlt : i < TA.length
            · obtain ⟨bc, oc, rfl, hlc, hxc⟩ := X3.out.at_ (by omega)
              obtain ⟨ba, oa, rfl, hla, hxa⟩ := Y1.out.at_ (by omega)
              obtain ⟨x1, x2, x3⟩ := hxa i hlt
              obtain ⟨y1, y2, y3⟩ := hxc i (by omega)
              rw [tk_left hlt] at y1 y2 y3
              have c1 := (hbb.cell (p := ⟨ba, oa + 3 * i, none⟩) hla).trans x1
              have c2 := (hbb.cell (p := ⟨ba, oa + (3 * i + 1), none⟩) hla).trans x2
              have c3 := (hbb.cell (p := ⟨ba, oa + (3 * i + 2), none⟩) hla).trans x3
              have d1 := (hbb.cell (p := ⟨bc, oc + 3 * i, none⟩) hlc).trans y1
              have d2 := (hbb.cell (p := ⟨bc, oc + (3 * i + 1), none⟩) hlc).trans y2
              have d3 := (hbb.cell (p := ⟨bc, oc + (3 * i + 2), none⟩) hlc).trans y3
              rw [show oa + 3 * i = oa + i * 3 by omega] at c1
              rw [show oa + (3 * i + 1) = oa + i * 3 + 1 by omega] at c2
              rw [show oa + (3 * i + 2) = oa + i * 3 + 2 by omega] at c3
              rw [show oc + 3 * i = oc + i * 3 by omega] at d1
              rw [show oc + (3 * i + 1) = oc + i * 3 + 1 by omega] at d2
              rw [show oc + (3 * i + 2) = oc + i * 3 + 2 by omega] at d3
              obtain ⟨kd, hkd⟩ : ∃ x, (tk TA i).kind = x := ⟨_, rfl⟩
              obtain ⟨tx, htx⟩ : ∃ x, mk (tk TA i).text = x := ⟨_, rfl⟩
              obtain ⟨ln, hln⟩ : ∃ x, (tk TA i).line = x := ⟨_, rfl⟩
              rw [hkd] at c1 d1
              rw [htx] at c2 d2
              rw [hln] at c3 d3
              clear hxa hxc x1 x2 x3 y1 y2 y3 hkd htx hln
              have hge : decide (TA.length ≤ i) = false := by simp; omega
              go_wp2
              go_quiet (fail)
              go_wp2
              go_quiet (fail)
              go_wp2
              go_roundw
              case rel => exact ⟨i + 1, by omega, by go_num, by first | exact hbb | exact hbb.drew | exact below_drewN2 hbb _ | exact below_drewN2 (below_drewN2 hbb _) _⟩
              case measure => simp [intOf]; omega
            · by_cases hlt2 : i < TA.length + TB.length
              · obtain ⟨j, hj⟩ : ∃ j, i = TA.length + j := ⟨i - TA.length, by omega⟩
                have hjl : j < TB.length := by omega
                obtain ⟨bc, oc, rfl, hlc, hxc⟩ := X3.out.at_ (by omega)
                obtain ⟨ba, oa, rfl, hla, hxa⟩ := Y2.out.at_ (by omega)
                obtain ⟨x1, x2, x3⟩ := hxa j hjl
                obtain ⟨y1, y2, y3⟩ := hxc i hlt2
                obtain ⟨m1, m2, m3⟩ := tk_right (xs := TA) (ys := TB) (d := dd) hjl
                rw [← hj] at m1 m2 m3
                rw [m1] at y1
                rw [m2] at y2
                rw [m3] at y3
                have c1 := (hbb.cell (p := ⟨ba, oa + 3 * j, none⟩) hla).trans x1
                have c2 := (hbb.cell (p := ⟨ba, oa + (3 * j + 1), none⟩) hla).trans x2
                have c3 := (hbb.cell (p := ⟨ba, oa + (3 * j + 2), none⟩) hla).trans x3
                have d1 := (hbb.cell (p := ⟨bc, oc + 3 * i, none⟩) hlc).trans y1
                have d2 := (hbb.cell (p := ⟨bc, oc + (3 * i + 1), none⟩) hlc).trans y2
                have d3 := (hbb.cell (p := ⟨bc, oc + (3 * i + 2), none⟩) hlc).trans y3
                rw [show oa + 3 * j = oa + j * 3 by omega] at c1
                rw [show oa + (3 * j + 1) = oa + j * 3 + 1 by omega] at c2
                rw [show oa + (3 * j + 2) = oa + j * 3 + 2 by omega] at c3
                rw [show oc + 3 * i = oc + i * 3 by omega] at d1
                rw [show oc + (3 * i + 1) = oc + i * 3 + 1 by omega] at d2
                rw [show oc + (3 * i + 2) = oc + i * 3 + 2 by omega] at d3
                have hln1 := HLB.out _ (tk_memL hjl)
                obtain ⟨kd, hkd⟩ : ∃ x, (tk TB j).kind = x := ⟨_, rfl⟩
                obtain ⟨tx, htx⟩ : ∃ x, mk (tk TB j).text = x := ⟨_, rfl⟩
                obtain ⟨ln, hln⟩ : ∃ x, (tk TB j).line = x := ⟨_, rfl⟩
                rw [hkd] at c1 d1
                rw [htx] at c2 d2
                rw [hln] at c3 d3 hln1
                have hij : ((i : Nat) : Int) - ((TA.length : Nat) : Int) = ((j : Nat) : Int) := by omega
                have hwr : IntKind.i64.wrap (((i : Nat) : Int) - ((TA.length : Nat) : Int)) = ((j : Nat) : Int) := by rw [hij]; exact IntWalk.i64_in _ (by omega)
                have hwl : IntKind.i64.wrap (((ln : Nat) : Int) + ((dd : Nat) : Int)) = ((ln + dd : Nat) : Int) := by rw [show ((ln : Nat) : Int) + ((dd : Nat) : Int) = ((ln + dd : Nat) : Int) by omega]; exact IntWalk.i64_in _ (by omega)
                have hge : decide (TA.length ≤ i) = true := by simp; omega
                have hll : decide (i < TA.length) = false := by simp; omega
                clear hxa hxc x1 x2 x3 y1 y2 y3 hkd htx hln m1 m2 m3 hij hj
                go_wp2
                go_quiet (fail)
                go_wp2
                go_quiet (fail)
                go_wp2
                go_roundw
                case rel => exact ⟨i + 1, by omega, by go_num, by first | exact hbb | exact hbb.drew | exact below_drewN2 hbb _ | exact below_drewN2 (below_drewN2 hbb _) _⟩
                case measure => simp [intOf]; omega
              · have B3' := B3.trans (hbb.mono B3.size)
                have T3' := Lib.hid (T3.out.below hbb)
                go_wp2_with (go_at_call 15; refine (exampleHolds_any _ T3'.out).mono ?_; rintro e w4 ⟨rfl, hb4⟩; have B4 := B3'.trans (hb4.mono B3'.size))
                go_ret
                exact ⟨rfl, B4⟩
    · have hb2 : (B.err != 0) = true := by simpa using hbe
      clear hbe HJ
      go_enter Tryd.func9, Tryd.ntmps9
      go_wp2_with (first
        | (go_at_call 29; (with_reducible refine (CA.out _ HT.out).mono ?_); rintro e w1 ⟨a1, m1, k1, rfl, hx1, hb1⟩; have X1 := Lib.hid hx1; have E1 := hx1.len; clear hx1; subst E1; have T1 := Lib.hid (HT.out.below hb1))
        | (go_at_call 29; (with_reducible refine (CB.out _ T1.out).mono ?_); rintro e w2 ⟨a2, m2, k2, rfl, hx2, hb2⟩; have X2 := Lib.hid hx2; have E2 := hx2.len; clear hx2; subst E2; have T2 := Lib.hid (T1.out.below hb2); have B2 := hb1.trans (hb2.mono hb1.size))
        | (go_at_call 29; (with_reducible refine (CC.out _ T2.out).mono ?_); rintro e w3 ⟨a3, m3, k3, rfl, hx3, hb3⟩; have X3 := Lib.hid hx3; have E3 := hx3.len; clear hx3; subst E3; have T3 := Lib.hid (T2.out.below hb3); have B3 := B2.trans (hb3.mono B2.size))
        | (go_at_call 15; refine (exampleHolds_any _ T3.out).mono ?_; rintro e w4 ⟨rfl, hb4⟩; have B4 := B3.trans (hb4.mono B3.size)))
      go_ret
      exact ⟨rfl, B4⟩
  · have ha2 : (A.err != 0) = true := by simpa using hae
    clear hae HJ
    go_enter Tryd.func9, Tryd.ntmps9
    go_wp2_with (first
      | (go_at_call 29; (with_reducible refine (CA.out _ HT.out).mono ?_); rintro e w1 ⟨a1, m1, k1, rfl, hx1, hb1⟩; have X1 := Lib.hid hx1; have E1 := hx1.len; clear hx1; subst E1; have T1 := Lib.hid (HT.out.below hb1))
      | (go_at_call 29; (with_reducible refine (CB.out _ T1.out).mono ?_); rintro e w2 ⟨a2, m2, k2, rfl, hx2, hb2⟩; have X2 := Lib.hid hx2; have E2 := hx2.len; clear hx2; subst E2; have T2 := Lib.hid (T1.out.below hb2); have B2 := hb1.trans (hb2.mono hb1.size))
      | (go_at_call 29; (with_reducible refine (CC.out _ T2.out).mono ?_); rintro e w3 ⟨a3, m3, k3, rfl, hx3, hb3⟩; have X3 := Lib.hid hx3; have E3 := hx3.len; clear hx3; subst E3; have T3 := Lib.hid (T2.out.below hb3); have B3 := B2.trans (hb3.mono B2.size))
      | (go_at_call 15; refine (exampleHolds_any _ T3.out).mono ?_; rintro e w4 ⟨rfl, hb4⟩; have B4 := B3.trans (hb4.mono B3.size)))
    go_ret
    exact ⟨rfl, B4⟩
end Go.Proofs.YtlnmcegnnncepaaDoor
