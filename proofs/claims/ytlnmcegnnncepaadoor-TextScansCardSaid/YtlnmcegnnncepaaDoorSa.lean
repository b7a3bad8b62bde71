/- Walk of package text: Scan. -/
import Derived.Test.YtlnmcegnnncepaaDoorTx
import Derived.Test.YtlnmcegnnncepaaDoorTz
namespace Go.Proofs.YtlnmcegnnncepaaDoor
open Go.RowKit

theorem Count_any (t : ByteArray) (w : World) (m : Nat) (hm : t.data.toList.count 10 = m) :
    Calls Tryd.prog 69 #[.string t, .string ⟨#[10]⟩] w fun e w' => e = .returned (.int .i64 ((m : Nat) : Int)) ∧ w = w' :=
  (Tryd.strings_Count_one t 10 w).mono fun e w' h => ⟨by rw [h.1, ← hm]; rfl, h.2.symm⟩

theorem owns_below {w w' : World} {B n sz : Nat} {e : TypeId} {v : Value} {xs : List Value} (h : w.ownsRow B e sz v n xs) (hb : Below w.heap.size w w') : w'.ownsRow B e sz v n xs := by
  obtain ⟨h1, h2 | ⟨g, cap, cur, hv, hB, hg, r⟩⟩ := h
  · exact ⟨h1, .inl h2⟩
  · have hlt : g < w.heap.size := lt_of_block hg
    exact ⟨h1, .inr ⟨g, cap, cur, hv, hB, (hb.block g hlt).trans hg, r⟩⟩

set_option maxRecDepth 100000 in
set_option maxHeartbeats 6400000 in
theorem Scan_any (s : ByteArray) (w : World) (hmax : s.size ≤ maxLen) (hT : TxtOk w) :
    Calls Tryd.prog 29 #[.string s] w (RetT (scanR s.data.toList) w) := by
  unfold maxLen at hmax
  by_cases hbig : 65536 < s.size
  · have hr : Hid (scanR s.data.toList = ⟨[], 0, 7⟩) := by show _ = _; rw [scanR, size_list, if_pos hbig]
    go_enter Tryd.func29, Tryd.ntmps29
    go_wp2
    go_ret3
    rw [hr.out]
    exact ⟨none, 0, 0, rfl, IsToks.nil _, Below.refl _ _⟩
  have hs : s.size ≤ 65536 := by omega
  have hr0 : Hid (run s.data.toList 1 false [] = scanR s.data.toList) := by show _ = _; rw [scanR, size_list, if_neg hbig]
  obtain ⟨i0, hi, hz0, hz1, hz2⟩ := info_parts Tryd.infoT
  have HI := Lib.hid (And.intro hi (And.intro hz0 (And.intro hz1 hz2)))
  have HT := Lib.hid hT
  obtain ⟨R, hR⟩ : ∃ R, scanR s.data.toList = R := ⟨_, rfl⟩
  rw [hR] at hr0 ⊢
  clear hi hz0 hz1 hz2 hT hbig hR
  go_enter Tryd.func29, Tryd.ntmps29
  go_wp2
  go_loopw [0, 5, 6] (fun sv o ln wr => ∃ (r : ByteArray) (line : Nat) (ts : List Tok), sv = .string r ∧ ln = .int .i64 ((line : Nat) : Int) ∧ Hid (run r.data.toList line false ts = R) ∧ r.size ≤ 65536 ∧ line + r.size ≤ 65537 ∧ ts.length + r.size ≤ 65536 ∧ Hid (wr.ownsRow w.heap.size 39 3 o ts.length (tvals ts)) ∧ Below w.heap.size w wr) (fun sv _ _ _ => strLen sv)
  case atStart => exact ⟨s, 1, [], rfl, rfl, hr0, by omega, by omega, by simp; omega, World.ownsRow_nil _ _ _ _, Below.refl _ _⟩
  case round =>
    obtain ⟨r, line, ts, rfl, rfl, hrun, hrs, hln, htl, hrow, hb⟩ := hrel
    by_cases h0 : r.size = 0
    · obtain rfl := empty_of h0
      have hend : Hid (R = ⟨ts, 0, 0⟩) := by
        show _ = _
        rw [← hrun.out]; rfl
      obtain ⟨aa, cc, rfl, hres⟩ := IsToks.of_owns hrow.out
      have HRes := Lib.hid hres
      clear hrow hres hrun h0
      go_wp2
      go_ret3
      rw [hend.out]
      exact ⟨aa, _, cc, rfl, HRes.out, hb⟩
    have hp : 0 < r.size := by omega
    have hne := ne_empty hp
    have hnil : r.data.toList ≠ [] := fun e => by
      have := size_list r
      rw [e] at this; simp at this; omega
    have hTr := Lib.hid (HT.out.below hb)
    have HP := Lib.hid hp
    have HRS := Lib.hid (show r.size ≤ 1000000 by omega)
    have hsl := sepLen_le r.data.toList
    rw [size_list] at hsl
    obtain ⟨n, hn⟩ : ∃ n, sepLen r.data.toList = n := ⟨_, rfl⟩
    rw [hn] at hsl
    have HSep := Lib.hid (show ∀ W, Calls Tryd.prog 68 #[.string r] W fun e w' => e = .returned (.int .i64 ((n : Nat) : Int)) ∧ Below W.heap.size W w' from fun W => hn ▸ separator_any r W (by omega) hp)
    have hnext := run_sep r.data.toList line ts
    rw [hn, hrun.out] at hnext
    by_cases hn0 : 0 < n
    · obtain ⟨t, ht⟩ : ∃ t, r.extract 0 n = t := ⟨_, rfl⟩
      obtain ⟨r2, hr2⟩ : ∃ r2, r.extract n r.size = r2 := ⟨_, rfl⟩
      have hl2 : r2.data.toList = r.data.toList.drop n := by rw [← hr2, drop_extract]
      have hs2 : r2.size = r.size - n := by rw [← hr2, extract_size r n hsl]
      have htl2 : t.data.toList = r.data.toList.take n := by rw [← ht, take_extract]
      obtain ⟨m, hm⟩ : ∃ m, (r.data.toList.take n).count 10 = m := ⟨_, rfl⟩
      have hmn : m ≤ n := by
        rw [← hm]
        have := List.count_le_length (a := (10 : UInt8)) (l := r.data.toList.take n)
        rw [List.length_take, size_list] at this
        omega
      have HM := Lib.hid (show t.data.toList.count 10 = m by rw [htl2, hm])
      rw [hm, ← hl2] at hnext
      have HNext : Hid (run r2.data.toList (line + m) false ts = R) := hnext.symm
      have hs3 : r2.size + n = r.size := by omega
      have hs4 : r2.size < r.size := by omega
      clear hn hnext hrun hl2 hs2 htl2 hm hnil
      have HS3 := Lib.hid hs3
      clear hs3
      go_wp2_with (first | (go_at_call 68; refine (HSep.out _).mono ?_; rintro e w' ⟨rfl, hbS⟩) | (go_at_call 69; refine (Count_any t _ m HM.out).mono ?_; rintro e w2 ⟨rfl, rfl⟩))
      go_roundw
      case rel => exact ⟨r2, line + m, ts, rfl, by go_num, HNext, by omega, by have := HS3.out; omega, by omega, owns_below hrow.out hbS, hb.trans (hbS.mono hb.size)⟩
      case measure => exact hs4
    · have hn0' : n = 0 := by omega
      subst hn0'
      obtain ⟨b, q, hbq⟩ : ∃ b q, r.data.toList = b :: q := by
        cases hc : r.data.toList with
        | nil => exact absurd hc hnil
        | cons b q => exact ⟨b, q, rfl⟩
      have hns : ¬ b = 10 ∧ (b == 37 || isSep b) = false := sep_none (by rw [← hbq]; exact hn)
      have hle := fst3_le hnil
      obtain ⟨⟨k, n, E⟩, hf⟩ : ∃ p, fst3 r.data.toList = p := ⟨_, rfl⟩
      rw [hf, size_list] at hle
      have HFst := Lib.hid (show ∀ W, TxtOk W → Calls Tryd.prog 70 #[.string r] W fun e w' => e = .returned (.tuple #[.int .i64 ((k : Nat) : Int), .int .i64 ((n : Nat) : Int), .int .i64 E]) ∧ Below W.heap.size W w' from fun W h => by
        have := first_any r W (by omega) hp h
        rw [hf] at this
        exact this)
      have hrun2 := hrun.out
      rw [hbq] at hrun2 hf
      by_cases hE : E = 0
      · subst hE
        rw [run_tok q line false ts hns.1 (by simpa using hns.2) (by rw [hf]), hf, ← hbq] at hrun2
        have hpos : 1 ≤ n := by
          have := fst3_pos (l := b :: q) (by rw [hf])
          rw [hf] at this
          exact this
        obtain ⟨hle1, hle2, hle3⟩ := hle
        simp only at hle1 hle2 hle3 hrun2
        obtain ⟨r2, hr2⟩ : ∃ r2, r.extract n r.size = r2 := ⟨_, rfl⟩
        have hl2 : r2.data.toList = r.data.toList.drop n := by rw [← hr2, drop_extract]
        have hs2 : r2.size = r.size - n := by rw [← hr2, extract_size r n hle1]
        rw [← hl2] at hrun2
        have hs3 : r2.size + n = r.size := by omega
        have hs4 : r2.size < r.size := by omega
        have HS3 := Lib.hid hs3
        obtain ⟨x, hx⟩ : ∃ x, tokText k n r.data.toList = x := ⟨_, rfl⟩
        rw [hx] at hrun2
        have HRun := Lib.hid hrun2
        have hlr := hb.size
        by_cases hk3 : k = 3
        · subst hk3
          have hn2 : 2 ≤ n := hle3 rfl
          have hsl2 : ∀ W, (Instr.slice 9 (.string r) (some (.int .i64 1)) (some (.int .i64 (((n : Nat) : Int) - 1))) none).run Tryd.prog W = .ok (.string (mk x)) W := fun W => by
            rw [run_slice_string (P := Tryd.prog) W 9 r .i64 .i64 (1 : Int) (((n : Nat) : Int) - 1) Tryd.underlying9 (by omega) (by omega) (by omega)]
            rw [show (((n : Nat) : Int) - 1).toNat = n - 1 by omega, show ((1 : Int)).toNat = 1 from rfl, ← hx, ← mk_self (r.extract 1 (n - 1)), mid_extract r (n - 1) (by omega)]
            rfl
          clear hn hnext hrun hnil hbq hns hf hrun2 hl2 hs2 hs3 hx hle2 hle3
          go_wp2_with (first | (go_at_call 68; refine (HSep.out _).mono ?_; rintro e w' ⟨rfl, hbS⟩) | (go_at_call 70; refine (HFst.out _ (hTr.out.below hbS)).mono ?_; rintro e w2 ⟨rfl, hbF⟩) | (at_builtin; go_loud (refine wpList_append_own _ rfl _ _ 33 rfl w.heap.size 39 i0 (.agg #[.int .i64 0, .string ByteArray.empty, .int .i64 0]) 3 32 Tryd.underlying33 HI.out.1 HI.out.2.1 HI.out.2.2.1 HI.out.2.2.2 rfl (by decide) _ _ _ rfl ((owns_below (owns_below hrow.out hbS) hbF).alloc _) ⟨w2.heap.size, 0, none⟩ 1 1 (tcells (Tok.mk 3 x line)) rfl rfl (cells3_new _ _ _ _ _) ?_ ?_ ?_ ?_ ?_); rotate_right; intro v' w3 hown hgrow _))
          · have hown' : w3.ownsRow w.heap.size 39 3 v' (ts ++ [(Tok.mk 3 x line)]).length (tvals (ts ++ [(Tok.mk 3 x line)])) := by
              rw [← tvals_snoc, List.length_append]
              exact hown
            have hbw : Below w.heap.size w w2 := hb.trans ((hbS.trans (hbF.mono hbS.size)).mono hb.size)
            have hrz := fun j hj => ((owns_below (owns_below hrow.out hbS) hbF).lt j hj).1
            exact ⟨⟨r2, line, ts ++ [(Tok.mk 3 x line)], rfl, rfl, HRun.out, by omega, by omega, by simp only [List.length_append, List.length_cons, List.length_nil]; have := HS3.out; omega, hown', (hbw.alloc hbw.size _).grown hgrow (by have := hbw.size; simp; omega) hrz⟩, hs4⟩
          · intro u hu
            simp only [tcells, List.mem_cons, List.not_mem_nil, or_false] at hu
            rcases hu with rfl | rfl | rfl <;> rfl
          · unfold maxLen; omega
          · omega
          · have := hb.size; have := hbS.size; have := hbF.size; first | omega | (simp; omega)
        · have hex : r.extract 0 n = mk x := by
            rw [← hx, ← mk_self (r.extract 0 n), take_extract]
            unfold tokText
            rw [if_neg hk3]
          have e3 : (((k : Nat) : Int) == 3) = false := by rw [beq_eq_false_iff_ne]; omega
          clear hn hnext hrun hnil hbq hns hf hrun2 hl2 hs2 hs3 hx hle3 hk3
          go_wp2_with (first | (go_at_call 68; refine (HSep.out _).mono ?_; rintro e w' ⟨rfl, hbS⟩) | (go_at_call 70; refine (HFst.out _ (hTr.out.below hbS)).mono ?_; rintro e w2 ⟨rfl, hbF⟩) | (at_builtin; go_loud (refine wpList_append_own _ rfl _ _ 33 rfl w.heap.size 39 i0 (.agg #[.int .i64 0, .string ByteArray.empty, .int .i64 0]) 3 32 Tryd.underlying33 HI.out.1 HI.out.2.1 HI.out.2.2.1 HI.out.2.2.2 rfl (by decide) _ _ _ rfl ((owns_below (owns_below hrow.out hbS) hbF).alloc _) ⟨w2.heap.size, 0, none⟩ 1 1 (tcells (Tok.mk k x line)) rfl rfl (cells3_new _ _ _ _ _) ?_ ?_ ?_ ?_ ?_); rotate_right; intro v' w3 hown hgrow _))
          · have hown' : w3.ownsRow w.heap.size 39 3 v' (ts ++ [(Tok.mk k x line)]).length (tvals (ts ++ [(Tok.mk k x line)])) := by
              rw [← tvals_snoc, List.length_append]
              exact hown
            have hbw : Below w.heap.size w w2 := hb.trans ((hbS.trans (hbF.mono hbS.size)).mono hb.size)
            have hrz := fun j hj => ((owns_below (owns_below hrow.out hbS) hbF).lt j hj).1
            exact ⟨⟨r2, line, ts ++ [(Tok.mk k x line)], rfl, rfl, HRun.out, by omega, by omega, by simp only [List.length_append, List.length_cons, List.length_nil]; have := HS3.out; omega, hown', (hbw.alloc hbw.size _).grown hgrow (by have := hbw.size; simp; omega) hrz⟩, hs4⟩
          · intro u hu
            simp only [tcells, List.mem_cons, List.not_mem_nil, or_false] at hu
            rcases hu with rfl | rfl | rfl <;> rfl
          · unfold maxLen; omega
          · omega
          · have := hb.size; have := hbS.size; have := hbF.size; first | omega | (simp; omega)
      · rw [run_err q line false ts hns.1 (by simpa using hns.2) (by rw [hf]; exact hE), hf] at hrun2
        have hend : Hid (R = ⟨[], line, E⟩) := hrun2.symm
        have hE2 : (E != 0) = true := by simpa using hE
        clear hn hnext hrun hnil hbq hns hf hrun2 hE hle
        go_wp2_with (first | (go_at_call 68; refine (HSep.out _).mono ?_; rintro e w' ⟨rfl, hbS⟩) | (go_at_call 70; refine (HFst.out _ (hTr.out.below hbS)).mono ?_; rintro e w2 ⟨rfl, hbF⟩))
        go_ret3
        rw [hend.out]
        exact ⟨none, 0, 0, rfl, IsToks.nil _, hb.trans ((hbS.trans (hbF.mono hbS.size)).mono hb.size)⟩
end Go.Proofs.YtlnmcegnnncepaaDoor
