/- The laws over package bits, continued: BitsLists. -/
import Derived.Test.YtlphlbhbhcpnpaaDoorBg
namespace Go.Proofs.YtlphlbhbhcpnpaaDoor
open Go.RowKit

theorem wi_ints (l : List Nat) (i : Nat) : wi (ints l) i = ((wd l i : Nat) : Int) := by
  simp only [wi, wd, ints, List.getD_eq_getElem?_getD, List.getElem?_map]
  cases l[i]? <;> simp

theorem lst_pair (xs : List Nat) (k : Nat) : (lst xs k).Pairwise (· < ·) := List.Pairwise.filter _ List.pairwise_lt_range
theorem lst_up (xs : List Nat) (k i : Nat) (h : i + 1 < (lst xs k).length) : wd (lst xs k) i < wd (lst xs k) (i + 1) := by
  have := List.pairwise_iff_getElem.1 (lst_pair xs k) i (i + 1) (by omega) h (by omega)
  simpa [wd, List.getD_eq_getElem?_getD, List.getElem?_eq_getElem h, List.getElem?_eq_getElem (show i < (lst xs k).length by omega)] using this
theorem lst_in (xs : List Nat) (k i : Nat) (h : i < (lst xs k).length) : bit xs (wd (lst xs k) i) = true ∧ wd (lst xs k) i < k := by
  have hm : (lst xs k)[i] ∈ lst xs k := List.getElem_mem _
  have e : wd (lst xs k) i = (lst xs k)[i] := by simp [wd, List.getD_eq_getElem?_getD, List.getElem?_eq_getElem h]
  rw [e]
  generalize (lst xs k)[i] = y at *
  simp only [lst, List.mem_filter, List.mem_range] at hm
  exact ⟨hm.2, hm.1⟩

theorem inL_iff {zs : List Int} : ∀ {k i : Nat}, inL zs k i = true ↔ ∃ j, j < k ∧ wi zs j = (i : Int)
  | 0, i => by simp [inL]
  | k + 1, i => by
    rw [inL, Bool.or_eq_true, inL_iff, decide_eq_true_eq]
    constructor
    · rintro (⟨j, hj, h⟩ | h)
      · exact ⟨j, by omega, h⟩
      · exact ⟨k, by omega, h⟩
    · rintro ⟨j, hj, h⟩
      rcases Nat.lt_succ_iff_lt_or_eq.1 hj with h1 | h1
      · exact .inl ⟨j, h1, h⟩
      · exact .inr (by rw [← h1]; exact h)

theorem lst_inL (xs : List Nat) (h : xs.length ≤ 64) (i : Nat) : inL (ints (lst xs (64 * xs.length))) (ints (lst xs (64 * xs.length))).length i = bit xs i := by
  rw [Bool.eq_iff_iff, inL_iff]
  have hl : (ints (lst xs (64 * xs.length))).length = (lst xs (64 * xs.length)).length := by simp [ints]
  rw [hl]
  constructor
  · rintro ⟨j, hj, e⟩
    rw [wi_ints] at e
    have := (lst_in xs _ j hj).1
    rwa [show wd (lst xs (64 * xs.length)) j = i by omega] at this
  · intro hb
    have hi : i < 64 * xs.length := by
      rcases Nat.lt_or_ge i (64 * xs.length) with h1 | h1
      · exact h1
      · rw [bit_out xs i (by omega)] at hb; cases hb
    have hm : i ∈ lst xs (64 * xs.length) := by simp only [lst, List.mem_filter, List.mem_range]; exact ⟨hi, hb⟩
    obtain ⟨j, hj, e⟩ := List.getElem_of_mem hm
    refine ⟨j, hj, ?_⟩
    rw [wi_ints]
    simp [wd, List.getD_eq_getElem?_getD, List.getElem?_eq_getElem hj, e]

theorem lst_good (xs : List Nat) (h : xs.length ≤ 64) : Good (ints (lst xs (64 * xs.length))) := by
  intro i hi
  have hl : (ints (lst xs (64 * xs.length))).length = (lst xs (64 * xs.length)).length := by simp [ints]
  rw [wi_ints]
  have := (lst_in xs (64 * xs.length) i (by omega)).2
  omega

set_option maxRecDepth 100000 in
set_option maxHeartbeats 1600000 in
theorem BitsLists_law (w : World) (ax : Option Addr) (capx : Nat) (xs : List Nat) (hx : Is64 w ax xs.length capx xs) (hT : TabOk w) :
    Calls Tryd.prog 14 #[.slice ax xs.length capx] w fun e w' => e = .returned (.bool true) ∧ Below w.heap.size w w' := by
  have HT := Lib.hid hT
  have Ix := Lib.hid hx
  have mx := hx.maxLe
  have lx := hx.capLe
  unfold maxLen at mx
  clear hx hT
  by_cases bbx : 64 < xs.length
  · go_enter Tryd.func14, Tryd.ntmps14
    go_wp2_with (go_at_call 33; refine (ex_holds _ HT.out).mono ?_; rintro e w' ⟨rfl, kk⟩)
    go_ret
    exact ⟨rfl, kk⟩
  have qx : xs.length ≤ 64 := by omega
  have s1 : xs.length ≤ 1000000 := by omega
  clear bbx
  have B0 := Lib.hid (Below.refl w.heap.size w)
  obtain ⟨l, hl⟩ : ∃ l, lst xs (64 * xs.length) = l := ⟨_, rfl⟩
  have hup := fun i => lst_up xs (64 * xs.length) i
  have hin := fun i => lst_in xs (64 * xs.length) i
  have hgood := lst_good xs qx
  have hinl := lst_inL xs qx
  have hcn := cnt_lst xs Ix.out.lt xs.length
  have hll := lst_len xs (64 * xs.length)
  have hli : (ints l).length = l.length := by simp [ints]
  rw [hl] at hup hin hgood hinl hcn hll
  have HL := Lib.hid hl
  have HUP := Lib.hid hup
  have HIN := Lib.hid hin
  have HG := Lib.hid hgood
  have HI := Lib.hid hinl
  have HC := Lib.hid hcn
  have HLI := Lib.hid hli
  clear hl hup hin hgood hinl hcn hli
  go_enter Tryd.func14, Tryd.ntmps14
  go_wp2_with fail
  refine (List_any _ _ _ _ _ Ix.out s1 HT.out).mono ?_
  rw [HL.out]
  intro e W1 hp
  obtain ⟨a1, cap1, rfl, h1, kk1⟩ := hp.eq _ rfl
  have Ix := Lib.hid (Ix.out.below kk1)
  have B1 := Lib.hid (B0.out.trans (kk1.mono B0.out.size))
  rw [HLI.out] at h1
  have h1m := h1.maxLe
  have h1c := h1.capLe
  unfold maxLen at h1m
  have H1 := Lib.hid h1
  rw [HLI.out]
  clear hp h1 kk1
  go_wp2_with fail
  go_loopw [4] (fun v wr => ∃ k : Nat, k ≤ l.length ∧ v = .int .i64 k ∧ Below W1.heap.size W1 wr) (fun v _ => l.length - (intOf v).toNat)
  case atStart => exact ⟨0, Nat.zero_le _, rfl, Below.refl _ _⟩
  case round =>
    obtain ⟨k, hk, rfl, hb⟩ := hrel
    by_cases hlt : k < l.length
    · obtain ⟨b1, o1, rfl, hl1, hx1⟩ := H1.out.at_ (by omega)
      have c1 := (hb.cell (p := ⟨b1, o1 + k, none⟩) hl1).trans (hx1 k (by omega))
      rw [wi_ints] at c1
      obtain ⟨t, ht⟩ : ∃ t, wd l k = t := ⟨_, rfl⟩
      have hin := HIN.out k hlt
      rw [ht] at c1 hin
      have htl : t < 64 * 64 := by omega
      have hcall : Hid (∀ n, Calls Tryd.prog 46 #[.slice ax xs.length capx, .int .i64 (t : Int)] (wr.drewN n) fun e w' => e = .returned (.bool true) ∧ w' = wr.drewN n) :=
        fun n => (Has_val true _ _ _ _ _ ((Ix.out.below hb).below (below_drewN (Below.refl _ _) n)) t (by omega) hin.1).mono fun _ _ h => ⟨h.1, h.2.symm⟩
      match k, hk, hlt, c1, ht with
      | 0, hk, hlt, c1, ht =>
        have c1' : wr.cell? ⟨b1, o1, none⟩ = some (.int .i64 ((t : Nat) : Int)) := c1
        clear hx1 ht hin c1
        go_wp2
        go_quiet ((go_at_call 46; refine Calls.quiet_of_same (hcall.out _)))
        go_wp2
        go_roundw
        case rel => exact ⟨1, by omega, by first | rfl | go_num, below_drewN hb _⟩
        case measure => simp [intOf]; omega
      | j + 1, hk, hlt, c1, ht =>
        have c2 := (hb.cell (p := ⟨b1, o1 + j, none⟩) hl1).trans (hx1 j (by omega))
        rw [wi_ints] at c2
        obtain ⟨u, hu⟩ : ∃ u, wd l j = u := ⟨_, rfl⟩
        have hlow := HUP.out j hlt
        rw [hu, ht] at hlow
        rw [hu] at c2
        have hd2 : decide ((t : Int) ≤ (u : Int)) = false := by simp; omega
        have hp1 : (0 : Int) ≤ (j : Int) + 1 := by omega
        have hp2 : (j : Int) + 1 < (l.length : Int) := by omega
        have hp3 : (j : Int) < (l.length : Int) := by omega
        have hp4 : (0 : Int) ≤ (j : Int) := by omega
        have hp5 : IntKind.i64.wrap (j : Int) = (j : Int) := IntWalk.i64_in _ (by omega)
        clear hx1 ht hin hu
        go_wp2
        go_quiet ((go_at_call 46; refine Calls.quiet_of_same (hcall.out _)))
        go_wp2
        go_roundw
        case rel => exact ⟨j + 1 + 1, by omega, by go_num, below_drewN hb _⟩
        case measure => simp [intOf]; omega
    · obtain rfl : k = l.length := by omega
      have Ix := Lib.hid (Ix.out.below hb)
      have H1 := Lib.hid (H1.out.below hb)
      have B2 := Lib.hid (B1.out.trans (hb.mono B1.out.size))
      clear hb
      have H1' : Hid (IsInt wr a1 (ints l).length cap1 (ints l)) := by rw [HLI.out]; exact H1.out
      go_wp2_with fail
      refine (Of_any _ _ _ _ _ H1.out).mono ?_
      intro e W3 hp
      obtain ⟨ws, a3, cap3, rfl, h3, n3, bi3, kk3⟩ := hp.good HG.out
      have Ix := Lib.hid (Ix.out.below kk3)
      have B3 := Lib.hid (B2.out.trans (kk3.mono B2.out.size))
      have hbx := fun i => (bi3 i).trans (HI.out i)
      have hev := Lib.hid (eq_of h3.wb Ix.out.lt hbx)
      have hsv := Lib.hid (sub_of Ix.out.lt h3.wb xs.length fun i hi => by rw [hbx i]; exact hi)
      have H3 := Lib.hid h3
      have N3 := Lib.hid n3
      clear hp h3 n3 bi3 kk3 hbx
      have hl3 := H3.out.2
      by_cases h0 : ws.length = 0
      · obtain rfl := List.eq_nil_of_length_eq_zero h0
        clear h0 hl3
        go_wp2_with fail
        refine (Equal_val true _ _ _ _ _ _ _ _ _ H3.out.1 Ix.out hev.out).mono ?_
        rintro e w' ⟨rfl, rfl⟩
        go_wp2_with fail
        refine (Subset_val true _ _ _ _ _ _ _ _ _ Ix.out H3.out.1 hsv.out).mono ?_
        rintro e w' ⟨rfl, rfl⟩
        go_wp2_with fail
        refine (Count_val l.length _ _ _ _ _ Ix.out s1 HC.out).mono ?_
        rintro e w' ⟨rfl, rfl⟩
        go_wp2_with fail
        refine (ex_holds _ (HT.out.below B3.out)).mono ?_
        rintro e W7 ⟨rfl, kk7⟩
        have B7 := Lib.hid (B3.out.trans (kk7.mono B3.out.size))
        go_wp2
        go_ret
        exact ⟨rfl, B7.out⟩
      · obtain ⟨b3, o3, rfl, hl3', hx3⟩ := H3.out.1.at_ (by omega)
        have c3 := hx3 (ws.length - 1) (by omega)
        have hne := N3.out (by omega)
        obtain ⟨t, ht⟩ : ∃ t, wd ws (ws.length - 1) = t := ⟨_, rfl⟩
        obtain ⟨n, hn⟩ : ∃ n, ws.length = n + 1 := ⟨ws.length - 1, by omega⟩
        rw [ht] at c3 hne
        rw [hn, Nat.add_sub_cancel] at c3
        have ht0 : (((t : Nat) : Int) != 0) = true := by simpa using hne
        have HN := Lib.hid hn
        have hd0 : (((n : Nat) : Int) + 1 == 0) = false := by simp; omega
        rw [hn] at hl3
        have g1 := H3.out.1
        rw [hn] at g1
        have hev2 := hev.out
        rw [hn] at hev2
        have G1 := Lib.hid g1
        have HE2 := Lib.hid hev2
        clear hx3 ht hne h0 g1 hev2
        rw [hn]
        clear hn
        go_wp2_with fail
        refine (Equal_val true _ _ _ _ _ _ _ _ _ G1.out Ix.out HE2.out).mono ?_
        rintro e w' ⟨rfl, rfl⟩
        go_wp2_with fail
        refine (Subset_val true _ _ _ _ _ _ _ _ _ Ix.out G1.out hsv.out).mono ?_
        rintro e w' ⟨rfl, rfl⟩
        go_wp2_with fail
        refine (Count_val l.length _ _ _ _ _ Ix.out s1 HC.out).mono ?_
        rintro e w' ⟨rfl, rfl⟩
        go_wp2_with fail
        refine (ex_holds _ (HT.out.below B3.out)).mono ?_
        rintro e W7 ⟨rfl, kk7⟩
        have B7 := Lib.hid (B3.out.trans (kk7.mono B3.out.size))
        go_wp2
        go_ret
        exact ⟨rfl, B7.out⟩
end Go.Proofs.YtlphlbhbhcpnpaaDoor
