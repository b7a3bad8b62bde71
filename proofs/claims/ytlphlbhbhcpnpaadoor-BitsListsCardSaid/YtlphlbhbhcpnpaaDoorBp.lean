/- Walk over the reference of Of; the normal form's words. -/
import Derived.Test.YtlphlbhbhcpnpaaDoorBo
namespace Go.Proofs.YtlphlbhbhcpnpaaDoor
open Go.RowKit

theorem nlen_top (xs : List Nat) : ∀ n i, nlen xs n ≤ i → i < n → wd xs i = 0
  | 0, i, _, h => absurd h (Nat.not_lt_zero _)
  | n + 1, i, h1, h2 => by
    unfold nlen at h1
    split at h1
    · rename_i h
      rcases Nat.lt_succ_iff_lt_or_eq.1 h2 with h3 | h3
      · exact nlen_top xs n i h1 h3
      · rw [h3]; exact h
    · omega
theorem nlen_last (xs : List Nat) : ∀ n, 0 < nlen xs n → wd xs (nlen xs n - 1) ≠ 0
  | 0, h => absurd h (Nat.lt_irrefl _)
  | n + 1, h => by
    unfold nlen at h ⊢
    split
    · rename_i h1
      rw [if_pos h1] at h
      exact nlen_last xs n h
    · rename_i h1
      simpa using h1

theorem wd_nrm (m : Nat) (f : Nat → Nat) (i : Nat) : wd (nrm m f) i = if i < m then f i else 0 := by
  by_cases h1 : i < nlen (tab m f) m
  · have h2 := nlen_le (tab m f) m
    rw [nrm, wd_take _ _ _ h1, if_pos (by omega), wd_tab _ _ _ (by omega)]
  · rw [wd_out _ _ (by rw [nrm_len]; omega)]
    split
    · rename_i h
      have := nlen_top (tab m f) m i (by omega) h
      rw [wd_tab _ _ _ h] at this
      exact this.symm
    · rfl
theorem norm_nrm (m : Nat) (f : Nat → Nat) : Norm (nrm m f) := by
  intro h
  rw [nrm_len] at h ⊢
  have h2 := nlen_le (tab m f) m
  have := nlen_last (tab m f) m h
  rw [nrm, wd_take _ _ _ (by omega)]
  exact this

theorem inL_good {zs : List Int} {k : Nat} (h : ∀ i, i < k → 0 ≤ wi zs i ∧ wi zs i ≤ 4095) {i : Nat} (hi : 4096 ≤ i) : inL zs k i = false := by
  induction k with
  | zero => rfl
  | succ k ih =>
    rw [inL, ih (fun j hj => h j (by omega))]
    have := h k (by omega)
    simp
    omega

set_option maxRecDepth 100000 in
theorem rOf_any (w : World) (a1 : Option Addr) (n1 cap1 : Nat) (zs : List Int) (h1 : IsInt w a1 n1 cap1 zs) :
    Calls Tryd.prog 35 #[.slice a1 n1 cap1] w (OfPost zs w) := by
  have H1 := Lib.hid h1
  have hm1 := h1.maxLe
  have hc1 := h1.capLe
  unfold maxLen at hm1
  obtain ⟨i0, hi, hz0, hz1, hz2⟩ := info_parts Tryd.info64
  have HI := Lib.hid (And.intro hi (And.intro hz0 (And.intro hz1 hz2)))
  clear h1 hi hz0 hz1 hz2
  go_enter Tryd.func35, Tryd.ntmps35
  go_wp2_with (at_make; go_loud (refine wpList_make_full _ rfl _ _ _ rfl w.heap.size 56 i0 (.int .u64 0) 1 Tryd.underlying43 HI.out.1 HI.out.2.1 HI.out.2.2.1 _ _ _ _ 64 rfl rfl rfl rfl ?_ ?_ (Nat.le_refl _) ?_); rotate_right; intro w1 hown hgrow)
  · have hb0 : Below w.heap.size w w1 := (Below.refl _ _).grown hgrow (Nat.le_refl _) (fun _ e => by cases e)
    have hr0 : Row64 w1 w.heap.size 64 (fun _ => 0) := Row64.made hown
    have HR := Lib.hid hr0
    have hsz := lt_of_block hr0
    clear hown hgrow hr0
    go_loopw [5] (fun v wr => ∃ (k : Nat) (f : Nat → Nat), k ≤ n1 ∧ v = .int .i64 k ∧ Hid (Row64 wr w.heap.size 64 f) ∧ Hid ((∀ i, f i < 18446744073709551616) ∧ (∀ i, i < 4096 → (f (i / 64)).testBit (i % 64) = inL zs k i) ∧ ∀ i, i < k → 0 ≤ wi zs i ∧ wi zs i ≤ 4095) ∧ Below w.heap.size w wr ∧ w.heap.size < wr.heap.size) (fun v _ => n1 - (intOf v).toNat)
    case atStart => exact ⟨0, _, Nat.zero_le _, rfl, HR.out, ⟨fun _ => by decide, fun i _ => by simp [inL], fun i hi => absurd hi (Nat.not_lt_zero _)⟩, hb0, hsz⟩
    case round =>
      obtain ⟨k, f, hk, rfl, hrow, hws, hb, hsr⟩ := hrel
      have hw := Lib.hid hws
      by_cases hlt : k < n1
      · obtain ⟨b1, o1, rfl, hl1, hx1⟩ := H1.out.at_ (by omega)
        have c1 := (hb.cell (p := ⟨b1, o1 + k, none⟩) hl1).trans (hx1 k (by omega))
        clear hx1
        have hbz := H1.out.bnd k hlt
        obtain ⟨z, hz⟩ : ∃ z, wi zs k = z := ⟨_, rfl⟩
        rw [hz] at c1 hbz
        have HZ := Lib.hid hz
        clear hz
        have hlen := Lib.hid H1.out.len
        by_cases hg : 0 ≤ z ∧ z ≤ 4095
        · obtain ⟨hg1, hg2⟩ := hg
          obtain ⟨t, rfl⟩ := Int.eq_ofNat_of_zero_le hg1
          have ht : t ≤ 4095 := by omega
          have hq : t / 64 < 64 := by omega
          have c2 := hrow.out.cell hq
          have f2 := hrow.out.free (t / 64)
          clear hw
          have hd1 : decide ((t : Int) < 0) = false := by simp
          have hd2 : decide ((4095 : Int) < (t : Int)) = false := by simp; omega
          go_wp2
          go_region
          go_wp2
          go_roundw
          case rel =>
            have hw := hws.out
            have hr64 : t % 64 < 64 := Nat.mod_lt _ (by decide)
            refine ⟨k + 1, fun i => if i = t / 64 then f (t / 64) ||| 2 ^ (t % 64) else f i, by omega, by go_num, ?_, ⟨fun i => ?_, fun i hi => ?_, fun i hi => ?_⟩, (hb.setCell (Nat.le_refl _) _).drew, by simpa using hsr⟩
            · rw [shl_one hr64, or_int (hw.1 _) (Nat.pow_lt_pow_right (n := 64) (by decide) hr64)]
              exact Row64.set (f' := fun i => if i = t / 64 then f (t / 64) ||| 2 ^ (t % 64) else f i) hrow.out hq _ (by simp) (fun i hi => by simp [hi])
            · show (if _ then _ else _) < _
              split
              · exact or_bit_lt (hw.1 _) hr64
              · exact hw.1 i
            · show (if _ then _ else _ : Nat).testBit _ = _
              rw [inL, ← hw.2.1 i hi, HZ.out]
              split
              · rename_i h
                rw [Nat.testBit_or, Nat.testBit_two_pow, h]
                congr 1
                rw [decide_eq_decide]
                omega
              · rename_i h
                have : decide ((t : Int) = (i : Int)) = false := by rw [decide_eq_false_iff_not]; omega
                rw [this, Bool.or_false]
            · rcases Nat.lt_succ_iff_lt_or_eq.1 hi with h | h
              · exact hw.2.2 i h
              · rw [h, HZ.out]; omega
          case measure => simp [intOf]; omega
        · by_cases hneg : z < 0
          · go_wp2
            go_ret2
            exact ⟨hb, .inr ⟨⟨k, by rw [hlen.out]; exact hlt, by rw [HZ.out]; exact hg⟩, rfl⟩⟩
          · have hbig : 4095 < z := by omega
            go_wp2
            go_ret2
            exact ⟨hb, .inr ⟨⟨k, by rw [hlen.out]; exact hlt, by rw [HZ.out]; exact hg⟩, rfl⟩⟩
      · obtain rfl : k = n1 := by omega
        have hres := hrow.out.is64 (f := f) (fun i hi => rfl) (fun i hi => hws.out.1 i) (by unfold maxLen; omega) hsr
        have HRes := Lib.hid hres
        clear hrow hres
        go_wp2_with (go_at_call 72; refine (rNormal_any _ _ _ _ _ HRes.out (by omega)).mono ?_; rintro e w' ⟨a', n', cap', rfl, h', hb'⟩)
        go_ret2
        have hlen := H1.out.len
        have hwo := hws.out
        refine ⟨hb.trans (hb'.mono hb.size), .inl ⟨fun i hi => hwo.2.2 i (by omega), nrm 64 f, a', n', cap', rfl, h', norm_nrm _ _, ?_, fun i => ?_⟩⟩
        · have := h'.len
          have h3 : (nrm 64 f).length = n' := this
          rw [nrm_len] at h3
          have := nlen_le (tab 64 f) 64
          omega
        · rw [hlen]
          unfold bit
          rw [wd_nrm]
          split
          · exact hwo.2.1 i (by omega)
          · rw [inL_good hwo.2.2 (by omega)]; simp
  · rw [HI.out.2.2.2]; decide
  · unfold maxLen; omega
end Go.Proofs.YtlphlbhbhcpnpaaDoor
