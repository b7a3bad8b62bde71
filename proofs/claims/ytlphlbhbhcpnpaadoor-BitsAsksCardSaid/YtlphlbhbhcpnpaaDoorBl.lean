/- Walk over package bits: List. -/
import Derived.Test.YtlphlbhbhcpnpaaDoorPl
namespace Go.Proofs.YtlphlbhbhcpnpaaDoor
open Go.RowKit

theorem ints_app (l m : List Nat) : ints (l ++ m) = ints l ++ ints m := by simp [ints]

set_option maxRecDepth 100000 in
theorem List_any (w : World) (a1 : Option Addr) (n1 cap1 : Nat) (xs : List Nat) (h1 : Is64 w a1 n1 cap1 xs) (s1 : n1 ≤ 1000000) (hT : TabOk w) :
    Calls Tryd.prog 38 #[.slice a1 n1 cap1] w (RetI (ints (lst xs (64 * n1))) w) := by
  have H1 := Lib.hid h1
  have HT := Lib.hid hT
  have hm1 := h1.maxLe
  have hc1 := h1.capLe
  unfold maxLen at hm1
  obtain ⟨i0, hi, hz0, hz1, hz2⟩ := info_parts Tryd.infoI
  have HI := Lib.hid (And.intro hi (And.intro hz0 (And.intro hz1 hz2)))
  have hcl := cnt_le xs n1
  clear h1 hi hz0 hz1 hz2 hT
  go_enter Tryd.func38, Tryd.ntmps38
  go_wp2_with (first | (go_at_call 52; refine (Count_any _ _ _ _ _ H1.out s1).mono ?_; rintro e w' ⟨rfl, rfl⟩) | (at_make; go_loud (refine wpList_make_own _ rfl _ _ _ rfl w.heap.size 3 i0 (.int .i64 0) 1 Tryd.underlying41 HI.out.1 HI.out.2.1 HI.out.2.2.1 _ _ _ (cnt xs n1) rfl rfl rfl ?_ ?_ (Nat.le_refl _) ?_); rotate_right; intro w1 hown hgrow))
  · have hb0 : Below w.heap.size w w1 := (Below.refl _ _).grown hgrow (Nat.le_refl _) (fun _ e => by cases e)
    have HO := Lib.hid hown
    clear hown hgrow
    go_loopw [3, 11] (fun o v wr => ∃ k : Nat, k ≤ n1 ∧ v = .int .i64 k ∧ Hid (wr.ownsRow w.heap.size 3 1 o (lst xs (64 * k)).length (ivals (ints (lst xs (64 * k))))) ∧ Below w.heap.size w wr) (fun _ v _ => n1 - (intOf v).toNat)
    case atStart => exact ⟨0, Nat.zero_le _, rfl, HO.out, hb0⟩
    case round =>
      obtain ⟨k, hk, rfl, hrow, hb⟩ := hrel
      by_cases hlt : k < n1
      · obtain ⟨b1, o1, rfl, hl1, hx1⟩ := H1.out.at_ (by omega)
        have c1 := (hb.cell (p := ⟨b1, o1 + k, none⟩) hl1).trans (hx1 k (by omega))
        clear hx1
        go_wp2
        clear c1
        obtain ⟨wo, ewo⟩ : ∃ wo : World, wo = wr := ⟨_, rfl⟩
        go_loopw [3, 5] (fun o v wi => ∃ (l : List Nat) (x : Nat), v = .int .u64 ((x : Nat) : Int) ∧ x < 18446744073709551616 ∧ Hid (l ++ (bl x).map (fun j => 64 * k + j) = lst xs (64 * (k + 1))) ∧ l.length ≤ 64 * (k + 1) ∧ Hid (wi.ownsRow w.heap.size 3 1 o l.length (ivals (ints l))) ∧ Below w.heap.size w wi) (fun _ v _ => (intOf v).toNat)
        case atStart => exact ⟨lst xs (64 * k), wd xs k, rfl, H1.out.lt k, (lst_word xs k (H1.out.lt k)).symm, by have := lst_len xs (64 * k); omega, hrow, hb⟩
        case round =>
          obtain ⟨l, x, rfl, hx, hl, hll, hrow2, hb2⟩ := hrel
          by_cases h0 : x = 0
          · subst h0
            have hl' : l = lst xs (64 * (k + 1)) := by
              have := hl.out
              rw [bl_zero, List.map_nil, List.append_nil] at this
              exact this
            subst hl'
            go_wp2
            go_roundw
            case rel => exact ⟨k + 1, by omega, by go_num, hrow2, hb2⟩
            case measure => simp [intOf]; omega
          · have hlo := Lib.lowest_bit 64 x h0 hx
            obtain ⟨c, hc⟩ : ∃ c, Lib.ctz 64 x = c := ⟨_, rfl⟩
            have hc64 : c < 64 := by rw [← hc]; exact hlo.2
            have hC := Lib.hid hc
            have hz1 : (((x : Nat) : Int) != 0) = true := by simpa using h0
            have hT2 := Lib.hid (HT.out.below (hb2.mono (Nat.le_refl _)))
            have htz := Lib.hid (fun W (h : TabOk W) => hc ▸ Tz_any W x hx h0 h)
            obtain ⟨y, hy⟩ : ∃ y, x - 1 = y := ⟨_, rfl⟩
            obtain ⟨z, hzz⟩ : ∃ z, x &&& y = z := ⟨_, rfl⟩
            have f1 : IntKind.u64.wrap ((x : Int) - 1) = (y : Int) := by rw [IntKind.wrap_u64]; omega
            have f1' : (x : Int) - 1 = (y : Int) := by omega
            have f2 : bits BinOp.and IntKind.u64 (x : Int) (y : Int) = (z : Int) := by rw [andc hx (by omega), hzz]
            have hzx : z < x := by rw [← hzz, ← hy]; exact and_less x h0
            have HN : Hid (bl x = c :: bl z) := by rw [← hc, ← hzz, ← hy]; exact bl_next x h0 hx
            have hlr2 := hb2.size
            have hl2 : Hid ((l ++ [64 * k + c]) ++ (bl z).map (fun j => 64 * k + j) = lst xs (64 * (k + 1))) := by
              have := hl.out
              rw [HN.out, List.map_cons] at this
              show _ = _
              simpa using this
            have hll2 : (l ++ [64 * k + c]).length ≤ 64 * (k + 1) := by
              have h1 := congrArg List.length hl2.out
              rw [List.length_append] at h1
              have := lst_len xs (64 * (k + 1))
              omega
            have hll3 : l.length + 1 ≤ 64 * (k + 1) := by simpa using hll2
            have HL2 := Lib.hid hll2
            clear hc hlo hy hzz hl hll2 h0
            go_wp2_with (first | (go_at_call 73; refine (htz.out _ hT2.out).mono ?_; rintro e w' ⟨rfl, rfl⟩) | (at_builtin; go_loud (refine wpList_append_own _ rfl _ _ 41 rfl w.heap.size 3 i0 (.int .i64 0) 1 8 Tryd.underlying41 HI.out.1 HI.out.2.1 HI.out.2.2.1 HI.out.2.2.2 rfl (by decide) _ _ _ rfl (hrow2.out.alloc _) ⟨wr.heap.size, 0, none⟩ 1 1 [.int .i64 ((k : Int) * 64 + (c : Int))] rfl rfl (one_new _ _ _) ?_ ?_ ?_ ?_ ?_); rotate_right; intro v' w3 hown hgrow _))
            · have hown' : w3.ownsRow w.heap.size 3 1 v' (l ++ [64 * k + c]).length (ivals (ints (l ++ [64 * k + c]))) := by
                rw [← ivals_snoc, List.length_append, show (((64 * k + c : Nat)) : Int) = (k : Int) * 64 + (c : Int) by omega]
                exact hown
              exact ⟨⟨l ++ [64 * k + c], z, rfl, by omega, hl2, HL2.out, hown', (hb2.alloc hb2.size _).grown hgrow (by simp; omega) (fun j hj => (hrow2.out.lt j hj).1)⟩, by simp [intOf]; omega⟩
            · exact oneCell_one _ _
            · unfold maxLen; omega
            · omega
            · simp; omega
      · obtain rfl : k = n1 := by omega
        obtain ⟨aa, cc, rfl, hres⟩ := IsInt.of_owns hrow.out (fun z hz => by have := lst_mem hz; omega)
        have HRes := Lib.hid hres
        clear hrow hres
        go_wp2
        go_ret
        exact ⟨aa, _, cc, rfl, HRes.out, hb⟩
  · rw [HI.out.2.2.2]; omega
  · unfold maxLen; omega
end Go.Proofs.YtlphlbhbhcpnpaaDoor
