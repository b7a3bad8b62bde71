/- The laws over package bits, continued: BitsAsks, BitsMakes. Written by wip/gen/bits.py. -/
import Derived.Test.YtlphlbhbhcpnpaaDoorBf
namespace Go.Proofs.YtlphlbhbhcpnpaaDoor
open Go.RowKit

def hasI (xs : List Nat) (i : Int) : Bool := if i < 0 then false else bit xs i.toNat
theorem Has_i (b : Bool) (w : World) (a1 : Option Addr) (n1 cap1 : Nat) (xs : List Nat) (h1 : Is64 w a1 n1 cap1 xs) (i : Int) (hi : i ≤ 9223372036854775807) (hb : hasI xs i = b) :
    Calls Tryd.prog 46 #[.slice a1 n1 cap1, .int .i64 i] w fun e w' => e = .returned (.bool b) ∧ w = w' := by
  subst hb
  unfold hasI
  split
  · rename_i h; exact Has_neg w a1 n1 cap1 i h
  · obtain ⟨t, rfl⟩ := Int.eq_ofNat_of_zero_le (show 0 ≤ i by omega)
    exact Has_pos w a1 n1 cap1 xs h1 t (by omega)
theorem rHas_i (b : Bool) (w : World) (a1 : Option Addr) (n1 cap1 : Nat) (xs : List Nat) (h1 : Is64 w a1 n1 cap1 xs) (i : Int) (hi : i ≤ 9223372036854775807) (hb : hasI xs i = b) :
    Calls Tryd.prog 47 #[.slice a1 n1 cap1, .int .i64 i] w fun e w' => e = .returned (.bool b) ∧ w = w' := by
  subst hb
  unfold hasI
  split
  · rename_i h; exact rHas_neg w a1 n1 cap1 i h
  · obtain ⟨t, rfl⟩ := Int.eq_ofNat_of_zero_le (show 0 ≤ i by omega)
    exact rHas_pos w a1 n1 cap1 xs h1 t (by omega)
theorem rEqual_val (b : Bool) (w : World) (a1 a2 : Option Addr) (n1 n2 cap1 cap2 : Nat) (xs ys : List Nat) (h1 : Is64 w a1 n1 cap1 xs) (h2 : Is64 w a2 n2 cap2 ys) (s1 : n1 ≤ 1000000) (s2 : n2 ≤ 1000000) (hb : (subB n1 xs ys && subB n2 ys xs) = b) :
    Calls Tryd.prog 51 #[.slice a1 n1 cap1, .slice a2 n2 cap2] w fun e w' => e = .returned (.bool b) ∧ Below w.heap.size w w' := hb ▸ rEqual_any w a1 a2 n1 n2 cap1 cap2 xs ys h1 h2 s1 s2
theorem rCount_val (c : Nat) (w : World) (a1 : Option Addr) (n1 cap1 : Nat) (xs : List Nat) (h1 : Is64 w a1 n1 cap1 xs) (s1 : n1 ≤ 1000000) (hc : cnt xs n1 = c) :
    Calls Tryd.prog 53 #[.slice a1 n1 cap1] w fun e w' => e = .returned (.int .i64 (c : Int)) ∧ Below w.heap.size w w' := by
  rw [cnt_lst xs h1.lt] at hc
  exact hc ▸ rCount_any w a1 n1 cap1 xs h1 s1

set_option maxRecDepth 100000 in
theorem BitsAsks_law (w : World) (ax : Option Addr) (capx : Nat) (xs : List Nat) (ay : Option Addr) (capy : Nat) (ys : List Nat) (hx : Is64 w ax xs.length capx xs) (hy : Is64 w ay ys.length capy ys) (i : Int) (hi : -9223372036854775808 ≤ i ∧ i ≤ 9223372036854775807) (hT : TabOk w) :
    Calls Tryd.prog 12 #[.slice ax xs.length capx, .slice ay ys.length capy, .int .i64 i] w fun e w' => e = .returned (.bool true) ∧ Below w.heap.size w w' := by
  have HT := Lib.hid hT
  clear hT
  have Ix := Lib.hid hx
  have mx := hx.maxLe
  have lx := hx.capLe
  have Iy := Lib.hid hy
  have my := hy.maxLe
  have ly := hy.capLe
  unfold maxLen at mx my
  clear hx hy
  by_cases bbx : 80 < xs.length
  · go_enter Tryd.func12, Tryd.ntmps12
    go_wp2_with (go_at_call 33; refine (ex_holds _ HT.out).mono ?_; rintro e w' ⟨rfl, kk⟩)
    go_ret
    exact ⟨rfl, kk⟩
  by_cases bby : 80 < ys.length
  · go_enter Tryd.func12, Tryd.ntmps12
    go_wp2_with (go_at_call 33; refine (ex_holds _ HT.out).mono ?_; rintro e w' ⟨rfl, kk⟩)
    go_ret
    exact ⟨rfl, kk⟩
  have qx : xs.length ≤ 80 := by omega
  have Hx : Hid (L64 w ax capx xs) := ⟨Ix.out, by omega⟩
  have qy : ys.length ≤ 80 := by omega
  have Hy : Hid (L64 w ay capy ys) := ⟨Iy.out, by omega⟩
  clear bbx bby
  go_enter Tryd.func12, Tryd.ntmps12
  have B0 := Lib.hid (Below.refl w.heap.size w)
  obtain ⟨b1, e1⟩ : ∃ b, hasI xs i = b := ⟨_, rfl⟩
  have E1 := Lib.hid e1
  obtain ⟨b2, e2⟩ : ∃ b, subB xs.length xs ys = b := ⟨_, rfl⟩
  have E2 := Lib.hid e2
  obtain ⟨b3, e3⟩ : ∃ b, (subB xs.length xs ys && subB ys.length ys xs) = b := ⟨_, rfl⟩
  have E3 := Lib.hid e3
  obtain ⟨c4, e4⟩ : ∃ c, cnt xs xs.length = c := ⟨_, rfl⟩
  have E4 := Lib.hid e4
  clear e1 e2 e3 e4
  have s1 : xs.length ≤ 1000000 := by omega
  have s2 : ys.length ≤ 1000000 := by omega
  go_wp2_with fail
  refine (Has_i b1 _ _ _ _ _ Hx.out.1 i hi.2 E1.out).mono ?_
  rintro e w' ⟨rfl, rfl⟩
  go_wp2_with fail
  refine (rHas_i b1 _ _ _ _ _ Hx.out.1 i hi.2 E1.out).mono ?_
  rintro e w' ⟨rfl, rfl⟩
  go_wp2_with fail
  refine (Subset_val b2 _ _ _ _ _ _ _ _ _ Hx.out.1 Hy.out.1 E2.out).mono ?_
  rintro e w' ⟨rfl, rfl⟩
  go_wp2_with fail
  refine (rSubset_val b2 _ _ _ _ _ _ _ _ _ Hx.out.1 Hy.out.1 s1 s2 E2.out).mono ?_
  rintro e W1 ⟨rfl, kk1⟩
  have Hx := Lib.hid (Hx.out.below kk1)
  have Hy := Lib.hid (Hy.out.below kk1)
  have B1 := Lib.hid (B0.out.trans (kk1.mono B0.out.size))
  clear kk1
  go_wp2_with fail
  refine (Equal_val b3 _ _ _ _ _ _ _ _ _ Hx.out.1 Hy.out.1 E3.out).mono ?_
  rintro e w' ⟨rfl, rfl⟩
  go_wp2_with fail
  refine (rEqual_val b3 _ _ _ _ _ _ _ _ _ Hx.out.1 Hy.out.1 s1 s2 E3.out).mono ?_
  rintro e W2 ⟨rfl, kk2⟩
  have Hx := Lib.hid (Hx.out.below kk2)
  have Hy := Lib.hid (Hy.out.below kk2)
  have B2 := Lib.hid (B1.out.trans (kk2.mono B1.out.size))
  clear kk2
  go_wp2_with fail
  refine (Count_val c4 _ _ _ _ _ Hx.out.1 s1 E4.out).mono ?_
  rintro e w' ⟨rfl, rfl⟩
  go_wp2_with fail
  refine (rCount_val c4 _ _ _ _ _ Hx.out.1 s1 E4.out).mono ?_
  rintro e W3 ⟨rfl, kk3⟩
  have Hx := Lib.hid (Hx.out.below kk3)
  have Hy := Lib.hid (Hy.out.below kk3)
  have B3 := Lib.hid (B2.out.trans (kk3.mono B2.out.size))
  clear kk3
  go_wp2_with fail
  refine (ex_holds _ (HT.out.below B3.out)).mono ?_
  rintro e W4 ⟨rfl, kk4⟩
  have Hx := Lib.hid (Hx.out.below kk4)
  have Hy := Lib.hid (Hy.out.below kk4)
  have B4 := Lib.hid (B3.out.trans (kk4.mono B3.out.size))
  clear kk4
  go_wp2
  go_ret
  exact ⟨rfl, B4.out⟩


/-- Whether all the numbers lie from 0 to MaxBit. -/
def Good (zs : List Int) : Prop := ∀ i, i < zs.length → 0 ≤ wi zs i ∧ wi zs i ≤ 4095

theorem OfPost.good {zs : List Int} {w w' : World} {e : Ending} (h : OfPost zs w e w') (hg : Good zs) :
    ∃ ws a cap, e = .returned (.tuple #[.slice a ws.length cap, .int .i64 0]) ∧ L64 w' a cap ws ∧ Norm ws ∧ (∀ i, bit ws i = inL zs zs.length i) ∧ Below w.heap.size w w' := by
  obtain ⟨h1, ⟨_, ws', a, n, cap, he, h64, hn', hl, hb'⟩ | ⟨⟨i, hi, hbad⟩, _⟩⟩ := h
  · have hl2 := h64.len
    subst hl2
    exact ⟨ws', a, cap, he, ⟨h64, by omega⟩, hn', hb', h1⟩
  · exact absurd (hg i hi) hbad
theorem OfPost.bad {zs : List Int} {w w' : World} {e : Ending} (h : OfPost zs w e w') (hg : ¬ Good zs) :
    e = .returned (.tuple #[.slice none 0 0, .int .i64 2]) ∧ Below w.heap.size w w' := by
  obtain ⟨h1, ⟨hgood, _⟩ | ⟨_, he⟩⟩ := h
  · exact absurd hgood hg
  · exact ⟨he, h1⟩
theorem nil_64 (w : World) : L64 w none 0 [] := ⟨⟨rfl, Nat.le_refl _, Nat.zero_le _, fun i hi => absurd hi (Nat.not_lt_zero _), fun h0 => absurd h0 (Nat.lt_irrefl _), fun _ => ⟨rfl, rfl⟩⟩, Nat.zero_le _⟩

set_option maxRecDepth 100000 in
theorem BitsMakes_law (w : World) (az : Option Addr) (capz : Nat) (zs : List Int) (ax : Option Addr) (capx : Nat) (xs : List Nat) (hz : IsInt w az zs.length capz zs) (hx : Is64 w ax xs.length capx xs) (hT : TabOk w) :
    Calls Tryd.prog 10 #[.slice az zs.length capz, .slice ax xs.length capx] w fun e w' => e = .returned (.bool true) ∧ Below w.heap.size w w' := by
  have HT := Lib.hid hT
  have Iz := Lib.hid hz
  have mz := hz.maxLe
  have lz := hz.capLe
  have Ix := Lib.hid hx
  have mx := hx.maxLe
  have lx := hx.capLe
  unfold maxLen at mz mx
  clear hz hx hT
  by_cases bbz : 200 < zs.length
  · go_enter Tryd.func10, Tryd.ntmps10
    go_wp2_with (go_at_call 33; refine (ex_holds _ HT.out).mono ?_; rintro e w' ⟨rfl, kk⟩)
    go_ret
    exact ⟨rfl, kk⟩
  by_cases bbx : 80 < xs.length
  · go_enter Tryd.func10, Tryd.ntmps10
    go_wp2_with (go_at_call 33; refine (ex_holds _ HT.out).mono ?_; rintro e w' ⟨rfl, kk⟩)
    go_ret
    exact ⟨rfl, kk⟩
  have qz : zs.length ≤ 200 := by omega
  have qx : xs.length ≤ 80 := by omega
  have s1 : xs.length ≤ 1000000 := by omega
  clear bbz bbx
  have B0 := Lib.hid (Below.refl w.heap.size w)
  by_cases hg : Good zs
  · have HG := Lib.hid hg
    clear hg
    go_enter Tryd.func10, Tryd.ntmps10
    go_wp2_with fail
    refine (Of_any _ _ _ _ _ Iz.out).mono ?_
    intro e W1 hp
    obtain ⟨ws1, a1, cap1, rfl, h1, n1, bi1, kk1⟩ := hp.good HG.out
    have Iz := Lib.hid (Iz.out.below kk1)
    have Ix := Lib.hid (Ix.out.below kk1)
    have B1 := Lib.hid (B0.out.trans (kk1.mono B0.out.size))
    have H1 := Lib.hid h1
    have N1 := Lib.hid n1
    have C1 := Lib.hid bi1
    clear hp h1 n1 bi1 kk1
    go_wp2_with fail
    refine (rOf_any _ _ _ _ _ Iz.out).mono ?_
    intro e W2 hp
    obtain ⟨ws2, a2, cap2, rfl, h2, n2, bi2, kk2⟩ := hp.good HG.out
    have H1 := Lib.hid (H1.out.below kk2)
    have Ix := Lib.hid (Ix.out.below kk2)
    have B2 := Lib.hid (B1.out.trans (kk2.mono B1.out.size))
    have HS := Lib.hid (same_of N1.out n2 H1.out.wb h2.wb fun i => (C1.out i).trans (bi2 i).symm)
    have H2 := Lib.hid h2
    clear hp h2 n2 bi2 kk2
    go_wp2_with fail
    refine (Same_l H1.out H2.out HS.out).mono ?_
    rintro e W3 ⟨rfl, kk3⟩
    have Ix := Lib.hid (Ix.out.below kk3)
    have B3 := Lib.hid (B2.out.trans (kk3.mono B2.out.size))
    clear kk3
    go_wp2_with fail
    refine (List_any _ _ _ _ _ Ix.out s1 (HT.out.below B3.out)).mono ?_
    intro e W4 hp
    obtain ⟨a4, cap4, rfl, h4, kk4⟩ := hp.eq _ rfl
    have Ix := Lib.hid (Ix.out.below kk4)
    have B4 := Lib.hid (B3.out.trans (kk4.mono B3.out.size))
    have H4 := Lib.hid h4
    clear hp h4 kk4
    go_wp2_with fail
    refine (rList_any _ _ _ _ _ Ix.out s1).mono ?_
    intro e W5 hp
    obtain ⟨a5, cap5, rfl, h5, kk5⟩ := hp.eq _ rfl
    have H4 := Lib.hid (H4.out.below kk5)
    have B5 := Lib.hid (B4.out.trans (kk5.mono B4.out.size))
    have H5 := Lib.hid h5
    clear hp h5 kk5
    go_wp2_with fail
    refine (SameInts_val true _ _ _ _ _ _ _ _ _ H4.out H5.out (by simp [sameI])).mono ?_
    rintro e W6 ⟨rfl, kk6⟩
    have B6 := Lib.hid (B5.out.trans (kk6.mono B5.out.size))
    clear kk6
    go_wp2_with fail
    refine (ex_holds _ (HT.out.below B6.out)).mono ?_
    rintro e W7 ⟨rfl, kk7⟩
    have B7 := Lib.hid (B6.out.trans (kk7.mono B6.out.size))
    go_wp2
    go_ret
    exact ⟨rfl, B7.out⟩
  · have HG := Lib.hid hg
    clear hg
    go_enter Tryd.func10, Tryd.ntmps10
    go_wp2_with fail
    refine (Of_any _ _ _ _ _ Iz.out).mono ?_
    intro e W1 hp
    obtain ⟨rfl, kk1⟩ := hp.bad HG.out
    have Iz := Lib.hid (Iz.out.below kk1)
    have Ix := Lib.hid (Ix.out.below kk1)
    have B1 := Lib.hid (B0.out.trans (kk1.mono B0.out.size))
    clear hp kk1
    go_wp2_with fail
    refine (rOf_any _ _ _ _ _ Iz.out).mono ?_
    intro e W2 hp
    obtain ⟨rfl, kk2⟩ := hp.bad HG.out
    have Ix := Lib.hid (Ix.out.below kk2)
    have B2 := Lib.hid (B1.out.trans (kk2.mono B1.out.size))
    clear hp kk2
    go_wp2_with fail
    refine (Same_l (nil_64 _) (nil_64 _) (by decide)).mono ?_
    rintro e W3 ⟨rfl, kk3⟩
    have Ix := Lib.hid (Ix.out.below kk3)
    have B3 := Lib.hid (B2.out.trans (kk3.mono B2.out.size))
    clear kk3
    go_wp2_with fail
    refine (List_any _ _ _ _ _ Ix.out s1 (HT.out.below B3.out)).mono ?_
    intro e W4 hp
    obtain ⟨a4, cap4, rfl, h4, kk4⟩ := hp.eq _ rfl
    have Ix := Lib.hid (Ix.out.below kk4)
    have B4 := Lib.hid (B3.out.trans (kk4.mono B3.out.size))
    have H4 := Lib.hid h4
    clear hp h4 kk4
    go_wp2_with fail
    refine (rList_any _ _ _ _ _ Ix.out s1).mono ?_
    intro e W5 hp
    obtain ⟨a5, cap5, rfl, h5, kk5⟩ := hp.eq _ rfl
    have H4 := Lib.hid (H4.out.below kk5)
    have B5 := Lib.hid (B4.out.trans (kk5.mono B4.out.size))
    have H5 := Lib.hid h5
    clear hp h5 kk5
    go_wp2_with fail
    refine (SameInts_val true _ _ _ _ _ _ _ _ _ H4.out H5.out (by simp [sameI])).mono ?_
    rintro e W6 ⟨rfl, kk6⟩
    have B6 := Lib.hid (B5.out.trans (kk6.mono B5.out.size))
    clear kk6
    go_wp2_with fail
    refine (ex_holds _ (HT.out.below B6.out)).mono ?_
    rintro e W7 ⟨rfl, kk7⟩
    have B7 := Lib.hid (B6.out.trans (kk7.mono B6.out.size))
    go_wp2
    go_ret
    exact ⟨rfl, B7.out⟩
end Go.Proofs.YtlphlbhbhcpnpaaDoor
