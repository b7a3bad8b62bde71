/- Walks over package text: Number. -/
import Derived.Test.YtlnmcegnnncepaaDoorTd
import Derived.Test.YtlnmcegnnncepaaDoorShelf
import Derived.Lib.LaidTab
import Derived.Lib.AtoiErrMem
import Derived.WalkSmall
namespace Go.Proofs.YtlnmcegnnncepaaDoor
open Go.RowKit

/-- What the text functions need of the package variables. -/
structure TxtOk (w : World) : Prop where
  big : 1 < w.heap.size ∧ 3 < w.heap.size ∧ 4 < w.heap.size
  rng : ∃ te pe, w.cell? ⟨3, 0, none⟩ = some (.iface te pe)
  mx : ∃ m, w.cell? ⟨1, 0, none⟩ = some (.int .i64 m)
  pow : Lib.TabIs Tryd.prog w "internal/strconv.uint64pow10" .u64 Lib.pow10Tab

theorem gPow : Tryd.prog.globalNamed "internal/strconv.uint64pow10" = some 4 := by kernel_rfl

theorem TxtOk.below {w w' : World} (h : TxtOk w) (hb : Below w.heap.size w w') : TxtOk w' := by
  have hs := hb.size
  obtain ⟨h1, h2, h3⟩ := h.big
  refine ⟨⟨by omega, by omega, by omega⟩, ?_, ?_, var?_below hb gPow h3 h.pow⟩
  · obtain ⟨te, pe, he⟩ := h.rng
    exact ⟨te, pe, (hb.cell (p := ⟨_, 0, none⟩) h2).trans he⟩
  · obtain ⟨m, he⟩ := h.mx
    exact ⟨m, (hb.cell (p := ⟨_, 0, none⟩) h1).trans he⟩

theorem Trim_any (s d : ByteArray) (hd : d.data.toList = dg s.data.toList) (w : World) :
    Calls Tryd.prog 80 #[.string s, .string ⟨#[45]⟩] w fun e w' => e = .returned (.string d) ∧ w = w' :=
  (Tryd.strings_TrimPrefix s ⟨#[45]⟩ w).mono fun e w' h => ⟨by
    rw [h.1]
    have : Lib.trimPrefix s.data.toList [45] = d.data.toList := by rw [trim_dash, hd]
    rw [show (⟨#[45]⟩ : ByteArray).data.toList = [45] from rfl, this], h.2.symm⟩

/-- The form of a number, by the string and its digits. -/
theorem isDec_eq (s d : ByteArray) (hd : d.data.toList = dg s.data.toList) : isDec s.data.toList = (decide (0 < d.size) && (pre (by8 kDig) d.data.toList == d.size) && (s.data.toList == [48] || (bn d 0 != 48))) := by
  have hsz := size_list d
  unfold isDec
  rw [← hd]
  rw [Bool.eq_iff_iff]
  simp only [Bool.and_eq_true, decide_eq_true_eq, beq_iff_eq, Bool.not_eq_true', Bool.or_eq_true, bne_iff_ne]
  cases hl : d.data.toList with
  | nil =>
    rw [hl] at hsz
    simp at hsz
    simp
    omega
  | cons b r =>
    have hb0 : bn d 0 = b.toNat := by unfold bn; rw [hl]; rfl
    rw [hl] at hsz
    rw [hb0]
    have hp := pre_all (by8 kDig) (b :: r)
    rw [hsz] at hp
    rw [hp]
    have hq : (List.all (b :: r) (by8 kDig) = true) ↔ ∀ x ∈ b :: r, by8 kDig x = true := by rw [List.all_eq_true]
    rw [hq]
    have hn : (some b ≠ some 48) ↔ b.toNat ≠ 48 := by
      constructor
      · intro h e
        exact h (congrArg some (UInt8.toNat_inj.1 (by rw [e]; rfl)))
      · intro h e
        cases e
        exact h rfl
    simp only [List.head?_cons, List.isEmpty_cons]
    rw [hn]
    have hpos : 0 < d.size := by rw [← hsz]; simp
    simp [hpos]

set_option maxRecDepth 100000 in
theorem isDecimal_any (s : ByteArray) (w : World) (hs : s.size ≤ 1000000) :
    Calls Tryd.prog 61 #[.string s] w fun e w' => e = .returned (.bool (isDec s.data.toList)) ∧ Below w.heap.size w w' := by
  obtain ⟨d, hd⟩ : ∃ d : ByteArray, d.data.toList = dg s.data.toList := ⟨mk (dg s.data.toList), mk_list _⟩
  have hsz := size_list d
  have hdl : d.size ≤ s.size := by
    rw [← hsz, hd, ← size_list s]
    unfold dg
    split
    · simp
    · exact Nat.le_refl _
  have hres := isDec_eq s d hd
  have HD := Lib.hid hd
  have HR := Lib.hid hres
  clear hsz hd hres
  by_cases h0 : d.size = 0
  · have hf : Hid (isDec s.data.toList = false) := by show _ = _; rw [HR.out]; simp [h0]
    have he := empty_of h0
    subst he
    clear h0 HR hdl
    go_enter Tryd.func61, Tryd.ntmps61
    go_wp2_with (go_at_call 80; refine (Trim_any s _ HD.out _).mono ?_; rintro e w' ⟨rfl, rfl⟩)
    go_ret
    exact ⟨by rw [hf.out]; rfl, Below.refl _ _⟩
  have hp : 0 < d.size := by omega
  have hne := ne_empty hp
  obtain ⟨n, hn⟩ : ∃ n, pre (by8 kDig) d.data.toList = n := ⟨_, rfl⟩
  have hnl := pre_le (by8 kDig) d.data.toList
  rw [hn, size_list] at hnl
  have HN := Lib.hid hn
  have hmax : d.size ≤ maxLen := by unfold maxLen; omega
  have HM := Lib.hid hmax
  clear h0 hn hmax
  by_cases hlt : n < d.size
  · have hf : Hid (isDec s.data.toList = false) := by
      show _ = _
      rw [HR.out, HN.out]
      have : (n == d.size) = false := by simp; omega
      rw [this]; simp
    clear HR
    go_enter Tryd.func61, Tryd.ntmps61
    go_wp2_with (first | (go_at_call 80; refine (Trim_any s _ HD.out _).mono ?_; rintro e w' ⟨rfl, rfl⟩) | (go_at_call 58; refine (prefix_any _ kDig (by8 kDig) false isDigit_tells isDigit_enters (kind_low kDig_hi) d _ HM.out).mono ?_; rw [HN.out]; rintro e w' ⟨rfl, hb⟩))
    go_ret
    exact ⟨by rw [hf.out]; rfl, hb⟩
  · obtain rfl : n = d.size := by omega
    have hb0 := bn_int d 0 hp
    have hl0 := bn_lt d 0
    obtain ⟨x, hx⟩ : ∃ x, bn d 0 = x := ⟨_, rfl⟩
    have hf : Hid (isDec s.data.toList = (s.data.toList == [48] || x != 48)) := by
      show _ = _
      rw [HR.out, HN.out, hx, decide_eq_true hp]
      simp
    rw [hx] at hb0 hl0
    have e1 : (((x : Nat) : Int) != 48) = (x != 48) := ne_cast x 48
    clear HR hx
    cases h1 : (s.data.toList == [48]) <;> cases h2 : (x != 48)
    all_goals
      have H1 := Lib.hid h1
      have H2 := Lib.hid h2
      rw [h2] at e1
      rw [← Lib.toList_data] at h1
      clear h2
      go_enter Tryd.func61, Tryd.ntmps61
      go_wp2_with (first | (go_at_call 80; refine (Trim_any s _ HD.out _).mono ?_; rintro e w' ⟨rfl, rfl⟩) | (go_at_call 58; refine (prefix_any _ kDig (by8 kDig) false isDigit_tells isDigit_enters (kind_low kDig_hi) d _ HM.out).mono ?_; rw [HN.out]; rintro e w' ⟨rfl, hb⟩))
      go_ret
      exact ⟨by rw [hf.out, H1.out, H2.out]; rfl, hb⟩

/-- The string by its digits' own number: Number. -/
theorem Number_any (s : ByteArray) (w : World) (hs : s.size ≤ 1000000) (hT : TxtOk w) :
    Calls Tryd.prog 22 #[.string s] w fun e w' => e = .returned (.tuple #[.int .i64 (numV s.data.toList), .int .i64 (numE s.data.toList)]) ∧ Below w.heap.size w w' := by
  have HS := Lib.hid hs
  have HT := Lib.hid hT
  clear hs hT
  have hval := fun b (hb : isDec s.data.toList = b) W => (hb ▸ isDecimal_any s W HS.out : Calls Tryd.prog 61 #[.string s] W fun e w' => e = .returned (.bool b) ∧ Below W.heap.size W w')
  have HV := Lib.hid hval
  clear hval
  cases hd : isDec s.data.toList
  · have HD := Lib.hid hd
    have h1 : Hid (numV s.data.toList = 0) := by show _ = _; unfold numV; rw [hd]; rfl
    have h2 : Hid (numE s.data.toList = 8) := by show _ = _; unfold numE; rw [hd]; rfl
    clear hd
    go_enter Tryd.func22, Tryd.ntmps22
    go_wp2_with (go_at_call 61; refine (HV.out false HD.out _).mono ?_; rintro e w' ⟨rfl, hb⟩)
    go_ret2
    exact ⟨by rw [h1.out, h2.out]; rfl, hb⟩
  · have HD := Lib.hid hd
    rcases atoi_dec hd with ⟨g1, g2⟩ | ⟨g1, g2, g3⟩
    · have G1 := Lib.hid g1
      have G2 := Lib.hid g2
      clear hd g1 g2
      go_enter Tryd.func22, Tryd.ntmps22
      go_wp2_with fail
      refine (HV.out true HD.out _).mono ?_
      rintro e w1 ⟨rfl, hb⟩
      go_wp2_with fail
      refine (Tryd.strconv_Atoi_ok s (by have := HS.out; omega) _ G2.out w1).mono ?_
      rintro e w2 ⟨rfl, hw⟩
      have hb2 : Below w1.heap.size w1 w2 := by
        rcases hw with rfl | ⟨t, rfl⟩
        · exact Below.refl _ _
        · exact Lib.bytesWorld_below _ _ _
      clear hw
      go_wp2
      go_ret2
      exact ⟨by rw [G1.out]; rfl, hb.trans (hb2.mono hb.size)⟩
    · have G1 := Lib.hid g1
      have G2 := Lib.hid g2
      have G3 := Lib.hid g3
      clear hd g1 g2 g3
      go_enter Tryd.func22, Tryd.ntmps22
      go_wp2_with fail
      refine (HV.out true HD.out _).mono ?_
      rintro e w1 ⟨rfl, hb⟩
      go_wp2_with fail
      obtain ⟨te, pe, hev⟩ := (HT.out.below hb).rng
      have hs5 : s.size ≤ 281474976710656 := Nat.le_trans HS.out (by decide)
      have hc := Tryd.strconv_Atoi_range s hs5 G3.out (.iface te pe) w1 hev (.inr ⟨te, pe, rfl⟩)
      refine hc.mono ?_
      clear hc
      rintro e w2 ⟨N, rfl, _, _, hb2⟩
      go_wp2
      go_ret2
      exact ⟨by rw [G1.out, G2.out]; rfl, hb.trans (hb2.mono hb.size)⟩
end Go.Proofs.YtlnmcegnnncepaaDoor
