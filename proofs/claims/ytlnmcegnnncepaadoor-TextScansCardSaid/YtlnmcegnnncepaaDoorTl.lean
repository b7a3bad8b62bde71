/- Walks of the reference of package text: Words, Same. -/
import Derived.Test.YtlnmcegnnncepaaDoorTj
namespace Go.Proofs.YtlnmcegnnncepaaDoor
open Go.RowKit

theorem join_mk (a b : List UInt8) : mk a ++ mk b = mk (a ++ b) := by
  apply ByteArray.ext
  simp [mk]
/-- One byte of a string, as a string. -/
theorem one_byte {s : ByteArray} {k : Nat} (hk : k < s.size) : s.extract k (k + 1) = mk [s.data.toList[k]'(by rw [size_list]; exact hk)] := by
  have hl : k < s.data.toList.length := by rw [size_list]; exact hk
  rw [← mk_self (s.extract k (k + 1)), Lib.extract_data]
  congr 1
  rw [show k + 1 - k = 1 by omega]
  apply List.ext_getElem?
  intro i
  cases i with
  | zero => simp [List.getElem?_take, List.getElem?_drop]
  | succ i => simp [List.getElem?_take, List.getElem?_drop]
theorem oneCell_str (x : ByteArray) : ∀ u ∈ [Value.string x], u.oneCell' = true := by
  intro u hu
  simp at hu
  subst hu
  rfl
theorem wk_len (s : ByteArray) (k : Nat) (hk : k ≤ s.size) : (wk s k).1.length + (wk s k).2.length ≤ k := by
  induction k with
  | zero => rw [wk_zero]; simp
  | succ k ih =>
    have h := ih (by omega)
    by_cases hb : bn s k = 32
    · rw [wk_space (by omega) hb]; simp; omega
    · rw [wk_other (by omega) hb]; simp; omega

set_option maxRecDepth 100000 in
set_option maxHeartbeats 1600000 in
theorem rWords_any (s : ByteArray) (w : World) (hs : s.size ≤ 1000000) :
    Calls Tryd.prog 27 #[.string s] w (RetS (wordsV s.data.toList) (wordsE s.data.toList) w) := by
  obtain ⟨i0, hi, hz0, hz1, hz2⟩ := info_parts Tryd.infoS
  have HI := Lib.hid (And.intro hi (And.intro hz0 (And.intro hz1 hz2)))
  clear hi hz0 hz1 hz2
  go_enter Tryd.func27, Tryd.ntmps27
  go_wp2
  go_loopw [4, 5, 6] (fun o t v wr => ∃ k : Nat, k ≤ s.size ∧ v = .int .i64 k ∧ ∃ (zs : List (List UInt8)) (x : List UInt8), t = .string (mk x) ∧ Hid (wk s k = (zs, x)) ∧ zs.length ≤ 1000000 ∧ x.length ≤ 1000000 ∧ Hid (([] : List UInt8) ∉ zs) ∧ Hid (0 < k → k = s.size → x ≠ []) ∧ Hid (∀ i, i < k → kPri (bn s i) = true) ∧ Hid (wr.ownsRow w.heap.size 9 1 o zs.length (svals zs)) ∧ Below w.heap.size w wr) (fun _ _ v _ => s.size - (intOf v).toNat)
  case atStart => exact ⟨0, Nat.zero_le _, rfl, [], [], rfl, wk_zero s, by simp, by simp, by simp [Hid], fun h => absurd h (Nat.lt_irrefl _), fun i hi => absurd hi (Nat.not_lt_zero _), World.ownsRow_nil _ _ _ _, Below.refl _ _⟩
  case round =>
    obtain ⟨k, hk, rfl, zs, x, rfl, hwk, hzl, hxl, hne, hlast, hall, hrow, hb⟩ := hrel
    by_cases hlt : k < s.size
    · have hbk := bn_int s k hlt
      have hlk := bn_lt s k
      have hbyte := fun h => words_bad (bad_byte hlt h)
      have hempty := fun (h : bn s k = 32) (h2 : x = []) => words_bad (bad_empty hlt h (by rw [hwk.out]; exact h2))
      have hlst := fun (h : bn s k = 32) (h2 : k + 1 = s.size) => words_bad (bad_last hlt h h2)
      have hsp := fun (h : bn s k = 32) => wk_space hlt h
      have hot := fun (h : ¬ bn s k = 32) => wk_other hlt h
      rw [hwk.out] at hsp hot
      have hnl := wk_len s (k + 1) (by omega)
      have hex := one_byte hlt
      obtain ⟨c, hc⟩ : ∃ c, s.data.toList[k]'(by rw [size_list]; exact hlt) = c := ⟨_, rfl⟩
      rw [hc] at hex hot
      have hall2 := fun (hp : kPri (bn s k) = true) (i : Nat) (hi : i < k + 1) => (by
        rcases Nat.lt_succ_iff_lt_or_eq.1 hi with h | h
        · exact hall.out i h
        · rw [h]; exact hp : kPri (bn s i) = true)
      obtain ⟨n, hn⟩ : ∃ n, bn s k = n := ⟨_, rfl⟩
      rw [hn] at hbk hlk hbyte hempty hlst hsp hot hall2
      have HB := Lib.hid hbyte
      have HE := Lib.hid hempty
      have HL := Lib.hid hlst
      have HS := Lib.hid hsp
      have HO := Lib.hid hot
      have HA := Lib.hid hall2
      have HLEN := Lib.hid hnl
      clear hn hbyte hempty hlst hsp hot hall2 hc hnl
      by_cases c1 : n < 32
      · obtain ⟨g1, g2⟩ := HB.out (by simp [kPri]; omega)
        have G1 := Lib.hid g1
        have G2 := Lib.hid g2
        clear g1 g2
        go_wp2
        go_ret2
        rw [G1.out, G2.out]
        exact ⟨none, 0, 0, rfl, IsStrs.nil _, hb⟩
      by_cases c2 : 126 < n
      · obtain ⟨g1, g2⟩ := HB.out (by simp [kPri]; omega)
        have G1 := Lib.hid g1
        have G2 := Lib.hid g2
        clear g1 g2
        go_wp2
        go_ret2
        rw [G1.out, G2.out]
        exact ⟨none, 0, 0, rfl, IsStrs.nil _, hb⟩
      have c1' : 32 ≤ n := by omega
      have c2' : n ≤ 126 := by omega
      have HP := Lib.hid (HA.out (by simp [kPri]; omega))
      clear c1 c2 HB HA
      by_cases h32 : n = 32
      · subst h32
        have hS := HS.out rfl
        have HS2 := Lib.hid hS
        have HE2 := Lib.hid (HE.out rfl)
        have HL2 := Lib.hid (HL.out rfl)
        clear HS HE HL HO hS c1' c2'
        by_cases hx0 : x = []
        · obtain ⟨g1, g2⟩ := HE2.out hx0
          have G1 := Lib.hid g1
          have G2 := Lib.hid g2
          subst hx0
          have hmk0 : mk [] = ⟨#[]⟩ := rfl
          clear g1 g2
          go_wp2
          go_ret2
          rw [G1.out, G2.out]
          exact ⟨none, 0, 0, rfl, IsStrs.nil _, hb⟩
        have hxp : 0 < (mk x).size := by rw [mk_size]; cases x with
          | nil => exact absurd rfl hx0
          | cons _ _ => simp
        have hnx := ne_empty hxp
        have HX0 := Lib.hid hx0
        clear hx0 hxp
        by_cases hl : k + 1 = s.size
        · obtain ⟨g1, g2⟩ := HL2.out hl
          have G1 := Lib.hid g1
          have G2 := Lib.hid g2
          have el : (((k : Nat) : Int) == (s.size : Int) - 1) = true := by rw [beq_iff_eq]; omega
          clear g1 g2
          go_wp2
          go_ret2
          rw [G1.out, G2.out]
          exact ⟨none, 0, 0, rfl, IsStrs.nil _, hb⟩
        · have el : (((k : Nat) : Int) == (s.size : Int) - 1) = false := by rw [beq_eq_false_iff_ne]; omega
          have hne2 : Hid (([] : List UInt8) ∉ zs ++ [x]) := by
            show _ ∉ _
            rw [List.mem_append]
            rintro (h | h)
            · exact hne.out h
            · simp at h; exact HX0.out h
          have hzl2 : zs.length + 1 ≤ 1000000 := by
            have := HLEN.out
            rw [HS2.out] at this
            simp at this
            omega
          have HLL := Lib.hid hl
          clear hl
          have hlr := hb.size
          go_wp2_with (at_builtin; go_loud (refine wpList_append_own _ rfl _ _ 29 rfl w.heap.size 9 i0 (.string ByteArray.empty) 1 16 Tryd.underlying29 HI.out.1 HI.out.2.1 HI.out.2.2.1 HI.out.2.2.2 rfl (by decide) _ _ _ rfl (hrow.out.alloc _) ⟨wr.heap.size, 0, none⟩ 1 1 [.string (mk x)] rfl rfl (one_newS _ _ _) ?_ ?_ ?_ ?_ ?_); rotate_right; intro v' w3 hown hgrow _)
          · have hown' : w3.ownsRow w.heap.size 9 1 v' (zs ++ [x]).length (svals (zs ++ [x])) := by
              rw [← svals_snoc, List.length_append]
              exact hown
            exact ⟨⟨k + 1, by omega, by go_num, zs ++ [x], [], rfl, HS2.out, by simpa using hzl2, by simp, hne2, fun _ e => absurd e HLL.out, HP.out, hown', (hb.alloc hb.size _).grown hgrow (by simp; omega) (fun j hj => (hrow.out.lt j hj).1)⟩, by simp [intOf]; omega⟩
          · first | rfl | exact oneCell_str _
          · unfold maxLen; omega
          · omega
          · first | omega | (simp; omega)
      · have hO := HO.out h32
        have HO2 := Lib.hid hO
        have e32 : (((n : Nat) : Int) == 32) = false := by rw [beq_eq_false_iff_ne]; omega
        have hxl2 : x.length + 1 ≤ 1000000 := by
          have := HLEN.out
          rw [hO] at this
          simp at this
          omega
        have hsz := mk_size x
        have hsl := run_slice_string (P := Tryd.prog) wr 9 s .i64 .i64 ((k : Nat) : Int) (((k : Nat) : Int) + 1) Tryd.underlying9 (by omega) (by omega) (by omega)
        rw [show ((((k : Nat) : Int) + 1).toNat) = k + 1 by omega, show (((k : Nat) : Int).toNat) = k by omega, hex] at hsl
        have hap := join_mk x [c]
        have hlen2 : (mk x).size + (mk [c]).size ≤ 9223372036854775807 := by rw [hsz, mk_size]; simp; omega
        clear HS HE HL HO hO h32 hsz
        go_wp2
        go_roundw
        case rel => exact ⟨k + 1, by omega, by go_num, zs, x ++ [c], rfl, HO2.out, hzl, by simpa using hxl2, hne, fun _ _ e => by simp at e, HP.out, hrow, hb⟩
        case measure => simp [intOf]; omega
    · obtain rfl : k = s.size := by omega
      have hgood := good_words hall.out (by rw [hwk.out]; exact hne.out) (fun h => by rw [hwk.out]; exact hlast.out h rfl)
      have hspl := wk_all s
      rw [hwk.out] at hspl
      by_cases h0 : s.size = 0
      · obtain rfl := empty_of h0
        have hz : zs = [] ∧ x = [] := by
          have := hwk.out
          rw [show ByteArray.empty.size = 0 from rfl, wk_zero] at this
          exact ⟨(congrArg Prod.fst this).symm, (congrArg Prod.snd this).symm⟩
        obtain ⟨rfl, rfl⟩ := hz
        have hmk0 : mk [] = ⟨#[]⟩ := rfl
        clear hwk hspl hgood h0
        obtain ⟨aa, cc, rfl, hres⟩ := IsStrs.of_owns hrow.out
        have HRes := Lib.hid hres
        clear hrow hres
        go_wp2
        go_ret2
        exact ⟨aa, _, cc, rfl, HRes.out, hb⟩
      · obtain ⟨g1, g2⟩ := words_good hgood (ne_nil_of (k := 0) (by omega))
        have hspl2 : wordsV s.data.toList = zs ++ [x] := by rw [g1, hspl]
        have G1 := Lib.hid hspl2
        have G2 := Lib.hid g2
        have hx0 := hlast.out (by omega) rfl
        have hxp : 0 < (mk x).size := by rw [mk_size]; cases x with
          | nil => exact absurd rfl hx0
          | cons _ _ => simp
        have hnx := ne_empty hxp
        have hlr := hb.size
        clear hwk hspl hgood h0 g1 g2 hspl2 hx0 hxp
        go_wp2_with (at_builtin; go_loud (refine wpList_append_own _ rfl _ _ 29 rfl w.heap.size 9 i0 (.string ByteArray.empty) 1 16 Tryd.underlying29 HI.out.1 HI.out.2.1 HI.out.2.2.1 HI.out.2.2.2 rfl (by decide) _ _ _ rfl (hrow.out.alloc _) ⟨wr.heap.size, 0, none⟩ 1 1 [.string (mk x)] rfl rfl (one_newS _ _ _) ?_ ?_ ?_ ?_ ?_); rotate_right; intro v' w3 hown hgrow _)
        · have hown' : w3.ownsRow w.heap.size 9 1 v' (zs ++ [x]).length (svals (zs ++ [x])) := by
            rw [← svals_snoc, List.length_append]
            exact hown
          obtain ⟨aa, cc, rfl, hres⟩ := IsStrs.of_owns hown'
          have HRes := Lib.hid hres
          go_ret2
          rw [G1.out, G2.out]
          exact ⟨aa, _, cc, rfl, HRes.out, (hb.alloc hb.size _).grown hgrow (by simp; omega) (fun j hj => (hrow.out.lt j hj).1)⟩
        · first | rfl | exact oneCell_str _
        · unfold maxLen; omega
        · omega
        · first | omega | (simp; omega)
end Go.Proofs.YtlnmcegnnncepaaDoor
