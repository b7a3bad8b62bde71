/- Walks of package poset: checkLengths, checkTop. -/
import Derived.Test.YtmhbblehgckelaaPd
import Derived.Outline
namespace Go.Proofs.Ytmhbblehgckelaa
open Go.RowKit

theorem szE_long {D : List Dec} (h : 256 < D.length) : szE D = 7 := by unfold szE; rw [if_pos h]
theorem szE_bad {D : List Dec} {i : Nat} (h : ¬ 256 < D.length) (hi : i < D.length) (hb : 256 < (dc D i).sup.length ∨ 256 < (dc D i).nf) : szE D = 7 := by
  unfold szE
  rw [if_neg h, if_pos]
  rw [List.any_eq_true]
  exact ⟨dc D i, dc_mem hi, by simpa using hb⟩
theorem szE_fine {D : List Dec} (h : ¬ 256 < D.length) (hb : ∀ i, i < D.length → ¬ 256 < (dc D i).sup.length ∧ ¬ 256 < (dc D i).nf) : szE D = 0 := by
  unfold szE
  rw [if_neg h, if_neg]
  rw [List.any_eq_true]
  rintro ⟨d, hd, he⟩
  obtain ⟨i, hi, e⟩ := List.getElem_of_mem hd
  have h2 := hb i hi
  have : dc D i = d := by
    have := dc_get hi
    rw [List.getElem?_eq_getElem hi, e] at this
    exact (Option.some.inj this).symm
  rw [this] at h2
  simp at he
  omega

set_option maxRecDepth 100000 in
theorem checkLengths_any (w : World) (a : Option Addr) (n cap : Nat) (D : List Dec) (h : IsDecs w a n cap D) :
    Calls Try.prog 24 #[.slice a n cap] w fun e w' => e = .returned (.int .i64 ((szE D : Nat) : Int)) ∧ Below w.heap.size w w' := by
  have hm := h.maxLe
  have hc := h.capLe
  have hl := h.len
  unfold maxLen at hm
  by_cases hbig : 256 < n
  · have hr : Hid (szE D = 7) := szE_long (by omega)
    clear h hl
    go_enter Try.func24, Try.ntmps24
    go_wp2
    go_ret
    exact ⟨by rw [hr.out]; rfl, Below.refl _ _⟩
  have H := Lib.hid h
  have HL := Lib.hid hl
  clear h hl
  go_enter Try.func24, Try.ntmps24
  go_wp2
  go_loopw [10] (fun v wr => ∃ k : Nat, k ≤ n ∧ v = .int .i64 k ∧ Hid (∀ i, i < k → ¬ 256 < (dc D i).sup.length ∧ ¬ 256 < (dc D i).nf) ∧ Below w.heap.size w wr) (fun v _ => n - (intOf v).toNat)
  case atStart => exact ⟨0, Nat.zero_le _, rfl, fun i hi => absurd hi (Nat.not_lt_zero _), Below.refl _ _⟩
  case round =>
    obtain ⟨k, hk, rfl, hall, hb⟩ := hrel
    by_cases hlt : k < n
    · obtain ⟨b, off, rfl, hbl, hx⟩ := H.out.at_ (by omega)
      obtain ⟨sa, sc, fa, fc, hd⟩ := hx k hlt
      have hd2 := hd.below hbl hb
      have c0 := hd2.c0
      have c1 := hd2.c1
      have c2 := hd2.c2
      have hs1 := hd2.ss.capLe
      have hs2 := hd2.ss.maxLe
      have hs3 := hd2.fl
      have hs4 := hd2.fm
      unfold maxLen at hs2 hs4
      have hbad := fun g => szE_bad (D := D) (i := k) (by rw [HL.out]; omega) (by rw [HL.out]; exact hlt) g
      have HBAD := Lib.hid hbad
      obtain ⟨sl, hsl⟩ : ∃ m, (dc D k).sup.length = m := ⟨_, rfl⟩
      obtain ⟨nf, hnf⟩ : ∃ m, (dc D k).nf = m := ⟨_, rfl⟩
      rw [hsl] at c1 hs1
      rw [hnf] at c2 hs3
      have HSL := Lib.hid hsl
      have HNF := Lib.hid hnf
      clear hbad hd hd2 hx hsl hnf
      by_cases g1 : 256 < sl
      · go_wp2
        go_ret
        exact ⟨by rw [HBAD.out (.inl (by rw [HSL.out]; exact g1))]; rfl, hb.alloc hb.size _⟩
      · by_cases g2 : 256 < nf
        · go_wp2
          go_ret
          exact ⟨by rw [HBAD.out (.inr (by rw [HNF.out]; exact g2))]; rfl, hb.alloc hb.size _⟩
        · have hall' : Hid (∀ i, i < k + 1 → ¬ 256 < (dc D i).sup.length ∧ ¬ 256 < (dc D i).nf) := fun i hi => by
            rcases Nat.lt_succ_iff_lt_or_eq.1 hi with e | e
            · exact hall.out i e
            · rw [e, HSL.out, HNF.out]; exact ⟨g1, g2⟩
          clear hall
          go_wp2
          go_roundw
          case rel => exact ⟨k + 1, by omega, by go_num, hall', hb.alloc hb.size _⟩
          case measure => simp [intOf]; omega
    · obtain rfl : n = k := by omega
      have hr : Hid (szE D = 0) := szE_fine (by rw [HL.out]; exact hbig) (fun i hi => hall.out i (by rw [HL.out] at hi; exact hi))
      clear hall
      go_wp2
      go_ret
      exact ⟨by rw [hr.out]; rfl, hb⟩
end Go.Proofs.Ytmhbblehgckelaa
