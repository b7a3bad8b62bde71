/- Walks of package poset: checkNames, upward. -/
import Derived.Test.YtmhbblehgckelaaPq
import Derived.WalkKit
namespace Go.Proofs.Ytmhbblehgckelaa
open Go.RowKit Go.Maps

theorem inS_snoc (l : List Str) (x y : Str) : inS (l ++ [y]) x = (x == y || inS l x) := by
  rw [Bool.eq_iff_iff, inS_iff, List.mem_append, Bool.or_eq_true, inS_iff, beq_iff_eq, List.mem_singleton]
  exact Or.comm
theorem inS_nil (x : Str) : inS [] x = false := rfl
theorem ite_bool (x y : Str) (p : Bool) : (if x = y then Value.bool true else .bool p) = .bool (x == y || p) := by
  by_cases h : x = y
  · rw [if_pos h, h]; simp
  · rw [if_neg h]
    have : (x == y) = false := by simpa using h
    rw [this]; rfl

set_option maxRecDepth 100000 in
set_option maxHeartbeats 1600000 in
theorem checkNames_any (w : World) (a : Option Addr) (n cap : Nat) (D : List Dec) (h : IsDecs w a n cap D) (hn : n ≤ 256) :
    Calls Try.prog 25 #[.slice a n cap] w fun e w' => e = .returned (.int .i64 ((nmE (isNam kLow) [] D : Nat) : Int)) ∧ Below w.heap.size w w' := by
  have hm := h.maxLe
  have hc := h.capLe
  unfold maxLen at hm
  have HL := Lib.hid h.len
  have H := Lib.hid h
  clear h
  have hmm := fun x w => run_makeMapN Try.underlying56 x w
  go_enter Try.func25, Try.ntmps25
  go_wp2
  clear hmm
  go_loopw [11] (fun v wr => ∃ (k : Nat) (M : DataW Value), k ≤ n ∧ v = .int .i64 k ∧ Hid (wr.ownsMap Try.prog 9 raw w.heap.size k M) ∧ Hid (∀ x, mget M x (.bool false) = .bool (inS ((nms D).take k) x)) ∧ Hid (∀ i, i < k → isNam kLow (dc D i).name = true ∧ (dc D i).name ∉ (nms D).take i) ∧ Below w.heap.size w wr) (fun v _ => n - (intOf v).toNat)
  case atStart => exact ⟨0, .map [], Nat.zero_le _, rfl, World.ownsMap_made _ _ _ _, fun x => rfl, fun i hi => absurd hi (Nat.not_lt_zero _), (Below.refl _ _).alloc (Nat.le_refl _) _⟩
  case round =>
    obtain ⟨k, M, hk, rfl, hown, hM, hall, hb⟩ := hrel
    obtain ⟨wo, hwo⟩ : ∃ wo : World, wo = wr := ⟨_, rfl⟩
    subst hwo
    by_cases hlt : k < n
    · obtain ⟨b, off, rfl, hbl, hx⟩ := (H.out.below hb).at_ (by omega)
      obtain ⟨sa, sc', fa, fc, hd⟩ := hx k hlt
      have c0 := hd.c0
      have c1 := hd.c1
      have c2 := hd.c2
      have HNL := Lib.hid hd.nl
      have HAT := Lib.hid (nmE_at (nm := isNam kLow) hall.out (k := k) (by rw [HL.out]; exact hlt))
      have hnm : ∀ W, Calls Try.prog 40 #[.string (mk (dc D k).name)] W fun e w' => e = .returned (.bool (isNam kLow (dc D k).name)) ∧ Below W.heap.size W w' := fun W => by
        have := Name_any (mk (dc D k).name) W (by rw [mk_size]; exact HNL.out)
        rwa [mk_list] at this
      have HNM := Lib.hid hnm
      have HTK := Lib.hid (nms_succ (D := D) (k := k) (by rw [HL.out]; exact hlt))
      have HMX := Lib.hid (hM.out (dc D k).name)
      obtain ⟨x, hx'⟩ : ∃ x, (dc D k).name = x := ⟨_, rfl⟩
      rw [hx'] at c0 HNL HAT HNM HTK HMX
      have HX := Lib.hid hx'
      obtain ⟨sl, hsl⟩ : ∃ z, (dc D k).sup.length = z := ⟨_, rfl⟩
      rw [hsl] at c1
      obtain ⟨nf, hnf⟩ : ∃ z, (dc D k).nf = z := ⟨_, rfl⟩
      rw [hnf] at c2
      have hown1 := fun o w1 (hb1 : Below (wo.alloc o).heap.size (wo.alloc o) w1) => map_below (hown.out.alloc o) hb1
      have HOW := Lib.hid hown1
      clear hx hd hnm hx' hsl hnf hown1
      cases hq : isNam kLow x
      · have hr : Hid (nmE (isNam kLow) [] D = 1) := HAT.out.1 hq
        rw [hq] at HNM
        clear hq
        go_wp2_with (go_at_call 40; refine (HNM.out _).mono ?_; rintro e w1 ⟨rfl, hb1⟩)
        go_ret
        exact ⟨by rw [hr.out]; rfl, (hb.alloc hb.size _).trans (hb1.mono (by have := hb.size; simp; omega))⟩
      · rw [hq] at HNM
        have HQ := Lib.hid hq
        clear hq
        obtain ⟨p, hp⟩ : ∃ p, inS ((nms D).take k) x = p := ⟨_, rfl⟩
        rw [hp] at HMX
        cases p
        · have HNE := Lib.hid (inS_not.1 hp)
          have hall' : Hid (∀ i, i < k + 1 → isNam kLow (dc D i).name = true ∧ (dc D i).name ∉ (nms D).take i) := fun i hi => by
            rcases Nat.lt_succ_iff_lt_or_eq.1 hi with e | e
            · exact hall.out i e
            · rw [e, HX.out]; exact ⟨HQ.out, HNE.out⟩
          have hM' : Hid (∀ y, mget (mput M x (.bool true)) y (.bool false) = .bool (inS ((nms D).take (k + 1)) y)) := fun y => by
            rw [mget_put (owns_isMap hown.out), hM.out, HTK.out, inS_snoc, ite_bool]
          clear hp hall hM
          go_wp2_with (first
            | (go_at_call 40; refine (HNM.out _).mono ?_; rintro e w1 ⟨rfl, hb1⟩; obtain ⟨d0, f0⟩ := bcell hb1; have HO1 := Lib.hid (HOW.out _ _ hb1); have HB1 := Lib.hid ((hb.alloc hb.size _).trans (hb1.mono (by have := hb.size; simp; omega))))
            | (at_lookup; refine wpList_lookup_raw rfl _ _ 56 rfl 4 Try.underlying56 (zeroB _) w.heap.size k M rfl HO1.out x rfl HNL.out ?_; rw [HMX.out])
            | (at_mapUpdate; refine wpList_update_raw rfl _ _ _ 56 rfl 4 Try.underlying56 w.heap.size k M rfl HO1.out (by omega) x (.bool true) rfl rfl HNL.out ?_; intro w2 hown2 hgrow2; have HO2 := Lib.hid hown2; have HB2 := Lib.hid (HB1.out.grown hgrow2 HB1.out.size (fun j e => by cases e; exact Nat.le_refl _)); clear hown2 hgrow2))
          go_roundw
          case rel => exact ⟨k + 1, mput M x (.bool true), by omega, by go_num, HO2.out, hM', hall', HB2.out⟩
          case measure => simp [intOf]; omega
        · have hr : Hid (nmE (isNam kLow) [] D = 4) := HAT.out.2 HQ.out (inS_iff.1 hp)
          clear hp hall hM
          go_wp2_with (first
            | (go_at_call 40; refine (HNM.out _).mono ?_; rintro e w1 ⟨rfl, hb1⟩; obtain ⟨d0, f0⟩ := bcell hb1; have HO1 := Lib.hid (HOW.out _ _ hb1); have HB1 := Lib.hid ((hb.alloc hb.size _).trans (hb1.mono (by have := hb.size; simp; omega))))
            | (at_lookup; refine wpList_lookup_raw rfl _ _ 56 rfl 4 Try.underlying56 (zeroB _) w.heap.size k M rfl HO1.out x rfl HNL.out ?_; rw [HMX.out]))
          go_ret
          exact ⟨by rw [hr.out]; rfl, HB1.out⟩
    · obtain rfl : n = k := by omega
      have hr : Hid (nmE (isNam kLow) [] D = 0) := nmE_end (fun i hi => hall.out i (by rw [HL.out] at hi; exact hi))
      clear hall hM
      go_wp2
      go_ret
      exact ⟨by rw [hr.out]; rfl, hb⟩
end Go.Proofs.Ytmhbblehgckelaa
