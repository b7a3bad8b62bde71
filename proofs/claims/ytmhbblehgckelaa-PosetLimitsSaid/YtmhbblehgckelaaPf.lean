/- Walks of the reference of package poset: Among, SameStrings, find, Light, sizes, names. -/
import Derived.Test.YtmhbblehgckelaaPe
namespace Go.Proofs.Ytmhbblehgckelaa
open Go.RowKit

theorem mk_toList (x : Str) : (mk x).toList = x := by rw [Lib.toList_data, mk_list]
theorem mk_eq (x y : Str) : ((mk x).toList == (mk y).toList) = (x == y) := by rw [mk_toList, mk_toList]
theorem mk_ne {x y : Str} {b : Bool} (h : (x == y) = b) : (!((mk x).toList == (mk y).toList)) = !b := by rw [mk_eq, h]
/-- Is this string in the list? -/
def inS (zs : List Str) (s : Str) : Bool := zs.contains s
theorem inS_iff {zs : List Str} {s : Str} : inS zs s = true ↔ s ∈ zs := by unfold inS; simp
theorem inS_not {zs : List Str} {s : Str} : inS zs s = false ↔ s ∉ zs := by rw [← inS_iff, Bool.eq_false_iff]
theorem contains_at {zs : List Str} {s : Str} {k : Nat} (hk : k < zs.length) (h : (st zs k == s) = true) : inS zs s = true := by
  have e : st zs k = s := by simpa using h
  have := st_mem hk
  rw [e] at this
  exact inS_iff.2 this
theorem contains_not {zs : List Str} {s : Str} (h : ∀ i, i < zs.length → (st zs i == s) = false) : inS zs s = false := by
  unfold inS
  rw [Bool.eq_false_iff]
  intro hc
  have hm : s ∈ zs := by simpa using hc
  obtain ⟨i, hi, e⟩ := List.getElem_of_mem hm
  have h2 := h i hi
  have := st_get hi
  rw [List.getElem?_eq_getElem hi, e] at this
  rw [← Option.some.inj this] at h2
  simp at h2

set_option maxRecDepth 100000 in
theorem Among_any (w : World) (a : Option Addr) (n cap : Nat) (zs : List Str) (s : Str) (h : IsStrs w a n cap zs) :
    Calls Try.prog 11 #[.slice a n cap, .string (mk s)] w fun e w' => e = .returned (.bool (inS zs s)) ∧ w = w' := by
  have hm := h.maxLe
  have hc := h.capLe
  unfold maxLen at hm
  have HL := Lib.hid h.len
  have H := Lib.hid h
  clear h
  go_enter Try.func11, Try.ntmps11
  go_wp2
  go_loop [5] (fun v => ∃ k : Nat, k ≤ n ∧ v = .int .i64 k ∧ Hid (∀ i, i < k → (st zs i == s) = false)) (fun v => n - (intOf v).toNat)
  case atStart => exact ⟨0, Nat.zero_le _, rfl, fun i hi => absurd hi (Nat.not_lt_zero _)⟩
  case round =>
    obtain ⟨k, hk, rfl, hall⟩ := hrel
    by_cases hlt : k < n
    · obtain ⟨b, off, rfl, hbl, hx⟩ := H.out.at_ (by omega)
      have c0 := hx k hlt
      have he := mk_eq (st zs k) s
      have hyes := Lib.hid (fun g => contains_at (zs := zs) (s := s) (k := k) (by rw [HL.out]; exact hlt) g)
      obtain ⟨x, hx'⟩ : ∃ x, st zs k = x := ⟨_, rfl⟩
      rw [hx'] at c0 he
      have HX := Lib.hid hx'
      clear hx hx'
      cases hq : (x == s)
      · rw [hq] at he
        have hall' : Hid (∀ i, i < k + 1 → (st zs i == s) = false) := fun i hi => by
          rcases Nat.lt_succ_iff_lt_or_eq.1 hi with e | e
          · exact hall.out i e
          · rw [e, HX.out]; exact hq
        clear hq hall
        go_wp2
        go_round
        case rel => exact ⟨k + 1, by omega, by go_num, hall'⟩
        case measure => simp [intOf]; omega
      · rw [hq] at he
        have hr : Hid (inS zs s = true) := hyes.out (by rw [HX.out]; exact hq)
        clear hq hall
        go_wp2
        go_ret
        exact ⟨by rw [hr.out]; rfl, rfl⟩
    · obtain rfl : n = k := by omega
      have hr : Hid (inS zs s = false) := contains_not (fun i hi => hall.out i (by rw [HL.out] at hi; exact hi))
      clear hall
      go_wp2
      go_ret
      exact ⟨by rw [hr.out]; rfl, rfl⟩

/-- Are the lists the same? -/
def sameS (xs ys : List Str) : Bool := decide (xs = ys)
theorem strs_eq {xs ys : List Str} (hl : xs.length = ys.length) (h : ∀ i, i < xs.length → (st xs i == st ys i) = true) : xs = ys := by
  refine List.ext_getElem? fun i => ?_
  by_cases hi : i < xs.length
  · rw [st_get hi, st_get (by omega)]
    have := h i hi
    rw [beq_iff_eq] at this
    rw [this]
  · rw [List.getElem?_eq_none_iff.2 (by omega), List.getElem?_eq_none_iff.2 (by omega)]

set_option maxRecDepth 100000 in
theorem SameStrings_any (w : World) (a1 a2 : Option Addr) (n1 n2 cap1 cap2 : Nat) (xs ys : List Str) (h1 : IsStrs w a1 n1 cap1 xs) (h2 : IsStrs w a2 n2 cap2 ys) :
    Calls Try.prog 13 #[.slice a1 n1 cap1, .slice a2 n2 cap2] w fun e w' => e = .returned (.bool (sameS xs ys)) ∧ Below w.heap.size w w' := by
  have hm1 := h1.maxLe
  have hm2 := h2.maxLe
  have hc1 := h1.capLe
  have hc2 := h2.capLe
  unfold maxLen at hm1 hm2
  have L1 := Lib.hid h1.len
  have L2 := Lib.hid h2.len
  have H1 := Lib.hid h1
  have H2 := Lib.hid h2
  clear h1 h2
  by_cases hn : n1 = n2
  case neg =>
    have hr : Hid (sameS xs ys = false) := by
      refine decide_eq_false fun e => hn ?_
      rw [← L1.out, ← L2.out, e]
    have hn2 : ¬ n2 = n1 := fun e => hn e.symm
    go_enter Try.func13, Try.ntmps13
    go_wp2
    go_ret
    exact ⟨by rw [hr.out]; rfl, Below.refl _ _⟩
  subst hn
  go_enter Try.func13, Try.ntmps13
  go_wp2
  go_loopw [5] (fun v wr => ∃ k : Nat, k ≤ n1 ∧ v = .int .i64 k ∧ Hid (∀ i, i < k → (st xs i == st ys i) = true) ∧ Below w.heap.size w wr) (fun v _ => n1 - (intOf v).toNat)
  case atStart => exact ⟨0, Nat.zero_le _, rfl, fun i hi => absurd hi (Nat.not_lt_zero _), Below.refl _ _⟩
  case round =>
    obtain ⟨k, hk, rfl, hall, hb⟩ := hrel
    by_cases hlt : k < n1
    · obtain ⟨b1, o1, rfl, hl1, hx1⟩ := H1.out.at_ (by omega)
      obtain ⟨b2, o2, rfl, hl2, hx2⟩ := H2.out.at_ (by omega)
      have c1 := (hb.cell (p := ⟨b1, o1 + k, none⟩) hl1).trans (hx1 k (by omega))
      have c2 := (hb.cell (p := ⟨b2, o2 + k, none⟩) hl2).trans (hx2 k (by omega))
      obtain ⟨x, hx⟩ : ∃ x, st xs k = x := ⟨_, rfl⟩
      obtain ⟨y, hy⟩ : ∃ y, st ys k = y := ⟨_, rfl⟩
      rw [hx] at c1
      rw [hy] at c2
      have HX := Lib.hid hx
      have HY := Lib.hid hy
      clear hx1 hx2 hx hy
      cases hq : (x == y)
      · have he := mk_ne hq
        rw [Bool.not_false] at he
        have hr : Hid (sameS xs ys = false) := by
          refine decide_eq_false fun e => ?_
          rw [← HX.out, ← HY.out, e] at hq
          simp at hq
        clear hq hall
        go_wp2
        go_quiet (fail)
        go_wp2
        go_ret
        exact ⟨by rw [hr.out]; rfl, by first | exact hb | exact hb.drew | exact below_drewN2 hb _⟩
      · have he := mk_ne hq
        rw [Bool.not_true] at he
        have hall' : Hid (∀ i, i < k + 1 → (st xs i == st ys i) = true) := fun i hi => by
          rcases Nat.lt_succ_iff_lt_or_eq.1 hi with e | e
          · exact hall.out i e
          · rw [e, HX.out, HY.out]; exact hq
        clear hq hall
        go_wp2
        go_quiet (fail)
        go_wp2
        go_roundw
        case rel => exact ⟨k + 1, by omega, by go_num, hall', by first | exact hb | exact hb.drew | exact below_drewN2 hb _⟩
        case measure => simp [intOf]; omega
    · obtain rfl : n1 = k := by omega
      have hr : Hid (sameS xs ys = true) := decide_eq_true (strs_eq (by rw [L1.out, L2.out]) (fun i hi => hall.out i (by rw [L1.out] at hi; exact hi)))
      clear hall
      go_wp2
      go_ret
      exact ⟨by rw [hr.out]; rfl, hb⟩

/-- The index of the first declaration with a name, or -1. -/
def fi (D : List Dec) (s : Str) : Int := match D.findIdx? (fun d => d.name == s) with | some i => (i : Int) | none => -1
theorem fi_at {D : List Dec} {s : Str} {k : Nat} (hk : k < D.length) (h : ((dc D k).name == s) = true) (hb : ∀ i, i < k → ((dc D i).name == s) = false) : fi D s = (k : Int) := by
  have : D.findIdx? (fun d => d.name == s) = some k := by
    rw [List.findIdx?_eq_some_iff_getElem]
    have hg : ∀ j (hj : j < D.length), D[j] = dc D j := fun j hj => by
      have := dc_get hj
      rw [List.getElem?_eq_getElem hj] at this
      exact Option.some.inj this
    exact ⟨hk, by rw [hg k hk]; exact h, fun j hj => by rw [hg j (by omega)]; have := hb j hj; simp at this ⊢; exact this⟩
  unfold fi; rw [this]
theorem fi_not {D : List Dec} {s : Str} (hb : ∀ i, i < D.length → ((dc D i).name == s) = false) : fi D s = -1 := by
  have : D.findIdx? (fun d => d.name == s) = none := by
    rw [List.findIdx?_eq_none_iff]
    intro d hd
    obtain ⟨i, hi, e⟩ := List.getElem_of_mem hd
    have := dc_get hi
    rw [List.getElem?_eq_getElem hi, e] at this
    rw [Option.some.inj this]
    exact hb i hi
  unfold fi; rw [this]

set_option maxRecDepth 100000 in
theorem find_any (w : World) (a : Option Addr) (n cap : Nat) (D : List Dec) (s : Str) (h : IsDecs w a n cap D) :
    Calls Try.prog 43 #[.slice a n cap, .string (mk s)] w fun e w' => e = .returned (.int .i64 (fi D s)) ∧ w = w' := by
  have hm := h.maxLe
  have hc := h.capLe
  unfold maxLen at hm
  have HL := Lib.hid h.len
  have H := Lib.hid h
  clear h
  go_enter Try.func43, Try.ntmps43
  go_wp2
  go_loop [5] (fun v => ∃ k : Nat, k ≤ n ∧ v = .int .i64 k ∧ Hid (∀ i, i < k → ((dc D i).name == s) = false)) (fun v => n - (intOf v).toNat)
  case atStart => exact ⟨0, Nat.zero_le _, rfl, fun i hi => absurd hi (Nat.not_lt_zero _)⟩
  case round =>
    obtain ⟨k, hk, rfl, hall⟩ := hrel
    by_cases hlt : k < n
    · obtain ⟨b, off, rfl, hbl, hx⟩ := H.out.at_ (by omega)
      obtain ⟨sa, sc, fa, fc, hd⟩ := hx k hlt
      have c0 := hd.c0
      have he := mk_eq (dc D k).name s
      have hyes := Lib.hid (fun g => fi_at (D := D) (s := s) (k := k) (by rw [HL.out]; exact hlt) g hall.out)
      obtain ⟨x, hx'⟩ : ∃ x, (dc D k).name = x := ⟨_, rfl⟩
      rw [hx'] at c0 he
      have HX := Lib.hid hx'
      clear hx hx' hd
      cases hq : (x == s)
      · rw [hq] at he
        have hall' : Hid (∀ i, i < k + 1 → ((dc D i).name == s) = false) := fun i hi => by
          rcases Nat.lt_succ_iff_lt_or_eq.1 hi with e | e
          · exact hall.out i e
          · rw [e, HX.out]; exact hq
        clear hq hall
        go_wp2
        go_round
        case rel => exact ⟨k + 1, by omega, by go_num, hall'⟩
        case measure => simp [intOf]; omega
      · rw [hq] at he
        have hr : Hid (fi D s = (k : Int)) := hyes.out (by rw [HX.out]; exact hq)
        clear hq hall
        go_wp2
        go_ret
        exact ⟨by rw [hr.out]; rfl, rfl⟩
    · obtain rfl : n = k := by omega
      have hr : Hid (fi D s = -1) := fi_not (fun i hi => hall.out i (by rw [HL.out] at hi; exact hi))
      clear hall
      go_wp2
      go_ret
      exact ⟨by rw [hr.out]; rfl, rfl⟩
end Go.Proofs.Ytmhbblehgckelaa
