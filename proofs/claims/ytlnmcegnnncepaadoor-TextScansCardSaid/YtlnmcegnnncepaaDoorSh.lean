/- Walk of the reference of package text: token. -/
import Derived.Test.YtlnmcegnnncepaaDoorSg
namespace Go.Proofs.YtlnmcegnnncepaaDoor
open Go.RowKit

theorem nam_no {K : Nat → Bool} {s : ByteArray} (hp : 0 < s.size) (h : K (bn s 0) = false) : nam K s.data.toList = 0 := by
  obtain ⟨b, hb, he⟩ := bn_byte hp
  unfold nam nameLen
  cases hl : s.data.toList with
  | nil => rfl
  | cons c r =>
    rw [hl] at hb
    cases hb
    show (if by8 K b then _ else 0) = 0
    unfold by8
    rw [he, h]; rfl
theorem nam_yes {K : Nat → Bool} {s : ByteArray} (hp : 0 < s.size) (h : K (bn s 0) = true) : nam K s.data.toList = pre (by8 (kPart K)) s.data.toList ∧ 0 < nam K s.data.toList := by
  obtain ⟨b, hb, he⟩ := bn_byte hp
  have hpos : 0 < pre (by8 (kPart K)) s.data.toList := by
    cases hl : s.data.toList with
    | nil => rw [hl] at hb; cases hb
    | cons c r =>
      rw [hl] at hb
      cases hb
      rw [pre_cons]
      have : by8 (kPart K) b = true := by unfold by8; rw [he]; simp [kPart, h]
      rw [this, if_pos rfl]; omega
  have e : nam K s.data.toList = pre (by8 (kPart K)) s.data.toList := by
    unfold nam nameLen
    cases hl : s.data.toList with
    | nil => rw [hl] at hb; cases hb
    | cons c r =>
      rw [hl] at hb
      cases hb
      show (if by8 K b then _ else 0) = _
      unfold by8
      rw [he, h]; rfl
  exact ⟨e, by rw [e]; exact hpos⟩
/-- What token returns: if there is no error, the token and its length. -/
def TokRet (l : List UInt8) (e : Ending) : Prop :=
  ∃ (k : Int) (t : ByteArray) (z : Int) (n : Nat), e = .returned (.tuple #[.agg #[.int .i64 k, .string t, .int .i64 z], .int .i64 ((n : Nat) : Int), .int .i64 (fst3 l).2.2]) ∧
    ((fst3 l).2.2 = 0 → n = (fst3 l).2.1 ∧ k = (((fst3 l).1 : Nat) : Int) ∧ t = mk (tokText (fst3 l).1 (fst3 l).2.1 l) ∧ z = 0)
theorem tok_post (l : List UInt8) (w w1 : World) (tmps : Array Value) (g : Nat) (k : Int) (tt : ByteArray) (z : Int) (t : TypeId) (fr : Nat × Nat) (n : Nat) (E : Int)
    (h2 : tmps.getD 2 undef = .pointer (some ⟨g, 0, none⟩)) (h3 : tmps.getD 3 undef = .int .i64 ((n : Nat) : Int)) (h4 : tmps.getD 4 undef = .int .i64 E)
    (hg : w1.heap[g]? = some (.cells #[.int .i64 k, .string tt, .int .i64 z] t fr)) (hE : E = (fst3 l).2.2)
    (hok : E = 0 → n = (fst3 l).2.1 ∧ k = (((fst3 l).1 : Nat) : Int) ∧ tt = mk (tokText (fst3 l).1 (fst3 l).2.1 l) ∧ z = 0)
    (hb : Below w.heap.size w w1) : bodyPost Tryd.prog Tryd.f71 (fun e w' => TokRet l e ∧ Below w.heap.size w w') .ret { tmps := tmps, defers := [] } w1 := by
  have hr : (results Tryd.f71 tmps).run Tryd.prog w1 = .ok (.tuple #[.agg #[.int .i64 k, .string tt, .int .i64 z], .int .i64 ((n : Nat) : Int), .int .i64 E]) w1 := by
    have hrs : Tryd.f71.results = #[.cell 2 39, .tmp 3, .tmp 4] := by kernel_rfl
    have hl := run_loadVar_row (P := Tryd.prog) w1 g t 39 _ fr _ hg Tryd.underlying39 rfl (by show _ = some 3; kernel_rfl)
    have h2' : tmps[2]?.getD undef = .pointer (some ⟨g, 0, none⟩) := by simpa using h2
    have h3' : tmps[3]?.getD undef = .int .i64 ((n : Nat) : Int) := by simpa using h3
    have h4' : tmps[4]?.getD undef = .int .i64 E := by simpa using h4
    simp [results, hrs, h2', h3', h4', asAddr, hl, Sem.run_bind, Result.andThen]
  refine bodyPost_ret hr rfl ⟨⟨k, tt, z, n, ?_, fun h => hok (hE.trans h)⟩, hb⟩
  rw [hE]

set_option maxRecDepth 100000 in
set_option maxHeartbeats 3200000 in
theorem rtoken_name (s : ByteArray) (w : World) (hs : s.size ≤ 1000000) (hp : 0 < s.size) (h1 : kLow (bn s 0) = true) :
    Calls Tryd.prog 71 #[.string s] w fun e w' => TokRet s.data.toList e ∧ Below w.heap.size w w' := by
  have hb0 := bn_int s 0 hp
  have hl0 := bn_lt s 0
  obtain ⟨e1, e2⟩ := nam_yes hp h1
  have hup : kUp (bn s 0) = false := by
    simp [kLow] at h1; simp [kUp]; omega
  obtain ⟨a, ha⟩ : ∃ a, nam kLow s.data.toList = a := ⟨_, rfl⟩
  have hal := nam_le kLow s
  have hf : fst3 s.data.toList = lim 1 a := by unfold fst3; rw [if_pos e2, ha]
  rw [ha] at e1 e2 hal
  have hrun := Lib.hid (show ∀ w, Calls Tryd.prog 97 #[.string s, .bool false] w fun e w' => e = .returned (.int .i64 ((a : Nat) : Int)) ∧ w = w' from fun w => e1 ▸ rrun_any s false w hs)
  obtain ⟨x, hx⟩ : ∃ x, bn s 0 = x := ⟨_, rfl⟩
  rw [hx] at hb0 hl0 h1 hup
  have HL := Lib.hid h1
  have HU := Lib.hid hup
  clear hx h1 hup e1 ha
  by_cases h32 : 32 < a
  · have hff : Hid (fst3 s.data.toList = (0, 0, 7)) := by show _ = _; rw [hf, lim, if_pos h32]
    clear hf
    go_enter Tryd.func71, Tryd.ntmps71
    go_wp2_with (first
      | (go_at_call 96; refine (tells8_val rlower_tells _ _ _ hl0 HL.out).mono ?_; rintro e w' ⟨rfl, rfl⟩)
      | (go_at_call 60; refine (tells8_val rupper_tells _ _ _ hl0 HU.out).mono ?_; rintro e w' ⟨rfl, rfl⟩)
      | (go_at_call 97; refine (hrun.out _).mono ?_; rintro e w' ⟨rfl, rfl⟩))
    refine tok_post _ _ _ _ w.heap.size _ _ _ _ _ 0 7 rfl rfl rfl (heap_alloc_new _ _) (by rw [hff.out]) (fun h => absurd h (by decide)) ((Below.refl _ _).alloc (Nat.le_refl _) _)
  · have hff : Hid (fst3 s.data.toList = (1, a, 0)) := by show _ = _; rw [hf, lim, if_neg h32]
    have hex : s.extract 0 a = mk (s.data.toList.take a) := by rw [← mk_self (s.extract 0 a), take_extract]
    have ha32 : a ≤ 32 := by omega
    clear hf h32
    go_enter Tryd.func71, Tryd.ntmps71
    go_wp2_with (first
      | (go_at_call 96; refine (tells8_val rlower_tells _ _ _ hl0 HL.out).mono ?_; rintro e w' ⟨rfl, rfl⟩)
      | (go_at_call 60; refine (tells8_val rupper_tells _ _ _ hl0 HU.out).mono ?_; rintro e w' ⟨rfl, rfl⟩)
      | (go_at_call 97; refine (hrun.out _).mono ?_; rintro e w' ⟨rfl, rfl⟩))
    refine tok_post _ _ _ _ w.heap.size _ _ _ _ _ a 0 rfl rfl rfl (heap_alloc_new _ _) (by rw [hff.out]) (fun h => by rw [hff.out]; exact ⟨rfl, rfl, rfl, rfl⟩) ((Below.refl _ _).alloc (Nat.le_refl _) _)
set_option maxRecDepth 100000 in
set_option maxHeartbeats 3200000 in
theorem rtoken_feat (s : ByteArray) (w : World) (hs : s.size ≤ 1000000) (hp : 0 < s.size) (h1 : kUp (bn s 0) = true) :
    Calls Tryd.prog 71 #[.string s] w fun e w' => TokRet s.data.toList e ∧ Below w.heap.size w w' := by
  have hb0 := bn_int s 0 hp
  have hl0 := bn_lt s 0
  obtain ⟨e1, e2⟩ := nam_yes hp h1
  have hlo : kLow (bn s 0) = false := by
    simp [kUp] at h1; simp [kLow]; omega
  have e0 := nam_no hp hlo
  obtain ⟨a, ha⟩ : ∃ a, nam kUp s.data.toList = a := ⟨_, rfl⟩
  have hal := nam_le kUp s
  have hf : fst3 s.data.toList = lim 2 a := by unfold fst3; rw [e0, if_neg (Nat.lt_irrefl 0), if_pos e2, ha]
  rw [ha] at e1 e2 hal
  have hrun := Lib.hid (show ∀ w, Calls Tryd.prog 97 #[.string s, .bool true] w fun e w' => e = .returned (.int .i64 ((a : Nat) : Int)) ∧ w = w' from fun w => e1 ▸ rrun_any s true w hs)
  obtain ⟨x, hx⟩ : ∃ x, bn s 0 = x := ⟨_, rfl⟩
  rw [hx] at hb0 hl0 h1 hlo
  have HL := Lib.hid hlo
  have HU := Lib.hid h1
  clear hx h1 hlo e1 ha e0
  by_cases h32 : 32 < a
  · have hff : Hid (fst3 s.data.toList = (0, 0, 7)) := by show _ = _; rw [hf, lim, if_pos h32]
    clear hf
    go_enter Tryd.func71, Tryd.ntmps71
    go_wp2_with (first
      | (go_at_call 96; refine (tells8_val rlower_tells _ _ _ hl0 HL.out).mono ?_; rintro e w' ⟨rfl, rfl⟩)
      | (go_at_call 60; refine (tells8_val rupper_tells _ _ _ hl0 HU.out).mono ?_; rintro e w' ⟨rfl, rfl⟩)
      | (go_at_call 97; refine (hrun.out _).mono ?_; rintro e w' ⟨rfl, rfl⟩))
    refine tok_post _ _ _ _ w.heap.size _ _ _ _ _ 0 7 rfl rfl rfl (heap_alloc_new _ _) (by rw [hff.out]) (fun h => absurd h (by decide)) ((Below.refl _ _).alloc (Nat.le_refl _) _)
  · have hff : Hid (fst3 s.data.toList = (2, a, 0)) := by show _ = _; rw [hf, lim, if_neg h32]
    have hex : s.extract 0 a = mk (s.data.toList.take a) := by rw [← mk_self (s.extract 0 a), take_extract]
    have ha32 : a ≤ 32 := by omega
    clear hf h32
    go_enter Tryd.func71, Tryd.ntmps71
    go_wp2_with (first
      | (go_at_call 96; refine (tells8_val rlower_tells _ _ _ hl0 HL.out).mono ?_; rintro e w' ⟨rfl, rfl⟩)
      | (go_at_call 60; refine (tells8_val rupper_tells _ _ _ hl0 HU.out).mono ?_; rintro e w' ⟨rfl, rfl⟩)
      | (go_at_call 97; refine (hrun.out _).mono ?_; rintro e w' ⟨rfl, rfl⟩))
    refine tok_post _ _ _ _ w.heap.size _ _ _ _ _ a 0 rfl rfl rfl (heap_alloc_new _ _) (by rw [hff.out]) (fun h => by rw [hff.out]; exact ⟨rfl, rfl, rfl, rfl⟩) ((Below.refl _ _).alloc (Nat.le_refl _) _)

/-- No letter at the head. -/
structure NoLet (s : ByteArray) : Prop where
  lo : kLow (bn s 0) = false
  up : kUp (bn s 0) = false
theorem fst3_rest {s : ByteArray} (hp : 0 < s.size) (h : NoLet s) : fst3 s.data.toList = if 0 < numLen s.data.toList then (4, numLen s.data.toList, numE (s.data.toList.take (numLen s.data.toList)))
    else if s.data.toList.headD 0 = 34 then quo s.data.toList
    else if 0 < symLen s.data.toList then (5, symLen s.data.toList, 0)
    else (0, 0, 8) := by
  unfold fst3
  rw [nam_no hp h.lo, nam_no hp h.up, if_neg (Nat.lt_irrefl 0), if_neg (Nat.lt_irrefl 0)]

set_option maxRecDepth 100000 in
set_option maxHeartbeats 3200000 in
theorem rtoken_num (s : ByteArray) (w : World) (hs : s.size ≤ 1000000) (hp : 0 < s.size) (hN : NoLet s) (hc : 0 < numLen s.data.toList) :
    Calls Tryd.prog 71 #[.string s] w fun e w' => TokRet s.data.toList e ∧ Below w.heap.size w w' := by
  have hb0 := bn_int s 0 hp
  have hl0 := bn_lt s 0
  have hf := fst3_rest hp hN
  rw [if_pos hc] at hf
  obtain ⟨h1, h2⟩ := hN
  obtain ⟨a, ha⟩ : ∃ a, numLen s.data.toList = a := ⟨_, rfl⟩
  have hal := numLen_le s
  rw [ha] at hf hal hc
  have hfig := Lib.hid (show ∀ w, Calls Tryd.prog 98 #[.string s] w fun e w' => e = .returned (.int .i64 ((a : Nat) : Int)) ∧ w = w' from fun w => ha ▸ rfigures_any s w hs hp)
  obtain ⟨t, ht⟩ : ∃ t, s.extract 0 a = t := ⟨_, rfl⟩
  have htl : t.data.toList = s.data.toList.take a := by rw [← ht, take_extract]
  have htk : t = mk (s.data.toList.take a) := by rw [← htl, mk_self]
  have hts : t.size ≤ 1000000 := by
    rw [← size_list, htl]
    simp; omega
  obtain ⟨E, hE⟩ : ∃ E, numE t.data.toList = E := ⟨_, rfl⟩
  obtain ⟨V, hV⟩ : ∃ V, numV t.data.toList = V := ⟨_, rfl⟩
  have hnum := Lib.hid (show ∀ w, Calls Tryd.prog 23 #[.string t] w fun e w' => e = .returned (.tuple #[.int .i64 V, .int .i64 E]) ∧ w = w' from fun w => hE ▸ hV ▸ rNumber_any t w hts)
  rw [← htl, hE] at hf
  have hff := Lib.hid hf
  have HTK := Lib.hid htk
  obtain ⟨x, hx⟩ : ∃ x, bn s 0 = x := ⟨_, rfl⟩
  rw [hx] at hb0 hl0 h1 h2
  have HL := Lib.hid h1
  have HU := Lib.hid h2
  clear hx h1 h2 ha hf htl htk hE hV hts
  go_enter Tryd.func71, Tryd.ntmps71
  go_wp2_with (first
    | (go_at_call 96; refine (tells8_val rlower_tells _ _ _ hl0 HL.out).mono ?_; rintro e w' ⟨rfl, rfl⟩)
    | (go_at_call 60; refine (tells8_val rupper_tells _ _ _ hl0 HU.out).mono ?_; rintro e w' ⟨rfl, rfl⟩)
    | (go_at_call 98; refine (hfig.out _).mono ?_; rintro e w' ⟨rfl, rfl⟩)
    | (go_at_call 23; refine (hnum.out _).mono ?_; rintro e w' ⟨rfl, rfl⟩))
  refine tok_post _ _ _ _ w.heap.size _ _ _ _ _ a E rfl rfl rfl (heap_alloc_new _ _) (by rw [hff.out]) (fun h => by rw [hff.out]; exact ⟨rfl, rfl, by rw [HTK.out]; rfl, rfl⟩) ((Below.refl _ _).alloc (Nat.le_refl _) _)

theorem hid_mid {s : ByteArray} {n : Nat} (h : n ≤ s.size + 1) (h1 : 1 ≤ n) : s.extract 1 (n - 1) = mk (tokText 3 n s.data.toList) := by
  rw [← mk_self (s.extract 1 (n - 1)), mid_extract s (n - 1) (by omega)]; rfl

set_option maxRecDepth 100000 in
set_option maxHeartbeats 3200000 in
theorem rtoken_quo (s : ByteArray) (w : World) (hs : s.size ≤ 1000000) (hp : 0 < s.size) (hN : NoLet s) (hc : ¬ 0 < numLen s.data.toList) (hq : bn s 0 = 34) :
    Calls Tryd.prog 71 #[.string s] w fun e w' => TokRet s.data.toList e ∧ Below w.heap.size w w' := by
  have hb0 := bn_int s 0 hp
  have hl0 := bn_lt s 0
  have hf := fst3_rest hp hN
  have hnil : s.data.toList ≠ [] := fun e => by
    have := size_list s
    rw [e] at this; simp at this; omega
  have hql := quo_le hnil
  rw [if_neg hc, if_pos ((head_is hp 34).2 hq)] at hf
  have hc0 : numLen s.data.toList = 0 := by omega
  have hfig := Lib.hid (show ∀ w, Calls Tryd.prog 98 #[.string s] w fun e w' => e = .returned (.int .i64 ((0 : Nat) : Int)) ∧ w = w' from fun w => hc0 ▸ rfigures_any s w hs hp)
  obtain ⟨h1, h2⟩ := hN
  have HL := Lib.hid h1
  have HU := Lib.hid h2
  rw [hq] at hb0 hl0 h1 h2
  have hkind : (quo s.data.toList).2.2 = 0 → (quo s.data.toList).1 = 3 := by
    unfold quo
    split
    · intro h; exact absurd h (by decide)
    · split
      · intro _; rfl
      · intro h; exact absurd h (by decide)
  obtain ⟨⟨k, n, E⟩, hqq⟩ : ∃ p, quo s.data.toList = p := ⟨_, rfl⟩
  rw [hqq, size_list] at hql
  rw [hqq] at hf hkind
  have hquo := Lib.hid (show ∀ w, Calls Tryd.prog 99 #[.string s] w fun e w' => e = .returned (.tuple #[.int .i64 ((n : Nat) : Int), .int .i64 E]) ∧ w = w' from fun w => by
    have := rquoted_any s w hs hp
    rw [hqq] at this
    exact this)
  have hff := Lib.hid hf
  obtain ⟨q1, q2, q3⟩ := hql
  simp only at q1 q2 q3 hkind
  clear hf hnil hc hc0 hqq
  have HLL : Hid (kLow 34 = false) := h1
  have HUU : Hid (kUp 34 = false) := h2
  clear h1 h2 hq HL HU
  by_cases hE : E = 0
  · subst hE
    obtain rfl := hkind rfl
    have hn2 : 2 ≤ n := q3 rfl
    have hmid := hid_mid (s := s) (n := n) (by omega) (by omega)
    obtain ⟨x, hx⟩ : ∃ x, tokText 3 n s.data.toList = x := ⟨_, rfl⟩
    rw [hx] at hmid
    have HX := Lib.hid hx
    have hsl2 : ∀ W, (Instr.slice 9 (.string s) (some (.int .i64 1)) (some (.int .i64 (((n : Nat) : Int) - 1))) none).run Tryd.prog W = .ok (.string (mk x)) W := fun W => by
      rw [run_slice_string (P := Tryd.prog) W 9 s .i64 .i64 (1 : Int) (((n : Nat) : Int) - 1) Tryd.underlying9 (by omega) (by omega) (by omega)]
      rw [show (((n : Nat) : Int) - 1).toNat = n - 1 by omega, show ((1 : Int)).toNat = 1 from rfl, hmid]
    clear q2 q3 hkind hmid hx
    go_enter Tryd.func71, Tryd.ntmps71
    go_wp2_with (first
      | (go_at_call 96; refine (tells8_val rlower_tells _ 34 _ (by decide) HLL.out).mono ?_; rintro e w' ⟨rfl, rfl⟩)
      | (go_at_call 60; refine (tells8_val rupper_tells _ 34 _ (by decide) HUU.out).mono ?_; rintro e w' ⟨rfl, rfl⟩)
      | (go_at_call 98; refine (hfig.out _).mono ?_; rintro e w' ⟨rfl, rfl⟩)
      | (go_at_call 99; refine (hquo.out _).mono ?_; rintro e w' ⟨rfl, rfl⟩))
    refine tok_post _ _ _ _ w.heap.size _ _ _ _ _ n 0 rfl rfl rfl (heap_alloc_new _ _) (by rw [hff.out]) (fun h => by rw [hff.out]; exact ⟨rfl, rfl, by first | rw [← HX.out] | (rw [← HX.out]; rfl), rfl⟩) ((Below.refl _ _).alloc (Nat.le_refl _) _)
  · have hE2 : (E != 0) = true := by simpa using hE
    have HE := Lib.hid hE
    clear q1 q2 q3 hkind hE
    go_enter Tryd.func71, Tryd.ntmps71
    go_wp2_with (first
      | (go_at_call 96; refine (tells8_val rlower_tells _ 34 _ (by decide) HLL.out).mono ?_; rintro e w' ⟨rfl, rfl⟩)
      | (go_at_call 60; refine (tells8_val rupper_tells _ 34 _ (by decide) HUU.out).mono ?_; rintro e w' ⟨rfl, rfl⟩)
      | (go_at_call 98; refine (hfig.out _).mono ?_; rintro e w' ⟨rfl, rfl⟩)
      | (go_at_call 99; refine (hquo.out _).mono ?_; rintro e w' ⟨rfl, rfl⟩))
    refine tok_post _ _ _ _ w.heap.size _ _ _ _ _ 0 E rfl rfl rfl (heap_alloc_new _ _) (by rw [hff.out]) (fun h => absurd h HE.out) ((Below.refl _ _).alloc (Nat.le_refl _) _)
end Go.Proofs.YtlnmcegnnncepaaDoor
