/- Walks of package poset: checkCycles, Check, Order. -/
import Derived.Test.YtmhbblehgckelaaPx
namespace Go.Proofs.Ytmhbblehgckelaa
open Go.RowKit Go.Maps

theorem szE_sup {D : List Dec} (h : szE D = 0) : ∀ i, i < D.length → (dc D i).sup.length ≤ 256 := by
  intro i hi
  have hl := szE_le h
  refine Classical.byContradiction fun g => ?_
  have := szE_bad (D := D) (i := i) (by omega) hi (.inl (by omega))
  rw [this] at h; cases h
/-- The error of cycles. -/
noncomputable def cycE (D : List Dec) : Nat := if (plc D).length < D.length then 6 else 0
/-- The error of the k-th check. -/
noncomputable def ek (D : List Dec) : Nat → Nat
  | 0 => szE D
  | 1 => nmE (isNam kLow) [] D
  | 2 => suE (nms D) D
  | 3 => topE D
  | _ => cycE D
theorem chkN_eq (D : List Dec) : chkN D = if ek D 0 ≠ 0 then ek D 0 else if ek D 1 ≠ 0 then ek D 1 else if ek D 2 ≠ 0 then ek D 2 else if ek D 3 ≠ 0 then ek D 3 else ek D 4 := by
  show chkN D = if szE D ≠ 0 then szE D else if nmE (isNam kLow) [] D ≠ 0 then nmE (isNam kLow) [] D else if suE (nms D) D ≠ 0 then suE (nms D) D else if topE D ≠ 0 then topE D else cycE D
  unfold chkN chk topE cycE
  by_cases h : tops D ≠ 1
  · simp [h]
  · simp [h]

set_option maxRecDepth 100000 in
theorem checkCycles_any (w : World) (a : Option Addr) (n cap : Nat) (D : List Dec) (h : IsDecs w a n cap D) (ok : Ok D) (hn : n ≤ 256) (hsz : ∀ i, i < n → (dc D i).sup.length ≤ 256) :
    Calls Try.prog 28 #[.slice a n cap] w fun e w' => e = .returned (.int .i64 ((cycE D : Nat) : Int)) ∧ Below w.heap.size w w' := by
  have hm := h.maxLe
  have hc := h.capLe
  unfold maxLen at hm
  have SO := Lib.hid (sorted_any w a n cap D h ok hn hsz)
  have HE : Hid (cycE D = if (plc D).length < n then 6 else 0) := by show _ = _; unfold cycE; rw [h.len]
  have hpl := (plc_plc D).len
  obtain ⟨pl, hp⟩ : ∃ z, (plc D).length = z := ⟨_, rfl⟩
  rw [hp] at HE hpl
  rw [h.len] at hpl
  have HPL := Lib.hid hp
  clear h ok hsz hp
  by_cases hlt : pl < n
  · have hr : Hid (cycE D = 6) := by show _ = _; rw [HE.out, if_pos hlt]
    go_enter Try.func28, Try.ntmps28
    go_wp2_with (go_at_call 20; (with_reducible refine SO.out.mono ?_); rintro e w2 ⟨v2, rfl, hrow, hsm, hb2⟩; rw [HPL.out] at hrow; obtain ⟨a2, c2, rfl, hi2⟩ := IsStrs.of_owns hrow hsm; clear hrow hsm hi2)
    go_ret
    exact ⟨by rw [hr.out]; rfl, hb2⟩
  · have hr : Hid (cycE D = 0) := by show _ = _; rw [HE.out, if_neg hlt]
    go_enter Try.func28, Try.ntmps28
    go_wp2_with (go_at_call 20; (with_reducible refine SO.out.mono ?_); rintro e w2 ⟨v2, rfl, hrow, hsm, hb2⟩; rw [HPL.out] at hrow; obtain ⟨a2, c2, rfl, hi2⟩ := IsStrs.of_owns hrow hsm; clear hrow hsm hi2)
    go_ret
    exact ⟨by rw [hr.out]; rfl, hb2⟩

theorem e1 : Enters 24 := fun _ _ => by kernel_rfl
theorem e2 : Enters 25 := fun _ _ => by kernel_rfl
theorem e3 : Enters 26 := fun _ _ => by kernel_rfl
theorem e4 : Enters 27 := fun _ _ => by kernel_rfl
theorem e5 : Enters 28 := fun _ _ => by kernel_rfl
/-- The k-th check. -/
def fk : Nat → FuncId
  | 0 => 24
  | 1 => 25
  | 2 => 26
  | 3 => 27
  | _ => 28
theorem fk_enters (k : Nat) : Enters (fk k) := by
  match k with
  | 0 => exact e1
  | 1 => exact e2
  | 2 => exact e3
  | 3 => exact e4
  | _ + 4 => exact e5
theorem fk_any (k : Nat) (hk : k < 5) (w : World) (a : Option Addr) (n cap : Nat) (D : List Dec) (h : IsDecs w a n cap D) (hp : ∀ j, j < k → ek D j = 0) :
    Calls Try.prog (fk k) #[.slice a n cap] w fun e w' => e = .returned (.int .i64 ((ek D k : Nat) : Int)) ∧ Below w.heap.size w w' := by
  have hl := h.len
  match k, hk with
  | 0, _ => exact checkLengths_any w a n cap D h
  | 1, _ =>
    have h0 : szE D = 0 := hp 0 (by omega)
    exact checkNames_any w a n cap D h (by rw [← hl]; exact szE_le h0)
  | 2, _ =>
    have h0 : szE D = 0 := hp 0 (by omega)
    have h1 : nmE (isNam kLow) [] D = 0 := hp 1 (by omega)
    exact checkSupers_any w a n cap D h (nmE_zero h1).1 (by rw [← hl]; exact szE_le h0) (fun i hi => szE_sup h0 i (by omega))
  | 3, _ =>
    have h0 : szE D = 0 := hp 0 (by omega)
    exact checkTop_any w a n cap D h (by rw [← hl]; exact szE_le h0)
  | 4, _ =>
    have h0 : szE D = 0 := hp 0 (by omega)
    have h1 : nmE (isNam kLow) [] D = 0 := hp 1 (by omega)
    have h2 : suE (nms D) D = 0 := hp 2 (by omega)
    exact checkCycles_any w a n cap D h (ok_of (nm := isNam kLow) h1 h2) (by rw [← hl]; exact szE_le h0) (fun i hi => szE_sup h0 i (by omega))
theorem chk_first {D : List Dec} {k : Nat} (hk : k < 5) (hp : ∀ j, j < k → ek D j = 0) (hne : ¬ ek D k = 0) : chkN D = ek D k := by
  have hg : ∀ j, j < k → ¬ (ek D j ≠ 0) := fun j hj g => g (hp j hj)
  rw [chkN_eq]
  rcases (by omega : k = 0 ∨ k = 1 ∨ k = 2 ∨ k = 3 ∨ k = 4) with e | e | e | e | e <;> subst e
  · exact if_pos hne
  · rw [if_neg (hg 0 (by omega)), if_pos hne]
  · rw [if_neg (hg 0 (by omega)), if_neg (hg 1 (by omega)), if_pos hne]
  · rw [if_neg (hg 0 (by omega)), if_neg (hg 1 (by omega)), if_neg (hg 2 (by omega)), if_pos hne]
  · rw [if_neg (hg 0 (by omega)), if_neg (hg 1 (by omega)), if_neg (hg 2 (by omega)), if_neg (hg 3 (by omega))]
theorem chk_none {D : List Dec} (hp : ∀ j, j < 5 → ek D j = 0) : chkN D = 0 := by
  have hg : ∀ j, j < 5 → ¬ (ek D j ≠ 0) := fun j hj g => g (hp j hj)
  rw [chkN_eq, if_neg (hg 0 (by omega)), if_neg (hg 1 (by omega)), if_neg (hg 2 (by omega)), if_neg (hg 3 (by omega))]
  exact hp 4 (by omega)

set_option maxRecDepth 100000 in
set_option maxHeartbeats 1600000 in
theorem Check_any (w : World) (a : Option Addr) (n cap : Nat) (D : List Dec) (h : IsDecs w a n cap D) :
    Calls Try.prog 12 #[.slice a n cap] w fun e w' => e = .returned (.int .i64 ((chkN D : Nat) : Int)) ∧ Below w.heap.size w w' := by
  have H := Lib.hid h
  clear h
  obtain ⟨w1, hw1⟩ : ∃ w1 : World, w1 = w.alloc (.cells #[.func (.func 24) #[] #[], .func (.func 25) #[] #[], .func (.func 26) #[] #[], .func (.func 27) #[] #[], .func (.func 28) #[] #[]] 31) := ⟨_, rfl⟩
  have HC : Hid (∀ k, k < 5 → w1.cell? ⟨w.heap.size, k, none⟩ = some (.func (.func (fk k)) #[] #[])) := fun k hk => by
    rw [hw1, World.cell?_alloc_new]
    rcases (by omega : k = 0 ∨ k = 1 ∨ k = 2 ∨ k = 3 ∨ k = 4) with e | e | e | e | e <;> subst e <;> rfl
  have HZ : Hid (w1.heap.size = w.heap.size + 1) := by show _ = _; rw [hw1]; simp
  have HB : Hid (Below w.heap.size w w1) := hw1 ▸ (Below.refl _ _).alloc (Nat.le_refl _) _
  have HW := Lib.hid hw1
  clear hw1
  go_enter Try.func12, Try.ntmps12
  go_wp2
  rw [← HW.out]
  go_loopw [10] (fun v wr => ∃ k : Nat, k ≤ 5 ∧ v = .int .i64 ((k : Nat) : Int) ∧ Hid (∀ j, j < k → ek D j = 0) ∧ Below w1.heap.size w1 wr) (fun v _ => 5 - (intOf v).toNat)
  case atStart => exact ⟨0, Nat.zero_le _, rfl, fun j hj => absurd hj (Nat.not_lt_zero _), Below.refl _ _⟩
  case round =>
    obtain ⟨k, hk, rfl, hp, hb⟩ := hrel
    by_cases hlt : k < 5
    · have c0 := (hb.cell (p := ⟨w.heap.size, k, none⟩) (by show w.heap.size < _; rw [HZ.out]; omega)).trans (HC.out k hlt)
      have he := fk_enters k
      unfold Enters at he
      have hbw := HB.out.trans (hb.mono (by rw [HZ.out]; omega))
      have HBW := Lib.hid hbw
      have FK := Lib.hid (fk_any k hlt wr a n cap D (H.out.below hbw) hp.out)
      have HF := Lib.hid (fun g => chk_first hlt hp.out g)
      obtain ⟨f, hf⟩ : ∃ f, fk k = f := ⟨_, rfl⟩
      rw [hf] at c0 he FK
      obtain ⟨e, hee⟩ : ∃ e, ek D k = e := ⟨_, rfl⟩
      rw [hee] at FK HF
      have HE := Lib.hid hee
      clear hf hee hbw
      by_cases h0 : e = 0
      · have hp' : Hid (∀ j, j < k + 1 → ek D j = 0) := fun j hj => by
          rcases Nat.lt_succ_iff_lt_or_eq.1 hj with g | g
          · exact hp.out j g
          · rw [g, HE.out]; exact h0
        clear hp HF HE
        subst h0
        go_wp2_with fail
        refine FK.out.mono ?_
        rintro e w2 ⟨rfl, hb2⟩
        go_wp2
        go_roundw
        case rel => exact ⟨k + 1, by omega, by go_num, hp', hb.trans (hb2.mono hb.size)⟩
        case measure => simp [intOf]; omega
      · have hr : Hid (chkN D = e) := HF.out h0
        have hne : (((e : Nat) : Int) != 0) = true := by simp; omega
        clear hp HF HE
        go_wp2_with fail
        refine FK.out.mono ?_
        rintro e w2 ⟨rfl, hb2⟩
        go_wp2
        go_ret
        exact ⟨by rw [hr.out]; rfl, HBW.out.trans (hb2.mono HBW.out.size)⟩
    · obtain rfl : k = 5 := by omega
      have hr : Hid (chkN D = 0) := chk_none hp.out
      clear hp
      go_wp2
      go_ret
      exact ⟨by rw [hr.out]; rfl, HB.out.trans (hb.mono (by rw [HZ.out]; omega))⟩

set_option maxRecDepth 100000 in
theorem Order_any (w : World) (a : Option Addr) (n cap : Nat) (D : List Dec) (h : IsDecs w a n cap D) :
    Calls Try.prog 8 #[.slice a n cap] w (RetLE (ordN D) (chkN D) w) := by
  have HL := Lib.hid h.len
  have H := Lib.hid h
  have CK := Lib.hid (Check_any w a n cap D h)
  obtain ⟨c, hc⟩ : ∃ z, chkN D = z := ⟨_, rfl⟩
  rw [hc] at CK
  have HC := Lib.hid hc
  clear h
  by_cases h0 : c = 0
  · subst h0
    have hg := goodN hc
    have OK := Lib.hid hg.ok
    have HN : Hid (n ≤ 256) := by have := szE_le hg.sz; rw [HL.out] at this; exact this
    have HSP : Hid (∀ i, i < n → (dc D i).sup.length ≤ 256) := fun i hi => szE_sup hg.sz i (by rw [HL.out]; exact hi)
    have hr : Hid (ordN D = plc D) := by show _ = _; unfold ordN; rw [if_pos hc]
    clear hc hg
    go_enter Try.func8, Try.ntmps8
    go_wp2_with (first
      | (go_at_call 12; refine (CK.out).mono ?_; rintro e w1 ⟨rfl, hb1⟩)
      | (go_at_call 20; (with_reducible refine (sorted_any w1 a n cap D (H.out.below hb1) OK.out HN.out HSP.out).mono ?_); rintro e w2 ⟨v2, rfl, hrow, hsm, hb2⟩; have R2 := Lib.hid hrow; clear hrow))
    go_ret2
    rw [hr.out, HC.out]
    exact ⟨v2, rfl, owns_base R2.out hb1.size, hsm, hb1.trans (hb2.mono hb1.size)⟩
  · have hr : Hid (ordN D = []) := by show _ = _; unfold ordN; rw [hc, if_neg h0]
    have hne : (((c : Nat) : Int) != 0) = true := by simp; omega
    clear hc
    go_enter Try.func8, Try.ntmps8
    go_wp2_with (go_at_call 12; refine (CK.out).mono ?_; rintro e w1 ⟨rfl, hb1⟩)
    go_ret2
    rw [hr.out, HC.out]
    exact ⟨.slice none 0 0, rfl, World.ownsRow_nil _ _ _ _, (fun _ h => (List.not_mem_nil h).elim), hb1⟩
end Go.Proofs.Ytmhbblehgckelaa
