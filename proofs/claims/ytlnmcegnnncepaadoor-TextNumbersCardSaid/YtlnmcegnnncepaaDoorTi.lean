/- Plain: the words of a line; lists of strings in memory. -/
import Derived.Test.YtlnmcegnnncepaaDoorTh
import Derived.Lib.Split
namespace Go.Proofs.YtlnmcegnnncepaaDoor
open Go.RowKit

/-- A byte more of a line: the words so far and the one that is read. -/
def wstep (p : List (List UInt8) × List UInt8) (b : UInt8) : List (List UInt8) × List UInt8 := if b = 32 then (p.1 ++ [p.2], []) else (p.1, p.2 ++ [b])
def wfold (l : List UInt8) : List (List UInt8) × List UInt8 := l.foldl wstep ([], [])
/-- The pieces between spaces. -/
def sp (l : List UInt8) : List (List UInt8) := (wfold l).1 ++ [(wfold l).2]
def wBad (l : List UInt8) : Bool := !(l.all (by8 kPri)) || (!l.isEmpty && (sp l).contains [])
def wordsV (l : List UInt8) : List (List UInt8) := if wBad l then [] else if l.isEmpty then [] else sp l
def wordsE (l : List UInt8) : Int := if wBad l then 8 else 0

/-- Pieces put behind a beginning. -/
def glue (t : List UInt8) : List (List UInt8) → List (List UInt8)
  | [] => [t]
  | x :: r => (t ++ x) :: r
theorem glue_glue (t : List UInt8) (b : UInt8) : ∀ z, z ≠ [] → glue (t ++ [b]) z = glue t (glue [b] z)
  | [], h => absurd rfl h
  | x :: r, _ => by simp [glue]
theorem glue_nil : ∀ z, z ≠ [] → glue [] z = z
  | [], h => absurd rfl h
  | x :: r, _ => by simp [glue]
theorem splitK_ne (sep : List UInt8) (sv k : Nat) (l : List UInt8) : Lib.splitK sep sv k l ≠ [] := by
  cases k with
  | zero => simp [Lib.splitK]
  | succ k => unfold Lib.splitK; split <;> simp
theorem split_space (k : Nat) (l : List UInt8) : Lib.splitK [32] 0 (k + 1) (32 :: l) = [] :: Lib.splitK [32] 0 k l := by
  have : Lib.index (32 :: l) [32] = 0 := by simp [Lib.index]
  show (if Lib.index (32 :: l) [32] == -1 then _ else _) = _
  rw [this]
  rfl
theorem index_space (b : UInt8) (l : List UInt8) (h : ¬ b = 32) : Lib.index (b :: l) [32] = if Lib.index l [32] == -1 then -1 else Lib.index l [32] + 1 := by
  have h2 : ¬ (32 : UInt8) = b := fun e => h e.symm
  simp [Lib.index, h2]
theorem index_ge0 (l : List UInt8) : -1 ≤ Lib.index l [32] := Lib.index_ge l [32]
theorem split_other (k : Nat) (b : UInt8) (l : List UInt8) (h : ¬ b = 32) : Lib.splitK [32] 0 k (b :: l) = glue [b] (Lib.splitK [32] 0 k l) := by
  cases k with
  | zero => simp [Lib.splitK, glue]
  | succ k =>
    unfold Lib.splitK
    rw [index_space b l h]
    have hg := index_ge0 l
    by_cases h1 : Lib.index l [32] = -1
    · simp [h1, glue]
    · have e1 : (Lib.index l [32] == -1) = false := by rw [beq_eq_false_iff_ne]; exact h1
      have e2 : (Lib.index l [32] + 1 == -1) = false := by rw [beq_eq_false_iff_ne]; omega
      obtain ⟨n, hn⟩ : ∃ n : Nat, Lib.index l [32] = (n : Int) := ⟨(Lib.index l [32]).toNat, by omega⟩
      simp only [hn] at e1 e2 ⊢
      simp [e1, e2, glue]
theorem wfold_split (l : List UInt8) : ∀ (k : Nat) (o : List (List UInt8)) (t : List UInt8), l.count 32 ≤ k → (l.foldl wstep (o, t)).1 ++ [(l.foldl wstep (o, t)).2] = o ++ glue t (Lib.splitK [32] 0 k l) := by
  induction l with
  | nil =>
    intro k o t _
    cases k with
    | zero => simp [Lib.splitK, glue]
    | succ k => simp [Lib.splitK, glue, Lib.index]
  | cons b r ih =>
    intro k o t hk
    rw [List.foldl_cons]
    by_cases h : b = 32
    · subst h
      rw [List.count_cons_self] at hk
      obtain ⟨k, rfl⟩ : ∃ j, k = j + 1 := ⟨k - 1, by omega⟩
      have e : wstep (o, t) 32 = (o ++ [t], []) := rfl
      rw [e, ih k _ _ (by omega), split_space, glue_nil _ (splitK_ne _ _ _ _)]
      simp [glue]
    · rw [List.count_cons_of_ne h] at hk
      have e : wstep (o, t) b = (o, t ++ [b]) := by simp [wstep, h]
      rw [e, ih k _ _ hk, split_other k b r h, glue_glue _ _ _ (splitK_ne _ _ _ _)]
theorem sp_split (l : List UInt8) (k : Nat) (h : l.count 32 ≤ k) : sp l = Lib.splitK [32] 0 k l := by
  unfold sp wfold
  rw [wfold_split l k _ _ h, List.nil_append, glue_nil _ (splitK_ne _ _ _ _)]

theorem wfold_keeps (l : List UInt8) : ∀ (o : List (List UInt8)) (t : List UInt8), ∃ m, (l.foldl wstep (o, t)).1 = o ++ m := by
  induction l with
  | nil => intro o t; exact ⟨[], by simp⟩
  | cons b r ih =>
    intro o t
    rw [List.foldl_cons]
    by_cases h : b = 32
    · have e : wstep (o, t) b = (o ++ [t], []) := by simp [wstep, h]
      rw [e]
      obtain ⟨m, hm⟩ := ih (o ++ [t]) []
      exact ⟨t :: m, by rw [hm]; simp⟩
    · have e : wstep (o, t) b = (o, t ++ [b]) := by simp [wstep, h]
      rw [e]
      exact ih _ _

/-- The state behind the first k bytes. -/
def wk (s : ByteArray) (k : Nat) : List (List UInt8) × List UInt8 := wfold (s.data.toList.take k)
theorem wk_zero (s : ByteArray) : wk s 0 = ([], []) := by simp [wk, wfold]
theorem byte32 {s : ByteArray} {k : Nat} (hk : k < s.size) : (s.data.toList[k]'(by rw [size_list]; exact hk) = 32) ↔ bn s k = 32 := by
  have hl : k < s.data.toList.length := by rw [size_list]; exact hk
  have e : bn s k = (s.data.toList[k]).toNat := by unfold bn; rw [List.getD_eq_getElem?_getD, List.getElem?_eq_getElem hl]; rfl
  rw [e]
  constructor
  · intro h; rw [h]; rfl
  · intro h; exact UInt8.toNat_inj.1 (by rw [h]; rfl)
theorem wk_succ (s : ByteArray) (k : Nat) (hk : k < s.size) : wk s (k + 1) = wstep (wk s k) (s.data.toList[k]'(by rw [size_list]; exact hk)) := by
  have hl : k < s.data.toList.length := by rw [size_list]; exact hk
  unfold wk wfold
  rw [List.take_succ_eq_append_getElem hl, List.foldl_append]
  simp only [List.foldl_cons, List.foldl_nil]
theorem wk_space {s : ByteArray} {k : Nat} (hk : k < s.size) (h : bn s k = 32) : wk s (k + 1) = ((wk s k).1 ++ [(wk s k).2], []) := by
  rw [wk_succ s k hk, (byte32 hk).2 h]; rfl
theorem wk_other {s : ByteArray} {k : Nat} (hk : k < s.size) (h : ¬ bn s k = 32) : wk s (k + 1) = ((wk s k).1, (wk s k).2 ++ [s.data.toList[k]'(by rw [size_list]; exact hk)]) := by
  rw [wk_succ s k hk]
  have : ¬ s.data.toList[k]'(by rw [size_list]; exact hk) = 32 := fun e => h ((byte32 hk).1 e)
  unfold wstep; rw [if_neg this]
theorem wk_all (s : ByteArray) : sp s.data.toList = (wk s s.size).1 ++ [(wk s s.size).2] := by
  unfold sp wk
  rw [List.take_of_length_le (by rw [size_list]; exact Nat.le_refl _)]
theorem wk_mono (s : ByteArray) (k : Nat) : ∃ m, (wk s s.size).1 = (wk s k).1 ++ m := by
  have e : wk s s.size = (s.data.toList.drop k).foldl wstep (wk s k) := by
    unfold wk wfold
    rw [← List.foldl_append, List.take_append_drop, List.take_of_length_le (by rw [size_list]; exact Nat.le_refl _)]
  rw [e]
  exact wfold_keeps _ _ _
theorem ne_nil_of {s : ByteArray} {k : Nat} (hk : k < s.size) : s.data.toList.isEmpty = false := by
  have := size_list s
  cases hl : s.data.toList with
  | nil => rw [hl] at this; simp at this; omega
  | cons b r => rfl
theorem bad_of_mem {s : ByteArray} {k : Nat} (hk : k < s.size) (h : ([] : List UInt8) ∈ sp s.data.toList) : wBad s.data.toList = true := by
  unfold wBad
  rw [ne_nil_of hk]
  have : (sp s.data.toList).contains [] = true := List.contains_iff_mem.2 h
  rw [this]; simp
theorem bad_byte {s : ByteArray} {k : Nat} (hk : k < s.size) (h : kPri (bn s k) = false) : wBad s.data.toList = true := by
  unfold wBad
  have : s.data.toList.all (by8 kPri) = false := by
    rw [Bool.eq_false_iff]
    intro e
    have hl : k < s.data.toList.length := by rw [size_list]; exact hk
    rw [List.all_eq_true] at e
    have := e _ (List.getElem_mem hl)
    have e2 : bn s k = (s.data.toList[k]).toNat := by unfold bn; rw [List.getD_eq_getElem?_getD, List.getElem?_eq_getElem hl]; rfl
    rw [by8, ← e2, h] at this
    cases this
  rw [this]; rfl
theorem bad_empty {s : ByteArray} {k : Nat} (hk : k < s.size) (h : bn s k = 32) (ht : (wk s k).2 = []) : wBad s.data.toList = true := by
  refine bad_of_mem hk ?_
  rw [wk_all]
  obtain ⟨m, hm⟩ := wk_mono s (k + 1)
  rw [hm, wk_space hk h, ht]
  simp
theorem bad_last {s : ByteArray} {k : Nat} (hk : k < s.size) (h : bn s k = 32) (he : k + 1 = s.size) : wBad s.data.toList = true := by
  refine bad_of_mem hk ?_
  rw [wk_all, ← he, wk_space hk h]
  simp
theorem good_words {s : ByteArray} (hall : ∀ i, i < s.size → kPri (bn s i) = true) (h1 : ([] : List UInt8) ∉ (wk s s.size).1) (h2 : 0 < s.size → (wk s s.size).2 ≠ []) : wBad s.data.toList = false := by
  unfold wBad
  have e1 : s.data.toList.all (by8 kPri) = true := by
    have := (all_bn s kPri).1 (by rw [List.all_eq_true]; exact fun i hi => hall i (List.mem_range.1 hi))
    rw [List.all_eq_true]; exact this
  rw [e1]
  by_cases h0 : 0 < s.size
  · have : (sp s.data.toList).contains [] = false := by
      rw [Bool.eq_false_iff]
      intro e
      have := List.contains_iff_mem.1 e
      rw [wk_all, List.mem_append] at this
      rcases this with h | h
      · exact h1 h
      · simp at h; exact h2 h0 h
    rw [this]; simp
  · have : s.data.toList = [] := List.eq_nil_of_length_eq_zero (by rw [size_list]; omega)
    rw [this]; rfl
theorem words_bad {l : List UInt8} (h : wBad l = true) : wordsV l = [] ∧ wordsE l = 8 := by simp [wordsV, wordsE, h]
theorem words_good {l : List UInt8} (h : wBad l = false) (h2 : l.isEmpty = false) : wordsV l = sp l ∧ wordsE l = 0 := by simp [wordsV, wordsE, h, h2]

/-! ### Lists of strings in memory -/
def st (zs : List (List UInt8)) (i : Nat) : List UInt8 := zs.getD i []
def svals (zs : List (List UInt8)) : List Value := zs.map fun l => Value.string (mk l)
theorem svals_len (zs : List (List UInt8)) : (svals zs).length = zs.length := by simp [svals]
theorem svals_snoc (zs : List (List UInt8)) (l : List UInt8) : svals zs ++ [Value.string (mk l)] = svals (zs ++ [l]) := by simp [svals]
/-- A slice of strings that reads as a list. -/
structure IsStrs (w : World) (a : Option Addr) (n cap : Nat) (zs : List (List UInt8)) : Prop where
  len : zs.length = n
  capLe : n ≤ cap
  maxLe : cap ≤ maxLen
  at_ : 0 < n → ∃ b off, a = some ⟨b, off, none⟩ ∧ b < w.heap.size ∧ ∀ i, i < n → w.cell? ⟨b, off + i, none⟩ = some (.string (mk (st zs i)))
theorem IsStrs.below {w w' : World} {a : Option Addr} {n cap : Nat} {xs : List (List UInt8)} (h : IsStrs w a n cap xs) (hb : Below w.heap.size w w') : IsStrs w' a n cap xs := by
  have hsz := hb.size
  refine ⟨h.len, h.capLe, h.maxLe, fun h0 => ?_⟩
  obtain ⟨b, off, e, hl, hc⟩ := h.at_ h0
  exact ⟨b, off, e, by omega, fun i hi => (hb.cell (p := ⟨b, off + i, none⟩) hl).trans (hc i hi)⟩
theorem IsStrs.nil (w : World) : IsStrs w none 0 0 [] := ⟨rfl, Nat.le_refl _, Nat.zero_le _, fun h => absurd h (Nat.lt_irrefl _)⟩
theorem Tryd.infoS : (Tryd.prog.info? 9).map (fun i => (i.zero, i.size, i.bytes)) = some (some (.string ByteArray.empty), 1, 16) := by kernel_rfl
theorem IsStrs.of_owns {w : World} {B n : Nat} {v : Value} {zs : List (List UInt8)} (h : w.ownsRow B 9 1 v n (svals zs)) :
    ∃ a cap, v = .slice a n cap ∧ IsStrs w a n cap zs := by
  have hh := h
  have hlen : zs.length = n := by have := h.1; rw [svals_len] at this; omega
  obtain ⟨h1, ⟨h2, h3⟩ | ⟨g, cap, cur, hv, hB, hg, h3, h4, h5, h6⟩⟩ := h
  · subst h3
    exact ⟨none, 0, h2, hlen, Nat.le_refl _, Nat.zero_le _, fun h0 => absurd h0 (Nat.lt_irrefl _)⟩
  · refine ⟨some ⟨g, 0, none⟩, cap, hv, hlen, h3, h4, fun _ => ⟨g, 0, rfl, lt_of_block hg, fun i hi => ?_⟩⟩
    have := hh.cells (g := g) (by rw [hv]; rfl) i (.string (Go.Proofs.YtlnmcegnnncepaaDoor.mk (st zs i))) (by
      simp [svals, st, List.getD_eq_getElem?_getD, List.getElem?_eq_getElem (show i < zs.length by omega)])
    rw [show (⟨g, 0, none⟩ : Addr).add i = ⟨g, i, none⟩ by unfold Addr.add; split <;> simp_all] at this
    rw [Nat.zero_add]
    exact this
/-- The call returns a slice of strings that reads as this list, and an error; nothing that was there has changed. -/
def RetS (xs : List (List UInt8)) (k : Int) (w : World) (e : Ending) (w' : World) : Prop :=
  ∃ a n cap, e = .returned (.tuple #[.slice a n cap, .int .i64 k]) ∧ IsStrs w' a n cap xs ∧ Below w.heap.size w w'
end Go.Proofs.YtlnmcegnnncepaaDoor
