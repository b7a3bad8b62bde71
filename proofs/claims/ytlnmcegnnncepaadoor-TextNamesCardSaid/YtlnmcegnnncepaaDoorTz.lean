/- Plain: lists of tokens in memory. -/
import Derived.Test.YtlnmcegnnncepaaDoorTu
import Derived.Test.YtlnmcegnnncepaaDoorTy
namespace Go.Proofs.YtlnmcegnnncepaaDoor
open Go.RowKit

theorem quo_le {l : List UInt8} (h : l ≠ []) : (quo l).2.1 ≤ l.length ∧ (quo l).1 ≤ 3 ∧ ((quo l).1 = 3 → 2 ≤ (quo l).2.1) := by
  have h1 := pre_le (by8 kStr) l.tail
  rw [List.length_tail] at h1
  have h2 : 0 < l.length := List.length_pos_iff.2 h
  unfold quo
  split
  · exact ⟨Nat.zero_le _, by decide, fun e => absurd e (by decide)⟩
  · rename_i h3
    split
    · refine ⟨?_, Nat.le_refl 3, fun _ => ?_⟩
      · show 1 + _ + 1 ≤ _; omega
      · show 2 ≤ 1 + _ + 1; omega
    · exact ⟨Nat.zero_le _, by decide, fun e => absurd e (by decide)⟩
theorem symLen_len {l : List UInt8} (h : l ≠ []) : symLen l ≤ l.length := by
  have h2 : 0 < l.length := List.length_pos_iff.2 h
  unfold symLen
  split
  · rename_i h3
    rw [Bool.or_eq_true] at h3
    unfold Lib.hasPrefix at h3
    rcases h3 with h3 | h3
    · have := (List.isPrefixOf_iff_prefix.1 h3).length_le; simpa using this
    · have := (List.isPrefixOf_iff_prefix.1 h3).length_le; simpa using this
  · split
    · omega
    · exact Nat.zero_le _
theorem dg_le (l : List UInt8) : (dg l).length ≤ l.length := by
  unfold dg
  split
  · simp
  · exact Nat.le_refl _
theorem numLen_len (l : List UInt8) : numLen l ≤ l.length := by
  have h1 := dg_le l
  have h2 := pre_le (by8 kDig) (dg l)
  unfold numLen
  split <;> omega
theorem fst3_le {l : List UInt8} (h : l ≠ []) : (fst3 l).2.1 ≤ l.length ∧ (fst3 l).1 ≤ 5 ∧ ((fst3 l).1 = 3 → 2 ≤ (fst3 l).2.1) := by
  have hl : ∀ k n, n ≤ l.length → k ≤ 5 → k ≠ 3 → (lim k n).2.1 ≤ l.length ∧ (lim k n).1 ≤ 5 ∧ ((lim k n).1 = 3 → 2 ≤ (lim k n).2.1) := by
    intro k n hn hk h3
    unfold lim
    split
    · exact ⟨Nat.zero_le _, by decide, fun e => absurd e (by decide)⟩
    · exact ⟨hn, hk, fun e => absurd e h3⟩
  unfold fst3
  split
  · exact hl _ _ (nameLen_le _ _ _) (by decide) (by decide)
  · split
    · exact hl _ _ (nameLen_le _ _ _) (by decide) (by decide)
    · split
      · exact ⟨numLen_len l, by show (4 : Nat) ≤ 5; decide, fun e => absurd e (by show ¬ (4 : Nat) = 3; decide)⟩
      · split
        · have := quo_le h
          exact ⟨this.1, by omega, this.2.2⟩
        · split
          · exact ⟨symLen_len h, by show (5 : Nat) ≤ 5; decide, fun e => absurd e (by show ¬ (5 : Nat) = 3; decide)⟩
          · exact ⟨Nat.zero_le _, by show (0 : Nat) ≤ 5; decide, fun e => absurd e (by show ¬ (0 : Nat) = 3; decide)⟩
theorem sepLen_le (l : List UInt8) : sepLen l ≤ l.length := by
  unfold sepLen; split <;> exact pre_le _ _

/-! ### Lists of tokens in memory -/
def tcells (t : Tok) : List Value := [.int .i64 ((t.kind : Nat) : Int), .string (mk t.text), .int .i64 ((t.line : Nat) : Int)]
def tvals (ts : List Tok) : List Value := ts.flatMap tcells
theorem tvals_len (ts : List Tok) : (tvals ts).length = ts.length * 3 := by
  induction ts with
  | nil => rfl
  | cons t r ih => simp only [tvals, List.flatMap_cons, List.length_append, List.length_cons] at ih ⊢; rw [ih]; simp [tcells]; omega
theorem tvals_snoc (ts : List Tok) (t : Tok) : tvals ts ++ tcells t = tvals (ts ++ [t]) := by simp [tvals]
/-- The i-th token. -/
def tk (ts : List Tok) (i : Nat) : Tok := ts.getD i ⟨0, [], 0⟩
theorem tvals_at (ts : List Tok) : ∀ (i : Nat), i < ts.length → (tvals ts)[3 * i]? = some (.int .i64 (((tk ts i).kind : Nat) : Int)) ∧ (tvals ts)[3 * i + 1]? = some (.string (mk (tk ts i).text)) ∧ (tvals ts)[3 * i + 2]? = some (.int .i64 (((tk ts i).line : Nat) : Int)) := by
  induction ts with
  | nil => intro i h; exact absurd h (Nat.not_lt_zero _)
  | cons t r ih =>
    intro i h
    have e : tvals (t :: r) = .int .i64 ((t.kind : Nat) : Int) :: .string (mk t.text) :: .int .i64 ((t.line : Nat) : Int) :: tvals r := rfl
    cases i with
    | zero => rw [e]; exact ⟨rfl, rfl, rfl⟩
    | succ i =>
      have h2 := ih i (by simpa using h)
      rw [e, show 3 * (i + 1) = 3 * i + 1 + 1 + 1 by omega]
      simp only [List.getElem?_cons_succ]
      exact h2
/-- A slice of tokens that reads as a list. -/
structure IsToks (w : World) (a : Option Addr) (n cap : Nat) (ts : List Tok) : Prop where
  len : ts.length = n
  capLe : n ≤ cap
  maxLe : cap ≤ maxLen
  at_ : 0 < n → ∃ b off, a = some ⟨b, off, none⟩ ∧ b < w.heap.size ∧ ∀ i, i < n → w.cell? ⟨b, off + 3 * i, none⟩ = some (.int .i64 (((tk ts i).kind : Nat) : Int)) ∧ w.cell? ⟨b, off + (3 * i + 1), none⟩ = some (.string (Go.Proofs.YtlnmcegnnncepaaDoor.mk (tk ts i).text)) ∧ w.cell? ⟨b, off + (3 * i + 2), none⟩ = some (.int .i64 (((tk ts i).line : Nat) : Int))
theorem IsToks.below {w w' : World} {a : Option Addr} {n cap : Nat} {ts : List Tok} (h : IsToks w a n cap ts) (hb : Below w.heap.size w w') : IsToks w' a n cap ts := by
  have hsz := hb.size
  refine ⟨h.len, h.capLe, h.maxLe, fun h0 => ?_⟩
  obtain ⟨b, off, e, hl, hc⟩ := h.at_ h0
  exact ⟨b, off, e, by omega, fun i hi => ⟨(hb.cell (p := ⟨b, off + 3 * i, none⟩) hl).trans (hc i hi).1, (hb.cell (p := ⟨b, off + (3 * i + 1), none⟩) hl).trans (hc i hi).2.1, (hb.cell (p := ⟨b, off + (3 * i + 2), none⟩) hl).trans (hc i hi).2.2⟩⟩
theorem IsToks.nil (w : World) : IsToks w none 0 0 [] := ⟨rfl, Nat.le_refl _, Nat.zero_le _, fun h => absurd h (Nat.lt_irrefl _)⟩
theorem Tryd.infoT : (Tryd.prog.info? 39).map (fun i => (i.zero, i.size, i.bytes)) = some (some (.agg #[.int .i64 0, .string ByteArray.empty, .int .i64 0]), 3, 32) := by kernel_rfl
theorem IsToks.of_owns {w : World} {B n : Nat} {v : Value} {ts : List Tok} (h : w.ownsRow B 39 3 v n (tvals ts)) :
    ∃ a cap, v = .slice a n cap ∧ IsToks w a n cap ts := by
  have hh := h
  have hlen : ts.length = n := by have := h.1; rw [tvals_len] at this; omega
  obtain ⟨h1, ⟨h2, h3⟩ | ⟨g, cap, cur, hv, hB, hg, h3, h4, h5, h6⟩⟩ := h
  · subst h3
    exact ⟨none, 0, h2, hlen, Nat.le_refl _, Nat.zero_le _, fun h0 => absurd h0 (Nat.lt_irrefl _)⟩
  · refine ⟨some ⟨g, 0, none⟩, cap, hv, hlen, h3, h4, fun _ => ⟨g, 0, rfl, lt_of_block hg, fun i hi => ?_⟩⟩
    have hc : ∀ (j : Nat) (u : Value), (tvals ts)[j]? = some u → w.cell? ⟨g, 0 + j, none⟩ = some u := fun j u hu => by
      have := hh.cells (g := g) (by rw [hv]; rfl) j u hu
      rw [show (⟨g, 0, none⟩ : Addr).add j = ⟨g, j, none⟩ by unfold Addr.add; split <;> simp_all] at this
      rw [Nat.zero_add]
      exact this
    have ht := tvals_at ts i (by omega)
    exact ⟨hc _ _ ht.1, hc _ _ ht.2.1, hc _ _ ht.2.2⟩
/-- The call returns the tokens, the line and the error of this result; nothing that was there has changed. -/
def RetT (r : Res) (w : World) (e : Ending) (w' : World) : Prop :=
  ∃ a n cap, e = .returned (.tuple #[.slice a n cap, .int .i64 ((r.line : Nat) : Int), .int .i64 r.err]) ∧ IsToks w' a n cap r.toks ∧ Below w.heap.size w w'
/-- The result of Scan. -/
def scanR (l : List UInt8) : Res := if 65536 < l.length then ⟨[], 0, 7⟩ else run l 1 false []
def strLen : Value → Nat | .string b => b.size | _ => 0
theorem drop_extract (s : ByteArray) (n : Nat) : (s.extract n s.size).data.toList = s.data.toList.drop n := Lib.extract_to_end s n
theorem mid_extract (s : ByteArray) (n : Nat) (h : n ≤ s.size) : (s.extract 1 n).data.toList = (s.data.toList.take n).drop 1 := by
  rw [Lib.extract_data, List.drop_take]
theorem extract_size (s : ByteArray) (n : Nat) (h : n ≤ s.size) : (s.extract n s.size).size = s.size - n := by
  rw [← size_list, drop_extract, List.length_drop, size_list]
theorem cells3_new (w : World) (x y z : Value) (t : TypeId) : ∀ j u, [x, y, z][j]? = some u → (w.alloc (.cells #[x, y, z] t)).cell? ((⟨w.heap.size, 0, none⟩ : Addr).add j) = some u := by
  intro j u hj
  rw [show (⟨w.heap.size, 0, none⟩ : Addr).add j = ⟨w.heap.size, j, none⟩ by unfold Addr.add; split <;> simp_all, World.cell?_alloc_new]
  simpa using hj
end Go.Proofs.YtlnmcegnnncepaaDoor
