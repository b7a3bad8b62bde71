/- Plain: what the walk of the law TextLines needs. -/
import Derived.Test.YtlnmcegnnncepaaDoorSn
import Derived.Test.YtlnmcegnnncepaaDoorSk
namespace Go.Proofs.YtlnmcegnnncepaaDoor
open Go.RowKit

theorem lines_join (l m : List UInt8) (hl : l.length ≤ 1000) (hm : m.length ≤ 1000) (ha : (scanR l).err = 0) (hb : (scanR m).err = 0) :
    scanR (l ++ 10 :: m) = ⟨(scanR l).toks ++ moved (1 + l.count 10) (scanR m).toks, 0, 0⟩ := by
  have e1 : scanR l = run l 1 false [] := by unfold scanR; rw [if_neg (by omega)]
  have e2 : scanR m = run m 1 false [] := by unfold scanR; rw [if_neg (by omega)]
  have e3 : scanR (l ++ 10 :: m) = run (l ++ 10 :: m) 1 false [] := by unfold scanR; rw [if_neg (by rw [List.length_append, List.length_cons]; omega)]
  rw [e1] at ha ⊢
  rw [e2] at hb ⊢
  rw [e3, run_nl l.length l (Nat.le_refl _) m 1 false [] ha]
  have := run_moved m.length m (Nat.le_refl _) 1 (1 + l.count 10) false [] (run l 1 false []).toks hb
  rw [show moved (1 + l.count 10) [] = [] from rfl, List.append_nil] at this
  rw [← this]
  congr 1; omega
theorem tk_left {xs ys : List Tok} {i : Nat} (h : i < xs.length) : tk (xs ++ ys) i = tk xs i := by
  unfold tk
  rw [List.getD_eq_getElem?_getD, List.getD_eq_getElem?_getD, List.getElem?_append_left h]
theorem tk_right {xs ys : List Tok} {d j : Nat} (h : j < ys.length) : (tk (xs ++ moved d ys) (xs.length + j)).kind = (tk ys j).kind ∧ (tk (xs ++ moved d ys) (xs.length + j)).text = (tk ys j).text ∧ (tk (xs ++ moved d ys) (xs.length + j)).line = (tk ys j).line + d := by
  have e : tk (xs ++ moved d ys) (xs.length + j) = ⟨(tk ys j).kind, (tk ys j).text, (tk ys j).line + d⟩ := by
    unfold tk moved
    rw [List.getD_eq_getElem?_getD, List.getElem?_append_right (by omega), Nat.add_sub_cancel_left, List.getElem?_map, List.getElem?_eq_getElem h, List.getD_eq_getElem?_getD, List.getElem?_eq_getElem h]
    rfl
  rw [e]
  exact ⟨rfl, rfl, rfl⟩
theorem moved_len (d : Nat) (ts : List Tok) : (moved d ts).length = ts.length := by simp [moved]
theorem cnt_succ {s : ByteArray} {k : Nat} (hk : k < s.size) : (s.data.toList.take (k + 1)).count 10 = (s.data.toList.take k).count 10 + (if bn s k = 10 then 1 else 0) := by
  have hl : k < s.data.toList.length := by rw [size_list]; exact hk
  obtain ⟨b, hb, he⟩ := bn_byte hk
  rw [List.getElem?_eq_getElem hl] at hb
  have hb2 := Option.some.inj hb
  rw [List.take_succ_eq_append_getElem hl, List.count_append, hb2]
  by_cases h : bn s k = 10
  · have : b = 10 := UInt8.toNat_inj.1 (by rw [he, h]; rfl)
    rw [if_pos h, this]; rfl
  · have : b ≠ 10 := fun e => h (by rw [← he, e]; rfl)
    rw [if_neg h, List.count_cons_of_ne this]; rfl
theorem run_len (n : Nat) : ∀ (l : List UInt8), l.length ≤ n → ∀ (line : Nat) (com : Bool) (acc : List Tok), (run l line com acc).toks.length ≤ acc.length + l.length := by
  induction n with
  | zero =>
    intro l hl line com acc
    have : l = [] := List.eq_nil_of_length_eq_zero (by omega)
    subst this
    rw [run_nil]; exact Nat.le_refl _
  | succ n ih =>
    intro l hl line com acc
    cases l with
    | nil => rw [run_nil]; exact Nat.le_refl _
    | cons b r =>
      rw [List.length_cons] at hl ⊢
      by_cases h1 : b = 10
      · subst h1
        rw [run_lf]
        have := ih r (by omega) (line + 1) false acc
        omega
      · cases h2 : (com || b == 37 || isSep b)
        · by_cases h3 : (fst3 (b :: r)).2.2 = 0
          · have hp := fst3_pos h3
            rw [run_tok r line com acc h1 h2 h3]
            have := ih ((b :: r).drop (fst3 (b :: r)).2.1) (by rw [List.length_drop, List.length_cons]; omega) line false (acc ++ [⟨(fst3 (b :: r)).1, tokText (fst3 (b :: r)).1 (fst3 (b :: r)).2.1 (b :: r), line⟩])
            rw [List.length_drop, List.length_cons, List.length_append, List.length_cons, List.length_nil] at this
            omega
          · rw [run_err r line com acc h1 h2 h3]
            exact Nat.zero_le _
        · rw [run_skip r line com acc h1 h2]
          have := ih r (by omega) line (com || b == 37) acc
          omega
theorem scanR_len (l : List UInt8) : (scanR l).toks.length ≤ l.length := by
  unfold scanR
  split
  · exact Nat.zero_le _
  · have := run_len l.length l (Nat.le_refl _) 1 false []
    simpa using this
end Go.Proofs.YtlnmcegnnncepaaDoor
