/- Walks of package poset and its reference: Put, Names, ready, checkTop. -/
import Derived.Test.YtmhbblehgckelaaPh
import Derived.WalkLawsBesides
import Derived.Sort.Walk0
namespace Go.Proofs.Ytmhbblehgckelaa
open Go.RowKit

theorem mk_less (x y : Str) : Op.bytesLess (mk x).toList (mk y).toList = decide (x < y) := by
  rw [Go.Proofs.bytesLess_eq, mk_toList, mk_toList]
/-- A row of strings that the call owns: nil, or at the head of a block. -/
theorem owns_shape {w : World} {B n : Nat} {v : Value} {zs : List Str} (h : w.ownsRow B 9 1 v n (svals zs)) (hs : ∀ z ∈ zs, z.length ≤ maxLen) :
    (v = .slice none 0 0 ∧ n = 0 ∧ zs = []) ∨ ∃ g cap, v = .slice (some ⟨g, 0, none⟩) n cap ∧ B ≤ g ∧ g < w.heap.size ∧ IsStrs w (some ⟨g, 0, none⟩) n cap zs := by
  have hh := h
  have hlen : zs.length = n := by have := h.1; rw [svals_len] at this; omega
  obtain ⟨h1, ⟨h2, h3⟩ | ⟨g, cap, cur, hv, hB, hg, h3, h4, h5, h6⟩⟩ := h
  · subst h3
    exact .inl ⟨h2, rfl, List.eq_nil_of_length_eq_zero hlen⟩
  · obtain ⟨a2, cap2, e2, hi⟩ := IsStrs.of_owns hh hs
    rw [hv] at e2
    cases e2
    exact .inr ⟨g, cap, hv, hB, lt_of_block hg, hi⟩
theorem IsStrs.drop {w : World} {b off n cap : Nat} {zs : List Str} (h : IsStrs w (some ⟨b, off, none⟩) n cap zs) {k : Nat} (hk : k ≤ n) : IsStrs w (some ⟨b, off + k, none⟩) (n - k) (cap - k) (zs.drop k) := by
  have hl := h.len
  have hc := h.capLe
  have hm := h.maxLe
  refine ⟨by rw [List.length_drop]; omega, by omega, by omega, fun z hz => h.small z (List.mem_of_mem_drop hz), (fun e => by cases e), fun h0 => ?_⟩
  obtain ⟨b2, off2, e, hbl, hx⟩ := h.at_ (by omega)
  cases e
  refine ⟨b, off + k, rfl, hbl, fun i hi => ?_⟩
  have := hx (k + i) (by omega)
  rw [show off + k + i = off + (k + i) by omega, this]
  congr 3
  unfold st
  rw [List.getD_eq_getElem?_getD, List.getD_eq_getElem?_getD, List.getElem?_drop]
theorem IsStrs.empty {w : World} (ad : Addr) (cap : Nat) (hm : cap ≤ maxLen) : IsStrs w (some ad) 0 cap [] :=
  ⟨rfl, Nat.zero_le _, hm, (fun _ h => (List.not_mem_nil h).elim), (fun e => by cases e), fun h => absurd h (Nat.lt_irrefl _)⟩
theorem small_put {zs : List Str} {s : Str} (h : ∀ z ∈ zs, z.length ≤ maxLen) (hs : s.length ≤ maxLen) : ∀ z ∈ put zs s, z.length ≤ maxLen := fun z hz => by
  rcases (mem_put zs s z).1 hz with e | e
  · rw [e]; exact hs
  · exact h z e

/-- The call returns a row of its caller's base that reads as this list. -/
def RetP (B : Nat) (xs : List Str) (w : World) (e : Ending) (w' : World) : Prop :=
  ∃ v, e = .returned v ∧ w'.ownsRow B 9 1 v xs.length (svals xs) ∧ Below w.heap.size w w'

theorem owns_base {W : World} {base base' : Nat} {e : TypeId} {size : Nat} {v : Value} {k : Nat} {xs : List Value} (h : W.ownsRow base e size v k xs) (hb : base' ≤ base) : W.ownsRow base' e size v k xs := by
  obtain ⟨h1, h2 | ⟨g, cap, cur, hv, hB, r⟩⟩ := h
  · exact ⟨h1, .inl h2⟩
  · exact ⟨h1, .inr ⟨g, cap, cur, hv, by omega, r⟩⟩
theorem grown_below {B : Nat} {w w1 w2 : World} {v : Value} {e : TypeId} {sz n : Nat} {xs : List Value} (hb : Below B w w1) (hz : B ≤ w1.heap.size) (hrow : w1.ownsRow B e sz v n xs) (hg : w1.grownBy w2 v.ownBlock) : Below B w w2 :=
  hb.grown hg hz (fun j hj => (hrow.lt j hj).1)
/-- The last three appends of Put. -/
theorem put_split {zs : List Str} {s : Str} {k : Nat} (hk : pat zs s = k) (hn : ¬ zs[k]? = some s) : put zs s = (([] ++ zs.take k) ++ [s]) ++ zs.drop k := by
  unfold put
  rw [hk, if_neg hn]; simp
theorem put_same {zs : List Str} {s : Str} {k : Nat} (hk : pat zs s = k) (hn : zs[k]? = some s) : put zs s = zs := by
  unfold put
  rw [hk, if_pos hn]

end Go.Proofs.Ytmhbblehgckelaa
