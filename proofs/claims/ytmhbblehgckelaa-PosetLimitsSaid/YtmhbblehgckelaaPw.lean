/- Plain: what the loop of the program's order keeps. -/
import Derived.Test.YtmhbblehgckelaaPv
namespace Go.Proofs.Ytmhbblehgckelaa

/-- How many direct supertypes are not in the order yet. -/
def cnt (D : List Dec) (out : List Str) (x : Str) : Nat := ((up D x).filter fun s => !inS out s).length
theorem cnt_zero {D : List Dec} {out : List Str} {x : Str} : cnt D out x = 0 ↔ ∀ s ∈ up D x, s ∈ out := by
  unfold cnt
  rw [List.length_eq_zero_iff, List.filter_eq_nil_iff]
  constructor
  · intro h s hs
    have := h s hs
    simp at this
    exact inS_iff.1 this
  · intro h s hs
    have := inS_iff.2 (h s hs)
    simp [this]
theorem cnt_nil (D : List Dec) (x : Str) : cnt D [] x = (up D x).length := by
  unfold cnt
  rw [List.filter_eq_self.2 fun s _ => by rfl]
theorem filter_one {l : List Str} (hn : l.Nodup) (p : Str → Bool) {y : Str} (hy : y ∈ l) (hp : p y = true) : (l.filter p).length = (l.filter fun s => p s && !(s == y)).length + 1 := by
  induction l with
  | nil => cases hy
  | cons a l ih =>
    obtain ⟨h1, h2⟩ := List.nodup_cons.1 hn
    rcases List.mem_cons.1 hy with e | e
    · subst e
      rw [List.filter_cons, if_pos hp, List.filter_cons]
      have h3 : ¬ ((p y && !(y == y)) = true) := by simp
      rw [if_neg h3, List.length_cons]
      congr 2
      refine List.filter_congr fun s hs => ?_
      have : (s == y) = false := by
        rw [beq_eq_false_iff_ne]; intro e2; exact h1 (e2 ▸ hs)
      rw [this]; simp
    · have hne : (a == y) = false := by
        rw [beq_eq_false_iff_ne]; intro e2; exact h1 (e2 ▸ e)
      have := ih h2 e
      rw [List.filter_cons, List.filter_cons]
      by_cases ha : p a = true
      · rw [if_pos ha, if_pos (by rw [ha, hne]; rfl), List.length_cons, List.length_cons, this]
      · rw [if_neg ha, if_neg (by simp [ha]), this]
theorem up_nodup {D : List Dec} (ok : Ok D) (x : Str) : (up D x).Nodup := by
  unfold up
  split
  · rename_i d e; exact ok.once d (fnd_some e).1
  · exact List.nodup_nil
theorem cnt_snoc {D : List Dec} (ok : Ok D) {out : List Str} {y x : Str} (hy : y ∉ out) : cnt D out x = cnt D (out ++ [y]) x + if y ∈ up D x then 1 else 0 := by
  unfold cnt
  have e : (fun s => !inS (out ++ [y]) s) = fun s => (!inS out s) && !(s == y) := by
    funext s; rw [inS_snoc]; simp [Bool.and_comm]
  rw [e]
  by_cases h : y ∈ up D x
  · rw [if_pos h]
    exact filter_one (up_nodup ok x) (fun s => !inS out s) h (by simp [inS_not.2 hy])
  · rw [if_neg h, Nat.add_zero]
    congr 1
    refine List.filter_congr fun s hs => ?_
    have : (s == y) = false := by
      rw [beq_eq_false_iff_ne]; intro e2; exact h (e2 ▸ hs)
    rw [this]; simp
theorem cnt_le (D : List Dec) (out : List Str) (x : Str) : cnt D out x ≤ (up D x).length := List.length_filter_le _ _
theorem dn_nodup {D : List Dec} (ok : Ok D) (x : Str) : (dn D x).Nodup := by
  have hn := ok.nodup
  have ho := ok.once
  clear ok
  induction D with
  | nil => exact List.nodup_nil
  | cons d D ih =>
    obtain ⟨h1, h2⟩ := List.nodup_cons.1 hn
    have hi := ih h2 (fun e he => ho e (List.mem_cons_of_mem _ he))
    unfold dn
    rw [List.flatMap_cons, List.nodup_append]
    refine ⟨?_, hi, ?_⟩
    · have hd := ho d (List.mem_cons_self ..)
      have hle : (d.sup.filter (· == x)).length ≤ 1 := by
        have h3 : (d.sup.filter (· == x)).Nodup := hd.sublist List.filter_sublist
        have h4 : ∀ y ∈ d.sup.filter (· == x), y ∈ [x] := fun y hy => by
          have := (List.mem_filter.1 hy).2
          simp at this; simp [this]
        have := nodup_len h3 h4
        simpa using this
      have hml : ((d.sup.filter (· == x)).map fun _ => d.name).length ≤ 1 := by rw [List.length_map]; exact hle
      cases hc : (d.sup.filter (· == x)).map fun _ => d.name with
      | nil => exact List.nodup_nil
      | cons a t =>
        rw [hc, List.length_cons] at hml
        have : t = [] := List.eq_nil_of_length_eq_zero (by omega)
        subst this
        simp
    · intro y hy z hz e
      obtain ⟨_, _, e2⟩ := List.mem_map.1 hy
      have hz2 : z ∈ nms D := dn_mem (D := D) (x := x) hz
      rw [← e, ← e2] at hz2
      exact h1 hz2

/-- What is ready behind j of the types below the newest one. -/
structure Rdy (D : List Dec) (out : List Str) (y : Str) (j : Nat) (rd : List Str) : Prop where
  nodup : rd.Nodup
  mem : ∀ x, x ∈ rd ↔ (may D out x ∧ x ≠ y) ∨ (x ∈ (dn D y).take j ∧ cnt D (out ++ [y]) x = 0)
theorem rdy_start {D : List Dec} {out rd : List Str} {y : Str} (hn : rd.Nodup) (hm : ∀ x, x ∈ rd ↔ may D out x) {k : Nat} (hk : k < rd.length) (hy : st rd k = y) : Rdy D out y 0 (rd.eraseIdx k) := by
  refine ⟨hn.sublist (List.eraseIdx_sublist _ _), fun x => ?_⟩
  rw [List.take_zero]
  constructor
  · intro hx
    rw [List.mem_eraseIdx_iff_getElem] at hx
    obtain ⟨i, hi, hne, e⟩ := hx
    have hxr : x ∈ rd := e ▸ List.getElem_mem _
    refine .inl ⟨(hm x).1 hxr, fun e2 => hne ?_⟩
    have h1 := st_get hk
    rw [hy] at h1
    have h2 : rd[i]? = some y := by rw [List.getElem?_eq_getElem hi, e, e2]
    exact prefix_nodup_at hn h2 h1
  · rintro (⟨h1, h2⟩ | ⟨h1, _⟩)
    · rw [List.mem_eraseIdx_iff_getElem]
      obtain ⟨i, hi, e⟩ := List.getElem_of_mem ((hm x).2 h1)
      refine ⟨i, hi, fun e2 => h2 ?_, e⟩
      have h1 := st_get hk
      rw [hy] at h1
      rw [← e2, List.getElem?_eq_getElem hi, e] at h1
      exact Option.some.inj h1
    · cases h1
theorem not_ready {D : List Dec} (ok : Ok D) {out : List Str} (hp : Plc D out) {y x : Str} (hy : nxt D out y) (hx : y ∈ up D x) : x ∉ out ∧ ¬ may D out x ∧ x ≠ y := by
  have hyo := hy.1.2.1
  refine ⟨fun h => hyo (hp.sup h y hx), fun h => hyo (h.2.2 y hx), fun e => ?_⟩
  subst e
  exact hyo (hy.1.2.2 _ hx)
theorem Rdy.skip {D : List Dec} {out rd : List Str} {y : Str} {j : Nat} (h : Rdy D out y j rd) (hj : j < (dn D y).length) (hc : ¬ cnt D (out ++ [y]) (st (dn D y) j) = 0) : Rdy D out y (j + 1) rd := by
  refine ⟨h.nodup, fun x => ?_⟩
  rw [h.mem, take_st hj, List.mem_append, List.mem_singleton]
  constructor
  · rintro (g | ⟨g1, g2⟩)
    · exact .inl g
    · exact .inr ⟨.inl g1, g2⟩
  · rintro (g | ⟨g1 | g1, g2⟩)
    · exact .inl g
    · exact .inr ⟨g1, g2⟩
    · rw [g1] at g2; exact absurd g2 hc
theorem Rdy.add {D : List Dec} (ok : Ok D) {out rd : List Str} (hp : Plc D out) {y : Str} (hy : nxt D out y) {j : Nat} (h : Rdy D out y j rd) (hj : j < (dn D y).length) (hc : cnt D (out ++ [y]) (st (dn D y) j) = 0) : Rdy D out y (j + 1) (rd ++ [st (dn D y) j]) := by
  have hin : st (dn D y) j ∈ dn D y := st_mem hj
  have hup : y ∈ up D (st (dn D y) j) := (dn_up ok.nodup).1 hin
  have hnr := not_ready ok hp hy hup
  have hnd : st (dn D y) j ∉ (dn D y).take j := by
    intro hm
    have h2 := take_st hj
    have := (dn_nodup ok y).sublist (List.take_sublist (j + 1) _)
    rw [h2, List.nodup_append] at this
    exact this.2.2 _ hm _ (by simp) rfl
  have hnot : st (dn D y) j ∉ rd := fun hm => by
    rcases (h.mem _).1 hm with ⟨g, _⟩ | ⟨g, _⟩
    · exact hnr.2.1 g
    · exact hnd g
  refine ⟨?_, fun x => ?_⟩
  · rw [List.nodup_append]
    refine ⟨h.nodup, by simp, fun a ha b hb e => ?_⟩
    simp at hb
    subst hb
    exact hnot (e ▸ ha)
  · rw [List.mem_append, List.mem_singleton, h.mem, take_st hj, List.mem_append, List.mem_singleton]
    constructor
    · rintro ((g | ⟨g1, g2⟩) | g)
      · exact .inl g
      · exact .inr ⟨.inl g1, g2⟩
      · rw [g]; exact .inr ⟨.inr rfl, hc⟩
    · rintro (g | ⟨g1 | g1, g2⟩)
      · exact .inl (.inl g)
      · exact .inl (.inr ⟨g1, g2⟩)
      · exact .inr g1
theorem Rdy.end {D : List Dec} (ok : Ok D) {out rd : List Str} (hp : Plc D out) {y : Str} (hy : nxt D out y) (h : Rdy D out y (dn D y).length rd) : ∀ x, x ∈ rd ↔ may D (out ++ [y]) x := by
  intro x
  rw [h.mem, List.take_length]
  constructor
  · rintro (⟨g, hne⟩ | ⟨g, hc⟩)
    · refine ⟨g.1, fun hm => ?_, fun s hs => List.mem_append_left _ (g.2.2 s hs)⟩
      rcases List.mem_append.1 hm with e | e
      · exact g.2.1 e
      · simp at e; exact hne e
    · have hup := (dn_up ok.nodup).1 g
      have hnr := not_ready ok hp hy hup
      refine ⟨dn_mem g, fun hm => ?_, cnt_zero.1 hc⟩
      rcases List.mem_append.1 hm with e | e
      · exact hnr.1 e
      · simp at e; exact hnr.2.2 e
  · intro g
    have hne : x ≠ y := fun e => g.2.1 (by simp [e])
    have hxo : x ∉ out := fun e => g.2.1 (List.mem_append_left _ e)
    by_cases hu : y ∈ up D x
    · exact .inr ⟨(dn_up ok.nodup).2 hu, cnt_zero.2 g.2.2⟩
    · refine .inl ⟨⟨g.1, hxo, fun s hs => ?_⟩, hne⟩
      rcases List.mem_append.1 (g.2.2 s hs) with e | e
      · exact e
      · simp at e; rw [e] at hs; exact absurd hs hu
/-- The counters behind j of the types below the newest one. -/
def cntJ (D : List Dec) (out : List Str) (y : Str) (j : Nat) (x : Str) : Nat := if inS ((dn D y).take j) x then cnt D (out ++ [y]) x else cnt D out x
theorem cntJ_zero (D : List Dec) (out : List Str) (y x : Str) : cntJ D out y 0 x = cnt D out x := rfl
theorem cntJ_succ {D : List Dec} {out : List Str} {y : Str} {j : Nat} (hj : j < (dn D y).length) (x : Str) : cntJ D out y (j + 1) x = if x = st (dn D y) j then cnt D (out ++ [y]) x else cntJ D out y j x := by
  unfold cntJ
  rw [take_st hj, inS_snoc]
  by_cases h : x = st (dn D y) j
  · rw [if_pos h, h]; simp
  · have : (x == st (dn D y) j) = false := by simpa using h
    rw [if_neg h, this, Bool.false_or]
theorem cntJ_at {D : List Dec} (ok : Ok D) {out : List Str} {y : Str} (hy : y ∉ out) {j : Nat} (hj : j < (dn D y).length) : cntJ D out y j (st (dn D y) j) = cnt D (out ++ [y]) (st (dn D y) j) + 1 := by
  have hnd : inS ((dn D y).take j) (st (dn D y) j) = false := by
    rw [inS_not]
    intro hm
    have h2 := take_st hj
    have := (dn_nodup ok y).sublist (List.take_sublist (j + 1) _)
    rw [h2, List.nodup_append] at this
    exact this.2.2 _ hm _ (by simp) rfl
  unfold cntJ
  rw [if_neg (by rw [hnd]; decide), cnt_snoc ok hy, if_pos ((dn_up ok.nodup).1 (st_mem hj))]
theorem cntJ_end {D : List Dec} (ok : Ok D) {out : List Str} {y : Str} (hy : y ∉ out) (x : Str) : cntJ D out y (dn D y).length x = cnt D (out ++ [y]) x := by
  unfold cntJ
  rw [List.take_length]
  split
  · rfl
  · rename_i h
    rw [cnt_snoc ok hy, if_neg, Nat.add_zero]
    intro hu
    exact h (inS_iff.2 ((dn_up ok.nodup).2 hu))
end Go.Proofs.Ytmhbblehgckelaa
