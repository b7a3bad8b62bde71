/- Plain: what covers, what stands apart. The walk of valid. -/
import Derived.Test.YtmhbblehgckelaaQf
namespace Go.Proofs.Ytmhbblehgckelaa
open Go.RowKit Go.Maps

theorem top_of {R : Str → Str → Prop} (tr : ∀ x y z, R x y → R y z → R x z) : ∀ (L : List Str), (∀ x ∈ L, ¬ R x x) → ∀ s, ∃ t, (t = s ∨ (t ∈ L ∧ R s t)) ∧ ∀ y ∈ L, ¬ R t y
  | [], _, s => ⟨s, .inl rfl, fun _ h => (List.not_mem_nil h).elim⟩
  | a :: L, irr, s => by
    obtain ⟨t, h1, h2⟩ := top_of tr L (fun x hx => irr x (List.mem_cons_of_mem _ hx)) s
    by_cases h : R t a
    · obtain ⟨u, g1, g2⟩ := top_of tr L (fun x hx => irr x (List.mem_cons_of_mem _ hx)) a
      have hsa : R s a := by
        rcases h1 with e | ⟨_, e⟩
        · rw [← e]; exact h
        · exact tr _ _ _ e h
      refine ⟨u, .inr ?_, fun y hy hr => ?_⟩
      · rcases g1 with e | ⟨e1, e2⟩
        · rw [e]; exact ⟨List.mem_cons_self .., hsa⟩
        · exact ⟨List.mem_cons_of_mem _ e1, tr _ _ _ hsa e2⟩
      · rcases List.mem_cons.1 hy with e | e
        · subst e
          rcases g1 with e | ⟨_, e2⟩
          · rw [e] at hr; exact irr _ (List.mem_cons_self ..) hr
          · exact irr _ (List.mem_cons_self ..) (tr _ _ _ e2 hr)
        · exact g2 y e hr
    · refine ⟨t, ?_, fun y hy hr => ?_⟩
      · rcases h1 with e | ⟨e1, e2⟩
        · exact .inl e
        · exact .inr ⟨List.mem_cons_of_mem _ e1, e2⟩
      · rcases List.mem_cons.1 hy with e | e
        · rw [e] at hr; exact h hr
        · exact h2 y e hr
theorem mem_mx {D : List Dec} (ok : Ok D) {l : List Str} {x : Str} : x ∈ mx D l ↔ x ∈ dcl D l ∧ ∀ y ∈ dcl D l, y = x ∨ ¬ Rc (up D) x y := by
  unfold mx
  rw [List.mem_filter, List.all_eq_true]
  refine and_congr_right fun hx => forall_congr' fun y => imp_congr_right fun hy => ?_
  have hxn := (mem_dcl.1 hx).2
  rw [Bool.or_eq_true, beq_iff_eq, Bool.not_eq_true', Bool.eq_false_iff]
  by_cases e : y = x
  · simp [e]
  · simp only [e, false_or]
    refine not_congr ?_
    rw [List.contains_iff_mem, mem_ab ok]
    simp [hxn, e]
theorem mem_mn {D : List Dec} (ok : Ok D) {l : List Str} {x : Str} : x ∈ mn D l ↔ x ∈ dcl D l ∧ ∀ y ∈ dcl D l, y = x ∨ ¬ Rc (up D) y x := by
  unfold mn
  rw [List.mem_filter, List.all_eq_true]
  refine and_congr_right fun hx => forall_congr' fun y => imp_congr_right fun hy => ?_
  have hyn := (mem_dcl.1 hy).2
  rw [Bool.or_eq_true, beq_iff_eq, Bool.not_eq_true', Bool.eq_false_iff]
  by_cases e : y = x
  · simp [e]
  · simp only [e, false_or]
    refine not_congr ?_
    rw [List.contains_iff_mem, mem_ab ok]
    have e2 : ¬ x = y := fun h => e h.symm
    simp [hyn, e2]
theorem mx_cov {D : List Dec} (hc : chkN D = 0) {l : List Str} {s : Str} (hs : s ∈ dcl D l) : ∃ t ∈ mx D l, s ∈ bl D t := by
  have hg := goodN hc
  obtain ⟨t, h1, h2⟩ := top_of (R := fun x y => Rc (up D) x y) (fun _ _ _ => Rc.trans) (dcl D l) (fun x hx r => hg.acyc r (mem_dcl.1 hx).2 rfl) s
  have htd : t ∈ dcl D l := by
    rcases h1 with e | e
    · rw [e]; exact hs
    · exact e.1
  refine ⟨t, (mem_mx hg.ok).2 ⟨htd, fun y hy => .inr (h2 y hy)⟩, mem_bl.2 ⟨(mem_dcl.1 htd).2, ?_⟩⟩
  rcases h1 with e | e
  · exact .inl e.symm
  · exact .inr ((rc_turn hg.ok).2 e.2)
theorem mn_cov {D : List Dec} (hc : chkN D = 0) {l : List Str} {s : Str} (hs : s ∈ dcl D l) : ∃ t ∈ mn D l, s ∈ ab D t := by
  have hg := goodN hc
  obtain ⟨t, h1, h2⟩ := top_of (R := fun x y => Rc (up D) y x) (fun _ _ _ h g => Rc.trans g h) (dcl D l) (fun x hx r => hg.acyc r (mem_dcl.1 hx).2 rfl) s
  have htd : t ∈ dcl D l := by
    rcases h1 with e | e
    · rw [e]; exact hs
    · exact e.1
  refine ⟨t, (mem_mn hg.ok).2 ⟨htd, fun y hy => .inr (h2 y hy)⟩, (mem_ab hg.ok).2 ⟨(mem_dcl.1 htd).2, ?_⟩⟩
  rcases h1 with e | e
  · exact .inl e.symm
  · exact .inr e.2
/-- A list of names of l, of which none is below another. -/
structure Aside (D : List Dec) (l L : List Str) : Prop where
  nodup : L.Nodup
  sub : ∀ x ∈ L, x ∈ l
  ap : ∀ x ∈ L, ∀ y ∈ L, x ≠ y → x ∉ bl D y
theorem mx_apart {D : List Dec} (hc : chkN D = 0) (l : List Str) : Aside D l (mx D l) := by
  have hg := goodN hc
  refine ⟨((srt_asc _).nodup).sublist List.filter_sublist, fun x hx => (mem_dcl.1 ((mem_mx hg.ok).1 hx).1).1, fun x hx y hy hne hb => ?_⟩
  rcases ((mem_mx hg.ok).1 hx).2 y ((mem_mx hg.ok).1 hy).1 with e | e
  · exact hne e.symm
  · rcases (mem_bl.1 hb).2 with g | g
    · exact hne g
    · exact e ((rc_turn hg.ok).1 g)
theorem mn_apart {D : List Dec} (hc : chkN D = 0) (l : List Str) : Aside D l (mn D l) := by
  have hg := goodN hc
  refine ⟨((srt_asc _).nodup).sublist List.filter_sublist, fun x hx => (mem_dcl.1 ((mem_mn hg.ok).1 hx).1).1, fun x hx y hy hne hb => ?_⟩
  rcases ((mem_mn hg.ok).1 hy).2 x ((mem_mn hg.ok).1 hx).1 with e | e
  · exact hne e
  · rcases (mem_bl.1 hb).2 with g | g
    · exact hne g
    · exact e ((rc_turn hg.ok).1 g)
/-- Has one of the first j of these names s among its f? -/
def covB (f : Str → List Str) (L : List Str) (s : Str) (j : Nat) : Bool := (L.take j).any fun t => inS (f t) s
theorem covB_zero (f : Str → List Str) (L : List Str) (s : Str) : covB f L s 0 = false := by unfold covB; rw [List.take_zero]; rfl
theorem covB_succ {f : Str → List Str} {L : List Str} {s : Str} {j : Nat} (h : j < L.length) : covB f L s (j + 1) = (covB f L s j || inS (f (st L j)) s) := by
  unfold covB
  rw [take_st h, List.any_append]
  simp
theorem covB_all {f : Str → List Str} {L : List Str} {s : Str} (h : ∃ t ∈ L, s ∈ f t) : covB f L s L.length = true := by
  unfold covB
  rw [List.take_length, List.any_eq_true]
  obtain ⟨t, ht, hs⟩ := h
  exact ⟨t, ht, inS_iff.2 hs⟩

def vld (D : List Dec) : Prop := lite D = true ∧ chkN D = 0
set_option maxRecDepth 100000 in
theorem valid_any (w : World) (a : Option Addr) (n cap : Nat) (D : List Dec) (h : IsDecs w a n cap D) :
    Calls Try.prog 6 #[.slice a n cap] w fun e w' => ∃ b : Bool, e = .returned (.bool b) ∧ (b = true ↔ vld D) ∧ Below w.heap.size w w' := by
  have HD := Lib.hid h
  have CK := Lib.hid (rCheck_any w a n cap D h)
  obtain ⟨b, hb⟩ : ∃ b, lite D = b := ⟨_, rfl⟩
  have LT : Hid (Calls Try.prog 16 #[.slice a n cap] w fun e w' => e = .returned (.bool b) ∧ w = w') := hb ▸ Light_any w a n cap D h
  clear h
  go_enter Try.func6, Try.ntmps6
  cases b
  · go_wp2_with (go_at_call 16; refine LT.out.mono ?_; rintro e w1 ⟨rfl, rfl⟩)
    go_ret
    exact ⟨false, rfl, ⟨(fun e => by cases e), fun e => by rw [e.1] at hb; cases hb⟩, Below.refl _ _⟩
  · obtain ⟨c, hc⟩ : ∃ z, chkN D = z := ⟨_, rfl⟩
    rw [hc] at CK
    have HC := Lib.hid hc
    have HB := Lib.hid hb
    clear hc hb
    go_wp2_with (first
      | (go_at_call 16; refine LT.out.mono ?_; rintro e w1 ⟨rfl, rfl⟩)
      | (go_at_call 17; refine CK.out.mono ?_; rintro e w3 ⟨rfl, hb3⟩))
    go_ret
    refine ⟨_, rfl, ?_, hb3⟩
    unfold vld
    rw [HC.out, HB.out]
    simp
end Go.Proofs.Ytmhbblehgckelaa
