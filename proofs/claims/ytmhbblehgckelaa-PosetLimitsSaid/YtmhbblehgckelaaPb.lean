/- Plain: links between strings, what they lead to; declarations and their order. -/
import Derived.Test.YtmhbblehgckelaaPa
namespace Go.Proofs.Ytmhbblehgckelaa

/-- From x to y by one or more links. -/
inductive Rc (f : Str → List Str) : Str → Str → Prop
  | one {x y : Str} : y ∈ f x → Rc f x y
  | more {x y z : Str} : Rc f x y → z ∈ f y → Rc f x z
theorem Rc.trans {f : Str → List Str} {x y z : Str} (h : Rc f x y) (g : Rc f y z) : Rc f x z := by
  induction g with
  | one e => exact .more h e
  | more _ e ih => exact .more ih e
theorem Rc.turn {f g : Str → List Str} (h : ∀ x y, y ∈ f x → x ∈ g y) {x y : Str} (r : Rc f x y) : Rc g y x := by
  induction r with
  | one e => exact .one (h _ _ e)
  | more _ e ih => exact (Rc.one (h _ _ e)).trans ih
theorem Rc.last {f : Str → List Str} {x z : Str} (r : Rc f x z) : ∃ y, z ∈ f y := by
  cases r with
  | one e => exact ⟨_, e⟩
  | more _ e => exact ⟨_, e⟩
theorem Rc.first {f : Str → List Str} {x z : Str} (r : Rc f x z) : ∃ y, y ∈ f x := by
  induction r with
  | one e => exact ⟨_, e⟩
  | more _ _ ih => exact ih
theorem Rc.congr {f g : Str → List Str} (h : ∀ x y, y ∈ f x → y ∈ g x) {x y : Str} (r : Rc f x y) : Rc g x y := by
  induction r with
  | one e => exact .one (h _ _ e)
  | more _ e ih => exact .more ih (h _ _ e)

/-- A declaration: its name, its supertypes, how many features. -/
structure Dec where
  name : Str
  sup : List Str
  nf : Nat
def nms (D : List Dec) : List Str := D.map Dec.name
theorem nms_len (D : List Dec) : (nms D).length = D.length := by simp [nms]
/-- The first declaration with this name. -/
def fnd (D : List Dec) (x : Str) : Option Dec := D.find? fun d => d.name == x
def up (D : List Dec) (x : Str) : List Str := match fnd D x with | some d => d.sup | none => []
/-- The types directly below one, in the order of declarations. -/
def dn (D : List Dec) (x : Str) : List Str := D.flatMap fun d => (d.sup.filter (· == x)).map fun _ => d.name
theorem mem_dn {D : List Dec} {x y : Str} : y ∈ dn D x ↔ ∃ d ∈ D, d.name = y ∧ x ∈ d.sup := by
  unfold dn
  rw [List.mem_flatMap]
  constructor
  · rintro ⟨d, hd, h⟩
    obtain ⟨z, hz, e⟩ := List.mem_map.1 h
    obtain ⟨h1, h2⟩ := List.mem_filter.1 hz
    have : z = x := by simpa using h2
    exact ⟨d, hd, e, this ▸ h1⟩
  · rintro ⟨d, hd, e, hx⟩
    exact ⟨d, hd, List.mem_map.2 ⟨x, List.mem_filter.2 ⟨hx, by simp⟩, e⟩⟩
theorem fnd_some {D : List Dec} {x : Str} {d : Dec} (h : fnd D x = some d) : d ∈ D ∧ d.name = x := by
  unfold fnd at h
  exact ⟨List.mem_of_find?_eq_some h, by simpa using List.find?_some h⟩
theorem fnd_none {D : List Dec} {x : Str} (h : fnd D x = none) : x ∉ nms D := by
  intro hx
  obtain ⟨d, hd, e⟩ := List.mem_map.1 hx
  unfold fnd at h
  have := List.find?_eq_none.1 h d hd
  exact this (by simp [e])
theorem fnd_mem {D : List Dec} {x : Str} (h : x ∈ nms D) : ∃ d, fnd D x = some d := by
  cases e : fnd D x with
  | none => exact absurd h (fnd_none e)
  | some d => exact ⟨d, rfl⟩
/-- Names are different: each declaration is found by its name. -/
theorem fnd_of {D : List Dec} (hn : (nms D).Nodup) {d : Dec} (hd : d ∈ D) : fnd D d.name = some d := by
  induction D with
  | nil => cases hd
  | cons a D ih =>
    have h2 : a.name ∉ nms D ∧ (nms D).Nodup := List.nodup_cons.1 hn
    unfold fnd
    rw [List.find?_cons]
    rcases List.mem_cons.1 hd with e | e
    · subst e; simp
    · have : (a.name == d.name) = false := by
        rw [beq_eq_false_iff_ne]
        intro e2
        exact h2.1 (e2 ▸ List.mem_map.2 ⟨d, e, rfl⟩)
      rw [this]
      exact ih h2.2 e
theorem up_of {D : List Dec} (hn : (nms D).Nodup) {d : Dec} (hd : d ∈ D) : up D d.name = d.sup := by
  unfold up; rw [fnd_of hn hd]
theorem mem_up {D : List Dec} {x y : Str} (h : y ∈ up D x) : ∃ d ∈ D, d.name = x ∧ y ∈ d.sup := by
  unfold up at h
  split at h
  · rename_i d e; exact ⟨d, (fnd_some e).1, (fnd_some e).2, h⟩
  · cases h
theorem dn_up {D : List Dec} (hn : (nms D).Nodup) {x y : Str} : y ∈ dn D x ↔ x ∈ up D y := by
  rw [mem_dn]
  constructor
  · rintro ⟨d, hd, e, hx⟩
    subst e
    rw [up_of hn hd]; exact hx
  · intro h
    obtain ⟨d, hd, e, hx⟩ := mem_up h
    exact ⟨d, hd, e, hx⟩

/-- What holds of declarations behind the numbers 1 to 3 of Check, but for the limits. -/
structure Ok (D : List Dec) : Prop where
  nodup : (nms D).Nodup
  decl : ∀ d ∈ D, ∀ s ∈ d.sup, s ∈ nms D
  once : ∀ d ∈ D, d.sup.Nodup

/-! ### The order -/
/-- May this name be the next one? -/
def may (D : List Dec) (out : List Str) (x : Str) : Prop := x ∈ nms D ∧ x ∉ out ∧ ∀ s ∈ up D x, s ∈ out
/-- The next name is the least one that may be. -/
def nxt (D : List Dec) (out : List Str) (x : Str) : Prop := may D out x ∧ ∀ y, may D out y → ¬ y < x
theorem nxt_one {D : List Dec} {out : List Str} {x y : Str} (h : nxt D out x) (g : nxt D out y) : x = y := by
  rcases str_tri x y with e | e | e
  · exact absurd e (g.2 x h.1)
  · exact e
  · exact absurd e (h.2 y g.1)
/-- Lists that are built by next names. -/
inductive Plc (D : List Dec) : List Str → Prop
  | nil : Plc D []
  | snoc {out : List Str} {x : Str} : Plc D out → nxt D out x → Plc D (out ++ [x])
def Done (D : List Dec) (out : List Str) : Prop := ∀ x, ¬ may D out x
theorem plc_prefix {D : List Dec} {a b : List Str} (ha : Plc D a) (hb : Plc D b) : a <+: b ∨ b <+: a := by
  induction ha generalizing b with
  | nil => exact .inl (List.nil_prefix)
  | @snoc a x ha hx ih =>
    rcases ih hb with ⟨t, rfl⟩ | ⟨t, e⟩
    · -- a is a beginning of b = a ++ t
      cases t with
      | nil => right; rw [List.append_nil]; exact List.prefix_append _ _
      | cons y t =>
        left
        have : ∀ {l : List Str}, Plc D l → ∀ (t' : List Str) (z : Str), l = a ++ z :: t' → nxt D a z := by
          intro l hl
          induction hl with
          | nil => intro t' z e; simp at e
          | @snoc o w ho hw iho =>
            intro t' z e
            rcases List.eq_nil_or_concat t' with rfl | ⟨t2, u, rfl⟩
            · have := List.append_inj' (s₁ := o) (t₁ := [w]) (s₂ := a) (t₂ := [z]) e rfl
              obtain ⟨e1, e2⟩ := this
              cases e2; subst e1; exact hw
            · have e' : o ++ [w] = (a ++ z :: t2) ++ [u] := by rw [e]; simp
              have := List.append_inj' e' rfl
              exact iho t2 z this.1
        have hy := this hb t y rfl
        have : x = y := nxt_one hx hy
        subst this
        exact ⟨t, by simp⟩
    · right; exact ⟨t ++ [x], by rw [← List.append_assoc, e]⟩
theorem plc_done {D : List Dec} {a b : List Str} (ha : Plc D a) (hb : Plc D b) (da : Done D a) (db : Done D b) : a = b := by
  have key : ∀ {a b : List Str}, Plc D b → Done D a → a <+: b → a = b := by
    intro a b hb da h
    obtain ⟨t, e⟩ := h
    have : ∀ {l : List Str}, Plc D l → ∀ t : List Str, l = a ++ t → t = [] := by
      intro l hl
      induction hl with
      | nil => intro t e; simp at e; exact e.2
      | @snoc o w ho hw iho =>
        intro t e
        rcases List.eq_nil_or_concat t with rfl | ⟨t2, u, rfl⟩
        · rfl
        · have e' : o ++ [w] = (a ++ t2) ++ [u] := by rw [e]; simp
          have := List.append_inj' e' rfl
          have h2 := iho t2 this.1
          subst h2
          rw [List.append_nil] at this
          exact absurd (this.1 ▸ hw.1) (da w)
    have := this hb t e.symm
    subst this
    simpa using e
  rcases plc_prefix ha hb with h | h
  · exact key hb da h
  · exact (key ha db h).symm
theorem Plc.nodup {D : List Dec} {a : List Str} (h : Plc D a) : a.Nodup := by
  induction h with
  | nil => exact List.nodup_nil
  | snoc _ hx ih =>
    rw [List.nodup_append]
    refine ⟨ih, by simp, ?_⟩
    intro y hy z hz
    simp at hz
    subst hz
    exact fun e => hx.1.2.1 (e ▸ hy)
theorem Plc.sub {D : List Dec} {a : List Str} (h : Plc D a) : ∀ x ∈ a, x ∈ nms D := by
  induction h with
  | nil => intro x hx; cases hx
  | snoc _ hx ih =>
    intro y hy
    rcases List.mem_append.1 hy with e | e
    · exact ih y e
    · simp at e; subst e; exact hx.1.1
theorem nodup_len {a b : List Str} (h : a.Nodup) (hs : ∀ x ∈ a, x ∈ b) : a.length ≤ b.length := by
  induction a generalizing b with
  | nil => exact Nat.zero_le _
  | cons x a ih =>
    obtain ⟨h1, h2⟩ := List.nodup_cons.1 h
    have hx := hs x (List.mem_cons_self ..)
    have := ih (b := b.erase x) h2 (fun y hy => by
      have hne : y ≠ x := fun e => h1 (e ▸ hy)
      exact (List.mem_erase_of_ne hne).2 (hs y (List.mem_cons_of_mem _ hy)))
    rw [List.length_erase_of_mem hx] at this
    have : 0 < b.length := List.length_pos_of_mem hx
    rw [List.length_cons]; omega
theorem Plc.len {D : List Dec} {a : List Str} (h : Plc D a) : a.length ≤ D.length := by
  have := nodup_len h.nodup h.sub
  rwa [nms_len] at this
/-- Each name comes behind its supertypes. -/
theorem Plc.behind {D : List Dec} {a : List Str} (h : Plc D a) : ∀ (b c : List Str) (x : Str), a = b ++ x :: c → ∀ s ∈ up D x, s ∈ b := by
  induction h with
  | nil => intro b c x e; simp at e
  | @snoc o w ho hw ih =>
    intro b c x e
    rcases List.eq_nil_or_concat c with rfl | ⟨t2, u, rfl⟩
    · have := List.append_inj' (s₁ := o) (t₁ := [w]) (s₂ := b) (t₂ := [x]) e rfl
      obtain ⟨e1, e2⟩ := this
      cases e2; subst e1
      exact hw.1.2.2
    · have e' : o ++ [w] = (b ++ x :: t2) ++ [u] := by rw [e]; simp
      have := List.append_inj' e' rfl
      exact ih b t2 x this.1
theorem Plc.sup {D : List Dec} {a : List Str} (h : Plc D a) {x : Str} (hx : x ∈ a) : ∀ s ∈ up D x, s ∈ a := by
  obtain ⟨b, c, e⟩ := List.append_of_mem hx
  intro s hs
  rw [e]
  exact List.mem_append_left _ (h.behind b c x e s hs)
/-- No name in the order leads to itself. -/
theorem Plc.acyc {D : List Dec} {a : List Str} (h : Plc D a) {x y : Str} (r : Rc (up D) x y) (hx : x ∈ a) : x ≠ y := by
  have key : ∀ {x y : Str}, Rc (up D) x y → ∀ b c, a = b ++ x :: c → y ∈ b := by
    intro x y r
    induction r with
    | one e => intro b c ha; exact h.behind b c _ ha _ e
    | @more y z _ e ih =>
      intro b c ha
      have hy := ih b c ha
      obtain ⟨b1, c1, e1⟩ := List.append_of_mem hy
      have := h.behind b1 (c1 ++ x :: c) y (by rw [ha, e1]; simp) z e
      rw [e1]; exact List.mem_append_left _ this
  obtain ⟨b, c, e⟩ := List.append_of_mem hx
  have hy := key r b c e
  intro e2
  subst e2
  have hn := h.nodup
  rw [e, List.nodup_append] at hn
  exact hn.2.2 x hy x (List.mem_cons_self ..) rfl
/-- The order of declarations exists. -/
theorem least_of {p : Str → Prop} (l : List Str) (h : ∃ x ∈ l, p x) : ∃ x ∈ l, p x ∧ ∀ y ∈ l, p y → ¬ y < x := by
  induction l with
  | nil => obtain ⟨x, hx, _⟩ := h; cases hx
  | cons a l ih =>
    by_cases ha : p a
    · by_cases hl : ∃ x ∈ l, p x
      · obtain ⟨x, hx, px, hm⟩ := ih hl
        by_cases hax : a < x
        · refine ⟨a, List.mem_cons_self .., ha, fun y hy py h => ?_⟩
          rcases List.mem_cons.1 hy with e | e
          · subst e; exact List.lt_irrefl _ h
          · exact hm y e py (List.lt_trans h hax)
        · refine ⟨x, List.mem_cons_of_mem _ hx, px, fun y hy py hlt => ?_⟩
          rcases List.mem_cons.1 hy with e | e
          · exact hax (e ▸ hlt)
          · exact hm y e py hlt
      · refine ⟨a, List.mem_cons_self .., ha, fun y hy py h => ?_⟩
        rcases List.mem_cons.1 hy with e | e
        · subst e; exact List.lt_irrefl _ h
        · exact hl ⟨y, e, py⟩
    · have hl : ∃ x ∈ l, p x := by
        obtain ⟨x, hx, px⟩ := h
        rcases List.mem_cons.1 hx with e | e
        · subst e; exact absurd px ha
        · exact ⟨x, e, px⟩
      obtain ⟨x, hx, px, hm⟩ := ih hl
      refine ⟨x, List.mem_cons_of_mem _ hx, px, fun y hy py h => ?_⟩
      rcases List.mem_cons.1 hy with e | e
      · subst e; exact ha py
      · exact hm y e py h
theorem plc_exists (D : List Dec) : ∃ out, Plc D out ∧ Done D out := by
  suffices ∀ n out, Plc D out → D.length - out.length ≤ n → ∃ o, Plc D o ∧ Done D o from this D.length [] .nil (by simp)
  intro n
  induction n with
  | zero =>
    intro out h hn
    by_cases hd : Done D out
    · exact ⟨out, h, hd⟩
    · unfold Done at hd
      have : ∃ x, may D out x := Classical.byContradiction fun e => hd (fun x hx => e ⟨x, hx⟩)
      obtain ⟨x, hx⟩ := this
      obtain ⟨y, _, my, hm⟩ := least_of (p := may D out) (nms D) ⟨x, hx.1, hx⟩
      have := (Plc.snoc h ⟨my, fun z hz => hm z hz.1 hz⟩).len
      rw [List.length_append] at this
      simp at this; omega
  | succ n ih =>
    intro out h hn
    by_cases hd : Done D out
    · exact ⟨out, h, hd⟩
    · unfold Done at hd
      have : ∃ x, may D out x := Classical.byContradiction fun e => hd (fun x hx => e ⟨x, hx⟩)
      obtain ⟨x, hx⟩ := this
      obtain ⟨y, _, my, hm⟩ := least_of (p := may D out) (nms D) ⟨x, hx.1, hx⟩
      have hp := Plc.snoc h ⟨my, fun z hz => hm z hz.1 hz⟩
      have hl := hp.len
      refine ih _ hp ?_
      rw [List.length_append] at hl ⊢
      simp at hl ⊢; omega
/-- The names in their order. -/
noncomputable def plc (D : List Dec) : List Str := Classical.choose (plc_exists D)
theorem plc_plc (D : List Dec) : Plc D (plc D) := (Classical.choose_spec (plc_exists D)).1
theorem plc_is {D : List Dec} {a : List Str} (h : Plc D a) (hd : Done D a) : a = plc D := plc_done h (plc_plc D) hd (Classical.choose_spec (plc_exists D)).2
end Go.Proofs.Ytmhbblehgckelaa
