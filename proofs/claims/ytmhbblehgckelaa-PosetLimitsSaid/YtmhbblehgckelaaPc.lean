/- Plain: what the functions of package poset return, in terms of lists. -/
import Derived.Test.YtmhbblehgckelaaPb
namespace Go.Proofs.Ytmhbblehgckelaa

/-! ### The order, computed -/
def mayB (D : List Dec) (out : List Str) (x : Str) : Bool := !out.contains x && (up D x).all out.contains
theorem mayB_iff {D : List Dec} {out : List Str} {x : Str} (hx : x ∈ nms D) : mayB D out x = true ↔ may D out x := by
  unfold mayB may
  simp [hx]
def lower (o : Option Str) (x : Str) : Option Str := match o with | none => some x | some y => if x < y then some x else some y
/-- The least one of some strings. -/
def least (l : List Str) : Option Str := l.foldl lower none
theorem least_snoc (l : List Str) (x : Str) : least (l ++ [x]) = lower (least l) x := by unfold least; rw [List.foldl_append]; rfl
theorem least_none {l : List Str} : least l = none ↔ l = [] := by
  rcases List.eq_nil_or_concat l with rfl | ⟨t, u, rfl⟩
  · exact ⟨fun _ => rfl, fun _ => rfl⟩
  · constructor
    · intro h
      rw [List.concat_eq_append, least_snoc] at h
      unfold lower at h
      split at h
      · cases h
      · split at h <;> cases h
    · intro h; simp at h
theorem least_some (n : Nat) : ∀ {l : List Str} {x : Str}, l.length = n → least l = some x → x ∈ l ∧ ∀ y ∈ l, ¬ y < x := by
  induction n with
  | zero =>
    intro l x hl h
    have := List.eq_nil_of_length_eq_zero hl
    subst this; cases h
  | succ n ih =>
    intro l x hl h
    rcases List.eq_nil_or_concat l with rfl | ⟨t, u, rfl⟩
    · cases h
    · rw [List.concat_eq_append] at h hl ⊢
      rw [least_snoc] at h
      have hlt : t.length = n := by rw [List.length_append] at hl; simpa using hl
      unfold lower at h
      split at h
      · rename_i e
        have := least_none.1 e
        subst this
        cases h
        exact ⟨by simp, fun y hy hlt => by simp at hy; subst hy; exact List.lt_irrefl _ hlt⟩
      · rename_i z e
        obtain ⟨h1, h2⟩ := ih hlt e
        split at h
        · rename_i hlt2
          cases h
          refine ⟨by simp, fun y hy hy2 => ?_⟩
          rcases List.mem_append.1 hy with g | g
          · exact h2 y g (List.lt_trans hy2 hlt2)
          · simp at g; subst g; exact List.lt_irrefl _ hy2
        · rename_i hge
          cases h
          refine ⟨List.mem_append_left _ h1, fun y hy hy2 => ?_⟩
          rcases List.mem_append.1 hy with g | g
          · exact h2 y g hy2
          · simp at g; subst g; exact hge hy2
def nxB (D : List Dec) (out : List Str) : Option Str := least ((nms D).filter (mayB D out))
theorem nxB_some {D : List Dec} {out : List Str} {x : Str} (h : nxB D out = some x) : nxt D out x := by
  obtain ⟨h1, h2⟩ := least_some _ rfl h
  obtain ⟨h3, h4⟩ := List.mem_filter.1 h1
  exact ⟨(mayB_iff h3).1 h4, fun y hy => h2 y (List.mem_filter.2 ⟨hy.1, (mayB_iff hy.1).2 hy⟩)⟩
theorem nxB_none {D : List Dec} {out : List Str} (h : nxB D out = none) : Done D out := by
  intro x hx
  have := least_none.1 h
  have h2 : x ∈ (nms D).filter (mayB D out) := List.mem_filter.2 ⟨hx.1, (mayB_iff hx.1).2 hx⟩
  rw [this] at h2; cases h2
def plF : Nat → List Dec → List Str → List Str
  | 0, _, out => out
  | n + 1, D, out => match nxB D out with | none => out | some x => plF n D (out ++ [x])
theorem plF_plc : ∀ (n : Nat) (D : List Dec) (out : List Str), Plc D out → D.length - out.length ≤ n → Plc D (plF n D out) ∧ Done D (plF n D out)
  | 0, D, out, h, hn => by
    refine ⟨h, ?_⟩
    cases e : nxB D out with
    | none => exact nxB_none e
    | some x =>
      have := (Plc.snoc h (nxB_some e)).len
      rw [List.length_append] at this
      simp at this; omega
  | n + 1, D, out, h, hn => by
    unfold plF
    cases e : nxB D out with
    | none => exact ⟨h, nxB_none e⟩
    | some x =>
      have hp := Plc.snoc h (nxB_some e)
      have hl := hp.len
      refine plF_plc n D _ hp ?_
      rw [List.length_append] at hl ⊢
      simp at hl ⊢; omega
theorem plc_eq (D : List Dec) : plc D = plF D.length D [] := by
  have := plF_plc D.length D [] .nil (by simp)
  exact (plc_is this.1 this.2).symm

/-! ### Check -/
/-- The error of the names, behind some earlier ones. -/
def nmE (nm : Str → Bool) : List Str → List Dec → Nat
  | _, [] => 0
  | ea, d :: r => if nm d.name then (if ea.contains d.name then 4 else nmE nm (ea ++ [d.name]) r) else 1
/-- The error of the supertypes of one declaration. -/
def spE (N : List Str) : List Str → List Str → Nat
  | _, [] => 0
  | ea, s :: r => if N.contains s then (if ea.contains s then 4 else spE N (ea ++ [s]) r) else 5
def suE (N : List Str) : List Dec → Nat
  | [] => 0
  | d :: r => if spE N [] d.sup = 0 then suE N r else spE N [] d.sup
def tops (D : List Dec) : Nat := (D.filter fun d => d.sup.isEmpty).length
def szE (D : List Dec) : Nat := if 256 < D.length then 7 else if D.any (fun d => decide (256 < d.sup.length) || decide (256 < d.nf)) then 7 else 0
noncomputable def chk (nm : Str → Bool) (D : List Dec) : Nat :=
  if szE D ≠ 0 then szE D
  else if nmE nm [] D ≠ 0 then nmE nm [] D
  else if suE (nms D) D ≠ 0 then suE (nms D) D
  else if tops D ≠ 1 then 1
  else if (plc D).length < D.length then 6 else 0
theorem nmE_zero {nm : Str → Bool} : ∀ {D : List Dec} {ea : List Str}, nmE nm ea D = 0 → (nms D).Nodup ∧ (∀ x ∈ nms D, x ∉ ea) ∧ ∀ d ∈ D, nm d.name = true
  | [], _, _ => ⟨List.nodup_nil, (fun _ hx => (List.not_mem_nil hx).elim), (fun _ hd => (List.not_mem_nil hd).elim)⟩
  | d :: r, ea, h => by
    unfold nmE at h
    split at h
    · rename_i hn
      split at h
      · cases h
      · rename_i hc
        obtain ⟨h1, h2, h3⟩ := nmE_zero h
        have hc2 : d.name ∉ ea := by simpa using hc
        refine ⟨List.nodup_cons.2 ⟨fun hm => h2 _ hm (by simp), h1⟩, fun x hx => ?_, fun e he => ?_⟩
        · rcases List.mem_cons.1 hx with e | e
          · rw [e]; exact hc2
          · exact fun hm => h2 x e (List.mem_append_left _ hm)
        · rcases List.mem_cons.1 he with e2 | e2
          · rw [e2]; exact hn
          · exact h3 e e2
    · cases h
theorem spE_zero {N : List Str} : ∀ {l ea : List Str}, spE N ea l = 0 → l.Nodup ∧ (∀ x ∈ l, x ∉ ea) ∧ ∀ x ∈ l, x ∈ N
  | [], _, _ => ⟨List.nodup_nil, (fun _ hx => (List.not_mem_nil hx).elim), (fun _ hd => (List.not_mem_nil hd).elim)⟩
  | s :: r, ea, h => by
    unfold spE at h
    split at h
    · rename_i hn
      split at h
      · cases h
      · rename_i hc
        obtain ⟨h1, h2, h3⟩ := spE_zero h
        have hc2 : s ∉ ea := by simpa using hc
        refine ⟨List.nodup_cons.2 ⟨fun hm => h2 _ hm (by simp), h1⟩, fun x hx => ?_, fun e he => ?_⟩
        · rcases List.mem_cons.1 hx with e | e
          · rw [e]; exact hc2
          · exact fun hm => h2 x e (List.mem_append_left _ hm)
        · rcases List.mem_cons.1 he with e2 | e2
          · rw [e2]; simpa using hn
          · exact h3 e e2
    · cases h
theorem suE_zero {N : List Str} : ∀ {D : List Dec}, suE N D = 0 → ∀ d ∈ D, d.sup.Nodup ∧ ∀ x ∈ d.sup, x ∈ N
  | [], _, d, hd => by cases hd
  | d :: r, h, e, he => by
    unfold suE at h
    split at h
    · rename_i h0
      rcases List.mem_cons.1 he with e2 | e2
      · rw [e2]
        obtain ⟨h1, _, h3⟩ := spE_zero h0
        exact ⟨h1, h3⟩
      · exact suE_zero h e e2
    · rename_i h0; exact absurd h h0
theorem ok_of {nm : Str → Bool} {D : List Dec} (h1 : nmE nm [] D = 0) (h2 : suE (nms D) D = 0) : Ok D :=
  ⟨(nmE_zero h1).1, fun d hd s hs => (suE_zero h2 d hd).2 s hs, fun d hd => (suE_zero h2 d hd).1⟩
structure Good (nm : Str → Bool) (D : List Dec) : Prop where
  sz : szE D = 0
  ok : Ok D
  top : tops D = 1
  all : (plc D).length = D.length
theorem good_of {nm : Str → Bool} {D : List Dec} (h : chk nm D = 0) : Good nm D := by
  unfold chk at h
  split at h
  · rename_i h0; exact absurd h h0
  · rename_i h0
    split at h
    · rename_i h1; exact absurd h h1
    · rename_i h1
      split at h
      · rename_i h2; exact absurd h h2
      · rename_i h2
        split at h
        · cases h
        · rename_i h3
          split at h
          · cases h
          · rename_i h4
            have := (plc_plc D).len
            exact ⟨by omega, ok_of (nm := nm) (by omega) (by omega), by omega, by omega⟩
/-- A nodup list as long as one that has all its elements has all of that. -/
theorem full_of {a b : List Str} (h : a.Nodup) (hs : ∀ x ∈ a, x ∈ b) (hl : a.length = b.length) : ∀ x ∈ b, x ∈ a := by
  intro x hx
  by_cases hxa : x ∈ a
  · exact hxa
  · have := nodup_len (a := x :: a) (b := b) (List.nodup_cons.2 ⟨hxa, h⟩) (fun y hy => by
      rcases List.mem_cons.1 hy with e | e
      · rw [e]; exact hx
      · exact hs y e)
    rw [List.length_cons] at this; omega
theorem Good.plc_all {nm : Str → Bool} {D : List Dec} (h : Good nm D) : ∀ x ∈ nms D, x ∈ plc D :=
  full_of (plc_plc D).nodup (plc_plc D).sub (by rw [nms_len]; exact h.all)
theorem Good.acyc {nm : Str → Bool} {D : List Dec} (h : Good nm D) {x y : Str} (r : Rc (up D) x y) (hx : x ∈ nms D) : x ≠ y :=
  (plc_plc D).acyc r (h.plc_all x hx)
theorem Ok.up_mem {D : List Dec} (h : Ok D) {x y : Str} (hy : y ∈ up D x) : y ∈ nms D := by
  obtain ⟨d, hd, _, hs⟩ := mem_up hy
  exact h.decl d hd y hs
theorem up_left {D : List Dec} {x y : Str} (hy : y ∈ up D x) : x ∈ nms D := by
  obtain ⟨d, hd, e, _⟩ := mem_up hy
  exact List.mem_map.2 ⟨d, hd, e⟩

/-! ### What is above, what is below -/
def add (t : List Str) (y : Str) : List Str := if t.contains y then t else t ++ [y]
def bfs (f : Str → List Str) : Nat → Nat → List Str → List Str
  | 0, _, t => t
  | n + 1, i, t => match t[i]? with | none => t | some x => bfs f n (i + 1) ((f x).foldl add t)
theorem mem_add {t : List Str} {x y : Str} : x ∈ add t y ↔ x ∈ t ∨ x = y := by
  unfold add
  split
  · rename_i h
    constructor
    · exact .inl
    · rintro (h2 | h2)
      · exact h2
      · rw [h2]; simpa using h
  · simp
theorem add_nodup {t : List Str} {y : Str} (h : t.Nodup) : (add t y).Nodup := by
  unfold add
  split
  · exact h
  · rename_i hc
    rw [List.nodup_append]
    refine ⟨h, by simp, fun a ha b hb => ?_⟩
    simp at hb hc
    subst hb
    exact fun e => hc (e ▸ ha)
theorem adds {l : List Str} : ∀ {t : List Str}, (∀ x, x ∈ l.foldl add t ↔ x ∈ t ∨ x ∈ l) ∧ (t.Nodup → (l.foldl add t).Nodup) ∧ t <+: l.foldl add t := by
  induction l with
  | nil => intro t; exact ⟨fun x => by simp, id, List.prefix_rfl⟩
  | cons y l ih =>
    intro t
    obtain ⟨h1, h2, h3⟩ := ih (t := add t y)
    refine ⟨fun x => ?_, fun h => h2 (add_nodup h), List.IsPrefix.trans ?_ h3⟩
    · rw [List.foldl_cons, h1, mem_add, List.mem_cons]
      constructor
      · rintro ((e | e) | e)
        · exact .inl e
        · exact .inr (.inl e)
        · exact .inr (.inr e)
      · rintro (e | e | e)
        · exact .inl (.inl e)
        · exact .inl (.inr e)
        · exact .inr e
    · unfold add
      split
      · exact List.prefix_rfl
      · exact List.prefix_append _ _
/-- What holds while the list grows. -/
structure Bfs (f : Str → List Str) (N : List Str) (x : Str) (i : Nat) (t : List Str) : Prop where
  nodup : t.Nodup
  sub : ∀ y ∈ t, y ∈ N
  le : i ≤ t.length
  has : x ∈ t
  from_ : ∀ y ∈ t, y = x ∨ Rc f x y
  done : ∀ j y, j < i → t[j]? = some y → ∀ z ∈ f y, z ∈ t
theorem Bfs.step {f : Str → List Str} {N : List Str} (hf : ∀ x y, y ∈ f x → y ∈ N) {x : Str} {i : Nat} {t : List Str} (h : Bfs f N x i t) {y : Str} (hy : t[i]? = some y) : Bfs f N x (i + 1) ((f y).foldl add t) := by
  obtain ⟨h1, h2, h3⟩ := adds (l := f y) (t := t)
  have hyt : y ∈ t := List.mem_of_getElem? hy
  have hl : i < t.length := (List.getElem?_eq_some_iff.1 hy).1
  have hle := h3.length_le
  refine ⟨h2 h.nodup, fun z hz => ?_, by omega, (h1 x).2 (.inl h.has), fun z hz => ?_, fun j z hj hz w hw => ?_⟩
  · rcases (h1 z).1 hz with e | e
    · exact h.sub z e
    · exact hf y z e
  · rcases (h1 z).1 hz with e | e
    · exact h.from_ z e
    · rcases h.from_ y hyt with e2 | e2
      · rw [e2] at e; exact .inr (.one e)
      · exact .inr (.more e2 e)
  · have hzt : t[j]? = some z := by
      obtain ⟨u, hu⟩ := h3
      rw [← hu, List.getElem?_append_left (by omega)] at hz
      exact hz
    rcases Nat.lt_succ_iff_lt_or_eq.1 hj with e | e
    · exact (h1 w).2 (.inl (h.done j z e hzt w hw))
    · subst e
      rw [hzt] at hy
      cases hy
      exact (h1 w).2 (.inr hw)
theorem Bfs.end {f : Str → List Str} {N : List Str} {x : Str} {i : Nat} {t : List Str} (h : Bfs f N x i t) (hi : t[i]? = none) : ∀ y, y ∈ t ↔ y = x ∨ Rc f x y := by
  have hl : t.length ≤ i := List.getElem?_eq_none_iff.1 hi
  intro y
  constructor
  · exact h.from_ y
  · rintro (e | e)
    · rw [e]; exact h.has
    · have hc : ∀ z ∈ t, ∀ u ∈ f z, u ∈ t := fun z hz u hu => by
        obtain ⟨j, hj, e⟩ := List.getElem_of_mem hz
        exact h.done j z (by omega) (by rw [List.getElem?_eq_getElem hj, e]) u hu
      have hx := h.has
      clear h hi
      induction e with
      | one e => exact hc _ hx _ e
      | more _ e ih => exact hc _ ih _ e
theorem prefix_nodup_at {t : List Str} {i : Nat} {x : Str} (h : t.Nodup) (hx : t[i]? = some x) {j : Nat} (hj : t[j]? = some x) : i = j := by
  obtain ⟨h1, e1⟩ := List.getElem?_eq_some_iff.1 hx
  obtain ⟨h2, e2⟩ := List.getElem?_eq_some_iff.1 hj
  have hp := List.pairwise_iff_getElem.1 h
  rcases Nat.lt_trichotomy i j with g | g | g
  · exact absurd (e1.trans e2.symm) (hp i j h1 h2 g)
  · exact g
  · exact absurd (e2.trans e1.symm) (hp j i h2 h1 g)
theorem bfs_bfs {f : Str → List Str} {N : List Str} (hf : ∀ x y, y ∈ f x → y ∈ N) {x : Str} : ∀ (n i : Nat) (t : List Str), Bfs f N x i t → N.length - i ≤ n → ∀ y, y ∈ bfs f n i t ↔ y = x ∨ Rc f x y
  | 0, i, t, h, hn => by
    have := nodup_len h.nodup h.sub
    have hle := h.le
    exact h.end (List.getElem?_eq_none_iff.2 (by omega))
  | n + 1, i, t, h, hn => by
    unfold bfs
    cases e : t[i]? with
    | none => exact h.end e
    | some y => exact bfs_bfs hf n (i + 1) _ (h.step hf e) (by omega)
theorem bfs_start {f : Str → List Str} {N : List Str} {x : Str} (hx : x ∈ N) : Bfs f N x 0 [x] :=
  ⟨by simp, fun y hy => by simp at hy; rw [hy]; exact hx, Nat.zero_le _, by simp, fun y hy => by simp at hy; exact .inl hy, fun j y hj => absurd hj (Nat.not_lt_zero _)⟩
theorem bfs_sub {f : Str → List Str} {N : List Str} (hf : ∀ x y, y ∈ f x → y ∈ N) : ∀ (n i : Nat) (t : List Str), t.Nodup → (∀ y ∈ t, y ∈ N) → (bfs f n i t).Nodup ∧ ∀ y ∈ bfs f n i t, y ∈ N
  | 0, _, _, h, hs => ⟨h, hs⟩
  | n + 1, i, t, h, hs => by
    unfold bfs
    cases e : t[i]? with
    | none => exact ⟨h, hs⟩
    | some y =>
      obtain ⟨h1, h2, _⟩ := adds (l := f y) (t := t)
      exact bfs_sub hf n (i + 1) _ (h2 h) (fun z hz => by
        rcases (h1 z).1 hz with e | e
        · exact hs z e
        · exact hf y z e)

/-- The names of the declarations that have x among their supertypes, each once. -/
def dnR (D : List Dec) (x : Str) : List Str := (D.filter fun d => d.sup.contains x).map Dec.name
theorem mem_dnR {D : List Dec} {x y : Str} : y ∈ dnR D x ↔ y ∈ dn D x := by
  rw [mem_dn]; unfold dnR
  rw [List.mem_map]
  constructor
  · rintro ⟨d, hd, e⟩
    obtain ⟨h1, h2⟩ := List.mem_filter.1 hd
    exact ⟨d, h1, e, by simpa using h2⟩
  · rintro ⟨d, hd, e, hx⟩
    exact ⟨d, List.mem_filter.2 ⟨hd, by simpa using hx⟩, e⟩
def ab (D : List Dec) (x : Str) : List Str := if x ∈ nms D then srt (bfs (up D) D.length 0 [x]) else []
def bl (D : List Dec) (x : Str) : List Str := if x ∈ nms D then srt (bfs (dnR D) D.length 0 [x]) else []
theorem ab_asc (D : List Dec) (x : Str) : Asc (ab D x) := by unfold ab; split; exact srt_asc _; exact asc_nil
theorem bl_asc (D : List Dec) (x : Str) : Asc (bl D x) := by unfold bl; split; exact srt_asc _; exact asc_nil
theorem mem_ab {D : List Dec} (h : Ok D) {x y : Str} : y ∈ ab D x ↔ x ∈ nms D ∧ (y = x ∨ Rc (up D) x y) := by
  unfold ab
  split
  · rename_i hx
    rw [mem_srt, bfs_bfs (N := nms D) (fun x y hy => h.up_mem hy) D.length 0 [x] (bfs_start hx) (by rw [nms_len]; omega)]
    simp [hx]
  · rename_i hx; simp [hx]
theorem dn_mem {D : List Dec} {x y : Str} (hy : y ∈ dn D x) : y ∈ nms D := by
  obtain ⟨d, hd, e, _⟩ := mem_dn.1 hy
  exact List.mem_map.2 ⟨d, hd, e⟩
theorem mem_bl {D : List Dec} {x y : Str} : y ∈ bl D x ↔ x ∈ nms D ∧ (y = x ∨ Rc (dn D) x y) := by
  unfold bl
  split
  · rename_i hx
    rw [mem_srt, bfs_bfs (N := nms D) (fun x y hy => dn_mem (mem_dnR.1 hy)) D.length 0 [x] (bfs_start hx) (by rw [nms_len]; omega)]
    simp only [hx, true_and]
    constructor
    · rintro (e | e)
      · exact .inl e
      · exact .inr (e.congr fun _ _ => mem_dnR.1)
    · rintro (e | e)
      · exact .inl e
      · exact .inr (e.congr fun _ _ => mem_dnR.2)
  · rename_i hx; simp [hx]
theorem rc_turn {D : List Dec} (h : Ok D) {x y : Str} : Rc (dn D) x y ↔ Rc (up D) y x :=
  ⟨fun r => r.turn fun _ _ => (dn_up h.nodup).1, fun r => r.turn fun _ _ => (dn_up h.nodup).2⟩
theorem ab_bl {D : List Dec} (h : Ok D) {x y : Str} (hx : x ∈ nms D) (hy : y ∈ nms D) : y ∈ ab D x ↔ x ∈ bl D y := by
  rw [mem_ab h, mem_bl, rc_turn h]
  constructor
  · rintro ⟨_, e | e⟩
    · exact ⟨hy, .inl e.symm⟩
    · exact ⟨hy, .inr e⟩
  · rintro ⟨_, e | e⟩
    · exact ⟨hx, .inl e.symm⟩
    · exact ⟨hx, .inr e⟩
/-- The declared names of a list, ascending. -/
def dcl (D : List Dec) (l : List Str) : List Str := srt (l.filter (nms D).contains)
def mx (D : List Dec) (l : List Str) : List Str := (dcl D l).filter fun x => (dcl D l).all fun y => y == x || !(ab D x).contains y
def mn (D : List Dec) (l : List Str) : List Str := (dcl D l).filter fun x => (dcl D l).all fun y => y == x || !(ab D y).contains x
theorem mem_dcl {D : List Dec} {l : List Str} {x : Str} : x ∈ dcl D l ↔ x ∈ l ∧ x ∈ nms D := by
  unfold dcl; rw [mem_srt, List.mem_filter]; simp
/-- The program's way: those that no links lead to. -/
theorem mx_eq {nm : Str → Bool} {D : List Dec} (h : Good nm D) (l : List Str) (r : Str → Bool) (hr : ∀ x, r x = true ↔ ∃ y ∈ dcl D l, Rc (dn D) y x) : (dcl D l).filter (fun x => !r x) = mx D l := by
  unfold mx
  refine List.filter_congr fun x hx => ?_
  have hxn := (mem_dcl.1 hx).2
  rw [Bool.eq_iff_iff, Bool.not_eq_true', Bool.eq_false_iff, List.all_eq_true]
  constructor
  · intro hn y hy
    have hyn := (mem_dcl.1 hy).2
    rw [Bool.or_eq_true, beq_iff_eq, Bool.not_eq_true', Bool.eq_false_iff]
    by_cases e : y = x
    · exact .inl e
    · refine .inr fun hc => hn ((hr x).2 ⟨y, hy, ?_⟩)
      rcases (mem_ab h.ok).1 (by simpa using hc) with ⟨_, e2 | e2⟩
      · exact absurd e2 e
      · exact (rc_turn h.ok).2 e2
  · intro ha hc
    obtain ⟨y, hy, r1⟩ := (hr x).1 hc
    have r2 := (rc_turn h.ok).1 r1
    have hne : x ≠ y := h.acyc r2 hxn
    have := ha y hy
    rw [Bool.or_eq_true, beq_iff_eq, Bool.not_eq_true', Bool.eq_false_iff] at this
    rcases this with e | e
    · exact hne e.symm
    · exact e (by simpa using (mem_ab h.ok).2 ⟨hxn, .inr r2⟩)
theorem mn_eq {nm : Str → Bool} {D : List Dec} (h : Good nm D) (l : List Str) (r : Str → Bool) (hr : ∀ x, r x = true ↔ ∃ y ∈ dcl D l, Rc (up D) y x) : (dcl D l).filter (fun x => !r x) = mn D l := by
  unfold mn
  refine List.filter_congr fun x hx => ?_
  have hxn := (mem_dcl.1 hx).2
  rw [Bool.eq_iff_iff, Bool.not_eq_true', Bool.eq_false_iff, List.all_eq_true]
  constructor
  · intro hn y hy
    have hyn := (mem_dcl.1 hy).2
    rw [Bool.or_eq_true, beq_iff_eq, Bool.not_eq_true', Bool.eq_false_iff]
    by_cases e : y = x
    · exact .inl e
    · refine .inr fun hc => hn ((hr x).2 ⟨y, hy, ?_⟩)
      rcases (mem_ab h.ok).1 (by simpa using hc) with ⟨_, e2 | e2⟩
      · exact absurd e2.symm e
      · exact e2
  · intro ha hc
    obtain ⟨y, hy, r2⟩ := (hr x).1 hc
    have hyn := (mem_dcl.1 hy).2
    have hne : y ≠ x := h.acyc r2 hyn
    have := ha y hy
    rw [Bool.or_eq_true, beq_iff_eq, Bool.not_eq_true', Bool.eq_false_iff] at this
    rcases this with e | e
    · exact hne e
    · exact e (by simpa using (mem_ab h.ok).2 ⟨hyn, .inr r2⟩)
end Go.Proofs.Ytmhbblehgckelaa
