/- Plain: what the search for reached types keeps. Library: Clone. -/
import Derived.Test.YtmhbblehgckelaaPy
namespace Go.Proofs.Ytmhbblehgckelaa
open Go.RowKit Go.Maps

/-- Between two rounds: K is reached, W waits. -/
structure Rch (f : Str → List Str) (N s K W : List Str) : Prop where
  nodup : K.Nodup
  sub : ∀ x ∈ K, x ∈ N
  sound : ∀ x ∈ K, ∃ y ∈ s, Rc f y x
  wsub : ∀ x ∈ W, x ∈ s ∨ x ∈ K
  closed : ∀ y, (y ∈ s ∨ y ∈ K) → y ∈ W ∨ ∀ z ∈ f y, z ∈ K
theorem Rch.start (f : Str → List Str) (N s : List Str) : Rch f N s [] s :=
  ⟨List.nodup_nil, (fun _ h => (List.not_mem_nil h).elim), (fun _ h => (List.not_mem_nil h).elim), fun _ h => .inl h, fun y h => by
    rcases h with h | h
    · exact .inl h
    · cases h⟩
theorem Rch.end {f : Str → List Str} {N s K : List Str} (h : Rch f N s K []) (x : Str) : x ∈ K ↔ ∃ y ∈ s, Rc f y x := by
  have hc : ∀ y, (y ∈ s ∨ y ∈ K) → ∀ z ∈ f y, z ∈ K := fun y hy => by
    rcases h.closed y hy with g | g
    · cases g
    · exact g
  constructor
  · exact h.sound x
  · rintro ⟨y, hy, r⟩
    induction r with
    | one e => exact hc _ (.inl hy) _ e
    | more _ e ih => exact hc _ (.inr ih) _ e
/-- Within a round: cur is taken, j of its links are followed. -/
structure Rin (f : Str → List Str) (N s K W : List Str) (cur : Str) (j : Nat) : Prop where
  nodup : K.Nodup
  sub : ∀ x ∈ K, x ∈ N
  sound : ∀ x ∈ K, ∃ y ∈ s, Rc f y x
  wsub : ∀ x ∈ W, x ∈ s ∨ x ∈ K
  cur_ : cur ∈ s ∨ cur ∈ K
  closed : ∀ y, (y ∈ s ∨ y ∈ K) → y ∈ W ∨ y = cur ∨ ∀ z ∈ f y, z ∈ K
  done : ∀ z ∈ (f cur).take j, z ∈ K
theorem Rch.pop {f : Str → List Str} {N s K W : List Str} {cur : Str} (h : Rch f N s K (W ++ [cur])) : Rin f N s K W cur 0 :=
  ⟨h.nodup, h.sub, h.sound, fun x hx => h.wsub x (List.mem_append_left _ hx), h.wsub cur (by simp), fun y hy => by
    rcases h.closed y hy with g | g
    · rcases List.mem_append.1 g with e | e
      · exact .inl e
      · simp at e; exact .inr (.inl e)
    · exact .inr (.inr g), fun z hz => by rw [List.take_zero] at hz; cases hz⟩
theorem Rin.old {f : Str → List Str} {N s K W : List Str} {cur : Str} {j : Nat} (h : Rin f N s K W cur j) (hj : j < (f cur).length) (hz : st (f cur) j ∈ K) : Rin f N s K W cur (j + 1) :=
  ⟨h.nodup, h.sub, h.sound, h.wsub, h.cur_, h.closed, fun z hz2 => by
    rw [take_st hj, List.mem_append, List.mem_singleton] at hz2
    rcases hz2 with e | e
    · exact h.done z e
    · rw [e]; exact hz⟩
theorem Rin.new {f : Str → List Str} {N s K W : List Str} {cur : Str} {j : Nat} (hN : ∀ x y, y ∈ f x → y ∈ N) (h : Rin f N s K W cur j) (hj : j < (f cur).length) (hz : st (f cur) j ∉ K) : Rin f N s (K ++ [st (f cur) j]) (W ++ [st (f cur) j]) cur (j + 1) := by
  have hin : st (f cur) j ∈ f cur := st_mem hj
  refine ⟨?_, fun x hx => ?_, fun x hx => ?_, fun x hx => ?_, ?_, fun y hy => ?_, fun z hz2 => ?_⟩
  · rw [List.nodup_append]
    refine ⟨h.nodup, by simp, fun a ha b hb e => ?_⟩
    simp at hb
    subst hb
    exact hz (e ▸ ha)
  · rcases List.mem_append.1 hx with e | e
    · exact h.sub x e
    · simp at e; rw [e]; exact hN _ _ hin
  · rcases List.mem_append.1 hx with e | e
    · exact h.sound x e
    · simp at e; rw [e]
      rcases h.cur_ with g | g
      · exact ⟨cur, g, .one hin⟩
      · obtain ⟨y, hy, r⟩ := h.sound cur g
        exact ⟨y, hy, .more r hin⟩
  · rcases List.mem_append.1 hx with e | e
    · rcases h.wsub x e with g | g
      · exact .inl g
      · exact .inr (List.mem_append_left _ g)
    · exact .inr (List.mem_append_right _ e)
  · rcases h.cur_ with g | g
    · exact .inl g
    · exact .inr (List.mem_append_left _ g)
  · have hy2 : (y ∈ s ∨ y ∈ K) ∨ y = st (f cur) j := by
      rcases hy with e | e
      · exact .inl (.inl e)
      · rcases List.mem_append.1 e with g | g
        · exact .inl (.inr g)
        · simp at g; exact .inr g
    rcases hy2 with g | g
    · rcases h.closed y g with e | e | e
      · exact .inl (List.mem_append_left _ e)
      · exact .inr (.inl e)
      · exact .inr (.inr fun z hz => List.mem_append_left _ (e z hz))
    · exact .inl (by rw [g]; simp)
  · rw [take_st hj, List.mem_append, List.mem_singleton] at hz2
    rcases hz2 with e | e
    · exact List.mem_append_left _ (h.done z e)
    · rw [e]; simp
theorem Rin.end {f : Str → List Str} {N s K W : List Str} {cur : Str} (h : Rin f N s K W cur (f cur).length) : Rch f N s K W :=
  ⟨h.nodup, h.sub, h.sound, h.wsub, fun y hy => by
    rcases h.closed y hy with e | e | e
    · exact .inl e
    · rw [e]; exact .inr fun z hz => h.done z (by rw [List.take_length]; exact hz)
    · exact .inr e⟩
theorem Rin.len {f : Str → List Str} {N s K W : List Str} {cur : Str} {j : Nat} (h : Rin f N s K W cur j) : K.length ≤ N.length := nodup_len h.nodup h.sub

theorem Clone_any (w : World) (a : Option Addr) (n cap : Nat) (zs : List Str) (h : IsStrs w a n cap zs) (hn : n ≤ 100000) :
    Calls Try.prog 47 #[.slice a n cap] w fun e w' => ∃ v, e = .returned v ∧ w'.ownsRow w.heap.size 9 1 v n (svals zs) ∧ Below w.heap.size w w' := by
  have hl := h.len
  cases a with
  | none =>
    have h0 := h.nil_ rfl
    have hc := h.capLe
    obtain rfl : n = 0 := by omega
    have hz : zs = [] := List.eq_nil_of_length_eq_zero hl
    subst hz
    exact (Try.slices_Clone_string_nil 0 cap w).mono fun e w' hh => ⟨_, hh.1, World.ownsRow_nil _ _ _ _, by rw [hh.2]; exact Below.refl _ _⟩
  | some ad =>
    by_cases h0 : n = 0
    · subst h0
      have hz : zs = [] := List.eq_nil_of_length_eq_zero hl
      subst hz
      exact (Try.slices_Clone_string_zero ad cap w).mono fun e w' hh => by
        obtain ⟨v, e1, e2, _, e4⟩ := hh
        exact ⟨v, e1, e2, e4⟩
    · obtain ⟨b, off, e, hbl, hx⟩ := h.at_ (by omega)
      cases e
      refine (Try.slices_Clone_string b off n cap (zs.map mk) w (by simp [hl]) (by omega) (fun j hj => ?_)).mono fun e w' hh => ?_
      · have hj : j < n := by simpa [hl] using hj
        rw [hx j hj, getD_mk (by omega)]
      · obtain ⟨v, e1, e2, _, e4⟩ := hh
        refine ⟨v, e1, ?_, e4⟩
        rw [List.take_of_length_le (by simp [hl]), List.map_map] at e2
        exact e2
/-- A row without its last element. -/
theorem owns_pop {w : World} {B n : Nat} {g cap : Nat} {zs : List Str} {x : Str} (h : w.ownsRow B 9 1 (.slice (some ⟨g, 0, none⟩) (n + 1) cap) (n + 1) (svals (zs ++ [x]))) : w.ownsRow B 9 1 (.slice (some ⟨g, 0, none⟩) n cap) n (svals zs) := by
  have hl := h.1
  rw [svals_len, List.length_append] at hl
  simp only [List.length_cons, List.length_nil] at hl
  rcases h.2 with ⟨e, _⟩ | ⟨g', cap', cur, e, hB, hg, hn, hm, hs, ht⟩
  · cases e
  · cases e
    refine ⟨by rw [svals_len]; omega, .inr ⟨g, cap, cur, rfl, hB, hg, by omega, hm, hs, ?_⟩⟩
    have h2 := congrArg (List.take (n * 1)) ht
    rw [List.take_take, Nat.min_eq_left (by omega)] at h2
    rw [h2, ← svals_snoc, List.take_append_of_le_length (by rw [svals_len]; omega), List.take_of_length_le (by rw [svals_len]; omega)]
end Go.Proofs.Ytmhbblehgckelaa
