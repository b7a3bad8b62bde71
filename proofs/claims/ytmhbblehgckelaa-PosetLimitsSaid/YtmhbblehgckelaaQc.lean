/- Walks of package poset: from, Above, Below. -/
import Derived.Test.YtmhbblehgckelaaQb
namespace Go.Proofs.Ytmhbblehgckelaa
open Go.RowKit Go.Maps

theorem IsSet.perm {w : World} {b n : Nat} {M : DataW Value} {K K' : List Str} (h : IsSet w b n M K) (e : ∀ y, y ∈ K' ↔ y ∈ K) : IsSet w b n M K' := by
  have e2 : ∀ y, inS K' y = inS K y := fun y => by
    cases h2 : inS K y
    · exact inS_not.2 (fun g => inS_not.1 h2 ((e y).1 g))
    · exact inS_iff.2 ((e y).2 (inS_iff.1 h2))
  exact ⟨h.map, fun y => by rw [h.has, e2], fun y => by rw [h.get, e2]⟩

set_option maxRecDepth 100000 in
set_option maxHeartbeats 1600000 in
theorem from_any (w : World) (lb ln : Nat) (N : List Str) (f : Str → List Str) (hl : Links w lb ln N f) (hN : ∀ x y, y ∈ f x → y ∈ N) (hNl : N.length ≤ 256) (hNs : ∀ z ∈ N, z.length ≤ maxLen) (hfl : ∀ x, (f x).length ≤ 70000) (x : Str) (hx : x.length ≤ maxLen) (L : List Str) (hA : Asc L) (hL : ∀ y, y ∈ L ↔ x ∈ N ∧ (y = x ∨ Rc f x y)) :
    Calls Try.prog 22 #[.map (some lb), .string (mk x)] w (RetL L w) := by
  have LK := Lib.hid hl
  have HX := Lib.hid hx
  have RS := Lib.hid (fun W (hb : Below w.heap.size w W) a hs => reach_any W lb ln N f (hl.below hb) hN hNl hNs hfl a 1 1 [x] hs (by omega))
  have HR := Lib.hid hL
  have HSM : Hid (∀ K : List Str, (∀ z ∈ K, z ∈ N) → ∀ z ∈ srt (K ++ [x]), z.length ≤ maxLen) := fun K hK z hz => by
    rw [mem_srt, List.mem_append] at hz
    rcases hz with e | e
    · exact hNs z (hK z e)
    · simp at e; rw [e]; exact hx
  obtain ⟨M, hmown, hmhas, -⟩ := hl
  have HM := Lib.hid hmown
  by_cases hxN : x ∈ N
  · have HH : Hid (mhas M x = true) := by show _ = _; rw [hmhas, inS_iff.2 hxN]
    clear hmown hmhas hN hNs hfl hL
    go_enter Try.func22, Try.ntmps22
    go_wp2_with (first
      | (at_lookup; refine wpList_lookup_raw_ok rfl _ _ 45 rfl 25 Try.underlying45 (zeroL _) lb ln M rfl HM.out x rfl HX.out ?_; rw [HH.out])
      | (go_at_call 37; (with_reducible refine (RS.out _ ((Below.refl _ _).alloc (Nat.le_refl _) _) _ (IsStrs.one w x HX.out)).mono ?_); rintro e w1 ⟨mb, M1, K1, rfl, hmb, hs1, hr1, hb1⟩; have S1 := Lib.hid hs1; have R1 := Lib.hid hr1; have B1 := Lib.hid hb1; have hz1 := hb1.size; rw [World.size_alloc] at hz1 hmb; have hkl1 := nodup_len hr1.nodup hr1.sub; clear hs1 hr1 hb1)
      | (at_mapUpdate; refine wpList_update_raw rfl _ _ _ 56 rfl 4 Try.underlying56 mb _ M1 rfl S1.out.map (by omega) x (.bool true) rfl rfl HX.out ?_; intro w5 hown5 hgrow5; have S5 := Lib.hid ((S1.out.put x hown5).perm (K' := srt (K1 ++ [x])) (fun y => by rw [mem_srt])); have hz5 := hgrow5.size; have B5 := Lib.hid (((((Below.refl w.heap.size w).alloc (Nat.le_refl _) _).trans (B1.out.mono (by rw [World.size_alloc]; omega)))).grown hgrow5 (by omega) (fun g e => by cases e; omega)); clear hown5 hgrow5)
      | (go_at_call 39; refine (Keys_any _ _).mono ?_; rintro e w6 ⟨rfl, rfl⟩)
      | (go_at_call 38; (with_reducible refine (SortedKeys_any w5 mb _ _ _ S5.out (srt_asc _).nodup (by omega) (HSM.out K1 R1.out.sub)).mono ?_); rintro e w7 ⟨v7, rfl, hrow7, hsm7, hb7⟩; have R7 := Lib.hid hrow7; have B7 := Lib.hid hb7; clear hrow7 hb7))
    go_ret
    have e1 : srt (srt (K1 ++ [x])) = L := by
      refine (asc_eq_srt hA fun y => ?_).symm
      rw [HR.out, mem_srt, List.mem_append, R1.out.end, List.mem_singleton]
      constructor
      · rintro ⟨-, e | e⟩
        · exact .inr e
        · exact .inl ⟨x, by simp, e⟩
      · rintro (⟨y', hy', e⟩ | e)
        · simp at hy'; subst hy'; exact ⟨hxN, .inr e⟩
        · exact ⟨hxN, .inl e⟩
    rw [e1] at R7 hsm7
    exact ⟨v7, rfl, owns_base R7.out (by rw [World.size_alloc]; have := B5.out.size; omega), hsm7, (B5.out.alloc B5.out.size _).trans (B7.out.mono (by rw [World.size_alloc]; have := B5.out.size; omega))⟩
  · have HH : Hid (mhas M x = false) := by show _ = _; rw [hmhas, inS_not.2 hxN]
    obtain rfl : L = [] := by
      rcases L with _ | ⟨y, L⟩
      · rfl
      · exact absurd (((HR.out y).1 (by simp)).1) hxN
    clear hmown hmhas hN hNl hNs hfl hL
    go_enter Try.func22, Try.ntmps22
    go_wp2_with (at_lookup; refine wpList_lookup_raw_ok rfl _ _ 45 rfl 25 Try.underlying45 (zeroL _) lb ln M rfl HM.out x rfl HX.out ?_; rw [HH.out])
    go_ret
    exact ⟨.slice none 0 0, rfl, World.ownsRow_nil _ _ _ _, (fun _ h => (List.not_mem_nil h).elim), Below.refl _ _⟩

/-- What the links of good declarations are. -/
theorem good_up {w : World} {a : Option Addr} {n cap : Nat} {D : List Dec} (h : IsDecs w a n cap D) (hc : chkN D = 0) : (∀ x y, y ∈ up D x → y ∈ nms D) ∧ (nms D).length ≤ 256 ∧ (∀ z ∈ nms D, z.length ≤ maxLen) ∧ (∀ x, (up D x).length ≤ 70000) ∧ n ≤ 256 ∧ Ok D := by
  have hg := goodN hc
  have h1 := szE_le hg.sz
  have h2 : ∀ x y, y ∈ up D x → y ∈ nms D := fun x y hy => hg.ok.up_mem hy
  have h3 : (nms D).length ≤ 256 := by rw [nms_len]; exact h1
  exact ⟨h2, h3, nms_small h, fun x => by have := nodup_len (up_nodup hg.ok x) (h2 x); omega, by rw [← h.len]; exact h1, hg.ok⟩
theorem good_dn {w : World} {a : Option Addr} {n cap : Nat} {D : List Dec} (h : IsDecs w a n cap D) (hc : chkN D = 0) : (∀ x y, y ∈ dn D x → y ∈ nms D) ∧ (∀ x, (dn D x).length ≤ 70000) ∧ ∀ i, i < n → (dc D i).sup.length ≤ 256 := by
  have hg := goodN hc
  have h1 := szE_le hg.sz
  have h2 : ∀ x y, y ∈ dn D x → y ∈ nms D := fun x y hy => dn_mem hy
  have h3 : (nms D).length ≤ 256 := by rw [nms_len]; exact h1
  exact ⟨h2, fun x => by have := nodup_len (dn_nodup hg.ok x) (h2 x); omega, fun i hi => szE_sup hg.sz i (by rw [h.len]; exact hi)⟩

set_option maxRecDepth 100000 in
theorem Above_any (w : World) (a : Option Addr) (n cap : Nat) (D : List Dec) (h : IsDecs w a n cap D) (hc : chkN D = 0) (x : Str) (hx : x.length ≤ maxLen) :
    Calls Try.prog 10 #[.slice a n cap, .string (mk x)] w (RetL (ab D x) w) := by
  obtain ⟨h1, h2, h3, h4, h5, h6⟩ := good_up h hc
  have UP := Lib.hid (upward_any w a n cap D h h6.nodup h5)
  have FR := Lib.hid (fun W lb ln (hl : Links W lb ln (nms D) (up D)) => from_any W lb ln (nms D) (up D) hl h1 h2 h3 h4 x hx (ab D x) (ab_asc D x) (fun y => mem_ab h6))
  clear h1 h2 h3 h4 h5 h6 h hc
  go_enter Try.func10, Try.ntmps10
  go_wp2_with (first
    | (go_at_call 23; (with_reducible refine UP.out.mono ?_); rintro e w1 ⟨mb, rfl, hmb, hlk, hb1⟩; have LK := Lib.hid hlk; have HB1 := Lib.hid hb1; clear hlk hb1)
    | (go_at_call 22; (with_reducible refine (FR.out _ _ _ LK.out).mono ?_); rintro e w2 ⟨v2, rfl, hrow, hsm, hb2⟩; have R2 := Lib.hid hrow; have HB2 := Lib.hid hb2; clear hrow hb2))
  go_ret
  exact ⟨v2, rfl, owns_base R2.out HB1.out.size, hsm, HB1.out.trans (HB2.out.mono HB1.out.size)⟩

set_option maxRecDepth 100000 in
theorem Below_any (w : World) (a : Option Addr) (n cap : Nat) (D : List Dec) (h : IsDecs w a n cap D) (hc : chkN D = 0) (x : Str) (hx : x.length ≤ maxLen) :
    Calls Try.prog 9 #[.slice a n cap, .string (mk x)] w (RetL (bl D x) w) := by
  obtain ⟨-, h2, h3, -, h5, h6⟩ := good_up h hc
  obtain ⟨h1, h4, h7⟩ := good_dn h hc
  have UP := Lib.hid (downward_any w a n cap D h h6 h5 h7)
  have FR := Lib.hid (fun W lb ln (hl : Links W lb ln (nms D) (dn D)) => from_any W lb ln (nms D) (dn D) hl h1 h2 h3 h4 x hx (bl D x) (bl_asc D x) (fun y => mem_bl))
  clear h1 h2 h3 h4 h5 h6 h7 h hc
  go_enter Try.func9, Try.ntmps9
  go_wp2_with (first
    | (go_at_call 21; (with_reducible refine UP.out.mono ?_); rintro e w1 ⟨mb, rfl, hmb, hlk, hb1⟩; have LK := Lib.hid hlk; have HB1 := Lib.hid hb1; clear hlk hb1)
    | (go_at_call 22; (with_reducible refine (FR.out _ _ _ LK.out).mono ?_); rintro e w2 ⟨v2, rfl, hrow, hsm, hb2⟩; have R2 := Lib.hid hrow; have HB2 := Lib.hid hb2; clear hrow hb2))
  go_ret
  exact ⟨v2, rfl, owns_base R2.out HB1.out.size, hsm, HB1.out.trans (HB2.out.mono HB1.out.size)⟩
end Go.Proofs.Ytmhbblehgckelaa
