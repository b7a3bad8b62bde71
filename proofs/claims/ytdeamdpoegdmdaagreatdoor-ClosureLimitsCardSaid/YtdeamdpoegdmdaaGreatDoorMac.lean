/- Texts joined by wip/gen/merge.py: Qc Qd Qe Qf Qg Ci YBw YBa YPop YBb YBr YBt YBs YPl YBl YBo YBp YBe YBm Ca. -/
import Derived.Laws.Rows
import Derived.ProofKit
import Derived.OpenShut
import Derived.Deep.Slices
import Derived.RangeFuncBox
import Derived.RangeFuncNested
import Derived.RangeFuncLeaves
import Derived.Shelf.Abstract
import Derived.WalkKit
import Derived.OwnWalkIn
import Derived.TacticsInMore
import Derived.LoopNIn
import Derived.LoopIn
import Derived.Test.YtdeamdpoegdmdaaGreatDoorRows
import Derived.Lib.Hide
import Derived.Deep.QuietTactic
import Derived.BigQuiet
import Derived.RegionTactic
import Derived.Deep.RegionHeld3
import Derived.Deep.AppendLies
import Derived.Laws.AppendOwnNone
import Derived.WalkSmall
import Derived.Lib.TrailingZeros
import Derived.Test.YtdeamdpoegdmdaaGreatDoorMab
set_option linter.unusedVariables false
set_option linter.unusedSimpArgs false
/- Walks of package poset: from, Above, Below. -/
namespace Go.Proofs.YtdeamdpoegdmdaaGreatDoor
open Go.RowKit Go.Maps

theorem IsSet.perm {w : World} {b n : Nat} {M : DataW Value} {K K' : List Str} (h : IsSet w b n M K) (e : ∀ y, y ∈ K' ↔ y ∈ K) : IsSet w b n M K' := by
  have e2 : ∀ y, inS K' y = inS K y := fun y => by
    cases h2 : inS K y
    · exact inS_not.2 (fun g => inS_not.1 h2 ((e y).1 g))
    · exact inS_iff.2 ((e y).2 (inS_iff.1 h2))
  exact ⟨h.map, fun y => by rw [h.has, e2], fun y => by rw [h.get, e2]⟩

set_option maxRecDepth 100000 in
set_option maxHeartbeats 1600000 in
theorem from_any (w : World) (lb ln : Nat) (N : List Str) (f : Str → List Str) (hl : Links w lb ln N f) (hN : ∀ x y, y ∈ f x → y ∈ N) (hNl : N.length ≤ 256) (hNs : ∀ z ∈ N, z.length ≤ maxLen) (hfl : ∀ x, (f x).length ≤ 70000) (x : Str) (hx : x.length ≤ maxLen) (L : List Str) (hA : Asc L) (hL : ∀ y, y ∈ L ↔ x ∈ N ∧ (y = x ∨ Rc f x y)) :
    Calls Tryz.prog 72 #[.map (some lb), .string (mk x)] w (RetL L w) := by
  have LK := Lib.hid hl
  have HX := Lib.hid hx
  have RS := Lib.hid (fun W (hb : Below w.heap.size w W) a hs => reach_any W lb ln N f (hl.below hb) hN hNl hNs hfl a 1 1 [x] hs (by omega))
  have HR := Lib.hid hL
  have HSM : Hid (∀ K : List Str, (∀ z ∈ K, z ∈ N) → ∀ z ∈ srt (K ++ [x]), z.length ≤ maxLen) := fun K hK z hz => by
    rw [mem_srt, List.mem_append] at hz
    rcases hz with e | e
    · exact hNs z (hK z e)
    · simp at e; rw [e]; exact hx
  obtain ⟨M, hmown, hmhas, -⟩ := hl
  have HM := Lib.hid hmown
  by_cases hxN : x ∈ N
  · have HH : Hid (mhas M x = true) := by show _ = _; rw [hmhas, inS_iff.2 hxN]
    clear hmown hmhas hN hNs hfl hL
    go_enter Tryz.func72, Tryz.ntmps72
    go_wp2_with (first
      | (at_lookup; refine wpList_lookup_raw_ok rfl _ _ 92 rfl 49 Tryz.underlying92 (zeroL _) lb ln M rfl HM.out x rfl HX.out ?_; rw [HH.out])
      | (go_at_call 107; (with_reducible refine (RS.out _ ((Below.refl _ _).alloc (Nat.le_refl _) _) _ (IsStrs.one w x HX.out)).mono ?_); rintro e w1 ⟨mb, M1, K1, rfl, hmb, hs1, hr1, hb1⟩; have S1 := Lib.hid hs1; have R1 := Lib.hid hr1; have B1 := Lib.hid hb1; have hz1 := hb1.size; rw [World.size_alloc] at hz1 hmb; have hkl1 := nodup_len hr1.nodup hr1.sub; clear hs1 hr1 hb1)
      | (at_mapUpdate; refine wpList_update_raw rfl _ _ _ 121 rfl 4 Tryz.underlying121 mb _ M1 rfl S1.out.map (by omega) x (.bool true) rfl rfl HX.out ?_; intro w5 hown5 hgrow5; have S5 := Lib.hid ((S1.out.put x hown5).perm (K' := srt (K1 ++ [x])) (fun y => by rw [mem_srt])); have hz5 := hgrow5.size; have B5 := Lib.hid (((((Below.refl w.heap.size w).alloc (Nat.le_refl _) _).trans (B1.out.mono (by rw [World.size_alloc]; omega)))).grown hgrow5 (by omega) (fun g e => by cases e; omega)); clear hown5 hgrow5)
      | (go_at_call 108; refine (Keys_any _ _).mono ?_; rintro e w6 ⟨rfl, rfl⟩)
      | (go_at_call 40; (with_reducible refine (SortedKeys_any w5 mb _ _ _ S5.out (srt_asc _).nodup (by omega) (HSM.out K1 R1.out.sub)).mono ?_); rintro e w7 ⟨v7, rfl, hrow7, hsm7, hb7⟩; have R7 := Lib.hid hrow7; have B7 := Lib.hid hb7; clear hrow7 hb7))
    go_ret
    have e1 : srt (srt (K1 ++ [x])) = L := by
      refine (asc_eq_srt hA fun y => ?_).symm
      rw [HR.out, mem_srt, List.mem_append, R1.out.end, List.mem_singleton]
      constructor
      · rintro ⟨-, e | e⟩
        · exact .inr e
        · exact .inl ⟨x, by simp, e⟩
      · rintro (⟨y', hy', e⟩ | e)
        · simp at hy'; subst hy'; exact ⟨hxN, .inr e⟩
        · exact ⟨hxN, .inl e⟩
    rw [e1] at R7 hsm7
    exact ⟨v7, rfl, owns_base R7.out (by rw [World.size_alloc]; have := B5.out.size; omega), hsm7, (B5.out.alloc B5.out.size _).trans (B7.out.mono (by rw [World.size_alloc]; have := B5.out.size; omega))⟩
  · have HH : Hid (mhas M x = false) := by show _ = _; rw [hmhas, inS_not.2 hxN]
    obtain rfl : L = [] := by
      rcases L with _ | ⟨y, L⟩
      · rfl
      · exact absurd (((HR.out y).1 (by simp)).1) hxN
    clear hmown hmhas hN hNl hNs hfl hL
    go_enter Tryz.func72, Tryz.ntmps72
    go_wp2_with (at_lookup; refine wpList_lookup_raw_ok rfl _ _ 92 rfl 49 Tryz.underlying92 (zeroL _) lb ln M rfl HM.out x rfl HX.out ?_; rw [HH.out])
    go_ret
    exact ⟨.slice none 0 0, rfl, World.ownsRow_nil _ _ _ _, (fun _ h => (List.not_mem_nil h).elim), Below.refl _ _⟩

/-- What the links of good declarations are. -/
theorem good_up {w : World} {a : Option Addr} {n cap : Nat} {D : List Dec} (h : IsDecs w a n cap D) (hc : chkN D = 0) : (∀ x y, y ∈ up D x → y ∈ nms D) ∧ (nms D).length ≤ 256 ∧ (∀ z ∈ nms D, z.length ≤ maxLen) ∧ (∀ x, (up D x).length ≤ 70000) ∧ n ≤ 256 ∧ Ok D := by
  have hg := goodN hc
  have h1 := szE_le hg.sz
  have h2 : ∀ x y, y ∈ up D x → y ∈ nms D := fun x y hy => hg.ok.up_mem hy
  have h3 : (nms D).length ≤ 256 := by rw [nms_len]; exact h1
  exact ⟨h2, h3, nms_small h, fun x => by have := nodup_len (up_nodup hg.ok x) (h2 x); omega, by rw [← h.len]; exact h1, hg.ok⟩
theorem good_dn {w : World} {a : Option Addr} {n cap : Nat} {D : List Dec} (h : IsDecs w a n cap D) (hc : chkN D = 0) : (∀ x y, y ∈ dn D x → y ∈ nms D) ∧ (∀ x, (dn D x).length ≤ 70000) ∧ ∀ i, i < n → (dc D i).sup.length ≤ 256 := by
  have hg := goodN hc
  have h1 := szE_le hg.sz
  have h2 : ∀ x y, y ∈ dn D x → y ∈ nms D := fun x y hy => dn_mem hy
  have h3 : (nms D).length ≤ 256 := by rw [nms_len]; exact h1
  exact ⟨h2, fun x => by have := nodup_len (dn_nodup hg.ok x) (h2 x); omega, fun i hi => szE_sup hg.sz i (by rw [h.len]; exact hi)⟩

set_option maxRecDepth 100000 in
theorem Above_any (w : World) (a : Option Addr) (n cap : Nat) (D : List Dec) (h : IsDecs w a n cap D) (hc : chkN D = 0) (x : Str) (hx : x.length ≤ maxLen) :
    Calls Tryz.prog 33 #[.slice a n cap, .string (mk x)] w (RetL (ab D x) w) := by
  obtain ⟨h1, h2, h3, h4, h5, h6⟩ := good_up h hc
  have UP := Lib.hid (upward_any w a n cap D h h6.nodup h5)
  have FR := Lib.hid (fun W lb ln (hl : Links W lb ln (nms D) (up D)) => from_any W lb ln (nms D) (up D) hl h1 h2 h3 h4 x hx (ab D x) (ab_asc D x) (fun y => mem_ab h6))
  clear h1 h2 h3 h4 h5 h6 h hc
  go_enter Tryz.func33, Tryz.ntmps33
  go_wp2_with (first
    | (go_at_call 71; (with_reducible refine UP.out.mono ?_); rintro e w1 ⟨mb, rfl, hmb, hlk, hb1⟩; have LK := Lib.hid hlk; have HB1 := Lib.hid hb1; clear hlk hb1)
    | (go_at_call 72; (with_reducible refine (FR.out _ _ _ LK.out).mono ?_); rintro e w2 ⟨v2, rfl, hrow, hsm, hb2⟩; have R2 := Lib.hid hrow; have HB2 := Lib.hid hb2; clear hrow hb2))
  go_ret
  exact ⟨v2, rfl, owns_base R2.out HB1.out.size, hsm, HB1.out.trans (HB2.out.mono HB1.out.size)⟩

end Go.Proofs.YtdeamdpoegdmdaaGreatDoor

/- Walks of package poset: unreached, Maximal, Minimal. -/
namespace Go.Proofs.YtdeamdpoegdmdaaGreatDoor
open Go.RowKit Go.Maps

set_option maxRecDepth 100000 in
theorem pred_any (w : World) (box mb n : Nat) (M : DataW Value) (K : List Str) (hbox : w.cell? ⟨box, 0, none⟩ = some (.map (some mb))) (h : IsSet w mb n M K) (x : Str) (hx : x.length ≤ maxLen) :
    Calls Tryz.prog 159 #[.string (mk x), .pointer (some ⟨box, 0, none⟩)] w fun e w' => e = .returned (.bool (inS K x)) ∧ w = w' := by
  have S := Lib.hid h
  have HX := Lib.hid hx
  have HG := Lib.hid (h.get x)
  clear h
  go_enter Tryz.func159, Tryz.ntmps159
  go_wp2_with (at_lookup; refine wpList_lookup_raw rfl _ _ 121 rfl 4 Tryz.underlying121 (zeroB _) mb _ M rfl S.out.map x rfl HX.out ?_; rw [HG.out])
  go_ret
  exact ⟨rfl, rfl⟩

/-- Strings within the bound. -/
abbrev SStr := { x : Str // x.length ≤ maxLen }
instance : Inhabited SStr := ⟨⟨[], Nat.zero_le _⟩⟩
def encT (x : SStr) : Value := .string (mk x.1)
def subL (L : List Str) (h : ∀ z ∈ L, z.length ≤ maxLen) : List SStr := L.pmap (fun z h => ⟨z, h⟩) h
theorem subL_map (L : List Str) (h : ∀ z ∈ L, z.length ≤ maxLen) : (subL L h).map encT = svals L := by
  induction L with
  | nil => rfl
  | cons y L ih =>
    have e : subL (y :: L) h = ⟨y, h y (by simp)⟩ :: subL L (fun z hz => h z (by simp [hz])) := rfl
    rw [e, List.map_cons, ih]; rfl
theorem subL_len (L : List Str) (h : ∀ z ∈ L, z.length ≤ maxLen) : (subL L h).length = L.length := by unfold subL; simp
theorem subL_filter (L : List Str) (h : ∀ z ∈ L, z.length ≤ maxLen) (r : Str → Bool) : ((subL L h).filter fun x => r x.1).map encT = svals (L.filter r) := by
  induction L with
  | nil => rfl
  | cons y L ih =>
    have e : subL (y :: L) h = ⟨y, h y (by simp)⟩ :: subL L (fun z hz => h z (by simp [hz])) := rfl
    rw [e, List.filter_cons, List.filter_cons]
    split
    · rw [List.map_cons, ih]; rfl
    · exact ih _

theorem grown_sortWorld (w : World) (blk off m : Nat) (dk : Array SStr) (os : Array Obj) : w.grownBy (sortWorld encT w blk off m dk os) (some blk) := by
  refine ⟨rfl, rfl, rfl, ?_, fun k hk hne => ?_⟩
  · show _ ≤ ((w.heap.modify blk _) ++ os).size
    rw [Array.size_append, Array.size_modify]; omega
  · show ((w.heap.modify blk _) ++ os)[k]? = _
    rw [Array.getElem?_append_left (by rw [Array.size_modify]; exact hk), Array.getElem?_modify]
    rw [if_neg (fun e => hne (by rw [e]))]

set_option maxRecDepth 100000 in
set_option maxHeartbeats 1600000 in
theorem DeleteFunc_any (w0 w : World) (B : Nat) (a : Option Addr) (cap : Nat) (T : List Str) (hrow : w0.ownsRow B 9 1 (.slice a T.length cap) T.length (svals T)) (hs : ∀ z ∈ T, z.length ≤ maxLen) (hl : T.length ≤ 1000) (hw : Below w0.heap.size w0 w) (hB : B ≤ w0.heap.size)
    (box mb n : Nat) (M : DataW Value) (K : List Str) (hb0 : w0.heap.size ≤ box) (hm0 : w0.heap.size ≤ mb) (hbox : w.cell? ⟨box, 0, none⟩ = some (.map (some mb))) (h : IsSet w mb n M K) :
    Calls Tryz.prog 158 #[.slice a T.length cap, .func (.func 159) #[] #[.pointer (some ⟨box, 0, none⟩)]] w fun e w' => ∃ v, e = .returned v ∧ w'.ownsRow B 9 1 v (T.filter fun x => !inS K x).length (svals (T.filter fun x => !inS K x)) ∧ Below B w w' := by
  have hroww := owns_below hrow hw
  by_cases h0 : (Value.slice a T.length cap) = .slice none 0 0
  · rw [h0]
    have hT : T = [] := by
      injection h0 with h1 h2 h3
      exact List.eq_nil_of_length_eq_zero h2
    subst hT
    clear hrow hroww h0 hbox h
    go_enter Tryz.func158, Tryz.ntmps158
    go_wp2_with (go_at_call 175; refine (Tryz.slices_IndexFunc_empty (α := SStr) none 0 _ w).mono ?_; rintro e w1 ⟨rfl, rfl⟩)
    go_ret
    exact ⟨_, rfl, World.ownsRow_nil _ _ _ _, Below.refl _ _⟩
  · have hr2 : w.ownsRow B 9 1 (.slice a T.length cap) T.length ((subL T hs).map encT) := by rw [subL_map]; exact hroww
    obtain ⟨g, cap', hv, hBg, hg, hnc, hcm, hlen, hH⟩ := Lib.holds_of_ownsRow hr2 h0
    injection hv with e1 _ e3
    subst e1
    subst e3
    have hgw : g < w0.heap.size := by
      rcases hrow.2 with ⟨e0, _⟩ | ⟨g', cap'', cur, e0, hb, hg', r⟩
      · exact absurd e0 h0
      · injection e0 with e1
        injection e1 with e1
        injection e1 with e1
        rw [e1]; exact lt_of_block hg'
    have hmb := h.map.lt
    have hbl : box < w.heap.size := World.block_lt_of_cell? w _ hbox
    have eg : ∀ args W, (callFunc 159 args).run Tryz.prog W = .ok (.enter 159 args) W := enters_of Tryz.func159 (by kernel_rfl) rfl
    have hsz : (subL T hs).toArray.size = T.length := by rw [List.size_toArray, subL_len]
    have hp : PredAt Tryz.prog 159 #[.pointer (some ⟨box, 0, none⟩)] encT (fun x => inS K x.1) w := fun W x hb => by
      refine (pred_any W box mb n M K ((hb.cell (p := ⟨box, 0, none⟩) hbl).trans hbox) (h.below hb) x.1 x.2).mono ?_
      rintro e W' ⟨e1, e2⟩
      exact ⟨e1, 0, e2.symm⟩
    have hpo : PredOver Tryz.prog 159 #[.pointer (some ⟨box, 0, none⟩)] encT (fun x => inS K x.1) g 0 (subL T hs).toArray.size w := fun m os dk x _ => by
      have hgr := grown_sortWorld w g 0 m dk os
      have hs2 : IsSet (sortWorld encT w g 0 m dk os) mb n M K := ⟨h.map.kept hgr (by intro e; injection e with e; omega), h.has, h.get⟩
      refine (pred_any _ box mb n M K (hgr.cell hbox (fun e => by injection e with e; simp at e; omega)) hs2 x.1 x.2).mono ?_
      rintro e W' ⟨e1, e2⟩
      exact ⟨e1, 0, e2.symm⟩
    have hc := Tryz.slices_DeleteFunc encT (fun x => rfl) (fun x => inS K x.1) _ _ eg (⟨[], Nat.zero_le _⟩ : SStr) (fun W => by kernel_rfl) g 0 cap (subL T hs).toArray w hp hpo hH (by rw [hsz]; omega) (by rw [hsz]; exact hnc)
    have ef := subL_filter T hs (fun x => !inS K x)
    have hfl : ((subL T hs).filter fun x => !inS K x.1).length = (T.filter fun x => !inS K x).length := by
      have := congrArg List.length ef
      rwa [List.length_map, svals_len] at this
    have hle : (T.filter fun x => !inS K x).length ≤ T.length := List.length_filter_le _ _
    rw [hsz, List.toList_toArray, hfl] at hc
    obtain ⟨ys, hys⟩ : ∃ ys, ((subL T hs).filter fun x => !inS K x.1) ++ List.replicate (T.length - (T.filter fun x => !inS K x).length) (⟨[], Nat.zero_le _⟩ : SStr) = ys := ⟨_, rfl⟩
    rw [hys] at hc
    refine hc.mono ?_
    rintro e w' ⟨rfl, q, rfl⟩
    have hrow' := Lib.ownsRow_putRow (q := q) (k := (T.filter fun x => !inS K x).length) (ys := ys) hr2 (by rw [← hys, List.length_append, List.length_replicate, hfl]; omega) hle
    have htk : ys.take (T.filter fun x => !inS K x).length = (subL T hs).filter fun x => !inS K x.1 := by rw [← hys]; exact List.take_left' hfl
    rw [htk, ef] at hrow'
    refine ⟨_, rfl, hrow', ?_⟩
    have hgr := grown_sortWorld w g 0 q ys.toArray #[]
    have e2 : sortWorld encT w g 0 q ys.toArray #[] = Sort.putRow encT (Sort.ahead w q) g 0 ys.toArray := by
      unfold sortWorld; exact Sort.grow_empty _
    rw [e2] at hgr
    exact (Below.refl _ _).grown hgr (by have := hw.size; omega) (fun j e => by injection e with e; rw [← e]; exact hBg)

set_option maxRecDepth 100000 in
set_option maxHeartbeats 6400000 in
theorem unreached_any (w : World) (lb ln : Nat) (N : List Str) (f : Str → List Str) (hl : Links w lb ln N f) (hN : ∀ x y, y ∈ f x → y ∈ N) (hNl : N.length ≤ 256) (hNs : ∀ z ∈ N, z.length ≤ maxLen) (hfl : ∀ x, (f x).length ≤ 70000) (a : Option Addr) (m cap : Nat) (s : List Str) (hs : IsStrs w a m cap s) (hm : m ≤ 1000) (R : List Str)
    (hR : ∀ r : Str → Bool, (∀ x, r x = true ↔ ∃ y ∈ srt (s.filter (inS N)), Rc f y x) → (srt (s.filter (inS N))).filter (fun x => !r x) = R) :
    Calls Tryz.prog 127 #[.map (some lb), .slice a m cap] w (RetL R w) := by
  have LK := Lib.hid hl
  have HSS := Lib.hid hs
  have HSL := Lib.hid hs.small
  have HSN := Lib.hid hs.len
  have HRR := Lib.hid hR
  have RS := Lib.hid (fun W (hb : Below w.heap.size w W) a m cap s hs hm => reach_any W lb ln N f (hl.below hb) hN hNl hNs hfl a m cap s hs hm)
  obtain ⟨M0, hmown, hmhas, -⟩ := hl
  have HM0 := Lib.hid hmown
  have HH0 := Lib.hid hmhas
  have hmm := @run_makeMap Tryz.prog
  clear hmown hmhas hs hR hfl
  go_enter Tryz.func127, Tryz.ntmps127
  go_wp2
  clear hmm
  have hml := HSS.out.maxLe
  unfold maxLen at hml
  go_loopw [15] (fun v wr => ∃ (k nn : Nat) (M : DataW Value), k ≤ m ∧ v = .int .i64 k ∧ nn ≤ k ∧ Hid (IsSet wr w.heap.size nn M (srt ((s.take k).filter (inS N)))) ∧ w.heap.size < wr.heap.size ∧ Below w.heap.size w wr) (fun v _ => m - (intOf v).toNat)
  case atStart => exact ⟨0, 0, .map [], Nat.zero_le _, rfl, Nat.zero_le _, IsSet.made w, by simp, (Below.refl _ _).alloc (Nat.le_refl _) _⟩
  case round =>
    obtain ⟨k, nn, M, hk, rfl, hnn, HS, hz, hb⟩ := hrel
    obtain ⟨wo, hwo⟩ : ∃ wo : World, wo = wr := ⟨_, rfl⟩
    subst hwo
    by_cases hlt : k < m
    · obtain ⟨b2, off2, rfl, hbl2, hx2⟩ := HSS.out.at_ (by omega)
      have d0 := (hb.cell (p := ⟨b2, off2 + k, none⟩) hbl2).trans (hx2 k hlt)
      have hkl : k < s.length := by rw [HSN.out]; exact hlt
      have HXL := Lib.hid (HSL.out _ (st_mem hkl))
      have HMW := Lib.hid (map_below HM0.out hb)
      have HP := Lib.hid (HH0.out (st s k))
      have HT : Hid (∀ y, y ∈ srt ((s.take (k + 1)).filter (inS N)) ↔ y ∈ srt ((s.take k).filter (inS N)) ∨ (inS N (st s k) = true ∧ y = st s k)) := fun y => by
        rw [mem_srt, mem_srt, take_st hkl, List.filter_append, List.mem_append]
        constructor
        · rintro (e | e)
          · exact .inl e
          · have := List.mem_filter.1 e
            simp at this
            exact .inr ⟨by rw [← this.1]; exact this.2, this.1⟩
        · rintro (e | ⟨e, rfl⟩)
          · exact .inl e
          · exact .inr (List.mem_filter.2 ⟨by simp, e⟩)
      obtain ⟨x, hx'⟩ : ∃ x, st s k = x := ⟨_, rfl⟩
      rw [hx'] at d0 HXL HP HT
      clear hx2 hx' hkl
      cases hp : inS N x
      · rw [hp] at HP HT
        go_wp2_with (at_lookup; refine wpList_lookup_raw_ok rfl _ _ 92 rfl 49 Tryz.underlying92 (zeroL _) lb ln M0 rfl HMW.out x rfl HXL.out ?_; rw [HP.out])
        go_roundw
        case rel => exact ⟨k + 1, nn, M, by omega, by go_num, by omega, HS.out.perm (fun y => by rw [HT.out]; simp), hz, hb⟩
        case measure => simp [intOf]; omega
      · rw [hp] at HP HT
        go_wp2_with (first
          | (at_lookup; refine wpList_lookup_raw_ok rfl _ _ 92 rfl 49 Tryz.underlying92 (zeroL _) lb ln M0 rfl HMW.out x rfl HXL.out ?_; rw [HP.out])
          | (at_mapUpdate; refine wpList_update_raw rfl _ _ _ 121 rfl 4 Tryz.underlying121 w.heap.size _ M rfl HS.out.map (by omega) x (.bool true) rfl rfl HXL.out ?_; intro w5 hown5 hgrow5; have S5 := Lib.hid (HS.out.put x hown5); have hz5 := hgrow5.size; have B5 := Lib.hid (hb.grown hgrow5 hb.size (fun g e => by cases e; exact Nat.le_refl _)); clear hown5 hgrow5))
        go_roundw
        case rel => exact ⟨k + 1, _, _, by omega, by go_num, by omega, S5.out.perm (fun y => by rw [HT.out, List.mem_append, List.mem_singleton]; simp), by omega, B5.out⟩
        case measure => simp [intOf]; omega
    · obtain rfl : m = k := by omega
      obtain ⟨T, hT⟩ : ∃ T, srt (s.filter (inS N)) = T := ⟨_, rfl⟩
      have hTA : Asc T := hT ▸ srt_asc _
      have HTT : Hid (srt T = T) := (asc_eq_srt hTA (fun _ => Iff.rfl)).symm
      have HTS : Hid (∀ z ∈ T, z.length ≤ maxLen) := fun z hz => by
        rw [← hT, mem_srt] at hz
        exact HSL.out z (List.mem_filter.1 hz).1
      have HTL : T.length ≤ m := by
        rw [← hT]
        have h1 := srt_len (s.filter (inS N))
        have h2 := List.length_filter_le (inS N) s
        rw [HSN.out] at h2
        omega
      rw [show s.take m = s from by rw [← HSN.out]; exact List.take_length, hT] at HS
      rw [hT] at HRR
      have HTN := Lib.hid hTA.nodup
      clear hlt hk hT hTA
      go_wp2_with (first
        | (go_at_call 108; refine (Keys_any _ _).mono ?_; rintro e w6 ⟨rfl, rfl⟩)
        | (go_at_call 40; (with_reducible refine (SortedKeys_any wo w.heap.size _ _ _ HS.out HTN.out (by omega) HTS.out).mono ?_); rintro e w7 ⟨v7, rfl, hrow7, hsm7, hb7⟩; rw [HTT.out] at hrow7; have R7 := Lib.hid hrow7; have hz7 := hb7.size; rw [World.size_alloc] at hz7; have B7 := Lib.hid ((hb.alloc hb.size _).trans (hb7.mono (by rw [World.size_alloc]; omega))); obtain ⟨ta, tc, rfl, hti⟩ := IsStrs.of_owns R7.out HTS.out; have TI := Lib.hid hti; clear hrow7 hb7 hsm7 hti)
        | (go_at_call 107; (with_reducible refine (RS.out _ B7.out _ _ _ _ TI.out (by omega)).mono ?_); rintro e w1 ⟨mb, M1, K1, rfl, hmb, hs1, hr1, hb1⟩; have S1 := Lib.hid hs1; have R1 := Lib.hid hr1; have B1 := Lib.hid hb1; have hz1 := hb1.size; clear hs1 hr1 hb1))
      have HDF : Hid (Calls Tryz.prog 158 #[.slice ta T.length tc, .func (.func 159) #[] #[.pointer (some ⟨w1.heap.size, 0, none⟩)]] (w1.alloc (.cells #[.map (some mb)] 121)) fun e w' => ∃ v, e = .returned v ∧ w'.ownsRow (wo.alloc (.cells #[.map (some w.heap.size)] 121)).heap.size 9 1 v (T.filter fun x => !inS K1 x).length (svals (T.filter fun x => !inS K1 x)) ∧ Below (wo.alloc (.cells #[.map (some w.heap.size)] 121)).heap.size (w1.alloc (.cells #[.map (some mb)] 121)) w') :=
        DeleteFunc_any w7 _ _ ta tc T R7.out HTS.out (by omega) (B1.out.alloc B1.out.size _) (by rw [World.size_alloc]; omega) _ mb _ M1 K1 (by omega) hmb (cell_of_one (heap_alloc_new w1 _)) (S1.out.below ((Below.refl _ _).alloc (Nat.le_refl _) _))
      go_wp2_with (go_at_call 158; (with_reducible refine HDF.out.mono ?_); rintro e w8 ⟨v8, rfl, hrow8, hb8⟩; have R8 := Lib.hid hrow8; have B8 := Lib.hid hb8; clear hrow8 hb8)
      go_ret
      have e1 := HRR.out (inS K1) (fun x => by rw [inS_iff, R1.out.end])
      have R9 := R8.out
      rw [e1] at R9
      have hz := hb.size
      exact ⟨v8, rfl, owns_base R9 (by rw [World.size_alloc]; omega), (fun z hz => HTS.out z (by rw [← e1] at hz; exact (List.mem_filter.1 hz).1)), ((B7.out.trans (B1.out.mono (by omega))).alloc (by have := B7.out.size; omega) _).trans (B8.out.mono (by rw [World.size_alloc]; omega))⟩

theorem dcl_inS (D : List Dec) (l : List Str) : srt (l.filter (inS (nms D))) = dcl D l := by
  rfl

set_option maxRecDepth 100000 in
theorem Maximal_any (w : World) (a : Option Addr) (n cap : Nat) (D : List Dec) (h : IsDecs w a n cap D) (hc : chkN D = 0) (la : Option Addr) (m lc : Nat) (s : List Str) (hs : IsStrs w la m lc s) (hm : m ≤ 1000) :
    Calls Tryz.prog 86 #[.slice a n cap, .slice la m lc] w (RetL (mx D s) w) := by
  obtain ⟨-, h2, h3, -, h5, h6⟩ := good_up h hc
  obtain ⟨h1, h4, h7⟩ := good_dn h hc
  have UP := Lib.hid (downward_any w a n cap D h h6 h5 h7)
  have FR := Lib.hid (fun W (hb : Below w.heap.size w W) lb ln (hl : Links W lb ln (nms D) (dn D)) => unreached_any W lb ln (nms D) (dn D) hl h1 h2 h3 h4 la m lc s (hs.below hb) hm (mx D s) (fun r hr => by
    rw [dcl_inS] at hr ⊢
    exact mx_eq (goodN hc) s r hr))
  clear h1 h2 h3 h4 h5 h6 h7 h hc hs
  go_enter Tryz.func86, Tryz.ntmps86
  go_wp2_with (first
    | (go_at_call 114; (with_reducible refine UP.out.mono ?_); rintro e w1 ⟨mb, rfl, hmb, hlk, hb1⟩; have LK := Lib.hid hlk; have HB1 := Lib.hid hb1; clear hlk hb1)
    | (go_at_call 127; (with_reducible refine (FR.out _ HB1.out _ _ LK.out).mono ?_); rintro e w2 ⟨v2, rfl, hrow, hsm, hb2⟩; have R2 := Lib.hid hrow; have HB2 := Lib.hid hb2; clear hrow hb2))
  go_ret
  exact ⟨v2, rfl, owns_base R2.out HB1.out.size, hsm, HB1.out.trans (HB2.out.mono HB1.out.size)⟩

end Go.Proofs.YtdeamdpoegdmdaaGreatDoor

/- Walks of the laws of poset: decl, exampleHolds. -/
namespace Go.Proofs.YtdeamdpoegdmdaaGreatDoor
open Go.RowKit Go.Maps

theorem RetL.eq {xs : List Str} {w w' : World} {e : Ending} (h : RetL xs w e w') (L : List Str) (hx : xs = L) : ∃ a cap, e = .returned (.slice a L.length cap) ∧ IsStrs w' a L.length cap L ∧ Below w.heap.size w w' := by
  subst hx
  obtain ⟨v, e1, hrow, hsm, hb⟩ := h
  obtain ⟨a, cap, e2, hi⟩ := IsStrs.of_owns hrow hsm
  subst e2
  exact ⟨a, cap, e1, hi, hb⟩
theorem RetLE.eq {xs : List Str} {k : Nat} {w w' : World} {e : Ending} (h : RetLE xs k w e w') (L : List Str) (hx : xs = L) : ∃ a cap, e = .returned (.tuple #[.slice a L.length cap, .int .i64 ((k : Nat) : Int)]) ∧ IsStrs w' a L.length cap L ∧ Below w.heap.size w w' := by
  subst hx
  obtain ⟨v, e1, hrow, hsm, hb⟩ := h
  obtain ⟨a, cap, e2, hi⟩ := IsStrs.of_owns hrow hsm
  subst e2
  exact ⟨a, cap, e1, hi, hb⟩
theorem Check_val (c : Nat) (w : World) (a : Option Addr) (n cap : Nat) (D : List Dec) (h : IsDecs w a n cap D) (hc : chkN D = c) :
    Calls Tryz.prog 73 #[.slice a n cap] w fun e w' => e = .returned (.int .i64 ((c : Nat) : Int)) ∧ Below w.heap.size w w' := hc ▸ Check_any w a n cap D h
/-- A literal of strings. -/
theorem lit_at (w : World) (zs : List Str) (hs : ∀ z ∈ zs, z.length ≤ maxLen) (hl : zs.length ≤ maxLen) (b : Nat) (hb : b = w.heap.size) (h0 : 0 < zs.length) : IsStrs (w.alloc (.cells (svals zs).toArray 9)) (some ⟨b, 0, none⟩) zs.length zs.length zs := by
  subst hb
  refine ⟨rfl, Nat.le_refl _, hl, hs, (fun e => by cases e), fun _ => ⟨_, _, rfl, by simp, fun i hi => ?_⟩⟩
  rw [World.cell?_alloc_new, Nat.zero_add]
  simp [svals, st, List.getD_eq_getElem?_getD, List.getElem?_eq_getElem hi]
theorem dec_new (w : World) (cs : Array Value) (t b o : Nat) (hb : b = w.heap.size) (d : Dec) (sa : Option Addr) (sc : Nat) (h0 : cs[o]? = some (.string (mk d.name))) (h1 : cs[o + 1]? = some (.slice sa d.sup.length sc)) (h2 : cs[o + 2]? = some (.slice none 0 0)) (hs : IsStrs w sa d.sup.length sc d.sup) (hn : d.nf = 0) (hl : d.name.length ≤ maxLen) :
    DecAt (w.alloc (.cells cs t)) b o d sa sc none 0 := by
  subst hb
  refine ⟨?_, ?_, ?_, hs.below ((Below.refl _ _).alloc (Nat.le_refl _) _), by omega, Nat.zero_le _, hl⟩
  · rw [World.cell?_alloc_new]; exact h0
  · rw [World.cell?_alloc_new]; exact h1
  · rw [World.cell?_alloc_new, hn]; exact h2

def exD : List Dec := [⟨[99], [[97], [98]], 0⟩, ⟨[116], [], 0⟩, ⟨[98], [[116]], 0⟩, ⟨[97], [[116]], 0⟩]
abbrev exS (b : UInt8) : Value := .string ⟨#[b]⟩
abbrev exW1 (w : World) : World := (((((((w.alloc (.cells #[exS 97, exS 98] 9)).alloc (.cells #[exS 99, .slice (some ⟨w.heap.size, 0, none⟩) 2 2, .slice none 0 0] 53)).alloc (.cells #[exS 116, .slice none 0 0, .slice none 0 0] 53)).alloc (.cells #[exS 116] 9)).alloc (.cells #[exS 98, .slice (some ⟨w.heap.size + 1 + 1 + 1, 0, none⟩) 1 1, .slice none 0 0] 53)).alloc (.cells #[exS 116] 9)).alloc (.cells #[exS 97, .slice (some ⟨w.heap.size + 1 + 1 + 1 + 1 + 1, 0, none⟩) 1 1, .slice none 0 0] 53))
abbrev exW (w : World) : World := (exW1 w).alloc (.cells #[exS 99, .slice (some ⟨w.heap.size, 0, none⟩) 2 2, .slice none 0 0, exS 116, .slice none 0 0, .slice none 0 0, exS 98, .slice (some ⟨w.heap.size + 1 + 1 + 1, 0, none⟩) 1 1, .slice none 0 0, exS 97, .slice (some ⟨w.heap.size + 1 + 1 + 1 + 1 + 1, 0, none⟩) 1 1, .slice none 0 0] 53)
theorem ba (w : World) (o : Obj) : Below w.heap.size w (w.alloc o) := (Below.refl _ _).alloc (Nat.le_refl _) _
theorem exW_is (w : World) : IsDecs (exW w) (some ⟨w.heap.size + 1 + 1 + 1 + 1 + 1 + 1 + 1, 0, none⟩) 4 4 exD ∧ Below w.heap.size w (exW w) := by
  have s1 := (((((((lit_at w [[97], [98]] (by decide) (by decide) _ rfl (by decide)).below (ba _ (.cells #[exS 99, .slice (some ⟨w.heap.size, 0, none⟩) 2 2, .slice none 0 0] 53))).below (ba _ (.cells #[exS 116, .slice none 0 0, .slice none 0 0] 53))).below (ba _ (.cells #[exS 116] 9))).below (ba _ (.cells #[exS 98, .slice (some ⟨w.heap.size + 1 + 1 + 1, 0, none⟩) 1 1, .slice none 0 0] 53))).below (ba _ (.cells #[exS 116] 9))).below (ba _ (.cells #[exS 97, .slice (some ⟨w.heap.size + 1 + 1 + 1 + 1 + 1, 0, none⟩) 1 1, .slice none 0 0] 53)))
  have s2 := ((((lit_at (((w.alloc (.cells #[exS 97, exS 98] 9)).alloc (.cells #[exS 99, .slice (some ⟨w.heap.size, 0, none⟩) 2 2, .slice none 0 0] 53)).alloc (.cells #[exS 116, .slice none 0 0, .slice none 0 0] 53)) [[116]] (by decide) (by decide) (w.heap.size + 1 + 1 + 1) (by simp) (by decide)).below (ba _ (.cells #[exS 98, .slice (some ⟨w.heap.size + 1 + 1 + 1, 0, none⟩) 1 1, .slice none 0 0] 53))).below (ba _ (.cells #[exS 116] 9))).below (ba _ (.cells #[exS 97, .slice (some ⟨w.heap.size + 1 + 1 + 1 + 1 + 1, 0, none⟩) 1 1, .slice none 0 0] 53)))
  have s3 := (lit_at (((((w.alloc (.cells #[exS 97, exS 98] 9)).alloc (.cells #[exS 99, .slice (some ⟨w.heap.size, 0, none⟩) 2 2, .slice none 0 0] 53)).alloc (.cells #[exS 116, .slice none 0 0, .slice none 0 0] 53)).alloc (.cells #[exS 116] 9)).alloc (.cells #[exS 98, .slice (some ⟨w.heap.size + 1 + 1 + 1, 0, none⟩) 1 1, .slice none 0 0] 53)) [[116]] (by decide) (by decide) (w.heap.size + 1 + 1 + 1 + 1 + 1) (by simp) (by decide)).below (ba _ (.cells #[exS 97, .slice (some ⟨w.heap.size + 1 + 1 + 1 + 1 + 1, 0, none⟩) 1 1, .slice none 0 0] 53))
  have hbb : w.heap.size + 1 + 1 + 1 + 1 + 1 + 1 + 1 = (exW1 w).heap.size := by simp
  refine ⟨⟨rfl, Nat.le_refl _, by decide, fun _ => ⟨_, _, rfl, by simp, fun i hi => ?_⟩⟩, ?_⟩
  · rcases i with _ | _ | _ | _ | i
    · exact ⟨some ⟨w.heap.size, 0, none⟩, 2, none, 0, dec_new (exW1 w) _ _ _ 0 hbb (dc exD 0) _ _ rfl rfl rfl s1 rfl (by decide)⟩
    · exact ⟨none, 0, none, 0, dec_new (exW1 w) _ _ _ 3 hbb (dc exD 1) _ _ rfl rfl rfl (IsStrs.nil _) rfl (by decide)⟩
    · exact ⟨some ⟨w.heap.size + 1 + 1 + 1, 0, none⟩, 1, none, 0, dec_new (exW1 w) _ _ _ 6 hbb (dc exD 2) _ _ rfl rfl rfl s2 rfl (by decide)⟩
    · exact ⟨some ⟨w.heap.size + 1 + 1 + 1 + 1 + 1, 0, none⟩, 1, none, 0, dec_new (exW1 w) _ _ _ 9 hbb (dc exD 3) _ _ rfl rfl rfl s3 rfl (by decide)⟩
    · omega
  · refine ((((((((Below.refl _ _).alloc ?_ _).alloc ?_ _).alloc ?_ _).alloc ?_ _).alloc ?_ _).alloc ?_ _).alloc ?_ _).alloc ?_ _ <;> (simp; try omega)
end Go.Proofs.YtdeamdpoegdmdaaGreatDoor

/- Walks of the laws of poset: exampleHolds. -/
namespace Go.Proofs.YtdeamdpoegdmdaaGreatDoor
open Go.RowKit Go.Maps

def exX : List Dec := [⟨[97], [[98]], 0⟩, ⟨[98], [[97]], 0⟩, ⟨[116], [], 0⟩]
abbrev exX1 (w : World) : World := (((((w.alloc (.cells #[exS 98] 9)).alloc (.cells #[exS 97, .slice (some ⟨w.heap.size, 0, none⟩) 1 1, .slice none 0 0] 53)).alloc (.cells #[exS 97] 9)).alloc (.cells #[exS 98, .slice (some ⟨w.heap.size + 1 + 1, 0, none⟩) 1 1, .slice none 0 0] 53)).alloc (.cells #[exS 116, .slice none 0 0, .slice none 0 0] 53))
abbrev exXW (w : World) : World := (exX1 w).alloc (.cells #[exS 97, .slice (some ⟨w.heap.size, 0, none⟩) 1 1, .slice none 0 0, exS 98, .slice (some ⟨w.heap.size + 1 + 1, 0, none⟩) 1 1, .slice none 0 0, exS 116, .slice none 0 0, .slice none 0 0] 53)
theorem exX_is (w : World) (n : Nat) (hn : n ≤ 3) : IsDecs (exXW w) (some ⟨w.heap.size + 1 + 1 + 1 + 1 + 1, 0, none⟩) n 3 (exX.take n) ∧ Below w.heap.size w (exXW w) := by
  have s1 := ((((lit_at w [[98]] (by decide) (by decide) _ rfl (by decide)).below (ba _ (.cells #[exS 97, .slice (some ⟨w.heap.size, 0, none⟩) 1 1, .slice none 0 0] 53))).below (ba _ (.cells #[exS 97] 9))).below (ba _ (.cells #[exS 98, .slice (some ⟨w.heap.size + 1 + 1, 0, none⟩) 1 1, .slice none 0 0] 53))).below (ba _ (.cells #[exS 116, .slice none 0 0, .slice none 0 0] 53))
  have s2 := ((lit_at ((w.alloc (.cells #[exS 98] 9)).alloc (.cells #[exS 97, .slice (some ⟨w.heap.size, 0, none⟩) 1 1, .slice none 0 0] 53)) [[97]] (by decide) (by decide) (w.heap.size + 1 + 1) (by simp) (by decide)).below (ba _ (.cells #[exS 98, .slice (some ⟨w.heap.size + 1 + 1, 0, none⟩) 1 1, .slice none 0 0] 53))).below (ba _ (.cells #[exS 116, .slice none 0 0, .slice none 0 0] 53))
  have hbb : w.heap.size + 1 + 1 + 1 + 1 + 1 = (exX1 w).heap.size := by simp
  have hd : ∀ i, i < n → dc (exX.take n) i = dc exX i := fun i hi => by
    unfold dc
    simp [List.getD_eq_getElem?_getD, List.getElem?_take, hi]
  refine ⟨⟨by rw [List.length_take]; exact Nat.min_eq_left hn, hn, by decide, fun _ => ⟨_, _, rfl, by simp, fun i hi => ?_⟩⟩, ?_⟩
  · rw [hd i hi]
    rcases i with _ | _ | _ | i
    · exact ⟨some ⟨w.heap.size, 0, none⟩, 1, none, 0, dec_new (exX1 w) _ _ _ 0 hbb (dc exX 0) _ _ rfl rfl rfl s1 rfl (by decide)⟩
    · exact ⟨some ⟨w.heap.size + 1 + 1, 0, none⟩, 1, none, 0, dec_new (exX1 w) _ _ _ 3 hbb (dc exX 1) _ _ rfl rfl rfl s2 rfl (by decide)⟩
    · exact ⟨none, 0, none, 0, dec_new (exX1 w) _ _ _ 6 hbb (dc exX 2) _ _ rfl rfl rfl (IsStrs.nil _) rfl (by decide)⟩
    · omega
  · refine ((((((Below.refl _ _).alloc ?_ _).alloc ?_ _).alloc ?_ _).alloc ?_ _).alloc ?_ _).alloc ?_ _ <;> (simp; try omega)
theorem IsDecs.nil (w : World) : IsDecs w none 0 0 [] := ⟨rfl, Nat.le_refl _, Nat.zero_le _, fun h => absurd h (Nat.lt_irrefl _)⟩

theorem ex_chk : chkN exD = 0 := by unfold chkN chk; rw [plc_eq]; decide +kernel
theorem ex_ord : ordN exD = [[116], [97], [98], [99]] := by unfold ordN; rw [if_pos ex_chk, plc_eq]; decide +kernel
theorem ex_ab : ab exD [99] = [[97], [98], [99], [116]] := by decide +kernel
theorem ex_bl : bl exD [97] = [[97], [99]] := by decide +kernel
theorem ex_mn : mn exD [[98], [97], [99]] = [[99]] := by decide +kernel
theorem ex_mx : mx exD [[99], [97], [120], [97]] = [[97]] := by decide +kernel
theorem ex_c3 : chkN (exX.take 3) = 6 := by unfold chkN chk; rw [plc_eq]; decide +kernel
theorem ex_c2 : chkN (exX.take 2) = 1 := by unfold chkN chk; rw [plc_eq]; decide +kernel
theorem ex_c1 : chkN (exX.take 1) = 5 := by unfold chkN chk; rw [plc_eq]; decide +kernel
theorem ex_c0 : chkN [] = 1 := by unfold chkN chk; rw [plc_eq]; decide +kernel
theorem lit_ (w : World) (zs : List Str) (hs : ∀ z ∈ zs, z.length ≤ maxLen) (hl : zs.length ≤ maxLen) (h0 : 0 < zs.length) : IsStrs (w.alloc (.cells (svals zs).toArray 9)) (some ⟨w.heap.size, 0, none⟩) zs.length zs.length zs := lit_at w zs hs hl _ rfl h0

end Go.Proofs.YtdeamdpoegdmdaaGreatDoor

/- What arguments of the laws of poset read as: lists of strings, declarations. -/
namespace Go.Proofs.YtdeamdpoegdmdaaGreatDoor
open Go.RowKit Go.ChangeShapes Go.WideShapes Go.Deep

theorem add_none (b off i : Nat) : (⟨b, off, none⟩ : Addr).add i = ⟨b, off + i, none⟩ := by unfold Addr.add; split <;> simp_all
instance : Inhabited Dec := ⟨⟨[], [], 0⟩⟩

section
variable {H : Type} {enc : TypeId × Value → H} {W : World} {spare : Nat → Bool} {held : Bool}
theorem trod_strs {fuel : Nat} {v : Value} {x : DataW H × List MemPlace} (h : DataW.trod enc Tryz.prog W 0 spare held fuel 49 [v] = some x) : ∃ a n cap zs, v = .slice a n cap ∧ IsStrs W a n cap zs := by
  rcases open_slice1 Tryz.underlying49 (by kernel_rfl) h with ⟨hcs, _⟩ | ⟨a, len, cap, m, n, V, D, Pl, hcs, _, hl, hm, hmm, _, hi⟩
  · injection hcs with e _
    exact ⟨none, 0, 0, [], e, IsStrs.nil _⟩
  · injection hcs with e _
    have hlm : len ≤ m := by rw [hmm]; split <;> omega
    have hz : ∀ i, i < len → ∃ z : Str, z.length ≤ maxLen ∧ W.cell? (a.add i) = some (.string (mk z)) := fun i h => by
      obtain ⟨hc, ht⟩ := hi i (by omega)
      obtain ⟨s, hs, _, hsz⟩ := DataW.trod_string Tryz.underlying9 ht
      injection hs with e1 _
      refine ⟨s.data.toList, by rw [Array.length_toList]; exact hsz, ?_⟩
      rw [hc, e1]
      have : mk s.data.toList = s := by unfold mk; simp
      rw [this]
    obtain ⟨f, hf⟩ : ∃ f : Nat → Str, ∀ i, i < len → (f i).length ≤ maxLen ∧ W.cell? (a.add i) = some (.string (mk (f i))) :=
      choose_lt (α := Str) (p := fun i z => z.length ≤ maxLen ∧ W.cell? (a.add i) = some (.string (mk z))) hz
    have hst : ∀ i, i < len → st ((List.range len).map f) i = f i := fun i hi => by
      unfold st
      rw [List.getD_eq_getElem?_getD, List.getElem?_map, List.getElem?_range hi]; rfl
    refine ⟨some a, len, cap, (List.range len).map f, e, by simp, hl, hm, fun z hz => ?_, (fun e => by cases e), fun h0 => ?_⟩
    · obtain ⟨i, hi, rfl⟩ := List.mem_map.1 hz
      exact (hf i (List.mem_range.1 hi)).1
    · obtain ⟨b, off, spot⟩ := a
      have hspot : spot = none := by
        have := World.cell?_spot (hf 0 h0).2
        simpa [Addr.add] using this
      subst hspot
      refine ⟨b, off, rfl, ?_, fun i hi => ?_⟩
      · have := World.block_lt_of_cell? W _ (hf 0 h0).2
        simpa [Addr.add] using this
      · have := (hf i hi).2
        rw [hst i hi]
        rwa [add_none] at this
theorem trod_row {fuel : Nat} {v : Value} {x : DataW H × List MemPlace} {t e : TypeId} (ht : Tryz.prog.underlying t = some (.slice e)) (h : DataW.trod enc Tryz.prog W 0 spare held fuel t [v] = some x) : ∃ a n cap, v = .slice a n cap ∧ n ≤ cap ∧ cap ≤ maxLen := by
  rcases open_slice ht h with ⟨hcs, _⟩ | ⟨a, len, cap, m, n, D, Pl, hcs, _, hl, hm, hmm, _, hi⟩
  · injection hcs with e _
    exact ⟨none, 0, 0, e, Nat.le_refl _, Nat.zero_le _⟩
  · injection hcs with e _
    exact ⟨some a, len, cap, e, hl, hm⟩
set_option maxRecDepth 100000 in
theorem trod_decs {fuel : Nat} {v : Value} {x : DataW H × List MemPlace} (h : DataW.trod enc Tryz.prog W 0 spare held fuel 22 [v] = some x) : ∃ a n cap D, v = .slice a n cap ∧ IsDecs W a n cap D := by
  rcases open_slice Tryz.underlying22 h with ⟨hcs, _⟩ | ⟨a, len, cap, m, n, D, Pl, hcs, _, hl, hm, hmm, _, hi⟩
  · injection hcs with e _
    exact ⟨none, 0, 0, [], e, IsDecs.nil _⟩
  · injection hcs with e _
    have hlm : len ≤ m := by rw [hmm]; split <;> omega
    have hk : Tryz.prog.cellsOf 53 = 3 := by kernel_rfl
    have hd : ∀ i, i < len → ∃ (d : Dec) (sa : Option Addr) (sc : Nat) (fa : Option Addr) (fc : Nat), W.cell? (a.add (i * 3)) = some (.string (mk d.name)) ∧ W.cell? (a.add (i * 3 + 1)) = some (.slice sa d.sup.length sc) ∧ W.cell? (a.add (i * 3 + 2)) = some (.slice fa d.nf fc) ∧ IsStrs W sa d.sup.length sc d.sup ∧ d.nf ≤ fc ∧ fc ≤ maxLen ∧ d.name.length ≤ maxLen := fun i h => by
      obtain ⟨cs', hc, ht⟩ := hi i (by omega)
      rw [hk] at hc
      obtain ⟨_, hcl, hat⟩ := World.cells?_some hc
      obtain ⟨ys, n', _, _, _, hyl, hf⟩ := DataW.trod_struct Tryz.underlying53 ht
      match cs', hcl with
      | [c0, c1, c2], _ =>
        match ys, hyl with
        | [y0, y1, y2], _ =>
          have g0 := hf 0 _ rfl
          have g1 := hf 1 _ rfl
          have g2 := hf 2 _ rfl
          have t0 : DataW.trod enc Tryz.prog W 0 spare held n' 9 [c0] = some y0 := g0
          have t1 : DataW.trod enc Tryz.prog W 0 spare held n' 49 [c1] = some y1 := g1
          have t2 : DataW.trod enc Tryz.prog W 0 spare held n' 51 [c2] = some y2 := g2
          obtain ⟨s, hs, _, hsz⟩ := DataW.trod_string Tryz.underlying9 t0
          injection hs with e0 _
          obtain ⟨sa, sn, sc, zs, e1, hss⟩ := trod_strs t1
          obtain ⟨fa, fn, fc, e2, hf1, hf2⟩ := trod_row Tryz.underlying51 t2
          have a0 := hat 0 (by decide)
          have a1 := hat 1 (by decide)
          have a2 := hat 2 (by decide)
          rw [Go.Deep.add_add] at a0 a1 a2
          have hmk : mk s.data.toList = s := by unfold mk; simp
          have hsl := hss.len
          subst hsl
          exact ⟨⟨s.data.toList, zs, fn⟩, sa, sc, fa, fc, by rw [hmk, ← e0]; exact a0, by rw [← e1]; exact a1, by rw [← e2]; exact a2, hss, hf1, hf2, by rw [Array.length_toList]; exact hsz⟩
    obtain ⟨f, hf⟩ : ∃ f : Nat → Dec, ∀ i, i < len → ∃ (sa : Option Addr) (sc : Nat) (fa : Option Addr) (fc : Nat), W.cell? (a.add (i * 3)) = some (.string (mk (f i).name)) ∧ W.cell? (a.add (i * 3 + 1)) = some (.slice sa (f i).sup.length sc) ∧ W.cell? (a.add (i * 3 + 2)) = some (.slice fa (f i).nf fc) ∧ IsStrs W sa (f i).sup.length sc (f i).sup ∧ (f i).nf ≤ fc ∧ fc ≤ maxLen ∧ (f i).name.length ≤ maxLen :=
      choose_lt (α := Dec) (p := fun i d => ∃ (sa : Option Addr) (sc : Nat) (fa : Option Addr) (fc : Nat), W.cell? (a.add (i * 3)) = some (.string (mk d.name)) ∧ W.cell? (a.add (i * 3 + 1)) = some (.slice sa d.sup.length sc) ∧ W.cell? (a.add (i * 3 + 2)) = some (.slice fa d.nf fc) ∧ IsStrs W sa d.sup.length sc d.sup ∧ d.nf ≤ fc ∧ fc ≤ maxLen ∧ d.name.length ≤ maxLen) hd
    have hst : ∀ i, i < len → dc ((List.range len).map f) i = f i := fun i hi => by
      unfold dc
      rw [List.getD_eq_getElem?_getD, List.getElem?_map, List.getElem?_range hi]; rfl
    refine ⟨some a, len, cap, (List.range len).map f, e, by simp, hl, hm, fun h0 => ?_⟩
    obtain ⟨b, off, spot⟩ := a
    obtain ⟨_, _, _, _, c00, _⟩ := hf 0 h0
    have hspot : spot = none := by
      have := World.cell?_spot c00
      simpa [Addr.add] using this
    subst hspot
    refine ⟨b, off, rfl, ?_, fun i hi => ?_⟩
    · have := World.block_lt_of_cell? W _ c00
      simpa [Addr.add] using this
    · obtain ⟨sa, sc, fa, fc, h1, h2, h3, h4, h5, h6, h7⟩ := hf i hi
      refine ⟨sa, sc, fa, fc, ?_⟩
      rw [hst i hi]
      rw [add_none] at h1 h2 h3
      exact ⟨h1, by rw [Nat.add_assoc]; exact h2, by rw [Nat.add_assoc]; exact h3, h4, h5, h6, h7⟩
end
theorem Txt.own : ownKnob Tryz.prog.godebug = none := by kernel_rfl
theorem Txt.laidOut : laidOutB Tryz.prog = true := by kernel_rfl
end Go.Proofs.YtdeamdpoegdmdaaGreatDoor

/- slices.Backward at strings: its contract, for a loop whose body may write one block. -/
namespace Go.Proofs.YtdeamdpoegdmdaaGreatDoor
open Go.RowKit Go.Shelf
attribute [local go_sem] Oper.semAt_some

/-- All blocks below n₀ but g lie as they lay. -/
def KeptBut (n₀ g : Nat) (W W' : World) : Prop := W.heap.size ≤ W'.heap.size ∧ ∀ k, k < n₀ → k ≠ g → W'.heap[k]? = W.heap[k]?
theorem KeptBut.refl (n₀ g : Nat) (W : World) : KeptBut n₀ g W W := ⟨Nat.le_refl _, fun _ _ _ => rfl⟩
theorem KeptBut.trans {n₀ g : Nat} {A B C : World} (h : KeptBut n₀ g A B) (k : KeptBut n₀ g B C) : KeptBut n₀ g A C :=
  ⟨Nat.le_trans h.1 k.1, fun j hj hg => (k.2 j hj hg).trans (h.2 j hj hg)⟩
theorem KeptBut.cell {n₀ g : Nat} {W W' : World} (h : KeptBut n₀ g W W') {a : Addr} (ha : a.block < n₀) (hg : a.block ≠ g) : W'.cell? a = W.cell? a := World.cell?_of_block (h.2 _ ha hg)
theorem keptBut_b {n₀ g : Nat} {w : World} (hn : n₀ ≤ w.heap.size) : ∀ (W : World) (l : Nat) (o o' : Obj), w.heap.size ≤ l → W.heap[l]? = some o → o.isCells = false → o.isWalk = false → KeptBut n₀ g W (W.putObj l o') := by
  intro W l o o' hl ho _ _
  have hgb := grownBy_putObj' W l o'
  refine ⟨hgb.size, fun k hk hkg => hgb.block k ?_ (fun e => by cases e; omega)⟩
  have := (Array.getElem?_eq_some_iff.1 ho).1
  omega
theorem Below.keptBut {B n₀ g : Nat} {W W' : World} (h : Below B W W') (hn : n₀ ≤ B) : KeptBut n₀ g W W' := ⟨h.size, fun k hk _ => h.block k (by omega)⟩

def bkl (zs : List SStr) (k : Nat) : List (Nat × SStr) := (List.range k).map fun j => (zs.length - 1 - j, zs.getD (zs.length - 1 - j) default)
theorem bkl_succ (zs : List SStr) (k : Nat) : bkl zs (k + 1) = bkl zs k ++ [(zs.length - 1 - k, zs.getD (zs.length - 1 - k) default)] := by simp [bkl, List.range_succ]
theorem bkl_length (zs : List SStr) (k : Nat) : (bkl zs k).length = k := by simp [bkl]
theorem bkl_all (zs : List SStr) : (bkl zs zs.length).map Prod.snd = zs.reverse := by
  apply List.ext_getElem
  · simp [bkl]
  · intro i h1 h2
    have hi : i < zs.length := by simpa using h2
    simp only [bkl, List.getElem_map, List.getElem_range, List.getElem_reverse]
    rw [List.getD_eq_getElem?_getD, List.getElem?_eq_getElem (by omega)]
    rfl
def encsB (p : Nat × SStr) : Array Value := #[.int .i64 (p.1 : Int), encT p.2]

set_option maxRecDepth 100000 in
set_option maxHeartbeats 2000000 in
theorem back1_in (n : Nat) (hn : 1 ≤ n) (l Bs n₀ g b off cap : Nat) (zs : List SStr) (hl : zs.length ≤ 100000) (hb : b < n₀) (hbg : b ≠ g) (hB : Bs < n₀) (hBg : Bs ≠ g) (J Jx : List (Nat × SStr) → World → Prop)
    (hY : ∀ pre x W, J pre W → pre.length < zs.length → YieldAt Fence.wide (n - 1) Tryz.prog l (encsB x) W fun e W' =>
      (e = .returned (.bool true) ∧ J (pre ++ [x]) W' ∧ KeptBut n₀ g W W') ∨ (e = .returned (.bool false) ∧ Jx (pre ++ [x]) W'))
    (W : World) (hBs : W.cell? ⟨Bs, 0, none⟩ = some (.slice (some ⟨b, off, none⟩) zs.length cap)) (hc : ∀ j, j < zs.length → W.cell? ⟨b, off + j, none⟩ = some (encT (zs.getD j default))) (h0 : J [] W) :
    CallsIn Fence.wide n Tryz.prog 122 #[.func (.yield l) #[] #[], .pointer (some ⟨Bs, 0, none⟩)] W fun e W' => (∃ v, e = .returned v) ∧
      ((∃ ys, ys = bkl zs zs.length ∧ J ys W') ∨ (∃ pre, (∃ k, k ≤ zs.length ∧ pre = bkl zs k) ∧ Jx pre W')) := by
  obtain ⟨len, hlen⟩ : ∃ len, zs.length = len := ⟨_, rfl⟩
  have HB := Lib.hid (bkl_succ zs)
  have HBL := Lib.hid (bkl_length zs)
  rw [hlen] at hY hBs hc HB hl ⊢
  clear hlen
  have HY := Lib.hid hY
  have HCC := Lib.hid hc
  clear hY hc
  refine callsIn_of_wp Tryz.func122 rfl trivial ?_ rfl
  simp only [Tryz.ntmps122, List.size_toArray, List.length_cons, List.length_nil, Nat.reduceAdd, Nat.reduceSub, Array.replicate_succ, Array.replicate_zero, List.push_toArray, List.append_toArray, List.nil_append, List.cons_append]
  gi_wp2
  gi_loopw [3] (fun i wr => ∃ m : Nat, m ≤ len ∧ i = .int .i64 ((m : Int) - 1) ∧ Hid (J (bkl zs (len - m)) wr) ∧ Hid (KeptBut n₀ g W wr))
    (fun i _ => (intOf i + 1).toNat)
  case atStart => exact ⟨len, Nat.le_refl _, rfl, by rw [Nat.sub_self]; exact h0, KeptBut.refl _ _ _⟩
  case round =>
    obtain ⟨m, hm, rfl, hJs, hnx⟩ := hrel
    match m, hm, hJs with
    | 0, hm, hJs =>
      gi_wp2
      go_end0
      exact ⟨⟨_, rfl⟩, .inl ⟨_, rfl, hJs.out⟩⟩
    | m + 1, hm, hJs =>
      have e : (((m + 1 : Nat) : Int) - 1) = (m : Int) := by omega
      rw [e]
      have hcb := (hnx.out.cell (a := ⟨Bs, 0, none⟩) hB hBg).trans hBs
      have hcx := (hnx.out.cell (a := ⟨b, off + m, none⟩) hb hbg).trans (HCC.out m (by omega))
      have hbx := HB.out (len - (m + 1))
      rw [show len - 1 - (len - (m + 1)) = m by omega, show len - (m + 1) + 1 = len - m by omega] at hbx
      have HBX := Lib.hid hbx
      obtain ⟨fn, tmps, assign, body, hy, hR⟩ := HY.out _ (m, zs.getD m default) wr hJs.out (by rw [HBL.out]; omega)
      obtain ⟨x, hx⟩ : ∃ x, zs.getD m default = x := ⟨_, rfl⟩
      rw [hx] at hy hR hcx HBX
      unfold encsB encT at hy
      unfold encT at hcx
      dsimp only at hy
      clear hbx hx e
      gi_wp2
      refine hR.mono ?_
      rintro e W3 (⟨rfl, hJ3, hk3⟩ | ⟨rfl, hJx3⟩)
      · gi_wp2
        go_roundw
        case rel => exact ⟨m, by omega, rfl, by show J _ _; rw [HBX.out]; exact hJ3, hnx.out.trans hk3⟩
        case measure => simp [intOf]
      · gi_wp2
        refine bodyPost_ret (results_none rfl _ _ _) rfl ?_
        exact ⟨⟨_, rfl⟩, .inr ⟨_, ⟨len - m, by omega, HBX.out.symm⟩, hJx3⟩⟩

theorem Backward_any (a : Option Addr) (len cap : Nat) (w : World) :
    Calls Tryz.prog 81 #[.slice a len cap] w fun e w' => e = .returned (.func (.func 122) #[] #[.pointer (some ⟨w.heap.size, 0, none⟩)]) ∧ w' = w.alloc (.cells #[.slice a len cap] 49) := by
  go_enter Tryz.func81, Tryz.ntmps81
  go_wp2
  go_ret
  exact ⟨rfl, rfl⟩

theorem back_stops (n : Nat) (hn : 1 ≤ n) (Bs n₀ g b off cap : Nat) (zs : List SStr) (hl : zs.length ≤ 100000) (hb : b < n₀) (hbg : b ≠ g) (hB : Bs < n₀) (hBg : Bs ≠ g) (w : World) (hn₀ : n₀ ≤ w.heap.size)
    (hc : w.cell? ⟨Bs, 0, none⟩ = some (.slice (some ⟨b, off, none⟩) zs.length cap)) (hcs : ∀ j, j < zs.length → w.cell? ⟨b, off + j, none⟩ = some (encT (zs.getD j default))) :
    SeqStopsK Fence.wide n Tryz.prog 122 #[.pointer (some ⟨Bs, 0, none⟩)] encsB (KeptBut n₀ g) (fun ys => ys = bkl zs zs.length) (fun pre => ∃ k, k ≤ zs.length ∧ pre = bkl zs k) zs.length w := fun l J Jx W hW _ _ hY h0 =>
  back1_in n hn l Bs n₀ g b off cap zs hl hb hbg hB hBg J Jx hY W ((hW.cell (p := ⟨Bs, 0, none⟩) (by show Bs < _; omega)).trans hc) (fun j hj => (hW.cell (p := ⟨b, off + j, none⟩) (by show b < _; omega)).trans (hcs j hj)) h0
end Go.Proofs.YtdeamdpoegdmdaaGreatDoor

/- Walks over package bits: the leaves. -/
namespace Go.Proofs.YtdeamdpoegdmdaaGreatDoor.S
open Go.RowKit

/-- The word of a list at a place, 0 behind its end. Plain, so that no tactic opens it. -/
def wd (xs : List Nat) (i : Nat) : Nat := xs.getD i 0

/-- A slice of 64-bit words that reads as a list. -/
structure Is64 (w : World) (a : Option Addr) (n cap : Nat) (xs : List Nat) : Prop where
  len : xs.length = n
  capLe : n ≤ cap
  maxLe : cap ≤ maxLen
  bnd : ∀ i, i < n → wd xs i < 18446744073709551616
  at_ : 0 < n → ∃ b off, a = some ⟨b, off, none⟩ ∧ b < w.heap.size ∧ ∀ i, i < n → w.cell? ⟨b, off + i, none⟩ = some (.int .u64 ((wd xs i : Nat) : Int))
  nil : a = none → n = 0 ∧ cap = 0

theorem Is64.below {w w' : World} {a : Option Addr} {n cap : Nat} {xs : List Nat} (h : Is64 w a n cap xs) (hb : Below w.heap.size w w') : Is64 w' a n cap xs := by
  refine ⟨h.len, h.capLe, h.maxLe, h.bnd, fun h0 => ?_, h.nil⟩
  obtain ⟨b, off, rfl, hl, hc⟩ := h.at_ h0
  exact ⟨b, off, rfl, Nat.lt_of_lt_of_le hl hb.size, fun i hi => (hb.cell (p := ⟨b, off + i, none⟩) hl).trans (hc i hi)⟩

theorem wd_take (xs : List Nat) (m i : Nat) (h : i < m) : wd (xs.take m) i = wd xs i := by
  simp [wd, List.getD_eq_getElem?_getD, List.getElem?_take, h]

theorem Is64.take {w : World} {a : Option Addr} {n cap m : Nat} {xs : List Nat} (h : Is64 w a n cap xs) (hm : m ≤ n) : Is64 w a m cap (xs.take m) := by
  refine ⟨by rw [List.length_take, h.len]; omega, by have := h.capLe; omega, h.maxLe, fun i hi => ?_, fun h0 => ?_, fun e => by have := h.nil e; omega⟩
  · rw [wd_take _ _ _ hi]; exact h.bnd i (by omega)
  · obtain ⟨b, off, rfl, hl, hc⟩ := h.at_ (by omega)
    exact ⟨b, off, rfl, hl, fun i hi => by rw [wd_take _ _ _ hi]; exact hc i (by omega)⟩

theorem word_in (w : World) (a : Option Addr) (n cap : Nat) (xs : List Nat) (h : Is64 w a n cap xs) (i : Nat) (hi : i < n) :
    Calls Tryz.prog 102 #[.slice a n cap, .int .i64 i] w fun e w' => e = .returned (.int .u64 ((wd xs i : Nat) : Int)) ∧ w = w' := by
  obtain ⟨b, off, rfl, hbl, hcell⟩ := h.at_ (by omega)
  have h0 := hcell i hi
  have hm := h.maxLe
  have hc := h.capLe
  unfold maxLen at hm
  clear hcell h
  go_enter Tryz.func102, Tryz.ntmps102
  go_wp2
  go_ret
  exact ⟨rfl, rfl⟩

theorem word_out (w : World) (a : Option Addr) (n cap : Nat) (i : Int) (hi : (n : Int) ≤ i) :
    Calls Tryz.prog 102 #[.slice a n cap, .int .i64 i] w fun e w' => e = .returned (.int .u64 0) ∧ w = w' := by
  go_enter Tryz.func102, Tryz.ntmps102
  go_wp2
  go_ret
  exact ⟨rfl, rfl⟩

theorem wd_out (xs : List Nat) (i : Nat) (h : xs.length ≤ i) : wd xs i = 0 := by
  simp [wd, List.getD_eq_getElem?_getD, List.getElem?_eq_none h]

/-- The word at any place that is not negative. -/
theorem word_any (w : World) (a : Option Addr) (n cap : Nat) (xs : List Nat) (h : Is64 w a n cap xs) (i : Nat) :
    Calls Tryz.prog 102 #[.slice a n cap, .int .i64 i] w fun e w' => e = .returned (.int .u64 ((wd xs i : Nat) : Int)) ∧ w = w' := by
  by_cases hi : i < n
  · exact word_in w a n cap xs h i hi
  · rw [wd_out xs i (by rw [h.len]; omega)]
    exact word_out w a n cap i (by omega)

theorem rword_in (w : World) (a : Option Addr) (n cap : Nat) (xs : List Nat) (h : Is64 w a n cap xs) (i : Nat) (hi : i < n) :
    Calls Tryz.prog 100 #[.slice a n cap, .int .i64 i] w fun e w' => e = .returned (.int .u64 ((wd xs i : Nat) : Int)) ∧ w = w' := by
  obtain ⟨b, off, rfl, hbl, hcell⟩ := h.at_ (by omega)
  have h0 := hcell i hi
  have hm := h.maxLe
  have hc := h.capLe
  unfold maxLen at hm
  clear hcell h
  go_enter Tryz.func100, Tryz.ntmps100
  go_wp2
  go_ret
  exact ⟨rfl, rfl⟩

theorem rword_out (w : World) (a : Option Addr) (n cap : Nat) (i : Int) (hi : (n : Int) ≤ i) :
    Calls Tryz.prog 100 #[.slice a n cap, .int .i64 i] w fun e w' => e = .returned (.int .u64 0) ∧ w = w' := by
  go_enter Tryz.func100, Tryz.ntmps100
  go_wp2
  go_ret
  exact ⟨rfl, rfl⟩

theorem rword_any (w : World) (a : Option Addr) (n cap : Nat) (xs : List Nat) (h : Is64 w a n cap xs) (i : Nat) :
    Calls Tryz.prog 100 #[.slice a n cap, .int .i64 i] w fun e w' => e = .returned (.int .u64 ((wd xs i : Nat) : Int)) ∧ w = w' := by
  by_cases hi : i < n
  · exact rword_in w a n cap xs h i hi
  · rw [wd_out xs i (by rw [h.len]; omega)]
    exact rword_out w a n cap i (by omega)

/-- How many words stay when the zero words at the end of the first n are dropped. -/
def nlen (xs : List Nat) : Nat → Nat
  | 0 => 0
  | n + 1 => if wd xs n = 0 then nlen xs n else n + 1

theorem nlen_le (xs : List Nat) : ∀ n, nlen xs n ≤ n
  | 0 => Nat.le_refl _
  | n + 1 => by
    unfold nlen
    split
    · have := nlen_le xs n; omega
    · omega

theorem normal_any (w : World) (a : Option Addr) (n cap : Nat) (xs : List Nat) (h : Is64 w a n cap xs) :
    Calls Tryz.prog 65 #[.slice a n cap] w fun e w' => e = .returned (.slice a (nlen xs n) cap) ∧ w = w' := by
  have hm := h.maxLe
  have hc := h.capLe
  have HX := Lib.hid h.at_
  unfold maxLen at hm
  clear h
  go_enter Tryz.func65, Tryz.ntmps65
  go_wp2
  go_loop [3] (fun v => ∃ k : Nat, k ≤ n ∧ v = .int .i64 k ∧ Hid (nlen xs k = nlen xs n)) (fun v => (intOf v).toNat)
  case atStart => exact ⟨n, Nat.le_refl _, rfl, rfl⟩
  case round =>
    obtain ⟨k, hk, rfl, hr⟩ := hrel
    match k, hk, hr with
    | 0, hk, hr =>
      go_wp2
      go_ret
      exact ⟨by rw [← hr.out]; rfl, rfl⟩
    | k + 1, hk, hr =>
      obtain ⟨b, off, rfl, hbl, hcell⟩ := HX.out (by omega)
      have h0 := hcell k (by omega)
      by_cases hz : wd xs k = 0
      · rw [hz] at h0
        clear hcell HX
        have hr' : Hid (nlen xs k = nlen xs n) := by
          have := hr.out
          rw [nlen, if_pos hz] at this
          exact this
        clear hr hz
        go_wp2
        exact ⟨⟨k, by omega, rfl, hr'⟩, by simp [intOf]⟩
      · clear hcell HX
        have hz1 : (((wd xs k : Nat) : Int) == 0) = false := by simpa using hz
        have hr' : Hid (nlen xs n = k + 1) := by
          have := hr.out
          rw [nlen, if_neg hz] at this
          exact this.symm
        clear hr hz
        go_wp2
        go_ret
        exact ⟨by rw [hr'.out]; rfl, rfl⟩
end Go.Proofs.YtdeamdpoegdmdaaGreatDoor.S

/- Walks over package bits: And, Or, Minus. -/
namespace Go.Proofs.YtdeamdpoegdmdaaGreatDoor.S
open Go.RowKit

theorem Tryz.info64 : (Tryz.prog.info? 37).map (fun i => (i.zero, i.size, i.bytes)) = some (some (.int .u64 0), 1, 8) := by kernel_rfl

/-- A block that holds just these words. -/
def Row64 (w : World) (g m : Nat) (f : Nat → Nat) : Prop := w.heap[g]? = some (.cells ((List.range m).map fun i => Value.int .u64 ((f i : Nat) : Int)).toArray 37 (0, 0))

theorem Row64.cell {w : World} {g m : Nat} {f : Nat → Nat} (h : Row64 w g m f) {k : Nat} (hk : k < m) : w.cell? ⟨g, k, none⟩ = some (.int .u64 ((f k : Nat) : Int)) := by
  unfold Row64 at h
  simp [World.cell?, h, hk]
theorem Row64.free {w : World} {g m : Nat} {f : Nat → Nat} (h : Row64 w g m f) (k : Nat) : w.frozen? ⟨g, k, none⟩ = false := by
  unfold Row64 at h
  simp [World.frozen?, h]
theorem Row64.set {w : World} {g m : Nat} {f f' : Nat → Nat} (h : Row64 w g m f) {k : Nat} (hk : k < m) (v : Int) (hv : v = ((f' k : Nat) : Int)) (ho : ∀ i, i ≠ k → f' i = f i) :
    Row64 (w.setCell ⟨g, k, none⟩ (.int .u64 v)) g m f' := by
  unfold Row64 at h ⊢
  subst hv
  simp only [World.setCell, Array.getElem?_modify, h, if_true, Option.map_some, Option.isSome_none, Bool.false_eq_true, if_false]
  congr 2
  apply Array.ext_getElem?
  intro i
  simp only [List.setIfInBounds_toArray, List.getElem?_toArray, List.getElem?_set, List.getElem?_map, List.length_map, List.length_range]
  by_cases hi : k = i
  · subst hi; simp [hk]
  · by_cases him : i < m <;> simp [hi, him, ho i (Ne.symm hi)]
theorem Row64.of_heap {w w' : World} {g m : Nat} {f : Nat → Nat} (h : Row64 w g m f) (e : w'.heap[g]? = w.heap[g]?) : Row64 w' g m f := by
  unfold Row64 at h ⊢
  rw [e, h]

theorem Row64.made {w : World} {B g m : Nat} (h : w.ownsRow B 37 1 (.slice (some ⟨g, 0, none⟩) m m) m (madeCells (Value.int .u64 0).cells (m * 1)).toList) : Row64 w g m (fun _ => 0) := by
  obtain ⟨h1, ⟨h2, _⟩ | ⟨g', cap, cur, hv, hb, hg, h3, h4, h5, h6⟩⟩ := h
  · cases h2
  · cases hv
    unfold Row64
    rw [hg]
    have e : cur = ((List.range m).map fun _ => Value.int .u64 (((0 : Nat) : Nat) : Int)).toArray := by
      have e2 : cur.toList = (madeCells (Value.int .u64 0).cells (m * 1)).toList := by
        rw [← h6, List.take_of_length_le]
        simp; omega
      apply Array.ext'
      rw [e2]
      simp [madeCells, Value.cells, Nat.mod_one]
    rw [e]



/-- The list of a function's first values. -/
def tab (m : Nat) (f : Nat → Nat) : List Nat := (List.range m).map f
theorem tab_len (m : Nat) (f : Nat → Nat) : (tab m f).length = m := by simp [tab]
theorem wd_tab (m : Nat) (f : Nat → Nat) (i : Nat) (h : i < m) : wd (tab m f) i = f i := by simp [wd, tab, h]
/-- The same without the zero words at its end. -/
def nrm (m : Nat) (f : Nat → Nat) : List Nat := (tab m f).take (nlen (tab m f) m)

theorem Row64.is64 {w : World} {g m : Nat} {f f' : Nat → Nat} (h : Row64 w g m f') (he : ∀ i, i < m → f' i = f i) (hb : ∀ i, i < m → f i < 18446744073709551616) (hm : m ≤ maxLen) (hg : g < w.heap.size) :
    Is64 w (some ⟨g, 0, none⟩) m m (tab m f) := by
  refine ⟨tab_len m f, Nat.le_refl _, hm, fun i hi => by rw [wd_tab _ _ _ hi]; exact hb i hi, fun _ => ⟨g, 0, rfl, hg, fun i hi => ?_⟩, fun e => by cases e⟩
  rw [wd_tab _ _ _ hi, ← he i hi, Nat.zero_add]
  exact h.cell hi

/-- The call returns a slice that reads as this list; nothing that was there has changed. -/
def Fresh (B : Nat) (a : Option Addr) : Prop := ∀ p : Addr, a = some p → B ≤ p.block
theorem Fresh.self (B : Nat) : Fresh B (some ⟨B, 0, none⟩) := fun p e => by cases e; exact Nat.le_refl _
theorem Fresh.mono {B B' : Nat} {a : Option Addr} (h : Fresh B a) (hb : B' ≤ B) : Fresh B' a := fun p e => Nat.le_trans hb (h p e)
theorem owns_fresh {w : World} {B size n n' cap : Nat} {e : TypeId} {a : Option Addr} {xs : List Value} (h : w.ownsRow B e size (.slice a n cap) n' xs) : Fresh B a := by
  rcases h.2 with ⟨e, _⟩ | ⟨g, cap', cur, hv, hB, _⟩
  · cases e; intro p e; cases e
  · cases hv; intro p e; cases e; exact hB
def Ret64 (xs : List Nat) (w : World) (e : Ending) (w' : World) : Prop :=
  ∃ a n cap, e = .returned (.slice a n cap) ∧ (Is64 w' a n cap xs ∧ Fresh w.heap.size a) ∧ Below w.heap.size w w'

theorem Ret64.nrm {w w' : World} {a : Option Addr} {m cap : Nat} {f : Nat → Nat} {e : Ending} (h : Is64 w' a m cap (tab m f)) (hb : Below w.heap.size w w') (he : e = .returned (.slice a (nlen (tab m f) m) cap)) (hf : Fresh w.heap.size a) :
    Ret64 (nrm m f) w e w' := ⟨a, _, cap, he, ⟨h.take (nlen_le _ _), hf⟩, hb⟩

/-- What the loop of And, Or or Minus has done after k rounds. -/
def upTo (f : Nat → Nat) (k i : Nat) : Nat := if i < k then f i else 0
theorem upTo_lt (f : Nat → Nat) (k i : Nat) (h : i < k) : upTo f k i = f i := by simp [upTo, h]
theorem upTo_ne (f : Nat → Nat) (k i : Nat) (h : i ≠ k) : upTo f (k + 1) i = upTo f k i := by
  unfold upTo
  by_cases h1 : i < k
  · rw [if_pos h1, if_pos (by omega)]
  · rw [if_neg h1, if_neg (by omega)]

theorem Row64.next {w : World} {g m k : Nat} {f : Nat → Nat} (h : Row64 w g m (upTo f k)) (hk : k < m) (v : Int) (hv : v = ((f k : Nat) : Int)) : Row64 (w.setCell ⟨g, k, none⟩ (.int .u64 v)).drew g m (upTo f (k + 1)) :=
  Row64.set h hk v (by rw [hv, upTo_lt _ _ _ (Nat.lt_succ_self k)]) fun i hi => upTo_ne f k i hi

theorem and_lt {a b : Nat} (h : a < 18446744073709551616) : a &&& b < 18446744073709551616 := Nat.lt_of_le_of_lt Nat.and_le_left h
theorem and_int {a b : Nat} (h : a < 18446744073709551616) (h' : b < 18446744073709551616) : bits .and .u64 (a : Int) (b : Int) = ((a &&& b : Nat) : Int) := u64_and_nat a b h h'

def andF (xs ys : List Nat) (i : Nat) : Nat := wd xs i &&& wd ys i

set_option maxRecDepth 100000 in
theorem And_any (w : World) (a1 a2 : Option Addr) (n1 n2 cap1 cap2 : Nat) (xs ys : List Nat) (h1 : Is64 w a1 n1 cap1 xs) (h2 : Is64 w a2 n2 cap2 ys) (s1 : n1 ≤ 1000000) (s2 : n2 ≤ 1000000) :
    Calls Tryz.prog 29 #[.slice a1 n1 cap1, .slice a2 n2 cap2] w (Ret64 (nrm (min n1 n2) (andF xs ys)) w) := by
  have hc1 := h1.capLe
  have hc2 := h2.capLe
  have hm1 := h1.maxLe
  have hm2 := h2.maxLe
  obtain ⟨m, em⟩ : ∃ m : Nat, min n1 n2 = m := ⟨_, rfl⟩
  rw [em]
  have l1 : m ≤ n1 := by omega
  have l2 : m ≤ n2 := by omega
  have em' : Hid (m = n1 ∨ m = n2) := by show _ ∨ _; omega
  unfold maxLen at hm1 hm2
  have H1 := Lib.hid h1
  have H2 := Lib.hid h2
  obtain ⟨i0, hi, hz0, hz1, hz2⟩ := info_parts Tryz.info64
  have HI := Lib.hid (And.intro hi (And.intro hz0 (And.intro hz1 hz2)))
  clear h1 h2 em hi hz0 hz1 hz2
  by_cases hle : n2 < n1
  all_goals
    go_enter Tryz.func29, Tryz.ntmps29
    go_wp2_with (at_make; refine wpList_make_full _ rfl _ _ _ rfl w.heap.size 37 i0 (.int .u64 0) 1 Tryz.underlying31 HI.out.1 HI.out.2.1 HI.out.2.2.1 _ _ _ _ m rfl rfl ?_ ?_ ?_ ?_ (Nat.le_refl _) ?_; rotate_right; intro w1 hown hgrow)
    · have hb0 : Below w.heap.size w w1 := (Below.refl _ _).grown hgrow (Nat.le_refl _) (fun _ e => by cases e)
      have hr0 := Row64.made hown
      have HR := Lib.hid hr0
      have hsz := lt_of_block hr0
      clear hown hgrow hr0
      go_loopw [15] (fun v wr => ∃ k : Nat, k ≤ m ∧ v = .int .i64 k ∧ Hid (Row64 wr w.heap.size m (upTo (andF xs ys) k)) ∧ Below w.heap.size w wr ∧ w.heap.size < wr.heap.size) (fun v _ => m - (intOf v).toNat)
      case atStart => exact ⟨0, Nat.zero_le _, rfl, HR.out, hb0, hsz⟩
      case round =>
        obtain ⟨k, hk, rfl, hrow, hb, hsr⟩ := hrel
        by_cases hlt : k < m
        · obtain ⟨b1, o1, rfl, hl1, hx1⟩ := H1.out.at_ (by omega)
          obtain ⟨b2, o2, rfl, hl2, hx2⟩ := H2.out.at_ (by omega)
          have c1 := (hb.cell (p := ⟨b1, o1 + k, none⟩) hl1).trans (hx1 k (by omega))
          have c2 := (hb.cell (p := ⟨b2, o2 + k, none⟩) hl2).trans (hx2 k (by omega))
          have c3 := hrow.out.cell hlt
          have f3 := hrow.out.free k
          clear hx1 hx2
          go_wp2
          go_region
          go_wp2
          go_roundw
          case rel =>
            exact ⟨k + 1, by omega, by go_num, hrow.out.next hlt _ (and_int (H1.out.bnd k (by omega)) (H2.out.bnd k (by omega))), (hb.setCell (Nat.le_refl _) _).drew, by simpa using hsr⟩
          case measure => simp [intOf]; omega
        · obtain rfl : k = m := by omega
          have hres := hrow.out.is64 (f := andF xs ys) (fun i hi => upTo_lt _ _ _ hi) (fun i hi => and_lt (H1.out.bnd i (by omega))) (by unfold maxLen; omega) hsr
          have HRes := Lib.hid hres
          clear hrow hres
          go_wp2_with (go_at_call 65; refine (normal_any _ _ _ _ _ HRes.out).mono ?_; rintro e w' ⟨rfl, rfl⟩)
          go_ret
          exact Ret64.nrm HRes.out hb rfl (Fresh.self _)
    all_goals first | (rw [HI.out.2.2.2]; omega) | (unfold maxLen; omega) | (have := em'.out; omega)

theorem Is64.lt {w : World} {a : Option Addr} {n cap : Nat} {xs : List Nat} (h : Is64 w a n cap xs) (i : Nat) : wd xs i < 18446744073709551616 := by
  by_cases hi : i < n
  · exact h.bnd i hi
  · rw [wd_out xs i (by rw [h.len]; omega)]; decide
theorem or_lt {a b : Nat} (h : a < 18446744073709551616) (h' : b < 18446744073709551616) : a ||| b < 18446744073709551616 := Nat.or_lt_two_pow (n := 64) h h'
theorem or_int {a b : Nat} (h : a < 18446744073709551616) (h' : b < 18446744073709551616) : bits .or .u64 (a : Int) (b : Int) = ((a ||| b : Nat) : Int) := u64_or_nat a b h h'
/-- The bits of a that b lacks. -/
def nat_not (a b : Nat) : Nat := a &&& (18446744073709551615 - b)
theorem not_lt' {a b : Nat} (h : a < 18446744073709551616) : nat_not a b < 18446744073709551616 := and_lt h
theorem not_int {a b : Nat} (h : a < 18446744073709551616) (h' : b < 18446744073709551616) : bits .andNot .u64 (a : Int) (b : Int) = ((nat_not a b : Nat) : Int) := u64_andNot_nat a b h h'

def orF (xs ys : List Nat) (i : Nat) : Nat := wd xs i ||| wd ys i

set_option maxRecDepth 100000 in
theorem Or_any (w : World) (a1 a2 : Option Addr) (n1 n2 cap1 cap2 : Nat) (xs ys : List Nat) (h1 : Is64 w a1 n1 cap1 xs) (h2 : Is64 w a2 n2 cap2 ys) (s1 : n1 ≤ 1000000) (s2 : n2 ≤ 1000000) :
    Calls Tryz.prog 83 #[.slice a1 n1 cap1, .slice a2 n2 cap2] w (Ret64 (nrm (max n1 n2) (orF xs ys)) w) := by
  have hc1 := h1.capLe
  have hc2 := h2.capLe
  have hm1 := h1.maxLe
  have hm2 := h2.maxLe
  obtain ⟨m, em⟩ : ∃ m : Nat, max n1 n2 = m := ⟨_, rfl⟩
  rw [em]
  have l1 : n1 ≤ m := by omega
  have l2 : n2 ≤ m := by omega
  have l3 : m ≤ 1000000 := by omega
  have em' : Hid (m = n1 ∨ m = n2) := by show _ ∨ _; omega
  unfold maxLen at hm1 hm2
  have H1 := Lib.hid h1
  have H2 := Lib.hid h2
  obtain ⟨i0, hi, hz0, hz1, hz2⟩ := info_parts Tryz.info64
  have HI := Lib.hid (And.intro hi (And.intro hz0 (And.intro hz1 hz2)))
  clear h1 h2 em hi hz0 hz1 hz2
  by_cases hle : n1 < n2
  all_goals
    go_enter Tryz.func83, Tryz.ntmps83
    go_wp2_with (at_make; refine wpList_make_full _ rfl _ _ _ rfl w.heap.size 37 i0 (.int .u64 0) 1 Tryz.underlying31 HI.out.1 HI.out.2.1 HI.out.2.2.1 _ _ _ _ m rfl rfl ?_ ?_ ?_ ?_ (Nat.le_refl _) ?_; rotate_right; intro w1 hown hgrow)
    · have hb0 : Below w.heap.size w w1 := (Below.refl _ _).grown hgrow (Nat.le_refl _) (fun _ e => by cases e)
      have hr0 := Row64.made hown
      have HR := Lib.hid hr0
      have hsz := lt_of_block hr0
      clear hown hgrow hr0
      go_loopw [15] (fun v wr => ∃ k : Nat, k ≤ m ∧ v = .int .i64 k ∧ Hid (Row64 wr w.heap.size m (upTo (orF xs ys) k)) ∧ Below w.heap.size w wr ∧ w.heap.size < wr.heap.size) (fun v _ => m - (intOf v).toNat)
      case atStart => exact ⟨0, Nat.zero_le _, rfl, HR.out, hb0, hsz⟩
      case round =>
        obtain ⟨k, hk, rfl, hrow, hb, hsr⟩ := hrel
        by_cases hlt : k < m
        · have c3 := hrow.out.cell hlt
          have f3 := hrow.out.free k
          have G1 := Lib.hid (H1.out.below hb)
          have G2 := Lib.hid (H2.out.below hb)
          go_wp2_with (go_at_call 102; first | ((with_reducible refine (word_any _ _ _ _ _ G1.out k).mono ?_); rintro e w' ⟨rfl, rfl⟩) | ((with_reducible refine (word_any _ _ _ _ _ G2.out k).mono ?_); rintro e w' ⟨rfl, rfl⟩))
          go_roundw
          case rel =>
            exact ⟨k + 1, by omega, by go_num, hrow.out.next hlt _ (or_int (H1.out.lt k) (H2.out.lt k)), hb.setCell (Nat.le_refl _) _, by simpa using hsr⟩
          case measure => simp [intOf]; omega
        · obtain rfl : k = m := by omega
          have hres := hrow.out.is64 (f := orF xs ys) (fun i hi => upTo_lt _ _ _ hi) (fun i hi => or_lt (H1.out.lt i) (H2.out.lt i)) (by unfold maxLen; omega) hsr
          have HRes := Lib.hid hres
          clear hrow hres
          go_wp2_with (go_at_call 65; refine (normal_any _ _ _ _ _ HRes.out).mono ?_; rintro e w' ⟨rfl, rfl⟩)
          go_ret
          exact Ret64.nrm HRes.out hb rfl (Fresh.self _)
    all_goals first | (rw [HI.out.2.2.2]; omega) | (unfold maxLen; omega) | (have := em'.out; omega)
def minF (xs ys : List Nat) (i : Nat) : Nat := nat_not (wd xs i) (wd ys i)

end Go.Proofs.YtdeamdpoegdmdaaGreatDoor.S

/- Plain: the number of the one bits of a word, and the way in which math/bits counts them. Imports no program. -/
namespace Go.Proofs.YtdeamdpoegdmdaaGreatDoor.S

def popN : Nat → Nat → Nat
  | 0, _ => 0
  | n + 1, x => x % 2 + popN n (x / 2)
def pop (x : Nat) : Nat := popN 64 x

theorem popN_le : ∀ n x, popN n x ≤ n
  | 0, _ => Nat.le_refl _
  | n + 1, x => by have := popN_le n (x / 2); simp only [popN]; omega

theorem popN_8 (n d y : Nat) (h : d < 256) : popN (n + 8) (d + 256 * y) = popN 8 d + popN n y := by
  have e : (d + 256 * y) / 2 / 2 / 2 / 2 / 2 / 2 / 2 / 2 = y := by omega
  simp only [popN, e]
  omega

/-- The number of these bytes, the least first. -/
def val : List Nat → Nat
  | [] => 0
  | d :: l => d + 256 * val l
/-- The mask that bears this byte n times. -/
def msk (c : Nat) : Nat → Nat
  | 0 => 0
  | n + 1 => c + 256 * msk c n

theorem and_byte (d c y m : Nat) (hd : d < 256) (hc : c < 256) : (d + 256 * y) &&& (c + 256 * m) = (d &&& c) + 256 * (y &&& m) := by
  have h1 : ((d + 256 * y) &&& (c + 256 * m)) % 2 ^ 8 = (d &&& c) := by
    rw [Nat.and_mod_two_pow]
    rw [show (d + 256 * y) % 2 ^ 8 = d by omega, show (c + 256 * m) % 2 ^ 8 = c by omega]
  have h2 : ((d + 256 * y) &&& (c + 256 * m)) / 2 ^ 8 = (y &&& m) := by
    rw [Nat.and_div_two_pow]
    rw [show (d + 256 * y) / 2 ^ 8 = y by omega, show (c + 256 * m) / 2 ^ 8 = m by omega]
  omega

def b1 (d : Nat) : Nat := (d / 2 &&& 85) + (d &&& 85)
def b2 (d : Nat) : Nat := (d / 4 &&& 51) + (d &&& 51)
def b3 (d : Nat) : Nat := (d / 16 + d) &&& 15

theorem b1_top : ∀ d, d < 256 → ∀ t, t < 2 → (d / 2 + 128 * t) &&& 85 = d / 2 &&& 85 := by decide +kernel
theorem b2_top : ∀ d, d < 256 → ∀ t, t < 4 → (d / 4 + 64 * t) &&& 51 = d / 4 &&& 51 := by decide +kernel
theorem b3_top : ∀ d, d < 69 → ∀ t, t < 5 → (d / 16 + d + 16 * t) &&& 15 = b3 d := by decide +kernel
theorem b1_lt : ∀ d, d < 256 → b1 d < 256 := by decide +kernel
theorem b2_lt : ∀ d, d < 256 → b2 (b1 d) < 69 ∧ b2 (b1 d) % 16 < 5 := by decide +kernel
theorem b3_pop : ∀ d, d < 256 → b3 (b2 (b1 d)) = popN 8 d := by decide +kernel

def S1 (n x : Nat) : Nat := (x / 2 &&& msk 85 n) + (x &&& msk 85 n)
def S2 (n x : Nat) : Nat := (x / 4 &&& msk 51 n) + (x &&& msk 51 n)
def S3 (n x : Nat) : Nat := (x / 16 + x) &&& msk 15 n

theorem S1_val : ∀ l : List Nat, (∀ d ∈ l, d < 256) → S1 l.length (val l) = val (l.map b1)
  | [], _ => rfl
  | d :: l, h => by
    have ih := S1_val l (fun x hx => h x (by simp [hx]))
    have hd := h d (by simp)
    unfold S1 at ih ⊢
    simp only [val, List.length_cons, msk, List.map_cons]
    rw [show (d + 256 * val l) / 2 = (d / 2 + 128 * (val l % 2)) + 256 * (val l / 2) by omega]
    rw [and_byte _ _ _ _ (by omega) (by omega), and_byte _ _ _ _ hd (by omega), b1_top d hd _ (by omega), ← ih, b1]
    omega
theorem S2_val : ∀ l : List Nat, (∀ d ∈ l, d < 256) → S2 l.length (val l) = val (l.map b2)
  | [], _ => rfl
  | d :: l, h => by
    have ih := S2_val l (fun x hx => h x (by simp [hx]))
    have hd := h d (by simp)
    unfold S2 at ih ⊢
    simp only [val, List.length_cons, msk, List.map_cons]
    rw [show (d + 256 * val l) / 4 = (d / 4 + 64 * (val l % 4)) + 256 * (val l / 4) by omega]
    rw [and_byte _ _ _ _ (by omega) (by omega), and_byte _ _ _ _ hd (by omega), b2_top d hd _ (by omega), ← ih, b2]
    omega
theorem S3_val : ∀ l : List Nat, (∀ d ∈ l, d < 69 ∧ d % 16 < 5) → S3 l.length (val l) = val (l.map b3)
  | [], _ => rfl
  | d :: l, h => by
    have ih := S3_val l (fun x hx => h x (by simp [hx]))
    have hd := (h d (by simp)).1
    have hy : val l % 16 < 5 := by
      cases l with
      | nil => simp [val]
      | cons e l => have := (h e (by simp)).2; simp only [val]; omega
    unfold S3 at ih ⊢
    simp only [val, List.length_cons, msk, List.map_cons]
    rw [show (d + 256 * val l) / 16 + (d + 256 * val l) = (d / 16 + d + 16 * (val l % 16)) + 256 * (val l / 16 + val l) by omega]
    rw [and_byte _ _ _ _ (by omega) (by omega), b3_top d hd _ hy, ← ih]

def bytes8 (x : Nat) : List Nat := [x % 256, x / 256 % 256, x / 65536 % 256, x / 16777216 % 256, x / 4294967296 % 256, x / 1099511627776 % 256, x / 281474976710656 % 256, x / 72057594037927936 % 256]

def s1 (x : Nat) : Nat := (x / 2 &&& 6148914691236517205) + (x &&& 6148914691236517205)
def s2 (x : Nat) : Nat := (s1 x / 4 &&& 3689348814741910323) + (s1 x &&& 3689348814741910323)
def s3 (x : Nat) : Nat := (s2 x / 16 + s2 x) &&& 1085102592571150095
def s4 (x : Nat) : Nat := s3 x + s3 x / 256
def s5 (x : Nat) : Nat := s4 x + s4 x / 65536
def s6 (x : Nat) : Nat := s5 x + s5 x / 4294967296

theorem val_bytes8 (x : Nat) (h : x < 18446744073709551616) : val (bytes8 x) = x := by simp only [bytes8, val]; omega
theorem bytes8_lt (x : Nat) : ∀ d ∈ bytes8 x, d < 256 := by
  intro d hd
  simp only [bytes8, List.mem_cons, List.mem_nil_iff, or_false] at hd
  omega

theorem s1_eq (x : Nat) (h : x < 18446744073709551616) : s1 x = val ((bytes8 x).map b1) := by
  rw [← S1_val _ (bytes8_lt x), val_bytes8 x h]; rfl
theorem s2_eq (x : Nat) (h : x < 18446744073709551616) : s2 x = val ((bytes8 x).map fun d => b2 (b1 d)) := by
  have hb : ∀ d ∈ (bytes8 x).map b1, d < 256 := by
    intro d hd
    obtain ⟨e, he, rfl⟩ := List.mem_map.1 hd
    exact b1_lt e (bytes8_lt x e he)
  have := S2_val _ hb
  rw [List.map_map] at this
  rw [show (fun d => b2 (b1 d)) = b2 ∘ b1 from rfl, ← this, ← s1_eq x h]
  rfl
theorem s3_eq (x : Nat) (h : x < 18446744073709551616) : s3 x = val ((bytes8 x).map (popN 8)) := by
  have hb : ∀ d ∈ (bytes8 x).map (fun d => b2 (b1 d)), d < 69 ∧ d % 16 < 5 := by
    intro d hd
    obtain ⟨e, he, rfl⟩ := List.mem_map.1 hd
    exact b2_lt e (bytes8_lt x e he)
  have := S3_val _ hb
  rw [List.map_map] at this
  have e : (bytes8 x).map (popN 8) = (bytes8 x).map (b3 ∘ fun d => b2 (b1 d)) := List.map_congr_left fun d hd => (b3_pop d (bytes8_lt x d hd)).symm
  rw [e, ← this, ← s2_eq x h]
  rfl

theorem popN_val : ∀ l : List Nat, (∀ d ∈ l, d < 256) → popN (8 * l.length) (val l) = (l.map (popN 8)).sum
  | [], _ => rfl
  | d :: l, h => by
    have ih := popN_val l (fun x hx => h x (by simp [hx]))
    simp only [val, List.length_cons, List.map_cons, List.sum_cons, Nat.mul_add, Nat.mul_one]
    rw [popN_8 _ _ _ (h d (by simp)), ih]

theorem pop_val (x : Nat) (h : x < 18446744073709551616) : pop x = ((bytes8 x).map (popN 8)).sum := by
  have := popN_val _ (bytes8_lt x)
  rw [val_bytes8 x h] at this
  exact this

theorem val_le (c : Nat) : ∀ l : List Nat, (∀ d ∈ l, d ≤ c) → val l ≤ c * msk 1 l.length
  | [], _ => Nat.zero_le _
  | d :: l, h => by
    have ih := val_le c l (fun x hx => h x (by simp [hx]))
    have hd := h d (by simp)
    simp only [val, List.length_cons, msk, Nat.mul_add, Nat.mul_one]
    rw [Nat.mul_left_comm]
    omega
theorem bytes8_len (x : Nat) : (bytes8 x).length = 8 := rfl
theorem s1_lt (x : Nat) (h : x < 18446744073709551616) : s1 x < 18446744073709551616 := by
  rw [s1_eq x h]
  have := val_le 255 ((bytes8 x).map b1) (by
    intro d hd
    obtain ⟨e, he, rfl⟩ := List.mem_map.1 hd
    have := b1_lt e (bytes8_lt x e he)
    omega)
  rw [List.length_map, bytes8_len] at this
  exact Nat.lt_of_le_of_lt this (by decide)
theorem s2_lt (x : Nat) (h : x < 18446744073709551616) : s2 x ≤ 4919131752989213764 := by
  rw [s2_eq x h]
  have := val_le 68 ((bytes8 x).map fun d => b2 (b1 d)) (by
    intro d hd
    obtain ⟨e, he, rfl⟩ := List.mem_map.1 hd
    have := (b2_lt e (bytes8_lt x e he)).1
    omega)
  rw [List.length_map, bytes8_len] at this
  exact Nat.le_trans this (by decide)

theorem lane1 (a b : Nat) (h : a < 256) : (a + 256 * b) / 256 = b := by omega
theorem lane2 (a b c : Nat) (h : a < 256) (h' : b < 256) : (a + 256 * (b + 256 * c)) / 65536 = c := by omega
theorem lane4 (a b c d e : Nat) (h : a < 256) (h' : b < 256) (h2 : c < 256) (h3 : d < 256) : (a + 256 * (b + 256 * (c + 256 * (d + 256 * e)))) / 4294967296 = e := by omega
theorem low7 (a b : Nat) (h : a < 128) : (a + 256 * b) % 128 = a := by omega

theorem s_bounds (x : Nat) (h : x < 18446744073709551616) : s1 x < 18446744073709551616 ∧ s2 x < 18446744073709551616 ∧ s2 x / 16 + s2 x < 18446744073709551616 ∧ s3 x < 18446744073709551616 ∧ s4 x < 18446744073709551616 ∧ s5 x < 18446744073709551616 ∧ s6 x < 9223372036854775808 ∧ s6 x % 128 = pop x := by
  have k1 := s1_lt x h
  have k2 := s2_lt x h
  have e3 := s3_eq x h
  have ep := pop_val x h
  simp only [bytes8, List.map_cons, List.map_nil, val, List.sum_cons, List.sum_nil] at e3 ep
  have h0 := popN_le 8 (x % 256)
  have h1 := popN_le 8 (x / 256 % 256)
  have h2 := popN_le 8 (x / 65536 % 256)
  have h3 := popN_le 8 (x / 16777216 % 256)
  have h4 := popN_le 8 (x / 4294967296 % 256)
  have h5 := popN_le 8 (x / 1099511627776 % 256)
  have h6 := popN_le 8 (x / 281474976710656 % 256)
  have h7 := popN_le 8 (x / 72057594037927936 % 256)
  generalize popN 8 (x % 256) = p0 at *
  generalize popN 8 (x / 256 % 256) = p1 at *
  generalize popN 8 (x / 65536 % 256) = p2 at *
  generalize popN 8 (x / 16777216 % 256) = p3 at *
  generalize popN 8 (x / 4294967296 % 256) = p4 at *
  generalize popN 8 (x / 1099511627776 % 256) = p5 at *
  generalize popN 8 (x / 281474976710656 % 256) = p6 at *
  generalize popN 8 (x / 72057594037927936 % 256) = p7 at *
  generalize pop x = q at *
  have e4 : s4 x = p0 + p1 + 256 * (p1 + p2 + 256 * (p2 + p3 + 256 * (p3 + p4 + 256 * (p4 + p5 + 256 * (p5 + p6 + 256 * (p6 + p7 + 256 * (p7 + 256 * 0))))))) := by
    unfold s4
    rw [e3, lane1 _ _ (by omega)]
    clear e3 k1 k2 h0 h1 h2 h3 h4 h5 h6 h7 ep h
    omega
  have e5 : s5 x = p0 + p1 + p2 + p3 + 256 * (p1 + p2 + p3 + p4 + 256 * (p2 + p3 + p4 + p5 + 256 * (p3 + p4 + p5 + p6 + 256 * (p4 + p5 + p6 + p7 + 256 * (p5 + p6 + p7 + 256 * (p6 + p7 + 256 * (p7 + 256 * 0))))))) := by
    unfold s5
    rw [e4, lane2 _ _ _ (by omega) (by omega)]
    clear e4 e3 k1 k2 h0 h1 h2 h3 h4 h5 h6 h7 ep h
    omega
  have e6 : s6 x = p0 + p1 + p2 + p3 + p4 + p5 + p6 + p7 + 256 * (p1 + p2 + p3 + p4 + p5 + p6 + p7 + 256 * (p2 + p3 + p4 + p5 + p6 + p7 + 256 * (p3 + p4 + p5 + p6 + p7 + 256 * (p4 + p5 + p6 + p7 + 256 * (p5 + p6 + p7 + 256 * (p6 + p7 + 256 * (p7 + 256 * 0))))))) := by
    unfold s6
    rw [e5, lane4 _ _ _ _ _ (by omega) (by omega) (by omega) (by omega)]
    clear e5 e4 e3 k1 k2 h0 h1 h2 h3 h4 h5 h6 h7 ep h
    omega
  refine ⟨k1, by clear e3 e4 e5 e6; omega, by clear e3 e4 e5 e6; omega, ?_, ?_, ?_, ?_, ?_⟩
  · rw [e3]; clear e3 e4 e5 e6 k1 k2 ep; omega
  · rw [e4]; clear e3 e4 e5 e6 k1 k2 ep; omega
  · rw [e5]; clear e3 e4 e5 e6 k1 k2 ep; omega
  · rw [e6]; clear e3 e4 e5 e6 k1 k2 ep; omega
  · rw [e6, low7 _ _ (by clear e3 e4 e5 e6 k1 k2 ep; omega), ep]; clear e3 e4 e5 e6 k1 k2 ep; omega
end Go.Proofs.YtdeamdpoegdmdaaGreatDoor.S

/- Walks over package bits: Subset, Equal, Count, Has. -/
namespace Go.Proofs.YtdeamdpoegdmdaaGreatDoor.S
open Go.RowKit

/-- Whether the first n words of xs have no bit that ys lacks. -/
def subB (n : Nat) (xs ys : List Nat) : Bool := (List.range n).all fun i => nat_not (wd xs i) (wd ys i) == 0
theorem subB_true {n : Nat} {xs ys : List Nat} (h : ∀ i, i < n → nat_not (wd xs i) (wd ys i) = 0) : subB n xs ys = true := by
  simp only [subB, List.all_eq_true, List.mem_range, beq_iff_eq]; exact h
theorem subB_false {n : Nat} {xs ys : List Nat} (k : Nat) (hk : k < n) (h : nat_not (wd xs k) (wd ys k) ≠ 0) : subB n xs ys = false := by
  rw [← Bool.not_eq_true]
  simp only [subB, List.all_eq_true, List.mem_range, beq_iff_eq]
  exact fun hh => h (hh k hk)

theorem Subset_any (w : World) (a1 a2 : Option Addr) (n1 n2 cap1 cap2 : Nat) (xs ys : List Nat) (h1 : Is64 w a1 n1 cap1 xs) (h2 : Is64 w a2 n2 cap2 ys) :
    Calls Tryz.prog 61 #[.slice a1 n1 cap1, .slice a2 n2 cap2] w fun e w' => e = .returned (.bool (subB n1 xs ys)) ∧ w = w' := by
  have hc1 := h1.capLe
  have hc2 := h2.capLe
  have hm1 := h1.maxLe
  have hm2 := h2.maxLe
  unfold maxLen at hm1 hm2
  have H1 := Lib.hid h1
  have H2 := Lib.hid h2
  clear h1 h2
  go_enter Tryz.func61, Tryz.ntmps61
  go_wp2
  go_loop [9] (fun v => ∃ k : Nat, k ≤ n1 ∧ v = .int .i64 k ∧ Hid (∀ i, i < k → nat_not (wd xs i) (wd ys i) = 0)) (fun v => n1 - (intOf v).toNat)
  case atStart => exact ⟨0, Nat.zero_le _, rfl, fun i hi => absurd hi (Nat.not_lt_zero _)⟩
  case round =>
    obtain ⟨k, hk, rfl, hr⟩ := hrel
    by_cases hlt : k < n1
    · obtain ⟨b1, o1, rfl, hl1, hx1⟩ := H1.out.at_ (by omega)
      have c1 := hx1 k (by omega)
      clear hx1
      have hbit := not_int (H1.out.lt k) (H2.out.lt k)
      by_cases hz : nat_not (wd xs k) (wd ys k) = 0
      · have hz1 : (bits BinOp.andNot IntKind.u64 ((wd xs k : Nat) : Int) ((wd ys k : Nat) : Int) != 0) = false := by rw [hbit, hz]; rfl
        have hr' : Hid (∀ i, i < k + 1 → nat_not (wd xs i) (wd ys i) = 0) := fun i hi => by
          rcases Nat.lt_succ_iff_lt_or_eq.1 hi with h | h
          · exact hr.out i h
          · rw [h]; exact hz
        clear hbit hz hr
        go_wp2_with (go_at_call 102; ((with_reducible refine (word_any _ _ _ _ _ H2.out k).mono ?_); rintro e w' ⟨rfl, rfl⟩))
        go_round
        case rel => exact ⟨k + 1, by omega, by go_num, hr'⟩
        case measure => simp [intOf]; omega
      · have hz1 : (bits BinOp.andNot IntKind.u64 ((wd xs k : Nat) : Int) ((wd ys k : Nat) : Int) != 0) = true := by rw [hbit]; simpa using hz
        have hf := Lib.hid (subB_false k hlt hz)
        clear hbit hz hr
        go_wp2_with (go_at_call 102; ((with_reducible refine (word_any _ _ _ _ _ H2.out k).mono ?_); rintro e w' ⟨rfl, rfl⟩))
        go_ret
        exact ⟨by rw [hf.out]; rfl, rfl⟩
    · obtain rfl : n1 = k := by omega
      have hf := Lib.hid (subB_true hr.out)
      clear hr
      go_wp2
      go_ret
      exact ⟨by rw [hf.out]; rfl, rfl⟩

theorem Subset_val (b : Bool) (w : World) (a1 a2 : Option Addr) (n1 n2 cap1 cap2 : Nat) (xs ys : List Nat) (h1 : Is64 w a1 n1 cap1 xs) (h2 : Is64 w a2 n2 cap2 ys) (hb : subB n1 xs ys = b) :
    Calls Tryz.prog 61 #[.slice a1 n1 cap1, .slice a2 n2 cap2] w fun e w' => e = .returned (.bool b) ∧ w = w' := hb ▸ Subset_any w a1 a2 n1 n2 cap1 cap2 xs ys h1 h2

theorem Equal_any (w : World) (a1 a2 : Option Addr) (n1 n2 cap1 cap2 : Nat) (xs ys : List Nat) (h1 : Is64 w a1 n1 cap1 xs) (h2 : Is64 w a2 n2 cap2 ys) :
    Calls Tryz.prog 31 #[.slice a1 n1 cap1, .slice a2 n2 cap2] w fun e w' => e = .returned (.bool (subB n1 xs ys && subB n2 ys xs)) ∧ w = w' := by
  have H1 := Lib.hid h1
  have H2 := Lib.hid h2
  clear h1 h2
  cases hb : subB n1 xs ys
  all_goals
    have HB := Lib.hid hb
    clear hb
    go_enter Tryz.func31, Tryz.ntmps31
    go_wp2_with (go_at_call 61; first | ((with_reducible refine (Subset_val _ _ _ _ _ _ _ _ _ _ H1.out H2.out HB.out).mono ?_); rintro e w' ⟨rfl, rfl⟩) | ((with_reducible refine (Subset_any _ _ _ _ _ _ _ _ _ H2.out H1.out).mono ?_); rintro e w' ⟨rfl, rfl⟩))
    go_ret
    exact ⟨rfl, rfl⟩

theorem andc {a c : Nat} (h : a < 18446744073709551616) (h' : c < 18446744073709551616) : bits .and .u64 (a : Int) (c : Int) = ((a &&& c : Nat) : Int) := u64_and_nat a c h h'
theorem wrapu {a : Nat} (h : a < 18446744073709551616) : IntKind.u64.wrap (a : Int) = (a : Int) := by rw [IntKind.wrap_u64]; omega

theorem i64_and127 (a : Nat) (h : a < 9223372036854775808) : bits .and .i64 (a : Int) 127 = ((a % 128 : Nat) : Int) := by
  have h1 : (BitVec.ofInt 64 (a : Int)).toNat = a := by
    rw [BitVec.ofInt_natCast, BitVec.toNat_ofNat]; exact Nat.mod_eq_of_lt (by omega)
  have h2 : (BitVec.ofInt 64 127).toNat = 127 := by decide
  show IntKind.i64.wrap ((BitVec.ofInt 64 (a : Int) &&& BitVec.ofInt 64 127).toNat : Int) = _
  rw [BitVec.toNat_and, h1, h2, show (127 : Nat) = 2 ^ 7 - 1 from rfl, Nat.and_two_pow_sub_one_eq_mod]
  have : a % 2 ^ 7 < 128 := Nat.mod_lt _ (by decide)
  show IntKind.i64.wrap _ = ((a % 128 : Nat) : Int)
  rw [IntKind.wrap_i64]
  omega

theorem Ones_any (w : World) (x : Nat) (hx : x < 18446744073709551616) :
    Calls Tryz.prog 66 #[.int .u64 x] w fun e w' => e = .returned (.int .i64 ((pop x : Nat) : Int)) ∧ w = w' := by
  obtain ⟨k1, k2, k3, k4, k5, k6, k7, k8⟩ := s_bounds x hx
  have f1 : IntKind.u64.wrap (bits BinOp.and IntKind.u64 ((x : Int) / 2) 6148914691236517205 + bits BinOp.and IntKind.u64 (x : Int) 6148914691236517205) = ((s1 x : Nat) : Int) := by
    rw [show ((x : Int) / 2) = ((x / 2 : Nat) : Int) from rfl, show (6148914691236517205 : Int) = ((6148914691236517205 : Nat) : Int) from rfl, andc (by omega) (by decide), andc hx (by decide), ← Int.natCast_add]
    exact wrapu k1
  have f2 : IntKind.u64.wrap (bits BinOp.and IntKind.u64 (((s1 x : Nat) : Int) / 4) 3689348814741910323 + bits BinOp.and IntKind.u64 ((s1 x : Nat) : Int) 3689348814741910323) = ((s2 x : Nat) : Int) := by
    rw [show (((s1 x : Nat) : Int) / 4) = ((s1 x / 4 : Nat) : Int) from rfl, show (3689348814741910323 : Int) = ((3689348814741910323 : Nat) : Int) from rfl, andc (by omega) (by decide), andc k1 (by decide), ← Int.natCast_add]
    exact wrapu k2
  have f3 : bits BinOp.and IntKind.u64 (IntKind.u64.wrap (((s2 x : Nat) : Int) / 16 + ((s2 x : Nat) : Int))) 1085102592571150095 = ((s3 x : Nat) : Int) := by
    rw [show (((s2 x : Nat) : Int) / 16) = ((s2 x / 16 : Nat) : Int) from rfl, ← Int.natCast_add, wrapu k3, show (1085102592571150095 : Int) = ((1085102592571150095 : Nat) : Int) from rfl, andc k3 (by decide)]
    rfl
  have f4 : IntKind.u64.wrap (((s3 x : Nat) : Int) + ((s3 x : Nat) : Int) / 256) = ((s4 x : Nat) : Int) := by
    rw [show (((s3 x : Nat) : Int) / 256) = ((s3 x / 256 : Nat) : Int) from rfl, ← Int.natCast_add]
    exact wrapu k5
  have f5 : IntKind.u64.wrap (((s4 x : Nat) : Int) + ((s4 x : Nat) : Int) / 65536) = ((s5 x : Nat) : Int) := by
    rw [show (((s4 x : Nat) : Int) / 65536) = ((s4 x / 65536 : Nat) : Int) from rfl, ← Int.natCast_add]
    exact wrapu k6
  have f6 : IntKind.u64.wrap (((s5 x : Nat) : Int) + ((s5 x : Nat) : Int) / 4294967296) = ((s6 x : Nat) : Int) := by
    rw [show (((s5 x : Nat) : Int) / 4294967296) = ((s5 x / 4294967296 : Nat) : Int) from rfl, ← Int.natCast_add]
    exact wrapu (show s6 x < _ by omega)
  have K7 := Lib.hid k7
  have K8 := Lib.hid k8
  clear k1 k2 k3 k4 k5 k6 k7 k8
  go_enter Tryz.func66, Tryz.ntmps66
  go_wp2
  go_ret
  refine ⟨?_, rfl⟩
  clear f1 f2 f3 f4 f5 f6
  show Ending.returned (.int .i64 _) = _
  rw [show wrap64 ((s6 x : Nat) : Int) = ((s6 x : Nat) : Int) from IntWalk.wrap64_in _ (by have := K7.out; omega), i64_and127 _ K7.out, K8.out]

/-- The sum of the counts of the first k words. -/
def cnt (xs : List Nat) : Nat → Nat
  | 0 => 0
  | k + 1 => cnt xs k + pop (wd xs k)
theorem cnt_le (xs : List Nat) : ∀ k, cnt xs k ≤ 64 * k
  | 0 => Nat.le_refl _
  | k + 1 => by have := cnt_le xs k; have := popN_le 64 (wd xs k); simp only [cnt, pop]; omega

theorem Count_any (w : World) (a1 : Option Addr) (n1 cap1 : Nat) (xs : List Nat) (h1 : Is64 w a1 n1 cap1 xs) (s1 : n1 ≤ 1000000) :
    Calls Tryz.prog 30 #[.slice a1 n1 cap1] w fun e w' => e = .returned (.int .i64 ((cnt xs n1 : Nat) : Int)) ∧ w = w' := by
  have hc1 := h1.capLe
  have hm1 := h1.maxLe
  unfold maxLen at hm1
  have H1 := Lib.hid h1
  clear h1
  go_enter Tryz.func30, Tryz.ntmps30
  go_wp2
  go_loop [3, 8] (fun c v => ∃ k : Nat, k ≤ n1 ∧ v = .int .i64 k ∧ c = .int .i64 ((cnt xs k : Nat) : Int)) (fun _ v => n1 - (intOf v).toNat)
  case atStart => exact ⟨0, Nat.zero_le _, rfl, rfl⟩
  case round =>
    obtain ⟨k, hk, rfl, rfl⟩ := hrel
    by_cases hlt : k < n1
    · obtain ⟨b1, o1, rfl, hl1, hx1⟩ := H1.out.at_ (by omega)
      have c1 := hx1 k (by omega)
      clear hx1
      have q1 := cnt_le xs k
      have q2 := popN_le 64 (wd xs k)
      change pop (wd xs k) ≤ 64 at q2
      go_wp2_with (go_at_call 66; ((with_reducible refine (Ones_any _ _ (H1.out.lt k)).mono ?_); rintro e w' ⟨rfl, rfl⟩))
      go_round
      case rel => exact ⟨k + 1, by omega, by go_num, by simp only [cnt]; go_num⟩
      case measure => simp [intOf]; omega
    · obtain rfl : n1 = k := by omega
      go_wp2
      go_ret
      exact ⟨rfl, rfl⟩

/-- Whether the set has this number. -/
def bit (xs : List Nat) (i : Nat) : Bool := (wd xs (i / 64)).testBit (i % 64)

theorem word_div (w : World) (a : Option Addr) (n cap : Nat) (xs : List Nat) (h : Is64 w a n cap xs) (i : Nat) :
    Calls Tryz.prog 102 #[.slice a n cap, .int .i64 ((i : Int) / 64)] w fun e w' => e = .returned (.int .u64 ((wd xs (i / 64) : Nat) : Int)) ∧ w = w' := word_any w a n cap xs h (i / 64)

theorem and_shift {x j : Nat} (h : x < 18446744073709551616) : (bits BinOp.and IntKind.u64 ((x : Int) / 2 ^ j) 1 == 1) = x.testBit j := by
  have e : ((x : Int) / 2 ^ j) = ((x / 2 ^ j : Nat) : Int) := by rw [Int.natCast_ediv, Int.natCast_pow]; rfl
  have hl : x / 2 ^ j < 18446744073709551616 := Nat.lt_of_le_of_lt (Nat.div_le_self _ _) h
  rw [e, show (1 : Int) = ((1 : Nat) : Int) from rfl, andc hl (by decide), Nat.and_one_is_mod, Nat.testBit_eq_decide_div_mod_eq]
  rw [Bool.eq_iff_iff]
  simp
  omega

end Go.Proofs.YtdeamdpoegdmdaaGreatDoor.S

/- Walks over the reference of package bits. -/
namespace Go.Proofs.YtdeamdpoegdmdaaGreatDoor.S
open Go.RowKit

/-- The first values of a function, as cells. -/
def vals (f : Nat → Nat) (m : Nat) : List Value := (List.range m).map fun i => Value.int .u64 ((f i : Nat) : Int)
theorem vals_len (f : Nat → Nat) (m : Nat) : (vals f m).length = m := by simp [vals]
theorem vals_succ (f : Nat → Nat) (m : Nat) : vals f m ++ [Value.int .u64 ((f m : Nat) : Int)] = vals f (m + 1) := by simp [vals, List.range_succ]
theorem vals_at (f : Nat → Nat) (m i : Nat) (h : i < m) : (vals f m)[i]? = some (Value.int .u64 ((f i : Nat) : Int)) := by simp [vals, h]

theorem Is64.of_owns {w : World} {B m : Nat} {v : Value} {f : Nat → Nat} (h : w.ownsRow B 37 1 v m (vals f m)) (hb : ∀ i, i < m → f i < 18446744073709551616) :
    ∃ a cap, v = .slice a m cap ∧ Is64 w a m cap (tab m f) := by
  have hh := h
  obtain ⟨h1, ⟨h2, h3⟩ | ⟨g, cap, cur, hv, hB, hg, h3, h4, h5, h6⟩⟩ := h
  · subst h3
    exact ⟨none, 0, h2, rfl, Nat.le_refl _, Nat.zero_le _, fun i hi => absurd hi (Nat.not_lt_zero _), fun h0 => absurd h0 (Nat.lt_irrefl _), fun _ => ⟨rfl, rfl⟩⟩
  · refine ⟨some ⟨g, 0, none⟩, cap, hv, tab_len m f, h3, h4, fun i hi => by rw [wd_tab _ _ _ hi]; exact hb i hi, fun _ => ⟨g, 0, rfl, lt_of_block hg, fun i hi => ?_⟩, fun e => by cases e⟩
    have := hh.cells (g := g) (by rw [hv]; rfl) i _ (vals_at f m i hi)
    rw [wd_tab _ _ _ hi]
    rw [show (⟨g, 0, none⟩ : Addr).add i = ⟨g, i, none⟩ by unfold Addr.add; split <;> simp_all] at this
    rw [Nat.zero_add]
    exact this

theorem one_new (w : World) (x : Value) (t : TypeId) : ∀ j u, [x][j]? = some u → (w.alloc (.cells #[x] t)).cell? ((⟨w.heap.size, 0, none⟩ : Addr).add j) = some u := by
  intro j u hj
  match j, hj with
  | 0, hj =>
    simp at hj
    subst hj
    have := cell_of_one (w := w.alloc (.cells #[x] t)) (heap_alloc_new w _)
    simp [Addr.add]
  | j + 1, hj => simp at hj

theorem oneCell_one (k : IntKind) (x : Int) : ∀ u ∈ [Value.int k x], u.oneCell' = true := by
  intro u hu
  simp at hu
  subst hu
  rfl
theorem oneCell_vals (f : Nat → Nat) (m : Nat) : ∀ u ∈ vals f m, u.oneCell' = true := by
  intro u hu
  simp only [vals, List.mem_map] at hu
  obtain ⟨i, _, rfl⟩ := hu
  rfl

theorem tab_wd (xs : List Nat) (m : Nat) (h : m ≤ xs.length) : tab m (wd xs) = xs.take m := by
  apply List.ext_getElem?
  intro i
  by_cases hi : i < m
  · simp [tab, hi, List.getElem?_take, wd, List.getD_eq_getElem?_getD, List.getElem?_eq_getElem (show i < xs.length by omega)]
  · simp [tab, hi, List.getElem?_take]

set_option maxRecDepth 100000 in
theorem rNormal_any (w : World) (a : Option Addr) (n cap : Nat) (xs : List Nat) (h : Is64 w a n cap xs) (s1 : n ≤ 1000000) :
    Calls Tryz.prog 57 #[.slice a n cap] w (Ret64 (xs.take (nlen xs n)) w) := by
  have hm := h.maxLe
  have hc := h.capLe
  have H := Lib.hid h
  unfold maxLen at hm
  obtain ⟨i0, hi, hz0, hz1, hz2⟩ := info_parts Tryz.info64
  have HI := Lib.hid (And.intro hi (And.intro hz0 (And.intro hz1 hz2)))
  clear h hi hz0 hz1 hz2
  go_enter Tryz.func57, Tryz.ntmps57
  go_wp2
  go_loop [3] (fun v => ∃ k : Nat, k ≤ n ∧ v = .int .i64 k ∧ Hid (nlen xs k = nlen xs n)) (fun v => (intOf v).toNat)
  case atStart => exact ⟨n, Nat.le_refl _, rfl, rfl⟩
  case round =>
    obtain ⟨k, hk, rfl, hr⟩ := hrel
    match k, hk, hr with
    | 0, hk, hr =>
      cases a with
      | none =>
        obtain ⟨rfl, rfl⟩ := H.out.nil rfl
        go_wp2_with (at_builtin; refine wpList_append_own_none rfl _ _ 31 rfl w.heap.size 37 i0 1 Tryz.underlying31 HI.out.1 _ 0 [] rfl (World.ownsRow_made (base := w.heap.size) (size := 1) (e := 37) w #[] 0 (Nat.le_refl _) (Nat.zero_le _) rfl) rfl ?_)
        go_ret
        exact ⟨_, 0, 0, rfl, ⟨⟨by simp [nlen], Nat.le_refl _, Nat.zero_le _, fun i hi => absurd hi (Nat.not_lt_zero _), fun h0 => absurd h0 (Nat.lt_irrefl _), fun e => by cases e⟩, Fresh.self _⟩, (Below.refl _ _).alloc (Nat.le_refl _) _⟩
      | some ad =>
        go_wp2_with (at_builtin; go_loud (refine wpList_append_own _ rfl _ _ 31 rfl w.heap.size 37 i0 (.int .u64 0) 1 8 Tryz.underlying31 HI.out.1 HI.out.2.1 HI.out.2.2.1 HI.out.2.2.2 rfl (by decide) _ _ _ rfl (World.ownsRow_made (base := w.heap.size) (size := 1) (e := 37) w #[] 0 (Nat.le_refl _) (Nat.zero_le _) rfl) ad 0 cap [] rfl rfl ?_ ?_ ?_ ?_ ?_ ?_); rotate_right; intro v' w3 hown hgrow _)
        go_ret
        obtain ⟨aa, cc, rfl, hres⟩ := Is64.of_owns (f := wd xs) (m := 0) hown (fun i hi => absurd hi (Nat.not_lt_zero _))
        rw [← hr.out]
        exact ⟨aa, 0, cc, rfl, ⟨hres, owns_fresh hown⟩, ((Below.refl _ _).alloc (Nat.le_refl _) _).grown hgrow (by simp) (fun j hj => Nat.le_of_eq (Option.some.inj hj))⟩
    | k + 1, hk, hr =>
      obtain ⟨b, off, rfl, hbl, hcell⟩ := H.out.at_ (by omega)
      have h0 := hcell k (by omega)
      by_cases hz : wd xs k = 0
      · rw [hz] at h0
        clear hcell
        have hr' : Hid (nlen xs k = nlen xs n) := by
          have := hr.out
          rw [nlen, if_pos hz] at this
          exact this
        clear hr hz
        go_wp2
        exact ⟨⟨k, by omega, rfl, hr'⟩, by simp [intOf]⟩
      · clear hcell
        have hz1 : (((wd xs k : Nat) : Int) == 0) = false := by simpa using hz
        have hr' : Hid (nlen xs n = k + 1) := by
          have := hr.out
          rw [nlen, if_neg hz] at this
          exact this.symm
        clear hr hz
        go_wp2_with (at_builtin; go_loud (refine wpList_append_own _ rfl _ _ 31 rfl w.heap.size 37 i0 (.int .u64 0) 1 8 Tryz.underlying31 HI.out.1 HI.out.2.1 HI.out.2.2.1 HI.out.2.2.2 rfl (by decide) _ _ _ rfl (World.ownsRow_made (base := w.heap.size) (size := 1) (e := 37) w #[] 0 (Nat.le_refl _) (Nat.zero_le _) rfl) ⟨b, off, none⟩ (k + 1) cap (vals (wd xs) (k + 1)) rfl (by rw [vals_len, Nat.mul_one]) ?_ ?_ ?_ ?_ ?_ ?_); rotate_right; intro v' w3 hown hgrow _)
        · go_ret
          obtain ⟨aa, cc, rfl, hres⟩ := Is64.of_owns (f := wd xs) (m := k + 1) (by simpa using hown) (fun i hi => H.out.bnd i (by omega))
          rw [tab_wd _ _ (by rw [H.out.len]; omega)] at hres
          rw [hr'.out]
          exact ⟨aa, k + 1, cc, rfl, ⟨hres, owns_fresh hown⟩, ((Below.refl _ _).alloc (Nat.le_refl _) _).grown hgrow (by simp) (fun j hj => Nat.le_of_eq (Option.some.inj hj))⟩
        · intro j u hu
          have hj : j < k + 1 := by
            have := (List.getElem?_eq_some_iff.1 hu).1
            rw [vals_len] at this
            exact this
          rw [vals_at _ _ _ hj] at hu
          obtain rfl := Option.some.inj hu
          obtain ⟨b', off', e', _, hcell'⟩ := H.out.at_ (by omega)
          cases e'
          exact hcell' j (by omega)
        · exact oneCell_vals _ _
        · unfold maxLen; omega
        · omega
set_option maxRecDepth 100000 in
theorem rAnd_any (w : World) (a1 a2 : Option Addr) (n1 n2 cap1 cap2 : Nat) (xs ys : List Nat) (h1 : Is64 w a1 n1 cap1 xs) (h2 : Is64 w a2 n2 cap2 ys) (s1 : n1 ≤ 1000000) (s2 : n2 ≤ 1000000) :
    Calls Tryz.prog 58 #[.slice a1 n1 cap1, .slice a2 n2 cap2] w (Ret64 (nrm n1 (andF xs ys)) w) := by
  have hc1 := h1.capLe
  have hc2 := h2.capLe
  have hm1 := h1.maxLe
  have hm2 := h2.maxLe
  unfold maxLen at hm1 hm2
  have H1 := Lib.hid h1
  have H2 := Lib.hid h2
  obtain ⟨i0, hi, hz0, hz1, hz2⟩ := info_parts Tryz.info64
  have HI := Lib.hid (And.intro hi (And.intro hz0 (And.intro hz1 hz2)))
  clear h1 h2 hi hz0 hz1 hz2
  go_enter Tryz.func58, Tryz.ntmps58
  go_wp2
  go_loopw [5, 6] (fun o v wr => ∃ k : Nat, k ≤ n1 ∧ v = .int .i64 k ∧ Hid (wr.ownsRow w.heap.size 37 1 o k (vals (andF xs ys) k)) ∧ Below w.heap.size w wr) (fun _ v _ => n1 - (intOf v).toNat)
  case atStart => exact ⟨0, Nat.zero_le _, rfl, World.ownsRow_nil _ _ _ _, Below.refl _ _⟩
  case round =>
    obtain ⟨k, hk, rfl, hrow, hb⟩ := hrel
    by_cases hlt : k < n1
    · obtain ⟨b1, o1, rfl, hl1, hx1⟩ := H1.out.at_ (by omega)
      have c1 := (hb.cell (p := ⟨b1, o1 + k, none⟩) hl1).trans (hx1 k (by omega))
      have G2' := Lib.hid (H2.out.below hb.drew)
      clear hx1
      go_wp2_with fail
      have hrow2 := Lib.hid ((hrow.out.alloc (.cells #[.int .u64 (bits BinOp.and IntKind.u64 ((wd xs k : Nat) : Int) ((wd ys k : Nat) : Int))] 37)).drew)
      have ak : u5.ownBlock ≠ some b1 := fun e => by have := (hrow.out.lt b1 e).1; omega
      have hlr := hb.size
      go_region_held3 (fun w' => w'.cell? ⟨b1, o1 + k, none⟩ = some (.int .u64 ((wd xs k : Nat) : Int))) (first | go_keep | (go_split_ands; rw [hgrow.cell_far _ (by simp; omega) (Ne.symm ak)]; assumption)) ((first | (go_at_call 100; (with_reducible refine (rword_any _ _ _ _ _ G2'.out k).mono ?_); rintro e w' ⟨rfl, rfl⟩) | (refine step_append_lies _ (by rfl) _ _ _ (by rfl) w.heap.size 37 i0 (.int .u64 0) 1 8 Tryz.underlying31 HI.out.1 HI.out.2.1 HI.out.2.2.1 HI.out.2.2.2 rfl (by decide) u5 k _ (by rfl) hrow2.out ⟨wr.heap.size, 0, none⟩ 1 1 [.int .u64 (bits BinOp.and IntKind.u64 ((wd xs k : Nat) : Int) ((wd ys k : Nat) : Int))] (by rfl) (by rfl) (World.news_of_block (cs := #[.int .u64 (bits BinOp.and IntKind.u64 ((wd xs k : Nat) : Int) ((wd ys k : Nat) : Int))]) (t := 37) (fr := (0, 0)) (heap_alloc_new wr _)) (oneCell_one _ _) (by omega) (by unfold maxLen; omega) (by omega) (by simp; have := hb.size; omega) (wr.heap.size + 1) (by simp) ?_; intro gg cap w1 hown1 hgrow hat hlt2)))
      go_wp2
      have hown' : w1.ownsRow w.heap.size 37 1 (.slice (some ⟨gg, 0, none⟩) (k + 1) cap) (k + 1) (vals (andF xs ys) (k + 1)) := by
        rw [and_int (H1.out.lt k) (H2.out.lt k)] at hown1
        rw [← vals_succ]
        exact hown1
      exact ⟨⟨k + 1, by omega, by go_num, hown', ((hb.alloc hb.size _).drew).grown hgrow (by simp; omega) (fun j hj => (hrow.out.lt j hj).1)⟩, by simp [intOf]; omega⟩
    · have ek : n1 = k := by omega
      subst ek
      obtain ⟨aa, cc, rfl, hres⟩ := Is64.of_owns hrow.out (fun i hi => and_lt (H1.out.bnd i hi))
      have HRes := Lib.hid hres
      clear hrow hres
      go_wp2_with (go_at_call 57; refine (rNormal_any _ _ _ _ _ HRes.out s1).mono ?_; rintro e w' ⟨a', n', cap', rfl, h', hb'⟩)
      go_ret
      exact ⟨a', n', cap', rfl, ⟨h'.1, h'.2.mono hb.size⟩, hb.trans (hb'.mono hb.size)⟩
set_option maxRecDepth 100000 in
theorem rMinus_any (w : World) (a1 a2 : Option Addr) (n1 n2 cap1 cap2 : Nat) (xs ys : List Nat) (h1 : Is64 w a1 n1 cap1 xs) (h2 : Is64 w a2 n2 cap2 ys) (s1 : n1 ≤ 1000000) (s2 : n2 ≤ 1000000) :
    Calls Tryz.prog 101 #[.slice a1 n1 cap1, .slice a2 n2 cap2] w (Ret64 (nrm n1 (minF xs ys)) w) := by
  have hc1 := h1.capLe
  have hc2 := h2.capLe
  have hm1 := h1.maxLe
  have hm2 := h2.maxLe
  unfold maxLen at hm1 hm2
  have H1 := Lib.hid h1
  have H2 := Lib.hid h2
  obtain ⟨i0, hi, hz0, hz1, hz2⟩ := info_parts Tryz.info64
  have HI := Lib.hid (And.intro hi (And.intro hz0 (And.intro hz1 hz2)))
  clear h1 h2 hi hz0 hz1 hz2
  go_enter Tryz.func101, Tryz.ntmps101
  go_wp2
  go_loopw [5, 6] (fun o v wr => ∃ k : Nat, k ≤ n1 ∧ v = .int .i64 k ∧ Hid (wr.ownsRow w.heap.size 37 1 o k (vals (minF xs ys) k)) ∧ Below w.heap.size w wr) (fun _ v _ => n1 - (intOf v).toNat)
  case atStart => exact ⟨0, Nat.zero_le _, rfl, World.ownsRow_nil _ _ _ _, Below.refl _ _⟩
  case round =>
    obtain ⟨k, hk, rfl, hrow, hb⟩ := hrel
    by_cases hlt : k < n1
    · obtain ⟨b1, o1, rfl, hl1, hx1⟩ := H1.out.at_ (by omega)
      have c1 := (hb.cell (p := ⟨b1, o1 + k, none⟩) hl1).trans (hx1 k (by omega))
      have G2' := Lib.hid (H2.out.below hb.drew)
      clear hx1
      go_wp2_with fail
      have hrow2 := Lib.hid ((hrow.out.alloc (.cells #[.int .u64 (bits BinOp.andNot IntKind.u64 ((wd xs k : Nat) : Int) ((wd ys k : Nat) : Int))] 37)).drew)
      have ak : u5.ownBlock ≠ some b1 := fun e => by have := (hrow.out.lt b1 e).1; omega
      have hlr := hb.size
      go_region_held3 (fun w' => w'.cell? ⟨b1, o1 + k, none⟩ = some (.int .u64 ((wd xs k : Nat) : Int))) (first | go_keep | (go_split_ands; rw [hgrow.cell_far _ (by simp; omega) (Ne.symm ak)]; assumption)) ((first | (go_at_call 100; (with_reducible refine (rword_any _ _ _ _ _ G2'.out k).mono ?_); rintro e w' ⟨rfl, rfl⟩) | (refine step_append_lies _ (by rfl) _ _ _ (by rfl) w.heap.size 37 i0 (.int .u64 0) 1 8 Tryz.underlying31 HI.out.1 HI.out.2.1 HI.out.2.2.1 HI.out.2.2.2 rfl (by decide) u5 k _ (by rfl) hrow2.out ⟨wr.heap.size, 0, none⟩ 1 1 [.int .u64 (bits BinOp.andNot IntKind.u64 ((wd xs k : Nat) : Int) ((wd ys k : Nat) : Int))] (by rfl) (by rfl) (World.news_of_block (cs := #[.int .u64 (bits BinOp.andNot IntKind.u64 ((wd xs k : Nat) : Int) ((wd ys k : Nat) : Int))]) (t := 37) (fr := (0, 0)) (heap_alloc_new wr _)) (oneCell_one _ _) (by omega) (by unfold maxLen; omega) (by omega) (by simp; have := hb.size; omega) (wr.heap.size + 1) (by simp) ?_; intro gg cap w1 hown1 hgrow hat hlt2)))
      go_wp2
      have hown' : w1.ownsRow w.heap.size 37 1 (.slice (some ⟨gg, 0, none⟩) (k + 1) cap) (k + 1) (vals (minF xs ys) (k + 1)) := by
        rw [not_int (H1.out.lt k) (H2.out.lt k)] at hown1
        rw [← vals_succ]
        exact hown1
      exact ⟨⟨k + 1, by omega, by go_num, hown', ((hb.alloc hb.size _).drew).grown hgrow (by simp; omega) (fun j hj => (hrow.out.lt j hj).1)⟩, by simp [intOf]; omega⟩
    · have ek : n1 = k := by omega
      subst ek
      obtain ⟨aa, cc, rfl, hres⟩ := Is64.of_owns hrow.out (fun i hi => not_lt' (H1.out.bnd i hi))
      have HRes := Lib.hid hres
      clear hrow hres
      go_wp2_with (go_at_call 57; refine (rNormal_any _ _ _ _ _ HRes.out s1).mono ?_; rintro e w' ⟨a', n', cap', rfl, h', hb'⟩)
      go_ret
      exact ⟨a', n', cap', rfl, ⟨h'.1, h'.2.mono hb.size⟩, hb.trans (hb'.mono hb.size)⟩
set_option maxRecDepth 100000 in
theorem rOr_any (w : World) (a1 a2 : Option Addr) (n1 n2 cap1 cap2 : Nat) (xs ys : List Nat) (h1 : Is64 w a1 n1 cap1 xs) (h2 : Is64 w a2 n2 cap2 ys) (s1 : n1 ≤ 1000000) (s2 : n2 ≤ 1000000) :
    Calls Tryz.prog 59 #[.slice a1 n1 cap1, .slice a2 n2 cap2] w (Ret64 (nrm (max n1 n2) (orF xs ys)) w) := by
  have hc1 := h1.capLe
  have hc2 := h2.capLe
  have hm1 := h1.maxLe
  have hm2 := h2.maxLe
  unfold maxLen at hm1 hm2
  have H1 := Lib.hid h1
  have H2 := Lib.hid h2
  obtain ⟨i0, hi, hz0, hz1, hz2⟩ := info_parts Tryz.info64
  have HI := Lib.hid (And.intro hi (And.intro hz0 (And.intro hz1 hz2)))
  clear h1 h2 hi hz0 hz1 hz2
  obtain ⟨m, em⟩ : ∃ m : Nat, max n1 n2 = m := ⟨_, rfl⟩
  rw [em]
  have l1 : n1 ≤ m := by omega
  have l2 : n2 ≤ m := by omega
  have l3 : m ≤ 1000000 := by omega
  have em' : Hid ((n1 < n2 → m = n2) ∧ (¬ n1 < n2 → m = n1)) := by show _ ∧ _; omega
  clear em
  by_cases hle : n1 < n2
  all_goals
    first | (have e := em'.out.1 hle; clear em'; subst e) | (have e := em'.out.2 hle; clear em'; subst e)
    go_enter Tryz.func59, Tryz.ntmps59
    go_wp2
    go_loopw [5, 6] (fun o v wr => ∃ k : Nat, k ≤ m ∧ v = .int .i64 k ∧ Hid (wr.ownsRow w.heap.size 37 1 o k (vals (orF xs ys) k)) ∧ Below w.heap.size w wr) (fun _ v _ => m - (intOf v).toNat)
    case atStart => exact ⟨0, Nat.zero_le _, rfl, World.ownsRow_nil _ _ _ _, Below.refl _ _⟩
    case round =>
      obtain ⟨k, hk, rfl, hrow, hb⟩ := hrel
      by_cases hlt : k < m
      · have G1 := Lib.hid (H1.out.below hb)
        have G2 := Lib.hid (H2.out.below hb)
        have hlr := hb.size
        go_wp2_with (first | (go_at_call 100; first | ((with_reducible refine (rword_any _ _ _ _ _ G1.out k).mono ?_); rintro e w' ⟨rfl, rfl⟩) | ((with_reducible refine (rword_any _ _ _ _ _ G2.out k).mono ?_); rintro e w' ⟨rfl, rfl⟩)) | (at_builtin; refine wpList_append_own _ rfl _ _ 31 rfl w.heap.size 37 i0 (.int .u64 0) 1 8 Tryz.underlying31 HI.out.1 HI.out.2.1 HI.out.2.2.1 HI.out.2.2.2 rfl (by decide) _ _ _ rfl (hrow.out.alloc _) ⟨wr.heap.size, 0, none⟩ 1 1 [.int .u64 (bits BinOp.or IntKind.u64 ((wd xs k : Nat) : Int) ((wd ys k : Nat) : Int))] rfl rfl (one_new _ _ _) ?_ ?_ ?_ ?_ ?_; rotate_right; intro v' w3 hown hgrow _))
        · have hown' : w3.ownsRow w.heap.size 37 1 v' (k + 1) (vals (orF xs ys) (k + 1)) := by
            rw [or_int (H1.out.lt k) (H2.out.lt k)] at hown
            rw [← vals_succ]
            exact hown
          exact ⟨⟨k + 1, by omega, by go_num, hown', (hb.alloc hb.size _).grown hgrow (by simp; omega) (fun j hj => (hrow.out.lt j hj).1)⟩, by simp [intOf]; omega⟩
        · exact oneCell_one _ _
        · unfold maxLen; omega
        · omega
        · simp; omega
      · have ek : m = k := by omega
        subst ek
        obtain ⟨aa, cc, rfl, hres⟩ := Is64.of_owns hrow.out (fun i hi => or_lt (H1.out.lt i) (H2.out.lt i))
        have HRes := Lib.hid hres
        clear hrow hres
        go_wp2_with (go_at_call 57; refine (rNormal_any _ _ _ _ _ HRes.out l3).mono ?_; rintro e w' ⟨a', n', cap', rfl, h', hb'⟩)
        go_ret
        exact ⟨a', n', cap', rfl, ⟨h'.1, h'.2.mono hb.size⟩, hb.trans (hb'.mono hb.size)⟩
end Go.Proofs.YtdeamdpoegdmdaaGreatDoor.S

/- Walk over math/bits.TrailingZeros64. -/
namespace Go.Proofs.YtdeamdpoegdmdaaGreatDoor.S
open Go.RowKit

/-- The table of math/bits, as it lies in memory. -/
def TabOk (w : World) : Prop := 1 < w.heap.size ∧ ∀ j, j < 64 → w.cell? ⟨1, j, none⟩ = some (.int .u8 ((Lib.deBruijn64tab.getD j 0 : Nat) : Int))
theorem TabOk.below {w w' : World} (h : TabOk w) (hb : Below w.heap.size w w') : TabOk w' :=
  ⟨Nat.lt_of_lt_of_le h.1 hb.size, fun j hj => (hb.cell (p := ⟨_, j, none⟩) h.1).trans (h.2 j hj)⟩

theorem Tz_any (w : World) (x : Nat) (hx : x < 18446744073709551616) (h0 : x ≠ 0) (hT : TabOk w) :
    Calls Tryz.prog 123 #[.int .u64 x] w fun e w' => e = .returned (.int .i64 ((Lib.ctz 64 x : Nat) : Int)) ∧ w = w' := by
  obtain ⟨e1, e2⟩ := Lib.lowest_bit 64 x h0 hx
  obtain ⟨e3, e4⟩ := Lib.deBruijn64_at _ e2
  obtain ⟨c, hc⟩ : ∃ c, Lib.ctz 64 x = c := ⟨_, rfl⟩
  rw [hc] at e1 e2 e3 e4
  obtain ⟨nx, hnx⟩ : ∃ nx, 2 ^ 64 - x = nx := ⟨_, rfl⟩
  rw [hnx] at e1
  obtain ⟨p, hp⟩ : ∃ p, 2 ^ c = p := ⟨_, rfl⟩
  rw [hp] at e1 e3 e4
  obtain ⟨q, hq⟩ : ∃ q, p * 285870213051353865 % 18446744073709551616 = q := ⟨_, rfl⟩
  rw [hq] at e3 e4
  obtain ⟨r, hr⟩ : ∃ r, q / 288230376151711744 = r := ⟨_, rfl⟩
  rw [hr] at e3 e4
  have f1 : IntKind.u64.wrap (-(x : Int)) = (nx : Int) := by rw [IntKind.wrap_u64]; omega
  have f2 : bits BinOp.and IntKind.u64 (x : Int) (nx : Int) = (p : Int) := by rw [andc hx (by omega), e1]
  have f3 : IntKind.u64.wrap ((p : Int) * 285870213051353865) = (q : Int) := by rw [IntKind.wrap_u64]; omega
  have f4 : (q : Int) / 288230376151711744 = (r : Int) := by omega
  have f5 := hT.2 r e3
  rw [e4] at f5
  have f6 : ((x : Int) == 0) = false := by simpa using h0
  have HC := Lib.hid hc
  clear hc e1 e4 hnx hp hq hr hT
  go_enter Tryz.func123, Tryz.ntmps123
  go_wp2
  go_ret
  refine ⟨?_, rfl⟩
  rw [HC.out]
  rfl
end Go.Proofs.YtdeamdpoegdmdaaGreatDoor.S

/- Walks over the reference of package bits: Has, List, Count, Subset, Equal, Same, SameInts. -/
namespace Go.Proofs.YtdeamdpoegdmdaaGreatDoor.S
open Go.RowKit

/-- A slice of ints that reads as a list. -/
def wi (zs : List Int) (i : Nat) : Int := zs.getD i 0
structure IsInt (w : World) (a : Option Addr) (n cap : Nat) (zs : List Int) : Prop where
  len : zs.length = n
  capLe : n ≤ cap
  maxLe : cap ≤ maxLen
  bnd : ∀ i, i < n → -9223372036854775808 ≤ wi zs i ∧ wi zs i ≤ 9223372036854775807
  at_ : 0 < n → ∃ b off, a = some ⟨b, off, none⟩ ∧ b < w.heap.size ∧ ∀ i, i < n → w.cell? ⟨b, off + i, none⟩ = some (.int .i64 (wi zs i))

theorem IsInt.below {w w' : World} {a : Option Addr} {n cap : Nat} {xs : List Int} (h : IsInt w a n cap xs) (hb : Below w.heap.size w w') : IsInt w' a n cap xs := by
  refine ⟨h.len, h.capLe, h.maxLe, h.bnd, fun h0 => ?_⟩
  obtain ⟨b, off, rfl, hl, hc⟩ := h.at_ h0
  exact ⟨b, off, rfl, Nat.lt_of_lt_of_le hl hb.size, fun i hi => (hb.cell (p := ⟨b, off + i, none⟩) hl).trans (hc i hi)⟩

theorem Tryz.infoI : (Tryz.prog.info? 3).map (fun i => (i.zero, i.size, i.bytes)) = some (some (.int .i64 0), 1, 8) := by kernel_rfl

def ints (l : List Nat) : List Int := List.map (fun n : Nat => (n : Int)) l
def ivals (zs : List Int) : List Value := zs.map (Value.int .i64)
theorem ivals_len (zs : List Int) : (ivals zs).length = zs.length := by simp [ivals]

theorem IsInt.of_owns {w : World} {B n : Nat} {v : Value} {zs : List Int} (h : w.ownsRow B 3 1 v n (ivals zs)) (hb : ∀ z ∈ zs, -9223372036854775808 ≤ z ∧ z ≤ 9223372036854775807) :
    ∃ a cap, v = .slice a n cap ∧ IsInt w a n cap zs := by
  have hh := h
  have hlen : zs.length = n := by have := h.1; rw [ivals_len] at this; omega
  have hbn : ∀ i, i < n → -9223372036854775808 ≤ wi zs i ∧ wi zs i ≤ 9223372036854775807 := fun i hi => by
    have : wi zs i = zs[i]'(by omega) := by simp [wi, List.getD_eq_getElem?_getD, List.getElem?_eq_getElem (show i < zs.length by omega)]
    rw [this]
    exact hb _ (List.getElem_mem _)
  obtain ⟨h1, ⟨h2, h3⟩ | ⟨g, cap, cur, hv, hB, hg, h3, h4, h5, h6⟩⟩ := h
  · subst h3
    exact ⟨none, 0, h2, hlen, Nat.le_refl _, Nat.zero_le _, fun i hi => absurd hi (Nat.not_lt_zero _), fun h0 => absurd h0 (Nat.lt_irrefl _)⟩
  · refine ⟨some ⟨g, 0, none⟩, cap, hv, hlen, h3, h4, hbn, fun _ => ⟨g, 0, rfl, lt_of_block hg, fun i hi => ?_⟩⟩
    have := hh.cells (g := g) (by rw [hv]; rfl) i (.int .i64 (wi zs i)) (by
      simp [ivals, wi, List.getD_eq_getElem?_getD, List.getElem?_eq_getElem (show i < zs.length by omega)])
    rw [show (⟨g, 0, none⟩ : Addr).add i = ⟨g, i, none⟩ by unfold Addr.add; split <;> simp_all] at this
    rw [Nat.zero_add]
    exact this

/-- The call returns a slice of ints that reads as this list; nothing that was there has changed. -/
def RetI (xs : List Int) (w : World) (e : Ending) (w' : World) : Prop :=
  ∃ a n cap, e = .returned (.slice a n cap) ∧ IsInt w' a n cap xs ∧ Below w.heap.size w w'

theorem bit_out (xs : List Nat) (i : Nat) (h : xs.length ≤ i / 64) : bit xs i = false := by
  unfold bit
  rw [wd_out _ _ h]
  simp

theorem rHas_neg (w : World) (a1 : Option Addr) (n1 cap1 : Nat) (i : Int) (hi : i < 0) :
    Calls Tryz.prog 95 #[.slice a1 n1 cap1, .int .i64 i] w fun e w' => e = .returned (.bool false) ∧ w = w' := by
  go_enter Tryz.func95, Tryz.ntmps95
  go_wp2
  go_ret
  exact ⟨rfl, rfl⟩

theorem rHas_pos (w : World) (a1 : Option Addr) (n1 cap1 : Nat) (xs : List Nat) (h1 : Is64 w a1 n1 cap1 xs) (i : Nat) (hi : i ≤ 9223372036854775807) :
    Calls Tryz.prog 95 #[.slice a1 n1 cap1, .int .i64 i] w fun e w' => e = .returned (.bool (bit xs i)) ∧ w = w' := by
  have H1 := Lib.hid h1
  have hm := h1.maxLe
  have hc := h1.capLe
  unfold maxLen at hm
  clear h1
  by_cases ho : n1 ≤ i / 64
  · have hf := Lib.hid (bit_out xs i (by rw [H1.out.len]; exact ho))
    go_enter Tryz.func95, Tryz.ntmps95
    go_wp2
    go_ret
    exact ⟨by rw [hf.out]; rfl, rfl⟩
  · obtain ⟨b1, o1, rfl, hl1, hx1⟩ := H1.out.at_ (by omega)
    have c1 := hx1 (i / 64) (by omega)
    clear hx1
    have ho' : i / 64 < n1 := by omega
    go_enter Tryz.func95, Tryz.ntmps95
    go_wp2
    go_ret
    refine ⟨?_, rfl⟩
    show Ending.returned (.bool _) = _
    rw [and_shift (H1.out.lt _)]
    rfl

theorem rHas_val (b : Bool) (w : World) (a1 : Option Addr) (n1 cap1 : Nat) (xs : List Nat) (h1 : Is64 w a1 n1 cap1 xs) (i : Nat) (hi : i ≤ 9223372036854775807) (hb : bit xs i = b) :
    Calls Tryz.prog 95 #[.slice a1 n1 cap1, .int .i64 i] w fun e w' => e = .returned (.bool b) ∧ w = w' := hb ▸ rHas_pos w a1 n1 cap1 xs h1 i hi

/-- The elements below k, ascending. -/
def lst (xs : List Nat) (k : Nat) : List Nat := (List.range k).filter (bit xs)
theorem lst_yes {xs : List Nat} {k : Nat} (h : bit xs k = true) : lst xs (k + 1) = lst xs k ++ [k] := by simp [lst, List.range_succ, List.filter_append, h]
theorem lst_no {xs : List Nat} {k : Nat} (h : bit xs k = false) : lst xs (k + 1) = lst xs k := by simp [lst, List.range_succ, List.filter_append, h]
theorem lst_len (xs : List Nat) (k : Nat) : (lst xs k).length ≤ k := by
  have := List.length_filter_le (bit xs) (List.range k)
  simpa [lst] using this
theorem lst_mem {xs : List Nat} {k : Nat} {z : Int} (h : z ∈ ints (lst xs k)) : 0 ≤ z ∧ z < k := by
  simp only [ints, lst, List.mem_map, List.mem_filter, List.mem_range] at h
  omega
theorem ivals_snoc (l : List Nat) (k : Nat) : ivals (ints l) ++ [Value.int .i64 (k : Int)] = ivals (ints (l ++ [k])) := by simp [ivals, ints]

set_option maxRecDepth 100000 in
theorem rList_any (w : World) (a1 : Option Addr) (n1 cap1 : Nat) (xs : List Nat) (h1 : Is64 w a1 n1 cap1 xs) (s1 : n1 ≤ 1000000) :
    Calls Tryz.prog 141 #[.slice a1 n1 cap1] w (RetI (ints (lst xs (64 * n1))) w) := by
  have H1 := Lib.hid h1
  obtain ⟨i0, hi, hz0, hz1, hz2⟩ := info_parts Tryz.infoI
  have HI := Lib.hid (And.intro hi (And.intro hz0 (And.intro hz1 hz2)))
  clear h1 hi hz0 hz1 hz2
  go_enter Tryz.func141, Tryz.ntmps141
  go_wp2
  go_loopw [3, 4] (fun o v wr => ∃ k : Nat, k ≤ 64 * n1 ∧ v = .int .i64 k ∧ Hid (wr.ownsRow w.heap.size 3 1 o (lst xs k).length (ivals (ints (lst xs k)))) ∧ Below w.heap.size w wr) (fun _ v _ => 64 * n1 - (intOf v).toNat)
  case atStart => exact ⟨0, Nat.zero_le _, rfl, World.ownsRow_nil _ _ _ _, Below.refl _ _⟩
  case round =>
    obtain ⟨k, hk, rfl, hrow, hb⟩ := hrel
    by_cases hlt : k < 64 * n1
    · have G1 := Lib.hid (H1.out.below hb)
      have hlr := hb.size
      have hll := lst_len xs k
      cases hbit : bit xs k
      · have hB := Lib.hid hbit
        clear hbit
        go_wp2_with (go_at_call 95; ((with_reducible refine (rHas_val false _ _ _ _ _ G1.out k (by omega) hB.out).mono ?_); rintro e w' ⟨rfl, rfl⟩))
        go_roundw
        case rel => exact ⟨k + 1, by omega, by go_num, by rw [lst_no hB.out]; exact hrow, hb⟩
        case measure => simp [intOf]; omega
      · have hB := Lib.hid hbit
        clear hbit
        go_wp2_with (first | (go_at_call 95; ((with_reducible refine (rHas_val true _ _ _ _ _ G1.out k (by omega) hB.out).mono ?_); rintro e w' ⟨rfl, rfl⟩)) | (at_builtin; refine wpList_append_own _ rfl _ _ 42 rfl w.heap.size 3 i0 (.int .i64 0) 1 8 Tryz.underlying42 HI.out.1 HI.out.2.1 HI.out.2.2.1 HI.out.2.2.2 rfl (by decide) _ _ _ rfl (hrow.out.alloc _) ⟨wr.heap.size, 0, none⟩ 1 1 [.int .i64 (k : Int)] rfl rfl (one_new _ _ _) ?_ ?_ ?_ ?_ ?_; rotate_right; intro v' w3 hown hgrow _))
        · have hown' : w3.ownsRow w.heap.size 3 1 v' (lst xs (k + 1)).length (ivals (ints (lst xs (k + 1)))) := by
            rw [lst_yes hB.out, ← ivals_snoc, List.length_append]
            exact hown
          exact ⟨⟨k + 1, by omega, by go_num, hown', (hb.alloc hb.size _).grown hgrow (by simp; omega) (fun j hj => (hrow.out.lt j hj).1)⟩, by simp [intOf]; omega⟩
        · exact oneCell_one _ _
        · unfold maxLen; omega
        · omega
        · simp; omega
    · obtain rfl : k = 64 * n1 := by omega
      obtain ⟨aa, cc, rfl, hres⟩ := IsInt.of_owns hrow.out (fun z hz => by have := lst_mem hz; omega)
      have HRes := Lib.hid hres
      clear hrow hres
      go_wp2
      go_ret
      exact ⟨aa, _, cc, rfl, HRes.out, hb⟩

/-- Whether two lists are the same. -/
def sameB (xs ys : List Nat) : Bool := decide (xs = ys)
theorem ext_wd {xs ys : List Nat} (hl : xs.length = ys.length) (h : ∀ i, i < xs.length → wd xs i = wd ys i) : xs = ys := by
  apply List.ext_getElem? 
  intro i
  by_cases hi : i < xs.length
  · have := h i hi
    simp only [wd, List.getD_eq_getElem?_getD, List.getElem?_eq_getElem hi, List.getElem?_eq_getElem (show i < ys.length by omega), Option.getD_some] at this
    rw [List.getElem?_eq_getElem hi, List.getElem?_eq_getElem (show i < ys.length by omega), this]
  · rw [List.getElem?_eq_none (by omega), List.getElem?_eq_none (by omega)]
theorem sameB_len {xs ys : List Nat} (h : xs.length ≠ ys.length) : sameB xs ys = false := by
  simp only [sameB, decide_eq_false_iff_not]; exact fun e => h (by rw [e])
theorem sameB_no {xs ys : List Nat} {i : Nat} (h : wd xs i ≠ wd ys i) : sameB xs ys = false := by
  simp only [sameB, decide_eq_false_iff_not]; exact fun e => h (by rw [e])
theorem sameB_yes {xs ys : List Nat} (hl : xs.length = ys.length) (h : ∀ i, i < xs.length → wd xs i = wd ys i) : sameB xs ys = true := by
  simp only [sameB, decide_eq_true_eq]; exact ext_wd hl h

theorem Same_any (w : World) (a1 a2 : Option Addr) (n1 n2 cap1 cap2 : Nat) (xs ys : List Nat) (h1 : Is64 w a1 n1 cap1 xs) (h2 : Is64 w a2 n2 cap2 ys) :
    Calls Tryz.prog 54 #[.slice a1 n1 cap1, .slice a2 n2 cap2] w fun e w' => e = .returned (.bool (sameB xs ys)) ∧ Below w.heap.size w w' := by
  have hm1 := h1.maxLe
  have hm2 := h2.maxLe
  have hc1 := h1.capLe
  have hc2 := h2.capLe
  unfold maxLen at hm1 hm2
  have H1 := Lib.hid h1
  have H2 := Lib.hid h2
  clear h1 h2
  by_cases hn : n1 = n2
  · subst hn
    go_enter Tryz.func54, Tryz.ntmps54
    go_wp2
    go_loopw [5] (fun v wr => ∃ k : Nat, k ≤ n1 ∧ v = .int .i64 k ∧ Hid (∀ i, i < k → wd xs i = wd ys i) ∧ Below w.heap.size w wr) (fun v _ => n1 - (intOf v).toNat)
    case atStart => exact ⟨0, Nat.zero_le _, rfl, fun i hi => absurd hi (Nat.not_lt_zero _), Below.refl _ _⟩
    case round =>
      obtain ⟨k, hk, rfl, hr, hb⟩ := hrel
      by_cases hlt : k < n1
      · obtain ⟨b1, o1, rfl, hl1, hx1⟩ := H1.out.at_ (by omega)
        obtain ⟨b2, o2, rfl, hl2, hx2⟩ := H2.out.at_ (by omega)
        have c1 := (hb.cell (p := ⟨b1, o1 + k, none⟩) hl1).trans (hx1 k (by omega))
        have c2 := (hb.cell (p := ⟨b2, o2 + k, none⟩) hl2).trans (hx2 k (by omega))
        clear hx1 hx2
        by_cases he : wd xs k = wd ys k
        · have hr' : Hid (∀ i, i < k + 1 → wd xs i = wd ys i) := fun i hi => by
            rcases Nat.lt_succ_iff_lt_or_eq.1 hi with h | h
            · exact hr.out i h
            · rw [h]; exact he
          rw [he] at c1
          clear he hr
          go_wp2
          go_quiet (fail)
          go_wp2
          go_roundw
          case rel => exact ⟨k + 1, by omega, by go_num, hr', by first | exact hb | exact hb.drew | exact below_drewN hb _⟩
          case measure => simp [intOf]; omega
        · have hf := Lib.hid (sameB_no he)
          have hz : (((wd xs k : Nat) : Int) == ((wd ys k : Nat) : Int)) = false := by simpa using (fun e => he (by omega))
          have hz1 : (((wd xs k : Nat) : Int) != ((wd ys k : Nat) : Int)) = true := by simpa using (fun e => he (by omega))
          clear he hr
          go_wp2
          go_quiet (fail)
          go_wp2
          go_ret
          exact ⟨by rw [hf.out]; rfl, by first | exact hb | exact hb.drew | exact below_drewN hb _⟩
      · obtain rfl : n1 = k := by omega
        have hf := Lib.hid (sameB_yes (xs := xs) (ys := ys) (by rw [H1.out.len, H2.out.len]) (by rw [H1.out.len]; exact hr.out))
        clear hr
        go_wp2
        go_ret
        exact ⟨by rw [hf.out]; rfl, hb⟩
  · have hf := Lib.hid (sameB_len (xs := xs) (ys := ys) (by rw [H1.out.len, H2.out.len]; exact hn))
    have hz : (((n1 : Nat) : Int) != ((n2 : Nat) : Int)) = true := by simpa using (fun e => hn (by omega))
    go_enter Tryz.func54, Tryz.ntmps54
    go_wp2
    go_ret
    exact ⟨by rw [hf.out]; rfl, Below.refl _ _⟩

/-- Whether two lists are the same. -/
def sameI (xs ys : List Int) : Bool := decide (xs = ys)
theorem ext_wi {xs ys : List Int} (hl : xs.length = ys.length) (h : ∀ i, i < xs.length → wi xs i = wi ys i) : xs = ys := by
  apply List.ext_getElem? 
  intro i
  by_cases hi : i < xs.length
  · have := h i hi
    simp only [wi, List.getD_eq_getElem?_getD, List.getElem?_eq_getElem hi, List.getElem?_eq_getElem (show i < ys.length by omega), Option.getD_some] at this
    rw [List.getElem?_eq_getElem hi, List.getElem?_eq_getElem (show i < ys.length by omega), this]
  · rw [List.getElem?_eq_none (by omega), List.getElem?_eq_none (by omega)]
theorem sameI_len {xs ys : List Int} (h : xs.length ≠ ys.length) : sameI xs ys = false := by
  simp only [sameI, decide_eq_false_iff_not]; exact fun e => h (by rw [e])
theorem sameI_no {xs ys : List Int} {i : Nat} (h : wi xs i ≠ wi ys i) : sameI xs ys = false := by
  simp only [sameI, decide_eq_false_iff_not]; exact fun e => h (by rw [e])
theorem sameI_yes {xs ys : List Int} (hl : xs.length = ys.length) (h : ∀ i, i < xs.length → wi xs i = wi ys i) : sameI xs ys = true := by
  simp only [sameI, decide_eq_true_eq]; exact ext_wi hl h

theorem SameInts_any (w : World) (a1 a2 : Option Addr) (n1 n2 cap1 cap2 : Nat) (xs ys : List Int) (h1 : IsInt w a1 n1 cap1 xs) (h2 : IsInt w a2 n2 cap2 ys) :
    Calls Tryz.prog 26 #[.slice a1 n1 cap1, .slice a2 n2 cap2] w fun e w' => e = .returned (.bool (sameI xs ys)) ∧ Below w.heap.size w w' := by
  have hm1 := h1.maxLe
  have hm2 := h2.maxLe
  have hc1 := h1.capLe
  have hc2 := h2.capLe
  unfold maxLen at hm1 hm2
  have H1 := Lib.hid h1
  have H2 := Lib.hid h2
  clear h1 h2
  by_cases hn : n1 = n2
  · subst hn
    go_enter Tryz.func26, Tryz.ntmps26
    go_wp2
    go_loopw [5] (fun v wr => ∃ k : Nat, k ≤ n1 ∧ v = .int .i64 k ∧ Hid (∀ i, i < k → wi xs i = wi ys i) ∧ Below w.heap.size w wr) (fun v _ => n1 - (intOf v).toNat)
    case atStart => exact ⟨0, Nat.zero_le _, rfl, fun i hi => absurd hi (Nat.not_lt_zero _), Below.refl _ _⟩
    case round =>
      obtain ⟨k, hk, rfl, hr, hb⟩ := hrel
      by_cases hlt : k < n1
      · obtain ⟨b1, o1, rfl, hl1, hx1⟩ := H1.out.at_ (by omega)
        obtain ⟨b2, o2, rfl, hl2, hx2⟩ := H2.out.at_ (by omega)
        have c1 := (hb.cell (p := ⟨b1, o1 + k, none⟩) hl1).trans (hx1 k (by omega))
        have c2 := (hb.cell (p := ⟨b2, o2 + k, none⟩) hl2).trans (hx2 k (by omega))
        clear hx1 hx2
        by_cases he : wi xs k = wi ys k
        · have hr' : Hid (∀ i, i < k + 1 → wi xs i = wi ys i) := fun i hi => by
            rcases Nat.lt_succ_iff_lt_or_eq.1 hi with h | h
            · exact hr.out i h
            · rw [h]; exact he
          rw [he] at c1
          clear he hr
          go_wp2
          go_quiet (fail)
          go_wp2
          go_roundw
          case rel => exact ⟨k + 1, by omega, by go_num, hr', by first | exact hb | exact hb.drew | exact below_drewN hb _⟩
          case measure => simp [intOf]; omega
        · have hf := Lib.hid (sameI_no he)
          have hz : ((wi xs k : Int) == (wi ys k : Int)) = false := by simpa using (fun e => he (by omega))
          have hz1 : ((wi xs k : Int) != (wi ys k : Int)) = true := by simpa using (fun e => he (by omega))
          clear he hr
          go_wp2
          go_quiet (fail)
          go_wp2
          go_ret
          exact ⟨by rw [hf.out]; rfl, by first | exact hb | exact hb.drew | exact below_drewN hb _⟩
      · obtain rfl : n1 = k := by omega
        have hf := Lib.hid (sameI_yes (xs := xs) (ys := ys) (by rw [H1.out.len, H2.out.len]) (by rw [H1.out.len]; exact hr.out))
        clear hr
        go_wp2
        go_ret
        exact ⟨by rw [hf.out]; rfl, hb⟩
  · have hf := Lib.hid (sameI_len (xs := xs) (ys := ys) (by rw [H1.out.len, H2.out.len]; exact hn))
    have hz : (((n1 : Nat) : Int) != ((n2 : Nat) : Int)) = true := by simpa using (fun e => hn (by omega))
    go_enter Tryz.func26, Tryz.ntmps26
    go_wp2
    go_ret
    exact ⟨by rw [hf.out]; rfl, Below.refl _ _⟩

theorem rCount_any (w : World) (a1 : Option Addr) (n1 cap1 : Nat) (xs : List Nat) (h1 : Is64 w a1 n1 cap1 xs) (s1 : n1 ≤ 1000000) :
    Calls Tryz.prog 97 #[.slice a1 n1 cap1] w fun e w' => e = .returned (.int .i64 (((lst xs (64 * n1)).length : Nat) : Int)) ∧ Below w.heap.size w w' := by
  have H1 := Lib.hid h1
  clear h1
  go_enter Tryz.func97, Tryz.ntmps97
  go_wp2_with (go_at_call 141; refine (rList_any _ _ _ _ _ H1.out s1).mono ?_; rintro e w' ⟨a', n', cap', rfl, h', hb'⟩)
  go_ret
  have := h'.len
  simp only [ints, List.length_map] at this
  exact ⟨by rw [this]; rfl, hb'⟩

/-- Whether a normal form has no words. -/
theorem nlen_zero {xs : List Nat} : ∀ {n : Nat}, nlen xs n = 0 ↔ ∀ i, i < n → wd xs i = 0
  | 0 => by simp [nlen]
  | n + 1 => by
    unfold nlen
    split
    · rename_i h
      rw [nlen_zero]
      exact ⟨fun hh i hi => by
        rcases Nat.lt_succ_iff_lt_or_eq.1 hi with h1 | h1
        · exact hh i h1
        · rw [h1]; exact h, fun hh i hi => hh i (by omega)⟩
    · rename_i h
      exact ⟨fun e => by omega, fun hh => absurd (hh n (by omega)) h⟩

theorem nrm_len (m : Nat) (f : Nat → Nat) : (nrm m f).length = nlen (tab m f) m := by
  unfold nrm
  rw [List.length_take, tab_len]
  have := nlen_le (tab m f) m
  omega
theorem nrm_sub (n : Nat) (xs ys : List Nat) : decide ((nrm n (minF xs ys)).length = 0) = subB n xs ys := by
  rw [Bool.eq_iff_iff, decide_eq_true_eq, nrm_len, nlen_zero]
  simp only [subB, List.all_eq_true, List.mem_range, beq_iff_eq]
  exact ⟨fun h i hi => by have := h i hi; rwa [wd_tab _ _ _ hi] at this, fun h i hi => by rw [wd_tab _ _ _ hi]; exact h i hi⟩

theorem rSubset_any (w : World) (a1 a2 : Option Addr) (n1 n2 cap1 cap2 : Nat) (xs ys : List Nat) (h1 : Is64 w a1 n1 cap1 xs) (h2 : Is64 w a2 n2 cap2 ys) (s1 : n1 ≤ 1000000) (s2 : n2 ≤ 1000000) :
    Calls Tryz.prog 60 #[.slice a1 n1 cap1, .slice a2 n2 cap2] w fun e w' => e = .returned (.bool (subB n1 xs ys)) ∧ Below w.heap.size w w' := by
  have H1 := Lib.hid h1
  have H2 := Lib.hid h2
  clear h1 h2
  go_enter Tryz.func60, Tryz.ntmps60
  go_wp2_with (go_at_call 101; refine (rMinus_any _ _ _ _ _ _ _ _ _ H1.out H2.out s1 s2).mono ?_; rintro e w' ⟨a', n', cap', rfl, h', hb'⟩)
  go_ret
  refine ⟨?_, hb'⟩
  have hl := h'.1.len
  show Ending.returned (.bool (((n' : Nat) : Int) == 0)) = _
  rw [← nrm_sub, hl]
  congr 2
  rw [Bool.eq_iff_iff]
  simp

theorem rSubset_val (b : Bool) (w : World) (a1 a2 : Option Addr) (n1 n2 cap1 cap2 : Nat) (xs ys : List Nat) (h1 : Is64 w a1 n1 cap1 xs) (h2 : Is64 w a2 n2 cap2 ys) (s1 : n1 ≤ 1000000) (s2 : n2 ≤ 1000000) (hb : subB n1 xs ys = b) :
    Calls Tryz.prog 60 #[.slice a1 n1 cap1, .slice a2 n2 cap2] w fun e w' => e = .returned (.bool b) ∧ Below w.heap.size w w' := hb ▸ rSubset_any w a1 a2 n1 n2 cap1 cap2 xs ys h1 h2 s1 s2

theorem rEqual_any (w : World) (a1 a2 : Option Addr) (n1 n2 cap1 cap2 : Nat) (xs ys : List Nat) (h1 : Is64 w a1 n1 cap1 xs) (h2 : Is64 w a2 n2 cap2 ys) (s1 : n1 ≤ 1000000) (s2 : n2 ≤ 1000000) :
    Calls Tryz.prog 94 #[.slice a1 n1 cap1, .slice a2 n2 cap2] w fun e w' => e = .returned (.bool (subB n1 xs ys && subB n2 ys xs)) ∧ Below w.heap.size w w' := by
  have H1 := Lib.hid h1
  have H2 := Lib.hid h2
  clear h1 h2
  cases hb : subB n1 xs ys
  · have HB := Lib.hid hb
    clear hb
    go_enter Tryz.func94, Tryz.ntmps94
    go_wp2_with (go_at_call 60; refine (rSubset_val false _ _ _ _ _ _ _ _ _ H1.out H2.out s1 s2 HB.out).mono ?_; rintro e w' ⟨rfl, hb'⟩)
    go_ret
    exact ⟨rfl, hb'⟩
  · have HB := Lib.hid hb
    clear hb
    go_enter Tryz.func94, Tryz.ntmps94
    go_wp2_with fail
    refine (rSubset_val true _ _ _ _ _ _ _ _ _ H1.out H2.out s1 s2 HB.out).mono ?_
    rintro e w' ⟨rfl, hb'⟩
    go_wp2_with fail
    refine (rSubset_any _ _ _ _ _ _ _ _ _ (H2.out.below hb') (H1.out.below hb') s2 s1).mono ?_
    rintro e w2 ⟨rfl, hb2⟩
    go_wp2
    go_ret
    exact ⟨rfl, hb'.trans (hb2.mono hb'.size)⟩
end Go.Proofs.YtdeamdpoegdmdaaGreatDoor.S

/- Plain: lists of the one bits of words. Imports no walk. -/
namespace Go.Proofs.YtdeamdpoegdmdaaGreatDoor.S

/-- The one bits of a word, ascending. -/
def bl (w : Nat) : List Nat := (List.range 64).filter w.testBit

theorem bl_zero : bl 0 = [] := by decide

theorem filter_first {p q : Nat → Bool} {c : Nat} (hc : p c = true) (hlo : ∀ i, i < c → p i = false) (hq : ∀ i, q i = (p i && decide (i ≠ c))) :
    ∀ d, (List.range (c + 1 + d)).filter p = c :: (List.range (c + 1 + d)).filter q
  | 0 => by
    have h1 : (List.range c).filter p = [] := by
      rw [List.filter_eq_nil_iff]; intro a ha; rw [hlo a (List.mem_range.1 ha)]; decide
    have h2 : (List.range c).filter q = [] := by
      rw [List.filter_eq_nil_iff]; intro a ha; rw [hq, hlo a (List.mem_range.1 ha)]; simp
    have h3 : q c = false := by rw [hq]; simp
    simp [List.range_succ, List.filter_append, h1, h2, h3, hc]
  | d + 1 => by
    have ih := filter_first hc hlo hq d
    rw [show c + 1 + (d + 1) = (c + 1 + d) + 1 from rfl, List.range_succ, List.filter_append, List.filter_append, ih]
    have : q (c + 1 + d) = p (c + 1 + d) := by rw [hq]; simp; omega
    simp [List.filter_cons, this]

theorem low_bit (c m : Nat) (i : Nat) : (2 ^ c * (2 * m + 1)).testBit i = (decide (c ≤ i) && (2 * m + 1).testBit (i - c)) := by
  rw [Nat.testBit_two_pow_mul]

theorem less_one (c m : Nat) (i : Nat) : (2 ^ c * (2 * m + 1) - 1).testBit i = if i < c then true else (2 * m).testBit (i - c) := by
  have hp : 0 < 2 ^ c := Nat.two_pow_pos c
  have e : 2 ^ c * (2 * m + 1) - 1 = 2 ^ c * (2 * m) + (2 ^ c - 1) := by
    rw [Nat.mul_add, Nat.mul_one]; omega
  rw [e, Nat.testBit_two_pow_mul_add _ (by omega)]
  split
  · rename_i h; simp [Nat.testBit_two_pow_sub_one, h]
  · rfl

theorem bl_next (w : Nat) (h0 : w ≠ 0) (h : w < 2 ^ 64) : bl w = Lib.ctz 64 w :: bl (w &&& (w - 1)) := by
  obtain ⟨m, hm, hk⟩ := Lib.ctzFrom_spec 64 w (by omega) h
  have e : Lib.ctz 64 w = Lib.ctzFrom 64 w := by simp [Lib.ctz, h0]
  rw [e]
  generalize Lib.ctzFrom 64 w = c at *
  obtain ⟨d, hd⟩ : ∃ d, 64 = c + 1 + d := ⟨63 - c, by omega⟩
  unfold bl
  rw [hd]
  refine filter_first ?_ ?_ ?_ d
  · rw [hm, low_bit]; simp
  · intro i hi
    rw [hm, low_bit]; simp; omega
  · intro i
    rw [Nat.testBit_and, hm, low_bit, less_one]
    by_cases h1 : i < c
    · simp [h1, show ¬ c ≤ i by omega]
    · by_cases h2 : i = c
      · subst h2; simp
      · obtain ⟨t, ht⟩ : ∃ t, i - c = t + 1 := ⟨i - c - 1, by omega⟩
        rw [ht]
        have a1 : (2 * m + 1).testBit (t + 1) = m.testBit t := by rw [Nat.testBit_succ]; congr 1; omega
        have a2 : (2 * m).testBit (t + 1) = m.testBit t := by rw [Nat.testBit_succ]; congr 1; omega
        rw [a1, a2]
        simp [h1, h2, show c ≤ i by omega]

theorem and_less (w : Nat) (h0 : w ≠ 0) : w &&& (w - 1) < w := by
  have : w &&& (w - 1) ≤ w - 1 := Nat.and_le_right
  omega

theorem lst_word (xs : List Nat) (k : Nat) (h : wd xs k < 2 ^ 64) : lst xs (64 * (k + 1)) = lst xs (64 * k) ++ (bl (wd xs k)).map (fun j => 64 * k + j) := by
  unfold lst bl
  rw [show 64 * (k + 1) = 64 * k + 64 by omega, List.range_add, List.filter_append]
  congr 1
  rw [List.filter_map]
  congr 1
  apply List.filter_congr
  intro j hj
  have hj := List.mem_range.1 hj
  simp only [Function.comp, bit]
  rw [show (64 * k + j) / 64 = k by omega, show (64 * k + j) % 64 = j by omega]

theorem popN_testBit : ∀ n x, popN n x = ((List.range n).filter x.testBit).length
  | 0, x => rfl
  | n + 1, x => by
    rw [popN, popN_testBit n (x / 2), List.range_succ_eq_map, List.filter_cons, List.filter_map, ]
    have : (x.testBit ∘ Nat.succ) = (x / 2).testBit := by
      funext i; simp [Nat.testBit_succ]
    rw [this]
    simp only [Nat.testBit_zero]
    by_cases h : x % 2 = 1
    · simp [h]; omega
    · simp [h]; omega

theorem pop_bl (x : Nat) : pop x = (bl x).length := popN_testBit 64 x

theorem cnt_lst (xs : List Nat) (hb : ∀ k, wd xs k < 2 ^ 64) : ∀ k, cnt xs k = (lst xs (64 * k)).length
  | 0 => rfl
  | k + 1 => by
    rw [cnt, cnt_lst xs hb k, lst_word xs k (hb k), List.length_append, List.length_map, pop_bl]
end Go.Proofs.YtdeamdpoegdmdaaGreatDoor.S

/- Walk over package bits: List. -/
namespace Go.Proofs.YtdeamdpoegdmdaaGreatDoor.S
open Go.RowKit

theorem ints_app (l m : List Nat) : ints (l ++ m) = ints l ++ ints m := by simp [ints]

set_option maxRecDepth 100000 in
theorem List_any (w : World) (a1 : Option Addr) (n1 cap1 : Nat) (xs : List Nat) (h1 : Is64 w a1 n1 cap1 xs) (s1 : n1 ≤ 1000000) (hT : TabOk w) :
    Calls Tryz.prog 84 #[.slice a1 n1 cap1] w (RetI (ints (lst xs (64 * n1))) w) := by
  have H1 := Lib.hid h1
  have HT := Lib.hid hT
  have hm1 := h1.maxLe
  have hc1 := h1.capLe
  unfold maxLen at hm1
  obtain ⟨i0, hi, hz0, hz1, hz2⟩ := info_parts Tryz.infoI
  have HI := Lib.hid (And.intro hi (And.intro hz0 (And.intro hz1 hz2)))
  have hcl := cnt_le xs n1
  clear h1 hi hz0 hz1 hz2 hT
  go_enter Tryz.func84, Tryz.ntmps84
  go_wp2_with (first | (go_at_call 30; refine (Count_any _ _ _ _ _ H1.out s1).mono ?_; rintro e w' ⟨rfl, rfl⟩) | (at_make; go_loud (refine wpList_make_own _ rfl _ _ _ rfl w.heap.size 3 i0 (.int .i64 0) 1 Tryz.underlying42 HI.out.1 HI.out.2.1 HI.out.2.2.1 _ _ _ (cnt xs n1) rfl rfl rfl ?_ ?_ (Nat.le_refl _) ?_); rotate_right; intro w1 hown hgrow))
  · have hb0 : Below w.heap.size w w1 := (Below.refl _ _).grown hgrow (Nat.le_refl _) (fun _ e => by cases e)
    have HO := Lib.hid hown
    clear hown hgrow
    go_loopw [3, 11] (fun o v wr => ∃ k : Nat, k ≤ n1 ∧ v = .int .i64 k ∧ Hid (wr.ownsRow w.heap.size 3 1 o (lst xs (64 * k)).length (ivals (ints (lst xs (64 * k))))) ∧ Below w.heap.size w wr) (fun _ v _ => n1 - (intOf v).toNat)
    case atStart => exact ⟨0, Nat.zero_le _, rfl, HO.out, hb0⟩
    case round =>
      obtain ⟨k, hk, rfl, hrow, hb⟩ := hrel
      by_cases hlt : k < n1
      · obtain ⟨b1, o1, rfl, hl1, hx1⟩ := H1.out.at_ (by omega)
        have c1 := (hb.cell (p := ⟨b1, o1 + k, none⟩) hl1).trans (hx1 k (by omega))
        clear hx1
        go_wp2
        clear c1
        obtain ⟨wo, ewo⟩ : ∃ wo : World, wo = wr := ⟨_, rfl⟩
        go_loopw [3, 5] (fun o v wi => ∃ (l : List Nat) (x : Nat), v = .int .u64 ((x : Nat) : Int) ∧ x < 18446744073709551616 ∧ Hid (l ++ (bl x).map (fun j => 64 * k + j) = lst xs (64 * (k + 1))) ∧ l.length ≤ 64 * (k + 1) ∧ Hid (wi.ownsRow w.heap.size 3 1 o l.length (ivals (ints l))) ∧ Below w.heap.size w wi) (fun _ v _ => (intOf v).toNat)
        case atStart => exact ⟨lst xs (64 * k), wd xs k, rfl, H1.out.lt k, (lst_word xs k (H1.out.lt k)).symm, by have := lst_len xs (64 * k); omega, hrow, hb⟩
        case round =>
          obtain ⟨l, x, rfl, hx, hl, hll, hrow2, hb2⟩ := hrel
          by_cases h0 : x = 0
          · subst h0
            have hl' : l = lst xs (64 * (k + 1)) := by
              have := hl.out
              rw [bl_zero, List.map_nil, List.append_nil] at this
              exact this
            subst hl'
            go_wp2
            go_roundw
            case rel => exact ⟨k + 1, by omega, by go_num, hrow2, hb2⟩
            case measure => simp [intOf]; omega
          · have hlo := Lib.lowest_bit 64 x h0 hx
            obtain ⟨c, hc⟩ : ∃ c, Lib.ctz 64 x = c := ⟨_, rfl⟩
            have hc64 : c < 64 := by rw [← hc]; exact hlo.2
            have hC := Lib.hid hc
            have hz1 : (((x : Nat) : Int) != 0) = true := by simpa using h0
            have hT2 := Lib.hid (HT.out.below (hb2.mono (Nat.le_refl _)))
            have htz := Lib.hid (fun W (h : TabOk W) => hc ▸ Tz_any W x hx h0 h)
            obtain ⟨y, hy⟩ : ∃ y, x - 1 = y := ⟨_, rfl⟩
            obtain ⟨z, hzz⟩ : ∃ z, x &&& y = z := ⟨_, rfl⟩
            have f1 : IntKind.u64.wrap ((x : Int) - 1) = (y : Int) := by rw [IntKind.wrap_u64]; omega
            have f1' : (x : Int) - 1 = (y : Int) := by omega
            have f2 : bits BinOp.and IntKind.u64 (x : Int) (y : Int) = (z : Int) := by rw [andc hx (by omega), hzz]
            have hzx : z < x := by rw [← hzz, ← hy]; exact and_less x h0
            have HN : Hid (bl x = c :: bl z) := by rw [← hc, ← hzz, ← hy]; exact bl_next x h0 hx
            have hlr2 := hb2.size
            have hl2 : Hid ((l ++ [64 * k + c]) ++ (bl z).map (fun j => 64 * k + j) = lst xs (64 * (k + 1))) := by
              have := hl.out
              rw [HN.out, List.map_cons] at this
              show _ = _
              simpa using this
            have hll2 : (l ++ [64 * k + c]).length ≤ 64 * (k + 1) := by
              have h1 := congrArg List.length hl2.out
              rw [List.length_append] at h1
              have := lst_len xs (64 * (k + 1))
              omega
            have hll3 : l.length + 1 ≤ 64 * (k + 1) := by simpa using hll2
            have HL2 := Lib.hid hll2
            clear hc hlo hy hzz hl hll2 h0
            go_wp2_with (first | (go_at_call 123; refine (htz.out _ hT2.out).mono ?_; rintro e w' ⟨rfl, rfl⟩) | (at_builtin; go_loud (refine wpList_append_own _ rfl _ _ 42 rfl w.heap.size 3 i0 (.int .i64 0) 1 8 Tryz.underlying42 HI.out.1 HI.out.2.1 HI.out.2.2.1 HI.out.2.2.2 rfl (by decide) _ _ _ rfl (hrow2.out.alloc _) ⟨wr.heap.size, 0, none⟩ 1 1 [.int .i64 ((k : Int) * 64 + (c : Int))] rfl rfl (one_new _ _ _) ?_ ?_ ?_ ?_ ?_); rotate_right; intro v' w3 hown hgrow _))
            · have hown' : w3.ownsRow w.heap.size 3 1 v' (l ++ [64 * k + c]).length (ivals (ints (l ++ [64 * k + c]))) := by
                rw [← ivals_snoc, List.length_append, show (((64 * k + c : Nat)) : Int) = (k : Int) * 64 + (c : Int) by omega]
                exact hown
              exact ⟨⟨l ++ [64 * k + c], z, rfl, by omega, hl2, HL2.out, hown', (hb2.alloc hb2.size _).grown hgrow (by simp; omega) (fun j hj => (hrow2.out.lt j hj).1)⟩, by simp [intOf]; omega⟩
            · exact oneCell_one _ _
            · unfold maxLen; omega
            · omega
            · simp; omega
      · obtain rfl : k = n1 := by omega
        obtain ⟨aa, cc, rfl, hres⟩ := IsInt.of_owns hrow.out (fun z hz => by have := lst_mem hz; omega)
        have HRes := Lib.hid hres
        clear hrow hres
        go_wp2
        go_ret
        exact ⟨aa, _, cc, rfl, HRes.out, hb⟩
  · rw [HI.out.2.2.2]; omega
  · unfold maxLen; omega
end Go.Proofs.YtdeamdpoegdmdaaGreatDoor.S

/- Walks over package bits: Of, and its reference. -/
namespace Go.Proofs.YtdeamdpoegdmdaaGreatDoor.S
open Go.RowKit

def uvals (ws : List Nat) : List Value := List.map (fun n : Nat => Value.int .u64 (n : Int)) ws
theorem uvals_len (ws : List Nat) : (uvals ws).length = ws.length := by simp [uvals]
theorem uvals_at (ws : List Nat) (i : Nat) (h : i < ws.length) : (uvals ws)[i]? = some (Value.int .u64 ((wd ws i : Nat) : Int)) := by
  simp [uvals, wd, List.getD_eq_getElem?_getD, List.getElem?_eq_getElem h]
theorem uvals_set (ws : List Nat) (i x : Nat) : (uvals ws).set i (Value.int .u64 ((x : Nat) : Int)) = uvals (ws.set i x) := by
  simp [uvals, List.map_set]
theorem uvals_snoc (ws : List Nat) (x : Nat) : uvals ws ++ [Value.int .u64 ((x : Nat) : Int)] = uvals (ws ++ [x]) := by simp [uvals]

theorem Is64.of_uvals {w : World} {B n : Nat} {v : Value} {ws : List Nat} (h : w.ownsRow B 37 1 v n (uvals ws)) (hb : ∀ i, i < n → wd ws i < 18446744073709551616) :
    ∃ a cap, v = .slice a n cap ∧ Is64 w a n cap ws := by
  have hh := h
  have hlen : ws.length = n := by have := h.1; rw [uvals_len] at this; omega
  obtain ⟨h1, ⟨h2, h3⟩ | ⟨g, cap, cur, hv, hB, hg, h3, h4, h5, h6⟩⟩ := h
  · subst h3
    exact ⟨none, 0, h2, hlen, Nat.le_refl _, Nat.zero_le _, fun i hi => absurd hi (Nat.not_lt_zero _), fun h0 => absurd h0 (Nat.lt_irrefl _), fun _ => ⟨rfl, rfl⟩⟩
  · refine ⟨some ⟨g, 0, none⟩, cap, hv, hlen, h3, h4, hb, fun _ => ⟨g, 0, rfl, lt_of_block hg, fun i hi => ?_⟩, fun e => by cases e⟩
    have := hh.cells (g := g) (by rw [hv]; rfl) i _ (uvals_at ws i (by omega))
    rw [show (⟨g, 0, none⟩ : Addr).add i = ⟨g, i, none⟩ by unfold Addr.add; split <;> simp_all] at this
    rw [Nat.zero_add]
    exact this

/-- Whether one of the first k numbers is i. -/
def inL (zs : List Int) : Nat → Nat → Bool
  | 0, _ => false
  | k + 1, i => inL zs k i || decide (wi zs k = (i : Int))

/-- A set in normal form. -/
def Norm (ws : List Nat) : Prop := 0 < ws.length → wd ws (ws.length - 1) ≠ 0

theorem wd_set (l : List Nat) (q x i : Nat) (h : q < l.length) : wd (l.set q x) i = if i = q then x else wd l i := by
  simp only [wd, List.getD_eq_getElem?_getD, List.getElem?_set]
  by_cases e : q = i
  · subst e; simp [h]
  · simp [e, Ne.symm e]
theorem wd_snoc0 (l : List Nat) (i : Nat) : wd (l ++ [0]) i = wd l i := by
  simp only [wd, List.getD_eq_getElem?_getD]
  rcases Nat.lt_trichotomy i l.length with h | h | h
  · rw [List.getElem?_append_left h]
  · subst h; simp
  · rw [List.getElem?_eq_none (by simp; omega), List.getElem?_eq_none (by omega)]

theorem or_bit_lt {x r : Nat} (hx : x < 18446744073709551616) (hr : r < 64) : x ||| 2 ^ r < 18446744073709551616 :=
  Nat.or_lt_two_pow (n := 64) hx (Nat.pow_lt_pow_right (by decide) hr)

/-- What setting one bit does. -/
theorem set_bit {ws ws2 : List Nat} {q r : Nat} (he : ∀ i, wd ws2 i = wd ws i) (hq : q < ws2.length) (hr : r < 64) (i : Nat) :
    bit (ws2.set q (wd ws2 q ||| 2 ^ r)) i = (bit ws i || decide (64 * q + r = i)) := by
  unfold bit
  rw [wd_set _ _ _ _ hq]
  by_cases h : i / 64 = q
  · rw [if_pos h, Nat.testBit_or, Nat.testBit_two_pow, he q, h]
    congr 1
    rw [decide_eq_decide]
    omega
  · rw [if_neg h, he]
    have : decide (64 * q + r = i) = false := by rw [decide_eq_false_iff_not]; omega
    rw [this, Bool.or_false]
theorem set_norm {ws ws2 : List Nat} {q r : Nat} (hn : Norm ws) (he : ∀ i, wd ws2 i = wd ws i) (hl : ws2.length = ws.length ∨ ws2.length = q + 1) (hq : q < ws2.length) :
    Norm (ws2.set q (wd ws2 q ||| 2 ^ r)) := by
  intro _
  rw [List.length_set, wd_set _ _ _ _ hq]
  split
  · intro h
    have h1 := congrArg (fun x => x.testBit r) h
    simp [Nat.testBit_or, Nat.testBit_two_pow] at h1
  · rename_i h
    rcases hl with hl | hl
    · rw [he, hl]
      exact hn (by omega)
    · omega

def slen : Value → Nat
  | .slice _ n _ => n
  | _ => 0

/-- What Of returns: the set of the numbers, or the error. -/
def OfPost (zs : List Int) (w : World) (e : Ending) (w' : World) : Prop :=
  Below w.heap.size w w' ∧
  (((∀ i, i < zs.length → 0 ≤ wi zs i ∧ wi zs i ≤ 4095) ∧ ∃ ws a n cap, e = .returned (.tuple #[.slice a n cap, .int .i64 0]) ∧ (Is64 w' a n cap ws ∧ Fresh w.heap.size a) ∧ Norm ws ∧ n ≤ 64 ∧ ∀ i, bit ws i = inL zs zs.length i) ∨
   ((∃ i, i < zs.length ∧ ¬ (0 ≤ wi zs i ∧ wi zs i ≤ 4095)) ∧ e = .returned (.tuple #[.slice none 0 0, .int .i64 2])))

theorem shl_one {r : Nat} (hr : r < 64) : IntKind.u64.wrap (2 ^ r) = ((2 ^ r : Nat) : Int) := by
  have : (2 : Nat) ^ r < 18446744073709551616 := Nat.pow_lt_pow_right (n := 64) (by decide) hr
  have e : ((2 : Int) ^ r) = ((2 ^ r : Nat) : Int) := by rw [Int.natCast_pow]; rfl
  rw [e]
  exact wrapu this

theorem owns_form {w : World} {base : Nat} {e : TypeId} {size : Nat} {v : Value} {n : Nat} {xs : List Value} (h : w.ownsRow base e size v n xs) : ∃ a cap, v = .slice a n cap := by
  obtain ⟨h1, ⟨h2, h3⟩ | ⟨g, cap, cur, hv, _⟩⟩ := h
  · subst h3; exact ⟨none, 0, h2⟩
  · exact ⟨_, _, hv⟩

set_option maxRecDepth 100000 in
theorem Of_any (w : World) (a1 : Option Addr) (n1 cap1 : Nat) (zs : List Int) (h1 : IsInt w a1 n1 cap1 zs) :
    Calls Tryz.prog 82 #[.slice a1 n1 cap1] w (OfPost zs w) := by
  have H1 := Lib.hid h1
  have hm1 := h1.maxLe
  have hc1 := h1.capLe
  unfold maxLen at hm1
  obtain ⟨i0, hi, hz0, hz1, hz2⟩ := info_parts Tryz.info64
  have HI := Lib.hid (And.intro hi (And.intro hz0 (And.intro hz1 hz2)))
  clear h1 hi hz0 hz1 hz2
  go_enter Tryz.func82, Tryz.ntmps82
  go_wp2
  go_loopw [4, 9] (fun o v wr => ∃ (k : Nat) (ws : List Nat), k ≤ n1 ∧ v = .int .i64 k ∧ Hid (wr.ownsRow w.heap.size 37 1 o ws.length (uvals ws)) ∧ Hid ((∀ i, wd ws i < 18446744073709551616) ∧ Norm ws ∧ (∀ i, bit ws i = inL zs k i) ∧ ∀ i, i < k → 0 ≤ wi zs i ∧ wi zs i ≤ 4095) ∧ ws.length ≤ 64 ∧ Below w.heap.size w wr) (fun _ v _ => n1 - (intOf v).toNat)
  case atStart => exact ⟨0, [], Nat.zero_le _, rfl, World.ownsRow_nil _ _ _ _, ⟨fun i => by simp [wd], fun h => absurd h (Nat.lt_irrefl _), fun i => by simp [bit, wd, inL], fun i hi => absurd hi (Nat.not_lt_zero _)⟩, Nat.zero_le _, Below.refl _ _⟩
  case round =>
    obtain ⟨k, ws, hk, rfl, hrow, hws, hwl, hb⟩ := hrel
    by_cases hlt : k < n1
    · obtain ⟨b1, o1, rfl, hl1, hx1⟩ := H1.out.at_ (by omega)
      have c1 := (hb.cell (p := ⟨b1, o1 + k, none⟩) hl1).trans (hx1 k (by omega))
      clear hx1
      have hbz := H1.out.bnd k hlt
      obtain ⟨z, hz⟩ : ∃ z, wi zs k = z := ⟨_, rfl⟩
      rw [hz] at c1 hbz
      by_cases hg : 0 ≤ z ∧ z ≤ 4095
      · obtain ⟨hg1, hg2⟩ := hg
        have HZ := Lib.hid hz
        clear hz
        obtain ⟨t, rfl⟩ := Int.eq_ofNat_of_zero_le hg1
        have ht : t ≤ 4095 := by omega
        go_wp2
        clear c1
        go_loopw [4] (fun o wi => ∃ ws2 : List Nat, Hid (wi.ownsRow w.heap.size 37 1 o ws2.length (uvals ws2)) ∧ Hid (∀ i, wd ws2 i = wd ws i) ∧ Hid (ws2.length = ws.length ∨ (ws.length < ws2.length ∧ ws2.length ≤ t / 64 + 1)) ∧ ws2.length ≤ 64 ∧ Below w.heap.size w wi) (fun o _ => 64 - slen o)
        case atStart => exact ⟨ws, hrow, fun _ => rfl, .inl rfl, hwl, hb⟩
        case round =>
          obtain ⟨ws2, hrow2, hws2, hl2, hwl2, hb2⟩ := hrel
          obtain ⟨ad, cap2, rfl⟩ := owns_form hrow2.out
          by_cases hle : ws2.length ≤ t / 64
          · have hlr2 := hb2.size
            go_wp2_with (at_builtin; go_loud (refine wpList_append_own _ rfl _ _ 31 rfl w.heap.size 37 i0 (.int .u64 0) 1 8 Tryz.underlying31 HI.out.1 HI.out.2.1 HI.out.2.2.1 HI.out.2.2.2 rfl (by decide) _ _ _ rfl (hrow2.out.alloc _) ⟨wr.heap.size, 0, none⟩ 1 1 [.int .u64 0] rfl rfl (one_new _ _ _) ?_ ?_ ?_ ?_ ?_); rotate_right; intro v' w3 hown hgrow _)
            · have hown' : w3.ownsRow w.heap.size 37 1 v' (ws2 ++ [0]).length (uvals (ws2 ++ [0])) := by
                rw [← uvals_snoc, List.length_append]
                exact hown
              obtain ⟨ad', cap', rfl⟩ := owns_form hown'
              refine ⟨⟨ws2 ++ [0], hown', fun i => (wd_snoc0 ws2 i).trans (hws2.out i), ?_, by simp; omega, (hb2.alloc hb2.size _).grown hgrow (by simp; omega) (fun j hj => (hrow2.out.lt j hj).1)⟩, by simp [slen]; omega⟩
              have := hl2.out
              show _ ∨ _
              simp
              omega
            · exact oneCell_one _ _
            · unfold maxLen; omega
            · omega
            · simp; omega
          · obtain ⟨g, cap3, e3, hg3, hg4⟩ := hrow2.out.form (by omega)
            cases e3
            have hq : t / 64 < ws2.length := by omega
            have c2 := (hrow2.out.cellAt (t / 64) (by omega)).trans (uvals_at ws2 (t / 64) hq)
            have f2 := hrow2.out.frozenAt (t / 64)
            go_wp2
            go_region
            go_wp2
            go_roundw
            case rel =>
              have hw := hws.out
              have hr64 : t % 64 < 64 := Nat.mod_lt _ (by decide)
              have hlt2 : ∀ i, wd ws2 i < 18446744073709551616 := fun i => by rw [hws2.out i]; exact hw.1 i
              refine ⟨k + 1, ws2.set (t / 64) (wd ws2 (t / 64) ||| 2 ^ (t % 64)), by omega, by go_num, ?_, ⟨fun i => ?_, set_norm hw.2.1 hws2.out (by have := hl2.out; omega) hq, fun i => ?_, fun i hi => ?_⟩, by simpa using hwl2, (hb2.setCell hg3 _).drew⟩
              · have st := (hrow2.out.stored (t / 64) (Value.int .u64 (((wd ws2 (t / 64) ||| 2 ^ (t % 64)) : Nat) : Int))).1.drew
                rw [uvals_set] at st
                rw [shl_one hr64, or_int (hlt2 _) (Nat.pow_lt_pow_right (n := 64) (by decide) hr64), List.length_set]
                exact st
              · rw [wd_set _ _ _ _ hq]
                split
                · exact or_bit_lt (hlt2 _) hr64
                · exact hlt2 i
              · rw [set_bit hws2.out hq hr64, hw.2.2.1 i, inL, HZ.out, Nat.div_add_mod]
                congr 1
                rw [decide_eq_decide]
                omega
              · rcases Nat.lt_succ_iff_lt_or_eq.1 hi with h | h
                · exact hw.2.2.2 i h
                · rw [h, HZ.out]; omega
            case measure => simp [intOf]; omega
      · have HZ := Lib.hid hz
        clear hz
        have hlen := H1.out.len
        by_cases hneg : z < 0
        · go_wp2
          go_ret2
          exact ⟨hb, .inr ⟨⟨k, by omega, by rw [HZ.out]; exact hg⟩, rfl⟩⟩
        · have hbig : 4095 < z := by omega
          go_wp2
          go_ret2
          exact ⟨hb, .inr ⟨⟨k, by omega, by rw [HZ.out]; exact hg⟩, rfl⟩⟩
    · obtain rfl : k = n1 := by omega
      have hw := hws.out
      obtain ⟨aa, cc, rfl, hres⟩ := Is64.of_uvals hrow.out (fun i _ => hw.1 i)
      have HRes := Lib.hid hres
      have FR := Lib.hid (owns_fresh hrow.out)
      clear hrow hres hw
      go_wp2
      go_ret2
      have hlen := H1.out.len
      exact ⟨hb, .inl ⟨fun i hi => hws.out.2.2.2 i (by omega), ws, aa, _, cc, rfl, ⟨HRes.out, FR.out⟩, hws.out.2.1, hwl, by rw [hlen]; exact hws.out.2.2.1⟩⟩
end Go.Proofs.YtdeamdpoegdmdaaGreatDoor.S

/- Walk over the reference of Of; the normal form's words. -/
namespace Go.Proofs.YtdeamdpoegdmdaaGreatDoor.S
open Go.RowKit

theorem nlen_top (xs : List Nat) : ∀ n i, nlen xs n ≤ i → i < n → wd xs i = 0
  | 0, i, _, h => absurd h (Nat.not_lt_zero _)
  | n + 1, i, h1, h2 => by
    unfold nlen at h1
    split at h1
    · rename_i h
      rcases Nat.lt_succ_iff_lt_or_eq.1 h2 with h3 | h3
      · exact nlen_top xs n i h1 h3
      · rw [h3]; exact h
    · omega
theorem nlen_last (xs : List Nat) : ∀ n, 0 < nlen xs n → wd xs (nlen xs n - 1) ≠ 0
  | 0, h => absurd h (Nat.lt_irrefl _)
  | n + 1, h => by
    unfold nlen at h ⊢
    split
    · rename_i h1
      rw [if_pos h1] at h
      exact nlen_last xs n h
    · rename_i h1
      simpa using h1

theorem wd_nrm (m : Nat) (f : Nat → Nat) (i : Nat) : wd (nrm m f) i = if i < m then f i else 0 := by
  by_cases h1 : i < nlen (tab m f) m
  · have h2 := nlen_le (tab m f) m
    rw [nrm, wd_take _ _ _ h1, if_pos (by omega), wd_tab _ _ _ (by omega)]
  · rw [wd_out _ _ (by rw [nrm_len]; omega)]
    split
    · rename_i h
      have := nlen_top (tab m f) m i (by omega) h
      rw [wd_tab _ _ _ h] at this
      exact this.symm
    · rfl
theorem norm_nrm (m : Nat) (f : Nat → Nat) : Norm (nrm m f) := by
  intro h
  rw [nrm_len] at h ⊢
  have h2 := nlen_le (tab m f) m
  have := nlen_last (tab m f) m h
  rw [nrm, wd_take _ _ _ (by omega)]
  exact this

theorem inL_good {zs : List Int} {k : Nat} (h : ∀ i, i < k → 0 ≤ wi zs i ∧ wi zs i ≤ 4095) {i : Nat} (hi : 4096 ≤ i) : inL zs k i = false := by
  induction k with
  | zero => rfl
  | succ k ih =>
    rw [inL, ih (fun j hj => h j (by omega))]
    have := h k (by omega)
    simp
    omega

set_option maxRecDepth 100000 in
theorem rOf_any (w : World) (a1 : Option Addr) (n1 cap1 : Nat) (zs : List Int) (h1 : IsInt w a1 n1 cap1 zs) :
    Calls Tryz.prog 92 #[.slice a1 n1 cap1] w (OfPost zs w) := by
  have H1 := Lib.hid h1
  have hm1 := h1.maxLe
  have hc1 := h1.capLe
  unfold maxLen at hm1
  obtain ⟨i0, hi, hz0, hz1, hz2⟩ := info_parts Tryz.info64
  have HI := Lib.hid (And.intro hi (And.intro hz0 (And.intro hz1 hz2)))
  clear h1 hi hz0 hz1 hz2
  go_enter Tryz.func92, Tryz.ntmps92
  go_wp2_with (at_make; go_loud (refine wpList_make_full _ rfl _ _ _ rfl w.heap.size 37 i0 (.int .u64 0) 1 Tryz.underlying31 HI.out.1 HI.out.2.1 HI.out.2.2.1 _ _ _ _ 64 rfl rfl rfl rfl ?_ ?_ (Nat.le_refl _) ?_); rotate_right; intro w1 hown hgrow)
  · have hb0 : Below w.heap.size w w1 := (Below.refl _ _).grown hgrow (Nat.le_refl _) (fun _ e => by cases e)
    have hr0 : Row64 w1 w.heap.size 64 (fun _ => 0) := Row64.made hown
    have HR := Lib.hid hr0
    have hsz := lt_of_block hr0
    clear hown hgrow hr0
    go_loopw [5] (fun v wr => ∃ (k : Nat) (f : Nat → Nat), k ≤ n1 ∧ v = .int .i64 k ∧ Hid (Row64 wr w.heap.size 64 f) ∧ Hid ((∀ i, f i < 18446744073709551616) ∧ (∀ i, i < 4096 → (f (i / 64)).testBit (i % 64) = inL zs k i) ∧ ∀ i, i < k → 0 ≤ wi zs i ∧ wi zs i ≤ 4095) ∧ Below w.heap.size w wr ∧ w.heap.size < wr.heap.size) (fun v _ => n1 - (intOf v).toNat)
    case atStart => exact ⟨0, _, Nat.zero_le _, rfl, HR.out, ⟨fun _ => by decide, fun i _ => by simp [inL], fun i hi => absurd hi (Nat.not_lt_zero _)⟩, hb0, hsz⟩
    case round =>
      obtain ⟨k, f, hk, rfl, hrow, hws, hb, hsr⟩ := hrel
      have hw := Lib.hid hws
      by_cases hlt : k < n1
      · obtain ⟨b1, o1, rfl, hl1, hx1⟩ := H1.out.at_ (by omega)
        have c1 := (hb.cell (p := ⟨b1, o1 + k, none⟩) hl1).trans (hx1 k (by omega))
        clear hx1
        have hbz := H1.out.bnd k hlt
        obtain ⟨z, hz⟩ : ∃ z, wi zs k = z := ⟨_, rfl⟩
        rw [hz] at c1 hbz
        have HZ := Lib.hid hz
        clear hz
        have hlen := Lib.hid H1.out.len
        by_cases hg : 0 ≤ z ∧ z ≤ 4095
        · obtain ⟨hg1, hg2⟩ := hg
          obtain ⟨t, rfl⟩ := Int.eq_ofNat_of_zero_le hg1
          have ht : t ≤ 4095 := by omega
          have hq : t / 64 < 64 := by omega
          have c2 := hrow.out.cell hq
          have f2 := hrow.out.free (t / 64)
          clear hw
          have hd1 : decide ((t : Int) < 0) = false := by simp
          have hd2 : decide ((4095 : Int) < (t : Int)) = false := by simp; omega
          go_wp2
          go_region
          go_wp2
          go_roundw
          case rel =>
            have hw := hws.out
            have hr64 : t % 64 < 64 := Nat.mod_lt _ (by decide)
            refine ⟨k + 1, fun i => if i = t / 64 then f (t / 64) ||| 2 ^ (t % 64) else f i, by omega, by go_num, ?_, ⟨fun i => ?_, fun i hi => ?_, fun i hi => ?_⟩, (hb.setCell (Nat.le_refl _) _).drew, by simpa using hsr⟩
            · rw [shl_one hr64, or_int (hw.1 _) (Nat.pow_lt_pow_right (n := 64) (by decide) hr64)]
              exact Row64.set (f' := fun i => if i = t / 64 then f (t / 64) ||| 2 ^ (t % 64) else f i) hrow.out hq _ (by simp) (fun i hi => by simp [hi])
            · show (if _ then _ else _) < _
              split
              · exact or_bit_lt (hw.1 _) hr64
              · exact hw.1 i
            · show (if _ then _ else _ : Nat).testBit _ = _
              rw [inL, ← hw.2.1 i hi, HZ.out]
              split
              · rename_i h
                rw [Nat.testBit_or, Nat.testBit_two_pow, h]
                congr 1
                rw [decide_eq_decide]
                omega
              · rename_i h
                have : decide ((t : Int) = (i : Int)) = false := by rw [decide_eq_false_iff_not]; omega
                rw [this, Bool.or_false]
            · rcases Nat.lt_succ_iff_lt_or_eq.1 hi with h | h
              · exact hw.2.2 i h
              · rw [h, HZ.out]; omega
          case measure => simp [intOf]; omega
        · by_cases hneg : z < 0
          · go_wp2
            go_ret2
            exact ⟨hb, .inr ⟨⟨k, by rw [hlen.out]; exact hlt, by rw [HZ.out]; exact hg⟩, rfl⟩⟩
          · have hbig : 4095 < z := by omega
            go_wp2
            go_ret2
            exact ⟨hb, .inr ⟨⟨k, by rw [hlen.out]; exact hlt, by rw [HZ.out]; exact hg⟩, rfl⟩⟩
      · obtain rfl : k = n1 := by omega
        have hres := hrow.out.is64 (f := f) (fun i hi => rfl) (fun i hi => hws.out.1 i) (by unfold maxLen; omega) hsr
        have HRes := Lib.hid hres
        clear hrow hres
        go_wp2_with (go_at_call 57; refine (rNormal_any _ _ _ _ _ HRes.out (by omega)).mono ?_; rintro e w' ⟨a', n', cap', rfl, h', hb'⟩)
        go_ret2
        have hlen := H1.out.len
        have hwo := hws.out
        refine ⟨hb.trans (hb'.mono hb.size), .inl ⟨fun i hi => hwo.2.2 i (by omega), nrm 64 f, a', n', cap', rfl, ⟨h'.1, h'.2.mono hb.size⟩, norm_nrm _ _, ?_, fun i => ?_⟩⟩
        · have := h'.1.len
          have h3 : (nrm 64 f).length = n' := this
          rw [nrm_len] at h3
          have := nlen_le (tab 64 f) 64
          omega
        · rw [hlen]
          unfold bit
          rw [wd_nrm]
          split
          · exact hwo.2.1 i (by omega)
          · rw [inL_good hwo.2.2 (by omega)]; simp
  · rw [HI.out.2.2.2]; decide
  · unfold maxLen; omega
end Go.Proofs.YtdeamdpoegdmdaaGreatDoor.S

/- Sets in normal form with the same elements are the same; the chapter's examples. -/
namespace Go.Proofs.YtdeamdpoegdmdaaGreatDoor.S
open Go.RowKit

theorem wd_of_bits {xs ys : List Nat} (bx : ∀ i, wd xs i < 18446744073709551616) (by_ : ∀ i, wd ys i < 18446744073709551616) (h : ∀ i, bit xs i = bit ys i) (k : Nat) : wd xs k = wd ys k := by
  apply Nat.eq_of_testBit_eq
  intro j
  by_cases hj : j < 64
  · have := h (64 * k + j)
    unfold bit at this
    rw [show (64 * k + j) / 64 = k by omega, show (64 * k + j) % 64 = j by omega] at this
    exact this
  · have hp : (18446744073709551616 : Nat) ≤ 2 ^ j := Nat.pow_le_pow_right (n := 2) (by decide) (show 64 ≤ j by omega)
    rw [Nat.testBit_lt_two_pow (Nat.lt_of_lt_of_le (bx k) hp), Nat.testBit_lt_two_pow (Nat.lt_of_lt_of_le (by_ k) hp)]

theorem norm_len {xs ys : List Nat} (hx : Norm xs) (h : ∀ i, wd xs i = wd ys i) : xs.length ≤ ys.length := by
  rcases Nat.lt_or_ge ys.length xs.length with hl | hl
  · have := hx (by omega)
    rw [h, wd_out _ _ (by omega)] at this
    exact absurd rfl this
  · exact hl

theorem set_ext {xs ys : List Nat} (hx : Norm xs) (hy : Norm ys) (bx : ∀ i, wd xs i < 18446744073709551616) (by_ : ∀ i, wd ys i < 18446744073709551616) (h : ∀ i, bit xs i = bit ys i) : xs = ys := by
  have hw := wd_of_bits bx by_ h
  refine ext_wd (Nat.le_antisymm (norm_len hx hw) (norm_len hy fun i => (hw i).symm)) fun i _ => hw i

/-- A slice that has just been built. -/
theorem built_int (w : World) (zs : List Int) (hb : ∀ z ∈ zs, -9223372036854775808 ≤ z ∧ z ≤ 9223372036854775807) (hl : zs.length ≤ 1000) :
    IsInt (w.alloc (.cells (ivals zs).toArray 3)) (some ⟨w.heap.size, 0, none⟩) zs.length zs.length zs := by
  refine ⟨rfl, Nat.le_refl _, by unfold maxLen; omega, fun i hi => ?_, fun _ => ⟨w.heap.size, 0, rfl, by simp, fun i hi => ?_⟩⟩
  · have : wi zs i = zs[i] := by simp [wi, List.getD_eq_getElem?_getD, List.getElem?_eq_getElem hi]
    rw [this]
    exact hb _ (List.getElem_mem _)
  · rw [Nat.zero_add, cell_of_row _ _ _ _ _ (0, 0) (heap_alloc_new w _)]
    simp [ivals, wi, List.getD_eq_getElem?_getD, List.getElem?_eq_getElem hi]
theorem built_64 (w : World) (ws : List Nat) (hb : ∀ i, i < ws.length → wd ws i < 18446744073709551616) (hl : ws.length ≤ 1000) :
    Is64 (w.alloc (.cells (uvals ws).toArray 37)) (some ⟨w.heap.size, 0, none⟩) ws.length ws.length ws := by
  refine ⟨rfl, Nat.le_refl _, by unfold maxLen; omega, hb, fun _ => ⟨w.heap.size, 0, rfl, by simp, fun i hi => ?_⟩, fun e => by cases e⟩
  rw [Nat.zero_add, cell_of_row _ _ _ _ _ (0, 0) (heap_alloc_new w _)]
  simpa using uvals_at ws i hi

/-- The call returns this set and no error. -/
def RetSet (ws : List Nat) (w : World) (e : Ending) (w' : World) : Prop :=
  ∃ a cap, e = .returned (.tuple #[.slice a ws.length cap, .int .i64 0]) ∧ Is64 w' a ws.length cap ws ∧ Below w.heap.size w w'

theorem OfPost.eq {zs : List Int} {ws : List Nat} {w w' : World} {e : Ending} (h : OfPost zs w e w') (hg : ∀ i, i < zs.length → 0 ≤ wi zs i ∧ wi zs i ≤ 4095) (hn : Norm ws) (hb : ∀ i, wd ws i < 18446744073709551616)
    (hbit : ∀ i, bit ws i = inL zs zs.length i) : RetSet ws w e w' := by
  obtain ⟨h1, ⟨_, ws', a, n, cap, he, h64, hn', hl, hb'⟩ | ⟨⟨i, hi, hbad⟩, _⟩⟩ := h
  · have : ws' = ws := set_ext hn' hn h64.1.lt hb fun i => (hb' i).trans (hbit i).symm
    subst this
    have hl := h64.1.len
    subst hl
    exact ⟨a, cap, he, h64.1, h1⟩
  · exact absurd (hg i hi) hbad

theorem ex_bits1 : ∀ i, bit [2, 64] i = inL [1, 70] 2 i := fun i => by
  by_cases h : i < 128
  · revert i; decide +kernel
  · rw [bit_out _ _ (by simp; omega)]
    simp [inL, wi]
    omega
theorem ex_bits2 : ∀ i, bit [0, 192] i = inL [71, 70] 2 i := fun i => by
  by_cases h : i < 128
  · revert i; decide +kernel
  · rw [bit_out _ _ (by simp; omega)]
    simp [inL, wi]
    omega
theorem wd_lt_of {ws : List Nat} (h : ∀ x ∈ ws, x < 18446744073709551616) (i : Nat) : wd ws i < 18446744073709551616 := by
  by_cases hi : i < ws.length
  · have : wd ws i = ws[i] := by simp [wd, List.getD_eq_getElem?_getD, List.getElem?_eq_getElem hi]
    rw [this]; exact h _ (List.getElem_mem _)
  · rw [wd_out _ _ (by omega)]; decide

theorem Of_ex1 (w : World) (a1 : Option Addr) (cap1 : Nat) (h1 : IsInt w a1 2 cap1 [1, 70]) :
    Calls Tryz.prog 82 #[.slice a1 2 cap1] w (RetSet [2, 64] w) :=
  (Of_any w a1 2 cap1 _ h1).mono fun e w' h => h.eq (by decide +kernel) (by unfold Norm; decide +kernel) (wd_lt_of (by decide)) ex_bits1
theorem Of_ex2 (w : World) (a1 : Option Addr) (cap1 : Nat) (h1 : IsInt w a1 2 cap1 [71, 70]) :
    Calls Tryz.prog 82 #[.slice a1 2 cap1] w (RetSet [0, 192] w) :=
  (Of_any w a1 2 cap1 _ h1).mono fun e w' h => h.eq (by decide +kernel) (by unfold Norm; decide +kernel) (wd_lt_of (by decide)) ex_bits2

theorem Ret64.eq {xs : List Nat} {w w' : World} {e : Ending} (ys : List Nat) (h : Ret64 xs w e w') (hx : xs = ys) : ∃ a cap, e = .returned (.slice a ys.length cap) ∧ Is64 w' a ys.length cap ys ∧ Below w.heap.size w w' := by
  subst hx
  obtain ⟨a, n, cap, he, h1, h2⟩ := h
  have := h1.1.len
  subst this
  exact ⟨a, cap, he, h1.1, h2⟩
theorem Ret64.eqF {xs : List Nat} {w w' : World} {e : Ending} (ys : List Nat) (h : Ret64 xs w e w') (hx : xs = ys) : ∃ a cap, e = .returned (.slice a ys.length cap) ∧ Is64 w' a ys.length cap ys ∧ Fresh w.heap.size a ∧ Below w.heap.size w w' := by
  subst hx
  obtain ⟨a, n, cap, he, h1, h2⟩ := h
  have := h1.1.len
  subst this
  exact ⟨a, cap, he, h1.1, h1.2, h2⟩
theorem RetI.eq {xs : List Int} {w w' : World} {e : Ending} (ys : List Int) (h : RetI xs w e w') (hx : xs = ys) : ∃ a cap, e = .returned (.slice a ys.length cap) ∧ IsInt w' a ys.length cap ys ∧ Below w.heap.size w w' := by
  subst hx
  obtain ⟨a, n, cap, he, h1, h2⟩ := h
  have := h1.len
  subst this
  exact ⟨a, cap, he, h1, h2⟩

theorem Same_val (b : Bool) (w : World) (a1 a2 : Option Addr) (n1 n2 cap1 cap2 : Nat) (xs ys : List Nat) (h1 : Is64 w a1 n1 cap1 xs) (h2 : Is64 w a2 n2 cap2 ys) (hb : sameB xs ys = b) :
    Calls Tryz.prog 54 #[.slice a1 n1 cap1, .slice a2 n2 cap2] w fun e w' => e = .returned (.bool b) ∧ Below w.heap.size w w' := hb ▸ Same_any w a1 a2 n1 n2 cap1 cap2 xs ys h1 h2
theorem SameInts_val (b : Bool) (w : World) (a1 a2 : Option Addr) (n1 n2 cap1 cap2 : Nat) (xs ys : List Int) (h1 : IsInt w a1 n1 cap1 xs) (h2 : IsInt w a2 n2 cap2 ys) (hb : sameI xs ys = b) :
    Calls Tryz.prog 26 #[.slice a1 n1 cap1, .slice a2 n2 cap2] w fun e w' => e = .returned (.bool b) ∧ Below w.heap.size w w' := hb ▸ SameInts_any w a1 a2 n1 n2 cap1 cap2 xs ys h1 h2
theorem Count_val (c : Nat) (w : World) (a1 : Option Addr) (n1 cap1 : Nat) (xs : List Nat) (h1 : Is64 w a1 n1 cap1 xs) (s1 : n1 ≤ 1000000) (hc : cnt xs n1 = c) :
    Calls Tryz.prog 30 #[.slice a1 n1 cap1] w fun e w' => e = .returned (.int .i64 (c : Int)) ∧ w = w' := hc ▸ Count_any w a1 n1 cap1 xs h1 s1
theorem Equal_val (b : Bool) (w : World) (a1 a2 : Option Addr) (n1 n2 cap1 cap2 : Nat) (xs ys : List Nat) (h1 : Is64 w a1 n1 cap1 xs) (h2 : Is64 w a2 n2 cap2 ys) (hb : (subB n1 xs ys && subB n2 ys xs) = b) :
    Calls Tryz.prog 31 #[.slice a1 n1 cap1, .slice a2 n2 cap2] w fun e w' => e = .returned (.bool b) ∧ w = w' := hb ▸ Equal_any w a1 a2 n1 n2 cap1 cap2 xs ys h1 h2

end Go.Proofs.YtdeamdpoegdmdaaGreatDoor.S

/- The laws of sets, on lists of words; the contracts in that spelling. -/
namespace Go.Proofs.YtdeamdpoegdmdaaGreatDoor.S
open Go.RowKit

def WB (xs : List Nat) : Prop := ∀ i, wd xs i < 18446744073709551616
def SAnd (xs ys : List Nat) : List Nat := nrm (min xs.length ys.length) (andF xs ys)
def SOr (xs ys : List Nat) : List Nat := nrm (max xs.length ys.length) (orF xs ys)
def SMinus (xs ys : List Nat) : List Nat := nrm xs.length (minF xs ys)

theorem nrm_le (m : Nat) (f : Nat → Nat) : (nrm m f).length ≤ m := by rw [nrm_len]; exact nlen_le _ _
theorem SAnd_le {xs ys : List Nat} (h : xs.length ≤ 80) : (SAnd xs ys).length ≤ 80 := by have := nrm_le (min xs.length ys.length) (andF xs ys); unfold SAnd; omega
theorem SOr_le {xs ys : List Nat} (h : xs.length ≤ 80) (h' : ys.length ≤ 80) : (SOr xs ys).length ≤ 80 := by have := nrm_le (max xs.length ys.length) (orF xs ys); unfold SOr; omega
theorem SMinus_le {xs ys : List Nat} (h : xs.length ≤ 80) : (SMinus xs ys).length ≤ 80 := by have := nrm_le xs.length (minF xs ys); unfold SMinus; omega

theorem wd_SAnd (xs ys : List Nat) (i : Nat) : wd (SAnd xs ys) i = wd xs i &&& wd ys i := by
  unfold SAnd
  rw [wd_nrm]
  split
  · rfl
  · rcases Nat.lt_or_ge i xs.length with h | h
    · rw [wd_out ys i (by omega)]; simp
    · rw [wd_out xs i (by omega)]; simp
theorem wd_SOr (xs ys : List Nat) (i : Nat) : wd (SOr xs ys) i = wd xs i ||| wd ys i := by
  unfold SOr
  rw [wd_nrm]
  split
  · rfl
  · rw [wd_out ys i (by omega), wd_out xs i (by omega)]; rfl
theorem wd_SMinus (xs ys : List Nat) (i : Nat) : wd (SMinus xs ys) i = nat_not (wd xs i) (wd ys i) := by
  unfold SMinus
  rw [wd_nrm]
  split
  · rfl
  · rw [wd_out xs i (by omega)]; simp [nat_not]

theorem WB.and {xs ys : List Nat} (h : WB xs) : WB (SAnd xs ys) := fun i => by rw [wd_SAnd]; exact and_lt (h i)
theorem WB.or {xs ys : List Nat} (h : WB xs) (h' : WB ys) : WB (SOr xs ys) := fun i => by rw [wd_SOr]; exact or_lt (h i) (h' i)
theorem WB.minus {xs ys : List Nat} (h : WB xs) : WB (SMinus xs ys) := fun i => by rw [wd_SMinus]; exact not_lt' (h i)

theorem bit_SAnd (xs ys : List Nat) (i : Nat) : bit (SAnd xs ys) i = (bit xs i && bit ys i) := by
  unfold bit; rw [wd_SAnd, Nat.testBit_and]
theorem bit_SOr (xs ys : List Nat) (i : Nat) : bit (SOr xs ys) i = (bit xs i || bit ys i) := by
  unfold bit; rw [wd_SOr, Nat.testBit_or]
theorem testBit_not {a b j : Nat} (hb : b < 18446744073709551616) (hj : j < 64) : (nat_not a b).testBit j = (a.testBit j && !b.testBit j) := by
  unfold nat_not
  rw [Nat.testBit_and, show 18446744073709551615 - b = 2 ^ 64 - (b + 1) by omega, Nat.testBit_two_pow_sub_succ hb]
  simp [hj]
theorem bit_SMinus {xs ys : List Nat} (h : WB ys) (i : Nat) : bit (SMinus xs ys) i = (bit xs i && !bit ys i) := by
  unfold bit; rw [wd_SMinus, testBit_not (h _) (Nat.mod_lt _ (by decide))]

theorem nAnd (xs ys : List Nat) : Norm (SAnd xs ys) := norm_nrm _ _
theorem nOr (xs ys : List Nat) : Norm (SOr xs ys) := norm_nrm _ _
theorem nMinus (xs ys : List Nat) : Norm (SMinus xs ys) := norm_nrm _ _

theorem same_of {xs ys : List Nat} (hx : Norm xs) (hy : Norm ys) (bx : WB xs) (by_ : WB ys) (h : ∀ i, bit xs i = bit ys i) : sameB xs ys = true := by
  simp only [sameB, decide_eq_true_eq]; exact set_ext hx hy bx by_ h

theorem sub_of {xs ys : List Nat} (hx : WB xs) (hy : WB ys) (n : Nat) (h : ∀ i, bit xs i = true → bit ys i = true) : subB n xs ys = true := by
  refine subB_true fun k _ => ?_
  apply Nat.eq_of_testBit_eq
  intro j
  rw [Nat.zero_testBit]
  by_cases hj : j < 64
  · rw [testBit_not (hy _) hj]
    have := h (64 * k + j)
    unfold bit at this
    rw [show (64 * k + j) / 64 = k by omega, show (64 * k + j) % 64 = j by omega] at this
    cases hb : (wd xs k).testBit j
    · simp
    · rw [this hb]; simp
  · exact Nat.testBit_lt_two_pow (Nat.lt_of_lt_of_le (not_lt' (hx k)) (Nat.pow_le_pow_right (n := 2) (by decide) (show 64 ≤ j by omega)))

theorem eq_of {xs ys : List Nat} (hx : WB xs) (hy : WB ys) (h : ∀ i, bit xs i = bit ys i) : (subB xs.length xs ys && subB ys.length ys xs) = true := by
  rw [sub_of hx hy _ (fun i hi => by rw [← h i]; exact hi), sub_of hy hx _ (fun i hi => by rw [h i]; exact hi)]; rfl

theorem filter_sum {α : Type} (p q : α → Bool) : ∀ l : List α, (l.filter fun x => p x || q x).length + (l.filter fun x => p x && q x).length = (l.filter p).length + (l.filter q).length
  | [] => rfl
  | a :: l => by
    have ih := filter_sum p q l
    cases hp : p a <;> cases hq : q a <;> simp [List.filter_cons, hp, hq] <;> omega

theorem lst_more (xs : List Nat) (k d : Nat) (h : 64 * xs.length ≤ k) : lst xs (k + d) = lst xs k := by
  induction d with
  | zero => rfl
  | succ d ih =>
    rw [← Nat.add_assoc, lst_no (bit_out _ _ (by omega)), ih]

theorem cnt_all {xs : List Nat} (hb : WB xs) (h : xs.length ≤ 80) : cnt xs xs.length = (lst xs 5120).length := by
  rw [cnt_lst xs hb, ← lst_more xs (64 * xs.length) (5120 - 64 * xs.length) (Nat.le_refl _)]
  congr 2
  omega
theorem cnt_sum {xs ys : List Nat} (hx : WB xs) (hy : WB ys) (lx : xs.length ≤ 80) (ly : ys.length ≤ 80) :
    cnt (SOr xs ys) (SOr xs ys).length + cnt (SAnd xs ys) (SAnd xs ys).length = cnt xs xs.length + cnt ys ys.length := by
  rw [cnt_all (hx.or hy) (SOr_le lx ly), cnt_all hx.and (SAnd_le lx), cnt_all hx lx, cnt_all hy ly]
  have := filter_sum (bit xs) (bit ys) (List.range 5120)
  unfold lst
  rw [show bit (SOr xs ys) = fun i => bit xs i || bit ys i from funext (bit_SOr xs ys), show bit (SAnd xs ys) = fun i => bit xs i && bit ys i from funext (bit_SAnd xs ys)]
  exact this

/-- A slice that reads as a short list; its length is the list's. -/
def L64 (w : World) (a : Option Addr) (cap : Nat) (xs : List Nat) : Prop := Is64 w a xs.length cap xs ∧ xs.length ≤ 80
theorem L64.wb {w : World} {a : Option Addr} {cap : Nat} {xs : List Nat} (h : L64 w a cap xs) : WB xs := h.1.lt
theorem L64.below {w w' : World} {a : Option Addr} {cap : Nat} {xs : List Nat} (h : L64 w a cap xs) (hb : Below w.heap.size w w') : L64 w' a cap xs := ⟨h.1.below hb, h.2⟩
theorem L64.nil_len {w : World} {a : Option Addr} {cap : Nat} {xs : List Nat} (h : L64 w a cap xs) : xs.length ≤ 80 := h.2

def RetL (xs : List Nat) (w : World) (e : Ending) (w' : World) : Prop :=
  ∃ a cap, e = .returned (.slice a xs.length cap) ∧ L64 w' a cap xs ∧ Below w.heap.size w w'
theorem Ret64.l {xs : List Nat} {w w' : World} {e : Ending} (h : Ret64 xs w e w') (hl : xs.length ≤ 80) : RetL xs w e w' := by
  obtain ⟨a, cap, he, h1, h2⟩ := h.eq xs rfl
  exact ⟨a, cap, he, ⟨h1, hl⟩, h2⟩

section
variable {w : World} {a1 a2 : Option Addr} {cap1 cap2 : Nat} {xs ys : List Nat} (h1 : L64 w a1 cap1 xs) (h2 : L64 w a2 cap2 ys)
include h1 h2
theorem And_l : Calls Tryz.prog 29 #[.slice a1 xs.length cap1, .slice a2 ys.length cap2] w (RetL (SAnd xs ys) w) :=
  (And_any w a1 a2 _ _ cap1 cap2 xs ys h1.1 h2.1 (by have := h1.2; omega) (by have := h2.2; omega)).mono fun _ _ h => Ret64.l h (SAnd_le h1.2)
theorem Or_l : Calls Tryz.prog 83 #[.slice a1 xs.length cap1, .slice a2 ys.length cap2] w (RetL (SOr xs ys) w) :=
  (Or_any w a1 a2 _ _ cap1 cap2 xs ys h1.1 h2.1 (by have := h1.2; omega) (by have := h2.2; omega)).mono fun _ _ h => Ret64.l h (SOr_le h1.2 h2.2)
theorem rAnd_l : Calls Tryz.prog 58 #[.slice a1 xs.length cap1, .slice a2 ys.length cap2] w (RetL (SAnd xs ys) w) :=
  (rAnd_any w a1 a2 _ _ cap1 cap2 xs ys h1.1 h2.1 (by have := h1.2; omega) (by have := h2.2; omega)).mono fun e w' h => by
    have e1 : nrm xs.length (andF xs ys) = SAnd xs ys := by
      refine ext_wd (Nat.le_antisymm (norm_len (norm_nrm _ _) fun i => ?_) (norm_len (nAnd _ _) fun i => ?_)) fun i _ => ?_
      all_goals
        rw [wd_SAnd, wd_nrm]
        split
        · rfl
        · rw [wd_out xs i (by omega)]; simp
    rw [e1] at h
    exact Ret64.l h (SAnd_le h1.2)
theorem rOr_l : Calls Tryz.prog 59 #[.slice a1 xs.length cap1, .slice a2 ys.length cap2] w (RetL (SOr xs ys) w) :=
  (rOr_any w a1 a2 _ _ cap1 cap2 xs ys h1.1 h2.1 (by have := h1.2; omega) (by have := h2.2; omega)).mono fun _ _ h => Ret64.l h (SOr_le h1.2 h2.2)
theorem rMinus_l : Calls Tryz.prog 101 #[.slice a1 xs.length cap1, .slice a2 ys.length cap2] w (RetL (SMinus xs ys) w) :=
  (rMinus_any w a1 a2 _ _ cap1 cap2 xs ys h1.1 h2.1 (by have := h1.2; omega) (by have := h2.2; omega)).mono fun _ _ h => Ret64.l h (SMinus_le h1.2)
theorem Same_l (hs : sameB xs ys = true) : Calls Tryz.prog 54 #[.slice a1 xs.length cap1, .slice a2 ys.length cap2] w fun e w' => e = .returned (.bool true) ∧ Below w.heap.size w w' :=
  Same_val true w a1 a2 _ _ cap1 cap2 xs ys h1.1 h2.1 hs
theorem Equal_l (hs : (subB xs.length xs ys && subB ys.length ys xs) = true) : Calls Tryz.prog 31 #[.slice a1 xs.length cap1, .slice a2 ys.length cap2] w fun e w' => e = .returned (.bool true) ∧ w = w' :=
  Equal_val true w a1 a2 _ _ cap1 cap2 xs ys h1.1 h2.1 hs
end
end Go.Proofs.YtdeamdpoegdmdaaGreatDoor.S

namespace Go.Proofs.YtdeamdpoegdmdaaGreatDoor
/-! An algebra of sets: what the family needs. -/
structure Alg (S : Type) where
  ok : S → Prop
  i : S → S → S
  e : S
  ok_i : ∀ {a b}, ok a → ok b → ok (i a b)
  assoc : ∀ {a b c}, ok a → ok b → ok c → i (i a b) c = i a (i b c)
  comm : ∀ {a b}, ok a → ok b → i a b = i b a
  idem : ∀ {a}, ok a → i a a = a
  zero : ∀ {a}, ok a → i e a = e

inductive Fam {S : Type} (A : Alg S) (C : List S) : S → Prop
  | base {c : S} : c ∈ C → Fam A C c
  | inter {a b : S} : Fam A C a → Fam A C b → A.i a b ≠ A.e → Fam A C (A.i a b)

structure Sets {S : Type} (A : Alg S) (C : List S) : Prop where
  ok : ∀ c ∈ C, A.ok c
  ne : ∀ c ∈ C, c ≠ A.e

theorem Fam.ok {S : Type} {A : Alg S} {C : List S} (hC : Sets A C) {f : S} (h : Fam A C f) : A.ok f := by
  induction h with
  | base h => exact hC.ok _ h
  | inter _ _ _ h1 h2 => exact A.ok_i h1 h2

theorem Fam.ne {S : Type} {A : Alg S} {C : List S} (hC : Sets A C) {f : S} (h : Fam A C f) : f ≠ A.e := by
  cases h with
  | base h => exact hC.ne _ h
  | inter _ _ h => exact h

/-- A list that holds the given sets, and with each of its sets the intersections with the given ones. -/
theorem fam_into {S : Type} {A : Alg S} {C L : List S} (hC : Sets A C) (hL : ∀ l ∈ L, A.ok l) (hb : ∀ c ∈ C, c ∈ L)
    (hcl : ∀ l ∈ L, ∀ c ∈ C, A.i l c = A.e ∨ A.i l c ∈ L) : ∀ {f : S}, Fam A C f → f ∈ L := by
  have key : ∀ {f : S}, Fam A C f → ∀ l ∈ L, A.i l f = A.e ∨ A.i l f ∈ L := by
    intro f hf
    induction hf with
    | base h => exact fun l hl => hcl l hl _ h
    | @inter a b ha hb' _ iha ihb =>
      intro l hl
      rw [← A.assoc (hL l hl) (ha.ok hC) (hb'.ok hC)]
      rcases iha l hl with e | m
      · left; rw [e]; exact A.zero (hb'.ok hC)
      · exact ihb _ m
  intro f hf
  induction hf with
  | base h => exact hb _ h
  | @inter a b ha hb' hne iha _ =>
    rcases key hb' a iha with e | m
    · exact absurd e hne
    · exact m

/-- The same for a list whose pairs are all there. -/
theorem fam_pairs {S : Type} {A : Alg S} {C L : List S} (hC : Sets A C) (hL : ∀ l ∈ L, A.ok l) (hb : ∀ c ∈ C, c ∈ L)
    (hp : ∀ (i k : Nat) (a b : S), k < i → L[i]? = some a → L[k]? = some b → A.i a b = A.e ∨ A.i a b ∈ L) : ∀ {f : S}, Fam A C f → f ∈ L := by
  refine fam_into hC hL hb fun l hl c hc => ?_
  obtain ⟨i, hi⟩ := List.getElem?_of_mem hl
  obtain ⟨k, hk⟩ := List.getElem?_of_mem (hb c hc)
  rcases Nat.lt_trichotomy k i with h | h | h
  · exact hp i k l c h hi hk
  · subst h
    rw [hi] at hk; cases hk
    right; rw [A.idem (hL l hl)]; exact hl
  · have := hp k i c l h hk hi
    rw [A.comm (hL l hl) (hC.ok c hc)]; exact this

/-! The family as a list. -/
def addS {S : Type} [DecidableEq S] (A : Alg S) (acc : List S) (x : S) : List S := if x = A.e ∨ x ∈ acc then acc else acc ++ [x]
def stepS {S : Type} [DecidableEq S] (A : Alg S) (acc : List S) (c : S) : List S := (c :: acc.map fun a => A.i a c).foldl (addS A) acc
def famL {S : Type} [DecidableEq S] (A : Alg S) (C : List S) : List S := C.foldl (stepS A) []

theorem addS_all {S : Type} [DecidableEq S] (A : Alg S) : ∀ (xs acc : List S),
    (∀ x, x ∈ xs.foldl (addS A) acc ↔ x ∈ acc ∨ (x ∈ xs ∧ x ≠ A.e)) ∧ (acc.Nodup → (xs.foldl (addS A) acc).Nodup)
  | [], acc => ⟨fun x => by simp, fun h => h⟩
  | y :: xs, acc => by
    obtain ⟨h1, h2⟩ := addS_all A xs (addS A acc y)
    have hm : ∀ x, x ∈ addS A acc y ↔ x ∈ acc ∨ (x = y ∧ x ≠ A.e) := by
      intro x
      unfold addS
      split
      · rename_i h
        constructor
        · exact .inl
        · rintro (h' | ⟨rfl, h'⟩)
          · exact h'
          · exact h.resolve_left h'
      · rename_i h
        rw [not_or] at h
        rw [List.mem_append, List.mem_singleton]
        constructor
        · rintro (h' | rfl)
          · exact .inl h'
          · exact .inr ⟨rfl, h.1⟩
        · rintro (h' | ⟨rfl, _⟩)
          · exact .inl h'
          · exact .inr rfl
    refine ⟨fun x => ?_, fun hn => ?_⟩
    · show x ∈ xs.foldl (addS A) (addS A acc y) ↔ _
      rw [h1, hm, List.mem_cons]
      constructor
      · rintro ((h | ⟨h, h'⟩) | ⟨h, h'⟩)
        · exact .inl h
        · exact .inr ⟨.inl h, h'⟩
        · exact .inr ⟨.inr h, h'⟩
      · rintro (h | ⟨h | h, h'⟩)
        · exact .inl (.inl h)
        · exact .inl (.inr ⟨h, h'⟩)
        · exact .inr ⟨h, h'⟩
    · refine h2 ?_
      unfold addS
      split
      · exact hn
      · rename_i h
        rw [not_or] at h
        rw [List.nodup_append]
        refine ⟨hn, by simp, ?_⟩
        intro a ha b hb
        rw [List.mem_singleton] at hb
        subst hb
        rintro rfl
        exact h.2 ha

theorem fam_mono {S : Type} {A : Alg S} {C C' : List S} (h : ∀ c ∈ C, c ∈ C') {f : S} (hf : Fam A C f) : Fam A C' f := by
  induction hf with
  | base hc => exact .base (h _ hc)
  | inter _ _ hne h1 h2 => exact .inter h1 h2 hne

theorem fam_snoc {S : Type} {A : Alg S} {C : List S} {c : S} (hC : Sets A (C ++ [c])) {x : S} :
    Fam A (C ++ [c]) x ↔ Fam A C x ∨ x = c ∨ ∃ a, Fam A C a ∧ x = A.i a c ∧ x ≠ A.e := by
  have hc : A.ok c := hC.ok c (by simp)
  have hC' : Sets A C := ⟨fun d hd => hC.ok d (by simp [hd]), fun d hd => hC.ne d (by simp [hd])⟩
  constructor
  · intro h
    induction h with
    | @base d hd =>
      rcases List.mem_append.1 hd with h | h
      · exact .inl (.base h)
      · exact .inr (.inl (by simpa using h))
    | @inter a b _ _ hne iha ihb =>
      have two : ∀ {u v : S}, Fam A C u → Fam A C v → A.i u v ≠ A.e → Fam A C (A.i u v) := fun hu hv h => .inter hu hv h
      rcases iha with ha | rfl | ⟨a', ha, rfl, hae⟩
      · rcases ihb with hb | rfl | ⟨b', hb, rfl, hbe⟩
        · exact .inl (two ha hb hne)
        · exact .inr (.inr ⟨a, ha, rfl, hne⟩)
        · have e : A.i a (A.i b' c) = A.i (A.i a b') c := (A.assoc (ha.ok hC') (hb.ok hC') hc).symm
          rw [e] at hne ⊢
          exact .inr (.inr ⟨_, two ha hb (fun h => hne (by rw [h]; exact A.zero hc)), rfl, hne⟩)
      · rcases ihb with hb | rfl | ⟨b', hb, rfl, hbe⟩
        · have e := A.comm hc (hb.ok hC')
          rw [e] at hne ⊢
          exact .inr (.inr ⟨b, hb, rfl, hne⟩)
        · exact .inr (.inl (A.idem hc))
        · have e : A.i a (A.i b' a) = A.i b' a := by
            rw [A.comm hc (A.ok_i (hb.ok hC') hc), A.assoc (hb.ok hC') hc hc, A.idem hc]
          rw [e] at hne ⊢
          exact .inr (.inr ⟨b', hb, rfl, hbe⟩)
      · have oka := ha.ok hC'
        rcases ihb with hb | rfl | ⟨b', hb, rfl, hbe⟩
        · have e : A.i (A.i a' c) b = A.i (A.i a' b) c := by
            rw [A.assoc oka hc (hb.ok hC'), A.comm hc (hb.ok hC'), ← A.assoc oka (hb.ok hC') hc]
          rw [e] at hne ⊢
          exact .inr (.inr ⟨_, two ha hb (fun h => hne (by rw [h]; exact A.zero hc)), rfl, hne⟩)
        · have e : A.i (A.i a' b) b = A.i a' b := by rw [A.assoc oka hc hc, A.idem hc]
          rw [e] at hne ⊢
          exact .inr (.inr ⟨a', ha, rfl, hae⟩)
        · have okb := hb.ok hC'
          have e : A.i (A.i a' c) (A.i b' c) = A.i (A.i a' b') c := by
            rw [A.assoc oka hc (A.ok_i okb hc), A.comm hc (A.ok_i okb hc), A.assoc okb hc hc, A.idem hc, ← A.assoc oka okb hc]
          rw [e] at hne ⊢
          exact .inr (.inr ⟨_, two ha hb (fun h => hne (by rw [h]; exact A.zero hc)), rfl, hne⟩)
  · have up : ∀ {u : S}, Fam A C u → Fam A (C ++ [c]) u := fun h => fam_mono (fun d hd => by simp [hd]) h
    have hcc : Fam A (C ++ [c]) c := .base (by simp)
    rintro (h | rfl | ⟨a, ha, rfl, hne⟩)
    · exact up h
    · exact hcc
    · exact .inter (up ha) hcc hne

theorem famL_spec {S : Type} [DecidableEq S] (A : Alg S) : ∀ (C : List S), Sets A C → (∀ x, x ∈ famL A C ↔ Fam A C x) ∧ (famL A C).Nodup := by
  have aux : ∀ (R : List S), Sets A R.reverse → (∀ x, x ∈ famL A R.reverse ↔ Fam A R.reverse x) ∧ (famL A R.reverse).Nodup := by
    intro R
    induction R with
    | nil =>
      intro _
      refine ⟨fun x => ⟨(fun h => by cases h), fun h => ?_⟩, List.nodup_nil⟩
      exfalso
      induction h with
      | base h => cases h
      | inter _ _ _ h _ => exact h
    | cons c R ih =>
      intro hC
      rw [List.reverse_cons] at hC ⊢
      have hC' : Sets A R.reverse := ⟨fun d hd => hC.ok d (List.mem_append.2 (.inl hd)), fun d hd => hC.ne d (List.mem_append.2 (.inl hd))⟩
      obtain ⟨h1, h2⟩ := ih hC'
      have hne : c ≠ A.e := hC.ne c (by simp)
      have e : famL A (R.reverse ++ [c]) = stepS A (famL A R.reverse) c := by unfold famL; rw [List.foldl_append]; rfl
      obtain ⟨g1, g2⟩ := addS_all A (c :: (famL A R.reverse).map fun a => A.i a c) (famL A R.reverse)
      refine ⟨fun x => ?_, ?_⟩
      · rw [e, fam_snoc hC]
        unfold stepS
        rw [g1, h1, List.mem_cons, List.mem_map]
        constructor
        · rintro (h | ⟨rfl | ⟨a, ha, rfl⟩, hx⟩)
          · exact .inl h
          · exact .inr (.inl rfl)
          · exact .inr (.inr ⟨a, (h1 a).1 ha, rfl, hx⟩)
        · rintro (h | rfl | ⟨a, ha, rfl, hx⟩)
          · exact .inl h
          · exact .inr ⟨.inl rfl, hne⟩
          · exact .inr ⟨.inr ⟨a, (h1 a).2 ha, rfl⟩, hx⟩
      · rw [e]; unfold stepS; exact g2 h2
  intro C hC
  have := aux C.reverse
  rw [List.reverse_reverse] at this
  exact this hC

/-- Two lists of one relation. -/
theorem pair_ext {α : Type} {R : α → α → Prop} (has : ∀ x y, R x y → ¬ R y x) : ∀ {a b : List α}, a.Pairwise R → b.Pairwise R → (∀ x, x ∈ a ↔ x ∈ b) → a = b
  | [], [], _, _, _ => rfl
  | [], y :: b, _, _, h => by have := (h y).2 (List.mem_cons_self ..); cases this
  | x :: a, [], _, _, h => by have := (h x).1 (List.mem_cons_self ..); cases this
  | x :: a, y :: b, ha, hb, h => by
    obtain ⟨ha1, ha2⟩ := List.pairwise_cons.1 ha
    obtain ⟨hb1, hb2⟩ := List.pairwise_cons.1 hb
    have irr : ∀ z, ¬ R z z := fun z hz => has z z hz hz
    have hxy : x = y := by
      rcases List.mem_cons.1 ((h x).1 (List.mem_cons_self ..)) with e | e
      · exact e
      rcases List.mem_cons.1 ((h y).2 (List.mem_cons_self ..)) with e' | e'
      · exact e'.symm
      exact absurd (hb1 x e) (has _ _ (ha1 y e'))
    subst hxy
    rw [pair_ext has ha2 hb2 fun z => ?_]
    constructor
    · intro hz
      rcases List.mem_cons.1 ((h z).1 (List.mem_cons_of_mem _ hz)) with e | e
      · subst e; exact absurd (ha1 z hz) (irr z)
      · exact e
    · intro hz
      rcases List.mem_cons.1 ((h z).2 (List.mem_cons_of_mem _ hz)) with e | e
      · subst e; exact absurd (hb1 z hz) (irr z)
      · exact e
end Go.Proofs.YtdeamdpoegdmdaaGreatDoor
