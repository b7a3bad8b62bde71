/- Walks of package poset: sorted. -/
import Derived.Test.YtmhbblehgckelaaPw
namespace Go.Proofs.Ytmhbblehgckelaa
open Go.RowKit Go.Maps

/-- The rows that one call grows, apart from each other. -/
def Apart (u v : Value) : Prop := ∀ g, u.ownBlock = some g → v.ownBlock ≠ some g
theorem Apart.symm {u v : Value} (h : Apart u v) : Apart v u := fun g e e2 => h g e2 e
theorem Apart.kept {u v : Value} (h : Apart u v) : u.ownBlock = none ∨ u.ownBlock ≠ v.ownBlock := by
  cases e : u.ownBlock with
  | none => exact .inl rfl
  | some g => exact .inr fun e2 => h g e e2.symm
theorem owns_kept_map {w w' : World} {B n mb : Nat} {v : Value} {zs : List Value} (h : w.ownsRow B 9 1 v n zs) (hg : w.grownBy w' (some mb)) (hB : mb < B) : w'.ownsRow B 9 1 v n zs :=
  h.kept hg (by
    cases e : v.ownBlock with
    | none => exact .inl rfl
    | some g =>
      refine .inr fun e2 => ?_
      have := (h.lt g e).1
      cases e2; omega)
theorem map_kept_row {w w' : World} {B n mb k : Nat} {v : Value} {zs : List Value} {M : DataW Value} (h : w.ownsMap Try.prog 9 raw mb k M) (hr : w.ownsRow B 9 1 v n zs) (hg : w.grownBy w' v.ownBlock) (hB : mb < B) : w'.ownsMap Try.prog 9 raw mb k M :=
  h.kept hg (fun e => by have := (hr.lt _ e.symm).1; omega)
/-- What the first loop has laid: the counters of the first k names, and those that are ready. -/
structure First (D : List Dec) (k : Nat) (M : DataW Value) (rd : List Str) : Prop where
  has : ∀ x, mhas M x = inS ((nms D).take k) x
  get : ∀ x, x ∈ (nms D).take k → mget M x (.int .i64 0) = .int .i64 (((up D x).length : Nat) : Int)
  nodup : rd.Nodup
  mem : ∀ x, x ∈ rd ↔ x ∈ (nms D).take k ∧ (up D x).length = 0
theorem First.start (D : List Dec) : First D 0 (.map []) [] :=
  ⟨fun x => rfl, (fun x hx => by rw [List.take_zero] at hx; cases hx), List.nodup_nil, fun x => by rw [List.take_zero]; simp⟩
theorem First.step {D : List Dec} (ok : Ok D) {k : Nat} (hk : k < D.length) {M : DataW Value} {rd : List Str} (him : IsMap M) (h : First D k M rd) :
    First D (k + 1) (mput M (dc D k).name (.int .i64 (((dc D k).sup.length : Nat) : Int))) (if (dc D k).sup.length = 0 then rd ++ [(dc D k).name] else rd) := by
  have hu := up_of ok.nodup (dc_mem hk)
  have hs := nms_succ hk
  have hnot : (dc D k).name ∉ (nms D).take k := by
    have : ((nms D).take (k + 1)).Nodup := ok.nodup.sublist (List.take_sublist _ _)
    rw [hs, List.nodup_append] at this
    exact fun hm => this.2.2 _ hm _ (by simp) rfl
  refine ⟨fun x => by rw [mhas_put him, h.has, hs, inS_snoc], fun x hx => ?_, ?_, fun x => ?_⟩
  · rw [mget_put him]
    by_cases e : x = (dc D k).name
    · rw [if_pos e, e, hu]
    · rw [if_neg e]
      refine h.get x ?_
      rw [hs, List.mem_append, List.mem_singleton] at hx
      exact hx.resolve_right e
  · split
    · rw [List.nodup_append]
      refine ⟨h.nodup, by simp, fun a ha b hb e => ?_⟩
      simp at hb
      subst hb
      exact hnot (e ▸ ((h.mem a).1 ha).1)
    · exact h.nodup
  · rw [hs, List.mem_append, List.mem_singleton]
    by_cases h0 : (dc D k).sup.length = 0
    · rw [if_pos h0, List.mem_append, List.mem_singleton, h.mem]
      constructor
      · rintro (⟨a, b⟩ | a)
        · exact ⟨.inl a, b⟩
        · rw [a]; exact ⟨.inr rfl, by rw [hu]; exact h0⟩
      · rintro ⟨a | a, b⟩
        · exact .inl ⟨a, b⟩
        · exact .inr a
    · rw [if_neg h0, h.mem]
      constructor
      · rintro ⟨a, b⟩; exact ⟨.inl a, b⟩
      · rintro ⟨a | a, b⟩
        · exact ⟨a, b⟩
        · rw [a, hu] at b; exact absurd b h0
/-- What the second loop keeps. -/
structure Second (D : List Dec) (out : List Str) (M : DataW Value) (rd : List Str) : Prop where
  plc : Plc D out
  has : ∀ x, x ∈ nms D → mhas M x = true
  get : ∀ x, x ∈ nms D → mget M x (.int .i64 0) = .int .i64 ((cnt D out x : Nat) : Int)
  nodup : rd.Nodup
  mem : ∀ x, x ∈ rd ↔ may D out x
theorem First.second {D : List Dec} {M : DataW Value} {rd : List Str} (h : First D D.length M rd) : Second D [] M rd := by
  have hall : (nms D).take D.length = nms D := List.take_of_length_le (by rw [nms_len]; exact Nat.le_refl _)
  refine ⟨.nil, fun x hx => by rw [h.has, hall]; exact inS_iff.2 hx, fun x hx => by rw [h.get x (by rw [hall]; exact hx), cnt_nil], h.nodup, fun x => ?_⟩
  rw [h.mem, hall]
  constructor
  · rintro ⟨a, b⟩
    exact ⟨a, by simp, fun s hs => by rw [List.eq_nil_of_length_eq_zero b] at hs; cases hs⟩
  · rintro ⟨a, _, c⟩
    refine ⟨a, ?_⟩
    cases hu : up D x with
    | nil => rfl
    | cons s l => have := c s (by rw [hu]; simp); cases this
theorem Second.sub {D : List Dec} {out : List Str} {M : DataW Value} {rd : List Str} (h : Second D out M rd) : ∀ x ∈ rd, x ∈ nms D := fun x hx => ((h.mem x).1 hx).1
theorem Second.len {D : List Dec} {out : List Str} {M : DataW Value} {rd : List Str} (h : Second D out M rd) : rd.length ≤ D.length := by
  have := nodup_len h.nodup h.sub
  rwa [nms_len] at this
theorem Rdy.sub {D : List Dec} {out rd : List Str} {y : Str} {j : Nat} (h : Rdy D out y j rd) : ∀ x ∈ rd, x ∈ nms D := fun x hx => by
  rcases (h.mem x).1 hx with ⟨g, _⟩ | ⟨g, _⟩
  · exact g.1
  · exact dn_mem (List.mem_of_mem_take g)
theorem Rdy.len {D : List Dec} {out rd : List Str} {y : Str} {j : Nat} (h : Rdy D out y j rd) : rd.length ≤ D.length := by
  have := nodup_len h.nodup h.sub
  rwa [nms_len] at this
theorem small_of {D : List Dec} (hs : ∀ z ∈ nms D, z.length ≤ maxLen) {l : List Str} (h : ∀ x ∈ l, x ∈ nms D) : ∀ z ∈ l, z.length ≤ maxLen := fun z hz => hs z (h z hz)
theorem apart_new {w : World} {o : Obj} {B n : Nat} {u v v' : Value} {zs : List Value} (h : Apart u v) (hr : w.ownsRow B 9 1 u n zs) (hl : v'.ownBlock = v.ownBlock ∨ v'.ownBlock = some (w.alloc o).heap.size) : Apart u v' := fun g e e2 => by
  rcases hl with g1 | g1
  · exact h g e (by rw [← g1]; exact e2)
  · rw [g1] at e2
    have := (hr.lt g e).2
    have e3 := Option.some.inj e2
    simp at e3; omega
theorem up_len {D : List Dec} (hs : ∀ i, i < D.length → (dc D i).sup.length ≤ 256) (x : Str) : (up D x).length ≤ 256 := by
  unfold up
  split
  · rename_i d e
    obtain ⟨i, hi, e2⟩ := List.getElem_of_mem (fnd_some e).1
    have := dc_get hi
    rw [List.getElem?_eq_getElem hi, e2] at this
    rw [Option.some.inj this]
    exact hs i hi
  · exact Nat.zero_le _
theorem kept_none (v : Value) : v.ownBlock = none ∨ v.ownBlock ≠ none := by
  cases v.ownBlock <;> simp
theorem First.sub {D : List Dec} {k : Nat} {M : DataW Value} {rd : List Str} (h : First D k M rd) : ∀ x ∈ rd, x ∈ nms D := fun x hx => List.mem_of_mem_take ((h.mem x).1 hx).1
theorem First.len {D : List Dec} {k : Nat} {M : DataW Value} {rd : List Str} (h : First D k M rd) : rd.length ≤ D.length := by
  have := nodup_len h.nodup h.sub
  rwa [nms_len] at this

set_option maxRecDepth 100000 in
set_option maxHeartbeats 12800000 in
theorem sorted_any (w : World) (a : Option Addr) (n cap : Nat) (D : List Dec) (h : IsDecs w a n cap D) (ok : Ok D) (hn : n ≤ 256) (hsz : ∀ i, i < n → (dc D i).sup.length ≤ 256) :
    Calls Try.prog 20 #[.slice a n cap] w (RetL (plc D) w) := by
  have hm := h.maxLe
  have hc := h.capLe
  unfold maxLen at hm
  obtain ⟨i0, hi, hz0, hz1, hz2⟩ := info_parts Try.infoS
  have HI := Lib.hid (And.intro hi (And.intro hz0 (And.intro hz1 hz2)))
  have HL := Lib.hid h.len
  have HS := Lib.hid (nms_small h)
  have DW := Lib.hid (downward_any w a n cap D h ok hn hsz)
  have HUL := Lib.hid (up_len (fun i hi => hsz i (by rw [h.len] at hi; exact hi)))
  have H := Lib.hid h
  have OK := Lib.hid ok
  clear h ok hsz hi hz0 hz1 hz2
  have hmm := fun x w => run_makeMapN Try.underlying51 x w
  go_enter Try.func20, Try.ntmps20
  go_wp2_with (go_at_call 21; (with_reducible refine DW.out.mono ?_); rintro e w1 ⟨mb, rfl, hmb, hlk, hb1⟩; have LK := Lib.hid hlk; have HB1 := Lib.hid hb1; clear hlk hb1)
  clear hmm
  go_loopw [5, 20] (fun o v wr => ∃ (k rn : Nat) (M : DataW Value) (rd : List Str), k ≤ n ∧ v = .int .i64 k ∧ rn ≤ n ∧ Hid (rd.length = rn) ∧ Hid (First D k M rd) ∧ Hid (wr.ownsMap Try.prog 9 raw w1.heap.size k M) ∧ Hid (wr.ownsRow (w1.heap.size + 1) 9 1 o rn (svals rd)) ∧ w1.heap.size < wr.heap.size ∧ Below w1.heap.size w1 wr) (fun _ v _ => n - (intOf v).toNat)
  case atStart => exact ⟨0, 0, .map [], [], Nat.zero_le _, rfl, Nat.zero_le _, rfl, First.start D, World.ownsMap_made _ _ _ _, World.ownsRow_nil _ _ _ _, by simp, (Below.refl _ _).alloc (Nat.le_refl _) _⟩
  case round =>
    obtain ⟨k, rn, M, rd, hk, rfl, hrn, HRL, HF, HM, HR, hz, hb⟩ := hrel
    obtain ⟨wo, hwo⟩ : ∃ wo : World, wo = wr := ⟨_, rfl⟩
    subst hwo
    have hz1 := HB1.out.size
    by_cases hlt : k < n
    · obtain ⟨b, off, rfl, hbl, hx⟩ := H.out.at_ (by omega)
      obtain ⟨sa, sc', fa, fc, hd0⟩ := hx k hlt
      have hd := hd0.below hbl (HB1.out.trans (hb.mono hz1))
      have c0 := hd.c0
      have c1 := hd.c1
      have c2 := hd.c2
      have HNL := Lib.hid hd.nl
      have HST := Lib.hid (HF.out.step OK.out (by rw [HL.out]; exact hlt) (owns_isMap HM.out))
      obtain ⟨x, hx'⟩ : ∃ x, (dc D k).name = x := ⟨_, rfl⟩
      rw [hx'] at c0 HNL HST
      obtain ⟨sl, hsl⟩ : ∃ z, (dc D k).sup.length = z := ⟨_, rfl⟩
      rw [hsl] at c1 HST
      obtain ⟨nf, hnf⟩ : ∃ z, (dc D k).nf = z := ⟨_, rfl⟩
      rw [hnf] at c2
      have T0 : Hid ((wo.alloc (.cells #[.string (mk x), .slice sa sl sc', .slice fa nf fc] 35)).cell? ⟨wo.heap.size, 0, none⟩ = some (.string (mk x))) := by show _ = _; rw [World.cell?_alloc_new]; rfl
      have T1 : Hid ((wo.alloc (.cells #[.string (mk x), .slice sa sl sc', .slice fa nf fc] 35)).cell? ⟨wo.heap.size, 1, none⟩ = some (.slice sa sl sc')) := by show _ = _; rw [World.cell?_alloc_new]; rfl
      clear hx hd hd0 hx' hsl hnf
      by_cases h0 : sl = 0
      · rw [if_pos h0] at HST
        have hlen := HST.out.len
        rw [HL.out, List.length_append, HRL.out] at hlen
        simp only [List.length_cons, List.length_nil] at hlen
        subst h0
        go_wp2_with (first
          | (at_mapUpdate; refine wpList_update_raw rfl _ _ _ 51 rfl 3 Try.underlying51 w1.heap.size k M rfl (HM.out.alloc _) (by omega) x (.int .i64 ((0 : Nat) : Int)) rfl rfl HNL.out ?_; intro w2 hown2 hgrow2; have HO2 := Lib.hid hown2; have HR2 := Lib.hid (owns_kept_map (HR.out.alloc _) hgrow2 (by omega)); have q0 := hgrow2.cell T0.out (fun e => by have e3 := Option.some.inj e; simp at e3; omega); have q1 := hgrow2.cell T1.out (fun e => by have e3 := Option.some.inj e; simp at e3; omega); have hz2 := hgrow2.size; have HB2 := Lib.hid ((hb.alloc hb.size _).grown hgrow2 (by have := hb.size; simp; omega) (fun j e => by cases e; exact Nat.le_refl _)); clear hown2 hgrow2)
          | (at_builtin; refine wpList_append_at rfl _ _ rfl (w1.heap.size + 1) _ _ _ rfl (HR2.out.alloc _) ⟨w2.heap.size, 0, none⟩ x rfl (cell_of_one (heap_alloc_new w2 _)) (by omega) (by simp at hz2 ⊢; omega) ?_; intro v3 w3 hown3 hgrow3 hloc3; have R3 := Lib.hid hown3; have HM3 := Lib.hid (map_kept_row (HO2.out.alloc _) (HR2.out.alloc _) hgrow3 (by omega)); have hz3 := hgrow3.size; have HB3 := Lib.hid (grown_below (HB2.out.alloc HB2.out.size _) (by have := HB2.out.size; simp; omega) (owns_base (HR2.out.alloc _) (by omega)) hgrow3); clear hown3 hgrow3 hloc3))
        go_roundw
        case rel => exact ⟨k + 1, rn + 1, _, _, by omega, by go_num, by omega, by show _ = _; rw [List.length_append, HRL.out]; rfl, HST.out, HM3.out, R3.out, by simp at hz2 hz3; omega, HB3.out⟩
        case measure => simp [intOf]; omega
      · rw [if_neg h0] at HST
        have hne : (((sl : Nat) : Int) == 0) = false := by simp; omega
        go_wp2_with (at_mapUpdate; refine wpList_update_raw rfl _ _ _ 51 rfl 3 Try.underlying51 w1.heap.size k M rfl (HM.out.alloc _) (by omega) x (.int .i64 ((sl : Nat) : Int)) rfl rfl HNL.out ?_; intro w2 hown2 hgrow2; have HO2 := Lib.hid hown2; have HR2 := Lib.hid (owns_kept_map (HR.out.alloc _) hgrow2 (by omega)); have q0 := hgrow2.cell T0.out (fun e => by have e3 := Option.some.inj e; simp at e3; omega); have q1 := hgrow2.cell T1.out (fun e => by have e3 := Option.some.inj e; simp at e3; omega); have hz2 := hgrow2.size; have HB2 := Lib.hid ((hb.alloc hb.size _).grown hgrow2 (by have := hb.size; simp; omega) (fun j e => by cases e; exact Nat.le_refl _)); clear hown2 hgrow2)
        go_roundw
        case rel => exact ⟨k + 1, rn, _, rd, by omega, by go_num, hrn, HRL, HST.out, HO2.out, HR2.out, by simp at hz2; omega, HB2.out⟩
        case measure => simp [intOf]; omega
    · obtain rfl : n = k := by omega
      have HSE : Hid (Second D [] M rd) := by
        have := HF.out
        rw [← HL.out] at this
        exact this.second
      obtain ⟨ra0, rc0, rfl, hri0⟩ := IsStrs.of_owns HR.out (small_of HS.out HF.out.sub)
      clear HF hlt hk hri0
      go_wp2_with (at_make; go_loud (refine wpList_make_own _ rfl _ _ _ rfl (w1.heap.size + 1) 9 i0 (.string ByteArray.empty) 1 Try.underlying25 HI.out.1 HI.out.2.1 HI.out.2.2.1 _ _ _ n rfl rfl rfl ?_ ?_ ?_ ?_); rotate_right; intro w2 hown2 hgrow2)
      · have hzo2 := hgrow2.size
        have HR2 := Lib.hid (HR.out.kept hgrow2 (kept_none _))
        have HM2 := Lib.hid (HM.out.kept hgrow2 (by simp))
        have HO2 := Lib.hid hown2
        have HB2 := Lib.hid (hb.grown hgrow2 hb.size (fun j e => by cases e))
        have HAP : Hid (Apart (.slice ra0 rn rc0) (.slice (some ⟨wo.heap.size, 0, none⟩) 0 n)) := fun g e e2 => by
          have := (HR.out.lt g e).2
          have e3 : wo.heap.size = g := Option.some.inj e2
          omega
        have HZ2 : Hid (w1.heap.size < w2.heap.size) := by show _ < _; omega
        clear hown2 hgrow2 hzo2 HR HM hb hz
        go_loopw [5, 8] (fun o q wr => ∃ (rn on : Nat) (M : DataW Value) (rd out : List Str), on ≤ n ∧ rn ≤ n ∧ Hid (rd.length = rn) ∧ Hid (out.length = on) ∧ Hid (Second D out M rd) ∧ Hid (wr.ownsMap Try.prog 9 raw w1.heap.size n M) ∧ Hid (wr.ownsRow (w1.heap.size + 1) 9 1 o rn (svals rd)) ∧ Hid (wr.ownsRow (w1.heap.size + 1) 9 1 q on (svals out)) ∧ Hid (Apart o q) ∧ w1.heap.size < wr.heap.size ∧ Below w1.heap.size w1 wr) (fun _ q _ => n - lenV q)
        case atStart => exact ⟨rn, 0, M, rd, [], Nat.zero_le _, hrn, HRL, rfl, HSE.out, HM2.out, HR2.out, HO2.out, HAP.out, HZ2.out, HB2.out⟩
        case round =>
          clear HSE HM2 HR2 HO2 HAP HZ2 HB2 HRL
          obtain ⟨rn, on, M, rd, out, hon, hrn, HRL, HOL, HSE, HM, HR, HQ, HAP, hz, hb⟩ := hrel
          obtain ⟨wo, hwo⟩ : ∃ wo : World, wo = wr := ⟨_, rfl⟩
          subst hwo
          obtain ⟨ra, rc, rfl, hri⟩ := IsStrs.of_owns HR.out (small_of HS.out HSE.out.sub)
          obtain ⟨qa, qc, rfl, hqi⟩ := IsStrs.of_owns HQ.out (small_of HS.out HSE.out.plc.sub)
          have hrc := hri.capLe
          have hrm := hri.maxLe
          have hqc := hqi.capLe
          have hqm := hqi.maxLe
          unfold maxLen at hrm hqm
          have HRI := Lib.hid hri
          clear hri hqi
          by_cases hr0 : rn = 0
          · have HD : Hid (Done D out) := fun x hx => by
              have := (HSE.out.mem x).2 hx
              rw [List.eq_nil_of_length_eq_zero (HRL.out.trans hr0)] at this
              cases this
            have HE : Hid (out = plc D) := plc_is HSE.out.plc HD.out
            subst hr0
            go_wp2
            go_ret
            rw [← HE.out]
            refine ⟨_, rfl, ?_, small_of HS.out HSE.out.plc.sub, HB1.out.trans (hb.mono hz1)⟩
            rw [HOL.out]
            exact owns_base HQ.out (by omega)
          · have hr1 : 0 < rn := by omega
            have MI := Lib.hid (Min_any wo ra rn rc rd HRI.out hr1 (by omega))
            clear hr0
            go_wp2_with (go_at_call 34; (with_reducible refine MI.out.mono ?_); rintro e w' ⟨⟨y, hy, hmin, rfl⟩, rfl⟩; have HY := Lib.hid hy; have HMIN := Lib.hid hmin; clear hy hmin)
            have HNX : Hid (nxt D out y) := ⟨(HSE.out.mem y).1 HY.out, fun z hz => HMIN.out z ((HSE.out.mem z).2 hz)⟩
            have IX := Lib.hid (Index_any wo ra rn rc rd y HRI.out HSE.out.nodup HY.out (by omega))
            have DL := Lib.hid (fun k (hk : k < rn) => Delete_any wo (w1.heap.size + 1) rn (.slice ra rn rc) rd k HR.out hk)
            obtain ⟨MB, hmown, hmhas, hmget⟩ := LK.out
            obtain ⟨la, lc, hle, hli⟩ := hmget y
            have HLE := Lib.hid hle
            have HMB := Lib.hid hmown
            have HLI := Lib.hid hli
            obtain ⟨ln, hln⟩ : ∃ z, (dn D y).length = z := ⟨_, rfl⟩
            rw [hln] at HLE HLI
            have HLN := Lib.hid hln
            have hlnc := hli.capLe
            have hlnm := hli.maxLe
            rw [hln] at hlnc
            unfold maxLen at hlnm
            have HYL : Hid (y.length ≤ maxLen) := HS.out y HNX.out.1.1
            have HP0 := Lib.hid HSE.out.plc
            have HP2 : Hid (Plc D (out ++ [y])) := .snoc HSE.out.plc HNX.out
            have hon2 : on + 1 ≤ n := by
              have := HP2.out.len
              rw [HL.out, List.length_append, HOL.out] at this
              exact this
            clear hmown hmhas hmget hle hli hln MI
            go_wp2_with fail
            refine IX.out.mono ?_
            rintro e w' ⟨⟨k, hk, hsk, rfl⟩, rfl⟩
            have HK := Lib.hid hsk
            clear hsk IX
            go_wp2_with (first
              | (go_at_call 36; (with_reducible refine (DL.out k hk).mono ?_); rintro e w3 ⟨v3, rfl, hown3, hgrow3, hown3b⟩; have R3 := Lib.hid hown3; have Q3 := Lib.hid (HQ.out.kept hgrow3 HAP.out.symm.kept); have M3 := Lib.hid (map_kept_row HM.out HR.out hgrow3 (by omega)); have hz3 := hgrow3.size; have B3 := Lib.hid (grown_below hb hb.size (owns_base HR.out (by omega)) hgrow3); have A3 := Lib.hid (show Apart v3 (.slice qa on qc) from fun g e => HAP.out g (by rw [← hown3b]; exact e)); clear hown3 hgrow3 hown3b)
              | (at_builtin; refine wpList_append_at rfl _ _ rfl (w1.heap.size + 1) _ _ _ rfl (Q3.out.alloc _) ⟨w3.heap.size, 0, none⟩ y rfl (cell_of_one (heap_alloc_new w3 _)) (by omega) (by simp; omega) ?_; intro v4 w4 hown4 hgrow4 hloc4; have Q4 := Lib.hid hown4; have R4 := Lib.hid ((R3.out.alloc _).kept hgrow4 A3.out.kept); have M4 := Lib.hid (map_kept_row (M3.out.alloc _) (Q3.out.alloc _) hgrow4 (by omega)); have hz4 := hgrow4.size; have B4 := Lib.hid (grown_below (B3.out.alloc B3.out.size _) (by have := B3.out.size; simp; omega) (owns_base (Q3.out.alloc _) (by omega)) hgrow4); have A4 := Lib.hid (apart_new A3.out R3.out hloc4); clear hown4 hgrow4 hloc4)
              | (at_lookup; refine wpList_lookup_raw rfl _ _ 45 rfl 25 Try.underlying45 (zeroL _) mb n MB rfl (map_below HMB.out B4.out) y rfl HYL.out ?_; rw [HLE.out]))
            have HRS := Lib.hid (rdy_start HSE.out.nodup HSE.out.mem (by rw [HRL.out]; exact hk) HK.out)
            have HGT : Hid (∀ x, x ∈ nms D → mget M x (.int .i64 0) = .int .i64 ((cntJ D out y 0 x : Nat) : Int)) := HSE.out.get
            have HEL : Hid ((rd.eraseIdx k).length = rn - 1) := by show _ = _; rw [List.length_eraseIdx, if_pos (by rw [HRL.out]; exact hk), HRL.out]
            have HZ4 : Hid (w1.heap.size < w4.heap.size) := by show _ < _; simp at hz3 hz4; omega
            have HYO : Hid (y ∉ out) := HNX.out.1.2.1
            clear hz3 hz4 hk DL HMIN HY hr1
            go_loopw [5, 64] (fun o v wi => ∃ (j rn : Nat) (M : DataW Value) (rd : List Str), j ≤ ln ∧ v = .int .i64 j ∧ rn ≤ n ∧ Hid (rd.length = rn) ∧ Hid (Rdy D out y j rd) ∧ Hid (∀ x, x ∈ nms D → mhas M x = true) ∧ Hid (∀ x, x ∈ nms D → mget M x (.int .i64 0) = .int .i64 ((cntJ D out y j x : Nat) : Int)) ∧ Hid (wi.ownsMap Try.prog 9 raw w1.heap.size n M) ∧ Hid (wi.ownsRow (w1.heap.size + 1) 9 1 o rn (svals rd)) ∧ Hid (wi.ownsRow (w1.heap.size + 1) 9 1 v4 (on + 1) (svals (out ++ [y]))) ∧ Hid (Apart o v4) ∧ w1.heap.size < wi.heap.size ∧ Below w1.heap.size w1 wi) (fun _ v _ => ln - (intOf v).toNat)
            case atStart => exact ⟨0, rn - 1, M, rd.eraseIdx k, Nat.zero_le _, rfl, by omega, HEL.out, HRS.out, HSE.out.has, HGT.out, M4.out, R4.out, Q4.out, A4.out, HZ4.out, B4.out⟩
            case round =>
              clear HRS HGT HEL HZ4 M4 R4 Q4 A4 B4 R3 Q3 M3 B3 A3 HSE HM HR HQ HAP HRI HRL
              obtain ⟨j, rn, M, rd, hj, rfl, hrn, HRL, HRD, HHAS, HGET, HM, HR, HQ, HAP, hz, hb⟩ := hrel
              obtain ⟨wi, hwi⟩ : ∃ wi : World, wi = wr := ⟨_, rfl⟩
              subst hwi
              by_cases hlt : j < ln
              · obtain ⟨b2, off2, rfl, hbl2, hx2⟩ := HLI.out.at_ (by omega)
                have d0 := (hb.cell (p := ⟨b2, off2 + j, none⟩) hbl2).trans (hx2 j hlt)
                have hjl : j < (dn D y).length := by rw [HLN.out]; exact hlt
                have HIN := Lib.hid (dn_mem (st_mem hjl))
                have HXL := Lib.hid (HS.out _ HIN.out)
                have HG0 := Lib.hid (HGET.out _ HIN.out)
                have HCA := Lib.hid (cntJ_at OK.out HYO.out hjl)
                have HCS := Lib.hid (fun x => cntJ_succ (D := D) (out := out) hjl x)
                have hcl := Nat.le_trans (cnt_le D (out ++ [y]) (st (dn D y) j)) (HUL.out (st (dn D y) j))
                have HSK := Lib.hid (fun hc => HRD.out.skip hjl hc)
                have HAD := Lib.hid (fun hc => HRD.out.add OK.out HP0.out HNX.out hjl hc)
                have HH0 := Lib.hid (HHAS.out _ HIN.out)
                obtain ⟨x, hx'⟩ : ∃ x, st (dn D y) j = x := ⟨_, rfl⟩
                rw [hx'] at d0 HIN HXL HG0 HCA HCS hcl HSK HAD HH0
                obtain ⟨c, hc⟩ : ∃ c, cnt D (out ++ [y]) x = c := ⟨_, rfl⟩
                rw [hc] at HCA hcl HSK HAD
                have HC := Lib.hid hc
                have HG1 : Hid (mget M x (.int .i64 0) = .int .i64 ((c : Int) + 1)) := by show _ = _; rw [HG0.out, HCA.out]; rfl
                have him := Lib.hid (owns_isMap HM.out)
                have HG2 : Hid (mget (mput M x (.int .i64 (c : Int))) x (.int .i64 0) = .int .i64 (c : Int)) := by show _ = _; rw [mget_put him.out, if_pos rfl]
                have HGN : Hid (∀ z, z ∈ nms D → mget (mput M x (.int .i64 (c : Int))) z (.int .i64 0) = .int .i64 ((cntJ D out y (j + 1) z : Nat) : Int)) := fun z hz => by
                  rw [mget_put him.out, HCS.out]
                  by_cases e : z = x
                  · rw [if_pos e, if_pos e, e, HC.out]
                  · rw [if_neg e, if_neg e]; exact HGET.out z hz
                have HHN : Hid (∀ z, z ∈ nms D → mhas (mput M x (.int .i64 (c : Int))) z = true) := fun z hz => by
                  rw [mhas_put him.out, HHAS.out z hz]; simp
                obtain ⟨ra, rc, rfl, hri⟩ := IsStrs.of_owns HR.out (small_of HS.out HRD.out.sub)
                have tok1 : True := trivial
                have tok2 : True := trivial
                clear hx2 hjl hx' hc hri HGET
                by_cases hc0 : c = 0
                · have HRN := Lib.hid (HAD.out hc0)
                  have hln2 := HRN.out.len
                  rw [HL.out, List.length_append, HRL.out] at hln2
                  simp only [List.length_cons, List.length_nil] at hln2
                  subst hc0
                  go_wp2_with (first
                    | (at_lookup; have _t := tok1; refine wpList_lookup_raw rfl _ _ 51 rfl 3 Try.underlying51 (zeroI _) w1.heap.size n M rfl HM.out x rfl HXL.out ?_; rw [HG1.out]; clear tok1)
                    | (at_mapUpdate; refine wpList_update_raw rfl _ _ _ 51 rfl 3 Try.underlying51 w1.heap.size n M rfl HM.out (by omega) x (.int .i64 ((0 : Nat) : Int)) rfl rfl HXL.out ?_; intro w5 hown5 hgrow5; have M5 := Lib.hid (map_again HM.out HH0.out hown5); have R5 := Lib.hid (owns_kept_map HR.out hgrow5 (by omega)); have Q5 := Lib.hid (owns_kept_map HQ.out hgrow5 (by omega)); have hz5 := hgrow5.size; have B5 := Lib.hid (hb.grown hgrow5 hb.size (fun g e => by cases e; exact Nat.le_refl _)); clear hown5 hgrow5)
                    | (at_lookup; have _t := tok2; refine wpList_lookup_raw rfl _ _ 51 rfl 3 Try.underlying51 (zeroI _) w1.heap.size n _ rfl M5.out x rfl HXL.out ?_; rw [HG2.out]; clear tok2)
                    | (at_builtin; refine wpList_append_at rfl _ _ rfl (w1.heap.size + 1) _ _ _ rfl (R5.out.alloc _) ⟨w5.heap.size, 0, none⟩ x rfl (cell_of_one (heap_alloc_new w5 _)) (by omega) (by simp; omega) ?_; intro v6 w6 hown6 hgrow6 hloc6; have R6 := Lib.hid hown6; have Q6 := Lib.hid ((Q5.out.alloc _).kept hgrow6 HAP.out.symm.kept); have M6 := Lib.hid (map_kept_row (M5.out.alloc _) (R5.out.alloc _) hgrow6 (by omega)); have hz6 := hgrow6.size; have B6 := Lib.hid (grown_below (B5.out.alloc B5.out.size _) (by have := B5.out.size; simp; omega) (owns_base (R5.out.alloc _) (by omega)) hgrow6); have A6 := Lib.hid (apart_new HAP.out.symm Q5.out hloc6); clear hown6 hgrow6 hloc6))
                  go_roundw
                  case rel => exact ⟨j + 1, rn + 1, _, _, by omega, by go_num, by omega, by show _ = _; rw [List.length_append, HRL.out]; rfl, HRN.out, HHN.out, HGN.out, M6.out, R6.out, Q6.out, A6.out.symm, by simp at hz6; omega, B6.out⟩
                  case measure => simp [intOf]; omega
                · have HRN := Lib.hid (HSK.out hc0)
                  have hne : (((c : Nat) : Int) == 0) = false := by simp; omega
                  go_wp2_with (first
                    | (at_lookup; have _t := tok1; refine wpList_lookup_raw rfl _ _ 51 rfl 3 Try.underlying51 (zeroI _) w1.heap.size n M rfl HM.out x rfl HXL.out ?_; rw [HG1.out]; clear tok1)
                    | (at_mapUpdate; refine wpList_update_raw rfl _ _ _ 51 rfl 3 Try.underlying51 w1.heap.size n M rfl HM.out (by omega) x (.int .i64 ((c : Nat) : Int)) rfl rfl HXL.out ?_; intro w5 hown5 hgrow5; have M5 := Lib.hid (map_again HM.out HH0.out hown5); have R5 := Lib.hid (owns_kept_map HR.out hgrow5 (by omega)); have Q5 := Lib.hid (owns_kept_map HQ.out hgrow5 (by omega)); have hz5 := hgrow5.size; have B5 := Lib.hid (hb.grown hgrow5 hb.size (fun g e => by cases e; exact Nat.le_refl _)); clear hown5 hgrow5)
                    | (at_lookup; have _t := tok2; refine wpList_lookup_raw rfl _ _ 51 rfl 3 Try.underlying51 (zeroI _) w1.heap.size n _ rfl M5.out x rfl HXL.out ?_; rw [HG2.out]; clear tok2))
                  go_roundw
                  case rel => exact ⟨j + 1, rn, _, rd, by omega, by go_num, hrn, HRL, HRN.out, HHN.out, HGN.out, M5.out, R5.out, Q5.out, HAP.out, by omega, B5.out⟩
                  case measure => simp [intOf]; omega
              · obtain rfl : ln = j := by omega
                have HJ : Hid (Rdy D out y (dn D y).length rd) := by show Rdy _ _ _ _ _; rw [HLN.out]; exact HRD.out
                have HS2 : Hid (Second D (out ++ [y]) M rd) := ⟨HP2.out, HHAS.out, fun x hx => by rw [HGET.out x hx, ← HLN.out, cntJ_end OK.out HYO.out], HJ.out.nodup, HJ.out.end OK.out HP0.out HNX.out⟩
                obtain ⟨qa2, qc2, rfl, hqi2⟩ := IsStrs.of_owns HQ.out (small_of HS.out HP2.out.sub)
                clear hlt hj HJ HRD HGET HHAS hqi2
                go_wp2
                go_roundw
                case rel => exact ⟨rn, on + 1, M, rd, out ++ [y], hon2, hrn, HRL, by show _ = _; rw [List.length_append, HOL.out]; rfl, HS2.out, HM.out, HR.out, HQ.out, HAP.out, hz, hb⟩
                case measure => simp [lenV]; omega
      · rw [HI.out.2.2.2]; omega
      · unfold maxLen; omega
      · omega
end Go.Proofs.Ytmhbblehgckelaa
