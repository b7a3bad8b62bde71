/- Texts joined by wip/gen/merge.py: Cb Cc Ce Qi Qp Cj Cd Ck Cl Cm Cn Cy Cf Cg Co Cp. -/
import Derived.Laws.OwnMore
import Derived.OrdersHeld
import Derived.OrdersIn
import Derived.CallsIn
import Derived.RangeFuncCalls
import Derived.TacticsIn
import Derived.Deep.RegionHeld3
import Derived.RangeFuncWrites
import Derived.RangeFuncOwn
import Derived.Lib.Join
import Derived.Deep.QuietTactic
import Derived.Lib.OwnBridge
import Derived.Test.YtdeamdpoegdmdaaGreatDoorMac
set_option linter.unusedVariables false
set_option linter.unusedSimpArgs false
namespace Go.Proofs.YtdeamdpoegdmdaaGreatDoor
open S (wd nrm bit Norm WB SAnd SOr lst set_ext norm_nrm wd_nrm nrm_le bit_SAnd bit_SOr nAnd nOr bit_out lst_more)

abbrev Cd := List Nat
/-- A set in normal form. -/
def IsS (s : Cd) : Prop := Norm s ∧ WB s
theorem IsS.ext {a b : Cd} (ha : IsS a) (hb : IsS b) (h : ∀ i, bit a i = bit b i) : a = b := set_ext ha.1 hb.1 ha.2 hb.2 h
theorem IsS.and {a : Cd} (ha : IsS a) (b : Cd) : IsS (SAnd a b) := ⟨nAnd a b, ha.2.and⟩
theorem IsS.or {a b : Cd} (ha : IsS a) (hb : IsS b) : IsS (SOr a b) := ⟨nOr a b, ha.2.or hb.2⟩
theorem IsS.nil : IsS [] := ⟨fun h => absurd h (Nat.lt_irrefl _), fun i => by simp [wd]⟩
theorem bit_nil (i : Nat) : bit [] i = false := by simp [bit, wd]

def sAlg : Alg Cd where
  ok := IsS
  i := SAnd
  e := []
  ok_i := fun ha _ => ha.and _
  assoc := fun {a b c} ha hb hc => ((ha.and b).and c).ext (ha.and _) fun i => by simp only [bit_SAnd, Bool.and_assoc]
  comm := fun {a b} ha hb => (ha.and b).ext (hb.and a) fun i => by simp only [bit_SAnd, Bool.and_comm]
  idem := fun {a} ha => (ha.and a).ext ha fun i => by simp only [bit_SAnd, Bool.and_self]
  zero := fun {a} _ => (IsS.nil.and a).ext IsS.nil fun i => by simp only [bit_SAnd, bit_nil, Bool.false_and]

theorem IsS.has {a : Cd} (ha : IsS a) (h : a ≠ []) : ∃ i, bit a i = true := by
  refine Classical.byContradiction fun hn => h (ha.ext IsS.nil fun i => ?_)
  rw [bit_nil]
  cases e : bit a i with
  | false => rfl
  | true => exact absurd ⟨i, e⟩ hn
theorem ne_of_bit {a : Cd} {i : Nat} (h : bit a i = true) : a ≠ [] := by
  rintro rfl; rw [bit_nil] at h; cases h

/-! A set out of a test. -/
def wB (f : Nat → Bool) : Nat → Nat
  | 0 => 0
  | n + 1 => wB f n ||| (if f n then 2 ^ n else 0)
theorem wB_bit (f : Nat → Bool) : ∀ n i, (wB f n).testBit i = (decide (i < n) && f i)
  | 0, i => by simp [wB]
  | n + 1, i => by
    rw [wB, Nat.testBit_or, wB_bit f n i]
    by_cases h : i = n
    · subst h
      by_cases hf : f i = true <;> simp [hf]
    · have e : decide (i < n + 1) = decide (i < n) := by
        rw [decide_eq_decide]; omega
      rw [e]
      by_cases hf : f n = true
      · rw [if_pos hf, Nat.testBit_two_pow]; simp [Ne.symm h]
      · rw [if_neg hf]; simp
theorem wB_lt (f : Nat → Bool) : ∀ n, wB f n < 2 ^ n
  | 0 => by simp [wB]
  | n + 1 => by
    have h := wB_lt f n
    have e : 2 ^ (n + 1) = 2 ^ n * 2 := Nat.pow_succ 2 n
    rw [wB]
    refine Nat.or_lt_two_pow (by omega) ?_
    split
    · exact Nat.pow_lt_pow_right (by decide) (by omega)
    · exact Nat.two_pow_pos _
def mkS (p : Nat → Bool) : Cd := nrm 64 fun q => wB (fun r => p (64 * q + r)) 64
theorem mkS_is (p : Nat → Bool) : IsS (mkS p) := ⟨norm_nrm _ _, fun i => by
  unfold mkS; rw [wd_nrm]
  split
  · exact wB_lt _ 64
  · decide⟩
theorem mkS_len (p : Nat → Bool) : (mkS p).length ≤ 64 := nrm_le _ _
theorem mkS_bit (p : Nat → Bool) (i : Nat) : bit (mkS p) i = (decide (i < 4096) && p i) := by
  unfold bit mkS
  rw [wd_nrm]
  by_cases h : i < 4096
  · rw [if_pos (by omega), wB_bit]
    rw [show 64 * (i / 64) + i % 64 = i by omega]
    simp [h, Nat.mod_lt]
  · rw [if_neg (by omega)]
    simp [h]

/-! Accepted declarations. -/
structure Acc (D : List Dec) : Prop where
  ok : Ok D
  acyc : ∀ x y, Rc (up D) x y → x ∈ nms D → x ≠ y
  top : ∃ t ∈ nms D, ∀ x ∈ nms D, x = t ∨ Rc (up D) x t
  nam : ∀ x ∈ nms D, x ≠ [] ∧ (38 : UInt8) ∉ x
  len : D.length ≤ 256
  mx : ∀ (l : List Str) (s : Str), s ∈ dcl D l → ∃ t ∈ mx D l, s ∈ bl D t

def al (D : List Dec) : List Str := srt (nms D)
theorem mem_al {D : List Dec} {x : Str} : x ∈ al D ↔ x ∈ nms D := mem_srt _ _
theorem al_nodup (D : List Dec) : (al D).Nodup := (srt_asc _).nodup
theorem nodup_same {α : Type} {a b : List α} (ha : a.Nodup) (hb : b.Nodup) (h : ∀ x, x ∈ a ↔ x ∈ b) : a.length = b.length := by
  rw [((List.perm_ext_iff_of_nodup ha hb).2 h).length_eq]
theorem al_len {D : List Dec} (h : Acc D) : (al D).length = D.length := by
  rw [nodup_same (al_nodup D) h.ok.nodup fun x => mem_al, nms_len]

theorem mem_blA {D : List Dec} (h : Acc D) {x y : Str} : y ∈ bl D x ↔ x ∈ nms D ∧ (y = x ∨ Rc (up D) y x) := by
  rw [mem_bl, rc_turn h.ok]
theorem bl_self {D : List Dec} (h : Acc D) {x : Str} (hx : x ∈ nms D) : x ∈ bl D x := (mem_blA h).2 ⟨hx, .inl rfl⟩
theorem rc_left {D : List Dec} {x y : Str} (r : Rc (up D) x y) : x ∈ nms D := by
  obtain ⟨z, hz⟩ := r.first
  exact up_left hz
theorem bl_nms {D : List Dec} (h : Acc D) {x y : Str} (hy : y ∈ bl D x) : y ∈ nms D := by
  obtain ⟨hx, rfl | r⟩ := (mem_blA h).1 hy
  · exact hx
  · exact rc_left r
theorem bl_trans {D : List Dec} (h : Acc D) {x y z : Str} (hy : y ∈ bl D x) (hz : z ∈ bl D y) : z ∈ bl D x := by
  obtain ⟨hx, hyx⟩ := (mem_blA h).1 hy
  obtain ⟨_, hzy⟩ := (mem_blA h).1 hz
  refine (mem_blA h).2 ⟨hx, ?_⟩
  rcases hzy with rfl | r
  · exact hyx
  · rcases hyx with rfl | r'
    · exact .inr r
    · exact .inr (r.trans r')
theorem bl_anti {D : List Dec} (h : Acc D) {x y : Str} (hy : y ∈ bl D x) (hx : x ∈ bl D y) : x = y := by
  obtain ⟨hx1, e | r⟩ := (mem_blA h).1 hy
  · exact e.symm
  · obtain ⟨hy1, e | r'⟩ := (mem_blA h).1 hx
    · exact e
    · exact absurd rfl (h.acyc _ _ (r.trans r') hy1)

/-! Codes. -/
def cod (D : List Dec) (x : Str) : Cd := mkS fun i => match (al D)[i]? with
  | some y => (bl D x).contains y
  | none => false
theorem cod_is (D : List Dec) (x : Str) : IsS (cod D x) := mkS_is _
theorem cod_len (D : List Dec) (x : Str) : (cod D x).length ≤ 64 := mkS_len _
theorem bit_cod {D : List Dec} (h : Acc D) (x : Str) (i : Nat) : bit (cod D x) i = true ↔ ∃ y, (al D)[i]? = some y ∧ y ∈ bl D x := by
  unfold cod
  rw [mkS_bit]
  cases e : (al D)[i]? with
  | none => simp
  | some y =>
    have hi := (List.getElem?_eq_some_iff.1 e).1
    have := al_len h
    have := h.len
    have hd : decide (i < 4096) = true := by simp; omega
    simp [hd]
theorem al_at {D : List Dec} {x : Str} (hx : x ∈ nms D) : ∃ i : Nat, (al D)[i]? = some x := List.getElem?_of_mem (mem_al.2 hx)
theorem al_one {D : List Dec} {i j : Nat} {x : Str} (hi : (al D)[i]? = some x) (hj : (al D)[j]? = some x) : i = j := prefix_nodup_at (al_nodup D) hi hj
theorem cod_inj {D : List Dec} (h : Acc D) {x y : Str} (hx : x ∈ nms D) (hy : y ∈ nms D) (e : cod D x = cod D y) : x = y := by
  have one : ∀ {x y : Str}, x ∈ nms D → cod D x = cod D y → x ∈ bl D y := by
    intro x y hx e
    obtain ⟨i, hi⟩ := al_at hx
    have := (bit_cod h x i).2 ⟨x, hi, bl_self h hx⟩
    rw [e] at this
    obtain ⟨z, hz, hb⟩ := (bit_cod h y i).1 this
    rw [hi] at hz; cases hz
    exact hb
  exact bl_anti h (one hy e.symm) (one hx e)
theorem cod_ne {D : List Dec} (h : Acc D) {x : Str} (hx : x ∈ nms D) : cod D x ≠ [] := by
  obtain ⟨i, hi⟩ := al_at hx
  exact ne_of_bit ((bit_cod h x i).2 ⟨x, hi, bl_self h hx⟩)
def cods (D : List Dec) : List Cd := (al D).map (cod D)
theorem cods_sets {D : List Dec} (h : Acc D) : Sets sAlg (cods D) := by
  constructor
  · intro c hc
    obtain ⟨x, _, rfl⟩ := List.mem_map.1 hc
    exact cod_is D x
  · intro c hc
    obtain ⟨x, hx, rfl⟩ := List.mem_map.1 hc
    exact cod_ne h (mem_al.1 hx)
theorem cods_nodup {D : List Dec} (h : Acc D) : (cods D).Nodup := by
  unfold cods
  refine List.pairwise_map.2 ((al_nodup D).imp_of_mem fun {a b} ha hb hne he => hne (cod_inj h (mem_al.1 ha) (mem_al.1 hb) he))
def fam (D : List Dec) : List Cd := famL sAlg (cods D)
theorem mem_fam {D : List Dec} (h : Acc D) {f : Cd} : f ∈ fam D ↔ Fam sAlg (cods D) f := (famL_spec sAlg (cods D) (cods_sets h)).1 f
theorem fam_nodup {D : List Dec} (h : Acc D) : (fam D).Nodup := (famL_spec sAlg (cods D) (cods_sets h)).2

/-- The declared types of a set. -/
def sel (D : List Dec) (f : Cd) : List Str := (lst f (al D).length).map fun i => (al D).getD i []
theorem mem_lst {f : Cd} {k i : Nat} : i ∈ lst f k ↔ i < k ∧ bit f i = true := by unfold S.lst; simp
theorem mem_sel {D : List Dec} {f : Cd} {y : Str} : y ∈ sel D f ↔ ∃ i, (al D)[i]? = some y ∧ bit f i = true := by
  unfold sel
  rw [List.mem_map]
  constructor
  · rintro ⟨i, hi, rfl⟩
    obtain ⟨h1, h2⟩ := mem_lst.1 hi
    exact ⟨i, by rw [List.getD_eq_getElem?_getD, List.getElem?_eq_getElem h1]; rfl, h2⟩
  · rintro ⟨i, hi, hb⟩
    exact ⟨i, mem_lst.2 ⟨(List.getElem?_eq_some_iff.1 hi).1, hb⟩, by rw [List.getD_eq_getElem?_getD, hi]; rfl⟩

/-- What each set of the family keeps. -/
structure Dwn (D : List Dec) (f : Cd) : Prop where
  is : IsS f
  ne : f ≠ []
  len : f.length ≤ 64
  lt : ∀ i, bit f i = true → i < (al D).length
  down : ∀ y z, y ∈ sel D f → z ∈ bl D y → z ∈ sel D f
theorem fam_dwn {D : List Dec} (h : Acc D) {f : Cd} (hf : Fam sAlg (cods D) f) : Dwn D f := by
  induction hf with
  | @base c hc =>
    obtain ⟨x, hx, rfl⟩ := List.mem_map.1 hc
    refine ⟨cod_is D x, cod_ne h (mem_al.1 hx), cod_len D x, fun i hi => ?_, fun y z hy hz => ?_⟩
    · obtain ⟨y, hy, _⟩ := (bit_cod h x i).1 hi
      exact (List.getElem?_eq_some_iff.1 hy).1
    · obtain ⟨i, hi, hb⟩ := mem_sel.1 hy
      obtain ⟨y', hy', hyb⟩ := (bit_cod h x i).1 hb
      rw [hi] at hy'; cases hy'
      obtain ⟨j, hj⟩ := al_at (bl_nms h hz)
      exact mem_sel.2 ⟨j, hj, (bit_cod h x j).2 ⟨z, hj, bl_trans h hyb hz⟩⟩
  | @inter a b ha hb hne iha ihb =>
    refine ⟨iha.is.and b, hne, Nat.le_trans (nrm_le _ _) (Nat.le_trans (Nat.min_le_left _ _) iha.len), fun i hi => ?_, fun y z hy hz => ?_⟩
    · have : bit (SAnd a b) i = true := hi
      rw [bit_SAnd, Bool.and_eq_true] at this
      exact iha.lt i this.1
    · obtain ⟨i, hi, hbt⟩ := mem_sel.1 hy
      have : bit (SAnd a b) i = true := hbt
      rw [bit_SAnd, Bool.and_eq_true] at this
      obtain ⟨j, hj, hj1⟩ := mem_sel.1 (iha.down y z (mem_sel.2 ⟨i, hi, this.1⟩) hz)
      obtain ⟨j', hj', hj2⟩ := mem_sel.1 (ihb.down y z (mem_sel.2 ⟨i, hi, this.2⟩) hz)
      obtain rfl := al_one hj hj'
      refine mem_sel.2 ⟨j, hj, ?_⟩
      show bit (SAnd a b) j = true
      rw [bit_SAnd, hj1, hj2]; rfl
theorem sel_inj {D : List Dec} {f g : Cd} (hf : Dwn D f) (hg : Dwn D g) (h : ∀ y, y ∈ sel D f ↔ y ∈ sel D g) : f = g := by
  refine hf.is.ext hg.is fun i => ?_
  have one : ∀ {f g : Cd}, Dwn D f → (∀ y, y ∈ sel D f ↔ y ∈ sel D g) → bit f i = true → bit g i = true := by
    intro f g hf h hb
    have hi := hf.lt i hb
    obtain ⟨j, hj, hjb⟩ := mem_sel.1 ((h _).1 (mem_sel.2 ⟨i, List.getElem?_eq_getElem hi, hb⟩))
    obtain rfl := al_one hj (List.getElem?_eq_getElem hi)
    exact hjb
  rw [Bool.eq_iff_iff]
  exact ⟨one hf h, one hg fun y => (h y).symm⟩

/-! Names. -/
def jn : List Str → Str
  | [] => []
  | [x] => x
  | x :: y :: r => x ++ 38 :: jn (y :: r)
theorem app_amp : ∀ {a b : Str} {s t : Str}, (38 : UInt8) ∉ a → (38 : UInt8) ∉ b → a ++ 38 :: s = b ++ 38 :: t → a = b ∧ s = t
  | [], [], _, _, _, _, h => by simp at h; exact ⟨rfl, h⟩
  | [], y :: b, _, _, _, hb, h => by simp at h; exact absurd (by rw [h.1]; simp) hb
  | x :: a, [], _, _, ha, _, h => by simp at h; exact absurd (by rw [h.1]; simp) ha
  | x :: a, y :: b, _, _, ha, hb, h => by
    simp at h
    obtain ⟨e1, e2⟩ := app_amp (fun hm => ha (by simp [hm])) (fun hm => hb (by simp [hm])) h.2
    exact ⟨by rw [h.1, e1], e2⟩
theorem jn_inj : ∀ {l m : List Str}, (∀ x ∈ l, x ≠ [] ∧ (38 : UInt8) ∉ x) → (∀ x ∈ m, x ≠ [] ∧ (38 : UInt8) ∉ x) → jn l = jn m → l = m
  | [], [], _, _, _ => rfl
  | [], [y], _, hm, h => absurd h.symm (hm y (by simp)).1
  | [], y :: z :: r, _, _, h => by simp [jn] at h
  | [x], [], hl, _, h => absurd h (hl x (by simp)).1
  | [x], [y], _, _, h => by simp [jn] at h; rw [h]
  | [x], y :: z :: r, hl, _, h => by
    have h1 : x = y ++ 38 :: jn (z :: r) := h
    exact absurd (by rw [h1]; simp) (hl x (by simp)).2
  | x :: y :: r, [], _, _, h => by simp [jn] at h
  | x :: y :: r, [z], _, hm, h => by
    have h1 : x ++ 38 :: jn (y :: r) = z := h
    exact absurd (by rw [← h1]; simp) (hm z (by simp)).2
  | x :: y :: r, z :: u :: s, hl, hm, h => by
    have h1 : x ++ 38 :: jn (y :: r) = z ++ 38 :: jn (u :: s) := h
    obtain ⟨e1, e2⟩ := app_amp (hl x (by simp)).2 (hm z (by simp)).2 h1
    rw [e1, jn_inj (fun x hx => hl x (List.mem_cons_of_mem _ hx)) (fun x hx => hm x (List.mem_cons_of_mem _ hx)) e2]
def nam (D : List Dec) (f : Cd) : Str := jn (mx D (sel D f))
theorem sel_nms {D : List Dec} {f : Cd} {y : Str} (h : y ∈ sel D f) : y ∈ nms D := by
  obtain ⟨i, hi, _⟩ := mem_sel.1 h
  exact mem_al.1 (List.mem_of_getElem? hi)
theorem mx_sub {D : List Dec} {l : List Str} {x : Str} (h : x ∈ mx D l) : x ∈ l ∧ x ∈ nms D := by
  unfold mx at h
  exact mem_dcl.1 (List.mem_filter.1 h).1
theorem sel_mx {D : List Dec} (h : Acc D) {f : Cd} (hf : Dwn D f) {y : Str} : y ∈ sel D f ↔ ∃ t ∈ mx D (sel D f), y ∈ bl D t := by
  constructor
  · intro hy
    exact h.mx _ _ (mem_dcl.2 ⟨hy, sel_nms hy⟩)
  · rintro ⟨t, ht, hb⟩
    exact hf.down t y (mx_sub ht).1 hb
theorem nam_inj {D : List Dec} (h : Acc D) {f g : Cd} (hf : Dwn D f) (hg : Dwn D g) (e : nam D f = nam D g) : f = g := by
  have e1 : mx D (sel D f) = mx D (sel D g) := jn_inj (fun x hx => h.nam x (mx_sub hx).2) (fun x hx => h.nam x (mx_sub hx).2) e
  refine sel_inj hf hg fun y => ?_
  rw [sel_mx h hf, sel_mx h hg, e1]
theorem mx_one {D : List Dec} (h : Acc D) {x : Str} (hx : x ∈ nms D) : mx D (sel D (cod D x)) = [x] := by
  have hs : ∀ y, y ∈ sel D (cod D x) ↔ y ∈ bl D x := by
    intro y
    rw [mem_sel]
    constructor
    · rintro ⟨i, hi, hb⟩
      obtain ⟨z, hz, hzb⟩ := (bit_cod h x i).1 hb
      rw [hi] at hz; cases hz; exact hzb
    · intro hy
      obtain ⟨i, hi⟩ := al_at (bl_nms h hy)
      exact ⟨i, hi, (bit_cod h x i).2 ⟨y, hi, hy⟩⟩
  have hd : ∀ y, y ∈ dcl D (sel D (cod D x)) ↔ y ∈ bl D x := fun y => by
    rw [mem_dcl, hs]
    exact ⟨fun z => z.1, fun z => ⟨z, bl_nms h z⟩⟩
  have hm : ∀ y, y ∈ mx D (sel D (cod D x)) ↔ y ∈ [x] := by
    intro y
    rw [List.mem_singleton]
    unfold mx
    rw [List.mem_filter, hd, List.all_eq_true]
    constructor
    · rintro ⟨hy, ha⟩
      have := ha x ((hd x).2 (bl_self h hx))
      simp only [Bool.or_eq_true, beq_iff_eq, Bool.not_eq_true', List.contains_iff_mem] at this
      rcases this with e | e
      · exact e.symm
      · have : x ∈ ab D y := (ab_bl h.ok (bl_nms h hy) hx).2 hy
        rw [← List.contains_iff_mem] at this
        rw [this] at e; cases e
    · rintro rfl
      refine ⟨bl_self h hx, fun z hz => ?_⟩
      simp only [Bool.or_eq_true, beq_iff_eq, Bool.not_eq_true']
      rcases Classical.em (z = y) with e | e
      · exact .inl e
      · right
        rw [Bool.eq_false_iff]
        intro hc
        rw [List.contains_iff_mem] at hc
        have hz1 := (hd z).1 hz
        exact e (bl_anti h ((ab_bl h.ok hx (bl_nms h hz1)).1 hc) hz1)
  have hn : (mx D (sel D (cod D x))).Nodup := by
    unfold mx dcl
    exact (srt_asc _).nodup.sublist List.filter_sublist
  obtain hl := nodup_same hn (by simp : [x].Nodup) hm
  obtain ⟨z, hz⟩ := List.length_eq_one_iff.1 (hl.trans rfl)
  rw [hz]
  have := (hm z).1 (by rw [hz]; simp)
  rw [List.mem_singleton] at this
  rw [this]
theorem nam_cod {D : List Dec} (h : Acc D) {x : Str} (hx : x ∈ nms D) : nam D (cod D x) = x := by
  unfold nam; rw [mx_one h hx]; rfl
end Go.Proofs.YtdeamdpoegdmdaaGreatDoor

namespace Go.Proofs.YtdeamdpoegdmdaaGreatDoor
open S (wd nrm bit Norm WB SAnd SOr lst set_ext norm_nrm wd_nrm nrm_le bit_SAnd bit_SOr nAnd nOr bit_out lst_more)

/-- One set lies in another. -/
def Sub (a b : Cd) : Prop := ∀ i, bit a i = true → bit b i = true
theorem Sub.refl (a : Cd) : Sub a a := fun _ h => h
theorem Sub.trans {a b c : Cd} (h : Sub a b) (g : Sub b c) : Sub a c := fun i hi => g i (h i hi)
theorem Sub.anti {a b : Cd} (ha : IsS a) (hb : IsS b) (h : Sub a b) (g : Sub b a) : a = b := ha.ext hb fun i => by rw [Bool.eq_iff_iff]; exact ⟨h i, g i⟩
theorem sub_and {a b c : Cd} : Sub c (SAnd a b) ↔ Sub c a ∧ Sub c b := by
  constructor
  · intro h
    constructor <;> (intro i hi; have := h i hi; rw [bit_SAnd, Bool.and_eq_true] at this)
    · exact this.1
    · exact this.2
  · rintro ⟨h, g⟩ i hi
    rw [bit_SAnd, h i hi, g i hi]; rfl
theorem and_left (a b : Cd) : Sub (SAnd a b) a := (sub_and.1 (Sub.refl _)).1
theorem and_right (a b : Cd) : Sub (SAnd a b) b := (sub_and.1 (Sub.refl _)).2
theorem and_eq {a b : Cd} (ha : IsS a) (h : Sub a b) : SAnd a b = a := Sub.anti (ha.and b) ha (and_left a b) (sub_and.2 ⟨Sub.refl _, h⟩)
theorem sub_of_and {a b : Cd} (h : SAnd a b = a) : Sub a b := by rw [← h]; exact and_right a b
theorem sub_or {a b c : Cd} : Sub (SOr a b) c ↔ Sub a c ∧ Sub b c := by
  constructor
  · intro h
    constructor <;> (intro i hi; refine h i ?_; rw [bit_SOr, hi]; simp)
  · rintro ⟨h, g⟩ i hi
    rw [bit_SOr, Bool.or_eq_true] at hi
    rcases hi with e | e
    · exact h i e
    · exact g i e

/-! The number of elements. -/
def cnS (f : Cd) : Nat := (lst f (64 * f.length)).length
theorem cnS_at (f : Cd) {k : Nat} (h : 64 * f.length ≤ k) : cnS f = (lst f k).length := by
  unfold cnS
  rw [show k = 64 * f.length + (k - 64 * f.length) by omega, lst_more _ _ _ (Nat.le_refl _)]
theorem filter_lt {α : Type} {p q : α → Bool} : ∀ {l : List α}, (∀ x ∈ l, p x = true → q x = true) → ((l.filter p).length ≤ (l.filter q).length) ∧ ((∃ x ∈ l, p x = false ∧ q x = true) → (l.filter p).length < (l.filter q).length)
  | [], _ => ⟨Nat.le_refl _, fun ⟨_, h, _⟩ => by cases h⟩
  | a :: l, h => by
    obtain ⟨h1, h2⟩ := filter_lt (p := p) (q := q) (l := l) fun x hx => h x (List.mem_cons_of_mem _ hx)
    rw [List.filter_cons, List.filter_cons]
    cases hp : p a with
    | true =>
      have hq := h a (List.mem_cons_self ..) hp
      simp only [hq, if_true, List.length_cons]
      refine ⟨by omega, ?_⟩
      rintro ⟨x, hx, hx1, hx2⟩
      rcases List.mem_cons.1 hx with e | e
      · rw [e, hp] at hx1; cases hx1
      · have := h2 ⟨x, e, hx1, hx2⟩; omega
    | false =>
      cases hq : q a with
      | true =>
        simp only [if_true, Bool.false_eq_true, if_false, List.length_cons]
        exact ⟨by omega, fun _ => by omega⟩
      | false =>
        simp only [Bool.false_eq_true, if_false]
        refine ⟨h1, ?_⟩
        rintro ⟨x, hx, hx1, hx2⟩
        rcases List.mem_cons.1 hx with e | e
        · rw [e, hq] at hx2; cases hx2
        · exact h2 ⟨x, e, hx1, hx2⟩
theorem bit_lt {f : Cd} {i : Nat} (h : bit f i = true) : i < 64 * f.length := by
  rcases Nat.lt_or_ge i (64 * f.length) with g | g
  · exact g
  · rw [bit_out f i (by omega)] at h; cases h
theorem cnS_lt {a b : Cd} (ha : IsS a) (hb : IsS b) (h : Sub a b) (hne : a ≠ b) : cnS a < cnS b := by
  have e1 := cnS_at a (k := 64 * a.length + 64 * b.length) (by omega)
  have e2 := cnS_at b (k := 64 * a.length + 64 * b.length) (by omega)
  rw [e1, e2]
  unfold S.lst
  refine (filter_lt fun x _ => h x).2 ?_
  refine Classical.byContradiction fun hn => hne (Sub.anti ha hb h fun i hi => ?_)
  cases e : bit a i with
  | true => rfl
  | false =>
    have := bit_lt hi
    exact absurd ⟨i, List.mem_range.2 (by omega), e, hi⟩ hn
theorem cnS_zero {a : Cd} (ha : IsS a) : cnS a = 0 ↔ a = [] := by
  constructor
  · intro h
    refine Classical.byContradiction fun hne => ?_
    have := cnS_lt IsS.nil ha (fun i hi => by rw [bit_nil] at hi; cases hi) (Ne.symm hne)
    omega
  · rintro rfl; rfl

/-! The order of the types. -/
def bef (x y : Str × Cd) : Prop := cnS y.2 < cnS x.2 ∨ cnS x.2 = cnS y.2 ∧ x.1 < y.1
instance (x y : Str × Cd) : Decidable (bef x y) := by unfold bef; exact inferInstance
theorem bef_asym (x y : Str × Cd) (h : bef x y) : ¬ bef y x := by
  unfold bef at *
  rintro (g | ⟨g1, g2⟩)
  · omega
  · rcases h with h | ⟨_, h⟩
    · omega
    · exact absurd g2 (List.lt_asymm h)
theorem bef_tri {x y : Str × Cd} (h : x.1 ≠ y.1) : bef x y ∨ bef y x := by
  unfold bef
  rcases Nat.lt_trichotomy (cnS x.2) (cnS y.2) with e | e | e
  · exact .inr (.inl e)
  · rcases str_tri x.1 y.1 with g | g | g
    · exact .inl (.inr ⟨e, g⟩)
    · exact absurd g h
    · exact .inr (.inr ⟨e.symm, g⟩)
  · exact .inl (.inl e)
theorem bef_trans {x y z : Str × Cd} (h : bef x y) (g : bef y z) : bef x z := by
  unfold bef at *
  rcases h with h | ⟨h1, h2⟩
  · rcases g with g | ⟨g1, _⟩
    · exact .inl (by omega)
    · exact .inl (by omega)
  · rcases g with g | ⟨g1, g2⟩
    · exact .inl (by omega)
    · exact .inr ⟨by omega, List.lt_trans h2 g2⟩
theorem put_pair {out : List (Str × Cd)} {x : Str × Cd} {k : Nat} (h : out.Pairwise bef) (hlo : ∀ y ∈ out.take k, bef y x) (hhi : ∀ y ∈ out.drop k, bef x y) : (out.take k ++ x :: out.drop k).Pairwise bef := by
  rw [List.pairwise_append]
  have h' := h
  rw [← List.take_append_drop k out, List.pairwise_append] at h'
  refine ⟨h'.1, List.pairwise_cons.2 ⟨hhi, h'.2.1⟩, ?_⟩
  intro a ha b hb
  rcases List.mem_cons.1 hb with e | e
  · rw [e]; exact hlo a ha
  · exact h'.2.2 a ha b e
/-- The place that a search from behind finds. -/
theorem put_back {out : List (Str × Cd)} {x : Str × Cd} {k : Nat} (h : out.Pairwise bef) (hne : ∀ y ∈ out, y.1 ≠ x.1) (hhi : ∀ y ∈ out.drop k, bef x y) (hk : k = 0 ∨ ∃ y, out[k - 1]? = some y ∧ ¬ bef x y) : (out.take k ++ x :: out.drop k).Pairwise bef := by
  refine put_pair h ?_ hhi
  rcases hk with rfl | ⟨y, hy, hn⟩
  · intro y hy; simp at hy
  · intro z hz
    have hy' : bef y x := (bef_tri (hne y (List.mem_of_getElem? hy))).resolve_right hn
    obtain ⟨j, hj⟩ := List.getElem?_of_mem hz
    have hjk : j < k := by
      have := (List.getElem?_eq_some_iff.1 hj).1
      rw [List.length_take] at this; omega
    rw [List.getElem?_take_of_lt hjk] at hj
    rcases Nat.lt_or_ge j (k - 1) with g | g
    · obtain ⟨hj1, rfl⟩ := List.getElem?_eq_some_iff.1 hj
      obtain ⟨hy1, rfl⟩ := List.getElem?_eq_some_iff.1 hy
      exact bef_trans (List.pairwise_iff_getElem.1 h j (k - 1) hj1 hy1 g) hy'
    · rw [show j = k - 1 by omega, hy] at hj; cases hj; exact hy'
def insT (out : List (Str × Cd)) (x : Str × Cd) : List (Str × Cd) := out.take (out.takeWhile fun y => decide (bef y x)).length ++ x :: out.drop (out.takeWhile fun y => decide (bef y x)).length
theorem mem_insT {out : List (Str × Cd)} {x z : Str × Cd} : z ∈ insT out x ↔ z = x ∨ z ∈ out := by
  unfold insT
  generalize (out.takeWhile fun y => decide (bef y x)).length = k
  conv => rhs; rw [← List.take_append_drop k out]
  rw [List.mem_append, List.mem_cons, List.mem_append]
  constructor
  · rintro (h | h | h)
    · exact .inr (.inl h)
    · exact .inl h
    · exact .inr (.inr h)
  · rintro (h | h | h)
    · exact .inr (.inl h)
    · exact .inl h
    · exact .inr (.inr h)
theorem drop_while (p : Str × Cd → Bool) : ∀ l : List (Str × Cd), l.take (l.takeWhile p).length = l.takeWhile p ∧ l.drop (l.takeWhile p).length = l.dropWhile p
  | [] => ⟨rfl, rfl⟩
  | a :: l => by
    obtain ⟨h1, h2⟩ := drop_while p l
    rw [List.takeWhile_cons, List.dropWhile_cons]
    cases p a with
    | true => exact ⟨by simp only [if_true, List.length_cons, List.take_succ_cons, h1], by simp only [if_true, List.length_cons, List.drop_succ_cons, h2]⟩
    | false => exact ⟨rfl, rfl⟩
theorem while_all (p : Str × Cd → Bool) : ∀ (l : List (Str × Cd)) (y : Str × Cd), y ∈ l.takeWhile p → p y = true
  | [], _, h => by cases h
  | a :: l, y, h => by
    rw [List.takeWhile_cons] at h
    cases e : p a with
    | true =>
      rw [e, if_pos rfl] at h
      rcases List.mem_cons.1 h with g | g
      · rw [g]; exact e
      · exact while_all p l y g
    | false => rw [e] at h; cases h
theorem insT_pair {out : List (Str × Cd)} {x : Str × Cd} (h : out.Pairwise bef) (hne : ∀ y ∈ out, y.1 ≠ x.1) : (insT out x).Pairwise bef := by
  unfold insT
  obtain ⟨e1, e2⟩ := drop_while (fun y => decide (bef y x)) out
  refine put_pair h ?_ ?_
  · rw [e1]
    intro y hy
    exact of_decide_eq_true (while_all _ out y hy)
  · rw [e2]
    cases hd : out.dropWhile fun y => decide (bef y x) with
    | nil => intro y hy; cases hy
    | cons d r =>
      have hdn : ¬ bef d x := by
        have := List.head?_dropWhile_not (fun y => decide (bef y x)) out
        rw [hd] at this
        simpa using this
      have hsub : (d :: r).Sublist out := by rw [← hd]; exact List.dropWhile_sublist _
      have hxd : bef x d := (bef_tri (hne d (hsub.subset (List.mem_cons_self ..)))).resolve_left hdn
      have hp := h.sublist hsub
      intro y hy
      rcases List.mem_cons.1 hy with e | e
      · rw [e]; exact hxd
      · exact bef_trans hxd ((List.pairwise_cons.1 hp).1 y e)
def tys (D : List Dec) : List (Str × Cd) := ((fam D).map fun f => (nam D f, f)).foldl insT []
theorem fold_ins : ∀ (l acc : List (Str × Cd)), acc.Pairwise bef → (∀ x ∈ l, ∀ y ∈ acc, y.1 ≠ x.1) → (l.map Prod.fst).Nodup → (l.foldl insT acc).Pairwise bef ∧ ∀ z, z ∈ l.foldl insT acc ↔ z ∈ acc ∨ z ∈ l
  | [], acc, h, _, _ => ⟨h, fun z => by simp⟩
  | x :: l, acc, h, hne, hn => by
    obtain ⟨hx, hl⟩ := List.pairwise_cons.1 (show (x.1 :: l.map Prod.fst).Pairwise (· ≠ ·) from hn)
    obtain ⟨h1, h2⟩ := fold_ins l (insT acc x) (insT_pair h (hne x (List.mem_cons_self ..))) (fun u hu y hy => by
      rcases mem_insT.1 hy with e | e
      · rw [e]; exact hx u.1 (List.mem_map_of_mem hu)
      · exact hne u (List.mem_cons_of_mem _ hu) y e) hl
    refine ⟨h1, fun z => ?_⟩
    show z ∈ l.foldl insT (insT acc x) ↔ _
    rw [h2, mem_insT, List.mem_cons]
    constructor
    · rintro ((e | e) | e)
      · exact .inr (.inl e)
      · exact .inl e
      · exact .inr (.inr e)
    · rintro (e | e | e)
      · exact .inl (.inr e)
      · exact .inl (.inl e)
      · exact .inr e
theorem tys_spec {D : List Dec} (h : Acc D) : (tys D).Pairwise bef ∧ ∀ x, x ∈ tys D ↔ ∃ f ∈ fam D, x = (nam D f, f) := by
  obtain ⟨h1, h2⟩ := fold_ins ((fam D).map fun f => (nam D f, f)) [] List.Pairwise.nil (fun _ _ _ h => by cases h) (by
    rw [List.map_map]
    refine List.pairwise_map.2 ((fam_nodup h).imp_of_mem fun {a b} ha hb hne he => hne (nam_inj h (fam_dwn h ((mem_fam h).1 ha)) (fam_dwn h ((mem_fam h).1 hb)) he)))
  refine ⟨h1, fun x => ?_⟩
  unfold tys
  rw [h2, List.mem_map]
  constructor
  · rintro (e | ⟨f, hf, rfl⟩)
    · cases e
    · exact ⟨f, hf, rfl⟩
  · rintro ⟨f, hf, rfl⟩
    exact .inr ⟨f, hf, rfl⟩
/-- What determines the list of the types. -/
theorem tys_is {D : List Dec} (h : Acc D) {L : List (Str × Cd)} (hp : L.Pairwise bef) (hm : ∀ x, x ∈ L ↔ ∃ f ∈ fam D, x = (nam D f, f)) : L = tys D :=
  pair_ext bef_asym hp (tys_spec h).1 fun x => by rw [hm, (tys_spec h).2]
theorem tys_len {D : List Dec} (h : Acc D) : (tys D).length = (fam D).length := by
  obtain ⟨h1, h2⟩ := tys_spec h
  have hn : (tys D).Nodup := h1.imp fun {a b} hab => by rintro rfl; exact bef_asym _ _ hab hab
  have hn2 : ((fam D).map fun f => (nam D f, f)).Nodup := List.pairwise_map.2 ((fam_nodup h).imp fun {a b} hne he => hne (congrArg Prod.snd he))
  rw [nodup_same hn hn2 fun x => ?_, List.length_map]
  rw [h2, List.mem_map]
  exact ⟨fun ⟨f, a, b⟩ => ⟨f, a, b.symm⟩, fun ⟨f, a, b⟩ => ⟨f, a, b.symm⟩⟩

/-- What the list of the types keeps. -/
structure Tys (L : List (Str × Cd)) : Prop where
  pw : L.Pairwise bef
  ok : ∀ x ∈ L, IsS x.2 ∧ x.2 ≠ [] ∧ x.2.length ≤ 64
  one : ∀ x ∈ L, ∀ y ∈ L, x.2 = y.2 → x = y
  name : ∀ x ∈ L, ∀ y ∈ L, x.1 = y.1 → x = y
  cap : ∀ x ∈ L, ∀ y ∈ L, SAnd x.2 y.2 ≠ [] → ∃ z ∈ L, z.2 = SAnd x.2 y.2
  top : ∃ t ∈ L, ∀ x ∈ L, Sub x.2 t.2
theorem tys_tys {D : List Dec} (h : Acc D) : Tys (tys D) := by
  obtain ⟨h1, h2⟩ := tys_spec h
  have dw : ∀ f ∈ fam D, Dwn D f := fun f hf => fam_dwn h ((mem_fam h).1 hf)
  refine ⟨h1, ?_, ?_, ?_, ?_, ?_⟩
  · intro x hx
    obtain ⟨f, hf, rfl⟩ := (h2 x).1 hx
    exact ⟨(dw f hf).is, (dw f hf).ne, (dw f hf).len⟩
  · intro x hx y hy e
    obtain ⟨f, hf, rfl⟩ := (h2 x).1 hx
    obtain ⟨g, hg, rfl⟩ := (h2 y).1 hy
    have e' : f = g := e
    rw [e']
  · intro x hx y hy e
    obtain ⟨f, hf, rfl⟩ := (h2 x).1 hx
    obtain ⟨g, hg, rfl⟩ := (h2 y).1 hy
    rw [nam_inj h (dw f hf) (dw g hg) e]
  · intro x hx y hy hne
    obtain ⟨f, hf, rfl⟩ := (h2 x).1 hx
    obtain ⟨g, hg, rfl⟩ := (h2 y).1 hy
    exact ⟨_, (h2 _).2 ⟨_, (mem_fam h).2 (.inter ((mem_fam h).1 hf) ((mem_fam h).1 hg) hne), rfl⟩, rfl⟩
  · obtain ⟨t, ht, hall⟩ := h.top
    have hin : cod D t ∈ fam D := (mem_fam h).2 (.base (List.mem_map_of_mem (mem_al.2 ht)))
    refine ⟨_, (h2 _).2 ⟨_, hin, rfl⟩, fun x hx i hi => ?_⟩
    obtain ⟨f, hf, rfl⟩ := (h2 x).1 hx
    have hl := (dw f hf).lt i hi
    refine (bit_cod h t i).2 ⟨_, List.getElem?_eq_getElem hl, (mem_blA h).2 ⟨ht, ?_⟩⟩
    exact hall _ (mem_al.1 (List.getElem_mem hl))
end Go.Proofs.YtdeamdpoegdmdaaGreatDoor

/- Rows of sets in memory: read, owned, appended to, written into. -/
namespace Go.Proofs.YtdeamdpoegdmdaaGreatDoor
open Go.RowKit
open S (wd Is64 Fresh)

def cg (C : List Cd) (i : Nat) : Cd := C.getD i []
theorem cg_get {C : List Cd} {i : Nat} (h : i < C.length) : C[i]? = some (cg C i) := by
  unfold cg; rw [List.getD_eq_getElem?_getD, List.getElem?_eq_getElem h]; rfl
theorem cg_mem {C : List Cd} {i : Nat} (h : i < C.length) : cg C i ∈ C := List.mem_of_getElem? (cg_get h)
theorem cg_app {C : List Cd} {c : Cd} {i : Nat} : cg (C ++ [c]) i = if i < C.length then cg C i else if i = C.length then c else [] := by
  unfold cg
  rw [List.getD_eq_getElem?_getD, List.getD_eq_getElem?_getD]
  split
  · rename_i h; rw [List.getElem?_append_left h]
  · rename_i h
    rw [List.getElem?_append_right (by omega)]
    split
    · rename_i e; rw [e]; simp
    · rw [List.getElem?_eq_none (by simp; omega)]; rfl
theorem cg_set {C : List Cd} {c : Cd} {i j : Nat} (h : i < C.length) : cg (C.set i c) j = if j = i then c else cg C j := by
  unfold cg
  rw [List.getD_eq_getElem?_getD, List.getD_eq_getElem?_getD, List.getElem?_set]
  by_cases e : i = j
  · subst e; simp [h]
  · simp [e, Ne.symm e]

theorem is64_same {w w' : World} {a : Option Addr} {n cap : Nat} {xs : List Nat} (h : Is64 w a n cap xs) (hz : w.heap.size ≤ w'.heap.size) (hc : ∀ p : Addr, a = some p → w'.heap[p.block]? = w.heap[p.block]?) : Is64 w' a n cap xs :=
  ⟨h.len, h.capLe, h.maxLe, h.bnd, fun h0 => by
    obtain ⟨b, off, e, hb, hx⟩ := h.at_ h0
    exact ⟨b, off, e, Nat.lt_of_lt_of_le hb hz, fun i hi => (World.cell?_of_block (a := ⟨b, off + i, none⟩) (hc ⟨b, off, none⟩ e)).trans (hx i hi)⟩, h.nil⟩

/-- A value that is a slice reading as a set. -/
def SetV (w : World) (x : Value) (c : Cd) : Prop := ∃ a cap, x = .slice a c.length cap ∧ Is64 w a c.length cap c
theorem SetV.below {w w' : World} {x : Value} {c : Cd} (h : SetV w x c) (hb : Below w.heap.size w w') : SetV w' x c :=
  let ⟨a, cap, e, h1⟩ := h; ⟨a, cap, e, h1.below hb⟩
theorem own_slice (p : Addr) (n cap : Nat) : (Value.slice (some p) n cap).ownBlock = some p.block := rfl
theorem SetV.same {w w' : World} {x : Value} {c : Cd} (h : SetV w x c) (hz : w.heap.size ≤ w'.heap.size) (hc : ∀ b, x.ownBlock = some b → w'.heap[b]? = w.heap[b]?) : SetV w' x c := by
  obtain ⟨a, cap, e, h1⟩ := h
  exact ⟨a, cap, e, is64_same h1 hz fun p hp => hc _ (by rw [e, hp]; rfl)⟩
theorem SetV.oneC {w : World} {x : Value} {c : Cd} (h : SetV w x c) : x.oneCell' = true := by
  obtain ⟨a, cap, rfl, _⟩ := h; rfl
theorem SetV.lt {w : World} {x : Value} {c : Cd} (h : SetV w x c) (hc : c ≠ []) : ∀ b, x.ownBlock = some b → b < w.heap.size := by
  obtain ⟨a, cap, rfl, h1⟩ := h
  intro b hb
  obtain ⟨g, off, rfl, hg, _⟩ := h1.at_ (List.length_pos_iff.2 hc)
  cases hb; exact hg
theorem SetV.nil (w : World) : SetV w (.slice none 0 0) [] := ⟨none, 0, rfl, ⟨rfl, Nat.le_refl _, Nat.zero_le _, (fun i hi => absurd hi (Nat.not_lt_zero _)), (fun h => absurd h (Nat.lt_irrefl _)), fun _ => ⟨rfl, rfl⟩⟩⟩

/-- A slice of sets. -/
structure IsSets (w : World) (a : Option Addr) (n cap : Nat) (C : List Cd) : Prop where
  len : C.length = n
  capLe : n ≤ cap
  maxLe : cap ≤ maxLen
  nil_ : a = none → cap = 0
  at_ : 0 < n → ∃ b off, a = some ⟨b, off, none⟩ ∧ b < w.heap.size ∧ ∀ i, i < n → ∃ x, w.cell? ⟨b, off + i, none⟩ = some x ∧ SetV w x (cg C i)
theorem IsSets.below {w w' : World} {a : Option Addr} {n cap : Nat} {C : List Cd} (h : IsSets w a n cap C) (hb : Below w.heap.size w w') : IsSets w' a n cap C :=
  ⟨h.len, h.capLe, h.maxLe, h.nil_, fun h0 => by
    obtain ⟨b, off, e, hl, hx⟩ := h.at_ h0
    refine ⟨b, off, e, Nat.lt_of_lt_of_le hl hb.size, fun i hi => ?_⟩
    obtain ⟨x, h1, h2⟩ := hx i hi
    exact ⟨x, (hb.cell (p := ⟨b, off + i, none⟩) hl).trans h1, h2.below hb⟩⟩

/-- An element of a row in block g of a row. -/
structure Elt (w : World) (v x : Value) (c : Cd) : Prop where
  is : SetV w x c
  lt : ∀ b, x.ownBlock = some b → b < w.heap.size
  off : ∀ g, v.ownBlock = some g → x.ownBlock ≠ some g
/-- A row of sets that the call owns. -/
def OwnS (w : World) (B : Nat) (v : Value) (n : Nat) (C : List Cd) : Prop :=
  ∃ vs, w.ownsRow B 31 1 v n vs ∧ C.length = n ∧ ∀ i, i < n → ∃ x, vs[i]? = some x ∧ Elt w v x (cg C i)
theorem Elt.below {w w' : World} {v x : Value} {c : Cd} (h : Elt w v x c) (hb : Below w.heap.size w w') : Elt w' v x c :=
  ⟨h.is.below hb, fun b e => Nat.lt_of_lt_of_le (h.lt b e) hb.size, h.off⟩
theorem OwnS.below {w w' : World} {B n : Nat} {v : Value} {C : List Cd} (h : OwnS w B v n C) (hb : Below w.heap.size w w') : OwnS w' B v n C := by
  obtain ⟨vs, h1, h2, h3⟩ := h
  exact ⟨vs, owns_below h1 hb, h2, fun i hi => let ⟨x, e, k⟩ := h3 i hi; ⟨x, e, k.below hb⟩⟩
theorem OwnS.form {w : World} {B n : Nat} {v : Value} {C : List Cd} (h : OwnS w B v n C) : ∃ a cap, v = .slice a n cap ∧ n ≤ cap ∧ cap ≤ maxLen := by
  obtain ⟨vs, h1, _⟩ := h
  rcases h1.2 with ⟨rfl, rfl⟩ | ⟨g, cap, cur, rfl, _, _, h3, h4, _⟩
  · exact ⟨none, 0, rfl, Nat.le_refl _, Nat.zero_le _⟩
  · exact ⟨_, cap, rfl, h3, h4⟩
theorem OwnS.head {w : World} {B n : Nat} {v : Value} {C : List Cd} (h : OwnS w B v n C) (hn : 0 < n) : ∃ g cap, v = .slice (some ⟨g, 0, none⟩) n cap ∧ n ≤ cap ∧ cap ≤ maxLen := by
  obtain ⟨vs, h1, _⟩ := h
  rcases h1.2 with ⟨_, rfl⟩ | ⟨g, cap, cur, rfl, _, _, h3, h4, _⟩
  · exact absurd hn (Nat.lt_irrefl _)
  · exact ⟨g, cap, rfl, h3, h4⟩
theorem OwnS.lt {w : World} {B n : Nat} {v : Value} {C : List Cd} (h : OwnS w B v n C) : ∀ g, v.ownBlock = some g → B ≤ g ∧ g < w.heap.size := by
  obtain ⟨vs, h1, _⟩ := h
  exact h1.lt
theorem OwnS.isSets {w : World} {B n : Nat} {v : Value} {C : List Cd} (h : OwnS w B v n C) : ∃ a cap, v = .slice a n cap ∧ IsSets w a n cap C := by
  obtain ⟨vs, h1, hlen, hel⟩ := h
  have hh := h1
  obtain ⟨_, ⟨h2, h3⟩ | ⟨g, cap, cur, hv, hB, hg, h3, h4, h5, h6⟩⟩ := h1
  · subst h3
    exact ⟨none, 0, h2, hlen, Nat.le_refl _, Nat.zero_le _, (fun _ => rfl), fun h0 => absurd h0 (Nat.lt_irrefl _)⟩
  · refine ⟨some ⟨g, 0, none⟩, cap, hv, hlen, h3, h4, (fun e => by cases e), fun _ => ⟨g, 0, rfl, lt_of_block hg, fun i hi => ?_⟩⟩
    obtain ⟨x, e, k⟩ := hel i hi
    have := hh.cells (g := g) (by rw [hv]; rfl) i x e
    rw [show (⟨g, 0, none⟩ : Addr).add i = ⟨g, i, none⟩ by unfold Addr.add; split <;> simp_all] at this
    rw [Nat.zero_add]
    exact ⟨x, this, k.is⟩
theorem OwnS.empty (w : World) (B : Nat) : OwnS w B (.slice none 0 0) 0 [] := ⟨[], World.ownsRow_nil _ _ _ _, rfl, fun i hi => absurd hi (Nat.not_lt_zero _)⟩

/-- Behind an append of one set. -/
theorem OwnS.push {w w1 : World} {o : Obj} {B n : Nat} {v v' x : Value} {C : List Cd} {c : Cd} {vs : List Value} (hrow : w.ownsRow B 31 1 v n vs) (hlen : C.length = n) (hel : ∀ i, i < n → ∃ x, vs[i]? = some x ∧ Elt w v x (cg C i))
    (hx : Elt w v x c) (hown : w1.ownsRow B 31 1 v' (n + 1) (vs ++ [x])) (hg : (w.alloc o).grownBy w1 v.ownBlock) (hloc : v'.ownBlock = v.ownBlock ∨ v'.ownBlock = some (w.alloc o).heap.size) : OwnS w1 B v' (n + 1) (C ++ [c]) := by
  have hsz : w.heap.size ≤ w1.heap.size := by have := hg.size; simp at this; omega
  have keep : ∀ {y : Value} {d : Cd}, Elt w v y d → Elt w1 v' y d := by
    intro y d k
    refine ⟨k.is.same hsz fun b hb => ?_, fun b hb => Nat.lt_of_lt_of_le (k.lt b hb) hsz, fun g hgv hyg => ?_⟩
    · have hb1 := k.lt b hb
      rw [hg.block b (by simp; omega) (fun e => k.off b e.symm hb)]
      exact (Below.heap_alloc w o b hb1)
    · rcases hloc with e | e
      · exact k.off g (e ▸ hgv) hyg
      · rw [e] at hgv; cases hgv
        have := k.lt _ hyg
        simp at this; omega
  have hvl : vs.length = n := by have := hrow.1; omega
  refine ⟨vs ++ [x], hown, by rw [List.length_append, hlen]; rfl, fun i hi => ?_⟩
  rw [cg_app, hlen]
  rcases Nat.lt_succ_iff_lt_or_eq.1 hi with h | h
  · obtain ⟨y, hy, k⟩ := hel i h
    rw [if_pos h]
    exact ⟨y, by rw [List.getElem?_append_left (by omega)]; exact hy, keep k⟩
  · subst h
    rw [if_neg (Nat.lt_irrefl _), if_pos rfl]
    exact ⟨x, by rw [List.getElem?_append_right (by omega), hvl]; simp, keep hx⟩
theorem Tryz.infoBs : (Tryz.prog.info? 31).map (fun i => (i.zero, i.size, i.bytes)) = some (some (.slice none 0 0), 1, 24) := by kernel_rfl
set_option maxRecDepth 100000 in
/-- append of one set to an owned row of sets. -/
theorem wpList_append_set {w : World} {ops : Array Oper} {rest : List Oper} {o : Oper} {a : Act} {Q : Exit → Act → World → Prop} (hgd : o.guard = none) (s y : Operand)
    (ho : o.op = .call { callee := .builtin .append, args := #[s, y], argTypes := #[70, 70] })
    (base : Nat) (v : Value) (n : Nat) (C : List Cd) (hs : a.eval s = v) (hown : OwnS w base v n C)
    (x : Value) (c : Cd) (hx : Elt w v x c) (hy : a.eval y = .slice (some ⟨w.heap.size, 0, none⟩) 1 1) (h63 : n + 1 ≤ 1000000) (hbase : base ≤ w.heap.size)
    (h : ∀ v' w', OwnS w' base v' (n + 1) (C ++ [c]) → (w.alloc (.cells #[x] 31)).grownBy w' v.ownBlock → wpList Tryz.prog ops Q rest (a.put o.dst v') w') : wpList Tryz.prog ops Q (o :: rest) a (w.alloc (.cells #[x] 31)) := by
  obtain ⟨i0, hi, hz0, hz1, hz2⟩ := info_parts Tryz.infoBs
  obtain ⟨vs, hrow, hlen, hel⟩ := hown
  refine wpList_append_own_at _ hgd s y 70 ho base 31 i0 (.slice none 0 0) 1 24 Tryz.underlying70 hi hz0 hz1 hz2 rfl (by decide) v n vs hs (hrow.alloc _) ⟨w.heap.size, 0, none⟩ 1 1 [x] hy rfl (cell_one_new _ _ _) ?_ (by unfold maxLen; omega) (by omega) (by simp; omega) fun v' w' h1 h2 _ h4 => h v' w' (OwnS.push hrow hlen hel hx h1 h2 h4) h2
  intro u hu
  rw [List.mem_singleton] at hu
  rw [hu]; exact hx.is.oneC

/-- Behind a store of a set. -/
theorem OwnS.store {w : World} {B n g cap i : Nat} {x : Value} {C : List Cd} {c : Cd} (h : OwnS w B (.slice (some ⟨g, 0, none⟩) n cap) n C) (hi : i < n) (hx : Elt w (.slice (some ⟨g, 0, none⟩) n cap) x c) : OwnS (w.setCell ⟨g, i, none⟩ x) B (.slice (some ⟨g, 0, none⟩) n cap) n (C.set i c) := by
  obtain ⟨vs, hrow, hlen, hel⟩ := h
  have hvl : vs.length = n := by have := hrow.1; omega
  have keep : ∀ {y : Value} {d : Cd}, Elt w (.slice (some ⟨g, 0, none⟩) n cap) y d → Elt (w.setCell ⟨g, i, none⟩ x) (.slice (some ⟨g, 0, none⟩) n cap) y d := by
    intro y d k
    exact ⟨k.is.same (by simp) fun b hb => heap_setCell_other w _ b x (fun e => k.off g rfl (by rw [hb, e])), (fun b hb => by have := k.lt b hb; simpa using this), k.off⟩
  refine ⟨vs.set i x, (hrow.stored i x).1, by rw [List.length_set]; exact hlen, fun j hj => ?_⟩
  rw [cg_set (by omega)]
  by_cases e : j = i
  · subst e
    rw [if_pos rfl]
    exact ⟨x, by rw [List.getElem?_set]; simp; omega, keep hx⟩
  · rw [if_neg e]
    obtain ⟨y, hy, k⟩ := hel j hj
    exact ⟨y, by rw [List.getElem?_set, if_neg (Ne.symm e)]; exact hy, keep k⟩
theorem OwnS.cell {w : World} {B n g cap i : Nat} {C : List Cd} (h : OwnS w B (.slice (some ⟨g, 0, none⟩) n cap) n C) (hi : i < n) : ∃ x, w.cell? ⟨g, i, none⟩ = some x ∧ Elt w (.slice (some ⟨g, 0, none⟩) n cap) x (cg C i) := by
  obtain ⟨vs, hrow, hlen, hel⟩ := h
  obtain ⟨x, hx, k⟩ := hel i hi
  exact ⟨x, (hrow.cellAt i (by omega)).trans hx, k⟩
theorem OwnS.free {w : World} {B n g cap : Nat} {C : List Cd} (h : OwnS w B (.slice (some ⟨g, 0, none⟩) n cap) n C) (i : Nat) : w.frozen? ⟨g, i, none⟩ = false := by
  obtain ⟨vs, hrow, _⟩ := h
  exact hrow.frozenAt i
/-- A row that has just been made. -/
theorem OwnS.made {w : World} {B g n : Nat} (h : w.ownsRow B 31 1 (.slice (some ⟨g, 0, none⟩) n n) n (madeCells (Value.slice none 0 0).cells (n * 1)).toList) : OwnS w B (.slice (some ⟨g, 0, none⟩) n n) n (List.replicate n []) := by
  refine ⟨_, h, List.length_replicate, fun i hi => ⟨.slice none 0 0, ?_, ?_⟩⟩
  · simp [madeCells, Value.cells, Nat.mod_one, hi]
  · have : cg (List.replicate n []) i = [] := by unfold cg; rw [List.getD_eq_getElem?_getD, List.getElem?_replicate, if_pos hi]; rfl
    rw [this]
    exact ⟨SetV.nil w, (fun b hb => by cases hb), fun _ _ e => by cases e⟩
end Go.Proofs.YtdeamdpoegdmdaaGreatDoor

/- Plain: what covers, what stands apart. The walk of valid. -/
namespace Go.Proofs.YtdeamdpoegdmdaaGreatDoor
open Go.RowKit Go.Maps

theorem top_of {R : Str → Str → Prop} (tr : ∀ x y z, R x y → R y z → R x z) : ∀ (L : List Str), (∀ x ∈ L, ¬ R x x) → ∀ s, ∃ t, (t = s ∨ (t ∈ L ∧ R s t)) ∧ ∀ y ∈ L, ¬ R t y
  | [], _, s => ⟨s, .inl rfl, fun _ h => (List.not_mem_nil h).elim⟩
  | a :: L, irr, s => by
    obtain ⟨t, h1, h2⟩ := top_of tr L (fun x hx => irr x (List.mem_cons_of_mem _ hx)) s
    by_cases h : R t a
    · obtain ⟨u, g1, g2⟩ := top_of tr L (fun x hx => irr x (List.mem_cons_of_mem _ hx)) a
      have hsa : R s a := by
        rcases h1 with e | ⟨_, e⟩
        · rw [← e]; exact h
        · exact tr _ _ _ e h
      refine ⟨u, .inr ?_, fun y hy hr => ?_⟩
      · rcases g1 with e | ⟨e1, e2⟩
        · rw [e]; exact ⟨List.mem_cons_self .., hsa⟩
        · exact ⟨List.mem_cons_of_mem _ e1, tr _ _ _ hsa e2⟩
      · rcases List.mem_cons.1 hy with e | e
        · subst e
          rcases g1 with e | ⟨_, e2⟩
          · rw [e] at hr; exact irr _ (List.mem_cons_self ..) hr
          · exact irr _ (List.mem_cons_self ..) (tr _ _ _ e2 hr)
        · exact g2 y e hr
    · refine ⟨t, ?_, fun y hy hr => ?_⟩
      · rcases h1 with e | ⟨e1, e2⟩
        · exact .inl e
        · exact .inr ⟨List.mem_cons_of_mem _ e1, e2⟩
      · rcases List.mem_cons.1 hy with e | e
        · rw [e] at hr; exact h hr
        · exact h2 y e hr
theorem mem_mx {D : List Dec} (ok : Ok D) {l : List Str} {x : Str} : x ∈ mx D l ↔ x ∈ dcl D l ∧ ∀ y ∈ dcl D l, y = x ∨ ¬ Rc (up D) x y := by
  unfold mx
  rw [List.mem_filter, List.all_eq_true]
  refine and_congr_right fun hx => forall_congr' fun y => imp_congr_right fun hy => ?_
  have hxn := (mem_dcl.1 hx).2
  rw [Bool.or_eq_true, beq_iff_eq, Bool.not_eq_true', Bool.eq_false_iff]
  by_cases e : y = x
  · simp [e]
  · simp only [e, false_or]
    refine not_congr ?_
    rw [List.contains_iff_mem, mem_ab ok]
    simp [hxn, e]
theorem mem_mn {D : List Dec} (ok : Ok D) {l : List Str} {x : Str} : x ∈ mn D l ↔ x ∈ dcl D l ∧ ∀ y ∈ dcl D l, y = x ∨ ¬ Rc (up D) y x := by
  unfold mn
  rw [List.mem_filter, List.all_eq_true]
  refine and_congr_right fun hx => forall_congr' fun y => imp_congr_right fun hy => ?_
  have hyn := (mem_dcl.1 hy).2
  rw [Bool.or_eq_true, beq_iff_eq, Bool.not_eq_true', Bool.eq_false_iff]
  by_cases e : y = x
  · simp [e]
  · simp only [e, false_or]
    refine not_congr ?_
    rw [List.contains_iff_mem, mem_ab ok]
    have e2 : ¬ x = y := fun h => e h.symm
    simp [hyn, e2]
theorem mx_cov {D : List Dec} (hc : chkN D = 0) {l : List Str} {s : Str} (hs : s ∈ dcl D l) : ∃ t ∈ mx D l, s ∈ bl D t := by
  have hg := goodN hc
  obtain ⟨t, h1, h2⟩ := top_of (R := fun x y => Rc (up D) x y) (fun _ _ _ => Rc.trans) (dcl D l) (fun x hx r => hg.acyc r (mem_dcl.1 hx).2 rfl) s
  have htd : t ∈ dcl D l := by
    rcases h1 with e | e
    · rw [e]; exact hs
    · exact e.1
  refine ⟨t, (mem_mx hg.ok).2 ⟨htd, fun y hy => .inr (h2 y hy)⟩, mem_bl.2 ⟨(mem_dcl.1 htd).2, ?_⟩⟩
  rcases h1 with e | e
  · exact .inl e.symm
  · exact .inr ((rc_turn hg.ok).2 e.2)
theorem mn_cov {D : List Dec} (hc : chkN D = 0) {l : List Str} {s : Str} (hs : s ∈ dcl D l) : ∃ t ∈ mn D l, s ∈ ab D t := by
  have hg := goodN hc
  obtain ⟨t, h1, h2⟩ := top_of (R := fun x y => Rc (up D) y x) (fun _ _ _ h g => Rc.trans g h) (dcl D l) (fun x hx r => hg.acyc r (mem_dcl.1 hx).2 rfl) s
  have htd : t ∈ dcl D l := by
    rcases h1 with e | e
    · rw [e]; exact hs
    · exact e.1
  refine ⟨t, (mem_mn hg.ok).2 ⟨htd, fun y hy => .inr (h2 y hy)⟩, (mem_ab hg.ok).2 ⟨(mem_dcl.1 htd).2, ?_⟩⟩
  rcases h1 with e | e
  · exact .inl e.symm
  · exact .inr e.2
/-- A list of names of l, of which none is below another. -/
structure Aside (D : List Dec) (l L : List Str) : Prop where
  nodup : L.Nodup
  sub : ∀ x ∈ L, x ∈ l
  ap : ∀ x ∈ L, ∀ y ∈ L, x ≠ y → x ∉ bl D y
theorem mx_apart {D : List Dec} (hc : chkN D = 0) (l : List Str) : Aside D l (mx D l) := by
  have hg := goodN hc
  refine ⟨((srt_asc _).nodup).sublist List.filter_sublist, fun x hx => (mem_dcl.1 ((mem_mx hg.ok).1 hx).1).1, fun x hx y hy hne hb => ?_⟩
  rcases ((mem_mx hg.ok).1 hx).2 y ((mem_mx hg.ok).1 hy).1 with e | e
  · exact hne e.symm
  · rcases (mem_bl.1 hb).2 with g | g
    · exact hne g
    · exact e ((rc_turn hg.ok).1 g)
theorem mn_apart {D : List Dec} (hc : chkN D = 0) (l : List Str) : Aside D l (mn D l) := by
  have hg := goodN hc
  refine ⟨((srt_asc _).nodup).sublist List.filter_sublist, fun x hx => (mem_dcl.1 ((mem_mn hg.ok).1 hx).1).1, fun x hx y hy hne hb => ?_⟩
  rcases ((mem_mn hg.ok).1 hy).2 x ((mem_mn hg.ok).1 hx).1 with e | e
  · exact hne e
  · rcases (mem_bl.1 hb).2 with g | g
    · exact hne g
    · exact e ((rc_turn hg.ok).1 g)
/-- Has one of the first j of these names s among its f? -/
def covB (f : Str → List Str) (L : List Str) (s : Str) (j : Nat) : Bool := (L.take j).any fun t => inS (f t) s
theorem covB_zero (f : Str → List Str) (L : List Str) (s : Str) : covB f L s 0 = false := by unfold covB; rw [List.take_zero]; rfl
theorem covB_succ {f : Str → List Str} {L : List Str} {s : Str} {j : Nat} (h : j < L.length) : covB f L s (j + 1) = (covB f L s j || inS (f (st L j)) s) := by
  unfold covB
  rw [take_st h, List.any_append]
  simp
theorem covB_all {f : Str → List Str} {L : List Str} {s : Str} (h : ∃ t ∈ L, s ∈ f t) : covB f L s L.length = true := by
  unfold covB
  rw [List.take_length, List.any_eq_true]
  obtain ⟨t, ht, hs⟩ := h
  exact ⟨t, ht, inS_iff.2 hs⟩

def vld (D : List Dec) : Prop := lite D = true ∧ chkN D = 0
end Go.Proofs.YtdeamdpoegdmdaaGreatDoor

/- Plain: the first type of the order is above all; each comes behind what is above it. -/
namespace Go.Proofs.YtdeamdpoegdmdaaGreatDoor
open Go.RowKit Go.Maps

theorem Plc.before {D : List Dec} {a : List Str} (h : Plc D a) {x y : Str} (r : Rc (up D) x y) : ∀ b c, a = b ++ x :: c → y ∈ b := by
  induction r with
  | one e => intro b c ha; exact h.behind b c _ ha _ e
  | @more y z _ e ih =>
    intro b c ha
    have hy := ih b c ha
    obtain ⟨b1, b2, e2⟩ := List.append_of_mem hy
    have hz := h.behind b1 (b2 ++ x :: c) y (by rw [ha, e2]; simp) z e
    rw [e2]
    exact List.mem_append_left _ hz
theorem rc_before {D : List Dec} {x y : Str} (r : Rc (up D) x y) {i k : Nat} (hi : (plc D)[i]? = some x) (hk : (plc D)[k]? = some y) : k < i := by
  obtain ⟨hil, e1⟩ := List.getElem?_eq_some_iff.1 hi
  have hsp : plc D = (plc D).take i ++ x :: (plc D).drop (i + 1) := by
    rw [← e1, List.getElem_cons_drop hil, List.take_append_drop]
  have hy := (plc_plc D).before r _ _ hsp
  obtain ⟨j, hj, e2⟩ := List.getElem_of_mem hy
  rw [List.length_take] at hj
  have h2 : (plc D)[j]? = some y := by
    rw [List.getElem_take] at e2
    rw [List.getElem?_eq_getElem (by omega), e2]
  have := prefix_nodup_at (plc_plc D).nodup hk h2
  omega
theorem top_up {D : List Dec} {t : Str} {r : List Str} (e : plc D = t :: r) : up D t = [] :=
  List.eq_nil_iff_forall_not_mem.2 fun s hs => (List.not_mem_nil ((plc_plc D).behind [] r t e s hs)).elim
theorem top_one {D : List Dec} (hc : chkN D = 0) {x y : Str} (hx : x ∈ nms D) (hy : y ∈ nms D) (ex : up D x = []) (ey : up D y = []) : x = y := by
  have hg := goodN hc
  obtain ⟨d, hd, e1⟩ := List.mem_map.1 hx
  obtain ⟨d', hd', e2⟩ := List.mem_map.1 hy
  subst e1
  subst e2
  rw [up_of hg.ok.nodup hd] at ex
  rw [up_of hg.ok.nodup hd'] at ey
  have h1 : d ∈ D.filter fun d => d.sup.isEmpty := List.mem_filter.2 ⟨hd, by rw [ex]; rfl⟩
  have h2 : d' ∈ D.filter fun d => d.sup.isEmpty := List.mem_filter.2 ⟨hd', by rw [ey]; rfl⟩
  have ht := hg.top
  unfold tops at ht
  obtain ⟨z, hz⟩ := List.length_eq_one_iff.1 ht
  rw [hz, List.mem_singleton] at h1 h2
  rw [h1, h2]
theorem top_all {D : List Dec} (hc : chkN D = 0) {t : Str} {r : List Str} (e : plc D = t :: r) : ∀ x ∈ nms D, x = t ∨ Rc (up D) x t := by
  have hg := goodN hc
  have ht : t ∈ nms D := (plc_plc D).sub t (by rw [e]; simp)
  suffices ∀ n i x, i ≤ n → (plc D)[i]? = some x → x = t ∨ Rc (up D) x t from fun x hx => by
    obtain ⟨i, hi, e1⟩ := List.getElem_of_mem (hg.plc_all x hx)
    exact this i i x (Nat.le_refl _) (by rw [List.getElem?_eq_getElem hi, e1])
  intro n
  induction n with
  | zero =>
    intro i x hi hx
    obtain rfl : i = 0 := by omega
    rw [e] at hx
    exact .inl (Option.some.inj hx).symm
  | succ n ih =>
    intro i x hi hx
    have hxn : x ∈ nms D := (plc_plc D).sub x (List.mem_of_getElem? hx)
    cases hu : up D x with
    | nil => exact .inl (top_one hc hxn ht hu (top_up e))
    | cons s l =>
      have hs : s ∈ up D x := by rw [hu]; simp
      have hsn := hg.ok.up_mem hs
      obtain ⟨k, hk, e1⟩ := List.getElem_of_mem (hg.plc_all s hsn)
      have hks : (plc D)[k]? = some s := by rw [List.getElem?_eq_getElem hk, e1]
      have hlt := rc_before (.one hs) hx hks
      rcases ih k s (by omega) hks with g | g
      · rw [← g]; exact .inr (.one hs)
      · exact .inr ((Rc.one hs).trans g)
theorem top_bl {D : List Dec} (hc : chkN D = 0) {t : Str} {r : List Str} (e : plc D = t :: r) : (bl D t).length = D.length := by
  have hg := goodN hc
  have ht : t ∈ nms D := (plc_plc D).sub t (by rw [e]; simp)
  have h1 := nodup_len (bl_asc D t).nodup (b := nms D) (fun x hx => by
    rcases (mem_bl.1 hx).2 with g | g
    · rw [g]; exact ht
    · obtain ⟨y, hy⟩ := g.last
      exact dn_mem hy)
  have h2 := nodup_len hg.ok.nodup (b := bl D t) (fun x hx => mem_bl.2 ⟨ht, by
    rcases top_all hc e x hx with g | g
    · exact .inl g
    · exact .inr ((rc_turn hg.ok).2 g)⟩)
  rw [nms_len] at h1 h2
  omega
theorem top_ab {D : List Dec} (hc : chkN D = 0) {t : Str} {r : List Str} (e : plc D = t :: r) : (ab D t).length = 1 := by
  have hg := goodN hc
  have ht : t ∈ nms D := (plc_plc D).sub t (by rw [e]; simp)
  have : ab D t = [t] := by
    refine asc_ext (ab_asc D t) (by unfold Asc; simp) fun y => ?_
    rw [mem_ab hg.ok, List.mem_singleton]
    constructor
    · rintro ⟨_, g | g⟩
      · exact g
      · obtain ⟨z, hz⟩ := g.first
        rw [top_up e] at hz
        exact (List.not_mem_nil hz).elim
    · exact fun g => ⟨ht, .inl g⟩
  rw [this]; rfl
end Go.Proofs.YtdeamdpoegdmdaaGreatDoor

/- Plain: the codes of the declared types as the program builds them. -/
namespace Go.Proofs.YtdeamdpoegdmdaaGreatDoor
open S (wd nrm bit Norm WB SAnd SOr lst bit_SOr)

theorem isNam_amp {K : Nat → Bool} (hK : K 38 = false) {l : Str} (h : isNam K l = true) : l ≠ [] ∧ (38 : UInt8) ∉ l := by
  unfold isNam at h
  rw [Bool.and_eq_true, Bool.and_eq_true] at h
  obtain ⟨⟨h1, h2⟩, _⟩ := h
  have h1 := of_decide_eq_true h1
  have h2 := eq_of_beq h2
  cases l with
  | nil => simp [nameLen] at h1
  | cons b l =>
    refine ⟨by simp, fun hm => ?_⟩
    simp only [nameLen] at h1 h2
    split at h2
    · have := (pre_all _ _).1 h2 38 hm
      simp [by8, kPart, hK, kDig] at this
    · rename_i hb
      rw [if_neg hb] at h1
      exact absurd h1 (Nat.lt_irrefl _)
theorem acc_of {D : List Dec} (hc : chkN D = 0) : Acc D := by
  have hg := goodN hc
  have hnm : nmE (isNam kLow) [] D = 0 := by
    unfold chkN chk at hc
    rw [if_neg (by simp [hg.sz])] at hc
    split at hc
    · rename_i h; exact absurd hc h
    · rename_i h; exact Classical.byContradiction fun hh => h hh
  obtain ⟨_, _, hnam⟩ := nmE_zero hnm
  refine ⟨hg.ok, fun x y r hx => hg.acyc r hx, ?_, fun x hx => ?_, szE_le hg.sz, fun l s hs => mx_cov hc hs⟩
  · cases e : plc D with
    | nil =>
      have h1 := hg.all
      rw [e] at h1
      have h2 := hg.top
      unfold tops at h2
      have := List.length_filter_le (fun d : Dec => d.sup.isEmpty) D
      simp at h1
      omega
    | cons t r =>
      exact ⟨t, (plc_plc D).sub t (by rw [e]; simp), top_all hc e⟩
  · obtain ⟨d, hd, rfl⟩ := List.mem_map.1 hx
    exact isNam_amp (by decide) (hnam d hd)

def ixN (N : List Str) (x : Str) : Nat := (N.findIdx? fun y => y == x).getD 0
theorem ixN_at {N : List Str} {x : Str} (h : x ∈ N) : N[ixN N x]? = some x := by
  unfold ixN
  cases e : N.findIdx? fun y => y == x with
  | none =>
    rw [List.findIdx?_eq_none_iff] at e
    have := e x h
    simp at this
  | some k =>
    obtain ⟨hk, hp, _⟩ := List.findIdx?_eq_some_iff_getElem.1 e
    show N[k]? = some x
    rw [List.getElem?_eq_getElem hk, eq_of_beq hp]
theorem ixN_lt {N : List Str} (h0 : 0 < N.length) (x : Str) : ixN N x < N.length := by
  unfold ixN
  cases e : N.findIdx? fun y => y == x with
  | none => exact h0
  | some k => exact (List.findIdx?_eq_some_iff_getElem.1 e).1
def sng (i : Nat) : Cd := mkS fun j => j == i
theorem sng_bit {i : Nat} (h : i < 4096) (j : Nat) : bit (sng i) j = true ↔ j = i := by
  unfold sng
  rw [mkS_bit, Bool.and_eq_true, decide_eq_true_iff, beq_iff_eq]
  exact ⟨fun h => h.2, fun e => ⟨by omega, e⟩⟩
def supC (N : List Str) (i : Nat) (C : List Cd) (s : Str) : List Cd := C.set (ixN N s) (SOr (cg C (ixN N s)) (cg C i))
def stepC (D : List Dec) (C : List Cd) (x : Str) : List Cd :=
  (up D x).foldl (supC (al D) (ixN (al D) x)) (C.set (ixN (al D) x) (SOr (cg C (ixN (al D) x)) (sng (ixN (al D) x))))
def stC (D : List Dec) (pre : List Str) : List Cd := pre.foldl (stepC D) (List.replicate (al D).length [])
theorem stC_snoc (D : List Dec) (pre : List Str) (x : Str) : stC D (pre ++ [x]) = stepC D (stC D pre) x := by unfold stC; rw [List.foldl_append]; rfl

/-- What every list of sets keeps while the codes are built. -/
structure StOk (n : Nat) (C : List Cd) : Prop where
  len : C.length = n
  ok : ∀ c ∈ C, IsS c ∧ c.length ≤ 64
theorem StOk.cg {n : Nat} {C : List Cd} (h : StOk n C) (i : Nat) : IsS (cg C i) ∧ (cg C i).length ≤ 64 := by
  rcases Nat.lt_or_ge i C.length with g | g
  · exact h.ok _ (cg_mem g)
  · have : Go.Proofs.YtdeamdpoegdmdaaGreatDoor.cg C i = [] := by unfold Go.Proofs.YtdeamdpoegdmdaaGreatDoor.cg; rw [List.getD_eq_getElem?_getD, List.getElem?_eq_none g]; rfl
    rw [this]; exact ⟨IsS.nil, Nat.zero_le _⟩
theorem StOk.set {n : Nat} {C : List Cd} (h : StOk n C) (i : Nat) {a b : Cd} (ha : IsS a ∧ a.length ≤ 64) (hb : IsS b ∧ b.length ≤ 64) : StOk n (C.set i (SOr a b)) := by
  refine ⟨by rw [List.length_set]; exact h.len, fun c hc => ?_⟩
  rcases List.mem_or_eq_of_mem_set hc with e | e
  · exact h.ok c e
  · rw [e]; exact ⟨ha.1.or hb.1, Nat.le_trans (S.nrm_le _ _) (by omega)⟩
theorem sng_ok (i : Nat) : IsS (sng i) ∧ (sng i).length ≤ 64 := ⟨mkS_is _, mkS_len _⟩
theorem supC_ok {n : Nat} (N : List Str) (i : Nat) : ∀ (l : List Str) {C : List Cd}, StOk n C → StOk n (l.foldl (supC N i) C)
  | [], _, h => h
  | s :: l, _, h => supC_ok N i l (h.set _ (h.cg _) (h.cg _))
theorem stepC_ok {n : Nat} {D : List Dec} {C : List Cd} (h : StOk n C) (x : Str) : StOk n (stepC D C x) := supC_ok _ _ _ (h.set _ (h.cg _) (sng_ok _))
theorem stC_ok (D : List Dec) (pre : List Str) : StOk (al D).length (stC D pre) := by
  suffices ∀ (l : List Str) (C : List Cd), StOk (al D).length C → StOk (al D).length (l.foldl (stepC D) C) from
    this pre _ ⟨List.length_replicate, fun c hc => by rw [List.eq_of_mem_replicate hc]; exact ⟨IsS.nil, Nat.zero_le _⟩⟩
  intro l
  induction l with
  | nil => exact fun C h => h
  | cons x l ih => exact fun C h => ih _ (stepC_ok h x)

/-! What the sets are. -/
theorem ixN_inj {N : List Str} {x y : Str} (hx : x ∈ N) (hy : y ∈ N) (e : ixN N x = ixN N y) : x = y := by
  have h1 := ixN_at hx
  have h2 := ixN_at hy
  rw [e, h2] at h1
  exact (Option.some.inj h1).symm
theorem ixN_eq {N : List Str} (hn : N.Nodup) {x : Str} {j : Nat} (h : N[j]? = some x) : ixN N x = j :=
  prefix_nodup_at hn (ixN_at (List.mem_of_getElem? h)) h
theorem sup_bits {N : List Str} (hn : N.Nodup) {x : Str} (hx : x ∈ N) : ∀ (l : List Str) (C : List Cd), C.length = N.length → (∀ s ∈ l, s ∈ N ∧ s ≠ x) →
    ∀ (j : Nat) (y : Str), N[j]? = some y → ∀ i, bit (cg (l.foldl (supC N (ixN N x)) C) j) i = (bit (cg C j) i || (decide (y ∈ l) && bit (cg C (ixN N x)) i))
  | [], C, _, _, j, y, _, i => by simp
  | s :: l, C, hC, hl, j, y, hj, i => by
    obtain ⟨hs, hsx⟩ := hl s (List.mem_cons_self ..)
    have hsl : ixN N s < C.length := by rw [hC]; exact (List.getElem?_eq_some_iff.1 (ixN_at hs)).1
    have hne : ixN N x ≠ ixN N s := fun e => hsx (ixN_inj hs hx e.symm)
    rw [List.foldl_cons, sup_bits hn hx l (supC N (ixN N x) C s) (by unfold supC; rw [List.length_set]; exact hC) (fun t ht => hl t (List.mem_cons_of_mem _ ht)) j y hj i]
    unfold supC
    rw [cg_set hsl, cg_set hsl, if_neg hne]
    by_cases e : j = ixN N s
    · have hys : y = s := by
        rw [e, ixN_at hs] at hj
        exact (Option.some.inj hj).symm
      rw [if_pos e, bit_SOr, hys, ← e]
      simp
      cases bit (cg C j) i <;> cases bit (cg C (ixN N x)) i <;> simp
    · have hys : y ≠ s := by rintro rfl; exact e (ixN_eq hn hj).symm
      rw [if_neg e]
      simp [hys]
structure StC (D : List Dec) (P : List Str) (C : List Cd) : Prop where
  ok : StOk (al D).length C
  bits : ∀ j y, (al D)[j]? = some y → ∀ i, bit (cg C j) i = true ↔ ∃ z, (al D)[i]? = some z ∧ ((y ∈ P ∧ z ∈ bl D y) ∨ (y ∉ P ∧ ∃ u ∈ P, y ∈ up D u ∧ z ∈ bl D u))
theorem bl_step {D : List Dec} (h : Acc D) {x z : Str} (hx : x ∈ nms D) : z ∈ bl D x ↔ z = x ∨ ∃ u, x ∈ up D u ∧ z ∈ bl D u := by
  rw [mem_blA h]
  constructor
  · rintro ⟨_, e | r⟩
    · exact .inl e
    · cases r with
      | one hz => exact .inr ⟨z, hz, bl_self h (up_left hz)⟩
      | more r hy => exact .inr ⟨_, hy, (mem_blA h).2 ⟨up_left hy, .inr r⟩⟩
  · rintro (e | ⟨u, hu, hz⟩)
    · exact ⟨hx, .inl e⟩
    · obtain ⟨_, e | r⟩ := (mem_blA h).1 hz
      · exact ⟨hx, .inr (.one (e ▸ hu))⟩
      · exact ⟨hx, .inr (.more r hu)⟩
theorem StC.step {D : List Dec} (h : Acc D) {P : List Str} {C : List Cd} (s : StC D P C) {x : Str} (hx : x ∈ nms D) (hP : x ∉ P) (hdn : ∀ u, x ∈ up D u → u ∈ P) (hup : ∀ t ∈ up D x, t ∉ P) : StC D (P ++ [x]) (stepC D C x) := by
  have hxa := mem_al.2 hx
  have hi := ixN_at hxa
  have hil := (List.getElem?_eq_some_iff.1 hi).1
  have hil2 : ixN (al D) x < C.length := by rw [s.ok.len]; exact hil
  have hi256 : ixN (al D) x < 4096 := by have := al_len h; have := h.len; omega
  have hsup : ∀ t ∈ up D x, t ∈ al D ∧ t ≠ x := fun t ht => ⟨mem_al.2 (h.ok.up_mem ht), fun e => h.acyc x x (.one (e ▸ ht)) hx rfl⟩
  refine ⟨stepC_ok s.ok x, fun j y hj i => ?_⟩
  unfold stepC
  rw [sup_bits (al_nodup D) hxa (up D x) _ (by rw [List.length_set]; exact s.ok.len) hsup j y hj i, cg_set hil2, cg_set hil2, if_pos rfl]
  -- the set of x itself
  have hxb : bit (SOr (cg C (ixN (al D) x)) (sng (ixN (al D) x))) i = true ↔ ∃ z, (al D)[i]? = some z ∧ z ∈ bl D x := by
    rw [bit_SOr, Bool.or_eq_true, s.bits _ _ hi, sng_bit hi256]
    constructor
    · rintro (⟨z, hz, ⟨hxP, _⟩ | ⟨_, u, hu, hxu, hzu⟩⟩ | rfl)
      · exact absurd hxP hP
      · exact ⟨z, hz, (bl_step h hx).2 (.inr ⟨u, hxu, hzu⟩)⟩
      · exact ⟨x, hi, bl_self h hx⟩
    · rintro ⟨z, hz, hb⟩
      rcases (bl_step h hx).1 hb with rfl | ⟨u, hu, hzu⟩
      · exact .inr (al_one hz hi)
      · exact .inl ⟨z, hz, .inr ⟨hP, u, hdn u hu, hu, hzu⟩⟩
  rw [Bool.or_eq_true, Bool.and_eq_true, decide_eq_true_iff, hxb]
  by_cases e : j = ixN (al D) x
  · have hyx : y = x := by
      rw [e, hi] at hj
      exact (Option.some.inj hj).symm
    rw [if_pos e, hxb, hyx]
    constructor
    · rintro (⟨z, hz, hb⟩ | ⟨_, z, hz, hb⟩)
      · exact ⟨z, hz, .inl ⟨by simp, hb⟩⟩
      · exact ⟨z, hz, .inl ⟨by simp, hb⟩⟩
    · rintro ⟨z, hz, ⟨_, hb⟩ | ⟨hn, _⟩⟩
      · exact .inl ⟨z, hz, hb⟩
      · exact absurd (by simp) hn
  · have hyx : y ≠ x := by rintro rfl; exact e (ixN_eq (al_nodup D) hj).symm
    rw [if_neg e, s.bits _ _ hj]
    by_cases hyP : y ∈ P
    · have hnu : y ∉ up D x := fun hh => hup y hh hyP
      constructor
      · rintro (⟨z, hz, ⟨_, hb⟩ | ⟨hn, _⟩⟩ | ⟨hh, _⟩)
        · exact ⟨z, hz, .inl ⟨List.mem_append.2 (.inl hyP), hb⟩⟩
        · exact absurd hyP hn
        · exact absurd hh hnu
      · rintro ⟨z, hz, ⟨_, hb⟩ | ⟨hn, _⟩⟩
        · exact .inl ⟨z, hz, .inl ⟨hyP, hb⟩⟩
        · exact absurd (List.mem_append.2 (.inl hyP)) hn
    · have hyP2 : y ∉ P ++ [x] := fun hh => by
        rcases List.mem_append.1 hh with g | g
        · exact hyP g
        · exact hyx (by simpa using g)
      constructor
      · rintro (⟨z, hz, ⟨hh, _⟩ | ⟨_, u, hu, hyu, hb⟩⟩ | ⟨hyu, z, hz, hb⟩)
        · exact absurd hh hyP
        · exact ⟨z, hz, .inr ⟨hyP2, u, List.mem_append.2 (.inl hu), hyu, hb⟩⟩
        · exact ⟨z, hz, .inr ⟨hyP2, x, by simp, hyu, hb⟩⟩
      · rintro ⟨z, hz, ⟨hh, _⟩ | ⟨_, u, hu, hyu, hb⟩⟩
        · exact absurd hh hyP2
        · rcases List.mem_append.1 hu with g | g
          · exact .inl ⟨z, hz, .inr ⟨hyP, u, g, hyu, hb⟩⟩
          · rw [List.mem_singleton] at g
            subst g
            exact .inr ⟨hyu, z, hz, hb⟩
theorem stC_suf {D : List Dec} (h : Acc D) (hall : ∀ x ∈ nms D, x ∈ plc D) : ∀ (suf pre : List Str), plc D = pre ++ suf → StC D suf.reverse (stC D suf.reverse)
  | [], _, _ => ⟨stC_ok D [], fun j y hj i => by
      have e : cg (stC D ([] : List Str).reverse) j = [] := by
        show cg (List.replicate (al D).length []) j = []
        unfold cg
        rw [List.getD_eq_getElem?_getD, List.getElem?_replicate, if_pos (List.getElem?_eq_some_iff.1 hj).1]; rfl
      rw [e, bit_nil]
      constructor
      · intro hh; cases hh
      · rintro ⟨z, _, ⟨hh, _⟩ | ⟨_, u, hu, _⟩⟩
        · simp at hh
        · simp at hu⟩
  | x :: suf, pre, e => by
    have P := plc_plc D
    have hn := P.nodup
    have ih := stC_suf h hall suf (pre ++ [x]) (by rw [e]; simp)
    rw [List.reverse_cons, stC_snoc]
    have hx : x ∈ nms D := P.sub x (by rw [e]; simp)
    have hnd : (pre ++ x :: suf).Nodup := by rw [← e]; exact hn
    rw [List.nodup_append] at hnd
    obtain ⟨hn1, hn2, hn3⟩ := hnd
    obtain ⟨hxs, _⟩ := List.nodup_cons.1 hn2
    refine ih.step h hx (fun hm => hxs (List.mem_reverse.1 hm)) (fun u hu => ?_) (fun t ht hm => ?_)
    · have hun : u ∈ plc D := hall u (up_left hu)
      obtain ⟨b, c, ebc⟩ := List.append_of_mem hun
      have hxb := P.behind b c u ebc x hu
      rw [List.mem_reverse]
      rw [e] at hun
      rcases List.mem_append.1 hun with g | g
      · exfalso
        -- u stands before x, and x before u
        obtain ⟨k, hk⟩ := List.getElem?_of_mem g
        obtain ⟨m, hm⟩ := List.getElem?_of_mem hxb
        have hkl := (List.getElem?_eq_some_iff.1 hk).1
        have hml := (List.getElem?_eq_some_iff.1 hm).1
        have a1 : (plc D)[k]? = some u := by rw [e, List.getElem?_append_left hkl]; exact hk
        have a2 : (plc D)[b.length]? = some u := by rw [ebc, List.getElem?_append_right (Nat.le_refl _)]; simp
        have a3 : (plc D)[m]? = some x := by rw [ebc, List.getElem?_append_left hml]; exact hm
        have a4 : (plc D)[pre.length]? = some x := by rw [e, List.getElem?_append_right (Nat.le_refl _)]; simp
        have e1 := prefix_nodup_at hn a1 a2
        have e2 := prefix_nodup_at hn a3 a4
        omega
      · rcases List.mem_cons.1 g with g | g
        · exact absurd rfl (h.acyc u x (.one hu) (up_left hu) |> fun hne => by rw [g] at hne; exact hne)
        · exact g
    · have := P.behind pre suf x e t ht
      exact hn3 t this t (List.mem_cons_of_mem _ (List.mem_reverse.1 hm)) rfl
theorem stC_cods {D : List Dec} (h : Acc D) (hall : ∀ x ∈ nms D, x ∈ plc D) : stC D (plc D).reverse = cods D := by
  have hs := stC_suf h hall (plc D) [] rfl
  apply List.ext_getElem?
  intro j
  rcases Nat.lt_or_ge j (al D).length with hj | hj
  · have h1 : j < (stC D (plc D).reverse).length := by rw [hs.ok.len]; exact hj
    rw [cg_get h1]
    unfold cods
    rw [List.getElem?_map, List.getElem?_eq_getElem hj]
    show some _ = some _
    congr 1
    refine (hs.ok.ok _ (cg_mem h1)).1.ext (cod_is D _) fun i => ?_
    rw [Bool.eq_iff_iff, hs.bits j _ (List.getElem?_eq_getElem hj), bit_cod h]
    have hmem : (al D)[j] ∈ (plc D).reverse := List.mem_reverse.2 (hall _ (mem_al.1 (List.getElem_mem hj)))
    constructor
    · rintro ⟨z, hz, ⟨_, hb⟩ | ⟨hn, _⟩⟩
      · exact ⟨z, hz, hb⟩
      · exact absurd hmem hn
    · rintro ⟨z, hz, hb⟩
      exact ⟨z, hz, .inl ⟨hmem, hb⟩⟩
  · rw [List.getElem?_eq_none (by rw [hs.ok.len]; exact hj), List.getElem?_eq_none (by unfold cods; rw [List.length_map]; exact hj)]
end Go.Proofs.YtdeamdpoegdmdaaGreatDoor

/- A drawn region in the body of a range over a function: it may be walked as everywhere. -/
namespace Go.Proofs.YtdeamdpoegdmdaaGreatDoor
open Go

theorem rowsIn_round {l n : Nat} {P : Program} {row : String} {args : Array Value} {w : World} {R : Value → World → Prop} (h : Rows P row args w R) : RowsIn (Fence.wide.inRound l) n P row args w R :=
  fun c cs _ => let ⟨v, w', r, s⟩ := h c cs; ⟨v, w', r, stepsIn_wide.2 s⟩

theorem wpOper_round {l n : Nat} {P : Program} {o : Oper} {a : Act} {w : World} {K : Act → World → Prop} {Q : Exit → Act → World → Prop} (hd : ∀ c, o.op ≠ .defer c) (h : o.wp P a w K Q) : o.wpIn (Fence.wide.inRound l) n P a w K Q := by
  unfold Oper.wpIn
  unfold Oper.wp at h
  refine ⟨fun f _ => trivial, ?_⟩
  have e : o.semAt (Fence.wide.inRound l).round a.eval = execOp a.eval o := Oper.semAt_some l _ o hd
  rw [e]
  generalize (execOp a.eval o).run P w = r at *
  cases r with
  | ok nx w' =>
    cases nx with
    | value v => exact h
    | skip => exact h
    | defer d => exact h
    | enter f args => exact ⟨(fun hh => by cases hh), CallsIn.inRound l (callsIn_wide.2 h)⟩
    | row row args => exact ⟨(fun hh => by cases hh), rowsIn_round h⟩
    | _ => exact h.elim
  | halt x w' => cases x <;> exact h

theorem wpAny_round {l n : Nat} {P : Program} {md : Region.Mode} {ops : Array Oper} {Q : Exit → Act → World → Prop} (hL : ¬ LetsOut Q) (hd : ∀ (i : Nat) (o : Oper), ops[i]? = some o → ∀ c, o.op ≠ Op.defer c) :
    ∀ (fuel : Nat) (listed : Array Bool) (a : Act) (w : World), wpAny P md ops Q fuel listed a w → wpAnyIn (Fence.wide.inRound l) n P md ops Q fuel listed a w
  | 0, _, _, _, h => h
  | fuel + 1, listed, a, w, h => by
    refine ⟨h.1, fun i hi => ?_⟩
    have h1 := h.2 i hi
    unfold wpOp at h1
    unfold wpOpIn
    cases ho : ops[i]? with
    | none =>
      simp only [ho] at h1 ⊢
      exact wpAny_round hL hd fuel _ _ _ h1
    | some o =>
      simp only [ho] at h1 ⊢
      split
      · rename_i hw
        rw [if_pos hw] at h1
        rcases h1 with h1 | h1
        · exact wpOper_round (hd i o ho) (Oper.wp_mono (fun a w hk => wpAny_round hL hd fuel _ _ _ hk) h1)
        · exact absurd h1.2 hL
      · rename_i hw
        rw [if_neg hw] at h1
        exact ⟨fun _ _ => trivial, wpAny_round hL hd fuel _ _ _ h1⟩

def noDefer (ops : Array Oper) : Bool := ops.all fun o => match o.op with
  | .defer _ => false
  | _ => true
theorem noDefer_spec {ops : Array Oper} (h : noDefer ops = true) : ∀ (i : Nat) (o : Oper), ops[i]? = some o → ∀ c, o.op ≠ Op.defer c := by
  intro i o ho c e
  unfold noDefer at h
  rw [Array.all_eq_true'] at h
  have := h o (Array.mem_of_getElem? ho)
  rw [e] at this
  cases this
/-- The beginning: the world behind the draw meets S. -/
theorem wpIn_region_held {l n : Nat} {P : Program} {id : Nat} {ops : Array Oper} {Q : Exit → Act → World → Prop} {S : World → Prop} {a : Act} {w : World} (hm : P.follows .mixedOrders = true) (hL : ¬ LetsOut Q) (hd : noDefer ops = true) (hS : S w.drew)
    (h : S w.drew → wpAnyH P .any ops Q S ops.size (Array.replicate ops.size false) a w.drew) : (Code.region id ops true).wpIn (Fence.wide.inRound l) n P Q a w :=
  wpIn_region_any hm (wpAny_round hL (noDefer_spec hd) _ _ _ _ (wpAny_of_held _ _ _ _ (h hS)))
end Go.Proofs.YtdeamdpoegdmdaaGreatDoor

/- Walks of package closure: declaredCodes. -/
namespace Go.Proofs.YtdeamdpoegdmdaaGreatDoor
open Go.RowKit Go.Maps Go.Shelf
open S (wd Is64 Fresh subB bit SAnd SOr)
attribute [local go_sem] Oper.semAt_some

theorem Of_one (w : World) (i : Nat) (hi : i < 4096) :
    Calls Tryz.prog 82 #[.slice (some ⟨w.heap.size, 0, none⟩) 1 1] (w.alloc (.cells #[.int .i64 (i : Int)] 3)) fun e w' => ∃ a cap, e = .returned (.tuple #[.slice a (sng i).length cap, .int .i64 0]) ∧ Is64 w' a (sng i).length cap (sng i) ∧ Below (w.alloc (.cells #[.int .i64 (i : Int)] 3)).heap.size (w.alloc (.cells #[.int .i64 (i : Int)] 3)) w' := by
  have hb := S.built_int w [(i : Int)] (fun z hz => by rw [List.mem_singleton] at hz; rw [hz]; omega) (by simp)
  refine (S.Of_any _ _ _ _ _ hb).mono fun e w' h => ?_
  exact h.eq (fun k hk => by
    obtain rfl : k = 0 := by simpa using hk
    show 0 ≤ (i : Int) ∧ (i : Int) ≤ 4095
    omega) (sng_ok i).1.1 (sng_ok i).1.2 (fun j => by
    rw [Bool.eq_iff_iff, sng_bit hi]
    show _ ↔ S.inL [(i : Int)] 1 j = true
    simp [S.inL, S.wi]
    omega)

theorem gb_below {w w' : World} {row : Option Nat} (h : Below w.heap.size w w') : w.grownBy w' row := ⟨h.os, h.tape, h.output, h.size, fun k hk _ => h.block k hk⟩
theorem gb_drew (w : World) (row : Option Nat) : w.grownBy w.drew row := ⟨rfl, rfl, rfl, Nat.le_refl _, fun _ _ _ => rfl⟩
theorem is64_kept {w w' : World} {a : Option Addr} {n cap : Nat} {xs : List Nat} {row : Option Nat} (h : Is64 w a n cap xs) (hg : w.grownBy w' row) (hr : ∀ r, row = some r → ∃ o : Obj, w.heap[r]? = some o ∧ o.isCells = false) : Is64 w' a n cap xs :=
  ⟨h.len, h.capLe, h.maxLe, h.bnd, (fun h0 => by
    obtain ⟨b, off, e, hb, hx⟩ := h.at_ h0
    exact ⟨b, off, e, Nat.lt_of_lt_of_le hb hg.size, fun i hi => cell_kept (hx i hi) hg hr⟩), h.nil⟩
theorem OwnS.keptO {w w' : World} {B n : Nat} {v : Value} {C : List Cd} {row : Option Nat} (h : OwnS w B v n C) (hg : w.grownBy w' row) (hr : ∀ r, row = some r → ∃ o : Obj, w.heap[r]? = some o ∧ o.isCells = false) : OwnS w' B v n C := by
  obtain ⟨vs, h1, h2, h3⟩ := h
  refine ⟨vs, h1.kept hg ?_, h2, fun i hi => ?_⟩
  · cases hv : v.ownBlock with
    | none => exact .inl rfl
    | some g =>
      refine .inr fun e => ?_
      obtain ⟨o, ho, hc⟩ := hr g e.symm
      rcases h1.2 with ⟨rfl, _⟩ | ⟨g', cap, cur, rfl, _, hgg, _⟩
      · cases hv
      · cases hv
        rw [hgg] at ho
        cases ho
        cases hc
  · obtain ⟨x, e, k⟩ := h3 i hi
    obtain ⟨a, cap, ex, h64⟩ := k.is
    exact ⟨x, e, ⟨⟨a, cap, ex, is64_kept h64 hg hr⟩, fun b hb => Nat.lt_of_lt_of_le (k.lt b hb) hg.size, k.off⟩⟩
theorem lookup_run {w : World} {t e : TypeId} (ht : Tryz.prog.underlying t = some (.map 9 e)) {z : Value} (hz : (zeroValue e).run Tryz.prog w = .ok z w) {b n : Nat} {M : DataW Value} (hown : w.ownsMap Tryz.prog 9 raw b n M) {s : Str} (hs : s.length ≤ maxLen) :
    (Instr.lookup t (.map (some b)) (.string (mk s)) false).run Tryz.prog w = .ok (mget M s z) w := by
  obtain ⟨v, ps, hrun, hv⟩ := hown.lookup lawS ht hz (zd := .held z) (zp := []) rfl (keyS hs)
  have e1 : mget M s z = v := by
    unfold mget
    unfold raw at hv
    have := congrArg (fun y : DataW Value × List MemPlace => y.1) (Option.some.inj hv)
    simp only at this
    rw [← this]; rfl
  rw [e1]
  exact hrun

def ixK (N : List Str) (k : Nat) (x : Str) : Nat := if x ∈ N.take k then ixN N x else 0
theorem ixK_zero (N : List Str) (x : Str) : ixK N 0 x = 0 := by unfold ixK; simp
theorem ixK_succ {N : List Str} (hn : N.Nodup) {k : Nat} (hk : k < N.length) (x : Str) : ixK N (k + 1) x = if x = st N k then k else ixK N k x := by
  unfold ixK
  rw [take_st hk]
  by_cases e : x = st N k
  · rw [if_pos e, if_pos (by rw [e]; simp)]
    exact ixN_eq hn (by rw [e]; exact st_get hk)
  · rw [if_neg e]
    have : x ∈ N.take k ++ [st N k] ↔ x ∈ N.take k := by simp [e]
    simp only [this]
theorem ixK_all (N : List Str) (x : Str) : ixK N N.length x = ixN N x := by
  unfold ixK
  rw [List.take_length]
  split
  · rfl
  · rename_i h
    unfold ixN
    rw [List.findIdx?_eq_none_iff.2 (fun y hy => by simp; rintro rfl; exact h hy)]; rfl
/-- The map from names to their places. -/
def IdxM (w : World) (b : Nat) (n k : Nat) (N : List Str) : Prop := ∃ M, w.ownsMap Tryz.prog 9 raw b n M ∧ ∀ x, mget M x (.int .i64 0) = .int .i64 ((ixK N k x : Nat) : Int)
theorem IdxM.below {w w' : World} {b n k : Nat} {N : List Str} (h : IdxM w b n k N) (hb : Below w.heap.size w w') : IdxM w' b n k N :=
  let ⟨M, h1, h2⟩ := h; ⟨M, map_below h1 hb, h2⟩

theorem up_dif {D : List Dec} (h : Acc D) {s x : Str} (hx : x ∈ up D s) : s ∈ al D ∧ x ∈ al D ∧ x ≠ s := by
  have hs := up_left hx
  have hxn : x ∈ nms D := by
    obtain ⟨d, hd, rfl⟩ := List.mem_map.1 hs
    rw [up_of h.ok.nodup hd] at hx
    exact h.ok.decl d hd x hx
  exact ⟨mem_al.2 hs, mem_al.2 hxn, fun e => h.acyc s x (.one hx) hs e.symm⟩
theorem supC_at {N : List Str} {i : Nat} : ∀ (l : List Str) (C : List Cd), (∀ s ∈ l, ixN N s ≠ i) → cg (l.foldl (supC N i) C) i = cg C i
  | [], _, _ => rfl
  | s :: l, C, h => by
    rw [List.foldl_cons, supC_at l _ (fun x hx => h x (List.mem_cons_of_mem _ hx))]
    unfold supC cg
    rw [List.getD_eq_getElem?_getD, List.getElem?_set_ne (h s (List.mem_cons_self ..)), ← List.getD_eq_getElem?_getD]
/-- What holds between two rounds over the supertypes of the name s. -/
structure UpS (W wi : World) (B g n : Nat) (C : List Cd) : Prop where
  own : OwnS wi B (.slice (some ⟨g, 0, none⟩) n n) n C
  gr : W.grownBy wi (some g)

set_option maxRecDepth 100000 in
set_option maxHeartbeats 3200000 in
theorem declaredCodes_any (w : World) (a : Option Addr) (n cap : Nat) (D : List Dec) (h : IsDecs w a n cap D) (hc : chkN D = 0) (oa : Option Addr) (oc : Nat) (ho : IsStrs w oa n oc (plc D)) (na : Option Addr) (nc : Nat) (hna : IsStrs w na n nc (al D)) :
    Calls Tryz.prog 43 #[.slice a n cap, .slice oa n oc, .slice na n nc] w fun e w' => ∃ v, e = .returned v ∧ OwnS w' w.heap.size v n (cods D) ∧ Below w.heap.size w w' := by
  have hm := h.maxLe
  have hcx := h.capLe
  unfold maxLen at hm
  have HL := Lib.hid h.len
  have H := Lib.hid h
  have HO := Lib.hid ho
  have HN := Lib.hid hna
  have HC := Lib.hid hc
  have hn : n ≤ 256 := (good_up h hc).2.2.2.2.1
  have HND := Lib.hid (goodN hc).ok.nodup
  clear h hc ho hna
  have hmm := fun x w => run_makeMapN Tryz.underlying91 x w
  refine (callsIn_wide (n := 5)).1 ?_
  refine callsIn_of_wp_marks Tryz.func43 rfl trivial ?_ rfl
  simp only [Tryz.ntmps43, List.size_toArray, List.length_cons, List.length_nil, Nat.reduceAdd, Nat.reduceSub, Array.replicate_succ, Array.replicate_zero, List.push_toArray, List.append_toArray, List.nil_append, List.cons_append]
  refine wpIn_wide.2 ?_
  go_wp2
  clear hmm
  have hbx : ((w.alloc (.map #[] 0)).alloc (.cells #[.map (some w.heap.size)] 91)).cell? ⟨w.heap.size + 1, 0, none⟩ = some (.map (some w.heap.size)) := by
    have := cell_of_one (heap_alloc_new (w.alloc (.map #[] 0)) (.cells #[.map (some w.heap.size)] 91))
    rwa [World.size_alloc] at this
  go_loopw [27] (fun v wr => ∃ (k : Nat), k ≤ n ∧ v = .int .i64 k ∧ Hid (LinksIn w wr w.heap.size k ((nms D).take k) (up (D.take k))) ∧ wr.cell? ⟨w.heap.size + 1, 0, none⟩ = some (.map (some w.heap.size)) ∧ w.heap.size + 1 < wr.heap.size ∧ Below w.heap.size w wr) (fun v _ => n - (intOf v).toNat)
  case atStart => exact ⟨0, Nat.zero_le _, rfl, ⟨.map [], (World.ownsMap_made _ _ _ _).alloc _, (fun x => rfl), fun x => ⟨none, 0, by rw [up_zero]; rfl, by rw [up_zero]; exact IsStrs.nil _⟩⟩, hbx, by simp, ((Below.refl _ _).alloc (Nat.le_refl _) _).alloc (by simp) _⟩
  case round =>
    clear hbx
    obtain ⟨k, hk, rfl, hlk, hbx, hsz, hb⟩ := hrel
    obtain ⟨wo, hwo⟩ : ∃ wo : World, wo = wr := ⟨_, rfl⟩
    subst hwo
    by_cases hlt : k < n
    · obtain ⟨b, off, rfl, hbl, hx⟩ := H.out.at_ (by omega)
      obtain ⟨sa, sc', fa, fc, hd0⟩ := hx k hlt
      have hd := hd0.below hbl hb
      have c0 := hd.c0
      have c1 := hd.c1
      have c2 := hd.c2
      have SS := Lib.hid hd0.ss
      have HNL := Lib.hid hd.nl
      have HTK := Lib.hid (nms_succ (D := D) (k := k) (by rw [HL.out]; exact hlt))
      have HUP := Lib.hid (fun x => up_succ HND.out (k := k) (by rw [HL.out]; exact hlt) x)
      obtain ⟨M, hown, hhas, hget⟩ := hlk.out
      have HO1 := Lib.hid (fun o => hown.alloc o)
      have HHAS := Lib.hid hhas
      have HGET := Lib.hid hget
      have HIM := Lib.hid (owns_isMap hown)
      obtain ⟨x, hx'⟩ : ∃ x, (dc D k).name = x := ⟨_, rfl⟩
      rw [hx'] at c0 HNL HTK HUP
      obtain ⟨l, hl⟩ : ∃ z, (dc D k).sup = z := ⟨_, rfl⟩
      rw [hl] at c1 SS HUP
      obtain ⟨sl, hsl⟩ : ∃ z, l.length = z := ⟨_, rfl⟩
      rw [hsl] at c1 SS
      have HSL := Lib.hid hsl
      obtain ⟨nf, hnf⟩ : ∃ z, (dc D k).nf = z := ⟨_, rfl⟩
      rw [hnf] at c2
      clear hx hd hd0 hx' hl hsl hnf hown hhas hget
      go_wp2_with (at_mapUpdate; refine wpList_update_raw rfl _ _ _ 91 rfl 49 Tryz.underlying91 w.heap.size k M rfl (HO1.out _) (by omega) x (.slice sa sl sc') rfl rfl HNL.out ?_; intro w2 hown2 hgrow2; have HO2 := Lib.hid hown2; have HB2 := Lib.hid ((hb.alloc hb.size _).grown hgrow2 (by have := hb.size; simp; omega) (fun j e => by cases e; exact Nat.le_refl _)); have hbx2 := (hgrow2.cell_far ⟨w.heap.size + 1, 0, none⟩ (by simp; omega) (by simp)).trans ((World.cell?_alloc_lt _ _ _ hsz).trans hbx); have hsz2 := hgrow2.size; clear hown2 hgrow2)
      go_roundw
      case rel =>
        refine ⟨k + 1, by omega, by go_num, ⟨mput M x (.slice sa sl sc'), HO2.out, fun y => by rw [mhas_put HIM.out, HHAS.out, HTK.out, inS_snoc], fun y => ?_⟩, hbx2, by simp at hsz2; omega, HB2.out⟩
        rw [HUP.out y, mget_put HIM.out]
        by_cases e : y = x
        · rw [if_pos e, if_pos e]
          exact ⟨sa, sc', by rw [HSL.out], by rw [HSL.out]; exact SS.out⟩
        · rw [if_neg e, if_neg e]
          exact HGET.out y
      case measure => simp [intOf]; omega
    · obtain rfl : n = k := by omega
      rw [List.take_of_length_le (by rw [nms_len, HL.out]; exact Nat.le_refl _), List.take_of_length_le (by rw [HL.out]; exact Nat.le_refl _)] at hlk
      clear hlt hk
      have HLK := Lib.hid (LinksIn.out hlk.out hb)
      have HBX := Lib.hid hbx
      have BA := Lib.hid hb
      clear hlk hbx hb
      have hmm := fun x w => run_makeMapN Tryz.underlying98 x w
      go_wp2
      clear hmm
      have hbx : ((wo.alloc (.map #[] 0)).alloc (.cells #[.map (some wo.heap.size)] 98)).cell? ⟨wo.heap.size + 1, 0, none⟩ = some (.map (some wo.heap.size)) := by
        have := cell_of_one (heap_alloc_new (wo.alloc (.map #[] 0)) (.cells #[.map (some wo.heap.size)] 98))
        rwa [World.size_alloc] at this
      go_loopw [42] (fun v wr => ∃ (k : Nat), k ≤ n ∧ v = .int .i64 k ∧ Hid (IdxM wr wo.heap.size k k (al D)) ∧ wr.cell? ⟨wo.heap.size + 1, 0, none⟩ = some (.map (some wo.heap.size)) ∧ wo.heap.size + 1 < wr.heap.size ∧ Below wo.heap.size wo wr) (fun v _ => n - (intOf v).toNat)
      case atStart => exact ⟨0, Nat.zero_le _, rfl, ⟨.map [], (World.ownsMap_made _ _ _ _).alloc _, fun x => by rw [ixK_zero]; rfl⟩, hbx, by simp, ((Below.refl _ _).alloc (Nat.le_refl _) _).alloc (by simp) _⟩
      case round =>
        clear hbx
        obtain ⟨k, hk, rfl, hix, hbx, hszb, hb⟩ := hrel
        obtain ⟨wp, hwp⟩ : ∃ wp : World, wp = wr := ⟨_, rfl⟩
        subst hwp
        by_cases hlt : k < n
        · obtain ⟨nb, noff, rfl, hnbl, hnx⟩ := HN.out.at_ (by omega)
          have c0 := ((BA.out.trans (hb.mono BA.out.size)).cell (p := ⟨nb, noff + k, none⟩) hnbl).trans (hnx k hlt)
          have hkl : k < (al D).length := by rw [HN.out.len]; exact hlt
          have HNL := Lib.hid (HN.out.small _ (st_mem hkl))
          have HK := Lib.hid (fun x => ixK_succ (al_nodup D) hkl x)
          obtain ⟨M, hown, hget⟩ := hix.out
          have HIM := Lib.hid (owns_isMap hown)
          have HOW := Lib.hid hown
          have HGET := Lib.hid hget
          obtain ⟨x, hx⟩ : ∃ x, st (al D) k = x := ⟨_, rfl⟩
          rw [hx] at c0 HNL HK
          clear hx hown hget hnx hkl hix
          go_wp2_with (at_mapUpdate; refine wpList_update_raw rfl _ _ _ 98 rfl 3 Tryz.underlying98 wo.heap.size k M rfl HOW.out (by omega) x (.int .i64 k) rfl rfl HNL.out ?_; intro w2 hown2 hgrow2; have HO2 := Lib.hid hown2; have HB2 := Lib.hid (hb.grown hgrow2 hb.size (fun j e => by cases e; exact Nat.le_refl _)); have hbx2 := (hgrow2.cell_far ⟨wo.heap.size + 1, 0, none⟩ hszb (by simp)).trans hbx; have hsz2 := hgrow2.size; clear hown2 hgrow2)
          go_roundw
          case rel =>
            refine ⟨k + 1, by omega, by go_num, ⟨mput M x (.int .i64 k), HO2.out, fun y => ?_⟩, hbx2, by omega, HB2.out⟩
            rw [HK.out y, mget_put HIM.out]
            by_cases e : y = x
            · rw [if_pos e, if_pos e]
            · rw [if_neg e, if_neg e]
              exact HGET.out y
          case measure => simp [intOf]; omega
        · obtain rfl : n = k := by omega
          clear hlt hk
          have HIX := Lib.hid hix.out
          have HBX2 := Lib.hid hbx
          have BB := Lib.hid (BA.out.trans (hb.mono BA.out.size))
          have HLK := Lib.hid (HLK.out.below hb)
          have HBX := Lib.hid ((hb.cell (p := ⟨w.heap.size + 1, 0, none⟩) hsz).trans HBX.out)
          have hzw : wo.heap.size ≤ wp.heap.size := hb.size
          clear hix hbx hb
          obtain ⟨i0, hi, hz0, hz1, hz2⟩ := info_parts Tryz.infoBs
          have HI := Lib.hid (And.intro hi (And.intro hz0 (And.intro hz1 hz2)))
          clear hi hz0 hz1 hz2
          have hn0 : 0 < n := by
            obtain ⟨t, ht, _⟩ := (acc_of HC.out).top
            have := List.length_pos_of_mem ht
            rw [nms_len, HL.out] at this; exact this
          obtain ⟨ob, oo, rfl, hobl, hox⟩ := HO.out.at_ hn0
          go_wp2_with (first
            | (at_make; refine wpList_make_full _ rfl _ _ _ rfl w.heap.size 31 i0 (.slice none 0 0) 1 Tryz.underlying70 HI.out.1 HI.out.2.1 HI.out.2.2.1 _ _ _ _ n rfl rfl ?_ ?_ ?_ ?_ BB.out.size ?_; rotate_right; intro w3 hown3 hgrow3; have O3 := Lib.hid (OwnS.made hown3); have B3 := Lib.hid ((Below.refl wp.heap.size wp).grown hgrow3 (Nat.le_refl _) (fun _ e => by cases e)); clear hown3 hgrow3)
            | (go_at_call 81; refine (Backward_any _ _ _ _).mono ?_; rintro e w' ⟨rfl, rfl⟩))
          · have hg3 := (O3.out.lt wp.heap.size rfl).2
            obtain ⟨W0, hW0⟩ : ∃ W0, W0 = (w3.alloc (.cells #[.slice (some ⟨wp.heap.size, 0, none⟩) n n] 70)).alloc (.cells #[.slice (some ⟨ob, oo, none⟩) n oc] 49) := ⟨_, rfl⟩
            have hz0 : W0.heap.size = w3.heap.size + 2 := by rw [hW0]; simp
            have B0 := Lib.hid (show Below wp.heap.size wp W0 from by rw [hW0]; exact (B3.out.alloc B3.out.size _).alloc (by have := B3.out.size; simp; omega) _)
            have C0 := Lib.hid (show W0.cell? ⟨w3.heap.size, 0, none⟩ = some (.slice (some ⟨wp.heap.size, 0, none⟩) n n) from by
              rw [hW0]
              have := cell_of_one (heap_alloc_new w3 (.cells #[.slice (some ⟨wp.heap.size, 0, none⟩) n n] 70))
              exact (World.cell?_alloc_lt _ _ _ (by simp)).trans this)
            have C1 := Lib.hid (show W0.cell? ⟨w3.heap.size + 1, 0, none⟩ = some (.slice (some ⟨ob, oo, none⟩) n oc) from by
              rw [hW0]
              have := cell_of_one (heap_alloc_new (w3.alloc (.cells #[.slice (some ⟨wp.heap.size, 0, none⟩) n n] 70)) (.cells #[.slice (some ⟨ob, oo, none⟩) n oc] 49))
              rwa [World.size_alloc] at this)
            have O0 := Lib.hid (show OwnS W0 w.heap.size (.slice (some ⟨wp.heap.size, 0, none⟩) n n) n (stC D []) from by
              have e : stC D [] = List.replicate n [] := by
                unfold stC
                rw [show (al D).length = n from HN.out.len]; rfl
              rw [e, hW0]
              exact O3.out.below (((Below.refl _ w3).alloc (Nat.le_refl _) _).alloc (by simp) _))
            rw [← hW0]
            clear hW0
            have zl : (subL (plc D) HO.out.small).length = n := by rw [subL_len]; exact HO.out.len
            have ZM : Hid ((subL (plc D) HO.out.small).map (fun y => y.1) = plc D) := by
              show _ = _
              unfold subL
              rw [List.map_pmap]
              simp
            have ZC := Lib.hid (fun (j : Nat) (hj : j < (subL (plc D) HO.out.small).length) => show W0.cell? ⟨ob, oo + j, none⟩ = some (encT ((subL (plc D) HO.out.small).getD j default)) from by
              have hob : ob < wp.heap.size := Nat.lt_of_lt_of_le hobl BB.out.size
              rw [(B0.out.cell (p := ⟨ob, oo + j, none⟩) hob).trans ((BB.out.cell (p := ⟨ob, oo + j, none⟩) hobl).trans (hox j (by omega)))]
              congr 2
              unfold subL
              rw [List.getD_eq_getElem?_getD, List.getElem?_pmap]
              have hjl : j < (plc D).length := by rw [HO.out.len]; omega
              simp [List.getElem?_eq_getElem hjl, st, List.getD_eq_getElem?_getD])
            obtain ⟨zs, hzs⟩ : ∃ zs, subL (plc D) HO.out.small = zs := ⟨_, rfl⟩
            rw [hzs] at zl ZM ZC
            clear hzs hox
            refine (wpIn_wide (n := 5)).1 ?_
            refine wpIn_rangeFunc_ownG (F := Fence.wide) rfl (by decide) (gf := 122) (lb := #[.pointer (some ⟨w3.heap.size + 1, 0, none⟩)]) rfl trivial (enters_of Tryz.func122 (by kernel_rfl) rfl)
              (back_stops 4 (by decide) (w3.heap.size + 1) W0.heap.size wp.heap.size ob oo oc zs (by omega) (by have := BB.out.size; omega) (by have := BB.out.size; omega) (by omega) (by omega) W0 (Nat.le_refl _) (by rw [zl]; exact C1.out) ZC.out) KeptBut.trans (keptBut_b (Nat.le_refl _)) (Below.refl _ _) (fun _ => rfl)
              (fun pre W => (W.cell? ⟨w3.heap.size, 0, none⟩ = some (.slice (some ⟨wp.heap.size, 0, none⟩) n n) ∧ OwnS W w.heap.size (.slice (some ⟨wp.heap.size, 0, none⟩) n n) n (stC D (pre.map fun p => p.2.1))) ∧ Below wp.heap.size W0 W)
              (fun _ _ _ => False)
              (OwnFrom.and (Own.from (fun s A B row hs hg hr => ⟨cell_kept hs.1 hg hr, hs.2.keptO hg hr⟩) _) (ownFrom_below (by omega) (by omega)))
              (fun _ _ _ _ _ hs _ _ => hs)
              ⟨⟨C0.out, O0.out⟩, Below.refl _ _⟩
              (fun x => { tmps := #[.slice a n cap, .slice (some ⟨ob, oo, none⟩) n oc, .slice na n nc, undef, undef, undef, .slice none 0 0, .pointer (some ⟨w.heap.size + 1, 0, none⟩), undef, u9, .pointer (some ⟨wo.heap.size + 1, 0, none⟩), u11, u12, .pointer (some ⟨w3.heap.size, 0, none⟩), undef, encT x.2, undef, undef, undef, undef, undef, undef, .slice a n cap, .int .i64 n, .map (some w.heap.size), .slice a n cap, .int .i64 n, .int .i64 n, .bool false, u29, u30, u31, u32, u33, u34, u35, u36, .slice na n nc, .int .i64 n, .map (some wo.heap.size), .slice na n nc, .int .i64 n, .int .i64 n, .bool false, u44, u45, u46, u47, u48, u49, u50, .slice na n nc, .int .i64 n, .slice (some ⟨wp.heap.size, 0, none⟩) n n, .slice (some ⟨ob, oo, none⟩) n oc, .func (.func 122) #[] #[.pointer (some ⟨w3.heap.size + 1, 0, none⟩)], .int .i64 (x.1 : Int), encT x.2, undef, undef, undef, undef, undef, undef, undef, undef, undef, undef, undef, undef, undef, undef, undef, undef, undef, undef, undef, undef, undef, undef, undef, undef, undef, undef, undef, undef, undef, undef, undef, undef, undef, undef, undef, undef, undef, undef, undef, undef, undef, undef, undef], defers := [] }) ?assign ?body ?done ?stop
            case assign =>
              intro l x W K hK
              unfold encsB encT
              gi_wp2
              exact hK
            case body =>
              rintro l pre ⟨idx, s, hs⟩ W ⟨⟨hcx, ho⟩, hBW⟩ -
              have hB := B0.out.trans hBW
              have HOK := Lib.hid (stC_ok D (pre.map fun p => p.2.1))
              have HSTEP : Hid (∀ pf, stC D ((pre ++ [((idx, ⟨s, pf⟩) : Nat × SStr)]).map fun p => p.2.1) = stepC D (stC D (pre.map fun p => p.2.1)) s) := by
                intro pf
                rw [List.map_append, List.map_cons, List.map_nil, stC_snoc]
              obtain ⟨C, hC⟩ : ∃ C, stC D (pre.map fun p => p.2.1) = C := ⟨_, rfl⟩
              rw [hC] at ho HOK HSTEP
              clear hC
              have hal : (al D).length = n := HN.out.len
              have hil : ixN (al D) s < n := by have := ixN_lt (N := al D) (by omega) s; omega
              have HS := Lib.hid hs
              obtain ⟨M2, hown2, hget2⟩ := HIX.out.below hB
              have h16 := lookup_run (w := W) Tryz.underlying98 (zeroI W) hown2 hs
              rw [hget2 s, show ixK (al D) n s = ixN (al D) s by rw [← hal]; exact ixK_all _ _] at h16
              obtain ⟨i, hi⟩ : ∃ i, ixN (al D) s = i := ⟨_, rfl⟩
              rw [hi] at h16 hil
              have HI := Lib.hid hi
              have hb10 := (hB.cell (p := ⟨wo.heap.size + 1, 0, none⟩) hszb).trans HBX2.out
              have OF := Lib.hid (Of_one W i (by omega))
              clear hown2 hget2 hi
              show Code.wpIn _ _ _ _ _ { tmps := _, defers := [] } W
              unfold encT
              dsimp only
              gi_wp2_with ((refine ⟨trivial, ?_⟩; gi_at_call 82; refine (CallsIn.inRound l (callsIn_wide.2 OF.out)).mono ?_; rintro e w2 ⟨sa, sc, rfl, h64, hb2⟩))
              have BD0 : Below W.heap.size W w2 := ((Below.refl _ W).alloc (Nat.le_refl _) _).trans (hb2.mono (by simp))
              have ho2 := ho.below BD0
              have hgl := (ho.lt wp.heap.size rfl).2
              have hlb0 : w3.heap.size < W.heap.size := by
                obtain ⟨o, hoo, _⟩ := cells_of_cell hcx
                exact (Array.getElem?_eq_some_iff.1 hoo).1
              have d0 := (BD0.cell (p := ⟨w3.heap.size, 0, none⟩) hlb0).trans hcx
              obtain ⟨y, hy1, hy2⟩ := ho2.cell hil
              obtain ⟨ya, yc, rfl, hy64⟩ := hy2.is
              have d1 := hy1
              have hlb : w3.heap.size < w2.drew.heap.size := by have := BD0.size; simp; omega
              have hlg : wp.heap.size < w2.drew.heap.size := by have := BD0.size; simp; omega
              have BD : Below w2.heap.size w2 w2.drew := (Below.refl _ w2).drew
              have OR1 := Lib.hid (S.Or_any w2.drew ya sa _ _ yc sc _ _ (hy64.below BD) (h64.below BD) (by have := (HOK.out.cg i).2; omega) (by have := (sng_ok i).2; omega))
              have hne : wp.heap.size ≠ w3.heap.size := by omega
              have hne' : w3.heap.size ≠ wp.heap.size := by omega
              have hi0 : (0 : Int) ≤ (i : Int) := by omega
              have hi1 : (i : Int) < (n : Int) := by omega
              clear hy1 h16 hb10
              refine wpIn_region_held (S := fun w' => w'.cell? ⟨w3.heap.size, 0, none⟩ = some (.slice (some ⟨wp.heap.size, 0, none⟩) n n)) (by kernel_rfl) (by rintro ⟨_, _, hh⟩; exact hh) (by kernel_rfl) ?_ (fun hHeld => ?_)
              · go_keep
              refine wpAnyH_take (i := 0) (oi := ⟨some 67, _, _, _, _, _⟩) (v := ?_) rfl (by kernel_rfl) (by kernel_rfl) (by kernel_rfl) (fun _ _ _ h => h) (Or.inl ⟨by kernel_rfl, ?_⟩) (by assumption) ?_; rotate_left
              · intro w hSw; (try dsimp only at hSw); go_simp; (try with_reducible rfl)
              simp only [Act.put, List.setIfInBounds_toArray, List.set_cons_zero, List.set_cons_succ]
              refine wpAnyH_take (i := 1) (oi := ⟨some 68, _, _, _, _, _⟩) (v := ?_) rfl (by kernel_rfl) (by kernel_rfl) (by kernel_rfl) (fun _ _ _ h => h) (Or.inl ⟨by kernel_rfl, ?_⟩) (by assumption) ?_; rotate_left
              · intro w hSw; (try dsimp only at hSw); go_simp; (try with_reducible rfl)
              simp only [Act.put, List.setIfInBounds_toArray, List.set_cons_zero, List.set_cons_succ]
              refine wpAnyH_take (i := 2) (oi := ⟨some 69, _, _, _, _, _⟩) (v := ?_) rfl (by kernel_rfl) (by kernel_rfl) (by kernel_rfl) (fun _ _ _ h => h) (Or.inl ⟨by kernel_rfl, ?_⟩) (by assumption) ?_; rotate_left
              · intro w hSw; (try dsimp only at hSw); go_simp; (try with_reducible rfl)
              simp only [Act.put, List.setIfInBounds_toArray, List.set_cons_zero, List.set_cons_succ]
              refine wpAnyH_take (i := 3) (oi := ⟨some 70, _, _, _, _, _⟩) (v := ?_) rfl (by kernel_rfl) (by kernel_rfl) (by kernel_rfl) (fun _ _ _ h => h) (Or.inl ⟨by kernel_rfl, ?_⟩) (by assumption) ?_; rotate_left
              · intro w hSw; (try dsimp only at hSw); go_simp; (try with_reducible rfl)
              simp only [Act.put, List.setIfInBounds_toArray, List.set_cons_zero, List.set_cons_succ]
              refine wpAnyH_take (i := 4) (oi := ⟨some 71, _, _, _, _, _⟩) (v := ?_) rfl (by kernel_rfl) (by kernel_rfl) (by kernel_rfl) (fun _ _ _ h => h) (Or.inl ⟨by kernel_rfl, ?_⟩) (by assumption) ?_; rotate_left
              · intro w hSw; (try dsimp only at hSw); go_simp; (try with_reducible rfl)
              simp only [Act.put, List.setIfInBounds_toArray, List.set_cons_zero, List.set_cons_succ]
              refine wpAnyH_take (i := 6) (oi := ⟨some 73, _, _, _, _, _⟩) (v := ?_) rfl (by kernel_rfl) (by kernel_rfl) (by kernel_rfl) (fun _ _ _ h => h) (Or.inl ⟨by kernel_rfl, ?_⟩) (by assumption) ?_; rotate_left
              · intro w hSw; (try dsimp only at hSw); go_simp; (try with_reducible rfl)
              simp only [Act.put, List.setIfInBounds_toArray, List.set_cons_zero, List.set_cons_succ]
              refine wpAnyH_ready (rs := [5]) (by kernel_rfl) (by simp) ?_
              refine AllReadyH.cons (o := ⟨some 72, _, _, _, _, _⟩) rfl (fun K hK => ?_) AllReadyH.nil
              go_simp
              refine hK.out _ _ ?_ (fun hHeld => ?_)
              · go_keep
              clear hK K
              (try simp only [Act.put, List.setIfInBounds_toArray, List.set_cons_zero, List.set_cons_succ])
              refine wpAnyH_ready (rs := [7]) (by kernel_rfl) (by simp) ?_
              refine AllReadyH.cons (o := ⟨some 74, _, _, _, _, _⟩) rfl (fun K hK => ?_) AllReadyH.nil
              go_simp
              go_at_call 83; refine OR1.out.mono ?_; intro e w5 hr; obtain ⟨za, zc, rfl, hz64, hzf, hb5⟩ := hr.eqF _ rfl; have e0 := (hb5.cell (p := ⟨w3.heap.size, 0, none⟩) hlb).trans d0; have o5 := ho2.below (BD.trans (hb5.mono BD.size)); have e1 := (hb5.cell (p := ⟨wp.heap.size, i, none⟩) hlg).trans d1; have f1 := o5.free i; (try gi_wp2_with fail)
              refine hK.out _ _ ?_ (fun hHeld => ?_)
              · go_keep
              clear hK K
              (try simp only [Act.put, List.setIfInBounds_toArray, List.set_cons_zero, List.set_cons_succ])
              refine wpAnyH_take (i := 8) (oi := ⟨some 75, _, _, _, _, _⟩) (v := ?_) rfl (by kernel_rfl) (by kernel_rfl) (by kernel_rfl) (fun _ _ _ h => h) (Or.inl ⟨by kernel_rfl, ?_⟩) (by assumption) ?_; rotate_left
              · intro w hSw; (try dsimp only at hSw); go_simp; (try with_reducible rfl)
              simp only [Act.put, List.setIfInBounds_toArray, List.set_cons_zero, List.set_cons_succ]
              refine wpAnyH_ready (rs := [9]) (by kernel_rfl) (by simp) ?_
              refine AllReadyH.cons (o := ⟨none, _, _, _, _, _⟩) rfl (fun K hK => ?_) AllReadyH.nil
              go_simp
              refine hK.out _ _ ?_ (fun hHeld => ?_)
              · go_keep
              clear hK K
              (try simp only [Act.put, List.setIfInBounds_toArray, List.set_cons_zero, List.set_cons_succ])
              refine wpAnyH_done (by kernel_rfl) ?_ _
              have EL5 : Elt w5 (.slice (some ⟨wp.heap.size, 0, none⟩) n n) (.slice za (SOr (cg C i) (sng i)).length zc) (SOr (cg C i) (sng i)) := by
                have hnn : SOr (cg C i) (sng i) ≠ [] := ne_of_bit (i := i) (by rw [S.bit_SOr, (sng_bit (by omega) i).2 rfl]; simp)
                refine ⟨⟨za, zc, rfl, hz64⟩, SetV.lt ⟨za, zc, rfl, hz64⟩ hnn, fun g hg hx => ?_⟩
                cases hg
                cases za with
                | none => cases hx
                | some p =>
                  have h1 := hzf p rfl
                  have h2 : p.block = wp.heap.size := Option.some.inj hx
                  omega
              have o6 := Lib.hid (o5.store hil EL5)
              have G6 := Lib.hid (((gb_below BD0 (row := some wp.heap.size)).trans ((gb_drew w2 _).trans (gb_below hb5))).trans (show w5.grownBy (w5.setCell ⟨wp.heap.size, i, none⟩ (.slice za (SOr (cg C i) (sng i)).length zc)) (some wp.heap.size) from by
                obtain ⟨vs, hrow, _⟩ := o5
                exact (hrow.stored i _).2))
              have B6 := Lib.hid ((((hB.trans (BD0.mono hB.size)).drew).trans (hb5.mono (by have := hB.size; have := BD0.size; simp; omega))).setCell (p := ⟨wp.heap.size, i, none⟩) (Nat.le_refl _) (.slice za (SOr (cg C i) (sng i)).length zc))
              obtain ⟨w6, hw6⟩ : ∃ w6, w6 = w5.setCell ⟨wp.heap.size, i, none⟩ (.slice za (S.nrm (max (cg C i).length (sng i).length) (S.orF (cg C i) (sng i))).length zc) := ⟨_, rfl⟩
              obtain ⟨C1, hC1⟩ : ∃ C1, C.set i (SOr (cg C i) (sng i)) = C1 := ⟨_, rfl⟩
              have HOK1 := Lib.hid (HOK.out.set i (HOK.out.cg i) (sng_ok i))
              have HBI : Hid (bit (cg C1 i) i = true) := by
                show _ = _
                rw [← hC1, cg_set (by rw [HOK.out.len, hal]; exact hil), if_pos rfl, S.bit_SOr, (sng_bit (by omega) i).2 rfl, Bool.or_true]
              have HFIN : Hid (stepC D C s = (up D s).foldl (supC (al D) i) C1) := by
                show _ = _
                rw [← hC1]
                unfold stepC
                rw [HI.out]
              rw [hC1] at o6 HOK1
              have o6 : Hid (OwnS w6 w.heap.size (.slice (some ⟨wp.heap.size, 0, none⟩) n n) n C1) := by rw [hw6]; exact o6
              have G6 : Hid (W.grownBy w6 (some wp.heap.size)) := by rw [hw6]; exact G6
              have B6 : Hid (Below wp.heap.size wp w6) := by rw [hw6]; exact B6
              rw [← hw6]
              have L0 : w6.cell? ⟨w3.heap.size, 0, none⟩ = some (.slice (some ⟨wp.heap.size, 0, none⟩) n n) := by
                rw [hw6]; exact hHeld
              have hlb6 : w3.heap.size < w6.heap.size := by
                obtain ⟨o, hoo, _⟩ := cells_of_cell L0
                exact (Array.getElem?_eq_some_iff.1 hoo).1
              clear hw6 hC1 EL5 e0 e1 o5 f1 hz64 hzf hb5 hr OR1 d0 d1 BD0 BD ho2 h64 hb2 hy2 hy64 HOK hHeld hlb hlg hlb0 hcx ho
              obtain ⟨M1, hown1, -, hget1⟩ := HLK.out
              obtain ⟨ua, uc, hg1, hU⟩ := hget1 s
              have h78 := lookup_run (w := w6) Tryz.underlying91 (zeroL w6) (map_below hown1 B6.out) HS.out
              rw [hg1] at h78
              have HU := Lib.hid hU
              have hb7 := (B6.out.cell (p := ⟨w.heap.size + 1, 0, none⟩) (show w.heap.size + 1 < wp.heap.size by omega)).trans HBX.out
              obtain ⟨U, hUU⟩ : ∃ U, up D s = U := ⟨_, rfl⟩
              have HUP : Hid (up D s = U) := hUU
              rw [hUU] at h78 HU HFIN
              obtain ⟨un, hun⟩ : ∃ un, U.length = un := ⟨_, rfl⟩
              rw [hun] at h78 HU
              have HUN := Lib.hid hun
              have hm1 : un ≤ uc := HU.out.capLe
              have hm2 := HU.out.maxLe
              unfold maxLen at hm2
              clear hown1 hget1 hg1 hU hUU hun
              gi_wp2
              clear h78 hb7
              gi_loopw [80] (fun v wi => ∃ (k : Nat), k ≤ un ∧ v = .int .i64 k ∧ Hid (OwnS wi w.heap.size (.slice (some ⟨wp.heap.size, 0, none⟩) n n) n ((U.take k).foldl (supC (al D) i) C1)) ∧ wi.cell? ⟨w3.heap.size, 0, none⟩ = some (.slice (some ⟨wp.heap.size, 0, none⟩) n n) ∧ Hid (W.grownBy wi (some wp.heap.size)) ∧ Hid (Below wp.heap.size wp wi)) (fun v _ => un - (intOf v).toNat)
              case atStart => exact ⟨0, Nat.zero_le _, rfl, o6.out, L0, G6.out, B6.out⟩
              case round =>
                obtain ⟨k, hk, rfl, hoi, L1, hGi, hBi⟩ := hrel
                by_cases hlt : k < un
                · obtain ⟨ub, uo, rfl, hubl, hux⟩ := HU.out.at_ (by omega)
                  have hsU : k < U.length := by rw [HUN.out]; exact hlt
                  have c20 := (hBi.out.cell (p := ⟨ub, uo + k, none⟩) hubl).trans (hux k hlt)
                  obtain ⟨hd1, hd2, hd3⟩ := up_dif (acc_of HC.out) (s := s) (x := st U k) (by rw [HUP.out]; exact st_mem hsU)
                  have HT := Lib.hid (HU.out.small _ (st_mem hsU))
                  have HTK := Lib.hid (take_st hsU)
                  have hjn : ixN (al D) (st U k) < n := by have := ixN_lt (N := al D) (by omega) (st U k); omega
                  have hji0 : ixN (al D) (st U k) ≠ i := fun e => hd3 (ixN_inj hd2 hd1 (e.trans HI.out.symm))
                  obtain ⟨M2, hown2, hget2⟩ := HIX.out.below hBi.out
                  obtain ⟨t, ht⟩ : ∃ t, st U k = t := ⟨_, rfl⟩
                  rw [ht] at c20 HT HTK hjn hji0
                  have h86 := lookup_run (w := wr) Tryz.underlying98 (zeroI wr) hown2 HT.out
                  rw [hget2 t, show ixK (al D) n t = ixN (al D) t by rw [← hal]; exact ixK_all _ _] at h86
                  obtain ⟨j, hj⟩ : ∃ j, ixN (al D) t = j := ⟨_, rfl⟩
                  rw [hj] at h86 hjn hji0
                  have HJ := Lib.hid hj
                  have hb10 := (hBi.out.cell (p := ⟨wo.heap.size + 1, 0, none⟩) hszb).trans HBX2.out
                  obtain ⟨Ck, hCk⟩ : ∃ Ck, (U.take k).foldl (supC (al D) i) C1 = Ck := ⟨_, rfl⟩
                  have HCK := Lib.hid hCk
                  have HOKk : Hid (StOk (al D).length Ck) := by
                    show StOk _ _
                    rw [← hCk]
                    exact supC_ok _ _ _ HOK1.out
                  rw [hCk] at hoi
                  clear hCk hown2 hget2 hd1 hd2 hd3 ht hj hux hsU
                  gi_wp2
                  have BD : Below wr.heap.size wr wr.drew := (Below.refl _ wr).drew
                  obtain ⟨yx, hy1, hy2⟩ := hoi.out.cell hjn
                  obtain ⟨ya, yc, rfl, hy64⟩ := hy2.is
                  obtain ⟨xx, hx1, hx2⟩ := hoi.out.cell hil
                  obtain ⟨xa, xc, rfl, hx64⟩ := hx2.is
                  have d0 : wr.drew.cell? ⟨w3.heap.size, 0, none⟩ = some (.slice (some ⟨wp.heap.size, 0, none⟩) n n) := L1
                  have d1 : wr.drew.cell? ⟨wp.heap.size, j, none⟩ = some (.slice ya (cg Ck j).length yc) := hy1
                  have d2 : wr.drew.cell? ⟨wp.heap.size, i, none⟩ = some (.slice xa (cg Ck i).length xc) := hx1
                  have hlb : w3.heap.size < wr.drew.heap.size := by
                    obtain ⟨o, hoo, _⟩ := cells_of_cell d0
                    exact (Array.getElem?_eq_some_iff.1 hoo).1
                  have hlg : wp.heap.size < wr.drew.heap.size := by
                    obtain ⟨o, hoo, _⟩ := cells_of_cell d1
                    exact (Array.getElem?_eq_some_iff.1 hoo).1
                  have hgl2 := (hoi.out.lt wp.heap.size rfl).2
                  have OR2 := Lib.hid (S.Or_any wr.drew ya xa _ _ yc xc _ _ (hy64.below BD) (hx64.below BD) (by have := (HOKk.out.cg j).2; omega) (by have := (HOKk.out.cg i).2; omega))
                  have hji : j ≠ i := hji0
                  have hj0 : (0 : Int) ≤ (j : Int) := by omega
                  have hj1 : (j : Int) < (n : Int) := by omega
                  clear hy1 hx1 h86 hb10 c20
                  refine wpIn_region_held (S := fun w' => w'.cell? ⟨w3.heap.size, 0, none⟩ = some (.slice (some ⟨wp.heap.size, 0, none⟩) n n) ∧ w'.cell? ⟨wp.heap.size, i, none⟩ = some (.slice xa (cg Ck i).length xc)) (by kernel_rfl) (by rintro ⟨_, _, hh⟩; exact hh) (by kernel_rfl) ?_ (fun hHeld => ?_)
                  · (first | (go_keep; done) | (go_split_ands; refine ⟨?_, ?_⟩ <;> (first | assumption | (simp [*, World.cell?_setCell_far]; done) | (rw [World.cell?_setCell_other _ _ _ _ (by intro hh; injection hh with _ hh; exact hji hh)]; assumption))))
                  refine wpAnyH_take (i := 0) (oi := ⟨some 87, _, _, _, _, _⟩) (v := ?_) rfl (by kernel_rfl) (by kernel_rfl) (by kernel_rfl) (fun _ _ _ h => h) (Or.inl ⟨by kernel_rfl, ?_⟩) (by assumption) ?_; rotate_left
                  · intro w hSw; (try dsimp only at hSw); go_simp; (try with_reducible rfl)
                  simp only [Act.put, List.setIfInBounds_toArray, List.set_cons_zero, List.set_cons_succ]
                  refine wpAnyH_take (i := 1) (oi := ⟨some 88, _, _, _, _, _⟩) (v := ?_) rfl (by kernel_rfl) (by kernel_rfl) (by kernel_rfl) (fun _ _ _ h => h) (Or.inl ⟨by kernel_rfl, ?_⟩) (by assumption) ?_; rotate_left
                  · intro w hSw; (try dsimp only at hSw); go_simp; (try with_reducible rfl)
                  simp only [Act.put, List.setIfInBounds_toArray, List.set_cons_zero, List.set_cons_succ]
                  refine wpAnyH_take (i := 2) (oi := ⟨some 89, _, _, _, _, _⟩) (v := ?_) rfl (by kernel_rfl) (by kernel_rfl) (by kernel_rfl) (fun _ _ _ h => h) (Or.inl ⟨by kernel_rfl, ?_⟩) (by assumption) ?_; rotate_left
                  · intro w hSw; (try dsimp only at hSw); go_simp; (try with_reducible rfl)
                  simp only [Act.put, List.setIfInBounds_toArray, List.set_cons_zero, List.set_cons_succ]
                  refine wpAnyH_take (i := 3) (oi := ⟨some 90, _, _, _, _, _⟩) (v := ?_) rfl (by kernel_rfl) (by kernel_rfl) (by kernel_rfl) (fun _ _ _ h => h) (Or.inl ⟨by kernel_rfl, ?_⟩) (by assumption) ?_; rotate_left
                  · intro w hSw; (try dsimp only at hSw); go_simp; (try with_reducible rfl)
                  simp only [Act.put, List.setIfInBounds_toArray, List.set_cons_zero, List.set_cons_succ]
                  refine wpAnyH_take (i := 4) (oi := ⟨some 91, _, _, _, _, _⟩) (v := ?_) rfl (by kernel_rfl) (by kernel_rfl) (by kernel_rfl) (fun _ _ _ h => h) (Or.inl ⟨by kernel_rfl, ?_⟩) (by assumption) ?_; rotate_left
                  · intro w hSw; (try dsimp only at hSw); go_simp; (try with_reducible rfl)
                  simp only [Act.put, List.setIfInBounds_toArray, List.set_cons_zero, List.set_cons_succ]
                  refine wpAnyH_take (i := 6) (oi := ⟨some 93, _, _, _, _, _⟩) (v := ?_) rfl (by kernel_rfl) (by kernel_rfl) (by kernel_rfl) (fun _ _ _ h => h) (Or.inl ⟨by kernel_rfl, ?_⟩) (by assumption) ?_; rotate_left
                  · intro w hSw; (try dsimp only at hSw); go_simp; (try with_reducible rfl)
                  simp only [Act.put, List.setIfInBounds_toArray, List.set_cons_zero, List.set_cons_succ]
                  refine wpAnyH_take (i := 7) (oi := ⟨some 94, _, _, _, _, _⟩) (v := ?_) rfl (by kernel_rfl) (by kernel_rfl) (by kernel_rfl) (fun _ _ _ h => h) (Or.inl ⟨by kernel_rfl, ?_⟩) (by assumption) ?_; rotate_left
                  · intro w hSw; (try dsimp only at hSw); go_simp; (try with_reducible rfl)
                  simp only [Act.put, List.setIfInBounds_toArray, List.set_cons_zero, List.set_cons_succ]
                  refine wpAnyH_take (i := 8) (oi := ⟨some 95, _, _, _, _, _⟩) (v := ?_) rfl (by kernel_rfl) (by kernel_rfl) (by kernel_rfl) (fun _ _ _ h => h) (Or.inl ⟨by kernel_rfl, ?_⟩) (by assumption) ?_; rotate_left
                  · intro w hSw; (try dsimp only at hSw); go_simp; (try with_reducible rfl)
                  simp only [Act.put, List.setIfInBounds_toArray, List.set_cons_zero, List.set_cons_succ]
                  refine wpAnyH_take (i := 9) (oi := ⟨some 96, _, _, _, _, _⟩) (v := ?_) rfl (by kernel_rfl) (by kernel_rfl) (by kernel_rfl) (fun _ _ _ h => h) (Or.inl ⟨by kernel_rfl, ?_⟩) (by assumption) ?_; rotate_left
                  · intro w hSw; (try dsimp only at hSw); go_simp; (try with_reducible rfl)
                  simp only [Act.put, List.setIfInBounds_toArray, List.set_cons_zero, List.set_cons_succ]
                  refine wpAnyH_ready (rs := [5]) (by kernel_rfl) (by simp) ?_
                  refine AllReadyH.cons (o := ⟨some 92, _, _, _, _, _⟩) rfl (fun K hK => ?_) AllReadyH.nil
                  go_simp
                  refine hK.out _ _ ?_ (fun hHeld => ?_)
                  · (first | (go_keep; done) | (go_split_ands; refine ⟨?_, ?_⟩ <;> (first | assumption | (simp [*, World.cell?_setCell_far]; done) | (rw [World.cell?_setCell_other _ _ _ _ (by intro hh; injection hh with _ hh; exact hji hh)]; assumption))))
                  clear hK K
                  (try simp only [Act.put, List.setIfInBounds_toArray, List.set_cons_zero, List.set_cons_succ])
                  refine wpAnyH_ready (rs := [10]) (by kernel_rfl) (by simp) ?_
                  refine AllReadyH.cons (o := ⟨some 97, _, _, _, _, _⟩) rfl (fun K hK => ?_) AllReadyH.nil
                  go_simp
                  go_at_call 83; refine OR2.out.mono ?_; intro e w7 hr; obtain ⟨za, zc, rfl, hz64, hzf, hb7⟩ := hr.eqF _ rfl; have e0 := (hb7.cell (p := ⟨w3.heap.size, 0, none⟩) hlb).trans d0; have o7 := hoi.out.below (BD.trans (hb7.mono BD.size)); have e1 := (hb7.cell (p := ⟨wp.heap.size, j, none⟩) hlg).trans d1; have e2 := (hb7.cell (p := ⟨wp.heap.size, i, none⟩) hlg).trans d2; have f1 := o7.free j; (try gi_wp2_with fail)
                  refine hK.out _ _ ?_ (fun hHeld => ?_)
                  · (first | (go_keep; done) | (go_split_ands; refine ⟨?_, ?_⟩ <;> (first | assumption | (simp [*, World.cell?_setCell_far]; done) | (rw [World.cell?_setCell_other _ _ _ _ (by intro hh; injection hh with _ hh; exact hji hh)]; assumption))))
                  clear hK K
                  (try simp only [Act.put, List.setIfInBounds_toArray, List.set_cons_zero, List.set_cons_succ])
                  refine wpAnyH_take (i := 11) (oi := ⟨some 98, _, _, _, _, _⟩) (v := ?_) rfl (by kernel_rfl) (by kernel_rfl) (by kernel_rfl) (fun _ _ _ h => h) (Or.inl ⟨by kernel_rfl, ?_⟩) (by assumption) ?_; rotate_left
                  · intro w hSw; (try dsimp only at hSw); go_simp; (try with_reducible rfl)
                  simp only [Act.put, List.setIfInBounds_toArray, List.set_cons_zero, List.set_cons_succ]
                  refine wpAnyH_ready (rs := [12]) (by kernel_rfl) (by simp) ?_
                  refine AllReadyH.cons (o := ⟨none, _, _, _, _, _⟩) rfl (fun K hK => ?_) AllReadyH.nil
                  go_simp
                  refine hK.out _ _ ?_ (fun hHeld => ?_)
                  · (first | (go_keep; done) | (go_split_ands; refine ⟨?_, ?_⟩ <;> (first | assumption | (simp [*, World.cell?_setCell_far]; done) | (rw [World.cell?_setCell_other _ _ _ _ (by intro hh; injection hh with _ hh; exact hji hh)]; assumption))))
                  clear hK K
                  (try simp only [Act.put, List.setIfInBounds_toArray, List.set_cons_zero, List.set_cons_succ])
                  refine wpAnyH_done (by kernel_rfl) ?_ _
                  have HBK : Hid (bit (cg Ck i) i = true) := by
                    show _ = _
                    rw [← HCK.out, supC_at _ _ (fun x hx => ?_)]
                    · exact HBI.out
                    · obtain ⟨h1, h2, h3⟩ := up_dif (acc_of HC.out) (s := s) (x := x) (by rw [HUP.out]; exact List.mem_of_mem_take hx)
                      exact fun e => h3 (ixN_inj h2 h1 (e.trans HI.out.symm))
                  have EL7 : Elt w7 (.slice (some ⟨wp.heap.size, 0, none⟩) n n) (.slice za (SOr (cg Ck j) (cg Ck i)).length zc) (SOr (cg Ck j) (cg Ck i)) := by
                    have hnn : SOr (cg Ck j) (cg Ck i) ≠ [] := ne_of_bit (i := i) (by rw [S.bit_SOr, HBK.out]; simp)
                    refine ⟨⟨za, zc, rfl, hz64⟩, SetV.lt ⟨za, zc, rfl, hz64⟩ hnn, fun g hg hx => ?_⟩
                    cases hg
                    cases za with
                    | none => cases hx
                    | some p =>
                      have h1 := hzf p rfl
                      have h2 : p.block = wp.heap.size := Option.some.inj hx
                      omega
                  have o8 := Lib.hid (o7.store hjn EL7)
                  have G8 := Lib.hid ((hGi.out.trans ((gb_drew wr _).trans (gb_below hb7))).trans (show w7.grownBy (w7.setCell ⟨wp.heap.size, j, none⟩ (.slice za (SOr (cg Ck j) (cg Ck i)).length zc)) (some wp.heap.size) from by
                    obtain ⟨vs, hrow, _⟩ := o7
                    exact (hrow.stored j _).2))
                  have B8 := Lib.hid ((((hBi.out.drew).trans (hb7.mono (by have := hBi.out.size; simp; omega))).setCell (p := ⟨wp.heap.size, j, none⟩) (Nat.le_refl _) (.slice za (SOr (cg Ck j) (cg Ck i)).length zc)))
                  have L8 := hHeld.1
                  gi_wp2
                  refine ⟨⟨k + 1, by omega, by go_num, ?_, L8, G8.out, B8.out⟩, by simp [intOf]; omega⟩
                  have := o8.out
                  rw [HTK.out, List.foldl_append, HCK.out]
                  show OwnS _ _ _ _ (supC (al D) i Ck t)
                  unfold supC
                  rw [HJ.out]
                  exact this
                · obtain rfl : un = k := by omega
                  gi_wp2
                  have hg3' : wp.heap.size < W0.heap.size := by omega
                  have hsw : W0.heap.size ≤ W.heap.size := hBW.size
                  refine ⟨KeepsFrom.of_grownBy hGi.out (fun r e => by cases e; exact hg3'), ⟨hGi.out.size, fun q hq hne => hGi.out.block q (Nat.lt_of_lt_of_le hq hsw) (fun e => hne (Option.some.inj e))⟩, ⟨⟨L1, ?_⟩, hBW.grown hGi.out (by omega) (fun r e => by cases e; exact Nat.le_refl _)⟩⟩
                  have := hoi.out
                  rw [List.take_of_length_le (by rw [HUN.out]; exact Nat.le_refl _), ← HFIN.out, ← HSTEP.out hs] at this
                  exact this
            case done =>
              rintro D' ys W hD rfl ⟨⟨hc, ho⟩, hBW⟩ hK
              have hB := B0.out.trans hBW
              have hfin : OwnS (W.putObj D' (.deferred none)) w.heap.size (.slice (some ⟨wp.heap.size, 0, none⟩) n n) n (cods D) := by
                have e1 : (bkl zs zs.length).map (fun p => p.2.1) = (plc D).reverse := by
                  rw [show (bkl zs zs.length).map (fun p => p.2.1) = ((bkl zs zs.length).map Prod.snd).map (fun y => y.1) by rw [List.map_map]; rfl, bkl_all, List.map_reverse, ZM.out]
                rw [e1, stC_cods (acc_of HC.out) (goodN HC.out).plc_all] at ho
                exact ho.keptO (row := some D') (grownBy_putObj' _ D' _) (fun r e => by cases e; exact ⟨_, hK, rfl⟩)
              have hbel : Below w.heap.size w (W.putObj D' (.deferred none)) := (BB.out.trans (hB.mono BB.out.size)).grown (grownBy_putObj' W D' _) (BB.out.trans (hB.mono BB.out.size)).size (fun r e => by cases e; have := BB.out.size; omega)
              go_wp2
              refine ⟨by simp, .inl ⟨_, _, rfl, run_takeDeferred hK, ?_⟩⟩
              exact ⟨_, results_tmp rfl _ _ _, .slice (some ⟨wp.heap.size, 0, none⟩) n n, rfl, hfin, hbel⟩
            case stop =>
              rintro D' c pre W _ _ h _
              exact h.elim
          all_goals first | rfl | (rw [HI.out.2.2.2]; omega) | (unfold maxLen; omega)
end Go.Proofs.YtdeamdpoegdmdaaGreatDoor

/- slices.Sorted(slices.Values(..)) at strings. -/
namespace Go.Proofs.YtdeamdpoegdmdaaGreatDoor
open Go.RowKit Go.Maps Go.Sort Go.Shelf
attribute [local go_sem] Oper.semAt_some

def fwd (zs : List SStr) (k : Nat) : List SStr := (List.range k).map fun j => zs.getD j default
theorem fwd_succ (zs : List SStr) (k : Nat) : fwd zs (k + 1) = fwd zs k ++ [zs.getD k default] := by simp [fwd, List.range_succ]
theorem fwd_length (zs : List SStr) (k : Nat) : (fwd zs k).length = k := by simp [fwd]
theorem fwd_all (zs : List SStr) : fwd zs zs.length = zs := by
  apply List.ext_getElem
  · simp [fwd]
  · intro i h1 h2
    simp only [fwd, List.getElem_map, List.getElem_range]
    rw [List.getD_eq_getElem?_getD, List.getElem?_eq_getElem h2]
    rfl
def encsV (x : SStr) : Array Value := #[encT x]

set_option maxRecDepth 100000 in
set_option maxHeartbeats 2000000 in
theorem vals1_in (n : Nat) (hn : 1 ≤ n) (l Bs n₀ b off cap : Nat) (zs : List SStr) (hl : zs.length ≤ 100000) (hb : b < n₀) (J Jx : List SStr → World → Prop)
    (hY : ∀ pre x W, J pre W → pre.length < zs.length → YieldAt Fence.wide (n - 1) Tryz.prog l (encsV x) W fun e W' =>
      (e = .returned (.bool true) ∧ J (pre ++ [x]) W' ∧ Below n₀ W W') ∨ (e = .returned (.bool false) ∧ Jx (pre ++ [x]) W'))
    (W : World) (hBs : W.cell? ⟨Bs, 0, none⟩ = some (.slice (some ⟨b, off, none⟩) zs.length cap)) (hc : ∀ j, j < zs.length → W.cell? ⟨b, off + j, none⟩ = some (encT (zs.getD j default))) (h0 : J [] W) :
    CallsIn Fence.wide n Tryz.prog 77 #[.func (.yield l) #[] #[], .pointer (some ⟨Bs, 0, none⟩)] W fun e W' => (∃ v, e = .returned v) ∧
      ((∃ ys, ys = fwd zs zs.length ∧ J ys W') ∨ (∃ pre, (∃ k, k ≤ zs.length ∧ pre = fwd zs k) ∧ Jx pre W')) := by
  obtain ⟨len, hlen⟩ : ∃ len, zs.length = len := ⟨_, rfl⟩
  have HB := Lib.hid (fwd_succ zs)
  have HBL := Lib.hid (fwd_length zs)
  rw [hlen] at hY hBs hc hl ⊢
  clear hlen
  have HY := Lib.hid hY
  have HCC := Lib.hid hc
  clear hY hc
  refine callsIn_of_wp Tryz.func77 rfl trivial ?_ rfl
  simp only [Tryz.ntmps77, List.size_toArray, List.length_cons, List.length_nil, Nat.reduceAdd, Nat.reduceSub, Array.replicate_succ, Array.replicate_zero, List.push_toArray, List.append_toArray, List.nil_append, List.cons_append]
  gi_wp2
  gi_loopw [7] (fun i wr => ∃ k : Nat, k ≤ len ∧ i = .int .i64 k ∧ Hid (J (fwd zs k) wr) ∧ Hid (Below n₀ W wr))
    (fun i _ => len - (intOf i).toNat)
  case atStart => exact ⟨0, Nat.zero_le _, rfl, h0, Below.refl _ _⟩
  case round =>
    obtain ⟨k, hk, rfl, hJs, hnx⟩ := hrel
    by_cases hlt : k < len
    · have hcx := (hnx.out.cell (p := ⟨b, off + k, none⟩) hb).trans (HCC.out k hlt)
      obtain ⟨fn, tmps, assign, body, hy, hR⟩ := HY.out _ (zs.getD k default) wr hJs.out (by rw [HBL.out]; omega)
      have HBX := Lib.hid (HB.out k)
      obtain ⟨x, hx⟩ : ∃ x, zs.getD k default = x := ⟨_, rfl⟩
      rw [hx] at hy hR hcx HBX
      unfold encsV encT at hy
      unfold encT at hcx
      clear hx
      gi_wp2
      refine hR.mono ?_
      rintro e W3 (⟨rfl, hJ3, hk3⟩ | ⟨rfl, hJx3⟩)
      · gi_wp2
        go_roundw
        case rel => exact ⟨k + 1, by omega, by go_num, by show J _ _; rw [HBX.out]; exact hJ3, hnx.out.trans hk3⟩
        case measure => simp [intOf]; omega
      · gi_wp2
        refine bodyPost_ret (results_none rfl _ _ _) rfl ?_
        exact ⟨⟨_, rfl⟩, .inr ⟨_, ⟨k + 1, by omega, HBX.out.symm⟩, hJx3⟩⟩
    · obtain rfl : len = k := by omega
      gi_wp2
      go_end0
      exact ⟨⟨_, rfl⟩, .inl ⟨_, rfl, hJs.out⟩⟩

theorem Values_any (a : Option Addr) (len cap : Nat) (w : World) :
    Calls Tryz.prog 41 #[.slice a len cap] w fun e w' => e = .returned (.func (.func 77) #[] #[.pointer (some ⟨w.heap.size, 0, none⟩)]) ∧ w' = w.alloc (.cells #[.slice a len cap] 49) := by
  go_enter Tryz.func41, Tryz.ntmps41
  go_wp2
  go_ret
  exact ⟨rfl, rfl⟩

theorem vals_stops (n : Nat) (hn : 1 ≤ n) (Bs n₀ b off cap : Nat) (zs : List SStr) (hl : zs.length ≤ 100000) (hb : b < n₀) (w : World) (hB : Bs < w.heap.size) (hn₀ : n₀ ≤ w.heap.size)
    (hc : w.cell? ⟨Bs, 0, none⟩ = some (.slice (some ⟨b, off, none⟩) zs.length cap)) (hcs : ∀ j, j < zs.length → w.cell? ⟨b, off + j, none⟩ = some (encT (zs.getD j default))) :
    SeqStopsK Fence.wide n Tryz.prog 77 #[.pointer (some ⟨Bs, 0, none⟩)] encsV (Below n₀) (fun ys => ys = fwd zs zs.length) (fun pre => ∃ k, k ≤ zs.length ∧ pre = fwd zs k) zs.length w := fun l J Jx W hW _ _ hY h0 =>
  vals1_in n hn l Bs n₀ b off cap zs hl hb J Jx hY W ((hW.cell (p := ⟨Bs, 0, none⟩) hB).trans hc) (fun j hj => (hW.cell (p := ⟨b, off + j, none⟩) (by show b < _; omega)).trans (hcs j hj)) h0

theorem below_b {n₀ : Nat} {w : World} (hn : n₀ ≤ w.heap.size) : ∀ (W : World) (l : Nat) (o o' : Obj), w.heap.size ≤ l → W.heap[l]? = some o → o.isCells = false → o.isWalk = false → Below n₀ W (W.putObj l o') := by
  intro W l o o' hl ho _ _
  have h1 := (Array.getElem?_eq_some_iff.1 ho).1
  exact (Below.refl n₀ W).grown (grownBy_putObj' W l o') (by omega) (fun j e => by cases e; omega)
def svT (xs : List SStr) : List Value := svals (xs.map fun y => y.1)
theorem svT_snoc (xs : List SStr) (x : SStr) : svT xs ++ [.string (mk x.1)] = svT (xs ++ [x]) := by simp [svT, svals]

set_option maxRecDepth 100000 in
set_option maxHeartbeats 2000000 in
theorem AppendSeq_any (w : World) (Bs b off cap : Nat) (zs : List SStr) (hl : zs.length ≤ 100000) (hb : b < w.heap.size) (hB : Bs < w.heap.size)
    (hc : w.cell? ⟨Bs, 0, none⟩ = some (.slice (some ⟨b, off, none⟩) zs.length cap)) (hcs : ∀ j, j < zs.length → w.cell? ⟨b, off + j, none⟩ = some (encT (zs.getD j default))) :
    Calls Tryz.prog 118 #[.slice none 0 0, .func (.func 77) #[] #[.pointer (some ⟨Bs, 0, none⟩)]] w fun e w' => ∃ v, e = .returned v ∧ w'.ownsRow w.heap.size 9 1 v zs.length (svT zs) ∧ Below w.heap.size w w' := by
  refine (callsIn_wide (n := 5)).1 ?_
  refine callsIn_of_wp_marks Tryz.func118 rfl trivial ?_ rfl
  simp only [Tryz.ntmps118, List.size_toArray, List.length_cons, List.length_nil, Nat.reduceAdd, Nat.reduceSub, Array.replicate_succ, Array.replicate_zero, List.push_toArray, List.append_toArray, List.nil_append, List.cons_append]
  refine wpIn_wide.2 ?_
  have HC := Lib.hid hc
  have HCS := Lib.hid hcs
  clear hc hcs
  go_wp2
  have BX := Lib.hid (Boxed.new w 49 (.slice none 0 0))
  have B0 := Lib.hid (ba w (.cells #[.slice none 0 0] 49))
  obtain ⟨W0, hW0⟩ : ∃ W0, W0 = w.alloc (.cells #[.slice none 0 0] 49) := ⟨_, rfl⟩
  have hs0 : W0.heap.size = w.heap.size + 1 := by rw [hW0]; simp
  rw [← hW0] at BX B0 ⊢
  clear hW0
  obtain ⟨i0, hi, hz0, hz1, hz2⟩ := info_parts Tryz.infoS
  have HI := Lib.hid (And.intro hi (And.intro hz0 (And.intro hz1 hz2)))
  clear hi hz0 hz1 hz2
  refine (wpIn_wide (n := 5)).1 ?_
  refine wpIn_rangeFunc_ownG (F := Fence.wide) rfl (by decide) (gf := 77) (lb := #[.pointer (some ⟨Bs, 0, none⟩)]) rfl trivial (enters_of Tryz.func77 (by kernel_rfl) rfl)
    (vals_stops 4 (by decide) Bs w.heap.size b off cap zs hl hb W0 (by omega) (by omega) ((B0.out.cell (p := ⟨Bs, 0, none⟩) hB).trans HC.out) (fun j hj => (B0.out.cell (p := ⟨b, off + j, none⟩) hb).trans (HCS.out j hj))) Below.trans (below_b (by omega)) (Below.refl _ _) (fun _ => rfl)
    (fun pre W => (∃ v, Boxed W w.heap.size 49 v ∧ W.ownsRow w.heap.size 9 1 v pre.length (svT pre) ∧ True) ∧ Below w.heap.size W0 W)
    (fun _ _ _ => False)
    (OwnFrom.and (Own.from (holdsRow_own w.heap.size w.heap.size 49 9 1 (fun pre => pre.length) (fun pre => svT pre) (fun _ _ => True)) _) (ownFrom_below (by omega) (by omega)))
    (fun _ _ _ _ _ hs _ _ => hs)
    ⟨⟨_, BX.out, World.ownsRow_nil _ _ _ _, trivial⟩, Below.refl _ _⟩
    (fun x => { tmps := #[.slice none 0 0, .func (.func 77) #[] #[.pointer (some ⟨Bs, 0, none⟩)], .pointer (some ⟨w.heap.size, 0, none⟩), undef, .slice none 0 0, encT x, .func (.func 77) #[] #[.pointer (some ⟨Bs, 0, none⟩)], encT x, undef, undef, undef, undef, undef], defers := [] }) ?assign ?body ?done ?stop
  case assign =>
    intro l x W K hK
    unfold encsV encT
    gi_wp2
    exact hK
  case body =>
    rintro l pre ⟨s, hs⟩ W ⟨⟨v, hv, hrow, -⟩, hBW⟩ hlt
    have hc := hv.cell
    have hz := hBW.size
    show Code.wpIn _ _ _ _ _ { tmps := _, defers := [] } W
    unfold encT
    dsimp only
    gi_wp2_with (gi_at_builtin; refine wpListIn_append_own _ rfl _ _ 49 rfl w.heap.size 9 i0 (.string ByteArray.empty) 1 16 Tryz.underlying49 HI.out.1 HI.out.2.1 HI.out.2.2.1 HI.out.2.2.2 rfl (by decide) _ _ _ rfl (hrow.alloc _) ⟨W.heap.size, 0, none⟩ 1 1 [.string (mk s)] rfl rfl (cell_one_new _ _ _) (by simp [Value.oneCell']) (by unfold maxLen; omega) (by omega) (by simp; omega) ?_; intro v' w1 hown' hgrow _; obtain ⟨g', cap', rfl⟩ := ownsRow_succ hown'; obtain ⟨hv1, hv2, hr2, hk2, hb2⟩ := hv.appended (by decide) hrow (by omega) (Nat.le_refl _) hown' hgrow; have hc1 := hv1.cell; have hf1 := hv1.frozen)
    refine ⟨hk2.from _, hb2, ⟨_, hv2, ?_, trivial⟩, hBW.trans hb2⟩
    have := hr2
    rw [svT_snoc pre ⟨s, hs⟩] at this
    simpa using this
  case done =>
    rintro D' ys W hD rfl ⟨⟨v, hv, hrow, -⟩, hBW⟩ hK
    have hc := hv.cell
    go_wp2
    refine ⟨by simp, .inl ⟨_, _, rfl, run_takeDeferred hK, ?_⟩⟩
    refine ⟨_, results_tmp rfl _ _ _, v, rfl, ?_, ?_⟩
    · have := ownsRow_putObj hrow (.deferred none) hK rfl
      rwa [fwd_length, fwd_all] at this
    · exact (B0.out.trans hBW).trans (below_b (w := W0) (by omega) W D' _ _ hD hK rfl rfl)
  case stop =>
    rintro D' c pre W _ _ h _
    exact h.elim

theorem Collect_any (w : World) (Bs b off cap : Nat) (zs : List SStr) (hl : zs.length ≤ 100000) (hb : b < w.heap.size) (hB : Bs < w.heap.size)
    (hc : w.cell? ⟨Bs, 0, none⟩ = some (.slice (some ⟨b, off, none⟩) zs.length cap)) (hcs : ∀ j, j < zs.length → w.cell? ⟨b, off + j, none⟩ = some (encT (zs.getD j default))) :
    Calls Tryz.prog 75 #[.func (.func 77) #[] #[.pointer (some ⟨Bs, 0, none⟩)]] w fun e w' => ∃ v, e = .returned v ∧ w'.ownsRow w.heap.size 9 1 v zs.length (svT zs) ∧ Below w.heap.size w w' := by
  have CA := Lib.hid (AppendSeq_any w Bs b off cap zs hl hb hB hc hcs)
  clear hc hcs
  go_enter Tryz.func75, Tryz.ntmps75
  go_wp2_with (go_at_call 118; refine CA.out.mono ?_; rintro e w1 ⟨v, rfl, hr, hb1⟩)
  go_ret
  exact ⟨v, rfl, hr, hb1⟩

set_option maxHeartbeats 1600000 in
theorem SortedVals_any (w : World) (a : Option Addr) (n cap : Nat) (L : List Str) (h : IsStrs w a n cap L) (hn : 0 < n) (hl : n ≤ 100000) (hnd : L.Nodup) (Bs : Nat) (hB : Bs < w.heap.size) (hc : w.cell? ⟨Bs, 0, none⟩ = some (.slice a n cap)) :
    Calls Tryz.prog 40 #[.func (.func 77) #[] #[.pointer (some ⟨Bs, 0, none⟩)]] w (RetL (srt L) w) := by
  obtain rfl := h.len
  obtain ⟨b, off, rfl, hb, hcs⟩ := h.at_ hn
  have hlen : L.length = L.length := rfl
  have hz := subL_len L h.small
  have hzm : (subL L h.small).map (fun y => y.1) = L := by
    unfold subL
    rw [List.map_pmap]
    simp
  have CC := Lib.hid (Collect_any w Bs b off cap (subL L h.small) (by omega) hb hB (by rw [hz, hlen]; exact hc) (fun j hj => by
    rw [hcs j (by omega)]
    congr 1
    unfold subL
    rw [List.getD_eq_getElem?_getD, List.getElem?_pmap]
    have hjl : j < L.length := by omega
    simp [encT, List.getElem?_eq_getElem hjl, st, List.getD_eq_getElem?_getD]))
  have HSM := Lib.hid h.small
  have HND := Lib.hid hnd
  unfold svT at CC
  rw [hzm, hz] at CC
  clear hc hcs hzm hz h
  go_enter Tryz.func40, Tryz.ntmps40
  go_wp2_with (go_at_call 75; refine CC.out.mono ?_; rintro e w1 ⟨v, rfl, hr, hb1⟩)
  rcases hr.2 with ⟨_, h0⟩ | ⟨gb, cap2, cur, rfl, hbase, hgb, r1, r2, r3, r4⟩
  · omega
  have hH : Holds encStr w1 gb 0 L.toArray := holds_of_block hgb (by
    have : svals L = L.map encStr := rfl
    rw [this] at r4
    simpa using r4)
  have hgl : gb < w1.heap.size := (Array.getElem?_eq_some_iff.1 hgb).1
  have cS := AnyM.slices_Sort_string Tryz.sort76 gb 0 cap2 L w1 hH hgl (by omega)
  refine cS.mono ?_
  rintro e w' ⟨rfl, nn, os, rfl⟩
  have hrow : (grow (putRow encStr (Sort.ahead w1 nn) gb 0 (L.mergeSort fun x y => decide (x ≤ y)).toArray) os).ownsRow w.heap.size 9 1 (.slice (some ⟨gb, 0, none⟩) L.length cap2) L.length ((L.mergeSort fun x y => decide (x ≤ y)).map encStr) := ownsRow_sorted (by simp) hbase hgb r1 r2 r3
  have hbel : Below w.heap.size w (grow (putRow encStr (Sort.ahead w1 nn) gb 0 (L.mergeSort fun x y => decide (x ≤ y)).toArray) os) := hb1.grown (grownBy_sorted _) hb1.size (fun j hj => by cases hj; exact hbase)
  rw [show (L.mergeSort fun x y => decide (x ≤ y)).map encStr = (srt L).map encStr from congrArg _ (merge_srt HND.out)] at hrow
  have hl2 : (srt L).length = L.length := by
    rw [← merge_srt HND.out]; exact (List.mergeSort_perm L _).length_eq
  go_wp2
  go_ret
  exact ⟨_, rfl, by rw [hl2]; exact hrow, small_srt HSM.out, hbel⟩
end Go.Proofs.YtdeamdpoegdmdaaGreatDoor

/- closure: addedName. -/
namespace Go.Proofs.YtdeamdpoegdmdaaGreatDoor
open Go.RowKit Go.Maps Go.Shelf
open S (wd Is64 Fresh bit IsInt)

theorem jn_join : ∀ (l : List Str), Lib.join l [38] = jn l
  | [] => rfl
  | [x] => Lib.join_one x [38]
  | x :: y :: r => by
    have ih := jn_join (y :: r)
    unfold Lib.join at ih ⊢
    show _ = x ++ 38 :: jn (y :: r)
    rw [← ih]
    simp [List.intercalate, List.intersperse]
theorem jn_len : ∀ (l : List Str), (∀ x ∈ l, x.length ≤ 32) → (jn l).length ≤ 33 * l.length
  | [], _ => Nat.zero_le _
  | [x], h => by have := h x (by simp); show x.length ≤ _; simp; omega
  | x :: y :: r, h => by
    have ih := jn_len (y :: r) (fun z hz => h z (List.mem_cons_of_mem _ hz))
    have hx := h x (List.mem_cons_self ..)
    show (x ++ 38 :: jn (y :: r)).length ≤ _
    simp only [List.length_append, List.length_cons] at ih ⊢
    omega
theorem nms_short {D : List Dec} (hc : chkN D = 0) : ∀ x ∈ nms D, x.length ≤ 32 := by
  have hg := goodN hc
  have hnm : nmE (isNam kLow) [] D = 0 := by
    unfold chkN chk at hc
    rw [if_neg (by simp [hg.sz])] at hc
    split at hc
    · rename_i h; exact absurd hc h
    · rename_i h; exact Classical.byContradiction fun hh => h hh
  obtain ⟨_, _, hnam⟩ := nmE_zero hnm
  intro x hx
  obtain ⟨d, hd, rfl⟩ := List.mem_map.1 hx
  have h := hnam d hd
  unfold isNam at h
  rw [Bool.and_eq_true] at h
  exact of_decide_eq_true h.2
theorem lst_upto {f : Cd} {a : Nat} : ∀ (b : Nat), a ≤ b → (∀ i, a ≤ i → i < b → bit f i = false) → S.lst f b = S.lst f a
  | 0, h, _ => by obtain rfl : a = 0 := by omega
                  rfl
  | b + 1, h, hb => by
    by_cases e : a = b + 1
    · rw [e]
    · rw [S.lst_no (hb b (by omega) (by omega))]
      exact lst_upto b (by omega) (fun i h1 h2 => hb i h1 (by omega))
theorem lst_same {f : Cd} {n : Nat} (hlt : ∀ i, bit f i = true → i < n) : S.lst f (64 * f.length) = S.lst f n := by
  have hout : ∀ i, 64 * f.length ≤ i → bit f i = false := fun i hi => S.bit_out f i (by omega)
  have hn : ∀ i, n ≤ i → bit f i = false := fun i hi => by
    cases hb : bit f i with
    | false => rfl
    | true => have := hlt i hb; omega
  rcases Nat.le_total (64 * f.length) n with h | h
  · exact (lst_upto n h (fun i h1 _ => hout i h1)).symm
  · exact lst_upto _ h (fun i h1 _ => hn i h1)
def selk (D : List Dec) (l : List Nat) (k : Nat) : List Str := (l.take k).map fun i => st (al D) i

set_option maxRecDepth 100000 in
set_option maxHeartbeats 1600000 in
theorem addedName_any (w : World) (a : Option Addr) (n cap : Nat) (D : List Dec) (h : IsDecs w a n cap D) (hc : chkN D = 0) (na : Option Addr) (nc : Nat) (hna : IsStrs w na n nc (al D))
    (fa : Option Addr) (fn fc : Nat) (f : Cd) (hf : Is64 w fa fn fc f) (hlt : ∀ i, bit f i = true → i < n) (hfl : f.length ≤ 64) (hT : S.TabOk w) :
    Calls Tryz.prog 44 #[.slice a n cap, .slice na n nc, .slice fa fn fc] w fun e w' => e = .returned (.string (mk (nam D f))) ∧ Below w.heap.size w w' := by
  have hlen := hf.len
  have hn : n ≤ 256 := (good_up h hc).2.2.2.2.1
  have e0 : S.lst f (64 * fn) = S.lst f n := by rw [← hlen]; exact lst_same hlt
  have HD := Lib.hid h
  have HC := Lib.hid hc
  have HN := Lib.hid hna
  have hal : (al D).length = n := hna.len
  obtain ⟨l, hl⟩ : ∃ l, S.lst f n = l := ⟨_, rfl⟩
  have HLT : Hid (∀ i ∈ l, i < n) := fun i hi => by
    rw [← hl] at hi
    exact (mem_lst.1 hi).1
  have HSEL : Hid (sel D f = l.map fun i => st (al D) i) := by
    show _ = _
    unfold sel
    rw [hal, hl]; rfl
  have hll : l.length ≤ n := by rw [← hl]; exact S.lst_len f n
  have LA : Hid (Calls Tryz.prog 84 #[.slice fa fn fc] w (S.RetI (S.ints l) w)) := by
    have := S.List_any w fa fn fc f hf (by omega) hT
    rw [e0, hl] at this
    exact this
  clear e0 hl h hc hna hf hT hfl hlt
  go_enter Tryz.func44, Tryz.ntmps44
  go_wp2_with (go_at_call 84; refine LA.out.mono ?_; intro e w1 hr; obtain ⟨la, lc, rfl, hI, hb1⟩ := S.RetI.eq _ hr rfl)
  have BI := Lib.hid hb1
  have HIL := Lib.hid hI
  obtain ⟨m, hm⟩ : ∃ m, (S.ints l).length = m := ⟨_, rfl⟩
  have hlm : l.length = m := by rw [← hm]; simp [S.ints]
  rw [hm] at HIL ⊢
  have hmc : m ≤ lc := HIL.out.capLe
  have hmx := HIL.out.maxLe
  unfold maxLen at hmx
  clear hr hI hb1 LA hm
  go_wp2
  go_loopw [7, 13] (fun o v wr => ∃ (k : Nat), k ≤ m ∧ v = .int .i64 k ∧ Hid (wr.ownsRow w1.heap.size 9 1 o k (svals (selk D l k))) ∧ Hid (Below w1.heap.size w1 wr)) (fun _ v _ => m - (intOf v).toNat)
  case atStart => exact ⟨0, Nat.zero_le _, rfl, by unfold selk; exact World.ownsRow_nil _ _ _ _, Below.refl _ _⟩
  case round =>
    obtain ⟨k, hk, rfl, hrow, hB⟩ := hrel
    by_cases hlt : k < m
    · obtain ⟨ib, ioff, rfl, hibl, hix⟩ := HIL.out.at_ (by omega)
      have hkl : k < l.length := by omega
      obtain ⟨x, hx⟩ : ∃ x, l[k]? = some x := ⟨_, List.getElem?_eq_getElem hkl⟩
      have hwi : S.wi (S.ints l) k = (x : Int) := by simp [S.wi, S.ints, hx]
      have c0 := (hB.out.cell (p := ⟨ib, ioff + k, none⟩) hibl).trans (hix k hlt)
      rw [hwi] at c0
      have hxn := HLT.out x (List.mem_of_getElem? hx)
      obtain ⟨nb, noff, rfl, hnbl, hnx⟩ := HN.out.at_ (by omega)
      have hnl : nb < w1.heap.size := Nat.lt_of_lt_of_le hnbl BI.out.size
      have c1 := (hB.out.cell (p := ⟨nb, noff + x, none⟩) hnl).trans ((BI.out.cell (p := ⟨nb, noff + x, none⟩) hnbl).trans (hnx x hxn))
      have hx0 : (0 : Int) ≤ (x : Int) := by omega
      have hx1 : (x : Int) < (n : Int) := by omega
      have HSN : Hid (selk D l (k + 1) = selk D l k ++ [st (al D) x]) := by
        show _ = _
        unfold selk
        rw [List.take_add_one, hx, List.map_append]; rfl
      have HXS := Lib.hid (HN.out.small _ (st_mem (by rw [hal]; exact hxn)))
      obtain ⟨s, hs⟩ : ∃ s, st (al D) x = s := ⟨_, rfl⟩
      rw [hs] at c1 HSN HXS
      have hz := hB.out.size
      have hz1 := BI.out.size
      clear hs hix hnx hwi hx
      go_wp2_with (at_builtin; refine wpList_append_strs (w := wr.alloc (.cells #[.string (mk s)] 9)) rfl _ _ rfl w1.heap.size _ k _ rfl (hrow.out.alloc _) _ 1 1 [s] rfl (IsStrs.one wr s HXS.out) (by omega) (by simp; omega) ?_; intro v5 w5 hown5 hgrow5; have O5 := Lib.hid hown5; have B5 := Lib.hid (grown_below (hB.out.alloc hB.out.size _) (by simp; omega) (hrow.out.alloc _) hgrow5); clear hown5 hgrow5)
      go_roundw
      case rel => exact ⟨k + 1, by omega, by go_num, by rw [HSN.out]; exact O5.out, B5.out⟩
      case measure => simp [intOf]; omega
    · obtain rfl : m = k := by omega
      have ek : selk D l l.length = sel D f := by rw [HSEL.out]; unfold selk; rw [List.take_length]
      have hro := hrow.out
      rw [← hlm, ek] at hro
      have hsl : (sel D f).length = m := by rw [HSEL.out, List.length_map]; exact hlm
      rw [hlm] at hro
      obtain ⟨ba, bc, rfl, hbs⟩ := IsStrs.of_owns hro (fun z hz => HN.out.small z (mem_al.2 (sel_nms hz)))
      have BW := Lib.hid (BI.out.trans (hB.out.mono BI.out.size))
      have MX := Lib.hid (Maximal_any wr a n cap D (HD.out.below BW.out) HC.out ba m bc (sel D f) hbs (by omega))
      clear hro hbs ek hrow hB
      go_wp2_with fail
      refine MX.out.mono ?_
      intro e w2 hy
      obtain ⟨ma, mc, rfl, hms, hb2⟩ := hy.eq _ rfl
      have HMS := Lib.hid hms
      have B2 := Lib.hid (BW.out.trans (hb2.mono BW.out.size))
      clear hy hms hb2 MX
      have HMN : Hid (∀ x ∈ mx D (sel D f), x.length ≤ 32) := fun x hx => nms_short HC.out x (mx_sub hx).2
      have HMJ : Hid (Lib.join (mx D (sel D f)) [38] = nam D f) := jn_join _
      have hml : (mx D (sel D f)).length ≤ 256 := by
        have h1 : (mx D (sel D f)).Nodup := List.Nodup.sublist List.filter_sublist (srt_asc _).nodup
        have h2 := nodup_len h1 (fun x hx => (mx_sub hx).2)
        rw [nms_len, HD.out.len] at h2
        omega
      obtain ⟨L, hL⟩ : ∃ L, mx D (sel D f) = L := ⟨_, rfl⟩
      rw [hL] at HMS HMN HMJ hml ⊢
      have hjl := jn_len L HMN.out
      rw [← jn_join] at hjl
      have HJL : Hid ((Lib.join L [38]).length ≤ 140737488355328) := by show _ ≤ _; omega
      clear hjl
      have hE : L = [] ∨ 0 < L.length := by cases L <;> simp
      rcases hE with rfl | hpos
      · go_wp2_with (go_at_call 85; refine (Tryz.strings_Join_none ma mc _ w2).mono ?_; rintro e w' ⟨rfl, rfl⟩)
        go_ret
        exact ⟨by rw [← HMJ.out]; rfl, B2.out⟩
      · obtain ⟨jb, joff, rfl, hjb, hjx⟩ := HMS.out.at_ hpos
        have hmap : (L.map mk).map (·.data.toList) = L := by
          rw [List.map_map]
          conv => rhs; rw [← List.map_id L]
          exact List.map_congr_left fun x _ => mk_list x
        have JN := Tryz.strings_Join jb joff mc (L.map mk) ⟨#[38]⟩ w2 (fun q x hx => by
          rw [List.getElem?_map] at hx
          have hq : q < L.length := by
            rcases Nat.lt_or_ge q L.length with hq | hq
            · exact hq
            · rw [List.getElem?_eq_none hq] at hx; cases hx
          rw [st_get hq] at hx
          rw [hjx q hq, ← Option.some.inj hx]) hjb (by rw [List.length_map]; omega) (by rw [List.length_map]; exact HMS.out.capLe) (by rw [hmap]; exact HJL.out)
        rw [hmap, List.length_map] at JN
        have JN := Lib.hid JN
        go_wp2_with (go_at_call 85; refine JN.out.mono ?_; rintro e w' ⟨rfl, hb3⟩)
        go_ret
        exact ⟨by rw [← HMJ.out]; rfl, B2.out.trans (hb3.mono B2.out.size)⟩
end Go.Proofs.YtdeamdpoegdmdaaGreatDoor

/- closure: lists of types; Subsumes, Join. -/
namespace Go.Proofs.YtdeamdpoegdmdaaGreatDoor
open Go.RowKit Go.Maps Go.Shelf
open S (wd Is64 Fresh bit)

abbrev Ty := Str × Cd
def ty (L : List Ty) (i : Nat) : Ty := L.getD i ([], [])
theorem ty_get {L : List Ty} {i : Nat} (h : i < L.length) : L[i]? = some (ty L i) := by
  unfold ty; rw [List.getD_eq_getElem?_getD, List.getElem?_eq_getElem h]; rfl
theorem ty_mem {L : List Ty} {i : Nat} (h : i < L.length) : ty L i ∈ L := List.mem_of_getElem? (ty_get h)
structure TyAt (w : World) (b o : Nat) (x : Ty) (xa : Option Addr) (xc : Nat) : Prop where
  c0 : w.cell? ⟨b, o, none⟩ = some (.string (mk x.1))
  c1 : w.cell? ⟨b, o + 1, none⟩ = some (.slice xa x.2.length xc)
  is : Is64 w xa x.2.length xc x.2
  nl : x.1.length ≤ maxLen
theorem TyAt.below {w w' : World} {b o : Nat} {x : Ty} {xa : Option Addr} {xc : Nat} (h : TyAt w b o x xa xc) (hl : b < w.heap.size) (hb : Below w.heap.size w w') : TyAt w' b o x xa xc :=
  ⟨(hb.cell (p := ⟨b, o, none⟩) hl).trans h.c0, (hb.cell (p := ⟨b, o + 1, none⟩) hl).trans h.c1, h.is.below hb, h.nl⟩
/-- A slice of types with codes that reads as a list. -/
structure IsTys (w : World) (a : Option Addr) (n cap : Nat) (L : List Ty) : Prop where
  len : L.length = n
  capLe : n ≤ cap
  maxLe : cap ≤ maxLen
  at_ : 0 < n → ∃ b off, a = some ⟨b, off, none⟩ ∧ b < w.heap.size ∧ ∀ i, i < n → ∃ xa xc, TyAt w b (off + i * 2) (ty L i) xa xc
theorem IsTys.below {w w' : World} {a : Option Addr} {n cap : Nat} {L : List Ty} (h : IsTys w a n cap L) (hb : Below w.heap.size w w') : IsTys w' a n cap L :=
  ⟨h.len, h.capLe, h.maxLe, fun h0 => by
    obtain ⟨b, off, e, hl, hx⟩ := h.at_ h0
    refine ⟨b, off, e, Nat.lt_of_lt_of_le hl hb.size, fun i hi => ?_⟩
    obtain ⟨xa, xc, hd⟩ := hx i hi
    exact ⟨xa, xc, hd.below hl hb⟩⟩
/-- Is the first type above the second one, or the same? -/
def subT (L : List Ty) (i j : Nat) : Bool := S.subB (ty L j).2.length (ty L j).2 (ty L i).2

set_option maxRecDepth 100000 in
theorem Subsumes_any (w : World) (a : Option Addr) (n cap : Nat) (L : List Ty) (h : IsTys w a n cap L) (i j : Nat) (hi : i < n) (hj : j < n) :
    Calls Tryz.prog 24 #[.slice a n cap, .int .i64 i, .int .i64 j] w fun e w' => e = .returned (.bool (subT L i j)) ∧ Below w.heap.size w w' := by
  have hcx := h.capLe
  have hmx := h.maxLe
  unfold maxLen at hmx
  obtain ⟨b, off, rfl, hb, hx⟩ := h.at_ (by omega)
  obtain ⟨xa, xc, h1⟩ := hx i hi
  obtain ⟨ya, yc, h2⟩ := hx j hj
  have SU := Lib.hid (S.Subset_any w.drew ya xa _ _ yc xc _ _ (h2.is.below (Below.refl _ w).drew) (h1.is.below (Below.refl _ w).drew))
  have d1 : w.cell? ⟨b, off + i * 2 + 1, none⟩ = some (.slice xa (ty L i).2.length xc) := h1.c1
  have d2 : w.cell? ⟨b, off + j * 2 + 1, none⟩ = some (.slice ya (ty L j).2.length yc) := h2.c1
  have hi0 : (0 : Int) ≤ (i : Int) := by omega
  have hi1 : (i : Int) < (n : Int) := by omega
  have hj0 : (0 : Int) ≤ (j : Int) := by omega
  have hj1 : (j : Int) < (n : Int) := by omega
  have HB := Lib.hid (show Below w.heap.size w w.drew from (Below.refl _ w).drew)
  clear h h1 h2 hx
  go_enter Tryz.func24, Tryz.ntmps24
  go_wp2
  go_region_held3 (fun w' => w'.cell? ⟨b, off + i * 2 + 1, none⟩ = some (.slice xa (ty L i).2.length xc) ∧ w'.cell? ⟨b, off + j * 2 + 1, none⟩ = some (.slice ya (ty L j).2.length yc)) (first | (go_keep; done) | exact ⟨d1, d2⟩) ((go_at_call 61; refine SU.out.mono ?_; rintro e w' ⟨rfl, rfl⟩))
  go_wp2
  go_ret
  exact ⟨rfl, HB.out⟩

/-- The last type from k down that is above both. -/
def jT (L : List Ty) (i j : Nat) : Nat → Nat
  | 0 => 0
  | k + 1 => if subT L (k + 1) i = true ∧ subT L (k + 1) j = true then k + 1 else jT L i j k
theorem Subsumes_val (w : World) (a : Option Addr) (n cap : Nat) (L : List Ty) (h : IsTys w a n cap L) (i j : Nat) (hi : i < n) (hj : j < n) (b : Bool) (hb : subT L i j = b) :
    Calls Tryz.prog 24 #[.slice a n cap, .int .i64 i, .int .i64 j] w fun e w' => e = .returned (.bool b) ∧ Below w.heap.size w w' := hb ▸ Subsumes_any w a n cap L h i j hi hj

set_option maxRecDepth 100000 in
set_option maxHeartbeats 1600000 in
theorem Join_any (w : World) (a : Option Addr) (n cap : Nat) (L : List Ty) (h : IsTys w a n cap L) (i j : Nat) (hi : i < n) (hj : j < n) :
    Calls Tryz.prog 22 #[.slice a n cap, .int .i64 i, .int .i64 j] w fun e w' => e = .returned (.int .i64 ((jT L i j (min i j) : Nat) : Int)) ∧ Below w.heap.size w w' := by
  have H := Lib.hid h
  have hmx := h.maxLe
  have hcx := h.capLe
  unfold maxLen at hmx
  have hmin : min (i : Int) (j : Int) = ((min i j : Nat) : Int) := by omega
  obtain ⟨q, hq⟩ : ∃ q, min i j = q := ⟨_, rfl⟩
  have hqn : q < n := by omega
  rw [hq] at hmin ⊢
  clear h hq
  go_enter Tryz.func22, Tryz.ntmps22
  go_wp2
  (try rw [hmin])
  clear hmin
  go_loopw [7] (fun v wr => ∃ k : Nat, k ≤ q ∧ v = .int .i64 k ∧ Hid (jT L i j k = jT L i j q) ∧ Hid (Below w.heap.size w wr)) (fun v _ => (intOf v).toNat)
  case atStart => exact ⟨q, Nat.le_refl _, rfl, rfl, Below.refl _ _⟩
  case round =>
    obtain ⟨k, hk, rfl, hJ, hB⟩ := hrel
    cases k with
    | zero =>
      go_wp2
      go_ret
      exact ⟨by rw [← hJ.out]; rfl, hB.out⟩
    | succ k =>
      have hk0 : (0 : Int) < ((k + 1 : Nat) : Int) := by omega
      have hkn : k + 1 < n := by omega
      obtain ⟨m, hm⟩ : ∃ m, k + 1 = m := ⟨_, rfl⟩
      have hJ2 : Hid ((if subT L m i = true ∧ subT L m j = true then m else jT L i j k) = jT L i j q) := by
        show _ = _
        rw [← hJ.out, ← hm]; rfl
      have hmk : (m : Int) - 1 = (k : Int) := by omega
      rw [hm] at hk0 hkn hk ⊢
      clear hJ
      cases h1 : subT L m i
      · go_wp2_with (go_at_call 24; (with_reducible refine (Subsumes_val wr a n cap L (H.out.below hB.out) m i hkn hi false h1).mono ?_); rintro e w2 ⟨rfl, hb2⟩; have B2 := Lib.hid (hB.out.trans (hb2.mono hB.out.size)); clear hb2)
        go_roundw
        case rel => exact ⟨k, by omega, by simp [hmk], by
          have := hJ2.out
          rw [if_neg (by rw [h1]; simp)] at this
          exact this, B2.out⟩
        case measure => simp [intOf]; omega
      · cases h2 : subT L m j
        · go_wp2_with (go_at_call 24; (with_reducible refine (Subsumes_val wr a n cap L (H.out.below hB.out) m i hkn hi true h1).mono ?_); rintro e w2 ⟨rfl, hb2⟩; have B2 := Lib.hid (hB.out.trans (hb2.mono hB.out.size)); clear hb2; go_wp2_with fail)
          refine (Subsumes_val w2 a n cap L (H.out.below B2.out) m j hkn hj false h2).mono ?_
          rintro e w3 ⟨rfl, hb3⟩
          have B3 := Lib.hid (B2.out.trans (hb3.mono B2.out.size))
          clear hb3
          go_wp2
          go_roundw
          case rel => exact ⟨k, by omega, by simp [hmk], by
            have := hJ2.out
            rw [if_neg (by rw [h2]; simp)] at this
            exact this, B3.out⟩
          case measure => simp [intOf]; omega
        · go_wp2_with (go_at_call 24; (with_reducible refine (Subsumes_val wr a n cap L (H.out.below hB.out) m i hkn hi true h1).mono ?_); rintro e w2 ⟨rfl, hb2⟩; have B2 := Lib.hid (hB.out.trans (hb2.mono hB.out.size)); clear hb2; go_wp2_with fail)
          refine (Subsumes_val w2 a n cap L (H.out.below B2.out) m j hkn hj true h2).mono ?_
          rintro e w3 ⟨rfl, hb3⟩
          have B3 := Lib.hid (B2.out.trans (hb3.mono B2.out.size))
          clear hb3
          go_wp2
          go_ret
          exact ⟨by
            have := hJ2.out
            rw [if_pos ⟨h1, h2⟩] at this
            rw [← this]; rfl, B3.out⟩
end Go.Proofs.YtdeamdpoegdmdaaGreatDoor

/- closure: Supers. -/
namespace Go.Proofs.YtdeamdpoegdmdaaGreatDoor
open Go.RowKit Go.Maps Go.Shelf Go.Sort
open S (wd Is64 Fresh bit IsInt wi ivals ints)

set_option maxRecDepth 100000 in
theorem above_any (w : World) (bl bk : Nat) (a : Option Addr) (n cap : Nat) (L : List Ty) (hL : IsTys w a n cap L) (k m : Nat) (hk : k < n) (hm : m < n) (h1 : w.cell? ⟨bl, 0, none⟩ = some (.slice a n cap)) (h2 : w.cell? ⟨bk, 0, none⟩ = some (.int .i64 k)) (r : Bool) (hr : subT L k m = r) :
    Calls Tryz.prog 62 #[.int .i64 m, .pointer (some ⟨bl, 0, none⟩), .pointer (some ⟨bk, 0, none⟩)] w fun e w' => e = .returned (.bool r) ∧ Below w.heap.size w w' := by
  have SU := Lib.hid (Subsumes_val w a n cap L hL k m hk hm r hr)
  clear hL hr
  go_enter Tryz.func62, Tryz.ntmps62
  go_wp2_with (go_at_call 24; refine SU.out.mono ?_; rintro e w' ⟨rfl, hb⟩)
  go_ret
  exact ⟨rfl, hb⟩
theorem above_enters (args : Array Value) (w : World) : (callFunc 62 args).run Tryz.prog w = .ok (.enter 62 args) w := enters_of Tryz.func62 (by kernel_rfl) rfl args w

set_option maxRecDepth 100000 in
theorem IndexI_any (w : World) (a : Option Addr) (n cap : Nat) (zs : List Int) (h : IsInt w a n cap zs) (q1 q2 : Value) (p : Nat → Bool) (hp : ∀ W i, i < n → Below w.heap.size w W → Calls Tryz.prog 62 #[.int .i64 (wi zs i), q1, q2] W fun e w' => e = .returned (.bool (p i)) ∧ Below W.heap.size W w') (r : Bool) (hr : (List.range n).any p = r) :
    Calls Tryz.prog 103 #[.slice a n cap, .func (.func 62) #[] #[q1, q2]] w fun e w' => (∃ z : Int, e = .returned (.int .i64 z) ∧ decide ((0 : Int) ≤ z) = r) ∧ Below w.heap.size w w' := by
  have hmx := h.maxLe
  have hcx := h.capLe
  unfold maxLen at hmx
  have H := Lib.hid h
  have HP := Lib.hid hp
  have HR := Lib.hid hr
  have EN := above_enters
  clear h hp hr
  go_enter Tryz.func103, Tryz.ntmps103
  go_wp2
  go_loopw [8] (fun v wr => ∃ k : Nat, k ≤ n ∧ v = .int .i64 k ∧ Hid (∀ i, i < k → p i = false) ∧ Hid (Below w.heap.size w wr)) (fun v _ => n - (intOf v).toNat)
  case atStart => exact ⟨0, Nat.zero_le _, rfl, (fun i hi => absurd hi (Nat.not_lt_zero _)), Below.refl _ _⟩
  case round =>
    obtain ⟨k, hk, rfl, hno, hB⟩ := hrel
    by_cases hlt : k < n
    · obtain ⟨b, off, rfl, hb, hx⟩ := H.out.at_ (by omega)
      have c1 := (hB.out.cell (p := ⟨b, off + k, none⟩) hb).trans (hx k hlt)
      have hk0 : (0 : Int) ≤ (k : Int) := by omega
      have hk1 : (k : Int) < (n : Int) := by omega
      have CL := Lib.hid (HP.out wr k hlt hB.out)
      clear hx
      cases hpk : p k
      · rw [hpk] at CL
        have HPK := Lib.hid hpk
        clear hpk
        go_wp2_with (go_at_call 62; refine CL.out.mono ?_; rintro e w2 ⟨rfl, hb2⟩; have B2 := Lib.hid (hB.out.trans (hb2.mono hB.out.size)); clear hb2)
        go_roundw
        case rel =>
          refine ⟨k + 1, by omega, by go_num, fun i hi => ?_, B2.out⟩
          rcases Nat.lt_or_ge i k with h2 | h2
          · exact hno.out i h2
          · obtain rfl : i = k := by omega
            exact HPK.out
        case measure => simp [intOf]; omega
      · rw [hpk] at CL
        have HPK := Lib.hid hpk
        clear hpk
        go_wp2_with (go_at_call 62; refine CL.out.mono ?_; rintro e w2 ⟨rfl, hb2⟩; have B2 := Lib.hid (hB.out.trans (hb2.mono hB.out.size)); clear hb2)
        go_ret
        refine ⟨⟨k, rfl, ?_⟩, B2.out⟩
        rw [← HR.out, decide_eq_true hk0, eq_comm, List.any_eq_true]
        exact ⟨k, List.mem_range.2 hlt, HPK.out⟩
    · obtain rfl : n = k := by omega
      go_wp2
      go_ret
      refine ⟨⟨-1, rfl, ?_⟩, hB.out⟩
      rw [← HR.out, decide_eq_false (by omega), eq_comm, List.any_eq_false]
      intro i hi
      rw [hno.out i (List.mem_range.1 hi)]; simp

theorem ContainsI_any (w : World) (a : Option Addr) (n cap : Nat) (zs : List Int) (h : IsInt w a n cap zs) (q1 q2 : Value) (p : Nat → Bool) (hp : ∀ W i, i < n → Below w.heap.size w W → Calls Tryz.prog 62 #[.int .i64 (wi zs i), q1, q2] W fun e w' => e = .returned (.bool (p i)) ∧ Below W.heap.size W w') (r : Bool) (hr : (List.range n).any p = r) :
    Calls Tryz.prog 63 #[.slice a n cap, .func (.func 62) #[] #[q1, q2]] w fun e w' => e = .returned (.bool r) ∧ Below w.heap.size w w' := by
  have IX := Lib.hid (IndexI_any w a n cap zs h q1 q2 p hp r hr)
  clear h hp hr
  go_enter Tryz.func63, Tryz.ntmps63
  go_wp2_with (go_at_call 103; refine IX.out.mono ?_; rintro e w' ⟨⟨z, rfl, hz⟩, hb⟩)
  go_ret
  exact ⟨rfl, hb⟩

/-- The direct supertypes that are found from i - 1 down, after j steps. -/
def supP (L : List Ty) (i : Nat) : Nat → List Nat
  | 0 => []
  | j + 1 => if (subT L (i - 1 - j) i && !(supP L i j).any (subT L (i - 1 - j))) = true then supP L i j ++ [i - 1 - j] else supP L i j
theorem supP_len (L : List Ty) (i : Nat) : ∀ j, (supP L i j).length ≤ j
  | 0 => Nat.le_refl _
  | j + 1 => by
    have := supP_len L i j
    unfold supP
    split
    · rw [List.length_append]; simp; omega
    · omega
theorem supP_lt (L : List Ty) (i : Nat) : ∀ j, j ≤ i → ∀ k ∈ supP L i j, i - j ≤ k ∧ k < i
  | 0, _, k, hk => by cases hk
  | j + 1, hj, k, hk => by
    unfold supP at hk
    split at hk
    · rcases List.mem_append.1 hk with h | h
      · have := supP_lt L i j (by omega) k h
        omega
      · rw [List.mem_singleton] at h
        omega
    · have := supP_lt L i j (by omega) k hk
      omega
theorem wi_ints {l : List Nat} {k : Nat} (h : k < l.length) : wi (ints l) k = ((l[k]'h : Nat) : Int) := by
  unfold S.wi S.ints
  rw [List.getD_eq_getElem?_getD, List.getElem?_map, List.getElem?_eq_getElem h]; rfl
theorem any_range (l : List Nat) (f : Nat → Bool) : (List.range l.length).any (fun i => f (l.getD i 0)) = l.any f := by
  rw [Bool.eq_iff_iff, List.any_eq_true, List.any_eq_true]
  constructor
  · rintro ⟨i, hi, h⟩
    have hi := List.mem_range.1 hi
    rw [List.getD_eq_getElem?_getD, List.getElem?_eq_getElem hi] at h
    exact ⟨_, List.getElem_mem hi, h⟩
  · rintro ⟨x, hx, h⟩
    obtain ⟨i, hi, rfl⟩ := List.getElem_of_mem hx
    refine ⟨i, List.mem_range.2 hi, ?_⟩
    rw [List.getD_eq_getElem?_getD, List.getElem?_eq_getElem hi]; exact h
theorem reIter_box (w : World) (x y z : Value) (t : TypeId) : ((((w.alloc (.cells #[x] t)).setCell ⟨w.heap.size, 0, none⟩ y).setCell ⟨w.heap.size, 0, none⟩ z).cell? ⟨w.heap.size, 0, none⟩ = some z) ∧
    w.grownBy (((w.alloc (.cells #[x] t)).setCell ⟨w.heap.size, 0, none⟩ y).setCell ⟨w.heap.size, 0, none⟩ z) none ∧ (((w.alloc (.cells #[x] t)).setCell ⟨w.heap.size, 0, none⟩ y).setCell ⟨w.heap.size, 0, none⟩ z).heap.size = w.heap.size + 1 := by
  have g1 : w.grownBy (w.alloc (.cells #[x] t)) none := World.grownBy_alloc w _ _
  have h2 : ∀ (W : World) (u : Value), w.grownBy W none → w.grownBy (W.setCell ⟨w.heap.size, 0, none⟩ u) none := fun W u hg =>
    ⟨hg.os, hg.tape, hg.output, by have := hg.size; simpa using this, fun k hk hne => (heap_setCell_other W _ k u (by show k ≠ w.heap.size; omega)).trans (hg.block k hk hne)⟩
  refine ⟨?_, h2 _ _ (h2 _ _ g1), by simp⟩
  exact World.cell?_setCell_same _ _ _ (World.cell?_setCell_same _ _ _ (cell_of_one (heap_alloc_new w _)))
structure SupI (w wr : World) (L : List Ty) (i m : Nat) (u p : Value) : Prop where
  row : wr.ownsRow (w.heap.size + 1) 3 1 u (supP L i (i - m)).length (ivals (ints (supP L i (i - m))))
  box : ∃ bk, p = .pointer (some ⟨bk, 0, none⟩) ∧ wr.cell? ⟨bk, 0, none⟩ = some (.int .i64 ((m : Int) - 1)) ∧ wr.frozen? ⟨bk, 0, none⟩ = false ∧ w.heap.size + 1 ≤ bk ∧ bk < wr.heap.size ∧ u.ownBlock ≠ some bk
/-- A new box for the next round. -/
theorem SupI.next {w W0 wx : World} {L : List Ty} {i m g : Nat} {u : Value} (hz : w.heap.size + 1 ≤ wx.heap.size) (hB : Below (w.heap.size + 1) W0 wx) (hr : wx.ownsRow (w.heap.size + 1) 3 1 u (supP L i (i - m)).length (ivals (ints (supP L i (i - m))))) (hg : wx.heap.size = g) (z : Int) (hzm : z = (m : Int) - 1) (t : TypeId) :
    SupI w (wx.alloc (.cells #[.int .i64 z] t)) L i m u (.pointer (some ⟨g, 0, none⟩)) ∧ Below (w.heap.size + 1) W0 (wx.alloc (.cells #[.int .i64 z] t)) := by
  subst hg
  subst hzm
  refine ⟨⟨hr.alloc _, wx.heap.size, rfl, cell_of_one (heap_alloc_new wx _), by simp, hz, by simp, fun e => ?_⟩, hB.alloc hz _⟩
  have := (hr.lt _ e).2
  omega

theorem grown_putRow (w : World) (g q : Nat) (ys : Array Int) : w.grownBy (putRow (Value.int .i64) (Sort.ahead w q) g 0 ys) (some g) := by
  refine ⟨rfl, rfl, rfl, ?_, fun k hk hne => ?_⟩
  · show _ ≤ (w.heap.modify g _).size
    rw [Array.size_modify]; omega
  · show (w.heap.modify g _)[k]? = _
    rw [Array.getElem?_modify, if_neg (fun e => hne (by rw [e]))]
theorem supP_step (L : List Ty) {i m : Nat} (hm : m + 1 ≤ i) : supP L i (i - m) = if (subT L m i && !(supP L i (i - (m + 1))).any (subT L m)) = true then supP L i (i - (m + 1)) ++ [m] else supP L i (i - (m + 1)) := by
  have e1 : i - m = (i - (m + 1)) + 1 := by omega
  have e2 : i - 1 - (i - (m + 1)) = m := by omega
  rw [e1]
  show (if (subT L (i - 1 - (i - (m + 1))) i && _) = true then _ else _) = _
  rw [e2]

set_option maxRecDepth 100000 in
set_option maxHeartbeats 3200000 in
theorem Supers_any (w : World) (a : Option Addr) (n cap : Nat) (L : List Ty) (h : IsTys w a n cap L) (hn : n ≤ 100000) (i : Nat) (hi : i < n) :
    Calls Tryz.prog 27 #[.slice a n cap, .int .i64 i] w fun e w' => ∃ la lc, e = .returned (.slice la (supP L i i).length lc) ∧ IsInt w' la (supP L i i).length lc (ints (supP L i i).reverse) ∧ Below w.heap.size w w' := by
  have hmx := h.maxLe
  have hcx := h.capLe
  unfold maxLen at hmx
  obtain ⟨W0, hW0⟩ : ∃ W0, W0 = w.alloc (.cells #[.slice a n cap] 25) := ⟨_, rfl⟩
  have b0 : Below w.heap.size w W0 := by rw [hW0]; exact ba _ _
  have hz0 : W0.heap.size = w.heap.size + 1 := by rw [hW0]; simp
  have c0 : W0.cell? ⟨w.heap.size, 0, none⟩ = some (.slice a n cap) := by rw [hW0]; exact cell_of_one (heap_alloc_new w _)
  have H := Lib.hid (h.below b0)
  have B0 := Lib.hid b0
  have EN := above_enters
  obtain ⟨i0, hi0, hiz0, hiz1, hiz2⟩ := info_parts S.Tryz.infoI
  have HI := Lib.hid (And.intro hi0 (And.intro hiz0 (And.intro hiz1 hiz2)))
  clear h b0 hi0 hiz0 hiz1 hiz2
  go_enter Tryz.func27, Tryz.ntmps27
  go_wp2_with fail
  rw [← hW0]
  go_wp2_with fail
  have START := SupI.next (w := w) (W0 := W0) (wx := W0) (L := L) (i := i) (m := i) (u := .slice none 0 0) (by omega) (Below.refl _ _) (by rw [Nat.sub_self]; exact World.ownsRow_nil _ _ _ _) hz0 _ rfl
  go_loopg [5, 6] i (fun m u p wr => m ≤ i ∧ Hid (SupI w wr L i m u p) ∧ Hid (Below (w.heap.size + 1) W0 wr))
  case atStart => exact ⟨Nat.le_refl _, (START _).1, (START _).2⟩
  case round =>
    obtain ⟨hm, hS, hB⟩ := hrel
    obtain ⟨hrow, bk, rfl, hbox, hfz, hbk1, hbk2, hbk3⟩ := hS.out
    cases gk with
    | zero =>
      have hbox0 : wr.cell? ⟨bk, 0, none⟩ = some (.int .i64 (-1)) := hbox
      obtain ⟨la, lc, rfl, hI⟩ := IsInt.of_owns hrow (fun z hz => by
        obtain ⟨k, hk, rfl⟩ := List.mem_map.1 hz
        have := supP_lt L i (i - 0) (by omega) k hk
        omega)
      have BW := Lib.hid (B0.out.trans (hB.out.mono (by omega)))
      rw [Nat.sub_zero] at hrow hI ⊢
      have HB := Lib.hid hB.out
      have hcap := hI.capLe
      have hcm := hI.maxLe
      have hlen := hI.len
      unfold maxLen at hcm
      have HR := Lib.hid hrow
      have HIN := Lib.hid hI
      obtain ⟨q, hq⟩ : ∃ q, supP L i i = q := ⟨_, rfl⟩
      rw [hq] at HR HIN hcap hlen ⊢
      have HQ := Lib.hid hq
      have hql : q.length ≤ i := by rw [← hq]; exact supP_len L i i
      clear hbox hfz hbk3 hS hrow hI hq
      by_cases h0 : q.length = 0
      · have hq0 : q = [] := List.eq_nil_of_length_eq_zero h0
        subst hq0
        rw [List.length_nil]
        go_wp2_with (go_at_call 64; refine (Tryz.slices_Reverse_int_empty la lc wr).mono ?_; rintro e w' ⟨rfl, rfl⟩)
        go_ret
        rw [HQ.out]
        exact ⟨la, lc, rfl, HIN.out, BW.out⟩
      · have hne : (Value.slice la q.length lc) ≠ .slice none 0 0 := fun e => by injection e with _ e2 _; exact h0 e2
        obtain ⟨g, cap', hv, hBg, hg, -, -, -, hH⟩ := Lib.holds_of_ownsRow (enc := Value.int .i64) (zs := ints q) HR.out hne
        injection hv with e1 _ e3
        subst e1
        subst e3
        have RV := Lib.hid (Tryz.slices_Reverse_int g 0 lc (ints q) wr hH (by rw [show (ints q).length = q.length by simp [S.ints]]; omega))
        rw [show (ints q).length = q.length by simp [S.ints]] at RV
        clear hH hne
        go_wp2_with (go_at_call 64; refine RV.out.mono ?_; rintro e w' ⟨rfl, nq, rfl⟩)
        go_ret
        have hrow' := Lib.ownsRow_putRow (enc := Value.int .i64) (q := nq) (k := q.length) (ys := (ints q).reverse) (zs := ints q) HR.out (by simp [S.ints]) (Nat.le_refl _)
        have htk : (ints q).reverse.take q.length = ints q.reverse := by
          rw [List.take_of_length_le (by simp [S.ints])]
          simp [S.ints]
        rw [htk] at hrow'
        obtain ⟨la2, lc2, e2, hI2⟩ := IsInt.of_owns (zs := ints q.reverse) hrow' (fun z hz => by
          have hz' : z ∈ ints q := by
            simp [S.ints] at hz ⊢
            exact hz
          have := HIN.out.bnd
          obtain ⟨k, hk, rfl⟩ := List.getElem_of_mem hz'
          have hk' : k < q.length := by simpa [S.ints] using hk
          have h2 := this k hk'
          have e : wi (ints q) k = (ints q)[k] := by
            unfold S.wi
            rw [List.getD_eq_getElem?_getD, List.getElem?_eq_getElem hk]; rfl
          rw [e] at h2
          exact h2)
        cases e2
        rw [HQ.out]
        exact ⟨_, _, rfl, hI2, BW.out.grown (grown_putRow wr g nq _) BW.out.size (fun j e => by cases e; omega)⟩
    | succ m =>
      have hbox0 : wr.cell? ⟨bk, 0, none⟩ = some (.int .i64 (m : Int)) := by rw [hbox]; congr 2; omega
      have hbl := (hB.out.cell (p := ⟨w.heap.size, 0, none⟩) (Nat.lt_succ_self _)).trans c0
      have HBW : Hid (Below W0.heap.size W0 wr) := by show Below _ _ _; rw [hz0]; exact hB.out
      have HTY := Lib.hid (H.out.below HBW.out)
      have ST := Lib.hid (supP_step L (i := i) (m := m) hm)
      obtain ⟨l, hl⟩ : ∃ l, supP L i (i - (m + 1)) = l := ⟨_, rfl⟩
      have hll : l.length ≤ i := by rw [← hl]; exact Nat.le_trans (supP_len L i _) (by omega)
      have HLT : Hid (∀ k ∈ l, k < i) := fun k hk => (supP_lt L i (i - (m + 1)) (by omega) k (by rw [hl]; exact hk)).2
      rw [hl] at hrow ST
      obtain ⟨la, lc, rfl, hI⟩ := IsInt.of_owns hrow (fun z hz => by
        obtain ⟨k, hk, rfl⟩ := List.mem_map.1 hz
        have := HLT.out k hk
        omega)
      have HROW := Lib.hid hrow
      have HIN := Lib.hid hI
      have hzw : w.heap.size + 1 ≤ wr.heap.size := by omega
      have hm0 : (0 : Int) ≤ (m : Int) := by omega
      clear hbox hS hrow hI hl
      have AB : ∀ W, Below wr.heap.size wr W → ∀ x, x < n → ∀ r, subT L m x = r → Calls Tryz.prog 62 #[.int .i64 x, .pointer (some ⟨w.heap.size, 0, none⟩), .pointer (some ⟨bk, 0, none⟩)] W fun e w' => e = .returned (.bool r) ∧ Below W.heap.size W w' := fun W hW x hx r hr =>
        above_any W w.heap.size bk a n cap L (HTY.out.below hW) m x (by omega) hx ((hW.cell (p := ⟨w.heap.size, 0, none⟩) (by show w.heap.size < _; omega)).trans hbl) ((hW.cell (p := ⟨bk, 0, none⟩) hbk2).trans hbox0) r hr
      have HAB := Lib.hid AB
      clear AB
      cases h1 : subT L m i
      · have E : Hid (supP L i (i - m) = l) := by show _ = _; rw [ST.out, h1]; simp
        have H1 := Lib.hid h1
        clear h1
        go_wp2_with (go_at_call 62; refine (HAB.out wr (Below.refl _ _) i hi false H1.out).mono ?_; rintro e w2 ⟨rfl, hb2⟩; have hbox2 := (hb2.cell (p := ⟨bk, 0, none⟩) hbk2).trans hbox0; have B2 := Lib.hid (hB.out.trans (hb2.mono hzw)); have R2 := Lib.hid (owns_below HROW.out hb2); have hz2 := hb2.size; clear hb2)
        have NX := SupI.next (w := w) (W0 := W0) (wx := w2) (L := L) (i := i) (m := m) (g := w2.heap.size) (u := .slice la l.length lc) (by omega) B2.out (by rw [E.out]; exact R2.out) rfl _ rfl
        go_roundg m
        case rel => exact ⟨by omega, (NX _).1, (NX _).2⟩
        case measure => omega
      · obtain ⟨r, hr⟩ : ∃ r, l.any (subT L m) = r := ⟨_, rfl⟩
        have CI : Hid (∀ W, Below wr.heap.size wr W → Calls Tryz.prog 63 #[.slice la l.length lc, .func (.func 62) #[] #[.pointer (some ⟨w.heap.size, 0, none⟩), .pointer (some ⟨bk, 0, none⟩)]] W fun e w' => e = .returned (.bool r) ∧ Below W.heap.size W w') := fun W hW =>
          ContainsI_any W la l.length lc (ints l) (HIN.out.below hW) _ _ (fun x => subT L m (l.getD x 0)) (fun V x hx hV => by
            have e : wi (ints l) x = ((l.getD x 0 : Nat) : Int) := by
              rw [wi_ints hx, List.getD_eq_getElem?_getD, List.getElem?_eq_getElem hx]; rfl
            rw [e]
            refine HAB.out V (hW.trans (hV.mono hW.size)) _ ?_ _ rfl
            have : l.getD x 0 ∈ l := by
              rw [List.getD_eq_getElem?_getD, List.getElem?_eq_getElem hx]; exact List.getElem_mem hx
            have := HLT.out _ this
            omega) r (by rw [any_range]; exact hr)
        rw [h1, hr] at ST
        have H1 := Lib.hid h1
        clear h1 hr
        cases r
        · have E : Hid (supP L i (i - m) = l ++ [m]) := by show _ = _; rw [ST.out]; simp
          go_wp2_with (first
            | (go_at_call 62; refine (HAB.out wr (Below.refl _ _) i hi true H1.out).mono ?_; rintro e w2 ⟨rfl, hb2⟩; have BB2 := Lib.hid hb2; clear hb2)
            | (go_at_call 63; refine (CI.out w2 BB2.out).mono ?_; rintro e w3 ⟨rfl, hb3⟩; have hb3 := BB2.out.trans (hb3.mono BB2.out.size); have hbox3 := (hb3.cell (p := ⟨bk, 0, none⟩) hbk2).trans hbox0; have B3 := Lib.hid (hB.out.trans (hb3.mono hzw)); have R3 := Lib.hid (owns_below HROW.out hb3); have hz3 := hb3.size; clear hb3)
            | (at_builtin; refine wpList_append_own_at (w3.alloc (.cells #[.int .i64 (m : Int)] 3)) rfl _ _ 42 rfl (w.heap.size + 1) 3 i0 (.int .i64 0) 1 8 Tryz.underlying42 HI.out.1 HI.out.2.1 HI.out.2.2.1 HI.out.2.2.2 rfl (by decide) (.slice la l.length lc) l.length (ivals (ints l)) rfl (R3.out.alloc _) ⟨w3.heap.size, 0, none⟩ 1 1 [.int .i64 (m : Int)] rfl rfl (S.one_new _ _ _) (S.oneCell_one _ _) (by unfold maxLen; omega) (by omega) (by simp; omega) ?_; intro v4 w4 hown hgrow _ hloc; have R4 := Lib.hid hown; have G4 := Lib.hid hgrow; have hbox4 : w4.cell? ⟨bk, 0, none⟩ = some (.int .i64 (m : Int)) := (hgrow.cell ((World.cell?_alloc_lt _ _ _ (by show bk < _; omega)).trans hbox3) (fun e => hbk3 e.symm)); clear hown hgrow hloc))
          have hz4 := G4.out.size
          rw [World.size_alloc] at hz4
          have B4 : Hid (Below (w.heap.size + 1) W0 w4) := by
            refine ((B3.out.alloc (by omega) _).grown G4.out (by rw [World.size_alloc]; omega) (fun j e => (HROW.out.lt j e).1))
          have NX := SupI.next (w := w) (W0 := W0) (wx := w4) (L := L) (i := i) (m := m) (g := w4.heap.size) (u := v4) (by omega) B4.out (by rw [E.out, List.length_append, ← S.ivals_snoc]; exact R4.out) rfl _ rfl
          go_roundg m
          case rel => exact ⟨by omega, (NX _).1, (NX _).2⟩
          case measure => omega
        · have E : Hid (supP L i (i - m) = l) := by show _ = _; rw [ST.out]; simp
          go_wp2_with (first
            | (go_at_call 62; refine (HAB.out wr (Below.refl _ _) i hi true H1.out).mono ?_; rintro e w2 ⟨rfl, hb2⟩; have BB2 := Lib.hid hb2; clear hb2)
            | (go_at_call 63; refine (CI.out w2 BB2.out).mono ?_; rintro e w3 ⟨rfl, hb3⟩; have hb3 := BB2.out.trans (hb3.mono BB2.out.size); have hbox3 := (hb3.cell (p := ⟨bk, 0, none⟩) hbk2).trans hbox0; have B3 := Lib.hid (hB.out.trans (hb3.mono hzw)); have R3 := Lib.hid (owns_below HROW.out hb3); have hz3 := hb3.size; clear hb3))
          have NX := SupI.next (w := w) (W0 := W0) (wx := w3) (L := L) (i := i) (m := m) (g := w3.heap.size) (u := .slice la l.length lc) (by omega) B3.out (by rw [E.out]; exact R3.out) rfl _ rfl
          go_roundg m
          case rel => exact ⟨by omega, (NX _).1, (NX _).2⟩
          case measure => omega
end Go.Proofs.YtdeamdpoegdmdaaGreatDoor

/- Walks of package closure: find at sets. -/
namespace Go.Proofs.YtdeamdpoegdmdaaGreatDoor
open Go.RowKit
open S (wd Is64 Fresh subB bit)

/-- Whether one set lies in another, as the program finds it. -/
theorem subB_iff {a b : Cd} (ha : IsS a) (hb : IsS b) : subB a.length a b = true ↔ Sub a b := by
  constructor
  · intro h i hi
    unfold S.subB at h
    rw [List.all_eq_true] at h
    have hl : i / 64 < a.length := by
      rcases Nat.lt_or_ge (i / 64) a.length with g | g
      · exact g
      · rw [S.bit_out a i g] at hi; cases hi
    have := h (i / 64) (List.mem_range.2 hl)
    rw [beq_iff_eq] at this
    have ht := S.testBit_not (a := wd a (i / 64)) (b := wd b (i / 64)) (j := i % 64) (hb.2 _) (Nat.mod_lt _ (by decide))
    rw [this, Nat.zero_testBit] at ht
    unfold S.bit at hi ⊢
    rw [hi] at ht
    cases hx : (wd b (i / 64)).testBit (i % 64) with
    | true => rfl
    | false => rw [hx] at ht; cases ht
  · exact fun h => S.sub_of ha.2 hb.2 _ h
theorem subB_val {a b : Cd} (ha : IsS a) (hb : IsS b) : (subB a.length a b && subB b.length b a) = decide (a = b) := by
  rw [Bool.eq_iff_iff, Bool.and_eq_true, subB_iff ha hb, subB_iff hb ha, decide_eq_true_iff]
  exact ⟨fun ⟨h, g⟩ => Sub.anti ha hb h g, by rintro rfl; exact ⟨Sub.refl _, Sub.refl _⟩⟩
theorem EqualS_any (w : World) (x y : Value) (a b : Cd) (hx : SetV w x a) (hy : SetV w y b) (ha : IsS a) (hb : IsS b) :
    Calls Tryz.prog 31 #[x, y] w fun e w' => e = .returned (.bool (decide (a = b))) ∧ w = w' := by
  obtain ⟨a1, c1, rfl, h1⟩ := hx
  obtain ⟨a2, c2, rfl, h2⟩ := hy
  have := S.Equal_any w a1 a2 _ _ c1 c2 a b h1 h2
  rwa [subB_val ha hb] at this

def idxO : Option Nat → Int
  | some k => (k : Int)
  | none => -1
theorem idxBy_find {α : Type} (p : α → Bool) (d : α) : ∀ (zs : List α) (i : Nat), Lib.idxByFrom (fun _ y => p y) d zs i = match zs.findIdx? p with | some k => ((i + k : Nat) : Int) | none => -1
  | [], i => rfl
  | y :: r, i => by
    rw [Lib.idxByFrom, List.findIdx?_cons]
    cases hp : p y with
    | true => simp
    | false =>
      rw [if_neg (by simp), idxBy_find p d r (i + 1)]
      cases r.findIdx? p with
      | none => simp
      | some k => show ((i + 1 + k : Nat) : Int) = ((i + (k + 1) : Nat) : Int); congr 1; omega
theorem idxBy_val {α : Type} (p : α → Bool) (d : α) (zs : List α) : Lib.idxBy (fun _ y => p y) zs d = idxO (zs.findIdx? p) := by
  unfold Lib.idxBy
  rw [idxBy_find]
  cases zs.findIdx? p with
  | none => rfl
  | some k => simp [idxO]
/-- The place of a set in a list, or -1. -/
def ixS (C : List Cd) (c : Cd) : Int := idxO (C.findIdx? fun y => decide (y = c))
theorem ixS_neg {C : List Cd} {c : Cd} : ixS C c < 0 ↔ c ∉ C := by
  unfold ixS
  cases e : C.findIdx? fun y => decide (y = c) with
  | none =>
    rw [List.findIdx?_eq_none_iff] at e
    constructor
    · intro _ hc
      have := e c hc
      simp at this
    · intro _; decide
  | some k =>
    obtain ⟨hk, hp, _⟩ := List.findIdx?_eq_some_iff_getElem.1 e
    have hm : c ∈ C := by
      have := of_decide_eq_true hp
      rw [← this]; exact List.getElem_mem hk
    constructor
    · intro h; simp [idxO] at h; omega
    · intro h; exact absurd hm h

theorem itself_any (w : World) (x : Value) : Calls Tryz.prog 78 #[x] w fun e w' => e = .returned x ∧ w = w' := by
  go_enter Tryz.func78, Tryz.ntmps78
  go_wp2
  go_ret
  exact ⟨rfl, rfl⟩
theorem itself_enters (args : Array Value) (w : World) : (callFunc 78 args).run Tryz.prog w = .ok (.enter 78 args) w := enters_of Tryz.func78 (by kernel_rfl) rfl args w

set_option maxRecDepth 100000 in
theorem findB_pred (w : World) (x y : Value) (a c : Cd) (bf bc : Nat) (hx : SetV w x a) (hy : SetV w y c) (ha : IsS a) (hc : IsS c) (h1 : w.cell? ⟨bf, 0, none⟩ = some (.func (.func 78) #[] #[])) (h2 : w.cell? ⟨bc, 0, none⟩ = some y) :
    Calls Tryz.prog 121 #[x, .pointer (some ⟨bf, 0, none⟩), .pointer (some ⟨bc, 0, none⟩)] w fun e w' => e = .returned (.bool (decide (a = c))) ∧ ∃ q, w' = w.drewN q := by
  have EQ := Lib.hid (EqualS_any w.drew x y a c (hx.below (Below.refl _ w).drew) (hy.below (Below.refl _ w).drew) ha hc)
  have EN := itself_enters
  obtain ⟨r, hr⟩ : ∃ r, decide (a = c) = r := ⟨_, rfl⟩
  rw [hr] at EQ ⊢
  obtain ⟨xa, xc, rfl, -⟩ := hx
  obtain ⟨ya, yc, rfl, -⟩ := hy
  clear hr
  go_enter Tryz.func121, Tryz.ntmps121
  go_wp2
  go_region_held3 (fun w' => w'.cell? ⟨bf, 0, none⟩ = some (.func (.func 78) #[] #[]) ∧ w'.cell? ⟨bc, 0, none⟩ = some (.slice ya c.length yc)) (go_keep) ((first
    | (go_at_call 78; (with_reducible refine (itself_any _ _).mono ?_); rintro e w' ⟨rfl, rfl⟩)
    | (go_at_call 31; (with_reducible refine EQ.out.mono ?_); rintro e w' ⟨rfl, rfl⟩)))
  go_wp2
  go_ret
  exact ⟨rfl, 1, rfl⟩
end Go.Proofs.YtdeamdpoegdmdaaGreatDoor

/- Walks of package closure: find and Clone at sets; plain: the family while it grows. -/
namespace Go.Proofs.YtdeamdpoegdmdaaGreatDoor
open Go.RowKit
open S (wd Is64 Fresh subB bit SAnd)

abbrev SEl (w : World) := { y : Value × Cd // SetV w y.1 y.2 ∧ IsS y.2 }
instance (w : World) : Inhabited (SEl w) := ⟨⟨(.slice none 0 0, []), SetV.nil w, IsS.nil⟩⟩

theorem IsSets.els {w : World} {b off n cap : Nat} {C : List Cd} (h : IsSets w (some ⟨b, off, none⟩) n cap C) (h0 : 0 < n) : ∃ f : Nat → Value, ∀ i, i < n → w.cell? ⟨b, off + i, none⟩ = some (f i) ∧ SetV w (f i) (cg C i) := by
  obtain ⟨b', off', e, hb, hx⟩ := h.at_ h0
  cases e
  exact ⟨fun i => if hi : i < n then Classical.choose (hx i hi) else undef, fun i hi => by dsimp only; rw [dif_pos hi]; exact Classical.choose_spec (hx i hi)⟩

set_option maxRecDepth 100000 in
set_option maxHeartbeats 1600000 in
theorem findB_any (w : World) (a : Option Addr) (n cap : Nat) (C : List Cd) (x : Value) (c : Cd) (h : IsSets w a n cap C) (h0 : 0 < n) (hn : n ≤ 100000) (hC : ∀ d ∈ C, IsS d) (hx : SetV w x c) (hc : IsS c) :
    Calls Tryz.prog 80 #[.slice a n cap, x, .func (.func 78) #[] #[]] w fun e w' => e = .returned (.int .i64 (ixS C c)) ∧ Below w.heap.size w w' := by
  obtain ⟨b, off, rfl, hb, -⟩ := h.at_ h0
  obtain ⟨f, hf⟩ := h.els h0
  have hlen := h.len
  have eg : ∀ args w, (callFunc 121 args).run Tryz.prog w = .ok (.enter 121 args) w := enters_of Tryz.func121 (by kernel_rfl) rfl
  obtain ⟨W, hW⟩ : ∃ W, W = (w.alloc (.cells #[x] 31)).alloc (.cells #[.func (.func 78) #[] #[]] 86) := ⟨_, rfl⟩
  have hbW : Below w.heap.size w W := by rw [hW]; exact ((Below.refl _ w).alloc (Nat.le_refl _) _).alloc (by simp) _
  have hcf : W.cell? ⟨w.heap.size + 1, 0, none⟩ = some (.func (.func 78) #[] #[]) := by
    rw [hW]
    have := cell_of_one (heap_alloc_new (w.alloc (.cells #[x] 31)) (.cells #[.func (.func 78) #[] #[]] 86))
    rwa [World.size_alloc] at this
  have hcx : W.cell? ⟨w.heap.size, 0, none⟩ = some x := by
    rw [hW]
    have := cell_of_one (heap_alloc_new w (.cells #[x] 31))
    exact (World.cell?_alloc_lt _ _ _ (by simp)).trans this
  have hzW : W.heap.size = w.heap.size + 2 := by rw [hW]; simp
  obtain ⟨zs, hzs⟩ : ∃ zs : List (SEl W), zs = List.ofFn fun i : Fin n => (⟨(f i, cg C i), (hf i i.2).2.below hbW, hC _ (cg_mem (by rw [hlen]; exact i.2))⟩ : SEl W) := ⟨_, rfl⟩
  have hzl : zs.length = n := by rw [hzs]; simp
  have hzm : zs.map (fun y => y.1.2) = C := by
    apply List.ext_getElem
    · rw [List.length_map, hzl, hlen]
    · intro i h1 h2
      have := cg_get h2
      rw [List.getElem?_eq_getElem h2] at this
      rw [Option.some.inj this, List.getElem_map]
      simp only [hzs, List.getElem_ofFn]
  have hcon := AnyE.slices_IndexFunc Tryz.idxE120 (fun y : SEl W => y.1.1) (fun y => decide (y.1.2 = c)) 121 #[.pointer (some ⟨w.heap.size + 1, 0, none⟩), .pointer (some ⟨w.heap.size, 0, none⟩)] eg b off n cap zs W
    (fun V y hV => findB_pred V y.1.1 x y.1.2 c _ _ (y.2.1.below hV) ((hx.below hbW).below hV) y.2.2 hc ((hV.cell (p := ⟨w.heap.size + 1, 0, none⟩) (by rw [hzW]; simp)).trans hcf) ((hV.cell (p := ⟨w.heap.size, 0, none⟩) (by rw [hzW]; simp)).trans hcx))
    (by omega) (by omega) (fun j hj => by
      have hj' : j < n := by omega
      rw [(hbW.cell (p := ⟨b, off + j, none⟩) hb).trans (hf j hj').1]
      have : zs[j]! = ⟨(f j, cg C j), (hf j hj').2.below hbW, hC _ (cg_mem (by rw [hlen]; exact hj'))⟩ := by
        rw [getElem!_pos zs j hj]
        simp only [hzs, List.getElem_ofFn]
      rw [this])
  change Calls Tryz.prog 120 _ _ _ at hcon
  have hr : Lib.idxBy (fun _ y => decide (y.1.2 = c)) (zs.take n) default = ixS C c := by
    rw [idxBy_val, List.take_of_length_le (by omega)]
    unfold ixS
    rw [← hzm, List.findIdx?_map]
    rfl
  rw [hr, hW] at hcon
  have HC := Lib.hid hcon
  have HB : Hid (∀ q, Below w.heap.size w (((w.alloc (.cells #[x] 31)).alloc (.cells #[.func (.func 78) #[] #[]] 86)).drewN q)) := fun q => by
    rw [hW] at hbW; exact Go.Proofs.below_drewN' hbW q
  obtain ⟨xa, xc, rfl, -⟩ := hx
  clear hcon hr hzm hzl hzs hzW hcx hcf hbW hW hf h eg
  go_enter Tryz.func80, Tryz.ntmps80
  go_wp2_with (go_at_call 120; refine HC.out.mono ?_; rintro e w' ⟨rfl, q, rfl⟩)
  go_ret
  exact ⟨rfl, HB.out q⟩

/-- slices.Clone of a slice of sets. -/
theorem CloneS_any (w : World) (a : Option Addr) (n cap : Nat) (C : List Cd) (h : IsSets w a n cap C) (h0 : 0 < n) (hn : n ≤ 100000) (hne : ∀ c ∈ C, c ≠ []) :
    Calls Tryz.prog 79 #[.slice a n cap] w fun e w' => ∃ v, e = .returned v ∧ OwnS w' w.heap.size v n C ∧ Below w.heap.size w w' := by
  obtain ⟨b, off, rfl, hb, -⟩ := h.at_ h0
  obtain ⟨f, hf⟩ := h.els h0
  obtain ⟨i0, hi, hz0, hz1, hz2⟩ := info_parts Tryz.infoBs
  have hel : ∀ (j : Nat) u, (List.ofFn fun i : Fin n => f i)[j]? = some u → j < n ∧ u = f j := by
    intro j u hu
    obtain ⟨h1, h2⟩ := List.getElem?_eq_some_iff.1 hu
    have hj : j < n := by simpa using h1
    exact ⟨hj, by rw [← h2]; simp⟩
  have hcon := AnyE.slices_Clone Tryz.cloneE79 i0 (.slice none 0 0) 1 24 hi hz0 hz1 hz2 rfl (by decide) Tryz.sizeOf31 b off n cap (List.ofFn fun i : Fin n => f i) w (by simp) (by unfold maxLen; omega) (by omega)
    (fun j u hu => by obtain ⟨hj, rfl⟩ := hel j u hu; exact (hf j hj).1)
    (fun u hu => by obtain ⟨j, hj⟩ := List.getElem?_of_mem hu; obtain ⟨hj', rfl⟩ := hel j u hj; exact (hf j hj').2.oneC)
  refine hcon.mono ?_
  rintro e w' ⟨v, he, hrow, hnn, hbl⟩
  refine ⟨v, he, ⟨_, hrow, h.len, fun i hi => ⟨f i, ?_, ?_⟩⟩, hbl⟩
  · rw [List.getElem?_eq_getElem (by simpa using hi)]; simp
  · have hlt := (hf i hi).2.lt (hne _ (cg_mem (by rw [h.len]; exact hi)))
    exact ⟨(hf i hi).2.below hbl, fun b hb => Nat.lt_of_lt_of_le (hlt b hb) hbl.size, fun g hg hxg => by have := (hrow.lt g hg).1; have := hlt g hxg; omega⟩

/-! The family while it grows. -/
structure FI (C L : List Cd) (i : Nat) : Prop where
  pre : C <+: L
  nodup : L.Nodup
  fam : ∀ l ∈ L, Fam sAlg C l
  le : L.length ≤ 256
  i_le : i ≤ L.length
  done : ∀ j l, j < i → L[j]? = some l → ∀ c ∈ C, SAnd l c = [] ∨ SAnd l c ∈ L
structure FJ (C L : List Cd) (i k : Nat) : Prop where
  base : FI C L i
  lt : i < L.length
  part : ∀ c ∈ C.take k, SAnd (cg L i) c = [] ∨ SAnd (cg L i) c ∈ L
theorem FI.start {C : List Cd} (hn : C.Nodup) (hl : C.length ≤ 256) : FI C C 0 :=
  ⟨List.prefix_refl C, hn, (fun _ h => .base h), hl, Nat.zero_le _, fun _ _ h => absurd h (Nat.not_lt_zero _)⟩
theorem FI.inner {C L : List Cd} {i : Nat} (h : FI C L i) (hi : i < L.length) : FJ C L i 0 := ⟨h, hi, fun c hc => by simp at hc⟩
theorem take_cg {C : List Cd} {k : Nat} (h : k < C.length) : C.take (k + 1) = C.take k ++ [cg C k] := by
  rw [List.take_succ_eq_append_getElem h]
  have := cg_get h
  rw [List.getElem?_eq_getElem h] at this
  rw [Option.some.inj this]
theorem FJ.skip {C L : List Cd} {i k : Nat} (h : FJ C L i k) (hk : k < C.length) (hs : SAnd (cg L i) (cg C k) = [] ∨ SAnd (cg L i) (cg C k) ∈ L) : FJ C L i (k + 1) :=
  ⟨h.base, h.lt, fun c hc => by
    rw [take_cg hk] at hc
    rcases List.mem_append.1 hc with e | e
    · exact h.part c e
    · rw [List.mem_singleton] at e; rw [e]; exact hs⟩
theorem FJ.new {C L : List Cd} {i k : Nat} (h : FJ C L i k) (hk : k < C.length) (hne : SAnd (cg L i) (cg C k) ≠ []) : Fam sAlg C (SAnd (cg L i) (cg C k)) :=
  .inter (h.base.fam _ (cg_mem h.lt)) (.base (cg_mem hk)) hne
theorem FJ.add {C L : List Cd} {i k : Nat} (h : FJ C L i k) (hk : k < C.length) (hne : SAnd (cg L i) (cg C k) ≠ []) (hni : SAnd (cg L i) (cg C k) ∉ L) (hl : L.length < 256) : FJ C (L ++ [SAnd (cg L i) (cg C k)]) i (k + 1) := by
  have up : ∀ {s : Cd}, s = [] ∨ s ∈ L → s = [] ∨ s ∈ L ++ [SAnd (cg L i) (cg C k)] := fun hs => hs.imp id fun m => List.mem_append.2 (.inl m)
  have hlt := h.lt
  have e : cg (L ++ [SAnd (cg L i) (cg C k)]) i = cg L i := by rw [cg_app, if_pos h.lt]
  refine ⟨⟨h.base.pre.trans (List.prefix_append _ _), ?_, ?_, by rw [List.length_append]; simp; omega, by rw [List.length_append]; omega, ?_⟩, by rw [List.length_append]; omega, ?_⟩
  · rw [List.nodup_append]
    exact ⟨h.base.nodup, by simp, fun x hx y hy => by rw [List.mem_singleton] at hy; rw [hy]; rintro rfl; exact hni hx⟩
  · intro l hl
    rcases List.mem_append.1 hl with e | e
    · exact h.base.fam l e
    · rw [List.mem_singleton] at e; rw [e]; exact h.new hk hne
  · intro j l hj hjl c hc
    rw [List.getElem?_append_left (by omega)] at hjl
    exact up (h.base.done j l hj hjl c hc)
  · intro c hc
    rw [e]
    rw [take_cg hk] at hc
    rcases List.mem_append.1 hc with e | e
    · exact up (h.part c e)
    · rw [List.mem_singleton] at e; rw [e]; exact .inr (by simp)
theorem FJ.end {C L : List Cd} {i : Nat} (h : FJ C L i C.length) : FI C L (i + 1) :=
  ⟨h.base.pre, h.base.nodup, h.base.fam, h.base.le, h.lt, fun j l hj hjl c hc => by
    rcases Nat.lt_succ_iff_lt_or_eq.1 hj with e | e
    · exact h.base.done j l e hjl c hc
    · subst e
      have : cg L j = l := by
        have := cg_get h.lt
        rw [hjl] at this; exact (Option.some.inj this).symm
      rw [← this]
      exact h.part c (by rw [List.take_length]; exact hc)⟩
theorem FI.end {C L : List Cd} (hC : Sets sAlg C) (h : FI C L L.length) : ∀ x, x ∈ L ↔ Fam sAlg C x := fun x =>
  ⟨h.fam x, fun hx => fam_into hC (fun l hl => (h.fam l hl).ok hC) (fun c hc => h.pre.subset hc) (fun l hl c hc => by
    obtain ⟨j, hj⟩ := List.getElem?_of_mem hl
    exact h.done j l (List.getElem?_eq_some_iff.1 hj).1 hj c hc) hx⟩
theorem fam_len {C : List Cd} (hl : ∀ c ∈ C, c.length ≤ 64) {f : Cd} (hf : Fam sAlg C f) : f.length ≤ 64 := by
  induction hf with
  | base h => exact hl _ h
  | @inter a b _ _ _ iha _ => exact Nat.le_trans (S.nrm_le _ _) (Nat.le_trans (Nat.min_le_left _ _) iha)
end Go.Proofs.YtdeamdpoegdmdaaGreatDoor

/- closure: Find. -/
namespace Go.Proofs.YtdeamdpoegdmdaaGreatDoor
open Go.RowKit Go.Maps Go.Shelf
open S (wd Is64 Fresh bit)

theorem codeOf_any (w : World) (s : ByteArray) (xa : Option Addr) (n xc : Nat) :
    Calls Tryz.prog 56 #[.agg #[.string s, .slice xa n xc]] w fun e w' => e = .returned (.slice xa n xc) ∧ w' = w.alloc (.cells #[.string s, .slice xa n xc] 36) := by
  go_enter Tryz.func56, Tryz.ntmps56
  go_wp2
  go_ret
  exact ⟨rfl, rfl⟩
theorem codeOf_enters (args : Array Value) (w : World) : (callFunc 56 args).run Tryz.prog w = .ok (.enter 56 args) w := enters_of Tryz.func56 (by kernel_rfl) rfl args w

/-- A set, perhaps not in normal form, and its normal form. -/
structure NfS (c q : Cd) : Prop where
  wb : S.WB c
  is : IsS q
  same : ∀ i, bit c i = bit q i
theorem NfS.self {c : Cd} (h : IsS c) : NfS c c := ⟨h.2, h, fun _ => rfl⟩
theorem subB_wb {a b : Cd} (ha : S.WB a) (hb : S.WB b) : S.subB a.length a b = true ↔ Sub a b := by
  constructor
  · intro h i hi
    unfold S.subB at h
    rw [List.all_eq_true] at h
    have hl : i / 64 < a.length := by
      rcases Nat.lt_or_ge (i / 64) a.length with g | g
      · exact g
      · rw [S.bit_out a i g] at hi; cases hi
    have := h (i / 64) (List.mem_range.2 hl)
    rw [beq_iff_eq] at this
    have ht := S.testBit_not (a := wd a (i / 64)) (b := wd b (i / 64)) (j := i % 64) (hb _) (Nat.mod_lt _ (by decide))
    rw [this, Nat.zero_testBit] at ht
    unfold S.bit at hi ⊢
    rw [hi] at ht
    cases hx : (wd b (i / 64)).testBit (i % 64) with
    | true => rfl
    | false => rw [hx] at ht; cases ht
  · exact fun h => S.sub_of ha hb _ h
theorem subB_nf {a c q : Cd} (ha : IsS a) (h : NfS c q) : (S.subB a.length a c && S.subB c.length c a) = decide (a = q) := by
  rw [Bool.eq_iff_iff, Bool.and_eq_true, subB_wb ha.2 h.wb, subB_wb h.wb ha.2, decide_eq_true_iff]
  constructor
  · rintro ⟨h1, h2⟩
    exact Sub.anti ha h.is (fun i hi => by rw [← h.same]; exact h1 i hi) (fun i hi => h2 i (by rw [h.same]; exact hi))
  · rintro rfl
    exact ⟨fun i hi => by rw [h.same]; exact hi, fun i hi => by rw [← h.same]; exact hi⟩
theorem EqualN_any (w : World) (x y : Value) (a c q : Cd) (hx : SetV w x a) (hy : SetV w y c) (ha : IsS a) (hc : NfS c q) :
    Calls Tryz.prog 31 #[x, y] w fun e w' => e = .returned (.bool (decide (a = q))) ∧ w = w' := by
  obtain ⟨a1, c1, rfl, h1⟩ := hx
  obtain ⟨a2, c2, rfl, h2⟩ := hy
  have := S.Equal_any w a1 a2 _ _ c1 c2 a c h1 h2
  rwa [subB_nf ha hc] at this

set_option maxRecDepth 100000 in
theorem findT_pred (w : World) (s : ByteArray) (x y : Value) (a c q : Cd) (bf bc : Nat) (hx : SetV w x a) (hy : SetV w y c) (ha : IsS a) (hc : NfS c q) (h1 : w.cell? ⟨bf, 0, none⟩ = some (.func (.func 56) #[] #[])) (h2 : w.cell? ⟨bc, 0, none⟩ = some y) (hl1 : bf < w.heap.size) (hl2 : bc < w.heap.size) :
    Calls Tryz.prog 99 #[.agg #[.string s, x], .pointer (some ⟨bf, 0, none⟩), .pointer (some ⟨bc, 0, none⟩)] w fun e w' => e = .returned (.bool (decide (a = q))) ∧ Below w.heap.size w w' := by
  obtain ⟨W, hW⟩ : ∃ W, W = (w.alloc (.cells #[.string s, x] 36)) := ⟨_, rfl⟩
  have b1 : Below w.heap.size w W := by rw [hW]; exact ba _ _
  have b2 : Below w.heap.size w (W.alloc (.cells #[.string s, x] 36)).drew := (b1.alloc b1.size _).drew
  have EQ := Lib.hid (EqualN_any ((W.alloc (.cells #[.string s, x] 36)).drew) x y a c q (hx.below b2) (hy.below b2) ha hc)
  have EN := codeOf_enters
  have B2 := Lib.hid b2
  have f1 : W.cell? ⟨bf, 0, none⟩ = _ := (b1.cell (p := ⟨bf, 0, none⟩) hl1).trans h1
  have f2 : W.cell? ⟨bc, 0, none⟩ = _ := (b1.cell (p := ⟨bc, 0, none⟩) hl2).trans h2
  have f3 : W.cell? ⟨w.heap.size, 0, none⟩ = some (.string s) := by rw [hW, World.cell?_alloc_new]; rfl
  have f4 : W.cell? ⟨w.heap.size, 1, none⟩ = some x := by rw [hW, World.cell?_alloc_new]; rfl
  have g1 : (W.alloc (.cells #[.string s, x] 36)).drew.cell? ⟨bf, 0, none⟩ = _ := (b2.cell (p := ⟨bf, 0, none⟩) hl1).trans h1
  have g2 : (W.alloc (.cells #[.string s, x] 36)).drew.cell? ⟨bc, 0, none⟩ = _ := (b2.cell (p := ⟨bc, 0, none⟩) hl2).trans h2
  have hz : W.heap.size = w.heap.size + 1 := by rw [hW]; simp
  have g3 : (W.alloc (.cells #[.string s, x] 36)).drew.cell? ⟨w.heap.size, 0, none⟩ = some (.string s) := (World.cell?_alloc_lt W _ _ (by show w.heap.size < _; omega)).trans f3
  have g4 : (W.alloc (.cells #[.string s, x] 36)).drew.cell? ⟨w.heap.size, 1, none⟩ = some x := (World.cell?_alloc_lt W _ _ (by show w.heap.size < _; omega)).trans f4
  obtain ⟨r, hr⟩ : ∃ r, decide (a = q) = r := ⟨_, rfl⟩
  rw [hr] at EQ ⊢
  obtain ⟨xa, xc, rfl, -⟩ := hx
  obtain ⟨ya, yc, rfl, -⟩ := hy
  clear hr b1 b2 hz
  go_enter Tryz.func99, Tryz.ntmps99
  go_wp2
  rw [← hW]
  clear hW
  go_region_held3 (fun w' => w'.cell? ⟨bf, 0, none⟩ = some (.func (.func 56) #[] #[]) ∧ w'.cell? ⟨bc, 0, none⟩ = some (.slice ya c.length yc) ∧ w'.cell? ⟨w.heap.size, 0, none⟩ = some (.string s) ∧ w'.cell? ⟨w.heap.size, 1, none⟩ = some (.slice xa a.length xc)) (first | exact ⟨f1, f2, f3, f4⟩ | exact ⟨g1, g2, g3, g4⟩) ((first
    | (go_at_call 56; (with_reducible refine (codeOf_any W.drew s xa a.length xc).mono ?_); rintro e w' ⟨rfl, rfl⟩)
    | (go_at_call 31; (with_reducible refine EQ.out.mono ?_); rintro e w' ⟨rfl, rfl⟩)))
  go_wp2
  go_ret
  exact ⟨rfl, B2.out⟩

abbrev TEl (w : World) := { y : ByteArray × Value × Cd // SetV w y.2.1 y.2.2 ∧ IsS y.2.2 }
instance (w : World) : Inhabited (TEl w) := ⟨⟨(ByteArray.empty, .slice none 0 0, []), SetV.nil w, IsS.nil⟩⟩
def encTE {w : World} (y : TEl w) : List Value := [.string y.1.1, y.1.2.1]

set_option maxHeartbeats 1600000 in
theorem findT_any (w : World) (a : Option Addr) (n cap : Nat) (L : List Ty) (x : Value) (c q : Cd) (h : IsTys w a n cap L) (h0 : 0 < n) (hn : n ≤ 100000) (hC : ∀ d ∈ L, IsS d.2) (hx : SetV w x c) (hc : NfS c q) :
    Calls Tryz.prog 55 #[.slice a n cap, x, .func (.func 56) #[] #[]] w fun e w' => e = .returned (.int .i64 (ixS (L.map Prod.snd) q)) ∧ Below w.heap.size w w' := by
  obtain ⟨b, off, rfl, hb, hel⟩ := h.at_ h0
  have hlen := h.len
  have eg : ∀ args w, (callFunc 99 args).run Tryz.prog w = .ok (.enter 99 args) w := enters_of Tryz.func99 (by kernel_rfl) rfl
  obtain ⟨W, hW⟩ : ∃ W, W = (w.alloc (.cells #[x] 31)).alloc (.cells #[.func (.func 56) #[] #[]] 85) := ⟨_, rfl⟩
  have hbW : Below w.heap.size w W := by rw [hW]; exact ((Below.refl _ w).alloc (Nat.le_refl _) _).alloc (by simp) _
  have hcf : W.cell? ⟨w.heap.size + 1, 0, none⟩ = some (.func (.func 56) #[] #[]) := by
    rw [hW]
    have := cell_of_one (heap_alloc_new (w.alloc (.cells #[x] 31)) (.cells #[.func (.func 56) #[] #[]] 85))
    rwa [World.size_alloc] at this
  have hcx : W.cell? ⟨w.heap.size, 0, none⟩ = some x := by
    rw [hW]
    have := cell_of_one (heap_alloc_new w (.cells #[x] 31))
    exact (World.cell?_alloc_lt _ _ _ (by simp)).trans this
  have hzW : W.heap.size = w.heap.size + 2 := by rw [hW]; simp
  have hel2 : ∀ i : Fin n, ∃ y : TEl W, (y.1.1 = mk (ty L i).1 ∧ y.1.2.2 = (ty L i).2) ∧ w.cell? ⟨b, off + i * 2, none⟩ = some (.string y.1.1) ∧ w.cell? ⟨b, off + i * 2 + 1, none⟩ = some y.1.2.1 := fun i => by
    obtain ⟨xa, xc, hd⟩ := hel i i.2
    exact ⟨⟨(mk (ty L i).1, .slice xa (ty L i).2.length xc, (ty L i).2), ⟨xa, xc, rfl, hd.is.below hbW⟩, hC _ (ty_mem (by rw [hlen]; exact i.2))⟩, ⟨rfl, rfl⟩, hd.c0, hd.c1⟩
  obtain ⟨f, hf⟩ : ∃ f : Fin n → TEl W, ∀ i, ((f i).1.1 = mk (ty L i).1 ∧ (f i).1.2.2 = (ty L i).2) ∧ w.cell? ⟨b, off + i * 2, none⟩ = some (.string (f i).1.1) ∧ w.cell? ⟨b, off + i * 2 + 1, none⟩ = some (f i).1.2.1 := ⟨fun i => Classical.choose (hel2 i), fun i => Classical.choose_spec (hel2 i)⟩
  obtain ⟨zs, hzs⟩ : ∃ zs : List (TEl W), zs = List.ofFn f := ⟨_, rfl⟩
  have hzl : zs.length = n := by rw [hzs]; simp
  have hzm : zs.map (fun y => y.1.2.2) = L.map Prod.snd := by
    apply List.ext_getElem
    · rw [List.length_map, List.length_map, hzl, hlen]
    · intro i h1 h2
      have hi : i < L.length := by simpa using h2
      have := ty_get hi
      rw [List.getElem?_eq_getElem hi] at this
      rw [List.getElem_map, List.getElem_map, Option.some.inj this]
      simp only [hzs, List.getElem_ofFn]
      exact (hf ⟨i, by omega⟩).1.2
  have hcon := AnyQ.slices_IndexFunc Tryz.idxQ98 2 (fun w => by kernel_rfl) (fun w => by kernel_rfl) (encTE (w := W)) (fun _ => rfl) (fun y => decide (y.1.2.2 = q)) 99 #[.pointer (some ⟨w.heap.size + 1, 0, none⟩), .pointer (some ⟨w.heap.size, 0, none⟩)] eg b off n cap zs W
    (fun V y hV => (findT_pred V y.1.1 y.1.2.1 x y.1.2.2 c q _ _ (y.2.1.below hV) ((hx.below hbW).below hV) y.2.2 hc ((hV.cell (p := ⟨w.heap.size + 1, 0, none⟩) (by show w.heap.size + 1 < _; omega)).trans hcf) ((hV.cell (p := ⟨w.heap.size, 0, none⟩) (by show w.heap.size < _; omega)).trans hcx) (by have := hV.size; omega) (by have := hV.size; omega)).mono fun e w' ⟨he, hb'⟩ => ⟨he, hV.trans (hb'.mono hV.size)⟩)
    (by omega) (by omega) (by omega) (fun j hj i v hv => by
      have hj' : j < n := by omega
      have hz : zs[j]! = f ⟨j, hj'⟩ := by
        rw [getElem!_pos zs j hj]
        simp only [hzs, List.getElem_ofFn]
      rw [hz] at hv
      obtain ⟨-, k1, k2⟩ := hf ⟨j, hj'⟩
      rcases i with _ | _ | i
      · rw [← hv]; exact (hbW.cell (p := ⟨b, off + j * 2, none⟩) hb).trans k1
      · rw [← hv]; exact (hbW.cell (p := ⟨b, off + j * 2 + 1, none⟩) hb).trans k2
      · simp [encTE] at hv)
  change Calls Tryz.prog 98 _ _ _ at hcon
  have hr : Lib.idxBy (fun _ (y : TEl W) => decide (y.1.2.2 = q)) (zs.take n) default = ixS (L.map Prod.snd) q := by
    rw [idxBy_val, List.take_of_length_le (by omega)]
    unfold ixS
    rw [← hzm, List.findIdx?_map]
    rfl
  rw [hr, hW] at hcon
  have HC := Lib.hid hcon
  have HB := Lib.hid hbW
  rw [hW] at HB
  obtain ⟨xa, xc, rfl, -⟩ := hx
  clear hcon hr hzm hzl hzs hzW hcx hcf hbW hW hf hel2 hel h eg
  go_enter Tryz.func55, Tryz.ntmps55
  go_wp2_with (go_at_call 98; refine HC.out.mono ?_; rintro e w' ⟨rfl, hb2⟩)
  go_ret
  exact ⟨rfl, HB.out.trans (hb2.mono (by simp; omega))⟩
theorem FindN_any (w : World) (a : Option Addr) (n cap : Nat) (L : List Ty) (x : Value) (c q : Cd) (h : IsTys w a n cap L) (h0 : 0 < n) (hn : n ≤ 100000) (hC : ∀ d ∈ L, IsS d.2) (hx : SetV w x c) (hc : NfS c q) :
    Calls Tryz.prog 18 #[.slice a n cap, x] w fun e w' => e = .returned (.int .i64 (ixS (L.map Prod.snd) q)) ∧ Below w.heap.size w w' := by
  have HF := Lib.hid (findT_any w a n cap L x c q h h0 hn hC hx hc)
  clear h hx
  go_enter Tryz.func18, Tryz.ntmps18
  go_wp2_with (go_at_call 55; refine HF.out.mono ?_; rintro e w' ⟨rfl, hb2⟩)
  go_ret
  exact ⟨rfl, hb2⟩
theorem Find_any (w : World) (a : Option Addr) (n cap : Nat) (L : List Ty) (x : Value) (c : Cd) (h : IsTys w a n cap L) (h0 : 0 < n) (hn : n ≤ 100000) (hC : ∀ d ∈ L, IsS d.2) (hx : SetV w x c) (hc : IsS c) :
    Calls Tryz.prog 18 #[.slice a n cap, x] w fun e w' => e = .returned (.int .i64 (ixS (L.map Prod.snd) c)) ∧ Below w.heap.size w w' := FindN_any w a n cap L x c c h h0 hn hC hx (NfS.self hc)
end Go.Proofs.YtdeamdpoegdmdaaGreatDoor

/- closure: Meet. -/
namespace Go.Proofs.YtdeamdpoegdmdaaGreatDoor
open Go.RowKit Go.Maps Go.Shelf
open S (wd Is64 Fresh bit SAnd)

set_option maxRecDepth 100000 in
theorem Meet_any (w : World) (a : Option Addr) (n cap : Nat) (L : List Ty) (h : IsTys w a n cap L) (hn : n ≤ 100000) (hC : ∀ d ∈ L, IsS d.2 ∧ d.2.length ≤ 64) (i j : Nat) (hi : i < n) (hj : j < n) :
    Calls Tryz.prog 20 #[.slice a n cap, .int .i64 i, .int .i64 j] w fun e w' => e = .returned (.int .i64 (ixS (L.map Prod.snd) (SAnd (ty L i).2 (ty L j).2))) ∧ Below w.heap.size w w' := by
  have hcx := h.capLe
  have hmx := h.maxLe
  unfold maxLen at hmx
  have hlen := h.len
  have H := Lib.hid h
  obtain ⟨b, off, rfl, hb, hx⟩ := h.at_ (by omega)
  obtain ⟨xa, xc, h1⟩ := hx i hi
  obtain ⟨ya, yc, h2⟩ := hx j hj
  have s1 := hC _ (ty_mem (L := L) (i := i) (by omega))
  have s2 := hC _ (ty_mem (L := L) (i := j) (by omega))
  have HB := Lib.hid (show Below w.heap.size w w.drew from (Below.refl _ w).drew)
  have AN := Lib.hid (S.And_any w.drew xa ya _ _ xc yc _ _ (h1.is.below HB.out) (h2.is.below HB.out) (by have := s1.2; omega) (by have := s2.2; omega))
  have HS := Lib.hid (s1.1.and (ty L j).2)
  have HC := Lib.hid (fun d hd => (hC d hd).1)
  have d1 : w.cell? ⟨b, off + i * 2 + 1, none⟩ = some (.slice xa (ty L i).2.length xc) := h1.c1
  have d2 : w.cell? ⟨b, off + j * 2 + 1, none⟩ = some (.slice ya (ty L j).2.length yc) := h2.c1
  have hi0 : (0 : Int) ≤ (i : Int) := by omega
  have hi1 : (i : Int) < (n : Int) := by omega
  have hj0 : (0 : Int) ≤ (j : Int) := by omega
  have hj1 : (j : Int) < (n : Int) := by omega
  clear h h1 h2 hx hC
  go_enter Tryz.func20, Tryz.ntmps20
  go_wp2
  go_region_held3 (fun w' => w'.cell? ⟨b, off + i * 2 + 1, none⟩ = some (.slice xa (ty L i).2.length xc) ∧ w'.cell? ⟨b, off + j * 2 + 1, none⟩ = some (.slice ya (ty L j).2.length yc)) (first | (go_keep; done) | exact ⟨d1, d2⟩ | exact ⟨e1, e2⟩ | exact ⟨g1, g2⟩) ((first
    | (go_at_call 29; refine AN.out.mono ?_; intro e w2 hr; obtain ⟨za, zc, rfl, hz64, -, hb2⟩ := S.Ret64.eqF _ hr rfl; have e1 := (hb2.cell (p := ⟨b, off + i * 2 + 1, none⟩) hb).trans d1; have e2 := (hb2.cell (p := ⟨b, off + j * 2 + 1, none⟩) hb).trans d2; have B2 := HB.out.trans (hb2.mono HB.out.size); have FI := Lib.hid (Find_any w2 (some ⟨b, off, none⟩) n cap L _ (SAnd (ty L i).2 (ty L j).2) (H.out.below B2) (by omega) hn HC.out ⟨za, zc, rfl, hz64⟩ HS.out))
    | (go_at_call 18; refine FI.out.mono ?_; rintro e w3 ⟨rfl, hb3⟩; have g1 := (hb3.cell (p := ⟨b, off + i * 2 + 1, none⟩) (Nat.lt_of_lt_of_le hb B2.size)).trans e1; have g2 := (hb3.cell (p := ⟨b, off + j * 2 + 1, none⟩) (Nat.lt_of_lt_of_le hb B2.size)).trans e2; have B3 := B2.trans (hb3.mono B2.size))))
  go_wp2
  go_ret
  exact ⟨rfl, B3⟩
end Go.Proofs.YtdeamdpoegdmdaaGreatDoor
