/- Texts joined by wip/gen/merge.py: Pq Pr Shelf Ps Pt Pu Pv Pw Px Py Pz Qa Qb. -/
import Derived.Maps.OwnSet
import Derived.Maps.OwnOps
import Derived.Maps.Views
import Derived.Sort.KeysCollected
import Derived.WalkKit
import Derived.Shelf.SlIter.Nil
import Derived.Ground.GgzProg
import Derived.Shelf.SortM.Plain
import Derived.Shelf.SortM.SortNone
import Derived.Ground.SlgmProg
import Derived.Shelf.SlSortCmp.WholeK
import Derived.Ground.SlsfProg
import Derived.Shelf.SlicesQ.IndexFunc
import Derived.Shelf.Strings.Builder1
import Derived.Shelf.Strings.Builder2
import Derived.Shelf.Strings.OnBuilder
import Derived.Shelf.Small.Bits
import Derived.Shelf.Small.Strs
import Derived.Shelf.Strconv.Itoa0
import Derived.Shelf.Sort.Plain
import Derived.Shelf.Slices.Turned
import Derived.Shelf.Slices.Reverse
import Derived.Ground.Names2Prog
import Derived.Shelf.Slices.Clone
import Derived.Shelf.Slices.Delete
import Derived.Shelf.Slices.MinMaxS
import Derived.Shelf.Slices.Cells
import Derived.Shelf.Slices.In.SortNone
import Derived.Shelf.Slices.Empties
import Derived.Ground.SlgnProg
import Derived.Shelf.SlicesE.Clone
import Derived.Ground.SlgfProg
import Derived.Shelf.SlicesE.IndexFunc
import Derived.Shelf.SlicesE.DeleteFunc
import Derived.Test.YtdeamdpoegdmdaaGreatDoorProg
import Derived.Lib.OwnBridge
import Derived.Deep.LoopGhost
import Derived.Test.YtdeamdpoegdmdaaGreatDoorMaa
set_option linter.unusedVariables false
set_option linter.unusedSimpArgs false
/- Maps that the call makes, their values taken as they are. -/
namespace Go.Proofs.YtdeamdpoegdmdaaGreatDoor
open Go.RowKit Go.Maps

/-- Every value reads as itself. -/
def raw (v : Value) : Option (DataW Value × List MemPlace) := some (.held v, [])
def un : DataW Value → Value | .held v => v | _ => undef
/-- What a map holds at a string; z where it holds nothing. -/
def mget (D : DataW Value) (x : Str) (z : Value) : Value := un (D.atKey (.string x) (.held z))
def mhas (D : DataW Value) (x : Str) : Bool := Maps.has D (.string x)
def mput (D : DataW Value) (x : Str) (v : Value) : DataW Value := D.put (.string x) (.held v)
theorem lawS : Keyed Tryz.prog 9 := string_keyed Tryz.underlying9
theorem key_str (x : Str) : WideAt.IsKeyLit (.string x) := trivial
theorem keyS {x : Str} (h : x.length ≤ maxLen) : keyOf Tryz.prog 9 (.string (mk x)) = some (.string x) := by
  have := Go.WideMaps.keyOf_string_mk (s := mk x) Tryz.underlying9 (by rw [mk_size]; exact h)
  rwa [mk_list] at this
theorem mget_put {D : DataW Value} (h : IsMap D) (x y : Str) (v z : Value) : mget (mput D y v) x z = if x = y then v else mget D x z := by
  unfold mget mput
  by_cases e : x = y
  · rw [if_pos e, e, atKey_put_same h (key_str y)]; rfl
  · rw [if_neg e, atKey_put_other (fun g => e (by injection g))]
theorem mhas_put {D : DataW Value} (h : IsMap D) (x y : Str) (v : Value) : mhas (mput D y v) x = (x == y || mhas D x) := by
  unfold mhas mput
  by_cases e : x = y
  · rw [e, has_put_same h (key_str y)]; simp
  · rw [has_put_other (fun g => e (by injection g))]
    have : (x == y) = false := by simpa using e
    rw [this]; rfl
theorem mhas_empty (x : Str) : mhas (.map []) x = false := rfl
theorem mget_empty (x : Str) (z : Value) : mget (.map []) x z = z := rfl

section
variable {w : World} {ops : Array Oper} {rest : List Oper} {o : Oper} {a : Act} {Q : Exit → Act → World → Prop}
/-- m[x], without ok. -/
theorem wpList_lookup_raw (hg : o.guard = none) (m x : Operand) (t : TypeId) (hop : o.op = Op.lookup t m x false)
    (e : TypeId) (ht : Tryz.prog.underlying t = some (.map 9 e)) {z : Value} (hz : (zeroValue e).run Tryz.prog w = .ok z w) (b n : Nat) (D : DataW Value)
    (hm : a.eval m = .map (some b)) (hown : w.ownsMap Tryz.prog 9 raw b n D) (s : Str) (hx : a.eval x = .string (mk s)) (hs : s.length ≤ maxLen)
    (hK : wpList Tryz.prog ops Q rest (a.put o.dst (mget D s z)) w) : wpList Tryz.prog ops Q (o :: rest) a w := by
  refine wpList_plain hg fun K' hK' => ?_
  obtain ⟨v, ps, hrun, hv⟩ := hown.lookup lawS ht hz (zd := .held z) (zp := []) rfl (keyS hs)
  have e1 : mget D s z = v := by
    unfold mget
    unfold raw at hv
    have := congrArg (fun y : DataW Value × List MemPlace => y.1) (Option.some.inj hv)
    simp only at this
    rw [← this]; rfl
  rw [e1] at hK
  unfold Oper.wp
  simp [execOp, hop, hm, hx, hrun, Result.andThen]
  exact hK' _ _ hK
/-- v, ok := m[x]. -/
theorem wpList_lookup_raw_ok (hg : o.guard = none) (m x : Operand) (t : TypeId) (hop : o.op = Op.lookup t m x true)
    (e : TypeId) (ht : Tryz.prog.underlying t = some (.map 9 e)) {z : Value} (hz : (zeroValue e).run Tryz.prog w = .ok z w) (b n : Nat) (D : DataW Value)
    (hm : a.eval m = .map (some b)) (hown : w.ownsMap Tryz.prog 9 raw b n D) (s : Str) (hx : a.eval x = .string (mk s)) (hs : s.length ≤ maxLen)
    (hK : wpList Tryz.prog ops Q rest (a.put o.dst (.tuple #[mget D s z, .bool (mhas D s)])) w) : wpList Tryz.prog ops Q (o :: rest) a w :=
  wpList_lookup_own_ok w hg m x t hop 9 e lawS ht raw hz (.held z) [] rfl b n D hm hown (.string (mk s)) (.string s) hx (keyS hs) fun v ps hv => by
    have e1 : mget D s z = v := by
      unfold mget
      unfold raw at hv
      have := congrArg (fun y : DataW Value × List MemPlace => y.1) (Option.some.inj hv)
      simp only at this
      rw [← this]; rfl
    rw [e1] at hK
    exact hK
/-- m[x] = v. -/
theorem wpList_update_raw (hg : o.guard = none) (m x v : Operand) (t : TypeId) (hop : o.op = Op.mapUpdate t m x v)
    (e : TypeId) (ht : Tryz.prog.underlying t = some (.map 9 e)) (b n : Nat) (D : DataW Value)
    (hm : a.eval m = .map (some b)) (hown : w.ownsMap Tryz.prog 9 raw b n D) (hn : n < 1000000) (s : Str) (val : Value) (hx : a.eval x = .string (mk s)) (hv : a.eval v = val) (hs : s.length ≤ maxLen)
    (hK : ∀ w', w'.ownsMap Tryz.prog 9 raw b (n + 1) (mput D s val) → w.grownBy w' (some b) → wpList Tryz.prog ops Q rest (a.put o.dst undef) w') : wpList Tryz.prog ops Q (o :: rest) a w :=
  wpList_mapUpdate_own w hg m x v t hop 9 e lawS ht raw b n D hm hown (by unfold maxLen; omega) (.string (mk s)) val (.string s) hx hv (keyS hs) (.held val) [] rfl hK
end
theorem owns_isMap {w : World} {b n : Nat} {D : DataW Value} (h : w.ownsMap Tryz.prog 9 raw b n D) : IsMap D := by
  obtain ⟨es, clock, _, _, _, rfl⟩ := h; exact ⟨_, rfl⟩
theorem map_below {w w' : World} {b n : Nat} {D : DataW Value} (h : w.ownsMap Tryz.prog 9 raw b n D) (hb : Below w.heap.size w w') : w'.ownsMap Tryz.prog 9 raw b n D := by
  have hlt := h.lt
  obtain ⟨es, clock, he, F, hs, hD⟩ := h
  exact ⟨es, clock, (hb.block b hlt).trans he, F, hs, hD⟩
theorem run_makeMapN {t k e : TypeId} (ht : Tryz.prog.underlying t = some (.map k e)) (x : Int) (w : World) : (Instr.makeMap t (some (.int .i64 x))).run Tryz.prog w = .ok (.map (some w.heap.size)) (w.alloc (.map #[] 0)) := by
  simp [Instr.makeMap, run_underlying ht, asInt, Result.andThen]
  rfl
theorem zeroB (w : World) : (zeroValue 4).run Tryz.prog w = .ok (.bool false) w := by kernel_rfl
theorem zeroI (w : World) : (zeroValue 3).run Tryz.prog w = .ok (.int .i64 0) w := by kernel_rfl
theorem zeroL (w : World) : (zeroValue 49).run Tryz.prog w = .ok (.slice none 0 0) w := by kernel_rfl
/-- The error of the tops. -/
def topE (D : List Dec) : Nat := if tops D ≠ 1 then 1 else 0

set_option maxRecDepth 100000 in
theorem checkTop_any (w : World) (a : Option Addr) (n cap : Nat) (D : List Dec) (h : IsDecs w a n cap D) (hn : n ≤ 256) :
    Calls Tryz.prog 112 #[.slice a n cap] w fun e w' => e = .returned (.int .i64 ((topE D : Nat) : Int)) ∧ Below w.heap.size w w' := by
  have hm := h.maxLe
  have hc := h.capLe
  unfold maxLen at hm
  have HL := Lib.hid h.len
  have H := Lib.hid h
  clear h
  go_enter Tryz.func112, Tryz.ntmps112
  go_wp2
  go_loopw [3, 8] (fun c v wr => ∃ k : Nat, k ≤ n ∧ v = .int .i64 k ∧ c = .int .i64 ((tops (D.take k) : Nat) : Int) ∧ Below w.heap.size w wr) (fun _ v _ => n - (intOf v).toNat)
  case atStart => exact ⟨0, Nat.zero_le _, rfl, rfl, Below.refl _ _⟩
  case round =>
    obtain ⟨k, hk, rfl, rfl, hb⟩ := hrel
    have htl := tops_le (D.take k)
    rw [List.length_take] at htl
    by_cases hlt : k < n
    · obtain ⟨b, off, rfl, hbl, hx⟩ := (H.out.below hb).at_ (by omega)
      obtain ⟨sa, sc', fa, fc, hd⟩ := hx k hlt
      have c0 := hd.c0
      have c1 := hd.c1
      have c2 := hd.c2
      have hts := tops_succ (D := D) (k := k) (by rw [HL.out]; exact hlt)
      obtain ⟨sl, hsl⟩ : ∃ z, (dc D k).sup.length = z := ⟨_, rfl⟩
      rw [hsl] at c1 hts
      obtain ⟨tk, htk⟩ : ∃ z, tops (D.take k) = z := ⟨_, rfl⟩
      rw [htk] at hts htl
      rw [htk]
      clear hx hd hsl htk
      by_cases h0 : sl = 0
      · rw [if_pos h0] at hts
        have HTS := Lib.hid hts
        subst h0
        clear hts
        go_wp2
        go_roundw
        case rel => exact ⟨k + 1, by omega, by go_num, by rw [HTS.out]; go_num, hb.alloc hb.size _⟩
        case measure => simp [intOf]; omega
      · rw [if_neg h0] at hts
        have HTS := Lib.hid hts
        have hne : (((sl : Nat) : Int) == 0) = false := by simp; omega
        clear hts
        go_wp2
        go_roundw
        case rel => exact ⟨k + 1, by omega, by go_num, by rw [HTS.out]; go_num, hb.alloc hb.size _⟩
        case measure => simp [intOf]; omega
    · obtain rfl : n = k := by omega
      have hall : D.take n = D := List.take_of_length_le (by rw [HL.out]; exact Nat.le_refl _)
      rw [hall] at htl
      rw [hall]
      have HE : Hid (topE D = if tops D ≠ 1 then 1 else 0) := rfl
      obtain ⟨tp, htp⟩ : ∃ z, tops D = z := ⟨_, rfl⟩
      rw [htp] at htl HE
      rw [htp]
      clear hall htp hlt
      by_cases ht : tp = 1
      · have hr : Hid (topE D = 0) := by show _ = _; rw [HE.out, ht]; rfl
        subst ht
        clear HE
        go_wp2
        go_ret
        exact ⟨by rw [hr.out]; rfl, hb⟩
      · have hr : Hid (topE D = 1) := by show _ = _; rw [HE.out, if_pos ht]
        clear HE
        have hne : (((tp : Nat) : Int) != 1) = true := by simp; omega
        go_wp2
        go_ret
        exact ⟨by rw [hr.out]; rfl, hb⟩
end Go.Proofs.YtdeamdpoegdmdaaGreatDoor

/- Walks of package poset: checkNames, upward. -/
namespace Go.Proofs.YtdeamdpoegdmdaaGreatDoor
open Go.RowKit Go.Maps

theorem inS_snoc (l : List Str) (x y : Str) : inS (l ++ [y]) x = (x == y || inS l x) := by
  rw [Bool.eq_iff_iff, inS_iff, List.mem_append, Bool.or_eq_true, inS_iff, beq_iff_eq, List.mem_singleton]
  exact Or.comm
theorem inS_nil (x : Str) : inS [] x = false := rfl
theorem ite_bool (x y : Str) (p : Bool) : (if x = y then Value.bool true else .bool p) = .bool (x == y || p) := by
  by_cases h : x = y
  · rw [if_pos h, h]; simp
  · rw [if_neg h]
    have : (x == y) = false := by simpa using h
    rw [this]; rfl

set_option maxRecDepth 100000 in
set_option maxHeartbeats 1600000 in
theorem checkNames_any (w : World) (a : Option Addr) (n cap : Nat) (D : List Dec) (h : IsDecs w a n cap D) (hn : n ≤ 256) :
    Calls Tryz.prog 110 #[.slice a n cap] w fun e w' => e = .returned (.int .i64 ((nmE (isNam kLow) [] D : Nat) : Int)) ∧ Below w.heap.size w w' := by
  have hm := h.maxLe
  have hc := h.capLe
  unfold maxLen at hm
  have HL := Lib.hid h.len
  have H := Lib.hid h
  clear h
  have hmm := fun x w => run_makeMapN Tryz.underlying121 x w
  go_enter Tryz.func110, Tryz.ntmps110
  go_wp2
  clear hmm
  go_loopw [11] (fun v wr => ∃ (k : Nat) (M : DataW Value), k ≤ n ∧ v = .int .i64 k ∧ Hid (wr.ownsMap Tryz.prog 9 raw w.heap.size k M) ∧ Hid (∀ x, mget M x (.bool false) = .bool (inS ((nms D).take k) x)) ∧ Hid (∀ i, i < k → isNam kLow (dc D i).name = true ∧ (dc D i).name ∉ (nms D).take i) ∧ Below w.heap.size w wr) (fun v _ => n - (intOf v).toNat)
  case atStart => exact ⟨0, .map [], Nat.zero_le _, rfl, World.ownsMap_made _ _ _ _, fun x => rfl, fun i hi => absurd hi (Nat.not_lt_zero _), (Below.refl _ _).alloc (Nat.le_refl _) _⟩
  case round =>
    obtain ⟨k, M, hk, rfl, hown, hM, hall, hb⟩ := hrel
    obtain ⟨wo, hwo⟩ : ∃ wo : World, wo = wr := ⟨_, rfl⟩
    subst hwo
    by_cases hlt : k < n
    · obtain ⟨b, off, rfl, hbl, hx⟩ := (H.out.below hb).at_ (by omega)
      obtain ⟨sa, sc', fa, fc, hd⟩ := hx k hlt
      have c0 := hd.c0
      have c1 := hd.c1
      have c2 := hd.c2
      have HNL := Lib.hid hd.nl
      have HAT := Lib.hid (nmE_at (nm := isNam kLow) hall.out (k := k) (by rw [HL.out]; exact hlt))
      have hnm : ∀ W, Calls Tryz.prog 145 #[.string (mk (dc D k).name)] W fun e w' => e = .returned (.bool (isNam kLow (dc D k).name)) ∧ Below W.heap.size W w' := fun W => by
        have := Name_any (mk (dc D k).name) W (by rw [mk_size]; exact HNL.out)
        rwa [mk_list] at this
      have HNM := Lib.hid hnm
      have HTK := Lib.hid (nms_succ (D := D) (k := k) (by rw [HL.out]; exact hlt))
      have HMX := Lib.hid (hM.out (dc D k).name)
      obtain ⟨x, hx'⟩ : ∃ x, (dc D k).name = x := ⟨_, rfl⟩
      rw [hx'] at c0 HNL HAT HNM HTK HMX
      have HX := Lib.hid hx'
      obtain ⟨sl, hsl⟩ : ∃ z, (dc D k).sup.length = z := ⟨_, rfl⟩
      rw [hsl] at c1
      obtain ⟨nf, hnf⟩ : ∃ z, (dc D k).nf = z := ⟨_, rfl⟩
      rw [hnf] at c2
      have hown1 := fun o w1 (hb1 : Below (wo.alloc o).heap.size (wo.alloc o) w1) => map_below (hown.out.alloc o) hb1
      have HOW := Lib.hid hown1
      clear hx hd hnm hx' hsl hnf hown1
      cases hq : isNam kLow x
      · have hr : Hid (nmE (isNam kLow) [] D = 1) := HAT.out.1 hq
        rw [hq] at HNM
        clear hq
        go_wp2_with (go_at_call 145; refine (HNM.out _).mono ?_; rintro e w1 ⟨rfl, hb1⟩)
        go_ret
        exact ⟨by rw [hr.out]; rfl, (hb.alloc hb.size _).trans (hb1.mono (by have := hb.size; simp; omega))⟩
      · rw [hq] at HNM
        have HQ := Lib.hid hq
        clear hq
        obtain ⟨p, hp⟩ : ∃ p, inS ((nms D).take k) x = p := ⟨_, rfl⟩
        rw [hp] at HMX
        cases p
        · have HNE := Lib.hid (inS_not.1 hp)
          have hall' : Hid (∀ i, i < k + 1 → isNam kLow (dc D i).name = true ∧ (dc D i).name ∉ (nms D).take i) := fun i hi => by
            rcases Nat.lt_succ_iff_lt_or_eq.1 hi with e | e
            · exact hall.out i e
            · rw [e, HX.out]; exact ⟨HQ.out, HNE.out⟩
          have hM' : Hid (∀ y, mget (mput M x (.bool true)) y (.bool false) = .bool (inS ((nms D).take (k + 1)) y)) := fun y => by
            rw [mget_put (owns_isMap hown.out), hM.out, HTK.out, inS_snoc, ite_bool]
          clear hp hall hM
          go_wp2_with (first
            | (go_at_call 145; refine (HNM.out _).mono ?_; rintro e w1 ⟨rfl, hb1⟩; obtain ⟨d0, f0⟩ := bcell hb1; have HO1 := Lib.hid (HOW.out _ _ hb1); have HB1 := Lib.hid ((hb.alloc hb.size _).trans (hb1.mono (by have := hb.size; simp; omega))))
            | (at_lookup; refine wpList_lookup_raw rfl _ _ 121 rfl 4 Tryz.underlying121 (zeroB _) w.heap.size k M rfl HO1.out x rfl HNL.out ?_; rw [HMX.out])
            | (at_mapUpdate; refine wpList_update_raw rfl _ _ _ 121 rfl 4 Tryz.underlying121 w.heap.size k M rfl HO1.out (by omega) x (.bool true) rfl rfl HNL.out ?_; intro w2 hown2 hgrow2; have HO2 := Lib.hid hown2; have HB2 := Lib.hid (HB1.out.grown hgrow2 HB1.out.size (fun j e => by cases e; exact Nat.le_refl _)); clear hown2 hgrow2))
          go_roundw
          case rel => exact ⟨k + 1, mput M x (.bool true), by omega, by go_num, HO2.out, hM', hall', HB2.out⟩
          case measure => simp [intOf]; omega
        · have hr : Hid (nmE (isNam kLow) [] D = 4) := HAT.out.2 HQ.out (inS_iff.1 hp)
          clear hp hall hM
          go_wp2_with (first
            | (go_at_call 145; refine (HNM.out _).mono ?_; rintro e w1 ⟨rfl, hb1⟩; obtain ⟨d0, f0⟩ := bcell hb1; have HO1 := Lib.hid (HOW.out _ _ hb1); have HB1 := Lib.hid ((hb.alloc hb.size _).trans (hb1.mono (by have := hb.size; simp; omega))))
            | (at_lookup; refine wpList_lookup_raw rfl _ _ 121 rfl 4 Tryz.underlying121 (zeroB _) w.heap.size k M rfl HO1.out x rfl HNL.out ?_; rw [HMX.out]))
          go_ret
          exact ⟨by rw [hr.out]; rfl, HB1.out⟩
    · obtain rfl : n = k := by omega
      have hr : Hid (nmE (isNam kLow) [] D = 0) := nmE_end (fun i hi => hall.out i (by rw [HL.out] at hi; exact hi))
      clear hall hM
      go_wp2
      go_ret
      exact ⟨by rw [hr.out]; rfl, hb⟩
end Go.Proofs.YtdeamdpoegdmdaaGreatDoor

/-
  DERIVED: THE SHELF's CONTRACTS AT THIS DUMP, IN PLAIN WORDS (tools/lay-plain.mjs out of 'TryzShelf.lean', which tools/lay-shelf.mjs wrote): THE SAME DECLARATIONS UNDER THE SAME NAMES: 'import', 'namespace', 'open', 'def', 'theorem' AND NOTHING ELSE: no command of the shelf's: FOR A HAND-IN. Each laying: the table of numbers ('.._ren') and one theorem, a field a fact of the dump's own or the kernel's comparison; each contract: ONE APPLICATION.
-/
namespace Go.Proofs
open Go.Shelf
def Tryz.lays169_ren : Go.Shelf.Ren := ⟨fun | 169 => 126 | n => n, fun | 70 => 133 | 9 => 9 | 0 => 0 | 72 => 135 | 37 => 62 | 127 => 161 | 3 => 3 | 5 => 5 | n => n, fun | n => n⟩
theorem Tryz.lays169 : Go.Proofs.Lays.n169 Tryz.prog Tryz.lays169_ren := {
  mixed := by kernel_rfl
  f169 := Tryz.func126.trans (congrArg some (by kernel_rfl))
  t0 := Tryz.underlying0
  a0 := Tryz.isAgg0
  z0 := Tryz.sizeOf0
  v0 := Tryz.zeroValue0
  t3 := Tryz.underlying3
  a3 := Tryz.isAgg3
  z3 := Tryz.sizeOf3
  v3 := Tryz.zeroValue3
  t9 := Tryz.underlying9
  a9 := Tryz.isAgg9
  z9 := Tryz.sizeOf9
  v9 := Tryz.zeroValue9
  t37 := Tryz.underlying62
  a37 := Tryz.isAgg62
  z37 := Tryz.sizeOf62
  v37 := Tryz.zeroValue62
  t70 := Tryz.underlying133
  a70 := Tryz.isAgg133
  z70 := Tryz.sizeOf133
  v70 := Tryz.zeroValue133
  t72 := Tryz.underlying135
  a72 := Tryz.isAgg135
  z72 := Tryz.sizeOf135
  v72 := Tryz.zeroValue135
  t127 := Tryz.underlying161
  a127 := Tryz.isAgg161
  z127 := Tryz.sizeOf161
  v127 := Tryz.zeroValue161 }
theorem Tryz.Builder_Extra_169 : Builder.Extra Tryz.prog Tryz.lays169_ren := {
  sizeBuilder := by kernel_rfl
  liesBuilder := by kernel_rfl
  t5 := Tryz.underlying5
  a5 := Tryz.isAgg5
  z5 := Tryz.sizeOf5
  v5 := Tryz.zeroValue5
  infoByte := by kernel_rfl
  cellsByte := by kernel_rfl
  sizeByte := by kernel_rfl
  neB5 := by decide }
open Go.RowKit in
/-- (*strings.Builder).String: "String returns the accumulated string.": OF A BUILDER THAT HOLDS AT LEAST ONE BYTE. ✋ THE MODEL FREEZES THOSE BYTES IN THE BUFFER (unsafe.String): a later write INTO them ends the model's run without an answer; a later append BEHIND them goes on. The statement's order of evaluation is drawn: one draw. (LAID: no walk: one application.) -/
theorem Tryz.Builder_String (B b : Nat) (l : List UInt8) (w : World) (h : Lib.IsBuilder 135 5 B b (Lib.byteCells l) w) (h0 : l ≠ []) :
    Calls Tryz.prog 126 #[.pointer (some ⟨b, 0, none⟩)] w fun e w' => e = .returned (.string ⟨l.toArray⟩) ∧ Below B w w' := Any.Builder_String Tryz.lays169 Tryz.Builder_Extra_169 B b l w h h0
open Go.RowKit in
/-- (*strings.Builder).String OF A BUILDER THAT HOLDS NO BYTE: the empty string. (Its buffer is nil, or a row of which it has taken nothing yet; where that row has NO capacity the model lays one new block for unsafe.SliceData's 'some address'.) One draw. (LAID: no walk: one application.) -/
theorem Tryz.Builder_String_empty (B b : Nat) (w : World) (h : Lib.IsBuilder 135 5 B b [] w) (hBw : B ≤ w.heap.size) :
    Calls Tryz.prog 126 #[.pointer (some ⟨b, 0, none⟩)] w fun e w' => e = .returned (.string ⟨#[]⟩) ∧ Below B w w' := Any.Builder_String_empty Tryz.lays169 Tryz.Builder_Extra_169 B b w h hBw
open Go.RowKit in
/-- (*strings.Builder).String: "String returns the accumulated string.": WHATEVER THE BUILDER HOLDS. (LAID: no walk: one application.) -/
theorem Tryz.Builder_String_any (B b : Nat) (l : List UInt8) (w : World) (h : Lib.IsBuilder 135 5 B b (Lib.byteCells l) w) (hBw : B ≤ w.heap.size) :
    Calls Tryz.prog 126 #[.pointer (some ⟨b, 0, none⟩)] w fun e w' => e = .returned (.string ⟨l.toArray⟩) ∧ Below B w w' := Any.Builder_String_any Tryz.lays169 Tryz.Builder_Extra_169 B b l w h hBw
def Tryz.lays241_ren : Go.Shelf.Ren := ⟨fun | 241 => 157 | 277 => 174 | n => n, fun | 70 => 133 | 3 => 3 | 0 => 0 | 72 => 135 | 37 => 62 | 5 => 5 | n => n, fun | n => n⟩
theorem Tryz.lays241 : Go.Proofs.Lays.n241 Tryz.prog Tryz.lays241_ren := {
  mixed := by kernel_rfl
  f241 := Tryz.func157.trans (congrArg some (by kernel_rfl))
  f277 := Tryz.func174.trans (congrArg some (by kernel_rfl))
  t0 := Tryz.underlying0
  a0 := Tryz.isAgg0
  z0 := Tryz.sizeOf0
  v0 := Tryz.zeroValue0
  t3 := Tryz.underlying3
  a3 := Tryz.isAgg3
  z3 := Tryz.sizeOf3
  v3 := Tryz.zeroValue3
  t37 := Tryz.underlying62
  a37 := Tryz.isAgg62
  z37 := Tryz.sizeOf62
  v37 := Tryz.zeroValue62
  t70 := Tryz.underlying133
  a70 := Tryz.isAgg133
  z70 := Tryz.sizeOf133
  v70 := Tryz.zeroValue133
  t72 := Tryz.underlying135
  a72 := Tryz.isAgg135
  z72 := Tryz.sizeOf135
  v72 := Tryz.zeroValue135 }
theorem Tryz.Builder_Extra_241 : Builder.Extra Tryz.prog Tryz.lays241_ren := {
  sizeBuilder := by kernel_rfl
  liesBuilder := by kernel_rfl
  t5 := Tryz.underlying5
  a5 := Tryz.isAgg5
  z5 := Tryz.sizeOf5
  v5 := Tryz.zeroValue5
  infoByte := by kernel_rfl
  cellsByte := by kernel_rfl
  sizeByte := by kernel_rfl
  neB5 := by decide }
open Go.RowKit in
/-- (*strings.Builder).grow (no doc but "grow copies the buffer to a new, larger buffer so that there are at least n bytes of capacity beyond len(b.buf)."): AT A BUILDER WITHOUT A BUFFER: a new row of whatever bytes for its buffer, none of them its own yet. Three draws. (LAID: no walk: one application.) -/
theorem Tryz.Builder_grow_fresh (B b n : Nat) (w : World) (hB : B ≤ b) (hbk : w.heap[b]? = some (.cells #[.pointer (some ⟨b, 0, none⟩), .slice none 0 0] 135 (0, 0))) (hBw : B ≤ w.heap.size) (hn : n ≤ 281474976710656) :
    Calls Tryz.prog 157 #[.pointer (some ⟨b, 0, none⟩), .int .i64 n] w fun e w' => e = .returned (.tuple #[]) ∧ (Lib.BuilderAt 135 5 B b (.pointer (some ⟨b, 0, none⟩)) [] w' ∧ Below B w w') := Any.Builder_grow_fresh Tryz.lays241 Tryz.Builder_Extra_241 B b n w hB hbk hBw hn
def Tryz.lays165_ren : Go.Shelf.Ren := ⟨fun | 165 => 124 | 240 => 156 | 241 => 157 | 276 => 173 | 277 => 174 | n => n, fun | 70 => 133 | 3 => 3 | 0 => 0 | 4 => 4 | 9 => 9 | 20 => 20 | 72 => 135 | 37 => 62 | 164 => 174 | 5 => 5 | n => n, fun | n => n⟩
theorem Tryz.lays165 : Go.Proofs.Lays.n165 Tryz.prog Tryz.lays165_ren := {
  mixed := by kernel_rfl
  f165 := Tryz.func124.trans (congrArg some (by kernel_rfl))
  f240 := Tryz.func156.trans (congrArg some (by kernel_rfl))
  f241 := Tryz.func157.trans (congrArg some (by kernel_rfl))
  f276 := Tryz.func173.trans (congrArg some (by kernel_rfl))
  f277 := Tryz.func174.trans (congrArg some (by kernel_rfl))
  t0 := Tryz.underlying0
  a0 := Tryz.isAgg0
  z0 := Tryz.sizeOf0
  v0 := Tryz.zeroValue0
  t3 := Tryz.underlying3
  a3 := Tryz.isAgg3
  z3 := Tryz.sizeOf3
  v3 := Tryz.zeroValue3
  t4 := Tryz.underlying4
  a4 := Tryz.isAgg4
  z4 := Tryz.sizeOf4
  v4 := Tryz.zeroValue4
  t9 := Tryz.underlying9
  a9 := Tryz.isAgg9
  z9 := Tryz.sizeOf9
  v9 := Tryz.zeroValue9
  t20 := Tryz.underlying20
  a20 := Tryz.isAgg20
  z20 := Tryz.sizeOf20
  v20 := Tryz.zeroValue20
  t37 := Tryz.underlying62
  a37 := Tryz.isAgg62
  z37 := Tryz.sizeOf62
  v37 := Tryz.zeroValue62
  t70 := Tryz.underlying133
  a70 := Tryz.isAgg133
  z70 := Tryz.sizeOf133
  v70 := Tryz.zeroValue133
  t72 := Tryz.underlying135
  a72 := Tryz.isAgg135
  z72 := Tryz.sizeOf135
  v72 := Tryz.zeroValue135
  t164 := Tryz.underlying174
  a164 := Tryz.isAgg174
  z164 := Tryz.sizeOf174
  v164 := Tryz.zeroValue174 }
theorem Tryz.Builder_Extra_165 : Builder.Extra Tryz.prog Tryz.lays165_ren := {
  sizeBuilder := by kernel_rfl
  liesBuilder := by kernel_rfl
  t5 := Tryz.underlying5
  a5 := Tryz.isAgg5
  z5 := Tryz.sizeOf5
  v5 := Tryz.zeroValue5
  infoByte := by kernel_rfl
  cellsByte := by kernel_rfl
  sizeByte := by kernel_rfl
  neB5 := by decide }
open Go.RowKit in
/-- (*strings.Builder).Grow AT A BUILDER THAT HAS NOT BEEN WRITTEN ('var b strings.Builder; b.Grow(n)'): "Grow grows b's capacity, if necessary, to guarantee space for another n bytes.": it holds no byte behind it as before it. (LAID: no walk: one application.) -/
theorem Tryz.Builder_Grow_fresh (B b n : Nat) (w : World) (hB : B ≤ b) (hbk : w.heap[b]? = some (.cells #[.pointer none, .slice none 0 0] 135 (0, 0))) (hBw : B ≤ w.heap.size) (hn : n ≤ 281474976710656) :
    Calls Tryz.prog 124 #[.pointer (some ⟨b, 0, none⟩), .int .i64 n] w fun e w' => e = .returned (.tuple #[]) ∧ (Lib.BuilderAt 135 5 B b (.pointer (some ⟨b, 0, none⟩)) [] w' ∧ Below B w w') := Any.Builder_Grow_fresh Tryz.lays165 Tryz.Builder_Extra_165 B b n w hB hbk hBw hn
def Tryz.lays156_ren : Go.Shelf.Ren := ⟨fun | 156 => 85 | 165 => 124 | 166 => 125 | 169 => 126 | 240 => 156 | 241 => 157 | 276 => 173 | 277 => 174 | n => n, fun | 31 => 49 | 9 => 9 | 3 => 3 | 4 => 4 | 0 => 0 | 20 => 20 | 72 => 135 | 76 => 139 | 70 => 133 | 37 => 62 | 75 => 138 | 127 => 161 | 164 => 174 | 5 => 5 | 80 => 141 | n => n, fun | n => n⟩
theorem Tryz.lays156 : Go.Proofs.Lays.n156 Tryz.prog Tryz.lays156_ren := {
  mixed := by kernel_rfl
  f156 := Tryz.func85.trans (congrArg some (by kernel_rfl))
  f165 := Tryz.func124.trans (congrArg some (by kernel_rfl))
  f166 := Tryz.func125.trans (congrArg some (by kernel_rfl))
  f169 := Tryz.func126.trans (congrArg some (by kernel_rfl))
  f240 := Tryz.func156.trans (congrArg some (by kernel_rfl))
  f241 := Tryz.func157.trans (congrArg some (by kernel_rfl))
  f276 := Tryz.func173.trans (congrArg some (by kernel_rfl))
  f277 := Tryz.func174.trans (congrArg some (by kernel_rfl))
  t0 := Tryz.underlying0
  a0 := Tryz.isAgg0
  z0 := Tryz.sizeOf0
  v0 := Tryz.zeroValue0
  t3 := Tryz.underlying3
  a3 := Tryz.isAgg3
  z3 := Tryz.sizeOf3
  v3 := Tryz.zeroValue3
  t4 := Tryz.underlying4
  a4 := Tryz.isAgg4
  z4 := Tryz.sizeOf4
  v4 := Tryz.zeroValue4
  t9 := Tryz.underlying9
  a9 := Tryz.isAgg9
  z9 := Tryz.sizeOf9
  v9 := Tryz.zeroValue9
  t20 := Tryz.underlying20
  a20 := Tryz.isAgg20
  z20 := Tryz.sizeOf20
  v20 := Tryz.zeroValue20
  t31 := Tryz.underlying49
  a31 := Tryz.isAgg49
  z31 := Tryz.sizeOf49
  v31 := Tryz.zeroValue49
  t37 := Tryz.underlying62
  a37 := Tryz.isAgg62
  z37 := Tryz.sizeOf62
  v37 := Tryz.zeroValue62
  t70 := Tryz.underlying133
  a70 := Tryz.isAgg133
  z70 := Tryz.sizeOf133
  v70 := Tryz.zeroValue133
  t72 := Tryz.underlying135
  a72 := Tryz.isAgg135
  z72 := Tryz.sizeOf135
  v72 := Tryz.zeroValue135
  t75 := Tryz.underlying138
  a75 := Tryz.isAgg138
  z75 := Tryz.sizeOf138
  v75 := Tryz.zeroValue138
  t76 := Tryz.underlying139
  a76 := Tryz.isAgg139
  z76 := Tryz.sizeOf139
  v76 := Tryz.zeroValue139
  t127 := Tryz.underlying161
  a127 := Tryz.isAgg161
  z127 := Tryz.sizeOf161
  v127 := Tryz.zeroValue161
  t164 := Tryz.underlying174
  a164 := Tryz.isAgg174
  z164 := Tryz.sizeOf174
  v164 := Tryz.zeroValue174 }
theorem Tryz.Builder_Extra_156 : Builder.Extra Tryz.prog Tryz.lays156_ren := {
  sizeBuilder := by kernel_rfl
  liesBuilder := by kernel_rfl
  t5 := Tryz.underlying5
  a5 := Tryz.isAgg5
  z5 := Tryz.sizeOf5
  v5 := Tryz.zeroValue5
  infoByte := by kernel_rfl
  cellsByte := by kernel_rfl
  sizeByte := by kernel_rfl
  neB5 := by decide }
open Go.RowKit in
/-- No element: the empty string; the world is as it was. (Whatever the slice's address and capacity: a nil slice too.) (LAID: no walk: one application.) -/
theorem Tryz.strings_Join_none (a : Option Addr) (c : Nat) (sep : ByteArray) (w : World) :
    Calls Tryz.prog 85 #[.slice a 0 c, .string sep] w fun e w' => e = .returned (.string ⟨#[]⟩) ∧ w' = w := Any.strings_Join_none Tryz.lays156 Tryz.Builder_Extra_156 a c sep w
open Go.RowKit in
/-- strings.Join: "Join concatenates the elements of its first argument to create a single string. The separator string sep is placed between elements in the resulting string.": HOWEVER MANY ELEMENTS. Below the heap's end the world is as it was. (LAID: no walk: one application.) -/
theorem Tryz.strings_Join (bk o c : Nat) (xs : List ByteArray) (sep : ByteArray) (w : World) (hcells : ∀ (j : Nat) x, xs[j]? = some x → w.cell? ⟨bk, o + j, none⟩ = some (.string x)) (hbk : bk < w.heap.size) (hN : xs.length ≤ 140737488355328) (hcap : xs.length ≤ c) (hlen : (Lib.join (xs.map (·.data.toList)) sep.data.toList).length ≤ 140737488355328) :
    Calls Tryz.prog 85 #[.slice (some ⟨bk, o, none⟩) xs.length c, .string sep] w fun e w' => e = .returned (.string ⟨(Lib.join (xs.map (·.data.toList)) sep.data.toList).toArray⟩) ∧ Below w.heap.size w w' := Any.strings_Join Tryz.lays156 Tryz.Builder_Extra_156 bk o c xs sep w hcells hbk hN hcap hlen
def Tryz.lays128_ren : Go.Shelf.Ren := ⟨fun | 128 => 136 | n => n, fun | 51 => 152 | 3 => 3 | 4 => 4 | 46 => 109 | 5 => 5 | 9 => 9 | n => n, fun | n => n⟩
theorem Tryz.lays128 : Go.Proofs.Lays.n128 Tryz.prog Tryz.lays128_ren := {
  mixed := by kernel_rfl
  f128 := Tryz.func136.trans (congrArg some (by kernel_rfl))
  t3 := Tryz.underlying3
  a3 := Tryz.isAgg3
  z3 := Tryz.sizeOf3
  v3 := Tryz.zeroValue3
  t4 := Tryz.underlying4
  a4 := Tryz.isAgg4
  z4 := Tryz.sizeOf4
  v4 := Tryz.zeroValue4
  t5 := Tryz.underlying5
  a5 := Tryz.isAgg5
  z5 := Tryz.sizeOf5
  v5 := Tryz.zeroValue5
  t9 := Tryz.underlying9
  a9 := Tryz.isAgg9
  z9 := Tryz.sizeOf9
  v9 := Tryz.zeroValue9
  t46 := Tryz.underlying109
  a46 := Tryz.isAgg109
  z46 := Tryz.sizeOf109
  v46 := Tryz.zeroValue109
  t51 := Tryz.underlying152
  a51 := Tryz.isAgg152
  z51 := Tryz.sizeOf152
  v51 := Tryz.zeroValue152 }
/-- bits.Len32: "Len32 returns the minimum number of bits required to represent x; the result is 0 for x == 0.": IT RETURNS 'Lib.bitLen x'; the world is as it was. ('h0', 'h1': x is a uint32.) (LAID: no walk: one application.) -/
theorem Tryz.bits_Len32 (x : Int) (w : World) (h0 : 0 ≤ x) (h1 : x ≤ 4294967295) :
    Calls Tryz.prog 136 #[.int .u32 x] w fun e w' => e = .returned (.int .i64 (Lib.bitLen x.toNat)) ∧ w' = w := Any.bits_Len32 Tryz.lays128 x w h0 h1
def Tryz.lays125_ren : Go.Shelf.Ren := ⟨fun | 125 => 88 | 128 => 136 | 129 => 137 | n => n, fun | 46 => 109 | 3 => 3 | 51 => 152 | 53 => 37 | 4 => 4 | 5 => 5 | 9 => 9 | n => n, fun | n => n⟩
theorem Tryz.lays125 : Go.Proofs.Lays.n125 Tryz.prog Tryz.lays125_ren := {
  mixed := by kernel_rfl
  f125 := Tryz.func88.trans (congrArg some (by kernel_rfl))
  f128 := Tryz.func136.trans (congrArg some (by kernel_rfl))
  f129 := Tryz.func137.trans (congrArg some (by kernel_rfl))
  t3 := Tryz.underlying3
  a3 := Tryz.isAgg3
  z3 := Tryz.sizeOf3
  v3 := Tryz.zeroValue3
  t4 := Tryz.underlying4
  a4 := Tryz.isAgg4
  z4 := Tryz.sizeOf4
  v4 := Tryz.zeroValue4
  t5 := Tryz.underlying5
  a5 := Tryz.isAgg5
  z5 := Tryz.sizeOf5
  v5 := Tryz.zeroValue5
  t9 := Tryz.underlying9
  a9 := Tryz.isAgg9
  z9 := Tryz.sizeOf9
  v9 := Tryz.zeroValue9
  t46 := Tryz.underlying109
  a46 := Tryz.isAgg109
  z46 := Tryz.sizeOf109
  v46 := Tryz.zeroValue109
  t51 := Tryz.underlying152
  a51 := Tryz.isAgg152
  z51 := Tryz.sizeOf152
  v51 := Tryz.zeroValue152
  t53 := Tryz.underlying37
  a53 := Tryz.isAgg37
  z53 := Tryz.sizeOf37
  v53 := Tryz.zeroValue37 }
/-- bits.Len: "Len returns the minimum number of bits required to represent x; the result is 0 for x == 0.": IT RETURNS 'Lib.bitLen x'; the world is as it was. (A uint has 64 bits in the model.) ITS CALLEE bits.Len64 IS MET BY ITS OWN CONTRACT OFF THE SHELF (lay that first). (LAID: no walk: one application.) -/
theorem Tryz.bits_Len (x : Int) (w : World) (h0 : 0 ≤ x) (h1 : x ≤ 18446744073709551615) :
    Calls Tryz.prog 88 #[.int .u64 x] w fun e w' => e = .returned (.int .i64 (Lib.bitLen x.toNat)) ∧ w' = w := Any.bits_Len Tryz.lays125 x w h0 h1
def Tryz.lays213_ren : Go.Shelf.Ren := ⟨fun | 213 => 89 | 265 => 138 | n => n, fun | 9 => 9 | 3 => 3 | n => n, fun | n => n⟩
theorem Tryz.lays213 : Go.Proofs.Lays.n213 Tryz.prog Tryz.lays213_ren := {
  mixed := by kernel_rfl
  f213 := Tryz.func89.trans (congrArg some (by kernel_rfl))
  f265 := Tryz.func138.trans (congrArg some (by kernel_rfl))
  t3 := Tryz.underlying3
  a3 := Tryz.isAgg3
  z3 := Tryz.sizeOf3
  v3 := Tryz.zeroValue3
  t9 := Tryz.underlying9
  a9 := Tryz.isAgg9
  z9 := Tryz.sizeOf9
  v9 := Tryz.zeroValue9 }
open Go.RowKit in
/-- internal/bytealg.CompareString (what strings.Compare calls): IT RETURNS 'Lib.compareBytes a b'; the world is as it was. (LAID: no walk: one application.) -/
theorem Tryz.bytealg_CompareString (a b : ByteArray) (w : World) :
    Calls Tryz.prog 89 #[.string a, .string b] w fun e w' => e = .returned (.int .i64 (Lib.compareBytes a.data.toList b.data.toList)) ∧ w' = w := Any.bytealg_CompareString Tryz.lays213 a b w
def Tryz.lays106_ren : Go.Shelf.Ren := ⟨fun | 106 => 48 | 213 => 89 | 265 => 138 | n => n, fun | 9 => 9 | 3 => 3 | n => n, fun | n => n⟩
theorem Tryz.lays106 : Go.Proofs.Lays.n106 Tryz.prog Tryz.lays106_ren := {
  mixed := by kernel_rfl
  f106 := Tryz.func48.trans (congrArg some (by kernel_rfl))
  f213 := Tryz.func89.trans (congrArg some (by kernel_rfl))
  f265 := Tryz.func138.trans (congrArg some (by kernel_rfl))
  t3 := Tryz.underlying3
  a3 := Tryz.isAgg3
  z3 := Tryz.sizeOf3
  v3 := Tryz.zeroValue3
  t9 := Tryz.underlying9
  a9 := Tryz.isAgg9
  z9 := Tryz.sizeOf9
  v9 := Tryz.zeroValue9 }
open Go.RowKit in
/-- strings.Compare: "Compare returns an integer comparing two strings lexicographically. The result will be 0 if a == b, -1 if a < b, and +1 if a > b.": IT RETURNS 'Lib.compareBytes a b'; the world is as it was. (LAID: no walk: one application.) -/
theorem Tryz.strings_Compare (a b : ByteArray) (w : World) :
    Calls Tryz.prog 48 #[.string a, .string b] w fun e w' => e = .returned (.int .i64 (Lib.compareBytes a.data.toList b.data.toList)) ∧ w' = w := Any.strings_Compare Tryz.lays106 a b w
def Tryz.lays129_ren : Go.Shelf.Ren := ⟨fun | 129 => 137 | n => n, fun | 53 => 37 | 3 => 3 | 4 => 4 | 46 => 109 | 5 => 5 | 9 => 9 | n => n, fun | n => n⟩
theorem Tryz.lays129 : Go.Proofs.Lays.n129 Tryz.prog Tryz.lays129_ren := {
  mixed := by kernel_rfl
  f129 := Tryz.func137.trans (congrArg some (by kernel_rfl))
  t3 := Tryz.underlying3
  a3 := Tryz.isAgg3
  z3 := Tryz.sizeOf3
  v3 := Tryz.zeroValue3
  t4 := Tryz.underlying4
  a4 := Tryz.isAgg4
  z4 := Tryz.sizeOf4
  v4 := Tryz.zeroValue4
  t5 := Tryz.underlying5
  a5 := Tryz.isAgg5
  z5 := Tryz.sizeOf5
  v5 := Tryz.zeroValue5
  t9 := Tryz.underlying9
  a9 := Tryz.isAgg9
  z9 := Tryz.sizeOf9
  v9 := Tryz.zeroValue9
  t46 := Tryz.underlying109
  a46 := Tryz.isAgg109
  z46 := Tryz.sizeOf109
  v46 := Tryz.zeroValue109
  t53 := Tryz.underlying37
  a53 := Tryz.isAgg37
  z53 := Tryz.sizeOf37
  v53 := Tryz.zeroValue37 }
/-- bits.Len64: "Len64 returns the minimum number of bits required to represent x; the result is 0 for x == 0.": IT RETURNS 'Lib.bitLen x'; the world is as it was. ('h0', 'h1': x is a uint64.) (LAID: no walk: one application.) -/
theorem Tryz.bits_Len64 (x : Int) (w : World) (h0 : 0 ≤ x) (h1 : x ≤ 18446744073709551615) :
    Calls Tryz.prog 137 #[.int .u64 x] w fun e w' => e = .returned (.int .i64 (Lib.bitLen x.toNat)) ∧ w' = w := Any.bits_Len64 Tryz.lays129 x w h0 h1
def Tryz.lays190_ren : Go.Shelf.Ren := ⟨fun | 190 => 76 | 125 => 88 | 258 => 119 | 128 => 136 | 129 => 137 | 302 => 147 | 303 => 148 | 304 => 149 | 305 => 150 | 306 => 151 | 307 => 152 | 308 => 153 | 309 => 154 | 310 => 155 | 333 => 169 | 329 => 161 | 330 => 162 | 334 => 170 | 335 => 171 | 336 => 172 | 344 => 180 | n => n, fun | 31 => 49 | 9 => 9 | 3 => 3 | 46 => 109 | 0 => 0 | 51 => 152 | 53 => 37 | 4 => 4 | 183 => 145 | 182 => 144 | 131 => 149 | 5 => 5 | 218 => 163 | 222 => 167 | 228 => 178 | 229 => 179 | n => n, fun | n => n⟩
theorem Tryz.lays190 : Go.Proofs.Lays.n190 Tryz.prog Tryz.lays190_ren := {
  mixed := by kernel_rfl
  f125 := Tryz.func88.trans (congrArg some (by kernel_rfl))
  f128 := Tryz.func136.trans (congrArg some (by kernel_rfl))
  f129 := Tryz.func137.trans (congrArg some (by kernel_rfl))
  f190 := Tryz.func76.trans (congrArg some (by kernel_rfl))
  f258 := Tryz.func119.trans (congrArg some (by kernel_rfl))
  f302 := Tryz.func147.trans (congrArg some (by kernel_rfl))
  f303 := Tryz.func148.trans (congrArg some (by kernel_rfl))
  f304 := Tryz.func149.trans (congrArg some (by kernel_rfl))
  f305 := Tryz.func150.trans (congrArg some (by kernel_rfl))
  f306 := Tryz.func151.trans (congrArg some (by kernel_rfl))
  f307 := Tryz.func152.trans (congrArg some (by kernel_rfl))
  f308 := Tryz.func153.trans (congrArg some (by kernel_rfl))
  f309 := Tryz.func154.trans (congrArg some (by kernel_rfl))
  f310 := Tryz.func155.trans (congrArg some (by kernel_rfl))
  f329 := Tryz.func161.trans (congrArg some (by kernel_rfl))
  f330 := Tryz.func162.trans (congrArg some (by kernel_rfl))
  f333 := Tryz.func169.trans (congrArg some (by kernel_rfl))
  f334 := Tryz.func170.trans (congrArg some (by kernel_rfl))
  f335 := Tryz.func171.trans (congrArg some (by kernel_rfl))
  f336 := Tryz.func172.trans (congrArg some (by kernel_rfl))
  f344 := Tryz.func180.trans (congrArg some (by kernel_rfl))
  t0 := Tryz.underlying0
  a0 := Tryz.isAgg0
  z0 := Tryz.sizeOf0
  v0 := Tryz.zeroValue0
  t3 := Tryz.underlying3
  a3 := Tryz.isAgg3
  z3 := Tryz.sizeOf3
  v3 := Tryz.zeroValue3
  t4 := Tryz.underlying4
  a4 := Tryz.isAgg4
  z4 := Tryz.sizeOf4
  v4 := Tryz.zeroValue4
  t5 := Tryz.underlying5
  a5 := Tryz.isAgg5
  z5 := Tryz.sizeOf5
  v5 := Tryz.zeroValue5
  t9 := Tryz.underlying9
  a9 := Tryz.isAgg9
  z9 := Tryz.sizeOf9
  v9 := Tryz.zeroValue9
  t31 := Tryz.underlying49
  a31 := Tryz.isAgg49
  z31 := Tryz.sizeOf49
  v31 := Tryz.zeroValue49
  t46 := Tryz.underlying109
  a46 := Tryz.isAgg109
  z46 := Tryz.sizeOf109
  v46 := Tryz.zeroValue109
  t51 := Tryz.underlying152
  a51 := Tryz.isAgg152
  z51 := Tryz.sizeOf152
  v51 := Tryz.zeroValue152
  t53 := Tryz.underlying37
  a53 := Tryz.isAgg37
  z53 := Tryz.sizeOf37
  v53 := Tryz.zeroValue37
  t131 := Tryz.underlying149
  a131 := Tryz.isAgg149
  z131 := Tryz.sizeOf149
  v131 := Tryz.zeroValue149
  t182 := Tryz.underlying144
  a182 := Tryz.isAgg144
  z182 := Tryz.sizeOf144
  v182 := Tryz.zeroValue144
  t183 := Tryz.underlying145
  a183 := Tryz.isAgg145
  z183 := Tryz.sizeOf145
  v183 := Tryz.zeroValue145
  t218 := Tryz.underlying163
  a218 := Tryz.isAgg163
  z218 := Tryz.sizeOf163
  v218 := Tryz.zeroValue163
  t222 := Tryz.underlying167
  a222 := Tryz.isAgg167
  z222 := Tryz.sizeOf167
  v222 := Tryz.zeroValue167
  t228 := Tryz.underlying178
  a228 := Tryz.isAgg178
  z228 := Tryz.sizeOf178
  v228 := Tryz.zeroValue178
  t229 := Tryz.underlying179
  a229 := Tryz.isAgg179
  z229 := Tryz.sizeOf179
  v229 := Tryz.zeroValue179 }
open Go.Sort Go.RowKit in
theorem Tryz.slices_Sort_string (blk off cap : Nat) (ss : List (List UInt8)) (w : World) (hH : Holds encStr w blk off ss.toArray) (hblk : blk < w.heap.size) (hsz : ss.length < 4611686018427387904) :
    Calls Tryz.prog 76 #[.slice (some ⟨blk, off, none⟩) ss.length cap] w fun e w' =>
      e = .returned (.tuple #[]) ∧ ∃ n os, w' = grow (putRow encStr (Sort.ahead w n) blk off (ss.mergeSort fun x y => decide (x ≤ y)).toArray) os := Any.slices_Sort_string Tryz.lays190 blk off cap ss w hH hblk hsz
def Tryz.lays109_ren : Go.Shelf.Ren := ⟨fun | 109 => 116 | n => n, fun | 31 => 49 | 9 => 9 | 3 => 3 | 0 => 0 | 4 => 4 | n => n, fun | n => n⟩
theorem Tryz.lays109 : Go.Proofs.Lays.n109 Tryz.prog Tryz.lays109_ren := {
  mixed := by kernel_rfl
  f109 := Tryz.func116.trans (congrArg some (by kernel_rfl))
  t0 := Tryz.underlying0
  a0 := Tryz.isAgg0
  z0 := Tryz.sizeOf0
  v0 := Tryz.zeroValue0
  t3 := Tryz.underlying3
  a3 := Tryz.isAgg3
  z3 := Tryz.sizeOf3
  v3 := Tryz.zeroValue3
  t4 := Tryz.underlying4
  a4 := Tryz.isAgg4
  z4 := Tryz.sizeOf4
  v4 := Tryz.zeroValue4
  t9 := Tryz.underlying9
  a9 := Tryz.isAgg9
  z9 := Tryz.sizeOf9
  v9 := Tryz.zeroValue9
  t31 := Tryz.underlying49
  a31 := Tryz.isAgg49
  z31 := Tryz.sizeOf49
  v31 := Tryz.zeroValue49 }
open Go.Lib in
/-- slices.Index at []string: "Index returns the index of the first occurrence of v in s, or -1 if not present.": IT RETURNS 'Lib.idxOfS (the elements) v'; the world is as it was. 'zs': what the cells behind the slice's address hold (its spare capacity too, if you have it); 'zs.take n': its elements. (LAID: no walk: one application.) -/
theorem Tryz.slices_Index_string (b off n c : Nat) (zs : List ByteArray) (x : ByteArray) (w : World) (hz : n ≤ zs.length) (hbig : n ≤ 9223372036854775807) (hc : ∀ j, j < zs.length → w.cell? ⟨b, off + j, none⟩ = some (.string (zs.getD j ByteArray.empty))) :
    Calls Tryz.prog 116 #[.slice (some ⟨b, off, none⟩) n c, .string x] w fun e w' => e = .returned (.int .i64 (Lib.idxOfS (zs.take n) x)) ∧ w' = w := Any.slices_Index_string Tryz.lays109 b off n c zs x w hz hbig hc
open Go.Lib in
/-- The same at a slice of length 0, a nil one too: no cell is known, none is asked for. (LAID: no walk: one application.) -/
theorem Tryz.slices_Index_string_empty (a : Option Addr) (c : Nat) (x : ByteArray) (w : World) :
    Calls Tryz.prog 116 #[.slice a 0 c, .string x] w fun e w' => e = .returned (.int .i64 (Lib.idxOfS [] x)) ∧ w' = w := Any.slices_Index_string_empty Tryz.lays109 a c x w
def Tryz.lays110_ren : Go.Shelf.Ren := ⟨fun | 110 => 146 | 109 => 116 | n => n, fun | 31 => 49 | 9 => 9 | 4 => 4 | 3 => 3 | 0 => 0 | n => n, fun | n => n⟩
theorem Tryz.lays110 : Go.Proofs.Lays.n110 Tryz.prog Tryz.lays110_ren := {
  mixed := by kernel_rfl
  f109 := Tryz.func116.trans (congrArg some (by kernel_rfl))
  f110 := Tryz.func146.trans (congrArg some (by kernel_rfl))
  t0 := Tryz.underlying0
  a0 := Tryz.isAgg0
  z0 := Tryz.sizeOf0
  v0 := Tryz.zeroValue0
  t3 := Tryz.underlying3
  a3 := Tryz.isAgg3
  z3 := Tryz.sizeOf3
  v3 := Tryz.zeroValue3
  t4 := Tryz.underlying4
  a4 := Tryz.isAgg4
  z4 := Tryz.sizeOf4
  v4 := Tryz.zeroValue4
  t9 := Tryz.underlying9
  a9 := Tryz.isAgg9
  z9 := Tryz.sizeOf9
  v9 := Tryz.zeroValue9
  t31 := Tryz.underlying49
  a31 := Tryz.isAgg49
  z31 := Tryz.sizeOf49
  v31 := Tryz.zeroValue49 }
open Go.Lib in
/-- slices.Contains at []string: "Contains reports whether v is present in s.": IT RETURNS 'Lib.containsS (the elements) v', which is true just where v is among them ('Lib.containsS_iff'); the world is as it was. ITS CALLEE slices.Index IS MET BY ITS OWN CONTRACT OFF THE SHELF (lay that first): no loop is walked here. (LAID: no walk: one application.) -/
theorem Tryz.slices_Contains_string (b off n c : Nat) (zs : List ByteArray) (x : ByteArray) (w : World) (hz : n ≤ zs.length) (hbig : n ≤ 9223372036854775807) (hc : ∀ j, j < zs.length → w.cell? ⟨b, off + j, none⟩ = some (.string (zs.getD j ByteArray.empty))) :
    Calls Tryz.prog 146 #[.slice (some ⟨b, off, none⟩) n c, .string x] w fun e w' => e = .returned (.bool (Lib.containsS (zs.take n) x)) ∧ w' = w := Any.slices_Contains_string Tryz.lays110 b off n c zs x w hz hbig hc
open Go.Lib in
/-- The same at a slice of length 0, a nil one too. (LAID: no walk: one application.) -/
theorem Tryz.slices_Contains_string_empty (a : Option Addr) (c : Nat) (x : ByteArray) (w : World) :
    Calls Tryz.prog 146 #[.slice a 0 c, .string x] w fun e w' => e = .returned (.bool false) ∧ w' = w := Any.slices_Contains_string_empty Tryz.lays110 a c x w
def Tryz.lays112_ren : Go.Shelf.Ren := ⟨fun | 112 => 64 | n => n, fun | 28 => 42 | 3 => 3 | 4 => 4 | 0 => 0 | n => n, fun | n => n⟩
theorem Tryz.lays112 : Go.Proofs.Lays.n112 Tryz.prog Tryz.lays112_ren := {
  mixed := by kernel_rfl
  f112 := Tryz.func64.trans (congrArg some (by kernel_rfl))
  t0 := Tryz.underlying0
  a0 := Tryz.isAgg0
  z0 := Tryz.sizeOf0
  v0 := Tryz.zeroValue0
  t3 := Tryz.underlying3
  a3 := Tryz.isAgg3
  z3 := Tryz.sizeOf3
  v3 := Tryz.zeroValue3
  t4 := Tryz.underlying4
  a4 := Tryz.isAgg4
  z4 := Tryz.sizeOf4
  v4 := Tryz.zeroValue4
  t28 := Tryz.underlying42
  a28 := Tryz.isAgg42
  z28 := Tryz.sizeOf42
  v28 := Tryz.zeroValue42 }
open Go.RowKit Go.Lib Go.Sort in
/-- slices.Reverse at []int, over an array: Go's loop from the two ends inward is walked; it makes 'Sort.reverseLoop 0 (len - 1)', which is 'Array.reverse' (Derived/Lib/SlicesMore.lean). (LAID: no walk: one application.) -/
theorem Tryz.slices_Reverse_int_arr (blk off cap : Nat) (d : Array Int) (w : World) (hH : Holds encI w blk off d) (hsz : d.size ≤ 9223372036854775807) :
    Calls Tryz.prog 64 #[.slice (some ⟨blk, off, none⟩) d.size cap] w fun e w' => e = .returned (.tuple #[]) ∧ ∃ n, w' = putRow encI (Sort.ahead w n) blk off d.reverse := Any.slices_Reverse_int_arr Tryz.lays112 blk off cap d w hH hsz
open Go.RowKit Go.Lib Go.Sort in
/-- slices.Reverse at []int: "Reverse reverses the elements of the slice in place.": THE SLICE's CELLS HOLD 'zs.reverse' BEHIND THE CALL; all else is as it was, but for the count of draws (the exchange 's[i], s[j] = s[j], s[i]' draws its order, once a round). IN THE WORDS OF slices.Sort's CONTRACT: 'Holds': the cells hold zs and none is frozen; 'putRow': the world with those cells holding another array. A slice of length 0 that is not nil is among them ('zs = []'); nil: '.._nil'. (LAID: no walk: one application.) -/
theorem Tryz.slices_Reverse_int (blk off cap : Nat) (zs : List Int) (w : World) (hH : Holds (Value.int .i64) w blk off zs.toArray) (hsz : zs.length ≤ 9223372036854775807) :
    Calls Tryz.prog 64 #[.slice (some ⟨blk, off, none⟩) zs.length cap] w fun e w' => e = .returned (.tuple #[]) ∧ ∃ n, w' = putRow (Value.int .i64) (Sort.ahead w n) blk off zs.reverse.toArray := Any.slices_Reverse_int Tryz.lays112 blk off cap zs w hH hsz
open Go.RowKit Go.Lib Go.Sort in
/-- The same at a slice of length 0, a nil one too: nothing is read, nothing written, nothing drawn. (LAID: no walk: one application.) -/
theorem Tryz.slices_Reverse_int_empty (a : Option Addr) (cap : Nat) (w : World) :
    Calls Tryz.prog 64 #[.slice a 0 cap] w fun e w' => e = .returned (.tuple #[]) ∧ w' = w := Any.slices_Reverse_int_empty Tryz.lays112 a cap w
def Tryz.laysNm216_ren : Go.Shelf.Ren := ⟨fun | 16 => 143 | n => n, fun | 24 => 49 | 9 => 9 | 4 => 4 | n => n, fun | n => n⟩
theorem Tryz.laysNm216 : Go.Proofs.Lays2.n16 Tryz.prog Tryz.laysNm216_ren := {
  mixed := by kernel_rfl
  f16 := Tryz.func143.trans (congrArg some (by kernel_rfl))
  t4 := Tryz.underlying4
  a4 := Tryz.isAgg4
  z4 := Tryz.sizeOf4
  v4 := Tryz.zeroValue4
  t9 := Tryz.underlying9
  a9 := Tryz.isAgg9
  z9 := Tryz.sizeOf9
  v9 := Tryz.zeroValue9
  t24 := Tryz.underlying49
  a24 := Tryz.isAgg49
  z24 := Tryz.sizeOf49
  v24 := Tryz.zeroValue49
  i9 := by kernel_rfl }
open Go.RowKit Go.Lib in
/-- slices.Clone at []string: "Clone returns a copy of the slice. The elements are copied using assignment, so this is a shallow clone. The result may have additional unused capacity. The result preserves the nilness of s.": OF A SLICE THAT IS NOT nil IT RETURNS A SLICE THAT IS NOT nil, OF THE SAME ELEMENTS, IN MEMORY OF THE CALL's OWN: in the how-to's words (6f): 'w'.ownsRow B e 1 v' n cells': v' begins at the head of a row among the blocks from B on (B: the heap's size at the call), not frozen, whose first cells are the elements · 'Below B w w'': below B all is as it was. The capacity is whatever the run-time gives. 'zs': what the cells behind the slice's address hold; 'zs.take n': its elements. (LAID: no walk: one application.) -/
theorem Tryz.slices_Clone_string (b off n c : Nat) (zs : List ByteArray) (w : World) (hz : n ≤ zs.length) (hbig : n * 16 ≤ 140737488355328) (hc : ∀ j, j < zs.length → w.cell? ⟨b, off + j, none⟩ = some (.string (zs.getD j ByteArray.empty))) :
    Calls Tryz.prog 143 #[.slice (some ⟨b, off, none⟩) n c] w fun e w' => ∃ v', e = .returned v' ∧ w'.ownsRow w.heap.size 9 1 v' n ((zs.take n).map (Value.string)) ∧ v' ≠ .slice none 0 0 ∧ Below w.heap.size w w' := Any.slices_Clone_string Tryz.laysNm216 b off n c zs w hz hbig hc
open Go.RowKit Go.Lib in
/-- The same at nil: nil comes back; the world is as it was. (LAID: no walk: one application.) -/
theorem Tryz.slices_Clone_string_nil (n c : Nat) (w : World) :
    Calls Tryz.prog 143 #[.slice none n c] w fun e w' => e = .returned (.slice none 0 0) ∧ w' = w := Any.slices_Clone_string_nil Tryz.laysNm216 n c w
open Go.RowKit Go.Lib in
/-- The same at a slice of length 0 that is not nil, WHATEVER ITS ADDRESS (no cell is asked for): a slice that is not nil and owns nothing comes back. (LAID: no walk: one application.) -/
theorem Tryz.slices_Clone_string_zero (a : Addr) (c : Nat) (w : World) :
    Calls Tryz.prog 143 #[.slice (some a) 0 c] w fun e w' => ∃ v', e = .returned v' ∧ w'.ownsRow w.heap.size 9 1 v' 0 [] ∧ v' ≠ .slice none 0 0 ∧ Below w.heap.size w w' := Any.slices_Clone_string_zero Tryz.laysNm216 a c w
def Tryz.laysNm224_ren : Go.Shelf.Ren := ⟨fun | 24 => 117 | n => n, fun | 24 => 49 | 9 => 9 | 3 => 3 | 4 => 4 | 0 => 0 | n => n, fun | n => n⟩
theorem Tryz.laysNm224 : Go.Proofs.Lays2.n24 Tryz.prog Tryz.laysNm224_ren := {
  mixed := by kernel_rfl
  f24 := Tryz.func117.trans (congrArg some (by kernel_rfl))
  t0 := Tryz.underlying0
  a0 := Tryz.isAgg0
  z0 := Tryz.sizeOf0
  v0 := Tryz.zeroValue0
  t3 := Tryz.underlying3
  a3 := Tryz.isAgg3
  z3 := Tryz.sizeOf3
  v3 := Tryz.zeroValue3
  t4 := Tryz.underlying4
  a4 := Tryz.isAgg4
  z4 := Tryz.sizeOf4
  v4 := Tryz.zeroValue4
  t9 := Tryz.underlying9
  a9 := Tryz.isAgg9
  z9 := Tryz.sizeOf9
  v9 := Tryz.zeroValue9
  t24 := Tryz.underlying49
  a24 := Tryz.isAgg49
  z24 := Tryz.sizeOf49
  v24 := Tryz.zeroValue49
  i9 := by kernel_rfl }
open Go.RowKit Go.Lib Go.Sort in
/-- slices.Delete at []string, over an array. (LAID: no walk: one application.) -/
theorem Tryz.slices_Delete_string_arr (blk off cap i j : Nat) (d : Array (List UInt8)) (w : World) (hH : Holds encStr w blk off d) (hcap : d.size ≤ cap) (hm : cap ≤ 9223372036854775807) (hij : i ≤ j) (hj : j ≤ d.size) :
    Calls Tryz.prog 117 #[.slice (some ⟨blk, off, none⟩) d.size cap, .int .i64 i, .int .i64 j] w fun e w' => e = .returned (.slice (some ⟨blk, off, none⟩) (d.size - (j - i)) cap) ∧ ∃ q, w' = putRow encStr (Sort.ahead w q) blk off (d.toList.take i ++ d.toList.drop j ++ List.replicate (j - i) []).toArray := Any.slices_Delete_string_arr Tryz.laysNm224 blk off cap i j d w hH hcap hm hij hj
open Go.RowKit Go.Lib Go.Sort in
/-- slices.Delete at []string: "Delete modifies s in place by removing the elements s[i:j], and returns the modified slice. Delete panics if j > len(s) or s[i:j] is not a valid slice of s. Delete is O(len(s)-i), so if many items must be deleted, it is better to make a single call deleting them all together than to delete one at a time. Delete zeroes the elements s[len(s)-(j-i):len(s)]. If the result is empty, it has the same nilness as s.": FOR i ≤ j ≤ len(s) IT RETURNS THE SLICE CUT TO len(s) - (j - i) ELEMENTS; ITS CELLS HOLD what stood ahead of i, what stood from j on, then j - i zero values; all else is as it was, but for the count of draws. IN THE WORDS OF slices.Sort's CONTRACT ('Holds', 'putRow'). It asks 'zs.length ≤ cap ≤ 2^63 - 1' (every slice's). (Outside i ≤ j ≤ len(s) it panics: no contract here.) (LAID: no walk: one application.) -/
theorem Tryz.slices_Delete_string (blk off cap i j : Nat) (zs : List (List UInt8)) (w : World) (hH : Holds encStr w blk off zs.toArray) (hcap : zs.length ≤ cap) (hm : cap ≤ 9223372036854775807) (hij : i ≤ j) (hj : j ≤ zs.length) :
    Calls Tryz.prog 117 #[.slice (some ⟨blk, off, none⟩) zs.length cap, .int .i64 i, .int .i64 j] w fun e w' => e = .returned (.slice (some ⟨blk, off, none⟩) (zs.length - (j - i)) cap) ∧ ∃ q, w' = putRow encStr (Sort.ahead w q) blk off (zs.take i ++ zs.drop j ++ List.replicate (j - i) []).toArray := Any.slices_Delete_string Tryz.laysNm224 blk off cap i j zs w hH hcap hm hij hj
def Tryz.laysNm219_ren : Go.Shelf.Ren := ⟨fun | 19 => 115 | n => n, fun | 24 => 49 | 9 => 9 | 3 => 3 | 4 => 4 | 20 => 20 | 0 => 0 | n => n, fun | n => n⟩
theorem Tryz.laysNm219 : Go.Proofs.Lays2.n19 Tryz.prog Tryz.laysNm219_ren := {
  mixed := by kernel_rfl
  f19 := Tryz.func115.trans (congrArg some (by kernel_rfl))
  t0 := Tryz.underlying0
  a0 := Tryz.isAgg0
  z0 := Tryz.sizeOf0
  v0 := Tryz.zeroValue0
  t3 := Tryz.underlying3
  a3 := Tryz.isAgg3
  z3 := Tryz.sizeOf3
  v3 := Tryz.zeroValue3
  t4 := Tryz.underlying4
  a4 := Tryz.isAgg4
  z4 := Tryz.sizeOf4
  v4 := Tryz.zeroValue4
  t9 := Tryz.underlying9
  a9 := Tryz.isAgg9
  z9 := Tryz.sizeOf9
  v9 := Tryz.zeroValue9
  t20 := Tryz.underlying20
  a20 := Tryz.isAgg20
  z20 := Tryz.sizeOf20
  v20 := Tryz.zeroValue20
  t24 := Tryz.underlying49
  a24 := Tryz.isAgg49
  z24 := Tryz.sizeOf49
  v24 := Tryz.zeroValue49 }
open Go.RowKit Go.Lib in
/-- slices.Min at []string: "Min returns the minimal value in x. It panics if x is empty.": OF A SLICE THAT IS NOT EMPTY IT RETURNS 'Lib.minOfS (the elements)' (bytes, lexically); the world is as it was. (Of an empty one it panics: no contract here.) (LAID: no walk: one application.) -/
theorem Tryz.slices_Min_string (b off n c : Nat) (zs : List ByteArray) (w : World) (hn : 0 < n) (hz : n ≤ zs.length) (hbig : n ≤ 9223372036854775807) (hc : ∀ j, j < zs.length → w.cell? ⟨b, off + j, none⟩ = some (.string (zs.getD j ByteArray.empty))) :
    Calls Tryz.prog 115 #[.slice (some ⟨b, off, none⟩) n c] w fun e w' => e = .returned (.string (Lib.minOfS (zs.take n))) ∧ w' = w := Any.slices_Min_string Tryz.laysNm219 b off n c zs w hn hz hbig hc
open Go.RowKit Go.Lib Go.Sort in
/-- slices.Reverse at []int, of an argument: the n cells hold the elements in reverse. (LAID: no walk: one application.) -/
theorem Tryz.slices_Reverse_int_cells (b off n c : Nat) (zs : List Int) (w : World) (hz : n ≤ zs.length) (hbig : n ≤ 9223372036854775807) (hc : ∀ j, j < zs.length → w.cell? ⟨b, off + j, none⟩ = some (.int .i64 (zs.getD j 0))) (hf : ∀ j, j < n → w.frozen? ⟨b, off + j, none⟩ = false) :
    Calls Tryz.prog 64 #[.slice (some ⟨b, off, none⟩) n c] w fun e w' => e = .returned (.tuple #[]) ∧ ∃ q, w' = (w.drewN q).setCells b off ((zs.take n).reverse.map (Value.int .i64)) := Any.slices_Reverse_int_cells Tryz.lays112 b off n c zs w hz hbig hc hf
open Go.RowKit Go.Lib Go.Sort in
/-- slices.Delete at []string, of an argument, for i ≤ j ≤ n. (LAID: no walk: one application.) -/
theorem Tryz.slices_Delete_string_cells (b off n c i j : Nat) (Sx : Nat → ByteArray) (w : World) (hcap : n ≤ c) (hm : c ≤ 9223372036854775807) (hij : i ≤ j) (hj : j ≤ n) (hc : ∀ i, i < n → w.cell? ⟨b, off + i, none⟩ = some (.string (Sx i))) (hf : ∀ j, j < n → w.frozen? ⟨b, off + j, none⟩ = false) :
    Calls Tryz.prog 117 #[.slice (some ⟨b, off, none⟩) n c, .int .i64 i, .int .i64 j] w fun e w' => e = .returned (.slice (some ⟨b, off, none⟩) (n - (j - i)) c) ∧ ∃ q, w' = (w.drewN q).setCells b off (((Lib.strsOf Sx n).take i ++ (Lib.strsOf Sx n).drop j ++ List.replicate (j - i) []).map encStr) := Any.slices_Delete_string_cells Tryz.laysNm224 b off n c i j Sx w hcap hm hij hj hc hf
open Go.RowKit Go.Sort in
/-- .. and plain. (LAID: no walk: one application.) -/
theorem Tryz.slices_Sort_string_none (p : Option Addr) (cap : Nat) (w : World) :
    Calls Tryz.prog 76 #[.slice p 0 cap] w fun e w' => e = .returned (.tuple #[]) ∧ w' = w := Any.slices_Sort_string_none Tryz.lays190 p cap w
open Go.RowKit Go.Lib in
/-- slices.Delete at []string of no element ('Delete(s, 0, 0)'): s comes back; the world is as it was. (LAID: no walk: one application.) -/
theorem Tryz.slices_Delete_string_empty (a : Option Addr) (c : Nat) (w : World) :
    Calls Tryz.prog 117 #[.slice a 0 c, .int .i64 0, .int .i64 0] w fun e w' => e = .returned (.slice a 0 c) ∧ w' = w := Any.slices_Delete_string_empty Tryz.laysNm224 a c w
def Tryz.laysSlE041_f143_ren : Go.Shelf.Ren := ⟨fun | 41 => 143 | n => n, fun | 22 => 49 | 23 => 9 | 4 => 4 | n => n, fun | n => n⟩
theorem Tryz.laysSlE041_f143 : Go.Proofs.SlLaysE0.n41 Tryz.prog Tryz.laysSlE041_f143_ren := {
  mixed := by kernel_rfl
  f41 := ⟨Tryz.f143.name, by decide, Tryz.func143.trans (congrArg some (by kernel_rfl))⟩
  t4 := Tryz.underlying4
  a4 := Tryz.isAgg4
  z4 := Tryz.sizeOf4
  v4 := Tryz.zeroValue4
  t22 := Tryz.underlying49
  a22 := Tryz.isAgg49
  z22 := Tryz.sizeOf49
  v22 := Tryz.zeroValue49 }
open Go.RowKit Go.Lib in
/-- slices.Clone: "Clone returns a copy of the slice. The elements are copied using assignment, so this is a shallow clone. The result may have additional unused capacity. The result preserves the nilness of s.": OF A SLICE THAT IS NOT nil IT RETURNS A SLICE THAT IS NOT nil, OF THE SAME CELLS, IN MEMORY OF THE CALL's OWN ('ownsRow': the how-to's 6f); below the heap's size at the call all is as it was. (LAID AT THE INSTANCE 'slices.Clone[[]string,string]': no walk: one application.) -/
theorem Tryz.slices_Clone (i0 : TypeInfo) (z : Value) (size bytes : Nat) (hi : Tryz.prog.info? 9 = some i0) (hz0 : i0.zero = some z) (hz1 : i0.size = size) (hz2 : i0.bytes = bytes) (hzs : z.cells.size = size) (hsz : 0 < size) (z23 : ∀ w, (Go.sizeOf 9).run Tryz.prog w = .ok size w) (b off n c : Nat) (news : List Value) (w : World) (hl : news.length = n * size) (hn : n ≤ maxLen) (hbig : n * bytes ≤ 140737488355328) (hc : ∀ j u, news[j]? = some u → w.cell? ⟨b, off + j, none⟩ = some u) (h1 : ∀ u ∈ news, u.oneCell' = true) :
    Calls Tryz.prog 143 #[.slice (some ⟨b, off, none⟩) n c] w fun e w' => ∃ v', e = .returned v' ∧ w'.ownsRow w.heap.size 9 size v' n news ∧ v' ≠ .slice none 0 0 ∧ Below w.heap.size w w' := AnyE.slices_Clone Tryz.laysSlE041_f143 i0 z size bytes hi hz0 hz1 hz2 hzs hsz z23 b off n c news w hl hn hbig hc h1
open Go.RowKit Go.Lib in
/-- The same at nil: nil comes back; the world is as it was; nothing is asked of the element's type. (LAID AT THE INSTANCE 'slices.Clone[[]string,string]': no walk: one application.) -/
theorem Tryz.slices_Clone_nil (n c : Nat) (w : World) :
    Calls Tryz.prog 143 #[.slice none n c] w fun e w' => e = .returned (.slice none 0 0) ∧ w' = w := AnyE.slices_Clone_nil Tryz.laysSlE041_f143 n c w
def Tryz.laysSlH6_f103_ren : Go.Shelf.Ren := ⟨fun | 6 => 103 | n => n, fun | 22 => 42 | 23 => 3 | 25 => 87 | 3 => 3 | 0 => 0 | 4 => 4 | n => n, fun | n => n⟩
theorem Tryz.laysSlH6_f103 : Go.Proofs.SlLaysH.n6 Tryz.prog Tryz.laysSlH6_f103_ren := {
  mixed := by kernel_rfl
  f6 := ⟨Tryz.f103.name, by decide, Tryz.func103.trans (congrArg some (by kernel_rfl))⟩
  t0 := Tryz.underlying0
  a0 := Tryz.isAgg0
  z0 := Tryz.sizeOf0
  v0 := Tryz.zeroValue0
  t3 := Tryz.underlying3
  a3 := Tryz.isAgg3
  z3 := Tryz.sizeOf3
  v3 := Tryz.zeroValue3
  t4 := Tryz.underlying4
  a4 := Tryz.isAgg4
  z4 := Tryz.sizeOf4
  v4 := Tryz.zeroValue4
  t22 := Tryz.underlying42
  a22 := Tryz.isAgg42
  z22 := Tryz.sizeOf42
  v22 := Tryz.zeroValue42
  a23 := Tryz.isAgg3
  z23 := Tryz.sizeOf3
  t25 := Tryz.underlying87
  a25 := Tryz.isAgg87
  z25 := Tryz.sizeOf87
  v25 := Tryz.zeroValue87 }
open Go.RowKit Go.Lib in
/-- slices.IndexFunc: "IndexFunc returns the first index i satisfying f(s[i]), or -1 if none do." (LAID AT THE INSTANCE 'slices.IndexFunc[[]int,int]': no walk: one application.) -/
theorem Tryz.slices_IndexFunc_f103 {α : Type} [Inhabited α] (enc : α → Value) (p : α → Bool) (g : Nat) (lb : Array Value) (eg : ∀ args w, (callFunc g args).run Tryz.prog w = .ok (.enter g args) w) (b off n c : Nat) (zs : List α) (w : World) (hp : PredAt Tryz.prog g lb enc p w) (hz : n ≤ zs.length) (hbig : n ≤ 9223372036854775807) (hc : ∀ j, j < zs.length → w.cell? ⟨b, off + j, none⟩ = some (enc zs[j]!)) :
    Calls Tryz.prog 103 #[.slice (some ⟨b, off, none⟩) n c, .func (.func g) #[] lb] w fun e w' => e = .returned (.int .i64 (Lib.idxBy (fun _ y => p y) (zs.take n) default)) ∧ ∃ q, w' = w.drewN q := AnyE.slices_IndexFunc Tryz.laysSlH6_f103 enc p g lb eg b off n c zs w hp hz hbig hc
def Tryz.laysSlH6_f175_ren : Go.Shelf.Ren := ⟨fun | 6 => 175 | n => n, fun | 22 => 49 | 23 => 9 | 25 => 96 | 3 => 3 | 0 => 0 | 4 => 4 | n => n, fun | n => n⟩
theorem Tryz.laysSlH6_f175 : Go.Proofs.SlLaysH.n6 Tryz.prog Tryz.laysSlH6_f175_ren := {
  mixed := by kernel_rfl
  f6 := ⟨Tryz.f175.name, by decide, Tryz.func175.trans (congrArg some (by kernel_rfl))⟩
  t0 := Tryz.underlying0
  a0 := Tryz.isAgg0
  z0 := Tryz.sizeOf0
  v0 := Tryz.zeroValue0
  t3 := Tryz.underlying3
  a3 := Tryz.isAgg3
  z3 := Tryz.sizeOf3
  v3 := Tryz.zeroValue3
  t4 := Tryz.underlying4
  a4 := Tryz.isAgg4
  z4 := Tryz.sizeOf4
  v4 := Tryz.zeroValue4
  t22 := Tryz.underlying49
  a22 := Tryz.isAgg49
  z22 := Tryz.sizeOf49
  v22 := Tryz.zeroValue49
  a23 := Tryz.isAgg9
  z23 := Tryz.sizeOf9
  t25 := Tryz.underlying96
  a25 := Tryz.isAgg96
  z25 := Tryz.sizeOf96
  v25 := Tryz.zeroValue96 }
open Go.RowKit Go.Lib in
/-- slices.IndexFunc: "IndexFunc returns the first index i satisfying f(s[i]), or -1 if none do." (LAID AT THE INSTANCE 'slices.IndexFunc[[]string,string]': no walk: one application.) -/
theorem Tryz.slices_IndexFunc {α : Type} [Inhabited α] (enc : α → Value) (p : α → Bool) (g : Nat) (lb : Array Value) (eg : ∀ args w, (callFunc g args).run Tryz.prog w = .ok (.enter g args) w) (b off n c : Nat) (zs : List α) (w : World) (hp : PredAt Tryz.prog g lb enc p w) (hz : n ≤ zs.length) (hbig : n ≤ 9223372036854775807) (hc : ∀ j, j < zs.length → w.cell? ⟨b, off + j, none⟩ = some (enc zs[j]!)) :
    Calls Tryz.prog 175 #[.slice (some ⟨b, off, none⟩) n c, .func (.func g) #[] lb] w fun e w' => e = .returned (.int .i64 (Lib.idxBy (fun _ y => p y) (zs.take n) default)) ∧ ∃ q, w' = w.drewN q := AnyE.slices_IndexFunc Tryz.laysSlH6_f175 enc p g lb eg b off n c zs w hp hz hbig hc
open Go.RowKit Go.Lib in
/-- The same at a slice of length 0, a nil one too: the predicate is not called: nothing is asked of it. (LAID AT THE INSTANCE 'slices.IndexFunc[[]int,int]': no walk: one application.) -/
theorem Tryz.slices_IndexFunc_empty_f103 {α : Type} [Inhabited α] (a : Option Addr) (c : Nat) (fv : Value) (w : World) :
    Calls Tryz.prog 103 #[.slice a 0 c, fv] w fun e w' => e = .returned (.int .i64 (-1)) ∧ w' = w := AnyE.slices_IndexFunc_empty Tryz.laysSlH6_f103 a c fv w
open Go.RowKit Go.Lib in
/-- The same at a slice of length 0, a nil one too: the predicate is not called: nothing is asked of it. (LAID AT THE INSTANCE 'slices.IndexFunc[[]string,string]': no walk: one application.) -/
theorem Tryz.slices_IndexFunc_empty {α : Type} [Inhabited α] (a : Option Addr) (c : Nat) (fv : Value) (w : World) :
    Calls Tryz.prog 175 #[.slice a 0 c, fv] w fun e w' => e = .returned (.int .i64 (-1)) ∧ w' = w := AnyE.slices_IndexFunc_empty Tryz.laysSlH6_f175 a c fv w
def Tryz.laysSlH8_f63_ren : Go.Shelf.Ren := ⟨fun | 8 => 63 | 6 => 103 | n => n, fun | 22 => 42 | 23 => 3 | 25 => 87 | 4 => 4 | 3 => 3 | 0 => 0 | n => n, fun | n => n⟩
theorem Tryz.laysSlH8_f63 : Go.Proofs.SlLaysH.n8 Tryz.prog Tryz.laysSlH8_f63_ren := {
  mixed := by kernel_rfl
  f6 := ⟨Tryz.f103.name, by decide, Tryz.func103.trans (congrArg some (by kernel_rfl))⟩
  f8 := ⟨Tryz.f63.name, by decide, Tryz.func63.trans (congrArg some (by kernel_rfl))⟩
  t0 := Tryz.underlying0
  a0 := Tryz.isAgg0
  z0 := Tryz.sizeOf0
  v0 := Tryz.zeroValue0
  t3 := Tryz.underlying3
  a3 := Tryz.isAgg3
  z3 := Tryz.sizeOf3
  v3 := Tryz.zeroValue3
  t4 := Tryz.underlying4
  a4 := Tryz.isAgg4
  z4 := Tryz.sizeOf4
  v4 := Tryz.zeroValue4
  t22 := Tryz.underlying42
  a22 := Tryz.isAgg42
  z22 := Tryz.sizeOf42
  v22 := Tryz.zeroValue42
  a23 := Tryz.isAgg3
  z23 := Tryz.sizeOf3
  t25 := Tryz.underlying87
  a25 := Tryz.isAgg87
  z25 := Tryz.sizeOf87
  v25 := Tryz.zeroValue87 }
open Go.RowKit Go.Lib in
/-- slices.ContainsFunc: "ContainsFunc reports whether at least one element e of s satisfies f(e).": ITS CALLEE slices.IndexFunc IS MET BY ITS OWN CONTRACT. (LAID AT THE INSTANCE 'slices.ContainsFunc[[]int,int]': no walk: one application.) -/
theorem Tryz.slices_ContainsFunc {α : Type} [Inhabited α] (enc : α → Value) (p : α → Bool) (g : Nat) (lb : Array Value) (eg : ∀ args w, (callFunc g args).run Tryz.prog w = .ok (.enter g args) w) (b off n c : Nat) (zs : List α) (w : World) (hp : PredAt Tryz.prog g lb enc p w) (hz : n ≤ zs.length) (hbig : n ≤ 9223372036854775807) (hc : ∀ j, j < zs.length → w.cell? ⟨b, off + j, none⟩ = some (enc zs[j]!)) :
    Calls Tryz.prog 63 #[.slice (some ⟨b, off, none⟩) n c, .func (.func g) #[] lb] w fun e w' => e = .returned (.bool ((zs.take n).any p)) ∧ ∃ q, w' = w.drewN q := AnyE.slices_ContainsFunc Tryz.laysSlH8_f63 enc p g lb eg b off n c zs w hp hz hbig hc
open Go.RowKit Go.Lib in
/-- The same at a slice of length 0, a nil one too. (LAID AT THE INSTANCE 'slices.ContainsFunc[[]int,int]': no walk: one application.) -/
theorem Tryz.slices_ContainsFunc_empty {α : Type} [Inhabited α] (a : Option Addr) (c : Nat) (fv : Value) (w : World) :
    Calls Tryz.prog 63 #[.slice a 0 c, fv] w fun e w' => e = .returned (.bool false) ∧ w' = w := AnyE.slices_ContainsFunc_empty Tryz.laysSlH8_f63 a c fv w
def Tryz.laysSlH10_f158_ren : Go.Shelf.Ren := ⟨fun | 10 => 158 | 6 => 175 | n => n, fun | 22 => 49 | 23 => 9 | 25 => 96 | 3 => 3 | 4 => 4 | 0 => 0 | n => n, fun | n => n⟩
theorem Tryz.laysSlH10_f158 : Go.Proofs.SlLaysH.n10 Tryz.prog Tryz.laysSlH10_f158_ren := {
  mixed := by kernel_rfl
  f6 := ⟨Tryz.f175.name, by decide, Tryz.func175.trans (congrArg some (by kernel_rfl))⟩
  f10 := ⟨Tryz.f158.name, by decide, Tryz.func158.trans (congrArg some (by kernel_rfl))⟩
  t0 := Tryz.underlying0
  a0 := Tryz.isAgg0
  z0 := Tryz.sizeOf0
  v0 := Tryz.zeroValue0
  t3 := Tryz.underlying3
  a3 := Tryz.isAgg3
  z3 := Tryz.sizeOf3
  v3 := Tryz.zeroValue3
  t4 := Tryz.underlying4
  a4 := Tryz.isAgg4
  z4 := Tryz.sizeOf4
  v4 := Tryz.zeroValue4
  t22 := Tryz.underlying49
  a22 := Tryz.isAgg49
  z22 := Tryz.sizeOf49
  v22 := Tryz.zeroValue49
  a23 := Tryz.isAgg9
  z23 := Tryz.sizeOf9
  t25 := Tryz.underlying96
  a25 := Tryz.isAgg96
  z25 := Tryz.sizeOf96
  v25 := Tryz.zeroValue96 }
open Go.RowKit Go.Lib Go.Sort in
theorem Tryz.slices_DeleteFunc {α : Type} [Inhabited α] (enc : α → Value) (hO : OneCell enc) (p : α → Bool) (g : Nat) (lb : Array Value) (eg : ∀ args w, (callFunc g args).run Tryz.prog w = .ok (.enter g args) w) (zr : α) (v23 : ∀ w, (zeroValue 9).run Tryz.prog w = .ok (enc zr) w) (blk off cap : Nat) (d : Array α) (w : World) (hp : PredAt Tryz.prog g lb enc p w) (hpo : PredOver Tryz.prog g lb enc p blk off d.size w) (hH : Holds enc w blk off d) (hsz : d.size ≤ 9223372036854775807) (hcap : d.size ≤ cap) :
    Calls Tryz.prog 158 #[.slice (some ⟨blk, off, none⟩) d.size cap, .func (.func g) #[] lb] w fun e w' => e = .returned (.slice (some ⟨blk, off, none⟩) (d.toList.filter fun x => !p x).length cap) ∧ ∃ q, w' = putRow enc (Sort.ahead w q) blk off ((d.toList.filter fun x => !p x) ++ List.replicate (d.size - (d.toList.filter fun x => !p x).length) zr).toArray := AnyE.slices_DeleteFunc Tryz.laysSlH10_f158 enc hO p g lb eg zr v23 blk off cap d w hp hpo hH hsz hcap
def Tryz.keys108_ren : Go.Shelf.Ren := ⟨fun | 7 => 108 | 10 => 144 | n => n, fun | 23 => 121 | 26 => 9 | 3 => 4 | 28 => 68 | 0 => 0 | 27 => 67 | 33 => 96 | 4 => 4 | n => n, fun | n => n⟩
theorem Tryz.keys108 : Go.Proofs.SlLaysZ.n7 Tryz.prog Tryz.keys108_ren := {
  mixed := by kernel_rfl
  f7 := ⟨Tryz.f108.name, by decide, Tryz.func108.trans (congrArg some (by kernel_rfl))⟩
  f10 := ⟨Tryz.f144.name, by decide, Tryz.func144.trans (congrArg some (by kernel_rfl))⟩
  t0 := Tryz.underlying0
  a0 := Tryz.isAgg0
  z0 := Tryz.sizeOf0
  v0 := Tryz.zeroValue0
  t4 := Tryz.underlying4
  a4 := Tryz.isAgg4
  z4 := Tryz.sizeOf4
  v4 := Tryz.zeroValue4
  t23 := Tryz.underlying121
  a23 := Tryz.isAgg121
  z23 := Tryz.sizeOf121
  v23 := Tryz.zeroValue121
  t26 := Tryz.underlying9
  a26 := Tryz.isAgg9
  z26 := Tryz.sizeOf9
  v26 := Tryz.zeroValue9
  t27 := Tryz.underlying67
  a27 := Tryz.isAgg67
  z27 := Tryz.sizeOf67
  v27 := Tryz.zeroValue67
  t28 := Tryz.underlying68
  a28 := Tryz.isAgg68
  z28 := Tryz.sizeOf68
  v28 := Tryz.zeroValue68
  t33 := Tryz.underlying96
  a33 := Tryz.isAgg96
  z33 := Tryz.sizeOf96
  v33 := Tryz.zeroValue96 }
def Tryz.sorted40_ren : Go.Shelf.Ren := ⟨fun | 6 => 40 | 8 => 75 | 9 => 76 | 11 => 118 | 13 => 88 | 12 => 119 | 23 => 136 | 24 => 137 | 14 => 147 | 15 => 148 | 16 => 149 | 17 => 150 | 18 => 151 | 19 => 152 | 20 => 153 | 21 => 154 | 22 => 155 | 25 => 169 | 26 => 161 | 27 => 162 | 28 => 170 | 29 => 171 | 30 => 172 | 31 => 180 | n => n, fun | 26 => 9 | 28 => 68 | 24 => 49 | 0 => 0 | 3 => 3 | 37 => 109 | 48 => 152 | 50 => 37 | 4 => 4 | 40 => 145 | 39 => 144 | 45 => 149 | 5 => 5 | 9 => 9 | 51 => 163 | 55 => 167 | 57 => 178 | 58 => 179 | 33 => 96 | n => n, fun | n => n⟩
theorem Tryz.sorted40 : Go.Proofs.SlLaysZ.n6 Tryz.prog Tryz.sorted40_ren := {
  mixed := by kernel_rfl
  f6 := ⟨Tryz.f40.name, by decide, Tryz.func40.trans (congrArg some (by kernel_rfl))⟩
  f8 := ⟨Tryz.f75.name, by decide, Tryz.func75.trans (congrArg some (by kernel_rfl))⟩
  f11 := ⟨Tryz.f118.name, by decide, Tryz.func118.trans (congrArg some (by kernel_rfl))⟩
  t0 := Tryz.underlying0
  a0 := Tryz.isAgg0
  z0 := Tryz.sizeOf0
  v0 := Tryz.zeroValue0
  t24 := Tryz.underlying49
  a24 := Tryz.isAgg49
  z24 := Tryz.sizeOf49
  v24 := Tryz.zeroValue49
  t26 := Tryz.underlying9
  a26 := Tryz.isAgg9
  z26 := Tryz.sizeOf9
  v26 := Tryz.zeroValue9
  t28 := Tryz.underlying68
  a28 := Tryz.isAgg68
  z28 := Tryz.sizeOf68
  v28 := Tryz.zeroValue68
  i26 := by kernel_rfl }
def Tryz.sort76_ren : Go.Shelf.Ren := ⟨fun | 6 => 76 | 8 => 88 | 9 => 119 | 19 => 136 | 20 => 137 | 21 => 147 | 22 => 148 | 23 => 149 | 24 => 150 | 25 => 151 | 26 => 152 | 27 => 153 | 28 => 154 | 29 => 155 | 36 => 169 | 31 => 161 | 32 => 162 | 37 => 170 | 38 => 171 | 39 => 172 | 41 => 180 | n => n, fun | 27 => 49 | 29 => 9 | 3 => 3 | 32 => 109 | 26 => 49 | 0 => 0 | 44 => 152 | 46 => 37 | 4 => 4 | 36 => 145 | 35 => 144 | 41 => 149 | 5 => 5 | 9 => 9 | 53 => 163 | 57 => 167 | 63 => 178 | 64 => 179 | n => n, fun | n => n⟩
theorem Tryz.sort76 : Go.Proofs.SlLaysM.n6 Tryz.prog Tryz.sort76_ren := {
  mixed := by kernel_rfl
  f6 := ⟨Tryz.f76.name, by decide, Tryz.func76.trans (congrArg some (by kernel_rfl))⟩
  f8 := Tryz.func88.trans (congrArg some (by kernel_rfl))
  f9 := ⟨Tryz.f119.name, by decide, Tryz.func119.trans (congrArg some (by kernel_rfl))⟩
  f19 := Tryz.func136.trans (congrArg some (by kernel_rfl))
  f20 := Tryz.func137.trans (congrArg some (by kernel_rfl))
  f21 := ⟨Tryz.f147.name, by decide, Tryz.func147.trans (congrArg some (by kernel_rfl))⟩
  f22 := ⟨Tryz.f148.name, by decide, Tryz.func148.trans (congrArg some (by kernel_rfl))⟩
  f23 := ⟨Tryz.f149.name, by decide, Tryz.func149.trans (congrArg some (by kernel_rfl))⟩
  f24 := ⟨Tryz.f150.name, by decide, Tryz.func150.trans (congrArg some (by kernel_rfl))⟩
  f25 := ⟨Tryz.f151.name, by decide, Tryz.func151.trans (congrArg some (by kernel_rfl))⟩
  f26 := ⟨Tryz.f152.name, by decide, Tryz.func152.trans (congrArg some (by kernel_rfl))⟩
  f27 := ⟨Tryz.f153.name, by decide, Tryz.func153.trans (congrArg some (by kernel_rfl))⟩
  f28 := ⟨Tryz.f154.name, by decide, Tryz.func154.trans (congrArg some (by kernel_rfl))⟩
  f29 := ⟨Tryz.f155.name, by decide, Tryz.func155.trans (congrArg some (by kernel_rfl))⟩
  f31 := Tryz.func161.trans (congrArg some (by kernel_rfl))
  f32 := Tryz.func162.trans (congrArg some (by kernel_rfl))
  f36 := ⟨Tryz.f169.name, by decide, Tryz.func169.trans (congrArg some (by kernel_rfl))⟩
  f37 := ⟨Tryz.f170.name, by decide, Tryz.func170.trans (congrArg some (by kernel_rfl))⟩
  f38 := ⟨Tryz.f171.name, by decide, Tryz.func171.trans (congrArg some (by kernel_rfl))⟩
  f39 := ⟨Tryz.f172.name, by decide, Tryz.func172.trans (congrArg some (by kernel_rfl))⟩
  f41 := ⟨Tryz.f180.name, by decide, Tryz.func180.trans (congrArg some (by kernel_rfl))⟩
  t0 := Tryz.underlying0
  a0 := Tryz.isAgg0
  z0 := Tryz.sizeOf0
  v0 := Tryz.zeroValue0
  t3 := Tryz.underlying3
  a3 := Tryz.isAgg3
  z3 := Tryz.sizeOf3
  v3 := Tryz.zeroValue3
  t4 := Tryz.underlying4
  a4 := Tryz.isAgg4
  z4 := Tryz.sizeOf4
  v4 := Tryz.zeroValue4
  t5 := Tryz.underlying5
  a5 := Tryz.isAgg5
  z5 := Tryz.sizeOf5
  v5 := Tryz.zeroValue5
  t9 := Tryz.underlying9
  a9 := Tryz.isAgg9
  z9 := Tryz.sizeOf9
  v9 := Tryz.zeroValue9
  t26 := Tryz.underlying49
  a26 := Tryz.isAgg49
  z26 := Tryz.sizeOf49
  v26 := Tryz.zeroValue49
  t27 := Tryz.underlying49
  a27 := Tryz.isAgg49
  z27 := Tryz.sizeOf49
  v27 := Tryz.zeroValue49
  t29 := Tryz.underlying9
  a29 := Tryz.isAgg9
  z29 := Tryz.sizeOf9
  v29 := Tryz.zeroValue9
  t32 := Tryz.underlying109
  a32 := Tryz.isAgg109
  z32 := Tryz.sizeOf109
  v32 := Tryz.zeroValue109
  t35 := Tryz.underlying144
  a35 := Tryz.isAgg144
  z35 := Tryz.sizeOf144
  v35 := Tryz.zeroValue144
  t36 := Tryz.underlying145
  a36 := Tryz.isAgg145
  z36 := Tryz.sizeOf145
  v36 := Tryz.zeroValue145
  t41 := Tryz.underlying149
  a41 := Tryz.isAgg149
  z41 := Tryz.sizeOf149
  v41 := Tryz.zeroValue149
  t44 := Tryz.underlying152
  a44 := Tryz.isAgg152
  z44 := Tryz.sizeOf152
  v44 := Tryz.zeroValue152
  t46 := Tryz.underlying37
  a46 := Tryz.isAgg37
  z46 := Tryz.sizeOf37
  v46 := Tryz.zeroValue37
  t53 := Tryz.underlying163
  a53 := Tryz.isAgg163
  z53 := Tryz.sizeOf163
  v53 := Tryz.zeroValue163
  t57 := Tryz.underlying167
  a57 := Tryz.isAgg167
  z57 := Tryz.sizeOf167
  v57 := Tryz.zeroValue167
  t63 := Tryz.underlying178
  a63 := Tryz.isAgg178
  z63 := Tryz.sizeOf178
  v63 := Tryz.zeroValue178
  t64 := Tryz.underlying179
  a64 := Tryz.isAgg179
  z64 := Tryz.sizeOf179
  v64 := Tryz.zeroValue179 }
def Tryz.sortF45_ren : Go.Shelf.Ren := ⟨fun | 6 => 45 | 15 => 88 | 14 => 87 | 28 => 136 | 29 => 137 | 20 => 128 | 21 => 129 | 22 => 130 | 23 => 131 | 24 => 132 | 25 => 133 | 26 => 134 | 27 => 135 | 46 => 160 | 47 => 161 | 48 => 162 | 49 => 163 | 50 => 164 | 57 => 176 | n => n, fun | 22 => 25 | 24 => 36 | 25 => 78 | 3 => 3 | 39 => 109 | 0 => 0 | 53 => 152 | 55 => 37 | 4 => 4 | 46 => 145 | 45 => 144 | 50 => 149 | 5 => 5 | 9 => 9 | 66 => 163 | 70 => 167 | 76 => 178 | 77 => 179 | n => n, fun | n => n⟩
theorem Tryz.sortF45 : Go.Proofs.SlLaysF0.n6 Tryz.prog Tryz.sortF45_ren := {
  mixed := by kernel_rfl
  f6 := ⟨Tryz.f45.name, by decide, Tryz.func45.trans (congrArg some (by kernel_rfl))⟩
  f14 := ⟨Tryz.f87.name, by decide, Tryz.func87.trans (congrArg some (by kernel_rfl))⟩
  f15 := Tryz.func88.trans (congrArg some (by kernel_rfl))
  f20 := ⟨Tryz.f128.name, by decide, Tryz.func128.trans (congrArg some (by kernel_rfl))⟩
  f21 := ⟨Tryz.f129.name, by decide, Tryz.func129.trans (congrArg some (by kernel_rfl))⟩
  f22 := ⟨Tryz.f130.name, by decide, Tryz.func130.trans (congrArg some (by kernel_rfl))⟩
  f23 := ⟨Tryz.f131.name, by decide, Tryz.func131.trans (congrArg some (by kernel_rfl))⟩
  f24 := ⟨Tryz.f132.name, by decide, Tryz.func132.trans (congrArg some (by kernel_rfl))⟩
  f25 := ⟨Tryz.f133.name, by decide, Tryz.func133.trans (congrArg some (by kernel_rfl))⟩
  f26 := ⟨Tryz.f134.name, by decide, Tryz.func134.trans (congrArg some (by kernel_rfl))⟩
  f27 := ⟨Tryz.f135.name, by decide, Tryz.func135.trans (congrArg some (by kernel_rfl))⟩
  f28 := Tryz.func136.trans (congrArg some (by kernel_rfl))
  f29 := Tryz.func137.trans (congrArg some (by kernel_rfl))
  f46 := ⟨Tryz.f160.name, by decide, Tryz.func160.trans (congrArg some (by kernel_rfl))⟩
  f47 := Tryz.func161.trans (congrArg some (by kernel_rfl))
  f48 := Tryz.func162.trans (congrArg some (by kernel_rfl))
  f49 := ⟨Tryz.f163.name, by decide, Tryz.func163.trans (congrArg some (by kernel_rfl))⟩
  f50 := ⟨Tryz.f164.name, by decide, Tryz.func164.trans (congrArg some (by kernel_rfl))⟩
  f57 := ⟨Tryz.f176.name, by decide, Tryz.func176.trans (congrArg some (by kernel_rfl))⟩
  t0 := Tryz.underlying0
  a0 := Tryz.isAgg0
  z0 := Tryz.sizeOf0
  v0 := Tryz.zeroValue0
  t3 := Tryz.underlying3
  a3 := Tryz.isAgg3
  z3 := Tryz.sizeOf3
  v3 := Tryz.zeroValue3
  t4 := Tryz.underlying4
  a4 := Tryz.isAgg4
  z4 := Tryz.sizeOf4
  v4 := Tryz.zeroValue4
  t5 := Tryz.underlying5
  a5 := Tryz.isAgg5
  z5 := Tryz.sizeOf5
  v5 := Tryz.zeroValue5
  t9 := Tryz.underlying9
  a9 := Tryz.isAgg9
  z9 := Tryz.sizeOf9
  v9 := Tryz.zeroValue9
  t22 := Tryz.underlying25
  a22 := Tryz.isAgg25
  z22 := Tryz.sizeOf25
  v22 := Tryz.zeroValue25
  t25 := Tryz.underlying78
  a25 := Tryz.isAgg78
  z25 := Tryz.sizeOf78
  v25 := Tryz.zeroValue78
  t39 := Tryz.underlying109
  a39 := Tryz.isAgg109
  z39 := Tryz.sizeOf109
  v39 := Tryz.zeroValue109
  t45 := Tryz.underlying144
  a45 := Tryz.isAgg144
  z45 := Tryz.sizeOf144
  v45 := Tryz.zeroValue144
  t46 := Tryz.underlying145
  a46 := Tryz.isAgg145
  z46 := Tryz.sizeOf145
  v46 := Tryz.zeroValue145
  t50 := Tryz.underlying149
  a50 := Tryz.isAgg149
  z50 := Tryz.sizeOf149
  v50 := Tryz.zeroValue149
  t53 := Tryz.underlying152
  a53 := Tryz.isAgg152
  z53 := Tryz.sizeOf152
  v53 := Tryz.zeroValue152
  t55 := Tryz.underlying37
  a55 := Tryz.isAgg37
  z55 := Tryz.sizeOf37
  v55 := Tryz.zeroValue37
  t66 := Tryz.underlying163
  a66 := Tryz.isAgg163
  z66 := Tryz.sizeOf163
  v66 := Tryz.zeroValue163
  t70 := Tryz.underlying167
  a70 := Tryz.isAgg167
  z70 := Tryz.sizeOf167
  v70 := Tryz.zeroValue167
  t76 := Tryz.underlying178
  a76 := Tryz.isAgg178
  z76 := Tryz.sizeOf178
  v76 := Tryz.zeroValue178
  t77 := Tryz.underlying179
  a77 := Tryz.isAgg179
  z77 := Tryz.sizeOf179
  v77 := Tryz.zeroValue179 }
def Tryz.idxQ98_ren : Go.Shelf.Ren := ⟨fun | 6 => 98 | n => n, fun | 22 => 25 | 23 => 36 | 25 => 115 | 3 => 3 | 0 => 0 | 4 => 4 | n => n, fun | n => n⟩
theorem Tryz.idxQ98 : Go.Proofs.SlLaysH0.n6 Tryz.prog Tryz.idxQ98_ren := {
  mixed := by kernel_rfl
  f6 := ⟨Tryz.f98.name, by decide, Tryz.func98.trans (congrArg some (by kernel_rfl))⟩
  t0 := Tryz.underlying0
  a0 := Tryz.isAgg0
  z0 := Tryz.sizeOf0
  v0 := Tryz.zeroValue0
  t3 := Tryz.underlying3
  a3 := Tryz.isAgg3
  z3 := Tryz.sizeOf3
  v3 := Tryz.zeroValue3
  t4 := Tryz.underlying4
  a4 := Tryz.isAgg4
  z4 := Tryz.sizeOf4
  v4 := Tryz.zeroValue4
  t22 := Tryz.underlying25
  a22 := Tryz.isAgg25
  z22 := Tryz.sizeOf25
  v22 := Tryz.zeroValue25
  t25 := Tryz.underlying115
  a25 := Tryz.isAgg115
  z25 := Tryz.sizeOf115
  v25 := Tryz.zeroValue115 }
def Tryz.idxE120_ren : Go.Shelf.Ren := ⟨fun | 6 => 120 | n => n, fun | 22 => 70 | 23 => 31 | 25 => 131 | 3 => 3 | 0 => 0 | 4 => 4 | n => n, fun | n => n⟩
theorem Tryz.idxE120 : Go.Proofs.SlLaysH.n6 Tryz.prog Tryz.idxE120_ren := {
  mixed := by kernel_rfl
  f6 := ⟨Tryz.f120.name, by decide, Tryz.func120.trans (congrArg some (by kernel_rfl))⟩
  t0 := Tryz.underlying0
  a0 := Tryz.isAgg0
  z0 := Tryz.sizeOf0
  v0 := Tryz.zeroValue0
  t3 := Tryz.underlying3
  a3 := Tryz.isAgg3
  z3 := Tryz.sizeOf3
  v3 := Tryz.zeroValue3
  t4 := Tryz.underlying4
  a4 := Tryz.isAgg4
  z4 := Tryz.sizeOf4
  v4 := Tryz.zeroValue4
  t22 := Tryz.underlying70
  a22 := Tryz.isAgg70
  z22 := Tryz.sizeOf70
  v22 := Tryz.zeroValue70
  a23 := Tryz.isAgg31
  z23 := Tryz.sizeOf31
  t25 := Tryz.underlying131
  a25 := Tryz.isAgg131
  z25 := Tryz.sizeOf131
  v25 := Tryz.zeroValue131 }
def Tryz.cloneE79_ren : Go.Shelf.Ren := ⟨fun | 41 => 79 | n => n, fun | 22 => 70 | 23 => 31 | 4 => 4 | n => n, fun | n => n⟩
theorem Tryz.cloneE79 : Go.Proofs.SlLaysE0.n41 Tryz.prog Tryz.cloneE79_ren := {
  mixed := by kernel_rfl
  f41 := ⟨Tryz.f79.name, by decide, Tryz.func79.trans (congrArg some (by kernel_rfl))⟩
  t4 := Tryz.underlying4
  a4 := Tryz.isAgg4
  z4 := Tryz.sizeOf4
  v4 := Tryz.zeroValue4
  t22 := Tryz.underlying70
  a22 := Tryz.isAgg70
  z22 := Tryz.sizeOf70
  v22 := Tryz.zeroValue70 }
end Go.Proofs

/- Walks of package poset: upward, checkSupers. -/
namespace Go.Proofs.YtdeamdpoegdmdaaGreatDoor
open Go.RowKit Go.Maps

/-- Block b is a map that leads from each of some names to a list, and from others to none. -/
def Links (w : World) (b n : Nat) (N : List Str) (f : Str → List Str) : Prop :=
  ∃ M, w.ownsMap Tryz.prog 9 raw b n M ∧ (∀ x, mhas M x = inS N x) ∧ ∀ x, ∃ a c, mget M x (.slice none 0 0) = .slice a (f x).length c ∧ IsStrs w a (f x).length c (f x)
theorem Links.below {w w' : World} {b n : Nat} {N : List Str} {f : Str → List Str} (h : Links w b n N f) (hb : Below w.heap.size w w') : Links w' b n N f := by
  obtain ⟨M, h1, h2, h3⟩ := h
  refine ⟨M, map_below h1 hb, h2, fun x => ?_⟩
  obtain ⟨a, c, e, hi⟩ := h3 x
  exact ⟨a, c, e, hi.below hb⟩
theorem Links.lt {w : World} {b n : Nat} {N : List Str} {f : Str → List Str} (h : Links w b n N f) : b < w.heap.size := by
  obtain ⟨M, h1, _⟩ := h; exact h1.lt
/-- The same, where the lists lie in another world. -/
def LinksIn (w0 w : World) (b n : Nat) (N : List Str) (f : Str → List Str) : Prop :=
  ∃ M, w.ownsMap Tryz.prog 9 raw b n M ∧ (∀ x, mhas M x = inS N x) ∧ ∀ x, ∃ a c, mget M x (.slice none 0 0) = .slice a (f x).length c ∧ IsStrs w0 a (f x).length c (f x)
theorem LinksIn.out {w0 w : World} {b n : Nat} {N : List Str} {f : Str → List Str} (h : LinksIn w0 w b n N f) (hb : Below w0.heap.size w0 w) : Links w b n N f := by
  obtain ⟨M, h1, h2, h3⟩ := h
  refine ⟨M, h1, h2, fun x => ?_⟩
  obtain ⟨a, c, e, hi⟩ := h3 x
  exact ⟨a, c, e, hi.below hb⟩
/-- The call returns such a map, which is its own. -/
def RetM (n : Nat) (N : List Str) (f : Str → List Str) (w : World) (e : Ending) (w' : World) : Prop :=
  ∃ b, e = .returned (.map (some b)) ∧ w.heap.size ≤ b ∧ Links w' b n N f ∧ Below w.heap.size w w'
theorem up_succ {D : List Dec} (hn : (nms D).Nodup) {k : Nat} (hk : k < D.length) (x : Str) : up (D.take (k + 1)) x = if x = (dc D k).name then (dc D k).sup else up (D.take k) x := by
  have hnot : (dc D k).name ∉ nms (D.take k) := by
    rw [nms_take]
    have h2 := nms_succ hk
    have : ((nms D).take (k + 1)).Nodup := hn.sublist (List.take_sublist _ _)
    rw [h2, List.nodup_append] at this
    exact fun hm => this.2.2 _ hm _ (by simp) rfl
  unfold up fnd
  rw [take_dc hk, List.find?_append]
  by_cases e : x = (dc D k).name
  · rw [if_pos e]
    have h1 : (D.take k).find? (fun d => d.name == x) = none := by
      rw [List.find?_eq_none]
      intro d hd hx
      have : d.name = x := by simpa using hx
      exact hnot (by rw [← e, ← this]; exact List.mem_map.2 ⟨d, hd, rfl⟩)
    have h2 : [dc D k].find? (fun d => d.name == x) = some (dc D k) := by simp [e]
    rw [h1, h2]; rfl
  · rw [if_neg e]
    have h2 : [dc D k].find? (fun d => d.name == x) = none := by
      rw [List.find?_eq_none]
      intro d hd hx
      simp at hd
      rw [hd] at hx
      exact e (by simpa using hx : (dc D k).name = x).symm
    rw [h2, Option.or_none]
theorem up_zero (D : List Dec) (x : Str) : up (D.take 0) x = [] := by rw [List.take_zero]; rfl

set_option maxRecDepth 100000 in
set_option maxHeartbeats 1600000 in
theorem upward_any (w : World) (a : Option Addr) (n cap : Nat) (D : List Dec) (h : IsDecs w a n cap D) (hnd : (nms D).Nodup) (hn : n ≤ 256) :
    Calls Tryz.prog 71 #[.slice a n cap] w (RetM n (nms D) (up D) w) := by
  have hm := h.maxLe
  have hc := h.capLe
  unfold maxLen at hm
  have HL := Lib.hid h.len
  have H := Lib.hid h
  have HND := Lib.hid hnd
  clear h hnd
  have hmm := fun x w => run_makeMapN Tryz.underlying92 x w
  go_enter Tryz.func71, Tryz.ntmps71
  go_wp2
  clear hmm
  go_loopw [11] (fun v wr => ∃ (k : Nat), k ≤ n ∧ v = .int .i64 k ∧ Hid (LinksIn w wr w.heap.size k ((nms D).take k) (up (D.take k))) ∧ Below w.heap.size w wr) (fun v _ => n - (intOf v).toNat)
  case atStart => exact ⟨0, Nat.zero_le _, rfl, ⟨.map [], World.ownsMap_made _ _ _ _, fun x => rfl, fun x => ⟨none, 0, by rw [up_zero]; rfl, by rw [up_zero]; exact IsStrs.nil _⟩⟩, (Below.refl _ _).alloc (Nat.le_refl _) _⟩
  case round =>
    obtain ⟨k, hk, rfl, hlk, hb⟩ := hrel
    obtain ⟨wo, hwo⟩ : ∃ wo : World, wo = wr := ⟨_, rfl⟩
    subst hwo
    by_cases hlt : k < n
    · obtain ⟨b, off, rfl, hbl, hx⟩ := H.out.at_ (by omega)
      obtain ⟨sa, sc', fa, fc, hd0⟩ := hx k hlt
      have hd := hd0.below hbl hb
      have c0 := hd.c0
      have c1 := hd.c1
      have c2 := hd.c2
      have SS := Lib.hid hd0.ss
      have HNL := Lib.hid hd.nl
      have HTK := Lib.hid (nms_succ (D := D) (k := k) (by rw [HL.out]; exact hlt))
      have HUP := Lib.hid (fun x => up_succ HND.out (k := k) (by rw [HL.out]; exact hlt) x)
      obtain ⟨M, hown, hhas, hget⟩ := hlk.out
      have HO1 := Lib.hid (fun o => hown.alloc o)
      have HHAS := Lib.hid hhas
      have HGET := Lib.hid hget
      have HIM := Lib.hid (owns_isMap hown)
      obtain ⟨x, hx'⟩ : ∃ x, (dc D k).name = x := ⟨_, rfl⟩
      rw [hx'] at c0 HNL HTK HUP
      obtain ⟨l, hl⟩ : ∃ z, (dc D k).sup = z := ⟨_, rfl⟩
      rw [hl] at c1 SS HUP
      obtain ⟨sl, hsl⟩ : ∃ z, l.length = z := ⟨_, rfl⟩
      rw [hsl] at c1 SS
      have HSL := Lib.hid hsl
      obtain ⟨nf, hnf⟩ : ∃ z, (dc D k).nf = z := ⟨_, rfl⟩
      rw [hnf] at c2
      clear hx hd hd0 hx' hl hsl hnf hown hhas hget
      go_wp2_with (at_mapUpdate; refine wpList_update_raw rfl _ _ _ 92 rfl 49 Tryz.underlying92 w.heap.size k M rfl (HO1.out _) (by omega) x (.slice sa sl sc') rfl rfl HNL.out ?_; intro w2 hown2 hgrow2; have HO2 := Lib.hid hown2; have HB2 := Lib.hid ((hb.alloc hb.size _).grown hgrow2 (by have := hb.size; simp; omega) (fun j e => by cases e; exact Nat.le_refl _)); have HG2 := Lib.hid hgrow2; clear hown2 hgrow2)
      go_roundw
      case rel =>
        refine ⟨k + 1, by omega, by go_num, ⟨mput M x (.slice sa sl sc'), HO2.out, fun y => by rw [mhas_put HIM.out, HHAS.out, HTK.out, inS_snoc], fun y => ?_⟩, HB2.out⟩
        rw [HUP.out y, mget_put HIM.out]
        by_cases e : y = x
        · rw [if_pos e, if_pos e]
          exact ⟨sa, sc', by rw [HSL.out], by rw [HSL.out]; exact SS.out⟩
        · rw [if_neg e, if_neg e]
          exact HGET.out y
      case measure => simp [intOf]; omega
    · obtain rfl : n = k := by omega
      rw [List.take_of_length_le (by rw [nms_len, HL.out]; exact Nat.le_refl _), List.take_of_length_le (by rw [HL.out]; exact Nat.le_refl _)] at hlk
      go_wp2
      go_ret
      exact ⟨w.heap.size, rfl, Nat.le_refl _, LinksIn.out hlk.out hb, hb⟩

theorem keepS {w : World} {a : Option Addr} {n cap : Nat} {zs : List Str} (h : IsStrs w a n cap zs) (j : Nat) (hj : j < n) : ∃ b off, a = some ⟨b, off, none⟩ ∧ b < w.heap.size ∧ w.cell? ⟨b, off + j, none⟩ = some (.string (mk (st zs j))) := by
  obtain ⟨b, off, e, hbl, hx⟩ := h.at_ (by omega)
  exact ⟨b, off, e, hbl, hx j hj⟩
/-- slices.Contains at a slice of strings. -/
theorem Contains_any (w : World) (a : Option Addr) (n cap : Nat) (zs : List Str) (s : Str) (h : IsStrs w a n cap zs) (hn : n ≤ 100000) :
    Calls Tryz.prog 146 #[.slice a n cap, .string (mk s)] w fun e w' => e = .returned (.bool (inS zs s)) ∧ w' = w := by
  have hl := h.len
  by_cases h0 : n = 0
  · subst h0
    have hz : zs = [] := List.eq_nil_of_length_eq_zero hl
    subst hz
    exact (Tryz.slices_Contains_string_empty a cap (mk s) w).mono fun e w' hh => ⟨by rw [hh.1]; rfl, hh.2⟩
  · obtain ⟨b, off, rfl, hbl, hx⟩ := h.at_ (by omega)
    refine (Tryz.slices_Contains_string b off n cap (zs.map mk) (mk s) w (by simp [hl]) (by omega) (fun j hj => ?_)).mono fun e w' hh => ⟨?_, hh.2⟩
    · have hj : j < n := by simpa [hl] using hj
      rw [hx j hj]
      simp [st, List.getD_eq_getElem?_getD, List.getElem?_eq_getElem (show j < zs.length by omega)]
    · rw [hh.1]
      congr 2
      rw [Bool.eq_iff_iff, Lib.containsS_iff, inS_iff, List.take_of_length_le (by simp [hl]), List.mem_map]
      constructor
      · rintro ⟨x, hx, he⟩
        rw [← mk_inj he]; exact hx
      · intro hx
        exact ⟨s, hx, rfl⟩

set_option maxRecDepth 100000 in
set_option maxHeartbeats 3200000 in
theorem checkSupers_any (w : World) (a : Option Addr) (n cap : Nat) (D : List Dec) (h : IsDecs w a n cap D) (hnd : (nms D).Nodup) (hn : n ≤ 256) (hsz : ∀ i, i < n → (dc D i).sup.length ≤ 256) :
    Calls Tryz.prog 111 #[.slice a n cap] w fun e w' => e = .returned (.int .i64 ((suE (nms D) D : Nat) : Int)) ∧ Below w.heap.size w w' := by
  have hm := h.maxLe
  have hc := h.capLe
  have hl := h.len
  unfold maxLen at hm
  have UP := Lib.hid (upward_any w a n cap D h hnd hn)
  have H := Lib.hid h
  have HL := Lib.hid hl
  have HSZ := Lib.hid hsz
  clear h hl hnd hsz
  go_enter Tryz.func111, Tryz.ntmps111
  go_wp2_with (go_at_call 71; (with_reducible refine UP.out.mono ?_); rintro e w1 ⟨mb, rfl, hmb, hlk, hb1⟩; have LK := Lib.hid hlk; have HB1 := Lib.hid hb1; clear hlk hb1)
  go_loopw [14] (fun v wr => ∃ k : Nat, k ≤ n ∧ v = .int .i64 k ∧ Hid (∀ i, i < k → spE (nms D) [] (dc D i).sup = 0) ∧ Below w1.heap.size w1 wr) (fun v _ => n - (intOf v).toNat)
  case atStart => exact ⟨0, Nat.zero_le _, rfl, fun i hi => absurd hi (Nat.not_lt_zero _), Below.refl _ _⟩
  case round =>
    obtain ⟨k, hk, rfl, hall, hb⟩ := hrel
    obtain ⟨wo, hwo⟩ : ∃ wo : World, wo = wr := ⟨_, rfl⟩
    subst hwo
    have hz1 := HB1.out.size
    have hzo := hb.size
    by_cases hlt : k < n
    · obtain ⟨b, off, rfl, hbl, hx⟩ := H.out.at_ (by omega)
      obtain ⟨sa, sc', fa, fc, hd0⟩ := hx k hlt
      have hd := hd0.below hbl (HB1.out.trans (hb.mono hz1))
      have c0 := hd.c0
      have c1 := hd.c1
      have c2 := hd.c2
      have hs1 := hd.ss.capLe
      have hs2 := hd.ss.maxLe
      have SS := Lib.hid hd.ss
      unfold maxLen at hs2
      have hsl0 := HSZ.out k hlt
      have SUE := Lib.hid (suE_at (N := nms D) (D := D) (k := k) hall.out (by rw [HL.out]; exact hlt))
      obtain ⟨nm, hnm⟩ : ∃ z, (dc D k).name = z := ⟨_, rfl⟩
      rw [hnm] at c0
      obtain ⟨nf, hnf⟩ : ∃ z, (dc D k).nf = z := ⟨_, rfl⟩
      rw [hnf] at c2
      obtain ⟨l, hl⟩ : ∃ l, (dc D k).sup = l := ⟨_, rfl⟩
      rw [hl] at c1 hs1 SS SUE hsl0
      have HSL := Lib.hid hl
      obtain ⟨sl, hsl⟩ : ∃ m, l.length = m := ⟨_, rfl⟩
      rw [hsl] at c1 hs1 SS hsl0
      have HLL := Lib.hid hsl
      obtain ⟨wt, hwt⟩ : ∃ wt : World, wt = wo.alloc (.cells #[.string (mk nm), .slice sa sl sc', .slice fa nf fc] 53) := ⟨_, rfl⟩
      have HBT : Hid (Below wo.heap.size wo wt) := hwt ▸ (Below.refl _ _).alloc (Nat.le_refl _) _
      have hzt : wo.heap.size + 1 = wt.heap.size := by rw [hwt]; simp
      have t1 : wt.cell? ⟨wo.heap.size, 1, none⟩ = some (.slice sa sl sc') := by rw [hwt, World.cell?_alloc_new]; rfl
      have HWT := Lib.hid hwt
      clear hx hd hd0 hnm hnf hl hsl hwt
      go_wp2
      rw [← HWT.out]
      go_loopw [21] (fun v wi => ∃ j : Nat, j ≤ sl ∧ v = .int .i64 j ∧ Hid (∀ i, i < j → st l i ∈ nms D ∧ st l i ∉ l.take i) ∧ Below wt.heap.size wt wi) (fun v _ => sl - (intOf v).toNat)
      case atStart => exact ⟨0, Nat.zero_le _, rfl, fun i hi => absurd hi (Nat.not_lt_zero _), Below.refl _ _⟩
      case round =>
        obtain ⟨j, hj, rfl, hin, hbi⟩ := hrel
        obtain ⟨wi, hwi⟩ : ∃ wi : World, wi = wr := ⟨_, rfl⟩
        subst hwi
        have hb0 : Below wo.heap.size wo wi := HBT.out.trans (hbi.mono (by omega))
        have hbw : Below w1.heap.size w1 wi := hb.trans (hb0.mono hzo)
        have HBW := Lib.hid hbw
        have HB0 := Lib.hid hb0
        clear hbw hb0
        by_cases hjl : j < sl
        · obtain ⟨b2, off2, rfl, hbl2, hx2⟩ := (SS.out.below HB0.out).at_ (by omega)
          have d0 := hx2 j hjl
          have t2 : wi.cell? ⟨wo.heap.size, 1, none⟩ = some (.slice (some ⟨b2, off2, none⟩) sl sc') := (hbi.cell (p := ⟨wo.heap.size, 1, none⟩) (by show wo.heap.size < _; omega)).trans t1
          have hin2 := hin.out
          have SPE := Lib.hid (spE_at (N := nms D) (l := l) (k := j) hin2 (by rw [HLL.out]; exact hjl))
          have CO := Lib.hid (Contains_any wi _ j sc' (l.take j) (st l j) ((SS.out.below HB0.out).take (by omega)) (by omega))
          obtain ⟨M, hown, hhas, hget⟩ := LK.out.below HBW.out
          have HO := Lib.hid hown
          have HHAS := Lib.hid (hhas (st l j))
          have HXL := Lib.hid (SS.out.small _ (st_mem (zs := l) (i := j) (by rw [HLL.out]; exact hjl)))
          obtain ⟨x, hx'⟩ : ∃ x, st l j = x := ⟨_, rfl⟩
          rw [hx'] at d0 SPE CO HHAS HXL
          have HX := Lib.hid hx'
          clear hx2 hx' hown hhas hget
          obtain ⟨p, hp⟩ : ∃ p, inS (nms D) x = p := ⟨_, rfl⟩
          rw [hp] at HHAS
          cases p
          · have hr5 : Hid (spE (nms D) [] l = 5) := SPE.out.1 (inS_not.1 hp)
            have hr : Hid (suE (nms D) D = 5) := by show _ = _; rw [SUE.out (by rw [hr5.out]; decide), hr5.out]
            clear hin hin2 hp
            go_wp2_with (at_lookup; refine wpList_lookup_raw_ok rfl _ _ 92 rfl 49 Tryz.underlying92 (zeroL _) mb n M rfl HO.out x rfl HXL.out ?_; rw [HHAS.out])
            go_ret
            exact ⟨by rw [hr.out]; rfl, HB1.out.trans (HBW.out.mono hz1)⟩
          · have HXN := Lib.hid (inS_iff.1 hp)
            obtain ⟨q, hq⟩ : ∃ q, inS (l.take j) x = q := ⟨_, rfl⟩
            rw [hq] at CO
            cases q
            · have hin' : Hid (∀ i, i < j + 1 → st l i ∈ nms D ∧ st l i ∉ l.take i) := fun i hi => by
                rcases Nat.lt_succ_iff_lt_or_eq.1 hi with e | e
                · exact hin2 i e
                · rw [e, HX.out]; exact ⟨HXN.out, inS_not.1 hq⟩
              clear hin hin2 hp hq
              go_wp2_with (first
                | (at_lookup; refine wpList_lookup_raw_ok rfl _ _ 92 rfl 49 Tryz.underlying92 (zeroL _) mb n M rfl HO.out x rfl HXL.out ?_; rw [HHAS.out])
                | (go_at_call 146; refine (CO.out).mono ?_; rintro e w' ⟨rfl, rfl⟩))
              go_roundw
              case rel => exact ⟨j + 1, by omega, by go_num, hin', hbi⟩
              case measure => simp [intOf]; omega
            · have hr4 : Hid (spE (nms D) [] l = 4) := SPE.out.2 HXN.out (inS_iff.1 hq)
              have hr : Hid (suE (nms D) D = 4) := by show _ = _; rw [SUE.out (by rw [hr4.out]; decide), hr4.out]
              clear hin hin2 hp hq
              go_wp2_with (first
                | (at_lookup; refine wpList_lookup_raw_ok rfl _ _ 92 rfl 49 Tryz.underlying92 (zeroL _) mb n M rfl HO.out x rfl HXL.out ?_; rw [HHAS.out])
                | (go_at_call 146; refine (CO.out).mono ?_; rintro e w' ⟨rfl, rfl⟩))
              go_ret
              exact ⟨by rw [hr.out]; rfl, HB1.out.trans (HBW.out.mono hz1)⟩
        · obtain rfl : j = sl := by omega
          have hall' : Hid (∀ i, i < k + 1 → spE (nms D) [] (dc D i).sup = 0) := fun i hi => by
            rcases Nat.lt_succ_iff_lt_or_eq.1 hi with e | e
            · exact hall.out i e
            · rw [e, HSL.out]; exact spE_end (fun i hi => hin.out i (by rw [HLL.out] at hi; exact hi))
          clear hin hall
          go_wp2
          go_roundw
          case rel => exact ⟨k + 1, by omega, by go_num, hall', HBW.out⟩
          case measure => simp [intOf]; omega
    · obtain rfl : n = k := by omega
      have hr : Hid (suE (nms D) D = 0) := suE_end (fun i hi => hall.out i (by rw [HL.out] at hi; exact hi))
      clear hall
      go_wp2
      go_ret
      exact ⟨by rw [hr.out]; rfl, HB1.out.trans (hb.mono hz1)⟩
end Go.Proofs.YtdeamdpoegdmdaaGreatDoor

/- Walks of package poset: downward. -/
namespace Go.Proofs.YtdeamdpoegdmdaaGreatDoor
open Go.RowKit Go.Maps

/-- The bound of a map is the number of its keys. -/
theorem map_tight {w : World} {b n : Nat} {M : DataW Value} (h : w.ownsMap Tryz.prog 9 raw b n M) : w.ownsMap Tryz.prog 9 raw b (Maps.size M) M := by
  obtain ⟨es, clock, hb, F, hs, rfl⟩ := h
  refine ⟨es, clock, hb, F, ?_, rfl⟩
  rw [size_eq, length_sorted]; simp
theorem map_size {w : World} {b n : Nat} {M : DataW Value} (h : w.ownsMap Tryz.prog 9 raw b n M) : Maps.size M ≤ n := h.size_le
theorem map_again {w w' : World} {b n : Nat} {M : DataW Value} {x : Str} {v : Value} (h : w.ownsMap Tryz.prog 9 raw b n M) (hx : mhas M x = true) {n' : Nat} (h' : w'.ownsMap Tryz.prog 9 raw b n' (mput M x v)) : w'.ownsMap Tryz.prog 9 raw b n (mput M x v) := by
  refine (map_tight h').mono ?_
  unfold mput
  rw [size_put (h.tidy lawS)]
  have hx2 : Maps.has M (.string x) = true := hx
  rw [if_pos hx2]
  exact h.size_le

/-- A map whose lists lie in rows of the call's own, each in its own. -/
structure OwnsM (w : World) (B mb n : Nat) (N : List Str) (f : Str → List Str) (M : DataW Value) : Prop where
  map : w.ownsMap Tryz.prog 9 raw mb n M
  has : ∀ x, mhas M x = inS N x
  row : ∀ x, w.ownsRow B 9 1 (mget M x (.slice none 0 0)) (f x).length (svals (f x))
  apart : ∀ x y g, x ≠ y → (mget M x (.slice none 0 0)).ownBlock = some g → (mget M y (.slice none 0 0)).ownBlock ≠ some g
theorem OwnsM.alloc {w : World} {B mb n : Nat} {N : List Str} {f : Str → List Str} {M : DataW Value} (h : OwnsM w B mb n N f M) (o : Obj) : OwnsM (w.alloc o) B mb n N f M :=
  ⟨h.map.alloc o, h.has, fun x => (h.row x).alloc o, h.apart⟩
/-- One list grows by append. -/
theorem OwnsM.step {w w3 w4 : World} {B mb n n' : Nat} {N : List Str} {f f' : Str → List Str} {M : DataW Value} (hB : mb < B) (h : OwnsM w B mb n N f M) {x : Str} (hx : mhas M x = true) {v' : Value} {zs : List Str}
    (hrow : w3.ownsRow B 9 1 v' zs.length (svals zs)) (hg3 : w.grownBy w3 (mget M x (.slice none 0 0)).ownBlock) (hloc : v'.ownBlock = (mget M x (.slice none 0 0)).ownBlock ∨ v'.ownBlock = some w.heap.size)
    (hm4 : w4.ownsMap Tryz.prog 9 raw mb n' (mput M x v')) (hg4 : w3.grownBy w4 (some mb)) (hf : ∀ y, f' y = if y = x then zs else f y) : OwnsM w4 B mb n N f' (mput M x v') := by
  have him := owns_isMap h.map
  have hlt := fun y => (h.row y).lt
  have hne4 : ∀ {u : Value} {k : Nat} {l : List Value} {W : World}, W.ownsRow B 9 1 u k l → u.ownBlock = none ∨ u.ownBlock ≠ some mb := fun {u k l W} hr => by
    cases e : u.ownBlock with
    | none => exact .inl rfl
    | some g =>
      refine .inr fun e2 => ?_
      have := (hr.lt g e).1
      cases e2; omega
  refine ⟨map_again h.map hx hm4, fun y => ?_, fun y => ?_, fun y z g hyz hy => ?_⟩
  · rw [mhas_put him, h.has]
    by_cases e : y = x
    · rw [e]
      have : inS N x = true := by rw [← h.has]; exact hx
      rw [this]; simp
    · have : (y == x) = false := by simpa using e
      rw [this]; rfl
  · rw [mget_put him, hf]
    by_cases e : y = x
    · rw [if_pos e, if_pos e]
      exact hrow.kept hg4 (hne4 hrow)
    · rw [if_neg e, if_neg e]
      have hr := h.row y
      have h3 : w3.ownsRow B 9 1 (mget M y (.slice none 0 0)) (f y).length (svals (f y)) := hr.kept hg3 (by
        cases e2 : (mget M y (.slice none 0 0)).ownBlock with
        | none => exact .inl rfl
        | some g => exact .inr fun e3 => h.apart y x g e e2 e3.symm)
      exact h3.kept hg4 (hne4 h3)
  · rw [mget_put him] at hy ⊢
    by_cases ey : y = x
    · rw [if_pos ey] at hy
      have hzx : ¬ z = x := fun e => hyz (by rw [ey, e])
      rw [if_neg hzx]
      rcases hloc with e | e
      · rw [e] at hy
        exact h.apart x z g (fun e2 => hzx e2.symm) hy
      · rw [e] at hy
        cases hy
        intro hz
        have := (hlt z _ hz).2
        omega
    · rw [if_neg ey] at hy
      by_cases ez : z = x
      · rw [if_pos ez]
        rcases hloc with e | e
        · rw [e]
          exact fun e2 => h.apart y x g ey hy e2
        · rw [e]
          intro e2
          cases e2
          have := (hlt y _ hy).2
          omega
      · rw [if_neg ez]
        exact h.apart y z g hyz hy
theorem OwnsM.links {w : World} {B mb n : Nat} {N : List Str} {f : Str → List Str} {M : DataW Value} (h : OwnsM w B mb n N f M) (hs : ∀ x, ∀ z ∈ f x, z.length ≤ maxLen) : Links w mb n N f :=
  ⟨M, h.map, h.has, fun x => by
    obtain ⟨a, c, e, hi⟩ := IsStrs.of_owns (h.row x) (hs x)
    exact ⟨a, c, e, hi⟩⟩

/-- append of one string to a row that the call owns, and where it lies. -/
theorem wpList_append_at {w : World} {ops : Array Oper} {rest : List Oper} {o : Oper} {a : Act} {Q : Exit → Act → World → Prop} (hgd : o.guard = none) (s x : Operand)
    (ho : o.op = .call { callee := .builtin .append, args := #[s, x], argTypes := #[49, 49] })
    (base : Nat) (v : Value) (n : Nat) (zs : List Str) (hs : a.eval s = v) (hown : w.ownsRow base 9 1 v n (svals zs))
    (ad : Addr) (y : Str) (hx : a.eval x = .slice (some ad) 1 1) (hy : w.cell? ad = some (.string (mk y))) (h63 : n + 1 ≤ 1000000) (hbase : base ≤ w.heap.size)
    (h : ∀ v' w', w'.ownsRow base 9 1 v' (n + 1) (svals (zs ++ [y])) → w.grownBy w' v.ownBlock → (v'.ownBlock = v.ownBlock ∨ v'.ownBlock = some w.heap.size) → wpList Tryz.prog ops Q rest (a.put o.dst v') w') : wpList Tryz.prog ops Q (o :: rest) a w := by
  obtain ⟨i0, hi, hz0, hz1, hz2⟩ := info_parts Tryz.infoS
  refine wpList_append_own_at w hgd s x 49 ho base 9 i0 (.string ByteArray.empty) 1 16 Tryz.underlying49 hi hz0 hz1 hz2 rfl (by decide) v n (svals zs) hs hown ad 1 1 [.string (mk y)] hx rfl ?_ ?_ (by unfold maxLen; omega) (by omega) hbase fun v' w' h1 h2 _ h4 => h v' w' (by rw [← svals_snoc]; exact h1) h2 h4
  · intro j u hu
    cases j with
    | zero =>
      cases hu
      have : ad.add 0 = ad := by unfold Addr.add; split <;> simp_all
      rw [this]; exact hy
    | succ j => cases hu
  · intro u hu
    simp at hu
    rw [hu]; rfl

/-- The lists after k declarations and j supertypes of the next one. -/
def dnJ (D : List Dec) (k j : Nat) (x : Str) : List Str := dn (D.take k) x ++ (((dc D k).sup.take j).filter (· == x)).map fun _ => (dc D k).name
theorem dnJ_zero (D : List Dec) (k : Nat) (x : Str) : dnJ D k 0 x = dn (D.take k) x := by unfold dnJ; simp
theorem dnJ_succ {D : List Dec} {k j : Nat} (hj : j < (dc D k).sup.length) (x : Str) : dnJ D k (j + 1) x = if x = st (dc D k).sup j then dnJ D k j (st (dc D k).sup j) ++ [(dc D k).name] else dnJ D k j x := by
  unfold dnJ
  rw [take_st hj, List.filter_append, List.map_append, ← List.append_assoc]
  by_cases h : x = st (dc D k).sup j
  · rw [if_pos h, ← h]
    have : [x].filter (· == x) = [x] := by simp
    rw [this]; rfl
  · rw [if_neg h]
    have : [st (dc D k).sup j].filter (· == x) = [] := by
      rw [List.filter_eq_nil_iff]
      intro y hy
      simp at hy
      rw [hy]
      simpa using fun e => h e.symm
    rw [this]; simp
theorem dnJ_end {D : List Dec} {k : Nat} (hk : k < D.length) (x : Str) : dnJ D k (dc D k).sup.length x = dn (D.take (k + 1)) x := by
  unfold dnJ dn
  rw [take_dc hk, List.flatMap_append, List.take_length]
  simp
theorem dn_small {D : List Dec} (hs : ∀ z ∈ nms D, z.length ≤ maxLen) (x : Str) : ∀ z ∈ dn D x, z.length ≤ maxLen := fun z hz => hs z (dn_mem hz)
theorem dnJ_len (D : List Dec) {k j : Nat} (x : Str) (hs : ∀ i, i < D.length → (dc D i).sup.length ≤ 256) (hk : k < D.length) (hl : D.length ≤ 256) : (dnJ D k j x).length ≤ 65792 := by
  have h1 : ∀ m, m ≤ D.length → (dn (D.take m) x).length ≤ m * 256 := by
    intro m
    induction m with
    | zero => intro _; simp [dn]
    | succ m ih =>
      intro hm
      have h2 : dn (D.take (m + 1)) x = dn (D.take m) x ++ ((dc D m).sup.filter (· == x)).map fun _ => (dc D m).name := by
        unfold dn; rw [take_dc (by omega), List.flatMap_append]; simp
      rw [h2, List.length_append, List.length_map]
      have h3 := List.length_filter_le (· == x) (dc D m).sup
      have h4 := hs m (by omega)
      have h5 := ih (by omega)
      omega
  unfold dnJ
  rw [List.length_append, List.length_map]
  have h2 := h1 k (by omega)
  have h3 := List.length_filter_le (· == x) ((dc D k).sup.take j)
  rw [List.length_take] at h3
  have h4 := hs k hk
  have h5 : k * 256 ≤ 256 * 256 := Nat.mul_le_mul_right _ (by omega)
  omega
end Go.Proofs.YtdeamdpoegdmdaaGreatDoor

/- Walks of package poset: downward, the walk. -/
namespace Go.Proofs.YtdeamdpoegdmdaaGreatDoor
open Go.RowKit Go.Maps

theorem dn_zero (D : List Dec) (x : Str) : dn (D.take 0) x = [] := by rw [List.take_zero]; rfl
theorem mput_nil {M : DataW Value} (h : IsMap M) (hz : ∀ x, mget M x (.slice none 0 0) = .slice none 0 0) (y : Str) : ∀ x, mget (mput M y (.slice none 0 0)) x (.slice none 0 0) = .slice none 0 0 := fun x => by
  rw [mget_put h]
  split
  · rfl
  · exact hz x

set_option maxRecDepth 100000 in
set_option maxHeartbeats 6400000 in
theorem downward_any (w : World) (a : Option Addr) (n cap : Nat) (D : List Dec) (h : IsDecs w a n cap D) (ok : Ok D) (hn : n ≤ 256) (hsz : ∀ i, i < n → (dc D i).sup.length ≤ 256) :
    Calls Tryz.prog 114 #[.slice a n cap] w (RetM n (nms D) (dn D) w) := by
  have hm := h.maxLe
  have hc := h.capLe
  unfold maxLen at hm
  have HL := Lib.hid h.len
  have HS := Lib.hid (nms_small h)
  have H := Lib.hid h
  have OK := Lib.hid ok
  have HSZ := Lib.hid hsz
  clear h ok hsz
  have hmm := fun x w => run_makeMapN Tryz.underlying92 x w
  go_enter Tryz.func114, Tryz.ntmps114
  go_wp2
  clear hmm
  go_loopw [15] (fun v wr => ∃ (k : Nat) (M : DataW Value), k ≤ n ∧ v = .int .i64 k ∧ Hid (wr.ownsMap Tryz.prog 9 raw w.heap.size k M) ∧ Hid (∀ x, mhas M x = inS ((nms D).take k) x) ∧ Hid (∀ x, mget M x (.slice none 0 0) = .slice none 0 0) ∧ Below w.heap.size w wr) (fun v _ => n - (intOf v).toNat)
  case atStart => exact ⟨0, .map [], Nat.zero_le _, rfl, World.ownsMap_made _ _ _ _, fun x => rfl, fun x => rfl, (Below.refl _ _).alloc (Nat.le_refl _) _⟩
  case round =>
    obtain ⟨k, M, hk, rfl, hown, hhas, hget, hb⟩ := hrel
    obtain ⟨wo, hwo⟩ : ∃ wo : World, wo = wr := ⟨_, rfl⟩
    subst hwo
    by_cases hlt : k < n
    · obtain ⟨b, off, rfl, hbl, hx⟩ := H.out.at_ (by omega)
      obtain ⟨sa, sc', fa, fc, hd0⟩ := hx k hlt
      have hd := hd0.below hbl hb
      have c0 := hd.c0
      have c1 := hd.c1
      have c2 := hd.c2
      have HNL := Lib.hid hd.nl
      have HTK := Lib.hid (nms_succ (D := D) (k := k) (by rw [HL.out]; exact hlt))
      have HO1 := Lib.hid (fun o => hown.out.alloc o)
      have HIM := Lib.hid (owns_isMap hown.out)
      obtain ⟨x, hx'⟩ : ∃ x, (dc D k).name = x := ⟨_, rfl⟩
      rw [hx'] at c0 HNL HTK
      obtain ⟨sl, hsl⟩ : ∃ z, (dc D k).sup.length = z := ⟨_, rfl⟩
      rw [hsl] at c1
      obtain ⟨nf, hnf⟩ : ∃ z, (dc D k).nf = z := ⟨_, rfl⟩
      rw [hnf] at c2
      clear hx hd hd0 hx' hsl hnf hown
      go_wp2_with (at_mapUpdate; refine wpList_update_raw rfl _ _ _ 92 rfl 49 Tryz.underlying92 w.heap.size k M rfl (HO1.out _) (by omega) x (.slice none 0 0) rfl rfl HNL.out ?_; intro w2 hown2 hgrow2; have HO2 := Lib.hid hown2; have HB2 := Lib.hid ((hb.alloc hb.size _).grown hgrow2 (by have := hb.size; simp; omega) (fun j e => by cases e; exact Nat.le_refl _)); clear hown2 hgrow2)
      go_roundw
      case rel => exact ⟨k + 1, mput M x (.slice none 0 0), by omega, by go_num, HO2.out, fun y => by rw [mhas_put HIM.out, hhas.out, HTK.out, inS_snoc], mput_nil HIM.out hget.out x, HB2.out⟩
      case measure => simp [intOf]; omega
    · obtain rfl : n = k := by omega
      have hall1 : (nms D).take n = nms D := List.take_of_length_le (by rw [nms_len, HL.out]; exact Nat.le_refl _)
      rw [hall1] at hhas
      have hz1 : w.heap.size < wo.heap.size := hown.out.lt
      have HOM : Hid (OwnsM wo (w.heap.size + 1) w.heap.size n (nms D) (dn (D.take 0)) M) :=
        ⟨hown.out, hhas.out, fun x => by rw [hget.out, dn_zero]; exact World.ownsRow_nil _ _ _ _, fun x y g _ e => by rw [hget.out] at e; cases e⟩
      clear hall1 hown hhas hget hlt hk
      obtain ⟨wf, hwf⟩ : ∃ wf : World, wf = wo := ⟨_, rfl⟩
      have HZ : Hid (w.heap.size < wo.heap.size) := hz1
      clear hz1
      go_wp2
      go_loopw [25] (fun v wr => ∃ (k : Nat) (M : DataW Value), k ≤ n ∧ v = .int .i64 k ∧ Hid (OwnsM wr (w.heap.size + 1) w.heap.size n (nms D) (dn (D.take k)) M) ∧ w.heap.size < wr.heap.size ∧ Below w.heap.size w wr) (fun v _ => n - (intOf v).toNat)
      case atStart => exact ⟨0, M, Nat.zero_le _, rfl, HOM.out, HZ.out, hb⟩
      case round =>
        clear HOM HZ hwf
        obtain ⟨k, M, hk, rfl, HOM, hz, hb⟩ := hrel
        obtain ⟨wo, hwo⟩ : ∃ wo : World, wo = wr := ⟨_, rfl⟩
        subst hwo
        by_cases hlt : k < n
        · obtain ⟨b, off, rfl, hbl, hx⟩ := H.out.at_ (by omega)
          obtain ⟨sa, sc', fa, fc, hd0⟩ := hx k hlt
          have hd := hd0.below hbl hb
          have c0 := hd.c0
          have c1 := hd.c1
          have c2 := hd.c2
          have hs1 := hd.ss.capLe
          have hs2 := hd.ss.maxLe
          have SS := Lib.hid hd0.ss
          unfold maxLen at hs2
          have HDN := Lib.hid (fun j x => dnJ_len D (k := k) (j := j) x (fun i hi => HSZ.out i (by rw [HL.out] at hi; exact hi)) (by rw [HL.out]; exact hlt) (by rw [HL.out]; exact hn))
          have HDC := Lib.hid (fun j (hj : j < (dc D k).sup.length) => OK.out.decl _ (dc_mem (by rw [HL.out]; exact hlt)) _ (st_mem hj))
          have HJS := Lib.hid (fun j (hj : j < (dc D k).sup.length) x => dnJ_succ (D := D) (k := k) hj x)
          have HJE := Lib.hid (fun x => dnJ_end (D := D) (k := k) (by rw [HL.out]; exact hlt) x)
          obtain ⟨nm, hnm⟩ : ∃ z, (dc D k).name = z := ⟨_, rfl⟩
          rw [hnm] at c0 HJS
          obtain ⟨nf, hnf⟩ : ∃ z, (dc D k).nf = z := ⟨_, rfl⟩
          rw [hnf] at c2
          obtain ⟨l, hl⟩ : ∃ l, (dc D k).sup = l := ⟨_, rfl⟩
          rw [hl] at c1 hs1 SS HDC HJS HJE
          obtain ⟨sl, hsl⟩ : ∃ m, l.length = m := ⟨_, rfl⟩
          rw [hsl] at c1 hs1 SS HDC HJS HJE
          have HLL := Lib.hid hsl
          obtain ⟨wt, hwt⟩ : ∃ wt : World, wt = wo.alloc (.cells #[.string (mk nm), .slice sa sl sc', .slice fa nf fc] 53) := ⟨_, rfl⟩
          have hzt : wo.heap.size + 1 = wt.heap.size := by rw [hwt]; simp
          have T0 : Hid (wt.cell? ⟨wo.heap.size, 0, none⟩ = some (.string (mk nm))) := by show _ = _; rw [hwt, World.cell?_alloc_new]; rfl
          have t1 : wt.cell? ⟨wo.heap.size, 1, none⟩ = some (.slice sa sl sc') := by rw [hwt, World.cell?_alloc_new]; rfl
          have HBT : Hid (Below w.heap.size w wt) := hwt ▸ hb.alloc hb.size _
          have HOT : Hid (OwnsM wt (w.heap.size + 1) w.heap.size n (nms D) (dnJ D k 0) M) := by
            have h2 := HOM.out.alloc (.cells #[.string (mk nm), .slice sa sl sc', .slice fa nf fc] 53)
            rw [← hwt] at h2
            exact ⟨h2.map, h2.has, fun x => by rw [dnJ_zero]; exact h2.row x, h2.apart⟩
          have HSH : Hid (∀ x, (mget M x (.slice none 0 0)).ownBlock ≠ some wo.heap.size) := fun x e => by
            have := ((HOM.out.row x).lt _ e).2
            omega
          have HWT := Lib.hid hwt
          clear hx hd hd0 hnm hnf hl hsl hwt HOM
          go_wp2
          rw [← HWT.out]
          go_loopw [32] (fun v wi => ∃ (j : Nat) (M : DataW Value), j ≤ sl ∧ v = .int .i64 j ∧ Hid (OwnsM wi (w.heap.size + 1) w.heap.size n (nms D) (dnJ D k j) M) ∧ Hid (∀ x, (mget M x (.slice none 0 0)).ownBlock ≠ some wo.heap.size) ∧ Hid (wi.cell? ⟨wo.heap.size, 0, none⟩ = some (.string (mk nm))) ∧ wo.heap.size < wi.heap.size ∧ Below w.heap.size w wi) (fun v _ => sl - (intOf v).toNat)
          case atStart => exact ⟨0, M, Nat.zero_le _, rfl, HOT.out, HSH.out, T0.out, by omega, HBT.out⟩
          case round =>
            clear HOT HSH T0
            obtain ⟨j, M, hj, rfl, HOM, HSH, HT, hzi, hbi⟩ := hrel
            obtain ⟨wi, hwi⟩ : ∃ wi : World, wi = wr := ⟨_, rfl⟩
            subst hwi
            by_cases hjl : j < sl
            · obtain ⟨b2, off2, rfl, hbl2, hx2⟩ := SS.out.at_ (by omega)
              have d0 := (hbi.cell (p := ⟨b2, off2 + j, none⟩) hbl2).trans (hx2 j hjl)
              have t0 := HT.out
              have HIN := Lib.hid (HDC.out j hjl)
              have HJ := Lib.hid (HJS.out j hjl)
              have HXL := Lib.hid (SS.out.small _ (st_mem (zs := l) (i := j) (by rw [HLL.out]; exact hjl)))
              have HLE := Lib.hid (HDN.out j (st l j))
              obtain ⟨x, hx'⟩ : ∃ x, st l j = x := ⟨_, rfl⟩
              rw [hx'] at d0 HIN HJ HXL HLE
              obtain ⟨v0, hv0⟩ : ∃ v, mget M x (.slice none 0 0) = v := ⟨_, rfl⟩
              have HV0 := Lib.hid hv0
              have HROW : Hid (wi.ownsRow (w.heap.size + 1) 9 1 v0 (dnJ D k j x).length (svals (dnJ D k j x))) := hv0 ▸ HOM.out.row x
              have HHX : Hid (mhas M x = true) := (HOM.out.has x).trans (inS_iff.2 HIN.out)
              have HMAP := Lib.hid HOM.out.map
              clear hx2 hx' hv0
              have hzw := hbi.size
              go_wp2_with (first
                | (at_lookup; refine wpList_lookup_raw rfl _ _ 92 rfl 49 Tryz.underlying92 (zeroL _) w.heap.size n M rfl HMAP.out x rfl HXL.out ?_; rw [HV0.out])
                | (at_builtin; refine wpList_append_at rfl _ _ rfl (w.heap.size + 1) v0 _ _ rfl (HROW.out.alloc _) ⟨wi.heap.size, 0, none⟩ nm rfl (cell_of_one (heap_alloc_new wi _)) (by have := HLE.out; omega) (by simp; omega) ?_; intro v3 w3 hown3 hgrow3 hloc3; have R3 := Lib.hid hown3; have G3 := Lib.hid hgrow3; have L3 := Lib.hid hloc3; have hz3 := hgrow3.size; clear hown3 hgrow3 hloc3; have HM3 := Lib.hid ((HMAP.out.alloc (.cells #[.string (mk nm)] 9)).kept G3.out (fun e => by have := ((HROW.out).lt _ e.symm).1; omega)))
                | (at_mapUpdate; refine wpList_update_raw rfl _ _ _ 92 rfl 49 Tryz.underlying92 w.heap.size n M rfl HM3.out (by omega) x v3 rfl rfl HXL.out ?_; intro w4 hown4 hgrow4; have HO4 := Lib.hid hown4; have G4 := Lib.hid hgrow4; have hz4 := hgrow4.size; clear hown4 hgrow4))
              go_roundw
              case rel =>
                have hlen : (dnJ D k j x ++ [nm]).length = (dnJ D k j x).length + 1 := by simp
                have hst := (HOM.out.alloc (.cells #[.string (mk nm)] 9)).step (zs := dnJ D k j x ++ [nm]) (f' := dnJ D k (j + 1)) (by omega) HHX.out (by rw [hlen]; exact R3.out) (by rw [HV0.out]; exact G3.out) (by rw [HV0.out]; exact L3.out) HO4.out G4.out (fun y => by rw [HJ.out y])
                have hv0s : v0.ownBlock ≠ some wo.heap.size := by rw [← HV0.out]; exact HSH.out x
                have hv3s : v3.ownBlock ≠ some wo.heap.size := by
                  rcases L3.out with e | e
                  · rw [e]; exact hv0s
                  · rw [e]; intro e2; have e3 := Option.some.inj e2; simp at e3; omega
                have hw3 : Below w.heap.size w w3 := (hbi.alloc hbi.size _).grown G3.out (by simp; omega) (fun g e => by have := (HROW.out.lt g e).1; omega)
                have hc3 : w3.cell? ⟨wo.heap.size, 0, none⟩ = some (.string (mk nm)) := by
                  have : (wi.alloc (.cells #[.string (mk nm)] 9)).cell? ⟨wo.heap.size, 0, none⟩ = some (.string (mk nm)) := ((Below.refl wi.heap.size wi).alloc (Nat.le_refl _) _).cell (p := ⟨wo.heap.size, 0, none⟩) hzi ▸ HT.out
                  exact G3.out.cell this (fun e => hv0s e.symm)
                refine ⟨j + 1, mput M x v3, by omega, by go_num, hst, fun y => ?_, G4.out.cell hc3 (fun e => by have e3 := Option.some.inj e; simp at e3; omega), by simp at hz3; omega, hw3.grown G4.out (by simp at hz3; omega) (fun g e => by cases e; exact Nat.le_refl _)⟩
                rw [mget_put (owns_isMap HMAP.out)]
                split
                · exact hv3s
                · exact HSH.out y
              case measure => simp [intOf]; omega
            · obtain rfl : sl = j := by omega
              have HOM2 : Hid (OwnsM wi (w.heap.size + 1) w.heap.size n (nms D) (dn (D.take (k + 1))) M) :=
                ⟨HOM.out.map, HOM.out.has, fun x => by rw [← HJE.out x]; exact HOM.out.row x, HOM.out.apart⟩
              clear HOM HSH HT hjl hj
              go_wp2
              go_roundw
              case rel => exact ⟨k + 1, M, by omega, by go_num, HOM2.out, by omega, hbi⟩
              case measure => simp [intOf]; omega
        · obtain rfl : n = k := by omega
          have hall2 : D.take n = D := List.take_of_length_le (by rw [HL.out]; exact Nat.le_refl _)
          rw [hall2] at HOM
          clear hall2
          go_wp2
          go_ret
          exact ⟨w.heap.size, rfl, Nat.le_refl _, HOM.out.links (dn_small HS.out), hb⟩
end Go.Proofs.YtdeamdpoegdmdaaGreatDoor

/- Walks of package poset: library functions at rows of the call's own; what the order's loop keeps. -/
namespace Go.Proofs.YtdeamdpoegdmdaaGreatDoor
open Go.RowKit Go.Maps Go.Lib Go.Sort

theorem minS_cases (x y : ByteArray) : (Lib.minS x y = x ∧ ¬ y.data.toList < x.data.toList) ∨ (Lib.minS x y = y ∧ ¬ x.data.toList < y.data.toList) := by
  unfold Lib.minS
  split
  · rename_i h
    refine .inl ⟨rfl, fun g => ?_⟩
    rcases h with h | h
    · exact List.lt_irrefl _ (List.lt_trans h g)
    · rw [h] at g; exact List.lt_irrefl _ g
  · rename_i h
    exact .inr ⟨rfl, fun g => h (.inl g)⟩
theorem minS_fold : ∀ (L : List ByteArray) (a : ByteArray), (L.foldl Lib.minS a ∈ a :: L) ∧ ∀ y ∈ a :: L, ¬ y.data.toList < (L.foldl Lib.minS a).data.toList
  | [], a => ⟨by simp, fun y hy => by simp at hy; subst hy; exact List.lt_irrefl _⟩
  | b :: L, a => by
    obtain ⟨h1, h2⟩ := minS_fold L (Lib.minS a b)
    rw [List.foldl_cons]
    have hm := h2 (Lib.minS a b) (List.mem_cons_self ..)
    rcases minS_cases a b with ⟨e, hl⟩ | ⟨e, hl⟩
    · rw [e] at h1 h2 hm ⊢
      refine ⟨?_, fun y hy => ?_⟩
      · rcases List.mem_cons.1 h1 with g | g
        · rw [g]; exact List.mem_cons_self ..
        · exact List.mem_cons_of_mem _ (List.mem_cons_of_mem _ g)
      · rcases List.mem_cons.1 hy with g | g
        · rw [g]; exact hm
        · rcases List.mem_cons.1 g with g | g
          · rw [g]; intro hlt
            rcases str_tri b.data.toList a.data.toList with t | t | t
            · exact hl t
            · rw [t] at hlt; exact hm hlt
            · exact hm (List.lt_trans t hlt)
          · exact h2 y (List.mem_cons_of_mem _ g)
    · rw [e] at h1 h2 hm ⊢
      refine ⟨?_, fun y hy => ?_⟩
      · rcases List.mem_cons.1 h1 with g | g
        · rw [g]; exact List.mem_cons_of_mem _ (List.mem_cons_self ..)
        · exact List.mem_cons_of_mem _ (List.mem_cons_of_mem _ g)
      · rcases List.mem_cons.1 hy with g | g
        · rw [g]; intro hlt
          rcases str_tri a.data.toList b.data.toList with t | t | t
          · exact hl t
          · rw [t] at hlt; exact hm hlt
          · exact hm (List.lt_trans t hlt)
        · rcases List.mem_cons.1 g with g | g
          · rw [g]; exact hm
          · exact h2 y (List.mem_cons_of_mem _ g)
theorem minOfS_spec {zs : List Str} (h : zs ≠ []) : ∃ m ∈ zs, Lib.minOfS (zs.map mk) = mk m ∧ ∀ y ∈ zs, ¬ y < m := by
  cases zs with
  | nil => exact absurd rfl h
  | cons a l =>
    have h2 := minS_fold (mk a :: l.map mk) (mk a)
    have e : Lib.minOfS ((a :: l).map mk) = (mk a :: l.map mk).foldl Lib.minS (mk a) := rfl
    rw [← e] at h2
    have hin : Lib.minOfS ((a :: l).map mk) ∈ (a :: l).map mk := by
      rcases List.mem_cons.1 h2.1 with g | g
      · rw [g]; simp
      · exact g
    obtain ⟨m, hm, he⟩ := List.mem_map.1 hin
    refine ⟨m, hm, he.symm, fun y hy => ?_⟩
    have := h2.2 (mk y) (List.mem_cons_of_mem _ (List.mem_map.2 ⟨y, hy, rfl⟩))
    rw [← he, mk_list, mk_list] at this
    exact this
theorem getD_mk {zs : List Str} {j : Nat} (hj : j < zs.length) : (zs.map mk).getD j ByteArray.empty = mk (st zs j) := by
  rw [List.getD_eq_getElem?_getD, List.getElem?_map, st_get hj]; rfl
theorem Min_any (w : World) (a : Option Addr) (n cap : Nat) (zs : List Str) (h : IsStrs w a n cap zs) (h0 : 0 < n) (hn : n ≤ 100000) :
    Calls Tryz.prog 115 #[.slice a n cap] w fun e w' => (∃ m, m ∈ zs ∧ (∀ y ∈ zs, ¬ y < m) ∧ e = .returned (.string (mk m))) ∧ w = w' := by
  have hl := h.len
  obtain ⟨b, off, rfl, hbl, hx⟩ := h.at_ h0
  refine (Tryz.slices_Min_string b off n cap (zs.map mk) w h0 (by simp [hl]) (by omega) (fun j hj => ?_)).mono fun e w' hh => ⟨?_, hh.2.symm⟩
  · have hj : j < n := by simpa [hl] using hj
    rw [hx j hj, getD_mk (by omega)]
  · rw [List.take_of_length_le (by simp [hl])] at hh
    obtain ⟨m, hm, e1, e2⟩ := minOfS_spec (zs := zs) (fun e => by rw [e] at hl; simp at hl; omega)
    exact ⟨m, hm, e2, by rw [hh.1, e1]⟩
theorem Index_any (w : World) (a : Option Addr) (n cap : Nat) (zs : List Str) (s : Str) (h : IsStrs w a n cap zs) (hnd : zs.Nodup) (hs : s ∈ zs) (hn : n ≤ 100000) :
    Calls Tryz.prog 116 #[.slice a n cap, .string (mk s)] w fun e w' => (∃ k : Nat, k < n ∧ st zs k = s ∧ e = .returned (.int .i64 ((k : Nat) : Int))) ∧ w = w' := by
  have hl := h.len
  obtain ⟨k, hk, e⟩ := List.getElem_of_mem hs
  have hsk : st zs k = s := by
    have := st_get hk
    rw [List.getElem?_eq_getElem hk, e] at this
    exact (Option.some.inj this).symm
  obtain ⟨b, off, rfl, hbl, hx⟩ := h.at_ (by omega)
  refine (Tryz.slices_Index_string b off n cap (zs.map mk) (mk s) w (by simp [hl]) (by omega) (fun j hj => ?_)).mono fun e w' hh => ⟨?_, hh.2.symm⟩
  · have hj : j < n := by simpa [hl] using hj
    rw [hx j hj, getD_mk (by omega)]
  · refine ⟨k, by omega, hsk, ?_⟩
    rw [hh.1]
    congr 2
    refine Lib.idxOfS_hit (zs.map mk) n k (mk s) (by omega) (by simp [hl]) (by rw [getD_mk hk, hsk]) fun j hj => ?_
    rw [getD_mk (by omega)]
    intro e2
    have := mk_inj e2
    have h1 := st_get hk
    have h2 := st_get (zs := zs) (i := j) (by omega)
    rw [hsk] at h1
    rw [this] at h2
    have := prefix_nodup_at hnd h1 h2
    omega
/-- slices.Delete of one element of a row that the call owns. -/
theorem Delete_any (w : World) (B n : Nat) (v : Value) (zs : List Str) (k : Nat) (h : w.ownsRow B 9 1 v n (svals zs)) (hk : k < n) :
    Calls Tryz.prog 117 #[v, .int .i64 ((k : Nat) : Int), .int .i64 ((k : Nat) + 1 : Int)] w fun e w' => ∃ v', e = .returned v' ∧ w'.ownsRow B 9 1 v' (n - 1) (svals (zs.eraseIdx k)) ∧ w.grownBy w' v.ownBlock ∧ v'.ownBlock = v.ownBlock := by
  have hv : v ≠ .slice none 0 0 := by
    rintro rfl
    rcases h.2 with ⟨_, e⟩ | ⟨g, cap, cur, e, _⟩
    · omega
    · cases e
  obtain ⟨g, cap, rfl, hB, hg, hnc, hcm, hl, hH⟩ := holds_of_ownsRow (enc := encStr) h hv
  have hd := Tryz.slices_Delete_string g 0 cap k (k + 1) zs w hH (by omega) (by unfold maxLen at hcm; omega) (by omega) (by omega)
  rw [hl] at hd
  refine hd.mono fun e w' hh => ?_
  obtain ⟨he, q, hw⟩ := hh
  have hlen : (zs.take k ++ zs.drop (k + 1) ++ List.replicate (k + 1 - k) ([] : List UInt8)).length = n := by simp; omega
  have hrow := ownsRow_putRow (enc := encStr) (q := q) (ys := zs.take k ++ zs.drop (k + 1) ++ List.replicate (k + 1 - k) ([] : List UInt8)) (k := n - 1) h hlen (by omega)
  rw [← hw] at hrow
  have htk : (zs.take k ++ zs.drop (k + 1) ++ List.replicate (k + 1 - k) ([] : List UInt8)).take (n - 1) = zs.eraseIdx k := by
    rw [List.take_append_of_le_length (by simp; omega), List.take_of_length_le (by simp; omega), List.eraseIdx_eq_take_drop_succ]
  rw [htk] at hrow
  refine ⟨.slice (some ⟨g, 0, none⟩) (n - 1) cap, ?_, hrow, ?_, rfl⟩
  · rw [he, show n - (k + 1 - k) = n - 1 by omega]
  · rw [hw]
    refine ⟨rfl, rfl, rfl, by simp [putRow, mapBlock, Sort.ahead], fun j hj hne => ?_⟩
    have hgj : g ≠ j := fun e => hne (by rw [e]; rfl)
    simp [putRow, mapBlock, Sort.ahead, Array.getElem?_modify, hgj]
end Go.Proofs.YtdeamdpoegdmdaaGreatDoor

/- Plain: what the loop of the program's order keeps. -/
namespace Go.Proofs.YtdeamdpoegdmdaaGreatDoor

/-- How many direct supertypes are not in the order yet. -/
def cnt (D : List Dec) (out : List Str) (x : Str) : Nat := ((up D x).filter fun s => !inS out s).length
theorem cnt_zero {D : List Dec} {out : List Str} {x : Str} : cnt D out x = 0 ↔ ∀ s ∈ up D x, s ∈ out := by
  unfold cnt
  rw [List.length_eq_zero_iff, List.filter_eq_nil_iff]
  constructor
  · intro h s hs
    have := h s hs
    simp at this
    exact inS_iff.1 this
  · intro h s hs
    have := inS_iff.2 (h s hs)
    simp [this]
theorem cnt_nil (D : List Dec) (x : Str) : cnt D [] x = (up D x).length := by
  unfold cnt
  rw [List.filter_eq_self.2 fun s _ => by rfl]
theorem filter_one {l : List Str} (hn : l.Nodup) (p : Str → Bool) {y : Str} (hy : y ∈ l) (hp : p y = true) : (l.filter p).length = (l.filter fun s => p s && !(s == y)).length + 1 := by
  induction l with
  | nil => cases hy
  | cons a l ih =>
    obtain ⟨h1, h2⟩ := List.nodup_cons.1 hn
    rcases List.mem_cons.1 hy with e | e
    · subst e
      rw [List.filter_cons, if_pos hp, List.filter_cons]
      have h3 : ¬ ((p y && !(y == y)) = true) := by simp
      rw [if_neg h3, List.length_cons]
      congr 2
      refine List.filter_congr fun s hs => ?_
      have : (s == y) = false := by
        rw [beq_eq_false_iff_ne]; intro e2; exact h1 (e2 ▸ hs)
      rw [this]; simp
    · have hne : (a == y) = false := by
        rw [beq_eq_false_iff_ne]; intro e2; exact h1 (e2 ▸ e)
      have := ih h2 e
      rw [List.filter_cons, List.filter_cons]
      by_cases ha : p a = true
      · rw [if_pos ha, if_pos (by rw [ha, hne]; rfl), List.length_cons, List.length_cons, this]
      · rw [if_neg ha, if_neg (by simp [ha]), this]
theorem up_nodup {D : List Dec} (ok : Ok D) (x : Str) : (up D x).Nodup := by
  unfold up
  split
  · rename_i d e; exact ok.once d (fnd_some e).1
  · exact List.nodup_nil
theorem cnt_snoc {D : List Dec} (ok : Ok D) {out : List Str} {y x : Str} (hy : y ∉ out) : cnt D out x = cnt D (out ++ [y]) x + if y ∈ up D x then 1 else 0 := by
  unfold cnt
  have e : (fun s => !inS (out ++ [y]) s) = fun s => (!inS out s) && !(s == y) := by
    funext s; rw [inS_snoc]; simp [Bool.and_comm]
  rw [e]
  by_cases h : y ∈ up D x
  · rw [if_pos h]
    exact filter_one (up_nodup ok x) (fun s => !inS out s) h (by simp [inS_not.2 hy])
  · rw [if_neg h, Nat.add_zero]
    congr 1
    refine List.filter_congr fun s hs => ?_
    have : (s == y) = false := by
      rw [beq_eq_false_iff_ne]; intro e2; exact h (e2 ▸ hs)
    rw [this]; simp
theorem cnt_le (D : List Dec) (out : List Str) (x : Str) : cnt D out x ≤ (up D x).length := List.length_filter_le _ _
theorem dn_nodup {D : List Dec} (ok : Ok D) (x : Str) : (dn D x).Nodup := by
  have hn := ok.nodup
  have ho := ok.once
  clear ok
  induction D with
  | nil => exact List.nodup_nil
  | cons d D ih =>
    obtain ⟨h1, h2⟩ := List.nodup_cons.1 hn
    have hi := ih h2 (fun e he => ho e (List.mem_cons_of_mem _ he))
    unfold dn
    rw [List.flatMap_cons, List.nodup_append]
    refine ⟨?_, hi, ?_⟩
    · have hd := ho d (List.mem_cons_self ..)
      have hle : (d.sup.filter (· == x)).length ≤ 1 := by
        have h3 : (d.sup.filter (· == x)).Nodup := hd.sublist List.filter_sublist
        have h4 : ∀ y ∈ d.sup.filter (· == x), y ∈ [x] := fun y hy => by
          have := (List.mem_filter.1 hy).2
          simp at this; simp [this]
        have := nodup_len h3 h4
        simpa using this
      have hml : ((d.sup.filter (· == x)).map fun _ => d.name).length ≤ 1 := by rw [List.length_map]; exact hle
      cases hc : (d.sup.filter (· == x)).map fun _ => d.name with
      | nil => exact List.nodup_nil
      | cons a t =>
        rw [hc, List.length_cons] at hml
        have : t = [] := List.eq_nil_of_length_eq_zero (by omega)
        subst this
        simp
    · intro y hy z hz e
      obtain ⟨_, _, e2⟩ := List.mem_map.1 hy
      have hz2 : z ∈ nms D := dn_mem (D := D) (x := x) hz
      rw [← e, ← e2] at hz2
      exact h1 hz2

/-- What is ready behind j of the types below the newest one. -/
structure Rdy (D : List Dec) (out : List Str) (y : Str) (j : Nat) (rd : List Str) : Prop where
  nodup : rd.Nodup
  mem : ∀ x, x ∈ rd ↔ (may D out x ∧ x ≠ y) ∨ (x ∈ (dn D y).take j ∧ cnt D (out ++ [y]) x = 0)
theorem rdy_start {D : List Dec} {out rd : List Str} {y : Str} (hn : rd.Nodup) (hm : ∀ x, x ∈ rd ↔ may D out x) {k : Nat} (hk : k < rd.length) (hy : st rd k = y) : Rdy D out y 0 (rd.eraseIdx k) := by
  refine ⟨hn.sublist (List.eraseIdx_sublist _ _), fun x => ?_⟩
  rw [List.take_zero]
  constructor
  · intro hx
    rw [List.mem_eraseIdx_iff_getElem] at hx
    obtain ⟨i, hi, hne, e⟩ := hx
    have hxr : x ∈ rd := e ▸ List.getElem_mem _
    refine .inl ⟨(hm x).1 hxr, fun e2 => hne ?_⟩
    have h1 := st_get hk
    rw [hy] at h1
    have h2 : rd[i]? = some y := by rw [List.getElem?_eq_getElem hi, e, e2]
    exact prefix_nodup_at hn h2 h1
  · rintro (⟨h1, h2⟩ | ⟨h1, _⟩)
    · rw [List.mem_eraseIdx_iff_getElem]
      obtain ⟨i, hi, e⟩ := List.getElem_of_mem ((hm x).2 h1)
      refine ⟨i, hi, fun e2 => h2 ?_, e⟩
      have h1 := st_get hk
      rw [hy] at h1
      rw [← e2, List.getElem?_eq_getElem hi, e] at h1
      exact Option.some.inj h1
    · cases h1
theorem not_ready {D : List Dec} (ok : Ok D) {out : List Str} (hp : Plc D out) {y x : Str} (hy : nxt D out y) (hx : y ∈ up D x) : x ∉ out ∧ ¬ may D out x ∧ x ≠ y := by
  have hyo := hy.1.2.1
  refine ⟨fun h => hyo (hp.sup h y hx), fun h => hyo (h.2.2 y hx), fun e => ?_⟩
  subst e
  exact hyo (hy.1.2.2 _ hx)
theorem Rdy.skip {D : List Dec} {out rd : List Str} {y : Str} {j : Nat} (h : Rdy D out y j rd) (hj : j < (dn D y).length) (hc : ¬ cnt D (out ++ [y]) (st (dn D y) j) = 0) : Rdy D out y (j + 1) rd := by
  refine ⟨h.nodup, fun x => ?_⟩
  rw [h.mem, take_st hj, List.mem_append, List.mem_singleton]
  constructor
  · rintro (g | ⟨g1, g2⟩)
    · exact .inl g
    · exact .inr ⟨.inl g1, g2⟩
  · rintro (g | ⟨g1 | g1, g2⟩)
    · exact .inl g
    · exact .inr ⟨g1, g2⟩
    · rw [g1] at g2; exact absurd g2 hc
theorem Rdy.add {D : List Dec} (ok : Ok D) {out rd : List Str} (hp : Plc D out) {y : Str} (hy : nxt D out y) {j : Nat} (h : Rdy D out y j rd) (hj : j < (dn D y).length) (hc : cnt D (out ++ [y]) (st (dn D y) j) = 0) : Rdy D out y (j + 1) (rd ++ [st (dn D y) j]) := by
  have hin : st (dn D y) j ∈ dn D y := st_mem hj
  have hup : y ∈ up D (st (dn D y) j) := (dn_up ok.nodup).1 hin
  have hnr := not_ready ok hp hy hup
  have hnd : st (dn D y) j ∉ (dn D y).take j := by
    intro hm
    have h2 := take_st hj
    have := (dn_nodup ok y).sublist (List.take_sublist (j + 1) _)
    rw [h2, List.nodup_append] at this
    exact this.2.2 _ hm _ (by simp) rfl
  have hnot : st (dn D y) j ∉ rd := fun hm => by
    rcases (h.mem _).1 hm with ⟨g, _⟩ | ⟨g, _⟩
    · exact hnr.2.1 g
    · exact hnd g
  refine ⟨?_, fun x => ?_⟩
  · rw [List.nodup_append]
    refine ⟨h.nodup, by simp, fun a ha b hb e => ?_⟩
    simp at hb
    subst hb
    exact hnot (e ▸ ha)
  · rw [List.mem_append, List.mem_singleton, h.mem, take_st hj, List.mem_append, List.mem_singleton]
    constructor
    · rintro ((g | ⟨g1, g2⟩) | g)
      · exact .inl g
      · exact .inr ⟨.inl g1, g2⟩
      · rw [g]; exact .inr ⟨.inr rfl, hc⟩
    · rintro (g | ⟨g1 | g1, g2⟩)
      · exact .inl (.inl g)
      · exact .inl (.inr ⟨g1, g2⟩)
      · exact .inr g1
theorem Rdy.end {D : List Dec} (ok : Ok D) {out rd : List Str} (hp : Plc D out) {y : Str} (hy : nxt D out y) (h : Rdy D out y (dn D y).length rd) : ∀ x, x ∈ rd ↔ may D (out ++ [y]) x := by
  intro x
  rw [h.mem, List.take_length]
  constructor
  · rintro (⟨g, hne⟩ | ⟨g, hc⟩)
    · refine ⟨g.1, fun hm => ?_, fun s hs => List.mem_append_left _ (g.2.2 s hs)⟩
      rcases List.mem_append.1 hm with e | e
      · exact g.2.1 e
      · simp at e; exact hne e
    · have hup := (dn_up ok.nodup).1 g
      have hnr := not_ready ok hp hy hup
      refine ⟨dn_mem g, fun hm => ?_, cnt_zero.1 hc⟩
      rcases List.mem_append.1 hm with e | e
      · exact hnr.1 e
      · simp at e; exact hnr.2.2 e
  · intro g
    have hne : x ≠ y := fun e => g.2.1 (by simp [e])
    have hxo : x ∉ out := fun e => g.2.1 (List.mem_append_left _ e)
    by_cases hu : y ∈ up D x
    · exact .inr ⟨(dn_up ok.nodup).2 hu, cnt_zero.2 g.2.2⟩
    · refine .inl ⟨⟨g.1, hxo, fun s hs => ?_⟩, hne⟩
      rcases List.mem_append.1 (g.2.2 s hs) with e | e
      · exact e
      · simp at e; rw [e] at hs; exact absurd hs hu
/-- The counters behind j of the types below the newest one. -/
def cntJ (D : List Dec) (out : List Str) (y : Str) (j : Nat) (x : Str) : Nat := if inS ((dn D y).take j) x then cnt D (out ++ [y]) x else cnt D out x
theorem cntJ_zero (D : List Dec) (out : List Str) (y x : Str) : cntJ D out y 0 x = cnt D out x := rfl
theorem cntJ_succ {D : List Dec} {out : List Str} {y : Str} {j : Nat} (hj : j < (dn D y).length) (x : Str) : cntJ D out y (j + 1) x = if x = st (dn D y) j then cnt D (out ++ [y]) x else cntJ D out y j x := by
  unfold cntJ
  rw [take_st hj, inS_snoc]
  by_cases h : x = st (dn D y) j
  · rw [if_pos h, h]; simp
  · have : (x == st (dn D y) j) = false := by simpa using h
    rw [if_neg h, this, Bool.false_or]
theorem cntJ_at {D : List Dec} (ok : Ok D) {out : List Str} {y : Str} (hy : y ∉ out) {j : Nat} (hj : j < (dn D y).length) : cntJ D out y j (st (dn D y) j) = cnt D (out ++ [y]) (st (dn D y) j) + 1 := by
  have hnd : inS ((dn D y).take j) (st (dn D y) j) = false := by
    rw [inS_not]
    intro hm
    have h2 := take_st hj
    have := (dn_nodup ok y).sublist (List.take_sublist (j + 1) _)
    rw [h2, List.nodup_append] at this
    exact this.2.2 _ hm _ (by simp) rfl
  unfold cntJ
  rw [if_neg (by rw [hnd]; decide), cnt_snoc ok hy, if_pos ((dn_up ok.nodup).1 (st_mem hj))]
theorem cntJ_end {D : List Dec} (ok : Ok D) {out : List Str} {y : Str} (hy : y ∉ out) (x : Str) : cntJ D out y (dn D y).length x = cnt D (out ++ [y]) x := by
  unfold cntJ
  rw [List.take_length]
  split
  · rfl
  · rename_i h
    rw [cnt_snoc ok hy, if_neg, Nat.add_zero]
    intro hu
    exact h (inS_iff.2 ((dn_up ok.nodup).2 hu))
end Go.Proofs.YtdeamdpoegdmdaaGreatDoor

/- Walks of package poset: sorted. -/
namespace Go.Proofs.YtdeamdpoegdmdaaGreatDoor
open Go.RowKit Go.Maps

/-- The rows that one call grows, apart from each other. -/
def Apart (u v : Value) : Prop := ∀ g, u.ownBlock = some g → v.ownBlock ≠ some g
theorem Apart.symm {u v : Value} (h : Apart u v) : Apart v u := fun g e e2 => h g e2 e
theorem Apart.kept {u v : Value} (h : Apart u v) : u.ownBlock = none ∨ u.ownBlock ≠ v.ownBlock := by
  cases e : u.ownBlock with
  | none => exact .inl rfl
  | some g => exact .inr fun e2 => h g e e2.symm
theorem owns_kept_map {w w' : World} {B n mb : Nat} {v : Value} {zs : List Value} (h : w.ownsRow B 9 1 v n zs) (hg : w.grownBy w' (some mb)) (hB : mb < B) : w'.ownsRow B 9 1 v n zs :=
  h.kept hg (by
    cases e : v.ownBlock with
    | none => exact .inl rfl
    | some g =>
      refine .inr fun e2 => ?_
      have := (h.lt g e).1
      cases e2; omega)
theorem map_kept_row {w w' : World} {B n mb k : Nat} {v : Value} {zs : List Value} {M : DataW Value} (h : w.ownsMap Tryz.prog 9 raw mb k M) (hr : w.ownsRow B 9 1 v n zs) (hg : w.grownBy w' v.ownBlock) (hB : mb < B) : w'.ownsMap Tryz.prog 9 raw mb k M :=
  h.kept hg (fun e => by have := (hr.lt _ e.symm).1; omega)
/-- What the first loop has laid: the counters of the first k names, and those that are ready. -/
structure First (D : List Dec) (k : Nat) (M : DataW Value) (rd : List Str) : Prop where
  has : ∀ x, mhas M x = inS ((nms D).take k) x
  get : ∀ x, x ∈ (nms D).take k → mget M x (.int .i64 0) = .int .i64 (((up D x).length : Nat) : Int)
  nodup : rd.Nodup
  mem : ∀ x, x ∈ rd ↔ x ∈ (nms D).take k ∧ (up D x).length = 0
theorem First.start (D : List Dec) : First D 0 (.map []) [] :=
  ⟨fun x => rfl, (fun x hx => by rw [List.take_zero] at hx; cases hx), List.nodup_nil, fun x => by rw [List.take_zero]; simp⟩
theorem First.step {D : List Dec} (ok : Ok D) {k : Nat} (hk : k < D.length) {M : DataW Value} {rd : List Str} (him : IsMap M) (h : First D k M rd) :
    First D (k + 1) (mput M (dc D k).name (.int .i64 (((dc D k).sup.length : Nat) : Int))) (if (dc D k).sup.length = 0 then rd ++ [(dc D k).name] else rd) := by
  have hu := up_of ok.nodup (dc_mem hk)
  have hs := nms_succ hk
  have hnot : (dc D k).name ∉ (nms D).take k := by
    have : ((nms D).take (k + 1)).Nodup := ok.nodup.sublist (List.take_sublist _ _)
    rw [hs, List.nodup_append] at this
    exact fun hm => this.2.2 _ hm _ (by simp) rfl
  refine ⟨fun x => by rw [mhas_put him, h.has, hs, inS_snoc], fun x hx => ?_, ?_, fun x => ?_⟩
  · rw [mget_put him]
    by_cases e : x = (dc D k).name
    · rw [if_pos e, e, hu]
    · rw [if_neg e]
      refine h.get x ?_
      rw [hs, List.mem_append, List.mem_singleton] at hx
      exact hx.resolve_right e
  · split
    · rw [List.nodup_append]
      refine ⟨h.nodup, by simp, fun a ha b hb e => ?_⟩
      simp at hb
      subst hb
      exact hnot (e ▸ ((h.mem a).1 ha).1)
    · exact h.nodup
  · rw [hs, List.mem_append, List.mem_singleton]
    by_cases h0 : (dc D k).sup.length = 0
    · rw [if_pos h0, List.mem_append, List.mem_singleton, h.mem]
      constructor
      · rintro (⟨a, b⟩ | a)
        · exact ⟨.inl a, b⟩
        · rw [a]; exact ⟨.inr rfl, by rw [hu]; exact h0⟩
      · rintro ⟨a | a, b⟩
        · exact .inl ⟨a, b⟩
        · exact .inr a
    · rw [if_neg h0, h.mem]
      constructor
      · rintro ⟨a, b⟩; exact ⟨.inl a, b⟩
      · rintro ⟨a | a, b⟩
        · exact ⟨a, b⟩
        · rw [a, hu] at b; exact absurd b h0
/-- What the second loop keeps. -/
structure Second (D : List Dec) (out : List Str) (M : DataW Value) (rd : List Str) : Prop where
  plc : Plc D out
  has : ∀ x, x ∈ nms D → mhas M x = true
  get : ∀ x, x ∈ nms D → mget M x (.int .i64 0) = .int .i64 ((cnt D out x : Nat) : Int)
  nodup : rd.Nodup
  mem : ∀ x, x ∈ rd ↔ may D out x
theorem First.second {D : List Dec} {M : DataW Value} {rd : List Str} (h : First D D.length M rd) : Second D [] M rd := by
  have hall : (nms D).take D.length = nms D := List.take_of_length_le (by rw [nms_len]; exact Nat.le_refl _)
  refine ⟨.nil, fun x hx => by rw [h.has, hall]; exact inS_iff.2 hx, fun x hx => by rw [h.get x (by rw [hall]; exact hx), cnt_nil], h.nodup, fun x => ?_⟩
  rw [h.mem, hall]
  constructor
  · rintro ⟨a, b⟩
    exact ⟨a, by simp, fun s hs => by rw [List.eq_nil_of_length_eq_zero b] at hs; cases hs⟩
  · rintro ⟨a, _, c⟩
    refine ⟨a, ?_⟩
    cases hu : up D x with
    | nil => rfl
    | cons s l => have := c s (by rw [hu]; simp); cases this
theorem Second.sub {D : List Dec} {out : List Str} {M : DataW Value} {rd : List Str} (h : Second D out M rd) : ∀ x ∈ rd, x ∈ nms D := fun x hx => ((h.mem x).1 hx).1
theorem Second.len {D : List Dec} {out : List Str} {M : DataW Value} {rd : List Str} (h : Second D out M rd) : rd.length ≤ D.length := by
  have := nodup_len h.nodup h.sub
  rwa [nms_len] at this
theorem Rdy.sub {D : List Dec} {out rd : List Str} {y : Str} {j : Nat} (h : Rdy D out y j rd) : ∀ x ∈ rd, x ∈ nms D := fun x hx => by
  rcases (h.mem x).1 hx with ⟨g, _⟩ | ⟨g, _⟩
  · exact g.1
  · exact dn_mem (List.mem_of_mem_take g)
theorem Rdy.len {D : List Dec} {out rd : List Str} {y : Str} {j : Nat} (h : Rdy D out y j rd) : rd.length ≤ D.length := by
  have := nodup_len h.nodup h.sub
  rwa [nms_len] at this
theorem small_of {D : List Dec} (hs : ∀ z ∈ nms D, z.length ≤ maxLen) {l : List Str} (h : ∀ x ∈ l, x ∈ nms D) : ∀ z ∈ l, z.length ≤ maxLen := fun z hz => hs z (h z hz)
theorem apart_new {w : World} {o : Obj} {B n : Nat} {u v v' : Value} {zs : List Value} (h : Apart u v) (hr : w.ownsRow B 9 1 u n zs) (hl : v'.ownBlock = v.ownBlock ∨ v'.ownBlock = some (w.alloc o).heap.size) : Apart u v' := fun g e e2 => by
  rcases hl with g1 | g1
  · exact h g e (by rw [← g1]; exact e2)
  · rw [g1] at e2
    have := (hr.lt g e).2
    have e3 := Option.some.inj e2
    simp at e3; omega
theorem up_len {D : List Dec} (hs : ∀ i, i < D.length → (dc D i).sup.length ≤ 256) (x : Str) : (up D x).length ≤ 256 := by
  unfold up
  split
  · rename_i d e
    obtain ⟨i, hi, e2⟩ := List.getElem_of_mem (fnd_some e).1
    have := dc_get hi
    rw [List.getElem?_eq_getElem hi, e2] at this
    rw [Option.some.inj this]
    exact hs i hi
  · exact Nat.zero_le _
theorem kept_none (v : Value) : v.ownBlock = none ∨ v.ownBlock ≠ none := by
  cases v.ownBlock <;> simp
theorem First.sub {D : List Dec} {k : Nat} {M : DataW Value} {rd : List Str} (h : First D k M rd) : ∀ x ∈ rd, x ∈ nms D := fun x hx => List.mem_of_mem_take ((h.mem x).1 hx).1
theorem First.len {D : List Dec} {k : Nat} {M : DataW Value} {rd : List Str} (h : First D k M rd) : rd.length ≤ D.length := by
  have := nodup_len h.nodup h.sub
  rwa [nms_len] at this

set_option maxRecDepth 100000 in
set_option maxHeartbeats 12800000 in
theorem sorted_any (w : World) (a : Option Addr) (n cap : Nat) (D : List Dec) (h : IsDecs w a n cap D) (ok : Ok D) (hn : n ≤ 256) (hsz : ∀ i, i < n → (dc D i).sup.length ≤ 256) :
    Calls Tryz.prog 74 #[.slice a n cap] w (RetL (plc D) w) := by
  have hm := h.maxLe
  have hc := h.capLe
  unfold maxLen at hm
  obtain ⟨i0, hi, hz0, hz1, hz2⟩ := info_parts Tryz.infoS
  have HI := Lib.hid (And.intro hi (And.intro hz0 (And.intro hz1 hz2)))
  have HL := Lib.hid h.len
  have HS := Lib.hid (nms_small h)
  have DW := Lib.hid (downward_any w a n cap D h ok hn hsz)
  have HUL := Lib.hid (up_len (fun i hi => hsz i (by rw [h.len] at hi; exact hi)))
  have H := Lib.hid h
  have OK := Lib.hid ok
  clear h ok hsz hi hz0 hz1 hz2
  have hmm := fun x w => run_makeMapN Tryz.underlying98 x w
  go_enter Tryz.func74, Tryz.ntmps74
  go_wp2_with (go_at_call 114; (with_reducible refine DW.out.mono ?_); rintro e w1 ⟨mb, rfl, hmb, hlk, hb1⟩; have LK := Lib.hid hlk; have HB1 := Lib.hid hb1; clear hlk hb1)
  clear hmm
  go_loopw [5, 20] (fun o v wr => ∃ (k rn : Nat) (M : DataW Value) (rd : List Str), k ≤ n ∧ v = .int .i64 k ∧ rn ≤ n ∧ Hid (rd.length = rn) ∧ Hid (First D k M rd) ∧ Hid (wr.ownsMap Tryz.prog 9 raw w1.heap.size k M) ∧ Hid (wr.ownsRow (w1.heap.size + 1) 9 1 o rn (svals rd)) ∧ w1.heap.size < wr.heap.size ∧ Below w1.heap.size w1 wr) (fun _ v _ => n - (intOf v).toNat)
  case atStart => exact ⟨0, 0, .map [], [], Nat.zero_le _, rfl, Nat.zero_le _, rfl, First.start D, World.ownsMap_made _ _ _ _, World.ownsRow_nil _ _ _ _, by simp, (Below.refl _ _).alloc (Nat.le_refl _) _⟩
  case round =>
    obtain ⟨k, rn, M, rd, hk, rfl, hrn, HRL, HF, HM, HR, hz, hb⟩ := hrel
    obtain ⟨wo, hwo⟩ : ∃ wo : World, wo = wr := ⟨_, rfl⟩
    subst hwo
    have hz1 := HB1.out.size
    by_cases hlt : k < n
    · obtain ⟨b, off, rfl, hbl, hx⟩ := H.out.at_ (by omega)
      obtain ⟨sa, sc', fa, fc, hd0⟩ := hx k hlt
      have hd := hd0.below hbl (HB1.out.trans (hb.mono hz1))
      have c0 := hd.c0
      have c1 := hd.c1
      have c2 := hd.c2
      have HNL := Lib.hid hd.nl
      have HST := Lib.hid (HF.out.step OK.out (by rw [HL.out]; exact hlt) (owns_isMap HM.out))
      obtain ⟨x, hx'⟩ : ∃ x, (dc D k).name = x := ⟨_, rfl⟩
      rw [hx'] at c0 HNL HST
      obtain ⟨sl, hsl⟩ : ∃ z, (dc D k).sup.length = z := ⟨_, rfl⟩
      rw [hsl] at c1 HST
      obtain ⟨nf, hnf⟩ : ∃ z, (dc D k).nf = z := ⟨_, rfl⟩
      rw [hnf] at c2
      have T0 : Hid ((wo.alloc (.cells #[.string (mk x), .slice sa sl sc', .slice fa nf fc] 53)).cell? ⟨wo.heap.size, 0, none⟩ = some (.string (mk x))) := by show _ = _; rw [World.cell?_alloc_new]; rfl
      have T1 : Hid ((wo.alloc (.cells #[.string (mk x), .slice sa sl sc', .slice fa nf fc] 53)).cell? ⟨wo.heap.size, 1, none⟩ = some (.slice sa sl sc')) := by show _ = _; rw [World.cell?_alloc_new]; rfl
      clear hx hd hd0 hx' hsl hnf
      by_cases h0 : sl = 0
      · rw [if_pos h0] at HST
        have hlen := HST.out.len
        rw [HL.out, List.length_append, HRL.out] at hlen
        simp only [List.length_cons, List.length_nil] at hlen
        subst h0
        go_wp2_with (first
          | (at_mapUpdate; refine wpList_update_raw rfl _ _ _ 98 rfl 3 Tryz.underlying98 w1.heap.size k M rfl (HM.out.alloc _) (by omega) x (.int .i64 ((0 : Nat) : Int)) rfl rfl HNL.out ?_; intro w2 hown2 hgrow2; have HO2 := Lib.hid hown2; have HR2 := Lib.hid (owns_kept_map (HR.out.alloc _) hgrow2 (by omega)); have q0 := hgrow2.cell T0.out (fun e => by have e3 := Option.some.inj e; simp at e3; omega); have q1 := hgrow2.cell T1.out (fun e => by have e3 := Option.some.inj e; simp at e3; omega); have hz2 := hgrow2.size; have HB2 := Lib.hid ((hb.alloc hb.size _).grown hgrow2 (by have := hb.size; simp; omega) (fun j e => by cases e; exact Nat.le_refl _)); clear hown2 hgrow2)
          | (at_builtin; refine wpList_append_at rfl _ _ rfl (w1.heap.size + 1) _ _ _ rfl (HR2.out.alloc _) ⟨w2.heap.size, 0, none⟩ x rfl (cell_of_one (heap_alloc_new w2 _)) (by omega) (by simp at hz2 ⊢; omega) ?_; intro v3 w3 hown3 hgrow3 hloc3; have R3 := Lib.hid hown3; have HM3 := Lib.hid (map_kept_row (HO2.out.alloc _) (HR2.out.alloc _) hgrow3 (by omega)); have hz3 := hgrow3.size; have HB3 := Lib.hid (grown_below (HB2.out.alloc HB2.out.size _) (by have := HB2.out.size; simp; omega) (owns_base (HR2.out.alloc _) (by omega)) hgrow3); clear hown3 hgrow3 hloc3))
        go_roundw
        case rel => exact ⟨k + 1, rn + 1, _, _, by omega, by go_num, by omega, by show _ = _; rw [List.length_append, HRL.out]; rfl, HST.out, HM3.out, R3.out, by simp at hz2 hz3; omega, HB3.out⟩
        case measure => simp [intOf]; omega
      · rw [if_neg h0] at HST
        have hne : (((sl : Nat) : Int) == 0) = false := by simp; omega
        go_wp2_with (at_mapUpdate; refine wpList_update_raw rfl _ _ _ 98 rfl 3 Tryz.underlying98 w1.heap.size k M rfl (HM.out.alloc _) (by omega) x (.int .i64 ((sl : Nat) : Int)) rfl rfl HNL.out ?_; intro w2 hown2 hgrow2; have HO2 := Lib.hid hown2; have HR2 := Lib.hid (owns_kept_map (HR.out.alloc _) hgrow2 (by omega)); have q0 := hgrow2.cell T0.out (fun e => by have e3 := Option.some.inj e; simp at e3; omega); have q1 := hgrow2.cell T1.out (fun e => by have e3 := Option.some.inj e; simp at e3; omega); have hz2 := hgrow2.size; have HB2 := Lib.hid ((hb.alloc hb.size _).grown hgrow2 (by have := hb.size; simp; omega) (fun j e => by cases e; exact Nat.le_refl _)); clear hown2 hgrow2)
        go_roundw
        case rel => exact ⟨k + 1, rn, _, rd, by omega, by go_num, hrn, HRL, HST.out, HO2.out, HR2.out, by simp at hz2; omega, HB2.out⟩
        case measure => simp [intOf]; omega
    · obtain rfl : n = k := by omega
      have HSE : Hid (Second D [] M rd) := by
        have := HF.out
        rw [← HL.out] at this
        exact this.second
      obtain ⟨ra0, rc0, rfl, hri0⟩ := IsStrs.of_owns HR.out (small_of HS.out HF.out.sub)
      clear HF hlt hk hri0
      go_wp2_with (at_make; go_loud (refine wpList_make_own _ rfl _ _ _ rfl (w1.heap.size + 1) 9 i0 (.string ByteArray.empty) 1 Tryz.underlying49 HI.out.1 HI.out.2.1 HI.out.2.2.1 _ _ _ n rfl rfl rfl ?_ ?_ ?_ ?_); rotate_right; intro w2 hown2 hgrow2)
      · have hzo2 := hgrow2.size
        have HR2 := Lib.hid (HR.out.kept hgrow2 (kept_none _))
        have HM2 := Lib.hid (HM.out.kept hgrow2 (by simp))
        have HO2 := Lib.hid hown2
        have HB2 := Lib.hid (hb.grown hgrow2 hb.size (fun j e => by cases e))
        have HAP : Hid (Apart (.slice ra0 rn rc0) (.slice (some ⟨wo.heap.size, 0, none⟩) 0 n)) := fun g e e2 => by
          have := (HR.out.lt g e).2
          have e3 : wo.heap.size = g := Option.some.inj e2
          omega
        have HZ2 : Hid (w1.heap.size < w2.heap.size) := by show _ < _; omega
        clear hown2 hgrow2 hzo2 HR HM hb hz
        go_loopw [5, 8] (fun o q wr => ∃ (rn on : Nat) (M : DataW Value) (rd out : List Str), on ≤ n ∧ rn ≤ n ∧ Hid (rd.length = rn) ∧ Hid (out.length = on) ∧ Hid (Second D out M rd) ∧ Hid (wr.ownsMap Tryz.prog 9 raw w1.heap.size n M) ∧ Hid (wr.ownsRow (w1.heap.size + 1) 9 1 o rn (svals rd)) ∧ Hid (wr.ownsRow (w1.heap.size + 1) 9 1 q on (svals out)) ∧ Hid (Apart o q) ∧ w1.heap.size < wr.heap.size ∧ Below w1.heap.size w1 wr) (fun _ q _ => n - lenV q)
        case atStart => exact ⟨rn, 0, M, rd, [], Nat.zero_le _, hrn, HRL, rfl, HSE.out, HM2.out, HR2.out, HO2.out, HAP.out, HZ2.out, HB2.out⟩
        case round =>
          clear HSE HM2 HR2 HO2 HAP HZ2 HB2 HRL
          obtain ⟨rn, on, M, rd, out, hon, hrn, HRL, HOL, HSE, HM, HR, HQ, HAP, hz, hb⟩ := hrel
          obtain ⟨wo, hwo⟩ : ∃ wo : World, wo = wr := ⟨_, rfl⟩
          subst hwo
          obtain ⟨ra, rc, rfl, hri⟩ := IsStrs.of_owns HR.out (small_of HS.out HSE.out.sub)
          obtain ⟨qa, qc, rfl, hqi⟩ := IsStrs.of_owns HQ.out (small_of HS.out HSE.out.plc.sub)
          have hrc := hri.capLe
          have hrm := hri.maxLe
          have hqc := hqi.capLe
          have hqm := hqi.maxLe
          unfold maxLen at hrm hqm
          have HRI := Lib.hid hri
          clear hri hqi
          by_cases hr0 : rn = 0
          · have HD : Hid (Done D out) := fun x hx => by
              have := (HSE.out.mem x).2 hx
              rw [List.eq_nil_of_length_eq_zero (HRL.out.trans hr0)] at this
              cases this
            have HE : Hid (out = plc D) := plc_is HSE.out.plc HD.out
            subst hr0
            go_wp2
            go_ret
            rw [← HE.out]
            refine ⟨_, rfl, ?_, small_of HS.out HSE.out.plc.sub, HB1.out.trans (hb.mono hz1)⟩
            rw [HOL.out]
            exact owns_base HQ.out (by omega)
          · have hr1 : 0 < rn := by omega
            have MI := Lib.hid (Min_any wo ra rn rc rd HRI.out hr1 (by omega))
            clear hr0
            go_wp2_with (go_at_call 115; (with_reducible refine MI.out.mono ?_); rintro e w' ⟨⟨y, hy, hmin, rfl⟩, rfl⟩; have HY := Lib.hid hy; have HMIN := Lib.hid hmin; clear hy hmin)
            have HNX : Hid (nxt D out y) := ⟨(HSE.out.mem y).1 HY.out, fun z hz => HMIN.out z ((HSE.out.mem z).2 hz)⟩
            have IX := Lib.hid (Index_any wo ra rn rc rd y HRI.out HSE.out.nodup HY.out (by omega))
            have DL := Lib.hid (fun k (hk : k < rn) => Delete_any wo (w1.heap.size + 1) rn (.slice ra rn rc) rd k HR.out hk)
            obtain ⟨MB, hmown, hmhas, hmget⟩ := LK.out
            obtain ⟨la, lc, hle, hli⟩ := hmget y
            have HLE := Lib.hid hle
            have HMB := Lib.hid hmown
            have HLI := Lib.hid hli
            obtain ⟨ln, hln⟩ : ∃ z, (dn D y).length = z := ⟨_, rfl⟩
            rw [hln] at HLE HLI
            have HLN := Lib.hid hln
            have hlnc := hli.capLe
            have hlnm := hli.maxLe
            rw [hln] at hlnc
            unfold maxLen at hlnm
            have HYL : Hid (y.length ≤ maxLen) := HS.out y HNX.out.1.1
            have HP0 := Lib.hid HSE.out.plc
            have HP2 : Hid (Plc D (out ++ [y])) := .snoc HSE.out.plc HNX.out
            have hon2 : on + 1 ≤ n := by
              have := HP2.out.len
              rw [HL.out, List.length_append, HOL.out] at this
              exact this
            clear hmown hmhas hmget hle hli hln MI
            go_wp2_with fail
            refine IX.out.mono ?_
            rintro e w' ⟨⟨k, hk, hsk, rfl⟩, rfl⟩
            have HK := Lib.hid hsk
            clear hsk IX
            go_wp2_with (first
              | (go_at_call 117; (with_reducible refine (DL.out k hk).mono ?_); rintro e w3 ⟨v3, rfl, hown3, hgrow3, hown3b⟩; have R3 := Lib.hid hown3; have Q3 := Lib.hid (HQ.out.kept hgrow3 HAP.out.symm.kept); have M3 := Lib.hid (map_kept_row HM.out HR.out hgrow3 (by omega)); have hz3 := hgrow3.size; have B3 := Lib.hid (grown_below hb hb.size (owns_base HR.out (by omega)) hgrow3); have A3 := Lib.hid (show Apart v3 (.slice qa on qc) from fun g e => HAP.out g (by rw [← hown3b]; exact e)); clear hown3 hgrow3 hown3b)
              | (at_builtin; refine wpList_append_at rfl _ _ rfl (w1.heap.size + 1) _ _ _ rfl (Q3.out.alloc _) ⟨w3.heap.size, 0, none⟩ y rfl (cell_of_one (heap_alloc_new w3 _)) (by omega) (by simp; omega) ?_; intro v4 w4 hown4 hgrow4 hloc4; have Q4 := Lib.hid hown4; have R4 := Lib.hid ((R3.out.alloc _).kept hgrow4 A3.out.kept); have M4 := Lib.hid (map_kept_row (M3.out.alloc _) (Q3.out.alloc _) hgrow4 (by omega)); have hz4 := hgrow4.size; have B4 := Lib.hid (grown_below (B3.out.alloc B3.out.size _) (by have := B3.out.size; simp; omega) (owns_base (Q3.out.alloc _) (by omega)) hgrow4); have A4 := Lib.hid (apart_new A3.out R3.out hloc4); clear hown4 hgrow4 hloc4)
              | (at_lookup; refine wpList_lookup_raw rfl _ _ 92 rfl 49 Tryz.underlying92 (zeroL _) mb n MB rfl (map_below HMB.out B4.out) y rfl HYL.out ?_; rw [HLE.out]))
            have HRS := Lib.hid (rdy_start HSE.out.nodup HSE.out.mem (by rw [HRL.out]; exact hk) HK.out)
            have HGT : Hid (∀ x, x ∈ nms D → mget M x (.int .i64 0) = .int .i64 ((cntJ D out y 0 x : Nat) : Int)) := HSE.out.get
            have HEL : Hid ((rd.eraseIdx k).length = rn - 1) := by show _ = _; rw [List.length_eraseIdx, if_pos (by rw [HRL.out]; exact hk), HRL.out]
            have HZ4 : Hid (w1.heap.size < w4.heap.size) := by show _ < _; simp at hz3 hz4; omega
            have HYO : Hid (y ∉ out) := HNX.out.1.2.1
            clear hz3 hz4 hk DL HMIN HY hr1
            go_loopw [5, 64] (fun o v wi => ∃ (j rn : Nat) (M : DataW Value) (rd : List Str), j ≤ ln ∧ v = .int .i64 j ∧ rn ≤ n ∧ Hid (rd.length = rn) ∧ Hid (Rdy D out y j rd) ∧ Hid (∀ x, x ∈ nms D → mhas M x = true) ∧ Hid (∀ x, x ∈ nms D → mget M x (.int .i64 0) = .int .i64 ((cntJ D out y j x : Nat) : Int)) ∧ Hid (wi.ownsMap Tryz.prog 9 raw w1.heap.size n M) ∧ Hid (wi.ownsRow (w1.heap.size + 1) 9 1 o rn (svals rd)) ∧ Hid (wi.ownsRow (w1.heap.size + 1) 9 1 v4 (on + 1) (svals (out ++ [y]))) ∧ Hid (Apart o v4) ∧ w1.heap.size < wi.heap.size ∧ Below w1.heap.size w1 wi) (fun _ v _ => ln - (intOf v).toNat)
            case atStart => exact ⟨0, rn - 1, M, rd.eraseIdx k, Nat.zero_le _, rfl, by omega, HEL.out, HRS.out, HSE.out.has, HGT.out, M4.out, R4.out, Q4.out, A4.out, HZ4.out, B4.out⟩
            case round =>
              clear HRS HGT HEL HZ4 M4 R4 Q4 A4 B4 R3 Q3 M3 B3 A3 HSE HM HR HQ HAP HRI HRL
              obtain ⟨j, rn, M, rd, hj, rfl, hrn, HRL, HRD, HHAS, HGET, HM, HR, HQ, HAP, hz, hb⟩ := hrel
              obtain ⟨wi, hwi⟩ : ∃ wi : World, wi = wr := ⟨_, rfl⟩
              subst hwi
              by_cases hlt : j < ln
              · obtain ⟨b2, off2, rfl, hbl2, hx2⟩ := HLI.out.at_ (by omega)
                have d0 := (hb.cell (p := ⟨b2, off2 + j, none⟩) hbl2).trans (hx2 j hlt)
                have hjl : j < (dn D y).length := by rw [HLN.out]; exact hlt
                have HIN := Lib.hid (dn_mem (st_mem hjl))
                have HXL := Lib.hid (HS.out _ HIN.out)
                have HG0 := Lib.hid (HGET.out _ HIN.out)
                have HCA := Lib.hid (cntJ_at OK.out HYO.out hjl)
                have HCS := Lib.hid (fun x => cntJ_succ (D := D) (out := out) hjl x)
                have hcl := Nat.le_trans (cnt_le D (out ++ [y]) (st (dn D y) j)) (HUL.out (st (dn D y) j))
                have HSK := Lib.hid (fun hc => HRD.out.skip hjl hc)
                have HAD := Lib.hid (fun hc => HRD.out.add OK.out HP0.out HNX.out hjl hc)
                have HH0 := Lib.hid (HHAS.out _ HIN.out)
                obtain ⟨x, hx'⟩ : ∃ x, st (dn D y) j = x := ⟨_, rfl⟩
                rw [hx'] at d0 HIN HXL HG0 HCA HCS hcl HSK HAD HH0
                obtain ⟨c, hc⟩ : ∃ c, cnt D (out ++ [y]) x = c := ⟨_, rfl⟩
                rw [hc] at HCA hcl HSK HAD
                have HC := Lib.hid hc
                have HG1 : Hid (mget M x (.int .i64 0) = .int .i64 ((c : Int) + 1)) := by show _ = _; rw [HG0.out, HCA.out]; rfl
                have him := Lib.hid (owns_isMap HM.out)
                have HG2 : Hid (mget (mput M x (.int .i64 (c : Int))) x (.int .i64 0) = .int .i64 (c : Int)) := by show _ = _; rw [mget_put him.out, if_pos rfl]
                have HGN : Hid (∀ z, z ∈ nms D → mget (mput M x (.int .i64 (c : Int))) z (.int .i64 0) = .int .i64 ((cntJ D out y (j + 1) z : Nat) : Int)) := fun z hz => by
                  rw [mget_put him.out, HCS.out]
                  by_cases e : z = x
                  · rw [if_pos e, if_pos e, e, HC.out]
                  · rw [if_neg e, if_neg e]; exact HGET.out z hz
                have HHN : Hid (∀ z, z ∈ nms D → mhas (mput M x (.int .i64 (c : Int))) z = true) := fun z hz => by
                  rw [mhas_put him.out, HHAS.out z hz]; simp
                obtain ⟨ra, rc, rfl, hri⟩ := IsStrs.of_owns HR.out (small_of HS.out HRD.out.sub)
                have tok1 : True := trivial
                have tok2 : True := trivial
                clear hx2 hjl hx' hc hri HGET
                by_cases hc0 : c = 0
                · have HRN := Lib.hid (HAD.out hc0)
                  have hln2 := HRN.out.len
                  rw [HL.out, List.length_append, HRL.out] at hln2
                  simp only [List.length_cons, List.length_nil] at hln2
                  subst hc0
                  go_wp2_with (first
                    | (at_lookup; have _t := tok1; refine wpList_lookup_raw rfl _ _ 98 rfl 3 Tryz.underlying98 (zeroI _) w1.heap.size n M rfl HM.out x rfl HXL.out ?_; rw [HG1.out]; clear tok1)
                    | (at_mapUpdate; refine wpList_update_raw rfl _ _ _ 98 rfl 3 Tryz.underlying98 w1.heap.size n M rfl HM.out (by omega) x (.int .i64 ((0 : Nat) : Int)) rfl rfl HXL.out ?_; intro w5 hown5 hgrow5; have M5 := Lib.hid (map_again HM.out HH0.out hown5); have R5 := Lib.hid (owns_kept_map HR.out hgrow5 (by omega)); have Q5 := Lib.hid (owns_kept_map HQ.out hgrow5 (by omega)); have hz5 := hgrow5.size; have B5 := Lib.hid (hb.grown hgrow5 hb.size (fun g e => by cases e; exact Nat.le_refl _)); clear hown5 hgrow5)
                    | (at_lookup; have _t := tok2; refine wpList_lookup_raw rfl _ _ 98 rfl 3 Tryz.underlying98 (zeroI _) w1.heap.size n _ rfl M5.out x rfl HXL.out ?_; rw [HG2.out]; clear tok2)
                    | (at_builtin; refine wpList_append_at rfl _ _ rfl (w1.heap.size + 1) _ _ _ rfl (R5.out.alloc _) ⟨w5.heap.size, 0, none⟩ x rfl (cell_of_one (heap_alloc_new w5 _)) (by omega) (by simp; omega) ?_; intro v6 w6 hown6 hgrow6 hloc6; have R6 := Lib.hid hown6; have Q6 := Lib.hid ((Q5.out.alloc _).kept hgrow6 HAP.out.symm.kept); have M6 := Lib.hid (map_kept_row (M5.out.alloc _) (R5.out.alloc _) hgrow6 (by omega)); have hz6 := hgrow6.size; have B6 := Lib.hid (grown_below (B5.out.alloc B5.out.size _) (by have := B5.out.size; simp; omega) (owns_base (R5.out.alloc _) (by omega)) hgrow6); have A6 := Lib.hid (apart_new HAP.out.symm Q5.out hloc6); clear hown6 hgrow6 hloc6))
                  go_roundw
                  case rel => exact ⟨j + 1, rn + 1, _, _, by omega, by go_num, by omega, by show _ = _; rw [List.length_append, HRL.out]; rfl, HRN.out, HHN.out, HGN.out, M6.out, R6.out, Q6.out, A6.out.symm, by simp at hz6; omega, B6.out⟩
                  case measure => simp [intOf]; omega
                · have HRN := Lib.hid (HSK.out hc0)
                  have hne : (((c : Nat) : Int) == 0) = false := by simp; omega
                  go_wp2_with (first
                    | (at_lookup; have _t := tok1; refine wpList_lookup_raw rfl _ _ 98 rfl 3 Tryz.underlying98 (zeroI _) w1.heap.size n M rfl HM.out x rfl HXL.out ?_; rw [HG1.out]; clear tok1)
                    | (at_mapUpdate; refine wpList_update_raw rfl _ _ _ 98 rfl 3 Tryz.underlying98 w1.heap.size n M rfl HM.out (by omega) x (.int .i64 ((c : Nat) : Int)) rfl rfl HXL.out ?_; intro w5 hown5 hgrow5; have M5 := Lib.hid (map_again HM.out HH0.out hown5); have R5 := Lib.hid (owns_kept_map HR.out hgrow5 (by omega)); have Q5 := Lib.hid (owns_kept_map HQ.out hgrow5 (by omega)); have hz5 := hgrow5.size; have B5 := Lib.hid (hb.grown hgrow5 hb.size (fun g e => by cases e; exact Nat.le_refl _)); clear hown5 hgrow5)
                    | (at_lookup; have _t := tok2; refine wpList_lookup_raw rfl _ _ 98 rfl 3 Tryz.underlying98 (zeroI _) w1.heap.size n _ rfl M5.out x rfl HXL.out ?_; rw [HG2.out]; clear tok2))
                  go_roundw
                  case rel => exact ⟨j + 1, rn, _, rd, by omega, by go_num, hrn, HRL, HRN.out, HHN.out, HGN.out, M5.out, R5.out, Q5.out, HAP.out, by omega, B5.out⟩
                  case measure => simp [intOf]; omega
              · obtain rfl : ln = j := by omega
                have HJ : Hid (Rdy D out y (dn D y).length rd) := by show Rdy _ _ _ _ _; rw [HLN.out]; exact HRD.out
                have HS2 : Hid (Second D (out ++ [y]) M rd) := ⟨HP2.out, HHAS.out, fun x hx => by rw [HGET.out x hx, ← HLN.out, cntJ_end OK.out HYO.out], HJ.out.nodup, HJ.out.end OK.out HP0.out HNX.out⟩
                obtain ⟨qa2, qc2, rfl, hqi2⟩ := IsStrs.of_owns HQ.out (small_of HS.out HP2.out.sub)
                clear hlt hj HJ HRD HGET HHAS hqi2
                go_wp2
                go_roundw
                case rel => exact ⟨rn, on + 1, M, rd, out ++ [y], hon2, hrn, HRL, by show _ = _; rw [List.length_append, HOL.out]; rfl, HS2.out, HM.out, HR.out, HQ.out, HAP.out, hz, hb⟩
                case measure => simp [lenV]; omega
      · rw [HI.out.2.2.2]; omega
      · unfold maxLen; omega
      · omega
end Go.Proofs.YtdeamdpoegdmdaaGreatDoor

/- Walks of package poset: checkCycles, Check, Order. -/
namespace Go.Proofs.YtdeamdpoegdmdaaGreatDoor
open Go.RowKit Go.Maps

theorem szE_sup {D : List Dec} (h : szE D = 0) : ∀ i, i < D.length → (dc D i).sup.length ≤ 256 := by
  intro i hi
  have hl := szE_le h
  refine Classical.byContradiction fun g => ?_
  have := szE_bad (D := D) (i := i) (by omega) hi (.inl (by omega))
  rw [this] at h; cases h
/-- The error of cycles. -/
noncomputable def cycE (D : List Dec) : Nat := if (plc D).length < D.length then 6 else 0
/-- The error of the k-th check. -/
noncomputable def ek (D : List Dec) : Nat → Nat
  | 0 => szE D
  | 1 => nmE (isNam kLow) [] D
  | 2 => suE (nms D) D
  | 3 => topE D
  | _ => cycE D
theorem chkN_eq (D : List Dec) : chkN D = if ek D 0 ≠ 0 then ek D 0 else if ek D 1 ≠ 0 then ek D 1 else if ek D 2 ≠ 0 then ek D 2 else if ek D 3 ≠ 0 then ek D 3 else ek D 4 := by
  show chkN D = if szE D ≠ 0 then szE D else if nmE (isNam kLow) [] D ≠ 0 then nmE (isNam kLow) [] D else if suE (nms D) D ≠ 0 then suE (nms D) D else if topE D ≠ 0 then topE D else cycE D
  unfold chkN chk topE cycE
  by_cases h : tops D ≠ 1
  · simp [h]
  · simp [h]

set_option maxRecDepth 100000 in
theorem checkCycles_any (w : World) (a : Option Addr) (n cap : Nat) (D : List Dec) (h : IsDecs w a n cap D) (ok : Ok D) (hn : n ≤ 256) (hsz : ∀ i, i < n → (dc D i).sup.length ≤ 256) :
    Calls Tryz.prog 113 #[.slice a n cap] w fun e w' => e = .returned (.int .i64 ((cycE D : Nat) : Int)) ∧ Below w.heap.size w w' := by
  have hm := h.maxLe
  have hc := h.capLe
  unfold maxLen at hm
  have SO := Lib.hid (sorted_any w a n cap D h ok hn hsz)
  have HE : Hid (cycE D = if (plc D).length < n then 6 else 0) := by show _ = _; unfold cycE; rw [h.len]
  have hpl := (plc_plc D).len
  obtain ⟨pl, hp⟩ : ∃ z, (plc D).length = z := ⟨_, rfl⟩
  rw [hp] at HE hpl
  rw [h.len] at hpl
  have HPL := Lib.hid hp
  clear h ok hsz hp
  by_cases hlt : pl < n
  · have hr : Hid (cycE D = 6) := by show _ = _; rw [HE.out, if_pos hlt]
    go_enter Tryz.func113, Tryz.ntmps113
    go_wp2_with (go_at_call 74; (with_reducible refine SO.out.mono ?_); rintro e w2 ⟨v2, rfl, hrow, hsm, hb2⟩; rw [HPL.out] at hrow; obtain ⟨a2, c2, rfl, hi2⟩ := IsStrs.of_owns hrow hsm; clear hrow hsm hi2)
    go_ret
    exact ⟨by rw [hr.out]; rfl, hb2⟩
  · have hr : Hid (cycE D = 0) := by show _ = _; rw [HE.out, if_neg hlt]
    go_enter Tryz.func113, Tryz.ntmps113
    go_wp2_with (go_at_call 74; (with_reducible refine SO.out.mono ?_); rintro e w2 ⟨v2, rfl, hrow, hsm, hb2⟩; rw [HPL.out] at hrow; obtain ⟨a2, c2, rfl, hi2⟩ := IsStrs.of_owns hrow hsm; clear hrow hsm hi2)
    go_ret
    exact ⟨by rw [hr.out]; rfl, hb2⟩

theorem e1 : Enters 109 := fun _ _ => by kernel_rfl
theorem e2 : Enters 110 := fun _ _ => by kernel_rfl
theorem e3 : Enters 111 := fun _ _ => by kernel_rfl
theorem e4 : Enters 112 := fun _ _ => by kernel_rfl
theorem e5 : Enters 113 := fun _ _ => by kernel_rfl
/-- The k-th check. -/
def fk : Nat → FuncId
  | 0 => 109
  | 1 => 110
  | 2 => 111
  | 3 => 112
  | _ => 113
theorem fk_enters (k : Nat) : Enters (fk k) := by
  match k with
  | 0 => exact e1
  | 1 => exact e2
  | 2 => exact e3
  | 3 => exact e4
  | _ + 4 => exact e5
theorem fk_any (k : Nat) (hk : k < 5) (w : World) (a : Option Addr) (n cap : Nat) (D : List Dec) (h : IsDecs w a n cap D) (hp : ∀ j, j < k → ek D j = 0) :
    Calls Tryz.prog (fk k) #[.slice a n cap] w fun e w' => e = .returned (.int .i64 ((ek D k : Nat) : Int)) ∧ Below w.heap.size w w' := by
  have hl := h.len
  match k, hk with
  | 0, _ => exact checkLengths_any w a n cap D h
  | 1, _ =>
    have h0 : szE D = 0 := hp 0 (by omega)
    exact checkNames_any w a n cap D h (by rw [← hl]; exact szE_le h0)
  | 2, _ =>
    have h0 : szE D = 0 := hp 0 (by omega)
    have h1 : nmE (isNam kLow) [] D = 0 := hp 1 (by omega)
    exact checkSupers_any w a n cap D h (nmE_zero h1).1 (by rw [← hl]; exact szE_le h0) (fun i hi => szE_sup h0 i (by omega))
  | 3, _ =>
    have h0 : szE D = 0 := hp 0 (by omega)
    exact checkTop_any w a n cap D h (by rw [← hl]; exact szE_le h0)
  | 4, _ =>
    have h0 : szE D = 0 := hp 0 (by omega)
    have h1 : nmE (isNam kLow) [] D = 0 := hp 1 (by omega)
    have h2 : suE (nms D) D = 0 := hp 2 (by omega)
    exact checkCycles_any w a n cap D h (ok_of (nm := isNam kLow) h1 h2) (by rw [← hl]; exact szE_le h0) (fun i hi => szE_sup h0 i (by omega))
theorem chk_first {D : List Dec} {k : Nat} (hk : k < 5) (hp : ∀ j, j < k → ek D j = 0) (hne : ¬ ek D k = 0) : chkN D = ek D k := by
  have hg : ∀ j, j < k → ¬ (ek D j ≠ 0) := fun j hj g => g (hp j hj)
  rw [chkN_eq]
  rcases (by omega : k = 0 ∨ k = 1 ∨ k = 2 ∨ k = 3 ∨ k = 4) with e | e | e | e | e <;> subst e
  · exact if_pos hne
  · rw [if_neg (hg 0 (by omega)), if_pos hne]
  · rw [if_neg (hg 0 (by omega)), if_neg (hg 1 (by omega)), if_pos hne]
  · rw [if_neg (hg 0 (by omega)), if_neg (hg 1 (by omega)), if_neg (hg 2 (by omega)), if_pos hne]
  · rw [if_neg (hg 0 (by omega)), if_neg (hg 1 (by omega)), if_neg (hg 2 (by omega)), if_neg (hg 3 (by omega))]
theorem chk_none {D : List Dec} (hp : ∀ j, j < 5 → ek D j = 0) : chkN D = 0 := by
  have hg : ∀ j, j < 5 → ¬ (ek D j ≠ 0) := fun j hj g => g (hp j hj)
  rw [chkN_eq, if_neg (hg 0 (by omega)), if_neg (hg 1 (by omega)), if_neg (hg 2 (by omega)), if_neg (hg 3 (by omega))]
  exact hp 4 (by omega)

set_option maxRecDepth 100000 in
set_option maxHeartbeats 1600000 in
theorem Check_any (w : World) (a : Option Addr) (n cap : Nat) (D : List Dec) (h : IsDecs w a n cap D) :
    Calls Tryz.prog 73 #[.slice a n cap] w fun e w' => e = .returned (.int .i64 ((chkN D : Nat) : Int)) ∧ Below w.heap.size w w' := by
  have H := Lib.hid h
  clear h
  obtain ⟨w1, hw1⟩ : ∃ w1 : World, w1 = w.alloc (.cells #[.func (.func 109) #[] #[], .func (.func 110) #[] #[], .func (.func 111) #[] #[], .func (.func 112) #[] #[], .func (.func 113) #[] #[]] 48) := ⟨_, rfl⟩
  have HC : Hid (∀ k, k < 5 → w1.cell? ⟨w.heap.size, k, none⟩ = some (.func (.func (fk k)) #[] #[])) := fun k hk => by
    rw [hw1, World.cell?_alloc_new]
    rcases (by omega : k = 0 ∨ k = 1 ∨ k = 2 ∨ k = 3 ∨ k = 4) with e | e | e | e | e <;> subst e <;> rfl
  have HZ : Hid (w1.heap.size = w.heap.size + 1) := by show _ = _; rw [hw1]; simp
  have HB : Hid (Below w.heap.size w w1) := hw1 ▸ (Below.refl _ _).alloc (Nat.le_refl _) _
  have HW := Lib.hid hw1
  clear hw1
  go_enter Tryz.func73, Tryz.ntmps73
  go_wp2
  rw [← HW.out]
  go_loopw [10] (fun v wr => ∃ k : Nat, k ≤ 5 ∧ v = .int .i64 ((k : Nat) : Int) ∧ Hid (∀ j, j < k → ek D j = 0) ∧ Below w1.heap.size w1 wr) (fun v _ => 5 - (intOf v).toNat)
  case atStart => exact ⟨0, Nat.zero_le _, rfl, fun j hj => absurd hj (Nat.not_lt_zero _), Below.refl _ _⟩
  case round =>
    obtain ⟨k, hk, rfl, hp, hb⟩ := hrel
    by_cases hlt : k < 5
    · have c0 := (hb.cell (p := ⟨w.heap.size, k, none⟩) (by show w.heap.size < _; rw [HZ.out]; omega)).trans (HC.out k hlt)
      have he := fk_enters k
      unfold Enters at he
      have hbw := HB.out.trans (hb.mono (by rw [HZ.out]; omega))
      have HBW := Lib.hid hbw
      have FK := Lib.hid (fk_any k hlt wr a n cap D (H.out.below hbw) hp.out)
      have HF := Lib.hid (fun g => chk_first hlt hp.out g)
      obtain ⟨f, hf⟩ : ∃ f, fk k = f := ⟨_, rfl⟩
      rw [hf] at c0 he FK
      obtain ⟨e, hee⟩ : ∃ e, ek D k = e := ⟨_, rfl⟩
      rw [hee] at FK HF
      have HE := Lib.hid hee
      clear hf hee hbw
      by_cases h0 : e = 0
      · have hp' : Hid (∀ j, j < k + 1 → ek D j = 0) := fun j hj => by
          rcases Nat.lt_succ_iff_lt_or_eq.1 hj with g | g
          · exact hp.out j g
          · rw [g, HE.out]; exact h0
        clear hp HF HE
        subst h0
        go_wp2_with fail
        refine FK.out.mono ?_
        rintro e w2 ⟨rfl, hb2⟩
        go_wp2
        go_roundw
        case rel => exact ⟨k + 1, by omega, by go_num, hp', hb.trans (hb2.mono hb.size)⟩
        case measure => simp [intOf]; omega
      · have hr : Hid (chkN D = e) := HF.out h0
        have hne : (((e : Nat) : Int) != 0) = true := by simp; omega
        clear hp HF HE
        go_wp2_with fail
        refine FK.out.mono ?_
        rintro e w2 ⟨rfl, hb2⟩
        go_wp2
        go_ret
        exact ⟨by rw [hr.out]; rfl, HBW.out.trans (hb2.mono HBW.out.size)⟩
    · obtain rfl : k = 5 := by omega
      have hr : Hid (chkN D = 0) := chk_none hp.out
      clear hp
      go_wp2
      go_ret
      exact ⟨by rw [hr.out]; rfl, HB.out.trans (hb.mono (by rw [HZ.out]; omega))⟩

set_option maxRecDepth 100000 in
theorem Order_any (w : World) (a : Option Addr) (n cap : Nat) (D : List Dec) (h : IsDecs w a n cap D) :
    Calls Tryz.prog 39 #[.slice a n cap] w (RetLE (ordN D) (chkN D) w) := by
  have HL := Lib.hid h.len
  have H := Lib.hid h
  have CK := Lib.hid (Check_any w a n cap D h)
  obtain ⟨c, hc⟩ : ∃ z, chkN D = z := ⟨_, rfl⟩
  rw [hc] at CK
  have HC := Lib.hid hc
  clear h
  by_cases h0 : c = 0
  · subst h0
    have hg := goodN hc
    have OK := Lib.hid hg.ok
    have HN : Hid (n ≤ 256) := by have := szE_le hg.sz; rw [HL.out] at this; exact this
    have HSP : Hid (∀ i, i < n → (dc D i).sup.length ≤ 256) := fun i hi => szE_sup hg.sz i (by rw [HL.out]; exact hi)
    have hr : Hid (ordN D = plc D) := by show _ = _; unfold ordN; rw [if_pos hc]
    clear hc hg
    go_enter Tryz.func39, Tryz.ntmps39
    go_wp2_with (first
      | (go_at_call 73; refine (CK.out).mono ?_; rintro e w1 ⟨rfl, hb1⟩)
      | (go_at_call 74; (with_reducible refine (sorted_any w1 a n cap D (H.out.below hb1) OK.out HN.out HSP.out).mono ?_); rintro e w2 ⟨v2, rfl, hrow, hsm, hb2⟩; have R2 := Lib.hid hrow; clear hrow))
    go_ret2
    rw [hr.out, HC.out]
    exact ⟨v2, rfl, owns_base R2.out hb1.size, hsm, hb1.trans (hb2.mono hb1.size)⟩
  · have hr : Hid (ordN D = []) := by show _ = _; unfold ordN; rw [hc, if_neg h0]
    have hne : (((c : Nat) : Int) != 0) = true := by simp; omega
    clear hc
    go_enter Tryz.func39, Tryz.ntmps39
    go_wp2_with (go_at_call 73; refine (CK.out).mono ?_; rintro e w1 ⟨rfl, hb1⟩)
    go_ret2
    rw [hr.out, HC.out]
    exact ⟨.slice none 0 0, rfl, World.ownsRow_nil _ _ _ _, (fun _ h => (List.not_mem_nil h).elim), hb1⟩
end Go.Proofs.YtdeamdpoegdmdaaGreatDoor

/- Plain: what the search for reached types keeps. Library: Clone. -/
namespace Go.Proofs.YtdeamdpoegdmdaaGreatDoor
open Go.RowKit Go.Maps

/-- Between two rounds: K is reached, W waits. -/
structure Rch (f : Str → List Str) (N s K W : List Str) : Prop where
  nodup : K.Nodup
  sub : ∀ x ∈ K, x ∈ N
  sound : ∀ x ∈ K, ∃ y ∈ s, Rc f y x
  wsub : ∀ x ∈ W, x ∈ s ∨ x ∈ K
  closed : ∀ y, (y ∈ s ∨ y ∈ K) → y ∈ W ∨ ∀ z ∈ f y, z ∈ K
theorem Rch.start (f : Str → List Str) (N s : List Str) : Rch f N s [] s :=
  ⟨List.nodup_nil, (fun _ h => (List.not_mem_nil h).elim), (fun _ h => (List.not_mem_nil h).elim), fun _ h => .inl h, fun y h => by
    rcases h with h | h
    · exact .inl h
    · cases h⟩
theorem Rch.end {f : Str → List Str} {N s K : List Str} (h : Rch f N s K []) (x : Str) : x ∈ K ↔ ∃ y ∈ s, Rc f y x := by
  have hc : ∀ y, (y ∈ s ∨ y ∈ K) → ∀ z ∈ f y, z ∈ K := fun y hy => by
    rcases h.closed y hy with g | g
    · cases g
    · exact g
  constructor
  · exact h.sound x
  · rintro ⟨y, hy, r⟩
    induction r with
    | one e => exact hc _ (.inl hy) _ e
    | more _ e ih => exact hc _ (.inr ih) _ e
/-- Within a round: cur is taken, j of its links are followed. -/
structure Rin (f : Str → List Str) (N s K W : List Str) (cur : Str) (j : Nat) : Prop where
  nodup : K.Nodup
  sub : ∀ x ∈ K, x ∈ N
  sound : ∀ x ∈ K, ∃ y ∈ s, Rc f y x
  wsub : ∀ x ∈ W, x ∈ s ∨ x ∈ K
  cur_ : cur ∈ s ∨ cur ∈ K
  closed : ∀ y, (y ∈ s ∨ y ∈ K) → y ∈ W ∨ y = cur ∨ ∀ z ∈ f y, z ∈ K
  done : ∀ z ∈ (f cur).take j, z ∈ K
theorem Rch.pop {f : Str → List Str} {N s K W : List Str} {cur : Str} (h : Rch f N s K (W ++ [cur])) : Rin f N s K W cur 0 :=
  ⟨h.nodup, h.sub, h.sound, fun x hx => h.wsub x (List.mem_append_left _ hx), h.wsub cur (by simp), fun y hy => by
    rcases h.closed y hy with g | g
    · rcases List.mem_append.1 g with e | e
      · exact .inl e
      · simp at e; exact .inr (.inl e)
    · exact .inr (.inr g), fun z hz => by rw [List.take_zero] at hz; cases hz⟩
theorem Rin.old {f : Str → List Str} {N s K W : List Str} {cur : Str} {j : Nat} (h : Rin f N s K W cur j) (hj : j < (f cur).length) (hz : st (f cur) j ∈ K) : Rin f N s K W cur (j + 1) :=
  ⟨h.nodup, h.sub, h.sound, h.wsub, h.cur_, h.closed, fun z hz2 => by
    rw [take_st hj, List.mem_append, List.mem_singleton] at hz2
    rcases hz2 with e | e
    · exact h.done z e
    · rw [e]; exact hz⟩
theorem Rin.new {f : Str → List Str} {N s K W : List Str} {cur : Str} {j : Nat} (hN : ∀ x y, y ∈ f x → y ∈ N) (h : Rin f N s K W cur j) (hj : j < (f cur).length) (hz : st (f cur) j ∉ K) : Rin f N s (K ++ [st (f cur) j]) (W ++ [st (f cur) j]) cur (j + 1) := by
  have hin : st (f cur) j ∈ f cur := st_mem hj
  refine ⟨?_, fun x hx => ?_, fun x hx => ?_, fun x hx => ?_, ?_, fun y hy => ?_, fun z hz2 => ?_⟩
  · rw [List.nodup_append]
    refine ⟨h.nodup, by simp, fun a ha b hb e => ?_⟩
    simp at hb
    subst hb
    exact hz (e ▸ ha)
  · rcases List.mem_append.1 hx with e | e
    · exact h.sub x e
    · simp at e; rw [e]; exact hN _ _ hin
  · rcases List.mem_append.1 hx with e | e
    · exact h.sound x e
    · simp at e; rw [e]
      rcases h.cur_ with g | g
      · exact ⟨cur, g, .one hin⟩
      · obtain ⟨y, hy, r⟩ := h.sound cur g
        exact ⟨y, hy, .more r hin⟩
  · rcases List.mem_append.1 hx with e | e
    · rcases h.wsub x e with g | g
      · exact .inl g
      · exact .inr (List.mem_append_left _ g)
    · exact .inr (List.mem_append_right _ e)
  · rcases h.cur_ with g | g
    · exact .inl g
    · exact .inr (List.mem_append_left _ g)
  · have hy2 : (y ∈ s ∨ y ∈ K) ∨ y = st (f cur) j := by
      rcases hy with e | e
      · exact .inl (.inl e)
      · rcases List.mem_append.1 e with g | g
        · exact .inl (.inr g)
        · simp at g; exact .inr g
    rcases hy2 with g | g
    · rcases h.closed y g with e | e | e
      · exact .inl (List.mem_append_left _ e)
      · exact .inr (.inl e)
      · exact .inr (.inr fun z hz => List.mem_append_left _ (e z hz))
    · exact .inl (by rw [g]; simp)
  · rw [take_st hj, List.mem_append, List.mem_singleton] at hz2
    rcases hz2 with e | e
    · exact List.mem_append_left _ (h.done z e)
    · rw [e]; simp
theorem Rin.end {f : Str → List Str} {N s K W : List Str} {cur : Str} (h : Rin f N s K W cur (f cur).length) : Rch f N s K W :=
  ⟨h.nodup, h.sub, h.sound, h.wsub, fun y hy => by
    rcases h.closed y hy with e | e | e
    · exact .inl e
    · rw [e]; exact .inr fun z hz => h.done z (by rw [List.take_length]; exact hz)
    · exact .inr e⟩
theorem Rin.len {f : Str → List Str} {N s K W : List Str} {cur : Str} {j : Nat} (h : Rin f N s K W cur j) : K.length ≤ N.length := nodup_len h.nodup h.sub

theorem Clone_any (w : World) (a : Option Addr) (n cap : Nat) (zs : List Str) (h : IsStrs w a n cap zs) (hn : n ≤ 100000) :
    Calls Tryz.prog 143 #[.slice a n cap] w fun e w' => ∃ v, e = .returned v ∧ w'.ownsRow w.heap.size 9 1 v n (svals zs) ∧ Below w.heap.size w w' := by
  have hl := h.len
  cases a with
  | none =>
    have h0 := h.nil_ rfl
    have hc := h.capLe
    obtain rfl : n = 0 := by omega
    have hz : zs = [] := List.eq_nil_of_length_eq_zero hl
    subst hz
    exact (Tryz.slices_Clone_string_nil 0 cap w).mono fun e w' hh => ⟨_, hh.1, World.ownsRow_nil _ _ _ _, by rw [hh.2]; exact Below.refl _ _⟩
  | some ad =>
    by_cases h0 : n = 0
    · subst h0
      have hz : zs = [] := List.eq_nil_of_length_eq_zero hl
      subst hz
      exact (Tryz.slices_Clone_string_zero ad cap w).mono fun e w' hh => by
        obtain ⟨v, e1, e2, _, e4⟩ := hh
        exact ⟨v, e1, e2, e4⟩
    · obtain ⟨b, off, e, hbl, hx⟩ := h.at_ (by omega)
      cases e
      refine (Tryz.slices_Clone_string b off n cap (zs.map mk) w (by simp [hl]) (by omega) (fun j hj => ?_)).mono fun e w' hh => ?_
      · have hj : j < n := by simpa [hl] using hj
        rw [hx j hj, getD_mk (by omega)]
      · obtain ⟨v, e1, e2, _, e4⟩ := hh
        refine ⟨v, e1, ?_, e4⟩
        rw [List.take_of_length_le (by simp [hl]), List.map_map] at e2
        exact e2
/-- A row without its last element. -/
theorem owns_pop {w : World} {B n : Nat} {g cap : Nat} {zs : List Str} {x : Str} (h : w.ownsRow B 9 1 (.slice (some ⟨g, 0, none⟩) (n + 1) cap) (n + 1) (svals (zs ++ [x]))) : w.ownsRow B 9 1 (.slice (some ⟨g, 0, none⟩) n cap) n (svals zs) := by
  have hl := h.1
  rw [svals_len, List.length_append] at hl
  simp only [List.length_cons, List.length_nil] at hl
  rcases h.2 with ⟨e, _⟩ | ⟨g', cap', cur, e, hB, hg, hn, hm, hs, ht⟩
  · cases e
  · cases e
    refine ⟨by rw [svals_len]; omega, .inr ⟨g, cap, cur, rfl, hB, hg, by omega, hm, hs, ?_⟩⟩
    have h2 := congrArg (List.take (n * 1)) ht
    rw [List.take_take, Nat.min_eq_left (by omega)] at h2
    rw [h2, ← svals_snoc, List.take_append_of_le_length (by rw [svals_len]; omega), List.take_of_length_le (by rw [svals_len]; omega)]
end Go.Proofs.YtdeamdpoegdmdaaGreatDoor

/- Walks of package poset: reach. -/
namespace Go.Proofs.YtdeamdpoegdmdaaGreatDoor
open Go.RowKit Go.Maps

/-- A map of bools whose keys are these, each true. -/
structure IsSet (w : World) (b n : Nat) (M : DataW Value) (K : List Str) : Prop where
  map : w.ownsMap Tryz.prog 9 raw b n M
  has : ∀ x, mhas M x = inS K x
  get : ∀ x, mget M x (.bool false) = .bool (inS K x)
theorem IsSet.put {w' : World} {w : World} {b n n' : Nat} {M : DataW Value} {K : List Str} (h : IsSet w b n M K) (x : Str) (h' : w'.ownsMap Tryz.prog 9 raw b n' (mput M x (.bool true))) : IsSet w' b n' (mput M x (.bool true)) (K ++ [x]) :=
  ⟨h', fun y => by rw [mhas_put (owns_isMap h.map), h.has, inS_snoc], fun y => by rw [mget_put (owns_isMap h.map), h.get, inS_snoc, ite_bool]⟩
theorem IsSet.made (w : World) : IsSet (w.alloc (.map #[] 0)) w.heap.size 0 (.map []) [] := ⟨World.ownsMap_made _ _ _ _, fun _ => rfl, fun _ => rfl⟩
theorem IsSet.below {w w' : World} {b n : Nat} {M : DataW Value} {K : List Str} (h : IsSet w b n M K) (hb : Below w.heap.size w w') : IsSet w' b n M K := ⟨map_below h.map hb, h.has, h.get⟩
/-- The call returns such a set, which is its own: what is reached. -/
def RetS (f : Str → List Str) (N s : List Str) (w : World) (e : Ending) (w' : World) : Prop :=
  ∃ b M K, e = .returned (.map (some b)) ∧ w.heap.size ≤ b ∧ IsSet w' b K.length M K ∧ Rch f N s K [] ∧ Below w.heap.size w w'

set_option maxRecDepth 100000 in
set_option maxHeartbeats 6400000 in
theorem reach_any (w : World) (lb ln : Nat) (N : List Str) (f : Str → List Str) (hl : Links w lb ln N f) (hN : ∀ x y, y ∈ f x → y ∈ N) (hNl : N.length ≤ 256) (hNs : ∀ z ∈ N, z.length ≤ maxLen) (hfl : ∀ x, (f x).length ≤ 70000) (a : Option Addr) (m cap : Nat) (s : List Str) (hs : IsStrs w a m cap s) (hm : m ≤ 1000) :
    Calls Tryz.prog 107 #[.map (some lb), .slice a m cap] w (RetS f N s w) := by
  have LK := Lib.hid hl
  have HNN := Lib.hid hN
  have HNS := Lib.hid hNs
  have HFL := Lib.hid hfl
  have HSS := Lib.hid hs
  have HSL := Lib.hid hs.small
  have HSN := Lib.hid hs.len
  have CL := Lib.hid (Clone_any (w.alloc (.map #[] 0)) a m cap s (hs.below ((Below.refl _ _).alloc (Nat.le_refl _) _)) (by omega))
  clear hl hN hNs hfl hs
  have hmm := @run_makeMap Tryz.prog
  go_enter Tryz.func107, Tryz.ntmps107
  go_wp2_with (go_at_call 143; refine CL.out.mono ?_; rintro e w1 ⟨v1, rfl, hrow, hb1⟩; have R1 := Lib.hid hrow; have HB1 := Lib.hid hb1; clear hrow hb1)
  clear hmm
  have hz1 := HB1.out.size
  rw [World.size_alloc] at hz1
  go_loopg [6] (m + N.length) (fun g o wr => ∃ (wn : Nat) (M : DataW Value) (K W : List Str), Hid (W.length = wn) ∧ wn + N.length = K.length + g ∧ wn ≤ m + K.length ∧ Hid (Rch f N s K W) ∧ Hid (IsSet wr w.heap.size K.length M K) ∧ Hid (wr.ownsRow (w.heap.size + 1) 9 1 o wn (svals W)) ∧ w.heap.size < wr.heap.size ∧ Below w.heap.size w wr)
  case atStart => exact ⟨m, .map [], [], s, HSN.out, by simp, by omega, Rch.start f N s, (IsSet.made w).below HB1.out, by have := R1.out; rwa [World.size_alloc] at this, by omega, ((Below.refl _ _).alloc (Nat.le_refl _) _).trans (HB1.out.mono (by rw [World.size_alloc]; omega))⟩
  case round =>
    obtain ⟨wn, M, K, W, HWL, hg, hwm, HR, HS, HO, hz, hb⟩ := hrel
    obtain ⟨wo, hwo⟩ : ∃ wo : World, wo = wr := ⟨_, rfl⟩
    subst hwo
    have hKl : K.length ≤ N.length := nodup_len HR.out.nodup HR.out.sub
    have HWS : Hid (∀ z ∈ W, z.length ≤ maxLen) := fun z hz => by
      rcases HR.out.wsub z hz with e | e
      · exact HSL.out z e
      · exact HNS.out z (HR.out.sub z e)
    by_cases h0 : wn = 0
    · have hW : W = [] := List.eq_nil_of_length_eq_zero (HWL.out.trans h0)
      subst hW
      subst h0
      obtain ⟨ra, rc, rfl, hri⟩ := IsStrs.of_owns HO.out HWS.out
      clear hri
      go_wp2
      go_ret
      exact ⟨w.heap.size, M, K, rfl, Nat.le_refl _, HS.out, HR.out, hb⟩
    · obtain ⟨W', cur, rfl⟩ : ∃ W' cur, W = W' ++ [cur] := by
        rcases List.eq_nil_or_concat W with e | ⟨t, u, e⟩
        · rw [e] at HWL; exact absurd HWL.out.symm h0
        · exact ⟨t, u, by rw [e, List.concat_eq_append]⟩
      obtain ⟨wn, rfl⟩ : ∃ k, wn = k + 1 := ⟨wn - 1, by omega⟩
      have HWL2 : Hid (W'.length = wn) := by
        show _ = _
        have := HWL.out
        rw [List.length_append] at this
        simpa using this
      rcases owns_shape HO.out HWS.out with ⟨_, e, _⟩ | ⟨g0, rc, rfl, hg0, hg1, hri⟩
      · omega
      have hrc := hri.capLe
      have hrm := hri.maxLe
      unfold maxLen at hrm
      have c0 : wo.cell? ⟨g0, wn, none⟩ = some (.string (mk cur)) := by
        obtain ⟨b2, o2, e, _, hcs⟩ := hri.at_ (by omega)
        cases e
        have := hcs wn (by omega)
        rw [Nat.zero_add] at this
        rw [this]
        have h2 : st (W' ++ [cur]) wn = cur := by
          unfold st
          rw [List.getD_eq_getElem?_getD, List.getElem?_append_right (by rw [HWL2.out]; exact Nat.le_refl _), HWL2.out, Nat.sub_self]; rfl
        rw [h2]
      have HO2 := Lib.hid (owns_pop HO.out)
      have HRI := Lib.hid HR.out.pop
      have HCL : Hid (cur.length ≤ maxLen) := HWS.out cur (by simp)
      obtain ⟨MB, hmown, hmhas, hmget⟩ := LK.out
      obtain ⟨la, lc, hle, hli⟩ := hmget cur
      have HLE := Lib.hid hle
      have HMB := Lib.hid (map_below hmown hb)
      have HLI := Lib.hid hli
      have hfc := HFL.out cur
      have hlic := hli.capLe
      have hlim := hli.maxLe
      unfold maxLen at hlim
      obtain ⟨fl, hfl⟩ : ∃ z, (f cur).length = z := ⟨_, rfl⟩
      rw [hfl] at HLE HLI hfc hlic
      have HF := Lib.hid hfl
      have hgk : 0 < gk := by
        have := hg
        omega
      clear hmown hmhas hmget hle hli hfl hri HO HR HWL HWS
      go_wp2_with (at_lookup; refine wpList_lookup_raw rfl _ _ 92 rfl 49 Tryz.underlying92 (zeroL _) lb ln MB rfl HMB.out cur rfl HCL.out ?_; rw [HLE.out])
      go_loopw [6, 31] (fun o v wi => ∃ (j wn : Nat) (M : DataW Value) (K W : List Str), j ≤ fl ∧ v = .int .i64 j ∧ Hid (W.length = wn) ∧ wn + N.length + 1 = K.length + gk ∧ wn ≤ m + K.length ∧ Hid (Rin f N s K W cur j) ∧ Hid (IsSet wi w.heap.size K.length M K) ∧ Hid (wi.ownsRow (w.heap.size + 1) 9 1 o wn (svals W)) ∧ w.heap.size < wi.heap.size ∧ Below w.heap.size w wi) (fun _ v _ => fl - (intOf v).toNat)
      case atStart => exact ⟨0, wn, M, K, W', Nat.zero_le _, rfl, HWL2.out, by omega, by omega, HRI.out, HS.out, HO2.out, hz, hb⟩
      case round =>
        clear HRI HS HO2 HWL2 hKl hz c0
        obtain ⟨j, wn, M, K, W, hj, rfl, HWL, hg2, hwm, HR, HS, HO, hz, hbi⟩ := hrel
        obtain ⟨wi, hwi⟩ : ∃ wi : World, wi = wr := ⟨_, rfl⟩
        subst hwi
        have hKl := HR.out.len
        by_cases hlt : j < fl
        · obtain ⟨b2, off2, rfl, hbl2, hx2⟩ := HLI.out.at_ (by omega)
          have d0 := (hbi.cell (p := ⟨b2, off2 + j, none⟩) hbl2).trans (hx2 j hlt)
          have hjl : j < (f cur).length := by rw [HF.out]; exact hlt
          have HXN := Lib.hid (HNN.out _ _ (st_mem hjl))
          have HXL := Lib.hid (HNS.out _ HXN.out)
          have HG0 := Lib.hid (HS.out.get (st (f cur) j))
          have HOLD := Lib.hid (fun hz => HR.out.old hjl hz)
          have HNEW := Lib.hid (fun hz => HR.out.new HNN.out hjl hz)
          obtain ⟨x, hx'⟩ : ∃ x, st (f cur) j = x := ⟨_, rfl⟩
          rw [hx'] at d0 HXN HXL HG0 HOLD HNEW
          have HMP := Lib.hid HS.out.map
          obtain ⟨p, hp⟩ : ∃ p, inS K x = p := ⟨_, rfl⟩
          rw [hp] at HG0
          have HP := Lib.hid hp
          clear hx2 hx' hjl hp
          cases p
          · have HRN := Lib.hid (HNEW.out (inS_not.1 HP.out))
            have hkn := HRN.out.len
            rw [List.length_append] at hkn
            simp only [List.length_cons, List.length_nil] at hkn
            go_wp2_with (first
              | (at_lookup; refine wpList_lookup_raw rfl _ _ 121 rfl 4 Tryz.underlying121 (zeroB _) w.heap.size _ M rfl HMP.out x rfl HXL.out ?_; rw [HG0.out])
              | (at_mapUpdate; refine wpList_update_raw rfl _ _ _ 121 rfl 4 Tryz.underlying121 w.heap.size _ M rfl HMP.out (by omega) x (.bool true) rfl rfl HXL.out ?_; intro w5 hown5 hgrow5; have S5 := Lib.hid (HS.out.put x hown5); have O5 := Lib.hid (owns_kept_map HO.out hgrow5 (by omega)); have hz5 := hgrow5.size; have B5 := Lib.hid (hbi.grown hgrow5 hbi.size (fun g e => by cases e; exact Nat.le_refl _)); clear hown5 hgrow5)
              | (at_builtin; refine wpList_append_at rfl _ _ rfl (w.heap.size + 1) _ _ _ rfl (O5.out.alloc _) ⟨w5.heap.size, 0, none⟩ x rfl (cell_of_one (heap_alloc_new w5 _)) (by omega) (by simp; omega) ?_; intro v6 w6 hown6 hgrow6 hloc6; have O6 := Lib.hid hown6; have S6 := Lib.hid (IsSet.mk (map_kept_row (S5.out.map.alloc _) (O5.out.alloc _) hgrow6 (by omega)) S5.out.has S5.out.get); have hz6 := hgrow6.size; have B6 := Lib.hid (grown_below (B5.out.alloc B5.out.size _) (by have := B5.out.size; simp; omega) (owns_base (O5.out.alloc _) (by omega)) hgrow6); clear hown6 hgrow6 hloc6))
            go_roundw
            case rel => exact ⟨j + 1, wn + 1, _, K ++ [x], W ++ [x], by omega, by go_num, by show _ = _; rw [List.length_append, HWL.out]; rfl, by rw [List.length_append]; simp only [List.length_cons, List.length_nil]; omega, by rw [List.length_append]; simp only [List.length_cons, List.length_nil]; omega, HRN.out, by rw [List.length_append]; exact S6.out, O6.out, by simp at hz6; omega, B6.out⟩
            case measure => simp [intOf]; omega
          · have HRN := Lib.hid (HOLD.out (inS_iff.1 HP.out))
            go_wp2_with (at_lookup; refine wpList_lookup_raw rfl _ _ 121 rfl 4 Tryz.underlying121 (zeroB _) w.heap.size _ M rfl HMP.out x rfl HXL.out ?_; rw [HG0.out])
            go_roundw
            case rel => exact ⟨j + 1, wn, M, K, W, by omega, by go_num, HWL, hg2, hwm, HRN.out, HS.out, HO.out, hz, hbi⟩
            case measure => simp [intOf]; omega
        · obtain rfl : fl = j := by omega
          have HRE : Hid (Rch f N s K W) := by
            have := HR.out
            rw [← HF.out] at this
            exact this.end
          clear hlt hj HR
          go_wp2
          go_roundg (gk - 1)
          case rel => exact ⟨wn, M, K, W, HWL, by omega, hwm, HRE.out, HS.out, HO.out, hz, hbi⟩
          case measure => omega
end Go.Proofs.YtdeamdpoegdmdaaGreatDoor

/- The keys of a set, sorted. Walks of package poset: from, Above, Below. -/
namespace Go.Proofs.YtdeamdpoegdmdaaGreatDoor
open Go.RowKit Go.Maps Go.Sort Go.Shelf

theorem sorts_any (m : Nat) : AnyZ.SortsIn Tryz.prog Tryz.sorted40_ren Fence.wide m :=
  ⟨fun blk off cap ss W hH hblk hsz => callsIn_wide.2 (AnyM.slices_Sort_string Tryz.sort76 blk off cap ss W hH hblk hsz),
   fun p cap W => callsIn_wide.2 (AnyM.slices_Sort_string_none Tryz.sort76 p cap W)⟩

theorem Keys_any (mb : Option Nat) (W : World) : Calls Tryz.prog 108 #[.map mb] W fun e w' => e = .returned (.func (.func 144) #[] #[.pointer (some ⟨W.heap.size, 0, none⟩)]) ∧ w' = W.alloc (.cells #[.map mb] 121) :=
  callsIn_wide.1 (AnyZ.keys_in Tryz.keys108 Fence.wide 5 trivial rfl mb W)

theorem perm_keys {w : World} {b n : Nat} {M : DataW Value} {K : List Str} (h : IsSet w b n M K) (hnd : K.Nodup) : K.Perm (strKeys M) := by
  obtain ⟨es, e, hp⟩ := h.map.tidy lawS
  obtain ⟨es2, e2, hk⟩ := h.map.keysOf
  subst e
  injection e2 with e3
  subst e3
  refine perm_strKeys hp (fun p hp => ?_) hnd (fun x => ?_)
  · obtain ⟨v, hv⟩ := hk p hp
    obtain ⟨x, _, e, _⟩ := keyOf_str Tryz.underlying9 hv
    exact ⟨x, e⟩
  · have := h.has x
    unfold mhas at this
    rw [this, inS_iff]

set_option maxHeartbeats 1600000 in
theorem SortedKeys_any (w : World) (b n : Nat) (M : DataW Value) (K : List Str) (h : IsSet w b n M K) (hnd : K.Nodup) (hn : n ≤ 70000) (hsm : ∀ z ∈ K, z.length ≤ maxLen) :
    Calls Tryz.prog 40 #[.func (.func 144) #[] #[.pointer (some ⟨w.heap.size, 0, none⟩)]] (w.alloc (.cells #[.map (some b)] 121)) (RetL (srt K) (w.alloc (.cells #[.map (some b)] 121))) := by
  have hown := h.map
  have hbl := hown.lt
  have hs : Maps.size M ≤ n := hown.size_le
  have hperm := perm_keys h hnd
  have hseq : SeqGives Fence.wide 2 Tryz.prog 144 #[.pointer (some ⟨w.heap.size, 0, none⟩)] encStr (fun ss => ss.Perm (strKeys M)) (Maps.size M) (w.alloc (.cells #[.map (some b)] 121)) :=
    AnyZ.keys_gives (ρ := Tryz.keys108_ren) { Tryz.keys108 with } Fence.wide _ trivial rfl (by omega) w.heap.size b n M _ (by simp) (by simp) (by
      obtain ⟨es, clock, hb, Ft, hs, hD⟩ := hown
      exact ⟨es, clock, (Below.heap_alloc _ _ b hbl).trans hb, Ft, hs, hD⟩)
  refine (callsIn_wide.1 (AnyZ.sorted_in Tryz.sorted40 Fence.wide 5 trivial trivial trivial trivial rfl (by omega) (sorts_any _) (enters_of Tryz.func76 (by kernel_rfl) rfl) 144 #[.pointer (some ⟨w.heap.size, 0, none⟩)] trivial (enters_of Tryz.func144 (by kernel_rfl) rfl) _ _ (by unfold maxLen; omega) (by omega) _ hseq)).mono ?_
  rintro e w' ⟨v, ss, rfl, hS, hrow, -, hb⟩
  have e1 : ss.mergeSort leB = srt K := by
    rw [mergeSort_of_perm (hS.trans hperm.symm)]
    exact merge_srt hnd
  have e2 : ss.length = (srt K).length := by
    rw [← e1]; exact (List.mergeSort_perm ss leB).length_eq.symm
  refine ⟨v, rfl, ?_, small_srt hsm, hb⟩
  have hrow' : w'.ownsRow (w.alloc (.cells #[.map (some b)] 121)).heap.size 9 1 v ss.length ((ss.mergeSort leB).map encStr) := hrow
  rw [e1, e2] at hrow'
  exact hrow'
end Go.Proofs.YtdeamdpoegdmdaaGreatDoor
