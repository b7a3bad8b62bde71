/- Maps that the call makes, their values taken as they are. -/
import Derived.Test.YtmhbblehgckelaaPo
import Derived.Maps.OwnSet
import Derived.Maps.OwnOps
import Derived.Maps.Views
import Derived.Sort.KeysCollected
namespace Go.Proofs.Ytmhbblehgckelaa
open Go.RowKit Go.Maps

/-- Every value reads as itself. -/
def raw (v : Value) : Option (DataW Value × List MemPlace) := some (.held v, [])
def un : DataW Value → Value | .held v => v | _ => undef
/-- What a map holds at a string; z where it holds nothing. -/
def mget (D : DataW Value) (x : Str) (z : Value) : Value := un (D.atKey (.string x) (.held z))
def mhas (D : DataW Value) (x : Str) : Bool := Maps.has D (.string x)
def mput (D : DataW Value) (x : Str) (v : Value) : DataW Value := D.put (.string x) (.held v)
theorem lawS : Keyed Try.prog 9 := string_keyed Try.underlying9
theorem key_str (x : Str) : WideAt.IsKeyLit (.string x) := trivial
theorem keyS {x : Str} (h : x.length ≤ maxLen) : keyOf Try.prog 9 (.string (mk x)) = some (.string x) := by
  have := Go.WideMaps.keyOf_string_mk (s := mk x) Try.underlying9 (by rw [mk_size]; exact h)
  rwa [mk_list] at this
theorem mget_put {D : DataW Value} (h : IsMap D) (x y : Str) (v z : Value) : mget (mput D y v) x z = if x = y then v else mget D x z := by
  unfold mget mput
  by_cases e : x = y
  · rw [if_pos e, e, atKey_put_same h (key_str y)]; rfl
  · rw [if_neg e, atKey_put_other (fun g => e (by injection g))]
theorem mhas_put {D : DataW Value} (h : IsMap D) (x y : Str) (v : Value) : mhas (mput D y v) x = (x == y || mhas D x) := by
  unfold mhas mput
  by_cases e : x = y
  · rw [e, has_put_same h (key_str y)]; simp
  · rw [has_put_other (fun g => e (by injection g))]
    have : (x == y) = false := by simpa using e
    rw [this]; rfl
theorem mhas_empty (x : Str) : mhas (.map []) x = false := rfl
theorem mget_empty (x : Str) (z : Value) : mget (.map []) x z = z := rfl

section
variable {w : World} {ops : Array Oper} {rest : List Oper} {o : Oper} {a : Act} {Q : Exit → Act → World → Prop}
/-- m[x], without ok. -/
theorem wpList_lookup_raw (hg : o.guard = none) (m x : Operand) (t : TypeId) (hop : o.op = Op.lookup t m x false)
    (e : TypeId) (ht : Try.prog.underlying t = some (.map 9 e)) {z : Value} (hz : (zeroValue e).run Try.prog w = .ok z w) (b n : Nat) (D : DataW Value)
    (hm : a.eval m = .map (some b)) (hown : w.ownsMap Try.prog 9 raw b n D) (s : Str) (hx : a.eval x = .string (mk s)) (hs : s.length ≤ maxLen)
    (hK : wpList Try.prog ops Q rest (a.put o.dst (mget D s z)) w) : wpList Try.prog ops Q (o :: rest) a w := by
  refine wpList_plain hg fun K' hK' => ?_
  obtain ⟨v, ps, hrun, hv⟩ := hown.lookup lawS ht hz (zd := .held z) (zp := []) rfl (keyS hs)
  have e1 : mget D s z = v := by
    unfold mget
    unfold raw at hv
    have := congrArg (fun y : DataW Value × List MemPlace => y.1) (Option.some.inj hv)
    simp only at this
    rw [← this]; rfl
  rw [e1] at hK
  unfold Oper.wp
  simp [execOp, hop, hm, hx, hrun, Result.andThen]
  exact hK' _ _ hK
/-- v, ok := m[x]. -/
theorem wpList_lookup_raw_ok (hg : o.guard = none) (m x : Operand) (t : TypeId) (hop : o.op = Op.lookup t m x true)
    (e : TypeId) (ht : Try.prog.underlying t = some (.map 9 e)) {z : Value} (hz : (zeroValue e).run Try.prog w = .ok z w) (b n : Nat) (D : DataW Value)
    (hm : a.eval m = .map (some b)) (hown : w.ownsMap Try.prog 9 raw b n D) (s : Str) (hx : a.eval x = .string (mk s)) (hs : s.length ≤ maxLen)
    (hK : wpList Try.prog ops Q rest (a.put o.dst (.tuple #[mget D s z, .bool (mhas D s)])) w) : wpList Try.prog ops Q (o :: rest) a w :=
  wpList_lookup_own_ok w hg m x t hop 9 e lawS ht raw hz (.held z) [] rfl b n D hm hown (.string (mk s)) (.string s) hx (keyS hs) fun v ps hv => by
    have e1 : mget D s z = v := by
      unfold mget
      unfold raw at hv
      have := congrArg (fun y : DataW Value × List MemPlace => y.1) (Option.some.inj hv)
      simp only at this
      rw [← this]; rfl
    rw [e1] at hK
    exact hK
/-- m[x] = v. -/
theorem wpList_update_raw (hg : o.guard = none) (m x v : Operand) (t : TypeId) (hop : o.op = Op.mapUpdate t m x v)
    (e : TypeId) (ht : Try.prog.underlying t = some (.map 9 e)) (b n : Nat) (D : DataW Value)
    (hm : a.eval m = .map (some b)) (hown : w.ownsMap Try.prog 9 raw b n D) (hn : n < 1000000) (s : Str) (val : Value) (hx : a.eval x = .string (mk s)) (hv : a.eval v = val) (hs : s.length ≤ maxLen)
    (hK : ∀ w', w'.ownsMap Try.prog 9 raw b (n + 1) (mput D s val) → w.grownBy w' (some b) → wpList Try.prog ops Q rest (a.put o.dst undef) w') : wpList Try.prog ops Q (o :: rest) a w :=
  wpList_mapUpdate_own w hg m x v t hop 9 e lawS ht raw b n D hm hown (by unfold maxLen; omega) (.string (mk s)) val (.string s) hx hv (keyS hs) (.held val) [] rfl hK
end
theorem owns_isMap {w : World} {b n : Nat} {D : DataW Value} (h : w.ownsMap Try.prog 9 raw b n D) : IsMap D := by
  obtain ⟨es, clock, _, _, _, rfl⟩ := h; exact ⟨_, rfl⟩
theorem map_below {w w' : World} {b n : Nat} {D : DataW Value} (h : w.ownsMap Try.prog 9 raw b n D) (hb : Below w.heap.size w w') : w'.ownsMap Try.prog 9 raw b n D := by
  have hlt := h.lt
  obtain ⟨es, clock, he, F, hs, hD⟩ := h
  exact ⟨es, clock, (hb.block b hlt).trans he, F, hs, hD⟩
theorem run_makeMapN {t k e : TypeId} (ht : Try.prog.underlying t = some (.map k e)) (x : Int) (w : World) : (Instr.makeMap t (some (.int .i64 x))).run Try.prog w = .ok (.map (some w.heap.size)) (w.alloc (.map #[] 0)) := by
  simp [Instr.makeMap, run_underlying ht, asInt, Result.andThen]
  rfl
theorem zeroB (w : World) : (zeroValue 4).run Try.prog w = .ok (.bool false) w := by kernel_rfl
theorem zeroI (w : World) : (zeroValue 3).run Try.prog w = .ok (.int .i64 0) w := by kernel_rfl
theorem zeroL (w : World) : (zeroValue 25).run Try.prog w = .ok (.slice none 0 0) w := by kernel_rfl
/-- The error of the tops. -/
def topE (D : List Dec) : Nat := if tops D ≠ 1 then 1 else 0

set_option maxRecDepth 100000 in
theorem checkTop_any (w : World) (a : Option Addr) (n cap : Nat) (D : List Dec) (h : IsDecs w a n cap D) (hn : n ≤ 256) :
    Calls Try.prog 27 #[.slice a n cap] w fun e w' => e = .returned (.int .i64 ((topE D : Nat) : Int)) ∧ Below w.heap.size w w' := by
  have hm := h.maxLe
  have hc := h.capLe
  unfold maxLen at hm
  have HL := Lib.hid h.len
  have H := Lib.hid h
  clear h
  go_enter Try.func27, Try.ntmps27
  go_wp2
  go_loopw [3, 8] (fun c v wr => ∃ k : Nat, k ≤ n ∧ v = .int .i64 k ∧ c = .int .i64 ((tops (D.take k) : Nat) : Int) ∧ Below w.heap.size w wr) (fun _ v _ => n - (intOf v).toNat)
  case atStart => exact ⟨0, Nat.zero_le _, rfl, rfl, Below.refl _ _⟩
  case round =>
    obtain ⟨k, hk, rfl, rfl, hb⟩ := hrel
    have htl := tops_le (D.take k)
    rw [List.length_take] at htl
    by_cases hlt : k < n
    · obtain ⟨b, off, rfl, hbl, hx⟩ := (H.out.below hb).at_ (by omega)
      obtain ⟨sa, sc', fa, fc, hd⟩ := hx k hlt
      have c0 := hd.c0
      have c1 := hd.c1
      have c2 := hd.c2
      have hts := tops_succ (D := D) (k := k) (by rw [HL.out]; exact hlt)
      obtain ⟨sl, hsl⟩ : ∃ z, (dc D k).sup.length = z := ⟨_, rfl⟩
      rw [hsl] at c1 hts
      obtain ⟨tk, htk⟩ : ∃ z, tops (D.take k) = z := ⟨_, rfl⟩
      rw [htk] at hts htl
      rw [htk]
      clear hx hd hsl htk
      by_cases h0 : sl = 0
      · rw [if_pos h0] at hts
        have HTS := Lib.hid hts
        subst h0
        clear hts
        go_wp2
        go_roundw
        case rel => exact ⟨k + 1, by omega, by go_num, by rw [HTS.out]; go_num, hb.alloc hb.size _⟩
        case measure => simp [intOf]; omega
      · rw [if_neg h0] at hts
        have HTS := Lib.hid hts
        have hne : (((sl : Nat) : Int) == 0) = false := by simp; omega
        clear hts
        go_wp2
        go_roundw
        case rel => exact ⟨k + 1, by omega, by go_num, by rw [HTS.out]; go_num, hb.alloc hb.size _⟩
        case measure => simp [intOf]; omega
    · obtain rfl : n = k := by omega
      have hall : D.take n = D := List.take_of_length_le (by rw [HL.out]; exact Nat.le_refl _)
      rw [hall] at htl
      rw [hall]
      have HE : Hid (topE D = if tops D ≠ 1 then 1 else 0) := rfl
      obtain ⟨tp, htp⟩ : ∃ z, tops D = z := ⟨_, rfl⟩
      rw [htp] at htl HE
      rw [htp]
      clear hall htp hlt
      by_cases ht : tp = 1
      · have hr : Hid (topE D = 0) := by show _ = _; rw [HE.out, ht]; rfl
        subst ht
        clear HE
        go_wp2
        go_ret
        exact ⟨by rw [hr.out]; rfl, hb⟩
      · have hr : Hid (topE D = 1) := by show _ = _; rw [HE.out, if_pos ht]
        clear HE
        have hne : (((tp : Nat) : Int) != 1) = true := by simp; omega
        go_wp2
        go_ret
        exact ⟨by rw [hr.out]; rfl, hb⟩
end Go.Proofs.Ytmhbblehgckelaa
