/- Walks over package bits: Of, and its reference. -/
import Derived.Test.YtlphlbhbhcpnpaaDoorBl
namespace Go.Proofs.YtlphlbhbhcpnpaaDoor
open Go.RowKit

def uvals (ws : List Nat) : List Value := List.map (fun n : Nat => Value.int .u64 (n : Int)) ws
theorem uvals_len (ws : List Nat) : (uvals ws).length = ws.length := by simp [uvals]
theorem uvals_at (ws : List Nat) (i : Nat) (h : i < ws.length) : (uvals ws)[i]? = some (Value.int .u64 ((wd ws i : Nat) : Int)) := by
  simp [uvals, wd, List.getD_eq_getElem?_getD, List.getElem?_eq_getElem h]
theorem uvals_set (ws : List Nat) (i x : Nat) : (uvals ws).set i (Value.int .u64 ((x : Nat) : Int)) = uvals (ws.set i x) := by
  simp [uvals, List.map_set]
theorem uvals_snoc (ws : List Nat) (x : Nat) : uvals ws ++ [Value.int .u64 ((x : Nat) : Int)] = uvals (ws ++ [x]) := by simp [uvals]

theorem Is64.of_uvals {w : World} {B n : Nat} {v : Value} {ws : List Nat} (h : w.ownsRow B 56 1 v n (uvals ws)) (hb : ∀ i, i < n → wd ws i < 18446744073709551616) :
    ∃ a cap, v = .slice a n cap ∧ Is64 w a n cap ws := by
  have hh := h
  have hlen : ws.length = n := by have := h.1; rw [uvals_len] at this; omega
  obtain ⟨h1, ⟨h2, h3⟩ | ⟨g, cap, cur, hv, hB, hg, h3, h4, h5, h6⟩⟩ := h
  · subst h3
    exact ⟨none, 0, h2, hlen, Nat.le_refl _, Nat.zero_le _, fun i hi => absurd hi (Nat.not_lt_zero _), fun h0 => absurd h0 (Nat.lt_irrefl _), fun _ => ⟨rfl, rfl⟩⟩
  · refine ⟨some ⟨g, 0, none⟩, cap, hv, hlen, h3, h4, hb, fun _ => ⟨g, 0, rfl, lt_of_block hg, fun i hi => ?_⟩, fun e => by cases e⟩
    have := hh.cells (g := g) (by rw [hv]; rfl) i _ (uvals_at ws i (by omega))
    rw [show (⟨g, 0, none⟩ : Addr).add i = ⟨g, i, none⟩ by unfold Addr.add; split <;> simp_all] at this
    rw [Nat.zero_add]
    exact this

/-- Whether one of the first k numbers is i. -/
def inL (zs : List Int) : Nat → Nat → Bool
  | 0, _ => false
  | k + 1, i => inL zs k i || decide (wi zs k = (i : Int))

/-- A set in normal form. -/
def Norm (ws : List Nat) : Prop := 0 < ws.length → wd ws (ws.length - 1) ≠ 0

theorem wd_set (l : List Nat) (q x i : Nat) (h : q < l.length) : wd (l.set q x) i = if i = q then x else wd l i := by
  simp only [wd, List.getD_eq_getElem?_getD, List.getElem?_set]
  by_cases e : q = i
  · subst e; simp [h]
  · simp [e, Ne.symm e]
theorem wd_snoc0 (l : List Nat) (i : Nat) : wd (l ++ [0]) i = wd l i := by
  simp only [wd, List.getD_eq_getElem?_getD]
  rcases Nat.lt_trichotomy i l.length with h | h | h
  · rw [List.getElem?_append_left h]
  · subst h; simp
  · rw [List.getElem?_eq_none (by simp; omega), List.getElem?_eq_none (by omega)]

theorem or_bit_lt {x r : Nat} (hx : x < 18446744073709551616) (hr : r < 64) : x ||| 2 ^ r < 18446744073709551616 :=
  Nat.or_lt_two_pow (n := 64) hx (Nat.pow_lt_pow_right (by decide) hr)

/-- What setting one bit does. -/
theorem set_bit {ws ws2 : List Nat} {q r : Nat} (he : ∀ i, wd ws2 i = wd ws i) (hq : q < ws2.length) (hr : r < 64) (i : Nat) :
    bit (ws2.set q (wd ws2 q ||| 2 ^ r)) i = (bit ws i || decide (64 * q + r = i)) := by
  unfold bit
  rw [wd_set _ _ _ _ hq]
  by_cases h : i / 64 = q
  · rw [if_pos h, Nat.testBit_or, Nat.testBit_two_pow, he q, h]
    congr 1
    rw [decide_eq_decide]
    omega
  · rw [if_neg h, he]
    have : decide (64 * q + r = i) = false := by rw [decide_eq_false_iff_not]; omega
    rw [this, Bool.or_false]
theorem set_norm {ws ws2 : List Nat} {q r : Nat} (hn : Norm ws) (he : ∀ i, wd ws2 i = wd ws i) (hl : ws2.length = ws.length ∨ ws2.length = q + 1) (hq : q < ws2.length) :
    Norm (ws2.set q (wd ws2 q ||| 2 ^ r)) := by
  intro _
  rw [List.length_set, wd_set _ _ _ _ hq]
  split
  · intro h
    have h1 := congrArg (fun x => x.testBit r) h
    simp [Nat.testBit_or, Nat.testBit_two_pow] at h1
  · rename_i h
    rcases hl with hl | hl
    · rw [he, hl]
      exact hn (by omega)
    · omega

def slen : Value → Nat
  | .slice _ n _ => n
  | _ => 0

/-- What Of returns: the set of the numbers, or the error. -/
def OfPost (zs : List Int) (w : World) (e : Ending) (w' : World) : Prop :=
  Below w.heap.size w w' ∧
  (((∀ i, i < zs.length → 0 ≤ wi zs i ∧ wi zs i ≤ 4095) ∧ ∃ ws a n cap, e = .returned (.tuple #[.slice a n cap, .int .i64 0]) ∧ Is64 w' a n cap ws ∧ Norm ws ∧ n ≤ 64 ∧ ∀ i, bit ws i = inL zs zs.length i) ∨
   ((∃ i, i < zs.length ∧ ¬ (0 ≤ wi zs i ∧ wi zs i ≤ 4095)) ∧ e = .returned (.tuple #[.slice none 0 0, .int .i64 2])))

theorem shl_one {r : Nat} (hr : r < 64) : IntKind.u64.wrap (2 ^ r) = ((2 ^ r : Nat) : Int) := by
  have : (2 : Nat) ^ r < 18446744073709551616 := Nat.pow_lt_pow_right (n := 64) (by decide) hr
  have e : ((2 : Int) ^ r) = ((2 ^ r : Nat) : Int) := by rw [Int.natCast_pow]; rfl
  rw [e]
  exact wrapu this

theorem owns_form {w : World} {base : Nat} {e : TypeId} {size : Nat} {v : Value} {n : Nat} {xs : List Value} (h : w.ownsRow base e size v n xs) : ∃ a cap, v = .slice a n cap := by
  obtain ⟨h1, ⟨h2, h3⟩ | ⟨g, cap, cur, hv, _⟩⟩ := h
  · subst h3; exact ⟨none, 0, h2⟩
  · exact ⟨_, _, hv⟩

set_option maxRecDepth 100000 in
theorem Of_any (w : World) (a1 : Option Addr) (n1 cap1 : Nat) (zs : List Int) (h1 : IsInt w a1 n1 cap1 zs) :
    Calls Tryd.prog 34 #[.slice a1 n1 cap1] w (OfPost zs w) := by
  have H1 := Lib.hid h1
  have hm1 := h1.maxLe
  have hc1 := h1.capLe
  unfold maxLen at hm1
  obtain ⟨i0, hi, hz0, hz1, hz2⟩ := info_parts Tryd.info64
  have HI := Lib.hid (And.intro hi (And.intro hz0 (And.intro hz1 hz2)))
  clear h1 hi hz0 hz1 hz2
  go_enter Tryd.func34, Tryd.ntmps34
  go_wp2
  go_loopw [4, 9] (fun o v wr => ∃ (k : Nat) (ws : List Nat), k ≤ n1 ∧ v = .int .i64 k ∧ Hid (wr.ownsRow w.heap.size 56 1 o ws.length (uvals ws)) ∧ Hid ((∀ i, wd ws i < 18446744073709551616) ∧ Norm ws ∧ (∀ i, bit ws i = inL zs k i) ∧ ∀ i, i < k → 0 ≤ wi zs i ∧ wi zs i ≤ 4095) ∧ ws.length ≤ 64 ∧ Below w.heap.size w wr) (fun _ v _ => n1 - (intOf v).toNat)
  case atStart => exact ⟨0, [], Nat.zero_le _, rfl, World.ownsRow_nil _ _ _ _, ⟨fun i => by simp [wd], fun h => absurd h (Nat.lt_irrefl _), fun i => by simp [bit, wd, inL], fun i hi => absurd hi (Nat.not_lt_zero _)⟩, Nat.zero_le _, Below.refl _ _⟩
  case round =>
    obtain ⟨k, ws, hk, rfl, hrow, hws, hwl, hb⟩ := hrel
    by_cases hlt : k < n1
    · obtain ⟨b1, o1, rfl, hl1, hx1⟩ := H1.out.at_ (by omega)
      have c1 := (hb.cell (p := ⟨b1, o1 + k, none⟩) hl1).trans (hx1 k (by omega))
      clear hx1
      have hbz := H1.out.bnd k hlt
      obtain ⟨z, hz⟩ : ∃ z, wi zs k = z := ⟨_, rfl⟩
      rw [hz] at c1 hbz
      by_cases hg : 0 ≤ z ∧ z ≤ 4095
      · obtain ⟨hg1, hg2⟩ := hg
        have HZ := Lib.hid hz
        clear hz
        obtain ⟨t, rfl⟩ := Int.eq_ofNat_of_zero_le hg1
        have ht : t ≤ 4095 := by omega
        go_wp2
        clear c1
        go_loopw [4] (fun o wi => ∃ ws2 : List Nat, Hid (wi.ownsRow w.heap.size 56 1 o ws2.length (uvals ws2)) ∧ Hid (∀ i, wd ws2 i = wd ws i) ∧ Hid (ws2.length = ws.length ∨ (ws.length < ws2.length ∧ ws2.length ≤ t / 64 + 1)) ∧ ws2.length ≤ 64 ∧ Below w.heap.size w wi) (fun o _ => 64 - slen o)
        case atStart => exact ⟨ws, hrow, fun _ => rfl, .inl rfl, hwl, hb⟩
        case round =>
          obtain ⟨ws2, hrow2, hws2, hl2, hwl2, hb2⟩ := hrel
          obtain ⟨ad, cap2, rfl⟩ := owns_form hrow2.out
          by_cases hle : ws2.length ≤ t / 64
          · have hlr2 := hb2.size
            go_wp2_with (at_builtin; go_loud (refine wpList_append_own _ rfl _ _ 43 rfl w.heap.size 56 i0 (.int .u64 0) 1 8 Tryd.underlying43 HI.out.1 HI.out.2.1 HI.out.2.2.1 HI.out.2.2.2 rfl (by decide) _ _ _ rfl (hrow2.out.alloc _) ⟨wr.heap.size, 0, none⟩ 1 1 [.int .u64 0] rfl rfl (one_new _ _ _) ?_ ?_ ?_ ?_ ?_); rotate_right; intro v' w3 hown hgrow _)
            · have hown' : w3.ownsRow w.heap.size 56 1 v' (ws2 ++ [0]).length (uvals (ws2 ++ [0])) := by
                rw [← uvals_snoc, List.length_append]
                exact hown
              obtain ⟨ad', cap', rfl⟩ := owns_form hown'
              refine ⟨⟨ws2 ++ [0], hown', fun i => (wd_snoc0 ws2 i).trans (hws2.out i), ?_, by simp; omega, (hb2.alloc hb2.size _).grown hgrow (by simp; omega) (fun j hj => (hrow2.out.lt j hj).1)⟩, by simp [slen]; omega⟩
              have := hl2.out
              show _ ∨ _
              simp
              omega
            · exact oneCell_one _ _
            · unfold maxLen; omega
            · omega
            · simp; omega
          · obtain ⟨g, cap3, e3, hg3, hg4⟩ := hrow2.out.form (by omega)
            cases e3
            have hq : t / 64 < ws2.length := by omega
            have c2 := (hrow2.out.cellAt (t / 64) (by omega)).trans (uvals_at ws2 (t / 64) hq)
            have f2 := hrow2.out.frozenAt (t / 64)
            go_wp2
            go_region
            go_wp2
            go_roundw
            case rel =>
              have hw := hws.out
              have hr64 : t % 64 < 64 := Nat.mod_lt _ (by decide)
              have hlt2 : ∀ i, wd ws2 i < 18446744073709551616 := fun i => by rw [hws2.out i]; exact hw.1 i
              refine ⟨k + 1, ws2.set (t / 64) (wd ws2 (t / 64) ||| 2 ^ (t % 64)), by omega, by go_num, ?_, ⟨fun i => ?_, set_norm hw.2.1 hws2.out (by have := hl2.out; omega) hq, fun i => ?_, fun i hi => ?_⟩, by simpa using hwl2, (hb2.setCell hg3 _).drew⟩
              · have st := (hrow2.out.stored (t / 64) (Value.int .u64 (((wd ws2 (t / 64) ||| 2 ^ (t % 64)) : Nat) : Int))).1.drew
                rw [uvals_set] at st
                rw [shl_one hr64, or_int (hlt2 _) (Nat.pow_lt_pow_right (n := 64) (by decide) hr64), List.length_set]
                exact st
              · rw [wd_set _ _ _ _ hq]
                split
                · exact or_bit_lt (hlt2 _) hr64
                · exact hlt2 i
              · rw [set_bit hws2.out hq hr64, hw.2.2.1 i, inL, HZ.out, Nat.div_add_mod]
                congr 1
                rw [decide_eq_decide]
                omega
              · rcases Nat.lt_succ_iff_lt_or_eq.1 hi with h | h
                · exact hw.2.2.2 i h
                · rw [h, HZ.out]; omega
            case measure => simp [intOf]; omega
      · have HZ := Lib.hid hz
        clear hz
        have hlen := H1.out.len
        by_cases hneg : z < 0
        · go_wp2
          go_ret2
          exact ⟨hb, .inr ⟨⟨k, by omega, by rw [HZ.out]; exact hg⟩, rfl⟩⟩
        · have hbig : 4095 < z := by omega
          go_wp2
          go_ret2
          exact ⟨hb, .inr ⟨⟨k, by omega, by rw [HZ.out]; exact hg⟩, rfl⟩⟩
    · obtain rfl : k = n1 := by omega
      have hw := hws.out
      obtain ⟨aa, cc, rfl, hres⟩ := Is64.of_uvals hrow.out (fun i _ => hw.1 i)
      have HRes := Lib.hid hres
      clear hrow hres hw
      go_wp2
      go_ret2
      have hlen := H1.out.len
      exact ⟨hb, .inl ⟨fun i hi => hws.out.2.2.2 i (by omega), ws, aa, _, cc, rfl, HRes.out, hws.out.2.1, hwl, by rw [hlen]; exact hws.out.2.2.1⟩⟩
end Go.Proofs.YtlphlbhbhcpnpaaDoor
