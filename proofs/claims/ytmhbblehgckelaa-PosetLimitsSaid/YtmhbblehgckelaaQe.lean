/- Walks of the laws of poset: decl, exampleHolds. -/
import Derived.Test.YtmhbblehgckelaaQd
import Derived.Laws.Rows
namespace Go.Proofs.Ytmhbblehgckelaa
open Go.RowKit Go.Maps

set_option maxRecDepth 100000 in
theorem decl_any (w : World) (s : ByteArray) (a : Option Addr) (n c : Nat) :
    Calls Try.prog 15 #[.string s, .slice a n c] w fun e w' => e = .returned (.agg #[.string s, .slice a n c, .slice none 0 0]) ∧ w' = w.alloc (.cells #[.string s, .slice a n c, .slice none 0 0] 35) := by
  go_enter Try.func15, Try.ntmps15
  go_wp2
  refine bodyPost_ret (results_cell_row rfl _ _ w.heap.size 35 #[.string s, .slice a n c, .slice none 0 0] (0, 0) _ rfl (heap_alloc_new w _) Try.underlying35 rfl (by kernel_rfl)) rfl ?_
  exact ⟨rfl, rfl⟩

theorem RetL.eq {xs : List Str} {w w' : World} {e : Ending} (h : RetL xs w e w') (L : List Str) (hx : xs = L) : ∃ a cap, e = .returned (.slice a L.length cap) ∧ IsStrs w' a L.length cap L ∧ Below w.heap.size w w' := by
  subst hx
  obtain ⟨v, e1, hrow, hsm, hb⟩ := h
  obtain ⟨a, cap, e2, hi⟩ := IsStrs.of_owns hrow hsm
  subst e2
  exact ⟨a, cap, e1, hi, hb⟩
theorem RetLE.eq {xs : List Str} {k : Nat} {w w' : World} {e : Ending} (h : RetLE xs k w e w') (L : List Str) (hx : xs = L) : ∃ a cap, e = .returned (.tuple #[.slice a L.length cap, .int .i64 ((k : Nat) : Int)]) ∧ IsStrs w' a L.length cap L ∧ Below w.heap.size w w' := by
  subst hx
  obtain ⟨v, e1, hrow, hsm, hb⟩ := h
  obtain ⟨a, cap, e2, hi⟩ := IsStrs.of_owns hrow hsm
  subst e2
  exact ⟨a, cap, e1, hi, hb⟩
theorem SameStrings_val (b : Bool) (w : World) (a1 a2 : Option Addr) (n1 n2 cap1 cap2 : Nat) (xs ys : List Str) (h1 : IsStrs w a1 n1 cap1 xs) (h2 : IsStrs w a2 n2 cap2 ys) (hb : sameS xs ys = b) :
    Calls Try.prog 13 #[.slice a1 n1 cap1, .slice a2 n2 cap2] w fun e w' => e = .returned (.bool b) ∧ Below w.heap.size w w' := hb ▸ SameStrings_any w a1 a2 n1 n2 cap1 cap2 xs ys h1 h2
theorem Check_val (c : Nat) (w : World) (a : Option Addr) (n cap : Nat) (D : List Dec) (h : IsDecs w a n cap D) (hc : chkN D = c) :
    Calls Try.prog 12 #[.slice a n cap] w fun e w' => e = .returned (.int .i64 ((c : Nat) : Int)) ∧ Below w.heap.size w w' := hc ▸ Check_any w a n cap D h
/-- A literal of strings. -/
theorem lit_at (w : World) (zs : List Str) (hs : ∀ z ∈ zs, z.length ≤ maxLen) (hl : zs.length ≤ maxLen) (b : Nat) (hb : b = w.heap.size) (h0 : 0 < zs.length) : IsStrs (w.alloc (.cells (svals zs).toArray 9)) (some ⟨b, 0, none⟩) zs.length zs.length zs := by
  subst hb
  refine ⟨rfl, Nat.le_refl _, hl, hs, (fun e => by cases e), fun _ => ⟨_, _, rfl, by simp, fun i hi => ?_⟩⟩
  rw [World.cell?_alloc_new, Nat.zero_add]
  simp [svals, st, List.getD_eq_getElem?_getD, List.getElem?_eq_getElem hi]
theorem dec_new (w : World) (cs : Array Value) (t b o : Nat) (hb : b = w.heap.size) (d : Dec) (sa : Option Addr) (sc : Nat) (h0 : cs[o]? = some (.string (mk d.name))) (h1 : cs[o + 1]? = some (.slice sa d.sup.length sc)) (h2 : cs[o + 2]? = some (.slice none 0 0)) (hs : IsStrs w sa d.sup.length sc d.sup) (hn : d.nf = 0) (hl : d.name.length ≤ maxLen) :
    DecAt (w.alloc (.cells cs t)) b o d sa sc none 0 := by
  subst hb
  refine ⟨?_, ?_, ?_, hs.below ((Below.refl _ _).alloc (Nat.le_refl _) _), by omega, Nat.zero_le _, hl⟩
  · rw [World.cell?_alloc_new]; exact h0
  · rw [World.cell?_alloc_new]; exact h1
  · rw [World.cell?_alloc_new, hn]; exact h2

def exD : List Dec := [⟨[99], [[97], [98]], 0⟩, ⟨[116], [], 0⟩, ⟨[98], [[116]], 0⟩, ⟨[97], [[116]], 0⟩]
abbrev exS (b : UInt8) : Value := .string ⟨#[b]⟩
abbrev exW1 (w : World) : World := (((((((w.alloc (.cells #[exS 97, exS 98] 9)).alloc (.cells #[exS 99, .slice (some ⟨w.heap.size, 0, none⟩) 2 2, .slice none 0 0] 35)).alloc (.cells #[exS 116, .slice none 0 0, .slice none 0 0] 35)).alloc (.cells #[exS 116] 9)).alloc (.cells #[exS 98, .slice (some ⟨w.heap.size + 1 + 1 + 1, 0, none⟩) 1 1, .slice none 0 0] 35)).alloc (.cells #[exS 116] 9)).alloc (.cells #[exS 97, .slice (some ⟨w.heap.size + 1 + 1 + 1 + 1 + 1, 0, none⟩) 1 1, .slice none 0 0] 35))
abbrev exW (w : World) : World := (exW1 w).alloc (.cells #[exS 99, .slice (some ⟨w.heap.size, 0, none⟩) 2 2, .slice none 0 0, exS 116, .slice none 0 0, .slice none 0 0, exS 98, .slice (some ⟨w.heap.size + 1 + 1 + 1, 0, none⟩) 1 1, .slice none 0 0, exS 97, .slice (some ⟨w.heap.size + 1 + 1 + 1 + 1 + 1, 0, none⟩) 1 1, .slice none 0 0] 35)
theorem ba (w : World) (o : Obj) : Below w.heap.size w (w.alloc o) := (Below.refl _ _).alloc (Nat.le_refl _) _
theorem exW_is (w : World) : IsDecs (exW w) (some ⟨w.heap.size + 1 + 1 + 1 + 1 + 1 + 1 + 1, 0, none⟩) 4 4 exD ∧ Below w.heap.size w (exW w) := by
  have s1 := (((((((lit_at w [[97], [98]] (by decide) (by decide) _ rfl (by decide)).below (ba _ (.cells #[exS 99, .slice (some ⟨w.heap.size, 0, none⟩) 2 2, .slice none 0 0] 35))).below (ba _ (.cells #[exS 116, .slice none 0 0, .slice none 0 0] 35))).below (ba _ (.cells #[exS 116] 9))).below (ba _ (.cells #[exS 98, .slice (some ⟨w.heap.size + 1 + 1 + 1, 0, none⟩) 1 1, .slice none 0 0] 35))).below (ba _ (.cells #[exS 116] 9))).below (ba _ (.cells #[exS 97, .slice (some ⟨w.heap.size + 1 + 1 + 1 + 1 + 1, 0, none⟩) 1 1, .slice none 0 0] 35)))
  have s2 := ((((lit_at (((w.alloc (.cells #[exS 97, exS 98] 9)).alloc (.cells #[exS 99, .slice (some ⟨w.heap.size, 0, none⟩) 2 2, .slice none 0 0] 35)).alloc (.cells #[exS 116, .slice none 0 0, .slice none 0 0] 35)) [[116]] (by decide) (by decide) (w.heap.size + 1 + 1 + 1) (by simp) (by decide)).below (ba _ (.cells #[exS 98, .slice (some ⟨w.heap.size + 1 + 1 + 1, 0, none⟩) 1 1, .slice none 0 0] 35))).below (ba _ (.cells #[exS 116] 9))).below (ba _ (.cells #[exS 97, .slice (some ⟨w.heap.size + 1 + 1 + 1 + 1 + 1, 0, none⟩) 1 1, .slice none 0 0] 35)))
  have s3 := (lit_at (((((w.alloc (.cells #[exS 97, exS 98] 9)).alloc (.cells #[exS 99, .slice (some ⟨w.heap.size, 0, none⟩) 2 2, .slice none 0 0] 35)).alloc (.cells #[exS 116, .slice none 0 0, .slice none 0 0] 35)).alloc (.cells #[exS 116] 9)).alloc (.cells #[exS 98, .slice (some ⟨w.heap.size + 1 + 1 + 1, 0, none⟩) 1 1, .slice none 0 0] 35)) [[116]] (by decide) (by decide) (w.heap.size + 1 + 1 + 1 + 1 + 1) (by simp) (by decide)).below (ba _ (.cells #[exS 97, .slice (some ⟨w.heap.size + 1 + 1 + 1 + 1 + 1, 0, none⟩) 1 1, .slice none 0 0] 35))
  have hbb : w.heap.size + 1 + 1 + 1 + 1 + 1 + 1 + 1 = (exW1 w).heap.size := by simp
  refine ⟨⟨rfl, Nat.le_refl _, by decide, fun _ => ⟨_, _, rfl, by simp, fun i hi => ?_⟩⟩, ?_⟩
  · rcases i with _ | _ | _ | _ | i
    · exact ⟨some ⟨w.heap.size, 0, none⟩, 2, none, 0, dec_new (exW1 w) _ _ _ 0 hbb (dc exD 0) _ _ rfl rfl rfl s1 rfl (by decide)⟩
    · exact ⟨none, 0, none, 0, dec_new (exW1 w) _ _ _ 3 hbb (dc exD 1) _ _ rfl rfl rfl (IsStrs.nil _) rfl (by decide)⟩
    · exact ⟨some ⟨w.heap.size + 1 + 1 + 1, 0, none⟩, 1, none, 0, dec_new (exW1 w) _ _ _ 6 hbb (dc exD 2) _ _ rfl rfl rfl s2 rfl (by decide)⟩
    · exact ⟨some ⟨w.heap.size + 1 + 1 + 1 + 1 + 1, 0, none⟩, 1, none, 0, dec_new (exW1 w) _ _ _ 9 hbb (dc exD 3) _ _ rfl rfl rfl s3 rfl (by decide)⟩
    · omega
  · refine ((((((((Below.refl _ _).alloc ?_ _).alloc ?_ _).alloc ?_ _).alloc ?_ _).alloc ?_ _).alloc ?_ _).alloc ?_ _).alloc ?_ _ <;> (simp; try omega)
end Go.Proofs.Ytmhbblehgckelaa
