/- Texts joined by wip/gen/merge.py: Gx Gy. -/
import Derived.Deep.Cut
import Derived.Test.YtlhiiecaphibhaaMac
set_option linter.unusedVariables false
set_option linter.unusedSimpArgs false
/- graph: exampleHolds. Written by wip/gen/gexample.py. -/
namespace Go.Proofs.Ytlhiiecaphibhaa
open Go.RowKit Go.Maps

theorem IsInts.nil (w : World) : IsInts w none 0 0 [] := ⟨rfl, Nat.le_refl _, Nat.zero_le _, fun h => absurd h (Nat.lt_irrefl _)⟩
theorem IsInts.drew {w : World} {a : Option Addr} {n cap : Nat} {l : List Int} (h : IsInts w a n cap l) : IsInts w.drew a n cap l := h.below (Below.refl _ w).drew
theorem IsG.drew {w : World} {a : Option Addr} {n cap : Nat} {F : Gr} (h : IsG w a n cap F) : IsG w.drew a n cap F := h.below (Below.refl _ w).drew
/-- A new block of numbers. -/
theorem lit_ints (w : World) (l : List Int) (b : Nat) (hb : b = w.heap.size) (hl : l.length ≤ 1000) : IsInts (w.alloc (.cells (ivals l).toArray 3)) (some ⟨b, 0, none⟩) l.length l.length l := by
  subst hb
  refine ⟨rfl, Nat.le_refl _, by unfold maxLen; omega, fun _ => ⟨w.heap.size, 0, rfl, by simp, fun i hi => ?_⟩⟩
  rw [World.cell?_alloc_new, Nat.zero_add]
  have := ivals_get hi
  simpa using this
theorem node_c (w : World) (t : Int) (la : Option Addr) (m lc : Nat) (l : List Int) (L : List Arc) (h : IsInts w la m lc l) (hm : m ≤ 1000) (hL : prs l = L) (hr : ∀ x ∈ L, R64 x.1) :
    Calls Try.prog 29 #[.int .i64 t, .slice la m lc] w fun e w' => ∃ pa pc, e = .returned (.agg #[.int .i64 t, .slice pa L.length pc]) ∧ IsArcs w' pa L.length pc L ∧ Below w.heap.size w w' := by
  subst hL
  refine (node_any w t la m lc l h hm hr).mono ?_
  rintro e w' ⟨v, rfl, ho, hb⟩
  obtain ⟨pa, pc, rfl, hI⟩ := IsArcs.of_owns ho hr
  exact ⟨pa, pc, rfl, hI, hb⟩
/-- A new block of nodes. -/
theorem lit_G (w : World) (its : List (Nd × Option Addr × Nat)) (cs : Array Value) (b n : Nat) (hb : b = w.heap.size) (hn : its.length = n) (hc : cs.toList = nvals (its.map fun x => (x.1.1, Value.slice x.2.1 x.1.2.length x.2.2))) (hl : its.length ≤ 1000) (h : ∀ x ∈ its, IsArcs w x.2.1 x.1.2.length x.2.2 x.1.2) :
    IsG (w.alloc (.cells cs 43)) (some ⟨b, 0, none⟩) n n (its.map Prod.fst) := by
  subst hb
  subst hn
  refine ⟨by simp, Nat.le_refl _, by unfold maxLen; omega, (fun e => by cases e), fun _ => ⟨w.heap.size, 0, rfl, by simp, fun i hi => ?_⟩⟩
  have hg := List.getElem?_eq_getElem hi
  obtain ⟨g0, g1⟩ := nvals_get (P := its.map fun x => (x.1.1, Value.slice x.2.1 x.1.2.length x.2.2)) (i := i) (p := ((its[i]).1.1, Value.slice (its[i]).2.1 (its[i]).1.2.length (its[i]).2.2)) (by rw [List.getElem?_map, hg]; rfl)
  rw [← hc, Array.getElem?_toList] at g0 g1
  have e : nd (its.map Prod.fst) i = (its[i]).1 := by
    unfold nd
    rw [List.getD_eq_getElem?_getD, List.getElem?_map, hg]; rfl
  rw [e, Nat.zero_add]
  refine ⟨(its[i]).2.1, (its[i]).2.2, ?_, ?_, (h _ (List.getElem_mem hi)).below (ba w _)⟩
  · rw [World.cell?_alloc_new]; exact g0
  · rw [World.cell?_alloc_new]; exact g1
theorem Canon_ex (F G : Gr) (m : Nat) (hm : G.length = m) (w : World) (a : Option Addr) (n cap : Nat) (h : IsG w a n cap F) (hs : Siz F) (h0 : frm F = 0) (hG : cf F 0 = G) :
    Calls Try.prog 13 #[.agg #[.slice a n cap]] w fun e w' => ∃ aa cc, e = .returned (.tuple #[.agg #[.slice aa m cc], .int .i64 0]) ∧ IsG w' aa m cc G ∧ Below w.heap.size w w' := by
  refine (Canon_any w a n cap F h (.inl hs)).mono ?_
  rintro e w' ⟨aa, cc, rfl, hI, hb⟩
  have hc : can F = G := by unfold can; rw [if_pos h0]; exact hG
  rw [hc, hm] at hI ⊢
  exact ⟨aa, cc, by rw [h0]; rfl, hI, hb⟩
def xF1 : Gr := [(1, [(0, 2), (1, 1)]), (2, []), (3, [(0, 1)])]
def xF2 : Gr := [(4, [(7, 2), (3, 1)]), (5, []), (6, [(2, 0)])]
def xG1 : Gr := [(1, [(0, 1), (1, 2)]), (3, [(0, 2)]), (2, [])]
def xG2 : Gr := [(4, [(3, 1), (7, 2)]), (5, []), (6, [(2, 0)])]
def xG3 : Gr := [(3, [(0, 1)]), (2, [])]
def xC : Gr := [(1, [(5, 0)])]
theorem x_f1 : frm xF1 = 0 := by decide
theorem x_f2 : frm xF2 = 0 := by decide
theorem x_g1 : frm xG1 = 0 := by decide
theorem x_c : frm xC = 0 := by decide
theorem siz_of {F : Gr} (h : lite F = true) : Siz F := lite_siz h
theorem x_c1 : cf xF1 0 = xG1 := by
  have h : Dfs (tos xF1) [0] [] [0, 2, 1] := .step (by decide) (show Dfs _ [2, 1] [0] _ from .step (by decide) (show Dfs _ [1, 1] [0, 2] _ from .step (by decide) (show Dfs _ [1] [0, 2, 1] _ from .skip (by decide) (.done _))))
  rw [cf_eq h]; decide
theorem x_c2 : cf xF2 0 = xG2 := by
  have h : Dfs (tos xF2) [0] [] [0, 1, 2] := .step (by decide) (show Dfs _ [1, 2] [0] _ from .step (by decide) (show Dfs _ [2] [0, 1] _ from .step (by decide) (show Dfs _ [0] [0, 1, 2] _ from .skip (by decide) (.done _))))
  rw [cf_eq h]; decide
theorem x_c3 : cf xG1 1 = xG3 := by
  have h : Dfs (tos xG1) [1] [] [1, 2] := .step (by decide) (show Dfs _ [2] [1] _ from .step (by decide) (show Dfs _ [] [1, 2] _ from .done _))
  rw [cf_eq h]; decide
theorem x_ac : ¬ Acyc xC := fun ⟨rk, h⟩ => by
  have := h 0 (by decide) 0 (by decide)
  omega
theorem x_ag : Acyc xG1 := ⟨fun x => 2 - x, by
  intro x hx y hy
  have hx : x < 3 := hx
  rcases x with _ | _ | _ | x
  · have : y ∈ [1, 2] := hy
    simp at this
    show 2 - y < 2 - 0
    omega
  · have : y ∈ [2] := hy
    simp at this
    show 2 - y < 2 - 1
    omega
  · cases hy
  · omega⟩
theorem Cyclic_val (b : Bool) (w : World) (a : Option Addr) (n cap : Nat) (F : Gr) (h : IsG w a n cap F) (hf : Fine F) (hs : Siz F) (hb : b = true ↔ ¬ Acyc F) :
    Calls Try.prog 22 #[.agg #[.slice a n cap]] w fun e w' => e = .returned (.bool b) ∧ Below w.heap.size w w' := by
  refine (Cyclic_any w a n cap F h hf hs).mono ?_
  rintro e w' ⟨b', rfl, hb', hbl⟩
  have : b' = b := by
    have h1 := hb'.trans hb.symm
    cases b <;> cases b' <;> simp_all
  rw [this]
  exact ⟨rfl, hbl⟩

theorem chkT {P : Program} {f : FuncId} {w : World} {Q : Ending → World → Prop} (t : Int) (v : Value) (h : Calls P f #[.int .i64 t, v] w Q) : Calls P f #[.int .i64 t, v] w Q := h
theorem lit2 (w : World) (b : Nat) (x y : Int) (hb : b = w.heap.size) : IsInts (w.alloc (.cells #[.int .i64 x, .int .i64 y] 3)) (some ⟨b, 0, none⟩) 2 2 [x, y] := lit_ints w [x, y] b hb (by simp)
theorem lit4 (w : World) (b : Nat) (x y z u : Int) (hb : b = w.heap.size) : IsInts (w.alloc (.cells #[.int .i64 x, .int .i64 y, .int .i64 z, .int .i64 u] 3)) (some ⟨b, 0, none⟩) 4 4 [x, y, z, u] := lit_ints w [x, y, z, u] b hb (by simp)
theorem r64s {l : List Arc} (h : (l.all fun x => decide (-1000 ≤ x.1) && decide (x.1 ≤ 1000)) = true) : ∀ x ∈ l, R64 x.1 := fun x hx => by
  have := List.all_eq_true.1 h x hx
  simp at this
  unfold R64; omega
theorem Sub_x (w : World) (a : Option Addr) (cap : Nat) (h : IsG w a 3 cap xG1) (hf : Fine xG1) (hs : Siz xG1) :
    Calls Try.prog 20 #[.agg #[.slice a 3 cap], .int .i64 1] w fun e w' => ∃ aa cc, e = .returned (.agg #[.slice aa 2 cc]) ∧ IsG w' aa 2 cc xG3 ∧ Below w.heap.size w w' := by
  have := Sub_cf w a 3 cap xG1 h hf hs 1 (by decide)
  rw [x_c3] at this
  exact this
set_option maxRecDepth 100000 in
set_option maxHeartbeats 25600000 in
theorem ex_holds (w : World) : Calls Try.prog 16 #[] w fun e w' => e = .returned (.bool true) ∧ Below w.heap.size w w' := by
  have hz0 : w.heap.size ≤ w.heap.size := Nat.le_refl _
  go_enter Try.func16, Try.ntmps16
  go_wp2_with fail
  refine (node_c (w.alloc (.cells #[.int .i64 0, .int .i64 2, .int .i64 1, .int .i64 1] 3)) 1 _ _ _ [0, 2, 1, 1] [(0, 2), (1, 1)] (lit_ints w [0, 2, 1, 1] _ (by first | rfl | omega) (by decide)) (by decide) rfl (r64s (by decide))).mono ?_
  rintro e w10 ⟨p10, q10, rfl, i10, b10⟩
  have Bw10 : Below w.heap.size w w10 := (ba _ _).trans (b10.mono (by simp))
  have BX := Lib.hid (Bw10)
  clear b10
  go_wp2_with fail
  refine (node_c w10 2 _ _ _ [] [] (IsInts.nil _) (by decide) rfl (r64s (by decide))).mono ?_
  rintro e w11 ⟨p11, q11, rfl, i11, b11⟩
  have Bw11 : Below w10.heap.size w10 w11 := b11
  have i10 := i10.below Bw11
  have BX := Lib.hid (BX.out.trans (Bw11.mono BX.out.size))
  clear b11
  go_wp2_with fail
  refine (node_c (w11.alloc (.cells #[.int .i64 0, .int .i64 1] 3)) 3 _ _ _ [0, 1] [(0, 1)] (lit_ints w11 [0, 1] _ (by first | rfl | omega) (by decide)) (by decide) rfl (r64s (by decide))).mono ?_
  rintro e w12 ⟨p12, q12, rfl, i12, b12⟩
  have Bw12 : Below w11.heap.size w11 w12 := (ba _ _).trans (b12.mono (by simp))
  have i10 := i10.below Bw12
  have i11 := i11.below Bw12
  have BX := Lib.hid (BX.out.trans (Bw12.mono BX.out.size))
  clear b12
  have L1 : IsG (w12.alloc (.cells #[.int .i64 1, .slice p10 2 q10, .int .i64 2, .slice p11 0 q11, .int .i64 3, .slice p12 1 q12] 43)) (some ⟨w12.heap.size, 0, none⟩) 3 3 xF1 := lit_G w12 [((1, [(0, 2), (1, 1)]), p10, q10), ((2, []), p11, q11), ((3, [(0, 1)]), p12, q12)] #[.int .i64 1, .slice p10 2 q10, .int .i64 2, .slice p11 0 q11, .int .i64 3, .slice p12 1 q12] _ 3 rfl rfl rfl (by simp) (by intro x hx; simp only [List.mem_cons, List.not_mem_nil, or_false] at hx; rcases hx with rfl | rfl | rfl <;> first | exact i10 | exact i11 | exact i12)
  go_wp2_with fail
  refine (of_any _ _ _ _).mono ?_
  rintro e w1a ⟨rfl, b1a⟩
  have L1 := L1.below b1a
  have Bw1a : Below w12.heap.size w12 w1a := (ba _ _).trans (b1a.mono (by simp))
  have BX := Lib.hid (BX.out.trans (Bw1a.mono BX.out.size))
  clear b1a i10 i11 i12
  go_wp2_with fail
  refine (Canon_ex xF1 xG1 3 rfl w1a _ _ _ L1 (siz_of (by decide)) x_f1 x_c1).mono ?_
  rintro e w1b ⟨fa1, fc1, rfl, G1, b1b⟩
  have BX := Lib.hid (BX.out.trans (b1b.mono BX.out.size))
  have G1 := G1.below (ba w1b (.cells #[.slice fa1 3 fc1] 25))
  have BX := Lib.hid (BX.out.alloc BX.out.size (.cells #[.slice fa1 3 fc1] 25))
  have X1 := box_cell w1b (.slice fa1 3 fc1) 25
  have S1 : (w1b.alloc (.cells #[.slice fa1 3 fc1] 25)).heap.size = w1b.heap.size + 1 := by simp
  have Y1 : w1b.heap.size < (w1b.alloc (.cells #[.slice fa1 3 fc1] 25)).heap.size := by simp
  obtain ⟨w1c, hw1⟩ : ∃ w1c, w1b.alloc (.cells #[.slice fa1 3 fc1] 25) = w1c := ⟨_, rfl⟩
  rw [hw1] at BX G1 X1 Y1 S1  
  have C1 := Below.refl w1c.heap.size w1c
  have HW1 := Lib.hid hw1
  have HS1 := Lib.hid S1
  have HX1 := Lib.hid X1
  have HY1 := Lib.hid Y1
  clear L1 hw1 b1b Bw1a S1 X1 Y1
  go_wp2_with fail
  (try rw [HW1.out])
  refine (node_c (w1c.alloc (.cells #[.int .i64 7, .int .i64 2, .int .i64 3, .int .i64 1] 3)) 4 _ _ _ [7, 2, 3, 1] [(7, 2), (3, 1)] (lit_ints w1c [7, 2, 3, 1] _ (by first | rfl | (have := HS1.out; omega)) (by decide)) (by decide) rfl (r64s (by decide))).mono ?_
  rintro e w20 ⟨p20, q20, rfl, i20, b20⟩
  have Bw20 : Below w1c.heap.size w1c w20 := (ba _ _).trans (b20.mono (by simp))
  have G1 := G1.below Bw20
  have C1 := C1.trans (Bw20.mono C1.size)
  have BX := Lib.hid (BX.out.trans (Bw20.mono BX.out.size))
  clear b20
  go_wp2_with fail
  refine (node_c w20 5 _ _ _ [] [] (IsInts.nil _) (by decide) rfl (r64s (by decide))).mono ?_
  rintro e w21 ⟨p21, q21, rfl, i21, b21⟩
  have Bw21 : Below w20.heap.size w20 w21 := b21
  have i20 := i20.below Bw21
  have G1 := G1.below Bw21
  have C1 := C1.trans (Bw21.mono C1.size)
  have BX := Lib.hid (BX.out.trans (Bw21.mono BX.out.size))
  clear b21
  go_wp2_with fail
  refine (node_c (w21.alloc (.cells #[.int .i64 2, .int .i64 0] 3)) 6 _ _ _ [2, 0] [(2, 0)] (lit_ints w21 [2, 0] _ (by first | rfl | (have := HS1.out; omega)) (by decide)) (by decide) rfl (r64s (by decide))).mono ?_
  rintro e w22 ⟨p22, q22, rfl, i22, b22⟩
  have Bw22 : Below w21.heap.size w21 w22 := (ba _ _).trans (b22.mono (by simp))
  have i20 := i20.below Bw22
  have i21 := i21.below Bw22
  have G1 := G1.below Bw22
  have C1 := C1.trans (Bw22.mono C1.size)
  have BX := Lib.hid (BX.out.trans (Bw22.mono BX.out.size))
  clear b22
  have L2 : IsG (w22.alloc (.cells #[.int .i64 4, .slice p20 2 q20, .int .i64 5, .slice p21 0 q21, .int .i64 6, .slice p22 1 q22] 43)) (some ⟨w22.heap.size, 0, none⟩) 3 3 xF2 := lit_G w22 [((4, [(7, 2), (3, 1)]), p20, q20), ((5, []), p21, q21), ((6, [(2, 0)]), p22, q22)] #[.int .i64 4, .slice p20 2 q20, .int .i64 5, .slice p21 0 q21, .int .i64 6, .slice p22 1 q22] _ 3 rfl rfl rfl (by simp) (by intro x hx; simp only [List.mem_cons, List.not_mem_nil, or_false] at hx; rcases hx with rfl | rfl | rfl <;> first | exact i20 | exact i21 | exact i22)
  go_wp2_with fail
  refine (of_any _ _ _ _).mono ?_
  rintro e w2a ⟨rfl, b2a⟩
  have L2 := L2.below b2a
  have Bw2a : Below w22.heap.size w22 w2a := (ba _ _).trans (b2a.mono (by simp))
  have G1 := G1.below Bw2a
  have C1 := C1.trans (Bw2a.mono C1.size)
  have BX := Lib.hid (BX.out.trans (Bw2a.mono BX.out.size))
  clear b2a i20 i21 i22
  go_wp2_with fail
  refine (Canon_ex xF2 xG2 3 rfl w2a _ _ _ L2 (siz_of (by decide)) x_f2 x_c2).mono ?_
  rintro e w2b ⟨fa2, fc2, rfl, G2, b2b⟩
  have G1 := G1.below b2b
  have C1 := C1.trans (b2b.mono C1.size)
  have BX := Lib.hid (BX.out.trans (b2b.mono BX.out.size))
  have G2 := G2.below (ba w2b (.cells #[.slice fa2 3 fc2] 25))
  have G1 := G1.below (ba w2b (.cells #[.slice fa2 3 fc2] 25))
  have C1 := C1.trans ((ba w2b (.cells #[.slice fa2 3 fc2] 25)).mono C1.size)
  have BX := Lib.hid (BX.out.alloc BX.out.size (.cells #[.slice fa2 3 fc2] 25))
  have X2 := box_cell w2b (.slice fa2 3 fc2) 25
  have S2 : (w2b.alloc (.cells #[.slice fa2 3 fc2] 25)).heap.size = w2b.heap.size + 1 := by simp
  have Y2 : w2b.heap.size < (w2b.alloc (.cells #[.slice fa2 3 fc2] 25)).heap.size := by simp
  obtain ⟨w2c, hw2⟩ : ∃ w2c, w2b.alloc (.cells #[.slice fa2 3 fc2] 25) = w2c := ⟨_, rfl⟩
  rw [hw2] at BX G2 X2 Y2 S2 G1 C1
  have C2 := Below.refl w2c.heap.size w2c
  have HW2 := Lib.hid hw2
  have HS2 := Lib.hid S2
  have HX2 := Lib.hid X2
  have HY2 := Lib.hid Y2
  clear L2 hw2 b2b Bw2a S2 X2 Y2
  go_upto_region 3 with fail
  (try rw [HW2.out])
  have hX1 := (C1.cell (p := ⟨w1b.heap.size, 0, none⟩) HY1.out).trans HX1.out
  have hX2 := HX2.out
  have X1c : w2c.cell? ⟨w1b.heap.size, 0, none⟩ = some (.slice fa1 3 fc1) := hX1
  have X2c : w2c.cell? ⟨w2b.heap.size, 0, none⟩ = some (.slice fa2 3 fc2) := hX2
  have Z1 : w1b.heap.size < w2c.heap.size := Nat.lt_of_lt_of_le HY1.out C1.size
  have KP : Hid (∀ V, Below w2c.heap.size w2c V → V.cell? ⟨w1b.heap.size, 0, none⟩ = some (.slice fa1 3 fc1) ∧ V.cell? ⟨w2b.heap.size, 0, none⟩ = some (.slice fa2 3 fc2)) := fun V hV => ⟨(hV.cell (p := ⟨w1b.heap.size, 0, none⟩) Z1).trans hX1, (hV.cell (p := ⟨w2b.heap.size, 0, none⟩) HY2.out).trans hX2⟩
  have HG1 := Lib.hid G1
  have HG2 := Lib.hid G2
  have HC1 := Lib.hid C1
  have NG1 : Hid ((nums xG1).length ≤ 1000000) := by show _ ≤ _; decide
  have NG2 : Hid ((nums xG2).length ≤ 1000000) := by show _ ≤ _; decide
  have EG1 : Hid ((cG xG1 xG1 == 0) = true) := by show _ = _; rw [cG_self]; rfl
  have EG2 : Hid ((cG xG2 xG2 == 0) = true) := by show _ = _; rw [cG_self]; rfl
  have En38 : Hid (4 ≤ 1000 ∧ prs [0, 1, 1, 2] = [(0, 1), (1, 2)] ∧ ∀ x ∈ ([(0, 1), (1, 2)] : List Arc), R64 x.1) := ⟨by decide, rfl, r64s (by decide)⟩
  have En40 : Hid (2 ≤ 1000 ∧ prs [0, 2] = [(0, 2)] ∧ ∀ x ∈ ([(0, 2)] : List Arc), R64 x.1) := ⟨by decide, rfl, r64s (by decide)⟩
  have En41 : Hid (0 ≤ 1000 ∧ prs ([] : List Int) = ([] : List Arc) ∧ ∀ x ∈ ([] : List Arc), R64 x.1) := ⟨by decide, rfl, r64s (by decide)⟩
  have En50 : Hid (4 ≤ 1000 ∧ prs [3, 1, 7, 2] = [(3, 1), (7, 2)] ∧ ∀ x ∈ ([(3, 1), (7, 2)] : List Arc), R64 x.1) := ⟨by decide, rfl, r64s (by decide)⟩
  have En51 : Hid (0 ≤ 1000 ∧ prs ([] : List Int) = ([] : List Arc) ∧ ∀ x ∈ ([] : List Arc), R64 x.1) := ⟨by decide, rfl, r64s (by decide)⟩
  have En53 : Hid (2 ≤ 1000 ∧ prs [2, 0] = [(2, 0)] ∧ ∀ x ∈ ([(2, 0)] : List Arc), R64 x.1) := ⟨by decide, rfl, r64s (by decide)⟩
  clear hX1 hX2 Z1 G1 G2 C1 C2 hz0
  go_cut [58] from 29 (fun s58 wc => s58 = .bool false ∧ Hid (Below w2c.heap.size w2c wc))
  case first =>
    go_region_held3 (fun w' => w'.cell? ⟨w1b.heap.size, 0, none⟩ = some (.slice fa1 3 fc1) ∧ w'.cell? ⟨w2b.heap.size, 0, none⟩ = some (.slice fa2 3 fc2)) (first | exact ⟨X1c, X2c⟩ | exact KP.out _ (Below.refl _ _).drew | exact KP.out _ (ba _ _).drew | exact KP.out _ ((ba _ _).alloc (by simp) _).drew | exact KP.out _ B56.out | exact KP.out _ (B56.out.alloc B56.out.size _) | exact KP.out _ ((B56.out.alloc B56.out.size _).alloc (by have := B56.out.size; simp; omega) _) | exact KP.out _ B55.out | exact KP.out _ (B55.out.alloc B55.out.size _) | exact KP.out _ ((B55.out.alloc B55.out.size _).alloc (by have := B55.out.size; simp; omega) _) | exact KP.out _ B53.out | exact KP.out _ (B53.out.alloc B53.out.size _) | exact KP.out _ ((B53.out.alloc B53.out.size _).alloc (by have := B53.out.size; simp; omega) _) | exact KP.out _ B51.out | exact KP.out _ (B51.out.alloc B51.out.size _) | exact KP.out _ ((B51.out.alloc B51.out.size _).alloc (by have := B51.out.size; simp; omega) _) | exact KP.out _ B50.out | exact KP.out _ (B50.out.alloc B50.out.size _) | exact KP.out _ ((B50.out.alloc B50.out.size _).alloc (by have := B50.out.size; simp; omega) _) | exact KP.out _ B44.out | exact KP.out _ (B44.out.alloc B44.out.size _) | exact KP.out _ ((B44.out.alloc B44.out.size _).alloc (by have := B44.out.size; simp; omega) _) | exact KP.out _ B43.out | exact KP.out _ (B43.out.alloc B43.out.size _) | exact KP.out _ ((B43.out.alloc B43.out.size _).alloc (by have := B43.out.size; simp; omega) _) | exact KP.out _ B41.out | exact KP.out _ (B41.out.alloc B41.out.size _) | exact KP.out _ ((B41.out.alloc B41.out.size _).alloc (by have := B41.out.size; simp; omega) _) | exact KP.out _ B40.out | exact KP.out _ (B40.out.alloc B40.out.size _) | exact KP.out _ ((B40.out.alloc B40.out.size _).alloc (by have := B40.out.size; simp; omega) _) | exact KP.out _ B38.out | exact KP.out _ (B38.out.alloc B38.out.size _) | exact KP.out _ ((B38.out.alloc B38.out.size _).alloc (by have := B38.out.size; simp; omega) _)) ((first
      | (go_at_call 29; with_reducible refine chkT 1 _ ?_; have HH := (lit4 w2c _ 0 1 1 2 rfl).drew; (with_reducible refine (node_c _ 1 _ _ _ _ _ HH En38.out.1 En38.out.2.1 En38.out.2.2).mono ?_); rintro e w38 ⟨p38, q38, rfl, i38, b38⟩; have I38 := Lib.hid i38; have B38 := Lib.hid ((ba w2c _).drew.trans (b38.mono ((ba w2c _).drew).size)); clear i38 b38 HH)
      | (go_at_call 29; with_reducible refine chkT 1 _ ?_; have HH := ((lit4 w2c _ 0 1 1 2 rfl).below (ba _ (.cells #[.int .i64 0, .int .i64 2] 3))).drew; (with_reducible refine (node_c _ 1 _ _ _ _ _ HH En38.out.1 En38.out.2.1 En38.out.2.2).mono ?_); rintro e w38 ⟨p38, q38, rfl, i38, b38⟩; have I38 := Lib.hid i38; have LF := Lib.hid (((lit2 (w2c.alloc (.cells #[.int .i64 0, .int .i64 1, .int .i64 1, .int .i64 2] 3)) (w2c.heap.size + 1) 0 2 (by simp))).drew.below b38); have B38 := Lib.hid (((ba w2c _).alloc (by simp) _).drew.trans (b38.mono (((ba w2c _).alloc (by simp) _).drew).size)); clear i38 b38 HH)
      | (go_at_call 29; with_reducible refine chkT 1 _ ?_; have HH := ((lit4 (w2c.alloc (.cells #[.int .i64 0, .int .i64 2] 3)) (w2c.heap.size + 1) 0 1 1 2 (by simp))).drew; (with_reducible refine (node_c _ 1 _ _ _ _ _ HH En38.out.1 En38.out.2.1 En38.out.2.2).mono ?_); rintro e w38 ⟨p38, q38, rfl, i38, b38⟩; have I38 := Lib.hid i38; have LF := Lib.hid ((((lit2 w2c _ 0 2 rfl)).below (ba _ (.cells #[.int .i64 0, .int .i64 1, .int .i64 1, .int .i64 2] 3))).drew.below b38); have B38 := Lib.hid (((ba w2c _).alloc (by simp) _).drew.trans (b38.mono (((ba w2c _).alloc (by simp) _).drew).size)); clear i38 b38 HH)
      | (go_at_call 29; with_reducible refine chkT 3 _ ?_; have HH := LF.out; (with_reducible refine (node_c _ 3 _ _ _ _ _ HH En40.out.1 En40.out.2.1 En40.out.2.2).mono ?_); rintro e w40 ⟨p40, q40, rfl, i40, b40⟩; have I40 := Lib.hid i40; have I38 := Lib.hid ((I38.out).below b40); have B40 := Lib.hid (B38.out.trans (b40.mono (B38.out).size)); clear i40 b40 HH)
      | (go_at_call 29; with_reducible refine chkT 3 _ ?_; have HH := (lit2 w38 _ 0 2 rfl); (with_reducible refine (node_c _ 3 _ _ _ _ _ HH En40.out.1 En40.out.2.1 En40.out.2.2).mono ?_); rintro e w40 ⟨p40, q40, rfl, i40, b40⟩; have I40 := Lib.hid i40; have I38 := Lib.hid ((I38.out.below (ba _ (.cells #[.int .i64 0, .int .i64 2] 3))).below b40); have B40 := Lib.hid ((B38.out.alloc B38.out.size (.cells #[.int .i64 0, .int .i64 2] 3)).trans (b40.mono ((B38.out.alloc B38.out.size (.cells #[.int .i64 0, .int .i64 2] 3))).size)); clear i40 b40 HH)
      | (go_at_call 29; with_reducible refine chkT 2 _ ?_; have HH := IsInts.nil w40; (with_reducible refine (node_c _ 2 _ _ _ _ _ HH En41.out.1 En41.out.2.1 En41.out.2.2).mono ?_); rintro e w41 ⟨p41, q41, rfl, i41, b41⟩; have I41 := Lib.hid i41; have I38 := Lib.hid ((I38.out).below b41); have I40 := Lib.hid ((I40.out).below b41); have B41 := Lib.hid (B40.out.trans (b41.mono (B40.out).size)); clear i41 b41 HH)
      | (go_at_call 31; have HH : IsG (w41.alloc (.cells #[.int .i64 1, .slice p38 2 q38, .int .i64 3, .slice p40 1 q40, .int .i64 2, .slice p41 0 q41] 43)) (some ⟨w41.heap.size, 0, none⟩) 3 3 xG1 := lit_G w41 [((1, [(0, 1), (1, 2)]), p38, q38), ((3, [(0, 2)]), p40, q40), ((2, []), p41, q41)] #[.int .i64 1, .slice p38 2 q38, .int .i64 3, .slice p40 1 q40, .int .i64 2, .slice p41 0 q41] _ 3 rfl rfl rfl (by simp) (by intro x hx; simp only [List.mem_cons, List.not_mem_nil, or_false] at hx; rcases hx with rfl | rfl | rfl <;> first | exact I38.out | exact I40.out | exact I41.out); (with_reducible refine (of_any (w41.alloc (.cells #[.int .i64 1, .slice p38 2 q38, .int .i64 3, .slice p40 1 q40, .int .i64 2, .slice p41 0 q41] 43)) _ _ _).mono ?_); rintro e w43 ⟨rfl, b43⟩; have GG := Lib.hid (HH.below b43); have B43 := Lib.hid ((B41.out.alloc B41.out.size (.cells #[.int .i64 1, .slice p38 2 q38, .int .i64 3, .slice p40 1 q40, .int .i64 2, .slice p41 0 q41] 43)).trans (b43.mono (B41.out.alloc B41.out.size (.cells #[.int .i64 1, .slice p38 2 q38, .int .i64 3, .slice p40 1 q40, .int .i64 2, .slice p41 0 q41] 43)).size)); clear b43 HH)
      | (go_at_call 14; (with_reducible refine (rEqual_val true w43 _ _ _ _ _ _ xG1 xG1 (HG1.out.below B43.out) GG.out NG1.out NG1.out EG1.out).mono ?_); rintro e w44 ⟨rfl, b44⟩; have B44 := Lib.hid (B43.out.trans (b44.mono B43.out.size)); clear b44 GG)
      | (go_at_call 29; with_reducible refine chkT 4 _ ?_; have HH := (lit4 w44 _ 3 1 7 2 rfl); (with_reducible refine (node_c _ 4 _ _ _ _ _ HH En50.out.1 En50.out.2.1 En50.out.2.2).mono ?_); rintro e w50 ⟨p50, q50, rfl, i50, b50⟩; have I50 := Lib.hid i50; have B50 := Lib.hid ((B44.out.alloc B44.out.size _).trans (b50.mono ((B44.out.alloc B44.out.size _)).size)); clear i50 b50 HH)
      | (go_at_call 29; with_reducible refine chkT 4 _ ?_; have HH := ((lit4 w44 _ 3 1 7 2 rfl).below (ba _ (.cells #[.int .i64 2, .int .i64 0] 3))); (with_reducible refine (node_c _ 4 _ _ _ _ _ HH En50.out.1 En50.out.2.1 En50.out.2.2).mono ?_); rintro e w50 ⟨p50, q50, rfl, i50, b50⟩; have I50 := Lib.hid i50; have LF := Lib.hid (((lit2 (w44.alloc (.cells #[.int .i64 3, .int .i64 1, .int .i64 7, .int .i64 2] 3)) (w44.heap.size + 1) 2 0 (by simp))).below b50); have B50 := Lib.hid (((B44.out.alloc B44.out.size _).alloc (by have := B44.out.size; simp; omega) _).trans (b50.mono (((B44.out.alloc B44.out.size _).alloc (by have := B44.out.size; simp; omega) _)).size)); clear i50 b50 HH)
      | (go_at_call 29; with_reducible refine chkT 4 _ ?_; have HH := ((lit4 (w44.alloc (.cells #[.int .i64 2, .int .i64 0] 3)) (w44.heap.size + 1) 3 1 7 2 (by simp))); (with_reducible refine (node_c _ 4 _ _ _ _ _ HH En50.out.1 En50.out.2.1 En50.out.2.2).mono ?_); rintro e w50 ⟨p50, q50, rfl, i50, b50⟩; have I50 := Lib.hid i50; have LF := Lib.hid ((((lit2 w44 _ 2 0 rfl)).below (ba _ (.cells #[.int .i64 3, .int .i64 1, .int .i64 7, .int .i64 2] 3))).below b50); have B50 := Lib.hid (((B44.out.alloc B44.out.size _).alloc (by have := B44.out.size; simp; omega) _).trans (b50.mono (((B44.out.alloc B44.out.size _).alloc (by have := B44.out.size; simp; omega) _)).size)); clear i50 b50 HH)
      | (go_at_call 29; with_reducible refine chkT 5 _ ?_; have HH := IsInts.nil (w50.alloc (.cells #[.int .i64 2, .int .i64 0] 3)); (with_reducible refine (node_c _ 5 _ _ _ _ _ HH En51.out.1 En51.out.2.1 En51.out.2.2).mono ?_); rintro e w51 ⟨p51, q51, rfl, i51, b51⟩; have I51 := Lib.hid i51; have I50 := Lib.hid ((I50.out.below (ba _ (.cells #[.int .i64 2, .int .i64 0] 3))).below b51); have LF := Lib.hid ((lit2 w50 _ 2 0 rfl).below b51); have B51 := Lib.hid ((B50.out.alloc B50.out.size (.cells #[.int .i64 2, .int .i64 0] 3)).trans (b51.mono ((B50.out.alloc B50.out.size (.cells #[.int .i64 2, .int .i64 0] 3))).size)); clear i51 b51 HH)
      | (go_at_call 29; with_reducible refine chkT 5 _ ?_; have HH := IsInts.nil w50; (with_reducible refine (node_c _ 5 _ _ _ _ _ HH En51.out.1 En51.out.2.1 En51.out.2.2).mono ?_); rintro e w51 ⟨p51, q51, rfl, i51, b51⟩; have I51 := Lib.hid i51; have I50 := Lib.hid ((I50.out).below b51); have LF := Lib.hid (LF.out.below b51); have B51 := Lib.hid (B50.out.trans (b51.mono (B50.out).size)); clear i51 b51 HH)
      | (go_at_call 29; with_reducible refine chkT 5 _ ?_; have HH := IsInts.nil w50; (with_reducible refine (node_c _ 5 _ _ _ _ _ HH En51.out.1 En51.out.2.1 En51.out.2.2).mono ?_); rintro e w51 ⟨p51, q51, rfl, i51, b51⟩; have I51 := Lib.hid i51; have I50 := Lib.hid ((I50.out).below b51); have B51 := Lib.hid (B50.out.trans (b51.mono (B50.out).size)); clear i51 b51 HH)
      | (go_at_call 29; with_reducible refine chkT 6 _ ?_; have HH := LF.out; (with_reducible refine (node_c _ 6 _ _ _ _ _ HH En53.out.1 En53.out.2.1 En53.out.2.2).mono ?_); rintro e w53 ⟨p53, q53, rfl, i53, b53⟩; have I53 := Lib.hid i53; have I50 := Lib.hid ((I50.out).below b53); have I51 := Lib.hid ((I51.out).below b53); have B53 := Lib.hid (B51.out.trans (b53.mono (B51.out).size)); clear i53 b53 HH)
      | (go_at_call 29; with_reducible refine chkT 6 _ ?_; have HH := (lit2 w51 _ 2 0 rfl); (with_reducible refine (node_c _ 6 _ _ _ _ _ HH En53.out.1 En53.out.2.1 En53.out.2.2).mono ?_); rintro e w53 ⟨p53, q53, rfl, i53, b53⟩; have I53 := Lib.hid i53; have I50 := Lib.hid ((I50.out.below (ba _ (.cells #[.int .i64 2, .int .i64 0] 3))).below b53); have I51 := Lib.hid ((I51.out.below (ba _ (.cells #[.int .i64 2, .int .i64 0] 3))).below b53); have B53 := Lib.hid ((B51.out.alloc B51.out.size (.cells #[.int .i64 2, .int .i64 0] 3)).trans (b53.mono ((B51.out.alloc B51.out.size (.cells #[.int .i64 2, .int .i64 0] 3))).size)); clear i53 b53 HH)
      | (go_at_call 31; have HH : IsG (w53.alloc (.cells #[.int .i64 4, .slice p50 2 q50, .int .i64 5, .slice p51 0 q51, .int .i64 6, .slice p53 1 q53] 43)) (some ⟨w53.heap.size, 0, none⟩) 3 3 xG2 := lit_G w53 [((4, [(3, 1), (7, 2)]), p50, q50), ((5, []), p51, q51), ((6, [(2, 0)]), p53, q53)] #[.int .i64 4, .slice p50 2 q50, .int .i64 5, .slice p51 0 q51, .int .i64 6, .slice p53 1 q53] _ 3 rfl rfl rfl (by simp) (by intro x hx; simp only [List.mem_cons, List.not_mem_nil, or_false] at hx; rcases hx with rfl | rfl | rfl <;> first | exact I50.out | exact I51.out | exact I53.out); (with_reducible refine (of_any (w53.alloc (.cells #[.int .i64 4, .slice p50 2 q50, .int .i64 5, .slice p51 0 q51, .int .i64 6, .slice p53 1 q53] 43)) _ _ _).mono ?_); rintro e w55 ⟨rfl, b55⟩; have GG := Lib.hid (HH.below b55); have B55 := Lib.hid ((B53.out.alloc B53.out.size (.cells #[.int .i64 4, .slice p50 2 q50, .int .i64 5, .slice p51 0 q51, .int .i64 6, .slice p53 1 q53] 43)).trans (b55.mono (B53.out.alloc B53.out.size (.cells #[.int .i64 4, .slice p50 2 q50, .int .i64 5, .slice p51 0 q51, .int .i64 6, .slice p53 1 q53] 43)).size)); clear b55 HH)
      | (go_at_call 14; (with_reducible refine (rEqual_val true w55 _ _ _ _ _ _ xG2 xG2 (HG2.out.below B55.out) GG.out NG2.out NG2.out EG2.out).mono ?_); rintro e w56 ⟨rfl, b56⟩; have B56 := Lib.hid (B55.out.trans (b56.mono B55.out.size)); clear b56 GG)))
    all_goals (try go_wp2_with fail)
    all_goals first | (go_meet; exact ⟨rfl, B56⟩) | (refine Met.intro ?_; go_step; refine Met.intro ?_; go_step; (repeat apply Exists.intro); exact ⟨⟨rfl, B56⟩, rfl⟩)
  case rest =>
    obtain ⟨rfl, hBc⟩ := hcut
    obtain ⟨wk, hwk⟩ : ∃ wk : World, wk = wc := ⟨_, rfl⟩
    subst hwk
    go_wp2_with fail
    refine (Canon_any wk none 0 0 [] (IsG.nil _) (.inl Siz.nil)).mono ?_
    rintro e w60 ⟨za, zc, rfl, _, b60⟩
    have hc0 : can [] = [] := rfl
    have hf0 : ((frm [] : Nat) : Int) = 1 := rfl
    rw [hc0, hf0]
    have B60 := Lib.hid (hBc.out.trans (b60.mono hBc.out.size))
    obtain ⟨w61, hw61⟩ : ∃ w61, w60.alloc (.cells #[.slice za 0 zc] 25) = w61 := ⟨_, rfl⟩
    have B61 : Hid (Below w2c.heap.size w2c w61) := hw61 ▸ B60.out.alloc B60.out.size _
    have BD := Lib.hid B61.out.drew
    obtain ⟨x61, _⟩ := KP.out w61 B61.out
    have KQ : Hid (∀ V, Below w2c.heap.size w2c V → V.cell? ⟨w1b.heap.size, 0, none⟩ = some (.slice fa1 3 fc1)) := fun V hV => (KP.out V hV).1
    have F1 : Hid (Fine xG1 ∧ Siz xG1 ∧ Siz xG3 ∧ Siz xC ∧ Fine xC) := ⟨(frm_ok.1 x_g1).fine, siz_of (by decide), siz_of (by decide), siz_of (by decide), (frm_ok.1 x_c).fine⟩
    have EG3 : Hid ((nums xG3).length ≤ 1000000 ∧ (cG xG3 xG3 == 0) = true) := ⟨F1.out.2.2.1.nums, by rw [cG_self]; rfl⟩
    have SUBX := Lib.hid (fun V a cap (hV : IsG V a 3 cap xG1) => Sub_x V a cap hV F1.out.1 F1.out.2.1)
    have EQ3 := Lib.hid (fun V a cap a' cap' (hV : IsG V a 2 cap xG3) (hV' : IsG V a' 2 cap' xG3) => rEqual_val true V a a' 2 cap 2 cap' xG3 xG3 hV hV' EG3.out.1 EG3.out.1 EG3.out.2)
    have CYC := Lib.hid (fun V a cap (hV : IsG V a 1 cap xC) => Cyclic_val true V a 1 cap xC hV F1.out.2.2.2.2 F1.out.2.2.2.1 ⟨fun _ => x_ac, fun _ => rfl⟩)
    have CYF := Lib.hid (fun V a cap (hV : IsG V a 3 cap xG1) => Cyclic_val false V a 3 cap xG1 hV F1.out.1 F1.out.2.1 ⟨fun h => (by cases h), fun h => absurd x_ag h⟩)
    have EQ4 := Lib.hid (fun V a cap a' cap' (hV : IsG V a 1 cap [(4, [])]) (hV' : IsG V a' 1 cap' [(4, [])]) => rEqual_val true V a a' 1 cap 1 cap' [(4, [])] [(4, [])] hV hV' (by decide) (by decide) (by rw [cG_self]; rfl))
    have EQF := Lib.hid (fun V a cap (hV : IsG V a 3 cap xG1) => Equal_val true V a a 3 cap 3 cap xG1 xG1 hV hV (by rw [cG_self]; rfl))
    have CMP := Lib.hid (fun V a cap a' cap' (hV : IsG V a 1 cap [(9, [])]) (hV' : IsG V a' 3 cap' xG1) => Compare_val (-1) V a a' 1 cap 3 cap' [(9, [])] xG1 hV hV' (by decide))
    have En70 : Hid (2 ≤ 1000 ∧ prs [0, 1] = [(0, 1)] ∧ ∀ x ∈ ([(0, 1)] : List Arc), R64 x.1) := ⟨by decide, rfl, r64s (by decide)⟩
    have En71 : Hid (0 ≤ 1000 ∧ prs ([] : List Int) = ([] : List Arc) ∧ ∀ x ∈ ([] : List Arc), R64 x.1) := ⟨by decide, rfl, r64s (by decide)⟩
    have En78 : Hid (2 ≤ 1000 ∧ prs [5, 0] = [(5, 0)] ∧ ∀ x ∈ ([(5, 0)] : List Arc), R64 x.1) := ⟨by decide, rfl, r64s (by decide)⟩
    have En90 : Hid (0 ≤ 1000 ∧ prs ([] : List Int) = ([] : List Arc) ∧ ∀ x ∈ ([] : List Arc), R64 x.1) := ⟨by decide, rfl, r64s (by decide)⟩
    clear b60 hc0 hf0
    go_upto_region 6 with fail
    (try rw [hw61])
    clear hw61
    go_region_held3 (fun w' => w'.cell? ⟨w1b.heap.size, 0, none⟩ = some (.slice fa1 3 fc1)) (first | exact x61 | exact KQ.out _ BD.out | exact KQ.out _ (B61.out.alloc B61.out.size _).drew | exact KQ.out _ B103.out | exact KQ.out _ (B103.out.alloc B103.out.size _) | exact KQ.out _ B101.out | exact KQ.out _ (B101.out.alloc B101.out.size _) | exact KQ.out _ B98.out | exact KQ.out _ (B98.out.alloc B98.out.size _) | exact KQ.out _ B93.out | exact KQ.out _ (B93.out.alloc B93.out.size _) | exact KQ.out _ B92.out | exact KQ.out _ (B92.out.alloc B92.out.size _) | exact KQ.out _ B90.out | exact KQ.out _ (B90.out.alloc B90.out.size _) | exact KQ.out _ B89.out | exact KQ.out _ (B89.out.alloc B89.out.size _) | exact KQ.out _ B85.out | exact KQ.out _ (B85.out.alloc B85.out.size _) | exact KQ.out _ B81.out | exact KQ.out _ (B81.out.alloc B81.out.size _) | exact KQ.out _ B80.out | exact KQ.out _ (B80.out.alloc B80.out.size _) | exact KQ.out _ B78.out | exact KQ.out _ (B78.out.alloc B78.out.size _) | exact KQ.out _ B74.out | exact KQ.out _ (B74.out.alloc B74.out.size _) | exact KQ.out _ B73.out | exact KQ.out _ (B73.out.alloc B73.out.size _) | exact KQ.out _ B71.out | exact KQ.out _ (B71.out.alloc B71.out.size _) | exact KQ.out _ B70.out | exact KQ.out _ (B70.out.alloc B70.out.size _) | exact KQ.out _ B68.out | exact KQ.out _ (B68.out.alloc B68.out.size _)) ((first
      | (go_at_call 20; (with_reducible refine (SUBX.out w61.drew _ _ (HG1.out.below BD.out)).mono ?_); rintro e w68 ⟨sa, sc, rfl, hI, hb⟩; have IS := Lib.hid hI; have B68 := Lib.hid (BD.out.trans (hb.mono BD.out.size)); clear hI hb)
      | (go_at_call 20; (with_reducible refine (SUBX.out (w61.alloc (.cells #[.int .i64 0, .int .i64 1] 3)).drew _ _ (HG1.out.below (B61.out.alloc B61.out.size _).drew)).mono ?_); rintro e w68 ⟨sa, sc, rfl, hI, hb⟩; have IS := Lib.hid hI; have LF := Lib.hid ((lit2 w61 _ 0 1 rfl).drew.below hb); have B68 := Lib.hid ((B61.out.alloc B61.out.size (.cells #[.int .i64 0, .int .i64 1] 3)).drew.trans (hb.mono (B61.out.alloc B61.out.size (.cells #[.int .i64 0, .int .i64 1] 3)).drew.size)); clear hI hb)
      | (go_at_call 29; (with_reducible refine chkT 3 _ ?_); have HH := LF.out; (with_reducible refine (node_c _ 3 _ _ _ _ _ HH En70.out.1 En70.out.2.1 En70.out.2.2).mono ?_); rintro e w70 ⟨p70, q70, rfl, i70, b70⟩; have I70 := Lib.hid i70; have IS := Lib.hid (IS.out.below b70); have B70 := Lib.hid (B68.out.trans (b70.mono B68.out.size)); clear i70 b70 HH)
      | (go_at_call 29; (with_reducible refine chkT 3 _ ?_); have HH := lit2 w68 _ 0 1 rfl; (with_reducible refine (node_c _ 3 _ _ _ _ _ HH En70.out.1 En70.out.2.1 En70.out.2.2).mono ?_); rintro e w70 ⟨p70, q70, rfl, i70, b70⟩; have I70 := Lib.hid i70; have IS := Lib.hid ((IS.out.below (ba _ (.cells #[.int .i64 0, .int .i64 1] 3))).below b70); have B70 := Lib.hid ((B68.out.alloc B68.out.size (.cells #[.int .i64 0, .int .i64 1] 3)).trans (b70.mono (B68.out.alloc B68.out.size (.cells #[.int .i64 0, .int .i64 1] 3)).size)); clear i70 b70 HH)
      | (go_at_call 29; (with_reducible refine chkT 2 _ ?_); have HH := IsInts.nil w70; (with_reducible refine (node_c _ 2 _ _ _ _ _ HH En71.out.1 En71.out.2.1 En71.out.2.2).mono ?_); rintro e w71 ⟨p71, q71, rfl, i71, b71⟩; have I71 := Lib.hid i71; have IS := Lib.hid (IS.out.below b71); have I70 := Lib.hid (I70.out.below b71); have B71 := Lib.hid (B70.out.trans (b71.mono B70.out.size)); clear i71 b71 HH)
      | (go_at_call 31; have HH : IsG (w71.alloc (.cells #[.int .i64 3, .slice p70 1 q70, .int .i64 2, .slice p71 0 q71] 43)) (some ⟨w71.heap.size, 0, none⟩) 2 2 xG3 := lit_G w71 [((3, [(0, 1)]), p70, q70), ((2, []), p71, q71)] #[.int .i64 3, .slice p70 1 q70, .int .i64 2, .slice p71 0 q71] _ 2 rfl rfl rfl (by simp) (by intro x hx; simp only [List.mem_cons, List.not_mem_nil, or_false] at hx; rcases hx with rfl | rfl <;> first | exact I70.out | exact I71.out); (with_reducible refine (of_any (w71.alloc (.cells #[.int .i64 3, .slice p70 1 q70, .int .i64 2, .slice p71 0 q71] 43)) _ _ _).mono ?_); rintro e w73 ⟨rfl, b73⟩; have GG73 := Lib.hid (HH.below b73); have IS := Lib.hid ((IS.out.below (ba w71 _)).below b73); have B73 := Lib.hid ((B71.out.alloc B71.out.size (.cells #[.int .i64 3, .slice p70 1 q70, .int .i64 2, .slice p71 0 q71] 43)).trans (b73.mono (B71.out.alloc B71.out.size (.cells #[.int .i64 3, .slice p70 1 q70, .int .i64 2, .slice p71 0 q71] 43)).size)); clear b73 HH)
      | (go_at_call 14; (with_reducible refine (EQ3.out w73 _ _ _ _ IS.out GG73.out).mono ?_); rintro e w74 ⟨rfl, hb⟩; have B74 := Lib.hid (B73.out.trans (hb.mono B73.out.size)); clear hb)
      | (go_at_call 29; (with_reducible refine chkT 1 _ ?_); have HH := lit2 w74 _ 5 0 rfl; (with_reducible refine (node_c _ 1 _ _ _ _ _ HH En78.out.1 En78.out.2.1 En78.out.2.2).mono ?_); rintro e w78 ⟨p78, q78, rfl, i78, b78⟩; have I78 := Lib.hid i78; have B78 := Lib.hid ((B74.out.alloc B74.out.size (.cells #[.int .i64 5, .int .i64 0] 3)).trans (b78.mono (B74.out.alloc B74.out.size (.cells #[.int .i64 5, .int .i64 0] 3)).size)); clear i78 b78 HH)
      | (go_at_call 31; have HH : IsG (w78.alloc (.cells #[.int .i64 1, .slice p78 1 q78] 43)) (some ⟨w78.heap.size, 0, none⟩) 1 1 xC := lit_G w78 [((1, [(5, 0)]), p78, q78)] #[.int .i64 1, .slice p78 1 q78] _ 1 rfl rfl rfl (by simp) (by intro x hx; simp only [List.mem_cons, List.not_mem_nil, or_false] at hx; rcases hx with rfl <;> first | exact I78.out); (with_reducible refine (of_any (w78.alloc (.cells #[.int .i64 1, .slice p78 1 q78] 43)) _ _ _).mono ?_); rintro e w80 ⟨rfl, b80⟩; have GG80 := Lib.hid (HH.below b80); have B80 := Lib.hid ((B78.out.alloc B78.out.size (.cells #[.int .i64 1, .slice p78 1 q78] 43)).trans (b80.mono (B78.out.alloc B78.out.size (.cells #[.int .i64 1, .slice p78 1 q78] 43)).size)); clear b80 HH)
      | (go_at_call 22; (with_reducible refine (CYC.out w80 _ _ GG80.out).mono ?_); rintro e w81 ⟨rfl, hb⟩; have B81 := Lib.hid (B80.out.trans (hb.mono B80.out.size)); clear hb)
      | (go_at_call 22; (with_reducible refine (CYF.out w81 _ _ (HG1.out.below B81.out)).mono ?_); rintro e w85 ⟨rfl, hb⟩; have B85 := Lib.hid (B81.out.trans (hb.mono B81.out.size)); clear hb)
      | (go_at_call 12; (with_reducible refine (Atom_any w85 4).mono ?_); rintro e w89 ⟨ra, rc, rfl, hI, hb⟩; have IS := Lib.hid hI; have B89 := Lib.hid (B85.out.trans (hb.mono B85.out.size)); clear hb hI)
      | (go_at_call 29; (with_reducible refine chkT 4 _ ?_); have HH := IsInts.nil w89; (with_reducible refine (node_c _ 4 _ _ _ _ _ HH En90.out.1 En90.out.2.1 En90.out.2.2).mono ?_); rintro e w90 ⟨p90, q90, rfl, i90, b90⟩; have I90 := Lib.hid i90; have IS := Lib.hid (IS.out.below b90); have B90 := Lib.hid (B89.out.trans (b90.mono B89.out.size)); clear i90 b90 HH)
      | (go_at_call 31; have HH : IsG (w90.alloc (.cells #[.int .i64 4, .slice p90 0 q90] 43)) (some ⟨w90.heap.size, 0, none⟩) 1 1 [(4, [])] := lit_G w90 [((4, []), p90, q90)] #[.int .i64 4, .slice p90 0 q90] _ 1 rfl rfl rfl (by simp) (by intro x hx; simp only [List.mem_cons, List.not_mem_nil, or_false] at hx; rcases hx with rfl <;> first | exact I90.out); (with_reducible refine (of_any (w90.alloc (.cells #[.int .i64 4, .slice p90 0 q90] 43)) _ _ _).mono ?_); rintro e w92 ⟨rfl, b92⟩; have GG92 := Lib.hid (HH.below b92); have IS := Lib.hid ((IS.out.below (ba w90 _)).below b92); have B92 := Lib.hid ((B90.out.alloc B90.out.size (.cells #[.int .i64 4, .slice p90 0 q90] 43)).trans (b92.mono (B90.out.alloc B90.out.size (.cells #[.int .i64 4, .slice p90 0 q90] 43)).size)); clear b92 HH)
      | (go_at_call 14; (with_reducible refine (EQ4.out w92 _ _ _ _ IS.out GG92.out).mono ?_); rintro e w93 ⟨rfl, hb⟩; have B93 := Lib.hid (B92.out.trans (hb.mono B92.out.size)); clear hb)
      | (go_at_call 26; (with_reducible refine (EQF.out w93 _ _ (HG1.out.below B93.out)).mono ?_); rintro e w98 ⟨rfl, hb⟩; have B98 := Lib.hid (B93.out.trans (hb.mono B93.out.size)); clear hb)
      | (go_at_call 12; (with_reducible refine (Atom_any w98 9).mono ?_); rintro e w101 ⟨ra, rc, rfl, hI, hb⟩; have IS := Lib.hid hI; have B101 := Lib.hid (B98.out.trans (hb.mono B98.out.size)); clear hb hI)
      | (go_at_call 24; (with_reducible refine (CMP.out w101 _ _ _ _ IS.out (HG1.out.below B101.out)).mono ?_); rintro e w103 ⟨rfl, hb⟩; have B103 := Lib.hid (B101.out.trans (hb.mono B101.out.size)); clear hb)))
    all_goals go_wp2
    all_goals go_ret
    all_goals exact ⟨rfl, BX.out.trans (B103.out.mono BX.out.size)⟩
end Go.Proofs.Ytlhiiecaphibhaa

/- graph: walks of the laws GraphCanons, GraphCompares. -/
namespace Go.Proofs.Ytlhiiecaphibhaa
open Go.RowKit Go.Maps

theorem Light_val (b : Bool) (w : World) (a : Option Addr) (n cap : Nat) (F : Gr) (h : IsG w a n cap F) (hb : lite F = b) :
    Calls Try.prog 17 #[.agg #[.slice a n cap]] w fun e w' => e = .returned (.bool b) ∧ Below w.heap.size w w' := hb ▸ Light_any w a n cap F h
set_option maxRecDepth 100000 in
set_option maxHeartbeats 3200000 in
theorem GraphCanons_law (w : World) (a : Option Addr) (n cap : Nat) (F : Gr) (h : IsG w a n cap F) :
    Calls Try.prog 4 #[.agg #[.slice a n cap]] w fun e w' => e = .returned (.bool true) ∧ Below w.heap.size w w' := by
  obtain ⟨W, hW⟩ : ∃ W, w.alloc (.cells #[.slice a n cap] 25) = W := ⟨_, rfl⟩
  have B := Lib.hid (show Below w.heap.size w W from hW ▸ ba w _)
  have hwz : w.heap.size < W.heap.size := by rw [← hW]; simp
  have hbox : W.cell? ⟨w.heap.size, 0, none⟩ = some (.slice a n cap) := hW ▸ box_cell w _ _
  have H := Lib.hid (h.below B.out)
  clear h
  cases hb : lite F
  · have LV := Lib.hid (Light_val false W a n cap F H.out hb)
    go_enter Try.func4, Try.ntmps4
    go_wp2_with fail
    (try rw [hW])
    refine LV.out.mono ?_
    rintro e w1 ⟨rfl, hb1⟩
    go_wp2_with fail
    refine (ex_holds w1).mono ?_
    rintro e w2 ⟨rfl, hb2⟩
    go_wp2
    go_ret
    exact ⟨rfl, B.out.trans ((hb1.trans (hb2.mono hb1.size)).mono B.out.size)⟩
  · have LV := Lib.hid (Light_val true W a n cap F H.out hb)
    have hs := lite_siz hb
    have HS := Lib.hid hs
    have HN := Lib.hid hs.can.nums
    have HE : Hid ((cG (can F) (can F) == 0) = true) := by show _ = _; rw [cG_self]; rfl
    obtain ⟨G, hG⟩ : ∃ G, can F = G := ⟨_, rfl⟩
    have CA := Lib.hid (fun V (hV : IsG V a n cap F) => Canon_any V a n cap F hV (.inl hs))
    have RA := Lib.hid (fun V (hV : IsG V a n cap F) => rCanon_any V a n cap F hV (.inl hs))
    unfold CanonPost at CA RA
    rw [hG] at HN HE CA RA
    obtain ⟨e0, he0⟩ : ∃ e0, frm F = e0 := ⟨_, rfl⟩
    rw [he0] at CA RA
    obtain ⟨m, hm⟩ : ∃ m, G.length = m := ⟨_, rfl⟩
    rw [hm] at CA RA
    clear hb hs hG he0 hm
    go_enter Try.func4, Try.ntmps4
    go_wp2_with fail
    (try rw [hW])
    refine LV.out.mono ?_
    rintro e w1 ⟨rfl, hb1⟩
    have x1 := (hb1.cell (p := ⟨w.heap.size, 0, none⟩) hwz).trans hbox
    have B1 := Lib.hid hb1
    have h1z : w.heap.size < w1.heap.size := Nat.lt_of_lt_of_le hwz hb1.size
    clear hb1 hbox hW
    go_wp2_with fail
    refine (CA.out w1 (H.out.below B1.out)).mono ?_
    rintro e w2 ⟨fa, fc, rfl, hI, hb2⟩
    obtain ⟨w3, hw3⟩ : ∃ w3, w2.alloc (.cells #[.slice fa m fc] 25) = w3 := ⟨_, rfl⟩
    have hb3 : Below w2.heap.size w2 w3 := hw3 ▸ ba w2 _
    have y3 : w3.cell? ⟨w2.heap.size, 0, none⟩ = some (.slice fa m fc) := hw3 ▸ box_cell w2 _ _
    have h3z : w2.heap.size < w3.heap.size := by rw [← hw3]; simp
    have B13 := Lib.hid (hb2.trans (hb3.mono hb2.size))
    have x3 := (B13.out.cell (p := ⟨w.heap.size, 0, none⟩) h1z).trans x1
    have I3 := Lib.hid (hI.below hb3)
    have B3 := Lib.hid (B1.out.trans (B13.out.mono B1.out.size))
    have h4z : w.heap.size < w3.heap.size := Nat.lt_of_lt_of_le h1z B13.out.size
    clear hI hb2 hb3 x1
    go_wp2_with fail
    (try rw [hw3])
    clear hw3
    refine (RA.out w3 (H.out.below B3.out)).mono ?_
    rintro e w4 ⟨ga, gc, rfl, hJ, hb4⟩
    obtain ⟨w5, hw5⟩ : ∃ w5, w4.alloc (.cells #[.slice ga m gc] 25) = w5 := ⟨_, rfl⟩
    have hb5 : Below w4.heap.size w4 w5 := hw5 ▸ ba w4 _
    have y5 : w5.cell? ⟨w4.heap.size, 0, none⟩ = some (.slice ga m gc) := hw5 ▸ box_cell w4 _ _
    have B35 := Lib.hid (hb4.trans (hb5.mono hb4.size))
    have y4 := (B35.out.cell (p := ⟨w2.heap.size, 0, none⟩) h3z).trans y3
    have J5 := Lib.hid (hJ.below hb5)
    have I5 := Lib.hid (I3.out.below B35.out)
    have B5 := Lib.hid (B3.out.trans (B35.out.mono B3.out.size))
    clear hJ hb4 hb5 x3 y3
    go_wp2_with (first
      | (go_at_call 14; (try rw [hw5]); (with_reducible refine (rEqual_val true w5 fa ga m fc m gc G G I5.out J5.out HN.out HN.out HE.out).mono ?_); rintro e w6 ⟨rfl, hb6⟩; have B6 := Lib.hid (B5.out.trans (hb6.mono B5.out.size)); clear hb6)
      | (go_at_call 16; refine (ex_holds w6).mono ?_; rintro e w7 ⟨rfl, hb7⟩; have B7 := Lib.hid (B6.out.trans (hb7.mono B6.out.size)); clear hb7))
    go_ret
    exact ⟨rfl, B.out.trans (B7.out.mono B.out.size)⟩
end Go.Proofs.Ytlhiiecaphibhaa
