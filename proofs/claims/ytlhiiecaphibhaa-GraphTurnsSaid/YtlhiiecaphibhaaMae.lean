/- Texts joined by wip/gen/merge.py: Ho. -/
import Derived.Test.YtlhiiecaphibhaaMad
set_option linter.unusedVariables false
set_option linter.unusedSimpArgs false
/- graph: the walk of the law GraphOrders. Written by wip/gen/gorders.py. -/
namespace Go.Proofs.Ytlhiiecaphibhaa
open Go.RowKit Go.Maps

abbrev thrF (w : World) (v u z : Value) : World := ((w.alloc (.cells #[v] 25)).alloc (.cells #[u] 25)).alloc (.cells #[z] 25)
theorem thrF_is (w : World) (v u z : Value) (W : World) (hW : thrF w v u z = W) : Below w.heap.size w W ∧ W.cell? ⟨w.heap.size, 0, none⟩ = some v ∧ W.cell? ⟨w.heap.size + 1, 0, none⟩ = some u ∧ W.cell? ⟨w.heap.size + 2, 0, none⟩ = some z ∧ w.heap.size + 2 < W.heap.size := by
  obtain ⟨V, hV⟩ : ∃ V, twoF w v u = V := ⟨_, rfl⟩
  obtain ⟨b1, hz, d1, d2⟩ := twoF_is w v u V hV
  have e : V.alloc (.cells #[z] 25) = W := by rw [← hV]; exact hW
  subst e
  have b2 : Below V.heap.size V (V.alloc (.cells #[z] 25)) := ba V _
  refine ⟨b1.trans (b2.mono b1.size), (b2.cell (p := ⟨w.heap.size, 0, none⟩) (by show w.heap.size < _; omega)).trans d1, (b2.cell (p := ⟨w.heap.size + 1, 0, none⟩) (by show w.heap.size + 1 < _; omega)).trans d2, ?_, by rw [World.size_alloc]; omega⟩
  have := box_cell V z 25
  rw [hz] at this
  exact this
def Keep3 (m : Nat) (v u z : Value) (V : World) : Prop := V.cell? ⟨m, 0, none⟩ = some v ∧ V.cell? ⟨m + 1, 0, none⟩ = some u ∧ V.cell? ⟨m + 2, 0, none⟩ = some z

set_option maxRecDepth 100000 in
set_option maxHeartbeats 6400000 in
theorem go_l0 (w : World) (a a1 a2 : Option Addr) (n cap n1 cap1 n2 cap2 : Nat) (F F1 F2 : Gr) (h : IsG w a n cap F) (h1 : IsG w a1 n1 cap1 F1) (h2 : IsG w a2 n2 cap2 F2) (g0 : lite F = false) :
    Calls Try.prog 7 #[.agg #[.slice a n cap], .agg #[.slice a1 n1 cap1], .agg #[.slice a2 n2 cap2]] w fun e w' => e = .returned (.bool true) ∧ Below w.heap.size w w' := by
  obtain ⟨W, hW⟩ : ∃ W, thrF w (.slice a n cap) (.slice a1 n1 cap1) (.slice a2 n2 cap2) = W := ⟨_, rfl⟩
  obtain ⟨b1, d1, d2, d3, hz⟩ := thrF_is w _ _ _ W hW
  have B := Lib.hid b1
  have H0 := Lib.hid (fun V (hV : Below W.heap.size W V) => (h.below b1).below hV)
  have H1 := Lib.hid (fun V (hV : Below W.heap.size W V) => (h1.below b1).below hV)
  have H2 := Lib.hid (fun V (hV : Below W.heap.size W V) => (h2.below b1).below hV)
  have KP : Hid (∀ V, Below W.heap.size W V → V.cell? ⟨w.heap.size, 0, none⟩ = some (.slice a n cap) ∧ V.cell? ⟨w.heap.size + 1, 0, none⟩ = some (.slice a1 n1 cap1) ∧ V.cell? ⟨w.heap.size + 2, 0, none⟩ = some (.slice a2 n2 cap2)) := fun V hV => ⟨(hV.cell (p := ⟨w.heap.size, 0, none⟩) (by show w.heap.size < _; omega)).trans d1, (hV.cell (p := ⟨w.heap.size + 1, 0, none⟩) (by show w.heap.size + 1 < _; omega)).trans d2, (hV.cell (p := ⟨w.heap.size + 2, 0, none⟩) (by show w.heap.size + 2 < _; omega)).trans d3⟩
  clear h h1 h2 b1 hz
  have LV := Lib.hid (Light_val false W a n cap F (H0.out W (Below.refl _ _)) g0)
  clear g0
  go_enter Try.func7, Try.ntmps7
  go_wp2_with (first
    | (go_at_call 17; (try rw [hW]); (with_reducible refine LV.out.mono ?_); rintro e w1 ⟨rfl, hb1⟩; have B1 := Lib.hid hb1; obtain ⟨x1, x2, x3⟩ := KP.out w1 hb1; clear hb1)
    | (go_at_call 16; (with_reducible refine (ex_holds w1).mono ?_); rintro e wx ⟨rfl, hbx⟩; have BX := Lib.hid (B1.out.trans (hbx.mono B1.out.size)); clear hbx))
  go_ret
  exact ⟨rfl, B.out.trans (BX.out.mono B.out.size)⟩

set_option maxRecDepth 100000 in
set_option maxHeartbeats 6400000 in
theorem go_l1 (w : World) (a a1 a2 : Option Addr) (n cap n1 cap1 n2 cap2 : Nat) (F F1 F2 : Gr) (h : IsG w a n cap F) (h1 : IsG w a1 n1 cap1 F1) (h2 : IsG w a2 n2 cap2 F2) (g0 : lite F = true) (g1 : lite F1 = false) :
    Calls Try.prog 7 #[.agg #[.slice a n cap], .agg #[.slice a1 n1 cap1], .agg #[.slice a2 n2 cap2]] w fun e w' => e = .returned (.bool true) ∧ Below w.heap.size w w' := by
  obtain ⟨W, hW⟩ : ∃ W, thrF w (.slice a n cap) (.slice a1 n1 cap1) (.slice a2 n2 cap2) = W := ⟨_, rfl⟩
  obtain ⟨b1, d1, d2, d3, hz⟩ := thrF_is w _ _ _ W hW
  have B := Lib.hid b1
  have H0 := Lib.hid (fun V (hV : Below W.heap.size W V) => (h.below b1).below hV)
  have H1 := Lib.hid (fun V (hV : Below W.heap.size W V) => (h1.below b1).below hV)
  have H2 := Lib.hid (fun V (hV : Below W.heap.size W V) => (h2.below b1).below hV)
  have KP : Hid (∀ V, Below W.heap.size W V → V.cell? ⟨w.heap.size, 0, none⟩ = some (.slice a n cap) ∧ V.cell? ⟨w.heap.size + 1, 0, none⟩ = some (.slice a1 n1 cap1) ∧ V.cell? ⟨w.heap.size + 2, 0, none⟩ = some (.slice a2 n2 cap2)) := fun V hV => ⟨(hV.cell (p := ⟨w.heap.size, 0, none⟩) (by show w.heap.size < _; omega)).trans d1, (hV.cell (p := ⟨w.heap.size + 1, 0, none⟩) (by show w.heap.size + 1 < _; omega)).trans d2, (hV.cell (p := ⟨w.heap.size + 2, 0, none⟩) (by show w.heap.size + 2 < _; omega)).trans d3⟩
  clear h h1 h2 b1 hz
  have LV := Lib.hid (Light_val true W a n cap F (H0.out W (Below.refl _ _)) g0)
  have LV1 := Lib.hid (fun V (hV : Below W.heap.size W V) => Light_val false V a1 n1 cap1 F1 (H1.out V hV) g1)
  clear g0 g1
  go_enter Try.func7, Try.ntmps7
  go_wp2_with (first
    | (go_at_call 17; (try rw [hW]); (with_reducible refine LV.out.mono ?_); rintro e w1 ⟨rfl, hb1⟩; have B1 := Lib.hid hb1; obtain ⟨x1, x2, x3⟩ := KP.out w1 hb1; clear hb1)
    | (go_at_call 17; (with_reducible refine (LV1.out w1 B1.out).mono ?_); rintro e wb ⟨rfl, hb1⟩; have Bb := Lib.hid (B1.out.trans (hb1.mono B1.out.size)); obtain ⟨x4, x5, x6⟩ := KP.out wb Bb.out; clear hb1)
    | (go_at_call 16; (with_reducible refine (ex_holds wb).mono ?_); rintro e wx ⟨rfl, hbx⟩; have BX := Lib.hid (Bb.out.trans (hbx.mono Bb.out.size)); clear hbx))
  go_ret
  exact ⟨rfl, B.out.trans (BX.out.mono B.out.size)⟩

set_option maxRecDepth 100000 in
set_option maxHeartbeats 6400000 in
theorem go_l2 (w : World) (a a1 a2 : Option Addr) (n cap n1 cap1 n2 cap2 : Nat) (F F1 F2 : Gr) (h : IsG w a n cap F) (h1 : IsG w a1 n1 cap1 F1) (h2 : IsG w a2 n2 cap2 F2) (g0 : lite F = true) (g1 : lite F1 = true) (g2 : lite F2 = false) :
    Calls Try.prog 7 #[.agg #[.slice a n cap], .agg #[.slice a1 n1 cap1], .agg #[.slice a2 n2 cap2]] w fun e w' => e = .returned (.bool true) ∧ Below w.heap.size w w' := by
  obtain ⟨W, hW⟩ : ∃ W, thrF w (.slice a n cap) (.slice a1 n1 cap1) (.slice a2 n2 cap2) = W := ⟨_, rfl⟩
  obtain ⟨b1, d1, d2, d3, hz⟩ := thrF_is w _ _ _ W hW
  have B := Lib.hid b1
  have H0 := Lib.hid (fun V (hV : Below W.heap.size W V) => (h.below b1).below hV)
  have H1 := Lib.hid (fun V (hV : Below W.heap.size W V) => (h1.below b1).below hV)
  have H2 := Lib.hid (fun V (hV : Below W.heap.size W V) => (h2.below b1).below hV)
  have KP : Hid (∀ V, Below W.heap.size W V → V.cell? ⟨w.heap.size, 0, none⟩ = some (.slice a n cap) ∧ V.cell? ⟨w.heap.size + 1, 0, none⟩ = some (.slice a1 n1 cap1) ∧ V.cell? ⟨w.heap.size + 2, 0, none⟩ = some (.slice a2 n2 cap2)) := fun V hV => ⟨(hV.cell (p := ⟨w.heap.size, 0, none⟩) (by show w.heap.size < _; omega)).trans d1, (hV.cell (p := ⟨w.heap.size + 1, 0, none⟩) (by show w.heap.size + 1 < _; omega)).trans d2, (hV.cell (p := ⟨w.heap.size + 2, 0, none⟩) (by show w.heap.size + 2 < _; omega)).trans d3⟩
  clear h h1 h2 b1 hz
  have LV := Lib.hid (Light_val true W a n cap F (H0.out W (Below.refl _ _)) g0)
  have LV1 := Lib.hid (fun V (hV : Below W.heap.size W V) => Light_val true V a1 n1 cap1 F1 (H1.out V hV) g1)
  have LV2 := Lib.hid (fun V (hV : Below W.heap.size W V) => Light_val false V a2 n2 cap2 F2 (H2.out V hV) g2)
  clear g0 g1 g2
  go_enter Try.func7, Try.ntmps7
  go_wp2_with (first
    | (go_at_call 17; (try rw [hW]); (with_reducible refine LV.out.mono ?_); rintro e w1 ⟨rfl, hb1⟩; have B1 := Lib.hid hb1; obtain ⟨x1, x2, x3⟩ := KP.out w1 hb1; clear hb1)
    | (go_at_call 17; (with_reducible refine (LV1.out w1 B1.out).mono ?_); rintro e wb ⟨rfl, hb1⟩; have Bb := Lib.hid (B1.out.trans (hb1.mono B1.out.size)); obtain ⟨x4, x5, x6⟩ := KP.out wb Bb.out; clear hb1)
    | (go_at_call 17; (with_reducible refine (LV2.out wb Bb.out).mono ?_); rintro e wc ⟨rfl, hb1⟩; have Bc := Lib.hid (Bb.out.trans (hb1.mono Bb.out.size)); obtain ⟨x7, x8, x9⟩ := KP.out wc Bc.out; clear hb1)
    | (go_at_call 16; (with_reducible refine (ex_holds wc).mono ?_); rintro e wx ⟨rfl, hbx⟩; have BX := Lib.hid (Bc.out.trans (hbx.mono Bc.out.size)); clear hbx))
  go_ret
  exact ⟨rfl, B.out.trans (BX.out.mono B.out.size)⟩

set_option maxRecDepth 100000 in
set_option maxHeartbeats 6400000 in
theorem go_neg (w : World) (a a1 a2 : Option Addr) (n cap n1 cap1 n2 cap2 : Nat) (F F1 F2 : Gr) (h : IsG w a n cap F) (h1 : IsG w a1 n1 cap1 F1) (h2 : IsG w a2 n2 cap2 F2) (g0 : lite F = true) (g1 : lite F1 = true) (g2 : lite F2 = true) (c2 c3 : Int) (q1 : cG F F1 = (-1)) (q2 : cG F1 F2 = c2) (q3 : cG F F2 = c3) (k2 : c2 < 0) (k3 : c3 < 0) :
    Calls Try.prog 7 #[.agg #[.slice a n cap], .agg #[.slice a1 n1 cap1], .agg #[.slice a2 n2 cap2]] w fun e w' => e = .returned (.bool true) ∧ Below w.heap.size w w' := by
  obtain ⟨W, hW⟩ : ∃ W, thrF w (.slice a n cap) (.slice a1 n1 cap1) (.slice a2 n2 cap2) = W := ⟨_, rfl⟩
  obtain ⟨b1, d1, d2, d3, hz⟩ := thrF_is w _ _ _ W hW
  have B := Lib.hid b1
  have H0 := Lib.hid (fun V (hV : Below W.heap.size W V) => (h.below b1).below hV)
  have H1 := Lib.hid (fun V (hV : Below W.heap.size W V) => (h1.below b1).below hV)
  have H2 := Lib.hid (fun V (hV : Below W.heap.size W V) => (h2.below b1).below hV)
  have KP : Hid (∀ V, Below W.heap.size W V → V.cell? ⟨w.heap.size, 0, none⟩ = some (.slice a n cap) ∧ V.cell? ⟨w.heap.size + 1, 0, none⟩ = some (.slice a1 n1 cap1) ∧ V.cell? ⟨w.heap.size + 2, 0, none⟩ = some (.slice a2 n2 cap2)) := fun V hV => ⟨(hV.cell (p := ⟨w.heap.size, 0, none⟩) (by show w.heap.size < _; omega)).trans d1, (hV.cell (p := ⟨w.heap.size + 1, 0, none⟩) (by show w.heap.size + 1 < _; omega)).trans d2, (hV.cell (p := ⟨w.heap.size + 2, 0, none⟩) (by show w.heap.size + 2 < _; omega)).trans d3⟩
  clear h h1 h2 b1 hz
  have LV := Lib.hid (Light_val true W a n cap F (H0.out W (Below.refl _ _)) g0)
  have LV1 := Lib.hid (fun V (hV : Below W.heap.size W V) => Light_val true V a1 n1 cap1 F1 (H1.out V hV) g1)
  have LV2 := Lib.hid (fun V (hV : Below W.heap.size W V) => Light_val true V a2 n2 cap2 F2 (H2.out V hV) g2)
  have C1 := Lib.hid (fun V (hV : Below W.heap.size W V) => Compare_val (-1) V a a1 n cap n1 cap1 F F1 (H0.out V hV) (H1.out V hV) q1)
  have C2 := Lib.hid (fun V (hV : Below W.heap.size W V) => Compare_val c2 V a1 a2 n1 cap1 n2 cap2 F1 F2 (H1.out V hV) (H2.out V hV) q2)
  have C3 := Lib.hid (fun V (hV : Below W.heap.size W V) => Compare_val c3 V a a2 n cap n2 cap2 F F2 (H0.out V hV) (H2.out V hV) q3)
  have C4 := Lib.hid (fun V (hV : Below W.heap.size W V) => Compare_val 1 V a1 a n1 cap1 n cap F1 F (H1.out V hV) (H0.out V hV) (by have := cG_anti F F1; omega))
  have C5 := Lib.hid (fun V (hV : Below W.heap.size W V) => Equal_val false V a a1 n cap n1 cap1 F F1 (H0.out V hV) (H1.out V hV) (by rw [q1]; rfl))
  clear g0 g1 g2 q1 q2 q3
  go_enter Try.func7, Try.ntmps7
  go_wp2_with (first
    | (go_at_call 17; (try rw [hW]); (with_reducible refine LV.out.mono ?_); rintro e w1 ⟨rfl, hb1⟩; have B1 := Lib.hid hb1; obtain ⟨x1, x2, x3⟩ := KP.out w1 hb1; clear hb1)
    | (go_at_call 17; (with_reducible refine (LV1.out w1 B1.out).mono ?_); rintro e wb ⟨rfl, hb1⟩; have Bb := Lib.hid (B1.out.trans (hb1.mono B1.out.size)); obtain ⟨x4, x5, x6⟩ := KP.out wb Bb.out; clear hb1)
    | (go_at_call 17; (with_reducible refine (LV2.out wb Bb.out).mono ?_); rintro e wc ⟨rfl, hb1⟩; have Bc := Lib.hid (Bb.out.trans (hb1.mono Bb.out.size)); obtain ⟨x7, x8, x9⟩ := KP.out wc Bc.out; clear hb1))
  have BD := Lib.hid Bc.out.drew
  go_region_held3 (fun w' => w'.cell? ⟨w.heap.size, 0, none⟩ = some (.slice a n cap) ∧ w'.cell? ⟨w.heap.size + 1, 0, none⟩ = some (.slice a1 n1 cap1) ∧ w'.cell? ⟨w.heap.size + 2, 0, none⟩ = some (.slice a2 n2 cap2)) (first | exact ⟨x7, x8, x9⟩ | exact KP.out _ BD.out | exact KP.out _ Bp.out | exact KP.out _ Bq.out | exact KP.out _ Br.out) ((first
    | (go_at_call 24; (with_reducible refine (C1.out _ BD.out).mono ?_); rintro e wp ⟨rfl, hb⟩; have Bp := Lib.hid (BD.out.trans (hb.mono BD.out.size)); clear hb)
    | (go_at_call 24; (with_reducible refine (C2.out wp Bp.out).mono ?_); rintro e wq ⟨rfl, hb⟩; have Bq := Lib.hid (Bp.out.trans (hb.mono Bp.out.size)); clear hb)
    | (go_at_call 24; (with_reducible refine (C3.out wq Bq.out).mono ?_); rintro e wr ⟨rfl, hb⟩; have Br := Lib.hid (Bq.out.trans (hb.mono Bq.out.size)); clear hb)))
  obtain ⟨y1, y2, y3⟩ := KP.out wr Br.out
  go_wp2_with (first
    | (go_at_call 24; (with_reducible refine (C4.out wr Br.out).mono ?_); rintro e ws ⟨rfl, hb⟩; have Bs := Lib.hid (Br.out.trans (hb.mono Br.out.size)); obtain ⟨z1, z2, z3⟩ := KP.out ws Bs.out; clear hb)
    | (go_at_call 26; (with_reducible refine (C5.out ws Bs.out).mono ?_); rintro e wt ⟨rfl, hb⟩; have Bt := Lib.hid (Bs.out.trans (hb.mono Bs.out.size)); clear hb)
    | (go_at_call 16; (with_reducible refine (ex_holds wt).mono ?_); rintro e wx ⟨rfl, hbx⟩; have BX := Lib.hid (Bt.out.trans (hbx.mono Bt.out.size)); clear hbx))
  go_ret
  exact ⟨rfl, B.out.trans (BX.out.mono B.out.size)⟩

set_option maxRecDepth 100000 in
set_option maxHeartbeats 6400000 in
theorem go_neg2 (w : World) (a a1 a2 : Option Addr) (n cap n1 cap1 n2 cap2 : Nat) (F F1 F2 : Gr) (h : IsG w a n cap F) (h1 : IsG w a1 n1 cap1 F1) (h2 : IsG w a2 n2 cap2 F2) (g0 : lite F = true) (g1 : lite F1 = true) (g2 : lite F2 = true) (c2 c3 : Int) (q1 : cG F F1 = (-1)) (q2 : cG F1 F2 = c2) (q3 : cG F F2 = c3) (k2 : ¬ c2 < 0) :
    Calls Try.prog 7 #[.agg #[.slice a n cap], .agg #[.slice a1 n1 cap1], .agg #[.slice a2 n2 cap2]] w fun e w' => e = .returned (.bool true) ∧ Below w.heap.size w w' := by
  obtain ⟨W, hW⟩ : ∃ W, thrF w (.slice a n cap) (.slice a1 n1 cap1) (.slice a2 n2 cap2) = W := ⟨_, rfl⟩
  obtain ⟨b1, d1, d2, d3, hz⟩ := thrF_is w _ _ _ W hW
  have B := Lib.hid b1
  have H0 := Lib.hid (fun V (hV : Below W.heap.size W V) => (h.below b1).below hV)
  have H1 := Lib.hid (fun V (hV : Below W.heap.size W V) => (h1.below b1).below hV)
  have H2 := Lib.hid (fun V (hV : Below W.heap.size W V) => (h2.below b1).below hV)
  have KP : Hid (∀ V, Below W.heap.size W V → V.cell? ⟨w.heap.size, 0, none⟩ = some (.slice a n cap) ∧ V.cell? ⟨w.heap.size + 1, 0, none⟩ = some (.slice a1 n1 cap1) ∧ V.cell? ⟨w.heap.size + 2, 0, none⟩ = some (.slice a2 n2 cap2)) := fun V hV => ⟨(hV.cell (p := ⟨w.heap.size, 0, none⟩) (by show w.heap.size < _; omega)).trans d1, (hV.cell (p := ⟨w.heap.size + 1, 0, none⟩) (by show w.heap.size + 1 < _; omega)).trans d2, (hV.cell (p := ⟨w.heap.size + 2, 0, none⟩) (by show w.heap.size + 2 < _; omega)).trans d3⟩
  clear h h1 h2 b1 hz
  have LV := Lib.hid (Light_val true W a n cap F (H0.out W (Below.refl _ _)) g0)
  have LV1 := Lib.hid (fun V (hV : Below W.heap.size W V) => Light_val true V a1 n1 cap1 F1 (H1.out V hV) g1)
  have LV2 := Lib.hid (fun V (hV : Below W.heap.size W V) => Light_val true V a2 n2 cap2 F2 (H2.out V hV) g2)
  have C1 := Lib.hid (fun V (hV : Below W.heap.size W V) => Compare_val (-1) V a a1 n cap n1 cap1 F F1 (H0.out V hV) (H1.out V hV) q1)
  have C2 := Lib.hid (fun V (hV : Below W.heap.size W V) => Compare_val c2 V a1 a2 n1 cap1 n2 cap2 F1 F2 (H1.out V hV) (H2.out V hV) q2)
  have C3 := Lib.hid (fun V (hV : Below W.heap.size W V) => Compare_val c3 V a a2 n cap n2 cap2 F F2 (H0.out V hV) (H2.out V hV) q3)
  have C4 := Lib.hid (fun V (hV : Below W.heap.size W V) => Compare_val 1 V a1 a n1 cap1 n cap F1 F (H1.out V hV) (H0.out V hV) (by have := cG_anti F F1; omega))
  have C5 := Lib.hid (fun V (hV : Below W.heap.size W V) => Equal_val false V a a1 n cap n1 cap1 F F1 (H0.out V hV) (H1.out V hV) (by rw [q1]; rfl))
  clear g0 g1 g2 q1 q2 q3
  go_enter Try.func7, Try.ntmps7
  go_wp2_with (first
    | (go_at_call 17; (try rw [hW]); (with_reducible refine LV.out.mono ?_); rintro e w1 ⟨rfl, hb1⟩; have B1 := Lib.hid hb1; obtain ⟨x1, x2, x3⟩ := KP.out w1 hb1; clear hb1)
    | (go_at_call 17; (with_reducible refine (LV1.out w1 B1.out).mono ?_); rintro e wb ⟨rfl, hb1⟩; have Bb := Lib.hid (B1.out.trans (hb1.mono B1.out.size)); obtain ⟨x4, x5, x6⟩ := KP.out wb Bb.out; clear hb1)
    | (go_at_call 17; (with_reducible refine (LV2.out wb Bb.out).mono ?_); rintro e wc ⟨rfl, hb1⟩; have Bc := Lib.hid (Bb.out.trans (hb1.mono Bb.out.size)); obtain ⟨x7, x8, x9⟩ := KP.out wc Bc.out; clear hb1))
  have BD := Lib.hid Bc.out.drew
  go_region_held3 (fun w' => w'.cell? ⟨w.heap.size, 0, none⟩ = some (.slice a n cap) ∧ w'.cell? ⟨w.heap.size + 1, 0, none⟩ = some (.slice a1 n1 cap1) ∧ w'.cell? ⟨w.heap.size + 2, 0, none⟩ = some (.slice a2 n2 cap2)) (first | exact ⟨x7, x8, x9⟩ | exact KP.out _ BD.out | exact KP.out _ Bp.out | exact KP.out _ Bq.out | exact KP.out _ Br.out) ((first
    | (go_at_call 24; (with_reducible refine (C1.out _ BD.out).mono ?_); rintro e wp ⟨rfl, hb⟩; have Bp := Lib.hid (BD.out.trans (hb.mono BD.out.size)); clear hb)
    | (go_at_call 24; (with_reducible refine (C2.out wp Bp.out).mono ?_); rintro e wq ⟨rfl, hb⟩; have Bq := Lib.hid (Bp.out.trans (hb.mono Bp.out.size)); clear hb)
    | (go_at_call 24; (with_reducible refine (C3.out wq Bq.out).mono ?_); rintro e wr ⟨rfl, hb⟩; have Br := Lib.hid (Bq.out.trans (hb.mono Bq.out.size)); clear hb)))
  obtain ⟨y1, y2, y3⟩ := KP.out wr Br.out
  go_wp2_with (first
    | (go_at_call 24; (with_reducible refine (C4.out wr Br.out).mono ?_); rintro e ws ⟨rfl, hb⟩; have Bs := Lib.hid (Br.out.trans (hb.mono Br.out.size)); obtain ⟨z1, z2, z3⟩ := KP.out ws Bs.out; clear hb)
    | (go_at_call 26; (with_reducible refine (C5.out ws Bs.out).mono ?_); rintro e wt ⟨rfl, hb⟩; have Bt := Lib.hid (Bs.out.trans (hb.mono Bs.out.size)); clear hb)
    | (go_at_call 16; (with_reducible refine (ex_holds wt).mono ?_); rintro e wx ⟨rfl, hbx⟩; have BX := Lib.hid (Bt.out.trans (hbx.mono Bt.out.size)); clear hbx))
  go_ret
  exact ⟨rfl, B.out.trans (BX.out.mono B.out.size)⟩

set_option maxRecDepth 100000 in
set_option maxHeartbeats 6400000 in
theorem go_zero (w : World) (a a1 a2 : Option Addr) (n cap n1 cap1 n2 cap2 : Nat) (F F1 F2 : Gr) (h : IsG w a n cap F) (h1 : IsG w a1 n1 cap1 F1) (h2 : IsG w a2 n2 cap2 F2) (g0 : lite F = true) (g1 : lite F1 = true) (g2 : lite F2 = true) (c2 : Int) (q1 : cG F F1 = 0) (q2 : cG F1 F2 = c2) (q3 : cG F F2 = c2) :
    Calls Try.prog 7 #[.agg #[.slice a n cap], .agg #[.slice a1 n1 cap1], .agg #[.slice a2 n2 cap2]] w fun e w' => e = .returned (.bool true) ∧ Below w.heap.size w w' := by
  obtain ⟨W, hW⟩ : ∃ W, thrF w (.slice a n cap) (.slice a1 n1 cap1) (.slice a2 n2 cap2) = W := ⟨_, rfl⟩
  obtain ⟨b1, d1, d2, d3, hz⟩ := thrF_is w _ _ _ W hW
  have B := Lib.hid b1
  have H0 := Lib.hid (fun V (hV : Below W.heap.size W V) => (h.below b1).below hV)
  have H1 := Lib.hid (fun V (hV : Below W.heap.size W V) => (h1.below b1).below hV)
  have H2 := Lib.hid (fun V (hV : Below W.heap.size W V) => (h2.below b1).below hV)
  have KP : Hid (∀ V, Below W.heap.size W V → V.cell? ⟨w.heap.size, 0, none⟩ = some (.slice a n cap) ∧ V.cell? ⟨w.heap.size + 1, 0, none⟩ = some (.slice a1 n1 cap1) ∧ V.cell? ⟨w.heap.size + 2, 0, none⟩ = some (.slice a2 n2 cap2)) := fun V hV => ⟨(hV.cell (p := ⟨w.heap.size, 0, none⟩) (by show w.heap.size < _; omega)).trans d1, (hV.cell (p := ⟨w.heap.size + 1, 0, none⟩) (by show w.heap.size + 1 < _; omega)).trans d2, (hV.cell (p := ⟨w.heap.size + 2, 0, none⟩) (by show w.heap.size + 2 < _; omega)).trans d3⟩
  clear h h1 h2 b1 hz
  have LV := Lib.hid (Light_val true W a n cap F (H0.out W (Below.refl _ _)) g0)
  have LV1 := Lib.hid (fun V (hV : Below W.heap.size W V) => Light_val true V a1 n1 cap1 F1 (H1.out V hV) g1)
  have LV2 := Lib.hid (fun V (hV : Below W.heap.size W V) => Light_val true V a2 n2 cap2 F2 (H2.out V hV) g2)
  have C1 := Lib.hid (fun V (hV : Below W.heap.size W V) => Compare_val 0 V a a1 n cap n1 cap1 F F1 (H0.out V hV) (H1.out V hV) q1)
  have C2 := Lib.hid (fun V (hV : Below W.heap.size W V) => Compare_val c2 V a1 a2 n1 cap1 n2 cap2 F1 F2 (H1.out V hV) (H2.out V hV) q2)
  have C3 := Lib.hid (fun V (hV : Below W.heap.size W V) => Compare_val c2 V a a2 n cap n2 cap2 F F2 (H0.out V hV) (H2.out V hV) q3)
  have C4 := Lib.hid (fun V (hV : Below W.heap.size W V) => Compare_val 0 V a1 a n1 cap1 n cap F1 F (H1.out V hV) (H0.out V hV) (by have := cG_anti F F1; omega))
  have C5 := Lib.hid (fun V (hV : Below W.heap.size W V) => Equal_val true V a a1 n cap n1 cap1 F F1 (H0.out V hV) (H1.out V hV) (by rw [q1]; rfl))
  have hcc : (c2 == c2) = true := by simp
  clear g0 g1 g2 q1 q2 q3
  go_enter Try.func7, Try.ntmps7
  go_wp2_with (first
    | (go_at_call 17; (try rw [hW]); (with_reducible refine LV.out.mono ?_); rintro e w1 ⟨rfl, hb1⟩; have B1 := Lib.hid hb1; obtain ⟨x1, x2, x3⟩ := KP.out w1 hb1; clear hb1)
    | (go_at_call 17; (with_reducible refine (LV1.out w1 B1.out).mono ?_); rintro e wb ⟨rfl, hb1⟩; have Bb := Lib.hid (B1.out.trans (hb1.mono B1.out.size)); obtain ⟨x4, x5, x6⟩ := KP.out wb Bb.out; clear hb1)
    | (go_at_call 17; (with_reducible refine (LV2.out wb Bb.out).mono ?_); rintro e wc ⟨rfl, hb1⟩; have Bc := Lib.hid (Bb.out.trans (hb1.mono Bb.out.size)); obtain ⟨x7, x8, x9⟩ := KP.out wc Bc.out; clear hb1))
  have BD := Lib.hid Bc.out.drew
  go_region_held3 (fun w' => w'.cell? ⟨w.heap.size, 0, none⟩ = some (.slice a n cap) ∧ w'.cell? ⟨w.heap.size + 1, 0, none⟩ = some (.slice a1 n1 cap1) ∧ w'.cell? ⟨w.heap.size + 2, 0, none⟩ = some (.slice a2 n2 cap2)) (first | exact ⟨x7, x8, x9⟩ | exact KP.out _ BD.out | exact KP.out _ Bp.out | exact KP.out _ Bq.out | exact KP.out _ Br.out) ((first
    | (go_at_call 24; (with_reducible refine (C1.out _ BD.out).mono ?_); rintro e wp ⟨rfl, hb⟩; have Bp := Lib.hid (BD.out.trans (hb.mono BD.out.size)); clear hb)
    | (go_at_call 24; (with_reducible refine (C2.out wp Bp.out).mono ?_); rintro e wq ⟨rfl, hb⟩; have Bq := Lib.hid (Bp.out.trans (hb.mono Bp.out.size)); clear hb)
    | (go_at_call 24; (with_reducible refine (C3.out wq Bq.out).mono ?_); rintro e wr ⟨rfl, hb⟩; have Br := Lib.hid (Bq.out.trans (hb.mono Bq.out.size)); clear hb)))
  obtain ⟨y1, y2, y3⟩ := KP.out wr Br.out
  go_wp2_with (first
    | (go_at_call 24; (with_reducible refine (C4.out wr Br.out).mono ?_); rintro e ws ⟨rfl, hb⟩; have Bs := Lib.hid (Br.out.trans (hb.mono Br.out.size)); obtain ⟨z1, z2, z3⟩ := KP.out ws Bs.out; clear hb)
    | (go_at_call 26; (with_reducible refine (C5.out ws Bs.out).mono ?_); rintro e wt ⟨rfl, hb⟩; have Bt := Lib.hid (Bs.out.trans (hb.mono Bs.out.size)); clear hb)
    | (go_at_call 16; (with_reducible refine (ex_holds wt).mono ?_); rintro e wx ⟨rfl, hbx⟩; have BX := Lib.hid (Bt.out.trans (hbx.mono Bt.out.size)); clear hbx))
  go_ret
  exact ⟨rfl, B.out.trans (BX.out.mono B.out.size)⟩

set_option maxRecDepth 100000 in
set_option maxHeartbeats 6400000 in
theorem go_pos (w : World) (a a1 a2 : Option Addr) (n cap n1 cap1 n2 cap2 : Nat) (F F1 F2 : Gr) (h : IsG w a n cap F) (h1 : IsG w a1 n1 cap1 F1) (h2 : IsG w a2 n2 cap2 F2) (g0 : lite F = true) (g1 : lite F1 = true) (g2 : lite F2 = true) (c2 c3 : Int) (q1 : cG F F1 = 1) (q2 : cG F1 F2 = c2) (q3 : cG F F2 = c3) :
    Calls Try.prog 7 #[.agg #[.slice a n cap], .agg #[.slice a1 n1 cap1], .agg #[.slice a2 n2 cap2]] w fun e w' => e = .returned (.bool true) ∧ Below w.heap.size w w' := by
  obtain ⟨W, hW⟩ : ∃ W, thrF w (.slice a n cap) (.slice a1 n1 cap1) (.slice a2 n2 cap2) = W := ⟨_, rfl⟩
  obtain ⟨b1, d1, d2, d3, hz⟩ := thrF_is w _ _ _ W hW
  have B := Lib.hid b1
  have H0 := Lib.hid (fun V (hV : Below W.heap.size W V) => (h.below b1).below hV)
  have H1 := Lib.hid (fun V (hV : Below W.heap.size W V) => (h1.below b1).below hV)
  have H2 := Lib.hid (fun V (hV : Below W.heap.size W V) => (h2.below b1).below hV)
  have KP : Hid (∀ V, Below W.heap.size W V → V.cell? ⟨w.heap.size, 0, none⟩ = some (.slice a n cap) ∧ V.cell? ⟨w.heap.size + 1, 0, none⟩ = some (.slice a1 n1 cap1) ∧ V.cell? ⟨w.heap.size + 2, 0, none⟩ = some (.slice a2 n2 cap2)) := fun V hV => ⟨(hV.cell (p := ⟨w.heap.size, 0, none⟩) (by show w.heap.size < _; omega)).trans d1, (hV.cell (p := ⟨w.heap.size + 1, 0, none⟩) (by show w.heap.size + 1 < _; omega)).trans d2, (hV.cell (p := ⟨w.heap.size + 2, 0, none⟩) (by show w.heap.size + 2 < _; omega)).trans d3⟩
  clear h h1 h2 b1 hz
  have LV := Lib.hid (Light_val true W a n cap F (H0.out W (Below.refl _ _)) g0)
  have LV1 := Lib.hid (fun V (hV : Below W.heap.size W V) => Light_val true V a1 n1 cap1 F1 (H1.out V hV) g1)
  have LV2 := Lib.hid (fun V (hV : Below W.heap.size W V) => Light_val true V a2 n2 cap2 F2 (H2.out V hV) g2)
  have C1 := Lib.hid (fun V (hV : Below W.heap.size W V) => Compare_val 1 V a a1 n cap n1 cap1 F F1 (H0.out V hV) (H1.out V hV) q1)
  have C2 := Lib.hid (fun V (hV : Below W.heap.size W V) => Compare_val c2 V a1 a2 n1 cap1 n2 cap2 F1 F2 (H1.out V hV) (H2.out V hV) q2)
  have C3 := Lib.hid (fun V (hV : Below W.heap.size W V) => Compare_val c3 V a a2 n cap n2 cap2 F F2 (H0.out V hV) (H2.out V hV) q3)
  have C4 := Lib.hid (fun V (hV : Below W.heap.size W V) => Compare_val (-1) V a1 a n1 cap1 n cap F1 F (H1.out V hV) (H0.out V hV) (by have := cG_anti F F1; omega))
  have C5 := Lib.hid (fun V (hV : Below W.heap.size W V) => Equal_val false V a a1 n cap n1 cap1 F F1 (H0.out V hV) (H1.out V hV) (by rw [q1]; rfl))
  clear g0 g1 g2 q1 q2 q3
  go_enter Try.func7, Try.ntmps7
  go_wp2_with (first
    | (go_at_call 17; (try rw [hW]); (with_reducible refine LV.out.mono ?_); rintro e w1 ⟨rfl, hb1⟩; have B1 := Lib.hid hb1; obtain ⟨x1, x2, x3⟩ := KP.out w1 hb1; clear hb1)
    | (go_at_call 17; (with_reducible refine (LV1.out w1 B1.out).mono ?_); rintro e wb ⟨rfl, hb1⟩; have Bb := Lib.hid (B1.out.trans (hb1.mono B1.out.size)); obtain ⟨x4, x5, x6⟩ := KP.out wb Bb.out; clear hb1)
    | (go_at_call 17; (with_reducible refine (LV2.out wb Bb.out).mono ?_); rintro e wc ⟨rfl, hb1⟩; have Bc := Lib.hid (Bb.out.trans (hb1.mono Bb.out.size)); obtain ⟨x7, x8, x9⟩ := KP.out wc Bc.out; clear hb1))
  have BD := Lib.hid Bc.out.drew
  go_region_held3 (fun w' => w'.cell? ⟨w.heap.size, 0, none⟩ = some (.slice a n cap) ∧ w'.cell? ⟨w.heap.size + 1, 0, none⟩ = some (.slice a1 n1 cap1) ∧ w'.cell? ⟨w.heap.size + 2, 0, none⟩ = some (.slice a2 n2 cap2)) (first | exact ⟨x7, x8, x9⟩ | exact KP.out _ BD.out | exact KP.out _ Bp.out | exact KP.out _ Bq.out | exact KP.out _ Br.out) ((first
    | (go_at_call 24; (with_reducible refine (C1.out _ BD.out).mono ?_); rintro e wp ⟨rfl, hb⟩; have Bp := Lib.hid (BD.out.trans (hb.mono BD.out.size)); clear hb)
    | (go_at_call 24; (with_reducible refine (C2.out wp Bp.out).mono ?_); rintro e wq ⟨rfl, hb⟩; have Bq := Lib.hid (Bp.out.trans (hb.mono Bp.out.size)); clear hb)
    | (go_at_call 24; (with_reducible refine (C3.out wq Bq.out).mono ?_); rintro e wr ⟨rfl, hb⟩; have Br := Lib.hid (Bq.out.trans (hb.mono Bq.out.size)); clear hb)))
  obtain ⟨y1, y2, y3⟩ := KP.out wr Br.out
  go_wp2_with (first
    | (go_at_call 24; (with_reducible refine (C4.out wr Br.out).mono ?_); rintro e ws ⟨rfl, hb⟩; have Bs := Lib.hid (Br.out.trans (hb.mono Br.out.size)); obtain ⟨z1, z2, z3⟩ := KP.out ws Bs.out; clear hb)
    | (go_at_call 26; (with_reducible refine (C5.out ws Bs.out).mono ?_); rintro e wt ⟨rfl, hb⟩; have Bt := Lib.hid (Bs.out.trans (hb.mono Bs.out.size)); clear hb)
    | (go_at_call 16; (with_reducible refine (ex_holds wt).mono ?_); rintro e wx ⟨rfl, hbx⟩; have BX := Lib.hid (Bt.out.trans (hbx.mono Bt.out.size)); clear hbx))
  go_ret
  exact ⟨rfl, B.out.trans (BX.out.mono B.out.size)⟩

theorem GraphOrders_law (w : World) (a : Option Addr) (n cap : Nat) (F : Gr) (a1 : Option Addr) (n1 cap1 : Nat) (F1 : Gr) (a2 : Option Addr) (n2 cap2 : Nat) (F2 : Gr) (h : IsG w a n cap F) (h1 : IsG w a1 n1 cap1 F1) (h2 : IsG w a2 n2 cap2 F2) :
    Calls Try.prog 7 #[.agg #[.slice a n cap], .agg #[.slice a1 n1 cap1], .agg #[.slice a2 n2 cap2]] w fun e w' => e = .returned (.bool true) ∧ Below w.heap.size w w' := by
  cases g0 : lite F
  · exact go_l0 w a a1 a2 n cap n1 cap1 n2 cap2 F F1 F2 h h1 h2 g0
  cases g1 : lite F1
  · exact go_l1 w a a1 a2 n cap n1 cap1 n2 cap2 F F1 F2 h h1 h2 g0 g1
  cases g2 : lite F2
  · exact go_l2 w a a1 a2 n cap n1 cap1 n2 cap2 F F1 F2 h h1 h2 g0 g1 g2
  have hr := cG_range F F1
  rcases (by omega : cG F F1 = -1 ∨ cG F F1 = 0 ∨ cG F F1 = 1) with q | q | q
  · by_cases k2 : cG F1 F2 < 0
    · exact go_neg w a a1 a2 n cap n1 cap1 n2 cap2 F F1 F2 h h1 h2 g0 g1 g2 _ _ q rfl rfl k2 (cG_trans (by omega) k2)
    · exact go_neg2 w a a1 a2 n cap n1 cap1 n2 cap2 F F1 F2 h h1 h2 g0 g1 g2 _ _ q rfl rfl k2
  · exact go_zero w a a1 a2 n cap n1 cap1 n2 cap2 F F1 F2 h h1 h2 g0 g1 g2 _ q rfl (cG_zero q F2).symm
  · exact go_pos w a a1 a2 n cap n1 cap1 n2 cap2 F F1 F2 h h1 h2 g0 g1 g2 _ _ q rfl rfl
end Go.Proofs.Ytlhiiecaphibhaa
