/- Texts joined by wip/gen/merge.py: Gz. -/
import Derived.Test.YtlhiiecaphibhaaMae
set_option linter.unusedVariables false
set_option linter.unusedSimpArgs false
/- graph: walks of the laws GraphCompares, GraphAtoms. Written by wip/gen/glaws.py. -/
namespace Go.Proofs.Ytlhiiecaphibhaa
open Go.RowKit Go.Maps


set_option maxRecDepth 100000 in
set_option maxHeartbeats 6400000 in
theorem GraphCompares_law (w : World) (a a' : Option Addr) (n cap n' cap' : Nat) (F F' : Gr) (h : IsG w a n cap F) (h' : IsG w a' n' cap' F') :
    Calls Try.prog 6 #[.agg #[.slice a n cap], .agg #[.slice a' n' cap']] w fun e w' => e = .returned (.bool true) ∧ Below w.heap.size w w' := by
  obtain ⟨W, hW⟩ : ∃ W, twoF w (.slice a n cap) (.slice a' n' cap') = W := ⟨_, rfl⟩
  obtain ⟨b1, hz, d1, d2⟩ := twoF_is w _ _ W hW
  have B := Lib.hid b1
  have H1 := Lib.hid (fun V (hV : Below W.heap.size W V) => (h.below b1).below hV)
  have H2 := Lib.hid (fun V (hV : Below W.heap.size W V) => (h'.below b1).below hV)
  have KP : Hid (∀ V, Below W.heap.size W V → V.cell? ⟨w.heap.size, 0, none⟩ = some (.slice a n cap) ∧ V.cell? ⟨w.heap.size + 1, 0, none⟩ = some (.slice a' n' cap')) := fun V hV => ⟨(hV.cell (p := ⟨w.heap.size, 0, none⟩) (by show w.heap.size < _; omega)).trans d1, (hV.cell (p := ⟨w.heap.size + 1, 0, none⟩) (by show w.heap.size + 1 < _; omega)).trans d2⟩
  clear h h' b1 hz
  cases hb : lite F
  · have LV := Lib.hid (Light_val false W a n cap F (H1.out W (Below.refl _ _)) hb)
    clear hb
    go_enter Try.func6, Try.ntmps6
    go_wp2_with (first
      | (go_at_call 17; (try rw [hW]); (with_reducible refine LV.out.mono ?_); rintro e w1 ⟨rfl, hb1⟩; have B1 := Lib.hid hb1; clear hb1)
      | (go_at_call 16; refine (ex_holds w1).mono ?_; rintro e w2 ⟨rfl, hb2⟩; have B2 := Lib.hid (B1.out.trans (hb2.mono B1.out.size)); clear hb2))
    go_ret
    exact ⟨rfl, B.out.trans (B2.out.mono B.out.size)⟩
  cases hb' : lite F'
  · have LV := Lib.hid (Light_val true W a n cap F (H1.out W (Below.refl _ _)) hb)
    have LV' := Lib.hid (fun V (hV : Below W.heap.size W V) => Light_val false V a' n' cap' F' (H2.out V hV) hb')
    clear hb hb'
    go_enter Try.func6, Try.ntmps6
    go_wp2_with (first
      | (go_at_call 17; (try rw [hW]); (with_reducible refine LV.out.mono ?_); rintro e w1 ⟨rfl, hb1⟩; have B1 := Lib.hid hb1; obtain ⟨x1, x2⟩ := KP.out w1 hb1; clear hb1)
      | (go_at_call 17; (with_reducible refine (LV'.out w1 B1.out).mono ?_); rintro e w1b ⟨rfl, hb1⟩; have B1b := Lib.hid (B1.out.trans (hb1.mono B1.out.size)); clear hb1)
      | (go_at_call 16; refine (ex_holds w1b).mono ?_; rintro e w2 ⟨rfl, hb2⟩; have B2 := Lib.hid (B1b.out.trans (hb2.mono B1b.out.size)); clear hb2))
    go_ret
    exact ⟨rfl, B.out.trans (B2.out.mono B.out.size)⟩
  have LV := Lib.hid (Light_val true W a n cap F (H1.out W (Below.refl _ _)) hb)
  have LV' := Lib.hid (fun V (hV : Below W.heap.size W V) => Light_val true V a' n' cap' F' (H2.out V hV) hb')
  have N1 := (lite_siz hb).nums
  have N2 := (lite_siz hb').nums
  obtain ⟨c, hc⟩ : ∃ c, cG F F' = c := ⟨_, rfl⟩
  obtain ⟨d, hd⟩ : ∃ d, (cG F F' == 0) = d := ⟨_, rfl⟩
  have C24 := Lib.hid (fun V (hV : Below W.heap.size W V) => Compare_val c V a a' n cap n' cap' F F' (H1.out V hV) (H2.out V hV) hc)
  have C25 := Lib.hid (fun V (hV : Below W.heap.size W V) => rCompare_val c V a a' n cap n' cap' F F' (H1.out V hV) (H2.out V hV) N1 N2 hc)
  have C26 := Lib.hid (fun V (hV : Below W.heap.size W V) => Equal_val d V a a' n cap n' cap' F F' (H1.out V hV) (H2.out V hV) hd)
  have C14 := Lib.hid (fun V (hV : Below W.heap.size W V) => rEqual_val d V a a' n cap n' cap' F F' (H1.out V hV) (H2.out V hV) N1 N2 hd)
  have CAA := Lib.hid (fun V (hV : Below W.heap.size W V) => Equal_val true V a a n cap n cap F F (H1.out V hV) (H1.out V hV) (by rw [cG_self]; rfl))
  have hcc : (c == c) = true := by simp
  have hdd : (d == d) = true := by simp
  clear hb hb' N1 N2 hc hd
  go_enter Try.func6, Try.ntmps6
  go_wp2_with (first
    | (go_at_call 17; (try rw [hW]); (with_reducible refine LV.out.mono ?_); rintro e w1 ⟨rfl, hb1⟩; have B1 := Lib.hid hb1; obtain ⟨x1, x2⟩ := KP.out w1 hb1; clear hb1)
    | (go_at_call 17; (with_reducible refine (LV'.out w1 B1.out).mono ?_); rintro e w1b ⟨rfl, hb1⟩; have B1b := Lib.hid (B1.out.trans (hb1.mono B1.out.size)); obtain ⟨x3, x4⟩ := KP.out w1b B1b.out; clear hb1))
  have BD := Lib.hid B1b.out.drew
  go_region_held3 (fun w' => w'.cell? ⟨w.heap.size, 0, none⟩ = some (.slice a n cap) ∧ w'.cell? ⟨w.heap.size + 1, 0, none⟩ = some (.slice a' n' cap')) (first | exact ⟨x3, x4⟩ | exact KP.out _ BD.out | exact KP.out _ B24.out | exact KP.out _ B25.out | exact KP.out _ B26.out | exact KP.out _ B14.out | exact KP.out _ BAA.out | exact KP.out _ BEX.out) ((first
    | (go_at_call 24; (with_reducible refine (C24.out _ BD.out).mono ?_); rintro e w24 ⟨rfl, hb⟩; have B24 := Lib.hid (BD.out.trans (hb.mono BD.out.size)); clear hb)
    | (go_at_call 25; (with_reducible refine (C25.out w24 B24.out).mono ?_); rintro e w25 ⟨rfl, hb⟩; have B25 := Lib.hid (B24.out.trans (hb.mono B24.out.size)); clear hb)
    | (go_at_call 26; (with_reducible refine (C26.out w25 B25.out).mono ?_); rintro e w26 ⟨rfl, hb⟩; have B26 := Lib.hid (B25.out.trans (hb.mono B25.out.size)); clear hb)
    | (go_at_call 14; (with_reducible refine (C14.out w26 B26.out).mono ?_); rintro e w14 ⟨rfl, hb⟩; have B14 := Lib.hid (B26.out.trans (hb.mono B26.out.size)); clear hb)
    | (go_at_call 26; (with_reducible refine (CAA.out w14 B14.out).mono ?_); rintro e waa ⟨rfl, hb⟩; have BAA := Lib.hid (B14.out.trans (hb.mono B14.out.size)); clear hb)
    | (go_at_call 16; (with_reducible refine (ex_holds waa).mono ?_); rintro e wex ⟨rfl, hb⟩; have BEX := Lib.hid (BAA.out.trans (hb.mono BAA.out.size)); clear hb)))
  go_wp2
  go_ret
  exact ⟨rfl, B.out.trans (BEX.out.mono B.out.size)⟩

theorem frm_atom {t : Int} (h : 0 ≤ t) : frm [(t, [])] = 0 := by
  unfold frm ndE ndE arE
  simp; omega
theorem cf_atom (t : Int) : cf [(t, [])] 0 = [(t, [])] := by
  have h : Dfs (tos [(t, [])]) [0] [] [0] := .step (by simp) (show Dfs _ [] [0] _ from .done _)
  rw [cf_eq h]; rfl
theorem siz_atom (t : Int) : Siz [(t, [])] := ⟨by simp, fun x hx => by simp at hx; subst hx; simp⟩
theorem nums_atom (t : Int) : (nums [(t, [])]).length ≤ 1000000 := (siz_atom t).nums
theorem Canon_ex1 (F G : Gr) (m : Nat) (hm : G.length = m) (w : World) (a : Option Addr) (n cap : Nat) (h : IsG w a n cap F) (hs : Siz F) (h0 : frm F = 0) (hG : cf F 0 = G) :
    Calls Try.prog 13 #[.agg #[.slice a n cap]] w fun e w' => ∃ aa cc, e = .returned (.tuple #[.agg #[.slice aa m cc], .int .i64 0]) ∧ IsG w' aa m cc G ∧ Below w.heap.size w w' := by
  refine (Canon_any w a n cap F h (.inl hs)).mono ?_
  rintro e w' ⟨aa, cc, rfl, hI, hb⟩
  have hc : can F = G := by unfold can; rw [if_pos h0]; exact hG
  rw [hc, hm] at hI ⊢
  exact ⟨aa, cc, by rw [h0]; rfl, hI, hb⟩
set_option maxRecDepth 100000 in
set_option maxHeartbeats 6400000 in
theorem GraphAtoms_law (w : World) (t : Int) (h0 : 0 ≤ t) (h1 : t < 65536) :
    Calls Try.prog 3 #[.int .u16 t] w fun e w' => e = .returned (.bool true) ∧ Below w.heap.size w w' := by
  have hwrap : IntKind.i64.wrap t = t := by rw [IntKind.wrap_i64]; omega
  have CX := Lib.hid (fun V a cap (hV : IsG V a 1 cap [(t, [])]) => Canon_ex1 [(t, [])] [(t, [])] 1 rfl V a 1 cap hV (siz_atom t) (frm_atom h0) (cf_atom t))
  have EQ := Lib.hid (fun V a cap a' cap' (hV : IsG V a 1 cap [(t, [])]) (hV' : IsG V a' 1 cap' [(t, [])]) => rEqual_val true V a a' 1 cap 1 cap' [(t, [])] [(t, [])] hV hV' (nums_atom t) (nums_atom t) (by rw [cG_self]; rfl))
  go_enter Try.func3, Try.ntmps3
  go_wp2_with fail
  refine (Atom_any w t).mono ?_
  rintro e w1 ⟨aa, ac, rfl, hI, hb1⟩
  obtain ⟨w2, hw2⟩ : ∃ w2, w1.alloc (.cells #[.slice aa 1 ac] 25) = w2 := ⟨_, rfl⟩
  have hb2 : Below w1.heap.size w1 w2 := hw2 ▸ ba w1 _
  have y2 : w2.cell? ⟨w1.heap.size, 0, none⟩ = some (.slice aa 1 ac) := hw2 ▸ box_cell w1 _ _
  have z2 : w1.heap.size < w2.heap.size := by rw [← hw2]; simp
  have I2 := Lib.hid (hI.below hb2)
  have B2 := Lib.hid (hb1.trans (hb2.mono hb1.size))
  clear hI hb1 hb2
  go_wp2_with fail
  (try rw [hw2])
  clear hw2
  refine (CX.out w2 aa ac I2.out).mono ?_
  rintro e w3 ⟨ga, gc, rfl, hJ, hb3⟩
  obtain ⟨w4, hw4⟩ : ∃ w4, w3.alloc (.cells #[.slice ga 1 gc] 25) = w4 := ⟨_, rfl⟩
  have hb4 : Below w3.heap.size w3 w4 := hw4 ▸ ba w3 _
  have y4 : w4.cell? ⟨w3.heap.size, 0, none⟩ = some (.slice ga 1 gc) := hw4 ▸ box_cell w3 _ _
  have z4 : w3.heap.size < w4.heap.size := by rw [← hw4]; simp
  have B24 := Lib.hid (hb3.trans (hb4.mono hb3.size))
  have x4 : w4.cell? ⟨w1.heap.size, 0, none⟩ = some (.slice aa 1 ac) := (B24.out.cell (p := ⟨w1.heap.size, 0, none⟩) z2).trans y2
  have I4 := Lib.hid (I2.out.below B24.out)
  have J4 := Lib.hid (hJ.below hb4)
  have B4 := Lib.hid (B2.out.trans (B24.out.mono B2.out.size))
  have zz : w1.heap.size < w4.heap.size := Nat.lt_of_lt_of_le z2 B24.out.size
  have KP : Hid (∀ V, Below w4.heap.size w4 V → V.cell? ⟨w1.heap.size, 0, none⟩ = some (.slice aa 1 ac) ∧ V.cell? ⟨w3.heap.size, 0, none⟩ = some (.slice ga 1 gc)) := fun V hV => ⟨(hV.cell (p := ⟨w1.heap.size, 0, none⟩) zz).trans x4, (hV.cell (p := ⟨w3.heap.size, 0, none⟩) z4).trans y4⟩
  have BD := Lib.hid (Below.refl w4.heap.size w4).drew
  clear hJ hb3 hb4 y2 z2 zz z4
  go_wp2_with fail
  (try rw [hw4])
  clear hw4
  go_region_held3 (fun w' => w'.cell? ⟨w1.heap.size, 0, none⟩ = some (.slice aa 1 ac) ∧ w'.cell? ⟨w3.heap.size, 0, none⟩ = some (.slice ga 1 gc)) (first | exact ⟨x4, y4⟩ | exact KP.out _ BD.out | exact KP.out _ B15.out | exact KP.out _ B14.out | exact KP.out _ B26.out | exact KP.out _ BEX.out) ((first
    | (go_at_call 15; (with_reducible refine (rAtom_any _ t).mono ?_); rintro e w15 ⟨ra, rc, rfl, hR, hb⟩; have R15 := Lib.hid hR; have B15 := Lib.hid (BD.out.trans (hb.mono BD.out.size)); clear hb hR)
    | (go_at_call 14; (with_reducible refine (EQ.out w15 _ _ _ _ (I4.out.below B15.out) R15.out).mono ?_); rintro e w14 ⟨rfl, hb⟩; have B14 := Lib.hid (B15.out.trans (hb.mono B15.out.size)); clear hb)
    | (go_at_call 14; (with_reducible refine (EQ.out w14 _ _ _ _ (I4.out.below B14.out) (J4.out.below B14.out)).mono ?_); rintro e w26 ⟨rfl, hb⟩; have B26 := Lib.hid (B14.out.trans (hb.mono B14.out.size)); clear hb)
    | (go_at_call 16; (with_reducible refine (ex_holds w26).mono ?_); rintro e wex ⟨rfl, hb⟩; have BEX := Lib.hid (B26.out.trans (hb.mono B26.out.size)); clear hb)))
  go_wp2
  go_ret
  exact ⟨rfl, B4.out.trans (BEX.out.mono B4.out.size)⟩
end Go.Proofs.Ytlhiiecaphibhaa
