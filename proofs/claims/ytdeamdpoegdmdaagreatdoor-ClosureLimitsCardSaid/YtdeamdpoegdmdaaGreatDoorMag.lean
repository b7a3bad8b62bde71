/- Texts joined by wip/gen/merge.py: Di. -/
import Derived.Test.YtdeamdpoegdmdaaGreatDoorMaf
set_option linter.unusedVariables false
set_option linter.unusedSimpArgs false
/- closure: the plain laws of Meet and Join; meet3; walks of ClosureFinds and ClosureLaws. -/
namespace Go.Proofs.YtdeamdpoegdmdaaGreatDoor
open Go.RowKit Go.Maps Go.Shelf
open S (wd Is64 Fresh bit SAnd SOr IsInt wi ints)

/-- What Meet returns. -/
def meetI (L : List Ty) (x y : Nat) : Int := ixS (L.map Prod.snd) (SAnd (ty L x).2 (ty L y).2)
theorem sand_comm {a b : Cd} (ha : IsS a) (hb : IsS b) : SAnd a b = SAnd b a := sAlg.comm ha hb
theorem Tys.meet_cases {L : List Ty} (T : Tys L) {x y : Nat} (hx : x < L.length) (hy : y < L.length) : (∃ k, k < L.length ∧ (ty L k).2 = SAnd (ty L x).2 (ty L y).2 ∧ meetI L x y = (k : Int)) ∨ (SAnd (ty L x).2 (ty L y).2 = [] ∧ meetI L x y = -1) := by
  rcases T.ix (SAnd (ty L x).2 (ty L y).2) with h | ⟨h1, h2⟩
  · exact .inl h
  · refine .inr ⟨?_, h2⟩
    refine Classical.byContradiction fun hne => ?_
    obtain ⟨z, hz, e⟩ := T.cap _ (ty_mem hx) _ (ty_mem hy) hne
    obtain ⟨k, hk, e2⟩ := List.getElem_of_mem hz
    rw [ty_elem hk] at e2
    exact h1 k hk (by rw [e2]; exact e)
theorem Tys.meet_comm {L : List Ty} (T : Tys L) {x y : Nat} (hx : x < L.length) (hy : y < L.length) : meetI L x y = meetI L y x := by
  unfold meetI; rw [sand_comm (T.at hx).1 (T.at hy).1]
theorem Tys.meet_self {L : List Ty} (T : Tys L) {x : Nat} (hx : x < L.length) : meetI L x x = (x : Int) := by
  unfold meetI
  have e : SAnd (ty L x).2 (ty L x).2 = (ty L x).2 := sAlg.idem (T.at hx).1
  rw [e]; exact T.ix_at hx
/-- The meet of three. -/
def m3 (L : List Ty) (x y z : Nat) : Int := if meetI L x y < 0 then -1 else meetI L (meetI L x y).toNat z
theorem Tys.m3_is {L : List Ty} (T : Tys L) {x y z : Nat} (hx : x < L.length) (hy : y < L.length) (hz : z < L.length) : m3 L x y z = ixS (L.map Prod.snd) (SAnd (SAnd (ty L x).2 (ty L y).2) (ty L z).2) := by
  unfold m3
  rcases T.meet_cases hx hy with ⟨k, hk, e, h⟩ | ⟨e, h⟩
  · rw [h, if_neg (by omega), Int.toNat_natCast]
    unfold meetI; rw [e]
  · rw [h, if_pos (by decide), e]
    have e2 : SAnd [] (ty L z).2 = [] := sAlg.zero (T.at hz).1
    rw [e2]
    exact (ixS_none fun i hi => (T.at hi).2.1).symm
theorem Tys.m3_turn {L : List Ty} (T : Tys L) {x y z : Nat} (hx : x < L.length) (hy : y < L.length) (hz : z < L.length) : m3 L x y z = m3 L y z x := by
  rw [T.m3_is hx hy hz, T.m3_is hy hz hx]
  have hx1 := (T.at hx).1
  have hy1 := (T.at hy).1
  have hz1 := (T.at hz).1
  have e : SAnd (SAnd (ty L x).2 (ty L y).2) (ty L z).2 = SAnd (SAnd (ty L y).2 (ty L z).2) (ty L x).2 := by
    have e1 : SAnd (SAnd (ty L x).2 (ty L y).2) (ty L z).2 = SAnd (ty L x).2 (SAnd (ty L y).2 (ty L z).2) := sAlg.assoc hx1 hy1 hz1
    rw [e1]; exact sand_comm hx1 (hy1.and _)
  rw [e]
theorem IsJoin.symm {L : List Ty} {i j k : Nat} (h : IsJoin L i j k) : IsJoin L j i k := ⟨h.lt, h.r, h.l, fun a ha h1 h2 => h.least a ha h2 h1⟩
theorem Tys.join_comm {L : List Ty} (T : Tys L) {x y : Nat} (hx : x < L.length) (hy : y < L.length) : jn2 L x y = jn2 L y x := (T.join hx hy).one T (T.join hy hx).symm
theorem Tys.join_self {L : List Ty} (T : Tys L) {x : Nat} (hx : x < L.length) : jn2 L x x = x := (T.join hx hx).one T ⟨hx, Sub.refl _, Sub.refl _, fun _ _ h _ => h⟩
theorem Tys.join_assoc {L : List Ty} (T : Tys L) {x y z : Nat} (hx : x < L.length) (hy : y < L.length) (hz : z < L.length) : jn2 L (jn2 L x y) z = jn2 L x (jn2 L y z) := by
  have h1 := T.join hx hy
  have h2 := T.join hy hz
  have h3 := T.join h1.lt hz
  have h4 := T.join hx h2.lt
  refine h3.one T ⟨h4.lt, ?_, h2.r.trans h4.r, fun k hk a b => ?_⟩
  · exact h1.least _ h4.lt h4.l (h2.l.trans h4.r)
  · exact h4.least k hk (h1.l.trans a) (h2.least k hk (h1.r.trans a) b)
theorem Tys.sub_meet {L : List Ty} (T : Tys L) {x y : Nat} (hx : x < L.length) (hy : y < L.length) : subT L x y = decide (meetI L x y = (y : Int)) := by
  rw [Bool.eq_iff_iff, decide_eq_true_iff, T.sub_iff hx hy]
  constructor
  · intro h
    have e : SAnd (ty L x).2 (ty L y).2 = (ty L y).2 := by
      rw [sand_comm (T.at hx).1 (T.at hy).1]; exact and_eq (T.at hy).1 h
    unfold meetI; rw [e]; exact T.ix_at hy
  · intro h
    rcases T.meet_cases hx hy with ⟨k, hk, e, h2⟩ | ⟨_, h2⟩
    · rw [h2] at h
      obtain rfl : k = y := by omega
      rw [e]; exact and_left _ _
    · rw [h2] at h; omega
theorem Tys.sub_join {L : List Ty} (T : Tys L) {x y : Nat} (hx : x < L.length) (hy : y < L.length) : subT L x y = decide (jn2 L x y = x) := by
  rw [Bool.eq_iff_iff, decide_eq_true_iff, T.sub_iff hx hy]
  constructor
  · intro h
    exact (T.join hx hy).one T ⟨hx, Sub.refl _, h, fun _ _ h _ => h⟩
  · intro h
    have := (T.join hx hy).r
    rw [h] at this; exact this

theorem MeetI_any (w : World) (a : Option Addr) (m c : Nat) (L : List Ty) (h : InHand w a m c L) (i j : Nat) (hi : i < m) (hj : j < m) (r : Int) (hr : meetI L i j = r) :
    Calls Tryz.prog 20 #[.slice a m c, .int .i64 i, .int .i64 j] w fun e w' => e = .returned (.int .i64 r) ∧ Below w.heap.size w w' := Meet_val r w a m c L h.is (by have := h.le; omega) h.S i j hi hj hr
theorem meet3_any (w : World) (a : Option Addr) (m c : Nat) (L : List Ty) (h : InHand w a m c L) (x y z : Nat) (hx : x < m) (hy : y < m) (hz : z < m) (r : Int) (hr : m3 L x y z = r) :
    Calls Tryz.prog 36 #[.slice a m c, .int .i64 x, .int .i64 y, .int .i64 z] w fun e w' => e = .returned (.int .i64 r) ∧ Below w.heap.size w w' := by
  have H := Lib.hid h
  have hle := h.le
  have hlen := h.len
  unfold m3 at hr
  rcases h.ok.meet_cases (x := x) (y := y) (by omega) (by omega) with ⟨k, hk, -, e⟩ | ⟨-, e⟩
  · rw [e, if_neg (by omega), Int.toNat_natCast] at hr
    have M1 := Lib.hid (MeetI_any w a m c L h x y hx hy _ e)
    have M2 := Lib.hid (fun W (hW : Below w.heap.size w W) => MeetI_any W a m c L (H.out.below hW) k z (by omega) hz r hr)
    have hk0 : ¬ (k : Int) < 0 := by omega
    have hk1 : ¬ (m : Int) ≤ (k : Int) := by omega
    clear h e hr hlen
    go_enter Tryz.func36, Tryz.ntmps36
    go_wp2_with fail
    refine M1.out.mono ?_
    rintro e w1 ⟨rfl, hb1⟩
    have M2 := Lib.hid (M2.out w1 hb1)
    have B1 := Lib.hid hb1
    clear hb1 M1
    go_wp2_with fail
    refine M2.out.mono ?_
    rintro e w2 ⟨rfl, hb2⟩
    go_wp2_with fail
    go_ret
    exact ⟨rfl, B1.out.trans (hb2.mono B1.out.size)⟩
  · rw [e, if_pos (by decide)] at hr
    subst hr
    have M1 := Lib.hid (MeetI_any w a m c L h x y hx hy _ e)
    clear h e hlen
    go_enter Tryz.func36, Tryz.ntmps36
    go_wp2_with fail
    refine M1.out.mono ?_
    rintro e w1 ⟨rfl, hb1⟩
    go_wp2_with fail
    go_ret
    exact ⟨rfl, hb1⟩
theorem JoinI_any (w : World) (a : Option Addr) (m c : Nat) (L : List Ty) (h : InHand w a m c L) (i j : Nat) (hi : i < m) (hj : j < m) (r : Nat) (hr : jn2 L i j = r) :
    Calls Tryz.prog 22 #[.slice a m c, .int .i64 i, .int .i64 j] w fun e w' => e = .returned (.int .i64 (r : Int)) ∧ Below w.heap.size w w' := Join_val r w a m c L h.is i j hi hj hr

set_option maxRecDepth 100000 in
set_option maxHeartbeats 3200000 in
theorem ClosureLaws_law (w : World) (a : Option Addr) (n cap : Nat) (D : List Dec) (h : IsDecs w a n cap D) (i j k : Nat) (hi : i < 256) (hj : j < 256) (hk : k < 256) (hT : S.TabOk w) :
    Calls Tryz.prog 9 #[.slice a n cap, .agg #[.int .u8 i, .int .u8 j, .int .u8 k]] w fun e w' => e = .returned (.bool true) ∧ Below w.heap.size w w' := by
  obtain ⟨W0, hW0⟩ : ∃ W0, W0 = w.alloc (.cells #[.int .u8 (i : Int), .int .u8 (j : Int), .int .u8 (k : Int)] 56) := ⟨_, rfl⟩
  have b0 : Below w.heap.size w W0 := by rw [hW0]; exact ba _ _
  have TY := Lib.hid (types4_got W0 a n cap D (h.below b0) i j hi hj)
  have d2 : W0.cell? ⟨w.heap.size, 2, none⟩ = some (.int .u8 (k : Int)) := by rw [hW0, World.cell?_alloc_new]; rfl
  have hsz : w.heap.size < W0.heap.size := by rw [hW0]; simp
  have HT := Lib.hid (hT.below b0)
  have B0 := Lib.hid b0
  clear h hT b0
  go_enter Tryz.func9, Tryz.ntmps9
  go_wp2_with fail
  rw [← hW0]
  refine TY.out.mono ?_
  rintro e w1 ⟨hb1, rfl | ⟨hc, hf, h12, ta, m, tc, x, y, L, hL, hx0, hy0, hx, hy, rfl, hI⟩⟩
  · have B1 := Lib.hid (B0.out.trans (hb1.mono B0.out.size))
    have HT1 := Lib.hid (HT.out.below hb1)
    clear hb1 hW0 d2 TY
    go_wp2_with (go_at_call 13; refine (ex4_holds _ HT1.out).mono ?_; rintro e w2 ⟨rfl, hb2⟩)
    go_ret
    exact ⟨rfl, B1.out.trans (hb2.mono B1.out.size)⟩
  · have HT1 := Lib.hid (HT.out.below hb1)
    have B1 := Lib.hid (B0.out.trans (hb1.mono B0.out.size))
    have c2 := (hb1.cell (p := ⟨w.heap.size, 2, none⟩) hsz).trans d2
    have I1 := Lib.hid hI
    have hle := hI.le
    have hpos := hI.pos
    have hcap := hI.is.capLe
    have hmx := hI.is.maxLe
    unfold maxLen at hmx
    have hm0 : (m : Int) ≠ 0 := by omega
    have r1 : ((k : Int)).tmod (m : Int) = ((k % m : Nat) : Int) := by rw [Int.ofNat_tmod]
    have r2 : ((k : Int)) % (m : Int) = ((k % m : Nat) : Int) := by first | exact (Int.natCast_emod k m).symm | exact (Int.ofNat_emod k m).symm | rfl
    have hz : k % m < m := Nat.mod_lt _ hpos
    obtain ⟨z, hzz⟩ : ∃ z, k % m = z := ⟨_, rfl⟩
    rw [hzz] at r1 r2 hz
    have hlen := hI.len
    have T := hI.ok
    have M1 := Lib.hid (T.meet_comm (x := x) (y := y) (by omega) (by omega))
    have M2 := Lib.hid (T.meet_self (x := x) (by omega))
    have M3 := Lib.hid (T.m3_turn (x := x) (y := y) (z := z) (by omega) (by omega) (by omega))
    have J1 := Lib.hid (T.join_comm (x := x) (y := y) (by omega) (by omega))
    have J2 := Lib.hid (T.join_self (x := x) (by omega))
    have J3 := Lib.hid (T.join_assoc (x := x) (y := y) (z := z) (by omega) (by omega) (by omega))
    have S1 := Lib.hid (T.sub_meet (x := x) (y := y) (by omega) (by omega))
    have S2 := Lib.hid (T.sub_join (x := x) (y := y) (by omega) (by omega))
    have hn := (T.join (i := x) (j := y) (by omega) (by omega)).lt
    have ho := (T.join (i := y) (j := z) (by omega) (by omega)).lt
    rw [hlen] at hn ho
    have IH := Lib.hid (fun W hW => I1.out.below (w' := W) hW)
    have N0 : ∃ p, jn2 L x y = p := ⟨_, rfl⟩
    obtain ⟨p, hp⟩ := N0
    obtain ⟨o, hoo⟩ : ∃ o, jn2 L y z = o := ⟨_, rfl⟩
    rw [hp] at hn J1 J3 S2
    rw [hoo] at ho J3
    have HP := Lib.hid hp
    have HO := Lib.hid hoo
    have hn0 : ¬ (p : Int) < 0 := by omega
    have hn1 : ¬ (m : Int) ≤ (p : Int) := by omega
    have ho0 : ¬ (o : Int) < 0 := by omega
    have ho1 : ¬ (m : Int) ≤ (o : Int) := by omega
    clear hL hx0 hy0 hb1 hI hc hf h12 TY hW0 d2 hzz T hlen hp hoo
    cases hs : subT L x y
    · have e1 := S1.out
      have e2 := S2.out
      rw [hs] at e1 e2
      have hne : meetI L x y ≠ (y : Int) := of_decide_eq_false e1.symm
      obtain ⟨mv, hmv⟩ : ∃ mv, meetI L x y = mv := ⟨_, rfl⟩
      rw [hmv] at hne
      have q1 : (mv == (y : Int)) = false := by rw [beq_eq_false_iff_ne]; exact hne
      have hpx : p ≠ x := of_decide_eq_false e2.symm
      have q2 : ((p : Int) == (x : Int)) = false := by rw [beq_eq_false_iff_ne]; omega
      have MV := Lib.hid hmv
      have HS := Lib.hid hs
      clear e1 e2 hne hmv hs hpx
      go_wp2_with fail
      refine (MeetI_any w1 ta m tc L (IH.out w1 (Below.refl w1.heap.size w1)) x y hx hy _ MV.out).mono ?_
      rintro e vw0 ⟨rfl, hbvw0⟩
      have vB0 := Lib.hid hbvw0
      clear hbvw0
      go_wp2_with fail
      refine (JoinI_any vw0 ta m tc L (IH.out vw0 vB0.out) x y hx hy p HP.out).mono ?_
      rintro e vw1 ⟨rfl, hbvw1⟩
      have vB1 := Lib.hid (vB0.out.trans (hbvw1.mono vB0.out.size))
      clear hbvw1 vB0
      go_wp2_with fail
      refine (JoinI_any vw1 ta m tc L (IH.out vw1 vB1.out) y z hy hz o HO.out).mono ?_
      rintro e vw2 ⟨rfl, hbvw2⟩
      have vB2 := Lib.hid (vB1.out.trans (hbvw2.mono vB1.out.size))
      clear hbvw2 vB1
      go_wp2_with fail
      refine (MeetI_any vw2 ta m tc L (IH.out vw2 vB2.out) y x hy hx _ (M1.out.symm.trans MV.out)).mono ?_
      rintro e vw3 ⟨rfl, hbvw3⟩
      have vB3 := Lib.hid (vB2.out.trans (hbvw3.mono vB2.out.size))
      clear hbvw3 vB2
      go_wp2_with fail
      refine (JoinI_any vw3 ta m tc L (IH.out vw3 vB3.out) y x hy hx p J1.out.symm).mono ?_
      rintro e vw4 ⟨rfl, hbvw4⟩
      have vB4 := Lib.hid (vB3.out.trans (hbvw4.mono vB3.out.size))
      clear hbvw4 vB3
      go_wp2_with fail
      refine (MeetI_any vw4 ta m tc L (IH.out vw4 vB4.out) x x hx hx _ M2.out).mono ?_
      rintro e vw5 ⟨rfl, hbvw5⟩
      have vB5 := Lib.hid (vB4.out.trans (hbvw5.mono vB4.out.size))
      clear hbvw5 vB4
      go_wp2_with fail
      refine (JoinI_any vw5 ta m tc L (IH.out vw5 vB5.out) x x hx hx x J2.out).mono ?_
      rintro e vw6 ⟨rfl, hbvw6⟩
      have vB6 := Lib.hid (vB5.out.trans (hbvw6.mono vB5.out.size))
      clear hbvw6 vB5
      go_wp2_with fail
      refine (JoinI_any vw6 ta m tc L (IH.out vw6 vB6.out) p z hn hz _ rfl).mono ?_
      rintro e vw7 ⟨rfl, hbvw7⟩
      have vB7 := Lib.hid (vB6.out.trans (hbvw7.mono vB6.out.size))
      clear hbvw7 vB6
      go_wp2_with fail
      refine (JoinI_any vw7 ta m tc L (IH.out vw7 vB7.out) x o hx ho _ J3.out.symm).mono ?_
      rintro e vw8 ⟨rfl, hbvw8⟩
      have vB8 := Lib.hid (vB7.out.trans (hbvw8.mono vB7.out.size))
      clear hbvw8 vB7
      go_wp2_with fail
      refine (meet3_any vw8 ta m tc L (IH.out vw8 vB8.out) x y z hx hy hz _ rfl).mono ?_
      rintro e vw9 ⟨rfl, hbvw9⟩
      have vB9 := Lib.hid (vB8.out.trans (hbvw9.mono vB8.out.size))
      clear hbvw9 vB8
      go_wp2_with fail
      refine (meet3_any vw9 ta m tc L (IH.out vw9 vB9.out) y z x hy hz hx _ M3.out.symm).mono ?_
      rintro e vw10 ⟨rfl, hbvw10⟩
      have vB10 := Lib.hid (vB9.out.trans (hbvw10.mono vB9.out.size))
      clear hbvw10 vB9
      go_wp2_with fail
      refine (Subsumes_val vw10 ta m tc L (IH.out vw10 vB10.out).is x y hx hy false HS.out).mono ?_
      rintro e vw11 ⟨rfl, hbvw11⟩
      have vB11 := Lib.hid (vB10.out.trans (hbvw11.mono vB10.out.size))
      clear hbvw11 vB10
      have BE := Lib.hid (B1.out.trans (vB11.out.mono B1.out.size))
      have HTE := Lib.hid (HT1.out.below vB11.out)
      go_wp2_with (go_at_call 13; refine (ex4_holds _ HTE.out).mono ?_; rintro e we ⟨rfl, hbe⟩)
      go_ret
      exact ⟨rfl, BE.out.trans (hbe.mono BE.out.size)⟩
    · have e1 := S1.out
      have e2 := S2.out
      rw [hs] at e1 e2
      have MV := Lib.hid (of_decide_eq_true e1.symm)
      have hpx : p = x := of_decide_eq_true e2.symm
      have q2 : ((p : Int) == (x : Int)) = true := by rw [hpx]; simp
      have HS := Lib.hid hs
      clear e1 e2 hs hpx
      go_wp2_with fail
      refine (MeetI_any w1 ta m tc L (IH.out w1 (Below.refl w1.heap.size w1)) x y hx hy _ MV.out).mono ?_
      rintro e vw0 ⟨rfl, hbvw0⟩
      have vB0 := Lib.hid hbvw0
      clear hbvw0
      go_wp2_with fail
      refine (JoinI_any vw0 ta m tc L (IH.out vw0 vB0.out) x y hx hy p HP.out).mono ?_
      rintro e vw1 ⟨rfl, hbvw1⟩
      have vB1 := Lib.hid (vB0.out.trans (hbvw1.mono vB0.out.size))
      clear hbvw1 vB0
      go_wp2_with fail
      refine (JoinI_any vw1 ta m tc L (IH.out vw1 vB1.out) y z hy hz o HO.out).mono ?_
      rintro e vw2 ⟨rfl, hbvw2⟩
      have vB2 := Lib.hid (vB1.out.trans (hbvw2.mono vB1.out.size))
      clear hbvw2 vB1
      go_wp2_with fail
      refine (MeetI_any vw2 ta m tc L (IH.out vw2 vB2.out) y x hy hx _ (M1.out.symm.trans MV.out)).mono ?_
      rintro e vw3 ⟨rfl, hbvw3⟩
      have vB3 := Lib.hid (vB2.out.trans (hbvw3.mono vB2.out.size))
      clear hbvw3 vB2
      go_wp2_with fail
      refine (JoinI_any vw3 ta m tc L (IH.out vw3 vB3.out) y x hy hx p J1.out.symm).mono ?_
      rintro e vw4 ⟨rfl, hbvw4⟩
      have vB4 := Lib.hid (vB3.out.trans (hbvw4.mono vB3.out.size))
      clear hbvw4 vB3
      go_wp2_with fail
      refine (MeetI_any vw4 ta m tc L (IH.out vw4 vB4.out) x x hx hx _ M2.out).mono ?_
      rintro e vw5 ⟨rfl, hbvw5⟩
      have vB5 := Lib.hid (vB4.out.trans (hbvw5.mono vB4.out.size))
      clear hbvw5 vB4
      go_wp2_with fail
      refine (JoinI_any vw5 ta m tc L (IH.out vw5 vB5.out) x x hx hx x J2.out).mono ?_
      rintro e vw6 ⟨rfl, hbvw6⟩
      have vB6 := Lib.hid (vB5.out.trans (hbvw6.mono vB5.out.size))
      clear hbvw6 vB5
      go_wp2_with fail
      refine (JoinI_any vw6 ta m tc L (IH.out vw6 vB6.out) p z hn hz _ rfl).mono ?_
      rintro e vw7 ⟨rfl, hbvw7⟩
      have vB7 := Lib.hid (vB6.out.trans (hbvw7.mono vB6.out.size))
      clear hbvw7 vB6
      go_wp2_with fail
      refine (JoinI_any vw7 ta m tc L (IH.out vw7 vB7.out) x o hx ho _ J3.out.symm).mono ?_
      rintro e vw8 ⟨rfl, hbvw8⟩
      have vB8 := Lib.hid (vB7.out.trans (hbvw8.mono vB7.out.size))
      clear hbvw8 vB7
      go_wp2_with fail
      refine (meet3_any vw8 ta m tc L (IH.out vw8 vB8.out) x y z hx hy hz _ rfl).mono ?_
      rintro e vw9 ⟨rfl, hbvw9⟩
      have vB9 := Lib.hid (vB8.out.trans (hbvw9.mono vB8.out.size))
      clear hbvw9 vB8
      go_wp2_with fail
      refine (meet3_any vw9 ta m tc L (IH.out vw9 vB9.out) y z x hy hz hx _ M3.out.symm).mono ?_
      rintro e vw10 ⟨rfl, hbvw10⟩
      have vB10 := Lib.hid (vB9.out.trans (hbvw10.mono vB9.out.size))
      clear hbvw10 vB9
      go_wp2_with fail
      refine (Subsumes_val vw10 ta m tc L (IH.out vw10 vB10.out).is x y hx hy true HS.out).mono ?_
      rintro e vw11 ⟨rfl, hbvw11⟩
      have vB11 := Lib.hid (vB10.out.trans (hbvw11.mono vB10.out.size))
      clear hbvw11 vB10
      have BE := Lib.hid (B1.out.trans (vB11.out.mono B1.out.size))
      have HTE := Lib.hid (HT1.out.below vB11.out)
      go_wp2_with (go_at_call 13; refine (ex4_holds _ HTE.out).mono ?_; rintro e we ⟨rfl, hbe⟩)
      go_ret
      exact ⟨rfl, BE.out.trans (hbe.mono BE.out.size)⟩
end Go.Proofs.YtdeamdpoegdmdaaGreatDoor
