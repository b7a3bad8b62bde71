/- Texts joined by wip/gen/merge.py: Dd Cx Df Dg Dh. -/
import Derived.Test.YtdeamdpoegdmdaaGreatDoorMae
set_option linter.unusedVariables false
set_option linter.unusedSimpArgs false
/- The reference of layer 4: Codes. -/
namespace Go.Proofs.YtdeamdpoegdmdaaGreatDoor
open Go.RowKit Go.Maps Go.Shelf
open S (wd Is64 Fresh bit SAnd)

/-- What the list of types holds when i of the codes are in. -/
structure InsP (D : List Dec) (F : List Cd) (i : Nat) (T : List Ty) : Prop where
  pw : T.Pairwise bef
  mem : ∀ z, z ∈ T ↔ ∃ c ∈ F.take i, z = (nam D c, c)
theorem InsP.start (D : List Dec) (F : List Cd) : InsP D F 0 [] := ⟨List.Pairwise.nil, fun z => by simp⟩
theorem take_more {F : List Cd} {i : Nat} (hi : i < F.length) : F.take (i + 1) = F.take i ++ [cg F i] := by
  rw [List.take_add_one, cg_get hi]; rfl
theorem InsP.ne {D : List Dec} (h : Acc D) {F : List Cd} (hn : F.Nodup) (hF : ∀ x ∈ F, Fam sAlg (cods D) x) {i : Nat} (hi : i < F.length) {T : List Ty} (hp : InsP D F i T) : ∀ y ∈ T, y.1 ≠ nam D (cg F i) := by
  intro y hy e
  obtain ⟨c, hc, rfl⟩ := (hp.mem y).1 hy
  have e2 := nam_inj h (fam_dwn h (hF c (List.mem_of_mem_take hc))) (fam_dwn h (hF _ (cg_mem hi))) e
  rw [e2] at hc
  have h1 : (F.take i ++ [cg F i]).Nodup := by rw [← take_more hi]; exact hn.sublist (List.take_sublist _ _)
  rw [List.nodup_append] at h1
  exact h1.2.2 _ hc _ (List.mem_singleton.2 rfl) rfl
theorem InsP.step {D : List Dec} (h : Acc D) {F : List Cd} (hn : F.Nodup) (hF : ∀ x ∈ F, Fam sAlg (cods D) x) {i : Nat} (hi : i < F.length) {T : List Ty} (hp : InsP D F i T) {k : Nat} (hhi : ∀ y ∈ T.drop k, bef (nam D (cg F i), cg F i) y) (hk : k = 0 ∨ ∃ y, T[k - 1]? = some y ∧ ¬ bef (nam D (cg F i), cg F i) y) :
    InsP D F (i + 1) (T.take k ++ (nam D (cg F i), cg F i) :: T.drop k) := by
  refine ⟨put_back hp.pw (hp.ne h hn hF hi) hhi hk, fun z => ?_⟩
  rw [take_more hi]
  have h0 : z ∈ T.take k ++ (nam D (cg F i), cg F i) :: T.drop k ↔ z = (nam D (cg F i), cg F i) ∨ z ∈ T := by
    conv => rhs; rw [← List.take_append_drop k T]
    rw [List.mem_append, List.mem_cons, List.mem_append]
    constructor
    · rintro (h | h | h)
      · exact .inr (.inl h)
      · exact .inl h
      · exact .inr (.inr h)
    · rintro (h | h | h)
      · exact .inr (.inl h)
      · exact .inl h
      · exact .inr (.inr h)
  rw [h0, hp.mem]
  constructor
  · rintro (rfl | ⟨c, hc, rfl⟩)
    · exact ⟨_, List.mem_append_right _ (List.mem_singleton.2 rfl), rfl⟩
    · exact ⟨c, List.mem_append_left _ hc, rfl⟩
  · rintro ⟨c, hc, rfl⟩
    rcases List.mem_append.1 hc with e | e
    · exact .inr ⟨c, e, rfl⟩
    · rw [List.mem_singleton] at e; rw [e]; exact .inl rfl
theorem InsP.end {D : List Dec} (h : Acc D) {F : List Cd} (hF : ∀ x, x ∈ F ↔ x ∈ fam D) {T : List Ty} (hp : InsP D F F.length T) : T = tys D :=
  tys_is h hp.pw fun x => by
    rw [hp.mem, List.take_length]
    exact ⟨fun ⟨c, hc, e⟩ => ⟨c, (hF c).1 hc, e⟩, fun ⟨c, hc, e⟩ => ⟨c, (hF c).2 hc, e⟩⟩
theorem cods_more {D : List Dec} {k : Nat} (hk : k < (al D).length) : (cods D).take (k + 1) = (cods D).take k ++ [cod D (st (al D) k)] := by
  unfold cods
  rw [List.take_add_one, List.getElem?_map, st_get hk]; rfl

set_option maxRecDepth 100000 in
set_option maxHeartbeats 6400000 in
theorem rCodes_any (w : World) (a : Option Addr) (n cap : Nat) (D : List Dec) (h : IsDecs w a n cap D) :
    Calls Tryz.prog 15 #[.slice a n cap] w (CodesPost D w) := by
  have H := Lib.hid h
  have CK := Lib.hid (rCheck_any w a n cap D h)
  clear h
  by_cases hc : chkN D = 0
  · have hn0 : 0 < n := by
      obtain ⟨t, ht, _⟩ := (acc_of hc).top
      have := List.length_pos_of_mem ht
      rw [nms_len, H.out.len] at this; exact this
    have hn : n ≤ 256 := (good_up H.out hc).2.2.2.2.1
    have HC := Lib.hid hc
    rw [hc] at CK
    have hln : (al D).length = n := by rw [al_len (acc_of hc)]; exact H.out.len
    clear hc
    go_enter Tryz.func15, Tryz.ntmps15
    go_wp2_with fail
    refine CK.out.mono ?_
    rintro e w1 ⟨rfl, hb1⟩
    have B1 := Lib.hid hb1
    have NM := Lib.hid (Names_any w1 a n cap D (H.out.below hb1) (by omega))
    clear hb1 CK
    go_wp2_with fail
    refine NM.out.mono ?_
    intro e w2 hy
    obtain ⟨na, nc, rfl, hna, hb2⟩ := hy.eq (al D) rfl
    rw [hln] at hna ⊢
    have HNA := Lib.hid hna
    have B2 := Lib.hid (B1.out.trans (hb2.mono B1.out.size))
    clear hy hna hb2 NM
    go_wp2
    go_loopw [6, 7] (fun o v wr => ∃ k : Nat, k ≤ n ∧ v = .int .i64 k ∧ Hid (OwnS wr w2.heap.size o k ((cods D).take k)) ∧ Hid (Below w2.heap.size w2 wr)) (fun _ v _ => n - (intOf v).toNat)
    case atStart => exact ⟨0, Nat.zero_le _, rfl, OwnS.empty _ _, Below.refl _ _⟩
    case round =>
      obtain ⟨k, hk, rfl, ho, hb⟩ := hrel
      obtain ⟨wo, hwo⟩ : ∃ wo : World, wo = wr := ⟨_, rfl⟩
      subst hwo
      obtain ⟨oa, oc, rfl, hoc1, hoc2⟩ := ho.out.form
      unfold maxLen at hoc2
      by_cases hlt : k < n
      · obtain ⟨nb, noff, rfl, hnb, hnx⟩ := HNA.out.at_ hn0
        have c1 := (hb.out.cell (p := ⟨nb, noff + k, none⟩) hnb).trans (hnx k hlt)
        have hk0 : (0 : Int) ≤ (k : Int) := by omega
        have hk1 : (k : Int) < (n : Int) := by omega
        have BW := Lib.hid (B2.out.trans (hb.out.mono B2.out.size))
        have hkA : k < (al D).length := by omega
        have CO := Lib.hid (rcode_any wo a n cap D (H.out.below BW.out) hn _ n nc (HNA.out.below hb.out) hn (st (al D) k) (HNA.out.small _ (st_mem hkA)))
        have MO := Lib.hid (cods_more (D := D) hkA)
        have HNE := Lib.hid (cod_ne (acc_of HC.out) (mem_al.1 (st_mem hkA)))
        have hz := hb.out.size
        obtain ⟨s, hs⟩ : ∃ s, st (al D) k = s := ⟨_, rfl⟩
        rw [hs] at c1 CO MO HNE
        obtain ⟨c, hcd⟩ : ∃ c, cod D s = c := ⟨_, rfl⟩
        rw [hcd] at CO MO HNE
        clear hs hcd hnx
        go_wp2_with fail
        refine CO.out.mono ?_
        rintro e w3 ⟨za, zc, rfl, hz64, hzf, hb3⟩
        have EL : Hid (Elt w3 (.slice oa k oc) (.slice za c.length zc) c) := by
          have D2 : SetV w3 (.slice za c.length zc) c := ⟨za, zc, rfl, hz64⟩
          refine ⟨D2, D2.lt HNE.out, fun g hg hx => ?_⟩
          have h1 := (ho.out.lt g hg).2
          cases za with
          | none => cases hx
          | some p =>
            have h2 := hzf p rfl
            have hx' : p.block = g := Option.some.inj hx
            omega
        have O3 := Lib.hid (ho.out.below hb3)
        have B3 := Lib.hid (hb.out.trans (hb3.mono hz))
        clear hz64 hzf hb3
        go_wp2_with (at_builtin; refine wpList_append_set rfl _ _ rfl w2.heap.size (.slice oa k oc) k ((cods D).take k) rfl O3.out (.slice za c.length zc) c EL.out rfl (by omega) B3.out.size ?_; intro v4 w4 ho4 hg4; have O4 := Lib.hid ho4; have B4 := Lib.hid ((B3.out.alloc B3.out.size _).grown hg4 (by have := B3.out.size; simp; omega) (fun j hj => (ho.out.lt j hj).1)); clear ho4 hg4)
        go_roundw
        case rel => exact ⟨k + 1, by omega, by go_num, by rw [MO.out]; exact O4.out, B4.out⟩
        case measure => simp [intOf]; omega
      · obtain rfl : n = k := by omega
        have eC : (cods D).take n = cods D := List.take_of_length_le (by unfold cods; rw [List.length_map]; omega)
        rw [eC] at ho
        obtain ⟨g8, c8, e8, hc81, hc82⟩ := ho.out.head hn0
        have e9 : oa = some ⟨g8, 0, none⟩ := by injection e8
        subst e9
        clear e8 hc81 hc82 c8
        obtain ⟨a', c', e', hCs⟩ := ho.out.isSets
        cases e'
        have HCS := Lib.hid hCs
        have FA := Lib.hid (rfamily_any wo g8 0 n oc (cods D) hCs hn0 hn (cods_sets (acc_of HC.out)) (cods_nodup (acc_of HC.out)) (fun c hc => by
          obtain ⟨x, _, rfl⟩ := List.mem_map.1 hc
          exact cod_len D x))
        have BW := Lib.hid (B2.out.trans (hb.out.mono B2.out.size))
        clear hCs eC ho hlt hk
        go_wp2_with fail
        refine FA.out.mono ?_
        rintro e w5 ⟨hb5, vF, F, rfl, hoF, hpre, hnd, hfam, hfull⟩
        obtain ⟨g5, c5, rfl, hc51, hc52⟩ := hoF.head (by have := hpre.length_le; unfold cods at this; rw [List.length_map] at this; omega)
        unfold maxLen at hc52
        have B5 := Lib.hid (BW.out.trans (hb5.mono BW.out.size))
        have HF := Lib.hid hfam
        have HND := Lib.hid hnd
        rcases hfull with ⟨hle, hcl⟩ | h257
        · have hf1 : ¬ (256 : Int) < (F.length : Int) := by omega
          have HCL := Lib.hid hcl
          have B25 := Lib.hid (hb.out.trans (hb5.mono hb.out.size))
          have N5 := Lib.hid (HNA.out.below B25.out)
          have H5 := Lib.hid (H.out.below B5.out)
          have C5 := Lib.hid (HCS.out.below hb5)
          have OF5 := Lib.hid hoF
          obtain ⟨m, hm⟩ : ∃ m, F.length = m := ⟨_, rfl⟩
          have HFL := Lib.hid hm
          rw [hm] at OF5 hle hf1 hc51 ⊢
          have hg5 := (OF5.out.lt g5 rfl).2
          clear hcl hfam hnd hpre hoF FA hm hb5 hb B2 BW HCS HNA
          go_wp2
          go_loopw [9, 10] (fun o v wr => ∃ (i : Nat) (E : List En), i ≤ m ∧ v = .int .i64 i ∧ E.length = i ∧ Hid (RowN wr w5.heap.size o E) ∧ Hid (OkN w5 E) ∧ Hid (InsP D F i (E.map Prod.fst)) ∧ Hid (Below w5.heap.size w5 wr)) (fun _ v _ => m - (intOf v).toNat)
          case atStart => exact ⟨0, [], Nat.zero_le _, rfl, rfl, RowN.empty _ _, (fun _ h => (List.not_mem_nil h).elim), InsP.start D F, Below.refl _ _⟩
          case round =>
            obtain ⟨i, E, hi, rfl, hE, hR, hO, hP, hb⟩ := hrel
            obtain ⟨wo2, hwo2⟩ : ∃ wo2 : World, wo2 = wr := ⟨_, rfl⟩
            subst hwo2
            subst hE
            obtain ⟨oa2, oc2, rfl, hoT⟩ := hR.out.isTys (hO.out.below hb.out)
            have HOT := Lib.hid hoT
            obtain ⟨i, hiE⟩ : ∃ i, E.length = i := ⟨_, rfl⟩
            have HLE := Lib.hid hiE
            rw [hiE] at hi hR hP HOT ⊢
            clear hoT hiE
            by_cases hlt : i < m
            · have hiF : i < F.length := by rw [HFL.out]; exact hlt
              obtain ⟨xx, hx1, hx2⟩ := OF5.out.cell hlt
              obtain ⟨za, zc, rfl, hx64⟩ := hx2.is
              have c1 := (hb.out.cell (p := ⟨g5, i, none⟩) hg5).trans hx1
              have hdw := fam_dwn (acc_of HC.out) (HF.out _ (cg_mem hiF))
              have X5 := Lib.hid hx64
              have BD := Lib.hid (hb.out.drew)
              have NA : Hid (∀ W, Below w5.heap.size w5 W → Calls Tryz.prog 52 #[.slice a n cap, .slice na n nc, .slice (some ⟨g8, 0, none⟩) n oc, .slice za (cg F i).length zc] W fun e w' => e = .returned (.string (mk (nam D (cg F i)))) ∧ Below W.heap.size W w') := fun W hW => rname_any W a n cap D (H5.out.below hW) HC.out na nc (N5.out.below hW) _ oc (C5.out.below hW) za zc (cg F i) (hx64.below hW) hdw
              have hk0 : (0 : Int) ≤ (i : Int) := by omega
              have hk1 : (i : Int) < (m : Int) := by omega
              have HIN := Lib.hid (fun (k : Nat) => hP.out.step (acc_of HC.out) HND.out HF.out hiF (k := k))
              have HNL := Lib.hid (nam_len HC.out (by rw [H5.out.len]; exact hn) (cg F i))
              have hcl64 := hdw.len
              obtain ⟨c, hcd⟩ : ∃ c, cg F i = c := ⟨_, rfl⟩
              rw [hcd] at c1 X5 NA HIN HNL hcl64
              obtain ⟨y, hy⟩ : ∃ y, nam D c = y := ⟨_, rfl⟩
              rw [hy] at NA HIN HNL
              have HEC : Hid (∀ z ∈ E.map Prod.fst, z.2.length ≤ 64) := fun z hz => by
                obtain ⟨c', hc', rfl⟩ := (hP.out.mem _).1 hz
                exact (fam_dwn (acc_of HC.out) (HF.out _ (List.mem_of_mem_take hc'))).len
              clear hx1 hx2 hx64 hdw hy hcd hP
              have hgo : g5 < wo2.heap.size := Nat.lt_of_lt_of_le hg5 hb.out.size
              have BA := Lib.hid (hb.out.alloc hb.out.size (.cells #[.string ByteArray.empty, .slice none 0 0] 36)).drew
              have c1a : (wo2.alloc (.cells #[.string ByteArray.empty, .slice none 0 0] 36)).cell? ⟨g5, i, none⟩ = some (.slice za c.length zc) := (World.cell?_alloc_lt _ _ _ hgo).trans c1
              have x0 : (wo2.alloc (.cells #[.string ByteArray.empty, .slice none 0 0] 36)).cell? ⟨wo2.heap.size, 0, none⟩ = some (.string ByteArray.empty) := by rw [World.cell?_alloc_new]; rfl
              have x1 : (wo2.alloc (.cells #[.string ByteArray.empty, .slice none 0 0] 36)).cell? ⟨wo2.heap.size, 1, none⟩ = some (.slice none 0 0) := by rw [World.cell?_alloc_new]; rfl
              have z0 : (wo2.alloc (.cells #[.string ByteArray.empty, .slice none 0 0] 36)).frozen? ⟨wo2.heap.size, 0, none⟩ = false := by simp
              have z1 : (wo2.alloc (.cells #[.string ByteArray.empty, .slice none 0 0] 36)).frozen? ⟨wo2.heap.size, 1, none⟩ = false := by simp
              go_wp2_with fail
              go_region_held3 (fun w' => w'.cell? ⟨g5, i, none⟩ = some (.slice za c.length zc)) (first | (go_keep; done) | exact c1 | exact c2 | (rw [World.cell?_setCell_other _ _ _ _ (by intro hh; injection hh with h1; omega), World.cell?_setCell_other _ _ _ _ (by intro hh; injection hh with h1; omega)]; exact c2)) ((first
                | (go_at_call 52; refine (NA.out _ BD.out).mono ?_; rintro e w6 ⟨rfl, hb6⟩; have c2 := (hb6.cell (p := ⟨g5, i, none⟩) hgo).trans c1; have B6 := Lib.hid (BD.out.trans (hb6.mono BD.out.size)); have HB6 : Hid (Below wo2.heap.size wo2 w6) := ((Below.refl _ wo2).drew.trans hb6); clear hb6)
                | (go_at_call 52; refine (NA.out _ BA.out).mono ?_; rintro e w6 ⟨rfl, hb6⟩; have c2 := (hb6.cell (p := ⟨g5, i, none⟩) (by show g5 < _; simp; omega)).trans c1a; have k0 := (hb6.cell (p := ⟨wo2.heap.size, 0, none⟩) (by show wo2.heap.size < _; simp)).trans x0; have k1 := (hb6.cell (p := ⟨wo2.heap.size, 1, none⟩) (by show wo2.heap.size < _; simp)).trans x1; have f0 : w6.frozen? ⟨wo2.heap.size, 0, none⟩ = false := (World.frozen?_of_block (hb6.block _ (by show wo2.heap.size < _; simp))).trans z0; have f1 : w6.frozen? ⟨wo2.heap.size, 1, none⟩ = false := (World.frozen?_of_block (hb6.block _ (by show wo2.heap.size < _; simp))).trans z1; have B6 := Lib.hid (BA.out.trans (hb6.mono BA.out.size)); have HB6 : Hid (Below wo2.heap.size wo2 w6) := ((((Below.refl _ wo2).alloc (Nat.le_refl _) _).drew).trans (hb6.mono (by simp))); clear hb6)))
              · obtain ⟨w7, hw7⟩ : ∃ w7, w7 = w6.alloc (.cells #[.string (mk y), .slice za c.length zc] 36) := ⟨_, rfl⟩
                have B7 : Hid (Below w5.heap.size w5 w7) := by rw [hw7]; exact B6.out.alloc B6.out.size _
                have hz6 : wo2.heap.size ≤ w6.heap.size := HB6.out.size
                have R7 : Hid (RowN w7 w5.heap.size (.slice oa2 i oc2) E) := by rw [hw7]; exact World.ownsRow.alloc (hR.out.below HB6.out) _
                have y0 : w7.cell? ⟨w6.heap.size, 0, none⟩ = some (.string (mk y)) := by rw [hw7, World.cell?_alloc_new]; rfl
                have y1 : w7.cell? ⟨w6.heap.size, 1, none⟩ = some (.slice za c.length zc) := by rw [hw7, World.cell?_alloc_new]; rfl
                have hbx : w6.heap.size < w7.heap.size := by rw [hw7]; simp
                rw [← hw7]
                obtain ⟨bx, hbx2⟩ : ∃ bx, w6.heap.size = bx := ⟨_, rfl⟩
                rw [hbx2] at y0 y1 hbx ⊢
                clear hw7 B6 c2 HB6
                go_wp2_with fail
                go_loopw [12] (fun v wr => ∃ k : Nat, k ≤ i ∧ v = .int .i64 k ∧ Hid (∀ z ∈ (E.map Prod.fst).drop k, bef (y, c) z) ∧ Hid (Below w7.heap.size w7 wr)) (fun v _ => (intOf v).toNat)
                case atStart => exact ⟨i, Nat.le_refl _, rfl, (by show ∀ z ∈ _, _; rw [List.drop_eq_nil_of_le (by rw [List.length_map, HLE.out]; exact Nat.le_refl _)]; intro z hz; cases hz), Below.refl _ _⟩
                case round =>
                  obtain ⟨k, hk, rfl, hall, hb8⟩ := hrel
                  obtain ⟨wk, hwk⟩ : ∃ wk : World, wk = wr := ⟨_, rfl⟩
                  subst hwk
                  by_cases hk00 : k = 0
                  · have hd : decide ((0 : Int) < (k : Int)) = false := by rw [hk00]; rfl
                    have hstop : k = 0 ∨ ∃ z, (E.map Prod.fst)[k - 1]? = some z ∧ ¬ bef (y, c) z := .inl hk00
                    go_wp2_with fail
                    go_quiet (fail)
                    obtain ⟨wz, hwz⟩ : ∃ wz, wz = wk.drewN nq := ⟨_, rfl⟩
                    have B8 : Hid (Below w7.heap.size w7 wz) := by rw [hwz]; exact below_drewN hb8.out _
                    rw [← hwz]
                    clear hwz hd hk00
                    have RZ := R7.out.below B8.out
                    have q0 := (B8.out.cell (p := ⟨bx, 0, none⟩) hbx).trans y0
                    have q1 := (B8.out.cell (p := ⟨bx, 1, none⟩) hbx).trans y1
                    have hbz : bx < wz.heap.size := Nat.lt_of_lt_of_le hbx B8.out.size
                    have STEP := Lib.hid (HIN.out k hall.out hstop)
                    have R0 := Lib.hid (RowN.empty wz wz.heap.size)
                    have B5z := Lib.hid (B7.out.trans (B8.out.mono B7.out.size))
                    clear hstop
                    rcases RZ.form with ⟨e9, hE0⟩ | ⟨g, cap9, e9, hBg, hg, hc9, hm9⟩
                    · injection e9 with e1 e2 e3
                      subst e1
                      subst e3
                      subst hE0
                      have hi0 : i = 0 := e2
                      have hkz : k = 0 := by omega
                      obtain ⟨i0, hi1, hiz0, hiz1, hiz2⟩ := info_parts Tryz.infoCd
                      have HI := Lib.hid hi1
                      clear RZ e2 hi1 hiz0 hiz1 hiz2
                      rw [hi0] at hk ⊢
                      rw [hkz] at STEP ⊢
                      have tok1 : True := trivial
                      have tok2 : True := trivial
                      have tok3 : True := trivial
                      go_wp2_with (first
                        | (at_builtin; have _t := tok1; refine wpList_append_own_none rfl _ _ 25 rfl wz.heap.size 36 i0 2 Tryz.underlying25 HI.out (.slice none 0 0) 0 [] rfl (World.ownsRow_nil _ _ _ _) rfl ?_; clear tok1)
                        | (at_builtin; have _t := tok2; refine wpList_append_ens (w := wz.alloc (.cells #[.string (mk y), .slice za c.length zc] 36)) rfl _ _ rfl wz.heap.size (.slice none 0 0) [] rfl (World.ownsRow_nil _ _ _ _) wz.heap.size 0 1 1 [((y, c), za, zc)] rfl rfl (ens_one wz y c za zc _) (by simp) (by simp) ?_; intro v2 w2' hown2 hgrow2 _; have R2 := Lib.hid hown2; have B2 : Hid (Below wz.heap.size wz w2') := ((Below.refl _ wz).alloc (Nat.le_refl _) (.cells #[.string (mk y), .slice za c.length zc] 36)).grown hgrow2 (by simp) (fun _ e => by cases e); clear hown2 hgrow2 tok2)
                        | (at_builtin; have _t := tok3; refine wpList_append_own_none rfl _ _ 25 rfl wz.heap.size 36 i0 2 Tryz.underlying25 HI.out v2 1 _ rfl R2.out rfl ?_; clear tok3))
                      go_roundw
                      case rel =>
                        refine ⟨1, [((y, c), za, zc)], by omega, rfl, rfl, owns_base R2.out (by have := B5z.out.size; omega), ?_, ?_, B5z.out.trans (B2.out.mono B5z.out.size)⟩
                        · intro e he
                          rw [List.mem_singleton] at he
                          rw [he]
                          exact ⟨X5.out, HNL.out⟩
                        · have := STEP.out
                          rw [hi0] at this
                          exact this
                      case measure => simp [intOf]; omega
                    · rw [HLE.out] at e9 hc9
                      injection e9 with e1 e2 e3
                      subst e1
                      subst e3
                      clear e2
                      have RZ2 := RZ
                      rw [show i = E.length from HLE.out.symm] at RZ2
                      have HG1 : Hid (∀ j u, (flt (E.take k))[j]? = some u → wz.cell? ⟨g, 0 + j, none⟩ = some u) := fun j u hu => by
                        rw [Nat.zero_add]
                        refine RowN.cell RZ2 ?_
                        rw [flt_split E k, List.getElem?_append_left (List.getElem?_eq_some_iff.1 hu).1]; exact hu
                      have HG3 : Hid (∀ off, off = k * 2 → ∀ j u, (flt (E.drop k))[j]? = some u → wz.cell? ⟨g, off + j, none⟩ = some u) := fun off ho j u hu => by
                        refine RowN.cell RZ2 ?_
                        have hl : (flt (E.take k)).length = k * 2 := by rw [flt_len, List.length_take, HLE.out, Nat.min_eq_left hk]
                        rw [flt_split E k, List.getElem?_append_right (by rw [hl]; omega), hl, show off + j - k * 2 = j by omega]; exact hu
                      have hlt1 : (E.take k).length = k := by rw [List.length_take, HLE.out, Nat.min_eq_left hk]
                      have hlt3 : (E.drop k).length = i - k := by rw [List.length_drop, HLE.out]
                      unfold maxLen at hm9
                      have hki : (k : Int) ≤ (i : Int) := by omega
                      have hk00' : (0 : Int) ≤ (k : Int) := by omega
                      have HEND : Hid (∀ (v3 : Value) (w3 : World), RowN w3 wz.heap.size v3 (([] ++ E.take k) ++ [((y, c), za, zc)] ++ E.drop k) → Below wz.heap.size wz w3 → ∃ (i' : Nat) (E' : List En), i' ≤ m ∧ Value.int .i64 ((i : Int) + 1) = .int .i64 i' ∧ E'.length = i' ∧ Hid (RowN w3 w5.heap.size v3 E') ∧ Hid (OkN w5 E') ∧ Hid (InsP D F i' (E'.map Prod.fst)) ∧ Hid (Below w5.heap.size w5 w3)) := fun v3 w3 hr hb => by
                        refine ⟨i + 1, ([] ++ E.take k) ++ [((y, c), za, zc)] ++ E.drop k, by omega, by simp, ?_, owns_base hr (by have := B5z.out.size; omega), ?_, ?_, B5z.out.trans (hb.mono B5z.out.size)⟩
                        · rw [List.nil_append, List.length_append, List.length_append, hlt1, hlt3]; simp; omega
                        · intro e he
                          rw [List.nil_append, List.mem_append, List.mem_append, List.mem_singleton] at he
                          rcases he with (h | h) | h
                          · exact hO.out e (List.mem_of_mem_take h)
                          · rw [h]; exact ⟨X5.out, HNL.out⟩
                          · exact hO.out e (List.mem_of_mem_drop h)
                        · have := STEP.out
                          have e : (([] ++ E.take k) ++ [((y, c), za, zc)] ++ E.drop k).map Prod.fst = (E.map Prod.fst).take k ++ (y, c) :: (E.map Prod.fst).drop k := by simp [List.map_take, List.map_drop]
                          show InsP _ _ _ _
                          rw [e]; exact this
                      clear RZ RZ2 STEP
                      have tok1 : True := trivial
                      have tok2 : True := trivial
                      have tok3 : True := trivial
                      by_cases hkc : oc2 = k
                      · have hd0 : Hid (E.drop k = []) := by
                          show _ = _
                          exact List.drop_eq_nil_of_le (by rw [HLE.out]; omega)
                        rw [hd0.out] at HEND
                        subst hkc
                        go_wp2_with (first
                          | (at_builtin; have _t := tok1; refine wpList_append_ens rfl _ _ rfl wz.heap.size (.slice none 0 0) [] rfl R0.out g 0 oc2 _ (E.take oc2) rfl hlt1 HG1.out (by simp; omega) (Nat.le_refl _) ?_; intro v1 w1' hown1 hgrow1 _; have R1 := Lib.hid hown1; have B1' := Lib.hid (grown_below (Below.refl _ _) (Nat.le_refl _) R0.out hgrow1); have hz1 := hgrow1.size; have q2 := (B1'.out.cell (p := ⟨bx, 0, none⟩) hbz).trans q0; have q3 := (B1'.out.cell (p := ⟨bx, 1, none⟩) hbz).trans q1; clear hown1 hgrow1 tok1)
                          | (at_builtin; have _t := tok2; refine wpList_append_ens (w := w1'.alloc (.cells #[.string (mk y), .slice za c.length zc] 36)) rfl _ _ rfl wz.heap.size _ ([] ++ E.take oc2) rfl (World.ownsRow.alloc R1.out _) w1'.heap.size 0 1 1 [((y, c), za, zc)] rfl rfl (ens_one w1' y c za zc _) (by simp; omega) (by simp; omega) ?_; intro v2 w2' hown2 hgrow2 _; have R2 := Lib.hid hown2; have B2' := Lib.hid (grown_below (B1'.out.alloc hz1 _) (by simp; omega) (World.ownsRow.alloc R1.out _) hgrow2); have hz2 := hgrow2.size; clear hown2 hgrow2 tok2)
                          | (at_builtin; have _t := tok3; refine wpList_append_ens rfl _ _ rfl wz.heap.size _ (([] ++ E.take oc2) ++ [((y, c), za, zc)]) rfl R2.out _ _ _ _ [] rfl (by simp) (fun j u hu => by cases hu) (by simp; omega) (by have := B2'.out.size; omega) ?_; intro v3 w3' hown3 hgrow3 _; have R3 := Lib.hid hown3; have B3' := Lib.hid (grown_below B2'.out B2'.out.size R2.out hgrow3); clear hown3 hgrow3 tok3))
                        go_roundw
                        case rel => exact HEND.out v3 w3' R3.out B3'.out
                        case measure => simp [intOf]; omega
                      · have hkc2 : ¬ k = oc2 := fun e => hkc e.symm
                        go_wp2_with (first
                          | (at_builtin; have _t := tok1; refine wpList_append_ens rfl _ _ rfl wz.heap.size (.slice none 0 0) [] rfl R0.out g 0 k _ (E.take k) rfl hlt1 HG1.out (by simp; omega) (Nat.le_refl _) ?_; intro v1 w1' hown1 hgrow1 _; have R1 := Lib.hid hown1; have B1' := Lib.hid (grown_below (Below.refl _ _) (Nat.le_refl _) R0.out hgrow1); have hz1 := hgrow1.size; have q2 := (B1'.out.cell (p := ⟨bx, 0, none⟩) hbz).trans q0; have q3 := (B1'.out.cell (p := ⟨bx, 1, none⟩) hbz).trans q1; clear hown1 hgrow1 tok1)
                          | (at_builtin; have _t := tok2; refine wpList_append_ens (w := w1'.alloc (.cells #[.string (mk y), .slice za c.length zc] 36)) rfl _ _ rfl wz.heap.size _ ([] ++ E.take k) rfl (World.ownsRow.alloc R1.out _) w1'.heap.size 0 1 1 [((y, c), za, zc)] rfl rfl (ens_one w1' y c za zc _) (by simp; omega) (by simp; omega) ?_; intro v2 w2' hown2 hgrow2 _; have R2 := Lib.hid hown2; have B2' := Lib.hid (grown_below (B1'.out.alloc hz1 _) (by simp; omega) (World.ownsRow.alloc R1.out _) hgrow2); have hz2 := hgrow2.size; clear hown2 hgrow2 tok2)
                          | (at_builtin; have _t := tok3; refine wpList_append_ens rfl _ _ rfl wz.heap.size _ (([] ++ E.take k) ++ [((y, c), za, zc)]) rfl R2.out g _ (i - k) (oc2 - k) (E.drop k) rfl hlt3 (fun j u hu => (B2'.out.cell hg).trans (HG3.out _ (by omega) j u hu)) (by simp; omega) (by have := B2'.out.size; omega) ?_; intro v3 w3' hown3 hgrow3 _; have R3 := Lib.hid hown3; have B3' := Lib.hid (grown_below B2'.out B2'.out.size R2.out hgrow3); clear hown3 hgrow3 tok3))
                        go_roundw
                        case rel => exact HEND.out v3 w3' R3.out B3'.out
                        case measure => simp [intOf]; omega
                  · obtain ⟨k', hkk'⟩ : ∃ k', k = k' + 1 := ⟨k - 1, by omega⟩
                    have HKK := Lib.hid hkk'
                    have hd : decide ((0 : Int) < (k : Int)) = true := by rw [decide_eq_true_iff]; omega
                    have hdn : decide (0 < k) = true := by rw [decide_eq_true_iff]; omega
                    have hdp : 0 < k := by omega
                    have hkm : (k : Int) - 1 = (k' : Int) := by omega
                    have hki' : k' < i := by omega
                    have hwr : IntKind.i64.wrap (k' : Int) = (k' : Int) := IntWalk.i64_in _ (by omega)
                    have hkx0 : (0 : Int) ≤ (k : Int) - 1 := by omega
                    have hkx1 : (k : Int) - 1 < (i : Int) := by omega
                    clear hk00 hkk'
                    have hkE : k' < E.length := by rw [HLE.out]; exact hki'
                    have he := List.getElem?_eq_getElem hkE
                    obtain ⟨e, hee⟩ : ∃ e, E[k'] = e := ⟨_, rfl⟩
                    rw [hee] at he
                    obtain ⟨⟨es, ec⟩, ea, ecp⟩ := e
                    obtain ⟨v0, v1⟩ := flt_at E k' _ he
                    obtain ⟨o64, ol⟩ := hO.out _ (List.mem_of_getElem? he)
                    have hmap : (E.map Prod.fst)[k']? = some (es, ec) := by rw [List.getElem?_map, he]; rfl
                    have hec : ec.length ≤ 64 := HEC.out _ (List.mem_of_getElem? hmap)
                    have RK := R7.out.below hb8.out
                    rcases RK.form with ⟨-, hE0⟩ | ⟨g, cap9, e9, hBg, hg, hc9, hm9⟩
                    · rw [hE0] at hkE; exact absurd hkE (Nat.not_lt_zero _)
                    · rw [HLE.out] at e9 hc9
                      injection e9 with e1 e2 e3
                      subst e1
                      subst e3
                      have RK2 := RK
                      rw [show i = E.length from HLE.out.symm] at RK2
                      have d0 := RowN.cell RK2 v0
                      have d1 := RowN.cell RK2 v1
                      have BK := Lib.hid (B7.out.trans (hb8.out.mono B7.out.size))
                      have BF := Lib.hid (rBefore_any wk.drew (y, c) (es, ec) za ea zc ecp (X5.out.below BK.out.drew) (o64.below BK.out.drew) hcl64 hec)
                      have yk0 := (hb8.out.cell (p := ⟨bx, 0, none⟩) hbx).trans y0
                      have yk1 := (hb8.out.cell (p := ⟨bx, 1, none⟩) hbx).trans y1
                      have hkm0 : (0 : Int) ≤ (k' : Int) := by omega
                      have hkm1 : (k' : Int) < (i : Int) := by omega
                      have hbxk : bx < wk.heap.size := Nat.lt_of_lt_of_le hbx hb8.out.size
                      clear he v0 v1 o64 hkE hee RK RK2 e2
                      unfold maxLen at hm9
                      by_cases hbe : bef (y, c) (es, ec)
                      · rw [decide_eq_true hbe] at BF
                        have HBE := Lib.hid hbe
                        have HMP := Lib.hid hmap
                        clear hbe hmap
                        go_wp2_with fail
                        go_region_held3 (fun w' => w'.cell? ⟨bx, 0, none⟩ = some (.string (mk y)) ∧ w'.cell? ⟨bx, 1, none⟩ = some (.slice za c.length zc) ∧ w'.cell? ⟨g, k' * 2, none⟩ = some (.string (mk es)) ∧ w'.cell? ⟨g, k' * 2 + 1, none⟩ = some (.slice ea ec.length ecp)) (first | (go_keep; done) | exact ⟨yk0, yk1, d0, d1⟩ | exact ⟨f0, f1, f2, f3⟩) ((go_at_call 53; refine BF.out.mono ?_; rintro e w8 ⟨rfl, hb9⟩; have hb9 := (Below.refl _ wk).drew.trans hb9; have f0 := (hb9.cell (p := ⟨bx, 0, none⟩) hbxk).trans yk0; have f1 := (hb9.cell (p := ⟨bx, 1, none⟩) hbxk).trans yk1; have f2 := (hb9.cell (p := ⟨g, k' * 2, none⟩) hg).trans d0; have f3 := (hb9.cell (p := ⟨g, k' * 2 + 1, none⟩) hg).trans d1; have B9 := Lib.hid (hb8.out.trans (hb9.mono hb8.out.size)); clear hb9))
                        go_wp2
                        go_roundw
                        case rel =>
                          refine ⟨k', by omega, by simp [hkm], ?_, B9.out⟩
                          intro z hz
                          have e : (E.map Prod.fst).drop k' = (es, ec) :: (E.map Prod.fst).drop k := by
                            rw [HKK.out]
                            obtain ⟨hk2, e2⟩ := List.getElem?_eq_some_iff.1 HMP.out
                            rw [List.drop_eq_getElem_cons hk2, e2]
                          rw [e] at hz
                          rcases List.mem_cons.1 hz with h | h
                          · rw [h]; exact HBE.out
                          · exact hall.out z h
                        case measure => have := HKK.out; simp [intOf]; omega
                      · rw [decide_eq_false hbe] at BF
                        have HSTOP : Hid (k = 0 ∨ ∃ z, (E.map Prod.fst)[k - 1]? = some z ∧ ¬ bef (y, c) z) := .inr ⟨(es, ec), by rw [HKK.out]; exact hmap, hbe⟩
                        clear hbe hmap
                        go_wp2_with fail
                        go_region_held3 (fun w' => w'.cell? ⟨bx, 0, none⟩ = some (.string (mk y)) ∧ w'.cell? ⟨bx, 1, none⟩ = some (.slice za c.length zc) ∧ w'.cell? ⟨g, k' * 2, none⟩ = some (.string (mk es)) ∧ w'.cell? ⟨g, k' * 2 + 1, none⟩ = some (.slice ea ec.length ecp)) (first | (go_keep; done) | exact ⟨yk0, yk1, d0, d1⟩ | exact ⟨f0, f1, f2, f3⟩) ((go_at_call 53; refine BF.out.mono ?_; rintro e wz ⟨rfl, hb9⟩; have hb9 := (Below.refl _ wk).drew.trans hb9; have f0 := (hb9.cell (p := ⟨bx, 0, none⟩) hbxk).trans yk0; have f1 := (hb9.cell (p := ⟨bx, 1, none⟩) hbxk).trans yk1; have f2 := (hb9.cell (p := ⟨g, k' * 2, none⟩) hg).trans d0; have f3 := (hb9.cell (p := ⟨g, k' * 2 + 1, none⟩) hg).trans d1; have B8 := Lib.hid (hb8.out.trans (hb9.mono hb8.out.size)); clear hb9))
                        have hstop := HSTOP.out
                        clear d0 d1 f0 f1 f2 f3 yk0 yk1 hBg hg hc9 hm9 hkm hkm0 hkm1 hwr hkx0 hkx1 hd hdn hdp hki' BF BK HSTOP
                        have RZ := R7.out.below B8.out
                        have q0 := (B8.out.cell (p := ⟨bx, 0, none⟩) hbx).trans y0
                        have q1 := (B8.out.cell (p := ⟨bx, 1, none⟩) hbx).trans y1
                        have hbz : bx < wz.heap.size := Nat.lt_of_lt_of_le hbx B8.out.size
                        have STEP := Lib.hid (HIN.out k hall.out hstop)
                        have R0 := Lib.hid (RowN.empty wz wz.heap.size)
                        have B5z := Lib.hid (B7.out.trans (B8.out.mono B7.out.size))
                        clear hstop
                        rcases RZ.form with ⟨e9, hE0⟩ | ⟨g, cap9, e9, hBg, hg, hc9, hm9⟩
                        · exact absurd e9 (by intro h; injection h with h1; cases h1)
                        · rw [HLE.out] at e9 hc9
                          injection e9 with e1 _ e3
                          injection e1 with e1
                          injection e1 with e1
                          subst e1
                          subst e3
                          have RZ2 := RZ
                          rw [show i = E.length from HLE.out.symm] at RZ2
                          have HG1 : Hid (∀ j u, (flt (E.take k))[j]? = some u → wz.cell? ⟨g, 0 + j, none⟩ = some u) := fun j u hu => by
                            rw [Nat.zero_add]
                            refine RowN.cell RZ2 ?_
                            rw [flt_split E k, List.getElem?_append_left (List.getElem?_eq_some_iff.1 hu).1]; exact hu
                          have HG3 : Hid (∀ off, off = k * 2 → ∀ j u, (flt (E.drop k))[j]? = some u → wz.cell? ⟨g, off + j, none⟩ = some u) := fun off ho j u hu => by
                            refine RowN.cell RZ2 ?_
                            have hl : (flt (E.take k)).length = k * 2 := by rw [flt_len, List.length_take, HLE.out, Nat.min_eq_left hk]
                            rw [flt_split E k, List.getElem?_append_right (by rw [hl]; omega), hl, show off + j - k * 2 = j by omega]; exact hu
                          have hlt1 : (E.take k).length = k := by rw [List.length_take, HLE.out, Nat.min_eq_left hk]
                          have hlt3 : (E.drop k).length = i - k := by rw [List.length_drop, HLE.out]
                          unfold maxLen at hm9
                          have hki : (k : Int) ≤ (i : Int) := by omega
                          have hk00' : (0 : Int) ≤ (k : Int) := by omega
                          have HEND : Hid (∀ (v3 : Value) (w3 : World), RowN w3 wz.heap.size v3 (([] ++ E.take k) ++ [((y, c), za, zc)] ++ E.drop k) → Below wz.heap.size wz w3 → ∃ (i' : Nat) (E' : List En), i' ≤ m ∧ Value.int .i64 ((i : Int) + 1) = .int .i64 i' ∧ E'.length = i' ∧ Hid (RowN w3 w5.heap.size v3 E') ∧ Hid (OkN w5 E') ∧ Hid (InsP D F i' (E'.map Prod.fst)) ∧ Hid (Below w5.heap.size w5 w3)) := fun v3 w3 hr hb => by
                            refine ⟨i + 1, ([] ++ E.take k) ++ [((y, c), za, zc)] ++ E.drop k, by omega, by simp, ?_, owns_base hr (by have := B5z.out.size; omega), ?_, ?_, B5z.out.trans (hb.mono B5z.out.size)⟩
                            · rw [List.nil_append, List.length_append, List.length_append, hlt1, hlt3]; simp; omega
                            · intro e he
                              rw [List.nil_append, List.mem_append, List.mem_append, List.mem_singleton] at he
                              rcases he with (h | h) | h
                              · exact hO.out e (List.mem_of_mem_take h)
                              · rw [h]; exact ⟨X5.out, HNL.out⟩
                              · exact hO.out e (List.mem_of_mem_drop h)
                            · have := STEP.out
                              have e : (([] ++ E.take k) ++ [((y, c), za, zc)] ++ E.drop k).map Prod.fst = (E.map Prod.fst).take k ++ (y, c) :: (E.map Prod.fst).drop k := by simp [List.map_take, List.map_drop]
                              show InsP _ _ _ _
                              rw [e]; exact this
                          clear RZ RZ2 STEP
                          have tok1 : True := trivial
                          have tok2 : True := trivial
                          have tok3 : True := trivial
                          by_cases hkc : oc2 = k
                          · have hd0 : Hid (E.drop k = []) := by
                              show _ = _
                              exact List.drop_eq_nil_of_le (by rw [HLE.out]; omega)
                            rw [hd0.out] at HEND
                            subst hkc
                            go_wp2_with (first
                              | (at_builtin; have _t := tok1; refine wpList_append_ens rfl _ _ rfl wz.heap.size (.slice none 0 0) [] rfl R0.out g 0 oc2 _ (E.take oc2) rfl hlt1 HG1.out (by simp; omega) (Nat.le_refl _) ?_; intro v1 w1' hown1 hgrow1 _; have R1 := Lib.hid hown1; have B1' := Lib.hid (grown_below (Below.refl _ _) (Nat.le_refl _) R0.out hgrow1); have hz1 := hgrow1.size; have q2 := (B1'.out.cell (p := ⟨bx, 0, none⟩) hbz).trans q0; have q3 := (B1'.out.cell (p := ⟨bx, 1, none⟩) hbz).trans q1; clear hown1 hgrow1 tok1)
                              | (at_builtin; have _t := tok2; refine wpList_append_ens (w := w1'.alloc (.cells #[.string (mk y), .slice za c.length zc] 36)) rfl _ _ rfl wz.heap.size _ ([] ++ E.take oc2) rfl (World.ownsRow.alloc R1.out _) w1'.heap.size 0 1 1 [((y, c), za, zc)] rfl rfl (ens_one w1' y c za zc _) (by simp; omega) (by simp; omega) ?_; intro v2 w2' hown2 hgrow2 _; have R2 := Lib.hid hown2; have B2' := Lib.hid (grown_below (B1'.out.alloc hz1 _) (by simp; omega) (World.ownsRow.alloc R1.out _) hgrow2); have hz2 := hgrow2.size; clear hown2 hgrow2 tok2)
                              | (at_builtin; have _t := tok3; refine wpList_append_ens rfl _ _ rfl wz.heap.size _ (([] ++ E.take oc2) ++ [((y, c), za, zc)]) rfl R2.out _ _ _ _ [] rfl (by simp) (fun j u hu => by cases hu) (by simp; omega) (by have := B2'.out.size; omega) ?_; intro v3 w3' hown3 hgrow3 _; have R3 := Lib.hid hown3; have B3' := Lib.hid (grown_below B2'.out B2'.out.size R2.out hgrow3); clear hown3 hgrow3 tok3))
                            go_roundw
                            case rel => exact HEND.out v3 w3' R3.out B3'.out
                            case measure => simp [intOf]; omega
                          · have hkc2 : ¬ k = oc2 := fun e => hkc e.symm
                            go_wp2_with (first
                              | (at_builtin; have _t := tok1; refine wpList_append_ens rfl _ _ rfl wz.heap.size (.slice none 0 0) [] rfl R0.out g 0 k _ (E.take k) rfl hlt1 HG1.out (by simp; omega) (Nat.le_refl _) ?_; intro v1 w1' hown1 hgrow1 _; have R1 := Lib.hid hown1; have B1' := Lib.hid (grown_below (Below.refl _ _) (Nat.le_refl _) R0.out hgrow1); have hz1 := hgrow1.size; have q2 := (B1'.out.cell (p := ⟨bx, 0, none⟩) hbz).trans q0; have q3 := (B1'.out.cell (p := ⟨bx, 1, none⟩) hbz).trans q1; clear hown1 hgrow1 tok1)
                              | (at_builtin; have _t := tok2; refine wpList_append_ens (w := w1'.alloc (.cells #[.string (mk y), .slice za c.length zc] 36)) rfl _ _ rfl wz.heap.size _ ([] ++ E.take k) rfl (World.ownsRow.alloc R1.out _) w1'.heap.size 0 1 1 [((y, c), za, zc)] rfl rfl (ens_one w1' y c za zc _) (by simp; omega) (by simp; omega) ?_; intro v2 w2' hown2 hgrow2 _; have R2 := Lib.hid hown2; have B2' := Lib.hid (grown_below (B1'.out.alloc hz1 _) (by simp; omega) (World.ownsRow.alloc R1.out _) hgrow2); have hz2 := hgrow2.size; clear hown2 hgrow2 tok2)
                              | (at_builtin; have _t := tok3; refine wpList_append_ens rfl _ _ rfl wz.heap.size _ (([] ++ E.take k) ++ [((y, c), za, zc)]) rfl R2.out g _ (i - k) (oc2 - k) (E.drop k) rfl hlt3 (fun j u hu => (B2'.out.cell hg).trans (HG3.out _ (by omega) j u hu)) (by simp; omega) (by have := B2'.out.size; omega) ?_; intro v3 w3' hown3 hgrow3 _; have R3 := Lib.hid hown3; have B3' := Lib.hid (grown_below B2'.out B2'.out.size R2.out hgrow3); clear hown3 hgrow3 tok3))
                            go_roundw
                            case rel => exact HEND.out v3 w3' R3.out B3'.out
                            case measure => simp [intOf]; omega
              · obtain ⟨w7, hw7⟩ : ∃ w7, w7 = (w6.setCell ⟨wo2.heap.size, 0, none⟩ (.string (mk y))).setCell ⟨wo2.heap.size, 1, none⟩ (.slice za c.length zc) := ⟨_, rfl⟩
                have hzw5 := hb.out.size
                have B7 : Hid (Below w5.heap.size w5 w7) := by rw [hw7]; exact (B6.out.setCell hzw5 _).setCell hzw5 _
                have hbx0 : wo2.heap.size < w6.heap.size := World.block_lt_of_cell? w6 _ k0
                have hgr : w6.grownBy w7 (some wo2.heap.size) := by
                  rw [hw7]
                  refine ⟨rfl, rfl, rfl, by simp, fun j hj hne => ?_⟩
                  have hj2 : j ≠ wo2.heap.size := fun e => hne (by rw [e])
                  exact (heap_setCell_other _ _ j _ hj2).trans (heap_setCell_other _ _ j _ hj2)
                have R6 : RowN w6 w5.heap.size (.slice oa2 i oc2) E := hR.out.below HB6.out
                have R7 : Hid (RowN w7 w5.heap.size (.slice oa2 i oc2) E) := World.ownsRow.kept R6 hgr (by
                  right
                  intro e
                  have := (World.ownsRow.lt hR.out _ e).2
                  omega)
                have y0 : w7.cell? ⟨wo2.heap.size, 0, none⟩ = some (.string (mk y)) := by
                  rw [hw7, World.cell?_setCell_other _ _ _ _ (by intro hh; injection hh with _ hh; cases hh)]
                  exact World.cell?_setCell_same _ _ _ k0
                have y1 : w7.cell? ⟨wo2.heap.size, 1, none⟩ = some (.slice za c.length zc) := by
                  rw [hw7]
                  refine World.cell?_setCell_same _ _ _ (u := .slice none 0 0) ?_
                  rw [World.cell?_setCell_other _ _ _ _ (by intro hh; injection hh with _ hh; cases hh)]
                  exact k1
                have hbx : wo2.heap.size < w7.heap.size := by have := hgr.size; omega
                rw [← hw7]
                obtain ⟨bx, hbx2⟩ : ∃ bx, wo2.heap.size = bx := ⟨_, rfl⟩
                rw [hbx2] at y0 y1 hbx ⊢
                clear hw7 B6 c2 HB6 hgr R6 k0 k1 f0 f1 hbx0 hzw5
                go_wp2_with fail
                go_loopw [12] (fun v wr => ∃ k : Nat, k ≤ i ∧ v = .int .i64 k ∧ Hid (∀ z ∈ (E.map Prod.fst).drop k, bef (y, c) z) ∧ Hid (Below w7.heap.size w7 wr)) (fun v _ => (intOf v).toNat)
                case atStart => exact ⟨i, Nat.le_refl _, rfl, (by show ∀ z ∈ _, _; rw [List.drop_eq_nil_of_le (by rw [List.length_map, HLE.out]; exact Nat.le_refl _)]; intro z hz; cases hz), Below.refl _ _⟩
                case round =>
                  obtain ⟨k, hk, rfl, hall, hb8⟩ := hrel
                  obtain ⟨wk, hwk⟩ : ∃ wk : World, wk = wr := ⟨_, rfl⟩
                  subst hwk
                  by_cases hk00 : k = 0
                  · have hd : decide ((0 : Int) < (k : Int)) = false := by rw [hk00]; rfl
                    have hstop : k = 0 ∨ ∃ z, (E.map Prod.fst)[k - 1]? = some z ∧ ¬ bef (y, c) z := .inl hk00
                    go_wp2_with fail
                    go_quiet (fail)
                    obtain ⟨wz, hwz⟩ : ∃ wz, wz = wk.drewN nq := ⟨_, rfl⟩
                    have B8 : Hid (Below w7.heap.size w7 wz) := by rw [hwz]; exact below_drewN hb8.out _
                    rw [← hwz]
                    clear hwz hd hk00
                    have RZ := R7.out.below B8.out
                    have q0 := (B8.out.cell (p := ⟨bx, 0, none⟩) hbx).trans y0
                    have q1 := (B8.out.cell (p := ⟨bx, 1, none⟩) hbx).trans y1
                    have hbz : bx < wz.heap.size := Nat.lt_of_lt_of_le hbx B8.out.size
                    have STEP := Lib.hid (HIN.out k hall.out hstop)
                    have R0 := Lib.hid (RowN.empty wz wz.heap.size)
                    have B5z := Lib.hid (B7.out.trans (B8.out.mono B7.out.size))
                    clear hstop
                    rcases RZ.form with ⟨e9, hE0⟩ | ⟨g, cap9, e9, hBg, hg, hc9, hm9⟩
                    · injection e9 with e1 e2 e3
                      subst e1
                      subst e3
                      subst hE0
                      have hi0 : i = 0 := e2
                      have hkz : k = 0 := by omega
                      obtain ⟨i0, hi1, hiz0, hiz1, hiz2⟩ := info_parts Tryz.infoCd
                      have HI := Lib.hid hi1
                      clear RZ e2 hi1 hiz0 hiz1 hiz2
                      rw [hi0] at hk ⊢
                      rw [hkz] at STEP ⊢
                      have tok1 : True := trivial
                      have tok2 : True := trivial
                      have tok3 : True := trivial
                      go_wp2_with (first
                        | (at_builtin; have _t := tok1; refine wpList_append_own_none rfl _ _ 25 rfl wz.heap.size 36 i0 2 Tryz.underlying25 HI.out (.slice none 0 0) 0 [] rfl (World.ownsRow_nil _ _ _ _) rfl ?_; clear tok1)
                        | (at_builtin; have _t := tok2; refine wpList_append_ens (w := wz.alloc (.cells #[.string (mk y), .slice za c.length zc] 36)) rfl _ _ rfl wz.heap.size (.slice none 0 0) [] rfl (World.ownsRow_nil _ _ _ _) wz.heap.size 0 1 1 [((y, c), za, zc)] rfl rfl (ens_one wz y c za zc _) (by simp) (by simp) ?_; intro v2 w2' hown2 hgrow2 _; have R2 := Lib.hid hown2; have B2 : Hid (Below wz.heap.size wz w2') := ((Below.refl _ wz).alloc (Nat.le_refl _) (.cells #[.string (mk y), .slice za c.length zc] 36)).grown hgrow2 (by simp) (fun _ e => by cases e); clear hown2 hgrow2 tok2)
                        | (at_builtin; have _t := tok3; refine wpList_append_own_none rfl _ _ 25 rfl wz.heap.size 36 i0 2 Tryz.underlying25 HI.out v2 1 _ rfl R2.out rfl ?_; clear tok3))
                      go_roundw
                      case rel =>
                        refine ⟨1, [((y, c), za, zc)], by omega, rfl, rfl, owns_base R2.out (by have := B5z.out.size; omega), ?_, ?_, B5z.out.trans (B2.out.mono B5z.out.size)⟩
                        · intro e he
                          rw [List.mem_singleton] at he
                          rw [he]
                          exact ⟨X5.out, HNL.out⟩
                        · have := STEP.out
                          rw [hi0] at this
                          exact this
                      case measure => simp [intOf]; omega
                    · rw [HLE.out] at e9 hc9
                      injection e9 with e1 e2 e3
                      subst e1
                      subst e3
                      clear e2
                      have RZ2 := RZ
                      rw [show i = E.length from HLE.out.symm] at RZ2
                      have HG1 : Hid (∀ j u, (flt (E.take k))[j]? = some u → wz.cell? ⟨g, 0 + j, none⟩ = some u) := fun j u hu => by
                        rw [Nat.zero_add]
                        refine RowN.cell RZ2 ?_
                        rw [flt_split E k, List.getElem?_append_left (List.getElem?_eq_some_iff.1 hu).1]; exact hu
                      have HG3 : Hid (∀ off, off = k * 2 → ∀ j u, (flt (E.drop k))[j]? = some u → wz.cell? ⟨g, off + j, none⟩ = some u) := fun off ho j u hu => by
                        refine RowN.cell RZ2 ?_
                        have hl : (flt (E.take k)).length = k * 2 := by rw [flt_len, List.length_take, HLE.out, Nat.min_eq_left hk]
                        rw [flt_split E k, List.getElem?_append_right (by rw [hl]; omega), hl, show off + j - k * 2 = j by omega]; exact hu
                      have hlt1 : (E.take k).length = k := by rw [List.length_take, HLE.out, Nat.min_eq_left hk]
                      have hlt3 : (E.drop k).length = i - k := by rw [List.length_drop, HLE.out]
                      unfold maxLen at hm9
                      have hki : (k : Int) ≤ (i : Int) := by omega
                      have hk00' : (0 : Int) ≤ (k : Int) := by omega
                      have HEND : Hid (∀ (v3 : Value) (w3 : World), RowN w3 wz.heap.size v3 (([] ++ E.take k) ++ [((y, c), za, zc)] ++ E.drop k) → Below wz.heap.size wz w3 → ∃ (i' : Nat) (E' : List En), i' ≤ m ∧ Value.int .i64 ((i : Int) + 1) = .int .i64 i' ∧ E'.length = i' ∧ Hid (RowN w3 w5.heap.size v3 E') ∧ Hid (OkN w5 E') ∧ Hid (InsP D F i' (E'.map Prod.fst)) ∧ Hid (Below w5.heap.size w5 w3)) := fun v3 w3 hr hb => by
                        refine ⟨i + 1, ([] ++ E.take k) ++ [((y, c), za, zc)] ++ E.drop k, by omega, by simp, ?_, owns_base hr (by have := B5z.out.size; omega), ?_, ?_, B5z.out.trans (hb.mono B5z.out.size)⟩
                        · rw [List.nil_append, List.length_append, List.length_append, hlt1, hlt3]; simp; omega
                        · intro e he
                          rw [List.nil_append, List.mem_append, List.mem_append, List.mem_singleton] at he
                          rcases he with (h | h) | h
                          · exact hO.out e (List.mem_of_mem_take h)
                          · rw [h]; exact ⟨X5.out, HNL.out⟩
                          · exact hO.out e (List.mem_of_mem_drop h)
                        · have := STEP.out
                          have e : (([] ++ E.take k) ++ [((y, c), za, zc)] ++ E.drop k).map Prod.fst = (E.map Prod.fst).take k ++ (y, c) :: (E.map Prod.fst).drop k := by simp [List.map_take, List.map_drop]
                          show InsP _ _ _ _
                          rw [e]; exact this
                      clear RZ RZ2 STEP
                      have tok1 : True := trivial
                      have tok2 : True := trivial
                      have tok3 : True := trivial
                      by_cases hkc : oc2 = k
                      · have hd0 : Hid (E.drop k = []) := by
                          show _ = _
                          exact List.drop_eq_nil_of_le (by rw [HLE.out]; omega)
                        rw [hd0.out] at HEND
                        subst hkc
                        go_wp2_with (first
                          | (at_builtin; have _t := tok1; refine wpList_append_ens rfl _ _ rfl wz.heap.size (.slice none 0 0) [] rfl R0.out g 0 oc2 _ (E.take oc2) rfl hlt1 HG1.out (by simp; omega) (Nat.le_refl _) ?_; intro v1 w1' hown1 hgrow1 _; have R1 := Lib.hid hown1; have B1' := Lib.hid (grown_below (Below.refl _ _) (Nat.le_refl _) R0.out hgrow1); have hz1 := hgrow1.size; have q2 := (B1'.out.cell (p := ⟨bx, 0, none⟩) hbz).trans q0; have q3 := (B1'.out.cell (p := ⟨bx, 1, none⟩) hbz).trans q1; clear hown1 hgrow1 tok1)
                          | (at_builtin; have _t := tok2; refine wpList_append_ens (w := w1'.alloc (.cells #[.string (mk y), .slice za c.length zc] 36)) rfl _ _ rfl wz.heap.size _ ([] ++ E.take oc2) rfl (World.ownsRow.alloc R1.out _) w1'.heap.size 0 1 1 [((y, c), za, zc)] rfl rfl (ens_one w1' y c za zc _) (by simp; omega) (by simp; omega) ?_; intro v2 w2' hown2 hgrow2 _; have R2 := Lib.hid hown2; have B2' := Lib.hid (grown_below (B1'.out.alloc hz1 _) (by simp; omega) (World.ownsRow.alloc R1.out _) hgrow2); have hz2 := hgrow2.size; clear hown2 hgrow2 tok2)
                          | (at_builtin; have _t := tok3; refine wpList_append_ens rfl _ _ rfl wz.heap.size _ (([] ++ E.take oc2) ++ [((y, c), za, zc)]) rfl R2.out _ _ _ _ [] rfl (by simp) (fun j u hu => by cases hu) (by simp; omega) (by have := B2'.out.size; omega) ?_; intro v3 w3' hown3 hgrow3 _; have R3 := Lib.hid hown3; have B3' := Lib.hid (grown_below B2'.out B2'.out.size R2.out hgrow3); clear hown3 hgrow3 tok3))
                        go_roundw
                        case rel => exact HEND.out v3 w3' R3.out B3'.out
                        case measure => simp [intOf]; omega
                      · have hkc2 : ¬ k = oc2 := fun e => hkc e.symm
                        go_wp2_with (first
                          | (at_builtin; have _t := tok1; refine wpList_append_ens rfl _ _ rfl wz.heap.size (.slice none 0 0) [] rfl R0.out g 0 k _ (E.take k) rfl hlt1 HG1.out (by simp; omega) (Nat.le_refl _) ?_; intro v1 w1' hown1 hgrow1 _; have R1 := Lib.hid hown1; have B1' := Lib.hid (grown_below (Below.refl _ _) (Nat.le_refl _) R0.out hgrow1); have hz1 := hgrow1.size; have q2 := (B1'.out.cell (p := ⟨bx, 0, none⟩) hbz).trans q0; have q3 := (B1'.out.cell (p := ⟨bx, 1, none⟩) hbz).trans q1; clear hown1 hgrow1 tok1)
                          | (at_builtin; have _t := tok2; refine wpList_append_ens (w := w1'.alloc (.cells #[.string (mk y), .slice za c.length zc] 36)) rfl _ _ rfl wz.heap.size _ ([] ++ E.take k) rfl (World.ownsRow.alloc R1.out _) w1'.heap.size 0 1 1 [((y, c), za, zc)] rfl rfl (ens_one w1' y c za zc _) (by simp; omega) (by simp; omega) ?_; intro v2 w2' hown2 hgrow2 _; have R2 := Lib.hid hown2; have B2' := Lib.hid (grown_below (B1'.out.alloc hz1 _) (by simp; omega) (World.ownsRow.alloc R1.out _) hgrow2); have hz2 := hgrow2.size; clear hown2 hgrow2 tok2)
                          | (at_builtin; have _t := tok3; refine wpList_append_ens rfl _ _ rfl wz.heap.size _ (([] ++ E.take k) ++ [((y, c), za, zc)]) rfl R2.out g _ (i - k) (oc2 - k) (E.drop k) rfl hlt3 (fun j u hu => (B2'.out.cell hg).trans (HG3.out _ (by omega) j u hu)) (by simp; omega) (by have := B2'.out.size; omega) ?_; intro v3 w3' hown3 hgrow3 _; have R3 := Lib.hid hown3; have B3' := Lib.hid (grown_below B2'.out B2'.out.size R2.out hgrow3); clear hown3 hgrow3 tok3))
                        go_roundw
                        case rel => exact HEND.out v3 w3' R3.out B3'.out
                        case measure => simp [intOf]; omega
                  · obtain ⟨k', hkk'⟩ : ∃ k', k = k' + 1 := ⟨k - 1, by omega⟩
                    have HKK := Lib.hid hkk'
                    have hd : decide ((0 : Int) < (k : Int)) = true := by rw [decide_eq_true_iff]; omega
                    have hdn : decide (0 < k) = true := by rw [decide_eq_true_iff]; omega
                    have hdp : 0 < k := by omega
                    have hkm : (k : Int) - 1 = (k' : Int) := by omega
                    have hki' : k' < i := by omega
                    have hwr : IntKind.i64.wrap (k' : Int) = (k' : Int) := IntWalk.i64_in _ (by omega)
                    have hkx0 : (0 : Int) ≤ (k : Int) - 1 := by omega
                    have hkx1 : (k : Int) - 1 < (i : Int) := by omega
                    clear hk00 hkk'
                    have hkE : k' < E.length := by rw [HLE.out]; exact hki'
                    have he := List.getElem?_eq_getElem hkE
                    obtain ⟨e, hee⟩ : ∃ e, E[k'] = e := ⟨_, rfl⟩
                    rw [hee] at he
                    obtain ⟨⟨es, ec⟩, ea, ecp⟩ := e
                    obtain ⟨v0, v1⟩ := flt_at E k' _ he
                    obtain ⟨o64, ol⟩ := hO.out _ (List.mem_of_getElem? he)
                    have hmap : (E.map Prod.fst)[k']? = some (es, ec) := by rw [List.getElem?_map, he]; rfl
                    have hec : ec.length ≤ 64 := HEC.out _ (List.mem_of_getElem? hmap)
                    have RK := R7.out.below hb8.out
                    rcases RK.form with ⟨-, hE0⟩ | ⟨g, cap9, e9, hBg, hg, hc9, hm9⟩
                    · rw [hE0] at hkE; exact absurd hkE (Nat.not_lt_zero _)
                    · rw [HLE.out] at e9 hc9
                      injection e9 with e1 e2 e3
                      subst e1
                      subst e3
                      have RK2 := RK
                      rw [show i = E.length from HLE.out.symm] at RK2
                      have d0 := RowN.cell RK2 v0
                      have d1 := RowN.cell RK2 v1
                      have BK := Lib.hid (B7.out.trans (hb8.out.mono B7.out.size))
                      have BF := Lib.hid (rBefore_any wk.drew (y, c) (es, ec) za ea zc ecp (X5.out.below BK.out.drew) (o64.below BK.out.drew) hcl64 hec)
                      have yk0 := (hb8.out.cell (p := ⟨bx, 0, none⟩) hbx).trans y0
                      have yk1 := (hb8.out.cell (p := ⟨bx, 1, none⟩) hbx).trans y1
                      have hkm0 : (0 : Int) ≤ (k' : Int) := by omega
                      have hkm1 : (k' : Int) < (i : Int) := by omega
                      have hbxk : bx < wk.heap.size := Nat.lt_of_lt_of_le hbx hb8.out.size
                      clear he v0 v1 o64 hkE hee RK RK2 e2
                      unfold maxLen at hm9
                      by_cases hbe : bef (y, c) (es, ec)
                      · rw [decide_eq_true hbe] at BF
                        have HBE := Lib.hid hbe
                        have HMP := Lib.hid hmap
                        clear hbe hmap
                        go_wp2_with fail
                        go_region_held3 (fun w' => w'.cell? ⟨bx, 0, none⟩ = some (.string (mk y)) ∧ w'.cell? ⟨bx, 1, none⟩ = some (.slice za c.length zc) ∧ w'.cell? ⟨g, k' * 2, none⟩ = some (.string (mk es)) ∧ w'.cell? ⟨g, k' * 2 + 1, none⟩ = some (.slice ea ec.length ecp)) (first | (go_keep; done) | exact ⟨yk0, yk1, d0, d1⟩ | exact ⟨f0, f1, f2, f3⟩) ((go_at_call 53; refine BF.out.mono ?_; rintro e w8 ⟨rfl, hb9⟩; have hb9 := (Below.refl _ wk).drew.trans hb9; have f0 := (hb9.cell (p := ⟨bx, 0, none⟩) hbxk).trans yk0; have f1 := (hb9.cell (p := ⟨bx, 1, none⟩) hbxk).trans yk1; have f2 := (hb9.cell (p := ⟨g, k' * 2, none⟩) hg).trans d0; have f3 := (hb9.cell (p := ⟨g, k' * 2 + 1, none⟩) hg).trans d1; have B9 := Lib.hid (hb8.out.trans (hb9.mono hb8.out.size)); clear hb9))
                        go_wp2
                        go_roundw
                        case rel =>
                          refine ⟨k', by omega, by simp [hkm], ?_, B9.out⟩
                          intro z hz
                          have e : (E.map Prod.fst).drop k' = (es, ec) :: (E.map Prod.fst).drop k := by
                            rw [HKK.out]
                            obtain ⟨hk2, e2⟩ := List.getElem?_eq_some_iff.1 HMP.out
                            rw [List.drop_eq_getElem_cons hk2, e2]
                          rw [e] at hz
                          rcases List.mem_cons.1 hz with h | h
                          · rw [h]; exact HBE.out
                          · exact hall.out z h
                        case measure => have := HKK.out; simp [intOf]; omega
                      · rw [decide_eq_false hbe] at BF
                        have HSTOP : Hid (k = 0 ∨ ∃ z, (E.map Prod.fst)[k - 1]? = some z ∧ ¬ bef (y, c) z) := .inr ⟨(es, ec), by rw [HKK.out]; exact hmap, hbe⟩
                        clear hbe hmap
                        go_wp2_with fail
                        go_region_held3 (fun w' => w'.cell? ⟨bx, 0, none⟩ = some (.string (mk y)) ∧ w'.cell? ⟨bx, 1, none⟩ = some (.slice za c.length zc) ∧ w'.cell? ⟨g, k' * 2, none⟩ = some (.string (mk es)) ∧ w'.cell? ⟨g, k' * 2 + 1, none⟩ = some (.slice ea ec.length ecp)) (first | (go_keep; done) | exact ⟨yk0, yk1, d0, d1⟩ | exact ⟨f0, f1, f2, f3⟩) ((go_at_call 53; refine BF.out.mono ?_; rintro e wz ⟨rfl, hb9⟩; have hb9 := (Below.refl _ wk).drew.trans hb9; have f0 := (hb9.cell (p := ⟨bx, 0, none⟩) hbxk).trans yk0; have f1 := (hb9.cell (p := ⟨bx, 1, none⟩) hbxk).trans yk1; have f2 := (hb9.cell (p := ⟨g, k' * 2, none⟩) hg).trans d0; have f3 := (hb9.cell (p := ⟨g, k' * 2 + 1, none⟩) hg).trans d1; have B8 := Lib.hid (hb8.out.trans (hb9.mono hb8.out.size)); clear hb9))
                        have hstop := HSTOP.out
                        clear d0 d1 f0 f1 f2 f3 yk0 yk1 hBg hg hc9 hm9 hkm hkm0 hkm1 hwr hkx0 hkx1 hd hdn hdp hki' BF BK HSTOP
                        have RZ := R7.out.below B8.out
                        have q0 := (B8.out.cell (p := ⟨bx, 0, none⟩) hbx).trans y0
                        have q1 := (B8.out.cell (p := ⟨bx, 1, none⟩) hbx).trans y1
                        have hbz : bx < wz.heap.size := Nat.lt_of_lt_of_le hbx B8.out.size
                        have STEP := Lib.hid (HIN.out k hall.out hstop)
                        have R0 := Lib.hid (RowN.empty wz wz.heap.size)
                        have B5z := Lib.hid (B7.out.trans (B8.out.mono B7.out.size))
                        clear hstop
                        rcases RZ.form with ⟨e9, hE0⟩ | ⟨g, cap9, e9, hBg, hg, hc9, hm9⟩
                        · exact absurd e9 (by intro h; injection h with h1; cases h1)
                        · rw [HLE.out] at e9 hc9
                          injection e9 with e1 _ e3
                          injection e1 with e1
                          injection e1 with e1
                          subst e1
                          subst e3
                          have RZ2 := RZ
                          rw [show i = E.length from HLE.out.symm] at RZ2
                          have HG1 : Hid (∀ j u, (flt (E.take k))[j]? = some u → wz.cell? ⟨g, 0 + j, none⟩ = some u) := fun j u hu => by
                            rw [Nat.zero_add]
                            refine RowN.cell RZ2 ?_
                            rw [flt_split E k, List.getElem?_append_left (List.getElem?_eq_some_iff.1 hu).1]; exact hu
                          have HG3 : Hid (∀ off, off = k * 2 → ∀ j u, (flt (E.drop k))[j]? = some u → wz.cell? ⟨g, off + j, none⟩ = some u) := fun off ho j u hu => by
                            refine RowN.cell RZ2 ?_
                            have hl : (flt (E.take k)).length = k * 2 := by rw [flt_len, List.length_take, HLE.out, Nat.min_eq_left hk]
                            rw [flt_split E k, List.getElem?_append_right (by rw [hl]; omega), hl, show off + j - k * 2 = j by omega]; exact hu
                          have hlt1 : (E.take k).length = k := by rw [List.length_take, HLE.out, Nat.min_eq_left hk]
                          have hlt3 : (E.drop k).length = i - k := by rw [List.length_drop, HLE.out]
                          unfold maxLen at hm9
                          have hki : (k : Int) ≤ (i : Int) := by omega
                          have hk00' : (0 : Int) ≤ (k : Int) := by omega
                          have HEND : Hid (∀ (v3 : Value) (w3 : World), RowN w3 wz.heap.size v3 (([] ++ E.take k) ++ [((y, c), za, zc)] ++ E.drop k) → Below wz.heap.size wz w3 → ∃ (i' : Nat) (E' : List En), i' ≤ m ∧ Value.int .i64 ((i : Int) + 1) = .int .i64 i' ∧ E'.length = i' ∧ Hid (RowN w3 w5.heap.size v3 E') ∧ Hid (OkN w5 E') ∧ Hid (InsP D F i' (E'.map Prod.fst)) ∧ Hid (Below w5.heap.size w5 w3)) := fun v3 w3 hr hb => by
                            refine ⟨i + 1, ([] ++ E.take k) ++ [((y, c), za, zc)] ++ E.drop k, by omega, by simp, ?_, owns_base hr (by have := B5z.out.size; omega), ?_, ?_, B5z.out.trans (hb.mono B5z.out.size)⟩
                            · rw [List.nil_append, List.length_append, List.length_append, hlt1, hlt3]; simp; omega
                            · intro e he
                              rw [List.nil_append, List.mem_append, List.mem_append, List.mem_singleton] at he
                              rcases he with (h | h) | h
                              · exact hO.out e (List.mem_of_mem_take h)
                              · rw [h]; exact ⟨X5.out, HNL.out⟩
                              · exact hO.out e (List.mem_of_mem_drop h)
                            · have := STEP.out
                              have e : (([] ++ E.take k) ++ [((y, c), za, zc)] ++ E.drop k).map Prod.fst = (E.map Prod.fst).take k ++ (y, c) :: (E.map Prod.fst).drop k := by simp [List.map_take, List.map_drop]
                              show InsP _ _ _ _
                              rw [e]; exact this
                          clear RZ RZ2 STEP
                          have tok1 : True := trivial
                          have tok2 : True := trivial
                          have tok3 : True := trivial
                          by_cases hkc : oc2 = k
                          · have hd0 : Hid (E.drop k = []) := by
                              show _ = _
                              exact List.drop_eq_nil_of_le (by rw [HLE.out]; omega)
                            rw [hd0.out] at HEND
                            subst hkc
                            go_wp2_with (first
                              | (at_builtin; have _t := tok1; refine wpList_append_ens rfl _ _ rfl wz.heap.size (.slice none 0 0) [] rfl R0.out g 0 oc2 _ (E.take oc2) rfl hlt1 HG1.out (by simp; omega) (Nat.le_refl _) ?_; intro v1 w1' hown1 hgrow1 _; have R1 := Lib.hid hown1; have B1' := Lib.hid (grown_below (Below.refl _ _) (Nat.le_refl _) R0.out hgrow1); have hz1 := hgrow1.size; have q2 := (B1'.out.cell (p := ⟨bx, 0, none⟩) hbz).trans q0; have q3 := (B1'.out.cell (p := ⟨bx, 1, none⟩) hbz).trans q1; clear hown1 hgrow1 tok1)
                              | (at_builtin; have _t := tok2; refine wpList_append_ens (w := w1'.alloc (.cells #[.string (mk y), .slice za c.length zc] 36)) rfl _ _ rfl wz.heap.size _ ([] ++ E.take oc2) rfl (World.ownsRow.alloc R1.out _) w1'.heap.size 0 1 1 [((y, c), za, zc)] rfl rfl (ens_one w1' y c za zc _) (by simp; omega) (by simp; omega) ?_; intro v2 w2' hown2 hgrow2 _; have R2 := Lib.hid hown2; have B2' := Lib.hid (grown_below (B1'.out.alloc hz1 _) (by simp; omega) (World.ownsRow.alloc R1.out _) hgrow2); have hz2 := hgrow2.size; clear hown2 hgrow2 tok2)
                              | (at_builtin; have _t := tok3; refine wpList_append_ens rfl _ _ rfl wz.heap.size _ (([] ++ E.take oc2) ++ [((y, c), za, zc)]) rfl R2.out _ _ _ _ [] rfl (by simp) (fun j u hu => by cases hu) (by simp; omega) (by have := B2'.out.size; omega) ?_; intro v3 w3' hown3 hgrow3 _; have R3 := Lib.hid hown3; have B3' := Lib.hid (grown_below B2'.out B2'.out.size R2.out hgrow3); clear hown3 hgrow3 tok3))
                            go_roundw
                            case rel => exact HEND.out v3 w3' R3.out B3'.out
                            case measure => simp [intOf]; omega
                          · have hkc2 : ¬ k = oc2 := fun e => hkc e.symm
                            go_wp2_with (first
                              | (at_builtin; have _t := tok1; refine wpList_append_ens rfl _ _ rfl wz.heap.size (.slice none 0 0) [] rfl R0.out g 0 k _ (E.take k) rfl hlt1 HG1.out (by simp; omega) (Nat.le_refl _) ?_; intro v1 w1' hown1 hgrow1 _; have R1 := Lib.hid hown1; have B1' := Lib.hid (grown_below (Below.refl _ _) (Nat.le_refl _) R0.out hgrow1); have hz1 := hgrow1.size; have q2 := (B1'.out.cell (p := ⟨bx, 0, none⟩) hbz).trans q0; have q3 := (B1'.out.cell (p := ⟨bx, 1, none⟩) hbz).trans q1; clear hown1 hgrow1 tok1)
                              | (at_builtin; have _t := tok2; refine wpList_append_ens (w := w1'.alloc (.cells #[.string (mk y), .slice za c.length zc] 36)) rfl _ _ rfl wz.heap.size _ ([] ++ E.take k) rfl (World.ownsRow.alloc R1.out _) w1'.heap.size 0 1 1 [((y, c), za, zc)] rfl rfl (ens_one w1' y c za zc _) (by simp; omega) (by simp; omega) ?_; intro v2 w2' hown2 hgrow2 _; have R2 := Lib.hid hown2; have B2' := Lib.hid (grown_below (B1'.out.alloc hz1 _) (by simp; omega) (World.ownsRow.alloc R1.out _) hgrow2); have hz2 := hgrow2.size; clear hown2 hgrow2 tok2)
                              | (at_builtin; have _t := tok3; refine wpList_append_ens rfl _ _ rfl wz.heap.size _ (([] ++ E.take k) ++ [((y, c), za, zc)]) rfl R2.out g _ (i - k) (oc2 - k) (E.drop k) rfl hlt3 (fun j u hu => (B2'.out.cell hg).trans (HG3.out _ (by omega) j u hu)) (by simp; omega) (by have := B2'.out.size; omega) ?_; intro v3 w3' hown3 hgrow3 _; have R3 := Lib.hid hown3; have B3' := Lib.hid (grown_below B2'.out B2'.out.size R2.out hgrow3); clear hown3 hgrow3 tok3))
                            go_roundw
                            case rel => exact HEND.out v3 w3' R3.out B3'.out
                            case measure => simp [intOf]; omega
            · obtain rfl : m = i := by omega
              have hT := HOT.out
              have hPP := hP.out
              rw [← HFL.out] at hPP
              have eT := hPP.end (acc_of HC.out) (fun x => by rw [HCL.out, mem_fam (acc_of HC.out)])
              rw [eT] at hT
              have hl := hT.len
              have HTT := Lib.hid hT
              have HFE : Hid ((fam D).length ≤ 256) := by
                show _ ≤ _
                rw [← tys_len (acc_of HC.out), hl]; exact hle
              have HLL := Lib.hid hl
              clear hT hPP eT hl hP hR hO
              go_wp2
              go_ret2
              refine ⟨B5.out.trans (hb.out.mono B5.out.size), .inr (.inl ⟨HC.out, HFE.out, oa2, oc2, ?_, ?_⟩)⟩
              · rw [HLL.out]; rfl
              · rw [HLL.out]; exact HTT.out
        · have hf1 : (256 : Int) < (F.length : Int) := by omega
          have HL : Hid (256 < (fam D).length) := by
            have h2 := nodup_len_g hnd (fun x hx => (mem_fam (acc_of HC.out)).2 (hfam x hx))
            show _ < _
            omega
          go_wp2
          go_ret2
          exact ⟨B5.out, .inr (.inr ⟨HC.out, HL.out, rfl⟩)⟩
  · have HC := Lib.hid hc
    have hz : ((chkN D : Nat) : Int) ≠ 0 := by omega
    have hz1 : (((chkN D : Nat) : Int) != 0) = true := by simpa using hc
    clear hc
    obtain ⟨q, hq⟩ : ∃ q, ((chkN D : Nat) : Int) = q := ⟨_, rfl⟩
    have HQ := Lib.hid hq
    rw [hq] at CK hz hz1
    clear hq
    go_enter Tryz.func15, Tryz.ntmps15
    go_wp2_with fail
    refine CK.out.mono ?_
    rintro e w1 ⟨rfl, hb1⟩
    go_wp2
    go_ret2
    exact ⟨hb1, .inl ⟨HC.out, by rw [HQ.out]; rfl⟩⟩
end Go.Proofs.YtdeamdpoegdmdaaGreatDoor

/- The reference of layer 4: Same. -/
namespace Go.Proofs.YtdeamdpoegdmdaaGreatDoor
open Go.RowKit Go.Maps Go.Shelf
open S (wd Is64 Fresh bit)

set_option maxRecDepth 100000 in
set_option maxHeartbeats 1600000 in
theorem rSameT_any (w : World) (a1 a2 : Option Addr) (n cap1 cap2 : Nat) (L : List Ty) (h1 : IsTys w a1 n cap1 L) (h2 : IsTys w a2 n cap2 L) :
    Calls Tryz.prog 16 #[.slice a1 n cap1, .slice a2 n cap2] w fun e w' => e = .returned (.bool true) ∧ Below w.heap.size w w' := by
  have H1 := Lib.hid h1
  have H2 := Lib.hid h2
  have m1 := h1.maxLe
  have c1 := h1.capLe
  unfold maxLen at m1
  have m2 := h2.maxLe
  have c2 := h2.capLe
  unfold maxLen at m2
  clear h1 h2
  go_enter Tryz.func16, Tryz.ntmps16
  go_wp2
  go_loopw [5] (fun v wr => ∃ k : Nat, k ≤ n ∧ v = .int .i64 k ∧ Hid (Below w.heap.size w wr)) (fun v _ => n - (intOf v).toNat)
  case atStart => exact ⟨0, Nat.zero_le _, rfl, Below.refl _ _⟩
  case round =>
    obtain ⟨k, hk, rfl, hB⟩ := hrel
    by_cases hlt : k < n
    · obtain ⟨b1, o1, rfl, hb1, hx1⟩ := (H1.out.below hB.out).at_ (by omega)
      obtain ⟨b2, o2, rfl, hb2, hx2⟩ := (H2.out.below hB.out).at_ (by omega)
      obtain ⟨xa, xc, hx⟩ := hx1 k hlt
      obtain ⟨ya, yc, hy⟩ := hx2 k hlt
      have d0 := hx.c0
      have d1 := hx.c1
      have e0 := hy.c0
      have e1 := hy.c1
      have SM := Lib.hid (S.Same_any wr.drew xa ya _ _ xc yc _ _ (hx.is.below (Below.refl _ wr).drew) (hy.is.below (Below.refl _ wr).drew))
      unfold S.sameB at SM
      rw [decide_eq_true rfl] at SM
      have hk0 : (0 : Int) ≤ (k : Int) := by omega
      have hk1 : (k : Int) < (n : Int) := by omega
      clear hx1 hx2 hx hy
      have BD := hB.out.drew
      have hs : ((mk (ty L k).1).toList == (mk (ty L k).1).toList) = true := by simp
      go_wp2_with fail
      go_region_held3 (fun w' => w'.cell? ⟨b1, o1 + k * 2, none⟩ = some (.string (mk (ty L k).1)) ∧ w'.cell? ⟨b1, o1 + k * 2 + 1, none⟩ = some (.slice xa (ty L k).2.length xc) ∧ w'.cell? ⟨b2, o2 + k * 2, none⟩ = some (.string (mk (ty L k).1)) ∧ w'.cell? ⟨b2, o2 + k * 2 + 1, none⟩ = some (.slice ya (ty L k).2.length yc)) (first | exact ⟨d0, d1, e0, e1⟩ | exact ⟨f0, f1, g0, g1⟩) ((go_at_call 54; (with_reducible refine SM.out.mono ?_); rintro e w2 ⟨rfl, hb3⟩; have B2 := Lib.hid (BD.trans (hb3.mono BD.size)); have f0 := (hb3.cell (p := ⟨b1, o1 + k * 2, none⟩) hb1).trans d0; have f1 := (hb3.cell (p := ⟨b1, o1 + k * 2 + 1, none⟩) hb1).trans d1; have g0 := (hb3.cell (p := ⟨b2, o2 + k * 2, none⟩) hb2).trans e0; have g1 := (hb3.cell (p := ⟨b2, o2 + k * 2 + 1, none⟩) hb2).trans e1; clear hb3))
      go_wp2
      go_roundw
      case rel => exact ⟨k + 1, by omega, by go_num, B2.out⟩
      case measure => simp [intOf]; omega
    · obtain rfl : n = k := by omega
      go_wp2
      go_ret
      exact ⟨rfl, hB.out⟩
end Go.Proofs.YtdeamdpoegdmdaaGreatDoor

/- closure: the example of the chapter. -/
namespace Go.Proofs.YtdeamdpoegdmdaaGreatDoor
open Go.RowKit Go.Maps Go.Shelf
open S (wd Is64 Fresh bit SAnd IsInt ints wi)

theorem nz_nf {c : Cd} (h : S.WB c) : NfS c (c.take (S.nlen c c.length)) := by
  have hl : (c.take (S.nlen c c.length)).length = S.nlen c c.length := by
    rw [List.length_take]; exact Nat.min_eq_left (S.nlen_le _ _)
  have hw : ∀ i, wd (c.take (S.nlen c c.length)) i = wd c i := fun i => by
    rcases Nat.lt_or_ge i (S.nlen c c.length) with g | g
    · exact S.wd_take _ _ _ g
    · rw [S.wd_out _ _ (by omega)]
      rcases Nat.lt_or_ge i c.length with g2 | g2
      · exact (S.nlen_top c c.length i g g2).symm
      · rw [S.wd_out _ _ g2]
  refine ⟨h, ⟨fun h0 => ?_, fun i => ?_⟩, fun i => ?_⟩
  · rw [hl] at h0 ⊢
    rw [hw]
    exact S.nlen_last c c.length h0
  · rw [hw]; exact h i
  · unfold S.bit; rw [hw]

def ex5 : List Dec := [⟨[116], [], 0⟩, ⟨[97], [[116]], 0⟩, ⟨[98], [[116]], 0⟩, ⟨[99], [[97], [98]], 0⟩, ⟨[100], [[97], [98]], 0⟩]
def ex6 : List Ty := [([116], [31]), ([97], [13]), ([98], [14]), ([99, 38, 100], [12]), ([99], [4]), ([100], [8])]
theorem ex5_chk : chkN ex5 = 0 := by unfold chkN chk; rw [plc_eq]; decide +kernel
theorem ex5_tys : tys ex5 = ex6 := by decide +kernel
theorem ex5_fam : (fam ex5).length ≤ 256 := by
  rw [← tys_len (acc_of ex5_chk), ex5_tys]; decide
theorem ex6_ok : Tys ex6 := by rw [← ex5_tys]; exact tys_tys (acc_of ex5_chk)
theorem ex6_S : ∀ d ∈ ex6, IsS d.2 ∧ d.2.length ≤ 64 := fun d hd => ⟨(ex6_ok.ok d hd).1, (ex6_ok.ok d hd).2.2⟩
/-- A declaration. -/
theorem decl4 (w : World) (s : ByteArray) (a : Option Addr) (n c : Nat) :
    Calls Tryz.prog 37 #[.string s, .slice a n c] w fun e w' => e = .returned (.agg #[.string s, .slice a n c, .slice none 0 0]) ∧ Below w.heap.size w w' := by
  go_enter Tryz.func37, Tryz.ntmps37
  go_wp2
  refine bodyPost_ret (results_cell_row rfl _ _ w.heap.size 53 #[.string s, .slice a n c, .slice none 0 0] (0, 0) _ rfl (heap_alloc_new w _) Tryz.underlying53 rfl (by kernel_rfl)) rfl ?_
  exact ⟨rfl, ba _ _⟩
theorem lit4 (w : World) (zs : List Str) (hs : ∀ z ∈ zs, z.length ≤ maxLen) (hl : zs.length ≤ maxLen) (h0 : 0 < zs.length) : IsStrs (w.alloc (.cells (svals zs).toArray 9)) (some ⟨w.heap.size, 0, none⟩) zs.length zs.length zs := lit_at w zs hs hl _ rfl h0
/-- The literal of declarations. -/
theorem ex5_is (w : World) (a1 a2 a3 a4 : Option Addr) (s1 : IsStrs w a1 1 1 [[116]]) (s2 : IsStrs w a2 1 1 [[116]]) (s3 : IsStrs w a3 2 2 [[97], [98]]) (s4 : IsStrs w a4 2 2 [[97], [98]]) :
    IsDecs (w.alloc (.cells #[exS 116, .slice none 0 0, .slice none 0 0, exS 97, .slice a1 1 1, .slice none 0 0, exS 98, .slice a2 1 1, .slice none 0 0, exS 99, .slice a3 2 2, .slice none 0 0, exS 100, .slice a4 2 2, .slice none 0 0] 53)) (some ⟨w.heap.size, 0, none⟩) 5 5 ex5 := by
  refine ⟨rfl, Nat.le_refl _, by decide, fun _ => ⟨_, _, rfl, by simp, fun i hi => ?_⟩⟩
  rcases i with _ | _ | _ | _ | _ | i
  · exact ⟨none, 0, none, 0, dec_new w _ _ _ 0 rfl (dc ex5 0) _ _ rfl rfl rfl (IsStrs.nil _) rfl (by decide)⟩
  · exact ⟨a1, 1, none, 0, dec_new w _ _ _ 3 rfl (dc ex5 1) _ _ rfl rfl rfl s1 rfl (by decide)⟩
  · exact ⟨a2, 1, none, 0, dec_new w _ _ _ 6 rfl (dc ex5 2) _ _ rfl rfl rfl s2 rfl (by decide)⟩
  · exact ⟨a3, 2, none, 0, dec_new w _ _ _ 9 rfl (dc ex5 3) _ _ rfl rfl rfl s3 rfl (by decide)⟩
  · exact ⟨a4, 2, none, 0, dec_new w _ _ _ 12 rfl (dc ex5 4) _ _ rfl rfl rfl s4 rfl (by decide)⟩
  · omega
theorem set1 (w : World) (k : Nat) (hk : k < 18446744073709551616) (t : TypeId) : Is64 (w.alloc (.cells #[.int .u64 (k : Int)] t)) (some ⟨w.heap.size, 0, none⟩) 1 1 [k] :=
  ⟨rfl, Nat.le_refl _, by decide, (fun i hi => by obtain rfl : i = 0 := by omega
                                                  exact hk), (fun _ => ⟨_, _, rfl, by simp, fun i hi => by
    obtain rfl : i = 0 := by omega
    rw [World.cell?_alloc_new]; rfl⟩), fun e => by cases e⟩
/-- The literal of types. -/
theorem ex6_is (w : World) (p0 p1 p2 p3 p4 p5 : Option Addr) (s0 : Is64 w p0 1 1 [31]) (s1 : Is64 w p1 1 1 [13]) (s2 : Is64 w p2 1 1 [14]) (s3 : Is64 w p3 1 1 [12]) (s4 : Is64 w p4 1 1 [4]) (s5 : Is64 w p5 1 1 [8]) :
    IsTys (w.alloc (.cells #[exS 116, .slice p0 1 1, exS 97, .slice p1 1 1, exS 98, .slice p2 1 1, .string ⟨#[99, 38, 100]⟩, .slice p3 1 1, exS 99, .slice p4 1 1, exS 100, .slice p5 1 1] 36)) (some ⟨w.heap.size, 0, none⟩) 6 6 ex6 := by
  refine ⟨rfl, Nat.le_refl _, by decide, fun _ => ⟨_, _, rfl, by simp, fun i hi => ?_⟩⟩
  have hb := ba w (.cells #[exS 116, .slice p0 1 1, exS 97, .slice p1 1 1, exS 98, .slice p2 1 1, .string ⟨#[99, 38, 100]⟩, .slice p3 1 1, exS 99, .slice p4 1 1, exS 100, .slice p5 1 1] 36)
  rcases i with _ | _ | _ | _ | _ | _ | i
  · exact ⟨p0, 1, by rw [World.cell?_alloc_new]; rfl, by rw [World.cell?_alloc_new]; rfl, s0.below hb, by decide⟩
  · exact ⟨p1, 1, by rw [World.cell?_alloc_new]; rfl, by rw [World.cell?_alloc_new]; rfl, s1.below hb, by decide⟩
  · exact ⟨p2, 1, by rw [World.cell?_alloc_new]; rfl, by rw [World.cell?_alloc_new]; rfl, s2.below hb, by decide⟩
  · exact ⟨p3, 1, by rw [World.cell?_alloc_new]; rfl, by rw [World.cell?_alloc_new]; rfl, s3.below hb, by decide⟩
  · exact ⟨p4, 1, by rw [World.cell?_alloc_new]; rfl, by rw [World.cell?_alloc_new]; rfl, s4.below hb, by decide⟩
  · exact ⟨p5, 1, by rw [World.cell?_alloc_new]; rfl, by rw [World.cell?_alloc_new]; rfl, s5.below hb, by decide⟩
  · omega
theorem set1b (w : World) (k b : Nat) (hb : b = w.heap.size) (hk : k < 18446744073709551616) (t : TypeId) : Is64 (w.alloc (.cells #[.int .u64 (k : Int)] t)) (some ⟨b, 0, none⟩) 1 1 [k] := hb ▸ set1 w k hk t
abbrev exC (k : Int) : Obj := .cells #[.int .u64 k] 37
abbrev exW6 (w : World) : World := (((((w.alloc (exC 31)).alloc (exC 13)).alloc (exC 14)).alloc (exC 12)).alloc (exC 4)).alloc (exC 8)
theorem exW6_is (w : World) : IsTys ((exW6 w).alloc (.cells #[exS 116, .slice (some ⟨w.heap.size, 0, none⟩) 1 1, exS 97, .slice (some ⟨w.heap.size + 1, 0, none⟩) 1 1, exS 98, .slice (some ⟨w.heap.size + 1 + 1, 0, none⟩) 1 1, .string ⟨#[99, 38, 100]⟩, .slice (some ⟨w.heap.size + 1 + 1 + 1, 0, none⟩) 1 1, exS 99, .slice (some ⟨w.heap.size + 1 + 1 + 1 + 1, 0, none⟩) 1 1, exS 100, .slice (some ⟨w.heap.size + 1 + 1 + 1 + 1 + 1, 0, none⟩) 1 1] 36)) (some ⟨w.heap.size + 1 + 1 + 1 + 1 + 1 + 1, 0, none⟩) 6 6 ex6 ∧ Below w.heap.size w (exW6 w) := by
  have s0 := (((((set1b w 31 w.heap.size rfl (by decide) 37).below (ba _ (exC 13))).below (ba _ (exC 14))).below (ba _ (exC 12))).below (ba _ (exC 4))).below (ba _ (exC 8))
  have s1 := ((((set1b (w.alloc (exC 31)) 13 (w.heap.size + 1) (by simp) (by decide) 37).below (ba _ (exC 14))).below (ba _ (exC 12))).below (ba _ (exC 4))).below (ba _ (exC 8))
  have s2 := (((set1b ((w.alloc (exC 31)).alloc (exC 13)) 14 (w.heap.size + 1 + 1) (by simp) (by decide) 37).below (ba _ (exC 12))).below (ba _ (exC 4))).below (ba _ (exC 8))
  have s3 := ((set1b (((w.alloc (exC 31)).alloc (exC 13)).alloc (exC 14)) 12 (w.heap.size + 1 + 1 + 1) (by simp) (by decide) 37).below (ba _ (exC 4))).below (ba _ (exC 8))
  have s4 := (set1b ((((w.alloc (exC 31)).alloc (exC 13)).alloc (exC 14)).alloc (exC 12)) 4 (w.heap.size + 1 + 1 + 1 + 1) (by simp) (by decide) 37).below (ba _ (exC 8))
  have s5 := set1b (((((w.alloc (exC 31)).alloc (exC 13)).alloc (exC 14)).alloc (exC 12)).alloc (exC 4)) 8 (w.heap.size + 1 + 1 + 1 + 1 + 1) (by simp) (by decide) 37
  have e : w.heap.size + 1 + 1 + 1 + 1 + 1 + 1 = (exW6 w).heap.size := by simp
  refine ⟨?_, ?_⟩
  · rw [e]
    exact ex6_is (exW6 w) _ _ _ _ _ _ s0 s1 s2 s3 s4 s5
  · refine ((((((Below.refl _ _).alloc ?_ _).alloc ?_ _).alloc ?_ _).alloc ?_ _).alloc ?_ _).alloc ?_ _ <;> (simp; try omega)
theorem Codes_eq {D : List Dec} {w w' : World} {e : Ending} (h : CodesPost D w e w') (hc : chkN D = 0) (hf : (fam D).length ≤ 256) (L : List Ty) (hL : tys D = L) : ∃ a c, e = .returned (.tuple #[.slice a L.length c, .int .i64 0]) ∧ IsTys w' a L.length c L ∧ Below w.heap.size w w' := by
  subst hL
  obtain ⟨hb, ⟨h1, _⟩ | ⟨_, _, a, c, e1, h2⟩ | ⟨_, h3, _⟩⟩ := h
  · exact absurd hc h1
  · exact ⟨a, c, e1, h2, hb⟩
  · omega
theorem ints2 (w : World) (x y : Nat) (hx : x < 1000) (hy : y < 1000) : IsInt (w.alloc (.cells #[.int .i64 (x : Int), .int .i64 (y : Int)] 3)) (some ⟨w.heap.size, 0, none⟩) 2 2 (ints [x, y]) := by
  refine ⟨rfl, Nat.le_refl _, by decide, fun i hi => ?_, fun _ => ⟨_, _, rfl, by simp, fun i hi => ?_⟩⟩
  · rcases i with _ | _ | i
    · simp [S.wi, S.ints]; omega
    · simp [S.wi, S.ints]; omega
    · omega
  · rcases i with _ | _ | i
    · rw [World.cell?_alloc_new]; rfl
    · rw [World.cell?_alloc_new]; rfl
    · omega
theorem ints1 (w : World) (x : Nat) (hx : x < 1000) : IsInt (w.alloc (.cells #[.int .i64 (x : Int)] 3)) (some ⟨w.heap.size, 0, none⟩) 1 1 (ints [x]) := by
  refine ⟨rfl, Nat.le_refl _, by decide, fun i hi => ?_, fun _ => ⟨_, _, rfl, by simp, fun i hi => ?_⟩⟩
  · obtain rfl : i = 0 := by omega
    simp [S.wi, S.ints]; omega
  · obtain rfl : i = 0 := by omega
    rw [World.cell?_alloc_new]; rfl
theorem set2 (w : World) (t : TypeId) : Is64 (w.alloc (.cells #[.int .u64 12, .int .u64 0] t)) (some ⟨w.heap.size, 0, none⟩) 2 2 [12, 0] := by
  refine ⟨rfl, Nat.le_refl _, by decide, fun i hi => ?_, (fun _ => ⟨_, _, rfl, by simp, fun i hi => ?_⟩), fun e => by cases e⟩
  · rcases i with _ | _ | i
    · decide
    · decide
    · omega
  · rcases i with _ | _ | i
    · rw [World.cell?_alloc_new]; rfl
    · rw [World.cell?_alloc_new]; rfl
    · omega
theorem wb_of {l : List Nat} (h : ∀ x ∈ l, x < 18446744073709551616) : S.WB l := fun i => S.wd_lt_of h i

theorem Meet_val (r : Int) (w : World) (a : Option Addr) (n cap : Nat) (L : List Ty) (h : IsTys w a n cap L) (hn : n ≤ 100000) (hC : ∀ d ∈ L, IsS d.2 ∧ d.2.length ≤ 64) (i j : Nat) (hi : i < n) (hj : j < n) (hr : ixS (L.map Prod.snd) (SAnd (ty L i).2 (ty L j).2) = r) :
    Calls Tryz.prog 20 #[.slice a n cap, .int .i64 i, .int .i64 j] w fun e w' => e = .returned (.int .i64 r) ∧ Below w.heap.size w w' := hr ▸ Meet_any w a n cap L h hn hC i j hi hj
theorem Join_val (r : Nat) (w : World) (a : Option Addr) (n cap : Nat) (L : List Ty) (h : IsTys w a n cap L) (i j : Nat) (hi : i < n) (hj : j < n) (hr : jn2 L i j = r) :
    Calls Tryz.prog 22 #[.slice a n cap, .int .i64 i, .int .i64 j] w fun e w' => e = .returned (.int .i64 (r : Int)) ∧ Below w.heap.size w w' := hr ▸ Join_any w a n cap L h i j hi hj
theorem Supers_val (l : List Nat) (w : World) (a : Option Addr) (n cap : Nat) (L : List Ty) (h : IsTys w a n cap L) (hn : n ≤ 100000) (i : Nat) (hi : i < n) (hr : sups L i = l) :
    Calls Tryz.prog 27 #[.slice a n cap, .int .i64 i] w fun e w' => ∃ la lc, e = .returned (.slice la l.length lc) ∧ IsInt w' la l.length lc (ints l) ∧ Below w.heap.size w w' := by
  subst hr
  have e : (sups L i).length = (supP L i i).length := by unfold sups; rw [List.length_reverse]
  rw [e]
  exact Supers_any w a n cap L h hn i hi
theorem FindN_val (r : Int) (w : World) (a : Option Addr) (n cap : Nat) (L : List Ty) (x : Value) (c q : Cd) (h : IsTys w a n cap L) (h0 : 0 < n) (hn : n ≤ 100000) (hC : ∀ d ∈ L, IsS d.2) (hx : SetV w x c) (hc : NfS c q) (hr : ixS (L.map Prod.snd) q = r) :
    Calls Tryz.prog 18 #[.slice a n cap, x] w fun e w' => e = .returned (.int .i64 r) ∧ Below w.heap.size w w' := hr ▸ FindN_any w a n cap L x c q h h0 hn hC hx hc

set_option maxRecDepth 100000 in
set_option maxHeartbeats 1600000 in
theorem ex4_holds (w : World) (hT : S.TabOk w) : Calls Tryz.prog 13 #[] w fun e w' => e = .returned (.bool true) ∧ Below w.heap.size w w' := by
  have HT := Lib.hid hT
  clear hT
  go_enter Tryz.func13, Tryz.ntmps13
  go_wp2_with fail
  refine (decl4 _ _ _ _ _).mono ?_
  rintro e w1 ⟨rfl, hb1⟩
  have B1 := Lib.hid hb1
  clear hb1
  go_wp2_with fail
  have S1 := Lib.hid (lit4 w1 [[116]] (by decide) (by decide) (by decide))
  refine (decl4 _ _ _ _ _).mono ?_
  rintro e w2 ⟨rfl, hb2⟩
  have S2 := Lib.hid (S1.out.below hb2)
  have B2 := Lib.hid (B1.out.trans (((ba w1 (.cells (svals [[116]]).toArray 9)).trans (hb2.mono (by simp))).mono B1.out.size))
  clear hb2 S1
  go_wp2_with fail
  have S1 := Lib.hid (lit4 w2 [[116]] (by decide) (by decide) (by decide))
  refine (decl4 _ _ _ _ _).mono ?_
  rintro e w3 ⟨rfl, hb3⟩
  have k3 : Below w2.heap.size w2 w3 := (ba w2 (.cells (svals [[116]]).toArray 9)).trans (hb3.mono (by simp))
  have S3 := Lib.hid (S1.out.below hb3)
  have S2 := Lib.hid (S2.out.below k3)
  have B3 := Lib.hid (B2.out.trans (k3.mono B2.out.size))
  clear hb3 k3 S1
  go_wp2_with fail
  have S1 := Lib.hid (lit4 w3 [[97], [98]] (by decide) (by decide) (by decide))
  refine (decl4 _ _ _ _ _).mono ?_
  rintro e w4 ⟨rfl, hb4⟩
  have k4 : Below w3.heap.size w3 w4 := (ba w3 (.cells (svals [[97], [98]]).toArray 9)).trans (hb4.mono (by simp))
  have S4 := Lib.hid (S1.out.below hb4)
  have S2 := Lib.hid (S2.out.below k4)
  have S3 := Lib.hid (S3.out.below k4)
  have B4 := Lib.hid (B3.out.trans (k4.mono B3.out.size))
  clear hb4 k4 S1
  go_wp2_with fail
  have S1 := Lib.hid (lit4 w4 [[97], [98]] (by decide) (by decide) (by decide))
  refine (decl4 _ _ _ _ _).mono ?_
  rintro e w5 ⟨rfl, hb5⟩
  have k5 : Below w4.heap.size w4 w5 := (ba w4 (.cells (svals [[97], [98]]).toArray 9)).trans (hb5.mono (by simp))
  have S5 := Lib.hid (S1.out.below hb5)
  have S2 := Lib.hid (S2.out.below k5)
  have S3 := Lib.hid (S3.out.below k5)
  have S4 := Lib.hid (S4.out.below k5)
  have B5 := Lib.hid (B4.out.trans (k5.mono B4.out.size))
  clear hb5 k5 S1
  go_wp2_with fail
  have HD := Lib.hid (ex5_is w5 _ _ _ _ S2.out S3.out S4.out S5.out)
  have BA := Lib.hid (B5.out.alloc B5.out.size (.cells #[exS 116, .slice none 0 0, .slice none 0 0, exS 97, .slice (some ⟨w1.heap.size, 0, none⟩) 1 1, .slice none 0 0, exS 98, .slice (some ⟨w2.heap.size, 0, none⟩) 1 1, .slice none 0 0, exS 99, .slice (some ⟨w3.heap.size, 0, none⟩) 2 2, .slice none 0 0, exS 100, .slice (some ⟨w4.heap.size, 0, none⟩) 2 2, .slice none 0 0] 53))
  refine (Codes_any _ _ _ _ _ HD.out (HT.out.below BA.out)).mono ?_
  intro e w6 hy
  obtain ⟨a, c, rfl, hL, hb6⟩ := Codes_eq hy ex5_chk ex5_fam ex6 ex5_tys
  rw [show ex6.length = 6 from rfl] at hL ⊢
  have H6 := Lib.hid hL
  have B6 := Lib.hid (BA.out.trans (hb6.mono BA.out.size))
  clear hy hL hb6 HD BA S2 S3 S4 S5 B1 B2 B3 B4 B5
  go_wp2_with fail
  have HW := Lib.hid (exW6_is w6)
  refine (rSameT_any _ _ _ 6 _ _ ex6 (H6.out.below (HW.out.2.alloc HW.out.2.size _)) HW.out.1).mono ?_
  rintro e w7 ⟨rfl, hb7⟩
  have k7 : Below w6.heap.size w6 w7 := (HW.out.2.alloc HW.out.2.size _).trans (hb7.mono (by have := HW.out.2.size; simp; omega))
  have H7 := Lib.hid (H6.out.below k7)
  have B7 := Lib.hid (B6.out.trans (k7.mono B6.out.size))
  clear hb7 k7 HW H6 B6
  go_wp2_with fail
  refine (Meet_val 3 _ _ 6 _ ex6 H7.out (by decide) ex6_S 1 2 (by decide) (by decide) (by decide +kernel)).mono ?_
  rintro e w8 ⟨rfl, hb8⟩
  have H8 := Lib.hid (H7.out.below hb8)
  have B8 := Lib.hid (B7.out.trans (hb8.mono B7.out.size))
  clear hb8 H7 B7
  go_wp2_with fail
  refine (Meet_val (-1) _ _ 6 _ ex6 H8.out (by decide) ex6_S 4 5 (by decide) (by decide) (by decide +kernel)).mono ?_
  rintro e w9 ⟨rfl, hb9⟩
  have H9 := Lib.hid (H8.out.below hb9)
  have B9 := Lib.hid (B8.out.trans (hb9.mono B8.out.size))
  clear hb9 H8 B8
  go_wp2_with fail
  refine (Join_val 3 _ _ 6 _ ex6 H9.out 4 5 (by decide) (by decide) (by decide +kernel)).mono ?_
  rintro e wa ⟨rfl, hba⟩
  have Ha := Lib.hid (H9.out.below hba)
  have Ba := Lib.hid (B9.out.trans (hba.mono B9.out.size))
  clear hba H9 B9
  go_wp2_with fail
  refine (Subsumes_val _ _ 6 _ ex6 Ha.out 1 4 (by decide) (by decide) true (by decide +kernel)).mono ?_
  rintro e wb ⟨rfl, hbb⟩
  have Hb := Lib.hid (Ha.out.below hbb)
  have Bb := Lib.hid (Ba.out.trans (hbb.mono Ba.out.size))
  clear hbb Ha Ba
  go_wp2_with fail
  refine (Subsumes_val _ _ 6 _ ex6 Hb.out 4 1 (by decide) (by decide) false (by decide +kernel)).mono ?_
  rintro e wc ⟨rfl, hbc⟩
  have Hc := Lib.hid (Hb.out.below hbc)
  have Bc := Lib.hid (Bb.out.trans (hbc.mono Bb.out.size))
  clear hbc Hb Bb
  go_wp2_with fail
  refine (Supers_val [1, 2] _ _ 6 _ ex6 Hc.out (by decide) 3 (by decide) (by decide +kernel)).mono ?_
  rintro e wd ⟨la, lc, rfl, hI, hbd⟩
  have HI := Lib.hid hI
  have Hd := Lib.hid (Hc.out.below hbd)
  have Bd := Lib.hid (Bc.out.trans (hbd.mono Bc.out.size))
  clear hI hbd Hc Bc
  rw [show [1, 2].length = 2 from rfl] at HI ⊢
  go_wp2_with fail
  refine (S.SameInts_val true _ _ _ 2 2 _ _ _ _ (HI.out.below (ba _ _)) (ints2 wd 1 2 (by decide) (by decide)) (by decide)).mono ?_
  rintro e we ⟨rfl, hbe⟩
  have ke : Below wd.heap.size wd we := (ba wd _).trans (hbe.mono (by simp))
  have He := Lib.hid (Hd.out.below ke)
  have Be := Lib.hid (Bd.out.trans (ke.mono Bd.out.size))
  clear hbe ke Hd Bd HI
  go_wp2_with fail
  refine (Supers_val [3] _ _ 6 _ ex6 He.out (by decide) 4 (by decide) (by decide +kernel)).mono ?_
  rintro e wf ⟨la, lc, rfl, hI, hbf⟩
  have HI := Lib.hid hI
  have Hf := Lib.hid (He.out.below hbf)
  have Bf := Lib.hid (Be.out.trans (hbf.mono Be.out.size))
  clear hI hbf He Be
  rw [show [3].length = 1 from rfl] at HI ⊢
  go_wp2_with fail
  refine (S.SameInts_val true _ _ _ 1 1 _ _ _ _ (HI.out.below (ba _ _)) (ints1 wf 3 (by decide)) (by decide)).mono ?_
  rintro e wg ⟨rfl, hbg⟩
  have kg : Below wf.heap.size wf wg := (ba wf _).trans (hbg.mono (by simp))
  have Hg := Lib.hid (Hf.out.below kg)
  have Bg := Lib.hid (Bf.out.trans (kg.mono Bf.out.size))
  clear hbg kg Hf Bf HI
  go_wp2_with fail
  have s2 := set2 wg 37
  refine (FindN_val 3 _ _ 6 _ ex6 _ [12, 0] [12] (Hg.out.below (ba _ _)) (by decide) (by decide) (fun d hd => (ex6_S d hd).1) ⟨_, _, rfl, s2⟩ (by have := nz_nf (c := [12, 0]) (wb_of (by decide)); exact this) (by decide +kernel)).mono ?_
  rintro e wh ⟨rfl, hbh⟩
  have kh : Below wg.heap.size wg wh := (ba wg _).trans (hbh.mono (by simp))
  have Hh := Lib.hid (Hg.out.below kh)
  have Bh := Lib.hid (Bg.out.trans (kh.mono Bg.out.size))
  clear hbh kh Hg Bg s2
  go_wp2_with fail
  have s1 := set1 wh 1 (by decide) 37
  refine (FindN_val (-1) _ _ 6 _ ex6 _ [1] [1] (Hh.out.below (ba _ _)) (by decide) (by decide) (fun d hd => (ex6_S d hd).1) ⟨_, _, rfl, s1⟩ (by have := nz_nf (c := [1]) (wb_of (by decide)); exact this) (by decide +kernel)).mono ?_
  rintro e wi ⟨rfl, hbi⟩
  have ki : Below wh.heap.size wh wi := (ba wh _).trans (hbi.mono (by simp))
  have Bi := Lib.hid (Bh.out.trans (ki.mono Bh.out.size))
  clear hbi ki Hh Bh s1
  go_wp2_with fail
  go_ret
  exact ⟨rfl, Bi.out⟩
end Go.Proofs.YtdeamdpoegdmdaaGreatDoor

/- Walks of the laws of closure: light, types, number, meet3; ClosureCodes. -/
namespace Go.Proofs.YtdeamdpoegdmdaaGreatDoor
open Go.RowKit Go.Maps Go.Shelf
open S (wd Is64 Fresh bit SAnd SOr IsInt wi ints)

def lt12 (D : List Dec) : Bool := lite D && decide (D.length ≤ 12)
theorem light4_any (w : World) (a : Option Addr) (n cap : Nat) (D : List Dec) (h : IsDecs w a n cap D) :
    Calls Tryz.prog 12 #[.slice a n cap] w fun e w' => e = .returned (.bool (lt12 D)) ∧ w = w' := by
  have HL := Lib.hid h.len
  obtain ⟨b, hb⟩ : ∃ b, lite D = b := ⟨_, rfl⟩
  have LT : Hid (Calls Tryz.prog 38 #[.slice a n cap] w fun e w' => e = .returned (.bool b) ∧ w = w') := hb ▸ Light_any w a n cap D h
  have HB := Lib.hid hb
  clear h hb
  go_enter Tryz.func12, Tryz.ntmps12
  cases b
  · go_wp2_with (go_at_call 38; refine LT.out.mono ?_; rintro e w1 ⟨rfl, rfl⟩)
    go_ret
    exact ⟨by unfold lt12; rw [HB.out]; rfl, rfl⟩
  · by_cases h12 : n ≤ 12
    · have hq : (n : Int) ≤ 12 := by omega
      go_wp2_with (go_at_call 38; refine LT.out.mono ?_; rintro e w1 ⟨rfl, rfl⟩)
      go_ret
      exact ⟨by unfold lt12; rw [HB.out, HL.out, decide_eq_true h12]; rfl, rfl⟩
    · have hq : decide ((n : Int) ≤ 12) = false := by rw [decide_eq_false_iff_not]; omega
      go_wp2_with (go_at_call 38; refine LT.out.mono ?_; rintro e w1 ⟨rfl, rfl⟩)
      go_ret
      exact ⟨by unfold lt12; rw [HB.out, HL.out, decide_eq_false h12, Bool.true_and, ← hq]; rfl, rfl⟩
theorem light4_val (b : Bool) (w : World) (a : Option Addr) (n cap : Nat) (D : List Dec) (h : IsDecs w a n cap D) (hb : lt12 D = b) :
    Calls Tryz.prog 12 #[.slice a n cap] w fun e w' => e = .returned (.bool b) ∧ w = w' := hb ▸ light4_any w a n cap D h

def TypesPost (D : List Dec) (i j : Nat) (w : World) (e : Ending) (w' : World) : Prop := Below w.heap.size w w' ∧
  (e = .returned (.tuple #[.slice none 0 0, .int .i64 0, .int .i64 0, .bool false]) ∨
   (chkN D = 0 ∧ (fam D).length ≤ 256 ∧ D.length ≤ 12 ∧ ∃ a c, e = .returned (.tuple #[.slice a (tys D).length c, .int .i64 ((i % (tys D).length : Nat) : Int), .int .i64 ((j % (tys D).length : Nat) : Int), .bool true]) ∧ IsTys w' a (tys D).length c (tys D)))
theorem tys_pos {D : List Dec} (h : Acc D) : 0 < (tys D).length := by
  obtain ⟨t, ht, _⟩ := (tys_tys h).top
  exact List.length_pos_of_mem ht
theorem results_tmp4 {fn : Func} {t u v x : Tmp} (h : fn.results = #[.tmp t, .tmp u, .tmp v, .tmp x]) (tmps : Array Value) (P : Program) (w : World) :
    (results fn tmps).run P w = .ok (.tuple #[tmps.getD t undef, tmps.getD u undef, tmps.getD v undef, tmps.getD x undef]) w := by
  simp [results, h]
set_option maxRecDepth 100000 in
set_option maxHeartbeats 1600000 in
theorem types4_any (w : World) (a : Option Addr) (n cap : Nat) (D : List Dec) (h : IsDecs w a n cap D) (i j : Nat) (hi : i < 256) (hj : j < 256) :
    Calls Tryz.prog 17 #[.slice a n cap, .int .u8 i, .int .u8 j] w (TypesPost D i j w) := by
  have HD := Lib.hid h
  have HL := Lib.hid h.len
  have CO := Lib.hid (rCodes_any w a n cap D h)
  cases hb : lt12 D
  · have LT := Lib.hid (light4_val false w a n cap D h hb)
    clear h hb
    go_enter Tryz.func17, Tryz.ntmps17
    go_wp2_with (go_at_call 12; refine LT.out.mono ?_; rintro e w1 ⟨rfl, rfl⟩)
    (try simp only [Exit.inBlock, Exit.then])
    refine bodyPost_ret (results_tmp4 rfl _ _ _) rfl ?_
    exact ⟨Below.refl _ _, .inl rfl⟩
  · have LT := Lib.hid (light4_val true w a n cap D h hb)
    have H12 : Hid (D.length ≤ 12) := by
      unfold lt12 at hb
      rw [Bool.and_eq_true] at hb
      have := of_decide_eq_true hb.2
      exact this
    clear h hb
    go_enter Tryz.func17, Tryz.ntmps17
    go_wp2_with (go_at_call 12; refine LT.out.mono ?_; rintro e w1 ⟨rfl, rfl⟩)
    refine CO.out.mono ?_
    rintro e w1 ⟨hb1, ⟨hc, rfl⟩ | ⟨hc, hf, ta, tc, rfl, hT⟩ | ⟨hc, hf, rfl⟩⟩
    · have hz1 : (((chkN D : Nat) : Int) != 0) = true := by simpa using hc
      have B1 := Lib.hid hb1
      obtain ⟨q, hq⟩ : ∃ q, ((chkN D : Nat) : Int) = q := ⟨_, rfl⟩
      rw [hq] at hz1 ⊢
      clear hc hq hb1
      go_wp2
      (try simp only [Exit.inBlock, Exit.then])
      refine bodyPost_ret (results_tmp4 rfl _ _ _) rfl ?_
      exact ⟨B1.out, .inl rfl⟩
    · have B1 := Lib.hid hb1
      have HT := Lib.hid hT
      have HC := Lib.hid hc
      have HF := Lib.hid hf
      have hpos := tys_pos (acc_of hc)
      have hlt : (tys D).length ≤ 256 := by rw [tys_len (acc_of hc)]; exact hf
      obtain ⟨m, hm⟩ : ∃ m, (tys D).length = m := ⟨_, rfl⟩
      have HM := Lib.hid hm
      rw [hm] at HT hpos hlt ⊢
      have hm0 : (m : Int) ≠ 0 := by omega
      have r1 : ((i : Int)).tmod (m : Int) = ((i % m : Nat) : Int) := by rw [Int.ofNat_tmod]
      have r2 : ((j : Int)).tmod (m : Int) = ((j % m : Nat) : Int) := by rw [Int.ofNat_tmod]
      clear hb1 hT hc hf hm
      go_wp2
      go_quiet (fail)
      go_wp2
      (try simp only [Exit.inBlock, Exit.then])
      refine bodyPost_ret (results_tmp4 rfl _ _ _) rfl ?_
      refine ⟨below_drewN B1.out _, .inr ⟨HC.out, HF.out, H12.out, ta, tc, ?_, ?_⟩⟩
      · rw [HM.out, show ((i % m : Nat) : Int) = (i : Int) % (m : Int) from by first | exact Int.natCast_emod i m | exact Int.ofNat_emod i m | rfl, show ((j % m : Nat) : Int) = (j : Int) % (m : Int) from by first | exact Int.natCast_emod j m | exact Int.ofNat_emod j m | rfl]; rfl
      · rw [HM.out]; exact HT.out.below (below_drewN (Below.refl _ _) _)
    · have B1 := Lib.hid hb1
      clear hb1 hc hf
      go_wp2
      (try simp only [Exit.inBlock, Exit.then])
      refine bodyPost_ret (results_tmp4 rfl _ _ _) rfl ?_
      exact ⟨B1.out, .inl rfl⟩
end Go.Proofs.YtdeamdpoegdmdaaGreatDoor

/- Walks of the laws ClosureCodes, ClosureRelations. -/
namespace Go.Proofs.YtdeamdpoegdmdaaGreatDoor
open Go.RowKit Go.Maps Go.Shelf
open S (wd Is64 Fresh bit SAnd SOr IsInt wi ints)

noncomputable def errN (D : List Dec) : Nat := if chkN D = 0 then 7 else chkN D
theorem errN_pos (D : List Dec) : errN D ≠ 0 := by unfold errN; split <;> omega
theorem CodesPost.bad {D : List Dec} {w w' : World} {e : Ending} (h : CodesPost D w e w') (hb : ¬ (chkN D = 0 ∧ (fam D).length ≤ 256)) (q : Int) (hq : ((errN D : Nat) : Int) = q) : e = .returned (.tuple #[.slice none 0 0, .int .i64 q]) ∧ Below w.heap.size w w' := by
  subst hq
  unfold errN
  obtain ⟨hb1, ⟨h1, h2⟩ | ⟨h1, h2, _⟩ | ⟨h1, _, h3⟩⟩ := h
  · rw [if_neg h1]; exact ⟨h2, hb1⟩
  · exact absurd ⟨h1, h2⟩ hb
  · rw [if_pos h1]; exact ⟨h3, hb1⟩
theorem IsTys.nil (w : World) : IsTys w none 0 0 [] := ⟨rfl, Nat.le_refl _, Nat.zero_le _, fun h => absurd h (Nat.lt_irrefl _)⟩

set_option maxRecDepth 100000 in
set_option maxHeartbeats 1600000 in
theorem ClosureCodes_law (w : World) (a : Option Addr) (n cap : Nat) (D : List Dec) (h : IsDecs w a n cap D) (hT : S.TabOk w) :
    Calls Tryz.prog 3 #[.slice a n cap] w fun e w' => e = .returned (.bool true) ∧ Below w.heap.size w w' := by
  have HD := Lib.hid h
  have HT := Lib.hid hT
  cases hb : lt12 D
  · have LT := Lib.hid (light4_val false w a n cap D h hb)
    clear h hb hT
    go_enter Tryz.func3, Tryz.ntmps3
    go_wp2_with (first
      | (go_at_call 12; refine LT.out.mono ?_; rintro e w1 ⟨rfl, rfl⟩)
      | (go_at_call 13; refine (ex4_holds _ HT.out).mono ?_; rintro e w2 ⟨rfl, hb2⟩))
    go_ret
    exact ⟨rfl, hb2⟩
  · have LT := Lib.hid (light4_val true w a n cap D h hb)
    have C1 := Lib.hid (Codes_any w a n cap D h hT)
    clear h hb hT
    by_cases hok : chkN D = 0 ∧ (fam D).length ≤ 256
    · have HC := Lib.hid hok.1
      have HF := Lib.hid hok.2
      have EQ := Lib.hid (fun (W W' : World) (e : Ending) (hp : CodesPost D W e W') => Codes_eq hp hok.1 hok.2 (tys D) rfl)
      obtain ⟨L, hL⟩ : ∃ L, tys D = L := ⟨_, rfl⟩
      rw [hL] at EQ
      clear hok hL
      go_enter Tryz.func3, Tryz.ntmps3
      go_wp2_with (go_at_call 12; refine LT.out.mono ?_; rintro e w1 ⟨rfl, rfl⟩)
      refine C1.out.mono ?_
      intro e w2 hy
      obtain ⟨a2, c2, rfl, h2, hb2⟩ := EQ.out _ _ _ hy
      have H2 := Lib.hid h2
      have B2 := Lib.hid hb2
      have C2 := Lib.hid (rCodes_any w2 a n cap D (HD.out.below hb2))
      clear hy h2 hb2 C1
      go_wp2_with fail
      refine C2.out.mono ?_
      intro e w3 hy
      obtain ⟨a3, c3, rfl, h3, hb3⟩ := EQ.out _ _ _ hy
      have SM := Lib.hid (rSameT_any w3 a2 a3 L.length c2 c3 L (H2.out.below hb3) h3)
      have B3 := Lib.hid (B2.out.trans (hb3.mono B2.out.size))
      clear hy h3 hb3 C2 EQ
      go_wp2_with (first
        | (go_at_call 16; refine SM.out.mono ?_; rintro e w4 ⟨rfl, hb4⟩; have B4 := Lib.hid (B3.out.trans (hb4.mono B3.out.size)); clear hb4)
        | (go_at_call 13; refine (ex4_holds _ (HT.out.below B4.out)).mono ?_; rintro e w5 ⟨rfl, hb5⟩))
      go_ret
      exact ⟨rfl, B4.out.trans (hb5.mono B4.out.size)⟩
    · obtain ⟨q, hq⟩ : ∃ q, ((errN D : Nat) : Int) = q := ⟨_, rfl⟩
      have EQ := Lib.hid (fun (W W' : World) (e : Ending) (hp : CodesPost D W e W') => hp.bad hok q hq)
      clear hok hq
      go_enter Tryz.func3, Tryz.ntmps3
      go_wp2_with (go_at_call 12; refine LT.out.mono ?_; rintro e w1 ⟨rfl, rfl⟩)
      refine C1.out.mono ?_
      intro e w2 hy
      obtain ⟨rfl, hb2⟩ := EQ.out _ _ _ hy
      have B2 := Lib.hid hb2
      have C2 := Lib.hid (rCodes_any w2 a n cap D (HD.out.below hb2))
      clear hy hb2 C1
      go_wp2_with fail
      refine C2.out.mono ?_
      intro e w3 hy
      obtain ⟨rfl, hb3⟩ := EQ.out _ _ _ hy
      have SM := Lib.hid (rSameT_any w3 none none 0 0 0 [] (IsTys.nil _) (IsTys.nil _))
      have B3 := Lib.hid (B2.out.trans (hb3.mono B2.out.size))
      clear hy hb3 C2 EQ
      go_wp2_with (first
        | (go_at_call 16; refine SM.out.mono ?_; rintro e w4 ⟨rfl, hb4⟩; have B4 := Lib.hid (B3.out.trans (hb4.mono B3.out.size)); clear hb4)
        | (go_at_call 13; refine (ex4_holds _ (HT.out.below B4.out)).mono ?_; rintro e w5 ⟨rfl, hb5⟩))
      go_ret
      exact ⟨rfl, B4.out.trans (hb5.mono B4.out.size)⟩

/-- What a law has in hand when its arguments are accepted. -/
structure InHand (w : World) (a : Option Addr) (m c : Nat) (L : List Ty) : Prop where
  is : IsTys w a m c L
  ok : Tys L
  pos : 0 < m
  le : m ≤ 256
  len : L.length = m
theorem InHand.below {w w' : World} {a : Option Addr} {m c : Nat} {L : List Ty} (h : InHand w a m c L) (hb : Below w.heap.size w w') : InHand w' a m c L := ⟨h.is.below hb, h.ok, h.pos, h.le, h.len⟩
theorem InHand.S {w : World} {a : Option Addr} {m c : Nat} {L : List Ty} (h : InHand w a m c L) : ∀ d ∈ L, IsS d.2 ∧ d.2.length ≤ 64 := fun d hd => ⟨(h.ok.ok d hd).1, (h.ok.ok d hd).2.2⟩
theorem InHand.of {D : List Dec} {w : World} {a : Option Addr} {c : Nat} (h : IsTys w a (tys D).length c (tys D)) (hc : chkN D = 0) (hf : (fam D).length ≤ 256) : InHand w a (tys D).length c (tys D) :=
  ⟨h, tys_tys (acc_of hc), tys_pos (acc_of hc), by rw [tys_len (acc_of hc)]; exact hf, rfl⟩
/-- What types gives to a law. -/
def GotT (D : List Dec) (i j : Nat) (w : World) (e : Ending) (w' : World) : Prop := Below w.heap.size w w' ∧
  (e = .returned (.tuple #[.slice none 0 0, .int .i64 0, .int .i64 0, .bool false]) ∨
   (chkN D = 0 ∧ (fam D).length ≤ 256 ∧ D.length ≤ 12 ∧ ∃ (a : Option Addr) (m c x y : Nat) (L : List Ty), L = tys D ∧ x = i % m ∧ y = j % m ∧ x < m ∧ y < m ∧ e = .returned (.tuple #[.slice a m c, .int .i64 (x : Int), .int .i64 (y : Int), .bool true]) ∧ InHand w' a m c L))
theorem types4_got (w : World) (a : Option Addr) (n cap : Nat) (D : List Dec) (h : IsDecs w a n cap D) (i j : Nat) (hi : i < 256) (hj : j < 256) :
    Calls Tryz.prog 17 #[.slice a n cap, .int .u8 i, .int .u8 j] w (GotT D i j w) := by
  refine (types4_any w a n cap D h i j hi hj).mono ?_
  rintro e w' ⟨hb, h1 | ⟨hc, hf, hl, ta, tc, h1, h2⟩⟩
  · exact ⟨hb, .inl h1⟩
  · have hp := tys_pos (acc_of hc)
    exact ⟨hb, .inr ⟨hc, hf, hl, ta, _, tc, _, _, tys D, rfl, rfl, rfl, Nat.mod_lt _ hp, Nat.mod_lt _ hp, h1, InHand.of h2 hc hf⟩⟩

theorem sameI_self (l : List Int) : S.sameI l l = true := by unfold S.sameI; simp
set_option maxRecDepth 100000 in
set_option maxHeartbeats 3200000 in
theorem ClosureRelations_law (w : World) (a : Option Addr) (n cap : Nat) (D : List Dec) (h : IsDecs w a n cap D) (i j : Nat) (hi : i < 256) (hj : j < 256) (hT : S.TabOk w) :
    Calls Tryz.prog 5 #[.slice a n cap, .int .u8 i, .int .u8 j] w fun e w' => e = .returned (.bool true) ∧ Below w.heap.size w w' := by
  have HT := Lib.hid hT
  have TY := Lib.hid (types4_got w a n cap D h i j hi hj)
  clear h hT
  go_enter Tryz.func5, Tryz.ntmps5
  go_wp2_with fail
  refine TY.out.mono ?_
  rintro e w1 ⟨hb1, rfl | ⟨hc, hf, h12, ta, m, tc, x, y, L, hL, hx0, hy0, hx, hy, rfl, hI⟩⟩
  · go_wp2_with (go_at_call 13; refine (ex4_holds _ (HT.out.below hb1)).mono ?_; rintro e w2 ⟨rfl, hb2⟩)
    go_ret
    exact ⟨rfl, hb1.trans (hb2.mono hb1.size)⟩
  · have B1 := Lib.hid hb1
    have I1 := Lib.hid hI
    have hle := hI.le
    have hlen := hI.len
    have hcap := hI.is.capLe
    have hmx := hI.is.maxLe
    unfold maxLen at hmx
    clear hL hx0 hy0 hb1 hI hc hf h12 TY
    have IH := Lib.hid (fun W hW => I1.out.below (w' := W) hW)
    have SS : Hid (sups L x = dirs L x m) := by show _ = _; rw [← hlen]; exact (I1.out.ok.dirs_is (by omega)).symm
    obtain ⟨sb, hsb⟩ : ∃ sb, subT L x y = sb := ⟨_, rfl⟩
    obtain ⟨mt, hmt⟩ : ∃ mt, ixS (L.map Prod.snd) (SAnd (ty L x).2 (ty L y).2) = mt := ⟨_, rfl⟩
    obtain ⟨jn, hjn⟩ : ∃ jn, ((jn2 L x y : Nat) : Int) = jn := ⟨_, rfl⟩
    have HSB := Lib.hid hsb
    have MT := Lib.hid (fun W (hW : Below w1.heap.size w1 W) => hmt ▸ Meet_any W ta m tc L (IH.out W hW).is (by omega) (IH.out W hW).S x y hx hy)
    have RMT := Lib.hid (fun W (hW : Below w1.heap.size w1 W) => hmt ▸ rMeet_any W ta m tc L (IH.out W hW).is (IH.out W hW).S x y hx hy)
    have JN := Lib.hid (fun W (hW : Below w1.heap.size w1 W) => hjn ▸ Join_any W ta m tc L (IH.out W hW).is x y hx hy)
    have RJN := Lib.hid (fun W (hW : Below w1.heap.size w1 W) => hjn ▸ rJoin_any W ta m tc L (IH.out W hW).is (IH.out W hW).ok x y hx hy)
    clear hsb hmt hjn
    go_wp2_with fail
    refine (MT.out w1 (Below.refl _ _)).mono ?_
    rintro e w2 ⟨rfl, hb2⟩
    have B2 := Lib.hid hb2
    clear hb2
    go_wp2_with fail
    refine (RMT.out w2 B2.out).mono ?_
    rintro e w3 ⟨rfl, hb3⟩
    have B3 := Lib.hid (B2.out.trans (hb3.mono B2.out.size))
    clear hb3 B2
    go_wp2_with fail
    refine (JN.out w3 B3.out).mono ?_
    rintro e w4 ⟨rfl, hb4⟩
    have B4 := Lib.hid (B3.out.trans (hb4.mono B3.out.size))
    clear hb4 B3
    go_wp2_with fail
    refine (RJN.out w4 B4.out).mono ?_
    rintro e w5 ⟨rfl, hb5⟩
    have B5 := Lib.hid (B4.out.trans (hb5.mono B4.out.size))
    clear hb5 B4
    go_wp2_with fail
    refine (Subsumes_val w5 ta m tc L (IH.out w5 B5.out).is x y hx hy sb HSB.out).mono ?_
    rintro e w6 ⟨rfl, hb6⟩
    have B6 := Lib.hid (B5.out.trans (hb6.mono B5.out.size))
    clear hb6 B5
    go_wp2_with fail
    refine (rSubsumes_val w6 ta m tc L (IH.out w6 B6.out).is (fun d hd => ((IH.out w6 B6.out).S d hd).2) x y hx hy sb HSB.out).mono ?_
    rintro e w7 ⟨rfl, hb7⟩
    have B7 := Lib.hid (B6.out.trans (hb7.mono B6.out.size))
    clear hb7 B6
    go_wp2_with fail
    refine (Supers_val _ w7 ta m tc L (IH.out w7 B7.out).is (by omega) x hx SS.out).mono ?_
    rintro e w8 ⟨la, lc, rfl, h8, hb8⟩
    have B8 := Lib.hid (B7.out.trans (hb8.mono B7.out.size))
    have H8 := Lib.hid h8
    clear h8 hb8 B7
    go_wp2_with fail
    refine (rSupers_any w8 ta m tc L (IH.out w8 B8.out).is hle (fun d hd => ((IH.out w8 B8.out).S d hd).2) x hx).mono ?_
    rintro e w9 ⟨ra, rc, rfl, h9, hb9⟩
    have B9 := Lib.hid (B8.out.trans (hb9.mono B8.out.size))
    have SI := Lib.hid (S.SameInts_val true w9 la ra _ _ lc rc _ _ (H8.out.below hb9) h9 (sameI_self _))
    clear h9 hb9 B8 H8
    go_wp2_with fail
    refine SI.out.mono ?_
    rintro e wa ⟨rfl, hba⟩
    have Ba := Lib.hid (B1.out.trans ((B9.out.trans (hba.mono B9.out.size)).mono B1.out.size))
    clear hba B9 SI
    go_wp2_with (go_at_call 13; refine (ex4_holds _ (HT.out.below Ba.out)).mono ?_; rintro e wb ⟨rfl, hbb⟩)
    go_ret
    exact ⟨rfl, Ba.out.trans (hbb.mono Ba.out.size)⟩
end Go.Proofs.YtdeamdpoegdmdaaGreatDoor
