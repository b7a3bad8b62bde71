/- Walks of package poset: reach. -/
import Derived.Test.YtmhbblehgckelaaPz
import Derived.Deep.LoopGhost
namespace Go.Proofs.Ytmhbblehgckelaa
open Go.RowKit Go.Maps

/-- A map of bools whose keys are these, each true. -/
structure IsSet (w : World) (b n : Nat) (M : DataW Value) (K : List Str) : Prop where
  map : w.ownsMap Try.prog 9 raw b n M
  has : ∀ x, mhas M x = inS K x
  get : ∀ x, mget M x (.bool false) = .bool (inS K x)
theorem IsSet.put {w' : World} {w : World} {b n n' : Nat} {M : DataW Value} {K : List Str} (h : IsSet w b n M K) (x : Str) (h' : w'.ownsMap Try.prog 9 raw b n' (mput M x (.bool true))) : IsSet w' b n' (mput M x (.bool true)) (K ++ [x]) :=
  ⟨h', fun y => by rw [mhas_put (owns_isMap h.map), h.has, inS_snoc], fun y => by rw [mget_put (owns_isMap h.map), h.get, inS_snoc, ite_bool]⟩
theorem IsSet.made (w : World) : IsSet (w.alloc (.map #[] 0)) w.heap.size 0 (.map []) [] := ⟨World.ownsMap_made _ _ _ _, fun _ => rfl, fun _ => rfl⟩
theorem IsSet.below {w w' : World} {b n : Nat} {M : DataW Value} {K : List Str} (h : IsSet w b n M K) (hb : Below w.heap.size w w') : IsSet w' b n M K := ⟨map_below h.map hb, h.has, h.get⟩
/-- The call returns such a set, which is its own: what is reached. -/
def RetS (f : Str → List Str) (N s : List Str) (w : World) (e : Ending) (w' : World) : Prop :=
  ∃ b M K, e = .returned (.map (some b)) ∧ w.heap.size ≤ b ∧ IsSet w' b K.length M K ∧ Rch f N s K [] ∧ Below w.heap.size w w'

set_option maxRecDepth 100000 in
set_option maxHeartbeats 6400000 in
theorem reach_any (w : World) (lb ln : Nat) (N : List Str) (f : Str → List Str) (hl : Links w lb ln N f) (hN : ∀ x y, y ∈ f x → y ∈ N) (hNl : N.length ≤ 256) (hNs : ∀ z ∈ N, z.length ≤ maxLen) (hfl : ∀ x, (f x).length ≤ 70000) (a : Option Addr) (m cap : Nat) (s : List Str) (hs : IsStrs w a m cap s) (hm : m ≤ 1000) :
    Calls Try.prog 37 #[.map (some lb), .slice a m cap] w (RetS f N s w) := by
  have LK := Lib.hid hl
  have HNN := Lib.hid hN
  have HNS := Lib.hid hNs
  have HFL := Lib.hid hfl
  have HSS := Lib.hid hs
  have HSL := Lib.hid hs.small
  have HSN := Lib.hid hs.len
  have CL := Lib.hid (Clone_any (w.alloc (.map #[] 0)) a m cap s (hs.below ((Below.refl _ _).alloc (Nat.le_refl _) _)) (by omega))
  clear hl hN hNs hfl hs
  have hmm := @run_makeMap Try.prog
  go_enter Try.func37, Try.ntmps37
  go_wp2_with (go_at_call 47; refine CL.out.mono ?_; rintro e w1 ⟨v1, rfl, hrow, hb1⟩; have R1 := Lib.hid hrow; have HB1 := Lib.hid hb1; clear hrow hb1)
  clear hmm
  have hz1 := HB1.out.size
  rw [World.size_alloc] at hz1
  go_loopg [6] (m + N.length) (fun g o wr => ∃ (wn : Nat) (M : DataW Value) (K W : List Str), Hid (W.length = wn) ∧ wn + N.length = K.length + g ∧ wn ≤ m + K.length ∧ Hid (Rch f N s K W) ∧ Hid (IsSet wr w.heap.size K.length M K) ∧ Hid (wr.ownsRow (w.heap.size + 1) 9 1 o wn (svals W)) ∧ w.heap.size < wr.heap.size ∧ Below w.heap.size w wr)
  case atStart => exact ⟨m, .map [], [], s, HSN.out, by simp, by omega, Rch.start f N s, (IsSet.made w).below HB1.out, by have := R1.out; rwa [World.size_alloc] at this, by omega, ((Below.refl _ _).alloc (Nat.le_refl _) _).trans (HB1.out.mono (by rw [World.size_alloc]; omega))⟩
  case round =>
    obtain ⟨wn, M, K, W, HWL, hg, hwm, HR, HS, HO, hz, hb⟩ := hrel
    obtain ⟨wo, hwo⟩ : ∃ wo : World, wo = wr := ⟨_, rfl⟩
    subst hwo
    have hKl : K.length ≤ N.length := nodup_len HR.out.nodup HR.out.sub
    have HWS : Hid (∀ z ∈ W, z.length ≤ maxLen) := fun z hz => by
      rcases HR.out.wsub z hz with e | e
      · exact HSL.out z e
      · exact HNS.out z (HR.out.sub z e)
    by_cases h0 : wn = 0
    · have hW : W = [] := List.eq_nil_of_length_eq_zero (HWL.out.trans h0)
      subst hW
      subst h0
      obtain ⟨ra, rc, rfl, hri⟩ := IsStrs.of_owns HO.out HWS.out
      clear hri
      go_wp2
      go_ret
      exact ⟨w.heap.size, M, K, rfl, Nat.le_refl _, HS.out, HR.out, hb⟩
    · obtain ⟨W', cur, rfl⟩ : ∃ W' cur, W = W' ++ [cur] := by
        rcases List.eq_nil_or_concat W with e | ⟨t, u, e⟩
        · rw [e] at HWL; exact absurd HWL.out.symm h0
        · exact ⟨t, u, by rw [e, List.concat_eq_append]⟩
      obtain ⟨wn, rfl⟩ : ∃ k, wn = k + 1 := ⟨wn - 1, by omega⟩
      have HWL2 : Hid (W'.length = wn) := by
        show _ = _
        have := HWL.out
        rw [List.length_append] at this
        simpa using this
      rcases owns_shape HO.out HWS.out with ⟨_, e, _⟩ | ⟨g0, rc, rfl, hg0, hg1, hri⟩
      · omega
      have hrc := hri.capLe
      have hrm := hri.maxLe
      unfold maxLen at hrm
      have c0 : wo.cell? ⟨g0, wn, none⟩ = some (.string (mk cur)) := by
        obtain ⟨b2, o2, e, _, hcs⟩ := hri.at_ (by omega)
        cases e
        have := hcs wn (by omega)
        rw [Nat.zero_add] at this
        rw [this]
        have h2 : st (W' ++ [cur]) wn = cur := by
          unfold st
          rw [List.getD_eq_getElem?_getD, List.getElem?_append_right (by rw [HWL2.out]; exact Nat.le_refl _), HWL2.out, Nat.sub_self]; rfl
        rw [h2]
      have HO2 := Lib.hid (owns_pop HO.out)
      have HRI := Lib.hid HR.out.pop
      have HCL : Hid (cur.length ≤ maxLen) := HWS.out cur (by simp)
      obtain ⟨MB, hmown, hmhas, hmget⟩ := LK.out
      obtain ⟨la, lc, hle, hli⟩ := hmget cur
      have HLE := Lib.hid hle
      have HMB := Lib.hid (map_below hmown hb)
      have HLI := Lib.hid hli
      have hfc := HFL.out cur
      have hlic := hli.capLe
      have hlim := hli.maxLe
      unfold maxLen at hlim
      obtain ⟨fl, hfl⟩ : ∃ z, (f cur).length = z := ⟨_, rfl⟩
      rw [hfl] at HLE HLI hfc hlic
      have HF := Lib.hid hfl
      have hgk : 0 < gk := by
        have := hg
        omega
      clear hmown hmhas hmget hle hli hfl hri HO HR HWL HWS
      go_wp2_with (at_lookup; refine wpList_lookup_raw rfl _ _ 45 rfl 25 Try.underlying45 (zeroL _) lb ln MB rfl HMB.out cur rfl HCL.out ?_; rw [HLE.out])
      go_loopw [6, 31] (fun o v wi => ∃ (j wn : Nat) (M : DataW Value) (K W : List Str), j ≤ fl ∧ v = .int .i64 j ∧ Hid (W.length = wn) ∧ wn + N.length + 1 = K.length + gk ∧ wn ≤ m + K.length ∧ Hid (Rin f N s K W cur j) ∧ Hid (IsSet wi w.heap.size K.length M K) ∧ Hid (wi.ownsRow (w.heap.size + 1) 9 1 o wn (svals W)) ∧ w.heap.size < wi.heap.size ∧ Below w.heap.size w wi) (fun _ v _ => fl - (intOf v).toNat)
      case atStart => exact ⟨0, wn, M, K, W', Nat.zero_le _, rfl, HWL2.out, by omega, by omega, HRI.out, HS.out, HO2.out, hz, hb⟩
      case round =>
        clear HRI HS HO2 HWL2 hKl hz c0
        obtain ⟨j, wn, M, K, W, hj, rfl, HWL, hg2, hwm, HR, HS, HO, hz, hbi⟩ := hrel
        obtain ⟨wi, hwi⟩ : ∃ wi : World, wi = wr := ⟨_, rfl⟩
        subst hwi
        have hKl := HR.out.len
        by_cases hlt : j < fl
        · obtain ⟨b2, off2, rfl, hbl2, hx2⟩ := HLI.out.at_ (by omega)
          have d0 := (hbi.cell (p := ⟨b2, off2 + j, none⟩) hbl2).trans (hx2 j hlt)
          have hjl : j < (f cur).length := by rw [HF.out]; exact hlt
          have HXN := Lib.hid (HNN.out _ _ (st_mem hjl))
          have HXL := Lib.hid (HNS.out _ HXN.out)
          have HG0 := Lib.hid (HS.out.get (st (f cur) j))
          have HOLD := Lib.hid (fun hz => HR.out.old hjl hz)
          have HNEW := Lib.hid (fun hz => HR.out.new HNN.out hjl hz)
          obtain ⟨x, hx'⟩ : ∃ x, st (f cur) j = x := ⟨_, rfl⟩
          rw [hx'] at d0 HXN HXL HG0 HOLD HNEW
          have HMP := Lib.hid HS.out.map
          obtain ⟨p, hp⟩ : ∃ p, inS K x = p := ⟨_, rfl⟩
          rw [hp] at HG0
          have HP := Lib.hid hp
          clear hx2 hx' hjl hp
          cases p
          · have HRN := Lib.hid (HNEW.out (inS_not.1 HP.out))
            have hkn := HRN.out.len
            rw [List.length_append] at hkn
            simp only [List.length_cons, List.length_nil] at hkn
            go_wp2_with (first
              | (at_lookup; refine wpList_lookup_raw rfl _ _ 56 rfl 4 Try.underlying56 (zeroB _) w.heap.size _ M rfl HMP.out x rfl HXL.out ?_; rw [HG0.out])
              | (at_mapUpdate; refine wpList_update_raw rfl _ _ _ 56 rfl 4 Try.underlying56 w.heap.size _ M rfl HMP.out (by omega) x (.bool true) rfl rfl HXL.out ?_; intro w5 hown5 hgrow5; have S5 := Lib.hid (HS.out.put x hown5); have O5 := Lib.hid (owns_kept_map HO.out hgrow5 (by omega)); have hz5 := hgrow5.size; have B5 := Lib.hid (hbi.grown hgrow5 hbi.size (fun g e => by cases e; exact Nat.le_refl _)); clear hown5 hgrow5)
              | (at_builtin; refine wpList_append_at rfl _ _ rfl (w.heap.size + 1) _ _ _ rfl (O5.out.alloc _) ⟨w5.heap.size, 0, none⟩ x rfl (cell_of_one (heap_alloc_new w5 _)) (by omega) (by simp; omega) ?_; intro v6 w6 hown6 hgrow6 hloc6; have O6 := Lib.hid hown6; have S6 := Lib.hid (IsSet.mk (map_kept_row (S5.out.map.alloc _) (O5.out.alloc _) hgrow6 (by omega)) S5.out.has S5.out.get); have hz6 := hgrow6.size; have B6 := Lib.hid (grown_below (B5.out.alloc B5.out.size _) (by have := B5.out.size; simp; omega) (owns_base (O5.out.alloc _) (by omega)) hgrow6); clear hown6 hgrow6 hloc6))
            go_roundw
            case rel => exact ⟨j + 1, wn + 1, _, K ++ [x], W ++ [x], by omega, by go_num, by show _ = _; rw [List.length_append, HWL.out]; rfl, by rw [List.length_append]; simp only [List.length_cons, List.length_nil]; omega, by rw [List.length_append]; simp only [List.length_cons, List.length_nil]; omega, HRN.out, by rw [List.length_append]; exact S6.out, O6.out, by simp at hz6; omega, B6.out⟩
            case measure => simp [intOf]; omega
          · have HRN := Lib.hid (HOLD.out (inS_iff.1 HP.out))
            go_wp2_with (at_lookup; refine wpList_lookup_raw rfl _ _ 56 rfl 4 Try.underlying56 (zeroB _) w.heap.size _ M rfl HMP.out x rfl HXL.out ?_; rw [HG0.out])
            go_roundw
            case rel => exact ⟨j + 1, wn, M, K, W, by omega, by go_num, HWL, hg2, hwm, HRN.out, HS.out, HO.out, hz, hbi⟩
            case measure => simp [intOf]; omega
        · obtain rfl : fl = j := by omega
          have HRE : Hid (Rch f N s K W) := by
            have := HR.out
            rw [← HF.out] at this
            exact this.end
          clear hlt hj HR
          go_wp2
          go_roundg (gk - 1)
          case rel => exact ⟨wn, M, K, W, HWL, by omega, hwm, HRE.out, HS.out, HO.out, hz, hbi⟩
          case measure => omega
end Go.Proofs.Ytmhbblehgckelaa
