/- Texts joined by wip/gen/merge.py: Hc Hd He Hf. -/
import Derived.OwnWalk
import Derived.Test.YtlhiiecaphibhaaMaf
set_option linter.unusedVariables false
set_option linter.unusedSimpArgs false
/- graph: Cyclic of the reference. -/
namespace Go.Proofs.Ytlhiiecaphibhaa
open Go.RowKit Go.Maps

def bvals (l : List Bool) : List Value := l.map fun x => .bool x
def bv (l : List Bool) (i : Nat) : Bool := l.getD i false
theorem bv_get {l : List Bool} {i : Nat} (h : i < l.length) : l[i]? = some (bv l i) := by
  unfold bv; rw [List.getD_eq_getElem?_getD, List.getElem?_eq_getElem h]; rfl
theorem bvals_get {l : List Bool} {i : Nat} (h : i < l.length) : (bvals l)[i]? = some (.bool (bv l i)) := by
  unfold bvals; rw [List.getElem?_map, bv_get h]; rfl
theorem bvals_set (l : List Bool) (i : Nat) (b : Bool) : (bvals l).set i (.bool b) = bvals (l.set i b) := by
  unfold bvals; rw [List.map_set]
theorem bv_set {c : List Bool} {y : Nat} (hy : y < c.length) (z : Bool) (i : Nat) : bv (c.set y z) i = if i = y then z else bv c i := by
  unfold bv
  rw [List.getD_eq_getElem?_getD, List.getD_eq_getElem?_getD]
  by_cases e : i = y
  · subst e; rw [List.getElem?_set_self hy, if_pos rfl]; rfl
  · rw [List.getElem?_set_ne (fun h => e h.symm), if_neg e]
theorem Try.infoBo : (Try.prog.info? 4).map (fun i => (i.zero, i.size, i.bytes)) = some (some (.bool false), 1, 1) := by kernel_rfl
theorem madeB (n : Nat) : (madeCells (Value.bool false).cells (n * 1)).toList = bvals (List.replicate n false) := by
  unfold madeCells bvals
  simp
  apply List.ext_getElem?
  intro i
  by_cases hi : i < n
  · simp [hi, Value.cells, Nat.mod_one]
  · simp [hi]
def bn : Value → Nat
  | .bool true => 1
  | _ => 0

/-- The nodes taken away, in the order in which they were. -/
structure Off (F : Gr) (g : List Bool) (T : List Nat) : Prop where
  len : g.length = F.length
  nd : T.Nodup
  lt : ∀ x ∈ T, x < F.length
  mem : ∀ x, x < F.length → (bv g x = true ↔ x ∈ T)
  led : ∀ (p x : Nat), T[p]? = some x → ∀ y ∈ tg F x, ∃ q, q < p ∧ T[q]? = some y
/-- None of the nodes before k can be taken away. -/
def Stuck (F : Gr) (g : List Bool) (k : Nat) : Prop := ∀ x, x < k → bv g x = false → ∃ y ∈ tg F x, bv g y = false
theorem Off.start (F : Gr) : Off F (List.replicate F.length false) [] := by
  refine ⟨by simp, List.nodup_nil, (fun x h => by cases h), fun x hx => ⟨fun h => ?_, (fun h => by cases h)⟩, (fun p x h => by simp at h)⟩
  unfold bv at h
  rw [List.getD_eq_getElem?_getD, List.getElem?_replicate, if_pos hx] at h
  cases h
section
variable {F : Gr} {g : List Bool} {T : List Nat} {x : Nat}
theorem Off.len_le (h : Off F g T) : T.length ≤ F.length := nodup_lt h.nd h.lt
theorem Off.push (h : Off F g T) (hf : Fine F) (hx : x < F.length) (h0 : bv g x = false) (h1 : (tg F x).all (bv g) = true) : Off F (g.set x true) (T ++ [x]) := by
  have hxT : x ∉ T := fun e => by have := (h.mem x hx).2 e; rw [h0] at this; cases this
  have hg : x < g.length := by rw [h.len]; exact hx
  refine ⟨by rw [List.length_set]; exact h.len, List.nodup_append.2 ⟨h.nd, by simp, fun a ha b hb => by simp at hb; subst hb; exact fun e => hxT (e ▸ ha)⟩, fun z hz => ?_, fun z hz => ?_, fun p z hp y hy => ?_⟩
  · rcases List.mem_append.1 hz with hz | hz
    · exact h.lt z hz
    · simp at hz; subst hz; exact hx
  · rw [bv_set hg, List.mem_append]
    by_cases e : z = x
    · subst e; rw [if_pos rfl]; exact ⟨fun _ => .inr (by simp), fun _ => rfl⟩
    · rw [if_neg e, h.mem z hz]
      constructor
      · exact .inl
      · rintro (h1 | h1)
        · exact h1
        · simp at h1; exact absurd h1 e
  · rcases Nat.lt_or_ge p T.length with hpl | hpl
    · rw [List.getElem?_append_left hpl] at hp
      obtain ⟨q, hq, e⟩ := h.led p z hp y hy
      exact ⟨q, hq, by rw [List.getElem?_append_left (by omega)]; exact e⟩
    · rw [List.getElem?_append_right hpl] at hp
      have hp0 : p - T.length = 0 := by
        have := (List.getElem?_eq_some_iff.1 hp).1
        simp at this; omega
      rw [hp0] at hp
      obtain rfl : x = z := by simpa using hp
      have hyT : y ∈ T := (h.mem y (tg_lt hf hx y hy)).1 (List.all_eq_true.1 h1 y hy)
      obtain ⟨q, hq, e⟩ := List.getElem_of_mem hyT
      exact ⟨q, by omega, by rw [List.getElem?_append_left hq, List.getElem?_eq_getElem hq, e]⟩
theorem Stuck.next {k : Nat} (h : Stuck F g k) (h1 : (!(bv g k) && (tg F k).all (bv g)) = false) : Stuck F g (k + 1) := by
  intro x hx h0
  rcases Nat.lt_succ_iff_lt_or_eq.1 hx with e | e
  · exact h x e h0
  · subst e
    rw [h0] at h1
    have h2 : (tg F x).all (bv g) = false := by simpa using h1
    rw [List.all_eq_false] at h2
    obtain ⟨y, hy, hn⟩ := h2
    exact ⟨y, hy, by simpa using hn⟩
/-- At the end all are taken exactly if there is no cycle. -/
theorem Off.done (h : Off F g T) (hf : Fine F) (hs : Stuck F g F.length) : T.length < F.length ↔ ¬ Acyc F := by
  constructor
  · rintro hlt ⟨rk, hrk⟩
    have hex : ∃ m, m < F.length ∧ bv g m = false := by
      refine Classical.byContradiction fun hno => ?_
      have hall : ∀ m, m < F.length → m ∈ T := fun m hm => (h.mem m hm).1 (by
        cases hb : bv g m
        · exact absurd ⟨m, hm, hb⟩ hno
        · rfl)
      have hp : (List.range F.length).Perm T := by
        refine (List.perm_ext_iff_of_nodup List.nodup_range h.nd).2 fun x => ?_
        rw [List.mem_range]
        exact ⟨fun hx => hall x hx, fun hx => h.lt x hx⟩
      have h1 := hp.length_eq
      rw [List.length_range] at h1
      omega
    obtain ⟨m, hm, hb⟩ := hex
    have low : ∀ k m, m < F.length → bv g m = false → rk m ≤ k → False := by
      intro k
      induction k with
      | zero =>
        intro m hm hb hk
        obtain ⟨y, hy, _⟩ := hs m hm hb
        have := hrk m hm y hy
        omega
      | succ k ih =>
        intro m hm hb hk
        obtain ⟨y, hy, hyb⟩ := hs m hm hb
        have := hrk m hm y hy
        exact ih y (tg_lt hf hm y hy) hyb (by omega)
    exact low (rk m) m hm hb (Nat.le_refl _)
  · intro hno
    refine Classical.byContradiction fun hge => hno ⟨fun x => T.idxOf x, fun x hx y hy => ?_⟩
    have hall : ∀ z, z < F.length → z ∈ T := by
      intro z hz
      refine Classical.byContradiction fun hzT => ?_
      have := nodup_lt (l := T ++ [z]) (n := F.length) (List.nodup_append.2 ⟨h.nd, by simp, fun a ha b hb => by simp at hb; subst hb; exact fun e => hzT (e ▸ ha)⟩) (fun w hw => by
        rcases List.mem_append.1 hw with hw | hw
        · exact h.lt w hw
        · simp at hw; subst hw; exact hz)
      simp at this; omega
    have hxp := List.idxOf_lt_length_of_mem (hall x hx)
    obtain ⟨q, hq, e⟩ := h.led (T.idxOf x) x (by rw [List.getElem?_eq_getElem hxp, List.getElem_idxOf]) y hy
    have hqy : T.idxOf y = q := by
      have hql : q < T.length := (List.getElem?_eq_some_iff.1 e).1
      have : T[q] = y := by rw [List.getElem?_eq_getElem hql] at e; exact Option.some.inj e
      rw [← this]
      exact List.Nodup.idxOf_getElem h.nd q hql
    show T.idxOf y < T.idxOf x
    omega
end
end Go.Proofs.Ytlhiiecaphibhaa

/- graph: the walk of the reference's Cyclic. -/
namespace Go.Proofs.Ytlhiiecaphibhaa
open Go.RowKit Go.Maps

theorem all_next {F : Gr} {g : List Bool} {k j y : Nat} (hy : (tg F k)[j]? = some y) : ((tg F k).take (j + 1)).all (bv g) = (((tg F k).take j).all (bv g) && bv g y) := by
  rw [List.take_add_one, hy, List.all_append]; simp
set_option maxRecDepth 100000 in
set_option maxHeartbeats 12800000 in
theorem rCyclic_any (w : World) (a : Option Addr) (n cap : Nat) (F : Gr) (h : IsG w a n cap F) (hf : Fine F) (hs : Siz F) :
    Calls Try.prog 23 #[.agg #[.slice a n cap]] w (CycPost F w) := by
  have hm := h.maxLe
  have hc := h.capLe
  have hl := h.len
  have hn := hs.len
  rw [hl] at hn
  unfold maxLen at hm
  obtain ⟨W, hW⟩ : ∃ W, w.alloc (.cells #[.slice a n cap] 25) = W := ⟨_, rfl⟩
  have B := Lib.hid (show Below w.heap.size w W from hW ▸ ba w _)
  have hwz : w.heap.size < W.heap.size := by rw [← hW]; simp
  have hbox : W.cell? ⟨w.heap.size, 0, none⟩ = some (.slice a n cap) := hW ▸ box_cell w _ _
  have H := Lib.hid (h.below B.out)
  have HL := Lib.hid hl
  have HF := Lib.hid hf
  have HS := Lib.hid hs
  obtain ⟨i0, hi, hz0, hz1, hz2⟩ := info_parts Try.infoBo
  have HI := Lib.hid (And.intro hi (And.intro hz0 (And.intro hz1 hz2)))
  clear h hl hf hs hi hz0 hz1 hz2
  go_enter Try.func23, Try.ntmps23
  go_wp2_with (at_make; (try rw [hW]); refine wpList_make_full _ rfl _ _ _ rfl W.heap.size 4 i0 (.bool false) 1 Try.underlying40 HI.out.1 HI.out.2.1 HI.out.2.2.1 _ _ _ _ n rfl rfl rfl rfl (by rw [HI.out.2.2.2]; omega) (by unfold maxLen; omega) (Nat.le_refl _) ?_; intro w1 hown hgrow; rw [madeB] at hown; have BW := Lib.hid ((Below.refl _ W).grown hgrow (Nat.le_refl _) (fun _ e => by cases e)); have O1 := Lib.hid hown; have bx1 := (BW.out.cell (p := ⟨w.heap.size, 0, none⟩) hwz).trans hbox; clear hown hgrow)
  clear hW hbox
  obtain ⟨lg, hlg⟩ : ∃ lg, W.heap.size = lg := ⟨_, rfl⟩
  have HLG := Lib.hid hlg
  rw [hlg] at O1 ⊢
  rw [hlg] at hwz BW
  have O2 : Hid (w1.ownsRow lg 4 1 (.slice (some ⟨lg, 0, none⟩) n n) n (bvals (List.replicate F.length false))) := by show World.ownsRow _ _ _ _ _ _ _; rw [HL.out]; exact O1.out
  have HBX : Hid (∀ V, Below lg W V → V.cell? ⟨w.heap.size, 0, none⟩ = W.cell? ⟨w.heap.size, 0, none⟩) := fun V hV => hV.cell (p := ⟨w.heap.size, 0, none⟩) hwz
  have hbx0 : W.cell? ⟨w.heap.size, 0, none⟩ = some (.slice a n cap) := (HBX.out _ BW.out).symm.trans bx1
  have HBOX : Hid (∀ V, Below lg W V → V.cell? ⟨w.heap.size, 0, none⟩ = some (.slice a n cap)) := fun V hV => (HBX.out V hV).trans hbx0
  have hbl : ∀ i, i < n → ∃ b off xa xc, a = some ⟨b, off, none⟩ ∧ ∀ V, Below lg W V → NdAt V b (off + i * 2) (nd F i) xa xc := fun i hi => by
    obtain ⟨b, off, e, hb, hx⟩ := H.out.at_ (by omega)
    obtain ⟨xa, xc, hd⟩ := hx i hi
    exact ⟨b, off, xa, xc, e, fun V hV => hd.below hb (HLG.out ▸ hV)⟩
  have HBL := Lib.hid hbl
  have HTL : Hid (∀ i, i < n → ∀ y ∈ tg F i, y < n) := fun i hi y hy => by
    have := tg_lt HF.out (by rw [HL.out]; exact hi) y hy
    rwa [HL.out] at this
  have HOFF := Lib.hid (Off.start F)
  clear O1 hlg bx1 hbl hbx0 HBX
  go_loopw [4, 5] (fun nv mv wr => ∃ (T : List Nat) (g : List Bool) (m : Bool), nv = .int .i64 (T.length : Nat) ∧ mv = .bool m ∧ T.length ≤ n ∧ Hid (Off F g T) ∧ Hid (m = false → Stuck F g n) ∧ Hid (wr.ownsRow lg 4 1 (.slice (some ⟨lg, 0, none⟩) n n) n (bvals g)) ∧ Hid (Below lg W wr)) (fun nv mv _ => 2 * (n - (intOf nv).toNat) + bn mv)
  case atStart => exact ⟨[], List.replicate F.length false, true, rfl, rfl, Nat.zero_le _, HOFF, (fun e => by cases e), O2, BW⟩
  case round =>
    clear O2 BW HOFF
    obtain ⟨T, g, m, rfl, rfl, hT, hOff, hSt, hO, hB⟩ := hrel
    have hlgw := (hO.out.lt lg rfl).2
    have bx := HBOX.out _ hB.out
    obtain ⟨t0, ht0⟩ : ∃ q, T.length = q := ⟨_, rfl⟩
    rw [ht0] at hT ⊢
    have HT0 := Lib.hid ht0
    clear ht0
    cases m
    · have HD : Hid (t0 < n ↔ ¬ Acyc F) := by
        have := hOff.out.done HF.out (by rw [HL.out]; exact hSt.out rfl)
        rw [HL.out, HT0.out] at this
        exact this
      clear hOff hSt hO
      by_cases hd : t0 < n
      · go_wp2
        go_ret
        exact ⟨true, rfl, ⟨fun _ => HD.out.1 hd, fun _ => rfl⟩, B.out.trans ((HLG.out ▸ hB.out : Below W.heap.size W _).mono B.out.size)⟩
      · have hd2 : ¬ ((t0 : Int) < (n : Int)) := by omega
        go_wp2
        go_ret
        exact ⟨false, rfl, ⟨fun h => (by cases h), fun h => absurd (HD.out.2 h) hd⟩, B.out.trans ((HLG.out ▸ hB.out : Below W.heap.size W _).mono B.out.size)⟩
    · clear hSt bx
      have TL : Hid (T.length = t0) := HT0.out
      go_wp2
      go_loopw [6, 4, 5] (fun kv nv mv wr => ∃ (k : Nat) (T : List Nat) (g : List Bool) (m : Bool), k ≤ n ∧ kv = .int .i64 k ∧ nv = .int .i64 (T.length : Nat) ∧ mv = .bool m ∧ T.length ≤ n ∧ t0 ≤ T.length ∧ (m = true → t0 < T.length) ∧ Hid (Off F g T) ∧ Hid (m = false → Stuck F g k) ∧ Hid (wr.ownsRow lg 4 1 (.slice (some ⟨lg, 0, none⟩) n n) n (bvals g)) ∧ Hid (Below lg W wr)) (fun kv _ _ _ => n - (intOf kv).toNat)
      case atStart => exact ⟨0, T, g, false, Nat.zero_le _, rfl, by rw [TL.out], rfl, by rw [TL.out]; exact hT, by rw [TL.out]; exact Nat.le_refl _, (fun e => by cases e), hOff, (fun _ x hx => absurd hx (Nat.not_lt_zero _)), hO, hB⟩
      case round =>
        clear hOff hO hB hlgw TL HT0
        obtain ⟨k, T, g, m, hk, rfl, rfl, rfl, hT, ht, hmt, hOff, hSt, hO, hB⟩ := hrel
        have hlgw := (hO.out.lt lg rfl).2
        have bx := HBOX.out _ hB.out
        obtain ⟨t1, ht1⟩ : ∃ q, T.length = q := ⟨_, rfl⟩
        rw [ht1] at hT ht hmt ⊢
        have HT1 := Lib.hid ht1
        have HMT := Lib.hid hmt
        clear ht1 hmt
        by_cases hlt : k < n
        · obtain ⟨b, off, xa, xc, rfl, hnd⟩ := HBL.out k hlt
          have c1 := (hnd _ hB.out).c1
          have HND := Lib.hid hnd
          have hs1 := (hnd _ hB.out).is.capLe
          have hs2 := (hnd _ hB.out).is.maxLe
          unfold maxLen at hs2
          have hkF : k < F.length := by rw [HL.out]; exact hlt
          have hal := HS.out.arcs _ (nd_mem hkF)
          have HTG : Hid (tg F k = (nd F k).2.map fun a => a.2.toNat) := rfl
          have HTP := Lib.hid (fun z hz => ((HF.out _ (nd_mem hkF)).1 z hz).1)
          have HTLK := Lib.hid (HTL.out k hlt)
          obtain ⟨y, hy⟩ : ∃ y, nd F k = y := ⟨_, rfl⟩
          rw [hy] at c1 hs1 hal HTG HTP HND
          obtain ⟨ll, hll⟩ : ∃ q, y.2.length = q := ⟨_, rfl⟩
          have HLL := Lib.hid hll
          have HTLEN : Hid ((tg F k).length = ll) := by show _ = _; rw [HTG.out, List.length_map, hll]
          have HC1 : Hid (∀ V, Below lg W V → V.cell? ⟨b, off + k * 2 + 1, none⟩ = some (.slice xa ll xc) ∧ IsArcs V xa ll xc y.2) := fun V hV => by
            have h1 := (HND.out V hV).c1
            have h2 := (HND.out V hV).is
            rw [hll] at h1 h2
            exact ⟨h1, h2⟩
          rw [hll] at c1 hs1 hal
          have hgl : k < g.length := by rw [hOff.out.len]; exact hkF
          have e1 : (_ : World).cell? ⟨lg, k, none⟩ = some (.bool (bv g k)) := (hO.out.cellAt k (by omega)).trans (bvals_get hgl)
          obtain ⟨d, hd⟩ : ∃ d, bv g k = d := ⟨_, rfl⟩
          rw [hd] at e1
          have HDD := Lib.hid hd
          have HKF := Lib.hid hkF
          have HGL := Lib.hid hgl
          have HOF := Lib.hid hOff.out
          have HSF := Lib.hid hSt.out
          have OX := Lib.hid hO.out
          have BX := Lib.hid hB.out
          clear hy hll hO hB hnd hkF hd hgl hOff hSt
          go_wp2
          go_loopw [8, 7] (fun jv av wr => ∃ (j : Nat) (al : Bool), j ≤ ll ∧ jv = .int .i64 j ∧ av = .bool al ∧ Hid (al = (!d && ((tg F k).take j).all (bv g))) ∧ Hid (wr.ownsRow lg 4 1 (.slice (some ⟨lg, 0, none⟩) n n) n (bvals g)) ∧ Hid (Below lg W wr)) (fun jv _ _ => ll - (intOf jv).toNat)
          case atStart => exact ⟨0, !d, Nat.zero_le _, rfl, rfl, (by show _ = _; simp), OX, BX⟩
          case round =>
            clear OX BX e1 c1 bx
            obtain ⟨j, al, hj, rfl, rfl, hA, hO, hB⟩ := hrel
            have hlgw := (hO.out.lt lg rfl).2
            have bx := HBOX.out _ hB.out
            obtain ⟨c1, har⟩ := HC1.out _ hB.out
            by_cases hjl : j < ll
            · obtain ⟨ab, ao, rfl, _, hax⟩ := har.at_ (by omega)
              obtain ⟨_, d1⟩ := hax j hjl
              have hjL : j < y.2.length := by rw [HLL.out]; exact hjl
              have hto := HTP.out _ (ar_mem hjL)
              have htj : (tg F k)[j]? = some (ar y.2 j).2.toNat := by rw [HTG.out, List.getElem?_map, ar_get hjL]; rfl
              obtain ⟨f, hf⟩ : ∃ f, ar y.2 j = f := ⟨_, rfl⟩
              rw [hf] at d1 hto htj
              obtain ⟨ff, tt⟩ := f
              obtain ⟨tn, rfl⟩ : ∃ tn : Nat, tt = (tn : Int) := ⟨tt.toNat, (Int.toNat_of_nonneg hto).symm⟩
              dsimp only at d1 htj
              rw [Int.toNat_natCast] at htj
              have htn := HTLK.out tn (List.mem_of_getElem? htj)
              have HNX := Lib.hid (all_next (g := g) htj)
              have e1 : (_ : World).cell? ⟨lg, tn, none⟩ = some (.bool (bv g tn)) := (hO.out.cellAt tn (by omega)).trans (bvals_get (by rw [HOF.out.len, HL.out]; exact htn))
              obtain ⟨c, hcc⟩ : ∃ c, bv g tn = c := ⟨_, rfl⟩
              rw [hcc] at e1 HNX
              have htn0 : (0 : Int) ≤ (tn : Int) := by omega
              have htn1 : (tn : Int) < (n : Int) := by omega
              clear har hax hjL hto htj hf hcc hlgw
              cases al
              · have hA2 : Hid (false = (!d && ((tg F k).take (j + 1)).all (bv g))) := by
                  show _ = _
                  rw [HNX.out, ← Bool.and_assoc, ← hA.out]; rfl
                clear hA
                go_wp2
                go_roundw
                case rel => exact ⟨j + 1, false, by omega, by go_num, rfl, hA2, hO, hB⟩
                case measure => simp [intOf]; omega
              · have hA2 : Hid (c = (!d && ((tg F k).take (j + 1)).all (bv g))) := by
                  show _ = _
                  rw [HNX.out, ← Bool.and_assoc, ← hA.out]; rfl
                clear hA
                go_wp2
                go_roundw
                case rel => exact ⟨j + 1, c, by omega, by go_num, rfl, hA2, hO, hB⟩
                case measure => simp [intOf]; omega
            · obtain rfl : ll = j := by omega
              have hA2 : Hid (al = (!d && (tg F k).all (bv g))) := by
                have := hA.out
                rw [← HTLEN.out, List.take_length] at this
                exact this
              clear hA
              cases al
              · have ST : Hid (m = false → Stuck F g (k + 1)) := fun e => (HSF.out e).next (by rw [HDD.out]; exact hA2.out.symm)
                go_wp2
                go_roundw
                case rel => exact ⟨k + 1, T, g, m, by omega, by go_num, by rw [HT1.out], rfl, by rw [HT1.out]; exact hT, by rw [HT1.out]; exact ht, (by rw [HT1.out]; exact HMT.out), HOF, ST, hO, hB⟩
                case measure => simp [intOf]; omega
              · have hd0 : d = false ∧ (tg F k).all (bv g) = true := by
                  have := hA2.out
                  cases d
                  · exact ⟨rfl, by simpa using this.symm⟩
                  · simp at this
                have NW := Lib.hid (HOF.out.push HF.out HKF.out (by rw [HDD.out]; exact hd0.1) hd0.2)
                have hnl := NW.out.len_le
                have hll2 : (T ++ [k]).length = t1 + 1 := by rw [List.length_append, HT1.out]; rfl
                rw [hll2, HL.out] at hnl
                have HLN := Lib.hid hll2
                have e2 : (_ : World).cell? ⟨lg, k, none⟩ = some (.bool (bv g k)) := (hO.out.cellAt k (by omega)).trans (bvals_get HGL.out)
                have e3 : (_ : World).frozen? ⟨lg, k, none⟩ = false := hO.out.frozenAt _
                have hst := hO.out.stored k (.bool true)
                rw [bvals_set] at hst
                have OS := Lib.hid hst.1
                have BS := Lib.hid (hB.out.setCell (p := ⟨lg, k, none⟩) (Nat.le_refl _) (.bool true))
                have hw1 : IntKind.i64.wrap ((t1 : Int) + 1) = (t1 : Int) + 1 := by rw [IntKind.wrap_i64]; omega
                clear hA2 hd0 hll2 hst hO hB
                go_wp2
                go_roundw
                case rel => exact ⟨k + 1, T ++ [k], g.set k true, true, by omega, by go_num, (by rw [HLN.out]; go_num), rfl, by rw [HLN.out]; exact hnl, by rw [HLN.out]; omega, (fun _ => by rw [HLN.out]; omega), NW, (fun e => by cases e), OS, BS⟩
                case measure => simp [intOf]; omega
        · obtain rfl : n = k := by omega
          have hms : 2 * (n - t1) + bn (.bool m) < 2 * (n - t0) + bn (.bool true) := by
            cases m
            · show 2 * (n - t1) + 0 < 2 * (n - t0) + 1; omega
            · have := HMT.out rfl
              show 2 * (n - t1) + 1 < 2 * (n - t0) + 1; omega
          have HMS := Lib.hid hms
          clear hms
          go_wp2
          go_roundw
          case rel => exact ⟨T, g, m, by rw [HT1.out], rfl, by rw [HT1.out]; exact hT, hOff, hSt, hO, hB⟩
          case measure => first | exact HMS.out | simpa [intOf] using HMS.out
end Go.Proofs.Ytlhiiecaphibhaa

/- graph: canonical forms as the laws ask for them; the walk of the law GraphSubs. -/
namespace Go.Proofs.Ytlhiiecaphibhaa
open Go.RowKit Go.Maps

theorem rCyclic_val (b : Bool) (w : World) (a : Option Addr) (n cap : Nat) (F : Gr) (h : IsG w a n cap F) (hf : Fine F) (hs : Siz F) (hb : b = true ↔ ¬ Acyc F) :
    Calls Try.prog 23 #[.agg #[.slice a n cap]] w fun e w' => e = .returned (.bool b) ∧ Below w.heap.size w w' := by
  refine (rCyclic_any w a n cap F h hf hs).mono ?_
  rintro e w' ⟨b', rfl, hb', hbl⟩
  have : b' = b := by
    have h1 := hb'.trans hb.symm
    cases b <;> cases b' <;> simp_all
  rw [this]
  exact ⟨rfl, hbl⟩
/-- A graph of at most twelve nodes that is its own canonical form. -/
noncomputable def canB (F : Gr) : Bool := lite F && (frm F == 0 && cG F (can F) == 0)
set_option maxRecDepth 100000 in
set_option maxHeartbeats 3200000 in
theorem canonical_any (w : World) (a : Option Addr) (n cap : Nat) (F : Gr) (h : IsG w a n cap F) :
    Calls Try.prog 19 #[.agg #[.slice a n cap]] w fun e w' => e = .returned (.bool (canB F)) ∧ Below w.heap.size w w' := by
  obtain ⟨W, hW⟩ : ∃ W, w.alloc (.cells #[.slice a n cap] 25) = W := ⟨_, rfl⟩
  have B := Lib.hid (show Below w.heap.size w W from hW ▸ ba w _)
  have hwz : w.heap.size < W.heap.size := by rw [← hW]; simp
  have hbox : W.cell? ⟨w.heap.size, 0, none⟩ = some (.slice a n cap) := hW ▸ box_cell w _ _
  have H := Lib.hid (h.below B.out)
  clear h
  cases hb : lite F
  · have LV := Lib.hid (Light_val false W a n cap F H.out hb)
    have HR : Hid (canB F = false) := by show _ = _; unfold canB; rw [hb]; rfl
    clear hb
    go_enter Try.func19, Try.ntmps19
    go_wp2_with fail
    (try rw [hW])
    refine LV.out.mono ?_
    rintro e w1 ⟨rfl, hb1⟩
    go_wp2
    go_ret
    exact ⟨by rw [HR.out]; rfl, B.out.trans (hb1.mono B.out.size)⟩
  · have LV := Lib.hid (Light_val true W a n cap F H.out hb)
    have hs := lite_siz hb
    have HN := Lib.hid hs.can.nums
    have HM := Lib.hid hs.nums
    have HR : Hid (canB F = (frm F == 0 && cG F (can F) == 0)) := by show _ = _; unfold canB; rw [hb]; rfl
    obtain ⟨G, hG⟩ : ∃ G, can F = G := ⟨_, rfl⟩
    have RA := Lib.hid (fun V (hV : IsG V a n cap F) => rCanon_any V a n cap F hV (.inl hs))
    unfold CanonPost at RA
    rw [hG] at HN HR RA
    obtain ⟨e0, he0⟩ : ∃ e0, frm F = e0 := ⟨_, rfl⟩
    rw [he0] at HR RA
    obtain ⟨m, hm⟩ : ∃ m, G.length = m := ⟨_, rfl⟩
    rw [hm] at RA
    obtain ⟨d, hd⟩ : ∃ d, (cG F G == 0) = d := ⟨_, rfl⟩
    rw [hd] at HR
    have HD := Lib.hid hd
    clear hb hs hG he0 hm hd
    by_cases h0 : e0 = 0
    · subst h0
      have HR2 : Hid (canB F = d) := by show _ = _; rw [HR.out]; rfl
      clear HR
      go_enter Try.func19, Try.ntmps19
      go_wp2_with fail
      (try rw [hW])
      refine LV.out.mono ?_
      rintro e w1 ⟨rfl, hb1⟩
      have x1 := (hb1.cell (p := ⟨w.heap.size, 0, none⟩) hwz).trans hbox
      have B1 := Lib.hid hb1
      have h1z : w.heap.size < w1.heap.size := Nat.lt_of_lt_of_le hwz hb1.size
      clear hb1 hbox hW
      go_wp2_with fail
      refine (RA.out w1 (H.out.below B1.out)).mono ?_
      rintro e w2 ⟨fa, fc, rfl, hI, hb2⟩
      have hz : (((0 : Nat) : Nat) : Int) = 0 := rfl
      rw [hz]
      clear hz
      obtain ⟨w3, hw3⟩ : ∃ w3, w2.alloc (.cells #[.slice fa m fc] 25) = w3 := ⟨_, rfl⟩
      have hb3 : Below w2.heap.size w2 w3 := hw3 ▸ ba w2 _
      have y3 : w3.cell? ⟨w2.heap.size, 0, none⟩ = some (.slice fa m fc) := hw3 ▸ box_cell w2 _ _
      have B13 := Lib.hid (hb2.trans (hb3.mono hb2.size))
      have x3 := (B13.out.cell (p := ⟨w.heap.size, 0, none⟩) h1z).trans x1
      have I3 := Lib.hid (hI.below hb3)
      have B3 := Lib.hid (B1.out.trans (B13.out.mono B1.out.size))
      clear hI hb2 hb3 x1
      go_wp2_with (go_at_call 14; (try rw [hw3]); (with_reducible refine (rEqual_val d w3 a fa n cap m fc F G (H.out.below B3.out) I3.out HM.out HN.out HD.out).mono ?_); rintro e w6 ⟨rfl, hb6⟩; have B6 := Lib.hid (B3.out.trans (hb6.mono B3.out.size)); clear hb6)
      go_ret
      exact ⟨by rw [HR2.out]; rfl, B.out.trans (B6.out.mono B.out.size)⟩
    · have hne : ¬ ((e0 : Nat) : Int) = 0 := by omega
      have HR2 : Hid (canB F = false) := by
        show _ = _
        rw [HR.out]
        have : (e0 == 0) = false := by simpa using h0
        rw [this]; rfl
      clear HR h0
      go_enter Try.func19, Try.ntmps19
      go_wp2_with fail
      (try rw [hW])
      refine LV.out.mono ?_
      rintro e w1 ⟨rfl, hb1⟩
      have x1 := (hb1.cell (p := ⟨w.heap.size, 0, none⟩) hwz).trans hbox
      have B1 := Lib.hid hb1
      clear hb1 hbox hW
      go_wp2_with fail
      refine (RA.out w1 (H.out.below B1.out)).mono ?_
      rintro e w2 ⟨fa, fc, rfl, hI, hb2⟩
      have B2 := Lib.hid ((B1.out.trans (hb2.mono B1.out.size)).alloc (by have := B1.out.size; have := hb2.size; omega) (.cells #[.slice fa m fc] 25))
      clear hI hb2
      go_wp2
      go_ret
      exact ⟨by rw [HR2.out]; rfl, B.out.trans (B2.out.mono B.out.size)⟩
theorem canonical_val (b : Bool) (w : World) (a : Option Addr) (n cap : Nat) (F : Gr) (h : IsG w a n cap F) (hb : canB F = b) :
    Calls Try.prog 19 #[.agg #[.slice a n cap]] w fun e w' => e = .returned (.bool b) ∧ Below w.heap.size w w' := hb ▸ canonical_any w a n cap F h
theorem canB_ok {F : Gr} (h : canB F = true) : lite F = true ∧ OkG F ∧ can F = F := by
  unfold canB at h
  simp only [Bool.and_eq_true, beq_iff_eq] at h
  exact ⟨h.1, frm_ok.1 h.2.1, (cG_eq h.2.2).symm⟩
end Go.Proofs.Ytlhiiecaphibhaa

/- graph: the walk of the law GraphSubs. -/
namespace Go.Proofs.Ytlhiiecaphibhaa
open Go.RowKit Go.Maps

set_option maxRecDepth 100000 in
set_option maxHeartbeats 6400000 in
theorem GraphSubs_law (w : World) (a : Option Addr) (n cap : Nat) (F : Gr) (h : IsG w a n cap F) :
    Calls Try.prog 5 #[.agg #[.slice a n cap]] w fun e w' => e = .returned (.bool true) ∧ Below w.heap.size w w' := by
  have hm := h.maxLe
  have hc := h.capLe
  unfold maxLen at hm
  obtain ⟨W, hW⟩ : ∃ W, w.alloc (.cells #[.slice a n cap] 25) = W := ⟨_, rfl⟩
  have B := Lib.hid (show Below w.heap.size w W from hW ▸ ba w _)
  have hwz : w.heap.size < W.heap.size := by rw [← hW]; simp
  have hbox : W.cell? ⟨w.heap.size, 0, none⟩ = some (.slice a n cap) := hW ▸ box_cell w _ _
  have KP : Hid (∀ V, Below W.heap.size W V → V.cell? ⟨w.heap.size, 0, none⟩ = some (.slice a n cap)) := fun V hV => (hV.cell (p := ⟨w.heap.size, 0, none⟩) hwz).trans hbox
  have H := Lib.hid (h.below B.out)
  have HL := Lib.hid h.len
  clear h
  cases hb : canB F
  · have CV := Lib.hid (canonical_val false W a n cap F H.out hb)
    clear hb
    go_enter Try.func5, Try.ntmps5
    go_wp2_with (first
      | (go_at_call 19; (try rw [hW]); (with_reducible refine CV.out.mono ?_); rintro e w1 ⟨rfl, hb1⟩; have B1 := Lib.hid hb1; clear hb1)
      | (go_at_call 16; refine (ex_holds w1).mono ?_; rintro e w2 ⟨rfl, hb2⟩; have B2 := Lib.hid (B1.out.trans (hb2.mono B1.out.size)); clear hb2))
    go_ret
    exact ⟨rfl, B.out.trans (B2.out.mono B.out.size)⟩
  · have CV := Lib.hid (canonical_val true W a n cap F H.out hb)
    obtain ⟨hli, hok, _⟩ := canB_ok hb
    have HF := Lib.hid hok.fine
    have HS := Lib.hid (lite_siz hli)
    obtain ⟨bc, hbc⟩ : ∃ b : Bool, (b = true ↔ ¬ Acyc F) := by
      by_cases hA : Acyc F
      · exact ⟨false, fun e => (by cases e), fun e => absurd hA e⟩
      · exact ⟨true, fun _ => hA, fun _ => rfl⟩
    have CY := Lib.hid (fun V (hV : Below W.heap.size W V) => Cyclic_val bc V a n cap F (H.out.below hV) HF.out HS.out hbc)
    have RY := Lib.hid (fun V (hV : Below W.heap.size W V) => rCyclic_val bc V a n cap F (H.out.below hV) HF.out HS.out hbc)
    clear hb hli hok hbc
    go_enter Try.func5, Try.ntmps5
    go_wp2_with (go_at_call 19; (try rw [hW]); (with_reducible refine CV.out.mono ?_); rintro e w1 ⟨rfl, hb1⟩; have B1 := Lib.hid hb1; have bx := KP.out w1 hb1; clear hb1)
    clear hW CV hbox
    go_loopw [11] (fun kv wr => ∃ k : Nat, k ≤ n ∧ kv = .int .i64 k ∧ Hid (Below W.heap.size W wr)) (fun kv _ => n - (intOf kv).toNat)
    case atStart => exact ⟨0, Nat.zero_le _, rfl, B1⟩
    case round =>
      clear B1 bx
      obtain ⟨k, hk, rfl, hB⟩ := hrel
      have bx := KP.out _ hB.out
      by_cases hlt : k < n
      · have S1 := Lib.hid (fun V (hV : Below W.heap.size W V) => Sub_cf V a n cap F (H.out.below hV) HF.out HS.out k hlt)
        have S2 := Lib.hid (fun V (hV : Below W.heap.size W V) => rSub_cf V a n cap F (H.out.below hV) HF.out HS.out k hlt)
        have HN := Lib.hid ((HS.out.cf HF.out (by rw [HL.out]; exact hlt : k < F.length)).nums)
        obtain ⟨C, hC⟩ : ∃ C, cf F k = C := ⟨_, rfl⟩
        rw [hC] at S1 S2 HN
        obtain ⟨m, hmm⟩ : ∃ m, C.length = m := ⟨_, rfl⟩
        rw [hmm] at S1 S2
        have EQ := Lib.hid (fun V aa cc a' c' (h1 : IsG V aa m cc C) (h2 : IsG V a' m c' C) => rEqual_val true V aa a' m cc m c' C C h1 h2 HN.out HN.out (by rw [cG_self]; rfl))
        have BD := Lib.hid hB.out.drew
        clear hC hmm HN
        go_wp2_with fail
        go_region_held3 (fun w' => w'.cell? ⟨w.heap.size, 0, none⟩ = some (.slice a n cap)) (first | exact bx | exact KP.out _ BD.out | exact KP.out _ B16.out | exact KP.out _ B19.out | exact KP.out _ B20.out) ((first
          | (go_at_call 20; (with_reducible refine (S1.out _ BD.out).mono ?_); rintro e w16 ⟨sa, sc, rfl, hI, hbx⟩; have B16 := Lib.hid (BD.out.trans (hbx.mono BD.out.size)); have I16 := Lib.hid hI; clear hI hbx)
          | (go_at_call 21; (with_reducible refine (S2.out w16 B16.out).mono ?_); rintro e w19 ⟨ra, rc, rfl, hI, hbx⟩; have B19 := Lib.hid (B16.out.trans (hbx.mono B16.out.size)); have I19 := Lib.hid hI; have I16 := Lib.hid (I16.out.below hbx); clear hI hbx)
          | (go_at_call 14; (with_reducible refine (EQ.out w19 _ _ _ _ I16.out I19.out).mono ?_); rintro e w20 ⟨rfl, hbx⟩; have B20 := Lib.hid (B19.out.trans (hbx.mono B19.out.size)); clear hbx)))
        go_wp2
        go_roundw
        case rel => exact ⟨k + 1, by omega, by go_num, B20⟩
        case measure => simp [intOf]; omega
      · obtain rfl : n = k := by omega
        have BD := Lib.hid hB.out.drew
        cases bc
        all_goals
          go_wp2_with fail
          go_region_held3 (fun w' => w'.cell? ⟨w.heap.size, 0, none⟩ = some (.slice a n cap)) (first | exact bx | exact KP.out _ BD.out | exact KP.out _ B24.out | exact KP.out _ B26.out | exact KP.out _ BX.out) ((first
            | (go_at_call 22; (with_reducible refine (CY.out _ BD.out).mono ?_); rintro e w24 ⟨rfl, hbx⟩; have B24 := Lib.hid (BD.out.trans (hbx.mono BD.out.size)); clear hbx)
            | (go_at_call 23; (with_reducible refine (RY.out w24 B24.out).mono ?_); rintro e w26 ⟨rfl, hbx⟩; have B26 := Lib.hid (B24.out.trans (hbx.mono B24.out.size)); clear hbx)
            | (go_at_call 16; (with_reducible refine (ex_holds w26).mono ?_); rintro e wx ⟨rfl, hbx⟩; have BX := Lib.hid (B26.out.trans (hbx.mono B26.out.size)); clear hbx)))
          go_wp2
          go_ret
          exact ⟨rfl, B.out.trans (BX.out.mono B.out.size)⟩
end Go.Proofs.Ytlhiiecaphibhaa
