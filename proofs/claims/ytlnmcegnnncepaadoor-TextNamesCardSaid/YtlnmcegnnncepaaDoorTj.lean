/- Walks of package text: Words, on both sides; the reference's Same. -/
import Derived.Test.YtlnmcegnnncepaaDoorTi
import Derived.Lib.SplitLaws
import Derived.Laws.AppendOwn
import Derived.Maps.AppendAt
namespace Go.Proofs.YtlnmcegnnncepaaDoor
open Go.RowKit

theorem one_newS (w : World) (x : Value) (t : TypeId) : ∀ j u, [x][j]? = some u → (w.alloc (.cells #[x] t)).cell? ((⟨w.heap.size, 0, none⟩ : Addr).add j) = some u := cell_one_new w x t

theorem wfold_count (l : List UInt8) : ∀ (o : List (List UInt8)) (t : List UInt8), (l.foldl wstep (o, t)).1.length = o.length + l.count 32 := by
  induction l with
  | nil => intro o t; simp
  | cons b r ih =>
    intro o t
    rw [List.foldl_cons]
    by_cases h : b = 32
    · have e : wstep (o, t) b = (o ++ [t], []) := by simp [wstep, h]
      rw [e, ih, h, List.count_cons_self]
      simp; omega
    · have e : wstep (o, t) b = (o, t ++ [b]) := by simp [wstep, h]
      rw [e, ih, List.count_cons_of_ne h]
theorem sp_len (l : List UInt8) : (sp l).length = l.count 32 + 1 := by
  unfold sp wfold
  rw [List.length_append, wfold_count]; simp
theorem mk_self (s : ByteArray) : mk s.data.toList = s := by
  apply ByteArray.ext; simp [mk]
theorem splitB_sp (s : ByteArray) : (Lib.splitB ⟨#[32]⟩ 0 (Lib.countB s ⟨#[32]⟩) s) = (sp s.data.toList).map mk := by
  have h := Lib.splitB_data ⟨#[32]⟩ 0 (Lib.countB s ⟨#[32]⟩) s
  have hc : Lib.countB s ⟨#[32]⟩ = s.data.toList.count 32 := Lib.count_one 32 s.data.toList
  have e : sp s.data.toList = Lib.splitK (⟨#[32]⟩ : ByteArray).data.toList 0 (Lib.countB s ⟨#[32]⟩) s.data.toList := sp_split _ _ (by rw [hc]; exact Nat.le_refl _)
  rw [e, ← h, List.map_map]
  have : (mk ∘ fun (x : ByteArray) => x.data.toList) = id := funext fun x => mk_self x
  rw [this, List.map_id]
theorem Split_any (s : ByteArray) (w : World) (hs : s.size ≤ 1000000) (hw : TxtOk w) :
    Calls Tryd.prog 66 #[.string s, .string ⟨#[32]⟩] w fun e w' => e = .returned (.slice (some ⟨w.heap.size, 0, none⟩) (sp s.data.toList).length (sp s.data.toList).length) ∧ w' = w.alloc (.cells (svals (sp s.data.toList)).toArray 9) := by
  obtain ⟨m, hm⟩ := hw.mx
  refine (Tryd.strings_Split s ⟨#[32]⟩ m w (by omega) hm (by decide)).mono fun e w' h => ?_
  have hc : Lib.countB s ⟨#[32]⟩ = s.data.toList.count 32 := Lib.count_one 32 s.data.toList
  refine ⟨?_, ?_⟩
  · rw [h.1, sp_len, hc]
  · rw [h.2, splitB_sp, List.map_map]; rfl
theorem svals_cell (w : World) (zs : List (List UInt8)) (j : Nat) (hj : j < zs.length) : (w.alloc (.cells (svals zs).toArray 9)).cell? ⟨w.heap.size, j, none⟩ = some (.string (mk (st zs j))) := by
  rw [World.cell?_alloc_new]
  simp [svals, st, List.getD_eq_getElem?_getD, List.getElem?_eq_getElem hj]
theorem IsStrs.fresh (w : World) (zs : List (List UInt8)) (h : zs.length ≤ 1000001) : IsStrs (w.alloc (.cells (svals zs).toArray 9)) (some ⟨w.heap.size, 0, none⟩) zs.length zs.length zs :=
  ⟨rfl, Nat.le_refl _, by unfold maxLen; omega, fun _ => ⟨w.heap.size, 0, rfl, by simp, fun i hi => by rw [Nat.zero_add]; exact svals_cell w zs i hi⟩⟩
theorem Contains_any (w : World) (zs : List (List UInt8)) (h : zs.length ≤ 1000001) :
    Calls Tryd.prog 67 #[.slice (some ⟨w.heap.size, 0, none⟩) zs.length zs.length, .string ⟨#[]⟩] (w.alloc (.cells (svals zs).toArray 9)) fun e w' => e = .returned (.bool (zs.contains [])) ∧ w' = w.alloc (.cells (svals zs).toArray 9) := by
  refine (Tryd.slices_Contains_string w.heap.size 0 zs.length zs.length (zs.map mk) ⟨#[]⟩ _ (by simp) (by omega) (fun j hj => ?_)).mono fun e w' h => ⟨?_, h.2⟩
  · rw [List.length_map] at hj
    rw [Nat.zero_add, svals_cell w zs j hj]
    simp [st, List.getD_eq_getElem?_getD, List.getElem?_eq_getElem hj]
  · rw [h.1]
    congr 2
    rw [Bool.eq_iff_iff, Lib.containsS_iff, List.contains_iff_mem, List.take_of_length_le (by simp), List.mem_map]
    constructor
    · rintro ⟨x, hx, he⟩
      have := congrArg (fun b : ByteArray => b.data.toList) he
      simp [mk] at this
      rw [← this]; exact hx
    · intro hx
      exact ⟨[], hx, rfl⟩

set_option maxRecDepth 100000 in
theorem Words_any (s : ByteArray) (w : World) (hs : s.size ≤ 1000000) (hw : TxtOk w) :
    Calls Tryd.prog 26 #[.string s] w (RetS (wordsV s.data.toList) (wordsE s.data.toList) w) := by
  by_cases h0 : s.size = 0
  · obtain rfl := empty_of h0
    clear h0 hs hw
    go_enter Tryd.func26, Tryd.ntmps26
    go_wp2
    go_ret2
    exact ⟨none, 0, 0, rfl, IsStrs.nil _, Below.refl _ _⟩
  have hp : 0 < s.size := by omega
  have hne := ne_empty hp
  have hnn : Hid (s.data.toList.isEmpty = false) := ne_nil_of hp
  have HS := Lib.hid (show s.size ≤ maxLen by unfold maxLen; omega)
  have HSS := Lib.hid hs
  have HW := Lib.hid hw
  obtain ⟨n, hn⟩ : ∃ n, pre (by8 kPri) s.data.toList = n := ⟨_, rfl⟩
  have hnl := pre_le (by8 kPri) s.data.toList
  rw [hn, size_list] at hnl
  have HN := Lib.hid hn
  have hall : n = s.size → s.data.toList.all (by8 kPri) = true := fun e => by
    rw [List.all_eq_true]
    exact (pre_all (by8 kPri) s.data.toList).1 (by rw [hn, e, size_list])
  have hnall : n < s.size → s.data.toList.all (by8 kPri) = false := fun e => by
    rw [Bool.eq_false_iff]
    intro h
    have := (pre_all (by8 kPri) s.data.toList).2 (by rw [← List.all_eq_true]; exact h)
    rw [hn, size_list] at this
    omega
  clear h0 hn hw
  by_cases hlt : n < s.size
  · have hb : wBad s.data.toList = true := by unfold wBad; rw [hnall hlt]; rfl
    obtain ⟨g1, g2⟩ := words_bad hb
    have G1 := Lib.hid g1
    have G2 := Lib.hid g2
    clear hall hnall hb g1 g2
    go_enter Tryd.func26, Tryd.ntmps26
    go_wp2_with (go_at_call 58; refine (prefix_any _ kPri (by8 kPri) false isPrintable_tells isPrintable_enters (kind_low kPri_hi) s _ HS.out).mono ?_; rw [HN.out]; rintro e w' ⟨rfl, hb⟩)
    go_ret2
    rw [G1.out, G2.out]
    exact ⟨none, 0, 0, rfl, IsStrs.nil _, hb⟩
  · obtain rfl : n = s.size := by omega
    have hA := hall rfl
    obtain ⟨zs, hz⟩ : ∃ zs, sp s.data.toList = zs := ⟨_, rfl⟩
    have hzl : zs.length ≤ 1000001 := by
      have h1 := sp_len s.data.toList
      have h2 := List.count_le_length (a := (32 : UInt8)) (l := s.data.toList)
      rw [hz] at h1
      rw [size_list] at h2
      omega
    have HZL := Lib.hid hzl
    have hbad : wBad s.data.toList = zs.contains [] := by unfold wBad; rw [hA, hnn.out, hz]; simp
    have hsp := fun (w : World) (h : TxtOk w) => Split_any s w hs h
    rw [hz] at hsp
    have HSP := Lib.hid hsp
    clear hsp
    cases hc : zs.contains []
    · obtain ⟨g1, g2⟩ := words_good (hbad.trans hc) hnn.out
      rw [hz] at g1
      have G1 := Lib.hid g1
      have G2 := Lib.hid g2
      have HC := Lib.hid hc
      clear hall hnall hA hz hbad g1 g2 hc hzl hs
      go_enter Tryd.func26, Tryd.ntmps26
      go_wp2_with (first | (go_at_call 58; refine (prefix_any _ kPri (by8 kPri) false isPrintable_tells isPrintable_enters (kind_low kPri_hi) s _ HS.out).mono ?_; rw [HN.out]; rintro e w' ⟨rfl, hb⟩) | (go_at_call 66; refine (HSP.out _ (HW.out.below hb)).mono ?_; rintro e w2 ⟨rfl, rfl⟩) | (go_at_call 67; refine (Contains_any _ _ HZL.out).mono ?_; rw [HC.out]; rintro e w3 ⟨rfl, rfl⟩))
      go_ret2
      rw [G1.out, G2.out]
      exact ⟨_, _, _, rfl, IsStrs.fresh _ _ HZL.out, hb.alloc hb.size _⟩
    · obtain ⟨g1, g2⟩ := words_bad (hbad.trans hc)
      have G1 := Lib.hid g1
      have G2 := Lib.hid g2
      have HC := Lib.hid hc
      clear hall hnall hA hz hbad g1 g2 hc hzl hs
      go_enter Tryd.func26, Tryd.ntmps26
      go_wp2_with (first | (go_at_call 58; refine (prefix_any _ kPri (by8 kPri) false isPrintable_tells isPrintable_enters (kind_low kPri_hi) s _ HS.out).mono ?_; rw [HN.out]; rintro e w' ⟨rfl, hb⟩) | (go_at_call 66; refine (HSP.out _ (HW.out.below hb)).mono ?_; rintro e w2 ⟨rfl, rfl⟩) | (go_at_call 67; refine (Contains_any _ _ HZL.out).mono ?_; rw [HC.out]; rintro e w3 ⟨rfl, rfl⟩))
      go_ret2
      rw [G1.out, G2.out]
      exact ⟨none, 0, 0, rfl, IsStrs.nil _, hb.alloc hb.size _⟩
end Go.Proofs.YtlnmcegnnncepaaDoor
