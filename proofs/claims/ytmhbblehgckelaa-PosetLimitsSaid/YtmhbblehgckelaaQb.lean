/- The keys of a set, sorted. Walks of package poset: from, Above, Below. -/
import Derived.Test.YtmhbblehgckelaaQa
namespace Go.Proofs.Ytmhbblehgckelaa
open Go.RowKit Go.Maps Go.Sort Go.Shelf

theorem sorts_any (m : Nat) : AnyZ.SortsIn Try.prog Try.sorted38_ren Fence.wide m :=
  ⟨fun blk off cap ss W hH hblk hsz => callsIn_wide.2 (AnyM.slices_Sort_string Try.sort49 blk off cap ss W hH hblk hsz),
   fun p cap W => callsIn_wide.2 (AnyM.slices_Sort_string_none Try.sort49 p cap W)⟩

theorem Keys_any (mb : Option Nat) (W : World) : Calls Try.prog 39 #[.map mb] W fun e w' => e = .returned (.func (.func 50) #[] #[.pointer (some ⟨W.heap.size, 0, none⟩)]) ∧ w' = W.alloc (.cells #[.map mb] 56) :=
  callsIn_wide.1 (AnyZ.keys_in Try.keys39 Fence.wide 5 trivial rfl mb W)

theorem perm_keys {w : World} {b n : Nat} {M : DataW Value} {K : List Str} (h : IsSet w b n M K) (hnd : K.Nodup) : K.Perm (strKeys M) := by
  obtain ⟨es, e, hp⟩ := h.map.tidy lawS
  obtain ⟨es2, e2, hk⟩ := h.map.keysOf
  subst e
  injection e2 with e3
  subst e3
  refine perm_strKeys hp (fun p hp => ?_) hnd (fun x => ?_)
  · obtain ⟨v, hv⟩ := hk p hp
    obtain ⟨x, _, e, _⟩ := keyOf_str Try.underlying9 hv
    exact ⟨x, e⟩
  · have := h.has x
    unfold mhas at this
    rw [this, inS_iff]

set_option maxHeartbeats 1600000 in
theorem SortedKeys_any (w : World) (b n : Nat) (M : DataW Value) (K : List Str) (h : IsSet w b n M K) (hnd : K.Nodup) (hn : n ≤ 70000) (hsm : ∀ z ∈ K, z.length ≤ maxLen) :
    Calls Try.prog 38 #[.func (.func 50) #[] #[.pointer (some ⟨w.heap.size, 0, none⟩)]] (w.alloc (.cells #[.map (some b)] 56)) (RetL (srt K) (w.alloc (.cells #[.map (some b)] 56))) := by
  have hown := h.map
  have hbl := hown.lt
  have hs : Maps.size M ≤ n := hown.size_le
  have hperm := perm_keys h hnd
  have hseq : SeqGives Fence.wide 2 Try.prog 50 #[.pointer (some ⟨w.heap.size, 0, none⟩)] encStr (fun ss => ss.Perm (strKeys M)) (Maps.size M) (w.alloc (.cells #[.map (some b)] 56)) :=
    AnyZ.keys_gives (ρ := Try.keys39_ren) { Try.keys39 with } Fence.wide _ trivial rfl (by omega) w.heap.size b n M _ (by simp) (by simp) (by
      obtain ⟨es, clock, hb, Ft, hs, hD⟩ := hown
      exact ⟨es, clock, (Below.heap_alloc _ _ b hbl).trans hb, Ft, hs, hD⟩)
  refine (callsIn_wide.1 (AnyZ.sorted_in Try.sorted38 Fence.wide 5 trivial trivial trivial trivial rfl (by omega) (sorts_any _) (enters_of Try.func49 (by kernel_rfl) rfl) 50 #[.pointer (some ⟨w.heap.size, 0, none⟩)] trivial (enters_of Try.func50 (by kernel_rfl) rfl) _ _ (by unfold maxLen; omega) (by omega) _ hseq)).mono ?_
  rintro e w' ⟨v, ss, rfl, hS, hrow, -, hb⟩
  have e1 : ss.mergeSort leB = srt K := by
    rw [mergeSort_of_perm (hS.trans hperm.symm)]
    exact merge_srt hnd
  have e2 : ss.length = (srt K).length := by
    rw [← e1]; exact (List.mergeSort_perm ss leB).length_eq.symm
  refine ⟨v, rfl, ?_, small_srt hsm, hb⟩
  have hrow' : w'.ownsRow (w.alloc (.cells #[.map (some b)] 56)).heap.size 9 1 v ss.length ((ss.mergeSort leB).map encStr) := hrow
  rw [e1, e2] at hrow'
  exact hrow'
end Go.Proofs.Ytmhbblehgckelaa
