/- Plain: what the declarations of the limits give. -/
import Derived.Test.YtmhbblehgckelaaQo
namespace Go.Proofs.Ytmhbblehgckelaa
open Go.RowKit Go.Maps

theorem star_chk {D R : List Dec} {t : Dec} (hD : D = t :: R) (h0 : t.sup = []) (hR : ∀ d ∈ R, d.sup = [t.name]) (hn : (nms D).Nodup) (hnam : ∀ d ∈ D, isNam kLow d.name = true) (hs : szE D = 0) : chkN D = 0 := by
  have ht : t ∈ D := by rw [hD]; simp
  have htn : t.name ∈ nms D := List.mem_map_of_mem ht
  have h1 : nmE (isNam kLow) [] D = 0 := nmE_of hn (fun _ _ => List.not_mem_nil) hnam
  have h2 : suE (nms D) D = 0 := suE_of fun d hd => by
    rw [hD] at hd
    rcases List.mem_cons.1 hd with e | e
    · rw [e, h0]; exact ⟨List.nodup_nil, fun _ h => absurd h List.not_mem_nil⟩
    · rw [hR d e]; exact ⟨by simp, fun s hs => by rw [List.mem_singleton] at hs; rw [hs]; exact htn⟩
  have h3 : tops D = 1 := by
    have : R.filter (fun d => d.sup.isEmpty) = [] := List.filter_eq_nil_iff.2 fun d hd => by rw [hR d hd]; simp
    unfold tops
    rw [hD, List.filter_cons, h0, this]; rfl
  have hdone : Done D (plc D) := (Classical.choose_spec (plc_exists D)).2
  have hu0 : up D t.name = [] := (up_of hn ht).trans h0
  have htp : t.name ∈ plc D := Classical.byContradiction fun h => hdone t.name ⟨htn, h, by rw [hu0]; simp⟩
  have hall : ∀ x ∈ nms D, x ∈ plc D := by
    intro x hx
    obtain ⟨d, hd, rfl⟩ := List.mem_map.1 hx
    have hd' := hd
    rw [hD] at hd'
    rcases List.mem_cons.1 hd' with e | e
    · rw [e]; exact htp
    · refine Classical.byContradiction fun h => hdone d.name ⟨hx, h, ?_⟩
      rw [up_of hn hd, hR d e]
      intro s hs
      rw [List.mem_singleton] at hs
      rw [hs]; exact htp
  have h4 : ¬ (plc D).length < D.length := by
    have := nodup_len hn hall
    rw [nms_len] at this; omega
  unfold chkN chk
  rw [if_neg (by simp [hs]), if_neg (by simp [h1]), if_neg (by simp [h2]), if_neg (by simp [h3]), if_neg h4]
theorem chk_seven {D : List Dec} (h : szE D = 7) : chkN D = 7 := by
  unfold chkN chk; rw [h, if_pos (by decide)]

/-- The name of the declaration with a number. -/
def mnm (i : Nat) : Str := [97, UInt8.ofNat (97 + i / 26), UInt8.ofNat (97 + i % 26)]
def manyT (k : Nat) : List Dec := ⟨[116], [], 0⟩ :: (List.range k).map fun i => ⟨mnm (i + 1), [[116]], 0⟩
theorem manyT_len (k : Nat) : (manyT k).length = k + 1 := by simp [manyT]
theorem manyT_succ (k : Nat) : manyT (k + 1) = manyT k ++ [⟨mnm (k + 1), [[116]], 0⟩] := by
  unfold manyT; rw [List.range_succ, List.map_append]; rfl
theorem mnm_inj {i j : Nat} (hi : i ≤ 300) (hj : j ≤ 300) (h : mnm i = mnm j) : i = j := by
  have h1 := congrArg (fun l : Str => l.map UInt8.toNat) h
  simp only [mnm, List.map_cons, List.map_nil, List.cons.injEq, UInt8.toNat_ofNat'] at h1
  omega
theorem many_nodup : (nms (manyT 255)).Nodup := by
  have e : nms (manyT 255) = [116] :: (List.range 255).map fun i => mnm (i + 1) := by
    unfold nms manyT; rw [List.map_cons, List.map_map]; rfl
  rw [e]
  refine List.nodup_cons.2 ⟨?_, ?_⟩
  · intro h
    obtain ⟨i, _, hi⟩ := List.mem_map.1 h
    simp [mnm] at hi
  · refine List.pairwise_map.2 ((List.nodup_range).imp_of_mem fun {a b} ha hb hne he => hne ?_)
    rw [List.mem_range] at ha hb
    have := mnm_inj (by omega) (by omega) he
    omega
theorem many_nam : ∀ i, i < 255 → isNam kLow (mnm (i + 1)) = true := by decide +kernel
theorem many_ok : chkN (manyT 255) = 0 := by
  refine star_chk (D := manyT 255) rfl rfl ?_ many_nodup ?_ ?_
  · intro d hd
    obtain ⟨i, _, rfl⟩ := List.mem_map.1 hd
    rfl
  · intro d hd
    unfold manyT at hd
    rcases List.mem_cons.1 hd with e | e
    · rw [e]; decide +kernel
    · obtain ⟨i, hi, rfl⟩ := List.mem_map.1 e
      exact many_nam i (List.mem_range.1 hi)
  · decide +kernel
theorem many_long : chkN (manyT 256) = 7 := chk_seven (szE_long (by rw [manyT_len]; decide))
/-- One supertype, or one feature, too many. -/
theorem long_at {D : List Dec} {i : Nat} {d : Dec} (hl : D.length ≤ 256) (hi : D[i]? = some d) (h : 256 < d.sup.length ∨ 256 < d.nf) : chkN D = 7 := by
  have hlt := (List.getElem?_eq_some_iff.1 hi).1
  have e : dc D i = d := by
    have := dc_get hlt
    rw [hi] at this; exact (Option.some.inj this).symm
  exact chk_seven (szE_bad (by omega) hlt (by rw [e]; exact h))
theorem feats_ok : chkN [⟨[116], [], 256⟩] = 0 := by
  refine star_chk (D := [⟨[116], [], 256⟩]) rfl rfl (fun _ h => absurd h List.not_mem_nil) (by simp [nms]) ?_ (by decide +kernel)
  intro d hd
  rw [List.mem_singleton] at hd
  rw [hd]; decide +kernel
theorem chk_four {D : List Dec} (h1 : szE D = 0) (h2 : nmE (isNam kLow) [] D = 0) (h3 : suE (nms D) D = 4) : chkN D = 4 := by
  unfold chkN chk
  rw [if_neg (by simp [h1]), if_neg (by simp [h2]), if_pos (by simp [h3]), h3]
theorem twice_bad : chkN [⟨[116], [], 0⟩, ⟨[97], List.replicate 256 [116], 0⟩] = 4 := by
  have h1 : szE [⟨[116], [], 0⟩, ⟨[97], List.replicate 256 [116], 0⟩] = 0 := by decide +kernel
  have h2 : nmE (isNam kLow) [] [⟨[116], [], 0⟩, ⟨[97], List.replicate 256 [116], 0⟩] = 0 := by decide +kernel
  have h3 : suE (nms [⟨[116], [], 0⟩, ⟨[97], List.replicate 256 [116], 0⟩]) [⟨[116], [], 0⟩, ⟨[97], List.replicate 256 [116], 0⟩] = 4 := by decide +kernel
  exact chk_four h1 h2 h3
end Go.Proofs.Ytmhbblehgckelaa
