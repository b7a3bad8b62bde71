/- Walk of the reference of package text: token, whole. -/
import Derived.Test.YtlnmcegnnncepaaDoorSh
import Derived.Deep.RegionWith
namespace Go.Proofs.YtlnmcegnnncepaaDoor
open Go.RowKit

set_option maxRecDepth 100000 in
set_option maxHeartbeats 3200000 in
theorem rtoken_rest (s : ByteArray) (w : World) (hs : s.size ≤ 1000000) (hp : 0 < s.size) (hN : NoLet s) (hc : ¬ 0 < numLen s.data.toList) (hq : ¬ bn s 0 = 34) :
    Calls Tryd.prog 71 #[.string s] w fun e w' => TokRet s.data.toList e ∧ Below w.heap.size w w' := by
  have hb0 := bn_int s 0 hp
  have hl0 := bn_lt s 0
  have hf := fst3_rest hp hN
  rw [if_neg hc, if_neg (fun e => hq ((head_is hp 34).1 e))] at hf
  have hc0 : numLen s.data.toList = 0 := by omega
  have hfig := Lib.hid (show ∀ w, Calls Tryd.prog 98 #[.string s] w fun e w' => e = .returned (.int .i64 ((0 : Nat) : Int)) ∧ w = w' from fun w => hc0 ▸ rfigures_any s w hs hp)
  obtain ⟨h1, h2⟩ := hN
  have hnil : s.data.toList ≠ [] := fun e => by
    have := size_list s
    rw [e] at this; simp at this; omega
  obtain ⟨d, hd⟩ : ∃ d, symLen s.data.toList = d := ⟨_, rfl⟩
  have hdl := symLen_len hnil
  rw [hd, size_list] at hdl
  rw [hd] at hf
  have hsym := Lib.hid (show ∀ w, Calls Tryd.prog 100 #[.string s] w fun e w' => e = .returned (.int .i64 ((d : Nat) : Int)) ∧ w = w' from fun w => hd ▸ rsymbol_any s w hs hp)
  obtain ⟨x, hx⟩ : ∃ x, bn s 0 = x := ⟨_, rfl⟩
  rw [hx] at hb0 hl0 h1 h2 hq
  have HL := Lib.hid h1
  have HU := Lib.hid h2
  have ex : (((x : Nat) : Int) == 34) = false := by rw [beq_eq_false_iff_ne]; omega
  clear hx h1 h2 hc hc0 hnil hd hq
  by_cases d0 : 0 < d
  · rw [if_pos d0] at hf
    have hff := Lib.hid hf
    have hex : s.extract 0 d = mk (s.data.toList.take d) := by rw [← mk_self (s.extract 0 d), take_extract]
    clear hf
    go_enter Tryd.func71, Tryd.ntmps71
    go_wp2_with (first
      | (go_at_call 96; refine (tells8_val rlower_tells _ _ _ hl0 HL.out).mono ?_; rintro e w' ⟨rfl, rfl⟩)
      | (go_at_call 60; refine (tells8_val rupper_tells _ _ _ hl0 HU.out).mono ?_; rintro e w' ⟨rfl, rfl⟩)
      | (go_at_call 98; refine (hfig.out _).mono ?_; rintro e w' ⟨rfl, rfl⟩)
      | (go_at_call 100; refine (hsym.out _).mono ?_; rintro e w' ⟨rfl, rfl⟩))
    go_region_with (go_at_call 100; refine (hsym.out _).mono ?_; rintro e w' ⟨rfl, rfl⟩)
    all_goals
      go_wp2
      refine tok_post _ _ _ _ w.heap.size _ _ _ _ _ d 0 rfl rfl rfl (by first | exact heap_alloc_new _ _ | (simp; rfl)) (by rw [hff.out]) (fun h => by rw [hff.out]; exact ⟨rfl, rfl, rfl, rfl⟩) (by first | exact (Below.refl _ _).alloc (Nat.le_refl _) _ | exact ((Below.refl _ _).alloc (Nat.le_refl _) _).drew | exact below_drewN2 ((Below.refl _ _).alloc (Nat.le_refl _) _) _)
  · have d0' : d = 0 := by omega
    subst d0'
    rw [if_neg d0] at hf
    have hff := Lib.hid hf
    clear hf d0
    go_enter Tryd.func71, Tryd.ntmps71
    go_wp2_with (first
      | (go_at_call 96; refine (tells8_val rlower_tells _ _ _ hl0 HL.out).mono ?_; rintro e w' ⟨rfl, rfl⟩)
      | (go_at_call 60; refine (tells8_val rupper_tells _ _ _ hl0 HU.out).mono ?_; rintro e w' ⟨rfl, rfl⟩)
      | (go_at_call 98; refine (hfig.out _).mono ?_; rintro e w' ⟨rfl, rfl⟩)
      | (go_at_call 100; refine (hsym.out _).mono ?_; rintro e w' ⟨rfl, rfl⟩))
    refine tok_post _ _ _ _ w.heap.size _ _ _ _ _ 0 8 rfl rfl rfl (heap_alloc_new _ _) (by rw [hff.out]) (fun h => absurd h (by decide)) ((Below.refl _ _).alloc (Nat.le_refl _) _)

theorem rtoken_any (s : ByteArray) (w : World) (hs : s.size ≤ 1000000) (hp : 0 < s.size) :
    Calls Tryd.prog 71 #[.string s] w fun e w' => TokRet s.data.toList e ∧ Below w.heap.size w w' := by
  cases h1 : kLow (bn s 0)
  · cases h2 : kUp (bn s 0)
    · by_cases h3 : 0 < numLen s.data.toList
      · exact rtoken_num s w hs hp ⟨h1, h2⟩ h3
      · by_cases h4 : bn s 0 = 34
        · exact rtoken_quo s w hs hp ⟨h1, h2⟩ h3 h4
        · exact rtoken_rest s w hs hp ⟨h1, h2⟩ h3 h4
    · exact rtoken_feat s w hs hp h2
  · exact rtoken_name s w hs hp h1
end Go.Proofs.YtlnmcegnnncepaaDoor
