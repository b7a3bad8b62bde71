/- Walks over package text: names, continued. -/
import Derived.Test.YtlnmcegnnncepaaDoorTn
import Derived.Lib.IndexBytes
import Derived.WalkSmall
namespace Go.Proofs.YtlnmcegnnncepaaDoor
open Go.RowKit

/-- The length of the longest name at the beginning: the first byte a letter, the others letters, digits, hyphens. -/
def nameLen (p q : UInt8 → Bool) (l : List UInt8) : Nat :=
  match l with
  | [] => 0
  | b :: _ => if p b then pre q l else 0

set_option maxRecDepth 100000 in
theorem nameLength_any (f : FuncId) (K : Nat → Bool) (p q : UInt8 → Bool) (hf : Tells f K) (he : Enters f) (hp : ∀ b : UInt8, K b.toNat = p b) (hk : Kind (kPart K) q false) (s : ByteArray) (w : World) (hs : s.size ≤ maxLen) :
    Calls Tryd.prog 78 #[.string s, .func (.func f) #[] #[]] w fun e w' => e = .returned (.int .i64 ((nameLen p q s.data.toList : Nat) : Int)) ∧ Below w.heap.size w w' := by
  have HF := Lib.hid hf
  have HE := Lib.hid he
  unfold Enters at he
  by_cases h0 : s.size = 0
  · obtain rfl : s = ByteArray.empty := by
      obtain ⟨⟨l⟩⟩ := s
      simp [ByteArray.size] at h0
      subst h0
      rfl
    go_enter Tryd.func78, Tryd.ntmps78
    go_wp2
    go_quiet (fail)
    go_wp2
    go_ret
    exact ⟨rfl, below_drewN ((Below.refl _ _).alloc (Nat.le_refl _) _) _⟩
  · obtain ⟨b, l, hl⟩ : ∃ b l, s.data.toList = b :: l := by
      cases hc : s.data.toList with
      | nil => exact absurd (by have := congrArg List.length hc; simpa using this) h0
      | cons b l => exact ⟨b, l, rfl⟩
    have hb0 : s[0]'(by omega) = b := by
      have := byte_at s 0 (by omega)
      rw [hl] at this
      exact (Option.some.inj this).symm
    have hne : s.toList.isEmpty = false := by rw [Lib.toList_data, hl]; rfl
    have hsz : 0 < s.size := by omega
    obtain ⟨n, hn⟩ : ∃ n, b.toNat = n := ⟨_, rfl⟩
    have hn8 : n < 256 := by rw [← hn]; exact b.toNat_lt
    have hwr : IntKind.i32.wrap (n : Int) = (n : Int) := IntWalk.i32_in _ (by omega)
    have hi8 : Hid (((s[0]'hsz).toNat : Nat) = n) := by show _ = _; rw [hb0, hn]
    have hb1 : ((s[0]'hsz).toNat : Int) = (n : Int) := by rw [hi8.out]
    cases hpb : p b
    · have hcall : Hid (∀ W, Calls Tryd.prog f #[.int .i32 (n : Int)] W fun e w' => e = .returned (.bool false) ∧ w' = W) :=
        fun W => (tells_val HF.out false n W (by omega) (by rw [← hn, hp, hpb])).mono fun _ _ h => ⟨h.1, h.2.symm⟩
      have hres : Hid (nameLen p q s.data.toList = 0) := by show _ = _; rw [hl]; simp [nameLen, hpb]
      clear hpb hn hl hb0 hi8 hf hk hp
      go_enter Tryd.func78, Tryd.ntmps78
      go_wp2
      go_quiet ((exact Calls.quiet_of_same (hcall.out _)))
      go_wp2
      go_ret
      exact ⟨by rw [hres.out]; rfl, below_drewN ((Below.refl _ _).alloc (Nat.le_refl _) _) _⟩
    · have hcall : Hid (∀ W, Calls Tryd.prog f #[.int .i32 (n : Int)] W fun e w' => e = .returned (.bool true) ∧ w' = W) :=
        fun W => (tells_val HF.out true n W (by omega) (by rw [← hn, hp, hpb])).mono fun _ _ h => ⟨h.1, h.2.symm⟩
      have hres : Hid (nameLen p q s.data.toList = pre q s.data.toList) := by show _ = _; rw [hl]; simp [nameLen, hpb]
      have HK := Lib.hid hk
      clear hpb hn hl hb0 hi8 hf hk hp
      go_enter Tryd.func78, Tryd.ntmps78
      go_wp2
      go_quiet ((exact Calls.quiet_of_same (hcall.out _)))
      go_wp2_with fail
      refine (prefix_clo f _ q HF.out HE.out HK.out s w.heap.size _ hs (by simp) ?_).mono ?_
      · exact cell_of_one (heap_alloc_new w _)
      · rintro e w' ⟨rfl, hb⟩
        go_wp2
        go_ret
        exact ⟨by rw [hres.out]; rfl, (below_drewN ((Below.refl _ _).alloc (Nat.le_refl _) _) _).trans (hb.mono (by simp))⟩
end Go.Proofs.YtlnmcegnnncepaaDoor
