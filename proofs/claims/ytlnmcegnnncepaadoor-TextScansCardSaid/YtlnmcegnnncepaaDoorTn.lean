/- Walks over package text: names. -/
import Derived.Test.YtlnmcegnnncepaaDoorTk
namespace Go.Proofs.YtlnmcegnnncepaaDoor
open Go.RowKit

theorem clo_enters (args : Array Value) (w : World) : (callFunc 101 args).run Tryd.prog w = .ok (.enter 101 args) w := by kernel_rfl

/-- A letter, a digit or a hyphen. -/
def kPart (K : Nat → Bool) (c : Nat) : Bool := K c || kDig c || c == 45

set_option maxHeartbeats 1600000 in
theorem clo_any (f : FuncId) (K : Nat → Bool) (hf : Tells f K) (he : Enters f) (a : Addr) (c : Nat) (w : World) (hc : c ≤ 2147483647) (ha : w.cell? a = some (.func (.func f) #[] #[])) :
    Calls Tryd.prog 101 #[.int .i32 c, .pointer (some a)] w fun e w' => e = .returned (.bool (kPart K c)) ∧ w = w' := by
  unfold kPart
  have HF := Lib.hid hf
  unfold Enters at he
  clear hf
  have e1 : (((c : Nat) : Int) == 45) = (c == 45) := eq_cast c 45
  cases h1 : (c == 45) <;> cases h2 : K c <;> cases h3 : kDig c
  all_goals
    rw [h1] at e1
    have H2 := Lib.hid h2
    have H3 := Lib.hid h3
    clear h1 h2 h3
    go_enter Tryd.func101, Tryd.ntmps101
    go_wp2_with fail
    refine (tells_val HF.out _ _ _ hc H2.out).mono ?_
    rintro e w' ⟨rfl, rfl⟩
    go_wp2_with (go_at_call 81; refine (tells_val isDigit_tells _ _ _ hc H3.out).mono ?_; rintro e w' ⟨rfl, rfl⟩)
    go_ret
    exact ⟨rfl, rfl⟩
theorem clo_val (b : Bool) (f : FuncId) (K : Nat → Bool) (hf : Tells f K) (he : Enters f) (a : Addr) (c : Nat) (w : World) (hc : c ≤ 2147483647) (ha : w.cell? a = some (.func (.func f) #[] #[])) (hb : kPart K c = b) :
    Calls Tryd.prog 101 #[.int .i32 c, .pointer (some a)] w fun e w' => e = .returned (.bool b) ∧ w = w' := hb ▸ clo_any f K hf he a c w hc ha

set_option maxRecDepth 100000 in
theorem prefix_clo (f : FuncId) (K : Nat → Bool) (p : UInt8 → Bool) (hf : Tells f K) (he : Enters f) (hk : Kind (kPart K) p false) (s : ByteArray) (ab : Nat) (w : World) (hs : s.size ≤ maxLen) (hab : ab < w.heap.size) (ha : w.cell? ⟨ab, 0, none⟩ = some (.func (.func f) #[] #[])) :
    Calls Tryd.prog 58 #[.string s, .func (.func 101) #[] #[.pointer (some ⟨ab, 0, none⟩)]] w fun e w' => e = .returned (.int .i64 ((pre p s.data.toList : Nat) : Int)) ∧ Below w.heap.size w w' := by
  have HF := Lib.hid hf
  have HK := Lib.hid hk
  have HE := Lib.hid he
  have HA := Lib.hid ha
  unfold maxLen at hs
  clear hf hk he ha
  have hce := clo_enters
  go_enter Tryd.func58, Tryd.ntmps58
  go_wp2
  go_loopw [4] (fun n wr => ∃ pos, wr = w.iter s pos ∧ Hid (Upto p s pos)) (fun _ wr => s.size - wr.iterPos w.heap.size)
  case atStart => exact ⟨0, rfl, Nat.zero_le _, fun j hj => absurd hj (Nat.not_lt_zero _)⟩
  case round =>
    obtain ⟨pos, rfl, hu⟩ := hrel
    by_cases hp : pos < s.size
    · have hnx : ∀ ty, (Instr.next (.pointer (some ⟨w.heap.size, 0, none⟩)) true ty).run Tryd.prog (w.iter s pos) = _ := fun ty => run_next_any w s pos ty hp
      have hd := decode_le s pos
      have hwd := width_pos s pos hp
      have hnext := Lib.hid (HK.out.next hu.out hp)
      have hhalt := Lib.hid (HK.out.halt hu.out hp)
      obtain ⟨c, hc⟩ : ∃ c, (Utf8.decode s pos).1 = c := ⟨_, rfl⟩
      obtain ⟨wd, hw⟩ : ∃ c, (Utf8.decode s pos).2 = c := ⟨_, rfl⟩
      rw [hc, hw] at hnx
      rw [hc] at hd
      rw [hw] at hwd
      rw [hc, hw] at hnext
      rw [hc] at hhalt
      clear hc hw
      have HA2 : Hid ((w.iter s (pos + wd)).cell? ⟨ab, 0, none⟩ = some (.func (.func f) #[] #[])) := ((Below.refl w.heap.size w).alloc (Nat.le_refl _) _).cell (p := ⟨ab, 0, none⟩) hab ▸ HA.out
      cases hkc : kPart K c
      · have HC := Lib.hid hkc
        have hpre := Lib.hid (hhalt.out hkc)
        clear hkc hnext hhalt
        go_wp2_with fail
        refine (clo_val false f K HF.out HE.out _ c _ hd HA2.out HC.out).mono ?_
        rintro e w' ⟨rfl, rfl⟩
        go_wp2
        go_ret
        exact ⟨by rw [hpre.out]; rfl, (Below.refl _ _).alloc (Nat.le_refl _) _⟩
      · have HC := Lib.hid hkc
        have hup := Lib.hid (hnext.out hkc)
        clear hkc hnext hhalt
        go_wp2_with fail
        refine (clo_val true f K HF.out HE.out _ c _ hd HA2.out HC.out).mono ?_
        rintro e w' ⟨rfl, rfl⟩
        go_wp2
        go_roundw
        case rel => exact ⟨pos + wd, rfl, hup⟩
        case measure => simp; omega
    · have hnx : ∀ ty, (Instr.next (.pointer (some ⟨w.heap.size, 0, none⟩)) true ty).run Tryd.prog (w.iter s pos) = _ := fun ty => run_next_end w s pos ty hp
      have hpre := Lib.hid (hu.out.end hp)
      go_wp2
      go_ret
      exact ⟨by rw [hpre.out]; rfl, (Below.refl _ _).alloc (Nat.le_refl _) _⟩

end Go.Proofs.YtlnmcegnnncepaaDoor
