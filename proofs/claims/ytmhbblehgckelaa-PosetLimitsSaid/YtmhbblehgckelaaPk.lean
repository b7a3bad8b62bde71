/- Walks of the reference of package poset: placed. -/
import Derived.Test.YtmhbblehgckelaaPj
namespace Go.Proofs.Ytmhbblehgckelaa
open Go.RowKit

/-- The least one that may be next among the first i. -/
def sc (D : List Dec) (out : List Str) (i : Nat) : Option Str := least (((nms D).take i).filter (mayB D out))
theorem sc_step {D : List Dec} {out : List Str} {i : Nat} (hi : i < D.length) : sc D out (i + 1) = if mayB D out (dc D i).name then lower (sc D out i) (dc D i).name else sc D out i := by
  unfold sc
  rw [nms_succ hi, List.filter_append]
  by_cases h : mayB D out (dc D i).name = true
  · rw [if_pos h]
    have : ([(dc D i).name].filter (mayB D out)) = [(dc D i).name] := by simp [h]
    rw [this, least_snoc]
  · rw [if_neg h]
    have : ([(dc D i).name].filter (mayB D out)) = [] := by simp [h]
    rw [this, List.append_nil]
theorem sc_zero (D : List Dec) (out : List Str) : sc D out 0 = none := rfl
theorem sc_all (D : List Dec) (out : List Str) : sc D out D.length = nxB D out := by
  unfold sc nxB
  rw [List.take_of_length_le (by rw [nms_len]; exact Nat.le_refl _)]
theorem mayB_eq {D : List Dec} (hn : (nms D).Nodup) {out : List Str} {i : Nat} (hi : i < D.length) : mayB D out (dc D i).name = (!inS out (dc D i).name && rdy (dc D i).sup out) := by
  unfold mayB
  rw [up_of hn (dc_mem hi)]
  rfl
theorem plc_small {D : List Dec} {out : List Str} (h : Plc D out) (hs : ∀ z ∈ nms D, z.length ≤ maxLen) : ∀ z ∈ out, z.length ≤ maxLen := fun z hz => hs z (h.sub z hz)

set_option maxRecDepth 100000 in
set_option maxHeartbeats 3200000 in
theorem placed_any (w : World) (a : Option Addr) (n cap : Nat) (D : List Dec) (h : IsDecs w a n cap D) (hnd : (nms D).Nodup) (hn : n ≤ 1000) :
    Calls Try.prog 32 #[.slice a n cap] w (RetL (plc D) w) := by
  have hm := h.maxLe
  have hc := h.capLe
  unfold maxLen at hm
  have HS := Lib.hid (nms_small h)
  have HL := Lib.hid h.len
  have H := Lib.hid h
  have HND := Lib.hid hnd
  clear h hnd
  go_enter Try.func32, Try.ntmps32
  go_wp2
  go_loopw [3, 4] (fun o m wr => ∃ (out : List Str) (on : Nat) (mb : Bool), on ≤ n ∧ out.length = on ∧ Hid (Plc D out) ∧ Hid (wr.ownsRow w.heap.size 9 1 o on (svals out)) ∧ m = .bool mb ∧ Hid (mb = false → Done D out) ∧ Below w.heap.size w wr) (fun o m _ => n - lenV o + boolV m)
  case atStart => exact ⟨[], 0, true, Nat.zero_le _, rfl, .nil, World.ownsRow_nil _ _ _ _, rfl, (fun e => by cases e), Below.refl _ _⟩
  case round =>
    obtain ⟨out, on, mb, hon, hlo, hp, hrow, rfl, hdone, hb⟩ := hrel
    obtain ⟨oa, oc, rfl, hio⟩ := IsStrs.of_owns hrow.out (plc_small hp.out HS.out)
    have HIO := Lib.hid hio
    have HLO := Lib.hid hlo
    have hocl := hio.capLe
    have hocm := hio.maxLe
    unfold maxLen at hocm
    clear hio hlo
    obtain ⟨wo, hwo⟩ : ∃ wo : World, wo = wr := ⟨_, rfl⟩
    subst hwo
    cases mb
    · have hr : Hid (out = plc D) := plc_is hp.out (hdone.out rfl)
      have hlr : Hid ((plc D).length = on) := by show _ = _; rw [← hr.out, HLO.out]
      clear hdone
      go_wp2
      go_ret
      refine ⟨_, rfl, ?_, plc_small (plc_plc D) HS.out, hb⟩
      rw [hlr.out, ← hr.out]
      exact hrow.out
    · clear hdone
      go_wp2
      go_loopw [4, 5, 6] (fun m x v wi => ∃ (i : Nat) (q : Option Str), i ≤ n ∧ v = .int .i64 i ∧ Hid (q = sc D out i) ∧ m = .bool q.isSome ∧ x = .string (mk (q.getD [])) ∧ Below wo.heap.size wo wi) (fun _ _ v _ => n - (intOf v).toNat)
      case atStart => exact ⟨0, none, Nat.zero_le _, rfl, rfl, rfl, rfl, Below.refl _ _⟩
      case round =>
        obtain ⟨i, q, hi, rfl, hq, rfl, rfl, hbi⟩ := hrel
        obtain ⟨wi, hwi⟩ : ∃ wi : World, wi = wr := ⟨_, rfl⟩
        subst hwi
        have hbw := hb.trans (hbi.mono hb.size)
        by_cases hlt : i < n
        · obtain ⟨b, off, rfl, hbl, hx⟩ := (H.out.below hbw).at_ (by omega)
          obtain ⟨sa, sc', fa, fc, hd⟩ := hx i hlt
          have c0 := hd.c0
          have c1 := hd.c1
          have c2 := hd.c2
          have HI2 := Lib.hid (HIO.out.below hbi)
          have AM := Lib.hid (Among_any wi oa on oc out (dc D i).name HI2.out)
          have RD := Lib.hid (fun W (e : W = wi) => e ▸ ready_any wi (dc D i).name (.slice fa (dc D i).nf fc) sa _ sc' _ hd.ss oa on oc out HI2.out ⟨_, _, _, rfl⟩)
          have SC := Lib.hid (sc_step (D := D) (out := out) (i := i) (by rw [HL.out]; exact hlt))
          have MB := Lib.hid (mayB_eq HND.out (out := out) (i := i) (by rw [HL.out]; exact hlt))
          obtain ⟨nm, hnm⟩ : ∃ z, (dc D i).name = z := ⟨_, rfl⟩
          obtain ⟨su, hsu⟩ : ∃ z, (dc D i).sup = z := ⟨_, rfl⟩
          rw [hnm] at c0 AM RD SC MB
          rw [hsu] at c1 RD MB
          obtain ⟨sl, hsl⟩ : ∃ z, su.length = z := ⟨_, rfl⟩
          rw [hsl] at c1 RD
          obtain ⟨nf, hnf⟩ : ∃ z, (dc D i).nf = z := ⟨_, rfl⟩
          rw [hnf] at c2 RD
          obtain ⟨p1, hp1⟩ : ∃ z, inS out nm = z := ⟨_, rfl⟩
          obtain ⟨p2, hp2⟩ : ∃ z, rdy su out = z := ⟨_, rfl⟩
          rw [hp1] at AM MB
          rw [hp2] at RD MB
          clear hx hd hnm hsu hsl hnf hp1 hp2
          cases p1
          · cases p2
            · have hq' : Hid (q = sc D out (i + 1)) := by show _ = _; rw [SC.out, MB.out, hq.out]; rfl
              clear hq
              go_wp2_with (first
                | (go_at_call 11; refine (AM.out).mono ?_; rintro e w' ⟨rfl, rfl⟩)
                | (go_at_call 44; refine (RD.out _ rfl).mono ?_; rintro e w2 ⟨rfl, hb2⟩))
              go_roundw
              case rel => exact ⟨i + 1, q, by omega, by go_num, hq', rfl, rfl, hbi.trans (hb2.mono hbi.size)⟩
              case measure => simp [intOf]; omega
            · have hq2 : Hid (sc D out (i + 1) = lower q nm) := by show _ = _; rw [SC.out, MB.out, hq.out]; rfl
              clear hq
              cases q with
              | none =>
                have hq' : Hid (some nm = sc D out (i + 1)) := by show _ = _; rw [hq2.out]; rfl
                go_wp2_with (first
                  | (go_at_call 11; refine (AM.out).mono ?_; rintro e w' ⟨rfl, rfl⟩)
                  | (go_at_call 44; refine (RD.out _ rfl).mono ?_; rintro e w2 ⟨rfl, hb2⟩; obtain ⟨d0, f0⟩ := bcell hb2))
                go_roundw
                case rel => exact ⟨i + 1, some nm, by omega, by go_num, hq', rfl, rfl, hbi.trans (hb2.mono hbi.size)⟩
                case measure => simp [intOf]; omega
              | some y =>
                have he := mk_less nm y
                by_cases hlt2 : nm < y
                · rw [decide_eq_true hlt2] at he
                  have hq' : Hid (some nm = sc D out (i + 1)) := by show _ = _; rw [hq2.out]; exact (if_pos (c := nm < y) hlt2).symm
                  clear hq2
                  go_wp2_with (first
                    | (go_at_call 11; refine (AM.out).mono ?_; rintro e w' ⟨rfl, rfl⟩)
                    | (go_at_call 44; refine (RD.out _ rfl).mono ?_; rintro e w2 ⟨rfl, hb2⟩; obtain ⟨d0, f0⟩ := bcell hb2))
                  go_roundw
                  case rel => exact ⟨i + 1, some nm, by omega, by go_num, hq', rfl, rfl, hbi.trans (hb2.mono hbi.size)⟩
                  case measure => simp [intOf]; omega
                · rw [decide_eq_false hlt2] at he
                  have hq' : Hid (some y = sc D out (i + 1)) := by show _ = _; rw [hq2.out]; exact (if_neg (c := nm < y) hlt2).symm
                  clear hq2
                  go_wp2_with (first
                    | (go_at_call 11; refine (AM.out).mono ?_; rintro e w' ⟨rfl, rfl⟩)
                    | (go_at_call 44; refine (RD.out _ rfl).mono ?_; rintro e w2 ⟨rfl, hb2⟩; obtain ⟨d0, f0⟩ := bcell hb2))
                  go_roundw
                  case rel => exact ⟨i + 1, some y, by omega, by go_num, hq', rfl, rfl, hbi.trans (hb2.mono hbi.size)⟩
                  case measure => simp [intOf]; omega
          · have hq' : Hid (q = sc D out (i + 1)) := by show _ = _; rw [SC.out, MB.out, hq.out]; rfl
            clear hq
            go_wp2_with (first
              | (go_at_call 11; refine (AM.out).mono ?_; rintro e w' ⟨rfl, rfl⟩)
              | (go_at_call 44; refine (RD.out _ rfl).mono ?_; rintro e w2 ⟨rfl, hb2⟩))
            go_roundw
            case rel => exact ⟨i + 1, q, by omega, by go_num, hq', rfl, rfl, hbi⟩
            case measure => simp [intOf]; omega
        · obtain rfl : i = n := by omega
          have hqn : Hid (q = nxB D out) := by show _ = _; rw [hq.out, ← HL.out, sc_all]
          clear hq
          cases q with
          | none =>
            have hdn : Hid (false = false → Done D out) := fun _ => nxB_none hqn.out.symm
            go_wp2
            go_roundw
            case rel => exact ⟨out, on, false, hon, HLO.out, hp, owns_below hrow.out hbi, rfl, hdn, hbw⟩
            case measure => simp [lenV, boolV]
          | some y =>
            have hpn : Hid (Plc D (out ++ [y])) := .snoc hp.out (nxB_some hqn.out.symm)
            have hle := hpn.out.len
            rw [HL.out, List.length_append, HLO.out] at hle
            have hys : y.length ≤ maxLen := plc_small hpn.out HS.out y (by simp)
            have HYS := Lib.hid hys
            clear hys
            simp only [List.length_cons, List.length_nil] at hle
            have hlo2 := HLO.out
            have HLO2 := Lib.hid hlo2
            clear hlo2
            go_wp2_with (at_builtin; refine wpList_append_strs rfl _ _ rfl w.heap.size _ on out rfl ((owns_below hrow.out hbi).alloc _) _ 1 1 [y] rfl (IsStrs.one wi y HYS.out) (by omega) (by have := hbw.size; simp; omega) ?_; intro v1 w1 hown1 hgrow1; have R1 := Lib.hid hown1; have B1 := Lib.hid (grown_below (hbw.alloc hbw.size _) (by have := hbw.size; simp; omega) ((owns_below hrow.out hbi).alloc _) hgrow1); clear hown1 hgrow1; obtain ⟨oa2, oc2, rfl, hio2⟩ := IsStrs.of_owns R1.out (plc_small hpn.out HS.out); clear hio2)
            go_roundw
            case rel => exact ⟨out ++ [y], on + 1, true, by omega, by rw [List.length_append, HLO2.out]; rfl, hpn, R1.out, rfl, (fun e => by cases e), B1.out⟩
            case measure => simp [lenV, boolV]; omega
end Go.Proofs.Ytmhbblehgckelaa
