/- Walk of the reference of package text: Scan. -/
import Derived.Test.YtlnmcegnnncepaaDoorSi
import Derived.Test.YtlnmcegnnncepaaDoorSa
namespace Go.Proofs.YtlnmcegnnncepaaDoor
open Go.RowKit

theorem drop_cons {s : ByteArray} {i : Nat} (hi : i < s.size) : ∃ b, s.data.toList.drop i = b :: s.data.toList.drop (i + 1) ∧ b.toNat = bn s i := by
  have hl : i < s.data.toList.length := by rw [size_list]; exact hi
  obtain ⟨b, hb, he⟩ := bn_byte hi
  refine ⟨b, ?_, he⟩
  rw [List.drop_eq_getElem_cons hl]
  rw [List.getElem?_eq_getElem hl] at hb
  rw [Option.some.inj hb]
theorem byte_is (b : UInt8) (c : UInt8) : (b = c) ↔ b.toNat = c.toNat := ⟨fun e => by rw [e], fun e => UInt8.toNat_inj.1 e⟩

theorem cells3_new2 (w : World) (o : Obj) (x y z : Value) (t : TypeId) : ∀ j u, [x, y, z][j]? = some u → ((w.alloc o).alloc (.cells #[x, y, z] t)).cell? ((⟨w.heap.size + 1, 0, none⟩ : Addr).add j) = some u := by
  have h := cells3_new (w.alloc o) x y z t
  have e : (w.alloc o).heap.size = w.heap.size + 1 := by simp
  rw [e] at h
  exact h

set_option maxRecDepth 100000 in
set_option maxHeartbeats 6400000 in
theorem rScan_any (s : ByteArray) (w : World) (hmax : s.size ≤ maxLen) :
    Calls Tryd.prog 30 #[.string s] w (RetT (scanR s.data.toList) w) := by
  unfold maxLen at hmax
  by_cases hbig : 65536 < s.size
  · have hr : Hid (scanR s.data.toList = ⟨[], 0, 7⟩) := by show _ = _; rw [scanR, size_list, if_pos hbig]
    go_enter Tryd.func30, Tryd.ntmps30
    go_wp2
    go_ret3
    rw [hr.out]
    exact ⟨none, 0, 0, rfl, IsToks.nil _, Below.refl _ _⟩
  have hs : s.size ≤ 65536 := by omega
  have hr0 : Hid (run s.data.toList 1 false [] = scanR s.data.toList) := by show _ = _; rw [scanR, size_list, if_neg hbig]
  obtain ⟨i0, hi, hz0, hz1, hz2⟩ := info_parts Tryd.infoT
  have HI := Lib.hid (And.intro hi (And.intro hz0 (And.intro hz1 hz2)))
  obtain ⟨R, hR⟩ : ∃ R, scanR s.data.toList = R := ⟨_, rfl⟩
  rw [hR] at hr0 ⊢
  clear hi hz0 hz1 hz2 hbig hR
  go_enter Tryd.func30, Tryd.ntmps30
  go_wp2
  go_loopw [5, 6, 7, 8] (fun o ln cm v wr => ∃ (i line : Nat) (com : Bool) (ts : List Tok), v = .int .i64 ((i : Nat) : Int) ∧ i ≤ s.size ∧ ln = .int .i64 ((line : Nat) : Int) ∧ cm = .bool com ∧ Hid (run (s.data.toList.drop i) line com ts = R) ∧ line ≤ 1 + i ∧ ts.length ≤ i ∧ Hid (wr.ownsRow w.heap.size 39 3 o ts.length (tvals ts)) ∧ Below w.heap.size w wr) (fun _ _ _ v _ => s.size - (intOf v).toNat)
  case atStart => exact ⟨0, 1, false, [], rfl, Nat.zero_le _, rfl, rfl, hr0, Nat.le_refl _, Nat.zero_le _, World.ownsRow_nil _ _ _ _, Below.refl _ _⟩
  case round =>
    obtain ⟨i, line, com, ts, rfl, hi, rfl, rfl, hrun, hline, htl, hrow, hb⟩ := hrel
    by_cases hlt : i < s.size
    · have hbi := bn_int s i hlt
      obtain ⟨b, hbq, hbx⟩ := drop_cons hlt
      have hrun2 := hrun.out
      rw [hbq] at hrun2
      rw [← hbx] at hbi
      have t10 := byte_is b 10
      have t37 := byte_is b 37
      have t32 := byte_is b 32
      have t9 := byte_is b 9
      have t13 := byte_is b 13
      obtain ⟨x, hx⟩ : ∃ x, b.toNat = x := ⟨_, rfl⟩
      rw [hx] at hbi t10 t37 t32 t9 t13
      by_cases c10 : x = 10
      · have hb10 := t10.2 c10
        rw [hb10, run_lf] at hrun2
        have HR := Lib.hid hrun2
        subst c10
        clear t10 t37 t32 t9 t13 hx hrun2 hrun hbq hbx hb10
        go_wp2
        go_roundw
        case rel => exact ⟨i + 1, line + 1, false, ts, by go_num, by omega, by go_num, rfl, HR.out, by omega, by omega, hrow.out, hb⟩
        case measure => simp [intOf]; omega
      have hb10 : ¬ b = 10 := fun e => c10 (t10.1 e)
      have e10 : (((x : Nat) : Int) == 10) = false := by rw [beq_eq_false_iff_ne]; omega
      by_cases c37 : x = 37
      · have hb37 := t37.2 c37
        rw [run_skip _ _ _ _ hb10 (by rw [hb37]; simp), hb37] at hrun2
        have HR : Hid (run (s.data.toList.drop (i + 1)) line true ts = R) := by
          show _ = _
          rw [← hrun2]
          simp
        subst c37
        clear t10 t37 t32 t9 t13 hx hrun2 hrun hbq hbx hb10 hb37 c10 e10
        cases com
        all_goals
          go_wp2
          go_roundw
          case rel => exact ⟨i + 1, line, true, ts, by go_num, by omega, rfl, rfl, HR.out, by omega, by omega, hrow.out, hb⟩
          case measure => simp [intOf]; omega
      have hb37 : (b == 37) = false := by rw [beq_eq_false_iff_ne]; exact fun e => c37 (t37.1 e)
      have e37 : (((x : Nat) : Int) == 37) = false := by rw [beq_eq_false_iff_ne]; omega
      cases com with
      | true =>
        rw [run_skip _ _ _ _ hb10 (by simp)] at hrun2
        have HR : Hid (run (s.data.toList.drop (i + 1)) line true ts = R) := hrun2
        clear t10 t37 t32 t9 t13 hx hrun2 hrun hbq hbx hb10 hb37 c10 c37
        go_wp2
        go_roundw
        case rel => exact ⟨i + 1, line, true, ts, by go_num, by omega, rfl, rfl, HR.out, by omega, by omega, hrow.out, hb⟩
        case measure => simp [intOf]; omega
      | false =>
        by_cases cs : x = 32 ∨ x = 9 ∨ x = 13
        · have hsep : isSep b = true := by
            rcases cs with e | e | e
            · rw [t32.2 e]; rfl
            · rw [t9.2 e]; rfl
            · rw [t13.2 e]; rfl
          rw [run_skip _ _ _ _ hb10 (by rw [hsep]; simp), hb37] at hrun2
          have HR : Hid (run (s.data.toList.drop (i + 1)) line false ts = R) := hrun2
          clear t10 t37 t32 t9 t13 hx hrun2 hrun hbq hbx hb10 hb37 hsep c10 c37
          rcases cs with e | e | e
          all_goals
            subst e
            clear e10 e37
            go_wp2
            go_roundw
            case rel => exact ⟨i + 1, line, false, ts, by go_num, by omega, rfl, rfl, HR.out, by omega, by omega, hrow.out, hb⟩
            case measure => simp [intOf]; omega
        · have e32 : (((x : Nat) : Int) == 32) = false := by rw [beq_eq_false_iff_ne]; omega
          have e9 : (((x : Nat) : Int) == 9) = false := by rw [beq_eq_false_iff_ne]; omega
          have e13 : (((x : Nat) : Int) == 13) = false := by rw [beq_eq_false_iff_ne]; omega
          have hsep : isSep b = false := by
            rw [Bool.eq_false_iff]
            intro e
            simp only [isSep, Bool.or_eq_true, beq_iff_eq] at e
            rcases e with (e | e) | e
            · exact cs (.inl (t32.1 e))
            · exact cs (.inr (.inl (t9.1 e)))
            · exact cs (.inr (.inr (t13.1 e)))
          have hcond : (false || b == 37 || isSep b) = false := by rw [hb37, hsep]; rfl
          obtain ⟨r, hr⟩ : ∃ r, s.extract i s.size = r := ⟨_, rfl⟩
          have hrl : r.data.toList = s.data.toList.drop i := by rw [← hr, drop_extract]
          have hrs : r.size = s.size - i := by rw [← hr, extract_size s i (by omega)]
          have hnil : r.data.toList ≠ [] := by rw [hrl, hbq]; simp
          have hle := fst3_le hnil
          obtain ⟨⟨k, n, E⟩, hf⟩ : ∃ p, fst3 r.data.toList = p := ⟨_, rfl⟩
          rw [hf, size_list] at hle
          have hf2 := hf
          rw [hrl, hbq] at hf2
          have HTok := Lib.hid (show ∀ W, Calls Tryd.prog 71 #[.string r] W fun e w' => TokRet r.data.toList e ∧ Below W.heap.size W w' from fun W => rtoken_any r W (by omega) (by omega))
          have HF := Lib.hid hf
          by_cases hE : E = 0
          · subst hE
            rw [run_tok _ line false ts hb10 hcond (by rw [hf2]), hf2] at hrun2
            have hpos : 1 ≤ n := by
              have := fst3_pos (l := b :: s.data.toList.drop (i + 1)) (by rw [hf2])
              rw [hf2] at this
              exact this
            simp only at hrun2 hle
            rw [← hbq, List.drop_drop] at hrun2
            have HR : Hid (run (s.data.toList.drop (i + n)) line false (ts ++ [⟨k, tokText k n r.data.toList, line⟩]) = R) := by
              show _ = _
              rw [← hrun2, hrl]
            obtain ⟨y, hy⟩ : ∃ y, tokText k n r.data.toList = y := ⟨_, rfl⟩
            rw [hy] at HR
            have HY := Lib.hid hy
            have hin : i + n ≤ s.size := by have := hle.1; omega
            have hlr := hb.size
            clear t10 t37 t32 t9 t13 hx hrun2 hrun hbq hbx hb10 hb37 hsep c10 c37 cs hcond hrl hnil hf hf2 hy hle hrs
            go_wp2_with (first | (go_at_call 71; refine (HTok.out _).mono ?_; rintro e w2 ⟨⟨kk, tt, zz, nn, rfl, hok⟩, hbT⟩; rw [HF.out] at hok ⊢; obtain ⟨rfl, rfl, rfl, rfl⟩ := hok rfl; rw [HY.out]) | (at_builtin; go_loud (refine wpList_append_own _ rfl _ _ 33 rfl w.heap.size 39 i0 (.agg #[.int .i64 0, .string ByteArray.empty, .int .i64 0]) 3 32 Tryd.underlying33 HI.out.1 HI.out.2.1 HI.out.2.2.1 HI.out.2.2.2 rfl (by decide) _ _ _ rfl (((owns_below hrow.out hbT).alloc _).alloc _) ⟨w2.heap.size + 1, 0, none⟩ 1 1 (tcells (Tok.mk k y line)) rfl rfl (cells3_new2 _ _ _ _ _ _) ?_ ?_ ?_ ?_ ?_); rotate_right; intro v' w3 hown hgrow _))
            · have hown' : w3.ownsRow w.heap.size 39 3 v' (ts ++ [Tok.mk k y line]).length (tvals (ts ++ [Tok.mk k y line])) := by
                rw [← tvals_snoc, List.length_append]
                exact hown
              have hbw : Below w.heap.size w w2 := hb.trans (hbT.mono hb.size)
              have hrz := fun j hj => ((owns_below hrow.out hbT).lt j hj).1
              have hsz2 := hbw.size
              exact ⟨⟨i + nn, line, false, ts ++ [Tok.mk k y line], by go_num, hin, rfl, rfl, HR.out, by omega, by simp only [List.length_append, List.length_cons, List.length_nil]; omega, hown', ((hbw.alloc hbw.size _).alloc (by simp; omega) _).grown hgrow (by simp; omega) hrz⟩, by simp [intOf]; omega⟩
            · intro u hu
              simp only [tcells, List.mem_cons, List.not_mem_nil, or_false] at hu
              rcases hu with rfl | rfl | rfl <;> rfl
            · unfold maxLen; omega
            · omega
            · have := hb.size; have := hbT.size; first | omega | (simp; omega)
          · rw [run_err _ line false ts hb10 hcond (by rw [hf2]; exact hE), hf2] at hrun2
            have hend : Hid (R = ⟨[], line, E⟩) := hrun2.symm
            have hE2 : (E != 0) = true := by simpa using hE
            clear t10 t37 t32 t9 t13 hx hrun2 hrun hbq hbx hb10 hb37 hsep c10 c37 cs hcond hrl hnil hf hf2 hle hrs hE
            go_wp2_with (first | (go_at_call 71; refine (HTok.out _).mono ?_; rintro e w2 ⟨⟨kk, tt, zz, nn, rfl, -⟩, hbT⟩; rw [HF.out]))
            go_ret3
            rw [hend.out]
            exact ⟨none, 0, 0, rfl, IsToks.nil _, by first | exact hb.trans (hbT.mono hb.size) | exact (hb.trans (hbT.mono hb.size)).alloc (by have := hb.size; have := hbT.size; omega) _⟩
    · obtain rfl : i = s.size := by omega
      have hend : Hid (R = ⟨ts, 0, 0⟩) := by
        show _ = _
        rw [← hrun.out, List.drop_of_length_le (by rw [size_list]; exact Nat.le_refl _)]; rfl
      obtain ⟨aa, cc, rfl, hres⟩ := IsToks.of_owns hrow.out
      have HRes := Lib.hid hres
      clear hrow hres hrun
      go_wp2
      go_ret3
      rw [hend.out]
      exact ⟨aa, _, cc, rfl, HRes.out, hb⟩
end Go.Proofs.YtlnmcegnnncepaaDoor
