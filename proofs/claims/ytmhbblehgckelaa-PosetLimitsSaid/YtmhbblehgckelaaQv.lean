/- many: the declarations of the limits. -/
import Derived.Test.YtmhbblehgckelaaQr
import Derived.Test.YtmhbblehgckelaaQu
import Derived.ArgAppend
namespace Go.Proofs.Ytmhbblehgckelaa
open Go.RowKit Go.Maps

theorem name_nat (k : Nat) (hk : k < 300) : (mnm k) = [97, UInt8.ofNat (97 + k / 26), UInt8.ofNat (97 + k % 26)] ∧ (UInt8.ofNat (97 + k / 26)).toNat = 97 + k / 26 ∧ (UInt8.ofNat (97 + k % 26)).toNat = 97 + k % 26 := by
  refine ⟨rfl, ?_, ?_⟩ <;> (rw [UInt8.toNat_ofNat']; omega)
/-- A string of two bytes, made of a row that was laid for it. -/
theorem conv_two (k : Nat) (hk : k < 300) (w : World) : (convert 49 9 (.slice (some ⟨w.heap.size, 0, none⟩) 2 2)).run Try.prog (w.alloc (.cells #[.int .u8 (97 + (k : Int) / 26), .int .u8 (97 + (k : Int) % 26)] 5)) = .ok (.string (mk [UInt8.ofNat (97 + k / 26), UInt8.ofNat (97 + k % 26)])) (w.alloc (.cells #[.int .u8 (97 + (k : Int) / 26), .int .u8 (97 + (k : Int) % 26)] 5)) := by
  refine run_convert_bytes_back (P := Try.prog) _ _ _ 5 ⟨w.heap.size, 0, none⟩ 2 [UInt8.ofNat (97 + k / 26), UInt8.ofNat (97 + k % 26)] Try.underlying49 Try.underlying5 Try.underlying9 (fun j hj => ?_)
  obtain ⟨_, h1, h2⟩ := name_nat k hk
  rcases j with _ | _ | j
  · show (w.alloc _).cell? ⟨w.heap.size, 0, none⟩ = some (.int .u8 ((UInt8.ofNat (97 + k / 26)).toNat : Int))
    rw [World.cell?_alloc_new, h1]
    show some (Value.int .u8 (97 + (k : Int) / 26)) = _
    rw [show (97 : Int) + (k : Int) / 26 = ((97 + k / 26 : Nat) : Int) by omega]
  · show (w.alloc _).cell? ⟨w.heap.size, 1, none⟩ = some (.int .u8 ((UInt8.ofNat (97 + k % 26)).toNat : Int))
    rw [World.cell?_alloc_new, h2]
    show some (Value.int .u8 (97 + (k : Int) % 26)) = _
    rw [show (97 : Int) + (k : Int) % 26 = ((97 + k % 26 : Nat) : Int) by omega]
  · simp at hj
    omega
theorem two_str (k : Nat) (hk : k < 300) : ∃ y : ByteArray, (∀ w : World, (convert 49 9 (.slice (some ⟨w.heap.size, 0, none⟩) 2 2)).run Try.prog (w.alloc (.cells #[.int .u8 (97 + (k : Int) / 26), .int .u8 (97 + (k : Int) % 26)] 5)) = .ok (.string y) (w.alloc (.cells #[.int .u8 (97 + (k : Int) / 26), .int .u8 (97 + (k : Int) % 26)] 5))) ∧ y.size = 2 ∧ (⟨#[97]⟩ : ByteArray) ++ y = mk (mnm k) := by
  refine ⟨_, conv_two k hk, rfl, ?_⟩
  apply ByteArray.ext
  simp [mk, mnm]

/-- No slice among these values lies in the row, and all lie in the world. -/
def Ap (w : World) (row : Option Nat) (vs : List Value) : Prop := ∀ (j : Nat) (sa : Option Addr) (m c : Nat) (p : Addr), vs[j]? = some (.slice sa m c) → sa = some p → row ≠ some p.block ∧ p.block < w.heap.size
/-- A row of declarations that is owned, and apart from the slices in it. -/
structure OwnD (w : World) (B n : Nat) (v : Value) (vs : List Value) (D : List Dec) : Prop where
  row : w.ownsRow B 35 3 v n vs
  dec : DecVs w vs D
  apart : Ap w v.ownBlock vs
theorem IsStrs.apart {w w' : World} {a : Option Addr} {n cap : Nat} {xs : List Str} {row : Option Nat} (h : IsStrs w a n cap xs) (hg : w.grownBy w' row) (hr : ∀ p : Addr, a = some p → row ≠ some p.block) : IsStrs w' a n cap xs := by
  refine ⟨h.len, h.capLe, h.maxLe, h.small, h.nil_, fun h0 => ?_⟩
  obtain ⟨b, off, e, hl, hcs⟩ := h.at_ h0
  exact ⟨b, off, e, Nat.lt_of_lt_of_le hl hg.size, fun i hi => (World.cell?_of_block (a := ⟨b, off + i, none⟩) (hg.block b hl (fun e' => hr _ e e'.symm))).trans (hcs i hi)⟩
theorem DecVs.apart {w w' : World} {vs : List Value} {D : List Dec} {row : Option Nat} (h : DecVs w vs D) (hg : w.grownBy w' row) (hr : Ap w row vs) : DecVs w' vs D :=
  ⟨h.1, fun i d hd => let ⟨sa, sc, fa, fc, h0, h1, h2, h3, h4⟩ := h.2 i d hd; ⟨sa, sc, fa, fc, h0, h1, h2, h3.apart hg (fun p hp => (hr _ _ _ _ p h1 hp).1), h4⟩⟩
theorem OwnD.below {w w' : World} {B n : Nat} {v : Value} {vs : List Value} {D : List Dec} (h : OwnD w B n v vs D) (hb : Below w.heap.size w w') : OwnD w' B n v vs D :=
  ⟨owns_below h.row hb, h.dec.below hb, fun j sa m c p h1 h2 => ⟨(h.apart j sa m c p h1 h2).1, Nat.lt_of_lt_of_le (h.apart j sa m c p h1 h2).2 hb.size⟩⟩
theorem OwnD.push {w w' : World} {B n : Nat} {v v' : Value} {vs news : List Value} {D : List Dec} {d : Dec} (h : OwnD w B n v vs D) (hd : DecVs w news [d]) (ha : Ap w v.ownBlock news)
    (hr : w'.ownsRow B 35 3 v' (n + 1) (vs ++ news)) (hg : w.grownBy w' v.ownBlock) (hl : v'.ownBlock = v.ownBlock ∨ v'.ownBlock = some w.heap.size) : OwnD w' B (n + 1) v' (vs ++ news) (D ++ [d]) := by
  have hap : Ap w v.ownBlock (vs ++ news) := by
    intro j sa m c p h1 h2
    rcases Nat.lt_or_ge j vs.length with hj | hj
    · rw [List.getElem?_append_left hj] at h1
      exact h.apart j sa m c p h1 h2
    · rw [List.getElem?_append_right hj] at h1
      exact ha _ sa m c p h1 h2
  refine ⟨hr, (h.dec.apart hg h.apart).app (hd.apart hg ha), fun j sa m c p h1 h2 => ?_⟩
  obtain ⟨k1, k2⟩ := hap j sa m c p h1 h2
  refine ⟨?_, Nat.lt_of_lt_of_le k2 hg.size⟩
  rcases hl with e | e
  · rw [e]; exact k1
  · rw [e]; intro hh; have := Option.some.inj hh; omega
/-- append of one declaration to an owned row. -/
theorem wpList_append_dec {w : World} {ops : Array Oper} {rest : List Oper} {o : Oper} {a : Act} {Q : Exit → Act → World → Prop} (hgd : o.guard = none) (s x : Operand)
    (ho : o.op = .call { callee := .builtin .append, args := #[s, x], argTypes := #[22, 22] })
    (base : Nat) (v : Value) (n : Nat) (vs : List Value) (D : List Dec) (hs : a.eval s = v) (hown : OwnD w base n v vs D)
    (b c : Nat) (x0 x1 x2 : Value) (hx : a.eval x = .slice (some ⟨b, 0, none⟩) 1 c) (hc : w.heap[b]? = some (.cells #[x0, x1, x2] 35)) (d : Dec) (hd : DecVs w [x0, x1, x2] [d])
    (ha : Ap w v.ownBlock [x0, x1, x2]) (h63 : n ≤ 100000) (hbase : base ≤ w.heap.size)
    (h : ∀ v' w', OwnD w' base (n + 1) v' (vs ++ [x0, x1, x2]) (D ++ [d]) → w.grownBy w' v.ownBlock → wpList Try.prog ops Q rest (a.put o.dst v') w') : wpList Try.prog ops Q (o :: rest) a w := by
  obtain ⟨i0, hi, hz0, hz1, hz2⟩ := info_parts Try.infoD
  refine wpList_append_own_at w hgd s x 22 ho base 35 i0 _ 3 64 Try.underlying22 hi hz0 hz1 hz2 rfl (by decide) v n vs hs hown.row ⟨b, 0, none⟩ 1 c [x0, x1, x2] hx rfl ?_ (hd.one) (by unfold maxLen; omega) (by omega) hbase fun v' w' h2 h3 _ h5 => h v' w' (hown.push hd ha h2 h3 h5) h3
  intro j u hu
  rw [show (⟨b, 0, none⟩ : Addr).add j = ⟨b, j, none⟩ by unfold Addr.add; split <;> simp_all]
  rw [← hu]
  rw [cell_of_row w b j _ _ _ hc]
  simp

abbrev mW (w : World) (k : Nat) (x : Str) : World := (((w.alloc (.cells #[.int .u8 (97 + (k : Int) / 26), .int .u8 (97 + (k : Int) % 26)] 5)).alloc (.cells #[.string ⟨#[116]⟩] 9)).alloc (.cells #[.string (mk x), .slice (some ⟨w.heap.size + 1, 0, none⟩) 1 1, .slice none 0 0] 35)).alloc (.cells #[.string (mk x), .slice (some ⟨w.heap.size + 1, 0, none⟩) 1 1, .slice none 0 0] 35)
theorem mW_is (w : World) (k : Nat) (x : Str) (hx : x.length ≤ maxLen) : Below w.heap.size w (mW w k x) ∧ (mW w k x).heap.size = w.heap.size + 4 ∧ (mW w k x).heap[w.heap.size + 1 + 1 + 1]? = some (.cells #[.string (mk x), .slice (some ⟨w.heap.size + 1, 0, none⟩) 1 1, .slice none 0 0] 35) ∧ DecVs (mW w k x) [.string (mk x), .slice (some ⟨w.heap.size + 1, 0, none⟩) 1 1, .slice none 0 0] [⟨x, [[116]], 0⟩] := by
  have s1 := lit_at (w.alloc (.cells #[.int .u8 (97 + (k : Int) / 26), .int .u8 (97 + (k : Int) % 26)] 5)) [[116]] (by decide) (by decide) (w.heap.size + 1) (by simp) (by decide)
  have s2 := (s1.below (ba _ (.cells #[.string (mk x), .slice (some ⟨w.heap.size + 1, 0, none⟩) 1 1, .slice none 0 0] 35))).below (ba _ (.cells #[.string (mk x), .slice (some ⟨w.heap.size + 1, 0, none⟩) 1 1, .slice none 0 0] 35))
  refine ⟨((((Below.refl _ w).alloc (Nat.le_refl _) _).alloc (by simp) _).alloc (by simp; omega) _).alloc (by simp; omega) _, by simp, ?_, rfl, fun i d hd => ?_⟩
  · have := heap_alloc_new (((w.alloc (.cells #[.int .u8 (97 + (k : Int) / 26), .int .u8 (97 + (k : Int) % 26)] 5)).alloc (.cells #[.string ⟨#[116]⟩] 9)).alloc (.cells #[.string (mk x), .slice (some ⟨w.heap.size + 1, 0, none⟩) 1 1, .slice none 0 0] 35)) (.cells #[.string (mk x), .slice (some ⟨w.heap.size + 1, 0, none⟩) 1 1, .slice none 0 0] 35)
    rwa [World.size_alloc, World.size_alloc, World.size_alloc] at this
  · rcases i with _ | i
    · cases hd
      exact ⟨_, _, none, 0, rfl, rfl, rfl, s2, Nat.le_refl _, Nat.zero_le _, hx⟩
    · simp at hd

set_option maxRecDepth 100000 in
set_option maxHeartbeats 1600000 in
theorem many_any (w : World) (n : Nat) (h1 : 1 ≤ n) (h2 : n < 300) :
    Calls Try.prog 14 #[.int .i64 n] w fun e w' => ∃ v vs, e = .returned v ∧ OwnD w' w.heap.size n v vs (manyT (n - 1)) ∧ vs[2]? = some (.slice none 0 0) ∧ Below w.heap.size w w' := by
  go_enter Try.func14, Try.ntmps14
  go_wp2_with (go_at_call 15; refine (decl_any _ _ _ _ _).mono ?_; rintro e w1 ⟨rfl, rfl⟩)
  have hown0 : ((w.alloc (.cells #[.string ⟨#[116]⟩, .slice none 0 0, .slice none 0 0] 35)).alloc (.cells #[.string ⟨#[116]⟩, .slice none 0 0, .slice none 0 0] 35)).ownsRow w.heap.size 35 3 (.slice (some ⟨w.heap.size + 1, 0, none⟩) 1 1) 1 [.string (mk [116]), .slice none 0 0, .slice none 0 0] :=
    ⟨rfl, .inr ⟨w.heap.size + 1, 1, #[.string ⟨#[116]⟩, .slice none 0 0, .slice none 0 0], rfl, by omega, by have := heap_alloc_new (w.alloc (.cells #[.string ⟨#[116]⟩, .slice none 0 0, .slice none 0 0] 35)) (.cells #[.string ⟨#[116]⟩, .slice none 0 0, .slice none 0 0] 35); rwa [World.size_alloc] at this, Nat.le_refl _, by unfold maxLen; omega, rfl, rfl⟩⟩
  go_loopw [3, 4] (fun v i wr => ∃ (k : Nat) (vs : List Value), 1 ≤ k ∧ k ≤ n ∧ i = .int .i64 k ∧ Hid (OwnD wr w.heap.size k v vs (manyT (k - 1))) ∧ Hid (vs[2]? = some (.slice none 0 0)) ∧ Below w.heap.size w wr) (fun _ i _ => n - (intOf i).toNat)
  case atStart => exact ⟨1, _, Nat.le_refl _, h1, rfl, ⟨hown0, ⟨rfl, fun i d hd => by
      rcases i with _ | i
      · cases hd
        exact ⟨none, 0, none, 0, rfl, rfl, rfl, IsStrs.nil _, Nat.le_refl _, Nat.zero_le _, by decide⟩
      · simp [manyT] at hd⟩, fun j sa m c p h1 h2 => by
      rcases j with _ | _ | _ | j
      · cases h1
      · cases h1; cases h2
      · cases h1; cases h2
      · simp at h1⟩, rfl, ((Below.refl _ w).alloc (Nat.le_refl _) _).alloc (by simp) _⟩
  case round =>
    clear hown0
    obtain ⟨k, vs, hk1, hk, rfl, hrow, hv2, hB⟩ := hrel
    by_cases hlt : k < n
    · obtain ⟨y, hcv, hsz, hap⟩ := two_str k (by omega)
      have HMN : Hid (manyT k = manyT (k - 1) ++ [⟨mnm k, [[116]], 0⟩]) := by
        show _ = _
        obtain ⟨j, rfl⟩ : ∃ j, k = j + 1 := ⟨k - 1, by omega⟩
        exact manyT_succ j
      have HML : Hid ((mnm k).length ≤ maxLen) := by show _ ≤ _; unfold mnm maxLen; simp
      have HOW := Lib.hid hrow.out
      obtain ⟨xm, hxm⟩ : ∃ xm, mnm k = xm := ⟨_, rfl⟩
      rw [hxm] at HMN HML hap
      clear hrow hxm
      have hsz1 := hB.size
      have MW := Lib.hid (mW_is wr k xm HML.out)
      have HAP : Hid (Ap (mW wr k xm) u3.ownBlock [.string (mk xm), .slice (some ⟨wr.heap.size + 1, 0, none⟩) 1 1, .slice none 0 0]) := fun j sa m c p h1 h2 => by
        have h3 := MW.out.2.1
        rcases j with _ | _ | _ | j
        · cases h1
        · cases h1
          cases h2
          refine ⟨fun e => ?_, by show wr.heap.size + 1 < _; omega⟩
          have := (HOW.out.row.lt _ e).2
          dsimp only at this
          omega
        · cases h1; cases h2
        · simp at h1
      go_wp2_with (first
        | (go_at_call 15; refine (decl_any _ _ _ _ _).mono ?_; rintro e w1 ⟨rfl, rfl⟩)
        | (at_builtin; refine wpList_append_dec (w := mW wr k xm) rfl _ _ rfl w.heap.size u3 k vs _ rfl (HOW.out.below MW.out.1) (wr.heap.size + 1 + 1 + 1) 1 _ _ _ rfl MW.out.2.2.1 ⟨xm, [[116]], 0⟩ MW.out.2.2.2 HAP.out (by omega) (by have := MW.out.2.1; omega) ?_; intro v5 w5 hown5 hgrow5; have O5 := Lib.hid hown5; have B5 := Lib.hid (grown_below (hB.trans (MW.out.1.mono hB.size)) (by have := MW.out.2.1; omega) (HOW.out.below MW.out.1).row hgrow5); clear hown5 hgrow5))
      go_roundw
      case rel => exact ⟨k + 1, _, by omega, by omega, by go_num, (by have := O5.out; rw [← HMN.out] at this; exact this), (by show _ = _; rw [List.getElem?_append_left (by rw [HOW.out.dec.1, manyT_len]; omega)]; exact hv2.out), B5.out⟩
      case measure => simp [intOf]; omega
    · obtain rfl : n = k := by omega
      go_wp2
      go_ret
      exact ⟨_, _, rfl, hrow.out, hv2.out, hB⟩
end Go.Proofs.Ytmhbblehgckelaa
