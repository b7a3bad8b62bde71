/- Lists of strings and of declarations in memory. -/
import Derived.Test.YtmhbblehgckelaaNb
import Derived.Test.YtmhbblehgckelaaPc
import Derived.Laws.AppendOwn
import Derived.Maps.AppendAt
import Derived.Laws.AppendOwnNone
namespace Go.Proofs.Ytmhbblehgckelaa
open Go.RowKit

def mk (l : List UInt8) : ByteArray := ⟨l.toArray⟩
theorem mk_list (l : List UInt8) : (mk l).data.toList = l := by simp [mk]
theorem mk_size (l : List UInt8) : (mk l).size = l.length := by simp [mk, ByteArray.size]
theorem mk_self (s : ByteArray) : mk s.data.toList = s := by
  apply ByteArray.ext; simp [mk]
theorem mk_inj {a b : List UInt8} (h : mk a = mk b) : a = b := by
  have := congrArg (fun s : ByteArray => s.data.toList) h
  simpa [mk] using this
theorem below_drewN2 {B : Nat} {a w : World} (h : Below B a w) (k : Nat) : Below B a (w.drewN k) := ⟨h.os, h.tape, h.output, h.size, h.block⟩

def st (zs : List Str) (i : Nat) : Str := zs.getD i []
def svals (zs : List Str) : List Value := zs.map fun l => Value.string (mk l)
theorem svals_len (zs : List Str) : (svals zs).length = zs.length := by simp [svals]
theorem svals_snoc (zs : List Str) (l : Str) : svals zs ++ [Value.string (mk l)] = svals (zs ++ [l]) := by simp [svals]
theorem svals_app (a b : List Str) : svals a ++ svals b = svals (a ++ b) := by simp [svals]
theorem st_get {zs : List Str} {i : Nat} (h : i < zs.length) : zs[i]? = some (st zs i) := by
  unfold st; rw [List.getD_eq_getElem?_getD, List.getElem?_eq_getElem h]; rfl
theorem st_mem {zs : List Str} {i : Nat} (h : i < zs.length) : st zs i ∈ zs := List.mem_of_getElem? (st_get h)
theorem take_st {zs : List Str} {i : Nat} (h : i < zs.length) : zs.take (i + 1) = zs.take i ++ [st zs i] := by
  rw [List.take_succ_eq_append_getElem h]
  have := st_get h
  rw [List.getElem?_eq_getElem h] at this
  rw [Option.some.inj this]
/-- A slice of strings that reads as a list. -/
structure IsStrs (w : World) (a : Option Addr) (n cap : Nat) (zs : List Str) : Prop where
  len : zs.length = n
  capLe : n ≤ cap
  maxLe : cap ≤ maxLen
  small : ∀ z ∈ zs, z.length ≤ maxLen
  nil_ : a = none → cap = 0
  at_ : 0 < n → ∃ b off, a = some ⟨b, off, none⟩ ∧ b < w.heap.size ∧ ∀ i, i < n → w.cell? ⟨b, off + i, none⟩ = some (.string (mk (st zs i)))
theorem IsStrs.below {w w' : World} {a : Option Addr} {n cap : Nat} {xs : List Str} (h : IsStrs w a n cap xs) (hb : Below w.heap.size w w') : IsStrs w' a n cap xs := by
  have hsz := hb.size
  refine ⟨h.len, h.capLe, h.maxLe, h.small, h.nil_, fun h0 => ?_⟩
  obtain ⟨b, off, e, hl, hc⟩ := h.at_ h0
  exact ⟨b, off, e, by omega, fun i hi => (hb.cell (p := ⟨b, off + i, none⟩) hl).trans (hc i hi)⟩
theorem IsStrs.nil (w : World) : IsStrs w none 0 0 [] := ⟨rfl, Nat.le_refl _, Nat.zero_le _, (fun _ h => (List.not_mem_nil h).elim), fun _ => rfl, fun h => absurd h (Nat.lt_irrefl _)⟩
/-- Another world that has the same cells. -/
theorem IsStrs.same {w w' : World} {a : Option Addr} {n cap : Nat} {xs : List Str} (h : IsStrs w a n cap xs) (hz : w.heap.size ≤ w'.heap.size) (hc : ∀ b off, a = some ⟨b, off, none⟩ → w'.heap[b]? = w.heap[b]?) : IsStrs w' a n cap xs := by
  refine ⟨h.len, h.capLe, h.maxLe, h.small, h.nil_, fun h0 => ?_⟩
  obtain ⟨b, off, e, hl, hcs⟩ := h.at_ h0
  exact ⟨b, off, e, by omega, fun i hi => (World.cell?_of_block (a := ⟨b, off + i, none⟩) (hc b off e)).trans (hcs i hi)⟩
theorem Try.infoS : (Try.prog.info? 9).map (fun i => (i.zero, i.size, i.bytes)) = some (some (.string ByteArray.empty), 1, 16) := by kernel_rfl
/-- A row of strings that the call owns reads as its list. -/
theorem IsStrs.of_owns {w : World} {B n : Nat} {v : Value} {zs : List Str} (h : w.ownsRow B 9 1 v n (svals zs)) (hs : ∀ z ∈ zs, z.length ≤ maxLen) :
    ∃ a cap, v = .slice a n cap ∧ IsStrs w a n cap zs := by
  have hh := h
  have hlen : zs.length = n := by have := h.1; rw [svals_len] at this; omega
  obtain ⟨h1, ⟨h2, h3⟩ | ⟨g, cap, cur, hv, hB, hg, h3, h4, h5, h6⟩⟩ := h
  · subst h3
    exact ⟨none, 0, h2, hlen, Nat.le_refl _, Nat.zero_le _, hs, fun _ => rfl, fun h0 => absurd h0 (Nat.lt_irrefl _)⟩
  · refine ⟨some ⟨g, 0, none⟩, cap, hv, hlen, h3, h4, hs, (fun e => by cases e), fun _ => ⟨g, 0, rfl, lt_of_block hg, fun i hi => ?_⟩⟩
    have := hh.cells (g := g) (by rw [hv]; rfl) i (.string (Go.Proofs.Ytmhbblehgckelaa.mk (st zs i))) (by
      simp [svals, st, List.getD_eq_getElem?_getD, List.getElem?_eq_getElem (show i < zs.length by omega)])
    rw [show (⟨g, 0, none⟩ : Addr).add i = ⟨g, i, none⟩ by unfold Addr.add; split <;> simp_all] at this
    rw [Nat.zero_add]
    exact this
theorem owns_below {w w' : World} {B n sz : Nat} {e : TypeId} {v : Value} {xs : List Value} (h : w.ownsRow B e sz v n xs) (hb : Below w.heap.size w w') : w'.ownsRow B e sz v n xs := by
  obtain ⟨h1, h2 | ⟨g, cap, cur, hv, hB, hg, r⟩⟩ := h
  · exact ⟨h1, .inl h2⟩
  · have hlt : g < w.heap.size := lt_of_block hg
    exact ⟨h1, .inr ⟨g, cap, cur, hv, hB, (hb.block g hlt).trans hg, r⟩⟩
theorem one_newS (w : World) (x : Value) (t : TypeId) : ∀ j u, [x][j]? = some u → (w.alloc (.cells #[x] t)).cell? ((⟨w.heap.size, 0, none⟩ : Addr).add j) = some u := cell_one_new w x t

/-- The call returns a slice of strings that reads as this list, and is its own; nothing that was there has changed. -/
def RetL (xs : List Str) (w : World) (e : Ending) (w' : World) : Prop :=
  ∃ v, e = .returned v ∧ w'.ownsRow w.heap.size 9 1 v xs.length (svals xs) ∧ (∀ z ∈ xs, z.length ≤ maxLen) ∧ Below w.heap.size w w'

/-- A new block of one string. -/
theorem IsStrs.one (w : World) (x : Str) (hx : x.length ≤ maxLen) : IsStrs (w.alloc (.cells #[.string (Go.Proofs.Ytmhbblehgckelaa.mk x)] 9)) (some ⟨w.heap.size, 0, none⟩) 1 1 [x] :=
  ⟨rfl, Nat.le_refl _, by unfold maxLen; omega, (fun z hz => by simp at hz; rw [hz]; exact hx), (fun e => by cases e), fun _ => ⟨w.heap.size, 0, rfl, by simp, fun i hi => by
    obtain rfl : i = 0 := by omega
    exact cell_of_one (heap_alloc_new w _)⟩⟩
set_option maxRecDepth 100000 in
/-- append of a slice of strings to a row that the call owns. -/
theorem wpList_append_strs {w : World} {ops : Array Oper} {rest : List Oper} {o : Oper} {a : Act} {Q : Exit → Act → World → Prop} (hgd : o.guard = none) (s x : Operand)
    (ho : o.op = .call { callee := .builtin .append, args := #[s, x], argTypes := #[25, 25] })
    (base : Nat) (v : Value) (n : Nat) (zs : List Str) (hs : a.eval s = v) (hown : w.ownsRow base 9 1 v n (svals zs))
    (xa : Option Addr) (m c : Nat) (ys : List Str) (hx : a.eval x = .slice xa m c) (hys : IsStrs w xa m c ys) (h63 : n + m ≤ 1000000) (hbase : base ≤ w.heap.size)
    (h : ∀ v' w', w'.ownsRow base 9 1 v' (n + m) (svals (zs ++ ys)) → w.grownBy w' v.ownBlock → wpList Try.prog ops Q rest (a.put o.dst v') w') : wpList Try.prog ops Q (o :: rest) a w := by
  obtain ⟨i0, hi, hz0, hz1, hz2⟩ := info_parts Try.infoS
  have hl := hys.len
  cases xa with
  | none =>
    have hc0 := hys.nil_ rfl
    have hcl := hys.capLe
    obtain rfl : m = 0 := by omega
    subst hc0
    have hy0 : ys = [] := List.eq_nil_of_length_eq_zero hl
    subst hy0
    refine wpList_append_own_none hgd s x 25 ho base 9 i0 1 Try.underlying25 hi v n (svals zs) hs hown hx ?_
    exact h v w (by rw [List.append_nil]; exact hown) ⟨rfl, rfl, rfl, Nat.le_refl _, fun _ _ _ => rfl⟩
  | some ad =>
    refine wpList_append_own w hgd s x 25 ho base 9 i0 (.string ByteArray.empty) 1 16 Try.underlying25 hi hz0 hz1 hz2 rfl (by decide) v n (svals zs) hs hown ad m c (svals ys) hx (by rw [svals_len]; omega) ?_ ?_ (by unfold maxLen; omega) (by omega) hbase fun v' w' h1 h2 _ => h v' w' (by rw [← svals_app]; exact h1) h2
    · intro j u hu
      have hj : j < m := by
        have := (List.getElem?_eq_some_iff.1 hu).1
        rw [svals_len] at this; omega
      obtain ⟨b, off, e, _, hc⟩ := hys.at_ (by omega)
      cases e
      have hu2 : u = .string (mk (st ys j)) := by
        unfold svals at hu
        rw [List.getElem?_map, st_get (by omega)] at hu
        exact (Option.some.inj hu).symm
      rw [hu2, ← hc j hj]
      congr 1
      unfold Addr.add; split <;> simp_all
    · intro u hu
      obtain ⟨z, _, rfl⟩ := List.mem_map.1 hu
      rfl

theorem bcell {W w1 : World} (hb : Below W.heap.size W w1) : (∀ b o, b < W.heap.size → w1.cell? ⟨b, o, none⟩ = W.cell? ⟨b, o, none⟩) ∧ (∀ b o, b < W.heap.size → w1.frozen? ⟨b, o, none⟩ = W.frozen? ⟨b, o, none⟩) :=
  ⟨fun b o h => hb.cell (p := ⟨b, o, none⟩) h, fun b o h => hb.frozen (p := ⟨b, o, none⟩) h⟩

/-! ### Declarations -/
def dc (D : List Dec) (i : Nat) : Dec := D.getD i ⟨[], [], 0⟩
theorem dc_get {D : List Dec} {i : Nat} (h : i < D.length) : D[i]? = some (dc D i) := by
  unfold dc; rw [List.getD_eq_getElem?_getD, List.getElem?_eq_getElem h]; rfl
theorem dc_mem {D : List Dec} {i : Nat} (h : i < D.length) : dc D i ∈ D := List.mem_of_getElem? (dc_get h)
theorem take_dc {D : List Dec} {i : Nat} (h : i < D.length) : D.take (i + 1) = D.take i ++ [dc D i] := by
  rw [List.take_succ_eq_append_getElem h]
  have := dc_get h
  rw [List.getElem?_eq_getElem h] at this
  rw [Option.some.inj this]
/-- A declaration at a place in memory. -/
structure DecAt (w : World) (b o : Nat) (d : Dec) (sa : Option Addr) (sc : Nat) (fa : Option Addr) (fc : Nat) : Prop where
  c0 : w.cell? ⟨b, o, none⟩ = some (.string (mk d.name))
  c1 : w.cell? ⟨b, o + 1, none⟩ = some (.slice sa d.sup.length sc)
  c2 : w.cell? ⟨b, o + 2, none⟩ = some (.slice fa d.nf fc)
  ss : IsStrs w sa d.sup.length sc d.sup
  fl : d.nf ≤ fc
  fm : fc ≤ maxLen
  nl : d.name.length ≤ maxLen
theorem DecAt.below {w w' : World} {b o : Nat} {d : Dec} {sa fa : Option Addr} {sc fc : Nat} (h : DecAt w b o d sa sc fa fc) (hl : b < w.heap.size) (hb : Below w.heap.size w w') : DecAt w' b o d sa sc fa fc :=
  ⟨(hb.cell (p := ⟨b, o, none⟩) hl).trans h.c0, (hb.cell (p := ⟨b, o + 1, none⟩) hl).trans h.c1, (hb.cell (p := ⟨b, o + 2, none⟩) hl).trans h.c2, h.ss.below hb, h.fl, h.fm, h.nl⟩
/-- A slice of declarations that reads as a list. -/
structure IsDecs (w : World) (a : Option Addr) (n cap : Nat) (D : List Dec) : Prop where
  len : D.length = n
  capLe : n ≤ cap
  maxLe : cap ≤ maxLen
  at_ : 0 < n → ∃ b off, a = some ⟨b, off, none⟩ ∧ b < w.heap.size ∧ ∀ i, i < n → ∃ sa sc fa fc, DecAt w b (off + i * 3) (dc D i) sa sc fa fc
theorem IsDecs.below {w w' : World} {a : Option Addr} {n cap : Nat} {D : List Dec} (h : IsDecs w a n cap D) (hb : Below w.heap.size w w') : IsDecs w' a n cap D := by
  have hsz := hb.size
  refine ⟨h.len, h.capLe, h.maxLe, fun h0 => ?_⟩
  obtain ⟨b, off, e, hl, hc⟩ := h.at_ h0
  refine ⟨b, off, e, by omega, fun i hi => ?_⟩
  obtain ⟨sa, sc, fa, fc, hd⟩ := hc i hi
  exact ⟨sa, sc, fa, fc, hd.below hl hb⟩
end Go.Proofs.Ytmhbblehgckelaa
