/- Texts joined by wip/gen/merge.py: Cq Cr Cs Ct Ch Cu Cv Dp De Cz Qk Da Cw Db Dc. -/
import Derived.Shelf.SlSortCmp.WholeK
import Derived.Shelf.SlSortFuncK.HeapSortK
import Derived.Test.YtdeamdpoegdmdaaGreatDoorMad
set_option linter.unusedVariables false
set_option linter.unusedSimpArgs false
/- closure: the order of Codes. -/
namespace Go.Proofs.YtdeamdpoegdmdaaGreatDoor
open Go.RowKit Go.Maps Go.Shelf
open S (wd Is64 Fresh bit)

def orI (x y : Int) : Int := if x = 0 then y else x
set_option maxRecDepth 100000 in
theorem OrI_any (w : World) (b : Nat) (x y : Int) (h0 : w.cell? ⟨b, 0, none⟩ = some (.int .i64 x)) (h1 : w.cell? ⟨b, 1, none⟩ = some (.int .i64 y)) :
    Calls Tryz.prog 47 #[.slice (some ⟨b, 0, none⟩) 2 2] w fun e w' => e = .returned (.int .i64 (orI x y)) ∧ w' = w := by
  go_enter Tryz.func47, Tryz.ntmps47
  go_wp2
  go_loopw [8] (fun u wr => ∃ k : Nat, k ≤ 2 ∧ u = .int .i64 k ∧ wr = w ∧ Hid ((1 ≤ k → x = 0) ∧ (2 ≤ k → y = 0))) (fun u _ => 2 - (intOf u).toNat)
  case atStart => exact ⟨0, by omega, rfl, rfl, fun h => absurd h (by omega), fun h => absurd h (by omega)⟩
  case round =>
    obtain ⟨k, hk, rfl, rfl, hz⟩ := hrel
    match k, hk, hz with
    | 0, hk, hz =>
      by_cases e : x = 0
      · subst e
        go_wp2
        go_roundw
        case rel => exact ⟨1, by omega, rfl, by first | trivial | rfl, by first | trivial | exact fun _ => rfl, by first | trivial | exact fun h => absurd h (by omega)⟩
        case measure => simp [intOf]
      · go_wp2
        go_ret
        exact ⟨by unfold orI; rw [if_neg e]; rfl, rfl⟩
    | 1, hk, hz =>
      have hx := hz.out.1 (Nat.le_refl _)
      subst hx
      by_cases e : y = 0
      · subst e
        go_wp2
        go_roundw
        case rel => exact ⟨2, by omega, rfl, by first | trivial | rfl, by first | trivial | exact fun _ => rfl, by first | trivial | exact fun _ => rfl⟩
        case measure => simp [intOf]
      · go_wp2
        go_ret
        exact ⟨by unfold orI; rw [if_pos rfl]; rfl, rfl⟩
    | 2, hk, hz =>
      have hx := hz.out.1 (by omega)
      have hy := hz.out.2 (by omega)
      subst hx
      subst hy
      go_wp2
      go_ret
      exact ⟨rfl, rfl⟩

/-- How the program compares two types. -/
def cmpT (x y : Ty) : Int := orI (((S.cnt y.2 y.2.length : Nat) : Int) - ((S.cnt x.2 x.2.length : Nat) : Int)) (Lib.compareBytes x.1 y.1)

set_option maxRecDepth 100000 in
set_option maxHeartbeats 1600000 in
theorem order_any (w : World) (x y : Ty) (xa ya : Option Addr) (xc yc : Nat) (hx : Is64 w xa x.2.length xc x.2) (hy : Is64 w ya y.2.length yc y.2) (sx : x.2.length ≤ 64) (sy : y.2.length ≤ 64) :
    Calls Tryz.prog 46 #[.agg #[.string (mk x.1), .slice xa x.2.length xc], .agg #[.string (mk y.1), .slice ya y.2.length yc]] w fun e w' => e = .returned (.int .i64 (cmpT x y)) ∧ Below w.heap.size w w' ∧ ∃ q os', w' = Sort.grow (w.drewN q) os' := by
  obtain ⟨W, hW⟩ : ∃ W, W = (w.alloc (.cells #[.string (mk x.1), .slice xa x.2.length xc] 36)).alloc (.cells #[.string (mk y.1), .slice ya y.2.length yc] 36) := ⟨_, rfl⟩
  have b1 : Below w.heap.size w W := by rw [hW]; exact ((Below.refl _ w).alloc (Nat.le_refl _) _).alloc (by simp) _
  have hz : W.heap.size = w.heap.size + 2 := by rw [hW]; simp
  have d1 : W.cell? ⟨w.heap.size, 0, none⟩ = some (.string (mk x.1)) := by
    rw [hW]
    refine (World.cell?_alloc_lt _ _ _ (by simp)).trans ?_
    rw [World.cell?_alloc_new]; rfl
  have d2 : W.cell? ⟨w.heap.size, 1, none⟩ = some (.slice xa x.2.length xc) := by
    rw [hW]
    refine (World.cell?_alloc_lt _ _ _ (by simp)).trans ?_
    rw [World.cell?_alloc_new]; rfl
  have d3 : W.cell? ⟨w.heap.size + 1, 0, none⟩ = some (.string (mk y.1)) := by
    rw [hW]
    have := World.cell?_alloc_new (w.alloc (.cells #[.string (mk x.1), .slice xa x.2.length xc] 36)) #[.string (mk y.1), .slice ya y.2.length yc] 36 0
    rw [World.size_alloc] at this
    exact this
  have d4 : W.cell? ⟨w.heap.size + 1, 1, none⟩ = some (.slice ya y.2.length yc) := by
    rw [hW]
    have := World.cell?_alloc_new (w.alloc (.cells #[.string (mk x.1), .slice xa x.2.length xc] 36)) #[.string (mk y.1), .slice ya y.2.length yc] 36 1
    rw [World.size_alloc] at this
    exact this
  have CY := Lib.hid (S.Count_any W.drew ya _ yc y.2 (hy.below b1.drew) (by omega))
  have CX := Lib.hid (S.Count_any W.drew xa _ xc x.2 (hx.below b1.drew) (by omega))
  have OR := Lib.hid (OrI_any (W.alloc (.cells #[.int .i64 (IntKind.i64.wrap (((S.cnt y.2 y.2.length : Nat) : Int) - ((S.cnt x.2 x.2.length : Nat) : Int))), .int .i64 (Lib.compareBytes (mk x.1).data.toList (mk y.1).data.toList)] 3)).drew W.heap.size _ _ (World.cell?_alloc_new W _ _ 0) (World.cell?_alloc_new W _ _ 1))
  have e1 : (W.alloc (.cells #[.int .i64 (IntKind.i64.wrap (((S.cnt y.2 y.2.length : Nat) : Int) - ((S.cnt x.2 x.2.length : Nat) : Int))), .int .i64 (Lib.compareBytes (mk x.1).data.toList (mk y.1).data.toList)] 3)).drew.cell? ⟨w.heap.size, 0, none⟩ = some (.string (mk x.1)) := (World.cell?_alloc_lt W _ _ (by show w.heap.size < _; omega)).trans d1
  have e2 : (W.alloc (.cells #[.int .i64 (IntKind.i64.wrap (((S.cnt y.2 y.2.length : Nat) : Int) - ((S.cnt x.2 x.2.length : Nat) : Int))), .int .i64 (Lib.compareBytes (mk x.1).data.toList (mk y.1).data.toList)] 3)).drew.cell? ⟨w.heap.size, 1, none⟩ = some (.slice xa x.2.length xc) := (World.cell?_alloc_lt W _ _ (by show w.heap.size < _; omega)).trans d2
  have e3 : (W.alloc (.cells #[.int .i64 (IntKind.i64.wrap (((S.cnt y.2 y.2.length : Nat) : Int) - ((S.cnt x.2 x.2.length : Nat) : Int))), .int .i64 (Lib.compareBytes (mk x.1).data.toList (mk y.1).data.toList)] 3)).drew.cell? ⟨w.heap.size + 1, 0, none⟩ = some (.string (mk y.1)) := (World.cell?_alloc_lt W _ _ (by show w.heap.size + 1 < _; omega)).trans d3
  have e4 : (W.alloc (.cells #[.int .i64 (IntKind.i64.wrap (((S.cnt y.2 y.2.length : Nat) : Int) - ((S.cnt x.2 x.2.length : Nat) : Int))), .int .i64 (Lib.compareBytes (mk x.1).data.toList (mk y.1).data.toList)] 3)).drew.cell? ⟨w.heap.size + 1, 1, none⟩ = some (.slice ya y.2.length yc) := (World.cell?_alloc_lt W _ _ (by show w.heap.size + 1 < _; omega)).trans d4
  have B1 := Lib.hid b1
  have HZ := Lib.hid hz
  clear hx hy b1 hz
  go_enter Tryz.func46, Tryz.ntmps46
  go_wp2
  rw [← hW]
  have HW := Lib.hid hW
  clear hW
  go_region_held3 (fun w' => w'.cell? ⟨w.heap.size, 0, none⟩ = some (.string (mk x.1)) ∧ w'.cell? ⟨w.heap.size, 1, none⟩ = some (.slice xa x.2.length xc) ∧ w'.cell? ⟨w.heap.size + 1, 0, none⟩ = some (.string (mk y.1)) ∧ w'.cell? ⟨w.heap.size + 1, 1, none⟩ = some (.slice ya y.2.length yc)) (first | exact ⟨d1, d2, d3, d4⟩ | exact ⟨e1, e2, e3, e4⟩) ((first
    | (go_at_call 30; (with_reducible refine CY.out.mono ?_); rintro e w' ⟨rfl, rfl⟩)
    | (go_at_call 30; (with_reducible refine CX.out.mono ?_); rintro e w' ⟨rfl, rfl⟩)
    | (go_at_call 48; (with_reducible refine (Tryz.strings_Compare _ _ _).mono ?_); rintro e w' ⟨rfl, rfl⟩)
    | (go_at_call 47; (with_reducible refine OR.out.mono ?_); rintro e w' ⟨rfl, rfl⟩)))
  go_wp2
  go_ret
  have hx := S.cnt_le x.2 x.2.length
  have hy := S.cnt_le y.2 y.2.length
  refine ⟨?_, (B1.out.alloc B1.out.size _).drew, 1, #[_, _, _], by rw [HW.out]; rfl⟩
  unfold cmpT
  have hw : IntKind.i64.wrap (((S.cnt y.2 y.2.length : Nat) : Int) - ((S.cnt x.2 x.2.length : Nat) : Int)) = ((S.cnt y.2 y.2.length : Nat) : Int) - ((S.cnt x.2 x.2.length : Nat) : Int) := by
    rw [IntKind.wrap_i64]
    omega
  rw [hw, mk_list, mk_list]
  rfl
end Go.Proofs.YtdeamdpoegdmdaaGreatDoor

/- closure: the comparison of Codes is the order of the document. Plain. -/
namespace Go.Proofs.YtdeamdpoegdmdaaGreatDoor
open Go.RowKit Go.Maps Go.Shelf Go.Sort
open S (wd Is64 Fresh bit)

theorem cmp_bytes : ∀ (a b : Str), (Lib.compareBytes a b < 0 ↔ a < b) ∧ (Lib.compareBytes a b = 0 ↔ a = b)
  | [], [] => ⟨by simp [Lib.compareBytes], by simp [Lib.compareBytes]⟩
  | [], _ :: _ => ⟨by simp [Lib.compareBytes], by simp [Lib.compareBytes]⟩
  | _ :: _, [] => ⟨by simp [Lib.compareBytes], by simp [Lib.compareBytes]⟩
  | x :: a, y :: b => by
    obtain ⟨ih1, ih2⟩ := cmp_bytes a b
    unfold Lib.compareBytes
    rw [List.cons_lt_cons_iff]
    by_cases h1 : x < y
    · rw [if_pos h1]
      refine ⟨⟨fun _ => .inl h1, fun _ => by omega⟩, ⟨fun h => by omega, fun h => ?_⟩⟩
      injection h with h _
      rw [h] at h1
      exact absurd h1 (UInt8.lt_irrefl _)
    · rw [if_neg h1]
      by_cases h2 : y < x
      · rw [if_pos h2]
        refine ⟨⟨fun h => by omega, fun h => ?_⟩, ⟨fun h => by omega, fun h => ?_⟩⟩
        · rcases h with h | ⟨h, _⟩
          · exact absurd h h1
          · rw [h] at h2; exact absurd h2 (UInt8.lt_irrefl _)
        · injection h with h _
          rw [h] at h2
          exact absurd h2 (UInt8.lt_irrefl _)
      · rw [if_neg h2]
        have e : x = y := by
          have h1' := UInt8.not_lt.1 h1
          have h2' := UInt8.not_lt.1 h2
          exact UInt8.le_antisymm h2' h1'
        subst e
        refine ⟨⟨fun h => .inr ⟨rfl, ih1.1 h⟩, fun h => ?_⟩, ⟨fun h => by rw [ih2.1 h], fun h => ih2.2 (List.cons.inj h).2⟩⟩
        rcases h with h | ⟨_, h⟩
        · exact absurd h h1
        · exact ih1.2 h
theorem cnt_cnS {f : Cd} (hf : IsS f) (hl : f.length ≤ 64) : S.cnt f f.length = cnS f := by
  rw [S.cnt_all hf.2 (by omega), cnS_at f (k := 5120) (by omega)]
theorem cmpT_bef {x y : Ty} (hx : IsS x.2 ∧ x.2.length ≤ 64) (hy : IsS y.2 ∧ y.2.length ≤ 64) : cmpT x y < 0 ↔ bef x y := by
  unfold cmpT orI bef
  rw [cnt_cnS hx.1 hx.2, cnt_cnS hy.1 hy.2]
  by_cases e : ((cnS y.2 : Nat) : Int) - ((cnS x.2 : Nat) : Int) = 0
  · rw [if_pos e, (cmp_bytes x.1 y.1).1]
    constructor
    · exact fun h => .inr ⟨by omega, h⟩
    · rintro (h | ⟨_, h⟩)
      · omega
      · exact h
  · rw [if_neg e]
    constructor
    · exact fun h => .inl (by omega)
    · rintro (h | ⟨h, _⟩) <;> omega
/-- The types that may be compared. -/
abbrev GTy := { x : Ty // IsS x.2 ∧ x.2.length ≤ 64 }
theorem bef_irr (x : Ty) : ¬ bef x x := fun h => bef_asym _ _ h h
theorem nbef_trans {x y z : Ty} (h : ¬ bef x y) (g : ¬ bef y z) : ¬ bef x z := by
  intro k
  by_cases e : x.1 = y.1
  · -- the same name: the counts decide
    unfold bef at h g k
    rw [e] at k h
    have hirr : ¬ y.1 < y.1 := List.lt_irrefl _
    rcases k with k | ⟨k1, k2⟩
    · refine g (.inl ?_)
      refine Classical.byContradiction fun hh => h (.inl ?_)
      omega
    · by_cases hc : cnS y.2 < cnS x.2
      · exact h (.inl hc)
      · by_cases hd : cnS y.2 = cnS z.2
        · exact g (.inr ⟨hd, k2⟩)
        · exact g (.inl (by omega))
  · rcases bef_tri e with h1 | h1
    · exact h h1
    · by_cases e2 : y.1 = z.1
      · unfold bef at h g k h1
        rw [← e2] at k
        rcases k with k | ⟨k1, k2⟩
        · rcases h1 with h1 | ⟨h1, _⟩
          · exact g (.inl (by omega))
          · exact g (.inl (by omega))
        · rcases h1 with h1 | ⟨h1, h3⟩
          · exact g (.inl (by omega))
          · exact absurd k2 (List.lt_asymm h3)
      · rcases bef_tri e2 with h2 | h2
        · exact g h2
        · exact bef_asym _ _ k (bef_trans h2 h1)
end Go.Proofs.YtdeamdpoegdmdaaGreatDoor

/- closure: slices.SortFunc at the types of Codes. -/
namespace Go.Proofs.YtdeamdpoegdmdaaGreatDoor
open Go.RowKit Go.Maps Go.Shelf Go.Sort
open S (wd Is64 Fresh bit)

/-- A type in the row that is sorted: its name, its code, and where the code lies. -/
abbrev El (w : World) (blk : Nat) := { y : Ty × Option Addr × Nat // (IsS y.1.2 ∧ y.1.2.length ≤ 64) ∧ Is64 w y.2.1 y.1.2.length y.2.2 y.1.2 ∧ (∀ p : Addr, y.2.1 = some p → p.block ≠ blk) }
instance (w : World) (blk : Nat) : Inhabited (El w blk) := ⟨⟨(([], []), none, 0), ⟨IsS.nil, Nat.zero_le _⟩, ⟨rfl, Nat.le_refl _, Nat.zero_le _, (fun i hi => absurd hi (Nat.not_lt_zero _)), (fun h => absurd h (Nat.lt_irrefl _)), fun _ => ⟨rfl, rfl⟩⟩, fun p h => by cases h⟩⟩
def encE {w : World} {blk : Nat} (y : El w blk) : List Value := [.string (mk y.1.1.1), .slice y.1.2.1 y.1.1.2.length y.1.2.2]
def cmpE {w : World} {blk : Nat} (x y : El w blk) : Int := cmpT x.1.1 y.1.1
theorem ltE {w : World} {blk : Nat} (x y : El w blk) : ltOf (cmpE (w := w) (blk := blk)) x y = true ↔ bef x.1.1 y.1.1 := by
  unfold ltOf cmpE
  rw [decide_eq_true_iff]
  exact cmpT_bef x.2.1 y.2.1
theorem ltE_no {w : World} {blk : Nat} (x y : El w blk) : ltOf (cmpE (w := w) (blk := blk)) x y = false ↔ ¬ bef x.1.1 y.1.1 := by
  rw [← ltE, Bool.not_eq_true]
theorem swoE (w : World) (blk : Nat) : SWO (ltOf (cmpE (w := w) (blk := blk))) :=
  ⟨fun x => (ltE_no x x).2 (bef_irr _), fun x y z h g => (ltE x z).2 (bef_trans ((ltE x y).1 h) ((ltE y z).1 g)), fun x y z h g => (ltE_no x z).2 (nbef_trans ((ltE_no x y).1 h) ((ltE_no y z).1 g))⟩
theorem is64_sort {α : Type} [Inhabited α] {w : World} {enc : α → List Value} {k blk off m : Nat} {dk : Array α} {os : Array Obj} {a : Option Addr} {n cap : Nat} {xs : List Nat} (h : Is64 w a n cap xs) (hp : ∀ p : Addr, a = some p → p.block ≠ blk) :
    Is64 (sortWorldK enc k w blk off m dk os) a n cap xs :=
  ⟨h.len, h.capLe, h.maxLe, h.bnd, (fun h0 => by
    obtain ⟨b, o, e, hl, hx⟩ := h.at_ h0
    exact ⟨b, o, e, Nat.lt_of_lt_of_le hl (size_sortWorldK_c enc k w blk off m dk os), fun i hi => (cell?_sortWorldK_other enc k w blk off m dk os ⟨b, o + i, none⟩ (hp ⟨b, o, none⟩ e) hl).trans (hx i hi)⟩), h.nil⟩
theorem order_lays (w : World) (blk off size : Nat) : CmpLays Tryz.prog 46 #[] (encE (w := w) (blk := blk)) 2 cmpE blk off size w := fun m os dk _ x y =>
  (order_any (sortWorldK encE 2 w blk off m dk os) x.1.1 y.1.1 x.1.2.1 y.1.2.1 x.1.2.2 y.1.2.2 (is64_sort x.2.2.1 x.2.2.2) (is64_sort y.2.2.1 y.2.2.2) x.2.1.2 y.2.1.2).mono fun _ _ ⟨he, _, q, os', hw⟩ => ⟨he, q, os', hw⟩

theorem sortT_any (w : World) (blk off cap : Nat) (d : Array (El w blk)) (hH : HoldsK encE 2 w blk off d) (hblk : blk < w.heap.size) (hsz : d.size ≤ 100000) :
    Calls Tryz.prog 45 #[.slice (some ⟨blk, off, none⟩) d.size cap, .func (.func 46) #[] #[]] w fun e w' => e = .returned (.tuple #[]) ∧
      ∃ (d' : Array (El w blk)) (n : Nat) (os : Array Obj), d'.size = d.size ∧ d'.toList.Perm d.toList ∧ (d'.toList.map fun y => y.1.1).Pairwise (fun x y => ¬ bef y x) ∧ w' = sortWorldK encE 2 w blk off n d' os := by
  refine (AnyQ.slices_SortFunc Tryz.sortF45 2 (fun w => by kernel_rfl) (fun w => by kernel_rfl) (encE (w := w) (blk := blk)) (fun _ => rfl) (fun x v hv => by simp [encE] at hv; rcases hv with rfl | rfl <;> rfl) cmpE (swoE w blk) 46 #[] blk off cap d w
    (enters_of Tryz.func46 (by kernel_rfl) rfl) (order_lays w blk off d.size) hH hblk (by omega)).mono ?_
  rintro e w' ⟨he, d', n, os, hp, hs, hw⟩
  have h1 := hp.1
  refine ⟨he, d', n, os, h1, ?_, ?_, hw⟩
  · have := hp.2.2
    rw [Array.extract_size] at this
    rw [← h1, Array.extract_size] at this
    exact this
  · rw [List.pairwise_iff_getElem]
    intro i j hi hj hij
    rw [List.getElem_map, List.getElem_map]
    have hj' : j < d'.size := by simpa using hj
    have := hs i j (Nat.zero_le _) hij (by omega)
    rw [getElem!_pos d' j hj', getElem!_pos d' i (by omega)] at this
    exact (ltE_no _ _).1 this
end Go.Proofs.YtdeamdpoegdmdaaGreatDoor

/- closure: rows of types: made, stored into, sorted. -/
namespace Go.Proofs.YtdeamdpoegdmdaaGreatDoor
open Go.RowKit Go.Maps Go.Shelf Go.Sort
open S (wd Is64 Fresh bit)

theorem Tryz.infoCd : (Tryz.prog.info? 36).map (fun i => (i.zero, i.size, i.bytes)) = some (some (.agg #[.string ByteArray.empty, .slice none 0 0]), 2, 40) := by kernel_rfl
def TyV (w : World) (row : Option Nat) (vs : List Value) (i : Nat) (x : Ty) : Prop := ∃ xa xc, vs[i * 2]? = some (.string (mk x.1)) ∧ vs[i * 2 + 1]? = some (.slice xa x.2.length xc) ∧ Is64 w xa x.2.length xc x.2 ∧ (∀ p : Addr, xa = some p → row ≠ some p.block) ∧ x.1.length ≤ maxLen
/-- A row of types that the call owns, apart from the codes in it. -/
def OwnT (w : World) (B n : Nat) (v : Value) (L : List Ty) : Prop := ∃ vs, w.ownsRow B 36 2 v n vs ∧ L.length = n ∧ ∀ i, i < n → TyV w v.ownBlock vs i (ty L i)
theorem OwnT.below {w w' : World} {B n : Nat} {v : Value} {L : List Ty} (h : OwnT w B n v L) (hb : Below w.heap.size w w') : OwnT w' B n v L := by
  obtain ⟨vs, h1, h2, h3⟩ := h
  exact ⟨vs, owns_below h1 hb, h2, fun i hi => let ⟨xa, xc, k0, k1, k2, k3⟩ := h3 i hi; ⟨xa, xc, k0, k1, k2.below hb, k3⟩⟩
theorem is64_apart {w w' : World} {a : Option Addr} {n cap : Nat} {xs : List Nat} {row : Option Nat} (h : Is64 w a n cap xs) (hg : w.grownBy w' row) (hr : ∀ p : Addr, a = some p → row ≠ some p.block) : Is64 w' a n cap xs :=
  ⟨h.len, h.capLe, h.maxLe, h.bnd, (fun h0 => by
    obtain ⟨b, o, e, hl, hx⟩ := h.at_ h0
    exact ⟨b, o, e, Nat.lt_of_lt_of_le hl hg.size, fun i hi => (World.cell?_of_block (a := ⟨b, o + i, none⟩) (hg.block b hl (fun e' => hr _ e e'.symm))).trans (hx i hi)⟩), h.nil⟩
theorem OwnT.made {w : World} {B g n : Nat} (h : w.ownsRow B 36 2 (.slice (some ⟨g, 0, none⟩) n n) n (madeCells (Value.agg #[.string ByteArray.empty, .slice none 0 0]).cells (n * 2)).toList) : OwnT w B n (.slice (some ⟨g, 0, none⟩) n n) (List.replicate n ([], [])) := by
  refine ⟨_, h, List.length_replicate, fun i hi => ⟨none, 0, ?_, ?_, ?_, (fun p e => by cases e), ?_⟩⟩
  · have e : ty (List.replicate n ([], [])) i = ([], []) := by unfold ty; rw [List.getD_eq_getElem?_getD, List.getElem?_replicate, if_pos hi]; rfl
    rw [e]
    simp [madeCells, Value.cells, show i * 2 < n * 2 by omega]
    rfl
  · have e : ty (List.replicate n ([], [])) i = ([], []) := by unfold ty; rw [List.getD_eq_getElem?_getD, List.getElem?_replicate, if_pos hi]; rfl
    rw [e]
    simp [madeCells, Value.cells, show i * 2 + 1 < n * 2 by omega, show (i * 2 + 1) % 2 = 1 by omega]
  · have e : ty (List.replicate n ([], [])) i = ([], []) := by unfold ty; rw [List.getD_eq_getElem?_getD, List.getElem?_replicate, if_pos hi]; rfl
    rw [e]
    exact ⟨rfl, Nat.le_refl _, Nat.zero_le _, (fun i hi => absurd hi (Nat.not_lt_zero _)), (fun h => absurd h (Nat.lt_irrefl _)), fun _ => ⟨rfl, rfl⟩⟩
  · have e : ty (List.replicate n ([], [])) i = ([], []) := by unfold ty; rw [List.getD_eq_getElem?_getD, List.getElem?_replicate, if_pos hi]; rfl
    rw [e]
    exact Nat.zero_le _
theorem OwnT.store {w : World} {B n g c i : Nat} {L : List Ty} (h : OwnT w B n (.slice (some ⟨g, 0, none⟩) n c) L) (hi : i < n) (x : Ty) (xa : Option Addr) (xc : Nat) (hx : Is64 w xa x.2.length xc x.2) (hp : ∀ p : Addr, xa = some p → some g ≠ some p.block) (hl : x.1.length ≤ maxLen) :
    OwnT ((w.setCell ⟨g, i * 2, none⟩ (.string (mk x.1))).setCell ⟨g, i * 2 + 1, none⟩ (.slice xa x.2.length xc)) B n (.slice (some ⟨g, 0, none⟩) n c) (L.set i x) ∧
    w.grownBy ((w.setCell ⟨g, i * 2, none⟩ (.string (mk x.1))).setCell ⟨g, i * 2 + 1, none⟩ (.slice xa x.2.length xc)) (some g) := by
  obtain ⟨vs, h1, h2, h3⟩ := h
  obtain ⟨r1, g1⟩ := h1.stored (i * 2) (.string (mk x.1))
  obtain ⟨r2, g2⟩ := r1.stored (i * 2 + 1) (.slice xa x.2.length xc)
  have hg := g1.trans g2
  have hvl : vs.length = n * 2 := h1.1
  refine ⟨⟨_, r2, by rw [List.length_set]; exact h2, fun j hj => ?_⟩, hg⟩
  by_cases e : j = i
  · subst e
    have ex : ty (L.set j x) j = x := by unfold ty; rw [List.getD_eq_getElem?_getD, List.getElem?_set_self (by rw [h2]; exact hj)]; rfl
    rw [ex]
    refine ⟨xa, xc, ?_, ?_, is64_apart hx hg hp, hp, hl⟩
    · rw [List.getElem?_set_ne (by omega), List.getElem?_set_self (by omega)]
    · rw [List.getElem?_set_self (by rw [List.length_set]; omega)]
  · have ex : ty (L.set i x) j = ty L j := by unfold ty; rw [List.getD_eq_getElem?_getD, List.getElem?_set_ne (fun h => e h.symm), ← List.getD_eq_getElem?_getD]
    rw [ex]
    obtain ⟨ya, yc, k0, k1, k2, k3, k4⟩ := h3 j hj
    refine ⟨ya, yc, ?_, ?_, is64_apart k2 hg k3, k3, k4⟩
    · rw [List.getElem?_set_ne (by omega), List.getElem?_set_ne (by omega)]; exact k0
    · rw [List.getElem?_set_ne (by omega), List.getElem?_set_ne (by omega)]; exact k1

/-- The row as the sort takes it. -/
theorem OwnT.els {w : World} {B n g c : Nat} {L : List Ty} (h : OwnT w B n (.slice (some ⟨g, 0, none⟩) n c) L) (hL : ∀ x ∈ L, IsS x.2 ∧ x.2.length ≤ 64) :
    ∃ d : Array (El w g), d.size = n ∧ d.toList.map (fun y => y.1.1) = L ∧ HoldsK encE 2 w g 0 d := by
  obtain ⟨vs, h1, h2, h3⟩ := h
  have hel : ∀ i : Fin n, ∃ y : El w g, y.1.1 = ty L i ∧ vs[i.1 * 2]? = some (.string (mk y.1.1.1)) ∧ vs[i.1 * 2 + 1]? = some (.slice y.1.2.1 y.1.1.2.length y.1.2.2) := fun i => by
    obtain ⟨xa, xc, k0, k1, k2, k3, _⟩ := h3 i i.2
    exact ⟨⟨(ty L i, xa, xc), hL _ (ty_mem (by rw [h2]; exact i.2)), k2, fun p hp e => k3 p hp (by rw [e]; rfl)⟩, rfl, k0, k1⟩
  obtain ⟨f, hf⟩ : ∃ f : Fin n → El w g, ∀ i, (f i).1.1 = ty L i ∧ vs[i.1 * 2]? = some (.string (mk (f i).1.1.1)) ∧ vs[i.1 * 2 + 1]? = some (.slice (f i).1.2.1 (f i).1.1.2.length (f i).1.2.2) := ⟨fun i => Classical.choose (hel i), fun i => Classical.choose_spec (hel i)⟩
  have hvl : vs.length = n * 2 := h1.1
  refine ⟨Array.ofFn f, by simp, ?_, fun j hj => ?_⟩
  · apply List.ext_getElem
    · simp [h2]
    · intro i k1 k2
      have := ty_get k2
      rw [List.getElem?_eq_getElem k2] at this
      rw [Option.some.inj this]
      simp only [List.getElem_map, Array.toList_ofFn, List.getElem_ofFn]
      exact (hf ⟨i, by omega⟩).1
  · rw [size_flatK, Array.size_ofFn] at hj
    rw [get_flatK _ _ _ _ (by rw [Array.size_ofFn]; exact hj)]
    have hj2 : j / 2 < n := by omega
    rw [getElem!_pos (Array.ofFn f) (j / 2) (by rw [Array.size_ofFn]; exact hj2), Array.getElem_ofFn]
    obtain ⟨-, k0, k1⟩ := hf ⟨j / 2, hj2⟩
    refine ⟨?_, h1.frozenAt _⟩
    have hc : ∀ u, vs[j]? = some u → w.cell? ⟨g, 0 + j, none⟩ = some u := fun u hu => by
      have := h1.cells (g := g) rfl j u hu
      rwa [show (⟨g, 0, none⟩ : Addr).add j = ⟨g, 0 + j, none⟩ by unfold Addr.add; split <;> simp_all] at this
    rcases Nat.mod_two_eq_zero_or_one j with e | e
    · have ej : j / 2 * 2 = j := by omega
      rw [hc _ (by rw [← ej]; exact k0), e]; rfl
    · have ej : j / 2 * 2 + 1 = j := by omega
      rw [hc _ (by rw [← ej]; exact k1), e]; rfl
/-- The sorted row reads as the types in their new order. -/
theorem IsTys.sorted {w : World} {g n c m : Nat} {d : Array (El w g)} {os : Array Obj} {d0 : Array (El w g)} (hg : g < w.heap.size) (h0 : HoldsK encE 2 w g 0 d0) (hs : d.size = d0.size) (hn : d.size = n) (hc : n ≤ c) (hcm : c ≤ maxLen) (hl : ∀ y ∈ d.toList, y.1.1.1.length ≤ maxLen) :
    IsTys (sortWorldK encE 2 w g 0 m d os) (some ⟨g, 0, none⟩) n c (d.toList.map fun y => y.1.1) := by
  have H := holdsK_sortWorldK_c encE 2 w g 0 d0 d m os h0 hg hs
  refine ⟨by simp [hn], hc, hcm, fun _ => ⟨g, 0, rfl, Nat.lt_of_lt_of_le hg (size_sortWorldK_c encE 2 w g 0 m d os), fun i hi => ?_⟩⟩
  have hi' : i < d.size := by omega
  have e : ty (d.toList.map fun y => y.1.1) i = d[i].1.1 := by
    unfold ty
    rw [List.getD_eq_getElem?_getD, List.getElem?_map, Array.getElem?_toList, Array.getElem?_eq_getElem hi']; rfl
  have cellAt : ∀ k, k < 2 → (sortWorldK encE 2 w g 0 m d os).cell? ⟨g, i * 2 + k, none⟩ = some ((encE d[i])[k]!) := fun k hk => by
    have := (H (i * 2 + k) (by rw [size_flatK]; omega)).1
    rw [get_flatK _ _ _ _ (by omega), show (i * 2 + k) / 2 = i by omega, show (i * 2 + k) % 2 = k by omega, getElem!_pos d i hi', Nat.zero_add] at this
    exact this
  refine ⟨d[i].1.2.1, d[i].1.2.2, ⟨?_, ?_, ?_, ?_⟩⟩
  · rw [e, Nat.zero_add]
    exact cellAt 0 (by omega)
  · rw [e, Nat.zero_add]
    exact cellAt 1 (by omega)
  · rw [e]
    exact is64_sort d[i].2.2.1 d[i].2.2.2
  · rw [e]
    exact hl _ (by simp)
end Go.Proofs.YtdeamdpoegdmdaaGreatDoor

/- Walks of package closure: family. -/
namespace Go.Proofs.YtdeamdpoegdmdaaGreatDoor
open Go.RowKit
open S (wd Is64 Fresh subB bit SAnd)

/-- What family leaves: the family, its given sets first; or more than 256 sets of it. -/
def FamPost (C : List Cd) (w : World) (e : Ending) (w' : World) : Prop := Below w.heap.size w w' ∧
  ((∃ v L, e = .returned (.tuple #[v, .int .i64 0]) ∧ OwnS w' w.heap.size v L.length L ∧ C <+: L ∧ L.Nodup ∧ (∀ x, x ∈ L ↔ Fam sAlg C x) ∧ L.length ≤ 256) ∨
   (e = .returned (.tuple #[.slice none 0 0, .int .i64 7]) ∧ ∃ L : List Cd, L.length = 257 ∧ L.Nodup ∧ ∀ x ∈ L, Fam sAlg C x))

set_option maxRecDepth 100000 in
set_option maxHeartbeats 3200000 in
theorem family_any (w : World) (a : Option Addr) (n cap : Nat) (C : List Cd) (h : IsSets w a n cap C) (h0 : 0 < n) (hn : n ≤ 256) (hC : Sets sAlg C) (hnd : C.Nodup) (hl : ∀ c ∈ C, c.length ≤ 64) :
    Calls Tryz.prog 42 #[.slice a n cap] w (FamPost C w) := by
  have hlen := h.len
  have HC := Lib.hid hC
  have HL := Lib.hid hl
  have H := Lib.hid h
  have HLN := Lib.hid hlen
  have HST := Lib.hid (FI.start hnd (by rw [hlen]; exact hn))
  have HCL := Lib.hid (CloneS_any w a n cap C h h0 (by omega) (fun c hc => hC.ne c hc))
  clear h hlen hC hnd hl
  go_enter Tryz.func42, Tryz.ntmps42
  go_wp2_with (go_at_call 79; refine HCL.out.mono ?_; rintro e w1 ⟨v1, rfl, ho1, hb1⟩; have O1 := Lib.hid ho1; have B1 := Lib.hid hb1; clear ho1 hb1)
  clear HCL
  go_loopw [5, 6] (fun u v wr => ∃ (i : Nat) (L : List Cd), i ≤ L.length ∧ L.length ≤ 256 ∧ v = .int .i64 i ∧ Hid (OwnS wr w.heap.size u L.length L) ∧ Hid (FI C L i) ∧ Hid (Below w.heap.size w wr)) (fun _ v _ => 257 - (intOf v).toNat)
  case atStart => exact ⟨0, C, Nat.zero_le _, by rw [HLN.out]; omega, rfl, (by rw [HLN.out]; exact O1.out), HST.out, B1.out⟩
  case round =>
    obtain ⟨i, L, hi, hL, rfl, ho, hf, hb⟩ := hrel
    obtain ⟨wo, hwo⟩ : ∃ wo : World, wo = wr := ⟨_, rfl⟩
    subst hwo
    have hL0 : 0 < L.length := by have := hf.out.pre.length_le; rw [HLN.out] at this; omega
    obtain ⟨g, cp, rfl, hcp, hcm⟩ := ho.out.head hL0
    unfold maxLen at hcm
    by_cases hlt : i < L.length
    · have HJ := Lib.hid (hf.out.inner hlt)
      go_wp2
      clear hcp hcm hL0
      go_loopw [5, 20] (fun u v wi => ∃ (k : Nat) (M : List Cd), k ≤ n ∧ i < M.length ∧ M.length ≤ 256 ∧ v = .int .i64 k ∧ Hid (OwnS wi w.heap.size u M.length M) ∧ Hid (FJ C M i k) ∧ Hid (Below w.heap.size w wi)) (fun _ v _ => n - (intOf v).toNat)
      case atStart => exact ⟨0, L, Nat.zero_le _, hlt, hL, rfl, ho.out, HJ.out, hb.out⟩
      case round =>
        obtain ⟨k, M, hk, hiM, hM, rfl, hoM, hfM, hbM⟩ := hrel
        obtain ⟨wi, hwi⟩ : ∃ wi : World, wi = wr := ⟨_, rfl⟩
        subst hwi
        obtain ⟨gm, cm, rfl, hcp, hcm⟩ := hoM.out.head (by omega)
        unfold maxLen at hcm
        by_cases hkn : k < n
        · have hkC : k < C.length := by rw [HLN.out]; exact hkn
          obtain ⟨b, off, rfl, hbl, hcell⟩ := H.out.at_ h0
          obtain ⟨x, hx1, hx2⟩ := hcell k hkn
          obtain ⟨y, hy1, hy2⟩ := hoM.out.cell hiM
          have hx3 := hx2.below hbM.out
          have d1 := (hbM.out.cell (p := ⟨b, off + k, none⟩) hbl).trans hx1
          obtain ⟨xa, xc, rfl, hx⟩ := hx3
          obtain ⟨ya, yc, rfl, hy⟩ := hy2.is
          have hfx := fam_len HL.out (hfM.out.base.fam _ (cg_mem hiM))
          have hfy := HL.out _ (cg_mem hkC)
          have AN := Lib.hid (S.And_any wi ya xa _ _ yc xc _ _ hy hx (by omega) (by omega))
          have HISC : Hid (∀ d ∈ M, IsS d) := fun d hd => (hfM.out.base.fam d hd).ok HC.out
          have hd0 : Hid (IsS (SAnd (cg M i) (cg C k))) := (HISC.out _ (cg_mem hiM)).and _
          have hdl : (SAnd (cg M i) (cg C k)).length ≤ 64 := Nat.le_trans (S.nrm_le _ _) (Nat.le_trans (Nat.min_le_left _ _) hfx)
          have HEQ : Hid (S.nrm (min (cg M i).length (cg C k).length) (S.andF (cg M i) (cg C k)) = SAnd (cg M i) (cg C k)) := rfl
          have SK := Lib.hid (fun hs => hfM.out.skip hkC hs)
          have NW := Lib.hid (fun hne => hfM.out.new hkC hne)
          have AD := Lib.hid (fun hne hni hl => hfM.out.add hkC hne hni hl)
          obtain ⟨d, hd⟩ : ∃ d, SAnd (cg M i) (cg C k) = d := ⟨_, rfl⟩
          rw [hd] at hd0 hdl HEQ SK NW AD
          clear hd hx1 hx2 hcell hx hy hy2 hfx hfy
          have FB : Hid (∀ W xv, IsSets W (some ⟨gm, 0, none⟩) M.length cm M → SetV W xv d → Calls Tryz.prog 80 #[.slice (some ⟨gm, 0, none⟩) M.length cm, xv, .func (.func 78) #[] #[]] W fun e w' => e = .returned (.int .i64 (ixS M d)) ∧ Below W.heap.size W w') := fun W xv hs hv => findB_any W _ _ cm M xv d hs (by omega) (by omega) HISC.out hv hd0.out
          by_cases hz : d = []
          · have hdz : ((d.length : Int) == 0) = true := by rw [hz]; rfl
            go_wp2_with fail
            refine AN.out.mono ?_
            intro e w2 hr
            obtain ⟨da, dc, rfl, hd64, hdf, hb2⟩ := hr.eqF d HEQ.out
            have B2 := Lib.hid (hbM.out.trans (hb2.mono hbM.out.size))
            have O2 := Lib.hid (hoM.out.below hb2)
            clear hr hd64 hdf hb2
            go_wp2
            go_roundw
            case rel => exact ⟨k + 1, M, by omega, hiM, hM, by go_num, O2.out, SK.out (.inl hz), B2.out⟩
            case measure => simp [intOf]; omega
          · have hdz : ((d.length : Int) == 0) = false := by
              have := List.length_pos_iff.2 hz
              simp; omega
            go_wp2_with fail
            refine AN.out.mono ?_
            intro e w2 hr
            obtain ⟨da, dc, rfl, hd64, hdf, hb2⟩ := hr.eqF d HEQ.out
            have B2 := Lib.hid (hbM.out.trans (hb2.mono hbM.out.size))
            have O2 := Lib.hid (hoM.out.below hb2)
            have D2 : Hid (SetV w2 (.slice da d.length dc) d) := ⟨da, dc, rfl, hd64⟩
            have HF := Lib.hid (hdf.mono hbM.out.size)
            have FR := Lib.hid hdf
            clear hr hd64 hdf hb2
            have SS := Lib.hid (show IsSets w2 (some ⟨gm, 0, none⟩) M.length cm M from by
              obtain ⟨a', c', e', hs⟩ := O2.out.isSets
              cases e'
              exact hs)
            have hgm := (hoM.out.lt gm rfl).2
            have FX := Lib.hid (FB.out w2 _ SS.out D2.out)
            obtain ⟨r, hr⟩ : ∃ r, ixS M d = r := ⟨_, rfl⟩
            rw [hr] at FX
            have EL : Hid (∀ W, Below w2.heap.size w2 W → Elt W (.slice (some ⟨gm, 0, none⟩) M.length cm) (.slice da d.length dc) d) := fun W hW => ⟨D2.out.below hW, (D2.out.below hW).lt hz, fun g hg hx => by
              cases hg
              cases da with
              | none => cases hx
              | some p =>
                have := FR.out p rfl
                have hx' : p.block = gm := Option.some.inj hx
                omega⟩
            clear FB SS
            by_cases hm : d ∈ M
            · have hr0 : decide ((0 : Int) ≤ r) = true := by
                rw [← hr, decide_eq_true_iff]
                rcases Int.lt_or_le (ixS M d) 0 with g | g
                · exact absurd hm (ixS_neg.1 g)
                · exact g
              clear hr
              go_wp2_with (go_at_call 80; refine FX.out.mono ?_; rintro e w3 ⟨rfl, hb3⟩)
              go_roundw
              case rel => exact ⟨k + 1, M, by omega, hiM, hM, by go_num, O2.out.below hb3, SK.out (.inr hm), B2.out.trans (hb3.mono B2.out.size)⟩
              case measure => simp [intOf]; omega
            · have hr0 : decide ((0 : Int) ≤ r) = false := by
                rw [← hr, decide_eq_false_iff_not]
                have := ixS_neg.2 hm
                omega
              clear hr
              by_cases hfull : M.length = 256
              · have hq : ((M.length : Int) == 256) = true := by rw [hfull]; rfl
                have HM := Lib.hid hm
                have HF2 := Lib.hid hfull
                clear hm hfull
                go_wp2_with (go_at_call 80; refine FX.out.mono ?_; rintro e w3 ⟨rfl, hb3⟩)
                go_ret2
                refine ⟨B2.out.trans (hb3.mono B2.out.size), .inr ⟨rfl, M ++ [d], by rw [List.length_append, HF2.out]; rfl, ?_, ?_⟩⟩
                · rw [List.nodup_append]
                  exact ⟨hfM.out.base.nodup, by simp, fun x hx y hy => by rw [List.mem_singleton] at hy; rw [hy]; rintro rfl; exact HM.out hx⟩
                · intro l hl
                  rcases List.mem_append.1 hl with e | e
                  · exact hfM.out.base.fam l e
                  · rw [List.mem_singleton] at e; rw [e]; exact NW.out hz
              · have hq : ((M.length : Int) == 256) = false := by simp; omega
                have HM := Lib.hid hm
                clear hm
                have B3 : Hid (∀ W, Below w2.heap.size w2 W → Below w.heap.size w W) := fun W hW => B2.out.trans (hW.mono B2.out.size)
                go_wp2_with (first
                  | (go_at_call 80; refine FX.out.mono ?_; rintro e w3 ⟨rfl, hb3⟩)
                  | (at_builtin; refine wpList_append_set rfl _ _ rfl w.heap.size (.slice (some ⟨gm, 0, none⟩) M.length cm) M.length M rfl (O2.out.below hb3) (.slice da d.length dc) d (EL.out _ hb3) rfl (by omega) (B3.out _ hb3).size ?_; intro v4 w4 ho4 hg4; have O4 := Lib.hid ho4; have B4 := Lib.hid (((B3.out _ hb3).alloc (B3.out _ hb3).size _).grown hg4 (by have := (B3.out _ hb3).size; simp; omega) (fun j hj => by cases hj; exact (hoM.out.lt gm rfl).1)); clear ho4 hg4))
                go_roundw
                case rel => exact ⟨k + 1, M ++ [d], by omega, by rw [List.length_append]; omega, by rw [List.length_append]; simp; omega, by go_num, (by rw [List.length_append]; exact O4.out), AD.out hz HM.out (by omega), B4.out⟩
                case measure => simp [intOf]; omega
        · obtain rfl : n = k := by omega
          clear hkn hk
          go_wp2
          go_roundw
          case rel => exact ⟨i + 1, M, by omega, hM, by go_num, hoM.out, (HLN.out ▸ hfM.out).end, hbM.out⟩
          case measure => simp [intOf]; omega
    · obtain rfl : i = L.length := by omega
      have HE := Lib.hid (hf.out.end HC.out)
      go_wp2
      go_ret2
      exact ⟨hb.out, .inl ⟨_, L, rfl, ho.out, hf.out.pre, hf.out.nodup, HE.out, hL⟩⟩
end Go.Proofs.YtdeamdpoegdmdaaGreatDoor

/- closure: Codes. -/
namespace Go.Proofs.YtdeamdpoegdmdaaGreatDoor
open Go.RowKit Go.Maps Go.Shelf Go.Sort
open S (wd Is64 Fresh bit)

theorem nodup_len_g {α : Type} [DecidableEq α] {a b : List α} (h : a.Nodup) (hs : ∀ x ∈ a, x ∈ b) : a.length ≤ b.length := by
  induction a generalizing b with
  | nil => exact Nat.zero_le _
  | cons x a ih =>
    have hx := hs x (List.mem_cons_self ..)
    have h1 := ih (b := b.erase x) (List.nodup_cons.1 h).2 (fun y hy => (List.mem_erase_of_ne (fun e => (List.nodup_cons.1 h).1 (by rw [← e]; exact hy))).2 (hs y (List.mem_cons_of_mem _ hy)))
    rw [List.length_erase_of_mem hx] at h1
    have := List.length_pos_of_mem hx
    simp only [List.length_cons]
    omega
theorem nam_len {D : List Dec} (hc : chkN D = 0) (hD : D.length ≤ 256) (f : Cd) : (nam D f).length ≤ maxLen := by
  have h1 := jn_len (mx D (sel D f)) (fun x hx => nms_short hc x (mx_sub hx).2)
  have h2 : (mx D (sel D f)).Nodup := List.Nodup.sublist List.filter_sublist (srt_asc _).nodup
  have h3 := nodup_len h2 (fun x hx => (mx_sub hx).2)
  rw [nms_len] at h3
  unfold nam maxLen
  omega
theorem nam_dec {D : List Dec} (h : Acc D) {L : List Cd} (hp : cods D <+: L) {k : Nat} (hk : k < (al D).length) : nam D (cg L k) = st (al D) k := by
  obtain ⟨R, rfl⟩ := hp
  have e : cg (cods D ++ R) k = cod D (st (al D) k) := by
    have h1 : (cods D ++ R)[k]? = some (cod D (st (al D) k)) := by
      rw [List.getElem?_append_left (by unfold cods; rw [List.length_map]; exact hk)]
      unfold cods
      rw [List.getElem?_map, st_get hk]; rfl
    unfold cg
    rw [List.getD_eq_getElem?_getD, h1]; rfl
  rw [e, nam_cod h (mem_al.1 (st_mem hk))]
theorem grown_sortK {α : Type} [Inhabited α] (enc : α → List Value) (w : World) (blk off m : Nat) (dk : Array α) (os : Array Obj) : w.grownBy (sortWorldK enc 2 w blk off m dk os) (some blk) := by
  refine ⟨rfl, rfl, rfl, size_sortWorldK_c enc 2 w blk off m dk os, fun k hk hne => ?_⟩
  unfold sortWorldK putRowK
  rw [heap_grow_old _ _ (by simpa using hk)]
  have : blk ≠ k := fun e => hne (by rw [e])
  simp [putRow, mapBlock, Array.getElem?_modify, this]
/-- The sorted list is the document's. -/
theorem sorted_tys {D : List Dec} (h : Acc D) {L : List Cd} (hn : L.Nodup) (hL : ∀ x, x ∈ L ↔ x ∈ fam D) {T : List Ty} (hp : T.Perm (L.map fun c => (nam D c, c))) (hs : T.Pairwise fun x y => ¬ bef y x) : T = tys D := by
  have hne : (L.map fun c => ((nam D c, c) : Ty)).Pairwise (fun x y => x.1 ≠ y.1) := List.pairwise_map.2 (hn.imp_of_mem fun {a b} ha hb hne he => hne (nam_inj h (fam_dwn h ((mem_fam h).1 ((hL a).1 ha))) (fam_dwn h ((mem_fam h).1 ((hL b).1 hb))) he))
  have hne2 : T.Pairwise (fun x y => x.1 ≠ y.1) := hp.symm.pairwise hne (fun h => h.symm)
  have hbb : T.Pairwise bef := (hs.and hne2).imp fun {a b} ⟨h1, h2⟩ => by
    rcases bef_tri h2 with k | k
    · exact k
    · exact absurd k h1
  refine tys_is h hbb fun x => ?_
  rw [hp.mem_iff, List.mem_map]
  constructor
  · rintro ⟨c, hc, rfl⟩
    exact ⟨c, (hL c).1 hc, rfl⟩
  · rintro ⟨f, hf, rfl⟩
    exact ⟨f, (hL f).2 hf, rfl⟩
/-- What the row holds when k types are laid. -/
def laidT (D : List Dec) (L : List Cd) (k : Nat) : List Ty := (L.take k).map (fun c => (nam D c, c)) ++ List.replicate (L.length - k) ([], [])
theorem laidT_set {D : List Dec} {L : List Cd} {k : Nat} (hk : k < L.length) : (laidT D L k).set k (nam D (cg L k), cg L k) = laidT D L (k + 1) := by
  unfold laidT
  have hl : ((L.take k).map (fun c => (nam D c, c))).length = k := by rw [List.length_map, List.length_take]; omega
  rw [List.set_append_right _ _ (by omega), hl, Nat.sub_self, show L.length - k = (L.length - (k + 1)) + 1 by omega, List.replicate_succ, List.set_cons_zero]
  have e := cg_get hk
  rw [List.take_add_one, e, List.map_append, List.append_assoc]
  rfl
theorem laidT_all (D : List Dec) (L : List Cd) : laidT D L L.length = L.map (fun c => (nam D c, c)) := by
  unfold laidT
  rw [List.take_length, Nat.sub_self]; simp
theorem OwnT.cellAt {w : World} {B n g c i : Nat} {L : List Ty} (h : OwnT w B n (.slice (some ⟨g, 0, none⟩) n c) L) (hi : i < n) : (∃ u, w.cell? ⟨g, i * 2, none⟩ = some u) ∧ (∃ u, w.cell? ⟨g, i * 2 + 1, none⟩ = some u) ∧ (∀ j, w.frozen? ⟨g, j, none⟩ = false) ∧ B ≤ g ∧ g < w.heap.size := by
  obtain ⟨vs, h1, h2, h3⟩ := h
  obtain ⟨xa, xc, k0, k1, _⟩ := h3 i hi
  have hc : ∀ j u, vs[j]? = some u → w.cell? ⟨g, j, none⟩ = some u := fun j u hu => by
    have := h1.cells (g := g) rfl j u hu
    rwa [show (⟨g, 0, none⟩ : Addr).add j = ⟨g, j, none⟩ by unfold Addr.add; split <;> simp_all] at this
  exact ⟨⟨_, hc _ _ k0⟩, ⟨_, hc _ _ k1⟩, fun j => h1.frozenAt j, h1.lt g rfl⟩
def CodesPost (D : List Dec) (w : World) (e : Ending) (w' : World) : Prop := Below w.heap.size w w' ∧
  ((chkN D ≠ 0 ∧ e = .returned (.tuple #[.slice none 0 0, .int .i64 ((chkN D : Nat) : Int)])) ∨
   (chkN D = 0 ∧ (fam D).length ≤ 256 ∧ ∃ a c, e = .returned (.tuple #[.slice a (tys D).length c, .int .i64 0]) ∧ IsTys w' a (tys D).length c (tys D)) ∨
   (chkN D = 0 ∧ 256 < (fam D).length ∧ e = .returned (.tuple #[.slice none 0 0, .int .i64 7])))

set_option maxRecDepth 100000 in
set_option maxHeartbeats 3200000 in
theorem Codes_any (w : World) (a : Option Addr) (n cap : Nat) (D : List Dec) (h : IsDecs w a n cap D) (hT : S.TabOk w) :
    Calls Tryz.prog 14 #[.slice a n cap] w (CodesPost D w) := by
  have H := Lib.hid h
  have HT := Lib.hid hT
  have OR := Lib.hid (Order_any w a n cap D h)
  clear h hT
  go_enter Tryz.func14, Tryz.ntmps14
  go_wp2_with fail
  refine OR.out.mono ?_
  intro e w1 hy
  obtain ⟨oa, oc, rfl, ho, hb1⟩ := hy.eq _ rfl
  have HO := Lib.hid ho
  have B1 := Lib.hid hb1
  clear hy ho hb1 OR
  by_cases hc : chkN D = 0
  · have eo : ordN D = plc D := by unfold ordN; rw [if_pos hc]
    have el : (plc D).length = n := by have := (goodN hc).all; rw [H.out.len] at this; exact this
    have hn0 : 0 < n := by
      obtain ⟨t, ht, _⟩ := (acc_of hc).top
      have := List.length_pos_of_mem ht
      rw [nms_len, H.out.len] at this; exact this
    have hn : n ≤ 256 := (good_up H.out hc).2.2.2.2.1
    rw [eo, el] at HO ⊢
    have HC := Lib.hid hc
    rw [hc]
    clear hc eo el
    have HAL : Hid (srt (plc D) = al D) := by
      exact asc_ext (srt_asc _) (srt_asc _) fun x => by rw [mem_srt, mem_al]; exact ⟨fun h => (plc_plc D).sub x h, fun h => (goodN HC.out).plc_all x h⟩
    have SV : Hid (∀ W : World, Below w1.heap.size w1 W → ∀ Bs, Bs < W.heap.size → W.cell? ⟨Bs, 0, none⟩ = some (.slice oa n oc) → Calls Tryz.prog 40 #[.func (.func 77) #[] #[.pointer (some ⟨Bs, 0, none⟩)]] W (RetL (srt (plc D)) W)) := fun W hW Bs hB hc => SortedVals_any W oa n oc (plc D) (HO.out.below hW) hn0 (by omega) (plc_plc D).nodup Bs hB hc
    go_wp2_with (go_at_call 41; refine (Values_any _ _ _ _).mono ?_; rintro e w2 ⟨rfl, rfl⟩)
    refine (SV.out (w1.alloc (.cells #[.slice oa n oc] 49)) (ba _ _) w1.heap.size (by simp) (cell_of_one (heap_alloc_new w1 _))).mono ?_
    intro e w3 hy
    obtain ⟨na, nc, rfl, hna, hb3⟩ := RetL.eq hy (al D) HAL.out
    have hln : (al D).length = n := by
      have := hna.len
      have h2 := nodup_same (al_nodup D) (goodN HC.out).ok.nodup (fun x => mem_al)
      rw [h2, nms_len, H.out.len]
    rw [hln] at hna ⊢
    have HNA := Lib.hid hna
    have B3 := Lib.hid (B1.out.trans (((Below.refl _ w1).alloc (Nat.le_refl _) (.cells #[.slice oa n oc] 49)).mono B1.out.size |>.trans (hb3.mono (by have := B1.out.size; simp; omega))))
    have B13 := Lib.hid (((Below.refl _ w1).alloc (Nat.le_refl _) (.cells #[.slice oa n oc] 49)).trans (hb3.mono (by simp)))
    clear hy hna hb3 SV
    go_wp2_with (go_at_call 43; refine (declaredCodes_any w3 a n cap D (H.out.below B3.out) HC.out oa oc (HO.out.below B13.out) na nc HNA.out).mono ?_; rintro e w4 ⟨v4, rfl, ho4, hb4⟩)
    obtain ⟨ca, cc, rfl, hcs⟩ := ho4.isSets
    have B4 := Lib.hid (B3.out.trans (hb4.mono B3.out.size))
    have B14 := Lib.hid (B13.out.trans (hb4.mono B13.out.size))
    have HN4 := Lib.hid (HNA.out.below hb4)
    have FA := Lib.hid (family_any w4 ca n cc (cods D) hcs hn0 hn (cods_sets (acc_of HC.out)) (cods_nodup (acc_of HC.out)) (fun c hc => by
      obtain ⟨x, _, rfl⟩ := List.mem_map.1 hc
      exact cod_len D x))
    clear ho4 hb4 hcs B13 HNA
    refine FA.out.mono ?_
    rintro e w5 ⟨hb5, ⟨v, L, rfl, hoL, hpre, hnd, hfam, hl256⟩ | ⟨rfl, L, hl257, hnd, hfam⟩⟩
    · have B5 := Lib.hid (B4.out.trans (hb5.mono B4.out.size))
      have HN5 := Lib.hid (HN4.out.below hb5)
      have HFL : Hid (L.length = (fam D).length) := by
        have h1 := nodup_len_g hnd (fun x hx => (mem_fam (acc_of HC.out)).2 ((hfam x).1 hx))
        have h2 := nodup_len_g (fam_nodup (acc_of HC.out)) (fun x hx => (hfam x).2 ((mem_fam (acc_of HC.out)).1 hx))
        show _ = _
        omega
      have HOL := Lib.hid hoL
      have HPRE := Lib.hid hpre
      have HND := Lib.hid hnd
      have HFAM : Hid (∀ x, x ∈ L ↔ x ∈ fam D) := fun x => by rw [hfam, mem_fam (acc_of HC.out)]
      have hnl : n ≤ L.length := by
        have := hpre.length_le
        unfold cods at this
        rw [List.length_map, hln] at this
        exact this
      obtain ⟨m, hm⟩ : ∃ m, L.length = m := ⟨_, rfl⟩
      have HLM := Lib.hid hm
      rw [hm] at HOL hnl hl256 HFL
      obtain ⟨g5, c5, rfl, hc51, hc52⟩ := HOL.out.head (by omega)
      unfold maxLen at hc52
      obtain ⟨i0, hi, hz0, hz1, hz2⟩ := info_parts Tryz.infoCd
      have HI := Lib.hid (And.intro hi (And.intro hz0 (And.intro hz1 hz2)))
      clear hoL hpre hfam hnd hm hb5 FA hi hz0 hz1 hz2
      go_wp2_with (at_make; refine wpList_make_full _ rfl _ _ _ rfl w5.heap.size 36 i0 (.agg #[.string ByteArray.empty, .slice none 0 0]) 2 Tryz.underlying25 HI.out.1 HI.out.2.1 HI.out.2.2.1 _ _ _ _ m rfl rfl ?_ ?_ ?_ ?_ (Nat.le_refl _) ?_; rotate_right; intro w6 hown6 hgrow6; have O6 := Lib.hid (OwnT.made hown6); have B6 := Lib.hid ((Below.refl w5.heap.size w5).grown hgrow6 (Nat.le_refl _) (fun _ e => by cases e)); clear hown6 hgrow6)
      · go_loopw [38] (fun v wr => ∃ k : Nat, k ≤ m ∧ v = .int .i64 k ∧ Hid (OwnT wr w5.heap.size m (.slice (some ⟨w5.heap.size, 0, none⟩) m m) (laidT D L k)) ∧ Hid (Below w5.heap.size w5 wr)) (fun v _ => m - (intOf v).toNat)
        case atStart => exact ⟨0, Nat.zero_le _, rfl, by
          have := O6.out
          have e : laidT D L 0 = List.replicate m ([], []) := by unfold laidT; rw [HLM.out]; rfl
          rw [e]; exact this, B6.out⟩
        case round =>
          obtain ⟨k, hk, rfl, hT, hB⟩ := hrel
          by_cases hlt : k < m
          · obtain ⟨xx, hx1, hx2⟩ := HOL.out.cell hlt
            obtain ⟨xa, xc, rfl, hx64⟩ := hx2.is
            have hg5 := (HOL.out.lt g5 rfl).2
            have c42 := (hB.out.cell (p := ⟨g5, k, none⟩) hg5).trans hx1
            obtain ⟨⟨u0, hu0⟩, ⟨u1, hu1⟩, hfr, hge, hgl⟩ := hT.out.cellAt hlt
            have hf0 := hfr (k * 2)
            have hf1 := hfr (k * 2 + 1)
            have HP : Hid (∀ p : Addr, xa = some p → some w5.heap.size ≠ some p.block) := fun p hp e => by
              have := hx2.lt p.block (by rw [hp]; rfl)
              have := Option.some.inj e
              omega
            have HX := Lib.hid (hx64.below hB.out)
            have hk0 : (0 : Int) ≤ (k : Int) := by omega
            have hk1 : (k : Int) < (m : Int) := by omega
            have HST := Lib.hid (laidT_set (D := D) (L := L) (k := k) (by rw [HLM.out]; exact hlt))
            obtain ⟨cd, hcd⟩ : ∃ cd, cg L k = cd := ⟨_, rfl⟩
            rw [hcd] at c42 HX HST
            have HCD := Lib.hid hcd
            clear hx1 hx2 hx64 hfr hcd
            by_cases hkn : k < n
            · obtain ⟨nb, noff, rfl, hnb, hnx⟩ := HN5.out.at_ hn0
              have c52 := (hB.out.cell (p := ⟨nb, noff + k, none⟩) hnb).trans (hnx k hkn)
              have hkn1 : (k : Int) < (n : Int) := by omega
              have ON := Lib.hid (hT.out.store hlt (nam D cd, cd) xa xc HX.out HP.out (nam_len HC.out (by rw [H.out.len]; exact hn) cd))
              have en : nam D cd = st (al D) k := by rw [← HCD.out]; exact nam_dec (acc_of HC.out) HPRE.out (by rw [hln]; exact hkn)
              rw [show ((nam D cd, cd) : Ty).1 = st (al D) k from en] at ON
              clear en
              go_wp2_with fail
              refine ⟨⟨k + 1, by omega, by go_num, ?_, ?_⟩, by simp [intOf]; omega⟩
              · rw [← HST.out]; exact ON.out.1
              · exact hB.out.grown ON.out.2 (by omega) (fun r e => by cases e; exact hge)
            · have hkn1 : ¬ (k : Int) < (n : Int) := by omega
              have BW := Lib.hid (B5.out.trans (hB.out.mono B5.out.size))
              have HDW := Lib.hid (fam_dwn (acc_of HC.out) ((mem_fam (acc_of HC.out)).1 ((HFAM.out cd).1 (by rw [← HCD.out]; exact cg_mem (by rw [HLM.out]; exact hlt)))))
              have AN := Lib.hid (addedName_any wr a n cap D (H.out.below BW.out) HC.out na nc (HN5.out.below hB.out) xa cd.length xc cd HX.out (fun i hi => by rw [← hln]; exact HDW.out.lt i hi) HDW.out.len (HT.out.below BW.out))
              go_wp2_with (go_at_call 44; refine AN.out.mono ?_; rintro e w7 ⟨rfl, hb7⟩; have hz7 := hb7.size; have hu0 := (hb7.cell (p := ⟨w5.heap.size, k * 2, none⟩) hgl).trans hu0; have hu1 := (hb7.cell (p := ⟨w5.heap.size, k * 2 + 1, none⟩) hgl).trans hu1; have T7 := Lib.hid (hT.out.below hb7); have hf0 := (T7.out.cellAt hlt).2.2.1 (k * 2); have hf1 := (T7.out.cellAt hlt).2.2.1 (k * 2 + 1); have B7 := Lib.hid (hB.out.trans (hb7.mono hB.out.size)); have ON := Lib.hid (T7.out.store hlt (nam D cd, cd) xa xc (HX.out.below hb7) HP.out (nam_len HC.out (by rw [H.out.len]; exact hn) cd)); clear hb7)
              refine ⟨⟨k + 1, by omega, by go_num, ?_, ?_⟩, by simp [intOf]; omega⟩
              · rw [← HST.out]; exact ON.out.1
              · exact B7.out.grown ON.out.2 (by omega) (fun r e => by cases e; exact hge)
          · obtain rfl : m = k := by omega
            have hTT := hT.out
            have eT : laidT D L m = L.map (fun c => (nam D c, c)) := by rw [← HLM.out]; exact laidT_all D L
            rw [eT] at hTT
            have hOK : ∀ x ∈ L.map (fun c => ((nam D c, c) : Ty)), IsS x.2 ∧ x.2.length ≤ 64 := fun x hx => by
              obtain ⟨c, hc, rfl⟩ := List.mem_map.1 hx
              have := fam_dwn (acc_of HC.out) ((mem_fam (acc_of HC.out)).1 ((HFAM.out c).1 hc))
              exact ⟨this.is, this.len⟩
            obtain ⟨d, hd1, hd2, hd3⟩ := hTT.els hOK
            obtain ⟨-, -, -, -, hgl⟩ := hTT.cellAt (i := 0) (by omega)
            have SO := sortT_any wr w5.heap.size 0 m d hd3 hgl (by omega)
            rw [hd1] at SO
            have SO := Lib.hid SO
            have HD := Lib.hid (And.intro hd1 (And.intro hd2 hd3))
            clear hTT eT hOK hd1 hd2 hd3
            go_wp2_with (go_at_call 45; refine SO.out.mono ?_; rintro e w8 ⟨rfl, d', q, os, hq1, hq2, hq3, rfl⟩)
            have hT2 : d'.toList.map (fun y => y.1.1) = tys D := sorted_tys (acc_of HC.out) HND.out HFAM.out (by rw [← HD.out.2.1]; exact hq2.map _) hq3
            have hlt : (tys D).length = m := by rw [← hT2, List.length_map, Array.length_toList, hq1]
            have IT := IsTys.sorted (n := m) (c := m) (m := q) (os := os) hgl HD.out.2.2 (by rw [hq1, HD.out.1]) hq1 (Nat.le_refl _) (by unfold maxLen; omega) (fun y hy => by
              have : y.1.1 ∈ tys D := by rw [← hT2]; exact List.mem_map_of_mem hy
              obtain ⟨f, _, e⟩ := ((tys_spec (acc_of HC.out)).2 _).1 this
              rw [e]
              exact nam_len HC.out (by rw [H.out.len]; exact hn) f)
            rw [hT2] at IT
            have BZ := (B5.out.trans (hB.out.mono B5.out.size)).grown (grown_sortK encE wr w5.heap.size 0 q d' os) (by have := B5.out.size; have := hB.out.size; omega) (fun r e => by cases e; exact B5.out.size)
            go_ret2
            refine ⟨BZ, .inr (.inl ⟨HC.out, by rw [← HFL.out]; exact hl256, some ⟨w5.heap.size, 0, none⟩, m, ?_, ?_⟩)⟩
            · rw [hlt]; rfl
            · rw [hlt]; exact IT
      all_goals first | rfl | (rw [HI.out.2.2.2]; omega) | (unfold maxLen; omega)
    · have B5 := Lib.hid (B4.out.trans (hb5.mono B4.out.size))
      have HL : Hid (256 < (fam D).length) := by
        have := nodup_len_g hnd (fun x hx => (mem_fam (acc_of HC.out)).2 (hfam x hx))
        show _ < _
        omega
      clear hb5 hnd hfam hl257 FA
      go_wp2
      go_ret2
      exact ⟨B5.out, .inr (.inr ⟨HC.out, HL.out, rfl⟩)⟩
  · go_wp2
    go_ret2
    exact ⟨B1.out, .inl ⟨hc, rfl⟩⟩
end Go.Proofs.YtdeamdpoegdmdaaGreatDoor

/- The reference of layer 4: Subsumes, Find, Meet. -/
namespace Go.Proofs.YtdeamdpoegdmdaaGreatDoor
open Go.RowKit Go.Maps Go.Shelf
open S (wd Is64 Fresh bit)

set_option maxRecDepth 100000 in
theorem rSubsumes_any (w : World) (a : Option Addr) (n cap : Nat) (L : List Ty) (h : IsTys w a n cap L) (hC : ∀ d ∈ L, d.2.length ≤ 64) (i j : Nat) (hi : i < n) (hj : j < n) :
    Calls Tryz.prog 25 #[.slice a n cap, .int .i64 i, .int .i64 j] w fun e w' => e = .returned (.bool (subT L i j)) ∧ Below w.heap.size w w' := by
  have hcx := h.capLe
  have hmx := h.maxLe
  have hlen := h.len
  unfold maxLen at hmx
  obtain ⟨b, off, rfl, hb, hx⟩ := h.at_ (by omega)
  obtain ⟨xa, xc, h1⟩ := hx i hi
  obtain ⟨ya, yc, h2⟩ := hx j hj
  have s1 := hC _ (ty_mem (L := L) (i := i) (by omega))
  have s2 := hC _ (ty_mem (L := L) (i := j) (by omega))
  have SU := Lib.hid (S.rSubset_any w.drew ya xa _ _ yc xc _ _ (h2.is.below (Below.refl _ w).drew) (h1.is.below (Below.refl _ w).drew) (by omega) (by omega))
  have d1 : w.cell? ⟨b, off + i * 2 + 1, none⟩ = some (.slice xa (ty L i).2.length xc) := h1.c1
  have d2 : w.cell? ⟨b, off + j * 2 + 1, none⟩ = some (.slice ya (ty L j).2.length yc) := h2.c1
  have hi0 : (0 : Int) ≤ (i : Int) := by omega
  have hi1 : (i : Int) < (n : Int) := by omega
  have hj0 : (0 : Int) ≤ (j : Int) := by omega
  have hj1 : (j : Int) < (n : Int) := by omega
  have HB := Lib.hid (show Below w.heap.size w w.drew from (Below.refl _ w).drew)
  clear h h1 h2 hx hC
  go_enter Tryz.func25, Tryz.ntmps25
  go_wp2
  go_region_held3 (fun w' => w'.cell? ⟨b, off + i * 2 + 1, none⟩ = some (.slice xa (ty L i).2.length xc) ∧ w'.cell? ⟨b, off + j * 2 + 1, none⟩ = some (.slice ya (ty L j).2.length yc)) (first | (go_keep; done) | exact ⟨d1, d2⟩ | exact ⟨e1, e2⟩) ((go_at_call 60; refine SU.out.mono ?_; rintro e w2 ⟨rfl, hb2⟩; have e1 := (hb2.cell (p := ⟨b, off + i * 2 + 1, none⟩) hb).trans d1; have e2 := (hb2.cell (p := ⟨b, off + j * 2 + 1, none⟩) hb).trans d2))
  go_wp2
  go_ret
  exact ⟨rfl, HB.out.trans (hb2.mono HB.out.size)⟩

theorem take_norm {c : Cd} (h : IsS c) : c.take (S.nlen c c.length) = c := by
  have hle := S.nlen_le c c.length
  rcases Nat.lt_or_ge (S.nlen c c.length) c.length with hlt | hge
  · exact absurd (S.nlen_top c c.length (c.length - 1) (by omega) (by omega)) (h.1 (by omega))
  · rw [List.take_of_length_le hge]
theorem ixS_at {L : List Ty} {c : Cd} {k : Nat} (hk : k < L.length) (h : (ty L k).2 = c) (hno : ∀ i, i < k → (ty L i).2 ≠ c) : ixS (L.map Prod.snd) c = (k : Int) := by
  unfold ixS
  have : (L.map Prod.snd).findIdx? (fun y => decide (y = c)) = some k := by
    rw [List.findIdx?_eq_some_iff_getElem]
    refine ⟨by rw [List.length_map]; exact hk, ?_, fun j hj => ?_⟩
    · have e := ty_get hk
      rw [List.getElem?_eq_getElem hk] at e
      rw [List.getElem_map, Option.some.inj e]
      exact decide_eq_true h
    · have hj' : j < L.length := by omega
      have e := ty_get hj'
      rw [List.getElem?_eq_getElem hj'] at e
      rw [List.getElem_map, Option.some.inj e]
      simpa using hno j hj
  rw [this]; rfl
theorem ixS_none {L : List Ty} {c : Cd} (hno : ∀ i, i < L.length → (ty L i).2 ≠ c) : ixS (L.map Prod.snd) c = -1 := by
  unfold ixS
  have : (L.map Prod.snd).findIdx? (fun y => decide (y = c)) = none := by
    rw [List.findIdx?_eq_none_iff]
    intro x hx
    obtain ⟨y, hy, rfl⟩ := List.mem_map.1 hx
    obtain ⟨i, hi⟩ := List.getElem?_of_mem hy
    have hlt := (List.getElem?_eq_some_iff.1 hi).1
    have e := ty_get hlt
    rw [hi] at e
    have := hno i hlt
    rw [← Option.some.inj e] at this
    simpa using this
  rw [this]; rfl

set_option maxRecDepth 100000 in
theorem rFindN_any (w : World) (a : Option Addr) (n cap : Nat) (L : List Ty) (xa : Option Addr) (xc : Nat) (c0 c : Cd) (h : IsTys w a n cap L) (hx : Is64 w xa c0.length xc c0) (hc : c0.take (S.nlen c0 c0.length) = c) (hl : c0.length ≤ 1000) :
    Calls Tryz.prog 19 #[.slice a n cap, .slice xa c0.length xc] w fun e w' => e = .returned (.int .i64 (ixS (L.map Prod.snd) c)) ∧ Below w.heap.size w w' := by
  have H := Lib.hid h
  have hmx := h.maxLe
  have hcx := h.capLe
  unfold maxLen at hmx
  have HL := Lib.hid h.len
  have NR := Lib.hid (S.rNormal_any w xa c0.length xc c0 hx (by omega))
  rw [hc] at NR
  clear h hx hc
  go_enter Tryz.func19, Tryz.ntmps19
  go_wp2_with fail
  refine NR.out.mono ?_
  intro e w1 hr
  obtain ⟨za, zc, rfl, hz64, -, hb1⟩ := S.Ret64.eqF _ hr rfl
  have HZ := Lib.hid hz64
  have B1 := Lib.hid hb1
  clear hr hz64 hb1 NR
  go_wp2
  go_loopw [6] (fun v wr => ∃ k : Nat, k ≤ n ∧ v = .int .i64 k ∧ Hid (∀ i, i < k → (ty L i).2 ≠ c) ∧ Hid (Below w1.heap.size w1 wr)) (fun v _ => n - (intOf v).toNat)
  case atStart => exact ⟨0, Nat.zero_le _, rfl, (fun i hi => absurd hi (Nat.not_lt_zero _)), Below.refl _ _⟩
  case round =>
    obtain ⟨k, hk, rfl, hno, hB⟩ := hrel
    by_cases hlt : k < n
    · have BW := Lib.hid (B1.out.trans (hB.out.mono B1.out.size))
      obtain ⟨b, off, rfl, hb, hx⟩ := (H.out.below BW.out).at_ (by omega)
      obtain ⟨ya, yc, hy⟩ := hx k hlt
      have c1 := hy.c1
      have SM := Lib.hid (S.Same_any wr ya za _ _ yc zc _ _ hy.is (HZ.out.below hB.out))
      have hk0 : (0 : Int) ≤ (k : Int) := by omega
      have hk1 : (k : Int) < (n : Int) := by omega
      unfold S.sameB at SM
      clear hx hy
      by_cases e : (ty L k).2 = c
      · rw [decide_eq_true e] at SM
        have E := Lib.hid e
        clear e
        go_wp2_with (go_at_call 54; (with_reducible refine SM.out.mono ?_); rintro e w2 ⟨rfl, hb2⟩; have B2 := Lib.hid (BW.out.trans (hb2.mono BW.out.size)); clear hb2)
        go_ret
        exact ⟨by rw [ixS_at (by rw [HL.out]; exact hlt) E.out hno.out]; rfl, B2.out⟩
      · rw [decide_eq_false e] at SM
        go_wp2_with (go_at_call 54; (with_reducible refine SM.out.mono ?_); rintro e w2 ⟨rfl, hb2⟩; have B2 := Lib.hid (hB.out.trans (hb2.mono hB.out.size)); clear hb2)
        go_roundw
        case rel =>
          refine ⟨k + 1, by omega, by go_num, fun i hi => ?_, B2.out⟩
          rcases Nat.lt_or_ge i k with h2 | h2
          · exact hno.out i h2
          · obtain rfl : i = k := by omega
            exact e
        case measure => simp [intOf]; omega
    · obtain rfl : n = k := by omega
      go_wp2
      go_ret
      exact ⟨by rw [ixS_none (by rw [HL.out]; exact hno.out)]; rfl, B1.out.trans (hB.out.mono B1.out.size)⟩
theorem rFind_any (w : World) (a : Option Addr) (n cap : Nat) (L : List Ty) (xa : Option Addr) (xc : Nat) (c : Cd) (h : IsTys w a n cap L) (hx : Is64 w xa c.length xc c) (hc : IsS c) (hl : c.length ≤ 64) :
    Calls Tryz.prog 19 #[.slice a n cap, .slice xa c.length xc] w fun e w' => e = .returned (.int .i64 (ixS (L.map Prod.snd) c)) ∧ Below w.heap.size w w' := rFindN_any w a n cap L xa xc c c h hx (take_norm hc) (by omega)

theorem rAnd_is (w : World) (a1 a2 : Option Addr) (cap1 cap2 : Nat) (xs ys : List Nat) (h1 : Is64 w a1 xs.length cap1 xs) (h2 : Is64 w a2 ys.length cap2 ys) (s1 : xs.length ≤ 64) (s2 : ys.length ≤ 64) :
    Calls Tryz.prog 58 #[.slice a1 xs.length cap1, .slice a2 ys.length cap2] w fun e w' => ∃ za zc, e = .returned (.slice za (S.SAnd xs ys).length zc) ∧ Is64 w' za (S.SAnd xs ys).length zc (S.SAnd xs ys) ∧ Fresh w.heap.size za ∧ Below w.heap.size w w' := by
  refine (S.rAnd_any w a1 a2 _ _ cap1 cap2 xs ys h1 h2 (by omega) (by omega)).mono fun e w' h => ?_
  refine S.Ret64.eqF (S.SAnd xs ys) h ?_
  refine S.ext_wd (Nat.le_antisymm (S.norm_len (S.norm_nrm _ _) fun i => ?_) (S.norm_len (S.nAnd _ _) fun i => ?_)) fun i _ => ?_
  all_goals
    rw [S.wd_SAnd, S.wd_nrm]
    split
    · rfl
    · rw [S.wd_out xs i (by omega)]; simp

set_option maxRecDepth 100000 in
theorem rMeet_any (w : World) (a : Option Addr) (n cap : Nat) (L : List Ty) (h : IsTys w a n cap L) (hC : ∀ d ∈ L, IsS d.2 ∧ d.2.length ≤ 64) (i j : Nat) (hi : i < n) (hj : j < n) :
    Calls Tryz.prog 21 #[.slice a n cap, .int .i64 i, .int .i64 j] w fun e w' => e = .returned (.int .i64 (ixS (L.map Prod.snd) (S.SAnd (ty L i).2 (ty L j).2))) ∧ Below w.heap.size w w' := by
  have hcx := h.capLe
  have hmx := h.maxLe
  unfold maxLen at hmx
  have hlen := h.len
  have H := Lib.hid h
  obtain ⟨b, off, rfl, hb, hx⟩ := h.at_ (by omega)
  obtain ⟨xa, xc, h1⟩ := hx i hi
  obtain ⟨ya, yc, h2⟩ := hx j hj
  have s1 := hC _ (ty_mem (L := L) (i := i) (by omega))
  have s2 := hC _ (ty_mem (L := L) (i := j) (by omega))
  have HB := Lib.hid (show Below w.heap.size w w.drew from (Below.refl _ w).drew)
  have AN := Lib.hid (rAnd_is w.drew xa ya xc yc _ _ (h1.is.below HB.out) (h2.is.below HB.out) s1.2 s2.2)
  have HS := Lib.hid (s1.1.and (ty L j).2)
  have HSL := Lib.hid (show (S.SAnd (ty L i).2 (ty L j).2).length ≤ 64 from by
    have := S.nrm_le (min (ty L i).2.length (ty L j).2.length) (S.andF (ty L i).2 (ty L j).2)
    have := s1.2
    unfold S.SAnd
    omega)
  have d1 : w.cell? ⟨b, off + i * 2 + 1, none⟩ = some (.slice xa (ty L i).2.length xc) := h1.c1
  have d2 : w.cell? ⟨b, off + j * 2 + 1, none⟩ = some (.slice ya (ty L j).2.length yc) := h2.c1
  have hi0 : (0 : Int) ≤ (i : Int) := by omega
  have hi1 : (i : Int) < (n : Int) := by omega
  have hj0 : (0 : Int) ≤ (j : Int) := by omega
  have hj1 : (j : Int) < (n : Int) := by omega
  clear h h1 h2 hx hC
  go_enter Tryz.func21, Tryz.ntmps21
  go_wp2
  go_region_held3 (fun w' => w'.cell? ⟨b, off + i * 2 + 1, none⟩ = some (.slice xa (ty L i).2.length xc) ∧ w'.cell? ⟨b, off + j * 2 + 1, none⟩ = some (.slice ya (ty L j).2.length yc)) (first | (go_keep; done) | exact ⟨d1, d2⟩ | exact ⟨e1, e2⟩ | exact ⟨g1, g2⟩) ((first
    | (go_at_call 58; refine AN.out.mono ?_; rintro e w2 ⟨za, zc, rfl, hz64, -, hb2⟩; have e1 := (hb2.cell (p := ⟨b, off + i * 2 + 1, none⟩) hb).trans d1; have e2 := (hb2.cell (p := ⟨b, off + j * 2 + 1, none⟩) hb).trans d2; have B2 := HB.out.trans (hb2.mono HB.out.size); have FI := Lib.hid (rFind_any w2 (some ⟨b, off, none⟩) n cap L za zc (S.SAnd (ty L i).2 (ty L j).2) (H.out.below B2) hz64 HS.out HSL.out))
    | (go_at_call 19; refine FI.out.mono ?_; rintro e w3 ⟨rfl, hb3⟩; have g1 := (hb3.cell (p := ⟨b, off + i * 2 + 1, none⟩) (Nat.lt_of_lt_of_le hb B2.size)).trans e1; have g2 := (hb3.cell (p := ⟨b, off + j * 2 + 1, none⟩) (Nat.lt_of_lt_of_le hb B2.size)).trans e2; have B3 := B2.trans (hb3.mono B2.size))))
  go_wp2
  go_ret
  exact ⟨rfl, B3⟩
end Go.Proofs.YtdeamdpoegdmdaaGreatDoor

/- closure: the plain meaning of Join and Supers. -/
namespace Go.Proofs.YtdeamdpoegdmdaaGreatDoor
open S (wd bit SAnd SOr)

theorem Tys.at {L : List Ty} (T : Tys L) {i : Nat} (hi : i < L.length) : IsS (ty L i).2 ∧ (ty L i).2 ≠ [] ∧ (ty L i).2.length ≤ 64 := T.ok _ (ty_mem hi)
theorem Tys.sub_iff {L : List Ty} (T : Tys L) {i j : Nat} (hi : i < L.length) (hj : j < L.length) : subT L i j = true ↔ Sub (ty L j).2 (ty L i).2 := subB_iff (T.at hj).1 (T.at hi).1
theorem ty_elem {L : List Ty} {i : Nat} (hi : i < L.length) : L[i] = ty L i := by
  have := ty_get hi
  rw [List.getElem?_eq_getElem hi] at this
  exact Option.some.inj this
theorem Tys.bef_at {L : List Ty} (T : Tys L) {i j : Nat} (h : i < j) (hj : j < L.length) : bef (ty L i) (ty L j) := by
  have := List.pairwise_iff_getElem.1 T.pw i j (by omega) hj h
  rwa [ty_elem, ty_elem] at this
theorem Tys.inj {L : List Ty} (T : Tys L) {i j : Nat} (hi : i < L.length) (hj : j < L.length) (e : (ty L i).2 = (ty L j).2) : i = j := by
  have he := T.one _ (ty_mem hi) _ (ty_mem hj) e
  rcases Nat.lt_trichotomy i j with h | h | h
  · have := T.bef_at h hj
    rw [he] at this
    exact absurd this (bef_asym _ _ this)
  · exact h
  · have := T.bef_at h hi
    rw [he] at this
    exact absurd this (bef_asym _ _ this)
theorem Tys.name_inj {L : List Ty} (T : Tys L) {i j : Nat} (hi : i < L.length) (hj : j < L.length) (e : (ty L i).1 = (ty L j).1) : i = j :=
  T.inj hi hj (by rw [T.name _ (ty_mem hi) _ (ty_mem hj) e])
theorem Tys.sub_le {L : List Ty} (T : Tys L) {i j : Nat} (hi : i < L.length) (hj : j < L.length) (h : Sub (ty L j).2 (ty L i).2) : i ≤ j := by
  rcases Nat.lt_or_ge j i with g | g
  · have h1 := cnS_lt (T.at hj).1 (T.at hi).1 h (fun e => by have := T.inj hj hi e; omega)
    have h2 := T.bef_at g hi
    unfold bef at h2
    omega
  · exact g
theorem Tys.top0 {L : List Ty} (T : Tys L) {j : Nat} (hj : j < L.length) : Sub (ty L j).2 (ty L 0).2 := by
  obtain ⟨t, ht, hall⟩ := T.top
  obtain ⟨i, hi, e⟩ := List.getElem_of_mem ht
  rw [ty_elem hi] at e
  have h0 : i = 0 := by
    have := T.sub_le (i := i) (j := 0) hi (by omega) (by rw [e]; exact hall _ (ty_mem (by omega)))
    omega
  subst h0
  rw [e]
  exact hall _ (ty_mem hj)
theorem Tys.ix {L : List Ty} (T : Tys L) (c : Cd) : (∃ k, k < L.length ∧ (ty L k).2 = c ∧ ixS (L.map Prod.snd) c = (k : Int)) ∨ ((∀ k, k < L.length → (ty L k).2 ≠ c) ∧ ixS (L.map Prod.snd) c = -1) := by
  by_cases h : ∃ k, k < L.length ∧ (ty L k).2 = c
  · obtain ⟨k, hk, e⟩ := h
    exact .inl ⟨k, hk, e, ixS_at hk e fun i hi hc => by have := T.inj (by omega) hk (hc.trans e.symm); omega⟩
  · have h' : ∀ k, k < L.length → (ty L k).2 ≠ c := fun k hk e => h ⟨k, hk, e⟩
    exact .inr ⟨h', ixS_none h'⟩
theorem Tys.ix_at {L : List Ty} (T : Tys L) {k : Nat} (hk : k < L.length) : ixS (L.map Prod.snd) (ty L k).2 = (k : Int) :=
  ixS_at hk rfl fun i hi hc => by have := T.inj (by omega) hk hc; omega

/-! Join. -/
theorem jT_spec (L : List Ty) (i j : Nat) : ∀ q, jT L i j q ≤ q ∧ (jT L i j q = 0 ∨ (subT L (jT L i j q) i = true ∧ subT L (jT L i j q) j = true)) ∧ ∀ k, jT L i j q < k → k ≤ q → ¬ (subT L k i = true ∧ subT L k j = true)
  | 0 => ⟨Nat.le_refl _, .inl rfl, fun k h1 h2 => by have : jT L i j 0 = 0 := rfl; omega⟩
  | q + 1 => by
    obtain ⟨h1, h2, h3⟩ := jT_spec L i j q
    by_cases h : subT L (q + 1) i = true ∧ subT L (q + 1) j = true
    · have e : jT L i j (q + 1) = q + 1 := by show (if _ then _ else _) = _; rw [if_pos h]
      rw [e]
      exact ⟨Nat.le_refl _, .inr h, fun k g1 g2 => by omega⟩
    · have e : jT L i j (q + 1) = jT L i j q := by show (if _ then _ else _) = _; rw [if_neg h]
      rw [e]
      refine ⟨by omega, h2, fun k g1 g2 => ?_⟩
      rcases Nat.lt_or_ge k (q + 1) with g | g
      · exact h3 k g1 (by omega)
      · obtain rfl : k = q + 1 := by omega
        exact h
def jn2 (L : List Ty) (i j : Nat) : Nat := jT L i j (min i j)
structure IsJoin (L : List Ty) (i j k0 : Nat) : Prop where
  lt : k0 < L.length
  l : Sub (ty L i).2 (ty L k0).2
  r : Sub (ty L j).2 (ty L k0).2
  least : ∀ k, k < L.length → Sub (ty L i).2 (ty L k).2 → Sub (ty L j).2 (ty L k).2 → Sub (ty L k0).2 (ty L k).2
theorem IsJoin.le {L : List Ty} (T : Tys L) {i j k0 k : Nat} (h : IsJoin L i j k0) (hk : k < L.length) (h1 : Sub (ty L i).2 (ty L k).2) (h2 : Sub (ty L j).2 (ty L k).2) : k ≤ k0 := T.sub_le hk h.lt (h.least k hk h1 h2)
theorem Tys.join {L : List Ty} (T : Tys L) {i j : Nat} (hi : i < L.length) (hj : j < L.length) : IsJoin L i j (jn2 L i j) := by
  obtain ⟨h1, h2, h3⟩ := jT_spec L i j (min i j)
  have hk : jn2 L i j < L.length := by unfold jn2; omega
  have hl : Sub (ty L i).2 (ty L (jn2 L i j)).2 ∧ Sub (ty L j).2 (ty L (jn2 L i j)).2 := by
    rcases h2 with h2 | ⟨g1, g2⟩
    · unfold jn2; rw [h2]; exact ⟨T.top0 hi, T.top0 hj⟩
    · exact ⟨(T.sub_iff hk hi).1 g1, (T.sub_iff hk hj).1 g2⟩
  refine ⟨hk, hl.1, hl.2, fun k hkl k1 k2 => ?_⟩
  have hz : Sub (ty L i).2 (SAnd (ty L (jn2 L i j)).2 (ty L k).2) := sub_and.2 ⟨hl.1, k1⟩
  have hz2 : Sub (ty L j).2 (SAnd (ty L (jn2 L i j)).2 (ty L k).2) := sub_and.2 ⟨hl.2, k2⟩
  have hne : SAnd (ty L (jn2 L i j)).2 (ty L k).2 ≠ [] := by
    obtain ⟨b, hb⟩ := (T.at hi).1.has (T.at hi).2.1
    exact ne_of_bit (hz b hb)
  obtain ⟨z, hzm, hze⟩ := T.cap _ (ty_mem hk) _ (ty_mem hkl) hne
  obtain ⟨iz, hiz, e⟩ := List.getElem_of_mem hzm
  rw [ty_elem hiz] at e
  subst e
  rw [← hze] at hz hz2
  have a1 := T.sub_le hiz hi hz
  have a2 := T.sub_le hiz hj hz2
  have a3 : iz ≤ jn2 L i j := by
    rcases Nat.lt_or_ge (jn2 L i j) iz with g | g
    · exact absurd ⟨(T.sub_iff hiz hi).2 hz, (T.sub_iff hiz hj).2 hz2⟩ (h3 iz g (by omega))
    · exact g
  have a4 := T.sub_le hk hiz (by rw [hze]; exact and_left _ _)
  obtain rfl : iz = jn2 L i j := by omega
  rw [hze]
  exact and_right _ _
theorem IsJoin.one {L : List Ty} (T : Tys L) {i j a b : Nat} (h : IsJoin L i j a) (g : IsJoin L i j b) : a = b :=
  Nat.le_antisymm (g.le T h.lt h.l h.r) (h.le T g.lt g.l g.r)
/-- What the reference intersects. -/
def isJ (L : List Ty) (both : Cd) : Nat → Cd
  | 0 => (ty L 0).2
  | k + 1 => if S.subB both.length both (ty L k).2 = true then SAnd (isJ L both k) (ty L k).2 else isJ L both k
theorem Tys.bJ_spec {L : List Ty} (T : Tys L) {i j : Nat} (hi : i < L.length) (hj : j < L.length) : ∀ k, k ≤ L.length → IsS (isJ L (SOr (ty L i).2 (ty L j).2) k) ∧ (isJ L (SOr (ty L i).2 (ty L j).2) k).length ≤ 64 ∧ Sub (ty L (jn2 L i j)).2 (isJ L (SOr (ty L i).2 (ty L j).2) k) ∧ (jn2 L i j < k → isJ L (SOr (ty L i).2 (ty L j).2) k = (ty L (jn2 L i j)).2)
  | 0, _ => ⟨(T.at (by omega)).1, (T.at (by omega)).2.2, T.top0 (T.join hi hj).lt, fun h => absurd h (Nat.not_lt_zero _)⟩
  | k + 1, hk => by
    obtain ⟨h1, h2, h3, h4⟩ := T.bJ_spec hi hj k (by omega)
    have J := T.join hi hj
    have hb : IsS (SOr (ty L i).2 (ty L j).2) := (T.at hi).1.or (T.at hj).1
    by_cases h : S.subB (SOr (ty L i).2 (ty L j).2).length (SOr (ty L i).2 (ty L j).2) (ty L k).2 = true
    · have e : isJ L (SOr (ty L i).2 (ty L j).2) (k + 1) = SAnd (isJ L (SOr (ty L i).2 (ty L j).2) k) (ty L k).2 := by show (if _ then _ else _) = _; rw [if_pos h]
      rw [e]
      have hs := sub_or.1 ((subB_iff hb (T.at (show k < L.length by omega)).1).1 h)
      have hle := J.le T (show k < L.length by omega) hs.1 hs.2
      have hsub := J.least k (by omega) hs.1 hs.2
      refine ⟨h1.and _, ?_, sub_and.2 ⟨h3, hsub⟩, fun hlt => ?_⟩
      · exact Nat.le_trans (S.nrm_le _ _) (Nat.le_trans (Nat.min_le_left _ _) h2)
      · obtain rfl : k = jn2 L i j := by omega
        exact Sub.anti (h1.and _) (T.at J.lt).1 (and_right _ _) (sub_and.2 ⟨h3, Sub.refl _⟩)
    · have e : isJ L (SOr (ty L i).2 (ty L j).2) (k + 1) = isJ L (SOr (ty L i).2 (ty L j).2) k := by show (if _ then _ else _) = _; rw [if_neg h]
      rw [e]
      refine ⟨h1, h2, h3, fun hlt => ?_⟩
      rcases Nat.lt_or_ge (jn2 L i j) k with g | g
      · exact h4 g
      · obtain rfl : k = jn2 L i j := by omega
        exact absurd ((subB_iff hb (T.at J.lt).1).2 (sub_or.2 ⟨J.l, J.r⟩)) h
theorem Tys.bJ_all {L : List Ty} (T : Tys L) {i j : Nat} (hi : i < L.length) (hj : j < L.length) : isJ L (SOr (ty L i).2 (ty L j).2) L.length = (ty L (jn2 L i j)).2 := (T.bJ_spec hi hj L.length (Nat.le_refl _)).2.2.2 (T.join hi hj).lt

/-! Supers. -/
def Dir (L : List Ty) (i k : Nat) : Prop := k ≠ i ∧ subT L k i = true ∧ ∀ m, m < L.length → m = i ∨ m = k ∨ subT L k m = false ∨ subT L m i = false
theorem Tys.sub_trans {L : List Ty} (T : Tys L) {a b c : Nat} (ha : a < L.length) (hb : b < L.length) (hc : c < L.length) (h : subT L a b = true) (g : subT L b c = true) : subT L a c = true :=
  (T.sub_iff ha hc).2 (((T.sub_iff hb hc).1 g).trans ((T.sub_iff ha hb).1 h))
theorem Tys.subT_le {L : List Ty} (T : Tys L) {a b : Nat} (ha : a < L.length) (hb : b < L.length) (h : subT L a b = true) : a ≤ b := T.sub_le ha hb ((T.sub_iff ha hb).1 h)
theorem greatest {p : Nat → Prop} (n : Nat) (h : ∃ m, m < n ∧ p m) : ∃ m, m < n ∧ p m ∧ ∀ k, k < n → p k → k ≤ m := by
  induction n with
  | zero => obtain ⟨m, hm, _⟩ := h; omega
  | succ n ih =>
    by_cases hp : p n
    · exact ⟨n, by omega, hp, fun k hk _ => by omega⟩
    · obtain ⟨m, hm, hpm⟩ := h
      have hmn : m ≠ n := fun e => hp (e ▸ hpm)
      obtain ⟨m', h1, h2, h3⟩ := ih ⟨m, by omega, hpm⟩
      refine ⟨m', by omega, h2, fun k hk hpk => ?_⟩
      have : k ≠ n := fun e => hp (e ▸ hpk)
      exact h3 k (by omega) hpk
theorem Tys.mem_supP {L : List Ty} (T : Tys L) {i : Nat} (hi : i < L.length) : ∀ j, j ≤ i → ∀ k, k ∈ supP L i j ↔ i - j ≤ k ∧ k < i ∧ Dir L i k
  | 0, _, k => ⟨(fun h => (List.not_mem_nil h).elim), (fun h => by omega)⟩
  | j + 1, hj, k => by
    have ih := T.mem_supP hi j (by omega)
    have key : (subT L (i - 1 - j) i && !(supP L i j).any (subT L (i - 1 - j))) = true ↔ Dir L i (i - 1 - j) := by
      rw [Bool.and_eq_true, Bool.not_eq_true', List.any_eq_false]
      constructor
      · rintro ⟨h1, h2⟩
        refine ⟨by omega, h1, fun m hm => ?_⟩
        refine Classical.byContradiction fun hn => ?_
        have hn' : m ≠ i ∧ m ≠ i - 1 - j ∧ subT L (i - 1 - j) m = true ∧ subT L m i = true := by
          refine ⟨fun e => hn (.inl e), fun e => hn (.inr (.inl e)), ?_, ?_⟩
          · cases e : subT L (i - 1 - j) m with
            | true => rfl
            | false => exact absurd (.inr (.inr (.inl e))) hn
          · cases e : subT L m i with
            | true => rfl
            | false => exact absurd (.inr (.inr (.inr e))) hn
        obtain ⟨x, hx, ⟨g1, g2, g3, g4⟩, hmax⟩ := greatest (p := fun m => m ≠ i ∧ m ≠ i - 1 - j ∧ subT L (i - 1 - j) m = true ∧ subT L m i = true) L.length ⟨m, hm, hn'⟩
        have b1 := T.subT_le hx hi g4
        have b2 := T.subT_le (by omega) hx g3
        have hmem : x ∈ supP L i j := by
          rw [ih]
          refine ⟨by omega, by omega, g1, g4, fun y hy => ?_⟩
          refine Classical.byContradiction fun hny => ?_
          have e1 : subT L x y = true := by
            cases e : subT L x y with
            | true => rfl
            | false => exact absurd (.inr (.inr (.inl e))) hny
          have e2 : subT L y i = true := by
            cases e : subT L y i with
            | true => rfl
            | false => exact absurd (.inr (.inr (.inr e))) hny
          have c1 := T.subT_le hx hy e1
          have c2 := hmax y hy ⟨fun e => hny (.inl e), by omega, T.sub_trans (by omega) hx hy g3 e1, e2⟩
          exact hny (.inr (.inl (by omega)))
        exact absurd g3 (h2 x hmem)
      · rintro ⟨h1, h2, h3⟩
        refine ⟨h2, fun m hm => ?_⟩
        obtain ⟨c1, c2, c3, c4, _⟩ := (ih m).1 hm
        rcases h3 m (by omega) with e | e | e | e
        · omega
        · omega
        · rw [e]; simp
        · rw [e] at c4; cases c4
    unfold supP
    by_cases h : (subT L (i - 1 - j) i && !(supP L i j).any (subT L (i - 1 - j))) = true
    · rw [if_pos h, List.mem_append, List.mem_singleton, ih]
      constructor
      · rintro (⟨a1, a2, a3⟩ | rfl)
        · exact ⟨by omega, a2, a3⟩
        · exact ⟨by omega, by omega, key.1 h⟩
      · rintro ⟨a1, a2, a3⟩
        by_cases e : k = i - 1 - j
        · exact .inr e
        · exact .inl ⟨by omega, a2, a3⟩
    · rw [if_neg h, ih]
      constructor
      · rintro ⟨a1, a2, a3⟩
        exact ⟨by omega, a2, a3⟩
      · rintro ⟨a1, a2, a3⟩
        have : k ≠ i - 1 - j := fun e => h (key.2 (e ▸ a3))
        exact ⟨by omega, a2, a3⟩
theorem supP_desc (L : List Ty) (i : Nat) : ∀ j, j ≤ i → (supP L i j).Pairwise (fun a b => b < a)
  | 0, _ => List.Pairwise.nil
  | j + 1, hj => by
    unfold supP
    split
    · rw [List.pairwise_append]
      refine ⟨supP_desc L i j (by omega), List.pairwise_singleton _ _, fun a ha b hb => ?_⟩
      rw [List.mem_singleton] at hb
      have := supP_lt L i j (by omega) a ha
      omega
    · exact supP_desc L i j (by omega)
/-- The direct supertypes, ascending. -/
def sups (L : List Ty) (i : Nat) : List Nat := (supP L i i).reverse
theorem Tys.mem_sups {L : List Ty} (T : Tys L) {i : Nat} (hi : i < L.length) {k : Nat} : k ∈ sups L i ↔ k < i ∧ Dir L i k := by
  unfold sups
  rw [List.mem_reverse, T.mem_supP hi i (Nat.le_refl _)]
  exact ⟨fun h => h.2, fun h => ⟨by omega, h⟩⟩
theorem sups_asc (L : List Ty) (i : Nat) : (sups L i).Pairwise (· < ·) := by
  unfold sups
  rw [List.pairwise_reverse]
  exact supP_desc L i i (Nat.le_refl _)
theorem Tys.sups_is {L : List Ty} (T : Tys L) {i : Nat} (hi : i < L.length) {l : List Nat} (h1 : l.Pairwise (· < ·)) (h2 : ∀ k, k ∈ l ↔ k < L.length ∧ Dir L i k) : l = sups L i := by
  refine pair_ext (R := fun a b : Nat => a < b) (fun x y h => by omega) h1 (sups_asc L i) fun k => ?_
  rw [h2, T.mem_sups hi]
  constructor
  · rintro ⟨a, b⟩
    have := T.subT_le a hi b.2.1
    have := b.1
    exact ⟨by omega, b⟩
  · rintro ⟨a, b⟩
    exact ⟨by omega, b⟩
end Go.Proofs.YtdeamdpoegdmdaaGreatDoor

/- The reference of layer 4: Join, Supers. -/
namespace Go.Proofs.YtdeamdpoegdmdaaGreatDoor
open Go.RowKit Go.Maps Go.Shelf
open S (wd Is64 Fresh bit SAnd SOr IsInt wi ivals ints)

theorem rSubsumes_val (w : World) (a : Option Addr) (n cap : Nat) (L : List Ty) (h : IsTys w a n cap L) (hC : ∀ d ∈ L, d.2.length ≤ 64) (i j : Nat) (hi : i < n) (hj : j < n) (b : Bool) (hb : subT L i j = b) :
    Calls Tryz.prog 25 #[.slice a n cap, .int .i64 i, .int .i64 j] w fun e w' => e = .returned (.bool b) ∧ Below w.heap.size w w' := hb ▸ rSubsumes_any w a n cap L h hC i j hi hj

set_option maxRecDepth 100000 in
set_option maxHeartbeats 3200000 in
theorem rJoin_any (w : World) (a : Option Addr) (n cap : Nat) (L : List Ty) (h : IsTys w a n cap L) (T : Tys L) (i j : Nat) (hi : i < n) (hj : j < n) :
    Calls Tryz.prog 23 #[.slice a n cap, .int .i64 i, .int .i64 j] w fun e w' => e = .returned (.int .i64 ((jn2 L i j : Nat) : Int)) ∧ Below w.heap.size w w' := by
  have hcx := h.capLe
  have hmx := h.maxLe
  unfold maxLen at hmx
  have hlen := h.len
  have H := Lib.hid h
  have TT := Lib.hid T
  obtain ⟨b, off, rfl, hb, hx⟩ := h.at_ (by omega)
  obtain ⟨xa, xc, h1⟩ := hx i hi
  obtain ⟨ya, yc, h2⟩ := hx j hj
  obtain ⟨za, zc, h3⟩ := hx 0 (by omega)
  have s1 := T.at (i := i) (by omega)
  have s2 := T.at (i := j) (by omega)
  have s3 := T.at (i := 0) (by omega)
  have HB := Lib.hid (show Below w.heap.size w w.drew from (Below.refl _ w).drew)
  have OR := Lib.hid (S.rOr_l (xs := (ty L i).2) (ys := (ty L j).2) (w := w.drew) (a1 := xa) (a2 := ya) (cap1 := xc) (cap2 := yc) ⟨h1.is.below HB.out, by have := s1.2.2; omega⟩ ⟨h2.is.below HB.out, by have := s2.2.2; omega⟩)
  have d1 : w.cell? ⟨b, off + i * 2 + 1, none⟩ = some (.slice xa (ty L i).2.length xc) := h1.c1
  have d2 : w.cell? ⟨b, off + j * 2 + 1, none⟩ = some (.slice ya (ty L j).2.length yc) := h2.c1
  have d3 : w.cell? ⟨b, off + 1, none⟩ = some (.slice za (ty L 0).2.length zc) := by have := h3.c1; rwa [Nat.zero_mul, Nat.add_zero] at this
  have Z64 := Lib.hid h3.is
  have hi0 : (0 : Int) ≤ (i : Int) := by omega
  have hi1 : (i : Int) < (n : Int) := by omega
  have hj0 : (0 : Int) ≤ (j : Int) := by omega
  have hj1 : (j : Int) < (n : Int) := by omega
  have hn0 : 0 < n := by omega
  have HBJ := Lib.hid (T.bJ_spec (i := i) (j := j) (by omega) (by omega))
  have HBA := Lib.hid (T.bJ_all (i := i) (j := j) (by omega) (by omega))
  have HJL := Lib.hid (T.join (i := i) (j := j) (by omega) (by omega)).lt
  have HOS : Hid (IsS (SOr (ty L i).2 (ty L j).2)) := s1.1.or s2.1
  have HOL : (SOr (ty L i).2 (ty L j).2).length ≤ 80 := S.SOr_le (by have := s1.2.2; omega) (by have := s2.2.2; omega)
  have HL := Lib.hid hlen
  obtain ⟨both, hbo⟩ : ∃ both, SOr (ty L i).2 (ty L j).2 = both := ⟨_, rfl⟩
  rw [hbo] at OR HBJ HBA HOS HOL
  clear h h1 h2 h3 hx hbo T s1 s2 hlen
  go_enter Tryz.func23, Tryz.ntmps23
  go_wp2
  go_region_held3 (fun w' => w'.cell? ⟨b, off + i * 2 + 1, none⟩ = some (.slice xa (ty L i).2.length xc) ∧ w'.cell? ⟨b, off + j * 2 + 1, none⟩ = some (.slice ya (ty L j).2.length yc)) (first | (go_keep; done) | exact ⟨d1, d2⟩ | exact ⟨e1, e2⟩) ((go_at_call 59; refine OR.out.mono ?_; rintro e w2 ⟨oa, oc, rfl, ho, hb2⟩; have e1 := (hb2.cell (p := ⟨b, off + i * 2 + 1, none⟩) hb).trans d1; have e2 := (hb2.cell (p := ⟨b, off + j * 2 + 1, none⟩) hb).trans d2; have e3 := (hb2.cell (p := ⟨b, off + 1, none⟩) hb).trans d3; have B2 := Lib.hid (HB.out.trans (hb2.mono HB.out.size)); have O2 := Lib.hid ho; clear ho hb2))
  clear d1 d2 e1 e2 OR
  go_wp2
  clear e3
  go_loopw [8, 9] (fun u v wr => ∃ (k : Nat) (ba : Option Addr) (bc : Nat), k ≤ n ∧ v = .int .i64 k ∧ u = .slice ba (isJ L both k).length bc ∧ Hid (Is64 wr ba (isJ L both k).length bc (isJ L both k)) ∧ Hid (Below w2.heap.size w2 wr)) (fun _ v _ => n - (intOf v).toNat)
  case atStart => exact ⟨0, za, zc, Nat.zero_le _, rfl, rfl, Z64.out.below B2.out, Below.refl _ _⟩
  case round =>
    obtain ⟨k, ba, bc, hk, rfl, rfl, hJ, hB⟩ := hrel
    by_cases hlt : k < n
    · have BW := Lib.hid (B2.out.trans (hB.out.mono B2.out.size))
      obtain ⟨b', off', e, hbl, hx⟩ := (H.out.below BW.out).at_ (by omega)
      cases e
      obtain ⟨ka, kc, h4⟩ := hx k hlt
      have s4 := TT.out.at (i := k) (by rw [HL.out]; exact hlt)
      have s5 := HBJ.out k (by rw [HL.out]; omega)
      have s6 := HBJ.out (k + 1) (by rw [HL.out]; omega)
      have c1 : wr.cell? ⟨b, off + k * 2 + 1, none⟩ = some (.slice ka (ty L k).2.length kc) := h4.c1
      have hk0 : (0 : Int) ≤ (k : Int) := by omega
      have hk1 : (k : Int) < (n : Int) := by omega
      have K64 := Lib.hid h4.is
      have hkl := s4.2.2
      have hjl := s5.2.1
      have ST : Hid (isJ L both (k + 1) = if S.subB both.length both (ty L k).2 = true then SAnd (isJ L both k) (ty L k).2 else isJ L both k) := rfl
      have O3 : Hid (Is64 wr oa both.length oc both) := O2.out.1.below hB.out
      obtain ⟨J, hJJ⟩ : ∃ J, isJ L both k = J := ⟨_, rfl⟩
      rw [hJJ] at hJ ST hjl ⊢
      have hz := hB.out.size
      clear hx h4 s4 s5 s6 hJJ
      cases hs : S.subB both.length both (ty L k).2
      · rw [hs] at ST
        have E : Hid (isJ L both (k + 1) = J) := ST.out
        have HS := Lib.hid hs
        clear hs
        go_wp2_with (go_at_call 60; (with_reducible refine (S.rSubset_val false wr oa ka _ _ oc kc both (ty L k).2 O3.out K64.out (by omega) (by omega) HS.out).mono ?_); rintro e w3 ⟨rfl, hb3⟩; have B3 := Lib.hid (hB.out.trans (hb3.mono hz)); have J3 := Lib.hid (hJ.out.below hb3); clear hb3)
        go_roundw
        case rel => exact ⟨k + 1, ba, bc, by omega, by go_num, by rw [E.out], by rw [E.out]; exact J3.out, B3.out⟩
        case measure => simp [intOf]; omega
      · rw [hs] at ST
        have E : Hid (isJ L both (k + 1) = SAnd J (ty L k).2) := ST.out
        have HS := Lib.hid hs
        clear hs
        go_wp2_with (first
          | (go_at_call 60; (with_reducible refine (S.rSubset_val true wr oa ka _ _ oc kc both (ty L k).2 O3.out K64.out (by omega) (by omega) HS.out).mono ?_); rintro e w3 ⟨rfl, hb3⟩; have B3 := Lib.hid (hB.out.trans (hb3.mono hz)); have J3 := Lib.hid (hJ.out.below hb3); have K3 := Lib.hid (K64.out.below hb3); have c3 := (hb3.cell (p := ⟨b, off + k * 2 + 1, none⟩) hbl).trans c1; clear hb3)
          | (go_at_call 58; (with_reducible refine (rAnd_is w3 ba ka bc kc J (ty L k).2 J3.out K3.out hjl hkl).mono ?_); rintro e w4 ⟨ra, rc, rfl, hr64, -, hb4⟩; have B4 := Lib.hid (B3.out.trans (hb4.mono B3.out.size)); have R4 := Lib.hid hr64; clear hr64 hb4))
        go_roundw
        case rel => exact ⟨k + 1, ra, rc, by omega, by go_num, by rw [E.out], by rw [E.out]; exact R4.out, B4.out⟩
        case measure => simp [intOf]; omega
    · obtain rfl : n = k := by omega
      have BW := Lib.hid (B2.out.trans (hB.out.mono B2.out.size))
      have e : isJ L both n = (ty L (jn2 L i j)).2 := by rw [← HL.out]; exact HBA.out
      rw [e] at hJ ⊢
      have s4 := TT.out.at HJL.out
      have FI := Lib.hid (rFind_any wr _ n cap L ba bc _ (H.out.below BW.out) hJ.out s4.1 s4.2.2)
      rw [TT.out.ix_at HJL.out] at FI
      clear s4 e
      go_wp2_with (go_at_call 19; refine FI.out.mono ?_; rintro e w3 ⟨rfl, hb3⟩)
      go_ret
      exact ⟨rfl, BW.out.trans (hb3.mono BW.out.size)⟩

open Classical in
/-- The direct supertypes below k. -/
noncomputable def dirs (L : List Ty) (i k : Nat) : List Nat := (List.range k).filter fun x => decide (Dir L i x)
open Classical in
theorem dirs_yes {L : List Ty} {i k : Nat} (h : Dir L i k) : dirs L i (k + 1) = dirs L i k ++ [k] := by simp [dirs, List.range_succ, List.filter_append, h]
open Classical in
theorem dirs_no {L : List Ty} {i k : Nat} (h : ¬ Dir L i k) : dirs L i (k + 1) = dirs L i k := by simp [dirs, List.range_succ, List.filter_append, h]
open Classical in
theorem dirs_len (L : List Ty) (i k : Nat) : (dirs L i k).length ≤ k := by
  have := List.length_filter_le (fun x => decide (Dir L i x)) (List.range k)
  rw [List.length_range] at this
  exact this
open Classical in
theorem mem_dirs {L : List Ty} {i k x : Nat} : x ∈ dirs L i k ↔ x < k ∧ Dir L i x := by simp [dirs]
open Classical in
theorem dirs_asc (L : List Ty) (i k : Nat) : (dirs L i k).Pairwise (· < ·) := List.Pairwise.filter _ List.pairwise_lt_range

def DirTo (L : List Ty) (i k m : Nat) : Prop := ∀ x, x < m → x = i ∨ x = k ∨ subT L k x = false ∨ subT L x i = false
set_option maxRecDepth 100000 in
set_option maxHeartbeats 6400000 in
theorem rSupers_any (w : World) (a : Option Addr) (n cap : Nat) (L : List Ty) (h : IsTys w a n cap L) (hn : n ≤ 256) (hC : ∀ d ∈ L, d.2.length ≤ 64) (i : Nat) (hi : i < n) :
    Calls Tryz.prog 28 #[.slice a n cap, .int .i64 i] w fun e w' => ∃ la lc, e = .returned (.slice la (dirs L i n).length lc) ∧ IsInt w' la (dirs L i n).length lc (ints (dirs L i n)) ∧ Below w.heap.size w w' := by
  have hcx := h.capLe
  have hmx := h.maxLe
  unfold maxLen at hmx
  have HL := Lib.hid h.len
  have SB := Lib.hid (fun W (hW : Below w.heap.size w W) x y hx hy b hb => rSubsumes_val W a n cap L (h.below hW) hC x y hx hy b hb)
  obtain ⟨i0, hi0, hiz0, hiz1, hiz2⟩ := info_parts S.Tryz.infoI
  have HI := Lib.hid (And.intro hi0 (And.intro hiz0 (And.intro hiz1 hiz2)))
  clear h hC hi0 hiz0 hiz1 hiz2
  go_enter Tryz.func28, Tryz.ntmps28
  go_wp2
  go_loopw [5, 6] (fun u v wr => ∃ k : Nat, k ≤ n ∧ v = .int .i64 k ∧ Hid (wr.ownsRow w.heap.size 3 1 u (dirs L i k).length (ivals (ints (dirs L i k)))) ∧ Hid (Below w.heap.size w wr)) (fun _ v _ => n - (intOf v).toNat)
  case atStart => exact ⟨0, Nat.zero_le _, rfl, World.ownsRow_nil _ _ _ _, Below.refl _ _⟩
  case round =>
    obtain ⟨k, hk, rfl, hrow, hB⟩ := hrel
    obtain ⟨wo, hwo⟩ : ∃ wo : World, wo = wr := ⟨_, rfl⟩
    subst hwo
    have hdl := dirs_len L i k
    by_cases hlt : k < n
    · have HY := Lib.hid (fun h => dirs_yes (L := L) (i := i) (k := k) h)
      have HN := Lib.hid (fun h => dirs_no (L := L) (i := i) (k := k) h)
      obtain ⟨l, hl⟩ : ∃ l, dirs L i k = l := ⟨_, rfl⟩
      rw [hl] at hrow hdl HY HN
      have hz := hB.out.size
      clear hl
      by_cases hki : k = i
      · have E : Hid (dirs L i (k + 1) = l) := HN.out (fun h => h.1 hki)
        have hq : ((k : Int) == (i : Int)) = true := by rw [hki]; simp
        clear hki
        go_wp2
        go_roundw
        case rel => exact ⟨k + 1, by omega, by go_num, by rw [E.out]; exact hrow.out, hB.out⟩
        case measure => simp [intOf]; omega
      · have hq : ((k : Int) == (i : Int)) = false := by rw [beq_eq_false_iff_ne]; omega
        have HKI := Lib.hid hki
        clear hki
        cases hs : subT L k i
        · have E : Hid (dirs L i (k + 1) = l) := HN.out (fun h => by have h2 := h.2.1; rw [hs] at h2; cases h2)
          have HS := Lib.hid hs
          clear hs
          go_wp2_with (go_at_call 25; (with_reducible refine (SB.out wo hB.out k i hlt hi false HS.out).mono ?_); rintro e w2 ⟨rfl, hb2⟩; have B2 := Lib.hid (hB.out.trans (hb2.mono hz)); have R2 := Lib.hid (owns_below hrow.out hb2); clear hb2)
          go_roundw
          case rel => exact ⟨k + 1, by omega, by go_num, by rw [E.out]; exact R2.out, B2.out⟩
          case measure => simp [intOf]; omega
        · have HS := Lib.hid hs
          clear hs
          go_wp2_with (go_at_call 25; (with_reducible refine (SB.out wo hB.out k i hlt hi true HS.out).mono ?_); rintro e w2 ⟨rfl, hb2⟩; have B2 := Lib.hid (hB.out.trans (hb2.mono hz)); have R2 := Lib.hid (owns_below hrow.out hb2); clear hb2)
          go_loopw [7, 8] (fun u v wr => ∃ (d : Bool) (m : Nat), m ≤ n ∧ v = .int .i64 m ∧ u = .bool d ∧ Hid (d = true ↔ DirTo L i k m) ∧ Hid (Below w2.heap.size w2 wr)) (fun _ v _ => n - (intOf v).toNat)
          case atStart => exact ⟨true, 0, Nat.zero_le _, rfl, rfl, ⟨fun _ x hx => absurd hx (Nat.not_lt_zero _), fun _ => rfl⟩, Below.refl _ _⟩
          case round =>
            obtain ⟨d, m, hm, rfl, rfl, hD, hb⟩ := hrel
            obtain ⟨wi, hwi⟩ : ∃ wi : World, wi = wr := ⟨_, rfl⟩
            subst hwi
            have BW := Lib.hid (B2.out.trans (hb.out.mono B2.out.size))
            have hzi := hb.out.size
            by_cases hmn : m < n
            · have FLS : Hid (∀ (e : Bool), (e = true ↔ (d = true ∧ (m = i ∨ m = k ∨ subT L k m = false ∨ subT L m i = false))) → (e = true ↔ DirTo L i k (m + 1))) := fun e he => by
                rw [he, hD.out]
                constructor
                · rintro ⟨h1, h2⟩ x hx
                  rcases Nat.lt_or_ge x m with g | g
                  · exact h1 x g
                  · obtain rfl : x = m := by omega
                    exact h2
                · intro h
                  exact ⟨fun x hx => h x (by omega), h m (by omega)⟩
              cases d
              · clear hD
                go_wp2
                go_roundw
                case rel => exact ⟨false, m + 1, by omega, by go_num, rfl, FLS.out false (by simp), hb.out⟩
                case measure => simp [intOf]; omega
              · clear hD
                by_cases e1 : m = i
                · have q1 : ((m : Int) == (i : Int)) = true := by rw [e1]; simp
                  have F : Hid (DirTo L i k (m + 1)) := (FLS.out true (by simp [e1])).1 rfl
                  clear e1 FLS
                  go_wp2
                  go_roundw
                  case rel => exact ⟨true, m + 1, by omega, by go_num, rfl, ⟨fun _ => F.out, fun _ => rfl⟩, hb.out⟩
                  case measure => simp [intOf]; omega
                · have q1 : ((m : Int) == (i : Int)) = false := by rw [beq_eq_false_iff_ne]; omega
                  by_cases e2 : m = k
                  · have q2 : ((m : Int) == (k : Int)) = true := by rw [e2]; simp
                    have F : Hid (DirTo L i k (m + 1)) := (FLS.out true (by simp [e2])).1 rfl
                    clear e1 e2 FLS
                    go_wp2
                    go_roundw
                    case rel => exact ⟨true, m + 1, by omega, by go_num, rfl, ⟨fun _ => F.out, fun _ => rfl⟩, hb.out⟩
                    case measure => simp [intOf]; omega
                  · have q2 : ((m : Int) == (k : Int)) = false := by rw [beq_eq_false_iff_ne]; omega
                    cases s1 : subT L k m
                    · have F : Hid (DirTo L i k (m + 1)) := (FLS.out true (by simp [s1])).1 rfl
                      have S1 := Lib.hid s1
                      clear e1 e2 FLS s1
                      go_wp2_with (go_at_call 25; (with_reducible refine (SB.out wi BW.out k m hlt hmn false S1.out).mono ?_); rintro e w3 ⟨rfl, hb3⟩; have B3 := Lib.hid (hb.out.trans (hb3.mono hzi)); clear hb3)
                      go_roundw
                      case rel => exact ⟨true, m + 1, by omega, by go_num, rfl, ⟨fun _ => F.out, fun _ => rfl⟩, B3.out⟩
                      case measure => simp [intOf]; omega
                    · cases s2 : subT L m i
                      · have F : Hid (DirTo L i k (m + 1)) := (FLS.out true (by simp [s2])).1 rfl
                        have S1 := Lib.hid s1
                        have S2 := Lib.hid s2
                        clear e1 e2 FLS s1 s2
                        go_wp2_with (first
                          | (go_at_call 25; (with_reducible refine (SB.out wi BW.out k m hlt hmn true S1.out).mono ?_); rintro e w3 ⟨rfl, hb3⟩; have B3 := Lib.hid (hb.out.trans (hb3.mono hzi)); have BW3 := Lib.hid (BW.out.trans (hb3.mono BW.out.size)); clear hb3)
                          | (go_at_call 25; (with_reducible refine (SB.out w3 BW3.out m i hmn hi false S2.out).mono ?_); rintro e w4 ⟨rfl, hb4⟩; have B4 := Lib.hid (B3.out.trans (hb4.mono B3.out.size)); clear hb4))
                        go_roundw
                        case rel => exact ⟨true, m + 1, by omega, by go_num, rfl, ⟨fun _ => F.out, fun _ => rfl⟩, B4.out⟩
                        case measure => simp [intOf]; omega
                      · have F : Hid (¬ DirTo L i k (m + 1)) := fun h => Bool.noConfusion ((FLS.out false (by simp [s1, s2, e1, e2])).2 h)
                        have S1 := Lib.hid s1
                        have S2 := Lib.hid s2
                        clear e1 e2 FLS s1 s2
                        go_wp2_with (first
                          | (go_at_call 25; (with_reducible refine (SB.out wi BW.out k m hlt hmn true S1.out).mono ?_); rintro e w3 ⟨rfl, hb3⟩; have B3 := Lib.hid (hb.out.trans (hb3.mono hzi)); have BW3 := Lib.hid (BW.out.trans (hb3.mono BW.out.size)); clear hb3)
                          | (go_at_call 25; (with_reducible refine (SB.out w3 BW3.out m i hmn hi true S2.out).mono ?_); rintro e w4 ⟨rfl, hb4⟩; have B4 := Lib.hid (B3.out.trans (hb4.mono B3.out.size)); clear hb4))
                        go_roundw
                        case rel => exact ⟨false, m + 1, by omega, by go_num, rfl, ⟨fun h => (Bool.noConfusion h), fun h => absurd h F.out⟩, B4.out⟩
                        case measure => simp [intOf]; omega
            · obtain rfl : n = m := by omega
              have R3 := Lib.hid (owns_below R2.out hb.out)
              cases d
              · have E : Hid (dirs L i (k + 1) = l) := HN.out (fun h => by
                  have := hD.out.2 (fun x hx => h.2.2 x (by rw [HL.out]; exact hx))
                  cases this)
                clear hD
                go_wp2
                go_roundw
                case rel => exact ⟨k + 1, by omega, by go_num, by rw [E.out]; exact R3.out, BW.out⟩
                case measure => simp [intOf]; omega
              · have E : Hid (dirs L i (k + 1) = l ++ [k]) := HY.out ⟨HKI.out, HS.out, fun x hx => hD.out.1 rfl x (by rw [← HL.out]; exact hx)⟩
                clear hD
                go_wp2_with (at_builtin; refine wpList_append_own (wi.alloc (.cells #[.int .i64 (k : Int)] 3)) rfl _ _ 42 rfl w.heap.size 3 i0 (.int .i64 0) 1 8 Tryz.underlying42 HI.out.1 HI.out.2.1 HI.out.2.2.1 HI.out.2.2.2 rfl (by decide) _ l.length (ivals (ints l)) rfl (R3.out.alloc _) ⟨wi.heap.size, 0, none⟩ 1 1 [.int .i64 (k : Int)] rfl rfl (S.one_new _ _ _) (S.oneCell_one _ _) (by unfold maxLen; omega) (by omega) (by have := BW.out.size; simp; omega) ?_; intro v4 w4 hown hgrow _; have R4 := Lib.hid hown; have B4 := Lib.hid (grown_below (BW.out.alloc BW.out.size _) (by have := BW.out.size; simp; omega) (R3.out.alloc _) hgrow); clear hown hgrow)
                go_roundw
                case rel => exact ⟨k + 1, by omega, by go_num, by rw [E.out, List.length_append, ← S.ivals_snoc]; exact R4.out, B4.out⟩
                case measure => simp [intOf]; omega
    · obtain rfl : n = k := by omega
      obtain ⟨la, lc, rfl, hI⟩ := IsInt.of_owns hrow.out (fun z hz => by
        obtain ⟨x, hx, rfl⟩ := List.mem_map.1 hz
        have := (mem_dirs.1 hx).1
        omega)
      have HIN := Lib.hid hI
      obtain ⟨q, hq⟩ : ∃ q, (dirs L i n).length = q := ⟨_, rfl⟩
      have HQ := Lib.hid hq
      rw [hq] at HIN ⊢
      clear hI hrow hq hdl
      go_wp2
      go_ret
      rw [HQ.out]
      exact ⟨la, lc, rfl, HIN.out, hB.out⟩
theorem Tys.dirs_is {L : List Ty} (T : Tys L) {i : Nat} (hi : i < L.length) : dirs L i L.length = sups L i :=
  T.sups_is hi (dirs_asc L i _) fun k => mem_dirs
end Go.Proofs.YtdeamdpoegdmdaaGreatDoor

/- The reference of layer 4: code. -/
namespace Go.Proofs.YtdeamdpoegdmdaaGreatDoor
open Go.RowKit
open S (wd Is64 Fresh bit IsInt wi ivals ints inL OfPost)

/-- The indices of the names of a list that are among others. -/
def ixs (A B : List Str) (k : Nat) : List Nat := (List.range k).filter fun i => inS B (st A i)
theorem ixs_len (A B : List Str) (k : Nat) : (ixs A B k).length ≤ k := by
  have := List.length_filter_le (fun i => inS B (st A i)) (List.range k)
  rwa [List.length_range] at this
theorem ixs_yes {A B : List Str} {k : Nat} (h : inS B (st A k) = true) : ixs A B (k + 1) = ixs A B k ++ [k] := by simp [ixs, List.range_succ, List.filter_append, h]
theorem ixs_no {A B : List Str} {k : Nat} (h : inS B (st A k) = false) : ixs A B (k + 1) = ixs A B k := by simp [ixs, List.range_succ, List.filter_append, h]
theorem mem_ixs {A B : List Str} {k i : Nat} : i ∈ ixs A B k ↔ i < k ∧ inS B (st A i) = true := by simp [ixs]
theorem inL_ints (l : List Nat) : ∀ k, k ≤ l.length → ∀ i, inL (ints l) k i = decide (i ∈ l.take k)
  | 0, _, i => by simp [S.inL]
  | k + 1, hk, i => by
    have h := inL_ints l k (by omega) i
    have e : wi (ints l) k = ((l[k]'(by omega) : Nat) : Int) := by
      unfold S.wi S.ints
      rw [List.getD_eq_getElem?_getD, List.getElem?_map, List.getElem?_eq_getElem (show k < l.length by omega)]; rfl
    rw [S.inL, h, e, List.take_add_one, List.getElem?_eq_getElem (show k < l.length by omega)]
    rw [Bool.eq_iff_iff]
    simp only [Bool.or_eq_true, decide_eq_true_eq, List.mem_append, Option.toList_some, List.mem_singleton]
    constructor
    · rintro (h | h)
      · exact .inl h
      · exact .inr (by omega)
    · rintro (h | h)
      · exact .inl h
      · exact .inr (by omega)
theorem cod_bits {D : List Dec} (hl : (al D).length ≤ 256) (x : Str) (i : Nat) : bit (cod D x) i = decide (i ∈ ixs (al D) (bl D x) (al D).length) := by
  unfold cod
  rw [mkS_bit, Bool.eq_iff_iff, decide_eq_true_iff, mem_ixs, Bool.and_eq_true, decide_eq_true_iff]
  constructor
  · rintro ⟨h1, h2⟩
    cases e : (al D)[i]? with
    | none => rw [e] at h2; cases h2
    | some y =>
      rw [e] at h2
      obtain ⟨hi, rfl⟩ := List.getElem?_eq_some_iff.1 e
      refine ⟨hi, ?_⟩
      have : st (al D) i = (al D)[i] := by unfold st; rw [List.getD_eq_getElem?_getD, e]; rfl
      rw [this]; exact h2
  · rintro ⟨hi, h2⟩
    refine ⟨by omega, ?_⟩
    have e : (al D)[i]? = some (st (al D) i) := st_get hi
    rw [e]; exact h2
def RetC (c : Cd) (w : World) (e : Ending) (w' : World) : Prop := ∃ za zc, e = .returned (.slice za c.length zc) ∧ Is64 w' za c.length zc c ∧ Fresh w.heap.size za ∧ Below w.heap.size w w'
theorem rOf_cod {D : List Dec} (hl : (al D).length ≤ 256) (x : Str) (w w' : World) (e : Ending) (h : OfPost (ints (ixs (al D) (bl D x) (al D).length)) w e w') : ∃ za zc, e = .returned (.tuple #[.slice za (cod D x).length zc, .int .i64 0]) ∧ Is64 w' za (cod D x).length zc (cod D x) ∧ Fresh w.heap.size za ∧ Below w.heap.size w w' := by
  obtain ⟨hb, ⟨-, ws, a, n, cap, rfl, ⟨h1, h2⟩, hn, -, hbit⟩ | ⟨⟨i, hi, hni⟩, -⟩⟩ := h
  · have e : ws = cod D x := by
      refine IsS.ext ⟨hn, h1.lt⟩ (cod_is D x) fun i => ?_
      rw [hbit, cod_bits hl]
      have hlen : (ints (ixs (al D) (bl D x) (al D).length)).length = (ixs (al D) (bl D x) (al D).length).length := by simp [S.ints]
      rw [hlen, inL_ints _ _ (Nat.le_refl _), List.take_length]
    subst e
    have := h1.len
    subst this
    exact ⟨a, cap, rfl, h1, h2, hb⟩
  · refine absurd ?_ hni
    have hlen : i < (ixs (al D) (bl D x) (al D).length).length := by simpa [S.ints] using hi
    have e : wi (ints (ixs (al D) (bl D x) (al D).length)) i = (((ixs (al D) (bl D x) (al D).length)[i]'hlen : Nat) : Int) := by
      unfold S.wi S.ints
      rw [List.getD_eq_getElem?_getD, List.getElem?_map, List.getElem?_eq_getElem hlen]; rfl
    rw [e]
    have := (mem_ixs.1 (List.getElem_mem hlen)).1
    omega

set_option maxRecDepth 100000 in
set_option maxHeartbeats 1600000 in
theorem rcode_any (w : World) (a : Option Addr) (n cap : Nat) (D : List Dec) (h : IsDecs w a n cap D) (hn : n ≤ 256) (na : Option Addr) (m nc : Nat) (hA : IsStrs w na m nc (al D)) (hm : m ≤ 256) (x : Str) (hx : x.length ≤ maxLen) :
    Calls Tryz.prog 50 #[.slice a n cap, .slice na m nc, .string (mk x)] w (RetC (cod D x) w) := by
  have BE := Lib.hid (rBelow_any w a n cap D h hn x hx)
  have HA := Lib.hid hA
  have hlen := hA.len
  have hmx := hA.maxLe
  have hcx := hA.capLe
  unfold maxLen at hmx
  have HOF := Lib.hid (rOf_cod (D := D) (by rw [hlen]; exact hm) x)
  rw [hlen] at HOF
  have HL := Lib.hid hlen
  obtain ⟨C, hC⟩ : ∃ C, cod D x = C := ⟨_, rfl⟩
  rw [hC] at HOF ⊢
  clear h hA hx hlen hC
  go_enter Tryz.func50, Tryz.ntmps50
  go_wp2_with fail
  refine BE.out.mono ?_
  rintro e w1 ⟨v1, rfl, hro1, hsm1, hb1⟩
  obtain ⟨ba, bc, rfl, hbs⟩ := IsStrs.of_owns hro1 hsm1
  have HBS := Lib.hid hbs
  have B1 := Lib.hid hb1
  obtain ⟨B, hB⟩ : ∃ B, bl D x = B := ⟨_, rfl⟩
  rw [hB] at HBS HOF ⊢
  obtain ⟨bn, hbn⟩ : ∃ bn, B.length = bn := ⟨_, rfl⟩
  rw [hbn] at HBS ⊢
  obtain ⟨A, hAA⟩ : ∃ A, al D = A := ⟨_, rfl⟩
  rw [hAA] at HA HOF HL
  clear hro1 hsm1 hbs hb1 BE hB hbn hAA
  go_wp2
  go_loopw [8, 9] (fun o v wr => ∃ k : Nat, k ≤ m ∧ v = .int .i64 k ∧ Hid (wr.ownsRow w1.heap.size 3 1 o (ixs A B k).length (ivals (ints (ixs A B k)))) ∧ Hid (Below w1.heap.size w1 wr)) (fun _ v _ => m - (intOf v).toNat)
  case atStart => exact ⟨0, Nat.zero_le _, rfl, World.ownsRow_nil _ _ _ _, Below.refl _ _⟩
  case round =>
    obtain ⟨k, hk, rfl, hrow, hb⟩ := hrel
    by_cases hlt : k < m
    · obtain ⟨b1, o1, rfl, hl1, hx1⟩ := HA.out.at_ (by omega)
      have c1 := (hb.out.cell (p := ⟨b1, o1 + k, none⟩) (Nat.lt_of_lt_of_le hl1 B1.out.size)).trans ((B1.out.cell (p := ⟨b1, o1 + k, none⟩) hl1).trans (hx1 k hlt))
      have hk0 : (0 : Int) ≤ (k : Int) := by omega
      have hk1 : (k : Int) < (m : Int) := by omega
      have AM := Lib.hid (Among_any wr ba bn bc B (st A k) (HBS.out.below hb.out))
      have hle := ixs_len A B k
      have hz := hb.out.size
      have HY := Lib.hid (fun h => ixs_yes (A := A) (B := B) (k := k) h)
      have HNO := Lib.hid (fun h => ixs_no (A := A) (B := B) (k := k) h)
      clear hx1
      obtain ⟨s, hs⟩ : ∃ s, st A k = s := ⟨_, rfl⟩
      rw [hs] at c1 AM HY HNO
      clear hs
      cases hin : inS B s
      · rw [hin] at AM
        have E := Lib.hid (HNO.out hin)
        clear hin
        go_wp2_with (go_at_call 35; refine AM.out.mono ?_; rintro e w' ⟨rfl, rfl⟩)
        go_roundw
        case rel => exact ⟨k + 1, by omega, by go_num, by rw [E.out]; exact hrow.out, hb.out⟩
        case measure => simp [intOf]; omega
      · rw [hin] at AM
        have E := Lib.hid (HY.out hin)
        clear hin
        obtain ⟨i0, hi, hz0, hz1, hz2⟩ := info_parts S.Tryz.infoI
        have HI := Lib.hid (And.intro hi (And.intro hz0 (And.intro hz1 hz2)))
        clear hi hz0 hz1 hz2
        obtain ⟨l, hl⟩ : ∃ l, ixs A B k = l := ⟨_, rfl⟩
        rw [hl] at hrow hle E
        clear hl
        go_wp2_with (first
          | (go_at_call 35; refine AM.out.mono ?_; rintro e w' ⟨rfl, rfl⟩)
          | (at_builtin; refine wpList_append_own (wr.alloc (.cells #[.int .i64 (k : Int)] 3)) rfl _ _ 42 rfl w1.heap.size 3 i0 (.int .i64 0) 1 8 Tryz.underlying42 HI.out.1 HI.out.2.1 HI.out.2.2.1 HI.out.2.2.2 rfl (by decide) _ l.length (ivals (ints l)) rfl (hrow.out.alloc _) ⟨wr.heap.size, 0, none⟩ 1 1 [.int .i64 (k : Int)] rfl rfl (S.one_new _ _ _) (S.oneCell_one _ _) (by unfold maxLen; omega) (by omega) (by simp; omega) ?_; intro v2 w2 hown hgrow _; have O2 := Lib.hid hown; have B2 := Lib.hid (grown_below (hb.out.alloc hz _) (by simp; omega) (hrow.out.alloc _) hgrow); clear hown hgrow))
        go_roundw
        case rel => exact ⟨k + 1, by omega, by go_num, by rw [E.out, List.length_append, ← S.ivals_snoc]; exact O2.out, B2.out⟩
        case measure => simp [intOf]; omega
    · obtain rfl : m = k := by omega
      obtain ⟨la, lc, rfl, hI⟩ := IsInt.of_owns hrow.out (fun z hz => by
        obtain ⟨i, hi, rfl⟩ := List.mem_map.1 hz
        have := (mem_ixs.1 hi).1
        omega)
      have OF := Lib.hid (S.rOf_any wr la _ lc _ hI)
      obtain ⟨q, hq⟩ : ∃ q, (ixs A B m).length = q := ⟨_, rfl⟩
      rw [hq] at OF ⊢
      clear hI hq hrow
      go_wp2_with (go_at_call 92; refine OF.out.mono ?_; intro e w3 hy; obtain ⟨za, zc, rfl, h64, hf, hb3⟩ := HOF.out wr w3 e hy)
      go_ret
      have hz := hb.out.size
      have hz1 := B1.out.size
      exact ⟨za, zc, rfl, h64, hf.mono (by omega), B1.out.trans ((hb.out.trans (hb3.mono hb.out.size)).mono hz1)⟩
end Go.Proofs.YtdeamdpoegdmdaaGreatDoor

/- Walks of the reference of poset: Maximal. -/
namespace Go.Proofs.YtdeamdpoegdmdaaGreatDoor
open Go.RowKit Go.Maps

/-- Do the first j of these names have g? -/
def okB (g : Str → Bool) (T : List Str) (j : Nat) : Bool := (T.take j).all g
theorem okB_zero (g : Str → Bool) (T : List Str) : okB g T 0 = true := by unfold okB; rw [List.take_zero]; rfl
theorem okB_succ {g : Str → Bool} {T : List Str} {j : Nat} (h : j < T.length) : okB g T (j + 1) = (okB g T j && g (st T j)) := by
  unfold okB
  rw [take_st h, List.all_append]
  simp
theorem okB_all (g : Str → Bool) (T : List Str) : okB g T T.length = T.all g := by unfold okB; rw [List.take_length]
theorem filt_succ {T : List Str} {i : Nat} (h : i < T.length) (p : Str → Bool) : (T.take (i + 1)).filter p = (T.take i).filter p ++ if p (st T i) then [st T i] else [] := by
  rw [take_st h, List.filter_append, List.filter_cons, List.filter_nil]
def gmx (D : List Dec) (x y : Str) : Bool := y == x || !(ab D x).contains y
def gmn (D : List Dec) (x y : Str) : Bool := y == x || !(ab D y).contains x
theorem mx_g (D : List Dec) (l : List Str) : mx D l = (dcl D l).filter fun x => (dcl D l).all (gmx D x) := rfl
theorem mn_g (D : List Dec) (l : List Str) : mn D l = (dcl D l).filter fun x => (dcl D l).all (gmn D x) := rfl
theorem st_eq {T : List Str} (h : T.Nodup) {i j : Nat} (hi : i < T.length) (hj : j < T.length) : (st T j == st T i) = decide (j = i) := by
  by_cases e : j = i
  · subst e; simp
  · rw [decide_eq_false e]
    rw [beq_eq_false_iff_ne]
    intro g
    exact e (prefix_nodup_at h (st_get hj) (g ▸ st_get hi))

set_option maxRecDepth 100000 in
set_option maxHeartbeats 6400000 in
theorem rMaximal_any (w : World) (a : Option Addr) (n cap : Nat) (D : List Dec) (h : IsDecs w a n cap D) (hc : chkN D = 0) (la : Option Addr) (m lc : Nat) (s : List Str) (hs : IsStrs w la m lc s) (hm : m ≤ 1000) :
    Calls Tryz.prog 96 #[.slice a n cap, .slice la m lc] w (RetL (mx D s) w) := by
  obtain ⟨-, -, -, -, hn, hok⟩ := good_up h hc
  have H := Lib.hid h
  have OK := Lib.hid hok
  have DL := Lib.hid (declared_any w a n cap D h la m lc s hs hm)
  have hTl : (dcl D s).length ≤ m := by have := dcl_len D s; rw [hs.len] at this; exact this
  have HTA := Lib.hid (show (dcl D s).Nodup from (srt_asc _).nodup)
  have HMX := Lib.hid (mx_g D s)
  obtain ⟨T, hT⟩ : ∃ T, dcl D s = T := ⟨_, rfl⟩
  rw [hT] at DL hTl HTA HMX
  clear h hok hs hc
  go_enter Tryz.func96, Tryz.ntmps96
  go_wp2_with (go_at_call 139; refine DL.out.mono ?_; intro e w2 hx; obtain ⟨at_, ct, rfl, ht, hb2⟩ := hx.eq _ rfl; have HT := Lib.hid ht; have B2 := Lib.hid hb2; have HD := Lib.hid (H.out.below hb2); clear hx ht hb2)
  clear DL H hT
  have HTS := Lib.hid HT.out.small
  obtain ⟨tn, htn⟩ : ∃ z, T.length = z := ⟨_, rfl⟩
  rw [htn] at HT hTl ⊢
  have HTL := Lib.hid htn
  have hcx := HT.out.capLe
  have hmx := HT.out.maxLe
  unfold maxLen at hmx
  clear htn
  go_loopw [5, 7] (fun o v wr => ∃ (i rn : Nat) (R : List Str), i ≤ tn ∧ v = .int .i64 i ∧ rn ≤ i ∧ Hid (R.length = rn) ∧ Hid (R = (T.take i).filter fun x => T.all (gmx D x)) ∧ Hid (wr.ownsRow w2.heap.size 9 1 o rn (svals R)) ∧ Below w2.heap.size w2 wr) (fun _ v _ => tn - (intOf v).toNat)
  case atStart => exact ⟨0, 0, [], Nat.zero_le _, rfl, Nat.zero_le _, rfl, by show _ = _; rw [List.take_zero]; rfl, World.ownsRow_nil _ _ _ _, Below.refl _ _⟩
  case round =>
    obtain ⟨i, rn, R, hi, rfl, hrn, HRL, HR, HO, hb⟩ := hrel
    obtain ⟨wo, hwo⟩ : ∃ wo : World, wo = wr := ⟨_, rfl⟩
    subst hwo
    by_cases hlt : i < tn
    · obtain ⟨b1, off1, rfl, hbl1, hx1⟩ := HT.out.at_ (by omega)
      have d1 := (hb.cell (p := ⟨b1, off1 + i, none⟩) hbl1).trans (hx1 i hlt)
      have hil : i < T.length := by rw [HTL.out]; exact hlt
      have HXL := Lib.hid (HTS.out _ (st_mem hil))
      have FS := Lib.hid (filt_succ hil (fun x => T.all (gmx D x)))
      have EQ := Lib.hid (fun j (hj : j < T.length) => st_eq HTA.out hil hj)
      obtain ⟨x, hx⟩ : ∃ x, st T i = x := ⟨_, rfl⟩
      rw [hx] at d1 HXL FS EQ
      have HX0 := Lib.hid hx
      rw [← HR.out] at FS
      clear hx hil HR
      obtain ⟨ro, hro⟩ : ∃ z, u5 = z := ⟨_, rfl⟩
      rw [hro] at HO ⊢
      clear hro
      go_wp2_with (go_at_call 140; (with_reducible refine (rAbove_any wo a n cap D (HD.out.below hb) OK.out hn x HXL.out).mono ?_); intro e w3 hx; obtain ⟨ua, uc, rfl, hu, hb3⟩ := hx.eq _ rfl; have HU := Lib.hid hu; have HO3 := Lib.hid (owns_below HO.out hb3); have hb4 := hb.trans (hb3.mono hb.size); clear hx hu hb3)
      clear HO
      go_loopw [9, 10] (fun u v wi => ∃ j : Nat, j ≤ tn ∧ u = .bool (okB (gmx D x) T j) ∧ v = .int .i64 j ∧ w3 = wi) (fun _ v _ => tn - (intOf v).toNat)
      case atStart => exact ⟨0, Nat.zero_le _, by rw [okB_zero], rfl, rfl⟩
      case round =>
        obtain ⟨j, hj, rfl, rfl, hwr⟩ := hrel
        subst hwr
        by_cases hltj : j < tn
        · have hjl : j < T.length := by rw [HTL.out]; exact hltj
          have d2 := (hb4.cell (p := ⟨b1, off1 + j, none⟩) hbl1).trans (hx1 j hltj)
          have HCS := Lib.hid (okB_succ (g := gmx D x) hjl)
          have hgv : gmx D x (st T j) = (decide (j = i) || !inS (ab D x) (st T j)) := by unfold gmx inS; rw [EQ.out j hjl]
          rw [hgv] at HCS
          obtain ⟨y, hy⟩ : ∃ y, st T j = y := ⟨_, rfl⟩
          rw [hy] at d2 HCS
          obtain ⟨p, hp⟩ : ∃ p, okB (gmx D x) T j = p := ⟨_, rfl⟩
          rw [hp] at HCS ⊢
          clear hy hjl hp hgv
          cases p
          · go_wp2
            go_roundw
            case rel => exact ⟨j + 1, by omega, by rw [HCS.out]; rfl, by go_num, trivial⟩
            case measure => simp [intOf]; omega
          · by_cases hji : j = i
            · subst hji
              go_wp2
              go_roundw
              case rel => exact ⟨j + 1, by omega, by rw [HCS.out]; simp, by go_num, trivial⟩
              case measure => simp [intOf]; omega
            · have hne1 : (((j : Nat) : Int) == ((i : Nat) : Int)) = false := by simp; omega
              have HDE : Hid (decide (j = i) = false) := by show _ = _; simpa using hji
              have AM := Lib.hid (Among_any w3 ua _ uc (ab D x) y HU.out)
              obtain ⟨q, hq⟩ : ∃ q, inS (ab D x) y = q := ⟨_, rfl⟩
              rw [hq] at AM HCS
              clear hq
              go_wp2_with (go_at_call 35; (with_reducible refine AM.out.mono ?_); rintro e w6 ⟨rfl, rfl⟩)
              go_roundw
              case rel => exact ⟨j + 1, by omega, by rw [HCS.out, HDE.out]; rfl, by go_num, trivial⟩
              case measure => simp [intOf]; omega
        · obtain rfl : tn = j := by omega
          have HOA : Hid (okB (gmx D x) T tn = T.all (gmx D x)) := by have := okB_all (gmx D x) T; rwa [HTL.out] at this
          obtain ⟨p, hp⟩ : ∃ p, T.all (gmx D x) = p := ⟨_, rfl⟩
          rw [hp] at HOA FS
          have hoa := HOA.out
          rw [hoa]
          clear hoa hltj hj hp
          cases p
          · go_wp2
            go_roundw
            case rel => exact ⟨i + 1, rn, R, by omega, by go_num, by omega, HRL, by show _ = _; rw [FS.out]; simp, HO3.out, hb4⟩
            case measure => simp [intOf]; omega
          · have hz2 := hb4.size
            have d3 := (hb4.cell (p := ⟨b1, off1 + i, none⟩) hbl1).trans (hx1 i hlt)
            rw [HX0.out] at d3
            go_wp2_with (at_builtin; go_loud (refine wpList_append_at rfl _ _ rfl w2.heap.size _ _ _ rfl (HO3.out.alloc _) ⟨w3.heap.size, 0, none⟩ x rfl (cell_of_one (heap_alloc_new w3 _)) (by omega) (by simp; omega) ?_); intro v6 w6 hown6 hgrow6 hloc6; have O6 := Lib.hid hown6; have hz6 := hgrow6.size; have B6 := Lib.hid (grown_below (hb4.alloc hb4.size _) (by have := hb4.size; simp; omega) (owns_base (HO3.out.alloc _) (by omega)) hgrow6); clear hown6 hgrow6 hloc6)
            go_roundw
            case rel => exact ⟨i + 1, rn + 1, R ++ [x], by omega, by go_num, by omega, by show _ = _; rw [List.length_append, HRL.out]; rfl, by show _ = _; rw [FS.out]; simp, O6.out, B6.out⟩
            case measure => simp [intOf]; omega
    · obtain rfl : tn = i := by omega
      have hRT : R = mx D s := by
        rw [HMX.out, HR.out]
        have := List.take_length (l := T)
        rw [HTL.out] at this
        rw [this]
      subst hRT
      obtain ⟨ra, rc, rfl, hri⟩ := IsStrs.of_owns HO.out (fun z hz => HTS.out z (by rw [HMX.out] at hz; exact (List.mem_filter.1 hz).1))
      clear hlt hi HR
      go_wp2
      go_ret
      have hz := B2.out.size
      have HO2 := HO.out
      rw [← HRL.out] at HO2 ⊢
      exact ⟨_, rfl, owns_base HO2 (by omega), (fun z hz => HTS.out z (by rw [HMX.out] at hz; exact (List.mem_filter.1 hz).1)), B2.out.trans (hb.mono hz)⟩
end Go.Proofs.YtdeamdpoegdmdaaGreatDoor

/- The reference of layer 4: name. -/
namespace Go.Proofs.YtdeamdpoegdmdaaGreatDoor
open Go.RowKit
open S (wd Is64 Fresh bit IsInt)

/-- The names before k whose number is in the set. -/
def pks (D : List Dec) (f : Cd) (k : Nat) : List Str := (S.lst f k).map fun i => st (al D) i
theorem pks_yes {D : List Dec} {f : Cd} {k : Nat} (h : bit f k = true) : pks D f (k + 1) = pks D f k ++ [st (al D) k] := by
  unfold pks; rw [S.lst_yes h, List.map_append]; rfl
theorem pks_no {D : List Dec} {f : Cd} {k : Nat} (h : bit f k = false) : pks D f (k + 1) = pks D f k := by
  unfold pks; rw [S.lst_no h]
theorem pks_len (D : List Dec) (f : Cd) (k : Nat) : (pks D f k).length ≤ k := by
  unfold pks; rw [List.length_map]; exact S.lst_len f k
theorem pks_all (D : List Dec) (f : Cd) : pks D f (al D).length = sel D f := rfl
theorem jn_more : ∀ (l : List Str) (x : Str), l ≠ [] → jn (l ++ [x]) = jn l ++ 38 :: x
  | [], _, h => absurd rfl h
  | [y], x, _ => rfl
  | y :: z :: r, x, _ => by
    have ih := jn_more (z :: r) x (by simp)
    show y ++ 38 :: jn (z :: r ++ [x]) = (y ++ 38 :: jn (z :: r)) ++ 38 :: x
    rw [ih]; simp
theorem mk_app (a b : Str) : mk a ++ mk b = mk (a ++ b) := by
  apply ByteArray.ext
  simp [mk]
theorem jn_step (l : List Str) (k : Nat) (hk : k < l.length) : jn (l.take (k + 1)) = (if k = 0 then [] else jn (l.take k) ++ [38]) ++ st l k := by
  rw [List.take_add_one, st_get hk]
  cases k with
  | zero => rfl
  | succ k =>
    rw [if_neg (by omega)]
    show jn (l.take (k + 1) ++ [_]) = _
    rw [jn_more _ _ (List.ne_nil_of_length_pos (by rw [List.length_take]; omega))]
    simp

set_option maxRecDepth 100000 in
set_option maxHeartbeats 1600000 in
theorem rname_any (w : World) (a : Option Addr) (n cap : Nat) (D : List Dec) (h : IsDecs w a n cap D) (hc : chkN D = 0) (na : Option Addr) (nc : Nat) (hA : IsStrs w na n nc (al D)) (ca : Option Addr) (cc : Nat) (hC : IsSets w ca n cc (cods D)) (fa : Option Addr) (fc : Nat) (f : Cd) (hf : Is64 w fa f.length fc f) (hd : Dwn D f) :
    Calls Tryz.prog 52 #[.slice a n cap, .slice na n nc, .slice ca n cc, .slice fa f.length fc] w fun e w' => e = .returned (.string (mk (nam D f))) ∧ Below w.heap.size w w' := by
  have HC := Lib.hid hc
  have hn : n ≤ 256 := (good_up h hc).2.2.2.2.1
  have H := Lib.hid h
  have HN := Lib.hid hA
  have HS := Lib.hid hC
  have HF := Lib.hid hf
  have HD := Lib.hid hd
  have HAL := Lib.hid hA.len
  have hmx := hA.maxLe
  have hcx := hA.capLe
  have hmc := hC.maxLe
  have hcc := hC.capLe
  unfold maxLen at hmx hmc
  obtain ⟨fl, hfl⟩ : ∃ fl, f.length = fl := ⟨_, rfl⟩
  have HFL := Lib.hid hfl
  have hfl64 : fl ≤ 64 := by rw [← hfl]; exact hd.len
  rw [hfl] at HF ⊢
  clear h hc hA hC hf hd hfl
  go_enter Tryz.func52, Tryz.ntmps52
  go_wp2
  go_loopw [9, 10] (fun o v wr => ∃ k : Nat, k ≤ n ∧ v = .int .i64 k ∧ Hid (∀ i, i < k → cg (cods D) i ≠ f) ∧ Hid (wr.ownsRow w.heap.size 9 1 o (pks D f k).length (svals (pks D f k))) ∧ Hid (Below w.heap.size w wr)) (fun _ v _ => n - (intOf v).toNat)
  case atStart => exact ⟨0, Nat.zero_le _, rfl, (fun i hi => absurd hi (Nat.not_lt_zero _)), World.ownsRow_nil _ _ _ _, Below.refl _ _⟩
  case round =>
    obtain ⟨k, hk, rfl, hno, hrow, hb⟩ := hrel
    by_cases hlt : k < n
    · obtain ⟨b1, o1, rfl, hl1, hx1⟩ := HN.out.at_ (by omega)
      obtain ⟨b2, o2, rfl, hl2, hx2⟩ := HS.out.at_ (by omega)
      obtain ⟨y, hy1, hy2⟩ := hx2 k hlt
      obtain ⟨ya, yc, rfl, hy⟩ := hy2.below hb.out
      have c1 := (hb.out.cell (p := ⟨b1, o1 + k, none⟩) hl1).trans (hx1 k hlt)
      have c2 := (hb.out.cell (p := ⟨b2, o2 + k, none⟩) hl2).trans hy1
      have hk0 : (0 : Int) ≤ (k : Int) := by omega
      have hk1 : (k : Int) < (n : Int) := by omega
      have hkc : k < (cods D).length := by rw [HS.out.len]; exact hlt
      have hkA : k < (al D).length := by rw [HAL.out]; exact hlt
      have hisC : IsS (cg (cods D) k) := (cods_sets (acc_of HC.out)).ok _ (cg_mem hkc)
      have hcl : (cg (cods D) k).length ≤ 64 := by
        obtain ⟨z, _, hz⟩ := List.mem_map.1 (cg_mem hkc)
        have hz' : cod D z = cg (cods D) k := hz
        rw [← hz']; exact cod_len D z
      have EQ : Hid (Calls Tryz.prog 94 #[.slice ya (cg (cods D) k).length yc, .slice fa fl fc] wr fun e w' => e = .returned (.bool (decide (cg (cods D) k = f))) ∧ Below wr.heap.size wr w') := by
        have := S.rEqual_any wr ya fa _ _ yc fc _ _ hy (HF.out.below hb.out) (by omega) (by omega)
        have e := subB_val hisC HD.out.is
        rw [HFL.out] at e
        rw [e] at this
        exact this
      have hle := pks_len D f k
      have hz := hb.out.size
      have HNAM : Hid (cg (cods D) k = f → st (al D) k = nam D f) := fun e => by
        have e2 : cg (cods D) k = cod D (st (al D) k) := by
          unfold cg cods
          rw [List.getD_eq_getElem?_getD, List.getElem?_map, st_get hkA]; rfl
        rw [← e, e2, nam_cod (acc_of HC.out) (mem_al.1 (st_mem hkA))]
      have HSM := Lib.hid (HN.out.small _ (st_mem hkA))
      have HY := Lib.hid (fun h => pks_yes (D := D) (f := f) (k := k) h)
      have HNO := Lib.hid (fun h => pks_no (D := D) (f := f) (k := k) h)
      obtain ⟨s, hs⟩ : ∃ s, st (al D) k = s := ⟨_, rfl⟩
      rw [hs] at c1 HNAM HSM HY
      obtain ⟨cl, hcl2⟩ : ∃ cl, (cg (cods D) k).length = cl := ⟨_, rfl⟩
      rw [hcl2] at c2 EQ
      have HA2 := Lib.hid (fun W (hW : Below wr.heap.size wr W) => HF.out.below (hb.out.trans (hW.mono hz)))
      clear hx1 hx2 hy hy1 hy2 hisC hcl hcl2 hs
      by_cases e : cg (cods D) k = f
      · rw [decide_eq_true e] at EQ
        have E := Lib.hid (HNAM.out e)
        clear e
        go_wp2_with (go_at_call 94; refine EQ.out.mono ?_; rintro e w2 ⟨rfl, hb2⟩; have c3 := (hb2.cell (p := ⟨b1, o1 + k, none⟩) (Nat.lt_of_lt_of_le hl1 hz)).trans c1; have B2 := Lib.hid (hb.out.trans (hb2.mono hz)); clear hb2)
        go_ret
        exact ⟨by rw [← E.out]; rfl, B2.out⟩
      · rw [decide_eq_false e] at EQ
        have E := Lib.hid e
        clear e
        have HNX : Hid (∀ i, i < k + 1 → cg (cods D) i ≠ f) := fun i hi => by
          rcases Nat.lt_or_ge i k with h2 | h2
          · exact hno.out i h2
          · obtain rfl : i = k := by omega
            exact E.out
        cases hbit : bit f k
        · have E2 := Lib.hid (HNO.out hbit)
          have HB := Lib.hid hbit
          clear hbit
          go_wp2_with (first
            | (go_at_call 94; refine EQ.out.mono ?_; rintro e w2 ⟨rfl, hb2⟩; have HA3 := Lib.hid (HA2.out _ hb2); have B2 := Lib.hid (hb.out.trans (hb2.mono hz)); have R2 := Lib.hid (owns_below hrow.out hb2); clear hb2)
            | (go_at_call 95; ((with_reducible refine (S.rHas_val false _ _ _ _ _ HA3.out k (by omega) HB.out).mono ?_); rintro e w' ⟨rfl, rfl⟩)))
          go_roundw
          case rel => exact ⟨k + 1, by omega, by go_num, HNX.out, by rw [E2.out]; exact R2.out, B2.out⟩
          case measure => simp [intOf]; omega
        · have E2 := Lib.hid (HY.out hbit)
          have HB := Lib.hid hbit
          clear hbit
          obtain ⟨l, hl⟩ : ∃ l, pks D f k = l := ⟨_, rfl⟩
          rw [hl] at hrow hle E2
          clear hl
          go_wp2_with (first
            | (go_at_call 94; refine EQ.out.mono ?_; rintro e w2 ⟨rfl, hb2⟩; have HA3 := Lib.hid (HA2.out _ hb2); have c3 := (hb2.cell (p := ⟨b1, o1 + k, none⟩) (Nat.lt_of_lt_of_le hl1 hz)).trans c1; have B2 := Lib.hid (hb.out.trans (hb2.mono hz)); have R2 := Lib.hid (owns_below hrow.out hb2); clear hb2)
            | (go_at_call 95; ((with_reducible refine (S.rHas_val true _ _ _ _ _ HA3.out k (by omega) HB.out).mono ?_); rintro e w' ⟨rfl, rfl⟩))
            | (at_builtin; refine wpList_append_strs (w := w2.alloc (.cells #[.string (mk s)] 9)) rfl _ _ rfl w.heap.size _ l.length _ rfl (R2.out.alloc _) _ 1 1 [s] rfl (IsStrs.one w2 s HSM.out) (by omega) (by have := B2.out.size; simp; omega) ?_; intro v5 w5 hown5 hgrow5; have O5 := Lib.hid hown5; have B5 := Lib.hid (grown_below (B2.out.alloc B2.out.size _) (by have := B2.out.size; simp; omega) (R2.out.alloc _) hgrow5); clear hown5 hgrow5))
          go_roundw
          case rel => exact ⟨k + 1, by omega, by go_num, HNX.out, by rw [E2.out, List.length_append]; exact O5.out, B5.out⟩
          case measure => simp [intOf]; omega
    · obtain rfl : n = k := by omega
      have ek : pks D f n = sel D f := by rw [← HAL.out]; rfl
      have hro := hrow.out
      rw [ek] at hro
      have hsl : (sel D f).length ≤ n := by rw [← ek]; exact pks_len D f n
      obtain ⟨ba, bc, rfl, hbs⟩ := IsStrs.of_owns hro (fun z hz => HN.out.small z (mem_al.2 (sel_nms hz)))
      have MX := Lib.hid (rMaximal_any wr a n cap D (H.out.below hb.out) HC.out ba _ bc (sel D f) hbs (by omega))
      obtain ⟨q, hq⟩ : ∃ q, (sel D f).length = q := ⟨_, rfl⟩
      rw [hq] at MX ⊢
      clear hro hbs ek hrow hq hsl
      go_wp2_with fail
      refine MX.out.mono ?_
      intro e w2 hy
      obtain ⟨ma, mc, rfl, hms, hb2⟩ := hy.eq _ rfl
      have HMS := Lib.hid hms
      have B2 := Lib.hid (hb.out.trans (hb2.mono hb.out.size))
      clear hy hms hb2 MX
      have HMJ : Hid (jn (mx D (sel D f)) = nam D f) := rfl
      have HMN : Hid (∀ x ∈ mx D (sel D f), x.length ≤ 32) := fun x hx => nms_short HC.out x (mx_sub hx).2
      have hmlen : (mx D (sel D f)).length ≤ 256 := by
        have h1 : (mx D (sel D f)).Nodup := List.Nodup.sublist List.filter_sublist (srt_asc _).nodup
        have h2 := nodup_len h1 (fun x hx => (mx_sub hx).2)
        rw [nms_len, H.out.len] at h2
        omega
      obtain ⟨L, hL⟩ : ∃ L, mx D (sel D f) = L := ⟨_, rfl⟩
      rw [hL] at HMS HMJ HMN hmlen ⊢
      have hml := HMS.out.maxLe
      have hmc2 := HMS.out.capLe
      unfold maxLen at hml
      obtain ⟨m, hm⟩ : ∃ m, L.length = m := ⟨_, rfl⟩
      have HLM := Lib.hid hm
      rw [hm] at HMS hmc2 ⊢
      clear hL hm
      go_wp2
      go_loop [11, 12] (fun s v => ∃ k : Nat, k ≤ m ∧ v = .int .i64 k ∧ s = .string (mk (jn (L.take k)))) (fun _ v => m - (intOf v).toNat)
      case atStart => exact ⟨0, Nat.zero_le _, rfl, rfl⟩
      case round =>
        obtain ⟨k, hk, rfl, rfl⟩ := hrel
        by_cases hlt : k < m
        · obtain ⟨b1, o1, rfl, hl1, hx1⟩ := HMS.out.at_ (by omega)
          have c1 := hx1 k hlt
          have hk0 : (0 : Int) ≤ (k : Int) := by omega
          have hk1 : (k : Int) < (m : Int) := by omega
          have ST := Lib.hid (jn_step L k (by rw [HLM.out]; exact hlt))
          have hs32 : (mk (st L k)).size ≤ 32 := by rw [mk_size]; exact HMN.out _ (st_mem (by rw [HLM.out]; exact hlt))
          have hj32 : (mk (jn (L.take k))).size ≤ 33 * 256 := by
            rw [mk_size]
            have h1 := jn_len (L.take k) (fun x hx => HMN.out x (List.mem_of_mem_take hx))
            rw [List.length_take] at h1
            omega
          obtain ⟨s, hs⟩ : ∃ s, st L k = s := ⟨_, rfl⟩
          rw [hs] at c1 ST hs32
          clear hs hx1
          by_cases h0 : k = 0
          · subst h0
            rw [Nat.add_zero] at c1
            have hz0 : (mk (jn [])).size = 0 := rfl
            go_wp2
            go_round
            case rel => exact ⟨1, by omega, rfl, by rw [ST.out]; simp [mk_app, jn]⟩
            case measure => simp [intOf]; omega
          · have hkp : (0 : Int) < (k : Int) := by omega
            obtain ⟨J, hJ⟩ : ∃ J, jn (L.take k) = J := ⟨_, rfl⟩
            rw [hJ, if_neg h0] at ST
            rw [hJ] at hj32 ⊢
            go_wp2
            go_round
            case rel => exact ⟨k + 1, by omega, by go_num, by rw [ST.out, ← mk_app, ← mk_app]; rfl⟩
            case measure => simp [intOf]; omega
        · obtain rfl : m = k := by omega
          have e : jn (L.take m) = nam D f := by rw [← HMJ.out, ← HLM.out, List.take_length]
          rw [e]
          go_wp2
          go_ret
          exact ⟨rfl, B2.out⟩
end Go.Proofs.YtdeamdpoegdmdaaGreatDoor

/- The reference of layer 4: in, before. -/
namespace Go.Proofs.YtdeamdpoegdmdaaGreatDoor
open Go.RowKit Go.Maps Go.Shelf
open S (wd Is64 Fresh bit)

set_option maxRecDepth 100000 in
/-- Is the set in the list? -/
theorem rIn_any (w : World) (a : Option Addr) (n cap : Nat) (C : List Cd) (h : IsSets w a n cap C) (xa : Option Addr) (xc : Nat) (c : Cd) (hx : Is64 w xa c.length xc c) :
    Calls Tryz.prog 93 #[.slice a n cap, .slice xa c.length xc] w fun e w' => e = .returned (.bool (decide (c ∈ C))) ∧ Below w.heap.size w w' := by
  have H := Lib.hid h
  have HX := Lib.hid hx
  have hmx := h.maxLe
  have hcx := h.capLe
  unfold maxLen at hmx
  have HL := Lib.hid h.len
  clear h hx
  go_enter Tryz.func93, Tryz.ntmps93
  go_wp2
  go_loopw [5] (fun v wr => ∃ k : Nat, k ≤ n ∧ v = .int .i64 k ∧ Hid (∀ i, i < k → cg C i ≠ c) ∧ Hid (Below w.heap.size w wr)) (fun v _ => n - (intOf v).toNat)
  case atStart => exact ⟨0, Nat.zero_le _, rfl, (fun i hi => absurd hi (Nat.not_lt_zero _)), Below.refl _ _⟩
  case round =>
    obtain ⟨k, hk, rfl, hno, hB⟩ := hrel
    by_cases hlt : k < n
    · obtain ⟨b, off, rfl, hb, hx⟩ := (H.out.below hB.out).at_ (by omega)
      obtain ⟨y, hy1, hy2⟩ := hx k hlt
      obtain ⟨ya, yc, rfl, hy⟩ := hy2
      have SM := Lib.hid (S.Same_any wr ya xa _ _ yc xc _ _ hy (HX.out.below hB.out))
      have hk0 : (0 : Int) ≤ (k : Int) := by omega
      have hk1 : (k : Int) < (n : Int) := by omega
      unfold S.sameB at SM
      clear hx hy
      by_cases e : cg C k = c
      · rw [decide_eq_true e] at SM
        have E := Lib.hid e
        clear e
        go_wp2_with (go_at_call 54; (with_reducible refine SM.out.mono ?_); rintro e w2 ⟨rfl, hb2⟩; have B2 := Lib.hid (hB.out.trans (hb2.mono hB.out.size)); clear hb2)
        go_ret
        exact ⟨by rw [decide_eq_true (by rw [← E.out]; exact cg_mem (by rw [HL.out]; exact hlt))]; rfl, B2.out⟩
      · rw [decide_eq_false e] at SM
        have E := Lib.hid e
        clear e
        go_wp2_with (go_at_call 54; (with_reducible refine SM.out.mono ?_); rintro e w2 ⟨rfl, hb2⟩; have B2 := Lib.hid (hB.out.trans (hb2.mono hB.out.size)); clear hb2)
        go_roundw
        case rel =>
          refine ⟨k + 1, by omega, by go_num, fun i hi => ?_, B2.out⟩
          rcases Nat.lt_or_ge i k with h2 | h2
          · exact hno.out i h2
          · obtain rfl : i = k := by omega
            exact E.out
        case measure => simp [intOf]; omega
    · obtain rfl : n = k := by omega
      go_wp2
      go_ret
      exact ⟨by
        rw [decide_eq_false (fun hc => by
          obtain ⟨i, hi⟩ := List.getElem?_of_mem hc
          have hlt := (List.getElem?_eq_some_iff.1 hi).1
          have := cg_get hlt
          rw [hi] at this
          exact hno.out i (by rw [← HL.out]; exact hlt) (Option.some.inj this).symm)]; rfl, hB.out⟩

set_option maxRecDepth 100000 in
set_option maxHeartbeats 1600000 in
theorem rBefore_any (w : World) (x y : Ty) (xa ya : Option Addr) (xc yc : Nat) (hx : Is64 w xa x.2.length xc x.2) (hy : Is64 w ya y.2.length yc y.2) (sx : x.2.length ≤ 64) (sy : y.2.length ≤ 64) :
    Calls Tryz.prog 53 #[.agg #[.string (mk x.1), .slice xa x.2.length xc], .agg #[.string (mk y.1), .slice ya y.2.length yc]] w fun e w' => e = .returned (.bool (decide (bef x y))) ∧ Below w.heap.size w w' := by
  obtain ⟨W, hW⟩ : ∃ W, W = (w.alloc (.cells #[.string (mk x.1), .slice xa x.2.length xc] 36)).alloc (.cells #[.string (mk y.1), .slice ya y.2.length yc] 36) := ⟨_, rfl⟩
  have b1 : Below w.heap.size w W := by rw [hW]; exact ((Below.refl _ w).alloc (Nat.le_refl _) _).alloc (by simp) _
  have hz : W.heap.size = w.heap.size + 2 := by rw [hW]; simp
  have d1 : W.cell? ⟨w.heap.size, 0, none⟩ = some (.string (mk x.1)) := by
    rw [hW]
    refine (World.cell?_alloc_lt _ _ _ (by simp)).trans ?_
    rw [World.cell?_alloc_new]; rfl
  have d2 : W.cell? ⟨w.heap.size, 1, none⟩ = some (.slice xa x.2.length xc) := by
    rw [hW]
    refine (World.cell?_alloc_lt _ _ _ (by simp)).trans ?_
    rw [World.cell?_alloc_new]; rfl
  have d3 : W.cell? ⟨w.heap.size + 1, 0, none⟩ = some (.string (mk y.1)) := by
    rw [hW]
    have := World.cell?_alloc_new (w.alloc (.cells #[.string (mk x.1), .slice xa x.2.length xc] 36)) #[.string (mk y.1), .slice ya y.2.length yc] 36 0
    rw [World.size_alloc] at this
    exact this
  have d4 : W.cell? ⟨w.heap.size + 1, 1, none⟩ = some (.slice ya y.2.length yc) := by
    rw [hW]
    have := World.cell?_alloc_new (w.alloc (.cells #[.string (mk x.1), .slice xa x.2.length xc] 36)) #[.string (mk y.1), .slice ya y.2.length yc] 36 1
    rw [World.size_alloc] at this
    exact this
  have HX := Lib.hid (hx.below b1)
  have HY := Lib.hid (hy.below b1)
  have B1 := Lib.hid b1
  have CX := Lib.hid (S.rCount_any W xa _ xc x.2 HX.out (by omega))
  obtain ⟨p, hp⟩ : ∃ p, (S.lst x.2 (64 * x.2.length)).length = p := ⟨_, rfl⟩
  obtain ⟨q, hq⟩ : ∃ q, (S.lst y.2 (64 * y.2.length)).length = q := ⟨_, rfl⟩
  have HP : Hid (cnS x.2 = p) := hp
  have HQ : Hid (cnS y.2 = q) := hq
  rw [hp] at CX
  clear hx hy b1 hp
  go_enter Tryz.func53, Tryz.ntmps53
  go_wp2_with fail
  rw [← hW]
  refine CX.out.mono ?_
  rintro e w2 ⟨rfl, hb2⟩
  have CY := Lib.hid (S.rCount_any w2 ya _ yc y.2 (HY.out.below hb2) (by omega))
  rw [hq] at CY
  have B2 := Lib.hid (B1.out.trans (hb2.mono B1.out.size))
  have c1 := (hb2.cell (p := ⟨w.heap.size, 0, none⟩) (by show w.heap.size < _; omega)).trans d1
  have c3 := (hb2.cell (p := ⟨w.heap.size + 1, 0, none⟩) (by show w.heap.size + 1 < _; omega)).trans d3
  have c4 := (hb2.cell (p := ⟨w.heap.size + 1, 1, none⟩) (by show w.heap.size + 1 < _; omega)).trans d4
  have hz2 := hb2.size
  clear hq hW hb2 CX d1 d2 d3 d4
  go_wp2_with fail
  refine CY.out.mono ?_
  rintro e w3 ⟨rfl, hb3⟩
  have B3 := Lib.hid (B2.out.trans (hb3.mono B2.out.size))
  have k1 := (hb3.cell (p := ⟨w.heap.size, 0, none⟩) (by show w.heap.size < _; omega)).trans c1
  have k3 := (hb3.cell (p := ⟨w.heap.size + 1, 0, none⟩) (by show w.heap.size + 1 < _; omega)).trans c3
  clear hb3 CY c1 c3 c4
  rcases Nat.lt_trichotomy q p with hlt | heq | hgt
  · have f1 : (q : Int) < (p : Int) := by omega
    go_wp2
    go_ret
    exact ⟨by rw [decide_eq_true (.inl (by rw [HP.out, HQ.out]; exact hlt))]; rfl, B3.out⟩
  · subst heq
    go_wp2
    go_ret
    refine ⟨?_, B3.out⟩
    have e : Op.bytesLess (mk x.1).toList (mk y.1).toList = decide (bef x y) := by
      rw [Bool.eq_iff_iff, decide_eq_true_iff]
      unfold bef
      rw [HP.out, HQ.out, mk_less, decide_eq_true_iff]
      exact ⟨fun h => .inr ⟨rfl, h⟩, fun h => h.elim (fun h => absurd h (Nat.lt_irrefl _)) (fun h => h.2)⟩
    rw [← e]
    rfl
  · have f1 : decide (q < p) = false := decide_eq_false (by omega)
    have f2 : ((p : Int) == (q : Int)) = false := by rw [beq_eq_false_iff_ne]; omega
    go_wp2
    go_ret
    have e : decide (bef x y) = false := decide_eq_false (fun h => by
      unfold bef at h
      rw [HP.out, HQ.out] at h
      omega)
    exact ⟨by rw [e]; first | rfl | (rw [← f1]; rfl), B3.out⟩
end Go.Proofs.YtdeamdpoegdmdaaGreatDoor

/- The reference of layer 4: family. -/
namespace Go.Proofs.YtdeamdpoegdmdaaGreatDoor
open Go.RowKit Go.Maps Go.Shelf
open S (wd Is64 Fresh bit SAnd)

structure FR (C L : List Cd) (i k : Nat) : Prop where
  pre : C <+: L
  nodup : L.Nodup
  fam : ∀ l ∈ L, Fam sAlg C l
  did : L.length ≤ 256 → ∀ i' k', k' < i' → (i' < i ∨ i' = i ∧ k' < k) → i' < L.length → SAnd (cg L i') (cg L k') = [] ∨ SAnd (cg L i') (cg L k') ∈ L
theorem FR.start {C : List Cd} (hn : C.Nodup) : FR C C 0 0 := ⟨List.prefix_refl C, hn, (fun _ h => .base h), fun _ i' k' _ h => by omega⟩
theorem FR.row {C L : List Cd} {i k : Nat} (h : FR C L i k) (hk : i ≤ k) : FR C L (i + 1) 0 :=
  ⟨h.pre, h.nodup, h.fam, fun h0 i' k' h1 h2 h3 => h.did h0 i' k' h1 (by omega) h3⟩
theorem FR.over {C L : List Cd} {i k j : Nat} (h : FR C L i k) (hl : ¬ L.length ≤ 256) : FR C L j 0 := ⟨h.pre, h.nodup, h.fam, fun h0 => absurd h0 hl⟩
theorem FR.skip {C L : List Cd} {i k : Nat} (h : FR C L i k) (hs : SAnd (cg L i) (cg L k) = [] ∨ SAnd (cg L i) (cg L k) ∈ L) : FR C L i (k + 1) :=
  ⟨h.pre, h.nodup, h.fam, fun h0 i' k' h1 h2 h3 => by
    by_cases e : i' = i ∧ k' = k
    · obtain ⟨rfl, rfl⟩ := e; exact hs
    · exact h.did h0 i' k' h1 (by omega) h3⟩
theorem FR.new {C L : List Cd} {i k : Nat} (h : FR C L i k) (hi : i < L.length) (hk : k < L.length) (hne : SAnd (cg L i) (cg L k) ≠ []) : Fam sAlg C (SAnd (cg L i) (cg L k)) :=
  .inter (h.fam _ (cg_mem hi)) (h.fam _ (cg_mem hk)) hne
theorem FR.add {C L : List Cd} {i k : Nat} (h : FR C L i k) (hi : i < L.length) (hk : k < i) (hne : SAnd (cg L i) (cg L k) ≠ []) (hni : SAnd (cg L i) (cg L k) ∉ L) : FR C (L ++ [SAnd (cg L i) (cg L k)]) i (k + 1) := by
  refine ⟨h.pre.trans (List.prefix_append _ _), ?_, ?_, fun h0 i' k' h1 h2 h3 => ?_⟩
  · rw [List.nodup_append]
    exact ⟨h.nodup, by simp, fun x hx y hy => by rw [List.mem_singleton] at hy; rw [hy]; rintro rfl; exact hni hx⟩
  · intro l hl
    rcases List.mem_append.1 hl with e | e
    · exact h.fam l e
    · rw [List.mem_singleton] at e; rw [e]; exact h.new hi (by omega) hne
  · have hl : i' < L.length := by omega
    rw [cg_app, if_pos hl, cg_app, if_pos (show k' < L.length by omega)]
    by_cases e : i' = i ∧ k' = k
    · obtain ⟨rfl, rfl⟩ := e
      right; simp
    · rcases h.did (by rw [List.length_append] at h0; omega) i' k' h1 (by omega) hl with g | g
      · exact .inl g
      · exact .inr (List.mem_append_left _ g)
theorem FR.end {C L : List Cd} {i k : Nat} (hC : Sets sAlg C) (h : FR C L i k) (h0 : L.length ≤ 256) (hi : L.length ≤ i) : ∀ x, x ∈ L ↔ Fam sAlg C x := by
  intro x
  constructor
  · exact h.fam x
  · refine fam_pairs hC (fun l hl => (h.fam l hl).ok hC) (fun c hc => h.pre.subset hc) fun i' k' a b h1 h2 h3 => ?_
    have hl := (List.getElem?_eq_some_iff.1 h2).1
    have hk := (List.getElem?_eq_some_iff.1 h3).1
    have ea : cg L i' = a := by have := cg_get hl; rw [h2] at this; exact (Option.some.inj this).symm
    have eb : cg L k' = b := by have := cg_get hk; rw [h3] at this; exact (Option.some.inj this).symm
    have := h.did h0 i' k' h1 (by omega) hl
    rw [ea, eb] at this
    exact this
def RFamPost (C : List Cd) (w : World) (e : Ending) (w' : World) : Prop := Below w.heap.size w w' ∧
  ∃ v L, e = .returned v ∧ OwnS w' w.heap.size v L.length L ∧ C <+: L ∧ L.Nodup ∧ (∀ l ∈ L, Fam sAlg C l) ∧ ((L.length ≤ 256 ∧ ∀ x, x ∈ L ↔ Fam sAlg C x) ∨ L.length = 257)
/-- A copy behind an empty literal. -/
theorem OwnS.copy {w w' : World} {b off n cap : Nat} {C : List Cd} (h : IsSets w (some ⟨b, off, none⟩) n cap C) (hC : ∀ c ∈ C, c ≠ []) {vs : List Value} {v : Value} (hv : ∀ i, i < n → vs[i]? = w.cell? ⟨b, off + i, none⟩) (hr : w'.ownsRow w.heap.size 31 1 v n vs) (hb : Below w.heap.size w w') : OwnS w' w.heap.size v n C := by
  refine ⟨vs, hr, h.len, fun i hi => ?_⟩
  obtain ⟨b2, o2, e, hl, hx⟩ := h.at_ (by omega)
  cases e
  obtain ⟨x, h1, h2⟩ := hx i hi
  have hlt := h2.lt (hC _ (cg_mem (by rw [h.len]; exact hi)))
  refine ⟨x, by rw [hv i hi]; exact h1, ⟨h2.below hb, fun k hk => Nat.lt_of_lt_of_le (hlt k hk) hb.size, fun g hg hx => ?_⟩⟩
  have h3 := (hr.lt g hg).1
  have h4 := hlt g hx
  omega

set_option maxRecDepth 100000 in
set_option maxHeartbeats 3200000 in
theorem rfamily_any (w : World) (b0 off0 n cap : Nat) (C : List Cd) (h : IsSets w (some ⟨b0, off0, none⟩) n cap C) (h0 : 0 < n) (hn : n ≤ 256) (hC : Sets sAlg C) (hnd : C.Nodup) (hl : ∀ c ∈ C, c.length ≤ 64) :
    Calls Tryz.prog 51 #[.slice (some ⟨b0, off0, none⟩) n cap] w (RFamPost C w) := by
  have hlen := h.len
  have HC := Lib.hid hC
  have HL := Lib.hid hl
  have H := Lib.hid h
  have HLN := Lib.hid hlen
  have HST := Lib.hid (FR.start hnd)
  obtain ⟨vs, hvs⟩ : ∃ vs : List Value, vs.length = n ∧ (∀ i, i < n → vs[i]? = w.cell? ⟨b0, off0 + i, none⟩) ∧ (∀ u ∈ vs, u.oneCell' = true) ∧ ∀ j u, vs[j]? = some u → (w.alloc (.cells #[] 31)).cell? ((⟨b0, off0, none⟩ : Addr).add j) = some u := by
    obtain ⟨b2, o2, e, hbl, hx⟩ := h.at_ h0
    cases e
    have hx2 : ∀ i : Fin n, ∃ x, w.cell? ⟨b0, off0 + i, none⟩ = some x ∧ SetV w x (cg C i) := fun i => hx i i.2
    obtain ⟨f, hf⟩ : ∃ f : Fin n → Value, ∀ i : Fin n, w.cell? ⟨b0, off0 + i, none⟩ = some (f i) ∧ SetV w (f i) (cg C i) := ⟨fun i => Classical.choose (hx2 i), fun i => Classical.choose_spec (hx2 i)⟩
    have hg : ∀ i (hi : i < n), (List.ofFn f)[i]? = some (f ⟨i, hi⟩) := fun i hi => by rw [List.getElem?_ofFn, dif_pos hi]
    refine ⟨List.ofFn f, by simp, fun i hi => ?_, fun u hu => ?_, fun j u hu => ?_⟩
    · rw [hg i hi]; exact (hf ⟨i, hi⟩).1.symm
    · obtain ⟨i, rfl⟩ := List.mem_ofFn.1 hu
      exact (hf i).2.oneC
    · have hj : j < n := by have := (List.getElem?_eq_some_iff.1 hu).1; simpa using this
      rw [hg j hj] at hu
      cases hu
      rw [show (⟨b0, off0, none⟩ : Addr).add j = ⟨b0, off0 + j, none⟩ by unfold Addr.add; split <;> simp_all]
      exact (World.cell?_alloc_lt _ _ _ hbl).trans (hf ⟨j, hj⟩).1
  have HVS := Lib.hid hvs
  have hcx := h.capLe
  have hmx := h.maxLe
  unfold maxLen at hmx
  obtain ⟨i0, hi, hz0, hz1, hz2⟩ := info_parts Tryz.infoBs
  have HI := Lib.hid (And.intro hi (And.intro hz0 (And.intro hz1 hz2)))
  clear h hlen hC hnd hl hvs hi hz0 hz1 hz2
  go_enter Tryz.func51, Tryz.ntmps51
  go_wp2_with (at_builtin; (refine wpList_append_own_at (w.alloc (.cells #[] 31)) rfl _ _ 70 rfl w.heap.size 31 i0 (.slice none 0 0) 1 24 Tryz.underlying70 HI.out.1 HI.out.2.1 HI.out.2.2.1 HI.out.2.2.2 rfl (by decide) (.slice (some ⟨w.heap.size, 0, none⟩) 0 0) 0 [] rfl (World.ownsRow_made (base := w.heap.size) (size := 1) (e := 31) w #[] 0 (Nat.le_refl _) (Nat.zero_le _) rfl) ⟨b0, off0, none⟩ n cap vs rfl (by have := HVS.out.1; omega) HVS.out.2.2.2 HVS.out.2.2.1 (by unfold maxLen; omega) (by omega) (by simp) ?_); intro v1 w1 hown hgrow _ _)
  rw [Nat.zero_add, List.nil_append] at hown
  have B1 : Hid (Below w.heap.size w w1) := (((Below.refl w.heap.size w).alloc (Nat.le_refl _) (.cells #[] 31)).grown hgrow (by simp) (fun j hj => by cases hj; exact Nat.le_refl _))
  have O1 := Lib.hid (OwnS.copy H.out (fun c hc => HC.out.ne c hc) HVS.out.2.1 hown B1.out)
  clear hown hgrow
  go_loopw [3, 4] (fun u v wr => ∃ (i : Nat) (L : List Cd), i ≤ L.length ∧ L.length ≤ 257 ∧ v = .int .i64 i ∧ Hid (OwnS wr w.heap.size u L.length L) ∧ Hid (FR C L i 0) ∧ Hid (Below w.heap.size w wr)) (fun _ v _ => 258 - (intOf v).toNat)
  case atStart => exact ⟨0, C, Nat.zero_le _, by rw [HLN.out]; omega, rfl, (by rw [HLN.out]; exact O1.out), HST.out, B1.out⟩
  case round =>
    obtain ⟨i, L, hi, hL, rfl, ho, hf, hb⟩ := hrel
    obtain ⟨wo, hwo⟩ : ∃ wo : World, wo = wr := ⟨_, rfl⟩
    subst hwo
    have hL0 : 0 < L.length := by have := hf.out.pre.length_le; rw [HLN.out] at this; omega
    obtain ⟨g, cp, rfl, hcp, hcm⟩ := ho.out.head hL0
    unfold maxLen at hcm
    by_cases hlt : i < L.length
    · by_cases hfull : L.length ≤ 256
      · have hf1 : ((L.length : Nat) : Int) ≤ 256 := by omega
        go_wp2
        clear hcp hcm hL0 hf1
        go_loopw [3, 5] (fun u v wi => ∃ (k : Nat) (M : List Cd), k ≤ i ∧ i < M.length ∧ M.length ≤ 257 ∧ v = .int .i64 k ∧ Hid (OwnS wi w.heap.size u M.length M) ∧ Hid (FR C M i k) ∧ Hid (Below w.heap.size w wi)) (fun _ v _ => 258 - (intOf v).toNat)
        case atStart => exact ⟨0, L, Nat.zero_le _, hlt, hL, rfl, ho.out, hf.out, hb.out⟩
        case round =>
          obtain ⟨k, M, hk, hiM, hM, rfl, hoM, hfM, hbM⟩ := hrel
          obtain ⟨wi, hwi⟩ : ∃ wi : World, wi = wr := ⟨_, rfl⟩
          subst hwi
          obtain ⟨gm, cm, rfl, hcp, hcm⟩ := hoM.out.head (by omega)
          unfold maxLen at hcm
          by_cases hkn : k < i
          · by_cases hf256 : M.length ≤ 256
            · have hf2 : ((M.length : Nat) : Int) ≤ 256 := by omega
              have hkM : k < M.length := by omega
              have hgl := (hoM.out.lt gm rfl).2
              obtain ⟨x, hx1, hx2⟩ := hoM.out.cell hkM
              obtain ⟨y, hy1, hy2⟩ := hoM.out.cell hiM
              obtain ⟨xa, xc, rfl, hx⟩ := hx2.is
              obtain ⟨ya, yc, rfl, hy⟩ := hy2.is
              have hfx := fam_len HL.out (hfM.out.fam _ (cg_mem hiM))
              have hfy := fam_len HL.out (hfM.out.fam _ (cg_mem hkM))
              have BD := Lib.hid (show Below wi.heap.size wi wi.drew from (Below.refl _ wi).drew)
              have AN := Lib.hid (rAnd_is wi.drew ya xa yc xc _ _ (hy.below BD.out) (hx.below BD.out) hfx hfy)
              have HISC : Hid (∀ d ∈ M, IsS d) := fun d hd => (hfM.out.fam d hd).ok HC.out
              have SK := Lib.hid (fun hs => hfM.out.skip (i := i) (k := k) hs)
              have AD := Lib.hid (fun hne hni => hfM.out.add hiM hkn hne hni)
              obtain ⟨d, hd⟩ : ∃ d, SAnd (cg M i) (cg M k) = d := ⟨_, rfl⟩
              rw [hd] at AN SK AD
              clear hd hx2 hy2 hx hy hfx hfy
              have SS := Lib.hid (show ∀ W, Below wi.heap.size wi W → IsSets W (some ⟨gm, 0, none⟩) M.length cm M from fun W hW => by
                obtain ⟨a', c', e', hs⟩ := (hoM.out.below hW).isSets
                cases e'
                exact hs)
              by_cases hz : d = []
              · have hdz : decide ((0 : Int) < (d.length : Int)) = false := by rw [hz]; rfl
                go_wp2_with fail
                go_region_held3 (fun w' => w'.cell? ⟨gm, i, none⟩ = some (.slice ya (cg M i).length yc) ∧ w'.cell? ⟨gm, k, none⟩ = some (.slice xa (cg M k).length xc)) (first | (go_keep; done) | exact ⟨hy1, hx1⟩ | exact ⟨e1, e2⟩) ((go_at_call 58; refine AN.out.mono ?_; rintro e w2 ⟨za, zc, rfl, hz64, hzf, hb2⟩; have e1 := (hb2.cell (p := ⟨gm, i, none⟩) hgl).trans hy1; have e2 := (hb2.cell (p := ⟨gm, k, none⟩) hgl).trans hx1; have B2 := Lib.hid (hbM.out.trans ((BD.out.trans (hb2.mono BD.out.size)).mono hbM.out.size)); have O2 := Lib.hid (hoM.out.below (BD.out.trans (hb2.mono BD.out.size))); clear hz64 hzf hb2))
                go_wp2
                go_roundw
                case rel => exact ⟨k + 1, M, by omega, hiM, hM, by go_num, O2.out, SK.out (.inl hz), B2.out⟩
                case measure => simp [intOf]; omega
              · have hdz : 0 < d.length := List.length_pos_iff.2 hz
                go_wp2_with fail
                go_region_held3 (fun w' => w'.cell? ⟨gm, i, none⟩ = some (.slice ya (cg M i).length yc) ∧ w'.cell? ⟨gm, k, none⟩ = some (.slice xa (cg M k).length xc)) (first | (go_keep; done) | exact ⟨hy1, hx1⟩ | exact ⟨e1, e2⟩) ((go_at_call 58; refine AN.out.mono ?_; rintro e w2 ⟨za, zc, rfl, hz64, hzf, hb2⟩; have e1 := (hb2.cell (p := ⟨gm, i, none⟩) hgl).trans hy1; have e2 := (hb2.cell (p := ⟨gm, k, none⟩) hgl).trans hx1; have B02 := Lib.hid (BD.out.trans (hb2.mono BD.out.size)); have Z64 := Lib.hid hz64; have ZF := Lib.hid hzf; have BB2 := Lib.hid hb2; clear hz64 hzf hb2))
                have B2 := Lib.hid (hbM.out.trans (B02.out.mono hbM.out.size))
                have O2 := Lib.hid (hoM.out.below B02.out)
                have IN := Lib.hid (rIn_any w2 _ _ cm M (SS.out w2 B02.out) za zc d Z64.out)
                have EL : Hid (∀ W, Below w2.heap.size w2 W → Elt W (.slice (some ⟨gm, 0, none⟩) M.length cm) (.slice za d.length zc) d) := fun W hW => by
                  have D2 : SetV w2 (.slice za d.length zc) d := ⟨za, zc, rfl, Z64.out⟩
                  refine ⟨D2.below hW, (D2.below hW).lt hz, fun g hg hx => ?_⟩
                  cases hg
                  cases za with
                  | none => cases hx
                  | some p =>
                    have h1 := ZF.out p rfl
                    have h2 := BD.out.size
                    have hx' : p.block = gm := Option.some.inj hx
                    omega
                have HZ := Lib.hid hz
                clear hz e1 e2 hy1 hx1 AN SS HISC
                by_cases hm : d ∈ M
                · rw [decide_eq_true hm] at IN
                  have HM := Lib.hid hm
                  clear hm
                  go_wp2_with (go_at_call 93; refine IN.out.mono ?_; rintro e w3 ⟨rfl, hb3⟩; have B3 := Lib.hid (B2.out.trans (hb3.mono B2.out.size)); have O3 := Lib.hid (O2.out.below hb3); clear hb3)
                  go_roundw
                  case rel => exact ⟨k + 1, M, by omega, hiM, hM, by go_num, O3.out, SK.out (.inr HM.out), B3.out⟩
                  case measure => simp [intOf]; omega
                · rw [decide_eq_false hm] at IN
                  have HM := Lib.hid hm
                  clear hm
                  go_wp2_with (first
                    | (go_at_call 93; refine IN.out.mono ?_; rintro e w3 ⟨rfl, hb3⟩; have B3 := Lib.hid (B2.out.trans (hb3.mono B2.out.size)); have O3 := Lib.hid (O2.out.below hb3); have E3 := Lib.hid (EL.out w3 hb3); clear hb3)
                    | (at_builtin; refine wpList_append_set rfl _ _ rfl w.heap.size (.slice (some ⟨gm, 0, none⟩) M.length cm) M.length M rfl O3.out (.slice za d.length zc) d E3.out rfl (by omega) B3.out.size ?_; intro v4 w4 ho4 hg4; have O4 := Lib.hid ho4; have B4 := Lib.hid ((B3.out.alloc B3.out.size _).grown hg4 (by have := B3.out.size; simp; omega) (fun j hj => by cases hj; exact (hoM.out.lt gm rfl).1)); clear ho4 hg4))
                  go_roundw
                  case rel => exact ⟨k + 1, M ++ [d], by omega, by rw [List.length_append]; omega, by rw [List.length_append]; simp; omega, by go_num, (by rw [List.length_append]; exact O4.out), AD.out HZ.out HM.out, B4.out⟩
                  case measure => simp [intOf]; omega
            · have hf2 : ¬ ((M.length : Nat) : Int) ≤ 256 := by omega
              go_wp2
              go_roundw
              case rel => exact ⟨i + 1, M, by omega, hM, by go_num, hoM.out, hfM.out.over hf256, hbM.out⟩
              case measure => simp [intOf]; omega
          · obtain rfl : i = k := by omega
            clear hkn hk
            go_wp2
            go_roundw
            case rel => exact ⟨i + 1, M, by omega, hM, by go_num, hoM.out, hfM.out.row (Nat.le_refl _), hbM.out⟩
            case measure => simp [intOf]; omega
      · have hf1 : ¬ ((L.length : Nat) : Int) ≤ 256 := by omega
        go_wp2
        go_ret
        exact ⟨hb.out, _, L, rfl, ho.out, hf.out.pre, hf.out.nodup, hf.out.fam, .inr (by omega)⟩
    · obtain rfl : i = L.length := by omega
      by_cases hfull : L.length ≤ 256
      · have HE := Lib.hid (hf.out.end HC.out hfull (Nat.le_refl _))
        go_wp2
        go_ret
        exact ⟨hb.out, _, L, rfl, ho.out, hf.out.pre, hf.out.nodup, hf.out.fam, .inl ⟨hfull, HE.out⟩⟩
      · go_wp2
        go_ret
        exact ⟨hb.out, _, L, rfl, ho.out, hf.out.pre, hf.out.nodup, hf.out.fam, .inr (by omega)⟩
end Go.Proofs.YtdeamdpoegdmdaaGreatDoor

/- The reference of layer 4: rows of types that are appended to. -/
namespace Go.Proofs.YtdeamdpoegdmdaaGreatDoor
open Go.RowKit Go.Maps
open S (wd Is64 Fresh bit)

/-- A type and where its code lies. -/
abbrev En := Ty × Option Addr × Nat
def encN (e : En) : List Value := [.string (mk e.1.1), .slice e.2.1 e.1.2.length e.2.2]
def flt (E : List En) : List Value := E.flatMap encN
theorem flt_nil : flt [] = [] := rfl
theorem flt_cons (e : En) (E : List En) : flt (e :: E) = .string (mk e.1.1) :: .slice e.2.1 e.1.2.length e.2.2 :: flt E := rfl
theorem flt_app (E G : List En) : flt (E ++ G) = flt E ++ flt G := by unfold flt; rw [List.flatMap_append]
theorem flt_len : ∀ E : List En, (flt E).length = E.length * 2
  | [] => rfl
  | e :: E => by rw [flt_cons, List.length_cons, List.length_cons, flt_len E, List.length_cons]; omega
theorem flt_at : ∀ (E : List En) (i : Nat) (e : En), E[i]? = some e → (flt E)[i * 2]? = some (.string (mk e.1.1)) ∧ (flt E)[i * 2 + 1]? = some (.slice e.2.1 e.1.2.length e.2.2)
  | [], i, e, h => by cases h
  | a :: E, 0, e, h => by cases h; exact ⟨rfl, rfl⟩
  | a :: E, i + 1, e, h => by
    have := flt_at E i e h
    rw [flt_cons, show (i + 1) * 2 = i * 2 + 1 + 1 by omega]
    exact this
theorem flt_one (E : List En) : ∀ u ∈ flt E, u.oneCell' = true := by
  intro u hu
  obtain ⟨e, _, h⟩ := List.mem_flatMap.1 hu
  simp only [encN, List.mem_cons, List.not_mem_nil, or_false] at h
  rcases h with rfl | rfl <;> rfl
theorem flt_split (E : List En) (k : Nat) : flt E = flt (E.take k) ++ flt (E.drop k) := by rw [← flt_app, List.take_append_drop]
/-- The entries' codes, in a world. -/
def OkN (W : World) (E : List En) : Prop := ∀ e ∈ E, Is64 W e.2.1 e.1.2.length e.2.2 e.1.2 ∧ e.1.1.length ≤ maxLen
theorem OkN.below {W W' : World} {E : List En} (h : OkN W E) (hb : Below W.heap.size W W') : OkN W' E := fun e he => ⟨(h e he).1.below hb, (h e he).2⟩
def RowN (w : World) (B : Nat) (v : Value) (E : List En) : Prop := w.ownsRow B 36 2 v E.length (flt E)
theorem RowN.below {w w' : World} {B : Nat} {v : Value} {E : List En} (h : RowN w B v E) (hb : Below w.heap.size w w') : RowN w' B v E := owns_below h hb
theorem RowN.empty (w : World) (B : Nat) : RowN w B (.slice none 0 0) [] := World.ownsRow_nil _ _ _ _
theorem RowN.form {w : World} {B : Nat} {v : Value} {E : List En} (h : RowN w B v E) : (v = .slice none 0 0 ∧ E = []) ∨ ∃ g cap, v = .slice (some ⟨g, 0, none⟩) E.length cap ∧ B ≤ g ∧ g < w.heap.size ∧ E.length ≤ cap ∧ cap ≤ maxLen := by
  obtain ⟨h1, ⟨h2, h3⟩ | ⟨g, cap, cur, hv, hB, hg, h3, h4, h5, h6⟩⟩ := h
  · exact .inl ⟨h2, List.eq_nil_of_length_eq_zero h3⟩
  · exact .inr ⟨g, cap, hv, hB, lt_of_block hg, h3, h4⟩
theorem RowN.cell {w : World} {B g cap : Nat} {E : List En} (h : RowN w B (.slice (some ⟨g, 0, none⟩) E.length cap) E) {j : Nat} {u : Value} (hu : (flt E)[j]? = some u) : w.cell? ⟨g, j, none⟩ = some u := by
  have := World.ownsRow.cells h (g := g) rfl j u hu
  rwa [show (⟨g, 0, none⟩ : Addr).add j = ⟨g, j, none⟩ by unfold Addr.add; split <;> simp_all] at this
/-- The row reads as the types. -/
theorem RowN.isTys {w : World} {B : Nat} {v : Value} {E : List En} (h : RowN w B v E) (hk : OkN w E) : ∃ a cap, v = .slice a E.length cap ∧ IsTys w a E.length cap (E.map Prod.fst) := by
  rcases h.form with ⟨rfl, rfl⟩ | ⟨g, cap, rfl, hB, hg, hc, hm⟩
  · exact ⟨none, 0, rfl, rfl, Nat.le_refl _, Nat.zero_le _, fun h => absurd h (Nat.lt_irrefl _)⟩
  · refine ⟨_, cap, rfl, by simp, hc, hm, fun _ => ⟨g, 0, rfl, hg, fun i hi => ?_⟩⟩
    have he := List.getElem?_eq_getElem hi
    obtain ⟨k0, k1⟩ := flt_at E i _ he
    have ety : ty (E.map Prod.fst) i = E[i].1 := by
      unfold ty; rw [List.getD_eq_getElem?_getD, List.getElem?_map, he]; rfl
    obtain ⟨h64, hl⟩ := hk _ (List.getElem_mem hi)
    refine ⟨E[i].2.1, E[i].2.2, ?_, ?_, ?_, ?_⟩
    · rw [ety, Nat.zero_add]; exact h.cell k0
    · rw [ety, Nat.zero_add]; exact h.cell k1
    · rw [ety]; exact h64
    · rw [ety]; exact hl

theorem ens_one (W : World) (y : Str) (c : Cd) (za : Option Addr) (zc : Nat) (t : TypeId) : ∀ j u, (flt [((y, c), za, zc)])[j]? = some u → (W.alloc (.cells #[.string (mk y), .slice za c.length zc] t)).cell? ⟨W.heap.size, 0 + j, none⟩ = some u := by
  intro j u hu
  rw [Nat.zero_add, World.cell?_alloc_new]
  rcases j with _ | _ | j
  · exact hu
  · exact hu
  · rw [flt_cons, flt_nil] at hu; simp at hu

set_option maxRecDepth 100000 in
/-- append of entries to an owned row of types. -/
theorem wpList_append_ens {w : World} {ops : Array Oper} {rest : List Oper} {o : Oper} {a : Act} {Q : Exit → Act → World → Prop} (hgd : o.guard = none) (s x : Operand)
    (ho : o.op = .call { callee := .builtin .append, args := #[s, x], argTypes := #[25, 25] })
    (base : Nat) (v : Value) (E : List En) (hs : a.eval s = v) (hown : RowN w base v E)
    (g off m c : Nat) (G : List En) (hx : a.eval x = .slice (some ⟨g, off, none⟩) m c) (hm : G.length = m) (hG : ∀ j u, (flt G)[j]? = some u → w.cell? ⟨g, off + j, none⟩ = some u) (h63 : E.length + m ≤ 1000000) (hbase : base ≤ w.heap.size)
    (h : ∀ v' w', RowN w' base v' (E ++ G) → w.grownBy w' v.ownBlock → (v'.ownBlock = v.ownBlock ∨ v'.ownBlock = some w.heap.size) → wpList Tryz.prog ops Q rest (a.put o.dst v') w') : wpList Tryz.prog ops Q (o :: rest) a w := by
  obtain ⟨i0, hi, hz0, hz1, hz2⟩ := info_parts Tryz.infoCd
  refine wpList_append_own_at w hgd s x 25 ho base 36 i0 (.agg #[.string ByteArray.empty, .slice none 0 0]) 2 40 Tryz.underlying25 hi hz0 hz1 hz2 rfl (by decide) v E.length (flt E) hs hown ⟨g, off, none⟩ m c (flt G) hx (by rw [flt_len, hm]) ?_ (flt_one G) (by unfold maxLen; omega) (by omega) hbase fun v' w' h1 h2 _ h4 => h v' w' ?_ h2 h4
  · intro j u hu
    rw [show (⟨g, off, none⟩ : Addr).add j = ⟨g, off + j, none⟩ by unfold Addr.add; split <;> simp_all]
    exact hG j u hu
  · unfold RowN
    rw [List.length_append, flt_app, hm]
    exact h1
end Go.Proofs.YtdeamdpoegdmdaaGreatDoor
