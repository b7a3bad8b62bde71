/- Texts joined by wip/gen/merge.py: Ga Gb Hr. -/
import Derived.RowKit
import Derived.Test.YtlhiiecaphibhaaProg
import Derived.WalkKit
import Derived.Deep.QuietTactic
import Derived.BigQuiet
import Derived.Lib.Hide
import Derived.Deep.RegionHeld3
import Derived.Outline
import Derived.Laws.AppendOwn
import Derived.Maps.AppendAt
import Derived.Laws.AppendOwnNone
import Derived.Laws.OwnMore
import Derived.WalkSmall
import Derived.ProofKit
import Derived.OpenShut
import Derived.Deep.Slices
set_option linter.unusedVariables false
set_option linter.unusedSimpArgs false
/- graph, plain: comparing, sorting, the traversal. -/
namespace Go.Proofs.Ytlhiiecaphibhaa

abbrev Arc := Int × Int
abbrev Nd := Int × List Arc
abbrev Gr := List Nd

/-! ### Comparing -/
def ci (a b : Int) : Int := if a < b then -1 else if b < a then 1 else 0
def orJ (x y : Int) : Int := if x = 0 then y else x
def cL {α : Type} (c : α → α → Int) : List α → List α → Int
  | [], [] => 0
  | [], _ :: _ => -1
  | _ :: _, [] => 1
  | x :: xs, y :: ys => orJ (c x y) (cL c xs ys)
def cA (x y : Arc) : Int := orJ (ci x.1 y.1) (ci x.2 y.2)
def cN (x y : Nd) : Int := orJ (orJ (ci x.1 y.1) (ci x.2.length y.2.length)) (cL cA x.2 y.2)
def cG (a b : Gr) : Int := orJ (ci a.length b.length) (cL cN a b)
def flA (x : Arc) : List Int := [x.1, x.2]
def flN (x : Nd) : List Int := x.1 :: (x.2.length : Int) :: x.2.flatMap flA
/-- The numbers of a graph, in order. -/
def nums (a : Gr) : List Int := (a.length : Int) :: a.flatMap flN
/-- How the reference compares numbers. -/
def rl : List Int → List Int → Int
  | [], _ => 0
  | _ :: _, [] => 0
  | a :: A, b :: B => orJ (ci a b) (rl A B)
/-- The order of lists. -/
def lx : List Int → List Int → Int
  | [], [] => 0
  | [], _ :: _ => -1
  | _ :: _, [] => 1
  | a :: A, b :: B => orJ (ci a b) (lx A B)
theorem orJ_assoc (a b c : Int) : orJ (orJ a b) c = orJ a (orJ b c) := by unfold orJ; split <;> simp_all
theorem orJ_zero (a : Int) : orJ a 0 = a := by unfold orJ; split <;> simp_all
section
variable (k : List Int → List Int → Int) (K : ∀ a b A B, k (a :: A) (b :: B) = orJ (ci a b) (k A B))
include K
theorem k_arcs : ∀ (xs ys : List Arc) (A B : List Int), xs.length = ys.length → k (xs.flatMap flA ++ A) (ys.flatMap flA ++ B) = orJ (cL cA xs ys) (k A B)
  | [], [], A, B, _ => by simp [cL, orJ]
  | [], _ :: _, _, _, h => by simp at h
  | _ :: _, [], _, _, h => by simp at h
  | x :: xs, y :: ys, A, B, h => by
    have ih := k_arcs xs ys A B (by simpa using h)
    rw [List.flatMap_cons, List.flatMap_cons]
    show k (x.1 :: x.2 :: (xs.flatMap flA ++ A)) (y.1 :: y.2 :: (ys.flatMap flA ++ B)) = _
    rw [K, K, ih]
    show _ = orJ (orJ (cA x y) (cL cA xs ys)) (k A B)
    unfold cA
    rw [orJ_assoc, orJ_assoc]
theorem k_node (x y : Nd) (A B : List Int) : k (flN x ++ A) (flN y ++ B) = orJ (cN x y) (k A B) := by
  show k (x.1 :: (x.2.length : Int) :: (x.2.flatMap flA ++ A)) (y.1 :: (y.2.length : Int) :: (y.2.flatMap flA ++ B)) = _
  rw [K, K]
  unfold cN
  by_cases h : x.2.length = y.2.length
  · rw [k_arcs k K _ _ _ _ h, orJ_assoc, orJ_assoc]
  · have hz : ci x.2.length y.2.length ≠ 0 := by unfold ci; split <;> (try split) <;> omega
    have e : ∀ z, orJ (ci x.2.length y.2.length) z = ci x.2.length y.2.length := fun z => by unfold orJ; rw [if_neg hz]
    rw [orJ_assoc, orJ_assoc, e, e]
theorem k_nodes : ∀ (a b : Gr), a.length = b.length → k (a.flatMap flN) (b.flatMap flN) = orJ (cL cN a b) (k [] [])
  | [], [], _ => by simp [cL, orJ]
  | [], _ :: _, h => by simp at h
  | _ :: _, [], h => by simp at h
  | x :: xs, y :: ys, h => by
    have ih := k_nodes xs ys (by simpa using h)
    rw [List.flatMap_cons, List.flatMap_cons, k_node k K, ih]
    show _ = orJ (orJ (cN x y) (cL cN xs ys)) (k [] [])
    rw [orJ_assoc]
theorem k_nums (h0 : k [] [] = 0) (a b : Gr) : k (nums a) (nums b) = cG a b := by
  unfold nums cG
  rw [K]
  by_cases h : a.length = b.length
  · rw [k_nodes k K _ _ h, h0, orJ_zero]
  · have hz : ci a.length b.length ≠ 0 := by unfold ci; split <;> (try split) <;> omega
    unfold orJ
    rw [if_neg hz, if_neg hz]
end
theorem rl_nums (a b : Gr) : rl (nums a) (nums b) = cG a b := k_nums rl (fun _ _ _ _ => rfl) rfl a b
theorem lx_nums (a b : Gr) : lx (nums a) (nums b) = cG a b := k_nums lx (fun _ _ _ _ => rfl) rfl a b
theorem ci_cases (a b : Int) : (ci a b = -1 ∧ a < b) ∨ (ci a b = 0 ∧ a = b) ∨ (ci a b = 1 ∧ b < a) := by
  unfold ci; split
  · exact .inl ⟨rfl, by assumption⟩
  · split
    · exact .inr (.inr ⟨rfl, by assumption⟩)
    · exact .inr (.inl ⟨rfl, by omega⟩)
theorem lx_range : ∀ A B, -1 ≤ lx A B ∧ lx A B ≤ 1
  | [], [] => by simp [lx]
  | [], _ :: _ => by simp [lx]
  | _ :: _, [] => by simp [lx]
  | a :: A, b :: B => by
    have ih := lx_range A B
    show -1 ≤ orJ (ci a b) (lx A B) ∧ orJ (ci a b) (lx A B) ≤ 1
    unfold orJ
    rcases ci_cases a b with ⟨e, _⟩ | ⟨e, _⟩ | ⟨e, _⟩ <;> rw [e] <;> simp [ih]
theorem lx_anti : ∀ A B, lx B A = - lx A B
  | [], [] => by simp [lx]
  | [], _ :: _ => by simp [lx]
  | _ :: _, [] => by simp [lx]
  | a :: A, b :: B => by
    have ih := lx_anti A B
    show orJ (ci b a) (lx B A) = - orJ (ci a b) (lx A B)
    rcases ci_cases a b with ⟨e, h⟩ | ⟨e, h⟩ | ⟨e, h⟩ <;> rcases ci_cases b a with ⟨e', h'⟩ | ⟨e', h'⟩ | ⟨e', h'⟩ <;> (try omega) <;> rw [e, e'] <;> simp [orJ, ih]
theorem lx_eq : ∀ {A B}, lx A B = 0 → A = B
  | [], [], _ => rfl
  | [], _ :: _, h => by simp [lx] at h
  | _ :: _, [], h => by simp [lx] at h
  | a :: A, b :: B, h => by
    have h : orJ (ci a b) (lx A B) = 0 := h
    unfold orJ at h
    rcases ci_cases a b with ⟨e, g⟩ | ⟨e, g⟩ | ⟨e, g⟩ <;> rw [e] at h <;> simp at h
    rw [g, lx_eq h]
theorem lx_self : ∀ A, lx A A = 0
  | [] => rfl
  | a :: A => by
    show orJ (ci a a) (lx A A) = 0
    rw [lx_self A]
    unfold orJ ci
    simp
theorem lx_trans : ∀ {A B C}, lx A B < 0 → lx B C < 0 → lx A C < 0
  | [], [], _, h, _ => by simp [lx] at h
  | _ :: _, [], _, h, _ => by simp [lx] at h
  | [], _ :: _, [], _, g => by simp [lx] at g
  | [], _ :: _, _ :: _, _, _ => by simp [lx]
  | _ :: _, _ :: _, [], _, g => by simp [lx] at g
  | a :: A, b :: B, c :: C, h, g => by
    have h : orJ (ci a b) (lx A B) < 0 := h
    have g : orJ (ci b c) (lx B C) < 0 := g
    show orJ (ci a c) (lx A C) < 0
    unfold orJ at h g ⊢
    rcases ci_cases a b with ⟨e, x⟩ | ⟨e, x⟩ | ⟨e, x⟩ <;> rcases ci_cases b c with ⟨e', y⟩ | ⟨e', y⟩ | ⟨e', y⟩ <;> rcases ci_cases a c with ⟨e2, z⟩ | ⟨e2, z⟩ | ⟨e2, z⟩ <;> (try omega) <;> rw [e] at h <;> rw [e'] at g <;> rw [e2] <;> simp at h g ⊢
    exact lx_trans h g
theorem cG_range (a b : Gr) : -1 ≤ cG a b ∧ cG a b ≤ 1 := by rw [← lx_nums]; exact lx_range _ _
theorem cG_anti (a b : Gr) : cG b a = - cG a b := by rw [← lx_nums, ← lx_nums]; exact lx_anti _ _
theorem cG_trans {a b c : Gr} (h : cG a b < 0) (g : cG b c < 0) : cG a c < 0 := by rw [← lx_nums] at *; exact lx_trans h g
theorem cG_self (a : Gr) : cG a a = 0 := by rw [← lx_nums]; exact lx_self _
theorem cL_eq {α : Type} {c : α → α → Int} (hc : ∀ x y, c x y = 0 → x = y) : ∀ {a b : List α}, cL c a b = 0 → a = b
  | [], [], _ => rfl
  | [], _ :: _, h => by simp [cL] at h
  | _ :: _, [], h => by simp [cL] at h
  | x :: xs, y :: ys, h => by
    have h : orJ (c x y) (cL c xs ys) = 0 := h
    unfold orJ at h
    by_cases e : c x y = 0
    · rw [if_pos e] at h
      rw [hc _ _ e, cL_eq hc h]
    · rw [if_neg e] at h
      exact absurd h e
theorem orJ_eq {x y : Int} (h : orJ x y = 0) : x = 0 ∧ y = 0 := by
  unfold orJ at h; by_cases e : x = 0
  · rw [if_pos e] at h; exact ⟨e, h⟩
  · rw [if_neg e] at h; exact absurd h e
theorem ci_eq {a b : Int} (h : ci a b = 0) : a = b := by rcases ci_cases a b with ⟨e, _⟩ | ⟨_, g⟩ | ⟨e, _⟩ <;> first | exact g | omega
theorem cA_eq (x y : Arc) (h : cA x y = 0) : x = y := by
  obtain ⟨h1, h2⟩ := orJ_eq h
  exact Prod.ext (ci_eq h1) (ci_eq h2)
theorem cN_eq (x y : Nd) (h : cN x y = 0) : x = y := by
  obtain ⟨h1, h2⟩ := orJ_eq h
  exact Prod.ext (ci_eq (orJ_eq h1).1) (cL_eq cA_eq h2)
theorem cG_eq {a b : Gr} (h : cG a b = 0) : a = b := cL_eq cN_eq (orJ_eq h).2
theorem cG_zero {a b : Gr} (h : cG a b = 0) (c : Gr) : cG b c = cG a c := by rw [cG_eq h]
theorem cG_iff (a b : Gr) : cG a b = 0 ↔ a = b := ⟨cG_eq, fun h => h ▸ cG_self a⟩

/-! ### Sorting -/
def insA (a : Arc) : List Arc → List Arc
  | [] => [a]
  | b :: l => if a.1 ≤ b.1 then a :: b :: l else b :: insA a l
def srt (l : List Arc) : List Arc := l.foldr insA []
abbrev Asc (l : List Arc) : Prop := l.Pairwise (fun x y => x.1 ≤ y.1)
/-- The features differ. -/
abbrev Dif (l : List Arc) : Prop := (l.map Prod.fst).Nodup
theorem insA_perm (a : Arc) : ∀ l, (insA a l).Perm (a :: l)
  | [] => .refl _
  | b :: l => by
    unfold insA
    split
    · exact .refl _
    · exact ((insA_perm a l).cons b).trans (.swap a b l)
theorem srt_perm : ∀ l, (srt l).Perm l
  | [] => .refl _
  | a :: l => (insA_perm a (srt l)).trans ((srt_perm l).cons a)
theorem insA_asc (a : Arc) : ∀ {l}, Asc l → Asc (insA a l)
  | [], _ => List.pairwise_singleton _ _
  | b :: l, h => by
    unfold insA
    have h1 : ∀ {y : Arc}, y ∈ l → b.1 ≤ y.1 := fun hy => (List.pairwise_cons.1 h).1 _ hy
    split
    · rename_i g
      refine List.pairwise_cons.2 ⟨fun y hy => ?_, h⟩
      rcases List.mem_cons.1 hy with rfl | hy
      · exact g
      · exact Int.le_trans g (h1 hy)
    · rename_i g
      refine List.pairwise_cons.2 ⟨fun y hy => ?_, insA_asc a (List.pairwise_cons.1 h).2⟩
      rcases List.mem_cons.1 ((insA_perm a l).mem_iff.1 hy) with rfl | hy
      · omega
      · exact h1 hy
theorem srt_asc : ∀ l, Asc (srt l)
  | [] => List.Pairwise.nil
  | a :: l => insA_asc a (srt_asc l)
theorem srt_len (l : List Arc) : (srt l).length = l.length := (srt_perm l).length_eq
theorem srt_dif {l : List Arc} (h : Dif l) : Dif (srt l) := ((srt_perm l).map Prod.fst).nodup_iff.2 h
theorem dif_inj {l : List Arc} (h : Dif l) {x y : Arc} (hx : x ∈ l) (hy : y ∈ l) (e : x.1 = y.1) : x = y := by
  induction l with
  | nil => cases hx
  | cons a l ih =>
    have h2 := List.nodup_cons.1 (show (a.1 :: l.map Prod.fst).Nodup from h)
    rcases List.mem_cons.1 hx with rfl | hx' <;> rcases List.mem_cons.1 hy with rfl | hy'
    · rfl
    · exact absurd (e ▸ List.mem_map_of_mem hy') h2.1
    · exact absurd (e ▸ List.mem_map_of_mem hx') h2.1
    · exact ih h2.2 hx' hy'
/-- A sorted list of the same arcs is the sorted list, if the features differ. -/
theorem asc_unique {l m : List Arc} (hp : l.Perm m) (hl : Asc l) (hm : Asc m) (hd : Dif l) : l = m := by
  refine List.Perm.eq_of_pairwise (fun x y hx hy h1 h2 => dif_inj hd hx (hp.mem_iff.2 hy) ?_) hl hm hp
  exact Int.le_antisymm h1 h2
theorem srt_of {l m : List Arc} (hp : m.Perm l) (hm : Asc m) (hd : Dif l) : m = srt l :=
  asc_unique (hp.trans (srt_perm l).symm) hm (srt_asc l) ((hp.map Prod.fst).nodup_iff.2 hd)
theorem srt_self {l : List Arc} (hm : Asc l) (hd : Dif l) : srt l = l := (srt_of (.refl l) hm hd).symm
theorem srt_congr {l m : List Arc} (hp : m.Perm l) (hd : Dif l) : srt m = srt l :=
  srt_of ((srt_perm m).trans hp) (srt_asc m) hd

/-! ### The traversal -/
/-- The stack s and the visited nodes v end with the visited nodes r. -/
inductive Dfs (sc : Nat → List Nat) : List Nat → List Nat → List Nat → Prop
  | done (v) : Dfs sc [] v v
  | skip {n s v r} : n ∈ v → Dfs sc s v r → Dfs sc (n :: s) v r
  | step {n s v r} : n ∉ v → Dfs sc (sc n ++ s) (v ++ [n]) r → Dfs sc (n :: s) v r
namespace Dfs
variable {sc : Nat → List Nat}
theorem det {s v r} (h : Dfs sc s v r) : ∀ {q}, Dfs sc s v q → r = q := by
  induction h with
  | done v => intro q g; cases g; rfl
  | skip hn _ ih => intro q g; cases g with
    | skip _ g => exact ih g
    | step hn' _ => exact absurd hn hn'
  | step hn _ ih => intro q g; cases g with
    | skip hn' _ => exact absurd hn' hn
    | step _ g => exact ih g
theorem app {s v r} (h : Dfs sc s v r) : ∀ {t q}, Dfs sc t r q → Dfs sc (s ++ t) v q := by
  induction h with
  | done v => intro t q g; exact g
  | skip hn _ ih => intro t q g; exact .skip hn (ih g)
  | step hn _ ih => intro t q g; exact .step hn (by have := ih g; rwa [List.append_assoc] at this)
theorem pre {s v r} (h : Dfs sc s v r) : ∃ e, r = v ++ e := by
  induction h with
  | done v => exact ⟨[], by simp⟩
  | skip _ _ ih => exact ih
  | step _ _ ih => obtain ⟨e, rfl⟩ := ih; exact ⟨_, by rw [List.append_assoc]⟩
theorem sub {s v r} (h : Dfs sc s v r) {x} (hx : x ∈ v) : x ∈ r := by
  obtain ⟨e, rfl⟩ := h.pre
  exact List.mem_append_left _ hx
theorem nodup {s v r} (h : Dfs sc s v r) : v.Nodup → r.Nodup := by
  induction h with
  | done v => exact id
  | skip _ _ ih => exact ih
  | step hn _ ih => exact fun g => ih (List.nodup_append.2 ⟨g, by simp, fun a ha b hb => by simp at hb; subst hb; exact fun e => hn (e ▸ ha)⟩)
theorem stack {s v r} (h : Dfs sc s v r) : ∀ x ∈ s, x ∈ r := by
  induction h with
  | done v => intro x hx; cases hx
  | skip hn g ih => intro x hx; rcases List.mem_cons.1 hx with rfl | hx
                    · exact g.sub hn
                    · exact ih x hx
  | step hn g ih => intro x hx; rcases List.mem_cons.1 hx with rfl | hx
                    · exact g.sub (by simp)
                    · exact ih x (List.mem_append_right _ hx)
theorem closed {s v r} (h : Dfs sc s v r) : (∀ x ∈ v, ∀ y ∈ sc x, y ∈ v ∨ y ∈ s) → ∀ x ∈ r, ∀ y ∈ sc x, y ∈ r := by
  induction h with
  | done v => intro g x hx y hy; rcases g x hx y hy with h | h
              · exact h
              · cases h
  | skip hn _ ih => intro g; refine ih fun x hx y hy => ?_
                    rcases g x hx y hy with h | h
                    · exact .inl h
                    · rcases List.mem_cons.1 h with rfl | h
                      · exact .inl hn
                      · exact .inr h
  | step hn _ ih => intro g; refine ih fun x hx y hy => ?_
                    rcases List.mem_append.1 hx with hx | hx
                    · rcases g x hx y hy with h | h
                      · exact .inl (List.mem_append_left _ h)
                      · rcases List.mem_cons.1 h with rfl | h
                        · exact .inl (by simp)
                        · exact .inr (List.mem_append_right _ h)
                    · simp at hx; subst hx
                      exact .inr (List.mem_append_left _ hy)
theorem least {s v r} (h : Dfs sc s v r) (S : Nat → Prop) (hS : ∀ x, S x → ∀ y ∈ sc x, S y) : (∀ x ∈ v, S x) → (∀ x ∈ s, S x) → ∀ x ∈ r, S x := by
  induction h with
  | done v => exact fun g _ => g
  | skip hn _ ih => exact fun g k => ih g fun x hx => k x (List.mem_cons_of_mem _ hx)
  | @step n s v r hn _ ih =>
    intro g k
    have hnS := k n (List.mem_cons_self)
    refine ih (fun x hx => ?_) (fun x hx => ?_)
    · rcases List.mem_append.1 hx with hx | hx
      · exact g x hx
      · simp at hx; subst hx; exact hnS
    · rcases List.mem_append.1 hx with hx | hx
      · exact hS n hnS x hx
      · exact k x (List.mem_cons_of_mem _ hx)
/-- Every node but the first is led to by an earlier one. -/
def Led (sc : Nat → List Nat) (v : List Nat) : Prop := ∀ j y, v[j + 1]? = some y → ∃ i x, i ≤ j ∧ v[i]? = some x ∧ y ∈ sc x
theorem led {s v r} (h : Dfs sc s v r) : Led sc v → (∀ y ∈ s, v = [] ∨ ∃ x ∈ v, y ∈ sc x) → (v = [] → s.length ≤ 1) → Led sc r := by
  induction h with
  | done v => exact fun g _ _ => g
  | @skip n s v r hn _ ih => exact fun g k l => ih g (fun y hy => k y (List.mem_cons_of_mem _ hy)) (fun e => by subst e; cases hn)
  | @step n s v r hn _ ih =>
    intro g k l
    refine ih ?_ ?_ (fun e => by simp at e)
    · intro j y hy
      rcases Nat.lt_or_ge (j + 1) v.length with hj | hj
      · rw [List.getElem?_append_left hj] at hy
        obtain ⟨i, x, hi, hx, hxy⟩ := g j y hy
        exact ⟨i, x, hi, by rw [List.getElem?_append_left (by omega)]; exact hx, hxy⟩
      · rw [List.getElem?_append_right hj] at hy
        have hj0 : j + 1 = v.length := by
          have := (List.getElem?_eq_some_iff.1 hy).1
          simp at this; omega
        rw [show j + 1 - v.length = 0 by omega] at hy
        obtain rfl : n = y := by simpa using hy
        rcases k n List.mem_cons_self with e | ⟨x, hx, hxy⟩
        · subst e; simp at hj0
        · obtain ⟨i, hi, e⟩ := List.getElem_of_mem hx
          exact ⟨i, x, by omega, by rw [List.getElem?_append_left hi, List.getElem?_eq_getElem hi, e], hxy⟩
    · intro y hy
      refine .inr ?_
      rcases List.mem_append.1 hy with hy | hy
      · exact ⟨n, by simp, hy⟩
      · rcases k y (List.mem_cons_of_mem _ hy) with e | ⟨x, hx, hxy⟩
        · have := l e
          have : s = [] := by cases s <;> simp_all
          subst this; cases hy
        · exact ⟨x, List.mem_append_left _ hx, hxy⟩
theorem map {s v r} (h : Dfs sc s v r) {sc' : Nat → List Nat} (σ : Nat → Nat) : (∀ x ∈ r, ∀ y ∈ r, σ x = σ y → x = y) → (∀ x ∈ r, sc' (σ x) = (sc x).map σ) → Dfs sc' (s.map σ) (v.map σ) (r.map σ) := by
  induction h with
  | done v => exact fun _ _ => .done _
  | skip hn g ih => exact fun i k => .skip (List.mem_map_of_mem hn) (ih i k)
  | @step n s v r hn g ih =>
    intro i k
    have hnr : n ∈ r := g.sub (by simp)
    refine .step (fun hm => ?_) ?_
    · obtain ⟨x, hx, e⟩ := List.mem_map.1 hm
      have hxr : x ∈ r := g.sub (List.mem_append_left _ hx)
      exact hn (i x hxr n hnr e ▸ hx)
    · rw [k n hnr]
      have := ih i k
      simpa using this
end Dfs
end Go.Proofs.Ytlhiiecaphibhaa

/- graph: graphs in memory; Light. -/
namespace Go.Proofs.Ytlhiiecaphibhaa
open Go.RowKit

theorem ba (w : World) (o : Obj) : Below w.heap.size w (w.alloc o) := (Below.refl _ w).alloc (Nat.le_refl _) o
theorem lt_of_block {w : World} {b : Nat} {o : Obj} (h : w.heap[b]? = some o) : b < w.heap.size := by
  have := (Array.getElem?_eq_some_iff.1 h).1; exact this
def ar (L : List Arc) (i : Nat) : Arc := L.getD i (0, 0)
theorem ar_get {L : List Arc} {i : Nat} (h : i < L.length) : L[i]? = some (ar L i) := by
  unfold ar; rw [List.getD_eq_getElem?_getD, List.getElem?_eq_getElem h]; rfl
theorem ar_mem {L : List Arc} {i : Nat} (h : i < L.length) : ar L i ∈ L := List.mem_of_getElem? (ar_get h)
/-- The numbers of an int. -/
def R64 (x : Int) : Prop := -9223372036854775808 ≤ x ∧ x ≤ 9223372036854775807
/-- A slice of arcs that reads as a list. -/
structure IsArcs (w : World) (a : Option Addr) (n cap : Nat) (L : List Arc) : Prop where
  len : L.length = n
  capLe : n ≤ cap
  maxLe : cap ≤ maxLen
  nil_ : a = none → cap = 0
  rng : ∀ x ∈ L, R64 x.1
  at_ : 0 < n → ∃ b off, a = some ⟨b, off, none⟩ ∧ b < w.heap.size ∧ ∀ i, i < n → w.cell? ⟨b, off + i * 2, none⟩ = some (.int .i64 (ar L i).1) ∧ w.cell? ⟨b, off + i * 2 + 1, none⟩ = some (.int .i64 (ar L i).2)
theorem IsArcs.below {w w' : World} {a : Option Addr} {n cap : Nat} {L : List Arc} (h : IsArcs w a n cap L) (hb : Below w.heap.size w w') : IsArcs w' a n cap L :=
  ⟨h.len, h.capLe, h.maxLe, h.nil_, h.rng, fun h0 => by
    obtain ⟨b, off, e, hl, hx⟩ := h.at_ h0
    exact ⟨b, off, e, Nat.lt_of_lt_of_le hl hb.size, fun i hi => ⟨(hb.cell (p := ⟨b, off + i * 2, none⟩) hl).trans (hx i hi).1, (hb.cell (p := ⟨b, off + i * 2 + 1, none⟩) hl).trans (hx i hi).2⟩⟩⟩
theorem IsArcs.nil (w : World) : IsArcs w none 0 0 [] := ⟨rfl, Nat.le_refl _, Nat.zero_le _, fun _ => rfl, (fun _ h => by cases h), fun h => absurd h (Nat.lt_irrefl _)⟩
def nd (F : Gr) (i : Nat) : Nd := F.getD i (0, [])
theorem nd_get {F : Gr} {i : Nat} (h : i < F.length) : F[i]? = some (nd F i) := by
  unfold nd; rw [List.getD_eq_getElem?_getD, List.getElem?_eq_getElem h]; rfl
theorem nd_mem {F : Gr} {i : Nat} (h : i < F.length) : nd F i ∈ F := List.mem_of_getElem? (nd_get h)
/-- A node at a place in memory. -/
structure NdAt (w : World) (b o : Nat) (x : Nd) (xa : Option Addr) (xc : Nat) : Prop where
  c0 : w.cell? ⟨b, o, none⟩ = some (.int .i64 x.1)
  c1 : w.cell? ⟨b, o + 1, none⟩ = some (.slice xa x.2.length xc)
  is : IsArcs w xa x.2.length xc x.2
theorem NdAt.below {w w' : World} {b o : Nat} {x : Nd} {xa : Option Addr} {xc : Nat} (h : NdAt w b o x xa xc) (hl : b < w.heap.size) (hb : Below w.heap.size w w') : NdAt w' b o x xa xc :=
  ⟨(hb.cell (p := ⟨b, o, none⟩) hl).trans h.c0, (hb.cell (p := ⟨b, o + 1, none⟩) hl).trans h.c1, h.is.below hb⟩
/-- A slice of nodes that reads as a graph. -/
structure IsG (w : World) (a : Option Addr) (n cap : Nat) (F : Gr) : Prop where
  len : F.length = n
  capLe : n ≤ cap
  maxLe : cap ≤ maxLen
  nil_ : a = none → cap = 0
  at_ : 0 < n → ∃ b off, a = some ⟨b, off, none⟩ ∧ b < w.heap.size ∧ ∀ i, i < n → ∃ xa xc, NdAt w b (off + i * 2) (nd F i) xa xc
theorem IsG.below {w w' : World} {a : Option Addr} {n cap : Nat} {F : Gr} (h : IsG w a n cap F) (hb : Below w.heap.size w w') : IsG w' a n cap F :=
  ⟨h.len, h.capLe, h.maxLe, h.nil_, fun h0 => by
    obtain ⟨b, off, e, hl, hx⟩ := h.at_ h0
    refine ⟨b, off, e, Nat.lt_of_lt_of_le hl hb.size, fun i hi => ?_⟩
    obtain ⟨xa, xc, hd⟩ := hx i hi
    exact ⟨xa, xc, hd.below hl hb⟩⟩
theorem IsG.nil (w : World) : IsG w none 0 0 [] := ⟨rfl, Nat.le_refl _, Nat.zero_le _, fun _ => rfl, fun h => absurd h (Nat.lt_irrefl _)⟩
theorem box_cell (w : World) (v : Value) (t : TypeId) : (w.alloc (.cells #[v] t)).cell? ⟨w.heap.size, 0, none⟩ = some v := (World.cell?_alloc_new w #[v] t 0).trans rfl

/-! ### Light -/
def lite (F : Gr) : Bool := if 12 < F.length then false else if F.any (fun x => decide (12 < x.2.length)) then false else true
theorem lite_long {F : Gr} (h : 12 < F.length) : lite F = false := by unfold lite; rw [if_pos h]
theorem lite_bad {F : Gr} {i : Nat} (h : ¬ 12 < F.length) (hi : i < F.length) (hb : 12 < (nd F i).2.length) : lite F = false := by
  unfold lite
  rw [if_neg h, if_pos]
  rw [List.any_eq_true]
  exact ⟨nd F i, nd_mem hi, by simpa using hb⟩
theorem mem_nd {F : Gr} {x : Nd} (h : x ∈ F) : ∃ i, i < F.length ∧ nd F i = x := by
  obtain ⟨i, hi, e⟩ := List.getElem_of_mem h
  refine ⟨i, hi, ?_⟩
  have := nd_get hi
  rw [List.getElem?_eq_getElem hi, e] at this
  exact (Option.some.inj this).symm
theorem lite_fine {F : Gr} (h : ¬ 12 < F.length) (hb : ∀ i, i < F.length → ¬ 12 < (nd F i).2.length) : lite F = true := by
  unfold lite
  rw [if_neg h, if_neg]
  rw [List.any_eq_true]
  rintro ⟨d, hd, he⟩
  obtain ⟨i, hi, rfl⟩ := mem_nd hd
  have h2 := hb i hi
  simp at he
  omega
theorem lite_iff (F : Gr) : lite F = true ↔ F.length ≤ 12 ∧ ∀ x ∈ F, x.2.length ≤ 12 := by
  unfold lite
  constructor
  · intro h
    split at h
    · cases h
    · split at h
      · cases h
      · rename_i h1 h2
        refine ⟨by omega, fun x hx => ?_⟩
        have : ¬ (F.any (fun x => decide (12 < x.2.length)) = true) := h2
        rw [List.any_eq_true] at this
        have h3 : ¬ 12 < x.2.length := fun g => this ⟨x, hx, by simpa using g⟩
        omega
  · rintro ⟨h1, h2⟩
    rw [if_neg (by omega), if_neg]
    rw [List.any_eq_true]
    rintro ⟨x, hx, he⟩
    have := h2 x hx
    simp at he
    omega

set_option maxRecDepth 100000 in
theorem Light_any (w : World) (a : Option Addr) (n cap : Nat) (F : Gr) (h : IsG w a n cap F) :
    Calls Try.prog 17 #[.agg #[.slice a n cap]] w fun e w' => e = .returned (.bool (lite F)) ∧ Below w.heap.size w w' := by
  have hm := h.maxLe
  have hc := h.capLe
  have hl := h.len
  unfold maxLen at hm
  by_cases hbig : 12 < n
  · have hr : Hid (lite F = false) := lite_long (by omega)
    clear h hl
    go_enter Try.func17, Try.ntmps17
    go_wp2
    go_ret
    exact ⟨by rw [hr.out]; rfl, ba _ _⟩
  obtain ⟨W, hW⟩ : ∃ W, w.alloc (.cells #[.slice a n cap] 25) = W := ⟨_, rfl⟩
  have B := Lib.hid (show Below w.heap.size w W from hW ▸ ba w _)
  have hbox : W.cell? ⟨w.heap.size, 0, none⟩ = some (.slice a n cap) := hW ▸ box_cell w _ _
  have H := Lib.hid (h.below B.out)
  have HL := Lib.hid hl
  clear h hl
  go_enter Try.func17, Try.ntmps17
  go_wp2
  try rw [hW]
  clear hW
  go_loop [3] (fun v => ∃ k : Nat, k ≤ n ∧ v = .int .i64 k ∧ Hid (∀ i, i < k → ¬ 12 < (nd F i).2.length)) (fun v => n - (intOf v).toNat)
  case atStart => exact ⟨0, Nat.zero_le _, rfl, fun i hi => absurd hi (Nat.not_lt_zero _)⟩
  case round =>
    obtain ⟨k, hk, rfl, hall⟩ := hrel
    by_cases hlt : k < n
    · obtain ⟨b, off, rfl, hbl, hx⟩ := H.out.at_ (by omega)
      obtain ⟨xa, xc, hd⟩ := hx k hlt
      have c1 := hd.c1
      have hs1 := hd.is.capLe
      have hs2 := hd.is.maxLe
      unfold maxLen at hs2
      have HBAD := Lib.hid (fun g => lite_bad (F := F) (i := k) (by rw [HL.out]; omega) (by rw [HL.out]; exact hlt) g)
      obtain ⟨sl, hsl⟩ : ∃ m, (nd F k).2.length = m := ⟨_, rfl⟩
      rw [hsl] at c1 hs1
      have HSL := Lib.hid hsl
      clear hd hx hsl
      by_cases g1 : 12 < sl
      · have hr : Hid (lite F = false) := HBAD.out (by rw [HSL.out]; exact g1)
        go_wp2
        go_ret
        exact ⟨by rw [hr.out]; rfl, B.out⟩
      · have hall' : Hid (∀ i, i < k + 1 → ¬ 12 < (nd F i).2.length) := fun i hi => by
          rcases Nat.lt_succ_iff_lt_or_eq.1 hi with e | e
          · exact hall.out i e
          · rw [e, HSL.out]; exact g1
        clear hall
        go_wp2
        go_round
        case rel => exact ⟨k + 1, by omega, by go_num, hall'⟩
        case measure => simp [intOf]; omega
    · obtain rfl : n = k := by omega
      have hr : Hid (lite F = true) := lite_fine (by rw [HL.out]; exact hbig) (fun i hi => hall.out i (by rw [HL.out] at hi; exact hi))
      clear hall
      go_wp2
      go_ret
      exact ⟨by rw [hr.out]; rfl, B.out⟩
end Go.Proofs.Ytlhiiecaphibhaa

/- What arguments of the laws of graph read as: graphs. -/
namespace Go.Proofs.Ytlhiiecaphibhaa
open Go.RowKit Go.ChangeShapes Go.WideShapes Go.Deep

theorem add_none (b off i : Nat) : (⟨b, off, none⟩ : Addr).add i = ⟨b, off + i, none⟩ := by unfold Addr.add; split <;> simp_all
theorem R64_wf {x : Int} (h : (Lit.int .i64 x).wf = true) : R64 x := by
  simp [Lit.wf, IntKind.min, IntKind.max, IntKind.bits, IntKind.signed] at h
  unfold R64; omega

section
variable {H : Type} {enc : TypeId × Value → H} {W : World} {spare : Nat → Bool} {held : Bool}
set_option maxRecDepth 100000 in
theorem trod_arcs {fuel : Nat} {v : Value} {x : DataW H × List MemPlace} (h : DataW.trod enc Try.prog W 0 spare held fuel 41 [v] = some x) : ∃ a n cap L, v = .slice a n cap ∧ IsArcs W a n cap L := by
  rcases open_slice Try.underlying41 h with ⟨hcs, _⟩ | ⟨a, len, cap, m, n, D, Pl, hcs, _, hl, hm, hmm, _, hi⟩
  · injection hcs with e _
    exact ⟨none, 0, 0, [], e, IsArcs.nil _⟩
  · injection hcs with e _
    have hlm : len ≤ m := by rw [hmm]; split <;> omega
    have hk : Try.prog.cellsOf 45 = 2 := by kernel_rfl
    have hd : ∀ i, i < len → ∃ d : Arc, R64 d.1 ∧ W.cell? (a.add (i * 2)) = some (.int .i64 d.1) ∧ W.cell? (a.add (i * 2 + 1)) = some (.int .i64 d.2) := fun i h => by
      obtain ⟨cs', hc, ht⟩ := hi i (by omega)
      rw [hk] at hc
      obtain ⟨_, hcl, hat⟩ := World.cells?_some hc
      obtain ⟨ys, n', _, _, _, hyl, hf⟩ := DataW.trod_struct Try.underlying45 ht
      match cs', hcl with
      | [c0, c1], _ =>
        match ys, hyl with
        | [y0, y1], _ =>
          have g0 := hf 0 _ rfl
          have g1 := hf 1 _ rfl
          have t0 : DataW.trod enc Try.prog W 0 spare held n' 3 [c0] = some y0 := g0
          have t1 : DataW.trod enc Try.prog W 0 spare held n' 3 [c1] = some y1 := g1
          obtain ⟨z0, e0, _, q0⟩ := DataW.trod_int Try.underlying3 t0
          obtain ⟨z1, e1, _, _⟩ := DataW.trod_int Try.underlying3 t1
          injection e0 with e0 _
          injection e1 with e1 _
          have a0 := hat 0 (by decide)
          have a1 := hat 1 (by decide)
          rw [Go.Deep.add_add] at a0 a1
          exact ⟨(z0, z1), R64_wf q0, by rw [← e0]; exact a0, by rw [← e1]; exact a1⟩
    obtain ⟨f, hf⟩ : ∃ f : Nat → Arc, ∀ i, i < len → R64 (f i).1 ∧ W.cell? (a.add (i * 2)) = some (.int .i64 (f i).1) ∧ W.cell? (a.add (i * 2 + 1)) = some (.int .i64 (f i).2) :=
      choose_lt (α := Arc) (p := fun i d => R64 d.1 ∧ W.cell? (a.add (i * 2)) = some (.int .i64 d.1) ∧ W.cell? (a.add (i * 2 + 1)) = some (.int .i64 d.2)) hd
    have hst : ∀ i, i < len → ar ((List.range len).map f) i = f i := fun i hi => by
      unfold ar
      rw [List.getD_eq_getElem?_getD, List.getElem?_map, List.getElem?_range hi]; rfl
    refine ⟨some a, len, cap, (List.range len).map f, e, by simp, hl, hm, (fun e => by cases e), fun z hz => ?_, fun h0 => ?_⟩
    · obtain ⟨i, hi, rfl⟩ := List.mem_map.1 hz
      exact (hf i (List.mem_range.1 hi)).1
    · obtain ⟨b, off, spot⟩ := a
      have hspot : spot = none := by
        have := World.cell?_spot (hf 0 h0).2.1
        simpa [Addr.add] using this
      subst hspot
      refine ⟨b, off, rfl, ?_, fun i hi => ?_⟩
      · have := World.block_lt_of_cell? W _ (hf 0 h0).2.1
        simpa [Addr.add] using this
      · obtain ⟨_, h1, h2⟩ := hf i hi
        rw [hst i hi]
        rw [add_none] at h1 h2
        exact ⟨h1, by rw [Nat.add_assoc]; exact h2⟩
set_option maxRecDepth 100000 in
theorem trod_nodes {fuel : Nat} {v : Value} {x : DataW H × List MemPlace} (h : DataW.trod enc Try.prog W 0 spare held fuel 23 [v] = some x) : ∃ a n cap F, v = .slice a n cap ∧ IsG W a n cap F := by
  rcases open_slice Try.underlying23 h with ⟨hcs, _⟩ | ⟨a, len, cap, m, n, D, Pl, hcs, _, hl, hm, hmm, _, hi⟩
  · injection hcs with e _
    exact ⟨none, 0, 0, [], e, IsG.nil _⟩
  · injection hcs with e _
    have hlm : len ≤ m := by rw [hmm]; split <;> omega
    have hk : Try.prog.cellsOf 43 = 2 := by kernel_rfl
    have hd : ∀ i, i < len → ∃ (d : Nd) (xa : Option Addr) (xc : Nat), W.cell? (a.add (i * 2)) = some (.int .i64 d.1) ∧ W.cell? (a.add (i * 2 + 1)) = some (.slice xa d.2.length xc) ∧ IsArcs W xa d.2.length xc d.2 := fun i h => by
      obtain ⟨cs', hc, ht⟩ := hi i (by omega)
      rw [hk] at hc
      obtain ⟨_, hcl, hat⟩ := World.cells?_some hc
      obtain ⟨ys, n', _, _, _, hyl, hf⟩ := DataW.trod_struct Try.underlying43 ht
      match cs', hcl with
      | [c0, c1], _ =>
        match ys, hyl with
        | [y0, y1], _ =>
          have g0 := hf 0 _ rfl
          have g1 := hf 1 _ rfl
          have t0 : DataW.trod enc Try.prog W 0 spare held n' 3 [c0] = some y0 := g0
          have t1 : DataW.trod enc Try.prog W 0 spare held n' 41 [c1] = some y1 := g1
          obtain ⟨z0, e0, _, q0⟩ := DataW.trod_int Try.underlying3 t0
          injection e0 with e0 _
          obtain ⟨xa, xn, xc, L, e1, hL⟩ := trod_arcs t1
          have a0 := hat 0 (by decide)
          have a1 := hat 1 (by decide)
          rw [Go.Deep.add_add] at a0 a1
          have hsl := hL.len
          subst hsl
          exact ⟨(z0, L), xa, xc, by rw [← e0]; exact a0, by rw [← e1]; exact a1, hL⟩
    obtain ⟨f, hf⟩ : ∃ f : Nat → Nd, ∀ i, i < len → ∃ (xa : Option Addr) (xc : Nat), W.cell? (a.add (i * 2)) = some (.int .i64 (f i).1) ∧ W.cell? (a.add (i * 2 + 1)) = some (.slice xa (f i).2.length xc) ∧ IsArcs W xa (f i).2.length xc (f i).2 :=
      choose_lt (α := Nd) (p := fun i d => ∃ (xa : Option Addr) (xc : Nat), W.cell? (a.add (i * 2)) = some (.int .i64 d.1) ∧ W.cell? (a.add (i * 2 + 1)) = some (.slice xa d.2.length xc) ∧ IsArcs W xa d.2.length xc d.2) hd
    have hst : ∀ i, i < len → nd ((List.range len).map f) i = f i := fun i hi => by
      unfold nd
      rw [List.getD_eq_getElem?_getD, List.getElem?_map, List.getElem?_range hi]; rfl
    refine ⟨some a, len, cap, (List.range len).map f, e, by simp, hl, hm, (fun e => by cases e), fun h0 => ?_⟩
    obtain ⟨b, off, spot⟩ := a
    obtain ⟨_, _, c00, _⟩ := hf 0 h0
    have hspot : spot = none := by
      have := World.cell?_spot c00
      simpa [Addr.add] using this
    subst hspot
    refine ⟨b, off, rfl, ?_, fun i hi => ?_⟩
    · have := World.block_lt_of_cell? W _ c00
      simpa [Addr.add] using this
    · obtain ⟨xa, xc, h1, h2, h3⟩ := hf i hi
      refine ⟨xa, xc, ?_⟩
      rw [hst i hi]
      rw [add_none] at h1 h2
      exact ⟨h1, by rw [Nat.add_assoc]; exact h2, h3⟩
set_option maxRecDepth 100000 in
/-- An argument that is a graph. -/
theorem trod_G {r : Reach} {b0 : Nat} {v : Value} {d : DataW H} {ps : List MemPlace} (hval : Value.okWide Try.prog W r b0 25 v) (h : DataW.Trod enc Try.prog W 0 spare held 25 v d ps) : ∃ a n cap F, v = .agg #[.slice a n cap] ∧ IsG W a n cap F := by
  obtain ⟨cs, rfl, hsz⟩ := okWide_struct Try.underlying25 hval
  have hk : Try.prog.cellsOf 25 = 1 := by kernel_rfl
  rw [hk] at hsz
  obtain ⟨fuel, hf⟩ := h
  obtain ⟨ys, n', _, _, _, hyl, hg⟩ := DataW.trod_struct Try.underlying25 hf
  match ys, hyl with
  | [y0], _ =>
    obtain ⟨c0, rfl⟩ : ∃ c0, cs = #[c0] := by
      cases cs with
      | mk l => match l, hsz with
        | [c0], _ => exact ⟨c0, rfl⟩
    have g0 := hg 0 _ rfl
    have t0 : DataW.trod enc Try.prog W 0 spare held n' 23 [c0] = some y0 := g0
    obtain ⟨a, n, cap, F, rfl, hF⟩ := trod_nodes t0
    exact ⟨a, n, cap, F, rfl, hF⟩
end
theorem Txt.own : ownKnob Try.prog.godebug = none := by kernel_rfl
theorem Txt.laidOut : laidOutB Try.prog = true := by kernel_rfl
end Go.Proofs.Ytlhiiecaphibhaa
