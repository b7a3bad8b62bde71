/- Walks of package poset: downward. -/
import Derived.Test.YtmhbblehgckelaaPs
namespace Go.Proofs.Ytmhbblehgckelaa
open Go.RowKit Go.Maps

/-- The bound of a map is the number of its keys. -/
theorem map_tight {w : World} {b n : Nat} {M : DataW Value} (h : w.ownsMap Try.prog 9 raw b n M) : w.ownsMap Try.prog 9 raw b (Maps.size M) M := by
  obtain ⟨es, clock, hb, F, hs, rfl⟩ := h
  refine ⟨es, clock, hb, F, ?_, rfl⟩
  rw [size_eq, length_sorted]; simp
theorem map_size {w : World} {b n : Nat} {M : DataW Value} (h : w.ownsMap Try.prog 9 raw b n M) : Maps.size M ≤ n := h.size_le
theorem map_again {w w' : World} {b n : Nat} {M : DataW Value} {x : Str} {v : Value} (h : w.ownsMap Try.prog 9 raw b n M) (hx : mhas M x = true) {n' : Nat} (h' : w'.ownsMap Try.prog 9 raw b n' (mput M x v)) : w'.ownsMap Try.prog 9 raw b n (mput M x v) := by
  refine (map_tight h').mono ?_
  unfold mput
  rw [size_put (h.tidy lawS)]
  have hx2 : Maps.has M (.string x) = true := hx
  rw [if_pos hx2]
  exact h.size_le

/-- A map whose lists lie in rows of the call's own, each in its own. -/
structure OwnsM (w : World) (B mb n : Nat) (N : List Str) (f : Str → List Str) (M : DataW Value) : Prop where
  map : w.ownsMap Try.prog 9 raw mb n M
  has : ∀ x, mhas M x = inS N x
  row : ∀ x, w.ownsRow B 9 1 (mget M x (.slice none 0 0)) (f x).length (svals (f x))
  apart : ∀ x y g, x ≠ y → (mget M x (.slice none 0 0)).ownBlock = some g → (mget M y (.slice none 0 0)).ownBlock ≠ some g
theorem OwnsM.alloc {w : World} {B mb n : Nat} {N : List Str} {f : Str → List Str} {M : DataW Value} (h : OwnsM w B mb n N f M) (o : Obj) : OwnsM (w.alloc o) B mb n N f M :=
  ⟨h.map.alloc o, h.has, fun x => (h.row x).alloc o, h.apart⟩
/-- One list grows by append. -/
theorem OwnsM.step {w w3 w4 : World} {B mb n n' : Nat} {N : List Str} {f f' : Str → List Str} {M : DataW Value} (hB : mb < B) (h : OwnsM w B mb n N f M) {x : Str} (hx : mhas M x = true) {v' : Value} {zs : List Str}
    (hrow : w3.ownsRow B 9 1 v' zs.length (svals zs)) (hg3 : w.grownBy w3 (mget M x (.slice none 0 0)).ownBlock) (hloc : v'.ownBlock = (mget M x (.slice none 0 0)).ownBlock ∨ v'.ownBlock = some w.heap.size)
    (hm4 : w4.ownsMap Try.prog 9 raw mb n' (mput M x v')) (hg4 : w3.grownBy w4 (some mb)) (hf : ∀ y, f' y = if y = x then zs else f y) : OwnsM w4 B mb n N f' (mput M x v') := by
  have him := owns_isMap h.map
  have hlt := fun y => (h.row y).lt
  have hne4 : ∀ {u : Value} {k : Nat} {l : List Value} {W : World}, W.ownsRow B 9 1 u k l → u.ownBlock = none ∨ u.ownBlock ≠ some mb := fun {u k l W} hr => by
    cases e : u.ownBlock with
    | none => exact .inl rfl
    | some g =>
      refine .inr fun e2 => ?_
      have := (hr.lt g e).1
      cases e2; omega
  refine ⟨map_again h.map hx hm4, fun y => ?_, fun y => ?_, fun y z g hyz hy => ?_⟩
  · rw [mhas_put him, h.has]
    by_cases e : y = x
    · rw [e]
      have : inS N x = true := by rw [← h.has]; exact hx
      rw [this]; simp
    · have : (y == x) = false := by simpa using e
      rw [this]; rfl
  · rw [mget_put him, hf]
    by_cases e : y = x
    · rw [if_pos e, if_pos e]
      exact hrow.kept hg4 (hne4 hrow)
    · rw [if_neg e, if_neg e]
      have hr := h.row y
      have h3 : w3.ownsRow B 9 1 (mget M y (.slice none 0 0)) (f y).length (svals (f y)) := hr.kept hg3 (by
        cases e2 : (mget M y (.slice none 0 0)).ownBlock with
        | none => exact .inl rfl
        | some g => exact .inr fun e3 => h.apart y x g e e2 e3.symm)
      exact h3.kept hg4 (hne4 h3)
  · rw [mget_put him] at hy ⊢
    by_cases ey : y = x
    · rw [if_pos ey] at hy
      have hzx : ¬ z = x := fun e => hyz (by rw [ey, e])
      rw [if_neg hzx]
      rcases hloc with e | e
      · rw [e] at hy
        exact h.apart x z g (fun e2 => hzx e2.symm) hy
      · rw [e] at hy
        cases hy
        intro hz
        have := (hlt z _ hz).2
        omega
    · rw [if_neg ey] at hy
      by_cases ez : z = x
      · rw [if_pos ez]
        rcases hloc with e | e
        · rw [e]
          exact fun e2 => h.apart y x g ey hy e2
        · rw [e]
          intro e2
          cases e2
          have := (hlt y _ hy).2
          omega
      · rw [if_neg ez]
        exact h.apart y z g hyz hy
theorem OwnsM.links {w : World} {B mb n : Nat} {N : List Str} {f : Str → List Str} {M : DataW Value} (h : OwnsM w B mb n N f M) (hs : ∀ x, ∀ z ∈ f x, z.length ≤ maxLen) : Links w mb n N f :=
  ⟨M, h.map, h.has, fun x => by
    obtain ⟨a, c, e, hi⟩ := IsStrs.of_owns (h.row x) (hs x)
    exact ⟨a, c, e, hi⟩⟩

/-- append of one string to a row that the call owns, and where it lies. -/
theorem wpList_append_at {w : World} {ops : Array Oper} {rest : List Oper} {o : Oper} {a : Act} {Q : Exit → Act → World → Prop} (hgd : o.guard = none) (s x : Operand)
    (ho : o.op = .call { callee := .builtin .append, args := #[s, x], argTypes := #[25, 25] })
    (base : Nat) (v : Value) (n : Nat) (zs : List Str) (hs : a.eval s = v) (hown : w.ownsRow base 9 1 v n (svals zs))
    (ad : Addr) (y : Str) (hx : a.eval x = .slice (some ad) 1 1) (hy : w.cell? ad = some (.string (mk y))) (h63 : n + 1 ≤ 1000000) (hbase : base ≤ w.heap.size)
    (h : ∀ v' w', w'.ownsRow base 9 1 v' (n + 1) (svals (zs ++ [y])) → w.grownBy w' v.ownBlock → (v'.ownBlock = v.ownBlock ∨ v'.ownBlock = some w.heap.size) → wpList Try.prog ops Q rest (a.put o.dst v') w') : wpList Try.prog ops Q (o :: rest) a w := by
  obtain ⟨i0, hi, hz0, hz1, hz2⟩ := info_parts Try.infoS
  refine wpList_append_own_at w hgd s x 25 ho base 9 i0 (.string ByteArray.empty) 1 16 Try.underlying25 hi hz0 hz1 hz2 rfl (by decide) v n (svals zs) hs hown ad 1 1 [.string (mk y)] hx rfl ?_ ?_ (by unfold maxLen; omega) (by omega) hbase fun v' w' h1 h2 _ h4 => h v' w' (by rw [← svals_snoc]; exact h1) h2 h4
  · intro j u hu
    cases j with
    | zero =>
      cases hu
      have : ad.add 0 = ad := by unfold Addr.add; split <;> simp_all
      rw [this]; exact hy
    | succ j => cases hu
  · intro u hu
    simp at hu
    rw [hu]; rfl

/-- The lists after k declarations and j supertypes of the next one. -/
def dnJ (D : List Dec) (k j : Nat) (x : Str) : List Str := dn (D.take k) x ++ (((dc D k).sup.take j).filter (· == x)).map fun _ => (dc D k).name
theorem dnJ_zero (D : List Dec) (k : Nat) (x : Str) : dnJ D k 0 x = dn (D.take k) x := by unfold dnJ; simp
theorem dnJ_succ {D : List Dec} {k j : Nat} (hj : j < (dc D k).sup.length) (x : Str) : dnJ D k (j + 1) x = if x = st (dc D k).sup j then dnJ D k j (st (dc D k).sup j) ++ [(dc D k).name] else dnJ D k j x := by
  unfold dnJ
  rw [take_st hj, List.filter_append, List.map_append, ← List.append_assoc]
  by_cases h : x = st (dc D k).sup j
  · rw [if_pos h, ← h]
    have : [x].filter (· == x) = [x] := by simp
    rw [this]; rfl
  · rw [if_neg h]
    have : [st (dc D k).sup j].filter (· == x) = [] := by
      rw [List.filter_eq_nil_iff]
      intro y hy
      simp at hy
      rw [hy]
      simpa using fun e => h e.symm
    rw [this]; simp
theorem dnJ_end {D : List Dec} {k : Nat} (hk : k < D.length) (x : Str) : dnJ D k (dc D k).sup.length x = dn (D.take (k + 1)) x := by
  unfold dnJ dn
  rw [take_dc hk, List.flatMap_append, List.take_length]
  simp
theorem dn_small {D : List Dec} (hs : ∀ z ∈ nms D, z.length ≤ maxLen) (x : Str) : ∀ z ∈ dn D x, z.length ≤ maxLen := fun z hz => hs z (dn_mem hz)
theorem dnJ_len (D : List Dec) {k j : Nat} (x : Str) (hs : ∀ i, i < D.length → (dc D i).sup.length ≤ 256) (hk : k < D.length) (hl : D.length ≤ 256) : (dnJ D k j x).length ≤ 65792 := by
  have h1 : ∀ m, m ≤ D.length → (dn (D.take m) x).length ≤ m * 256 := by
    intro m
    induction m with
    | zero => intro _; simp [dn]
    | succ m ih =>
      intro hm
      have h2 : dn (D.take (m + 1)) x = dn (D.take m) x ++ ((dc D m).sup.filter (· == x)).map fun _ => (dc D m).name := by
        unfold dn; rw [take_dc (by omega), List.flatMap_append]; simp
      rw [h2, List.length_append, List.length_map]
      have h3 := List.length_filter_le (· == x) (dc D m).sup
      have h4 := hs m (by omega)
      have h5 := ih (by omega)
      omega
  unfold dnJ
  rw [List.length_append, List.length_map]
  have h2 := h1 k (by omega)
  have h3 := List.length_filter_le (· == x) ((dc D k).sup.take j)
  rw [List.length_take] at h3
  have h4 := hs k hk
  have h5 : k * 256 ≤ 256 * 256 := Nat.mul_le_mul_right _ (by omega)
  omega
end Go.Proofs.Ytmhbblehgckelaa
