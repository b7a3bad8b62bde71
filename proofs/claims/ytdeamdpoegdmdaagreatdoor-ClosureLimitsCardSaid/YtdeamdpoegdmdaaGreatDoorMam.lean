/- Texts joined by wip/gen/merge.py: Dt Du Dv Dw Dx Qo Qr Qu Qv Do. -/
import Derived.Maps.AppendAt
import Derived.Deep.AppendLies
import Derived.Deep.RegionHeld3
import Derived.ArgAppend
import Derived.Test.YtdeamdpoegdmdaaGreatDoorMal
set_option linter.unusedVariables false
set_option linter.unusedSimpArgs false
/- closure: the hierarchies of the limits. -/
namespace Go.Proofs.YtdeamdpoegdmdaaGreatDoor
open Go.RowKit Go.Maps Go.Shelf
/-- The names of the limits' types. -/
def lx (i : Nat) : Str := [120, UInt8.ofNat (97 + i)]
def ly (i : Nat) : Str := [121, UInt8.ofNat (97 + i)]
/-- The supertypes of a lower type, up to the k-th. -/
def lsup (i k : Nat) : List Str := ((List.range k).filter (· != i)).map lx
def ldX (i : Nat) : Dec := ⟨lx i, [[116]], 0⟩
def ldY (n i : Nat) : Dec := ⟨ly i, lsup i n, 0⟩
/-- The declarations with k types below the top; with k lower types. -/
def limX (k : Nat) : List Dec := ⟨[116], [], 0⟩ :: (List.range k).map ldX
def limY (n k : Nat) : List Dec := limX n ++ (List.range k).map (ldY n)
def limD (n : Nat) : List Dec := limY n n
theorem famL_mono {S : Type} [DecidableEq S] (A : Alg S) (C C' : List S) : (famL A C).length ≤ (famL A (C ++ C')).length := by
  have h1 : ∀ (xs acc : List S), acc.length ≤ (xs.foldl (addS A) acc).length := by
    intro xs
    induction xs with
    | nil => intro acc; exact Nat.le_refl _
    | cons x xs ih =>
      intro acc
      refine Nat.le_trans ?_ (ih _)
      unfold addS
      split
      · exact Nat.le_refl _
      · simp
  have h2 : ∀ (cs acc : List S), acc.length ≤ (cs.foldl (stepS A) acc).length := by
    intro cs
    induction cs with
    | nil => intro acc; exact Nat.le_refl _
    | cons c cs ih => intro acc; exact Nat.le_trans (h1 _ _) (ih _)
  unfold famL
  rw [List.foldl_append]
  exact h2 _ _
end Go.Proofs.YtdeamdpoegdmdaaGreatDoor

/- closure: a hierarchy of the limits. -/
namespace Go.Proofs.YtdeamdpoegdmdaaGreatDoor
open Go.RowKit Go.Maps Go.Shelf
theorem lim3_chk : chkN (limD 3) = 0 := by unfold chkN chk; rw [plc_eq]; decide +kernel
theorem lim3_fam : (fam (limD 3)).length = 7 := by decide +kernel
theorem lim4_chk : chkN (limD 4) = 0 := by unfold chkN chk; rw [plc_eq]; decide +kernel
theorem lim4_fam : (fam (limD 4)).length = 15 := by decide +kernel
theorem lim5_chk : chkN (limD 5) = 0 := by unfold chkN chk; rw [plc_eq]; decide +kernel
theorem lim5_fam : (fam (limD 5)).length = 31 := by decide +kernel
theorem lim6_chk : chkN (limD 6) = 0 := by unfold chkN chk; rw [plc_eq]; decide +kernel
theorem lim6_fam : (fam (limD 6)).length = 63 := by decide +kernel
end Go.Proofs.YtdeamdpoegdmdaaGreatDoor

/- closure: a hierarchy of the limits. -/
namespace Go.Proofs.YtdeamdpoegdmdaaGreatDoor
open Go.RowKit Go.Maps Go.Shelf
theorem lim7_chk : chkN (limD 7) = 0 := by unfold chkN chk; rw [plc_eq]; decide +kernel
theorem lim7_fam : (fam (limD 7)).length = 127 := by decide +kernel
end Go.Proofs.YtdeamdpoegdmdaaGreatDoor

/- closure: the largest hierarchy of the limits, in parts. -/
namespace Go.Proofs.YtdeamdpoegdmdaaGreatDoor
open Go.RowKit Go.Maps Go.Shelf
theorem lim8_chk : chkN (limD 8) = 0 := by unfold chkN chk; rw [plc_eq]; decide +kernel
def C8a : List Cd := [[131071], [130050], [129540], [128520], [126480], [122400], [114240], [97920], [65280]]
def C8b : List Cd := [[512], [1024], [2048], [4096]]
def C8c : List Cd := [[8192], [16384], [32768], [65536]]
def L8 : List Cd := [[131071], [130050], [129540], [129024], [128520], [128000], [127488], [126976], [126480], [125952], [125440], [124928], [124416], [123904], [123392], [122880], [122400], [121856], [121344], [120832], [120320], [119808], [119296], [118784], [118272], [117760], [117248], [116736], [116224], [115712], [115200], [114688], [114240], [113664], [113152], [112640], [112128], [111616], [111104], [110592], [110080], [109568], [109056], [108544], [108032], [107520], [107008], [106496], [105984], [105472], [104960], [104448], [103936], [103424], [102912], [102400], [101888], [101376], [100864], [100352], [99840], [99328], [98816], [98304], [97920], [97280], [96768], [96256], [95744], [95232], [94720], [94208], [93696], [93184], [92672], [92160], [91648], [91136], [90624], [90112], [89600], [89088], [88576], [88064], [87552], [87040], [86528], [86016], [85504], [84992], [84480], [83968], [83456], [82944], [82432], [81920], [81408], [80896], [80384], [79872], [79360], [78848], [78336], [77824], [77312], [76800], [76288], [75776], [75264], [74752], [74240], [73728], [73216], [72704], [72192], [71680], [71168], [70656], [70144], [69632], [69120], [68608], [68096], [67584], [67072], [66560], [66048], [65536], [65280], [64512], [64000], [63488], [62976], [62464], [61952], [61440], [60928], [60416], [59904], [59392], [58880], [58368], [57856], [57344], [56832], [56320], [55808], [55296], [54784], [54272], [53760], [53248], [52736], [52224], [51712], [51200], [50688], [50176], [49664], [49152], [48640], [48128], [47616], [47104], [46592], [46080], [45568], [45056], [44544], [44032], [43520], [43008], [42496], [41984], [41472], [40960], [40448], [39936], [39424], [38912], [38400], [37888], [37376], [36864], [36352], [35840], [35328], [34816], [34304], [33792], [33280], [32768], [32256], [31744], [31232], [30720], [30208], [29696], [29184], [28672], [28160], [27648], [27136], [26624], [26112], [25600], [25088], [24576], [24064], [23552], [23040], [22528], [22016], [21504], [20992], [20480], [19968], [19456], [18944], [18432], [17920], [17408], [16896], [16384], [15872], [15360], [14848], [14336], [13824], [13312], [12800], [12288], [11776], [11264], [10752], [10240], [9728], [9216], [8704], [8192], [7680], [7168], [6656], [6144], [5632], [5120], [4608], [4096], [3584], [3072], [2560], [2048], [1536], [1024], [512]]
theorem c8 : cods (limD 8) = C8a ++ (C8b ++ C8c) := by decide +kernel
theorem p8 : C8a.foldl (stepS sAlg) [] = L8 := by decide +kernel
theorem q8 : C8b.foldl (stepS sAlg) L8 = L8 := by decide +kernel
theorem r8 : C8c.foldl (stepS sAlg) L8 = L8 := by decide +kernel
theorem lim8_fam : (fam (limD 8)).length = 255 := by
  unfold fam famL
  rw [c8, List.foldl_append, List.foldl_append, p8, q8, r8]
  decide +kernel
end Go.Proofs.YtdeamdpoegdmdaaGreatDoor

/- closure: a hierarchy of the limits. -/
namespace Go.Proofs.YtdeamdpoegdmdaaGreatDoor
open Go.RowKit Go.Maps Go.Shelf
theorem lim9_chk : chkN (limD 9) = 0 := by unfold chkN chk; rw [plc_eq]; decide +kernel
theorem lim9_fam : 256 < (fam (limD 9)).length := by
  have h := famL_mono sAlg ((cods (limD 9)).take 10) ((cods (limD 9)).drop 10)
  rw [List.take_append_drop] at h
  refine Nat.lt_of_lt_of_le ?_ h
  decide +kernel
end Go.Proofs.YtdeamdpoegdmdaaGreatDoor

/- Plain: the order of the declarations does not matter. -/
namespace Go.Proofs.YtdeamdpoegdmdaaGreatDoor
open Go.RowKit Go.Maps

theorem nms_perm {D E : List Dec} (h : D.Perm E) : (nms D).Perm (nms E) := h.map _
theorem up_perm {D E : List Dec} (hn : (nms D).Nodup) (h : D.Perm E) (x : Str) : up D x = up E x := by
  have hn2 : (nms E).Nodup := (nms_perm h).nodup_iff.1 hn
  by_cases hx : x ∈ nms D
  · obtain ⟨d, hd, e⟩ := List.mem_map.1 hx
    subst e
    rw [up_of hn hd, up_of hn2 (h.mem_iff.1 hd)]
  · have h1 : ∀ y, y ∉ up D x := fun y hy => hx (up_left hy)
    have h2 : ∀ y, y ∉ up E x := fun y hy => hx ((nms_perm h).mem_iff.2 (up_left hy))
    rw [List.eq_nil_iff_forall_not_mem.2 h1, List.eq_nil_iff_forall_not_mem.2 h2]
theorem may_perm {D E : List Dec} (hn : (nms D).Nodup) (h : D.Perm E) (out : List Str) (x : Str) : may D out x ↔ may E out x := by
  unfold may
  rw [(nms_perm h).mem_iff, up_perm hn h]
theorem nxt_perm {D E : List Dec} (hn : (nms D).Nodup) (h : D.Perm E) (out : List Str) (x : Str) : nxt D out x ↔ nxt E out x := by
  unfold nxt
  rw [may_perm hn h]
  exact and_congr_right fun _ => forall_congr' fun y => by rw [may_perm hn h]
theorem Plc.perm {D E : List Dec} (hn : (nms D).Nodup) (h : D.Perm E) {l : List Str} (p : Plc D l) : Plc E l := by
  induction p with
  | nil => exact .nil
  | snoc _ hx ih => exact .snoc ih ((nxt_perm hn h _ _).1 hx)
theorem plc_perm {D E : List Dec} (hn : (nms D).Nodup) (h : D.Perm E) : plc D = plc E :=
  plc_is ((plc_plc D).perm hn h) (fun x hx => (Classical.choose_spec (plc_exists D)).2 x ((may_perm hn h _ _).2 hx))
theorem Ok.perm {D E : List Dec} (ok : Ok D) (h : D.Perm E) : Ok E :=
  ⟨(nms_perm h).nodup_iff.1 ok.nodup, fun d hd s hs => (nms_perm h).mem_iff.1 (ok.decl d (h.mem_iff.2 hd) s hs), fun d hd => ok.once d (h.mem_iff.2 hd)⟩
theorem ab_perm {D E : List Dec} (ok : Ok D) (h : D.Perm E) (x : Str) : ab D x = ab E x := by
  refine asc_ext (ab_asc D x) (ab_asc E x) fun y => ?_
  rw [mem_ab ok, mem_ab (ok.perm h), (nms_perm h).mem_iff]
  refine and_congr_right fun _ => or_congr_right ⟨fun r => r.congr fun a b hb => by rw [← up_perm ok.nodup h]; exact hb, fun r => r.congr fun a b hb => by rw [up_perm ok.nodup h]; exact hb⟩
theorem mem_dn_perm {D E : List Dec} (h : D.Perm E) {x y : Str} : y ∈ dn D x ↔ y ∈ dn E x := by
  rw [mem_dn, mem_dn]
  exact ⟨fun ⟨d, hd, r⟩ => ⟨d, h.mem_iff.1 hd, r⟩, fun ⟨d, hd, r⟩ => ⟨d, h.mem_iff.2 hd, r⟩⟩
theorem bl_perm {D E : List Dec} (h : D.Perm E) (x : Str) : bl D x = bl E x := by
  refine asc_ext (bl_asc D x) (bl_asc E x) fun y => ?_
  rw [mem_bl, mem_bl, (nms_perm h).mem_iff]
  refine and_congr_right fun _ => or_congr_right ⟨fun r => r.congr fun a b hb => (mem_dn_perm h).1 hb, fun r => r.congr fun a b hb => (mem_dn_perm h).2 hb⟩
theorem nmE_of {nm : Str → Bool} : ∀ {D : List Dec} {ea : List Str}, (nms D).Nodup → (∀ x ∈ nms D, x ∉ ea) → (∀ d ∈ D, nm d.name = true) → nmE nm ea D = 0
  | [], _, _, _, _ => rfl
  | d :: r, ea, h1, h2, h3 => by
    unfold nmE
    have hd : d.name ∉ ea := h2 _ (by simp [nms])
    have hn := List.nodup_cons.1 (show (d.name :: nms r).Nodup from h1)
    rw [if_pos (h3 d (by simp)), if_neg (by simpa using hd)]
    refine nmE_of hn.2 (fun x hx => ?_) (fun e he => h3 e (by simp [he]))
    intro hm
    rcases List.mem_append.1 hm with e | e
    · exact h2 x (by simp [nms] at hx ⊢; exact .inr hx) e
    · simp at e
      exact hn.1 (e ▸ hx)
theorem spE_of {N : List Str} : ∀ {l ea : List Str}, l.Nodup → (∀ x ∈ l, x ∉ ea) → (∀ x ∈ l, x ∈ N) → spE N ea l = 0
  | [], _, _, _, _ => rfl
  | s :: r, ea, h1, h2, h3 => by
    unfold spE
    have hs : s ∉ ea := h2 _ (by simp)
    have hn := List.nodup_cons.1 h1
    rw [if_pos (by simpa using h3 s (by simp)), if_neg (by simpa using hs)]
    refine spE_of hn.2 (fun x hx => ?_) (fun e he => h3 e (by simp [he]))
    intro hm
    rcases List.mem_append.1 hm with e | e
    · exact h2 x (by simp [hx]) e
    · simp at e
      exact hn.1 (e ▸ hx)
theorem suE_of {N : List Str} : ∀ {D : List Dec}, (∀ d ∈ D, d.sup.Nodup ∧ ∀ s ∈ d.sup, s ∈ N) → suE N D = 0
  | [], _ => rfl
  | d :: r, h => by
    unfold suE
    have := h d (by simp)
    rw [if_pos (spE_of this.1 (fun _ _ => List.not_mem_nil) this.2)]
    exact suE_of fun e he => h e (by simp [he])
theorem chk_perm {D E : List Dec} (hc : chkN D = 0) (h : D.Perm E) : chkN E = 0 := by
  have hg := goodN hc
  have hok := hg.ok.perm h
  have hnm : ∀ d ∈ D, isNam kLow d.name = true := by
    have h0 : nmE (isNam kLow) [] D = 0 := by
      unfold chkN chk at hc
      rw [if_neg (by rw [hg.sz]; simp)] at hc
      by_cases e : nmE (isNam kLow) [] D = 0
      · exact e
      · rw [if_pos e] at hc; exact absurd hc e
    exact (nmE_zero h0).2.2
  have hsz : szE E = 0 := by
    have h1 := hg.sz
    unfold szE at h1 ⊢
    rw [← h.length_eq]
    have ha : (E.any fun d => decide (256 < d.sup.length) || decide (256 < d.nf)) = D.any fun d => decide (256 < d.sup.length) || decide (256 < d.nf) := by
      rw [Bool.eq_iff_iff, List.any_eq_true, List.any_eq_true]
      exact ⟨fun ⟨d, hd, r⟩ => ⟨d, h.mem_iff.2 hd, r⟩, fun ⟨d, hd, r⟩ => ⟨d, h.mem_iff.1 hd, r⟩⟩
    rw [ha]; exact h1
  have h1 : nmE (isNam kLow) [] E = 0 := nmE_of hok.nodup (fun _ _ => List.not_mem_nil) (fun d hd => hnm d (h.mem_iff.2 hd))
  have h2 : suE (nms E) E = 0 := suE_of fun d hd => ⟨hok.once d hd, hok.decl d hd⟩
  have h3 : tops E = 1 := by
    have := hg.top
    unfold tops at this ⊢
    rw [← this]
    exact ((h.filter _).length_eq).symm
  unfold chkN chk
  rw [if_neg (by rw [hsz]; simp), if_neg (by rw [h1]; simp), if_neg (by rw [h2]; simp), if_neg (by rw [h3]; simp), if_neg]
  rw [← plc_perm hg.ok.nodup h, hg.all, h.length_eq]
  omega
theorem rot_perm (D : List Dec) (k : Nat) : (D.drop k ++ D.take k).Perm D := by
  have := List.perm_append_comm (l₁ := D.drop k) (l₂ := D.take k)
  rwa [List.take_append_drop] at this
end Go.Proofs.YtdeamdpoegdmdaaGreatDoor

/- Plain: what the declarations of the limits give. -/
namespace Go.Proofs.YtdeamdpoegdmdaaGreatDoor
open Go.RowKit Go.Maps

theorem star_chk {D R : List Dec} {t : Dec} (hD : D = t :: R) (h0 : t.sup = []) (hR : ∀ d ∈ R, d.sup = [t.name]) (hn : (nms D).Nodup) (hnam : ∀ d ∈ D, isNam kLow d.name = true) (hs : szE D = 0) : chkN D = 0 := by
  have ht : t ∈ D := by rw [hD]; simp
  have htn : t.name ∈ nms D := List.mem_map_of_mem ht
  have h1 : nmE (isNam kLow) [] D = 0 := nmE_of hn (fun _ _ => List.not_mem_nil) hnam
  have h2 : suE (nms D) D = 0 := suE_of fun d hd => by
    rw [hD] at hd
    rcases List.mem_cons.1 hd with e | e
    · rw [e, h0]; exact ⟨List.nodup_nil, fun _ h => absurd h List.not_mem_nil⟩
    · rw [hR d e]; exact ⟨by simp, fun s hs => by rw [List.mem_singleton] at hs; rw [hs]; exact htn⟩
  have h3 : tops D = 1 := by
    have : R.filter (fun d => d.sup.isEmpty) = [] := List.filter_eq_nil_iff.2 fun d hd => by rw [hR d hd]; simp
    unfold tops
    rw [hD, List.filter_cons, h0, this]; rfl
  have hdone : Done D (plc D) := (Classical.choose_spec (plc_exists D)).2
  have hu0 : up D t.name = [] := (up_of hn ht).trans h0
  have htp : t.name ∈ plc D := Classical.byContradiction fun h => hdone t.name ⟨htn, h, by rw [hu0]; simp⟩
  have hall : ∀ x ∈ nms D, x ∈ plc D := by
    intro x hx
    obtain ⟨d, hd, rfl⟩ := List.mem_map.1 hx
    have hd' := hd
    rw [hD] at hd'
    rcases List.mem_cons.1 hd' with e | e
    · rw [e]; exact htp
    · refine Classical.byContradiction fun h => hdone d.name ⟨hx, h, ?_⟩
      rw [up_of hn hd, hR d e]
      intro s hs
      rw [List.mem_singleton] at hs
      rw [hs]; exact htp
  have h4 : ¬ (plc D).length < D.length := by
    have := nodup_len hn hall
    rw [nms_len] at this; omega
  unfold chkN chk
  rw [if_neg (by simp [hs]), if_neg (by simp [h1]), if_neg (by simp [h2]), if_neg (by simp [h3]), if_neg h4]
theorem chk_seven {D : List Dec} (h : szE D = 7) : chkN D = 7 := by
  unfold chkN chk; rw [h, if_pos (by decide)]

/-- The name of the declaration with a number. -/
def mnm (i : Nat) : Str := [97, UInt8.ofNat (97 + i / 26), UInt8.ofNat (97 + i % 26)]
def manyT (k : Nat) : List Dec := ⟨[116], [], 0⟩ :: (List.range k).map fun i => ⟨mnm (i + 1), [[116]], 0⟩
theorem manyT_len (k : Nat) : (manyT k).length = k + 1 := by simp [manyT]
theorem manyT_succ (k : Nat) : manyT (k + 1) = manyT k ++ [⟨mnm (k + 1), [[116]], 0⟩] := by
  unfold manyT; rw [List.range_succ, List.map_append]; rfl
theorem mnm_inj {i j : Nat} (hi : i ≤ 300) (hj : j ≤ 300) (h : mnm i = mnm j) : i = j := by
  have h1 := congrArg (fun l : Str => l.map UInt8.toNat) h
  simp only [mnm, List.map_cons, List.map_nil, List.cons.injEq, UInt8.toNat_ofNat'] at h1
  omega
theorem many_nodup : (nms (manyT 255)).Nodup := by
  have e : nms (manyT 255) = [116] :: (List.range 255).map fun i => mnm (i + 1) := by
    unfold nms manyT; rw [List.map_cons, List.map_map]; rfl
  rw [e]
  refine List.nodup_cons.2 ⟨?_, ?_⟩
  · intro h
    obtain ⟨i, _, hi⟩ := List.mem_map.1 h
    simp [mnm] at hi
  · refine List.pairwise_map.2 ((List.nodup_range).imp_of_mem fun {a b} ha hb hne he => hne ?_)
    rw [List.mem_range] at ha hb
    have := mnm_inj (by omega) (by omega) he
    omega
theorem many_nam : ∀ i, i < 255 → isNam kLow (mnm (i + 1)) = true := by decide +kernel
theorem many_ok : chkN (manyT 255) = 0 := by
  refine star_chk (D := manyT 255) rfl rfl ?_ many_nodup ?_ ?_
  · intro d hd
    obtain ⟨i, _, rfl⟩ := List.mem_map.1 hd
    rfl
  · intro d hd
    unfold manyT at hd
    rcases List.mem_cons.1 hd with e | e
    · rw [e]; decide +kernel
    · obtain ⟨i, hi, rfl⟩ := List.mem_map.1 e
      exact many_nam i (List.mem_range.1 hi)
  · decide +kernel
theorem many_long : chkN (manyT 256) = 7 := chk_seven (szE_long (by rw [manyT_len]; decide))
/-- One supertype, or one feature, too many. -/
theorem long_at {D : List Dec} {i : Nat} {d : Dec} (hl : D.length ≤ 256) (hi : D[i]? = some d) (h : 256 < d.sup.length ∨ 256 < d.nf) : chkN D = 7 := by
  have hlt := (List.getElem?_eq_some_iff.1 hi).1
  have e : dc D i = d := by
    have := dc_get hlt
    rw [hi] at this; exact (Option.some.inj this).symm
  exact chk_seven (szE_bad (by omega) hlt (by rw [e]; exact h))
theorem feats_ok : chkN [⟨[116], [], 256⟩] = 0 := by
  refine star_chk (D := [⟨[116], [], 256⟩]) rfl rfl (fun _ h => absurd h List.not_mem_nil) (by simp [nms]) ?_ (by decide +kernel)
  intro d hd
  rw [List.mem_singleton] at hd
  rw [hd]; decide +kernel
theorem chk_four {D : List Dec} (h1 : szE D = 0) (h2 : nmE (isNam kLow) [] D = 0) (h3 : suE (nms D) D = 4) : chkN D = 4 := by
  unfold chkN chk
  rw [if_neg (by simp [h1]), if_neg (by simp [h2]), if_pos (by simp [h3]), h3]
theorem twice_bad : chkN [⟨[116], [], 0⟩, ⟨[97], List.replicate 256 [116], 0⟩] = 4 := by
  have h1 : szE [⟨[116], [], 0⟩, ⟨[97], List.replicate 256 [116], 0⟩] = 0 := by decide +kernel
  have h2 : nmE (isNam kLow) [] [⟨[116], [], 0⟩, ⟨[97], List.replicate 256 [116], 0⟩] = 0 := by decide +kernel
  have h3 : suE (nms [⟨[116], [], 0⟩, ⟨[97], List.replicate 256 [116], 0⟩]) [⟨[116], [], 0⟩, ⟨[97], List.replicate 256 [116], 0⟩] = 4 := by decide +kernel
  exact chk_four h1 h2 h3
end Go.Proofs.YtdeamdpoegdmdaaGreatDoor

/- Rows of declarations as their cells: taking them apart, joining them, appending to them. -/
namespace Go.Proofs.YtdeamdpoegdmdaaGreatDoor
open Go.RowKit Go.Maps

/-- The cells from 3 i on are those of a declaration. -/
def DecV (w : World) (vs : List Value) (i : Nat) (d : Dec) : Prop :=
  ∃ sa sc fa fc, vs[i * 3]? = some (.string (mk d.name)) ∧ vs[i * 3 + 1]? = some (.slice sa d.sup.length sc) ∧ vs[i * 3 + 2]? = some (.slice fa d.nf fc) ∧
    IsStrs w sa d.sup.length sc d.sup ∧ d.nf ≤ fc ∧ fc ≤ maxLen ∧ d.name.length ≤ maxLen
def DecVs (w : World) (vs : List Value) (D : List Dec) : Prop := vs.length = D.length * 3 ∧ ∀ i d, D[i]? = some d → DecV w vs i d

theorem DecVs.below {w w' : World} {vs : List Value} {D : List Dec} (h : DecVs w vs D) (hb : Below w.heap.size w w') : DecVs w' vs D :=
  ⟨h.1, fun i d hd => let ⟨sa, sc, fa, fc, h0, h1, h2, h3, h4⟩ := h.2 i d hd; ⟨sa, sc, fa, fc, h0, h1, h2, h3.below hb, h4⟩⟩
theorem DecVs.one {w : World} {vs : List Value} {D : List Dec} (h : DecVs w vs D) : ∀ u ∈ vs, u.oneCell' = true := by
  intro u hu
  obtain ⟨j, hj⟩ := List.getElem?_of_mem hu
  have hlt := (List.getElem?_eq_some_iff.1 hj).1
  rw [h.1] at hlt
  obtain ⟨sa, sc, fa, fc, h0, h1, h2, _⟩ := h.2 (j / 3) _ (List.getElem?_eq_getElem (by omega))
  rcases (show j = j / 3 * 3 ∨ j = j / 3 * 3 + 1 ∨ j = j / 3 * 3 + 2 by omega) with e | e | e
  · rw [← e, hj] at h0; cases h0; rfl
  · rw [← e, hj] at h1; cases h1; rfl
  · rw [← e, hj] at h2; cases h2; rfl
theorem DecVs.app {w : World} {us vs : List Value} {D E : List Dec} (h : DecVs w us D) (g : DecVs w vs E) : DecVs w (us ++ vs) (D ++ E) := by
  refine ⟨by rw [List.length_append, List.length_append, h.1, g.1]; omega, fun i d hd => ?_⟩
  rcases Nat.lt_or_ge i D.length with hi | hi
  · rw [List.getElem?_append_left hi] at hd
    obtain ⟨sa, sc, fa, fc, h0, h1, h2, h3⟩ := h.2 i d hd
    have hl := h.1
    exact ⟨sa, sc, fa, fc, by rw [List.getElem?_append_left (by omega)]; exact h0, by rw [List.getElem?_append_left (by omega)]; exact h1, by rw [List.getElem?_append_left (by omega)]; exact h2, h3⟩
  · rw [List.getElem?_append_right hi] at hd
    obtain ⟨sa, sc, fa, fc, h0, h1, h2, h3⟩ := g.2 _ d hd
    have hl := h.1
    have sh : ∀ k, i * 3 + k - us.length = (i - D.length) * 3 + k := fun k => by omega
    refine ⟨sa, sc, fa, fc, ?_, ?_, ?_, h3⟩
    · rw [List.getElem?_append_right (by omega)]; have := sh 0; simp only [Nat.add_zero] at this; rw [this]; exact h0
    · rw [List.getElem?_append_right (by omega), sh 1]; exact h1
    · rw [List.getElem?_append_right (by omega), sh 2]; exact h2
theorem DecVs.take {w : World} {vs : List Value} {D : List Dec} (h : DecVs w vs D) {k : Nat} (hk : k ≤ D.length) : DecVs w (vs.take (k * 3)) (D.take k) := by
  have hl := h.1
  refine ⟨by rw [List.length_take, List.length_take]; omega, fun i d hd => ?_⟩
  have hi : i < k := by
    have := (List.getElem?_eq_some_iff.1 hd).1
    rw [List.length_take] at this; omega
  rw [List.getElem?_take_of_lt hi] at hd
  obtain ⟨sa, sc, fa, fc, h0, h1, h2, h3⟩ := h.2 i d hd
  exact ⟨sa, sc, fa, fc, by rw [List.getElem?_take_of_lt (by omega)]; exact h0, by rw [List.getElem?_take_of_lt (by omega)]; exact h1, by rw [List.getElem?_take_of_lt (by omega)]; exact h2, h3⟩
theorem DecVs.drop {w : World} {vs : List Value} {D : List Dec} (h : DecVs w vs D) {k : Nat} (hk : k ≤ D.length) : DecVs w (vs.drop (k * 3)) (D.drop k) := by
  have hl := h.1
  refine ⟨by rw [List.length_drop, List.length_drop]; omega, fun i d hd => ?_⟩
  rw [List.getElem?_drop] at hd
  obtain ⟨sa, sc, fa, fc, h0, h1, h2, h3⟩ := h.2 _ d hd
  refine ⟨sa, sc, fa, fc, ?_, ?_, ?_, h3⟩
  · rw [List.getElem?_drop, show k * 3 + i * 3 = (k + i) * 3 by omega]; exact h0
  · rw [List.getElem?_drop, show k * 3 + (i * 3 + 1) = (k + i) * 3 + 1 by omega]; exact h1
  · rw [List.getElem?_drop, show k * 3 + (i * 3 + 2) = (k + i) * 3 + 2 by omega]; exact h2

/-- The cells of a slice of declarations. -/
theorem IsDecs.vals {w : World} {b off n cap : Nat} {D : List Dec} (h : IsDecs w (some ⟨b, off, none⟩) n cap D) (h0 : 0 < n) : ∃ vs, DecVs w vs D ∧ ∀ j u, vs[j]? = some u → w.cell? ⟨b, off + j, none⟩ = some u := by
  obtain ⟨b', off', e, hb, hc⟩ := h.at_ h0
  cases e
  have hlen := h.len
  have cell : ∀ j, j < n * 3 → ∃ u, w.cell? ⟨b, off + j, none⟩ = some u := by
    intro j hj
    obtain ⟨sa, sc, fa, fc, hd⟩ := hc (j / 3) (by omega)
    rcases (show j = j / 3 * 3 ∨ j = j / 3 * 3 + 1 ∨ j = j / 3 * 3 + 2 by omega) with e | e | e
    · have := hd.c0; rw [← e] at this; exact ⟨_, this⟩
    · have := hd.c1; rw [Nat.add_assoc, ← e] at this; exact ⟨_, this⟩
    · have := hd.c2; rw [Nat.add_assoc, ← e] at this; exact ⟨_, this⟩
  refine ⟨(List.range (n * 3)).map fun j => (w.cell? ⟨b, off + j, none⟩).getD undef, ⟨by rw [List.length_map, List.length_range, hlen], fun i d hd => ?_⟩, fun j u hu => ?_⟩
  · have hi : i < n := by rw [← hlen]; exact (List.getElem?_eq_some_iff.1 hd).1
    have e : dc D i = d := by
      have := dc_get (D := D) (i := i) (by omega)
      rw [hd] at this; exact (Option.some.inj this).symm
    obtain ⟨sa, sc, fa, fc, hx⟩ := hc i hi
    rw [e] at hx
    have at_ : ∀ k v, k < 3 → w.cell? ⟨b, off + i * 3 + k, none⟩ = some v → ((List.range (n * 3)).map fun j => (w.cell? ⟨b, off + j, none⟩).getD undef)[i * 3 + k]? = some v := by
      intro k v hk hv
      rw [List.getElem?_map, List.getElem?_range (by omega), Option.map_some, ← Nat.add_assoc, hv]; rfl
    exact ⟨sa, sc, fa, fc, at_ 0 _ (by omega) hx.c0, at_ 1 _ (by omega) hx.c1, at_ 2 _ (by omega) hx.c2, hx.ss, hx.fl, hx.fm, hx.nl⟩
  · rw [List.getElem?_map] at hu
    have hj : j < n * 3 := by
      rcases Nat.lt_or_ge j (n * 3) with g | g
      · exact g
      · rw [List.getElem?_eq_none (by rw [List.length_range]; exact g)] at hu; cases hu
    rw [List.getElem?_range hj, Option.map_some] at hu
    obtain ⟨v, hv⟩ := cell j hj
    rw [hv] at hu ⊢
    exact hu

theorem Tryz.infoD : (Tryz.prog.info? 53).map (fun i => (i.zero, i.size, i.bytes)) = some (some (.agg #[.string ByteArray.empty, .slice none 0 0, .slice none 0 0]), 3, 64) := by kernel_rfl
/-- An owned row of cells reads as the declarations. -/
theorem IsDecs.of_owns {w : World} {B n : Nat} {v : Value} {vs : List Value} {D : List Dec} (h : w.ownsRow B 53 3 v n vs) (hv : DecVs w vs D) (hn : D.length = n) : ∃ a cap, v = .slice a n cap ∧ IsDecs w a n cap D := by
  have hh := h
  obtain ⟨h1, ⟨h2, h3⟩ | ⟨g, cap, cur, hv2, hB, hg, h3, h4, h5, h6⟩⟩ := h
  · subst h3
    exact ⟨none, 0, h2, hn, Nat.le_refl _, Nat.zero_le _, fun h0 => absurd h0 (Nat.lt_irrefl _)⟩
  · refine ⟨some ⟨g, 0, none⟩, cap, hv2, hn, h3, h4, fun _ => ⟨g, 0, rfl, lt_of_block hg, fun i hi => ?_⟩⟩
    obtain ⟨sa, sc, fa, fc, c0, c1, c2, r1, r2, r3, r4⟩ := hv.2 i _ (dc_get (by omega))
    have cell : ∀ j u, vs[j]? = some u → w.cell? ⟨g, j, none⟩ = some u := fun j u hu => by
      have := hh.cells (g := g) (by rw [hv2]; rfl) j u hu
      rwa [show (⟨g, 0, none⟩ : Addr).add j = ⟨g, j, none⟩ by unfold Addr.add; split <;> simp_all] at this
    rw [Nat.zero_add]
    exact ⟨sa, sc, fa, fc, ⟨cell _ _ c0, cell _ _ c1, cell _ _ c2, r1, r2, r3, r4⟩⟩

/-- append of a slice of declarations to an owned row, at a step of a region that draws its order; either may be empty. -/
theorem step_append_decs {w : World} {ops : Array Oper} {o : Oper} {a : Act} {K : Act → World → Prop} {Q : Exit → Act → World → Prop} {E : Prop} (hgd : o.guard = none) (s x : Operand)
    (ho : o.op = .call { callee := .builtin .append, args := #[s, x], argTypes := #[22, 22] })
    (base : Nat) (v : Value) (n : Nat) (xs : List Value) (hs : a.eval s = v) (hown : w.ownsRow base 53 3 v n xs)
    (b off m c : Nat) (news : List Value) (hx : a.eval x = .slice (some ⟨b, off, none⟩) m c) (hl : news.length = m * 3) (hnews : ∀ j u, news[j]? = some u → w.cell? ⟨b, off + j, none⟩ = some u) (h1 : ∀ u ∈ news, u.oneCell' = true)
    (h63 : n + m ≤ 1000000) (hbase : base ≤ w.heap.size)
    (h : ∀ v' w', w'.ownsRow base 53 3 v' (n + m) (xs ++ news) → w.grownBy w' v.ownBlock → (v'.ownBlock = v.ownBlock ∨ v'.ownBlock = some w.heap.size) → K (a.put o.dst v') w') :
    if Region.wanted o (yielded ops a.tmps) = true then Oper.wp Tryz.prog o a w K Q else E := by
  have hw : Region.wanted o (yielded ops a.tmps) = true := by simp [Region.wanted, hgd]
  rw [if_pos hw]
  obtain ⟨i0, hi, hz0, hz1, hz2⟩ := info_parts Tryz.infoD
  obtain ⟨v', w', hr, h2, h3, _, h5⟩ := run_append_own_at (P := Tryz.prog) w base 22 o.type 53 i0 _ 3 64 Tryz.underlying22 hi hz0 hz1 hz2 rfl (by decide) v n xs hown ⟨b, off, none⟩ m c news hl
    (fun j u hu => by rw [show (⟨b, off, none⟩ : Addr).add j = ⟨b, off + j, none⟩ by unfold Addr.add; split <;> simp_all]; exact hnews j u hu) h1 (by unfold maxLen; omega) (by omega) hbase
  unfold Oper.wp execOp
  simp only [ho, resolve, invoke, builtin, Sem.run_bind, Sem.run_pure, Result.andThen_ok, List.map_toArray, List.map_cons, List.map_nil, hs, hx, hr]
  exact h v' w' h2 h3 h5
end Go.Proofs.YtdeamdpoegdmdaaGreatDoor

/- many: the declarations of the limits. -/
namespace Go.Proofs.YtdeamdpoegdmdaaGreatDoor
open Go.RowKit Go.Maps

theorem name_nat (k : Nat) (hk : k < 300) : (mnm k) = [97, UInt8.ofNat (97 + k / 26), UInt8.ofNat (97 + k % 26)] ∧ (UInt8.ofNat (97 + k / 26)).toNat = 97 + k / 26 ∧ (UInt8.ofNat (97 + k % 26)).toNat = 97 + k % 26 := by
  refine ⟨rfl, ?_, ?_⟩ <;> (rw [UInt8.toNat_ofNat']; omega)
/-- A string of two bytes, made of a row that was laid for it. -/
theorem conv_two (k : Nat) (hk : k < 300) (w : World) : (convert 62 9 (.slice (some ⟨w.heap.size, 0, none⟩) 2 2)).run Tryz.prog (w.alloc (.cells #[.int .u8 (97 + (k : Int) / 26), .int .u8 (97 + (k : Int) % 26)] 5)) = .ok (.string (mk [UInt8.ofNat (97 + k / 26), UInt8.ofNat (97 + k % 26)])) (w.alloc (.cells #[.int .u8 (97 + (k : Int) / 26), .int .u8 (97 + (k : Int) % 26)] 5)) := by
  refine run_convert_bytes_back (P := Tryz.prog) _ _ _ 5 ⟨w.heap.size, 0, none⟩ 2 [UInt8.ofNat (97 + k / 26), UInt8.ofNat (97 + k % 26)] Tryz.underlying62 Tryz.underlying5 Tryz.underlying9 (fun j hj => ?_)
  obtain ⟨_, h1, h2⟩ := name_nat k hk
  rcases j with _ | _ | j
  · show (w.alloc _).cell? ⟨w.heap.size, 0, none⟩ = some (.int .u8 ((UInt8.ofNat (97 + k / 26)).toNat : Int))
    rw [World.cell?_alloc_new, h1]
    show some (Value.int .u8 (97 + (k : Int) / 26)) = _
    rw [show (97 : Int) + (k : Int) / 26 = ((97 + k / 26 : Nat) : Int) by omega]
  · show (w.alloc _).cell? ⟨w.heap.size, 1, none⟩ = some (.int .u8 ((UInt8.ofNat (97 + k % 26)).toNat : Int))
    rw [World.cell?_alloc_new, h2]
    show some (Value.int .u8 (97 + (k : Int) % 26)) = _
    rw [show (97 : Int) + (k : Int) % 26 = ((97 + k % 26 : Nat) : Int) by omega]
  · simp at hj
    omega
theorem two_str (k : Nat) (hk : k < 300) : ∃ y : ByteArray, (∀ w : World, (convert 62 9 (.slice (some ⟨w.heap.size, 0, none⟩) 2 2)).run Tryz.prog (w.alloc (.cells #[.int .u8 (97 + (k : Int) / 26), .int .u8 (97 + (k : Int) % 26)] 5)) = .ok (.string y) (w.alloc (.cells #[.int .u8 (97 + (k : Int) / 26), .int .u8 (97 + (k : Int) % 26)] 5))) ∧ y.size = 2 ∧ (⟨#[97]⟩ : ByteArray) ++ y = mk (mnm k) := by
  refine ⟨_, conv_two k hk, rfl, ?_⟩
  apply ByteArray.ext
  simp [mk, mnm]

/-- No slice among these values lies in the row, and all lie in the world. -/
def Ap (w : World) (row : Option Nat) (vs : List Value) : Prop := ∀ (j : Nat) (sa : Option Addr) (m c : Nat) (p : Addr), vs[j]? = some (.slice sa m c) → sa = some p → row ≠ some p.block ∧ p.block < w.heap.size
/-- A row of declarations that is owned, and apart from the slices in it. -/
structure OwnD (w : World) (B n : Nat) (v : Value) (vs : List Value) (D : List Dec) : Prop where
  row : w.ownsRow B 53 3 v n vs
  dec : DecVs w vs D
  apart : Ap w v.ownBlock vs
theorem IsStrs.apart {w w' : World} {a : Option Addr} {n cap : Nat} {xs : List Str} {row : Option Nat} (h : IsStrs w a n cap xs) (hg : w.grownBy w' row) (hr : ∀ p : Addr, a = some p → row ≠ some p.block) : IsStrs w' a n cap xs := by
  refine ⟨h.len, h.capLe, h.maxLe, h.small, h.nil_, fun h0 => ?_⟩
  obtain ⟨b, off, e, hl, hcs⟩ := h.at_ h0
  exact ⟨b, off, e, Nat.lt_of_lt_of_le hl hg.size, fun i hi => (World.cell?_of_block (a := ⟨b, off + i, none⟩) (hg.block b hl (fun e' => hr _ e e'.symm))).trans (hcs i hi)⟩
theorem DecVs.apart {w w' : World} {vs : List Value} {D : List Dec} {row : Option Nat} (h : DecVs w vs D) (hg : w.grownBy w' row) (hr : Ap w row vs) : DecVs w' vs D :=
  ⟨h.1, fun i d hd => let ⟨sa, sc, fa, fc, h0, h1, h2, h3, h4⟩ := h.2 i d hd; ⟨sa, sc, fa, fc, h0, h1, h2, h3.apart hg (fun p hp => (hr _ _ _ _ p h1 hp).1), h4⟩⟩
theorem OwnD.below {w w' : World} {B n : Nat} {v : Value} {vs : List Value} {D : List Dec} (h : OwnD w B n v vs D) (hb : Below w.heap.size w w') : OwnD w' B n v vs D :=
  ⟨owns_below h.row hb, h.dec.below hb, fun j sa m c p h1 h2 => ⟨(h.apart j sa m c p h1 h2).1, Nat.lt_of_lt_of_le (h.apart j sa m c p h1 h2).2 hb.size⟩⟩
theorem OwnD.push {w w' : World} {B n : Nat} {v v' : Value} {vs news : List Value} {D : List Dec} {d : Dec} (h : OwnD w B n v vs D) (hd : DecVs w news [d]) (ha : Ap w v.ownBlock news)
    (hr : w'.ownsRow B 53 3 v' (n + 1) (vs ++ news)) (hg : w.grownBy w' v.ownBlock) (hl : v'.ownBlock = v.ownBlock ∨ v'.ownBlock = some w.heap.size) : OwnD w' B (n + 1) v' (vs ++ news) (D ++ [d]) := by
  have hap : Ap w v.ownBlock (vs ++ news) := by
    intro j sa m c p h1 h2
    rcases Nat.lt_or_ge j vs.length with hj | hj
    · rw [List.getElem?_append_left hj] at h1
      exact h.apart j sa m c p h1 h2
    · rw [List.getElem?_append_right hj] at h1
      exact ha _ sa m c p h1 h2
  refine ⟨hr, (h.dec.apart hg h.apart).app (hd.apart hg ha), fun j sa m c p h1 h2 => ?_⟩
  obtain ⟨k1, k2⟩ := hap j sa m c p h1 h2
  refine ⟨?_, Nat.lt_of_lt_of_le k2 hg.size⟩
  rcases hl with e | e
  · rw [e]; exact k1
  · rw [e]; intro hh; have := Option.some.inj hh; omega
/-- append of one declaration to an owned row. -/
theorem wpList_append_dec {w : World} {ops : Array Oper} {rest : List Oper} {o : Oper} {a : Act} {Q : Exit → Act → World → Prop} (hgd : o.guard = none) (s x : Operand)
    (ho : o.op = .call { callee := .builtin .append, args := #[s, x], argTypes := #[22, 22] })
    (base : Nat) (v : Value) (n : Nat) (vs : List Value) (D : List Dec) (hs : a.eval s = v) (hown : OwnD w base n v vs D)
    (b c : Nat) (x0 x1 x2 : Value) (hx : a.eval x = .slice (some ⟨b, 0, none⟩) 1 c) (hc : w.heap[b]? = some (.cells #[x0, x1, x2] 53)) (d : Dec) (hd : DecVs w [x0, x1, x2] [d])
    (ha : Ap w v.ownBlock [x0, x1, x2]) (h63 : n ≤ 100000) (hbase : base ≤ w.heap.size)
    (h : ∀ v' w', OwnD w' base (n + 1) v' (vs ++ [x0, x1, x2]) (D ++ [d]) → w.grownBy w' v.ownBlock → wpList Tryz.prog ops Q rest (a.put o.dst v') w') : wpList Tryz.prog ops Q (o :: rest) a w := by
  obtain ⟨i0, hi, hz0, hz1, hz2⟩ := info_parts Tryz.infoD
  refine wpList_append_own_at w hgd s x 22 ho base 53 i0 _ 3 64 Tryz.underlying22 hi hz0 hz1 hz2 rfl (by decide) v n vs hs hown.row ⟨b, 0, none⟩ 1 c [x0, x1, x2] hx rfl ?_ (hd.one) (by unfold maxLen; omega) (by omega) hbase fun v' w' h2 h3 _ h5 => h v' w' (hown.push hd ha h2 h3 h5) h3
  intro j u hu
  rw [show (⟨b, 0, none⟩ : Addr).add j = ⟨b, j, none⟩ by unfold Addr.add; split <;> simp_all]
  rw [← hu]
  rw [cell_of_row w b j _ _ _ hc]
  simp

abbrev mW (w : World) (k : Nat) (x : Str) : World := (((w.alloc (.cells #[.int .u8 (97 + (k : Int) / 26), .int .u8 (97 + (k : Int) % 26)] 5)).alloc (.cells #[.string ⟨#[116]⟩] 9)).alloc (.cells #[.string (mk x), .slice (some ⟨w.heap.size + 1, 0, none⟩) 1 1, .slice none 0 0] 53)).alloc (.cells #[.string (mk x), .slice (some ⟨w.heap.size + 1, 0, none⟩) 1 1, .slice none 0 0] 53)
theorem mW_is (w : World) (k : Nat) (x : Str) (hx : x.length ≤ maxLen) : Below w.heap.size w (mW w k x) ∧ (mW w k x).heap.size = w.heap.size + 4 ∧ (mW w k x).heap[w.heap.size + 1 + 1 + 1]? = some (.cells #[.string (mk x), .slice (some ⟨w.heap.size + 1, 0, none⟩) 1 1, .slice none 0 0] 53) ∧ DecVs (mW w k x) [.string (mk x), .slice (some ⟨w.heap.size + 1, 0, none⟩) 1 1, .slice none 0 0] [⟨x, [[116]], 0⟩] := by
  have s1 := lit_at (w.alloc (.cells #[.int .u8 (97 + (k : Int) / 26), .int .u8 (97 + (k : Int) % 26)] 5)) [[116]] (by decide) (by decide) (w.heap.size + 1) (by simp) (by decide)
  have s2 := (s1.below (ba _ (.cells #[.string (mk x), .slice (some ⟨w.heap.size + 1, 0, none⟩) 1 1, .slice none 0 0] 53))).below (ba _ (.cells #[.string (mk x), .slice (some ⟨w.heap.size + 1, 0, none⟩) 1 1, .slice none 0 0] 53))
  refine ⟨((((Below.refl _ w).alloc (Nat.le_refl _) _).alloc (by simp) _).alloc (by simp; omega) _).alloc (by simp; omega) _, by simp, ?_, rfl, fun i d hd => ?_⟩
  · have := heap_alloc_new (((w.alloc (.cells #[.int .u8 (97 + (k : Int) / 26), .int .u8 (97 + (k : Int) % 26)] 5)).alloc (.cells #[.string ⟨#[116]⟩] 9)).alloc (.cells #[.string (mk x), .slice (some ⟨w.heap.size + 1, 0, none⟩) 1 1, .slice none 0 0] 53)) (.cells #[.string (mk x), .slice (some ⟨w.heap.size + 1, 0, none⟩) 1 1, .slice none 0 0] 53)
    rwa [World.size_alloc, World.size_alloc, World.size_alloc] at this
  · rcases i with _ | i
    · cases hd
      exact ⟨_, _, none, 0, rfl, rfl, rfl, s2, Nat.le_refl _, Nat.zero_le _, hx⟩
    · simp at hd

end Go.Proofs.YtdeamdpoegdmdaaGreatDoor

/- The walk of the law ClosureLimits. -/
namespace Go.Proofs.YtdeamdpoegdmdaaGreatDoor
open Go.RowKit Go.Maps Go.Shelf

theorem lx_toNat (k : Nat) (hk : k < 100) : (UInt8.ofNat (97 + k)).toNat = 97 + k := by rw [UInt8.toNat_ofNat']; omega
theorem conv_one (k : Nat) (hk : k < 100) (w : World) : (convert 62 9 (.slice (some ⟨w.heap.size, 0, none⟩) 1 1)).run Tryz.prog (w.alloc (.cells #[.int .u8 (97 + (k : Int))] 5)) = .ok (.string (mk [UInt8.ofNat (97 + k)])) (w.alloc (.cells #[.int .u8 (97 + (k : Int))] 5)) := by
  refine run_convert_bytes_back (P := Tryz.prog) _ _ _ 5 ⟨w.heap.size, 0, none⟩ 1 [UInt8.ofNat (97 + k)] Tryz.underlying62 Tryz.underlying5 Tryz.underlying9 (fun j hj => ?_)
  rcases j with _ | j
  · show (w.alloc _).cell? ⟨w.heap.size, 0, none⟩ = some (.int .u8 ((UInt8.ofNat (97 + k)).toNat : Int))
    rw [World.cell?_alloc_new, lx_toNat k hk]
    show some (Value.int .u8 (97 + (k : Int))) = _
    rw [show (97 : Int) + (k : Int) = ((97 + k : Nat) : Int) by omega]
  · simp at hj
theorem one_str (k : Nat) (hk : k < 100) : ∃ y : ByteArray, (∀ w : World, (convert 62 9 (.slice (some ⟨w.heap.size, 0, none⟩) 1 1)).run Tryz.prog (w.alloc (.cells #[.int .u8 (97 + (k : Int))] 5)) = .ok (.string y) (w.alloc (.cells #[.int .u8 (97 + (k : Int))] 5))) ∧ y.size = 1 ∧ (⟨#[120]⟩ : ByteArray) ++ y = mk (lx k) ∧ (⟨#[121]⟩ : ByteArray) ++ y = mk (ly k) := by
  refine ⟨_, conv_one k hk, rfl, ?_, ?_⟩
  · apply ByteArray.ext
    simp [mk, lx]
  · apply ByteArray.ext
    simp [mk, ly]
theorem limX_succ (k : Nat) : limX (k + 1) = limX k ++ [ldX k] := by unfold limX; rw [List.range_succ, List.map_append]; rfl
theorem limY_succ (n k : Nat) : limY n (k + 1) = limY n k ++ [ldY n k] := by unfold limY; rw [List.range_succ, List.map_append, ← List.append_assoc]; rfl
theorem lsup_same (i : Nat) : lsup i (i + 1) = lsup i i := by unfold lsup; rw [List.range_succ, List.filter_append, List.map_append]; simp
theorem lsup_succ (i k : Nat) (h : k ≠ i) : lsup i (k + 1) = lsup i k ++ [lx k] := by unfold lsup; rw [List.range_succ, List.filter_append, List.map_append]; simp [h]
theorem limX_len (k : Nat) : (limX k).length = k + 1 := by simp [limX]
theorem limY_len (n k : Nat) : (limY n k).length = n + 1 + k := by simp [limY, limX]; omega
theorem lim_chk (n : Nat) (h1 : 3 ≤ n) (h2 : n ≤ 9) : chkN (limD n) = 0 := by
  have : n = 3 ∨ n = 4 ∨ n = 5 ∨ n = 6 ∨ n = 7 ∨ n = 8 ∨ n = 9 := by omega
  rcases this with rfl | rfl | rfl | rfl | rfl | rfl | rfl
  · exact lim3_chk
  · exact lim4_chk
  · exact lim5_chk
  · exact lim6_chk
  · exact lim7_chk
  · exact lim8_chk
  · exact lim9_chk
theorem lim_fam (n : Nat) (h1 : 3 ≤ n) (h2 : n < 9) : (fam (limD n)).length = 2 ^ n - 1 := by
  have : n = 3 ∨ n = 4 ∨ n = 5 ∨ n = 6 ∨ n = 7 ∨ n = 8 := by omega
  rcases this with rfl | rfl | rfl | rfl | rfl | rfl
  · exact lim3_fam
  · exact lim4_fam
  · exact lim5_fam
  · exact lim6_fam
  · exact lim7_fam
  · exact lim8_fam
/-- What the call of Codes gives. -/
theorem lim_codes (n : Nat) (h1 : 3 ≤ n) (h2 : n ≤ 9) (w : World) (a : Option Addr) (cap m : Nat) (h : IsDecs w a m cap (limD n)) (hT : S.TabOk w) :
    Calls Tryz.prog 14 #[.slice a m cap] w fun e w' => Below w.heap.size w w' ∧ ((n < 9 ∧ ∃ b c, e = .returned (.tuple #[.slice b (2 ^ n - 1) c, .int .i64 0])) ∨ (n = 9 ∧ e = .returned (.tuple #[.slice none 0 0, .int .i64 7]))) := by
  refine (Codes_any _ _ _ _ _ h hT).mono ?_
  intro e w' hy
  obtain ⟨hb, ⟨h3, _⟩ | ⟨_, h4, b, c, e1, h5⟩ | ⟨_, h3, e1⟩⟩ := hy
  · exact absurd (lim_chk n h1 h2) h3
  · refine ⟨hb, .inl ⟨?_, b, c, ?_⟩⟩
    · rcases Nat.lt_or_ge n 9 with g | g
      · exact g
      · obtain rfl : n = 9 := by omega
        have := lim9_fam
        omega
    · have hn9 : n < 9 := by
        rcases Nat.lt_or_ge n 9 with g | g
        · exact g
        · obtain rfl : n = 9 := by omega
          have := lim9_fam
          omega
      have hl : (tys (limD n)).length = 2 ^ n - 1 := by rw [tys_len (acc_of (lim_chk n h1 h2)), lim_fam n h1 hn9]
      rw [hl] at e1
      exact e1
  · refine ⟨hb, .inr ⟨?_, e1⟩⟩
    rcases Nat.lt_or_ge n 9 with g | g
    · have h6 := lim_fam n h1 g
      have : 2 ^ n ≤ 2 ^ 8 := Nat.pow_le_pow_right (by decide) (by omega)
      omega
    · omega

theorem own_one (w1 : World) (B : Nat) (hB : B ≤ w1.heap.size) : OwnD (w1.alloc (.cells #[.string ⟨#[116]⟩, .slice none 0 0, .slice none 0 0] 53)) B 1 (.slice (some ⟨w1.heap.size, 0, none⟩) 1 1) [.string (mk [116]), .slice none 0 0, .slice none 0 0] (limX 0) :=
  ⟨⟨rfl, .inr ⟨w1.heap.size, 1, #[.string ⟨#[116]⟩, .slice none 0 0, .slice none 0 0], rfl, hB, heap_alloc_new w1 _, Nat.le_refl _, by unfold maxLen; omega, rfl, rfl⟩⟩,
   ⟨rfl, fun i d hd => by
      rcases i with _ | i
      · cases hd
        exact ⟨none, 0, none, 0, rfl, rfl, rfl, IsStrs.nil _, Nat.le_refl _, Nat.zero_le _, by decide⟩
      · simp [limX] at hd⟩,
   fun j sa m c p h1 h2 => by
      rcases j with _ | _ | _ | j
      · cases h1
      · cases h1; cases h2
      · cases h1; cases h2
      · simp at h1⟩
/-- One declaration as three cells. -/
theorem dec_three {w : World} {s : ByteArray} {xm : Str} {zs : List Str} {sv : Value} {sa : Option Addr} {c : Nat} (hs : s = mk xm) (hx : xm.length ≤ maxLen) (hv : sv = .slice sa zs.length c) (h : IsStrs w sa zs.length c zs) : DecVs w [.string s, sv, .slice none 0 0] [⟨xm, zs, 0⟩] := by
  subst hs hv
  refine ⟨rfl, fun i d hd => ?_⟩
  rcases i with _ | i
  · cases hd
    exact ⟨_, _, none, 0, rfl, rfl, rfl, h, Nat.le_refl _, Nat.zero_le _, hx⟩
  · simp at hd
theorem ap_three {w : World} {s : ByteArray} {sa : Option Addr} {m c : Nat} {row : Option Nat} (h : ∀ p : Addr, sa = some p → row ≠ some p.block ∧ p.block < w.heap.size) : Ap w row [.string s, .slice sa m c, .slice none 0 0] := by
  intro j sa' m' c' p h1 h2
  rcases j with _ | _ | _ | j
  · cases h1
  · cases h1; exact h p h2
  · cases h1; cases h2
  · simp at h1

/-- The declaration in the making: its three cells, and the row of its supertypes. -/
def YS (w : World) (g : Nat) (nm : Str) (sv : Value) (zs : List Str) : Prop :=
  w.ownsRow g 53 3 (.slice (some ⟨g, 0, none⟩) 1 1) 1 [.string (mk nm), sv, .slice none 0 0] ∧ w.ownsRow (g + 1) 9 1 sv zs.length (svals zs)
theorem YS.below {w w' : World} {g : Nat} {nm : Str} {sv : Value} {zs : List Str} (h : YS w g nm sv zs) (hb : Below w.heap.size w w') : YS w' g nm sv zs := ⟨owns_below h.1 hb, owns_below h.2 hb⟩
theorem YS.at {w : World} {g : Nat} {nm : Str} {sv : Value} {zs : List Str} (h : YS w g nm sv zs) : w.cell? ⟨g, 0, none⟩ = some (.string (mk nm)) ∧ w.cell? ⟨g, 1, none⟩ = some sv ∧ w.cell? ⟨g, 2, none⟩ = some (.slice none 0 0) := by
  have hc : ∀ j u, [Value.string (mk nm), sv, .slice none 0 0][j]? = some u → w.cell? ⟨g, j, none⟩ = some u := fun j u hu => by
    have := h.1.cells (g := g) rfl j u hu
    rwa [show (⟨g, 0, none⟩ : Addr).add j = ⟨g, j, none⟩ by unfold Addr.add; split <;> simp_all] at this
  exact ⟨hc 0 _ rfl, hc 1 _ rfl, hc 2 _ rfl⟩
theorem YS.start (w2 : World) (nm : Str) : YS (w2.alloc (.cells #[.string (mk nm), .slice none 0 0, .slice none 0 0] 53)) w2.heap.size nm (.slice none 0 0) [] :=
  ⟨⟨rfl, .inr ⟨w2.heap.size, 1, #[.string (mk nm), .slice none 0 0, .slice none 0 0], rfl, Nat.le_refl _, heap_alloc_new w2 _, Nat.le_refl _, by unfold maxLen; omega, rfl, rfl⟩⟩, ⟨rfl, .inl ⟨rfl, rfl⟩⟩⟩
theorem YS.put {w w' : World} {g N : Nat} {nm : Str} {sv v' : Value} {zs zs' : List Str} (h : YS w g nm sv zs) (hr : w'.ownsRow (g + 1) 9 1 v' N (svals zs')) (hg : w.grownBy w' sv.ownBlock) :
    YS (w'.setCell ⟨g, 1, none⟩ v') g nm v' zs' ∧ w'.frozen? ⟨g, 1, none⟩ = false ∧ w'.cell? ⟨g, 1, none⟩ = some sv := by
  obtain ⟨h1, h2⟩ := h
  obtain rfl : N = zs'.length := by have := hr.1; rw [svals_len] at this; omega
  have hne : (Value.slice (some ⟨g, 0, none⟩) 1 1).ownBlock ≠ sv.ownBlock := fun e => by have := (h2.lt g e.symm).1; omega
  have h1' := h1.kept hg (.inr hne)
  have hst := h1'.stored 1 v'
  refine ⟨⟨hst.1, hr.kept hst.2 (.inr fun e => ?_)⟩, h1'.frozenAt 1, ?_⟩
  · have := (hr.lt g e).1; omega
  · have := h1'.cells (g := g) rfl 1 sv rfl
    rwa [show (⟨g, 0, none⟩ : Addr).add 1 = ⟨g, 1, none⟩ by unfold Addr.add; simp] at this
theorem lim_shl (n : Nat) (h1 : 3 ≤ n) (h2 : n < 9) : ((2 ^ n - 1 : Nat) : Int) = wrap64 (wrap64 ((2 : Int) ^ n) - 1) := by
  have : n = 3 ∨ n = 4 ∨ n = 5 ∨ n = 6 ∨ n = 7 ∨ n = 8 := by omega
  rcases this with rfl | rfl | rfl | rfl | rfl | rfl <;> first | decide +kernel | kernel_rfl | (simp [wrap64]; done)
theorem lx_small (k : Nat) : (lx k).length ≤ maxLen := by unfold lx maxLen; simp
theorem ly_small (k : Nat) : (ly k).length ≤ maxLen := by unfold ly maxLen; simp
theorem lsup_small (i k : Nat) : ∀ z ∈ lsup i k, z.length ≤ maxLen := by
  intro z hz
  obtain ⟨m, _, rfl⟩ := List.mem_map.1 hz
  exact lx_small m
theorem lsup_len (i k : Nat) : (lsup i k).length ≤ k := by
  unfold lsup
  rw [List.length_map]
  exact Nat.le_trans (List.length_filter_le _ _) (by simp)

set_option maxRecDepth 100000 in
set_option maxHeartbeats 3200000 in
theorem ClosureLimits_mk (w : World) (j n : Nat) (hj : j < 256) (hn : (3 : Int) + (j : Int) % 7 = n) (hT : S.TabOk w) :
    Calls Tryz.prog 11 #[.int .u8 j] w fun e w' => e = .returned (.bool true) ∧ Below w.heap.size w w' := by
  have HT := Lib.hid hT
  have hn3 : 3 ≤ n := by omega
  have hn9 : n ≤ 9 := by omega
  clear hT
  go_enter Tryz.func11, Tryz.ntmps11
  go_wp2_with fail
  refine (decl4 _ _ _ _ _).mono ?_
  rintro e w1 ⟨rfl, hb1⟩
  have B1 := Lib.hid (hb1.alloc hb1.size (.cells #[.string ⟨#[116]⟩, .slice none 0 0, .slice none 0 0] 53))
  have O1 := Lib.hid (own_one w1 w.heap.size hb1.size)
  clear hb1
  go_wp2_with fail
  try rw [hn]
  go_loopw [4, 5] (fun v u wr => ∃ (k : Nat) (vs : List Value), k ≤ n ∧ u = .int .i64 k ∧ Hid (OwnD wr w.heap.size (k + 1) v vs (limX k)) ∧ Hid (Below w.heap.size w wr)) (fun _ u _ => n - (intOf u).toNat)
  case atStart => exact ⟨0, _, Nat.zero_le _, rfl, O1.out, B1.out⟩
  case round =>
    obtain ⟨k, vs, hk, rfl, hO, hB⟩ := hrel
    by_cases hlt : k < n
    · obtain ⟨y, hcv, hsz, hap, _⟩ := one_str k (by omega)
      have HSU : Hid (limX (k + 1) = limX k ++ [ldX k]) := limX_succ k
      go_wp2_with fail
      refine (decl4 _ _ _ _ _).mono ?_
      rintro e w2 ⟨rfl, hb2⟩
      have hz2 : wr.heap.size + 2 ≤ w2.heap.size := by have := hb2.size; simp at this; omega
      have hzw := hB.out.size
      have b2 : Below wr.heap.size wr w2 := ((ba wr (.cells #[.int .u8 (97 + (k : Int))] 5)).alloc (by simp) (.cells #[.string ⟨#[116]⟩] 9)).trans (hb2.mono (by simp; omega))
      have s2 := (lit_at (wr.alloc (.cells #[.int .u8 (97 + (k : Int))] 5)) [[116]] (by decide) (by decide) (wr.heap.size + 1) (by simp) (by decide)).below hb2
      have O2 := Lib.hid (hO.out.below b2)
      have B2 := Lib.hid (hB.out.trans (b2.mono hzw))
      have D3 := Lib.hid (dec_three (s := mk (lx k)) (xm := lx k) (zs := [[116]]) rfl (by unfold lx maxLen; simp) rfl (s2.below (ba w2 (.cells #[.string (mk (lx k)), .slice (some ⟨wr.heap.size + 1, 0, none⟩) 1 1, .slice none 0 0] 53))))
      have A3 := Lib.hid (ap_three (w := w2.alloc (.cells #[.string (mk (lx k)), .slice (some ⟨wr.heap.size + 1, 0, none⟩) 1 1, .slice none 0 0] 53)) (s := mk (lx k)) (sa := some ⟨wr.heap.size + 1, 0, none⟩) (m := 1) (c := 1) (row := u4.ownBlock) (fun p hp => by
        cases hp
        refine ⟨fun e => ?_, by simp; omega⟩
        have := (hO.out.row.lt _ e).2
        try dsimp only at this
        omega))
      clear hb2 b2 s2
      go_wp2_with (at_builtin; refine wpList_append_dec (w := w2.alloc (.cells #[.string (mk (lx k)), .slice (some ⟨wr.heap.size + 1, 0, none⟩) 1 1, .slice none 0 0] 53)) rfl _ _ rfl w.heap.size u4 (k + 1) vs _ rfl (O2.out.below (ba w2 _)) w2.heap.size 1 _ _ _ rfl (heap_alloc_new w2 _) ⟨lx k, [[116]], 0⟩ D3.out A3.out (by omega) (by simp; omega) ?_; intro v5 w5 hown5 hgrow5; have O5 := Lib.hid hown5; have B5 := Lib.hid (grown_below (B2.out.alloc B2.out.size (.cells #[.string (mk (lx k)), .slice (some ⟨wr.heap.size + 1, 0, none⟩) 1 1, .slice none 0 0] 53)) (by simp; omega) (O2.out.below (ba w2 _)).row hgrow5); clear hown5 hgrow5)
      go_roundw
      case rel => exact ⟨k + 1, _, by omega, by go_num, (by have := O5.out; rw [show (⟨lx k, [[116]], 0⟩ : Dec) = ldX k from rfl, ← HSU.out] at this; exact this), B5.out⟩
      case measure => simp [intOf]; omega
    · obtain rfl : n = k := by omega
      go_wp2_with fail
      go_loopw [4, 6] (fun v u wr => ∃ (k : Nat) (vs : List Value), k ≤ n ∧ u = .int .i64 k ∧ Hid (OwnD wr w.heap.size (n + 1 + k) v vs (limY n k)) ∧ Hid (Below w.heap.size w wr)) (fun _ u _ => n - (intOf u).toNat)
      case atStart => exact ⟨0, vs, Nat.zero_le _, rfl, (by show OwnD _ _ _ _ _ _; have := hO.out; rwa [show limY n 0 = limX n by unfold limY; simp]), hB⟩
      case round =>
        obtain ⟨k, vs, hk, rfl, hO, hB⟩ := hrel
        by_cases hlt : k < n
        · obtain ⟨y, hcv, hsz, _, hap⟩ := one_str k (by omega)
          have HSU : Hid (limY n (k + 1) = limY n k ++ [ldY n k]) := limY_succ n k
          go_wp2_with fail
          refine (decl4 _ _ _ _ _).mono ?_
          rintro e w2 ⟨rfl, hb2⟩
          have hz2 : wr.heap.size + 1 ≤ w2.heap.size := by have := hb2.size; simp at this; omega
          have hzw := hB.out.size
          have b2 : Below wr.heap.size wr w2 := (ba wr (.cells #[.int .u8 (97 + (k : Int))] 5)).trans (hb2.mono (by simp))
          have O2 := Lib.hid (hO.out.below b2)
          have B2 := Lib.hid (hB.out.trans (b2.mono hzw))
          have L2 := Lib.hid hO.out.row.lt
          clear hb2 b2 hO
          go_wp2_with fail
          go_loopw [8] (fun u wi => ∃ (m : Nat) (sv : Value), m ≤ n ∧ u = .int .i64 m ∧ Hid (YS wi w2.heap.size (ly k) sv (lsup k m)) ∧ Hid (Below w2.heap.size w2 wi)) (fun u _ => n - (intOf u).toNat)
          case atStart => exact ⟨0, _, Nat.zero_le _, rfl, YS.start w2 (ly k), ba w2 _⟩
          case round =>
            obtain ⟨m, sv, hm, rfl, hY, hI⟩ := hrel
            obtain ⟨wi, hwi⟩ : ∃ wi : World, wi = wr := ⟨_, rfl⟩
            subst hwi
            have hzi := hI.out.size
            by_cases hlm : m < n
            · by_cases hmk : m = k
              · have hmk' : (m : Int) = (k : Int) := by omega
                go_wp2_with fail
                go_roundw
                case rel => exact ⟨m + 1, sv, by omega, by go_num, (by have := hY.out; show YS _ _ _ _ _; subst hmk; rw [lsup_same]; exact this), hI⟩
                case measure => simp [intOf]; omega
              · have hmk' : (m : Int) ≠ (k : Int) := by omega
                obtain ⟨y2, hcv2, hsz2, hap2, _⟩ := one_str m (by omega)
                have c1 := hY.out.at.2.1
                have hl := lsup_len k m
                have bw : Below wi.heap.size wi ((wi.alloc (.cells #[.int .u8 (97 + (m : Int))] 5)).alloc (.cells #[.string (mk (lx m))] 9)) := (ba wi _).alloc (by simp) _
                have Y3 := Lib.hid (hY.out.below bw)
                have BW := Lib.hid (hI.out.trans (bw.mono hzi))
                have S3 := Lib.hid (lit_at (wi.alloc (.cells #[.int .u8 (97 + (m : Int))] 5)) [lx m] (by intro z hz; rw [List.mem_singleton.1 hz]; exact lx_small m) (by show 1 ≤ maxLen; decide) (wi.heap.size + 1) (by simp) (by show 0 < 1; decide))
                clear bw
                go_wp2_with (at_builtin; refine wpList_append_strs (w := (wi.alloc (.cells #[.int .u8 (97 + (m : Int))] 5)).alloc (.cells #[.string (mk (lx m))] 9)) rfl _ _ rfl (w2.heap.size + 1) sv (lsup k m).length (lsup k m) rfl Y3.out.2 (some ⟨wi.heap.size + 1, 0, none⟩) 1 1 [lx m] rfl S3.out (by omega) (by have := BW.out.size; have := (Y3.out.1.lt w2.heap.size rfl).2; omega) ?_; intro v5 w5 hr5 hg5; obtain ⟨f5, fc5, rfl, _, _⟩ := hr5.form (by omega); have P5 := Lib.hid (Y3.out.put hr5 hg5); have f5 := P5.out.2.1; have c5 := P5.out.2.2; have B5 := Lib.hid (BW.out.grown hg5 BW.out.size (fun j e => by have := (Y3.out.2.lt j e).1; omega)); clear hr5 hg5)
                go_roundw
                case rel => exact ⟨m + 1, _, by omega, by go_num, (by show YS _ _ _ _ _; rw [lsup_succ k m hmk]; exact P5.out.1), B5.out.setCell (p := ⟨w2.heap.size, 1, none⟩) (Nat.le_refl _) _⟩
                case measure => simp [intOf]; omega
            · obtain rfl : n = m := by omega
              obtain ⟨c0, c1, c2⟩ := hY.out.at
              obtain ⟨sa, sc, rfl, hS⟩ := IsStrs.of_owns hY.out.2 (lsup_small k n)
              obtain ⟨q, hq⟩ : ∃ q, (lsup k n).length = q := ⟨_, rfl⟩
              have hl := lsup_len k n
              have O3 := Lib.hid (O2.out.below hI.out)
              have B3 := Lib.hid (B2.out.trans (hI.out.mono B2.out.size))
              have D3 := Lib.hid (dec_three (s := mk (ly k)) (xm := ly k) (zs := lsup k n) rfl (ly_small k) rfl (hS.below (ba wi (.cells #[.string (mk (ly k)), .slice sa (lsup k n).length sc, .slice none 0 0] 53))))
              have A3 := Lib.hid (ap_three (w := wi.alloc (.cells #[.string (mk (ly k)), .slice sa (lsup k n).length sc, .slice none 0 0] 53)) (s := mk (ly k)) (sa := sa) (m := (lsup k n).length) (c := sc) (row := u4.ownBlock) (fun p hp => by
                have h7 := hY.out.2.lt p.block (by rw [hp]; rfl)
                refine ⟨fun e => ?_, by simp; omega⟩
                have := (L2.out _ e).2
                try dsimp only at this
                omega))
              rw [hq] at c1 D3 A3
              have hzw2 := B3.out.size
              go_wp2_with (at_builtin; refine wpList_append_dec (w := wi.alloc (.cells #[.string (mk (ly k)), .slice sa q sc, .slice none 0 0] 53)) rfl _ _ rfl w.heap.size u4 (n + 1 + k) vs _ rfl (O3.out.below (ba wi _)) wi.heap.size 1 _ _ _ rfl (heap_alloc_new wi _) ⟨ly k, lsup k n, 0⟩ D3.out A3.out (by omega) (by simp; omega) ?_; intro v5 w5 hown5 hgrow5; have O5 := Lib.hid hown5; have B5 := Lib.hid (grown_below (B3.out.alloc B3.out.size (.cells #[.string (mk (ly k)), .slice sa q sc, .slice none 0 0] 53)) (by simp; omega) (O3.out.below (ba wi _)).row hgrow5); clear hown5 hgrow5)
              go_roundw
              case rel => exact ⟨k + 1, _, by omega, by go_num, (by have := O5.out; rw [show (⟨ly k, lsup k n, 0⟩ : Dec) = ldY n k from rfl, ← HSU.out] at this; exact this), B5.out⟩
              case measure => simp [intOf]; omega
        · obtain rfl : n = k := by omega
          obtain ⟨da, dc, rfl, hD⟩ := IsDecs.of_owns hO.out.row hO.out.dec (limY_len n n)
          have HD := Lib.hid hD
          clear hD hO
          go_wp2_with fail
          refine (lim_codes n hn3 hn9 _ _ _ _ HD.out (HT.out.below hB.out)).mono ?_
          rintro e w3 ⟨hb3, ⟨h9, b, c, rfl⟩ | ⟨h9, rfl⟩⟩
          · have h9' : (n : Int) < 9 := by omega
            have h9n : (n : Int) ≠ 9 := by omega
            have hs := lim_shl n hn3 h9
            have B3 := Lib.hid (hB.out.trans (hb3.mono hB.out.size))
            go_wp2_with (go_at_call 13; refine (ex4_holds _ (HT.out.below B3.out)).mono ?_; rintro e w4 ⟨rfl, hb4⟩)
            all_goals first
              | (go_ret; exact ⟨rfl, B3.out.trans (hb4.mono B3.out.size)⟩)
              | (exfalso; simp_all; done)
          · have h9' : (n : Int) = 9 := by omega
            have B3 := Lib.hid (hB.out.trans (hb3.mono hB.out.size))
            go_wp2_with (go_at_call 13; refine (ex4_holds _ (HT.out.below B3.out)).mono ?_; rintro e w4 ⟨rfl, hb4⟩)
            go_ret
            exact ⟨rfl, B3.out.trans (hb4.mono B3.out.size)⟩

theorem ClosureLimits_law (w : World) (j : Nat) (hj : j < 256) (hT : S.TabOk w) :
    Calls Tryz.prog 11 #[.int .u8 j] w fun e w' => e = .returned (.bool true) ∧ Below w.heap.size w w' := by
  obtain ⟨n, hn⟩ : ∃ n : Nat, (3 : Int) + (j : Int) % 7 = n := ⟨(3 + (j : Int) % 7).toNat, by omega⟩
  exact ClosureLimits_mk w j n hj hn hT

end Go.Proofs.YtdeamdpoegdmdaaGreatDoor
