/- Plain: the number of the one bits of a word, and the way in which math/bits counts them. Imports no program. -/
namespace Go.Proofs.YtlphlbhbhcpnpaaDoor

def popN : Nat → Nat → Nat
  | 0, _ => 0
  | n + 1, x => x % 2 + popN n (x / 2)
def pop (x : Nat) : Nat := popN 64 x

theorem popN_le : ∀ n x, popN n x ≤ n
  | 0, _ => Nat.le_refl _
  | n + 1, x => by have := popN_le n (x / 2); simp only [popN]; omega

theorem popN_8 (n d y : Nat) (h : d < 256) : popN (n + 8) (d + 256 * y) = popN 8 d + popN n y := by
  have e : (d + 256 * y) / 2 / 2 / 2 / 2 / 2 / 2 / 2 / 2 = y := by omega
  simp only [popN, e]
  omega

/-- The number of these bytes, the least first. -/
def val : List Nat → Nat
  | [] => 0
  | d :: l => d + 256 * val l
/-- The mask that bears this byte n times. -/
def msk (c : Nat) : Nat → Nat
  | 0 => 0
  | n + 1 => c + 256 * msk c n

theorem and_byte (d c y m : Nat) (hd : d < 256) (hc : c < 256) : (d + 256 * y) &&& (c + 256 * m) = (d &&& c) + 256 * (y &&& m) := by
  have h1 : ((d + 256 * y) &&& (c + 256 * m)) % 2 ^ 8 = (d &&& c) := by
    rw [Nat.and_mod_two_pow]
    rw [show (d + 256 * y) % 2 ^ 8 = d by omega, show (c + 256 * m) % 2 ^ 8 = c by omega]
  have h2 : ((d + 256 * y) &&& (c + 256 * m)) / 2 ^ 8 = (y &&& m) := by
    rw [Nat.and_div_two_pow]
    rw [show (d + 256 * y) / 2 ^ 8 = y by omega, show (c + 256 * m) / 2 ^ 8 = m by omega]
  omega

def b1 (d : Nat) : Nat := (d / 2 &&& 85) + (d &&& 85)
def b2 (d : Nat) : Nat := (d / 4 &&& 51) + (d &&& 51)
def b3 (d : Nat) : Nat := (d / 16 + d) &&& 15

theorem b1_top : ∀ d, d < 256 → ∀ t, t < 2 → (d / 2 + 128 * t) &&& 85 = d / 2 &&& 85 := by decide +kernel
theorem b2_top : ∀ d, d < 256 → ∀ t, t < 4 → (d / 4 + 64 * t) &&& 51 = d / 4 &&& 51 := by decide +kernel
theorem b3_top : ∀ d, d < 69 → ∀ t, t < 5 → (d / 16 + d + 16 * t) &&& 15 = b3 d := by decide +kernel
theorem b1_lt : ∀ d, d < 256 → b1 d < 256 := by decide +kernel
theorem b2_lt : ∀ d, d < 256 → b2 (b1 d) < 69 ∧ b2 (b1 d) % 16 < 5 := by decide +kernel
theorem b3_pop : ∀ d, d < 256 → b3 (b2 (b1 d)) = popN 8 d := by decide +kernel

def S1 (n x : Nat) : Nat := (x / 2 &&& msk 85 n) + (x &&& msk 85 n)
def S2 (n x : Nat) : Nat := (x / 4 &&& msk 51 n) + (x &&& msk 51 n)
def S3 (n x : Nat) : Nat := (x / 16 + x) &&& msk 15 n

theorem S1_val : ∀ l : List Nat, (∀ d ∈ l, d < 256) → S1 l.length (val l) = val (l.map b1)
  | [], _ => rfl
  | d :: l, h => by
    have ih := S1_val l (fun x hx => h x (by simp [hx]))
    have hd := h d (by simp)
    unfold S1 at ih ⊢
    simp only [val, List.length_cons, msk, List.map_cons]
    rw [show (d + 256 * val l) / 2 = (d / 2 + 128 * (val l % 2)) + 256 * (val l / 2) by omega]
    rw [and_byte _ _ _ _ (by omega) (by omega), and_byte _ _ _ _ hd (by omega), b1_top d hd _ (by omega), ← ih, b1]
    omega
theorem S2_val : ∀ l : List Nat, (∀ d ∈ l, d < 256) → S2 l.length (val l) = val (l.map b2)
  | [], _ => rfl
  | d :: l, h => by
    have ih := S2_val l (fun x hx => h x (by simp [hx]))
    have hd := h d (by simp)
    unfold S2 at ih ⊢
    simp only [val, List.length_cons, msk, List.map_cons]
    rw [show (d + 256 * val l) / 4 = (d / 4 + 64 * (val l % 4)) + 256 * (val l / 4) by omega]
    rw [and_byte _ _ _ _ (by omega) (by omega), and_byte _ _ _ _ hd (by omega), b2_top d hd _ (by omega), ← ih, b2]
    omega
theorem S3_val : ∀ l : List Nat, (∀ d ∈ l, d < 69 ∧ d % 16 < 5) → S3 l.length (val l) = val (l.map b3)
  | [], _ => rfl
  | d :: l, h => by
    have ih := S3_val l (fun x hx => h x (by simp [hx]))
    have hd := (h d (by simp)).1
    have hy : val l % 16 < 5 := by
      cases l with
      | nil => simp [val]
      | cons e l => have := (h e (by simp)).2; simp only [val]; omega
    unfold S3 at ih ⊢
    simp only [val, List.length_cons, msk, List.map_cons]
    rw [show (d + 256 * val l) / 16 + (d + 256 * val l) = (d / 16 + d + 16 * (val l % 16)) + 256 * (val l / 16 + val l) by omega]
    rw [and_byte _ _ _ _ (by omega) (by omega), b3_top d hd _ hy, ← ih]

def bytes8 (x : Nat) : List Nat := [x % 256, x / 256 % 256, x / 65536 % 256, x / 16777216 % 256, x / 4294967296 % 256, x / 1099511627776 % 256, x / 281474976710656 % 256, x / 72057594037927936 % 256]

def s1 (x : Nat) : Nat := (x / 2 &&& 6148914691236517205) + (x &&& 6148914691236517205)
def s2 (x : Nat) : Nat := (s1 x / 4 &&& 3689348814741910323) + (s1 x &&& 3689348814741910323)
def s3 (x : Nat) : Nat := (s2 x / 16 + s2 x) &&& 1085102592571150095
def s4 (x : Nat) : Nat := s3 x + s3 x / 256
def s5 (x : Nat) : Nat := s4 x + s4 x / 65536
def s6 (x : Nat) : Nat := s5 x + s5 x / 4294967296

theorem val_bytes8 (x : Nat) (h : x < 18446744073709551616) : val (bytes8 x) = x := by simp only [bytes8, val]; omega
theorem bytes8_lt (x : Nat) : ∀ d ∈ bytes8 x, d < 256 := by
  intro d hd
  simp only [bytes8, List.mem_cons, List.mem_nil_iff, or_false] at hd
  omega

theorem s1_eq (x : Nat) (h : x < 18446744073709551616) : s1 x = val ((bytes8 x).map b1) := by
  rw [← S1_val _ (bytes8_lt x), val_bytes8 x h]; rfl
theorem s2_eq (x : Nat) (h : x < 18446744073709551616) : s2 x = val ((bytes8 x).map fun d => b2 (b1 d)) := by
  have hb : ∀ d ∈ (bytes8 x).map b1, d < 256 := by
    intro d hd
    obtain ⟨e, he, rfl⟩ := List.mem_map.1 hd
    exact b1_lt e (bytes8_lt x e he)
  have := S2_val _ hb
  rw [List.map_map] at this
  rw [show (fun d => b2 (b1 d)) = b2 ∘ b1 from rfl, ← this, ← s1_eq x h]
  rfl
theorem s3_eq (x : Nat) (h : x < 18446744073709551616) : s3 x = val ((bytes8 x).map (popN 8)) := by
  have hb : ∀ d ∈ (bytes8 x).map (fun d => b2 (b1 d)), d < 69 ∧ d % 16 < 5 := by
    intro d hd
    obtain ⟨e, he, rfl⟩ := List.mem_map.1 hd
    exact b2_lt e (bytes8_lt x e he)
  have := S3_val _ hb
  rw [List.map_map] at this
  have e : (bytes8 x).map (popN 8) = (bytes8 x).map (b3 ∘ fun d => b2 (b1 d)) := List.map_congr_left fun d hd => (b3_pop d (bytes8_lt x d hd)).symm
  rw [e, ← this, ← s2_eq x h]
  rfl

theorem popN_val : ∀ l : List Nat, (∀ d ∈ l, d < 256) → popN (8 * l.length) (val l) = (l.map (popN 8)).sum
  | [], _ => rfl
  | d :: l, h => by
    have ih := popN_val l (fun x hx => h x (by simp [hx]))
    simp only [val, List.length_cons, List.map_cons, List.sum_cons, Nat.mul_add, Nat.mul_one]
    rw [popN_8 _ _ _ (h d (by simp)), ih]

theorem pop_val (x : Nat) (h : x < 18446744073709551616) : pop x = ((bytes8 x).map (popN 8)).sum := by
  have := popN_val _ (bytes8_lt x)
  rw [val_bytes8 x h] at this
  exact this

theorem val_le (c : Nat) : ∀ l : List Nat, (∀ d ∈ l, d ≤ c) → val l ≤ c * msk 1 l.length
  | [], _ => Nat.zero_le _
  | d :: l, h => by
    have ih := val_le c l (fun x hx => h x (by simp [hx]))
    have hd := h d (by simp)
    simp only [val, List.length_cons, msk, Nat.mul_add, Nat.mul_one]
    rw [Nat.mul_left_comm]
    omega
theorem bytes8_len (x : Nat) : (bytes8 x).length = 8 := rfl
theorem s1_lt (x : Nat) (h : x < 18446744073709551616) : s1 x < 18446744073709551616 := by
  rw [s1_eq x h]
  have := val_le 255 ((bytes8 x).map b1) (by
    intro d hd
    obtain ⟨e, he, rfl⟩ := List.mem_map.1 hd
    have := b1_lt e (bytes8_lt x e he)
    omega)
  rw [List.length_map, bytes8_len] at this
  exact Nat.lt_of_le_of_lt this (by decide)
theorem s2_lt (x : Nat) (h : x < 18446744073709551616) : s2 x ≤ 4919131752989213764 := by
  rw [s2_eq x h]
  have := val_le 68 ((bytes8 x).map fun d => b2 (b1 d)) (by
    intro d hd
    obtain ⟨e, he, rfl⟩ := List.mem_map.1 hd
    have := (b2_lt e (bytes8_lt x e he)).1
    omega)
  rw [List.length_map, bytes8_len] at this
  exact Nat.le_trans this (by decide)

theorem lane1 (a b : Nat) (h : a < 256) : (a + 256 * b) / 256 = b := by omega
theorem lane2 (a b c : Nat) (h : a < 256) (h' : b < 256) : (a + 256 * (b + 256 * c)) / 65536 = c := by omega
theorem lane4 (a b c d e : Nat) (h : a < 256) (h' : b < 256) (h2 : c < 256) (h3 : d < 256) : (a + 256 * (b + 256 * (c + 256 * (d + 256 * e)))) / 4294967296 = e := by omega
theorem low7 (a b : Nat) (h : a < 128) : (a + 256 * b) % 128 = a := by omega

theorem s_bounds (x : Nat) (h : x < 18446744073709551616) : s1 x < 18446744073709551616 ∧ s2 x < 18446744073709551616 ∧ s2 x / 16 + s2 x < 18446744073709551616 ∧ s3 x < 18446744073709551616 ∧ s4 x < 18446744073709551616 ∧ s5 x < 18446744073709551616 ∧ s6 x < 9223372036854775808 ∧ s6 x % 128 = pop x := by
  have k1 := s1_lt x h
  have k2 := s2_lt x h
  have e3 := s3_eq x h
  have ep := pop_val x h
  simp only [bytes8, List.map_cons, List.map_nil, val, List.sum_cons, List.sum_nil] at e3 ep
  have h0 := popN_le 8 (x % 256)
  have h1 := popN_le 8 (x / 256 % 256)
  have h2 := popN_le 8 (x / 65536 % 256)
  have h3 := popN_le 8 (x / 16777216 % 256)
  have h4 := popN_le 8 (x / 4294967296 % 256)
  have h5 := popN_le 8 (x / 1099511627776 % 256)
  have h6 := popN_le 8 (x / 281474976710656 % 256)
  have h7 := popN_le 8 (x / 72057594037927936 % 256)
  generalize popN 8 (x % 256) = p0 at *
  generalize popN 8 (x / 256 % 256) = p1 at *
  generalize popN 8 (x / 65536 % 256) = p2 at *
  generalize popN 8 (x / 16777216 % 256) = p3 at *
  generalize popN 8 (x / 4294967296 % 256) = p4 at *
  generalize popN 8 (x / 1099511627776 % 256) = p5 at *
  generalize popN 8 (x / 281474976710656 % 256) = p6 at *
  generalize popN 8 (x / 72057594037927936 % 256) = p7 at *
  generalize pop x = q at *
  have e4 : s4 x = p0 + p1 + 256 * (p1 + p2 + 256 * (p2 + p3 + 256 * (p3 + p4 + 256 * (p4 + p5 + 256 * (p5 + p6 + 256 * (p6 + p7 + 256 * (p7 + 256 * 0))))))) := by
    unfold s4
    rw [e3, lane1 _ _ (by omega)]
    clear e3 k1 k2 h0 h1 h2 h3 h4 h5 h6 h7 ep h
    omega
  have e5 : s5 x = p0 + p1 + p2 + p3 + 256 * (p1 + p2 + p3 + p4 + 256 * (p2 + p3 + p4 + p5 + 256 * (p3 + p4 + p5 + p6 + 256 * (p4 + p5 + p6 + p7 + 256 * (p5 + p6 + p7 + 256 * (p6 + p7 + 256 * (p7 + 256 * 0))))))) := by
    unfold s5
    rw [e4, lane2 _ _ _ (by omega) (by omega)]
    clear e4 e3 k1 k2 h0 h1 h2 h3 h4 h5 h6 h7 ep h
    omega
  have e6 : s6 x = p0 + p1 + p2 + p3 + p4 + p5 + p6 + p7 + 256 * (p1 + p2 + p3 + p4 + p5 + p6 + p7 + 256 * (p2 + p3 + p4 + p5 + p6 + p7 + 256 * (p3 + p4 + p5 + p6 + p7 + 256 * (p4 + p5 + p6 + p7 + 256 * (p5 + p6 + p7 + 256 * (p6 + p7 + 256 * (p7 + 256 * 0))))))) := by
    unfold s6
    rw [e5, lane4 _ _ _ _ _ (by omega) (by omega) (by omega) (by omega)]
    clear e5 e4 e3 k1 k2 h0 h1 h2 h3 h4 h5 h6 h7 ep h
    omega
  refine ⟨k1, by clear e3 e4 e5 e6; omega, by clear e3 e4 e5 e6; omega, ?_, ?_, ?_, ?_, ?_⟩
  · rw [e3]; clear e3 e4 e5 e6 k1 k2 ep; omega
  · rw [e4]; clear e3 e4 e5 e6 k1 k2 ep; omega
  · rw [e5]; clear e3 e4 e5 e6 k1 k2 ep; omega
  · rw [e6]; clear e3 e4 e5 e6 k1 k2 ep; omega
  · rw [e6, low7 _ _ (by clear e3 e4 e5 e6 k1 k2 ep; omega), ep]; clear e3 e4 e5 e6 k1 k2 ep; omega
end Go.Proofs.YtlphlbhbhcpnpaaDoor
