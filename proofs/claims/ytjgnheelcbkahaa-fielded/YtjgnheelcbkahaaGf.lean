/-
  PLAIN MATHEMATICS, NO Go: bytes as the field of 256 by the number 285, products as the program makes them (double and add), over Nat.
-/
namespace Go.Proofs.Ytjgnheelcbkahaa.Gf

/-- the product with x -/
def dbl (a : Nat) : Nat := if 255 < 2 * a then (2 * a) ^^^ 285 else 2 * a

/-- n rounds of double and add -/
def gm : Nat → Nat → Nat → Nat → Nat
  | 0, _, _, p => p
  | n + 1, a, b, p => gm n (dbl a) (b / 2) (if b % 2 = 1 then p ^^^ a else p)

def mul (a b : Nat) : Nat := gm 8 a b 0

theorem gm_zero (n a p : Nat) : gm n a 0 p = p := by
  induction n generalizing a with
  | zero => rfl
  | succ n ih => rw [gm]; simpa using ih (dbl a)

theorem dbl_lt (a : Nat) (h : a < 256) : dbl a < 256 := by
  have : ∀ a : Fin 256, dbl a.val < 256 := by decide +kernel
  exact this ⟨a, h⟩

theorem xor_lt (a b : Nat) (ha : a < 256) (hb : b < 256) : a ^^^ b < 256 := Nat.xor_lt_two_pow (n := 8) ha hb

theorem gm_lt (n a b p : Nat) (ha : a < 256) (hp : p < 256) : gm n a b p < 256 := by
  induction n generalizing a b p with
  | zero => exact hp
  | succ n ih =>
    unfold gm
    apply ih _ _ _ (dbl_lt a ha)
    split
    · exact xor_lt _ _ hp ha
    · exact hp

theorem mul_lt (a b : Nat) (ha : a < 256) : mul a b < 256 := gm_lt 8 a b 0 ha (by decide)

theorem xor4 (a b c d : Nat) : (a ^^^ b) ^^^ (c ^^^ d) = (a ^^^ c) ^^^ (b ^^^ d) := by
  rw [Nat.xor_assoc, ← Nat.xor_assoc b c d, Nat.xor_comm b c, Nat.xor_assoc c b d, ← Nat.xor_assoc]

theorem two_mul_xor (a b : Nat) : 2 * (a ^^^ b) = (2 * a) ^^^ (2 * b) := by
  have := Nat.shiftLeft_xor_distrib (a := a) (b := b) (i := 1)
  simpa [Nat.shiftLeft_eq, Nat.mul_comm] using this

theorem top_xor (a b : Nat) (ha : a < 256) (hb : b < 256) : (128 ≤ a ^^^ b) ↔ ¬ ((128 ≤ a) ↔ (128 ≤ b)) := by
  have h : ∀ x : Nat, x < 256 → ((128 ≤ x) ↔ x.testBit 7 = true) := by
    intro x hx
    have : ∀ x : Fin 256, ((128 ≤ x.val) ↔ x.val.testBit 7 = true) := by decide +kernel
    exact this ⟨x, hx⟩
  rw [h _ (xor_lt a b ha hb), h a ha, h b hb, Nat.testBit_xor]
  cases a.testBit 7 <;> cases b.testBit 7 <;> simp

theorem dbl_eq (a : Nat) : dbl a = (2 * a) ^^^ (if 128 ≤ a then 285 else 0) := by
  unfold dbl
  by_cases h : 128 ≤ a
  · rw [if_pos (by omega), if_pos h]
  · rw [if_neg (by omega), if_neg h, Nat.xor_zero]

theorem dbl_xor (a b : Nat) (ha : a < 256) (hb : b < 256) : dbl (a ^^^ b) = dbl a ^^^ dbl b := by
  rw [dbl_eq, dbl_eq a, dbl_eq b, xor4, two_mul_xor]
  congr 1
  have h := top_xor a b ha hb
  by_cases h1 : 128 ≤ a <;> by_cases h2 : 128 ≤ b <;> simp [h1, h2] at h ⊢ <;> omega

theorem gm_xor_left (n a a' b p p' : Nat) (ha : a < 256) (ha' : a' < 256) :
    gm n (a ^^^ a') b (p ^^^ p') = gm n a b p ^^^ gm n a' b p' := by
  induction n generalizing a a' b p p' with
  | zero => rfl
  | succ n ih =>
    unfold gm
    rw [dbl_xor a a' ha ha', ← ih _ _ _ _ _ (dbl_lt a ha) (dbl_lt a' ha')]
    by_cases h : b % 2 = 1
    · simp only [if_pos h]; rw [xor4]
    · simp only [if_neg h]

theorem xor_mod_two (b b' : Nat) : (b ^^^ b') % 2 = (b % 2 + b' % 2) % 2 := by
  have h1 := Nat.xor_mod_two_pow (a := b) (b := b') (n := 1)
  rw [Nat.pow_one] at h1
  rw [h1]
  rcases Nat.mod_two_eq_zero_or_one b with h | h <;> rcases Nat.mod_two_eq_zero_or_one b' with h' | h' <;> rw [h, h'] <;> decide

theorem xor_div_two (b b' : Nat) : (b ^^^ b') / 2 = b / 2 ^^^ b' / 2 := Nat.xor_div_two

theorem gm_xor_right (n a b b' p p' : Nat) :
    gm n a (b ^^^ b') (p ^^^ p') = gm n a b p ^^^ gm n a b' p' := by
  induction n generalizing a b b' p p' with
  | zero => rfl
  | succ n ih =>
    unfold gm
    rw [xor_div_two, ← ih]
    have hm := xor_mod_two b b'
    by_cases h : b % 2 = 1 <;> by_cases h' : b' % 2 = 1
    · rw [if_neg (by omega), if_pos h, if_pos h', xor4, Nat.xor_self, Nat.xor_zero]
    · rw [if_pos (by omega), if_pos h, if_neg h', Nat.xor_assoc, Nat.xor_comm p' a, ← Nat.xor_assoc]
    · rw [if_pos (by omega), if_neg h, if_pos h', ← Nat.xor_assoc]
    · rw [if_neg (by omega), if_neg h, if_neg h']

theorem mul_xor_left (a a' b : Nat) (ha : a < 256) (ha' : a' < 256) : mul (a ^^^ a') b = mul a b ^^^ mul a' b := by
  have := gm_xor_left 8 a a' b 0 0 ha ha'
  simpa [mul] using this

theorem mul_xor_right (a b b' : Nat) : mul a (b ^^^ b') = mul a b ^^^ mul a b' := by
  have := gm_xor_right 8 a b b' 0 0
  simpa [mul] using this

/-- what holds of 0, of the bits, and of sums holds of all bytes -/
theorem span (P : Nat → Prop) (h0 : P 0) (hx : ∀ a b, a < 256 → b < 256 → P a → P b → P (a ^^^ b)) (hb : ∀ i : Fin 8, P (2 ^ i.val)) (a : Nat) (ha : a < 256) : P a := by
  have key : ∀ k : Nat, k ≤ 8 → ∀ a, a < 2 ^ k → P a := by
    intro k
    induction k with
    | zero => intro _ a ha; have : a = 0 := by simpa using ha
              rw [this]; exact h0
    | succ k ih =>
      intro hk a ha
      by_cases h : a < 2 ^ k
      · exact ih (by omega) a h
      · have hp : 2 ^ (k + 1) = 2 ^ k + 2 ^ k := by rw [Nat.pow_succ]; omega
        have hle : 2 ^ (k + 1) ≤ 2 ^ 8 := Nat.pow_le_pow_right (by decide) hk
        have hs : a - 2 ^ k < 2 ^ k := by omega
        have e : ∀ k : Fin 8, ∀ r : Fin 128, r.val < 2 ^ k.val → r.val ^^^ 2 ^ k.val = r.val + 2 ^ k.val := by decide +kernel
        have e1 := e ⟨k, by omega⟩ ⟨a - 2 ^ k, by omega⟩ hs
        simp only at e1
        have e2 : a = (a - 2 ^ k) ^^^ 2 ^ k := by rw [e1]; omega
        rw [e2]
        exact hx _ _ (by omega) (by omega) (ih (by omega) _ hs) (hb ⟨k, by omega⟩)
  exact key 8 (by decide) a ha

theorem zero_mul (b : Nat) (hb : b < 256) : mul 0 b = 0 := by
  have : ∀ b : Fin 256, mul 0 b.val = 0 := by decide +kernel
  exact this ⟨b, hb⟩

theorem mul_zero (a : Nat) (ha : a < 256) : mul a 0 = 0 := by
  have : ∀ b : Fin 256, mul b.val 0 = 0 := by decide +kernel
  exact this ⟨a, ha⟩

theorem mul_one (a : Nat) (ha : a < 256) : mul a 1 = a := by
  have : ∀ b : Fin 256, mul b.val 1 = b.val := by decide +kernel
  exact this ⟨a, ha⟩

theorem mul_comm (a b : Nat) (ha : a < 256) (hb : b < 256) : mul a b = mul b a := by
  refine span (fun a => mul a b = mul b a) ?_ ?_ ?_ a ha
  · rw [zero_mul b hb, mul_zero b hb]
  · intro x y hx hy h1 h2
    rw [mul_xor_left x y b hx hy, mul_xor_right b x y, h1, h2]
  · intro i
    have hi : 2 ^ i.val < 256 := Nat.pow_lt_pow_right (a := 2) (n := 8) (by decide) i.isLt
    refine span (fun b => mul (2 ^ i.val) b = mul b (2 ^ i.val)) ?_ ?_ ?_ b hb
    · rw [zero_mul _ hi, mul_zero _ hi]
    · intro x y hx hy h1 h2
      rw [mul_xor_left x y _ hx hy, mul_xor_right _ x y, h1, h2]
    · intro j
      have : ∀ i j : Fin 8, mul (2 ^ i.val) (2 ^ j.val) = mul (2 ^ j.val) (2 ^ i.val) := by decide +kernel
      exact this i j

theorem mul_assoc (a b c : Nat) (ha : a < 256) (hb : b < 256) (hc : c < 256) : mul (mul a b) c = mul a (mul b c) := by
  have two : ∀ i : Fin 8, 2 ^ i.val < 256 := fun i => Nat.pow_lt_pow_right (a := 2) (n := 8) (by decide) i.isLt
  refine span (fun a => mul (mul a b) c = mul a (mul b c)) ?_ ?_ ?_ a ha
  · rw [zero_mul b hb, zero_mul c hc, zero_mul _ (mul_lt b c hb)]
  · intro x y hx hy h1 h2
    rw [mul_xor_left x y b hx hy, mul_xor_left _ _ c (mul_lt x b hx) (mul_lt y b hy), mul_xor_left x y _ hx hy, h1, h2]
  · intro i
    refine span (fun b => mul (mul (2 ^ i.val) b) c = mul (2 ^ i.val) (mul b c)) ?_ ?_ ?_ b hb
    · rw [mul_zero _ (two i), zero_mul c hc, mul_zero _ (two i)]
    · intro x y hx hy h1 h2
      rw [mul_xor_right _ x y, mul_xor_left _ _ c (mul_lt _ x (two i)) (mul_lt _ y (two i)), mul_xor_left x y c hx hy, mul_xor_right, h1, h2]
    · intro j
      refine span (fun c => mul (mul (2 ^ i.val) (2 ^ j.val)) c = mul (2 ^ i.val) (mul (2 ^ j.val) c)) ?_ ?_ ?_ c hc
      · rw [mul_zero _ (mul_lt _ _ (two i)), mul_zero _ (two j), mul_zero _ (two i)]
      · intro x y hx hy h1 h2
        rw [mul_xor_right _ x y, mul_xor_right _ x y, mul_xor_right, h1, h2]
      · intro k
        have : ∀ i j k : Fin 8, mul (mul (2 ^ i.val) (2 ^ j.val)) (2 ^ k.val) = mul (2 ^ i.val) (mul (2 ^ j.val) (2 ^ k.val)) := by decide +kernel
        exact this i j k

/-- the inverse: n rounds of square and multiply -/
def ip : Nat → Nat → Nat → Nat
  | 0, _, p => p
  | n + 1, s, p => ip n (mul s s) (mul p (mul s s))

def inv (a : Nat) : Nat := ip 7 a 1

theorem ip_lt (n s p : Nat) (hp : p < 256) : ip n s p < 256 := by
  induction n generalizing s p with
  | zero => exact hp
  | succ n ih => exact ih _ _ (mul_lt _ _ hp)

theorem inv_lt (a : Nat) : inv a < 256 := ip_lt 7 a 1 (by decide)

theorem mul_inv (a : Nat) (ha : a < 256) (h0 : 0 < a) : mul a (inv a) = 1 := by
  have : ∀ b : Fin 256, 0 < b.val → mul b.val (inv b.val) = 1 := by decide +kernel
  exact this ⟨a, ha⟩ h0

theorem two128 : mul 2 128 = 29 := by decide +kernel

end Go.Proofs.Ytjgnheelcbkahaa.Gf
