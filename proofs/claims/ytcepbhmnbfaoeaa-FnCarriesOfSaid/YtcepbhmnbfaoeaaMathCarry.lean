/-
  Plain facts: carries and sums of digits; how often a prime divides the product of all numbers (Legendre); choices by a prime (Pascal's rule, Lucas), and when none is carried (Kummer).
-/
import Derived.Test.YtcepbhmnbfaoeaaMath
import Derived.KernelRfl
namespace Go.Proofs.Ytcepbhmnbfaoeaa
namespace Pl

/-! ### Carries -/

/-- The carries if two numbers are added, of at most so many digits, c carried just before. -/
def carK (b : Nat) : Nat → Nat → Nat → Nat → Nat
  | 0, _, _, _ => 0
  | f + 1, n, m, c => if n = 0 ∧ m = 0 then 0 else if b ≤ n % b + m % b + c then 1 + carK b f (n / b) (m / b) 1 else carK b f (n / b) (m / b) 0

theorem carK_zero (b f c : Nat) : carK b f 0 0 c = 0 := by
  cases f with
  | zero => rfl
  | succ f => simp [carK]

theorem carK_sym (b : Nat) : ∀ f n m c, carK b f n m c = carK b f m n c := by
  intro f
  induction f with
  | zero => intro n m c; rfl
  | succ f ih =>
    intro n m c
    rw [carK, carK, ih (n / b) (m / b), ih (n / b) (m / b), Nat.add_comm (n % b)]
    by_cases h : n = 0 ∧ m = 0
    · have h' : m = 0 ∧ n = 0 := ⟨h.2, h.1⟩
      rw [if_pos h, if_pos h']
    · have h' : ¬ (m = 0 ∧ n = 0) := fun hh => h ⟨hh.2, hh.1⟩
      rw [if_neg h, if_neg h']

theorem carK_none {b : Nat} (hb : 2 ≤ b) : ∀ f n, carK b f n 0 0 = 0 := by
  intro f
  induction f with
  | zero => intro n; rfl
  | succ f ih =>
    intro n
    rw [carK]
    split
    · rfl
    · have := Nat.mod_lt n (show 0 < b by omega)
      rw [if_neg (by rw [Nat.zero_mod]; omega), Nat.zero_div, ih]

/-- Carries are told by sums of digits. -/
theorem carK_sum {b : Nat} (hb : 2 ≤ b) : ∀ f n m c, n < 2 ^ f → m < 2 ^ f → c ≤ 1 → sumD b n + sumD b m + c = sumD b (n + m + c) + (b - 1) * carK b f n m c := by
  intro f
  induction f with
  | zero =>
    intro n m c h1 h2 h3
    have e1 : n = 0 := by simpa using h1
    have e2 : m = 0 := by simpa using h2
    subst e1; subst e2
    rw [sumD_lt (show 0 < b by omega), sumD_lt (show 0 + 0 + c < b by omega)]
    simp [carK]
  | succ f ih =>
    intro n m c h1 h2 h3
    by_cases hz : n = 0 ∧ m = 0
    · obtain ⟨rfl, rfl⟩ := hz
      rw [carK_zero, sumD_lt (show 0 < b by omega), sumD_lt (show 0 + 0 + c < b by omega)]; omega
    · have hr1 := Nat.mod_lt n (show 0 < b by omega)
      have hr2 := Nat.mod_lt m (show 0 < b by omega)
      have d1 := Nat.div_add_mod n b
      have d2 := Nat.div_add_mod m b
      have q1 : n / b < 2 ^ f := by
        have : n / b ≤ n / 2 := Nat.div_le_div_left hb (by omega)
        rw [Nat.pow_succ] at h1; omega
      have q2 : m / b < 2 ^ f := by
        have : m / b ≤ m / 2 := Nat.div_le_div_left hb (by omega)
        rw [Nat.pow_succ] at h2; omega
      rw [carK, if_neg hz, sumD_step hb n, sumD_step hb m, sumD_step hb (n + m + c)]
      by_cases ht : b ≤ n % b + m % b + c
      · have e : n + m + c = (n % b + m % b + c - b) + b * (n / b + m / b + 1) := by rw [Nat.mul_add, Nat.mul_add, Nat.mul_one]; omega
        have em : (n + m + c) % b = n % b + m % b + c - b := by
          rw [e, Nat.add_mul_mod_self_left, Nat.mod_eq_of_lt (by omega)]
        have ed : (n + m + c) / b = n / b + m / b + 1 := by
          rw [e, Nat.add_mul_div_left _ _ (by omega), Nat.div_eq_of_lt (by omega), Nat.zero_add]
        have := ih (n / b) (m / b) 1 q1 q2 (by omega)
        rw [if_pos ht, em, ed, Nat.mul_add, Nat.mul_one]
        omega
      · have e : n + m + c = (n % b + m % b + c) + b * (n / b + m / b) := by rw [Nat.mul_add]; omega
        have em : (n + m + c) % b = n % b + m % b + c := by
          rw [e, Nat.add_mul_mod_self_left, Nat.mod_eq_of_lt (by omega)]
        have ed : (n + m + c) / b = n / b + m / b := by
          rw [e, Nat.add_mul_div_left _ _ (by omega), Nat.div_eq_of_lt (by omega), Nat.zero_add]
        have := ih (n / b) (m / b) 0 q1 q2 (by omega)
        rw [Nat.add_zero, Nat.add_zero] at this
        rw [if_neg ht, em, ed]
        omega

theorem carK_stable {b : Nat} (hb : 2 ≤ b) : ∀ f f' n m c, n < 2 ^ f → m < 2 ^ f → n < 2 ^ f' → m < 2 ^ f' → carK b f n m c = carK b f' n m c := by
  intro f
  induction f with
  | zero =>
    intro f' n m c h1 h2 _ _
    have e1 : n = 0 := by simpa using h1
    have e2 : m = 0 := by simpa using h2
    subst e1; subst e2
    rw [carK_zero, carK_zero]
  | succ f ih =>
    intro f' n m c h1 h2 h3 h4
    cases f' with
    | zero =>
      have e1 : n = 0 := by simpa using h3
      have e2 : m = 0 := by simpa using h4
      subst e1; subst e2
      rw [carK_zero, carK_zero]
    | succ g =>
      have q : ∀ x k, x < 2 ^ (k + 1) → x / b < 2 ^ k := fun x k hx => by
        have : x / b ≤ x / 2 := Nat.div_le_div_left hb (by omega)
        rw [Nat.pow_succ] at hx; omega
      rw [carK, carK, ih g _ _ _ (q _ _ h1) (q _ _ h2) (q _ _ h3) (q _ _ h4), ih g _ _ _ (q _ _ h1) (q _ _ h2) (q _ _ h3) (q _ _ h4)]

/-- The carries of numbers that may be told. -/
def carN (b n m : Nat) : Nat := carK b 30 n m 0

/-! ### How often a prime divides the product of all numbers -/

/-- Of so many digits at most: the number divided by the prime, that again, and so on, together. -/
def oftK (p : Nat) : Nat → Nat → Nat
  | 0, _ => 0
  | f + 1, n => n / p + oftK p f (n / p)

theorem oftK_sum {p : Nat} (hp : 2 ≤ p) : ∀ f n, n < 2 ^ f → oftK p f n * (p - 1) + sumD p n = n := by
  intro f
  induction f with
  | zero =>
    intro n h
    have e : n = 0 := by simpa using h
    subst e
    rw [sumD_lt (by omega)]; simp [oftK]
  | succ f ih =>
    intro n h
    have hq : n / p < 2 ^ f := by
      have : n / p ≤ n / 2 := Nat.div_le_div_left hp (by omega)
      rw [Nat.pow_succ] at h; omega
    have h1 := ih _ hq
    have h2 := Nat.div_add_mod n p
    rw [oftK, sumD_step hp n, Nat.add_mul, Nat.mul_sub, Nat.mul_one]
    have h3 : n / p ≤ n / p * p := Nat.le_mul_of_pos_right _ (by omega)
    rw [Nat.mul_comm p] at h2
    omega

theorem oftK_stable {p : Nat} (hp : 2 ≤ p) {f f' n : Nat} (h : n < 2 ^ f) (h' : n < 2 ^ f') : oftK p f n = oftK p f' n := by
  have h1 := oftK_sum hp f n h
  have h2 := oftK_sum hp f' n h'
  exact Nat.eq_of_mul_eq_mul_right (show 0 < p - 1 by omega) (by omega)

theorem oftK_mono {p : Nat} : ∀ f n m, n ≤ m → oftK p f n ≤ oftK p f m := by
  intro f
  induction f with
  | zero => intro n m _; exact Nat.le_refl _
  | succ f ih =>
    intro n m h
    have h1 : n / p ≤ m / p := Nat.div_le_div_right h
    have := ih _ _ h1
    rw [oftK, oftK]; omega

theorem oftK_prime {p q : Nat} (hp : 1 ≤ p) (hpq : p ≤ q) : ∀ f n, oftK q f n ≤ oftK p f n := by
  intro f
  induction f with
  | zero => intro n; exact Nat.le_refl _
  | succ f ih =>
    intro n
    have h1 : n / q ≤ n / p := Nat.div_le_div_left hpq hp
    have h2 := ih (n / q)
    have h3 := oftK_mono (p := p) f _ _ h1
    rw [oftK, oftK]; omega

/-- Of numbers that may be told. -/
def oftN (p n : Nat) : Nat := oftK p 30 n

/-- How often a prime divides a number from 1 on. -/
def valK (p : Nat) : Nat → Nat → Nat
  | 0, _ => 0
  | f + 1, n => if n % p = 0 then 1 + valK p f (n / p) else 0

theorem oft_next {p : Nat} (hp : 2 ≤ p) : ∀ f n, n + 1 < 2 ^ f → oftK p f (n + 1) = oftK p f n + valK p f (n + 1) := by
  intro f
  induction f with
  | zero => intro n h; simp at h
  | succ f ih =>
    intro n h
    rw [oftK, oftK, valK]
    by_cases hm : n % p = p - 1
    · have h1 := Nat.div_add_mod n p
      have e : n + 1 = p * (n / p + 1) := by rw [Nat.mul_add]; omega
      have e1 : (n + 1) % p = 0 := by rw [e, Nat.mul_mod_right]
      have e2 : (n + 1) / p = n / p + 1 := by rw [e, Nat.mul_div_cancel_left _ (by omega)]
      have hlt : n / p + 1 < 2 ^ f := by
        have h2 : 2 * (n / p + 1) ≤ p * (n / p + 1) := Nat.mul_le_mul_right _ hp
        rw [Nat.pow_succ] at h; omega
      rw [if_pos e1, e2, ih _ hlt]; omega
    · obtain ⟨e1, e2⟩ := succ_mod_div hp hm
      rw [if_neg (by omega), e2]; omega

/-! ### Choices -/

/-- What the number of ways to choose k of n things leaves by p. -/
def cr (p : Nat) : Nat → Nat → Nat
  | _, 0 => 1 % p
  | 0, _ + 1 => 0
  | n + 1, k + 1 => (cr p n k + cr p n (k + 1)) % p

theorem cr_zero (p n : Nat) : cr p n 0 = 1 % p := by cases n <;> rfl
theorem cr_none (p k : Nat) : cr p 0 (k + 1) = 0 := rfl
theorem cr_next (p n k : Nat) : cr p (n + 1) (k + 1) = (cr p n k + cr p n (k + 1)) % p := rfl
theorem cr_more (p : Nat) : ∀ n k, n < k → cr p n k = 0 := by
  intro n
  induction n with
  | zero => intro k h; obtain ⟨j, rfl⟩ : ∃ j, k = j + 1 := ⟨k - 1, by omega⟩; rfl
  | succ n ih =>
    intro k h
    obtain ⟨j, rfl⟩ : ∃ j, k = j + 1 := ⟨k - 1, by omega⟩
    rw [cr_next, ih j (by omega), ih (j + 1) (by omega)]; simp
theorem cr_all (p : Nat) : ∀ n, cr p n n = 1 % p := by
  intro n
  induction n with
  | zero => rfl
  | succ n ih => rw [cr_next, ih, cr_more p n (n + 1) (by omega), Nat.add_zero, Nat.mod_mod]
theorem cr_lt {p : Nat} (hp : 1 ≤ p) (n k : Nat) : cr p n k < p := by
  cases k with
  | zero => rw [cr_zero]; exact Nat.mod_lt _ (by omega)
  | succ k => cases n with
    | zero => rw [cr_none]; omega
    | succ n => rw [cr_next]; exact Nat.mod_lt _ (by omega)

/-- The primes that are bases. -/
def primes6 : List Nat := [2, 3, 5, 7, 11, 13]
theorem cr_prime_check : (primes6.all fun p => (List.range p).all fun s => s == 0 || cr p p s == 0) = true := by decide +kernel
theorem cr_digit_check : (primes6.all fun p => (List.range p).all fun a => (List.range p).all fun c => (cr p a c == 0) == decide (a < c)) = true := by decide +kernel
theorem mul_check : (primes6.all fun p => (List.range p).all fun a => (List.range p).all fun c => !(a * c % p == 0) || a == 0 || c == 0) = true := by decide +kernel
theorem primes6_ge {p : Nat} (h : p ∈ primes6) : 2 ≤ p ∧ p ≤ 13 := by
  simp [primes6] at h; omega
theorem cr_prime {p s : Nat} (h : p ∈ primes6) (h1 : 1 ≤ s) (h2 : s < p) : cr p p s = 0 := by
  have := List.all_eq_true.1 (List.all_eq_true.1 cr_prime_check p h) s (List.mem_range.2 h2)
  have h3 : (s == 0) = false := by rw [beq_eq_false_iff_ne]; omega
  rw [h3, Bool.false_or, beq_iff_eq] at this
  exact this
theorem cr_digit {p a c : Nat} (h : p ∈ primes6) (ha : a < p) (hc : c < p) : cr p a c = 0 ↔ a < c := by
  have := List.all_eq_true.1 (List.all_eq_true.1 (List.all_eq_true.1 cr_digit_check p h) a (List.mem_range.2 ha)) c (List.mem_range.2 hc)
  rw [beq_iff_eq] at this
  rw [← beq_iff_eq, this, decide_eq_true_eq]
theorem mul_zero6 {p a c : Nat} (h : p ∈ primes6) (ha : a < p) (hc : c < p) (hz : a * c % p = 0) : a = 0 ∨ c = 0 := by
  have := List.all_eq_true.1 (List.all_eq_true.1 (List.all_eq_true.1 mul_check p h) a (List.mem_range.2 ha)) c (List.mem_range.2 hc)
  simpa [hz] using this

/-- Lucas: digit by digit. -/
def lucL (p n k : Nat) : Nat := cr p (n % p) (k % p) * cr p (n / p) (k / p) % p

theorem add_mul_mod' (p x y z : Nat) : (x + y) % p * z % p = (x * z % p + y * z % p) % p := by
  rw [Nat.mod_mul_mod, Nat.add_mul, Nat.add_mod]

theorem one_mul_cr {p : Nat} (hp : 2 ≤ p) (n k : Nat) : 1 % p * cr p n k % p = cr p n k := by
  rw [Nat.mod_eq_of_lt (show 1 < p by omega), Nat.one_mul, Nat.mod_eq_of_lt (cr_lt (by omega) n k)]

theorem lucL_next {p : Nat} (h : p ∈ primes6) (n k : Nat) : lucL p (n + 1) (k + 1) = (lucL p n k + lucL p n (k + 1)) % p := by
  obtain ⟨hp, _⟩ := primes6_ge h
  have hr := Nat.mod_lt n (show 0 < p by omega)
  have hs := Nat.mod_lt k (show 0 < p by omega)
  have hdiv : ∀ x, x % p = p - 1 → (x + 1) % p = 0 ∧ (x + 1) / p = x / p + 1 := fun x hx => by
    have h1 := Nat.div_add_mod x p
    have e : x + 1 = p * (x / p + 1) := by rw [Nat.mul_add]; omega
    exact ⟨by rw [e, Nat.mul_mod_right], by rw [e, Nat.mul_div_cancel_left _ (by omega)]⟩
  unfold lucL
  by_cases h1 : n % p = p - 1
  · obtain ⟨a1, a2⟩ := hdiv n h1
    by_cases h2 : k % p = p - 1
    · obtain ⟨c1, c2⟩ := hdiv k h2
      rw [a1, a2, c1, c2, h1, h2, cr_all, cr_all, cr_zero, one_mul_cr hp, one_mul_cr hp, one_mul_cr hp, cr_next]
    · obtain ⟨c1, c2⟩ := succ_mod_div hp h2
      have hz := cr_prime h (s := k % p + 1) (by omega) (by omega)
      obtain ⟨P, hP⟩ : ∃ P, p = P + 1 := ⟨p - 1, by omega⟩
      have hz' : (cr p (p - 1) (k % p) + cr p (p - 1) (k % p + 1)) % p = 0 := by
        rw [← cr_next, show p - 1 + 1 = p by omega]; exact hz
      rw [a1, a2, c1, c2, h1, cr_none, Nat.zero_mul, Nat.zero_mod, ← add_mul_mod', hz', Nat.zero_mul, Nat.zero_mod]
  · obtain ⟨a1, a2⟩ := succ_mod_div hp h1
    by_cases h2 : k % p = p - 1
    · obtain ⟨c1, c2⟩ := hdiv k h2
      have hz : cr p (n % p) (p - 1) = 0 := cr_more p _ _ (by omega)
      rw [a1, a2, c1, c2, h2, hz, cr_zero, cr_zero, Nat.zero_mul, Nat.zero_mod, Nat.zero_add, Nat.mod_mod]
    · obtain ⟨c1, c2⟩ := succ_mod_div hp h2
      rw [a1, a2, c1, c2, cr_next, add_mul_mod']

theorem lucas {p : Nat} (h : p ∈ primes6) : ∀ n k, cr p n k = lucL p n k := by
  obtain ⟨hp, _⟩ := primes6_ge h
  intro n
  induction n with
  | zero =>
    intro k
    cases k with
    | zero => rw [lucL, Nat.zero_mod, Nat.zero_div, cr_zero, Nat.mod_eq_of_lt (show 1 < p by omega), Nat.mul_one, Nat.mod_eq_of_lt (show 1 < p by omega)]
    | succ k =>
      rw [cr_none, lucL, Nat.zero_mod, Nat.zero_div]
      by_cases hz : (k + 1) % p = 0
      · have h1 : 1 ≤ (k + 1) / p := by
          have := Nat.div_add_mod (k + 1) p
          refine Classical.byContradiction fun hno => ?_
          have h0 : (k + 1) / p = 0 := by
            generalize (k + 1) / p = Q at *
            omega
          rw [h0, hz] at this
          omega
        obtain ⟨j, hj⟩ : ∃ j, (k + 1) / p = j + 1 := ⟨(k + 1) / p - 1, by omega⟩
        rw [hj, cr_none, Nat.mul_zero, Nat.zero_mod]
      · obtain ⟨j, hj⟩ : ∃ j, (k + 1) % p = j + 1 := ⟨(k + 1) % p - 1, by omega⟩
        rw [hj, cr_none, Nat.zero_mul, Nat.zero_mod]
  | succ n ih =>
    intro k
    cases k with
    | zero => rw [cr_zero, lucL, Nat.zero_mod, Nat.zero_div, cr_zero, cr_zero, Nat.mod_eq_of_lt (show 1 < p by omega), Nat.mul_one, Nat.mod_eq_of_lt (show 1 < p by omega)]
    | succ k => rw [cr_next, ih, ih, lucL_next h]

/-- Kummer: none is carried exactly if the prime does not divide the number of choices. -/
theorem kummer {p : Nat} (h : p ∈ primes6) : ∀ f n k, n < 2 ^ f → k ≤ n → (carK p f k (n - k) 0 = 0 ↔ cr p n k ≠ 0) := by
  obtain ⟨hp, _⟩ := primes6_ge h
  intro f
  induction f with
  | zero =>
    intro n k h1 h2
    have e : n = 0 := by simpa using h1
    subst e
    obtain rfl : k = 0 := by omega
    rw [cr_zero, Nat.mod_eq_of_lt (show 1 < p by omega)]; simp [carK]
  | succ f ih =>
    intro n k h1 h2
    have hq : n / p < 2 ^ f := by
      have : n / p ≤ n / 2 := Nat.div_le_div_left hp (by omega)
      rw [Nat.pow_succ] at h1; omega
    have hr := Nat.mod_lt n (show 0 < p by omega)
    have hs := Nat.mod_lt k (show 0 < p by omega)
    have d1 := Nat.div_add_mod n p
    have d2 := Nat.div_add_mod k p
    have hqk : k / p ≤ n / p := Nat.div_le_div_right h2
    rw [lucas h n k, lucL]
    by_cases hz : k = 0 ∧ n - k = 0
    · obtain ⟨rfl, hn⟩ := hz
      obtain rfl : n = 0 := by omega
      rw [Nat.zero_mod, Nat.zero_div, cr_zero, Nat.mod_eq_of_lt (show 1 < p by omega), Nat.mul_one, Nat.mod_eq_of_lt (show 1 < p by omega)]
      simp [carK]
    · rw [carK, if_neg hz]
      by_cases hle : k % p ≤ n % p
      · have e : n - k = (n % p - k % p) + p * (n / p - k / p) := by
          have : p * (k / p) ≤ p * (n / p) := Nat.mul_le_mul_left p hqk
          rw [Nat.mul_sub]; omega
        have em : (n - k) % p = n % p - k % p := by rw [e, Nat.add_mul_mod_self_left, Nat.mod_eq_of_lt (by omega)]
        have ed : (n - k) / p = n / p - k / p := by rw [e, Nat.add_mul_div_left _ _ (by omega), Nat.div_eq_of_lt (by omega), Nat.zero_add]
        rw [if_neg (by omega), ed, ih _ _ hq hqk]
        have hnz : cr p (n % p) (k % p) ≠ 0 := fun hh => by
          have := (cr_digit h hr hs).1 hh; omega
        constructor
        · intro hc hm
          rcases mul_zero6 h (cr_lt (by omega) _ _) (cr_lt (by omega) _ _) hm with h0 | h0
          · exact hnz h0
          · exact hc h0
        · intro hm hc
          rw [hc, Nat.mul_zero, Nat.zero_mod] at hm
          exact hm rfl
      · have hlt : k / p < n / p := by
          refine Classical.byContradiction fun hno => ?_
          have : n / p = k / p := by omega
          rw [this] at d1; omega
        have e : n - k = (n % p + p - k % p) + p * (n / p - k / p - 1) := by
          have h3 : p * (k / p) + p ≤ p * (n / p) := by
            have := Nat.mul_le_mul_left p (show k / p + 1 ≤ n / p by omega)
            rw [Nat.mul_add] at this; omega
          rw [Nat.mul_sub, Nat.mul_sub]; omega
        have em : (n - k) % p = n % p + p - k % p := by rw [e, Nat.add_mul_mod_self_left, Nat.mod_eq_of_lt (by omega)]
        rw [if_pos (by omega)]
        have hz0 : cr p (n % p) (k % p) = 0 := (cr_digit h hr hs).2 (by omega)
        rw [hz0, Nat.zero_mul, Nat.zero_mod]
        constructor
        · intro hc; omega
        · intro hc; exact absurd rfl hc

end Pl
end Go.Proofs.Ytcepbhmnbfaoeaa
