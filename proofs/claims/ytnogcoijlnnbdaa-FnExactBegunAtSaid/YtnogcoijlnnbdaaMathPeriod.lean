/-
  Plain facts: powers of a base divided by a number without a common divisor: the period, the digits that go round, their number, halves, full rounds, rounds begun elsewhere.
-/
import Derived.Test.YtnogcoijlnnbdaaMathSort
namespace Go.Proofs.Ytnogcoijlnnbdaa
namespace Pl

/-- A period: the base so many times leaves what 1 leaves, and no fewer times do. -/
structure Per (b u p : Nat) : Prop where
  pos : 1 ≤ p
  back : b ^ p % u = 1 % u
  least : ∀ k, 1 ≤ k → k < p → b ^ k % u ≠ 1 % u

theorem Per.unique {b u p q : Nat} (h : Per b u p) (h' : Per b u q) : p = q := by
  rcases Nat.lt_trichotomy p q with hlt | he | hlt
  · exact absurd h.back (h'.least p h.pos hlt)
  · exact he
  · exact absurd h'.back (h.least q h'.pos hlt)

theorem mod_eq_iff {u a c : Nat} (h : a ≤ c) : a % u = c % u ↔ u ∣ c - a := by
  constructor
  · intro he
    have h1 := Nat.div_add_mod a u
    have h2 := Nat.div_add_mod c u
    refine ⟨c / u - a / u, ?_⟩
    rw [Nat.mul_sub]; omega
  · rintro ⟨k, hk⟩
    rw [show c = a + u * k by omega, Nat.add_mul_mod_self_left]

theorem pow_cop {b u : Nat} (h : Nat.Coprime u b) : ∀ k, Nat.Coprime u (b ^ k) := by
  intro k
  induction k with
  | zero => rw [Nat.pow_zero]; exact Nat.coprime_one_right u
  | succ k ih => rw [Nat.pow_succ]; exact Nat.Coprime.mul_right ih h

/-- Powers that leave the same: their difference leaves what 1 leaves. -/
theorem pow_back {b u i j : Nat} (h : Nat.Coprime u b) (hij : i ≤ j) (he : b ^ i % u = b ^ j % u) : b ^ (j - i) % u = 1 % u := by
  have h1 : b ^ j = b ^ i * b ^ (j - i) := by rw [← Nat.pow_add]; congr 1; omega
  have hpos : 1 ≤ b ^ (j - i) ∨ b ^ (j - i) = 0 := by omega
  rcases hpos with hpos | hz
  · have hd : u ∣ b ^ j - b ^ i := (mod_eq_iff (by rw [h1]; exact Nat.le_mul_of_pos_right _ hpos)).1 he
    have h2 : b ^ j - b ^ i = b ^ i * (b ^ (j - i) - 1) := by rw [h1, Nat.mul_sub, Nat.mul_one]
    rw [h2] at hd
    have h3 : u ∣ b ^ (j - i) - 1 := Nat.Coprime.dvd_of_dvd_mul_left (pow_cop h i) hd
    exact ((mod_eq_iff hpos).2 h3).symm
  · -- a power is 0: then u is 1
    have hb : b = 0 := by
      refine Classical.byContradiction fun hb => ?_
      have := Nat.pow_pos (n := j - i) (show 0 < b by omega)
      omega
    subst hb
    have hu : u = 1 := by simpa [Nat.Coprime] using h
    subst hu
    rw [Nat.mod_one, Nat.mod_one]

theorem per_exists {b u : Nat} (hu : 1 ≤ u) (h : Nat.Coprime u b) : ∃ p, Per b u p ∧ p ≤ u ∧ (2 ≤ u → p ≤ u - 1) := by
  have hex : ∃ j, 1 ≤ j ∧ j ≤ u ∧ (2 ≤ u → j ≤ u - 1) ∧ b ^ j % u = 1 % u := by
    by_cases h1 : u = 1
    · subst h1; exact ⟨1, by omega, by omega, by omega, by rw [Nat.mod_one, Nat.mod_one]⟩
    · -- among u powers, none of which leaves 0, two leave the same
      refine Classical.byContradiction fun hno => ?_
      have hnd : ((List.range u).map fun i => b ^ i % u).Nodup := nodup_range_map (fun i => b ^ i % u) u fun i j hij hj he => by
        refine hno ⟨j - i, by omega, by omega, fun _ => by omega, pow_back h (by omega) he⟩
      have hsub : ∀ x ∈ (List.range u).map (fun i => b ^ i % u), x ∈ (List.range (u - 1)).map (· + 1) := fun x hx => by
        obtain ⟨i, _, rfl⟩ := List.mem_map.1 hx
        have h2 : b ^ i % u ≠ 0 := fun h0 => by
          have hd := Nat.dvd_of_mod_eq_zero h0
          have := Nat.Coprime.eq_one_of_dvd (pow_cop h i) hd
          omega
        have h3 := Nat.mod_lt (b ^ i) (show 0 < u by omega)
        exact List.mem_map.2 ⟨b ^ i % u - 1, List.mem_range.2 (by omega), by omega⟩
      have := nodup_subset_length _ _ hnd hsub
      simp at this; omega
  obtain ⟨j, ⟨h1, h2, h3, h4⟩, hmin⟩ := least_nat hex
  exact ⟨j, ⟨h1, h4, fun k hk hkj hkk => hmin k hkj ⟨hk, by omega, fun _ => by omega, hkk⟩⟩, h2, h3⟩

theorem Per.inj {b u p i j : Nat} (hp : Per b u p) (h : Nat.Coprime u b) (hij : i < j) (hj : j < p) : b ^ i % u ≠ b ^ j % u := fun he =>
  hp.least (j - i) (by omega) (by omega) (pow_back h (by omega) he)

theorem Per.add {b u p : Nat} (hp : Per b u p) (k : Nat) : b ^ (k + p) % u = b ^ k % u := by
  rw [Nat.pow_add, Nat.mul_mod, hp.back, ← Nat.mul_mod, Nat.mul_one]

theorem Per.mod {b u p : Nat} (hp : Per b u p) (k : Nat) : b ^ k % u = b ^ (k % p) % u := by
  induction k using Nat.strongRecOn with
  | _ k ih =>
    have h0 := hp.pos
    by_cases h : k < p
    · rw [Nat.mod_eq_of_lt h]
    · have h1 := hp.add (k - p)
      rw [Nat.sub_add_cancel (by omega)] at h1
      rw [h1, ih (k - p) (by omega), ← Nat.mod_eq_sub_mod (by omega)]

/-! ### Digits that go round -/

/-- The rest behind k digits. -/
def restN (b u x k : Nat) : Nat := x * b ^ k % u
theorem restN_zero {b u x : Nat} (h : x < u) : restN b u x 0 = x := by simp [restN, Nat.mod_eq_of_lt h]
theorem restN_succ (b u x k : Nat) : restN b u x (k + 1) = restN b u x k * b % u := by
  unfold restN
  rw [Nat.pow_succ, ← Nat.mul_assoc, Nat.mul_mod, Nat.mul_mod (x * b ^ k % u) b, Nat.mod_mod]
theorem restN_lt {b u x k : Nat} (hu : 1 ≤ u) : restN b u x k < u := Nat.mod_lt _ (by omega)
/-- The digit at place k. -/
def digitN (b u x k : Nat) : Nat := restN b u x k * b / u
theorem digitN_lt {b u x k : Nat} (hu : 1 ≤ u) (hb : 1 ≤ b) : digitN b u x k < b := by
  unfold digitN
  rw [Nat.div_lt_iff_lt_mul (by omega), Nat.mul_comm b]
  exact Nat.mul_lt_mul_of_pos_right (restN_lt hu) (by omega)
def roundD (b u x p : Nat) : List Nat := (List.range p).map fun k => digitN b u x k
theorem roundD_len (b u x p : Nat) : (roundD b u x p).length = p := by simp [roundD]
theorem roundD_get {b u x p k : Nat} (h : k < p) : (roundD b u x p)[k]?.getD 0 = digitN b u x k := by simp [roundD, h]
theorem roundD_succ (b u x p : Nat) : roundD b u x (p + 1) = roundD b u x p ++ [digitN b u x p] := by simp [roundD, List.range_succ]

theorem round_val {b u x : Nat} (hx : x < u) : ∀ p, valF b 0 (roundD b u x p) * u + restN b u x p = x * b ^ p := by
  intro p
  induction p with
  | zero => rw [restN_zero hx]; simp [roundD, valF]
  | succ p ih =>
    have h1 := Nat.div_add_mod (restN b u x p * b) u
    rw [roundD_succ, valF_snoc, restN_succ, Nat.pow_succ, ← Nat.mul_assoc, ← ih, Nat.add_mul, Nat.add_mul]
    show valF b 0 (roundD b u x p) * b * u + digitN b u x p * u + _ = _
    unfold digitN
    rw [Nat.mul_comm (restN b u x p * b / u) u, Nat.mul_right_comm (valF b 0 (roundD b u x p)) u b]
    omega

/-- Behind a period the rest is the first one. -/
theorem rest_back {b u x p : Nat} (hp : Per b u p) (hx : x < u) : restN b u x p = x := by
  unfold restN
  rw [Nat.mul_mod, hp.back, ← Nat.mul_mod, Nat.mul_one, Nat.mod_eq_of_lt hx]

theorem round_whole {b u x p : Nat} (hp : Per b u p) (hx : x < u) : valF b 0 (roundD b u x p) * u = x * (b ^ p - 1) := by
  have h := round_val (b := b) hx p
  rw [rest_back hp hx] at h
  rw [Nat.mul_sub, Nat.mul_one]; omega

/-! ### Halves -/

/-- What the law calls prime. -/
def TrialPrime (u : Nat) : Prop := 2 ≤ u ∧ ∀ k, 2 ≤ k → k * k ≤ u → u % k ≠ 0

theorem TrialPrime.divisor {u d : Nat} (h : TrialPrime u) (hd : d ∣ u) : d = 1 ∨ d = u := by
  obtain ⟨h2, ht⟩ := h
  obtain ⟨e, he⟩ := hd
  refine Classical.byContradiction fun hno => ?_
  have hd1 : d ≠ 1 := fun h => hno (.inl h)
  have hd2 : d ≠ u := fun h => hno (.inr h)
  have hd0 : d ≠ 0 := fun h => by subst h; omega
  have he0 : e ≠ 0 := fun h => by subst h; omega
  have he1 : e ≠ 1 := fun h => by subst h; omega
  rcases Nat.le_total d e with hle | hle
  · refine ht d (by omega) ?_ (by rw [he]; exact Nat.mul_mod_right d e)
    have := Nat.mul_le_mul_left d hle; omega
  · refine ht e (by omega) ?_ (by rw [he]; exact Nat.mul_mod_left d e)
    have := Nat.mul_le_mul_right e hle; omega

theorem TrialPrime.cop {u a : Nat} (h : TrialPrime u) (ha : ¬ u ∣ a) : Nat.Coprime u a := by
  rcases h.divisor (Nat.gcd_dvd_left u a) with h1 | h1
  · exact h1
  · exact absurd (h1 ▸ Nat.gcd_dvd_right u a) ha

theorem half_back {b u h : Nat} (hu : TrialPrime u) (hp : Per b u (2 * h)) : (b ^ h + 1) % u = 0 := by
  have h2 := hu.1
  have hpos := hp.pos
  have hb0 : b ≠ 0 := fun e => by
    have := hp.back
    rw [e, Nat.zero_pow (by omega), Nat.zero_mod, Nat.mod_eq_of_lt (by omega)] at this
    omega
  have hx : 1 ≤ b ^ h := Nat.pow_pos (by omega)
  have h3 : b ^ (2 * h) = b ^ h * b ^ h := by rw [← Nat.pow_add]; congr 1; omega
  have hxx : 1 ≤ b ^ h * b ^ h := Nat.mul_pos hx hx
  have hd : u ∣ b ^ h * b ^ h - 1 := (mod_eq_iff hxx).1 (by rw [← h3]; exact hp.back.symm)
  have he : b ^ h * b ^ h - 1 = (b ^ h - 1) * (b ^ h + 1) := by
    obtain ⟨y, hy⟩ : ∃ y, b ^ h = y + 1 := ⟨b ^ h - 1, by omega⟩
    rw [hy, Nat.add_sub_cancel, Nat.mul_add, Nat.mul_one, Nat.add_mul, Nat.one_mul, Nat.mul_add, Nat.mul_add]; omega
  rw [he] at hd
  have hn : ¬ u ∣ b ^ h - 1 := fun hh => hp.least h (by omega) (by omega) ((mod_eq_iff hx).2 hh).symm
  exact Nat.mod_eq_zero_of_dvd (Nat.Coprime.dvd_of_dvd_mul_left (hu.cop hn) hd)

theorem rest_half {b u h k : Nat} (hu : 2 ≤ u) (hc : Nat.Coprime u b) (hh : (b ^ h + 1) % u = 0) : restN b u 1 k + restN b u 1 (k + h) = u := by
  have h1 : (b ^ k * (b ^ h + 1)) % u = 0 := by rw [Nat.mul_mod, hh, Nat.mul_zero, Nat.zero_mod]
  rw [Nat.mul_add, Nat.mul_one, ← Nat.pow_add, Nat.add_mod] at h1
  have h2 : b ^ k % u ≠ 0 := fun h0 => by
    have := Nat.Coprime.eq_one_of_dvd (pow_cop hc k) (Nat.dvd_of_mod_eq_zero h0)
    omega
  have h3 := Nat.mod_lt (b ^ k) (show 0 < u by omega)
  have h4 := Nat.mod_lt (b ^ (k + h)) (show 0 < u by omega)
  unfold restN
  rw [Nat.one_mul, Nat.one_mul]
  rcases Nat.lt_or_ge (b ^ (k + h) % u + b ^ k % u) u with hlt | hge
  · rw [Nat.mod_eq_of_lt hlt] at h1; omega
  · rw [Nat.mod_eq_sub_mod hge, Nat.mod_eq_of_lt (by omega)] at h1; omega

/-- Both halves are one less than the base. -/
theorem digit_half {b u h k : Nat} (hb : 1 ≤ b) (hu : 2 ≤ u) (hc : Nat.Coprime u b) (hh : (b ^ h + 1) % u = 0) : digitN b u 1 k + digitN b u 1 (k + h) = b - 1 := by
  have hr := rest_half (k := k) hu hc hh
  have hk : restN b u 1 k * b % u ≠ 0 := by
    rw [← restN_succ]
    unfold restN
    rw [Nat.one_mul]
    intro h0
    have := Nat.Coprime.eq_one_of_dvd (pow_cop hc (k + 1)) (Nat.dvd_of_mod_eq_zero h0)
    omega
  unfold digitN
  obtain ⟨r, hrr⟩ : ∃ r, restN b u 1 k = r := ⟨_, rfl⟩
  obtain ⟨s, hss⟩ : ∃ s, restN b u 1 (k + h) = s := ⟨_, rfl⟩
  rw [hrr] at hk
  rw [hrr, hss] at hr ⊢
  have e1 := Nat.div_add_mod (r * b) u
  have e2 := Nat.div_add_mod (s * b) u
  have l1 := Nat.mod_lt (r * b) (show 0 < u by omega)
  have l2 := Nat.mod_lt (s * b) (show 0 < u by omega)
  have hsum : r * b + s * b = u * b := by rw [← Nat.add_mul, hr]
  obtain ⟨A, hA⟩ : ∃ A, r * b / u = A := ⟨_, rfl⟩
  obtain ⟨C, hC⟩ : ∃ C, s * b / u = C := ⟨_, rfl⟩
  rw [hA] at e1 ⊢
  rw [hC] at e2 ⊢
  -- u * (A + C) + rests = u * b, the rests between 1 and 2 u less 2
  have h1 : u * (A + C) + (r * b % u + s * b % u) = u * b := by rw [Nat.mul_add]; omega
  have h2 : A + C < b := by
    refine Classical.byContradiction fun hno => ?_
    have : u * b ≤ u * (A + C) := Nat.mul_le_mul_left u (by omega)
    omega
  have h3 : b < A + C + 2 := by
    refine Classical.byContradiction fun hno => ?_
    have : u * (A + C + 2) ≤ u * b := Nat.mul_le_mul_left u (by omega)
    rw [Nat.mul_add] at this
    omega
  omega

/-! ### Full rounds -/

/-- Where the period is one less than the number, each number from 1 on is left by a power. -/
theorem full_all {b u v : Nat} (hu : 2 ≤ u) (hc : Nat.Coprime u b) (hp : Per b u (u - 1)) (h1 : 1 ≤ v) (h2 : v < u) : ∃ k, k < u - 1 ∧ b ^ k % u = v := by
  refine Classical.byContradiction fun hno => ?_
  have hnd : ((List.range (u - 1)).map fun i => b ^ i % u).Nodup := nodup_range_map (fun i => b ^ i % u) (u - 1) fun i j hij hj => hp.inj hc hij hj
  have hsub : ∀ x ∈ (List.range (u - 1)).map (fun i => b ^ i % u), x ∈ ((List.range (u - 1)).map (· + 1)).erase v := fun x hx => by
    obtain ⟨i, hi, rfl⟩ := List.mem_map.1 hx
    have h3 : b ^ i % u ≠ 0 := fun h0 => by
      have := Nat.Coprime.eq_one_of_dvd (pow_cop hc i) (Nat.dvd_of_mod_eq_zero h0)
      omega
    have h4 := Nat.mod_lt (b ^ i) (show 0 < u by omega)
    refine (List.mem_erase_of_ne fun he => hno ⟨i, List.mem_range.1 hi, he⟩).2 ?_
    exact List.mem_map.2 ⟨b ^ i % u - 1, List.mem_range.2 (by omega), by omega⟩
  have hv : v ∈ (List.range (u - 1)).map (· + 1) := List.mem_map.2 ⟨v - 1, List.mem_range.2 (by omega), by omega⟩
  have h3 := nodup_subset_length _ _ hnd hsub
  have h4 := List.length_erase_of_mem hv
  simp at h3 h4; omega

theorem full_prime {b u : Nat} (hu : 2 ≤ u) (hc : Nat.Coprime u b) (hp : Per b u (u - 1)) : TrialPrime u := by
  refine ⟨hu, fun k hk hkk h0 => ?_⟩
  have hd := Nat.dvd_of_mod_eq_zero h0
  have hlt : k < u := by
    have : k * 2 ≤ k * k := Nat.mul_le_mul_left k hk
    omega
  obtain ⟨j, _, hj⟩ := full_all hu hc hp (v := k) (by omega) hlt
  have h1 : k ∣ b ^ j := by
    have : k ∣ b ^ j % u := by rw [hj]; exact Nat.dvd_refl k
    exact (Nat.dvd_mod_iff hd).1 this
  have h2 : k ∣ Nat.gcd u (b ^ j) := Nat.dvd_gcd hd h1
  rw [pow_cop hc j] at h2
  have := Nat.le_of_dvd (by omega) h2
  omega

/-! ### Begun elsewhere -/

theorem begun_rest {b u p k j : Nat} (hp : Per b u p) {x : Nat} (hx : b ^ k % u = x) : restN b u x j = restN b u (1 % u) ((k + j) % p) := by
  unfold restN
  rw [← hx, Nat.mod_mul_mod, ← Nat.pow_add, hp.mod (k + j), Nat.mod_mul_mod, Nat.one_mul]

theorem begun_digit {b u p k j : Nat} (hp : Per b u p) {x : Nat} (hx : b ^ k % u = x) : digitN b u x j = digitN b u (1 % u) ((k + j) % p) := by
  unfold digitN; rw [begun_rest hp hx]

end Pl
end Go.Proofs.Ytnogcoijlnnbdaa
