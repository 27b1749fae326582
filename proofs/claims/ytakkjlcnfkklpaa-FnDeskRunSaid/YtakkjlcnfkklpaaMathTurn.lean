/-
  Plain facts: numbers turned round: turned twice, the sum of digits, palindromes and one more than the base, sums without carries, the next palindrome, steps to one.
-/
import Derived.Test.YtakkjlcnfkklpaaMathSort
namespace Go.Proofs.Ytakkjlcnfkklpaa
namespace Pl

/-- A number turned round. -/
def turnN (b n : Nat) : Nat := valF b 0 (digsR b n)

theorem turnN_valR (b n : Nat) : turnN b n = valR b (digsR b n).reverse := by
  have := valF_rev b (digsR b n).reverse
  rw [List.reverse_reverse] at this
  exact this

theorem turnN_lt {b n : Nat} (h : n < b) : turnN b n = n := by rw [turnN, digsR_lt h]; simp [valF]

theorem valR_digsR {b : Nat} (hb : 2 ≤ b) (n : Nat) : valR b (digsR b n) = n := by
  refine digInd hb (P := fun n => valR b (digsR b n) = n) ?_ ?_ n
  · intro n h; rw [digsR_lt h]; simp [valR]
  · intro n h ih
    rw [digsR_ge hb h, valR, ih]
    have := Nat.div_add_mod n b; omega

theorem sumD_valR {b : Nat} (hb : 2 ≤ b) : ∀ l : List Nat, (∀ x ∈ l, x < b) → sumD b (valR b l) = l.sum := by
  intro l
  induction l with
  | nil => intro _; rw [valR, sumD_lt (by omega)]; rfl
  | cons d t ih =>
    intro h
    have hd := h d (by simp)
    have e1 : (d + b * valR b t) % b = d := by rw [Nat.add_mul_mod_self_left, Nat.mod_eq_of_lt hd]
    have e2 : (d + b * valR b t) / b = valR b t := by rw [Nat.add_mul_div_left _ _ (by omega), Nat.div_eq_of_lt hd, Nat.zero_add]
    rw [valR, sumD_step hb, e1, e2, ih fun x hx => h x (by simp [hx]), List.sum_cons]

theorem valR_pos {b : Nat} (hb : 2 ≤ b) : ∀ l : List Nat, l.getLastD 0 ≠ 0 → 1 ≤ valR b l := by
  intro l
  induction l with
  | nil => intro h; simp at h
  | cons d t ih =>
    intro h
    cases t with
    | nil => simp at h; simp [valR]; omega
    | cons e t =>
      have h' : (e :: t).getLastD 0 ≠ 0 := by simpa using h
      have h1 := ih h'
      have h2 : 1 ≤ b * valR b (e :: t) := Nat.le_trans h1 (Nat.le_mul_of_pos_left _ (by omega))
      rw [valR]; omega

/-- A row of digits whose greatest place is not 0 is the digits of its number. -/
theorem digsR_valR {b : Nat} (hb : 2 ≤ b) : ∀ l : List Nat, (∀ x ∈ l, x < b) → l.getLastD 0 ≠ 0 → digsR b (valR b l) = l := by
  intro l
  induction l with
  | nil => intro _ h; simp at h
  | cons d t ih =>
    intro hm h
    have hd := hm d (by simp)
    cases t with
    | nil => simp only [valR, Nat.mul_zero, Nat.add_zero]; exact digsR_lt hd
    | cons e t =>
      have h' : (e :: t).getLastD 0 ≠ 0 := by simpa using h
      have hp := valR_pos hb _ h'
      have hge : b ≤ d + b * valR b (e :: t) := by
        have : b * 1 ≤ b * valR b (e :: t) := Nat.mul_le_mul_left b hp
        omega
      have e1 : (d + b * valR b (e :: t)) % b = d := by rw [Nat.add_mul_mod_self_left, Nat.mod_eq_of_lt hd]
      have e2 : (d + b * valR b (e :: t)) / b = valR b (e :: t) := by rw [Nat.add_mul_div_left _ _ (by omega), Nat.div_eq_of_lt hd, Nat.zero_add]
      rw [valR, digsR_ge hb hge, e1, e2, ih (fun x hx => hm x (by simp [hx])) h']

theorem digsR_last {b : Nat} (hb : 2 ≤ b) (n : Nat) : 1 ≤ n → (digsR b n).getLastD 0 ≠ 0 := by
  refine digInd hb (P := fun n => 1 ≤ n → (digsR b n).getLastD 0 ≠ 0) ?_ ?_ n
  · intro n h hn; rw [digsR_lt h]; simp; omega
  · intro n h ih _
    have h1 : 1 ≤ n / b := (Nat.one_le_div_iff (by omega)).2 h
    have h2 := digsR_pos b (n / b)
    rw [digsR_ge hb h]
    match hl : digsR b (n / b), h2 with
    | e :: t, _ =>
      have := ih h1
      rw [hl] at this
      simpa using this

theorem digsR_head {b : Nat} (hb : 2 ≤ b) (n : Nat) : (digsR b n).headD 0 = n % b := by
  by_cases h : n < b
  · rw [digsR_lt h, Nat.mod_eq_of_lt h]; rfl
  · rw [digsR_ge hb (by omega)]; rfl

theorem rev_last (l : List Nat) : l.reverse.getLastD 0 = l.headD 0 := by
  cases l with
  | nil => rfl
  | cons a t => simp

theorem digsR_turn {b n : Nat} (hb : 2 ≤ b) (h : n % b ≠ 0) : digsR b (turnN b n) = (digsR b n).reverse := by
  rw [turnN_valR]
  refine digsR_valR hb _ (fun x hx => digsR_mem hb n x (List.mem_reverse.1 hx)) ?_
  rw [rev_last, digsR_head hb]; exact h

theorem turn_turn {b n : Nat} (hb : 2 ≤ b) (h : n % b ≠ 0) : turnN b (turnN b n) = n := by
  rw [turnN_valR, digsR_turn hb h, List.reverse_reverse, valR_digsR hb]

theorem turn_sum {b : Nat} (hb : 2 ≤ b) (n : Nat) : sumD b (turnN b n) = sumD b n := by
  rw [turnN_valR, sumD_valR hb _ (fun x hx => digsR_mem hb n x (List.mem_reverse.1 hx)), List.sum_reverse]; rfl

theorem turn_mod {b : Nat} (hb : 2 ≤ b) (n : Nat) : ((b : Int) - 1) ∣ ((n : Int) - (turnN b n : Int)) := by
  obtain ⟨k1, h1⟩ := valR_mod (b := b) (by omega) (digsR b n)
  obtain ⟨k2, h2⟩ := valR_mod (b := b) (by omega) (digsR b n).reverse
  rw [List.sum_reverse, ← turnN_valR] at h2
  rw [valR_digsR hb] at h1
  refine ⟨(k1 : Int) - (k2 : Int), ?_⟩
  have e : ((b - 1 : Nat) : Int) = (b : Int) - 1 := by omega
  rw [Int.mul_sub, ← e, ← Int.natCast_mul, ← Int.natCast_mul]
  omega

theorem turn_pow {b : Nat} (hb : 2 ≤ b) (n : Nat) : turnN b n < b ^ (digsR b n).length := by
  have := valR_lt (b := b) (digsR b n).reverse fun x hx => digsR_mem hb n x (List.mem_reverse.1 hx)
  rwa [List.length_reverse, ← turnN_valR] at this

theorem turn_pos {b n : Nat} (hb : 2 ≤ b) (h : 1 ≤ n) : 1 ≤ turnN b n := by
  have h1 : 1 ≤ sumD b n := by
    have hl := digsR_last hb n h
    have hs : ∀ l : List Nat, l.getLastD 0 ≠ 0 → 1 ≤ l.sum := by
      intro l
      induction l with
      | nil => intro h; simp at h
      | cons a t ih =>
        intro h
        cases t with
        | nil => simp at h; simp; omega
        | cons c t =>
          have := ih (by simpa using h)
          rw [List.sum_cons]; omega
    exact hs _ hl
  rw [← turn_sum hb] at h1
  have := sumD_le hb (turnN b n)
  omega

theorem pow_le_of {b : Nat} (hb : 2 ≤ b) (n : Nat) : 1 ≤ n → b ^ ((digsR b n).length - 1) ≤ n := by
  refine digInd hb (P := fun n => 1 ≤ n → b ^ ((digsR b n).length - 1) ≤ n) ?_ ?_ n
  · intro n h hn; rw [len_lt h]; simpa using hn
  · intro n h ih _
    have h1 : 1 ≤ n / b := (Nat.one_le_div_iff (by omega)).2 h
    have h2 := ih h1
    have h3 := digsR_pos b (n / b)
    rw [len_ge hb h, show 1 + (digsR b (n / b)).length - 1 = ((digsR b (n / b)).length - 1) + 1 by omega, Nat.pow_succ]
    have h4 : b ^ ((digsR b (n / b)).length - 1) * b ≤ n / b * b := Nat.mul_le_mul_right b h2
    have h5 := Nat.div_mul_le_self n b
    omega

/-- A number from 1 on that ends with nought is more than it turned round. -/
theorem turn_less {b n : Nat} (hb : 2 ≤ b) (h : 1 ≤ n) (h0 : n % b = 0) : turnN b n < n := by
  have hbn : b ≤ n := by
    refine Classical.byContradiction fun hno => ?_
    rw [Nat.mod_eq_of_lt (by omega)] at h0; omega
  have h1 : 1 ≤ n / b := (Nat.one_le_div_iff (by omega)).2 hbn
  have e : turnN b n = turnN b (n / b) := by
    rw [turnN, digsR_ge hb hbn, h0]; simp [valF, turnN]
  have h2 := turn_pow hb (n / b)
  have h3 := pow_le_of hb n h
  rw [len_ge hb hbn, show 1 + (digsR b (n / b)).length - 1 = (digsR b (n / b)).length by omega] at h3
  omega

theorem pal_last {b n : Nat} (hb : 2 ≤ b) (h : 1 ≤ n) (hp : turnN b n = n) : n % b ≠ 0 := fun h0 => by
  have := turn_less hb h h0; omega

/-! ### One more than the base -/

/-- The digits by turns added and taken away. -/
def altI : List Nat → Int
  | [] => 0
  | d :: t => (d : Int) - altI t

theorem altI_app : ∀ (l m : List Nat), altI (l ++ m) = altI l + (if l.length % 2 = 0 then altI m else - altI m) := by
  intro l
  induction l with
  | nil => intro m; simp [altI]
  | cons d t ih =>
    intro m
    rw [List.cons_append, altI, ih, altI, List.length_cons]
    by_cases h : t.length % 2 = 0
    · rw [if_pos h, if_neg (by omega)]; omega
    · rw [if_neg h, if_pos (by omega)]; omega

theorem altI_rev : ∀ l : List Nat, altI l.reverse = if l.length % 2 = 0 then - altI l else altI l := by
  intro l
  induction l with
  | nil => simp [altI]
  | cons d t ih =>
    rw [List.reverse_cons, altI_app, List.length_reverse, ih, List.length_cons]
    have e : altI [d] = (d : Int) := by simp [altI]
    rw [e, altI]
    by_cases h : t.length % 2 = 0
    · rw [if_pos h, if_pos h, if_neg (by omega)]; omega
    · rw [if_neg h, if_neg h, if_pos (by omega)]; omega

theorem valR_alt (b : Nat) : ∀ l : List Nat, ∃ k : Int, (valR b l : Int) = altI l + ((b : Int) + 1) * k := by
  intro l
  induction l with
  | nil => exact ⟨0, by simp [valR, altI]⟩
  | cons d t ih =>
    obtain ⟨k, hk⟩ := ih
    refine ⟨(valR b t : Int) - k, ?_⟩
    rw [valR, altI, Int.natCast_add, Int.natCast_mul, Int.mul_sub, Int.add_mul, Int.one_mul]
    omega

/-- A number and it turned round, of an even number of digits, the last one not 0 or any: together a multiple of one more than the base. -/
theorem added_mod {b n : Nat} (hb : 2 ≤ b) (h : (digsR b n).length % 2 = 0) : (n + turnN b n) % (b + 1) = 0 := by
  obtain ⟨k1, h1⟩ := valR_alt b (digsR b n)
  obtain ⟨k2, h2⟩ := valR_alt b (digsR b n).reverse
  rw [altI_rev, if_pos h, ← turnN_valR] at h2
  rw [valR_digsR hb] at h1
  have e : ((n + turnN b n : Nat) : Int) = ((b + 1 : Nat) : Int) * (k1 + k2) := by
    rw [Int.natCast_add, Int.natCast_add, Int.mul_add]; simp only [Int.natCast_one]; omega
  have hd : ((b + 1 : Nat) : Int) ∣ ((n + turnN b n : Nat) : Int) := ⟨_, e⟩
  exact Nat.mod_eq_zero_of_dvd (Int.natCast_dvd_natCast.1 hd)

theorem pal_even {b n : Nat} (hb : 2 ≤ b) (hn : 1 ≤ n) (hp : turnN b n = n) (h : (digsR b n).length % 2 = 0) : n % (b + 1) = 0 := by
  have hr := digsR_turn hb (pal_last hb hn hp)
  rw [hp] at hr
  obtain ⟨k1, h1⟩ := valR_alt b (digsR b n)
  have h2 := altI_rev (digsR b n)
  rw [if_pos h, ← hr] at h2
  rw [valR_digsR hb] at h1
  have e : (n : Int) = ((b + 1 : Nat) : Int) * k1 := by
    rw [Int.natCast_add]; simp only [Int.natCast_one]; omega
  have hd : ((b + 1 : Nat) : Int) ∣ (n : Int) := ⟨_, e⟩
  exact Nat.mod_eq_zero_of_dvd (Int.natCast_dvd_natCast.1 hd)

/-! ### Sums without carries -/

theorem valR_zip (b : Nat) : ∀ l m : List Nat, l.length = m.length → valR b (List.zipWith (· + ·) l m) = valR b l + valR b m := by
  intro l
  induction l with
  | nil => intro m h; cases m with
    | nil => rfl
    | cons e m => simp at h
  | cons d t ih =>
    intro m h
    cases m with
    | nil => simp at h
    | cons e m =>
      rw [List.zipWith_cons_cons, valR, ih m (by simpa using h), valR, valR, Nat.mul_add]; omega

theorem zip_rev (l : List Nat) : (List.zipWith (· + ·) l l.reverse).reverse = List.zipWith (· + ·) l l.reverse := by
  rw [List.zipWith_eq_zipWith_take_min]
  apply List.ext_getElem
  · simp
  · intro i h1 h2
    simp at h1 h2 ⊢
    rw [Nat.add_comm]
    congr 1
    congr 1
    omega

/-- Without carries it is a palindrome at once. -/
theorem added_pal {b n : Nat} (hb : 2 ≤ b) (h0 : n % b ≠ 0) (hs : ∀ i, i < (digsR b n).length → (digsR b n)[i]?.getD 0 + (digsR b n)[(digsR b n).length - 1 - i]?.getD 0 < b) : turnN b (n + turnN b n) = n + turnN b n := by
  have hlen := digsR_pos b n
  have e : n + turnN b n = valR b (List.zipWith (· + ·) (digsR b n) (digsR b n).reverse) := by
    rw [valR_zip b _ _ (by simp), valR_digsR hb, turnN_valR]
  have hzl : (List.zipWith (· + ·) (digsR b n) (digsR b n).reverse).length = (digsR b n).length := by simp
  have hget : ∀ i (hi : i < (List.zipWith (· + ·) (digsR b n) (digsR b n).reverse).length), (List.zipWith (· + ·) (digsR b n) (digsR b n).reverse)[i] = (digsR b n)[i]?.getD 0 + (digsR b n)[(digsR b n).length - 1 - i]?.getD 0 := fun i hi => by
    rw [hzl] at hi
    rw [List.getElem_zipWith, List.getElem_reverse, List.getElem?_eq_getElem hi, List.getElem?_eq_getElem (by omega)]; rfl
  have hm : ∀ x ∈ List.zipWith (· + ·) (digsR b n) (digsR b n).reverse, x < b := fun x hx => by
    obtain ⟨i, hi, rfl⟩ := List.getElem_of_mem hx
    rw [hget i hi]
    exact hs i (by rwa [hzl] at hi)
  have hl : (List.zipWith (· + ·) (digsR b n) (digsR b n).reverse).getLastD 0 ≠ 0 := by
    rw [List.getLastD_eq_getLast?, List.getLast?_eq_getElem?, hzl, List.getElem?_eq_getElem (by rw [hzl]; omega), hget, Option.getD_some]
    have h1 := digsR_head hb n
    have h2 : (digsR b n)[(digsR b n).length - 1 - ((digsR b n).length - 1)]?.getD 0 = n % b := by
      rw [Nat.sub_self, ← h1]
      cases digsR b n <;> rfl
    omega
  rw [e, turnN_valR, digsR_valR hb _ hm hl, zip_rev]

/-! ### As the functions answer -/

def turnI (n b : Int) : Int := if okB n b = true ∧ turnN b.toNat n.toNat ≤ 1000000000 then (turnN b.toNat n.toNat : Nat) else -1
theorem turnI_yes (n b : Nat) (h : okB n b = true) (h' : turnN b n ≤ 1000000000) : turnI n b = (turnN b n : Nat) := by rw [turnI, if_pos ⟨h, h'⟩]; rfl
theorem turnI_no {n b : Int} (h : ¬ okB n b = true) : turnI n b = -1 := by rw [turnI, if_neg fun hh => h hh.1]
theorem turnI_big (n b : Nat) (h : ¬ turnN b n ≤ 1000000000) : turnI n b = -1 := by rw [turnI, if_neg fun hh => h hh.2]
/-- Whether a number is a palindrome. -/
def palB (n b : Int) : Bool := okB n b && decide (turnN b.toNat n.toNat = n.toNat)
theorem palB_yes (n b : Nat) (h : okB n b = true) : palB n b = decide (turnN b n = n) := by simp [palB, h]
theorem palB_no {n b : Int} (h : ¬ okB n b = true) : palB n b = false := by simp [palB, h]
theorem palB_turn (n b : Int) : palB n b = (decide (0 ≤ n) && decide (turnI n b = n)) := by
  by_cases h : okB n b = true
  · obtain ⟨x, k, rfl, rfl, h1, h2, h3⟩ := okB_nat h
    rw [palB_yes x k h]
    by_cases hb : turnN k x ≤ 1000000000
    · rw [turnI_yes x k h hb, Bool.eq_iff_iff]; simp; omega
    · rw [turnI_big x k hb, Bool.eq_iff_iff]; simp; omega
  · rw [palB_no h, turnI_no h, Bool.eq_iff_iff]; simp; omega

/-! ### The next palindrome -/

theorem valR_pow (b k : Nat) : valR b (1 :: (List.replicate k 0 ++ [1])) = b ^ (k + 1) + 1 := by
  have : ∀ k, valR b (List.replicate k 0 ++ [1]) = b ^ k := by
    intro k
    induction k with
    | zero => simp [valR]
    | succ k ih => rw [List.replicate_succ, List.cons_append, valR, ih, Nat.pow_succ, Nat.mul_comm]; omega
  rw [valR, this, Nat.pow_succ, Nat.mul_comm]; omega

theorem pal_pow {b : Nat} (hb : 2 ≤ b) (k : Nat) : turnN b (b ^ (k + 1) + 1) = b ^ (k + 1) + 1 := by
  have hd : digsR b (b ^ (k + 1) + 1) = 1 :: (List.replicate k 0 ++ [1]) := by
    rw [← valR_pow b k]
    refine digsR_valR hb _ (fun x hx => ?_) (by rw [List.getLastD_eq_getLast?, show (1 :: (List.replicate k 0 ++ [1])) = (1 :: List.replicate k 0) ++ [1] from rfl, List.getLast?_concat]; simp)
    simp only [List.mem_cons, List.mem_append, List.mem_replicate, List.not_mem_nil, or_false] at hx
    omega
  rw [turnN_valR, hd, ← valR_pow b k]
  congr 1
  simp

/-- Above each number there is a palindrome, not too far. -/
theorem pal_above {b n : Nat} (hb : 2 ≤ b) (hb' : b ≤ 16) (hn : n ≤ 1000000) : ∃ m, n < m ∧ m ≤ 16000001 ∧ turnN b m = m := by
  have h1 := lt_pow_len hb n
  have h0 := digsR_pos b n
  obtain ⟨k, hk⟩ : ∃ k, (digsR b n).length = k + 1 := ⟨(digsR b n).length - 1, by omega⟩
  refine ⟨b ^ (k + 1) + 1, by rw [← hk]; omega, ?_, pal_pow hb k⟩
  by_cases hz : n = 0
  · subst hz
    rw [len_lt (by omega)] at hk
    obtain rfl : k = 0 := by omega
    simp; omega
  · have h2 := pow_le_of hb n (by omega)
    rw [hk, Nat.add_sub_cancel] at h2
    rw [Nat.pow_succ]
    have h3 : b ^ k * b ≤ 1000000 * 16 := Nat.mul_le_mul (by omega) hb'
    omega

/-- The least palindrome that is more than a number. -/
structure NextPal (b n m : Nat) : Prop where
  more : n < m
  pal : turnN b m = m
  least : ∀ j, n < j → j < m → turnN b j ≠ j
  small : m ≤ 16000001

theorem nextPal_exists {b n : Nat} (hb : 2 ≤ b) (hb' : b ≤ 16) (hn : n ≤ 1000000) : ∃ m, NextPal b n m := by
  obtain ⟨m0, h1, h2, h3⟩ := pal_above hb hb' hn
  obtain ⟨m, ⟨g1, g2⟩, hmin⟩ := least_nat (P := fun m => n < m ∧ turnN b m = m) ⟨m0, h1, h3⟩
  refine ⟨m, g1, g2, fun j hj1 hj2 hj3 => hmin j hj2 ⟨hj1, hj3⟩, ?_⟩
  refine Classical.byContradiction fun hno => hmin m0 (by omega) ⟨h1, h3⟩

theorem NextPal.unique {b n m m' : Nat} (h : NextPal b n m) (h' : NextPal b n m') : m = m' := by
  rcases Nat.lt_trichotomy m m' with hlt | he | hlt
  · exact absurd h.pal (h'.least m h.more hlt)
  · exact he
  · exact absurd h'.pal (h.least m' h'.more hlt)

/-! ### How many there are -/

/-- How many of k numbers from a number on are palindromes. -/
def cntPal (b lo : Nat) : Nat → Nat
  | 0 => 0
  | k + 1 => cntPal b lo k + (if turnN b (lo + k) = lo + k then 1 else 0)

theorem cntPal_add (b lo a : Nat) : ∀ c, cntPal b lo (a + c) = cntPal b lo a + cntPal b (lo + a) c := by
  intro c
  induction c with
  | zero => rfl
  | succ c ih => rw [← Nat.add_assoc, cntPal, ih, cntPal, Nat.add_assoc, Nat.add_assoc lo a c]

theorem digW_of_len {b : Nat} (hb : 2 ≤ b) (n : Nat) : digW b (digsR b n).length n = digsR b n := by
  refine digInd hb (P := fun n => digW b (digsR b n).length n = digsR b n) ?_ ?_ n
  · intro n h; rw [digsR_lt h]; simp [digW, Nat.mod_eq_of_lt h]
  · intro n h ih; rw [digsR_ge hb h, List.length_cons, digW, ih]

theorem len_between {b : Nat} (hb : 2 ≤ b) {L n : Nat} (h1 : b ^ L ≤ n) (h2 : n < b ^ (L + 1)) : (digsR b n).length = L + 1 := by
  have h0 : 1 ≤ b ^ L := Nat.pow_pos (by omega)
  have h3 := lt_pow_len hb n
  have h4 := pow_le_of hb n (by omega)
  have h5 := digsR_pos b n
  have h6 : L < (digsR b n).length := (Nat.pow_lt_pow_iff_right (by omega)).1 (Nat.lt_of_le_of_lt h1 h3)
  have h7 : (digsR b n).length - 1 < L + 1 := (Nat.pow_lt_pow_iff_right (by omega)).1 (Nat.lt_of_le_of_lt h4 h2)
  omega

/-- The same, of numbers of so many digits, by halves. -/
def cntR (b L : Nat) : Nat → Nat → Nat → Nat
  | 0, lo, len => if len = 0 then 0 else if valF b 0 (digW b L lo) == lo then 1 else 0
  | f + 1, lo, len => cntR b L f lo (len / 2) + cntR b L f (lo + len / 2) (len - len / 2)

theorem cntR_eq {b L : Nat} (hb : 2 ≤ b) : ∀ f lo len, len ≤ 2 ^ f → b ^ L ≤ lo → lo + len ≤ b ^ (L + 1) → cntR b (L + 1) f lo len = cntPal b lo len := by
  intro f
  induction f with
  | zero =>
    intro lo len h1 h2 h3
    have hl : len = 0 ∨ len = 1 := by
      have : (2 : Nat) ^ 0 = 1 := rfl
      omega
    rcases hl with rfl | rfl
    · rfl
    · have hlen := len_between hb (n := lo) h2 (by omega)
      have hd := digW_of_len hb lo
      rw [hlen] at hd
      simp only [cntR, cntPal, hd, turnN, Nat.add_zero, Nat.zero_add]
      by_cases h : valF b 0 (digsR b lo) = lo
      · simp [h]
      · simp [h]
  | succ f ih =>
    intro lo len h1 h2 h3
    have hp : (2 : Nat) ^ (f + 1) = 2 ^ f * 2 := Nat.pow_succ ..
    rw [cntR, ih lo (len / 2) (by omega) h2 (by omega), ih (lo + len / 2) (len - len / 2) (by omega) (by omega) (by omega), ← cntPal_add]
    congr 1; omega

/-! ### Steps to a palindrome -/

/-- How often a number and it turned round are to be added, and which palindrome then comes; none, if one is more than may be told. -/
def stpN (b : Nat) : Nat → Nat → Option (Nat × Nat)
  | 0, _ => none
  | f + 1, n => if turnN b n = n then some (0, n) else if n + turnN b n ≤ 1000000000 then (stpN b f (n + turnN b n)).map (fun q => (q.1 + 1, q.2)) else none

theorem stepsN_stable {b : Nat} (hb : 2 ≤ b) : ∀ f f' n, 1000000001 ≤ f + n → 1000000001 ≤ f' + n → n ≤ 1000000000 → stpN b f n = stpN b f' n := by
  intro f
  induction f with
  | zero => intro f' n h1 _ h3; omega
  | succ f ih =>
    intro f' n h1 h2 h3
    obtain ⟨g, rfl⟩ : ∃ g, f' = g + 1 := ⟨f' - 1, by omega⟩
    rw [stpN, stpN]
    by_cases hp : turnN b n = n
    · rw [if_pos hp, if_pos hp]
    · rw [if_neg hp, if_neg hp]
      by_cases hn : n + turnN b n ≤ 1000000000
      · rw [if_pos hn, if_pos hn]
        have h0 : 1 ≤ n := by
          refine Classical.byContradiction fun hz => hp ?_
          obtain rfl : n = 0 := by omega
          exact turnN_lt (by omega)
        have := turn_pos hb h0
        rw [ih g (n + turnN b n) (by omega) (by omega) hn]
      · rw [if_neg hn, if_neg hn]

def stepsO (b n : Nat) : Option (Nat × Nat) := stpN b 1000000001 n

theorem stepsO_pal {b n : Nat} (h : turnN b n = n) : stepsO b n = some (0, n) := by
  show stpN b (1000000000 + 1) n = _
  rw [stpN, if_pos h]
theorem stepsO_big {b n : Nat} (h : turnN b n ≠ n) (h' : ¬ n + turnN b n ≤ 1000000000) : stepsO b n = none := by
  show stpN b (1000000000 + 1) n = _
  rw [stpN, if_neg h, if_neg h']
theorem stepsO_more {b n : Nat} (hb : 2 ≤ b) (h : turnN b n ≠ n) (h' : n + turnN b n ≤ 1000000000) : stepsO b n = (stepsO b (n + turnN b n)).map (fun q => (q.1 + 1, q.2)) := by
  have h0 : 1 ≤ n := by
    refine Classical.byContradiction fun hz => h ?_
    obtain rfl : n = 0 := by omega
    exact turnN_lt (by omega)
  show stpN b (1000000000 + 1) n = _
  rw [stpN, if_neg h, if_pos h', stepsN_stable hb 1000000000 1000000001 (n + turnN b n) (by omega) (by omega) h']; rfl

end Pl
end Go.Proofs.Ytakkjlcnfkklpaa
