/-
  Plain facts: a function on bounded numbers taken again and again leads into a round, said by two numbers; sums of powers of digits; the slow and the fast walker.
-/
import Derived.KernelRfl
import Derived.Test.YtgkkoegfmhgcjaaDoorMath
namespace Go.Proofs.YtgkkoegfmhgcjaaDoor
namespace Pl

/-! ### Lists without repetition -/

theorem nodup_subset_length {α : Type} [DecidableEq α] : ∀ (l m : List α), l.Nodup → (∀ x, x ∈ l → x ∈ m) → l.length ≤ m.length := by
  intro l
  induction l with
  | nil => intro m _ _; simp
  | cons a l ih =>
    intro m hn hs
    rw [List.nodup_cons] at hn
    have ha : a ∈ m := hs a (by simp)
    have h1 := ih (m.erase a) hn.2 fun x hx => (List.mem_erase_of_ne (fun e => hn.1 (by rw [← e]; exact hx))).2 (hs x (by simp [hx]))
    have h2 := List.length_erase_of_mem ha
    have h3 : 0 < m.length := List.length_pos_of_mem ha
    simp only [List.length_cons]; omega

theorem pigeon {l : List Nat} {N : Nat} (h : l.Nodup) (hb : ∀ x, x ∈ l → x < N) : l.length ≤ N := by
  have := nodup_subset_length l (List.range N) h fun x hx => List.mem_range.2 (hb x hx)
  simpa using this

/-! ### Taken again and again -/

/-- f taken i times. -/
def iter (f : Nat → Nat) : Nat → Nat → Nat
  | 0, x => x
  | i + 1, x => f (iter f i x)

theorem iter_succ' (f : Nat → Nat) (i x : Nat) : iter f (i + 1) x = iter f i (f x) := by
  induction i with
  | zero => rfl
  | succ i ih => show f (iter f (i + 1) x) = f (iter f i (f x)); rw [ih]

theorem iter_add (f : Nat → Nat) (i j x : Nat) : iter f (i + j) x = iter f i (iter f j x) := by
  induction i with
  | zero => rw [Nat.zero_add]; rfl
  | succ i ih => rw [Nat.succ_add]; show f (iter f (i + j) x) = f (iter f i (iter f j x)); rw [ih]

/-- It comes again to itself. -/
def Back (f : Nat → Nat) (x : Nat) : Prop := ∃ p, 1 ≤ p ∧ iter f p x = x

theorem iter_back_mul {f : Nat → Nat} {x p : Nat} (h : iter f p x = x) (k : Nat) : iter f (k * p) x = x := by
  induction k with
  | zero => rw [Nat.zero_mul]; rfl
  | succ k ih => rw [Nat.succ_mul, iter_add, h, ih]

theorem back_iter {f : Nat → Nat} {x : Nat} (h : Back f x) (i : Nat) : Back f (iter f i x) := by
  obtain ⟨p, hp, hx⟩ := h
  exact ⟨p, hp, by rw [← iter_add, Nat.add_comm, iter_add, hx]⟩

/-- From where one comes to, by going on, back to the start. -/
theorem back_return {f : Nat → Nat} {x : Nat} (h : Back f x) (i : Nat) : ∃ j, iter f j (iter f i x) = x := by
  obtain ⟨p, hp, hx⟩ := h
  refine ⟨(i + 1) * p - i, ?_⟩
  have h1 : i ≤ (i + 1) * p := by
    have := Nat.mul_le_mul_left (i + 1) hp
    omega
  rw [← iter_add, Nat.sub_add_cancel h1]
  exact iter_back_mul hx _

/-- x is in the round to which n leads. -/
def InRound (f : Nat → Nat) (n x : Nat) : Prop := Back f x ∧ ∃ i, iter f i n = x

theorem inRound_next (f : Nat → Nat) (n x : Nat) : InRound f n x ↔ InRound f (f n) x := by
  constructor
  · rintro ⟨hb, i, rfl⟩
    refine ⟨hb, ?_⟩
    cases i with
    | zero =>
      obtain ⟨p, hp, hx⟩ := hb
      obtain ⟨p', rfl⟩ : ∃ p', p = p' + 1 := ⟨p - 1, by omega⟩
      exact ⟨p', by rw [← iter_succ']; exact hx⟩
    | succ i => exact ⟨i, (iter_succ' f i n).symm⟩
  · rintro ⟨hb, i, hi⟩
    exact ⟨hb, i + 1, by rw [iter_succ']; exact hi⟩

/-! ### The round as a list -/

/-- From a row of numbers each the next of the one before: on, until one comes again. -/
def walkR (f : Nat → Nat) : Nat → List Nat → List Nat
  | 0, _ => []
  | k + 1, seen => if f (seen.getLastD 0) ∈ seen then seen.dropWhile (fun x => x != f (seen.getLastD 0)) else walkR f k (seen ++ [f (seen.getLastD 0)])

/-- A row of numbers from n on, each the next of the one before, no two equal. -/
structure Path (f : Nat → Nat) (n : Nat) (seen : List Nat) : Prop where
  pos : seen ≠ []
  at' : ∀ i, i < seen.length → seen[i]? = some (iter f i n)
  nodup : seen.Nodup

theorem Path.one (f : Nat → Nat) (n : Nat) : Path f n [n] := ⟨by simp, fun i hi => by
  have : i = 0 := by simpa using hi
  subst this; rfl, by simp⟩

theorem Path.last {f : Nat → Nat} {n : Nat} {seen : List Nat} (h : Path f n seen) : seen.getLastD 0 = iter f (seen.length - 1) n := by
  have h0 : 0 < seen.length := List.length_pos_iff.2 h.pos
  rw [List.getLastD_eq_getLast?, List.getLast?_eq_getElem?, h.at' (seen.length - 1) (by omega)]; rfl

theorem Path.next {f : Nat → Nat} {n : Nat} {seen : List Nat} (h : Path f n seen) : f (seen.getLastD 0) = iter f seen.length n := by
  have h0 : 0 < seen.length := List.length_pos_iff.2 h.pos
  rw [h.last]
  show iter f (seen.length - 1 + 1) n = _
  rw [Nat.sub_add_cancel h0]

theorem Path.push {f : Nat → Nat} {n : Nat} {seen : List Nat} (h : Path f n seen) (hn : f (seen.getLastD 0) ∉ seen) : Path f n (seen ++ [f (seen.getLastD 0)]) := by
  refine ⟨by simp, fun i hi => ?_, ?_⟩
  · by_cases hl : i < seen.length
    · rw [List.getElem?_append_left hl]; exact h.at' i hl
    · have : i = seen.length := by simp at hi; omega
      subst this
      rw [List.getElem?_append_right (Nat.le_refl _), Nat.sub_self]; exact congrArg some h.next
  · rw [List.nodup_append]
    refine ⟨h.nodup, by simp, fun a ha b hb => ?_⟩
    have : b = f (seen.getLastD 0) := by simpa using hb
    subst this
    intro e; subst e; exact hn ha

theorem Path.mem {f : Nat → Nat} {n : Nat} {seen : List Nat} (h : Path f n seen) {x : Nat} : x ∈ seen ↔ ∃ i, i < seen.length ∧ x = iter f i n := by
  rw [List.mem_iff_getElem?]
  constructor
  · rintro ⟨i, hi⟩
    have hlt := (List.getElem?_eq_some_iff.1 hi).1
    rw [h.at' i hlt] at hi
    exact ⟨i, hlt, (Option.some.inj hi).symm⟩
  · rintro ⟨i, hi, rfl⟩
    exact ⟨i, h.at' i hi⟩

theorem Path.inj {f : Nat → Nat} {n : Nat} {seen : List Nat} (h : Path f n seen) {i j : Nat} (hi : i < seen.length) (hj : j < seen.length) (he : iter f i n = iter f j n) : i = j := by
  have h1 := h.at' i hi
  have h2 := h.at' j hj
  rw [List.getElem?_eq_getElem hi] at h1
  rw [List.getElem?_eq_getElem hj] at h2
  have e : seen[i] = seen[j] := by rw [Option.some.inj h1, Option.some.inj h2, he]
  exact (List.getElem_inj h.nodup).1 e

theorem dropWhile_ne (x : Nat) : ∀ (l : List Nat) (k : Nat), l[k]? = some x → (∀ i, i < k → l[i]? ≠ some x) → l.dropWhile (fun y => y != x) = l.drop k := by
  intro l
  induction l with
  | nil => intro k h; simp at h
  | cons a l ih =>
    intro k hk hl
    cases k with
    | zero =>
      have : a = x := by simpa using hk
      subst this
      rw [List.dropWhile_cons_of_neg (by simp)]; rfl
    | succ k =>
      have ha : a ≠ x := fun e => hl 0 (by omega) (by simp [e])
      rw [List.dropWhile_cons_of_pos (by simpa using ha), List.drop_succ_cons]
      exact ih k (by simpa using hk) fun i hi h => hl (i + 1) (by omega) (by simpa using h)

/-- A round as a list: of a row of numbers that lies behind the start, the first one comes behind the last one. -/
structure IsRound (f : Nat → Nat) (n : Nat) (r : List Nat) : Prop where
  pos : r ≠ []
  from' : ∃ m, ∀ i, i < r.length → r[i]? = some (iter f (m + i) n)
  back : ∀ i, i < r.length → f (r[i]?.getD 0) = r[(i + 1) % r.length]?.getD 0
  nodup : r.Nodup

/-- Where one comes again, the row from there on is the round. -/
theorem Path.round {f : Nat → Nat} {n : Nat} {seen : List Nat} (h : Path f n seen) (hm : f (seen.getLastD 0) ∈ seen) : IsRound f n (seen.dropWhile fun x => x != f (seen.getLastD 0)) := by
  obtain ⟨k, hk, hx⟩ := h.mem.1 hm
  have hl : 0 < seen.length := List.length_pos_iff.2 h.pos
  have e : seen.dropWhile (fun x => x != f (seen.getLastD 0)) = seen.drop k := by
    refine dropWhile_ne _ seen k (by rw [h.at' k hk, hx]) fun i hi hs => ?_
    rw [h.at' i (by omega)] at hs
    have := h.inj (show i < seen.length by omega) hk (by rw [Option.some.inj hs, hx])
    omega
  rw [e]
  have hat : ∀ i, i < (seen.drop k).length → (seen.drop k)[i]? = some (iter f (k + i) n) := fun i hi => by
    rw [List.length_drop] at hi
    rw [List.getElem?_drop]; exact h.at' (k + i) (by omega)
  refine ⟨?_, ⟨k, hat⟩, fun i hi => ?_, ?_⟩
  · intro e0
    have := congrArg List.length e0
    rw [List.length_drop] at this; simp at this; omega
  · rw [hat i hi]
    rw [List.length_drop] at hi
    by_cases hlast : i + 1 = seen.length - k
    · rw [List.length_drop, hlast, Nat.mod_self, hat 0 (by rw [List.length_drop]; omega)]
      show f (iter f (k + i) n) = iter f (k + 0) n
      rw [Nat.add_zero, ← hx, h.next]
      show iter f (k + i + 1) n = _
      congr 1; omega
    · rw [List.length_drop, Nat.mod_eq_of_lt (by omega), hat (i + 1) (by rw [List.length_drop]; omega)]; rfl
  · exact List.Nodup.sublist (List.drop_sublist k seen) h.nodup

theorem walkR_round {f : Nat → Nat} {n N : Nat} (hf : ∀ x, x < N → f x < N) : ∀ (k : Nat) (seen : List Nat), Path f n seen → N + 1 ≤ k + seen.length → (∀ x, x ∈ seen → x < N) → IsRound f n (walkR f k seen) := by
  intro k
  induction k with
  | zero =>
    intro seen h hk hb
    have := pigeon h.nodup hb
    omega
  | succ k ih =>
    intro seen h hk hb
    rw [walkR]
    split
    · rename_i hm; exact h.round hm
    · rename_i hm
      refine ih _ (h.push hm) (by simp; omega) fun x hx => ?_
      rcases List.mem_append.1 hx with hx | hx
      · exact hb x hx
      · have : x = f (seen.getLastD 0) := by simpa using hx
        subst this
        have hl : 0 < seen.length := List.length_pos_iff.2 h.pos
        have hmem : seen.getLastD 0 ∈ seen := h.mem.2 ⟨seen.length - 1, by omega, h.last⟩
        exact hf _ (hb _ hmem)

theorem IsRound.mem {f : Nat → Nat} {n : Nat} {r : List Nat} (h : IsRound f n r) {x : Nat} : x ∈ r ↔ InRound f n x := by
  have hl : 0 < r.length := List.length_pos_iff.2 h.pos
  obtain ⟨m, hm⟩ := h.from'
  -- from each place one comes to each later one
  have hgo : ∀ j i, i < r.length → iter f j (r[i]?.getD 0) = r[(i + j) % r.length]?.getD 0 := by
    intro j
    induction j with
    | zero => intro i hi; rw [Nat.add_zero, Nat.mod_eq_of_lt hi]; rfl
    | succ j ih =>
      intro i hi
      show f (iter f j _) = _
      rw [ih i hi, h.back _ (Nat.mod_lt _ hl)]
      congr 2
      rw [Nat.mod_add_mod, Nat.add_assoc]
  have hback : ∀ i, i < r.length → Back f (r[i]?.getD 0) := fun i hi => by
    refine ⟨r.length, hl, ?_⟩
    rw [hgo r.length i hi, Nat.add_mod_right, Nat.mod_eq_of_lt hi]
  constructor
  · intro hx
    obtain ⟨i, hi⟩ := List.mem_iff_getElem?.1 hx
    have hlt := (List.getElem?_eq_some_iff.1 hi).1
    have e : r[i]?.getD 0 = x := by rw [hi]; rfl
    refine ⟨by rw [← e]; exact hback i hlt, m + i, ?_⟩
    rw [hm i hlt] at hi
    exact Option.some.inj hi
  · rintro ⟨hb, i, rfl⟩
    -- go on from n: behind m steps it is in the row
    have h0 := hm 0 hl
    have hrow : ∀ j, iter f (m + j) n ∈ r := fun j => by
      have h1 : iter f (j + m) n = iter f j (r[0]?.getD 0) := by rw [iter_add, h0]; rfl
      rw [Nat.add_comm, h1, hgo j 0 hl]
      have hlt := Nat.mod_lt (0 + j) hl
      rw [List.getElem?_eq_getElem hlt]
      exact List.getElem_mem _
    obtain ⟨p, hp, hx⟩ := hb
    have h2 := iter_back_mul hx m
    rw [← h2, ← iter_add]
    have h3 : m ≤ m * p := Nat.le_mul_of_pos_right _ hp
    have h4 := hrow (m * p + i - m)
    rwa [show m + (m * p + i - m) = m * p + i by omega] at h4

/-- Two rounds of the same numbers are equally long. -/
theorem round_length {f : Nat → Nat} {n n' : Nat} {r r' : List Nat} (h : IsRound f n r) (h' : IsRound f n' r') (hs : ∀ x, InRound f n x ↔ InRound f n' x) : r.length = r'.length := by
  have h1 := nodup_subset_length r r' h.nodup fun x hx => h'.mem.2 ((hs x).1 (h.mem.1 hx))
  have h2 := nodup_subset_length r' r h'.nodup fun x hx => h.mem.2 ((hs x).2 (h'.mem.1 hx))
  omega

/-- What is in a round is at most T, if below T what comes next is at most T, and from T on less. -/
theorem inRound_le {f : Nat → Nat} {n x T : Nat} (hlo : ∀ y, y < T → f y ≤ T) (hhi : ∀ y, T ≤ y → f y < y) (h : InRound f n x) : x ≤ T := by
  obtain ⟨⟨p, hp, hx⟩, _⟩ := h
  -- somewhere on the way back it doesn't fall
  have hex : ∃ i, i < p ∧ iter f i x ≤ iter f (i + 1) x := by
    refine Classical.byContradiction fun hno => ?_
    have hfall : ∀ i, i ≤ p → iter f i x + i ≤ x := by
      intro i
      induction i with
      | zero => intro _; exact Nat.le_refl _
      | succ i ih =>
        intro hi
        have h1 := ih (by omega)
        have h2 : ¬ iter f i x ≤ iter f (i + 1) x := fun h => hno ⟨i, by omega, h⟩
        omega
    have := hfall p (Nat.le_refl _)
    rw [hx] at this; omega
  obtain ⟨i, hi, hle⟩ := hex
  have hlt : iter f i x < T := by
    refine Classical.byContradiction fun hge => ?_
    have h1 := hhi (iter f i x) (by omega)
    have h2 : iter f (i + 1) x = f (iter f i x) := rfl
    omega
  have hstay : ∀ j, 1 ≤ j → iter f (j + i) x ≤ T := by
    intro j
    induction j with
    | zero => intro h; omega
    | succ j ih =>
      intro _
      rw [Nat.succ_add]
      show f (iter f (j + i) x) ≤ T
      by_cases hj : j = 0
      · subst hj; rw [Nat.zero_add]; exact hlo _ hlt
      · have h1 := ih (by omega)
        by_cases h2 : iter f (j + i) x < T
        · exact hlo _ h2
        · have := hhi (iter f (j + i) x) (by omega); omega
  have := hstay (p - i) (by omega)
  rwa [Nat.sub_add_cancel (by omega), hx] at this

end Pl
end Go.Proofs.YtgkkoegfmhgcjaaDoor

namespace Go.Proofs.YtgkkoegfmhgcjaaDoor
namespace Pl

/-- The sum of all digits, each taken t times times itself. -/
def nextN (t b n : Nat) : Nat := if _h : n < b ∨ b < 2 then n ^ t else (n % b) ^ t + nextN t b (n / b)
  termination_by n
  decreasing_by exact Nat.div_lt_self (by omega) (by omega)

theorem nextN_lt {t b n : Nat} (h : n < b) : nextN t b n = n ^ t := by rw [nextN, dif_pos (.inl h)]
theorem nextN_ge {t b n : Nat} (hb : 2 ≤ b) (h : b ≤ n) : nextN t b n = (n % b) ^ t + nextN t b (n / b) := by rw [nextN, dif_neg (by omega)]
theorem nextN_zero {t b : Nat} (ht : 1 ≤ t) (hb : 2 ≤ b) : nextN t b 0 = 0 := by rw [nextN_lt (by omega)]; exact Nat.zero_pow (by omega)
theorem nextN_step {t b : Nat} (ht : 1 ≤ t) (hb : 2 ≤ b) (n : Nat) : nextN t b n = (n % b) ^ t + nextN t b (n / b) := by
  by_cases h : n < b
  · rw [Nat.div_eq_of_lt h, Nat.mod_eq_of_lt h, nextN_lt h, nextN_zero ht hb]; omega
  · exact nextN_ge hb (by omega)

theorem nextN_one {b : Nat} (hb : 2 ≤ b) (n : Nat) : nextN 1 b n = sumD b n := by
  refine digInd hb (P := fun n => nextN 1 b n = sumD b n) ?_ ?_ n
  · intro n h; rw [nextN_lt h, sumD_lt h, Nat.pow_one]
  · intro n h ih; rw [nextN_ge hb h, sumD_ge hb h, ih, Nat.pow_one]

theorem nextN_behind {t b : Nat} (ht : 1 ≤ t) (hb : 2 ≤ b) (n : Nat) : ∀ (L m : Nat), m < b ^ L → nextN t b (n * b ^ L + m) = nextN t b n + nextN t b m := by
  intro L
  induction L with
  | zero => intro m h; have : m = 0 := by simpa using h
            subst this; rw [nextN_zero ht hb]; simp
  | succ L ih =>
    intro m h
    have e1 : (n * b ^ (L + 1) + m) % b = m % b := by
      rw [Nat.pow_succ, ← Nat.mul_assoc, Nat.add_comm, Nat.add_mul_mod_self_right]
    have e2 : (n * b ^ (L + 1) + m) / b = n * b ^ L + m / b := by
      rw [Nat.pow_succ, ← Nat.mul_assoc, Nat.add_comm, Nat.add_mul_div_right _ _ (by omega), Nat.add_comm]
    have h3 : m / b < b ^ L := by
      rw [Nat.div_lt_iff_lt_mul (by omega), ← Nat.pow_succ]; exact h
    rw [nextN_step ht hb (n * b ^ (L + 1) + m), e1, e2, ih _ h3, nextN_step ht hb m]; omega

theorem nextN_nought {t b : Nat} (ht : 1 ≤ t) (hb : 2 ≤ b) (n : Nat) : nextN t b (n * b) = nextN t b n := by
  have := nextN_behind ht hb n 1 0 (by rw [Nat.pow_one]; omega)
  rw [nextN_zero ht hb, Nat.pow_one] at this
  simpa using this

theorem nextN_bound {t b : Nat} (hb : 2 ≤ b) (n : Nat) : nextN t b n ≤ (digsR b n).length * (b - 1) ^ t := by
  refine digInd hb (P := fun n => nextN t b n ≤ (digsR b n).length * (b - 1) ^ t) ?_ ?_ n
  · intro n h
    rw [nextN_lt h, len_lt h, Nat.one_mul]
    exact Nat.pow_le_pow_left (by omega) t
  · intro n h ih
    have h1 := Nat.mod_lt n (show 0 < b by omega)
    have h2 : (n % b) ^ t ≤ (b - 1) ^ t := Nat.pow_le_pow_left (by omega) t
    rw [nextN_ge hb h, len_ge hb h, Nat.add_mul, Nat.one_mul]; omega

/-- Below b to the L there are at most L digits (L from 1 on). -/
theorem len_le {b : Nat} (hb : 2 ≤ b) : ∀ (L n : Nat), n < b ^ (L + 1) → (digsR b n).length ≤ L + 1 := by
  intro L
  induction L with
  | zero => intro n h; rw [len_lt (by simpa using h)]; omega
  | succ L ih =>
    intro n h
    by_cases hn : n < b
    · rw [len_lt hn]; omega
    · rw [len_ge hb (by omega)]
      have := ih (n / b) (by rw [Nat.div_lt_iff_lt_mul (by omega), ← Nat.pow_succ]; exact h)
      omega

/-- A length from which on numbers become smaller. -/
structure Stay (t b L : Nat) : Prop where
  pos : 1 ≤ L
  less : L * (b - 1) ^ t < b ^ L - 1

theorem nextN_small {t b L n : Nat} (hb : 2 ≤ b) (h : Stay t b L) (hn : n < b ^ L) : nextN t b n ≤ L * (b - 1) ^ t := by
  obtain ⟨K, rfl⟩ : ∃ K, L = K + 1 := ⟨L - 1, by have := h.pos; omega⟩
  have h1 := nextN_bound (t := t) hb n
  have h2 := len_le hb K n hn
  exact Nat.le_trans h1 (Nat.mul_le_mul_right _ h2)

/-- Great numbers become smaller. -/
theorem nextN_less {t b L : Nat} (ht : 1 ≤ t) (hb : 2 ≤ b) (h : Stay t b L) (n : Nat) : b ^ L - 1 ≤ n → nextN t b n < n := by
  induction n using Nat.strongRecOn with
  | _ n ih =>
    intro hn
    have hP : 1 ≤ b ^ L := Nat.one_le_pow _ _ (by omega)
    have hl := h.less
    have hpos := h.pos
    have h1 : (b - 1) ^ t ≤ L * (b - 1) ^ t := Nat.le_mul_of_pos_left _ (by omega)
    by_cases hlow : n < b ^ L
    · have := nextN_small hb h hlow; omega
    · -- n is q behind which r stands
      have hbP : b ≤ b ^ L := by
        have := Nat.pow_le_pow_right (show 0 < b by omega) hpos
        rwa [Nat.pow_one] at this
      have hq1 : 1 ≤ n / b ^ L := (Nat.one_le_div_iff (by omega)).2 (by omega)
      have hr : n % b ^ L < b ^ L := Nat.mod_lt _ (by omega)
      have he : n / b ^ L * b ^ L + n % b ^ L = n := by rw [Nat.mul_comm]; exact Nat.div_add_mod _ _
      have hnx := nextN_behind ht hb (n / b ^ L) L (n % b ^ L) hr
      rw [he] at hnx
      have hrs := nextN_small hb h hr
      have hqn : n / b ^ L < n := Nat.div_lt_self (by omega) (by omega)
      have hqx : nextN t b (n / b ^ L) ≤ (n / b ^ L - 1) * b ^ L + 1 := by
        by_cases hq : n / b ^ L < b ^ L
        · by_cases h2 : n / b ^ L = 1
          · rw [h2, nextN_lt (by omega), Nat.one_pow]; omega
          · have h3 := nextN_small hb h hq
            have h4 : b ^ L ≤ (n / b ^ L - 1) * b ^ L := Nat.le_mul_of_pos_left _ (by omega)
            omega
        · have h3 := ih _ hqn (by omega)
          have h4 : n / b ^ L - 1 ≤ (n / b ^ L - 1) * b ^ L := Nat.le_mul_of_pos_right _ (by omega)
          omega
      have h5 : (n / b ^ L - 1) * b ^ L + b ^ L = n / b ^ L * b ^ L := by
        have : n / b ^ L = (n / b ^ L - 1) + 1 := by omega
        conv => rhs; rw [this, Nat.add_mul, Nat.one_mul]
      generalize n / b ^ L = Q at *
      generalize n % b ^ L = R at *
      omega

/-- The search for the fewest digits. -/
def stayFrom (t b : Nat) : Nat → Nat → Nat
  | 0, L => L
  | k + 1, L => if b ^ L - 1 ≤ L * (b - 1) ^ t then stayFrom t b k (L + 1) else L
def stayL (t b : Nat) : Nat := stayFrom t b 12 1

theorem stay_all : (List.range 5).all (fun t => (List.range 15).all fun b => decide (1 ≤ stayL (t + 1) (b + 2) ∧ stayL (t + 1) (b + 2) ≤ 12 ∧ stayL (t + 1) (b + 2) * (b + 1) ^ (t + 1) < (b + 2) ^ stayL (t + 1) (b + 2) - 1 ∧ (b + 2) ^ stayL (t + 1) (b + 2) ≤ 1000000000 ∧
    ((List.range (stayL (t + 1) (b + 2))).all fun L => decide (L = 0 ∨ (b + 2) ^ L - 1 ≤ L * (b + 1) ^ (t + 1))) = true)) = true := by kernel_rfl

theorem stay_spec {t b : Nat} (h1 : 1 ≤ t) (h2 : t ≤ 5) (h3 : 2 ≤ b) (h4 : b ≤ 16) :
    Stay t b (stayL t b) ∧ b ^ stayL t b ≤ 1000000000 ∧ stayL t b ≤ 12 ∧ ∀ L, 1 ≤ L → L < stayL t b → b ^ L - 1 ≤ L * (b - 1) ^ t := by
  have h := stay_all
  rw [List.all_eq_true] at h
  have h5 := h (t - 1) (List.mem_range.2 (by omega))
  rw [List.all_eq_true] at h5
  have h6 := h5 (b - 2) (List.mem_range.2 (by omega))
  rw [show t - 1 + 1 = t by omega, show b - 2 + 2 = b by omega, show b - 2 + 1 = b - 1 by omega, decide_eq_true_eq] at h6
  obtain ⟨g1, g2, g3, g4, g5⟩ := h6
  refine ⟨⟨g1, g3⟩, g4, g2, fun L hL1 hL2 => ?_⟩
  rw [List.all_eq_true] at g5
  have := g5 L (List.mem_range.2 hL2)
  rw [decide_eq_true_eq] at this
  omega

end Pl
end Go.Proofs.YtgkkoegfmhgcjaaDoor

namespace Go.Proofs.YtgkkoegfmhgcjaaDoor
namespace Pl

theorem least_nat {P : Nat → Prop} (h : ∃ n, P n) : ∃ n, P n ∧ ∀ m, m < n → ¬ P m := by
  obtain ⟨n, hn⟩ := h
  induction n using Nat.strongRecOn with
  | _ n ih =>
    by_cases hx : ∃ m, m < n ∧ P m
    · obtain ⟨m, hm, hp⟩ := hx; exact ih m hm hp
    · exact ⟨n, hn, fun m hm hp => hx ⟨m, hm, hp⟩⟩

/-- n leads into a round: mu steps ahead of it, p numbers in it. -/
structure Rho (f : Nat → Nat) (n mu p : Nat) : Prop where
  pos : 1 ≤ p
  back : iter f (mu + p) n = iter f mu n
  inj : ∀ i j, i < j → j < mu + p → iter f i n ≠ iter f j n

theorem Rho.unique {f : Nat → Nat} {n mu p mu' p' : Nat} (h : Rho f n mu p) (h' : Rho f n mu' p') : mu = mu' ∧ p = p' := by
  have h1 := h.pos
  have h1' := h'.pos
  have e : mu + p = mu' + p' := by
    rcases Nat.lt_trichotomy (mu + p) (mu' + p') with hlt | he | hlt
    · exact absurd h.back.symm (h'.inj mu (mu + p) (by omega) hlt)
    · exact he
    · exact absurd h'.back.symm (h.inj mu' (mu' + p') (by omega) hlt)
  have e2 : iter f mu n = iter f mu' n := by rw [← h.back, e, h'.back]
  rcases Nat.lt_trichotomy mu mu' with hlt | he | hlt
  · exact absurd e2 (h.inj mu mu' hlt (by omega))
  · exact ⟨he, by omega⟩
  · exact absurd e2.symm (h.inj mu' mu hlt (by omega))

theorem nodup_range_map (g : Nat → Nat) : ∀ m, (∀ i j, i < j → j < m → g i ≠ g j) → ((List.range m).map g).Nodup := by
  intro m
  induction m with
  | zero => intro _; simp
  | succ m ih =>
    intro h
    rw [List.range_succ, List.map_append, List.nodup_append]
    refine ⟨ih fun i j hij hj => h i j hij (by omega), by simp, fun a ha b hb => ?_⟩
    obtain ⟨i, hi, rfl⟩ := List.mem_map.1 ha
    have hb : b = g m := by simpa using hb
    subst hb
    exact h i m (List.mem_range.1 hi) (by omega)

theorem rho_exists {f : Nat → Nat} {n N : Nat} (hb : ∀ i, iter f i n < N) : ∃ mu p, Rho f n mu p ∧ mu + p ≤ N := by
  have hex : ∃ j, ∃ i, i < j ∧ iter f i n = iter f j n := by
    refine Classical.byContradiction fun hno => ?_
    have hnd := nodup_range_map (fun i => iter f i n) (N + 1) fun i j hij _ he => hno ⟨j, i, hij, he⟩
    have := pigeon (N := N) hnd fun x hx => by
      obtain ⟨i, _, rfl⟩ := List.mem_map.1 hx; exact hb i
    simp at this; omega
  obtain ⟨j, ⟨i, hij, he⟩, hmin⟩ := least_nat hex
  have hinj : ∀ a c, a < c → c < j → iter f a n ≠ iter f c n := fun a c hac hc h => hmin c hc ⟨a, hac, h⟩
  refine ⟨i, j - i, ⟨by omega, ?_, ?_⟩, ?_⟩
  · rw [show i + (j - i) = j by omega]; exact he.symm
  · rw [show i + (j - i) = j by omega]; exact hinj
  · have hnd := nodup_range_map (fun i => iter f i n) j hinj
    have := pigeon (N := N) hnd fun x hx => by
      obtain ⟨i, _, rfl⟩ := List.mem_map.1 hx; exact hb i
    simp at this; omega

/-- The first m numbers of a way. -/
def pre (f : Nat → Nat) (n m : Nat) : List Nat := (List.range m).map fun i => iter f i n
/-- p numbers of a way from mu on. -/
def orb (f : Nat → Nat) (n mu p : Nat) : List Nat := (List.range p).map fun i => iter f (mu + i) n

theorem pre_len (f : Nat → Nat) (n m : Nat) : (pre f n m).length = m := by simp [pre]
theorem orb_len (f : Nat → Nat) (n mu p : Nat) : (orb f n mu p).length = p := by simp [orb]
theorem pre_get {f : Nat → Nat} {n m i : Nat} (h : i < m) : (pre f n m)[i]? = some (iter f i n) := by simp [pre, h]
theorem orb_get {f : Nat → Nat} {n mu p i : Nat} (h : i < p) : (orb f n mu p)[i]? = some (iter f (mu + i) n) := by simp [orb, h]
theorem pre_succ (f : Nat → Nat) (n m : Nat) : pre f n (m + 1) = pre f n m ++ [iter f m n] := by simp [pre, List.range_succ]
theorem orb_succ (f : Nat → Nat) (n mu p : Nat) : orb f n mu (p + 1) = orb f n mu p ++ [iter f (mu + p) n] := by simp [orb, List.range_succ]
theorem pre_one (f : Nat → Nat) (n : Nat) : pre f n 1 = [n] := rfl
theorem pre_drop (f : Nat → Nat) (n mu p : Nat) : (pre f n (mu + p)).drop mu = orb f n mu p := by
  apply List.ext_getElem?
  intro i
  rw [List.getElem?_drop]
  by_cases h : i < p
  · rw [pre_get (by omega), orb_get h]
  · rw [List.getElem?_eq_none (by rw [pre_len]; omega), List.getElem?_eq_none (by rw [orb_len]; omega)]
theorem mem_orb {f : Nat → Nat} {n mu p x : Nat} : x ∈ orb f n mu p ↔ ∃ i, i < p ∧ iter f (mu + i) n = x := by
  simp [orb, List.mem_range]
theorem mem_pre {f : Nat → Nat} {n m x : Nat} : x ∈ pre f n m ↔ ∃ i, i < m ∧ iter f i n = x := by
  simp [pre, List.mem_range]

theorem Rho.isRound {f : Nat → Nat} {n mu p : Nat} (h : Rho f n mu p) : IsRound f n (orb f n mu p) := by
  have hp := h.pos
  refine ⟨?_, ⟨mu, fun i hi => ?_⟩, fun i hi => ?_, ?_⟩
  · intro e
    have := congrArg List.length e
    rw [orb_len] at this; simp at this; omega
  · rw [orb_len] at hi; exact orb_get hi
  · rw [orb_len] at hi ⊢
    rw [orb_get hi]
    show f (iter f (mu + i) n) = _
    by_cases hl : i + 1 = p
    · rw [hl, Nat.mod_self, orb_get (by omega)]
      show iter f (mu + i + 1) n = iter f (mu + 0) n
      rw [Nat.add_assoc, hl, h.back]; rfl
    · rw [Nat.mod_eq_of_lt (by omega), orb_get (by omega)]; rfl
  · exact nodup_range_map _ p fun i j hij hj => h.inj (mu + i) (mu + j) (by omega) (by omega)

/-- The round into which n leads, found by going on until one comes again. -/
def roundL (f : Nat → Nat) (n : Nat) : List Nat := walkR f 30000000 [n]

theorem pre_path {f : Nat → Nat} {n m : Nat} (hm : 1 ≤ m) (h : ∀ i j, i < j → j < m → iter f i n ≠ iter f j n) : Path f n (pre f n m) := by
  refine ⟨?_, fun i hi => ?_, nodup_range_map _ m h⟩
  · intro e
    have := congrArg List.length e
    rw [pre_len] at this; simp at this; omega
  · rw [pre_len] at hi; exact pre_get hi

theorem walkR_orb {f : Nat → Nat} {n mu p : Nat} (h : Rho f n mu p) : ∀ (k m : Nat), 1 ≤ m → m ≤ mu + p → mu + p < k + m → walkR f k (pre f n m) = orb f n mu p := by
  intro k
  induction k with
  | zero => intro m _ h2 h3; omega
  | succ k ih =>
    intro m h1 h2 h3
    have hP := pre_path h1 (fun i j hij hj => h.inj i j hij (by omega))
    have hn := hP.next
    rw [pre_len] at hn
    rw [walkR, hn]
    by_cases hm : m = mu + p
    · have hmem : iter f m n ∈ pre f n m := mem_pre.2 ⟨mu, by have := h.pos; omega, by rw [hm, h.back]⟩
      rw [if_pos hmem, ← pre_drop, ← hm]
      refine dropWhile_ne _ _ mu (by rw [pre_get (by have := h.pos; omega), hm, h.back]) fun i hi hs => ?_
      rw [pre_get (by omega), hm, h.back] at hs
      exact h.inj i mu hi (by have := h.pos; omega) (Option.some.inj hs)
    · have hmem : iter f m n ∉ pre f n m := fun hx => by
        obtain ⟨i, hi, he⟩ := mem_pre.1 hx
        exact h.inj i m hi (by omega) he
      rw [if_neg hmem, ← pre_succ]
      exact ih (m + 1) (by omega) (by omega) (by omega)

theorem roundL_eq {f : Nat → Nat} {n mu p : Nat} (h : Rho f n mu p) (hb : mu + p ≤ 29999999) : roundL f n = orb f n mu p := by
  have := walkR_orb h 30000000 1 (Nat.le_refl _) (by have := h.pos; omega) (by omega)
  rwa [pre_one] at this

/-! ### Rounds of powers -/

/-- A rule that is told: a number of times and a base. -/
structure RuleOk (t b : Nat) : Prop where
  t1 : 1 ≤ t
  t2 : t ≤ 5
  b1 : 2 ≤ b
  b2 : b ≤ 16

theorem next_le {t b x : Nat} (h : RuleOk t b) (hx : x ≤ 1000000000) : nextN t b x ≤ 22781250 := by
  have h1 := nextN_bound (t := t) h.b1 x
  have h2 := digsR_len30 h.b1 hx
  have h3 : (b - 1) ^ t ≤ 15 ^ t := Nat.pow_le_pow_left (by have := h.b2; omega) t
  have h4 : (15 : Nat) ^ t ≤ 15 ^ 5 := Nat.pow_le_pow_right (by omega) h.t2
  have h5 : (digsR b x).length * (b - 1) ^ t ≤ 30 * 759375 := Nat.mul_le_mul h2 (by omega)
  omega

theorem iter_next_le {t b n : Nat} (h : RuleOk t b) (hn : n ≤ 1000000000) : ∀ i, iter (nextN t b) i n ≤ 1000000000 ∧ (1 ≤ i → iter (nextN t b) i n ≤ 22781250) := by
  intro i
  induction i with
  | zero => exact ⟨hn, fun h => by omega⟩
  | succ i ih =>
    have := next_le h ih.1
    exact ⟨by show nextN t b _ ≤ _; omega, fun _ => this⟩

theorem next_rho {t b n : Nat} (h : RuleOk t b) (hn : n ≤ 1000000000) : ∃ mu p, Rho (nextN t b) n mu p ∧ mu + p ≤ 22781252 := by
  obtain ⟨mu, p, hr, hb⟩ := rho_exists (f := nextN t b) (n := nextN t b n) (N := 22781251) (fun i => by
    rw [← iter_succ']
    have := (iter_next_le h hn (i + 1)).2 (by omega)
    omega)
  -- one step earlier
  obtain ⟨mu', p', hr', _⟩ := rho_exists (f := nextN t b) (n := n) (N := 1000000001) (fun i => by
    have := (iter_next_le h hn i).1; omega)
  refine ⟨mu', p', hr', ?_⟩
  refine Classical.byContradiction fun hno => ?_
  have hnd := nodup_range_map (fun i => iter (nextN t b) (i + 1) n) (mu' + p' - 1) fun i j hij hj => hr'.inj (i + 1) (j + 1) (by omega) (by omega)
  have := pigeon (N := 22781251) hnd fun x hx => by
    obtain ⟨i, _, rfl⟩ := List.mem_map.1 hx
    have := (iter_next_le h hn (i + 1)).2 (by omega)
    omega
  simp at this; omega

theorem next_round {t b n : Nat} (h : RuleOk t b) (hn : n ≤ 1000000000) : IsRound (nextN t b) n (roundL (nextN t b) n) ∧ (roundL (nextN t b) n).length ≤ 22781252 ∧ ∀ x ∈ roundL (nextN t b) n, x ≤ 22781250 := by
  obtain ⟨mu, p, hr, hb⟩ := next_rho h hn
  rw [roundL_eq hr (by omega)]
  refine ⟨hr.isRound, by rw [orb_len]; omega, fun x hx => ?_⟩
  have hm := hr.isRound.mem.1 hx
  obtain ⟨⟨q, hq, hx'⟩, i, rfl⟩ := hm
  rw [← hx', ← iter_add]
  exact (iter_next_le h hn (q + i)).2 (by omega)

/-- Rounds of which the same numbers are: the round of what comes next. -/
theorem round_next_mem {f : Nat → Nat} {n : Nat} {r r' : List Nat} (h : IsRound f n r) (h' : IsRound f (f n) r') (x : Nat) : x ∈ r ↔ x ∈ r' := by
  rw [h.mem, h'.mem]; exact inRound_next f n x

theorem round_next_len {f : Nat → Nat} {n : Nat} {r r' : List Nat} (h : IsRound f n r) (h' : IsRound f (f n) r') : r.length = r'.length :=
  round_length h h' fun x => inRound_next f n x

/-- None in the round is more than the greatest stay. -/
theorem next_round_le {t b n x : Nat} (h : RuleOk t b) (hx : InRound (nextN t b) n x) : x ≤ b ^ stayL t b - 1 := by
  obtain ⟨hs, h9, _, _⟩ := stay_spec h.t1 h.t2 h.b1 h.b2
  refine inRound_le (T := b ^ stayL t b - 1) (fun y hy => ?_) (fun y hy => nextN_less h.t1 h.b1 hs y hy) hx
  have h1 := nextN_small h.b1 hs (n := y) (by omega)
  have h2 := hs.less
  omega

/-! ### Happy numbers -/

theorem nextN_self {t b : Nat} (hb : 2 ≤ b) : nextN t b 1 = 1 := by rw [nextN_lt (by omega), Nat.one_pow]

theorem back_one {f : Nat → Nat} (h1 : f 1 = 1) : Back f 1 := ⟨1, Nat.le_refl _, h1⟩

/-- The round is 1 alone exactly if 1 is in it. -/
theorem round_one {f : Nat → Nat} {n : Nat} {r : List Nat} (h1 : f 1 = 1) (h : IsRound f n r) : r = [1] ↔ InRound f n 1 := by
  constructor
  · intro e; rw [← h.mem, e]; simp
  · intro hi
    have hm := h.mem.2 hi
    -- each in the round is 1
    have hall : ∀ x ∈ r, x = 1 := fun x hx => by
      obtain ⟨hb, i, hi'⟩ := h.mem.1 hx
      obtain ⟨_, j, hj⟩ := hi
      -- iter (i + j) n is both behind x and behind 1
      have stay : ∀ k, iter f k 1 = 1 := by
        intro k; induction k with
        | zero => rfl
        | succ k ih => show f (iter f k 1) = 1; rw [ih, h1]
      have e1 : iter f j x = 1 := by
        rw [← hi', ← iter_add, Nat.add_comm, iter_add, hj, stay]
      obtain ⟨k, hk⟩ := back_return hb j
      rw [e1, stay] at hk
      exact hk.symm
    match r, h.pos, hall, h.nodup with
    | [], h0, _, _ => exact absurd rfl h0
    | [a], _, ha, _ => rw [ha a (by simp)]
    | a :: c :: l, _, ha, hn =>
      have e1 := ha a (by simp)
      have e2 := ha c (by simp)
      subst e1; subst e2
      simp at hn

end Pl
end Go.Proofs.YtgkkoegfmhgcjaaDoor

namespace Go.Proofs.YtgkkoegfmhgcjaaDoor
namespace Pl

theorem Rho.on {f : Nat → Nat} {n mu p : Nat} (h : Rho f n mu p) (i : Nat) : iter f (mu + i + p) n = iter f (mu + i) n := by
  rw [show mu + i + p = i + (mu + p) by omega, iter_add, h.back, ← iter_add, Nat.add_comm i mu]

theorem Rho.times {f : Nat → Nat} {n mu p : Nat} (h : Rho f n mu p) (i : Nat) : ∀ k, iter f (mu + i + k * p) n = iter f (mu + i) n := by
  intro k
  induction k with
  | zero => rw [Nat.zero_mul]; rfl
  | succ k ih =>
    have := h.on (i + k * p)
    rw [show mu + i + (k + 1) * p = mu + (i + k * p) + p by rw [Nat.add_mul]; omega, this, show mu + (i + k * p) = mu + i + k * p by omega, ih]

theorem Rho.mod {f : Nat → Nat} {n mu p : Nat} (h : Rho f n mu p) (i : Nat) : iter f (mu + i) n = iter f (mu + i % p) n := by
  have h1 := h.times (i % p) (i / p)
  have h2 := Nat.mod_add_div i p
  rw [← h1, Nat.add_assoc, Nat.mul_comm (i / p) p, h2]

/-- Two numbers of a way are the same: both are in the round, and whole rounds lie between. -/
theorem Rho.same {f : Nat → Nat} {n mu p a d : Nat} (h : Rho f n mu p) (hd : 1 ≤ d) (he : iter f a n = iter f (a + d) n) : mu ≤ a ∧ p ∣ d := by
  have hp := h.pos
  by_cases ha : mu ≤ a
  · refine ⟨ha, ?_⟩
    have e1 := h.mod (a - mu)
    have e2 := h.mod (a + d - mu)
    rw [show mu + (a - mu) = a by omega] at e1
    rw [show mu + (a + d - mu) = a + d by omega] at e2
    have e3 : iter f (mu + (a - mu) % p) n = iter f (mu + (a + d - mu) % p) n := by rw [← e1, ← e2, he]
    have m1 := Nat.mod_lt (a - mu) hp
    have m2 := Nat.mod_lt (a + d - mu) hp
    have e4 : (a - mu) % p = (a + d - mu) % p := by
      rcases Nat.lt_trichotomy ((a - mu) % p) ((a + d - mu) % p) with hl | he' | hl
      · exact absurd e3 (h.inj _ _ (by omega) (by omega))
      · exact he'
      · exact absurd e3.symm (h.inj _ _ (by omega) (by omega))
    have e5 : (a + d - mu) = (a - mu) + d := by omega
    have := Nat.sub_mod_eq_zero_of_mod_eq e4.symm
    rw [e5, Nat.add_sub_cancel_left] at this
    exact Nat.dvd_of_mod_eq_zero this
  · exfalso
    by_cases hb : a + d < mu
    · exact h.inj a (a + d) (by omega) (by omega) he
    · have e2 := h.mod (a + d - mu)
      rw [show mu + (a + d - mu) = a + d by omega] at e2
      have m2 := Nat.mod_lt (a + d - mu) hp
      exact h.inj a (mu + (a + d - mu) % p) (by omega) (by omega) (by rw [← e2, he])

theorem Rho.same_of {f : Nat → Nat} {n mu p a d : Nat} (h : Rho f n mu p) (ha : mu ≤ a) (hd : p ∣ d) : iter f a n = iter f (a + d) n := by
  obtain ⟨k, rfl⟩ := hd
  have := h.times (a - mu) k
  rw [show mu + (a - mu) = a by omega, Nat.mul_comm k p] at this
  exact this.symm

/-- The place at which the slow walker and the fast one meet, at the latest. -/
def meetAt (mu p : Nat) : Nat := p * (mu + 1)
theorem meetAt_ok {f : Nat → Nat} {n mu p : Nat} (h : Rho f n mu p) : 1 ≤ meetAt mu p ∧ iter f (meetAt mu p) n = iter f (meetAt mu p + meetAt mu p) n := by
  have hp := h.pos
  have h1 : mu + 1 ≤ p * (mu + 1) := Nat.le_mul_of_pos_left _ hp
  exact ⟨by unfold meetAt; omega, h.same_of (by unfold meetAt; omega) ⟨mu + 1, rfl⟩⟩

end Pl
end Go.Proofs.YtgkkoegfmhgcjaaDoor
