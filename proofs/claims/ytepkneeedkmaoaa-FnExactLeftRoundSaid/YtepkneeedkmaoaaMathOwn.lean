/-
  Plain facts: own numbers: what digits add by a rule, the own numbers up to a number, the numbers that follow. No program is named.
-/
import Derived.Test.YtepkneeedkmaoaaMathRow
namespace Go.Proofs.Ytepkneeedkmaoaa
namespace Pl

/-- The product of all numbers from 1 up to a digit. -/
def factN : Nat → Nat
  | 0 => 1
  | d + 1 => factN d * (d + 1)
/-- What a digit adds by a rule, in a number with so many digits. -/
def addR (r d L : Nat) : Nat := if r = 0 then d ^ L else if r = 1 then factN d else d ^ d
/-- The sum of all digits by a rule. -/
def ownN (r b n : Nat) : Nat := ((digsR b n).map fun d => addR r d (digsR b n).length).sum

theorem addR_0 (d L : Nat) : addR 0 d L = d ^ L := rfl
theorem addR_1 (d L : Nat) : addR 1 d L = factN d := rfl
theorem addR_2 (d L : Nat) : addR 2 d L = d ^ d := rfl

theorem fact_15 : (List.range 16).all (fun d => decide (factN d ≤ 1307674368000)) = true := by kernel_rfl
theorem fact_le {d : Nat} (h : d < 16) : factN d ≤ 1307674368000 := by
  have := List.all_eq_true.1 fact_15 d (List.mem_range.2 h)
  simpa using this
theorem pow_15 : (15 : Nat) ^ 15 = 437893890380859375 := by kernel_rfl
theorem pow_le15 {d t : Nat} (hd : d < 16) (ht : t ≤ 15) : d ^ t ≤ 437893890380859375 := by
  have h1 : d ^ t ≤ 15 ^ t := Nat.pow_le_pow_left (by omega) t
  have h2 : (15 : Nat) ^ t ≤ 15 ^ 15 := Nat.pow_le_pow_right (by omega) ht
  rw [pow_15] at h2; omega
theorem addR_le {r d L : Nat} (hd : d < 16) (hL : L ≤ 15) : addR r d L ≤ 437893890380859375 := by
  unfold addR
  split
  · exact pow_le15 hd hL
  · split
    · have := fact_le hd; omega
    · exact pow_le15 hd (by omega)

theorem sum_le_mul {B : Nat} : ∀ l : List Nat, (∀ x ∈ l, x ≤ B) → l.sum ≤ l.length * B
  | [], _ => by simp
  | a :: l, h => by
    have h1 := h a (by simp)
    have h2 := sum_le_mul l fun x hx => h x (by simp [hx])
    rw [List.sum_cons, List.length_cons, Nat.add_mul, Nat.one_mul]; omega

theorem len11 {b n : Nat} (hb : 2 ≤ b) (hn : n ≤ 2000) : (digsR b n).length ≤ 11 := digsR_len hb 10 n (by omega)

theorem ownN_le {r b n : Nat} (hb : 2 ≤ b) (hb' : b ≤ 10) (hn : n ≤ 2000) : ownN r b n ≤ 4816832794189453125 := by
  have hl := len11 hb hn
  have h := sum_le_mul (B := 437893890380859375) ((digsR b n).map fun d => addR r d (digsR b n).length) (fun x hx => by
    obtain ⟨d, hd, rfl⟩ := List.mem_map.1 hx
    have := digsR_mem hb n d hd
    exact addR_le (by omega) (by omega))
  rw [List.length_map] at h
  unfold ownN
  omega

/-- Digits that are alike add alike: with the last digit 0 the next number has 1 more by the rule 0, and as much by the others. -/
theorem ownN_next {r b n : Nat} (hb : 2 ≤ b) (h : n % b = 0) : ownN r b (n + 1) = ownN r b n + (if r = 0 then 1 else 0) := by
  have key : ∀ k, addR r 1 (k + 1) = addR r 0 (k + 1) + (if r = 0 then 1 else 0) := fun k => by
    unfold addR
    split
    · rw [Nat.one_pow, Nat.zero_pow (by omega)]
    · split <;> rfl
  by_cases hlt : n < b
  · rw [Nat.mod_eq_of_lt hlt] at h
    subst h
    have h0 : ownN r b 0 = addR r 0 1 := by simp [ownN, digsR_lt hlt]
    have h1 : ownN r b 1 = addR r 1 1 := by simp [ownN, digsR_lt (show 1 < b by omega)]
    rw [Nat.zero_add, h0, h1]; exact key 0
  · obtain ⟨e1, e2⟩ := succ_mod_div hb (n := n) (by omega)
    have d0 : digsR b n = 0 :: digsR b (n / b) := by rw [digsR_ge hb (by omega), h]
    have d1 : digsR b (n + 1) = 1 :: digsR b (n / b) := by rw [digsR_ge hb (by omega), e1, e2, h]
    unfold ownN
    rw [d0, d1]
    simp only [List.map_cons, List.sum_cons, List.length_cons]
    rw [key]; omega

theorem ownN_one {b n : Nat} (h : n < b) : ownN 0 b n = n := by simp [ownN, digsR_lt h, addR_0]

/-- A number, a rule and a base that are told. -/
def ownB (n r b : Int) : Bool := decide (0 ≤ n ∧ n ≤ 2000 ∧ 0 ≤ r ∧ r < 3 ∧ 2 ≤ b ∧ b ≤ 10)
theorem ownB_iff (n r b : Int) : ownB n r b = true ↔ 0 ≤ n ∧ n ≤ 2000 ∧ 0 ≤ r ∧ r < 3 ∧ 2 ≤ b ∧ b ≤ 10 := by simp [ownB]
theorem ownB_nat {n r b : Int} (h : ownB n r b = true) : ∃ x s k : Nat, n = (x : Int) ∧ r = (s : Int) ∧ b = (k : Int) ∧ x ≤ 2000 ∧ s ≤ 2 ∧ 2 ≤ k ∧ k ≤ 10 := by
  rw [ownB_iff] at h
  exact ⟨n.toNat, r.toNat, b.toNat, by omega, by omega, by omega, by omega, by omega, by omega, by omega⟩
theorem ownB_of {x s k : Nat} (h1 : x ≤ 2000) (h2 : s ≤ 2) (h3 : 2 ≤ k) (h4 : k ≤ 10) : ownB x s k = true := by rw [ownB_iff]; omega
/-- The sum by a rule as the functions answer: -1 for others. -/
def ownI (n r b : Int) : Int := if ownB n r b = true then (ownN r.toNat b.toNat n.toNat : Int) else -1
theorem ownI_yes (n r b : Nat) (h : ownB n r b = true) : ownI n r b = (ownN r b n : Int) := by rw [ownI, if_pos h]; rfl
theorem ownI_no {n r b : Int} (h : ¬ ownB n r b = true) : ownI n r b = -1 := by rw [ownI, if_neg h]
theorem ownI_bound (n r b : Int) : -1 ≤ ownI n r b ∧ ownI n r b ≤ 4816832794189453125 := by
  by_cases h : ownB n r b = true
  · obtain ⟨x, s, k, rfl, rfl, rfl, h1, h2, h3, h4⟩ := ownB_nat h
    rw [ownI_yes x s k h]
    have := ownN_le (r := s) h3 h4 h1
    omega
  · rw [ownI_no h]; omega
/-- Whether a number is its own. -/
def ownOkB (n r b : Int) : Bool := ownB n r b && decide (ownI n r b = n)
theorem ownOkB_no {n r b : Int} (h : ¬ ownB n r b = true) : ownOkB n r b = false := by simp [ownOkB, h]
theorem ownOkB_yes {n r b : Int} (h : ownB n r b = true) : ownOkB n r b = decide (ownI n r b = n) := by simp [ownOkB, h]
theorem ownOkB_eq (n r b : Int) : ownOkB n r b = (decide (0 ≤ n) && decide (ownI n r b = n)) := by
  by_cases h : ownB n r b = true
  · have h0 := (ownB_iff n r b).1 h
    rw [ownOkB_yes h]; simp [h0.1]
  · rw [ownOkB_no h, ownI_no h]
    by_cases h0 : 0 ≤ n
    · have : ¬ (-1 : Int) = n := by omega
      simp [this]
    · simp [h0]

/-- The own numbers below k. -/
def ownPart (r b : Int) (k : Nat) : List Int := ((List.range k).filter fun n : Nat => ownOkB (n : Int) r b).map fun n : Nat => (n : Int)
theorem ownPart_zero (r b : Int) : ownPart r b 0 = [] := rfl
theorem ownPart_succ (r b : Int) (k : Nat) : ownPart r b (k + 1) = ownPart r b k ++ (if ownOkB (k : Int) r b = true then [(k : Int)] else []) := by
  unfold ownPart
  rw [List.range_succ, List.filter_append, List.map_append]
  by_cases h : ownOkB (k : Int) r b = true
  · rw [if_pos h]; simp [h]
  · rw [if_neg h]; simp [h]
theorem ownPart_yes {r b : Int} {k : Nat} (h : ownOkB (k : Int) r b = true) : ownPart r b (k + 1) = ownPart r b k ++ [(k : Int)] := by rw [ownPart_succ, if_pos h]
theorem ownPart_not {r b : Int} {k : Nat} (h : ownOkB (k : Int) r b = false) : ownPart r b (k + 1) = ownPart r b k := by rw [ownPart_succ, if_neg (by simp [h]), List.append_nil]
theorem ownPart_len (r b : Int) (k : Nat) : (ownPart r b k).length ≤ k := by
  unfold ownPart
  rw [List.length_map]
  have := List.length_filter_le (fun n : Nat => ownOkB (n : Int) r b) (List.range k)
  rwa [List.length_range] at this
theorem ownPart_mem {r b x : Int} {k : Nat} (h : x ∈ ownPart r b k) : ownOkB x r b = true ∧ x < (k : Int) ∧ 0 ≤ x := by
  obtain ⟨n, hn, rfl⟩ := List.mem_map.1 h
  rw [List.mem_filter, List.mem_range] at hn
  exact ⟨hn.2, by omega, by omega⟩
theorem ownPart_asc (r b : Int) (k : Nat) : (ownPart r b k).Pairwise (· < ·) := by
  unfold ownPart
  rw [List.pairwise_map]
  refine List.Pairwise.imp (fun {a b} h => by omega) (List.Pairwise.filter _ List.pairwise_lt_range)
theorem ownPart_none {r b : Int} (k : Nat) (h : ∀ n : Nat, ownOkB (n : Int) r b = false) : ownPart r b k = [] := by
  induction k with
  | zero => rfl
  | succ k ih => rw [ownPart_not (h k), ih]

/-- The own numbers up to a number as the functions answer: none for others. -/
def ownA (most r b : Int) : List Int := if ownB most r b = true then ownPart r b (most.toNat + 1) else []
theorem ownA_yes (most : Nat) (r b : Int) (h : ownB most r b = true) : ownA most r b = ownPart r b (most + 1) := by rw [ownA, if_pos h]; rfl
theorem ownA_no {most r b : Int} (h : ¬ ownB most r b = true) : ownA most r b = [] := by rw [ownA, if_neg h]
theorem ownA_part {m : Nat} (r b : Int) (hm : m ≤ 2000) : ownPart r b (m + 1) = ownA m r b := by
  by_cases h : ownB (m : Int) r b = true
  · rw [ownA_yes m r b h]
  · rw [ownA_no h]
    refine ownPart_none _ fun n => ?_
    by_cases hn : ownB (n : Int) r b = true
    · rw [ownB_iff] at h hn; omega
    · exact ownOkB_no hn
theorem ownA_len (most r b : Int) : (ownA most r b).length ≤ 2001 := by
  by_cases h : ownB most r b = true
  · have h0 := (ownB_iff most r b).1 h
    obtain ⟨m, rfl⟩ := Int.eq_ofNat_of_zero_le h0.1
    rw [ownA_yes m r b h]
    have := ownPart_len r b (m + 1)
    omega
  · rw [ownA_no h]; simp
theorem ownA_mem {most r b x : Int} (h : x ∈ ownA most r b) : ownOkB x r b = true ∧ x ≤ most := by
  by_cases hb : ownB most r b = true
  · have h0 := (ownB_iff most r b).1 hb
    obtain ⟨m, rfl⟩ := Int.eq_ofNat_of_zero_le h0.1
    rw [ownA_yes m r b hb] at h
    obtain ⟨h1, h2, _⟩ := ownPart_mem h
    exact ⟨h1, by omega⟩
  · rw [ownA_no hb] at h; simp at h
theorem ownA_asc (most r b : Int) : (ownA most r b).Pairwise (· < ·) := by
  by_cases hb : ownB most r b = true
  · rw [ownA, if_pos hb]; exact ownPart_asc _ _ _
  · rw [ownA_no hb]; exact List.Pairwise.nil
theorem ownA_next {m : Nat} (r b : Int) (hm : m < 2000) : ownA ((m : Int) + 1) r b = ownA m r b ++ (if ownOkB ((m : Int) + 1) r b = true then [(m : Int) + 1] else []) := by
  rw [show (m : Int) + 1 = ((m + 1 : Nat) : Int) from rfl, ← ownA_part r b (show m + 1 ≤ 2000 by omega), ← ownA_part r b (show m ≤ 2000 by omega), ownPart_succ]

/-- The numbers that follow: 'seen' so far, at most k more of them, 'now' the next one. -/
def stepsF (f : Nat → Nat) : Nat → List Nat → Nat → List Nat
  | 0, seen, _ => seen
  | k + 1, seen, now => if 2000 < now ∨ now ∈ seen then seen else stepsF f k (seen ++ [now]) (f now)
def stepsL (f : Nat → Nat) (n : Nat) : List Nat := stepsF f 60 [] n
theorem stepsF_zero (f : Nat → Nat) (seen : List Nat) (now : Nat) : stepsF f 0 seen now = seen := rfl
theorem stepsF_end {f : Nat → Nat} {k : Nat} {seen : List Nat} {now : Nat} (h : 2000 < now ∨ now ∈ seen) : stepsF f k seen now = seen := by
  cases k with
  | zero => rfl
  | succ k => rw [stepsF, if_pos h]
theorem stepsF_more {f : Nat → Nat} {k : Nat} {seen : List Nat} {now : Nat} (h1 : now ≤ 2000) (h2 : now ∉ seen) : stepsF f (k + 1) seen now = stepsF f k (seen ++ [now]) (f now) := by
  rw [stepsF, if_neg]
  rintro (h | h)
  · omega
  · exact h2 h

/-- What is so of the numbers seen so far, 'now' the next one. -/
structure Good (f : Nat → Nat) (n : Nat) (seen : List Nat) (now : Nat) : Prop where
  pos : 1 ≤ seen.length
  first : seen[0]?.getD 0 = n
  step : ∀ k, k + 1 < seen.length → seen[k + 1]?.getD 0 = f (seen[k]?.getD 0)
  last : now = f (seen[seen.length - 1]?.getD 0)
  nodup : seen.Nodup
  small : ∀ x ∈ seen, x ≤ 2000

theorem Good.more {f : Nat → Nat} {n : Nat} {seen : List Nat} {now : Nat} (h : Good f n seen now) (h1 : now ≤ 2000) (h2 : now ∉ seen) : Good f n (seen ++ [now]) (f now) := by
  have hp := h.pos
  refine ⟨by simp, by rw [List.getElem?_append_left (by omega)]; exact h.first, fun k hk => ?_, by simp, ?_, fun x hx => ?_⟩
  · simp only [List.length_append, List.length_cons, List.length_nil] at hk
    by_cases hlt : k + 1 < seen.length
    · rw [List.getElem?_append_left hlt, List.getElem?_append_left (by omega)]; exact h.step k hlt
    · obtain rfl : k = seen.length - 1 := by omega
      rw [List.getElem?_append_right (by omega), List.getElem?_append_left (by omega), show seen.length - 1 + 1 - seen.length = 0 by omega]
      exact h.last
  · rw [List.nodup_append]
    exact ⟨h.nodup, by simp, fun a ha b hb => by simp at hb; subst hb; exact fun e => h2 (e ▸ ha)⟩
  · rcases List.mem_append.1 hx with hx | hx
    · exact h.small x hx
    · simp at hx; omega

theorem stepsF_good (f : Nat → Nat) (n : Nat) : ∀ k seen now, Good f n seen now → (∃ now', Good f n (stepsF f k seen now) now') ∧ seen.length ≤ (stepsF f k seen now).length ∧ (stepsF f k seen now).length ≤ seen.length + k := by
  intro k
  induction k with
  | zero => intro seen now h; exact ⟨⟨now, h⟩, Nat.le_refl _, by rw [stepsF_zero]; omega⟩
  | succ k ih =>
    intro seen now h
    by_cases he : 2000 < now ∨ now ∈ seen
    · rw [stepsF_end he]; exact ⟨⟨now, h⟩, Nat.le_refl _, by omega⟩
    · have h1 : now ≤ 2000 := by omega
      have h2 : now ∉ seen := fun hm => he (.inr hm)
      rw [stepsF_more h1 h2]
      obtain ⟨g1, g2, g3⟩ := ih _ _ (h.more h1 h2)
      simp only [List.length_append, List.length_cons, List.length_nil] at g2 g3
      exact ⟨g1, by omega, by omega⟩

theorem good_one {f : Nat → Nat} {n : Nat} (hn : n ≤ 2000) : Good f n [n] (f n) := ⟨by simp, by simp, fun k hk => by simp at hk, by simp, by simp, fun x hx => by simp at hx; omega⟩
theorem stepsL_one {f : Nat → Nat} {n : Nat} (hn : n ≤ 2000) : stepsL f n = stepsF f 59 [n] (f n) := by
  rw [stepsL, stepsF_more hn (by simp)]; rfl

/-- What the numbers that follow are. -/
structure StepsOk (f : Nat → Nat) (n : Nat) (L : List Nat) : Prop where
  pos : 1 ≤ L.length
  len : L.length ≤ 60
  first : L[0]?.getD 0 = n
  step : ∀ k, k + 1 < L.length → L[k + 1]?.getD 0 = f (L[k]?.getD 0)
  differ : ∀ j k, j < k → k < L.length → L[j]?.getD 0 ≠ L[k]?.getD 0
  small : ∀ x ∈ L, x ≤ 2000
  alone : L.length = 1 ↔ (f n = n ∨ 2000 < f n)

theorem stepsL_ok {f : Nat → Nat} {n : Nat} (hn : n ≤ 2000) : StepsOk f n (stepsL f n) := by
  rw [stepsL_one hn]
  obtain ⟨⟨now, hg⟩, h1, h2⟩ := stepsF_good f n 59 [n] (f n) (good_one hn)
  simp only [List.length_cons, List.length_nil] at h1 h2
  refine ⟨by omega, by omega, hg.first, hg.step, fun j k hjk hk => ?_, hg.small, ?_⟩
  · rw [List.getElem?_eq_getElem hk, List.getElem?_eq_getElem (by omega), Option.getD_some, Option.getD_some]
    exact List.pairwise_iff_getElem.1 hg.nodup j k (by omega) hk hjk
  · by_cases he : 2000 < f n ∨ f n ∈ [n]
    · rw [stepsF_end he]
      simp only [List.mem_cons, List.not_mem_nil, or_false] at he
      simp only [List.length_cons, List.length_nil, true_iff, Nat.zero_add]
      omega
    · have g1 : f n ≤ 2000 := by omega
      have g2 : f n ∉ [n] := fun hm => he (.inr hm)
      rw [stepsF_more g1 g2]
      obtain ⟨_, h3, _⟩ := stepsF_good f n 58 _ _ ((good_one hn).more g1 g2)
      simp only [List.length_append, List.length_cons, List.length_nil] at h3
      simp only [List.mem_cons, List.not_mem_nil, or_false] at g2
      constructor
      · intro h; omega
      · rintro (h | h)
        · exact absurd h g2
        · omega

/-- The numbers that follow as the functions answer: none for others. -/
def stepsA (n r b : Int) : List Int := if ownB n r b = true then (stepsL (ownN r.toNat b.toNat) n.toNat).map (fun x : Nat => (x : Int)) else []
theorem stepsA_yes (n r b : Nat) (h : ownB n r b = true) : stepsA n r b = (stepsL (ownN r b) n).map fun x : Nat => (x : Int) := by rw [stepsA, if_pos h]; rfl
theorem stepsA_no {n r b : Int} (h : ¬ ownB n r b = true) : stepsA n r b = [] := by rw [stepsA, if_neg h]
theorem stepsA_len (n r b : Int) : (stepsA n r b).length ≤ 60 := by
  by_cases h : ownB n r b = true
  · obtain ⟨x, s, k, rfl, rfl, rfl, h1, h2, h3, h4⟩ := ownB_nat h
    rw [stepsA_yes x s k h, List.length_map]
    exact (stepsL_ok h1).len
  · rw [stepsA_no h]; simp

end Pl
end Go.Proofs.Ytepkneeedkmaoaa
