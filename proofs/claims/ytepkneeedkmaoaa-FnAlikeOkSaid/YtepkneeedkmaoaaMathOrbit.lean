/-
  Plain facts: a function on bounded numbers taken again and again leads into a round; the round as a list.
-/
import Derived.KernelRfl
namespace Go.Proofs.Ytepkneeedkmaoaa
namespace Pl

/-! ### Lists without repetition -/

theorem nodup_subset_length {α : Type} [DecidableEq α] : ∀ (l m : List α), l.Nodup → (∀ x, x ∈ l → x ∈ m) → l.length ≤ m.length := by
  intro l
  induction l with
  | nil => intro m _ _; simp
  | cons a l ih =>
    intro m hn hs
    rw [List.nodup_cons] at hn
    have ha : a ∈ m := hs a (by simp)
    have h1 := ih (m.erase a) hn.2 fun x hx => (List.mem_erase_of_ne (fun e => hn.1 (by rw [← e]; exact hx))).2 (hs x (by simp [hx]))
    have h2 := List.length_erase_of_mem ha
    have h3 : 0 < m.length := List.length_pos_of_mem ha
    simp only [List.length_cons]; omega

theorem pigeon {l : List Nat} {N : Nat} (h : l.Nodup) (hb : ∀ x, x ∈ l → x < N) : l.length ≤ N := by
  have := nodup_subset_length l (List.range N) h fun x hx => List.mem_range.2 (hb x hx)
  simpa using this

/-! ### Taken again and again -/

/-- f taken i times. -/
def iter (f : Nat → Nat) : Nat → Nat → Nat
  | 0, x => x
  | i + 1, x => f (iter f i x)

theorem iter_succ' (f : Nat → Nat) (i x : Nat) : iter f (i + 1) x = iter f i (f x) := by
  induction i with
  | zero => rfl
  | succ i ih => show f (iter f (i + 1) x) = f (iter f i (f x)); rw [ih]

theorem iter_add (f : Nat → Nat) (i j x : Nat) : iter f (i + j) x = iter f i (iter f j x) := by
  induction i with
  | zero => rw [Nat.zero_add]; rfl
  | succ i ih => rw [Nat.succ_add]; show f (iter f (i + j) x) = f (iter f i (iter f j x)); rw [ih]

/-- It comes again to itself. -/
def Back (f : Nat → Nat) (x : Nat) : Prop := ∃ p, 1 ≤ p ∧ iter f p x = x

theorem iter_back_mul {f : Nat → Nat} {x p : Nat} (h : iter f p x = x) (k : Nat) : iter f (k * p) x = x := by
  induction k with
  | zero => rw [Nat.zero_mul]; rfl
  | succ k ih => rw [Nat.succ_mul, iter_add, h, ih]

theorem back_iter {f : Nat → Nat} {x : Nat} (h : Back f x) (i : Nat) : Back f (iter f i x) := by
  obtain ⟨p, hp, hx⟩ := h
  exact ⟨p, hp, by rw [← iter_add, Nat.add_comm, iter_add, hx]⟩

/-- From where one comes to, by going on, back to the start. -/
theorem back_return {f : Nat → Nat} {x : Nat} (h : Back f x) (i : Nat) : ∃ j, iter f j (iter f i x) = x := by
  obtain ⟨p, hp, hx⟩ := h
  refine ⟨(i + 1) * p - i, ?_⟩
  have h1 : i ≤ (i + 1) * p := by
    have := Nat.mul_le_mul_left (i + 1) hp
    omega
  rw [← iter_add, Nat.sub_add_cancel h1]
  exact iter_back_mul hx _

/-- x is in the round to which n leads. -/
def InRound (f : Nat → Nat) (n x : Nat) : Prop := Back f x ∧ ∃ i, iter f i n = x

theorem inRound_next (f : Nat → Nat) (n x : Nat) : InRound f n x ↔ InRound f (f n) x := by
  constructor
  · rintro ⟨hb, i, rfl⟩
    refine ⟨hb, ?_⟩
    cases i with
    | zero =>
      obtain ⟨p, hp, hx⟩ := hb
      obtain ⟨p', rfl⟩ : ∃ p', p = p' + 1 := ⟨p - 1, by omega⟩
      exact ⟨p', by rw [← iter_succ']; exact hx⟩
    | succ i => exact ⟨i, (iter_succ' f i n).symm⟩
  · rintro ⟨hb, i, hi⟩
    exact ⟨hb, i + 1, by rw [iter_succ']; exact hi⟩

/-! ### The round as a list -/

/-- From a row of numbers each the next of the one before: on, until one comes again. -/
def walkR (f : Nat → Nat) : Nat → List Nat → List Nat
  | 0, _ => []
  | k + 1, seen => if f (seen.getLastD 0) ∈ seen then seen.dropWhile (fun x => x != f (seen.getLastD 0)) else walkR f k (seen ++ [f (seen.getLastD 0)])

/-- A row of numbers from n on, each the next of the one before, no two equal. -/
structure Path (f : Nat → Nat) (n : Nat) (seen : List Nat) : Prop where
  pos : seen ≠ []
  at' : ∀ i, i < seen.length → seen[i]? = some (iter f i n)
  nodup : seen.Nodup

theorem Path.one (f : Nat → Nat) (n : Nat) : Path f n [n] := ⟨by simp, fun i hi => by
  have : i = 0 := by simpa using hi
  subst this; rfl, by simp⟩

theorem Path.last {f : Nat → Nat} {n : Nat} {seen : List Nat} (h : Path f n seen) : seen.getLastD 0 = iter f (seen.length - 1) n := by
  have h0 : 0 < seen.length := List.length_pos_iff.2 h.pos
  rw [List.getLastD_eq_getLast?, List.getLast?_eq_getElem?, h.at' (seen.length - 1) (by omega)]; rfl

theorem Path.next {f : Nat → Nat} {n : Nat} {seen : List Nat} (h : Path f n seen) : f (seen.getLastD 0) = iter f seen.length n := by
  have h0 : 0 < seen.length := List.length_pos_iff.2 h.pos
  rw [h.last]
  show iter f (seen.length - 1 + 1) n = _
  rw [Nat.sub_add_cancel h0]

theorem Path.push {f : Nat → Nat} {n : Nat} {seen : List Nat} (h : Path f n seen) (hn : f (seen.getLastD 0) ∉ seen) : Path f n (seen ++ [f (seen.getLastD 0)]) := by
  refine ⟨by simp, fun i hi => ?_, ?_⟩
  · by_cases hl : i < seen.length
    · rw [List.getElem?_append_left hl]; exact h.at' i hl
    · have : i = seen.length := by simp at hi; omega
      subst this
      rw [List.getElem?_append_right (Nat.le_refl _), Nat.sub_self]; exact congrArg some h.next
  · rw [List.nodup_append]
    refine ⟨h.nodup, by simp, fun a ha b hb => ?_⟩
    have : b = f (seen.getLastD 0) := by simpa using hb
    subst this
    intro e; subst e; exact hn ha

theorem Path.mem {f : Nat → Nat} {n : Nat} {seen : List Nat} (h : Path f n seen) {x : Nat} : x ∈ seen ↔ ∃ i, i < seen.length ∧ x = iter f i n := by
  rw [List.mem_iff_getElem?]
  constructor
  · rintro ⟨i, hi⟩
    have hlt := (List.getElem?_eq_some_iff.1 hi).1
    rw [h.at' i hlt] at hi
    exact ⟨i, hlt, (Option.some.inj hi).symm⟩
  · rintro ⟨i, hi, rfl⟩
    exact ⟨i, h.at' i hi⟩

theorem Path.inj {f : Nat → Nat} {n : Nat} {seen : List Nat} (h : Path f n seen) {i j : Nat} (hi : i < seen.length) (hj : j < seen.length) (he : iter f i n = iter f j n) : i = j := by
  have h1 := h.at' i hi
  have h2 := h.at' j hj
  rw [List.getElem?_eq_getElem hi] at h1
  rw [List.getElem?_eq_getElem hj] at h2
  have e : seen[i] = seen[j] := by rw [Option.some.inj h1, Option.some.inj h2, he]
  exact (List.getElem_inj h.nodup).1 e

theorem dropWhile_ne (x : Nat) : ∀ (l : List Nat) (k : Nat), l[k]? = some x → (∀ i, i < k → l[i]? ≠ some x) → l.dropWhile (fun y => y != x) = l.drop k := by
  intro l
  induction l with
  | nil => intro k h; simp at h
  | cons a l ih =>
    intro k hk hl
    cases k with
    | zero =>
      have : a = x := by simpa using hk
      subst this
      rw [List.dropWhile_cons_of_neg (by simp)]; rfl
    | succ k =>
      have ha : a ≠ x := fun e => hl 0 (by omega) (by simp [e])
      rw [List.dropWhile_cons_of_pos (by simpa using ha), List.drop_succ_cons]
      exact ih k (by simpa using hk) fun i hi h => hl (i + 1) (by omega) (by simpa using h)

/-- A round as a list: of a row of numbers that lies behind the start, the first one comes behind the last one. -/
structure IsRound (f : Nat → Nat) (n : Nat) (r : List Nat) : Prop where
  pos : r ≠ []
  from' : ∃ m, ∀ i, i < r.length → r[i]? = some (iter f (m + i) n)
  back : ∀ i, i < r.length → f (r[i]?.getD 0) = r[(i + 1) % r.length]?.getD 0
  nodup : r.Nodup

/-- Where one comes again, the row from there on is the round. -/
theorem Path.round {f : Nat → Nat} {n : Nat} {seen : List Nat} (h : Path f n seen) (hm : f (seen.getLastD 0) ∈ seen) : IsRound f n (seen.dropWhile fun x => x != f (seen.getLastD 0)) := by
  obtain ⟨k, hk, hx⟩ := h.mem.1 hm
  have hl : 0 < seen.length := List.length_pos_iff.2 h.pos
  have e : seen.dropWhile (fun x => x != f (seen.getLastD 0)) = seen.drop k := by
    refine dropWhile_ne _ seen k (by rw [h.at' k hk, hx]) fun i hi hs => ?_
    rw [h.at' i (by omega)] at hs
    have := h.inj (show i < seen.length by omega) hk (by rw [Option.some.inj hs, hx])
    omega
  rw [e]
  have hat : ∀ i, i < (seen.drop k).length → (seen.drop k)[i]? = some (iter f (k + i) n) := fun i hi => by
    rw [List.length_drop] at hi
    rw [List.getElem?_drop]; exact h.at' (k + i) (by omega)
  refine ⟨?_, ⟨k, hat⟩, fun i hi => ?_, ?_⟩
  · intro e0
    have := congrArg List.length e0
    rw [List.length_drop] at this; simp at this; omega
  · rw [hat i hi]
    rw [List.length_drop] at hi
    by_cases hlast : i + 1 = seen.length - k
    · rw [List.length_drop, hlast, Nat.mod_self, hat 0 (by rw [List.length_drop]; omega)]
      show f (iter f (k + i) n) = iter f (k + 0) n
      rw [Nat.add_zero, ← hx, h.next]
      show iter f (k + i + 1) n = _
      congr 1; omega
    · rw [List.length_drop, Nat.mod_eq_of_lt (by omega), hat (i + 1) (by rw [List.length_drop]; omega)]; rfl
  · exact List.Nodup.sublist (List.drop_sublist k seen) h.nodup

theorem walkR_round {f : Nat → Nat} {n N : Nat} (hf : ∀ x, x < N → f x < N) : ∀ (k : Nat) (seen : List Nat), Path f n seen → N + 1 ≤ k + seen.length → (∀ x, x ∈ seen → x < N) → IsRound f n (walkR f k seen) := by
  intro k
  induction k with
  | zero =>
    intro seen h hk hb
    have := pigeon h.nodup hb
    omega
  | succ k ih =>
    intro seen h hk hb
    rw [walkR]
    split
    · rename_i hm; exact h.round hm
    · rename_i hm
      refine ih _ (h.push hm) (by simp; omega) fun x hx => ?_
      rcases List.mem_append.1 hx with hx | hx
      · exact hb x hx
      · have : x = f (seen.getLastD 0) := by simpa using hx
        subst this
        have hl : 0 < seen.length := List.length_pos_iff.2 h.pos
        have hmem : seen.getLastD 0 ∈ seen := h.mem.2 ⟨seen.length - 1, by omega, h.last⟩
        exact hf _ (hb _ hmem)

theorem IsRound.mem {f : Nat → Nat} {n : Nat} {r : List Nat} (h : IsRound f n r) {x : Nat} : x ∈ r ↔ InRound f n x := by
  have hl : 0 < r.length := List.length_pos_iff.2 h.pos
  obtain ⟨m, hm⟩ := h.from'
  -- from each place one comes to each later one
  have hgo : ∀ j i, i < r.length → iter f j (r[i]?.getD 0) = r[(i + j) % r.length]?.getD 0 := by
    intro j
    induction j with
    | zero => intro i hi; rw [Nat.add_zero, Nat.mod_eq_of_lt hi]; rfl
    | succ j ih =>
      intro i hi
      show f (iter f j _) = _
      rw [ih i hi, h.back _ (Nat.mod_lt _ hl)]
      congr 2
      rw [Nat.mod_add_mod, Nat.add_assoc]
  have hback : ∀ i, i < r.length → Back f (r[i]?.getD 0) := fun i hi => by
    refine ⟨r.length, hl, ?_⟩
    rw [hgo r.length i hi, Nat.add_mod_right, Nat.mod_eq_of_lt hi]
  constructor
  · intro hx
    obtain ⟨i, hi⟩ := List.mem_iff_getElem?.1 hx
    have hlt := (List.getElem?_eq_some_iff.1 hi).1
    have e : r[i]?.getD 0 = x := by rw [hi]; rfl
    refine ⟨by rw [← e]; exact hback i hlt, m + i, ?_⟩
    rw [hm i hlt] at hi
    exact Option.some.inj hi
  · rintro ⟨hb, i, rfl⟩
    -- go on from n: behind m steps it is in the row
    have h0 := hm 0 hl
    have hrow : ∀ j, iter f (m + j) n ∈ r := fun j => by
      have h1 : iter f (j + m) n = iter f j (r[0]?.getD 0) := by rw [iter_add, h0]; rfl
      rw [Nat.add_comm, h1, hgo j 0 hl]
      have hlt := Nat.mod_lt (0 + j) hl
      rw [List.getElem?_eq_getElem hlt]
      exact List.getElem_mem _
    obtain ⟨p, hp, hx⟩ := hb
    have h2 := iter_back_mul hx m
    rw [← h2, ← iter_add]
    have h3 : m ≤ m * p := Nat.le_mul_of_pos_right _ hp
    have h4 := hrow (m * p + i - m)
    rwa [show m + (m * p + i - m) = m * p + i by omega] at h4

/-- Two rounds of the same numbers are equally long. -/
theorem round_length {f : Nat → Nat} {n n' : Nat} {r r' : List Nat} (h : IsRound f n r) (h' : IsRound f n' r') (hs : ∀ x, InRound f n x ↔ InRound f n' x) : r.length = r'.length := by
  have h1 := nodup_subset_length r r' h.nodup fun x hx => h'.mem.2 ((hs x).1 (h.mem.1 hx))
  have h2 := nodup_subset_length r' r h'.nodup fun x hx => h.mem.2 ((hs x).2 (h'.mem.1 hx))
  omega

/-- What is in a round is at most T, if below T what comes next is at most T, and from T on less. -/
theorem inRound_le {f : Nat → Nat} {n x T : Nat} (hlo : ∀ y, y < T → f y ≤ T) (hhi : ∀ y, T ≤ y → f y < y) (h : InRound f n x) : x ≤ T := by
  obtain ⟨⟨p, hp, hx⟩, _⟩ := h
  -- somewhere on the way back it doesn't fall
  have hex : ∃ i, i < p ∧ iter f i x ≤ iter f (i + 1) x := by
    refine Classical.byContradiction fun hno => ?_
    have hfall : ∀ i, i ≤ p → iter f i x + i ≤ x := by
      intro i
      induction i with
      | zero => intro _; exact Nat.le_refl _
      | succ i ih =>
        intro hi
        have h1 := ih (by omega)
        have h2 : ¬ iter f i x ≤ iter f (i + 1) x := fun h => hno ⟨i, by omega, h⟩
        omega
    have := hfall p (Nat.le_refl _)
    rw [hx] at this; omega
  obtain ⟨i, hi, hle⟩ := hex
  have hlt : iter f i x < T := by
    refine Classical.byContradiction fun hge => ?_
    have h1 := hhi (iter f i x) (by omega)
    have h2 : iter f (i + 1) x = f (iter f i x) := rfl
    omega
  have hstay : ∀ j, 1 ≤ j → iter f (j + i) x ≤ T := by
    intro j
    induction j with
    | zero => intro h; omega
    | succ j ih =>
      intro _
      rw [Nat.succ_add]
      show f (iter f (j + i) x) ≤ T
      by_cases hj : j = 0
      · subst hj; rw [Nat.zero_add]; exact hlo _ hlt
      · have h1 := ih (by omega)
        by_cases h2 : iter f (j + i) x < T
        · exact hlo _ h2
        · have := hhi (iter f (j + i) x) (by omega); omega
  have := hstay (p - i) (by omega)
  rwa [Nat.sub_add_cancel (by omega), hx] at this

end Pl
end Go.Proofs.Ytepkneeedkmaoaa
