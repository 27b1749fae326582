/-
  Plain facts: a number's way into its round, said by two numbers (steps ahead, length of the round), unique; the round as a row; the least number of a round; rounds of powers.
-/
import Derived.Test.YtepkneeedkmaoaaMathOrbit
import Derived.Test.YtepkneeedkmaoaaMathNext
namespace Go.Proofs.Ytepkneeedkmaoaa
namespace Pl

theorem least_nat {P : Nat → Prop} (h : ∃ n, P n) : ∃ n, P n ∧ ∀ m, m < n → ¬ P m := by
  obtain ⟨n, hn⟩ := h
  induction n using Nat.strongRecOn with
  | _ n ih =>
    by_cases hx : ∃ m, m < n ∧ P m
    · obtain ⟨m, hm, hp⟩ := hx; exact ih m hm hp
    · exact ⟨n, hn, fun m hm hp => hx ⟨m, hm, hp⟩⟩

/-- n leads into a round: mu steps ahead of it, p numbers in it. -/
structure Rho (f : Nat → Nat) (n mu p : Nat) : Prop where
  pos : 1 ≤ p
  back : iter f (mu + p) n = iter f mu n
  inj : ∀ i j, i < j → j < mu + p → iter f i n ≠ iter f j n

theorem Rho.unique {f : Nat → Nat} {n mu p mu' p' : Nat} (h : Rho f n mu p) (h' : Rho f n mu' p') : mu = mu' ∧ p = p' := by
  have h1 := h.pos
  have h1' := h'.pos
  have e : mu + p = mu' + p' := by
    rcases Nat.lt_trichotomy (mu + p) (mu' + p') with hlt | he | hlt
    · exact absurd h.back.symm (h'.inj mu (mu + p) (by omega) hlt)
    · exact he
    · exact absurd h'.back.symm (h.inj mu' (mu' + p') (by omega) hlt)
  have e2 : iter f mu n = iter f mu' n := by rw [← h.back, e, h'.back]
  rcases Nat.lt_trichotomy mu mu' with hlt | he | hlt
  · exact absurd e2 (h.inj mu mu' hlt (by omega))
  · exact ⟨he, by omega⟩
  · exact absurd e2.symm (h.inj mu' mu hlt (by omega))

theorem nodup_range_map (g : Nat → Nat) : ∀ m, (∀ i j, i < j → j < m → g i ≠ g j) → ((List.range m).map g).Nodup := by
  intro m
  induction m with
  | zero => intro _; simp
  | succ m ih =>
    intro h
    rw [List.range_succ, List.map_append, List.nodup_append]
    refine ⟨ih fun i j hij hj => h i j hij (by omega), by simp, fun a ha b hb => ?_⟩
    obtain ⟨i, hi, rfl⟩ := List.mem_map.1 ha
    have hb : b = g m := by simpa using hb
    subst hb
    exact h i m (List.mem_range.1 hi) (by omega)

theorem rho_exists {f : Nat → Nat} {n N : Nat} (hb : ∀ i, iter f i n < N) : ∃ mu p, Rho f n mu p ∧ mu + p ≤ N := by
  have hex : ∃ j, ∃ i, i < j ∧ iter f i n = iter f j n := by
    refine Classical.byContradiction fun hno => ?_
    have hnd := nodup_range_map (fun i => iter f i n) (N + 1) fun i j hij _ he => hno ⟨j, i, hij, he⟩
    have := pigeon (N := N) hnd fun x hx => by
      obtain ⟨i, _, rfl⟩ := List.mem_map.1 hx; exact hb i
    simp at this; omega
  obtain ⟨j, ⟨i, hij, he⟩, hmin⟩ := least_nat hex
  have hinj : ∀ a c, a < c → c < j → iter f a n ≠ iter f c n := fun a c hac hc h => hmin c hc ⟨a, hac, h⟩
  refine ⟨i, j - i, ⟨by omega, ?_, ?_⟩, ?_⟩
  · rw [show i + (j - i) = j by omega]; exact he.symm
  · rw [show i + (j - i) = j by omega]; exact hinj
  · have hnd := nodup_range_map (fun i => iter f i n) j hinj
    have := pigeon (N := N) hnd fun x hx => by
      obtain ⟨i, _, rfl⟩ := List.mem_map.1 hx; exact hb i
    simp at this; omega

/-- The first m numbers of a way. -/
def pre (f : Nat → Nat) (n m : Nat) : List Nat := (List.range m).map fun i => iter f i n
/-- p numbers of a way from mu on. -/
def orb (f : Nat → Nat) (n mu p : Nat) : List Nat := (List.range p).map fun i => iter f (mu + i) n

theorem pre_len (f : Nat → Nat) (n m : Nat) : (pre f n m).length = m := by simp [pre]
theorem orb_len (f : Nat → Nat) (n mu p : Nat) : (orb f n mu p).length = p := by simp [orb]
theorem pre_get {f : Nat → Nat} {n m i : Nat} (h : i < m) : (pre f n m)[i]? = some (iter f i n) := by simp [pre, h]
theorem orb_get {f : Nat → Nat} {n mu p i : Nat} (h : i < p) : (orb f n mu p)[i]? = some (iter f (mu + i) n) := by simp [orb, h]
theorem pre_succ (f : Nat → Nat) (n m : Nat) : pre f n (m + 1) = pre f n m ++ [iter f m n] := by simp [pre, List.range_succ]
theorem orb_succ (f : Nat → Nat) (n mu p : Nat) : orb f n mu (p + 1) = orb f n mu p ++ [iter f (mu + p) n] := by simp [orb, List.range_succ]
theorem pre_one (f : Nat → Nat) (n : Nat) : pre f n 1 = [n] := rfl
theorem pre_drop (f : Nat → Nat) (n mu p : Nat) : (pre f n (mu + p)).drop mu = orb f n mu p := by
  apply List.ext_getElem?
  intro i
  rw [List.getElem?_drop]
  by_cases h : i < p
  · rw [pre_get (by omega), orb_get h]
  · rw [List.getElem?_eq_none (by rw [pre_len]; omega), List.getElem?_eq_none (by rw [orb_len]; omega)]
theorem mem_orb {f : Nat → Nat} {n mu p x : Nat} : x ∈ orb f n mu p ↔ ∃ i, i < p ∧ iter f (mu + i) n = x := by
  simp [orb, List.mem_range]
theorem mem_pre {f : Nat → Nat} {n m x : Nat} : x ∈ pre f n m ↔ ∃ i, i < m ∧ iter f i n = x := by
  simp [pre, List.mem_range]

theorem Rho.isRound {f : Nat → Nat} {n mu p : Nat} (h : Rho f n mu p) : IsRound f n (orb f n mu p) := by
  have hp := h.pos
  refine ⟨?_, ⟨mu, fun i hi => ?_⟩, fun i hi => ?_, ?_⟩
  · intro e
    have := congrArg List.length e
    rw [orb_len] at this; simp at this; omega
  · rw [orb_len] at hi; exact orb_get hi
  · rw [orb_len] at hi ⊢
    rw [orb_get hi]
    show f (iter f (mu + i) n) = _
    by_cases hl : i + 1 = p
    · rw [hl, Nat.mod_self, orb_get (by omega)]
      show iter f (mu + i + 1) n = iter f (mu + 0) n
      rw [Nat.add_assoc, hl, h.back]; rfl
    · rw [Nat.mod_eq_of_lt (by omega), orb_get (by omega)]; rfl
  · exact nodup_range_map _ p fun i j hij hj => h.inj (mu + i) (mu + j) (by omega) (by omega)

/-- The round into which n leads, found by going on until one comes again. -/
def roundL (f : Nat → Nat) (n : Nat) : List Nat := walkR f 30000000 [n]

theorem pre_path {f : Nat → Nat} {n m : Nat} (hm : 1 ≤ m) (h : ∀ i j, i < j → j < m → iter f i n ≠ iter f j n) : Path f n (pre f n m) := by
  refine ⟨?_, fun i hi => ?_, nodup_range_map _ m h⟩
  · intro e
    have := congrArg List.length e
    rw [pre_len] at this; simp at this; omega
  · rw [pre_len] at hi; exact pre_get hi

theorem walkR_orb {f : Nat → Nat} {n mu p : Nat} (h : Rho f n mu p) : ∀ (k m : Nat), 1 ≤ m → m ≤ mu + p → mu + p < k + m → walkR f k (pre f n m) = orb f n mu p := by
  intro k
  induction k with
  | zero => intro m _ h2 h3; omega
  | succ k ih =>
    intro m h1 h2 h3
    have hP := pre_path h1 (fun i j hij hj => h.inj i j hij (by omega))
    have hn := hP.next
    rw [pre_len] at hn
    rw [walkR, hn]
    by_cases hm : m = mu + p
    · have hmem : iter f m n ∈ pre f n m := mem_pre.2 ⟨mu, by have := h.pos; omega, by rw [hm, h.back]⟩
      rw [if_pos hmem, ← pre_drop, ← hm]
      refine dropWhile_ne _ _ mu (by rw [pre_get (by have := h.pos; omega), hm, h.back]) fun i hi hs => ?_
      rw [pre_get (by omega), hm, h.back] at hs
      exact h.inj i mu hi (by have := h.pos; omega) (Option.some.inj hs)
    · have hmem : iter f m n ∉ pre f n m := fun hx => by
        obtain ⟨i, hi, he⟩ := mem_pre.1 hx
        exact h.inj i m hi (by omega) he
      rw [if_neg hmem, ← pre_succ]
      exact ih (m + 1) (by omega) (by omega) (by omega)

theorem roundL_eq {f : Nat → Nat} {n mu p : Nat} (h : Rho f n mu p) (hb : mu + p ≤ 29999999) : roundL f n = orb f n mu p := by
  have := walkR_orb h 30000000 1 (Nat.le_refl _) (by have := h.pos; omega) (by omega)
  rwa [pre_one] at this

/-! ### Rounds of powers -/

/-- A rule that is told: a number of times and a base. -/
structure RuleOk (t b : Nat) : Prop where
  t1 : 1 ≤ t
  t2 : t ≤ 5
  b1 : 2 ≤ b
  b2 : b ≤ 16

theorem next_le {t b x : Nat} (h : RuleOk t b) (hx : x ≤ 1000000000) : nextN t b x ≤ 22781250 := by
  have h1 := nextN_bound (t := t) h.b1 x
  have h2 := digsR_len30 h.b1 hx
  have h3 : (b - 1) ^ t ≤ 15 ^ t := Nat.pow_le_pow_left (by have := h.b2; omega) t
  have h4 : (15 : Nat) ^ t ≤ 15 ^ 5 := Nat.pow_le_pow_right (by omega) h.t2
  have h5 : (digsR b x).length * (b - 1) ^ t ≤ 30 * 759375 := Nat.mul_le_mul h2 (by omega)
  omega

theorem iter_next_le {t b n : Nat} (h : RuleOk t b) (hn : n ≤ 1000000000) : ∀ i, iter (nextN t b) i n ≤ 1000000000 ∧ (1 ≤ i → iter (nextN t b) i n ≤ 22781250) := by
  intro i
  induction i with
  | zero => exact ⟨hn, fun h => by omega⟩
  | succ i ih =>
    have := next_le h ih.1
    exact ⟨by show nextN t b _ ≤ _; omega, fun _ => this⟩

theorem next_rho {t b n : Nat} (h : RuleOk t b) (hn : n ≤ 1000000000) : ∃ mu p, Rho (nextN t b) n mu p ∧ mu + p ≤ 22781252 := by
  obtain ⟨mu, p, hr, hb⟩ := rho_exists (f := nextN t b) (n := nextN t b n) (N := 22781251) (fun i => by
    rw [← iter_succ']
    have := (iter_next_le h hn (i + 1)).2 (by omega)
    omega)
  -- one step earlier
  obtain ⟨mu', p', hr', _⟩ := rho_exists (f := nextN t b) (n := n) (N := 1000000001) (fun i => by
    have := (iter_next_le h hn i).1; omega)
  refine ⟨mu', p', hr', ?_⟩
  refine Classical.byContradiction fun hno => ?_
  have hnd := nodup_range_map (fun i => iter (nextN t b) (i + 1) n) (mu' + p' - 1) fun i j hij hj => hr'.inj (i + 1) (j + 1) (by omega) (by omega)
  have := pigeon (N := 22781251) hnd fun x hx => by
    obtain ⟨i, _, rfl⟩ := List.mem_map.1 hx
    have := (iter_next_le h hn (i + 1)).2 (by omega)
    omega
  simp at this; omega

theorem next_round {t b n : Nat} (h : RuleOk t b) (hn : n ≤ 1000000000) : IsRound (nextN t b) n (roundL (nextN t b) n) ∧ (roundL (nextN t b) n).length ≤ 22781252 ∧ ∀ x ∈ roundL (nextN t b) n, x ≤ 22781250 := by
  obtain ⟨mu, p, hr, hb⟩ := next_rho h hn
  rw [roundL_eq hr (by omega)]
  refine ⟨hr.isRound, by rw [orb_len]; omega, fun x hx => ?_⟩
  have hm := hr.isRound.mem.1 hx
  obtain ⟨⟨q, hq, hx'⟩, i, rfl⟩ := hm
  rw [← hx', ← iter_add]
  exact (iter_next_le h hn (q + i)).2 (by omega)

/-- Rounds of which the same numbers are: the round of what comes next. -/
theorem round_next_mem {f : Nat → Nat} {n : Nat} {r r' : List Nat} (h : IsRound f n r) (h' : IsRound f (f n) r') (x : Nat) : x ∈ r ↔ x ∈ r' := by
  rw [h.mem, h'.mem]; exact inRound_next f n x

theorem round_next_len {f : Nat → Nat} {n : Nat} {r r' : List Nat} (h : IsRound f n r) (h' : IsRound f (f n) r') : r.length = r'.length :=
  round_length h h' fun x => inRound_next f n x

/-- None in the round is more than the greatest stay. -/
theorem next_round_le {t b n x : Nat} (h : RuleOk t b) (hx : InRound (nextN t b) n x) : x ≤ b ^ stayL t b - 1 := by
  obtain ⟨hs, h9, _, _⟩ := stay_spec h.t1 h.t2 h.b1 h.b2
  refine inRound_le (T := b ^ stayL t b - 1) (fun y hy => ?_) (fun y hy => nextN_less h.t1 h.b1 hs y hy) hx
  have h1 := nextN_small h.b1 hs (n := y) (by omega)
  have h2 := hs.less
  omega

/-! ### Happy numbers -/

theorem nextN_self {t b : Nat} (hb : 2 ≤ b) : nextN t b 1 = 1 := by rw [nextN_lt (by omega), Nat.one_pow]

theorem back_one {f : Nat → Nat} (h1 : f 1 = 1) : Back f 1 := ⟨1, Nat.le_refl _, h1⟩

/-- The round is 1 alone exactly if 1 is in it. -/
theorem round_one {f : Nat → Nat} {n : Nat} {r : List Nat} (h1 : f 1 = 1) (h : IsRound f n r) : r = [1] ↔ InRound f n 1 := by
  constructor
  · intro e; rw [← h.mem, e]; simp
  · intro hi
    have hm := h.mem.2 hi
    -- each in the round is 1
    have hall : ∀ x ∈ r, x = 1 := fun x hx => by
      obtain ⟨hb, i, hi'⟩ := h.mem.1 hx
      obtain ⟨_, j, hj⟩ := hi
      -- iter (i + j) n is both behind x and behind 1
      have stay : ∀ k, iter f k 1 = 1 := by
        intro k; induction k with
        | zero => rfl
        | succ k ih => show f (iter f k 1) = 1; rw [ih, h1]
      have e1 : iter f j x = 1 := by
        rw [← hi', ← iter_add, Nat.add_comm, iter_add, hj, stay]
      obtain ⟨k, hk⟩ := back_return hb j
      rw [e1, stay] at hk
      exact hk.symm
    match r, h.pos, hall, h.nodup with
    | [], h0, _, _ => exact absurd rfl h0
    | [a], _, ha, _ => rw [ha a (by simp)]
    | a :: c :: l, _, ha, hn =>
      have e1 := ha a (by simp)
      have e2 := ha c (by simp)
      subst e1; subst e2
      simp at hn

end Pl
end Go.Proofs.Ytepkneeedkmaoaa
