/-
  Plain facts: what the functions of chapter 11 answer, at all integers: what a number makes, its makers, selves, selves up to, rows, and where two rows come together.
-/
import Derived.Test.YtakkjlcnfkklpaaMathSelf
import Derived.Test.YtakkjlcnfkklpaaRowFacts
namespace Go.Proofs.Ytakkjlcnfkklpaa
namespace Pl

/-- What MadeBy answers. -/
def madeI (n b : Int) : Int := if okB n b = true then (madeN b.toNat n.toNat : Int) else -1
theorem madeI_yes (n b : Nat) (h : okB n b = true) : madeI n b = (madeN b n : Int) := by rw [madeI, if_pos h]; rfl
theorem madeI_no {n b : Int} (h : ¬ okB n b = true) : madeI n b = -1 := by rw [madeI, if_neg h]
theorem madeN_le {b n : Nat} (hb : 2 ≤ b) : madeN b n ≤ 2 * n := by have := sumD_le hb n; unfold madeN; omega
theorem madeI_bound (n b : Int) : -1 ≤ madeI n b ∧ madeI n b ≤ 2000000000 := by
  by_cases h : okB n b = true
  · obtain ⟨x, k, rfl, rfl, h1, h2, h3⟩ := okB_nat h
    rw [madeI_yes x k h]
    have := madeN_le (b := k) (n := x) h1
    omega
  · rw [madeI_no h]; omega
theorem okB_of {x k : Nat} (h1 : 2 ≤ k) (h2 : k ≤ 16) (h3 : x ≤ 1000000000) : okB x k = true := by rw [okB_iff]; omega

/-! ### Makers -/

/-- The makers below k. -/
def mkPart (b n k : Nat) : List Int := ints ((List.range k).filter fun m => madeN b m == n)
theorem mkPart_yes {b n k : Nat} (h : madeN b k = n) : mkPart b n (k + 1) = mkPart b n k ++ [(k : Int)] := by
  unfold mkPart
  rw [List.range_succ, List.filter_append]
  simp [ints, h]
theorem mkPart_not {b n k : Nat} (h : madeN b k ≠ n) : mkPart b n (k + 1) = mkPart b n k := by
  unfold mkPart
  rw [List.range_succ, List.filter_append]
  simp [ints, h]
theorem mkPart_mem {b n k : Nat} {x : Int} : x ∈ mkPart b n k ↔ ∃ m : Nat, x = (m : Int) ∧ m < k ∧ madeN b m = n := by
  unfold mkPart ints
  rw [List.mem_map]
  constructor
  · rintro ⟨m, hm, rfl⟩
    rw [List.mem_filter, List.mem_range, beq_iff_eq] at hm
    exact ⟨m, rfl, hm.1, hm.2⟩
  · rintro ⟨m, rfl, h1, h2⟩
    exact ⟨m, by rw [List.mem_filter, List.mem_range, beq_iff_eq]; exact ⟨h1, h2⟩, rfl⟩
theorem mkPart_asc (b n k : Nat) : (mkPart b n k).Pairwise (· < ·) := by
  unfold mkPart ints
  rw [List.pairwise_map]
  refine List.Pairwise.imp (fun {a b} h => by omega) (List.Pairwise.filter _ List.pairwise_lt_range)
/-- From where there are no makers below. -/
theorem mkPart_lo {b n lo : Nat} (hb : 2 ≤ b) (h : lo + (b - 1) * (digsR b n).length ≤ n) : ∀ m, m < lo → madeN b m ≠ n := by
  intro m hm he
  have := maker_near hb he
  omega
theorem mkPart_none {b n lo : Nat} (h : ∀ m, m < lo → madeN b m ≠ n) : mkPart b n lo = [] := by
  rw [List.eq_nil_iff_forall_not_mem]
  intro x hx
  obtain ⟨m, _, h1, h2⟩ := mkPart_mem.1 hx
  exact h m h1 h2
theorem mkPart_len {b n lo : Nat} (h : ∀ m, m < lo → madeN b m ≠ n) (j : Nat) : (mkPart b n (lo + j)).length ≤ j := by
  induction j with
  | zero => rw [Nat.add_zero, mkPart_none h]; simp
  | succ j ih =>
    by_cases he : madeN b (lo + j) = n
    · rw [← Nat.add_assoc, mkPart_yes he, List.length_append, List.length_singleton]; omega
    · rw [← Nat.add_assoc, mkPart_not he]; omega
theorem mkPart_le {b n : Nat} (hb : 2 ≤ b) (hb' : b ≤ 16) (hn : n ≤ 1000000000) {k : Nat} (hk : k ≤ n + 1) : (mkPart b n k).length ≤ 451 := by
  have hl := digsR_len30 hb hn
  have hm : (b - 1) * (digsR b n).length ≤ 15 * 30 := Nat.mul_le_mul (by omega) hl
  have hlo : ∀ m, m < n - 450 → madeN b m ≠ n := by
    intro m hm' he
    have := maker_near hb he
    omega
  by_cases h : n - 450 ≤ k
  · obtain ⟨j, rfl⟩ : ∃ j, k = n - 450 + j := ⟨k - (n - 450), by omega⟩
    have := mkPart_len hlo j
    omega
  · rw [mkPart_none (fun m hm' => hlo m (by omega))]; simp

/-- What MakersOf answers. -/
def makersA (n b : Int) : List Int := if okB n b = true then mkPart b.toNat n.toNat (n.toNat + 1) else []
theorem makersA_yes (n b : Nat) (h : okB n b = true) : makersA n b = mkPart b n (n + 1) := by rw [makersA, if_pos h]; rfl
theorem makersA_no {n b : Int} (h : ¬ okB n b = true) : makersA n b = [] := by rw [makersA, if_neg h]
theorem makersA_len (n b : Int) : (makersA n b).length ≤ 451 := by
  by_cases h : okB n b = true
  · obtain ⟨x, k, rfl, rfl, h1, h2, h3⟩ := okB_nat h
    rw [makersA_yes x k h]
    exact mkPart_le h1 h2 h3 (Nat.le_refl _)
  · rw [makersA_no h]; simp
theorem makersA_asc (n b : Int) : (makersA n b).Pairwise (· < ·) := by
  by_cases h : okB n b = true
  · obtain ⟨x, k, rfl, rfl, _⟩ := okB_nat h
    rw [makersA_yes x k h]
    exact mkPart_asc _ _ _
  · rw [makersA_no h]; exact List.Pairwise.nil
theorem makersA_mem {n b : Nat} (h : okB n b = true) (m : Nat) : (m : Int) ∈ makersA n b ↔ madeN b m = n := by
  rw [makersA_yes n b h, mkPart_mem]
  constructor
  · rintro ⟨x, hx, _, h2⟩
    obtain rfl : m = x := by omega
    exact h2
  · intro he
    have := made_ge b m
    exact ⟨m, rfl, by omega, he⟩
theorem makersA_nat {n b : Nat} (h : okB n b = true) {x : Int} (hx : x ∈ makersA n b) : ∃ m : Nat, x = (m : Int) ∧ m ≤ n ∧ madeN b m = n := by
  rw [makersA_yes n b h, mkPart_mem] at hx
  obtain ⟨m, rfl, h1, h2⟩ := hx
  exact ⟨m, rfl, by omega, h2⟩

/-! ### Selves -/

/-- Whether a number is a self. -/
def selfB (n b : Int) : Bool := okB n b && decide (makersA n b = [])
theorem selfB_no {n b : Int} (h : ¬ okB n b = true) : selfB n b = false := by simp [selfB, h]
theorem selfB_yes {n b : Int} (h : okB n b = true) : selfB n b = decide (makersA n b = []) := by simp [selfB, h]
theorem selfB_len {n b : Int} (h : okB n b = true) : selfB n b = (((makersA n b).length : Int) == 0) := by
  rw [selfB_yes h, Bool.eq_iff_iff, decide_eq_true_eq, beq_iff_eq, ← List.length_eq_zero_iff]; omega
theorem selfB_odd {n b : Nat} (h : okB n b = true) (hb : b % 2 = 1) (hn : n % 2 = 1) : selfB n b = true := by
  have hk := (okB_iff _ _).1 h
  rw [selfB_yes h, decide_eq_true_eq, List.eq_nil_iff_forall_not_mem]
  intro x hx
  obtain ⟨m, _, _, he⟩ := makersA_nat h hx
  have := made_even (b := b) (by omega) hb m
  omega
theorem selfB_made (n b : Nat) : selfB (madeN b n : Nat) b = false := by
  by_cases hk : okB (madeN b n : Nat) b = true
  · rw [selfB_yes hk, decide_eq_false_iff_not]
    intro he
    have := (makersA_mem hk n).2 rfl
    rw [he] at this; simp at this
  · exact selfB_no hk

/-- The selves below k. -/
def selPart (b : Int) (k : Nat) : List Int := ints ((List.range k).filter fun n : Nat => selfB (n : Int) b)
theorem selPart_yes {b : Int} {k : Nat} (h : selfB (k : Int) b = true) : selPart b (k + 1) = selPart b k ++ [(k : Int)] := by
  unfold selPart
  rw [List.range_succ, List.filter_append]
  simp [ints, h]
theorem selPart_not {b : Int} {k : Nat} (h : selfB (k : Int) b = false) : selPart b (k + 1) = selPart b k := by
  unfold selPart
  rw [List.range_succ, List.filter_append]
  simp [ints, h]
theorem selPart_len (b : Int) (k : Nat) : (selPart b k).length ≤ k := by
  unfold selPart
  rw [ints_len]
  have := List.length_filter_le (fun n : Nat => selfB (n : Int) b) (List.range k)
  rwa [List.length_range] at this
theorem selPart_mem {b x : Int} {k : Nat} (h : x ∈ selPart b k) : selfB x b = true ∧ x < (k : Int) ∧ 0 ≤ x := by
  obtain ⟨n, hn, rfl⟩ := List.mem_map.1 h
  rw [List.mem_filter, List.mem_range] at hn
  exact ⟨hn.2, by omega, by omega⟩
theorem selPart_asc (b : Int) (k : Nat) : (selPart b k).Pairwise (· < ·) := by
  unfold selPart ints
  rw [List.pairwise_map]
  refine List.Pairwise.imp (fun {a b} h => by omega) (List.Pairwise.filter _ List.pairwise_lt_range)
theorem selPart_base {b : Int} (h : ¬ baseB b = true) (k : Nat) : selPart b k = [] := by
  rw [List.eq_nil_iff_forall_not_mem]
  intro x hx
  have := (selPart_mem hx).1
  rw [selfB_no (by rw [okB]; simp [h])] at this
  simp at this

/-- What SelvesUpTo answers. -/
def selvesA (most b : Int) : List Int := if most ≤ 3000 then selPart b (most + 1).toNat else []
theorem selvesA_yes {m : Nat} (b : Int) (h : m ≤ 3000) : selvesA m b = selPart b (m + 1) := by rw [selvesA, if_pos (by omega)]; rfl
theorem selvesA_neg {most b : Int} (h : most < 0) : selvesA most b = [] := by
  unfold selvesA
  rw [if_pos (by omega), show (most + 1).toNat = 0 by omega]; rfl
theorem selvesA_big {most b : Int} (h : 3000 < most) : selvesA most b = [] := by rw [selvesA, if_neg (by omega)]
theorem selvesA_base {most b : Int} (h : ¬ baseB b = true) : selvesA most b = [] := by
  unfold selvesA
  split
  · exact selPart_base h _
  · rfl
theorem selvesA_len (most b : Int) : (selvesA most b).length ≤ 3001 := by
  unfold selvesA
  split
  · have := selPart_len b (most + 1).toNat; omega
  · simp
theorem selvesA_mem {most b x : Int} (h : x ∈ selvesA most b) : selfB x b = true ∧ x ≤ most := by
  unfold selvesA at h
  split at h
  · have := selPart_mem h
    exact ⟨this.1, by omega⟩
  · simp at h
theorem selvesA_asc (most b : Int) : (selvesA most b).Pairwise (· < ·) := by
  unfold selvesA
  split
  · exact selPart_asc _ _
  · exact List.Pairwise.nil
theorem selvesA_next_yes {m : Nat} {b : Int} (hm : m < 3000) (h : selfB ((m : Int) + 1) b = true) : selvesA ((m : Int) + 1) b = selvesA m b ++ [(m : Int) + 1] := by
  have e : ((m : Int) + 1) = ((m + 1 : Nat) : Int) := by omega
  rw [e] at h ⊢
  rw [selvesA_yes b (by omega), selvesA_yes b (by omega), selPart_yes h]
theorem selvesA_next_not {m : Nat} {b : Int} (hm : m < 3000) (h : selfB ((m : Int) + 1) b = false) : selvesA ((m : Int) + 1) b = selvesA m b := by
  have e : ((m : Int) + 1) = ((m + 1 : Nat) : Int) := by omega
  rw [e] at h ⊢
  rw [selvesA_yes b (by omega), selvesA_yes b (by omega), selPart_not h]

/-! ### Rows -/

/-- Whether a row is told. -/
def rowB (n b : Int) : Bool := decide (1 ≤ n) && decide (n ≤ 3000) && baseB b
theorem rowB_iff (n b : Int) : rowB n b = true ↔ 1 ≤ n ∧ n ≤ 3000 ∧ 2 ≤ b ∧ b ≤ 16 := by simp [rowB, baseB]; omega
theorem rowB_nat {n b : Int} (h : rowB n b = true) : ∃ x k : Nat, n = (x : Int) ∧ b = (k : Int) ∧ 1 ≤ x ∧ x ≤ 3000 ∧ 2 ≤ k ∧ k ≤ 16 := by
  rw [rowB_iff] at h
  exact ⟨n.toNat, b.toNat, by omega, by omega, by omega, by omega, by omega, by omega⟩
/-- What RowFrom answers. -/
def rowA (n b : Int) : List Int := if rowB n b = true then ints (rowL b.toNat n.toNat) else []
theorem rowA_yes (n b : Nat) (h : rowB n b = true) : rowA n b = ints (rowL b n) := by rw [rowA, if_pos h]; rfl
theorem rowA_no {n b : Int} (h : ¬ rowB n b = true) : rowA n b = [] := by rw [rowA, if_neg h]
theorem rowL_len3 {b n : Nat} (hb : 2 ≤ b) (h1 : 1 ≤ n) : (rowL b n).length ≤ 3000 := by have := rowL_len hb n h1; omega
theorem rowA_len (n b : Int) : (rowA n b).length ≤ 3000 := by
  by_cases h : rowB n b = true
  · obtain ⟨x, k, rfl, rfl, h1, h2, h3, h4⟩ := rowB_nat h
    rw [rowA_yes x k h, ints_len]
    exact rowL_len3 h3 h1
  · rw [rowA_no h]; simp
theorem rowA_pos {n b : Int} (h : rowB n b = true) : 1 ≤ (rowA n b).length := by
  obtain ⟨x, k, rfl, rfl, h1, h2, h3, h4⟩ := rowB_nat h
  rw [rowA_yes x k h, ints_len, rowL_cons h3 h1 h2]
  simp
theorem rowA_asc (n b : Int) : (rowA n b).Pairwise (· < ·) := by
  by_cases h : rowB n b = true
  · obtain ⟨x, k, rfl, rfl, h1, h2, h3, h4⟩ := rowB_nat h
    rw [rowA_yes x k h, ints, List.pairwise_map]
    exact (rowL_asc h3 x h1).imp fun {a b} h => by omega
  · rw [rowA_no h]; exact List.Pairwise.nil

/-- Where two rows come together. -/
def joinO (b n m : Nat) : Option Nat := (rowL b n).find? fun x => decide (x ∈ rowL b m)
theorem find_asc {l : List Nat} {p : Nat → Bool} (h : l.Pairwise (· < ·)) {a : Nat} (hf : l.find? p = some a) : ∀ x, x ∈ l → p x = true → a ≤ x := by
  induction l with
  | nil => simp at hf
  | cons y l ih =>
    rw [List.pairwise_cons] at h
    intro x hx hp
    rw [List.find?_cons] at hf
    cases hy : p y with
    | true =>
      rw [hy] at hf
      simp at hf
      subst hf
      rcases List.mem_cons.1 hx with rfl | hx
      · exact Nat.le_refl _
      · exact Nat.le_of_lt (h.1 x hx)
    | false =>
      rw [hy] at hf
      rcases List.mem_cons.1 hx with rfl | hx
      · rw [hy] at hp; cases hp
      · exact ih h.2 hf x hx hp
theorem joinO_joins {b : Nat} (hb : 2 ≤ b) {n : Nat} (h1 : 1 ≤ n) (m : Nat) : Joins b n m (joinO b n m) := by
  unfold joinO
  cases hf : (rowL b n).find? fun x => decide (x ∈ rowL b m) with
  | none =>
    intro x hx
    have := List.find?_eq_none.1 hf x hx
    simpa using this
  | some a =>
    refine ⟨List.mem_of_find?_eq_some hf, ?_, fun x hx hxm => find_asc (rowL_asc hb n h1) hf x hx (by simpa using hxm)⟩
    have := List.find?_some hf
    simpa using this
theorem joinO_eq {b n m : Nat} (hb : 2 ≤ b) (h1 : 1 ≤ n) {r : Option Nat} (h : Joins b n m r) : joinO b n m = r := (joinO_joins hb h1 m).unique h
theorem joinO_sym {b n m : Nat} (hb : 2 ≤ b) (h1 : 1 ≤ n) (h2 : 1 ≤ m) : joinO b n m = joinO b m n := joinO_eq hb h1 (joinO_joins hb h2 n).sym
theorem joinO_same {b n : Nat} (hb : 2 ≤ b) (h1 : 1 ≤ n) (h2 : n ≤ 3000) : joinO b n n = some n := joinO_eq hb h1 (joins_same hb h1 h2)
theorem joinO_left {b n m : Nat} (hb : 2 ≤ b) (h1 : 1 ≤ n) (h2 : n ≤ 3000) (hm : n < m) : joinO b n m = joinO b (madeN b n) m :=
  joinO_eq hb h1 (joins_step hb h1 h2 hm (joinO_joins hb (by have := made_more hb h1; omega) m))
theorem joinO_right {b n m : Nat} (hb : 2 ≤ b) (h1 : 1 ≤ m) (h2 : m ≤ 3000) (hm : m < n) : joinO b n m = joinO b n (madeN b m) := by
  have h3 := made_more hb h1
  rw [joinO_sym hb (by omega) h1, joinO_left hb h1 h2 hm, joinO_sym hb (by omega) (by omega)]
theorem joinO_big {b n m : Nat} (h : 3000 < n) : joinO b n m = none := by unfold joinO; rw [rowL_big h]; rfl
theorem joinO_big' {b n m : Nat} (h : 3000 < m) : joinO b n m = none := by
  unfold joinO
  rw [rowL_big h, List.find?_eq_none]
  simp
theorem joinO_le {b n m a : Nat} (hb : 2 ≤ b) (h1 : 1 ≤ n) (h : joinO b n m = some a) : a ≤ 3000 := by
  have := joinO_joins hb h1 m
  rw [h] at this
  exact (rowL_ge hb n h1 a this.1).2

/-- What JoinAt answers. -/
def joinA (n m b : Int) : Option Nat := if rowB n b = true ∧ rowB m b = true then joinO b.toNat n.toNat m.toNat else none
theorem joinA_yes (n m b : Nat) (h : rowB n b = true) (h' : rowB m b = true) : joinA n m b = joinO b n m := by rw [joinA, if_pos ⟨h, h'⟩]; rfl
theorem joinA_no {n m b : Int} (h : ¬ (rowB n b = true ∧ rowB m b = true)) : joinA n m b = none := by rw [joinA, if_neg h]
theorem joinA_sym (n m b : Int) : joinA n m b = joinA m n b := by
  by_cases h : rowB n b = true ∧ rowB m b = true
  · obtain ⟨x, k, rfl, rfl, h1, h2, h3, h4⟩ := rowB_nat h.1
    obtain ⟨y, k', rfl, hk, h5, h6, _, _⟩ := rowB_nat h.2
    obtain rfl : k = k' := by omega
    rw [joinA_yes x y k h.1 h.2, joinA_yes y x k h.2 h.1]
    exact joinO_sym h3 h1 h5
  · rw [joinA_no h, joinA_no (fun h' => h ⟨h'.2, h'.1⟩)]

end Pl
end Go.Proofs.Ytakkjlcnfkklpaa
