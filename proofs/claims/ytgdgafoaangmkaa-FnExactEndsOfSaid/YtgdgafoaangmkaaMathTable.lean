/-
  Plain facts: a table of ends, each row made of the one before by each digit ahead, and put in order.
-/
import Derived.Test.YtgdgafoaangmkaaMathEnds2
import Derived.Test.YtgdgafoaangmkaaMathUp
namespace Go.Proofs.Ytgdgafoaangmkaa
namespace Pl

/-- The longer ends of one end with digits ahead below a number, in this order. -/
def longTo (b L n m : Nat) : List Nat := ((List.range m).filter fun d => (d * b ^ L + n) * (d * b ^ L + n) % b ^ (L + 1) == d * b ^ L + n).map fun d => d * b ^ L + n

theorem longTo_succ (b L n m : Nat) : longTo b L n (m + 1) = longTo b L n m ++ (if (m * b ^ L + n) * (m * b ^ L + n) % b ^ (L + 1) = m * b ^ L + n then [m * b ^ L + n] else []) := by
  unfold longTo
  rw [List.range_succ, List.filter_append, List.map_append]
  congr 1
  by_cases h : (m * b ^ L + n) * (m * b ^ L + n) % b ^ (L + 1) = m * b ^ L + n
  · simp [List.filter, h]
  · have hb : ((m * b ^ L + n) * (m * b ^ L + n) % b ^ (L + 1) == m * b ^ L + n) = false := by simpa using h
    rw [if_neg h]
    simp [List.filter, hb]
theorem longTo_len (b L n m : Nat) : (longTo b L n m).length ≤ m := by
  unfold longTo
  rw [List.length_map]
  have := List.length_filter_le (fun d => (d * b ^ L + n) * (d * b ^ L + n) % b ^ (L + 1) == d * b ^ L + n) (List.range m)
  rw [List.length_range] at this
  exact this

theorem made_lt {b L n d : Nat} (hn : n < b ^ L) (hd : d < b) : d * b ^ L + n < b ^ (L + 1) := by
  have h1 : (d + 1) * b ^ L ≤ b * b ^ L := Nat.mul_le_mul_right _ hd
  rw [Nat.add_mul, Nat.one_mul] at h1
  rw [Nat.pow_succ, Nat.mul_comm (b ^ L) b]
  omega

theorem mem_longTo {b L n x : Nat} (hn : n < b ^ L) : x ∈ longTo b L n b ↔ Idem (b ^ (L + 1)) x ∧ x % b ^ L = n := by
  have hp : 1 ≤ b ^ L := by omega
  simp only [longTo, List.mem_map, List.mem_filter, List.mem_range, beq_iff_eq]
  constructor
  · rintro ⟨d, ⟨hd, hi⟩, rfl⟩
    refine ⟨⟨made_lt hn hd, hi⟩, ?_⟩
    rw [Nat.mul_comm, Nat.mul_add_mod, Nat.mod_eq_of_lt hn]
  · rintro ⟨h, hm⟩
    have e : x / b ^ L * b ^ L + n = x := by rw [← hm, Nat.mul_comm]; exact Nat.div_add_mod x _
    refine ⟨x / b ^ L, ⟨?_, by rw [e]; exact h.2⟩, e⟩
    rw [Nat.div_lt_iff_lt_mul (by omega), Nat.mul_comm, ← Nat.pow_succ]; exact h.1

theorem longTo_nodup {b L n : Nat} (hn : n < b ^ L) (m : Nat) : (longTo b L n m).Nodup := by
  unfold longTo List.Nodup
  rw [List.pairwise_map]
  refine List.Pairwise.imp ?_ (List.Pairwise.filter _ (List.nodup_range (n := m)))
  intro x y hxy he
  exact hxy (Nat.eq_of_mul_eq_mul_right (show 0 < b ^ L by omega) (by omega))

/-- The one longer end. -/
theorem longTo_one {b L n : Nat} (h1 : 2 ≤ b) (h2 : b ≤ 16) (h3 : 1 ≤ L) (h4 : L ≤ 3) (h : Idem (b ^ L) n) : longTo b L n b = [longerN b L n] := by
  have hn := longTo_nodup h.1 b
  have hm : ∀ x, x ∈ longTo b L n b ↔ x = longerN b L n := by
    intro x
    rw [mem_longTo h.1]
    refine ⟨fun ⟨g1, g2⟩ => longer_only h1 h2 h3 h4 h g1 g2, ?_⟩
    rintro rfl
    exact ⟨(ahead_spec h1 h2 h3 h4 h).2.1, longer_mod h⟩
  generalize longTo b L n b = l at *
  cases l with
  | nil => exact absurd ((hm _).2 rfl) (by simp)
  | cons a t =>
    have ha := (hm a).1 (by simp)
    cases t with
    | nil => rw [ha]
    | cons c u =>
      have hc := (hm c).1 (by simp)
      rw [List.nodup_cons] at hn
      exact absurd (by rw [ha, hc]; simp) hn.1

/-- The rows made longer, one end after the other. -/
def longRow (b L : Nat) (l : List Nat) : List Nat := l.flatMap fun n => longTo b L n b
theorem longRow_snoc (b L : Nat) (l : List Nat) (n : Nat) : longRow b L (l ++ [n]) = longRow b L l ++ longTo b L n b := by simp [longRow]
theorem longRow_len (b L : Nat) : ∀ l : List Nat, (longRow b L l).length ≤ l.length * b := by
  intro l
  induction l with
  | nil => simp [longRow]
  | cons n l ih =>
    have := longTo_len b L n b
    simp only [longRow, List.flatMap_cons, List.length_append, List.length_cons, Nat.add_mul] at *
    omega

theorem mem_longRow {b L x : Nat} (hb : 1 ≤ b) : x ∈ longRow b L (endsF (b ^ L)) ↔ Idem (b ^ (L + 1)) x := by
  simp only [longRow, List.mem_flatMap, mem_endsF]
  constructor
  · rintro ⟨n, hn, hx⟩; exact ((mem_longTo hn.1).1 hx).1
  · intro h
    have hr := idem_rest hb h
    exact ⟨x % b ^ L, hr, (mem_longTo hr.1).2 ⟨h, rfl⟩⟩

theorem endsF_asc (P : Nat) : (endsF P).Pairwise (· < ·) := List.Pairwise.filter _ List.pairwise_lt_range

theorem longRow_nodup (b L : Nat) : (longRow b L (endsF (b ^ L))).Nodup := by
  unfold longRow List.Nodup
  rw [List.pairwise_flatMap]
  refine ⟨fun n hn => longTo_nodup (mem_endsF.1 hn).1 b, ?_⟩
  refine List.Pairwise.imp_of_mem ?_ (endsF_asc (b ^ L))
  intro n m hn hm hlt x hx y hy he
  have e1 := ((mem_longTo (mem_endsF.1 hn).1).1 hx).2
  have e2 := ((mem_longTo (mem_endsF.1 hm).1).1 hy).2
  rw [he, e2] at e1
  omega

/-- Different numbers put in order are those in ascending order. -/
theorem sort_asc {xs ys : List Int} (hn : xs.Nodup) (hy : ys.Pairwise (· < ·)) (hm : ∀ x, x ∈ xs ↔ x ∈ ys) : xs.mergeSort (fun x y => decide (x ≤ y)) = ys := by
  have hs : (xs.mergeSort fun x y => decide (x ≤ y)).Pairwise (· ≤ ·) := by
    have := List.pairwise_mergeSort (le := fun (x y : Int) => decide (x ≤ y)) (fun a c d h1 h2 => by simp only [decide_eq_true_eq] at *; omega) (fun a c => by simp only [Bool.or_eq_true, decide_eq_true_eq]; omega) xs
    exact this.imp fun h => of_decide_eq_true h
  have hd : (xs.mergeSort fun x y => decide (x ≤ y)).Nodup := (List.mergeSort_perm xs _).nodup_iff.2 hn
  refine asc_ext ?_ hy fun x => ?_
  · have := hs.and hd
    exact this.imp fun ⟨h1, h2⟩ => by omega
  · rw [List.mem_mergeSort, hm]

theorem ends_sorted {b L : Nat} (hb : 1 ≤ b) : ((longRow b L (endsF (b ^ L))).map fun n : Nat => (n : Int)).mergeSort (fun x y => decide (x ≤ y)) = (endsF (b ^ (L + 1))).map fun n : Nat => (n : Int) := by
  refine sort_asc ?_ ?_ fun x => ?_
  · unfold List.Nodup
    rw [List.pairwise_map]
    exact (longRow_nodup b L).imp fun h => by omega
  · rw [List.pairwise_map]
    exact (endsF_asc _).imp fun h => by omega
  · simp only [List.mem_map, mem_longRow hb, mem_endsF]

theorem endsF_one (b : Nat) : endsF (b ^ 0) = [0] := rfl
theorem endsF_few {b L : Nat} (h1 : 2 ≤ b) (h2 : b ≤ 16) (h4 : L ≤ 4) : 1 ≤ (endsF (b ^ L)).length ∧ (endsF (b ^ L)).length ≤ 4 := by
  by_cases h3 : 1 ≤ L
  · rw [endsF_len h1 h2 h3 h4]
    unfold primesT
    split <;> omega
  · obtain rfl : L = 0 := by omega
    exact ⟨by rw [endsF_one]; simp, by rw [endsF_one]; simp⟩

/-- The other end, as a rest. -/
theorem other_rest {P n : Nat} (hP : 2 ≤ P) (hn : n < P) : (P + 1 - n) % P = otherN P n := by
  unfold otherN
  by_cases h : n ≤ 1
  · rw [if_pos h, show P + 1 - n = P + (1 - n) by omega, Nat.add_mod_left, Nat.mod_eq_of_lt (by omega)]
  · rw [if_neg h, Nat.mod_eq_of_lt (by omega)]

end Pl
end Go.Proofs.Ytgdgafoaangmkaa
