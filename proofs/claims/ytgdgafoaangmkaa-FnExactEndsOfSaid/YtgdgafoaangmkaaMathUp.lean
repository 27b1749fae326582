/-
  Plain facts: the least number of a round; least numbers put in a row, each once, ascending; what sorting and compacting leave.
-/
import Derived.Test.YtgdgafoaangmkaaMathRho
import Derived.Lib.SlicesCompact
import Derived.Lib.Slices
namespace Go.Proofs.Ytgdgafoaangmkaa
namespace Pl

/-! ### Ascending rows -/

/-- Put a number into an ascending row, once. -/
def insU (x : Int) : List Int → List Int
  | [] => [x]
  | y :: l => if x < y then x :: y :: l else if x = y then y :: l else y :: insU x l

theorem mem_insU {x y : Int} {l : List Int} : y ∈ insU x l ↔ y = x ∨ y ∈ l := by
  induction l with
  | nil => simp [insU]
  | cons z l ih =>
    rw [insU]
    split
    · simp
    · split
      · rename_i h; subst h; simp
      · simp only [List.mem_cons, ih]
        constructor
        · rintro (h | h | h) <;> simp [h]
        · rintro (h | h | h) <;> simp [h]

theorem insU_len (x : Int) (l : List Int) : (insU x l).length ≤ l.length + 1 := by
  induction l with
  | nil => simp [insU]
  | cons z l ih =>
    rw [insU]
    split
    · simp
    · split
      · simp
      · simp only [List.length_cons]; omega

theorem insU_asc {x : Int} {l : List Int} (h : l.Pairwise (· < ·)) : (insU x l).Pairwise (· < ·) := by
  induction l with
  | nil => simp [insU]
  | cons z l ih =>
    rw [List.pairwise_cons] at h
    rw [insU]
    split
    · rename_i hx
      rw [List.pairwise_cons, List.pairwise_cons]
      refine ⟨fun y hy => ?_, h⟩
      rcases List.mem_cons.1 hy with rfl | hy
      · exact hx
      · exact Int.lt_trans hx (h.1 y hy)
    · split
      · rw [List.pairwise_cons]; exact h
      · rename_i h1 h2
        rw [List.pairwise_cons]
        refine ⟨fun y hy => ?_, ih h.2⟩
        rcases mem_insU.1 hy with rfl | hy
        · omega
        · exact h.1 y hy

/-- Where the number is to stand. -/
theorem insU_new {x : Int} : ∀ (l m : List Int), (∀ y ∈ l, y < x) → (∀ y, m[0]? = some y → x < y) → insU x (l ++ m) = l ++ x :: m := by
  intro l
  induction l with
  | nil =>
    intro m _ h
    cases m with
    | nil => rfl
    | cons y m => rw [List.nil_append, insU, if_pos (h y (by simp))]; rfl
  | cons z l ih =>
    intro m h1 h2
    have hz := h1 z (by simp)
    rw [List.cons_append, insU, if_neg (by omega), if_neg (by omega), ih m (fun y hy => h1 y (by simp [hy])) h2]; rfl

theorem insU_old {x : Int} : ∀ (l m : List Int), (∀ y ∈ l, y < x) → m[0]? = some x → insU x (l ++ m) = l ++ m := by
  intro l
  induction l with
  | nil =>
    intro m _ h
    cases m with
    | nil => simp at h
    | cons y m =>
      have : y = x := by simpa using h
      subst this
      rw [List.nil_append, insU, if_neg (by omega), if_pos rfl]
  | cons z l ih =>
    intro m h1 h2
    have hz := h1 z (by simp)
    rw [List.cons_append, insU, if_neg (by omega), if_neg (by omega), ih m (fun y hy => h1 y (by simp [hy])) h2]

/-- Ascending rows of the same numbers are the same. -/
theorem asc_ext : ∀ {l m : List Int}, l.Pairwise (· < ·) → m.Pairwise (· < ·) → (∀ x, x ∈ l ↔ x ∈ m) → l = m := by
  intro l
  induction l with
  | nil =>
    intro m _ _ h
    cases m with
    | nil => rfl
    | cons y m => exact absurd ((h y).2 (by simp)) (by simp)
  | cons z l ih =>
    intro m hl hm h
    cases m with
    | nil => exact absurd ((h z).1 (by simp)) (by simp)
    | cons y m =>
      rw [List.pairwise_cons] at hl hm
      have e : z = y := by
        have h1 := (h z).1 (by simp)
        have h2 := (h y).2 (by simp)
        rcases List.mem_cons.1 h1 with h1 | h1
        · exact h1
        · rcases List.mem_cons.1 h2 with h2 | h2
          · exact h2.symm
          · have := hm.1 z h1
            have := hl.1 y h2
            omega
      subst e
      congr 1
      refine ih hl.2 hm.2 fun x => ?_
      have hx := h x
      constructor
      · intro hxl
        rcases List.mem_cons.1 (hx.1 (by simp [hxl])) with e | h'
        · subst e; exact absurd (hl.1 x hxl) (by omega)
        · exact h'
      · intro hxm
        rcases List.mem_cons.1 (hx.2 (by simp [hxm])) with e | h'
        · subst e; exact absurd (hm.1 x hxm) (by omega)
        · exact h'

/-! ### Least numbers -/

theorem foldl_min (l : List Int) : ∀ a, (l.foldl min a = a ∨ l.foldl min a ∈ l) ∧ l.foldl min a ≤ a ∧ ∀ y ∈ l, l.foldl min a ≤ y := by
  induction l with
  | nil => intro a; simp
  | cons z l ih =>
    intro a
    obtain ⟨h1, h2, h3⟩ := ih (min a z)
    rw [List.foldl_cons]
    refine ⟨?_, by omega, fun y hy => ?_⟩
    · rcases h1 with h1 | h1
      · rcases Int.le_total a z with h | h
        · left; rw [h1]; omega
        · right; rw [h1, show min a z = z by omega]; simp
      · right; simp [h1]
    · rcases List.mem_cons.1 hy with rfl | hy
      · omega
      · exact h3 y hy

theorem minOf_mem {l : List Int} (h : l ≠ []) : Lib.minOf l ∈ l := by
  cases l with
  | nil => exact absurd rfl h
  | cons z l =>
    unfold Lib.minOf
    rw [List.headD_cons]
    rcases (foldl_min (z :: l) z).1 with h | h
    · rw [h]; simp
    · exact h

theorem minOf_le {l : List Int} {y : Int} (h : y ∈ l) : Lib.minOf l ≤ y := (foldl_min l _).2.2 y h

/-! ### Rows of least numbers -/

/-- g of 1 to m, each once, ascending. -/
def upL (g : Nat → Int) : Nat → List Int
  | 0 => []
  | m + 1 => insU (g (m + 1)) (upL g m)
/-- g of 1 to m, one behind the other. -/
def lows (g : Nat → Int) (m : Nat) : List Int := (List.range m).map fun i => g (i + 1)

theorem lows_len (g : Nat → Int) (m : Nat) : (lows g m).length = m := by simp [lows]
theorem lows_succ (g : Nat → Int) (m : Nat) : lows g (m + 1) = lows g m ++ [g (m + 1)] := by simp [lows, List.range_succ]
theorem mem_lows {g : Nat → Int} {m : Nat} {y : Int} : y ∈ lows g m ↔ ∃ n, 1 ≤ n ∧ n ≤ m ∧ y = g n := by
  simp only [lows, List.mem_map, List.mem_range]
  constructor
  · rintro ⟨i, hi, rfl⟩; exact ⟨i + 1, by omega, by omega, rfl⟩
  · rintro ⟨n, h1, h2, rfl⟩; exact ⟨n - 1, by omega, by rw [Nat.sub_add_cancel h1]⟩
theorem upL_len (g : Nat → Int) (m : Nat) : (upL g m).length ≤ m := by
  induction m with
  | zero => simp [upL]
  | succ m ih => rw [upL]; have := insU_len (g (m + 1)) (upL g m); omega
theorem upL_asc (g : Nat → Int) (m : Nat) : (upL g m).Pairwise (· < ·) := by
  induction m with
  | zero => simp [upL]
  | succ m ih => rw [upL]; exact insU_asc ih
theorem mem_upL {g : Nat → Int} {m : Nat} {y : Int} : y ∈ upL g m ↔ ∃ n, 1 ≤ n ∧ n ≤ m ∧ y = g n := by
  induction m with
  | zero => simp [upL]; omega
  | succ m ih =>
    rw [upL, mem_insU, ih]
    constructor
    · rintro (rfl | ⟨n, h1, h2, rfl⟩)
      · exact ⟨m + 1, by omega, by omega, rfl⟩
      · exact ⟨n, h1, by omega, rfl⟩
    · rintro ⟨n, h1, h2, rfl⟩
      by_cases h : n = m + 1
      · left; rw [h]
      · right; exact ⟨n, h1, by omega, rfl⟩

/-! ### Sorting and compacting -/

theorem compact_sorted {zs : List Int} (hs : zs.Pairwise (· ≤ ·)) : ∀ m, m ≤ zs.length → (Lib.compactUpTo zs.toArray m).Pairwise (· < ·) ∧ ∀ y, y ∈ Lib.compactUpTo zs.toArray m ↔ ∃ j, j < m ∧ y = zs.toArray[j]! := by
  have hle : ∀ i j, i < j → j < zs.length → zs.toArray[i]! ≤ zs.toArray[j]! := fun i j hij hj => by
    have h := List.pairwise_iff_getElem.1 hs i j (by omega) hj hij
    simpa [getElem!_pos, show i < zs.length by omega, hj] using h
  intro m
  induction m with
  | zero => intro _; simp [Lib.compactUpTo]
  | succ m ih =>
    intro hm
    obtain ⟨h1, h2⟩ := ih (by omega)
    rw [Lib.compactUpTo_succ]
    by_cases hk : Lib.keeps zs.toArray m = true
    · rw [if_pos hk]
      have hlt : ∀ j, j < m → zs.toArray[j]! < zs.toArray[m]! := fun j hj => by
        have h3 : m = 0 ∨ zs.toArray[m]! ≠ zs.toArray[m - 1]! := by
          unfold Lib.keeps at hk
          exact of_decide_eq_true hk
        have h4 := hle (m - 1) m (by omega) (by omega)
        have h5 : zs.toArray[j]! ≤ zs.toArray[m - 1]! := by
          by_cases e : j = m - 1
          · rw [e]; exact Int.le_refl _
          · exact hle j (m - 1) (by omega) (by omega)
        omega
      refine ⟨?_, fun y => ?_⟩
      · rw [List.pairwise_append]
        refine ⟨h1, by simp, fun a ha c hc => ?_⟩
        obtain ⟨j, hj, rfl⟩ := (h2 a).1 ha
        have hc : c = zs.toArray[m]! := List.mem_singleton.1 hc
        rw [hc]; exact hlt j hj
      · rw [List.mem_append, h2, List.mem_singleton]
        constructor
        · rintro (⟨j, hj, rfl⟩ | rfl)
          · exact ⟨j, by omega, rfl⟩
          · exact ⟨m, by omega, rfl⟩
        · rintro ⟨j, hj, rfl⟩
          by_cases e : j = m
          · right; rw [e]
          · left; exact ⟨j, by omega, rfl⟩
    · rw [if_neg hk, List.append_nil]
      refine ⟨h1, fun y => ?_⟩
      rw [h2]
      have h3 : ¬ (m = 0 ∨ zs.toArray[m]! ≠ zs.toArray[m - 1]!) := by
        unfold Lib.keeps at hk
        exact fun h => hk (decide_eq_true h)
      constructor
      · rintro ⟨j, hj, rfl⟩; exact ⟨j, by omega, rfl⟩
      · rintro ⟨j, hj, rfl⟩
        by_cases e : j = m
        · subst e
          refine ⟨j - 1, by omega, ?_⟩
          exact Classical.byContradiction fun h => h3 (.inr h)
        · exact ⟨j, by omega, rfl⟩

theorem compact_up (g : Nat → Int) (m : Nat) : Lib.compact ((lows g m).mergeSort fun x y => decide (x ≤ y)) = upL g m := by
  have hs : ((lows g m).mergeSort fun x y => decide (x ≤ y)).Pairwise (· ≤ ·) := by
    have := List.pairwise_mergeSort (le := fun (x y : Int) => decide (x ≤ y)) (fun a c d h1 h2 => by simp only [decide_eq_true_eq] at *; omega) (fun a c => by simp only [Bool.or_eq_true, decide_eq_true_eq]; omega) (lows g m)
    simpa using this
  obtain ⟨h1, h2⟩ := compact_sorted hs _ (Nat.le_refl _)
  refine asc_ext h1 (upL_asc g m) fun x => ?_
  unfold Lib.compact
  rw [h2, mem_upL, ← mem_lows, ← List.mem_mergeSort (le := fun (x y : Int) => decide (x ≤ y)) (l := lows g m)]
  generalize ((lows g m).mergeSort fun x y => decide (x ≤ y)) = zs
  rw [List.mem_iff_getElem]
  constructor
  · rintro ⟨j, hj, rfl⟩; exact ⟨j, hj, by simp [getElem!_pos, hj]⟩
  · rintro ⟨j, hj, rfl⟩; exact ⟨j, hj, by simp [getElem!_pos, hj]⟩

/-! ### The same round -/

theorem inRound_same {f : Nat → Nat} {n x : Nat} (hx : InRound f n x) (y : Nat) : InRound f x y ↔ InRound f n y := by
  obtain ⟨hbx, j, hj⟩ := hx
  constructor
  · rintro ⟨hb, i, rfl⟩
    exact ⟨hb, i + j, by rw [iter_add, hj]⟩
  · rintro ⟨hb, i, rfl⟩
    refine ⟨hb, ?_⟩
    obtain ⟨q, hq, hy⟩ := hb
    have h1 := iter_back_mul hy j
    rw [← iter_add] at h1
    have h2 : j ≤ j * q := Nat.le_mul_of_pos_right _ hq
    refine ⟨j * q + i - j, ?_⟩
    rw [← hj, ← iter_add, show j * q + i - j + j = j * q + i by omega, h1]

end Pl
end Go.Proofs.Ytgdgafoaangmkaa
