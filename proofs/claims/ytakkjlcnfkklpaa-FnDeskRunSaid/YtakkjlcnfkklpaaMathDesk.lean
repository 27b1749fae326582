/-
  Plain facts: desks, deeds, what they make, runs of deeds.
-/
import Derived.Test.YtakkjlcnfkklpaaRoot
import Derived.Test.YtakkjlcnfkklpaaNextOf
import Derived.Test.YtakkjlcnfkklpaaTurned
import Derived.Test.YtakkjlcnfkklpaaMathSelf2
import Derived.Test.YtakkjlcnfkklpaaMathProd2
import Derived.Test.YtakkjlcnfkklpaaMathText
namespace Go.Proofs.Ytakkjlcnfkklpaa
namespace Pl

/-- A desk. -/
structure Dk where
  b : Int
  n : Int
  past : List Int
/-- The zero value. -/
def dk0 : Dk := ⟨0, 0, []⟩

def wholeB (n : Int) : Bool := decide (0 ≤ n) && decide (n ≤ 1000000000)
theorem wholeB_iff (n : Int) : wholeB n = true ↔ 0 ≤ n ∧ n ≤ 1000000000 := by simp [wholeB]
/-- Whether a desk is one. -/
def dkB (d : Dk) : Bool := okB d.n d.b && (d.past.all wholeB && decide (d.past.length ≤ 8))
theorem dkB_iff (d : Dk) : dkB d = true ↔ okB d.n d.b = true ∧ (∀ x ∈ d.past, 0 ≤ x ∧ x ≤ 1000000000) ∧ d.past.length ≤ 8 := by
  simp only [dkB, Bool.and_eq_true, List.all_eq_true, wholeB_iff, decide_eq_true_eq]
theorem dkB_zero : dkB dk0 = false := by decide

/-- A new desk. -/
def newA (n b : Int) : Dk × Bool := if okB n b = true then (⟨b, n, []⟩, true) else (dk0, false)
theorem dkB_new (n b : Int) : dkB ⟨b, n, []⟩ = okB n b := by simp [dkB]
/-- What a deed makes of a number; -1 if it cannot be done. -/
def mkI (d : Dk) (k n : Int) : Int :=
  if k = 0 then n else if n = 0 then
    (if k = 1 then sumI d.n d.b else if k = 2 then prodI d.n d.b else if k = 3 then nextI d.n 2 d.b else if k = 4 then turnI d.n d.b else if k = 5 then addI d.n d.b else if k = 6 then madeI d.n d.b else -1)
  else -1
/-- At most 8 numbers of before: the first ones are gone. -/
def cut8 (p : List Int) : List Int := if 8 < p.length then p.drop 1 else p
/-- A deed, done or not. -/
def doA (d : Dk) (k n : Int) : Dk × Bool :=
  if dkB d = true then
    if (k = 7 ∧ n = 0) ∧ d.past ≠ [] then (⟨d.b, d.past[d.past.length - 1]?.getD 0, d.past.take (d.past.length - 1)⟩, true)
    else if wholeB (mkI d k n) = true ∧ mkI d k n ≠ d.n then (⟨d.b, mkI d k n, cut8 (d.past ++ [d.n])⟩, true)
    else (d, false)
  else (dk0, false)

theorem doA_none {d : Dk} {k n : Int} (h : ¬ dkB d = true) : doA d k n = (dk0, false) := by rw [doA, if_neg h]
theorem doA_back {d : Dk} {k n : Int} (h : dkB d = true) (h1 : k = 7 ∧ n = 0) (h2 : d.past ≠ []) : doA d k n = (⟨d.b, d.past[d.past.length - 1]?.getD 0, d.past.take (d.past.length - 1)⟩, true) := by
  rw [doA, if_pos h, if_pos ⟨h1, h2⟩]
theorem doA_yes {d : Dk} {k n : Int} (h : dkB d = true) (h1 : ¬ ((k = 7 ∧ n = 0) ∧ d.past ≠ [])) (h2 : wholeB (mkI d k n) = true ∧ mkI d k n ≠ d.n) : doA d k n = (⟨d.b, mkI d k n, cut8 (d.past ++ [d.n])⟩, true) := by
  rw [doA, if_pos h, if_neg h1, if_pos h2]
theorem doA_not {d : Dk} {k n : Int} (h : dkB d = true) (h1 : ¬ ((k = 7 ∧ n = 0) ∧ d.past ≠ [])) (h2 : ¬ (wholeB (mkI d k n) = true ∧ mkI d k n ≠ d.n)) : doA d k n = (d, false) := by
  rw [doA, if_pos h, if_neg h1, if_neg h2]

theorem cut8_len {p : List Int} (h : p.length ≤ 9) : (cut8 p).length ≤ 8 := by
  unfold cut8; split
  · rw [List.length_drop]; omega
  · omega
theorem cut8_mem {p : List Int} {x : Int} (h : x ∈ cut8 p) : x ∈ p := by
  unfold cut8 at h; split at h
  · exact List.mem_of_mem_drop h
  · exact h
theorem cut8_few {p : List Int} (h : p.length ≤ 8) : cut8 p = p := by unfold cut8; rw [if_neg (by omega)]

/-- The desk is one, in the same base. -/
theorem doA_desk {d : Dk} {k n : Int} (h : dkB d = true) : dkB (doA d k n).1 = true ∧ (doA d k n).1.b = d.b := by
  have hd := (dkB_iff d).1 h
  by_cases h1 : (k = 7 ∧ n = 0) ∧ d.past ≠ []
  · rw [doA_back h h1.1 h1.2]
    refine ⟨?_, rfl⟩
    rw [dkB_iff]
    have hp : 0 < d.past.length := List.length_pos_iff.2 h1.2
    refine ⟨?_, fun x hx => hd.2.1 x (List.mem_of_mem_take hx), by simp; omega⟩
    have hm : d.past[d.past.length - 1]?.getD 0 ∈ d.past := by
      rw [List.getElem?_eq_getElem (by omega)]; exact List.getElem_mem _
    have := hd.2.1 _ hm
    have hb := hd.1
    rw [okB_iff] at hb ⊢
    exact ⟨hb.1, this⟩
  · by_cases h2 : wholeB (mkI d k n) = true ∧ mkI d k n ≠ d.n
    · rw [doA_yes h h1 h2]
      refine ⟨?_, rfl⟩
      rw [dkB_iff]
      have hb := hd.1
      rw [okB_iff] at hb
      refine ⟨?_, fun x hx => ?_, cut8_len (by simp; omega)⟩
      · rw [okB_iff]; exact ⟨hb.1, (wholeB_iff _).1 h2.1⟩
      · rcases List.mem_append.1 (cut8_mem hx) with hx | hx
        · exact hd.2.1 x hx
        · rw [List.mem_singleton.1 hx]; exact hb.2
    · rw [doA_not h h1 h2]; exact ⟨h, rfl⟩
theorem doA_not_same {d : Dk} {k n : Int} (h : dkB d = true) (h2 : (doA d k n).2 = false) : (doA d k n).1 = d := by
  by_cases h1 : (k = 7 ∧ n = 0) ∧ d.past ≠ []
  · rw [doA_back h h1.1 h1.2] at h2; cases h2
  · by_cases h3 : wholeB (mkI d k n) = true ∧ mkI d k n ≠ d.n
    · rw [doA_yes h h1 h3] at h2; cases h2
    · rw [doA_not h h1 h3]
/-- What was done can be undone. -/
theorem doA_undo {d : Dk} {k n : Int} (h : dkB d = true) (h2 : (doA d k n).2 = true) (hk : k ≠ 7) (hp : d.past.length < 8) : doA (doA d k n).1 7 0 = (d, true) := by
  have hd' := (doA_desk (k := k) (n := n) h).1
  have h1 : ¬ ((k = 7 ∧ n = 0) ∧ d.past ≠ []) := fun hh => hk hh.1.1
  by_cases h3 : wholeB (mkI d k n) = true ∧ mkI d k n ≠ d.n
  · rw [doA_yes h h1 h3] at hd' ⊢
    rw [cut8_few (by simp; omega)] at hd' ⊢
    rw [doA_back hd' ⟨rfl, rfl⟩ (by simp)]
    simp
  · rw [doA_not h h1 h3] at h2; cases h2
theorem rootN_sum {b : Nat} (hb : 2 ≤ b) (n : Nat) : rootN b (sumD b n) = rootN b n := by
  by_cases h : n < b
  · rw [sumD_lt h]
  · exact (rootN_ge hb (by omega)).symm
/-- Behind a sum of digits, or turned round, the root is the same. -/
theorem doA_root {d : Dk} {k n : Int} (h : dkB d = true) (h2 : (doA d k n).2 = true) (hk : k = 1 ∨ k = 4) : rootI (doA d k n).1.n (doA d k n).1.b = rootI d.n d.b := by
  have hd := (dkB_iff d).1 h
  have h1 : ¬ ((k = 7 ∧ n = 0) ∧ d.past ≠ []) := fun hh => by omega
  by_cases h3 : wholeB (mkI d k n) = true ∧ mkI d k n ≠ d.n
  · rw [doA_yes h h1 h3]
    obtain ⟨x, b, hx, hb, b1, b2, x1⟩ := okB_nat hd.1
    have hw := (wholeB_iff _).1 h3.1
    show rootI (mkI d k n) d.b = rootI d.n d.b
    have hok := hd.1
    rw [hx, hb] at hok
    rw [rootI, rootI]
    have hmk : okB (mkI d k n) d.b = true := by rw [okB_iff] at hok ⊢; rw [hb]; exact ⟨hok.1, hw⟩
    rw [if_pos hmk, if_pos hd.1]
    congr 1
    have hn0 : n = 0 := by
      refine Classical.byContradiction fun hn => ?_
      unfold mkI at hw
      rw [if_neg (by omega), if_neg hn] at hw; omega
    rcases hk with rfl | rfl
    · have e : mkI d 1 n = ((sumD b x : Nat) : Int) := by
        unfold mkI
        rw [if_neg (by decide), if_pos hn0, if_pos rfl, hx, hb, sumI_yes x b hok]
      rw [e, hx, hb, Int.toNat_natCast, Int.toNat_natCast, Int.toNat_natCast, rootN_sum b1]
    · have e : mkI d 4 n = turnI d.n d.b := by
        unfold mkI
        rw [if_neg (by decide), if_pos hn0, if_neg (by decide), if_neg (by decide), if_neg (by decide), if_pos rfl]
      have e2 : turnI d.n d.b = ((turnN b x : Nat) : Int) := by
        rw [hx, hb]
        by_cases ht : turnN b x ≤ 1000000000
        · exact turnI_yes x b hok ht
        · exfalso
          rw [e, hx, hb, turnI_big x b ht] at hw; omega
      rw [e, e2, hx, hb, Int.toNat_natCast, Int.toNat_natCast, Int.toNat_natCast, ← rootN_sum b1, turn_sum b1, rootN_sum b1]
  · rw [doA_not h h1 h3] at h2; cases h2

/-- Deeds, one after the other; and how many were done. -/
def runD (d : Dk) : List (Int × Int) → Dk × Nat
  | [] => (d, 0)
  | a :: t => if (doA d a.1 a.2).2 = true then ((runD (doA d a.1 a.2).1 t).1, (runD (doA d a.1 a.2).1 t).2 + 1) else runD d t
def runA (d : Dk) (l : List (Int × Int)) : Dk × Nat := if dkB d = true ∧ l.length ≤ 40 then runD d l else (dk0, 0)
theorem runD_append (d : Dk) (l m : List (Int × Int)) : runD d (l ++ m) = ((runD (runD d l).1 m).1, (runD d l).2 + (runD (runD d l).1 m).2) := by
  induction l generalizing d with
  | nil => simp [runD]
  | cons a t ih =>
    rw [List.cons_append, runD, runD]
    split
    · rw [ih]; simp; omega
    · rw [ih]
theorem runD_snoc (d : Dk) (l : List (Int × Int)) (a : Int × Int) :
    runD d (l ++ [a]) = if (doA (runD d l).1 a.1 a.2).2 = true then ((doA (runD d l).1 a.1 a.2).1, (runD d l).2 + 1) else runD d l := by
  rw [runD_append, runD]
  split
  · simp [runD]
  · simp [runD]
theorem runD_desk {d : Dk} (h : dkB d = true) (l : List (Int × Int)) : dkB (runD d l).1 = true ∧ (runD d l).1.b = d.b ∧ (runD d l).2 ≤ l.length := by
  induction l generalizing d with
  | nil => simp [runD, h]
  | cons a t ih =>
    rw [runD]
    split
    · obtain ⟨h1, h2⟩ := doA_desk (k := a.1) (n := a.2) h
      obtain ⟨g1, g2, g3⟩ := ih h1
      exact ⟨g1, g2.trans h2, by simp; omega⟩
    · obtain ⟨g1, g2, g3⟩ := ih h
      exact ⟨g1, g2, by simp; omega⟩

end Pl
end Go.Proofs.Ytakkjlcnfkklpaa
