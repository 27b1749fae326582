/-
  Plain facts: numbers as the library tells and reads them, a text cut at a sign, deeds by their words.
-/
import Derived.Lib.ItoaNum
import Derived.Lib.AtoiAll
import Derived.Lib.Bytealg
import Derived.Lib.SlicesS
import Derived.Test.YtgkkoegfmhgcjaaDoorMathText
namespace Go.Proofs.YtgkkoegfmhgcjaaDoor
namespace Pl

theorem decDigits_dec (u : Nat) : Lib.decDigits u = decL u := by
  induction u using Nat.strongRecOn with
  | _ u ih =>
    by_cases h : u < 10
    · rw [Lib.decDigits, dif_pos h, decL_lt h]
    · rw [Lib.decDigits, dif_neg h, decL_ge h, ih (u / 10) (by omega)]
theorem itoa_dec (u : Nat) : Lib.itoa (u : Int) = decL u := by
  rw [Lib.itoa, if_neg (by omega), Int.toNat_natCast]; exact decDigits_dec u

theorem foldl_ge : ∀ (l : List UInt8) (a : Nat), a ≤ l.foldl (fun n c => 10 * n + (c.toNat - 48)) a := by
  intro l
  induction l with
  | nil => intro a; exact Nat.le_refl _
  | cons c t ih => intro a; rw [List.foldl_cons]; have := ih (10 * a + (c.toNat - 48)); omega
theorem parse_dig : ∀ (l : List UInt8) (a : Nat), (∀ c ∈ l, 48 ≤ c.toNat ∧ c.toNat ≤ 57) → l.foldl (fun n c => 10 * n + (c.toNat - 48)) a ≤ 1000000000000 →
    Lib.parseUint10 a l = .ok (l.foldl (fun n c => 10 * n + (c.toNat - 48)) a) := by
  intro l
  induction l with
  | nil => intro a _ _; rfl
  | cons c t ih =>
    intro a h hv
    have h1 := h c (List.mem_cons_self)
    rw [List.foldl_cons] at hv ⊢
    have h2 := foldl_ge t (10 * a + (c.toNat - 48))
    rw [Lib.parseUint10, if_pos h1, if_neg (by omega), if_neg (by omega), Nat.mul_comm a 10]
    exact ih _ (fun d hd => h d (List.mem_cons_of_mem _ hd)) hv
/-- A number in decimal is read as this number. -/
theorem atoi_dec {u : Nat} (h : u ≤ 1000000000) : Lib.atoiAll (decL u) = .ok (u : Int) := by
  have hv := valL_dec u
  have hd := decL_dig u
  have hp := parse_dig (decL u) 0 hd (by show valL (decL u) ≤ _; omega)
  have hp2 : Lib.parseUint10 0 (decL u) = .ok u := hp.trans (congrArg Lib.NumEnd.ok hv)
  have hne := decL_ne u
  cases e : decL u with
  | nil => exact absurd e hne
  | cons c t =>
    have hc := hd c (by rw [e]; exact List.mem_cons_self)
    rw [e] at hp2
    have hm : Lib.parseMag (c :: t) = .ok u := by
      unfold Lib.parseMag
      rw [if_neg (by simp), hp2]
    have h45 : ¬ c.toNat = 45 := by omega
    have h43 : ¬ (c.toNat = 43 ∨ c.toNat = 45) := by omega
    simp only [Lib.atoiAll]
    rw [if_neg h43, hm]
    simp [h45]
    omega

/-- A text of digits without leading zeros is what its number is written as. -/
theorem dec_val : ∀ (k : Nat) (s : List UInt8), s.length = k → s ≠ [] → (∀ c ∈ s, 48 ≤ c.toNat ∧ c.toNat ≤ 57) → (s.length = 1 ∨ s.head? ≠ some 48) → decL (valL s) = s := by
  intro k
  induction k with
  | zero => intro s hk h0; exact absurd (List.eq_nil_of_length_eq_zero hk) h0
  | succ k ih =>
    intro s hk h0 hd hh
    have hs : s = s.dropLast ++ [s.getLast h0] := (List.dropLast_concat_getLast h0).symm
    generalize s.getLast h0 = c at hs
    generalize ht : s.dropLast = t at hs
    subst hs
    have hc := hd c (by simp)
    have hlen : t.length = k := by simpa using hk
    have hcc : UInt8.ofNat (48 + (c.toNat - 48)) = c := by
      apply UInt8.toNat_inj.1
      rw [dig_toNat (by omega)]; omega
    rw [valL_snoc]
    cases t with
    | nil =>
      have : valL [] = 0 := rfl
      rw [this, decL_lt (by omega), Nat.mul_zero, Nat.zero_add, hcc]; rfl
    | cons a r =>
      have hh' : (a :: r).head? ≠ some 48 := by
        rcases hh with h | h
        · simp at h
        · simpa using h
      have IH := ih (a :: r) hlen (by simp) (fun d hd' => hd d (List.mem_append_left _ hd')) (.inr hh')
      have hpos : 1 ≤ valL (a :: r) := by
        refine Classical.byContradiction fun h => ?_
        have h1 : valL (a :: r) = 0 := by omega
        rw [h1, decL_lt (by omega)] at IH
        have : a = 48 := by
          have := (List.cons.inj IH).1
          rw [← this]; rfl
        exact hh' (by rw [this]; rfl)
      rw [decL_ge (by omega), show (10 * valL (a :: r) + (c.toNat - 48)) / 10 = valL (a :: r) by omega, show (10 * valL (a :: r) + (c.toNat - 48)) % 10 = c.toNat - 48 by omega, IH, hcc]
theorem numB_val {s : List UInt8} (h : numB s = true) : decL (valL s) = s := by
  unfold numB at h
  simp only [Bool.and_eq_true, decide_eq_true_eq, Bool.not_eq_true', Bool.and_eq_false_iff, decide_eq_false_iff_not] at h
  obtain ⟨⟨⟨h1, h2⟩, h3⟩, h4⟩ := h
  refine dec_val s.length s rfl (fun e => by rw [e] at h1; simp at h1) ((digB_iff s).1 h4) ?_
  rcases h3 with h3 | h3
  · left; omega
  · right
    intro e
    rw [e] at h3
    exact absurd h3 (by decide)
/-- A text is read as a number just if it is one written in decimal. -/
theorem readN_yes {s : List UInt8} (h : 0 ≤ readN s) : ∃ u : Nat, u ≤ 1000000000 ∧ readN s = (u : Int) ∧ s = decL u := by
  unfold readN at h ⊢
  split at h
  · rename_i hh
    rw [if_pos hh]
    exact ⟨valL s, hh.2, rfl, (numB_val hh.1).symm⟩
  · omega
theorem readN_none {s : List UInt8} (h : ¬ 0 ≤ readN s) (u : Nat) (hu : u ≤ 1000000000) : s ≠ decL u := fun e => by
  apply h
  rw [e, readN_dec hu]; omega
/-- The number that a text tells, 0 if it tells none; and whether it tells one. -/
def whI (s : List UInt8) : Int := if 0 ≤ readN s then readN s else 0
def whB (s : List UInt8) : Bool := decide (0 ≤ readN s)
theorem whI_dec {u : Nat} (h : u ≤ 1000000000) : whI (decL u) = u ∧ whB (decL u) = true := by
  unfold whI whB
  rw [readN_dec h]
  exact ⟨if_pos (by omega), decide_eq_true (by omega)⟩
theorem whI_none {s : List UInt8} (h : ¬ 0 ≤ readN s) : whI s = 0 ∧ whB s = false := by
  unfold whI whB
  exact ⟨if_neg h, decide_eq_false h⟩
theorem whI_nil : whI [] = 0 := by decide
theorem whI_le (s : List UInt8) : 0 ≤ whI s ∧ whI s ≤ 1000000000 := by
  have := readN_le s
  unfold whI; split <;> omega

/-- A text cut at the first sign c. -/
def cut1 (c : UInt8) : List UInt8 → List UInt8 × List UInt8 × Bool
  | [] => ([], [], false)
  | x :: t => if x = c then ([], t, true) else (x :: (cut1 c t).1, (cut1 c t).2.1, (cut1 c t).2.2)
theorem cut1_no {c : UInt8} {s : List UInt8} (h : c ∉ s) : cut1 c s = (s, [], false) := by
  induction s with
  | nil => rfl
  | cons x t ih =>
    rw [List.mem_cons, not_or] at h
    rw [cut1, if_neg (fun e => h.1 e.symm), ih h.2]
theorem cut1_at {c : UInt8} {l : List UInt8} (h : c ∉ l) (r : List UInt8) : cut1 c (l ++ c :: r) = (l, r, true) := by
  induction l with
  | nil => rw [List.nil_append, cut1, if_pos rfl]
  | cons x t ih =>
    rw [List.mem_cons, not_or] at h
    rw [List.cons_append, cut1, if_neg (fun e => h.1 e.symm), ih h.2]
theorem cut1_cases (c : UInt8) (s : List UInt8) : (c ∉ s ∧ cut1 c s = (s, [], false)) ∨ ∃ l r, c ∉ l ∧ s = l ++ c :: r ∧ cut1 c s = (l, r, true) := by
  induction s with
  | nil => left; exact ⟨by simp, rfl⟩
  | cons x t ih =>
    by_cases hx : x = c
    · right
      refine ⟨[], t, by simp, by rw [hx]; rfl, ?_⟩
      rw [cut1, if_pos hx]
    · rcases ih with ⟨h, _⟩ | ⟨l, r, hl, rfl, _⟩
      · left
        have : c ∉ x :: t := by simp only [List.mem_cons, not_or]; exact ⟨fun e => hx e.symm, h⟩
        exact ⟨this, cut1_no this⟩
      · right
        have : c ∉ x :: l := by simp only [List.mem_cons, not_or]; exact ⟨fun e => hx e.symm, hl⟩
        exact ⟨x :: l, r, this, rfl, by rw [← List.cons_append]; exact cut1_at this r⟩
theorem indexByte_no {c : UInt8} {s : List UInt8} (h : c ∉ s) : Lib.indexByte s c = -1 := by
  induction s with
  | nil => rfl
  | cons x t ih =>
    rw [List.mem_cons, not_or] at h
    have hx : (x == c) = false := by rw [beq_eq_false_iff_ne]; exact fun e => h.1 e.symm
    rw [Lib.indexByte, hx, ih h.2]; rfl
theorem indexByte_at {c : UInt8} {l : List UInt8} (h : c ∉ l) (r : List UInt8) : Lib.indexByte (l ++ c :: r) c = (l.length : Int) := by
  induction l with
  | nil => simp [Lib.indexByte]
  | cons x t ih =>
    rw [List.mem_cons, not_or] at h
    have hx : (x == c) = false := by rw [beq_eq_false_iff_ne]; exact fun e => h.1 e.symm
    have h1 : (((t.length : Int)) == -1) = false := by rw [beq_eq_false_iff_ne]; omega
    rw [List.cons_append, Lib.indexByte, hx, ih h.2, h1]
    simp
/-- Where the library cuts. -/
theorem cut1_index (c : UInt8) (s : ByteArray) : (Lib.indexByte s.data.toList c = -1 ∧ cut1 c s.data.toList = (s.data.toList, [], false)) ∨
    ∃ i : Nat, Lib.indexByte s.data.toList c = (i : Int) ∧ i < s.size ∧ cut1 c s.data.toList = (s.data.toList.take i, s.data.toList.drop (i + 1), true) := by
  rcases cut1_cases c s.data.toList with ⟨h, e⟩ | ⟨l, r, hl, hs, e⟩
  · exact .inl ⟨indexByte_no h, e⟩
  · right
    have hz : s.size = s.data.toList.length := (Array.length_toList).symm
    refine ⟨l.length, by rw [hs]; exact indexByte_at hl r, ?_, ?_⟩
    · rw [hz, hs]; simp
    · rw [e, hs]
      have h1 : (l ++ c :: r).take l.length = l := by simp
      have h2 : (l ++ c :: r).drop (l.length + 1) = r := by
        rw [show l ++ c :: r = (l ++ [c]) ++ r by simp, show l.length + 1 = (l ++ [c]).length by simp, List.drop_left]
      rw [h1, h2]

/-- The words of the deeds. -/
def wordsL : List (List UInt8) := [[116, 111], [115, 117, 109], [112, 114, 111, 100, 117, 99, 116], [115, 113, 117, 97, 114, 101, 115], [116, 117, 114, 110], [97, 100, 100], [109, 97, 107, 101], [98, 97, 99, 107]]
/-- The place of a word among them, -1 if it is none. -/
def wIdx (l : List UInt8) : Int := Lib.idxOfS (wordsL.map str) (str l)
theorem str_inj {a b : List UInt8} (h : str a = str b) : a = b := by
  have := congrArg (fun x : ByteArray => x.data.toList) h
  simpa [str] using this
theorem wIdx_to : wIdx [116, 111] = 0 := by decide
theorem wIdx_word : ∀ j : Fin 8, j.val ≠ 0 → wIdx (wordL j.val) = (j.val : Int) := by decide
theorem wIdx_range (l : List UInt8) : -1 ≤ wIdx l ∧ wIdx l ≤ 7 := by
  unfold wIdx Lib.idxOfS
  have gen : ∀ (zs : List ByteArray) (x : ByteArray) (i : Nat), -1 ≤ Lib.idxFromS zs x i ∧ Lib.idxFromS zs x i ≤ (i + zs.length : Int) - 1 ∨ Lib.idxFromS zs x i = -1 := by
    intro zs x
    induction zs with
    | nil => intro i; right; rfl
    | cons z t ih =>
      intro i
      rw [Lib.idxFromS]
      split
      · left; simp; omega
      · rcases ih (i + 1) with h | h
        · left; simp at h ⊢; omega
        · right; exact h
  rcases gen (wordsL.map str) (str l) 0 with h | h
  · simp [wordsL] at h ⊢; omega
  · omega
/-- The deed that the words of a text may be. -/
def candK (s : List UInt8) : Int := wIdx (cut1 32 s).1
def candN (s : List UInt8) : Int := whI (cut1 32 s).2.1
theorem read_yes {s : List UInt8} (h0 : s ≠ []) (h : deedL (candK s) (candN s) = s) : readL s = some (candK s, candN s) := by
  have := readL_deed (k := candK s) (n := candN s) (by rw [h]; exact h0)
  rwa [h] at this
theorem read_no {s : List UInt8} (h : deedL (candK s) (candN s) ≠ s) : readL s = none := by
  cases hr : readL s with
  | none => rfl
  | some d =>
    exfalso
    obtain ⟨e1, e2⟩ := readL_some hr
    rcases deedL_cases (by rw [e1]; exact e2) with ⟨m, hm, a1, a2, e3⟩ | ⟨j, h1, h2, a1, a2, e3⟩
    · have hs : s = [116, 111] ++ 32 :: decL m := by rw [← e1, e3]; rfl
      have hc : cut1 32 s = ([116, 111], decL m, true) := by rw [hs]; exact cut1_at (by decide) _
      apply h
      unfold candK candN
      rw [hc, wIdx_to, (whI_dec hm).1, deedL_to hm, hs]; rfl
    · have hs : s = wordL j := by rw [← e1, e3]
      have hc : cut1 32 s = (s, [], false) := cut1_no (by rw [hs]; exact (wordL_facts ⟨j, by omega⟩ (by simp; omega)).2.2.1)
      apply h
      unfold candK candN
      rw [hc, whI_nil, hs]
      show deedL (wIdx (wordL j)) 0 = wordL j
      rw [wIdx_word ⟨j, by omega⟩ (by simp; omega), deedL_word h1 h2]
theorem read_nil : readL [] = none := by rw [readL, if_pos rfl]

/-- Journals, line by line. -/
theorem rj_stop {s : List UInt8} (h : (10 : UInt8) ∉ s) : rjA [] s = ([], 0) := by
  have := rjA_line (acc := []) h []
  rw [List.append_nil, List.nil_append] at this
  rw [this, rjA]
theorem rj_line {l r : List UInt8} (h : (10 : UInt8) ∉ l) : rjA [] (l ++ 10 :: r) = (match readL l with | none => ([], 0) | some d => (d :: (rjA [] r).1, l.length + 1 + (rjA [] r).2)) := by
  rw [rjA_line h, List.nil_append, rjA, if_pos rfl]
  cases readL l <;> rfl

end Pl
end Go.Proofs.YtgkkoegfmhgcjaaDoor
