/-
  Plain facts: numbers in decimal, the words of a line, texts of deeds, journals.
-/
namespace Go.Proofs.YtgkkoegfmhgcjaaDoor
namespace Pl

/-- A text of bytes. -/
def str (l : List UInt8) : ByteArray := ⟨l.toArray⟩
theorem str_size (l : List UInt8) : (str l).size = l.length := by simp [str, ByteArray.size]
theorem str_data (l : List UInt8) : (str l).data.toList = l := rfl
theorem str_self (s : ByteArray) : str s.data.toList = s := rfl
theorem str_add (a b : List UInt8) : str a ++ str b = str (a ++ b) := by
  apply ByteArray.ext
  rw [ByteArray.data_append]
  simp [str]

/-- A number in decimal. -/
def decL (u : Nat) : List UInt8 :=
  if _h : u < 10 then [UInt8.ofNat (48 + u)] else decL (u / 10) ++ [UInt8.ofNat (48 + u % 10)]
termination_by u
decreasing_by omega
theorem decL_lt {u : Nat} (h : u < 10) : decL u = [UInt8.ofNat (48 + u)] := by rw [decL, dif_pos h]
theorem decL_ge {u : Nat} (h : ¬ u < 10) : decL u = decL (u / 10) ++ [UInt8.ofNat (48 + u % 10)] := by rw [decL, dif_neg h]

theorem dig_toNat {d : Nat} (h : d < 10) : (UInt8.ofNat (48 + d)).toNat = 48 + d := by
  simp; omega

theorem decL_len {k u : Nat} (hk : 1 ≤ k) (h : u < 10 ^ k) : (decL u).length ≤ k := by
  induction k generalizing u with
  | zero => omega
  | succ k ih =>
    by_cases hu : u < 10
    · rw [decL_lt hu]; simp
    · rw [decL_ge hu, List.length_append]
      have hk1 : 1 ≤ k := by
        rcases Nat.eq_zero_or_pos k with rfl | h'
        · simp at h; omega
        · exact h'
      have := ih hk1 (u := u / 10) (by rw [Nat.pow_succ] at h; omega)
      simp; omega
theorem decL_len13 {u : Nat} (h : u ≤ 1000000000000) : (decL u).length ≤ 13 := decL_len (by omega) (by omega)
theorem decL_pos (u : Nat) : 1 ≤ (decL u).length := by
  by_cases hu : u < 10
  · rw [decL_lt hu]; simp
  · rw [decL_ge hu]; simp
theorem decL_ne (u : Nat) : decL u ≠ [] := fun h => by have := decL_pos u; rw [h] at this; simp at this

/-- Each sign is a digit. -/
theorem decL_dig (u : Nat) : ∀ c ∈ decL u, 48 ≤ c.toNat ∧ c.toNat ≤ 57 := by
  induction u using Nat.strongRecOn with
  | _ u ih =>
    by_cases hu : u < 10
    · rw [decL_lt hu]
      intro c hc
      simp only [List.mem_singleton] at hc
      rw [hc, dig_toNat hu]; omega
    · rw [decL_ge hu]
      intro c hc
      rcases List.mem_append.1 hc with h | h
      · exact ih (u / 10) (by omega) c h
      · simp only [List.mem_singleton] at h
        rw [h, dig_toNat (by omega)]; omega

/-- The first sign is no 0, but of 0. -/
theorem decL_head {u : Nat} (h : 1 ≤ u) : ∃ c t, decL u = c :: t ∧ 49 ≤ c.toNat := by
  induction u using Nat.strongRecOn with
  | _ u ih =>
    by_cases hu : u < 10
    · exact ⟨_, [], decL_lt hu, by rw [dig_toNat hu]; omega⟩
    · obtain ⟨c, t, e, hc⟩ := ih (u / 10) (by omega) (by omega)
      exact ⟨c, t ++ [UInt8.ofNat (48 + u % 10)], by rw [decL_ge hu, e]; rfl, hc⟩

/-- The number of a row of signs. -/
def valL (l : List UInt8) : Nat := l.foldl (fun n c => 10 * n + (c.toNat - 48)) 0
theorem valL_snoc (l : List UInt8) (c : UInt8) : valL (l ++ [c]) = 10 * valL l + (c.toNat - 48) := by simp [valL]
theorem valL_dec (u : Nat) : valL (decL u) = u := by
  induction u using Nat.strongRecOn with
  | _ u ih =>
    by_cases hu : u < 10
    · rw [decL_lt hu, valL, List.foldl_cons, List.foldl_nil, dig_toNat hu]; omega
    · rw [decL_ge hu, valL_snoc, ih (u / 10) (by omega), dig_toNat (by omega)]; omega
theorem valF_lt : ∀ (l : List UInt8) (a : Nat), (∀ c ∈ l, c.toNat ≤ 57) → l.foldl (fun n c => 10 * n + (c.toNat - 48)) a < (a + 1) * 10 ^ l.length := by
  intro l
  induction l with
  | nil => intro a _; simp
  | cons c t ih =>
    intro a h
    have h1 := ih (10 * a + (c.toNat - 48)) fun d hd => h d (List.mem_cons_of_mem _ hd)
    have h2 := h c (List.mem_cons_self)
    rw [List.foldl_cons, List.length_cons, Nat.pow_succ]
    refine Nat.lt_of_lt_of_le h1 ?_
    rw [← Nat.mul_assoc, Nat.mul_right_comm]
    exact Nat.mul_le_mul_right _ (by omega)
theorem valL_lt (l : List UInt8) (h : ∀ c ∈ l, c.toNat ≤ 57) : valL l < 10 ^ l.length := by
  have := valF_lt l 0 h
  rwa [Nat.zero_add, Nat.one_mul] at this

/-- Whether each sign is a digit. -/
def digB (l : List UInt8) : Bool := l.all fun c => decide (48 ≤ c.toNat) && decide (c.toNat ≤ 57)
theorem digB_iff (l : List UInt8) : digB l = true ↔ ∀ c ∈ l, 48 ≤ c.toNat ∧ c.toNat ≤ 57 := by simp [digB]
/-- A text of 1 to 10 digits, none 0 ahead. -/
def numB (s : List UInt8) : Bool := decide (1 ≤ s.length) && decide (s.length ≤ 10) && !(decide (1 < s.length) && (s.head? == some 48)) && digB s
/-- The number of such a text, if it is one; -1 for others. -/
def readN (s : List UInt8) : Int := if numB s = true ∧ valL s ≤ 1000000000 then ((valL s : Nat) : Int) else -1

theorem numB_dec {u : Nat} (h : u < 10000000000) : numB (decL u) = true := by
  have h1 := decL_pos u
  have h2 := decL_len (k := 10) (u := u) (by omega) (by simpa using h)
  have h3 := (digB_iff (decL u)).2 (decL_dig u)
  have h4 : (decide (1 < (decL u).length) && ((decL u).head? == some 48)) = false := by
    by_cases hu : u < 10
    · rw [decL_lt hu]; simp
    · obtain ⟨c, t, e, hc⟩ := decL_head (u := u) (by omega)
      have : (some c == some (48 : UInt8)) = false := by
        rw [beq_eq_false_iff_ne]
        intro hh
        obtain rfl := Option.some.inj hh
        revert hc; decide
      rw [e, List.head?_cons, this, Bool.and_false]
  unfold numB
  rw [h3, h4]
  simp; omega
theorem readN_dec {u : Nat} (h : u ≤ 1000000000) : readN (decL u) = (u : Int) := by
  rw [readN, valL_dec, if_pos ⟨numB_dec (by omega), h⟩]
theorem readN_le (s : List UInt8) : -1 ≤ readN s ∧ readN s ≤ 1000000000 := by
  unfold readN
  split
  · omega
  · omega

/-- What stands between the signs sep. -/
def cutL (sep : UInt8) : List UInt8 → List (List UInt8)
  | [] => [[]]
  | c :: t => if c = sep then [] :: cutL sep t else match cutL sep t with | [] => [[c]] | h :: r => (c :: h) :: r
theorem cutL_ne (sep : UInt8) (s : List UInt8) : cutL sep s ≠ [] := by
  cases s with
  | nil => simp [cutL]
  | cons c t =>
    rw [cutL]
    split
    · simp
    · split <;> simp
theorem cutL_one {sep : UInt8} {s : List UInt8} (h : sep ∉ s) : cutL sep s = [s] := by
  induction s with
  | nil => rfl
  | cons c t ih =>
    rw [List.mem_cons, not_or] at h
    rw [cutL, if_neg (fun e => h.1 e.symm), ih h.2]
theorem cutL_at {sep : UInt8} {l : List UInt8} (h : sep ∉ l) (r : List UInt8) : cutL sep (l ++ sep :: r) = l :: cutL sep r := by
  induction l with
  | nil => rw [List.nil_append, cutL, if_pos rfl]
  | cons c t ih =>
    rw [List.mem_cons, not_or] at h
    rw [List.cons_append, cutL, if_neg (fun e => h.1 e.symm), ih h.2]
theorem cutL_len (sep : UInt8) (s : List UInt8) : (cutL sep s).length ≤ s.length + 1 := by
  induction s with
  | nil => simp [cutL]
  | cons c t ih =>
    have := cutL_ne sep t
    rw [cutL]
    split
    · simp; omega
    · split
      · simp
      · rename_i h r e
        rw [e] at ih; simp at ih ⊢; omega

/-- The words of the deeds but for the first kind. -/
def wordL : Nat → List UInt8
  | 1 => [115, 117, 109]
  | 2 => [112, 114, 111, 100, 117, 99, 116]
  | 3 => [115, 113, 117, 97, 114, 101, 115]
  | 4 => [116, 117, 114, 110]
  | 5 => [97, 100, 100]
  | 6 => [109, 97, 107, 101]
  | 7 => [98, 97, 99, 107]
  | _ => []
/-- The text of a deed; empty for others. -/
def deedL (k n : Int) : List UInt8 :=
  if k = 0 ∧ 0 ≤ n ∧ n ≤ 1000000000 then [116, 111, 32] ++ decL n.toNat
  else if 1 ≤ k ∧ k ≤ 7 ∧ n = 0 then wordL k.toNat else []
theorem deedL_to {n : Nat} (h : n ≤ 1000000000) : deedL 0 n = [116, 111, 32] ++ decL n := by rw [deedL, if_pos ⟨rfl, by omega, by omega⟩]; rfl
theorem deedL_word {k : Nat} (h1 : 1 ≤ k) (h2 : k ≤ 7) : deedL k 0 = wordL k := by rw [deedL, if_neg (by omega), if_pos ⟨by omega, by omega, rfl⟩]; rfl
theorem deedL_no {k n : Int} (h1 : ¬ (k = 0 ∧ 0 ≤ n ∧ n ≤ 1000000000)) (h2 : ¬ (1 ≤ k ∧ k ≤ 7 ∧ n = 0)) : deedL k n = [] := by rw [deedL, if_neg h1, if_neg h2]
theorem wordL_facts : ∀ k : Fin 8, k.val ≠ 0 → wordL k.val ≠ [] ∧ 10 ∉ wordL k.val ∧ 32 ∉ wordL k.val ∧ (wordL k.val).length ≤ 7 := by decide
theorem wordL_inj : ∀ k j : Fin 8, k.val ≠ 0 → wordL k.val = wordL j.val → k = j := by decide

/-- A deed has a text just if it is one of the two kinds. -/
theorem deedL_cases {k n : Int} (h : deedL k n ≠ []) : (∃ m : Nat, m ≤ 1000000000 ∧ k = 0 ∧ n = (m : Int) ∧ deedL k n = [116, 111, 32] ++ decL m) ∨ (∃ j : Nat, 1 ≤ j ∧ j ≤ 7 ∧ k = (j : Int) ∧ n = 0 ∧ deedL k n = wordL j) := by
  by_cases h1 : k = 0 ∧ 0 ≤ n ∧ n ≤ 1000000000
  · left
    refine ⟨n.toNat, by omega, h1.1, by omega, ?_⟩
    rw [deedL, if_pos h1]
  · by_cases h2 : 1 ≤ k ∧ k ≤ 7 ∧ n = 0
    · right
      refine ⟨k.toNat, by omega, by omega, by omega, h2.2.2, ?_⟩
      rw [deedL, if_neg h1, if_pos h2]
    · exact absurd (deedL_no h1 h2) h
theorem decL_not {c : UInt8} (h : ¬ (48 ≤ c.toNat ∧ c.toNat ≤ 57)) (u : Nat) : c ∉ decL u := fun hc => h (decL_dig u c hc)
theorem deedL_line (k n : Int) : (10 : UInt8) ∉ deedL k n := by
  by_cases h : deedL k n = []
  · rw [h]; simp
  · rcases deedL_cases h with ⟨m, _, _, _, e⟩ | ⟨j, h1, h2, _, _, e⟩
    · rw [e]
      intro hc
      rcases List.mem_append.1 hc with hc | hc
      · revert hc; decide
      · exact decL_not (by decide) m hc
    · rw [e]; exact (wordL_facts ⟨j, by omega⟩ (by simp; omega)).2.1
theorem deedL_len (k n : Int) : (deedL k n).length ≤ 13 := by
  by_cases h : deedL k n = []
  · rw [h]; simp
  · rcases deedL_cases h with ⟨m, hm, _, _, e⟩ | ⟨j, h1, h2, _, _, e⟩
    · rw [e, List.length_append]
      have := decL_len (k := 10) (u := m) (by omega) (by omega)
      simp; omega
    · rw [e]
      have := (wordL_facts ⟨j, by omega⟩ (by simp; omega)).2.2.2
      simp at this; omega
/-- The last sign of a text is no space. -/
theorem deedL_end {k n : Int} {s : List UInt8} : deedL k n ≠ s ++ [32] := by
  intro e
  have h : deedL k n ≠ [] := by rw [e]; simp
  rcases deedL_cases h with ⟨m, _, _, _, e'⟩ | ⟨j, h1, h2, _, _, e'⟩
  · rw [e'] at e
    by_cases hm : m < 10
    · rw [decL_lt hm] at e
      have := List.append_inj_right' e rfl
      have h2 : UInt8.ofNat (48 + m) = 32 := by simpa using this
      have := congrArg UInt8.toNat h2
      rw [dig_toNat hm] at this
      simp at this; omega
    · rw [decL_ge hm, ← List.append_assoc] at e
      have := List.append_inj_right' e rfl
      have h2 : UInt8.ofNat (48 + m % 10) = 32 := by simpa using this
      have := congrArg UInt8.toNat h2
      rw [dig_toNat (by omega)] at this
      simp at this; omega
  · have := (wordL_facts ⟨j, by omega⟩ (by simp; omega)).2.2.1
    rw [e'] at e
    apply this
    show 32 ∈ wordL j
    rw [e]; simp
theorem wordL_to : ∀ k : Fin 8, (wordL k.val).take 3 ≠ [116, 111, 32] := by decide
/-- One text has one deed. -/
theorem deedL_inj {k n k' n' : Int} (h : deedL k n ≠ []) (e : deedL k n = deedL k' n') : k = k' ∧ n = n' := by
  have h' : deedL k' n' ≠ [] := e ▸ h
  rcases deedL_cases h with ⟨m, hm, a1, a2, e1⟩ | ⟨j, h1, h2, a1, a2, e1⟩
  · rcases deedL_cases h' with ⟨m', hm', b1, b2, e2⟩ | ⟨j', h1', h2', b1, b2, e2⟩
    · rw [e1, e2] at e
      have hd := List.append_cancel_left e
      have := congrArg valL hd
      rw [valL_dec, valL_dec] at this
      exact ⟨by rw [a1, b1], by rw [a2, b2, this]⟩
    · rw [e1, e2] at e
      exact absurd (by rw [← e]; rfl) (wordL_to ⟨j', by omega⟩)
  · rcases deedL_cases h' with ⟨m', hm', b1, b2, e2⟩ | ⟨j', h1', h2', b1, b2, e2⟩
    · rw [e1, e2] at e
      exact absurd (by rw [e]; rfl) (wordL_to ⟨j, by omega⟩)
    · rw [e1, e2] at e
      have := wordL_inj ⟨j, by omega⟩ ⟨j', by omega⟩ (by simp; omega) e
      have : j = j' := by simpa using congrArg Fin.val this
      exact ⟨by rw [a1, b1, this], by rw [a2, b2]⟩

/-- The deeds whose text a text may be. -/
def candL (s : List UInt8) : List (Int × Int) :=
  ([(1, 0), (2, 0), (3, 0), (4, 0), (5, 0), (6, 0), (7, 0)] : List (Int × Int)) ++ (match cutL 32 s with | [_, b] => [((0 : Int), readN b)] | _ => [])
/-- The deed whose text a text is. -/
def readL (s : List UInt8) : Option (Int × Int) := if s = [] then none else (candL s).find? fun d => deedL d.1 d.2 == s
theorem readL_some {s : List UInt8} {d : Int × Int} (h : readL s = some d) : deedL d.1 d.2 = s ∧ s ≠ [] := by
  unfold readL at h
  split at h
  · cases h
  · rename_i hs
    exact ⟨by simpa using List.find?_some h, hs⟩
theorem readL_deed {k n : Int} (h : deedL k n ≠ []) : readL (deedL k n) = some (k, n) := by
  have hmem : (k, n) ∈ candL (deedL k n) := by
    unfold candL
    rw [List.mem_append]
    rcases deedL_cases h with ⟨m, hm, a1, a2, e1⟩ | ⟨j, h1, h2, a1, a2, e1⟩
    · right
      have hc : cutL 32 ([116, 111, 32] ++ decL m) = [[116, 111], decL m] := by
        have : ([116, 111, 32] : List UInt8) ++ decL m = [116, 111] ++ 32 :: decL m := rfl
        rw [this, cutL_at (by decide), cutL_one (decL_not (by decide) m)]
      rw [e1, hc, a1, a2]
      simp [readN_dec hm]
    · left
      rw [a1, a2]
      have : j = 1 ∨ j = 2 ∨ j = 3 ∨ j = 4 ∨ j = 5 ∨ j = 6 ∨ j = 7 := by omega
      rcases this with rfl | rfl | rfl | rfl | rfl | rfl | rfl <;> simp
  unfold readL
  rw [if_neg h]
  have hsome : ((candL (deedL k n)).find? fun d => deedL d.1 d.2 == deedL k n).isSome = true := by
    rw [List.find?_isSome]; exact ⟨(k, n), hmem, by simp⟩
  obtain ⟨d, hd⟩ := Option.isSome_iff_exists.1 hsome
  rw [hd]
  have h2 : deedL d.1 d.2 = deedL k n := by simpa using List.find?_some hd
  obtain ⟨e1, e2⟩ := deedL_inj h h2.symm
  rw [e1, e2]
theorem readL_space {s : List UInt8} : readL (s ++ [32]) = none := by
  cases h : readL (s ++ [32]) with
  | none => rfl
  | some d => exact absurd (readL_some h).1 deedL_end

/-- The text of a journal; empty if one deed has no text. -/
def textL : List (Int × Int) → List UInt8
  | [] => []
  | d :: r => deedL d.1 d.2 ++ [10] ++ textL r
def toldB (ds : List (Int × Int)) : Bool := ds.all fun d => deedL d.1 d.2 != []
def journalL (ds : List (Int × Int)) : List UInt8 := if toldB ds = true then textL ds else []
theorem textL_snoc (ds : List (Int × Int)) (d : Int × Int) : textL (ds ++ [d]) = textL ds ++ (deedL d.1 d.2 ++ [10]) := by
  induction ds with
  | nil => simp [textL]
  | cons a t ih => rw [List.cons_append, textL, textL, ih]; simp [List.append_assoc]
theorem textL_len (ds : List (Int × Int)) : (textL ds).length ≤ 14 * ds.length := by
  induction ds with
  | nil => simp [textL]
  | cons a t ih =>
    have := deedL_len a.1 a.2
    rw [textL]; simp; omega

/-- The deeds of the lines ahead, and their bytes; acc: what stands already in the line. -/
def rjA (acc : List UInt8) : List UInt8 → List (Int × Int) × Nat
  | [] => ([], 0)
  | c :: t => if c = 10 then (match readL acc with | none => ([], 0) | some d => (d :: (rjA [] t).1, acc.length + 1 + (rjA [] t).2)) else rjA (acc ++ [c]) t
theorem rjA_line {acc l : List UInt8} (h : (10 : UInt8) ∉ l) (t : List UInt8) : rjA acc (l ++ t) = rjA (acc ++ l) t := by
  induction l generalizing acc with
  | nil => simp
  | cons c r ih =>
    rw [List.mem_cons, not_or] at h
    rw [List.cons_append, rjA, if_neg (fun e => h.1 e.symm), ih h.2]
    simp [List.append_assoc]
theorem rjA_text {ds : List (Int × Int)} (h : toldB ds = true) : rjA [] (textL ds) = (ds, (textL ds).length) := by
  induction ds with
  | nil => rfl
  | cons d t ih =>
    simp only [toldB, List.all_cons, Bool.and_eq_true, bne_iff_ne] at h
    have ih' := ih (by simpa [toldB] using h.2)
    rw [textL, List.append_assoc, rjA_line (deedL_line _ _), List.nil_append, List.singleton_append, rjA, if_pos rfl, readL_deed h.1]
    simp only [ih']
    simp
    omega
theorem rjA_told (acc s : List UInt8) : toldB (rjA acc s).1 = true ∧ (rjA acc s).2 ≤ acc.length + s.length ∧ textL (rjA acc s).1 = (acc ++ s).take (rjA acc s).2 := by
  induction s generalizing acc with
  | nil => simp [rjA, toldB, textL]
  | cons c t ih =>
    rw [rjA]
    split
    · rename_i hc
      split
      · simp [toldB, textL]
      · rename_i d hd
        obtain ⟨h1, h2, h3⟩ := ih []
        obtain ⟨e1, e2⟩ := readL_some hd
        refine ⟨?_, ?_, ?_⟩
        · simp only [toldB, List.all_cons, Bool.and_eq_true, bne_iff_ne]
          exact ⟨by rw [e1]; exact e2, by simpa [toldB] using h1⟩
        · simp at h2 ⊢; omega
        · rw [textL, e1, h3, hc, List.nil_append]
          have : acc ++ 10 :: t = (acc ++ [10]) ++ t := by simp
          rw [this, show acc.length + 1 + (rjA [] t).2 = (acc ++ [10]).length + (rjA [] t).2 by simp, List.take_length_add_append]
    · obtain ⟨h1, h2, h3⟩ := ih (acc ++ [c])
      refine ⟨h1, by simp at h2 ⊢; omega, ?_⟩
      rw [h3]; simp [List.append_assoc]
/-- Of a beginning the first ones are read. -/
theorem rjA_take (acc s : List UInt8) (k : Nat) : (rjA acc (s.take k)).1 <+: (rjA acc s).1 ∧ (rjA acc (s.take k)).2 ≤ acc.length + k := by
  induction s generalizing acc k with
  | nil => simp [rjA]
  | cons c t ih =>
    cases k with
    | zero => simp [rjA]
    | succ k =>
      rw [List.take_succ_cons, rjA, rjA]
      split
      · split
        · simp
        · obtain ⟨h1, h2⟩ := ih [] k
          refine ⟨?_, ?_⟩
          · exact List.prefix_cons_inj .. |>.2 h1
          · simp at h2 ⊢; omega
      · obtain ⟨h1, h2⟩ := ih (acc ++ [c]) k
        exact ⟨h1, by simp at h2; omega⟩

end Pl
end Go.Proofs.YtgkkoegfmhgcjaaDoor
