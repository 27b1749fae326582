/-
  Plain facts: lines of text for a desk, and their answers.
-/
import Derived.Lib.Join
import Derived.Test.YtgkkoegfmhgcjaaGreatDoorGDesk
import Derived.Test.YtgkkoegfmhgcjaaGreatDoorGPlain
import Derived.Test.YtgkkoegfmhgcjaaGreatDoorGRound
namespace Go.Proofs.YtgkkoegfmhgcjaaGreatDoor
namespace Pl

/-- A number in decimal. -/
def decI (n : Int) : List UInt8 := decL n.toNat
theorem decI_nat (u : Nat) : decI (u : Int) = decL u := rfl
/-- Numbers that are told in decimal. -/
def Few (xs : List Int) : Prop := ∀ x ∈ xs, 0 ≤ x ∧ x ≤ 1000000000
def commaL (xs : List Int) : List UInt8 := Lib.join (xs.map decI) [44]
def noneW : List UInt8 := [110, 111, 110, 101]
def rowT (xs : List Int) : List UInt8 := if xs = [] then noneW else commaL xs
def yesW : List UInt8 := [121, 101, 115]
def noW : List UInt8 := [110, 111]
def saidL (b : Bool) : List UInt8 := if b = true then yesW else noW
def whatW : List UInt8 := [119, 104, 97, 116]
def okW : List UInt8 := [111, 107]
def notW : List UInt8 := [110, 111, 116]
def carriesW : List UInt8 := [99, 97, 114, 114, 105, 101, 115]
def oneW : List UInt8 := [111, 110, 101]
/-- The questions of one word. -/
def askW : List (List UInt8) := [[110, 117, 109, 98, 101, 114], [100, 105, 103, 105, 116, 115], [114, 111, 111, 116], [114, 111, 117, 110, 100], [104, 97, 112, 112, 121], [112, 97, 108, 105, 110, 100, 114, 111, 109, 101], [115, 101, 108, 102], [112, 101, 114, 115, 105, 115, 116, 115], [110, 111, 117, 103, 104, 116, 115], [115, 116, 101, 112, 115]]
/-- .. and how a number is told of. -/
def ask1 (d : Dk) : Nat → List UInt8
  | 0 => decI d.n
  | 1 => commaL (digA d.n d.b)
  | 2 => decI (rootI d.n d.b)
  | 3 => commaL (roundA d.n 2 d.b)
  | 4 => saidL (happyB d.n d.b)
  | 5 => saidL (palB d.n d.b)
  | 6 => saidL (selfB d.n d.b)
  | 7 => decI (peK (persA d.n d.b))
  | 8 => decI (nouI d.n d.b)
  | _ => if stB (stpA d.n d.b) = true then decI (stK (stpA d.n d.b)) else noneW
/-- The questions with a number behind. -/
def ask2 (d : Dk) (w : List UInt8) (m : Int) : List UInt8 :=
  if w = carriesW then decI (carI d.n m d.b) else if w = oneW then rowT (roundP 1 m d.b) else whatW
def restL (d : Dk) (line : List UInt8) : List UInt8 := if whB (cut1 32 line).2.1 = true then ask2 d (cut1 32 line).1 (whI (cut1 32 line).2.1) else whatW
/-- The answer of a desk to a line that is no deed. -/
def ansL (d : Dk) (line : List UInt8) : List UInt8 := match askW.findIdx? (· == line) with
  | some i => ask1 d i
  | none => restL d line
/-- A desk after a line, and the answer. -/
def lineA (d : Dk) (line : List UInt8) : Dk × List UInt8 :=
  if dkB d = true then (match readL line with
    | some a => ((doA d a.1 a.2).1, if (doA d a.1 a.2).2 = true then okW else notW)
    | none => (d, ansL d line))
  else (dk0, [])
theorem lineA_no {d : Dk} (h : ¬ dkB d = true) (line : List UInt8) : lineA d line = (dk0, []) := by rw [lineA, if_neg h]
theorem lineA_deed {d : Dk} (h : dkB d = true) {line : List UInt8} {a : Int × Int} (hr : readL line = some a) : lineA d line = ((doA d a.1 a.2).1, if (doA d a.1 a.2).2 = true then okW else notW) := by
  rw [lineA, if_pos h, hr]
theorem lineA_ask {d : Dk} (h : dkB d = true) {line : List UInt8} (hr : readL line = none) : lineA d line = (d, ansL d line) := by
  rw [lineA, if_pos h, hr]

theorem ansL_ask (d : Dk) : ∀ i : Fin 10, ansL d (askW[i.val]?.getD []) = ask1 d i.val := by
  intro i
  have : askW.findIdx? (· == askW[i.val]?.getD []) = some i.val := by revert i; decide
  rw [ansL, this]
theorem ask_or (line : List UInt8) : (∃ i : Fin 10, line = askW[i.val]?.getD []) ∨ ((∀ i : Fin 10, line ≠ askW[i.val]?.getD []) ∧ askW.findIdx? (· == line) = none) := by
  by_cases h : line ∈ askW
  · obtain ⟨i, hi⟩ := List.mem_iff_getElem?.1 h
    have hlt : i < 10 := by have := (List.getElem?_eq_some_iff.1 hi).1; simpa [askW] using this
    exact .inl ⟨⟨i, hlt⟩, by simp only [hi, Option.getD_some]⟩
  · refine .inr ⟨fun i e => h ?_, ?_⟩
    · have hlt : i.val < askW.length := i.isLt
      rw [e, List.getElem?_eq_getElem hlt, Option.getD_some]
      exact List.getElem_mem _
    · rw [List.findIdx?_eq_none_iff]
      intro x hx
      rw [beq_eq_false_iff_ne]
      rintro rfl
      exact h hx
theorem ansL_rest (d : Dk) {line : List UInt8} (h : askW.findIdx? (· == line) = none) : ansL d line = restL d line := by rw [ansL, h]

/-! ### words of a line -/
theorem numB_space {s : List UInt8} (h : (32 : UInt8) ∈ s) : readN s = -1 := by
  refine Classical.byContradiction fun hn => ?_
  have h0 : 0 ≤ readN s := by
    have := readN_le s; omega
  obtain ⟨u, _, _, hs⟩ := readN_yes h0
  rw [hs] at h
  exact decL_not (by decide) u h
theorem cutL_two (line : List UInt8) : ((cutL 32 line).length = 2 ∧ 0 ≤ readN ((cutL 32 line)[1]?.getD [])) ↔ whB (cut1 32 line).2.1 = true := by
  rcases cut1_cases 32 line with ⟨h1, h2⟩ | ⟨l, r, h1, h2, h3⟩
  · rw [h2, cutL_one h1]
    have : readN [] = -1 := by decide
    simp [whB, this]
  · rw [h3, h2, cutL_at h1]
    by_cases hr : (32 : UInt8) ∈ r
    · have e := numB_space hr
      have : whB r = false := by simp [whB, e]
      rw [this]
      refine ⟨fun h => ?_, fun h => by cases h⟩
      exfalso
      obtain ⟨l', r', h4, h5, _⟩ := (cut1_cases 32 r).resolve_left (fun h => h.1 hr)
      rw [h5, cutL_at h4] at h
      have h6 := cutL_ne 32 r'
      have h7 : 1 ≤ (cutL 32 r').length := List.length_pos_iff.2 h6
      have h8 := h.1
      simp only [List.length_cons] at h8
      omega
    · rw [cutL_one hr]
      simp [whB]
theorem cutL_two_words {line : List UInt8} (h : (cutL 32 line).length = 2) : (cutL 32 line)[0]?.getD [] = (cut1 32 line).1 ∧ (cutL 32 line)[1]?.getD [] = (cut1 32 line).2.1 := by
  rcases cut1_cases 32 line with ⟨h1, h2⟩ | ⟨l, r, h1, h2, h3⟩
  · rw [cutL_one h1] at h; simp at h
  · rw [h3]
    rw [h2, cutL_at h1] at h
    rw [h2, cutL_at h1]
    by_cases hr : (32 : UInt8) ∈ r
    · exfalso
      obtain ⟨l', r', h4, h5, _⟩ := (cut1_cases 32 r).resolve_left (fun h => h.1 hr)
      rw [h5, cutL_at h4] at h
      have h7 : 1 ≤ (cutL 32 r').length := List.length_pos_iff.2 (cutL_ne 32 r')
      simp only [List.length_cons] at h
      omega
    · rw [cutL_one hr]; simp
theorem whI_read {s : List UInt8} (h : whB s = true) : whI s = readN s ∧ 0 ≤ readN s ∧ readN s ≤ 1000000000 := by
  have h0 : 0 ≤ readN s := by simpa [whB] using h
  exact ⟨by rw [whI, if_pos h0], h0, (readN_le s).2⟩
/-- What the model asks of the words, in the program's words. -/
theorem restL_no (d : Dk) {line : List UInt8} (h : ¬ ((cutL 32 line).length = 2 ∧ 0 ≤ readN ((cutL 32 line)[1]?.getD []))) : restL d line = whatW := by
  rw [cutL_two] at h; rw [restL, if_neg h]
theorem restL_yes (d : Dk) {line : List UInt8} (h : (cutL 32 line).length = 2 ∧ 0 ≤ readN ((cutL 32 line)[1]?.getD [])) : restL d line = ask2 d ((cutL 32 line)[0]?.getD []) (readN ((cutL 32 line)[1]?.getD [])) := by
  have h2 := (cutL_two line).1 h
  obtain ⟨e0, e1⟩ := cutL_two_words h.1
  rw [restL, if_pos h2, (whI_read h2).1, e0, e1]

/-! ### bounds -/
theorem okB_whole {n b : Int} (h : okB n b = true) : 0 ≤ n ∧ n ≤ 1000000000 := ((okB_iff n b).1 h).2
theorem decI_len {n : Int} (h : n ≤ 1000000000000) : (decI n).length ≤ 13 := decL_len13 (by omega)
theorem decI_ne (n : Int) : decI n ≠ [] := decL_ne _
theorem root_bnd {n b : Int} (h : okB n b = true) : 0 ≤ rootI n b ∧ rootI n b ≤ 1000000000 := by
  obtain ⟨x, k, rfl, rfl, b1, b2, x1⟩ := okB_nat h
  rw [rootI_yes x k h]
  have := rootN_digit b1 x
  omega
theorem pers_bnd {n b : Int} (h : okB n b = true) : 0 ≤ peK (persA n b) ∧ peK (persA n b) ≤ 1000000000 := by
  obtain ⟨x, k, rfl, rfl, b1, b2, x1⟩ := okB_nat h
  rw [persA_yes x k h]
  have := persN_le b1 x
  simp only [peK]; omega
theorem stp_bnd : ∀ (f b n : Nat) (q : Nat × Nat), stpN b f n = some q → q.1 ≤ f := by
  intro f
  induction f with
  | zero => intro b n q h; simp [stpN] at h
  | succ f ih =>
    intro b n q h
    rw [stpN] at h
    split at h
    · cases h; exact Nat.zero_le _
    · split at h
      · cases h2 : stpN b f (n + turnN b n) with
        | none => rw [h2] at h; cases h
        | some q' =>
          rw [h2] at h
          cases h
          have := ih b _ q' h2
          simp only; omega
      · cases h
theorem steps_bnd {n b : Int} (h : okB n b = true) (h2 : stB (stpA n b) = true) : 0 ≤ stK (stpA n b) ∧ stK (stpA n b) ≤ 1000000001 := by
  obtain ⟨x, k, rfl, rfl, b1, b2, x1⟩ := okB_nat h
  rw [stpA_yes x k h] at h2 ⊢
  cases hq : stepsO k x with
  | none => rw [hq] at h2; cases h2
  | some q =>
    have := stp_bnd _ _ _ q hq
    simp only [stK]; omega
theorem oftK_bnd (p : Nat) : ∀ f n, oftK p f n ≤ f * n := by
  intro f
  induction f with
  | zero => intro n; simp [oftK]
  | succ f ih =>
    intro n
    rw [oftK]
    have h1 := ih (n / p)
    have h2 := Nat.div_le_self n p
    have h3 := Nat.mul_le_mul_left f h2
    rw [Nat.succ_mul]
    omega
theorem less2_le (x y : Nat) : less2 x y ≤ x := by unfold less2; split <;> omega
theorem ite_le (c : Prop) [Decidable c] {x y C : Nat} (h1 : x ≤ C) (h2 : y ≤ C) : (if c then x else y) ≤ C := by split <;> assumption
theorem nouT_const (C b : Nat) : nouT (fun _ => C) b ≤ C := by
  have h1 : ∀ k, C / k ≤ C := fun k => Nat.div_le_self _ _
  have h2 : ∀ k j, less2 (C / k) (C / j) ≤ C := fun k j => Nat.le_trans (less2_le _ _) (h1 k)
  unfold nouT
  repeat' (apply ite_le)
  all_goals first | exact h1 _ | exact h2 _ _
theorem nou_bnd {n b : Int} (h : okB n b = true) : 0 ≤ nouI n b ∧ nouI n b ≤ 100000000000 := by
  obtain ⟨x, k, rfl, rfl, b1, b2, x1⟩ := okB_nat h
  rw [nouI_yes h]
  have h1 := nou_mono (O := fun p => oftN p x) (P := fun _ => 30000000000) (fun p => by
    have := oftK_bnd p 30 x
    have h2 : 30 * x ≤ 30 * 1000000000 := Nat.mul_le_mul_left 30 (by omega)
    show oftN p x ≤ 30000000000
    unfold oftN; omega) k
  have h2 := nouT_const 30000000000 k
  omega
theorem carK_bnd (b : Nat) : ∀ f n m c, carK b f n m c ≤ f := by
  intro f
  induction f with
  | zero => intro n m c; simp [carK]
  | succ f ih =>
    intro n m c
    rw [carK]
    split
    · exact Nat.zero_le _
    · split
      · have := ih (n / b) (m / b) 1; omega
      · have := ih (n / b) (m / b) 0; omega
theorem car_bnd {n m b : Int} (h : okB n b = true) (hm : 0 ≤ m ∧ m ≤ 1000000000) : 0 ≤ carI n m b ∧ carI n m b ≤ 30 := by
  obtain ⟨x, k, rfl, rfl, b1, b2, x1⟩ := okB_nat h
  obtain ⟨y, rfl⟩ := Int.eq_ofNat_of_zero_le hm.1
  have hy : okB y k = true := by rw [okB_iff] at h ⊢; exact ⟨h.1, hm⟩
  rw [carI_yes h hy]
  have := carK_bnd k 30 x y 0
  unfold carN; omega
theorem dig_few {n b : Int} (h : okB n b = true) : Few (digA n b) ∧ digA n b ≠ [] := by
  obtain ⟨x, k, rfl, rfl, b1, b2, x1⟩ := okB_nat h
  rw [digA_yes x k h]
  refine ⟨fun y hy => ?_, fun e => ?_⟩
  · obtain ⟨z, hz, rfl⟩ := List.mem_map.1 hy
    have := digsR_mem b1 x z (by simpa [digs] using hz)
    exact ⟨Int.natCast_nonneg _, by omega⟩
  · have h1 := digsR_pos k x
    have h2 := digI_len k x
    rw [e] at h2; simp at h2; omega
theorem okT_two {n b : Int} (h : okB n b = true) : okT n 2 b = true := by
  have h1 := (okB_iff n b).1 h
  rw [okT, Bool.and_eq_true]
  refine ⟨(ruleB_iff 2 b).2 ⟨h1.1, by omega, by omega⟩, h⟩
theorem round_few {n b : Int} (h : okB n b = true) : Few (roundA n 2 b) ∧ roundA n 2 b ≠ [] := by
  have h2 := okT_two h
  obtain ⟨x, s, k, rfl, hs, rfl, hR, hx⟩ := okT_nat h2
  obtain rfl : s = 2 := by omega
  rw [show (2 : Int) = ((2 : Nat) : Int) from rfl] at h2 ⊢
  rw [roundA_yes x 2 k h2]
  obtain ⟨hr, hl, hle⟩ := next_round hR hx
  refine ⟨fun y hy => ?_, fun e => hr.pos ?_⟩
  · obtain ⟨z, hz, rfl⟩ := List.mem_map.1 hy
    have := hle z hz
    exact ⟨Int.natCast_nonneg _, by omega⟩
  · exact List.map_eq_nil_iff.1 e
theorem over_few (u b : Int) : Few (roundP 1 u b) ∧ (roundP 1 u b).length ≤ 200 := by
  by_cases h : overB 1 u b = true
  · obtain ⟨y, v, k, hy, rfl, rfl, h1, h2, h3, h4, h5, _⟩ := overB_nat h
    obtain rfl : y = 1 := by omega
    rw [show (1 : Int) = ((1 : Nat) : Int) from rfl] at h ⊢
    rw [roundP_yes h]
    refine ⟨fun z hz => ?_, ?_⟩
    · obtain ⟨c, hc, rfl⟩ := List.mem_map.1 hz
      obtain ⟨i, _, rfl⟩ := List.mem_map.1 hc
      have := digitN_lt (b := k) (u := v) (x := 1) (k := i) (by omega) (by omega)
      exact ⟨Int.natCast_nonneg _, by omega⟩
    · rw [List.length_map, roundD_len]
      have := (periodN_per (b := k) (u := v) (by omega) h5).2.1
      omega
  · rw [roundP_no h]; refine ⟨fun x hx => ?_, Nat.zero_le _⟩; cases hx
theorem comma_len {xs : List Int} (h : Few xs) : (commaL xs).length ≤ 14 * xs.length := by
  cases xs with
  | nil => simp [commaL, Lib.join_nil]
  | cons x r =>
    have key : ∀ l : List Int, Few l → Lib.lens (l.map decI) ≤ 13 * l.length := by
      intro l
      induction l with
      | nil => intro _; simp [Lib.lens]
      | cons y l ih =>
        intro hl
        have h1 := ih (fun z hz => hl z (List.mem_cons_of_mem _ hz))
        have h2 := decI_len (n := y) (by have := (hl y (by simp)).2; omega)
        simp only [Lib.lens, List.map_cons, List.sum_cons, List.length_cons] at h1 ⊢
        omega
    have h1 := key (x :: r) h
    rw [commaL, List.map_cons, Lib.join_length]
    simp only [List.map_cons, List.length_cons, List.length_map, List.length_nil] at h1 ⊢
    omega
theorem comma_ne {xs : List Int} (h : xs ≠ []) : commaL xs ≠ [] := by
  cases xs with
  | nil => exact absurd rfl h
  | cons x r =>
    rw [commaL, List.map_cons, Lib.join_cons]
    intro e
    exact decI_ne x (List.append_eq_nil_iff.1 e).1
theorem join_snoc (sep : List UInt8) (xs : List (List UInt8)) (y : List UInt8) (h : xs ≠ []) : Lib.join (xs ++ [y]) sep = Lib.join xs sep ++ (sep ++ y) := by
  cases xs with
  | nil => exact absurd rfl h
  | cons x r => rw [List.cons_append, Lib.join_cons, Lib.join_cons]; simp [Lib.joinTail]
end Pl
end Go.Proofs.YtgkkoegfmhgcjaaGreatDoor
