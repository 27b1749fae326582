/-
  Plain facts: numbers of a width: their digits with noughts ahead, how often each comes, put in order; digits put in order make at least, or at most, the number; what is left; digits all alike.
-/
import Derived.Test.YtakkjlcnfkklpaaMath
import Derived.Test.YtakkjlcnfkklpaaMathRho
namespace Go.Proofs.Ytakkjlcnfkklpaa
namespace Pl

/-- The last w digits of a number, the last one first. -/
def digW (b : Nat) : Nat → Nat → List Nat
  | 0, _ => []
  | w + 1, n => n % b :: digW b w (n / b)

/-- The number of a row, the last digit first. -/
def valR (b : Nat) : List Nat → Nat
  | [] => 0
  | d :: t => d + b * valR b t

theorem digW_len (b : Nat) : ∀ w n, (digW b w n).length = w := by
  intro w
  induction w with
  | zero => intro n; rfl
  | succ w ih => intro n; simp [digW, ih]

theorem digW_mem {b : Nat} (hb : 2 ≤ b) : ∀ w n, ∀ x ∈ digW b w n, x < b := by
  intro w
  induction w with
  | zero => intro n x hx; simp [digW] at hx
  | succ w ih =>
    intro n x hx
    simp only [digW, List.mem_cons] at hx
    rcases hx with rfl | hx
    · exact Nat.mod_lt _ (by omega)
    · exact ih _ x hx

theorem valR_digW {b : Nat} (hb : 2 ≤ b) : ∀ w n, n < b ^ w → valR b (digW b w n) = n := by
  intro w
  induction w with
  | zero => intro n h; simp [digW, valR] at *; omega
  | succ w ih =>
    intro n h
    have h1 : n / b < b ^ w := by rw [Nat.div_lt_iff_lt_mul (by omega), ← Nat.pow_succ]; exact h
    rw [digW, valR, ih _ h1]
    have := Nat.div_add_mod n b; omega

theorem digW_valR {b : Nat} (hb : 2 ≤ b) : ∀ l : List Nat, (∀ x ∈ l, x < b) → digW b l.length (valR b l) = l := by
  intro l
  induction l with
  | nil => intro _; rfl
  | cons d t ih =>
    intro h
    have hd := h d (by simp)
    have e1 : (d + b * valR b t) % b = d := by rw [Nat.add_mul_mod_self_left, Nat.mod_eq_of_lt hd]
    have e2 : (d + b * valR b t) / b = valR b t := by rw [Nat.add_mul_div_left _ _ (by omega), Nat.div_eq_of_lt hd, Nat.zero_add]
    rw [List.length_cons, digW, valR, e1, e2, ih fun x hx => h x (by simp [hx])]

theorem valR_lt {b : Nat} : ∀ l : List Nat, (∀ x ∈ l, x < b) → valR b l < b ^ l.length := by
  intro l
  induction l with
  | nil => intro _; simp [valR]
  | cons d t ih =>
    intro h
    have hd := h d (by simp)
    have h1 := ih fun x hx => h x (by simp [hx])
    have h2 : b * (valR b t + 1) ≤ b * b ^ t.length := Nat.mul_le_mul_left b h1
    rw [List.length_cons, Nat.pow_succ, Nat.mul_comm _ b, valR]
    rw [Nat.mul_add] at h2
    omega

theorem valR_inj {b : Nat} (hb : 2 ≤ b) {l m : List Nat} (hl : ∀ x ∈ l, x < b) (hm : ∀ x ∈ m, x < b) (hlen : l.length = m.length) (h : valR b l = valR b m) : l = m := by
  rw [← digW_valR hb l hl, ← digW_valR hb m hm, h, hlen]

theorem valR_snoc (b : Nat) : ∀ (l : List Nat) (d : Nat), valR b (l ++ [d]) = valR b l + b ^ l.length * d := by
  intro l
  induction l with
  | nil => intro d; simp [valR]
  | cons a t ih =>
    intro d
    rw [List.cons_append, valR, ih, valR, List.length_cons, Nat.pow_succ, Nat.mul_add, Nat.mul_comm (b ^ t.length) b, Nat.mul_assoc]
    omega

/-- The number as it is told digit by digit, the first one first. -/
def valF (b : Nat) (acc : Nat) (l : List Nat) : Nat := l.foldl (fun a d => a * b + d) acc
theorem valF_snoc (b acc : Nat) (l : List Nat) (d : Nat) : valF b acc (l ++ [d]) = valF b acc l * b + d := by simp [valF]
theorem valF_rev (b : Nat) (l : List Nat) : valF b 0 l.reverse = valR b l := by
  induction l with
  | nil => rfl
  | cons a t ih => rw [List.reverse_cons, valF_snoc, ih, valR, Nat.mul_comm]; omega

/-! ### Put in order -/

/-- Each digit below b as often as it is counted, the least one first. -/
def flatUp (c : Nat → Nat) : Nat → List Nat
  | 0 => []
  | d + 1 => flatUp c d ++ List.replicate (c d) d

theorem flatUp_mem {c : Nat → Nat} : ∀ {b x : Nat}, x ∈ flatUp c b → x < b := by
  intro b
  induction b with
  | zero => intro x h; simp [flatUp] at h
  | succ b ih =>
    intro x h
    rw [flatUp, List.mem_append] at h
    rcases h with h | h
    · have := ih h; omega
    · have := (List.mem_replicate.1 h).2; omega

theorem flatUp_count (c : Nat → Nat) (a : Nat) : ∀ b, (flatUp c b).count a = if a < b then c a else 0 := by
  intro b
  induction b with
  | zero => simp [flatUp]
  | succ b ih =>
    rw [flatUp, List.count_append, ih, List.count_replicate]
    by_cases h : a = b
    · subst h; simp
    · have hne : (b == a) = false := by simp; omega
      rw [hne]
      by_cases h2 : a < b
      · simp [h2, show a < b + 1 by omega]
      · simp [h2, show ¬ a < b + 1 by omega]

theorem flatUp_perm {b : Nat} {l : List Nat} (h : ∀ x ∈ l, x < b) : (flatUp (fun d => l.count d) b).Perm l := by
  rw [List.perm_iff_count]
  intro a
  rw [flatUp_count]
  split
  · rfl
  · rename_i ha
    exact (List.count_eq_zero.2 fun hx => ha (h a hx)).symm

theorem flatUp_more {c : Nat → Nat} {b : Nat} : ∀ k, (∀ d, b ≤ d → c d = 0) → flatUp c (b + k) = flatUp c b := by
  intro k
  induction k with
  | zero => intro _; rfl
  | succ k ih =>
    intro h
    rw [← Nat.add_assoc, flatUp, ih h, h (b + k) (by omega)]; simp

theorem flatUp_sorted (c : Nat → Nat) : ∀ b, (flatUp c b).Pairwise (· ≤ ·) := by
  intro b
  induction b with
  | zero => simp [flatUp]
  | succ b ih =>
    rw [flatUp, List.pairwise_append]
    refine ⟨ih, ?_, fun x hx y hy => ?_⟩
    · rw [List.pairwise_replicate]; simp
    · have h1 := flatUp_mem hx
      have h2 := (List.mem_replicate.1 hy).2
      omega

/-- One digit more is put in between those that are not greater, and those that are not less. -/
theorem flatUp_put {c c' : Nat → Nat} {r : Nat} (hr : c' r = c r + 1) (ho : ∀ d, d ≠ r → c' d = c d) : ∀ b, r < b → ∃ X Y, flatUp c b = X ++ Y ∧ flatUp c' b = X ++ r :: Y ∧ (∀ x ∈ X, x ≤ r) ∧ (∀ y ∈ Y, r ≤ y) := by
  have hsame : ∀ b, b ≤ r → flatUp c' b = flatUp c b := by
    intro b
    induction b with
    | zero => intro _; rfl
    | succ b ih => intro h; rw [flatUp, flatUp, ih (by omega), ho b (by omega)]
  intro b
  induction b with
  | zero => intro h; omega
  | succ b ih =>
    intro h
    by_cases he : r = b
    · subst he
      refine ⟨flatUp c r, List.replicate (c r) r, rfl, ?_, fun x hx => Nat.le_of_lt (flatUp_mem hx), fun y hy => by rw [(List.mem_replicate.1 hy).2]; exact Nat.le_refl _⟩
      rw [flatUp, hsame r (Nat.le_refl _), hr, List.replicate_succ]
    · obtain ⟨X, Y, h1, h2, h3, h4⟩ := ih (by omega)
      refine ⟨X, Y ++ List.replicate (c b) b, by rw [flatUp, h1, List.append_assoc], ?_, h3, fun y hy => ?_⟩
      · rw [flatUp, h2, ho b (by omega), List.append_assoc, List.cons_append]
      · rcases List.mem_append.1 hy with hy | hy
        · exact h4 y hy
        · rw [(List.mem_replicate.1 hy).2]; omega

theorem valR_move_le {b r : Nat} (hb : 1 ≤ b) (Z : List Nat) : ∀ X : List Nat, (∀ x ∈ X, x ≤ r) → valR b (r :: (X ++ Z)) ≤ valR b (X ++ r :: Z) := by
  intro X
  induction X with
  | nil => intro _; exact Nat.le_refl _
  | cons x X ih =>
    intro h
    obtain ⟨e, he⟩ : ∃ e, r = x + e := ⟨r - x, by have := h x (by simp); omega⟩
    have h1 := ih fun y hy => h y (by simp [hy])
    have h2 : b * valR b (r :: (X ++ Z)) ≤ b * valR b (X ++ r :: Z) := Nat.mul_le_mul_left b h1
    have h3 : e ≤ b * e := Nat.le_mul_of_pos_left _ hb
    simp only [List.cons_append, valR] at h2 ⊢
    rw [Nat.mul_add] at h2 ⊢
    have h4 : b * r = b * x + b * e := by rw [he, Nat.mul_add]
    omega

theorem valR_move_ge {b r : Nat} (hb : 1 ≤ b) (Z : List Nat) : ∀ X : List Nat, (∀ x ∈ X, r ≤ x) → valR b (X ++ r :: Z) ≤ valR b (r :: (X ++ Z)) := by
  intro X
  induction X with
  | nil => intro _; exact Nat.le_refl _
  | cons x X ih =>
    intro h
    obtain ⟨e, he⟩ : ∃ e, x = r + e := ⟨x - r, by have := h x (by simp); omega⟩
    have h1 := ih fun y hy => h y (by simp [hy])
    have h2 : b * valR b (X ++ r :: Z) ≤ b * valR b (r :: (X ++ Z)) := Nat.mul_le_mul_left b h1
    have h3 : e ≤ b * e := Nat.le_mul_of_pos_left _ hb
    simp only [List.cons_append, valR] at h2 ⊢
    rw [Nat.mul_add] at h2 ⊢
    have h4 : b * x = b * r + b * e := by rw [he, Nat.mul_add]
    omega

/-- How often a digit is in a number of a width. -/
def cntW (b w n d : Nat) : Nat := (digW b w n).count d
/-- The digits of a number of a width, the least one first. -/
def ordW (b w n : Nat) : List Nat := flatUp (cntW b w n) b
/-- The number of the digits from the greatest one down. -/
def downN (b w n : Nat) : Nat := valR b (ordW b w n)
/-- The number of the digits from the least one up. -/
def upN (b w n : Nat) : Nat := valR b (ordW b w n).reverse
/-- What is left. -/
def leftN (b w n : Nat) : Nat := downN b w n - upN b w n

theorem ordW_perm {b : Nat} (hb : 2 ≤ b) (w n : Nat) : (ordW b w n).Perm (digW b w n) := flatUp_perm (digW_mem hb w n)
theorem ordW_len {b : Nat} (hb : 2 ≤ b) (w n : Nat) : (ordW b w n).length = w := by rw [(ordW_perm hb w n).length_eq, digW_len]
theorem ordW_mem {b w n x : Nat} (h : x ∈ ordW b w n) : x < b := flatUp_mem h
theorem ordW_mem_rev {b w n : Nat} : ∀ x ∈ (ordW b w n).reverse, x < b := fun _ h => flatUp_mem (List.mem_reverse.1 h)

theorem downN_lt {b : Nat} (hb : 2 ≤ b) (w n : Nat) : downN b w n < b ^ w := by
  have := valR_lt (ordW b w n) fun x hx => ordW_mem hx
  rwa [ordW_len hb] at this
theorem upN_lt {b : Nat} (hb : 2 ≤ b) (w n : Nat) : upN b w n < b ^ w := by
  have := valR_lt (ordW b w n).reverse ordW_mem_rev
  rwa [List.length_reverse, ordW_len hb] at this

theorem digW_down {b : Nat} (hb : 2 ≤ b) (w n : Nat) : digW b w (downN b w n) = ordW b w n := by
  have := digW_valR hb (ordW b w n) fun x hx => ordW_mem hx
  rwa [ordW_len hb] at this
theorem digW_up {b : Nat} (hb : 2 ≤ b) (w n : Nat) : digW b w (upN b w n) = (ordW b w n).reverse := by
  have := digW_valR hb (ordW b w n).reverse ordW_mem_rev
  rwa [List.length_reverse, ordW_len hb] at this

theorem cntW_down {b : Nat} (hb : 2 ≤ b) (w n : Nat) : cntW b w (downN b w n) = cntW b w n := by
  funext d
  unfold cntW
  rw [digW_down hb, (ordW_perm hb w n).count_eq]
theorem cntW_up {b : Nat} (hb : 2 ≤ b) (w n : Nat) : cntW b w (upN b w n) = cntW b w n := by
  funext d
  unfold cntW
  rw [digW_up hb, List.count_reverse, (ordW_perm hb w n).count_eq]

theorem ordW_down {b : Nat} (hb : 2 ≤ b) (w n : Nat) : ordW b w (downN b w n) = ordW b w n := by rw [ordW, cntW_down hb]; rfl
theorem ordW_up {b : Nat} (hb : 2 ≤ b) (w n : Nat) : ordW b w (upN b w n) = ordW b w n := by rw [ordW, cntW_up hb]; rfl

theorem order_bounds {b : Nat} (hb : 2 ≤ b) : ∀ w n, n < b ^ w → upN b w n ≤ n ∧ n ≤ downN b w n := by
  intro w
  induction w with
  | zero =>
    intro n h; simp at h; subst h
    have := upN_lt hb 0 0
    simp at this; omega
  | succ w ih =>
    intro n h
    have h1 : n / b < b ^ w := by rw [Nat.div_lt_iff_lt_mul (by omega), ← Nat.pow_succ]; exact h
    obtain ⟨g1, g2⟩ := ih _ h1
    have hr : n % b < b := Nat.mod_lt _ (by omega)
    have hc : cntW b (w + 1) n (n % b) = cntW b w (n / b) (n % b) + 1 := by simp [cntW, digW]
    have ho : ∀ d, d ≠ n % b → cntW b (w + 1) n d = cntW b w (n / b) d := fun d hd => by
      unfold cntW; rw [digW, List.count_cons_of_ne (fun e => hd e.symm)]
    obtain ⟨X, Y, e1, e2, hX, hY⟩ := flatUp_put hc ho b hr
    have hn := Nat.div_add_mod n b
    constructor
    · have e3 : upN b (w + 1) n = valR b (Y.reverse ++ n % b :: X.reverse) := by
        unfold upN ordW; rw [e2]; simp
      have e4 : upN b w (n / b) = valR b (Y.reverse ++ X.reverse) := by
        unfold upN ordW; rw [e1]; simp
      have h5 := valR_move_ge (b := b) (r := n % b) (by omega) X.reverse Y.reverse fun y hy => hY y (List.mem_reverse.1 hy)
      rw [e3]
      rw [valR, ← e4] at h5
      have h6 : b * upN b w (n / b) ≤ b * (n / b) := Nat.mul_le_mul_left b g1
      omega
    · have e3 : downN b (w + 1) n = valR b (X ++ n % b :: Y) := by unfold downN ordW; rw [e2]
      have e4 : downN b w (n / b) = valR b (X ++ Y) := by unfold downN ordW; rw [e1]
      have h5 := valR_move_le (b := b) (r := n % b) (by omega) Y X hX
      rw [e3]
      rw [valR, ← e4] at h5
      have h6 : b * (n / b) ≤ b * downN b w (n / b) := Nat.mul_le_mul_left b g2
      omega

/-! ### Sums of digits, and what is left -/

theorem digW_sum {b : Nat} (hb : 2 ≤ b) : ∀ w n, n < b ^ w → (digW b w n).sum = sumD b n := by
  intro w
  induction w with
  | zero => intro n h; simp at h; subst h; rw [sumD_lt (by omega)]; rfl
  | succ w ih =>
    intro n h
    have h1 : n / b < b ^ w := by rw [Nat.div_lt_iff_lt_mul (by omega), ← Nat.pow_succ]; exact h
    rw [digW, List.sum_cons, ih _ h1, ← sumD_step hb]

theorem ordW_sum {b : Nat} (hb : 2 ≤ b) {w n : Nat} (h : n < b ^ w) : (ordW b w n).sum = sumD b n := by
  rw [(ordW_perm hb w n).sum_nat, digW_sum hb w n h]

theorem sumD_down {b : Nat} (hb : 2 ≤ b) {w n : Nat} (h : n < b ^ w) : sumD b (downN b w n) = sumD b n := by
  rw [← digW_sum hb w _ (downN_lt hb w n), digW_down hb, ordW_sum hb h]
theorem sumD_up {b : Nat} (hb : 2 ≤ b) {w n : Nat} (h : n < b ^ w) : sumD b (upN b w n) = sumD b n := by
  rw [← digW_sum hb w _ (upN_lt hb w n), digW_up hb, List.sum_reverse, ordW_sum hb h]

theorem valR_mod {b : Nat} (hb : 1 ≤ b) : ∀ l : List Nat, ∃ k, valR b l = l.sum + (b - 1) * k := by
  intro l
  induction l with
  | nil => exact ⟨0, rfl⟩
  | cons d t ih =>
    obtain ⟨k, hk⟩ := ih
    obtain ⟨B, rfl⟩ : ∃ B, b = B + 1 := ⟨b - 1, by omega⟩
    refine ⟨valR (B + 1) t + k, ?_⟩
    rw [valR, List.sum_cons, Nat.add_sub_cancel, Nat.add_mul, Nat.mul_add]
    rw [Nat.add_sub_cancel] at hk
    omega

theorem up_le_down {b : Nat} (hb : 2 ≤ b) (w n : Nat) : upN b w n ≤ downN b w n := by
  have h := order_bounds hb w _ (downN_lt hb w n)
  have e : upN b w (downN b w n) = upN b w n := by unfold upN; rw [ordW_down hb]
  omega

theorem left_mod {b : Nat} (hb : 2 ≤ b) (w n : Nat) : leftN b w n % (b - 1) = 0 := by
  obtain ⟨k1, h1⟩ := valR_mod (b := b) (by omega) (ordW b w n)
  obtain ⟨k2, h2⟩ := valR_mod (b := b) (by omega) (ordW b w n).reverse
  rw [List.sum_reverse] at h2
  unfold leftN downN upN
  rw [h1, h2, Nat.add_sub_add_left, ← Nat.mul_sub, Nat.mul_mod_right]

theorem left_lt {b : Nat} (hb : 2 ≤ b) (w n : Nat) : leftN b w n < b ^ w := by
  have := downN_lt hb w n
  unfold leftN; omega

theorem left_down {b : Nat} (hb : 2 ≤ b) (w n : Nat) : leftN b w (downN b w n) = leftN b w n := by
  unfold leftN downN upN
  have := ordW_down hb w n
  unfold downN at this
  rw [this]

/-! ### Digits all alike -/

/-- All digits are alike. -/
def Alike (b w n : Nat) : Prop := ∃ d, digW b w n = List.replicate w d

theorem alike_count {b w n : Nat} : Alike b w n ↔ ∃ d, cntW b w n d = w := by
  constructor
  · rintro ⟨d, hd⟩
    exact ⟨d, by unfold cntW; rw [hd]; simp⟩
  · rintro ⟨d, hd⟩
    refine ⟨d, ?_⟩
    have h : (digW b w n).count d = (digW b w n).length := by rw [digW_len]; exact hd
    rw [List.count_eq_length] at h
    rw [List.eq_replicate_iff]
    exact ⟨digW_len b w n, fun x hx => (h x hx).symm⟩

theorem alike_left {b : Nat} (hb : 2 ≤ b) {w n : Nat} : Alike b w n ↔ downN b w n = upN b w n := by
  have hp := ordW_perm hb w n
  constructor
  · rintro ⟨d, hd⟩
    rw [hd, List.perm_replicate] at hp
    unfold downN upN
    rw [hp, List.reverse_replicate]
  · intro h
    have he : ordW b w n = (ordW b w n).reverse := valR_inj hb (fun x hx => ordW_mem hx) ordW_mem_rev (by simp) h
    have h1 : (ordW b w n).Pairwise (· ≤ ·) := flatUp_sorted _ _
    have h2 : (ordW b w n).Pairwise (fun x y => y ≤ x) := by
      rw [he] at h1; rwa [List.pairwise_reverse] at h1
    refine ⟨(ordW b w n)[0]?.getD 0, ?_⟩
    rw [List.eq_replicate_iff]
    refine ⟨digW_len b w n, fun x hx => ?_⟩
    obtain ⟨i, hi, rfl⟩ := List.getElem_of_mem (hp.mem_iff.2 hx)
    rw [List.getElem?_eq_getElem (by omega), Option.getD_some]
    by_cases h0 : i = 0
    · subst h0; rfl
    · have g1 := List.pairwise_iff_getElem.1 h1 0 i (by omega) hi (by omega)
      have g2 := List.pairwise_iff_getElem.1 h2 0 i (by omega) hi (by omega)
      omega

theorem alike_zero {b : Nat} (hb : 2 ≤ b) {w n : Nat} : Alike b w n ↔ leftN b w n = 0 := by
  rw [alike_left hb]
  have := up_le_down hb w n
  unfold leftN; omega

/-- The number of w digits 1. -/
def ones (b : Nat) : Nat → Nat
  | 0 => 0
  | w + 1 => ones b w * b + 1

theorem valR_alike (b d : Nat) : ∀ w, valR b (List.replicate w d) = d * ones b w := by
  intro w
  induction w with
  | zero => rfl
  | succ w ih =>
    rw [List.replicate_succ, valR, ih, ones, Nat.mul_add, Nat.mul_left_comm, Nat.mul_comm b]; omega

theorem ones_pow {b : Nat} (hb : 2 ≤ b) : ∀ w, ones b w * (b - 1) + 1 = b ^ w := by
  intro w
  induction w with
  | zero => simp [ones]
  | succ w ih =>
    rw [ones, Nat.pow_succ, ← ih, Nat.add_mul, Nat.add_mul, Nat.mul_assoc, Nat.mul_comm b (b - 1), ← Nat.mul_assoc]; omega

theorem ones_pos {b w : Nat} (hw : 1 ≤ w) : 1 ≤ ones b w := by
  obtain ⟨v, rfl⟩ : ∃ v, w = v + 1 := ⟨w - 1, by omega⟩
  rw [ones]; omega

theorem alike_of_digit {b : Nat} (hb : 2 ≤ b) {w d : Nat} (hd : d < b) : Alike b w (d * ones b w) := by
  refine ⟨d, ?_⟩
  have := digW_valR hb (List.replicate w d) fun x hx => by rw [(List.mem_replicate.1 hx).2]; exact hd
  rwa [List.length_replicate, valR_alike] at this

theorem ones_lt {b : Nat} (hb : 2 ≤ b) {w d : Nat} (hd : d < b) : ones b w * d < b ^ w := by
  have h1 := ones_pow hb w
  have h2 : ones b w * d ≤ ones b w * (b - 1) := Nat.mul_le_mul_left _ (by omega)
  omega

theorem alike_ones {b : Nat} (hb : 2 ≤ b) {w n : Nat} (hw : 1 ≤ w) (h : n < b ^ w) : Alike b w n ↔ n % ones b w = 0 := by
  have ho := ones_pos (b := b) hw
  constructor
  · rintro ⟨d, hd⟩
    have := valR_digW hb w n h
    rw [hd, valR_alike] at this
    rw [← this, Nat.mul_mod_left]
  · intro hm
    obtain ⟨q, hq⟩ := Nat.dvd_of_mod_eq_zero hm
    have hp := ones_pow hb w
    have hqb : q < b := by
      refine Classical.byContradiction fun hno => ?_
      have : ones b w * b ≤ ones b w * q := Nat.mul_le_mul_left _ (by omega)
      have e : ones b w * b = ones b w * (b - 1) + ones b w := by
        conv => lhs; rw [show b = (b - 1) + 1 by omega, Nat.mul_add, Nat.mul_one]
        rw [show b - 1 + 1 = b by omega]
      omega
    rw [hq, Nat.mul_comm]
    exact alike_of_digit hb hqb

/-! ### The round into which what is left leads -/

theorem iter_left_lt {b : Nat} (hb : 2 ≤ b) {w n : Nat} (h : n < b ^ w) : ∀ i, iter (leftN b w) i n < b ^ w := by
  intro i
  cases i with
  | zero => exact h
  | succ i => exact left_lt hb w _

theorem pow_le24 {b w : Nat} (hb' : b ≤ 16) (hw : w ≤ 6) : b ^ w ≤ 16777216 := by
  have h1 : b ^ w ≤ 16 ^ w := Nat.pow_le_pow_left hb' w
  have h2 : (16 : Nat) ^ w ≤ 16 ^ 6 := Nat.pow_le_pow_right (by omega) hw
  omega

theorem left_rho {b w n : Nat} (hb : 2 ≤ b) (hb' : b ≤ 16) (hw : w ≤ 6) (h : n < b ^ w) : ∃ mu p, Rho (leftN b w) n mu p ∧ mu + p ≤ 16777216 := by
  obtain ⟨mu, p, hr, hle⟩ := rho_exists (f := leftN b w) (n := n) (N := b ^ w) (iter_left_lt hb h)
  exact ⟨mu, p, hr, Nat.le_trans hle (pow_le24 hb' hw)⟩

/-- Where a number that stays is come to behind k steps, it is the round, and comes behind at most k. -/
theorem rho_stay {f : Nat → Nat} {n c k : Nat} (hc : f c = c) (hk : iter f k n = c) : ∃ mu, mu ≤ k ∧ Rho f n mu 1 ∧ iter f mu n = c := by
  obtain ⟨mu, hmu, hmin⟩ := least_nat (P := fun i => iter f i n = c) ⟨k, hk⟩
  have hle : mu ≤ k := by
    refine Classical.byContradiction fun hno => hmin k (by omega) hk
  refine ⟨mu, hle, ⟨Nat.le_refl _, ?_, fun i j hij hj he => ?_⟩, hmu⟩
  · show f (iter f mu n) = _; rw [hmu, hc]
  · refine hmin (i + (mu - j)) (by omega) ?_
    show iter f (i + (mu - j)) n = c
    rw [Nat.add_comm, iter_add, he, ← iter_add, show mu - j + j = mu by omega, hmu]

theorem check3 : ((List.range 10).all fun k => k == 0 || iter (leftN 10 3) 5 (99 * k) == 495) = true := by decide +kernel
theorem check4 : ((List.range 10).all fun x => (List.range (x + 1)).all fun y => x == 0 || iter (leftN 10 4) 6 (999 * x + 90 * y) == 6174) = true := by decide +kernel
theorem stay3 : leftN 10 3 495 = 495 := by decide +kernel
theorem stay4 : leftN 10 4 6174 = 6174 := by decide +kernel

theorem left3 {n : Nat} (h : ¬ Alike 10 3 n) : iter (leftN 10 3) 6 n = 495 := by
  rw [alike_zero (by omega)] at h
  have hl := ordW_len (b := 10) (by omega) 3 n
  have hs : (ordW 10 3 n).Pairwise (· ≤ ·) := flatUp_sorted _ _
  have hm : ∀ x ∈ ordW 10 3 n, x < 10 := fun x hx => ordW_mem hx
  have hL : leftN 10 3 n = valR 10 (ordW 10 3 n) - valR 10 (ordW 10 3 n).reverse := rfl
  match hO : ordW 10 3 n, hl with
  | [p, q, r], _ =>
    rw [hO] at hs hm hL
    have hp := hm p (by simp)
    have hr := hm r (by simp)
    simp at hs
    simp [valR] at hL
    have e : leftN 10 3 n = 99 * (r - p) := by omega
    have h1 := List.all_eq_true.1 check3 (r - p) (List.mem_range.2 (by omega))
    have h2 : (r - p == 0) = false := by simp; omega
    rw [h2, Bool.false_or, ← e] at h1
    rw [iter_succ']
    simpa using h1

theorem left4 {n : Nat} (h : ¬ Alike 10 4 n) : iter (leftN 10 4) 7 n = 6174 := by
  rw [alike_zero (by omega)] at h
  have hl := ordW_len (b := 10) (by omega) 4 n
  have hs : (ordW 10 4 n).Pairwise (· ≤ ·) := flatUp_sorted _ _
  have hm : ∀ x ∈ ordW 10 4 n, x < 10 := fun x hx => ordW_mem hx
  have hL : leftN 10 4 n = valR 10 (ordW 10 4 n) - valR 10 (ordW 10 4 n).reverse := rfl
  match hO : ordW 10 4 n, hl with
  | [p, q, r, s], _ =>
    rw [hO] at hs hm hL
    have hp := hm p (by simp)
    have hr := hm s (by simp)
    simp at hs
    simp [valR] at hL
    have e : leftN 10 4 n = 999 * (s - p) + 90 * (r - q) := by omega
    have h1 := List.all_eq_true.1 check4 (s - p) (List.mem_range.2 (by omega))
    have h1' := List.all_eq_true.1 h1 (r - q) (List.mem_range.2 (by omega))
    have h2 : (s - p == 0) = false := by simp; omega
    rw [h2, Bool.false_or, ← e] at h1'
    rw [iter_succ']
    simpa using h1'

/-! ### As the functions answer -/

/-- A number of a width in a base. -/
def wideB (n w b : Int) : Bool := okB n b && (decide (2 ≤ w) && (decide (w ≤ 6) && decide (n.toNat < b.toNat ^ w.toNat)))

theorem wideB_nat {n w b : Int} (h : wideB n w b = true) : ∃ x v k : Nat, n = (x : Int) ∧ w = (v : Int) ∧ b = (k : Int) ∧ 2 ≤ k ∧ k ≤ 16 ∧ 2 ≤ v ∧ v ≤ 6 ∧ x < k ^ v := by
  simp only [wideB, Bool.and_eq_true, decide_eq_true_eq, okB_iff] at h
  exact ⟨n.toNat, w.toNat, b.toNat, by omega, by omega, by omega, by omega, by omega, by omega, by omega, h.2.2.2⟩

theorem wideB_of {x v k : Nat} (h1 : 2 ≤ k) (h2 : k ≤ 16) (h3 : 2 ≤ v) (h4 : v ≤ 6) (h5 : x < k ^ v) : wideB x v k = true := by
  have := pow_le24 (b := k) (w := v) h2 h4
  simp only [wideB, Bool.and_eq_true, decide_eq_true_eq, okB_iff, Int.toNat_natCast]
  omega

theorem wideB_iff (x v k : Nat) : wideB x v k = true ↔ 2 ≤ k ∧ k ≤ 16 ∧ 2 ≤ v ∧ v ≤ 6 ∧ x < k ^ v := by
  constructor
  · intro h
    obtain ⟨x', v', k', e1, e2, e3, h1, h2, h3, h4, h5⟩ := wideB_nat h
    obtain rfl : x = x' := by omega
    obtain rfl : v = v' := by omega
    obtain rfl : k = k' := by omega
    exact ⟨h1, h2, h3, h4, h5⟩
  · rintro ⟨h1, h2, h3, h4, h5⟩; exact wideB_of h1 h2 h3 h4 h5

def downI (n w b : Int) : Int := if wideB n w b = true then (downN b.toNat w.toNat n.toNat : Nat) else -1
def upI (n w b : Int) : Int := if wideB n w b = true then (upN b.toNat w.toNat n.toNat : Nat) else -1
def leftI (n w b : Int) : Int := if wideB n w b = true then (leftN b.toNat w.toNat n.toNat : Nat) else -1
theorem downI_yes (x v k : Nat) (h : wideB x v k = true) : downI x v k = (downN k v x : Nat) := by rw [downI, if_pos h]; rfl
theorem upI_yes (x v k : Nat) (h : wideB x v k = true) : upI x v k = (upN k v x : Nat) := by rw [upI, if_pos h]; rfl
theorem leftI_yes (x v k : Nat) (h : wideB x v k = true) : leftI x v k = (leftN k v x : Nat) := by rw [leftI, if_pos h]; rfl
theorem downI_no {n w b : Int} (h : ¬ wideB n w b = true) : downI n w b = -1 := by rw [downI, if_neg h]
theorem upI_no {n w b : Int} (h : ¬ wideB n w b = true) : upI n w b = -1 := by rw [upI, if_neg h]
theorem leftI_no {n w b : Int} (h : ¬ wideB n w b = true) : leftI n w b = -1 := by rw [leftI, if_neg h]

theorem downI_bounds (n w b : Int) : -1 ≤ downI n w b ∧ downI n w b ≤ 16777216 := by
  by_cases h : wideB n w b = true
  · obtain ⟨x, v, k, rfl, rfl, rfl, h1, h2, h3, h4, h5⟩ := wideB_nat h
    rw [downI_yes x v k h]
    have := downN_lt h1 v x
    have := pow_le24 (b := k) (w := v) h2 h4
    omega
  · rw [downI_no h]; omega
theorem upI_bounds (n w b : Int) : -1 ≤ upI n w b ∧ upI n w b ≤ 16777216 := by
  by_cases h : wideB n w b = true
  · obtain ⟨x, v, k, rfl, rfl, rfl, h1, h2, h3, h4, h5⟩ := wideB_nat h
    rw [upI_yes x v k h]
    have := upN_lt h1 v x
    have := pow_le24 (b := k) (w := v) h2 h4
    omega
  · rw [upI_no h]; omega
theorem leftI_bounds (n w b : Int) : -1 ≤ leftI n w b ∧ leftI n w b ≤ 16777216 := by
  by_cases h : wideB n w b = true
  · obtain ⟨x, v, k, rfl, rfl, rfl, h1, h2, h3, h4, h5⟩ := wideB_nat h
    rw [leftI_yes x v k h]
    have := left_lt h1 v x
    have := pow_le24 (b := k) (w := v) h2 h4
    omega
  · rw [leftI_no h]; omega

end Pl
end Go.Proofs.Ytakkjlcnfkklpaa
