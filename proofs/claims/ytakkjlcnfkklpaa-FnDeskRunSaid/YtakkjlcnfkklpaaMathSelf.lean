/-
  Plain facts: what numbers make (themselves and the sum of their digits), makers, selves, rows, and where two rows come together.
-/
import Derived.Test.YtakkjlcnfkklpaaMathSort
namespace Go.Proofs.Ytakkjlcnfkklpaa
namespace Pl

/-- What a number makes. -/
def madeN (b n : Nat) : Nat := n + sumD b n

theorem sumD_pos {b : Nat} (hb : 2 ≤ b) (n : Nat) : 1 ≤ n → 1 ≤ sumD b n := by
  refine digInd hb (P := fun n => 1 ≤ n → 1 ≤ sumD b n) ?_ ?_ n
  · intro n h hn; rw [sumD_lt h]; exact hn
  · intro n h ih _
    have h1 : 1 ≤ n / b := (Nat.one_le_div_iff (by omega)).2 h
    have := ih h1
    rw [sumD_ge hb h]; omega

theorem made_more {b n : Nat} (hb : 2 ≤ b) (h : 1 ≤ n) : n < madeN b n := by
  have := sumD_pos hb n h
  unfold madeN; omega
theorem made_zero {b : Nat} (hb : 2 ≤ b) : madeN b 0 = 0 := by rw [madeN, sumD_lt (by omega)]
theorem made_ge (b n : Nat) : n ≤ madeN b n := Nat.le_add_right _ _

theorem sumD_mod2 {b : Nat} (hb : 2 ≤ b) (n : Nat) : ∃ k, n = sumD b n + (b - 1) * k := by
  refine digInd hb (P := fun n => ∃ k, n = sumD b n + (b - 1) * k) ?_ ?_ n
  · intro n h; exact ⟨0, by rw [sumD_lt h]; omega⟩
  · intro n h ih
    obtain ⟨k, hk⟩ := ih
    obtain ⟨B, rfl⟩ : ∃ B, b = B + 1 := ⟨b - 1, by omega⟩
    have h1 := Nat.div_add_mod n (B + 1)
    refine ⟨n / (B + 1) + k, ?_⟩
    rw [sumD_ge hb h, Nat.add_sub_cancel, Nat.mul_add]
    rw [Nat.add_sub_cancel] at hk
    rw [Nat.add_mul, Nat.one_mul] at h1
    omega

theorem made_mod {b : Nat} (hb : 2 ≤ b) (n : Nat) : ((b : Int) - 1) ∣ (2 * (n : Int) - (madeN b n : Int)) := by
  obtain ⟨k, hk⟩ := sumD_mod2 hb n
  refine ⟨k, ?_⟩
  have e : ((b - 1 : Nat) : Int) = (b : Int) - 1 := by omega
  have h2 : ((b - 1 : Nat) : Int) * (k : Int) = (((b - 1) * k : Nat) : Int) := (Int.natCast_mul _ _).symm
  rw [← e, h2]
  unfold madeN; omega

theorem made_even {b : Nat} (hb : 2 ≤ b) (h : b % 2 = 1) (n : Nat) : madeN b n % 2 = 0 := by
  obtain ⟨k, hk⟩ := sumD_mod2 hb n
  obtain ⟨c, hc⟩ : ∃ c, b - 1 = 2 * c := ⟨(b - 1) / 2, by omega⟩
  rw [hc, Nat.mul_assoc] at hk
  unfold madeN; omega

/-! ### Makers -/

theorem len_mono {b : Nat} (hb : 2 ≤ b) {m n : Nat} (h : m ≤ n) : (digsR b m).length ≤ (digsR b n).length := by
  by_cases hm : m = 0
  · subst hm; rw [len_lt (by omega)]; exact digsR_pos b n
  · have hbase : ∀ m n, m ≤ n → (digsR b m).length ≤ (digsR b n).length := by
      intro m
      refine digInd hb (P := fun m => ∀ n, m ≤ n → (digsR b m).length ≤ (digsR b n).length) ?_ ?_ m
      · intro m h n _; rw [len_lt h]; exact digsR_pos b n
      · intro m h ih n hmn
        rw [len_ge hb h, len_ge hb (n := n) (by omega)]
        have := ih (n / b) (Nat.div_le_div_right hmn)
        omega
    exact hbase m n h

theorem sumD_len2 {b : Nat} (hb : 2 ≤ b) (n : Nat) : sumD b n ≤ (b - 1) * (digsR b n).length := by
  refine digInd hb (P := fun n => sumD b n ≤ (b - 1) * (digsR b n).length) ?_ ?_ n
  · intro n h; rw [sumD_lt h, len_lt h]; omega
  · intro n h ih
    have := Nat.mod_lt n (show 0 < b by omega)
    rw [sumD_ge hb h, len_ge hb h, Nat.mul_add, Nat.mul_one]; omega

/-- A maker is not far below. -/
theorem maker_near {b m n : Nat} (hb : 2 ≤ b) (h : madeN b m = n) : n ≤ m + (b - 1) * (digsR b n).length := by
  have h1 := sumD_len2 hb m
  have h2 := len_mono hb (m := m) (n := n) (by rw [← h]; exact made_ge b m)
  have h3 : (b - 1) * (digsR b m).length ≤ (b - 1) * (digsR b n).length := Nat.mul_le_mul_left _ h2
  unfold madeN at h; omega

/-- The makers, from a number on that is not above any. -/
def makersF (b n lo : Nat) : List Nat := ((List.range (n + 1 - lo)).map (· + lo)).filter fun m => madeN b m == n
theorem mem_makersF {b n lo m : Nat} (hlo : lo ≤ n + 1) : m ∈ makersF b n lo ↔ lo ≤ m ∧ madeN b m = n := by
  unfold makersF
  rw [List.mem_filter, List.mem_map, beq_iff_eq]
  constructor
  · rintro ⟨⟨i, hi, rfl⟩, h⟩; exact ⟨by omega, h⟩
  · rintro ⟨h1, h2⟩
    have := made_ge b m
    exact ⟨⟨m - lo, List.mem_range.2 (by omega), by omega⟩, h2⟩

/-! ### Rows -/

/-- The row from a number on, as far as its numbers are at most 3000. -/
def rowF (b : Nat) : Nat → Nat → List Nat
  | 0, _ => []
  | f + 1, n => if n ≤ 3000 then n :: rowF b f (madeN b n) else []

theorem rowF_stable {b : Nat} (hb : 2 ≤ b) : ∀ f f' n, 1 ≤ n → 3001 ≤ f + n → 3001 ≤ f' + n → rowF b f n = rowF b f' n := by
  have hbig : ∀ f n, 3001 ≤ n → rowF b f n = [] := fun f n h => by
    cases f with
    | zero => rfl
    | succ f => rw [rowF, if_neg (by omega)]
  intro f
  induction f with
  | zero => intro f' n _ h2 h3; rw [hbig _ _ (by omega), hbig _ _ (by omega)]
  | succ f ih =>
    intro f' n h1 h2 h3
    by_cases hn : n ≤ 3000
    · obtain ⟨g, rfl⟩ : ∃ g, f' = g + 1 := ⟨f' - 1, by omega⟩
      have := made_more hb h1
      rw [rowF, rowF, if_pos hn, if_pos hn, ih g _ (by omega) (by omega) (by omega)]
    · rw [hbig _ _ (by omega), hbig _ _ (by omega)]

def rowL (b n : Nat) : List Nat := rowF b 3001 n
theorem rowL_big {b n : Nat} (h : 3000 < n) : rowL b n = [] := by
  show rowF b (3000 + 1) n = []
  rw [rowF, if_neg (by omega)]
theorem rowL_cons {b n : Nat} (hb : 2 ≤ b) (h1 : 1 ≤ n) (h : n ≤ 3000) : rowL b n = n :: rowL b (madeN b n) := by
  have hm := made_more hb h1
  show rowF b (3000 + 1) n = n :: rowF b 3001 (madeN b n)
  rw [rowF, if_pos h, rowF_stable hb 3000 3001 _ (by omega) (by omega) (by omega)]

/-- Induction from great numbers down. -/
theorem rowInd {P : Nat → Prop} (h0 : ∀ n, 3000 < n → P n) (h1 : ∀ n, 1 ≤ n → n ≤ 3000 → (∀ m, n < m → P m) → P n) : ∀ n, 1 ≤ n → P n := by
  have key : ∀ k n, 1 ≤ n → 3001 ≤ k + n → P n := by
    intro k
    induction k with
    | zero => intro n _ h; exact h0 n (by omega)
    | succ k ih =>
      intro n hn h
      by_cases hle : n ≤ 3000
      · exact h1 n hn hle fun m hm => ih m (by omega) (by omega)
      · exact h0 n (by omega)
  exact fun n hn => key 3001 n hn (by omega)

theorem rowL_ge {b : Nat} (hb : 2 ≤ b) : ∀ n, 1 ≤ n → ∀ x ∈ rowL b n, n ≤ x ∧ x ≤ 3000 := by
  refine rowInd (fun n h x hx => ?_) (fun n h1 h2 ih x hx => ?_)
  · rw [rowL_big h] at hx; simp at hx
  · have hm := made_more hb h1
    rw [rowL_cons hb h1 h2, List.mem_cons] at hx
    rcases hx with rfl | hx
    · exact ⟨Nat.le_refl _, h2⟩
    · have := ih _ hm x hx; omega

theorem rowL_len {b : Nat} (hb : 2 ≤ b) : ∀ n, 1 ≤ n → (rowL b n).length ≤ 3001 - n := by
  refine rowInd (fun n h => ?_) (fun n h1 h2 ih => ?_)
  · rw [rowL_big h]; simp
  · have hm := made_more hb h1
    have := ih _ hm
    rw [rowL_cons hb h1 h2, List.length_cons]; omega

theorem rowL_asc {b : Nat} (hb : 2 ≤ b) : ∀ n, 1 ≤ n → (rowL b n).Pairwise (· < ·) := by
  refine rowInd (fun n h => ?_) (fun n h1 h2 ih => ?_)
  · rw [rowL_big h]; exact List.Pairwise.nil
  · have hm := made_more hb h1
    rw [rowL_cons hb h1 h2, List.pairwise_cons]
    exact ⟨fun x hx => by have := rowL_ge hb _ (by omega) x hx; omega, ih _ hm⟩

/-- Each next one is made by the one before. -/
theorem rowL_next {b : Nat} (hb : 2 ≤ b) : ∀ n, 1 ≤ n → ∀ k, k + 1 < (rowL b n).length → (rowL b n)[k + 1]?.getD 0 = madeN b ((rowL b n)[k]?.getD 0) := by
  refine rowInd (fun n h k hk => ?_) (fun n h1 h2 ih k hk => ?_)
  · rw [rowL_big h] at hk; simp at hk
  · have hm := made_more hb h1
    rw [rowL_cons hb h1 h2] at hk ⊢
    cases k with
    | zero =>
      by_cases hle : madeN b n ≤ 3000
      · rw [rowL_cons hb (by omega) hle]; rfl
      · rw [rowL_big (by omega)] at hk; simp at hk
    | succ k =>
      rw [List.getElem?_cons_succ, List.getElem?_cons_succ]
      exact ih _ hm k (by simpa using hk)

theorem rowL_last {b : Nat} (hb : 2 ≤ b) : ∀ n, 1 ≤ n → n ≤ 3000 → 3000 < madeN b ((rowL b n)[(rowL b n).length - 1]?.getD 0) := by
  refine rowInd (fun n h hn => by omega) (fun n h1 h2 ih _ => ?_)
  have hm := made_more hb h1
  by_cases hle : madeN b n ≤ 3000
  · have := ih _ hm hle
    have hl : 1 ≤ (rowL b (madeN b n)).length := by rw [rowL_cons hb (by omega) hle]; simp
    rw [rowL_cons hb h1 h2, List.length_cons, Nat.add_sub_cancel]
    obtain ⟨j, hj⟩ : ∃ j, (rowL b (madeN b n)).length = j + 1 := ⟨_ - 1, (Nat.sub_add_cancel hl).symm⟩
    rw [hj, List.getElem?_cons_succ]
    rw [hj, Nat.add_sub_cancel] at this
    exact this
  · rw [rowL_cons hb h1 h2, rowL_big (b := b) (n := madeN b n) (by omega)]
    simp; omega

/-! ### Where rows come together -/

/-- The least number in both rows, or none. -/
def Joins (b n m : Nat) : Option Nat → Prop
  | some a => a ∈ rowL b n ∧ a ∈ rowL b m ∧ ∀ x, x ∈ rowL b n → x ∈ rowL b m → a ≤ x
  | none => ∀ x, x ∈ rowL b n → x ∉ rowL b m

theorem Joins.unique {b n m : Nat} {r s : Option Nat} (h : Joins b n m r) (h' : Joins b n m s) : r = s := by
  cases r with
  | none => cases s with
    | none => rfl
    | some c => exact absurd h'.2.1 (h c h'.1)
  | some a => cases s with
    | none => exact absurd h.2.1 (h' a h.1)
    | some c =>
      have h1 := h.2.2 c h'.1 h'.2.1
      have h2 := h'.2.2 a h.1 h.2.1
      rw [show a = c by omega]

theorem Joins.sym {b n m : Nat} {r : Option Nat} (h : Joins b n m r) : Joins b m n r := by
  cases r with
  | none => exact fun x h1 h2 => h x h2 h1
  | some a => exact ⟨h.2.1, h.1, fun x h1 h2 => h.2.2 x h2 h1⟩

theorem joins_same {b n : Nat} (hb : 2 ≤ b) (h1 : 1 ≤ n) (h2 : n ≤ 3000) : Joins b n n (some n) := by
  have hm : n ∈ rowL b n := by rw [rowL_cons hb h1 h2]; simp
  exact ⟨hm, hm, fun x hx _ => (rowL_ge hb n h1 x hx).1⟩

/-- The lesser one of both goes on. -/
theorem joins_step {b n m : Nat} (hb : 2 ≤ b) (h1 : 1 ≤ n) (h2 : n ≤ 3000) (hm : n < m) {r : Option Nat} (h : Joins b (madeN b n) m r) : Joins b n m r := by
  have hno : n ∉ rowL b m := fun hx => by have := rowL_ge hb m (by omega) n hx; omega
  have hc := rowL_cons hb h1 h2
  cases r with
  | none =>
    intro x hx
    rw [hc, List.mem_cons] at hx
    rcases hx with rfl | hx
    · exact hno
    · exact h x hx
  | some a =>
    refine ⟨by rw [hc]; exact List.mem_cons_of_mem _ h.1, h.2.1, fun x hx hxm => ?_⟩
    rw [hc, List.mem_cons] at hx
    rcases hx with rfl | hx
    · exact absurd hxm hno
    · exact h.2.2 x hx hxm

theorem joins_big {b n m : Nat} (h : 3000 < n) : Joins b n m none := by
  intro x hx
  rw [rowL_big h] at hx; simp at hx

end Pl
end Go.Proofs.Ytakkjlcnfkklpaa
