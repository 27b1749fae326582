/-
  laws.hasInt and laws.ascend: whether a list has a number; whether it ascends.
-/
import Derived.Test.YtcigepkjnnknlaaList
namespace Go.Proofs.Ytcigepkjnnknlaa
open Go.RowKit

theorem not_mem_of {xs : List Int} {x : Int} (h : ∀ i, i < xs.length → xs[i]?.getD 0 ≠ x) : x ∉ xs := by
  intro hx
  obtain ⟨i, hi, he⟩ := List.mem_iff_getElem.1 hx
  exact h i hi (by rw [List.getElem?_eq_getElem hi, Option.getD_some, he])

theorem asc_at {xs : List Int} (h : xs.Pairwise (· < ·)) {k : Nat} (h1 : 1 ≤ k) (hk : k < xs.length) : xs[k - 1]?.getD 0 < xs[k]?.getD 0 := by
  have := List.pairwise_iff_getElem.1 h (k - 1) k (by omega) hk (by omega)
  rw [List.getElem?_eq_getElem hk, List.getElem?_eq_getElem (by omega)]
  exact this

set_option maxHeartbeats 800000 in
theorem ascend (v : Value) (xs : List Int) (w : World) (hv : Ints w v xs) (hx : xs.length ≤ 1000000000) (hm : xs.Pairwise (· < ·)) :
    Calls Try.prog 23 #[v] w fun e w' => e = .returned (.bool true) ∧ Below w.heap.size w w' := by
  obtain ⟨a, cap, rfl, ha⟩ := hv
  have HM := Lib.hid hm
  clear hm
  go_enter Try.func23, Try.ntmps23
  go_wp2
  go_loopw [3] (fun i wr => ∃ k n : Nat, 1 ≤ k ∧ k ≤ xs.length + 1 ∧ i = .int .i64 k ∧ wr = w.drewN n) (fun i _ => xs.length + 1 - (intOf i).toNat)
  case atStart => exact ⟨1, 0, by omega, by omega, rfl, rfl⟩
  case round =>
    obtain ⟨k, n, hk1, hk, rfl, rfl⟩ := hrel
    by_cases hlt : k < xs.length
    · obtain ⟨b1, o1, rfl, c1⟩ := ha k hlt
      obtain ⟨b2, o2, he, c2⟩ := ha (k - 1) (by omega)
      obtain ⟨rfl, rfl⟩ : b1 = b2 ∧ o1 = o2 := by simpa using he
      have hq := asc_at HM.out hk1 hlt
      clear ha he
      generalize xs[k]?.getD 0 = p at *
      generalize xs[k - 1]?.getD 0 = q at *
      have hi1 : (k : Int) < (xs.length : Int) := by omega
      have hi2 : ((k - 1 : Nat) : Int) < (xs.length : Int) := by omega
      have e1 : (k : Int) - 1 = ((k - 1 : Nat) : Int) := by omega
      have hpq : ¬ p ≤ q := by omega
      go_wp2
      go_quiet (fail)
      go_wp2
      refine ⟨⟨k + 1, n + nq, by omega, by omega, by go_num, rfl⟩, by simp [intOf]; omega⟩
    · go_wp2
      go_ret
      exact ⟨rfl, drewN_below _ _⟩

end Go.Proofs.Ytcigepkjnnknlaa
