/-
  laws.toIntS copies a slice of integers into new memory.
-/
import Derived.Test.YtakkjlcnfkklpaaDigitsOf
import Derived.Test.YtakkjlcnfkklpaaList
namespace Go.Proofs.Ytakkjlcnfkklpaa
open Go.RowKit

theorem copy_step (xs : List Int) (j : Nat) (hj : j < xs.length) : (xs.take j ++ List.replicate (xs.length - j) 0).set j (xs[j]?.getD 0) = xs.take (j + 1) ++ List.replicate (xs.length - (j + 1)) 0 := by
  apply List.ext_getElem
  · simp; omega
  · intro i h1 h2
    simp only [List.getElem_set, List.getElem_append, List.length_take, List.getElem_take, List.getElem_replicate]
    split
    · subst i; rw [dif_pos (by omega), List.getElem?_eq_getElem hj]; rfl
    · split
      · rw [dif_pos (by omega)]
      · rw [dif_neg (by omega)]

set_option maxHeartbeats 1000000 in
theorem toIntS (v : Value) (xs : List Int) (w : World) (hv : Ints w v xs) (hx : xs.length ≤ 1000000000) :
    Calls Try.prog 56 #[v] w (ListPost w xs) := by
  obtain ⟨a, cap, rfl, ha⟩ := hv
  obtain ⟨i0, hi0, hz0, hz1, hz2⟩ := info_parts info_int
  obtain ⟨n, hn⟩ : ∃ n, xs.length = n := ⟨_, rfl⟩
  have HN := Lib.hid hn
  rw [hn] at ha hx ⊢
  clear hn
  go_enter Try.func56, Try.ntmps56
  go_wp2_with (at_make; refine wpList_make_full _ rfl _ _ 23 rfl w.heap.size 3 i0 (.int .i64 0) 1 Try.underlying23 hi0 hz0 hz1 .i64 .i64 _ _ n rfl rfl rfl rfl (by rw [hz2]; omega) (by unfold maxLen; omega) (Nat.le_refl _) ?_; intro w0 hown0 hgrow0)
  have hb0 : Below w.heap.size w w0 := (Below.refl _ w).grown hgrow0 (Nat.le_refl _) (fun k e => by cases e)
  have hr0 : Row w.heap.size w0 (.slice (some ⟨w.heap.size, 0, none⟩) n n) (xs.take 0 ++ List.replicate (n - 0) 0) := by
    unfold Row
    rw [Nat.mul_one] at hown0
    have e : (madeCells (Value.int .i64 0).cells n).toList = (List.replicate n (0 : Int)).map (Value.int .i64) := by
      rw [show (Value.int .i64 0).cells = #[.int .i64 0] from rfl, toList_madeCells_one]; simp
    rw [e] at hown0
    simpa using hown0
  go_loopw [4] (fun i wr => ∃ k : Nat, k ≤ n ∧ i = .int .i64 k ∧ Row w.heap.size wr (.slice (some ⟨w.heap.size, 0, none⟩) n n) (xs.take k ++ List.replicate (n - k) 0) ∧ Below w.heap.size w wr) (fun i _ => n - (intOf i).toNat)
  case atStart => exact ⟨0, Nat.zero_le _, rfl, hr0, hb0⟩
  case round =>
    obtain ⟨k, hk, rfl, hr, hbl⟩ := hrel
    by_cases hlt : k < n
    · obtain ⟨b, off, rfl, hc⟩ := ha k hlt
      have hc' : wr.cell? ⟨b, off + k, none⟩ = some (.int .i64 (xs[k]?.getD 0)) := (hbl.cell (p := ⟨b, off + k, none⟩) (World.block_lt_of_cell? _ _ hc)).trans hc
      have hlen : (xs.take k ++ List.replicate (n - k) 0).length = n := by have := HN.out; simp; omega
      obtain ⟨c1, c2⟩ := hr.cellAt hlen k hlt
      have hs := hr.set hlen k (xs[k]?.getD 0)
      have hst := copy_step xs k (by have := HN.out; omega)
      rw [HN.out] at hst
      rw [hst] at hs
      have HS := Lib.hid hs
      have hi : (k : Int) < (n : Int) := by omega
      generalize xs[k]?.getD 0 = q at *
      clear ha hc hr hb0 hown0 hgrow0 hr0 hs hst hlen
      go_wp2
      go_roundw
      case rel => exact ⟨k + 1, by omega, by go_num, HS.out, hbl.setCell (p := ⟨w.heap.size, k, none⟩) (Nat.le_refl _) _⟩
      case measure => simp [intOf]; omega
    · obtain rfl : k = n := by omega
      have HR := Lib.hid hr
      have hfull : xs.take k ++ List.replicate (k - k) 0 = xs := by rw [Nat.sub_self, List.take_of_length_le (by have := HN.out; omega)]; simp
      have HF := Lib.hid hfull
      clear ha hb0 hown0 hgrow0 hr hfull hr0
      go_wp2
      go_ret
      exact ⟨_, rfl, by have := HR.out; rw [HF.out] at this; exact this, hbl⟩

end Go.Proofs.Ytakkjlcnfkklpaa
