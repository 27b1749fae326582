/-
  impl.OwnSteps (with slices.Contains), spec.OwnSteps: the numbers that follow a number, in new memory; the exact law.
-/
import Derived.Test.YtepkneeedkmaoaaOwnUpTo
import Derived.Test.YtepkneeedkmaoaaHas
import Derived.Deep.LoopGhost
namespace Go.Proofs.Ytepkneeedkmaoaa
open Go.RowKit Go.Shelf

set_option maxHeartbeats 800000 in
theorem sliceIndex (v : Value) (xs : List Int) (x : Int) (w : World) (hv : Ints w v xs) (hx : xs.length ≤ 1000000000) :
    Calls Try.prog 55 #[v, .int .i64 x] w fun e w' => (∃ i : Int, e = .returned (.int .i64 i) ∧ (0 ≤ i ↔ x ∈ xs)) ∧ w = w' := by
  obtain ⟨a, cap, rfl, ha⟩ := hv
  go_enter Try.func55, Try.ntmps55
  go_wp2
  go_loop [5, 8] (fun _ i => ∃ k : Nat, k ≤ xs.length ∧ i = .int .i64 k ∧ (∀ j, j < k → xs[j]?.getD 0 ≠ x)) (fun _ i => xs.length - (intOf i).toNat)
  case atStart => exact ⟨0, Nat.zero_le _, rfl, fun j hj => by omega⟩
  case round =>
    obtain ⟨k, hk, rfl, hno⟩ := hrel
    have HNO := Lib.hid hno
    clear hno
    by_cases hlt : k < xs.length
    · obtain ⟨b1, o1, rfl, c1⟩ := ha k hlt
      clear ha
      obtain ⟨p, hp⟩ : ∃ p, xs[k]?.getD 0 = p := ⟨_, rfl⟩
      rw [hp] at c1
      have HP := Lib.hid hp
      clear hp
      have hi : (k : Int) < (xs.length : Int) := by omega
      by_cases he : p = x
      · have hb : (x == p) = true := by simp [he]
        have HE := Lib.hid he
        clear he
        go_wp2
        go_ret
        refine ⟨⟨_, rfl, ?_⟩, rfl⟩
        refine ⟨fun _ => ?_, fun _ => by omega⟩
        have h1 := HP.out
        rw [List.getElem?_eq_getElem hlt, Option.getD_some] at h1
        rw [← HE.out, ← h1]; exact List.getElem_mem hlt
      · have hb : (x == p) = false := by simp; exact fun h => he h.symm
        have HE := Lib.hid he
        clear he
        go_wp2
        go_round
        case rel => exact ⟨k + 1, by omega, by simp, fun j hj => by
          by_cases h : j = k
          · subst h; rw [HP.out]; exact HE.out
          · exact HNO.out j (by omega)⟩
        case measure => simp [intOf]; omega
    · obtain rfl : k = xs.length := by omega
      have hi : ¬ (xs.length : Int) < (xs.length : Int) := by omega
      clear ha
      go_wp2
      go_ret
      exact ⟨⟨_, rfl, ⟨fun h => by omega, fun h => absurd h (not_mem_of HNO.out)⟩⟩, rfl⟩

set_option maxHeartbeats 400000 in
theorem sliceContains (v : Value) (xs : List Int) (x : Int) (w : World) (hv : Ints w v xs) (hx : xs.length ≤ 1000000000) :
    Calls Try.prog 54 #[v, .int .i64 x] w fun e w' => e = .returned (.bool (decide (x ∈ xs))) ∧ w = w' := by
  have HI := Lib.hid (sliceIndex v xs x w hv hx)
  by_cases h : x ∈ xs
  · go_enter Try.func54, Try.ntmps54
    go_wp2_with fail
    refine HI.out.mono ?_
    rintro e w' ⟨⟨i, rfl, hi⟩, rfl⟩
    have hi0 := hi.2 h
    clear hi
    go_wp2
    go_ret
    exact ⟨ret_bool (by simp [h]), rfl⟩
  · go_enter Try.func54, Try.ntmps54
    go_wp2_with fail
    refine HI.out.mono ?_
    rintro e w' ⟨⟨i, rfl, hi⟩, rfl⟩
    have hi0 : ¬ 0 ≤ i := fun hh => h (hi.1 hh)
    clear hi
    go_wp2
    go_ret
    exact ⟨ret_bool (by simp [h]; omega), rfl⟩

theorem Pl.mem_ints {l : List Nat} {x : Nat} : (x : Int) ∈ Pl.ints l ↔ x ∈ l := by
  unfold Pl.ints
  rw [List.mem_map]
  constructor
  · rintro ⟨y, hy, he⟩; rwa [show x = y by omega]
  · exact fun h => ⟨x, h, rfl⟩

theorem Pl.stepsA_ints (n r b : Nat) (h : Pl.ownB n r b = true) : Pl.stepsA n r b = Pl.ints (Pl.stepsL (Pl.ownN r b) n) := Pl.stepsA_yes n r b h

theorem row_first (w : World) (q : Int) : Row w.heap.size (w.alloc (.cells #[.int .i64 q] 3)) (.slice (some ⟨w.heap.size, 0, none⟩) 1 1) [q] := row_one w q

end Go.Proofs.Ytepkneeedkmaoaa
