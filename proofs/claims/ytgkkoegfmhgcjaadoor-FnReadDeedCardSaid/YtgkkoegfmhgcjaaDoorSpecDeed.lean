/-
  spec.DeedText: the text of a deed.
-/
import Derived.Test.YtgkkoegfmhgcjaaDoorSpecText
namespace Go.Proofs.YtgkkoegfmhgcjaaDoor
open Go.RowKit Go.Shelf

set_option maxRecDepth 100000 in
set_option maxHeartbeats 2000000 in
theorem specDeedText (k n : Int) (w : World) :
    Calls Tryd.prog 10 #[.agg #[.int .i64 k, .int .i64 n]] w fun e w' => e = .returned (.string (Pl.str (Pl.deedL k n))) ∧ Below w.heap.size w w' := by
  have b0 : Below w.heap.size w (w.alloc (.cells #[.int .i64 k, .int .i64 n] 25)) := (Below.refl _ _).alloc (Nat.le_refl _) _
  by_cases h1 : k = 0
  · subst h1
    by_cases hn : (decide (0 ≤ n) && decide (n ≤ 1000000000)) = true
    · have hn2 : 0 ≤ n ∧ n ≤ 1000000000 := by simpa using hn
      obtain ⟨m, rfl⟩ := Int.eq_ofNat_of_zero_le hn2.1
      have hm : m ≤ 1000000000 := by omega
      have hD : (⟨#[116, 111, 32]⟩ : ByteArray) ++ Pl.str (Pl.decL m) = Pl.str (Pl.deedL 0 m) := by
        rw [Pl.deedL_to hm, ← Pl.str_add]; rfl
      have hfit : ¬ 9223372036854775807 < (⟨#[116, 111, 32]⟩ : ByteArray).size + (Pl.str (Pl.decL m)).size := by
        have := Pl.decL_len13 (u := m) (by omega)
        rw [Pl.str_size]
        have e : (⟨#[116, 111, 32]⟩ : ByteArray).size = 3 := rfl
        omega
      have e3 : (⟨#[116, 111, 32]⟩ : ByteArray).size = 3 := rfl
      rw [e3] at hfit
      have HD := Lib.hid hD
      have HN := Lib.hid (specNumber m (by omega))
      clear hD hn2 e3
      generalize Pl.str (Pl.decL m) = A at *
      generalize Pl.str (Pl.deedL 0 m) = C at *
      go_enter Tryd.func10, Tryd.ntmps10
      go_wp2_with (first | (go_at_call 22; refine (specIn _ _ _ _).mono ?_; rintro e w' ⟨rfl, rfl⟩; rw [hn]) | (go_at_call 23; refine (HN.out _).mono ?_; rintro e w2 ⟨rfl, hb2⟩))
      go_ret
      exact ⟨ret_str HD.out, b0.trans (hb2.mono b0.size)⟩
    · have hn' : (decide (0 ≤ n) && decide (n ≤ 1000000000)) = false := by simpa using hn
      have HD : Hid (Pl.str (Pl.deedL 0 n) = ⟨#[]⟩) := Lib.hid (by rw [Pl.deedL_no (fun h => hn (by simp [h.2.1, h.2.2])) (by omega)]; rfl)
      clear hn
      go_enter Tryd.func10, Tryd.ntmps10
      go_wp2_with (first | (go_at_call 22; with_reducible (refine (specIn n _ _ _).mono ?_); rintro e w' ⟨rfl, rfl⟩; rw [hn']) | (go_at_call 22; refine (specIn_no 0 1 7 _ (by omega)).mono ?_; rintro e w' ⟨rfl, rfl⟩))
      go_ret
      exact ⟨ret_str HD.out.symm, b0⟩
  · have hk0 : (k == 0) = false := by rw [beq_eq_false_iff_ne]; exact h1
    by_cases h2 : 1 ≤ k ∧ k ≤ 7
    · have HI := Lib.hid (fun W => specIn_yes k 1 7 W h2)
      by_cases h3 : n = 0
      · subst h3
        obtain ⟨m, rfl⟩ := Int.eq_ofNat_of_zero_le (show 0 ≤ k by omega)
        have h7 : m = 1 ∨ m = 2 ∨ m = 3 ∨ m = 4 ∨ m = 5 ∨ m = 6 ∨ m = 7 := by omega
        have HD : Hid (Pl.str (Pl.deedL (m : Int) 0) = Pl.str (Pl.wordL m)) := Lib.hid (by rw [Pl.deedL_word (by omega) (by omega)])
        clear h1 h2 hk0
        rcases h7 with rfl | rfl | rfl | rfl | rfl | rfl | rfl
        all_goals
          go_enter Tryd.func10, Tryd.ntmps10
          go_wp2_with (go_at_call 22; refine (HI.out _).mono ?_; rintro e w' ⟨rfl, rfl⟩)
          go_ret
          exact ⟨ret_str (by rw [HD.out]; rfl), b0.alloc (by simp) _⟩
      · have hn0 : (n == 0) = false := by rw [beq_eq_false_iff_ne]; exact h3
        have HD : Hid (Pl.str (Pl.deedL k n) = ⟨#[]⟩) := Lib.hid (by rw [Pl.deedL_no (fun h => h1 h.1) (fun h => h3 h.2.2)]; rfl)
        clear h1 h2 h3
        go_enter Tryd.func10, Tryd.ntmps10
        go_wp2_with (go_at_call 22; refine (HI.out _).mono ?_; rintro e w' ⟨rfl, rfl⟩)
        go_ret
        exact ⟨ret_str HD.out.symm, b0⟩
    · have HI := Lib.hid (fun W => specIn_no k 1 7 W h2)
      have HD : Hid (Pl.str (Pl.deedL k n) = ⟨#[]⟩) := Lib.hid (by rw [Pl.deedL_no (fun h => h1 h.1) (fun h => h2 ⟨h.1, h.2.1⟩)]; rfl)
      clear h1 h2
      go_enter Tryd.func10, Tryd.ntmps10
      go_wp2_with (go_at_call 22; refine (HI.out _).mono ?_; rintro e w' ⟨rfl, rfl⟩)
      go_ret
      exact ⟨ret_str HD.out.symm, b0⟩

end Go.Proofs.YtgkkoegfmhgcjaaDoor
