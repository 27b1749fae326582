/-
  spec: numbers with commas between them, yes or no.
-/
import Derived.Test.YtgkkoegfmhgcjaaGreatDoorGText
import Derived.Test.YtgkkoegfmhgcjaaGreatDoorMathLine
namespace Go.Proofs.YtgkkoegfmhgcjaaGreatDoor
open Go.RowKit Go.Shelf

theorem specSaid (b : Bool) (w : World) : Calls Tryz.prog 68 #[.bool b] w fun e w' => e = .returned (.string (Pl.str (Pl.saidL b))) ∧ w = w' := by
  cases b
  all_goals
    go_enter Tryz.func68, Tryz.ntmps68
    go_wp2
    go_ret
    exact ⟨rfl, rfl⟩

theorem Pl.comma_step {xs : List Int} {k : Nat} (h : k < xs.length) : Pl.commaL (xs.take (k + 1)) = (if 0 < k then Pl.commaL (xs.take k) ++ [44] else Pl.commaL (xs.take k)) ++ Pl.decI (xs[k]?.getD 0) := by
  rw [List.getElem?_eq_getElem h, Option.getD_some, List.take_succ_eq_append_getElem h]
  cases k with
  | zero => simp [Pl.commaL, Lib.join_one, Lib.join_nil]
  | succ k =>
    rw [if_pos (by omega), Pl.commaL, List.map_append, List.map_cons, List.map_nil, Pl.join_snoc _ _ _ (by
      intro e
      have := congrArg List.length e
      simp only [List.length_map, List.length_take, List.length_nil] at this
      omega), Pl.commaL, List.append_assoc]

set_option maxRecDepth 100000 in
set_option maxHeartbeats 2000000 in
theorem specRow (v : Value) (xs : List Int) (w : World) (hv : Ints w v xs) (hf : Pl.Few xs) (hx : xs.length ≤ 30000000) :
    Calls Tryz.prog 64 #[v] w fun e w' => e = .returned (.string (Pl.str (Pl.rowT xs))) ∧ Below w.heap.size w w' := by
  obtain ⟨a, cap, rfl, hc⟩ := hv
  have HC := Lib.hid hc
  have HF := Lib.hid hf
  clear hc hf
  obtain ⟨R, hR⟩ : ∃ R, Pl.str (Pl.rowT xs) = R := ⟨_, rfl⟩
  rw [hR]
  have HRR := Lib.hid hR
  clear hR
  go_enter Tryz.func64, Tryz.ntmps64
  go_wp2_with fail
  go_loopw [3, 4] (fun ov kv wr => ∃ k : Nat, k ≤ xs.length ∧ ov = .string (Pl.str (Pl.commaL (xs.take k))) ∧ kv = .int .i64 k ∧ Below w.heap.size w wr) (fun _ kv _ => xs.length - (intOf kv).toNat)
  case atStart => exact ⟨0, Nat.zero_le _, rfl, rfl, Below.refl _ _⟩
  case round =>
    obtain ⟨k, hk, rfl, rfl, hbw⟩ := hrel
    have hsz := hbw.size
    by_cases hlt : k < xs.length
    · obtain ⟨b, off, rfl, ck⟩ := HC.out k hlt
      have hbb : b < w.heap.size := World.block_lt_of_cell? _ _ ck
      have dk := (hbw.cell (p := ⟨b, off + k, none⟩) hbb).trans ck
      have hi : (k : Int) < (xs.length : Int) := by omega
      have hq := HF.out (xs[k]?.getD 0) (by rw [List.getElem?_eq_getElem hlt]; exact List.getElem_mem _)
      have hstep := Pl.comma_step hlt
      have hl1 := Pl.comma_len (xs := xs.take k) (fun x hx => HF.out x (List.mem_of_mem_take hx))
      rw [List.length_take] at hl1
      have hl2 := Pl.decI_len (n := xs[k]?.getD 0) (by omega)
      obtain ⟨q, hq1⟩ := Int.eq_ofNat_of_zero_le hq.1
      rw [hq1] at dk hstep hl2
      have hq2 : q ≤ 1000000000000 := by omega
      rw [Pl.decI_nat] at hstep hl2
      have hfit1 : ¬ 9223372036854775807 < (Pl.str (Pl.commaL (xs.take k))).size + 1 := by
        rw [Pl.str_size]; omega
      have hfit2 : ¬ 9223372036854775807 < (Pl.str (Pl.commaL (xs.take k))).size + (Pl.str (Pl.decL q)).size := by
        rw [Pl.str_size, Pl.str_size]; omega
      have hfit3 : ¬ 9223372036854775807 < (Pl.str (Pl.commaL (xs.take k)) ++ ⟨#[44]⟩).size + (Pl.str (Pl.decL q)).size := by
        rw [show (⟨#[44]⟩ : ByteArray) = Pl.str [44] from rfl, Pl.str_add, Pl.str_size, Pl.str_size, List.length_append]; simp; omega
      have HN := Lib.hid (fun W => specNumber q hq2 W)
      clear ck hq hq1 hq2 hl1 hl2
      by_cases h0 : 0 < k
      · have h0' : (0 : Int) < (k : Int) := by omega
        rw [if_pos h0] at hstep
        have HS : Hid (Pl.str (Pl.commaL (xs.take k)) ++ ⟨#[44]⟩ ++ Pl.str (Pl.decL q) = Pl.str (Pl.commaL (xs.take (k + 1)))) := Lib.hid (by
          rw [hstep, show (⟨#[44]⟩ : ByteArray) = Pl.str [44] from rfl, Pl.str_add, Pl.str_add])
        clear hstep
        generalize Pl.str (Pl.commaL (xs.take k)) = X at *
        generalize Pl.str (Pl.decL q) = A at *
        go_wp2_with fail
        refine (HN.out _).mono ?_
        rintro e w7 ⟨rfl, b7⟩
        have c7 := hbw.trans (b7.mono hsz)
        go_wp2_with fail
        go_roundw
        case rel => exact ⟨k + 1, by omega, by rw [← HS.out], by go_num, c7⟩
        case measure => simp [intOf]; omega
      · obtain rfl : k = 0 := by omega
        rw [if_neg h0] at hstep
        have HS : Hid (Pl.str (Pl.commaL (xs.take 0)) ++ Pl.str (Pl.decL q) = Pl.str (Pl.commaL (xs.take (0 + 1)))) := Lib.hid (by
          rw [hstep, Pl.str_add])
        have dk0 : wr.cell? ⟨b, off, none⟩ = some (.int .i64 q) := by simpa using dk
        clear hstep dk
        generalize Pl.str (Pl.commaL (xs.take 0)) = X at *
        generalize Pl.str (Pl.decL q) = A at *
        go_wp2_with fail
        refine (HN.out _).mono ?_
        rintro e w7 ⟨rfl, b7⟩
        have c7 := hbw.trans (b7.mono hsz)
        go_wp2_with fail
        go_roundw
        case rel => exact ⟨0 + 1, by omega, by rw [← HS.out], by go_num, c7⟩
        case measure => simp [intOf]; omega
    · obtain rfl : k = xs.length := by omega
      have hi : ¬ (xs.length : Int) < (xs.length : Int) := by omega
      rw [List.take_of_length_le (Nat.le_refl _)] at *
      by_cases h0 : xs = []
      · have HR : Hid (R = Pl.str Pl.noneW) := Lib.hid (by rw [← HRR.out, Pl.rowT, if_pos h0])
        have hl0 : (xs.length : Int) = 0 := by rw [h0]; rfl
        clear h0
        generalize Pl.str (Pl.commaL xs) = X at *
        go_wp2_with fail
        go_ret
        exact ⟨ret_str HR.out.symm, hbw⟩
      · have HR : Hid (R = Pl.str (Pl.commaL xs)) := Lib.hid (by rw [← HRR.out, Pl.rowT, if_neg h0])
        have hl0 : ¬ (xs.length : Int) = 0 := by
          intro e
          exact h0 (List.length_eq_zero_iff.1 (by omega))
        clear h0
        generalize Pl.str (Pl.commaL xs) = X at *
        go_wp2_with fail
        go_ret
        exact ⟨ret_str HR.out.symm, hbw⟩

end Go.Proofs.YtgkkoegfmhgcjaaGreatDoor
