/-
  PrimesOf of the program: how many different primes divide a base.
-/
import Derived.Test.YtcepbhmnbfaoeaaSpecEnds
namespace Go.Proofs.Ytcepbhmnbfaoeaa
open Go.RowKit Go.Shelf

namespace Pl
/-- How many from a number on divide what is left, until that is 1. -/
def cntG : Nat → Nat → Nat → Nat → Option Nat
  | 0, _, left, c => if 1 < left then none else some c
  | f + 1, p, left, c => if 1 < left then cntG f (p + 1) (stripN p 5 left) (c + (if left % p = 0 then 1 else 0)) else some c
theorem cntG_check : ((List.range 15).all fun i => cntG 20 2 (i + 2) 0 == some (primesT (i + 2))) = true := by decide +kernel
theorem cntG_all {b : Nat} (h1 : 2 ≤ b) (h2 : b ≤ 16) : cntG 20 2 b 0 = some (primesT b) := by
  have c1 := List.all_eq_true.1 cntG_check (b - 2) (List.mem_range.2 (by omega))
  rw [show b - 2 + 2 = b by omega, beq_iff_eq] at c1
  exact c1
end Pl

/-- What is counted and what is left, until that is 1. -/
def PrimesTo (k C p left : Nat) : Prop := ∃ f, f + p = 22 ∧ Pl.cntG f p left C = some (Pl.primesT k)

set_option maxHeartbeats 1000000 in
theorem implPrimesOf (b : Int) (w : World) :
    Calls Try.prog 24 #[.int .i64 b] w fun e w' => e = .returned (.int .i64 (Pl.primesI b)) ∧ Below w.heap.size w w' := by
  by_cases hB : Pl.baseB b = true
  · obtain ⟨k, rfl, h1, h2⟩ : ∃ k : Nat, b = (k : Int) ∧ 2 ≤ k ∧ k ≤ 16 := by
      rw [Pl.baseB_iff] at hB; exact ⟨b.toNat, by omega, by omega, by omega⟩
    rw [Pl.primesI_yes h1 h2]
    have HC : Hid (PrimesTo k 0 2 k) := Lib.hid ⟨20, rfl, Pl.cntG_all h1 h2⟩
    go_enter Try.func24, Try.ntmps24
    go_wp2_with (go_at_call 23; refine (implBaseOk _ _).mono ?_; rintro e w' ⟨rfl, rfl⟩; rw [hB])
    go_loop [3, 4, 5] (fun cv lv pv => ∃ (C left p : Nat), cv = .int .i64 C ∧ lv = .int .i64 left ∧ pv = .int .i64 p ∧ 1 ≤ left ∧ left ≤ 16 ∧ 2 ≤ p ∧ p ≤ 22 ∧ C + 2 ≤ p ∧ PrimesTo k C p left) (fun _ _ pv => 22 - (intOf pv).toNat)
    case atStart => exact ⟨0, k, 2, rfl, rfl, rfl, by omega, h2, by omega, by omega, by omega, HC.out⟩
    case round =>
      clear hB HC
      obtain ⟨C, left, p, rfl, rfl, rfl, hl1, hl2, hp1, hp2, hCp, f, hf, hcnt⟩ := hrel
      by_cases hle : 1 < left
      · have hi : (1 : Int) < (left : Int) := by omega
        have hp0 : ((p : Int) == 0) = false := by simp; omega
        obtain ⟨F, rfl⟩ : ∃ F, f = F + 1 := ⟨f - 1, by
          have : f ≠ 0 := fun e => by rw [e, Pl.cntG, if_pos hle] at hcnt; exact absurd hcnt (by simp)
          omega⟩
        rw [Pl.cntG, if_pos hle] at hcnt
        have hspos := Pl.strip_pos (p := p) 5 left hl1
        have hsle := Pl.strip_le p 5 left
        obtain ⟨X, hX⟩ : ∃ X, (if left % p = 0 then 1 else 0) = X := ⟨_, rfl⟩
        rw [hX] at hcnt
        have HCNT := Lib.hid hcnt
        generalize hS : Pl.stripN p 5 left = S at *
        have HS := Lib.hid hS
        clear hcnt hS
        by_cases h0 : left % p = 0
        · rw [if_pos h0] at hX
          have ht : ((left : Int) % (p : Int) == 0) = true := by
            have e : (left : Int) % (p : Int) = ((left % p : Nat) : Int) := rfl
            rw [e, h0]; rfl
          obtain rfl : X = 1 := hX.symm
          clear hX h0
          go_wp2_with fail
          go_loop [4] (fun lv => ∃ (q g : Nat), lv = .int .i64 q ∧ 1 ≤ q ∧ q ≤ 16 ∧ q < 2 ^ g ∧ g ≤ 5 ∧ Pl.stripN p g q = S) (fun lv => (intOf lv).toNat)
          case atStart => exact ⟨left, 5, rfl, hl1, hl2, by omega, by omega, HS.out⟩
          case round =>
            obtain ⟨q, g, rfl, hq1, hq2, hqg, hg, hqS⟩ := hrel
            obtain ⟨G, rfl⟩ : ∃ G, g = G + 1 := ⟨g - 1, by
              have : g ≠ 0 := fun e => by rw [e] at hqg; simp at hqg; omega
              omega⟩
            have hqS' : (if q % p = 0 then Pl.stripN p G (q / p) else q) = S := hqS
            by_cases hz : q % p = 0
            · rw [if_pos hz] at hqS'
              have htq : ((q : Int) % (p : Int) == 0) = true := by
                have e : (q : Int) % (p : Int) = ((q % p : Nat) : Int) := rfl
                rw [e, hz]; rfl
              have hd1 := Nat.div_add_mod q p
              have hdq : 1 ≤ q / p := Classical.byContradiction fun hno => by
                rw [Nat.eq_zero_of_not_pos hno, hz] at hd1; omega
              have hd2 : q / p < q := Nat.div_lt_self (by omega) (by omega)
              have hd3 : q / p < 2 ^ G := by
                have g1 : q / p ≤ q / 2 := Nat.div_le_div_left hp1 (by omega)
                rw [Nat.pow_succ] at hqg; omega
              have e1 : ((q : Int)).tdiv (p : Int) = ((q / p : Nat) : Int) := rfl
              have HQ := Lib.hid hqS'
              have HD3 := Lib.hid hd3
              clear hqS hqS' hz hd1 hqg hd3
              generalize q / p = Q at *
              have e2 : IntKind.i64.wrap (Q : Int) = (Q : Int) := IntWalk.i64_in _ (by omega)
              go_wp2_with fail
              go_round
              case rel => exact ⟨Q, G, rfl, hdq, by omega, HD3.out, by omega, HQ.out⟩
              case measure => simp [intOf]; omega
            · rw [if_neg hz] at hqS'
              have htq : ((q : Int) % (p : Int) == 0) = false := by
                have e : (q : Int) % (p : Int) = ((q % p : Nat) : Int) := rfl
                rw [e, beq_eq_false_iff_ne]; omega
              have HQ := Lib.hid hqS'
              clear hqS hqS' hz hqg
              go_wp2_with fail
              go_round
              case rel => exact ⟨C + 1, q, p + 1, by go_num, rfl, by go_num, hq1, by omega, by omega, by omega, by omega, F, by omega, by rw [HQ.out]; exact HCNT.out⟩
              case measure => simp [intOf]; omega
        · rw [if_neg h0] at hX
          have ht : ((left : Int) % (p : Int) == 0) = false := by
            have e : (left : Int) % (p : Int) = ((left % p : Nat) : Int) := rfl
            rw [e, beq_eq_false_iff_ne]; omega
          obtain rfl : X = 0 := hX.symm
          clear hX h0
          go_wp2_with fail
          go_loop [4] (fun lv => ∃ (q g : Nat), lv = .int .i64 q ∧ 1 ≤ q ∧ q ≤ 16 ∧ q < 2 ^ g ∧ g ≤ 5 ∧ Pl.stripN p g q = S) (fun lv => (intOf lv).toNat)
          case atStart => exact ⟨left, 5, rfl, hl1, hl2, by omega, by omega, HS.out⟩
          case round =>
            obtain ⟨q, g, rfl, hq1, hq2, hqg, hg, hqS⟩ := hrel
            obtain ⟨G, rfl⟩ : ∃ G, g = G + 1 := ⟨g - 1, by
              have : g ≠ 0 := fun e => by rw [e] at hqg; simp at hqg; omega
              omega⟩
            have hqS' : (if q % p = 0 then Pl.stripN p G (q / p) else q) = S := hqS
            by_cases hz : q % p = 0
            · rw [if_pos hz] at hqS'
              have htq : ((q : Int) % (p : Int) == 0) = true := by
                have e : (q : Int) % (p : Int) = ((q % p : Nat) : Int) := rfl
                rw [e, hz]; rfl
              have hd1 := Nat.div_add_mod q p
              have hdq : 1 ≤ q / p := Classical.byContradiction fun hno => by
                rw [Nat.eq_zero_of_not_pos hno, hz] at hd1; omega
              have hd2 : q / p < q := Nat.div_lt_self (by omega) (by omega)
              have hd3 : q / p < 2 ^ G := by
                have g1 : q / p ≤ q / 2 := Nat.div_le_div_left hp1 (by omega)
                rw [Nat.pow_succ] at hqg; omega
              have e1 : ((q : Int)).tdiv (p : Int) = ((q / p : Nat) : Int) := rfl
              have HQ := Lib.hid hqS'
              have HD3 := Lib.hid hd3
              clear hqS hqS' hz hd1 hqg hd3
              generalize q / p = Q at *
              have e2 : IntKind.i64.wrap (Q : Int) = (Q : Int) := IntWalk.i64_in _ (by omega)
              go_wp2_with fail
              go_round
              case rel => exact ⟨Q, G, rfl, hdq, by omega, HD3.out, by omega, HQ.out⟩
              case measure => simp [intOf]; omega
            · rw [if_neg hz] at hqS'
              have htq : ((q : Int) % (p : Int) == 0) = false := by
                have e : (q : Int) % (p : Int) = ((q % p : Nat) : Int) := rfl
                rw [e, beq_eq_false_iff_ne]; omega
              have HQ := Lib.hid hqS'
              clear hqS hqS' hz hqg
              go_wp2_with fail
              go_round
              case rel => exact ⟨C, q, p + 1, by go_num, rfl, by go_num, hq1, by omega, by omega, by omega, by omega, F, by omega, by rw [HQ.out]; exact HCNT.out⟩
              case measure => simp [intOf]; omega
      · have hi : ¬ (1 : Int) < (left : Int) := by omega
        have he : C = Pl.primesT k := by
          cases f with
          | zero => rw [Pl.cntG, if_neg hle] at hcnt; exact Option.some.inj hcnt
          | succ f => rw [Pl.cntG, if_neg hle] at hcnt; exact Option.some.inj hcnt
        have HE := Lib.hid he
        clear hcnt he
        go_wp2_with fail
        go_ret
        exact ⟨ret_int (by rw [HE.out]), Below.refl _ _⟩
  · rw [Pl.primesI_no hB]
    have hB' : Pl.baseB b = false := by simpa using hB
    clear hB
    go_enter Try.func24, Try.ntmps24
    go_wp2_with (go_at_call 23; refine (implBaseOk _ _).mono ?_; rintro e w' ⟨rfl, rfl⟩; rw [hB'])
    go_ret
    exact ⟨rfl, Below.refl _ _⟩

end Go.Proofs.Ytcepbhmnbfaoeaa
