/-
  The walk of the law of ChoiceRest.
-/
import Derived.Test.YtcepbhmnbfaoeaaDraws11
import Derived.Test.YtcepbhmnbfaoeaaSpecRest
import Derived.Test.YtcepbhmnbfaoeaaWLCarry
import Derived.Deep.RegionWith
namespace Go.Proofs.Ytcepbhmnbfaoeaa
open Go.RowKit

/-- Rows of choices and choices of digits. -/
theorem Pl.rest_facts {p n k : Nat} (hp : p ∈ Pl.primes6) : (k % p ≤ n % p → Pl.cr p (n % p) (k % p) * Pl.cr p (n / p) (k / p) % p = Pl.cr p n k) ∧ (¬ k % p ≤ n % p → Pl.cr p n k = 0) ∧ (1 ≤ k → k < n → (Pl.cr p (n - 1) (k - 1) + Pl.cr p (n - 1) k) % p = Pl.cr p n k) := by
  refine ⟨fun _ => (Pl.lucas hp n k).symm, fun h => ?_, fun h1 h2 => ?_⟩
  · rw [Pl.lucas hp n k, Pl.lucL, Pl.cr_more p _ _ (by omega), Nat.zero_mul, Nat.zero_mod]
  · obtain ⟨a, rfl⟩ : ∃ a, n = a + 1 := ⟨n - 1, by omega⟩
    obtain ⟨c, rfl⟩ : ∃ c, k = c + 1 := ⟨k - 1, by omega⟩
    rw [Pl.cr_next]; rfl

set_option maxRecDepth 100000 in
set_option maxHeartbeats 2000000 in
theorem FnChoiceRest_walk (a0 : Option Addr) (len0 cap0 : Nat) (z0 : List Int) (w : World) (w0 : IsRow .u8 w a0 len0 cap0 z0) :
    Calls Try.prog 7 #[.slice a0 len0 cap0] w fun e w' => e = .returned (.bool true) ∧ Below w.heap.size w w' := by
  by_cases hl : 1048576 < len0
  · go_enter Try.func7, Try.ntmps7
    go_wp2
    go_ret
    exact ⟨rfl, Below.refl _ _⟩
  · go_enter Try.func7, Try.ntmps7
    go_wp2_with fail
    refine (drawChoiceRest _ _ _ _ _ w0).mono ?_
    rintro e w1 ⟨n, k, p, rfl, ⟨n1, n2⟩, ⟨k1, k2⟩, ⟨p1, p2⟩, hb1⟩
    clear w0 hl
    have HI := Lib.hid (implChoiceRest n k p)
    have HS := Lib.hid (specChoiceRest n k p)
    by_cases hok : ((0 ≤ n ∧ n ≤ 200) ∧ 0 ≤ k ∧ k ≤ n) ∧ Pl.primeB p = true
    · obtain ⟨⟨g1, g2⟩, hp⟩ := hok
      obtain ⟨q, rfl, hq⟩ := Pl.primeB_nat hp
      obtain ⟨x, rfl⟩ : ∃ x : Nat, n = (x : Int) := ⟨n.toNat, by omega⟩
      obtain ⟨y, rfl⟩ : ∃ y : Nat, k = (y : Int) := ⟨k.toNat, by omega⟩
      have hx : x ≤ 200 := by omega
      have hy : y ≤ x := by omega
      have hq2 := Pl.primes6_ge hq
      rw [Pl.resI_nat hp hx hy] at HI HS
      obtain ⟨f1, f2, f3⟩ := Pl.rest_facts (n := x) (k := y) hq
      have dx : x / q ≤ x := Nat.div_le_self _ _
      have dxy : y / q ≤ x / q := Nat.div_le_div_right hy
      have rx : x % q < q := Nat.mod_lt _ (by omega)
      have HA : Hid (y % q ≤ x % q → ∀ W, Calls Try.prog 31 #[.int .i64 ((x % q : Nat) : Int), .int .i64 ((y % q : Nat) : Int), .int .i64 q] W fun e W' => e = .returned (.int .i64 ((Pl.cr q (x % q) (y % q) : Nat) : Int)) ∧ Below W.heap.size W W') := Lib.hid fun h W => by
        have := implChoiceRest ((x % q : Nat) : Int) ((y % q : Nat) : Int) q W
        rwa [Pl.resI_nat hp (by omega) h] at this
      have HB : Hid (∀ W, Calls Try.prog 31 #[.int .i64 ((x / q : Nat) : Int), .int .i64 ((y / q : Nat) : Int), .int .i64 q] W fun e W' => e = .returned (.int .i64 ((Pl.cr q (x / q) (y / q) : Nat) : Int)) ∧ Below W.heap.size W W') := Lib.hid fun W => by
        have := implChoiceRest ((x / q : Nat) : Int) ((y / q : Nat) : Int) q W
        rwa [Pl.resI_nat hp (by omega) dxy] at this
      have HC : Hid (1 ≤ y → y < x → ∀ W, Calls Try.prog 31 #[.int .i64 ((x : Int) - 1), .int .i64 ((y : Int) - 1), .int .i64 q] W fun e W' => e = .returned (.int .i64 ((Pl.cr q (x - 1) (y - 1) : Nat) : Int)) ∧ Below W.heap.size W W') := Lib.hid fun h1 h2 W => by
        have := implChoiceRest ((x - 1 : Nat) : Int) ((y - 1 : Nat) : Int) q W
        rwa [Pl.resI_nat hp (by omega) (by omega), show ((x - 1 : Nat) : Int) = (x : Int) - 1 by omega, show ((y - 1 : Nat) : Int) = (y : Int) - 1 by omega] at this
      have HD : Hid (y < x → ∀ W, Calls Try.prog 31 #[.int .i64 ((x : Int) - 1), .int .i64 (y : Int), .int .i64 q] W fun e W' => e = .returned (.int .i64 ((Pl.cr q (x - 1) y : Nat) : Int)) ∧ Below W.heap.size W W') := Lib.hid fun h2 W => by
        have := implChoiceRest ((x - 1 : Nat) : Int) (y : Int) q W
        rwa [Pl.resI_nat hp (by omega) (by omega), show ((x - 1 : Nat) : Int) = (x : Int) - 1 by omega] at this
      have l1 := Pl.cr_lt (p := q) (by omega) x y
      have l2 := Pl.cr_lt (p := q) (by omega) (x % q) (y % q)
      have l3 := Pl.cr_lt (p := q) (by omega) (x / q) (y / q)
      have l4 := Pl.cr_lt (p := q) (by omega) (x - 1) (y - 1)
      have l5 := Pl.cr_lt (p := q) (by omega) (x - 1) y
      have F1 := Lib.hid f1
      have F2 := Lib.hid f2
      have F3 := Lib.hid f3
      have e1 : ((x : Int)).tmod (q : Int) = ((x % q : Nat) : Int) := rfl
      have e1' : (x : Int) % (q : Int) = ((x % q : Nat) : Int) := rfl
      have e2 : ((y : Int)).tmod (q : Int) = ((y % q : Nat) : Int) := rfl
      have e2' : (y : Int) % (q : Int) = ((y % q : Nat) : Int) := rfl
      have e3 : ((x : Int)).tdiv (q : Int) = ((x / q : Nat) : Int) := rfl
      have e3' : (x : Int) / (q : Int) = ((x / q : Nat) : Int) := rfl
      have e4 : ((y : Int)).tdiv (q : Int) = ((y / q : Nat) : Int) := rfl
      have e4' : (y : Int) / (q : Int) = ((y / q : Nat) : Int) := rfl
      clear f1 f2 f3 hp hq
      generalize Pl.cr q (x % q) (y % q) = A at *
      generalize Pl.cr q (x / q) (y / q) = B at *
      generalize Pl.cr q (x - 1) (y - 1) = D at *
      generalize Pl.cr q (x - 1) y = E at *
      generalize Pl.cr q x y = C at *
      generalize x % q = xr at *
      generalize y % q = yr at *
      generalize x / q = xd at *
      generalize y / q = yd at *
      have w1' : IntKind.i64.wrap (xd : Int) = (xd : Int) := IntWalk.i64_in _ (by omega)
      have w2' : IntKind.i64.wrap (yd : Int) = (yd : Int) := IntWalk.i64_in _ (by omega)
      have hAB : A * B ≤ 13 * 13 := Nat.mul_le_mul (by omega) (by omega)
      have w3' : IntKind.i64.wrap ((A : Int) * (B : Int)) = ((A * B : Nat) : Int) := by rw [← Int.natCast_mul]; exact IntWalk.i64_in _ (by omega)
      have w4' : IntKind.i64.wrap ((D : Int) + (E : Int)) = ((D + E : Nat) : Int) := by rw [← Int.natCast_add]; exact IntWalk.i64_in _ (by omega)
      have e5 : (((A * B : Nat) : Int)).tmod (q : Int) = ((A * B % q : Nat) : Int) := rfl
      have e5' : ((A * B : Nat) : Int) % (q : Int) = ((A * B % q : Nat) : Int) := rfl
      have e6 : (((D + E : Nat) : Int)).tmod (q : Int) = (((D + E) % q : Nat) : Int) := rfl
      have e6' : ((D + E : Nat) : Int) % (q : Int) = (((D + E) % q : Nat) : Int) := rfl
      generalize A * B % q = M at *
      generalize A * B = AB at *
      generalize (D + E) % q = T at *
      generalize D + E = DE at *
      have hq0 : ((q : Int) == 0) = false := by rw [beq_eq_false_iff_ne]; omega
      have hq00 : ¬ q = 0 := by omega
      have hq01 : ¬ (q : Int) = 0 := by omega
      have hC0 : ¬ (C : Int) < 0 := by omega
      have hCq : (C : Int) < (q : Int) := by omega
      go_wp2_with fail
      refine (HI.out _).mono ?_
      rintro e w2 ⟨rfl, hb2⟩
      have hbc := hb1.trans (hb2.mono hb1.size)
      go_wp2_with fail
      refine (HS.out _).mono ?_
      rintro e w3 ⟨rfl, hb3⟩
      replace hbc := hbc.trans (hb3.mono hbc.size)
      clear hb1 hb2 hb3
      replace hbc := hbc.drew
      by_cases hle : yr ≤ xr
      · have hle' : (yr : Int) ≤ (xr : Int) := by omega
        obtain rfl : M = C := F1.out hle
        have HA' := Lib.hid (HA.out hle)
        clear HA F1 F2
        go_wp2_with fail
        go_region
        all_goals
          go_wp2_with fail
          replace hbc := hbc.drew
          go_region_with (first
            | (go_at_call 31; with_reducible (refine (HA'.out _).mono ?_); rintro e w4 ⟨rfl, hb4⟩; replace hbc := hbc.trans (hb4.mono hbc.size); clear hb4)
            | (go_at_call 31; with_reducible (refine (HB.out _).mono ?_); rintro e w5 ⟨rfl, hb5⟩; replace hbc := hbc.trans (hb5.mono hbc.size); clear hb5))
        all_goals
          by_cases hin : 1 ≤ y ∧ y < x
          · have hin1 : (1 : Int) ≤ (y : Int) := by omega
            have hin2 : (y : Int) < (x : Int) := by omega
            have HC' := Lib.hid (HC.out hin.1 hin.2)
            have HD' := Lib.hid (HD.out hin.2)
            have hT := F3.out hin.1 hin.2
            subst hT
            clear HC HD F3 hin
            go_wp2_with fail
            refine (HC'.out _).mono ?_
            rintro e w6 ⟨rfl, hb6⟩
            replace hbc := hbc.trans (hb6.mono hbc.size)
            go_wp2_with fail
            refine (HD'.out _).mono ?_
            rintro e w7 ⟨rfl, hb7⟩
            replace hbc := hbc.trans (hb7.mono hbc.size)
            go_wp2
            go_ret
            exact ⟨rfl, hbc⟩
          · clear HC HD F3
            by_cases hin1 : (1 : Int) ≤ (y : Int)
            · have hin2 : ¬ (y : Int) < (x : Int) := by omega
              clear hin
              go_wp2
              go_ret
              exact ⟨rfl, hbc⟩
            · clear hin
              go_wp2
              go_ret
              exact ⟨rfl, hbc⟩
      · have hle' : ¬ (yr : Int) ≤ (xr : Int) := by omega
        have hC00 : C = 0 := F2.out hle
        subst hC00
        clear HA HB F1 F2
        go_wp2_with fail
        go_region
        all_goals
          by_cases hin : 1 ≤ y ∧ y < x
          · have hin1 : (1 : Int) ≤ (y : Int) := by omega
            have hin2 : (y : Int) < (x : Int) := by omega
            have HC' := Lib.hid (HC.out hin.1 hin.2)
            have HD' := Lib.hid (HD.out hin.2)
            have hT := F3.out hin.1 hin.2
            subst hT
            clear HC HD F3 hin
            go_wp2_with fail
            refine (HC'.out _).mono ?_
            rintro e w6 ⟨rfl, hb6⟩
            replace hbc := hbc.trans (hb6.mono hbc.size)
            go_wp2_with fail
            refine (HD'.out _).mono ?_
            rintro e w7 ⟨rfl, hb7⟩
            replace hbc := hbc.trans (hb7.mono hbc.size)
            go_wp2
            go_ret
            exact ⟨rfl, hbc⟩
          · clear HC HD F3
            by_cases hin1 : (1 : Int) ≤ (y : Int)
            · have hin2 : ¬ (y : Int) < (x : Int) := by omega
              clear hin
              go_wp2
              go_ret
              exact ⟨rfl, hbc⟩
            · clear hin
              go_wp2
              go_ret
              exact ⟨rfl, hbc⟩
    · have e : Pl.resI n k p = -1 := by rw [Pl.resI, if_neg hok]
      rw [e] at HI HS
      clear hok e
      go_wp2_with fail
      refine (HI.out _).mono ?_
      rintro e w2 ⟨rfl, hb2⟩
      have hbc := hb1.trans (hb2.mono hb1.size)
      go_wp2_with fail
      refine (HS.out _).mono ?_
      rintro e w3 ⟨rfl, hb3⟩
      replace hbc := hbc.trans (hb3.mono hbc.size)
      go_wp2_with (go_at_call 18; refine (alive _).mono ?_; rintro e w' ⟨rfl, rfl⟩)
      go_ret
      exact ⟨rfl, hbc⟩

end Go.Proofs.Ytcepbhmnbfaoeaa
