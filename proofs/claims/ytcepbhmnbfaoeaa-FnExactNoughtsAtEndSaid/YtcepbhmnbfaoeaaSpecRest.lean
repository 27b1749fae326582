/-
  spec.ChoiceRest: what it answers (rows of choices).
-/
import Derived.Test.YtcepbhmnbfaoeaaSpecCarry
import Derived.Test.YtcepbhmnbfaoeaaRowFacts
import Derived.Deep.AppendLies
namespace Go.Proofs.Ytcepbhmnbfaoeaa
open Go.RowKit Go.Shelf

namespace Pl
/-- So many of a row of choices. -/
def crL (p n m : Nat) : List Int := (List.range m).map fun k => ((cr p n k : Nat) : Int)
theorem crL_len (p n m : Nat) : (crL p n m).length = m := by simp [crL]
theorem crL_get {p n m k : Nat} (h : k < m) : (crL p n m)[k]?.getD 0 = ((cr p n k : Nat) : Int) := by
  simp [crL, h]
theorem crL_snoc (p n m : Nat) : crL p n (m + 1) = crL p n m ++ [((cr p n m : Nat) : Int)] := by
  simp [crL, List.range_succ]
theorem crL_one (p n : Nat) : crL p n 1 = [((1 % p : Nat) : Int)] := by
  rw [crL_snoc, cr_zero]; rfl
end Pl

set_option maxRecDepth 100000 in
set_option maxHeartbeats 4000000 in
theorem l10Row (n p : Nat) (hp : 2 ≤ p) (hp' : p ≤ 13) (hn : n ≤ 200) (w : World) :
    Calls Try.prog 50 #[.int .i64 n, .int .i64 p] w (ListPost w (Pl.crL p n (n + 1))) := by
  obtain ⟨i0, hi0, hz0, hz1, hz2⟩ := info_parts info_int
  have o1 : (1 : Int).tmod (p : Int) = 1 := by
    have e : (1 : Int).tmod (p : Int) = ((1 % p : Nat) : Int) := rfl
    rw [e, Nat.mod_eq_of_lt (by omega)]; rfl
  have o2 : (1 : Int) % (p : Int) = 1 := by
    have e : (1 : Int) % (p : Int) = ((1 % p : Nat) : Int) := rfl
    rw [e, Nat.mod_eq_of_lt (by omega)]; rfl
  have hp0 : ((p : Int) == 0) = false := by rw [beq_eq_false_iff_ne]; omega
  have H1 : Hid (∀ N, Pl.crL p N 1 = [1]) := Lib.hid fun N => by rw [Pl.crL_one, Nat.mod_eq_of_lt (by omega)]; rfl
  go_enter Try.func50, Try.ntmps50
  go_wp2_with fail
  go_loopw [5, 6] (fun rv jv wr => ∃ (j : Nat) (vv : Value), vv = rv ∧ j ≤ n ∧ jv = .int .i64 j ∧ Row w.heap.size wr vv (Pl.crL p j (j + 1)) ∧ Below w.heap.size w wr) (fun _ jv _ => n - (intOf jv).toNat)
  case atStart => exact ⟨0, _, rfl, by omega, rfl, by rw [H1.out]; exact row_one w 1, (Below.refl _ w).alloc (Nat.le_refl _) _⟩
  case round =>
    obtain ⟨j, vv, rfl, hj, rfl, hr, hbw⟩ := hrel
    generalize wr = W at *
    by_cases hlt : j < n
    · have hi : (j : Int) < (n : Int) := by omega
      obtain ⟨g, cap, rfl, hg, hgl, hcap, hcm, hcell⟩ := hr.lies (by rw [Pl.crL_len]; omega)
      rw [Pl.crL_len] at hcap hcell ⊢
      have HCELL : Hid (∀ k, k < j + 1 → W.cell? ⟨g, k, none⟩ = some (.int .i64 ((Pl.cr p j k : Nat) : Int))) := Lib.hid fun k hk => by rw [hcell k hk, Pl.crL_get hk]
      have HBW := Lib.hid hbw
      have HSZ := Lib.hid hbw.size
      clear hr hcell hbw
      obtain ⟨m, hm⟩ : ∃ m, j + 1 = m := ⟨_, rfl⟩
      rw [hm] at HCELL hcap ⊢
      go_wp2_with fail
      go_loopw [7, 8] (fun nv kv w2 => ∃ (k : Nat) (vv : Value), vv = nv ∧ 1 ≤ k ∧ k ≤ m ∧ kv = .int .i64 k ∧ Row W.heap.size w2 vv (Pl.crL p m k) ∧ Below W.heap.size W w2) (fun _ kv _ => m - (intOf kv).toNat)
      case atStart => exact ⟨1, _, rfl, by omega, by omega, rfl, by rw [H1.out]; exact row_one W 1, (Below.refl _ W).alloc (Nat.le_refl _) _⟩
      case round =>
        obtain ⟨k, vv, rfl, hk1, hkm, rfl, hr2, hb2⟩ := hrel
        by_cases hkl : k < m
        · have hik : (k : Int) < (m : Int) := by omega
          obtain ⟨q, rfl⟩ : ∃ q, k = q + 1 := ⟨k - 1, by omega⟩
          have c1 : wr.cell? ⟨g, q, none⟩ = some (.int .i64 ((Pl.cr p j q : Nat) : Int)) := (hb2.cell (p := ⟨g, q, none⟩) hgl).trans (HCELL.out q (by omega))
          have c2 : wr.cell? ⟨g, q + 1, none⟩ = some (.int .i64 ((Pl.cr p j (q + 1) : Nat) : Int)) := (hb2.cell (p := ⟨g, q + 1, none⟩) hgl).trans (HCELL.out (q + 1) (by omega))
          have HS : Hid (Pl.crL p m (q + 1 + 1) = Pl.crL p m (q + 1) ++ [(((Pl.cr p j q + Pl.cr p j (q + 1)) % p : Nat) : Int)]) := Lib.hid (by rw [Pl.crL_snoc, ← hm, Pl.cr_next])
          have l1 := Pl.cr_lt (p := p) (by omega) j q
          have l2 := Pl.cr_lt (p := p) (by omega) j (q + 1)
          have hll := Pl.crL_len p m (q + 1)
          generalize Pl.cr p j q = A at *
          generalize Pl.cr p j (q + 1) = C at *
          generalize Pl.crL p m (q + 1) = X at *
          have hr' : wr.drew.ownsRow W.heap.size 3 1 vv X.length (X.map (Value.int .i64)) := hr2
          have HB2 := Lib.hid hb2
          have hsz := hb2.size
          clear hr2 hb2
          have ek : IntKind.i64.wrap (q : Int) = (q : Int) := IntWalk.i64_in _ (by omega)
          have es : IntKind.i64.wrap ((A : Int) + (C : Int)) = ((A + C : Nat) : Int) := by rw [← Int.natCast_add]; exact IntWalk.i64_in _ (by omega)
          have et : (((A + C : Nat) : Int)).tmod (p : Int) = (((A + C) % p : Nat) : Int) := rfl
          have hqm : (q : Int) < (m : Int) := by omega
          have hq0 : 0 ≤ (q : Int) + 1 := by omega
          have hp00 : ¬ p = 0 := by omega
          generalize (A + C) % p = R at *
          generalize A + C = AC at *
          go_wp2_with fail
          go_region_law (refine step_append_lies _ (by rfl) _ _ _ (by rfl) W.heap.size 3 i0 _ 1 8 Try.underlying46 hi0 hz0 hz1 hz2 rfl (by omega) vv X.length (X.map (Value.int .i64)) (by rfl) (World.ownsRow.alloc hr' _) ⟨wr.heap.size, 0, none⟩ 1 1 [.int .i64 (R : Int)] (by rfl) (by rfl) (World.news_of_block (cs := #[.int .i64 (R : Int)]) (t := 3) (fr := (0, 0)) (heap_alloc_new wr _)) (by simp [Value.oneCell']) (by omega) (by unfold maxLen; omega) (by omega) (by simp; omega) _ rfl ?_; intro gg cap2 w3 hown3 hgrow3 hat3 hlt3)
          all_goals
            go_wp2_with fail
            go_roundw
            case rel => exact ⟨q + 1 + 1, _, rfl, by omega, by omega, by go_num, by rw [HS.out]; have h := row_snoc hown3; rwa [hll] at h, below_append (HB2.out.drew.alloc hsz _) (World.ownsRow.alloc hr' _) hgrow3⟩
            case measure => simp [intOf]; omega
        · obtain rfl : k = m := by omega
          have hik : ¬ (k : Int) < (k : Int) := by omega
          have HS : Hid (Pl.crL p k (k + 1) = Pl.crL p k k ++ [1]) := Lib.hid (by rw [Pl.crL_snoc, Pl.cr_all, Nat.mod_eq_of_lt (by omega)]; rfl)
          have hll := Pl.crL_len p k k
          generalize Pl.crL p k k = X at *
          have hr' : wr.ownsRow W.heap.size 3 1 vv X.length (X.map (Value.int .i64)) := hr2
          have HB2 := Lib.hid hb2
          have hsz := hb2.size
          clear hr2 hb2
          go_wp2_with (at_builtin; refine wpList_append_own _ rfl _ _ 46 rfl W.heap.size 3 i0 (.int .i64 0) 1 8 Try.underlying46 hi0 hz0 hz1 hz2 rfl (by decide) _ _ _ rfl (hr'.alloc _) ⟨wr.heap.size, 0, none⟩ 1 1 [.int .i64 (1 : Int)] rfl rfl (cell_one_new _ _ _) (by simp [Value.oneCell']) (by unfold maxLen; omega) (by omega) (by simp; omega) ?_; intro v2 w1 hown1 hgrow1 _)
          go_roundw
          case rel => exact ⟨j + 1, _, rfl, by omega, by go_num, Row.mono (by rw [hm, HS.out]; exact row_snoc hown1) HSZ.out, HBW.out.trans (Below.mono (below_append (HB2.out.alloc hsz _) (hr'.alloc _) hgrow1) HSZ.out)⟩
          case measure => simp [intOf]; omega
    · obtain rfl : j = n := by omega
      have hi : ¬ (j : Int) < (j : Int) := by omega
      have HR := Lib.hid hr
      clear hr
      go_wp2_with fail
      go_ret
      exact ⟨_, rfl, HR.out, hbw⟩

set_option maxHeartbeats 800000 in
theorem specChoiceRest (n k p : Int) (w : World) :
    Calls Try.prog 33 #[.int .i64 n, .int .i64 k, .int .i64 p] w fun e w' => e = .returned (.int .i64 (Pl.resI n k p)) ∧ Below w.heap.size w w' := by
  have HP := Lib.hid (specPrimeBaseOk p)
  by_cases h1 : (decide (0 ≤ n) && decide (n ≤ 200)) = true
  · by_cases h2 : (decide (0 ≤ k) && decide (k ≤ n)) = true
    · have g1 : 0 ≤ n ∧ n ≤ 200 := by simpa using h1
      have g2 : 0 ≤ k ∧ k ≤ n := by simpa using h2
      by_cases hp : Pl.primeB p = true
      · rw [hp] at HP
        have e : Pl.resI n k p = ((Pl.cr p.toNat n.toNat k.toNat : Nat) : Int) := by rw [Pl.resI, if_pos ⟨⟨g1, g2⟩, hp⟩]
        obtain ⟨q, rfl, hq⟩ := Pl.primeB_nat hp
        obtain ⟨x, rfl⟩ : ∃ x : Nat, n = (x : Int) := ⟨n.toNat, by omega⟩
        obtain ⟨y, rfl⟩ : ∃ y : Nat, k = (y : Int) := ⟨k.toNat, by omega⟩
        have hq2 := Pl.primes6_ge hq
        rw [e, Int.toNat_natCast, Int.toNat_natCast, Int.toNat_natCast]
        have HR := Lib.hid (l10Row x q hq2.1 (by omega) (by omega))
        obtain ⟨C, hC⟩ : ∃ C, Pl.cr q x y = C := ⟨_, rfl⟩
        rw [hC]
        have HC := Lib.hid hC
        clear e hp hq hC
        have hy : (y : Int) < ((x + 1 : Nat) : Int) := by omega
        go_enter Try.func33, Try.ntmps33
        go_wp2_with (first | (go_at_call 41; refine (specIn _ _ _ _).mono ?_; rintro e w' ⟨rfl, rfl⟩; first | rw [h1] | rw [h2]) | (go_at_call 22; refine (HP.out _).mono ?_; rintro e w' ⟨rfl, rfl⟩) | (go_at_call 50; refine (HR.out _).mono ?_; rintro e w1 ⟨v1, rfl, r1, b1⟩; obtain ⟨g, cap, rfl, hg, hgl, hcap, hcm, hcell⟩ := r1.lies (by rw [Pl.crL_len]; omega); rw [Pl.crL_len] at hcell ⊢; have hc := hcell y (by omega); rw [Pl.crL_get (by omega), HC.out] at hc; clear hcell))
        go_ret
        exact ⟨rfl, b1⟩
      · rw [Bool.eq_false_iff.2 hp] at HP
        have e : Pl.resI n k p = -1 := by rw [Pl.resI, if_neg fun h => hp h.2]
        rw [e]
        clear e hp g1 g2
        go_enter Try.func33, Try.ntmps33
        go_wp2_with (first | (go_at_call 41; refine (specIn _ _ _ _).mono ?_; rintro e w' ⟨rfl, rfl⟩; first | rw [h1] | rw [h2]) | (go_at_call 22; refine (HP.out _).mono ?_; rintro e w' ⟨rfl, rfl⟩))
        go_ret
        exact ⟨rfl, Below.refl _ _⟩
    · have h2' : (decide (0 ≤ k) && decide (k ≤ n)) = false := by simpa using h2
      have e : Pl.resI n k p = -1 := by rw [Pl.resI, if_neg fun h => h2 (by simpa using h.1.2)]
      rw [e]
      clear e h2
      go_enter Try.func33, Try.ntmps33
      go_wp2_with (first | (go_at_call 41; refine (specIn _ _ _ _).mono ?_; rintro e w' ⟨rfl, rfl⟩; first | rw [h1] | rw [h2']))
      go_ret
      exact ⟨rfl, Below.refl _ _⟩
  · have h1' : (decide (0 ≤ n) && decide (n ≤ 200)) = false := by simpa using h1
    have e : Pl.resI n k p = -1 := by rw [Pl.resI, if_neg fun h => h1 (by simpa using h.1.1)]
    rw [e]
    clear e h1
    go_enter Try.func33, Try.ntmps33
    go_wp2_with (first | (go_at_call 41; refine (specIn _ _ _ _).mono ?_; rintro e w' ⟨rfl, rfl⟩; rw [h1']))
    go_ret
    exact ⟨rfl, Below.refl _ _⟩

end Go.Proofs.Ytcepbhmnbfaoeaa
