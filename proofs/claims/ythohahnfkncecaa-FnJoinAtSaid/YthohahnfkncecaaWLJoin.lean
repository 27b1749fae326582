/-
  The drawing function of JoinAt, and the walk of its law.
-/
import Derived.Test.YthohahnfkncecaaDraws12
import Derived.Test.YthohahnfkncecaaSpecSelf
import Derived.Test.YthohahnfkncecaaSelf
namespace Go.Proofs.Ythohahnfkncecaa
open Go.RowKit

namespace Pl
/-- The first number, from a place on, that is in another row; -1 if there is none. -/
def firstIn (L M : List Int) (K : Nat) : Int := ((L.drop K).find? fun x => decide (x ∈ M)).getD (-1)
theorem firstIn_end (L M : List Int) : firstIn L M L.length = -1 := by simp [firstIn]
theorem firstIn_yes {L M : List Int} {K : Nat} (h : K < L.length) (hm : L[K]?.getD 0 ∈ M) : firstIn L M K = L[K]?.getD 0 := by
  rw [List.getElem?_eq_getElem h, Option.getD_some] at hm ⊢
  unfold firstIn
  rw [List.drop_eq_getElem_cons h, List.find?_cons_of_pos (by simpa using hm)]; rfl
theorem firstIn_not {L M : List Int} {K : Nat} (h : K < L.length) (hm : L[K]?.getD 0 ∉ M) : firstIn L M K = firstIn L M (K + 1) := by
  rw [List.getElem?_eq_getElem h, Option.getD_some] at hm
  unfold firstIn
  rw [List.drop_eq_getElem_cons h, List.find?_cons_of_neg (by simpa using hm)]
theorem firstIn_join (n m b : Int) : firstIn (rowA n b) (rowA m b) 0 = wV (joinA n m b) ∧ wB (joinA n m b) = decide (0 ≤ wV (joinA n m b)) := by
  by_cases h : rowB n b = true ∧ rowB m b = true
  · obtain ⟨x, k, rfl, rfl, h1, h2, h3, h4⟩ := rowB_nat h.1
    obtain ⟨y, k', rfl, hk, h5, h6, _, _⟩ := rowB_nat h.2
    obtain rfl : k = k' := by omega
    rw [joinA_yes x y k h.1 h.2, rowA_yes x k h.1, rowA_yes y k h.2]
    unfold firstIn joinO
    rw [List.drop_zero]
    have e : (ints (rowL k x)).find? (fun z => decide (z ∈ ints (rowL k y))) = ((rowL k x).find? fun z => decide (z ∈ rowL k y)).map fun z : Nat => (z : Int) := by
      conv => lhs; arg 2; unfold ints
      rw [List.find?_map]
      congr 2
      funext z
      simp only [Function.comp_apply, decide_eq_decide]
      unfold ints
      rw [List.mem_map]
      exact ⟨fun ⟨y, hy, e⟩ => by have e' : y = z := (by omega); rwa [e'] at hy, fun h => ⟨z, h, rfl⟩⟩
    rw [e]
    cases (rowL k x).find? fun z => decide (z ∈ rowL k y) with
    | none => simp [wV, wB]
    | some z => simp [wV, wB]
  · rw [joinA_no h]
    refine ⟨?_, by simp [wV, wB]⟩
    by_cases h1 : rowB n b = true
    · rw [rowA_no (fun h2 => h ⟨h1, h2⟩)]
      unfold firstIn
      have : ((rowA n b).drop 0).find? (fun x => decide (x ∈ ([] : List Int))) = none := by rw [List.find?_eq_none]; simp
      rw [this]; rfl
    · rw [rowA_no h1]; simp [firstIn, wV]
end Pl

set_option maxRecDepth 100000 in
set_option maxHeartbeats 4000000 in
theorem FnJoinAt_walk (a0 : Option Addr) (len0 cap0 : Nat) (z0 : List Int) (w : World) (w0 : IsRow .u8 w a0 len0 cap0 z0) :
    Calls Try.prog 8 #[.slice a0 len0 cap0] w fun e w' => e = .returned (.bool true) ∧ Below w.heap.size w w' := by
  by_cases hl : 1048576 < len0
  · go_enter Try.func8, Try.ntmps8
    go_wp2
    go_ret
    exact ⟨rfl, Below.refl _ _⟩
  · go_enter Try.func8, Try.ntmps8
    go_wp2_with fail
    refine (drawJoinAt _ _ _ _ _ w0).mono ?_
    rintro e w1 ⟨n, m, b, rfl, ⟨n1, n2⟩, ⟨m1, m2⟩, ⟨b1, b2⟩, hb1⟩
    clear w0 hl
    have HI := Lib.hid (implJoinAt n m b)
    have HS := Lib.hid (specJoinAt n m b)
    have hsym := implJoinAt m n b
    rw [← Pl.joinA_sym n m b] at hsym
    have HM := Lib.hid hsym
    have HA := Lib.hid (specRowFrom n b)
    have HB := Lib.hid (specRowFrom m b)
    have hlA := Pl.rowA_len n b
    have hlB := Pl.rowA_len m b
    obtain ⟨hf, hw⟩ := Pl.firstIn_join n m b
    rw [hw] at HI HS HM
    have HF := Lib.hid hf
    clear hsym hf hw
    generalize Pl.wV (Pl.joinA n m b) = J at *
    generalize Pl.rowA n b = L at *
    generalize Pl.rowA m b = M at *
    go_wp2_with fail
    refine (HI.out _).mono ?_
    rintro e w2 ⟨rfl, p2⟩
    have c2 : Below w.heap.size w w2 := hb1.trans (p2.mono hb1.size)
    go_wp2_with fail
    refine (HS.out _).mono ?_
    rintro e w3 ⟨rfl, p3⟩
    have c3 : Below w.heap.size w w3 := c2.trans (p3.mono c2.size)
    clear c2 p2 p3 hb1
    go_wp2_with fail
    refine (HA.out _).mono ?_
    rintro e w4 ⟨va, rfl, qa, pa⟩
    go_wp2_with fail
    refine (HB.out _).mono ?_
    rintro e w5 ⟨vb, rfl, qb, pb⟩
    have c5 : Below w.heap.size w w5 := (c3.trans (pa.mono c3.size)).trans (pb.mono (Nat.le_trans c3.size pa.size))
    have ia := qa.ints.below pb
    obtain ⟨aa, ca, rfl, hca⟩ := ia
    have HCA := Lib.hid hca
    have HIB := Lib.hid qb.ints
    clear qa qb pa pb c3 hca HI HS HA HB
    go_wp2_with fail
    go_loop [12, 13] (fun lv kv => ∃ K : Nat, K ≤ L.length ∧ lv = .int .i64 (Pl.firstIn L M K) ∧ kv = .int .i64 ((K : Int) - 1)) (fun _ kv => (intOf kv + 1).toNat)
    case atStart => exact ⟨L.length, Nat.le_refl _, by rw [Pl.firstIn_end], rfl⟩
    case round =>
      obtain ⟨K, hK, rfl, rfl⟩ := hrel
      by_cases hlt : 0 < K
      · obtain ⟨k, rfl⟩ : ∃ k, K = k + 1 := ⟨K - 1, by omega⟩
        obtain ⟨g, off, rfl, hcell⟩ := HCA.out k (by omega)
        have hkz : (((k + 1 : Nat) : Int) - 1) = (k : Int) := by omega
        have hi0 : 0 ≤ (k : Int) := by omega
        have hi1 : (k : Int) < (L.length : Int) := by omega
        have hk2 : k < L.length := by omega
        rw [hkz]
        clear hkz
        by_cases hm : L[k]?.getD 0 ∈ M
        · have HY := Lib.hid (Pl.firstIn_yes hk2 hm)
          have HN := Lib.hid (hasInt vb M (L[k]?.getD 0) w5 HIB.out (by omega) hm)
          clear hm
          generalize L[k]?.getD 0 = q at *
          go_wp2_with fail
          refine HN.out.mono ?_
          rintro e w' ⟨rfl, rfl⟩
          go_wp2_with fail
          go_round
          case rel => exact ⟨k, by omega, by rw [HY.out], rfl⟩
          case measure => simp [intOf]
        · have HY := Lib.hid (Pl.firstIn_not hk2 hm)
          have HN := Lib.hid (hasIntNo vb M (L[k]?.getD 0) w5 HIB.out (by omega) hm)
          clear hm
          generalize L[k]?.getD 0 = q at *
          go_wp2_with fail
          refine HN.out.mono ?_
          rintro e w' ⟨rfl, rfl⟩
          go_wp2_with fail
          go_round
          case rel => exact ⟨k, by omega, by rw [HY.out], rfl⟩
          case measure => simp [intOf]
      · obtain rfl : K = 0 := by omega
        rw [HF.out]
        have hneg : (((0 : Nat) : Int) - 1) = -1 := by omega
        rw [hneg]
        clear hneg
        go_wp2_with fail
        refine (HM.out _).mono ?_
        rintro e w7 ⟨rfl, p7⟩
        have hs1 : (decide (0 ≤ J) == decide (0 ≤ J)) = true := by simp
        have hs2 : (J == J) = true := by simp
        go_wp2_with (go_at_call 18; refine (alive _).mono ?_; rintro e w' ⟨rfl, rfl⟩)
        go_ret
        exact ⟨rfl, c5.trans (p7.mono c5.size)⟩

end Go.Proofs.Ythohahnfkncecaa
