/-
  spec.l5Counts, spec.DownOf, spec.UpOf, spec.LeftOf: what they answer; the exact laws of DownOf, UpOf and LeftOf.
-/
import Derived.Test.YtepkneeedkmaoaaLeft
namespace Go.Proofs.Ytepkneeedkmaoaa
open Go.RowKit Go.Shelf

namespace Pl
/-- How often each digit below b comes in a row. -/
def cntB (b : Nat) (l : List Nat) : List Int := (List.range b).map fun d => ((l.count d : Nat) : Int)
theorem cntB_len (b : Nat) (l : List Nat) : (cntB b l).length = b := by simp [cntB]
theorem cntB_get {b : Nat} (l : List Nat) {j : Nat} (h : j < b) : (cntB b l)[j]?.getD 0 = ((l.count j : Nat) : Int) := by simp [cntB, h]
theorem cntB_snoc {b : Nat} (l : List Nat) {d : Nat} (h : d < b) : (cntB b l).set d ((cntB b l)[d]?.getD 0 + 1) = cntB b (l ++ [d]) := by
  rw [cntB_get l h]
  apply List.ext_getElem
  · simp [cntB]
  · intro i h1 h2
    simp only [cntB, List.length_set, List.length_map, List.length_range] at h1
    simp only [cntB, List.getElem_set, List.getElem_map, List.getElem_range, List.count_append]
    by_cases hi : d = i
    · subst hi; simp
    · rw [if_neg hi]; simp [hi]
theorem cntB_nil (b : Nat) : cntB b [] = List.replicate b 0 := by
  apply List.ext_getElem
  · simp [cntB]
  · intro i h1 h2; simp [cntB]
end Pl

set_option maxHeartbeats 2000000 in
theorem specCounts (x v b : Nat) (h1 : 2 ≤ b) (h2 : b ≤ 16) (h4 : v ≤ 6) (hx : x < b ^ v) (w : World) :
    Calls Try.prog 49 #[.int .i64 x, .int .i64 v, .int .i64 b] w (ListPost w (Pl.cntB b (Pl.digW b v x))) := by
  have hx' : x ≤ 16777216 := by have := Pl.pow_le24 (b := b) (w := v) h2 h4; omega
  obtain ⟨i0, hi0, hz0, hz1, hz2⟩ := info_parts info_int
  obtain ⟨D, hD⟩ : ∃ D, Pl.digW b v x = D := ⟨_, rfl⟩
  have HD := Lib.hid hD
  have hne : ((b : Int) == 0) = false := by simp; omega
  rw [hD]
  clear hD hx
  go_enter Try.func49, Try.ntmps49
  go_wp2_with (at_make; refine wpList_make_full _ rfl _ _ 30 rfl w.heap.size 3 i0 (.int .i64 0) 1 Try.underlying30 hi0 hz0 hz1 .i64 .i64 _ _ b rfl rfl rfl rfl (by rw [hz2]; omega) (by unfold maxLen; omega) (Nat.le_refl _) ?_; intro w0 hown0 hgrow0)
  have hb0 : Below w.heap.size w w0 := (Below.refl _ w).grown hgrow0 (Nat.le_refl _) (fun k e => by cases e)
  have hr0 : Row w.heap.size w0 (.slice (some ⟨w.heap.size, 0, none⟩) b b) (Pl.cntB b []) := by
    rw [Pl.cntB_nil]
    exact (made_blk (by rw [Nat.mul_one] at hown0; exact hown0)).row (by simp) (Nat.le_refl _) (by unfold maxLen; omega)
  clear hown0 hgrow0
  go_loopw [0, 8] (fun nv kv wr => ∃ (k left : Nat) (pre : List Nat), k ≤ v ∧ left ≤ x ∧ nv = .int .i64 left ∧ kv = .int .i64 k ∧ pre.length = k ∧ pre ++ Pl.digW b (v - k) left = D ∧ Row w.heap.size wr (.slice (some ⟨w.heap.size, 0, none⟩) b b) (Pl.cntB b pre) ∧ Below w.heap.size w wr) (fun _ kv _ => v - (intOf kv).toNat)
  case atStart => exact ⟨0, x, [], Nat.zero_le _, Nat.le_refl _, rfl, rfl, rfl, by rw [Nat.sub_zero, List.nil_append]; exact HD.out, hr0, hb0⟩
  case round =>
    clear hr0 hb0
    obtain ⟨k, left, pre, hk, hl, rfl, rfl, hpl, hpd, hr, hbw⟩ := hrel
    by_cases hlt : k < v
    · have hi : (k : Int) < (v : Int) := by omega
      have hstep : Pl.digW b (v - k) left = left % b :: Pl.digW b (v - (k + 1)) (left / b) := by
        rw [show v - k = (v - (k + 1)) + 1 by omega, Pl.digW]
      rw [hstep] at hpd
      have hq : left / b ≤ left := Nat.div_le_self _ _
      have e1 : (left : Int) % (b : Int) = ((left % b : Nat) : Int) := rfl
      have e2 : (left : Int) / (b : Int) = ((left / b : Nat) : Int) := rfl
      have hrb : left % b < b := Nat.mod_lt _ (by omega)
      have hpl30 : pre.length ≤ 6 := by omega
      have hcell := hr.cellAt (Pl.cntB_len b pre) (left % b) hrb
      have hset := hr.set (Pl.cntB_len b pre) (left % b) ((Pl.cntB b pre)[left % b]?.getD 0 + 1)
      rw [Pl.cntB_snoc pre hrb] at hset
      have hbd : (0 : Int) ≤ (Pl.cntB b pre)[left % b]?.getD 0 ∧ (Pl.cntB b pre)[left % b]?.getD 0 ≤ 6 := by
        rw [Pl.cntB_get pre hrb]
        have := List.count_le_length (a := left % b) (l := pre)
        omega
      have HPD := Lib.hid hpd
      clear hstep hpd
      generalize left % b = r at *
      generalize left / b = q at *
      generalize (Pl.cntB b pre)[r]?.getD 0 = p at *
      obtain ⟨c1, c2⟩ := hcell
      obtain ⟨q1, q2⟩ := hbd
      have HSET := Lib.hid hset
      have hr1 : (r : Int) < (b : Int) := by omega
      have hr0 : 0 ≤ (r : Int) := by omega
      clear hset hr
      go_wp2_with fail
      go_region
      all_goals
        go_wp2_with fail
        go_roundw
        case rel => exact ⟨k + 1, q, pre ++ [r], by omega, by omega, rfl, by simp, by simp; omega, by rw [← HPD.out]; simp, HSET.out, (hbw.setCell (p := ⟨w.heap.size, r, none⟩) (Nat.le_refl _) _).drew⟩
        case measure => simp [intOf]; omega
    · obtain rfl : k = v := by omega
      have hi : ¬ (k : Int) < (k : Int) := by omega
      rw [Nat.sub_self, Pl.digW, List.append_nil] at hpd
      subst hpd
      have HR := Lib.hid hr
      clear hr
      go_wp2_with fail
      go_ret
      exact ⟨_, rfl, by have := HR.out; unfold Row; rw [Pl.cntB_len]; unfold Row at this; rwa [Pl.cntB_len] at this, hbw⟩

namespace Pl
theorem flatUp_pre (c : Nat → Nat) (D : Nat) : ∀ k, ∃ s, flatUp c (D + k) = flatUp c D ++ s := by
  intro k
  induction k with
  | zero => exact ⟨[], by simp⟩
  | succ k ih =>
    obtain ⟨s, hs⟩ := ih
    exact ⟨s ++ List.replicate (c (D + k)) (D + k), by rw [← Nat.add_assoc, flatUp, hs, List.append_assoc]⟩
theorem valF_app (b acc : Nat) (l m : List Nat) : valF b acc (l ++ m) = valF b (valF b acc l) m := by simp [valF]
theorem valF_pre {b : Nat} (hb : 1 ≤ b) (l m : List Nat) : valF b 0 l ≤ valF b 0 (l ++ m) := by rw [valF_app]; exact valF_ge hb m _
theorem valF_rep (b : Nat) (l : List Nat) (K d : Nat) : valF b 0 (l ++ List.replicate (K + 1) d) = valF b 0 (l ++ List.replicate K d) * b + d := by
  rw [List.replicate_succ', ← List.append_assoc, valF_snoc]
theorem up_part {b D K : Nat} (hb : 1 ≤ b) (c : Nat → Nat) (hD : D < b) (hK : K ≤ c D) : valF b 0 (flatUp c D ++ List.replicate K D) ≤ valF b 0 (flatUp c b) := by
  obtain ⟨s, hs⟩ := flatUp_pre c (D + 1) (b - (D + 1))
  rw [show D + 1 + (b - (D + 1)) = b by omega, flatUp] at hs
  have e : List.replicate (c D) D = List.replicate K D ++ List.replicate (c D - K) D := by rw [List.replicate_append_replicate]; congr 1; omega
  rw [hs, e, ← List.append_assoc, List.append_assoc]
  exact valF_pre hb _ _
theorem down_part {b D K : Nat} (hb : 1 ≤ b) (c : Nat → Nat) (s : List Nat) (hs : flatUp c b = flatUp c (D + 1) ++ s) (hK : K ≤ c D) : valF b 0 (s.reverse ++ List.replicate K D) ≤ valF b 0 (flatUp c b).reverse := by
  have e : List.replicate (c D) D = List.replicate K D ++ List.replicate (c D - K) D := by rw [List.replicate_append_replicate]; congr 1; omega
  rw [hs, flatUp, List.reverse_append, List.reverse_append, List.reverse_replicate, e, ← List.append_assoc, ← List.append_assoc, List.append_assoc]
  exact valF_pre hb _ _
theorem upN_valF (b w n : Nat) : upN b w n = valF b 0 (flatUp (cntW b w n) b) := by
  have := valF_rev b (ordW b w n).reverse
  rw [List.reverse_reverse] at this
  exact this.symm
theorem downN_valF (b w n : Nat) : downN b w n = valF b 0 (flatUp (cntW b w n) b).reverse := (valF_rev b _).symm
end Pl

set_option maxHeartbeats 2000000 in
theorem specUpYes (x v b : Nat) (h1 : 2 ≤ b) (h2 : b ≤ 16) (h3 : 2 ≤ v) (h4 : v ≤ 6) (hx : x < b ^ v) (w : World) :
    Calls Try.prog 26 #[.int .i64 x, .int .i64 v, .int .i64 b] w fun e w' => e = .returned (.int .i64 (Pl.upN b v x : Nat)) ∧ Below w.heap.size w w' := by
  have hok : Pl.wideB x v b = true := Pl.wideB_of h1 h2 h3 h4 hx
  have HC := Lib.hid (specCounts x v b h1 h2 h4 hx)
  have hlt := Pl.upN_lt h1 v x
  have hp := Pl.pow_le24 (b := b) (w := v) h2 h4
  rw [Pl.upN_valF] at hlt ⊢
  have hT : Pl.valF b 0 (Pl.flatUp (Pl.cntW b v x) b) ≤ 16777216 := by omega
  have hle : ∀ d, Pl.cntW b v x d ≤ 6 := fun d => Nat.le_trans (Pl.cntW_le b v x d) h4
  have hPart : ∀ D K, D < b → K ≤ Pl.cntW b v x D → Pl.valF b 0 (Pl.flatUp (Pl.cntW b v x) D ++ List.replicate K D) ≤ 16777216 := fun D K hD hK => Nat.le_trans (Pl.up_part (by omega) _ hD hK) hT
  have hCell : ∀ D, D < b → (Pl.cntB b (Pl.digW b v x))[D]?.getD 0 = ((Pl.cntW b v x D : Nat) : Int) := fun D hD => Pl.cntB_get _ hD
  have hlenC := Pl.cntB_len b (Pl.digW b v x)
  have HPART := Lib.hid hPart
  have HLE := Lib.hid hle
  have HCELL := Lib.hid hCell
  clear hx hlt hp hT hPart hle hCell
  generalize Pl.cntB b (Pl.digW b v x) = L at *
  generalize Pl.cntW b v x = c at *
  go_enter Try.func26, Try.ntmps26
  go_wp2_with (go_at_call 17; refine (specWideOk _ _ _ _).mono ?_; rintro e w' ⟨rfl, rfl⟩; rw [hok])
  refine (HC.out _).mono ?_
  rintro e w1 ⟨u, rfl, r1, b1⟩
  obtain ⟨g, cap, rfl, hgb, hgl, hcap, hcm, hcell⟩ := r1.lies (by omega)
  rw [hlenC] at hcell ⊢
  have HCL : Hid (∀ D, D < b → w1.cell? ⟨g, D, none⟩ = some (.int .i64 ((c D : Nat) : Int))) := Lib.hid fun D hD => by rw [hcell D hD, HCELL.out D hD]
  clear hcell r1 hlenC
  go_wp2_with fail
  go_loop [8, 9, 10] (fun ov dv _ => ∃ D : Nat, D ≤ b ∧ dv = .int .i64 D ∧ ov = .int .i64 ((Pl.valF b 0 (Pl.flatUp c D) : Nat) : Int)) (fun _ dv _ => b - (intOf dv).toNat)
  case atStart => exact ⟨0, by omega, rfl, rfl⟩
  case round =>
    obtain ⟨D, hD, rfl, rfl⟩ := hrel
    by_cases hlt : D < b
    · have hi : (D : Int) < (b : Int) := by omega
      have hcD := HCL.out D hlt
      have hcD6 := HLE.out D
      have HP := Lib.hid (fun K => HPART.out D K hlt)
      have H0 : Hid (Pl.valF b 0 (Pl.flatUp c D) = Pl.valF b 0 (Pl.flatUp c D ++ List.replicate 0 D)) := Lib.hid (by simp)
      have HN : Hid (Pl.valF b 0 (Pl.flatUp c (D + 1)) = Pl.valF b 0 (Pl.flatUp c D ++ List.replicate (c D) D)) := Lib.hid (by rw [Pl.flatUp])
      generalize Pl.valF b 0 (Pl.flatUp c D) = O0 at *
      generalize c D = M at *
      go_wp2_with fail
      go_loop [8, 10] (fun ov kv => ∃ (K O : Nat), K ≤ M ∧ kv = .int .i64 K ∧ ov = .int .i64 (O : Int) ∧ O = Pl.valF b 0 (Pl.flatUp c D ++ List.replicate K D)) (fun _ kv => M - (intOf kv).toNat)
      case atStart => exact ⟨0, O0, by omega, rfl, rfl, H0.out⟩
      case round =>
        obtain ⟨K, O, hK, rfl, rfl, hO⟩ := hrel
        by_cases hlt2 : K < M
        · have hi2 : (K : Int) < (M : Int) := by omega
          have hO1 := HP.out (K + 1) (by omega)
          have hrep := Pl.valF_rep b (Pl.flatUp c D) K D
          rw [← hO] at hrep
          rw [hrep] at hO1
          have HREP := Lib.hid hrep
          have hmul : (O : Int) * (b : Int) = ((O * b : Nat) : Int) := by rw [Int.natCast_mul]
          obtain ⟨P, hP⟩ : ∃ P : Int, ((O * b : Nat) : Int) = P := ⟨_, rfl⟩
          have e : IntKind.i64.wrap ((O : Int) * (b : Int)) = P := by rw [hmul, IntWalk.i64_in _ (by omega), hP]
          have e1 : 0 ≤ P := by omega
          have e2 : P + (D : Int) ≤ 16777216 := by omega
          have HPP := Lib.hid hP
          clear hrep hO hO1 hmul hP
          go_wp2_with fail
          go_round
          case rel => exact ⟨K + 1, O * b + D, by omega, by simp, by rw [← HPP.out]; simp, HREP.out.symm⟩
          case measure => simp [intOf]; omega
        · obtain rfl : K = M := by omega
          have hi2 : ¬ (K : Int) < (K : Int) := by omega
          have HO := Lib.hid hO
          clear hO
          go_wp2_with fail
          go_round
          case rel => exact ⟨D + 1, by omega, by simp, by rw [HN.out, ← HO.out]⟩
          case measure => simp [intOf]; omega
    · obtain rfl : D = b := by omega
      have hi : ¬ (D : Int) < (D : Int) := by omega
      go_wp2_with fail
      go_ret
      exact ⟨rfl, b1⟩

end Go.Proofs.Ytepkneeedkmaoaa
