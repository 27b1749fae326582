/-
  spec.DownOf, spec.UpOf, spec.LeftOf, spec.AlikeOk: what they answer; the exact laws of DownOf, UpOf and LeftOf.
-/
import Derived.Test.YtepkneeedkmaoaaSpecSort
namespace Go.Proofs.Ytepkneeedkmaoaa
open Go.RowKit Go.Shelf

set_option maxHeartbeats 2000000 in
theorem specDownYes (x v b : Nat) (h1 : 2 ≤ b) (h2 : b ≤ 16) (h3 : 2 ≤ v) (h4 : v ≤ 6) (hx : x < b ^ v) (w : World) :
    Calls Try.prog 22 #[.int .i64 x, .int .i64 v, .int .i64 b] w fun e w' => e = .returned (.int .i64 (Pl.downN b v x : Nat)) ∧ Below w.heap.size w w' := by
  have hok : Pl.wideB x v b = true := Pl.wideB_of h1 h2 h3 h4 hx
  have HC := Lib.hid (specCounts x v b h1 h2 h4 hx)
  have hlt := Pl.downN_lt h1 v x
  have hp := Pl.pow_le24 (b := b) (w := v) h2 h4
  rw [Pl.downN_valF] at hlt ⊢
  have hT : Pl.valF b 0 (Pl.flatUp (Pl.cntW b v x) b).reverse ≤ 16777216 := by omega
  have hle : ∀ d, Pl.cntW b v x d ≤ 6 := fun d => Nat.le_trans (Pl.cntW_le b v x d) h4
  have hPart : ∀ D K s, Pl.flatUp (Pl.cntW b v x) b = Pl.flatUp (Pl.cntW b v x) (D + 1) ++ s → K ≤ Pl.cntW b v x D → Pl.valF b 0 (s.reverse ++ List.replicate K D) ≤ 16777216 := fun D K s hs hK => Nat.le_trans (Pl.down_part (by omega) _ s hs hK) hT
  have hCell : ∀ D, D < b → (Pl.cntB b (Pl.digW b v x))[D]?.getD 0 = ((Pl.cntW b v x D : Nat) : Int) := fun D hD => Pl.cntB_get _ hD
  have hlenC := Pl.cntB_len b (Pl.digW b v x)
  have HPART := Lib.hid hPart
  have HLE := Lib.hid hle
  have HCELL := Lib.hid hCell
  clear hx hlt hp hT hPart hle hCell
  generalize Pl.cntB b (Pl.digW b v x) = L at *
  generalize Pl.cntW b v x = c at *
  go_enter Try.func22, Try.ntmps22
  go_wp2_with (go_at_call 17; refine (specWideOk _ _ _ _).mono ?_; rintro e w' ⟨rfl, rfl⟩; rw [hok])
  refine (HC.out _).mono ?_
  rintro e w1 ⟨u, rfl, r1, b1⟩
  obtain ⟨g, cap, rfl, hgb, hgl, hcap, hcm, hcell⟩ := r1.lies (by omega)
  rw [hlenC] at hcell ⊢
  have HCL : Hid (∀ D, D < b → w1.cell? ⟨g, D, none⟩ = some (.int .i64 ((c D : Nat) : Int))) := Lib.hid fun D hD => by rw [hcell D hD, HCELL.out D hD]
  clear hcell r1 hlenC
  go_wp2_with fail
  go_loop [8, 9, 10] (fun ov dv _ => ∃ (D : Nat) (s : List Nat), D ≤ b ∧ dv = .int .i64 ((D : Int) - 1) ∧ Pl.flatUp c b = Pl.flatUp c D ++ s ∧ ov = .int .i64 ((Pl.valF b 0 s.reverse : Nat) : Int)) (fun _ dv _ => ((intOf dv) + 1).toNat)
  case atStart => exact ⟨b, [], by omega, rfl, by simp, rfl⟩
  case round =>
    obtain ⟨D, s, hD, rfl, hs, rfl⟩ := hrel
    have HS := Lib.hid hs
    clear hs
    by_cases hlt : D = 0
    · subst hlt
      have hi : ¬ (0 : Int) ≤ ((0 : Nat) : Int) - 1 := by omega
      have hv : Pl.valF b 0 s.reverse = Pl.valF b 0 (Pl.flatUp c b).reverse := by rw [HS.out]; simp [Pl.flatUp]
      rw [hv]
      clear hv
      go_wp2_with fail
      go_ret
      exact ⟨rfl, b1⟩
    · obtain ⟨D, rfl⟩ : ∃ E, D = E + 1 := ⟨D - 1, by omega⟩
      have hD1 : ((D + 1 : Nat) : Int) - 1 = (D : Int) := by omega
      rw [hD1]
      have hi : (0 : Int) ≤ (D : Int) := by omega
      have hi' : (D : Int) < (b : Int) := by omega
      have hcD := HCL.out D (by omega)
      have hcD6 := HLE.out D
      have HP := Lib.hid (fun K => HPART.out D K s HS.out)
      have H0 : Hid (Pl.valF b 0 s.reverse = Pl.valF b 0 (s.reverse ++ List.replicate 0 D)) := Lib.hid (by simp)
      have HN : Hid (Pl.flatUp c b = Pl.flatUp c D ++ (List.replicate (c D) D ++ s)) := Lib.hid (by rw [HS.out, Pl.flatUp, List.append_assoc])
      have HV : Hid ((List.replicate (c D) D ++ s).reverse = s.reverse ++ List.replicate (c D) D) := Lib.hid (by simp)
      clear hD1
      generalize Pl.valF b 0 s.reverse = O0 at *
      generalize c D = M at *
      go_wp2_with fail
      go_loop [8, 10] (fun ov kv => ∃ (K O : Nat), K ≤ M ∧ kv = .int .i64 K ∧ ov = .int .i64 (O : Int) ∧ O = Pl.valF b 0 (s.reverse ++ List.replicate K D)) (fun _ kv => M - (intOf kv).toNat)
      case atStart => exact ⟨0, O0, by omega, rfl, rfl, H0.out⟩
      case round =>
        obtain ⟨K, O, hK, rfl, rfl, hO⟩ := hrel
        by_cases hlt2 : K < M
        · have hi2 : (K : Int) < (M : Int) := by omega
          have hO1 := HP.out (K + 1) (by omega)
          have hrep := Pl.valF_rep b s.reverse K D
          rw [← hO] at hrep
          rw [hrep] at hO1
          have HREP := Lib.hid hrep
          have hmul : (O : Int) * (b : Int) = ((O * b : Nat) : Int) := by rw [Int.natCast_mul]
          obtain ⟨P, hP⟩ : ∃ P : Int, ((O * b : Nat) : Int) = P := ⟨_, rfl⟩
          have e : IntKind.i64.wrap ((O : Int) * (b : Int)) = P := by rw [hmul, IntWalk.i64_in _ (by omega), hP]
          have e1 : 0 ≤ P := by omega
          have e2 : P + (D : Int) ≤ 16777216 := by omega
          have HPP := Lib.hid hP
          clear hrep hO hO1 hmul hP
          go_wp2_with fail
          go_round
          case rel => exact ⟨K + 1, O * b + D, by omega, by simp, by rw [← HPP.out]; simp, HREP.out.symm⟩
          case measure => simp [intOf]; omega
        · obtain rfl : K = M := by omega
          have hi2 : ¬ (K : Int) < (K : Int) := by omega
          have HO := Lib.hid hO
          clear hO
          go_wp2_with fail
          go_round
          case rel => exact ⟨D, _, by omega, rfl, HN.out, by rw [HV.out, ← HO.out]⟩
          case measure => simp [intOf]

set_option maxHeartbeats 400000 in
theorem specUpOf (n v b : Int) (w : World) :
    Calls Try.prog 26 #[.int .i64 n, .int .i64 v, .int .i64 b] w fun e w' => e = .returned (.int .i64 (Pl.upI n v b)) ∧ Below w.heap.size w w' := by
  by_cases h : Pl.wideB n v b = true
  · obtain ⟨x, y, k, rfl, rfl, rfl, h1, h2, h3, h4, h5⟩ := Pl.wideB_nat h
    rw [Pl.upI_yes x y k h]
    exact specUpYes x y k h1 h2 h3 h4 h5 w
  · rw [Pl.upI_no h]
    have h' : Pl.wideB n v b = false := by simpa using h
    clear h
    go_enter Try.func26, Try.ntmps26
    go_wp2_with (go_at_call 17; refine (specWideOk _ _ _ _).mono ?_; rintro e w' ⟨rfl, rfl⟩; rw [h'])
    go_ret
    exact ⟨rfl, Below.refl _ _⟩

set_option maxHeartbeats 400000 in
theorem specDownOf (n v b : Int) (w : World) :
    Calls Try.prog 22 #[.int .i64 n, .int .i64 v, .int .i64 b] w fun e w' => e = .returned (.int .i64 (Pl.downI n v b)) ∧ Below w.heap.size w w' := by
  by_cases h : Pl.wideB n v b = true
  · obtain ⟨x, y, k, rfl, rfl, rfl, h1, h2, h3, h4, h5⟩ := Pl.wideB_nat h
    rw [Pl.downI_yes x y k h]
    exact specDownYes x y k h1 h2 h3 h4 h5 w
  · rw [Pl.downI_no h]
    have h' : Pl.wideB n v b = false := by simpa using h
    clear h
    go_enter Try.func22, Try.ntmps22
    go_wp2_with (go_at_call 17; refine (specWideOk _ _ _ _).mono ?_; rintro e w' ⟨rfl, rfl⟩; rw [h'])
    go_ret
    exact ⟨rfl, Below.refl _ _⟩

theorem Pl.left_sub (n v b : Int) (h : Pl.wideB n v b = true) : Pl.downI n v b - Pl.upI n v b = Pl.leftI n v b := by
  obtain ⟨x, y, k, rfl, rfl, rfl, h1, h2, h3, h4, h5⟩ := Pl.wideB_nat h
  rw [Pl.downI_yes x y k h, Pl.upI_yes x y k h, Pl.leftI_yes x y k h]
  have := Pl.up_le_down h1 y x
  unfold Pl.leftN; omega

set_option maxHeartbeats 400000 in
theorem specLeftOf (n v b : Int) (w : World) :
    Calls Try.prog 29 #[.int .i64 n, .int .i64 v, .int .i64 b] w fun e w' => e = .returned (.int .i64 (Pl.leftI n v b)) ∧ Below w.heap.size w w' := by
  by_cases h : Pl.wideB n v b = true
  · have HL := Lib.hid (Pl.left_sub n v b h)
    obtain ⟨d1, d2⟩ := Pl.downI_bounds n v b
    obtain ⟨u1, u2⟩ := Pl.upI_bounds n v b
    have HD := Lib.hid (specDownOf n v b)
    have HU := Lib.hid (specUpOf n v b)
    generalize Pl.downI n v b = D at *
    generalize Pl.upI n v b = U at *
    generalize Pl.leftI n v b = M at *
    go_enter Try.func29, Try.ntmps29
    go_wp2_with (go_at_call 17; refine (specWideOk _ _ _ _).mono ?_; rintro e w' ⟨rfl, rfl⟩; rw [h])
    refine (HD.out _).mono ?_
    rintro e w1 ⟨rfl, b1⟩
    go_wp2_with fail
    refine (HU.out _).mono ?_
    rintro e w2 ⟨rfl, b2⟩
    go_wp2
    go_ret
    exact ⟨ret_int HL.out, b1.trans (b2.mono b1.size)⟩
  · rw [Pl.leftI_no h]
    have h' : Pl.wideB n v b = false := by simpa using h
    clear h
    go_enter Try.func29, Try.ntmps29
    go_wp2_with (go_at_call 17; refine (specWideOk _ _ _ _).mono ?_; rintro e w' ⟨rfl, rfl⟩; rw [h'])
    go_ret
    exact ⟨rfl, Below.refl _ _⟩

set_option maxHeartbeats 400000 in
theorem FnExactUpOf_walk (a0 : Int) (a1 : Int) (a2 : Int) (w : World) (_w0 : (Lit.int .i64 a0).wf = true) (_w1 : (Lit.int .i64 a1).wf = true) (_w2 : (Lit.int .i64 a2).wf = true) :
    Calls Try.prog 11 #[.int .i64 a0, .int .i64 a1, .int .i64 a2] w fun e w' => e = .returned (.bool true) ∧ Below w.heap.size w w' := by
  go_enter Try.func11, Try.ntmps11
  go_wp2_with (first | (go_at_call 26; refine (specUpOf _ _ _ _).mono ?_; rintro e w1 ⟨rfl, b1⟩) | (go_at_call 24; refine (implUpOf _ _ _ _).mono ?_; rintro e w2 ⟨rfl, b2⟩))
  go_ret
  exact ⟨rfl, b1.trans (b2.mono b1.size)⟩

set_option maxHeartbeats 400000 in
theorem FnExactDownOf_walk (a0 : Int) (a1 : Int) (a2 : Int) (w : World) (_w0 : (Lit.int .i64 a0).wf = true) (_w1 : (Lit.int .i64 a1).wf = true) (_w2 : (Lit.int .i64 a2).wf = true) :
    Calls Try.prog 10 #[.int .i64 a0, .int .i64 a1, .int .i64 a2] w fun e w' => e = .returned (.bool true) ∧ Below w.heap.size w w' := by
  go_enter Try.func10, Try.ntmps10
  go_wp2_with (first | (go_at_call 22; refine (specDownOf _ _ _ _).mono ?_; rintro e w1 ⟨rfl, b1⟩) | (go_at_call 21; refine (implDownOf _ _ _ _).mono ?_; rintro e w2 ⟨rfl, b2⟩))
  go_ret
  exact ⟨rfl, b1.trans (b2.mono b1.size)⟩

set_option maxHeartbeats 400000 in
theorem FnExactLeftOf_walk (a0 : Int) (a1 : Int) (a2 : Int) (w : World) (_w0 : (Lit.int .i64 a0).wf = true) (_w1 : (Lit.int .i64 a1).wf = true) (_w2 : (Lit.int .i64 a2).wf = true) :
    Calls Try.prog 12 #[.int .i64 a0, .int .i64 a1, .int .i64 a2] w fun e w' => e = .returned (.bool true) ∧ Below w.heap.size w w' := by
  go_enter Try.func12, Try.ntmps12
  go_wp2_with (first | (go_at_call 29; refine (specLeftOf _ _ _ _).mono ?_; rintro e w1 ⟨rfl, b1⟩) | (go_at_call 28; refine (implLeftOf _ _ _ _).mono ?_; rintro e w2 ⟨rfl, b2⟩))
  go_ret
  exact ⟨rfl, b1.trans (b2.mono b1.size)⟩

end Go.Proofs.Ytepkneeedkmaoaa
