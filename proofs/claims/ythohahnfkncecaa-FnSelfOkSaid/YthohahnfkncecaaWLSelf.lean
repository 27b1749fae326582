/-
  The walks of the laws of MadeBy, MakersOf and SelfOk.
-/
import Derived.Test.YthohahnfkncecaaDraws12
import Derived.Test.YthohahnfkncecaaSelf
namespace Go.Proofs.Ythohahnfkncecaa
open Go.RowKit

set_option maxRecDepth 100000 in
set_option maxHeartbeats 2000000 in
theorem FnMadeBy_walk (a0 : Option Addr) (len0 cap0 : Nat) (z0 : List Int) (w : World) (w0 : IsRow .u8 w a0 len0 cap0 z0) :
    Calls Try.prog 3 #[.slice a0 len0 cap0] w fun e w' => e = .returned (.bool true) ∧ Below w.heap.size w w' := by
  by_cases hl : 1048576 < len0
  · go_enter Try.func3, Try.ntmps3
    go_wp2
    go_ret
    exact ⟨rfl, Below.refl _ _⟩
  · go_enter Try.func3, Try.ntmps3
    go_wp2_with fail
    refine (drawMadeBy _ _ _ _ _ w0).mono ?_
    rintro e w1 ⟨n, b, rfl, ⟨n1, n2⟩, ⟨b1, b2⟩, hb1⟩
    clear w0 hl
    have HI := Lib.hid (implMadeBy n b)
    have HS := Lib.hid (specMadeBy n b)
    by_cases hB : Pl.okB n b = true
    · obtain ⟨x, k, rfl, rfl, k1, k2, k3⟩ := Pl.okB_nat hB
      have hM := Pl.madeI_yes x k hB
      have hm1 := Pl.made_mod k1 x
      have hm2 : k % 2 = 0 ∨ Pl.madeN k x % 2 = 0 := by
        by_cases h : k % 2 = 0
        · exact .inl h
        · exact .inr (Pl.made_even k1 (by omega) x)
      have hm3 : x < Pl.madeN k x ↔ 0 < x := by
        constructor
        · intro h
          refine Classical.byContradiction fun h0 => ?_
          obtain rfl : x = 0 := by omega
          rw [Pl.made_zero k1] at h; omega
        · exact fun h => Pl.made_more k1 h
      have hle := Pl.madeN_le (n := x) k1
      rw [hM] at HI HS
      clear hB hM
      generalize Pl.madeN k x = M at *
      obtain ⟨K, rfl⟩ : ∃ K, k = K + 1 := ⟨k - 1, by omega⟩
      have hz : (2 * (x : Int) - (M : Int)) % (K : Int) = 0 := by
        obtain ⟨q, hq⟩ := hm1
        rw [hq, show ((K + 1 : Nat) : Int) - 1 = (K : Int) by omega]
        exact Int.mul_emod_right _ _
      clear hm1
      by_cases hp : ((K : Int) + 1) % 2 = 0
      · clear hm2
        go_wp2_with fail
        refine (HI.out _).mono ?_
        rintro e w2 ⟨rfl, hb2⟩
        go_wp2_with fail
        refine (HS.out _).mono ?_
        rintro e w3 ⟨rfl, rfl⟩
        go_wp2_with fail
        go_ret
        exact ⟨rfl, hb1.trans (hb2.mono hb1.size)⟩
      · have hp2 : (M : Int) % 2 = 0 := by omega
        clear hm2
        go_wp2_with fail
        refine (HI.out _).mono ?_
        rintro e w2 ⟨rfl, hb2⟩
        go_wp2_with fail
        refine (HS.out _).mono ?_
        rintro e w3 ⟨rfl, rfl⟩
        go_wp2_with fail
        go_ret
        exact ⟨by simp, hb1.trans (hb2.mono hb1.size)⟩
    · have hM := Pl.madeI_no hB
      rw [hM] at HI HS
      clear hB hM
      go_wp2_with fail
      refine (HI.out _).mono ?_
      rintro e w2 ⟨rfl, hb2⟩
      go_wp2_with fail
      refine (HS.out _).mono ?_
      rintro e w3 ⟨rfl, rfl⟩
      go_wp2_with (go_at_call 18; refine (alive _).mono ?_; rintro e w' ⟨rfl, rfl⟩)
      go_ret
      exact ⟨rfl, hb1.trans (hb2.mono hb1.size)⟩

set_option maxRecDepth 100000 in
set_option maxHeartbeats 4000000 in
theorem FnMakersOf_walk (a0 : Option Addr) (len0 cap0 : Nat) (z0 : List Int) (w : World) (w0 : IsRow .u8 w a0 len0 cap0 z0) :
    Calls Try.prog 4 #[.slice a0 len0 cap0] w fun e w' => e = .returned (.bool true) ∧ Below w.heap.size w w' := by
  by_cases hl : 1048576 < len0
  · go_enter Try.func4, Try.ntmps4
    go_wp2
    go_ret
    exact ⟨rfl, Below.refl _ _⟩
  · go_enter Try.func4, Try.ntmps4
    go_wp2_with fail
    refine (drawMakersOf _ _ _ _ _ w0).mono ?_
    rintro e w1 ⟨n, b, rfl, ⟨n1, n2⟩, ⟨b1, b2⟩, hb1⟩
    clear w0 hl
    have HI := Lib.hid (implMakersOf n b)
    have HS := Lib.hid (specMakersOf n b)
    have hlen := Pl.makersA_len n b
    have hasc := Pl.makersA_asc n b
    by_cases hB : Pl.okB n b = true
    · obtain ⟨x, k, rfl, rfl, k1, k2, k3⟩ := Pl.okB_nat hB
      have HA : Hid (∀ K, K < (Pl.makersA x k).length → Pl.madeI ((Pl.makersA x k)[K]?.getD 0) k = x) := Lib.hid fun K hK => by
        rw [List.getElem?_eq_getElem hK, Option.getD_some]
        obtain ⟨m, hm, hm1, hm2⟩ := Pl.makersA_nat hB (List.getElem_mem hK)
        rw [hm, Pl.madeI_yes m k (Pl.okB_of k1 k2 (by omega)), hm2]
      have HX : Hid (∀ m : Nat, m ≤ x → ((m : Int) ∈ Pl.makersA x k ↔ Pl.madeI m k = x)) := Lib.hid fun m hm => by
        rw [Pl.makersA_mem hB, Pl.madeI_yes m k (Pl.okB_of k1 k2 (by omega))]
        omega
      have hM := Lib.hid (Pl.madeI_yes x k hB)
      have HMM : Hid (Pl.madeN k x ≤ 1000000000 → (x : Int) ∈ Pl.makersA (Pl.madeN k x) k) := Lib.hid fun h => (Pl.makersA_mem (Pl.okB_of k1 k2 h) x).2 rfl
      have hba : Pl.baseB k = true := by rw [Pl.baseB_iff]; omega
      have HM1 := Lib.hid (implMadeBy x k)
      rw [hM.out] at HM1
      have HI2 := Lib.hid (implMakersOf (Pl.madeN k x) k)
      have hlen2 := Pl.makersA_len (Pl.madeN k x) k
      have hle := Pl.madeN_le (n := x) k1
      clear hB hM
      generalize Pl.makersA x k = L at *
      generalize Pl.makersA (Pl.madeN k x) k = L2 at *
      generalize Pl.madeN k x = M at *
      go_wp2_with fail
      refine (HI.out _).mono ?_
      rintro e w2 ⟨v, rfl, q2, p2⟩
      go_wp2_with fail
      refine (HS.out _).mono ?_
      rintro e w3 ⟨v2, rfl, q3, p3⟩
      have i2 := q2.ints.below p3
      go_wp2_with fail
      refine (sameInts _ _ L L w3 i2 q3.ints (by omega)).mono ?_
      rintro e w4 ⟨rfl, p4⟩
      rw [show eqL L L = true by simp [eqL]]
      have c3 : Below w2.heap.size w2 w4 := p3.trans (p4.mono p3.size)
      have c2 : Below w.heap.size w w2 := hb1.trans (p2.mono hb1.size)
      have c4 : Below w.heap.size w w4 := c2.trans (c3.mono c2.size)
      have q4 := (q2.below p3).below p4
      clear i2 q3 q2 p3 p4 p2 hb1 HI HS c3 c2
      obtain ⟨la, lc, rfl⟩ := q4.shape
      have HR := Lib.hid q4
      clear q4
      go_wp2_with (go_at_call 23; refine (specBaseOk _ _).mono ?_; rintro e w' ⟨rfl, rfl⟩; rw [hba])
      clear hba
      go_loopw [6] (fun i wr => ∃ K : Nat, K ≤ L.length ∧ i = .int .i64 K ∧ Below w4.heap.size w4 wr) (fun i _ => L.length - (intOf i).toNat)
      case atStart => exact ⟨0, by omega, rfl, Below.refl _ _⟩
      case round =>
        obtain ⟨K, hK, rfl, hbw⟩ := hrel
        by_cases hlt : K < L.length
        · have q1 := HA.out K hlt
          obtain ⟨g, lc', hv, _, hgl, _, _, hc⟩ := (HR.out.below hbw).lies (by omega)
          obtain ⟨rfl, rfl⟩ : la = some ⟨g, 0, none⟩ ∧ lc = lc' := by simpa using hv
          have d1 := hc K hlt
          generalize L[K]?.getD 0 = A at *
          have hi1 : (K : Int) < (L.length : Int) := by omega
          clear hv hc
          go_wp2_with fail
          refine (implMadeBy _ _ _).mono ?_
          rintro e w6 ⟨rfl, b6⟩
          rw [q1]
          have c6 := hbw.trans (b6.mono hbw.size)
          clear d1 q1
          go_wp2_with fail
          go_roundw
          case rel => exact ⟨K + 1, by omega, by simp, c6⟩
          case measure => simp [intOf]; omega
        · obtain rfl : K = L.length := by omega
          have hi : ¬ (L.length : Int) < (L.length : Int) := by omega
          have c5 := c4.trans (hbw.mono c4.size)
          have HR5 := Lib.hid (HR.out.below hbw)
          clear HR HA hbw c4
          obtain ⟨wo, rfl⟩ : ∃ wo, wo = wr := ⟨_, rfl⟩
          by_cases hcase : 100 < x
          all_goals
            have HC := Lib.hid hcase
            go_wp2_with fail
            clear hcase
            go_loopw [7] (fun i wq => ∃ m : Nat, m ≤ x + 1 ∧ i = .int .i64 m ∧ Below wo.heap.size wo wq) (fun i _ => x + 1 - (intOf i).toNat)
            case atStart =>
              have hc := HC.out
              refine ⟨x - 100, by omega, ?_, Below.refl _ _⟩
              congr 1
              omega
            case round =>
              clear HC
              obtain ⟨m, hm, rfl, hbq⟩ := hrel
              by_cases hlt : m < x + 1
              · have hi : (m : Int) ≤ (x : Int) := by omega
                have hmx := HX.out m (by omega)
                have hin : ∀ W, Below wo.heap.size wo W → Calls Try.prog 24 #[.slice la L.length lc, .int .i64 m] W fun e w' => e = .returned (.bool (Pl.madeI m k == (x : Int))) ∧ W = w' := fun W hW => by
                  have hr := (HR5.out.below hW).ints
                  by_cases hmem : (m : Int) ∈ L
                  · refine (hasInt _ L m W hr (by omega) hmem).mono ?_
                    rintro e w' ⟨rfl, rfl⟩
                    exact ⟨by rw [hmx.1 hmem]; simp, rfl⟩
                  · refine (hasIntNo _ L m W hr (by omega) hmem).mono ?_
                    rintro e w' ⟨rfl, rfl⟩
                    have : (Pl.madeI m k == (x : Int)) = false := by rw [beq_eq_false_iff_ne]; exact fun h => hmem (hmx.2 h)
                    exact ⟨by rw [this], rfl⟩
                have HIN := Lib.hid (hin _ hbq)
                have HIM := Lib.hid (implMadeBy (m : Int) k)
                clear hin hmx
                generalize Pl.madeI (m : Int) k = MK at *
                obtain ⟨tq, htq⟩ : ∃ tq, (MK == (x : Int)) = tq := ⟨_, rfl⟩
                rw [htq] at HIN
                have ht2 : (tq != (MK == (x : Int))) = false := by rw [htq]; simp
                go_wp2_with fail
                refine HIN.out.mono ?_
                rintro e w6 ⟨rfl, rfl⟩
                go_wp2_with fail
                refine (HIM.out _).mono ?_
                rintro e w7 ⟨rfl, b7⟩
                go_wp2_with fail
                go_roundw
                case rel => exact ⟨m + 1, by omega, by simp, hbq.trans (b7.mono hbq.size)⟩
                case measure => simp [intOf]; omega
              · obtain rfl : m = x + 1 := by omega
                have hi : ¬ ((x + 1 : Nat) : Int) ≤ (x : Int) := by omega
                have c6 := c5.trans (hbq.mono c5.size)
                have HR6 := Lib.hid (HR5.out.below hbq)
                clear HX HR5 hbq c5
                go_wp2_with fail
                refine (HM1.out _).mono ?_
                rintro e w7 ⟨rfl, b7⟩
                have c7 := c6.trans (b7.mono c6.size)
                go_wp2_with fail
                refine (ascend _ L _ (HR6.out.below b7).ints (by omega) hasc).mono ?_
                rintro e w8 ⟨rfl, b8⟩
                have c8 := c7.trans (b8.mono c7.size)
                by_cases hbig : 1000000000 < M
                · go_wp2_with (go_at_call 18; refine (alive _).mono ?_; rintro e w' ⟨rfl, rfl⟩)
                  go_ret
                  exact ⟨rfl, c8⟩
                · have hmem := Lib.hid (HMM.out (by omega))
                  go_wp2_with fail
                  refine (HI2.out _).mono ?_
                  rintro e w9 ⟨v9, rfl, q9, b9⟩
                  have c9 := c8.trans (b9.mono c8.size)
                  go_wp2_with fail
                  refine (hasInt _ L2 x w9 q9.ints (by omega) hmem.out).mono ?_
                  rintro e w10 ⟨rfl, rfl⟩
                  go_wp2_with (go_at_call 18; refine (alive _).mono ?_; rintro e w' ⟨rfl, rfl⟩)
                  go_ret
                  exact ⟨rfl, c9⟩
    · have hM := Pl.makersA_no hB
      rw [hM] at HI HS
      clear hlen hasc hM
      have hcase : Pl.baseB b = false ∨ Pl.baseB b = true ∧ (n < 0 ∨ ¬ n < 0 ∧ 1000000000 < n) := by
        rw [Pl.okB_iff] at hB
        cases hb : Pl.baseB b with
        | false => exact .inl rfl
        | true => have := (Pl.baseB_iff b).1 hb; exact .inr ⟨rfl, by omega⟩
      clear hB
      go_wp2_with fail
      refine (HI.out _).mono ?_
      rintro e w2 ⟨v, rfl, q2, p2⟩
      go_wp2_with fail
      refine (HS.out _).mono ?_
      rintro e w3 ⟨v2, rfl, q3, p3⟩
      have i2 := q2.ints.below p3
      go_wp2_with fail
      refine (sameInts _ _ [] [] w3 i2 q3.ints (by simp)).mono ?_
      rintro e w4 ⟨rfl, p4⟩
      rw [show eqL [] [] = true by simp [eqL]]
      have c2 : Below w.heap.size w w2 := hb1.trans (p2.mono hb1.size)
      have c3 : Below w.heap.size w w3 := c2.trans (p3.mono c2.size)
      have c4 := c3.trans (p4.mono c3.size)
      obtain ⟨la, lc, rfl⟩ := q2.shape
      clear i2 q3 q2 p3 p4 p2 hb1 HI HS c3 c2
      rcases hcase with hba | ⟨hba, h | ⟨h, h'⟩⟩
      · go_wp2_with (first | (go_at_call 23; refine (specBaseOk _ _).mono ?_; rintro e w' ⟨rfl, rfl⟩; rw [hba]) | (go_at_call 18; refine (alive _).mono ?_; rintro e w' ⟨rfl, rfl⟩))
        go_ret
        exact ⟨rfl, c4⟩
      · go_wp2_with (first | (go_at_call 23; refine (specBaseOk _ _).mono ?_; rintro e w' ⟨rfl, rfl⟩; rw [hba]) | (go_at_call 18; refine (alive _).mono ?_; rintro e w' ⟨rfl, rfl⟩))
        go_ret
        exact ⟨rfl, c4⟩
      · go_wp2_with (first | (go_at_call 23; refine (specBaseOk _ _).mono ?_; rintro e w' ⟨rfl, rfl⟩; rw [hba]) | (go_at_call 18; refine (alive _).mono ?_; rintro e w' ⟨rfl, rfl⟩))
        go_ret
        exact ⟨rfl, c4⟩

set_option maxRecDepth 100000 in
set_option maxHeartbeats 4000000 in
theorem FnSelfOk_walk (a0 : Option Addr) (len0 cap0 : Nat) (z0 : List Int) (w : World) (w0 : IsRow .u8 w a0 len0 cap0 z0) :
    Calls Try.prog 5 #[.slice a0 len0 cap0] w fun e w' => e = .returned (.bool true) ∧ Below w.heap.size w w' := by
  by_cases hl : 1048576 < len0
  · go_enter Try.func5, Try.ntmps5
    go_wp2
    go_ret
    exact ⟨rfl, Below.refl _ _⟩
  · go_enter Try.func5, Try.ntmps5
    go_wp2_with fail
    refine (drawSelfOk _ _ _ _ _ w0).mono ?_
    rintro e w1 ⟨n, b, rfl, ⟨n1, n2⟩, ⟨b1, b2⟩, hb1⟩
    clear w0 hl
    have HI := Lib.hid (implSelfOk n b)
    have HS := Lib.hid (specSelfOk n b)
    by_cases hB : Pl.okB n b = true
    · obtain ⟨x, k, rfl, rfl, k1, k2, k3⟩ := Pl.okB_nat hB
      have hM := Lib.hid (Pl.madeI_yes x k hB)
      have hba : Pl.baseB k = true := by rw [Pl.baseB_iff]; omega
      have HM1 := Lib.hid (implMadeBy x k)
      rw [hM.out] at HM1
      have HM2 := Lib.hid (implSelfOk (Pl.madeN k x : Nat) k)
      rw [Pl.selfB_made] at HM2
      have hle := Pl.madeN_le (n := x) k1
      have HL := Lib.hid (implMakersOf x k)
      have hsl := Pl.selfB_len hB
      have hodd : k % 2 = 0 ∨ x % 2 = 0 ∨ Pl.selfB x k = true := by
        by_cases h1 : k % 2 = 0
        · exact .inl h1
        · by_cases h2 : x % 2 = 0
          · exact .inr (.inl h2)
          · exact .inr (.inr (Pl.selfB_odd hB (by omega) (by omega)))
      clear hB hM
      generalize Pl.makersA x k = L at *
      generalize Pl.selfB x k = S at *
      generalize Pl.madeN k x = M at *
      have hcase : ∃ T : Bool, ((L.length : Int) == 0) = T ∧ S = T ∧ ((k : Int) % 2 = 0 ∨ ¬ (k : Int) % 2 = 0 ∧ (x : Int) % 2 = 0 ∨ ¬ (k : Int) % 2 = 0 ∧ ¬ (x : Int) % 2 = 0 ∧ T = true) := by
        refine ⟨S, hsl.symm, rfl, ?_⟩
        rcases hodd with h | h | h
        · exact .inl (by omega)
        · by_cases h2 : (k : Int) % 2 = 0
          · exact .inl h2
          · exact .inr (.inl ⟨h2, by omega⟩)
        · by_cases h2 : (k : Int) % 2 = 0
          · exact .inl h2
          · by_cases h3 : (x : Int) % 2 = 0
            · exact .inr (.inl ⟨h2, h3⟩)
            · exact .inr (.inr ⟨h2, h3, h⟩)
      clear hodd hsl
      obtain ⟨T, hT, rfl, hcase⟩ := hcase
      have hT2 : (S == S) = true := by simp
      have hfin : ∀ w2 w3 w4 w5 w6 : World, Below w1.heap.size w1 w2 → Below w2.heap.size w2 w3 → Below w3.heap.size w3 w4 → Below w4.heap.size w4 w5 → Below w5.heap.size w5 w6 → Below w.heap.size w w6 := fun w2 w3 w4 w5 w6 p2 p3 p4 p5 p6 => by
        have c2 := hb1.trans (p2.mono hb1.size)
        have c3 := c2.trans (p3.mono c2.size)
        have c4 := c3.trans (p4.mono c3.size)
        have c5 := c4.trans (p5.mono c4.size)
        exact c5.trans (p6.mono c5.size)
      have HF := Lib.hid hfin
      clear hfin
      rcases hcase with h | ⟨h, h2⟩ | ⟨h, h2, rfl⟩
      all_goals
        go_wp2_with fail
        refine (HI.out _).mono ?_
        rintro e w2 ⟨rfl, p2⟩
        go_wp2_with fail
        refine (HS.out _).mono ?_
        rintro e w3 ⟨rfl, p3⟩
        go_wp2_with (first | (go_at_call 23; refine (specBaseOk _ _).mono ?_; rintro e w' ⟨rfl, rfl⟩; rw [hba]))
        refine (HL.out _).mono ?_
        rintro e w4 ⟨v4, rfl, q4, p4⟩
        obtain ⟨la, lc, rfl⟩ := q4.shape
        go_wp2_with fail
        refine (HM1.out _).mono ?_
        rintro e w5 ⟨rfl, p5⟩
        go_wp2_with fail
        refine (HM2.out _).mono ?_
        rintro e w6 ⟨rfl, p6⟩
        go_wp2_with (go_at_call 18; refine (alive _).mono ?_; rintro e w' ⟨rfl, rfl⟩)
        go_ret
        exact ⟨rfl, HF.out _ _ _ _ _ p2 p3 p4 p5 p6⟩
    · have hM := Pl.selfB_no hB
      rw [hM] at HI HS
      clear hM
      have hcase : Pl.baseB b = false ∨ Pl.baseB b = true ∧ (n < 0 ∨ ¬ n < 0 ∧ 1000000000 < n) := by
        rw [Pl.okB_iff] at hB
        cases hb : Pl.baseB b with
        | false => exact .inl rfl
        | true => have := (Pl.baseB_iff b).1 hb; exact .inr ⟨rfl, by omega⟩
      clear hB
      go_wp2_with fail
      refine (HI.out _).mono ?_
      rintro e w2 ⟨rfl, p2⟩
      go_wp2_with fail
      refine (HS.out _).mono ?_
      rintro e w3 ⟨rfl, p3⟩
      have c2 : Below w.heap.size w w2 := hb1.trans (p2.mono hb1.size)
      have c3 : Below w.heap.size w w3 := c2.trans (p3.mono c2.size)
      clear HI HS hb1 p2 p3 c2
      rcases hcase with hba | ⟨hba, h | ⟨h, h'⟩⟩
      all_goals
        go_wp2_with (first | (go_at_call 23; refine (specBaseOk _ _).mono ?_; rintro e w' ⟨rfl, rfl⟩; rw [hba]) | (go_at_call 18; refine (alive _).mono ?_; rintro e w' ⟨rfl, rfl⟩))
        go_ret
        exact ⟨rfl, c3⟩

end Go.Proofs.Ythohahnfkncecaa
