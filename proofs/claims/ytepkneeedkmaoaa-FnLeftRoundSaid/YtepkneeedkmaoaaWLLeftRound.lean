/-
  The walk of the law of LeftRound: in the base ten three digits lead to 495, and four to 6174.
-/
import Derived.Test.YtepkneeedkmaoaaSpecLeft
import Derived.Test.YtepkneeedkmaoaaDraws6
import Derived.Test.YtepkneeedkmaoaaCalm
namespace Go.Proofs.Ytepkneeedkmaoaa
open Go.RowKit

/-- What the law asks of the round into which what is left leads. -/
structure Pl.RoundFact (x v k mu p : Nat) (I : List Int) : Prop where
  len : I.length = p
  step : ∀ K, K < p → Pl.leftI (I[K]?.getD 0) v k = I[(K + 1) % p]?.getD 0
  small : ∀ K, K < p → 0 ≤ I[K]?.getD 0 ∧ I[K]?.getD 0 ≤ 16777216
  three : k = 10 → v = 3 → Pl.alikeB x v k = false → p = 1 ∧ mu ≤ 6 ∧ I[0]?.getD 0 = 495
  four : k = 10 → v = 4 → Pl.alikeB x v k = false → p = 1 ∧ mu ≤ 7 ∧ I[0]?.getD 0 = 6174

theorem Pl.round_fact {x v k mu p : Nat} (h1 : 2 ≤ k) (h2 : k ≤ 16) (h3 : 2 ≤ v) (h4 : v ≤ 6) (h5 : x < k ^ v) (hr : Pl.Rho (Pl.leftN k v) x mu p) : Pl.RoundFact x v k mu p (Pl.ints (Pl.orb (Pl.leftN k v) x mu p)) := by
  have hok := Pl.wideB_of h1 h2 h3 h4 h5
  have hlt := Pl.iter_left_lt h1 h5
  have hp := Pl.pow_le24 (b := k) (w := v) h2 h4
  have hat : ∀ K, K < p → (Pl.ints (Pl.orb (Pl.leftN k v) x mu p))[K]?.getD 0 = ((Pl.iter (Pl.leftN k v) (mu + K) x : Nat) : Int) := fun K hK => by
    rw [Pl.ints_get, Pl.orb_get hK]; rfl
  have hp1 := hr.pos
  refine ⟨by rw [Pl.ints_len, Pl.orb_len], fun K hK => ?_, fun K hK => ?_, fun hk hv ha => ?_, fun hk hv ha => ?_⟩
  · rw [hat K hK, hat _ (Nat.mod_lt _ (by omega)), Pl.leftI_yes _ v k (Pl.wideB_of h1 h2 h3 h4 (hlt _))]
    show ((Pl.iter (Pl.leftN k v) (mu + K + 1) x : Nat) : Int) = _
    by_cases hl : K + 1 = p
    · rw [hl, Nat.mod_self, Nat.add_assoc, hl, hr.back]; rfl
    · rw [Nat.mod_eq_of_lt (by omega)]; rfl
  · rw [hat K hK]
    have := hlt (mu + K)
    omega
  · subst hk; subst hv
    have hn : ¬ Pl.Alike 10 3 x := fun h => by rw [(Pl.alikeB_iff x 3 10 hok).2 h] at ha; cases ha
    obtain ⟨m, hm, hR, hc⟩ := Pl.rho_stay Pl.stay3 (Pl.left3 hn)
    obtain ⟨rfl, rfl⟩ := hr.unique hR
    refine ⟨rfl, hm, ?_⟩
    rw [hat 0 (by omega), Nat.add_zero, hc]; rfl
  · subst hk; subst hv
    have hn : ¬ Pl.Alike 10 4 x := fun h => by rw [(Pl.alikeB_iff x 4 10 hok).2 h] at ha; cases ha
    obtain ⟨m, hm, hR, hc⟩ := Pl.rho_stay Pl.stay4 (Pl.left4 hn)
    obtain ⟨rfl, rfl⟩ := hr.unique hR
    refine ⟨rfl, hm, ?_⟩
    rw [hat 0 (by omega), Nat.add_zero, hc]; rfl

set_option maxRecDepth 100000 in
set_option maxHeartbeats 4000000 in
theorem FnLeftRound_walk (a0 : Option Addr) (len0 cap0 : Nat) (z0 : List Int) (w : World) (w0 : IsRow .u8 w a0 len0 cap0 z0) :
    Calls Try.prog 7 #[.slice a0 len0 cap0] w fun e w' => e = .returned (.bool true) ∧ Below w.heap.size w w' := by
  by_cases hl : 1048576 < len0
  · go_enter Try.func7, Try.ntmps7
    go_wp2
    go_ret
    exact ⟨rfl, Below.refl _ _⟩
  · go_enter Try.func7, Try.ntmps7
    go_wp2_with fail
    refine (drawLeftRound _ _ _ _ _ w0).mono ?_
    rintro e w1 ⟨n, t, b, rfl, ⟨n1, n2⟩, ⟨t1, t2⟩, ⟨b1, b2⟩, hb1⟩
    clear w0 hl
    by_cases hok : Pl.wideB n t b = true
    · obtain ⟨x, v, k, rfl, rfl, rfl, h1, h2, h3, h4, h5⟩ := Pl.wideB_nat hok
      obtain ⟨mu, p, hrho, hp⟩ := Pl.left_rho h1 h2 h4 h5
      have HI := Lib.hid (implLeftYes x v k mu p h1 h2 h3 h4 h5 hrho hp)
      have HS := Lib.hid (specLeftYes x v k mu p h1 h2 h3 h4 h5 hrho hp)
      have HF := Lib.hid (Pl.round_fact h1 h2 h3 h4 h5 hrho)
      have hp1 := hrho.pos
      clear hrho h5 hok
      generalize Pl.ints (Pl.orb (Pl.leftN k v) x mu p) = L at *
      have hlen := HF.out.len
      go_wp2_with fail
      refine (HI.out _).mono ?_
      rintro e w2 ⟨u, rfl, q2, p2⟩
      go_wp2_with fail
      refine (HS.out _).mono ?_
      rintro e w3 ⟨u2, rfl, q3, p3⟩
      have i2 := q2.ints.below p3
      go_wp2_with fail
      refine (sameInts _ _ L L w3 i2 q3.ints (by omega)).mono ?_
      rintro e w4 ⟨rfl, p4⟩
      rw [show eqL L L = true by simp [eqL]]
      have c3 : Below w2.heap.size w2 w4 := p3.trans (p4.mono p3.size)
      have c2 : Below w.heap.size w w2 := hb1.trans (p2.mono hb1.size)
      have c4 : Below w.heap.size w w4 := c2.trans (c3.mono c2.size)
      have q4 := (q2.below p3).below p4
      clear i2 q3 q2 p3 p4 p2 hb1 HI HS c3 c2
      obtain ⟨la, lc, rfl, hc⟩ := q4.ints
      obtain ⟨g, off, rfl, _⟩ := hc 0 (by omega)
      have HC : Hid (∀ K, K < p → w4.cell? ⟨g, off + K, none⟩ = some (.int .i64 (L[K]?.getD 0))) := Lib.hid fun K hK => by
        obtain ⟨g', off', he, hcell⟩ := hc K (by omega)
        have e1 : (⟨g, off, none⟩ : Addr) = ⟨g', off', none⟩ := Option.some.inj he
        cases e1
        exact hcell
      have hgl : g < w4.heap.size := World.block_lt_of_cell? _ _ (HC.out 0 (by omega))
      rw [hlen]
      have hpne : ((p : Int) == 0) = false := by rw [beq_eq_false_iff_ne]; omega
      have hpp : (0 : Int) < (p : Int) := by omega
      clear q4 hc hlen
      go_wp2_with fail
      go_loopw [12] (fun i wr => ∃ K : Nat, K ≤ p ∧ i = .int .i64 K ∧ Below w4.heap.size w4 wr) (fun i _ => p - (intOf i).toNat)
      case atStart => exact ⟨0, by omega, rfl, Below.refl _ _⟩
      case round =>
        obtain ⟨K, hK, rfl, hbw⟩ := hrel
        by_cases hlt : K < p
        · have hi1 : (K : Int) < (p : Int) := by omega
          have hst := HF.out.step K hlt
          have hcP := HC.out K hlt
          have hcQ := HC.out ((K + 1) % p) (Nat.mod_lt _ (by omega))
          have hA : 0 ≤ ((K : Int) + 1) % (p : Int) := Int.emod_nonneg _ (by omega)
          have hB : ((K : Int) + 1) % (p : Int) < (p : Int) := Int.emod_lt_of_pos _ (by omega)
          have hAB : (0 ≤ ((K : Int) + 1) % (p : Int) ∧ ((K : Int) + 1) % (p : Int) < (p : Int)) = True := by simp [hA, hB]
          clear hA hB
          generalize L[K]?.getD 0 = P at *
          generalize L[(K + 1) % p]?.getD 0 = Q at *
          have dP := Below.cell hbw hgl hcP
          have dQ := Below.cell hbw hgl hcQ
          have hglr : g < wr.heap.size := Nat.lt_of_lt_of_le hgl hbw.size
          have hLS : Hid (∀ W, Calls Try.prog 28 #[.int .i64 P, .int .i64 v, .int .i64 k] W fun e W' => e = .returned (.int .i64 Q) ∧ Below W.heap.size W W') := Lib.hid fun W => by
            have := implLeftOf P v k W
            rwa [hst] at this
          have hi4 : 0 ≤ (K : Int) + 1 := by omega
          have hw1 : IntKind.i64.wrap ((K : Int) + 1) = (K : Int) + 1 := IntWalk.i64_in _ (by omega)
          have hQQ : (Q != Q) = false := by simp
          have hp0 : ¬ p = 0 := by omega
          have hp0' : ¬ (p : Int) = 0 := by omega
          clear hst hcP hcQ
          go_wp2_with fail
          refine wp_region_calm mixed (by kernel_rfl) ?_
          repeat (first
            | go_big_quiet_skip
            | (go_big_quiet_want
               first
                 | (go_big_quiet_op; go_big_quiet_on)
                 | (apply Exists.intro
                    refine ⟨fun W hW => ?_, ?_⟩
                    · have hcW1 := Below.cell hW hglr dP
                      have hcW2 := Below.cell hW hglr dQ
                      go_simp
                      first | done | exact rfl
                    simp only [Act.put, List.setIfInBounds_toArray, List.set_cons_zero, List.set_cons_succ]
                    go_big_quiet_on)
                 | (go_big_quiet_op
                    apply Exists.intro
                    refine ⟨fun W hW => Calm.call hW (hLS.out _), ?_⟩
                    go_big_quiet_on)
                 | (go_big_quiet_op
                    simp only [hAB, if_true]
                    apply Exists.intro
                    refine ⟨fun W hW => ⟨trivial, rfl⟩, ?_⟩
                    go_big_quiet_on)))
          refine wpQuiet_nil ?_
          intro W hW
          go_wp2_with fail
          go_roundw
          case rel => exact ⟨K + 1, by omega, by simp, hbw.trans (hW.mono hbw.size)⟩
          case measure => simp [intOf]; omega
        · obtain rfl : K = p := by omega
          have hi : ¬ (K : Int) < (K : Int) := by omega
          have c5 := c4.trans (hbw.mono c4.size)
          have hKn : ((K : Int) == 0) = false := by rw [beq_eq_false_iff_ne]; omega
          have hmu : (0 : Int) ≤ (mu : Int) := by omega
          have hglr : g < wr.heap.size := Nat.lt_of_lt_of_le hgl hbw.size
          have hd0 := Below.cell hbw hgl (HC.out 0 (by omega))
          rw [Nat.add_zero] at hd0
          by_cases hk : k = 10
          · have hk' : ((k : Int) != 10) = false := by simp; omega
            have F3 := HF.out.three hk
            have F4 := HF.out.four hk
            clear hk
            by_cases hv3 : v < 3
            · have hv' : (v : Int) < 3 := by omega
              clear hd0 F3 F4
              go_wp2_with fail
              go_ret
              exact ⟨ret_bool (by simp <;> omega), c5⟩
            · by_cases hv4 : 4 < v
              · have hv' : ¬ (v : Int) < 3 := by omega
                have hv'' : (4 : Int) < (v : Int) := by omega
                clear hd0 F3 F4
                go_wp2_with fail
                go_ret
                exact ⟨ret_bool (by simp <;> omega), c5⟩
              · have hv' : ¬ (v : Int) < 3 := by omega
                have hv'' : ¬ (4 : Int) < (v : Int) := by omega
                have HAK := Lib.hid (implAlikeOk (x : Int) v k)
                generalize hX0 : L[0]?.getD 0 = X0 at *
                have HX0 := Lib.hid hX0
                clear hX0
                obtain ⟨A, hAe⟩ : ∃ A, Pl.alikeB x v k = A := ⟨_, rfl⟩
                rw [hAe] at HAK F3 F4
                clear hAe
                cases A with
                | true =>
                  clear F3 F4 hd0
                  go_wp2_with (go_at_call 30; refine (HAK.out _).mono ?_; rintro e w6 ⟨rfl, p6⟩)
                  go_ret
                  exact ⟨ret_bool (by simp <;> omega), c5.trans (p6.mono c5.size)⟩
                | false =>
                  by_cases hv : v = 3
                  · obtain ⟨f1, f2, f3⟩ := F3 hv rfl
                    have g1 : ((v : Int) == 3) = true := by simp; omega
                    have g2 : ((K : Int) == 1) = true := by simp; omega
                    have g3 : (X0 == 495) = true := by simp [f3]
                    have g4 : (mu : Int) ≤ 6 := by omega
                    have g5 : (0 : Int) < (K : Int) := by omega
                    have g6 : 0 < K := by omega
                    clear F3 F4 f1 f2 f3 hv
                    go_wp2_with (go_at_call 30; refine (HAK.out _).mono ?_; rintro e w6 ⟨rfl, p6⟩; have hd6 := Below.cell p6 hglr hd0)
                    go_ret
                    exact ⟨ret_bool (by simp <;> omega), c5.trans (p6.mono c5.size)⟩
                  · obtain ⟨f1, f2, f3⟩ := F4 (by omega) rfl
                    have g1 : ((v : Int) == 3) = false := by rw [beq_eq_false_iff_ne]; omega
                    have g2 : ((K : Int) == 1) = true := by simp; omega
                    have g3 : (X0 == 6174) = true := by simp [f3]
                    have g4 : (mu : Int) ≤ 7 := by omega
                    have g5 : (0 : Int) < (K : Int) := by omega
                    have g6 : 0 < K := by omega
                    clear F3 F4 f1 f2 f3 hv
                    go_wp2_with (go_at_call 30; refine (HAK.out _).mono ?_; rintro e w6 ⟨rfl, p6⟩; have hd6 := Below.cell p6 hglr hd0)
                    go_ret
                    exact ⟨ret_bool (by simp <;> omega), c5.trans (p6.mono c5.size)⟩
          · have hk' : ((k : Int) != 10) = true := by simp; omega
            clear hd0
            go_wp2_with fail
            go_ret
            exact ⟨ret_bool (by simp <;> omega), c5⟩
    · have HI := Lib.hid (implLeftNo n t b hok)
      have HS := Lib.hid (specLeftNo n t b hok)
      clear hok
      go_wp2_with fail
      refine (HI.out _).mono ?_
      rintro e w2 ⟨rfl, p2⟩
      go_wp2_with fail
      refine (HS.out _).mono ?_
      rintro e w3 ⟨u2, rfl, q3, p3⟩
      go_wp2_with fail
      refine (sameInts _ _ [] [] w3 (Ints.nil _) q3.ints (by simp)).mono ?_
      rintro e w4 ⟨rfl, p4⟩
      rw [show eqL [] [] = true by simp [eqL]]
      have c2 : Below w.heap.size w w2 := hb1.trans (p2.mono hb1.size)
      have c3 : Below w.heap.size w w3 := c2.trans (p3.mono c2.size)
      go_wp2_with (go_at_call 18; refine (alive _).mono ?_; rintro e w' ⟨rfl, rfl⟩)
      go_ret
      exact ⟨rfl, c3.trans (p4.mono c3.size)⟩

end Go.Proofs.Ytepkneeedkmaoaa
