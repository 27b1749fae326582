/-
  The walk of the law of rounds: each number leads into a round.
-/
import Derived.Test.YthpimanfkbeanaaSpecRound
import Derived.Test.YthpimanfkbeanaaStay
import Derived.Test.YthpimanfkbeanaaHas
import Derived.Test.YthpimanfkbeanaaDraws4
namespace Go.Proofs.Ythpimanfkbeanaa
open Go.RowKit

/-- What the law asks of a round: each leads to the next one, none is above the top, all are in the second one, no two are equal. -/
structure Pl.RoundOk (t b : Int) (L N : List Int) (top : Int) : Prop where
  next : ∀ K, K < L.length → Pl.nextI (L[K]?.getD 0) t b = L[(K + 1) % L.length]?.getD 0
  top : ∀ K, K < L.length → L[K]?.getD 0 ≤ top
  has : ∀ K, K < L.length → L[K]?.getD 0 ∈ N
  diff : ∀ j K, j < K → K < L.length → L[j]?.getD 0 ≠ L[K]?.getD 0
  len : N.length = L.length

theorem Pl.round_ok {x s k : Nat} (hR : Pl.RuleOk s k) (hx : x ≤ 1000000000) : Pl.RoundOk s k (Pl.roundA x s k) (Pl.roundA (Pl.nextI x s k) s k) (Pl.stayI s k) ∧ 1 ≤ (Pl.roundA x s k).length := by
  have hok := Pl.okT_of hR hx
  have hn := Pl.next_le hR hx
  have hok2 : Pl.okT ((Pl.nextN s k x : Nat) : Int) s k = true := Pl.okT_of hR (by omega)
  have hrule : Pl.ruleB s k = true := by rw [Pl.okT, Bool.and_eq_true] at hok; exact hok.1
  obtain ⟨hr, hl, hle⟩ := Pl.next_round hR hx
  obtain ⟨hr2, _, _⟩ := Pl.next_round hR (show Pl.nextN s k x ≤ 1000000000 by omega)
  rw [Pl.nextI_yes x s k hok, Pl.roundA_yes x s k hok, Pl.roundA_yes _ s k hok2, Pl.stayI_yes s k hrule]
  generalize Pl.roundL (Pl.nextN s k) x = R at *
  generalize Pl.roundL (Pl.nextN s k) (Pl.nextN s k x) = R2 at *
  have hmem : ∀ K, K < R.length → R[K]?.getD 0 ∈ R := fun K hK => by
    rw [List.getElem?_eq_getElem hK]; exact List.getElem_mem _
  refine ⟨⟨fun K hK => ?_, fun K hK => ?_, fun K hK => ?_, fun j K hj hK => ?_, ?_⟩, ?_⟩
  · rw [Pl.ints_len] at hK ⊢
    rw [Pl.ints_get, Pl.ints_get, ← hr.back K hK]
    exact Pl.nextI_yes _ s k (Pl.okT_of hR (by have := hle _ (hmem K hK); omega))
  · rw [Pl.ints_len] at hK
    rw [Pl.ints_get]
    exact Int.ofNat_le.2 (Pl.next_round_le hR (hr.mem.1 (hmem K hK)))
  · rw [Pl.ints_len] at hK
    rw [Pl.ints_get]
    exact List.mem_map.2 ⟨_, (Pl.round_next_mem hr hr2 _).1 (hmem K hK), rfl⟩
  · rw [Pl.ints_len] at hK
    rw [Pl.ints_get, Pl.ints_get]
    intro he
    have he : R[j]?.getD 0 = R[K]?.getD 0 := Int.ofNat.inj he
    rw [List.getElem?_eq_getElem hK, List.getElem?_eq_getElem (show j < R.length by omega)] at he
    have := (List.getElem_inj hr.nodup).1 he
    omega
  · rw [Pl.ints_len, Pl.ints_len]; exact (Pl.round_next_len hr hr2).symm
  · rw [Pl.ints_len]; exact List.length_pos_iff.2 hr.pos

set_option maxRecDepth 100000 in
set_option maxHeartbeats 2000000 in
theorem FnRoundFrom_walk (a0 : Option Addr) (len0 cap0 : Nat) (z0 : List Int) (w : World) (w0 : IsRow .u8 w a0 len0 cap0 z0) :
    Calls Try.prog 4 #[.slice a0 len0 cap0] w fun e w' => e = .returned (.bool true) ∧ Below w.heap.size w w' := by
  by_cases hl : 1048576 < len0
  · go_enter Try.func4, Try.ntmps4
    go_wp2
    go_ret
    exact ⟨rfl, Below.refl _ _⟩
  · go_enter Try.func4, Try.ntmps4
    go_wp2_with fail
    refine (drawRoundFrom _ _ _ _ _ w0).mono ?_
    rintro e w1 ⟨n, t, b, rfl, _, _, _, hb1⟩
    clear w0 hl
    have HI := Lib.hid (implRoundFrom n t b)
    have HS := Lib.hid (specRoundFrom n t b)
    have hlen := Pl.roundA_len n t b
    have hFacts : Pl.okT n t b = true → Pl.RoundOk t b (Pl.roundA n t b) (Pl.roundA (Pl.nextI n t b) t b) (Pl.stayI t b) ∧ 1 ≤ (Pl.roundA n t b).length := fun h => by
      obtain ⟨x, s, k, rfl, rfl, rfl, hR, hx⟩ := Pl.okT_nat h
      exact Pl.round_ok hR hx
    have hNone : ¬ Pl.okT n t b = true → Pl.roundA n t b = [] := fun h => Pl.roundA_no h
    have hlen2 := Pl.roundA_len (Pl.nextI n t b) t b
    have HN := Lib.hid (implRoundFrom (Pl.nextI n t b) t b)
    generalize Pl.roundA n t b = L at *
    generalize Pl.roundA (Pl.nextI n t b) t b = NX at *
    go_wp2_with fail
    refine (HI.out _).mono ?_
    rintro e w2 ⟨v, rfl, r2, b2⟩
    go_wp2_with fail
    refine (HS.out _).mono ?_
    rintro e w3 ⟨v2, rfl, r3, b3⟩
    have i2 := r2.ints.below b3
    go_wp2_with fail
    refine (sameInts _ _ L L w3 i2 r3.ints (by omega)).mono ?_
    rintro e w4 ⟨rfl, b4⟩
    rw [show eqL L L = true by simp [eqL]]
    have c3 : Below w2.heap.size w2 w4 := b3.trans (b4.mono b3.size)
    have c2 : Below w.heap.size w w2 := hb1.trans (b2.mono hb1.size)
    have c4 : Below w.heap.size w w4 := c2.trans (c3.mono c2.size)
    have r4 := (r2.below b3).below b4
    clear i2 r3 r2 b3 b4 b2 hb1 HI HS
    by_cases hok : Pl.okT n t b = true
    · obtain ⟨hF, hp⟩ := hFacts hok
      have HF := Lib.hid hF
      have hNl := hF.len
      clear hFacts hNone hok hF
      generalize hT : Pl.stayI t b = top at *
      have HT := Lib.hid hT
      clear hT
      obtain ⟨g, cap, rfl, _, hgl, _, _, hc⟩ := r4.lies hp
      have HC := Lib.hid hc
      have hne : ((L.length : Int) == 0) = false := by rw [beq_eq_false_iff_ne]; omega
      clear hc r4
      go_wp2_with fail
      refine (implGreatestStay _ _ _).mono ?_
      rintro e w5 ⟨rfl, b5⟩
      rw [HT.out]
      go_wp2_with fail
      refine (specNextOf _ _ _ _).mono ?_
      rintro e w6 ⟨rfl, rfl⟩
      go_wp2_with fail
      refine (HN.out _).mono ?_
      rintro e w7 ⟨v7, rfl, r7, b7⟩
      have c5 := c4.trans (b5.mono c4.size)
      have c7 := c5.trans (b7.mono c5.size)
      have HC7 : Hid (∀ j, j < L.length → w7.cell? ⟨g, j, none⟩ = some (.int .i64 (L[j]?.getD 0))) := Lib.hid fun j hj => Below.cell b7 (Nat.lt_of_lt_of_le hgl b5.size) (Below.cell b5 hgl (HC.out j hj))
      have hg7 : g < w7.heap.size := Nat.lt_of_lt_of_le hgl (Nat.le_trans b5.size b7.size)
      have I7 := Lib.hid r7.ints
      obtain ⟨ga, gc, hv7⟩ := r7.shape
      subst hv7
      clear r7 b7 c4 c5 b5 HC hgl HN
      rw [hNl] at I7 ⊢
      go_wp2_with fail
      go_loopw [9, 10] (fun i _ wr => ∃ K : Nat, K ≤ L.length ∧ i = .int .i64 K ∧ Below w7.heap.size w7 wr) (fun i _ _ => L.length - (intOf i).toNat)
      case atStart => exact ⟨0, by omega, rfl, Below.refl _ _⟩
      case round =>
        obtain ⟨K, hK, rfl, hbw⟩ := hrel
        by_cases hlt : K < L.length
        · have hF := HF.out
          have q1 := hF.next K hlt
          have q2 := hF.top K hlt
          have q3 := hF.has K hlt
          have hJ := Nat.mod_lt (K + 1) (show 0 < L.length by omega)
          have d1 := Below.cell hbw hg7 (HC7.out K hlt)
          have d2 := Below.cell hbw hg7 (HC7.out ((K + 1) % L.length) hJ)
          have eJ : ((K : Int) + 1) % (L.length : Int) = (((K + 1) % L.length : Nat) : Int) := rfl
          have eT : ((K : Int) + 1).tmod (L.length : Int) = (((K + 1) % L.length : Nat) : Int) := rfl
          have eW : IntKind.i64.wrap ((K : Int) + 1) = (K : Int) + 1 := IntWalk.i64_in _ (by omega)
          have eL : ¬ L = [] := fun e => by rw [e] at hp; simp at hp
          generalize (K + 1) % L.length = J at *
          obtain ⟨A, hA⟩ : ∃ A, L[K]?.getD 0 = A := ⟨_, rfl⟩
          obtain ⟨B, hB⟩ : ∃ B, L[J]?.getD 0 = B := ⟨_, rfl⟩
          rw [hA] at q1 q2 q3 d1
          rw [hB] at q1 d2
          have HA := Lib.hid hA
          have HNX : Hid (∀ W, Calls Try.prog 14 #[.int .i64 A, .int .i64 t, .int .i64 b] W fun e W' => e = .returned (.int .i64 B) ∧ Below W.heap.size W W') := Lib.hid fun W => by
            have := implNextOf A t b W
            rwa [q1] at this
          have HH : Hid (∀ W, Below wr.heap.size wr W → Calls Try.prog 24 #[.slice ga L.length gc, .int .i64 A] W fun e W' => e = .returned (.bool true) ∧ W = W') := Lib.hid fun W hW => by
            have h1 := hasInt _ NX A W ((I7.out.below hbw).below (hW.mono (Nat.le_refl _))) (by omega) q3
            exact h1
          have hi1 : (K : Int) < (L.length : Int) := by omega
          have hi2 : (J : Int) < (L.length : Int) := by omega
          have hi3 : 0 ≤ (J : Int) := by omega
          have hA2 : ¬ top < A := by omega
          have hA3 : decide (top < A) = false := by simp; omega
          have hw7 := hbw.size
          clear hA hB q1 q3 q2
          have hgr : g < wr.heap.size := Nat.lt_of_lt_of_le hg7 hw7
          go_wp2_with fail
          refine wp_region_calm mixed (by kernel_rfl) ?_
          repeat (first
            | go_big_quiet_skip
            | (go_big_quiet_want
               first
                 | (go_big_quiet_op; go_big_quiet_on)
                 | (apply Exists.intro
                    refine ⟨fun W hW => ?_, ?_⟩
                    · have k1 := Below.cell hW hgr d1
                      have k2 := Below.cell hW hgr d2
                      go_simp
                      first | done | exact rfl
                    simp only [Act.put, List.setIfInBounds_toArray, List.set_cons_zero, List.set_cons_succ]
                    go_big_quiet_on)
                 | (go_big_quiet_op
                    apply Exists.intro
                    refine ⟨fun W hW => Calm.call hW (HNX.out W), ?_⟩
                    go_big_quiet_on)
                 | (go_big_quiet_op
                    apply Exists.intro
                    refine ⟨fun W hW => Calm.same hW (HH.out W hW), ?_⟩
                    go_big_quiet_on)))
          refine wpQuiet_nil ?_
          intro W2 hW2
          have hb2 : Below w7.heap.size w7 W2 := hbw.trans (hW2.mono hw7)
          clear hW2 d1 d2 HNX HH eJ eT eW hi2 hi3 hJ hA2 hA3
          go_wp2_with fail
          go_loopw [10] (fun j wr => ∃ J : Nat, J ≤ K ∧ j = .int .i64 J ∧ Below w7.heap.size w7 wr) (fun j _ => K - (intOf j).toNat)
          case atStart => exact ⟨0, by omega, rfl, hb2⟩
          case round =>
            clear hbw hb2
            rename_i wr1 _ _
            obtain ⟨J2, hJ2, rfl, hbw2⟩ := hrel
            by_cases hJK : J2 < K
            · have d1 := Below.cell hbw2 hg7 (HC7.out K hlt)
              have d2 := Below.cell hbw2 hg7 (HC7.out J2 (by omega))
              have hne2 := HF.out.diff J2 K hJK hlt
              rw [HA.out] at d1 hne2
              generalize L[J2]?.getD 0 = P at *
              have hb : (P == A) = false := by simp [hne2]
              have hi4 : (J2 : Int) < (K : Int) := by omega
              have hi5 : (J2 : Int) < (L.length : Int) := by omega
              clear hne2
              go_wp2
              go_quiet (fail)
              go_wp2
              refine ⟨⟨J2 + 1, by omega, by go_num, hbw2.trans ((drewN_below _ nq).mono hbw2.size)⟩, by simp [intOf]; omega⟩
            · have hi4 : ¬ (J2 : Int) < (K : Int) := by omega
              go_wp2_with fail
              go_roundw
              case rel => exact ⟨K + 1, by omega, by simp, hbw2⟩
              case measure => simp [intOf]; omega
        · obtain rfl : K = L.length := by omega
          have hi : ¬ (L.length : Int) < (L.length : Int) := by omega
          go_wp2_with fail
          go_ret
          exact ⟨rfl, c7.trans (hbw.mono c7.size)⟩
    · have hL := hNone hok
      subst hL
      obtain ⟨a, cap, rfl⟩ := r4.shape
      clear hFacts hNone r4
      go_wp2_with (go_at_call 16; refine (alive _).mono ?_; rintro e w' ⟨rfl, rfl⟩)
      go_ret
      exact ⟨rfl, c4⟩

end Go.Proofs.Ythpimanfkbeanaa
