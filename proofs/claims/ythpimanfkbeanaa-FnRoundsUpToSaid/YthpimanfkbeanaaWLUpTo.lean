/-
  The walk of the law of rounds up to a number: more numbers have no fewer rounds.
-/
import Derived.Test.YthpimanfkbeanaaUpTo
import Derived.Test.YthpimanfkbeanaaHas
import Derived.Test.YthpimanfkbeanaaDraws4
namespace Go.Proofs.Ythpimanfkbeanaa
open Go.RowKit

/-- What the law asks of the least numbers: each has a round, is among more, and is the least one of its round; they ascend. -/
structure Pl.UpOk (t b : Int) (L MX : List Int) : Prop where
  pos : ∀ K, K < L.length → 1 ≤ (Pl.roundA (L[K]?.getD 0) t b).length
  has : ∀ K, K < L.length → 1 ≤ MX.length → L[K]?.getD 0 ∈ MX
  least : ∀ K, K < L.length → ∀ j, j < (Pl.roundA (L[K]?.getD 0) t b).length → L[K]?.getD 0 ≤ (Pl.roundA (L[K]?.getD 0) t b)[j]?.getD 0
  asc : L.Pairwise (· < ·)

theorem Pl.low_round {n : Nat} {t b : Int} (h : Pl.ruleB t b = true) (hn : n ≤ 1000000000) : 1 ≤ (Pl.roundA (Pl.lowG t b n) t b).length ∧ ∀ y ∈ Pl.roundA (Pl.lowG t b n) t b, Pl.lowG t b n ≤ y := by
  obtain ⟨s, k, rfl, rfl, hR⟩ := Pl.ruleB_nat h
  obtain ⟨hr, _, hle⟩ := Pl.next_round hR hn
  have hok := Pl.okT_of hR hn
  have hmem : Pl.lowG s k n ∈ Pl.ints (Pl.roundL (Pl.nextN s k) n) := by
    unfold Pl.lowG
    rw [Pl.roundA_yes n s k hok]
    refine Pl.minOf_mem fun e => ?_
    have h1 := List.length_pos_iff.2 hr.pos
    rw [← Pl.ints_len, e] at h1
    simp at h1
  obtain ⟨x, hx, he⟩ := List.mem_map.1 hmem
  have hx9 := hle x hx
  rw [← he]
  have hok2 : Pl.okT (x : Int) s k = true := Pl.okT_of hR (by omega)
  obtain ⟨hr2, _, _⟩ := Pl.next_round hR (show x ≤ 1000000000 by omega)
  rw [Pl.roundA_yes x s k hok2]
  refine ⟨by rw [Pl.ints_len]; exact List.length_pos_iff.2 hr2.pos, fun y hy => ?_⟩
  obtain ⟨z, hz, rfl⟩ := List.mem_map.1 hy
  rw [he]
  unfold Pl.lowG
  rw [Pl.roundA_yes n s k hok]
  refine Pl.minOf_le (List.mem_map.2 ⟨z, ?_, rfl⟩)
  rw [hr.mem, ← Pl.inRound_same (hr.mem.1 hx), ← hr2.mem]
  exact hz

theorem Pl.up_ok (most t b : Int) : Pl.UpOk t b (Pl.upA most t b) (Pl.upA (most + 1) t b) := by
  by_cases h : Pl.upB most t b = true
  · obtain ⟨g1, g2, g3⟩ := (Pl.upB_iff most t b).1 h
    obtain ⟨m, rfl⟩ := Int.eq_ofNat_of_zero_le (show 0 ≤ most by omega)
    rw [Pl.upA_yes m t b h]
    have hel : ∀ K, K < (Pl.upL (Pl.lowG t b) m).length → ∃ n, 1 ≤ n ∧ n ≤ m ∧ (Pl.upL (Pl.lowG t b) m)[K]?.getD 0 = Pl.lowG t b n := fun K hK => by
      rw [List.getElem?_eq_getElem hK]
      exact Pl.mem_upL.1 (List.getElem_mem hK)
    refine ⟨fun K hK => ?_, fun K hK h1 => ?_, fun K hK j hj => ?_, Pl.upL_asc _ _⟩
    · obtain ⟨n, h1, h2, he⟩ := hel K hK
      rw [he]; exact (Pl.low_round g1 (by omega)).1
    · obtain ⟨n, h2, h3, he⟩ := hel K hK
      rw [he]
      by_cases h' : Pl.upB ((m : Int) + 1) t b = true
      · rw [show (m : Int) + 1 = ((m + 1 : Nat) : Int) from rfl] at h' ⊢
        rw [Pl.upA_yes (m + 1) t b h']
        exact Pl.mem_upL.2 ⟨n, h2, by omega, rfl⟩
      · rw [Pl.upA_no h'] at h1; simp at h1
    · obtain ⟨n, h2, h3, he⟩ := hel K hK
      rw [he] at hj ⊢
      refine (Pl.low_round g1 (by omega)).2 _ ?_
      rw [List.getElem?_eq_getElem hj]
      exact List.getElem_mem _
  · rw [Pl.upA_no h]
    exact ⟨fun K hK => by simp at hK, fun K hK => by simp at hK, fun K hK => by simp at hK, List.Pairwise.nil⟩

set_option maxRecDepth 100000 in
set_option maxHeartbeats 2000000 in
theorem FnRoundsUpTo_walk (a0 : Option Addr) (len0 cap0 : Nat) (z0 : List Int) (w : World) (w0 : IsRow .u8 w a0 len0 cap0 z0) :
    Calls Try.prog 7 #[.slice a0 len0 cap0] w fun e w' => e = .returned (.bool true) ∧ Below w.heap.size w w' := by
  by_cases hl : 1048576 < len0
  · go_enter Try.func7, Try.ntmps7
    go_wp2
    go_ret
    exact ⟨rfl, Below.refl _ _⟩
  · go_enter Try.func7, Try.ntmps7
    go_wp2_with fail
    refine (drawRoundsUpTo _ _ _ _ _ w0).mono ?_
    rintro e w1 ⟨n, t, b, rfl, ⟨n1, n2⟩, _, _, hb1⟩
    clear w0 hl
    have HI := Lib.hid (implRoundsUpTo n t b)
    have HS := Lib.hid (specRoundsUpTo n t b)
    have HM := Lib.hid (implRoundsUpTo (n + 1) t b)
    have hlen := Pl.upA_len n t b
    have hlen2 := Pl.upA_len (n + 1) t b
    have HF := Lib.hid (Pl.up_ok n t b)
    generalize Pl.upA n t b = L at *
    generalize Pl.upA (n + 1) t b = MX at *
    go_wp2_with fail
    refine (HI.out _).mono ?_
    rintro e w2 ⟨v, rfl, r2, b2⟩
    go_wp2_with fail
    refine (HS.out _).mono ?_
    rintro e w3 ⟨v2, rfl, r3, b3⟩
    have i2 := r2.ints.below b3
    go_wp2_with fail
    refine (sameInts _ _ L L w3 i2 r3.ints (by omega)).mono ?_
    rintro e w4 ⟨rfl, b4⟩
    rw [show eqL L L = true by simp [eqL]]
    have c3 : Below w2.heap.size w2 w4 := b3.trans (b4.mono b3.size)
    have c2 : Below w.heap.size w w2 := hb1.trans (b2.mono hb1.size)
    have c4 : Below w.heap.size w w4 := c2.trans (c3.mono c2.size)
    have r4 := (r2.below b3).below b4
    clear i2 r3 r2 b3 b4 b2 hb1 HI HS c3 c2
    go_wp2_with fail
    refine (HM.out _).mono ?_
    rintro e w5 ⟨vm, rfl, rm, b5⟩
    have c5 := c4.trans (b5.mono c4.size)
    have r5 := r4.below b5
    obtain ⟨ga, gc, rfl⟩ := rm.shape
    have IM := Lib.hid rm.ints
    have IL := Lib.hid r5.ints
    obtain ⟨la, lc, rfl⟩ := r5.shape
    have HR5 := Lib.hid r5
    clear r4 b5 c4 rm HM r5
    go_wp2_with fail
    go_loopw [8, 9, 10] (fun i _ _ wr => ∃ K : Nat, K ≤ L.length ∧ i = .int .i64 K ∧ Below w5.heap.size w5 wr) (fun i _ _ _ => L.length - (intOf i).toNat)
    case atStart => exact ⟨0, by omega, rfl, Below.refl _ _⟩
    case round =>
      obtain ⟨K, hK, rfl, hbw⟩ := hrel
      by_cases hlt : K < L.length
      · have q1 := HF.out.pos K hlt
        have q2 := HF.out.has K hlt
        have q3 := HF.out.least K hlt
        obtain ⟨g, lc', hv, _, hgl, _, _, hc⟩ := HR5.out.lies (by omega)
        obtain ⟨rfl, rfl⟩ : la = some ⟨g, 0, none⟩ ∧ lc = lc' := by simpa using hv
        have hcK := hc K hlt
        obtain ⟨A, hA⟩ : ∃ A, L[K]?.getD 0 = A := ⟨_, rfl⟩
        rw [hA] at q1 q2 q3 hcK
        have d1 := Below.cell hbw hgl hcK
        have HCR := Lib.hid (implRoundFrom A t b)
        have hRl := Pl.roundA_len A t b
        generalize Pl.roundA A t b = RX at *
        have hi1 : (K : Int) < (L.length : Int) := by omega
        clear hv hc hA
        go_wp2_with fail
        refine (HCR.out _).mono ?_
        rintro e w6 ⟨v6, rfl, r6, b6⟩
        obtain ⟨g6, cap6, rfl, _, hg6, _, _, hc6⟩ := r6.lies q1
        have HC6 := Lib.hid hc6
        have c6 := hbw.trans (b6.mono hbw.size)
        have d6 := Below.cell c6 hgl hcK
        have hne : ((RX.length : Int) == 0) = false := by rw [beq_eq_false_iff_ne]; omega
        have Q3 := Lib.hid q3
        clear d1 hc6 r6 q3
        by_cases hMX : MX.length = 0
        · have hm0 : ¬ 0 < (MX.length : Int) := by omega
          have HMX := Lib.hid hMX
          clear hMX q2
          go_wp2_with fail
          go_loopw [10] (fun j wr => ∃ J : Nat, J ≤ RX.length ∧ j = .int .i64 J ∧ Below w6.heap.size w6 wr) (fun j _ => RX.length - (intOf j).toNat)
          case atStart => exact ⟨0, by omega, rfl, Below.refl _ _⟩
          case round =>
            obtain ⟨J, hJ, rfl, hbw2⟩ := hrel
            have c9 := c6.trans (hbw2.mono c6.size)
            by_cases hJR : J < RX.length
            · have k1 := Below.cell c9 hgl hcK
              have k2 := Below.cell hbw2 hg6 (HC6.out J hJR)
              have hle2 := Q3.out J hJR
              generalize RX[J]?.getD 0 = P at *
              have hi4 : (J : Int) < (RX.length : Int) := by omega
              have hPA : ¬ P < A := by omega
              clear d6 hcK
              go_wp2
              go_quiet (fail)
              go_wp2
              refine ⟨⟨J + 1, by omega, by go_num, hbw2.trans ((drewN_below _ nq).mono hbw2.size)⟩, by simp [intOf]; omega⟩
            · have hi4 : ¬ (J : Int) < (RX.length : Int) := by omega
              go_wp2_with fail
              go_roundw
              case rel => exact ⟨K + 1, by omega, by simp, c9⟩
              case measure => simp [intOf]; omega
        · have hm0 : 0 < (MX.length : Int) := by omega
          have HH := Lib.hid (hasInt _ MX A w6 (IM.out.below c6) (by omega) (q2 (by omega)))
          clear hMX q2
          go_wp2_with fail
          refine HH.out.mono ?_
          rintro e w' ⟨rfl, rfl⟩
          go_wp2_with fail
          go_loopw [10] (fun j wr => ∃ J : Nat, J ≤ RX.length ∧ j = .int .i64 J ∧ Below w6.heap.size w6 wr) (fun j _ => RX.length - (intOf j).toNat)
          case atStart => exact ⟨0, by omega, rfl, Below.refl _ _⟩
          case round =>
            obtain ⟨J, hJ, rfl, hbw2⟩ := hrel
            have c9 := c6.trans (hbw2.mono c6.size)
            by_cases hJR : J < RX.length
            · have k1 := Below.cell c9 hgl hcK
              have k2 := Below.cell hbw2 hg6 (HC6.out J hJR)
              have hle2 := Q3.out J hJR
              generalize RX[J]?.getD 0 = P at *
              have hi4 : (J : Int) < (RX.length : Int) := by omega
              have hPA : ¬ P < A := by omega
              clear d6 hcK
              go_wp2
              go_quiet (fail)
              go_wp2
              refine ⟨⟨J + 1, by omega, by go_num, hbw2.trans ((drewN_below _ nq).mono hbw2.size)⟩, by simp [intOf]; omega⟩
            · have hi4 : ¬ (J : Int) < (RX.length : Int) := by omega
              go_wp2_with fail
              go_roundw
              case rel => exact ⟨K + 1, by omega, by simp, c9⟩
              case measure => simp [intOf]; omega
      · obtain rfl : K = L.length := by omega
        have hi : ¬ (L.length : Int) < (L.length : Int) := by omega
        go_wp2_with fail
        refine (ascend _ L _ (IL.out.below hbw) (by omega) HF.out.asc).mono ?_
        rintro e w8 ⟨rfl, b8⟩
        go_wp2_with (go_at_call 16; refine (alive _).mono ?_; rintro e w' ⟨rfl, rfl⟩)
        go_ret
        have c8 := hbw.trans (b8.mono hbw.size)
        exact ⟨rfl, c5.trans (c8.mono c5.size)⟩

end Go.Proofs.Ythpimanfkbeanaa
