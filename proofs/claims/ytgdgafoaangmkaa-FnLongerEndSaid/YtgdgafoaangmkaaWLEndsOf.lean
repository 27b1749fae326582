/-
  The walks of the laws of LongerEnd and EndsOf.
-/
import Derived.Test.YtgdgafoaangmkaaWLEnds
namespace Go.Proofs.Ytgdgafoaangmkaa
open Go.RowKit

namespace Pl

/-- An end out of the list of all. -/
theorem endsA_get {L k j : Nat} (h : endsOk L k = true) (hj : j < (endsA L k).length) : ∃ x : Nat, (endsA (L : Int) (k : Int))[j]?.getD 0 = (x : Int) ∧ Idem (k ^ L) x ∧ (x : Int) ∈ endsA L k := by
  have e := endsA_yes h
  rw [e] at hj ⊢
  rw [List.length_map] at hj
  have hm := List.getElem_mem hj
  refine ⟨(endsF (k ^ L))[j], ?_, mem_endsF.1 hm, List.mem_map.2 ⟨_, hm, rfl⟩⟩
  rw [List.getElem?_map, List.getElem?_eq_getElem hj]; rfl

theorem endsA_mem {L k x : Nat} (h : endsOk L k = true) (hx : Idem (k ^ L) x) : (x : Int) ∈ endsA L k := by
  rw [endsA_yes h]; exact List.mem_map.2 ⟨x, mem_endsF.2 hx, rfl⟩

theorem endsA_asc (l b : Int) : (endsA l b).Pairwise (· < ·) := by
  unfold endsA
  split
  · rw [List.pairwise_map]
    have h : (endsF (b.toNat ^ l.toNat)).Pairwise (· < ·) := List.Pairwise.sublist List.filter_sublist (List.pairwise_lt_range)
    exact h.imp fun h => by omega
  · exact List.Pairwise.nil

end Pl

set_option maxRecDepth 100000 in
set_option maxHeartbeats 2000000 in
theorem FnLongerEnd_walk (a0 : Option Addr) (len0 cap0 : Nat) (z0 : List Int) (w : World) (w0 : IsRow .u8 w a0 len0 cap0 z0) :
    Calls Try.prog 6 #[.slice a0 len0 cap0] w fun e w' => e = .returned (.bool true) ∧ Below w.heap.size w w' := by
  by_cases hl : 1048576 < len0
  · go_enter Try.func6, Try.ntmps6
    go_wp2
    go_ret
    exact ⟨rfl, Below.refl _ _⟩
  · go_enter Try.func6, Try.ntmps6
    go_wp2_with fail
    refine (drawLongerEnd _ _ _ _ _ w0).mono ?_
    rintro e w1 ⟨n, t, b, rfl, ⟨n1, n2⟩, ⟨t1, t2⟩, ⟨b1, b2⟩, hb1⟩
    clear w0 hl
    by_cases hok : Pl.endB n t b = true ∧ t ≤ 3
    · obtain ⟨hE, ht3⟩ := hok
      have HE := Lib.hid hE
      obtain ⟨x, L, k, rfl, rfl, rfl, h1, h2, h3, h4, h5⟩ := Pl.endB_nat hE
      have hO := Lib.hid (Pl.longerO_yes hE (by omega))
      have hP := Pl.pow_le16 (b := k) (L := L) h4 h2
      have hP2 : 2 ≤ k ^ L := by
        have := Nat.pow_le_pow_right (show 0 < k by omega) h1
        rw [Nat.pow_one] at this; omega
      obtain ⟨_, g2, _⟩ := Pl.ahead_spec h3 h4 h1 (by omega) h5
      have hmod := Pl.longer_mod h5
      have hMle := g2.1
      have hP' := Pl.pow_le16 (b := k) (L := L + 1) h4 (by omega)
      have hMB : Hid (Pl.endB ((Pl.longerN k L x : Nat) : Int) ((L : Int) + 1) k = true) := Lib.hid ((Pl.endB_iff _ (L + 1) k).2 ⟨by omega, by omega, g2⟩)
      have HONLY : Hid (∀ j : Nat, j < (Pl.endsA ((L : Int) + 1) (k : Int)).length → ∃ y : Nat, (Pl.endsA ((L : Int) + 1) (k : Int))[j]?.getD 0 = (y : Int) ∧ y ≤ 65535 ∧ (y % k ^ L = x → y = Pl.longerN k L x)) := Lib.hid fun j hj => by
        obtain ⟨y, hy, hi, _⟩ := Pl.endsA_get (L := L + 1) (k := k) (Pl.endsOk_of (by omega) (by omega) h3 h4) hj
        exact ⟨y, hy, by have := hi.1; omega, fun he => Pl.longer_only h3 h4 h1 (by omega) h5 hi he⟩
      have hlen := Pl.endsA_len ((L : Int) + 1) (k : Int)
      have HI := Lib.hid (implEndsI ((L : Int) + 1) (k : Int))
      have hxP := h5.1
      clear hE h5 g2 hP'
      generalize Pl.endsA ((L : Int) + 1) (k : Int) = E at *
      generalize Pl.longerN k L x = M at *
      have hM16 : M ≤ 65536 := by
        have := Pl.pow_le16 (b := k) (L := L + 1) h4 (by omega)
        omega
      clear hMle
      go_wp2_with fail
      refine (implLongerEnd _ _ _ _).mono ?_
      rintro e w2 ⟨rfl, hb2⟩
      rw [hO.out]
      go_wp2_with fail
      refine (specLongerEnd _ _ _ _).mono ?_
      rintro e w3 ⟨rfl, rfl⟩
      rw [hO.out]
      have c2 : Below w.heap.size w w2 := hb1.trans (hb2.mono hb1.size)
      clear hb1 hb2
      simp only [Pl.wV, Pl.wB]
      go_wp2_with fail
      go_loop [10, 11] (fun pv iv => ∃ I : Nat, I ≤ L ∧ iv = .int .i64 I ∧ pv = .int .i64 ((k ^ I : Nat) : Int)) (fun _ iv => L - (intOf iv).toNat)
      case atStart => exact ⟨0, by omega, rfl, by simp⟩
      case round =>
        obtain ⟨I, hI, rfl, rfl⟩ := hrel
        by_cases hlt : I < L
        · have i2 : (I : Int) < (L : Int) := by omega
          obtain ⟨p1, p2, p3, p4⟩ := Pl.pow_step (k := k) (I := I) (L := L) (by omega) h4 hlt h2
          have HP1 := Lib.hid p1
          have e6 : IntKind.i64.wrap (((k ^ I : Nat) : Int) * (k : Int)) = ((k ^ I * k : Nat) : Int) := by rw [← Int.natCast_mul]; exact IntWalk.i64_in _ (by omega)
          clear p1 hmod hxP hP hP2
          generalize hF : k ^ I = F at *
          clear hF
          generalize F * k = FK at *
          go_wp2_with fail
          go_round
          case rel => exact ⟨I + 1, by omega, by go_num, by rw [HP1.out]⟩
          case measure => simp [intOf]; omega
        · obtain rfl : I = L := by omega
          have i2 : ¬ (I : Int) < (I : Int) := by omega
          have hP0 : (((k ^ I : Nat) : Int) == 0) = false := by rw [beq_eq_false_iff_ne]; omega
          generalize k ^ I = P at *
          have e2 : ((M : Int)).tmod (P : Int) = (x : Int) := by rw [show ((M : Int)).tmod (P : Int) = ((M % P : Nat) : Int) from rfl, hmod]
          have e3 : ((M : Int)) % (P : Int) = (x : Int) := by rw [show ((M : Int)) % (P : Int) = ((M % P : Nat) : Int) from rfl, hmod]
          clear hmod
          go_wp2_with fail
          refine (HI.out _).mono ?_
          rintro e w4 ⟨v, rfl, hv, hb4⟩
          obtain ⟨a', cap', rfl, ha⟩ := hv
          have c4 : Below w.heap.size w w4 := c2.trans (hb4.mono c2.size)
          have HA := Lib.hid ha
          clear c2 hb4 ha HI
          go_wp2_with fail
          go_loop [13] (fun jv => ∃ j : Nat, j ≤ E.length ∧ jv = .int .i64 j) (fun jv => E.length - (intOf jv).toNat)
          case atStart => exact ⟨0, by omega, rfl⟩
          case round =>
            obtain ⟨j, hj, rfl⟩ := hrel
            by_cases hjl : j < E.length
            · have i3 : (j : Int) < (E.length : Int) := by omega
              obtain ⟨y, hy, hy2, hy3⟩ := HONLY.out j hjl
              obtain ⟨bb, off, rfl, hc⟩ := HA.out j hjl
              rw [hy] at hc
              have HY3 := Lib.hid hy3
              clear hy hy3
              have e4 : ((y : Int)).tmod (P : Int) = ((y % P : Nat) : Int) := rfl
              have e5 : ((y : Int)) % (P : Int) = ((y % P : Nat) : Int) := rfl
              by_cases he : y % P = x
              · have hyM := HY3.out he
                subst hyM
                rw [he] at e4 e5
                have t1 : ((x : Int) == (x : Int)) = true := by simp
                have t2 : ((y : Int) != (y : Int)) = false := by simp
                clear he
                go_wp2_with fail
                go_round
                case rel => exact ⟨j + 1, by omega, by go_num⟩
                case measure => simp [intOf]; omega
              · have t1 : (((y % P : Nat) : Int) == (x : Int)) = false := by rw [beq_eq_false_iff_ne]; omega
                generalize y % P = R at *
                clear he
                go_wp2_with fail
                go_round
                case rel => exact ⟨j + 1, by omega, by go_num⟩
                case measure => simp [intOf]; omega
            · obtain rfl : j = E.length := by omega
              have i3 : ¬ (E.length : Int) < (E.length : Int) := by omega
              go_wp2_with fail
              refine (implEndOk _ _ _ _).mono ?_
              rintro e w5 ⟨rfl, hb5⟩
              rw [hMB.out]
              go_wp2
              go_ret
              exact ⟨rfl, c4.trans (hb5.mono c4.size)⟩
    · have HO := Lib.hid (Pl.longerO_no hok)
      go_wp2_with fail
      refine (implLongerEnd _ _ _ _).mono ?_
      rintro e w2 ⟨rfl, hb2⟩
      rw [HO.out]
      go_wp2_with fail
      refine (specLongerEnd _ _ _ _).mono ?_
      rintro e w3 ⟨rfl, rfl⟩
      rw [HO.out]
      have c2 : Below w.heap.size w w2 := hb1.trans (hb2.mono hb1.size)
      simp only [Pl.wV, Pl.wB]
      by_cases hE : Pl.endB n t b = true
      · have HE := Lib.hid hE
        have ht : (4 : Int) ≤ t := Classical.byContradiction fun hno => hok ⟨hE, by omega⟩
        clear hok hE
        go_wp2_with (first | (go_at_call 14; refine (implEndOk _ _ _ _).mono ?_; rintro e w4 ⟨rfl, hb4⟩; rw [HE.out]) | (go_at_call 16; refine (alive _).mono ?_; rintro e w' ⟨rfl, rfl⟩))
        go_ret
        exact ⟨rfl, c2.trans (hb4.mono c2.size)⟩
      · have HE : Hid (Pl.endB n t b = false) := Lib.hid (by simpa using hE)
        clear hok hE
        go_wp2_with (first | (go_at_call 14; refine (implEndOk _ _ _ _).mono ?_; rintro e w4 ⟨rfl, hb4⟩; rw [HE.out]) | (go_at_call 16; refine (alive _).mono ?_; rintro e w' ⟨rfl, rfl⟩))
        go_ret
        exact ⟨rfl, c2.trans (hb4.mono c2.size)⟩

set_option maxRecDepth 100000 in
set_option maxHeartbeats 4000000 in
theorem FnEndsOf_walk (a0 : Option Addr) (len0 cap0 : Nat) (z0 : List Int) (w : World) (w0 : IsRow .u8 w a0 len0 cap0 z0) :
    Calls Try.prog 4 #[.slice a0 len0 cap0] w fun e w' => e = .returned (.bool true) ∧ Below w.heap.size w w' := by
  by_cases hl : 1048576 < len0
  · go_enter Try.func4, Try.ntmps4
    go_wp2
    go_ret
    exact ⟨rfl, Below.refl _ _⟩
  · go_enter Try.func4, Try.ntmps4
    go_wp2_with fail
    refine (drawEndsOf _ _ _ _ _ w0).mono ?_
    rintro e w1 ⟨t, b, rfl, ⟨t1, t2⟩, ⟨b1, b2⟩, hb1⟩
    clear w0 hl
    have hlen := Pl.endsA_len t b
    have HI := Lib.hid (implEndsI t b)
    have HS := Lib.hid (specEndsOf t b)
    by_cases hok : Pl.endsOk t b = true
    · obtain ⟨L, k, rfl, rfl, h1, h2, h3, h4⟩ := Pl.endsOk_nat hok
      have hP := Pl.pow_le16 (b := k) (L := L) h4 h2
      have hP2 : 2 ≤ k ^ L := by
        have := Nat.pow_le_pow_right (show 0 < k by omega) h1
        rw [Nat.pow_one] at this; omega
      have HG : Hid (∀ j : Nat, j < (Pl.endsA (L : Int) (k : Int)).length → ∃ y : Nat, (Pl.endsA (L : Int) (k : Int))[j]?.getD 0 = (y : Int) ∧ y ≤ 65535 ∧ Pl.endB y L k = true) := Lib.hid fun j hj => by
        obtain ⟨y, hy, hi, _⟩ := Pl.endsA_get hok hj
        exact ⟨y, hy, by have := hi.1; omega, (Pl.endB_iff y L k).2 ⟨⟨h1, h2⟩, ⟨h3, h4⟩, hi⟩⟩
      have HM : Hid (∀ x y : Nat, Pl.endB x L k = true → Pl.endB y L k = true → ((x * y % k ^ L : Nat) : Int) ∈ Pl.endsA (L : Int) (k : Int)) := Lib.hid fun x y hx hy =>
        Pl.endsA_mem hok (Pl.idem_mul ((Pl.endB_iff x L k).1 hx).2.2 ((Pl.endB_iff y L k).1 hy).2.2)
      have hlen2 : (Pl.endsA (L : Int) (k : Int)).length = 2 ^ Pl.primesT k := by
        rw [Pl.endsA_yes hok, List.length_map, Pl.endsF_len h3 h4 h1 h2]
      have HASC := Lib.hid (Pl.endsA_asc (L : Int) (k : Int))
      have HPR := Lib.hid (specPrimesOf (k : Int))
      rw [Pl.primesI_yes h3 h4] at HPR
      have hpt : Pl.primesT k = 1 ∨ Pl.primesT k = 2 := by unfold Pl.primesT; split <;> simp
      have HLEN2 := Lib.hid hlen2
      have hlpos : 1 ≤ (Pl.endsA (L : Int) (k : Int)).length := by rw [hlen2]; exact Nat.pow_pos (by omega)
      clear hok hlen2
      generalize Pl.primesT k = T at *
      generalize Pl.endsA (L : Int) (k : Int) = E at *
      have hE0 : ((E.length : Int) == 0) = false := by rw [beq_eq_false_iff_ne]; omega
      go_wp2_with fail
      refine (HI.out _).mono ?_
      rintro e w2 ⟨v, rfl, hv, hb2⟩
      go_wp2_with fail
      refine (HS.out _).mono ?_
      rintro e w3 ⟨u, rfl, hu, hb3⟩
      have hv3 := hv.below hb3
      go_wp2_with fail
      refine (sameInts _ _ E E w3 hv3 (Row.ints hu) (by omega)).mono ?_
      rintro e w4 ⟨rfl, hb4⟩
      rw [show eqL E E = true by simp [eqL]]
      have hv4 := hv3.below hb4
      have c2 := hb1.trans (hb2.mono hb1.size)
      have c3 := c2.trans (hb3.mono c2.size)
      have c4 : Below w.heap.size w w4 := c3.trans (hb4.mono c3.size)
      have HV := Lib.hid hv4
      obtain ⟨a', cap', rfl, ha⟩ := hv4
      have HA := Lib.hid ha
      clear hb1 hb2 hb3 hb4 hv hv3 hu c2 c3 ha HI HS
      go_wp2_with fail
      go_loop [6, 7] (fun pv iv => ∃ I : Nat, I ≤ L ∧ iv = .int .i64 I ∧ pv = .int .i64 ((k ^ I : Nat) : Int)) (fun _ iv => L - (intOf iv).toNat)
      case atStart => exact ⟨0, by omega, rfl, by simp⟩
      case round =>
        obtain ⟨I, hI, rfl, rfl⟩ := hrel
        by_cases hlt : I < L
        · have i2 : (I : Int) < (L : Int) := by omega
          obtain ⟨p1, p2, p3, p4⟩ := Pl.pow_step (k := k) (I := I) (L := L) (by omega) h4 hlt h2
          have HP1 := Lib.hid p1
          have e6 : IntKind.i64.wrap (((k ^ I : Nat) : Int) * (k : Int)) = ((k ^ I * k : Nat) : Int) := by rw [← Int.natCast_mul]; exact IntWalk.i64_in _ (by omega)
          clear p1 hP hP2
          generalize hF : k ^ I = F at *
          clear hF
          generalize F * k = FK at *
          go_wp2_with fail
          go_round
          case rel => exact ⟨I + 1, by omega, by go_num, by rw [HP1.out]⟩
          case measure => simp [intOf]; omega
        · obtain rfl : I = L := by omega
          have i2 : ¬ (I : Int) < (I : Int) := by omega
          have hP0 : (((k ^ I : Nat) : Int) == 0) = false := by rw [beq_eq_false_iff_ne]; omega
          have hP00 : ¬ k ^ I = 0 := by omega
          generalize k ^ I = P at *
          go_wp2_with fail
          go_loopw [8, 9] (fun iv _ wr => ∃ i : Nat, i ≤ E.length ∧ iv = .int .i64 i ∧ Below w4.heap.size w4 wr) (fun iv _ _ => E.length - (intOf iv).toNat)
          case atStart => exact ⟨0, by omega, rfl, Below.refl _ _⟩
          case round =>
            obtain ⟨i, hi, rfl, hbw⟩ := hrel
            by_cases hil : i < E.length
            · have i3 : (i : Int) < (E.length : Int) := by omega
              obtain ⟨x, hx, hx2, hx3⟩ := HG.out i hil
              obtain ⟨bb, off, rfl, hc0⟩ := HA.out i hil
              rw [hx] at hc0
              have hX3 := Lib.hid hx3
              have HC0 := Lib.hid hc0
              clear hx hx3 hc0
              go_wp2_with fail
              go_loopw [9] (fun jv W => ∃ j : Nat, j ≤ E.length ∧ jv = .int .i64 j ∧ Below w4.heap.size w4 W) (fun jv _ => E.length - (intOf jv).toNat)
              case atStart => exact ⟨0, by omega, rfl, hbw⟩
              case round =>
                obtain ⟨j, hj, rfl, hbJ⟩ := hrel
                have hcx : wr.cell? ⟨bb, off + i, none⟩ = some (.int .i64 (x : Int)) := (hbJ.cell (p := ⟨bb, off + i, none⟩) (World.block_lt_of_cell? _ _ HC0.out)).trans HC0.out
                by_cases hjl : j < E.length
                · have i4 : (j : Int) < (E.length : Int) := by omega
                  obtain ⟨y, hy, hy2, hy3⟩ := HG.out j hjl
                  obtain ⟨bb', off', he, hc1⟩ := HA.out j hjl
                  obtain ⟨rfl, rfl⟩ : bb' = bb ∧ off' = off := by
                    have := Option.some.inj he
                    injection this with q1 q2
                    exact ⟨q1.symm, q2.symm⟩
                  rw [hy] at hc1
                  have hcy : wr.cell? ⟨bb', off' + j, none⟩ = some (.int .i64 (y : Int)) := (hbJ.cell (p := ⟨bb', off' + j, none⟩) (World.block_lt_of_cell? _ _ hc1)).trans hc1
                  have hmem := HM.out x y hX3.out hy3
                  have hmlt : x * y % P < P := Nat.mod_lt _ (by omega)
                  have hxy : x * y ≤ 65536 * 65536 := Nat.mul_le_mul (by omega) (by omega)
                  have e1 : IntKind.i64.wrap ((x : Int) * (y : Int)) = ((x * y : Nat) : Int) := by
                    rw [← Int.natCast_mul]; exact IntWalk.i64_in _ (by omega)
                  have e2 : (((x * y : Nat) : Int)).tmod (P : Int) = ((x * y % P : Nat) : Int) := rfl
                  have e3 : (((x * y : Nat) : Int)) % (P : Int) = ((x * y % P : Nat) : Int) := rfl
                  generalize x * y % P = Z at *
                  generalize x * y = X at *
                  have HQ : Hid (∀ q : Nat, Calls Try.prog 21 #[.slice (some ⟨bb', off', none⟩) E.length cap', .int .i64 (Z : Int)] (wr.drewN q) fun e w' => e = .returned (.bool true) ∧ w' = wr.drewN q) := Lib.hid fun q =>
                    (hasInt _ E (Z : Int) (wr.drewN q) ((HV.out.below hbJ).below (drewN_below wr q)) (by omega) hmem).mono fun _ _ h => ⟨h.1, h.2.symm⟩
                  clear he hc1 hy hmem
                  go_wp2_with fail
                  go_big_quiet ((go_at_call 21; exact Calls.quiet_of_same (HQ.out _)))
                  go_wp2_with fail
                  go_roundw
                  case rel => exact ⟨j + 1, by omega, by go_num, hbJ.trans ((drewN_below wr nq).mono hbJ.size)⟩
                  case measure => simp [intOf]; omega
                · obtain rfl : j = E.length := by omega
                  have i4 : ¬ (E.length : Int) < (E.length : Int) := by omega
                  go_wp2_with (first | (go_at_call 14; refine (implEndOk _ _ _ _).mono ?_; rintro e w9 ⟨rfl, hb9⟩; rw [hX3.out]))
                  go_roundw
                  case rel => exact ⟨i + 1, by omega, by go_num, hbJ.trans (hb9.mono hbJ.size)⟩
                  case measure => simp [intOf]; omega
            · obtain rfl : i = E.length := by omega
              have i3 : ¬ (E.length : Int) < (E.length : Int) := by omega
              have c5 : Below w.heap.size w wr := c4.trans (hbw.mono c4.size)
              have HVW := Lib.hid (HV.out.below hbw)
              rcases hpt with rfl | rfl
              all_goals
                go_wp2_with fail
                refine (ascend _ E wr HVW.out (by omega) HASC.out).mono ?_
                rintro e w8 ⟨rfl, hb8⟩
                go_wp2_with fail
                refine (HPR.out _).mono ?_
                rintro e w9 ⟨rfl, rfl⟩
                rw [HLEN2.out]
                go_wp2
                go_ret
                first
                | exact ⟨rfl, c5.trans (hb8.mono c5.size)⟩
                | exact ⟨ret_bool (by rw [show (max (1 : Int) 0).toNat = 1 from rfl, show (2 : Int) ^ 1 = 2 from rfl, IntWalk.wrap64_in _ (by omega)]; rfl), c5.trans (hb8.mono c5.size)⟩
                | exact ⟨ret_bool (by rw [show (max (2 : Int) 0).toNat = 2 from rfl, show (2 : Int) ^ 2 = 4 from rfl, IntWalk.wrap64_in _ (by omega)]; rfl), c5.trans (hb8.mono c5.size)⟩
    · have hE : Pl.endsA t b = [] := Pl.endsA_no hok
      rw [hE] at HI HS
      clear hok hE hlen
      go_wp2_with fail
      refine (HI.out _).mono ?_
      rintro e w2 ⟨v, rfl, hv, hb2⟩
      go_wp2_with fail
      refine (HS.out _).mono ?_
      rintro e w3 ⟨u, rfl, hu, hb3⟩
      go_wp2_with fail
      refine (sameInts _ _ [] [] w3 (hv.below hb3) (Row.ints hu) (by simp)).mono ?_
      rintro e w4 ⟨rfl, hb4⟩
      rw [show eqL [] [] = true by simp [eqL]]
      obtain ⟨a', cap', rfl, _⟩ := hv
      have c2 := hb1.trans (hb2.mono hb1.size)
      have c3 := c2.trans (hb3.mono c2.size)
      go_wp2_with (go_at_call 16; refine (alive _).mono ?_; rintro e w' ⟨rfl, rfl⟩)
      go_ret
      exact ⟨rfl, c3.trans (hb4.mono c3.size)⟩

end Go.Proofs.Ytgdgafoaangmkaa
