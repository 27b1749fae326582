/-
  impl.HalvesOk, impl.FullOk, impl.BegunAt: what they answer; the exact laws of chapter 8.
-/
import Derived.Test.YtnogcoijlnnbdaaRing
import Derived.Test.YtnogcoijlnnbdaaCalm
import Derived.Test.YtnogcoijlnnbdaaDraws
namespace Go.Proofs.Ytnogcoijlnnbdaa
open Go.RowKit Go.Shelf

set_option maxHeartbeats 400000 in
theorem implFullOk (u b : Int) (hu : u ≤ 9223372036854775807) (w : World) :
    Calls Try.prog 32 #[.int .i64 u, .int .i64 b] w fun e w' => e = .returned (.bool (Pl.fullB u b)) ∧ Below w.heap.size w w' := by
  have HP := Lib.hid (implPeriodOf u b)
  have HE : Hid (Pl.fullB u b = (decide (3 ≤ u) && decide (Pl.periodI u b = u - 1))) := Lib.hid rfl
  generalize Pl.periodI u b = p at *
  by_cases h : 3 ≤ u
  · have hw : IntKind.i64.wrap (u - 1) = u - 1 := IntWalk.i64_in _ (by omega)
    go_enter Try.func32, Try.ntmps32
    go_wp2_with (go_at_call 21; refine (HP.out _).mono ?_; rintro e w1 ⟨rfl, hb⟩)
    go_ret
    refine ⟨ret_bool ?_, hb⟩
    rw [HE.out, show decide (3 ≤ u) = true by simp; omega]
    rfl
  · go_enter Try.func32, Try.ntmps32
    go_wp2_with fail
    go_ret
    exact ⟨ret_bool (by rw [HE.out, show decide (3 ≤ u) = false by simp; omega]; rfl), Below.refl _ _⟩

set_option maxRecDepth 100000 in
set_option maxHeartbeats 800000 in
theorem halvesYes (v k p H : Nat) (L : List Int) (hp1 : 1 ≤ p) (hp : p ≤ 200) (hk : k ≤ 16) (h2 : 2 ≤ k) (hpe : p % 2 = 0) (hH : p / 2 = H) (dg : Nat → Nat) (hD : ∀ j, dg j < k) (hG : ∀ j, j < p → L[j]?.getD 0 = ((dg j : Nat) : Int)) (hlen : L.length = p)
    (R : Bool) (hR : R = true ↔ ∀ j, j < H → dg j + dg (j + H) = k - 1) (w : World) (hRd : Calls Try.prog 24 #[.int .i64 1, .int .i64 v, .int .i64 k] w (ListPost w L)) :
    Calls Try.prog 29 #[.int .i64 v, .int .i64 k] w fun e w' => e = .returned (.bool R) ∧ Below w.heap.size w w' := by
  have HRD := Lib.hid hRd
  have HDS := Lib.hid hD
  have HG := Lib.hid hG
  have HR := Lib.hid hR
  have e1 : (p : Int).tmod 2 = 0 := by rw [show (p : Int).tmod 2 = ((p % 2 : Nat) : Int) from rfl, hpe]; rfl
  have e1' : (p : Int) % 2 = 0 := by omega
  have e2 : (p : Int).tdiv 2 = (H : Int) := by rw [← hH]; rfl
  have e2' : (p : Int) / 2 = (H : Int) := by omega
  have hHp : H + H = p := by omega
  have hp0 : ((p : Int) == 0) = false := by simp; omega
  clear hR hRd hD hG hH hpe
  go_enter Try.func29, Try.ntmps29
  go_wp2_with fail
  refine HRD.out.mono ?_
  rintro e w1 ⟨vv, rfl, hr, b1⟩
  have HI := Lib.hid hr.ints
  obtain ⟨g, cap, rfl, _⟩ := hr.lies (by omega)
  have HAT : Hid (∀ (j : Nat) (W : World), j ≤ 1000000 → Below w1.heap.size w1 W → Calls Try.prog 48 #[.agg #[.slice (some ⟨g, 0, none⟩) L.length cap, .int .i64 0], .int .i64 (j : Int)] W fun e w' => e = .returned (.int .i64 (L[j % p]?.getD 0)) ∧ Below W.heap.size W w') := Lib.hid fun j W hj hW => by
    have := ringAt _ L p 0 j hlen (by omega) (by omega) (by omega) (by omega) W (Ints.below HI.out hW)
    rwa [Nat.zero_add] at this
  rw [hlen] at HAT ⊢
  clear hr HI hlen HRD
  have hsz := b1.size
  obtain ⟨d0, d1, hb, hlt⟩ := ring_box (w := w1) (a := some ⟨g, 0, none⟩) (m := p) (cap := cap) (q := 0) (Below.refl _ _)
  go_wp2_with fail
  go_loopw [23] (fun iv wr => ∃ i : Nat, i ≤ p ∧ iv = .int .i64 i ∧ (∀ j, j < i → dg j + dg ((j + H) % p) = k - 1) ∧ Below (w1.heap.size + 1) (w1.alloc (.cells #[.slice (some ⟨g, 0, none⟩) p cap, .int .i64 0] 48)) wr) (fun iv _ => p - (intOf iv).toNat)
  case atStart => exact ⟨0, Nat.zero_le _, rfl, fun j hj => by omega, Below.refl _ _⟩
  case round =>
    clear d0 d1 hb hlt
    obtain ⟨K, hK, rfl, hall, hbw⟩ := hrel
    have HALL := Lib.hid hall
    clear hall
    obtain ⟨d0, d1, hb, hlt⟩ := ring_box hbw
    have hbw0 : Below w.heap.size w wr := b1.trans (hb.mono hsz)
    by_cases hlt2 : K < p
    · have i1 : (K : Int) < (p : Int) := by omega
      have hm : (K + H) % p < p := Nat.mod_lt _ (by omega)
      have h1 := fun W (hW : Below wr.heap.size wr W) => HAT.out K W (by omega) (hb.trans (hW.mono hb.size))
      have h2 := fun W (hW : Below wr.heap.size wr W) => HAT.out (K + H) W (by omega) (hb.trans (hW.mono hb.size))
      rw [Nat.mod_eq_of_lt hlt2, HG.out K hlt2] at h1
      rw [HG.out _ hm] at h2
      have HA1 := Lib.hid h1
      simp only [Int.natCast_add] at h2
      have HA2 := Lib.hid h2
      have q1 := HDS.out K
      have q2 := HDS.out ((K + H) % p)
      clear h1 h2
      generalize hPe : dg K = P at *
      generalize hQe : dg ((K + H) % p) = Q at *
      have HPE := Lib.hid hPe
      have HQE := Lib.hid hQe
      clear hPe hQe
      have hw0 : IntKind.i64.wrap (H : Int) = (H : Int) := IntWalk.i64_in _ (by omega)
      have hw1 : IntKind.i64.wrap ((K : Int) + (H : Int)) = (K : Int) + (H : Int) := IntWalk.i64_in _ (by omega)
      have hw2 : IntKind.i64.wrap ((P : Int) + (Q : Int)) = ((P + Q : Nat) : Int) := by rw [← Int.natCast_add]; exact IntWalk.i64_in _ (by omega)
      have hw3 : IntKind.i64.wrap ((k : Int) - 1) = ((k - 1 : Nat) : Int) := by
        rw [show (k : Int) - 1 = ((k - 1 : Nat) : Int) by omega]; exact IntWalk.i64_in _ (by omega)
      go_wp2_with fail
      refine wp_region_calm mixed (by kernel_rfl) ?_
      repeat (first
        | go_big_quiet_skip
        | (go_big_quiet_want
           first
             | (go_big_quiet_op; go_big_quiet_on)
             | (apply Exists.intro
                refine ⟨fun W hW => ?_, ?_⟩
                · have hc0 := Below.cell hW hlt d0
                  have hc1 := Below.cell hW hlt d1
                  go_simp
                  first | done | exact rfl
                simp only [Act.put, List.setIfInBounds_toArray, List.set_cons_zero, List.set_cons_succ]
                go_big_quiet_on)
             | (go_big_quiet_op
                apply Exists.intro
                with_reducible (refine ⟨fun W hW => Calm.call hW (HA1.out W hW), ?_⟩)
                go_big_quiet_on)
             | (go_big_quiet_op
                apply Exists.intro
                with_reducible (refine ⟨fun W hW => Calm.call hW (HA2.out W hW), ?_⟩)
                go_big_quiet_on)))
      refine wpQuiet_nil ?_
      intro W hW
      have hbW := hbw.trans (hW.mono (by omega))
      have hbW0 := hbw0.trans (hW.mono hbw0.size)
      clear d0 d1 hb hbw hbw0 HA1 HA2
      by_cases hs : P + Q = k - 1
      · have ht : (((P + Q : Nat) : Int) != ((k - 1 : Nat) : Int)) = false := by rw [hs]; simp
        have HALL2 : Hid (∀ j, j < K + 1 → dg j + dg ((j + H) % p) = k - 1) := Lib.hid fun j hj => by
          by_cases h : j = K
          · rw [h, HPE.out, HQE.out]; exact hs
          · exact HALL.out j (by omega)
        clear hs
        go_wp2_with fail
        go_roundw
        case rel => exact ⟨K + 1, by omega, by go_num, HALL2.out, hbW⟩
        case measure => simp [intOf]; omega
      · have ht : (((P + Q : Nat) : Int) != ((k - 1 : Nat) : Int)) = true := by
          rw [bne_iff_ne]; exact fun h => hs (by exact_mod_cast h)
        have HF : Hid (R = false) := Lib.hid (by
          rw [← Bool.not_eq_true]
          intro hh
          refine hs ?_
          rw [← HPE.out, ← HQE.out]
          by_cases hKH : K < H
          · have := HR.out.1 hh K hKH
            rwa [Nat.mod_eq_of_lt (show K + H < p by omega)]
          · have := HR.out.1 hh (K - H) (by omega)
            rw [show (K + H) % p = K - H by rw [Nat.mod_eq_sub_mod (by omega), Nat.mod_eq_of_lt (by omega)]; omega, Nat.add_comm]
            rwa [show K - H + H = K by omega] at this)
        clear hs
        go_wp2_with fail
        go_ret
        exact ⟨ret_bool (by rw [HF.out]), hbW0⟩
    · obtain rfl : K = p := by omega
      have i1 : ¬ (K : Int) < (K : Int) := by omega
      have HT : Hid (R = true) := Lib.hid (HR.out.2 fun j hj => by
        have := HALL.out j (by omega)
        rwa [Nat.mod_eq_of_lt (show j + H < K by omega)] at this)
      go_wp2_with fail
      go_ret
      exact ⟨ret_bool (by rw [HT.out]), hbw0⟩

set_option maxHeartbeats 800000 in
theorem implHalvesOk (u b : Int) (w : World) :
    Calls Try.prog 29 #[.int .i64 u, .int .i64 b] w fun e w' => e = .returned (.bool (Pl.halvesB u b)) ∧ Below w.heap.size w w' := by
  have HR := Lib.hid (implRoundOf8 1 u b w)
  by_cases h : Pl.underB u b = true ∧ 2 ≤ u
  · obtain ⟨hu, h2⟩ := h
    have hu' := hu
    obtain ⟨v, k, rfl, rfl, g1, g2, g3, g4, g5⟩ := Pl.underB_nat hu
    have hov := Pl.over_one hu' (by omega)
    have hlen := Pl.round_len (x := 1) hov
    obtain ⟨hper, hple, _⟩ := Pl.periodN_per (b := k) (u := v) g1 g5
    by_cases hpe : Pl.periodN k v % 2 = 0
    · refine halvesYes v k (Pl.periodN k v) _ _ hper.pos (by omega) g4 g3 hpe rfl (fun j => Pl.digitN k v 1 j) (fun j => Pl.digitN_lt (by omega) (by omega)) (fun j hj => Pl.round_one_get hov hj) hlen _ ?_ w HR.out
      rw [Pl.halvesB_iff hu' (by omega)]
      exact ⟨fun h => h.2, fun h => ⟨hpe, h⟩⟩
    · have hF : Pl.halvesB (v : Int) (k : Int) = false := by
        rw [← Bool.not_eq_true]
        exact fun hh => hpe ((Pl.halvesB_iff hu' (by omega)).1 hh).1
      have hlen' : (Pl.roundA 1 (v : Int) (k : Int)).length = Pl.periodN k v := hlen
      rw [hF]
      have hp1 := hper.pos
      have e1 : ((Pl.periodN k v : Nat) : Int).tmod 2 = 1 := by rw [show ((Pl.periodN k v : Nat) : Int).tmod 2 = ((Pl.periodN k v % 2 : Nat) : Int) from rfl, show Pl.periodN k v % 2 = 1 by omega]; rfl
      have e1' : ((Pl.periodN k v : Nat) : Int) % 2 = 1 := by omega
      have hp0 : ((Pl.periodN k v : Int) == 0) = false := by simp; omega
      clear hF hpe hper hov hu hu' g5 hlen
      generalize Pl.periodN k v = p at *
      generalize Pl.roundA 1 (v : Int) (k : Int) = L at *
      go_enter Try.func29, Try.ntmps29
      go_wp2_with fail
      refine HR.out.mono ?_
      rintro e w1 ⟨vv, rfl, hr, b1⟩
      obtain ⟨a', cap', rfl⟩ := hr.shape
      rw [hlen']
      have hsz := b1.size
      obtain ⟨d0, d1, hb, hlt⟩ := ring_box (w := w1) (a := a') (m := p) (cap := cap') (q := 0) (Below.refl _ _)
      clear hr hlen' HR
      go_wp2_with fail
      go_ret
      exact ⟨rfl, b1.trans (hb.mono hsz)⟩
  · rw [Pl.halvesB_no h]
    have hE : Pl.roundA 1 u b = [] := Pl.roundA_no fun hh => by
      simp only [Pl.overB, Bool.and_eq_true, decide_eq_true_eq] at hh
      exact h ⟨hh.1, by omega⟩
    rw [hE] at HR
    clear h hE
    go_enter Try.func29, Try.ntmps29
    go_wp2_with fail
    refine HR.out.mono ?_
    rintro e w1 ⟨vv, rfl, hr, b1⟩
    obtain ⟨a', cap', rfl⟩ := hr.shape
    have hsz := b1.size
    obtain ⟨d0, d1, hb, hlt⟩ := ring_box (w := w1) (a := a') (m := ([] : List Int).length) (cap := cap') (q := 0) (Below.refl _ _)
    clear hr
    go_wp2_with fail
    go_ret
    exact ⟨rfl, b1.trans (hb.mono hsz)⟩

namespace Pl

/-- A round begun at a place is the round of a number just if the base, so many times, leaves it. -/
theorem begun_iff {x u b : Nat} (h : overB x u b = true) (h2 : 2 ≤ u) (K : Nat) :
    (∀ j, j < periodN b u → (roundA 1 (u : Int) (b : Int))[(K + j) % periodN b u]?.getD 0 = (roundA (x : Int) (u : Int) (b : Int))[j]?.getD 0) ↔ b ^ K % u = x := by
  obtain ⟨y, v, k, e1, e2, e3, h1, hv, h3, h4, h5, h6⟩ := overB_nat h
  obtain rfl : x = y := by omega
  obtain rfl : u = v := by omega
  obtain rfl : b = k := by omega
  obtain ⟨hper, _, _⟩ := periodN_per (b := b) (u := u) (by omega) h5
  have hp1 := hper.pos
  have hone := over_one h6 (by omega)
  have hdx : ∀ j, j < periodN b u → (roundA (x : Int) (u : Int) (b : Int))[j]?.getD 0 = ((digitN b u x j : Nat) : Int) := fun j hj => by
    rw [roundA_yes h, List.getElem?_map]
    have := roundD_get (b := b) (u := u) (x := x) hj
    cases hx : (roundD b u x (periodN b u))[j]? with
    | none => rw [List.getElem?_eq_none_iff, roundD_len] at hx; omega
    | some d => rw [hx] at this; simp only [Option.getD_some] at this; simp [this]
  have hd1 : ∀ j, (roundA 1 (u : Int) (b : Int))[(K + j) % periodN b u]?.getD 0 = ((digitN b u (b ^ K % u) j : Nat) : Int) := fun j => by
    rw [round_one_get hone (Nat.mod_lt _ (by omega)), begun_digit hper rfl, Nat.mod_eq_of_lt (show 1 < u by omega)]
  constructor
  · intro hall
    have hr : roundD b u (b ^ K % u) (periodN b u) = roundD b u x (periodN b u) := by
      unfold roundD
      refine List.map_congr_left fun j hj => ?_
      have := hall j (List.mem_range.1 hj)
      rw [hd1, hdx j (List.mem_range.1 hj)] at this
      omega
    have e1 := round_whole (x := b ^ K % u) hper (Nat.mod_lt _ (by omega))
    have e2 := round_whole (x := x) hper h1
    rw [hr] at e1
    have hb : 2 ≤ b ^ periodN b u := Nat.le_trans h3 (Nat.le_self_pow (by omega) b)
    exact Nat.eq_of_mul_eq_mul_right (show 0 < b ^ periodN b u - 1 by omega) (by rw [← e1, ← e2])
  · intro he j hj
    rw [hd1, hdx j hj, he]

end Pl

set_option maxRecDepth 100000 in
set_option maxHeartbeats 1000000 in
theorem begunLoop (x u b : Int) (L1 L2 : List Int) (p : Nat) (hp : p ≤ 200) (hl : L1.length = p) (S : Nat → Bool) (hS : ∀ K, K < p → (S K = true ↔ L2.length = p ∧ ∀ j, j < p → L1[(K + j) % p]?.getD 0 = L2[j]?.getD 0)) (O : Option Nat)
    (hO1 : ∀ k, O = some k → k < p ∧ S k = true ∧ ∀ j, j < k → S j = false) (hO2 : O = none → ∀ k, k < p → S k = false)
    (h1 : ∀ w, Calls Try.prog 24 #[.int .i64 1, .int .i64 u, .int .i64 b] w (ListPost w L1)) (h2 : ∀ w, Calls Try.prog 24 #[.int .i64 x, .int .i64 u, .int .i64 b] w (ListPost w L2)) (w : World) :
    Calls Try.prog 34 #[.int .i64 x, .int .i64 u, .int .i64 b] w fun e w' => e = .returned (.tuple #[.int .i64 (Pl.wV O), .bool (Pl.wB O)]) ∧ Below w.heap.size w w' := by
  have H1 := Lib.hid h1
  have H2 := Lib.hid h2
  have HS := Lib.hid hS
  have HO1 := Lib.hid hO1
  have HO2 := Lib.hid hO2
  have HL := Lib.hid hl
  clear h1 h2 hS hO1 hO2
  go_enter Try.func34, Try.ntmps34
  go_wp2_with fail
  refine (H1.out _).mono ?_
  rintro e w1 ⟨v1, rfl, r1, b1⟩
  go_wp2_with fail
  refine (H2.out _).mono ?_
  rintro e w2 ⟨v2, rfl, r2, b2⟩
  have hb0 : Below w.heap.size w w2 := b1.trans (b2.mono b1.size)
  have HI1 := Lib.hid (r1.ints.below b2)
  have HI2 := Lib.hid r2.ints
  have HSAME : Hid (∀ (K : Nat) (W : World), K < p → Below w2.heap.size w2 W → Calls Try.prog 49 #[.agg #[v1, .int .i64 (K : Int)], v2] W fun e w' => e = .returned (.bool (S K)) ∧ Below W.heap.size W w') := Lib.hid fun K W hK hW =>
    ringSame v1 v2 L1 L2 p K HL.out (by omega) (by omega) (by omega) W (Ints.below HI1.out hW) (Ints.below HI2.out hW) (S K) (HS.out K hK)
  obtain ⟨a1, cap1, rfl⟩ := r1.shape
  rw [hl] at HSAME ⊢
  clear r1 r2 b1 b2 HI1 HI2 H1 H2 hl
  go_wp2_with fail
  go_loopw [20] (fun iv wr => ∃ i : Nat, i ≤ p ∧ iv = .int .i64 i ∧ (∀ j, j < i → S j = false) ∧ Below w2.heap.size w2 wr) (fun iv _ => p - (intOf iv).toNat)
  case atStart => exact ⟨0, Nat.zero_le _, rfl, fun j hj => by omega, Below.refl _ _⟩
  case round =>
    obtain ⟨K, hK, rfl, hno, hbw⟩ := hrel
    have HNO := Lib.hid hno
    have hbw0 : Below w.heap.size w wr := hb0.trans (hbw.mono hb0.size)
    clear hno
    by_cases hlt : K < p
    · have i1 : (K : Int) < (p : Int) := by omega
      have HSA := Lib.hid (HSAME.out K wr hlt hbw)
      cases hs : S K with
      | true =>
        rw [hs] at HSA
        have HOK : Hid (O = some K) := Lib.hid (by
          cases hO : O with
          | none => have := HO2.out hO K hlt; rw [hs] at this; cases this
          | some k' =>
            obtain ⟨g1, g2, g3⟩ := HO1.out k' hO
            rcases Nat.lt_trichotomy k' K with h | h | h
            · have := HNO.out k' h; rw [g2] at this; cases this
            · rw [h]
            · have := g3 K h; rw [hs] at this; cases this)
        clear hs
        go_wp2_with fail
        refine HSA.out.mono ?_
        rintro e w3 ⟨rfl, b3⟩
        go_wp2_with fail
        go_ret2
        exact ⟨ret_whole (by rw [HOK.out]; rfl) (by rw [HOK.out]; rfl), hbw0.trans (b3.mono hbw0.size)⟩
      | false =>
        rw [hs] at HSA
        have HNO2 : Hid (∀ j, j < K + 1 → S j = false) := Lib.hid fun j hj => by
          by_cases h : j = K
          · rw [h]; exact hs
          · exact HNO.out j (by omega)
        clear hs
        go_wp2_with fail
        refine HSA.out.mono ?_
        rintro e w3 ⟨rfl, b3⟩
        have hbw3 := hbw.trans (b3.mono hbw.size)
        go_wp2_with fail
        go_roundw
        case rel => exact ⟨K + 1, by omega, by go_num, HNO2.out, hbw3⟩
        case measure => simp [intOf]; omega
    · obtain rfl : K = p := by omega
      have i1 : ¬ (K : Int) < (K : Int) := by omega
      have HOK : Hid (O = none) := Lib.hid (by
        cases hO : O with
        | none => rfl
        | some k' =>
          obtain ⟨g1, g2, _⟩ := HO1.out k' hO
          have := HNO.out k' g1; rw [g2] at this; cases this)
      go_wp2_with fail
      go_ret2
      exact ⟨ret_whole (by rw [HOK.out]; rfl) (by rw [HOK.out]; rfl), hbw0⟩

theorem implBegunAt (x u b : Int) (w : World) :
    Calls Try.prog 34 #[.int .i64 x, .int .i64 u, .int .i64 b] w fun e w' => e = .returned (.tuple #[.int .i64 (Pl.wV (Pl.begunO x u b)), .bool (Pl.wB (Pl.begunO x u b))]) ∧ Below w.heap.size w w' := by
  by_cases hu : Pl.underB u b = true ∧ 2 ≤ u
  · obtain ⟨v, k, rfl, rfl, g1, g2, g3, g4, g5⟩ := Pl.underB_nat hu.1
    have h2 : 2 ≤ v := by omega
    have hone := Pl.over_one hu.1 h2
    have hple := (Pl.periodN_per (b := k) (u := v) g1 g5).2.1
    have hp1 := (Pl.periodN_per (b := k) (u := v) g1 g5).1.pos
    have hlen : (Pl.roundA 1 (v : Int) (k : Int)).length = Pl.periodN k v := Pl.round_len (x := 1) hone
    by_cases hx : Pl.overB x v k = true
    · obtain ⟨y, v', k', rfl, e2, e3, _⟩ := Pl.overB_nat hx
      have hlen2 := Pl.round_len (x := y) hx
      refine begunLoop y v k _ _ (Pl.periodN k v) (by omega) hlen (fun K => decide (k ^ K % v = y)) (fun K _ => ?_) _ (fun j hj => ?_) (fun hn j hj => ?_) (implRoundOf8 1 _ _) (implRoundOf8 _ _ _) w
      · rw [decide_eq_true_iff, ← Pl.begun_iff hx h2 K]
        exact ⟨fun h => ⟨hlen2, h⟩, fun h => h.2⟩
      · obtain ⟨_, c1, c2, c3⟩ := Pl.begunO_some hj
        exact ⟨c1, by simp [c2], fun i hi => by simpa using c3 i hi⟩
      · simpa using Pl.begunO_none hn ⟨hx, h2⟩ j hj
    · rw [Pl.begunO_no fun h => hx h.1]
      refine begunLoop x v k _ _ (Pl.periodN k v) (by omega) hlen (fun _ => false) (fun K _ => ?_) none (fun j hj => by cases hj) (fun _ _ _ => rfl) (implRoundOf8 1 _ _) (implRoundOf8 _ _ _) w
      rw [Pl.roundA_no hx]
      constructor
      · intro h; cases h
      · intro h; have := h.1; simp at this; omega
  · rw [Pl.begunO_no fun h => hu (by
      have := h.1
      simp only [Pl.overB, Bool.and_eq_true] at this
      exact ⟨this.1, h.2⟩)]
    have hE : Pl.roundA 1 u b = [] := Pl.roundA_no fun hh => by
      simp only [Pl.overB, Bool.and_eq_true, decide_eq_true_eq] at hh
      exact hu ⟨hh.1, by omega⟩
    exact begunLoop x u b _ _ 0 (by omega) (by rw [hE]; rfl) (fun _ => false) (fun K hK => by omega) none (fun j hj => by cases hj) (fun _ _ _ => rfl) (implRoundOf8 1 _ _) (implRoundOf8 _ _ _) w

end Go.Proofs.Ytnogcoijlnnbdaa
