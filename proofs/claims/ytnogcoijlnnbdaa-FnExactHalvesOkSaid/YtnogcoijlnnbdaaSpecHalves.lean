/-
  spec.HalvesOk: what it answers.
-/
import Derived.Test.YtnogcoijlnnbdaaSpecPeriod
import Derived.Test.YtnogcoijlnnbdaaRowFacts
namespace Go.Proofs.Ytnogcoijlnnbdaa
open Go.RowKit Go.Shelf

theorem Pl.round_one_get {u b j : Nat} (h : Pl.overB 1 u b = true) (hj : j < Pl.periodN b u) : (Pl.roundA 1 (u : Int) (b : Int))[j]?.getD 0 = ((Pl.digitN b u 1 j : Nat) : Int) := by
  have e := Pl.roundA_yes (x := 1) (u := u) (k := b) h
  have e' : Pl.roundA 1 (u : Int) (b : Int) = Pl.roundA ((1 : Nat) : Int) u b := rfl
  rw [e', e, List.getElem?_map]
  have := Pl.roundD_get (b := b) (u := u) (x := 1) hj
  cases hx : (Pl.roundD b u 1 (Pl.periodN b u))[j]? with
  | none =>
    rw [List.getElem?_eq_none_iff, Pl.roundD_len] at hx; omega
  | some d => rw [hx] at this; simp only [Option.getD_some] at this; simp [this]

theorem Pl.round_len {x u b : Nat} (h : Pl.overB x u b = true) : (Pl.roundA (x : Int) (u : Int) (b : Int)).length = Pl.periodN b u := by
  rw [Pl.roundA_yes h, List.length_map, Pl.roundD_len]

theorem Pl.over_one {u b : Nat} (h : Pl.underB u b = true) (h2 : 2 ≤ u) : Pl.overB 1 u b = true := by
  rw [Pl.overB, h]; simp; omega

set_option maxRecDepth 100000 in
set_option maxHeartbeats 2000000 in
theorem specHalvesOk (u b : Int) (w : World) :
    Calls Try.prog 30 #[.int .i64 u, .int .i64 b] w fun e w' => e = .returned (.bool (Pl.halvesB u b)) ∧ Below w.heap.size w w' := by
  have HR := Lib.hid (specRoundOf 1 u b w)
  by_cases h : Pl.underB u b = true ∧ 2 ≤ u
  · obtain ⟨hu, h2⟩ := h
    have hu' := hu
    obtain ⟨v, k, rfl, rfl, g1, g2, g3, g4, g5⟩ := Pl.underB_nat hu
    have hov := Pl.over_one hu' (by omega)
    have hlen := Pl.round_len (x := 1) hov
    have HG : Hid (∀ j, j < Pl.periodN k v → (Pl.roundA 1 (v : Int) (k : Int))[j]?.getD 0 = ((Pl.digitN k v 1 j : Nat) : Int)) := Lib.hid fun j hj => Pl.round_one_get hov hj
    have HB : Hid (Pl.halvesB (v : Int) (k : Int) = true ↔ Pl.periodN k v % 2 = 0 ∧ Pl.Halves k v (Pl.periodN k v)) := Lib.hid (Pl.halvesB_iff hu' (by omega))
    have HD : Hid (∀ j, Pl.digitN k v 1 j < k) := Lib.hid fun j => Pl.digitN_lt (by omega) (by omega)
    obtain ⟨hper, hple, _⟩ := Pl.periodN_per (b := k) (u := v) g1 g5
    have hp1 := hper.pos
    clear hper hov hu hu' g5
    have hlen' : (Pl.roundA 1 (v : Int) (k : Int)).length = Pl.periodN k v := hlen
    clear hlen
    have HH : Hid (∀ H, Pl.periodN k v / 2 = H → (Pl.Halves k v (Pl.periodN k v) ↔ ∀ j, j < H → Pl.digitN k v 1 j + Pl.digitN k v 1 (j + H) = k - 1)) := Lib.hid fun H hH => by
      unfold Pl.Halves; rw [hH]
    generalize Pl.periodN k v = p at *
    generalize Pl.Halves k v p = HALF at *
    generalize Pl.halvesB (v : Int) (k : Int) = HV at *
    generalize Pl.roundA 1 (v : Int) (k : Int) = E at *
    generalize hdig : (fun j => Pl.digitN k v 1 j) = dg at *
    have HD2 : Hid (∀ j, dg j < k) := Lib.hid fun j => by rw [← hdig]; exact HD.out j
    have HG2 : Hid (∀ j, j < p → E[j]?.getD 0 = ((dg j : Nat) : Int)) := Lib.hid fun j hj => by rw [← hdig]; exact HG.out j hj
    obtain ⟨H, hH⟩ : ∃ H, p / 2 = H := ⟨_, rfl⟩
    have HH2 : Hid (HALF ↔ ∀ j, j < H → dg j + dg (j + H) = k - 1) := Lib.hid (by rw [← hdig]; exact HH.out H hH)
    clear HD HG HH hdig
    have e1 : (p : Int).tdiv 2 = (H : Int) := by rw [← hH]; rfl
    have e2 : (p : Int) / 2 = (H : Int) := by omega
    have hHp : 2 * H ≤ p := by omega
    have HHE := Lib.hid hH
    clear hH
    go_enter Try.func30, Try.ntmps30
    go_wp2_with fail
    refine HR.out.mono ?_
    rintro e w1 ⟨vv, rfl, hr, b1⟩
    obtain ⟨g, cap, rfl, hg, hgl, _, _, hc⟩ := hr.lies (by omega)
    rw [hlen'] at hc ⊢
    have HC : Hid (∀ j, j < p → w1.cell? ⟨g, j, none⟩ = some (.int .i64 ((dg j : Nat) : Int))) := Lib.hid fun j hj => by rw [hc j hj, HG2.out j hj]
    clear hr hc HR hlen' HG2
    go_wp2_with fail
    go_loopw [7] (fun kv wr => ∃ K q : Nat, K ≤ H ∧ kv = .int .i64 K ∧ (∀ j, j < K → dg j + dg (j + H) = k - 1) ∧ wr = w1.drewN q) (fun kv _ => H - (intOf kv).toNat)
    case atStart => exact ⟨0, 0, by omega, rfl, fun j hj => by omega, rfl⟩
    case round =>
      obtain ⟨K, q, hK, rfl, hall, rfl⟩ := hrel
      have HALL := Lib.hid hall
      clear hall
      by_cases hlt : K < H
      · have i1 : (K : Int) < (H : Int) := by omega
        have c1 := HC.out K (by omega)
        have c2 := HC.out (K + H) (by omega)
        have d1 := HD2.out K
        have d2 := HD2.out (K + H)
        have HKK : Hid (∀ P Q, dg K = P → dg (K + H) = Q → (dg K + dg (K + H) = k - 1 ↔ P + Q = k - 1)) := Lib.hid fun P Q h1 h2 => by rw [h1, h2]
        generalize hPe : dg K = P at *
        generalize hQe : dg (K + H) = Q at *
        have HPE := Lib.hid hPe
        have HQE := Lib.hid hQe
        clear hPe hQe HKK
        have hkp : (K : Int) + (H : Int) < (p : Int) := by omega
        have hkp1 : K < p := by omega
        have hkp2 : K + H < p := by omega
        have hkp3 : (K : Int) < (p : Int) := by omega
        have hw1 : IntKind.i64.wrap ((K : Int) + (H : Int)) = ((K + H : Nat) : Int) := by rw [← Int.natCast_add]; exact IntWalk.i64_in _ (by omega)
        have hw1' : ((K + H : Nat) : Int) < (p : Int) := by omega
        have hw2 : IntKind.i64.wrap ((P : Int) + (Q : Int)) = ((P + Q : Nat) : Int) := by rw [← Int.natCast_add]; exact IntWalk.i64_in _ (by omega)
        have hw3 : IntKind.i64.wrap ((k : Int) - 1) = ((k - 1 : Nat) : Int) := by
          rw [show (k : Int) - 1 = ((k - 1 : Nat) : Int) by omega]; exact IntWalk.i64_in _ (by omega)
        by_cases hs : P + Q = k - 1
        · have ht : (((P + Q : Nat) : Int) != ((k - 1 : Nat) : Int)) = false := by rw [hs]; simp
          have HALL2 : Hid (∀ j, j < K + 1 → dg j + dg (j + H) = k - 1) := Lib.hid fun j hj => by
            by_cases h : j = K
            · rw [h, HPE.out, HQE.out]; exact hs
            · exact HALL.out j (by omega)
          clear hs
          go_wp2_with fail
          go_big_quiet (fail)
          go_wp2_with fail
          go_roundw
          case rel => exact ⟨K + 1, q + nq, by omega, by go_num, HALL2.out, rfl⟩
          case measure => simp [intOf]; omega
        · have ht : (((P + Q : Nat) : Int) != ((k - 1 : Nat) : Int)) = true := by
            rw [bne_iff_ne]; exact fun h => hs (by exact_mod_cast h)
          have HF : Hid (HV = false) := Lib.hid (by
            rw [← Bool.not_eq_true]
            intro hh
            have h1 := HH2.out.1 (HB.out.1 hh).2 K hlt
            rw [HPE.out, HQE.out] at h1
            exact hs h1)
          clear hs
          go_wp2_with fail
          go_big_quiet (fail)
          go_wp2_with fail
          go_ret
          exact ⟨ret_bool (by rw [HF.out]), (b1.trans ((drewN_below w1 q).mono b1.size)).trans ((drewN_below (w1.drewN q) nq).mono b1.size)⟩
      · obtain rfl : K = H := by omega
        have i1 : ¬ (K : Int) < (K : Int) := by omega
        have hb2 : Below w.heap.size w (w1.drewN q) := b1.trans ((drewN_below w1 q).mono b1.size)
        by_cases hpe : p % 2 = 0
        · have i2 : (0 : Int) < (K : Int) := by have := HHE.out; omega
          have e3 : ((p : Int) % 2 == 0) = true := by simp; omega
          have HT : Hid (HV = true) := Lib.hid (HB.out.2 ⟨hpe, HH2.out.2 HALL.out⟩)
          clear hpe
          go_wp2_with fail
          go_ret
          exact ⟨ret_bool (by rw [HT.out]), hb2⟩
        · have e3 : ((p : Int) % 2 == 0) = false := by simp; omega
          have HF : Hid (HV = false) := Lib.hid (by
            rw [← Bool.not_eq_true]
            exact fun hh => hpe (HB.out.1 hh).1)
          clear hpe
          by_cases h0 : 0 < K
          · have i2 : (0 : Int) < (K : Int) := by omega
            go_wp2_with fail
            go_ret
            exact ⟨ret_bool (by rw [HF.out]), hb2⟩
          · have i2 : ¬ (0 : Int) < (K : Int) := by omega
            go_wp2_with fail
            go_ret
            exact ⟨ret_bool (by rw [HF.out]), hb2⟩
  · rw [Pl.halvesB_no h]
    have hE : Pl.roundA 1 u b = [] := Pl.roundA_no fun hh => by
      simp only [Pl.overB, Bool.and_eq_true, decide_eq_true_eq] at hh
      exact h ⟨hh.1, by omega⟩
    rw [hE] at HR
    clear h hE
    go_enter Try.func30, Try.ntmps30
    go_wp2_with fail
    refine HR.out.mono ?_
    rintro e w1 ⟨vv, rfl, hr, b1⟩
    obtain ⟨a', cap', rfl⟩ := hr.shape
    clear hr
    go_wp2_with fail
    go_loop [7] (fun kv => kv = .int .i64 0) (fun _ => 0)
    case atStart => exact rfl
    case round =>
      obtain rfl := hrel
      go_wp2_with fail
      go_ret
      exact ⟨rfl, b1⟩

end Go.Proofs.Ytnogcoijlnnbdaa
