/-
  spec.RoundFrom: the round into which a number leads, in new memory; the exact law of RoundFrom.
-/
import Derived.Test.YthpimanfkbeanaaRoundFrom
import Derived.Test.YthpimanfkbeanaaDigitsOf
import Derived.Test.YthpimanfkbeanaaMark
namespace Go.Proofs.Ythpimanfkbeanaa
open Go.RowKit Go.Shelf

/-- Where a row that is not empty lies. -/
theorem Row.lies {base : Nat} {w : World} {v : Value} {xs : List Int} (h : Row base w v xs) (h0 : 1 ≤ xs.length) :
    ∃ g cap, v = .slice (some ⟨g, 0, none⟩) xs.length cap ∧ base ≤ g ∧ g < w.heap.size ∧ xs.length ≤ cap ∧ cap ≤ maxLen ∧ ∀ j, j < xs.length → w.cell? ⟨g, j, none⟩ = some (.int .i64 (xs[j]?.getD 0)) := by
  have h' := h
  rcases h.2 with ⟨rfl, h1⟩ | ⟨g, cap, cur, rfl, hg, hh, hn, hm, _⟩
  · omega
  · refine ⟨g, cap, rfl, hg, lt_of_heap hh, hn, hm, fun j hj => ?_⟩
    have := World.ownsRow.cellAt h' j (by omega)
    rw [this]
    simp [hj]

theorem pre_cell {f : Nat → Nat} {n m j : Nat} (h : j < m) : (Pl.ints (Pl.pre f n m))[j]?.getD 0 = ((Pl.iter f j n : Nat) : Int) := by
  rw [Pl.ints_get, Pl.pre_get h]; rfl

theorem ints_drop (l : List Nat) (k : Nat) : Pl.ints (l.drop k) = (Pl.ints l).drop k := by simp [Pl.ints]

/-- Cells in a row from an address on, as an append asks for them. -/
theorem news_at {w : World} {g K : Nat} {ys : List Int} (h : ∀ j, j < ys.length → w.cell? ⟨g, K + j, none⟩ = some (.int .i64 (ys[j]?.getD 0))) : ∀ j u, (ys.map (Value.int .i64))[j]? = some u → w.cell? ((⟨g, K, none⟩ : Addr).add j) = some u := by
  intro j u hu
  have hj : j < ys.length := by have := (List.getElem?_eq_some_iff.1 hu).1; simpa using this
  have e : (⟨g, K, none⟩ : Addr).add j = ⟨g, K + j, none⟩ := by
    unfold Addr.add; split <;> simp_all
  rw [e, h j hj, ← hu, List.getElem?_map, List.getElem?_eq_getElem hj]; rfl

theorem row_of_app {base : Nat} {w : World} {v : Value} {n : Nat} {ys : List Int} (hn : n = ys.length) (h : w.ownsRow base 3 1 v (0 + n) ([] ++ ys.map (Value.int .i64))) : Row base w v ys := by
  subst hn; unfold Row; simpa using h

set_option maxRecDepth 100000 in
set_option maxHeartbeats 2000000 in
theorem specRoundYes (t b x mu p : Nat) (hR : Pl.RuleOk t b) (hx : x ≤ 1000000000) (hrho : Pl.Rho (Pl.nextN t b) x mu p) (hp : mu + p ≤ 22781252) (w : World) :
    Calls Try.prog 22 #[.int .i64 x, .int .i64 t, .int .i64 b] w (ListPost w (Pl.ints (Pl.orb (Pl.nextN t b) x mu p))) := by
  have hok : Pl.okT x t b = true := Pl.okT_of hR hx
  have hp1 := hrho.pos
  have hle := Pl.iter_next_le hR hx
  obtain ⟨i0, hi0, hz0, hz1, hz2⟩ := info_parts info_int
  have HN := Lib.hid (Pl.nextI_yes x t b hok)
  obtain ⟨OUT, hOUT⟩ : ∃ OUT, Pl.ints (Pl.orb (Pl.nextN t b) x mu p) = OUT := ⟨_, rfl⟩
  have HO := Lib.hid hOUT
  rw [hOUT]
  clear hok hOUT
  go_enter Try.func22, Try.ntmps22
  go_wp2_with fail
  refine (specNextOf _ _ _ _).mono ?_
  rintro e w' ⟨rfl, rfl⟩
  rw [HN.out]
  have hn0 : 0 ≤ (Pl.nextN t b x : Int) := by omega
  go_wp2_with fail
  have r1 : Row w.heap.size (w.alloc (.cells #[.int .i64 x] 3)) (.slice (some ⟨w.heap.size, 0, none⟩) 1 1) (Pl.ints (Pl.pre (Pl.nextN t b) x 1)) := row_one' w.heap.size w _ (Nat.le_refl _)
  have b1 : Below w.heap.size w (w.alloc (.cells #[.int .i64 x] 3)) := (Below.refl _ _).alloc (Nat.le_refl _) _
  go_loopg [7, 8, 9] (mu + p - 1) (fun g sn _ _ wr => ∃ (m : Nat) (vv : Value), vv = sn ∧ 1 ≤ m ∧ m + g = mu + p ∧ Row w.heap.size wr vv (Pl.ints (Pl.pre (Pl.nextN t b) x m)) ∧ Below w.heap.size w wr)
  case atStart => exact ⟨1, _, rfl, by omega, by omega, r1, b1⟩
  case round =>
    clear r1 b1
    obtain ⟨m, vv, rfl, hm1, hmg, hr, hbw⟩ := hrel
    have hlen : (Pl.ints (Pl.pre (Pl.nextN t b) x m)).length = m := by rw [Pl.ints_len, Pl.pre_len]
    obtain ⟨g, cap, rfl, hgb, hgl, hcap, hcm, hcell⟩ := hr.lies (by omega)
    have HR := Lib.hid hr
    rw [hlen] at HR hcap hcell ⊢
    have HC : Hid (∀ j, j < m → wr.cell? ⟨g, j, none⟩ = some (.int .i64 ((Pl.iter (Pl.nextN t b) j x : Nat) : Int))) := Lib.hid fun j hj => by rw [hcell j hj, pre_cell hj]
    have hc1 := HC.out (m - 1) (by omega)
    have hl1 := (hle (m - 1)).1
    have F1 : Hid (Pl.nextN t b (Pl.iter (Pl.nextN t b) (m - 1) x) = Pl.iter (Pl.nextN t b) m x) := Lib.hid (by
      show Pl.iter (Pl.nextN t b) (m - 1 + 1) x = _
      rw [Nat.sub_add_cancel hm1])
    clear hcell hr
    have i1 : (m : Int) - 1 = ((m - 1 : Nat) : Int) := by omega
    generalize Pl.iter (Pl.nextN t b) (m - 1) x = Y at *
    go_wp2_with fail
    refine (l3Next t b _ hR hl1 _).mono ?_
    rintro e w' ⟨rfl, rfl⟩
    rw [F1.out]
    clear hc1 hl1 F1 i1
    go_wp2_with fail
    go_loop [9] (fun k => ∃ K : Nat, K ≤ m ∧ (∀ i, i < K → Pl.iter (Pl.nextN t b) i x ≠ Pl.iter (Pl.nextN t b) m x) ∧ k = .int .i64 K) (fun k => m - (intOf k).toNat)
    case atStart => exact ⟨0, by omega, fun i hi => by omega, rfl⟩
    case round =>
      obtain ⟨K, hK, hno, rfl⟩ := hrel
      have HNO := Lib.hid hno
      clear hno
      by_cases hlt : K < m
      · have hc := HC.out K hlt
        by_cases heq : Pl.iter (Pl.nextN t b) K x = Pl.iter (Pl.nextN t b) m x
        · obtain ⟨g1, g2⟩ := hrho.same (a := K) (d := m - K) (by omega) (by rw [show K + (m - K) = m by omega]; exact heq)
          have g3 := Nat.le_of_dvd (by omega) g2
          obtain rfl : m = mu + p := by omega
          obtain rfl : K = mu := by omega
          have HD : Hid ((Pl.ints (Pl.pre (Pl.nextN t b) x (K + p))).drop K = OUT) := Lib.hid (by rw [← ints_drop, Pl.pre_drop]; exact HO.out)
          have hol : OUT.length = p := by rw [← HO.out, Pl.ints_len, Pl.orb_len]
          have hnews : ∀ j u, (OUT.map (Value.int .i64))[j]? = some u → (wr.alloc (.cells #[] 3)).cell? ((⟨g, K, none⟩ : Addr).add j) = some u := news_at fun j hj => by
            have h1 := HC.out (K + j) (by omega)
            rw [(Below.refl wr.heap.size wr).alloc (Nat.le_refl _) (.cells #[] 3) |>.cell (p := ⟨g, K + j, none⟩) hgl, h1]
            rw [← HO.out, Pl.ints_get, Pl.orb_get (by omega)]; rfl
          have hown0 : (wr.alloc (.cells #[] 3)).ownsRow w.heap.size 3 1 (.slice (some ⟨wr.heap.size, 0, none⟩) 0 0) 0 [] := (row_empty wr).mono hbw.size
          rw [heq] at hc
          clear heq HC hle
          have hbw2 : Below w.heap.size w (wr.alloc (.cells #[] 3)) := hbw.alloc hbw.size _
          generalize Pl.iter (Pl.nextN t b) (K + p) x = Z at *
          go_wp2_with (at_builtin; refine wpList_append_own _ rfl _ _ 31 rfl w.heap.size 3 i0 (.int .i64 0) 1 8 Try.underlying31 hi0 hz0 hz1 hz2 rfl (by decide) _ _ _ rfl hown0 ⟨g, K, none⟩ p (cap - K) (OUT.map (Value.int .i64)) rfl (by simp; omega) hnews (by simp [Value.oneCell']) (by unfold maxLen; omega) (by omega) (by have := hbw2.size; omega) ?_; intro v6 w6 hown6 hgrow6 _)
          go_ret
          exact ⟨_, rfl, row_of_app hol.symm hown6, below_append hbw2 hown0 hgrow6⟩
        · have hne : ((Pl.iter (Pl.nextN t b) K x : Int) == (Pl.iter (Pl.nextN t b) m x : Int)) = false := by
            simpa using fun h => heq (by exact_mod_cast h)
          have HE := Lib.hid heq
          clear heq
          go_wp2_with fail
          go_round
          case rel => exact ⟨K + 1, by omega, fun i hi => by
            by_cases h : i = K
            · subst h; exact HE.out
            · exact HNO.out i (by omega), by simp⟩
          case measure => simp [intOf]; omega
      · obtain rfl : K = m := by omega
        have hKp : K ≠ mu + p := fun e => HNO.out mu (by omega) (by rw [e, hrho.back])
        have HS := Lib.hid (Pl.pre_succ (Pl.nextN t b) x K)
        clear HNO HC hle
        have F3 := Lib.hid (Pl.ints_snoc (Pl.pre (Pl.nextN t b) x K) (Pl.iter (Pl.nextN t b) K x))
        generalize Pl.iter (Pl.nextN t b) K x = Z at *
        generalize Pl.pre (Pl.nextN t b) x K = L at *
        generalize Pl.ints L = L' at *
        have hr' : wr.ownsRow w.heap.size 3 1 (.slice (some ⟨g, 0, none⟩) K cap) L'.length (L'.map (Value.int .i64)) := HR.out
        have hsz := hbw.size
        go_wp2_with (at_builtin; refine wpList_append_own _ rfl _ _ 31 rfl w.heap.size 3 i0 (.int .i64 0) 1 8 Try.underlying31 hi0 hz0 hz1 hz2 rfl (by decide) _ _ _ rfl (hr'.alloc _) ⟨wr.heap.size, 0, none⟩ 1 1 [.int .i64 (Z : Int)] rfl rfl (cell_one_new _ _ _) (by simp [Value.oneCell']) (by unfold maxLen; omega) (by omega) (by simp; omega) ?_; intro v6 w6 hown6 hgrow6 _)
        go_roundg (mu + p - (K + 1))
        case measure => omega
        case rel => exact ⟨K + 1, _, rfl, by omega, by omega, by rw [HS.out, F3.out]; exact row_snoc hown6, below_append (hbw.alloc hbw.size _) (hr'.alloc _) hgrow6⟩


set_option maxHeartbeats 400000 in
theorem specRoundFrom (n t b : Int) (w : World) : Calls Try.prog 22 #[.int .i64 n, .int .i64 t, .int .i64 b] w (ListPost w (Pl.roundA n t b)) := by
  by_cases h : Pl.okT n t b = true
  · obtain ⟨x, s, k, rfl, rfl, rfl, hR, hx⟩ := Pl.okT_nat h
    obtain ⟨mu, p, hr, hb⟩ := Pl.next_rho hR hx
    rw [Pl.roundA_yes x s k h, Pl.roundL_eq hr (by omega)]
    exact specRoundYes s k x mu p hR hx hr hb w
  · rw [Pl.roundA_no h]
    have HN := Lib.hid (Pl.nextI_no h)
    clear h
    go_enter Try.func22, Try.ntmps22
    go_wp2_with fail
    refine (specNextOf _ _ _ _).mono ?_
    rintro e w' ⟨rfl, rfl⟩
    rw [HN.out]
    go_wp2_with fail
    go_ret
    exact ⟨_, rfl, row_empty w, (Below.refl _ _).alloc (Nat.le_refl _) _⟩

end Go.Proofs.Ythpimanfkbeanaa
