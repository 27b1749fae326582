/-
  spec.RoundsUpTo: the least numbers of all rounds, in new memory; the exact law.
-/
import Derived.Test.YthpimanfkbeanaaRoundsUp
import Derived.Test.YthpimanfkbeanaaHappy
namespace Go.Proofs.Ythpimanfkbeanaa
open Go.RowKit Go.Shelf

theorem Row.nil_no {base : Nat} {w : World} {v : Value} {xs : List Int} (h : Row base w v xs) (hv : v ≠ .slice none 0 0) :
    ∃ g cap, v = .slice (some ⟨g, 0, none⟩) xs.length cap ∧ base ≤ g ∧ g < w.heap.size ∧ xs.length ≤ cap ∧ cap ≤ maxLen ∧ ∀ j, j < xs.length → w.cell? ⟨g, j, none⟩ = some (.int .i64 (xs[j]?.getD 0)) := by
  have h' := h
  rcases h.2 with ⟨rfl, h1⟩ | ⟨g, cap, cur, rfl, hg, hh, hn, hm, _⟩
  · exact absurd rfl hv
  · refine ⟨g, cap, rfl, hg, lt_of_heap hh, hn, hm, fun j hj => ?_⟩
    rw [World.ownsRow.cellAt h' j (by omega)]
    simp [hj]

/-- The cells of both parts of a row, as an append asks for them, behind what writes nothing of before. -/
theorem news_part {w2 W : World} {g : Nat} {L : List Int} (hc : ∀ j, j < L.length → w2.cell? ⟨g, j, none⟩ = some (.int .i64 (L[j]?.getD 0))) (hg : g < w2.heap.size) (hb : Below w2.heap.size w2 W) (A : Nat) :
    (∀ j u, ((L.take A).map (Value.int .i64))[j]? = some u → W.cell? ((⟨g, 0, none⟩ : Addr).add j) = some u) ∧ (∀ j u, ((L.drop A).map (Value.int .i64))[j]? = some u → W.cell? ((⟨g, A, none⟩ : Addr).add j) = some u) := by
  refine ⟨news_at fun j hj => ?_, news_at fun j hj => ?_⟩
  · simp only [List.length_take] at hj
    rw [Nat.zero_add, hb.cell (p := ⟨g, j, none⟩) hg, hc j (by omega), List.getElem?_take, if_pos (by omega)]
  · simp only [List.length_drop] at hj
    rw [hb.cell (p := ⟨g, A + j, none⟩) hg, hc (A + j) (by omega), List.getElem?_drop]

theorem row_of_app' {base : Nat} {w : World} {v : Value} {n : Nat} {xs ys : List Int} (hn : n = ys.length) (h : w.ownsRow base 3 1 v (xs.length + n) (xs.map (Value.int .i64) ++ ys.map (Value.int .i64))) : Row base w v (xs ++ ys) := by
  subst hn; unfold Row; simpa using h

set_option maxRecDepth 100000 in
set_option maxHeartbeats 4000000 in
theorem specUpYes (M : Nat) (t b : Int) (g1 : Pl.ruleB t b = true) (hM1 : 1 ≤ M) (hM : M ≤ 500) (w : World) :
    Calls Try.prog 33 #[.int .i64 M, .int .i64 t, .int .i64 b] w (ListPost w (Pl.upL (Pl.lowG t b) M)) := by
  obtain ⟨i0, hi0, hz0, hz1, hz2⟩ := info_parts info_int
  obtain ⟨G, hG⟩ : ∃ G, Pl.lowG t b = G := ⟨_, rfl⟩
  have HI : Hid (∀ (n : Nat) (W : World), n ≤ 500 → ∃ xs, Calls Try.prog 22 #[.int .i64 n, .int .i64 t, .int .i64 b] W (ListPost W xs) ∧ Lib.minOf xs = G n ∧ 1 ≤ xs.length ∧ xs.length ≤ 1000000000) :=
    Lib.hid fun n W hn => ⟨Pl.roundA n t b, specRoundFrom n t b W, by rw [← hG]; rfl, Pl.roundA_pos g1 (by omega), by have := Pl.roundA_len n t b; omega⟩
  rw [hG]
  clear hG g1
  have hM3 : (M : Int) ≤ 500 := by omega
  have b0 : Below w.heap.size w (w.alloc (.cells #[] 3)) := (Below.refl _ _).alloc (Nat.le_refl _) _
  go_enter Try.func33, Try.ntmps33
  go_wp2_with fail
  go_loopg [7, 8, 9, 10, 11, 12, 13] M (fun g o i _ _ _ _ _ wr => ∃ (m : Nat) (vv : Value), vv = o ∧ m + g = M ∧ i = .int .i64 ((m : Int) + 1) ∧ vv ≠ .slice none 0 0 ∧ Row w.heap.size wr vv (Pl.upL G m) ∧ Below w.heap.size w wr)
  case atStart => exact ⟨0, _, rfl, by omega, rfl, by simp, row_empty w, b0⟩
  case round =>
    clear b0
    obtain ⟨m, vv, rfl, hmg, rfl, hnn, hr, hbw⟩ := hrel
    have hlen := Pl.upL_len G m
    by_cases hlt : m < M
    · obtain ⟨xs, hC, hmin, hx1, hx2⟩ := HI.out (m + 1) wr (by omega)
      have HC := Lib.hid hC
      have HM := Lib.hid hmin
      have HS : Hid (Pl.upL G (m + 1) = Pl.insU (G (m + 1)) (Pl.upL G m)) := Lib.hid rfl
      clear hC hmin
      generalize Pl.upL G m = L at *
      generalize G (m + 1) = z at *
      have hi : (m : Int) + 1 ≤ (M : Int) := by omega
      rw [show ((m + 1 : Nat) : Int) = (m : Int) + 1 by omega] at HC
      go_wp2_with fail
      refine HC.out.mono ?_
      rintro e w2 ⟨v2, rfl, r2, b2⟩
      have hr2 := hr.below b2
      have hbw2 : Below w.heap.size w w2 := hbw.trans (b2.mono hbw.size)
      have hsz2 := hbw2.size
      obtain ⟨g2, cap2, rfl, _, hg2, _, _, hc2⟩ := r2.lies hx1
      obtain ⟨g, cap, rfl, _, hg, hcap, hcm, hc⟩ := hr2.nil_no hnn
      have HC1 := Lib.hid hc
      have HC2 := Lib.hid hc2
      have HR := Lib.hid hr2
      have hn0 : ((xs.length : Int) == 0) = false := by rw [beq_eq_false_iff_ne]; omega
      have hc20 := hc2 0 (by omega)
      clear hc hc2 hnn hr hr2 hbw b2 r2 HC
      go_wp2_with fail
      go_loop [10, 11] (fun lo k => ∃ K : Nat, 1 ≤ K ∧ K ≤ xs.length ∧ lo = .int .i64 (Lib.minOf (xs.take K)) ∧ k = .int .i64 K) (fun _ k => xs.length - (intOf k).toNat)
      case atStart => exact ⟨1, by omega, hx1, by rw [Lib.minOf_one, List.getD_eq_getElem?_getD], rfl⟩
      case round =>
        obtain ⟨K, hK1, hK, rfl, rfl⟩ := hrel
        by_cases hK2 : K < xs.length
        · have hcK := HC2.out K hK2
          have HT := Lib.hid (Lib.minOf_step xs K hK1 hK2)
          rw [List.getD_eq_getElem?_getD] at HT
          generalize Lib.minOf (xs.take K) = A at *
          generalize xs[K]?.getD 0 = B at *
          go_wp2_with fail
          go_round
          case rel => exact ⟨K + 1, by omega, by omega, by rw [HT.out], by simp⟩
          case measure => simp [intOf]; omega
        · obtain rfl : K = xs.length := by omega
          rw [List.take_length, HM.out]
          clear hc20 HC2 hn0
          go_wp2_with fail
          go_loop [12] (fun a => ∃ A : Nat, A ≤ L.length ∧ (∀ y ∈ L.take A, y < z) ∧ a = .int .i64 A) (fun a => L.length - (intOf a).toNat)
          case atStart => exact ⟨0, by omega, by simp, rfl⟩
          case round =>
            obtain ⟨A, hA, hlow, rfl⟩ := hrel
            have HLOW := Lib.hid hlow
            clear hlow
            by_cases hA2 : A < L.length
            · have hcA := HC1.out A hA2
              obtain ⟨y, hy⟩ : ∃ y, L[A]?.getD 0 = y := ⟨_, rfl⟩
              rw [hy] at hcA
              have HY := Lib.hid hy
              clear hy
              by_cases hyz : y < z
              · go_wp2_with fail
                go_round
                case rel => exact ⟨A + 1, by omega, fun u hu => by
                  rw [List.take_succ_eq_append_getElem hA2] at hu
                  rcases List.mem_append.1 hu with hu | hu
                  · exact HLOW.out u hu
                  · have h1 := HY.out
                    rw [List.getElem?_eq_getElem hA2, Option.getD_some] at h1
                    have : u = L[A] := by simpa using hu
                    omega, by simp⟩
                case measure => simp [intOf]; omega
              · by_cases hye : y = z
                · have hbe : (y == z) = true := by simp [hye]
                  have HE : Hid (Pl.insU z L = L) := Lib.hid (by
                    have h1 := HY.out
                    have h2 := Pl.insU_old (x := z) (L.take A) (L.drop A) HLOW.out (by
                      rw [List.getElem?_drop, Nat.add_zero]
                      rw [List.getElem?_eq_getElem hA2, Option.getD_some] at h1
                      rw [List.getElem?_eq_getElem hA2, h1, hye])
                    rwa [List.take_append_drop] at h2)
                  clear hye
                  go_wp2_with fail
                  go_roundg (M - (m + 1))
                  case measure => omega
                  case rel => exact ⟨m + 1, _, rfl, by omega, by simp, by simp, by rw [HS.out, HE.out]; exact HR.out, hbw2⟩
                · have hbe : (y == z) = false := by simpa using hye
                  have HE : Hid (Pl.insU z L = (L.take A ++ [z]) ++ L.drop A) := Lib.hid (by
                    have h1 := HY.out
                    have h2 := Pl.insU_new (x := z) (L.take A) (L.drop A) HLOW.out (fun u hu => by
                      rw [List.getElem?_drop, Nat.add_zero] at hu
                      rw [hu, Option.getD_some] at h1
                      omega)
                    rw [List.take_append_drop] at h2
                    rw [h2]; simp)
                  clear hye
                  have HN : Hid (∀ W, Below w2.heap.size w2 W → (∀ j u, ((L.take A).map (Value.int .i64))[j]? = some u → W.cell? ((⟨g, 0, none⟩ : Addr).add j) = some u) ∧ (∀ j u, ((L.drop A).map (Value.int .i64))[j]? = some u → W.cell? ((⟨g, A, none⟩ : Addr).add j) = some u)) := Lib.hid fun W hb => news_part HC1.out hg hb A
                  have hl1 : Hid ((L.take A).length = A) := Lib.hid (by simp; omega)
                  have hl2 : Hid ((L.drop A).length = L.length - A) := Lib.hid (by simp)
                  have b20 : Below w2.heap.size w2 (w2.alloc (.cells #[] 3)) := (Below.refl _ _).alloc (Nat.le_refl _) _
                  have hown0 : (w2.alloc (.cells #[] 3)).ownsRow w2.heap.size 3 1 (.slice (some ⟨w2.heap.size, 0, none⟩) 0 0) 0 [] := row_empty w2
                  generalize L.take A = L1 at *
                  generalize L.drop A = L2 at *
                  clear HC1 HLOW
                  go_wp2_with (first
                    | (at_builtin; refine wpList_append_own _ rfl _ _ 31 rfl w2.heap.size 3 i0 (.int .i64 0) 1 8 Try.underlying31 hi0 hz0 hz1 hz2 rfl (by decide) _ _ _ rfl hown0 ⟨g, 0, none⟩ A cap (L1.map (Value.int .i64)) rfl (by have := hl1.out; simp; omega) (HN.out _ b20).1 (by simp [Value.oneCell']) (by unfold maxLen; omega) (by omega) (by simp) ?_; intro v6 w6 hown6 hgrow6 hnil6; have hb6 : Below w2.heap.size w2 w6 := below_append b20 hown0 hgrow6; have r6 : w6.ownsRow w2.heap.size 3 1 v6 L1.length (L1.map (Value.int .i64)) := row_of_app hl1.out.symm hown6; have hs6 := hb6.size)
                    | (at_builtin; refine wpList_append_own _ rfl _ _ 31 rfl w2.heap.size 3 i0 (.int .i64 0) 1 8 Try.underlying31 hi0 hz0 hz1 hz2 rfl (by decide) _ _ _ rfl (r6.alloc _) ⟨w6.heap.size, 0, none⟩ 1 1 [.int .i64 z] rfl rfl (cell_one_new _ _ _) (by simp [Value.oneCell']) (by have := hl1.out; unfold maxLen; omega) (by have := hl1.out; omega) (by simp; omega) ?_; intro v7 w7 hown7 hgrow7 hnil7; have hb7 : Below w2.heap.size w2 w7 := below_append (hb6.alloc hs6 _) (r6.alloc _) hgrow7; have r7 : w7.ownsRow w2.heap.size 3 1 v7 (L1 ++ [z]).length ((L1 ++ [z]).map (Value.int .i64)) := row_snoc hown7; have hs7 := hb7.size; have hlz : Hid ((L1 ++ [z]).length = A + 1) := Lib.hid (by have := hl1.out; simp; omega))
                    | (at_builtin; refine wpList_append_own _ rfl _ _ 31 rfl w2.heap.size 3 i0 (.int .i64 0) 1 8 Try.underlying31 hi0 hz0 hz1 hz2 rfl (by decide) _ _ _ rfl r7 ⟨g, A, none⟩ (L.length - A) (cap - A) (L2.map (Value.int .i64)) rfl (by have := hl2.out; simp; omega) (HN.out _ hb7).2 (by simp [Value.oneCell']) (by have := hlz.out; unfold maxLen; omega) (by have := hlz.out; omega) (by omega) ?_; intro v8 w8 hown8 hgrow8 hnil8; have hb8 : Below w2.heap.size w2 w8 := below_append hb7 r7 hgrow8))
                  go_roundg (M - (m + 1))
                  case measure => omega
                  case rel => exact ⟨m + 1, _, rfl, by omega, by simp, fun e => by
                    have e7 := (hnil8.1 e).1
                    have e6 := (hnil7.1 e7).2
                    omega, by rw [HS.out, HE.out]; exact (row_of_app' hl2.out.symm hown8).mono hsz2, hbw2.trans (hb8.mono hsz2)⟩
            · have hge : ¬ (A : Int) < (L.length : Int) := by omega
              have HE : Hid (Pl.insU z L = (L.take A ++ [z]) ++ L.drop A) := Lib.hid (by
                have h2 := Pl.insU_new (x := z) (L.take A) (L.drop A) HLOW.out (fun u hu => by
                  rw [List.getElem?_drop, Nat.add_zero, List.getElem?_eq_none (by omega)] at hu
                  cases hu)
                rw [List.take_append_drop] at h2
                rw [h2]; simp)
              have HN : Hid (∀ W, Below w2.heap.size w2 W → (∀ j u, ((L.take A).map (Value.int .i64))[j]? = some u → W.cell? ((⟨g, 0, none⟩ : Addr).add j) = some u) ∧ (∀ j u, ((L.drop A).map (Value.int .i64))[j]? = some u → W.cell? ((⟨g, A, none⟩ : Addr).add j) = some u)) := Lib.hid fun W hb => news_part HC1.out hg hb A
              have hl1 : Hid ((L.take A).length = A) := Lib.hid (by simp; omega)
              have hl2 : Hid ((L.drop A).length = L.length - A) := Lib.hid (by simp)
              have b20 : Below w2.heap.size w2 (w2.alloc (.cells #[] 3)) := (Below.refl _ _).alloc (Nat.le_refl _) _
              have hown0 : (w2.alloc (.cells #[] 3)).ownsRow w2.heap.size 3 1 (.slice (some ⟨w2.heap.size, 0, none⟩) 0 0) 0 [] := row_empty w2
              generalize L.take A = L1 at *
              generalize L.drop A = L2 at *
              clear HC1 HLOW
              by_cases hcapA : cap = A
              · replace hcapA := hcapA.symm; subst hcapA
                go_wp2_with (first
                  | (at_builtin; refine wpList_append_own _ rfl _ _ 31 rfl w2.heap.size 3 i0 (.int .i64 0) 1 8 Try.underlying31 hi0 hz0 hz1 hz2 rfl (by decide) _ _ _ rfl hown0 ⟨g, 0, none⟩ A _ (L1.map (Value.int .i64)) rfl (by have := hl1.out; simp; omega) (HN.out _ b20).1 (by simp [Value.oneCell']) (by unfold maxLen; omega) (by omega) (by simp) ?_; intro v6 w6 hown6 hgrow6 hnil6; have hb6 : Below w2.heap.size w2 w6 := below_append b20 hown0 hgrow6; have r6 : w6.ownsRow w2.heap.size 3 1 v6 L1.length (L1.map (Value.int .i64)) := row_of_app hl1.out.symm hown6; have hs6 := hb6.size)
                  | (at_builtin; refine wpList_append_own _ rfl _ _ 31 rfl w2.heap.size 3 i0 (.int .i64 0) 1 8 Try.underlying31 hi0 hz0 hz1 hz2 rfl (by decide) _ _ _ rfl (r6.alloc _) ⟨w6.heap.size, 0, none⟩ 1 1 [.int .i64 z] rfl rfl (cell_one_new _ _ _) (by simp [Value.oneCell']) (by have := hl1.out; unfold maxLen; omega) (by have := hl1.out; omega) (by simp; omega) ?_; intro v7 w7 hown7 hgrow7 hnil7; have hb7 : Below w2.heap.size w2 w7 := below_append (hb6.alloc hs6 _) (r6.alloc _) hgrow7; have r7 : w7.ownsRow w2.heap.size 3 1 v7 (L1 ++ [z]).length ((L1 ++ [z]).map (Value.int .i64)) := row_snoc hown7; have hs7 := hb7.size; have hlz : Hid ((L1 ++ [z]).length = A + 1) := Lib.hid (by have := hl1.out; simp; omega))
                  | (at_builtin; refine wpList_append_own _ rfl _ _ 31 rfl w2.heap.size 3 i0 (.int .i64 0) 1 8 Try.underlying31 hi0 hz0 hz1 hz2 rfl (by decide) _ _ _ rfl r7 ⟨g, 0, none⟩ 0 _ (L2.map (Value.int .i64)) rfl (by have := hl2.out; rw [List.length_map]; omega) (by have h2 := hl2.out; have : L2 = [] := List.eq_nil_of_length_eq_zero (by omega); subst this; intro j u hu; simp at hu) (by simp [Value.oneCell']) (by have := hlz.out; unfold maxLen; omega) (by have := hlz.out; omega) (by omega) ?_; intro v8 w8 hown8 hgrow8 hnil8; have hb8 : Below w2.heap.size w2 w8 := below_append hb7 r7 hgrow8))
                go_roundg (M - (m + 1))
                case measure => omega
                case rel => exact ⟨m + 1, _, rfl, by omega, by simp, fun e => by
                  have e7 := (hnil8.1 e).1
                  have e6 := (hnil7.1 e7).2
                  omega, by rw [HS.out, HE.out]; exact (row_of_app' (by have := hl2.out; omega) hown8).mono hsz2, hbw2.trans (hb8.mono hsz2)⟩
              · go_wp2_with (first
                  | (at_builtin; refine wpList_append_own _ rfl _ _ 31 rfl w2.heap.size 3 i0 (.int .i64 0) 1 8 Try.underlying31 hi0 hz0 hz1 hz2 rfl (by decide) _ _ _ rfl hown0 ⟨g, 0, none⟩ A cap (L1.map (Value.int .i64)) rfl (by have := hl1.out; simp; omega) (HN.out _ b20).1 (by simp [Value.oneCell']) (by unfold maxLen; omega) (by omega) (by simp) ?_; intro v6 w6 hown6 hgrow6 hnil6; have hb6 : Below w2.heap.size w2 w6 := below_append b20 hown0 hgrow6; have r6 : w6.ownsRow w2.heap.size 3 1 v6 L1.length (L1.map (Value.int .i64)) := row_of_app hl1.out.symm hown6; have hs6 := hb6.size)
                  | (at_builtin; refine wpList_append_own _ rfl _ _ 31 rfl w2.heap.size 3 i0 (.int .i64 0) 1 8 Try.underlying31 hi0 hz0 hz1 hz2 rfl (by decide) _ _ _ rfl (r6.alloc _) ⟨w6.heap.size, 0, none⟩ 1 1 [.int .i64 z] rfl rfl (cell_one_new _ _ _) (by simp [Value.oneCell']) (by have := hl1.out; unfold maxLen; omega) (by have := hl1.out; omega) (by simp; omega) ?_; intro v7 w7 hown7 hgrow7 hnil7; have hb7 : Below w2.heap.size w2 w7 := below_append (hb6.alloc hs6 _) (r6.alloc _) hgrow7; have r7 : w7.ownsRow w2.heap.size 3 1 v7 (L1 ++ [z]).length ((L1 ++ [z]).map (Value.int .i64)) := row_snoc hown7; have hs7 := hb7.size; have hlz : Hid ((L1 ++ [z]).length = A + 1) := Lib.hid (by have := hl1.out; simp; omega))
                  | (at_builtin; refine wpList_append_own _ rfl _ _ 31 rfl w2.heap.size 3 i0 (.int .i64 0) 1 8 Try.underlying31 hi0 hz0 hz1 hz2 rfl (by decide) _ _ _ rfl r7 ⟨g, A, none⟩ (L.length - A) (cap - A) (L2.map (Value.int .i64)) rfl (by have := hl2.out; simp; omega) (HN.out _ hb7).2 (by simp [Value.oneCell']) (by have := hlz.out; unfold maxLen; omega) (by have := hlz.out; omega) (by omega) ?_; intro v8 w8 hown8 hgrow8 hnil8; have hb8 : Below w2.heap.size w2 w8 := below_append hb7 r7 hgrow8))
                go_roundg (M - (m + 1))
                case measure => omega
                case rel => exact ⟨m + 1, _, rfl, by omega, by simp, fun e => by
                  have e7 := (hnil8.1 e).1
                  have e6 := (hnil7.1 e7).2
                  omega, by rw [HS.out, HE.out]; exact (row_of_app' hl2.out.symm hown8).mono hsz2, hbw2.trans (hb8.mono hsz2)⟩
    · obtain rfl : m = M := by omega
      obtain ⟨g, cap, rfl, _, _, _, _, _⟩ := hr.nil_no hnn
      have HR := Lib.hid hr
      clear hr hnn
      have hi : ¬ (m : Int) + 1 ≤ (m : Int) := by omega
      go_wp2_with fail
      go_ret
      exact ⟨_, rfl, HR.out, hbw⟩

end Go.Proofs.Ythpimanfkbeanaa
