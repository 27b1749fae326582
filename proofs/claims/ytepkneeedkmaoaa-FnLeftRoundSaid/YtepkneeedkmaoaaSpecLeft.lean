/-
  spec.LeftRound: the round into which what is left leads; the exact law of LeftRound.
-/
import Derived.Test.YtepkneeedkmaoaaLeftRound
import Derived.Test.YtepkneeedkmaoaaMark
namespace Go.Proofs.Ytepkneeedkmaoaa
open Go.RowKit Go.Shelf

set_option maxRecDepth 100000 in
set_option maxHeartbeats 2000000 in
theorem specLeftYes (x v b mu p : Nat) (h1 : 2 ≤ b) (h2 : b ≤ 16) (h3 : 2 ≤ v) (h4 : v ≤ 6) (hx : x < b ^ v) (hrho : Pl.Rho (Pl.leftN b v) x mu p) (hp : mu + p ≤ 16777216) (w : World) :
    Calls Try.prog 33 #[.int .i64 x, .int .i64 v, .int .i64 b] w fun e w' => ∃ u, e = .returned (.tuple #[u, .int .i64 mu, .bool true]) ∧ Row w.heap.size w' u (Pl.ints (Pl.orb (Pl.leftN b v) x mu p)) ∧ Below w.heap.size w w' := by
  have hok : Pl.wideB x v b = true := Pl.wideB_of h1 h2 h3 h4 hx
  have hp1 := hrho.pos
  have hlt := Pl.iter_left_lt h1 hx
  obtain ⟨i0, hi0, hz0, hz1, hz2⟩ := info_parts info_int
  have HF : Hid (∀ i W, Calls Try.prog 29 #[.int .i64 ((Pl.iter (Pl.leftN b v) i x : Nat) : Int), .int .i64 v, .int .i64 b] W fun e w' => e = .returned (.int .i64 ((Pl.iter (Pl.leftN b v) (i + 1) x : Nat) : Int)) ∧ Below W.heap.size W w') := Lib.hid fun i W => by
    have h := specLeftOf ((Pl.iter (Pl.leftN b v) i x : Nat) : Int) v b W
    rw [Pl.leftI_yes _ v b (Pl.wideB_of h1 h2 h3 h4 (hlt i))] at h
    exact h
  obtain ⟨OUT, hOUT⟩ : ∃ OUT, Pl.ints (Pl.orb (Pl.leftN b v) x mu p) = OUT := ⟨_, rfl⟩
  have HO := Lib.hid hOUT
  rw [hOUT]
  clear hOUT hlt hx h1 h2 h3 h4
  generalize Pl.leftN b v = f at *
  go_enter Try.func33, Try.ntmps33
  go_wp2_with (go_at_call 17; refine (specWideOk _ _ _ _).mono ?_; rintro e w' ⟨rfl, rfl⟩; rw [hok])
  have r1 : Row w.heap.size (w.alloc (.cells #[.int .i64 x] 3)) (.slice (some ⟨w.heap.size, 0, none⟩) 1 1) (Pl.ints (Pl.pre f x 1)) := row_one' w.heap.size w _ (Nat.le_refl _)
  have b1 : Below w.heap.size w (w.alloc (.cells #[.int .i64 x] 3)) := (Below.refl _ _).alloc (Nat.le_refl _) _
  go_loopg [9, 10, 11] (mu + p - 1) (fun g sn _ _ wr => ∃ (m : Nat) (vv : Value), vv = sn ∧ 1 ≤ m ∧ m + g = mu + p ∧ Row w.heap.size wr vv (Pl.ints (Pl.pre f x m)) ∧ Below w.heap.size w wr)
  case atStart => exact ⟨1, _, rfl, by omega, by omega, r1, b1⟩
  case round =>
    clear r1 b1
    obtain ⟨m, vv, rfl, hm1, hmg, hr, hbw⟩ := hrel
    have hlen : (Pl.ints (Pl.pre f x m)).length = m := by rw [Pl.ints_len, Pl.pre_len]
    obtain ⟨g, cap, rfl, hgb, hgl, hcap, hcm, hcell⟩ := hr.lies (by omega)
    have HR := Lib.hid hr
    rw [hlen] at HR hcap hcell ⊢
    have HC : Hid (∀ j, j < m → wr.cell? ⟨g, j, none⟩ = some (.int .i64 ((Pl.iter f j x : Nat) : Int))) := Lib.hid fun j hj => by rw [hcell j hj, pre_cell hj]
    have hc1 := HC.out (m - 1) (by omega)
    have hcall := HF.out (m - 1)
    rw [show m - 1 + 1 = m by omega] at hcall
    have HCALL := Lib.hid hcall
    clear hcell hr hcall
    have i1 : (m : Int) - 1 = ((m - 1 : Nat) : Int) := by omega
    generalize Pl.iter f (m - 1) x = Y at *
    go_wp2_with fail
    refine (HCALL.out _).mono ?_
    rintro e w2 ⟨rfl, b2⟩
    have HR2 : Hid (Row w.heap.size w2 (.slice (some ⟨g, 0, none⟩) m cap) (Pl.ints (Pl.pre f x m))) := Lib.hid (HR.out.below b2)
    have HC2 : Hid (∀ j, j < m → w2.cell? ⟨g, j, none⟩ = some (.int .i64 ((Pl.iter f j x : Nat) : Int))) := Lib.hid fun j hj => Below.cell b2 (p := ⟨g, j, none⟩) hgl (HC.out j hj)
    have hbw2 : Below w.heap.size w w2 := hbw.trans (b2.mono hbw.size)
    have hgl2 : g < w2.heap.size := Nat.lt_of_lt_of_le hgl b2.size
    clear hc1 i1 b2 HC HR
    go_wp2_with fail
    go_loop [11] (fun k => ∃ K : Nat, K ≤ m ∧ (∀ i, i < K → Pl.iter f i x ≠ Pl.iter f m x) ∧ k = .int .i64 K) (fun k => m - (intOf k).toNat)
    case atStart => exact ⟨0, by omega, fun i hi => by omega, rfl⟩
    case round =>
      obtain ⟨K, hK, hno, rfl⟩ := hrel
      have HNO := Lib.hid hno
      clear hno
      by_cases hlt : K < m
      · have hc := HC2.out K hlt
        by_cases heq : Pl.iter f K x = Pl.iter f m x
        · obtain ⟨g1, g2⟩ := hrho.same (a := K) (d := m - K) (by omega) (by rw [show K + (m - K) = m by omega]; exact heq)
          have g3 := Nat.le_of_dvd (by omega) g2
          obtain rfl : m = mu + p := by omega
          obtain rfl : K = mu := by omega
          have HD : Hid ((Pl.ints (Pl.pre f x (K + p))).drop K = OUT) := Lib.hid (by rw [← ints_drop, Pl.pre_drop]; exact HO.out)
          have hol : OUT.length = p := by rw [← HO.out, Pl.ints_len, Pl.orb_len]
          have hnews : ∀ j u, (OUT.map (Value.int .i64))[j]? = some u → (w2.alloc (.cells #[] 3)).cell? ((⟨g, K, none⟩ : Addr).add j) = some u := news_at fun j hj => by
            have h1 := HC2.out (K + j) (by omega)
            rw [(Below.refl w2.heap.size w2).alloc (Nat.le_refl _) (.cells #[] 3) |>.cell (p := ⟨g, K + j, none⟩) hgl2, h1]
            rw [← HO.out, Pl.ints_get, Pl.orb_get (by omega)]; rfl
          have hown0 : (w2.alloc (.cells #[] 3)).ownsRow w.heap.size 3 1 (.slice (some ⟨w2.heap.size, 0, none⟩) 0 0) 0 [] := (row_empty w2).mono hbw2.size
          rw [heq] at hc
          clear heq HC2
          have hbw3 : Below w.heap.size w (w2.alloc (.cells #[] 3)) := hbw2.alloc hbw2.size _
          generalize Pl.iter f (K + p) x = Z at *
          go_wp2_with (at_builtin; refine wpList_append_own _ rfl _ _ 30 rfl w.heap.size 3 i0 (.int .i64 0) 1 8 Try.underlying30 hi0 hz0 hz1 hz2 rfl (by decide) _ _ _ rfl hown0 ⟨g, K, none⟩ p (cap - K) (OUT.map (Value.int .i64)) rfl (by simp; omega) hnews (by simp [Value.oneCell']) (by unfold maxLen; omega) (by omega) (by have := hbw3.size; omega) ?_; intro v6 w6 hown6 hgrow6 _)
          go_ret3
          exact ⟨_, rfl, row_of_app hol.symm hown6, below_append hbw3 hown0 hgrow6⟩
        · have hne : ((Pl.iter f K x : Int) == (Pl.iter f m x : Int)) = false := by
            simpa using fun h => heq (by exact_mod_cast h)
          have HE := Lib.hid heq
          clear heq
          go_wp2_with fail
          go_round
          case rel => exact ⟨K + 1, by omega, fun i hi => by
            by_cases h : i = K
            · subst h; exact HE.out
            · exact HNO.out i (by omega), by simp⟩
          case measure => simp [intOf]; omega
      · obtain rfl : K = m := by omega
        have hKp : K ≠ mu + p := fun e => HNO.out mu (by omega) (by rw [e, hrho.back])
        have HS := Lib.hid (Pl.pre_succ f x K)
        clear HNO HC2 HCALL
        have F3 := Lib.hid (Pl.ints_snoc (Pl.pre f x K) (Pl.iter f K x))
        generalize Pl.iter f K x = Z at *
        generalize Pl.pre f x K = L at *
        generalize Pl.ints L = L' at *
        have hr' : w2.ownsRow w.heap.size 3 1 (.slice (some ⟨g, 0, none⟩) K cap) L'.length (L'.map (Value.int .i64)) := HR2.out
        have hsz := hbw2.size
        go_wp2_with (at_builtin; refine wpList_append_own _ rfl _ _ 30 rfl w.heap.size 3 i0 (.int .i64 0) 1 8 Try.underlying30 hi0 hz0 hz1 hz2 rfl (by decide) _ _ _ rfl (hr'.alloc _) ⟨w2.heap.size, 0, none⟩ 1 1 [.int .i64 (Z : Int)] rfl rfl (cell_one_new _ _ _) (by simp [Value.oneCell']) (by unfold maxLen; omega) (by omega) (by simp; omega) ?_; intro v6 w6 hown6 hgrow6 _)
        go_roundg (mu + p - (K + 1))
        case measure => omega
        case rel => exact ⟨K + 1, _, rfl, by omega, by omega, by rw [HS.out, F3.out]; exact row_snoc hown6, below_append (hbw2.alloc hbw2.size _) (hr'.alloc _) hgrow6⟩

theorem set_behind (A B : List Int) (j : Nat) (q : Int) {off : Nat} (h : A.length = off) : (A ++ B).set (off + j) q = A ++ B.set j q := by
  subst h
  rw [List.set_append_right _ _ (by omega), Nat.add_sub_cancel_left]

set_option maxHeartbeats 800000 in
theorem markTail (base : Nat) (v : Value) (xs : List Int) (k : Int) (w : World) (hv : RowTail base w v xs) (h00 : 1 ≤ xs.length) (hx : xs.length ≤ 1000000000) (h0 : 0 ≤ k) (h1 : k ≤ 1000000000) :
    Calls Try.prog 38 #[v, .int .i64 k] w fun e w' => e = .returned (.int .i64 (k + xs.length)) ∧ RowTail base w' v (marks k xs.length) ∧ Below base w w' := by
  obtain ⟨g, off, cap, capY, ys, rfl, hd, hl, hr⟩ := hv
  obtain ⟨n, hn⟩ : ∃ n, xs.length = n := ⟨_, rfl⟩
  obtain ⟨N, hN⟩ : ∃ N, ys.length = N := ⟨_, rfl⟩
  have hA : (ys.take off).length = off := by rw [List.length_take]; omega
  have hg : base ≤ g := by
    obtain ⟨g', cap', hh, hb, _⟩ := hr.lt (by omega)
    have : g = g' := by injection hh with e1; simpa using e1
    omega
  have hys : ys = ys.take off ++ (marks k 0 ++ xs.drop 0) := by
    rw [List.drop_zero, ← hd]
    simp [marks]
  have hr0 := hr
  rw [hN] at hr0
  rw [hys] at hr0
  have HR0 := Lib.hid hr0
  rw [hn] at hx ⊢
  have HN := Lib.hid hn
  have HL := Lib.hid hl
  have HA := Lib.hid hA
  have HNN := Lib.hid hN
  have hoN : off + n = N := by omega
  have hn1 : n ≠ 0 := by omega
  clear hr hr0 hys hd hl hn hA hN h00
  generalize ys.take off = A at *
  go_enter Try.func38, Try.ntmps38
  go_wp2
  go_loopw [1, 5] (fun q i wr => ∃ j : Nat, j ≤ n ∧ q = .int .i64 (k + j) ∧ i = .int .i64 j ∧ Row base wr (.slice (some ⟨g, 0, none⟩) N capY) (A ++ (marks k j ++ xs.drop j)) ∧ Below base w wr) (fun _ i _ => n - (intOf i).toNat)
  case atStart => exact ⟨0, Nat.zero_le _, by simp, rfl, HR0.out, Below.refl _ _⟩
  case round =>
    obtain ⟨j, hj, rfl, rfl, hr, hbl⟩ := hrel
    by_cases hlt : j < n
    · have hlen : (A ++ (marks k j ++ xs.drop j)).length = N := by have := HN.out; have := HA.out; simp [marks_length]; omega
      obtain ⟨c1, c2⟩ := hr.cellAt hlen (off + j) (by omega)
      have hs := hr.set hlen (off + j) (k + (j : Int))
      rw [set_behind A _ j _ HA.out, marks_step k xs j (by have := HN.out; omega)] at hs
      have HS := Lib.hid hs
      clear hr hlen hs
      have hi : (j : Int) < (n : Int) := by omega
      go_wp2
      go_roundw
      case rel => exact ⟨j + 1, by omega, by go_num, by go_num, HS.out, hbl.setCell (p := ⟨g, off + j, none⟩) hg _⟩
      case measure => simp [intOf]; omega
    · obtain rfl : j = n := by omega
      have HR := Lib.hid hr
      clear hr
      go_wp2
      go_ret
      refine ⟨rfl, ⟨g, off, cap, capY, A ++ marks k j, by rw [marks_length], ?_, by rw [List.length_append, marks_length, HA.out], ?_⟩, hbl⟩
      · rw [List.drop_append_of_le_length (by rw [HA.out]; omega), List.drop_of_length_le (by rw [HA.out]; omega), List.nil_append]
      · have := HR.out
        rw [List.drop_of_length_le (by have := HN.out; omega), List.append_nil] at this
        rw [List.length_append, marks_length, HA.out, hoN]
        exact this

theorem Ints.nil (w : World) : Ints w (.slice none 0 0) [] := ⟨none, 0, rfl, fun j hj => by simp at hj⟩

set_option maxHeartbeats 1000000 in
theorem FnExactLeftRound_walk (a0 : Int) (a1 : Int) (a2 : Int) (w : World) (_w0 : (Lit.int .i64 a0).wf = true) (_w1 : (Lit.int .i64 a1).wf = true) (_w2 : (Lit.int .i64 a2).wf = true) :
    Calls Try.prog 13 #[.int .i64 a0, .int .i64 a1, .int .i64 a2] w fun e w' => e = .returned (.bool true) ∧ Below w.heap.size w w' := by
  by_cases h : Pl.wideB a0 a1 a2 = true
  · obtain ⟨x, v, b, rfl, rfl, rfl, h1, h2, h3, h4, h5⟩ := Pl.wideB_nat h
    obtain ⟨mu, p, hrho, hp⟩ := Pl.left_rho h1 h2 h4 h5
    have HS := Lib.hid (specLeftYes x v b mu p h1 h2 h3 h4 h5 hrho hp)
    have HI := Lib.hid (implLeftYes x v b mu p h1 h2 h3 h4 h5 hrho hp)
    have hlen : (Pl.ints (Pl.orb (Pl.leftN b v) x mu p)).length = p := by rw [Pl.ints_len, Pl.orb_len]
    have hp1 := hrho.pos
    clear hrho h5 h
    generalize Pl.ints (Pl.orb (Pl.leftN b v) x mu p) = L at *
    have hl1 : 1 ≤ L.length := by omega
    have hl2 : L.length ≤ 16777216 := by omega
    clear hlen
    go_enter Try.func13, Try.ntmps13
    go_wp2_with fail
    refine (HS.out _).mono ?_
    rintro e w1 ⟨v0, rfl, r0, b0⟩
    go_wp2_with fail
    refine (HI.out _).mono ?_
    rintro e w2 ⟨v1, rfl, r1, b1⟩
    have i0 := r0.ints.below b1
    go_wp2_with fail
    refine (eqIntS _ _ L L w2 r1.ints i0 (by omega)).mono ?_
    rintro e w3 ⟨rfl, b2⟩
    rw [eqL_self]
    go_wp2_with fail
    refine (markTail w1.heap.size _ L 1 w3 (r1.below b2) hl1 (by omega) (by omega) (by omega)).mono ?_
    rintro e w4 ⟨rfl, r4, b4⟩
    go_wp2_with fail
    refine (heldIntS _ 1 L.length w4 r4.ints (by omega) (by omega) (by omega)).mono ?_
    rintro e w5 ⟨rfl, rfl⟩
    go_wp2_with fail
    refine (HI.out _).mono ?_
    rintro e w6 ⟨v2, rfl, r6, b6⟩
    have c2 : Below w1.heap.size w1 w4 := (b1.trans (b2.mono b1.size)).trans b4
    have c6 : Below w1.heap.size w1 w6 := c2.trans (b6.mono c2.size)
    go_wp2_with fail
    refine (eqIntS _ _ L L w6 r6.ints (r0.ints.kept (Nat.le_refl _) c6) (by omega)).mono ?_
    rintro e w7 ⟨rfl, b7⟩
    rw [eqL_self]
    go_wp2_with fail
    refine (heldIntS _ 1 L.length w7 ((r4.ints.below b6).below b7) (by omega) (by omega) (by omega)).mono ?_
    rintro e w8 ⟨rfl, rfl⟩
    go_wp2
    go_ret
    exact ⟨rfl, (b0.trans (c6.mono b0.size)).trans (b7.mono (Nat.le_trans b0.size c6.size))⟩
  · have HS := Lib.hid (specLeftNo a0 a1 a2 h)
    have HI := Lib.hid (implLeftNo a0 a1 a2 h)
    clear h
    go_enter Try.func13, Try.ntmps13
    go_wp2_with fail
    refine (HS.out _).mono ?_
    rintro e w1 ⟨v0, rfl, r0, b0⟩
    go_wp2_with fail
    refine (HI.out _).mono ?_
    rintro e w2 ⟨rfl, b1⟩
    have i0 := r0.ints.below b1
    go_wp2_with fail
    refine (eqIntS _ _ [] [] w2 (Ints.nil _) i0 (by simp)).mono ?_
    rintro e w3 ⟨rfl, b2⟩
    rw [eqL_self]
    go_wp2_with fail
    refine (markIntS w1.heap.size _ [] 1 w3 (World.ownsRow_nil _ _ _ _) (by simp) (by omega) (by omega)).mono ?_
    rintro e w4 ⟨rfl, r4, b4⟩
    go_wp2_with fail
    refine (heldIntS _ 1 0 w4 (Ints.nil _) (by omega) (by omega) (by omega)).mono ?_
    rintro e w5 ⟨rfl, rfl⟩
    go_wp2_with fail
    refine (HI.out _).mono ?_
    rintro e w6 ⟨rfl, b6⟩
    have c2 : Below w1.heap.size w1 w4 := (b1.trans (b2.mono b1.size)).trans b4
    have c6 : Below w1.heap.size w1 w6 := c2.trans (b6.mono c2.size)
    go_wp2_with fail
    refine (eqIntS _ _ [] [] w6 (Ints.nil _) (r0.ints.kept (Nat.le_refl _) c6) (by simp)).mono ?_
    rintro e w7 ⟨rfl, b7⟩
    rw [eqL_self]
    go_wp2_with fail
    refine (heldIntS _ 1 0 w7 (Ints.nil _) (by omega) (by omega) (by omega)).mono ?_
    rintro e w8 ⟨rfl, rfl⟩
    go_wp2
    go_ret
    exact ⟨rfl, (b0.trans (c6.mono b0.size)).trans (b7.mono (Nat.le_trans b0.size c6.size))⟩

end Go.Proofs.Ytepkneeedkmaoaa
