/-
  The walk of the law of OwnOk: behind an own number that ends with nought there is one.
-/
import Derived.Test.YtcigepkjnnknlaaOwnSum
import Derived.Test.YtcigepkjnnknlaaDraws5
namespace Go.Proofs.Ytcigepkjnnknlaa
open Go.RowKit

theorem Pl.own_behind {x k : Nat} (h : Pl.ownB x 0 k = true) (hm : x % k = 0) (hx : x < 2000) (hS : Pl.ownN 0 k x = x) : Pl.ownOkB ((x : Int) + 1) 0 k = true := by
  have hk := (Pl.ownB_iff x 0 k).1 h
  have ho : Pl.ownB ((x + 1 : Nat) : Int) ((0 : Nat) : Int) k = true := by rw [Pl.ownB_iff]; omega
  have h1 := Pl.ownI_yes (x + 1) 0 k ho
  rw [Pl.ownN_next (by omega) hm, hS] at h1
  have h2 : Pl.ownOkB ((x + 1 : Nat) : Int) ((0 : Nat) : Int) k = true := by
    rw [Pl.ownOkB_yes ho, h1]; simp
  exact h2

set_option maxRecDepth 100000 in
set_option maxHeartbeats 2000000 in
theorem FnOwnOk_walk (a0 : Option Addr) (len0 cap0 : Nat) (z0 : List Int) (w : World) (w0 : IsRow .u8 w a0 len0 cap0 z0) :
    Calls Try.prog 4 #[.slice a0 len0 cap0] w fun e w' => e = .returned (.bool true) ∧ Below w.heap.size w w' := by
  by_cases hl : 1048576 < len0
  · go_enter Try.func4, Try.ntmps4
    go_wp2
    go_ret
    exact ⟨rfl, Below.refl _ _⟩
  · go_enter Try.func4, Try.ntmps4
    go_wp2_with fail
    refine (drawOwnOk _ _ _ _ _ w0).mono ?_
    rintro e w1 ⟨n, r, b, rfl, ⟨n1, n2⟩, ⟨r1, r2⟩, ⟨b1, b2⟩, hb1⟩
    clear w0 hl
    have hbd := Pl.ownI_bound n r b
    obtain ⟨OK, hOK⟩ : ∃ OK, Pl.ownOkB n r b = OK := ⟨_, rfl⟩
    go_wp2_with fail
    refine (implOwnOk _ _ _ _).mono ?_
    rintro e w2 ⟨rfl, hb2⟩
    go_wp2_with fail
    refine (specOwnOk _ _ _ _).mono ?_
    rintro e w3 ⟨rfl, hb3⟩
    rw [hOK]
    have hnn : (OK != OK) = false := by simp
    go_wp2_with fail
    refine (implOwnSum _ _ _ _).mono ?_
    rintro e w4 ⟨rfl, hb4⟩
    have c2 := hb1.trans (hb2.mono hb1.size)
    have c3 : Below w.heap.size w w3 := c2.trans (hb3.mono c2.size)
    have c4 : Below w.heap.size w w4 := c3.trans (hb4.mono c3.size)
    clear hb1 hb2 hb3 hb4 c2 c3 hnn
    by_cases hok : Pl.ownB n r b = true
    · rw [Pl.ownOkB_yes hok] at hOK
      obtain ⟨x, s, k, rfl, rfl, rfl, h1, h2, h3, h4⟩ := Pl.ownB_nat hok
      rw [Pl.ownI_yes x s k hok] at hOK ⊢
      have hk0 : ((k : Int) == 0) = false := by simp; omega
      have hx0 : 0 ≤ (x : Int) := by omega
      have hS0 : 0 ≤ (Pl.ownN s k x : Int) := by omega
      by_cases hs : s = 0
      · subst hs
        have hone : x < k → Pl.ownN 0 k x = x := Pl.ownN_one
        have hB : x % k = 0 → x < 2000 → Pl.ownN 0 k x = x → Pl.ownOkB ((x : Int) + 1) 0 k = true := Pl.own_behind hok
        have HNX := Lib.hid (implOwnOk ((x : Int) + 1) 0 k)
        generalize hR : ((0 : Nat) : Int) = R at *
        obtain rfl : R = 0 := by omega
        clear hR n1 n2 hbd hok r1 r2
        generalize Pl.ownN 0 k x = S at *
        by_cases he : S = x
        · subst he
          obtain rfl : OK = true := by rw [← hOK]; simp
          clear hOK hone
          by_cases hm : S % k = 0
          · have hM : ((S : Int) % (k : Int) != 0) = false := by
              have e : (S : Int) % (k : Int) = ((S % k : Nat) : Int) := rfl
              rw [e]; simp [hm]
            by_cases hx2 : S < 2000
            · rw [hB hm hx2 rfl] at HNX
              have hge : ¬ 2000 ≤ (S : Int) := by omega
              clear hB hm hx2
              go_wp2_with fail
              refine HNX.out _ |>.mono ?_
              rintro e w5 ⟨rfl, hb5⟩
              go_wp2
              all_goals
                go_ret
                exact ⟨rfl, c4.trans (hb5.mono c4.size)⟩
            · have hge : 2000 ≤ (S : Int) := by omega
              clear hB hm hx2
              go_wp2
              all_goals
                go_ret
                exact ⟨rfl, c4⟩
          · have hM : ((S : Int) % (k : Int) != 0) = true := by
              have e : (S : Int) % (k : Int) = ((S % k : Nat) : Int) := rfl
              rw [e]; simp; omega
            clear hB hm
            go_wp2
            all_goals
              go_ret
              exact ⟨rfl, c4⟩
        · have hge : (k : Int) ≤ (x : Int) := by
            by_cases hlt : x < k
            · exact absurd (hone hlt) he
            · omega
          have hne : ((S : Int) == (x : Int)) = false := by rw [beq_eq_false_iff_ne]; omega
          obtain rfl : OK = false := by rw [← hOK]; simp; omega
          clear hOK hone hB he
          go_wp2
          go_ret
          exact ⟨rfl, c4⟩
      · have hR : ((s : Int) == 0) = false := by rw [beq_eq_false_iff_ne]; omega
        have hR2 : ((s : Int) != 0) = true := by simp; omega
        clear n1 n2 hbd hok r1 r2 hs h2
        generalize Pl.ownN s k x = S at *
        generalize (s : Int) = R at *
        by_cases he : S = x
        · subst he
          obtain rfl : OK = true := by rw [← hOK]; simp
          clear hOK
          go_wp2
          go_ret
          exact ⟨rfl, c4⟩
        · have hne : ((S : Int) == (x : Int)) = false := by rw [beq_eq_false_iff_ne]; omega
          obtain rfl : OK = false := by rw [← hOK]; simp; omega
          clear hOK he
          go_wp2
          go_ret
          exact ⟨rfl, c4⟩
    · rw [Pl.ownOkB_no hok] at hOK
      subst hOK
      rw [Pl.ownI_no hok]
      go_wp2_with (go_at_call 14; refine (alive _).mono ?_; rintro e w' ⟨rfl, rfl⟩)
      go_ret
      exact ⟨rfl, c4⟩

end Go.Proofs.Ytcigepkjnnknlaa
