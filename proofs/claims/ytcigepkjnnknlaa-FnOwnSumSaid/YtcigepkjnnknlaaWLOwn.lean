/-
  The walks of the laws of OwnSum and OwnOk: digits that are alike add alike; behind an own number that ends with nought there is one.
-/
import Derived.Test.YtcigepkjnnknlaaOwnSum
import Derived.Test.YtcigepkjnnknlaaDraws5
namespace Go.Proofs.Ytcigepkjnnknlaa
open Go.RowKit

/-- What the next number adds, as the functions answer. -/
theorem Pl.own_next {x s k : Nat} (h : Pl.ownB x s k = true) (hm : x % k = 0) : Pl.ownI ((x : Int) + 1) s k < 0 ∨ Pl.ownI ((x : Int) + 1) s k = (Pl.ownN s k x : Int) + (if s = 0 then 1 else 0) := by
  have hk := (Pl.ownB_iff x s k).1 h
  by_cases ho : Pl.ownB ((x + 1 : Nat) : Int) s k = true
  · right
    rw [show ((x : Int) + 1) = ((x + 1 : Nat) : Int) from rfl, Pl.ownI_yes (x + 1) s k ho, Pl.ownN_next (by omega) hm]
    split <;> rfl
  · left
    rw [show ((x : Int) + 1) = ((x + 1 : Nat) : Int) from rfl, Pl.ownI_no ho]; decide

set_option maxHeartbeats 2000000 in
theorem FnOwnSum_walk (a0 : Option Addr) (len0 cap0 : Nat) (z0 : List Int) (w : World) (w0 : IsRow .u8 w a0 len0 cap0 z0) :
    Calls Try.prog 3 #[.slice a0 len0 cap0] w fun e w' => e = .returned (.bool true) ∧ Below w.heap.size w w' := by
  by_cases hl : 1048576 < len0
  · go_enter Try.func3, Try.ntmps3
    go_wp2
    go_ret
    exact ⟨rfl, Below.refl _ _⟩
  · go_enter Try.func3, Try.ntmps3
    go_wp2_with fail
    refine (drawOwnSum _ _ _ _ _ w0).mono ?_
    rintro e w1 ⟨n, r, b, rfl, ⟨n1, n2⟩, ⟨r1, r2⟩, ⟨b1, b2⟩, hb1⟩
    clear w0 hl
    have hbd := Pl.ownI_bound n r b
    go_wp2_with fail
    refine (implOwnSum _ _ _ _).mono ?_
    rintro e w2 ⟨rfl, hb2⟩
    go_wp2_with fail
    refine (specOwnSum _ _ _ _).mono ?_
    rintro e w3 ⟨rfl, hb3⟩
    have c2 := hb1.trans (hb2.mono hb1.size)
    have c3 : Below w.heap.size w w3 := c2.trans (hb3.mono c2.size)
    clear hb1 hb2 hb3 c2
    by_cases hok : Pl.ownB n r b = true
    · obtain ⟨x, s, k, rfl, rfl, rfl, h1, h2, h3, h4⟩ := Pl.ownB_nat hok
      have hS := Pl.ownI_yes x s k hok
      have hlong := longI_nat x k (by rw [Pl.okB_iff]; omega)
      have hone := Pl.len_one (n := x) h3
      have hsame : s = 0 → (Pl.digsR k x).length = 1 → Pl.ownN s k x = x := fun e hh => by rw [e]; exact Pl.ownN_one (hone.1 hh)
      have hN : ((x : Int) % (k : Int) != 0) = true ∨ (((x : Int) % (k : Int) != 0) = false ∧ (Pl.ownI ((x : Int) + 1) s k < 0 ∨ Pl.ownI ((x : Int) + 1) s k = (Pl.ownN s k x : Int) + (if s = 0 then 1 else 0))) := by
        have e : (x : Int) % (k : Int) = ((x % k : Nat) : Int) := rfl
        rw [e]
        by_cases hm : x % k = 0
        · right; exact ⟨by simp [hm], Pl.own_next hok hm⟩
        · left; simp; omega
      have HNX := Lib.hid (implOwnSum ((x : Int) + 1) s k)
      have hk0 : ((k : Int) == 0) = false := by simp; omega
      have hx0 : 0 ≤ (x : Int) := by omega
      rw [hS]
      have hS0 : 0 ≤ (Pl.ownN s k x : Int) := by omega
      have hSb : (Pl.ownN s k x : Int) ≤ 4816832794189453125 := by omega
      clear hone n1 n2 hbd hS
      generalize Pl.ownI ((x : Int) + 1) s k = N at *
      generalize Pl.ownN s k x = S at *
      generalize (Pl.digsR k x).length = L at *
      have HL := Lib.hid hlong
      clear hlong hok
      by_cases hs : s = 0
      · rw [if_pos hs] at hN
        have hsame' := hsame hs
        have hR : (s : Int) = 0 := by omega
        clear hsame hs h2
        generalize (s : Int) = R at *
        subst hR
        by_cases h1L : L = 1
        · have hx2 := hsame' h1L
          subst h1L
          subst hx2
          clear hsame'
          rcases hN with hM | ⟨hM, hN | rfl⟩
          all_goals
            go_wp2_with fail
            refine HNX.out _ |>.mono ?_
            rintro e w4 ⟨rfl, hb4⟩
            have c4 := c3.trans (hb4.mono c3.size)
            go_wp2_with fail
            refine (implLongOf _ _ _).mono ?_
            rintro e w5 ⟨rfl, hb5⟩
            rw [HL.out]
            go_wp2_with (go_at_call 14; refine (alive _).mono ?_; rintro e w' ⟨rfl, rfl⟩)
            go_ret
            exact ⟨rfl, c4.trans (hb5.mono c4.size)⟩
        · have hL1 : ((L : Int) != 1) = true := by simp; omega
          clear hsame' h1L
          rcases hN with hM | ⟨hM, hN | rfl⟩
          all_goals
            go_wp2_with fail
            refine HNX.out _ |>.mono ?_
            rintro e w4 ⟨rfl, hb4⟩
            have c4 := c3.trans (hb4.mono c3.size)
            go_wp2_with fail
            refine (implLongOf _ _ _).mono ?_
            rintro e w5 ⟨rfl, hb5⟩
            rw [HL.out]
            go_wp2_with (go_at_call 14; refine (alive _).mono ?_; rintro e w' ⟨rfl, rfl⟩)
            go_ret
            exact ⟨rfl, c4.trans (hb5.mono c4.size)⟩
      · rw [if_neg hs] at hN
        have hR : ((s : Int) == 0) = false := by rw [beq_eq_false_iff_ne]; omega
        have hR2 : ((s : Int) != 0) = true := by simp; omega
        clear hsame hs h2
        generalize (s : Int) = R at *
        rcases hN with hM | ⟨hM, hN | hN⟩
        · go_wp2_with fail
          refine HNX.out _ |>.mono ?_
          rintro e w4 ⟨rfl, hb4⟩
          have c4 := c3.trans (hb4.mono c3.size)
          go_wp2_with (go_at_call 14; refine (alive _).mono ?_; rintro e w' ⟨rfl, rfl⟩)
          go_ret
          exact ⟨rfl, c4⟩
        · go_wp2_with fail
          refine HNX.out _ |>.mono ?_
          rintro e w4 ⟨rfl, hb4⟩
          have c4 := c3.trans (hb4.mono c3.size)
          go_wp2_with (go_at_call 14; refine (alive _).mono ?_; rintro e w' ⟨rfl, rfl⟩)
          go_ret
          exact ⟨rfl, c4⟩
        · have hN' : N = (S : Int) := by omega
          subst hN'
          clear hN
          go_wp2_with fail
          refine HNX.out _ |>.mono ?_
          rintro e w4 ⟨rfl, hb4⟩
          have c4 := c3.trans (hb4.mono c3.size)
          go_wp2_with (go_at_call 14; refine (alive _).mono ?_; rintro e w' ⟨rfl, rfl⟩)
          go_ret
          exact ⟨rfl, c4⟩
    · rw [Pl.ownI_no hok]
      go_wp2_with (go_at_call 14; refine (alive _).mono ?_; rintro e w' ⟨rfl, rfl⟩)
      go_ret
      exact ⟨rfl, c3⟩

end Go.Proofs.Ytcigepkjnnknlaa
