/-
  The walk of the law of DigitsOf: digits tell the number.
-/
import Derived.Test.YtalcmadoledfnaaDigitsOf
import Derived.Test.YtalcmadoledfnaaWhole
import Derived.Test.YtalcmadoledfnaaMathDig
import Derived.Test.YtalcmadoledfnaaDraws
import Derived.Deep.DeepCutAuto
import Derived.Deep.CutBlock
namespace Go.Proofs.Ytalcmadoledfnaa
open Go.RowKit

theorem Ints.at {w : World} {a : Option Addr} {n cap : Nat} {xs : List Int} (h : Ints w (.slice a n cap) xs) (hn : xs.length = n) (h0 : 0 < n) :
    ∃ b off, a = some ⟨b, off, none⟩ ∧ ∀ j, j < n → w.cell? ⟨b, off + j, none⟩ = some (.int .i64 (xs[j]?.getD 0)) := by
  obtain ⟨a', cap', hv, hc⟩ := h
  obtain ⟨rfl, _, rfl⟩ : a = a' ∧ n = xs.length ∧ cap = cap' := by simpa using hv
  obtain ⟨b, off, rfl, _⟩ := hc 0 (by omega)
  refine ⟨b, off, rfl, fun j hj => ?_⟩
  obtain ⟨b', off', he, hx⟩ := hc j (by omega)
  obtain ⟨rfl, rfl⟩ : b = b' ∧ off = off' := by simpa using he
  exact hx

theorem sameInts_same (u v : Value) (xs : List Int) (w : World) (hu : Ints w u xs) (hv : Ints w v xs) (hx : xs.length ≤ 1000000000) :
    Calls Try.prog 20 #[u, v] w fun e w' => e = .returned (.bool true) ∧ Below w.heap.size w w' := by
  have := sameInts u v xs xs w hu hv hx
  rwa [show eqL xs xs = true from by simp [eqL]] at this

/-- What the last test of the law asks of the two rows. -/
def Next (L N : List Int) : Prop := N = [] ∨ L.length < N.length ∨ (N.length = L.length ∧ ∃ j, Pl.Later L N j)

theorem next_of {x k : Nat} (hok : Pl.okB x k = true) (hb : 2 ≤ k) : Next (Pl.digA x k) (Pl.digA ((x : Int) + 1) k) := by
  rw [show ((x : Int) + 1) = ((x + 1 : Nat) : Int) from rfl]
  by_cases ho : Pl.okB ((x + 1 : Nat) : Int) k = true
  · rw [Pl.digA_yes x k hok, Pl.digA_yes _ k ho]
    rcases Pl.len_succ hb x with h | h
    · exact .inr (.inr ⟨by rw [Pl.digI_len, Pl.digI_len, h], Pl.digI_later hb x (by rw [Pl.digI_len, Pl.digI_len, h])⟩)
    · exact .inr (.inl (by rw [Pl.digI_len, Pl.digI_len, h]; omega))
  · rw [Pl.digA_no ho]; exact .inl rfl

set_option maxRecDepth 100000 in
set_option maxHeartbeats 20000000 in
theorem FnDigitsOf_walk (a0 : Option Addr) (len0 cap0 : Nat) (z0 : List Int) (w : World) (w0 : IsRow .u8 w a0 len0 cap0 z0) :
    Calls Try.prog 4 #[.slice a0 len0 cap0] w fun e w' => e = .returned (.bool true) ∧ Below w.heap.size w w' := by
  by_cases hl : 1048576 < len0
  · go_enter Try.func4, Try.ntmps4
    go_wp2
    go_ret
    exact ⟨rfl, Below.refl _ _⟩
  · go_enter Try.func4, Try.ntmps4
    go_wp2_with fail
    refine (drawDigitsOf _ _ _ _ _ w0).mono ?_
    rintro e w1 ⟨n, b, rfl, ⟨n1, n2⟩, ⟨b1, b2⟩, hb1⟩
    clear w0
    have l30 := Pl.digA_len30 n b
    go_wp2_with fail
    refine (implDigitsOf _ _ _).mono ?_
    rintro e w2 ⟨v1, rfl, r1, hb2⟩
    obtain ⟨a1, cap1, rfl⟩ := r1.shape
    go_wp2_with fail
    refine (specDigitsOf _ _ _).mono ?_
    rintro e w3 ⟨v2, rfl, r2, hb3⟩
    go_wp2_with fail
    refine (sameInts_same _ _ _ _ (r1.ints.below hb3) r2.ints (by omega)).mono ?_
    rintro e w4 ⟨rfl, hb4⟩
    have c3 : Below w.heap.size w w3 := (hb1.trans (hb2.mono hb1.size)).trans (hb3.mono (Nat.le_trans hb1.size hb2.size))
    have c4 := c3.trans (hb4.mono c3.size)
    have i4 := (r1.ints.below hb3).below hb4
    clear r1 r2 hb3 hb4 c3 hb2 hb1
    by_cases hok : Pl.okB n b = true
    · obtain ⟨x, k, rfl, rfl, k1, k2, hx⟩ := Pl.okB_nat hok
      have hpos : 1 ≤ (Pl.digA x k).length := by rw [Pl.digA_yes x k hok, Pl.digI_len]; exact Pl.digsR_pos _ _
      have hnext := next_of hok k1
      have hwhole := Pl.whole_digA hok
      have hfirst : 1 ≤ x → (0 : Int) < (Pl.digA x k)[0]?.getD 0 := by rw [Pl.digA_yes x k hok]; exact Pl.first_pos k1 x
      have n30 := Pl.digA_len30 ((x : Int) + 1) k
      have H1 := Lib.hid (implDigitsOf ((x : Int) + 1) k)
      have hW := implWholeOf _ (Pl.digA x k) k w4 i4 (by omega)
      rw [hwhole] at hW
      simp only [Pl.wV, Pl.wB] at hW
      have HW := Lib.hid hW
      clear hwhole hok hl hW
      generalize Pl.digA ((x : Int) + 1) k = N at *
      generalize Pl.digA x k = L at *
      obtain ⟨n, hn⟩ : ∃ n, L.length = n := ⟨_, rfl⟩
      rw [hn] at i4 hpos l30 HW ⊢
      have hne : ((n : Int) == 0) = false := by simp; omega
      go_wp2_with fail
      refine HW.out.mono ?_
      rintro e w' ⟨rfl, rfl⟩
      go_wp2_with fail
      refine (H1.out _).mono ?_
      rintro e w5 ⟨v3, rfl, r3, hb5⟩
      obtain ⟨a3, cap3, rfl⟩ := r3.shape
      have c5 := c4.trans (hb5.mono c4.size)
      obtain ⟨b1', o1, rfl, hc1⟩ := (i4.below hb5).at hn (by omega)
      have i3 := r3.ints
      obtain ⟨nn, hnn⟩ : ∃ nn, N.length = nn := ⟨_, rfl⟩
      rw [hnn] at i3 n30 ⊢
      clear r3 hb5 c4 i4
      have cc0 := hc1 0 (by omega)
      rw [Nat.add_zero] at cc0
      have hx01 : ((x : Int) == 0) = true ∨ (((x : Int) == 0) = false ∧ decide ((0 : Int) < L[0]?.getD 0) = true) := by
        by_cases h : x = 0
        · left; subst h; rfl
        · right; exact ⟨by simp; omega, decide_eq_true (hfirst (by omega))⟩
      clear hfirst
      have hn0 : (0 : Int) < (n : Int) := by omega
      obtain ⟨j, hj⟩ : ∃ j, nn = n → Pl.Later L N j := by
        by_cases hsame : nn = n
        · rcases hnext with h | h | h
          · subst h; simp at hnn; omega
          · omega
          · obtain ⟨j, hj⟩ := h.2; exact ⟨j, fun _ => hj⟩
        · exact ⟨0, fun h => absurd h hsame⟩
      have hcase : ((nn : Int) == 0) = true ∨ (((nn : Int) == 0) = false ∧ decide (n < nn) = true ∧ decide ((n : Int) < (nn : Int)) = true) ∨ nn = n := by
        rcases hnext with h | h | h
        · left; subst h; simp at hnn; subst hnn; rfl
        · right; left; exact ⟨by simp; omega, decide_eq_true (by omega), decide_eq_true (by omega)⟩
        · right; right; omega
      have hw1 : IntKind.i64.wrap ((n : Int) - 1) = (n : Int) - 1 := IntWalk.i64_in _ (by omega)
      have HC := Lib.hid hc1
      have I3 := Lib.hid i3
      have HX := Lib.hid hx01
      have HCase := Lib.hid hcase
      have HJ := Lib.hid hj
      have HN := Lib.hid hn
      have HNN := Lib.hid hnn
      clear hnext hn hnn i3 hc1 HW H1 hx01 hcase hj
      go_upto_block 0 with (fail)
      go_cut [9] (fun i wc => ∃ k : Nat, i = .int .i64 k ∧ Below w5.heap.size w5 wc ∧ (nn = n → k = j))
      case first =>
        by_cases hsame : nn = n
        · subst hsame
          obtain ⟨j1, j2, j3, j4⟩ := HJ.out rfl
          rw [HN.out] at j1
          obtain ⟨b3, o3, rfl, d3⟩ := I3.out.at HNN.out (by omega)
          have D3 := Lib.hid d3
          have J3 := Lib.hid j3
          have hee : (nn == nn) = true := by simp
          clear d3 j3 cc0 HX HCase c5 n1 n2 b1 b2 k1 k2 hx hpos I3 HJ
          go_wp2_with fail
          go_loopw [9] (fun i wr => ∃ k m : Nat, k ≤ j ∧ i = .int .i64 k ∧ wr = w5.drewN m) (fun i _ => nn - (intOf i).toNat)
          case atStart => exact ⟨0, 0, Nat.zero_le _, rfl, rfl⟩
          case round =>
            obtain ⟨k, m, hk, rfl, rfl⟩ := hrel
            have d1 := HC.out k (by omega)
            have d3 := D3.out k (by omega)
            have hk0 : (0 : Int) ≤ (k : Int) := by omega
            have hkn : (k : Int) < (nn : Int) := by omega
            by_cases hlt : k < j
            · have hl1 : (k : Int) < (nn : Int) - 1 := by omega
              have hl2 : decide ((k : Int) < (nn : Int) - 1) = true := decide_eq_true hl1
              have heq := J3.out k hlt
              rw [← heq] at d3
              generalize L[k]?.getD 0 = pk at *
              have hpp : (pk == pk) = true := by simp
              clear heq HC D3 J3 j4
              go_wp2_with fail
              go_big_quiet (fail)
              go_wp2
              go_roundw
              case rel => exact ⟨k + 1, _, by omega, by go_num, rfl⟩
              case measure => simp [intOf]; omega
            · obtain rfl : k = j := by omega
              by_cases hlast : k + 1 = nn
              · have hl2 : decide ((k : Int) < (nn : Int) - 1) = false := decide_eq_false (by omega)
                clear HC D3 J3 j4 d1 d3
                go_wp2_with fail
                go_big_quiet (fail)
                go_wp2
                go_meet
                case rel => exact ⟨k, rfl, (drewN_below w5 m).trans ((drewN_below (w5.drewN m) nq).mono (Nat.le_refl _)), fun _ => rfl⟩
              · have hl2 : decide ((k : Int) < (nn : Int) - 1) = true := decide_eq_true (by omega)
                generalize L[k]?.getD 0 = pk at *
                generalize N[k]?.getD 0 = qk at *
                have hpp : (qk == pk) = false := by simp; omega
                clear HC D3 J3
                go_wp2_with fail
                go_big_quiet (fail)
                go_wp2
                go_meet
                case rel => exact ⟨k, rfl, (drewN_below w5 m).trans ((drewN_below (w5.drewN m) nq).mono (Nat.le_refl _)), fun _ => rfl⟩
        · have hq : ((nn : Int) == (n : Int)) = false := by simp; omega
          have hq' : (nn == n) = false := by simp; omega
          clear cc0 HX HCase c5 n1 n2 b1 b2 k1 k2 hx hpos I3 HJ HC
          go_wp2_with fail
          go_loopw [9] (fun i wr => ∃ m : Nat, i = .int .i64 0 ∧ wr = w5.drewN m) (fun _ _ => 0)
          case atStart => exact ⟨0, rfl, rfl⟩
          case round =>
            obtain ⟨m, rfl, rfl⟩ := hrel
            by_cases h1 : n = 1
            · have hk2 : decide ((0 : Int) < (n : Int) - 1) = false := decide_eq_false (by omega)
              have hk3 : decide ((1 : Int) < (n : Int)) = false := decide_eq_false (by omega)
              have hk4 : decide (1 < n) = false := decide_eq_false (by omega)
              clear h1
              go_wp2_with fail
              go_big_quiet (fail)
              go_wp2
              go_meet
              case rel => exact ⟨0, rfl, (drewN_below w5 m).trans ((drewN_below (w5.drewN m) nq).mono (Nat.le_refl _)), fun h => absurd h hsame⟩
            · have hk2 : decide ((0 : Int) < (n : Int) - 1) = true := decide_eq_true (by omega)
              have hk3 : decide ((1 : Int) < (n : Int)) = true := decide_eq_true (by omega)
              have hk4 : decide (1 < n) = true := decide_eq_true (by omega)
              clear h1
              go_wp2_with fail
              go_big_quiet (fail)
              go_wp2
              go_meet
              case rel => exact ⟨0, rfl, (drewN_below w5 m).trans ((drewN_below (w5.drewN m) nq).mono (Nat.le_refl _)), fun h => absurd h hsame⟩
      case rest =>
        obtain ⟨k, rfl, hbw, hk⟩ := hcut
        have c6 := c5.trans (hbw.mono c5.size)
        have cd0 : wc.cell? ⟨b1', o1, none⟩ = some (.int .i64 (L[0]?.getD 0)) := (hbw.cell (p := ⟨b1', o1, none⟩) (World.block_lt_of_cell? _ _ cc0)).trans cc0
        go_wp2_with fail
        rcases HCase.out with hlg | ⟨hlg, hlg2, hlg3⟩ | hs
        · clear cc0 hbw hk HC I3 HCase HJ HN HNN c5 n1 n2 b1 b2 k1 k2 hx hpos
          rcases HX.out with hx0 | ⟨hx0, hp0⟩
          all_goals
            go_big_quiet ((go_at_call 22; exact Calls.quiet_of_same (alive_q _)))
            go_wp2
            go_ret
            exact ⟨rfl, c6.trans ((drewN_below wc _).mono c6.size)⟩
        · clear cc0 hbw hk HC I3 HCase HJ HN HNN c5 n1 n2 b1 b2 k1 k2 hx hpos
          rcases HX.out with hx0 | ⟨hx0, hp0⟩
          all_goals
            go_big_quiet ((go_at_call 22; exact Calls.quiet_of_same (alive_q _)))
            go_wp2
            go_ret
            exact ⟨rfl, c6.trans ((drewN_below wc _).mono c6.size)⟩
        · obtain rfl := hk hs
          subst hs
          obtain ⟨j1, j2, j3, j4⟩ := HJ.out rfl
          rw [HN.out] at j1
          have d1 := HC.out k j1
          have d1' : wc.cell? ⟨b1', o1 + k, none⟩ = some (.int .i64 (L[k]?.getD 0)) := (hbw.cell (p := ⟨b1', o1 + k, none⟩) (World.block_lt_of_cell? _ _ d1)).trans d1
          obtain ⟨b3, o3, rfl, d3⟩ := I3.out.at HNN.out (by omega)
          have d3' : wc.cell? ⟨b3, o3 + k, none⟩ = some (.int .i64 (N[k]?.getD 0)) := (hbw.cell (p := ⟨b3, o3 + k, none⟩) (World.block_lt_of_cell? _ _ (d3 k j1))).trans (d3 k j1)
          have hgt : decide (L[k]?.getD 0 < N[k]?.getD 0) = true := decide_eq_true j4
          have hki : (k : Int) < (nn : Int) := by omega
          have hnz : ((nn : Int) == 0) = false := by simp; omega
          have hnz' : decide (nn < nn) = false := by simp
          have hee : (nn == nn) = true := by simp
          clear cc0 hbw hk HC I3 HCase HJ HN HNN c5 n1 n2 b1 b2 k1 k2 hx hpos d1 d3 j3 j4
          rcases HX.out with hx0 | ⟨hx0, hp0⟩
          all_goals
            generalize L[0]?.getD 0 = p0 at *
            generalize L[k]?.getD 0 = pk at *
            generalize N[k]?.getD 0 = qk at *
            go_big_quiet ((go_at_call 22; exact Calls.quiet_of_same (alive_q _)))
            go_wp2
            go_ret
            exact ⟨rfl, c6.trans ((drewN_below wc _).mono c6.size)⟩
    · rw [Pl.digA_no hok]
      go_wp2_with (go_at_call 22; refine (alive _).mono ?_; rintro e w' ⟨rfl, rfl⟩)
      go_ret
      exact ⟨rfl, c4⟩

end Go.Proofs.Ytalcmadoledfnaa
