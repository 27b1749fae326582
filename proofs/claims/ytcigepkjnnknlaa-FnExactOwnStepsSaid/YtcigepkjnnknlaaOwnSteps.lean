/-
  impl.OwnSteps (with slices.Contains), spec.OwnSteps: the numbers that follow a number, in new memory; the exact law.
-/
import Derived.Test.YtcigepkjnnknlaaOwnUpTo
import Derived.Test.YtcigepkjnnknlaaHas
import Derived.Deep.LoopGhost
namespace Go.Proofs.Ytcigepkjnnknlaa
open Go.RowKit Go.Shelf

set_option maxHeartbeats 800000 in
theorem sliceIndex (v : Value) (xs : List Int) (x : Int) (w : World) (hv : Ints w v xs) (hx : xs.length ≤ 1000000000) :
    Calls Try.prog 50 #[v, .int .i64 x] w fun e w' => (∃ i : Int, e = .returned (.int .i64 i) ∧ (0 ≤ i ↔ x ∈ xs)) ∧ w = w' := by
  obtain ⟨a, cap, rfl, ha⟩ := hv
  go_enter Try.func50, Try.ntmps50
  go_wp2
  go_loop [5, 8] (fun _ i => ∃ k : Nat, k ≤ xs.length ∧ i = .int .i64 k ∧ (∀ j, j < k → xs[j]?.getD 0 ≠ x)) (fun _ i => xs.length - (intOf i).toNat)
  case atStart => exact ⟨0, Nat.zero_le _, rfl, fun j hj => by omega⟩
  case round =>
    obtain ⟨k, hk, rfl, hno⟩ := hrel
    have HNO := Lib.hid hno
    clear hno
    by_cases hlt : k < xs.length
    · obtain ⟨b1, o1, rfl, c1⟩ := ha k hlt
      clear ha
      obtain ⟨p, hp⟩ : ∃ p, xs[k]?.getD 0 = p := ⟨_, rfl⟩
      rw [hp] at c1
      have HP := Lib.hid hp
      clear hp
      have hi : (k : Int) < (xs.length : Int) := by omega
      by_cases he : p = x
      · have hb : (x == p) = true := by simp [he]
        have HE := Lib.hid he
        clear he
        go_wp2
        go_ret
        refine ⟨⟨_, rfl, ?_⟩, rfl⟩
        refine ⟨fun _ => ?_, fun _ => by omega⟩
        have h1 := HP.out
        rw [List.getElem?_eq_getElem hlt, Option.getD_some] at h1
        rw [← HE.out, ← h1]; exact List.getElem_mem hlt
      · have hb : (x == p) = false := by simp; exact fun h => he h.symm
        have HE := Lib.hid he
        clear he
        go_wp2
        go_round
        case rel => exact ⟨k + 1, by omega, by simp, fun j hj => by
          by_cases h : j = k
          · subst h; rw [HP.out]; exact HE.out
          · exact HNO.out j (by omega)⟩
        case measure => simp [intOf]; omega
    · obtain rfl : k = xs.length := by omega
      have hi : ¬ (xs.length : Int) < (xs.length : Int) := by omega
      clear ha
      go_wp2
      go_ret
      exact ⟨⟨_, rfl, ⟨fun h => by omega, fun h => absurd h (not_mem_of HNO.out)⟩⟩, rfl⟩

set_option maxHeartbeats 400000 in
theorem sliceContains (v : Value) (xs : List Int) (x : Int) (w : World) (hv : Ints w v xs) (hx : xs.length ≤ 1000000000) :
    Calls Try.prog 41 #[v, .int .i64 x] w fun e w' => e = .returned (.bool (decide (x ∈ xs))) ∧ w = w' := by
  have HI := Lib.hid (sliceIndex v xs x w hv hx)
  by_cases h : x ∈ xs
  · go_enter Try.func41, Try.ntmps41
    go_wp2_with fail
    refine HI.out.mono ?_
    rintro e w' ⟨⟨i, rfl, hi⟩, rfl⟩
    have hi0 := hi.2 h
    clear hi
    go_wp2
    go_ret
    exact ⟨ret_bool (by simp [h]), rfl⟩
  · go_enter Try.func41, Try.ntmps41
    go_wp2_with fail
    refine HI.out.mono ?_
    rintro e w' ⟨⟨i, rfl, hi⟩, rfl⟩
    have hi0 : ¬ 0 ≤ i := fun hh => h (hi.1 hh)
    clear hi
    go_wp2
    go_ret
    exact ⟨ret_bool (by simp [h]; omega), rfl⟩

theorem Pl.mem_ints {l : List Nat} {x : Nat} : (x : Int) ∈ Pl.ints l ↔ x ∈ l := by
  unfold Pl.ints
  rw [List.mem_map]
  constructor
  · rintro ⟨y, hy, he⟩; rwa [show x = y by omega]
  · exact fun h => ⟨x, h, rfl⟩

theorem Pl.stepsA_ints (n r b : Nat) (h : Pl.ownB n r b = true) : Pl.stepsA n r b = Pl.ints (Pl.stepsL (Pl.ownN r b) n) := Pl.stepsA_yes n r b h

theorem row_first (w : World) (q : Int) : Row w.heap.size (w.alloc (.cells #[.int .i64 q] 3)) (.slice (some ⟨w.heap.size, 0, none⟩) 1 1) [q] := row_one w q

set_option maxRecDepth 100000 in
set_option maxHeartbeats 4000000 in
theorem ownStepsYes (x s b : Nat) (h : Pl.ownB x s b = true) (w : World) :
    Calls Try.prog 25 #[.int .i64 x, .int .i64 s, .int .i64 b] w (ListPost w (Pl.ints (Pl.stepsL (Pl.ownN s b) x))) := by
  obtain ⟨i0, hi0, hz0, hz1, hz2⟩ := info_parts info_int
  have hB := (Pl.ownB_iff x s b).1 h
  have hx : x ≤ 2000 := by omega
  obtain ⟨OUT, hOUT⟩ : ∃ OUT, Pl.stepsL (Pl.ownN s b) x = OUT := ⟨_, rfl⟩
  have H1 : Hid (Pl.stepsF (Pl.ownN s b) 59 [x] (Pl.ownN s b x) = OUT) := Lib.hid (by rw [← hOUT, Pl.stepsL_one hx])
  have HN : Hid (∀ y : Nat, y ≤ 2000 → Pl.ownI (y : Int) s b = (Pl.ownN s b y : Int) ∧ Pl.ownN s b y ≤ 4816832794189453125) := Lib.hid fun y hy =>
    ⟨Pl.ownI_yes y s b (Pl.ownB_of hy (by omega) (by omega) (by omega)), Pl.ownN_le (by omega) (by omega) hy⟩
  rw [hOUT]
  clear hOUT hB
  generalize hF : Pl.ownN s b = f at *
  clear hF
  go_enter Try.func25, Try.ntmps25
  go_wp2_with (go_at_call 32; refine (ownTold _ _ _ _).mono ?_; rintro e w' ⟨rfl, rfl⟩; rw [h])
  have b1 : Below w.heap.size w (w.alloc (.cells #[.int .i64 x] 3)) := (Below.refl _ _).alloc (Nat.le_refl _) _
  have r1 : Row w.heap.size (w.alloc (.cells #[.int .i64 x] 3)) (.slice (some ⟨w.heap.size, 0, none⟩) 1 1) (Pl.ints [x]) := row_first w x
  clear h
  go_loopg [7, 8] 59 (fun g v _ wr => ∃ (seen : List Nat) (vv : Value), vv = v ∧ 1 ≤ seen.length ∧ seen.length + g = 60 ∧ (∀ y ∈ seen, y ≤ 2000) ∧ Pl.stepsF f g seen (f (seen[seen.length - 1]?.getD 0)) = OUT ∧ Row w.heap.size wr vv (Pl.ints seen) ∧ Below w.heap.size w wr)
  case atStart => exact ⟨[x], _, rfl, by simp, by simp, by simp; omega, H1.out, r1, b1⟩
  case round =>
    clear b1 r1
    obtain ⟨seen, vv, rfl, hs1, hsg, hsm, hst, hr, hbw⟩ := hrel
    obtain ⟨l, hl⟩ : ∃ l, seen[seen.length - 1]?.getD 0 = l := ⟨_, rfl⟩
    have hl2 : l ≤ 2000 := by
      rw [← hl, List.getElem?_eq_getElem (by omega), Option.getD_some]
      exact hsm _ (List.getElem_mem _)
    obtain ⟨ga, cap, rfl, hgw, hgl, hcap, hcm, hc⟩ := hr.lies (by rw [Pl.ints_len]; exact hs1)
    have hcl := hc (seen.length - 1) (by rw [Pl.ints_len]; omega)
    rw [Pl.ints_get, hl] at hcl
    rw [hl] at hst
    have HR := Lib.hid hr
    have hil := Pl.ints_len seen
    obtain ⟨N1, hN2⟩ := HN.out l hl2
    have HN1 := Lib.hid N1
    have HST := Lib.hid hst
    have HSM := Lib.hid hsm
    have hlL : ((seen.length - 1 : Nat) : Int) = (seen.length : Int) - 1 := by omega
    clear hc hr hl N1 hst hsm
    have HI := Lib.hid hil
    rw [hil] at hcap ⊢
    clear hil
    generalize hm : f l = m at *
    generalize hLn : seen.length = L at *
    by_cases hlt : L < 60
    · obtain ⟨G, rfl⟩ : ∃ G, gk = G + 1 := ⟨gk - 1, by omega⟩
      go_wp2_with fail
      refine (implOwnSum _ _ _ _).mono ?_
      rintro e w2 ⟨rfl, b2⟩
      rw [HN1.out]
      by_cases hbig : 2000 < m
      · have HE : Hid (seen = OUT) := Lib.hid (by rw [← HST.out, Pl.stepsF_end (.inl hbig)])
        go_wp2_with fail
        go_ret
        exact ⟨_, rfl, by rw [← HE.out]; simpa [Row, HI.out] using HR.out.below b2, hbw.trans (b2.mono hbw.size)⟩
      · have hm2 : m ≤ 2000 := by omega
        have hsz := hbw.size
        have hr2 := HR.out.below b2
        have HK := Lib.hid (sliceContains _ (Pl.ints seen) (m : Int) w2 hr2.ints (by rw [HI.out]; omega))
        rw [HI.out] at HK
        by_cases hmem : m ∈ seen
        · have HE : Hid (seen = OUT) := Lib.hid (by rw [← HST.out, Pl.stepsF_end (.inr hmem)])
          have hd : decide ((m : Int) ∈ Pl.ints seen) = true := by simpa using Pl.mem_ints.2 hmem
          rw [hd] at HK
          have HR2 := Lib.hid hr2
          clear hd hr2
          go_wp2_with fail
          refine HK.out.mono ?_
          rintro e w' ⟨rfl, rfl⟩
          go_wp2_with fail
          go_ret
          exact ⟨_, rfl, by rw [← HE.out]; simpa [Row, HI.out] using HR2.out, hbw.trans (b2.mono hbw.size)⟩
        · have HE : Hid (Pl.stepsF f G (seen ++ [m]) (f m) = OUT) := Lib.hid (by rw [← HST.out, Pl.stepsF_more hm2 hmem])
          have hd : decide ((m : Int) ∈ Pl.ints seen) = false := by simpa using fun hh => hmem (Pl.mem_ints.1 hh)
          rw [hd] at HK
          have hrw : w2.ownsRow w.heap.size 3 1 (.slice (some ⟨ga, 0, none⟩) L cap) L ((Pl.ints seen).map (Value.int .i64)) := by
            have := hr2
            unfold Row at this
            rwa [HI.out] at this
          have HS := Lib.hid (Pl.ints_snoc seen m)
          have hsz2 := b2.size
          clear hd hr2
          go_wp2_with fail
          refine HK.out.mono ?_
          rintro e w' ⟨rfl, rfl⟩
          clear hcl
          go_wp2_with (at_builtin; refine wpList_append_own _ rfl _ _ 30 rfl w.heap.size 3 i0 (.int .i64 0) 1 8 Try.underlying30 hi0 hz0 hz1 hz2 rfl (by decide) _ _ _ rfl (hrw.alloc _) ⟨w2.heap.size, 0, none⟩ 1 1 [.int .i64 (m : Int)] rfl rfl (cell_one_new _ _ _) (by simp [Value.oneCell']) (by unfold maxLen; omega) (by omega) (by simp; omega) ?_; intro v6 w6 hown6 hgrow6 _)
          have hb6 : Below w.heap.size w w6 := below_append ((hbw.trans (b2.mono hsz)).alloc (by omega) _) (hrw.alloc _) hgrow6
          go_roundg G
          case measure => omega
          case rel =>
            refine ⟨seen ++ [m], _, rfl, by simp, by simp; omega, fun y hy => ?_, ?_, ?_, hb6⟩
            · rcases List.mem_append.1 hy with hy | hy
              · exact HSM.out y hy
              · simp at hy; omega
            · rw [show (seen ++ [m])[(seen ++ [m]).length - 1]?.getD 0 = m by simp]
              exact HE.out
            · rw [HS.out]
              refine row_snoc ?_
              rw [HI.out]
              exact hown6
    · obtain rfl : gk = 0 := by omega
      have HE : Hid (seen = OUT) := Lib.hid (by rw [← HST.out, Pl.stepsF_zero])
      have hi : ¬ (L : Int) < 60 := by omega
      go_wp2_with fail
      go_ret
      exact ⟨_, rfl, by rw [← HE.out]; simpa [Row, HI.out] using HR.out, hbw⟩

set_option maxHeartbeats 400000 in
theorem implOwnSteps (n r b : Int) (w : World) : Calls Try.prog 25 #[.int .i64 n, .int .i64 r, .int .i64 b] w (ListPost w (Pl.stepsA n r b)) := by
  by_cases h : Pl.ownB n r b = true
  · obtain ⟨x, s, k, rfl, rfl, rfl, h1, h2, h3, h4⟩ := Pl.ownB_nat h
    rw [Pl.stepsA_ints x s k h]
    exact ownStepsYes x s k h w
  · rw [Pl.stepsA_no h]
    have h' : Pl.ownB n r b = false := by simpa using h
    clear h
    go_enter Try.func25, Try.ntmps25
    go_wp2_with (go_at_call 32; refine (ownTold _ _ _ _).mono ?_; rintro e w' ⟨rfl, rfl⟩; rw [h'])
    go_ret
    exact ⟨_, rfl, World.ownsRow_nil _ _ _ _, Below.refl _ _⟩

set_option maxRecDepth 100000 in
set_option maxHeartbeats 4000000 in
theorem specStepsYes (x s b : Nat) (h : Pl.ownB x s b = true) (w : World) :
    Calls Try.prog 26 #[.int .i64 x, .int .i64 s, .int .i64 b] w (ListPost w (Pl.ints (Pl.stepsL (Pl.ownN s b) x))) := by
  obtain ⟨i0, hi0, hz0, hz1, hz2⟩ := info_parts info_int
  have hB := (Pl.ownB_iff x s b).1 h
  have hx : x ≤ 2000 := by omega
  obtain ⟨OUT, hOUT⟩ : ∃ OUT, Pl.stepsL (Pl.ownN s b) x = OUT := ⟨_, rfl⟩
  have H1 : Hid (Pl.stepsF (Pl.ownN s b) 60 [] x = OUT) := Lib.hid hOUT
  have HN : Hid (∀ (y : Nat) (W : World), y ≤ 2000 → (Calls Try.prog 36 #[.int .i64 y, .int .i64 s, .int .i64 b] W fun e w' => e = .returned (.int .i64 (Pl.ownN s b y : Nat)) ∧ Below W.heap.size W w') ∧ Pl.ownN s b y ≤ 4816832794189453125) := Lib.hid fun y W hy =>
    ⟨l4Sum y s b (by omega) (by omega) (by omega) hy W, Pl.ownN_le (by omega) (by omega) hy⟩
  have HX := Lib.hid (Pl.ownI_yes x s b h)
  rw [hOUT]
  clear hOUT hB h
  generalize hF : Pl.ownN s b = f at *
  clear hF
  have b0 : Below w.heap.size w (w.alloc (.cells #[] 3)) := (Below.refl _ _).alloc (Nat.le_refl _) _
  have r0 := row_empty w
  go_enter Try.func26, Try.ntmps26
  go_wp2_with fail
  refine (specOwnSum _ _ _ _).mono ?_
  rintro e w1 ⟨rfl, b1⟩
  rw [HX.out]
  have hb1 : Below w.heap.size w w1 := b0.trans (b1.mono b0.size)
  have hr1 := r0.below b1
  clear b0 r0 b1
  go_wp2_with fail
  go_loopg [7, 8, 9] 60 (fun g v nw _ wr => ∃ (seen : List Nat) (vv : Value) (now : Nat), vv = v ∧ vv ≠ .slice none 0 0 ∧ nw = .int .i64 now ∧ now ≤ 4816832794189453125 ∧ seen.length + g = 60 ∧ Pl.stepsF f g seen now = OUT ∧ Row w.heap.size wr vv (Pl.ints seen) ∧ Below w.heap.size w wr)
  case atStart => exact ⟨[], _, x, rfl, by simp, rfl, by omega, by simp, H1.out, hr1, hb1⟩
  case round =>
    clear hb1 hr1
    obtain ⟨seen, vv, now, rfl, hnn, rfl, hnow, hsg, hst, hr, hbw⟩ := hrel
    obtain ⟨ga, cap, rfl, hgw, hgl, hcap, hcm, hc⟩ := hr.nil_no hnn
    have HR := Lib.hid hr
    have HC := Lib.hid hc
    have hil := Pl.ints_len seen
    have HI := Lib.hid hil
    have HST := Lib.hid hst
    clear hc hr hst hnn
    rw [hil] at hcap ⊢
    rw [hil] at HC
    clear hil
    generalize hLn : seen.length = L at *
    by_cases hlt : L < 60
    · obtain ⟨G, rfl⟩ : ∃ G, gk = G + 1 := ⟨gk - 1, by omega⟩
      by_cases hbig : 2000 < now
      · have HE : Hid (seen = OUT) := Lib.hid (by rw [← HST.out, Pl.stepsF_end (.inl hbig)])
        have hb2 : ¬ (now : Int) ≤ 2000 := by omega
        go_wp2_with fail
        go_ret
        exact ⟨_, rfl, by rw [← HE.out]; simpa [Row, HI.out] using HR.out, hbw⟩
      · have hn2 : now ≤ 2000 := by omega
        go_wp2_with fail
        go_loop [9] (fun k => ∃ K : Nat, K ≤ L ∧ k = .int .i64 K ∧ (∀ j, j < K → (Pl.ints seen)[j]?.getD 0 ≠ (now : Int))) (fun k => L - (intOf k).toNat)
        case atStart => exact ⟨0, by omega, rfl, fun j hj => by omega⟩
        case round =>
          obtain ⟨K, hK, rfl, hno⟩ := hrel
          have HNO := Lib.hid hno
          clear hno
          by_cases hlt2 : K < L
          · have cK := HC.out K hlt2
            obtain ⟨p, hp⟩ : ∃ p, (Pl.ints seen)[K]?.getD 0 = p := ⟨_, rfl⟩
            rw [hp] at cK
            have HP := Lib.hid hp
            clear hp
            have hi2 : (K : Int) < (L : Int) := by omega
            by_cases he : p = (now : Int)
            · have hbq : (p == (now : Int)) = true := by simp [he]
              have hmem : now ∈ seen := by
                rw [← Pl.mem_ints, ← he, ← HP.out, List.getElem?_eq_getElem (by rw [HI.out]; exact hlt2), Option.getD_some]
                exact List.getElem_mem _
              have HE : Hid (seen = OUT) := Lib.hid (by rw [← HST.out, Pl.stepsF_end (.inr hmem)])
              clear he hmem
              go_wp2_with fail
              go_ret
              exact ⟨_, rfl, by rw [← HE.out]; simpa [Row, HI.out] using HR.out, hbw⟩
            · have hbq : (p == (now : Int)) = false := by simp [he]
              have HQ := Lib.hid he
              clear he
              go_wp2_with fail
              go_round
              case rel => exact ⟨K + 1, by omega, by simp, fun j hj => by
                by_cases hjK : j = K
                · subst hjK; rw [HP.out]; exact HQ.out
                · exact HNO.out j (by omega)⟩
              case measure => simp [intOf]; omega
          · obtain rfl : K = L := by omega
            have hi2 : ¬ (K : Int) < (K : Int) := by omega
            have hmem : now ∉ seen := fun hm => not_mem_of (xs := Pl.ints seen) (fun i hi => HNO.out i (by rwa [HI.out] at hi)) (Pl.mem_ints.2 hm)
            have HE : Hid (Pl.stepsF f G (seen ++ [now]) (f now) = OUT) := Lib.hid (by rw [← HST.out, Pl.stepsF_more hn2 hmem])
            have hrw : wr.ownsRow w.heap.size 3 1 (.slice (some ⟨ga, 0, none⟩) K cap) K ((Pl.ints seen).map (Value.int .i64)) := by
              have := HR.out
              unfold Row at this
              rwa [HI.out] at this
            have HS := Lib.hid (Pl.ints_snoc seen now)
            have hsz := hbw.size
            clear hmem
            go_wp2_with (at_builtin; refine wpList_append_own _ rfl _ _ 30 rfl w.heap.size 3 i0 (.int .i64 0) 1 8 Try.underlying30 hi0 hz0 hz1 hz2 rfl (by decide) _ _ _ rfl (hrw.alloc _) ⟨wr.heap.size, 0, none⟩ 1 1 [.int .i64 (now : Int)] rfl rfl (cell_one_new _ _ _) (by simp [Value.oneCell']) (by unfold maxLen; omega) (by omega) (by simp; omega) ?_; intro v6 w6 hown6 hgrow6 _)
            have hb6 : Below w.heap.size w w6 := below_append (hbw.alloc (by omega) _) (hrw.alloc _) hgrow6
            refine ((HN.out now w6 hn2).1).mono ?_
            rintro e w7 ⟨rfl, b7⟩
            have hf := (HN.out now w6 hn2).2
            have HO6 := Lib.hid hown6
            clear hown6 hrw
            go_wp2_with fail
            go_roundg G
            case measure => omega
            case rel =>
              refine ⟨seen ++ [now], _, _, rfl, ?_, rfl, hf, by simp; omega, HE.out, ?_, hb6.trans (b7.mono hb6.size)⟩
              · obtain ⟨g', cap', hv'⟩ := ownsRow_succ HO6.out
                rw [hv']; simp
              · refine Row.below ?_ b7
                rw [HS.out]
                refine row_snoc ?_
                rw [HI.out]
                exact HO6.out
    · obtain rfl : gk = 0 := by omega
      have HE : Hid (seen = OUT) := Lib.hid (by rw [← HST.out, Pl.stepsF_zero])
      have hi : ¬ (L : Int) < 60 := by omega
      go_wp2_with fail
      go_ret
      exact ⟨_, rfl, by rw [← HE.out]; simpa [Row, HI.out] using HR.out, hbw⟩

set_option maxHeartbeats 400000 in
theorem specOwnSteps (n r b : Int) (w : World) : Calls Try.prog 26 #[.int .i64 n, .int .i64 r, .int .i64 b] w (ListPost w (Pl.stepsA n r b)) := by
  by_cases h : Pl.ownB n r b = true
  · obtain ⟨x, s, k, rfl, rfl, rfl, h1, h2, h3, h4⟩ := Pl.ownB_nat h
    rw [Pl.stepsA_ints x s k h]
    exact specStepsYes x s k h w
  · rw [Pl.stepsA_no h]
    have HX := Lib.hid (Pl.ownI_no h)
    have b0 : Below w.heap.size w (w.alloc (.cells #[] 3)) := (Below.refl _ _).alloc (Nat.le_refl _) _
    have r0 := row_empty w
    clear h
    go_enter Try.func26, Try.ntmps26
    go_wp2_with fail
    refine (specOwnSum _ _ _ _).mono ?_
    rintro e w1 ⟨rfl, b1⟩
    rw [HX.out]
    go_wp2_with fail
    go_ret
    exact ⟨_, rfl, r0.below b1, b0.trans (b1.mono b0.size)⟩

set_option maxHeartbeats 1000000 in
theorem FnExactOwnSteps_walk (a0 : Int) (a1 : Int) (a2 : Int) (w : World) (_w0 : (Lit.int .i64 a0).wf = true) (_w1 : (Lit.int .i64 a1).wf = true) (_w2 : (Lit.int .i64 a2).wf = true) :
    Calls Try.prog 10 #[.int .i64 a0, .int .i64 a1, .int .i64 a2] w fun e w' => e = .returned (.bool true) ∧ Below w.heap.size w w' := by
  have HS := Lib.hid (specOwnSteps a0 a1 a2)
  have HI := Lib.hid (implOwnSteps a0 a1 a2)
  have hlen := Pl.stepsA_len a0 a1 a2
  generalize Pl.stepsA a0 a1 a2 = L at *
  go_enter Try.func10, Try.ntmps10
  go_wp2_with fail
  refine (HS.out _).mono ?_
  rintro e w1 ⟨v0, rfl, r0, b0⟩
  go_wp2_with fail
  refine (HI.out _).mono ?_
  rintro e w2 ⟨v1, rfl, r1, b1⟩
  have i0 := r0.ints.below b1
  go_wp2_with fail
  refine (eqIntS _ _ L L w2 r1.ints i0 (by omega)).mono ?_
  rintro e w3 ⟨rfl, b2⟩
  rw [eqL_self]
  go_wp2_with fail
  refine (markIntS w1.heap.size _ L 1 w3 (r1.below b2) (by omega) (by omega) (by omega)).mono ?_
  rintro e w4 ⟨rfl, r4, b4⟩
  go_wp2_with fail
  refine (heldIntS _ 1 L.length w4 r4.ints (by omega) (by omega) (by omega)).mono ?_
  rintro e w5 ⟨rfl, rfl⟩
  go_wp2_with fail
  refine (HI.out _).mono ?_
  rintro e w6 ⟨v2, rfl, r6, b6⟩
  have c2 : Below w1.heap.size w1 w4 := (b1.trans (b2.mono b1.size)).trans b4
  have c6 : Below w1.heap.size w1 w6 := c2.trans (b6.mono c2.size)
  go_wp2_with fail
  refine (eqIntS _ _ L L w6 r6.ints (r0.ints.kept (Nat.le_refl _) c6) (by omega)).mono ?_
  rintro e w7 ⟨rfl, b7⟩
  rw [eqL_self]
  go_wp2_with fail
  refine (heldIntS _ 1 L.length w7 ((r4.ints.below b6).below b7) (by omega) (by omega) (by omega)).mono ?_
  rintro e w8 ⟨rfl, rfl⟩
  go_wp2
  go_ret
  exact ⟨rfl, (b0.trans (c6.mono b0.size)).trans (b7.mono (Nat.le_trans b0.size c6.size))⟩

end Go.Proofs.Ytcigepkjnnknlaa
