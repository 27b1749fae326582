/-
  The walk of the law of SelvesUpTo; facts of rows (the unfinished walk of FnRowFrom: wip/parts).
-/
import Derived.Test.YthohahnfkncecaaDraws12
import Derived.Test.YthohahnfkncecaaAppendRow
import Derived.Test.YthohahnfkncecaaCalm
import Derived.Test.YthohahnfkncecaaSelf
namespace Go.Proofs.Ythohahnfkncecaa
open Go.RowKit

/-- What the law asks of the selves up to a number. -/
structure Pl.SelUpOk (most b : Int) (L : List Int) : Prop where
  own : ∀ K, K < L.length → Pl.selfB (L[K]?.getD 0) b = true
  le : ∀ K, K < L.length → L[K]?.getD 0 ≤ most
  asc : L.Pairwise (· < ·)

theorem Pl.sel_up_ok (most b : Int) : Pl.SelUpOk most b (Pl.selvesA most b) := by
  have hm : ∀ K, K < (Pl.selvesA most b).length → (Pl.selvesA most b)[K]?.getD 0 ∈ Pl.selvesA most b := fun K hK => by
    rw [List.getElem?_eq_getElem hK]; exact List.getElem_mem hK
  exact ⟨fun K hK => (Pl.selvesA_mem (hm K hK)).1, fun K hK => (Pl.selvesA_mem (hm K hK)).2, Pl.selvesA_asc _ _⟩

set_option maxRecDepth 100000 in
set_option maxHeartbeats 2000000 in
theorem FnSelvesUpTo_walk (a0 : Option Addr) (len0 cap0 : Nat) (z0 : List Int) (w : World) (w0 : IsRow .u8 w a0 len0 cap0 z0) :
    Calls Try.prog 6 #[.slice a0 len0 cap0] w fun e w' => e = .returned (.bool true) ∧ Below w.heap.size w w' := by
  by_cases hl : 1048576 < len0
  · go_enter Try.func6, Try.ntmps6
    go_wp2
    go_ret
    exact ⟨rfl, Below.refl _ _⟩
  · go_enter Try.func6, Try.ntmps6
    go_wp2_with fail
    refine (drawSelvesUpTo _ _ _ _ _ w0).mono ?_
    rintro e w1 ⟨n, b, rfl, ⟨n1, n2⟩, ⟨b1, b2⟩, hb1⟩
    clear w0 hl
    obtain ⟨i0, hi0, hz0, hz1, hz2⟩ := info_parts info_int
    have HI := Lib.hid (implSelvesUpTo n b)
    have HS := Lib.hid (specSelvesUpTo n b)
    have HM := Lib.hid (implSelvesUpTo (n + 1) b)
    have hlen := Pl.selvesA_len n b
    have hlen2 := Pl.selvesA_len (n + 1) b
    have HF := Lib.hid (Pl.sel_up_ok n b)
    have HX : Hid (0 ≤ n → n < 3000 → ∀ ok, Pl.selfB (n + 1) b = ok → Pl.selvesA (n + 1) b = Pl.selvesA n b ++ (if ok = true then [n + 1] else [])) := Lib.hid fun h0 h1 ok hok => by
      obtain ⟨m, rfl⟩ := Int.eq_ofNat_of_zero_le h0
      cases ok with
      | true => rw [if_pos rfl]; exact Pl.selvesA_next_yes (by omega) hok
      | false => rw [if_neg (by simp), List.append_nil]; exact Pl.selvesA_next_not (by omega) hok
    generalize Pl.selvesA n b = L at *
    generalize Pl.selvesA (n + 1) b = MX at *
    go_wp2_with fail
    refine (HI.out _).mono ?_
    rintro e w2 ⟨v, rfl, q2, p2⟩
    go_wp2_with fail
    refine (HS.out _).mono ?_
    rintro e w3 ⟨v2, rfl, q3, p3⟩
    have i2 := q2.ints.below p3
    go_wp2_with fail
    refine (sameInts _ _ L L w3 i2 q3.ints (by omega)).mono ?_
    rintro e w4 ⟨rfl, p4⟩
    rw [show eqL L L = true by simp [eqL]]
    have c3 : Below w2.heap.size w2 w4 := p3.trans (p4.mono p3.size)
    have c2 : Below w.heap.size w w2 := hb1.trans (p2.mono hb1.size)
    have c4 : Below w.heap.size w w4 := c2.trans (c3.mono c2.size)
    have q4 := (q2.below p3).below p4
    clear i2 q3 q2 p3 p4 p2 hb1 HI HS c3 c2
    obtain ⟨la, lc, rfl⟩ := q4.shape
    have HR := Lib.hid q4
    clear q4
    go_wp2_with fail
    go_loopw [6] (fun i wr => ∃ K : Nat, K ≤ L.length ∧ i = .int .i64 K ∧ Below w4.heap.size w4 wr) (fun i _ => L.length - (intOf i).toNat)
    case atStart => exact ⟨0, by omega, rfl, Below.refl _ _⟩
    case round =>
      obtain ⟨K, hK, rfl, hbw⟩ := hrel
      by_cases hlt : K < L.length
      · have q1 := HF.out.own K hlt
        have q2 := HF.out.le K hlt
        obtain ⟨g, lc', hv, _, hgl, _, _, hc⟩ := (HR.out.below hbw).lies (by omega)
        obtain ⟨rfl, rfl⟩ : la = some ⟨g, 0, none⟩ ∧ lc = lc' := by simpa using hv
        have d1 := hc K hlt
        generalize L[K]?.getD 0 = A at *
        have hi1 : (K : Int) < (L.length : Int) := by omega
        clear hv hc
        go_wp2_with fail
        refine (implSelfOk _ _ _).mono ?_
        rintro e w6 ⟨rfl, b6⟩
        rw [q1]
        have c6 := hbw.trans (b6.mono hbw.size)
        have d6 : w6.cell? ⟨g, K, none⟩ = some (.int .i64 A) := Below.cell b6 (p := ⟨g, K, none⟩) hgl d1
        have hA : ¬ n < A := by omega
        clear d1
        go_wp2_with fail
        go_roundw
        case rel => exact ⟨K + 1, by omega, by simp, c6⟩
        case measure => simp [intOf]; omega
      · obtain rfl : K = L.length := by omega
        have hi : ¬ (L.length : Int) < (L.length : Int) := by omega
        have c5 := c4.trans (hbw.mono c4.size)
        by_cases hin : 0 ≤ n ∧ n < 3000
        · have hX0 := HX.out hin.1 hin.2
          obtain ⟨h0, h1⟩ := hin
          have g1 : ¬ n < 0 := by omega
          have g2 : ¬ 3000 ≤ n := by omega
          have hr5 := HR.out.below hbw
          have b20 : Below wr.heap.size wr (wr.alloc (.cells #[] 3)) := (Below.refl _ _).alloc (Nat.le_refl _) _
          have hr6 := hr5.below b20
          have HR6 := Lib.hid hr6
          have HX0 := Lib.hid (row_empty wr)
          clear hr5 hr6
          have hB20 := c5.trans (b20.mono c5.size)
          have hz20 : wr.heap.size ≤ (wr.alloc (.cells #[] 3)).heap.size := b20.size
          cases hok : Pl.selfB (n + 1) b with
          | false =>
            have hX := hX0 _ hok
            rw [if_neg (by simp), List.append_nil] at hX
            clear hX0
            subst hX
            go_wp2_with (at_builtin; refine append_row rfl _ _ rfl wr.heap.size _ _ _ [] MX rfl rfl HX0.out HR6.out (by simp; omega) hz20 ?_; intro v6 w6 r6 b6)
            have r6' : Row wr.heap.size w6 v6 MX := r6
            have c6 := hB20.trans (b6.mono c5.size)
            have d6 : Below w4.heap.size w4 w6 := (hbw.trans (b20.mono hbw.size)).trans (b6.mono hbw.size)
            clear r6
            refine (implSelfOk _ _ _).mono ?_
            rintro e w7 ⟨rfl, b7⟩
            rw [hok]
            have c7 := c6.trans (b7.mono c6.size)
            have d7 := d6.trans (b7.mono d6.size)
            have r7 := Lib.hid (r6'.below b7)
            clear r6'
            go_wp2_with fail
            refine (ascend _ MX _ (HR.out.ints.below d7) (by omega) HF.out.asc).mono ?_
            rintro e w8 ⟨rfl, b8⟩
            have c8 := c7.trans (b8.mono c7.size)
            go_wp2_with fail
            refine (HM.out _).mono ?_
            rintro e w9 ⟨vm, rfl, rm, b9⟩
            have c9 := c8.trans (b9.mono c8.size)
            go_wp2_with fail
            refine (sameInts _ _ MX MX _ rm.ints ((r7.out.ints.below b8).below b9) (by omega)).mono ?_
            rintro e w10 ⟨rfl, b10⟩
            rw [show eqL MX MX = true by simp [eqL]]
            go_wp2_with (go_at_call 18; refine (alive _).mono ?_; rintro e w' ⟨rfl, rfl⟩)
            go_ret
            exact ⟨rfl, c9.trans (b10.mono c9.size)⟩
          | true =>
            have hX := hX0 _ hok
            rw [if_pos rfl] at hX
            clear hX0
            go_wp2_with (at_builtin; refine append_row rfl _ _ rfl wr.heap.size _ _ _ [] L rfl rfl HX0.out HR6.out (by simp; omega) hz20 ?_; intro v6 w6 r6 b6)
            have r6' : Row wr.heap.size w6 v6 L := r6
            have c6 := hB20.trans (b6.mono c5.size)
            have d6 : Below w4.heap.size w4 w6 := (hbw.trans (b20.mono hbw.size)).trans (b6.mono hbw.size)
            clear r6
            refine (implSelfOk _ _ _).mono ?_
            rintro e w7 ⟨rfl, b7⟩
            rw [hok]
            have c7 := c6.trans (b7.mono c6.size)
            have d7 := d6.trans (b7.mono d6.size)
            have hr7 : w7.ownsRow wr.heap.size 3 1 v6 L.length (L.map (Value.int .i64)) := r6'.below b7
            have z7 : wr.heap.size ≤ w7.heap.size := Nat.le_trans hz20 (Nat.le_trans b6.size b7.size)
            clear r6'
            go_wp2_with (at_builtin; refine wpList_append_own _ rfl _ _ 28 rfl wr.heap.size 3 i0 (.int .i64 0) 1 8 Try.underlying28 hi0 hz0 hz1 hz2 rfl (by decide) _ _ _ rfl (hr7.alloc _) ⟨w7.heap.size, 0, none⟩ 1 1 [.int .i64 (n + 1)] rfl rfl (cell_one_new _ _ _) (by simp [Value.oneCell']) (by unfold maxLen; omega) (by omega) (by simp; omega) ?_; intro v8 w8 hown8 hgrow8 _)
            have e7 : Below wr.heap.size wr w7 := (b20.trans (b6.mono (Nat.le_refl _))).trans (b7.mono (Nat.le_trans hz20 b6.size))
            have hb8 : Below wr.heap.size wr w8 := below_append (e7.alloc z7 _) (hr7.alloc _) hgrow8
            have r8 : Hid (Row wr.heap.size w8 v8 (L ++ [n + 1])) := Lib.hid (row_snoc hown8)
            have d8 : Below w4.heap.size w4 w8 := hbw.trans (hb8.mono hbw.size)
            have c8 : Below w.heap.size w w8 := c5.trans (hb8.mono c5.size)
            clear hown8 hgrow8 hr7
            refine (ascend _ L _ (HR.out.ints.below d8) (by omega) HF.out.asc).mono ?_
            rintro e w9 ⟨rfl, b9⟩
            have c9 := c8.trans (b9.mono c8.size)
            go_wp2_with fail
            refine (HM.out _).mono ?_
            rintro e w10 ⟨vm, rfl, rm, b10⟩
            have c10 := c9.trans (b10.mono c9.size)
            rw [hX] at rm
            go_wp2_with fail
            refine (sameInts _ _ (L ++ [n + 1]) (L ++ [n + 1]) _ rm.ints ((r8.out.ints.below b9).below b10) (by simp; omega)).mono ?_
            rintro e w11 ⟨rfl, b11⟩
            rw [show eqL (L ++ [n + 1]) (L ++ [n + 1]) = true by simp [eqL]]
            go_wp2_with (go_at_call 18; refine (alive _).mono ?_; rintro e w' ⟨rfl, rfl⟩)
            go_ret
            exact ⟨rfl, c10.trans (b11.mono c10.size)⟩
        · have hin' : n < 0 ∨ (¬ n < 0 ∧ 3000 ≤ n) := by omega
          clear hin
          rcases hin' with g1 | ⟨g1, g2⟩
          all_goals
            go_wp2_with (go_at_call 18; refine (alive _).mono ?_; rintro e w' ⟨rfl, rfl⟩)
            go_ret
            exact ⟨rfl, c5⟩

/-- What the law asks of a row. -/
structure Pl.RowFact (n b : Int) (I : List Int) : Prop where
  pos : 1 ≤ I.length
  first : I[0]?.getD 0 = n
  step : ∀ K, 1 ≤ K → K < I.length → Pl.madeI (I[K - 1]?.getD 0) b = I[K]?.getD 0
  asc : I.Pairwise (· < ·)
  tail : I.length ≠ 1 → Pl.rowA (I[1]?.getD 0) b = I.drop 1
  last : 3000 < Pl.madeI (I[I.length - 1]?.getD 0) b

theorem Pl.row_fact {n b : Int} (h : Pl.rowB n b = true) : Pl.RowFact n b (Pl.rowA n b) := by
  have hpos := Pl.rowA_pos h
  have hasc := Pl.rowA_asc n b
  obtain ⟨x, k, rfl, rfl, h1, h2, h3, h4⟩ := Pl.rowB_nat h
  have hl := Pl.ints_len (Pl.rowL k x)
  have hmem : ∀ K, K < (Pl.rowL k x).length → 1 ≤ (Pl.rowL k x)[K]?.getD 0 ∧ (Pl.rowL k x)[K]?.getD 0 ≤ 3000 := fun K hK => by
    rw [List.getElem?_eq_getElem hK, Option.getD_some]
    have := Pl.rowL_ge h3 x h1 _ (List.getElem_mem hK)
    omega
  rw [Pl.rowA_yes x k h] at hpos hasc ⊢
  have hc := Pl.rowL_cons h3 h1 h2
  have hml := Pl.made_more h3 h1
  refine ⟨hpos, ?_, fun K k1 k2 => ?_, hasc, fun hne => ?_, ?_⟩
  · rw [Pl.ints_get, hc]; rfl
  · rw [hl] at k2
    obtain ⟨M, rfl⟩ : ∃ M, K = M + 1 := ⟨K - 1, by omega⟩
    rw [Pl.ints_get, Pl.ints_get, Nat.add_sub_cancel, Pl.madeI_yes _ k (Pl.okB_of h3 h4 (by have := hmem M (by omega); omega)), Pl.rowL_next h3 x h1 M k2]
  · rw [hl] at hne hpos
    have hle : Pl.madeN k x ≤ 3000 := by
      refine Classical.byContradiction fun hno => hne ?_
      rw [hc, Pl.rowL_big (by omega)]; rfl
    have he : (Pl.rowL k x)[1]?.getD 0 = Pl.madeN k x := by
      rw [hc, Pl.rowL_cons h3 (by omega) hle]; rfl
    rw [Pl.ints_get, he, Pl.rowA_yes _ k ((Pl.rowB_iff _ _).2 (by omega)), ← ints_drop]
    rw [show (Pl.rowL k x).drop 1 = Pl.rowL k (Pl.madeN k x) by rw [hc]; rfl]
  · rw [hl] at hpos ⊢
    rw [Pl.ints_get, Pl.madeI_yes _ k (Pl.okB_of h3 h4 (by have := hmem _ (show (Pl.rowL k x).length - 1 < (Pl.rowL k x).length by omega); omega))]
    have := Pl.rowL_last h3 x h1 h2
    omega

end Go.Proofs.Ythohahnfkncecaa
