/-
  Chapter 12: the walk of the law of DeskRun, its inputs drawn.
-/
import Derived.Test.YtakkjlcnfkklpaaDeskParts
namespace Go.Proofs.Ytakkjlcnfkklpaa
open Go.RowKit Go.Shelf

set_option maxRecDepth 100000 in
set_option maxHeartbeats 4000000 in
theorem FnDeskRun_walk (a0 : Option Addr) (len0 cap0 : Nat) (z0 : List Int) (w : World) (w0 : IsRow .u8 w a0 len0 cap0 z0) :
    Calls Try.prog 6 #[.slice a0 len0 cap0] w fun e w' => e = .returned (.bool true) ∧ Below w.heap.size w w' := by
  by_cases hl : 1048576 < len0
  · go_enter Try.func6, Try.ntmps6
    go_wp2
    go_ret
    exact ⟨rfl, Below.refl _ _⟩
  · go_enter Try.func6, Try.ntmps6
    go_wp2_with fail
    refine (drawDeskRun _ _ _ _ _ w0).mono ?_
    rintro e w1 ⟨d, v, lv, ds, rfl, hd, hlen, hL, hls, hsh, hb1⟩
    obtain ⟨a, cap, rfl, _⟩ := id hd
    obtain ⟨la, lc, rfl, hlc, hla⟩ := hsh
    have HLA := Lib.hid hla
    clear hla
    clear w0
    have b4 : Below w1.heap.size w1 (w1.alloc (.cells #[.int .i64 d.b, .int .i64 d.n, .slice a d.past.length cap] 25)) := (Below.refl _ w1).alloc (Nat.le_refl _) _
    have A4 := SBox.new w1 25 #[.int .i64 d.b, .int .i64 d.n, .slice a d.past.length cap]
    have c4 := hb1.trans (b4.mono hb1.size)
    have i4 := Lib.hid (hd.below b4)
    have k4 := Lib.hid (hL.below b4)
    have HI := Lib.hid (fun pv lv W (h : Ints W pv d.past) (hl : Deeds W lv ds) => implDeskRun d pv lv ds W h (by omega) hl)
    have HS := Lib.hid (fun pv lv W (h : Ints W pv d.past) (hl : Deeds W lv ds) => specDeskRun d pv lv ds W h (by omega) hl)
    have HDK := Lib.hid (fun pv W (h : Ints W pv d.past) => specDeskOk d pv W h (by omega))
    have hno := fun h => Pl.runA_no (d := d) (l := ds) h
    have hyes := fun h hl => Pl.runA_parts (d := d) (l := ds) h hl (ds.length / 2)
    have hfew := Pl.runA_few d ds
    obtain ⟨⟨D, N⟩, hR⟩ : ∃ R, Pl.runA d ds = R := ⟨_, rfl⟩
    rw [hR] at hno hyes hfew HI HS
    simp only at hno hyes hfew HI HS
    have HNO := Lib.hid hno
    have HYES := Lib.hid hyes
    have HE : Hid (Pl.sameA D D = true) := Lib.hid (by simp [Pl.sameA, eqL])
    clear hb1 hd hL b4 hno hyes hR
    go_upto_region 4 with (fail)
    generalize w1.alloc (.cells #[.int .i64 d.b, .int .i64 d.n, .slice a d.past.length cap] 25) = W4 at *
    go_wp2_with (first | (refine desk_load rfl _ rfl rfl A4 ?_))
    refine (HI.out _ _ W4 i4.out k4.out).mono ?_
    rintro e w5 ⟨v5, rfl, o5, b5⟩
    have j5 := o5.ints
    obtain ⟨a5, l5, rfl, _⟩ := o5.ints
    have n5 : Below w5.heap.size w5 (w5.alloc (.cells #[.int .i64 D.b, .int .i64 D.n, .slice a5 D.past.length l5] 25)) := (Below.refl _ _).alloc (Nat.le_refl _) _
    have A5 := (A4.kept b5).kept n5
    have X5 := SBox.new w5 25 #[.int .i64 D.b, .int .i64 D.n, .slice a5 D.past.length l5]
    have i5 := Lib.hid ((i4.out.below b5).below n5)
    have k5 := Lib.hid ((k4.out.below b5).below n5)
    have j5' := Lib.hid (j5.below n5)
    have c5' := c4.trans (b5.mono c4.size)
    have c5 := c5'.trans (n5.mono c5'.size)
    clear A4 i4 k4 o5 b5 j5 n5 c4 c5' HI
    go_wp2_with (first | (refine desk_load rfl _ rfl rfl A5 ?_))
    refine (HS.out _ _ _ i5.out k5.out).mono ?_
    rintro e w6 ⟨v6, rfl, o6, b6⟩
    have y6 := o6.ints
    obtain ⟨a6, l6, rfl, _⟩ := o6.ints
    have n6 : Below w6.heap.size w6 (w6.alloc (.cells #[.int .i64 D.b, .int .i64 D.n, .slice a6 D.past.length l6] 25)) := (Below.refl _ _).alloc (Nat.le_refl _) _
    have A6 := (A5.kept b6).kept n6
    have X6 := (X5.kept b6).kept n6
    have Y6 := SBox.new w6 25 #[.int .i64 D.b, .int .i64 D.n, .slice a6 D.past.length l6]
    have i6 := Lib.hid ((i5.out.below b6).below n6)
    have k6 := Lib.hid ((k5.out.below b6).below n6)
    have j6 := Lib.hid ((j5'.out.below b6).below n6)
    have y6' := Lib.hid (y6.below n6)
    have c6' := c5.trans (b6.mono c5.size)
    have c6 := c6'.trans (n6.mono c6'.size)
    clear A5 X5 i5 k5 j5' o6 b6 y6 n6 c5 c6' HS
    go_wp2_with (first | (refine desk_load rfl _ rfl rfl X6 ?_) | (refine desk_load rfl _ rfl rfl Y6 ?_))
    refine (sameDesk D D _ _ _ j6.out y6'.out (by omega)).mono ?_
    rintro e w7 ⟨rfl, b7⟩
    rw [HE.out]
    have A7 := A6.kept b7
    have X7 := X6.kept b7
    have i7 := Lib.hid (i6.out.below b7)
    have k7 := Lib.hid (k6.out.below b7)
    have j7 := Lib.hid (j6.out.below b7)
    have c7 := c6.trans (b7.mono c6.size)
    clear A6 X6 Y6 i6 k6 j6 y6' b7 c6
    go_wp2_with (first | (refine desk_load rfl _ rfl rfl A7 ?_))
    refine (HDK.out _ _ i7.out).mono ?_
    rintro e w8 ⟨rfl, b8⟩
    have A8 := A7.kept b8
    have X8 := X7.kept b8
    have i8 := Lib.hid (i7.out.below b8)
    have k8 := Lib.hid (k7.out.below b8)
    have j8 := Lib.hid (j7.out.below b8)
    have c8 := c7.trans (b8.mono c7.size)
    clear A7 X7 i7 k7 j7 c7 b8
    have x0 := X8.cell 0
    have x1 := X8.cell 1
    have x2 := X8.cell 2
    by_cases hok : Pl.dkB d = true ∧ ds.length ≤ 40
    · obtain ⟨hB, h40⟩ := hok
      have hY := Lib.hid (HYES.out hB h40)
      rw [hB]
      have h40i : ¬ (40 : Int) < (ds.length : Int) := by omega
      clear HYES HNO hB HDK
      go_upto_region 11 with (fail)
      rw [show (ds.length : Int) / 2 = ((ds.length / 2 : Nat) : Int) by omega]
      have hHl : ds.length / 2 ≤ ds.length := by omega
      have hH2 : ds.length / 2 * 2 ≤ ds.length := by omega
      generalize ds.length / 2 = H at *
      obtain ⟨P, q, hPq⟩ : ∃ P q, Pl.runA d (ds.take H) = (P, q) := ⟨_, _, rfl⟩
      have hPf := Pl.runA_few d (ds.take H)
      have HP := Lib.hid (fun W (h : Ints W (.slice a d.past.length cap) d.past) (hl : Deeds W (.slice la H lc) (ds.take H)) => implDeskRun d _ _ (ds.take H) W h (by omega) hl)
      rw [hPq] at HP hY hPf
      simp only at HP hY hPf
      have hqle := Pl.runA_count d (ds.take H)
      rw [hPq] at hqle
      simp only [List.length_take] at hqle
      clear hPq x0 x1 x2
      have hHc : (H : Int) ≤ (lc : Int) := by omega
      have hH0 : (0 : Int) ≤ (H : Int) := by omega
      have y0 : w8.cell? ⟨w1.heap.size, 0, none⟩ = some (.int .i64 d.b) ∧ w8.cell? ⟨w1.heap.size, 1, none⟩ = some (.int .i64 d.n) ∧ w8.cell? ⟨w1.heap.size, 2, none⟩ = some (.slice a d.past.length cap) := ⟨A8.cell 0, A8.cell 1, A8.cell 2⟩
      have y0A : (w8.alloc (.cells #[.int .i64 0, .int .i64 0, .slice none 0 0] 25)).cell? ⟨w1.heap.size, 0, none⟩ = some (.int .i64 d.b) ∧ (w8.alloc (.cells #[.int .i64 0, .int .i64 0, .slice none 0 0] 25)).cell? ⟨w1.heap.size, 1, none⟩ = some (.int .i64 d.n) ∧ (w8.alloc (.cells #[.int .i64 0, .int .i64 0, .slice none 0 0] 25)).cell? ⟨w1.heap.size, 2, none⟩ = some (.slice a d.past.length cap) := ⟨(A8.alloc (.cells #[.int .i64 0, .int .i64 0, .slice none 0 0] 25)).cell 0, (A8.alloc (.cells #[.int .i64 0, .int .i64 0, .slice none 0 0] 25)).cell 1, (A8.alloc (.cells #[.int .i64 0, .int .i64 0, .slice none 0 0] 25)).cell 2⟩
      go_cut [10, 11] (fun s t wc => t = .int .i64 (q : Int) ∧ DeskCut w8 P s wc)
      case first =>
        go_region_held3 (fun w' => w'.cell? ⟨w1.heap.size, 0, none⟩ = some (.int .i64 d.b) ∧ w'.cell? ⟨w1.heap.size, 1, none⟩ = some (.int .i64 d.n) ∧ w'.cell? ⟨w1.heap.size, 2, none⟩ = some (.slice a d.past.length cap))
          (first
            | with_reducible exact y0
            | with_reducible exact y0A
            | with_reducible exact y1
            | with_reducible exact y1A
            | with_reducible exact yB
            | with_reducible exact ySa
            | assumption)
          (first
            | (go_at_call 25; (with_reducible refine (HP.out w8.drew (i8.out.below ((Below.refl _ w8).drew)) ((Deeds.front k8.out hHl).below ((Below.refl _ w8).drew))).mono ?_); rintro e v1 ⟨vr, rfl, o', b'⟩; have bb1 : Below w8.heap.size w8 v1 := ((Below.refl _ w8).drew).trans b'; have orr : OwnTail w8.heap.size v1 vr P.past := OwnTail.mono o' (by simp); obtain ⟨ar, lr, rfl, _⟩ := orr.ints; have y1 : v1.cell? ⟨w1.heap.size, 0, none⟩ = some (.int .i64 d.b) ∧ v1.cell? ⟨w1.heap.size, 1, none⟩ = some (.int .i64 d.n) ∧ v1.cell? ⟨w1.heap.size, 2, none⟩ = some (.slice a d.past.length cap) := ⟨(A8.kept bb1).cell 0, (A8.kept bb1).cell 1, (A8.kept bb1).cell 2⟩; have y1A : (v1.alloc (.cells #[.int .i64 0, .int .i64 0, .slice none 0 0] 25)).cell? ⟨w1.heap.size, 0, none⟩ = some (.int .i64 d.b) ∧ (v1.alloc (.cells #[.int .i64 0, .int .i64 0, .slice none 0 0] 25)).cell? ⟨w1.heap.size, 1, none⟩ = some (.int .i64 d.n) ∧ (v1.alloc (.cells #[.int .i64 0, .int .i64 0, .slice none 0 0] 25)).cell? ⟨w1.heap.size, 2, none⟩ = some (.slice a d.past.length cap) := ⟨((A8.kept bb1).alloc (.cells #[.int .i64 0, .int .i64 0, .slice none 0 0] 25)).cell 0, ((A8.kept bb1).alloc (.cells #[.int .i64 0, .int .i64 0, .slice none 0 0] 25)).cell 1, ((A8.kept bb1).alloc (.cells #[.int .i64 0, .int .i64 0, .slice none 0 0] 25)).cell 2⟩; have yB : (v1.alloc (.cells #[.int .i64 P.b, .int .i64 P.n, .slice ar P.past.length lr] 25)).cell? ⟨w1.heap.size, 0, none⟩ = some (.int .i64 d.b) ∧ (v1.alloc (.cells #[.int .i64 P.b, .int .i64 P.n, .slice ar P.past.length lr] 25)).cell? ⟨w1.heap.size, 1, none⟩ = some (.int .i64 d.n) ∧ (v1.alloc (.cells #[.int .i64 P.b, .int .i64 P.n, .slice ar P.past.length lr] 25)).cell? ⟨w1.heap.size, 2, none⟩ = some (.slice a d.past.length cap) := ⟨((A8.kept bb1).alloc (.cells #[.int .i64 P.b, .int .i64 P.n, .slice ar P.past.length lr] 25)).cell 0, ((A8.kept bb1).alloc (.cells #[.int .i64 P.b, .int .i64 P.n, .slice ar P.past.length lr] 25)).cell 1, ((A8.kept bb1).alloc (.cells #[.int .i64 P.b, .int .i64 P.n, .slice ar P.past.length lr] 25)).cell 2⟩; (first | (have q0 := na.cell 0; have q1 := na.cell 1; have q2 := na.cell 2; have f0 := na.frozen 0; have f1 := na.frozen 1; have f2 := na.frozen 2; have ySa : (((v1.setCell ⟨w8.heap.size, 0, none⟩ (.int .i64 P.b)).setCell ⟨w8.heap.size, 1, none⟩ (.int .i64 P.n)).setCell ⟨w8.heap.size, 2, none⟩ (.slice ar P.past.length lr)).cell? ⟨w1.heap.size, 0, none⟩ = some (.int .i64 d.b) ∧ (((v1.setCell ⟨w8.heap.size, 0, none⟩ (.int .i64 P.b)).setCell ⟨w8.heap.size, 1, none⟩ (.int .i64 P.n)).setCell ⟨w8.heap.size, 2, none⟩ (.slice ar P.past.length lr)).cell? ⟨w1.heap.size, 1, none⟩ = some (.int .i64 d.n) ∧ (((v1.setCell ⟨w8.heap.size, 0, none⟩ (.int .i64 P.b)).setCell ⟨w8.heap.size, 1, none⟩ (.int .i64 P.n)).setCell ⟨w8.heap.size, 2, none⟩ (.slice ar P.past.length lr)).cell? ⟨w1.heap.size, 2, none⟩ = some (.slice a d.past.length cap) := ⟨(SBox.far3 (A8.kept bb1) (Nat.ne_of_lt A8.lt) _ _ _).cell 0, (SBox.far3 (A8.kept bb1) (Nat.ne_of_lt A8.lt) _ _ _).cell 1, (SBox.far3 (A8.kept bb1) (Nat.ne_of_lt A8.lt) _ _ _).cell 2⟩) | skip); clear b')
            | (go_at_call 25; (with_reducible refine (HP.out (w8.alloc (.cells #[.int .i64 0, .int .i64 0, .slice none 0 0] 25)).drew (i8.out.below (((Below.refl _ w8).alloc (Nat.le_refl _) (.cells #[.int .i64 0, .int .i64 0, .slice none 0 0] 25)).drew)) ((Deeds.front k8.out hHl).below (((Below.refl _ w8).alloc (Nat.le_refl _) (.cells #[.int .i64 0, .int .i64 0, .slice none 0 0] 25)).drew))).mono ?_); rintro e v1 ⟨vr, rfl, o', b'⟩; have bb1 : Below w8.heap.size w8 v1 := (((Below.refl _ w8).alloc (Nat.le_refl _) (.cells #[.int .i64 0, .int .i64 0, .slice none 0 0] 25)).drew).trans (b'.mono (by simp)); have orr : OwnTail w8.heap.size v1 vr P.past := OwnTail.mono o' (by simp); obtain ⟨ar, lr, rfl, _⟩ := orr.ints; have y1 : v1.cell? ⟨w1.heap.size, 0, none⟩ = some (.int .i64 d.b) ∧ v1.cell? ⟨w1.heap.size, 1, none⟩ = some (.int .i64 d.n) ∧ v1.cell? ⟨w1.heap.size, 2, none⟩ = some (.slice a d.past.length cap) := ⟨(A8.kept bb1).cell 0, (A8.kept bb1).cell 1, (A8.kept bb1).cell 2⟩; have y1A : (v1.alloc (.cells #[.int .i64 0, .int .i64 0, .slice none 0 0] 25)).cell? ⟨w1.heap.size, 0, none⟩ = some (.int .i64 d.b) ∧ (v1.alloc (.cells #[.int .i64 0, .int .i64 0, .slice none 0 0] 25)).cell? ⟨w1.heap.size, 1, none⟩ = some (.int .i64 d.n) ∧ (v1.alloc (.cells #[.int .i64 0, .int .i64 0, .slice none 0 0] 25)).cell? ⟨w1.heap.size, 2, none⟩ = some (.slice a d.past.length cap) := ⟨((A8.kept bb1).alloc (.cells #[.int .i64 0, .int .i64 0, .slice none 0 0] 25)).cell 0, ((A8.kept bb1).alloc (.cells #[.int .i64 0, .int .i64 0, .slice none 0 0] 25)).cell 1, ((A8.kept bb1).alloc (.cells #[.int .i64 0, .int .i64 0, .slice none 0 0] 25)).cell 2⟩; have na : SBox v1 w8.heap.size 25 #[.int .i64 0, .int .i64 0, .slice none 0 0] := (b'.block w8.heap.size (by simp)).trans (heap_alloc_new w8 _); have yB : (v1.alloc (.cells #[.int .i64 P.b, .int .i64 P.n, .slice ar P.past.length lr] 25)).cell? ⟨w1.heap.size, 0, none⟩ = some (.int .i64 d.b) ∧ (v1.alloc (.cells #[.int .i64 P.b, .int .i64 P.n, .slice ar P.past.length lr] 25)).cell? ⟨w1.heap.size, 1, none⟩ = some (.int .i64 d.n) ∧ (v1.alloc (.cells #[.int .i64 P.b, .int .i64 P.n, .slice ar P.past.length lr] 25)).cell? ⟨w1.heap.size, 2, none⟩ = some (.slice a d.past.length cap) := ⟨((A8.kept bb1).alloc (.cells #[.int .i64 P.b, .int .i64 P.n, .slice ar P.past.length lr] 25)).cell 0, ((A8.kept bb1).alloc (.cells #[.int .i64 P.b, .int .i64 P.n, .slice ar P.past.length lr] 25)).cell 1, ((A8.kept bb1).alloc (.cells #[.int .i64 P.b, .int .i64 P.n, .slice ar P.past.length lr] 25)).cell 2⟩; (first | (have q0 := na.cell 0; have q1 := na.cell 1; have q2 := na.cell 2; have f0 := na.frozen 0; have f1 := na.frozen 1; have f2 := na.frozen 2; have ySa : (((v1.setCell ⟨w8.heap.size, 0, none⟩ (.int .i64 P.b)).setCell ⟨w8.heap.size, 1, none⟩ (.int .i64 P.n)).setCell ⟨w8.heap.size, 2, none⟩ (.slice ar P.past.length lr)).cell? ⟨w1.heap.size, 0, none⟩ = some (.int .i64 d.b) ∧ (((v1.setCell ⟨w8.heap.size, 0, none⟩ (.int .i64 P.b)).setCell ⟨w8.heap.size, 1, none⟩ (.int .i64 P.n)).setCell ⟨w8.heap.size, 2, none⟩ (.slice ar P.past.length lr)).cell? ⟨w1.heap.size, 1, none⟩ = some (.int .i64 d.n) ∧ (((v1.setCell ⟨w8.heap.size, 0, none⟩ (.int .i64 P.b)).setCell ⟨w8.heap.size, 1, none⟩ (.int .i64 P.n)).setCell ⟨w8.heap.size, 2, none⟩ (.slice ar P.past.length lr)).cell? ⟨w1.heap.size, 2, none⟩ = some (.slice a d.past.length cap) := ⟨(SBox.far3 (A8.kept bb1) (Nat.ne_of_lt A8.lt) _ _ _).cell 0, (SBox.far3 (A8.kept bb1) (Nat.ne_of_lt A8.lt) _ _ _).cell 1, (SBox.far3 (A8.kept bb1) (Nat.ne_of_lt A8.lt) _ _ _).cell 2⟩) | skip); clear b'))
        all_goals
          go_wp2_with fail
          go_meet
          first
            | exact ⟨rfl, cut_last bb1 orr⟩
            | exact ⟨rfl, cut_set (Nat.le_refl _) bb1 orr na⟩
      case rest =>
        obtain ⟨rfl, g10, a10, l10, rfl, hg10, P9, o10, b10⟩ := hcut
        obtain ⟨w9, hw⟩ : ∃ u, u = wc := ⟨_, rfl⟩
        subst hw
        have A9 := A8.kept b10
        have X9 := X8.kept b10
        have i9 := Lib.hid (i8.out.below b10)
        have k9 := Lib.hid (k8.out.below b10)
        have j9x := Lib.hid (j8.out.below b10)
        have j9 := Lib.hid o10.ints
        have c9 := c8.trans (b10.mono c8.size)
        clear A8 X8 i8 k8 j8 c8 o10 b10 HP y0 y0A
        go_upto_region 12 with (fail)
        obtain ⟨Q, q2, hQq⟩ : ∃ R r, Pl.runA P (ds.drop H) = (R, r) := ⟨_, _, rfl⟩
        have hqc : q ≤ 40 := by omega
        have hsub : (ds.length : Int) - (H : Int) = ((ds.length - H : Nat) : Int) := by omega
        have hHn : (H : Int) ≤ (ds.length : Int) := by omega
        have hnc : (ds.length : Int) ≤ (lc : Int) := by omega
        rcases HLA.out with ⟨rfl, h0⟩ | ⟨g, rfl⟩
        · have H0 := Lib.hid h0
          clear HLA h0
          have k9b := Lib.hid (show Deeds w9 (.slice none (ds.length - H) (lc - H)) (ds.drop H) from ⟨none, lc - H, by rw [List.length_drop], fun j hj => by rw [List.length_drop] at hj; have := H0.out; omega⟩)
          have HQ := Lib.hid (fun W (h : Ints W (.slice a10 P.past.length l10) P.past) (hl : Deeds W (.slice none (ds.length - H) (lc - H)) (ds.drop H)) => implDeskRun P _ _ (ds.drop H) W h (by omega) hl)
          rw [hQq] at HQ
          have y0 : w9.cell? ⟨g10, 0, none⟩ = some (.int .i64 P.b) ∧ w9.cell? ⟨g10, 1, none⟩ = some (.int .i64 P.n) ∧ w9.cell? ⟨g10, 2, none⟩ = some (.slice a10 P.past.length l10) := ⟨P9.cell 0, P9.cell 1, P9.cell 2⟩
          have y0A : (w9.alloc (.cells #[.int .i64 0, .int .i64 0, .slice none 0 0] 25)).cell? ⟨g10, 0, none⟩ = some (.int .i64 P.b) ∧ (w9.alloc (.cells #[.int .i64 0, .int .i64 0, .slice none 0 0] 25)).cell? ⟨g10, 1, none⟩ = some (.int .i64 P.n) ∧ (w9.alloc (.cells #[.int .i64 0, .int .i64 0, .slice none 0 0] 25)).cell? ⟨g10, 2, none⟩ = some (.slice a10 P.past.length l10) := ⟨(P9.alloc (.cells #[.int .i64 0, .int .i64 0, .slice none 0 0] 25)).cell 0, (P9.alloc (.cells #[.int .i64 0, .int .i64 0, .slice none 0 0] 25)).cell 1, (P9.alloc (.cells #[.int .i64 0, .int .i64 0, .slice none 0 0] 25)).cell 2⟩
          go_cut [12, 13] (fun s t wc => t = .int .i64 (q2 : Int) ∧ DeskCut w9 Q s wc)
          case first =>
            go_region_held3 (fun w' => w'.cell? ⟨g10, 0, none⟩ = some (.int .i64 P.b) ∧ w'.cell? ⟨g10, 1, none⟩ = some (.int .i64 P.n) ∧ w'.cell? ⟨g10, 2, none⟩ = some (.slice a10 P.past.length l10))
              (first
                | with_reducible exact y0
                | with_reducible exact y0A
                | with_reducible exact y1
                | with_reducible exact y1A
                | with_reducible exact yB
                | with_reducible exact ySa
                | assumption)
              (first
                | (go_at_call 25; (with_reducible refine (HQ.out w9.drew (j9.out.below ((Below.refl _ w9).drew)) (k9b.out.below ((Below.refl _ w9).drew))).mono ?_); rintro e v1 ⟨vr, rfl, o', b'⟩; have bb1 : Below w9.heap.size w9 v1 := ((Below.refl _ w9).drew).trans b'; have orr : OwnTail w9.heap.size v1 vr Q.past := OwnTail.mono o' (by simp); obtain ⟨ar, lr, rfl, _⟩ := orr.ints; have y1 : v1.cell? ⟨g10, 0, none⟩ = some (.int .i64 P.b) ∧ v1.cell? ⟨g10, 1, none⟩ = some (.int .i64 P.n) ∧ v1.cell? ⟨g10, 2, none⟩ = some (.slice a10 P.past.length l10) := ⟨(P9.kept bb1).cell 0, (P9.kept bb1).cell 1, (P9.kept bb1).cell 2⟩; have y1A : (v1.alloc (.cells #[.int .i64 0, .int .i64 0, .slice none 0 0] 25)).cell? ⟨g10, 0, none⟩ = some (.int .i64 P.b) ∧ (v1.alloc (.cells #[.int .i64 0, .int .i64 0, .slice none 0 0] 25)).cell? ⟨g10, 1, none⟩ = some (.int .i64 P.n) ∧ (v1.alloc (.cells #[.int .i64 0, .int .i64 0, .slice none 0 0] 25)).cell? ⟨g10, 2, none⟩ = some (.slice a10 P.past.length l10) := ⟨((P9.kept bb1).alloc (.cells #[.int .i64 0, .int .i64 0, .slice none 0 0] 25)).cell 0, ((P9.kept bb1).alloc (.cells #[.int .i64 0, .int .i64 0, .slice none 0 0] 25)).cell 1, ((P9.kept bb1).alloc (.cells #[.int .i64 0, .int .i64 0, .slice none 0 0] 25)).cell 2⟩; have yB : (v1.alloc (.cells #[.int .i64 Q.b, .int .i64 Q.n, .slice ar Q.past.length lr] 25)).cell? ⟨g10, 0, none⟩ = some (.int .i64 P.b) ∧ (v1.alloc (.cells #[.int .i64 Q.b, .int .i64 Q.n, .slice ar Q.past.length lr] 25)).cell? ⟨g10, 1, none⟩ = some (.int .i64 P.n) ∧ (v1.alloc (.cells #[.int .i64 Q.b, .int .i64 Q.n, .slice ar Q.past.length lr] 25)).cell? ⟨g10, 2, none⟩ = some (.slice a10 P.past.length l10) := ⟨((P9.kept bb1).alloc (.cells #[.int .i64 Q.b, .int .i64 Q.n, .slice ar Q.past.length lr] 25)).cell 0, ((P9.kept bb1).alloc (.cells #[.int .i64 Q.b, .int .i64 Q.n, .slice ar Q.past.length lr] 25)).cell 1, ((P9.kept bb1).alloc (.cells #[.int .i64 Q.b, .int .i64 Q.n, .slice ar Q.past.length lr] 25)).cell 2⟩; (first | (have q0 := na.cell 0; have q1 := na.cell 1; have q2 := na.cell 2; have f0 := na.frozen 0; have f1 := na.frozen 1; have f2 := na.frozen 2; have ySa : (((v1.setCell ⟨w9.heap.size, 0, none⟩ (.int .i64 Q.b)).setCell ⟨w9.heap.size, 1, none⟩ (.int .i64 Q.n)).setCell ⟨w9.heap.size, 2, none⟩ (.slice ar Q.past.length lr)).cell? ⟨g10, 0, none⟩ = some (.int .i64 P.b) ∧ (((v1.setCell ⟨w9.heap.size, 0, none⟩ (.int .i64 Q.b)).setCell ⟨w9.heap.size, 1, none⟩ (.int .i64 Q.n)).setCell ⟨w9.heap.size, 2, none⟩ (.slice ar Q.past.length lr)).cell? ⟨g10, 1, none⟩ = some (.int .i64 P.n) ∧ (((v1.setCell ⟨w9.heap.size, 0, none⟩ (.int .i64 Q.b)).setCell ⟨w9.heap.size, 1, none⟩ (.int .i64 Q.n)).setCell ⟨w9.heap.size, 2, none⟩ (.slice ar Q.past.length lr)).cell? ⟨g10, 2, none⟩ = some (.slice a10 P.past.length l10) := ⟨(SBox.far3 (P9.kept bb1) (Nat.ne_of_lt P9.lt) _ _ _).cell 0, (SBox.far3 (P9.kept bb1) (Nat.ne_of_lt P9.lt) _ _ _).cell 1, (SBox.far3 (P9.kept bb1) (Nat.ne_of_lt P9.lt) _ _ _).cell 2⟩) | skip); clear b')
                | (go_at_call 25; (with_reducible refine (HQ.out (w9.alloc (.cells #[.int .i64 0, .int .i64 0, .slice none 0 0] 25)).drew (j9.out.below (((Below.refl _ w9).alloc (Nat.le_refl _) (.cells #[.int .i64 0, .int .i64 0, .slice none 0 0] 25)).drew)) (k9b.out.below (((Below.refl _ w9).alloc (Nat.le_refl _) (.cells #[.int .i64 0, .int .i64 0, .slice none 0 0] 25)).drew))).mono ?_); rintro e v1 ⟨vr, rfl, o', b'⟩; have bb1 : Below w9.heap.size w9 v1 := (((Below.refl _ w9).alloc (Nat.le_refl _) (.cells #[.int .i64 0, .int .i64 0, .slice none 0 0] 25)).drew).trans (b'.mono (by simp)); have orr : OwnTail w9.heap.size v1 vr Q.past := OwnTail.mono o' (by simp); obtain ⟨ar, lr, rfl, _⟩ := orr.ints; have y1 : v1.cell? ⟨g10, 0, none⟩ = some (.int .i64 P.b) ∧ v1.cell? ⟨g10, 1, none⟩ = some (.int .i64 P.n) ∧ v1.cell? ⟨g10, 2, none⟩ = some (.slice a10 P.past.length l10) := ⟨(P9.kept bb1).cell 0, (P9.kept bb1).cell 1, (P9.kept bb1).cell 2⟩; have y1A : (v1.alloc (.cells #[.int .i64 0, .int .i64 0, .slice none 0 0] 25)).cell? ⟨g10, 0, none⟩ = some (.int .i64 P.b) ∧ (v1.alloc (.cells #[.int .i64 0, .int .i64 0, .slice none 0 0] 25)).cell? ⟨g10, 1, none⟩ = some (.int .i64 P.n) ∧ (v1.alloc (.cells #[.int .i64 0, .int .i64 0, .slice none 0 0] 25)).cell? ⟨g10, 2, none⟩ = some (.slice a10 P.past.length l10) := ⟨((P9.kept bb1).alloc (.cells #[.int .i64 0, .int .i64 0, .slice none 0 0] 25)).cell 0, ((P9.kept bb1).alloc (.cells #[.int .i64 0, .int .i64 0, .slice none 0 0] 25)).cell 1, ((P9.kept bb1).alloc (.cells #[.int .i64 0, .int .i64 0, .slice none 0 0] 25)).cell 2⟩; have na : SBox v1 w9.heap.size 25 #[.int .i64 0, .int .i64 0, .slice none 0 0] := (b'.block w9.heap.size (by simp)).trans (heap_alloc_new w9 _); have yB : (v1.alloc (.cells #[.int .i64 Q.b, .int .i64 Q.n, .slice ar Q.past.length lr] 25)).cell? ⟨g10, 0, none⟩ = some (.int .i64 P.b) ∧ (v1.alloc (.cells #[.int .i64 Q.b, .int .i64 Q.n, .slice ar Q.past.length lr] 25)).cell? ⟨g10, 1, none⟩ = some (.int .i64 P.n) ∧ (v1.alloc (.cells #[.int .i64 Q.b, .int .i64 Q.n, .slice ar Q.past.length lr] 25)).cell? ⟨g10, 2, none⟩ = some (.slice a10 P.past.length l10) := ⟨((P9.kept bb1).alloc (.cells #[.int .i64 Q.b, .int .i64 Q.n, .slice ar Q.past.length lr] 25)).cell 0, ((P9.kept bb1).alloc (.cells #[.int .i64 Q.b, .int .i64 Q.n, .slice ar Q.past.length lr] 25)).cell 1, ((P9.kept bb1).alloc (.cells #[.int .i64 Q.b, .int .i64 Q.n, .slice ar Q.past.length lr] 25)).cell 2⟩; (first | (have q0 := na.cell 0; have q1 := na.cell 1; have q2 := na.cell 2; have f0 := na.frozen 0; have f1 := na.frozen 1; have f2 := na.frozen 2; have ySa : (((v1.setCell ⟨w9.heap.size, 0, none⟩ (.int .i64 Q.b)).setCell ⟨w9.heap.size, 1, none⟩ (.int .i64 Q.n)).setCell ⟨w9.heap.size, 2, none⟩ (.slice ar Q.past.length lr)).cell? ⟨g10, 0, none⟩ = some (.int .i64 P.b) ∧ (((v1.setCell ⟨w9.heap.size, 0, none⟩ (.int .i64 Q.b)).setCell ⟨w9.heap.size, 1, none⟩ (.int .i64 Q.n)).setCell ⟨w9.heap.size, 2, none⟩ (.slice ar Q.past.length lr)).cell? ⟨g10, 1, none⟩ = some (.int .i64 P.n) ∧ (((v1.setCell ⟨w9.heap.size, 0, none⟩ (.int .i64 Q.b)).setCell ⟨w9.heap.size, 1, none⟩ (.int .i64 Q.n)).setCell ⟨w9.heap.size, 2, none⟩ (.slice ar Q.past.length lr)).cell? ⟨g10, 2, none⟩ = some (.slice a10 P.past.length l10) := ⟨(SBox.far3 (P9.kept bb1) (Nat.ne_of_lt P9.lt) _ _ _).cell 0, (SBox.far3 (P9.kept bb1) (Nat.ne_of_lt P9.lt) _ _ _).cell 1, (SBox.far3 (P9.kept bb1) (Nat.ne_of_lt P9.lt) _ _ _).cell 2⟩) | skip); clear b'))
            all_goals
              go_wp2_with fail
              go_meet
              first
                | exact ⟨rfl, cut_last bb1 orr⟩
                | exact ⟨rfl, cut_set (Nat.le_refl _) bb1 orr na⟩
          case rest =>
            obtain ⟨rfl, g12, a12, l12, rfl, hg12, Q12, o12, b12⟩ := hcut
            obtain ⟨w12, hw⟩ : ∃ u, u = wc := ⟨_, rfl⟩
            subst hw
            have X12 := X9.kept b12
            have j12 := Lib.hid (j9x.out.below b12)
            have q12 := Lib.hid o12.ints
            have c12 := c9.trans (b12.mono c9.size)
            have hY2 := hY.out
            rw [hQq] at hY2
            obtain ⟨hDB, hQD, hN, _⟩ := hY2
            simp only at hQD hN
            obtain rfl : Q = D := hQD
            have HOK := Lib.hid (fun pv W (h : Ints W pv Q.past) => implDeskOk Q pv W h (by omega))
            rw [hDB] at HOK
            have hqq := Pl.runA_count P (ds.drop H)
            rw [hQq] at hqq
            simp only [List.length_drop] at hqq
            have hw : IntKind.i64.wrap ((q : Int) + (q2 : Int)) = (N : Int) := by rw [IntWalk.i64_in _ (by omega)]; omega
            clear X9 P9 A9 k9 j9 j9x i9 c9 o12 b12 hDB hqq hN hY hQq k9b HQ y0 y0A
            go_wp2_with (first | (refine desk_load rfl _ rfl rfl X12 ?_))
            refine (HOK.out _ _ j12.out).mono ?_
            rintro e w13 ⟨rfl, b13⟩
            have X13 := X12.kept b13
            have Q13 := Q12.kept b13
            have j13 := Lib.hid (j12.out.below b13)
            have q13 := Lib.hid (q12.out.below b13)
            have c13 := c12.trans (b13.mono c12.size)
            have x0 := X13.cell 0
            have x1 := X13.cell 1
            have x2 := X13.cell 2
            have z0 := Q13.cell 0
            have z1 := Q13.cell 1
            have z2 := Q13.cell 2
            clear X12 Q12 j12 q12 c12 b13 X13 Q13
            go_wp2_with fail
            refine (sameDesk Q Q _ _ _ q13.out j13.out (by omega)).mono ?_
            rintro e w14 ⟨rfl, b14⟩
            rw [HE.out]
            have c14 := c13.trans (b14.mono c13.size)
            clear c13 b14 j13 q13
            go_wp2
            go_ret
            exact ⟨rfl, c14⟩
        · clear HLA
          by_cases hlcH : lc = H
          · obtain rfl : H = lc := hlcH.symm
            have k9b := Lib.hid (show Deeds w9 (.slice (some ⟨g, 0, none⟩) 0 0) (ds.drop H) from by have h9 := Deeds.back k9.out hHl (cap' := 0); have h0 : 0 + H * 2 = 0 := (by omega); rw [h0, show ds.length - H = 0 by omega] at h9; exact h9)
            have HQ := Lib.hid (fun W (h : Ints W (.slice a10 P.past.length l10) P.past) (hl : Deeds W (.slice (some ⟨g, 0, none⟩) 0 0) (ds.drop H)) => implDeskRun P _ _ (ds.drop H) W h (by omega) hl)
            rw [hQq] at HQ
            have y0 : w9.cell? ⟨g10, 0, none⟩ = some (.int .i64 P.b) ∧ w9.cell? ⟨g10, 1, none⟩ = some (.int .i64 P.n) ∧ w9.cell? ⟨g10, 2, none⟩ = some (.slice a10 P.past.length l10) := ⟨P9.cell 0, P9.cell 1, P9.cell 2⟩
            have y0A : (w9.alloc (.cells #[.int .i64 0, .int .i64 0, .slice none 0 0] 25)).cell? ⟨g10, 0, none⟩ = some (.int .i64 P.b) ∧ (w9.alloc (.cells #[.int .i64 0, .int .i64 0, .slice none 0 0] 25)).cell? ⟨g10, 1, none⟩ = some (.int .i64 P.n) ∧ (w9.alloc (.cells #[.int .i64 0, .int .i64 0, .slice none 0 0] 25)).cell? ⟨g10, 2, none⟩ = some (.slice a10 P.past.length l10) := ⟨(P9.alloc (.cells #[.int .i64 0, .int .i64 0, .slice none 0 0] 25)).cell 0, (P9.alloc (.cells #[.int .i64 0, .int .i64 0, .slice none 0 0] 25)).cell 1, (P9.alloc (.cells #[.int .i64 0, .int .i64 0, .slice none 0 0] 25)).cell 2⟩
            go_cut [12, 13] (fun s t wc => t = .int .i64 (q2 : Int) ∧ DeskCut w9 Q s wc)
            case first =>
              go_region_held3 (fun w' => w'.cell? ⟨g10, 0, none⟩ = some (.int .i64 P.b) ∧ w'.cell? ⟨g10, 1, none⟩ = some (.int .i64 P.n) ∧ w'.cell? ⟨g10, 2, none⟩ = some (.slice a10 P.past.length l10))
                (first
                  | with_reducible exact y0
                  | with_reducible exact y0A
                  | with_reducible exact y1
                  | with_reducible exact y1A
                  | with_reducible exact yB
                  | with_reducible exact ySa
                  | assumption)
                (first
                  | (go_at_call 25; (with_reducible refine (HQ.out w9.drew (j9.out.below ((Below.refl _ w9).drew)) (k9b.out.below ((Below.refl _ w9).drew))).mono ?_); rintro e v1 ⟨vr, rfl, o', b'⟩; have bb1 : Below w9.heap.size w9 v1 := ((Below.refl _ w9).drew).trans b'; have orr : OwnTail w9.heap.size v1 vr Q.past := OwnTail.mono o' (by simp); obtain ⟨ar, lr, rfl, _⟩ := orr.ints; have y1 : v1.cell? ⟨g10, 0, none⟩ = some (.int .i64 P.b) ∧ v1.cell? ⟨g10, 1, none⟩ = some (.int .i64 P.n) ∧ v1.cell? ⟨g10, 2, none⟩ = some (.slice a10 P.past.length l10) := ⟨(P9.kept bb1).cell 0, (P9.kept bb1).cell 1, (P9.kept bb1).cell 2⟩; have y1A : (v1.alloc (.cells #[.int .i64 0, .int .i64 0, .slice none 0 0] 25)).cell? ⟨g10, 0, none⟩ = some (.int .i64 P.b) ∧ (v1.alloc (.cells #[.int .i64 0, .int .i64 0, .slice none 0 0] 25)).cell? ⟨g10, 1, none⟩ = some (.int .i64 P.n) ∧ (v1.alloc (.cells #[.int .i64 0, .int .i64 0, .slice none 0 0] 25)).cell? ⟨g10, 2, none⟩ = some (.slice a10 P.past.length l10) := ⟨((P9.kept bb1).alloc (.cells #[.int .i64 0, .int .i64 0, .slice none 0 0] 25)).cell 0, ((P9.kept bb1).alloc (.cells #[.int .i64 0, .int .i64 0, .slice none 0 0] 25)).cell 1, ((P9.kept bb1).alloc (.cells #[.int .i64 0, .int .i64 0, .slice none 0 0] 25)).cell 2⟩; have yB : (v1.alloc (.cells #[.int .i64 Q.b, .int .i64 Q.n, .slice ar Q.past.length lr] 25)).cell? ⟨g10, 0, none⟩ = some (.int .i64 P.b) ∧ (v1.alloc (.cells #[.int .i64 Q.b, .int .i64 Q.n, .slice ar Q.past.length lr] 25)).cell? ⟨g10, 1, none⟩ = some (.int .i64 P.n) ∧ (v1.alloc (.cells #[.int .i64 Q.b, .int .i64 Q.n, .slice ar Q.past.length lr] 25)).cell? ⟨g10, 2, none⟩ = some (.slice a10 P.past.length l10) := ⟨((P9.kept bb1).alloc (.cells #[.int .i64 Q.b, .int .i64 Q.n, .slice ar Q.past.length lr] 25)).cell 0, ((P9.kept bb1).alloc (.cells #[.int .i64 Q.b, .int .i64 Q.n, .slice ar Q.past.length lr] 25)).cell 1, ((P9.kept bb1).alloc (.cells #[.int .i64 Q.b, .int .i64 Q.n, .slice ar Q.past.length lr] 25)).cell 2⟩; (first | (have q0 := na.cell 0; have q1 := na.cell 1; have q2 := na.cell 2; have f0 := na.frozen 0; have f1 := na.frozen 1; have f2 := na.frozen 2; have ySa : (((v1.setCell ⟨w9.heap.size, 0, none⟩ (.int .i64 Q.b)).setCell ⟨w9.heap.size, 1, none⟩ (.int .i64 Q.n)).setCell ⟨w9.heap.size, 2, none⟩ (.slice ar Q.past.length lr)).cell? ⟨g10, 0, none⟩ = some (.int .i64 P.b) ∧ (((v1.setCell ⟨w9.heap.size, 0, none⟩ (.int .i64 Q.b)).setCell ⟨w9.heap.size, 1, none⟩ (.int .i64 Q.n)).setCell ⟨w9.heap.size, 2, none⟩ (.slice ar Q.past.length lr)).cell? ⟨g10, 1, none⟩ = some (.int .i64 P.n) ∧ (((v1.setCell ⟨w9.heap.size, 0, none⟩ (.int .i64 Q.b)).setCell ⟨w9.heap.size, 1, none⟩ (.int .i64 Q.n)).setCell ⟨w9.heap.size, 2, none⟩ (.slice ar Q.past.length lr)).cell? ⟨g10, 2, none⟩ = some (.slice a10 P.past.length l10) := ⟨(SBox.far3 (P9.kept bb1) (Nat.ne_of_lt P9.lt) _ _ _).cell 0, (SBox.far3 (P9.kept bb1) (Nat.ne_of_lt P9.lt) _ _ _).cell 1, (SBox.far3 (P9.kept bb1) (Nat.ne_of_lt P9.lt) _ _ _).cell 2⟩) | skip); clear b')
                  | (go_at_call 25; (with_reducible refine (HQ.out (w9.alloc (.cells #[.int .i64 0, .int .i64 0, .slice none 0 0] 25)).drew (j9.out.below (((Below.refl _ w9).alloc (Nat.le_refl _) (.cells #[.int .i64 0, .int .i64 0, .slice none 0 0] 25)).drew)) (k9b.out.below (((Below.refl _ w9).alloc (Nat.le_refl _) (.cells #[.int .i64 0, .int .i64 0, .slice none 0 0] 25)).drew))).mono ?_); rintro e v1 ⟨vr, rfl, o', b'⟩; have bb1 : Below w9.heap.size w9 v1 := (((Below.refl _ w9).alloc (Nat.le_refl _) (.cells #[.int .i64 0, .int .i64 0, .slice none 0 0] 25)).drew).trans (b'.mono (by simp)); have orr : OwnTail w9.heap.size v1 vr Q.past := OwnTail.mono o' (by simp); obtain ⟨ar, lr, rfl, _⟩ := orr.ints; have y1 : v1.cell? ⟨g10, 0, none⟩ = some (.int .i64 P.b) ∧ v1.cell? ⟨g10, 1, none⟩ = some (.int .i64 P.n) ∧ v1.cell? ⟨g10, 2, none⟩ = some (.slice a10 P.past.length l10) := ⟨(P9.kept bb1).cell 0, (P9.kept bb1).cell 1, (P9.kept bb1).cell 2⟩; have y1A : (v1.alloc (.cells #[.int .i64 0, .int .i64 0, .slice none 0 0] 25)).cell? ⟨g10, 0, none⟩ = some (.int .i64 P.b) ∧ (v1.alloc (.cells #[.int .i64 0, .int .i64 0, .slice none 0 0] 25)).cell? ⟨g10, 1, none⟩ = some (.int .i64 P.n) ∧ (v1.alloc (.cells #[.int .i64 0, .int .i64 0, .slice none 0 0] 25)).cell? ⟨g10, 2, none⟩ = some (.slice a10 P.past.length l10) := ⟨((P9.kept bb1).alloc (.cells #[.int .i64 0, .int .i64 0, .slice none 0 0] 25)).cell 0, ((P9.kept bb1).alloc (.cells #[.int .i64 0, .int .i64 0, .slice none 0 0] 25)).cell 1, ((P9.kept bb1).alloc (.cells #[.int .i64 0, .int .i64 0, .slice none 0 0] 25)).cell 2⟩; have na : SBox v1 w9.heap.size 25 #[.int .i64 0, .int .i64 0, .slice none 0 0] := (b'.block w9.heap.size (by simp)).trans (heap_alloc_new w9 _); have yB : (v1.alloc (.cells #[.int .i64 Q.b, .int .i64 Q.n, .slice ar Q.past.length lr] 25)).cell? ⟨g10, 0, none⟩ = some (.int .i64 P.b) ∧ (v1.alloc (.cells #[.int .i64 Q.b, .int .i64 Q.n, .slice ar Q.past.length lr] 25)).cell? ⟨g10, 1, none⟩ = some (.int .i64 P.n) ∧ (v1.alloc (.cells #[.int .i64 Q.b, .int .i64 Q.n, .slice ar Q.past.length lr] 25)).cell? ⟨g10, 2, none⟩ = some (.slice a10 P.past.length l10) := ⟨((P9.kept bb1).alloc (.cells #[.int .i64 Q.b, .int .i64 Q.n, .slice ar Q.past.length lr] 25)).cell 0, ((P9.kept bb1).alloc (.cells #[.int .i64 Q.b, .int .i64 Q.n, .slice ar Q.past.length lr] 25)).cell 1, ((P9.kept bb1).alloc (.cells #[.int .i64 Q.b, .int .i64 Q.n, .slice ar Q.past.length lr] 25)).cell 2⟩; (first | (have q0 := na.cell 0; have q1 := na.cell 1; have q2 := na.cell 2; have f0 := na.frozen 0; have f1 := na.frozen 1; have f2 := na.frozen 2; have ySa : (((v1.setCell ⟨w9.heap.size, 0, none⟩ (.int .i64 Q.b)).setCell ⟨w9.heap.size, 1, none⟩ (.int .i64 Q.n)).setCell ⟨w9.heap.size, 2, none⟩ (.slice ar Q.past.length lr)).cell? ⟨g10, 0, none⟩ = some (.int .i64 P.b) ∧ (((v1.setCell ⟨w9.heap.size, 0, none⟩ (.int .i64 Q.b)).setCell ⟨w9.heap.size, 1, none⟩ (.int .i64 Q.n)).setCell ⟨w9.heap.size, 2, none⟩ (.slice ar Q.past.length lr)).cell? ⟨g10, 1, none⟩ = some (.int .i64 P.n) ∧ (((v1.setCell ⟨w9.heap.size, 0, none⟩ (.int .i64 Q.b)).setCell ⟨w9.heap.size, 1, none⟩ (.int .i64 Q.n)).setCell ⟨w9.heap.size, 2, none⟩ (.slice ar Q.past.length lr)).cell? ⟨g10, 2, none⟩ = some (.slice a10 P.past.length l10) := ⟨(SBox.far3 (P9.kept bb1) (Nat.ne_of_lt P9.lt) _ _ _).cell 0, (SBox.far3 (P9.kept bb1) (Nat.ne_of_lt P9.lt) _ _ _).cell 1, (SBox.far3 (P9.kept bb1) (Nat.ne_of_lt P9.lt) _ _ _).cell 2⟩) | skip); clear b'))
              all_goals
                go_wp2_with fail
                go_meet
                first
                  | exact ⟨rfl, cut_last bb1 orr⟩
                  | exact ⟨rfl, cut_set (Nat.le_refl _) bb1 orr na⟩
            case rest =>
              obtain ⟨rfl, g12, a12, l12, rfl, hg12, Q12, o12, b12⟩ := hcut
              obtain ⟨w12, hw⟩ : ∃ u, u = wc := ⟨_, rfl⟩
              subst hw
              have X12 := X9.kept b12
              have j12 := Lib.hid (j9x.out.below b12)
              have q12 := Lib.hid o12.ints
              have c12 := c9.trans (b12.mono c9.size)
              have hY2 := hY.out
              rw [hQq] at hY2
              obtain ⟨hDB, hQD, hN, _⟩ := hY2
              simp only at hQD hN
              obtain rfl : Q = D := hQD
              have HOK := Lib.hid (fun pv W (h : Ints W pv Q.past) => implDeskOk Q pv W h (by omega))
              rw [hDB] at HOK
              have hqq := Pl.runA_count P (ds.drop H)
              rw [hQq] at hqq
              simp only [List.length_drop] at hqq
              have hw : IntKind.i64.wrap ((q : Int) + (q2 : Int)) = (N : Int) := by rw [IntWalk.i64_in _ (by omega)]; omega
              clear X9 P9 A9 k9 j9 j9x i9 c9 o12 b12 hDB hqq hN hY hQq k9b HQ y0 y0A
              go_wp2_with (first | (refine desk_load rfl _ rfl rfl X12 ?_))
              refine (HOK.out _ _ j12.out).mono ?_
              rintro e w13 ⟨rfl, b13⟩
              have X13 := X12.kept b13
              have Q13 := Q12.kept b13
              have j13 := Lib.hid (j12.out.below b13)
              have q13 := Lib.hid (q12.out.below b13)
              have c13 := c12.trans (b13.mono c12.size)
              have x0 := X13.cell 0
              have x1 := X13.cell 1
              have x2 := X13.cell 2
              have z0 := Q13.cell 0
              have z1 := Q13.cell 1
              have z2 := Q13.cell 2
              clear X12 Q12 j12 q12 c12 b13 X13 Q13
              go_wp2_with fail
              refine (sameDesk Q Q _ _ _ q13.out j13.out (by omega)).mono ?_
              rintro e w14 ⟨rfl, b14⟩
              rw [HE.out]
              have c14 := c13.trans (b14.mono c13.size)
              clear c13 b14 j13 q13
              go_wp2
              go_ret
              exact ⟨rfl, c14⟩
          · skip
            have k9b := Lib.hid (show Deeds w9 (.slice (some ⟨g, H * 2, none⟩) (ds.length - H) (lc - H)) (ds.drop H) from by have h9 := Deeds.back k9.out hHl (cap' := lc - H); rw [Nat.zero_add] at h9; exact h9)
            have HQ := Lib.hid (fun W (h : Ints W (.slice a10 P.past.length l10) P.past) (hl : Deeds W (.slice (some ⟨g, H * 2, none⟩) (ds.length - H) (lc - H)) (ds.drop H)) => implDeskRun P _ _ (ds.drop H) W h (by omega) hl)
            rw [hQq] at HQ
            have y0 : w9.cell? ⟨g10, 0, none⟩ = some (.int .i64 P.b) ∧ w9.cell? ⟨g10, 1, none⟩ = some (.int .i64 P.n) ∧ w9.cell? ⟨g10, 2, none⟩ = some (.slice a10 P.past.length l10) := ⟨P9.cell 0, P9.cell 1, P9.cell 2⟩
            have y0A : (w9.alloc (.cells #[.int .i64 0, .int .i64 0, .slice none 0 0] 25)).cell? ⟨g10, 0, none⟩ = some (.int .i64 P.b) ∧ (w9.alloc (.cells #[.int .i64 0, .int .i64 0, .slice none 0 0] 25)).cell? ⟨g10, 1, none⟩ = some (.int .i64 P.n) ∧ (w9.alloc (.cells #[.int .i64 0, .int .i64 0, .slice none 0 0] 25)).cell? ⟨g10, 2, none⟩ = some (.slice a10 P.past.length l10) := ⟨(P9.alloc (.cells #[.int .i64 0, .int .i64 0, .slice none 0 0] 25)).cell 0, (P9.alloc (.cells #[.int .i64 0, .int .i64 0, .slice none 0 0] 25)).cell 1, (P9.alloc (.cells #[.int .i64 0, .int .i64 0, .slice none 0 0] 25)).cell 2⟩
            go_cut [12, 13] (fun s t wc => t = .int .i64 (q2 : Int) ∧ DeskCut w9 Q s wc)
            case first =>
              go_region_held3 (fun w' => w'.cell? ⟨g10, 0, none⟩ = some (.int .i64 P.b) ∧ w'.cell? ⟨g10, 1, none⟩ = some (.int .i64 P.n) ∧ w'.cell? ⟨g10, 2, none⟩ = some (.slice a10 P.past.length l10))
                (first
                  | with_reducible exact y0
                  | with_reducible exact y0A
                  | with_reducible exact y1
                  | with_reducible exact y1A
                  | with_reducible exact yB
                  | with_reducible exact ySa
                  | assumption)
                (first
                  | (go_at_call 25; (with_reducible refine (HQ.out w9.drew (j9.out.below ((Below.refl _ w9).drew)) (k9b.out.below ((Below.refl _ w9).drew))).mono ?_); rintro e v1 ⟨vr, rfl, o', b'⟩; have bb1 : Below w9.heap.size w9 v1 := ((Below.refl _ w9).drew).trans b'; have orr : OwnTail w9.heap.size v1 vr Q.past := OwnTail.mono o' (by simp); obtain ⟨ar, lr, rfl, _⟩ := orr.ints; have y1 : v1.cell? ⟨g10, 0, none⟩ = some (.int .i64 P.b) ∧ v1.cell? ⟨g10, 1, none⟩ = some (.int .i64 P.n) ∧ v1.cell? ⟨g10, 2, none⟩ = some (.slice a10 P.past.length l10) := ⟨(P9.kept bb1).cell 0, (P9.kept bb1).cell 1, (P9.kept bb1).cell 2⟩; have y1A : (v1.alloc (.cells #[.int .i64 0, .int .i64 0, .slice none 0 0] 25)).cell? ⟨g10, 0, none⟩ = some (.int .i64 P.b) ∧ (v1.alloc (.cells #[.int .i64 0, .int .i64 0, .slice none 0 0] 25)).cell? ⟨g10, 1, none⟩ = some (.int .i64 P.n) ∧ (v1.alloc (.cells #[.int .i64 0, .int .i64 0, .slice none 0 0] 25)).cell? ⟨g10, 2, none⟩ = some (.slice a10 P.past.length l10) := ⟨((P9.kept bb1).alloc (.cells #[.int .i64 0, .int .i64 0, .slice none 0 0] 25)).cell 0, ((P9.kept bb1).alloc (.cells #[.int .i64 0, .int .i64 0, .slice none 0 0] 25)).cell 1, ((P9.kept bb1).alloc (.cells #[.int .i64 0, .int .i64 0, .slice none 0 0] 25)).cell 2⟩; have yB : (v1.alloc (.cells #[.int .i64 Q.b, .int .i64 Q.n, .slice ar Q.past.length lr] 25)).cell? ⟨g10, 0, none⟩ = some (.int .i64 P.b) ∧ (v1.alloc (.cells #[.int .i64 Q.b, .int .i64 Q.n, .slice ar Q.past.length lr] 25)).cell? ⟨g10, 1, none⟩ = some (.int .i64 P.n) ∧ (v1.alloc (.cells #[.int .i64 Q.b, .int .i64 Q.n, .slice ar Q.past.length lr] 25)).cell? ⟨g10, 2, none⟩ = some (.slice a10 P.past.length l10) := ⟨((P9.kept bb1).alloc (.cells #[.int .i64 Q.b, .int .i64 Q.n, .slice ar Q.past.length lr] 25)).cell 0, ((P9.kept bb1).alloc (.cells #[.int .i64 Q.b, .int .i64 Q.n, .slice ar Q.past.length lr] 25)).cell 1, ((P9.kept bb1).alloc (.cells #[.int .i64 Q.b, .int .i64 Q.n, .slice ar Q.past.length lr] 25)).cell 2⟩; (first | (have q0 := na.cell 0; have q1 := na.cell 1; have q2 := na.cell 2; have f0 := na.frozen 0; have f1 := na.frozen 1; have f2 := na.frozen 2; have ySa : (((v1.setCell ⟨w9.heap.size, 0, none⟩ (.int .i64 Q.b)).setCell ⟨w9.heap.size, 1, none⟩ (.int .i64 Q.n)).setCell ⟨w9.heap.size, 2, none⟩ (.slice ar Q.past.length lr)).cell? ⟨g10, 0, none⟩ = some (.int .i64 P.b) ∧ (((v1.setCell ⟨w9.heap.size, 0, none⟩ (.int .i64 Q.b)).setCell ⟨w9.heap.size, 1, none⟩ (.int .i64 Q.n)).setCell ⟨w9.heap.size, 2, none⟩ (.slice ar Q.past.length lr)).cell? ⟨g10, 1, none⟩ = some (.int .i64 P.n) ∧ (((v1.setCell ⟨w9.heap.size, 0, none⟩ (.int .i64 Q.b)).setCell ⟨w9.heap.size, 1, none⟩ (.int .i64 Q.n)).setCell ⟨w9.heap.size, 2, none⟩ (.slice ar Q.past.length lr)).cell? ⟨g10, 2, none⟩ = some (.slice a10 P.past.length l10) := ⟨(SBox.far3 (P9.kept bb1) (Nat.ne_of_lt P9.lt) _ _ _).cell 0, (SBox.far3 (P9.kept bb1) (Nat.ne_of_lt P9.lt) _ _ _).cell 1, (SBox.far3 (P9.kept bb1) (Nat.ne_of_lt P9.lt) _ _ _).cell 2⟩) | skip); clear b')
                  | (go_at_call 25; (with_reducible refine (HQ.out (w9.alloc (.cells #[.int .i64 0, .int .i64 0, .slice none 0 0] 25)).drew (j9.out.below (((Below.refl _ w9).alloc (Nat.le_refl _) (.cells #[.int .i64 0, .int .i64 0, .slice none 0 0] 25)).drew)) (k9b.out.below (((Below.refl _ w9).alloc (Nat.le_refl _) (.cells #[.int .i64 0, .int .i64 0, .slice none 0 0] 25)).drew))).mono ?_); rintro e v1 ⟨vr, rfl, o', b'⟩; have bb1 : Below w9.heap.size w9 v1 := (((Below.refl _ w9).alloc (Nat.le_refl _) (.cells #[.int .i64 0, .int .i64 0, .slice none 0 0] 25)).drew).trans (b'.mono (by simp)); have orr : OwnTail w9.heap.size v1 vr Q.past := OwnTail.mono o' (by simp); obtain ⟨ar, lr, rfl, _⟩ := orr.ints; have y1 : v1.cell? ⟨g10, 0, none⟩ = some (.int .i64 P.b) ∧ v1.cell? ⟨g10, 1, none⟩ = some (.int .i64 P.n) ∧ v1.cell? ⟨g10, 2, none⟩ = some (.slice a10 P.past.length l10) := ⟨(P9.kept bb1).cell 0, (P9.kept bb1).cell 1, (P9.kept bb1).cell 2⟩; have y1A : (v1.alloc (.cells #[.int .i64 0, .int .i64 0, .slice none 0 0] 25)).cell? ⟨g10, 0, none⟩ = some (.int .i64 P.b) ∧ (v1.alloc (.cells #[.int .i64 0, .int .i64 0, .slice none 0 0] 25)).cell? ⟨g10, 1, none⟩ = some (.int .i64 P.n) ∧ (v1.alloc (.cells #[.int .i64 0, .int .i64 0, .slice none 0 0] 25)).cell? ⟨g10, 2, none⟩ = some (.slice a10 P.past.length l10) := ⟨((P9.kept bb1).alloc (.cells #[.int .i64 0, .int .i64 0, .slice none 0 0] 25)).cell 0, ((P9.kept bb1).alloc (.cells #[.int .i64 0, .int .i64 0, .slice none 0 0] 25)).cell 1, ((P9.kept bb1).alloc (.cells #[.int .i64 0, .int .i64 0, .slice none 0 0] 25)).cell 2⟩; have na : SBox v1 w9.heap.size 25 #[.int .i64 0, .int .i64 0, .slice none 0 0] := (b'.block w9.heap.size (by simp)).trans (heap_alloc_new w9 _); have yB : (v1.alloc (.cells #[.int .i64 Q.b, .int .i64 Q.n, .slice ar Q.past.length lr] 25)).cell? ⟨g10, 0, none⟩ = some (.int .i64 P.b) ∧ (v1.alloc (.cells #[.int .i64 Q.b, .int .i64 Q.n, .slice ar Q.past.length lr] 25)).cell? ⟨g10, 1, none⟩ = some (.int .i64 P.n) ∧ (v1.alloc (.cells #[.int .i64 Q.b, .int .i64 Q.n, .slice ar Q.past.length lr] 25)).cell? ⟨g10, 2, none⟩ = some (.slice a10 P.past.length l10) := ⟨((P9.kept bb1).alloc (.cells #[.int .i64 Q.b, .int .i64 Q.n, .slice ar Q.past.length lr] 25)).cell 0, ((P9.kept bb1).alloc (.cells #[.int .i64 Q.b, .int .i64 Q.n, .slice ar Q.past.length lr] 25)).cell 1, ((P9.kept bb1).alloc (.cells #[.int .i64 Q.b, .int .i64 Q.n, .slice ar Q.past.length lr] 25)).cell 2⟩; (first | (have q0 := na.cell 0; have q1 := na.cell 1; have q2 := na.cell 2; have f0 := na.frozen 0; have f1 := na.frozen 1; have f2 := na.frozen 2; have ySa : (((v1.setCell ⟨w9.heap.size, 0, none⟩ (.int .i64 Q.b)).setCell ⟨w9.heap.size, 1, none⟩ (.int .i64 Q.n)).setCell ⟨w9.heap.size, 2, none⟩ (.slice ar Q.past.length lr)).cell? ⟨g10, 0, none⟩ = some (.int .i64 P.b) ∧ (((v1.setCell ⟨w9.heap.size, 0, none⟩ (.int .i64 Q.b)).setCell ⟨w9.heap.size, 1, none⟩ (.int .i64 Q.n)).setCell ⟨w9.heap.size, 2, none⟩ (.slice ar Q.past.length lr)).cell? ⟨g10, 1, none⟩ = some (.int .i64 P.n) ∧ (((v1.setCell ⟨w9.heap.size, 0, none⟩ (.int .i64 Q.b)).setCell ⟨w9.heap.size, 1, none⟩ (.int .i64 Q.n)).setCell ⟨w9.heap.size, 2, none⟩ (.slice ar Q.past.length lr)).cell? ⟨g10, 2, none⟩ = some (.slice a10 P.past.length l10) := ⟨(SBox.far3 (P9.kept bb1) (Nat.ne_of_lt P9.lt) _ _ _).cell 0, (SBox.far3 (P9.kept bb1) (Nat.ne_of_lt P9.lt) _ _ _).cell 1, (SBox.far3 (P9.kept bb1) (Nat.ne_of_lt P9.lt) _ _ _).cell 2⟩) | skip); clear b'))
              all_goals
                go_wp2_with fail
                go_meet
                first
                  | exact ⟨rfl, cut_last bb1 orr⟩
                  | exact ⟨rfl, cut_set (Nat.le_refl _) bb1 orr na⟩
            case rest =>
              obtain ⟨rfl, g12, a12, l12, rfl, hg12, Q12, o12, b12⟩ := hcut
              obtain ⟨w12, hw⟩ : ∃ u, u = wc := ⟨_, rfl⟩
              subst hw
              have X12 := X9.kept b12
              have j12 := Lib.hid (j9x.out.below b12)
              have q12 := Lib.hid o12.ints
              have c12 := c9.trans (b12.mono c9.size)
              have hY2 := hY.out
              rw [hQq] at hY2
              obtain ⟨hDB, hQD, hN, _⟩ := hY2
              simp only at hQD hN
              obtain rfl : Q = D := hQD
              have HOK := Lib.hid (fun pv W (h : Ints W pv Q.past) => implDeskOk Q pv W h (by omega))
              rw [hDB] at HOK
              have hqq := Pl.runA_count P (ds.drop H)
              rw [hQq] at hqq
              simp only [List.length_drop] at hqq
              have hw : IntKind.i64.wrap ((q : Int) + (q2 : Int)) = (N : Int) := by rw [IntWalk.i64_in _ (by omega)]; omega
              clear X9 P9 A9 k9 j9 j9x i9 c9 o12 b12 hDB hqq hN hY hQq k9b HQ y0 y0A
              go_wp2_with (first | (refine desk_load rfl _ rfl rfl X12 ?_))
              refine (HOK.out _ _ j12.out).mono ?_
              rintro e w13 ⟨rfl, b13⟩
              have X13 := X12.kept b13
              have Q13 := Q12.kept b13
              have j13 := Lib.hid (j12.out.below b13)
              have q13 := Lib.hid (q12.out.below b13)
              have c13 := c12.trans (b13.mono c12.size)
              have x0 := X13.cell 0
              have x1 := X13.cell 1
              have x2 := X13.cell 2
              have z0 := Q13.cell 0
              have z1 := Q13.cell 1
              have z2 := Q13.cell 2
              clear X12 Q12 j12 q12 c12 b13 X13 Q13
              go_wp2_with fail
              refine (sameDesk Q Q _ _ _ q13.out j13.out (by omega)).mono ?_
              rintro e w14 ⟨rfl, b14⟩
              rw [HE.out]
              have c14 := c13.trans (b14.mono c13.size)
              clear c13 b14 j13 q13
              go_wp2
              go_ret
              exact ⟨rfl, c14⟩
    · have hDN := HNO.out hok
      obtain ⟨rfl, rfl⟩ := Prod.mk.inj hDN
      clear HYES HNO hDN HDK
      cases hB : Pl.dkB d with
      | true =>
        have h40i : (40 : Int) < (ds.length : Int) := by
          have : ¬ ds.length ≤ 40 := fun h => hok ⟨hB, h⟩
          omega
        clear hok hB
        go_wp2_with fail
        refine (noDesk Pl.dk0 _ _ j8.out (by simp [Pl.dk0])).mono ?_
        rintro e w9 ⟨rfl, b9⟩
        have hS : Pl.sameA Pl.dk0 ⟨0, 0, []⟩ = true := by decide
        rw [hS]
        have c9 := c8.trans (b9.mono c8.size)
        clear A8 X8 i8 k8 j8 c8 b9 x0 x1 x2
        go_wp2_with (go_at_call 14; refine (alive _).mono ?_; rintro e w' ⟨rfl, rfl⟩)
        go_ret
        exact ⟨rfl, c9⟩
      | false =>
        clear hok hB
        go_wp2_with fail
        refine (noDesk Pl.dk0 _ _ j8.out (by simp [Pl.dk0])).mono ?_
        rintro e w9 ⟨rfl, b9⟩
        have hS : Pl.sameA Pl.dk0 ⟨0, 0, []⟩ = true := by decide
        rw [hS]
        have c9 := c8.trans (b9.mono c8.size)
        clear A8 X8 i8 k8 j8 c8 b9 x0 x1 x2
        go_wp2_with (go_at_call 14; refine (alive _).mono ?_; rintro e w' ⟨rfl, rfl⟩)
        go_ret
        exact ⟨rfl, c9⟩

end Go.Proofs.Ytakkjlcnfkklpaa
