/-
  spec.ReadDeed: the deed whose text a text is.
-/
import Derived.Test.YtgkkoegfmhgcjaaDoorStructs
import Derived.Test.YtgkkoegfmhgcjaaDoorSpecCut
import Derived.Test.YtgkkoegfmhgcjaaDoorSpecDeed
namespace Go.Proofs.YtgkkoegfmhgcjaaDoor
open Go.RowKit Go.Shelf

namespace Pl
def rdK : Option (Int × Int) → Int | some d => d.1 | none => 0
def rdN : Option (Int × Int) → Int | some d => d.2 | none => 0
def rdB : Option (Int × Int) → Bool | some _ => true | none => false
theorem cutL_mem (sep : UInt8) (s : List UInt8) : ∀ l ∈ cutL sep s, l.length ≤ s.length := by
  induction s with
  | nil => intro l hl; simp [cutL] at hl; simp [hl]
  | cons c t ih =>
    intro l hl
    rw [cutL] at hl
    split at hl
    · rcases List.mem_cons.1 hl with rfl | h
      · simp
      · have := ih l h; simp; omega
    · split at hl
      · simp at hl; simp [hl]
      · rename_i h r e
        rcases List.mem_cons.1 hl with rfl | h'
        · have := ih h (by rw [e]; simp); simp; omega
        · have := ih l (by rw [e]; simp [h']); simp; omega
/-- The deeds without a number, up to a kind. -/
def kinds (j : Nat) : List (Int × Int) := (List.range j).map fun i : Nat => ((i : Int) + 1, (0 : Int))
theorem kinds_len (j : Nat) : (kinds j).length = j := by simp [kinds]
theorem kinds_snoc (j : Nat) : kinds (j + 1) = kinds j ++ [((j : Int) + 1, 0)] := by simp [kinds, List.range_succ]
theorem kinds_all : kinds 7 = [(1, 0), (2, 0), (3, 0), (4, 0), (5, 0), (6, 0), (7, 0)] := by decide
theorem candL_two {s a b : List UInt8} (h : cutL 32 s = [a, b]) : candL s = kinds 7 ++ [(0, readN b)] := by rw [candL, h, kinds_all]
theorem candL_not {s : List UInt8} (h : (cutL 32 s).length ≠ 2) : candL s = kinds 7 := by
  rw [candL, kinds_all]
  split
  · rename_i x y e; rw [e] at h; simp at h
  · simp
theorem candL_len (s : List UInt8) : (candL s).length ≤ 8 := by
  by_cases h : (cutL 32 s).length = 2
  · obtain ⟨a, b, e⟩ : ∃ a b, cutL 32 s = [a, b] := by
      match hc : cutL 32 s, h with
      | [a, b], _ => exact ⟨a, b, rfl⟩
    rw [candL_two e]; simp [kinds_len]
  · rw [candL_not h, kinds_len]; omega
theorem readL_at {s : List UInt8} {i : Nat} (h0 : s ≠ []) (hi : i < (candL s).length) (h : deedL ((candL s)[i]?.getD (0, 0)).1 ((candL s)[i]?.getD (0, 0)).2 = s)
    (hn : ∀ j, j < i → deedL ((candL s)[j]?.getD (0, 0)).1 ((candL s)[j]?.getD (0, 0)).2 ≠ s) : readL s = some ((candL s)[i]?.getD (0, 0)) := by
  rw [readL, if_neg h0, List.find?_eq_some_iff_getElem]
  rw [List.getElem?_eq_getElem hi, Option.getD_some] at h ⊢
  refine ⟨by simpa using h, i, hi, rfl, fun j hj => ?_⟩
  have := hn j hj
  rw [List.getElem?_eq_getElem (by omega), Option.getD_some] at this
  simpa using this
theorem readL_never {s : List UInt8} (hn : ∀ j, j < (candL s).length → deedL ((candL s)[j]?.getD (0, 0)).1 ((candL s)[j]?.getD (0, 0)).2 ≠ s) : readL s = none := by
  unfold readL
  split
  · rfl
  · rw [List.find?_eq_none]
    intro d hd
    obtain ⟨j, hj, e⟩ := List.mem_iff_getElem.1 hd
    have := hn j hj
    rw [List.getElem?_eq_getElem hj, Option.getD_some, e] at this
    simpa using this
end Pl

set_option maxRecDepth 100000 in
set_option maxHeartbeats 2000000 in
theorem specReadDeed (s : ByteArray) (hs : s.size ≤ 1000000000) (w : World) :
    Calls Tryd.prog 6 #[.string s] w fun e w' => e = .returned (.tuple #[.agg #[.int .i64 (Pl.rdK (Pl.readL s.data.toList)), .int .i64 (Pl.rdN (Pl.readL s.data.toList))], .bool (Pl.rdB (Pl.readL s.data.toList))]) ∧ Below w.heap.size w w' := by
  have hlen := Pl.data_len s
  obtain ⟨R, hR⟩ : ∃ R, Pl.readL s.data.toList = R := ⟨_, rfl⟩
  rw [hR]
  have HRR := Lib.hid hR
  clear hR
  obtain ⟨i0, hi0, hz0, hz1, hz2⟩ := info_parts info_deed
  have HC := Lib.hid (fun W => specCut s hs W)
  have HB0 := Lib.hid (SBox.new w 25 #[.int .i64 0, .int .i64 0])
  have bl0 : Below w.heap.size w (w.alloc (.cells #[.int .i64 0, .int .i64 0] 25)) := (Below.refl _ _).alloc (Nat.le_refl _) _
  go_enter Tryd.func6, Tryd.ntmps6
  go_wp2_with fail
  refine (HC.out _).mono ?_
  rintro e w1 ⟨v1, rfl, t1, b1⟩
  have HB1 := Lib.hid (HB0.out.kept b1)
  have bl1 := bl0.trans (b1.mono bl0.size)
  have T1 := Lib.hid t1
  have r0 := Lib.hid (drow_empty w1)
  have b2 : Below w1.heap.size w1 (w1.alloc (.cells #[] 25)) := (Below.refl _ _).alloc (Nat.le_refl _) _
  clear b1 t1 HC HB0 bl0
  go_wp2_with fail
  go_loopw [5, 6] (fun v kv wr => ∃ (j : Nat) (vv : Value), vv = v ∧ kv = .int .i64 ((j : Int) + 1) ∧ j ≤ 7 ∧ DRow w1.heap.size wr vv (Pl.kinds j) ∧ Below w1.heap.size w1 wr) (fun _ kv _ => 8 - (intOf kv).toNat)
  case atStart => exact ⟨0, _, rfl, rfl, by omega, r0.out, b2⟩
  case round =>
    clear r0 b2
    obtain ⟨j, vv, rfl, rfl, hj, hr, hbw⟩ := hrel
    have hjl := Pl.kinds_len j
    have hsz := hbw.size
    by_cases hlt : j < 7
    · have hi : (j : Int) + 1 ≤ 7 := by omega
      have HS := Lib.hid (Pl.kinds_snoc j)
      have hr2 : wr.ownsRow w1.heap.size 25 2 vv j (Pl.deedCells (Pl.kinds j)) := by
        have h := hr
        unfold DRow at h
        rwa [hjl] at h
      clear hr
      go_wp2_with (at_builtin; refine wpList_append_own _ rfl _ _ 44 rfl w1.heap.size 25 i0 (.agg #[.int .i64 0, .int .i64 0]) 2 16 Tryd.underlying44 hi0 hz0 hz1 hz2 rfl (by decide) _ _ _ rfl (hr2.alloc _) ⟨wr.heap.size, 0, none⟩ 1 1 [.int .i64 ((j : Int) + 1), .int .i64 0] rfl rfl (cell_deed_new _ _ _ _) (by simp [Value.oneCell']) (by unfold maxLen; omega) (by omega) (by simp; omega) ?_; intro v6 w6 hown6 hgrow6 _)
      have hb6 : Below w1.heap.size w1 w6 := below_append (hbw.alloc (by omega) _) (hr2.alloc _) hgrow6
      have H6 : Hid (DRow w1.heap.size w6 v6 (Pl.kinds (j + 1))) := Lib.hid (by
        rw [HS.out]
        refine drow_snoc ?_
        rw [hjl]; exact hown6)
      clear hown6 hgrow6 hr2
      exact ⟨⟨j + 1, _, rfl, by go_num, by omega, H6.out, hb6⟩, by simp [intOf]; omega⟩
    · obtain rfl : j = 7 := by omega
      have hi : ¬ ((7 : Nat) : Int) + 1 ≤ 7 := by omega
      have hle7 : (Pl.kinds 7).length ≤ 7 := Nat.le_of_eq hjl
      have hC7 := Lib.hid hr
      obtain ⟨ga, ca, rfl, hga0, hga, hgca, hcella⟩ := hr.lies (by rw [hjl]; omega)
      have hr2 : wr.ownsRow w1.heap.size 25 2 (.slice (some ⟨ga, 0, none⟩) (Pl.kinds 7).length ca) (Pl.kinds 7).length (Pl.deedCells (Pl.kinds 7)) := hr
      have HCELL := Lib.hid hcella
      have hL8 := Pl.candL_len s.data.toList
      have HAT : Hid (∀ i, s.data.toList ≠ [] → i < (Pl.candL s.data.toList).length → Pl.deedL ((Pl.candL s.data.toList)[i]?.getD (0, 0)).1 ((Pl.candL s.data.toList)[i]?.getD (0, 0)).2 = s.data.toList →
        (∀ j, j < i → Pl.deedL ((Pl.candL s.data.toList)[j]?.getD (0, 0)).1 ((Pl.candL s.data.toList)[j]?.getD (0, 0)).2 ≠ s.data.toList) → Pl.readL s.data.toList = some ((Pl.candL s.data.toList)[i]?.getD (0, 0))) := Lib.hid fun i h0 h1 h2 h3 => Pl.readL_at h0 h1 h2 h3
      have HNV : Hid ((s.data.toList = [] ∨ ∀ j, j < (Pl.candL s.data.toList).length → Pl.deedL ((Pl.candL s.data.toList)[j]?.getD (0, 0)).1 ((Pl.candL s.data.toList)[j]?.getD (0, 0)).2 ≠ s.data.toList) → Pl.readL s.data.toList = none) := Lib.hid fun h => by
        rcases h with h | h
        · rw [Pl.readL, if_pos h]
        · exact Pl.readL_never h
      clear hr hcella hjl
      by_cases h2 : (Pl.cutL 32 s.data.toList).length = 2
      · obtain ⟨A, B, hAB⟩ : ∃ A B, Pl.cutL 32 s.data.toList = [A, B] := by
          match hc : Pl.cutL 32 s.data.toList, h2 with
          | [A, B], _ => exact ⟨A, B, rfl⟩
        have HT := T1.out
        rw [hAB] at HT
        have hBl : (Pl.str B).size ≤ 1000000000 := by
          have := Pl.cutL_mem 32 s.data.toList B (by rw [hAB]; simp)
          rw [Pl.str_size]; omega
        obtain ⟨g1, c1, rfl, _, hg1, hgc1, hcell1⟩ := HT.lies (by simp)
        have hw1 : w1.cell? ⟨g1, 1, none⟩ = some (.string (Pl.str B)) := hcell1 1 (by simp)
        have hwr1 := (hbw.cell (p := ⟨g1, 1, none⟩) hg1).trans hw1
        have HRD := Lib.hid (fun W => specRead (Pl.str B) hBl W)
        rw [Pl.str_data] at HRD
        have HCA := Lib.hid (Pl.candL_two hAB)
        clear HT hcell1 hw1 hC7 hBl hAB h2 T1 HCELL hga0 hlen
        simp only [List.length_cons, List.length_nil, Nat.zero_add, Nat.reduceAdd] at hgc1 ⊢
        generalize Pl.str B = SB at *
        generalize Pl.readN B = RN at *
        go_wp2_with (first | (go_at_call 19; refine (HRD.out _).mono ?_; rintro e w' ⟨rfl, rfl⟩) | (at_builtin; refine wpList_append_own _ rfl _ _ 44 rfl w1.heap.size 25 i0 (.agg #[.int .i64 0, .int .i64 0]) 2 16 Tryd.underlying44 hi0 hz0 hz1 hz2 rfl (by decide) _ _ _ rfl (hr2.alloc _) ⟨wr.heap.size, 0, none⟩ 1 1 [.int .i64 0, .int .i64 RN] rfl rfl (cell_deed_new _ _ _ _) (by simp [Value.oneCell']) (by unfold maxLen; omega) (by omega) (by simp; omega) ?_; intro v6 w6 hown6 hgrow6 _))
        have hb6 : Below w1.heap.size w1 w6 := below_append (hbw.alloc (by omega) _) (hr2.alloc _) hgrow6
        have H6 : DRow w1.heap.size w6 v6 (Pl.candL s.data.toList) := by
          rw [HCA.out]
          exact drow_snoc hown6
        obtain ⟨g2, c2, rfl, _, hg2, hgc2, hcell2⟩ := H6.lies (by rw [HCA.out]; simp)
        have HC2 := Lib.hid hcell2
        clear hown6 hgrow6 hr2 HCA HRD hwr1 H6 hcell2 hbw hsz hga hgca hgc1 hg1
        have bl6 := bl1.trans (hb6.mono bl1.size)
        have HB6 : Hid (SBox w6 w.heap.size 25 #[.int .i64 0, .int .i64 0]) := Lib.hid (HB1.out.kept (hb6.mono (Nat.le_refl _)))
        clear hb6 bl1 HB1
        generalize Pl.candL s.data.toList = C at *
        go_loopw [7] (fun iv wr => ∃ i : Nat, i ≤ C.length ∧ iv = .int .i64 i ∧ (s.data.toList = [] ∨ ∀ j, j < i → Pl.deedL (C[j]?.getD (0, 0)).1 (C[j]?.getD (0, 0)).2 ≠ s.data.toList) ∧ Below w6.heap.size w6 wr) (fun iv _ => C.length - (intOf iv).toNat)
        case atStart => exact ⟨0, Nat.zero_le _, rfl, .inr fun j hj => by omega, Below.refl _ _⟩
        case round =>
          obtain ⟨i, hi6, rfl, hno, hbr⟩ := hrel
          have HNO := Lib.hid hno
          clear hno
          have hszr := hbr.size
          by_cases hlt : i < C.length
          · have hil : (i : Int) < (C.length : Int) := by omega
            obtain ⟨ck, cn⟩ := HC2.out i hlt
            have dk := (hbr.cell (p := ⟨g2, i * 2, none⟩) hg2).trans ck
            have dn := (hbr.cell (p := ⟨g2, i * 2 + 1, none⟩) hg2).trans cn
            clear ck cn
            by_cases h0 : s.data.toList = []
            · have hs0 : s = ⟨#[]⟩ := by rw [← Pl.str_self s, h0]; rfl
              have HN1 : Hid (s.data.toList = [] ∨ ∀ j, j < i + 1 → Pl.deedL (C[j]?.getD (0, 0)).1 (C[j]?.getD (0, 0)).2 ≠ s.data.toList) := Lib.hid (.inl h0)
              have htl : s.toList = [] := by rw [Lib.toList_data]; exact h0
              have htl2 : s.toList.isEmpty = true := by rw [htl]; rfl
              clear h0 hs0 HNO dk dn
              go_wp2_with fail
              go_roundw
              case rel => exact ⟨i + 1, by omega, by go_num, HN1.out, hbr⟩
              case measure => simp [intOf]; omega
            · have htl : ¬ s.toList = [] := by rw [Lib.toList_data]; exact h0
              have htl2 : s.toList.isEmpty = false := by
                rw [Bool.eq_false_iff]; intro h; exact htl (List.isEmpty_iff.1 h)
              have HNO' : Hid (∀ j, j < i → Pl.deedL (C[j]?.getD (0, 0)).1 (C[j]?.getD (0, 0)).2 ≠ s.data.toList) := Lib.hid (HNO.out.resolve_left h0)
              have HDT := Lib.hid (fun W => specDeedText (C[i]?.getD (0, 0)).1 (C[i]?.getD (0, 0)).2 W)
              by_cases he : Pl.deedL (C[i]?.getD (0, 0)).1 (C[i]?.getD (0, 0)).2 = s.data.toList
              · have HR := Lib.hid (HAT.out i h0 hlt he HNO'.out)
                have heq : ((Pl.str (Pl.deedL (C[i]?.getD (0, 0)).1 (C[i]?.getD (0, 0)).2)).toList == s.toList) = true := by
                  rw [he, Lib.toList_data, Lib.toList_data]; simp [Pl.str_data]
                rw [show C[i]?.getD (0, 0) = ((C[i]?.getD (0, 0)).1, (C[i]?.getD (0, 0)).2) from rfl] at HR
                clear he HNO HNO' h0
                generalize Pl.str (Pl.deedL (C[i]?.getD (0, 0)).1 (C[i]?.getD (0, 0)).2) = TX at *
                generalize (C[i]?.getD (0, 0)).1 = ka at *
                generalize (C[i]?.getD (0, 0)).2 = kb at *
                go_wp2_with fail
                refine (HDT.out _).mono ?_
                rintro e w7 ⟨rfl, b7⟩
                have ek := (b7.cell (p := ⟨g2, i * 2, none⟩) (Nat.lt_of_lt_of_le hg2 hszr)).trans dk
                have en := (b7.cell (p := ⟨g2, i * 2 + 1, none⟩) (Nat.lt_of_lt_of_le hg2 hszr)).trans dn
                have c7 := hbr.trans (b7.mono hszr)
                have HB7 := Lib.hid (HB6.out.kept c7)
                have bl7 := bl6.trans (c7.mono bl6.size)
                clear b7 dk dn
                go_wp2_with (refine deed_store rfl _ _ rfl rfl rfl HB7.out ?_; intro w8 hB8 hbl8 hsz8 _)
                refine bodyPost_ret (results_cell_tmp rfl _ _ w.heap.size #[.int .i64 ka, .int .i64 kb] _ (.bool true) rfl rfl hB8 rfl Tryd.underlying25 size_deed) rfl ?_
                exact ⟨by rw [← HRR.out, HR.out]; rfl, bl7.trans (hbl8 _ (Nat.le_refl _))⟩
              · have heq : ((Pl.str (Pl.deedL (C[i]?.getD (0, 0)).1 (C[i]?.getD (0, 0)).2)).toList == s.toList) = false := by
                  rw [Lib.toList_data, Lib.toList_data, beq_eq_false_iff_ne]; exact he
                have HN1 : Hid (s.data.toList = [] ∨ ∀ j, j < i + 1 → Pl.deedL (C[j]?.getD (0, 0)).1 (C[j]?.getD (0, 0)).2 ≠ s.data.toList) := Lib.hid (.inr fun j hj => by
                  by_cases h : j = i
                  · rw [h]; exact he
                  · exact HNO'.out j (by omega))
                clear he HNO HNO' h0
                generalize Pl.str (Pl.deedL (C[i]?.getD (0, 0)).1 (C[i]?.getD (0, 0)).2) = TX at *
                generalize (C[i]?.getD (0, 0)).1 = ka at *
                generalize (C[i]?.getD (0, 0)).2 = kb at *
                go_wp2_with fail
                refine (HDT.out _).mono ?_
                rintro e w7 ⟨rfl, b7⟩
                have c7 := hbr.trans (b7.mono hszr)
                clear b7 dk dn
                go_wp2_with fail
                go_roundw
                case rel => exact ⟨i + 1, by omega, by go_num, HN1.out, c7⟩
                case measure => simp [intOf]; omega
          · obtain rfl : i = C.length := by omega
            have hil : ¬ (C.length : Int) < (C.length : Int) := by omega
            have HR := Lib.hid (HNV.out HNO.out)
            have HB7 := Lib.hid (HB6.out.kept hbr)
            have bl7 := bl6.trans (hbr.mono bl6.size)
            clear HNO
            go_wp2_with (refine deed_store rfl _ _ rfl rfl rfl HB7.out ?_; intro w8 hB8 hbl8 hsz8 _)
            refine bodyPost_ret (results_cell_tmp rfl _ _ w.heap.size #[.int .i64 0, .int .i64 0] _ (.bool false) rfl rfl hB8 rfl Tryd.underlying25 size_deed) rfl ?_
            exact ⟨by rw [← HRR.out, HR.out]; rfl, bl7.trans (hbl8 _ (Nat.le_refl _))⟩
      · have hCA := Pl.candL_not h2
        rw [← hCA] at HCELL hgca ⊢
        obtain ⟨a1, c1, rfl⟩ := T1.out.shape
        have h2' : ((((Pl.cutL 32 s.data.toList).length : Nat) : Int) == 2) = false := by rw [beq_eq_false_iff_ne]; omega
        have HC2 := HCELL
        have hb6 := hbw
        have hg2 := hga
        have hgc2 := hgca
        generalize (Pl.cutL 32 s.data.toList).length = n1 at *
        clear hr2 hC7 T1 HCELL hbw hsz hga hgca hga0 hCA h2 hlen hle7
        generalize wr = w6 at *
        generalize ga = g2 at *
        generalize ca = c2 at *
        go_wp2_with fail
        have bl6 := bl1.trans (hb6.mono bl1.size)
        have HB6 : Hid (SBox w6 w.heap.size 25 #[.int .i64 0, .int .i64 0]) := Lib.hid (HB1.out.kept (hb6.mono (Nat.le_refl _)))
        clear hb6 bl1 HB1
        generalize Pl.candL s.data.toList = C at *
        go_loopw [7] (fun iv wr => ∃ i : Nat, i ≤ C.length ∧ iv = .int .i64 i ∧ (s.data.toList = [] ∨ ∀ j, j < i → Pl.deedL (C[j]?.getD (0, 0)).1 (C[j]?.getD (0, 0)).2 ≠ s.data.toList) ∧ Below w6.heap.size w6 wr) (fun iv _ => C.length - (intOf iv).toNat)
        case atStart => exact ⟨0, Nat.zero_le _, rfl, .inr fun j hj => by omega, Below.refl _ _⟩
        case round =>
          obtain ⟨i, hi6, rfl, hno, hbr⟩ := hrel
          have HNO := Lib.hid hno
          clear hno
          have hszr := hbr.size
          by_cases hlt : i < C.length
          · have hil : (i : Int) < (C.length : Int) := by omega
            obtain ⟨ck, cn⟩ := HC2.out i hlt
            have dk := (hbr.cell (p := ⟨g2, i * 2, none⟩) hg2).trans ck
            have dn := (hbr.cell (p := ⟨g2, i * 2 + 1, none⟩) hg2).trans cn
            clear ck cn
            by_cases h0 : s.data.toList = []
            · have hs0 : s = ⟨#[]⟩ := by rw [← Pl.str_self s, h0]; rfl
              have HN1 : Hid (s.data.toList = [] ∨ ∀ j, j < i + 1 → Pl.deedL (C[j]?.getD (0, 0)).1 (C[j]?.getD (0, 0)).2 ≠ s.data.toList) := Lib.hid (.inl h0)
              have htl : s.toList = [] := by rw [Lib.toList_data]; exact h0
              have htl2 : s.toList.isEmpty = true := by rw [htl]; rfl
              clear h0 hs0 HNO dk dn
              go_wp2_with fail
              go_roundw
              case rel => exact ⟨i + 1, by omega, by go_num, HN1.out, hbr⟩
              case measure => simp [intOf]; omega
            · have htl : ¬ s.toList = [] := by rw [Lib.toList_data]; exact h0
              have htl2 : s.toList.isEmpty = false := by
                rw [Bool.eq_false_iff]; intro h; exact htl (List.isEmpty_iff.1 h)
              have HNO' : Hid (∀ j, j < i → Pl.deedL (C[j]?.getD (0, 0)).1 (C[j]?.getD (0, 0)).2 ≠ s.data.toList) := Lib.hid (HNO.out.resolve_left h0)
              have HDT := Lib.hid (fun W => specDeedText (C[i]?.getD (0, 0)).1 (C[i]?.getD (0, 0)).2 W)
              by_cases he : Pl.deedL (C[i]?.getD (0, 0)).1 (C[i]?.getD (0, 0)).2 = s.data.toList
              · have HR := Lib.hid (HAT.out i h0 hlt he HNO'.out)
                have heq : ((Pl.str (Pl.deedL (C[i]?.getD (0, 0)).1 (C[i]?.getD (0, 0)).2)).toList == s.toList) = true := by
                  rw [he, Lib.toList_data, Lib.toList_data]; simp [Pl.str_data]
                rw [show C[i]?.getD (0, 0) = ((C[i]?.getD (0, 0)).1, (C[i]?.getD (0, 0)).2) from rfl] at HR
                clear he HNO HNO' h0
                generalize Pl.str (Pl.deedL (C[i]?.getD (0, 0)).1 (C[i]?.getD (0, 0)).2) = TX at *
                generalize (C[i]?.getD (0, 0)).1 = ka at *
                generalize (C[i]?.getD (0, 0)).2 = kb at *
                go_wp2_with fail
                refine (HDT.out _).mono ?_
                rintro e w7 ⟨rfl, b7⟩
                have ek := (b7.cell (p := ⟨g2, i * 2, none⟩) (Nat.lt_of_lt_of_le hg2 hszr)).trans dk
                have en := (b7.cell (p := ⟨g2, i * 2 + 1, none⟩) (Nat.lt_of_lt_of_le hg2 hszr)).trans dn
                have c7 := hbr.trans (b7.mono hszr)
                have HB7 := Lib.hid (HB6.out.kept c7)
                have bl7 := bl6.trans (c7.mono bl6.size)
                clear b7 dk dn
                go_wp2_with (refine deed_store rfl _ _ rfl rfl rfl HB7.out ?_; intro w8 hB8 hbl8 hsz8 _)
                refine bodyPost_ret (results_cell_tmp rfl _ _ w.heap.size #[.int .i64 ka, .int .i64 kb] _ (.bool true) rfl rfl hB8 rfl Tryd.underlying25 size_deed) rfl ?_
                exact ⟨by rw [← HRR.out, HR.out]; rfl, bl7.trans (hbl8 _ (Nat.le_refl _))⟩
              · have heq : ((Pl.str (Pl.deedL (C[i]?.getD (0, 0)).1 (C[i]?.getD (0, 0)).2)).toList == s.toList) = false := by
                  rw [Lib.toList_data, Lib.toList_data, beq_eq_false_iff_ne]; exact he
                have HN1 : Hid (s.data.toList = [] ∨ ∀ j, j < i + 1 → Pl.deedL (C[j]?.getD (0, 0)).1 (C[j]?.getD (0, 0)).2 ≠ s.data.toList) := Lib.hid (.inr fun j hj => by
                  by_cases h : j = i
                  · rw [h]; exact he
                  · exact HNO'.out j (by omega))
                clear he HNO HNO' h0
                generalize Pl.str (Pl.deedL (C[i]?.getD (0, 0)).1 (C[i]?.getD (0, 0)).2) = TX at *
                generalize (C[i]?.getD (0, 0)).1 = ka at *
                generalize (C[i]?.getD (0, 0)).2 = kb at *
                go_wp2_with fail
                refine (HDT.out _).mono ?_
                rintro e w7 ⟨rfl, b7⟩
                have c7 := hbr.trans (b7.mono hszr)
                clear b7 dk dn
                go_wp2_with fail
                go_roundw
                case rel => exact ⟨i + 1, by omega, by go_num, HN1.out, c7⟩
                case measure => simp [intOf]; omega
          · obtain rfl : i = C.length := by omega
            have hil : ¬ (C.length : Int) < (C.length : Int) := by omega
            have HR := Lib.hid (HNV.out HNO.out)
            have HB7 := Lib.hid (HB6.out.kept hbr)
            have bl7 := bl6.trans (hbr.mono bl6.size)
            clear HNO
            go_wp2_with (refine deed_store rfl _ _ rfl rfl rfl HB7.out ?_; intro w8 hB8 hbl8 hsz8 _)
            refine bodyPost_ret (results_cell_tmp rfl _ _ w.heap.size #[.int .i64 0, .int .i64 0] _ (.bool false) rfl rfl hB8 rfl Tryd.underlying25 size_deed) rfl ?_
            exact ⟨by rw [← HRR.out, HR.out]; rfl, bl7.trans (hbl8 _ (Nat.le_refl _))⟩

end Go.Proofs.YtgkkoegfmhgcjaaDoor
