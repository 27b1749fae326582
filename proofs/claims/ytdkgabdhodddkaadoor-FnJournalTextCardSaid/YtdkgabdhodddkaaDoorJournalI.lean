/-
  impl: journals read.
-/
import Derived.Test.YtdkgabdhodddkaaDoorDeedI
import Derived.Test.YtdkgabdhodddkaaDoorSpecJournal
namespace Go.Proofs.YtdkgabdhodddkaaDoor
open Go.RowKit Go.Shelf

/-- Up to a place: what was read, and what the rest gives. -/
def RJUp (S : List UInt8) (ds : List (Int × Int)) (f : Nat) : Prop := Pl.rjA [] S = (ds ++ (Pl.rjA [] (S.drop f)).1, f + (Pl.rjA [] (S.drop f)).2) ∧ ds.length ≤ f
theorem rjUp_start (S : List UInt8) : RJUp S [] 0 := ⟨by simp, Nat.le_refl _⟩
theorem rjUp_stop {S : List UInt8} {ds : List (Int × Int)} {f : Nat} (h : RJUp S ds f) (h2 : (10 : UInt8) ∉ S.drop f) : Pl.rjA [] S = (ds, f) := by
  rw [h.1, Pl.rj_stop h2]; simp
theorem rjUp_none {S l r : List UInt8} {ds : List (Int × Int)} {f : Nat} (h : RJUp S ds f) (hl : (10 : UInt8) ∉ l) (h2 : S.drop f = l ++ 10 :: r) (h3 : Pl.readL l = none) : Pl.rjA [] S = (ds, f) := by
  rw [h.1, h2, Pl.rj_line hl, h3]; simp
theorem rjUp_next {S l r : List UInt8} {ds : List (Int × Int)} {f : Nat} {d : Int × Int} (h : RJUp S ds f) (hl : (10 : UInt8) ∉ l) (h2 : S.drop f = l ++ 10 :: r) (h3 : Pl.readL l = some d) : RJUp S (ds ++ [d]) (f + (l.length + 1)) := by
  have hr : S.drop (f + (l.length + 1)) = r := by
    rw [← List.drop_drop, h2]
    rw [show l ++ 10 :: r = (l ++ [10]) ++ r by simp, show l.length + 1 = (l ++ [(10 : UInt8)]).length by simp, List.drop_left]
  refine ⟨?_, by have := h.2; simp; omega⟩
  rw [h.1, h2, Pl.rj_line hl, h3, hr]
  simp
  omega

set_option maxRecDepth 100000 in
set_option maxHeartbeats 4000000 in
theorem implReadJournal (s : ByteArray) (hs : s.size ≤ 1000000000) (w : World) (hL : LibOk w) :
    Calls Tryd.prog 16 #[.string s] w (JPost w (Pl.rjA [] s.data.toList)) := by
  have hlen := Pl.data_len s
  obtain ⟨i0, hi0, hz0, hz1, hz2⟩ := info_parts info_deed
  obtain ⟨R, hR⟩ : ∃ R, Pl.rjA [] s.data.toList = R := ⟨_, rfl⟩
  rw [hR]
  have HRR := Lib.hid hR
  have HLn := Lib.hid hlen
  have HS0 := Lib.hid (rjUp_start s.data.toList)
  have HL := Lib.hid hL
  clear hR hlen hL
  go_enter Tryd.func16, Tryd.ntmps16
  go_wp2_with fail
  go_loopw [4, 5] (fun v fv wr => ∃ (ds : List (Int × Int)) (f : Nat), fv = .int .i64 f ∧ f ≤ s.size ∧ DRow w.heap.size wr v ds ∧ Below w.heap.size w wr ∧ RJUp s.data.toList ds f) (fun _ fv _ => s.size + 1 - (intOf fv).toNat)
  case atStart => exact ⟨[], 0, rfl, Nat.zero_le _, World.ownsRow_nil _ _ _ _, Below.refl _ _, HS0.out⟩
  case round =>
    clear HS0
    obtain ⟨ds, f, rfl, hf, hr, hbw, hup⟩ := hrel
    have hD := hup.2
    have HU := Lib.hid hup
    have hsz := hbw.size
    have HR := Lib.hid hr
    have hLr := HL.out.below hbw
    obtain ⟨av, cv, rfl⟩ := hr.shape
    clear hup hr
    have hex : s.extract f s.size = Pl.str (s.data.toList.drop f) := by rw [Pl.extract_piece, Pl.piece_rest _ _ HLn.out]
    have hpl : (s.extract f s.size).size ≤ 1000000000 := by
      rw [hex, Pl.str_size, List.length_drop, HLn.out]; omega
    have HC := Lib.hid (fun W => libCut (s.extract f s.size) 10 hpl W)
    have hdat : (s.extract f s.size).data.toList = s.data.toList.drop f := by rw [hex]; rfl
    rw [hdat] at HC
    have i1 : (0 : Int) ≤ (f : Int) := by omega
    have i2 : (f : Int) ≤ (s.size : Int) := by omega
    have hdl : (s.data.toList.drop f).length = s.size - f := by rw [List.length_drop, HLn.out]
    rcases Pl.cut1_cases 10 (s.data.toList.drop f) with ⟨hno, e⟩ | ⟨l, r, hl, hsp, e⟩
    · rw [e] at HC
      have HST := Lib.hid (rjUp_stop HU.out hno)
      have hll : (Pl.str (s.data.toList.drop f)).size ≤ 1000000000 := by rw [Pl.str_size, hdl]; omega
      have HRD := Lib.hid (fun W (h : LibOk W) => implReadDeed (Pl.str (s.data.toList.drop f)) hll W h)
      clear e hno hdat hex hpl hdl hll HU
      generalize Pl.readL (Pl.str (s.data.toList.drop f)).data.toList = RR at *
      go_wp2_with fail
      refine (HC.out _).mono ?_
      rintro e w5 ⟨rfl, b5⟩
      have hL5 := hLr.below b5
      have hr5 := HR.out.below b5
      have hb5 := hbw.trans (b5.mono hsz)
      clear HC b5
      go_wp2_with fail
      refine (HRD.out _ hL5).mono ?_
      rintro e w6 ⟨rfl, b6⟩
      have hr6 := hr5.below b6
      have hb6 := hb5.trans (b6.mono hb5.size)
      clear hL5 hr5 hb5 b6
      go_wp2_with fail
      go_ret2
      rw [← HRR.out, HST.out]
      exact ⟨_, rfl, World.ownsRow.alloc hr6 _, hb6.alloc hb6.size _⟩
    · rw [e] at HC
      have hll : l.length + 1 ≤ s.size - f := by rw [← hdl, hsp]; simp
      have HRD := Lib.hid (fun W (h : LibOk W) => implReadDeed (Pl.str l) (by rw [Pl.str_size]; omega) W h)
      rw [show (Pl.str l).data.toList = l from rfl] at HRD
      have hls := Pl.str_size l
      cases hd : Pl.readL l with
      | none =>
        have HST := Lib.hid (rjUp_none HU.out hl hsp hd)
        rw [hd] at HRD
        clear e hl hsp hdat hex hpl hdl hll HU hd hls
        go_wp2_with fail
        refine (HC.out _).mono ?_
        rintro e w5 ⟨rfl, b5⟩
        have hL5 := hLr.below b5
        have hr5 := HR.out.below b5
        have hb5 := hbw.trans (b5.mono hsz)
        clear HC b5
        go_wp2_with fail
        refine (HRD.out _ hL5).mono ?_
        rintro e w6 ⟨rfl, b6⟩
        simp only [Pl.rdK, Pl.rdN, Pl.rdB]
        have hr6 := hr5.below b6
        have hb6 := hb5.trans (b6.mono hb5.size)
        clear hL5 hr5 hb5 b6
        go_wp2_with fail
        go_ret2
        rw [← HRR.out, HST.out]
        exact ⟨_, rfl, World.ownsRow.alloc hr6 _, hb6.alloc hb6.size _⟩
      | some d =>
        have HN := Lib.hid (rjUp_next HU.out hl hsp hd)
        rw [hd] at HRD
        obtain ⟨dk, dn⟩ := d
        have hsl : ((Pl.str l).size : Int) = (l.length : Int) := by rw [hls]
        clear e hl hsp hdat hex hpl hdl HU hd hls
        go_wp2_with fail
        refine (HC.out _).mono ?_
        rintro e w5 ⟨rfl, b5⟩
        have hL5 := hLr.below b5
        have hr5 := HR.out.below b5
        have hb5 := hbw.trans (b5.mono hsz)
        clear HC b5
        go_wp2_with fail
        refine (HRD.out _ hL5).mono ?_
        rintro e w7 ⟨rfl, b7⟩
        simp only [Pl.rdK, Pl.rdN, Pl.rdB]
        have H7 := hr5.below b7
        have hr2 : w7.ownsRow w.heap.size 24 2 (.slice av ds.length cv) ds.length (Pl.deedCells ds) := H7
        have c7 := hb5.trans (b7.mono hb5.size)
        have hsz7 := c7.size
        have hnews : ∀ j u, [Value.int .i64 dk, Value.int .i64 dn][j]? = some u → ((w7.alloc (.cells #[.int .i64 dk, .int .i64 dn] 24)).alloc (.cells #[.int .i64 dk, .int .i64 dn] 24)).cell? ((⟨w7.heap.size + 1, 0, none⟩ : Addr).add j) = some u := by
          have := cell_deed_new (w7.alloc (.cells #[.int .i64 dk, .int .i64 dn] 24)) dk dn 24
          rwa [World.size_alloc] at this
        have HNW := Lib.hid hnews
        clear b7 H7 HR hnews hL5 hr5 hb5
        go_wp2_with (at_builtin; refine wpList_append_own _ rfl _ _ 32 rfl w.heap.size 24 i0 (.agg #[.int .i64 0, .int .i64 0]) 2 16 Tryd.underlying32 hi0 hz0 hz1 hz2 rfl (by decide) _ _ _ rfl ((hr2.alloc _).alloc _) ⟨w7.heap.size + 1, 0, none⟩ 1 1 [.int .i64 dk, .int .i64 dn] rfl rfl HNW.out (by simp [Value.oneCell']) (by unfold maxLen; omega) (by omega) (by simp; omega) ?_; intro v8 w8 hown8 hgrow8 _)
        have hb8 : Below w.heap.size w w8 := below_append ((c7.alloc (by omega) _).alloc (by simp; omega) _) ((hr2.alloc _).alloc _) hgrow8
        have H8 := Lib.hid (drow_snoc hown8)
        clear hown8 hgrow8 hr2 HNW
        go_wp2_with fail
        go_roundw
        case rel => exact ⟨_, f + (l.length + 1), by go_num, by omega, H8.out, hb8, HN.out⟩
        case measure => simp [intOf]; omega

end Go.Proofs.YtdkgabdhodddkaaDoor
