/-
  Chapter 12: the walk of the law of DeskDo, its inputs drawn.
-/
import Derived.Test.YtakkjlcnfkklpaaDrawDesk
import Derived.Test.YtakkjlcnfkklpaaDeskLaws
import Derived.Test.YtakkjlcnfkklpaaArgs
import Derived.BigQuiet
import Derived.Test.YtakkjlcnfkklpaaCalm
namespace Go.Proofs.Ytakkjlcnfkklpaa
open Go.RowKit Go.Shelf

/-- A desk and a deed. -/
def DeskDeedGot (w : World) (e : Ending) (w' : World) : Prop :=
  ∃ (d : Pl.Dk) (v : Value) (k n : Int), e = .returned (.tuple #[.agg #[.int .i64 d.b, .int .i64 d.n, v], .agg #[.int .i64 k, .int .i64 n]]) ∧ Ints w' v d.past ∧ d.past.length ≤ 20 ∧ Below w.heap.size w w'

set_option maxRecDepth 100000 in
set_option maxHeartbeats 2000000 in
theorem drawDeskDo (a : Option Addr) (len cap : Nat) (z : List Int) (w : World) (h : IsRow .u8 w a len cap z) :
    Calls Try.prog 20 #[.slice a len cap] w (DeskDeedGot w) := by
  have b0 : Below w.heap.size w (w.alloc (.cells #[.int .i64 0, .int .i64 0, .slice none 0 0] 25)) := (Below.refl _ _).alloc (Nat.le_refl _) _
  have b1 : Below w.heap.size w ((w.alloc (.cells #[.int .i64 0, .int .i64 0, .slice none 0 0] 25)).alloc (.cells #[.int .i64 0, .int .i64 0] 36)) := b0.alloc b0.size _
  have h1 := h.stay b1
  have D1 := (SBox.new w 25 #[.int .i64 0, .int .i64 0, .slice none 0 0]).alloc (.cells #[.int .i64 0, .int .i64 0] 36)
  have E1 : SBox ((w.alloc (.cells #[.int .i64 0, .int .i64 0, .slice none 0 0] 25)).alloc (.cells #[.int .i64 0, .int .i64 0] 36)) (w.heap.size + 1) 36 #[.int .i64 0, .int .i64 0] := by
    have := SBox.new (w.alloc (.cells #[.int .i64 0, .int .i64 0, .slice none 0 0] 25)) 36 #[.int .i64 0, .int .i64 0]
    rwa [World.size_alloc] at this
  have z1 : w.heap.size + 2 ≤ ((w.alloc (.cells #[.int .i64 0, .int .i64 0, .slice none 0 0] 25)).alloc (.cells #[.int .i64 0, .int .i64 0] 36)).heap.size := by simp
  clear h b0
  go_enter Try.func20, Try.ntmps20
  go_upto_region 1 with (fail)
  generalize (w.alloc (.cells #[.int .i64 0, .int .i64 0, .slice none 0 0] 25)).alloc (.cells #[.int .i64 0, .int .i64 0] 36) = W at *
  go_wp2_with fail
  refine (l20Open _ _ _ _ _ h1).mono ?_
  rintro e w1 ⟨r, rfl, hr⟩
  have hlt := hr.lt
  have D2 := D1.kept hr.below
  have E2 := E1.kept hr.below
  clear h1 D1 E1
  go_wp2_with fail
  refine (l20Desk W r 0 12 w1 hr (by omega) (by omega) (by omega)).mono ?_
  rintro e w2 ⟨d, v, rfl, hd, hlen, hr2, hO⟩
  obtain ⟨a2, l2, rfl⟩ := hd.shape
  have s2 := hO.size
  have hb3 : Below w2.heap.size w2 (w2.alloc (.cells #[.int .i64 d.b, .int .i64 d.n, .slice a2 d.past.length l2] 25)) := (Below.refl _ _).alloc (Nat.le_refl _) _
  have S3 := SBox.new w2 25 #[.int .i64 d.b, .int .i64 d.n, .slice a2 d.past.length l2]
  have D3 := (D2.only hO (by omega)).kept hb3
  have E3 := (E2.only hO (by omega)).kept hb3
  have T3 := Lib.hid (Row.below hd hb3)
  have R3 := hr2.kept hb3
  have s3 := hb3.size
  have hgr : w2.heap.size ≠ r := by omega
  clear hr D2 E2 hr2 hd hO hb3
  go_upto_region 3 with (fail)
  generalize w2.alloc (.cells #[.int .i64 d.b, .int .i64 d.n, .slice a2 d.past.length l2] 25) = w3 at *
  have hr3 : r < w3.heap.size := R3.lt.2
  have HD := Lib.hid (fun U (h : Rd W r (0 + 2000) U) => l20Deed W r _ U h (by omega))
  have y0 : w3.cell? ⟨w2.heap.size, 0, none⟩ = some (.int .i64 d.b) ∧ w3.cell? ⟨w2.heap.size, 1, none⟩ = some (.int .i64 d.n) ∧ w3.cell? ⟨w2.heap.size, 2, none⟩ = some (.slice a2 d.past.length l2) := ⟨S3.cell 0, S3.cell 1, S3.cell 2⟩
  go_region_held3 (fun w' => w'.cell? ⟨w2.heap.size, 0, none⟩ = some (.int .i64 d.b) ∧ w'.cell? ⟨w2.heap.size, 1, none⟩ = some (.int .i64 d.n) ∧ w'.cell? ⟨w2.heap.size, 2, none⟩ = some (.slice a2 d.past.length l2))
    (first
      | with_reducible exact y0
      | with_reducible exact y1
      | with_reducible exact y2
      | with_reducible exact y3
      | with_reducible exact y4
      | with_reducible exact y5
      | assumption)
    (first
      | (go_at_call 45; (with_reducible refine (HD.out _ (R3.kept ((Below.refl _ w3).drew))).mono ?_); rintro e v1 ⟨dk, dn, rfl, R4, o1'⟩; have o1 : Only r w3 v1 := (Only.of_below ((Below.refl _ w3).drew)).trans o1'; have y1 : v1.cell? ⟨w2.heap.size, 0, none⟩ = some (.int .i64 d.b) ∧ v1.cell? ⟨w2.heap.size, 1, none⟩ = some (.int .i64 d.n) ∧ v1.cell? ⟨w2.heap.size, 2, none⟩ = some (.slice a2 d.past.length l2) := ⟨(S3.only o1 hgr).cell 0, (S3.only o1 hgr).cell 1, (S3.only o1 hgr).cell 2⟩; have D4 := D3.only o1 (by omega); have E4 := E3.only o1 (by omega); have p0 := D4.cell 0; have p1 := D4.cell 1; have p2 := D4.cell 2; have f0 := D4.frozen 0; have f1 := D4.frozen 1; have f2 := D4.frozen 2; have q0 := E4.cell 0; have q1 := E4.cell 1; have k0 := E4.frozen 0; have k1 := E4.frozen 1; have na : w2.heap.size ≠ w.heap.size := (by omega); have nb : w2.heap.size ≠ w.heap.size + 1 := (by omega); have y2 : (((v1.setCell ⟨w.heap.size, 0, none⟩ (.int .i64 d.b)).setCell ⟨w.heap.size, 1, none⟩ (.int .i64 d.n)).setCell ⟨w.heap.size, 2, none⟩ (.slice a2 d.past.length l2)).cell? ⟨w2.heap.size, 0, none⟩ = some (.int .i64 d.b) ∧ (((v1.setCell ⟨w.heap.size, 0, none⟩ (.int .i64 d.b)).setCell ⟨w.heap.size, 1, none⟩ (.int .i64 d.n)).setCell ⟨w.heap.size, 2, none⟩ (.slice a2 d.past.length l2)).cell? ⟨w2.heap.size, 1, none⟩ = some (.int .i64 d.n) ∧ (((v1.setCell ⟨w.heap.size, 0, none⟩ (.int .i64 d.b)).setCell ⟨w.heap.size, 1, none⟩ (.int .i64 d.n)).setCell ⟨w.heap.size, 2, none⟩ (.slice a2 d.past.length l2)).cell? ⟨w2.heap.size, 2, none⟩ = some (.slice a2 d.past.length l2) := ⟨(SBox.far3 (S3.only o1 hgr) na _ _ _).cell 0, (SBox.far3 (S3.only o1 hgr) na _ _ _).cell 1, (SBox.far3 (S3.only o1 hgr) na _ _ _).cell 2⟩; have y3 : ((v1.setCell ⟨w.heap.size + 1, 0, none⟩ (.int .i64 dk)).setCell ⟨w.heap.size + 1, 1, none⟩ (.int .i64 dn)).cell? ⟨w2.heap.size, 0, none⟩ = some (.int .i64 d.b) ∧ ((v1.setCell ⟨w.heap.size + 1, 0, none⟩ (.int .i64 dk)).setCell ⟨w.heap.size + 1, 1, none⟩ (.int .i64 dn)).cell? ⟨w2.heap.size, 1, none⟩ = some (.int .i64 d.n) ∧ ((v1.setCell ⟨w.heap.size + 1, 0, none⟩ (.int .i64 dk)).setCell ⟨w.heap.size + 1, 1, none⟩ (.int .i64 dn)).cell? ⟨w2.heap.size, 2, none⟩ = some (.slice a2 d.past.length l2) := ⟨((SBox.far (S3.only o1 hgr) (p := ⟨w.heap.size + 1, 0, none⟩) nb _).far (p := ⟨w.heap.size + 1, 1, none⟩) nb _).cell 0, ((SBox.far (S3.only o1 hgr) (p := ⟨w.heap.size + 1, 0, none⟩) nb _).far (p := ⟨w.heap.size + 1, 1, none⟩) nb _).cell 1, ((SBox.far (S3.only o1 hgr) (p := ⟨w.heap.size + 1, 0, none⟩) nb _).far (p := ⟨w.heap.size + 1, 1, none⟩) nb _).cell 2⟩; have y4 : (((((v1.setCell ⟨w.heap.size, 0, none⟩ (.int .i64 d.b)).setCell ⟨w.heap.size, 1, none⟩ (.int .i64 d.n)).setCell ⟨w.heap.size, 2, none⟩ (.slice a2 d.past.length l2)).setCell ⟨w.heap.size + 1, 0, none⟩ (.int .i64 dk)).setCell ⟨w.heap.size + 1, 1, none⟩ (.int .i64 dn)).cell? ⟨w2.heap.size, 0, none⟩ = some (.int .i64 d.b) ∧ (((((v1.setCell ⟨w.heap.size, 0, none⟩ (.int .i64 d.b)).setCell ⟨w.heap.size, 1, none⟩ (.int .i64 d.n)).setCell ⟨w.heap.size, 2, none⟩ (.slice a2 d.past.length l2)).setCell ⟨w.heap.size + 1, 0, none⟩ (.int .i64 dk)).setCell ⟨w.heap.size + 1, 1, none⟩ (.int .i64 dn)).cell? ⟨w2.heap.size, 1, none⟩ = some (.int .i64 d.n) ∧ (((((v1.setCell ⟨w.heap.size, 0, none⟩ (.int .i64 d.b)).setCell ⟨w.heap.size, 1, none⟩ (.int .i64 d.n)).setCell ⟨w.heap.size, 2, none⟩ (.slice a2 d.past.length l2)).setCell ⟨w.heap.size + 1, 0, none⟩ (.int .i64 dk)).setCell ⟨w.heap.size + 1, 1, none⟩ (.int .i64 dn)).cell? ⟨w2.heap.size, 2, none⟩ = some (.slice a2 d.past.length l2) := ⟨((SBox.far (SBox.far3 (S3.only o1 hgr) na _ _ _) (p := ⟨w.heap.size + 1, 0, none⟩) nb _).far (p := ⟨w.heap.size + 1, 1, none⟩) nb _).cell 0, ((SBox.far (SBox.far3 (S3.only o1 hgr) na _ _ _) (p := ⟨w.heap.size + 1, 0, none⟩) nb _).far (p := ⟨w.heap.size + 1, 1, none⟩) nb _).cell 1, ((SBox.far (SBox.far3 (S3.only o1 hgr) na _ _ _) (p := ⟨w.heap.size + 1, 0, none⟩) nb _).far (p := ⟨w.heap.size + 1, 1, none⟩) nb _).cell 2⟩; have y5 : (((((v1.setCell ⟨w.heap.size + 1, 0, none⟩ (.int .i64 dk)).setCell ⟨w.heap.size + 1, 1, none⟩ (.int .i64 dn)).setCell ⟨w.heap.size, 0, none⟩ (.int .i64 d.b)).setCell ⟨w.heap.size, 1, none⟩ (.int .i64 d.n)).setCell ⟨w.heap.size, 2, none⟩ (.slice a2 d.past.length l2)).cell? ⟨w2.heap.size, 0, none⟩ = some (.int .i64 d.b) ∧ (((((v1.setCell ⟨w.heap.size + 1, 0, none⟩ (.int .i64 dk)).setCell ⟨w.heap.size + 1, 1, none⟩ (.int .i64 dn)).setCell ⟨w.heap.size, 0, none⟩ (.int .i64 d.b)).setCell ⟨w.heap.size, 1, none⟩ (.int .i64 d.n)).setCell ⟨w.heap.size, 2, none⟩ (.slice a2 d.past.length l2)).cell? ⟨w2.heap.size, 1, none⟩ = some (.int .i64 d.n) ∧ (((((v1.setCell ⟨w.heap.size + 1, 0, none⟩ (.int .i64 dk)).setCell ⟨w.heap.size + 1, 1, none⟩ (.int .i64 dn)).setCell ⟨w.heap.size, 0, none⟩ (.int .i64 d.b)).setCell ⟨w.heap.size, 1, none⟩ (.int .i64 d.n)).setCell ⟨w.heap.size, 2, none⟩ (.slice a2 d.past.length l2)).cell? ⟨w2.heap.size, 2, none⟩ = some (.slice a2 d.past.length l2) := ⟨(SBox.far3 ((SBox.far (S3.only o1 hgr) (p := ⟨w.heap.size + 1, 0, none⟩) nb _).far (p := ⟨w.heap.size + 1, 1, none⟩) nb _) na _ _ _).cell 0, (SBox.far3 ((SBox.far (S3.only o1 hgr) (p := ⟨w.heap.size + 1, 0, none⟩) nb _).far (p := ⟨w.heap.size + 1, 1, none⟩) nb _) na _ _ _).cell 1, (SBox.far3 ((SBox.far (S3.only o1 hgr) (p := ⟨w.heap.size + 1, 0, none⟩) nb _).far (p := ⟨w.heap.size + 1, 1, none⟩) nb _) na _ _ _).cell 2⟩; clear o1'))
  clear y0 y1 y2 y3 y4 y5 p0 p1 p2 f0 f1 f2 q0 q1 k0 k1 na nb HD
  have DA := D4.three (.int .i64 d.b) (.int .i64 d.n) (.slice a2 d.past.length l2)
  have EA := SBox.far3 (g := w.heap.size) E4 (by omega) (.int .i64 d.b) (.int .i64 d.n) (.slice a2 d.past.length l2)
  have DB := (DA.far (p := ⟨w.heap.size + 1, 0, none⟩) (by simp) (.int .i64 dk)).far (p := ⟨w.heap.size + 1, 1, none⟩) (by simp) (.int .i64 dn)
  have EB : SBox _ (w.heap.size + 1) 36 #[.int .i64 dk, .int .i64 dn] := (EA.set 0 (.int .i64 dk)).set 1 (.int .i64 dn)
  have T4 := T3.out.onlyB hlt.2 o1
  have TA := ((T4.setBox D4 (by decide) 0 (.int .i64 d.b)).setBox (D4.set 0 _) (by decide) 1 (.int .i64 d.n)).setBox ((D4.set 0 _).set 1 _) (by decide) 2 (.slice a2 d.past.length l2)
  have TB := Lib.hid ((TA.setBox EA (by decide) 0 (.int .i64 dk)).setBox (EA.set 0 _) (by decide) 1 (.int .i64 dn)).ints
  have c4 := b1.trans (R4.below.mono b1.size)
  have cB := ((below_three c4 (Nat.le_refl _) (.int .i64 d.b) (.int .i64 d.n) (.slice a2 d.past.length l2)).setCell (p := ⟨w.heap.size + 1, 0, none⟩) (by simp) (.int .i64 dk)).setCell (p := ⟨w.heap.size + 1, 1, none⟩) (by simp) (.int .i64 dn)
  clear DA EA T4 TA c4 D4 E4 D3 E3 S3 T3 R3 R4
  go_wp2_with fail
  refine bodyPost_ret (results_cell_cell rfl _ _ w.heap.size (w.heap.size + 1) #[.int .i64 d.b, .int .i64 d.n, .slice a2 d.past.length l2] #[.int .i64 dk, .int .i64 dn] _ _ rfl rfl DB EB rfl Try.underlying25 (by rw [size_desk]; rfl) rfl Try.underlying36 (by rw [size_deed]; rfl)) rfl ?_
  exact ⟨d, _, dk, dn, rfl, TB.out, hlen, cB⟩

set_option maxRecDepth 100000 in
set_option maxHeartbeats 4000000 in
theorem FnDeskDo_walk (a0 : Option Addr) (len0 cap0 : Nat) (z0 : List Int) (w : World) (w0 : IsRow .u8 w a0 len0 cap0 z0) :
    Calls Try.prog 5 #[.slice a0 len0 cap0] w fun e w' => e = .returned (.bool true) ∧ Below w.heap.size w w' := by
  by_cases hl : 1048576 < len0
  · go_enter Try.func5, Try.ntmps5
    go_wp2
    go_ret
    exact ⟨rfl, Below.refl _ _⟩
  · go_enter Try.func5, Try.ntmps5
    go_wp2_with fail
    refine (drawDeskDo _ _ _ _ _ w0).mono ?_
    rintro e w1 ⟨d, v, k, n, rfl, hd, hlen, hb1⟩
    obtain ⟨a, cap, rfl, _⟩ := id hd
    clear w0
    have b4 : Below w1.heap.size w1 ((w1.alloc (.cells #[.int .i64 d.b, .int .i64 d.n, .slice a d.past.length cap] 25)).alloc (.cells #[.int .i64 k, .int .i64 n] 36)) := ((Below.refl _ w1).alloc (Nat.le_refl _) _).alloc (by simp) _
    have A4 := (SBox.new w1 25 #[.int .i64 d.b, .int .i64 d.n, .slice a d.past.length cap]).alloc (.cells #[.int .i64 k, .int .i64 n] 36)
    have E4 : SBox ((w1.alloc (.cells #[.int .i64 d.b, .int .i64 d.n, .slice a d.past.length cap] 25)).alloc (.cells #[.int .i64 k, .int .i64 n] 36)) (w1.heap.size + 1) 36 #[.int .i64 k, .int .i64 n] := by
      have := SBox.new (w1.alloc (.cells #[.int .i64 d.b, .int .i64 d.n, .slice a d.past.length cap] 25)) 36 #[.int .i64 k, .int .i64 n]
      rwa [World.size_alloc] at this
    have c4 := hb1.trans (b4.mono hb1.size)
    have i4 := Lib.hid (hd.below b4)
    have HI := Lib.hid (fun pv W (h : Ints W pv d.past) => implDeskDo d pv k n W h (by omega))
    have HS := Lib.hid (fun pv W (h : Ints W pv d.past) => specDeskDo d pv k n W h (by omega))
    have HDK := Lib.hid (fun pv W (h : Ints W pv d.past) => implDeskOk d pv W h (by omega))
    have h1 := Pl.doA_more d k n
    have h2 := fun h => Pl.doA_not_same (d := d) (k := k) (n := n) h
    have h3 := fun h => Pl.doA_none (d := d) (k := k) (n := n) h
    have h4 := fun h => Pl.doA_desk (d := d) (k := k) (n := n) h
    have h5 := fun h => Pl.doA_undo (d := d) (k := k) (n := n) h
    have h6 := fun h => Pl.doA_root (d := d) (k := k) (n := n) h
    obtain ⟨⟨D, f⟩, hR⟩ : ∃ R, Pl.doA d k n = R := ⟨_, rfl⟩
    rw [hR] at h1 h2 h3 h4 h5 h6 HI HS
    simp only at h1 h2 h3 h4 h5 h6 HI HS
    have H2 := Lib.hid h2
    have H3 := Lib.hid h3
    have H4 := Lib.hid h4
    have H5 := Lib.hid h5
    have H6 := Lib.hid h6
    have HE : Hid (Pl.sameA D D = true) := Lib.hid (by simp [Pl.sameA, eqL])
    clear hb1 hd b4 h2 h3 h4 h5 h6 hR
    go_upto_region 4 with (fail)
    generalize (w1.alloc (.cells #[.int .i64 d.b, .int .i64 d.n, .slice a d.past.length cap] 25)).alloc (.cells #[.int .i64 k, .int .i64 n] 36) = W4 at *
    go_wp2_with (first | (refine desk_load rfl _ rfl rfl A4 ?_) | (refine deed_load rfl _ rfl rfl E4 ?_))
    refine (HI.out _ W4 i4.out).mono ?_
    rintro e w5 ⟨v5, rfl, o5, _, b5⟩
    have j5 := o5.ints
    obtain ⟨a5, l5, rfl, _⟩ := o5.ints
    have n5 : Below w5.heap.size w5 (w5.alloc (.cells #[.int .i64 D.b, .int .i64 D.n, .slice a5 D.past.length l5] 25)) := (Below.refl _ _).alloc (Nat.le_refl _) _
    have A5 := (A4.kept b5).kept n5
    have E5 := (E4.kept b5).kept n5
    have X5 := SBox.new w5 25 #[.int .i64 D.b, .int .i64 D.n, .slice a5 D.past.length l5]
    have i5 := Lib.hid ((i4.out.below b5).below n5)
    have j5' := Lib.hid (j5.below n5)
    have c5' := c4.trans (b5.mono c4.size)
    have c5 := c5'.trans (n5.mono c5'.size)
    clear A4 E4 i4 o5 b5 j5 n5 c4 c5' HI
    go_wp2_with (first | (refine desk_load rfl _ rfl rfl A5 ?_) | (refine deed_load rfl _ rfl rfl E5 ?_))
    refine (HS.out _ _ i5.out).mono ?_
    rintro e w6 ⟨v6, rfl, o6, _, b6⟩
    have y6 := o6.ints
    obtain ⟨a6, l6, rfl, _⟩ := o6.ints
    have n6 : Below w6.heap.size w6 (w6.alloc (.cells #[.int .i64 D.b, .int .i64 D.n, .slice a6 D.past.length l6] 25)) := (Below.refl _ _).alloc (Nat.le_refl _) _
    have A6 := (A5.kept b6).kept n6
    have E6 := (E5.kept b6).kept n6
    have X6 := (X5.kept b6).kept n6
    have Y6 := SBox.new w6 25 #[.int .i64 D.b, .int .i64 D.n, .slice a6 D.past.length l6]
    have i6 := Lib.hid ((i5.out.below b6).below n6)
    have j6 := Lib.hid ((j5'.out.below b6).below n6)
    have y6' := Lib.hid (y6.below n6)
    have c6' := c5.trans (b6.mono c5.size)
    have c6 := c6'.trans (n6.mono c6'.size)
    clear A5 E5 X5 i5 j5' o6 b6 y6 n6 c5 c6' HS
    go_wp2_with (first | (refine desk_load rfl _ rfl rfl X6 ?_) | (refine desk_load rfl _ rfl rfl Y6 ?_))
    refine (sameDesk D D _ _ _ j6.out y6'.out (by omega)).mono ?_
    rintro e w7 ⟨rfl, b7⟩
    rw [HE.out]
    have A7 := A6.kept b7
    have E7 := E6.kept b7
    have X7 := X6.kept b7
    have i7 := Lib.hid (i6.out.below b7)
    have j7 := Lib.hid (j6.out.below b7)
    have c7 := c6.trans (b7.mono c6.size)
    clear A6 E6 X6 Y6 i6 j6 y6' b7 c6
    cases f with
    | false =>
      by_cases hB : Pl.dkB d = true
      · obtain rfl : D = d := H2.out hB rfl
        clear hB H2 H3 H4 H5 H6
        go_wp2_with (first | (refine desk_load rfl _ rfl rfl X7 ?_) | (refine desk_load rfl _ rfl rfl A7 ?_))
        refine (sameDesk D D _ _ _ j7.out i7.out (by omega)).mono ?_
        rintro e w8 ⟨rfl, b8⟩
        rw [HE.out]
        have c8 := c7.trans (b8.mono c7.size)
        clear A7 E7 X7 i7 j7 c7 b8
        go_wp2_with (go_at_call 14; refine (alive _).mono ?_; rintro e w' ⟨rfl, rfl⟩)
        go_ret
        exact ⟨rfl, c8⟩
      · have hBf : Pl.dkB d = false := by simpa using hB
        rw [hBf] at HDK
        clear hB hBf H2 H3 H4 H5 H6
        go_wp2_with (first | (refine desk_load rfl _ rfl rfl X7 ?_) | (refine desk_load rfl _ rfl rfl A7 ?_))
        refine (sameDesk D d _ _ _ j7.out i7.out (by omega)).mono ?_
        rintro e w8 ⟨rfl, b8⟩
        have A8 := A7.kept b8
        have i8 := Lib.hid (i7.out.below b8)
        have c8 := c7.trans (b8.mono c7.size)
        clear A7 E7 X7 i7 j7 c7 b8
        cases Pl.sameA D d with
        | true =>
          go_wp2_with (go_at_call 14; refine (alive _).mono ?_; rintro e w' ⟨rfl, rfl⟩)
          go_ret
          exact ⟨rfl, c8⟩
        | false =>
          have g0 := A8.cell 0
          have g1 := A8.cell 1
          have g2 := A8.cell 2
          go_wp2_with fail
          refine (HDK.out _ _ i8.out).mono ?_
          rintro e w9 ⟨rfl, b9⟩
          have c9 := c8.trans (b9.mono c8.size)
          clear A8 i8 c8 b9 g0 g1 g2
          go_wp2_with (go_at_call 14; refine (alive _).mono ?_; rintro e w' ⟨rfl, rfl⟩)
          go_ret
          exact ⟨rfl, c9⟩
    | true =>
      have hB : Pl.dkB d = true := Classical.byContradiction fun h => by have := H3.out h; simp at this
      have hD := H4.out hB
      have hbb : (D.b == d.b) = true := by simp [hD.2]
      have HOK := Lib.hid (fun pv W (h : Ints W pv D.past) => implDeskOk D pv W h (by omega))
      rw [hD.1] at HOK
      have HBK := Lib.hid (fun pv W (h : Ints W pv D.past) => implDeskDo D pv 7 0 W h (by omega))
      have hP1 := Pl.doA_more D 7 0
      have HU : Hid (k ≠ 7 → d.past.length < 8 → Pl.doA D 7 0 = (d, true)) := Lib.hid (fun x y => H5.out hB rfl x y)
      obtain ⟨⟨P, g⟩, hP⟩ : ∃ R, Pl.doA D 7 0 = R := ⟨_, rfl⟩
      rw [hP] at HBK hP1 HU
      simp only at HBK hP1
      have HRT := Lib.hid (fun x => H6.out hB rfl x)
      have HHB := Lib.hid hbb
      clear hP hD hB H2 H3 H4 H5 H6 HDK hbb
      go_wp2_with (first | (refine desk_load rfl _ rfl rfl X7 ?_))
      refine (HBK.out _ _ j7.out).mono ?_
      rintro e w8 ⟨v8, rfl, o8, _, b8⟩
      have p8 := o8.ints
      obtain ⟨a8, l8, rfl, _⟩ := o8.ints
      have n8 : Below w8.heap.size w8 (w8.alloc (.cells #[.int .i64 P.b, .int .i64 P.n, .slice a8 P.past.length l8] 25)) := (Below.refl _ _).alloc (Nat.le_refl _) _
      have A9 := (A7.kept b8).kept n8
      have E9 := (E7.kept b8).kept n8
      have X9 := (X7.kept b8).kept n8
      have Z9 := SBox.new w8 25 #[.int .i64 P.b, .int .i64 P.n, .slice a8 P.past.length l8]
      have i9 := Lib.hid ((i7.out.below b8).below n8)
      have j9 := Lib.hid ((j7.out.below b8).below n8)
      have p9 := Lib.hid (p8.below n8)
      have c9' := c7.trans (b8.mono c7.size)
      have c9 := c9'.trans (n8.mono c9'.size)
      clear A7 E7 X7 i7 j7 o8 p8 b8 n8 c7 c9' HBK
      go_upto_region 11 with (fail)
      generalize w8.alloc (.cells #[.int .i64 P.b, .int .i64 P.n, .slice a8 P.past.length l8] 25) = w9 at *
      go_cut [11] (fun s wc => s = .bool true ∧ Below w9.heap.size w9 wc)
      case first =>
        by_cases hk : k = 1 ∨ k = 4
        · have hroot := HRT.out hk
          have HR1 := Lib.hid (implRootOf D.n D.b)
          have HR2 := Lib.hid (implRootOf d.n d.b)
          rw [hroot] at HR1
          clear hroot HRT HU
          generalize Pl.rootI d.n d.b = T at *
          have x0 := X9.cell 0
          have x1 := X9.cell 1
          have x2 := A9.cell 0
          have x3 := A9.cell 1
          have mX := X9.lt
          have mA := A9.lt
          have mE := E9.lt
          rcases hk with rfl | rfl
          all_goals
            have x4 := E9.cell 0
            refine wp_region_calm mixed (by kernel_rfl) ?_
            iterate 22 (first
              | go_big_quiet_skip
              | (go_big_quiet_want
                 first
                   | (go_big_quiet_op; go_big_quiet_on)
                   | (apply Exists.intro
                      refine ⟨fun W hW => ?_, ?_⟩
                      · have e0 := Below.cell hW mX x0
                        have e1 := Below.cell hW mX x1
                        have e2 := Below.cell hW mA x2
                        have e3 := Below.cell hW mA x3
                        have e4 := Below.cell hW mE x4
                        go_simp
                        first | done | exact rfl
                      simp only [Act.put, List.setIfInBounds_toArray, List.set_cons_zero, List.set_cons_succ]
                      go_big_quiet_on)
                   | (go_big_quiet_op
                      apply Exists.intro
                      refine ⟨?_, ?_⟩
                      · intro W hW
                        with_reducible exact Calm.call hW (HR1.out _)
                      go_big_quiet_on)
                   | (go_big_quiet_op
                      apply Exists.intro
                      refine ⟨?_, ?_⟩
                      · intro W hW
                        with_reducible exact Calm.call hW (HR2.out _)
                      go_big_quiet_on)))
            refine wpQuiet_nil ?_
            intro W hW
            go_wp2_with fail
            go_meet
            exact ⟨rfl, hW⟩
        · have hk1 : (k != 1) = true := by simp; omega
          have hk4 : (k != 4) = true := by simp; omega
          have e0 := E9.cell 0
          clear hk HRT HU
          go_quiet (fail)
          go_wp2
          go_meet
          exact ⟨rfl, drewN_below _ _⟩
      case rest =>
        obtain ⟨rfl, b10⟩ := hcut
        obtain ⟨w10, hw⟩ : ∃ u, u = wc := ⟨_, rfl⟩
        subst hw
        have A10 := A9.kept b10
        have E10 := E9.kept b10
        have X10 := X9.kept b10
        have Z10 := Z9.kept b10
        have i10 := Lib.hid (i9.out.below b10)
        have j10 := Lib.hid (j9.out.below b10)
        have p10 := Lib.hid (p9.out.below b10)
        have c10 := c9.trans (b10.mono c9.size)
        have hbb := HHB.out
        clear A9 E9 X9 Z9 i9 j9 p9 c9 b10 HRT HHB
        go_wp2_with (first | (refine desk_load rfl _ rfl rfl X10 ?_))
        refine (HOK.out _ _ j10.out).mono ?_
        rintro e w11 ⟨rfl, b11⟩
        have c11 := c10.trans (b11.mono c10.size)
        have X11 := X10.kept b11
        have A11 := A10.kept b11
        have E11 := E10.kept b11
        have Z11 := Z10.kept b11
        have g0 := X11.cell 0
        have g1 := A11.cell 0
        have g2 := A11.cell 1
        have g3 := A11.cell 2
        have g4 := E11.cell 0
        have g5 := Z11.cell 0
        have g6 := Z11.cell 1
        have g7 := Z11.cell 2
        have i11 := Lib.hid (i10.out.below b11)
        have p11 := Lib.hid (p10.out.below b11)
        clear X10 A10 E10 Z10 j10 i10 p10 b11 c10 X11 A11 E11 Z11
        by_cases hk7 : k = 7
        · subst hk7
          clear HU
          go_wp2
          go_ret
          exact ⟨rfl, c11⟩
        · have hk7b : (k == 7) = false := by simp [hk7]
          by_cases hp8 : 8 ≤ d.past.length
          · have hp8i : (8 : Int) ≤ (d.past.length : Int) := by omega
            clear HU
            go_wp2
            go_ret
            exact ⟨rfl, c11⟩
          · have hp8i : ¬ (8 : Int) ≤ (d.past.length : Int) := by omega
            have hU := HU.out hk7 (by omega)
            obtain ⟨rfl, rfl⟩ := Prod.mk.inj hU
            clear HU hU
            go_wp2_with fail
            refine (sameDesk P P _ _ _ p11.out i11.out (by omega)).mono ?_
            rintro e w12 ⟨rfl, b12⟩
            have hS : Pl.sameA P P = true := by simp [Pl.sameA, eqL]
            rw [hS]
            have c12 := c11.trans (b12.mono c11.size)
            clear hS b12 c11
            go_wp2
            go_ret
            exact ⟨rfl, c12⟩

end Go.Proofs.Ytakkjlcnfkklpaa
