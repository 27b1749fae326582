/-
  impl: texts of deeds: DeedText, readWhole, ReadDeed.
-/
import Derived.Deep.RegionHeld3
import Derived.Deep.DeepCutAuto
import Derived.Shelf.Slices.Turned
import Derived.Shelf.Strconv.ErrVarAll
import Derived.Test.YtgkkoegfmhgcjaaDoorLibCalls
import Derived.Test.YtgkkoegfmhgcjaaDoorStructs
import Derived.Test.YtgkkoegfmhgcjaaDoorSpecRead
namespace Go.Proofs.YtgkkoegfmhgcjaaDoor
open Go.RowKit Go.Shelf

theorem wordCells_at : ∀ j : Fin 8, wordCells[j.val]? = some (.string (Pl.str (Pl.wordsL[j.val]?.getD []))) := by
  intro j
  match j with
  | ⟨0, _⟩ => rfl
  | ⟨1, _⟩ => rfl
  | ⟨2, _⟩ => rfl
  | ⟨3, _⟩ => rfl
  | ⟨4, _⟩ => rfl
  | ⟨5, _⟩ => rfl
  | ⟨6, _⟩ => rfl
  | ⟨7, _⟩ => rfl

set_option maxRecDepth 100000 in
set_option maxHeartbeats 2000000 in
theorem implDeedText (k n : Int) (w : World) (hT : TabOk w) :
    Calls Tryd.prog 8 #[.agg #[.int .i64 k, .int .i64 n]] w fun e w' => e = .returned (.string (Pl.str (Pl.deedL k n))) ∧ Below w.heap.size w w' := by
  have b0 : Below w.heap.size w (w.alloc (.cells #[.int .i64 k, .int .i64 n] 25)) := (Below.refl _ _).alloc (Nat.le_refl _) _
  have b1 : Below w.heap.size w ((w.alloc (.cells #[.int .i64 k, .int .i64 n] 25)).alloc (.cells wordCells 9)) := b0.alloc b0.size _
  by_cases h1 : k = 0 ∧ 0 ≤ n ∧ n ≤ 1000000000
  · obtain ⟨rfl, h2, h3⟩ := h1
    obtain ⟨m, rfl⟩ := Int.eq_ofNat_of_zero_le h2
    have hm : m ≤ 1000000000 := by omega
    have hD : ((⟨#[116, 111]⟩ : ByteArray) ++ ⟨#[32]⟩) ++ Pl.str (Pl.decL m) = Pl.str (Pl.deedL 0 m) := by
      rw [Pl.deedL_to hm, ← Pl.str_add]; rfl
    have hl := Pl.decL_len13 (u := m) (by omega)
    have HI := Lib.hid (fun W (h : TabOk W) => libItoa m (by omega) W h)
    have HD := Lib.hid hD
    have hs := Pl.str_size (Pl.decL m)
    have hsz : (Pl.str (Pl.decL m)).size ≤ 13 := by omega
    clear hD hs hl
    generalize Pl.str (Pl.decL m) = A at *
    generalize Pl.str (Pl.deedL 0 m) = C at *
    have HT1 := Lib.hid (hT.below b1)
    go_enter Tryd.func8, Tryd.ntmps8
    go_wp2_with (go_at_call 17; refine (implDeedWords _).mono ?_; rintro e w' ⟨rfl, rfl⟩)
    have k0 : ((w.alloc (.cells #[.int .i64 0, .int .i64 m] 25)).alloc (.cells wordCells 9)).cell? ⟨w.heap.size + 1, 0, none⟩ = some (.string ⟨#[116, 111]⟩) ∧ ((w.alloc (.cells #[.int .i64 0, .int .i64 m] 25)).alloc (.cells wordCells 9)).cell? ⟨w.heap.size, 1, none⟩ = some (.int .i64 m) :=
      ⟨by have := (SBox.new (w.alloc (.cells #[.int .i64 0, .int .i64 m] 25)) 9 wordCells).cell 0
          rwa [World.size_alloc] at this, ((SBox.new w 25 #[.int .i64 0, .int .i64 m]).alloc _).cell 1⟩
    have hfit : ¬ 9223372036854775807 < 3 + A.size := by omega
    generalize ((w.alloc (.cells #[.int .i64 0, .int .i64 m] 25)).alloc (.cells wordCells 9)) = w1 at *
    have hz : w.heap.size + 1 < w1.heap.size := World.block_lt_of_cell? _ _ k0.1
    have HTd : Hid (TabOk w1.drew) := Lib.hid (HT1.out.below ((Below.refl _ _).drew))
    go_region_held3 (fun w' => w'.cell? ⟨w.heap.size + 1, 0, none⟩ = some (.string ⟨#[116, 111]⟩) ∧ w'.cell? ⟨w.heap.size, 1, none⟩ = some (.int .i64 m))
      (first
        | with_reducible exact k0
        | with_reducible exact k1
        | assumption)
      (first
        | (go_at_call 21; ((with_reducible refine (HI.out w1.drew HTd.out).mono ?_); rintro e w2 ⟨rfl, b2⟩; have bb : Below w1.heap.size w1 w2 := ((Below.refl _ w1).drew).trans b2; have k1 : w2.cell? ⟨w.heap.size + 1, 0, none⟩ = some (.string ⟨#[116, 111]⟩) ∧ w2.cell? ⟨w.heap.size, 1, none⟩ = some (.int .i64 m) := ⟨(bb.cell (p := ⟨w.heap.size + 1, 0, none⟩) hz).trans k0.1, (bb.cell (p := ⟨w.heap.size, 1, none⟩) (by show w.heap.size < _; omega)).trans k0.2⟩)))
    go_wp2
    go_ret
    exact ⟨ret_str HD.out, b1.trans (bb.mono b1.size)⟩
  · by_cases h2 : 1 ≤ k ∧ k ≤ 7 ∧ n = 0
    · obtain ⟨h2, h3, rfl⟩ := h2
      have h7 : k = 1 ∨ k = 2 ∨ k = 3 ∨ k = 4 ∨ k = 5 ∨ k = 6 ∨ k = 7 := by omega
      clear h1 h2 h3
      rcases h7 with rfl | rfl | rfl | rfl | rfl | rfl | rfl
      · have HD : Hid (Pl.str (Pl.deedL 1 0) = ⟨#[115, 117, 109]⟩) := Lib.hid (by rw [show (1 : Int) = ((1 : Nat) : Int) from rfl, Pl.deedL_word (by omega) (by omega)]; rfl)
        have kj : ((w.alloc (.cells #[.int .i64 1, .int .i64 0] 25)).alloc (.cells wordCells 9)).cell? ⟨w.heap.size + 1, 1, none⟩ = some (.string ⟨#[115, 117, 109]⟩) := by
          have := (SBox.new (w.alloc (.cells #[.int .i64 1, .int .i64 0] 25)) 9 wordCells).cell 1
          rw [World.size_alloc] at this
          exact this
        go_enter Tryd.func8, Tryd.ntmps8
        go_wp2_with (go_at_call 17; refine (implDeedWords _).mono ?_; rintro e w' ⟨rfl, rfl⟩)
        go_ret
        exact ⟨ret_str HD.out.symm, b1⟩
      · have HD : Hid (Pl.str (Pl.deedL 2 0) = ⟨#[112, 114, 111, 100, 117, 99, 116]⟩) := Lib.hid (by rw [show (2 : Int) = ((2 : Nat) : Int) from rfl, Pl.deedL_word (by omega) (by omega)]; rfl)
        have kj : ((w.alloc (.cells #[.int .i64 2, .int .i64 0] 25)).alloc (.cells wordCells 9)).cell? ⟨w.heap.size + 1, 2, none⟩ = some (.string ⟨#[112, 114, 111, 100, 117, 99, 116]⟩) := by
          have := (SBox.new (w.alloc (.cells #[.int .i64 2, .int .i64 0] 25)) 9 wordCells).cell 2
          rw [World.size_alloc] at this
          exact this
        go_enter Tryd.func8, Tryd.ntmps8
        go_wp2_with (go_at_call 17; refine (implDeedWords _).mono ?_; rintro e w' ⟨rfl, rfl⟩)
        go_ret
        exact ⟨ret_str HD.out.symm, b1⟩
      · have HD : Hid (Pl.str (Pl.deedL 3 0) = ⟨#[115, 113, 117, 97, 114, 101, 115]⟩) := Lib.hid (by rw [show (3 : Int) = ((3 : Nat) : Int) from rfl, Pl.deedL_word (by omega) (by omega)]; rfl)
        have kj : ((w.alloc (.cells #[.int .i64 3, .int .i64 0] 25)).alloc (.cells wordCells 9)).cell? ⟨w.heap.size + 1, 3, none⟩ = some (.string ⟨#[115, 113, 117, 97, 114, 101, 115]⟩) := by
          have := (SBox.new (w.alloc (.cells #[.int .i64 3, .int .i64 0] 25)) 9 wordCells).cell 3
          rw [World.size_alloc] at this
          exact this
        go_enter Tryd.func8, Tryd.ntmps8
        go_wp2_with (go_at_call 17; refine (implDeedWords _).mono ?_; rintro e w' ⟨rfl, rfl⟩)
        go_ret
        exact ⟨ret_str HD.out.symm, b1⟩
      · have HD : Hid (Pl.str (Pl.deedL 4 0) = ⟨#[116, 117, 114, 110]⟩) := Lib.hid (by rw [show (4 : Int) = ((4 : Nat) : Int) from rfl, Pl.deedL_word (by omega) (by omega)]; rfl)
        have kj : ((w.alloc (.cells #[.int .i64 4, .int .i64 0] 25)).alloc (.cells wordCells 9)).cell? ⟨w.heap.size + 1, 4, none⟩ = some (.string ⟨#[116, 117, 114, 110]⟩) := by
          have := (SBox.new (w.alloc (.cells #[.int .i64 4, .int .i64 0] 25)) 9 wordCells).cell 4
          rw [World.size_alloc] at this
          exact this
        go_enter Tryd.func8, Tryd.ntmps8
        go_wp2_with (go_at_call 17; refine (implDeedWords _).mono ?_; rintro e w' ⟨rfl, rfl⟩)
        go_ret
        exact ⟨ret_str HD.out.symm, b1⟩
      · have HD : Hid (Pl.str (Pl.deedL 5 0) = ⟨#[97, 100, 100]⟩) := Lib.hid (by rw [show (5 : Int) = ((5 : Nat) : Int) from rfl, Pl.deedL_word (by omega) (by omega)]; rfl)
        have kj : ((w.alloc (.cells #[.int .i64 5, .int .i64 0] 25)).alloc (.cells wordCells 9)).cell? ⟨w.heap.size + 1, 5, none⟩ = some (.string ⟨#[97, 100, 100]⟩) := by
          have := (SBox.new (w.alloc (.cells #[.int .i64 5, .int .i64 0] 25)) 9 wordCells).cell 5
          rw [World.size_alloc] at this
          exact this
        go_enter Tryd.func8, Tryd.ntmps8
        go_wp2_with (go_at_call 17; refine (implDeedWords _).mono ?_; rintro e w' ⟨rfl, rfl⟩)
        go_ret
        exact ⟨ret_str HD.out.symm, b1⟩
      · have HD : Hid (Pl.str (Pl.deedL 6 0) = ⟨#[109, 97, 107, 101]⟩) := Lib.hid (by rw [show (6 : Int) = ((6 : Nat) : Int) from rfl, Pl.deedL_word (by omega) (by omega)]; rfl)
        have kj : ((w.alloc (.cells #[.int .i64 6, .int .i64 0] 25)).alloc (.cells wordCells 9)).cell? ⟨w.heap.size + 1, 6, none⟩ = some (.string ⟨#[109, 97, 107, 101]⟩) := by
          have := (SBox.new (w.alloc (.cells #[.int .i64 6, .int .i64 0] 25)) 9 wordCells).cell 6
          rw [World.size_alloc] at this
          exact this
        go_enter Tryd.func8, Tryd.ntmps8
        go_wp2_with (go_at_call 17; refine (implDeedWords _).mono ?_; rintro e w' ⟨rfl, rfl⟩)
        go_ret
        exact ⟨ret_str HD.out.symm, b1⟩
      · have HD : Hid (Pl.str (Pl.deedL 7 0) = ⟨#[98, 97, 99, 107]⟩) := Lib.hid (by rw [show (7 : Int) = ((7 : Nat) : Int) from rfl, Pl.deedL_word (by omega) (by omega)]; rfl)
        have kj : ((w.alloc (.cells #[.int .i64 7, .int .i64 0] 25)).alloc (.cells wordCells 9)).cell? ⟨w.heap.size + 1, 7, none⟩ = some (.string ⟨#[98, 97, 99, 107]⟩) := by
          have := (SBox.new (w.alloc (.cells #[.int .i64 7, .int .i64 0] 25)) 9 wordCells).cell 7
          rw [World.size_alloc] at this
          exact this
        go_enter Tryd.func8, Tryd.ntmps8
        go_wp2_with (go_at_call 17; refine (implDeedWords _).mono ?_; rintro e w' ⟨rfl, rfl⟩)
        go_ret
        exact ⟨ret_str HD.out.symm, b1⟩
    · have HD : Hid (Pl.str (Pl.deedL k n) = ⟨#[]⟩) := Lib.hid (by rw [Pl.deedL_no h1 h2]; rfl)
      by_cases hk : k = 0
      · subst hk
        by_cases hn : 0 ≤ n
        · have hn2 : ¬ n ≤ 1000000000 := fun h => h1 ⟨rfl, hn, h⟩
          clear h1 h2
          go_enter Tryd.func8, Tryd.ntmps8
          go_wp2_with (go_at_call 17; refine (implDeedWords _).mono ?_; rintro e w' ⟨rfl, rfl⟩)
          go_ret
          exact ⟨ret_str HD.out.symm, b1⟩
        · clear h1 h2
          go_enter Tryd.func8, Tryd.ntmps8
          go_wp2_with (go_at_call 17; refine (implDeedWords _).mono ?_; rintro e w' ⟨rfl, rfl⟩)
          go_ret
          exact ⟨ret_str HD.out.symm, b1⟩
      · have e0 : (k == 0) = false := by rw [beq_eq_false_iff_ne]; exact hk
        by_cases hp : 0 < k
        · by_cases h8 : k < 8
          · have hn : (n == 0) = false := by rw [beq_eq_false_iff_ne]; exact fun h => h2 ⟨by omega, by omega, h⟩
            clear h1 h2 hk
            go_enter Tryd.func8, Tryd.ntmps8
            go_wp2_with (go_at_call 17; refine (implDeedWords _).mono ?_; rintro e w' ⟨rfl, rfl⟩)
            go_ret
            exact ⟨ret_str HD.out.symm, b1⟩
          · clear h1 h2 hk
            go_enter Tryd.func8, Tryd.ntmps8
            go_wp2_with (go_at_call 17; refine (implDeedWords _).mono ?_; rintro e w' ⟨rfl, rfl⟩)
            go_ret
            exact ⟨ret_str HD.out.symm, b1⟩
        · clear h1 h2 hk
          go_enter Tryd.func8, Tryd.ntmps8
          go_wp2_with (go_at_call 17; refine (implDeedWords _).mono ?_; rintro e w' ⟨rfl, rfl⟩)
          go_ret
          exact ⟨ret_str HD.out.symm, b1⟩

/-- How the library reads a text as a number, as far as the program asks. -/
def AtoiPost (s : ByteArray) (w : World) (e : Ending) (w' : World) : Prop :=
  (∃ v : Int, Lib.atoiAll s.data.toList = .ok v ∧ e = .returned (.tuple #[.int .i64 v, .nilIface]) ∧ Below w.heap.size w w') ∨
  ((∀ v, Lib.atoiAll s.data.toList ≠ .ok v) ∧ ∃ (x : Int) (t : TypeId) (p : Value), e = .returned (.tuple #[.int .i64 x, .iface t p]) ∧ Below w.heap.size w w')
theorem libAtoi (s : ByteArray) (hs : s.size ≤ 1000000000) (w : World) (h : LibOk w) : Calls Tryd.prog 27 #[.string s] w (AtoiPost s w) := by
  cases hr : Lib.atoiAll s.data.toList with
  | ok v =>
    refine (Any.strconv_Atoi_ok Tryd.laysC172 s (by omega) v hr w).mono ?_
    rintro e w' ⟨rfl, h⟩
    refine .inl ⟨v, hr, rfl, ?_⟩
    rcases h with rfl | ⟨t, rfl⟩
    · exact Below.refl _ _
    · exact Lib.bytesWorld_below _ _ _
  | «syntax» =>
    obtain ⟨t, p, hv⟩ := h.syn
    refine (Any.strconv_Atoi_syntax_var Tryd.laysC172 s (by omega) hr t p w hv).mono ?_
    rintro e w' ⟨N, rfl, _, _, hb⟩
    exact .inr ⟨(fun v hv => by rw [hr] at hv; cases hv), 0, _, _, rfl, hb⟩
  | range =>
    obtain ⟨t, p, hv⟩ := h.ran
    refine (Any.strconv_Atoi_range_var Tryd.laysC172 s (by omega) hr t p w hv).mono ?_
    rintro e w' ⟨N, rfl, _, _, hb⟩
    exact .inr ⟨(fun v hv => by rw [hr] at hv; cases hv), _, _, _, rfl, hb⟩

theorem bytes_same {a b : List UInt8} : ((Pl.str a).toList == (Pl.str b).toList) = decide (a = b) := by
  by_cases h : a = b
  · subst h; simp
  · rw [decide_eq_false h, Lib.bytes_beq_false_iff]
    exact fun e => h (Pl.str_inj e)

set_option maxRecDepth 100000 in
set_option maxHeartbeats 2000000 in
theorem implReadWhole (s : List UInt8) (hs : s.length ≤ 1000000000) (w : World) (hL : LibOk w) :
    Calls Tryd.prog 15 #[.string (Pl.str s)] w fun e w' => e = .returned (.tuple #[.int .i64 (Pl.whI s), .bool (Pl.whB s)]) ∧ Below w.heap.size w w' := by
  have HA := Lib.hid (libAtoi (Pl.str s) (by rw [Pl.str_size]; exact hs) w hL)
  have hd : (Pl.str s).data.toList = s := rfl
  obtain ⟨R, hR⟩ : ∃ R : Int × Bool, (Pl.whI s, Pl.whB s) = R := ⟨_, rfl⟩
  have HR1 : Hid (Pl.whI s = R.1) := Lib.hid (by rw [← hR])
  have HR2 : Hid (Pl.whB s = R.2) := Lib.hid (by rw [← hR])
  rw [HR1.out, HR2.out]
  clear hR
  go_enter Tryd.func15, Tryd.ntmps15
  go_wp2_with fail
  refine HA.out.mono ?_
  rintro e w1 (⟨v, hv, rfl, b1⟩ | ⟨hno, x, t, p, rfl, b1⟩)
  · rw [hd] at hv
    by_cases h0 : v < 0 ∨ 1000000000 < v
    · have hn : ¬ 0 ≤ Pl.readN s := fun h => by
        obtain ⟨u, hu, _, rfl⟩ := Pl.readN_yes h
        rw [Pl.atoi_dec hu] at hv
        injection hv with hv
        omega
      obtain ⟨g1, g2⟩ := Pl.whI_none hn
      have H1 := Lib.hid (HR1.out.symm.trans g1)
      have H2 := Lib.hid (HR2.out.symm.trans g2)
      clear hv hn g1 g2 HR1 HR2 HA hd
      by_cases h1 : v < 0
      · clear h0
        go_wp2
        go_ret2
        rw [H1.out, H2.out]
        exact ⟨rfl, b1⟩
      · have h2 : 1000000000 < v := by omega
        clear h0
        go_wp2
        go_ret2
        rw [H1.out, H2.out]
        exact ⟨rfl, b1⟩
    · obtain ⟨u, rfl⟩ := Int.eq_ofNat_of_zero_le (show 0 ≤ v by omega)
      have hu : u ≤ 1000000000 := by omega
      have HI := Lib.hid (libItoa u (by omega) w1 (hL.tab.below b1))
      have h1 : ¬ (u : Int) < 0 := by omega
      have h2 : ¬ (1000000000 : Int) < (u : Int) := by omega
      by_cases hs2 : Pl.decL u = s
      · have hb : ((Pl.str (Pl.decL u)).toList == (Pl.str s).toList) = true := by rw [bytes_same]; exact decide_eq_true hs2
        have hb2 : ((Pl.str (Pl.decL u)).toList != (Pl.str s).toList) = false := by rw [bne, hb]; rfl
        obtain ⟨g1, g2⟩ := Pl.whI_dec hu
        rw [hs2] at g1 g2
        have H1 := Lib.hid (HR1.out.symm.trans g1)
        have H2 := Lib.hid (HR2.out.symm.trans g2)
        clear hv h0 hs2 g1 g2 HR1 HR2 HA hd
        generalize Pl.str (Pl.decL u) = A at *
        generalize Pl.str s = C at *
        go_wp2_with fail
        refine HI.out.mono ?_
        rintro e w2 ⟨rfl, b2⟩
        go_wp2
        go_ret2
        rw [H1.out, H2.out]
        exact ⟨rfl, b1.trans (b2.mono b1.size)⟩
      · have hb : ((Pl.str (Pl.decL u)).toList == (Pl.str s).toList) = false := by rw [bytes_same]; exact decide_eq_false hs2
        have hb2 : ((Pl.str (Pl.decL u)).toList != (Pl.str s).toList) = true := by rw [bne, hb]; rfl
        have hn : ¬ 0 ≤ Pl.readN s := fun h => by
          obtain ⟨u', hu', _, rfl⟩ := Pl.readN_yes h
          rw [Pl.atoi_dec hu'] at hv
          injection hv with hv
          exact hs2 (by rw [show u' = u by omega])
        obtain ⟨g1, g2⟩ := Pl.whI_none hn
        have H1 := Lib.hid (HR1.out.symm.trans g1)
        have H2 := Lib.hid (HR2.out.symm.trans g2)
        clear hv h0 hs2 hn g1 g2 HR1 HR2 HA hd
        generalize Pl.str (Pl.decL u) = A at *
        generalize Pl.str s = C at *
        go_wp2_with fail
        refine HI.out.mono ?_
        rintro e w2 ⟨rfl, b2⟩
        go_wp2
        go_ret2
        rw [H1.out, H2.out]
        exact ⟨rfl, b1.trans (b2.mono b1.size)⟩
  · rw [hd] at hno
    have hn : ¬ 0 ≤ Pl.readN s := fun h => by
      obtain ⟨u', hu', _, rfl⟩ := Pl.readN_yes h
      exact hno _ (Pl.atoi_dec hu')
    obtain ⟨g1, g2⟩ := Pl.whI_none hn
    have H1 := Lib.hid (HR1.out.symm.trans g1)
    have H2 := Lib.hid (HR2.out.symm.trans g2)
    clear hno hn g1 g2 HR1 HR2 HA hd
    go_wp2
    go_ret2
    rw [H1.out, H2.out]
    exact ⟨rfl, b1⟩

theorem idxWords (b : Nat) (x : List UInt8) (w : World) (h : SBox w b 9 wordCells) :
    Calls Tryd.prog 16 #[.slice (some ⟨b, 0, none⟩) 8 8, .string (Pl.str x)] w fun e w' => e = .returned (.int .i64 (Pl.wIdx x)) ∧ w = w' := by
  refine (Any.slices_Index_string Tryd.lays109 b 0 8 8 (Pl.wordsL.map Pl.str) (Pl.str x) w (by decide) (by decide) ?_).mono ?_
  · intro j hj
    have hj8 : j < 8 := hj
    rw [Nat.zero_add, h.cell j, wordCells_at ⟨j, hj8⟩]
    have : j = 0 ∨ j = 1 ∨ j = 2 ∨ j = 3 ∨ j = 4 ∨ j = 5 ∨ j = 6 ∨ j = 7 := by omega
    rcases this with rfl | rfl | rfl | rfl | rfl | rfl | rfl | rfl <;> rfl
  · rintro e w' ⟨rfl, rfl⟩
    exact ⟨rfl, rfl⟩

set_option maxRecDepth 100000 in
set_option maxHeartbeats 2000000 in
theorem implReadDeed (s : ByteArray) (hs : s.size ≤ 1000000000) (w : World) (hL : LibOk w) :
    Calls Tryd.prog 5 #[.string s] w fun e w' => e = .returned (.tuple #[.agg #[.int .i64 (Pl.rdK (Pl.readL s.data.toList)), .int .i64 (Pl.rdN (Pl.readL s.data.toList))], .bool (Pl.rdB (Pl.readL s.data.toList))]) ∧ Below w.heap.size w w' := by
  have hlen := Pl.data_len s
  have hb0 : Below w.heap.size w (w.alloc (.cells #[.int .i64 0, .int .i64 0] 25)) := (Below.refl _ _).alloc (Nat.le_refl _) _
  have hR0 : SBox (w.alloc (.cells #[.int .i64 0, .int .i64 0] 25)) w.heap.size 25 #[.int .i64 0, .int .i64 0] := SBox.new _ _ _
  have HC := Lib.hid (fun W => libCut s 32 hs W)
  have h2 : (Pl.cut1 32 s.data.toList).2.1.length ≤ 1000000000 := by
    rcases Pl.cut1_cases 32 s.data.toList with ⟨_, e⟩ | ⟨l, r, _, hs', e⟩
    · rw [e]; simp
    · rw [e]
      have : s.data.toList.length = (l ++ 32 :: r).length := by rw [← hs']
      simp at this ⊢; omega
  have HW := Lib.hid (fun W (h : LibOk W) => implReadWhole (Pl.cut1 32 s.data.toList).2.1 h2 W h)
  have HI := Lib.hid (fun b W (h : SBox W b 9 wordCells) => idxWords b (Pl.cut1 32 s.data.toList).1 W h)
  have HT := Lib.hid (fun W (h : TabOk W) => implDeedText (Pl.candK s.data.toList) (Pl.candN s.data.toList) W h)
  have hk : Pl.wIdx (Pl.cut1 32 s.data.toList).1 = Pl.candK s.data.toList := rfl
  have hn : Pl.whI (Pl.cut1 32 s.data.toList).2.1 = Pl.candN s.data.toList := rfl
  rw [hk] at HI
  rw [hn] at HW
  obtain ⟨R, hR⟩ : ∃ R, Pl.readL s.data.toList = R := ⟨_, rfl⟩
  rw [hR]
  have HRR := Lib.hid hR
  have HY : Hid (s.data.toList ≠ [] → Pl.deedL (Pl.candK s.data.toList) (Pl.candN s.data.toList) = s.data.toList → R = some (Pl.candK s.data.toList, Pl.candN s.data.toList)) := Lib.hid fun h0 h => by rw [← hR]; exact Pl.read_yes h0 h
  have HN : Hid (Pl.deedL (Pl.candK s.data.toList) (Pl.candN s.data.toList) ≠ s.data.toList → R = none) := Lib.hid fun h => by rw [← hR]; exact Pl.read_no h
  have HE : Hid (s.data.toList = [] → R = none) := Lib.hid fun h => by rw [← hR, h]; exact Pl.read_nil
  obtain ⟨L, hLd⟩ : ∃ L, s.data.toList = L := ⟨_, rfl⟩
  obtain rfl : s = Pl.str L := by rw [← hLd]; rfl
  rw [show (Pl.str L).data.toList = L from rfl] at *
  have HT1 := Lib.hid (hL.below hb0)
  have HR0 := Lib.hid hR0
  clear h2 hk hn hR hLd hlen hR0
  generalize Pl.candK L = K at *
  generalize Pl.candN L = N at *
  generalize Pl.whB (Pl.cut1 32 L).2.1 = B at *
  generalize (Pl.cut1 32 L).1 = X at *
  generalize (Pl.cut1 32 L).2.1 = Y at *
  generalize (Pl.cut1 32 L).2.2 = Z at *
  go_enter Tryd.func5, Tryd.ntmps5
  go_wp2_with fail
  generalize w.alloc (.cells #[.int .i64 0, .int .i64 0] 25) = w0 at *
  refine (HC.out _).mono ?_
  rintro e w1 ⟨rfl, b1⟩
  have hR1 := HR0.out.kept b1
  have hL1 := HT1.out.below b1
  have hb1 := hb0.trans (b1.mono hb0.size)
  clear b1 HR0 HT1 hb0 HC
  go_wp2_with fail
  refine (HW.out _ hL1).mono ?_
  rintro e w2 ⟨rfl, b2⟩
  have hR2 := hR1.kept b2
  have hL2 := hL1.below b2
  have hb2 := hb1.trans (b2.mono hb1.size)
  clear b2 hR1 hL1 hb1 HW
  have hW2 := SBox.new w2 9 wordCells
  have hR3 := hR2.alloc (.cells wordCells 9)
  have hL3 := hL2.below ((Below.refl _ _).alloc (Nat.le_refl _) (.cells wordCells 9))
  have hb3 := hb2.alloc hb2.size (.cells wordCells 9)
  go_wp2_with (go_at_call 17; refine (implDeedWords _).mono ?_; rintro e w' ⟨rfl, rfl⟩)
  refine (HI.out _ _ hW2).mono ?_
  rintro e w' ⟨rfl, rfl⟩
  generalize w2.alloc (.cells wordCells 9) = w3 at *
  have HE4 := Lib.hid (SBox.new w3 25 #[.int .i64 K, .int .i64 N])
  have HR4 := Lib.hid (hR3.alloc (.cells #[.int .i64 K, .int .i64 N] 25))
  have HL4 := Lib.hid (hL3.below ((Below.refl _ _).alloc (Nat.le_refl _) (.cells #[.int .i64 K, .int .i64 N] 25)))
  have hb4 := hb3.alloc hb3.size (.cells #[.int .i64 K, .int .i64 N] 25)
  clear hW2 hR2 hR3 hL2 hL3 hb2 hb3 HI
  by_cases h0 : L = []
  · have HRE := Lib.hid (HE.out h0)
    have hb : ((Pl.str L).toList == (⟨#[]⟩ : ByteArray).toList) = true := by rw [h0, show Pl.str [] = (⟨#[]⟩ : ByteArray) from rfl]; exact beq_self_eq_true _
    have hbe : (Pl.str L).toList = [] := by rw [h0, ByteArray.toList_eq]; rfl
    clear h0 HE HY HN HT
    go_upto_region 4 with (fail)
    generalize w3.alloc (.cells #[.int .i64 K, .int .i64 N] 25) = w4 at *
    go_wp2_with (refine deed_store rfl _ _ rfl rfl rfl HR4.out ?_; intro w5 hS5 hbl5 hsz5 _)
    refine bodyPost_ret (results_cell_tmp rfl _ _ w.heap.size #[.int .i64 0, .int .i64 0] _ (.bool false) rfl rfl hS5 rfl Tryd.underlying25 (by rw [size_deed]; rfl)) rfl ?_
    rw [HRE.out]
    exact ⟨rfl, hb4.trans (hbl5 w.heap.size (by omega))⟩
  · have hne : ((Pl.str L).toList == (⟨#[]⟩ : ByteArray).toList) = false := by
      rw [show (⟨#[]⟩ : ByteArray) = Pl.str [] from rfl, bytes_same]; exact decide_eq_false h0
    have hne3 : ¬ (Pl.str L).toList = [] := by rw [ByteArray.toList_eq]; exact h0
    have hne2 : (Pl.str L).toList.isEmpty = false := by
      rw [ByteArray.toList_eq]
      cases L with
      | nil => exact absurd rfl h0
      | cons a t => rfl
    have HNE : Hid (L ≠ []) := Lib.hid h0
    clear h0 HE hne
    have HL4b := Lib.hid HL4.out.tab
    by_cases hm : Pl.deedL K N = L
    · have HRE := Lib.hid (HY.out HNE.out hm)
      have hb : ((Pl.str (Pl.deedL K N)).toList == (Pl.str L).toList) = true := by rw [bytes_same]; exact decide_eq_true hm
      have hb2 : ((Pl.str (Pl.deedL K N)).toList != (Pl.str L).toList) = false := by rw [bne, hb]; rfl
      clear hm HY HN
      generalize Pl.str (Pl.deedL K N) = A at *
      generalize hS : Pl.str L = S at *
      clear hS
      go_upto_region 4 with (fail)
      generalize w3.alloc (.cells #[.int .i64 K, .int .i64 N] 25) = w4 at *
      have ek := HE4.out.cell 0
      have en := HE4.out.cell 1
      go_wp2_with fail
      refine (HT.out _ HL4b.out).mono ?_
      rintro e w5 ⟨rfl, b5⟩
      clear ek en
      have HR5 := Lib.hid (HR4.out.kept b5)
      have HE5 := Lib.hid (HE4.out.kept b5)
      have hb5 := hb4.trans (b5.mono hb4.size)
      clear b5 HR4 HE4 HT
      go_wp2_with (first | (refine deed_load rfl _ rfl rfl HE5.out ?_) | (refine deed_store rfl _ _ rfl rfl rfl HR5.out ?_; intro w6 hS6 hbl6 hsz6 _))
      refine bodyPost_ret (results_cell_tmp rfl _ _ w.heap.size #[.int .i64 K, .int .i64 N] _ (.bool true) rfl rfl hS6 rfl Tryd.underlying25 (by rw [size_deed]; rfl)) rfl ?_
      rw [HRE.out]
      exact ⟨rfl, hb5.trans (hbl6 w.heap.size (by omega))⟩
    · have HRE := Lib.hid (HN.out hm)
      have hb : ((Pl.str (Pl.deedL K N)).toList == (Pl.str L).toList) = false := by rw [bytes_same]; exact decide_eq_false hm
      have hb2 : ((Pl.str (Pl.deedL K N)).toList != (Pl.str L).toList) = true := by rw [bne, hb]; rfl
      clear hm HY HN
      generalize Pl.str (Pl.deedL K N) = A at *
      generalize hS : Pl.str L = S at *
      clear hS
      go_upto_region 4 with (fail)
      generalize w3.alloc (.cells #[.int .i64 K, .int .i64 N] 25) = w4 at *
      have ek := HE4.out.cell 0
      have en := HE4.out.cell 1
      go_wp2_with fail
      refine (HT.out _ HL4b.out).mono ?_
      rintro e w5 ⟨rfl, b5⟩
      clear ek en
      have HR5 := Lib.hid (HR4.out.kept b5)
      have hb5 := hb4.trans (b5.mono hb4.size)
      clear b5 HR4 HE4 HT
      go_wp2_with (refine deed_store rfl _ _ rfl rfl rfl HR5.out ?_; intro w6 hS6 hbl6 hsz6 _)
      refine bodyPost_ret (results_cell_tmp rfl _ _ w.heap.size #[.int .i64 0, .int .i64 0] _ (.bool false) rfl rfl hS6 rfl Tryd.underlying25 (by rw [size_deed]; rfl)) rfl ?_
      rw [HRE.out]
      exact ⟨rfl, hb5.trans (hbl6 w.heap.size (by omega))⟩

end Go.Proofs.YtgkkoegfmhgcjaaDoor
