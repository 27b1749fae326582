/-
  Chapter 12: the walk of the law of ReadDeed, its inputs drawn.
-/
import Derived.Test.YtgkkoegfmhgcjaaDoorDeedI
import Derived.Test.YtgkkoegfmhgcjaaDoorSpecRead
import Derived.Test.YtgkkoegfmhgcjaaDoorDrawText
import Derived.Test.YtgkkoegfmhgcjaaDoorArgs
namespace Go.Proofs.YtgkkoegfmhgcjaaDoor
open Go.RowKit Go.Shelf

theorem FnReadDeed_lib {W : World} (h : laidMetH Tryd.prog Rows.fnReadDeedRow.laid W) : LibOk W := by
  rw [MakeChecks.laidMetH_plain _ _ _ (by kernel_rfl)] at h
  exact lib_of_laid h

/-- What the slots hold where a text is spoilt. -/
def spoilEnv (r : Nat) (s : ByteArray) (k : Nat) : Nat → Option Sq
  | 0 => some (.is (.pointer (some ⟨r, 0, none⟩)))
  | 1 => some (.is (.string s))
  | 5 => some (.is (.int .i64 k))
  | 13 => some (.is (.string s))
  | 14 => some (.is (.int .i64 k))
  | 15 => some (.strLe s.size)
  | 16 => some (.texts 6 4)
  | 17 => some (.is (.pointer (some ⟨r, 0, none⟩)))
  | 18 => some (.lt 6)
  | 19 => some (.textAt 4)
  | 20 => some (.strLe 4)
  | 21 => some (.strLe (s.size + 4))
  | 22 => some (.is (.string s))
  | 23 => some (.is (.int .i64 k))
  | 24 => some (.is (.int .i64 (k + 1)))
  | 25 => some (.strLe s.size)
  | 26 => some (.strLe (s.size + 4 + s.size))
  | 4 => some (.strLe (s.size + 4 + s.size))
  | _ => none

/-- A text is drawn. -/
def TextDraw (w0 : World) (r q : Nat) (w : World) (n : Nat) (e : Ending) (w' : World) : Prop :=
  ∃ t : ByteArray, e = .returned (.string t) ∧ t.size ≤ n ∧ Rd w0 r q w' ∧ Only r w w'

set_option maxRecDepth 100000 in
set_option maxHeartbeats 4000000 in
theorem l20Spoil (w0 : World) (r q : Nat) (s : ByteArray) (w : World) (hR : Rd w0 r q w) (hq : q ≤ 30000) (hs : s.size ≤ 10000) :
    Calls Tryd.prog 13 #[.pointer (some ⟨r, 0, none⟩), .string s] w (TextDraw w0 r (q + 100) w (s.size + 4 + s.size)) := by
  by_cases h0 : s.size = 0
  · have h0' : (s.size : Int) = 0 := by omega
    go_enter Tryd.func13, Tryd.ntmps13
    go_wp2_with fail
    go_ret
    exact ⟨_, rfl, by show 1 ≤ _; omega, hR.le (by omega), Only.refl _ _⟩
  · have h0' : ¬ (s.size : Int) = 0 := by omega
    go_enter Tryd.func13, Tryd.ntmps13
    go_wp2_with fail
    refine (pick w0 r q s.size w (by omega) hR).mono ?_
    rintro e w1 ⟨x, rfl, x0, x1, hR1, hO1⟩
    have x2 := x1 (by omega)
    obtain ⟨k, rfl⟩ := Int.eq_ofNat_of_zero_le x0
    have hk : k < s.size := by omega
    clear x1 hR
    go_wp2_with fail
    refine wp_region_sq (q0 := q + 1) (Co := 5) (M := 50000) (spoilEnv r s k) mixed (by kernel_rfl) ?_ hR1 (by simp; omega) ?_ ?_
    · intro t z h hn
      unfold spoilEnv at h
      split at h <;> first | (cases h; done) | (cases h; rfl) | exact absurd (by decide) hn
    · intro i o hio a W q' hin hR' hq'
      rcases i with _ | _ | _ | _ | _ | _ | _ | _ | _ | _ | _ | _ | _ | _ | _ | i
      all_goals first
        | (cases hio; done)
        | (obtain rfl := Option.some.inj hio)
      · exact ⟨_, fun d hd => by cases hd; rfl, sq_copy (.inl rfl) (hin 1 _ (by simp [Op.operands]) rfl) hR'⟩
      · exact ⟨_, fun d hd => by cases hd; rfl, sq_copy (.inl rfl) (hin 5 _ (by simp [Op.operands]) rfl) hR'⟩
      · refine ⟨_, fun d hd => by cases hd; rfl, ?_⟩
        have e1 := hin 13 _ (by simp [Op.operands]) rfl
        have e2 := hin 14 _ (by simp [Op.operands]) rfl
        exact sq_cut rfl e1 e2 (by omega) hR'
      · exact ⟨_, fun d hd => by cases hd; rfl, sq_texts rfl (by decide) (by decide) (by decide) hR'⟩
      · exact ⟨_, fun d hd => by cases hd; rfl, sq_copy (.inl rfl) (hin 0 _ (by simp [Op.operands]) rfl) hR'⟩
      · exact ⟨_, fun d hd => by cases hd; rfl, sq_pick rfl rfl rfl (hin 17 _ (by simp [Op.operands, Call.operands]) rfl) (by decide) (by decide) hR' (by omega) (by omega)⟩
      · exact ⟨_, fun d hd => by cases hd; rfl, sq_at rfl (hin 16 _ (by simp [Op.operands]) rfl) (hin 18 _ (by simp [Op.operands]) rfl) (by decide) hR'⟩
      · exact ⟨_, fun d hd => by cases hd; rfl, sq_load rfl (hin 19 _ (by simp [Op.operands]) rfl) hR'⟩
      · exact ⟨_, fun d hd => by cases hd; rfl, sq_cat rfl (hin 15 _ (by simp [Op.operands]) rfl) (hin 20 _ (by simp [Op.operands]) rfl) (by omega) hR'⟩
      · exact ⟨_, fun d hd => by cases hd; rfl, sq_copy (.inl rfl) (hin 1 _ (by simp [Op.operands]) rfl) hR'⟩
      · exact ⟨_, fun d hd => by cases hd; rfl, sq_copy (.inl rfl) (hin 5 _ (by simp [Op.operands]) rfl) hR'⟩
      · refine ⟨_, fun d hd => by cases hd; rfl, ?_⟩
        have e1 := hin 23 _ (by simp [Op.operands]) rfl
        exact sq_next rfl e1 (by omega) hR'
      · refine ⟨_, fun d hd => by cases hd; rfl, ?_⟩
        have e1 := hin 22 _ (by simp [Op.operands]) rfl
        have e2 := hin 24 _ (by simp [Op.operands]) rfl
        exact sq_rest rfl e1 e2 (by omega) hR'
      · exact ⟨_, fun d hd => by cases hd; rfl, sq_cat rfl (hin 21 _ (by simp [Op.operands]) rfl) (hin 25 _ (by simp [Op.operands]) rfl) (by omega) hR'⟩
      · exact ⟨_, fun d hd => by cases hd; rfl, sq_copy (.inr rfl) (hin 26 _ (by simp [Op.operands]) rfl) hR'⟩
    · intro f W hin hold hR' hO
      obtain ⟨t, ht, h1⟩ := hin 4 _ rfl
      simp only [List.size_toArray, List.length_cons, List.length_nil, Nat.reduceAdd, List.range, List.range.loop, List.map_cons, List.map_nil] at hR' ⊢
      rw [ht]
      go_wp2
      go_ret
      exact ⟨t, rfl, h1, hR'.le (by omega), hO1.trans hO⟩

/-- A text. -/
def TextPost (w : World) (n : Nat) (e : Ending) (w' : World) : Prop := ∃ t : ByteArray, e = .returned (.string t) ∧ t.size ≤ n ∧ Below w.heap.size w w'

set_option maxHeartbeats 1000000 in
theorem drawReadDeed (a : Option Addr) (len cap : Nat) (z : List Int) (w : World) (h : IsRow .u8 w a len cap z) :
    Calls Tryd.prog 4 #[.slice a len cap] w (TextPost w 30) := by
  go_enter Tryd.func4, Tryd.ntmps4
  go_wp2_with fail
  refine (l20Open _ _ _ _ _ h).mono ?_
  rintro e w1 ⟨r, rfl, hr⟩
  clear h
  go_wp2_with fail
  refine (l20Deed w r 0 w1 hr (by omega)).mono ?_
  rintro e w2 ⟨k, n, rfl, hr2, hO⟩
  clear hr
  have HS := Lib.hid (fun W => specDeedText k n W)
  have hlen := Pl.deedL_len k n
  have hsz := Pl.str_size (Pl.deedL k n)
  generalize Pl.str (Pl.deedL k n) = A at *
  go_wp2_with fail
  refine (HS.out _).mono ?_
  rintro e w3 ⟨rfl, b3⟩
  have hr3 := hr2.over (b3.mono (by have := hr2.lt; omega))
  clear hr2 hO
  go_wp2_with fail
  refine (pick w r _ 3 w3 (by omega) hr3).mono ?_
  rintro e w4 ⟨x, rfl, x0, x1, hr4, hO4⟩
  by_cases hx : x = 0
  · subst hx
    go_wp2_with fail
    refine (l20Spoil w r _ A w4 hr4 (by omega) (by omega)).mono ?_
    rintro e w5 ⟨t, rfl, ht, hr5, hO5⟩
    go_wp2
    go_ret
    exact ⟨t, rfl, by omega, hr5.below⟩
  · go_wp2_with fail
    go_ret
    exact ⟨A, rfl, by omega, hr4.below⟩

set_option maxRecDepth 100000 in
set_option maxHeartbeats 2000000 in
theorem FnReadDeed_walk (a0 : Option Addr) (len0 cap0 : Nat) (z0 : List Int) (w : World) (w0 : IsRow .u8 w a0 len0 cap0 z0) (hL : LibOk w) :
    Calls Tryd.prog 3 #[.slice a0 len0 cap0] w fun e w' => e = .returned (.bool true) ∧ Below w.heap.size w w' := by
  by_cases hl : 1048576 < len0
  · go_enter Tryd.func3, Tryd.ntmps3
    go_wp2
    go_ret
    exact ⟨rfl, Below.refl _ _⟩
  · have HL := Lib.hid hL
    clear hL
    go_enter Tryd.func3, Tryd.ntmps3
    go_wp2_with fail
    refine (drawReadDeed _ _ _ _ _ w0).mono ?_
    rintro e w1 ⟨s, rfl, hs, hb1⟩
    clear w0
    have HI := Lib.hid (implReadDeed s (by omega))
    have HS := Lib.hid (specReadDeed s (by omega))
    cases hr : Pl.readL s.data.toList with
    | none =>
      rw [hr] at HI HS
      simp only [Pl.rdK, Pl.rdN, Pl.rdB] at HI HS
      clear hr hs
      go_wp2_with fail
      refine (HI.out _ (HL.out.below hb1)).mono ?_
      rintro e w2 ⟨rfl, b2⟩
      have c2 := (hb1.trans (b2.mono hb1.size)).alloc (by have := hb1.size; have := b2.size; omega) (.cells #[.int .i64 0, .int .i64 0] 25)
      have S2 := SBox.new w2 25 #[.int .i64 0, .int .i64 0]
      clear hb1 b2
      go_wp2_with fail
      refine (HS.out _).mono ?_
      rintro e w3 ⟨rfl, b3⟩
      have S3 := (S2.kept b3).alloc (.cells #[.int .i64 0, .int .i64 0] 25)
      have T3 := SBox.new w3 25 #[.int .i64 0, .int .i64 0]
      have c3' := c2.trans (b3.mono c2.size)
      have c3 := c3'.alloc c3'.size (.cells #[.int .i64 0, .int .i64 0] 25)
      have d0 := S3.cell 0
      have d1 := S3.cell 1
      have f0 := T3.cell 0
      have f1 := T3.cell 1
      clear S2 b3 c2 c3'
      go_wp2_with (go_at_call 7; refine (alive _).mono ?_; rintro e w' ⟨rfl, rfl⟩)
      go_ret
      exact ⟨rfl, c3⟩
    | some d =>
      obtain ⟨k, n⟩ := d
      obtain ⟨hd, h0⟩ := Pl.readL_some hr
      rw [hr] at HI HS
      simp only [Pl.rdK, Pl.rdN, Pl.rdB] at HI HS
      have HT := Lib.hid (fun W (h : TabOk W) => implDeedText k n W h)
      rw [hd, Pl.str_self] at HT
      have HN := Lib.hid (fun W (h : LibOk W) => implReadDeed (s ++ ⟨#[32]⟩) (by rw [ByteArray.size_append]; show s.size + 1 ≤ _; omega) W h)
      rw [show (s ++ (⟨#[32]⟩ : ByteArray)).data.toList = s.data.toList ++ [32] from by
        have := Pl.str_add s.data.toList [32]
        rw [Pl.str_self] at this
        exact congrArg (fun x => x.data.toList) this, Pl.readL_space] at HN
      simp only [Pl.rdK, Pl.rdN, Pl.rdB] at HN
      have hfit : ¬ 9223372036854775807 < s.size + 1 := by omega
      clear hr hd h0 hs
      go_wp2_with fail
      refine (HI.out _ (HL.out.below hb1)).mono ?_
      rintro e w2 ⟨rfl, b2⟩
      have c2 := (hb1.trans (b2.mono hb1.size)).alloc (by have := hb1.size; have := b2.size; omega) (.cells #[.int .i64 k, .int .i64 n] 25)
      have S2 := SBox.new w2 25 #[.int .i64 k, .int .i64 n]
      clear hb1 b2
      go_wp2_with fail
      refine (HS.out _).mono ?_
      rintro e w3 ⟨rfl, b3⟩
      have S3 := (S2.kept b3).alloc (.cells #[.int .i64 k, .int .i64 n] 25)
      have T3 := SBox.new w3 25 #[.int .i64 k, .int .i64 n]
      have c3' := c2.trans (b3.mono c2.size)
      have c3 := c3'.alloc c3'.size (.cells #[.int .i64 k, .int .i64 n] 25)
      have d0 := S3.cell 0
      have d1 := S3.cell 1
      have f0 := T3.cell 0
      have f1 := T3.cell 1
      clear S2 b3 c2 c3'
      go_wp2_with fail
      refine (HN.out _ (HL.out.below c3)).mono ?_
      rintro e w4 ⟨rfl, b4⟩
      have S4 := (S3.kept b4).alloc (.cells #[.int .i64 0, .int .i64 0] 25)
      have c4' := c3.trans (b4.mono c3.size)
      have c4 := c4'.alloc c4'.size (.cells #[.int .i64 0, .int .i64 0] 25)
      clear c4' d0 d1 f0 f1 S3 T3 b4 c3
      go_wp2_with (first | (refine deed_load rfl _ rfl rfl S4 ?_))
      refine (HT.out _ (HL.out.below c4).tab).mono ?_
      rintro e w5 ⟨rfl, b5⟩
      have c5 := c4.trans (b5.mono c4.size)
      go_wp2
      go_ret
      exact ⟨rfl, c5⟩

end Go.Proofs.YtgkkoegfmhgcjaaDoor
