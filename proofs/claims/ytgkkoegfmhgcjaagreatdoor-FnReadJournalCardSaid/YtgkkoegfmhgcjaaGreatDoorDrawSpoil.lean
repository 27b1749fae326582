/-
  A text spoilt.
-/
import Derived.Test.YtgkkoegfmhgcjaaGreatDoorGDraw
namespace Go.Proofs.YtgkkoegfmhgcjaaGreatDoor
open Go.RowKit Go.Shelf

/-- What the slots hold where a text is spoilt. -/
def spoilEnv (r : Nat) (s : ByteArray) (k : Nat) : Nat → Option Sq
  | 0 => some (.is (.pointer (some ⟨r, 0, none⟩)))
  | 1 => some (.is (.string s))
  | 5 => some (.is (.int .i64 k))
  | 13 => some (.is (.string s))
  | 14 => some (.is (.int .i64 k))
  | 15 => some (.strLe s.size)
  | 16 => some (.texts 6 4)
  | 17 => some (.is (.pointer (some ⟨r, 0, none⟩)))
  | 18 => some (.lt 6)
  | 19 => some (.textAt 4)
  | 20 => some (.strLe 4)
  | 21 => some (.strLe (s.size + 4))
  | 22 => some (.is (.string s))
  | 23 => some (.is (.int .i64 k))
  | 24 => some (.is (.int .i64 (k + 1)))
  | 25 => some (.strLe s.size)
  | 26 => some (.strLe (s.size + 4 + s.size))
  | 4 => some (.strLe (s.size + 4 + s.size))
  | _ => none

/-- A text is drawn. -/
def TextDraw (w0 : World) (r q : Nat) (w : World) (n : Nat) (e : Ending) (w' : World) : Prop :=
  ∃ t : ByteArray, e = .returned (.string t) ∧ t.size ≤ n ∧ Rd w0 r q w' ∧ Only r w w'

set_option maxRecDepth 100000 in
set_option maxHeartbeats 4000000 in
theorem l20Spoil (w0 : World) (r q : Nat) (s : ByteArray) (w : World) (hR : Rd w0 r q w) (hq : q ≤ 30000) (hs : s.size ≤ 10000) :
    Calls Tryz.prog 42 #[.pointer (some ⟨r, 0, none⟩), .string s] w (TextDraw w0 r (q + 100) w (s.size + 4 + s.size)) := by
  by_cases h0 : s.size = 0
  · have h0' : (s.size : Int) = 0 := by omega
    go_enter Tryz.func42, Tryz.ntmps42
    go_wp2_with fail
    go_ret
    exact ⟨_, rfl, by show 1 ≤ _; omega, hR.le (by omega), Only.refl _ _⟩
  · have h0' : ¬ (s.size : Int) = 0 := by omega
    go_enter Tryz.func42, Tryz.ntmps42
    go_wp2_with fail
    refine (pick w0 r q s.size w (by omega) hR).mono ?_
    rintro e w1 ⟨x, rfl, x0, x1, hR1, hO1⟩
    have x2 := x1 (by omega)
    obtain ⟨k, rfl⟩ := Int.eq_ofNat_of_zero_le x0
    have hk : k < s.size := by omega
    clear x1 hR
    go_wp2_with fail
    refine wp_region_sq (q0 := q + 1) (Co := 5) (M := 50000) (spoilEnv r s k) mixed (by kernel_rfl) ?_ hR1 (by simp; omega) ?_ ?_
    · intro t z h hn
      unfold spoilEnv at h
      split at h <;> first | (cases h; done) | (cases h; rfl) | exact absurd (by decide) hn
    · intro i o hio a W q' hin hR' hq'
      rcases i with _ | _ | _ | _ | _ | _ | _ | _ | _ | _ | _ | _ | _ | _ | _ | i
      all_goals first
        | (cases hio; done)
        | (obtain rfl := Option.some.inj hio)
      · exact ⟨_, fun d hd => by cases hd; rfl, sq_copy (.inl rfl) (hin 1 _ (by simp [Op.operands]) rfl) hR'⟩
      · exact ⟨_, fun d hd => by cases hd; rfl, sq_copy (.inl rfl) (hin 5 _ (by simp [Op.operands]) rfl) hR'⟩
      · refine ⟨_, fun d hd => by cases hd; rfl, ?_⟩
        have e1 := hin 13 _ (by simp [Op.operands]) rfl
        have e2 := hin 14 _ (by simp [Op.operands]) rfl
        exact sq_cut rfl e1 e2 (by omega) hR'
      · exact ⟨_, fun d hd => by cases hd; rfl, sq_texts rfl (by decide) (by decide) (by decide) hR'⟩
      · exact ⟨_, fun d hd => by cases hd; rfl, sq_copy (.inl rfl) (hin 0 _ (by simp [Op.operands]) rfl) hR'⟩
      · exact ⟨_, fun d hd => by cases hd; rfl, sq_pick rfl rfl rfl (hin 17 _ (by simp [Op.operands, Call.operands]) rfl) (by decide) (by decide) hR' (by omega) (by omega)⟩
      · exact ⟨_, fun d hd => by cases hd; rfl, sq_at rfl (hin 16 _ (by simp [Op.operands]) rfl) (hin 18 _ (by simp [Op.operands]) rfl) (by decide) hR'⟩
      · exact ⟨_, fun d hd => by cases hd; rfl, sq_load rfl (hin 19 _ (by simp [Op.operands]) rfl) hR'⟩
      · exact ⟨_, fun d hd => by cases hd; rfl, sq_cat rfl (hin 15 _ (by simp [Op.operands]) rfl) (hin 20 _ (by simp [Op.operands]) rfl) (by omega) hR'⟩
      · exact ⟨_, fun d hd => by cases hd; rfl, sq_copy (.inl rfl) (hin 1 _ (by simp [Op.operands]) rfl) hR'⟩
      · exact ⟨_, fun d hd => by cases hd; rfl, sq_copy (.inl rfl) (hin 5 _ (by simp [Op.operands]) rfl) hR'⟩
      · refine ⟨_, fun d hd => by cases hd; rfl, ?_⟩
        have e1 := hin 23 _ (by simp [Op.operands]) rfl
        exact sq_next rfl e1 (by omega) hR'
      · refine ⟨_, fun d hd => by cases hd; rfl, ?_⟩
        have e1 := hin 22 _ (by simp [Op.operands]) rfl
        have e2 := hin 24 _ (by simp [Op.operands]) rfl
        exact sq_rest rfl e1 e2 (by omega) hR'
      · exact ⟨_, fun d hd => by cases hd; rfl, sq_cat rfl (hin 21 _ (by simp [Op.operands]) rfl) (hin 25 _ (by simp [Op.operands]) rfl) (by omega) hR'⟩
      · exact ⟨_, fun d hd => by cases hd; rfl, sq_copy (.inr rfl) (hin 26 _ (by simp [Op.operands]) rfl) hR'⟩
    · intro f W hin hold hR' hO
      obtain ⟨t, ht, h1⟩ := hin 4 _ rfl
      simp only [List.size_toArray, List.length_cons, List.length_nil, Nat.reduceAdd, List.range, List.range.loop, List.map_cons, List.map_nil] at hR' ⊢
      rw [ht]
      go_wp2
      go_ret
      exact ⟨t, rfl, h1, hR'.le (by omega), hO1.trans hO⟩

/-- A text. -/
def TextPost (w : World) (n : Nat) (e : Ending) (w' : World) : Prop := ∃ t : ByteArray, e = .returned (.string t) ∧ t.size ≤ n ∧ Below w.heap.size w w'

end Go.Proofs.YtgkkoegfmhgcjaaGreatDoor
