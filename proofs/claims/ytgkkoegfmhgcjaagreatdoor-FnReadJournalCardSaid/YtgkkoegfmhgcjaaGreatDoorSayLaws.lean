/-
  Texts cut in two, in a region in any order; texts put behind each other where a flag asks for it; what the lines' law says of a desk.
-/
import Derived.Test.YtgkkoegfmhgcjaaGreatDoorDrawSay
import Derived.Test.YtgkkoegfmhgcjaaGreatDoorBoxReg
import Derived.Test.YtgkkoegfmhgcjaaGreatDoorMathSay
namespace Go.Proofs.YtgkkoegfmhgcjaaGreatDoor
open Go.RowKit Go.Shelf

section
variable {o : Oper} {a : Act} {W : World} {Q : Exit → Act → World → Prop}
theorem bq_sliceTo {x hi : Operand} {g n cap h : Nat} (ho : o.op = .slice 47 x none (some hi) none) (hx : a.eval x = .slice (some ⟨g, 0, none⟩) n cap) (hh : a.eval hi = .int .i64 h) (hk : h ≤ cap) :
    o.wp Tryz.prog a W (TnPost (Bq.is (.slice (some ⟨g, 0, none⟩) h cap)).ok o a W) Q := by
  have e1 : (0 : Int) ≤ (h : Int) := by omega
  have e2 : (h : Int) ≤ (cap : Int) := by omega
  unfold Oper.wp
  simp only [execOp, ho, Option.map_some, Option.map_none]
  rw [hx, hh]
  simp [go_sem, e1, e2]
  exact ⟨_, rfl, rfl, Below.refl _ _⟩
theorem bq_sliceFrom {x lo : Operand} {g n cap h : Nat} (ho : o.op = .slice 47 x (some lo) none none) (hx : a.eval x = .slice (some ⟨g, 0, none⟩) n cap) (hh : a.eval lo = .int .i64 h) (hk : h ≤ n) :
    o.wp Tryz.prog a W (TnPost (Bq.is (.slice (if cap = h then some ⟨g, 0, none⟩ else some ⟨g, h, none⟩) (n - h) (cap - h))).ok o a W) Q := by
  have e1 : (0 : Int) ≤ (h : Int) := by omega
  have e2 : (h : Int) ≤ (n : Int) := by omega
  unfold Oper.wp
  simp only [execOp, ho, Option.map_some, Option.map_none]
  rw [hx, hh]
  simp [go_sem, e1, e2]
  exact ⟨_, rfl, rfl, Below.refl _ _⟩
end

theorem Texts.from {w : World} {g n cap : Nat} {ts : List ByteArray} (h : Texts w (.slice (some ⟨g, 0, none⟩) n cap) ts) {k : Nat} (hk : k ≤ n) (hc : n ≤ cap) : Texts w (.slice (if cap = k then some ⟨g, 0, none⟩ else some ⟨g, k, none⟩) (n - k) (cap - k)) (ts.drop k) := by
  have hn : n = ts.length := by
    obtain ⟨a, c, hv, _⟩ := h
    cases hv; rfl
  by_cases e : cap = k
  · rw [if_pos e, List.drop_eq_nil_of_le (by omega), show n - k = 0 by omega]
    exact ⟨_, _, rfl, fun j hj => absurd hj (by simp)⟩
  · rw [if_neg e]
    have := h.back (cap' := cap - k) hk
    simpa only [Nat.zero_add] using this

theorem Texts.at_cell {w : World} {a : Option Addr} {n cap : Nat} {ts : List ByteArray} (h : Texts w (.slice a n cap) ts) {k : Nat} (hk : k < ts.length) : ∃ b off, a = some ⟨b, off, none⟩ ∧ w.cell? ⟨b, off + k, none⟩ = some (.string (ts[k]?.getD ByteArray.empty)) := by
  obtain ⟨a', c, hv, hc⟩ := h
  cases hv
  exact hc k hk

set_option maxHeartbeats 1000000 in
/-- append(out, list...) of texts, where a flag asks for it. -/
theorem append_texts_on {ops : Array Oper} {rest : List Oper} {o : Oper} {a : Act} {Q : Exit → Act → World → Prop} {w : World} (hw : Region.wanted o (yielded ops a.tmps) = true) (s x : Operand)
    (ho : o.op = .call { callee := .builtin .append, args := #[s, x], argTypes := #[47, 47] }) (base base2 : Nat) (v u : Value) (xs ys : List (List UInt8)) (hs : a.eval s = v) (hx : a.eval x = u)
    (hv : TRow base w v xs) (hu : TRow base2 w u ys) (hl : xs.length + ys.length ≤ 1000000000) (hbase : base ≤ w.heap.size)
    (h : ∀ v' w', TRow base w' v' (xs ++ ys) → Below base w w' → wpList Tryz.prog ops Q rest (a.put o.dst v') w') : wpList Tryz.prog ops Q (o :: rest) a w := by
  obtain ⟨i0, hi0, hz0, hz1, hz2⟩ := info_parts info_str
  refine wpList_step fun K hK => ?_
  rw [if_pos hw]
  by_cases hy : 1 ≤ ys.length
  · obtain ⟨g, cap, rfl, _, hg, hcap, hc⟩ := hu.lies hy
    refine wp_append_own w s x 47 ho base 9 i0 (.string ⟨#[]⟩) 1 16 Tryz.underlying47 hi0 hz0 hz1 hz2 rfl (by decide) v xs.length (xs.map fun l => Value.string (Pl.str l)) hs hv ⟨g, 0, none⟩ ys.length cap (ys.map fun l => Value.string (Pl.str l)) hx (by simp)
      (texts_at hc) (by simp [Value.oneCell']) (by unfold maxLen; omega) (by omega) hbase ?_
    intro v' w' hown hgrow _
    refine hK _ _ (h v' w' ?_ (below_append (Below.refl _ _) hv hgrow hbase))
    unfold TRow
    rw [List.length_append, List.map_append]
    exact hown
  · obtain rfl : ys = [] := List.eq_nil_of_length_eq_zero (by omega)
    rw [List.append_nil] at h
    rcases hu.2 with ⟨rfl, _⟩ | ⟨g, cap, cur, rfl, hg, hh, _⟩
    · have hrun := run_append_owned_none (P := Tryz.prog) (w := w) base 47 o.type 9 i0 1 Tryz.underlying47 hi0 v xs.length (xs.map fun l => Value.string (Pl.str l)) hv
      unfold Oper.wp
      simp [execOp, ho, resolve, invoke, builtin, hs, hx, hrun, Result.andThen]
      exact hK _ _ (h v w hv (Below.refl _ _))
    · refine wp_append_own w s x 47 ho base 9 i0 (.string ⟨#[]⟩) 1 16 Tryz.underlying47 hi0 hz0 hz1 hz2 rfl (by decide) v xs.length (xs.map fun l => Value.string (Pl.str l)) hs hv ⟨g, 0, none⟩ 0 cap [] hx (by simp)
        (by simp) (by simp) (by unfold maxLen; omega) (by omega) hbase ?_
      intro v' w' hown hgrow _
      refine hK _ _ (h v' w' ?_ (below_append (Below.refl _ _) hv hgrow hbase))
      unfold TRow
      simpa using hown

namespace Pl
theorem sameA_refl (d : Dk) : sameA d d = true := by simp [sameA, eqL]
theorem sayA_split {d : Dk} {xs ys : List (List UInt8)} (h : dkB d = true) (hl : (xs ++ ys).length ≤ 40) : sayA d (xs ++ ys) = ((sayA (sayA d xs).1 ys).1, (sayA d xs).2 ++ (sayA (sayA d xs).1 ys).2) := by
  rw [List.length_append] at hl
  rw [sayA_yes h (by rw [List.length_append]; exact hl), sayA_yes h (ls := xs) (by omega), sayA_yes (sayD_dk h xs) (by omega), sayD_app]
end Pl
theorem listed_two (ts : List ByteArray) (k : Nat) : listed ts = listed (ts.take k) ++ listed (ts.drop k) := by
  unfold listed
  rw [← List.map_append, List.take_append_drop]

/-- What the law holds of a desk and lines. -/
theorem say_law {d : Pl.Dk} {ts : List ByteArray} (h : Pl.dkB d = true) (hl : ts.length ≤ 40) (k : Nat) :
    ∃ r1 r2 : Pl.Dk × List (List UInt8), Pl.sayA d (listed (ts.take k)) = r1 ∧ Pl.sayA r1.1 (listed (ts.drop k)) = r2 ∧ Pl.sayA d (listed ts) = (r2.1, r1.2 ++ r2.2) ∧ Pl.dkB r2.1 = true ∧ r1.1.past.length ≤ 8 ∧ (r1.2 ++ r2.2).length = ts.length ∧ ∀ l ∈ r1.2 ++ r2.2, l ≠ [] := by
  have hs := Pl.sayA_split (d := d) (xs := listed (ts.take k)) (ys := listed (ts.drop k)) h (by rw [← listed_two, listed_len]; exact hl)
  refine ⟨_, _, rfl, rfl, by rw [listed_two ts k]; exact hs, ?_, (Pl.sayA_few _ _).1, ?_, ?_⟩
  · have e : (Pl.sayA (Pl.sayA d (listed (ts.take k))).1 (listed (ts.drop k))).1 = (Pl.sayD d (listed ts)).1 := by
      rw [← Pl.sayA_yes h (by rw [listed_len]; exact hl), listed_two ts k, hs]
    rw [e]; exact Pl.sayD_dk h _
  · have e : (Pl.sayA d (listed (ts.take k))).2 ++ (Pl.sayA (Pl.sayA d (listed (ts.take k))).1 (listed (ts.drop k))).2 = (Pl.sayD d (listed ts)).2 := by
      rw [← Pl.sayA_yes h (by rw [listed_len]; exact hl), listed_two ts k, hs]
    rw [e, Pl.sayD_len, listed_len]
  · have e : (Pl.sayA d (listed (ts.take k))).2 ++ (Pl.sayA (Pl.sayA d (listed (ts.take k))).1 (listed (ts.drop k))).2 = (Pl.sayD d (listed ts)).2 := by
      rw [← Pl.sayA_yes h (by rw [listed_len]; exact hl), listed_two ts k, hs]
    rw [e]; exact Pl.sayD_ne h _

end Go.Proofs.YtgkkoegfmhgcjaaGreatDoor
