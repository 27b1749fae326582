/-
  append(out, list...) where out is the call's own row and list a row, nil or not: as a step of a walk.
-/
import Derived.Test.YtakkjlcnfkklpaaRowFacts
import Derived.Laws.AppendOwnNone
namespace Go.Proofs.Ytakkjlcnfkklpaa
open Go.RowKit Go.Shelf

theorem append_row {ops : Array Oper} {rest : List Oper} {o : Oper} {a : Act} {Q : Exit → Act → World → Prop} {w : World} (hgd : o.guard = none) (s x : Operand)
    (ho : o.op = .call { callee := .builtin .append, args := #[s, x], argTypes := #[23, 23] }) (base base2 : Nat) (v u : Value) (xs ys : List Int) (hs : a.eval s = v) (hx : a.eval x = u)
    (hv : Row base w v xs) (hu : Row base2 w u ys) (hl : xs.length + ys.length ≤ 1000000000) (hbase : base ≤ w.heap.size)
    (h : ∀ v' w', Row base w' v' (xs ++ ys) → Below base w w' → wpList Try.prog ops Q rest (a.put o.dst v') w') : wpList Try.prog ops Q (o :: rest) a w := by
  obtain ⟨i0, hi0, hz0, hz1, hz2⟩ := info_parts info_int
  by_cases hy : 1 ≤ ys.length
  · obtain ⟨g, cap, rfl, _, hg, hcap, hcm, hc⟩ := hu.lies hy
    refine wpList_append_own w hgd s x 23 ho base 3 i0 (.int .i64 0) 1 8 Try.underlying23 hi0 hz0 hz1 hz2 rfl (by decide) v xs.length (xs.map (Value.int .i64)) hs hv ⟨g, 0, none⟩ ys.length cap (ys.map (Value.int .i64)) hx (by simp)
      (news_at fun j hj => by rw [Nat.zero_add]; exact hc j hj) (by simp [Value.oneCell']) (by unfold maxLen; omega) (by omega) hbase ?_
    intro v' w' hown hgrow _
    refine h v' w' ?_ (below_append (Below.refl _ _) hv hgrow hbase)
    unfold Row
    rw [List.length_append, List.map_append]
    exact hown
  · obtain rfl : ys = [] := List.eq_nil_of_length_eq_zero (by omega)
    rw [List.append_nil] at h
    rcases hu.2 with ⟨rfl, _⟩ | ⟨g, cap, cur, rfl, hg, hh, _⟩
    · exact wpList_append_own_none hgd s x 23 ho base 3 i0 1 Try.underlying23 hi0 v xs.length (xs.map (Value.int .i64)) hs hv hx (h v w hv (Below.refl _ _))
    · refine wpList_append_own w hgd s x 23 ho base 3 i0 (.int .i64 0) 1 8 Try.underlying23 hi0 hz0 hz1 hz2 rfl (by decide) v xs.length (xs.map (Value.int .i64)) hs hv ⟨g, 0, none⟩ 0 cap [] hx (by simp)
        (by simp) (by simp) (by unfold maxLen; omega) (by omega) hbase ?_
      intro v' w' hown hgrow _
      refine h v' w' ?_ (below_append (Below.refl _ _) hv hgrow hbase)
      unfold Row
      simpa using hown

end Go.Proofs.Ytakkjlcnfkklpaa
