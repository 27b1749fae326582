/-
  A region of a drawing function, in any order: of each slot a predicate of its own is kept.
-/
import Derived.Test.YtgkkoegfmhgcjaaDoorDrawBox
namespace Go.Proofs.YtgkkoegfmhgcjaaDoor
open Go.RowKit

def psiOk (ops : Array Oper) (N : Nat) : Bool :=
  ((List.range ops.size).all fun i => match ops[i]? with
    | none => false
    | some o => o.guard.isNone && (match o.dst with
      | none => false
      | some d => decide (d < N)) && comesB ops o) && (decide (dsts ops).Nodup && backB ops)

set_option maxHeartbeats 1000000 in
theorem wp_region_psi {w0 : World} {r Co M q0 : Nat} (ψ : Nat → Option (Value → World → Prop))
    (hstab : ∀ t p, ψ t = some p → ∀ v W W', p v W → Only r W W' → p v W')
    {id : Nat} {ops : Array Oper} {a0 : Act} {w : World} {Q : Exit → Act → World → Prop}
    (hm : Tryd.prog.follows .mixedOrders = true) (hck : psiOk ops a0.tmps.size = true)
    (h0 : ∀ t p, ψ t = some p → t ∉ dsts ops → p (a0.eval (.tmp t)) w) (hR : Rd w0 r q0 w) (hq : q0 + Co * ops.size ≤ M)
    (hop : ∀ (i : Nat) (o : Oper) (d : Nat), ops[i]? = some o → o.dst = some d → ∀ (a : Act) (W : World) (q : Nat), (∀ t p, Operand.tmp t ∈ o.op.operands → ψ t = some p → p (a.eval (.tmp t)) W) →
      (∀ t, t ∉ dsts ops → a.eval (.tmp t) = a0.eval (.tmp t)) → Rd w0 r q W → q ≤ M → Only r w W →
      o.wp Tryd.prog a W (fun a' W' => ∃ v, a' = a.put (some d) v ∧ (∀ p, ψ d = some p → p v W') ∧ Rd w0 r (q + Co) W' ∧ Only r W W') Q)
    (hQ : ∀ (f : Nat → Value) (W : World), (∀ t p, ψ t = some p → p (f t) W) →
      (∀ t, t ∉ dsts ops → f t = a0.eval (.tmp t)) → Rd w0 r (q0 + Co * ops.size) W → Only r w W → Q .normal { tmps := ((List.range a0.tmps.size).map f).toArray, defers := a0.defers } W) :
    (Code.region id ops true).wp Tryd.prog Q a0 w := by
  simp only [psiOk, Bool.and_eq_true, decide_eq_true_eq] at hck
  obtain ⟨hall, hnd, hback⟩ := hck
  rw [List.all_eq_true] at hall
  refine wp_region_any hm ?_
  refine wpAny_of_inv (fun L a W => L.size = ops.size ∧ a.defers = a0.defers ∧ a.tmps.size = a0.tmps.size ∧
      (∀ t p, ψ t = some p → (∀ i o, ops[i]? = some o → o.dst = some t → L.getD i false = true) → p (a.eval (.tmp t)) W) ∧
      (∀ t, t ∉ dsts ops → a.eval (.tmp t) = a0.eval (.tmp t)) ∧ Rd w0 r (q0 + Co * (ops.size - toCome ops.size L)) W ∧ Only r w W)
    (fun L a W h => h.1) ?_ ?_ ops.size _ a0 _ ?_ ?_
  · rintro L a W i ⟨hL, hd, hs, hin, hold, hr, ho⟩ hi
    obtain ⟨hlt, hun, o, hoi, hdep⟩ := ready_spec hi
    have hk := hall i (List.mem_range.2 hlt)
    rw [hoi] at hk
    dsimp only at hk
    simp only [Bool.and_eq_true] at hk
    obtain ⟨⟨hg, hdst⟩, hops⟩ := hk
    have hg' : o.guard = none := by simpa using hg
    cases hdd : o.dst with
    | none => rw [hdd] at hdst; cases hdst
    | some d =>
      rw [hdd] at hdst
      simp only [decide_eq_true_eq] at hdst
      have hdN := hdst
      have hcnt := toCome_set hlt hL hun
      have hle : toCome ops.size L ≤ ops.size := by
        unfold toCome; exact Nat.le_trans (List.length_filter_le _ _) (by simp)
      have hc1 : Co * (ops.size - toCome ops.size L) + Co ≤ Co * (ops.size - toCome ops.size (L.setIfInBounds i true)) := by
        have := Nat.mul_le_mul_left Co (show ops.size - toCome ops.size L + 1 ≤ ops.size - toCome ops.size (L.setIfInBounds i true) by omega)
        rwa [Nat.mul_add, Nat.mul_one] at this
      have hc2 : Co * (ops.size - toCome ops.size L) ≤ Co * ops.size := Nat.mul_le_mul_left Co (Nat.sub_le _ _)
      have hw := hop i o d hoi hdd a W (q0 + Co * (ops.size - toCome ops.size L)) (fun t p hx hts => hin t p hts fun j oj hj dj => comes_listed hnd hops hdep hx hj dj) hold hr (by omega) ho
      unfold wpOp
      rw [hoi]
      have hwt : Region.wanted o (yielded ops a.tmps) = true := by simp [Region.wanted, hg']
      simp only [hwt, if_true]
      refine .inl (Oper.wp_mono ?_ hw)
      rintro a' W' ⟨v, rfl, hv, hR', hO'⟩
      refine ⟨by simpa using hL, by rw [defers_put]; exact hd, by rw [size_put]; exact hs, ?_, ?_, hR'.more (by omega), ho.trans hO'⟩
      · intro t p hts hlis
        by_cases e : d = t
        · subst e
          rw [eval_put_same _ _ _ (by rw [hs]; exact hdN)]; exact hv p hts
        · rw [eval_put_other _ _ _ _ e]
          refine hstab t p hts _ _ _ (hin t p hts fun j oj hj dj => ?_) hO'
          have := hlis j oj hj dj
          by_cases hji : i = j
          · subst hji; rw [hoi] at hj; cases hj; rw [hdd] at dj; cases dj; exact absurd rfl e
          · simpa [Array.getD_eq_getD_getElem?, Array.getElem?_setIfInBounds_ne hji] using this
      · intro t ht'
        rw [eval_put_other _ _ _ _ (fun e => ht' (by rw [← e]; exact mem_dsts hoi hdd))]
        exact hold t ht'
  · rintro L a W ⟨hL, hd, hs, hin, hold, hr, ho⟩ hnil
    have hcomplete : ∀ i o, ops[i]? = some o → L.getD i false = true := by
      intro i o hi
      have hlt : i < ops.size := (Array.getElem?_eq_some_iff.1 hi).1
      unfold backB at hback
      rw [List.all_eq_true] at hback
      have := hback i (List.mem_range.2 hlt)
      rw [List.contains_eq_mem, decide_eq_true_eq] at this
      exact come_listed hL hnil _ i this
    rw [act_eq a hs, hd]
    exact hQ (fun t => a.eval (.tmp t)) W (fun t p h => hin t p h fun i o hi _ => hcomplete i o hi) hold (hr.more (Nat.add_le_add_left (Nat.mul_le_mul_left Co (Nat.sub_le _ _)) _)) ho
  · refine ⟨by simp, rfl, rfl, ?_, fun _ _ => rfl, ?_, ⟨Nat.le_refl _, fun _ _ _ => rfl⟩⟩
    · intro t p hts hl
      refine hstab t p hts _ w _ (h0 t p hts fun hmem => ?_) ⟨Nat.le_refl _, fun _ _ _ => rfl⟩
      obtain ⟨o, ho, hd⟩ := List.mem_filterMap.1 hmem
      obtain ⟨i, hi⟩ := List.mem_iff_getElem?.1 ho
      have := hl i o (by simpa using hi) hd
      have hlt : i < ops.size := by have := (List.getElem?_eq_some_iff.1 hi).1; simpa using this
      simp [Array.getD_eq_getD_getElem?, hlt] at this
    · exact (hR.drew).more (by omega)
  · unfold toCome; exact Nat.le_trans (List.length_filter_le _ _) (by simp)

end Go.Proofs.YtgkkoegfmhgcjaaDoor
