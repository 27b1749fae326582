/-
  A region of a drawing function, in any order, whose last statement stores into a box that the region has made.
-/
import Derived.Test.YtgkkoegfmhgcjaaDoorDraws2
namespace Go.Proofs.YtgkkoegfmhgcjaaDoor
open Go.RowKit

def depsOf (ops : Array Oper) (i : Nat) : List Nat := match ops[i]? with
  | some o => (o.after.toList.filter (Region.binds .any ·)).map (·.on)
  | none => []
/-- What must have come before operation i. -/
def ancOf (ops : Array Oper) (i : Nat) : Nat → List Nat
  | 0 => depsOf ops i
  | k + 1 => (List.range ops.size).filter fun j => (ancOf ops i k).contains j || (ancOf ops i k).any fun x => (depsOf ops x).contains j
def Closed (ops : Array Oper) (L : Array Bool) : Prop := ∀ i, L.getD i false = true → ∀ j, j ∈ depsOf ops i → L.getD j false = true
theorem anc_done {ops : Array Oper} {L : Array Bool} {i : Nat} (hc : Closed ops L) (h : ∀ j, j ∈ depsOf ops i → L.getD j false = true) : ∀ k j, j ∈ ancOf ops i k → L.getD j false = true := by
  intro k
  induction k with
  | zero => exact h
  | succ k ih =>
    intro j hj
    unfold ancOf at hj
    rw [List.mem_filter] at hj
    have h2 := hj.2
    simp only [Bool.or_eq_true, List.contains_eq_mem, decide_eq_true_eq, List.any_eq_true] at h2
    rcases h2 with h2 | ⟨x, h2, h3⟩
    · exact ih j h2
    · exact hc x (ih x h2) j h3
theorem getD_set_mono {L : Array Bool} {i x : Nat} (h : L.getD x false = true) : (L.setIfInBounds i true).getD x false = true := by
  by_cases e : i = x
  · subst e
    have : i < L.size := by
      refine Classical.byContradiction fun hn => ?_
      simp [Array.getD_eq_getD_getElem?, hn] at h
    simp [Array.getD_eq_getD_getElem?, this]
  · simpa [Array.getD_eq_getD_getElem?, Array.getElem?_setIfInBounds_ne e] using h
theorem deps_mem {ops : Array Oper} {i : Nat} {o : Oper} (hoi : ops[i]? = some o) {j : Nat} (h : j ∈ depsOf ops i) : ∃ e ∈ o.after, Region.binds .any e = true ∧ e.on = j := by
  unfold depsOf at h
  rw [hoi] at h
  simp only [List.mem_map, List.mem_filter] at h
  obtain ⟨e, ⟨h1, h2⟩, h3⟩ := h
  exact ⟨e, Array.mem_toList_iff.1 h1, h2, h3⟩
theorem Closed.set {ops : Array Oper} {L : Array Bool} {i : Nat} {o : Oper} (h : Closed ops L) (hoi : ops[i]? = some o) (hd : ∀ e ∈ o.after, Region.binds .any e = true → L.getD e.on false = true) : Closed ops (L.setIfInBounds i true) := by
  intro x hx j hj
  by_cases e : i = x
  · subst e
    obtain ⟨e, h1, h2, rfl⟩ := deps_mem hoi hj
    exact getD_set_mono (hd e h1 h2)
  · refine getD_set_mono (h x ?_ j hj)
    simpa [Array.getD_eq_getD_getElem?, Array.getElem?_setIfInBounds_ne e] using hx

/-- What an operation looks at is there by then. -/
def comesB (ops : Array Oper) (o : Oper) : Bool := o.op.operands.all fun x => match x with
   | .tmp t => !(dsts ops).contains t || o.after.any fun e => Region.binds .any e && decide ((ops[e.on]?).bind (·.dst) = some t)
   | _ => true
def storeOk (tab : Nat → List Sp → Option Sp) (env : Env) (sp : List Nat) (ops : Array Oper) (N : Nat) : Bool :=
  ((List.range ops.size).all fun i => match ops[i]? with
    | none => false
    | some o => if i + 1 = ops.size then o.guard.isNone && o.dst.isNone else match o.dst with
      | none => false
      | some d => if sp.contains d then o.guard.isNone && decide (d < N) && (env.lookup d).isNone && comesB ops o else operOk tab env ops N o) &&
  (decide (dsts ops).Nodup && backB ops && ((List.range ops.size).all fun j => j + 1 == ops.size || (ancOf ops (ops.size - 1) ops.size).contains j))

theorem comes_listed {ops : Array Oper} {L : Array Bool} {o : Oper} (hnd : (dsts ops).Nodup) (hops : comesB ops o = true) (hdep : ∀ e ∈ o.after, Region.binds .any e = true → L.getD e.on false = true) {t : Nat} (hx : Operand.tmp t ∈ o.op.operands)
    {j : Nat} {oj : Oper} (hj : ops[j]? = some oj) (dj : oj.dst = some t) : L.getD j false = true := by
  unfold comesB at hops
  rw [Array.all_eq_true_iff_forall_mem] at hops
  have := hops _ hx
  dsimp only at this
  rw [← Array.any_toList] at this
  simp only [Bool.or_eq_true, Bool.not_eq_true', List.any_eq_true] at this
  rcases this with h | ⟨e, he1, he2⟩
  · rw [List.contains_eq_mem, decide_eq_false_iff_not] at h; exact absurd (mem_dsts hj dj) h
  · simp only [Bool.and_eq_true, decide_eq_true_eq] at he2
    cases hon : ops[e.on]? with
    | none => rw [hon] at he2; cases he2.2
    | some oe =>
      rw [hon] at he2
      have := nodup_inj hnd hj hon dj he2.2
      subst this
      exact hdep e (Array.mem_toList_iff.1 he1) he2.1

set_option maxHeartbeats 1000000 in
theorem wp_region_store {w0 : World} {r Co M q0 : Nat} {tab : Nat → List Sp → Option Sp} (ht : Table w0 r Co M tab) (env : Env) (sp : List Nat) (ψ : Nat → Option (Value → World → Prop))
    (hstab : ∀ t p, ψ t = some p → ∀ v W W', p v W → Only r W W' → p v W') (hsub : ∀ t p, ψ t = some p → t ∈ sp)
    {id : Nat} {ops : Array Oper} {a0 : Act} {w : World} {Q : Exit → Act → World → Prop}
    (hm : Tryd.prog.follows .mixedOrders = true) (hpos : 0 < ops.size) (hspd : ∀ t, t ∈ sp → t ∈ dsts ops) (hck : storeOk tab env sp ops a0.tmps.size = true)
    (h0 : ∀ t s, env.lookup t = some s → t ∉ dsts ops → s.ok r (a0.eval (.tmp t)) w) (hR : Rd w0 r q0 w) (hq : q0 + Co * ops.size ≤ M)
    (hsp : ∀ (i : Nat) (o : Oper) (d : Nat), ops[i]? = some o → o.dst = some d → d ∈ sp → ∀ (a : Act) (W : World) (q : Nat), (∀ t s, Operand.tmp t ∈ o.op.operands → env.lookup t = some s → s.ok r (a.eval (.tmp t)) W) → Rd w0 r q W → Only r w W →
      o.wp Tryd.prog a W (fun a' W' => ∃ v, a' = a.put (some d) v ∧ (∀ p, ψ d = some p → p v W') ∧ Rd w0 r q W' ∧ Only r W W') Q)
    (hlast : ∀ (o : Oper), ops[ops.size - 1]? = some o → ∀ (a : Act) (W : World), a.defers = a0.defers → a.tmps.size = a0.tmps.size → (∀ t s, env.lookup t = some s → s.ok r (a.eval (.tmp t)) W) → (∀ t p, ψ t = some p → p (a.eval (.tmp t)) W) →
      (∀ t, t ∉ dsts ops → a.eval (.tmp t) = a0.eval (.tmp t)) → Rd w0 r (q0 + Co * ops.size) W → Only r w W → o.wp Tryd.prog a W (fun a' W' => Q .normal a' W') Q) :
    (Code.region id ops true).wp Tryd.prog Q a0 w := by
  simp only [storeOk, Bool.and_eq_true, decide_eq_true_eq] at hck
  obtain ⟨hall, ⟨hnd, hbk⟩, hback⟩ := hck
  rw [List.all_eq_true] at hall hback
  refine wp_region_any hm ?_
  refine wpAny_of_inv (fun L a W => L.size = ops.size ∧ ((L.getD (ops.size - 1) false = true ∧ (∀ j, j < ops.size → L.getD j false = true) ∧ Q .normal a W) ∨ (L.getD (ops.size - 1) false = false ∧ Closed ops L ∧ a.defers = a0.defers ∧ a.tmps.size = a0.tmps.size ∧
      (∀ t s, env.lookup t = some s → (∀ i o, ops[i]? = some o → o.dst = some t → L.getD i false = true) → s.ok r (a.eval (.tmp t)) W) ∧
      (∀ t p, ψ t = some p → (∀ i o, ops[i]? = some o → o.dst = some t → L.getD i false = true) → p (a.eval (.tmp t)) W) ∧
      (∀ t, t ∉ dsts ops → a.eval (.tmp t) = a0.eval (.tmp t)) ∧ Rd w0 r (q0 + Co * (ops.size - toCome ops.size L)) W ∧ Only r w W)))
    (fun L a W h => h.1) ?_ ?_ ops.size _ a0 _ ?_ ?_
  · rintro L a W i ⟨hL, hcase⟩ hi
    obtain ⟨hlt, hun, o, hoi, hdep⟩ := ready_spec hi
    have hun' : L.getD i false = false := by
      simp only [Array.getD_eq_getD_getElem?, Array.getElem?_eq_getElem (show i < L.size by omega), Option.getD_some] at hun ⊢
      exact hun
    rcases hcase with ⟨_, hf, _⟩ | ⟨hl0, hclo, hd, hs, hin, hin2, hold, hr, ho⟩
    · rw [hf i hlt] at hun'; cases hun'
    have hk := hall i (List.mem_range.2 hlt)
    rw [hoi] at hk
    dsimp only at hk
    have hclo' := hclo.set hoi hdep
    by_cases hi1 : i + 1 = ops.size
    · rw [if_pos hi1] at hk
      simp only [Bool.and_eq_true] at hk
      have hg' : o.guard = none := by simpa using hk.1
      have hie : i = ops.size - 1 := by omega
      have hfull : ∀ j, j < ops.size → j ≠ i → L.getD j false = true := by
        intro j hj hji
        have hb := hback j (List.mem_range.2 hj)
        simp only [Bool.or_eq_true, beq_iff_eq, List.contains_eq_mem, decide_eq_true_eq] at hb
        rcases hb with hb | hb
        · omega
        · rw [← hie] at hb
          refine anc_done hclo (fun x hx => ?_) _ j hb
          obtain ⟨e, h1, h2, rfl⟩ := deps_mem hoi hx
          exact hdep e h1 h2
      have hdst : o.dst = none := by simpa using hk.2
      have hdone : ∀ t, ∀ j oj, ops[j]? = some oj → oj.dst = some t → L.getD j false = true := by
        intro t j oj hj dj
        refine hfull j (Array.getElem?_eq_some_iff.1 hj).1 ?_
        rintro rfl
        rw [hoi] at hj; cases hj; rw [hdst] at dj; cases dj
      have hw := hlast o (by rw [← hie]; exact hoi) a W hd hs (fun t s h => hin t s h (hdone t)) (fun t p h => hin2 t p h (hdone t)) hold (hr.more (Nat.add_le_add_left (Nat.mul_le_mul_left Co (Nat.sub_le _ _)) _)) ho
      unfold wpOp
      rw [hoi]
      have hwt : Region.wanted o (yielded ops a.tmps) = true := by simp [Region.wanted, hg']
      simp only [hwt, if_true]
      refine .inl (Oper.wp_mono ?_ hw)
      intro a' W' hQ
      refine ⟨by simpa using hL, .inl ⟨?_, ?_, hQ⟩⟩
      · rw [← hie]; simp [Array.getD_eq_getD_getElem?, hL, hlt]
      · intro j hj
        by_cases e : j = i
        · subst e; simp [Array.getD_eq_getD_getElem?, hL, hlt]
        · exact getD_set_mono (hfull j hj e)
    · rw [if_neg hi1] at hk
      cases hdd : o.dst with
      | none => rw [hdd] at hk; cases hk
      | some d =>
        rw [hdd] at hk
        dsimp only at hk
        have hcnt := toCome_set hlt hL hun
        have hle : toCome ops.size L ≤ ops.size := by
          unfold toCome; exact Nat.le_trans (List.length_filter_le _ _) (by simp)
        have hc1 : Co * (ops.size - toCome ops.size L) + Co ≤ Co * (ops.size - toCome ops.size (L.setIfInBounds i true)) := by
          have := Nat.mul_le_mul_left Co (show ops.size - toCome ops.size L + 1 ≤ ops.size - toCome ops.size (L.setIfInBounds i true) by omega)
          rwa [Nat.mul_add, Nat.mul_one] at this
        have hc2 : Co * (ops.size - toCome ops.size L) ≤ Co * ops.size := Nat.mul_le_mul_left Co (Nat.sub_le _ _)
        have hne : ops.size - 1 ≠ i := by omega
        have hlis : ∀ t, t ≠ d → (∀ j oj, ops[j]? = some oj → oj.dst = some t → (L.setIfInBounds i true).getD j false = true) → (∀ j oj, ops[j]? = some oj → oj.dst = some t → L.getD j false = true) := by
          intro t htd hl j oj hj dj
          have := hl j oj hj dj
          by_cases hji : i = j
          · subst hji; rw [hoi] at hj; cases hj; rw [hdd] at dj; cases dj; exact absurd rfl htd
          · simpa [Array.getD_eq_getD_getElem?, Array.getElem?_setIfInBounds_ne hji] using this
        -- what holds behind the operation
        suffices hmain : d < a0.tmps.size ∧ o.guard = none ∧ o.wp Tryd.prog a W (fun a' W' => ∃ v, a' = a.put (some d) v ∧ (∀ s, env.lookup d = some s → s.ok r v W') ∧ (∀ p, ψ d = some p → p v W') ∧ Rd w0 r (q0 + Co * (ops.size - toCome ops.size L) + Co) W' ∧ Only r W W') Q by
          obtain ⟨hdN, hg', hw⟩ := hmain
          unfold wpOp
          rw [hoi]
          have hwt : Region.wanted o (yielded ops a.tmps) = true := by simp [Region.wanted, hg']
          simp only [hwt, if_true]
          refine .inl (Oper.wp_mono ?_ hw)
          rintro a' W' ⟨v, rfl, hv, hv2, hR', hO'⟩
          refine ⟨by simpa using hL, .inr ⟨?_, hclo', by rw [defers_put]; exact hd, by rw [size_put]; exact hs, ?_, ?_, ?_, hR'.more (by omega), ho.trans hO'⟩⟩
          · simpa [Array.getD_eq_getD_getElem?, Array.getElem?_setIfInBounds_ne (Ne.symm hne)] using hl0
          · intro t s' hts hl
            by_cases e : d = t
            · subst e
              rw [eval_put_same _ _ _ (by rw [hs]; exact hdN)]; exact hv _ hts
            · rw [eval_put_other _ _ _ _ e]
              exact Sp.ok_only (hin t s' hts (hlis t (Ne.symm e) hl)) hO'
          · intro t p hts hl
            by_cases e : d = t
            · subst e
              rw [eval_put_same _ _ _ (by rw [hs]; exact hdN)]; exact hv2 _ hts
            · rw [eval_put_other _ _ _ _ e]
              exact hstab t p hts _ _ _ (hin2 t p hts (hlis t (Ne.symm e) hl)) hO'
          · intro t ht'
            rw [eval_put_other _ _ _ _ (fun e => ht' (by rw [← e]; exact mem_dsts hoi hdd))]
            exact hold t ht'
        by_cases hdsp : d ∈ sp
        · rw [if_pos (by rw [List.contains_eq_mem, decide_eq_true_eq]; exact hdsp)] at hk
          simp only [Bool.and_eq_true, decide_eq_true_eq] at hk
          obtain ⟨⟨⟨hg, hdN⟩, hen⟩, hops⟩ := hk
          refine ⟨hdN, by simpa using hg, ?_⟩
          have hw := hsp i o d hoi hdd hdsp a W (q0 + Co * (ops.size - toCome ops.size L)) (fun t s hx hts => hin t s hts fun j oj hj dj => comes_listed hnd hops hdep hx hj dj) hr ho
          refine Oper.wp_mono ?_ hw
          rintro a' W' ⟨v, rfl, h2, h3, h4⟩
          refine ⟨v, rfl, fun s hs' => ?_, h2, h3.more (by omega), h4⟩
          rw [hs'] at hen; cases hen
        · rw [if_neg (by rw [List.contains_eq_mem, decide_eq_true_eq]; exact hdsp)] at hk
          simp only [operOk, Bool.and_eq_true] at hk
          obtain ⟨⟨hg, hdst⟩, hops⟩ := hk
          have hg' : o.guard = none := by simpa using hg
          rw [hdd] at hdst
          simp only [Bool.and_eq_true, decide_eq_true_eq] at hdst
          obtain ⟨hdN, hdst⟩ := hdst
          split at hdst
          · rename_i s s' he ha
            have hss : s = s' := by simpa using hdst
            subst hss
            refine ⟨hdN, hg', ?_⟩
            have hw := absOp_wp (Q := Q) ht ha (a := a) (W := W) (fun x s hx hxs => by
              cases x with
              | tmp t => exact hin t s hxs fun j oj hj dj => comes_listed hnd hops hdep hx hj dj
              | const v =>
                unfold absO at hxs
                split at hxs
                · rename_i h; cases h
                · rename_i h; cases h; cases hxs; exact ⟨_, rfl, Int.le_refl _, Int.le_refl _⟩
                · cases hxs
              | global g => cases hxs
              | func f => cases hxs) hr (by omega)
            refine Oper.wp_mono ?_ hw
            rintro a' W' ⟨v, rfl, hv, hR', hO'⟩
            rw [hdd]
            refine ⟨v, rfl, fun s' hs' => ?_, fun p hp => absurd (hsub d p hp) hdsp, hR', hO'⟩
            rw [he] at hs'; cases hs'; exact hv
          · cases hdst
  · rintro L a W ⟨hL, hcase⟩ hnil
    rcases hcase with ⟨_, _, hQ⟩ | ⟨hl0, hclo, _⟩
    · exact hQ
    · exfalso
      unfold backB at hbk
      rw [List.all_eq_true] at hbk
      have := hbk (ops.size - 1) (List.mem_range.2 (by omega))
      rw [List.contains_eq_mem, decide_eq_true_eq] at this
      rw [come_listed hL hnil _ _ this] at hl0
      cases hl0
  · refine ⟨by simp, .inr ⟨?_, ?_, rfl, rfl, ?_, ?_, fun _ _ => rfl, ?_, ⟨Nat.le_refl _, fun _ _ _ => rfl⟩⟩⟩
    · have : ops.size - 1 < ops.size := by omega
      simp [Array.getD_eq_getD_getElem?, this]
    · intro i hi
      exfalso
      by_cases hlt : i < ops.size <;> simp [Array.getD_eq_getD_getElem?, hlt] at hi
    · intro t s hts hl
      refine Sp.ok_only (h0 t s hts fun hmem => ?_) ⟨Nat.le_refl _, fun _ _ _ => rfl⟩
      obtain ⟨o, ho, hd⟩ := List.mem_filterMap.1 hmem
      obtain ⟨i, hi⟩ := List.mem_iff_getElem?.1 ho
      have := hl i o (by simpa using hi) hd
      have hlt : i < ops.size := by have := (List.getElem?_eq_some_iff.1 hi).1; simpa using this
      simp [Array.getD_eq_getD_getElem?, hlt] at this
    · intro t p hts hl
      exfalso
      have hmem := hspd t (hsub t p hts)
      obtain ⟨o, ho, hd⟩ := List.mem_filterMap.1 hmem
      obtain ⟨i, hi⟩ := List.mem_iff_getElem?.1 ho
      have := hl i o (by simpa using hi) hd
      have hlt : i < ops.size := by have := (List.getElem?_eq_some_iff.1 hi).1; simpa using this
      simp [Array.getD_eq_getD_getElem?, hlt] at this
    · exact (hR.drew).more (by omega)
  · unfold toCome; exact Nat.le_trans (List.length_filter_le _ _) (by simp)

/-- The same, the reckoning from what the slots held before. -/
theorem wp_region_put {w0 : World} {r Co M q0 : Nat} {tab : Nat → List Sp → Option Sp} (ht : Table w0 r Co M tab) (env0 : Env) (sp : List Nat) (ψ : Nat → Option (Value → World → Prop))
    (hstab : ∀ t p, ψ t = some p → ∀ v W W', p v W → Only r W W' → p v W') (hsub : ∀ t p, ψ t = some p → t ∈ sp)
    {id : Nat} {ops : Array Oper} {a0 : Act} {w : World} {Q : Exit → Act → World → Prop}
    (hm : Tryd.prog.follows .mixedOrders = true) (hpos : 0 < ops.size) (hspd : ∀ t, t ∈ sp → t ∈ dsts ops) (hck : storeOk tab (inferEnv tab ops env0) sp ops a0.tmps.size = true)
    (h0 : ∀ t s, env0.lookup t = some s → s.ok r (a0.eval (.tmp t)) w) (hR : Rd w0 r q0 w) (hq : q0 + Co * ops.size ≤ M)
    (hsp : ∀ (i : Nat) (o : Oper) (d : Nat), ops[i]? = some o → o.dst = some d → d ∈ sp → ∀ (a : Act) (W : World) (q : Nat), (∀ t s, Operand.tmp t ∈ o.op.operands → (inferEnv tab ops env0).lookup t = some s → s.ok r (a.eval (.tmp t)) W) → Rd w0 r q W → Only r w W →
      o.wp Tryd.prog a W (fun a' W' => ∃ v, a' = a.put (some d) v ∧ (∀ p, ψ d = some p → p v W') ∧ Rd w0 r q W' ∧ Only r W W') Q)
    (hlast : ∀ (o : Oper), ops[ops.size - 1]? = some o → ∀ (f : Nat → Value) (W : World), (∀ t s, (inferEnv tab ops env0).lookup t = some s → s.ok r (f t) W) → (∀ t p, ψ t = some p → p (f t) W) →
      (∀ t, t ∉ dsts ops → f t = a0.eval (.tmp t)) → Rd w0 r (q0 + Co * ops.size) W → Only r w W → o.wp Tryd.prog { tmps := ((List.range a0.tmps.size).map f).toArray, defers := a0.defers } W (fun a' W' => Q .normal a' W') Q) :
    (Code.region id ops true).wp Tryd.prog Q a0 w :=
  wp_region_store ht (inferEnv tab ops env0) sp ψ hstab hsub hm hpos hspd hck (fun t s hts hn => h0 t s (by rwa [inferEnv_old tab ops env0 t hn] at hts)) hR hq hsp
    fun o ho a W hd hs hin hpsi hold hR' hO => by
      rw [act_eq a hs, hd]
      exact hlast o ho (fun t => a.eval (.tmp t)) W hin hpsi hold hR' hO

end Go.Proofs.YtgkkoegfmhgcjaaDoor
