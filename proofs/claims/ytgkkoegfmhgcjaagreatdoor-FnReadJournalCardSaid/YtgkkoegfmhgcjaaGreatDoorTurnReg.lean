/-
  A region in any order that calls what writes nothing of before, and stores once into a known box: of each slot a predicate of its own is kept.
-/
import Derived.Test.YtgkkoegfmhgcjaaGreatDoorGDraw
import Derived.Test.YtgkkoegfmhgcjaaGreatDoorGText
namespace Go.Proofs.YtgkkoegfmhgcjaaGreatDoor
open Go.RowKit Go.Shelf

def turnOk (si : Nat) (ops : Array Oper) (N : Nat) : Bool :=
  ((List.range ops.size).all fun i => match ops[i]? with
    | none => false
    | some o => o.guard.isNone && (match o.dst with
      | none => i == si
      | some d => i != si && decide (d < N)) && comesB ops o) && (decide (dsts ops).Nodup && backB ops)

set_option maxHeartbeats 1000000 in
theorem wp_region_turn (g si : Nat) (φ : World → Prop) (hφ : ∀ W W', φ W → Below W.heap.size W W' → φ W') (ψ : Nat → Option (Value → World → Prop))
    (hstab : ∀ t p, ψ t = some p → ∀ v W W', p v W → W.grownBy W' (some g) → p v W')
    {id : Nat} {ops : Array Oper} {a0 : Act} {w : World} {Q : Exit → Act → World → Prop}
    (hm : Tryz.prog.follows .mixedOrders = true) (hsi : si < ops.size) (hck : turnOk si ops a0.tmps.size = true)
    (h0 : ∀ t p, ψ t = some p → t ∉ dsts ops → p (a0.eval (.tmp t)) w)
    (hop : ∀ (i : Nat) (o : Oper) (d : Nat), ops[i]? = some o → o.dst = some d → ∀ (a : Act) (W : World), (∀ t p, Operand.tmp t ∈ o.op.operands → ψ t = some p → p (a.eval (.tmp t)) W) →
      (∀ t, t ∉ dsts ops → a.eval (.tmp t) = a0.eval (.tmp t)) → w.grownBy W (some g) →
      o.wp Tryz.prog a W (fun a' W' => ∃ v, a' = a.put (some d) v ∧ (∀ p, ψ d = some p → p v W') ∧ Below W.heap.size W W') Q)
    (hst : ∀ o, ops[si]? = some o → ∀ (a : Act) (W : World), (∀ t p, Operand.tmp t ∈ o.op.operands → ψ t = some p → p (a.eval (.tmp t)) W) →
      (∀ t, t ∉ dsts ops → a.eval (.tmp t) = a0.eval (.tmp t)) → Below w.heap.size w W →
      o.wp Tryz.prog a W (fun a' W' => a' = a ∧ φ W' ∧ W.grownBy W' (some g)) Q)
    (hQ : ∀ (f : Nat → Value) (W : World), (∀ t p, ψ t = some p → p (f t) W) →
      (∀ t, t ∉ dsts ops → f t = a0.eval (.tmp t)) → φ W → w.grownBy W (some g) → Q .normal { tmps := ((List.range a0.tmps.size).map f).toArray, defers := a0.defers } W) :
    (Code.region id ops true).wp Tryz.prog Q a0 w := by
  simp only [turnOk, Bool.and_eq_true, decide_eq_true_eq] at hck
  obtain ⟨hall, hnd, hback⟩ := hck
  rw [List.all_eq_true] at hall
  have hgb : ∀ {W W' : World}, Below W.heap.size W W' → W.grownBy W' (some g) := fun hb => ⟨hb.os, hb.tape, hb.output, hb.size, fun k hk _ => hb.block k hk⟩
  refine wp_region_any hm ?_
  refine wpAny_of_inv (fun L a W => L.size = ops.size ∧ a.defers = a0.defers ∧ a.tmps.size = a0.tmps.size ∧
      (∀ t p, ψ t = some p → (∀ i o, ops[i]? = some o → o.dst = some t → L.getD i false = true) → p (a.eval (.tmp t)) W) ∧
      (∀ t, t ∉ dsts ops → a.eval (.tmp t) = a0.eval (.tmp t)) ∧ w.grownBy W (some g) ∧ (L.getD si false = true → φ W) ∧ (L.getD si false = false → Below w.heap.size w W))
    (fun L a W h => h.1) ?_ ?_ ops.size _ a0 _ ?_ ?_
  · rintro L a W i ⟨hL, hd, hs, hin, hold, hr, hph, hbe⟩ hi
    obtain ⟨hlt, hun, o, hoi, hdep⟩ := ready_spec hi
    have hun' : L.getD i false = false := by
      simp only [Array.getD_eq_getD_getElem?, Array.getElem?_eq_getElem (show i < L.size by omega), Option.getD_some] at hun ⊢
      exact hun
    have hk := hall i (List.mem_range.2 hlt)
    rw [hoi] at hk
    dsimp only at hk
    simp only [Bool.and_eq_true] at hk
    obtain ⟨⟨hg, hdst⟩, hops⟩ := hk
    have hg' : o.guard = none := by simpa using hg
    have hwt : Region.wanted o (yielded ops a.tmps) = true := by simp [Region.wanted, hg']
    cases hdd : o.dst with
    | none =>
      rw [hdd] at hdst
      have hisi : i = si := by simpa using hdst
      subst hisi
      have hw := hst o hoi a W (fun t p hx hts => hin t p hts fun j oj hj dj => comes_listed hnd hops hdep hx hj dj) hold (hbe hun')
      unfold wpOp
      rw [hoi]
      simp only [hwt, if_true]
      refine .inl (Oper.wp_mono ?_ hw)
      rintro a' W' ⟨rfl, hp, hgr⟩
      refine ⟨by simpa using hL, hd, hs, ?_, hold, hr.trans hgr, fun _ => hp, fun h => ?_⟩
      · intro t p hts hlis
        refine hstab t p hts _ _ _ (hin t p hts fun j oj hj dj => ?_) hgr
        have := hlis j oj hj dj
        by_cases hji : i = j
        · subst hji; rw [hoi] at hj; cases hj; rw [hdd] at dj; cases dj
        · simpa [Array.getD_eq_getD_getElem?, Array.getElem?_setIfInBounds_ne hji] using this
      · exfalso
        simp [Array.getD_eq_getD_getElem?, hL, hlt] at h
    | some d =>
      rw [hdd] at hdst
      simp only [Bool.and_eq_true, decide_eq_true_eq, bne_iff_ne, ne_eq] at hdst
      obtain ⟨hne, hdN⟩ := hdst
      have hw := hop i o d hoi hdd a W (fun t p hx hts => hin t p hts fun j oj hj dj => comes_listed hnd hops hdep hx hj dj) hold hr
      unfold wpOp
      rw [hoi]
      simp only [hwt, if_true]
      refine .inl (Oper.wp_mono ?_ hw)
      rintro a' W' ⟨v, rfl, hv, hB'⟩
      have hsame : (L.setIfInBounds i true).getD si false = L.getD si false := by
        simp [Array.getD_eq_getD_getElem?, Array.getElem?_setIfInBounds_ne hne]
      refine ⟨by simpa using hL, by rw [defers_put]; exact hd, by rw [size_put]; exact hs, ?_, ?_, hr.trans (hgb hB'), fun h => hφ _ _ (hph (by rw [← hsame]; exact h)) hB', fun h => ?_⟩
      · intro t p hts hlis
        by_cases e : d = t
        · subst e
          rw [eval_put_same _ _ _ (by rw [hs]; exact hdN)]; exact hv p hts
        · rw [eval_put_other _ _ _ _ e]
          refine hstab t p hts _ _ _ (hin t p hts fun j oj hj dj => ?_) (hgb hB')
          have := hlis j oj hj dj
          by_cases hji : i = j
          · subst hji; rw [hoi] at hj; cases hj; rw [hdd] at dj; cases dj; exact absurd rfl e
          · simpa [Array.getD_eq_getD_getElem?, Array.getElem?_setIfInBounds_ne hji] using this
      · intro t ht'
        rw [eval_put_other _ _ _ _ (fun e => ht' (by rw [← e]; exact mem_dsts hoi hdd))]
        exact hold t ht'
      · have hb := hbe (by rw [← hsame]; exact h)
        exact hb.trans (hB'.mono hb.size)
  · rintro L a W ⟨hL, hd, hs, hin, hold, hr, hph, hbe⟩ hnil
    have hcomplete : ∀ i o, ops[i]? = some o → L.getD i false = true := by
      intro i o hi
      have hlt : i < ops.size := (Array.getElem?_eq_some_iff.1 hi).1
      unfold backB at hback
      rw [List.all_eq_true] at hback
      have := hback i (List.mem_range.2 hlt)
      rw [List.contains_eq_mem, decide_eq_true_eq] at this
      exact come_listed hL hnil _ i this
    rw [act_eq a hs, hd]
    exact hQ (fun t => a.eval (.tmp t)) W (fun t p h => hin t p h fun i o hi _ => hcomplete i o hi) hold (hph (hcomplete si ops[si] (Array.getElem?_eq_getElem hsi))) hr
  · refine ⟨by simp, rfl, rfl, ?_, fun _ _ => rfl, hgb ((Below.refl _ w).drew), fun h => ?_, fun _ => (Below.refl _ w).drew⟩
    · intro t p hts hl
      refine hstab t p hts _ w _ (h0 t p hts fun hmem => ?_) (hgb ((Below.refl _ w).drew))
      obtain ⟨o, ho, hd⟩ := List.mem_filterMap.1 hmem
      obtain ⟨i, hi⟩ := List.mem_iff_getElem?.1 ho
      have := hl i o (by simpa using hi) hd
      have hlt : i < ops.size := by have := (List.getElem?_eq_some_iff.1 hi).1; simpa using this
      simp [Array.getD_eq_getD_getElem?, hlt] at this
    · exfalso
      simp [Array.getD_eq_getD_getElem?, hsi] at h
  · unfold toCome; exact Nat.le_trans (List.length_filter_le _ _) (by simp)

section
variable {o : Oper} {a : Act} {W : World} {Q : Exit → Act → World → Prop}

/-- Behind an operation that writes nothing of before. -/
def TnPost (p : Value → World → Prop) (o : Oper) (a : Act) (W : World) (a' : Act) (W' : World) : Prop := ∃ v, a' = a.put o.dst v ∧ p v W' ∧ Below W.heap.size W W'

theorem tn_copy {x : Operand} {p : Value → World → Prop} (ho : o.op = .move x ∨ o.op = .assign x) (h1 : p (a.eval x) W) : o.wp Tryz.prog a W (TnPost p o a W) Q := by
  unfold Oper.wp
  rcases ho with ho | ho
  all_goals
    simp only [execOp, ho, Sem.run_pure, Oper.upon]
    exact ⟨_, rfl, h1, Below.refl _ _⟩
theorem tn_call {c : Call} {f : Nat} {args : Array Value} {p : Value → World → Prop} (ho : o.op = .call c) (hf : c.callee = .value (.func f)) (he : ∀ args w, (callFunc f args).run Tryz.prog w = .ok (.enter f args) w)
    (ha : (c.args.toList.map a.eval).toArray = args) (hc : Calls Tryz.prog f args W fun e W' => ∃ v, e = .returned v ∧ p v W' ∧ Below W.heap.size W W') : o.wp Tryz.prog a W (TnPost p o a W) Q := by
  have hrun : (execOp a.eval o).run Tryz.prog W = .ok (.enter f (c.args.toList.map a.eval).toArray) W := by
    simp only [execOp, ho, resolve, hf]
    simp [go_sem, Act.eval]
    rw [he]
    congr 2
    apply Array.ext'
    simp
  unfold Oper.wp
  rw [hrun, ha]
  refine hc.mono ?_
  rintro e W' ⟨v, rfl, h, hb⟩
  exact ⟨v, rfl, h, hb⟩
/-- A desk is loaded out of its box. -/
theorem tn_load {x : Operand} {B : Nat} {cs : Array Value} {p : Value → World → Prop} (ho : o.op = .load 30 x) (hx : a.eval x = .pointer (some ⟨B, 0, none⟩)) (hB : SBox W B 30 cs) (hs : cs.size = 3) (hp : p (.agg cs) W) :
    o.wp Tryz.prog a W (TnPost p o a W) Q :=
  wp_load_row _ _ ho B hx _ cs (0, 0) _ hB Tryz.underlying30 rfl (by rw [size_desk, hs]) ⟨_, rfl, hp, Below.refl _ _⟩
/-- A desk is stored into its box. -/
theorem tn_store {x y : Operand} {B : Nat} {old : Array Value} {b n : Int} {v : Value} {φ : World → Prop} (ho : o.op = .store 30 x y) (hd : o.dst = none) (hx : a.eval x = .pointer (some ⟨B, 0, none⟩)) (hy : a.eval y = .agg #[.int .i64 b, .int .i64 n, v])
    (hv : v.oneCell' = true) (hB : SBox W B 30 old) (hs : old.size = 3)
    (hφ : ∀ W', SBox W' B 30 #[.int .i64 b, .int .i64 n, v] → W.grownBy W' (some B) → φ W') : o.wp Tryz.prog a W (fun a' W' => a' = a ∧ φ W' ∧ W.grownBy W' (some B)) Q := by
  have hg : W.grownBy (W.setRow B #[.int .i64 b, .int .i64 n, v]) (some B) := ⟨rfl, rfl, rfl, by simp [World.setRow], fun k _ hk => setRow_other _ _ _ _ (fun e => hk (by rw [e]))⟩
  refine wp_store_row _ _ _ ho B #[.int .i64 b, .int .i64 n, v] hx hy _ old hB (by rw [size_desk]; rfl) hs (by simp [Value.oneCell']; simpa [Value.oneCell'] using hv) ⟨by rw [hd]; rfl, hφ _ (setRow_heap _ _ _ _ _ _ hB) hg, hg⟩
end

/-- What a slot is known to hold: a value; a new row; a desk whose numbers of before lie in a new row. -/
inductive Tq
  | is (v : Value)
  | row (B : Nat) (xs : List Int)
  | desk (B : Nat) (b n : Int) (past : List Int)

def Tq.ok (g : Nat) : Tq → Value → World → Prop
  | .is u, v, _ => v = u
  | .row B xs, v, W => g < B ∧ Row B W v xs
  | .desk B b n past, v, W => g < B ∧ ∃ u, v = .agg #[.int .i64 b, .int .i64 n, u] ∧ Row B W u past

theorem Row.turned {base g : Nat} {w w' : World} {v : Value} {xs : List Int} (h : Row base w v xs) (hg : g < base) (ht : w.grownBy w' (some g)) : Row base w' v xs := by
  rcases h with ⟨h1, h2 | ⟨g', cap, cur, hv, hb, hh, r⟩⟩
  · exact ⟨h1, .inl h2⟩
  · refine ⟨h1, .inr ⟨g', cap, cur, hv, hb, ?_, r⟩⟩
    exact (ht.block g' (lt_of_heap hh) (fun e => by cases e; omega)).trans hh
theorem Tq.ok_turned {g : Nat} {s : Tq} {v : Value} {w w' : World} (h : s.ok g v w) (ht : w.grownBy w' (some g)) : s.ok g v w' := by
  cases s with
  | is u => exact h
  | row B xs => exact ⟨h.1, h.2.turned h.1 ht⟩
  | desk B b n past =>
    obtain ⟨h1, u, h2, h3⟩ := h
    exact ⟨h1, u, h2, h3.turned h1 ht⟩

/-- A region of such operations. -/
theorem wp_region_tq (g si : Nat) (φ : World → Prop) (hφ : ∀ W W', φ W → Below W.heap.size W W' → φ W') (env : Nat → Option Tq)
    {id : Nat} {ops : Array Oper} {a0 : Act} {w : World} {Q : Exit → Act → World → Prop}
    (hm : Tryz.prog.follows .mixedOrders = true) (hsi : si < ops.size) (hck : turnOk si ops a0.tmps.size = true)
    (h0 : ∀ t s, env t = some s → t ∉ dsts ops → s.ok g (a0.eval (.tmp t)) w)
    (hop : ∀ (i : Nat) (o : Oper), i ≠ si → ops[i]? = some o → ∀ (a : Act) (W : World), (∀ t s, Operand.tmp t ∈ o.op.operands → env t = some s → s.ok g (a.eval (.tmp t)) W) →
      w.grownBy W (some g) → ∃ s, (∀ d, o.dst = some d → env d = some s) ∧ o.wp Tryz.prog a W (TnPost (s.ok g) o a W) Q)
    (hst : ∀ o, ops[si]? = some o → ∀ (a : Act) (W : World), (∀ t s, Operand.tmp t ∈ o.op.operands → env t = some s → s.ok g (a.eval (.tmp t)) W) → Below w.heap.size w W →
      o.wp Tryz.prog a W (fun a' W' => a' = a ∧ φ W' ∧ W.grownBy W' (some g)) Q)
    (hQ : ∀ (f : Nat → Value) (W : World), (∀ t s, env t = some s → s.ok g (f t) W) →
      (∀ t, t ∉ dsts ops → f t = a0.eval (.tmp t)) → φ W → w.grownBy W (some g) → Q .normal { tmps := ((List.range a0.tmps.size).map f).toArray, defers := a0.defers } W) :
    (Code.region id ops true).wp Tryz.prog Q a0 w := by
  refine wp_region_turn g si φ hφ (fun t => (env t).map fun s => s.ok g) ?_ hm hsi hck ?_ ?_ ?_ ?_
  · intro t p hp v W W' h hO
    obtain ⟨s, _, rfl⟩ := Option.map_eq_some_iff.1 hp
    exact Tq.ok_turned h hO
  · intro t p hp hn
    obtain ⟨s, hs, rfl⟩ := Option.map_eq_some_iff.1 hp
    exact h0 t s hs hn
  · intro i o d hio hd a W hin hold hgr
    have hne : i ≠ si := by
      rintro rfl
      simp only [turnOk, Bool.and_eq_true] at hck
      have h1 := hck.1
      rw [List.all_eq_true] at h1
      have h2 := h1 i (List.mem_range.2 hsi)
      rw [hio] at h2
      simp [hd] at h2
    obtain ⟨s, hs, hw⟩ := hop i o hne hio a W (fun t s ht hs => hin t _ ht (by rw [hs]; rfl)) hgr
    refine Oper.wp_mono ?_ hw
    rintro a' W' ⟨v, rfl, hv, h2⟩
    refine ⟨v, by rw [hd], fun p hp => ?_, h2⟩
    rw [hs d hd] at hp
    cases hp
    exact hv
  · intro o ho a W hin hold hb
    exact hst o ho a W (fun t s ht hs => hin t _ ht (by rw [hs]; rfl)) hb
  · intro f W hin hold hp hgr
    exact hQ f W (fun t s hs => hin t _ (by rw [hs]; rfl)) hold hp hgr

theorem slot_of (f : Nat → Value) {n k : Nat} (h : k < n) : (((List.range n).map f).toArray).getD k undef = f k := by simp [h]

end Go.Proofs.YtgkkoegfmhgcjaaGreatDoor
