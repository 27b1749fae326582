/-
  A region in any order that calls what writes nothing of before, lays one box for a desk and stores a desk into it.
-/
import Derived.Test.YtgkkoegfmhgcjaaGreatDoorTurnReg
import Derived.Test.YtgkkoegfmhgcjaaGreatDoorGDesk
namespace Go.Proofs.YtgkkoegfmhgcjaaGreatDoor
open Go.RowKit Go.Shelf

/-- A desk's box from a place on is written: nothing else. -/
def PutAt (B : Nat) (W W' : World) : Prop :=
  ∃ g cs cs', B ≤ g ∧ cs.size = 3 ∧ cs'.size = 3 ∧ SBox W g 30 cs ∧ SBox W' g 30 cs' ∧ W.os = W'.os ∧ W.tape = W'.tape ∧ W.output = W'.output ∧ W'.heap.size = W.heap.size ∧ ∀ i, i ≠ g → W'.heap[i]? = W.heap[i]?
theorem PutAt.below {B : Nat} {W W' : World} (h : PutAt B W W') : Below B W W' := by
  obtain ⟨g, cs, cs', hB, _, _, _, _, h1, h2, h3, h4, h5⟩ := h
  exact ⟨h1.symm, h2.symm, h3.symm, by omega, fun k hk => h5 k (by omega)⟩

set_option maxHeartbeats 1000000 in
theorem wp_region_boxed (si tb : Nat) (φ : Value → World → Prop) (hφ : ∀ v W W', φ v W → Below W.heap.size W W' → φ v W') (ψ : Nat → Option (Value → World → Prop))
    (hstab : ∀ t p, ψ t = some p → ∀ v W W', p v W → Below W.heap.size W W' → p v W')
    {id : Nat} {ops : Array Oper} {a0 : Act} {w : World} {Q : Exit → Act → World → Prop}
    (hstab2 : ∀ t p, ψ t = some p → ∀ v W W', p v W → PutAt w.heap.size W W' → p v W')
    (hm : Tryz.prog.follows .mixedOrders = true) (hsi : si < ops.size) (hck : turnOk si ops a0.tmps.size = true)
    (htb : ∀ o, ops[si]? = some o → Operand.tmp tb ∈ o.op.operands)
    (h0 : ∀ t p, ψ t = some p → t ∉ dsts ops → p (a0.eval (.tmp t)) w)
    (hop : ∀ (i : Nat) (o : Oper) (d : Nat), ops[i]? = some o → o.dst = some d → ∀ (a : Act) (W : World), (∀ t p, Operand.tmp t ∈ o.op.operands → ψ t = some p → p (a.eval (.tmp t)) W) →
      (∀ t, t ∉ dsts ops → a.eval (.tmp t) = a0.eval (.tmp t)) → Below w.heap.size w W →
      o.wp Tryz.prog a W (fun a' W' => ∃ v, a' = a.put (some d) v ∧ (∀ p, ψ d = some p → p v W') ∧ Below W.heap.size W W') Q)
    (hst : ∀ o, ops[si]? = some o → ∀ (a : Act) (W : World), (∀ t p, Operand.tmp t ∈ o.op.operands → ψ t = some p → p (a.eval (.tmp t)) W) →
      (∀ t, t ∉ dsts ops → a.eval (.tmp t) = a0.eval (.tmp t)) → Below w.heap.size w W →
      o.wp Tryz.prog a W (fun a' W' => a' = a ∧ φ (a.eval (.tmp tb)) W' ∧ PutAt w.heap.size W W') Q)
    (hQ : ∀ (f : Nat → Value) (W : World), (∀ t p, ψ t = some p → p (f t) W) →
      (∀ t, t ∉ dsts ops → f t = a0.eval (.tmp t)) → φ (f tb) W → Below w.heap.size w W → Q .normal { tmps := ((List.range a0.tmps.size).map f).toArray, defers := a0.defers } W) :
    (Code.region id ops true).wp Tryz.prog Q a0 w := by
  simp only [turnOk, Bool.and_eq_true, decide_eq_true_eq] at hck
  obtain ⟨hall, hnd, hback⟩ := hck
  rw [List.all_eq_true] at hall
  refine wp_region_any hm ?_
  refine wpAny_of_inv (fun L a W => L.size = ops.size ∧ a.defers = a0.defers ∧ a.tmps.size = a0.tmps.size ∧
      (∀ t p, ψ t = some p → (∀ i o, ops[i]? = some o → o.dst = some t → L.getD i false = true) → p (a.eval (.tmp t)) W) ∧
      (∀ t, t ∉ dsts ops → a.eval (.tmp t) = a0.eval (.tmp t)) ∧ Below w.heap.size w W ∧ (L.getD si false = true → φ (a.eval (.tmp tb)) W ∧ ∀ j o, ops[j]? = some o → o.dst = some tb → L.getD j false = true))
    (fun L a W h => h.1) ?_ ?_ ops.size _ a0 _ ?_ ?_
  · rintro L a W i ⟨hL, hd, hs, hin, hold, hr, hph⟩ hi
    obtain ⟨hlt, hun, o, hoi, hdep⟩ := ready_spec hi
    have hun' : L.getD i false = false := by
      simp only [Array.getD_eq_getD_getElem?, Array.getElem?_eq_getElem (show i < L.size by omega), Option.getD_some] at hun ⊢
      exact hun
    have hk := hall i (List.mem_range.2 hlt)
    rw [hoi] at hk
    dsimp only at hk
    simp only [Bool.and_eq_true] at hk
    obtain ⟨⟨hg, hdst⟩, hops⟩ := hk
    have hg' : o.guard = none := by simpa using hg
    have hwt : Region.wanted o (yielded ops a.tmps) = true := by simp [Region.wanted, hg']
    have hmono : ∀ j, L.getD j false = true → (L.setIfInBounds i true).getD j false = true := fun j => getD_set_mono
    cases hdd : o.dst with
    | none =>
      rw [hdd] at hdst
      have hisi : i = si := by simpa using hdst
      subst hisi
      have hw := hst o hoi a W (fun t p hx hts => hin t p hts fun j oj hj dj => comes_listed hnd hops hdep hx hj dj) hold hr
      unfold wpOp
      rw [hoi]
      simp only [hwt, if_true]
      refine .inl (Oper.wp_mono ?_ hw)
      rintro a' W' ⟨rfl, hp, hgr⟩
      refine ⟨by simpa using hL, hd, hs, ?_, hold, hr.trans hgr.below, fun _ => ⟨hp, fun j oj hj dj => hmono j (comes_listed hnd hops hdep (htb o hoi) hj dj)⟩⟩
      intro t p hts hlis
      refine hstab2 t p hts _ _ _ (hin t p hts fun j oj hj dj => ?_) hgr
      have := hlis j oj hj dj
      by_cases hji : i = j
      · subst hji; rw [hoi] at hj; cases hj; rw [hdd] at dj; cases dj
      · simpa [Array.getD_eq_getD_getElem?, Array.getElem?_setIfInBounds_ne hji] using this
    | some d =>
      rw [hdd] at hdst
      simp only [Bool.and_eq_true, decide_eq_true_eq, bne_iff_ne, ne_eq] at hdst
      obtain ⟨hne, hdN⟩ := hdst
      have hw := hop i o d hoi hdd a W (fun t p hx hts => hin t p hts fun j oj hj dj => comes_listed hnd hops hdep hx hj dj) hold hr
      unfold wpOp
      rw [hoi]
      simp only [hwt, if_true]
      refine .inl (Oper.wp_mono ?_ hw)
      rintro a' W' ⟨v, rfl, hv, hB'⟩
      have hsame : (L.setIfInBounds i true).getD si false = L.getD si false := by
        simp [Array.getD_eq_getD_getElem?, Array.getElem?_setIfInBounds_ne hne]
      refine ⟨by simpa using hL, by rw [defers_put]; exact hd, by rw [size_put]; exact hs, ?_, ?_, hr.trans (hB'.mono hr.size), fun h => ?_⟩
      · intro t p hts hlis
        by_cases e : d = t
        · subst e
          rw [eval_put_same _ _ _ (by rw [hs]; exact hdN)]; exact hv p hts
        · rw [eval_put_other _ _ _ _ e]
          refine hstab t p hts _ _ _ (hin t p hts fun j oj hj dj => ?_) hB'
          have := hlis j oj hj dj
          by_cases hji : i = j
          · subst hji; rw [hoi] at hj; cases hj; rw [hdd] at dj; cases dj; exact absurd rfl e
          · simpa [Array.getD_eq_getD_getElem?, Array.getElem?_setIfInBounds_ne hji] using this
      · intro t ht'
        rw [eval_put_other _ _ _ _ (fun e => ht' (by rw [← e]; exact mem_dsts hoi hdd))]
        exact hold t ht'
      · obtain ⟨h1, h2⟩ := hph (by rw [← hsame]; exact h)
        have hdt : d ≠ tb := by
          rintro rfl
          rw [h2 i o hoi hdd] at hun'
          cases hun'
        rw [eval_put_other _ _ _ _ hdt]
        exact ⟨hφ _ _ _ h1 hB', fun j oj hj dj => hmono j (h2 j oj hj dj)⟩
  · rintro L a W ⟨hL, hd, hs, hin, hold, hr, hph⟩ hnil
    have hcomplete : ∀ i o, ops[i]? = some o → L.getD i false = true := by
      intro i o hi
      have hlt : i < ops.size := (Array.getElem?_eq_some_iff.1 hi).1
      unfold backB at hback
      rw [List.all_eq_true] at hback
      have := hback i (List.mem_range.2 hlt)
      rw [List.contains_eq_mem, decide_eq_true_eq] at this
      exact come_listed hL hnil _ i this
    rw [act_eq a hs, hd]
    exact hQ (fun t => a.eval (.tmp t)) W (fun t p h => hin t p h fun i o hi _ => hcomplete i o hi) hold (hph (hcomplete si ops[si] (Array.getElem?_eq_getElem hsi))).1 hr
  · refine ⟨by simp, rfl, rfl, ?_, fun _ _ => rfl, (Below.refl _ w).drew, fun h => ?_⟩
    · intro t p hts hl
      refine hstab t p hts _ w _ (h0 t p hts fun hmem => ?_) ((Below.refl _ w).drew)
      obtain ⟨o, ho, hd⟩ := List.mem_filterMap.1 hmem
      obtain ⟨i, hi⟩ := List.mem_iff_getElem?.1 ho
      have := hl i o (by simpa using hi) hd
      have hlt : i < ops.size := by have := (List.getElem?_eq_some_iff.1 hi).1; simpa using this
      simp [Array.getD_eq_getD_getElem?, hlt] at this
    · exfalso
      simp [Array.getD_eq_getD_getElem?, hsi] at h
  · unfold toCome; exact Nat.le_trans (List.length_filter_le _ _) (by simp)

/-- What a slot is known to hold: a value; a desk whose numbers of before lie in memory of the call's own, alone or with a value, or with new texts, behind it; such texts; a desk's new box. -/
inductive Bq
  | is (v : Value)
  | desk (B : Nat) (b n : Int) (past : List Int)
  | tup (B : Nat) (b n : Int) (past : List Int) (v : Value)
  | tupT (B : Nat) (b n : Int) (past : List Int) (ls : List (List UInt8))
  | texts (B : Nat) (ls : List (List UInt8))
  | box (B : Nat)

def Bq.ok : Bq → Value → World → Prop
  | .is u, v, _ => v = u
  | .desk B b n past, v, W => ∃ u, v = .agg #[.int .i64 b, .int .i64 n, u] ∧ OwnTail B W u past
  | .tup B b n past s, v, W => ∃ u, v = .tuple #[.agg #[.int .i64 b, .int .i64 n, u], s] ∧ OwnTail B W u past
  | .tupT B b n past ls, v, W => ∃ u t, v = .tuple #[.agg #[.int .i64 b, .int .i64 n, u], t] ∧ OwnTail B W u past ∧ TRow B W t ls
  | .texts B ls, v, W => TRow B W v ls
  | .box B, v, W => ∃ g cs, v = .pointer (some ⟨g, 0, none⟩) ∧ B ≤ g ∧ cs.size = 3 ∧ SBox W g 30 cs

theorem TRow.stored {base : Nat} {w w' : World} {v : Value} {ls : List (List UInt8)} (h : TRow base w v ls) {B : Nat} {T : TypeId} {cs : Array Value} (hB : SBox w B T cs) (hT : T ≠ 9) (ho : ∀ i, i ≠ B → w'.heap[i]? = w.heap[i]?) : TRow base w' v ls := by
  rcases h with ⟨h1, h2 | ⟨g, cap, cur, hv, hg, hh, r⟩⟩
  · exact ⟨h1, .inl h2⟩
  · refine ⟨h1, .inr ⟨g, cap, cur, hv, hg, ?_, r⟩⟩
    refine (ho g ?_).trans hh
    rintro rfl
    unfold SBox at hB
    rw [hB] at hh
    injection hh with hh
    injection hh with _ ht _
    exact hT ht
theorem TRow.mono {base base' : Nat} {w : World} {v : Value} {ls : List (List UInt8)} (h : TRow base w v ls) (hb : base' ≤ base) : TRow base' w v ls := by
  rcases h with ⟨h1, h2 | ⟨g, cap, cur, hv, hg, r⟩⟩
  · exact ⟨h1, .inl h2⟩
  · exact ⟨h1, .inr ⟨g, cap, cur, hv, Nat.le_trans hb hg, r⟩⟩
theorem Bq.ok_below {s : Bq} {v : Value} {W W' : World} (h : s.ok v W) (hb : Below W.heap.size W W') : s.ok v W' := by
  cases s with
  | is u => exact h
  | desk B b n past => obtain ⟨u, h1, h2⟩ := h; exact ⟨u, h1, h2.below hb⟩
  | tup B b n past s => obtain ⟨u, h1, h2⟩ := h; exact ⟨u, h1, h2.below hb⟩
  | tupT B b n past ls => obtain ⟨u, t, h1, h2, h3⟩ := h; exact ⟨u, t, h1, h2.below hb, h3.below hb⟩
  | texts B ls => exact TRow.below h hb
  | box B => obtain ⟨g, cs, h1, h2, h3, h4⟩ := h; exact ⟨g, cs, h1, h2, h3, h4.kept hb⟩
theorem Bq.ok_put {s : Bq} {v : Value} {B0 : Nat} {W W' : World} (h : s.ok v W) (hp : PutAt B0 W W') : s.ok v W' := by
  obtain ⟨g, cs, cs', hB, hc1, hc2, hS, hS', _, _, _, _, ho⟩ := hp
  cases s with
  | is u => exact h
  | desk B b n past => obtain ⟨u, h1, h2⟩ := h; exact ⟨u, h1, h2.stored hS (by decide) ho⟩
  | tup B b n past s => obtain ⟨u, h1, h2⟩ := h; exact ⟨u, h1, h2.stored hS (by decide) ho⟩
  | tupT B b n past ls => obtain ⟨u, t, h1, h2, h3⟩ := h; exact ⟨u, t, h1, h2.stored hS (by decide) ho, h3.stored hS (by decide) ho⟩
  | texts B ls => exact TRow.stored h hS (by decide) ho
  | box B =>
    obtain ⟨g2, cs2, h1, h2, h3, h4⟩ := h
    by_cases e : g2 = g
    · subst e; exact ⟨g2, cs', h1, h2, hc2, hS'⟩
    · exact ⟨g2, cs2, h1, h2, h3, (ho g2 e).trans h4⟩

/-- A region of such operations. -/
theorem wp_region_bq (si tb : Nat) (φ : Value → World → Prop) (hφ : ∀ v W W', φ v W → Below W.heap.size W W' → φ v W') (env : Nat → Option Bq)
    {id : Nat} {ops : Array Oper} {a0 : Act} {w : World} {Q : Exit → Act → World → Prop}
    (hm : Tryz.prog.follows .mixedOrders = true) (hsi : si < ops.size) (hck : turnOk si ops a0.tmps.size = true) (htb : ∀ o, ops[si]? = some o → Operand.tmp tb ∈ o.op.operands)
    (h0 : ∀ t s, env t = some s → t ∉ dsts ops → s.ok (a0.eval (.tmp t)) w)
    (hop : ∀ (i : Nat) (o : Oper), i ≠ si → ops[i]? = some o → ∀ (a : Act) (W : World), (∀ t s, Operand.tmp t ∈ o.op.operands → env t = some s → s.ok (a.eval (.tmp t)) W) →
      Below w.heap.size w W → ∃ s, (∀ d, o.dst = some d → env d = some s) ∧ o.wp Tryz.prog a W (TnPost s.ok o a W) Q)
    (hst : ∀ o, ops[si]? = some o → ∀ (a : Act) (W : World), (∀ t s, Operand.tmp t ∈ o.op.operands → env t = some s → s.ok (a.eval (.tmp t)) W) → Below w.heap.size w W →
      o.wp Tryz.prog a W (fun a' W' => a' = a ∧ φ (a.eval (.tmp tb)) W' ∧ PutAt w.heap.size W W') Q)
    (hQ : ∀ (f : Nat → Value) (W : World), (∀ t s, env t = some s → s.ok (f t) W) →
      (∀ t, t ∉ dsts ops → f t = a0.eval (.tmp t)) → φ (f tb) W → Below w.heap.size w W → Q .normal { tmps := ((List.range a0.tmps.size).map f).toArray, defers := a0.defers } W) :
    (Code.region id ops true).wp Tryz.prog Q a0 w := by
  refine wp_region_boxed si tb φ hφ (fun t => (env t).map fun s => s.ok) ?_ ?_ hm hsi hck htb ?_ ?_ ?_ ?_
  · intro t p hp v W W' h hO
    obtain ⟨s, _, rfl⟩ := Option.map_eq_some_iff.1 hp
    exact Bq.ok_below h hO
  · intro t p hp v W W' h hO
    obtain ⟨s, _, rfl⟩ := Option.map_eq_some_iff.1 hp
    exact Bq.ok_put h hO
  · intro t p hp hn
    obtain ⟨s, hs, rfl⟩ := Option.map_eq_some_iff.1 hp
    exact h0 t s hs hn
  · intro i o d hio hd a W hin hold hgr
    have hne : i ≠ si := by
      rintro rfl
      simp only [turnOk, Bool.and_eq_true] at hck
      have h1 := hck.1
      rw [List.all_eq_true] at h1
      have h2 := h1 i (List.mem_range.2 hsi)
      rw [hio] at h2
      simp [hd] at h2
    obtain ⟨s, hs, hw⟩ := hop i o hne hio a W (fun t s ht hs => hin t _ ht (by rw [hs]; rfl)) hgr
    refine Oper.wp_mono ?_ hw
    rintro a' W' ⟨v, rfl, hv, h2⟩
    refine ⟨v, by rw [hd], fun p hp => ?_, h2⟩
    rw [hs d hd] at hp
    cases hp
    exact hv
  · intro o ho a W hin hold hb
    exact hst o ho a W (fun t s ht hs => hin t _ ht (by rw [hs]; rfl)) hb
  · intro f W hin hold hp hgr
    exact hQ f W (fun t s hs => hin t _ (by rw [hs]; rfl)) hold hp hgr

/-- The frame behind a region: where the mask says so, what came; else what was. -/
def frameM (f : Nat → Value) : Nat → List Bool → List Value → List Value
  | i, true :: m, _ :: vs => f i :: frameM f (i + 1) m vs
  | i, false :: m, v :: vs => v :: frameM f (i + 1) m vs
  | _, _, _ => []
theorem frameM_eq (f : Nat → Value) : ∀ (m : List Bool) (vs : List Value) (i : Nat), m.length = vs.length → (∀ k, m[k]? = some false → vs[k]? = some (f (i + k))) → frameM f i m vs = (List.range vs.length).map fun k => f (i + k) := by
  intro m
  induction m with
  | nil => intro vs i hl _; cases vs with
    | nil => rfl
    | cons v vs => simp at hl
  | cons x m ih =>
    intro vs i hl h
    cases vs with
    | nil => simp at hl
    | cons v vs =>
      have e := ih vs (i + 1) (by simpa using hl) (fun k hk => by
        have := h (k + 1) (by simpa using hk)
        rw [show i + 1 + k = i + (k + 1) by omega]
        simpa using this)
      rw [List.length_cons, List.range_succ_eq_map, List.map_cons, List.map_map]
      have e2 : ((fun k => f (i + k)) ∘ Nat.succ) = fun k => f (i + 1 + k) := by
        funext k
        show f (i + (k + 1)) = f (i + 1 + k)
        rw [show i + (k + 1) = i + 1 + k by omega]
      cases x with
      | true => rw [frameM, e, e2]; rfl
      | false =>
        have h0 := h 0 rfl
        rw [frameM, e, e2]
        have hv : v = f i := by simpa using h0
        rw [hv]; rfl
theorem frame_lit {f : Nat → Value} {vs : List Value} {ops : Array Oper} {m : List Bool} {D : List (Int × Int)} (_ : D = D) (hm : m = (List.range vs.length).map fun i => (dsts ops).contains i) (hold : ∀ t, t ∉ dsts ops → f t = vs.toArray.getD t undef) :
    ((List.range vs.length).map f).toArray = (frameM f 0 m vs).toArray := by
  congr 1
  have := frameM_eq f m vs 0 (by rw [hm]; simp) (fun k hk => by
    rw [hm] at hk
    simp only [List.getElem?_map] at hk
    cases hr : (List.range vs.length)[k]? with
    | none => rw [hr] at hk; cases hk
    | some j =>
      rw [hr] at hk
      have hk2 : k < vs.length := by have := (List.getElem?_eq_some_iff.1 hr).1; simpa using this
      have hj : j = k := by rw [List.getElem?_range hk2] at hr; cases hr; rfl
      subst hj
      simp only [Option.map_some, Option.some.injEq] at hk
      rw [List.contains_eq_mem, decide_eq_false_iff_not] at hk
      rw [Nat.zero_add, hold j hk, List.getElem?_eq_getElem hk2]
      simp [hk2])
  rw [this]
  simp

/-- The same, the frame behind the region written out by a mask. -/
theorem wp_region_bqm (si tb : Nat) (φ : Value → World → Prop) (hφ : ∀ v W W', φ v W → Below W.heap.size W W' → φ v W') (env : Nat → Option Bq) (m : List Bool) (vs : List Value)
    {id : Nat} {ops : Array Oper} {df : List Deferred} {w : World} {Q : Exit → Act → World → Prop}
    (hm : Tryz.prog.follows .mixedOrders = true) (hsi : si < ops.size) (hck : turnOk si ops vs.length = true) (htb : ∀ o, ops[si]? = some o → Operand.tmp tb ∈ o.op.operands)
    (hmask : m = (List.range vs.length).map fun i => (dsts ops).contains i)
    (h0 : ∀ t s, env t = some s → t ∉ dsts ops → s.ok (vs.toArray.getD t undef) w)
    (hop : ∀ (i : Nat) (o : Oper), i ≠ si → ops[i]? = some o → ∀ (a : Act) (W : World), (∀ t s, Operand.tmp t ∈ o.op.operands → env t = some s → s.ok (a.eval (.tmp t)) W) →
      Below w.heap.size w W → ∃ s, (∀ d, o.dst = some d → env d = some s) ∧ o.wp Tryz.prog a W (TnPost s.ok o a W) Q)
    (hst : ∀ o, ops[si]? = some o → ∀ (a : Act) (W : World), (∀ t s, Operand.tmp t ∈ o.op.operands → env t = some s → s.ok (a.eval (.tmp t)) W) → Below w.heap.size w W →
      o.wp Tryz.prog a W (fun a' W' => a' = a ∧ φ (a.eval (.tmp tb)) W' ∧ PutAt w.heap.size W W') Q)
    (hQ : ∀ (f : Nat → Value) (W : World), (∀ t s, env t = some s → s.ok (f t) W) →
      φ (f tb) W → Below w.heap.size w W → Q .normal { tmps := (frameM f 0 m vs).toArray, defers := df } W) :
    (Code.region id ops true).wp Tryz.prog Q { tmps := vs.toArray, defers := df } w := by
  refine wp_region_bq si tb φ hφ env hm hsi (by simpa using hck) htb (fun t s hs hn => ?_) hop hst (fun f W hin hold hp hb => ?_)
  · have := h0 t s hs hn
    simpa [Act.eval] using this
  · have e := frame_lit (f := f) (vs := vs) (ops := ops) (m := m) (D := []) rfl hmask (fun t ht => by have := hold t ht; simpa [Act.eval] using this)
    have h1 := hQ f W hin hp hb
    rw [← e] at h1
    simpa using h1

section
variable {o : Oper} {a : Act} {W : World} {Q : Exit → Act → World → Prop}
theorem bq_first {x : Operand} {B : Nat} {b n : Int} {past : List Int} {s : Value} (ho : o.op = .extract x 0) (h : (Bq.tup B b n past s).ok (a.eval x) W) : o.wp Tryz.prog a W (TnPost (Bq.desk B b n past).ok o a W) Q := by
  obtain ⟨u, h1, h2⟩ := h
  unfold Oper.wp
  simp only [execOp, ho]
  rw [h1]
  exact ⟨_, rfl, ⟨u, rfl, h2⟩, Below.refl _ _⟩
theorem bq_second {x : Operand} {B : Nat} {b n : Int} {past : List Int} {s : Value} (ho : o.op = .extract x 1) (h : (Bq.tup B b n past s).ok (a.eval x) W) : o.wp Tryz.prog a W (TnPost (Bq.is s).ok o a W) Q := by
  obtain ⟨u, h1, h2⟩ := h
  unfold Oper.wp
  simp only [execOp, ho]
  rw [h1]
  exact ⟨_, rfl, rfl, Below.refl _ _⟩
theorem bq_firstT {x : Operand} {B : Nat} {b n : Int} {past : List Int} {ls : List (List UInt8)} (ho : o.op = .extract x 0) (h : (Bq.tupT B b n past ls).ok (a.eval x) W) : o.wp Tryz.prog a W (TnPost (Bq.desk B b n past).ok o a W) Q := by
  obtain ⟨u, t, h1, h2, h3⟩ := h
  unfold Oper.wp
  simp only [execOp, ho]
  rw [h1]
  exact ⟨_, rfl, ⟨u, rfl, h2⟩, Below.refl _ _⟩
theorem bq_secondT {x : Operand} {B : Nat} {b n : Int} {past : List Int} {ls : List (List UInt8)} (ho : o.op = .extract x 1) (h : (Bq.tupT B b n past ls).ok (a.eval x) W) : o.wp Tryz.prog a W (TnPost (Bq.texts B ls).ok o a W) Q := by
  obtain ⟨u, t, h1, h2, h3⟩ := h
  unfold Oper.wp
  simp only [execOp, ho]
  rw [h1]
  exact ⟨_, rfl, h3, Below.refl _ _⟩
set_option maxRecDepth 100000 in
theorem bq_alloc {B : Nat} (ho : o.op = .alloc 30) (hB : B ≤ W.heap.size) : o.wp Tryz.prog a W (TnPost (Bq.box B).ok o a W) Q := by
  unfold Oper.wp execOp
  simp [ho, go_sem]
  exact ⟨_, rfl, ⟨W.heap.size, #[.int .i64 0, .int .i64 0, .slice none 0 0], rfl, hB, rfl, SBox.new _ _ _⟩, (Below.refl _ _).alloc (Nat.le_refl _) _⟩
theorem bq_store {x y : Operand} {B B2 : Nat} {b n : Int} {past : List Int} (ho : o.op = .store 30 x y) (hd : o.dst = none) (hx : (Bq.box B).ok (a.eval x) W) (hy : (Bq.desk B2 b n past).ok (a.eval y) W) :
    o.wp Tryz.prog a W (fun a' W' => a' = a ∧ (∃ g u, a.eval x = .pointer (some ⟨g, 0, none⟩) ∧ B ≤ g ∧ SBox W' g 30 #[.int .i64 b, .int .i64 n, u] ∧ OwnTail B2 W' u past) ∧ PutAt B W W') Q := by
  obtain ⟨g, cs, hg, hB, hs, hS⟩ := hx
  obtain ⟨u, hu, hrow⟩ := hy
  have hone : u.oneCell' = true := by
    rcases hrow with h | ⟨g2, off, cap, capY, ys, hv, _⟩
    · obtain ⟨a4, c4, rfl⟩ := h.shape; rfl
    · rw [hv]; rfl
  have hS2 : SBox (W.setRow g #[.int .i64 b, .int .i64 n, u]) g 30 #[.int .i64 b, .int .i64 n, u] := setRow_heap _ _ _ _ _ _ hS
  have ho2 : ∀ i, i ≠ g → (W.setRow g #[.int .i64 b, .int .i64 n, u]).heap[i]? = W.heap[i]? := fun i hi => setRow_other _ _ _ _ hi
  refine wp_store_row _ _ _ ho g #[.int .i64 b, .int .i64 n, u] hg hu _ cs hS (by rw [size_desk]; rfl) hs (by simp [Value.oneCell']; simpa [Value.oneCell'] using hone) ⟨by rw [hd]; rfl, ⟨g, u, hg, hB, hS2, hrow.stored hS (by decide) ho2⟩, g, cs, _, hB, hs, rfl, hS, hS2, rfl, rfl, rfl, by simp [World.setRow], ho2⟩
theorem bq_load {x : Operand} {B : Nat} {cs : Array Value} (ho : o.op = .load 30 x) (hx : (Bq.is (.pointer (some ⟨B, 0, none⟩))).ok (a.eval x) W) (hB : SBox W B 30 cs) (hs : cs.size = 3) : o.wp Tryz.prog a W (TnPost (Bq.is (.agg cs)).ok o a W) Q :=
  tn_load ho hx hB hs rfl
theorem bq_at {x ix : Operand} {b off n cap k : Nat} (ho : o.op = .indexAddr 47 x ix) (hx : a.eval x = .slice (some ⟨b, off, none⟩) n cap) (hi : a.eval ix = .int .i64 k) (hk : k < n) :
    o.wp Tryz.prog a W (TnPost (Bq.is (.pointer (some ⟨b, off + k, none⟩))).ok o a W) Q := by
  have e1 : (0 : Int) ≤ (k : Int) := by omega
  have e2 : (k : Int) < (n : Int) := by omega
  unfold Oper.wp
  simp only [execOp, ho]
  rw [hx, hi]
  simp [go_sem, e1, e2]
  exact ⟨_, rfl, rfl, Below.refl _ _⟩
theorem bq_loadS {x : Operand} {b k : Nat} {s : ByteArray} (ho : o.op = .load 9 x) (hx : a.eval x = .pointer (some ⟨b, k, none⟩)) (hc : W.cell? ⟨b, k, none⟩ = some (.string s)) :
    o.wp Tryz.prog a W (TnPost (Bq.is (.string s)).ok o a W) Q := by
  unfold Oper.wp
  simp only [execOp, ho]
  rw [hx]
  simp [go_sem, hc]
  exact ⟨_, rfl, rfl, Below.refl _ _⟩
end

end Go.Proofs.YtgkkoegfmhgcjaaGreatDoor
