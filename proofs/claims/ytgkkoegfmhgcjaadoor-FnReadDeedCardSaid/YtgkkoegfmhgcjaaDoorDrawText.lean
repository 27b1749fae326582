/-
  Texts drawn: what a slot holds in a region that draws texts; a text spoilt.
-/
import Derived.Test.YtgkkoegfmhgcjaaDoorDrawPsi
import Derived.Test.YtgkkoegfmhgcjaaDoorDrawDeed
import Derived.Test.YtgkkoegfmhgcjaaDoorSpecDeed
namespace Go.Proofs.YtgkkoegfmhgcjaaDoor
open Go.RowKit Go.Shelf

/-- What a slot is known to hold: a value; a text of at most so many bytes; a new row of such texts; a place in one; a number below another one. -/
inductive Sq
  | is (v : Value)
  | strLe (n : Nat)
  | texts (n m : Nat)
  | textAt (m : Nat)
  | lt (n : Nat)

def Sq.ok (r : Nat) : Sq → Value → World → Prop
  | .is u, v, _ => v = u
  | .strLe n, v, _ => ∃ t : ByteArray, v = .string t ∧ t.size ≤ n
  | .texts n m, v, W => ∃ b, v = .slice (some ⟨b, 0, none⟩) n n ∧ b ≠ r ∧ ∀ j, j < n → ∃ t : ByteArray, W.cell? ⟨b, j, none⟩ = some (.string t) ∧ t.size ≤ m
  | .textAt m, v, W => ∃ b j, v = .pointer (some ⟨b, j, none⟩) ∧ b ≠ r ∧ ∃ t : ByteArray, W.cell? ⟨b, j, none⟩ = some (.string t) ∧ t.size ≤ m
  | .lt n, v, _ => ∃ x : Nat, v = .int .i64 x ∧ x < n

theorem Sq.ok_only {r : Nat} {s : Sq} {v : Value} {w w' : World} (h : s.ok r v w) (ho : Only r w w') : s.ok r v w' := by
  cases s with
  | is u => exact h
  | strLe n => exact h
  | texts n m =>
    obtain ⟨b, hv, hb, hc⟩ := h
    exact ⟨b, hv, hb, fun j hj => let ⟨t, h1, h2⟩ := hc j hj; ⟨t, ho.cell h1 hb, h2⟩⟩
  | textAt m =>
    obtain ⟨b, j, hv, hb, t, h1, h2⟩ := h
    exact ⟨b, j, hv, hb, t, ho.cell h1 hb, h2⟩
  | lt n => exact h

/-- Behind an operation. -/
def SqPost (w0 : World) (r q : Nat) (s : Sq) (o : Oper) (a : Act) (W : World) (a' : Act) (W' : World) : Prop :=
  ∃ v, a' = a.put o.dst v ∧ s.ok r v W' ∧ Rd w0 r q W' ∧ Only r W W'

section
variable {w0 : World} {r q Co : Nat} {o : Oper} {a : Act} {W : World} {Q : Exit → Act → World → Prop}

/-- A call of a function in a region. -/
theorem call_at {c : Call} {f : Nat} {args : Array Value} {K : Act → World → Prop} (ho : o.op = .call c) (hf : c.callee = .value (.func f)) (he : ∀ args w, (callFunc f args).run Tryd.prog w = .ok (.enter f args) w)
    (ha : (c.args.toList.map a.eval).toArray = args) (hc : Calls Tryd.prog f args W fun e W' => ∃ v, e = .returned v ∧ K (a.put o.dst v) W') : o.wp Tryd.prog a W K Q := by
  have hrun : (execOp a.eval o).run Tryd.prog W = .ok (.enter f (c.args.toList.map a.eval).toArray) W := by
    simp only [execOp, ho, resolve, hf]
    simp [go_sem, Act.eval]
    rw [he]
    congr 2
    apply Array.ext'
    simp
  unfold Oper.wp
  rw [hrun, ha]
  refine hc.mono ?_
  rintro e W' ⟨v, rfl, h⟩
  exact h

theorem sq_copy {x : Operand} {s : Sq} (ho : o.op = .move x ∨ o.op = .assign x) (h1 : s.ok r (a.eval x) W) (hR : Rd w0 r q W) : o.wp Tryd.prog a W (SqPost w0 r (q + Co) s o a W) Q := by
  unfold Oper.wp
  rcases ho with ho | ho
  all_goals
    simp only [execOp, ho, Sem.run_pure, Oper.upon]
    exact ⟨_, rfl, h1, hR.more (by omega), Only.refl _ _⟩

theorem sq_pick {c : Call} {n : Nat} {x : Operand} (ho : o.op = .call c) (hf : c.callee = .value (.func 12)) (ha : c.args = #[x, .const (.int .i64 n)]) (hx : a.eval x = .pointer (some ⟨r, 0, none⟩)) (hn : 1 ≤ n) (hn' : n ≤ 1000000)
    (hR : Rd w0 r q W) (hq : q ≤ 100000) (hCo : 1 ≤ Co) : o.wp Tryd.prog a W (SqPost w0 r (q + Co) (.lt n) o a W) Q := by
  have hc := pick w0 r q n W hq hR
  refine call_at ho hf (enters_of Tryd.func12 (by kernel_rfl) rfl) (args := #[.pointer (some ⟨r, 0, none⟩), .int .i64 n]) (by rw [ha]; simp [hx]; rfl) (hc.mono ?_)
  rintro e W' ⟨y, rfl, y0, y1, h2, h3⟩
  obtain ⟨Y, rfl⟩ := Int.eq_ofNat_of_zero_le y0
  have := y1 (by omega)
  exact ⟨_, rfl, _, rfl, ⟨Y, rfl, by omega⟩, h2.le (by omega), h3⟩

/-- Every part a text of at most so many bytes. -/
def textParts (n m : Nat) : List (Nat × Operand) → Bool
  | [] => true
  | (i, .const (.string t)) :: rest => decide (i < n) && (decide (t.size ≤ m) && textParts n m rest)
  | _ => false
def GoodT (m : Nat) (c : Array Value) : Prop := ∀ j, j < c.size → ∃ t : ByteArray, c[j]? = some (.string t) ∧ t.size ≤ m
theorem GoodT.set {m : Nat} {c : Array Value} (h : GoodT m c) (i : Nat) (t : ByteArray) (h1 : t.size ≤ m) : GoodT m (c.setIfInBounds i (.string t)) := by
  intro j hj
  rw [Array.size_setIfInBounds] at hj
  by_cases e : i = j
  · subst e; exact ⟨t, by rw [Array.getElem?_setIfInBounds_self_of_lt hj], h1⟩
  · rw [Array.getElem?_setIfInBounds_ne e]; exact h j hj
theorem fill_texts {ρ : Operand → Value} (hρ : ∀ v, ρ (.const v) = v) {n m : Nat} : ∀ (ps : List (Nat × Operand)) (c : Array Value), textParts n m ps = true → c.size = n → GoodT m c →
    ∃ c', Instr.fill (fun i => some (i * 1, 1)) c (ps.map fun p => (p.1, ρ p.2)) = some c' ∧ c'.size = n ∧ GoodT m c' := by
  intro ps
  induction ps with
  | nil => intro c _ hn hg; exact ⟨c, rfl, hn, hg⟩
  | cons p ps ih =>
    intro c h hn hg
    obtain ⟨i, x⟩ := p
    unfold textParts at h
    split at h
    · rename_i h1; cases h1
    · rename_i i' t rest h1
      cases h1
      simp only [Bool.and_eq_true, decide_eq_true_eq] at h
      obtain ⟨h1, h2, h3⟩ := h
      obtain ⟨c', g1, g2, g3⟩ := ih (c.setIfInBounds i (.string t)) h3 (by simpa using hn) (hg.set i t h2)
      refine ⟨c', ?_, g2, g3⟩
      rw [List.map_cons, Instr.fill]
      have e1 : (Value.string t).cells = #[.string t] := rfl
      simp only [hρ, e1, Nat.mul_one]
      rw [if_neg (by simp; omega)]
      simpa using g1
    · cases h

theorem buildTexts_run {n : Nat} {parts : Array (Nat × Value)} {c' : Array Value} (W : World) (hn0 : 1 ≤ n) (hn : n ≤ 1000) (g1 : Instr.fill (fun i => some (i * 1, 1)) ((Array.range (n * 1)).map fun _ => Value.string ⟨#[]⟩) parts.toList = some c') :
    (Instr.buildSlice 41 n parts).run Tryd.prog W = .ok (.slice (some ⟨W.heap.size, 0, none⟩) n n) (W.alloc (.cells c' 9)) := by
  have h1 : ¬ 16777216 < n := by omega
  have h2 : ¬ n = 0 := by omega
  simp only [Nat.mul_one] at g1
  unfold Instr.buildSlice
  simp [go_sem, h1, h2, Nat.mod_one, g1]

theorem sq_texts {n m : Nat} {parts : Array (Nat × Operand)} (ho : o.op = .buildSlice 41 n parts) (hn0 : 1 ≤ n) (hn : n ≤ 1000) (h : textParts n m parts.toList = true) (hR : Rd w0 r q W) :
    o.wp Tryd.prog a W (SqPost w0 r (q + Co) (.texts n m) o a W) Q := by
  have hrlt : r < W.heap.size := hR.lt.2
  obtain ⟨c', g1, g2, g3⟩ := fill_texts (ρ := a.eval) (fun _ => rfl) parts.toList ((Array.range (n * 1)).map fun _ => Value.string ⟨#[]⟩) h (by simp) (by
    intro j hj
    simp at hj
    exact ⟨⟨#[]⟩, by simp [hj], Nat.zero_le _⟩)
  have hrun := buildTexts_run (parts := parts.map fun (i, x) => (i, a.eval x)) W hn0 hn (c' := c') (by rw [Array.toList_map]; exact g1)
  unfold Oper.wp
  simp only [execOp, ho]
  simp only [Sem.run_bind, hrun, Result.andThen_ok, Sem.run_pure, Oper.upon]
  refine ⟨_, rfl, ⟨W.heap.size, rfl, by omega, fun j hj => ?_⟩, (hR.kept ((Below.refl _ _).alloc (Nat.le_refl _) _)).more (by omega), Only.of_below ((Below.refl _ _).alloc (Nat.le_refl _) _)⟩
  rw [World.cell?_alloc_new]
  exact g3 j (by omega)

theorem sq_at {x ix : Operand} {n m k : Nat} (ho : o.op = .indexAddr 41 x ix) (h1 : (Sq.texts n m).ok r (a.eval x) W) (h2 : (Sq.lt k).ok r (a.eval ix) W) (hk : k ≤ n) (hR : Rd w0 r q W) :
    o.wp Tryd.prog a W (SqPost w0 r (q + Co) (.textAt m) o a W) Q := by
  obtain ⟨b, hb, hbr, hc⟩ := h1
  obtain ⟨i, hi', i1⟩ := h2
  have e1 : (0 : Int) ≤ (i : Int) := by omega
  have e2 : (i : Int) < (n : Int) := by omega
  unfold Oper.wp
  simp only [execOp, ho]
  rw [hb, hi']
  simp [go_sem, e1, e2]
  refine ⟨.pointer (some ⟨b, i, none⟩), by rfl, ⟨b, i, rfl, hbr, hc i (by omega)⟩, hR.more (by omega), Only.refl _ _⟩

theorem sq_load {x : Operand} {m : Nat} (ho : o.op = .load 9 x) (h1 : (Sq.textAt m).ok r (a.eval x) W) (hR : Rd w0 r q W) :
    o.wp Tryd.prog a W (SqPost w0 r (q + Co) (.strLe m) o a W) Q := by
  obtain ⟨b, j, hb, hbr, t, hc, h2⟩ := h1
  unfold Oper.wp
  simp only [execOp, ho]
  rw [hb]
  simp [go_sem, hc]
  exact ⟨_, rfl, ⟨t, rfl, h2⟩, hR.more (by omega), Only.refl _ _⟩

theorem sq_cat {x y : Operand} {n m : Nat} (ho : o.op = .binOp .add 9 x y 9) (h1 : (Sq.strLe n).ok r (a.eval x) W) (h2 : (Sq.strLe m).ok r (a.eval y) W) (hnm : n + m ≤ 1000000) (hR : Rd w0 r q W) :
    o.wp Tryd.prog a W (SqPost w0 r (q + Co) (.strLe (n + m)) o a W) Q := by
  obtain ⟨s, hs, s1⟩ := h1
  obtain ⟨t, ht, t1⟩ := h2
  have hfit : ¬ 9223372036854775807 < s.size + t.size := by omega
  unfold Oper.wp
  simp only [execOp, ho]
  rw [hs, ht]
  simp [go_sem, hfit]
  exact ⟨_, rfl, ⟨s ++ t, rfl, by rw [ByteArray.size_append]; omega⟩, hR.more (by omega), Only.refl _ _⟩

theorem extract_le (s : ByteArray) (i j : Nat) : (s.extract i j).size ≤ s.size := by
  rw [ByteArray.size_extract]; omega
theorem sq_cut {x y : Operand} {s : ByteArray} {k : Nat} (ho : o.op = .slice 9 x none (some y) none) (h1 : (Sq.is (.string s)).ok r (a.eval x) W) (h2 : (Sq.is (.int .i64 k)).ok r (a.eval y) W) (hk : k ≤ s.size) (hR : Rd w0 r q W) :
    o.wp Tryd.prog a W (SqPost w0 r (q + Co) (.strLe s.size) o a W) Q := by
  have e1 : (0 : Int) ≤ (k : Int) := by omega
  have e2 : (k : Int) ≤ (s.size : Int) := by omega
  have h1' : a.eval x = .string s := h1
  have h2' : a.eval y = .int .i64 k := h2
  unfold Oper.wp
  simp only [execOp, ho, Option.map_some, Option.map_none]
  rw [h1', h2']
  simp [go_sem, e1, e2]
  exact ⟨_, rfl, ⟨_, rfl, extract_le _ _ _⟩, hR.more (by omega), Only.refl _ _⟩
theorem sq_rest {x y : Operand} {s : ByteArray} {k : Nat} (ho : o.op = .slice 9 x (some y) none none) (h1 : (Sq.is (.string s)).ok r (a.eval x) W) (h2 : (Sq.is (.int .i64 ((k : Int) + 1))).ok r (a.eval y) W) (hk : k + 1 ≤ s.size) (hR : Rd w0 r q W) :
    o.wp Tryd.prog a W (SqPost w0 r (q + Co) (.strLe s.size) o a W) Q := by
  have e1 : (0 : Int) ≤ (k : Int) + 1 := by omega
  have e2 : (k : Int) + 1 ≤ (s.size : Int) := by omega
  have h1' : a.eval x = .string s := h1
  have h2' : a.eval y = .int .i64 ((k : Int) + 1) := h2
  unfold Oper.wp
  simp only [execOp, ho, Option.map_some, Option.map_none]
  rw [h1', h2']
  simp [go_sem, e1, e2]
  exact ⟨_, rfl, ⟨_, rfl, extract_le _ _ _⟩, hR.more (by omega), Only.refl _ _⟩
theorem sq_next {x : Operand} {k : Nat} (ho : o.op = .binOp .add 3 x (.const (.int .i64 1)) 3) (h1 : (Sq.is (.int .i64 k)).ok r (a.eval x) W) (hk : k ≤ 1000000000) (hR : Rd w0 r q W) :
    o.wp Tryd.prog a W (SqPost w0 r (q + Co) (.is (.int .i64 ((k : Int) + 1))) o a W) Q := by
  have h1' : a.eval x = .int .i64 k := h1
  have e2 : a.eval (.const (.int .i64 1)) = .int .i64 1 := rfl
  unfold Oper.wp
  simp only [execOp, ho]
  rw [h1', e2]
  simp [go_sem]
  exact ⟨_, rfl, by show Value.int .i64 (IntKind.i64.wrap ((k : Int) + 1)) = _; rw [IntWalk.i64_in _ (by omega)], hR.more (by omega), Only.refl _ _⟩
end

/-- A region of such operations. -/
theorem wp_region_sq {w0 : World} {r Co M q0 : Nat} (env : Nat → Option Sq)
    {id : Nat} {ops : Array Oper} {a0 : Act} {w : World} {Q : Exit → Act → World → Prop}
    (hm : Tryd.prog.follows .mixedOrders = true) (hck : psiOk ops a0.tmps.size = true)
    (h0 : ∀ t s, env t = some s → t ∉ dsts ops → s.ok r (a0.eval (.tmp t)) w) (hR : Rd w0 r q0 w) (hq : q0 + Co * ops.size ≤ M)
    (hop : ∀ (i : Nat) (o : Oper), ops[i]? = some o → ∀ (a : Act) (W : World) (q : Nat), (∀ t s, Operand.tmp t ∈ o.op.operands → env t = some s → s.ok r (a.eval (.tmp t)) W) →
      Rd w0 r q W → q ≤ M → ∃ s, (∀ d, o.dst = some d → env d = some s) ∧ o.wp Tryd.prog a W (SqPost w0 r (q + Co) s o a W) Q)
    (hQ : ∀ (f : Nat → Value) (W : World), (∀ t s, env t = some s → s.ok r (f t) W) →
      (∀ t, t ∉ dsts ops → f t = a0.eval (.tmp t)) → Rd w0 r (q0 + Co * ops.size) W → Only r w W → Q .normal { tmps := ((List.range a0.tmps.size).map f).toArray, defers := a0.defers } W) :
    (Code.region id ops true).wp Tryd.prog Q a0 w := by
  refine wp_region_psi (q0 := q0) (Co := Co) (M := M) (fun t => (env t).map fun s => s.ok r) ?_ hm hck ?_ hR hq ?_ ?_
  · intro t p hp v W W' h hO
    obtain ⟨s, _, rfl⟩ := Option.map_eq_some_iff.1 hp
    exact Sq.ok_only h hO
  · intro t p hp hn
    obtain ⟨s, hs, rfl⟩ := Option.map_eq_some_iff.1 hp
    exact h0 t s hs hn
  · intro i o d hio hd a W q hin hold hR' hq' hO
    obtain ⟨s, hs, hw⟩ := hop i o hio a W q (fun t s ht hs => hin t _ ht (by rw [hs]; rfl)) hR' hq'
    refine Oper.wp_mono ?_ hw
    rintro a' W' ⟨v, rfl, hv, h2, h3⟩
    refine ⟨v, by rw [hd], fun p hp => ?_, h2, h3⟩
    rw [hs d hd] at hp
    cases hp
    exact hv
  · intro f W hin hold hR' hO
    exact hQ f W (fun t s hs => hin t _ (by rw [hs]; rfl)) hold hR' hO

end Go.Proofs.YtgkkoegfmhgcjaaDoor
