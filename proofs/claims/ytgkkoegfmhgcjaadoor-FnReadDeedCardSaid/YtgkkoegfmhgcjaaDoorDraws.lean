/-
  Any drawn region of a drawing function by an interval reckoning; the first drawing functions.
-/
import Derived.Orders
import Derived.RegionTactic
import Derived.WalkKit
import Derived.Test.YtgkkoegfmhgcjaaDoorDraw
import Derived.Shelf.Abstract
namespace Go.Proofs.YtgkkoegfmhgcjaaDoor
open Go.RowKit

/-! ### Orders -/

/-- How many of the operations are still to come. -/
def toCome (n : Nat) (L : Array Bool) : Nat := ((List.range n).filter fun i => !L.getD i true).length

theorem filter_less {l : List Nat} {p p' : Nat → Bool} (h : ∀ x, p' x = true → p x = true) {i : Nat} (hi : i ∈ l) (h1 : p i = true) (h2 : p' i = false) : (l.filter p').length < (l.filter p).length := by
  induction l with
  | nil => cases hi
  | cons a l ih =>
    have hle : ∀ l : List Nat, (l.filter p').length ≤ (l.filter p).length := by
      intro l
      induction l with
      | nil => simp
      | cons b l ih2 =>
        by_cases hb : p' b = true
        · rw [List.filter_cons_of_pos hb, List.filter_cons_of_pos (h b hb)]; simp only [List.length_cons]; omega
        · rw [List.filter_cons_of_neg (by simpa using hb)]
          by_cases hb2 : p b = true
          · rw [List.filter_cons_of_pos hb2]; simp only [List.length_cons]; omega
          · rw [List.filter_cons_of_neg (by simpa using hb2)]; exact ih2
    by_cases hb : p' a = true
    · have hai : i ≠ a := fun e => by rw [e, hb] at h2; cases h2
      have := ih ((List.mem_cons.1 hi).resolve_left hai)
      rw [List.filter_cons_of_pos hb, List.filter_cons_of_pos (h a hb)]; simp only [List.length_cons]; omega
    · rw [List.filter_cons_of_neg (by simpa using hb)]
      by_cases hb2 : p a = true
      · rw [List.filter_cons_of_pos hb2]; have := hle l; simp only [List.length_cons]; omega
      · have hai : i ≠ a := fun e => by rw [e] at h1; exact hb2 h1
        rw [List.filter_cons_of_neg (by simpa using hb2)]
        exact ih ((List.mem_cons.1 hi).resolve_left hai)

theorem toCome_set {n : Nat} {L : Array Bool} {i : Nat} (hi : i < n) (hL : L.size = n) (h : L.getD i true = false) : toCome n (L.setIfInBounds i true) < toCome n L := by
  refine filter_less (i := i) ?_ (List.mem_range.2 hi) (by simp [h]) ?_
  · intro x hx
    by_cases e : x = i
    · subst e; simp [h]
    · simp only [Array.getD_eq_getD_getElem?, Array.getElem?_setIfInBounds_ne (Ne.symm e)] at hx; simpa [Array.getD_eq_getD_getElem?] using hx
  · simp [Array.getD_eq_getD_getElem?, hL, hi]

theorem ready_spec {md : Region.Mode} {ops : Array Oper} {L : Array Bool} {i : Nat} (h : i ∈ Region.ready md ops L) :
    i < ops.size ∧ L.getD i true = false ∧ ∃ o, ops[i]? = some o ∧ ∀ e ∈ o.after, Region.binds md e = true → L.getD e.on false = true := by
  unfold Region.ready at h
  rw [List.mem_filter] at h
  obtain ⟨h1, h2⟩ := h
  have hi := List.mem_range.1 h1
  simp only [Bool.and_eq_true, Bool.not_eq_true'] at h2
  refine ⟨hi, h2.1, ops[i], Array.getElem?_eq_getElem hi, ?_⟩
  have h3 := h2.2
  rw [Array.getElem?_eq_getElem hi] at h3
  simp only [Option.map_some, Option.getD_some, Array.all_eq_true_iff_forall_mem] at h3
  intro e he hb
  have := h3 e he
  simpa [hb] using this

/-- An invariant over every order. -/
theorem wpAny_of_inv {P : Program} {ops : Array Oper} {Q : Exit → Act → World → Prop} {md : Region.Mode} (I : Array Bool → Act → World → Prop)
    (hsize : ∀ L a w, I L a w → L.size = ops.size)
    (hstep : ∀ L a w i, I L a w → i ∈ Region.ready md ops L → wpOp P ops Q i (I (L.setIfInBounds i true)) a w)
    (hend : ∀ L a w, I L a w → Region.ready md ops L = [] → Q .normal a w) :
    ∀ (fuel : Nat) (L : Array Bool) (a : Act) (w : World), I L a w → toCome ops.size L ≤ fuel → wpAny P md ops Q fuel L a w := by
  intro fuel
  induction fuel with
  | zero =>
    intro L a w hI hf
    have hr : Region.ready md ops L = [] := by
      cases hr : Region.ready md ops L with
      | nil => rfl
      | cons i t =>
        obtain ⟨h1, h2, _⟩ := ready_spec (i := i) (by rw [hr]; simp)
        have := toCome_set h1 (hsize _ _ _ hI) h2
        omega
    exact ⟨hr, hend L a w hI hr⟩
  | succ fuel ih =>
    intro L a w hI hf
    refine ⟨hend L a w hI, fun i hi => ?_⟩
    obtain ⟨h1, h2, _⟩ := ready_spec hi
    have hlt := toCome_set h1 (hsize _ _ _ hI) h2
    exact wpOp_mono (fun a w h => ih _ a w h (by omega)) (hstep L a w i hI hi)

/-! ### What a slot holds -/

/-- What a slot is known to hold: a bounded integer; the reader; a new row of bounded integers; a place in one. -/
inductive Sp
  | int (lo hi : Int)
  | ptr
  | slice (n : Nat) (lo hi : Int)
  | addr (lo hi : Int)
  deriving DecidableEq

def Sp.ok (r : Nat) : Sp → Value → World → Prop
  | .int lo hi, v, _ => ∃ x : Int, v = .int .i64 x ∧ lo ≤ x ∧ x ≤ hi
  | .ptr, v, _ => v = .pointer (some ⟨r, 0, none⟩)
  | .slice n lo hi, v, w => ∃ b, v = .slice (some ⟨b, 0, none⟩) n n ∧ b ≠ r ∧ ∀ j, j < n → ∃ x : Int, w.cell? ⟨b, j, none⟩ = some (.int .i64 x) ∧ lo ≤ x ∧ x ≤ hi
  | .addr lo hi, v, w => ∃ b j, v = .pointer (some ⟨b, j, none⟩) ∧ b ≠ r ∧ ∃ x : Int, w.cell? ⟨b, j, none⟩ = some (.int .i64 x) ∧ lo ≤ x ∧ x ≤ hi

theorem Sp.ok_only {r : Nat} {s : Sp} {v : Value} {w w' : World} (h : s.ok r v w) (ho : Only r w w') : s.ok r v w' := by
  cases s with
  | int lo hi => exact h
  | ptr => exact h
  | slice n lo hi =>
    obtain ⟨b, hv, hb, hc⟩ := h
    exact ⟨b, hv, hb, fun j hj => let ⟨x, h1, h2⟩ := hc j hj; ⟨x, ho.cell h1 hb, h2⟩⟩
  | addr lo hi =>
    obtain ⟨b, j, hv, hb, x, h1, h2⟩ := h
    exact ⟨b, j, hv, hb, x, ho.cell h1 hb, h2⟩

abbrev Env := List (Nat × Sp)

def absO (env : Env) : Operand → Option Sp
  | .tmp t => env.lookup t
  | .const (.int .i64 x) => some (.int x x)
  | _ => none

def fit (lo hi : Int) : Option Sp := if -9000000000000000000 ≤ lo ∧ hi ≤ 9000000000000000000 then some (.int lo hi) else none

def absBin : BinOp → Sp → Sp → Option Sp
  | .add, .int a b, .int c d => fit (a + c) (b + d)
  | .sub, .int a b, .int c d => fit (a - d) (b - c)
  | .mul, .int a b, .int c d => if 0 ≤ a ∧ 0 ≤ c then fit (a * c) (b * d) else none
  | .quo, .int a b, .int c d => if 0 ≤ a ∧ 1 ≤ c ∧ c = d then fit (a / c) (b / c) else none
  | .rem, .int a _, .int c d => if 0 ≤ a ∧ 1 ≤ c ∧ c = d then fit 0 (c - 1) else none
  | _, _, _ => none

/-- The bounds of a new row's parts, 0 among them. -/
def absParts (env : Env) (n : Nat) : List (Nat × Operand) → Option (Int × Int)
  | [] => some (0, 0)
  | (i, x) :: rest => match absO env x, absParts env n rest with
    | some (.int a b), some (lo, hi) => if i < n then some (min a lo, max b hi) else none
    | _, _ => none

def absOp (tab : Nat → List Sp → Option Sp) (env : Env) (o : Oper) : Option Sp :=
  match o.op with
  | .move x => absO env x
  | .assign x => absO env x
  | .binOp op t x y _ => if t = 3 then match absO env x, absO env y with
    | some s, some s' => absBin op s s'
    | _, _ => none else none
  | .buildSlice t n parts => if t = 51 ∧ 1 ≤ n ∧ n ≤ 1000 then (absParts env n parts.toList).map fun p => .slice n p.1 p.2 else none
  | .indexAddr t x ix => if t = 51 then match absO env x, absO env ix with
    | some (.slice n lo hi), some (.int a b) => if 0 ≤ a ∧ b < (n : Int) then some (.addr lo hi) else none
    | _, _ => none else none
  | .load t x => if t = 3 then match absO env x with
    | some (.addr lo hi) => some (.int lo hi)
    | _ => none else none
  | .call c => match c.callee with
    | .value (.func f) => (c.args.toList.mapM (absO env)).bind (tab f)
    | _ => none
  | _ => none

/-- Each value holds what is said of it. -/
def Oks (r : Nat) (w : World) : List Sp → List Value → Prop
  | [], [] => True
  | s :: ss, v :: vs => s.ok r v w ∧ Oks r w ss vs
  | _, _ => False

theorem oks_of {r : Nat} {w : World} {env : Env} {ρ : Operand → Value} : ∀ (xs : List Operand) (ss : List Sp), (∀ x s, x ∈ xs → absO env x = some s → s.ok r (ρ x) w) → xs.mapM (absO env) = some ss → Oks r w ss (xs.map ρ) := by
  intro xs
  induction xs with
  | nil => intro ss _ h; simp at h; subst h; exact trivial
  | cons x xs ih =>
    intro ss hin h
    rw [List.mapM_cons] at h
    cases h1 : absO env x with
    | none => rw [h1] at h; cases h
    | some s =>
      cases h2 : xs.mapM (absO env) with
      | none => rw [h1, h2] at h; cases h
      | some ss' =>
        rw [h1, h2] at h
        cases h
        exact ⟨hin x s (by simp) h1, ih ss' (fun x s hx => hin x s (by simp [hx])) h2⟩

/-- What a callee promises. -/
def Table (w0 : World) (r Co M : Nat) (tab : Nat → List Sp → Option Sp) : Prop :=
  ∀ f ss s, tab f ss = some s → (∀ args w, (callFunc f args).run Tryd.prog w = .ok (.enter f args) w) ∧ ∀ (vs : List Value) (W : World) (q : Nat), Oks r W ss vs → Rd w0 r q W → q ≤ M →
    Calls Tryd.prog f vs.toArray W fun e W' => ∃ v, e = .returned v ∧ s.ok r v W' ∧ Rd w0 r (q + Co) W' ∧ Only r W W'

theorem fit_some {lo hi : Int} {s : Sp} (h : fit lo hi = some s) : s = .int lo hi ∧ -9000000000000000000 ≤ lo ∧ hi ≤ 9000000000000000000 := by
  unfold fit at h; split at h
  · rename_i h'; cases h; exact ⟨rfl, h'⟩
  · cases h

/-- Behind an operation. -/
def Post (w0 : World) (r q : Nat) (s : Sp) (o : Oper) (a : Act) (W : World) (a' : Act) (W' : World) : Prop :=
  ∃ v, a' = a.put o.dst v ∧ s.ok r v W' ∧ Rd w0 r q W' ∧ Only r W W'

theorem Rd.more {w0 : World} {r q q' : Nat} {w : World} (h : Rd w0 r q w) (hq : q ≤ q') : Rd w0 r q' w := h.le hq

theorem post_int {w0 : World} {r Co q : Nat} {o : Oper} {a : Act} {W : World} {lo hi : Int} (hR : Rd w0 r q W) (x z : Int) (hx : IntKind.i64.wrap x = z) (h1 : lo ≤ z) (h2 : z ≤ hi) :
    Post w0 r (q + Co) (.int lo hi) o a W (a.put o.dst (.int .i64 (IntKind.i64.wrap x))) W := by
  rw [hx]; exact ⟨_, rfl, ⟨z, rfl, h1, h2⟩, hR.more (by omega), Only.refl _ _⟩

theorem post_int' {w0 : World} {r Co q : Nat} {o : Oper} {a : Act} {W : World} {lo hi : Int} (hR : Rd w0 r q W) (z : Int) (h1 : lo ≤ z) (h2 : z ≤ hi) :
    Post w0 r (q + Co) (.int lo hi) o a W (a.put o.dst (.int .i64 z)) W :=
  ⟨_, rfl, ⟨z, rfl, h1, h2⟩, hR.more (by omega), Only.refl _ _⟩

theorem bin_wp {w0 : World} {r Co q : Nat} {o : Oper} {a : Act} {W : World} {Q : Exit → Act → World → Prop} {op : BinOp} {x y : Operand} {t3 : TypeId} {s s1 s2 : Sp}
    (ho : o.op = .binOp op 3 x y t3) (h : absBin op s1 s2 = some s) (h1 : s1.ok r (a.eval x) W) (h2 : s2.ok r (a.eval y) W) (hR : Rd w0 r q W) : o.wp Tryd.prog a W (Post w0 r (q + Co) s o a W) Q := by
  unfold absBin at h
  split at h
  · obtain ⟨rfl, g1, g2⟩ := fit_some h
    obtain ⟨u, hu, u1, u2⟩ := h1
    obtain ⟨v, hv, v1, v2⟩ := h2
    unfold Oper.wp
    simp only [execOp, ho]
    rw [hu, hv]
    simp [go_sem]
    exact post_int hR (u + v) (u + v) (IntWalk.i64_in _ (by omega)) (by omega) (by omega)
  · obtain ⟨rfl, g1, g2⟩ := fit_some h
    obtain ⟨u, hu, u1, u2⟩ := h1
    obtain ⟨v, hv, v1, v2⟩ := h2
    unfold Oper.wp
    simp only [execOp, ho]
    rw [hu, hv]
    simp [go_sem]
    exact post_int hR (u - v) (u - v) (IntWalk.i64_in _ (by omega)) (by omega) (by omega)
  · split at h
    · rename_i hpos
      obtain ⟨rfl, g1, g2⟩ := fit_some h
      obtain ⟨u, hu, u1, u2⟩ := h1
      obtain ⟨v, hv, v1, v2⟩ := h2
      obtain ⟨p1, p2⟩ := hpos
      have l1 := Int.mul_le_mul u1 v1 p2 (Int.le_trans p1 u1)
      have l2 := Int.mul_le_mul u2 v2 (Int.le_trans p2 v1) (Int.le_trans (Int.le_trans p1 u1) u2)
      unfold Oper.wp
      simp only [execOp, ho]
      rw [hu, hv]
      simp [go_sem]
      exact post_int hR (u * v) (u * v) (IntWalk.i64_in _ ⟨by omega, by omega⟩) l1 l2
    · cases h
  · rename_i A B C D
    split at h
    · rename_i hpos
      obtain ⟨rfl, g1, g2⟩ := fit_some h
      obtain ⟨u, hu, u1, u2⟩ := h1
      obtain ⟨v, hv, v1, v2⟩ := h2
      obtain ⟨p1, p2, p3⟩ := hpos
      have hvC : v = C := by omega
      rw [hvC] at hv
      have hv0 : ¬ C = 0 := by omega
      have l1 := Int.ediv_le_ediv (show 0 < C by omega) u1
      have l2 := Int.ediv_le_ediv (show 0 < C by omega) u2
      have l4 : 0 ≤ u / C := Int.ediv_nonneg (by omega) (by omega)
      unfold Oper.wp
      simp only [execOp, ho]
      rw [hu, hv]
      simp only [go_sem]
      simp [hv0]
      exact post_int hR (u.tdiv C) (u / C) (by rw [Int.tdiv_eq_ediv_of_nonneg (by omega)]; exact IntWalk.i64_in _ ⟨by omega, by omega⟩) l1 l2
    · cases h
  · rename_i A _ C D
    split at h
    · rename_i hpos
      obtain ⟨rfl, g1, g2⟩ := fit_some h
      obtain ⟨u, hu, u1, u2⟩ := h1
      obtain ⟨v, hv, v1, v2⟩ := h2
      obtain ⟨p1, p2, p3⟩ := hpos
      have hvC : v = C := by omega
      rw [hvC] at hv
      have hv0 : ¬ C = 0 := by omega
      have l4 : 0 ≤ u % C := Int.emod_nonneg _ (by omega)
      have l5 : u % C < C := Int.emod_lt_of_pos _ (by omega)
      unfold Oper.wp
      simp only [execOp, ho]
      rw [hu, hv]
      simp only [go_sem]
      simp [hv0]
      have := post_int' (Co := Co) (o := o) (a := a) (lo := 0) (hi := C - 1) hR (u.tmod C) (by rw [Int.tmod_eq_emod_of_nonneg (by omega)]; exact l4) (by rw [Int.tmod_eq_emod_of_nonneg (by omega)]; omega)
      exact this
    · cases h
  · cases h

/-- Every cell an integer within the bounds. -/
def Good (lo hi : Int) (c : Array Value) : Prop := ∀ j, j < c.size → ∃ x : Int, c[j]? = some (.int .i64 x) ∧ lo ≤ x ∧ x ≤ hi

theorem Good.set {lo hi : Int} {c : Array Value} (h : Good lo hi c) (i : Nat) (x : Int) (h1 : lo ≤ x) (h2 : x ≤ hi) : Good lo hi (c.setIfInBounds i (.int .i64 x)) := by
  intro j hj
  rw [Array.size_setIfInBounds] at hj
  by_cases e : i = j
  · subst e; exact ⟨x, by rw [Array.getElem?_setIfInBounds_self_of_lt hj], h1, h2⟩
  · rw [Array.getElem?_setIfInBounds_ne e]; exact h j hj

theorem Good.mono {lo hi lo' hi' : Int} {c : Array Value} (h : Good lo hi c) (h1 : lo' ≤ lo) (h2 : hi ≤ hi') : Good lo' hi' c := fun j hj => let ⟨x, a, b, d⟩ := h j hj; ⟨x, a, by omega, by omega⟩

theorem fill_good {r : Nat} {W : World} {env : Env} {ρ : Operand → Value} {n : Nat} : ∀ (ps : List (Nat × Operand)) (lo hi LO HI : Int) (c : Array Value),
    (∀ x s, x ∈ ps.map (·.2) → absO env x = some s → s.ok r (ρ x) W) → absParts env n ps = some (lo, hi) → LO ≤ lo → hi ≤ HI → c.size = n → Good LO HI c →
    ∃ c', Instr.fill (fun i => some (i * 1, 1)) c (ps.map fun p => (p.1, ρ p.2)) = some c' ∧ c'.size = n ∧ Good LO HI c' := by
  intro ps
  induction ps with
  | nil => intro lo hi LO HI c _ _ _ _ hn hg; exact ⟨c, rfl, hn, hg⟩
  | cons p ps ih =>
    intro lo hi LO HI c hin h h1 h2 hn hg
    obtain ⟨i, x⟩ := p
    simp only [absParts] at h
    split at h
    · rename_i A B lo' hi' ea ep
      split at h
      · rename_i hi_lt
        have hp : min A lo' = lo ∧ max B hi' = hi := by simpa using h
        obtain ⟨v, hv, v1, v2⟩ := hin x _ (by simp) ea
        have hc : c.size = n := hn
        obtain ⟨c', g1, g2, g3⟩ := ih lo' hi' LO HI (c.setIfInBounds i (.int .i64 v)) (fun x s hx => hin x s (by simp [hx])) ep (by omega) (by omega) (by simpa using hn) (hg.set i v (by omega) (by omega))
        refine ⟨c', ?_, g2, g3⟩
        rw [List.map_cons, Instr.fill]
        have e1 : (Value.int IntKind.i64 v).cells = #[.int .i64 v] := rfl
        simp only [hv, e1, Nat.mul_one]
        rw [if_neg (by simp; omega)]
        simpa using g1
      · cases h
    · cases h

theorem buildSlice_run {n : Nat} {parts : Array (Nat × Value)} {c' : Array Value} (W : World) (hn0 : 1 ≤ n) (hn : n ≤ 1000) (g1 : Instr.fill (fun i => some (i * 1, 1)) ((Array.range (n * 1)).map fun _ => Value.int .i64 0) parts.toList = some c') :
    (Instr.buildSlice 51 n parts).run Tryd.prog W = .ok (.slice (some ⟨W.heap.size, 0, none⟩) n n) (W.alloc (.cells c' 3)) := by
  have h1 : ¬ 16777216 < n := by omega
  have h2 : ¬ n = 0 := by omega
  simp only [Nat.mul_one] at g1
  unfold Instr.buildSlice
  simp [go_sem, h1, h2, Nat.mod_one, g1]

theorem slice_wp {w0 : World} {r Co q : Nat} {o : Oper} {a : Act} {W : World} {Q : Exit → Act → World → Prop} {n : Nat} {parts : Array (Nat × Operand)} {env : Env} {lo hi : Int}
    (ho : o.op = .buildSlice 51 n parts) (hn0 : 1 ≤ n) (hn : n ≤ 1000) (h : absParts env n parts.toList = some (lo, hi)) (hin : ∀ x s, x ∈ parts.toList.map (·.2) → absO env x = some s → s.ok r (a.eval x) W) (hR : Rd w0 r q W) :
    o.wp Tryd.prog a W (Post w0 r (q + Co) (.slice n lo hi) o a W) Q := by
  have hb : lo ≤ 0 ∧ 0 ≤ hi := by
    have : ∀ (ps : List (Nat × Operand)) lo hi, absParts env n ps = some (lo, hi) → lo ≤ 0 ∧ 0 ≤ hi := by
      intro ps
      induction ps with
      | nil => intro lo hi h; simp [absParts] at h; omega
      | cons p ps ih =>
        intro lo hi h
        obtain ⟨i, x⟩ := p
        simp only [absParts] at h
        split at h
        · rename_i A B lo' hi' ea ep
          split at h
          · have hp : min A lo' = lo ∧ max B hi' = hi := by simpa using h
            have := ih _ _ ep
            omega
          · cases h
        · cases h
    exact this _ _ _ h
  have hrlt : r < W.heap.size := by obtain ⟨_, _, _, _, _, _, _, h2, _⟩ := hR; exact h2
  obtain ⟨c', g1, g2, g3⟩ := fill_good (ρ := a.eval) parts.toList lo hi lo hi ((Array.range (n * 1)).map fun _ => Value.int .i64 0) hin h (Int.le_refl _) (Int.le_refl _) (by simp) (by
    intro j hj
    simp at hj
    exact ⟨0, by simp [hj], hb.1, hb.2⟩)
  have hrun := buildSlice_run (parts := parts.map fun (i, x) => (i, a.eval x)) W hn0 hn (c' := c') (by rw [Array.toList_map]; exact g1)
  unfold Oper.wp
  simp only [execOp, ho]
  simp only [Sem.run_bind, hrun, Result.andThen_ok, Sem.run_pure, Oper.upon]
  have hO : Only r W (W.alloc (.cells c' 3)) := Only.of_below ((Below.refl _ _).alloc (Nat.le_refl _) _)
  refine ⟨_, rfl, ⟨W.heap.size, rfl, by omega, fun j hj => ?_⟩, (hR.kept ((Below.refl _ _).alloc (Nat.le_refl _) _)).more (by omega), hO⟩
  rw [World.cell?_alloc_new]
  exact g3 j (by omega)

theorem index_wp {w0 : World} {r Co q : Nat} {o : Oper} {a : Act} {W : World} {Q : Exit → Act → World → Prop} {x ix : Operand} {n : Nat} {lo hi A B : Int}
    (ho : o.op = .indexAddr 51 x ix) (h1 : (Sp.slice n lo hi).ok r (a.eval x) W) (h2 : (Sp.int A B).ok r (a.eval ix) W) (hA : 0 ≤ A) (hB : B < (n : Int)) (hR : Rd w0 r q W) :
    o.wp Tryd.prog a W (Post w0 r (q + Co) (.addr lo hi) o a W) Q := by
  obtain ⟨b, hb, hbr, hc⟩ := h1
  obtain ⟨i, hi', i1, i2⟩ := h2
  have e1 : 0 ≤ i := by omega
  have e2 : i < (n : Int) := by omega
  unfold Oper.wp
  simp only [execOp, ho]
  rw [hb, hi']
  simp [go_sem, e1, e2]
  refine ⟨.pointer (some ⟨b, i.toNat, none⟩), by rfl, ⟨b, i.toNat, rfl, hbr, hc i.toNat (by omega)⟩, hR.more (by omega), Only.refl _ _⟩

theorem load_wp {w0 : World} {r Co q : Nat} {o : Oper} {a : Act} {W : World} {Q : Exit → Act → World → Prop} {x : Operand} {lo hi : Int}
    (ho : o.op = .load 3 x) (h1 : (Sp.addr lo hi).ok r (a.eval x) W) (hR : Rd w0 r q W) :
    o.wp Tryd.prog a W (Post w0 r (q + Co) (.int lo hi) o a W) Q := by
  obtain ⟨b, j, hb, hbr, y, hc, y1, y2⟩ := h1
  unfold Oper.wp
  simp only [execOp, ho]
  rw [hb]
  simp [go_sem, hc]
  exact post_int' hR y y1 y2

theorem copy_wp {w0 : World} {r Co q : Nat} {o : Oper} {a : Act} {W : World} {Q : Exit → Act → World → Prop} {x : Operand} {s : Sp}
    (ho : o.op = .move x ∨ o.op = .assign x) (h1 : s.ok r (a.eval x) W) (hR : Rd w0 r q W) : o.wp Tryd.prog a W (Post w0 r (q + Co) s o a W) Q := by
  unfold Oper.wp
  rcases ho with ho | ho
  all_goals
    simp only [execOp, ho, Sem.run_pure, Oper.upon]
    exact ⟨_, rfl, h1, hR.more (by omega), Only.refl _ _⟩

theorem call_wp {w0 : World} {r Co M q : Nat} {tab : Nat → List Sp → Option Sp} (ht : Table w0 r Co M tab) {o : Oper} {a : Act} {W : World} {Q : Exit → Act → World → Prop} {c : Call} {f : Nat} {s : Sp} {env : Env}
    (ho : o.op = .call c) (hf : c.callee = .value (.func f)) (h : (c.args.toList.mapM (absO env)).bind (tab f) = some s) (hin : ∀ x s, x ∈ c.args.toList → absO env x = some s → s.ok r (a.eval x) W) (hR : Rd w0 r q W) (hq : q ≤ M) :
    o.wp Tryd.prog a W (Post w0 r (q + Co) s o a W) Q := by
  cases hm : c.args.toList.mapM (absO env) with
  | none => rw [hm] at h; cases h
  | some ss =>
    rw [hm] at h
    have hk := oks_of (ρ := a.eval) c.args.toList ss hin hm
    obtain ⟨he, ht'⟩ := ht f ss s h
    have hc := ht' _ W q hk hR hq
    unfold Oper.wp
    have hrun : (execOp a.eval o).run Tryd.prog W = .ok (.enter f (c.args.toList.map a.eval).toArray) W := by
      simp only [execOp, ho, resolve, hf]
      simp [go_sem, Act.eval]
      rw [he]
      congr 2
      apply Array.ext'
      simp
    rw [hrun]
    refine hc.mono ?_
    rintro e W' ⟨v, rfl, h1, h2, h3⟩
    exact ⟨v, rfl, h1, h2, h3⟩

/-! ### The region -/

def dsts (ops : Array Oper) : List Nat := ops.toList.filterMap (·.dst)

/-- An operation is as reckoned, and what it looks at is there by then. -/
def operOk (tab : Nat → List Sp → Option Sp) (env : Env) (ops : Array Oper) (N : Nat) (o : Oper) : Bool :=
  o.guard.isNone &&
  (match o.dst with
   | some d => decide (d < N) && (match env.lookup d, absOp tab env o with
      | some s, some s' => decide (s = s')
      | _, _ => false)
   | none => false) &&
  o.op.operands.all fun x => match x with
   | .tmp t => !(dsts ops).contains t || o.after.any fun e => Region.binds .any e && decide ((ops[e.on]?).bind (·.dst) = some t)
   | _ => true

/-- What must have come after so many rounds. -/
def come (ops : Array Oper) : Nat → List Nat
  | 0 => []
  | k + 1 => (List.range ops.size).filter fun i => match ops[i]? with
    | some o => o.after.all fun e => !Region.binds .any e || (come ops k).contains e.on
    | none => true

def backB (ops : Array Oper) : Bool := (List.range ops.size).all fun i => (come ops ops.size).contains i

theorem come_listed {ops : Array Oper} {L : Array Bool} (hL : L.size = ops.size) (hnil : Region.ready .any ops L = []) : ∀ k i, i ∈ come ops k → L.getD i false = true := by
  intro k
  induction k with
  | zero => intro i hi; cases hi
  | succ k ih =>
    intro i hi
    unfold come at hi
    rw [List.mem_filter] at hi
    obtain ⟨h1, h2⟩ := hi
    have hlt := List.mem_range.1 h1
    refine Classical.byContradiction fun hun => ?_
    have hmem : i ∈ Region.ready .any ops L := by
      unfold Region.ready
      rw [List.mem_filter]
      refine ⟨h1, ?_⟩
      have hun' : L.getD i true = false := by
        simp only [Array.getD_eq_getD_getElem?, Array.getElem?_eq_getElem (show i < L.size by omega), Option.getD_some] at hun ⊢
        simpa using hun
      have hoi : ops[i]? = some ops[i] := Array.getElem?_eq_getElem hlt
      rw [hoi] at h2
      dsimp only at h2
      rw [hun', hoi]
      simp only [Bool.not_false, Bool.true_and, Option.map_some, Option.getD_some, Array.all_eq_true_iff_forall_mem] at h2 ⊢
      intro e he
      have := h2 e he
      simp only [Bool.or_eq_true, List.contains_eq_mem, decide_eq_true_eq] at this ⊢
      rcases this with h | h
      · exact .inl h
      · exact .inr (ih _ h)
    rw [hnil] at hmem
    cases hmem

def regionOk (tab : Nat → List Sp → Option Sp) (env : Env) (ops : Array Oper) (N : Nat) : Bool :=
  ops.all (operOk tab env ops N) && (decide (dsts ops).Nodup && backB ops)

theorem absOp_wp {w0 : World} {r Co M q : Nat} {tab : Nat → List Sp → Option Sp} (ht : Table w0 r Co M tab) {o : Oper} {a : Act} {W : World} {Q : Exit → Act → World → Prop} {s : Sp} {env : Env}
    (h : absOp tab env o = some s) (hin : ∀ x s, x ∈ o.op.operands → absO env x = some s → s.ok r (a.eval x) W) (hR : Rd w0 r q W) (hq : q ≤ M) :
    o.wp Tryd.prog a W (Post w0 r (q + Co) s o a W) Q := by
  unfold absOp at h
  split at h
  · rename_i x ho
    exact copy_wp (.inl ho) (hin x s (by rw [ho]; simp [Op.operands]) h) hR
  · rename_i x ho
    exact copy_wp (.inr ho) (hin x s (by rw [ho]; simp [Op.operands]) h) hR
  · rename_i op t x y t3 ho
    split at h
    · rename_i ht3
      subst ht3
      split at h
      · rename_i s1 s2 e1 e2
        exact bin_wp ho h (hin x _ (by rw [ho]; simp [Op.operands]) e1) (hin y _ (by rw [ho]; simp [Op.operands]) e2) hR
      · cases h
    · cases h
  · rename_i t n parts ho
    split at h
    · rename_i hc
      obtain ⟨rfl, h1, h2⟩ := hc
      cases hp : absParts env n parts.toList with
      | none => rw [hp] at h; cases h
      | some p =>
        obtain ⟨lo, hi⟩ := p
        rw [hp] at h
        cases h
        refine slice_wp ho h1 h2 hp (fun x s hx => hin x s ?_) hR
        rw [ho]
        simp only [Op.operands]
        exact List.mem_toArray.2 hx
    · cases h
  · rename_i t x ix ho
    split at h
    · rename_i ht3
      subst ht3
      split at h
      · rename_i n lo hi A B e1 e2
        split at h
        · rename_i hc
          cases h
          exact index_wp ho (hin x _ (by rw [ho]; simp [Op.operands]) e1) (hin ix _ (by rw [ho]; simp [Op.operands]) e2) hc.1 hc.2 hR
        · cases h
      · cases h
    · cases h
  · rename_i t x ho
    split at h
    · rename_i ht3
      subst ht3
      split at h
      · rename_i lo hi e1
        cases h
        exact load_wp ho (hin x _ (by rw [ho]; simp [Op.operands]) e1) hR
      · cases h
    · cases h
  · rename_i c ho
    split at h
    · rename_i f hf
      refine call_wp ht ho hf h (fun x s hx => hin x s ?_) hR hq
      rw [ho]
      simp only [Op.operands, Call.operands, hf]
      simp at hx ⊢
      exact .inr hx
    · cases h
  · cases h

theorem size_put (a : Act) (d : Option Tmp) (v : Value) : (a.put d v).tmps.size = a.tmps.size := by cases d <;> simp [Act.put]
theorem defers_put (a : Act) (d : Option Tmp) (v : Value) : (a.put d v).defers = a.defers := by cases d <;> simp [Act.put]
theorem eval_put_same (a : Act) (d : Tmp) (v : Value) (h : d < a.tmps.size) : (a.put (some d) v).eval (.tmp d) = v := by
  simp [Act.put, Act.eval, h]
theorem eval_put_other (a : Act) (d t : Tmp) (v : Value) (h : d ≠ t) : (a.put (some d) v).eval (.tmp t) = a.eval (.tmp t) := by
  simp [Act.put, Act.eval, Array.getElem?_setIfInBounds_ne h]

theorem nodup_inj {ops : Array Oper} (h : (dsts ops).Nodup) {i j : Nat} {oi oj : Oper} {d : Tmp} (hi : ops[i]? = some oi) (hj : ops[j]? = some oj) (di : oi.dst = some d) (dj : oj.dst = some d) : i = j := by
  have key : ∀ (l : List Oper), (l.filterMap (·.dst)).Nodup → ∀ i j : Nat, l[i]? = some oi → l[j]? = some oj → i = j := by
    intro l
    induction l with
    | nil => intro _ i j h; simp at h
    | cons x l ih =>
      intro hn i j h1 h2
      cases hx : x.dst with
      | none =>
        rw [List.filterMap_cons_none hx] at hn
        cases i with
        | zero => simp at h1; subst h1; rw [hx] at di; cases di
        | succ i =>
          cases j with
          | zero => simp at h2; subst h2; rw [hx] at dj; cases dj
          | succ j => rw [ih hn i j (by simpa using h1) (by simpa using h2)]
      | some e =>
        rw [List.filterMap_cons_some hx, List.nodup_cons] at hn
        have mem : ∀ {k : Nat} {o : Oper}, l[k]? = some o → o.dst = some d → d ∈ l.filterMap (·.dst) := fun hk hd => List.mem_filterMap.2 ⟨_, List.mem_of_getElem? hk, hd⟩
        cases i with
        | zero =>
          simp at h1; subst h1
          rw [hx] at di; cases di
          cases j with
          | zero => rfl
          | succ j => exact absurd (mem (by simpa using h2) dj) hn.1
        | succ i =>
          cases j with
          | zero =>
            simp at h2; subst h2
            rw [hx] at dj; cases dj
            exact absurd (mem (by simpa using h1) di) hn.1
          | succ j => rw [ih hn.2 i j (by simpa using h1) (by simpa using h2)]
  exact key ops.toList h i j (by simpa using hi) (by simpa using hj)

theorem mem_dsts {ops : Array Oper} {i : Nat} {o : Oper} {d : Tmp} (hi : ops[i]? = some o) (h : o.dst = some d) : d ∈ dsts ops :=
  List.mem_filterMap.2 ⟨o, List.mem_of_getElem? (l := ops.toList) (i := i) (by simpa using hi), h⟩

/-- WHATEVER THE ORDER: behind the region each slot holds what is reckoned of it. -/
theorem wp_region_abs {w0 : World} {r Co M q0 : Nat} {tab : Nat → List Sp → Option Sp} (ht : Table w0 r Co M tab) (env : Env) {id : Nat} {ops : Array Oper} {a0 : Act} {w : World} {Q : Exit → Act → World → Prop}
    (hm : Tryd.prog.follows .mixedOrders = true) (hck : regionOk tab env ops a0.tmps.size = true)
    (h0 : ∀ t s, env.lookup t = some s → t ∉ dsts ops → s.ok r (a0.eval (.tmp t)) w) (hR : Rd w0 r q0 w) (hq : q0 + Co * ops.size ≤ M)
    (hQ : ∀ (a : Act) (W : World), a.defers = a0.defers → a.tmps.size = a0.tmps.size → (∀ t s, env.lookup t = some s → s.ok r (a.eval (.tmp t)) W) →
      (∀ t, t ∉ dsts ops → a.eval (.tmp t) = a0.eval (.tmp t)) → Rd w0 r (q0 + Co * ops.size) W → Only r w W → Q .normal a W) :
    (Code.region id ops true).wp Tryd.prog Q a0 w := by
  simp only [regionOk, Bool.and_eq_true, decide_eq_true_eq] at hck
  obtain ⟨hall, hnd, hback⟩ := hck
  have hop : ∀ {i : Nat} {o : Oper}, ops[i]? = some o → operOk tab env ops a0.tmps.size o = true := fun hi => by
    rw [Array.all_eq_true_iff_forall_mem] at hall
    exact hall _ (Array.mem_of_getElem? hi)
  refine wp_region_any hm ?_
  refine wpAny_of_inv (fun L a W => L.size = ops.size ∧ a.defers = a0.defers ∧ a.tmps.size = a0.tmps.size ∧
      (∀ t s, env.lookup t = some s → (∀ i o, ops[i]? = some o → o.dst = some t → L.getD i false = true) → s.ok r (a.eval (.tmp t)) W) ∧
      (∀ t, t ∉ dsts ops → a.eval (.tmp t) = a0.eval (.tmp t)) ∧ Rd w0 r (q0 + Co * (ops.size - toCome ops.size L)) W ∧ Only r w W)
    (fun L a W h => h.1) ?_ ?_ ops.size _ a0 _ ?_ ?_
  · rintro L a W i ⟨hL, hd, hs, hin, hold, hr, ho⟩ hi
    obtain ⟨hlt, hun, o, hoi, hdep⟩ := ready_spec hi
    have hk := hop hoi
    simp only [operOk, Bool.and_eq_true] at hk
    obtain ⟨⟨hg, hdst⟩, hops⟩ := hk
    have hg' : o.guard = none := by simpa using hg
    cases hdd : o.dst with
    | none => rw [hdd] at hdst; cases hdst
    | some d =>
      rw [hdd] at hdst
      simp only [Bool.and_eq_true, decide_eq_true_eq] at hdst
      obtain ⟨hdN, hdst⟩ := hdst
      split at hdst
      · rename_i s s' he ha
        have hss : s = s' := by simpa using hdst
        subst hss
        have hcnt := toCome_set hlt hL hun
        have hle : toCome ops.size L ≤ ops.size := by
          unfold toCome; exact Nat.le_trans (List.length_filter_le _ _) (by simp)
        have hc1 : Co * (ops.size - toCome ops.size L) + Co ≤ Co * (ops.size - toCome ops.size (L.setIfInBounds i true)) := by
          have := Nat.mul_le_mul_left Co (show ops.size - toCome ops.size L + 1 ≤ ops.size - toCome ops.size (L.setIfInBounds i true) by omega)
          rwa [Nat.mul_add, Nat.mul_one] at this
        have hc2 : Co * (ops.size - toCome ops.size L) ≤ Co * ops.size := Nat.mul_le_mul_left Co (Nat.sub_le _ _)
        have hw := absOp_wp (Q := Q) ht ha (a := a) (W := W) (fun x s hx hxs => by
          cases x with
          | tmp t =>
            refine hin t s hxs fun j oj hj dj => ?_
            rw [Array.all_eq_true_iff_forall_mem] at hops
            have := hops _ hx
            dsimp only at this
            rw [← Array.any_toList] at this
            simp only [Bool.or_eq_true, Bool.not_eq_true', List.any_eq_true] at this
            rcases this with h | ⟨e, he1, he2⟩
            · rw [List.contains_eq_mem, decide_eq_false_iff_not] at h; exact absurd (mem_dsts hj dj) h
            · simp only [Bool.and_eq_true, decide_eq_true_eq] at he2
              cases hon : ops[e.on]? with
              | none => rw [hon] at he2; cases he2.2
              | some oe =>
                rw [hon] at he2
                have := nodup_inj hnd hj hon dj he2.2
                subst this
                exact hdep e (Array.mem_toList_iff.1 he1) he2.1
          | const v =>
            unfold absO at hxs
            split at hxs
            · rename_i h; cases h
            · rename_i h; cases h; cases hxs; exact ⟨_, rfl, Int.le_refl _, Int.le_refl _⟩
            · cases hxs
          | global g => cases hxs
          | func f => cases hxs) hr (by omega)
        unfold wpOp
        rw [hoi]
        have hwt : Region.wanted o (yielded ops a.tmps) = true := by simp [Region.wanted, hg']
        simp only [hwt, if_true]
        refine .inl (Oper.wp_mono ?_ hw)
        rintro a' W' ⟨v, rfl, hv, hR', hO'⟩
        rw [hdd]
        refine ⟨by simpa using hL, by rw [defers_put]; exact hd, by rw [size_put]; exact hs, ?_, ?_, hR'.more (by omega), ho.trans hO'⟩
        · intro t s' hts hlis
          by_cases e : d = t
          · subst e
            rw [he] at hts; cases hts
            rw [eval_put_same _ _ _ (by rw [hs]; exact hdN)]; exact hv
          · rw [eval_put_other _ _ _ _ e]
            refine Sp.ok_only (hin t s' hts fun j oj hj dj => ?_) hO'
            have := hlis j oj hj dj
            by_cases hji : i = j
            · subst hji; rw [hoi] at hj; cases hj; rw [hdd] at dj; cases dj; exact absurd rfl e
            · simpa [Array.getD_eq_getD_getElem?, Array.getElem?_setIfInBounds_ne hji] using this
        · intro t ht'
          rw [eval_put_other _ _ _ _ (fun e => ht' (by rw [← e]; exact mem_dsts hoi hdd))]
          exact hold t ht'
      · cases hdst
  · rintro L a W ⟨hL, hd, hs, hin, hold, hr, ho⟩ hnil
    have hcomplete : ∀ i o, ops[i]? = some o → L.getD i false = true := by
      intro i o hi
      have hlt : i < ops.size := (Array.getElem?_eq_some_iff.1 hi).1
      unfold backB at hback
      rw [List.all_eq_true] at hback
      have := hback i (List.mem_range.2 hlt)
      rw [List.contains_eq_mem, decide_eq_true_eq] at this
      exact come_listed hL hnil _ i this
    exact hQ a W hd hs (fun t s h => hin t s h fun i o hi _ => hcomplete i o hi) hold (hr.more (Nat.add_le_add_left (Nat.mul_le_mul_left Co (Nat.sub_le _ _)) _)) ho
  · refine ⟨by simp, rfl, rfl, ?_, fun _ _ => rfl, ?_, ⟨Nat.le_refl _, fun _ _ _ => rfl⟩⟩
    · intro t s hts hl
      refine Sp.ok_only (h0 t s hts fun hmem => ?_) ⟨Nat.le_refl _, fun _ _ _ => rfl⟩
      obtain ⟨o, ho, hd⟩ := List.mem_filterMap.1 hmem
      obtain ⟨i, hi⟩ := List.mem_iff_getElem?.1 ho
      have := hl i o (by simpa using hi) hd
      have hlt : i < ops.size := by have := (List.getElem?_eq_some_iff.1 hi).1; simpa using this
      simp [Array.getD_eq_getD_getElem?, hlt] at this
    · exact (hR.drew).more (by omega)
  · unfold toCome; exact Nat.le_trans (List.length_filter_le _ _) (by simp)

/-- The reckoning itself, operation by operation. -/
def inferEnv (tab : Nat → List Sp → Option Sp) (ops : Array Oper) (env0 : Env) : Env :=
  ops.toList.foldl (fun env o => match o.dst, absOp tab env o with
    | some d, some s => env ++ [(d, s)]
    | _, _ => env) env0

theorem lookup_append (env : Env) (d t : Nat) (s : Sp) (h : d ≠ t) : (env ++ [(d, s)]).lookup t = env.lookup t := by
  induction env with
  | nil => simp [List.lookup, beq_eq_false_iff_ne.2 (Ne.symm h)]
  | cons p env ih =>
    obtain ⟨d', s'⟩ := p
    simp only [List.cons_append, List.lookup]
    split
    · rfl
    · exact ih

theorem inferEnv_old (tab : Nat → List Sp → Option Sp) (ops : Array Oper) (env0 : Env) (t : Nat) (h : t ∉ dsts ops) : (inferEnv tab ops env0).lookup t = env0.lookup t := by
  have key : ∀ (l : List Oper) (env : Env), t ∉ l.filterMap (·.dst) → (l.foldl (fun env o => match o.dst, absOp tab env o with
      | some d, some s => env ++ [(d, s)]
      | _, _ => env) env).lookup t = env.lookup t := by
    intro l
    induction l with
    | nil => intro env _; rfl
    | cons o l ih =>
      intro env hn
      rw [List.foldl_cons]
      cases hd : o.dst with
      | none =>
        rw [List.filterMap_cons_none hd] at hn
        exact ih _ hn
      | some d =>
        rw [List.filterMap_cons_some hd, List.mem_cons, not_or] at hn
        rw [ih _ hn.2]
        cases ha : absOp tab env o with
        | none => rfl
        | some s => exact lookup_append env d t s (Ne.symm hn.1)
  exact key ops.toList env0 h

theorem act_eq (a : Act) {n : Nat} (h : a.tmps.size = n) : a = { tmps := ((List.range n).map fun t => a.eval (.tmp t)).toArray, defers := a.defers } := by
  obtain ⟨tmps, defers⟩ := a
  simp only [Act.mk.injEq, and_true]
  apply Array.ext
  · simpa using h
  · intro i h1 h2
    simp [Act.eval, h1]

/-- The same, the frame behind the region written out slot by slot. -/
theorem wp_region_reckon {w0 : World} {r Co M q0 : Nat} {tab : Nat → List Sp → Option Sp} (ht : Table w0 r Co M tab) (env0 : Env) {id : Nat} {ops : Array Oper} {a0 : Act} {w : World} {Q : Exit → Act → World → Prop}
    (hm : Tryd.prog.follows .mixedOrders = true) (hck : regionOk tab (inferEnv tab ops env0) ops a0.tmps.size = true)
    (h0 : ∀ t s, env0.lookup t = some s → s.ok r (a0.eval (.tmp t)) w) (hR : Rd w0 r q0 w) (hq : q0 + Co * ops.size ≤ M)
    (hQ : ∀ (f : Nat → Value) (W : World), (∀ t s, (inferEnv tab ops env0).lookup t = some s → s.ok r (f t) W) → (∀ t, t ∉ dsts ops → f t = a0.eval (.tmp t)) →
      Rd w0 r (q0 + Co * ops.size) W → Only r w W → Q .normal { tmps := ((List.range a0.tmps.size).map f).toArray, defers := a0.defers } W) :
    (Code.region id ops true).wp Tryd.prog Q a0 w :=
  wp_region_abs ht (inferEnv tab ops env0) hm hck (fun t s hts hn => h0 t s (by rwa [inferEnv_old tab ops env0 t hn] at hts)) hR hq
    fun a W hd hs hin hold hR' hO => by
      rw [act_eq a hs, hd]
      exact hQ (fun t => a.eval (.tmp t)) W hin hold hR' hO

end Go.Proofs.YtgkkoegfmhgcjaaDoor

namespace Go.Proofs.YtgkkoegfmhgcjaaDoor
open Go.RowKit Go.Shelf

/-- What pick gives. -/
def tab1 (f : Nat) : List Sp → Option Sp
  | [.ptr, .int n m] => if f = 12 ∧ 1 ≤ n then some (.int 0 (m - 1)) else none
  | _ => none

theorem oks_two {r : Nat} {W : World} {s1 s2 : Sp} {vs : List Value} (h : Oks r W [s1, s2] vs) : ∃ v1 v2, vs = [v1, v2] ∧ s1.ok r v1 W ∧ s2.ok r v2 W := by
  match vs, h with
  | [v1, v2], h => exact ⟨v1, v2, rfl, h.1, h.2.1⟩
theorem oks_one {r : Nat} {W : World} {s1 : Sp} {vs : List Value} (h : Oks r W [s1] vs) : ∃ v1, vs = [v1] ∧ s1.ok r v1 W := by
  match vs, h with
  | [v1], h => exact ⟨v1, rfl, h.1⟩

theorem table1 (w0 : World) (r : Nat) : Table w0 r 1 90000 tab1 := by
  intro f ss s h
  unfold tab1 at h
  split at h
  · rename_i n m
    split at h
    · rename_i hc
      obtain ⟨rfl, hn⟩ := hc
      cases h
      refine ⟨enters_of Tryd.func12 (by kernel_rfl) rfl, fun vs W q hk hR hq => ?_⟩
      obtain ⟨v1, v2, rfl, rfl, x, rfl, x1, x2⟩ := oks_two hk
      refine (pick w0 r q x W (by omega) hR).mono ?_
      rintro e W' ⟨y, rfl, y1, y2, hR', hO⟩
      have := y2 (by omega)
      exact ⟨_, rfl, ⟨y, rfl, y1, by omega⟩, hR', hO⟩
    · cases h
  · cases h

theorem look_one {d t : Nat} {s s' : Sp} : List.lookup t [(d, s)] = some s' ↔ t = d ∧ s' = s := by
  simp only [List.lookup]
  by_cases h : t = d
  · subst h; simp [eq_comm]
  · simp [beq_eq_false_iff_ne.2 h, h]

/-- A drawing function of the reader alone. -/
def DrawPost (w0 : World) (r q : Nat) (lo hi : Int) (w : World) (e : Ending) (w' : World) : Prop :=
  ∃ x : Int, e = .returned (.int .i64 x) ∧ lo ≤ x ∧ x ≤ hi ∧ Rd w0 r q w' ∧ Only r w w'

theorem mixed : Tryd.prog.follows .mixedOrders = true := by kernel_rfl

set_option maxRecDepth 100000 in
set_option maxHeartbeats 1000000 in
theorem l20Whole (w0 : World) (r q : Nat) (w : World) (hR : Rd w0 r q w) (hq : q ≤ 50000) :
    Calls Tryd.prog 24 #[.pointer (some ⟨r, 0, none⟩)] w (DrawPost w0 r (q + 50) (-2000000000) 2000000000 w) := by
  go_enter Tryd.func24, Tryd.ntmps24
  go_wp2_with fail
  refine wp_region_reckon (q0 := q) (table1 w0 r) [(0, .ptr)] mixed (by kernel_rfl) ?_ hR (by simp; omega) ?_
  · intro t s h
    rw [look_one] at h
    obtain ⟨rfl, rfl⟩ := h
    rfl
  · intro f W hin hold hR' hO
    obtain ⟨x, hx, x1, x2⟩ := hin 2 (.int (-2000000000) 1996024900) (by kernel_rfl)
    simp only [List.size_toArray, List.length_cons, List.length_nil, Nat.reduceAdd, List.range, List.range.loop, List.map_cons, List.map_nil]
    go_wp2
    go_ret
    exact ⟨x, congrArg Ending.returned hx, by omega, by omega, hR'.le (by simp), hO⟩

/-- Two bounded integers. -/
def TwoPost (w0 : World) (r q : Nat) (w : World) (e : Ending) (w' : World) : Prop :=
  ∃ x y : Int, e = .returned (.tuple #[.int .i64 x, .int .i64 y]) ∧ (-2000000000 ≤ x ∧ x ≤ 2000000000) ∧ (-20 ≤ y ∧ y ≤ 40) ∧ Rd w0 r q w' ∧ Only r w w'

/-- What a drawing of a number and a base gives. -/
def BothPost (w : World) (e : Ending) (w' : World) : Prop :=
  ∃ x y : Int, e = .returned (.tuple #[.int .i64 x, .int .i64 y]) ∧ (-2000000000 ≤ x ∧ x ≤ 2000000000) ∧ (-20 ≤ y ∧ y ≤ 40) ∧ Below w.heap.size w w'

end Go.Proofs.YtgkkoegfmhgcjaaDoor
