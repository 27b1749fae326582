/-
  A range over a function that yields without end: whoever ranges over it must leave it by himself, after fewer than N rounds.
-/
import Derived.RangeFuncNested
import Derived.RangeFuncBound
import Derived.RangeFuncCalls
import Derived.RangeFuncLeaves
import Derived.RangeFuncBox
import Derived.Shelf.Abstract
import Derived.Shelf.RegionOpen
import Derived.WalkKit
import Derived.OwnWalkIn
import Derived.TacticsInMore
import Derived.LoopNIn
import Derived.LoopIn
import Derived.Lib.Hide
import Derived.Test.YtnogcoijlnnbdaaList
namespace Go.Proofs.Ytnogcoijlnnbdaa
open Go.RowKit Go.Shelf

attribute [local go_sem] Oper.semAt_some

/-- The contract of an iterator without end: told that fewer than N have come whenever a round goes on, it comes to a round that says 'no more'; what has come is the beginning of what it yields (Sp). -/
def SeqOn {α : Type} (F : Fence) (n : Nat) (P : Program) (g : Nat) (lb : Array Value) (encs : α → Array Value) (Kp : World → World → Prop) (Sp : List α → Prop) (w : World) : Prop :=
  ∀ (l N : Nat) (J Jx : List α → World → Prop) (W : World), Below w.heap.size w W → AbidesFrom W.heap.size J → AbidesFrom W.heap.size Jx → (∀ pre V, Sp pre → J pre V → pre.length < N) →
    (∀ pre x V, Sp (pre ++ [x]) → J pre V → YieldAt F (n - 1) P l (encs x) V fun e V' => (e = .returned (.bool true) ∧ J (pre ++ [x]) V' ∧ Kp V V') ∨ (e = .returned (.bool false) ∧ Jx (pre ++ [x]) V')) →
    J [] W → CallsIn F n P g (#[.func (.yield l) #[] #[]] ++ lb) W fun e V => (∃ v, e = .returned v) ∧ ∃ pre, Sp pre ∧ Jx pre V

/-- The loop's record and the list of its rounds' deferred calls, between two rounds. -/
structure Held (W : World) (D : Nat) (r : Loop) : Prop where
  loop : W.heap[D + 1]? = some (.loop r)
  defs : W.heap[D]? = some (.deferred (some []))

theorem Held.lt {W : World} {D : Nat} {r : Loop} (h : Held W D r) : D + 1 < W.heap.size := lt_of_heap h.loop
theorem Held.put {W : World} {D : Nat} {r : Loop} (h : Held W D r) (r' : Loop) : Held (W.putObj (D + 1) (.loop r')) D r' :=
  ⟨World.putObj_heap_same h.lt, (World.putObj_heap_other (by omega)).trans h.defs⟩
theorem Held.kept {W V : World} {D : Nat} {r : Loop} (h : Held W D r) (k : KeepsOthers W V) : Held V D r := ⟨k.same _ _ h.loop rfl, k.same _ _ h.defs rfl⟩
theorem Held.grown {W V : World} {D : Nat} {r : Loop} {row : Option Nat} (h : Held W D r) (hg : W.grownBy V row) (hr : ∀ k, row = some k → ∃ o : Obj, W.heap[k]? = some o ∧ o.isWalk = true) : Held V D r :=
  ⟨(grownBy_keeps hg hr h.loop rfl).trans h.loop, (grownBy_keeps hg hr h.defs rfl).trans h.defs⟩

/-- One round: the body's walk, between the record's two turns. -/
theorem round_held {α : Type} {F : Fence} {m : Nat} {P : Program} {D B : Nat} (hBD : B ≤ D) {fn : FuncId} (hfn : F.fn fn) {tmps : Array Value} {ps : Array Tmp} {assign body : Code} {Kp : World → World → Prop}
    (hKt : ∀ {A C E : World}, Kp A C → Kp C E → Kp A E) (hKb : ∀ (V : World) (k : Nat) (o o' : Obj), B ≤ k → V.heap[k]? = some o → o.isCells = false → o.isWalk = false → Kp V (V.putObj k o'))
    {I : List α → World → Prop} {Ix : Code → List α → World → Prop} (hI : OwnFrom B I) (hIx : ∀ c, OwnFrom B (Ix c)) {args : Array Value} (hs : args.size = ps.size) {pre : List α} {x : α} {a₁ : Act}
    (hassign : ∀ (V : World) (K : Act → World → Prop), K a₁ V → assign.wpIn (F.inRound (D + 1)) m P (Exit.then K (fun _ _ _ => False)) { tmps := (ps.zip args).foldl (fun t (p, v) => t.setIfInBounds p v) tmps, defers := [] } V)
    (hbody : ∀ V, I pre V → body.wpIn (F.inRound (D + 1)) m P (ownPostK Kp I Ix (pre ++ [x]) V) a₁ V)
    {W : World} {rec : LoopState → Option Code → Loop} (hrec : rec = fun st pe => { state := st, pending := pe, fn, tmps, params := ps, assign, body, defers := D }) (hh : Held W D (rec .ready none)) (hi : I pre W) :
    YieldAt F m P (D + 1) args W fun e V => (e = .returned (.bool true) ∧ (I (pre ++ [x]) V ∧ Held V D (rec .ready none)) ∧ Kp W V) ∨ (e = .returned (.bool false) ∧ ∃ c, Ix c (pre ++ [x]) V ∧ Held V D (rec .done (some c))) := by
  have hy := run_yield (P := P) (args := args) hh.loop (by rw [hrec]; exact hs)
  have hbg := run_beginRound (P := P) hh.loop (by rw [hrec])
  have hend : ∀ (jump : Option Code) (V : World), Held V D { rec .ready none with state := .busy } → (Instr.endRound (D + 1) jump).run P V = .ok (.bool jump.isNone) (V.putObj (D + 1) (.loop (rec (if jump.isNone then .ready else .done) jump))) := fun jump V hV => by
    have := run_endRound (P := P) jump hV.loop
    rw [hrec] at this ⊢
    exact this
  have hB1 : B ≤ D + 1 := by omega
  rw [hrec] at hy
  refine ⟨fn, _, assign, body, hy, roundIn_of_wpIn hfn (hassign W _ ⟨_, hbg, ?_⟩)⟩
  refine wpIn_mono (hbody _ (hI.putObj _ hi hB1 hh.loop rfl)) ?_
  rintro e a V hp
  have out : ∀ c, KeepsOthers (W.putObj (D + 1) (.loop { rec .ready none with state := .busy })) V → Ix c (pre ++ [x]) V →
      ∃ u V', (Instr.endRound (D + 1) (some c)).run P V = .ok u V' ∧ ((Ending.returned u = .returned (.bool true) ∧ (I (pre ++ [x]) V' ∧ Held V' D (rec .ready none)) ∧ Kp W V') ∨ (Ending.returned u = .returned (.bool false) ∧ ∃ c, Ix c (pre ++ [x]) V' ∧ Held V' D (rec .done (some c)))) := fun c hk hc =>
    ⟨_, _, hend (some c) V ((hh.put _).kept hk), .inr ⟨rfl, c, (hIx c).putObj _ hc hB1 ((hh.put _).kept hk).loop rfl, ((hh.put _).kept hk).put _⟩⟩
  cases e with
  | normal =>
    have hV := (hh.put { rec .ready none with state := .busy }).kept hp.1
    exact ⟨_, _, hend none V hV, .inl ⟨rfl, ⟨hI.putObj _ hp.2.2 hB1 hV.loop rfl, hV.put _⟩, hKt (hKb _ _ _ _ hB1 hh.loop rfl rfl) (hKt hp.2.1 (hKb _ _ _ _ hB1 hV.loop rfl rfl))⟩⟩
  | ret => exact out .ret hp.1 hp.2
  | exit id => exact out (.exit id) hp.1 hp.2
  | goto t => exact out (.goto t) hp.1 hp.2
  | panic ch => exact hp.elim
  | outgrown => exact hp.elim

/-- The law of a range over a function without end. -/
theorem wpIn_rangeFunc_on {α : Type} {F : Fence} {n : Nat} {P : Program} {g : Operand} {ps : Array Tmp} {assign body : Code} {Q : Exit → Act → World → Prop} {a : Act} {w : World}
    (hro : F.round = none) (h1 : 1 ≤ n) {gf : Nat} {lb : Array Value} (hg : a.eval g = .func (.func gf) #[] lb) (hFg : F.fn gf) (eg : ∀ args w, (callFunc gf args).run P w = .ok (.enter gf args) w)
    {encs : α → Array Value} {Kp : World → World → Prop} {Sp : List α → Prop} (hseq : SeqOn F (n - 1) P gf lb encs Kp Sp w)
    (hKt : ∀ {A B C : World}, Kp A B → Kp B C → Kp A C) (hKb : ∀ (W : World) (l : Nat) (o o' : Obj), w.heap.size ≤ l → W.heap[l]? = some o → o.isCells = false → o.isWalk = false → Kp W (W.putObj l o')) (hps : ∀ x, (encs x).size = ps.size)
    (N : Nat) (I : List α → World → Prop) (Ix : Code → List α → World → Prop) (hI : OwnFrom w.heap.size I) (hIx : ∀ c, OwnFrom w.heap.size (Ix c)) (hN : ∀ pre W, Sp pre → I pre W → pre.length < N) (h0 : I [] w) (a₁ : α → Act)
    (hassign : ∀ (l : Nat) (x : α) (W : World) (K : Act → World → Prop), K (a₁ x) W →
      assign.wpIn (F.inRound l) (n - 1 - 1) P (Exit.then K (fun _ _ _ => False)) { tmps := (ps.zip (encs x)).foldl (fun t (p, v) => t.setIfInBounds p v) a.tmps, defers := [] } W)
    (hbody : ∀ (l : Nat) (pre : List α) (x : α) (W : World), Sp (pre ++ [x]) → I pre W → body.wpIn (F.inRound l) (n - 1 - 1) P (ownPostK Kp I Ix (pre ++ [x]) W) (a₁ x) W)
    (hstop : ∀ (D : Nat) (c : Code) (pre : List α) (W : World), w.heap.size ≤ D → Sp pre → Ix c pre W → W.heap[D]? = some (.deferred (some [])) → c.wpIn F n P Q { a with defers := { target := .collected D, args := #[] } :: a.defers } W) :
    (Code.rangeFunc g ps assign body).wpIn F n P Q a w := by
  refine wpIn_rangeFunc fun fn hfn => ?_
  rw [hro]
  obtain ⟨rec, hrec⟩ : ∃ rec : LoopState → Option Code → Loop, rec = fun st pe => { state := st, pending := pe, fn, tmps := a.tmps, params := ps, assign, body, defers := w.heap.size } := ⟨_, rfl⟩
  obtain ⟨W1, hW1⟩ : ∃ W1, (w.alloc (.deferred (some []))).alloc (.loop (rec .ready none)) = W1 := ⟨_, rfl⟩
  have hheld : Held W1 w.heap.size (rec .ready none) := by
    rw [← hW1]
    exact ⟨by have := World.alloc_heap_new (w.alloc (.deferred (some []))) (.loop (rec .ready none)); rwa [World.size_alloc] at this, (Below.heap_alloc _ _ _ (by simp)).trans (World.alloc_heap_new w _)⟩
  have hb : Below w.heap.size w W1 := by rw [← hW1]; exact ((Below.refl _ w).alloc (Nat.le_refl _) _).alloc (by simp) _
  have hsz : W1.heap.size = w.heap.size + 2 := by rw [← hW1]; simp
  have hi1 : I [] W1 := by rw [← hW1]; exact hI.alloc _ (hI.alloc _ h0)
  have hent : (Instr.enterLoop fn a.tmps ps assign body none).run P w = .ok (w.heap.size + 1, [{ target := .collected w.heap.size, args := #[] }]) W1 := by
    rw [← hW1, hrec]; exact run_enterLoop_outer _ _ _ _ _
  have hres : (resolve a.eval (rangeCall g (w.heap.size + 1)) 0).run P W1 = .ok { target := .fn (.func gf) lb, args := #[.func (.yield (w.heap.size + 1)) #[] #[]] } W1 := by
    simp only [resolve, hg]; simp [go_sem]
  refine ⟨_, _, _, _, _, gf, #[.func (.yield (w.heap.size + 1)) #[] #[]] ++ lb, W1, hent, hres, fun f' hf' => by simp [Target.leads] at hf'; subst hf'; exact hFg, by simp [invoke, go_sem, eg], fun _ => h1, ?_⟩
  have hwalk : ∀ {A : World} {row : Option Nat}, (∀ r, row = some r → W1.heap.size ≤ r ∧ ∃ o : Obj, A.heap[r]? = some o ∧ o.isWalk = true) → (∀ r, row = some r → w.heap.size ≤ r ∧ ∃ o : Obj, A.heap[r]? = some o ∧ o.isCells = false) := fun hr r e => by
    obtain ⟨hB, o, ho, hw⟩ := hr r e
    exact ⟨by omega, o, ho, Obj.not_cells_of_walk hw⟩
  have hround : ∀ pre x V, Sp (pre ++ [x]) → (I pre V ∧ Held V w.heap.size (rec .ready none)) → YieldAt F (n - 1 - 1) P (w.heap.size + 1) (encs x) V fun e V' =>
      (e = .returned (.bool true) ∧ (I (pre ++ [x]) V' ∧ Held V' w.heap.size (rec .ready none)) ∧ Kp V V') ∨ (e = .returned (.bool false) ∧ ∃ c, Ix c (pre ++ [x]) V' ∧ Held V' w.heap.size (rec .done (some c))) := fun pre x V hS hV =>
    round_held (Kp := Kp) (I := I) (Ix := Ix) (x := x) (Nat.le_refl _) hfn (fun h k => hKt h k) hKb hI hIx (hps x) (a₁ := a₁ x) (fun V' K hK => hassign _ x V' K hK) (fun V' hi => hbody _ pre x V' hS hi) hrec hV.2 hV.1
  refine (hseq (w.heap.size + 1) N (fun pre W => I pre W ∧ Held W w.heap.size (rec .ready none)) (fun pre W => ∃ c, Ix c pre W ∧ Held W w.heap.size (rec .done (some c))) W1 hb
    (fun s A C row hs hg' hr => ⟨hI s A C row hs.1 hg' (hwalk hr), hs.2.grown hg' fun r e => (hr r e).2⟩)
    (fun s A C row hs hg' hr => ⟨hs.choose, hIx _ s A C row hs.choose_spec.1 hg' (hwalk hr), hs.choose_spec.2.grown hg' fun r e => (hr r e).2⟩)
    (fun pre V hS hV => hN pre V hS hV.1) hround ⟨hi1, hheld⟩).mono ?_
  rintro e V ⟨⟨v, rfl⟩, pre, hSp, c, hi, hh⟩
  exact ⟨some c, _, by have := run_endLoop (P := P) hh.loop (by rw [hrec]; simp); rw [hrec] at this; exact this, hstop _ c pre _ (Nat.le_refl _) hSp ((hIx c).putObj _ hi (by omega) hh.loop rfl) ((World.putObj_heap_other (by omega)).trans hh.defs)⟩

end Go.Proofs.Ytnogcoijlnnbdaa
