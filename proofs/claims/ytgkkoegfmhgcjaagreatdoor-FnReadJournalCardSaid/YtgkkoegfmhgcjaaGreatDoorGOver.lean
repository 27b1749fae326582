/-
  A range over a function that yields without end: whoever ranges over it must leave it by himself, after fewer than N rounds.
-/
import Derived.RangeFuncNested
import Derived.RangeFuncBound
import Derived.RangeFuncCalls
import Derived.RangeFuncLeaves
import Derived.RangeFuncBox
import Derived.Shelf.Abstract
import Derived.Shelf.RegionOpen
import Derived.WalkKit
import Derived.OwnWalkIn
import Derived.TacticsInMore
import Derived.LoopNIn
import Derived.LoopIn
import Derived.Lib.Hide
import Derived.Test.YtgkkoegfmhgcjaaGreatDoorGNum
import Derived.Test.YtgkkoegfmhgcjaaGreatDoorGPlain
import Derived.Sort.LoopGhostIn
import Derived.BigRegionIn
namespace Go.Proofs.YtgkkoegfmhgcjaaGreatDoor
open Go.RowKit Go.Shelf

attribute [local go_sem] Oper.semAt_some

/-- The contract of an iterator without end: told that fewer than N have come whenever a round goes on, it comes to a round that says 'no more'; what has come is the beginning of what it yields (Sp). -/
def SeqOn {α : Type} (F : Fence) (n : Nat) (P : Program) (g : Nat) (lb : Array Value) (encs : α → Array Value) (Kp : World → World → Prop) (Sp : List α → Prop) (w : World) : Prop :=
  ∀ (l N : Nat) (J Jx : List α → World → Prop) (W : World), Below w.heap.size w W → AbidesFrom W.heap.size J → AbidesFrom W.heap.size Jx → (∀ pre V, Sp pre → J pre V → pre.length < N) →
    (∀ pre x V, Sp (pre ++ [x]) → J pre V → YieldAt F (n - 1) P l (encs x) V fun e V' => (e = .returned (.bool true) ∧ J (pre ++ [x]) V' ∧ Kp V V') ∨ (e = .returned (.bool false) ∧ Jx (pre ++ [x]) V')) →
    J [] W → CallsIn F n P g (#[.func (.yield l) #[] #[]] ++ lb) W fun e V => (∃ v, e = .returned v) ∧ ∃ pre, Sp pre ∧ Jx pre V

/-- The loop's record and the list of its rounds' deferred calls, between two rounds. -/
structure Held (W : World) (D : Nat) (r : Loop) : Prop where
  loop : W.heap[D + 1]? = some (.loop r)
  defs : W.heap[D]? = some (.deferred (some []))

theorem Held.lt {W : World} {D : Nat} {r : Loop} (h : Held W D r) : D + 1 < W.heap.size := lt_of_heap h.loop
theorem Held.put {W : World} {D : Nat} {r : Loop} (h : Held W D r) (r' : Loop) : Held (W.putObj (D + 1) (.loop r')) D r' :=
  ⟨World.putObj_heap_same h.lt, (World.putObj_heap_other (by omega)).trans h.defs⟩
theorem Held.kept {W V : World} {D : Nat} {r : Loop} (h : Held W D r) (k : KeepsOthers W V) : Held V D r := ⟨k.same _ _ h.loop rfl, k.same _ _ h.defs rfl⟩
theorem Held.grown {W V : World} {D : Nat} {r : Loop} {row : Option Nat} (h : Held W D r) (hg : W.grownBy V row) (hr : ∀ k, row = some k → ∃ o : Obj, W.heap[k]? = some o ∧ o.isWalk = true) : Held V D r :=
  ⟨(grownBy_keeps hg hr h.loop rfl).trans h.loop, (grownBy_keeps hg hr h.defs rfl).trans h.defs⟩

/-- One round: the body's walk, between the record's two turns. -/
theorem round_held {α : Type} {F : Fence} {m : Nat} {P : Program} {D B : Nat} (hBD : B ≤ D) {fn : FuncId} (hfn : F.fn fn) {tmps : Array Value} {ps : Array Tmp} {assign body : Code} {Kp : World → World → Prop}
    (hKt : ∀ {A C E : World}, Kp A C → Kp C E → Kp A E) (hKb : ∀ (V : World) (k : Nat) (o o' : Obj), B ≤ k → V.heap[k]? = some o → o.isCells = false → o.isWalk = false → Kp V (V.putObj k o'))
    {I : List α → World → Prop} {Ix : Code → List α → World → Prop} (hI : OwnFrom B I) (hIx : ∀ c, OwnFrom B (Ix c)) {args : Array Value} (hs : args.size = ps.size) {pre : List α} {x : α} {a₁ : Act}
    (hassign : ∀ (V : World) (K : Act → World → Prop), K a₁ V → assign.wpIn (F.inRound (D + 1)) m P (Exit.then K (fun _ _ _ => False)) { tmps := (ps.zip args).foldl (fun t (p, v) => t.setIfInBounds p v) tmps, defers := [] } V)
    (hbody : ∀ V, I pre V → body.wpIn (F.inRound (D + 1)) m P (ownPostK Kp I Ix (pre ++ [x]) V) a₁ V)
    {W : World} {rec : LoopState → Option Code → Loop} (hrec : rec = fun st pe => { state := st, pending := pe, fn, tmps, params := ps, assign, body, defers := D }) (hh : Held W D (rec .ready none)) (hi : I pre W) :
    YieldAt F m P (D + 1) args W fun e V => (e = .returned (.bool true) ∧ (I (pre ++ [x]) V ∧ Held V D (rec .ready none)) ∧ Kp W V) ∨ (e = .returned (.bool false) ∧ ∃ c, Ix c (pre ++ [x]) V ∧ Held V D (rec .done (some c))) := by
  have hy := run_yield (P := P) (args := args) hh.loop (by rw [hrec]; exact hs)
  have hbg := run_beginRound (P := P) hh.loop (by rw [hrec])
  have hend : ∀ (jump : Option Code) (V : World), Held V D { rec .ready none with state := .busy } → (Instr.endRound (D + 1) jump).run P V = .ok (.bool jump.isNone) (V.putObj (D + 1) (.loop (rec (if jump.isNone then .ready else .done) jump))) := fun jump V hV => by
    have := run_endRound (P := P) jump hV.loop
    rw [hrec] at this ⊢
    exact this
  have hB1 : B ≤ D + 1 := by omega
  rw [hrec] at hy
  refine ⟨fn, _, assign, body, hy, roundIn_of_wpIn hfn (hassign W _ ⟨_, hbg, ?_⟩)⟩
  refine wpIn_mono (hbody _ (hI.putObj _ hi hB1 hh.loop rfl)) ?_
  rintro e a V hp
  have out : ∀ c, KeepsOthers (W.putObj (D + 1) (.loop { rec .ready none with state := .busy })) V → Ix c (pre ++ [x]) V →
      ∃ u V', (Instr.endRound (D + 1) (some c)).run P V = .ok u V' ∧ ((Ending.returned u = .returned (.bool true) ∧ (I (pre ++ [x]) V' ∧ Held V' D (rec .ready none)) ∧ Kp W V') ∨ (Ending.returned u = .returned (.bool false) ∧ ∃ c, Ix c (pre ++ [x]) V' ∧ Held V' D (rec .done (some c)))) := fun c hk hc =>
    ⟨_, _, hend (some c) V ((hh.put _).kept hk), .inr ⟨rfl, c, (hIx c).putObj _ hc hB1 ((hh.put _).kept hk).loop rfl, ((hh.put _).kept hk).put _⟩⟩
  cases e with
  | normal =>
    have hV := (hh.put { rec .ready none with state := .busy }).kept hp.1
    exact ⟨_, _, hend none V hV, .inl ⟨rfl, ⟨hI.putObj _ hp.2.2 hB1 hV.loop rfl, hV.put _⟩, hKt (hKb _ _ _ _ hB1 hh.loop rfl rfl) (hKt hp.2.1 (hKb _ _ _ _ hB1 hV.loop rfl rfl))⟩⟩
  | ret => exact out .ret hp.1 hp.2
  | exit id => exact out (.exit id) hp.1 hp.2
  | goto t => exact out (.goto t) hp.1 hp.2
  | panic ch => exact hp.elim
  | outgrown => exact hp.elim

/-- The law of a range over a function without end. -/
theorem wpIn_rangeFunc_on {α : Type} {F : Fence} {n : Nat} {P : Program} {g : Operand} {ps : Array Tmp} {assign body : Code} {Q : Exit → Act → World → Prop} {a : Act} {w : World}
    (hro : F.round = none) (h1 : 1 ≤ n) {gf : Nat} {lb : Array Value} (hg : a.eval g = .func (.func gf) #[] lb) (hFg : F.fn gf) (eg : ∀ args w, (callFunc gf args).run P w = .ok (.enter gf args) w)
    {encs : α → Array Value} {Kp : World → World → Prop} {Sp : List α → Prop} (hseq : SeqOn F (n - 1) P gf lb encs Kp Sp w)
    (hKt : ∀ {A B C : World}, Kp A B → Kp B C → Kp A C) (hKb : ∀ (W : World) (l : Nat) (o o' : Obj), w.heap.size ≤ l → W.heap[l]? = some o → o.isCells = false → o.isWalk = false → Kp W (W.putObj l o')) (hps : ∀ x, (encs x).size = ps.size)
    (N : Nat) (I : List α → World → Prop) (Ix : Code → List α → World → Prop) (hI : OwnFrom w.heap.size I) (hIx : ∀ c, OwnFrom w.heap.size (Ix c)) (hN : ∀ pre W, Sp pre → I pre W → pre.length < N) (h0 : I [] w) (a₁ : α → Act)
    (hassign : ∀ (l : Nat) (x : α) (W : World) (K : Act → World → Prop), K (a₁ x) W →
      assign.wpIn (F.inRound l) (n - 1 - 1) P (Exit.then K (fun _ _ _ => False)) { tmps := (ps.zip (encs x)).foldl (fun t (p, v) => t.setIfInBounds p v) a.tmps, defers := [] } W)
    (hbody : ∀ (l : Nat) (pre : List α) (x : α) (W : World), Sp (pre ++ [x]) → I pre W → body.wpIn (F.inRound l) (n - 1 - 1) P (ownPostK Kp I Ix (pre ++ [x]) W) (a₁ x) W)
    (hstop : ∀ (D : Nat) (c : Code) (pre : List α) (W : World), w.heap.size ≤ D → Sp pre → Ix c pre W → W.heap[D]? = some (.deferred (some [])) → c.wpIn F n P Q { a with defers := { target := .collected D, args := #[] } :: a.defers } W) :
    (Code.rangeFunc g ps assign body).wpIn F n P Q a w := by
  refine wpIn_rangeFunc fun fn hfn => ?_
  rw [hro]
  obtain ⟨rec, hrec⟩ : ∃ rec : LoopState → Option Code → Loop, rec = fun st pe => { state := st, pending := pe, fn, tmps := a.tmps, params := ps, assign, body, defers := w.heap.size } := ⟨_, rfl⟩
  obtain ⟨W1, hW1⟩ : ∃ W1, (w.alloc (.deferred (some []))).alloc (.loop (rec .ready none)) = W1 := ⟨_, rfl⟩
  have hheld : Held W1 w.heap.size (rec .ready none) := by
    rw [← hW1]
    exact ⟨by have := World.alloc_heap_new (w.alloc (.deferred (some []))) (.loop (rec .ready none)); rwa [World.size_alloc] at this, (Below.heap_alloc _ _ _ (by simp)).trans (World.alloc_heap_new w _)⟩
  have hb : Below w.heap.size w W1 := by rw [← hW1]; exact ((Below.refl _ w).alloc (Nat.le_refl _) _).alloc (by simp) _
  have hsz : W1.heap.size = w.heap.size + 2 := by rw [← hW1]; simp
  have hi1 : I [] W1 := by rw [← hW1]; exact hI.alloc _ (hI.alloc _ h0)
  have hent : (Instr.enterLoop fn a.tmps ps assign body none).run P w = .ok (w.heap.size + 1, [{ target := .collected w.heap.size, args := #[] }]) W1 := by
    rw [← hW1, hrec]; exact run_enterLoop_outer _ _ _ _ _
  have hres : (resolve a.eval (rangeCall g (w.heap.size + 1)) 0).run P W1 = .ok { target := .fn (.func gf) lb, args := #[.func (.yield (w.heap.size + 1)) #[] #[]] } W1 := by
    simp only [resolve, hg]; simp [go_sem]
  refine ⟨_, _, _, _, _, gf, #[.func (.yield (w.heap.size + 1)) #[] #[]] ++ lb, W1, hent, hres, fun f' hf' => by simp [Target.leads] at hf'; subst hf'; exact hFg, by simp [invoke, go_sem, eg], fun _ => h1, ?_⟩
  have hwalk : ∀ {A : World} {row : Option Nat}, (∀ r, row = some r → W1.heap.size ≤ r ∧ ∃ o : Obj, A.heap[r]? = some o ∧ o.isWalk = true) → (∀ r, row = some r → w.heap.size ≤ r ∧ ∃ o : Obj, A.heap[r]? = some o ∧ o.isCells = false) := fun hr r e => by
    obtain ⟨hB, o, ho, hw⟩ := hr r e
    exact ⟨by omega, o, ho, Obj.not_cells_of_walk hw⟩
  have hround : ∀ pre x V, Sp (pre ++ [x]) → (I pre V ∧ Held V w.heap.size (rec .ready none)) → YieldAt F (n - 1 - 1) P (w.heap.size + 1) (encs x) V fun e V' =>
      (e = .returned (.bool true) ∧ (I (pre ++ [x]) V' ∧ Held V' w.heap.size (rec .ready none)) ∧ Kp V V') ∨ (e = .returned (.bool false) ∧ ∃ c, Ix c (pre ++ [x]) V' ∧ Held V' w.heap.size (rec .done (some c))) := fun pre x V hS hV =>
    round_held (Kp := Kp) (I := I) (Ix := Ix) (x := x) (Nat.le_refl _) hfn (fun h k => hKt h k) hKb hI hIx (hps x) (a₁ := a₁ x) (fun V' K hK => hassign _ x V' K hK) (fun V' hi => hbody _ pre x V' hS hi) hrec hV.2 hV.1
  refine (hseq (w.heap.size + 1) N (fun pre W => I pre W ∧ Held W w.heap.size (rec .ready none)) (fun pre W => ∃ c, Ix c pre W ∧ Held W w.heap.size (rec .done (some c))) W1 hb
    (fun s A C row hs hg' hr => ⟨hI s A C row hs.1 hg' (hwalk hr), hs.2.grown hg' fun r e => (hr r e).2⟩)
    (fun s A C row hs hg' hr => ⟨hs.choose, hIx _ s A C row hs.choose_spec.1 hg' (hwalk hr), hs.choose_spec.2.grown hg' fun r e => (hr r e).2⟩)
    (fun pre V hS hV => hN pre V hS hV.1) hround ⟨hi1, hheld⟩).mono ?_
  rintro e V ⟨⟨v, rfl⟩, pre, hSp, c, hi, hh⟩
  exact ⟨some c, _, by have := run_endLoop (P := P) hh.loop (by rw [hrec]; simp); rw [hrec] at this; exact this, hstop _ c pre _ (Nat.le_refl _) hSp ((hIx c).putObj _ hi (by omega) hh.loop rfl) ((World.putObj_heap_other (by omega)).trans hh.defs)⟩

end Go.Proofs.YtgkkoegfmhgcjaaGreatDoor

namespace Go.Proofs.YtgkkoegfmhgcjaaGreatDoor
open Go.RowKit Go.Shelf

theorem tmod_nat (a c : Nat) : ((a : Int)).tmod (c : Int) = ((a % c : Nat) : Int) := rfl
theorem emod_nat (a c : Nat) : (a : Int) % (c : Int) = ((a % c : Nat) : Int) := rfl

set_option maxHeartbeats 800000 in
theorem specCommon (u b : Nat) (hu : u ≤ 1000000000) (hb : b ≤ 1000000000) (w : World) :
    Calls Tryz.prog 167 #[.int .i64 u, .int .i64 b] w fun e w' => e = .returned (.int .i64 ((Nat.gcd u b : Nat) : Int)) ∧ w = w' := by
  obtain ⟨G, hG⟩ : ∃ G, Nat.gcd u b = G := ⟨_, rfl⟩
  have HG := Lib.hid hG
  rw [hG]
  clear hG
  go_enter Tryz.func167, Tryz.ntmps167
  go_wp2
  go_loop [0, 1, 5] (fun av bv _ => ∃ A B : Nat, av = .int .i64 A ∧ bv = .int .i64 B ∧ A ≤ 1000000000 ∧ B ≤ 1000000000 ∧ Nat.gcd A B = G) (fun _ bv _ => (intOf bv).toNat)
  case atStart => exact ⟨u, b, rfl, rfl, hu, hb, HG.out⟩
  case round =>
    clear HG hu hb
    obtain ⟨A, B, rfl, rfl, hA, hB, hg⟩ := hrel
    by_cases h0 : 0 < B
    · have hi : (0 : Int) < (B : Int) := by omega
      have hb0 : ((B : Int) == 0) = false := by rw [beq_eq_false_iff_ne]; omega
      have hlt := Nat.mod_lt A h0
      have e1 := tmod_nat A B
      have HN : Hid (Nat.gcd B (A % B) = G) := Lib.hid (by rw [← hg, Nat.gcd_comm A B, Nat.gcd_rec B A, Nat.gcd_comm])
      clear hg
      generalize A % B = R at *
      go_wp2
      go_round
      case rel => exact ⟨B, R, rfl, rfl, hB, by omega, HN.out⟩
      case measure => simp [intOf]; omega
    · obtain rfl : B = 0 := by omega
      rw [Nat.gcd_zero_right] at hg
      have HA := Lib.hid hg
      clear hg
      go_wp2
      go_ret
      exact ⟨ret_int (by rw [HA.out]), rfl⟩

set_option maxHeartbeats 400000 in
theorem specUnderOk (u b : Int) (w : World) :
    Calls Tryz.prog 138 #[.int .i64 u, .int .i64 b] w fun e w' => e = .returned (.bool (Pl.underB u b)) ∧ w = w' := by
  by_cases h1 : (decide (1 ≤ u) && decide (u ≤ 200)) = true
  · by_cases h2 : Pl.baseB b = true
    · have h1' := h1
      simp only [Bool.and_eq_true, decide_eq_true_eq] at h1'
      have h2' := (Pl.baseB_iff b).1 h2
      obtain ⟨v, rfl⟩ : ∃ v : Nat, u = (v : Int) := ⟨u.toNat, by omega⟩
      obtain ⟨k, rfl⟩ : ∃ k : Nat, b = (k : Int) := ⟨b.toNat, by omega⟩
      have HC := Lib.hid (specCommon v k (by omega) (by omega))
      have hE : Pl.underB v k = (((Nat.gcd v k : Nat) : Int) == 1) := by
        rw [Bool.eq_iff_iff, Pl.underB_iff, beq_iff_eq]
        unfold Nat.Coprime
        omega
      rw [hE]
      clear hE h1' h2'
      generalize ((Nat.gcd v k : Nat) : Int) = G at *
      go_enter Tryz.func138, Tryz.ntmps138
      go_wp2_with (first | (go_at_call 49; refine (specIn _ _ _ _).mono ?_; rintro e w' ⟨rfl, rfl⟩; rw [h1]) | (go_at_call 50; refine (specBaseOk _ _).mono ?_; rintro e w' ⟨rfl, rfl⟩; rw [h2]) | (go_at_call 167; refine (HC.out _).mono ?_; rintro e w' ⟨rfl, rfl⟩))
      go_ret
      exact ⟨rfl, rfl⟩
    · have h2' : Pl.baseB b = false := by simpa using h2
      have hE : Pl.underB u b = false := by simp [Pl.underB, h2']
      rw [hE]
      clear hE h2
      go_enter Tryz.func138, Tryz.ntmps138
      go_wp2_with (first | (go_at_call 49; refine (specIn _ _ _ _).mono ?_; rintro e w' ⟨rfl, rfl⟩; rw [h1]) | (go_at_call 50; refine (specBaseOk _ _).mono ?_; rintro e w' ⟨rfl, rfl⟩; rw [h2']))
      go_ret
      exact ⟨rfl, rfl⟩
  · have h1' : (decide (1 ≤ u) && decide (u ≤ 200)) = false := by simpa using h1
    have hE : Pl.underB u b = false := by
      unfold Pl.underB; rw [h1']; rfl
    rw [hE]
    clear hE h1
    go_enter Tryz.func138, Tryz.ntmps138
    go_wp2_with (first | (go_at_call 49; refine (specIn _ _ _ _).mono ?_; rintro e w' ⟨rfl, rfl⟩; rw [h1']))
    go_ret
    exact ⟨rfl, rfl⟩

set_option maxHeartbeats 800000 in
theorem specPeriodOf (u b : Int) (w : World) :
    Calls Tryz.prog 111 #[.int .i64 u, .int .i64 b] w fun e w' => e = .returned (.int .i64 (Pl.periodI u b)) ∧ w = w' := by
  have HU := Lib.hid (specUnderOk u b)
  by_cases h : Pl.underB u b = true
  · rw [h] at HU
    have h' := h
    obtain ⟨v, k, rfl, rfl, h1, h2, h3, h4, h5⟩ := Pl.underB_nat h
    rw [Pl.periodI_yes h']
    obtain ⟨hper, hle, _⟩ := Pl.periodN_per h1 h5
    have HBACK := Lib.hid hper.back
    have HLEAST := Lib.hid hper.least
    have hp1 := hper.pos
    clear h h' h5 hper
    generalize Pl.periodN k v = p at *
    have hv0 : ((v : Int) == 0) = false := by rw [beq_eq_false_iff_ne]; omega
    have e1 : (1 : Int).tmod (v : Int) = ((1 % v : Nat) : Int) := rfl
    have e1' : (1 : Int) % (v : Int) = ((1 % v : Nat) : Int) := rfl
    have e2 := tmod_nat k v
    have HP1 : Hid (k ^ 1 % v = k % v) := Lib.hid (by rw [Nat.pow_one])
    have HST : Hid (∀ n, k ^ n % v * k % v = k ^ (n + 1) % v) := Lib.hid fun n => by rw [Nat.pow_succ, Nat.mul_mod, Nat.mul_mod (k ^ n) k, Nat.mod_mod]
    have hlt : ∀ n, k ^ n % v < v := fun n => Nat.mod_lt _ (by omega)
    have HLT := Lib.hid hlt
    clear hlt
    obtain ⟨K1, hK1⟩ : ∃ K1, k % v = K1 := ⟨_, rfl⟩
    have hk1 : K1 < v := by rw [← hK1]; exact Nat.mod_lt _ (by omega)
    rw [hK1] at e2 HP1
    clear hK1
    generalize 1 % v = ONE at *
    go_enter Tryz.func111, Tryz.ntmps111
    go_wp2_with (go_at_call 138; refine (HU.out _).mono ?_; rintro e w' ⟨rfl, rfl⟩)
    go_loop [5, 6] (fun nv qv => ∃ n : Nat, 1 ≤ n ∧ n ≤ p ∧ nv = .int .i64 n ∧ qv = .int .i64 ((k ^ n % v : Nat) : Int)) (fun nv _ => p - (intOf nv).toNat)
    case atStart => exact ⟨1, by omega, hp1, rfl, by rw [HP1.out]⟩
    case round =>
      clear HP1 e2 hk1 HU
      obtain ⟨n, hn1, hn2, rfl, rfl⟩ := hrel
      by_cases hb : k ^ n % v = ONE
      · obtain rfl : n = p := by
          refine Classical.byContradiction fun hne => ?_
          exact HLEAST.out n hn1 (by omega) hb
        have ht : (((k ^ n % v : Nat) : Int) != (ONE : Int)) = false := by rw [hb]; simp
        clear hb
        generalize k ^ n % v = Q at *
        go_wp2
        go_ret
        exact ⟨rfl, rfl⟩
      · have ht : (((k ^ n % v : Nat) : Int) != (ONE : Int)) = true := by
          rw [bne_iff_ne]; exact fun h => hb (by exact_mod_cast h)
        have HN := Lib.hid (HST.out n)
        have hq := HLT.out n
        have hnp : n < p := by
          refine Classical.byContradiction fun hno => hb ?_
          obtain rfl : n = p := by omega
          exact HBACK.out
        clear hb
        generalize k ^ n % v = Q at *
        have hQk : Q * k ≤ 200 * 16 := Nat.mul_le_mul (by omega) h4
        have e3 : IntKind.i64.wrap ((Q : Int) * (k : Int)) = ((Q * k : Nat) : Int) := by rw [← Int.natCast_mul]; exact IntWalk.i64_in _ (by omega)
        have e4 := tmod_nat (Q * k) v
        have hr : Q * k % v < v := Nat.mod_lt _ (by omega)
        generalize Q * k % v = R at *
        generalize Q * k = X at *
        go_wp2
        go_round
        case rel => exact ⟨n + 1, by omega, by omega, by go_num, by rw [← HN.out]⟩
        case measure => simp [intOf]; omega
  · rw [Pl.periodI_no h]
    rw [Bool.eq_false_iff.2 h] at HU
    clear h
    go_enter Tryz.func111, Tryz.ntmps111
    go_wp2_with (go_at_call 138; refine (HU.out _).mono ?_; rintro e w' ⟨rfl, rfl⟩)
    go_ret
    exact ⟨rfl, rfl⟩

/-- The ring of rests: the next one. -/
theorem rest_step (k v x K : Nat) (hv : 1 ≤ v) (hv2 : v ≤ 200) (hk : k ≤ 16) : Pl.restN k v x K < v ∧ Pl.restN k v x K * k ≤ 3200 ∧ Pl.restN k v x (K + 1) = Pl.restN k v x K * k % v ∧ Pl.digitN k v x K = Pl.restN k v x K * k / v := by
  have h1 := Pl.restN_lt (b := k) (u := v) (x := x) (k := K) hv
  refine ⟨h1, ?_, Pl.restN_succ k v x K, rfl⟩
  have : Pl.restN k v x K * k ≤ 200 * 16 := Nat.mul_le_mul (by omega) hk
  omega

set_option maxHeartbeats 1000000 in
theorem specRoundOf (x u b : Int) (w : World) :
    Calls Tryz.prog 78 #[.int .i64 x, .int .i64 u, .int .i64 b] w (ListPost w (Pl.roundP x u b)) := by
  have HP := Lib.hid (specPeriodOf u b)
  have hb0 : Below w.heap.size w (w.alloc (.cells #[] 3)) := (Below.refl _ w).alloc (Nat.le_refl _) _
  by_cases h : Pl.overB x u b = true
  · have h' := h
    obtain ⟨y, v, k, rfl, rfl, rfl, h1, h2, h3, h4, h5, h6⟩ := Pl.overB_nat h
    rw [Pl.roundP_yes h']
    rw [Pl.periodI_yes h6] at HP
    have hple := (Pl.periodN_per (b := k) (u := v) (by omega) h5).2.1
    have hin : (decide ((0 : Int) ≤ (y : Int)) && decide ((y : Int) ≤ (v : Int) - 1)) = true := by simp; omega
    have HR0 : Hid (Pl.restN k v y 0 = y) := Lib.hid (Pl.restN_zero h1)
    have HST : Hid (∀ K, Pl.restN k v y K < v ∧ Pl.restN k v y K * k ≤ 3200 ∧ Pl.restN k v y (K + 1) = Pl.restN k v y K * k % v ∧ Pl.digitN k v y K = Pl.restN k v y K * k / v) := Lib.hid fun K => rest_step k v y K (by omega) h2 h4
    have hv0 : ((v : Int) == 0) = false := by rw [beq_eq_false_iff_ne]; omega
    obtain ⟨i0, hi0, hz0, hz1, hz2⟩ := info_parts info_int
    clear h h' h5 h6
    generalize Pl.periodN k v = p at *
    go_enter Tryz.func78, Tryz.ntmps78
    go_wp2_with (first | (go_at_call 111; refine (HP.out _).mono ?_; rintro e w' ⟨rfl, rfl⟩) | (go_at_call 49; refine (specIn _ _ _ _).mono ?_; rintro e w' ⟨rfl, rfl⟩; rw [hin]))
    go_loopw [7, 9, 10] (fun ov rv kv wr => ∃ (K : Nat) (vv : Value), vv = ov ∧ K ≤ p ∧ kv = .int .i64 K ∧ rv = .int .i64 ((Pl.restN k v y K : Nat) : Int) ∧ Row w.heap.size wr vv ((Pl.roundD k v y K).map fun d : Nat => (d : Int)) ∧ Below w.heap.size w wr) (fun _ _ kv _ => p - (intOf kv).toNat)
    case atStart => exact ⟨0, _, rfl, by omega, rfl, by rw [HR0.out], row_empty w, hb0⟩
    case round =>
      clear hb0 hin HR0 HP
      obtain ⟨K, vv, rfl, hK, rfl, rfl, hr, hbw⟩ := hrel
      by_cases hlt : K < p
      · have hi : (K : Int) < (p : Int) := by omega
        obtain ⟨s1, s2, s3, s4⟩ := HST.out K
        have HS3 := Lib.hid s3
        have HS4 : Hid ((Pl.roundD k v y (K + 1)).map (fun d : Nat => (d : Int)) = (Pl.roundD k v y K).map (fun d : Nat => (d : Int)) ++ [((Pl.restN k v y K * k / v : Nat) : Int)]) := Lib.hid (by rw [Pl.roundD_succ, List.map_append, ← s4]; rfl)
        have hll : ((Pl.roundD k v y K).map fun d : Nat => (d : Int)).length ≤ 200 := by rw [List.length_map, Pl.roundD_len]; omega
        clear s3 s4
        generalize (Pl.roundD k v y K).map (fun d : Nat => (d : Int)) = X at *
        generalize Pl.restN k v y K = R at *
        have e3 : IntKind.i64.wrap ((R : Int) * (k : Int)) = ((R * k : Nat) : Int) := by rw [← Int.natCast_mul]; exact IntWalk.i64_in _ (by omega)
        have e4 := tmod_nat (R * k) v
        have e5 : (((R * k : Nat) : Int)).tdiv (v : Int) = ((R * k / v : Nat) : Int) := rfl
        have hq : R * k / v ≤ R * k := Nat.div_le_self _ _
        have hrr : R * k % v < v := Nat.mod_lt _ (by omega)
        generalize R * k / v = QQ at *
        generalize R * k % v = RR at *
        generalize R * k = Y at *
        have e6 : IntKind.i64.wrap (QQ : Int) = (QQ : Int) := IntWalk.i64_in _ (by omega)
        have hr' : wr.ownsRow w.heap.size 3 1 vv X.length (X.map (Value.int .i64)) := hr
        have hsz := hbw.size
        clear hr
        go_wp2_with (at_builtin; refine wpList_append_own _ rfl _ _ 28 rfl w.heap.size 3 i0 (.int .i64 0) 1 8 Tryz.underlying28 hi0 hz0 hz1 hz2 rfl (by decide) _ _ _ rfl (hr'.alloc _) ⟨wr.heap.size, 0, none⟩ 1 1 [.int .i64 (QQ : Int)] rfl rfl (cell_one_new _ _ _) (by simp [Value.oneCell']) (by unfold maxLen; omega) (by omega) (by simp; omega) ?_; intro v2 w1 hown1 hgrow1 _)
        go_roundw
        case rel => exact ⟨K + 1, _, rfl, by omega, by go_num, by rw [HS3.out], by rw [HS4.out]; exact row_snoc hown1, below_append (hbw.alloc hbw.size _) (hr'.alloc _) hgrow1⟩
        case measure => simp [intOf]; omega
      · obtain rfl : K = p := by omega
        have hi : ¬ (K : Int) < (K : Int) := by omega
        have HR := Lib.hid hr
        clear hr
        go_wp2_with fail
        go_ret
        exact ⟨_, rfl, HR.out, hbw⟩
  · rw [Pl.roundP_no h]
    by_cases hin : (decide ((0 : Int) ≤ x) && decide (x ≤ wrap64 (u - 1))) = true
    · by_cases hu : Pl.underB u b = true
      · exfalso
        refine h ?_
        obtain ⟨v, k, rfl, rfl, g1, g2, _, _, _⟩ := Pl.underB_nat hu
        simp only [Bool.and_eq_true, decide_eq_true_eq] at hin
        have hw : wrap64 ((v : Int) - 1) = (v : Int) - 1 := IntWalk.wrap64_in _ (by omega)
        rw [hw] at hin
        rw [Pl.overB, hu]
        simp; omega
      · rw [Pl.periodI_no hu] at HP
        clear h hu
        go_enter Tryz.func78, Tryz.ntmps78
        go_wp2_with (first | (go_at_call 111; refine (HP.out _).mono ?_; rintro e w' ⟨rfl, rfl⟩) | (go_at_call 49; refine (specIn _ _ _ _).mono ?_; rintro e w' ⟨rfl, rfl⟩; rw [hin]))
        go_loopw [7, 9, 10] (fun ov _ kv wr => ov = .slice (some ⟨w.heap.size, 0, none⟩) 0 0 ∧ kv = .int .i64 0 ∧ wr = w.alloc (.cells #[] 3)) (fun _ _ _ _ => 0)
        case atStart => exact ⟨rfl, rfl, rfl⟩
        case round =>
          obtain ⟨rfl, rfl, rfl⟩ := hrel
          go_wp2_with fail
          go_ret
          exact ⟨_, rfl, row_empty w, hb0⟩
    · have hin' : (decide ((0 : Int) ≤ x) && decide (x ≤ wrap64 (u - 1))) = false := by simpa using hin
      generalize Pl.periodI u b = PI at *
      clear h hin
      go_enter Tryz.func78, Tryz.ntmps78
      go_wp2_with (first | (go_at_call 111; refine (HP.out _).mono ?_; rintro e w' ⟨rfl, rfl⟩) | (go_at_call 49; refine (specIn _ _ _ _).mono ?_; rintro e w' ⟨rfl, rfl⟩; rw [hin']))
      go_ret
      exact ⟨_, rfl, row_empty w, hb0⟩

end Go.Proofs.YtgkkoegfmhgcjaaGreatDoor

namespace Go.Proofs.YtgkkoegfmhgcjaaGreatDoor
open Go.RowKit Go.Shelf

set_option maxHeartbeats 800000 in
theorem implCommon (u b : Nat) (hu : u ≤ 1000000000) (hb : b ≤ 1000000000) (w : World) :
    Calls Tryz.prog 197 #[.int .i64 u, .int .i64 b] w fun e w' => e = .returned (.int .i64 ((Nat.gcd u b : Nat) : Int)) ∧ Below w.heap.size w w' := by
  obtain ⟨G, hG⟩ : ∃ G, Nat.gcd u b = G := ⟨_, rfl⟩
  have HG := Lib.hid hG
  rw [hG]
  clear hG
  go_enter Tryz.func197, Tryz.ntmps197
  go_wp2
  go_loopw [0, 1] (fun av bv wr => ∃ A B : Nat, av = .int .i64 A ∧ bv = .int .i64 B ∧ A ≤ 1000000000 ∧ B ≤ 1000000000 ∧ Nat.gcd A B = G ∧ Below w.heap.size w wr) (fun _ bv _ => (intOf bv).toNat)
  case atStart => exact ⟨u, b, rfl, rfl, hu, hb, HG.out, Below.refl _ _⟩
  case round =>
    clear HG hu hb
    obtain ⟨A, B, rfl, rfl, hA, hB, hg, hbl⟩ := hrel
    have HBL := Lib.hid hbl
    clear hbl
    by_cases h0 : 0 < B
    · have hi : (0 : Int) < (B : Int) := by omega
      have hb0 : ((B : Int) == 0) = false := by rw [beq_eq_false_iff_ne]; omega
      have hb1 : ¬ B = 0 := by omega
      have hlt := Nat.mod_lt A h0
      have e1 := tmod_nat A B
      have HN : Hid (Nat.gcd B (A % B) = G) := Lib.hid (by rw [← hg, Nat.gcd_comm A B, Nat.gcd_rec B A, Nat.gcd_comm])
      clear hg
      generalize A % B = R at *
      go_wp2_with fail
      go_big_quiet (fail)
      go_wp2_with fail
      go_roundw
      case rel => exact ⟨B, R, rfl, rfl, hB, by omega, HN.out, HBL.out.trans ((drewN_below wr nq).mono HBL.out.size)⟩
      case measure => simp [intOf]; omega
    · obtain rfl : B = 0 := by omega
      rw [Nat.gcd_zero_right] at hg
      have HA := Lib.hid hg
      clear hg
      go_wp2_with fail
      go_ret
      exact ⟨ret_int (by rw [HA.out]), HBL.out⟩

set_option maxHeartbeats 400000 in
theorem implUnderOk (u b : Int) (w : World) :
    Calls Tryz.prog 183 #[.int .i64 u, .int .i64 b] w fun e w' => e = .returned (.bool (Pl.underB u b)) ∧ Below w.heap.size w w' := by
  by_cases h2 : Pl.baseB b = true
  · by_cases h1 : 1 ≤ u
    · by_cases h3 : u ≤ 200
      · have h2' := (Pl.baseB_iff b).1 h2
        obtain ⟨v, rfl⟩ : ∃ v : Nat, u = (v : Int) := ⟨u.toNat, by omega⟩
        obtain ⟨k, rfl⟩ : ∃ k : Nat, b = (k : Int) := ⟨b.toNat, by omega⟩
        have HC := Lib.hid (implCommon v k (by omega) (by omega))
        have hE : Pl.underB v k = (((Nat.gcd v k : Nat) : Int) == 1) := by
          rw [Bool.eq_iff_iff, Pl.underB_iff, beq_iff_eq]
          unfold Nat.Coprime
          omega
        rw [hE]
        clear hE h2'
        generalize ((Nat.gcd v k : Nat) : Int) = G at *
        go_enter Tryz.func183, Tryz.ntmps183
        go_wp2_with (first | (go_at_call 59; refine (implBaseOk _ _).mono ?_; rintro e w' ⟨rfl, rfl⟩; rw [h2]) | (go_at_call 197; refine (HC.out _).mono ?_; rintro e w' ⟨rfl, hb⟩))
        go_ret
        exact ⟨rfl, hb⟩
      · have hE : Pl.underB u b = false := by simp [Pl.underB, h3]
        rw [hE]
        clear hE
        go_enter Tryz.func183, Tryz.ntmps183
        go_wp2_with (first | (go_at_call 59; refine (implBaseOk _ _).mono ?_; rintro e w' ⟨rfl, rfl⟩; rw [h2]))
        go_ret
        exact ⟨rfl, Below.refl _ _⟩
    · have hE : Pl.underB u b = false := by simp [Pl.underB, h1]
      rw [hE]
      clear hE
      go_enter Tryz.func183, Tryz.ntmps183
      go_wp2_with (first | (go_at_call 59; refine (implBaseOk _ _).mono ?_; rintro e w' ⟨rfl, rfl⟩; rw [h2]))
      go_ret
      exact ⟨rfl, Below.refl _ _⟩
  · have h2' : Pl.baseB b = false := by simpa using h2
    have hE : Pl.underB u b = false := by simp [Pl.underB, h2']
    rw [hE]
    clear hE h2
    go_enter Tryz.func183, Tryz.ntmps183
    go_wp2_with (first | (go_at_call 59; refine (implBaseOk _ _).mono ?_; rintro e w' ⟨rfl, rfl⟩; rw [h2']))
    go_ret
    exact ⟨rfl, Below.refl _ _⟩

end Go.Proofs.YtgkkoegfmhgcjaaGreatDoor

namespace Go.Proofs.YtgkkoegfmhgcjaaGreatDoor
open Go.RowKit Go.Shelf

attribute [local go_sem] Oper.semAt_some

/-- What has come: the places from 0 on, in their order. -/
def Upto (pre : List Nat) : Prop := pre = List.range pre.length
theorem Upto.last {pre : List Nat} {x : Nat} (h : Upto (pre ++ [x])) : x = pre.length ∧ Upto pre := by
  unfold Upto at h ⊢
  rw [List.length_append, List.length_singleton, List.range_succ] at h
  have := List.append_inj' h rfl
  exact ⟨by simpa using this.2, this.1⟩
theorem upto_range (n : Nat) : Upto (List.range n) := by unfold Upto; rw [List.length_range]
theorem upto_snoc (n : Nat) : Upto (List.range n ++ [n]) := by rw [← List.range_succ]; exact upto_range _

/-- The digit at a place with the rest that it leaves. -/
def digRest (k v y : Nat) (j : Nat) : Array Value := #[.int .i64 ((Pl.digitN k v y j : Nat) : Int), .int .i64 ((Pl.restN k v y (j + 1) : Nat) : Int)]

set_option maxRecDepth 100000 in
set_option maxHeartbeats 2000000 in
theorem behindPoint1 (F : Fence) (n : Nat) (h7 : F.fn 198) (hro : F.round = none) (hn : 1 ≤ n) (l N B1 : Nat) (y v k : Nat) (hv : 1 ≤ v) (hv' : v ≤ 200) (hk : k ≤ 16) (hy0 : y < v) (J Jx : List Nat → World → Prop)
    (hN : ∀ pre V, Upto pre → J pre V → pre.length < N)
    (hY : ∀ pre x V, Upto (pre ++ [x]) → J pre V → YieldAt F (n - 1) Tryz.prog l (digRest k v y x) V fun e V' =>
      (e = .returned (.bool true) ∧ J (pre ++ [x]) V' ∧ Kept B1 (B1 + 3) V V') ∨ (e = .returned (.bool false) ∧ Jx (pre ++ [x]) V'))
    (W : World) (hB0 : W.cell? ⟨B1, 0, none⟩ = some (.int .i64 y)) (hB1 : W.cell? ⟨B1 + 1, 0, none⟩ = some (.int .i64 v)) (hB2 : W.cell? ⟨B1 + 2, 0, none⟩ = some (.int .i64 k)) (h0 : J [] W) :
    CallsIn F n Tryz.prog 198 #[.func (.yield l) #[] #[], .pointer (some ⟨B1, 0, none⟩), .pointer (some ⟨B1 + 2, 0, none⟩), .pointer (some ⟨B1 + 1, 0, none⟩)] W fun e W' => (∃ v, e = .returned v) ∧ ∃ pre, Upto pre ∧ Jx pre W' := by
  refine callsIn_of_wp Tryz.func198 rfl h7 ?_ hro
  simp only [Tryz.ntmps198, List.size_toArray, List.length_cons, List.length_nil, Nat.reduceAdd, Nat.reduceSub, Array.replicate_succ, Array.replicate_zero, List.push_toArray, List.append_toArray, List.nil_append, List.cons_append]
  have HR0 : Hid (Pl.restN k v y 0 = y) := Lib.hid (Pl.restN_zero hy0)
  have HST : Hid (∀ K, Pl.restN k v y K < v ∧ Pl.restN k v y K * k ≤ 3200 ∧ Pl.restN k v y (K + 1) = Pl.restN k v y K * k % v ∧ Pl.digitN k v y K = Pl.restN k v y K * k / v) := Lib.hid fun K => rest_step k v y K hv hv' hk
  have HNN := Lib.hid hN
  have HY := Lib.hid hY
  clear hN hY
  gi_wp2
  gi_loopg [5] N (fun g rv wr => ∃ K : Nat, K + g = N ∧ rv = .int .i64 ((Pl.restN k v y K : Nat) : Int) ∧ J (List.range K) wr ∧ wr.cell? ⟨B1 + 1, 0, none⟩ = some (.int .i64 v) ∧ wr.cell? ⟨B1 + 2, 0, none⟩ = some (.int .i64 k))
  case atStart => exact ⟨0, by omega, by rw [HR0.out], h0, hB1, hB2⟩
  case round =>
    clear hB1 hB2 hB0
    obtain ⟨K, hKg, rfl, hJ, c1, c2⟩ := hrel
    have hlt := HNN.out _ _ (upto_range K) hJ
    rw [List.length_range] at hlt
    obtain ⟨s1, s2, s3, s4⟩ := HST.out K
    obtain ⟨fn, tmps, assign, body, hy, hR⟩ := HY.out (List.range K) K wr (upto_snoc K) hJ
    rw [digRest] at hy
    have hD : Pl.digitN k v y K ≤ 3200 := by rw [s4]; exact Nat.le_trans (Nat.div_le_self _ _) s2
    have HS3 := Lib.hid s3
    generalize hRR : Pl.restN k v y (K + 1) = R' at *
    have HRR := Lib.hid hRR
    clear hRR
    generalize Pl.restN k v y K = R at *
    generalize Pl.digitN k v y K = D at *
    have hne : ((v : Int) == 0) = false := by simp; omega
    have e0 : IntKind.i64.wrap ((R : Int) * (k : Int)) = ((R * k : Nat) : Int) := by rw [← Int.natCast_mul]; exact IntWalk.i64_in _ (by omega)
    have e1 : ((R * k : Nat) : Int).tdiv (v : Int) = (D : Int) := by rw [s4]; rfl
    have e2 : ((R * k : Nat) : Int).tmod (v : Int) = (R' : Int) := by rw [s3]; rfl
    have e3 : ((R * k : Nat) : Int) / (v : Int) = (D : Int) := by rw [s4]; rfl
    have e4 : ((R * k : Nat) : Int) % (v : Int) = (R' : Int) := by rw [s3]; rfl
    have hX : 0 ≤ ((R * k : Nat) : Int) := by omega
    clear s3 s4
    generalize ((R * k : Nat) : Int) = X at *
    gi_wp2
    refine hR.mono ?_
    rintro e W3 (⟨rfl, hJ3, hk3⟩ | ⟨rfl, hJx3⟩)
    · have c1' : W3.cell? ⟨B1 + 1, 0, none⟩ = some (.int .i64 v) := (hk3.cell (p := ⟨B1 + 1, 0, none⟩) (by simp) (by simp)).trans c1
      have c2' : W3.cell? ⟨B1 + 2, 0, none⟩ = some (.int .i64 k) := (hk3.cell (p := ⟨B1 + 2, 0, none⟩) (by simp) (by simp)).trans c2
      gi_wp2
      gi_roundg (N - (K + 1))
      case rel => exact ⟨K + 1, by omega, by rw [HRR.out], by rw [List.range_succ]; exact hJ3, c1', c2'⟩
      case measure => omega
    · gi_wp2
      refine bodyPost_ret (results_none rfl _ _ _) rfl ?_
      exact ⟨⟨_, rfl⟩, _, upto_snoc K, hJx3⟩

set_option maxHeartbeats 1000000 in
/-- behindPoint boxes its numbers; the function value captures the boxes. -/
theorem behindPoint0 (F : Fence) (n : Nat) (h5 : F.fn 185) (hro : F.round = none) (x u b : Int) (w : World) :
    CallsIn F n Tryz.prog 185 #[.int .i64 x, .int .i64 u, .int .i64 b] w fun e w' => e = .returned (.func (.func 198) #[] #[.pointer (some ⟨w.heap.size, 0, none⟩), .pointer (some ⟨w.heap.size + 1 + 1, 0, none⟩), .pointer (some ⟨w.heap.size + 1, 0, none⟩)]) ∧
      w' = ((w.alloc (.cells #[.int .i64 x] 3)).alloc (.cells #[.int .i64 u] 3)).alloc (.cells #[.int .i64 b] 3) := by
  refine callsIn_of_wp Tryz.func185 rfl h5 ?_ hro
  simp only [Tryz.ntmps185, List.size_toArray, List.length_cons, List.length_nil, Nat.reduceAdd, Nat.reduceSub, Array.replicate_succ, Array.replicate_zero, List.push_toArray, List.append_toArray, List.nil_append, List.cons_append]
  gi_wp2
  go_ret
  exact ⟨rfl, rfl⟩

/-- What behindPoint hands back yields the digits without end, to every loop that keeps its boxes. -/
theorem behindPoint_on (F : Fence) (n : Nat) (h7 : F.fn 198) (hro : F.round = none) (hn : 1 ≤ n) (B1 : Nat) (y v k : Nat) (hv : 1 ≤ v) (hv' : v ≤ 200) (hk : k ≤ 16) (hy0 : y < v) (w : World) (hB : B1 + 2 < w.heap.size)
    (hB0 : w.cell? ⟨B1, 0, none⟩ = some (.int .i64 y)) (hB1 : w.cell? ⟨B1 + 1, 0, none⟩ = some (.int .i64 v)) (hB2 : w.cell? ⟨B1 + 2, 0, none⟩ = some (.int .i64 k)) :
    SeqOn F n Tryz.prog 198 #[.pointer (some ⟨B1, 0, none⟩), .pointer (some ⟨B1 + 2, 0, none⟩), .pointer (some ⟨B1 + 1, 0, none⟩)] (digRest k v y) (Kept B1 (B1 + 3)) Upto w := fun l N J Jx W hW _ _ hN hY h0 =>
  behindPoint1 F n h7 hro hn l N B1 y v k hv hv' hk hy0 J Jx hN hY W ((hW.cell (p := ⟨B1, 0, none⟩) (by simp; omega)).trans hB0) ((hW.cell (p := ⟨B1 + 1, 0, none⟩) (by simp; omega)).trans hB1) ((hW.cell (p := ⟨B1 + 2, 0, none⟩) (by simp; omega)).trans hB2) h0

end Go.Proofs.YtgkkoegfmhgcjaaGreatDoor

namespace Go.Proofs.YtgkkoegfmhgcjaaGreatDoor
open Go.RowKit Go.Shelf

attribute [local go_sem] Oper.semAt_some

/-- Two boxes laid one behind the other. -/
theorem two_boxes {w w1 : World} (hb : Below w.heap.size w w1) (x y : Value) (t : TypeId) :
    ∃ W0, ((w1.alloc (.cells #[x] t)).alloc (.cells #[y] t)).drew = W0 ∧ Boxed W0 w1.heap.size t x ∧ Boxed W0 (w1.heap.size + 1) t y ∧ Below w.heap.size w W0 ∧ W0.heap.size = w1.heap.size + 2 := by
  have hs := hb.size
  refine ⟨_, rfl, (Boxed.new w1 t x).alloc _, ?_, ((hb.alloc hs _).alloc (by simp; omega) _).drew, by simp⟩
  have := Boxed.new (w1.alloc (.cells #[x] t)) t y
  rw [World.size_alloc] at this
  exact this

set_option maxRecDepth 100000 in
set_option maxHeartbeats 4000000 in
theorem periodYes (v k : Nat) (hu : Pl.underB v k = true) (hv : 1 ≤ v) (hv' : v ≤ 200) (_hk2 : 2 ≤ k) (hk : k ≤ 16) (hcop : Nat.Coprime v k) (w : World) :
    Calls Tryz.prog 184 #[.int .i64 v, .int .i64 k] w fun e W' => e = .returned (.int .i64 ((Pl.periodN k v : Nat) : Int)) ∧ Below w.heap.size w W' := by
  refine (callsIn_wide (n := 5)).1 ?_
  have h1 : 1 ≤ 5 := by omega
  obtain ⟨hper, hle, _⟩ := Pl.periodN_per (b := k) (u := v) hv hcop
  generalize Pl.periodN k v = p at *
  have HU := Lib.hid (implUnderOk v k)
  rw [hu] at HU
  have hv0 : ((v : Int) == 0) = false := by rw [beq_eq_false_iff_ne]; omega
  have hv0' : ¬ v = 0 := by omega
  have e1 : (1 : Int).tmod (v : Int) = ((1 % v : Nat) : Int) := rfl
  have e1' : (1 : Int) % (v : Int) = ((1 % v : Nat) : Int) := rfl
  have hone : 1 % v < v := Nat.mod_lt _ (by omega)
  have HREST : Hid (∀ K, Pl.restN k v (1 % v) K = k ^ K % v) := Lib.hid fun K => by
    unfold Pl.restN; rw [Nat.mul_mod]; simp
  have HPER := Lib.hid hper
  clear hper hu hcop
  generalize hONE : 1 % v = ONE at *
  have HONE := Lib.hid hONE
  clear hONE
  refine callsIn_of_wp_marks Tryz.func184 rfl trivial ?_ rfl
  simp only [Tryz.ntmps184, List.size_toArray, List.length_cons, List.length_nil, Nat.reduceAdd, Nat.reduceSub, Array.replicate_succ, Array.replicate_zero, List.push_toArray, List.append_toArray, List.nil_append, List.cons_append]
  gi_wp2_with (first | (refine ⟨trivial, ?_⟩; gi_at_call 183; refine (callsIn_wide.2 (HU.out _)).mono ?_; rintro e w1 ⟨rfl, hb1⟩))
  gi_region
  obtain ⟨W0, hW0, bA, bB, hb0, hs0⟩ := two_boxes hb1 (.int .i64 0) (.int .i64 ONE) 3
  rw [hW0]
  obtain ⟨A, B, hA, hB, hs1⟩ : ∃ A B, w1.heap.size = A ∧ w1.heap.size + 1 = B ∧ w.heap.size ≤ w1.heap.size := ⟨_, _, rfl, rfl, hb1.size⟩
  rw [hB] at bB ⊢
  rw [hA] at bA ⊢
  have hAB : A ≠ B ∧ w.heap.size ≤ A ∧ w.heap.size ≤ B ∧ A < W0.heap.size ∧ B < W0.heap.size := by omega
  clear hA hB hs0 hs1 hW0 hb1
  clear w1
  revert hAB; revert bB; revert bA; revert hb0; revert B; revert A; revert W0
  rotate_left
  obtain ⟨W0, hW0, bB, bA, hb0, hs0⟩ := two_boxes hb1 (.int .i64 ONE) (.int .i64 0) 3
  rw [hW0]
  obtain ⟨B, A, hB, hA, hs1⟩ : ∃ A B, w1.heap.size = A ∧ w1.heap.size + 1 = B ∧ w.heap.size ≤ w1.heap.size := ⟨_, _, rfl, rfl, hb1.size⟩
  rw [hA] at bA ⊢
  rw [hB] at bB ⊢
  have hAB : A ≠ B ∧ w.heap.size ≤ A ∧ w.heap.size ≤ B ∧ A < W0.heap.size ∧ B < W0.heap.size := by omega
  clear hA hB hs0 hs1 hW0 hb1
  clear w1
  revert hAB; revert bB; revert bA; revert hb0; revert B; revert A; revert W0
  rotate_left
  all_goals
    intro W0 A B hb0 bA bB hAB
    have cB := bB.cell
    gi_wp2_with (first | (refine ⟨trivial, ?_⟩; gi_at_call 185; refine (behindPoint0 Fence.wide (5 - 1) trivial rfl _ _ _ _).mono ?_; rintro e w' ⟨rfl, rfl⟩))
    obtain ⟨n0, hn0⟩ : ∃ n0, W0.heap.size = n0 := ⟨_, rfl⟩
    have d1 := (Boxed.new W0 3 (.int .i64 ONE)).cell
    have d2 := (Boxed.new (W0.alloc (.cells #[.int .i64 ONE] 3)) 3 (.int .i64 v)).cell
    have d3 := (Boxed.new ((W0.alloc (.cells #[.int .i64 ONE] 3)).alloc (.cells #[.int .i64 v] 3)) 3 (.int .i64 k)).cell
    simp only [World.size_alloc] at d2 d3
    obtain ⟨W1, hW1⟩ : ∃ W1, ((W0.alloc (.cells #[.int .i64 ONE] 3)).alloc (.cells #[.int .i64 v] 3)).alloc (.cells #[.int .i64 k] 3) = W1 := ⟨_, rfl⟩
    have f1 : W1.cell? ⟨n0, 0, none⟩ = some (.int .i64 ONE) := by rw [← hW1, ← hn0]; exact cell_alloc_l _ (cell_alloc_l _ d1)
    have f2 : W1.cell? ⟨n0 + 1, 0, none⟩ = some (.int .i64 v) := by rw [← hW1, ← hn0]; exact cell_alloc_l _ d2
    have f3 : W1.cell? ⟨n0 + 2, 0, none⟩ = some (.int .i64 k) := by rw [← hW1, ← hn0]; exact d3
    have bA1 : Boxed W1 A 3 (.int .i64 0) := by rw [← hW1]; exact ((bA.alloc _).alloc _).alloc _
    have bB1 : Boxed W1 B 3 (.int .i64 ONE) := by rw [← hW1]; exact ((bB.alloc _).alloc _).alloc _
    have hsz : W1.heap.size = n0 + 3 := by rw [← hW1, ← hn0]; simp
    have hb1 : Below w.heap.size w W1 := by
      have h0 := hb0.size
      rw [← hW1]; exact ((hb0.alloc h0 _).alloc (by simp; omega) _).alloc (by simp; omega) _
    rw [hn0, hW1]
    rw [hn0] at hAB
    clear d1 d2 d3 hW1 hn0 bA bB cB hb0
    refine wpIn_rangeFunc_on (F := Fence.wide) rfl h1 (gf := 198) (lb := #[.pointer (some ⟨n0, 0, none⟩), .pointer (some ⟨n0 + 1 + 1, 0, none⟩), .pointer (some ⟨n0 + 1, 0, none⟩)]) rfl trivial (enters_of Tryz.func198 (by kernel_rfl) rfl)
      (behindPoint_on Fence.wide (5 - 1) trivial rfl (by omega) n0 ONE v k hv hv' hk hone W1 (by omega) f1 f2 f3) Kept.trans (kept_b (by omega)) (fun _ => rfl) p
      (fun pre W => (Boxed W A 3 (.int .i64 ((pre.length : Nat) : Int)) ∧ Boxed W B 3 (.int .i64 ONE)) ∧ Below w.heap.size w W ∧ pre.length < p)
      (fun c pre W => (Boxed W A 3 (.int .i64 ((pre.length : Nat) : Int)) ∧ Boxed W B 3 (.int .i64 ONE)) ∧ Below w.heap.size w W ∧ (c = .exit 0 ∧ pre.length = p))
      (OwnFrom.and (OwnFrom.and (Own.from (boxed_own A 3 fun pre : List Nat => .int .i64 ((pre.length : Nat) : Int)) _) (Own.from (boxed_own B 3 fun _ => .int .i64 ONE) _)) (OwnFrom.and (ownFrom_below (Nat.le_refl _) (by omega)) (ownFrom_pure _ fun pre : List Nat => pre.length < p)))
      (fun c => OwnFrom.and (OwnFrom.and (Own.from (boxed_own A 3 fun pre : List Nat => .int .i64 ((pre.length : Nat) : Int)) _) (Own.from (boxed_own B 3 fun _ => .int .i64 ONE) _)) (OwnFrom.and (ownFrom_below (Nat.le_refl _) (by omega)) (ownFrom_pure _ fun pre : List Nat => c = .exit 0 ∧ pre.length = p)))
      (fun pre W _ h => h.2.2) ⟨⟨bA1, bB1⟩, hb1, HPER.out.pos⟩
      (fun j => { tmps := #[.int .i64 v, .int .i64 k, undef, undef, .int .i64 0, .pointer (some ⟨A, 0, none⟩), .pointer (some ⟨B, 0, none⟩), undef, .int .i64 ((Pl.restN k v ONE (j + 1) : Nat) : Int), .int .i64 v, .int .i64 k, .bool true, .bool false, .int .i64 v, .int .i64 ONE,
        .int .i64 ONE, .int .i64 v, .int .i64 k, .func (.func 198) #[] #[.pointer (some ⟨n0, 0, none⟩), .pointer (some ⟨n0 + 1 + 1, 0, none⟩), .pointer (some ⟨n0 + 1, 0, none⟩)],
        .int .i64 ((Pl.digitN k v ONE j : Nat) : Int), .int .i64 ((Pl.restN k v ONE (j + 1) : Nat) : Int), undef, undef, undef, undef, undef, undef], defers := [] }) ?assign ?body ?stop
    case assign =>
      intro l j W K hK
      unfold digRest
      gi_wp2
      exact hK
    case body =>
      rintro l pre j W hS ⟨⟨a1, a2⟩, hbW, hlt⟩
      obtain ⟨rfl, _⟩ := hS.last
      have ca := a1.cell
      have fa := a1.frozen
      have cb := a2.cell
      have HR := HREST.out (pre.length + 1)
      have hBA : B ≠ A := fun h => hAB.1 h.symm
      have cb2 := fun u => (a2.other hBA u).cell
      have HLEN : Hid (∀ q, (pre ++ [q]).length = pre.length + 1) := Lib.hid fun q => by simp
      have HBA := Lib.hid a1
      have HBB := Lib.hid a2
      clear a1 a2 hS
      rw [HR]
      clear HR
      by_cases hq : k ^ (pre.length + 1) % v = ONE
      · have hp : pre.length + 1 = p := by
          refine Classical.byContradiction fun hne => HPER.out.least (pre.length + 1) (by omega) (by omega) ?_
          rw [hq]; exact HONE.out.symm
        have ht : (((k ^ (pre.length + 1) % v : Nat) : Int) == (ONE : Int)) = true := by rw [hq]; simp
        have HP := Lib.hid hp
        clear hq hp
        generalize k ^ (pre.length + 1) % v = R at *
        generalize pre.length = K at *
        gi_wp2
        exact ⟨KeepsOthers.setCell _ _ _, ⟨by rw [HLEN.out]; exact HBA.out.set _, HBB.out.other hBA _⟩, hbW.setCell (p := ⟨A, 0, none⟩) (by simp; omega) _, rfl, by rw [HLEN.out]; exact HP.out⟩
      · have hp : pre.length + 1 < p := by
          refine Classical.byContradiction fun hne => hq ?_
          rw [show pre.length + 1 = p by omega, HPER.out.back, HONE.out]
        have ht : (((k ^ (pre.length + 1) % v : Nat) : Int) == (ONE : Int)) = false := by
          rw [beq_eq_false_iff_ne]; exact fun h => hq (by exact_mod_cast h)
        have HP := Lib.hid hp
        clear hq
        generalize k ^ (pre.length + 1) % v = R at *
        generalize pre.length = K at *
        gi_wp2
        exact ⟨KeepsOthers.setCell _ _ _, (Kept.refl W).setCell (p := ⟨A, 0, none⟩) (.inl (by simp; omega)) _, ⟨by rw [HLEN.out]; exact HBA.out.set _, HBB.out.other hBA _⟩, hbW.setCell (p := ⟨A, 0, none⟩) (by simp; omega) _, by rw [HLEN.out]; exact HP.out⟩
    case stop =>
      rintro D c pre W hD hSp ⟨⟨a1, a2⟩, hbW, rfl, hlen⟩ hK
      have ca := a1.cell
      gi_wp2
      refine ⟨by simp, .inl ⟨_, _, rfl, run_takeDeferred hK, ?_⟩⟩
      exact ⟨_, results_tmp rfl _ _ _, rfl, hbW.trans (belowK_b (w := w) (Nat.le_refl _) W D _ _ (by omega) hK rfl rfl)⟩

set_option maxHeartbeats 400000 in
theorem implPeriodOf (u b : Int) (w : World) :
    Calls Tryz.prog 184 #[.int .i64 u, .int .i64 b] w fun e w' => e = .returned (.int .i64 (Pl.periodI u b)) ∧ Below w.heap.size w w' := by
  by_cases h : Pl.underB u b = true
  · obtain ⟨v, k, rfl, rfl, h1, h2, h3, h4, h5⟩ := Pl.underB_nat h
    rw [Pl.periodI_yes h]
    exact periodYes v k h h1 h2 h3 h4 h5 w
  · rw [Pl.periodI_no h]
    have HU := Lib.hid (implUnderOk u b)
    rw [Bool.eq_false_iff.2 h] at HU
    clear h
    go_enter Tryz.func184, Tryz.ntmps184
    go_wp2_with (go_at_call 183; refine (HU.out _).mono ?_; rintro e w1 ⟨rfl, hb⟩)
    go_ret
    exact ⟨rfl, hb⟩

end Go.Proofs.YtgkkoegfmhgcjaaGreatDoor

namespace Go.Proofs.YtgkkoegfmhgcjaaGreatDoor
open Go.RowKit Go.Shelf

attribute [local go_sem] Oper.semAt_some

/-- The digits at the places that have come. -/
def digsAt (k v y : Nat) (pre : List Nat) : List Int := pre.map fun j => ((Pl.digitN k v y j : Nat) : Int)
theorem digsAt_len (k v y : Nat) (pre : List Nat) : (digsAt k v y pre).length = pre.length := by simp [digsAt]
theorem digsAt_snoc (k v y : Nat) (pre : List Nat) (j : Nat) : digsAt k v y (pre ++ [j]) = digsAt k v y pre ++ [((Pl.digitN k v y j : Nat) : Int)] := by simp [digsAt]

set_option maxRecDepth 100000 in
set_option maxHeartbeats 4000000 in
theorem roundYes (y v k : Nat) (hov : Pl.overB y v k = true) (w : World) :
    Calls Tryz.prog 157 #[.int .i64 y, .int .i64 v, .int .i64 k] w (ListPost w (Pl.roundP y v k)) := by
  obtain ⟨y', v', k', e1, e2, e3, h1, hv', h3, hk, h5, hu⟩ := Pl.overB_nat hov
  obtain rfl : y = y' := by omega
  obtain rfl : v = v' := by omega
  obtain rfl : k = k' := by omega
  have hv : 1 ≤ v := by omega
  refine (callsIn_wide (n := 5)).1 ?_
  have h15 : 1 ≤ 5 := by omega
  obtain ⟨hper, hle, _⟩ := Pl.periodN_per (b := k) (u := v) hv h5
  have HA : Hid (Pl.roundP y v k = digsAt k v y (List.range (Pl.periodN k v))) := Lib.hid (by
    rw [Pl.roundP_yes hov, digsAt]; simp [Pl.roundD])
  have HP := Lib.hid (implPeriodOf v k)
  rw [Pl.periodI_yes hu] at HP
  have hp1 := hper.pos
  generalize Pl.roundP (y : Int) (v : Int) (k : Int) = L at *
  generalize Pl.periodN k v = p at *
  have HU := Lib.hid (implUnderOk v k)
  rw [hu] at HU
  have i1 : ¬ (y : Int) < 0 := by omega
  have i2 : ¬ (v : Int) ≤ (y : Int) := by omega
  clear hper hu h5 hov
  obtain ⟨i0, hi0, hz0, hz1, hz2⟩ := info_parts info_int
  refine callsIn_of_wp_marks Tryz.func157 rfl trivial ?_ rfl
  simp only [Tryz.ntmps157, List.size_toArray, List.length_cons, List.length_nil, Nat.reduceAdd, Nat.reduceSub, Array.replicate_succ, Array.replicate_zero, List.push_toArray, List.append_toArray, List.nil_append, List.cons_append]
  gi_wp2_with (first | (refine ⟨trivial, ?_⟩; gi_at_call 183; refine (callsIn_wide.2 (HU.out _)).mono ?_; rintro e w1 ⟨rfl, hb1⟩) | (refine ⟨trivial, ?_⟩; gi_at_call 184; refine (callsIn_wide.2 (HP.out _)).mono ?_; rintro e w2 ⟨rfl, hb2⟩) | (refine ⟨trivial, ?_⟩; gi_at_call 185; refine (behindPoint0 Fence.wide (5 - 1) trivial rfl _ _ _ _).mono ?_; rintro e w' ⟨rfl, rfl⟩))
  obtain ⟨A, hAe⟩ : ∃ A, w2.heap.size = A := ⟨_, rfl⟩
  have hwA : w.heap.size ≤ A := by have h1 := hb1.size; have h2 := hb2.size; omega
  have hbw2 : Below w.heap.size w w2 := hb1.trans (hb2.mono hb1.size)
  have dA := Boxed.new w2 3 (.int .i64 p)
  have dB := Boxed.new (w2.alloc (.cells #[.int .i64 p] 3)) 28 (.slice none 0 0)
  have d1 := (Boxed.new ((w2.alloc (.cells #[.int .i64 p] 3)).alloc (.cells #[.slice none 0 0] 28)) 3 (.int .i64 y)).cell
  have d2 := (Boxed.new (((w2.alloc (.cells #[.int .i64 p] 3)).alloc (.cells #[.slice none 0 0] 28)).alloc (.cells #[.int .i64 y] 3)) 3 (.int .i64 v)).cell
  have d3 := (Boxed.new ((((w2.alloc (.cells #[.int .i64 p] 3)).alloc (.cells #[.slice none 0 0] 28)).alloc (.cells #[.int .i64 y] 3)).alloc (.cells #[.int .i64 v] 3)) 3 (.int .i64 k)).cell
  simp only [World.size_alloc, hAe] at dA dB d1 d2 d3
  obtain ⟨W1, hW1⟩ : ∃ W1, ((((w2.alloc (.cells #[.int .i64 p] 3)).alloc (.cells #[.slice none 0 0] 28)).alloc (.cells #[.int .i64 y] 3)).alloc (.cells #[.int .i64 v] 3)).alloc (.cells #[.int .i64 k] 3) = W1 := ⟨_, rfl⟩
  have f1 : W1.cell? ⟨A + 2, 0, none⟩ = some (.int .i64 y) := by rw [← hW1]; exact cell_alloc_l _ (cell_alloc_l _ d1)
  have f2 : W1.cell? ⟨A + 2 + 1, 0, none⟩ = some (.int .i64 v) := by rw [← hW1]; exact cell_alloc_l _ d2
  have f3 : W1.cell? ⟨A + 2 + 2, 0, none⟩ = some (.int .i64 k) := by rw [← hW1]; exact d3
  have bA1 : Boxed W1 A 3 (.int .i64 p) := by rw [← hW1]; exact (((dA.alloc _).alloc _).alloc _).alloc _
  have bB1 : Boxed W1 (A + 1) 28 (.slice none 0 0) := by rw [← hW1]; exact ((dB.alloc _).alloc _).alloc _
  have hsz : W1.heap.size = A + 5 := by rw [← hW1]; simp [hAe]
  have hbW1 : Below w.heap.size w W1 := by
    rw [← hW1]
    have h0 : w.heap.size ≤ w2.heap.size := by omega
    exact ((((hbw2.alloc h0 _).alloc (by simp; omega) _).alloc (by simp; omega) _).alloc (by simp; omega) _).alloc (by simp; omega) _
  rw [hAe, hW1]
  clear d1 d2 d3 dA dB hW1 hAe hbw2 hb1 hb2
  refine wpIn_rangeFunc_on (F := Fence.wide) rfl h15 (gf := 198) (lb := #[.pointer (some ⟨A + 1 + 1, 0, none⟩), .pointer (some ⟨A + 1 + 1 + 1 + 1, 0, none⟩), .pointer (some ⟨A + 1 + 1 + 1, 0, none⟩)]) rfl trivial (enters_of Tryz.func198 (by kernel_rfl) rfl)
    (behindPoint_on Fence.wide (5 - 1) trivial rfl (by omega) (A + 2) y v k hv hv' hk h1 W1 (by omega) f1 f2 f3) Kept.trans (kept_b (by omega)) (fun _ => rfl) p
    (fun pre W => ((∃ u, Boxed W (A + 1) 28 u ∧ W.ownsRow (A + 5) 3 1 u pre.length ((digsAt k v y pre).map (Value.int .i64)) ∧ True) ∧ Boxed W A 3 (.int .i64 p)) ∧ Below w.heap.size w W ∧ (A + 5 ≤ W.heap.size ∧ pre.length < p))
    (fun c pre W => ((∃ u, Boxed W (A + 1) 28 u ∧ W.ownsRow (A + 5) 3 1 u pre.length ((digsAt k v y pre).map (Value.int .i64)) ∧ True) ∧ Boxed W A 3 (.int .i64 p)) ∧ Below w.heap.size w W ∧ (c = .exit 0 ∧ pre.length = p))
    (OwnFrom.and (OwnFrom.and (Own.from (holdsRow_own (A + 5) (A + 1) 28 3 1 (fun pre : List Nat => pre.length) (fun pre => (digsAt k v y pre).map (Value.int .i64)) (fun _ _ => True)) _) (Own.from (boxed_own A 3 fun _ : List Nat => .int .i64 p) _)) (OwnFrom.and (ownFrom_below (Nat.le_refl _) (by omega)) (fun _ X Y row hs hg _ => ⟨Nat.le_trans hs.1 hg.size, hs.2⟩)))
    (fun c => OwnFrom.and (OwnFrom.and (Own.from (holdsRow_own (A + 5) (A + 1) 28 3 1 (fun pre : List Nat => pre.length) (fun pre => (digsAt k v y pre).map (Value.int .i64)) (fun _ _ => True)) _) (Own.from (boxed_own A 3 fun _ : List Nat => .int .i64 p) _)) (OwnFrom.and (ownFrom_below (Nat.le_refl _) (by omega)) (ownFrom_pure _ fun pre : List Nat => c = .exit 0 ∧ pre.length = p)))
    (fun pre W _ h => h.2.2.2) ⟨⟨⟨_, bB1, World.ownsRow_nil _ _ _ _, trivial⟩, bA1⟩, hbW1, by omega, hp1⟩
    (fun j => { tmps := #[.int .i64 y, .int .i64 v, .int .i64 k, undef, undef, undef, .slice none 0 0, .pointer (some ⟨A, 0, none⟩), .pointer (some ⟨A + 1, 0, none⟩), .int .i64 ((Pl.digitN k v y j : Nat) : Int), .int .i64 v, .int .i64 k, .bool true, .bool false, .bool false, .int .i64 y,
        .bool (decide ((y : Int) < 0)), .bool (decide ((y : Int) < 0)), .bool (decide ((y : Int) < 0)), .int .i64 y, .int .i64 v, .bool false, .bool (decide ((y : Int) < 0)), .int .i64 v, .int .i64 k, .int .i64 p, .int .i64 y, .int .i64 v, .int .i64 k,
        .func (.func 198) #[] #[.pointer (some ⟨A + 1 + 1, 0, none⟩), .pointer (some ⟨A + 1 + 1 + 1 + 1, 0, none⟩), .pointer (some ⟨A + 1 + 1 + 1, 0, none⟩)],
        .int .i64 ((Pl.digitN k v y j : Nat) : Int), .int .i64 ((Pl.restN k v y (j + 1) : Nat) : Int), undef, undef, undef, undef, undef, undef, undef, undef, undef], defers := [] }) ?assign ?body ?stop
  case assign =>
    intro l j W K hK
    unfold digRest
    gi_wp2
    exact hK
  case body =>
    rintro l pre j W hS ⟨⟨⟨u, hv1, hrow, _⟩, ha⟩, hbW, hbs, hlt⟩
    obtain ⟨rfl, _⟩ := hS.last
    have hc := hv1.cell
    have HSN := Lib.hid (digsAt_snoc k v y pre pre.length)
    have HA1 := Lib.hid ha
    have HLEN : Hid (∀ q, (pre ++ [q]).length = pre.length + 1) := Lib.hid fun q => by simp
    clear hS ha
    generalize Pl.restN k v y (pre.length + 1) = R at *
    generalize Pl.digitN k v y pre.length = D at *
    generalize digsAt k v y pre = X at *
    generalize pre.length = K at *
    by_cases hq : K + 1 = p
    · have ht : (((K + 1 : Nat) : Int) == (p : Int)) = true := by rw [hq]; simp
      have ht' : ((K : Int) + 1 == (p : Int)) = true := by simp; omega
      have HQ := Lib.hid hq
      clear hq
      gi_wp2_with (gi_at_builtin; refine wpListIn_append_own _ rfl _ _ 28 rfl (A + 5) 3 i0 (.int .i64 0) 1 8 Tryz.underlying28 hi0 hz0 hz1 hz2 rfl (by decide) _ _ _ rfl (hrow.alloc _) ⟨W.heap.size, 0, none⟩ 1 1 [.int .i64 (D : Int)] rfl rfl (cell_one_new _ _ _) (by simp [Value.oneCell']) (by unfold maxLen; omega) (by omega) (by simp; omega) ?_; intro v' w1 hown' hgrow _; obtain ⟨g', cap', rfl⟩ := ownsRow_succ hown'; obtain ⟨hv3, hv2, hr2, hk2, hb2, hp2⟩ := appended' hv1 (by decide) hrow (by omega) (by omega) hown' hgrow; have hc1 := hv3.cell; have hf1 := hv3.frozen; have hc2 := hv2.cell; have hA2 := Lib.hid (show Boxed _ A 3 (.int .i64 p) from (hb2.block A (by omega)).trans HA1.out); have ha2 := hA2.out.cell; have hs2 := hk2.size)
      exact ⟨hk2, ⟨⟨_, hv2, by rw [HLEN.out, HSN.out]; simpa using hr2, trivial⟩, hA2.out⟩, hbW.trans (hb2.mono (by omega)), rfl, by rw [HLEN.out]; exact HQ.out⟩
    · have ht : (((K + 1 : Nat) : Int) == (p : Int)) = false := by rw [beq_eq_false_iff_ne]; omega
      have ht' : ((K : Int) + 1 == (p : Int)) = false := by rw [beq_eq_false_iff_ne]; omega
      have hq' : K + 1 < p := by omega
      clear hq
      gi_wp2_with (gi_at_builtin; refine wpListIn_append_own _ rfl _ _ 28 rfl (A + 5) 3 i0 (.int .i64 0) 1 8 Tryz.underlying28 hi0 hz0 hz1 hz2 rfl (by decide) _ _ _ rfl (hrow.alloc _) ⟨W.heap.size, 0, none⟩ 1 1 [.int .i64 (D : Int)] rfl rfl (cell_one_new _ _ _) (by simp [Value.oneCell']) (by unfold maxLen; omega) (by omega) (by simp; omega) ?_; intro v' w1 hown' hgrow _; obtain ⟨g', cap', rfl⟩ := ownsRow_succ hown'; obtain ⟨hv3, hv2, hr2, hk2, hb2, hp2⟩ := appended' hv1 (by decide) hrow (by omega) (by omega) hown' hgrow; have hc1 := hv3.cell; have hf1 := hv3.frozen; have hc2 := hv2.cell; have hA2 := Lib.hid (show Boxed _ A 3 (.int .i64 p) from (hb2.block A (by omega)).trans HA1.out); have ha2 := hA2.out.cell; have hs2 := hk2.size)
      exact ⟨hk2, hp2, ⟨⟨_, hv2, by rw [HLEN.out, HSN.out]; simpa using hr2, trivial⟩, hA2.out⟩, hbW.trans (hb2.mono (by omega)), by omega, by rw [HLEN.out]; exact hq'⟩
  case stop =>
    rintro D c pre W hD hSp ⟨⟨⟨u, hv1, hrow, _⟩, _⟩, hbW, rfl, hlen⟩ hK
    have hc := hv1.cell
    have hL : digsAt k v y pre = L := by
      have e : pre = List.range p := by unfold Upto at hSp; rw [hlen] at hSp; exact hSp
      rw [e, HA.out]
    rw [hL] at hrow
    have hLl : pre.length = L.length := by rw [← hL, digsAt_len]
    rw [hLl] at hrow
    have hr0 : Row (A + 5) W u L := hrow
    have hr : Row w.heap.size W u L := hr0.mono (by omega)
    obtain ⟨a', cap', rfl⟩ := hr.shape
    clear hrow hv1 hr0
    gi_wp2
    refine ⟨by simp, .inl ⟨_, _, rfl, run_takeDeferred hK, ?_⟩⟩
    exact ⟨_, results_tmp rfl _ _ _, .slice a' L.length cap', rfl, ownsRow_putObj hr _ hK rfl, hbW.trans (belowK_b (w := w) (Nat.le_refl _) W D _ _ (by omega) hK rfl rfl)⟩

set_option maxHeartbeats 400000 in
theorem implRoundOf8 (x u b : Int) (w : World) :
    Calls Tryz.prog 157 #[.int .i64 x, .int .i64 u, .int .i64 b] w (ListPost w (Pl.roundP x u b)) := by
  by_cases h : Pl.overB x u b = true
  · obtain ⟨y, v, k, rfl, rfl, rfl, _⟩ := Pl.overB_nat h
    exact roundYes y v k h w
  · rw [Pl.roundP_no h]
    have HU := Lib.hid (implUnderOk u b)
    by_cases hu : Pl.underB u b = true
    · rw [hu] at HU
      by_cases h0 : x < 0
      · clear h hu
        go_enter Tryz.func157, Tryz.ntmps157
        go_wp2_with (go_at_call 183; refine (HU.out _).mono ?_; rintro e w1 ⟨rfl, hb⟩)
        go_ret
        exact ⟨_, rfl, World.ownsRow_nil _ _ _ _, hb⟩
      · have h1 : u ≤ x := by
          refine Classical.byContradiction fun hh => h ?_
          rw [Pl.overB, hu]; simp; omega
        clear h hu
        go_enter Tryz.func157, Tryz.ntmps157
        go_wp2_with (go_at_call 183; refine (HU.out _).mono ?_; rintro e w1 ⟨rfl, hb⟩)
        go_ret
        exact ⟨_, rfl, World.ownsRow_nil _ _ _ _, hb⟩
    · rw [Bool.eq_false_iff.2 hu] at HU
      clear h hu
      go_enter Tryz.func157, Tryz.ntmps157
      go_wp2_with (go_at_call 183; refine (HU.out _).mono ?_; rintro e w1 ⟨rfl, hb⟩)
      go_ret
      exact ⟨_, rfl, World.ownsRow_nil _ _ _ _, hb⟩

theorem implRoundI (x u b : Int) (w : World) :
    Calls Tryz.prog 157 #[.int .i64 x, .int .i64 u, .int .i64 b] w fun e w' => ∃ v, e = .returned v ∧ Ints w' v (Pl.roundP x u b) ∧ Below w.heap.size w w' :=
  (implRoundOf8 x u b w).mono fun _ _ ⟨v, h1, h2, h3⟩ => ⟨v, h1, h2.ints, h3⟩

end Go.Proofs.YtgkkoegfmhgcjaaGreatDoor
