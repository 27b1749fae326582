/-
  impl.OwnSum and what it calls: the rules as function values in a table (timesItself, productUpTo, two function literals), sumBy by the range over function, ownTold; impl.OwnOk: what they answer.
-/
import Derived.Test.YtcigepkjnnknlaaDigitsOf
import Derived.Test.YtcigepkjnnknlaaMathOwn
import Derived.Test.YtcigepkjnnknlaaCalm
import Derived.Shelf.AbstractIn
import Derived.Laws.EntriesVeiled
import Derived.Laws.Rows
namespace Go.Proofs.Ytcigepkjnnknlaa
open Go.RowKit Go.Shelf

attribute [local go_sem] Oper.semAt_some

set_option maxHeartbeats 1000000 in
theorem timesItself (d t : Nat) (hd : d < 16) (ht : t ≤ 15) (w : World) :
    Calls Try.prog 43 #[.int .i64 d, .int .i64 t] w fun e w' => e = .returned (.int .i64 ((d ^ t : Nat) : Int)) ∧ w = w' := by
  obtain ⟨R, hR⟩ : ∃ R, d ^ t = R := ⟨_, rfl⟩
  rw [hR]
  have HR := Lib.hid hR
  clear hR
  go_enter Try.func43, Try.ntmps43
  go_wp2
  go_loop [5, 7] (fun p i => ∃ P I : Nat, I ≤ t ∧ P ≤ 437893890380859375 ∧ P = d ^ I ∧ p = .int .i64 P ∧ i = .int .i64 I) (fun _ i => t - (intOf i).toNat)
  case atStart => exact ⟨1, 0, by omega, by omega, by simp, rfl, rfl⟩
  case round =>
    obtain ⟨P, I, hI, hP, hPe, rfl, rfl⟩ := hrel
    by_cases hlt : I < t
    · have hq : P * d = d ^ (I + 1) := by rw [hPe, Nat.pow_succ]
      have hq2 : P * d ≤ 437893890380859375 := by rw [hq]; exact Pl.pow_le15 hd (by omega)
      have HQ := Lib.hid hq
      have e : IntKind.i64.wrap ((P : Int) * (d : Int)) = ((P * d : Nat) : Int) := by
        rw [← Int.natCast_mul]; exact IntWalk.i64_in _ (by omega)
      have hi : (I : Int) < (t : Int) := by omega
      clear hq hPe
      generalize P * d = Q at *
      go_wp2
      go_round
      case rel => exact ⟨Q, I + 1, by omega, hq2, HQ.out, rfl, by simp⟩
      case measure => simp [intOf]; omega
    · obtain rfl : I = t := by omega
      have HP := Lib.hid hPe
      clear hPe
      go_wp2
      go_ret
      exact ⟨ret_int (by rw [HP.out, HR.out]), rfl⟩

set_option maxHeartbeats 1000000 in
theorem productUpTo (d : Nat) (hd : d < 16) (w : World) :
    Calls Try.prog 45 #[.int .i64 d] w fun e w' => e = .returned (.int .i64 ((Pl.factN d : Nat) : Int)) ∧ w = w' := by
  go_enter Try.func45, Try.ntmps45
  go_wp2
  go_loop [3, 4] (fun p i => ∃ P I : Nat, 1 ≤ I ∧ (I ≤ d ∨ I = 1) ∧ P ≤ 1307674368000 ∧ P = Pl.factN I ∧ p = .int .i64 P ∧ i = .int .i64 ((I : Int) + 1)) (fun _ i => d + 1 - (intOf i).toNat)
  case atStart => exact ⟨1, 1, by omega, by omega, by omega, rfl, rfl, rfl⟩
  case round =>
    obtain ⟨P, I, hI1, hI, hP, hPe, rfl, rfl⟩ := hrel
    by_cases hlt : I + 1 ≤ d
    · have hq : P * (I + 1) = Pl.factN (I + 1) := by rw [hPe, Pl.factN]
      have hq2 : P * (I + 1) ≤ 1307674368000 := by rw [hq]; exact Pl.fact_le (by omega)
      have HQ := Lib.hid hq
      have e : IntKind.i64.wrap ((P : Int) * ((I : Int) + 1)) = ((P * (I + 1) : Nat) : Int) := by
        rw [show ((I : Int) + 1) = ((I + 1 : Nat) : Int) from rfl, ← Int.natCast_mul]; exact IntWalk.i64_in _ (by omega)
      have hi : (I : Int) + 1 ≤ (d : Int) := by omega
      clear hq hPe
      generalize P * (I + 1) = Q at *
      go_wp2
      go_round
      case rel => exact ⟨Q, I + 1, by omega, by omega, hq2, HQ.out, rfl, by simp⟩
      case measure => simp [intOf]; omega
    · have hv : Pl.factN d = P := by
        rw [hPe]
        rcases hI with hI | rfl
        · rw [show d = I by omega]
        · rcases (show d = 0 ∨ d = 1 by omega) with rfl | rfl <;> rfl
      have HP := Lib.hid hv
      have hi : ¬ (I : Int) + 1 ≤ (d : Int) := by omega
      clear hPe hv
      go_wp2
      go_ret
      exact ⟨ret_int (by rw [HP.out]), rfl⟩

/-- What the function value of a rule answers. -/
def RuleAt (r g : Nat) : Prop := ∀ (d L : Nat) (W : World), d < 16 → L ≤ 15 → Calls Try.prog g #[.int .i64 d, .int .i64 L] W fun e W' => e = .returned (.int .i64 ((Pl.addR r d L : Nat) : Int)) ∧ W = W'

theorem ruleAt0 : RuleAt 0 43 := fun d L W hd hL => timesItself d L hd hL W

set_option maxHeartbeats 400000 in
theorem ruleAt1 : RuleAt 1 44 := fun d L W hd hL => by
  rw [Pl.addR_1]
  go_enter Try.func44, Try.ntmps44
  go_wp2_with fail
  refine (productUpTo d hd _).mono ?_
  rintro e w' ⟨rfl, rfl⟩
  go_wp2
  go_ret
  exact ⟨rfl, rfl⟩

set_option maxHeartbeats 400000 in
theorem ruleAt2 : RuleAt 2 46 := fun d L W hd hL => by
  rw [Pl.addR_2]
  go_enter Try.func46, Try.ntmps46
  go_wp2_with fail
  refine (timesItself d d hd (by omega) _).mono ?_
  rintro e w' ⟨rfl, rfl⟩
  go_wp2
  go_ret
  exact ⟨rfl, rfl⟩

set_option maxHeartbeats 400000 in
theorem ownRules (w : World) :
    Calls Try.prog 34 #[] w fun e w' => e = .returned (.agg #[.func (.func 43) #[] #[], .func (.func 44) #[] #[], .func (.func 46) #[] #[]]) ∧ Below w.heap.size w w' := by
  go_enter Try.func34, Try.ntmps34
  go_wp2
  refine bodyPost_ret (results_cell_row rfl _ _ w.heap.size 40 _ (0, 0) _ rfl (heap_alloc_new _ _) Try.underlying40 rfl (by kernel_rfl)) rfl ?_
  exact ⟨rfl, (Below.refl _ w).alloc (Nat.le_refl _) _⟩

/-- What is left of a walk once it is walked by several ways: proved once. -/
structure Kept1 (p : Prop) : Prop where
  out : p
theorem share {P Q : Prop} (h : Kept1 P → Q) (p : P) : Q := h ⟨p⟩

/-- The sum by a rule of what has come. -/
def ruleDg (r L : Nat) (l : List Pl.Dg) : Nat := (l.map fun d => Pl.addR r d.1 L).sum
theorem ruleDg_snoc (r L : Nat) (l : List Pl.Dg) (d : Pl.Dg) : ruleDg r L (l ++ [d]) = ruleDg r L l + Pl.addR r d.1 L := by simp [ruleDg]
theorem ruleDg_le {r L : Nat} (hL : L ≤ 15) (l : List Pl.Dg) : ruleDg r L l ≤ l.length * 437893890380859375 := by
  have := Pl.sum_le_mul (B := 437893890380859375) (l.map fun d : Pl.Dg => Pl.addR r d.1 L) (fun x hx => by
    obtain ⟨d, _, rfl⟩ := List.mem_map.1 hx
    exact Pl.addR_le d.2 hL)
  rwa [List.length_map] at this
theorem ruleDg_all {r b x : Nat} (hb : 2 ≤ b) (hb' : b ≤ 16) : ruleDg r (Pl.digsR b x).length (Pl.digsF b x) = Pl.ownN r b x := by
  unfold ruleDg Pl.ownN
  conv => rhs; rw [← Pl.digsF_val (n := x) hb hb', List.map_map]
  rw [List.length_map, Pl.digsF_len]; rfl

set_option maxRecDepth 100000 in
set_option maxHeartbeats 4000000 in
theorem sumBy (r g : Nat) (he : Enters Try.prog g) (hg : RuleAt r g) (x b : Nat) (hb : 2 ≤ b) (hb' : b ≤ 16) (hx : x ≤ 2000) (w : World) :
    Calls Try.prog 33 #[.int .i64 x, .func (.func g) #[] #[], .int .i64 b] w fun e W' => e = .returned (.int .i64 (Pl.ownN r b x)) ∧ Below w.heap.size w W' := by
  refine (callsIn_wide (n := 5)).1 ?_
  have h1 : 1 ≤ 5 := by omega
  have hok : Pl.okB x b = true := by rw [Pl.okB_iff]; omega
  have hN := Pl.len11 (b := b) hb hx
  have HL : Hid (longI x b = ((Pl.digsR b x).length : Int)) := Lib.hid (longI_nat x b hok)
  have HA : Hid (ruleDg r (Pl.digsR b x).length (Pl.digsF b x) = Pl.ownN r b x) := Lib.hid (ruleDg_all hb hb')
  have hdl := Pl.digsF_len b x
  generalize hLn : (Pl.digsR b x).length = L at *
  refine callsIn_of_wp_marks Try.func33 rfl trivial ?_ rfl
  simp only [Try.ntmps33, List.size_toArray, List.length_cons, List.length_nil, Nat.reduceAdd, Nat.reduceSub, Array.replicate_succ, Array.replicate_zero, List.push_toArray, List.append_toArray, List.nil_append, List.cons_append]
  gi_wp2_with (refine ⟨trivial, ?_⟩; gi_at_call 15; refine (callsIn_wide.2 (implLongOf _ _ _)).mono ?_; rintro e w1 ⟨rfl, hb1⟩)
  rw [HL.out]
  have hbA : Below w.heap.size w (w.alloc (.cells #[.func (.func g) #[] #[]] 39)) := (Below.refl _ w).alloc (Nat.le_refl _) _
  have cA : (w.alloc (.cells #[.func (.func g) #[] #[]] 39)).cell? ⟨w.heap.size, 0, none⟩ = some (.func (.func g) #[] #[]) := (cell_new_l w _ _).1
  have zA : w.heap.size < (w.alloc (.cells #[.func (.func g) #[] #[]] 39)).heap.size := by simp
  generalize (w.alloc (.cells #[.func (.func g) #[] #[]] 39)) = wA at *
  have c1 := Below.cell (p := ⟨w.heap.size, 0, none⟩) hb1 zA cA
  have hB1 : Below w.heap.size w w1 := hbA.trans (hb1.mono (Nat.le_of_lt zA))
  have z1 : w.heap.size < w1.heap.size := Nat.lt_of_lt_of_le zA hb1.size
  clear hbA cA zA hb1
  gi_wp2_with (refine ⟨trivial, ?_⟩; gi_at_call 42; refine (lastFirst Fence.wide (5 - 1) trivial rfl _ _ _).mono ?_; rintro e w' ⟨rfl, rfl⟩)
  obtain ⟨W0, hW0⟩ : ∃ W0, ((((w1.alloc (.cells #[.int .i64 L] 3)).alloc (.cells #[.int .i64 0] 3)).alloc (.cells #[.int .i64 x] 3)).alloc (.cells #[.int .i64 b] 3)) = W0 := ⟨_, rfl⟩
  have hsz : W0.heap.size = w1.heap.size + 4 := by rw [← hW0]; simp
  have hB0 : Below w.heap.size w W0 := by rw [← hW0]; exact (((hB1.alloc (by omega) _).alloc (by simp; omega) _).alloc (by simp; omega) _).alloc (by simp; omega) _
  have dA : W0.cell? ⟨w.heap.size, 0, none⟩ = some (.func (.func g) #[] #[]) := by
    rw [← hW0]
    exact cell_alloc_l _ (cell_alloc_l _ (cell_alloc_l _ (cell_alloc_l _ c1)))
  have d0 : W0.cell? ⟨w1.heap.size, 0, none⟩ = some (.int .i64 L) := by
    rw [← hW0]
    exact cell_alloc_l _ (cell_alloc_l _ (cell_alloc_l _ (by rw [World.cell?_alloc_new]; rfl)))
  have d1 : W0.cell? ⟨w1.heap.size + 1, 0, none⟩ = some (.int .i64 0) ∧ W0.frozen? ⟨w1.heap.size + 1, 0, none⟩ = false := by
    rw [← hW0]
    have c := cell_new_l (w1.alloc (.cells #[.int .i64 L] 3)) (.int .i64 0) 3
    simp only [World.size_alloc] at c
    exact ⟨cell_alloc_l _ (cell_alloc_l _ c.1), frozen_alloc_l _ (cell_alloc_l _ c.1) (frozen_alloc_l _ c.1 c.2)⟩
  have d2 : W0.cell? ⟨w1.heap.size + 1 + 1, 0, none⟩ = some (.int .i64 x) := by
    rw [← hW0]
    have c := cell_new_l ((w1.alloc (.cells #[.int .i64 L] 3)).alloc (.cells #[.int .i64 0] 3)) (.int .i64 x) 3
    simp only [World.size_alloc] at c
    exact cell_alloc_l _ c.1
  have d3 : W0.cell? ⟨w1.heap.size + 1 + 1 + 1, 0, none⟩ = some (.int .i64 b) := by
    rw [← hW0]
    have c := cell_new_l (((w1.alloc (.cells #[.int .i64 L] 3)).alloc (.cells #[.int .i64 0] 3)).alloc (.cells #[.int .i64 x] 3)) (.int .i64 b) 3
    simp only [World.size_alloc] at c
    exact c.1
  rw [hW0]
  clear hW0 c1 hB1
  have HSZ := Lib.hid hsz
  have hsz' : w1.heap.size + 4 ≤ W0.heap.size := by omega
  clear hsz
  refine wpIn_rangeFunc_ownF (F := Fence.wide) rfl h1 (gf := 51) (lb := #[.pointer (some ⟨w1.heap.size + 1 + 1, 0, none⟩), .pointer (some ⟨w1.heap.size + 1 + 1 + 1, 0, none⟩)]) rfl trivial (enters_of Try.func51 (by kernel_rfl) rfl)
    (lastFirst_stops Fence.wide (5 - 1) trivial rfl (by omega) (w1.heap.size + 1 + 1) x b hb hb' (by omega) W0 (by omega) d2 d3) Kept.trans (kept_b (by omega)) (Below.refl _ _) (fun _ => rfl)
    (fun pre W => (W.cell? ⟨w1.heap.size + 1, 0, none⟩ = some (.int .i64 (ruleDg r L pre)) ∧ W.frozen? ⟨w1.heap.size + 1, 0, none⟩ = false ∧ W.cell? ⟨w1.heap.size, 0, none⟩ = some (.int .i64 L) ∧ W.cell? ⟨w.heap.size, 0, none⟩ = some (.func (.func g) #[] #[])) ∧ Below w.heap.size w W)
    (fun _ _ _ => False)
    (OwnFrom.and (Own.from (fun s A B row hs hg hr => ⟨cell_kept hs.1 hg hr, (frozen_kept hs.1 hg hr).trans hs.2.1, cell_kept hs.2.2.1 hg hr, cell_kept hs.2.2.2 hg hr⟩) _) (ownFrom_below (Nat.le_refl _) (by omega)))
    (fun _ _ _ _ _ hs _ _ => hs)
    ⟨⟨d1.1, d1.2, d0, dA⟩, hB0⟩
    (fun d => { tmps := #[.int .i64 x, .func (.func g) #[] #[], .int .i64 b, undef, .pointer (some ⟨w.heap.size, 0, none⟩), undef, .int .i64 0, .pointer (some ⟨w1.heap.size, 0, none⟩), .pointer (some ⟨w1.heap.size + 1, 0, none⟩), .int .i64 (d.1 : Int), .int .i64 x, .int .i64 b, .int .i64 L, .int .i64 x, .int .i64 b,
      .func (.func 51) #[] #[.pointer (some ⟨w1.heap.size + 1 + 1, 0, none⟩), .pointer (some ⟨w1.heap.size + 1 + 1 + 1, 0, none⟩)], .int .i64 (d.1 : Int), undef, undef, undef, undef, undef, undef, undef], defers := [] }) ?assign ?body ?done ?stop
  case assign =>
    intro l d W K hK
    gi_wp2
    exact hK
  case body =>
    rintro l pre d W ⟨⟨hc, hf, hL, hA⟩, hB⟩ hlen
    have hd := d.2
    have hsum := ruleDg_le (r := r) (L := L) (by omega) pre
    have hadd := Pl.addR_le (r := r) (d := d.1) (L := L) hd (by omega)
    have hmx : Try.prog.follows .mixedOrders = true := by kernel_rfl
    have hdd : 1 ≤ 5 - 1 - 1 := by omega
    have hent : ∀ (args : Array Value) (W : World), (callFunc g args).run Try.prog W = .ok (.enter g args) W := he
    have HG := Lib.hid (fun W => hg d.1 L W hd (by omega))
    have hlen2 : pre.length ≤ 10 := by omega
    have hpl : ruleDg r L pre ≤ 4378938903808593750 := by omega
    have HS := Lib.hid (ruleDg_snoc r L pre d)
    clear hsum hlen
    generalize hR1 : ruleDg r L pre = S at *
    generalize hR2 : Pl.addR r d.1 L = A at *
    gi_wp2
    have HB := Lib.hid hB
    have HP := Lib.hid (And.intro hpl hadd)
    have HZ := Lib.hid z1
    clear d2 d3 dA d0 d1 hB0 hok hLn hdl HL HA hsz' HSZ hg he hx hb hb' hN hlen2 hd hB hpl hadd hR1 hR2 h1 z1
    apply share
    case h =>
     intro hKey
     gi_region_with_o (first | (gi_at_fn g; refine (CallsIn.inRound l (callsIn_wide.2 (HG.out _))).mono ?_; rintro e w' ⟨rfl, rfl⟩) | (refine ⟨trivial, ?_⟩; gi_at_fn g; refine (CallsIn.inRound l (callsIn_wide.2 (HG.out _))).mono ?_; rintro e w' ⟨rfl, rfl⟩) | refine ⟨trivial, ?_⟩)
     all_goals exact hKey.out
    case p =>
      have hB := HB.out
      have hpl := HP.out.1
      have hadd := HP.out.2
      have z1 := HZ.out
      rw [show IntKind.i64.wrap ((S : Int) + (A : Int)) = ((S + A : Nat) : Int) by rw [← Int.natCast_add]; exact IntWalk.i64_in _ (by omega)]
      have HS' := HS.out
      generalize S + A = Z at *
      gi_wp2
      exact ⟨(KeepsOthers.setCell _ _ _).trans (KeepsOthers.drew _), ((Kept.refl W).setCell (p := ⟨w1.heap.size + 1, 0, none⟩) (.inl (by simp)) _).drew,
        ⟨by rw [HS', cell_drew_own]; exact World.cell?_setCell_same' _ _ _ (by rw [hc]; rfl), by rw [frozen_drew_own, World.frozen?_setCell]; exact hf, by rw [cell_drew_own, World.cell?_setCell_other _ _ _ _ (by simp)]; exact hL,
          by rw [cell_drew_own, World.cell?_setCell_other _ _ _ _ (by simp)]; exact hA⟩, (hB.setCell (p := ⟨w1.heap.size + 1, 0, none⟩) (by simp; omega) _).drew⟩
  case done =>
    rintro D ys W hD rfl ⟨⟨hc, _⟩, hB⟩ hK
    rw [HA.out] at hc
    gi_wp2
    refine ⟨by simp, .inl ⟨_, _, rfl, run_takeDeferred hK, ?_⟩⟩
    exact ⟨_, results_tmp rfl _ _ _, rfl, hB.trans (belowK_b (w := w) (Nat.le_refl _) W D _ _ (by omega) hK rfl rfl)⟩
  case stop =>
    rintro D c pre W _ _ h _
    exact h.elim

end Go.Proofs.Ytcigepkjnnknlaa
