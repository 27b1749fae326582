/-
  impl.behindPoint: the digits behind the point with the rests that they leave, without end.
-/
import Derived.Sort.LoopGhostIn
import Derived.Test.YtnogcoijlnnbdaaEndless
import Derived.Test.YtnogcoijlnnbdaaSpecPeriod
import Derived.Test.YtnogcoijlnnbdaaSumOf
namespace Go.Proofs.Ytnogcoijlnnbdaa
open Go.RowKit Go.Shelf

attribute [local go_sem] Oper.semAt_some

/-- What has come: the places from 0 on, in their order. -/
def Upto (pre : List Nat) : Prop := pre = List.range pre.length
theorem Upto.last {pre : List Nat} {x : Nat} (h : Upto (pre ++ [x])) : x = pre.length ∧ Upto pre := by
  unfold Upto at h ⊢
  rw [List.length_append, List.length_singleton, List.range_succ] at h
  have := List.append_inj' h rfl
  exact ⟨by simpa using this.2, this.1⟩
theorem upto_range (n : Nat) : Upto (List.range n) := by unfold Upto; rw [List.length_range]
theorem upto_snoc (n : Nat) : Upto (List.range n ++ [n]) := by rw [← List.range_succ]; exact upto_range _

/-- The digit at a place with the rest that it leaves. -/
def digRest (k v y : Nat) (j : Nat) : Array Value := #[.int .i64 ((Pl.digitN k v y j : Nat) : Int), .int .i64 ((Pl.restN k v y (j + 1) : Nat) : Int)]

set_option maxRecDepth 100000 in
set_option maxHeartbeats 2000000 in
theorem behindPoint1 (F : Fence) (n : Nat) (h7 : F.fn 52) (hro : F.round = none) (hn : 1 ≤ n) (l N B1 : Nat) (y v k : Nat) (hv : 1 ≤ v) (hv' : v ≤ 200) (hk : k ≤ 16) (hy0 : y < v) (J Jx : List Nat → World → Prop)
    (hN : ∀ pre V, Upto pre → J pre V → pre.length < N)
    (hY : ∀ pre x V, Upto (pre ++ [x]) → J pre V → YieldAt F (n - 1) Try.prog l (digRest k v y x) V fun e V' =>
      (e = .returned (.bool true) ∧ J (pre ++ [x]) V' ∧ Kept B1 (B1 + 3) V V') ∨ (e = .returned (.bool false) ∧ Jx (pre ++ [x]) V'))
    (W : World) (hB0 : W.cell? ⟨B1, 0, none⟩ = some (.int .i64 y)) (hB1 : W.cell? ⟨B1 + 1, 0, none⟩ = some (.int .i64 v)) (hB2 : W.cell? ⟨B1 + 2, 0, none⟩ = some (.int .i64 k)) (h0 : J [] W) :
    CallsIn F n Try.prog 52 #[.func (.yield l) #[] #[], .pointer (some ⟨B1, 0, none⟩), .pointer (some ⟨B1 + 2, 0, none⟩), .pointer (some ⟨B1 + 1, 0, none⟩)] W fun e W' => (∃ v, e = .returned v) ∧ ∃ pre, Upto pre ∧ Jx pre W' := by
  refine callsIn_of_wp Try.func52 rfl h7 ?_ hro
  simp only [Try.ntmps52, List.size_toArray, List.length_cons, List.length_nil, Nat.reduceAdd, Nat.reduceSub, Array.replicate_succ, Array.replicate_zero, List.push_toArray, List.append_toArray, List.nil_append, List.cons_append]
  have HR0 : Hid (Pl.restN k v y 0 = y) := Lib.hid (Pl.restN_zero hy0)
  have HST : Hid (∀ K, Pl.restN k v y K < v ∧ Pl.restN k v y K * k ≤ 3200 ∧ Pl.restN k v y (K + 1) = Pl.restN k v y K * k % v ∧ Pl.digitN k v y K = Pl.restN k v y K * k / v) := Lib.hid fun K => rest_step k v y K hv hv' hk
  have HNN := Lib.hid hN
  have HY := Lib.hid hY
  clear hN hY
  gi_wp2
  gi_loopg [5] N (fun g rv wr => ∃ K : Nat, K + g = N ∧ rv = .int .i64 ((Pl.restN k v y K : Nat) : Int) ∧ J (List.range K) wr ∧ wr.cell? ⟨B1 + 1, 0, none⟩ = some (.int .i64 v) ∧ wr.cell? ⟨B1 + 2, 0, none⟩ = some (.int .i64 k))
  case atStart => exact ⟨0, by omega, by rw [HR0.out], h0, hB1, hB2⟩
  case round =>
    clear hB1 hB2 hB0
    obtain ⟨K, hKg, rfl, hJ, c1, c2⟩ := hrel
    have hlt := HNN.out _ _ (upto_range K) hJ
    rw [List.length_range] at hlt
    obtain ⟨s1, s2, s3, s4⟩ := HST.out K
    obtain ⟨fn, tmps, assign, body, hy, hR⟩ := HY.out (List.range K) K wr (upto_snoc K) hJ
    rw [digRest] at hy
    have hD : Pl.digitN k v y K ≤ 3200 := by rw [s4]; exact Nat.le_trans (Nat.div_le_self _ _) s2
    have HS3 := Lib.hid s3
    generalize hRR : Pl.restN k v y (K + 1) = R' at *
    have HRR := Lib.hid hRR
    clear hRR
    generalize Pl.restN k v y K = R at *
    generalize Pl.digitN k v y K = D at *
    have hne : ((v : Int) == 0) = false := by simp; omega
    have e0 : IntKind.i64.wrap ((R : Int) * (k : Int)) = ((R * k : Nat) : Int) := by rw [← Int.natCast_mul]; exact IntWalk.i64_in _ (by omega)
    have e1 : ((R * k : Nat) : Int).tdiv (v : Int) = (D : Int) := by rw [s4]; rfl
    have e2 : ((R * k : Nat) : Int).tmod (v : Int) = (R' : Int) := by rw [s3]; rfl
    have e3 : ((R * k : Nat) : Int) / (v : Int) = (D : Int) := by rw [s4]; rfl
    have e4 : ((R * k : Nat) : Int) % (v : Int) = (R' : Int) := by rw [s3]; rfl
    have hX : 0 ≤ ((R * k : Nat) : Int) := by omega
    clear s3 s4
    generalize ((R * k : Nat) : Int) = X at *
    gi_wp2
    refine hR.mono ?_
    rintro e W3 (⟨rfl, hJ3, hk3⟩ | ⟨rfl, hJx3⟩)
    · have c1' : W3.cell? ⟨B1 + 1, 0, none⟩ = some (.int .i64 v) := (hk3.cell (p := ⟨B1 + 1, 0, none⟩) (by simp) (by simp)).trans c1
      have c2' : W3.cell? ⟨B1 + 2, 0, none⟩ = some (.int .i64 k) := (hk3.cell (p := ⟨B1 + 2, 0, none⟩) (by simp) (by simp)).trans c2
      gi_wp2
      gi_roundg (N - (K + 1))
      case rel => exact ⟨K + 1, by omega, by rw [HRR.out], by rw [List.range_succ]; exact hJ3, c1', c2'⟩
      case measure => omega
    · gi_wp2
      refine bodyPost_ret (results_none rfl _ _ _) rfl ?_
      exact ⟨⟨_, rfl⟩, _, upto_snoc K, hJx3⟩

set_option maxHeartbeats 1000000 in
/-- behindPoint boxes its numbers; the function value captures the boxes. -/
theorem behindPoint0 (F : Fence) (n : Nat) (h5 : F.fn 46) (hro : F.round = none) (x u b : Int) (w : World) :
    CallsIn F n Try.prog 46 #[.int .i64 x, .int .i64 u, .int .i64 b] w fun e w' => e = .returned (.func (.func 52) #[] #[.pointer (some ⟨w.heap.size, 0, none⟩), .pointer (some ⟨w.heap.size + 1 + 1, 0, none⟩), .pointer (some ⟨w.heap.size + 1, 0, none⟩)]) ∧
      w' = ((w.alloc (.cells #[.int .i64 x] 3)).alloc (.cells #[.int .i64 u] 3)).alloc (.cells #[.int .i64 b] 3) := by
  refine callsIn_of_wp Try.func46 rfl h5 ?_ hro
  simp only [Try.ntmps46, List.size_toArray, List.length_cons, List.length_nil, Nat.reduceAdd, Nat.reduceSub, Array.replicate_succ, Array.replicate_zero, List.push_toArray, List.append_toArray, List.nil_append, List.cons_append]
  gi_wp2
  go_ret
  exact ⟨rfl, rfl⟩

/-- What behindPoint hands back yields the digits without end, to every loop that keeps its boxes. -/
theorem behindPoint_on (F : Fence) (n : Nat) (h7 : F.fn 52) (hro : F.round = none) (hn : 1 ≤ n) (B1 : Nat) (y v k : Nat) (hv : 1 ≤ v) (hv' : v ≤ 200) (hk : k ≤ 16) (hy0 : y < v) (w : World) (hB : B1 + 2 < w.heap.size)
    (hB0 : w.cell? ⟨B1, 0, none⟩ = some (.int .i64 y)) (hB1 : w.cell? ⟨B1 + 1, 0, none⟩ = some (.int .i64 v)) (hB2 : w.cell? ⟨B1 + 2, 0, none⟩ = some (.int .i64 k)) :
    SeqOn F n Try.prog 52 #[.pointer (some ⟨B1, 0, none⟩), .pointer (some ⟨B1 + 2, 0, none⟩), .pointer (some ⟨B1 + 1, 0, none⟩)] (digRest k v y) (Kept B1 (B1 + 3)) Upto w := fun l N J Jx W hW _ _ hN hY h0 =>
  behindPoint1 F n h7 hro hn l N B1 y v k hv hv' hk hy0 J Jx hN hY W ((hW.cell (p := ⟨B1, 0, none⟩) (by simp; omega)).trans hB0) ((hW.cell (p := ⟨B1 + 1, 0, none⟩) (by simp; omega)).trans hB1) ((hW.cell (p := ⟨B1 + 2, 0, none⟩) (by simp; omega)).trans hB2) h0

end Go.Proofs.Ytnogcoijlnnbdaa
