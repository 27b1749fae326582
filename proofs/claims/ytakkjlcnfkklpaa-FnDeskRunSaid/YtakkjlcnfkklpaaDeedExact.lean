/-
  Helpers of the exact laws of deeds: toDeed, eqDeed, szDeedS, eqDeedS, heldDeedS.
-/
import Derived.KernelRfl
import Derived.Test.YtakkjlcnfkklpaaStructs
import Derived.Test.YtakkjlcnfkklpaaCalm
namespace Go.Proofs.Ytakkjlcnfkklpaa
open Go.RowKit Go.Shelf

set_option maxHeartbeats 400000 in
theorem szDeedS_yes (a : Option Addr) (len cap : Nat) (L : Int) (w : World) (h : (len : Int) ≤ L) (hL : L ≤ 1000000000) :
    Calls Try.prog 33 #[.slice a len cap, .int .i64 L] w fun e w' => e = .returned (.int .i64 (L - len)) ∧ w = w' := by
  have h1 : ¬ L - (len : Int) < 0 := by omega
  have h2 : IntKind.i64.wrap (L - (len : Int)) = L - (len : Int) := IntWalk.i64_in _ (by omega)
  go_enter Try.func33, Try.ntmps33
  go_wp2
  go_ret
  exact ⟨rfl, rfl⟩
set_option maxHeartbeats 400000 in
theorem szDeedS_no (a : Option Addr) (len cap : Nat) (L : Int) (w : World) (h : L < (len : Int)) (hL : 0 ≤ L) (hl : len ≤ 9223372036854775807) :
    Calls Try.prog 33 #[.slice a len cap, .int .i64 L] w fun e w' => e = .returned (.int .i64 (-1)) ∧ w = w' := by
  have h1 : L - (len : Int) < 0 := by omega
  have h2 : IntKind.i64.wrap (L - (len : Int)) = L - (len : Int) := IntWalk.i64_in _ (by omega)
  go_enter Try.func33, Try.ntmps33
  go_wp2
  go_ret
  exact ⟨rfl, rfl⟩

set_option maxRecDepth 100000 in
set_option maxHeartbeats 1000000 in
theorem toDeed (k n : Int) (w : World) :
    Calls Try.prog 32 #[.agg #[.int .i64 k, .int .i64 n]] w fun e w' => e = .returned (.agg #[.int .i64 k, .int .i64 n]) ∧ Below w.heap.size w w' := by
  have hbw : Below w.heap.size w (((w.alloc (.cells #[.int .i64 k, .int .i64 n] 52)).alloc (.cells #[.int .i64 k, .int .i64 n] 36)).alloc (.cells #[.int .i64 k, .int .i64 n] 36)) :=
    (((Below.refl _ w).alloc (Nat.le_refl _) _).alloc (by simp) _).alloc (by simp; omega) _
  have hR : SBox (((w.alloc (.cells #[.int .i64 k, .int .i64 n] 52)).alloc (.cells #[.int .i64 k, .int .i64 n] 36)).alloc (.cells #[.int .i64 k, .int .i64 n] 36)) (w.heap.size + 1) 36 #[.int .i64 k, .int .i64 n] := by
    have := (SBox.new (w.alloc (.cells #[.int .i64 k, .int .i64 n] 52)) 36 #[.int .i64 k, .int .i64 n]).alloc (.cells #[.int .i64 k, .int .i64 n] 36)
    rwa [World.size_alloc] at this
  go_enter Try.func32, Try.ntmps32
  go_wp2
  refine bodyPost_ret (results_cell_row rfl _ _ (w.heap.size + 1) 36 _ (0, 0) _ rfl hR Try.underlying36 rfl (by rw [size_deed]; rfl)) rfl ?_
  exact ⟨rfl, hbw⟩

set_option maxRecDepth 100000 in
set_option maxHeartbeats 1000000 in
theorem eqDeed (k n : Int) (w : World) :
    Calls Try.prog 60 #[.agg #[.int .i64 k, .int .i64 n], .agg #[.int .i64 k, .int .i64 n]] w fun e w' => e = .returned (.bool true) ∧ Below w.heap.size w w' := by
  go_enter Try.func60, Try.ntmps60
  go_wp2
  go_ret
  exact ⟨rfl, ((Below.refl _ w).alloc (Nat.le_refl _) _).alloc (by simp) _⟩

namespace Pl
theorem deedCells_set (ds : List (Int × Int)) : ∀ (j : Nat) (k m : Int), ((deedCells ds).set (j * 2) (.int .i64 k)).set (j * 2 + 1) (.int .i64 m) = deedCells (ds.set j (k, m)) := by
  induction ds with
  | nil => intro j k m; simp [deedCells]
  | cons d t ih =>
    intro j k m
    have e : ∀ (d : Int × Int) (t : List (Int × Int)), deedCells (d :: t) = Value.int .i64 d.1 :: Value.int .i64 d.2 :: deedCells t := fun _ _ => rfl
    cases j with
    | zero => rw [List.set_cons_zero, e, e]; rfl
    | succ j =>
      rw [List.set_cons_succ, e, e, ← ih j k m, show (j + 1) * 2 = j * 2 + 1 + 1 by omega]
      rfl
/-- k, k + 1; k + 2, k + 3; .. -/
def dmarks (k : Int) (n : Nat) : List (Int × Int) := (List.range n).map fun i : Nat => (k + 2 * (i : Int), k + 2 * (i : Int) + 1)
theorem dmarks_length (k : Int) (n : Nat) : (dmarks k n).length = n := by simp [dmarks]
theorem dmarks_get (k : Int) {n j : Nat} (h : j < n) : (dmarks k n)[j]?.getD (0, 0) = (k + 2 * (j : Int), k + 2 * (j : Int) + 1) := by simp [dmarks, h]
theorem dmarks_step (k : Int) (xs : List (Int × Int)) (j : Nat) (hj : j < xs.length) : (dmarks k j ++ xs.drop j).set j (k + 2 * (j : Int), k + 2 * (j : Int) + 1) = dmarks k (j + 1) ++ xs.drop (j + 1) := by
  apply List.ext_getElem
  · simp [dmarks]; omega
  · intro i h1 h2
    simp only [dmarks, List.getElem_set, List.getElem_append, List.length_map, List.length_range, List.getElem_map, List.getElem_range, List.getElem_drop]
    split
    · subst i; rw [dif_pos (by omega)]
    · split
      · rw [dif_pos (by omega)]
      · rw [dif_neg (by omega)]
        congr 1; omega
end Pl
theorem DRow.cellAt {base : Nat} {w : World} {g n cap : Nat} {ds : List (Int × Int)} (h : DRow base w (.slice (some ⟨g, 0, none⟩) n cap) ds) (hn : ds.length = n) (j : Nat) (hj : j < n) :
    w.cell? ⟨g, j * 2, none⟩ = some (.int .i64 (ds[j]?.getD (0, 0)).1) ∧ w.cell? ⟨g, j * 2 + 1, none⟩ = some (.int .i64 (ds[j]?.getD (0, 0)).2) ∧ w.frozen? ⟨g, j * 2, none⟩ = false ∧ w.frozen? ⟨g, j * 2 + 1, none⟩ = false := by
  subst hn
  refine ⟨?_, ?_, World.ownsRow.frozenAt h _, World.ownsRow.frozenAt h _⟩
  · rw [World.ownsRow.cellAt h (j * 2) (by omega)]; exact (Pl.deedCells_at ds j hj).1
  · rw [World.ownsRow.cellAt h (j * 2 + 1) (by omega)]; exact (Pl.deedCells_at ds j hj).2
theorem DRow.set {base : Nat} {w : World} {g n cap : Nat} {ds : List (Int × Int)} (h : DRow base w (.slice (some ⟨g, 0, none⟩) n cap) ds) (hn : ds.length = n) (j : Nat) (k m : Int) :
    DRow base ((w.setCell ⟨g, j * 2, none⟩ (.int .i64 k)).setCell ⟨g, j * 2 + 1, none⟩ (.int .i64 m)) (.slice (some ⟨g, 0, none⟩) n cap) (ds.set j (k, m)) := by
  subst hn
  have h1 := (World.ownsRow.stored h (j * 2) (.int .i64 k)).1
  have h2 := (World.ownsRow.stored h1 (j * 2 + 1) (.int .i64 m)).1
  rw [Pl.deedCells_set] at h2
  unfold DRow
  rw [List.length_set]
  exact h2

set_option maxRecDepth 100000 in
set_option maxHeartbeats 1000000 in
theorem markDeedS (base : Nat) (v : Value) (ds : List (Int × Int)) (k : Int) (w : World) (hv : DRow base w v ds) (hx : ds.length ≤ 1000000000) (h0 : 0 ≤ k) (h1 : k ≤ 1000000000) :
    Calls Try.prog 36 #[v, .int .i64 k] w fun e w' => e = .returned (.int .i64 (k + 2 * ds.length)) ∧ DRow base w' v (Pl.dmarks k ds.length) ∧ Below base w w' := by
  by_cases hl : ds.length = 0
  · obtain ⟨a, cap, rfl⟩ := hv.shape
    rw [List.length_eq_zero_iff] at hl
    subst hl
    have HV := Lib.hid hv
    clear hv
    go_enter Try.func36, Try.ntmps36
    go_wp2
    go_loopw [1, 5] (fun q i wr => q = .int .i64 k ∧ i = .int .i64 0 ∧ wr = w) (fun _ _ _ => 0)
    case atStart => exact ⟨rfl, rfl, rfl⟩
    case round =>
      obtain ⟨rfl, rfl, rfl⟩ := hrel
      go_wp2
      go_ret
      exact ⟨ret_int (by simp), HV.out, Below.refl _ _⟩
  · obtain ⟨g, cap, rfl, hg, hgs, _, _⟩ := hv.lies (by omega)
    have HV := Lib.hid hv
    obtain ⟨n, hn⟩ : ∃ n, ds.length = n := ⟨_, rfl⟩
    rw [hn] at hx ⊢
    have HN := Lib.hid hn
    have hn1 : n ≠ 0 := by omega
    clear hv hl
    rw [hn] at HV
    clear hn
    go_enter Try.func36, Try.ntmps36
    go_wp2
    go_loopw [1, 5] (fun q i wr => ∃ j : Nat, j ≤ n ∧ q = .int .i64 (k + 2 * j) ∧ i = .int .i64 j ∧ DRow base wr (.slice (some ⟨g, 0, none⟩) n cap) (Pl.dmarks k j ++ ds.drop j) ∧ Below base w wr) (fun _ i _ => n - (intOf i).toNat)
    case atStart => exact ⟨0, Nat.zero_le _, by simp, rfl, by simpa [Pl.dmarks] using HV.out, Below.refl _ _⟩
    case round =>
      obtain ⟨j, hj, rfl, rfl, hr, hbl⟩ := hrel
      by_cases hlt : j < n
      · have hlen : (Pl.dmarks k j ++ ds.drop j).length = n := by have := HN.out; simp [Pl.dmarks_length]; omega
        obtain ⟨c1, c2, f1, f2⟩ := hr.cellAt hlen j hlt
        have HS := Lib.hid (hr.set hlen j (k + 2 * (j : Int)) (k + 2 * (j : Int) + 1))
        rw [Pl.dmarks_step k ds j (by have := HN.out; omega)] at HS
        clear hr hlen
        have hi : (j : Int) < (n : Int) := by omega
        have hq0 : 0 ≤ k + 2 * (j : Int) := by omega
        have hq1 : k + 2 * (j : Int) ≤ 3000000000 := by omega
        have hstep : k + 2 * (j : Int) + 1 + 1 = k + 2 * ((j + 1 : Nat) : Int) := by omega
        have HST := Lib.hid hstep
        clear hstep
        generalize k + 2 * (j : Int) = Q at *
        go_wp2
        go_roundw
        case rel => exact ⟨j + 1, by omega, by rw [← HST.out], by go_num, HS.out, (hbl.setCell (p := ⟨g, j * 2, none⟩) hg _).setCell (p := ⟨g, j * 2 + 1, none⟩) hg _⟩
        case measure => simp [intOf]; omega
      · obtain rfl : j = n := by omega
        have HR := Lib.hid hr
        clear hr
        go_wp2
        go_ret
        refine ⟨rfl, ?_, hbl⟩
        have := HR.out
        rw [List.drop_of_length_le (by have := HN.out; omega), List.append_nil] at this
        exact this

set_option maxRecDepth 100000 in
set_option maxHeartbeats 2000000 in
theorem eqDeedS (u v : Value) (ds : List (Int × Int)) (w : World) (hu : Deeds w u ds) (hv : Deeds w v ds) (hx : ds.length ≤ 1000000000) :
    Calls Try.prog 35 #[u, v] w fun e w' => e = .returned (.bool true) ∧ Below w.heap.size w w' := by
  obtain ⟨a, cap, rfl, ha⟩ := hu
  obtain ⟨b, cbp, rfl, hb⟩ := hv
  have HA := Lib.hid ha
  have HB := Lib.hid hb
  clear ha hb
  go_enter Try.func35, Try.ntmps35
  go_wp2
  go_loopw [5] (fun i wr => ∃ k : Nat, k ≤ ds.length ∧ i = .int .i64 k ∧ Below w.heap.size w wr) (fun i _ => ds.length - (intOf i).toNat)
  case atStart => exact ⟨0, Nat.zero_le _, rfl, Below.refl _ _⟩
  case round =>
    obtain ⟨k, hk, rfl, hbw⟩ := hrel
    by_cases hlt : k < ds.length
    · obtain ⟨b1, o1, rfl, c1, c1'⟩ := HA.out k hlt
      obtain ⟨b2, o2, rfl, c2, c2'⟩ := HB.out k hlt
      have l1 : b1 < w.heap.size := World.block_lt_of_cell? _ _ c1
      have l2 : b2 < w.heap.size := World.block_lt_of_cell? _ _ c2
      have d1 := (hbw.cell (p := ⟨b1, o1 + k * 2, none⟩) l1).trans c1
      have d1' : wr.cell? ⟨b1, o1 + k * 2 + 1, none⟩ = some (.int .i64 (ds[k]?.getD (0, 0)).2) := (hbw.cell (p := ⟨b1, o1 + (k * 2 + 1), none⟩) l1).trans c1'
      have d2 := (hbw.cell (p := ⟨b2, o2 + k * 2, none⟩) l2).trans c2
      have d2' : wr.cell? ⟨b2, o2 + k * 2 + 1, none⟩ = some (.int .i64 (ds[k]?.getD (0, 0)).2) := (hbw.cell (p := ⟨b2, o2 + (k * 2 + 1), none⟩) l2).trans c2'
      have hi1 : (k : Int) < (ds.length : Int) := by omega
      have m1 : b1 < wr.heap.size := Nat.lt_of_lt_of_le l1 hbw.size
      have m2 : b2 < wr.heap.size := Nat.lt_of_lt_of_le l2 hbw.size
      clear c1 c1' c2 c2'
      generalize (ds[k]?.getD (0, 0)).1 = p at *
      generalize (ds[k]?.getD (0, 0)).2 = q at *
      have HE := Lib.hid (fun W => eqDeed p q W)
      go_wp2_with fail
      refine wp_region_calm (by kernel_rfl) (by kernel_rfl) ?_
      repeat (first
        | go_big_quiet_skip
        | (go_big_quiet_want
           first
             | (go_big_quiet_op; go_big_quiet_on)
             | (apply Exists.intro
                refine ⟨fun W hW => ?_, ?_⟩
                · have e1 := Below.cell hW m1 d1
                  have e1' := Below.cell hW m1 d1'
                  have e2 := Below.cell hW m2 d2
                  have e2' := Below.cell hW m2 d2'
                  go_simp
                  first | done | exact rfl
                simp only [Act.put, List.setIfInBounds_toArray, List.set_cons_zero, List.set_cons_succ]
                go_big_quiet_on)
             | (go_big_quiet_op
                apply Exists.intro
                refine ⟨fun W hW => Calm.call hW (HE.out _), ?_⟩
                go_big_quiet_on)))
      refine wpQuiet_nil ?_
      intro W hW
      have c7 := hbw.trans (hW.mono hbw.size)
      clear d1 d1' d2 d2'
      go_wp2_with fail
      go_roundw
      case rel => exact ⟨k + 1, by omega, by go_num, c7⟩
      case measure => simp [intOf]; omega
    · obtain rfl : k = ds.length := by omega
      go_wp2
      go_ret
      exact ⟨rfl, hbw⟩

theorem toList_madeCells_two (a : Value) (m : Nat) : (madeCells #[a, a] m).toList = List.replicate m a := by
  apply List.ext_getElem
  · simp [madeCells]
  · intro i h1 h2
    simp only [madeCells, List.getElem_replicate, Array.getElem_toList, Array.getElem_map]
    have e : ∀ j : Nat, (#[a, a] : Array Value)[j % (#[a, a] : Array Value).size]! = a := fun j => by
      show (#[a, a] : Array Value)[j % 2]! = a
      rcases Nat.mod_two_eq_zero_or_one j with h | h <;> rw [h] <;> rfl
    exact e _
theorem Pl.deedCells_zero (n : Nat) : Pl.deedCells (List.replicate n (0, 0)) = List.replicate (n * 2) (Value.int .i64 0) := by
  induction n with
  | zero => rfl
  | succ n ih =>
    rw [List.replicate_succ, show (n + 1) * 2 = n * 2 + 1 + 1 by omega, List.replicate_succ, List.replicate_succ, ← ih]
    rfl
theorem Pl.deeds_step (xs : List (Int × Int)) (j : Nat) (hj : j < xs.length) : (xs.take j ++ List.replicate (xs.length - j) ((0 : Int), (0 : Int))).set j (xs[j]?.getD (0, 0)) = xs.take (j + 1) ++ List.replicate (xs.length - (j + 1)) (0, 0) := by
  apply List.ext_getElem
  · simp; omega
  · intro i h1 h2
    simp only [List.getElem_set, List.getElem_append, List.length_take, List.getElem_take, List.getElem_replicate]
    split
    · subst i; rw [dif_pos (by omega), List.getElem?_eq_getElem hj]; rfl
    · split
      · rw [dif_pos (by omega)]
      · rw [dif_neg (by omega)]

/-- A call that hands back a new list of deeds. -/
def DListPost (w : World) (ds : List (Int × Int)) (e : Ending) (w' : World) : Prop := ∃ v, e = .returned v ∧ DRow w.heap.size w' v ds ∧ Below w.heap.size w w'

set_option maxRecDepth 100000 in
set_option maxHeartbeats 2000000 in
theorem toDeedS (v : Value) (xs : List (Int × Int)) (w : World) (hv : Deeds w v xs) (hx : xs.length ≤ 1000000000) :
    Calls Try.prog 34 #[v] w (DListPost w xs) := by
  obtain ⟨a, cap, rfl, ha⟩ := hv
  obtain ⟨i0, hi0, hz0, hz1, hz2⟩ := info_parts info_deed
  obtain ⟨n, hn⟩ : ∃ n, xs.length = n := ⟨_, rfl⟩
  have HN := Lib.hid hn
  rw [hn] at ha hx ⊢
  clear hn
  go_enter Try.func34, Try.ntmps34
  go_wp2_with (at_make; refine wpList_make_full _ rfl _ _ 41 rfl w.heap.size 36 i0 (.agg #[.int .i64 0, .int .i64 0]) 2 Try.underlying41 hi0 hz0 hz1 .i64 .i64 _ _ n rfl rfl rfl rfl (by rw [hz2]; omega) (by unfold maxLen; omega) (Nat.le_refl _) ?_; intro w0 hown0 hgrow0)
  have hb0 : Below w.heap.size w w0 := (Below.refl _ w).grown hgrow0 (Nat.le_refl _) (fun k e => by cases e)
  have hr0 : DRow w.heap.size w0 (.slice (some ⟨w.heap.size, 0, none⟩) n n) (xs.take 0 ++ List.replicate (n - 0) (0, 0)) := by
    have e : (madeCells (Value.agg #[.int .i64 0, .int .i64 0]).cells (n * 2)).toList = Pl.deedCells (List.replicate n (0, 0)) := by
      rw [show (Value.agg #[.int .i64 0, .int .i64 0]).cells = #[.int .i64 0, .int .i64 0] from rfl, toList_madeCells_two, Pl.deedCells_zero]
    rw [e] at hown0
    unfold DRow
    simpa using hown0
  go_loopw [4] (fun i wr => ∃ k : Nat, k ≤ n ∧ i = .int .i64 k ∧ DRow w.heap.size wr (.slice (some ⟨w.heap.size, 0, none⟩) n n) (xs.take k ++ List.replicate (n - k) (0, 0)) ∧ Below w.heap.size w wr) (fun i _ => n - (intOf i).toNat)
  case atStart => exact ⟨0, Nat.zero_le _, rfl, hr0, hb0⟩
  case round =>
    obtain ⟨k, hk, rfl, hr, hbl⟩ := hrel
    by_cases hlt : k < n
    · obtain ⟨b, off, rfl, hc, hd⟩ := ha k hlt
      have hbb : b < w.heap.size := World.block_lt_of_cell? _ _ hc
      have hc' := (hbl.cell (p := ⟨b, off + k * 2, none⟩) hbb).trans hc
      have hd' : wr.cell? ⟨b, off + k * 2 + 1, none⟩ = some (.int .i64 (xs[k]?.getD (0, 0)).2) := (hbl.cell (p := ⟨b, off + (k * 2 + 1), none⟩) hbb).trans hd
      have HR := Lib.hid hr
      have HST := Lib.hid (Pl.deeds_step xs k (by have := HN.out; omega))
      have HT := Lib.hid (toDeed (xs[k]?.getD (0, 0)).1 (xs[k]?.getD (0, 0)).2 wr)
      have hpair : xs[k]?.getD (0, 0) = ((xs[k]?.getD (0, 0)).1, (xs[k]?.getD (0, 0)).2) := rfl
      rw [hpair] at HST
      have hi : (k : Int) < (n : Int) := by omega
      clear ha hc hd hr hb0 hown0 hgrow0 hr0 hpair
      generalize (xs[k]?.getD (0, 0)).1 = p at *
      generalize (xs[k]?.getD (0, 0)).2 = q at *
      go_wp2_with fail
      refine HT.out.mono ?_
      rintro e w5 ⟨rfl, b5⟩
      have hr5 := HR.out.below b5
      have hlen : (xs.take k ++ List.replicate (n - k) ((0 : Int), (0 : Int))).length = n := by have := HN.out; simp; omega
      obtain ⟨c1, c2, f1, f2⟩ := hr5.cellAt hlen k hlt
      have hs := hr5.set hlen k p q
      have hst := HST.out
      rw [HN.out] at hst
      rw [hst] at hs
      have HS := Lib.hid hs
      have hb5 := hbl.trans (b5.mono hbl.size)
      clear hr5 hs hst hlen b5 hc' hd'
      go_wp2_with fail
      go_roundw
      case rel => exact ⟨k + 1, by omega, by go_num, HS.out, (hb5.setCell (p := ⟨w.heap.size, k * 2, none⟩) (Nat.le_refl _) _).setCell (p := ⟨w.heap.size, k * 2 + 1, none⟩) (Nat.le_refl _) _⟩
      case measure => simp [intOf]; omega
    · obtain rfl : k = n := by omega
      have HR := Lib.hid hr
      clear ha hr hb0 hown0 hgrow0 hr0
      go_wp2
      go_ret
      have := HR.out
      rw [List.take_of_length_le (by have := HN.out; omega), Nat.sub_self, List.replicate_zero, List.append_nil] at this
      exact ⟨_, rfl, this, hbl⟩

end Go.Proofs.Ytakkjlcnfkklpaa
