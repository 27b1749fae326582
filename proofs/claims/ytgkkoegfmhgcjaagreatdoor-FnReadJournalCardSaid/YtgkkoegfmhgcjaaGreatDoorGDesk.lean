/-
  Plain facts: desks, deeds, what they make, runs of deeds.
-/
import Derived.Test.YtgkkoegfmhgcjaaGreatDoorGNum
import Derived.Test.YtgkkoegfmhgcjaaGreatDoorGRound
import Derived.Test.YtgkkoegfmhgcjaaGreatDoorGPlain
import Derived.Deep.RegionHeld3
import Derived.Test.YtgkkoegfmhgcjaaGreatDoorGText
import Derived.Test.YtgkkoegfmhgcjaaGreatDoorGSelf
import Derived.Deep.DeepCutAuto
namespace Go.Proofs.YtgkkoegfmhgcjaaGreatDoor
namespace Pl

/-- A desk. -/
structure Dk where
  b : Int
  n : Int
  past : List Int
/-- The zero value. -/
def dk0 : Dk := ⟨0, 0, []⟩

def wholeB (n : Int) : Bool := decide (0 ≤ n) && decide (n ≤ 1000000000)
theorem wholeB_iff (n : Int) : wholeB n = true ↔ 0 ≤ n ∧ n ≤ 1000000000 := by simp [wholeB]
/-- Whether a desk is one. -/
def dkB (d : Dk) : Bool := okB d.n d.b && (d.past.all wholeB && decide (d.past.length ≤ 8))
theorem dkB_iff (d : Dk) : dkB d = true ↔ okB d.n d.b = true ∧ (∀ x ∈ d.past, 0 ≤ x ∧ x ≤ 1000000000) ∧ d.past.length ≤ 8 := by
  simp only [dkB, Bool.and_eq_true, List.all_eq_true, wholeB_iff, decide_eq_true_eq]
theorem dkB_zero : dkB dk0 = false := by decide

/-- A new desk. -/
def newA (n b : Int) : Dk × Bool := if okB n b = true then (⟨b, n, []⟩, true) else (dk0, false)
theorem dkB_new (n b : Int) : dkB ⟨b, n, []⟩ = okB n b := by simp [dkB]
/-- What a deed makes of a number; -1 if it cannot be done. -/
def mkI (d : Dk) (k n : Int) : Int :=
  if k = 0 then n else if n = 0 then
    (if k = 1 then sumI d.n d.b else if k = 2 then prodI d.n d.b else if k = 3 then nextI d.n 2 d.b else if k = 4 then turnI d.n d.b else if k = 5 then addI d.n d.b else if k = 6 then madeI d.n d.b else -1)
  else -1
/-- At most 8 numbers of before: the first ones are gone. -/
def cut8 (p : List Int) : List Int := if 8 < p.length then p.drop 1 else p
/-- A deed, done or not. -/
def doA (d : Dk) (k n : Int) : Dk × Bool :=
  if dkB d = true then
    if (k = 7 ∧ n = 0) ∧ d.past ≠ [] then (⟨d.b, d.past[d.past.length - 1]?.getD 0, d.past.take (d.past.length - 1)⟩, true)
    else if wholeB (mkI d k n) = true ∧ mkI d k n ≠ d.n then (⟨d.b, mkI d k n, cut8 (d.past ++ [d.n])⟩, true)
    else (d, false)
  else (dk0, false)

theorem doA_none {d : Dk} {k n : Int} (h : ¬ dkB d = true) : doA d k n = (dk0, false) := by rw [doA, if_neg h]
theorem doA_back {d : Dk} {k n : Int} (h : dkB d = true) (h1 : k = 7 ∧ n = 0) (h2 : d.past ≠ []) : doA d k n = (⟨d.b, d.past[d.past.length - 1]?.getD 0, d.past.take (d.past.length - 1)⟩, true) := by
  rw [doA, if_pos h, if_pos ⟨h1, h2⟩]
theorem doA_yes {d : Dk} {k n : Int} (h : dkB d = true) (h1 : ¬ ((k = 7 ∧ n = 0) ∧ d.past ≠ [])) (h2 : wholeB (mkI d k n) = true ∧ mkI d k n ≠ d.n) : doA d k n = (⟨d.b, mkI d k n, cut8 (d.past ++ [d.n])⟩, true) := by
  rw [doA, if_pos h, if_neg h1, if_pos h2]
theorem doA_not {d : Dk} {k n : Int} (h : dkB d = true) (h1 : ¬ ((k = 7 ∧ n = 0) ∧ d.past ≠ [])) (h2 : ¬ (wholeB (mkI d k n) = true ∧ mkI d k n ≠ d.n)) : doA d k n = (d, false) := by
  rw [doA, if_pos h, if_neg h1, if_neg h2]

theorem cut8_len {p : List Int} (h : p.length ≤ 9) : (cut8 p).length ≤ 8 := by
  unfold cut8; split
  · rw [List.length_drop]; omega
  · omega
theorem cut8_mem {p : List Int} {x : Int} (h : x ∈ cut8 p) : x ∈ p := by
  unfold cut8 at h; split at h
  · exact List.mem_of_mem_drop h
  · exact h
theorem cut8_few {p : List Int} (h : p.length ≤ 8) : cut8 p = p := by unfold cut8; rw [if_neg (by omega)]

/-- The desk is one, in the same base. -/
theorem doA_desk {d : Dk} {k n : Int} (h : dkB d = true) : dkB (doA d k n).1 = true ∧ (doA d k n).1.b = d.b := by
  have hd := (dkB_iff d).1 h
  by_cases h1 : (k = 7 ∧ n = 0) ∧ d.past ≠ []
  · rw [doA_back h h1.1 h1.2]
    refine ⟨?_, rfl⟩
    rw [dkB_iff]
    have hp : 0 < d.past.length := List.length_pos_iff.2 h1.2
    refine ⟨?_, fun x hx => hd.2.1 x (List.mem_of_mem_take hx), by simp; omega⟩
    have hm : d.past[d.past.length - 1]?.getD 0 ∈ d.past := by
      rw [List.getElem?_eq_getElem (by omega)]; exact List.getElem_mem _
    have := hd.2.1 _ hm
    have hb := hd.1
    rw [okB_iff] at hb ⊢
    exact ⟨hb.1, this⟩
  · by_cases h2 : wholeB (mkI d k n) = true ∧ mkI d k n ≠ d.n
    · rw [doA_yes h h1 h2]
      refine ⟨?_, rfl⟩
      rw [dkB_iff]
      have hb := hd.1
      rw [okB_iff] at hb
      refine ⟨?_, fun x hx => ?_, cut8_len (by simp; omega)⟩
      · rw [okB_iff]; exact ⟨hb.1, (wholeB_iff _).1 h2.1⟩
      · rcases List.mem_append.1 (cut8_mem hx) with hx | hx
        · exact hd.2.1 x hx
        · rw [List.mem_singleton.1 hx]; exact hb.2
    · rw [doA_not h h1 h2]; exact ⟨h, rfl⟩
theorem doA_not_same {d : Dk} {k n : Int} (h : dkB d = true) (h2 : (doA d k n).2 = false) : (doA d k n).1 = d := by
  by_cases h1 : (k = 7 ∧ n = 0) ∧ d.past ≠ []
  · rw [doA_back h h1.1 h1.2] at h2; cases h2
  · by_cases h3 : wholeB (mkI d k n) = true ∧ mkI d k n ≠ d.n
    · rw [doA_yes h h1 h3] at h2; cases h2
    · rw [doA_not h h1 h3]
/-- What was done can be undone. -/
theorem doA_undo {d : Dk} {k n : Int} (h : dkB d = true) (h2 : (doA d k n).2 = true) (hk : k ≠ 7) (hp : d.past.length < 8) : doA (doA d k n).1 7 0 = (d, true) := by
  have hd' := (doA_desk (k := k) (n := n) h).1
  have h1 : ¬ ((k = 7 ∧ n = 0) ∧ d.past ≠ []) := fun hh => hk hh.1.1
  by_cases h3 : wholeB (mkI d k n) = true ∧ mkI d k n ≠ d.n
  · rw [doA_yes h h1 h3] at hd' ⊢
    rw [cut8_few (by simp; omega)] at hd' ⊢
    rw [doA_back hd' ⟨rfl, rfl⟩ (by simp)]
    simp
  · rw [doA_not h h1 h3] at h2; cases h2
theorem rootN_sum {b : Nat} (hb : 2 ≤ b) (n : Nat) : rootN b (sumD b n) = rootN b n := by
  by_cases h : n < b
  · rw [sumD_lt h]
  · exact (rootN_ge hb (by omega)).symm
/-- Behind a sum of digits, or turned round, the root is the same. -/
theorem doA_root {d : Dk} {k n : Int} (h : dkB d = true) (h2 : (doA d k n).2 = true) (hk : k = 1 ∨ k = 4) : rootI (doA d k n).1.n (doA d k n).1.b = rootI d.n d.b := by
  have hd := (dkB_iff d).1 h
  have h1 : ¬ ((k = 7 ∧ n = 0) ∧ d.past ≠ []) := fun hh => by omega
  by_cases h3 : wholeB (mkI d k n) = true ∧ mkI d k n ≠ d.n
  · rw [doA_yes h h1 h3]
    obtain ⟨x, b, hx, hb, b1, b2, x1⟩ := okB_nat hd.1
    have hw := (wholeB_iff _).1 h3.1
    show rootI (mkI d k n) d.b = rootI d.n d.b
    have hok := hd.1
    rw [hx, hb] at hok
    rw [rootI, rootI]
    have hmk : okB (mkI d k n) d.b = true := by rw [okB_iff] at hok ⊢; rw [hb]; exact ⟨hok.1, hw⟩
    rw [if_pos hmk, if_pos hd.1]
    congr 1
    have hn0 : n = 0 := by
      refine Classical.byContradiction fun hn => ?_
      unfold mkI at hw
      rw [if_neg (by omega), if_neg hn] at hw; omega
    rcases hk with rfl | rfl
    · have e : mkI d 1 n = ((sumD b x : Nat) : Int) := by
        unfold mkI
        rw [if_neg (by decide), if_pos hn0, if_pos rfl, hx, hb, sumI_yes x b hok]
      rw [e, hx, hb, Int.toNat_natCast, Int.toNat_natCast, Int.toNat_natCast, rootN_sum b1]
    · have e : mkI d 4 n = turnI d.n d.b := by
        unfold mkI
        rw [if_neg (by decide), if_pos hn0, if_neg (by decide), if_neg (by decide), if_neg (by decide), if_pos rfl]
      have e2 : turnI d.n d.b = ((turnN b x : Nat) : Int) := by
        rw [hx, hb]
        by_cases ht : turnN b x ≤ 1000000000
        · exact turnI_yes x b hok ht
        · exfalso
          rw [e, hx, hb, turnI_big x b ht] at hw; omega
      rw [e, e2, hx, hb, Int.toNat_natCast, Int.toNat_natCast, Int.toNat_natCast, ← rootN_sum b1, turn_sum b1, rootN_sum b1]
  · rw [doA_not h h1 h3] at h2; cases h2

/-- Deeds, one after the other; and how many were done. -/
def runD (d : Dk) : List (Int × Int) → Dk × Nat
  | [] => (d, 0)
  | a :: t => if (doA d a.1 a.2).2 = true then ((runD (doA d a.1 a.2).1 t).1, (runD (doA d a.1 a.2).1 t).2 + 1) else runD d t
def runA (d : Dk) (l : List (Int × Int)) : Dk × Nat := if dkB d = true ∧ l.length ≤ 40 then runD d l else (dk0, 0)
theorem runD_append (d : Dk) (l m : List (Int × Int)) : runD d (l ++ m) = ((runD (runD d l).1 m).1, (runD d l).2 + (runD (runD d l).1 m).2) := by
  induction l generalizing d with
  | nil => simp [runD]
  | cons a t ih =>
    rw [List.cons_append, runD, runD]
    split
    · rw [ih]; simp; omega
    · rw [ih]
theorem runD_snoc (d : Dk) (l : List (Int × Int)) (a : Int × Int) :
    runD d (l ++ [a]) = if (doA (runD d l).1 a.1 a.2).2 = true then ((doA (runD d l).1 a.1 a.2).1, (runD d l).2 + 1) else runD d l := by
  rw [runD_append, runD]
  split
  · simp [runD]
  · simp [runD]
theorem runD_desk {d : Dk} (h : dkB d = true) (l : List (Int × Int)) : dkB (runD d l).1 = true ∧ (runD d l).1.b = d.b ∧ (runD d l).2 ≤ l.length := by
  induction l generalizing d with
  | nil => simp [runD, h]
  | cons a t ih =>
    rw [runD]
    split
    · obtain ⟨h1, h2⟩ := doA_desk (k := a.1) (n := a.2) h
      obtain ⟨g1, g2, g3⟩ := ih h1
      exact ⟨g1, g2.trans h2, by simp; omega⟩
    · obtain ⟨g1, g2, g3⟩ := ih h
      exact ⟨g1, g2, by simp; omega⟩

end Pl
end Go.Proofs.YtgkkoegfmhgcjaaGreatDoor

namespace Go.Proofs.YtgkkoegfmhgcjaaGreatDoor
open Go.RowKit Go.Shelf

namespace Pl
theorem whole_take {l : List Int} {k : Nat} (hk : k < l.length) (h : (l.take k).all wholeB = true) (h1 : wholeB (l[k]?.getD 0) = true) : (l.take (k + 1)).all wholeB = true := by
  rw [List.getElem?_eq_getElem hk, Option.getD_some] at h1
  rw [List.take_succ_eq_append_getElem hk, List.all_append, h]
  simp [h1]
theorem whole_not {l : List Int} {k : Nat} (hk : k < l.length) (h1 : wholeB (l[k]?.getD 0) = false) : l.all wholeB = false := by
  rw [List.getElem?_eq_getElem hk, Option.getD_some] at h1
  refine Bool.eq_false_iff.2 fun h => ?_
  rw [List.all_eq_true] at h
  rw [h _ (List.getElem_mem hk)] at h1; cases h1
end Pl

set_option maxRecDepth 100000 in
set_option maxHeartbeats 2000000 in
theorem specDeskOk (d : Pl.Dk) (pv : Value) (w : World) (hp : Ints w pv d.past) (hx : d.past.length ≤ 1000000000) :
    Calls Tryz.prog 13 #[.agg #[.int .i64 d.b, .int .i64 d.n, pv]] w fun e w' => e = .returned (.bool (Pl.dkB d)) ∧ Below w.heap.size w w' := by
  obtain ⟨b, n, p⟩ := d
  simp only at hp hx ⊢
  obtain ⟨a, cap, rfl, hc⟩ := hp
  have HC := Lib.hid hc
  have b0 : Below w.heap.size w (w.alloc (.cells #[.int .i64 b, .int .i64 n, .slice a p.length cap] 30)) := (Below.refl _ _).alloc (Nat.le_refl _) _
  obtain ⟨R, hR⟩ : ∃ R, Pl.dkB ⟨b, n, p⟩ = R := ⟨_, rfl⟩
  rw [hR]
  have HRR := Lib.hid hR
  clear hc hR
  go_enter Tryz.func13, Tryz.ntmps13
  go_wp2_with fail
  go_loop [3] (fun kv => ∃ k : Nat, k ≤ p.length ∧ kv = .int .i64 k ∧ (p.take k).all Pl.wholeB = true) (fun kv => p.length - (intOf kv).toNat)
  case atStart => exact ⟨0, Nat.zero_le _, rfl, rfl⟩
  case round =>
    obtain ⟨k, hk, rfl, hall⟩ := hrel
    by_cases hlt : k < p.length
    · obtain ⟨g, off, rfl, ck⟩ := HC.out k hlt
      have hg : g < w.heap.size := World.block_lt_of_cell? _ _ ck
      have ck' : (w.alloc (.cells #[.int .i64 b, .int .i64 n, .slice (some ⟨g, off, none⟩) p.length cap] 30)).cell? ⟨g, off + k, none⟩ = some (.int .i64 (p[k]?.getD 0)) := cell_alloc_l _ ck
      have hi : (k : Int) < (p.length : Int) := by omega
      cases hw : Pl.wholeB (p[k]?.getD 0) with
      | false =>
        have HR : Hid (R = false) := Lib.hid (by
          rw [← HRR.out]
          unfold Pl.dkB
          simp only [Pl.whole_not hlt hw, Bool.false_and, Bool.and_false])
        have HIN : Hid (∀ W, Calls Tryz.prog 49 #[.int .i64 (p[k]?.getD 0), .int .i64 0, .int .i64 1000000000] W fun e w' => e = .returned (.bool false) ∧ W = w') := Lib.hid fun W => by
          have := specIn (p[k]?.getD 0) 0 1000000000 W
          unfold Pl.wholeB at hw
          rwa [hw] at this
        clear hw hall ck
        generalize p[k]?.getD 0 = q at *
        go_wp2_with (go_at_call 49; refine (HIN.out _).mono ?_; rintro e w' ⟨rfl, rfl⟩)
        go_ret
        exact ⟨ret_bool HR.out.symm, b0⟩
      | true =>
        have HA := Lib.hid (Pl.whole_take hlt hall hw)
        have HIN : Hid (∀ W, Calls Tryz.prog 49 #[.int .i64 (p[k]?.getD 0), .int .i64 0, .int .i64 1000000000] W fun e w' => e = .returned (.bool true) ∧ W = w') := Lib.hid fun W => by
          have := specIn (p[k]?.getD 0) 0 1000000000 W
          unfold Pl.wholeB at hw
          rwa [hw] at this
        clear hw hall ck
        generalize p[k]?.getD 0 = q at *
        go_wp2_with (go_at_call 49; refine (HIN.out _).mono ?_; rintro e w' ⟨rfl, rfl⟩)
        go_round
        case rel => exact ⟨k + 1, by omega, by go_num, HA.out⟩
        case measure => simp [intOf]; omega
    · obtain rfl : k = p.length := by omega
      have hi : ¬ (p.length : Int) < (p.length : Int) := by omega
      rw [List.take_of_length_le (Nat.le_refl _)] at hall
      have HR : Hid (R = ((Pl.baseB b && (decide (0 ≤ n) && decide (n ≤ 1000000000))) && decide (p.length ≤ 8))) := Lib.hid (by
        rw [← HRR.out]
        unfold Pl.dkB
        simp only [hall, Pl.okB, Bool.true_and])
      clear hall
      cases hB : Pl.baseB b with
      | false =>
        go_wp2_with (go_at_call 50; refine (specBaseOk _ _).mono ?_; rintro e w' ⟨rfl, rfl⟩; rw [hB])
        go_ret
        exact ⟨ret_bool (by rw [HR.out, hB]; rfl), b0⟩
      | true =>
        cases hn : (decide (0 ≤ n) && decide (n ≤ 1000000000)) with
        | false =>
          go_wp2_with (first | (go_at_call 50; refine (specBaseOk _ _).mono ?_; rintro e w' ⟨rfl, rfl⟩; rw [hB]) | (go_at_call 49; refine (specIn _ _ _ _).mono ?_; rintro e w' ⟨rfl, rfl⟩; rw [hn]))
          go_ret
          exact ⟨ret_bool (by rw [HR.out, hB, hn]; rfl), b0⟩
        | true =>
          by_cases h8 : p.length ≤ 8
          · have h8' : (p.length : Int) ≤ 8 := by omega
            go_wp2_with (first | (go_at_call 50; refine (specBaseOk _ _).mono ?_; rintro e w' ⟨rfl, rfl⟩; rw [hB]) | (go_at_call 49; refine (specIn _ _ _ _).mono ?_; rintro e w' ⟨rfl, rfl⟩; rw [hn]))
            go_ret
            exact ⟨ret_bool (by rw [HR.out, hB, hn]; simp [h8] <;> omega), b0⟩
          · have h8' : ¬ (p.length : Int) ≤ 8 := by omega
            go_wp2_with (first | (go_at_call 50; refine (specBaseOk _ _).mono ?_; rintro e w' ⟨rfl, rfl⟩; rw [hB]) | (go_at_call 49; refine (specIn _ _ _ _).mono ?_; rintro e w' ⟨rfl, rfl⟩; rw [hn]))
            go_ret
            exact ⟨ret_bool (by rw [HR.out, hB, hn]; simp [h8] <;> omega), b0⟩

/-- A struct of three cells is stored over one that lies there. -/
theorem SBox.three {W : World} {B : Nat} {T : TypeId} {a b c : Value} (h : SBox W B T #[a, b, c]) (x y z : Value) :
    SBox (((W.setCell ⟨B, 0, none⟩ x).setCell ⟨B, 1, none⟩ y).setCell ⟨B, 2, none⟩ z) B T #[x, y, z] := ((h.set 0 x).set 1 y).set 2 z
theorem below_three {W w : World} {n B : Nat} (h : Below n w W) (hB : n ≤ B) (x y z : Value) : Below n w (((W.setCell ⟨B, 0, none⟩ x).setCell ⟨B, 1, none⟩ y).setCell ⟨B, 2, none⟩ z) :=
  ((h.setCell (p := ⟨B, 0, none⟩) hB _).setCell (p := ⟨B, 1, none⟩) hB _).setCell (p := ⟨B, 2, none⟩) hB _

theorem Row.setOther {base : Nat} {w : World} {v : Value} {xs : List Int} (h : Row base w v xs) {p : Addr} (hp : p.block < base) (u : Value) : Row base (w.setCell p u) v xs := by
  rcases h with ⟨h1, h2 | ⟨g, cap, cur, hv, hg, hh, r⟩⟩
  · exact ⟨h1, .inl h2⟩
  · exact ⟨h1, .inr ⟨g, cap, cur, hv, hg, by rw [Below.heap_setCell _ _ _ _ (by omega)]; exact hh, r⟩⟩
/-- A call that hands back a desk whose numbers of before lie in new memory. -/
def DeskPost (w : World) (d : Pl.Dk) (e : Ending) (w' : World) : Prop := ∃ v, e = .returned (.agg #[.int .i64 d.b, .int .i64 d.n, v]) ∧ Row w.heap.size w' v d.past ∧ Below w.heap.size w w'

set_option maxRecDepth 100000 in
set_option maxHeartbeats 2000000 in
theorem spec12Copy (d : Pl.Dk) (pv : Value) (w : World) (hp : Ints w pv d.past) (hx : d.past.length ≤ 100000000) :
    Calls Tryz.prog 61 #[.agg #[.int .i64 d.b, .int .i64 d.n, pv]] w (DeskPost w d) := by
  obtain ⟨b, n, p⟩ := d
  simp only at hp hx ⊢
  have hbw : Below w.heap.size w (((w.alloc (.cells #[.int .i64 b, .int .i64 n, pv] 30)).alloc (.cells #[.int .i64 0, .int .i64 0, .slice none 0 0] 30)).alloc (.cells #[] 3)) :=
    (((Below.refl _ w).alloc (Nat.le_refl _) _).alloc (by simp) _).alloc (by simp; omega) _
  have hrow : Row (w.heap.size + 1 + 1) (((w.alloc (.cells #[.int .i64 b, .int .i64 n, pv] 30)).alloc (.cells #[.int .i64 0, .int .i64 0, .slice none 0 0] 30)).alloc (.cells #[] 3)) (.slice (some ⟨w.heap.size + 1 + 1, 0, none⟩) 0 0) [] := by
    have := row_empty ((w.alloc (.cells #[.int .i64 b, .int .i64 n, pv] 30)).alloc (.cells #[.int .i64 0, .int .i64 0, .slice none 0 0] 30))
    simpa only [World.size_alloc] using this
  have hbox : SBox (((w.alloc (.cells #[.int .i64 b, .int .i64 n, pv] 30)).alloc (.cells #[.int .i64 0, .int .i64 0, .slice none 0 0] 30)).alloc (.cells #[] 3)) (w.heap.size + 1) 30 #[.int .i64 0, .int .i64 0, .slice none 0 0] := by
    have := (SBox.new (w.alloc (.cells #[.int .i64 b, .int .i64 n, pv] 30)) 30 #[.int .i64 0, .int .i64 0, .slice none 0 0]).alloc (.cells #[] 3)
    rwa [World.size_alloc] at this
  have hboxd : SBox ((((w.alloc (.cells #[.int .i64 b, .int .i64 n, pv] 30)).alloc (.cells #[.int .i64 0, .int .i64 0, .slice none 0 0] 30)).alloc (.cells #[] 3)).drew) (w.heap.size + 1) 30 #[.int .i64 0, .int .i64 0, .slice none 0 0] := hbox
  have hbwd : Below w.heap.size w ((((w.alloc (.cells #[.int .i64 b, .int .i64 n, pv] 30)).alloc (.cells #[.int .i64 0, .int .i64 0, .slice none 0 0] 30)).alloc (.cells #[] 3)).drew) := hbw.drew
  have HI := Lib.hid (hp.below hbw)
  have HRow := Lib.hid hrow
  have HBox := Lib.hid hboxd
  have hargd : SBox ((((w.alloc (.cells #[.int .i64 b, .int .i64 n, pv] 30)).alloc (.cells #[.int .i64 0, .int .i64 0, .slice none 0 0] 30)).alloc (.cells #[] 3)).drew) w.heap.size 30 #[.int .i64 b, .int .i64 n, pv] := ((SBox.new w 30 #[.int .i64 b, .int .i64 n, pv]).alloc _).alloc _
  have HArg := Lib.hid hargd
  obtain ⟨a, cap, rfl, _⟩ := hp
  have HBW := Lib.hid hbwd
  clear hbw hrow hbox hboxd hbwd hargd
  go_enter Tryz.func61, Tryz.ntmps61
  go_wp2_with fail
  go_region_held3 (fun w' => w'.cell? ⟨w.heap.size, 0, none⟩ = some (.int .i64 b) ∧ w'.cell? ⟨w.heap.size, 1, none⟩ = some (.int .i64 n) ∧ w'.cell? ⟨w.heap.size, 2, none⟩ = some (.slice a p.length cap))
    (first
      | exact ⟨g0, g1, g2⟩
      | (refine ⟨?_, ?_, ?_⟩ <;> (rw [World.cell?_setCell_other _ _ _ _ (by simp), World.cell?_setCell_other _ _ _ _ (by simp), World.cell?_setCell_other _ _ _ _ (by simp)]; assumption))
      | (refine ⟨?_, ?_, ?_⟩ <;> simp [go_sem]))
    (first
      | (refine step_append_ints rfl _ _ rfl (w.heap.size + 1 + 1) (.slice (some ⟨w.heap.size + 1 + 1, 0, none⟩) 0 0) (.slice a p.length cap) [] p rfl HRow.out rfl HI.out (by simp; omega) (by simp) ?_; intro v3 w3 r3 b3; obtain ⟨a3, c3, rfl⟩ := r3.shape; have hB3 := SBox.below HBox.out b3 (by omega); have e0 := hB3.cell 0; have e1 := hB3.cell 1; have e2 := hB3.cell 2; have hA3 := SBox.below HArg.out b3 (by omega); have g0 := hA3.cell 0; have g1 := hA3.cell 1; have g2 := hA3.cell 2; clear hA3; have f0 := hB3.frozen 0; have f1 := hB3.frozen 1; have f2 := hB3.frozen 2; have HB3 := Lib.hid hB3; have R3 := Lib.hid r3; have HBl := Lib.hid b3; clear hB3 r3 b3))
  all_goals
    go_wp2_with fail
    refine bodyPost_ret (results_cell_row rfl _ _ (w.heap.size + 1) 30 _ (0, 0) _ rfl (HB3.out.three _ _ _) Tryz.underlying30 rfl (by rw [size_desk]; rfl)) rfl ?_
    exact ⟨_, rfl, (((R3.out.setOther (p := ⟨w.heap.size + 1, 0, none⟩) (by simp) _).setOther (p := ⟨w.heap.size + 1, 1, none⟩) (by simp) _).setOther (p := ⟨w.heap.size + 1, 2, none⟩) (by simp) _).mono (by omega),
      below_three (HBW.out.trans (HBl.out.mono (by omega))) (by omega) _ _ _⟩

set_option maxRecDepth 100000 in
set_option maxHeartbeats 4000000 in
theorem spec12Made (d : Pl.Dk) (pv : Value) (k n : Int) (w : World) :
    Calls Tryz.prog 101 #[.agg #[.int .i64 d.b, .int .i64 d.n, pv], .agg #[.int .i64 k, .int .i64 n]] w fun e w' => e = .returned (.int .i64 (Pl.mkI d k n)) ∧ Below w.heap.size w w' := by
  obtain ⟨b, m, p⟩ := d
  obtain ⟨R, hR⟩ : ∃ R, Pl.mkI ⟨b, m, p⟩ k n = R := ⟨_, rfl⟩
  rw [hR]
  unfold Pl.mkI at hR
  simp only at hR ⊢
  have hbw : Below w.heap.size w ((w.alloc (.cells #[.int .i64 b, .int .i64 m, pv] 30)).alloc (.cells #[.int .i64 k, .int .i64 n] 38)) :=
    ((Below.refl _ w).alloc (Nat.le_refl _) _).alloc (by simp) _
  by_cases h0 : k = 0
  · rw [if_pos h0] at hR
    subst h0 hR
    go_enter Tryz.func101, Tryz.ntmps101
    go_wp2_with fail
    go_ret
    exact ⟨rfl, hbw⟩
  · rw [if_neg h0] at hR
    have e0 : (k == 0) = false := by rw [beq_eq_false_iff_ne]; exact h0
    by_cases hn : n = 0
    · rw [if_pos hn] at hR
      subst hn
      by_cases h1 : k = 1
      · rw [if_pos h1] at hR
        subst h1
        have HC := Lib.hid (specSumOf m b)
        rw [hR] at HC
        clear hR h0 e0
        go_enter Tryz.func101, Tryz.ntmps101
        go_wp2_with (go_at_call 134; refine (HC.out _).mono ?_; rintro e w' ⟨rfl, rfl⟩)
        go_ret
        exact ⟨rfl, hbw⟩
      · rw [if_neg h1] at hR
        have e1 : (k == 1) = false := by rw [beq_eq_false_iff_ne]; exact h1
        by_cases h2 : k = 2
        · rw [if_pos h2] at hR
          subst h2
          have HC := Lib.hid (specDigitProduct m b)
          rw [hR] at HC
          clear hR h0 h1 e0 e1
          go_enter Tryz.func101, Tryz.ntmps101
          go_wp2_with (go_at_call 135; refine (HC.out _).mono ?_; rintro e w' ⟨rfl, rfl⟩)
          go_ret
          exact ⟨rfl, hbw⟩
        · rw [if_neg h2] at hR
          have e2 : (k == 2) = false := by rw [beq_eq_false_iff_ne]; exact h2
          by_cases h3 : k = 3
          · rw [if_pos h3] at hR
            subst h3
            have HC := Lib.hid (specNextOf m 2 b)
            rw [hR] at HC
            clear hR h0 h1 h2 e0 e1 e2
            go_enter Tryz.func101, Tryz.ntmps101
            go_wp2_with (go_at_call 104; refine (HC.out _).mono ?_; rintro e w' ⟨rfl, rfl⟩)
            go_ret
            exact ⟨rfl, hbw⟩
          · rw [if_neg h3] at hR
            have e3 : (k == 3) = false := by rw [beq_eq_false_iff_ne]; exact h3
            by_cases h4 : k = 4
            · rw [if_pos h4] at hR
              subst h4
              have HC := Lib.hid (specTurnedOf m b)
              rw [hR] at HC
              clear hR h0 h1 h2 h3 e0 e1 e2 e3
              go_enter Tryz.func101, Tryz.ntmps101
              go_wp2_with (go_at_call 106; refine (HC.out _).mono ?_; rintro e w' ⟨rfl, rfl⟩)
              go_ret
              exact ⟨rfl, hbw⟩
            · rw [if_neg h4] at hR
              have e4 : (k == 4) = false := by rw [beq_eq_false_iff_ne]; exact h4
              by_cases h5 : k = 5
              · rw [if_pos h5] at hR
                subst h5
                have HC := Lib.hid (specAddedTurned m b)
                rw [hR] at HC
                clear hR h0 h1 h2 h3 h4 e0 e1 e2 e3 e4
                go_enter Tryz.func101, Tryz.ntmps101
                go_wp2_with (go_at_call 110; refine (HC.out _).mono ?_; rintro e w' ⟨rfl, rfl⟩)
                go_ret
                exact ⟨rfl, hbw⟩
              · rw [if_neg h5] at hR
                have e5 : (k == 5) = false := by rw [beq_eq_false_iff_ne]; exact h5
                by_cases h6 : k = 6
                · rw [if_pos h6] at hR
                  subst h6
                  have HC := Lib.hid (specMadeBy m b)
                  rw [hR] at HC
                  clear hR h0 h1 h2 h3 h4 h5 e0 e1 e2 e3 e4 e5
                  go_enter Tryz.func101, Tryz.ntmps101
                  go_wp2_with (go_at_call 136; refine (HC.out _).mono ?_; rintro e w' ⟨rfl, rfl⟩)
                  go_ret
                  exact ⟨rfl, hbw⟩
                · rw [if_neg h6] at hR
                  have e6 : (k == 6) = false := by rw [beq_eq_false_iff_ne]; exact h6
                  subst hR
                  clear h0 h1 h2 h3 h4 h5 h6
                  go_enter Tryz.func101, Tryz.ntmps101
                  go_wp2_with fail
                  go_ret
                  exact ⟨rfl, hbw⟩
    · rw [if_neg hn] at hR
      have en : (n == 0) = false := by rw [beq_eq_false_iff_ne]; exact hn
      subst hR
      clear h0 hn
      go_enter Tryz.func101, Tryz.ntmps101
      go_wp2_with fail
      all_goals
        go_ret
        exact ⟨rfl, hbw⟩

end Go.Proofs.YtgkkoegfmhgcjaaGreatDoor

namespace Go.Proofs.YtgkkoegfmhgcjaaGreatDoor
open Go.RowKit Go.Shelf

/-- Integers in a call's own memory: a row, or the end of one. -/
def OwnTail (base : Nat) (w : World) (v : Value) (xs : List Int) : Prop := Row base w v xs ∨ RowTail base w v xs
theorem OwnTail.ints {base : Nat} {w : World} {v : Value} {xs : List Int} (h : OwnTail base w v xs) : Ints w v xs := h.elim Row.ints RowTail.ints
theorem OwnTail.below {base : Nat} {w w' : World} {v : Value} {xs : List Int} (h : OwnTail base w v xs) (hb : Below w.heap.size w w') : OwnTail base w' v xs := h.imp (fun h => h.below hb) (fun h => h.below hb)
/-- A beginning of a row is one. -/
theorem Row.front {base : Nat} {w : World} {g cap n : Nat} {xs : List Int} (h : Row base w (.slice (some ⟨g, 0, none⟩) n cap) xs) (hn : xs.length = n) {m : Nat} (hm : m ≤ n) : Row base w (.slice (some ⟨g, 0, none⟩) m cap) (xs.take m) := by
  subst hn
  rcases h with ⟨h1, h2 | ⟨g', cap', cur, hv, hg, hh, h3, h4, h5, h6⟩⟩
  · simp at h2
  · simp only [Value.slice.injEq, Option.some.injEq, Addr.mk.injEq, and_true, true_and] at hv
    obtain ⟨rfl, rfl⟩ := hv
    have hl : (xs.take m).length = m := by rw [List.length_take]; omega
    refine ⟨by simp, .inr ⟨g, cap, cur, by rw [hl], hg, hh, by rw [hl]; omega, h4, h5, ?_⟩⟩
    rw [hl, List.map_take, ← h6, List.take_take]
    congr 1; omega

/-- A row lies as it lay where a struct's field is written. -/
theorem Row.setBox {base : Nat} {w : World} {v : Value} {xs : List Int} (h : Row base w v xs) {B : Nat} {T : TypeId} {cs : Array Value} (hB : SBox w B T cs) (hT : T ≠ 3) (i : Nat) (u : Value) : Row base (w.setCell ⟨B, i, none⟩ u) v xs := by
  rcases h with ⟨h1, h2 | ⟨g, cap, cur, hv, hg, hh, r⟩⟩
  · exact ⟨h1, .inl h2⟩
  · refine ⟨h1, .inr ⟨g, cap, cur, hv, hg, ?_, r⟩⟩
    rw [Below.heap_setCell _ _ _ _ ?_]
    · exact hh
    · rintro rfl
      unfold SBox at hB
      rw [hB] at hh
      injection hh with hh
      injection hh with _ ht _
      exact hT ht
/-- A call that hands back a desk in new memory, and a truth. -/
def DoPost (w : World) (few : Prop) (r : Pl.Dk × Bool) (e : Ending) (w' : World) : Prop :=
  ∃ v, e = .returned (.tuple #[.agg #[.int .i64 r.1.b, .int .i64 r.1.n, v], .bool r.2]) ∧ OwnTail w.heap.size w' v r.1.past ∧ (few → Row w.heap.size w' v r.1.past) ∧ Below w.heap.size w w'

set_option maxRecDepth 100000 in
set_option maxHeartbeats 4000000 in
theorem specDeskDo (d : Pl.Dk) (pv : Value) (k n : Int) (w : World) (hp : Ints w pv d.past) (hx : d.past.length ≤ 100000000) :
    Calls Tryz.prog 62 #[.agg #[.int .i64 d.b, .int .i64 d.n, pv], .agg #[.int .i64 k, .int .i64 n]] w (DoPost w (d.past.length < 8) (Pl.doA d k n)) := by
  obtain ⟨b, m, p⟩ := d
  simp only at hp hx ⊢
  have hp' := hp
  obtain ⟨a0, cap0, rfl, _⟩ := hp'
  have hb0 : Below w.heap.size w (((w.alloc (.cells #[.int .i64 b, .int .i64 m, (.slice a0 p.length cap0)] 30)).alloc (.cells #[.int .i64 k, .int .i64 n] 38)).alloc (.cells #[.int .i64 0, .int .i64 0, .slice none 0 0] 30)) :=
    (((Below.refl _ w).alloc (Nat.le_refl _) _).alloc (by simp) _).alloc (by simp; omega) _
  have hA0 : SBox (((w.alloc (.cells #[.int .i64 b, .int .i64 m, (.slice a0 p.length cap0)] 30)).alloc (.cells #[.int .i64 k, .int .i64 n] 38)).alloc (.cells #[.int .i64 0, .int .i64 0, .slice none 0 0] 30)) w.heap.size 30 #[.int .i64 b, .int .i64 m, (.slice a0 p.length cap0)] :=
    ((SBox.new w 30 #[.int .i64 b, .int .i64 m, (.slice a0 p.length cap0)]).alloc _).alloc _
  have hE0 : SBox (((w.alloc (.cells #[.int .i64 b, .int .i64 m, (.slice a0 p.length cap0)] 30)).alloc (.cells #[.int .i64 k, .int .i64 n] 38)).alloc (.cells #[.int .i64 0, .int .i64 0, .slice none 0 0] 30)) (w.heap.size + 1) 38 #[.int .i64 k, .int .i64 n] := by
    have := (SBox.new (w.alloc (.cells #[.int .i64 b, .int .i64 m, (.slice a0 p.length cap0)] 30)) 38 #[.int .i64 k, .int .i64 n]).alloc (.cells #[.int .i64 0, .int .i64 0, .slice none 0 0] 30)
    rwa [World.size_alloc] at this
  have hR0 : SBox (((w.alloc (.cells #[.int .i64 b, .int .i64 m, (.slice a0 p.length cap0)] 30)).alloc (.cells #[.int .i64 k, .int .i64 n] 38)).alloc (.cells #[.int .i64 0, .int .i64 0, .slice none 0 0] 30)) (w.heap.size + 1 + 1) 30 #[.int .i64 0, .int .i64 0, .slice none 0 0] := by
    have := SBox.new ((w.alloc (.cells #[.int .i64 b, .int .i64 m, (.slice a0 p.length cap0)] 30)).alloc (.cells #[.int .i64 k, .int .i64 n] 38)) 30 #[.int .i64 0, .int .i64 0, .slice none 0 0]
    rwa [World.size_alloc, World.size_alloc] at this
  have hI0 := hp.below hb0
  have hz0 : (((w.alloc (.cells #[.int .i64 b, .int .i64 m, (.slice a0 p.length cap0)] 30)).alloc (.cells #[.int .i64 k, .int .i64 n] 38)).alloc (.cells #[.int .i64 0, .int .i64 0, .slice none 0 0] 30)).heap.size = w.heap.size + 1 + 1 + 1 := by simp
  have HOK := Lib.hid (fun W (h : Ints W (.slice a0 p.length cap0) p) => specDeskOk ⟨b, m, p⟩ (.slice a0 p.length cap0) W h (Nat.le_trans hx (by omega)))
  have HCP := Lib.hid (fun W (h : Ints W (.slice a0 p.length cap0) p) => spec12Copy ⟨b, m, p⟩ (.slice a0 p.length cap0) W h hx)
  have HMK := Lib.hid (fun W => spec12Made ⟨b, m, p⟩ (.slice a0 p.length cap0) k n W)
  simp only at HOK HCP HMK
  go_enter Tryz.func62, Tryz.ntmps62
  go_wp2_with fail
  generalize (((w.alloc (.cells #[.int .i64 b, .int .i64 m, (.slice a0 p.length cap0)] 30)).alloc (.cells #[.int .i64 k, .int .i64 n] 38)).alloc (.cells #[.int .i64 0, .int .i64 0, .slice none 0 0] 30)) = w0 at *
  refine (HOK.out _ hI0).mono ?_
  rintro e w1 ⟨rfl, b1⟩
  have hA1 := hA0.kept b1
  have hE1 := hE0.kept b1
  have hR1 := hR0.kept b1
  have hI1 := hI0.below b1
  have hb1 := hb0.trans (b1.mono hb0.size)
  have hz1 : w.heap.size + 3 ≤ w1.heap.size := by have := b1.size; omega
  clear hA0 hE0 hR0 hI0 hb0 hz0 b1 HOK hp
  by_cases hok : Pl.dkB ⟨b, m, p⟩ = true
  · rw [hok]
    have HA1 := Lib.hid hA1
    have HE1 := Lib.hid hE1
    have HR1 := Lib.hid hR1
    have HI1 := Lib.hid hI1
    clear hA1 hE1 hR1 hI1
    go_wp2_with (refine desk_load rfl _ rfl rfl HA1.out ?_)
    refine (HCP.out _ HI1.out).mono ?_
    rintro e w2 ⟨v2, rfl, r2', b2⟩
    have r2 : Row w1.heap.size w2 v2 p := r2'
    clear r2'
    have HA2 := Lib.hid (HA1.out.kept b2)
    have HE2 := Lib.hid (HE1.out.kept b2)
    have HR2 := Lib.hid (HR1.out.kept b2)
    have HI2 := Lib.hid (HI1.out.below b2)
    have hb2 := hb1.trans (b2.mono hb1.size)
    have hz2 := b2.size
    clear HA1 HE1 HR1 HI1 HCP
    by_cases hback : (k = 7 ∧ n = 0) ∧ p ≠ []
    · have hR := Lib.hid (Pl.doA_back hok hback.1 hback.2)
      obtain ⟨⟨rfl, rfl⟩, hne⟩ := hback
      have hl : 1 ≤ p.length := List.length_pos_iff.2 hne
      obtain ⟨g, cap, rfl, hg0, hg, hgc, _, hcell⟩ := r2.lies hl
      obtain ⟨q, hq⟩ : ∃ q, p.length = q + 1 := ⟨p.length - 1, by omega⟩
      have hlast := hcell q (by omega)
      have hrow := Lib.hid (r2.front rfl (m := q) (by omega))
      have hrow' : Hid (Row w1.heap.size w2 (.slice (some ⟨g, 0, none⟩) q cap) (p.take (p.length - 1))) := Lib.hid (by rw [hq, Nat.add_sub_cancel]; exact hrow.out)
      have ha2 := (HA2.out.alloc (.cells #[.int .i64 b, .int .i64 m, .slice (some ⟨g, 0, none⟩) p.length cap] 30)).cell 2
      rw [hq] at hR hgc HA2 ha2 ⊢
      rw [Nat.add_sub_cancel] at hR
      have hwq : IntKind.i64.wrap (q : Int) = (q : Int) := IntWalk.i64_in _ (by omega)
      have i1 : (q : Int) < (q : Int) + 1 := by omega
      have i2 : 0 ≤ (q : Int) := by omega
      have i3 : q < q + 1 := by omega
      have i4 : q ≤ cap := by omega
      have i5 : (q : Int) ≤ (cap : Int) := by omega
      have i6 : (0 : Int) < (q : Int) + 1 := by omega
      have hrow2 := hrow'
      rw [hq, Nat.add_sub_cancel] at hrow'
      have hcw : (w2.alloc (.cells #[.int .i64 b, .int .i64 m, .slice (some ⟨g, 0, none⟩) (q + 1) cap] 30)).cell? ⟨g, q, none⟩ = some (.int .i64 (p[q]?.getD 0)) := cell_alloc_l _ hlast
      clear r2 hcell hlast hrow hq hne hl hok HI2 HMK
      generalize p[q]?.getD 0 = L at *
      go_wp2_with (first | (refine deed_load rfl _ rfl rfl (HE2.out.alloc _) ?_) | (refine desk_store rfl _ _ rfl rfl rfl rfl (HR2.out.alloc _) ?_; intro w3 hS3 hbl3 hsz3 hO3))
      refine bodyPost_ret (results_cell_tmp rfl _ _ (w.heap.size + 1 + 1) #[.int .i64 b, .int .i64 L, .slice (some ⟨g, 0, none⟩) q cap] _ (.bool true) rfl rfl hS3 rfl Tryz.underlying30 (by rw [size_desk]; rfl)) rfl ?_
      rw [hR.out]
      have hrf : Row w.heap.size w3 (.slice (some ⟨g, 0, none⟩) q cap) (p.take q) := Row.mono (Row.others (World.ownsRow.alloc hrow'.out _) (B := w.heap.size + 1 + 1) (by omega) hO3) (by omega)
      have hfin := (hb2.alloc hb2.size (.cells #[.int .i64 b, .int .i64 L, .slice (some ⟨g, 0, none⟩) q cap] 30)).trans (hbl3 w.heap.size (by omega))
      exact ⟨.slice (some ⟨g, 0, none⟩) q cap, rfl, .inl hrf, fun _ => hrf, hfin⟩
    · have hcase : (((k == 7) = true ∧ (n == 0) = true) ∧ ¬ 0 < p.length) ∨ (k == 7) = false ∨ ((k == 7) = true ∧ (n == 0) = false) := by
        by_cases h7 : k = 7
        · by_cases hn : n = 0
          · left
            refine ⟨⟨by rw [h7]; rfl, by rw [hn]; rfl⟩, ?_⟩
            have : p = [] := Classical.byContradiction fun h => hback ⟨⟨h7, hn⟩, h⟩
            rw [this]; simp
          · right; right
            exact ⟨by rw [h7]; rfl, by rw [beq_eq_false_iff_ne]; exact hn⟩
        · right; left
          rw [beq_eq_false_iff_ne]; exact h7
      have hp8 := ((Pl.dkB_iff _).1 hok).2.2
      have hp8' : p.length ≤ 8 := hp8
      have HY := Lib.hid (fun h => Pl.doA_yes (d := ⟨b, m, p⟩) (k := k) (n := n) hok hback h)
      have HNO := Lib.hid (fun h => Pl.doA_not (d := ⟨b, m, p⟩) (k := k) (n := n) hok hback h)
      generalize Pl.mkI ⟨b, m, p⟩ k n = M at *
      have HR2r := Lib.hid r2
      obtain ⟨a2, c2, rfl⟩ := r2.shape
      have ha2 := (HA2.out.alloc (.cells #[.int .i64 b, .int .i64 m, .slice a2 p.length c2] 30)).cell 2
      have HB3 : Hid (SBox (w2.alloc (.cells #[.int .i64 b, .int .i64 m, .slice a2 p.length c2] 30)) w2.heap.size 30 #[.int .i64 b, .int .i64 m, .slice a2 p.length c2]) := Lib.hid (SBox.new _ _ _)
      have HA3 := Lib.hid (HA2.out.alloc (.cells #[.int .i64 b, .int .i64 m, .slice a2 p.length c2] 30))
      have HE3 := Lib.hid (HE2.out.alloc (.cells #[.int .i64 b, .int .i64 m, .slice a2 p.length c2] 30))
      have HR3 := Lib.hid (HR2.out.alloc (.cells #[.int .i64 b, .int .i64 m, .slice a2 p.length c2] 30))
      have HV3 : Hid (Row w1.heap.size (w2.alloc (.cells #[.int .i64 b, .int .i64 m, .slice a2 p.length c2] 30)) (.slice a2 p.length c2) p) := Lib.hid (World.ownsRow.alloc r2 _)
      have hb3 := hb2.alloc hb2.size (.cells #[.int .i64 b, .int .i64 m, .slice a2 p.length c2] 30)
      have hz3 : (w2.alloc (.cells #[.int .i64 b, .int .i64 m, .slice a2 p.length c2] 30)).heap.size = w2.heap.size + 1 := by simp
      have HOWN : Hid ((Value.slice a2 p.length c2).ownBlock ≠ some w2.heap.size) := Lib.hid fun e => by
        have := (World.ownsRow.lt r2 _ e).2
        omega
      clear r2 hp8 hok hback HA2 HE2 HR2 HI2 hb2 b2 hb1 HR2r
      go_upto_region 4 with (fail)
      generalize w2.alloc (.cells #[.int .i64 b, .int .i64 m, .slice a2 p.length c2] 30) = w3 at *
      go_cut [23] (fun t wc => t = .bool false ∧ wc = w3)
      case first =>
        rcases hcase with ⟨⟨k7, n0⟩, hl0⟩ | k7 | ⟨k7, n0⟩
        all_goals
          go_wp2_with (refine deed_load rfl _ rfl rfl HE3.out ?_)
          go_meet
          exact ⟨rfl, rfl⟩
      case rest =>
        obtain ⟨rfl, rfl⟩ := hcut
        go_wp2_with (first | (refine deed_load rfl _ rfl rfl HE3.out ?_) | (refine desk_load rfl _ rfl rfl HA3.out ?_))
        refine (HMK.out _).mono ?_
        rintro e w5 ⟨rfl, b5⟩
        have HB5 := Lib.hid (HB3.out.kept b5)
        have HA5 := Lib.hid (HA3.out.kept b5)
        have HR5 := Lib.hid (HR3.out.kept b5)
        have HV5 := Lib.hid (HV3.out.below b5)
        have hb5 := hb3.trans (b5.mono hb3.size)
        have hz5 := b5.size
        have ha1 := HA5.out.cell 1
        clear HB3 HA3 HE3 HR3 HV3 hb3 b5 ha2
        by_cases hw : Pl.wholeB M = true
        · have HIN : Hid (∀ W, Calls Tryz.prog 49 #[.int .i64 M, .int .i64 0, .int .i64 1000000000] W fun e w' => e = .returned (.bool true) ∧ W = w') := Lib.hid fun W => by
            have := specIn M 0 1000000000 W
            unfold Pl.wholeB at hw
            rwa [hw] at this
          by_cases hm : M = m
          · have hR := Lib.hid (HNO.out fun h => h.2 hm)
            have hmm : (M == m) = true := by rw [hm]; simp
            clear hw hm HY HNO
            go_wp2_with (first | (go_at_call 49; refine (HIN.out _).mono ?_; rintro e w' ⟨rfl, rfl⟩) | (refine desk_load rfl _ rfl rfl HB5.out ?_) | (refine desk_store rfl _ _ rfl rfl rfl rfl HR5.out ?_; intro w6 hS6 hbl6 hsz6 hO6))
            refine bodyPost_ret (results_cell_tmp rfl _ _ (w.heap.size + 1 + 1) #[.int .i64 b, .int .i64 m, .slice a2 p.length c2] _ (.bool false) rfl rfl hS6 rfl Tryz.underlying30 (by rw [size_desk]; rfl)) rfl ?_
            rw [hR.out]
            have hrf : Row w.heap.size w6 (.slice a2 p.length c2) p := Row.mono (Row.others HV5.out (B := w.heap.size + 1 + 1) (by omega) hO6) (by omega)
            exact ⟨_, rfl, .inl hrf, fun _ => hrf, hb5.trans (hbl6 w.heap.size (by omega))⟩
          · have hR := Lib.hid (HY.out ⟨hw, hm⟩)
            have hmm : (M == m) = false := by rw [beq_eq_false_iff_ne]; exact hm
            obtain ⟨i0, hi0, hz0, hz1, hz2'⟩ := info_parts info_int
            have hr2 : w5.ownsRow w1.heap.size 3 1 (.slice a2 p.length c2) p.length (p.map (Value.int .i64)) := HV5.out
            have e1 := HB5.out.cell 1
            have e2 := HB5.out.cell 2
            have H8 : Hid (∀ (v8 : Value) (w8 : World), w8.ownsRow w1.heap.size 3 1 v8 (p.length + 1) (p.map (Value.int .i64) ++ [.int .i64 m]) → (w5.alloc (.cells #[.int .i64 m] 3)).grownBy w8 (Value.slice a2 p.length c2).ownBlock →
              Row w1.heap.size w8 v8 (p ++ [m]) ∧ SBox w8 w2.heap.size 30 #[.int .i64 b, .int .i64 m, .slice a2 p.length c2] ∧ SBox w8 (w.heap.size + 1 + 1) 30 #[.int .i64 0, .int .i64 0, .slice none 0 0] ∧ Below w.heap.size w w8 ∧ w5.heap.size < w8.heap.size) := Lib.hid fun v8 w8 hown hgrow => by
              have hbA : Below w1.heap.size (w5.alloc (.cells #[.int .i64 m] 3)) w8 := (Below.refl _ _).grown hgrow (by simp; omega) fun k e => (World.ownsRow.lt hr2 k e).1
              refine ⟨row_snoc hown, (HB5.out.alloc _).grown hgrow HOWN.out, (HR5.out.alloc _).below hbA (by omega), ?_, ?_⟩
              · exact (hb5.alloc hb5.size _).trans (hbA.mono (by omega))
              · have := hgrow.size; simp at this; omega
            have hne : w.heap.size + 1 + 1 ≠ w2.heap.size := by omega
            clear hw hm HY HNO HV5
            by_cases h8 : 8 ≤ p.length
            · have h8t : (8 : Int) < (p.length : Int) + 1 := by omega
              have h8f : (1 : Int) ≤ (p.length : Int) + 1 := by omega
              go_upto_region 16 with (first
                | (go_at_call 49; refine (HIN.out _).mono ?_; rintro e w' ⟨rfl, rfl⟩)
                | (at_builtin; refine wpList_append_own _ rfl _ _ 28 rfl w1.heap.size 3 i0 (.int .i64 0) 1 8 Tryz.underlying28 hi0 hz0 hz1 hz2' rfl (by decide) _ _ _ rfl (hr2.alloc _) ⟨w5.heap.size, 0, none⟩ 1 1 [.int .i64 m] rfl rfl (cell_one_new _ _ _) (by simp [Value.oneCell']) (by unfold maxLen; omega) (by omega) (by rw [World.size_alloc]; omega) ?_; intro v8 w8 hown8 hgrow8 _; obtain ⟨r8, hB8, hR8, hb8, hz8⟩ := H8.out v8 w8 hown8 hgrow8; obtain ⟨g3, c3, rfl, hg3, hg3', hgc3, _, _⟩ := r8.lies (by simp); have f2 := hB8.frozen 2; have d2 := hB8.cell 2; have f1 := hB8.frozen 1; have d1 := hB8.cell 1; have d0 := hB8.cell 0; have HB8 := Lib.hid hB8; have HR8 := Lib.hid hR8; have HV8 := Lib.hid r8; have hgc4 : p.length + 1 ≤ c3 := (by simpa using hgc3); have hc31 : ¬ c3 = 1 := (by omega); clear r8 hB8 hR8 hown8 hgrow8 e1 e2; clear hgc3; simp only [List.length_append, List.length_cons, List.length_nil, Nat.zero_add]))
              have hSB : SBox (((w8.setCell ⟨w2.heap.size, 2, none⟩ (.slice (some ⟨g3, 0, none⟩) (p.length + 1) c3)).setCell ⟨w2.heap.size, 2, none⟩ (.slice (some ⟨g3, 1, none⟩) p.length (c3 - 1))).setCell ⟨w2.heap.size, 1, none⟩ (.int .i64 M)) w2.heap.size 30 #[.int .i64 b, .int .i64 M, .slice (some ⟨g3, 1, none⟩) p.length (c3 - 1)] := ((HB8.out.set 2 _).set 2 _).set 1 _
              have hSR : SBox (((w8.setCell ⟨w2.heap.size, 2, none⟩ (.slice (some ⟨g3, 0, none⟩) (p.length + 1) c3)).setCell ⟨w2.heap.size, 2, none⟩ (.slice (some ⟨g3, 1, none⟩) p.length (c3 - 1))).setCell ⟨w2.heap.size, 1, none⟩ (.int .i64 M)) (w.heap.size + 1 + 1) 30 #[.int .i64 0, .int .i64 0, .slice none 0 0] := ((HR8.out.far (p := ⟨w2.heap.size, 2, none⟩) hne _).far (p := ⟨w2.heap.size, 2, none⟩) hne _).far (p := ⟨w2.heap.size, 1, none⟩) hne _
              have hRW : Row w1.heap.size (((w8.setCell ⟨w2.heap.size, 2, none⟩ (.slice (some ⟨g3, 0, none⟩) (p.length + 1) c3)).setCell ⟨w2.heap.size, 2, none⟩ (.slice (some ⟨g3, 1, none⟩) p.length (c3 - 1))).setCell ⟨w2.heap.size, 1, none⟩ (.int .i64 M)) (.slice (some ⟨g3, 0, none⟩) (p ++ [m]).length c3) (p ++ [m]) := ((HV8.out.setBox HB8.out (by decide) 2 _).setBox (HB8.out.set 2 _) (by decide) 2 _).setBox ((HB8.out.set 2 _).set 2 _) (by decide) 1 _
              have hBW : Below w.heap.size w (((w8.setCell ⟨w2.heap.size, 2, none⟩ (.slice (some ⟨g3, 0, none⟩) (p.length + 1) c3)).setCell ⟨w2.heap.size, 2, none⟩ (.slice (some ⟨g3, 1, none⟩) p.length (c3 - 1))).setCell ⟨w2.heap.size, 1, none⟩ (.int .i64 M)) := ((hb8.setCell (p := ⟨w2.heap.size, 2, none⟩) (by simp; omega) _).setCell (p := ⟨w2.heap.size, 2, none⟩) (by simp; omega) _).setCell (p := ⟨w2.heap.size, 1, none⟩) (by simp; omega) _
              have HSB := Lib.hid hSB
              have HSR := Lib.hid hSR
              clear hSB hSR f2 d2 f1 d1 d0 ha1
              generalize (((w8.setCell ⟨w2.heap.size, 2, none⟩ (.slice (some ⟨g3, 0, none⟩) (p.length + 1) c3)).setCell ⟨w2.heap.size, 2, none⟩ (.slice (some ⟨g3, 1, none⟩) p.length (c3 - 1))).setCell ⟨w2.heap.size, 1, none⟩ (.int .i64 M)) = W9 at *
              go_wp2_with (first | (refine desk_load rfl _ rfl rfl HSB.out ?_) | (refine desk_store rfl _ _ rfl rfl rfl rfl HSR.out ?_; intro w9 hS9 hbl9 hsz9 hO9))
              refine bodyPost_ret (results_cell_tmp rfl _ _ (w.heap.size + 1 + 1) #[.int .i64 b, .int .i64 M, .slice (some ⟨g3, 1, none⟩) p.length (c3 - 1)] _ (.bool true) rfl rfl hS9 rfl Tryz.underlying30 (by rw [size_desk]; rfl)) rfl ?_
              rw [hR.out]
              have hcut : Pl.cut8 (p ++ [m]) = (p ++ [m]).drop 1 := by unfold Pl.cut8; rw [if_pos (by simp; omega)]
              have hrf : RowTail w.heap.size w9 (.slice (some ⟨g3, 1, none⟩) p.length (c3 - 1)) ((p ++ [m]).drop 1) :=
                ⟨g3, 1, c3 - 1, c3, p ++ [m], by simp, rfl, by simp; omega, Row.mono (Row.others hRW (B := w.heap.size + 1 + 1) (by omega) hO9) (by omega)⟩
              exact ⟨_, rfl, .inr (by rw [hcut]; exact hrf), fun h => by omega, hBW.trans (hbl9 w.heap.size (by omega))⟩
            · have h8t : ¬ (8 : Int) < (p.length : Int) + 1 := by omega
              go_upto_region 16 with (first
                | (go_at_call 49; refine (HIN.out _).mono ?_; rintro e w' ⟨rfl, rfl⟩)
                | (at_builtin; refine wpList_append_own _ rfl _ _ 28 rfl w1.heap.size 3 i0 (.int .i64 0) 1 8 Tryz.underlying28 hi0 hz0 hz1 hz2' rfl (by decide) _ _ _ rfl (hr2.alloc _) ⟨w5.heap.size, 0, none⟩ 1 1 [.int .i64 m] rfl rfl (cell_one_new _ _ _) (by simp [Value.oneCell']) (by unfold maxLen; omega) (by omega) (by rw [World.size_alloc]; omega) ?_; intro v8 w8 hown8 hgrow8 _; obtain ⟨r8, hB8, hR8, hb8, hz8⟩ := H8.out v8 w8 hown8 hgrow8; obtain ⟨g3, c3, rfl, hg3, hg3', hgc3, _, _⟩ := r8.lies (by simp); have f2 := hB8.frozen 2; have d2 := hB8.cell 2; have f1 := hB8.frozen 1; have d1 := hB8.cell 1; have d0 := hB8.cell 0; have HB8 := Lib.hid hB8; have HR8 := Lib.hid hR8; have HV8 := Lib.hid r8; clear r8 hB8 hR8 hown8 hgrow8 e1 e2; clear hgc3; simp only [List.length_append, List.length_cons, List.length_nil, Nat.zero_add]))
              have hSB : SBox ((w8.setCell ⟨w2.heap.size, 2, none⟩ (.slice (some ⟨g3, 0, none⟩) (p.length + 1) c3)).setCell ⟨w2.heap.size, 1, none⟩ (.int .i64 M)) w2.heap.size 30 #[.int .i64 b, .int .i64 M, .slice (some ⟨g3, 0, none⟩) (p.length + 1) c3] := (HB8.out.set 2 _).set 1 _
              have hSR : SBox ((w8.setCell ⟨w2.heap.size, 2, none⟩ (.slice (some ⟨g3, 0, none⟩) (p.length + 1) c3)).setCell ⟨w2.heap.size, 1, none⟩ (.int .i64 M)) (w.heap.size + 1 + 1) 30 #[.int .i64 0, .int .i64 0, .slice none 0 0] := (HR8.out.far (p := ⟨w2.heap.size, 2, none⟩) hne _).far (p := ⟨w2.heap.size, 1, none⟩) hne _
              have hRW : Row w1.heap.size ((w8.setCell ⟨w2.heap.size, 2, none⟩ (.slice (some ⟨g3, 0, none⟩) (p.length + 1) c3)).setCell ⟨w2.heap.size, 1, none⟩ (.int .i64 M)) (.slice (some ⟨g3, 0, none⟩) (p ++ [m]).length c3) (p ++ [m]) := (HV8.out.setBox HB8.out (by decide) 2 _).setBox (HB8.out.set 2 _) (by decide) 1 _
              have hBW : Below w.heap.size w ((w8.setCell ⟨w2.heap.size, 2, none⟩ (.slice (some ⟨g3, 0, none⟩) (p.length + 1) c3)).setCell ⟨w2.heap.size, 1, none⟩ (.int .i64 M)) := (hb8.setCell (p := ⟨w2.heap.size, 2, none⟩) (by simp; omega) _).setCell (p := ⟨w2.heap.size, 1, none⟩) (by simp; omega) _
              have HSB := Lib.hid hSB
              have HSR := Lib.hid hSR
              clear hSB hSR f2 d2 f1 d1 d0 ha1
              generalize ((w8.setCell ⟨w2.heap.size, 2, none⟩ (.slice (some ⟨g3, 0, none⟩) (p.length + 1) c3)).setCell ⟨w2.heap.size, 1, none⟩ (.int .i64 M)) = W9 at *
              go_wp2_with (first | (refine desk_load rfl _ rfl rfl HSB.out ?_) | (refine desk_store rfl _ _ rfl rfl rfl rfl HSR.out ?_; intro w9 hS9 hbl9 hsz9 hO9))
              refine bodyPost_ret (results_cell_tmp rfl _ _ (w.heap.size + 1 + 1) #[.int .i64 b, .int .i64 M, .slice (some ⟨g3, 0, none⟩) (p.length + 1) c3] _ (.bool true) rfl rfl hS9 rfl Tryz.underlying30 (by rw [size_desk]; rfl)) rfl ?_
              rw [hR.out]
              have hcut : Pl.cut8 (p ++ [m]) = p ++ [m] := Pl.cut8_few (by simp; omega)
              have hrf : Row w.heap.size w9 (.slice (some ⟨g3, 0, none⟩) (p.length + 1) c3) (p ++ [m]) := by
                have := Row.mono (Row.others hRW (B := w.heap.size + 1 + 1) (by omega) hO9) (show w.heap.size ≤ w1.heap.size by omega)
                simpa using this
              exact ⟨_, rfl, .inl (by rw [hcut]; exact hrf), fun _ => by rw [hcut]; exact hrf, hBW.trans (hbl9 w.heap.size (by omega))⟩
        · have hw' : Pl.wholeB M = false := by simpa using hw
          have HIN : Hid (∀ W, Calls Tryz.prog 49 #[.int .i64 M, .int .i64 0, .int .i64 1000000000] W fun e w' => e = .returned (.bool false) ∧ W = w') := Lib.hid fun W => by
            have := specIn M 0 1000000000 W
            unfold Pl.wholeB at hw'
            rwa [hw'] at this
          have hR := Lib.hid (HNO.out fun h => hw h.1)
          clear hw hw' HY HNO
          go_wp2_with (first | (go_at_call 49; refine (HIN.out _).mono ?_; rintro e w' ⟨rfl, rfl⟩) | (refine desk_load rfl _ rfl rfl HB5.out ?_) | (refine desk_store rfl _ _ rfl rfl rfl rfl HR5.out ?_; intro w6 hS6 hbl6 hsz6 hO6))
          refine bodyPost_ret (results_cell_tmp rfl _ _ (w.heap.size + 1 + 1) #[.int .i64 b, .int .i64 m, .slice a2 p.length c2] _ (.bool false) rfl rfl hS6 rfl Tryz.underlying30 (by rw [size_desk]; rfl)) rfl ?_
          rw [hR.out]
          have hrf : Row w.heap.size w6 (.slice a2 p.length c2) p := Row.mono (Row.others HV5.out (B := w.heap.size + 1 + 1) (by omega) hO6) (by omega)
          exact ⟨_, rfl, .inl hrf, fun _ => hrf, hb5.trans (hbl6 w.heap.size (by omega))⟩
  · have hno : Pl.dkB ⟨b, m, p⟩ = false := by simpa using hok
    rw [hno]
    have HR1 := Lib.hid hR1
    have hR := Lib.hid (Pl.doA_none (k := k) (n := n) hok)
    clear hA1 hE1 hR1 hI1 hok hno HCP HMK
    go_wp2_with (refine desk_store rfl _ _ rfl rfl rfl rfl HR1.out ?_; intro w2 hS2 hbl2 hsz2 _)
    refine bodyPost_ret (results_cell_tmp rfl _ _ (w.heap.size + 1 + 1) #[.int .i64 0, .int .i64 0, .slice none 0 0] _ (.bool false) rfl rfl hS2 rfl Tryz.underlying30 (by rw [size_desk]; rfl)) rfl ?_
    rw [hR.out]
    have hfin := hb1.trans (hbl2 w.heap.size (by omega))
    exact ⟨.slice none 0 0, rfl, .inl (World.ownsRow_nil _ _ _ _), fun _ => World.ownsRow_nil _ _ _ _, hfin⟩

end Go.Proofs.YtgkkoegfmhgcjaaGreatDoor

namespace Go.Proofs.YtgkkoegfmhgcjaaGreatDoor
open Go.RowKit Go.Shelf

set_option maxRecDepth 100000 in
set_option maxHeartbeats 2000000 in
theorem specDeskNew (n b : Int) (w : World) :
    Calls Tryz.prog 90 #[.int .i64 n, .int .i64 b] w fun e w' => e = .returned (.tuple #[.agg #[.int .i64 (Pl.newA n b).1.b, .int .i64 (Pl.newA n b).1.n, .slice none 0 0], .bool (Pl.newA n b).2]) ∧ Below w.heap.size w w' := by
  have hbw : Below w.heap.size w ((w.alloc (.cells #[.int .i64 0, .int .i64 0, .slice none 0 0] 30)).alloc (.cells #[.int .i64 b, .int .i64 n, .slice none 0 0] 30)) := ((Below.refl _ w).alloc (Nat.le_refl _) _).alloc (by simp) _
  have hR0 : SBox ((w.alloc (.cells #[.int .i64 0, .int .i64 0, .slice none 0 0] 30)).alloc (.cells #[.int .i64 b, .int .i64 n, .slice none 0 0] 30)) w.heap.size 30 #[.int .i64 0, .int .i64 0, .slice none 0 0] := (SBox.new w 30 _).alloc _
  have hD0 : SBox ((w.alloc (.cells #[.int .i64 0, .int .i64 0, .slice none 0 0] 30)).alloc (.cells #[.int .i64 b, .int .i64 n, .slice none 0 0] 30)) (w.heap.size + 1) 30 #[.int .i64 b, .int .i64 n, .slice none 0 0] := by
    have := SBox.new (w.alloc (.cells #[.int .i64 0, .int .i64 0, .slice none 0 0] 30)) 30 #[.int .i64 b, .int .i64 n, .slice none 0 0]
    rwa [World.size_alloc] at this
  have HOK := Lib.hid (fun W => specDeskOk ⟨b, n, []⟩ (.slice none 0 0) W (Ints.nil W) (by simp))
  rw [Pl.dkB_new] at HOK
  obtain ⟨R, hR⟩ : ∃ R, Pl.newA n b = R := ⟨_, rfl⟩
  rw [hR]
  go_enter Tryz.func90, Tryz.ntmps90
  go_wp2_with fail
  generalize ((w.alloc (.cells #[.int .i64 0, .int .i64 0, .slice none 0 0] 30)).alloc (.cells #[.int .i64 b, .int .i64 n, .slice none 0 0] 30)) = w0 at *
  refine (HOK.out _).mono ?_
  rintro e w1 ⟨rfl, b1⟩
  have HR1 := Lib.hid (hR0.kept b1)
  have HD1 := Lib.hid (hD0.kept b1)
  have hb1 := hbw.trans (b1.mono hbw.size)
  clear hR0 hD0 b1 hbw HOK
  by_cases hok : Pl.okB n b = true
  · rw [hok]
    rw [Pl.newA, if_pos hok] at hR
    subst hR
    go_wp2_with (first | (refine desk_load rfl _ rfl rfl HD1.out ?_) | (refine desk_store rfl _ _ rfl rfl rfl rfl HR1.out ?_; intro w2 hS2 hbl2 hsz2 _))
    refine bodyPost_ret (results_cell_tmp rfl _ _ w.heap.size #[.int .i64 b, .int .i64 n, .slice none 0 0] _ (.bool true) rfl rfl hS2 rfl Tryz.underlying30 (by rw [size_desk]; rfl)) rfl ?_
    exact ⟨rfl, hb1.trans (hbl2 w.heap.size (by omega))⟩
  · have hno : Pl.okB n b = false := by simpa using hok
    rw [hno]
    rw [Pl.newA, if_neg hok] at hR
    subst hR
    go_wp2_with (refine desk_store rfl _ _ rfl rfl rfl rfl HR1.out ?_; intro w2 hS2 hbl2 hsz2 _)
    refine bodyPost_ret (results_cell_tmp rfl _ _ w.heap.size #[.int .i64 0, .int .i64 0, .slice none 0 0] _ (.bool false) rfl rfl hS2 rfl Tryz.underlying30 (by rw [size_desk]; rfl)) rfl ?_
    exact ⟨rfl, hb1.trans (hbl2 w.heap.size (by omega))⟩

/-- A call that hands back a desk in new memory, and a number. -/
def RunPost (w : World) (r : Pl.Dk × Nat) (e : Ending) (w' : World) : Prop :=
  ∃ v, e = .returned (.tuple #[.agg #[.int .i64 r.1.b, .int .i64 r.1.n, v], .int .i64 (r.2 : Int)]) ∧ OwnTail w.heap.size w' v r.1.past ∧ Below w.heap.size w w'
/-- A row lies as it lay where a struct is written. -/
theorem Row.stored {base : Nat} {w w' : World} {v : Value} {xs : List Int} (h : Row base w v xs) {B : Nat} {T : TypeId} {cs : Array Value} (hB : SBox w B T cs) (hT : T ≠ 3) (ho : ∀ i, i ≠ B → w'.heap[i]? = w.heap[i]?) : Row base w' v xs := by
  rcases h with ⟨h1, h2 | ⟨g, cap, cur, hv, hg, hh, r⟩⟩
  · exact ⟨h1, .inl h2⟩
  · refine ⟨h1, .inr ⟨g, cap, cur, hv, hg, ?_, r⟩⟩
    rw [ho g ?_]
    · exact hh
    · rintro rfl
      unfold SBox at hB
      rw [hB] at hh
      injection hh with hh
      injection hh with _ ht _
      exact hT ht
theorem OwnTail.stored {base : Nat} {w w' : World} {v : Value} {xs : List Int} (h : OwnTail base w v xs) {B : Nat} {T : TypeId} {cs : Array Value} (hB : SBox w B T cs) (hT : T ≠ 3) (ho : ∀ i, i ≠ B → w'.heap[i]? = w.heap[i]?) : OwnTail base w' v xs := by
  rcases h with h | ⟨g, off, cap, capY, ys, hv, hd, hl, hr⟩
  · exact .inl (h.stored hB hT ho)
  · exact .inr ⟨g, off, cap, capY, ys, hv, hd, hl, hr.stored hB hT ho⟩
theorem OwnTail.setOther {base : Nat} {w : World} {v : Value} {xs : List Int} (h : OwnTail base w v xs) {p : Addr} (hp : p.block < base) (u : Value) : OwnTail base (w.setCell p u) v xs := by
  rcases h with h | ⟨g, off, cap, capY, ys, hv, hd, hl, hr⟩
  · exact .inl (h.setOther hp u)
  · exact .inr ⟨g, off, cap, capY, ys, hv, hd, hl, hr.setOther hp u⟩
theorem OwnTail.setBox {base : Nat} {w : World} {v : Value} {xs : List Int} (h : OwnTail base w v xs) {B : Nat} {T : TypeId} {cs : Array Value} (hB : SBox w B T cs) (hT : T ≠ 3) (i : Nat) (u : Value) : OwnTail base (w.setCell ⟨B, i, none⟩ u) v xs := by
  rcases h with h | ⟨g, off, cap, capY, ys, hv, hd, hl, hr⟩
  · exact .inl (h.setBox hB hT i u)
  · exact .inr ⟨g, off, cap, capY, ys, hv, hd, hl, hr.setBox hB hT i u⟩
theorem OwnTail.mono {base base' : Nat} {w : World} {v : Value} {xs : List Int} (h : OwnTail base w v xs) (hb : base' ≤ base) : OwnTail base' w v xs := by
  rcases h with h | ⟨g, off, cap, capY, ys, hv, hd, hl, hr⟩
  · exact .inl (h.mono hb)
  · exact .inr ⟨g, off, cap, capY, ys, hv, hd, hl, hr.mono hb⟩

end Go.Proofs.YtgkkoegfmhgcjaaGreatDoor
