/-
  Slices of integers: what comes in (IsRow), what a value holds (Ints), what a call owns (Row); BaseOk, l1In; sameInts, eqIntS, markIntS, heldIntS, hasInt, ascend.
-/
import Derived.Test.YtakkjlcnfkklpaaProg
import Derived.WalkKit
import Derived.Below
import Derived.Test.YtakkjlcnfkklpaaMath
import Derived.Lib.Hide
import Derived.Deep.QuietTactic
import Derived.BigQuiet
import Derived.OpenShut
import Derived.RangeFuncBox
namespace Go.Proofs.Ytakkjlcnfkklpaa
open Go.RowKit

/-- A slice of integers that came in: nil; or a row of 'cap' cells, the numbers 'zs' (the first 'len' are its elements), each fitting its kind. -/
def IsRow (k : IntKind) (w : World) (a : Option Addr) (len cap : Nat) (zs : List Int) : Prop :=
  (a = none ∧ len = 0 ∧ cap = 0 ∧ zs = []) ∨
  ∃ x, a = some x ∧ len ≤ cap ∧ cap ≤ maxLen ∧ zs.length = cap ∧ (∀ i, i < zs.length → w.cell? (x.add i) = some (.int k (zs.getD i 0))) ∧ ∀ n ∈ zs, (Lit.int k n).wf = true

end Go.Proofs.Ytakkjlcnfkklpaa

namespace Go.Proofs.Ytakkjlcnfkklpaa
open Go.RowKit

theorem ret_bool {a b : Bool} (h : a = b) : Ending.returned (.bool a) = .returned (.bool b) := by rw [h]
theorem ret_int {k : IntKind} {a b : Int} (h : a = b) : Ending.returned (.int k a) = .returned (.int k b) := by rw [h]

set_option maxHeartbeats 400000 in
theorem implBaseOk (b : Int) (w : World) :
    Calls Try.prog 42 #[.int .i64 b] w fun e w' => e = .returned (.bool (Pl.baseB b)) ∧ w = w' := by
  by_cases h1 : 2 ≤ b
  · by_cases h2 : b ≤ 16
    · go_enter Try.func42, Try.ntmps42
      go_wp2
      go_ret
      exact ⟨ret_bool (by simp [Pl.baseB]; omega), rfl⟩
    · go_enter Try.func42, Try.ntmps42
      go_wp2
      go_ret
      exact ⟨ret_bool (by simp [Pl.baseB]; omega), rfl⟩
  · go_enter Try.func42, Try.ntmps42
    go_wp2
    go_ret
    exact ⟨ret_bool (by simp [Pl.baseB]; omega), rfl⟩

set_option maxHeartbeats 400000 in
theorem specIn (n l h : Int) (w : World) :
    Calls Try.prog 40 #[.int .i64 n, .int .i64 l, .int .i64 h] w fun e w' => e = .returned (.bool (decide (l ≤ n) && decide (n ≤ h))) ∧ w = w' := by
  by_cases h1 : l ≤ n
  · go_enter Try.func40, Try.ntmps40
    go_wp2
    go_ret
    exact ⟨ret_bool (by simp [h1]), rfl⟩
  · go_enter Try.func40, Try.ntmps40
    go_wp2
    go_ret
    exact ⟨ret_bool (by simp; omega), rfl⟩

theorem specIn_yes (n l h : Int) (w : World) (h1 : l ≤ n ∧ n ≤ h) :
    Calls Try.prog 40 #[.int .i64 n, .int .i64 l, .int .i64 h] w fun e w' => e = .returned (.bool true) ∧ w = w' := by
  have := specIn n l h w
  rwa [show (decide (l ≤ n) && decide (n ≤ h)) = true from by simp [h1.1, h1.2]] at this

theorem specIn_no (n l h : Int) (w : World) (h1 : ¬ (l ≤ n ∧ n ≤ h)) :
    Calls Try.prog 40 #[.int .i64 n, .int .i64 l, .int .i64 h] w fun e w' => e = .returned (.bool false) ∧ w = w' := by
  have := specIn n l h w
  rwa [show (decide (l ≤ n) && decide (n ≤ h)) = false from by simp; omega] at this

set_option maxHeartbeats 400000 in
theorem specBaseOk (b : Int) (w : World) :
    Calls Try.prog 41 #[.int .i64 b] w fun e w' => e = .returned (.bool (Pl.baseB b)) ∧ w = w' := by
  go_enter Try.func41, Try.ntmps41
  go_wp2_with (go_at_call 40; refine (specIn _ _ _ _).mono ?_; rintro e w' ⟨rfl, rfl⟩)
  go_ret
  exact ⟨ret_bool rfl, rfl⟩

end Go.Proofs.Ytakkjlcnfkklpaa

namespace Go.Proofs.Ytakkjlcnfkklpaa
open Go.RowKit

/-- The slice value v holds the integers xs. -/
def Ints (w : World) (v : Value) (xs : List Int) : Prop :=
  ∃ a cap, v = .slice a xs.length cap ∧ ∀ j, j < xs.length → ∃ b off, a = some ⟨b, off, none⟩ ∧ w.cell? ⟨b, off + j, none⟩ = some (.int .i64 (xs[j]?.getD 0))

/-- The slice value v owns the integers xs, in a block from 'base' on. -/
def Row (base : Nat) (w : World) (v : Value) (xs : List Int) : Prop := w.ownsRow base 3 1 v xs.length (xs.map (Value.int .i64))

theorem Ints.below {w w' : World} {v : Value} {xs : List Int} (h : Ints w v xs) (hb : Below w.heap.size w w') : Ints w' v xs := by
  obtain ⟨a, cap, hv, hc⟩ := h
  refine ⟨a, cap, hv, fun j hj => ?_⟩
  obtain ⟨b, off, ha, hx⟩ := hc j hj
  exact ⟨b, off, ha, (hb.cell (p := ⟨b, off + j, none⟩) (World.block_lt_of_cell? _ _ hx)).trans hx⟩

theorem Row.shape {base : Nat} {w : World} {v : Value} {xs : List Int} (h : Row base w v xs) : ∃ a cap, v = .slice a xs.length cap := by
  rcases h.2 with ⟨rfl, h0⟩ | ⟨g, cap, cur, rfl, _⟩
  · rw [h0]; exact ⟨none, 0, rfl⟩
  · exact ⟨_, cap, rfl⟩

theorem Row.ints {base : Nat} {w : World} {v : Value} {xs : List Int} (h : Row base w v xs) : Ints w v xs := by
  have h' := h
  rcases h.2 with ⟨rfl, h0⟩ | ⟨g, cap, cur, rfl, _⟩
  · rw [List.length_eq_zero_iff] at h0; subst h0; exact ⟨none, 0, rfl, fun j hj => by simp at hj⟩
  · refine ⟨_, cap, rfl, fun j hj => ⟨g, 0, rfl, ?_⟩⟩
    have := World.ownsRow.cellAt h' j (by omega)
    rw [Nat.zero_add, this]
    simp [hj]

theorem lt_of_heap {w : World} {b : Nat} {o : Obj} (h : w.heap[b]? = some o) : b < w.heap.size := by
  rcases Nat.lt_or_ge b w.heap.size with h' | h'
  · exact h'
  · simp [Array.getElem?_eq_none h'] at h

theorem Row.below {base : Nat} {w w' : World} {v : Value} {xs : List Int} (h : Row base w v xs) (hb : Below w.heap.size w w') : Row base w' v xs := by
  rcases h with ⟨h1, h2 | ⟨g, cap, cur, hv, hg, hh, r⟩⟩
  · exact ⟨h1, .inl h2⟩
  · exact ⟨h1, .inr ⟨g, cap, cur, hv, hg, by rw [hb.block g (lt_of_heap hh)]; exact hh, r⟩⟩

theorem Row.mono {base base' : Nat} {w : World} {v : Value} {xs : List Int} (h : Row base w v xs) (hb : base' ≤ base) : Row base' w v xs := by
  rcases h with ⟨h1, h2 | ⟨g, cap, cur, hv, hg, r⟩⟩
  · exact ⟨h1, .inl h2⟩
  · exact ⟨h1, .inr ⟨g, cap, cur, hv, Nat.le_trans hb hg, r⟩⟩

theorem IsRow.ints {w : World} {a : Option Addr} {len cap : Nat} {zs : List Int} (h : IsRow .i64 w a len cap zs) : Ints w (.slice a len cap) (zs.take len) ∧ (zs.take len).length = len := by
  rcases h with ⟨rfl, rfl, rfl, rfl⟩ | ⟨x, rfl, hl, hm, hz, hc, hw⟩
  · exact ⟨⟨none, 0, rfl, fun j hj => by simp at hj⟩, rfl⟩
  · have hlen : (zs.take len).length = len := by simp; omega
    refine ⟨⟨some x, cap, by rw [hlen], fun j hj => ?_⟩, hlen⟩
    rw [hlen] at hj
    have hcj := hc j (by omega)
    have hs := World.cell?_spot hcj
    obtain ⟨b, off, spot⟩ := x
    have hs : spot = none := by
      simp only [Addr.add] at hs
      split at hs
      · exact hs
      · exact (by simpa [Addr.add] using World.cell?_spot (hc 0 (by omega)))
    subst hs
    refine ⟨b, off, rfl, ?_⟩
    have e : (⟨b, off, none⟩ : Addr).add j = ⟨b, off + j, none⟩ := by
      simp only [Addr.add]; split
      · subst j; rfl
      · rfl
    rw [e] at hcj
    rw [hcj, List.getD_eq_getElem?_getD, List.getElem?_take, if_pos hj]

theorem take_succ_eq {xs ys : List Int} (hl : xs.length = ys.length) {k : Nat} (hk : k < xs.length) (h : xs.take k = ys.take k) (he : xs[k]?.getD 0 = ys[k]?.getD 0) : xs.take (k + 1) = ys.take (k + 1) := by
  rw [List.take_succ_eq_append_getElem hk, List.take_succ_eq_append_getElem (hl ▸ hk), h]
  simp only [List.getElem?_eq_getElem hk, List.getElem?_eq_getElem (hl ▸ hk : k < ys.length), Option.getD_some] at he
  rw [he]

theorem drewN_below (w : World) (n : Nat) : Below w.heap.size w (w.drewN n) := ⟨rfl, rfl, rfl, Nat.le_refl _, fun _ _ => rfl⟩

/-- Whether two lists are equal. -/
def eqL (xs ys : List Int) : Bool := decide (xs = ys)

set_option maxHeartbeats 800000 in
theorem sameInts (u v : Value) (xs ys : List Int) (w : World) (hu : Ints w u xs) (hv : Ints w v ys) (hx : xs.length ≤ 1000000000) :
    Calls Try.prog 44 #[u, v] w fun e w' => e = .returned (.bool (eqL xs ys)) ∧ Below w.heap.size w w' := by
  obtain ⟨a, cap, rfl, ha⟩ := hu
  obtain ⟨b, cbp, rfl, hb⟩ := hv
  by_cases hl : xs.length = ys.length
  · have hne : ((xs.length : Int) != (ys.length : Int)) = false := by simp [hl]
    have HL := Lib.hid hl
    clear hl
    go_enter Try.func44, Try.ntmps44
    go_wp2
    go_loopw [5] (fun i wr => ∃ (k n : Nat), k ≤ xs.length ∧ i = .int .i64 k ∧ xs.take k = ys.take k ∧ wr = w.drewN n) (fun i _ => xs.length - (intOf i).toNat)
    case atStart => exact ⟨0, 0, Nat.zero_le _, rfl, rfl, rfl⟩
    case round =>
      obtain ⟨k, n, hk, rfl, ht, rfl⟩ := hrel
      by_cases hlt : k < xs.length
      · obtain ⟨b1, o1, rfl, c1⟩ := ha k hlt
        obtain ⟨b2, o2, rfl, c2⟩ := hb k (by rw [← HL.out]; exact hlt)
        clear ha hb
        generalize hp : xs[k]?.getD 0 = p at *
        generalize hq : ys[k]?.getD 0 = q at *
        have HP := Lib.hid hp
        have HQ := Lib.hid hq
        have HT := Lib.hid ht
        clear hp hq ht
        have hi1 : (k : Int) < (xs.length : Int) := by omega
        have hi2 : (k : Int) < (ys.length : Int) := by have := HL.out; omega
        go_wp2
        go_quiet (fail)
        go_wp2
        · have hd : (p != q) = true := by assumption
          go_ret
          refine ⟨ret_bool ?_, (drewN_below _ _).trans ((drewN_below (w.drewN n) nq).mono (Nat.le_refl _))⟩
          have : xs ≠ ys := fun e => by
            rw [← HP.out, ← HQ.out, e] at hd; simp at hd
          simp [eqL, this]
        · have hd : (p != q) = false := by assumption
          have he : p = q := by simpa using hd
          refine ⟨⟨k + 1, n + nq, by omega, by go_num, take_succ_eq HL.out hlt HT.out (by rw [HP.out, HQ.out, he]), rfl⟩, by simp [intOf]; omega⟩
      · obtain rfl : k = xs.length := by omega
        have he : xs = ys := by
          rw [List.take_length, HL.out, List.take_length] at ht; exact ht
        clear ha hb ht
        have HE := Lib.hid he
        clear he
        go_wp2
        go_ret
        exact ⟨ret_bool (by simp [eqL, HE.out]), drewN_below _ _⟩
  · have hne : ((xs.length : Int) != (ys.length : Int)) = true := by simp; omega
    have hnq : xs ≠ ys := fun e => hl (by rw [e])
    clear hl ha hb
    go_enter Try.func44, Try.ntmps44
    go_wp2
    go_ret
    exact ⟨ret_bool (by simp [eqL, hnq]), Below.refl _ _⟩

set_option maxHeartbeats 800000 in
theorem eqIntS (u v : Value) (xs ys : List Int) (w : World) (hu : Ints w u xs) (hv : Ints w v ys) (hx : xs.length ≤ 1000000000) :
    Calls Try.prog 57 #[u, v] w fun e w' => e = .returned (.bool (eqL xs ys)) ∧ Below w.heap.size w w' := by
  obtain ⟨a, cap, rfl, ha⟩ := hu
  obtain ⟨b, cbp, rfl, hb⟩ := hv
  by_cases hl : xs.length = ys.length
  · have hne : ((xs.length : Int) != (ys.length : Int)) = false := by simp [hl]
    have HL := Lib.hid hl
    clear hl
    go_enter Try.func57, Try.ntmps57
    go_wp2
    go_loopw [5] (fun i wr => ∃ (k n : Nat), k ≤ xs.length ∧ i = .int .i64 k ∧ xs.take k = ys.take k ∧ wr = w.drewN n) (fun i _ => xs.length - (intOf i).toNat)
    case atStart => exact ⟨0, 0, Nat.zero_le _, rfl, rfl, rfl⟩
    case round =>
      obtain ⟨k, n, hk, rfl, ht, rfl⟩ := hrel
      by_cases hlt : k < xs.length
      · obtain ⟨b1, o1, rfl, c1⟩ := ha k hlt
        obtain ⟨b2, o2, rfl, c2⟩ := hb k (by rw [← HL.out]; exact hlt)
        clear ha hb
        generalize hp : xs[k]?.getD 0 = p at *
        generalize hq : ys[k]?.getD 0 = q at *
        have HP := Lib.hid hp
        have HQ := Lib.hid hq
        have HT := Lib.hid ht
        clear hp hq ht
        have hi1 : (k : Int) < (xs.length : Int) := by omega
        have hi2 : (k : Int) < (ys.length : Int) := by have := HL.out; omega
        go_wp2
        go_quiet (fail)
        go_wp2
        · have hd : (p != q) = true := by assumption
          go_ret
          refine ⟨ret_bool ?_, (drewN_below _ _).trans ((drewN_below (w.drewN n) nq).mono (Nat.le_refl _))⟩
          have : xs ≠ ys := fun e => by
            rw [← HP.out, ← HQ.out, e] at hd; simp at hd
          simp [eqL, this]
        · have hd : (p != q) = false := by assumption
          have he : p = q := by simpa using hd
          refine ⟨⟨k + 1, n + nq, by omega, by go_num, take_succ_eq HL.out hlt HT.out (by rw [HP.out, HQ.out, he]), rfl⟩, by simp [intOf]; omega⟩
      · obtain rfl : k = xs.length := by omega
        have he : xs = ys := by
          rw [List.take_length, HL.out, List.take_length] at ht; exact ht
        clear ha hb ht
        have HE := Lib.hid he
        clear he
        go_wp2
        go_ret
        exact ⟨ret_bool (by simp [eqL, HE.out]), drewN_below _ _⟩
  · have hne : ((xs.length : Int) != (ys.length : Int)) = true := by simp; omega
    have hnq : xs ≠ ys := fun e => hl (by rw [e])
    clear hl ha hb
    go_enter Try.func57, Try.ntmps57
    go_wp2
    go_ret
    exact ⟨ret_bool (by simp [eqL, hnq]), Below.refl _ _⟩

end Go.Proofs.Ytakkjlcnfkklpaa

namespace Go.Proofs.Ytakkjlcnfkklpaa
open Go.RowKit

/-- k, k + 1, .., n numbers. -/
def marks (k : Int) (n : Nat) : List Int := (List.range n).map fun i : Nat => k + (i : Int)
theorem marks_length (k : Int) (n : Nat) : (marks k n).length = n := by simp [marks]
theorem marks_get (k : Int) {n j : Nat} (h : j < n) : (marks k n)[j]?.getD 0 = k + (j : Int) := by simp [marks, h]

theorem Row.lt {base : Nat} {w : World} {v : Value} {xs : List Int} (h : Row base w v xs) (hx : 0 < xs.length) : ∃ g cap, v = .slice (some ⟨g, 0, none⟩) xs.length cap ∧ base ≤ g ∧ g < w.heap.size := by
  rcases h.2 with ⟨rfl, h0⟩ | ⟨g, cap, cur, rfl, hg, hh, _⟩
  · omega
  · exact ⟨g, cap, rfl, hg, lt_of_heap hh⟩

theorem Row.set {base : Nat} {w : World} {g n cap : Nat} {xs : List Int} (h : Row base w (.slice (some ⟨g, 0, none⟩) n cap) xs) (hn : xs.length = n) (j : Nat) (q : Int) :
    Row base (w.setCell ⟨g, j, none⟩ (.int .i64 q)) (.slice (some ⟨g, 0, none⟩) n cap) (xs.set j q) := by
  subst hn
  have := (World.ownsRow.stored h j (.int .i64 q)).1
  rw [← List.map_set] at this
  unfold Row
  rw [List.length_set]
  exact this

theorem Row.cellAt {base : Nat} {w : World} {g n cap : Nat} {xs : List Int} (h : Row base w (.slice (some ⟨g, 0, none⟩) n cap) xs) (hn : xs.length = n) (j : Nat) (hj : j < n) :
    w.cell? ⟨g, j, none⟩ = some (.int .i64 (xs[j]?.getD 0)) ∧ w.frozen? ⟨g, j, none⟩ = false := by
  subst hn
  refine ⟨?_, World.ownsRow.frozenAt h j⟩
  have := World.ownsRow.cellAt h j (by omega)
  rw [this]; simp [hj]

theorem marks_step (k : Int) (xs : List Int) (j : Nat) (hj : j < xs.length) : (marks k j ++ xs.drop j).set j (k + (j : Int)) = marks k (j + 1) ++ xs.drop (j + 1) := by
  apply List.ext_getElem
  · simp [marks]; omega
  · intro i h1 h2
    simp only [marks, List.getElem_set, List.getElem_append, List.length_map, List.length_range, List.getElem_map, List.getElem_range, List.getElem_drop]
    split
    · subst i; rw [dif_pos (by omega)]
    · split
      · rw [dif_pos (by omega)]
      · rw [dif_neg (by omega)]
        congr 1; omega

set_option maxHeartbeats 800000 in
theorem markIntS (base : Nat) (v : Value) (xs : List Int) (k : Int) (w : World) (hv : Row base w v xs) (hx : xs.length ≤ 1000000000) (h0 : 0 ≤ k) (h1 : k ≤ 1000000000) :
    Calls Try.prog 58 #[v, .int .i64 k] w fun e w' => e = .returned (.int .i64 (k + xs.length)) ∧ Row base w' v (marks k xs.length) ∧ Below base w w' := by
  by_cases hl : xs.length = 0
  · obtain ⟨a, cap, rfl⟩ := hv.shape
    rw [List.length_eq_zero_iff] at hl
    subst hl
    have HV := Lib.hid hv
    clear hv
    go_enter Try.func58, Try.ntmps58
    go_wp2
    go_loopw [1, 5] (fun q i wr => q = .int .i64 k ∧ i = .int .i64 0 ∧ wr = w) (fun _ _ _ => 0)
    case atStart => exact ⟨rfl, rfl, rfl⟩
    case round =>
      obtain ⟨rfl, rfl, rfl⟩ := hrel
      go_wp2
      go_ret
      exact ⟨ret_int (by simp), HV.out, Below.refl _ _⟩
  · obtain ⟨g, cap, rfl, hg, hgs⟩ := hv.lt (by omega)
    have HV := Lib.hid hv
    obtain ⟨n, hn⟩ : ∃ n, xs.length = n := ⟨_, rfl⟩
    rw [hn] at hx ⊢
    have HN := Lib.hid hn
    have hn1 : n ≠ 0 := by omega
    clear hv hl
    rw [hn] at HV
    clear hn
    go_enter Try.func58, Try.ntmps58
    go_wp2
    go_loopw [1, 5] (fun q i wr => ∃ j : Nat, j ≤ n ∧ q = .int .i64 (k + j) ∧ i = .int .i64 j ∧ Row base wr (.slice (some ⟨g, 0, none⟩) n cap) (marks k j ++ xs.drop j) ∧ Below base w wr) (fun _ i _ => n - (intOf i).toNat)
    case atStart => exact ⟨0, Nat.zero_le _, by simp, rfl, by simpa [marks] using HV.out, Below.refl _ _⟩
    case round =>
      obtain ⟨j, hj, rfl, rfl, hr, hbl⟩ := hrel
      by_cases hlt : j < n
      · have hlen : (marks k j ++ xs.drop j).length = n := by have := HN.out; simp [marks_length]; omega
        obtain ⟨c1, c2⟩ := hr.cellAt hlen j hlt
        have HS := Lib.hid (hr.set hlen j (k + (j : Int)))
        rw [marks_step k xs j (by have := HN.out; omega)] at HS
        clear hr hlen
        have hi : (j : Int) < (n : Int) := by omega
        go_wp2
        go_roundw
        case rel => exact ⟨j + 1, by omega, by go_num, by go_num, HS.out, hbl.setCell (p := ⟨g, j, none⟩) hg _⟩
        case measure => simp [intOf]; omega
      · obtain rfl : j = n := by omega
        have HR := Lib.hid hr
        clear hr
        go_wp2
        go_ret
        refine ⟨rfl, ?_, hbl⟩
        have := HR.out
        rw [List.drop_of_length_le (by have := HN.out; omega), List.append_nil] at this
        exact this

set_option maxHeartbeats 800000 in
theorem heldIntS (v : Value) (k : Int) (n : Nat) (w : World) (hv : Ints w v (marks k n)) (hx : n ≤ 1000000000) (h0 : 0 ≤ k) (h1 : k ≤ 1000000000) :
    Calls Try.prog 59 #[v, .int .i64 k] w fun e w' => e = .returned (.int .i64 (k + n)) ∧ w = w' := by
  obtain ⟨a, cap, rfl, ha⟩ := hv
  rw [marks_length] at ha ⊢
  go_enter Try.func59, Try.ntmps59
  go_wp2
  go_loop [1, 5] (fun q i => ∃ j : Nat, j ≤ n ∧ q = .int .i64 (k + j) ∧ i = .int .i64 j) (fun _ i => n - (intOf i).toNat)
  case atStart => exact ⟨0, Nat.zero_le _, by simp, rfl⟩
  case round =>
    obtain ⟨j, hj, rfl, rfl⟩ := hrel
    by_cases hlt : j < n
    · obtain ⟨b, off, rfl, c1⟩ := ha j hlt
      rw [marks_get k hlt] at c1
      clear ha
      have hi : (j : Int) < (n : Int) := by omega
      go_wp2
      go_round
      case rel => exact ⟨j + 1, by omega, by go_num, by go_num⟩
      case measure => simp [intOf]; omega
    · obtain rfl : j = n := by omega
      clear ha
      go_wp2
      go_ret
      exact ⟨rfl, rfl⟩

end Go.Proofs.Ytakkjlcnfkklpaa

namespace Go.Proofs.Ytakkjlcnfkklpaa
open Go.RowKit

theorem not_mem_of {xs : List Int} {x : Int} (h : ∀ i, i < xs.length → xs[i]?.getD 0 ≠ x) : x ∉ xs := by
  intro hx
  obtain ⟨i, hi, he⟩ := List.mem_iff_getElem.1 hx
  exact h i hi (by rw [List.getElem?_eq_getElem hi, Option.getD_some, he])

theorem asc_at {xs : List Int} (h : xs.Pairwise (· < ·)) {k : Nat} (h1 : 1 ≤ k) (hk : k < xs.length) : xs[k - 1]?.getD 0 < xs[k]?.getD 0 := by
  have := List.pairwise_iff_getElem.1 h (k - 1) k (by omega) hk (by omega)
  rw [List.getElem?_eq_getElem hk, List.getElem?_eq_getElem (by omega)]
  exact this

end Go.Proofs.Ytakkjlcnfkklpaa
