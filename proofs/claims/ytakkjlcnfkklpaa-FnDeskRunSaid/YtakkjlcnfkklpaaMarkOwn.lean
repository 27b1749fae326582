/-
  Marks that write to one row only: everything in another block stays as it was. For the exact laws of desks.
-/
import Derived.Test.YtakkjlcnfkklpaaDeskExact
import Derived.Test.YtakkjlcnfkklpaaDeedExact
namespace Go.Proofs.Ytakkjlcnfkklpaa
open Go.RowKit Go.Shelf

/-- What lies in another block than v's stays as it was. -/
def Else (v : Value) (w w' : World) : Prop := ∀ i, v.ownBlock ≠ some i → w'.heap[i]? = w.heap[i]?

set_option maxHeartbeats 1000000 in
theorem markIntK (base : Nat) (v : Value) (xs : List Int) (k : Int) (w : World) (hv : Row base w v xs) (hx : xs.length ≤ 1000000000) (h0 : 0 ≤ k) (h1 : k ≤ 1000000000) :
    Calls Try.prog 58 #[v, .int .i64 k] w fun e w' => e = .returned (.int .i64 (k + xs.length)) ∧ Row base w' v (marks k xs.length) ∧ Below base w w' ∧ Else v w w' := by
  by_cases hl : xs.length = 0
  · obtain ⟨a, cap, rfl⟩ := hv.shape
    rw [List.length_eq_zero_iff] at hl
    subst hl
    have HV := Lib.hid hv
    clear hv
    go_enter Try.func58, Try.ntmps58
    go_wp2
    go_loopw [1, 5] (fun q i wr => q = .int .i64 k ∧ i = .int .i64 0 ∧ wr = w) (fun _ _ _ => 0)
    case atStart => exact ⟨rfl, rfl, rfl⟩
    case round =>
      obtain ⟨rfl, rfl, rfl⟩ := hrel
      go_wp2
      go_ret
      exact ⟨ret_int (by simp), HV.out, Below.refl _ _, fun _ _ => rfl⟩
  · obtain ⟨g, cap, rfl, hg, hgs⟩ := hv.lt (by omega)
    have HV := Lib.hid hv
    obtain ⟨n, hn⟩ : ∃ n, xs.length = n := ⟨_, rfl⟩
    rw [hn] at hx ⊢
    have HN := Lib.hid hn
    have hn1 : n ≠ 0 := by omega
    clear hv hl
    rw [hn] at HV
    clear hn
    go_enter Try.func58, Try.ntmps58
    go_wp2
    go_loopw [1, 5] (fun q i wr => ∃ j : Nat, j ≤ n ∧ q = .int .i64 (k + j) ∧ i = .int .i64 j ∧ Row base wr (.slice (some ⟨g, 0, none⟩) n cap) (marks k j ++ xs.drop j) ∧ Below base w wr ∧ (∀ i, i ≠ g → wr.heap[i]? = w.heap[i]?)) (fun _ i _ => n - (intOf i).toNat)
    case atStart => exact ⟨0, Nat.zero_le _, by simp, rfl, by simpa [marks] using HV.out, Below.refl _ _, fun _ _ => rfl⟩
    case round =>
      obtain ⟨j, hj, rfl, rfl, hr, hbl, hel⟩ := hrel
      by_cases hlt : j < n
      · have hlen : (marks k j ++ xs.drop j).length = n := by have := HN.out; simp [marks_length]; omega
        obtain ⟨c1, c2⟩ := hr.cellAt hlen j hlt
        have HS := Lib.hid (hr.set hlen j (k + (j : Int)))
        rw [marks_step k xs j (by have := HN.out; omega)] at HS
        clear hr hlen
        have hi : (j : Int) < (n : Int) := by omega
        go_wp2
        go_roundw
        case rel => exact ⟨j + 1, by omega, by go_num, by go_num, HS.out, hbl.setCell (p := ⟨g, j, none⟩) hg _, fun i hi => (Below.heap_setCell _ _ _ _ hi).trans (hel i hi)⟩
        case measure => simp [intOf]; omega
      · obtain rfl : j = n := by omega
        have HR := Lib.hid hr
        clear hr
        go_wp2
        go_ret
        refine ⟨rfl, ?_, hbl, fun i hi => hel i (fun e => hi (by subst e; rfl))⟩
        have := HR.out
        rw [List.drop_of_length_le (by have := HN.out; omega), List.append_nil] at this
        exact this

set_option maxHeartbeats 1000000 in
theorem markTailK (base : Nat) (v : Value) (xs : List Int) (k : Int) (w : World) (hv : RowTail base w v xs) (h00 : 1 ≤ xs.length) (hx : xs.length ≤ 1000000000) (h0 : 0 ≤ k) (h1 : k ≤ 1000000000) :
    Calls Try.prog 58 #[v, .int .i64 k] w fun e w' => e = .returned (.int .i64 (k + xs.length)) ∧ RowTail base w' v (marks k xs.length) ∧ Below base w w' ∧ Else v w w' := by
  obtain ⟨g, off, cap, capY, ys, rfl, hd, hl, hr⟩ := hv
  obtain ⟨n, hn⟩ : ∃ n, xs.length = n := ⟨_, rfl⟩
  obtain ⟨N, hN⟩ : ∃ N, ys.length = N := ⟨_, rfl⟩
  have hA : (ys.take off).length = off := by rw [List.length_take]; omega
  have hg : base ≤ g := by
    obtain ⟨g', cap', hh, hb, _⟩ := hr.lt (by omega)
    have : g = g' := by injection hh with e1; simpa using e1
    omega
  have hys : ys = ys.take off ++ (marks k 0 ++ xs.drop 0) := by
    rw [List.drop_zero, ← hd]
    simp [marks]
  have hr0 := hr
  rw [hN] at hr0
  rw [hys] at hr0
  have HR0 := Lib.hid hr0
  rw [hn] at hx ⊢
  have HN := Lib.hid hn
  have HL := Lib.hid hl
  have HA := Lib.hid hA
  have HNN := Lib.hid hN
  have hoN : off + n = N := by omega
  have hn1 : n ≠ 0 := by omega
  clear hr hr0 hys hd hl hn hA hN h00
  generalize ys.take off = A at *
  go_enter Try.func58, Try.ntmps58
  go_wp2
  go_loopw [1, 5] (fun q i wr => ∃ j : Nat, j ≤ n ∧ q = .int .i64 (k + j) ∧ i = .int .i64 j ∧ Row base wr (.slice (some ⟨g, 0, none⟩) N capY) (A ++ (marks k j ++ xs.drop j)) ∧ Below base w wr ∧ (∀ i, i ≠ g → wr.heap[i]? = w.heap[i]?)) (fun _ i _ => n - (intOf i).toNat)
  case atStart => exact ⟨0, Nat.zero_le _, by simp, rfl, HR0.out, Below.refl _ _, fun _ _ => rfl⟩
  case round =>
    obtain ⟨j, hj, rfl, rfl, hr, hbl, hel⟩ := hrel
    by_cases hlt : j < n
    · have hlen : (A ++ (marks k j ++ xs.drop j)).length = N := by have := HN.out; have := HA.out; simp [marks_length]; omega
      obtain ⟨c1, c2⟩ := hr.cellAt hlen (off + j) (by omega)
      have hs := hr.set hlen (off + j) (k + (j : Int))
      rw [set_behind A _ j _ HA.out, marks_step k xs j (by have := HN.out; omega)] at hs
      have HS := Lib.hid hs
      clear hr hlen hs
      have hi : (j : Int) < (n : Int) := by omega
      go_wp2
      go_roundw
      case rel => exact ⟨j + 1, by omega, by go_num, by go_num, HS.out, hbl.setCell (p := ⟨g, off + j, none⟩) hg _, fun i hi => (Below.heap_setCell _ _ _ _ hi).trans (hel i hi)⟩
      case measure => simp [intOf]; omega
    · obtain rfl : j = n := by omega
      have HR := Lib.hid hr
      clear hr
      go_wp2
      go_ret
      refine ⟨rfl, ⟨g, off, cap, capY, A ++ marks k j, by rw [marks_length], ?_, by rw [List.length_append, marks_length, HA.out], ?_⟩, hbl, fun i hi => hel i (fun e => hi (by subst e; rfl))⟩
      · rw [List.drop_append_of_le_length (by rw [HA.out]; omega), List.drop_of_length_le (by rw [HA.out]; omega), List.nil_append]
      · have := HR.out
        rw [List.drop_of_length_le (by have := HN.out; omega), List.append_nil] at this
        rw [List.length_append, marks_length, HA.out, hoN]
        exact this

set_option maxRecDepth 100000 in
set_option maxHeartbeats 1000000 in
theorem markDeedK (base : Nat) (v : Value) (ds : List (Int × Int)) (k : Int) (w : World) (hv : DRow base w v ds) (hx : ds.length ≤ 1000000000) (h0 : 0 ≤ k) (h1 : k ≤ 1000000000) :
    Calls Try.prog 36 #[v, .int .i64 k] w fun e w' => e = .returned (.int .i64 (k + 2 * ds.length)) ∧ DRow base w' v (Pl.dmarks k ds.length) ∧ Below base w w' ∧ Else v w w' := by
  by_cases hl : ds.length = 0
  · obtain ⟨a, cap, rfl⟩ := hv.shape
    rw [List.length_eq_zero_iff] at hl
    subst hl
    have HV := Lib.hid hv
    clear hv
    go_enter Try.func36, Try.ntmps36
    go_wp2
    go_loopw [1, 5] (fun q i wr => q = .int .i64 k ∧ i = .int .i64 0 ∧ wr = w) (fun _ _ _ => 0)
    case atStart => exact ⟨rfl, rfl, rfl⟩
    case round =>
      obtain ⟨rfl, rfl, rfl⟩ := hrel
      go_wp2
      go_ret
      exact ⟨ret_int (by simp), HV.out, Below.refl _ _, fun _ _ => rfl⟩
  · obtain ⟨g, cap, rfl, hg, hgs, _, _⟩ := hv.lies (by omega)
    have HV := Lib.hid hv
    obtain ⟨n, hn⟩ : ∃ n, ds.length = n := ⟨_, rfl⟩
    rw [hn] at hx ⊢
    have HN := Lib.hid hn
    have hn1 : n ≠ 0 := by omega
    clear hv hl
    rw [hn] at HV
    clear hn
    go_enter Try.func36, Try.ntmps36
    go_wp2
    go_loopw [1, 5] (fun q i wr => ∃ j : Nat, j ≤ n ∧ q = .int .i64 (k + 2 * j) ∧ i = .int .i64 j ∧ DRow base wr (.slice (some ⟨g, 0, none⟩) n cap) (Pl.dmarks k j ++ ds.drop j) ∧ Below base w wr ∧ (∀ i, i ≠ g → wr.heap[i]? = w.heap[i]?)) (fun _ i _ => n - (intOf i).toNat)
    case atStart => exact ⟨0, Nat.zero_le _, by simp, rfl, by simpa [Pl.dmarks] using HV.out, Below.refl _ _, fun _ _ => rfl⟩
    case round =>
      obtain ⟨j, hj, rfl, rfl, hr, hbl, hel⟩ := hrel
      by_cases hlt : j < n
      · have hlen : (Pl.dmarks k j ++ ds.drop j).length = n := by have := HN.out; simp [Pl.dmarks_length]; omega
        obtain ⟨c1, c2, f1, f2⟩ := hr.cellAt hlen j hlt
        have HS := Lib.hid (hr.set hlen j (k + 2 * (j : Int)) (k + 2 * (j : Int) + 1))
        rw [Pl.dmarks_step k ds j (by have := HN.out; omega)] at HS
        clear hr hlen
        have hi : (j : Int) < (n : Int) := by omega
        have hq0 : 0 ≤ k + 2 * (j : Int) := by omega
        have hq1 : k + 2 * (j : Int) ≤ 3000000000 := by omega
        have hstep : k + 2 * (j : Int) + 1 + 1 = k + 2 * ((j + 1 : Nat) : Int) := by omega
        have HST := Lib.hid hstep
        clear hstep
        generalize k + 2 * (j : Int) = Q at *
        go_wp2
        go_roundw
        case rel => exact ⟨j + 1, by omega, by rw [← HST.out], by go_num, HS.out, (hbl.setCell (p := ⟨g, j * 2, none⟩) hg _).setCell (p := ⟨g, j * 2 + 1, none⟩) hg _, fun i hi => (Below.heap_setCell _ _ _ _ hi).trans ((Below.heap_setCell _ _ _ _ hi).trans (hel i hi))⟩
        case measure => simp [intOf]; omega
      · obtain rfl : j = n := by omega
        have HR := Lib.hid hr
        clear hr
        go_wp2
        go_ret
        refine ⟨rfl, ?_, hbl, fun i hi => hel i (fun e => hi (by subst e; rfl))⟩
        have := HR.out
        rw [List.drop_of_length_le (by have := HN.out; omega), List.append_nil] at this
        exact this

theorem Row.block {base : Nat} {w : World} {v : Value} {xs : List Int} (h : Row base w v xs) {g : Nat} (hg : v.ownBlock = some g) : base ≤ g ∧ ∃ cur, w.heap[g]? = some (.cells cur 3 (0, 0)) := by
  rcases h with ⟨h1, ⟨rfl, _⟩ | ⟨g', cap, cur, rfl, hb, hh, r⟩⟩
  · cases hg
  · obtain rfl : g' = g := by injection hg
    exact ⟨hb, cur, hh⟩
theorem OwnTail.block {base : Nat} {w : World} {v : Value} {xs : List Int} (h : OwnTail base w v xs) {g : Nat} (hg : v.ownBlock = some g) : base ≤ g ∧ ∃ cur, w.heap[g]? = some (.cells cur 3 (0, 0)) := by
  rcases h with h | ⟨g', off, cap, capY, ys, rfl, hd, hl, hr⟩
  · exact h.block hg
  · exact hr.block hg
theorem DRow.block {base : Nat} {w : World} {v : Value} {ds : List (Int × Int)} (h : DRow base w v ds) {g : Nat} (hg : v.ownBlock = some g) : base ≤ g ∧ ∃ cur, w.heap[g]? = some (.cells cur 36 (0, 0)) := by
  rcases h with ⟨h1, ⟨rfl, _⟩ | ⟨g', cap, cur, rfl, hb, hh, r⟩⟩
  · cases hg
  · obtain rfl : g' = g := by injection hg
    exact ⟨hb, cur, hh⟩
/-- A struct's box is no row's block. -/
theorem SBox.notOwn {base : Nat} {w : World} {v : Value} {xs : List Int} (h : OwnTail base w v xs) {B : Nat} {T : TypeId} {cs : Array Value} (hB : SBox w B T cs) (hT : T ≠ 3) : v.ownBlock ≠ some B := fun e => by
  obtain ⟨_, cur, hh⟩ := h.block e
  unfold SBox at hB
  rw [hB] at hh
  injection hh with hh
  injection hh with _ ht _
  exact hT ht
theorem SBox.notDeeds {base : Nat} {w : World} {v : Value} {ds : List (Int × Int)} (h : DRow base w v ds) {B : Nat} {T : TypeId} {cs : Array Value} (hB : SBox w B T cs) (hT : T ≠ 36) : v.ownBlock ≠ some B := fun e => by
  obtain ⟨_, cur, hh⟩ := h.block e
  unfold SBox at hB
  rw [hB] at hh
  injection hh with hh
  injection hh with _ ht _
  exact hT ht
theorem SBox.apart {w w' : World} {v : Value} {B : Nat} {T : TypeId} {cs : Array Value} (h : SBox w B T cs) (hE : Else v w w') (hv : v.ownBlock ≠ some B) : SBox w' B T cs := (hE B hv).trans h
theorem Row.apart {base : Nat} {w w' : World} {u v : Value} {xs : List Int} (h : Row base w u xs) (hE : Else v w w') (hv : ∀ g, u.ownBlock = some g → v.ownBlock ≠ some g) : Row base w' u xs := by
  rcases h with ⟨h1, h2 | ⟨g, cap, cur, rfl, hg, hh, r⟩⟩
  · exact ⟨h1, .inl h2⟩
  · exact ⟨h1, .inr ⟨g, cap, cur, rfl, hg, (hE g (hv g rfl)).trans hh, r⟩⟩
theorem OwnTail.apart {base : Nat} {w w' : World} {u v : Value} {xs : List Int} (h : OwnTail base w u xs) (hE : Else v w w') (hv : ∀ g, u.ownBlock = some g → v.ownBlock ≠ some g) : OwnTail base w' u xs := by
  rcases h with h | ⟨g, off, cap, capY, ys, rfl, hd, hl, hr⟩
  · exact .inl (h.apart hE hv)
  · exact .inr ⟨g, off, cap, capY, ys, rfl, hd, hl, hr.apart hE hv⟩

theorem markOwnK (base : Nat) (v : Value) (xs : List Int) (k : Int) (w : World) (hv : OwnTail base w v xs) (hx : xs.length ≤ 1000000000) (h0 : 0 ≤ k) (h1 : k ≤ 1000000000) :
    Calls Try.prog 58 #[v, .int .i64 k] w fun e w' => e = .returned (.int .i64 (k + xs.length)) ∧ OwnTail base w' v (marks k xs.length) ∧ Below base w w' ∧ Else v w w' := by
  rcases hv with hv | hv
  · refine (markIntK base v xs k w hv hx h0 h1).mono ?_
    rintro e w' ⟨rfl, r, b, el⟩
    exact ⟨rfl, .inl r, b, el⟩
  · by_cases hl : 1 ≤ xs.length
    · refine (markTailK base v xs k w hv hl hx h0 h1).mono ?_
      rintro e w' ⟨rfl, r, b, el⟩
      exact ⟨rfl, .inr r, b, el⟩
    · obtain rfl : xs = [] := List.eq_nil_of_length_eq_zero (by omega)
      have hv' := hv
      obtain ⟨g, off, cap, capY, ys, rfl, _⟩ := hv'
      refine (markNone _ _ k w).mono ?_
      rintro e w' ⟨rfl, rfl⟩
      exact ⟨by simp, .inr (by simpa [marks] using hv), Below.refl _ _, fun _ _ => rfl⟩

set_option maxRecDepth 100000 in
set_option maxHeartbeats 1000000 in
theorem markDeskK (base : Nat) (b n : Int) (v : Value) (xs : List Int) (k : Int) (w : World) (hv : OwnTail base w v xs) (hbase : base ≤ w.heap.size) (hx : xs.length ≤ 1000000000) (h0 : 0 ≤ k) (h1 : k ≤ 1000000000) :
    Calls Try.prog 30 #[.agg #[.int .i64 b, .int .i64 n, v], .int .i64 k] w fun e w' => e = .returned (.int .i64 (k + xs.length)) ∧ OwnTail base w' v (marks k xs.length) ∧ Below base w w' ∧ Else v (w.alloc (.cells #[.int .i64 b, .int .i64 n, v] 25)) w' := by
  have hal : Below base w (w.alloc (.cells #[.int .i64 b, .int .i64 n, v] 25)) := (Below.refl _ w).alloc hbase _
  have HM := Lib.hid (markOwnK base v xs k _ (hv.below ((Below.refl _ w).alloc (Nat.le_refl _) (.cells #[.int .i64 b, .int .i64 n, v] 25))) hx h0 h1)
  go_enter Try.func30, Try.ntmps30
  go_wp2_with fail
  refine HM.out.mono ?_
  rintro e w1 ⟨rfl, r1, b1, el⟩
  go_wp2
  go_ret
  exact ⟨rfl, r1, hal.trans b1, el⟩

theorem SBox.marked {base : Nat} {w w' : World} {v : Value} {xs : List Int} {o : Obj} {B : Nat} {T : TypeId} {cs : Array Value} (h : SBox w B T cs) (hv : OwnTail base w v xs) (hE : Else v (w.alloc o) w') (hT : T ≠ 3) : SBox w' B T cs :=
  (h.alloc o).apart hE (SBox.notOwn hv h hT)
theorem OwnTail.marked {base : Nat} {w w' : World} {u v : Value} {xs : List Int} {o : Obj} (h : OwnTail base w u xs) (hE : Else v (w.alloc o) w') (hne : ∀ g, u.ownBlock = some g → v.ownBlock ≠ some g) : OwnTail base w' u xs :=
  (h.below ((Below.refl _ w).alloc (Nat.le_refl _) o)).apart hE hne

end Go.Proofs.Ytakkjlcnfkklpaa
