/-
  Helpers of the exact laws of desks: szDesk, toDesk, eqDesk, markDesk, heldDesk, toDeed, eqDeed.
-/
import Derived.Test.YtakkjlcnfkklpaaToInts
import Derived.Test.YtakkjlcnfkklpaaSpecRun
namespace Go.Proofs.Ytakkjlcnfkklpaa
open Go.RowKit Go.Shelf

set_option maxHeartbeats 400000 in
theorem szIntS_yes (a : Option Addr) (len cap : Nat) (L : Int) (w : World) (h : (len : Int) ≤ L) (hL : L ≤ 1000000000) :
    Calls Try.prog 55 #[.slice a len cap, .int .i64 L] w fun e w' => e = .returned (.int .i64 (L - len)) ∧ w = w' := by
  have h1 : ¬ L - (len : Int) < 0 := by omega
  have h2 : IntKind.i64.wrap (L - (len : Int)) = L - (len : Int) := IntWalk.i64_in _ (by omega)
  go_enter Try.func55, Try.ntmps55
  go_wp2
  go_ret
  exact ⟨rfl, rfl⟩
set_option maxHeartbeats 400000 in
theorem szIntS_no (a : Option Addr) (len cap : Nat) (L : Int) (w : World) (h : L < (len : Int)) (hL : 0 ≤ L) (hl : len ≤ 9223372036854775807) :
    Calls Try.prog 55 #[.slice a len cap, .int .i64 L] w fun e w' => e = .returned (.int .i64 (-1)) ∧ w = w' := by
  have h1 : L - (len : Int) < 0 := by omega
  have h2 : IntKind.i64.wrap (L - (len : Int)) = L - (len : Int) := IntWalk.i64_in _ (by omega)
  go_enter Try.func55, Try.ntmps55
  go_wp2
  go_ret
  exact ⟨rfl, rfl⟩

set_option maxHeartbeats 400000 in
theorem szDesk_yes (b n : Int) (a : Option Addr) (len cap : Nat) (L : Int) (w : World) (h : (len : Int) ≤ L) (hL : L ≤ 1000000000) :
    Calls Try.prog 27 #[.agg #[.int .i64 b, .int .i64 n, .slice a len cap], .int .i64 L] w fun e w' => e = .returned (.int .i64 (L - len)) ∧ Below w.heap.size w w' := by
  have h1 : ¬ L - (len : Int) < 0 := by omega
  have HS := Lib.hid (fun W => szIntS_yes a len cap L W h hL)
  go_enter Try.func27, Try.ntmps27
  go_wp2_with (go_at_call 55; refine (HS.out _).mono ?_; rintro e w' ⟨rfl, rfl⟩)
  go_ret
  exact ⟨rfl, (Below.refl _ _).alloc (Nat.le_refl _) _⟩
set_option maxHeartbeats 400000 in
theorem szDesk_no (b n : Int) (a : Option Addr) (len cap : Nat) (L : Int) (w : World) (h : L < (len : Int)) (hL : 0 ≤ L) (hl : len ≤ 9223372036854775807) :
    Calls Try.prog 27 #[.agg #[.int .i64 b, .int .i64 n, .slice a len cap], .int .i64 L] w fun e w' => e = .returned (.int .i64 (-1)) ∧ Below w.heap.size w w' := by
  have HS := Lib.hid (fun W => szIntS_no a len cap L W h hL hl)
  go_enter Try.func27, Try.ntmps27
  go_wp2_with (go_at_call 55; refine (HS.out _).mono ?_; rintro e w' ⟨rfl, rfl⟩)
  go_ret
  exact ⟨rfl, (Below.refl _ _).alloc (Nat.le_refl _) _⟩

set_option maxRecDepth 100000 in
set_option maxHeartbeats 1000000 in
theorem toDesk (d : Pl.Dk) (pv : Value) (w : World) (hp : Ints w pv d.past) (hx : d.past.length ≤ 1000000000) :
    Calls Try.prog 28 #[.agg #[.int .i64 d.b, .int .i64 d.n, pv]] w (DeskPost w d) := by
  obtain ⟨b, n, p⟩ := d
  simp only at hp hx ⊢
  have hbw : Below w.heap.size w (((w.alloc (.cells #[.int .i64 b, .int .i64 n, pv] 46)).alloc (.cells #[.int .i64 0, .int .i64 0, .slice none 0 0] 25)).alloc (.cells #[.int .i64 b, .int .i64 n, .slice none 0 0] 25)) :=
    (((Below.refl _ w).alloc (Nat.le_refl _) _).alloc (by simp) _).alloc (by simp; omega) _
  have hR0 : SBox (((w.alloc (.cells #[.int .i64 b, .int .i64 n, pv] 46)).alloc (.cells #[.int .i64 0, .int .i64 0, .slice none 0 0] 25)).alloc (.cells #[.int .i64 b, .int .i64 n, .slice none 0 0] 25)) (w.heap.size + 1) 25 #[.int .i64 0, .int .i64 0, .slice none 0 0] := by
    have := (SBox.new (w.alloc (.cells #[.int .i64 b, .int .i64 n, pv] 46)) 25 #[.int .i64 0, .int .i64 0, .slice none 0 0]).alloc (.cells #[.int .i64 b, .int .i64 n, .slice none 0 0] 25)
    rwa [World.size_alloc] at this
  have hD0 : SBox (((w.alloc (.cells #[.int .i64 b, .int .i64 n, pv] 46)).alloc (.cells #[.int .i64 0, .int .i64 0, .slice none 0 0] 25)).alloc (.cells #[.int .i64 b, .int .i64 n, .slice none 0 0] 25)) (w.heap.size + 1 + 1) 25 #[.int .i64 b, .int .i64 n, .slice none 0 0] := by
    have := SBox.new ((w.alloc (.cells #[.int .i64 b, .int .i64 n, pv] 46)).alloc (.cells #[.int .i64 0, .int .i64 0, .slice none 0 0] 25)) 25 #[.int .i64 b, .int .i64 n, .slice none 0 0]
    rwa [World.size_alloc, World.size_alloc] at this
  have hz0 : (((w.alloc (.cells #[.int .i64 b, .int .i64 n, pv] 46)).alloc (.cells #[.int .i64 0, .int .i64 0, .slice none 0 0] 25)).alloc (.cells #[.int .i64 b, .int .i64 n, .slice none 0 0] 25)).heap.size = w.heap.size + 1 + 1 + 1 := by simp
  have HT := Lib.hid (fun W (h : Ints W pv p) => toIntS pv p W h hx)
  have hI0 := hp.below hbw
  go_enter Try.func28, Try.ntmps28
  go_wp2_with fail
  generalize ((w.alloc (.cells #[.int .i64 b, .int .i64 n, pv] 46)).alloc (.cells #[.int .i64 0, .int .i64 0, .slice none 0 0] 25)).alloc (.cells #[.int .i64 b, .int .i64 n, .slice none 0 0] 25) = w0 at *
  refine (HT.out _ hI0).mono ?_
  rintro e w1 ⟨v1, rfl, r1, b1⟩
  obtain ⟨a1, c1, rfl⟩ := r1.shape
  have hD1 := hD0.kept b1
  have hR1 := hR0.kept b1
  have hb1 := hbw.trans (b1.mono hbw.size)
  have hz1 := b1.size
  have f2 := hD1.frozen 2
  have d2 := hD1.cell 2
  have d1 := hD1.cell 1
  have d0 := hD1.cell 0
  have hrow := r1.setOther (p := ⟨w.heap.size + 1 + 1, 2, none⟩) (by show w.heap.size + 1 + 1 < _; omega) (.slice a1 p.length c1)
  have HSR := Lib.hid (hR1.far (p := ⟨w.heap.size + 1 + 1, 2, none⟩) (by simp) (.slice a1 p.length c1))
  have HROW := Lib.hid hrow
  have hbf := hb1.setCell (p := ⟨w.heap.size + 1 + 1, 2, none⟩) (show w.heap.size ≤ w.heap.size + 1 + 1 by omega) (.slice a1 p.length c1)
  clear hD0 hR0 hbw hI0 b1 hD1 hR1 r1 hrow
  go_wp2_with (refine desk_store rfl _ _ rfl rfl rfl rfl HSR.out ?_; intro w9 hS9 hbl9 hsz9 hO9)
  refine bodyPost_ret (results_cell_row rfl _ _ (w.heap.size + 1) 25 _ (0, 0) _ rfl hS9 Try.underlying25 rfl (by rw [size_desk]; rfl)) rfl ?_
  exact ⟨_, rfl, Row.mono (Row.others HROW.out (B := w.heap.size + 1) (by omega) hO9) (by omega), hbf.trans (hbl9 w.heap.size (by omega))⟩

set_option maxRecDepth 100000 in
set_option maxHeartbeats 1000000 in
theorem eqDesk (d : Pl.Dk) (pv qv : Value) (w : World) (hp : Ints w pv d.past) (hq : Ints w qv d.past) (hx : d.past.length ≤ 1000000000) :
    Calls Try.prog 29 #[.agg #[.int .i64 d.b, .int .i64 d.n, pv], .agg #[.int .i64 d.b, .int .i64 d.n, qv]] w fun e w' => e = .returned (.bool true) ∧ Below w.heap.size w w' := by
  obtain ⟨b, n, p⟩ := d
  simp only at hp hq hx ⊢
  have hbw : Below w.heap.size w ((w.alloc (.cells #[.int .i64 b, .int .i64 n, pv] 25)).alloc (.cells #[.int .i64 b, .int .i64 n, qv] 25)) := ((Below.refl _ w).alloc (Nat.le_refl _) _).alloc (by simp) _
  have hs := eqIntS pv qv p p _ (hp.below hbw) (hq.below hbw) hx
  rw [eqL_self] at hs
  have HS := Lib.hid hs
  clear hs
  go_enter Try.func29, Try.ntmps29
  go_wp2_with fail
  refine HS.out.mono ?_
  rintro e w1 ⟨rfl, hb1⟩
  go_wp2
  go_ret
  exact ⟨rfl, hbw.trans (hb1.mono hbw.size)⟩

set_option maxHeartbeats 400000 in
theorem markNone (a : Option Addr) (cap : Nat) (k : Int) (w : World) :
    Calls Try.prog 58 #[.slice a 0 cap, .int .i64 k] w fun e w' => e = .returned (.int .i64 k) ∧ w = w' := by
  go_enter Try.func58, Try.ntmps58
  go_wp2
  go_loopw [1, 5] (fun q i wr => q = .int .i64 k ∧ i = .int .i64 0 ∧ wr = w) (fun _ _ _ => 0)
  case atStart => exact ⟨rfl, rfl, rfl⟩
  case round =>
    obtain ⟨rfl, rfl, rfl⟩ := hrel
    go_wp2
    go_ret
    exact ⟨rfl, rfl⟩
theorem markOwn (base : Nat) (v : Value) (xs : List Int) (k : Int) (w : World) (hv : OwnTail base w v xs) (hx : xs.length ≤ 1000000000) (h0 : 0 ≤ k) (h1 : k ≤ 1000000000) :
    Calls Try.prog 58 #[v, .int .i64 k] w fun e w' => e = .returned (.int .i64 (k + xs.length)) ∧ OwnTail base w' v (marks k xs.length) ∧ Below base w w' := by
  rcases hv with hv | hv
  · refine (markIntS base v xs k w hv hx h0 h1).mono ?_
    rintro e w' ⟨rfl, r, b⟩
    exact ⟨rfl, .inl r, b⟩
  · by_cases hl : 1 ≤ xs.length
    · refine (markTail base v xs k w hv hl hx h0 h1).mono ?_
      rintro e w' ⟨rfl, r, b⟩
      exact ⟨rfl, .inr r, b⟩
    · obtain rfl : xs = [] := List.eq_nil_of_length_eq_zero (by omega)
      have hv' := hv
      obtain ⟨g, off, cap, capY, ys, rfl, _⟩ := hv'
      refine (markNone _ _ k w).mono ?_
      rintro e w' ⟨rfl, rfl⟩
      exact ⟨by simp, .inr (by simpa [marks] using hv), Below.refl _ _⟩

set_option maxRecDepth 100000 in
set_option maxHeartbeats 1000000 in
theorem markDesk (base : Nat) (b n : Int) (v : Value) (xs : List Int) (k : Int) (w : World) (hv : OwnTail base w v xs) (hbase : base ≤ w.heap.size) (hx : xs.length ≤ 1000000000) (h0 : 0 ≤ k) (h1 : k ≤ 1000000000) :
    Calls Try.prog 30 #[.agg #[.int .i64 b, .int .i64 n, v], .int .i64 k] w fun e w' => e = .returned (.int .i64 (k + xs.length)) ∧ OwnTail base w' v (marks k xs.length) ∧ Below base w w' := by
  have hal : Below base w (w.alloc (.cells #[.int .i64 b, .int .i64 n, v] 25)) := (Below.refl _ w).alloc hbase _
  have HM := Lib.hid (markOwn base v xs k _ (hv.below ((Below.refl _ w).alloc (Nat.le_refl _) (.cells #[.int .i64 b, .int .i64 n, v] 25))) hx h0 h1)
  go_enter Try.func30, Try.ntmps30
  go_wp2_with fail
  refine HM.out.mono ?_
  rintro e w1 ⟨rfl, r1, b1⟩
  go_wp2
  go_ret
  exact ⟨rfl, r1, hal.trans b1⟩

set_option maxRecDepth 100000 in
set_option maxHeartbeats 1000000 in
theorem heldDesk (b m : Int) (v : Value) (k : Int) (n : Nat) (w : World) (hv : Ints w v (marks k n)) (hx : n ≤ 1000000000) (h0 : 0 ≤ k) (h1 : k ≤ 1000000000) :
    Calls Try.prog 31 #[.agg #[.int .i64 b, .int .i64 m, v], .int .i64 k] w fun e w' => e = .returned (.int .i64 (k + n)) ∧ Below w.heap.size w w' := by
  have hal : Below w.heap.size w (w.alloc (.cells #[.int .i64 b, .int .i64 m, v] 25)) := (Below.refl _ w).alloc (Nat.le_refl _) _
  have HM := Lib.hid (heldIntS v k n _ (hv.below hal) hx h0 h1)
  have hneg : ¬ k + (n : Int) < 0 := by omega
  go_enter Try.func31, Try.ntmps31
  go_wp2_with (go_at_call 59; refine HM.out.mono ?_; rintro e w' ⟨rfl, rfl⟩)
  go_ret
  exact ⟨rfl, hal⟩

end Go.Proofs.Ytakkjlcnfkklpaa
