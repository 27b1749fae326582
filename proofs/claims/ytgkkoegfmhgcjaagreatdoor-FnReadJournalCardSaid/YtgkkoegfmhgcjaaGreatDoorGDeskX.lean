/-
  The laws' own comparisons of desks.
-/
import Derived.Test.YtgkkoegfmhgcjaaGreatDoorGDesk
import Derived.Test.YtgkkoegfmhgcjaaGreatDoorGNum
import Derived.Test.YtgkkoegfmhgcjaaGreatDoorGText
namespace Go.Proofs.YtgkkoegfmhgcjaaGreatDoor
open Go.RowKit Go.Shelf

def Pl.sameA (d e : Pl.Dk) : Bool := decide (d.b = e.b) && (decide (d.n = e.n) && eqL d.past e.past)

set_option maxRecDepth 100000 in
set_option maxHeartbeats 1000000 in
theorem sameDesk (d d' : Pl.Dk) (u v : Value) (w : World) (hu : Ints w u d.past) (hv : Ints w v d'.past) (hx : d.past.length ≤ 1000000000) :
    Calls Tryz.prog 18 #[.agg #[.int .i64 d.b, .int .i64 d.n, u], .agg #[.int .i64 d'.b, .int .i64 d'.n, v]] w fun e w' => e = .returned (.bool (Pl.sameA d d')) ∧ Below w.heap.size w w' := by
  obtain ⟨b, n, p⟩ := d
  obtain ⟨b', n', p'⟩ := d'
  simp only at hu hv hx ⊢
  obtain ⟨R, hR⟩ : ∃ R, Pl.sameA ⟨b, n, p⟩ ⟨b', n', p'⟩ = R := ⟨_, rfl⟩
  rw [hR]
  have HRR := Lib.hid hR
  clear hR
  have hbw : Below w.heap.size w ((w.alloc (.cells #[.int .i64 b, .int .i64 n, u] 30)).alloc (.cells #[.int .i64 b', .int .i64 n', v] 30)) := ((Below.refl _ w).alloc (Nat.le_refl _) _).alloc (by simp) _
  have hA : SBox ((w.alloc (.cells #[.int .i64 b, .int .i64 n, u] 30)).alloc (.cells #[.int .i64 b', .int .i64 n', v] 30)) w.heap.size 30 #[.int .i64 b, .int .i64 n, u] := (SBox.new w 30 _).alloc _
  have hB : SBox ((w.alloc (.cells #[.int .i64 b, .int .i64 n, u] 30)).alloc (.cells #[.int .i64 b', .int .i64 n', v] 30)) (w.heap.size + 1) 30 #[.int .i64 b', .int .i64 n', v] := by
    have := SBox.new (w.alloc (.cells #[.int .i64 b, .int .i64 n, u] 30)) 30 #[.int .i64 b', .int .i64 n', v]
    rwa [World.size_alloc] at this
  have HI := Lib.hid (fun W hb => sameInts u v p p' W (hu.below hb) (hv.below hb) hx)
  clear hu hv
  have a0 := hA.cell 0
  have a1 := hA.cell 1
  have a2 := hA.cell 2
  have b0 := hB.cell 0
  have b1 := hB.cell 1
  have b2 := hB.cell 2
  clear hA hB
  go_enter Tryz.func18, Tryz.ntmps18
  go_upto_region 1 with (fail)
  generalize (w.alloc (.cells #[.int .i64 b, .int .i64 n, u] 30)).alloc (.cells #[.int .i64 b', .int .i64 n', v] 30) = W at *
  by_cases h1 : b = b'
  · subst h1
    by_cases h2 : n = n'
    · subst h2
      go_wp2_with fail
      refine (HI.out _ hbw).mono ?_
      rintro e w3 ⟨rfl, b3⟩
      have c3 := hbw.trans (b3.mono hbw.size)
      have HE : Hid (eqL p p' = R) := Lib.hid (by rw [← HRR.out]; simp [Pl.sameA])
      generalize eqL p p' = E at *
      go_wp2_with fail
      go_ret
      exact ⟨ret_bool HE.out, c3⟩
    · have HE : Hid (false = R) := Lib.hid (by rw [← HRR.out]; simp [Pl.sameA, h2])
      go_wp2_with fail
      go_ret
      exact ⟨ret_bool HE.out, hbw⟩
  · have HE : Hid (false = R) := Lib.hid (by rw [← HRR.out]; simp [Pl.sameA, h1])
    go_wp2_with fail
    go_ret
    exact ⟨ret_bool HE.out, hbw⟩

theorem noDesk (d : Pl.Dk) (u : Value) (w : World) (hu : Ints w u d.past) (hx : d.past.length ≤ 1000000000) :
    Calls Tryz.prog 22 #[.agg #[.int .i64 d.b, .int .i64 d.n, u]] w fun e w' => e = .returned (.bool (Pl.sameA d ⟨0, 0, []⟩)) ∧ Below w.heap.size w w' := by
  have b1 : Below w.heap.size w (w.alloc (.cells #[.int .i64 d.b, .int .i64 d.n, u] 30)) := (Below.refl _ w).alloc (Nat.le_refl _) _
  have h1 := (SBox.new w 30 #[.int .i64 d.b, .int .i64 d.n, u])
  have HI := Lib.hid (sameDesk d ⟨0, 0, []⟩ u (.slice none 0 0) _ (hu.below b1) (Ints.nil _) hx)
  clear hu
  go_enter Tryz.func22, Tryz.ntmps22
  go_wp2_with (first | (refine desk_load rfl _ rfl rfl h1 ?_))
  refine HI.out.mono ?_
  rintro e w3 ⟨rfl, b3⟩
  have c3 := b1.trans (b3.mono b1.size)
  go_wp2_with fail
  go_ret
  exact ⟨rfl, c3⟩

end Go.Proofs.YtgkkoegfmhgcjaaGreatDoor

namespace Go.Proofs.YtgkkoegfmhgcjaaGreatDoor
open Go.RowKit Go.Shelf

set_option maxHeartbeats 400000 in
theorem szIntS_yes (a : Option Addr) (len cap : Nat) (L : Int) (w : World) (h : (len : Int) ≤ L) (hL : L ≤ 1000000000) :
    Calls Tryz.prog 80 #[.slice a len cap, .int .i64 L] w fun e w' => e = .returned (.int .i64 (L - len)) ∧ w = w' := by
  have h1 : ¬ L - (len : Int) < 0 := by omega
  have h2 : IntKind.i64.wrap (L - (len : Int)) = L - (len : Int) := IntWalk.i64_in _ (by omega)
  go_enter Tryz.func80, Tryz.ntmps80
  go_wp2
  go_ret
  exact ⟨rfl, rfl⟩
set_option maxHeartbeats 400000 in
theorem szIntS_no (a : Option Addr) (len cap : Nat) (L : Int) (w : World) (h : L < (len : Int)) (hL : 0 ≤ L) (hl : len ≤ 9223372036854775807) :
    Calls Tryz.prog 80 #[.slice a len cap, .int .i64 L] w fun e w' => e = .returned (.int .i64 (-1)) ∧ w = w' := by
  have h1 : L - (len : Int) < 0 := by omega
  have h2 : IntKind.i64.wrap (L - (len : Int)) = L - (len : Int) := IntWalk.i64_in _ (by omega)
  go_enter Tryz.func80, Tryz.ntmps80
  go_wp2
  go_ret
  exact ⟨rfl, rfl⟩

set_option maxHeartbeats 400000 in
theorem szDesk_yes (b n : Int) (a : Option Addr) (len cap : Nat) (L : Int) (w : World) (h : (len : Int) ≤ L) (hL : L ≤ 1000000000) :
    Calls Tryz.prog 28 #[.agg #[.int .i64 b, .int .i64 n, .slice a len cap], .int .i64 L] w fun e w' => e = .returned (.int .i64 (L - len)) ∧ Below w.heap.size w w' := by
  have h1 : ¬ L - (len : Int) < 0 := by omega
  have HS := Lib.hid (fun W => szIntS_yes a len cap L W h hL)
  go_enter Tryz.func28, Tryz.ntmps28
  go_wp2_with (go_at_call 80; refine (HS.out _).mono ?_; rintro e w' ⟨rfl, rfl⟩)
  go_ret
  exact ⟨rfl, (Below.refl _ _).alloc (Nat.le_refl _) _⟩
set_option maxHeartbeats 400000 in
theorem szDesk_no (b n : Int) (a : Option Addr) (len cap : Nat) (L : Int) (w : World) (h : L < (len : Int)) (hL : 0 ≤ L) (hl : len ≤ 9223372036854775807) :
    Calls Tryz.prog 28 #[.agg #[.int .i64 b, .int .i64 n, .slice a len cap], .int .i64 L] w fun e w' => e = .returned (.int .i64 (-1)) ∧ Below w.heap.size w w' := by
  have HS := Lib.hid (fun W => szIntS_no a len cap L W h hL hl)
  go_enter Tryz.func28, Tryz.ntmps28
  go_wp2_with (go_at_call 80; refine (HS.out _).mono ?_; rintro e w' ⟨rfl, rfl⟩)
  go_ret
  exact ⟨rfl, (Below.refl _ _).alloc (Nat.le_refl _) _⟩

set_option maxRecDepth 100000 in
set_option maxHeartbeats 1000000 in
theorem toDesk (d : Pl.Dk) (pv : Value) (w : World) (hp : Ints w pv d.past) (hx : d.past.length ≤ 1000000000) :
    Calls Tryz.prog 29 #[.agg #[.int .i64 d.b, .int .i64 d.n, pv]] w (DeskPost w d) := by
  obtain ⟨b, n, p⟩ := d
  simp only at hp hx ⊢
  have hbw : Below w.heap.size w (((w.alloc (.cells #[.int .i64 b, .int .i64 n, pv] 52)).alloc (.cells #[.int .i64 0, .int .i64 0, .slice none 0 0] 30)).alloc (.cells #[.int .i64 b, .int .i64 n, .slice none 0 0] 30)) :=
    (((Below.refl _ w).alloc (Nat.le_refl _) _).alloc (by simp) _).alloc (by simp; omega) _
  have hR0 : SBox (((w.alloc (.cells #[.int .i64 b, .int .i64 n, pv] 52)).alloc (.cells #[.int .i64 0, .int .i64 0, .slice none 0 0] 30)).alloc (.cells #[.int .i64 b, .int .i64 n, .slice none 0 0] 30)) (w.heap.size + 1) 30 #[.int .i64 0, .int .i64 0, .slice none 0 0] := by
    have := (SBox.new (w.alloc (.cells #[.int .i64 b, .int .i64 n, pv] 52)) 30 #[.int .i64 0, .int .i64 0, .slice none 0 0]).alloc (.cells #[.int .i64 b, .int .i64 n, .slice none 0 0] 30)
    rwa [World.size_alloc] at this
  have hD0 : SBox (((w.alloc (.cells #[.int .i64 b, .int .i64 n, pv] 52)).alloc (.cells #[.int .i64 0, .int .i64 0, .slice none 0 0] 30)).alloc (.cells #[.int .i64 b, .int .i64 n, .slice none 0 0] 30)) (w.heap.size + 1 + 1) 30 #[.int .i64 b, .int .i64 n, .slice none 0 0] := by
    have := SBox.new ((w.alloc (.cells #[.int .i64 b, .int .i64 n, pv] 52)).alloc (.cells #[.int .i64 0, .int .i64 0, .slice none 0 0] 30)) 30 #[.int .i64 b, .int .i64 n, .slice none 0 0]
    rwa [World.size_alloc, World.size_alloc] at this
  have hz0 : (((w.alloc (.cells #[.int .i64 b, .int .i64 n, pv] 52)).alloc (.cells #[.int .i64 0, .int .i64 0, .slice none 0 0] 30)).alloc (.cells #[.int .i64 b, .int .i64 n, .slice none 0 0] 30)).heap.size = w.heap.size + 1 + 1 + 1 := by simp
  have HT := Lib.hid (fun W (h : Ints W pv p) => toIntS pv p W h hx)
  have hI0 := hp.below hbw
  go_enter Tryz.func29, Tryz.ntmps29
  go_wp2_with fail
  generalize ((w.alloc (.cells #[.int .i64 b, .int .i64 n, pv] 52)).alloc (.cells #[.int .i64 0, .int .i64 0, .slice none 0 0] 30)).alloc (.cells #[.int .i64 b, .int .i64 n, .slice none 0 0] 30) = w0 at *
  refine (HT.out _ hI0).mono ?_
  rintro e w1 ⟨v1, rfl, r1, b1⟩
  obtain ⟨a1, c1, rfl⟩ := r1.shape
  have hD1 := hD0.kept b1
  have hR1 := hR0.kept b1
  have hb1 := hbw.trans (b1.mono hbw.size)
  have hz1 := b1.size
  have f2 := hD1.frozen 2
  have d2 := hD1.cell 2
  have d1 := hD1.cell 1
  have d0 := hD1.cell 0
  have hrow := r1.setOther (p := ⟨w.heap.size + 1 + 1, 2, none⟩) (by show w.heap.size + 1 + 1 < _; omega) (.slice a1 p.length c1)
  have HSR := Lib.hid (hR1.far (p := ⟨w.heap.size + 1 + 1, 2, none⟩) (by simp) (.slice a1 p.length c1))
  have HROW := Lib.hid hrow
  have hbf := hb1.setCell (p := ⟨w.heap.size + 1 + 1, 2, none⟩) (show w.heap.size ≤ w.heap.size + 1 + 1 by omega) (.slice a1 p.length c1)
  clear hD0 hR0 hbw hI0 b1 hD1 hR1 r1 hrow
  go_wp2_with (refine desk_store rfl _ _ rfl rfl rfl rfl HSR.out ?_; intro w9 hS9 hbl9 hsz9 hO9)
  refine bodyPost_ret (results_cell_row rfl _ _ (w.heap.size + 1) 30 _ (0, 0) _ rfl hS9 Tryz.underlying30 rfl (by rw [size_desk]; rfl)) rfl ?_
  exact ⟨_, rfl, Row.mono (Row.others HROW.out (B := w.heap.size + 1) (by omega) hO9) (by omega), hbf.trans (hbl9 w.heap.size (by omega))⟩

set_option maxRecDepth 100000 in
set_option maxHeartbeats 1000000 in
theorem eqDesk (d : Pl.Dk) (pv qv : Value) (w : World) (hp : Ints w pv d.past) (hq : Ints w qv d.past) (hx : d.past.length ≤ 1000000000) :
    Calls Tryz.prog 30 #[.agg #[.int .i64 d.b, .int .i64 d.n, pv], .agg #[.int .i64 d.b, .int .i64 d.n, qv]] w fun e w' => e = .returned (.bool true) ∧ Below w.heap.size w w' := by
  obtain ⟨b, n, p⟩ := d
  simp only at hp hq hx ⊢
  have hbw : Below w.heap.size w ((w.alloc (.cells #[.int .i64 b, .int .i64 n, pv] 30)).alloc (.cells #[.int .i64 b, .int .i64 n, qv] 30)) := ((Below.refl _ w).alloc (Nat.le_refl _) _).alloc (by simp) _
  have hs := eqIntS pv qv p p _ (hp.below hbw) (hq.below hbw) hx
  rw [eqL_self] at hs
  have HS := Lib.hid hs
  clear hs
  go_enter Tryz.func30, Tryz.ntmps30
  go_wp2_with fail
  refine HS.out.mono ?_
  rintro e w1 ⟨rfl, hb1⟩
  go_wp2
  go_ret
  exact ⟨rfl, hbw.trans (hb1.mono hbw.size)⟩

set_option maxHeartbeats 400000 in
theorem markNone (a : Option Addr) (cap : Nat) (k : Int) (w : World) :
    Calls Tryz.prog 83 #[.slice a 0 cap, .int .i64 k] w fun e w' => e = .returned (.int .i64 k) ∧ w = w' := by
  go_enter Tryz.func83, Tryz.ntmps83
  go_wp2
  go_loopw [1, 5] (fun q i wr => q = .int .i64 k ∧ i = .int .i64 0 ∧ wr = w) (fun _ _ _ => 0)
  case atStart => exact ⟨rfl, rfl, rfl⟩
  case round =>
    obtain ⟨rfl, rfl, rfl⟩ := hrel
    go_wp2
    go_ret
    exact ⟨rfl, rfl⟩
theorem markOwn (base : Nat) (v : Value) (xs : List Int) (k : Int) (w : World) (hv : OwnTail base w v xs) (hx : xs.length ≤ 1000000000) (h0 : 0 ≤ k) (h1 : k ≤ 1000000000) :
    Calls Tryz.prog 83 #[v, .int .i64 k] w fun e w' => e = .returned (.int .i64 (k + xs.length)) ∧ OwnTail base w' v (marks k xs.length) ∧ Below base w w' := by
  rcases hv with hv | hv
  · refine (markIntS base v xs k w hv hx h0 h1).mono ?_
    rintro e w' ⟨rfl, r, b⟩
    exact ⟨rfl, .inl r, b⟩
  · by_cases hl : 1 ≤ xs.length
    · refine (markTail base v xs k w hv hl hx h0 h1).mono ?_
      rintro e w' ⟨rfl, r, b⟩
      exact ⟨rfl, .inr r, b⟩
    · obtain rfl : xs = [] := List.eq_nil_of_length_eq_zero (by omega)
      have hv' := hv
      obtain ⟨g, off, cap, capY, ys, rfl, _⟩ := hv'
      refine (markNone _ _ k w).mono ?_
      rintro e w' ⟨rfl, rfl⟩
      exact ⟨by simp, .inr (by simpa [marks] using hv), Below.refl _ _⟩

set_option maxRecDepth 100000 in
set_option maxHeartbeats 1000000 in
theorem markDesk (base : Nat) (b n : Int) (v : Value) (xs : List Int) (k : Int) (w : World) (hv : OwnTail base w v xs) (hbase : base ≤ w.heap.size) (hx : xs.length ≤ 1000000000) (h0 : 0 ≤ k) (h1 : k ≤ 1000000000) :
    Calls Tryz.prog 31 #[.agg #[.int .i64 b, .int .i64 n, v], .int .i64 k] w fun e w' => e = .returned (.int .i64 (k + xs.length)) ∧ OwnTail base w' v (marks k xs.length) ∧ Below base w w' := by
  have hal : Below base w (w.alloc (.cells #[.int .i64 b, .int .i64 n, v] 30)) := (Below.refl _ w).alloc hbase _
  have HM := Lib.hid (markOwn base v xs k _ (hv.below ((Below.refl _ w).alloc (Nat.le_refl _) (.cells #[.int .i64 b, .int .i64 n, v] 30))) hx h0 h1)
  go_enter Tryz.func31, Tryz.ntmps31
  go_wp2_with fail
  refine HM.out.mono ?_
  rintro e w1 ⟨rfl, r1, b1⟩
  go_wp2
  go_ret
  exact ⟨rfl, r1, hal.trans b1⟩

set_option maxRecDepth 100000 in
set_option maxHeartbeats 1000000 in
theorem heldDesk (b m : Int) (v : Value) (k : Int) (n : Nat) (w : World) (hv : Ints w v (marks k n)) (hx : n ≤ 1000000000) (h0 : 0 ≤ k) (h1 : k ≤ 1000000000) :
    Calls Tryz.prog 32 #[.agg #[.int .i64 b, .int .i64 m, v], .int .i64 k] w fun e w' => e = .returned (.int .i64 (k + n)) ∧ Below w.heap.size w w' := by
  have hal : Below w.heap.size w (w.alloc (.cells #[.int .i64 b, .int .i64 m, v] 30)) := (Below.refl _ w).alloc (Nat.le_refl _) _
  have HM := Lib.hid (heldIntS v k n _ (hv.below hal) hx h0 h1)
  have hneg : ¬ k + (n : Int) < 0 := by omega
  go_enter Tryz.func32, Tryz.ntmps32
  go_wp2_with (go_at_call 84; refine HM.out.mono ?_; rintro e w' ⟨rfl, rfl⟩)
  go_ret
  exact ⟨rfl, hal⟩

end Go.Proofs.YtgkkoegfmhgcjaaGreatDoor

namespace Go.Proofs.YtgkkoegfmhgcjaaGreatDoor
open Go.RowKit Go.Shelf

/-- What lies in another block than v's stays as it was. -/
def Else (v : Value) (w w' : World) : Prop := ∀ i, v.ownBlock ≠ some i → w'.heap[i]? = w.heap[i]?

set_option maxHeartbeats 1000000 in
theorem markIntK (base : Nat) (v : Value) (xs : List Int) (k : Int) (w : World) (hv : Row base w v xs) (hx : xs.length ≤ 1000000000) (h0 : 0 ≤ k) (h1 : k ≤ 1000000000) :
    Calls Tryz.prog 83 #[v, .int .i64 k] w fun e w' => e = .returned (.int .i64 (k + xs.length)) ∧ Row base w' v (marks k xs.length) ∧ Below base w w' ∧ Else v w w' := by
  by_cases hl : xs.length = 0
  · obtain ⟨a, cap, rfl⟩ := hv.shape
    rw [List.length_eq_zero_iff] at hl
    subst hl
    have HV := Lib.hid hv
    clear hv
    go_enter Tryz.func83, Tryz.ntmps83
    go_wp2
    go_loopw [1, 5] (fun q i wr => q = .int .i64 k ∧ i = .int .i64 0 ∧ wr = w) (fun _ _ _ => 0)
    case atStart => exact ⟨rfl, rfl, rfl⟩
    case round =>
      obtain ⟨rfl, rfl, rfl⟩ := hrel
      go_wp2
      go_ret
      exact ⟨ret_int (by simp), HV.out, Below.refl _ _, fun _ _ => rfl⟩
  · obtain ⟨g, cap, rfl, hg, hgs⟩ := hv.lt (by omega)
    have HV := Lib.hid hv
    obtain ⟨n, hn⟩ : ∃ n, xs.length = n := ⟨_, rfl⟩
    rw [hn] at hx ⊢
    have HN := Lib.hid hn
    have hn1 : n ≠ 0 := by omega
    clear hv hl
    rw [hn] at HV
    clear hn
    go_enter Tryz.func83, Tryz.ntmps83
    go_wp2
    go_loopw [1, 5] (fun q i wr => ∃ j : Nat, j ≤ n ∧ q = .int .i64 (k + j) ∧ i = .int .i64 j ∧ Row base wr (.slice (some ⟨g, 0, none⟩) n cap) (marks k j ++ xs.drop j) ∧ Below base w wr ∧ (∀ i, i ≠ g → wr.heap[i]? = w.heap[i]?)) (fun _ i _ => n - (intOf i).toNat)
    case atStart => exact ⟨0, Nat.zero_le _, by simp, rfl, by simpa [marks] using HV.out, Below.refl _ _, fun _ _ => rfl⟩
    case round =>
      obtain ⟨j, hj, rfl, rfl, hr, hbl, hel⟩ := hrel
      by_cases hlt : j < n
      · have hlen : (marks k j ++ xs.drop j).length = n := by have := HN.out; simp [marks_length]; omega
        obtain ⟨c1, c2⟩ := hr.cellAt hlen j hlt
        have HS := Lib.hid (hr.set hlen j (k + (j : Int)))
        rw [marks_step k xs j (by have := HN.out; omega)] at HS
        clear hr hlen
        have hi : (j : Int) < (n : Int) := by omega
        go_wp2
        go_roundw
        case rel => exact ⟨j + 1, by omega, by go_num, by go_num, HS.out, hbl.setCell (p := ⟨g, j, none⟩) hg _, fun i hi => (Below.heap_setCell _ _ _ _ hi).trans (hel i hi)⟩
        case measure => simp [intOf]; omega
      · obtain rfl : j = n := by omega
        have HR := Lib.hid hr
        clear hr
        go_wp2
        go_ret
        refine ⟨rfl, ?_, hbl, fun i hi => hel i (fun e => hi (by subst e; rfl))⟩
        have := HR.out
        rw [List.drop_of_length_le (by have := HN.out; omega), List.append_nil] at this
        exact this

set_option maxHeartbeats 1000000 in
theorem markTailK (base : Nat) (v : Value) (xs : List Int) (k : Int) (w : World) (hv : RowTail base w v xs) (h00 : 1 ≤ xs.length) (hx : xs.length ≤ 1000000000) (h0 : 0 ≤ k) (h1 : k ≤ 1000000000) :
    Calls Tryz.prog 83 #[v, .int .i64 k] w fun e w' => e = .returned (.int .i64 (k + xs.length)) ∧ RowTail base w' v (marks k xs.length) ∧ Below base w w' ∧ Else v w w' := by
  obtain ⟨g, off, cap, capY, ys, rfl, hd, hl, hr⟩ := hv
  obtain ⟨n, hn⟩ : ∃ n, xs.length = n := ⟨_, rfl⟩
  obtain ⟨N, hN⟩ : ∃ N, ys.length = N := ⟨_, rfl⟩
  have hA : (ys.take off).length = off := by rw [List.length_take]; omega
  have hg : base ≤ g := by
    obtain ⟨g', cap', hh, hb, _⟩ := hr.lt (by omega)
    have : g = g' := by injection hh with e1; simpa using e1
    omega
  have hys : ys = ys.take off ++ (marks k 0 ++ xs.drop 0) := by
    rw [List.drop_zero, ← hd]
    simp [marks]
  have hr0 := hr
  rw [hN] at hr0
  rw [hys] at hr0
  have HR0 := Lib.hid hr0
  rw [hn] at hx ⊢
  have HN := Lib.hid hn
  have HL := Lib.hid hl
  have HA := Lib.hid hA
  have HNN := Lib.hid hN
  have hoN : off + n = N := by omega
  have hn1 : n ≠ 0 := by omega
  clear hr hr0 hys hd hl hn hA hN h00
  generalize ys.take off = A at *
  go_enter Tryz.func83, Tryz.ntmps83
  go_wp2
  go_loopw [1, 5] (fun q i wr => ∃ j : Nat, j ≤ n ∧ q = .int .i64 (k + j) ∧ i = .int .i64 j ∧ Row base wr (.slice (some ⟨g, 0, none⟩) N capY) (A ++ (marks k j ++ xs.drop j)) ∧ Below base w wr ∧ (∀ i, i ≠ g → wr.heap[i]? = w.heap[i]?)) (fun _ i _ => n - (intOf i).toNat)
  case atStart => exact ⟨0, Nat.zero_le _, by simp, rfl, HR0.out, Below.refl _ _, fun _ _ => rfl⟩
  case round =>
    obtain ⟨j, hj, rfl, rfl, hr, hbl, hel⟩ := hrel
    by_cases hlt : j < n
    · have hlen : (A ++ (marks k j ++ xs.drop j)).length = N := by have := HN.out; have := HA.out; simp [marks_length]; omega
      obtain ⟨c1, c2⟩ := hr.cellAt hlen (off + j) (by omega)
      have hs := hr.set hlen (off + j) (k + (j : Int))
      rw [set_behind A _ j _ HA.out, marks_step k xs j (by have := HN.out; omega)] at hs
      have HS := Lib.hid hs
      clear hr hlen hs
      have hi : (j : Int) < (n : Int) := by omega
      go_wp2
      go_roundw
      case rel => exact ⟨j + 1, by omega, by go_num, by go_num, HS.out, hbl.setCell (p := ⟨g, off + j, none⟩) hg _, fun i hi => (Below.heap_setCell _ _ _ _ hi).trans (hel i hi)⟩
      case measure => simp [intOf]; omega
    · obtain rfl : j = n := by omega
      have HR := Lib.hid hr
      clear hr
      go_wp2
      go_ret
      refine ⟨rfl, ⟨g, off, cap, capY, A ++ marks k j, by rw [marks_length], ?_, by rw [List.length_append, marks_length, HA.out], ?_⟩, hbl, fun i hi => hel i (fun e => hi (by subst e; rfl))⟩
      · rw [List.drop_append_of_le_length (by rw [HA.out]; omega), List.drop_of_length_le (by rw [HA.out]; omega), List.nil_append]
      · have := HR.out
        rw [List.drop_of_length_le (by have := HN.out; omega), List.append_nil] at this
        rw [List.length_append, marks_length, HA.out, hoN]
        exact this

theorem Row.block {base : Nat} {w : World} {v : Value} {xs : List Int} (h : Row base w v xs) {g : Nat} (hg : v.ownBlock = some g) : base ≤ g ∧ ∃ cur, w.heap[g]? = some (.cells cur 3 (0, 0)) := by
  rcases h with ⟨h1, ⟨rfl, _⟩ | ⟨g', cap, cur, rfl, hb, hh, r⟩⟩
  · cases hg
  · obtain rfl : g' = g := by injection hg
    exact ⟨hb, cur, hh⟩
theorem OwnTail.block {base : Nat} {w : World} {v : Value} {xs : List Int} (h : OwnTail base w v xs) {g : Nat} (hg : v.ownBlock = some g) : base ≤ g ∧ ∃ cur, w.heap[g]? = some (.cells cur 3 (0, 0)) := by
  rcases h with h | ⟨g', off, cap, capY, ys, rfl, hd, hl, hr⟩
  · exact h.block hg
  · exact hr.block hg
theorem DRow.block {base : Nat} {w : World} {v : Value} {ds : List (Int × Int)} (h : DRow base w v ds) {g : Nat} (hg : v.ownBlock = some g) : base ≤ g ∧ ∃ cur, w.heap[g]? = some (.cells cur 38 (0, 0)) := by
  rcases h with ⟨h1, ⟨rfl, _⟩ | ⟨g', cap, cur, rfl, hb, hh, r⟩⟩
  · cases hg
  · obtain rfl : g' = g := by injection hg
    exact ⟨hb, cur, hh⟩
/-- A struct's box is no row's block. -/
theorem SBox.notOwn {base : Nat} {w : World} {v : Value} {xs : List Int} (h : OwnTail base w v xs) {B : Nat} {T : TypeId} {cs : Array Value} (hB : SBox w B T cs) (hT : T ≠ 3) : v.ownBlock ≠ some B := fun e => by
  obtain ⟨_, cur, hh⟩ := h.block e
  unfold SBox at hB
  rw [hB] at hh
  injection hh with hh
  injection hh with _ ht _
  exact hT ht
theorem SBox.notDeeds {base : Nat} {w : World} {v : Value} {ds : List (Int × Int)} (h : DRow base w v ds) {B : Nat} {T : TypeId} {cs : Array Value} (hB : SBox w B T cs) (hT : T ≠ 38) : v.ownBlock ≠ some B := fun e => by
  obtain ⟨_, cur, hh⟩ := h.block e
  unfold SBox at hB
  rw [hB] at hh
  injection hh with hh
  injection hh with _ ht _
  exact hT ht
theorem SBox.apart {w w' : World} {v : Value} {B : Nat} {T : TypeId} {cs : Array Value} (h : SBox w B T cs) (hE : Else v w w') (hv : v.ownBlock ≠ some B) : SBox w' B T cs := (hE B hv).trans h
theorem Row.apart {base : Nat} {w w' : World} {u v : Value} {xs : List Int} (h : Row base w u xs) (hE : Else v w w') (hv : ∀ g, u.ownBlock = some g → v.ownBlock ≠ some g) : Row base w' u xs := by
  rcases h with ⟨h1, h2 | ⟨g, cap, cur, rfl, hg, hh, r⟩⟩
  · exact ⟨h1, .inl h2⟩
  · exact ⟨h1, .inr ⟨g, cap, cur, rfl, hg, (hE g (hv g rfl)).trans hh, r⟩⟩
theorem OwnTail.apart {base : Nat} {w w' : World} {u v : Value} {xs : List Int} (h : OwnTail base w u xs) (hE : Else v w w') (hv : ∀ g, u.ownBlock = some g → v.ownBlock ≠ some g) : OwnTail base w' u xs := by
  rcases h with h | ⟨g, off, cap, capY, ys, rfl, hd, hl, hr⟩
  · exact .inl (h.apart hE hv)
  · exact .inr ⟨g, off, cap, capY, ys, rfl, hd, hl, hr.apart hE hv⟩

theorem markOwnK (base : Nat) (v : Value) (xs : List Int) (k : Int) (w : World) (hv : OwnTail base w v xs) (hx : xs.length ≤ 1000000000) (h0 : 0 ≤ k) (h1 : k ≤ 1000000000) :
    Calls Tryz.prog 83 #[v, .int .i64 k] w fun e w' => e = .returned (.int .i64 (k + xs.length)) ∧ OwnTail base w' v (marks k xs.length) ∧ Below base w w' ∧ Else v w w' := by
  rcases hv with hv | hv
  · refine (markIntK base v xs k w hv hx h0 h1).mono ?_
    rintro e w' ⟨rfl, r, b, el⟩
    exact ⟨rfl, .inl r, b, el⟩
  · by_cases hl : 1 ≤ xs.length
    · refine (markTailK base v xs k w hv hl hx h0 h1).mono ?_
      rintro e w' ⟨rfl, r, b, el⟩
      exact ⟨rfl, .inr r, b, el⟩
    · obtain rfl : xs = [] := List.eq_nil_of_length_eq_zero (by omega)
      have hv' := hv
      obtain ⟨g, off, cap, capY, ys, rfl, _⟩ := hv'
      refine (markNone _ _ k w).mono ?_
      rintro e w' ⟨rfl, rfl⟩
      exact ⟨by simp, .inr (by simpa [marks] using hv), Below.refl _ _, fun _ _ => rfl⟩

set_option maxRecDepth 100000 in
set_option maxHeartbeats 1000000 in
theorem markDeskK (base : Nat) (b n : Int) (v : Value) (xs : List Int) (k : Int) (w : World) (hv : OwnTail base w v xs) (hbase : base ≤ w.heap.size) (hx : xs.length ≤ 1000000000) (h0 : 0 ≤ k) (h1 : k ≤ 1000000000) :
    Calls Tryz.prog 31 #[.agg #[.int .i64 b, .int .i64 n, v], .int .i64 k] w fun e w' => e = .returned (.int .i64 (k + xs.length)) ∧ OwnTail base w' v (marks k xs.length) ∧ Below base w w' ∧ Else v (w.alloc (.cells #[.int .i64 b, .int .i64 n, v] 30)) w' := by
  have hal : Below base w (w.alloc (.cells #[.int .i64 b, .int .i64 n, v] 30)) := (Below.refl _ w).alloc hbase _
  have HM := Lib.hid (markOwnK base v xs k _ (hv.below ((Below.refl _ w).alloc (Nat.le_refl _) (.cells #[.int .i64 b, .int .i64 n, v] 30))) hx h0 h1)
  go_enter Tryz.func31, Tryz.ntmps31
  go_wp2_with fail
  refine HM.out.mono ?_
  rintro e w1 ⟨rfl, r1, b1, el⟩
  go_wp2
  go_ret
  exact ⟨rfl, r1, hal.trans b1, el⟩

theorem SBox.marked {base : Nat} {w w' : World} {v : Value} {xs : List Int} {o : Obj} {B : Nat} {T : TypeId} {cs : Array Value} (h : SBox w B T cs) (hv : OwnTail base w v xs) (hE : Else v (w.alloc o) w') (hT : T ≠ 3) : SBox w' B T cs :=
  (h.alloc o).apart hE (SBox.notOwn hv h hT)
theorem OwnTail.marked {base : Nat} {w w' : World} {u v : Value} {xs : List Int} {o : Obj} (h : OwnTail base w u xs) (hE : Else v (w.alloc o) w') (hne : ∀ g, u.ownBlock = some g → v.ownBlock ≠ some g) : OwnTail base w' u xs :=
  (h.below ((Below.refl _ w).alloc (Nat.le_refl _) o)).apart hE hne

end Go.Proofs.YtgkkoegfmhgcjaaGreatDoor
