/-
  The laws' own comparisons of desks.
-/
import Derived.Test.YtakkjlcnfkklpaaSpecRun
import Derived.Test.YtakkjlcnfkklpaaDigitsOf
namespace Go.Proofs.Ytakkjlcnfkklpaa
open Go.RowKit Go.Shelf

def Pl.sameA (d e : Pl.Dk) : Bool := decide (d.b = e.b) && (decide (d.n = e.n) && eqL d.past e.past)

set_option maxRecDepth 100000 in
set_option maxHeartbeats 1000000 in
theorem sameDesk (d d' : Pl.Dk) (u v : Value) (w : World) (hu : Ints w u d.past) (hv : Ints w v d'.past) (hx : d.past.length ≤ 1000000000) :
    Calls Try.prog 18 #[.agg #[.int .i64 d.b, .int .i64 d.n, u], .agg #[.int .i64 d'.b, .int .i64 d'.n, v]] w fun e w' => e = .returned (.bool (Pl.sameA d d')) ∧ Below w.heap.size w w' := by
  obtain ⟨b, n, p⟩ := d
  obtain ⟨b', n', p'⟩ := d'
  simp only at hu hv hx ⊢
  obtain ⟨R, hR⟩ : ∃ R, Pl.sameA ⟨b, n, p⟩ ⟨b', n', p'⟩ = R := ⟨_, rfl⟩
  rw [hR]
  have HRR := Lib.hid hR
  clear hR
  have hbw : Below w.heap.size w ((w.alloc (.cells #[.int .i64 b, .int .i64 n, u] 25)).alloc (.cells #[.int .i64 b', .int .i64 n', v] 25)) := ((Below.refl _ w).alloc (Nat.le_refl _) _).alloc (by simp) _
  have hA : SBox ((w.alloc (.cells #[.int .i64 b, .int .i64 n, u] 25)).alloc (.cells #[.int .i64 b', .int .i64 n', v] 25)) w.heap.size 25 #[.int .i64 b, .int .i64 n, u] := (SBox.new w 25 _).alloc _
  have hB : SBox ((w.alloc (.cells #[.int .i64 b, .int .i64 n, u] 25)).alloc (.cells #[.int .i64 b', .int .i64 n', v] 25)) (w.heap.size + 1) 25 #[.int .i64 b', .int .i64 n', v] := by
    have := SBox.new (w.alloc (.cells #[.int .i64 b, .int .i64 n, u] 25)) 25 #[.int .i64 b', .int .i64 n', v]
    rwa [World.size_alloc] at this
  have HI := Lib.hid (fun W hb => sameInts u v p p' W (hu.below hb) (hv.below hb) hx)
  clear hu hv
  have a0 := hA.cell 0
  have a1 := hA.cell 1
  have a2 := hA.cell 2
  have b0 := hB.cell 0
  have b1 := hB.cell 1
  have b2 := hB.cell 2
  clear hA hB
  go_enter Try.func18, Try.ntmps18
  go_upto_region 1 with (fail)
  generalize (w.alloc (.cells #[.int .i64 b, .int .i64 n, u] 25)).alloc (.cells #[.int .i64 b', .int .i64 n', v] 25) = W at *
  by_cases h1 : b = b'
  · subst h1
    by_cases h2 : n = n'
    · subst h2
      go_wp2_with fail
      refine (HI.out _ hbw).mono ?_
      rintro e w3 ⟨rfl, b3⟩
      have c3 := hbw.trans (b3.mono hbw.size)
      have HE : Hid (eqL p p' = R) := Lib.hid (by rw [← HRR.out]; simp [Pl.sameA])
      generalize eqL p p' = E at *
      go_wp2_with fail
      go_ret
      exact ⟨ret_bool HE.out, c3⟩
    · have HE : Hid (false = R) := Lib.hid (by rw [← HRR.out]; simp [Pl.sameA, h2])
      go_wp2_with fail
      go_ret
      exact ⟨ret_bool HE.out, hbw⟩
  · have HE : Hid (false = R) := Lib.hid (by rw [← HRR.out]; simp [Pl.sameA, h1])
    go_wp2_with fail
    go_ret
    exact ⟨ret_bool HE.out, hbw⟩

theorem noDesk (d : Pl.Dk) (u : Value) (w : World) (hu : Ints w u d.past) (hx : d.past.length ≤ 1000000000) :
    Calls Try.prog 19 #[.agg #[.int .i64 d.b, .int .i64 d.n, u]] w fun e w' => e = .returned (.bool (Pl.sameA d ⟨0, 0, []⟩)) ∧ Below w.heap.size w w' := by
  have b1 : Below w.heap.size w (w.alloc (.cells #[.int .i64 d.b, .int .i64 d.n, u] 25)) := (Below.refl _ w).alloc (Nat.le_refl _) _
  have h1 := (SBox.new w 25 #[.int .i64 d.b, .int .i64 d.n, u])
  have HI := Lib.hid (sameDesk d ⟨0, 0, []⟩ u (.slice none 0 0) _ (hu.below b1) (Ints.nil _) hx)
  clear hu
  go_enter Try.func19, Try.ntmps19
  go_wp2_with (first | (refine desk_load rfl _ rfl rfl h1 ?_))
  refine HI.out.mono ?_
  rintro e w3 ⟨rfl, b3⟩
  have c3 := b1.trans (b3.mono b1.size)
  go_wp2_with fail
  go_ret
  exact ⟨rfl, c3⟩

end Go.Proofs.Ytakkjlcnfkklpaa
