/-
  impl: the methods ordered, up, down and left of a width; UpOf, DownOf, LeftOf: what they answer.
-/
import Derived.Test.YtepkneeedkmaoaaCounts
import Derived.Test.YtepkneeedkmaoaaRepeat
import Derived.Test.YtepkneeedkmaoaaAppendRow
import Derived.Test.YtepkneeedkmaoaaCalm
import Derived.Test.YtepkneeedkmaoaaWhole
import Derived.Deep.RegionWith
namespace Go.Proofs.Ytepkneeedkmaoaa
open Go.RowKit Go.Shelf

theorem Pl.flatUp_len {c : Nat → Nat} {M : Nat} (hc : ∀ d, c d ≤ M) : ∀ K, (Pl.flatUp c K).length ≤ K * M := by
  intro K
  induction K with
  | zero => simp [Pl.flatUp]
  | succ K ih =>
    rw [Pl.flatUp, List.length_append, List.length_replicate, Nat.succ_mul]
    have := hc K; omega

theorem Pl.cntW_le (b w n d : Nat) : Pl.cntW b w n d ≤ w := by
  have := List.count_le_length (a := d) (l := Pl.digW b w n)
  rw [Pl.digW_len] at this; exact this

theorem Pl.ord16 {b v x : Nat} (hb : 2 ≤ b) (hb' : b ≤ 16) : Pl.flatUp (Pl.cntW b v x) 16 = Pl.ordW b v x := by
  have h := Pl.flatUp_more (c := Pl.cntW b v x) (b := b) (16 - b) fun d hd => List.count_eq_zero.2 fun hx => by
    have := Pl.digW_mem hb v x d hx; omega
  rwa [show b + (16 - b) = 16 by omega] at h

theorem Pl.flatUp_ints (c : Nat → Nat) (K : Nat) : Pl.ints (Pl.flatUp c (K + 1)) = Pl.ints (Pl.flatUp c K) ++ List.replicate (c K) (K : Int) := by
  simp [Pl.flatUp, Pl.ints]

theorem index_arr (c : List Int) (hl : c.length = 16) (k : Nat) (hk : k < 16) (w : World) :
    (Instr.index 48 (.agg (c.map (Value.int .i64)).toArray) (.int .i64 (k : Int))).run Try.prog w = .ok (.int .i64 (c[k]?.getD 0)) w := by
  have h1 : 0 ≤ (k : Int) ∧ (k : Int) < 16 := by omega
  simp [Instr.index, run_underlying Try.underlying48, asIntOf, h1, part, go_sem, Try.isAgg3, Try.sizeOf3, hl, hk]

set_option maxRecDepth 100000 in
set_option maxHeartbeats 2000000 in
theorem widthOrdered (x v b : Nat) (h1 : 2 ≤ b) (h2 : b ≤ 16) (h3 : 2 ≤ v) (h4 : v ≤ 6) (hx : x < b ^ v) (w : World) :
    Calls Try.prog 60 #[.agg #[.int .i64 v, .int .i64 b], .int .i64 x] w (ListPost w (Pl.ints (Pl.ordW b v x))) := by
  have HC := Lib.hid (widthCounts x v b h1 h2 h3 h4 hx)
  have HO := Lib.hid (Pl.ord16 (v := v) (x := x) h1 h2)
  have hlen := Pl.flatUp_len (c := Pl.cntW b v x) (M := 6) (fun d => Nat.le_trans (Pl.cntW_le b v x d) h4)
  have hle : ∀ d, Pl.cntW b v x d ≤ 6 := fun d => Nat.le_trans (Pl.cntW_le b v x d) h4
  have HIX : Hid (∀ (k : Nat) (w : World), k < 16 → (Instr.index 48 (.agg ((Pl.cntsL b v x).map (Value.int .i64)).toArray) (.int .i64 (k : Int))).run Try.prog w = .ok (.int .i64 ((Pl.cntW b v x k : Nat) : Int)) w) := Lib.hid fun k w hk => by
    rw [index_arr _ (Pl.cntsL_len b v x) k hk, Pl.cntsL_get b v x hk]
  have HLEN := Lib.hid hlen
  have HLE := Lib.hid hle
  clear hlen hle hx
  generalize ((Pl.cntsL b v x).map (Value.int .i64)).toArray = A at *
  generalize Pl.cntW b v x = c at *
  go_enter Try.func60, Try.ntmps60
  go_wp2_with fail
  refine (HC.out _).mono ?_
  rintro e w1 ⟨rfl, b1⟩
  have hb1 : Below w.heap.size w w1 := ((Below.refl _ w).alloc (Nat.le_refl _) _).trans (b1.mono (by simp))
  clear b1
  go_wp2_with fail
  go_loopw [5, 6, 7, 11] (fun dv _ _ kv wr => ∃ (K : Nat) (vv : Value), vv = dv ∧ K ≤ 16 ∧ kv = .int .i64 K ∧ Row w.heap.size wr vv (Pl.ints (Pl.flatUp c K)) ∧ Below w.heap.size w wr) (fun _ _ _ kv _ => 16 - (intOf kv).toNat)
  case atStart => exact ⟨0, _, rfl, by omega, rfl, World.ownsRow_nil _ _ _ _, hb1⟩
  case round =>
    clear hb1
    obtain ⟨K, vv, rfl, hK, rfl, hr, hbw⟩ := hrel
    by_cases hlt : K < 16
    · have hi : (K : Int) < 16 := by omega
      have hix := fun W => HIX.out K W hlt
      have hcK := HLE.out K
      have hll := HLEN.out K
      have HS := Lib.hid (Pl.flatUp_ints c K)
      have hil := Pl.ints_len (Pl.flatUp c K)
      generalize c K = cK at *
      generalize Pl.ints (Pl.flatUp c K) = L at *
      have HR := Lib.hid hr
      have hsz := hbw.size
      have HONE : Hid (Ints (wr.alloc (.cells #[.int .i64 (K : Int)] 3)) (.slice (some ⟨wr.heap.size, 0, none⟩) 1 1) [(K : Int)]) := Lib.hid (row_one' 0 wr (K : Int) (Nat.zero_le _)).ints
      have hL : L.length ≤ 96 := by omega
      clear hr hil hll
      go_wp2_with (first | (go_at_call 62; refine (repeatOne _ _ cK (by omega) _ HONE.out).mono ?_; rintro e w2 ⟨u, rfl, ru, b2⟩; have hb2 : Below w.heap.size w w2 := (hbw.alloc (by omega) _).trans (b2.mono (by simp; omega)); have HRV : Hid (Row w.heap.size w2 vv L) := Lib.hid (Row.below (World.ownsRow.alloc HR.out _) b2); have HRU := Lib.hid ru; clear ru b2) | (at_builtin; refine append_row rfl (.tmp 15) (.tmp 19) rfl w.heap.size _ vv u L (List.replicate cK (K : Int)) rfl rfl HRV.out HRU.out (by simp; omega) hb2.size ?_; intro v3 w3 hr3 hb3))
      have HR3 := Lib.hid hr3
      clear hr3
      go_wp2_with fail
      go_roundw
      case rel => exact ⟨K + 1, _, rfl, by omega, by simp, by rw [HS.out]; exact HR3.out, hb2.trans hb3⟩
      case measure => simp [intOf]; omega
    · obtain rfl : K = 16 := by omega
      have hi : ¬ ((16 : Nat) : Int) < 16 := by omega
      rw [HO.out] at hr
      have HR := Lib.hid hr
      clear hr
      go_wp2_with fail
      go_ret
      exact ⟨_, rfl, HR.out, hbw⟩

theorem width_box {w w1 : World} {v b : Int} (h : Below (w.heap.size + 1) (w.alloc (.cells #[.int .i64 v, .int .i64 b] 42)) w1) :
    w1.cell? ⟨w.heap.size, 0, none⟩ = some (.int .i64 v) ∧ w1.cell? ⟨w.heap.size, 1, none⟩ = some (.int .i64 b) ∧ Below w.heap.size w w1 :=
  ⟨(Below.cell h (p := ⟨w.heap.size, 0, none⟩) (v := .int .i64 v) (by simp) (by rw [World.cell?_alloc_new]; rfl)), (Below.cell h (p := ⟨w.heap.size, 1, none⟩) (v := .int .i64 b) (by simp) (by rw [World.cell?_alloc_new]; rfl)),
    ((Below.refl _ w).alloc (Nat.le_refl _) _).trans (h.mono (by omega))⟩

theorem Pl.valF_ge {b : Nat} (hb : 1 ≤ b) : ∀ (l : List Nat) (acc : Nat), acc ≤ Pl.valF b acc l := by
  intro l
  induction l with
  | nil => intro acc; exact Nat.le_refl _
  | cons d t ih =>
    intro acc
    have h1 := ih (acc * b + d)
    have h2 : acc ≤ acc * b := Nat.le_mul_of_pos_right _ hb
    show acc ≤ Pl.valF b (acc * b + d) t
    omega

theorem Pl.wholeO_valF {b : Nat} (hb : 1 ≤ b) : ∀ (l : List Nat) (acc : Nat), (∀ x ∈ l, x < b) → Pl.valF b acc l ≤ 1000000000 → Pl.wholeO b (Pl.ints l) acc = some (Pl.valF b acc l) := by
  intro l
  induction l with
  | nil => intro acc _ _; rfl
  | cons d t ih =>
    intro acc hm hv
    have h1 := Pl.valF_ge hb t (acc * b + d)
    have hd := hm d (by simp)
    have hv' : Pl.valF b (acc * b + d) t ≤ 1000000000 := hv
    show Pl.wholeO b ((d : Int) :: Pl.ints t) acc = _
    rw [Pl.wholeO_good _ _ _ _ ⟨by omega, by
      have : ((acc * b + d : Nat) : Int) = (acc : Int) * b + (d : Int) := by rw [Int.natCast_add, Int.natCast_mul]
      omega⟩, Int.toNat_natCast]
    exact ih _ (fun x hx => hm x (by simp [hx])) hv'

theorem Pl.whole_up {b v x : Nat} (h1 : 2 ≤ b) (h2 : b ≤ 16) (h3 : 1 ≤ v) (h4 : v ≤ 6) : Pl.whole (Pl.ints (Pl.ordW b v x)) b = some (Pl.upN b v x) := by
  have hlt := Pl.upN_lt h1 v x
  have hp := Pl.pow_le24 (b := b) (w := v) h2 h4
  have e : Pl.upN b v x = Pl.valF b 0 (Pl.ordW b v x) := by
    have := Pl.valF_rev b (Pl.ordW b v x).reverse
    rw [List.reverse_reverse] at this
    exact this.symm
  rw [Pl.whole, if_pos, Int.toNat_natCast, e]
  · exact Pl.wholeO_valF (by omega) _ _ (fun x hx => Pl.ordW_mem hx) (by omega)
  · refine ⟨by rw [Pl.baseB_iff]; omega, fun h => ?_⟩
    have := congrArg List.length h
    rw [Pl.ints_len, Pl.ordW_len h1] at this
    simp at this; omega

theorem Pl.whole_down {b v x : Nat} (h1 : 2 ≤ b) (h2 : b ≤ 16) (h3 : 1 ≤ v) (h4 : v ≤ 6) : Pl.whole (Pl.ints (Pl.ordW b v x)).reverse b = some (Pl.downN b v x) := by
  have hlt := Pl.downN_lt h1 v x
  have hp := Pl.pow_le24 (b := b) (w := v) h2 h4
  have e : Pl.downN b v x = Pl.valF b 0 (Pl.ordW b v x).reverse := (Pl.valF_rev b _).symm
  have er : (Pl.ints (Pl.ordW b v x)).reverse = Pl.ints (Pl.ordW b v x).reverse := by simp [Pl.ints]
  rw [er, Pl.whole, if_pos, Int.toNat_natCast, e]
  · exact Pl.wholeO_valF (by omega) _ _ Pl.ordW_mem_rev (by omega)
  · refine ⟨by rw [Pl.baseB_iff]; omega, fun h => ?_⟩
    have := congrArg List.length h
    rw [Pl.ints_len, List.length_reverse, Pl.ordW_len h1] at this
    simp at this; omega

set_option maxRecDepth 100000 in
set_option maxHeartbeats 2000000 in
theorem widthUp (x v b : Nat) (h1 : 2 ≤ b) (h2 : b ≤ 16) (h3 : 2 ≤ v) (h4 : v ≤ 6) (hx : x < b ^ v) (w : World) :
    Calls Try.prog 51 #[.agg #[.int .i64 v, .int .i64 b], .int .i64 x] w fun e w' => e = .returned (.int .i64 (Pl.upN b v x : Nat)) ∧ Below w.heap.size w w' := by
  have HO := Lib.hid (widthOrdered x v b h1 h2 h3 h4 hx)
  have HW := Lib.hid (Pl.whole_up (x := x) h1 h2 (v := v) (by omega) h4)
  have hlen : (Pl.ints (Pl.ordW b v x)).length ≤ 1000000000 := by rw [Pl.ints_len, Pl.ordW_len h1]; omega
  have HLEN := Lib.hid hlen
  clear hlen hx
  generalize Pl.ints (Pl.ordW b v x) = L at *
  generalize Pl.upN b v x = U at *
  go_enter Try.func51, Try.ntmps51
  go_wp2_with fail
  have hb0 : Below (w.heap.size + 1) (w.alloc (.cells #[.int .i64 v, .int .i64 b] 42)) ((w.alloc (.cells #[.int .i64 v, .int .i64 b] 42)).drew) := (Below.refl _ _).drew
  obtain ⟨c0, c1, hB⟩ := width_box hb0
  go_region_with (first | (go_at_call 60; refine (HO.out _).mono ?_; rintro e w1 ⟨u, rfl, r1, b1⟩; have HR := Lib.hid r1; have hb1 := hb0.trans (b1.mono (by simp)); obtain ⟨e0, e1, hB1⟩ := width_box hb1; clear r1 b1 c0 c1 hb0) | (go_at_call 59; refine (implWholeOf _ L _ _ HR.out.ints HLEN.out).mono ?_; rintro e w2 ⟨rfl, rfl⟩; rw [HW.out]))
  all_goals
    go_wp2
    go_ret
    exact ⟨rfl, hB1⟩

end Go.Proofs.Ytepkneeedkmaoaa
