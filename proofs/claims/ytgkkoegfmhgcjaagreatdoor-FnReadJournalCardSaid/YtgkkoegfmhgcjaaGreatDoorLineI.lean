/-
  impl: numbers with commas between them, the answers of a desk, and the maps in which they are looked up.
-/
import Derived.Maps.Own
import Derived.Maps.OwnSet
import Derived.Test.YtgkkoegfmhgcjaaGreatDoorMathLine
import Derived.Test.YtgkkoegfmhgcjaaGreatDoorGLib
import Derived.Test.YtgkkoegfmhgcjaaGreatDoorGText
import Derived.Test.YtgkkoegfmhgcjaaGreatDoorGDeskI
import Derived.Test.YtgkkoegfmhgcjaaGreatDoorGRound
import Derived.Test.YtgkkoegfmhgcjaaGreatDoorGSelf
import Derived.Test.YtgkkoegfmhgcjaaGreatDoorGCarry
import Derived.Test.YtgkkoegfmhgcjaaGreatDoorGOver
namespace Go.Proofs.YtgkkoegfmhgcjaaGreatDoor
open Go.RowKit Go.Shelf Go.Maps

/-- A call that hands back a text. -/
def AnsPost (w : World) (l : List UInt8) (e : Ending) (w' : World) : Prop := e = .returned (.string (Pl.str l)) ∧ Below w.heap.size w w'

theorem libItoaI (n : Int) (h : 0 ≤ n ∧ n ≤ 1000000000000) (w : World) (hT : TabOk w) : Calls Tryz.prog 55 #[.int .i64 n] w (AnsPost w (Pl.decI n)) := by
  obtain ⟨u, rfl⟩ := Int.eq_ofNat_of_zero_le h.1
  exact libItoa u (by omega) w hT

theorem libJoin (base : Nat) (v : Value) (ls : List (List UInt8)) (w : World) (hv : TRow base w v ls) (hN : ls.length ≤ 30000000) (hlen : (Lib.join ls [44]).length ≤ 1000000000) :
    Calls Tryz.prog 175 #[v, .string ⟨#[44]⟩] w (AnsPost w (Lib.join ls [44])) := by
  by_cases h0 : ls = []
  · subst h0
    obtain ⟨a, cap, rfl⟩ := hv.shape
    refine (Any.strings_Join_none Tryz.lays156 (extraOf _ rfl rfl) a cap ⟨#[44]⟩ w).mono ?_
    rintro e w' ⟨rfl, rfl⟩
    exact ⟨rfl, Below.refl _ _⟩
  · have h1 : 1 ≤ ls.length := List.length_pos_iff.2 h0
    obtain ⟨g, cap, rfl, _, hg, hcap, hcell⟩ := hv.lies h1
    have e : (ls.map Pl.str).map (fun x : ByteArray => x.data.toList) = ls := by
      rw [List.map_map]
      conv => rhs; rw [← List.map_id ls]
      rfl
    have hl : (ls.map Pl.str).length = ls.length := List.length_map _
    have hJ := Any.strings_Join Tryz.lays156 (extraOf _ rfl rfl) g 0 cap (ls.map Pl.str) ⟨#[44]⟩ w (fun j x hx => by
      have hj : j < ls.length := by have := (List.getElem?_eq_some_iff.1 hx).1; rwa [hl] at this
      rw [Nat.zero_add, hcell j hj]
      rw [List.getElem?_map, List.getElem?_eq_getElem hj] at hx
      rw [List.getElem?_eq_getElem hj]
      cases hx; rfl) hg (by omega) (by omega) (by rw [e]; show (Lib.join ls [44]).length ≤ _; omega)
    rw [hl, e] at hJ
    exact hJ

theorem implYesNo (b : Bool) (w : World) : Calls Tryz.prog 149 #[.bool b] w (AnsPost w (Pl.saidL b)) := by
  cases b
  all_goals
    go_enter Tryz.func149, Tryz.ntmps149
    go_wp2
    go_ret
    exact ⟨rfl, Below.refl _ _⟩

set_option maxRecDepth 100000 in
set_option maxHeartbeats 2000000 in
theorem implCommas (v : Value) (xs : List Int) (w : World) (hv : Ints w v xs) (hf : Pl.Few xs) (hx : xs.length ≤ 30000000) (hT : TabOk w) :
    Calls Tryz.prog 145 #[v] w (AnsPost w (Pl.commaL xs)) := by
  obtain ⟨a, cap, rfl, hc⟩ := hv
  obtain ⟨i0, hi0, hz0, hz1, hz2⟩ := info_parts info_str
  have HC := Lib.hid hc
  have HF := Lib.hid hf
  have HT := Lib.hid hT
  have HJ := Lib.hid (fun base v W h => libJoin base v (xs.map Pl.decI) W h (by rw [List.length_map]; exact hx) (Nat.le_trans (Pl.comma_len hf) (by omega)))
  clear hc hf hT
  go_enter Tryz.func145, Tryz.ntmps145
  go_wp2_with fail
  go_loopw [3, 8] (fun tv kv wr => ∃ k : Nat, k ≤ xs.length ∧ kv = .int .i64 k ∧ TRow w.heap.size wr tv ((xs.take k).map Pl.decI) ∧ Below w.heap.size w wr) (fun _ kv _ => xs.length - (intOf kv).toNat)
  case atStart => exact ⟨0, Nat.zero_le _, rfl, World.ownsRow_nil _ _ _ _, Below.refl _ _⟩
  case round =>
    obtain ⟨k, hk, rfl, hr, hbw⟩ := hrel
    have hsz := hbw.size
    by_cases hlt : k < xs.length
    · obtain ⟨b, off, rfl, ck⟩ := HC.out k hlt
      have hbb : b < w.heap.size := World.block_lt_of_cell? _ _ ck
      have dk := (hbw.cell (p := ⟨b, off + k, none⟩) hbb).trans ck
      have hi : (k : Int) < (xs.length : Int) := by omega
      have hq := HF.out (xs[k]?.getD 0) (by rw [List.getElem?_eq_getElem hlt]; exact List.getElem_mem _)
      have htk : (xs.take (k + 1)).map Pl.decI = (xs.take k).map Pl.decI ++ [Pl.decI (xs[k]?.getD 0)] := by
        rw [List.getElem?_eq_getElem hlt, Option.getD_some, List.take_succ_eq_append_getElem hlt, List.map_append]; rfl
      have hlen : ((xs.take k).map Pl.decI).length = k := by rw [List.length_map, List.length_take]; omega
      have HN := Lib.hid (libItoaI (xs[k]?.getD 0) (by omega) wr (HT.out.below hbw))
      have HTK := Lib.hid htk
      obtain ⟨av, cv, rfl⟩ := hr.shape
      rw [hlen] at hr ⊢
      have HR := Lib.hid hr
      have HLN := Lib.hid hlen
      clear hr ck hq htk hlen
      generalize xs[k]?.getD 0 = q at *
      go_wp2_with fail
      refine HN.out.mono ?_
      rintro e w7 ⟨rfl, b7⟩
      have c7 := hbw.trans (b7.mono hsz)
      have h7 := HR.out.below b7
      have hr2 : w7.ownsRow w.heap.size 9 1 (.slice av k cv) k (((xs.take k).map Pl.decI).map fun l => Value.string (Pl.str l)) := by
        have := h7
        unfold TRow at this
        rwa [HLN.out] at this
      have hs7 := c7.size
      clear HN dk b7 h7
      generalize hA : Pl.str (Pl.decI q) = A at *
      go_wp2_with (at_builtin; refine wpList_append_own _ rfl _ _ 47 rfl w.heap.size 9 i0 (.string ⟨#[]⟩) 1 16 Tryz.underlying47 hi0 hz0 hz1 hz2 rfl (by decide) _ _ _ rfl (hr2.alloc _) ⟨w7.heap.size, 0, none⟩ 1 1 [.string A] rfl rfl (cell_one_new _ _ _) (by simp [Value.oneCell']) (by unfold maxLen; omega) (by omega) (by simp; omega) ?_; intro v8 w8 hown8 hgrow8 _)
      have hb8 : Below w.heap.size w w8 := below_append (c7.alloc (by omega) _) (hr2.alloc _) hgrow8
      have H8 : Hid (TRow w.heap.size w8 v8 ((xs.take (k + 1)).map Pl.decI)) := Lib.hid (by
        rw [HTK.out]
        refine trow_snoc hA.symm ?_
        rw [HLN.out]; exact hown8)
      clear hown8 hgrow8 hr2
      go_wp2_with fail
      go_roundw
      case rel => exact ⟨k + 1, by omega, by go_num, H8.out, hb8⟩
      case measure => simp [intOf]; omega
    · obtain rfl : k = xs.length := by omega
      have hi : ¬ (xs.length : Int) < (xs.length : Int) := by omega
      rw [List.take_of_length_le (Nat.le_refl _)] at hr
      have HR := Lib.hid hr
      clear hr
      go_wp2_with fail
      refine (HJ.out _ _ _ HR.out).mono ?_
      rintro e w7 ⟨rfl, b7⟩
      have c7 := hbw.trans (b7.mono hsz)
      go_wp2
      go_ret
      exact ⟨rfl, c7⟩

set_option maxHeartbeats 1000000 in
theorem impl_number (b m : Int) (pv : Value) (w : World) (hok : Pl.okB m b = true) (hL : LibOk w) :
    Calls Tryz.prog 114 #[.agg #[.int .i64 b, .int .i64 m, pv]] w (AnsPost w (Pl.decI m)) := by
  have b1 : Below w.heap.size w (w.alloc (.cells #[.int .i64 b, .int .i64 m, pv] 30)) := (Below.refl _ _).alloc (Nat.le_refl _) _
  have HL := Lib.hid hL
  clear hL
  go_enter Tryz.func114, Tryz.ntmps114
  go_wp2_with fail
  generalize w.alloc (.cells #[.int .i64 b, .int .i64 m, pv] 30) = W at *
  refine (libItoaI m (by have := Pl.okB_whole hok; omega) _ (HL.out.below b1).tab).mono ?_
  rintro e w3 ⟨rfl, b3⟩
  have c3 := b1.trans (b3.mono b1.size)
  go_wp2
  go_ret
  exact ⟨rfl, c3⟩

set_option maxHeartbeats 1000000 in
theorem impl_digits (b m : Int) (pv : Value) (w : World) (hok : Pl.okB m b = true) (hL : LibOk w) :
    Calls Tryz.prog 115 #[.agg #[.int .i64 b, .int .i64 m, pv]] w (AnsPost w (Pl.commaL (Pl.digA m b))) := by
  have b1 : Below w.heap.size w (w.alloc (.cells #[.int .i64 b, .int .i64 m, pv] 30)) := (Below.refl _ _).alloc (Nat.le_refl _) _
  have HL := Lib.hid hL
  clear hL
  go_enter Tryz.func115, Tryz.ntmps115
  go_wp2_with fail
  generalize w.alloc (.cells #[.int .i64 b, .int .i64 m, pv] 30) = W at *
  refine (implDigitsOf m b W).mono ?_
  rintro e w2 ⟨v2, rfl, r2, b2⟩
  have c2 := b1.trans (b2.mono b1.size)
  go_wp2_with fail
  refine (implCommas v2 _ _ r2.ints (Pl.dig_few hok).1 (Nat.le_trans (Pl.digA_len30 m b) (by omega)) (HL.out.below c2).tab).mono ?_
  rintro e w3 ⟨rfl, b3⟩
  have c3 := c2.trans (b3.mono c2.size)
  go_wp2
  go_ret
  exact ⟨rfl, c3⟩

set_option maxHeartbeats 1000000 in
theorem impl_root (b m : Int) (pv : Value) (w : World) (hok : Pl.okB m b = true) (hL : LibOk w) :
    Calls Tryz.prog 116 #[.agg #[.int .i64 b, .int .i64 m, pv]] w (AnsPost w (Pl.decI (Pl.rootI m b))) := by
  have b1 : Below w.heap.size w (w.alloc (.cells #[.int .i64 b, .int .i64 m, pv] 30)) := (Below.refl _ _).alloc (Nat.le_refl _) _
  have HL := Lib.hid hL
  clear hL
  go_enter Tryz.func116, Tryz.ntmps116
  go_wp2_with fail
  generalize w.alloc (.cells #[.int .i64 b, .int .i64 m, pv] 30) = W at *
  refine (implRootOf m b W).mono ?_
  rintro e w2 ⟨rfl, b2⟩
  have c2 := b1.trans (b2.mono b1.size)
  go_wp2_with fail
  refine (libItoaI _ (by have := Pl.root_bnd hok; omega) _ (HL.out.below c2).tab).mono ?_
  rintro e w3 ⟨rfl, b3⟩
  have c3 := c2.trans (b3.mono c2.size)
  go_wp2
  go_ret
  exact ⟨rfl, c3⟩

set_option maxHeartbeats 1000000 in
theorem impl_round (b m : Int) (pv : Value) (w : World) (hok : Pl.okB m b = true) (hL : LibOk w) :
    Calls Tryz.prog 117 #[.agg #[.int .i64 b, .int .i64 m, pv]] w (AnsPost w (Pl.commaL (Pl.roundA m 2 b))) := by
  have b1 : Below w.heap.size w (w.alloc (.cells #[.int .i64 b, .int .i64 m, pv] 30)) := (Below.refl _ _).alloc (Nat.le_refl _) _
  have HL := Lib.hid hL
  clear hL
  go_enter Tryz.func117, Tryz.ntmps117
  go_wp2_with fail
  generalize w.alloc (.cells #[.int .i64 b, .int .i64 m, pv] 30) = W at *
  refine (implRoundFrom m 2 b W).mono ?_
  rintro e w2 ⟨v2, rfl, r2, b2⟩
  have c2 := b1.trans (b2.mono b1.size)
  go_wp2_with fail
  refine (implCommas v2 _ _ r2.ints (Pl.round_few hok).1 (Nat.le_trans (Pl.roundA_len m 2 b) (by omega)) (HL.out.below c2).tab).mono ?_
  rintro e w3 ⟨rfl, b3⟩
  have c3 := c2.trans (b3.mono c2.size)
  go_wp2
  go_ret
  exact ⟨rfl, c3⟩

set_option maxHeartbeats 1000000 in
theorem impl_happy (b m : Int) (pv : Value) (w : World) (_hok : Pl.okB m b = true) (hL : LibOk w) :
    Calls Tryz.prog 118 #[.agg #[.int .i64 b, .int .i64 m, pv]] w (AnsPost w (Pl.saidL (Pl.happyB m b))) := by
  have b1 : Below w.heap.size w (w.alloc (.cells #[.int .i64 b, .int .i64 m, pv] 30)) := (Below.refl _ _).alloc (Nat.le_refl _) _
  have HL := Lib.hid hL
  clear hL
  go_enter Tryz.func118, Tryz.ntmps118
  go_wp2_with fail
  generalize w.alloc (.cells #[.int .i64 b, .int .i64 m, pv] 30) = W at *
  refine (implHappyOk m b W).mono ?_
  rintro e w2 ⟨rfl, b2⟩
  have c2 := b1.trans (b2.mono b1.size)
  go_wp2_with fail
  refine (implYesNo _ _).mono ?_
  rintro e w3 ⟨rfl, b3⟩
  have c3 := c2.trans (b3.mono c2.size)
  go_wp2
  go_ret
  exact ⟨rfl, c3⟩

set_option maxHeartbeats 1000000 in
theorem impl_palindrome (b m : Int) (pv : Value) (w : World) (_hok : Pl.okB m b = true) (hL : LibOk w) :
    Calls Tryz.prog 119 #[.agg #[.int .i64 b, .int .i64 m, pv]] w (AnsPost w (Pl.saidL (Pl.palB m b))) := by
  have b1 : Below w.heap.size w (w.alloc (.cells #[.int .i64 b, .int .i64 m, pv] 30)) := (Below.refl _ _).alloc (Nat.le_refl _) _
  have HL := Lib.hid hL
  clear hL
  go_enter Tryz.func119, Tryz.ntmps119
  go_wp2_with fail
  generalize w.alloc (.cells #[.int .i64 b, .int .i64 m, pv] 30) = W at *
  refine (implPalindromeOk m b W).mono ?_
  rintro e w2 ⟨rfl, b2⟩
  have c2 := b1.trans (b2.mono b1.size)
  go_wp2_with fail
  refine (implYesNo _ _).mono ?_
  rintro e w3 ⟨rfl, b3⟩
  have c3 := c2.trans (b3.mono c2.size)
  go_wp2
  go_ret
  exact ⟨rfl, c3⟩

set_option maxHeartbeats 1000000 in
theorem impl_self (b m : Int) (pv : Value) (w : World) (_hok : Pl.okB m b = true) (hL : LibOk w) :
    Calls Tryz.prog 120 #[.agg #[.int .i64 b, .int .i64 m, pv]] w (AnsPost w (Pl.saidL (Pl.selfB m b))) := by
  have b1 : Below w.heap.size w (w.alloc (.cells #[.int .i64 b, .int .i64 m, pv] 30)) := (Below.refl _ _).alloc (Nat.le_refl _) _
  have HL := Lib.hid hL
  clear hL
  go_enter Tryz.func120, Tryz.ntmps120
  go_wp2_with fail
  generalize w.alloc (.cells #[.int .i64 b, .int .i64 m, pv] 30) = W at *
  refine (implSelfOk m b W).mono ?_
  rintro e w2 ⟨rfl, b2⟩
  have c2 := b1.trans (b2.mono b1.size)
  go_wp2_with fail
  refine (implYesNo _ _).mono ?_
  rintro e w3 ⟨rfl, b3⟩
  have c3 := c2.trans (b3.mono c2.size)
  go_wp2
  go_ret
  exact ⟨rfl, c3⟩

set_option maxHeartbeats 1000000 in
theorem impl_persists (b m : Int) (pv : Value) (w : World) (hok : Pl.okB m b = true) (hL : LibOk w) :
    Calls Tryz.prog 121 #[.agg #[.int .i64 b, .int .i64 m, pv]] w (AnsPost w (Pl.decI (Pl.peK (Pl.persA m b)))) := by
  have b1 : Below w.heap.size w (w.alloc (.cells #[.int .i64 b, .int .i64 m, pv] 30)) := (Below.refl _ _).alloc (Nat.le_refl _) _
  have HL := Lib.hid hL
  clear hL
  go_enter Tryz.func121, Tryz.ntmps121
  go_wp2_with fail
  generalize w.alloc (.cells #[.int .i64 b, .int .i64 m, pv] 30) = W at *
  refine (implPersistsOf m b W).mono ?_
  rintro e w2 ⟨rfl, b2⟩
  have c2 := b1.trans (b2.mono b1.size)
  go_wp2_with fail
  refine (libItoaI _ (by have := Pl.pers_bnd hok; omega) _ (HL.out.below c2).tab).mono ?_
  rintro e w3 ⟨rfl, b3⟩
  have c3 := c2.trans (b3.mono c2.size)
  go_wp2
  go_ret
  exact ⟨rfl, c3⟩

set_option maxHeartbeats 1000000 in
theorem impl_noughts (b m : Int) (pv : Value) (w : World) (hok : Pl.okB m b = true) (hL : LibOk w) :
    Calls Tryz.prog 122 #[.agg #[.int .i64 b, .int .i64 m, pv]] w (AnsPost w (Pl.decI (Pl.nouI m b))) := by
  have b1 : Below w.heap.size w (w.alloc (.cells #[.int .i64 b, .int .i64 m, pv] 30)) := (Below.refl _ _).alloc (Nat.le_refl _) _
  have HL := Lib.hid hL
  clear hL
  go_enter Tryz.func122, Tryz.ntmps122
  go_wp2_with fail
  generalize w.alloc (.cells #[.int .i64 b, .int .i64 m, pv] 30) = W at *
  refine (implNoughtsAtEnd m b W).mono ?_
  rintro e w2 ⟨rfl, b2⟩
  have c2 := b1.trans (b2.mono b1.size)
  go_wp2_with fail
  refine (libItoaI _ (by have := Pl.nou_bnd hok; omega) _ (HL.out.below c2).tab).mono ?_
  rintro e w3 ⟨rfl, b3⟩
  have c3 := c2.trans (b3.mono c2.size)
  go_wp2
  go_ret
  exact ⟨rfl, c3⟩

set_option maxHeartbeats 1000000 in
theorem impl_steps (b m : Int) (pv : Value) (w : World) (hok : Pl.okB m b = true) (hL : LibOk w) :
    Calls Tryz.prog 123 #[.agg #[.int .i64 b, .int .i64 m, pv]] w (AnsPost w (if Pl.stB (Pl.stpA m b) = true then Pl.decI (Pl.stK (Pl.stpA m b)) else Pl.noneW)) := by
  have b1 : Below w.heap.size w (w.alloc (.cells #[.int .i64 b, .int .i64 m, pv] 30)) := (Below.refl _ _).alloc (Nat.le_refl _) _
  have HL := Lib.hid hL
  have HPE := Lib.hid (fun W => implPalSteps m b W)
  have hsb := fun h => Pl.steps_bnd (n := m) (b := b) hok h
  clear hL
  generalize Pl.stK (Pl.stpA m b) = SK at *
  cases hst : Pl.stB (Pl.stpA m b)
  · rw [hst] at HPE
    rw [if_neg (by decide)]
    clear hst hsb
    go_enter Tryz.func123, Tryz.ntmps123
    go_wp2_with fail
    generalize w.alloc (.cells #[.int .i64 b, .int .i64 m, pv] 30) = W at *
    refine (HPE.out W).mono ?_
    rintro e w2 ⟨rfl, b2⟩
    have c2 := b1.trans (b2.mono b1.size)
    go_wp2
    go_ret
    exact ⟨rfl, c2⟩
  · rw [hst] at HPE
    rw [if_pos rfl]
    replace hsb := hsb hst
    clear hst
    go_enter Tryz.func123, Tryz.ntmps123
    go_wp2_with fail
    generalize w.alloc (.cells #[.int .i64 b, .int .i64 m, pv] 30) = W at *
    refine (HPE.out W).mono ?_
    rintro e w2 ⟨rfl, b2⟩
    have c2 := b1.trans (b2.mono b1.size)
    go_wp2_with fail
    refine (libItoaI _ (by omega) _ (HL.out.below c2).tab).mono ?_
    rintro e w3 ⟨rfl, b3⟩
    have c3 := c2.trans (b3.mono c2.size)
    go_wp2
    go_ret
    exact ⟨rfl, c3⟩

set_option maxHeartbeats 1000000 in
theorem impl_carries (b m N : Int) (pv : Value) (w : World) (hok : Pl.okB m b = true) (hN : 0 ≤ N ∧ N ≤ 1000000000) (hL : LibOk w) :
    Calls Tryz.prog 124 #[.agg #[.int .i64 b, .int .i64 m, pv], .int .i64 N] w (AnsPost w (Pl.decI (Pl.carI m N b))) := by
  have b1 : Below w.heap.size w (w.alloc (.cells #[.int .i64 b, .int .i64 m, pv] 30)) := (Below.refl _ _).alloc (Nat.le_refl _) _
  have HL := Lib.hid hL
  clear hL
  go_enter Tryz.func124, Tryz.ntmps124
  go_wp2_with fail
  generalize w.alloc (.cells #[.int .i64 b, .int .i64 m, pv] 30) = W at *
  refine (implCarriesOf m N b W).mono ?_
  rintro e w2 ⟨rfl, b2⟩
  have c2 := b1.trans (b2.mono b1.size)
  go_wp2_with fail
  refine (libItoaI _ (by have := Pl.car_bnd hok hN; omega) _ (HL.out.below c2).tab).mono ?_
  rintro e w3 ⟨rfl, b3⟩
  have c3 := c2.trans (b3.mono c2.size)
  go_wp2
  go_ret
  exact ⟨rfl, c3⟩

set_option maxHeartbeats 1000000 in
theorem impl_one (b m N : Int) (pv : Value) (w : World) (hL : LibOk w) :
    Calls Tryz.prog 125 #[.agg #[.int .i64 b, .int .i64 m, pv], .int .i64 N] w (AnsPost w (Pl.rowT (Pl.roundP 1 N b))) := by
  have b1 : Below w.heap.size w (w.alloc (.cells #[.int .i64 b, .int .i64 m, pv] 30)) := (Below.refl _ _).alloc (Nat.le_refl _) _
  have HL := Lib.hid hL
  obtain ⟨hf, hlen⟩ := Pl.over_few N b
  obtain ⟨R, hR⟩ : ∃ R, Pl.rowT (Pl.roundP 1 N b) = R := ⟨_, rfl⟩
  rw [hR]
  have HRR := Lib.hid hR
  clear hL hR
  go_enter Tryz.func125, Tryz.ntmps125
  go_wp2_with fail
  generalize w.alloc (.cells #[.int .i64 b, .int .i64 m, pv] 30) = W at *
  refine (implRoundOf8 1 N b W).mono ?_
  rintro e w2 ⟨v2, rfl, r2, b2⟩
  have c2 := b1.trans (b2.mono b1.size)
  have HI := Lib.hid r2.ints
  obtain ⟨a2, p2, rfl⟩ := r2.shape
  clear r2 b2
  by_cases h0 : Pl.roundP 1 N b = []
  · have hl : ((Pl.roundP 1 N b).length : Int) = 0 := by rw [h0]; rfl
    have HE : Hid (R = Pl.noneW) := Lib.hid (by rw [← HRR.out, Pl.rowT, if_pos h0])
    clear h0
    generalize (Pl.roundP 1 N b).length = L at *
    go_wp2
    go_ret
    exact ⟨by rw [HE.out]; rfl, c2⟩
  · have hl : ¬ ((Pl.roundP 1 N b).length : Int) = 0 := by
      have := List.length_pos_iff.2 h0
      omega
    have HE : Hid (R = Pl.commaL (Pl.roundP 1 N b)) := Lib.hid (by rw [← HRR.out, Pl.rowT, if_neg h0])
    have HCm := Lib.hid (implCommas _ _ w2 HI.out hf (by omega) (HL.out.below c2).tab)
    clear h0
    generalize (Pl.roundP 1 N b).length = L at *
    go_wp2_with fail
    refine HCm.out.mono ?_
    rintro e w3 ⟨rfl, b3⟩
    have c3 := c2.trans (b3.mono c2.size)
    go_wp2
    go_ret
    exact ⟨by rw [HE.out]; rfl, c3⟩

end Go.Proofs.YtgkkoegfmhgcjaaGreatDoor
