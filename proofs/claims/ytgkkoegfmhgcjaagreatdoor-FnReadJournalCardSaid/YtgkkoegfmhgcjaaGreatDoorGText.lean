/-
  spec.l1Number, spec.l1Read, spec.l1Cut: numbers in decimal, and the words of a line.
-/
import Derived.Laws.BytesArg
import Derived.Deep.RegionWith
import Derived.Test.YtgkkoegfmhgcjaaGreatDoorGNum
import Derived.Test.YtgkkoegfmhgcjaaGreatDoorGPlain
import Derived.Lib.Strings
import Derived.Deep.MidRow
import Derived.Laws.Rows
import Derived.Laws.Tables
import Derived.KernelRfl
import Derived.Deep.SlicePairs
import Derived.SliceStrings
import Derived.ChangeSlices
namespace Go.Proofs.YtgkkoegfmhgcjaaGreatDoor
open Go.RowKit Go.Shelf

theorem ret_str {a b : ByteArray} (h : a = b) : Ending.returned (.string a) = .returned (.string b) := by rw [h]

/-- A slice of one byte, as a text. -/
theorem oneByte (W : World) (g cap : Nat) (n : Int) (h : W.cell? ⟨g, 0, none⟩ = some (.int .u8 n)) :
    (convert 22 9 (.slice (some ⟨g, 0, none⟩) 1 cap)).run Tryz.prog W = .ok (.string (Pl.str [UInt8.ofNat n.toNat])) W :=
  run_convert_bytes_arg W 22 5 Tryz.underlying22 Tryz.underlying5 g 0 1 cap [n] rfl (fun i hi => by
    obtain rfl : i = 0 := by omega
    simpa using h) 9 Tryz.underlying9

set_option maxRecDepth 100000 in
set_option maxHeartbeats 1000000 in
theorem specNumberOne (u : Nat) (h : u < 10) (w : World) :
    Calls Tryz.prog 63 #[.int .i64 u] w fun e w' => e = .returned (.string (Pl.str (Pl.decL u))) ∧ Below w.heap.size w w' := by
  have HD := Lib.hid (Pl.decL_lt h)
  have h0 : (0 : Int) ≤ (u : Int) := by omega
  have h1 : (u : Int) < 10 := by omega
  have hcv := oneByte (w.alloc (.cells #[.int .u8 (48 + (u : Int))] 5)) w.heap.size 1 (48 + (u : Int)) (by rw [World.cell?_alloc_new]; rfl)
  have e : (48 + (u : Int)).toNat = 48 + u := by omega
  rw [e] at hcv
  clear e
  generalize UInt8.ofNat (48 + u) = c at *
  go_enter Tryz.func63, Tryz.ntmps63
  go_wp2
  go_ret
  exact ⟨ret_str (by rw [HD.out]), (Below.refl _ _).alloc (Nat.le_refl _) _⟩

set_option maxRecDepth 100000 in
set_option maxHeartbeats 2000000 in
theorem specNumber (u : Nat) (hu : u ≤ 1000000000000) (w : World) :
    Calls Tryz.prog 63 #[.int .i64 u] w fun e w' => e = .returned (.string (Pl.str (Pl.decL u))) ∧ Below w.heap.size w w' := by
  induction u using Nat.strongRecOn generalizing w with
  | _ u ih =>
    by_cases h : u < 10
    · exact specNumberOne u h w
    · have hD : Pl.str (Pl.decL (u / 10)) ++ Pl.str [UInt8.ofNat (48 + u % 10)] = Pl.str (Pl.decL u) := by rw [Pl.str_add, ← Pl.decL_ge h]
      have hfit : ¬ 9223372036854775807 < (Pl.str (Pl.decL (u / 10))).size + (Pl.str [UInt8.ofNat (48 + u % 10)]).size := by
        have := Pl.decL_len13 (u := u / 10) (by omega)
        rw [Pl.str_size, Pl.str_size]; simp; omega
      have IH := Lib.hid (ih (u / 10) (by omega) (by omega))
      have HD := Lib.hid hD
      clear ih hD
      have h0 : (0 : Int) ≤ (u : Int) := by omega
      have h1 : ¬ (u : Int) < 10 := by omega
      have hcv : ∀ (W : World) (g : Nat), W.cell? ⟨g, 0, none⟩ = some (.int .u8 (48 + ((u % 10 : Nat) : Int))) → (convert 22 9 (.slice (some ⟨g, 0, none⟩) 1 1)).run Tryz.prog W = .ok (.string (Pl.str [UInt8.ofNat (48 + u % 10)])) W := fun W g hc => by
        have := oneByte W g 1 _ hc
        have e : (48 + ((u % 10 : Nat) : Int)).toNat = 48 + u % 10 := by omega
        rwa [e] at this
      have e1 : ((u : Int)).tdiv 10 = ((u / 10 : Nat) : Int) := rfl
      have e2 : ((u : Int)).tmod 10 = ((u % 10 : Nat) : Int) := rfl
      have hq : ((u / 10 : Nat) : Int) ≤ 1000000000000 := by omega
      have hr : u % 10 < 10 := by omega
      generalize Pl.str (Pl.decL (u / 10)) = A at *
      generalize u / 10 = q at *
      generalize u % 10 = r at *
      generalize Pl.str [UInt8.ofNat (48 + r)] = B at *
      generalize Pl.str (Pl.decL u) = C at *
      have e3 : IntKind.i64.wrap (q : Int) = (q : Int) := IntWalk.i64_in _ (by omega)
      have e4 : IntKind.i64.wrap (48 + (r : Int)) = 48 + (r : Int) := IntWalk.i64_in _ (by omega)
      have e5 : IntKind.u8.wrap (48 + (r : Int)) = 48 + (r : Int) := IntWalk.u8_in _ (by omega)
      have e6 : IntKind.i64.wrap (r : Int) = (r : Int) := IntWalk.i64_in _ (by omega)
      go_enter Tryz.func63, Tryz.ntmps63
      go_wp2_with fail
      go_region_with (first
        | (go_at_call 63; refine (IH.out _).mono ?_; rintro e w2 ⟨rfl, b2⟩; have hb2 := Lib.hid b2; have hcl := b2.cell (p := ⟨w.heap.size, 0, none⟩); simp only [World.size_drew, World.size_alloc, Nat.lt_add_one, forall_const, World.cell?_drew, World.cell?_alloc_new] at hcl; clear b2))
      all_goals
        go_wp2
        go_ret
        first
          | exact ⟨ret_str HD.out, Below.alloc (((Below.refl _ w).drew).trans hb2.out) hb2.out.size _⟩
          | exact ⟨ret_str HD.out, (((Below.refl _ w).alloc (Nat.le_refl _) (.cells #[.int .u8 (48 + (r : Int))] 5)).drew).trans (Below.mono hb2.out (by rw [World.size_drew, World.size_alloc]; omega))⟩

namespace Pl
theorem take_snoc (s : ByteArray) (k : Nat) (h : k < s.size) : s.data.toList.take (k + 1) = s.data.toList.take k ++ [s[k]] := by
  rw [List.take_succ_eq_append_getElem (by simpa using h)]; rfl
theorem data_len (s : ByteArray) : s.data.toList.length = s.size := Array.length_toList
theorem data_head (s : ByteArray) (h : 0 < s.size) : s.data.toList.head? = some s[0] := by
  have hl : 0 < s.data.toList.length := by rw [data_len]; exact h
  rw [List.head?_eq_getElem?, List.getElem?_eq_getElem hl]; rfl
theorem digB_snoc (l : List UInt8) (c : UInt8) : digB (l ++ [c]) = (digB l && (decide (48 ≤ c.toNat) && decide (c.toNat ≤ 57))) := by
  unfold digB
  rw [List.all_append, List.all_cons, List.all_nil, Bool.and_true]
theorem digB_take {l : List UInt8} {k : Nat} (h : digB (l.take k) = false) : digB l = false := by
  refine Bool.eq_false_iff.2 fun hh => ?_
  rw [digB_iff] at hh
  have := (digB_iff (l.take k)).2 fun c hc => hh c (List.mem_of_mem_take hc)
  rw [this] at h; cases h
theorem readN_no {l : List UInt8} (h : numB l = false) : readN l = -1 := by rw [readN, if_neg (fun hh => by rw [h] at hh; exact Bool.noConfusion hh.1)]
end Pl

set_option maxRecDepth 100000 in
set_option maxHeartbeats 2000000 in
theorem specRead (s : ByteArray) (hs : s.size ≤ 1000000000) (w : World) :
    Calls Tryz.prog 76 #[.string s] w fun e w' => e = .returned (.int .i64 (Pl.readN s.data.toList)) ∧ w = w' := by
  have hlen := Pl.data_len s
  by_cases hin : (decide (1 ≤ (s.size : Int)) && decide ((s.size : Int) ≤ 10)) = true
  · have hin2 : 1 ≤ s.size ∧ s.size ≤ 10 := by simp at hin; omega
    have h0 : 0 < s.size := by omega
    have hhead := Pl.data_head s h0
    have HIN : Hid (∀ W, Calls Tryz.prog 49 #[.int .i64 s.size, .int .i64 1, .int .i64 10] W fun e w' => e = .returned (.bool true) ∧ W = w') := Lib.hid fun W => by
      have := specIn s.size 1 10 W
      rwa [hin] at this
    by_cases hlead : 1 < s.size ∧ s[0] = 48
    · have HR : Hid (Pl.readN s.data.toList = -1) := Lib.hid (Pl.readN_no (by
        unfold Pl.numB
        rw [hhead, hlen, hlead.2]
        simp [hlead.1]))
      have hc : ((s[0].toNat : Int) == 48) = true := by rw [hlead.2]; rfl
      have h1 : (1 : Int) < (s.size : Int) := by omega
      clear hin hlead hhead hlen
      generalize Pl.readN s.data.toList = R at *
      go_enter Tryz.func76, Tryz.ntmps76
      go_wp2_with (go_at_call 49; refine (HIN.out _).mono ?_; rintro e w' ⟨rfl, rfl⟩)
      go_ret
      exact ⟨ret_int HR.out.symm, rfl⟩
    · have hnl : (decide (1 < s.data.toList.length) && (s.data.toList.head? == some 48)) = false := by
        rw [hhead, hlen]
        by_cases h1 : 1 < s.size
        · have : ¬ s[0] = 48 := fun e => hlead ⟨h1, e⟩
          simp [this]
        · simp [h1]
      have HN : Hid (∀ b, Pl.digB s.data.toList = b → Pl.numB s.data.toList = b) := Lib.hid fun b hb => by
        unfold Pl.numB
        rw [hnl, hb, hlen]
        simp [hin2.1, hin2.2]
      have HL := Lib.hid hlen
      have hsz := hin2.2
      have HV : Hid (Pl.numB s.data.toList = true → Pl.readN s.data.toList = if Pl.valL s.data.toList ≤ 1000000000 then ((Pl.valL s.data.toList : Nat) : Int) else -1) := Lib.hid fun hb => by
        unfold Pl.readN
        by_cases hv : Pl.valL s.data.toList ≤ 1000000000
        · rw [if_pos ⟨hb, hv⟩, if_pos hv]
        · rw [if_neg (fun hh => hv hh.2), if_neg hv]
      have HNO : Hid (Pl.numB s.data.toList = false → Pl.readN s.data.toList = -1) := Lib.hid Pl.readN_no
      obtain ⟨R, hR⟩ : ∃ R, Pl.readN s.data.toList = R := ⟨_, rfl⟩
      rw [hR] at HV HNO ⊢
      have hcase : (1 < s.size ∧ ((s[0].toNat : Int) == 48) = false) ∨ ¬ 1 < s.size := by
        by_cases h1 : 1 < s.size
        · refine .inl ⟨h1, ?_⟩
          rw [beq_eq_false_iff_ne]
          intro e
          refine hlead ⟨h1, ?_⟩
          have : s[0].toNat = (48 : UInt8).toNat := by
            have h2 : s[0].toNat = 48 := by omega
            rw [h2]; rfl
          exact UInt8.toNat_inj.1 this
        · exact .inr h1
      clear hR hhead hlen hnl hlead hin hin2
      rcases hcase with ⟨h1, hc⟩ | h1
      all_goals
        have h1' := h1
        go_enter Tryz.func76, Tryz.ntmps76
        go_wp2_with (go_at_call 49; refine (HIN.out _).mono ?_; rintro e w' ⟨rfl, rfl⟩)
        go_loop [3, 4] (fun n i => ∃ k : Nat, k ≤ s.size ∧ i = .int .i64 k ∧ n = .int .i64 (Pl.valL (s.data.toList.take k)) ∧ Pl.digB (s.data.toList.take k) = true ∧ Pl.valL (s.data.toList.take k) < 10 ^ k) (fun _ i => s.size - (intOf i).toNat)
        case atStart => exact ⟨0, Nat.zero_le _, rfl, rfl, rfl, by simp [Pl.valL]⟩
        case round =>
          obtain ⟨k, hk, rfl, rfl, hdig, hval⟩ := hrel
          have hp : 10 ^ k ≤ 10 ^ 10 := Nat.pow_le_pow_right (by omega) (by omega)
          have hv10 : Pl.valL (s.data.toList.take k) ≤ 10000000000 := by omega
          by_cases hlt : k < s.size
          · have hts := Pl.take_snoc s k hlt
            have hds := Pl.digB_snoc (s.data.toList.take k) s[k]
            have hvs := Pl.valL_snoc (s.data.toList.take k) s[k]
            rw [← hts] at hds hvs
            rw [hdig, Bool.true_and] at hds
            have hpk : 10 ^ (k + 1) = 10 ^ k * 10 := Nat.pow_succ ..
            have HNX : Hid (48 ≤ s[k].toNat ∧ s[k].toNat ≤ 57 → Pl.digB (s.data.toList.take (k + 1)) = true ∧ Pl.valL (s.data.toList.take (k + 1)) = 10 * Pl.valL (s.data.toList.take k) + (s[k].toNat - 48) ∧ Pl.valL (s.data.toList.take (k + 1)) < 10 ^ (k + 1)) := Lib.hid fun hh => by
              refine ⟨?_, hvs, ?_⟩
              · rw [hds]; simp [hh.1, hh.2]
              · rw [hvs, hpk]; omega
            have HBAD : Hid (¬ (48 ≤ s[k].toNat ∧ s[k].toNat ≤ 57) → R = -1) := Lib.hid fun hh => HNO.out (HN.out _ (Pl.digB_take (k := k + 1) (by
              rw [hds]
              cases h5 : decide (48 ≤ s[k].toNat) with
              | false => rfl
              | true =>
                cases h6 : decide (s[k].toNat ≤ 57) with
                | false => rfl
                | true => exact absurd ⟨of_decide_eq_true h5, of_decide_eq_true h6⟩ hh)))
            clear hts hds hvs hpk hdig hp hval
            generalize Pl.valL (s.data.toList.take k) = V at *
            by_cases hd1 : 48 ≤ s[k].toNat
            · have hd1' : ¬ (s[k].toNat : Int) < 48 := by omega
              by_cases hd2 : s[k].toNat ≤ 57
              · have hd2' : ¬ (57 : Int) < (s[k].toNat : Int) := by omega
                obtain ⟨n1, n2, n3⟩ := HNX.out ⟨hd1, hd2⟩
                have N1 := Lib.hid n1
                have N2 := Lib.hid n2
                have N3 := Lib.hid n3
                have e5 : IntKind.u8.wrap ((s[k].toNat : Int) - 48) = (s[k].toNat : Int) - 48 := IntWalk.u8_in _ (by omega)
                clear n1 n2 n3 HBAD
                go_wp2_with fail
                go_round
                case rel => exact ⟨k + 1, by omega, by go_num, by rw [N2.out]; go_num, N1.out, N3.out⟩
                case measure => simp [intOf]; omega
              · have hd2' : (57 : Int) < (s[k].toNat : Int) := by omega
                have HR := Lib.hid (HBAD.out fun hh => hd2 hh.2)
                go_wp2_with fail
                go_ret
                exact ⟨ret_int HR.out.symm, rfl⟩
            · have hd1' : (s[k].toNat : Int) < 48 := by omega
              have HR := Lib.hid (HBAD.out fun hh => hd1 hh.1)
              go_wp2_with fail
              go_ret
              exact ⟨ret_int HR.out.symm, rfl⟩
          · obtain rfl : k = s.size := by omega
            have hta : s.data.toList.take s.size = s.data.toList := List.take_of_length_le (by rw [HL.out]; exact Nat.le_refl _)
            rw [hta] at hdig hval hv10 ⊢
            have hRV := HV.out (HN.out _ hdig)
            have HRV := Lib.hid hRV
            clear hta hdig hval hRV hp
            generalize Pl.valL s.data.toList = V at *
            by_cases hv : V ≤ 1000000000
            · have hv' : ¬ (1000000000 : Int) < (V : Int) := by omega
              have HR : Hid (R = (V : Int)) := Lib.hid (by rw [HRV.out, if_pos hv])
              go_wp2_with fail
              go_ret
              exact ⟨ret_int HR.out.symm, rfl⟩
            · have hv' : (1000000000 : Int) < (V : Int) := by omega
              have HR : Hid (R = -1) := Lib.hid (by rw [HRV.out, if_neg hv])
              go_wp2_with fail
              go_ret
              exact ⟨ret_int HR.out.symm, rfl⟩
  · have hin' : (decide (1 ≤ (s.size : Int)) && decide ((s.size : Int) ≤ 10)) = false := by simpa using hin
    have HR : Hid (Pl.readN s.data.toList = -1) := Lib.hid (Pl.readN_no (by
      unfold Pl.numB
      rw [hlen]
      simp at hin ⊢
      omega))
    have HIN : Hid (∀ W, Calls Tryz.prog 49 #[.int .i64 s.size, .int .i64 1, .int .i64 10] W fun e w' => e = .returned (.bool false) ∧ W = w') := Lib.hid fun W => by
      have := specIn s.size 1 10 W
      rwa [hin'] at this
    clear hin hin' hlen
    generalize Pl.readN s.data.toList = R at *
    go_enter Tryz.func76, Tryz.ntmps76
    go_wp2_with (go_at_call 49; refine (HIN.out _).mono ?_; rintro e w' ⟨rfl, rfl⟩)
    go_ret
    exact ⟨ret_int HR.out.symm, rfl⟩

end Go.Proofs.YtgkkoegfmhgcjaaGreatDoor

namespace Go.Proofs.YtgkkoegfmhgcjaaGreatDoor
open Go.RowKit Go.Shelf

theorem info_str : (Tryz.prog.info? 9).map (fun i => (i.zero, i.size, i.bytes)) = some (some (.string ⟨#[]⟩), 1, 16) := by kernel_rfl

/-- A row of texts of a call's own. -/
def TRow (base : Nat) (w : World) (v : Value) (ls : List (List UInt8)) : Prop := w.ownsRow base 9 1 v ls.length (ls.map fun l => Value.string (Pl.str l))
/-- A call that hands back a new list of texts. -/
def TListPost (w : World) (ls : List (List UInt8)) (e : Ending) (w' : World) : Prop := ∃ v, e = .returned v ∧ TRow w.heap.size w' v ls ∧ Below w.heap.size w w'
theorem TRow.below {base : Nat} {w w' : World} {v : Value} {xs : List (List UInt8)} (h : TRow base w v xs) (hb : Below w.heap.size w w') : TRow base w' v xs := by
  rcases h with ⟨h1, h2 | ⟨g, cap, cur, hv, hg, hh, r⟩⟩
  · exact ⟨h1, .inl h2⟩
  · exact ⟨h1, .inr ⟨g, cap, cur, hv, hg, by rw [hb.block g (lt_of_heap hh)]; exact hh, r⟩⟩
theorem trow_snoc {base : Nat} {w : World} {v : Value} {ls : List (List UInt8)} {l : List UInt8} {t : ByteArray} (ht : t = Pl.str l) (h : w.ownsRow base 9 1 v (ls.length + 1) (ls.map (fun l => Value.string (Pl.str l)) ++ [.string t])) : TRow base w v (ls ++ [l]) := by
  subst ht
  unfold TRow; simpa using h
theorem trow_empty (w : World) : TRow w.heap.size (w.alloc (.cells #[] 9)) (.slice (some ⟨w.heap.size, 0, none⟩) 0 0) [] :=
  World.ownsRow_lit w #[] 0 (Nat.le_refl _) (by unfold maxLen; omega) (by simp)

theorem TRow.shape {base : Nat} {w : World} {v : Value} {ls : List (List UInt8)} (h : TRow base w v ls) : ∃ a cap, v = .slice a ls.length cap := by
  rcases h.2 with ⟨rfl, h0⟩ | ⟨g, cap, cur, rfl, _⟩
  · rw [h0]; exact ⟨none, 0, rfl⟩
  · exact ⟨_, cap, rfl⟩
theorem TRow.lies {base : Nat} {w : World} {v : Value} {ls : List (List UInt8)} (h : TRow base w v ls) (h1 : 1 ≤ ls.length) :
    ∃ g cap, v = .slice (some ⟨g, 0, none⟩) ls.length cap ∧ base ≤ g ∧ g < w.heap.size ∧ ls.length ≤ cap ∧ ∀ j, j < ls.length → w.cell? ⟨g, j, none⟩ = some (.string (Pl.str (ls[j]?.getD []))) := by
  have h' := h
  rcases h.2 with ⟨_, h0⟩ | ⟨g, cap, cur, rfl, hg, hh, hc, _⟩
  · omega
  · refine ⟨g, cap, rfl, hg, lt_of_heap hh, hc, fun j hj => ?_⟩
    rw [World.ownsRow.cellAt h' j (by omega), List.getElem?_map, List.getElem?_eq_getElem hj]; rfl

namespace Pl
/-- What lies between two places. -/
def pieceL (L : List UInt8) (f k : Nat) : List UInt8 := (L.drop f).take (k - f)
theorem extract_piece (s : ByteArray) (f k : Nat) : s.extract f k = str (pieceL s.data.toList f k) := Lib.extract_eq s f k
theorem piece_none (L : List UInt8) (f : Nat) : pieceL L f f = [] := by simp [pieceL]
theorem piece_rest (L : List UInt8) (f : Nat) {n : Nat} (h : L.length = n) : pieceL L f n = L.drop f := by
  unfold pieceL; exact List.take_of_length_le (by rw [List.length_drop]; omega)
theorem piece_snoc {L : List UInt8} {f k : Nat} (h1 : f ≤ k) (h2 : k < L.length) : pieceL L f (k + 1) = pieceL L f k ++ [L[k]] := by
  unfold pieceL
  have hl : k - f < (L.drop f).length := by rw [List.length_drop]; omega
  rw [show k + 1 - f = (k - f) + 1 by omega, List.take_succ_eq_append_getElem hl]
  congr 2
  rw [List.getElem_drop]
  congr 1; omega
theorem piece_drop {L : List UInt8} {f k : Nat} (h1 : f ≤ k) (h2 : k < L.length) : L.drop f = pieceL L f k ++ L[k] :: L.drop (k + 1) := by
  unfold pieceL
  conv => lhs; rw [← List.take_append_drop (k - f) (L.drop f)]
  rw [List.drop_drop, show f + (k - f) = k by omega, List.drop_eq_getElem_cons h2]
end Pl

/-- Cut up to a place: what was cut off, from where on the next piece lies. -/
def CutAt (L : List UInt8) (D : List (List UInt8)) (f k : Nat) : Prop := (32 : UInt8) ∉ Pl.pieceL L f k ∧ Pl.cutL 32 L = D ++ Pl.cutL 32 (L.drop f) ∧ D.length ≤ f
theorem cutAt_start (L : List UInt8) : CutAt L [] 0 0 := ⟨by rw [Pl.piece_none]; simp, by simp, by simp⟩
theorem cutAt_word {L : List UInt8} {D : List (List UInt8)} {f k : Nat} (h : CutAt L D f k) (h1 : f ≤ k) (h2 : k < L.length) (hc : L[k] = 32) : CutAt L (D ++ [Pl.pieceL L f k]) (k + 1) (k + 1) := by
  obtain ⟨a, b, c⟩ := h
  refine ⟨by rw [Pl.piece_none]; simp, ?_, by simp; omega⟩
  rw [b, Pl.piece_drop h1 h2, hc, Pl.cutL_at a]; simp
theorem cutAt_sign {L : List UInt8} {D : List (List UInt8)} {f k : Nat} (h : CutAt L D f k) (h1 : f ≤ k) (h2 : k < L.length) (hc : L[k] ≠ 32) : CutAt L D f (k + 1) := by
  obtain ⟨a, b, c⟩ := h
  refine ⟨?_, b, c⟩
  rw [Pl.piece_snoc h1 h2]
  intro hm
  rcases List.mem_append.1 hm with hm | hm
  · exact a hm
  · exact hc (List.mem_singleton.1 hm).symm
theorem cutAt_end {L : List UInt8} {D : List (List UInt8)} {f : Nat} (h : CutAt L D f L.length) : Pl.cutL 32 L = D ++ [Pl.pieceL L f L.length] := by
  obtain ⟨a, b, _⟩ := h
  rw [Pl.piece_rest L f rfl] at a ⊢
  rw [b, Pl.cutL_one a]

set_option maxRecDepth 100000 in
set_option maxHeartbeats 2000000 in
theorem specCut (s : ByteArray) (hs : s.size ≤ 1000000000) (w : World) :
    Calls Tryz.prog 75 #[.string s, .int .u8 32] w (TListPost w (Pl.cutL 32 s.data.toList)) := by
  have hlen := Pl.data_len s
  obtain ⟨i0, hi0, hz0, hz1, hz2⟩ := info_parts info_str
  have b0 : Below w.heap.size w (w.alloc (.cells #[] 9)) := (Below.refl _ _).alloc (Nat.le_refl _) _
  have r0 := Lib.hid (trow_empty w)
  have HL := Lib.hid hlen
  have HS0 := Lib.hid (cutAt_start s.data.toList)
  clear hlen
  go_enter Tryz.func75, Tryz.ntmps75
  go_wp2_with fail
  go_loopw [5, 6, 7] (fun v fv kv wr => ∃ (D : List (List UInt8)) (f k : Nat) (vv : Value), vv = v ∧ fv = .int .i64 f ∧ kv = .int .i64 k ∧ f ≤ k ∧ k ≤ s.size ∧ TRow w.heap.size wr vv D ∧ Below w.heap.size w wr ∧ CutAt s.data.toList D f k) (fun _ _ kv _ => s.size - (intOf kv).toNat)
  case atStart => exact ⟨[], 0, 0, _, rfl, rfl, rfl, Nat.le_refl _, Nat.zero_le _, r0.out, b0, HS0.out⟩
  case round =>
    clear b0 r0 HS0
    obtain ⟨D, f, k, vv, rfl, rfl, rfl, hfk, hk, hr, hbw, hcut⟩ := hrel
    have hD := hcut.2.2
    have HC := Lib.hid hcut
    have hsz := hbw.size
    clear hcut
    by_cases hlt : k < s.size
    · have hkL : k < s.data.toList.length := by rw [HL.out]; exact hlt
      have hget : s.data.toList[k] = s[k] := rfl
      by_cases hc : s[k] = 32
      · have hc' : ((s[k].toNat : Int) == 32) = true := by rw [hc]; rfl
        have HN := Lib.hid (cutAt_word HC.out hfk hkL (hget.trans hc))
        have HP := Lib.hid (Pl.extract_piece s f k)
        have hr2 : wr.ownsRow w.heap.size 9 1 vv D.length (D.map fun l => Value.string (Pl.str l)) := hr
        have i1 : (f : Int) ≤ (k : Int) := by omega
        have i2 : (k : Int) ≤ (s.size : Int) := by omega
        clear hr hc hget HC
        go_wp2_with (at_builtin; refine wpList_append_own _ rfl _ _ 47 rfl w.heap.size 9 i0 (.string ⟨#[]⟩) 1 16 Tryz.underlying47 hi0 hz0 hz1 hz2 rfl (by decide) _ _ _ rfl (hr2.alloc _) ⟨wr.heap.size, 0, none⟩ 1 1 [.string (s.extract f k)] rfl rfl (cell_one_new _ _ _) (by simp [Value.oneCell']) (by unfold maxLen; omega) (by omega) (by simp; omega) ?_; intro v6 w6 hown6 hgrow6 _)
        have hb6 : Below w.heap.size w w6 := below_append (hbw.alloc (by omega) _) (hr2.alloc _) hgrow6
        have H6 := Lib.hid (trow_snoc HP.out hown6)
        clear hown6 hgrow6 hr2
        go_wp2_with fail
        go_roundw
        case rel => exact ⟨_, k + 1, k + 1, _, rfl, by go_num, by go_num, Nat.le_refl _, by omega, H6.out, hb6, HN.out⟩
        case measure => simp [intOf]; omega
      · have hc' : ((s[k].toNat : Int) == 32) = false := by
          rw [beq_eq_false_iff_ne]
          intro e
          exact hc (UInt8.toNat_inj.1 (by have : s[k].toNat = 32 := by omega
                                          rw [this]; rfl))
        have HN := Lib.hid (cutAt_sign HC.out hfk hkL (fun e => hc (hget.symm.trans e)))
        have HR := Lib.hid hr
        clear hc hget HC hr
        go_wp2_with fail
        go_roundw
        case rel => exact ⟨D, f, k + 1, _, rfl, rfl, by go_num, by omega, by omega, HR.out, hbw, HN.out⟩
        case measure => simp [intOf]; omega
    · obtain rfl : k = s.size := by omega
      have hE := HC.out
      rw [← HL.out] at hE
      have HE := Lib.hid (cutAt_end hE)
      have HP := Lib.hid (Pl.extract_piece s f s.data.toList.length)
      rw [HL.out] at HE HP
      have hr2 : wr.ownsRow w.heap.size 9 1 vv D.length (D.map fun l => Value.string (Pl.str l)) := hr
      have i1 : (f : Int) ≤ (s.size : Int) := by omega
      clear hr HC hE
      go_wp2_with (at_builtin; refine wpList_append_own _ rfl _ _ 47 rfl w.heap.size 9 i0 (.string ⟨#[]⟩) 1 16 Tryz.underlying47 hi0 hz0 hz1 hz2 rfl (by decide) _ _ _ rfl (hr2.alloc _) ⟨wr.heap.size, 0, none⟩ 1 1 [.string (s.extract f s.size)] rfl rfl (cell_one_new _ _ _) (by simp [Value.oneCell']) (by unfold maxLen; omega) (by omega) (by simp; omega) ?_; intro v6 w6 hown6 hgrow6 _)
      have hb6 : Below w.heap.size w w6 := below_append (hbw.alloc (by omega) _) (hr2.alloc _) hgrow6
      have H6 := Lib.hid (trow_snoc HP.out hown6)
      clear hown6 hgrow6 hr2
      go_wp2_with fail
      go_ret
      exact ⟨_, rfl, by rw [HE.out]; exact H6.out, hb6⟩

end Go.Proofs.YtgkkoegfmhgcjaaGreatDoor

namespace Go.Proofs.YtgkkoegfmhgcjaaGreatDoor
open Go.RowKit Go.Shelf

set_option maxRecDepth 100000 in
set_option maxHeartbeats 2000000 in
theorem specDeedText (k n : Int) (w : World) :
    Calls Tryz.prog 86 #[.agg #[.int .i64 k, .int .i64 n]] w fun e w' => e = .returned (.string (Pl.str (Pl.deedL k n))) ∧ Below w.heap.size w w' := by
  have b0 : Below w.heap.size w (w.alloc (.cells #[.int .i64 k, .int .i64 n] 38)) := (Below.refl _ _).alloc (Nat.le_refl _) _
  by_cases h1 : k = 0
  · subst h1
    by_cases hn : (decide (0 ≤ n) && decide (n ≤ 1000000000)) = true
    · have hn2 : 0 ≤ n ∧ n ≤ 1000000000 := by simpa using hn
      obtain ⟨m, rfl⟩ := Int.eq_ofNat_of_zero_le hn2.1
      have hm : m ≤ 1000000000 := by omega
      have hD : (⟨#[116, 111, 32]⟩ : ByteArray) ++ Pl.str (Pl.decL m) = Pl.str (Pl.deedL 0 m) := by
        rw [Pl.deedL_to hm, ← Pl.str_add]; rfl
      have hfit : ¬ 9223372036854775807 < (⟨#[116, 111, 32]⟩ : ByteArray).size + (Pl.str (Pl.decL m)).size := by
        have := Pl.decL_len13 (u := m) (by omega)
        rw [Pl.str_size]
        have e : (⟨#[116, 111, 32]⟩ : ByteArray).size = 3 := rfl
        omega
      have e3 : (⟨#[116, 111, 32]⟩ : ByteArray).size = 3 := rfl
      rw [e3] at hfit
      have HD := Lib.hid hD
      have HN := Lib.hid (specNumber m (by omega))
      clear hD hn2 e3
      generalize Pl.str (Pl.decL m) = A at *
      generalize Pl.str (Pl.deedL 0 m) = C at *
      go_enter Tryz.func86, Tryz.ntmps86
      go_wp2_with (first | (go_at_call 49; refine (specIn _ _ _ _).mono ?_; rintro e w' ⟨rfl, rfl⟩; rw [hn]) | (go_at_call 63; refine (HN.out _).mono ?_; rintro e w2 ⟨rfl, hb2⟩))
      go_ret
      exact ⟨ret_str HD.out, b0.trans (hb2.mono b0.size)⟩
    · have hn' : (decide (0 ≤ n) && decide (n ≤ 1000000000)) = false := by simpa using hn
      have HD : Hid (Pl.str (Pl.deedL 0 n) = ⟨#[]⟩) := Lib.hid (by rw [Pl.deedL_no (fun h => hn (by simp [h.2.1, h.2.2])) (by omega)]; rfl)
      clear hn
      go_enter Tryz.func86, Tryz.ntmps86
      go_wp2_with (first | (go_at_call 49; with_reducible (refine (specIn n _ _ _).mono ?_); rintro e w' ⟨rfl, rfl⟩; rw [hn']) | (go_at_call 49; refine (specIn_no 0 1 7 _ (by omega)).mono ?_; rintro e w' ⟨rfl, rfl⟩))
      go_ret
      exact ⟨ret_str HD.out.symm, b0⟩
  · have hk0 : (k == 0) = false := by rw [beq_eq_false_iff_ne]; exact h1
    by_cases h2 : 1 ≤ k ∧ k ≤ 7
    · have HI := Lib.hid (fun W => specIn_yes k 1 7 W h2)
      by_cases h3 : n = 0
      · subst h3
        obtain ⟨m, rfl⟩ := Int.eq_ofNat_of_zero_le (show 0 ≤ k by omega)
        have h7 : m = 1 ∨ m = 2 ∨ m = 3 ∨ m = 4 ∨ m = 5 ∨ m = 6 ∨ m = 7 := by omega
        have HD : Hid (Pl.str (Pl.deedL (m : Int) 0) = Pl.str (Pl.wordL m)) := Lib.hid (by rw [Pl.deedL_word (by omega) (by omega)])
        clear h1 h2 hk0
        rcases h7 with rfl | rfl | rfl | rfl | rfl | rfl | rfl
        all_goals
          go_enter Tryz.func86, Tryz.ntmps86
          go_wp2_with (go_at_call 49; refine (HI.out _).mono ?_; rintro e w' ⟨rfl, rfl⟩)
          go_ret
          exact ⟨ret_str (by rw [HD.out]; rfl), b0.alloc (by simp) _⟩
      · have hn0 : (n == 0) = false := by rw [beq_eq_false_iff_ne]; exact h3
        have HD : Hid (Pl.str (Pl.deedL k n) = ⟨#[]⟩) := Lib.hid (by rw [Pl.deedL_no (fun h => h1 h.1) (fun h => h3 h.2.2)]; rfl)
        clear h1 h2 h3
        go_enter Tryz.func86, Tryz.ntmps86
        go_wp2_with (go_at_call 49; refine (HI.out _).mono ?_; rintro e w' ⟨rfl, rfl⟩)
        go_ret
        exact ⟨ret_str HD.out.symm, b0⟩
    · have HI := Lib.hid (fun W => specIn_no k 1 7 W h2)
      have HD : Hid (Pl.str (Pl.deedL k n) = ⟨#[]⟩) := Lib.hid (by rw [Pl.deedL_no (fun h => h1 h.1) (fun h => h2 ⟨h.1, h.2.1⟩)]; rfl)
      clear h1 h2
      go_enter Tryz.func86, Tryz.ntmps86
      go_wp2_with (go_at_call 49; refine (HI.out _).mono ?_; rintro e w' ⟨rfl, rfl⟩)
      go_ret
      exact ⟨ret_str HD.out.symm, b0⟩

end Go.Proofs.YtgkkoegfmhgcjaaGreatDoor

namespace Go.Proofs.YtgkkoegfmhgcjaaGreatDoor
open Go.RowKit Go.Shelf

/-- A struct in a block of its own. -/
def SBox (W : World) (B : Nat) (T : TypeId) (cs : Array Value) : Prop := W.heap[B]? = some (.cells cs T (0, 0))
theorem SBox.new (W : World) (T : TypeId) (cs : Array Value) : SBox (W.alloc (.cells cs T)) W.heap.size T cs := heap_alloc_new _ _
theorem SBox.lt {W : World} {B : Nat} {T : TypeId} {cs : Array Value} (h : SBox W B T cs) : B < W.heap.size := lt_of_heap h
theorem SBox.below {W W' : World} {B n : Nat} {T : TypeId} {cs : Array Value} (h : SBox W B T cs) (hb : Below n W W') (hB : B < n) : SBox W' B T cs := (hb.block B hB).trans h
theorem SBox.kept {W W' : World} {B : Nat} {T : TypeId} {cs : Array Value} (h : SBox W B T cs) (hb : Below W.heap.size W W') : SBox W' B T cs := h.below hb h.lt
theorem SBox.alloc {W : World} {B : Nat} {T : TypeId} {cs : Array Value} (h : SBox W B T cs) (o : Obj) : SBox (W.alloc o) B T cs := (Below.heap_alloc W o B h.lt).trans h
theorem SBox.cell {W : World} {B : Nat} {T : TypeId} {cs : Array Value} (h : SBox W B T cs) (i : Nat) : W.cell? ⟨B, i, none⟩ = cs[i]? := cell_of_row W B i _ _ _ h
theorem SBox.frozen {W : World} {B : Nat} {T : TypeId} {cs : Array Value} (h : SBox W B T cs) (i : Nat) : W.frozen? ⟨B, i, none⟩ = false := by
  unfold SBox at h
  simp [World.frozen?, h]
theorem SBox.set {W : World} {B : Nat} {T : TypeId} {cs : Array Value} (h : SBox W B T cs) (i : Nat) (v : Value) : SBox (W.setCell ⟨B, i, none⟩ v) B T (cs.setIfInBounds i v) := by
  unfold SBox at *
  rw [setCell_eq_setRow W B i _ _ _ _ h, setRow_heap W B _ _ _ _ h]
theorem SBox.far {W : World} {B : Nat} {T : TypeId} {cs : Array Value} (h : SBox W B T cs) {p : Addr} (hp : B ≠ p.block) (v : Value) : SBox (W.setCell p v) B T cs := (Below.heap_setCell _ _ _ _ hp).trans h
theorem SBox.grown {W W' : World} {B : Nat} {T : TypeId} {cs : Array Value} {row : Option Nat} (h : SBox W B T cs) (hg : W.grownBy W' row) (hne : row ≠ some B) : SBox W' B T cs := (hg.block B h.lt (fun e => hne e.symm)).trans h
theorem below_srow {n B : Nat} (W : World) (hn : n ≤ B) (c : Array Value) : Below n W (W.setRow B c) :=
  ⟨rfl, rfl, rfl, by rw [show (W.setRow B c).heap.size = W.heap.size by simp [World.setRow]]; exact Nat.le_refl _, fun k hk => setRow_other _ _ _ _ (by omega)⟩

/-- The whole struct is stored. -/
theorem sbox_store {W : World} {ops : Array Oper} {rest : List Oper} {o : Oper} {a : Act} {Q : Exit → Act → World → Prop} (hg : o.guard = none) (x y : Operand) (T : TypeId) (hop : o.op = .store T x y) {B : Nat} (cs cs' : Array Value)
    (hx : a.eval x = .pointer (some ⟨B, 0, none⟩)) (hy : a.eval y = .agg cs') (hA : SBox W B T cs) (hi : (Tryz.prog.info? T).map (·.size) = some cs'.size) (hs : cs'.size = cs.size) (h1 : cs'.all (·.oneCell') = true)
    (hK : ∀ W', SBox W' B T cs' → (∀ n, n ≤ B → Below n W W') → W'.heap.size = W.heap.size → (∀ i, i ≠ B → W'.heap[i]? = W.heap[i]?) → wpList Tryz.prog ops Q rest (a.put o.dst undef) W') :
    wpList Tryz.prog ops Q (o :: rest) a W := by
  refine wpList_store_row hg T x y hop B _ hx hy T _ hA hi hs.symm h1 ?_
  exact hK _ (setRow_heap _ _ _ _ _ _ hA) (fun n hn => below_srow W hn _) (by simp [World.setRow]) (fun i hi => setRow_other _ _ _ _ hi)
/-- The whole struct is loaded. -/
theorem sbox_load {W : World} {ops : Array Oper} {rest : List Oper} {o : Oper} {a : Act} {Q : Exit → Act → World → Prop} (hg : o.guard = none) (x : Operand) (T : TypeId) (hop : o.op = .load T x) {B : Nat} (cs : Array Value) (d : TypeDesc)
    (hx : a.eval x = .pointer (some ⟨B, 0, none⟩)) (hA : SBox W B T cs) (hd : d.isRow = true) (hu : Tryz.prog.underlying T = some d) (hi : (Tryz.prog.info? T).map (·.size) = some cs.size)
    (hK : wpList Tryz.prog ops Q rest (a.put o.dst (.agg cs)) W) :
    wpList Tryz.prog ops Q (o :: rest) a W :=
  wpList_load_row hg T x hop B hx T _ (0, 0) _ hA hu (by cases d <;> first | rfl | exact absurd hd (by simp)) hi hK

/-- Two results: a struct in its box, and a slot. -/
theorem results_cell_tmp {fn : Func} {p q : Tmp} {T : TypeId} (h : fn.results = #[.cell p T, .tmp q]) (tmps : Array Value) (w : World) (g : Nat) (cs : Array Value) (d : TypeDesc) (v : Value)
    (hp : tmps.getD p undef = .pointer (some ⟨g, 0, none⟩)) (hq : tmps.getD q undef = v) (hg : SBox w g T cs)
    (hd : d.isRow = true) (hu : Tryz.prog.underlying T = some d) (hi : (Tryz.prog.info? T).map (·.size) = some cs.size) :
    (results fn tmps).run Tryz.prog w = .ok (.tuple #[.agg cs, v]) w := by
  have hp' : tmps[p]?.getD undef = .pointer (some ⟨g, 0, none⟩) := by simpa using hp
  have hq' : tmps[q]?.getD undef = v := by simpa using hq
  simp [results, h, hp', hq', asAddr, run_loadVar_row w g T T cs (0, 0) d hg hu (by cases d <;> first | rfl | exact absurd hd (by simp)) hi]
/-- Two results: two structs in their boxes. -/
theorem results_cell_cell {fn : Func} {p q : Tmp} {T U : TypeId} (h : fn.results = #[.cell p T, .cell q U]) (tmps : Array Value) (w : World) (g g' : Nat) (cs cs' : Array Value) (d d' : TypeDesc)
    (hp : tmps.getD p undef = .pointer (some ⟨g, 0, none⟩)) (hq : tmps.getD q undef = .pointer (some ⟨g', 0, none⟩)) (hg : SBox w g T cs) (hg' : SBox w g' U cs')
    (hd : d.isRow = true) (hu : Tryz.prog.underlying T = some d) (hi : (Tryz.prog.info? T).map (·.size) = some cs.size)
    (hd' : d'.isRow = true) (hu' : Tryz.prog.underlying U = some d') (hi' : (Tryz.prog.info? U).map (·.size) = some cs'.size) :
    (results fn tmps).run Tryz.prog w = .ok (.tuple #[.agg cs, .agg cs']) w := by
  have hp' : tmps[p]?.getD undef = .pointer (some ⟨g, 0, none⟩) := by simpa using hp
  have hq' : tmps[q]?.getD undef = .pointer (some ⟨g', 0, none⟩) := by simpa using hq
  simp [results, h, hp', hq', asAddr, run_loadVar_row w g T T cs (0, 0) d hg hu (by cases d <;> first | rfl | exact absurd hd (by simp)) hi, run_loadVar_row w g' U U cs' (0, 0) d' hg' hu' (by cases d' <;> first | rfl | exact absurd hd' (by simp)) hi']

/-- append(nil row.., list...) of integers that lie anywhere. -/
theorem run_append_nil (w : World) (base : Nat) (t ty e : TypeId) (i : TypeInfo) (size : Nat) (ht : Tryz.prog.underlying t = some (.slice e)) (hi : Tryz.prog.info? e = some i)
    (v : Value) (n : Nat) (xs : List Value) (hown : w.ownsRow base e size v n xs) (c : Nat) : (Builtin.append_ #[t, t] ty #[v, .slice none 0 c]).run Tryz.prog w = .ok v w := by
  rcases hown.2 with ⟨rfl, rfl⟩ | ⟨g, cap, cur, rfl, _, _, hnc, _⟩
  · simp [Builtin.append_, run_underlying ht, sizeOf, typeInfo, hi, Builtin.lenOf, Builtin.firstCells]
  · simp [Builtin.append_, run_underlying ht, sizeOf, typeInfo, hi, Builtin.lenOf, Builtin.firstCells, hnc, storeCells]
theorem wp_append_ints {o : Oper} {a : Act} {W : World} {K : Act → World → Prop} {Q : Exit → Act → World → Prop} (s x : Operand)
    (ho : o.op = .call { callee := .builtin .append, args := #[s, x], argTypes := #[28, 28] }) (base : Nat) (v u : Value) (xs ys : List Int) (hs : a.eval s = v) (hv : Row base W v xs)
    (hx : a.eval x = u) (hu : Ints W u ys) (hl : xs.length + ys.length ≤ 1000000000) (hbase : base ≤ W.heap.size)
    (h : ∀ v' W', Row base W' v' (xs ++ ys) → Below base W W' → K (a.put o.dst v') W') : Oper.wp Tryz.prog o a W K Q := by
  obtain ⟨i0, hi0, hz0, hz1, hz2⟩ := info_parts info_int
  obtain ⟨ad, cap, rfl, hc⟩ := hu
  cases ad with
  | none =>
    have h0 : ys = [] := by
      rcases Nat.eq_zero_or_pos ys.length with h0 | h0
      · exact List.eq_nil_of_length_eq_zero h0
      · obtain ⟨b, off, e, _⟩ := hc 0 h0; cases e
    subst h0
    have hrun := run_append_nil W base 28 o.type 3 i0 1 Tryz.underlying28 hi0 v xs.length (xs.map (Value.int .i64)) hv cap
    have h' := h v W (by rw [List.append_nil]; exact hv) (Below.refl _ _)
    unfold Oper.wp
    simp only [List.length_nil] at hx
    simp [execOp, ho, resolve, invoke, builtin, hs, hx, hrun, Result.andThen]
    exact h'
  | some ad =>
    refine wp_append_own W s x 28 ho base 3 i0 (.int .i64 0) 1 8 Tryz.underlying28 hi0 hz0 hz1 hz2 rfl (by decide) v xs.length (xs.map (Value.int .i64)) hs hv ad ys.length cap (ys.map (Value.int .i64)) hx (by simp) ?_ (by simp [Value.oneCell']) (by unfold maxLen; omega) (by omega) hbase ?_
    · intro j q hq
      have hj : j < ys.length := by
        have := (List.getElem?_eq_some_iff.1 hq).1
        simpa using this
      obtain ⟨b, off, e, hcell⟩ := hc j hj
      obtain rfl := Option.some.inj e
      rw [Addr.add_lit, hcell]
      rw [List.getElem?_map, List.getElem?_eq_getElem hj] at hq
      rw [List.getElem?_eq_getElem hj]
      simpa using hq
    · intro v' w' hown hgrow _
      refine h v' w' ?_ (below_append (Below.refl _ _) hv hgrow hbase)
      unfold Row
      rw [List.length_append, List.map_append]
      exact hown
/-- The same as a step of a region that draws. -/
theorem step_append_ints {ops : Array Oper} {o : Oper} {a : Act} {W : World} {K : Act → World → Prop} {Q : Exit → Act → World → Prop} {E : Prop} (hgd : o.guard = none) (s x : Operand)
    (ho : o.op = .call { callee := .builtin .append, args := #[s, x], argTypes := #[28, 28] }) (base : Nat) (v u : Value) (xs ys : List Int) (hs : a.eval s = v) (hv : Row base W v xs)
    (hx : a.eval x = u) (hu : Ints W u ys) (hl : xs.length + ys.length ≤ 1000000000) (hbase : base ≤ W.heap.size)
    (h : ∀ v' W', Row base W' v' (xs ++ ys) → Below base W W' → K (a.put o.dst v') W') :
    if Region.wanted o (yielded ops a.tmps) = true then Oper.wp Tryz.prog o a W K Q else E := by
  have hw : Region.wanted o (yielded ops a.tmps) = true := by simp [Region.wanted, hgd]
  rw [if_pos hw]
  exact wp_append_ints s x ho base v u xs ys hs hv hx hu hl hbase h

/-- A row lies as it lay where another block is written. -/
theorem Row.others {base : Nat} {w w' : World} {v : Value} {xs : List Int} (h : Row base w v xs) {B : Nat} (hB : B < base) (ho : ∀ i, i ≠ B → w'.heap[i]? = w.heap[i]?) : Row base w' v xs := by
  rcases h with ⟨h1, h2 | ⟨g, cap, cur, hv, hg, hh, r⟩⟩
  · exact ⟨h1, .inl h2⟩
  · exact ⟨h1, .inr ⟨g, cap, cur, hv, hg, by rw [ho g (by omega)]; exact hh, r⟩⟩
theorem info_deed : (Tryz.prog.info? 38).map (fun i => (i.zero, i.size, i.bytes)) = some (some (.agg #[.int .i64 0, .int .i64 0]), 2, 16) := by kernel_rfl
theorem size_deed : (Tryz.prog.info? 38).map (·.size) = some 2 := by kernel_rfl
theorem size_desk : (Tryz.prog.info? 30).map (·.size) = some 3 := by kernel_rfl

theorem deed_store {W : World} {ops : Array Oper} {rest : List Oper} {o : Oper} {a : Act} {Q : Exit → Act → World → Prop} (hg : o.guard = none) (x y : Operand) (hop : o.op = .store 38 x y) {B : Nat} {k n k' n' : Int}
    (hx : a.eval x = .pointer (some ⟨B, 0, none⟩)) (hy : a.eval y = .agg #[.int .i64 k', .int .i64 n']) (hA : SBox W B 38 #[.int .i64 k, .int .i64 n])
    (hK : ∀ W', SBox W' B 38 #[.int .i64 k', .int .i64 n'] → (∀ n, n ≤ B → Below n W W') → W'.heap.size = W.heap.size → (∀ i, i ≠ B → W'.heap[i]? = W.heap[i]?) → wpList Tryz.prog ops Q rest (a.put o.dst undef) W') :
    wpList Tryz.prog ops Q (o :: rest) a W :=
  sbox_store hg x y 38 hop _ _ hx hy hA (by rw [size_deed]; rfl) rfl (by simp [Value.oneCell']) hK
theorem deed_load {W : World} {ops : Array Oper} {rest : List Oper} {o : Oper} {a : Act} {Q : Exit → Act → World → Prop} (hg : o.guard = none) (x : Operand) (hop : o.op = .load 38 x) {B : Nat} {k n : Int}
    (hx : a.eval x = .pointer (some ⟨B, 0, none⟩)) (hA : SBox W B 38 #[.int .i64 k, .int .i64 n])
    (hK : wpList Tryz.prog ops Q rest (a.put o.dst (.agg #[.int .i64 k, .int .i64 n])) W) :
    wpList Tryz.prog ops Q (o :: rest) a W :=
  sbox_load hg x 38 hop _ _ hx hA rfl Tryz.underlying38 (by rw [size_deed]; rfl) hK
theorem desk_store {W : World} {ops : Array Oper} {rest : List Oper} {o : Oper} {a : Act} {Q : Exit → Act → World → Prop} (hg : o.guard = none) (x y : Operand) (hop : o.op = .store 30 x y) {B : Nat} {b n b' n' : Int} {p p' : Value}
    (hx : a.eval x = .pointer (some ⟨B, 0, none⟩)) (hy : a.eval y = .agg #[.int .i64 b', .int .i64 n', p']) (hp : p'.oneCell' = true) (hA : SBox W B 30 #[.int .i64 b, .int .i64 n, p])
    (hK : ∀ W', SBox W' B 30 #[.int .i64 b', .int .i64 n', p'] → (∀ n, n ≤ B → Below n W W') → W'.heap.size = W.heap.size → (∀ i, i ≠ B → W'.heap[i]? = W.heap[i]?) → wpList Tryz.prog ops Q rest (a.put o.dst undef) W') :
    wpList Tryz.prog ops Q (o :: rest) a W :=
  sbox_store hg x y 30 hop _ _ hx hy hA (by rw [size_desk]; rfl) rfl (by simp [Value.oneCell']; simpa [Value.oneCell'] using hp) hK
theorem desk_load {W : World} {ops : Array Oper} {rest : List Oper} {o : Oper} {a : Act} {Q : Exit → Act → World → Prop} (hg : o.guard = none) (x : Operand) (hop : o.op = .load 30 x) {B : Nat} {b n : Int} {p : Value}
    (hx : a.eval x = .pointer (some ⟨B, 0, none⟩)) (hA : SBox W B 30 #[.int .i64 b, .int .i64 n, p])
    (hK : wpList Tryz.prog ops Q rest (a.put o.dst (.agg #[.int .i64 b, .int .i64 n, p])) W) :
    wpList Tryz.prog ops Q (o :: rest) a W :=
  sbox_load hg x 30 hop _ _ hx hA rfl Tryz.underlying30 (by rw [size_desk]; rfl) hK

namespace Pl
/-- The cells of a row of deeds. -/
def deedCells (ds : List (Int × Int)) : List Value := ds.flatMap fun d => [Value.int .i64 d.1, Value.int .i64 d.2]
theorem deedCells_len (ds : List (Int × Int)) : (deedCells ds).length = ds.length * 2 := by
  induction ds with
  | nil => rfl
  | cons d t ih => rw [deedCells, List.flatMap_cons, List.length_append, ← deedCells, ih]; simp; omega
theorem deedCells_snoc (ds : List (Int × Int)) (d : Int × Int) : deedCells (ds ++ [d]) = deedCells ds ++ [Value.int .i64 d.1, Value.int .i64 d.2] := by simp [deedCells]
theorem deedCells_at (ds : List (Int × Int)) : ∀ j, j < ds.length → (deedCells ds)[j * 2]? = some (.int .i64 (ds[j]?.getD (0, 0)).1) ∧ (deedCells ds)[j * 2 + 1]? = some (.int .i64 (ds[j]?.getD (0, 0)).2) := by
  induction ds with
  | nil => intro j hj; simp at hj
  | cons d t ih =>
    intro j hj
    have e : deedCells (d :: t) = Value.int .i64 d.1 :: Value.int .i64 d.2 :: deedCells t := rfl
    rw [e]
    cases j with
    | zero => simp
    | succ j =>
      have := ih j (by simpa using hj)
      rw [show (j + 1) * 2 = j * 2 + 1 + 1 by omega, List.getElem?_cons_succ, List.getElem?_cons_succ, List.getElem?_cons_succ, List.getElem?_cons_succ, List.getElem?_cons_succ]
      exact this
end Pl

/-- The slice value v holds the deeds ds. -/
def Deeds (w : World) (v : Value) (ds : List (Int × Int)) : Prop :=
  ∃ a cap, v = .slice a ds.length cap ∧ ∀ j, j < ds.length → ∃ b off, a = some ⟨b, off, none⟩ ∧ w.cell? ⟨b, off + j * 2, none⟩ = some (.int .i64 (ds[j]?.getD (0, 0)).1) ∧ w.cell? ⟨b, off + (j * 2 + 1), none⟩ = some (.int .i64 (ds[j]?.getD (0, 0)).2)
/-- The slice value v owns the deeds ds, in a block from 'base' on. -/
def DRow (base : Nat) (w : World) (v : Value) (ds : List (Int × Int)) : Prop := w.ownsRow base 38 2 v ds.length (Pl.deedCells ds)
/-- A call that hands back a new list of deeds. -/
theorem Deeds.below {w w' : World} {v : Value} {ds : List (Int × Int)} (h : Deeds w v ds) (hb : Below w.heap.size w w') : Deeds w' v ds := by
  obtain ⟨a, cap, hv, hc⟩ := h
  refine ⟨a, cap, hv, fun j hj => ?_⟩
  obtain ⟨b, off, ha, hx, hy⟩ := hc j hj
  exact ⟨b, off, ha, (hb.cell (p := ⟨b, off + j * 2, none⟩) (World.block_lt_of_cell? _ _ hx)).trans hx, (hb.cell (p := ⟨b, off + (j * 2 + 1), none⟩) (show b < w.heap.size from World.block_lt_of_cell? _ _ hx)).trans hy⟩
theorem DRow.shape {base : Nat} {w : World} {v : Value} {ds : List (Int × Int)} (h : DRow base w v ds) : ∃ a cap, v = .slice a ds.length cap := by
  rcases h.2 with ⟨rfl, h0⟩ | ⟨g, cap, cur, rfl, _⟩
  · rw [h0]; exact ⟨none, 0, rfl⟩
  · exact ⟨_, cap, rfl⟩
theorem DRow.deeds {base : Nat} {w : World} {v : Value} {ds : List (Int × Int)} (h : DRow base w v ds) : Deeds w v ds := by
  have h' := h
  rcases h.2 with ⟨rfl, h0⟩ | ⟨g, cap, cur, rfl, _⟩
  · rw [List.length_eq_zero_iff] at h0; subst h0; exact ⟨none, 0, rfl, fun j hj => by simp at hj⟩
  · refine ⟨_, cap, rfl, fun j hj => ⟨g, 0, rfl, ?_, ?_⟩⟩
    · rw [Nat.zero_add, World.ownsRow.cellAt h' (j * 2) (by omega)]; exact (Pl.deedCells_at ds j hj).1
    · rw [Nat.zero_add, World.ownsRow.cellAt h' (j * 2 + 1) (by omega)]; exact (Pl.deedCells_at ds j hj).2
theorem DRow.lies {base : Nat} {w : World} {v : Value} {ds : List (Int × Int)} (h : DRow base w v ds) (h1 : 1 ≤ ds.length) :
    ∃ g cap, v = .slice (some ⟨g, 0, none⟩) ds.length cap ∧ base ≤ g ∧ g < w.heap.size ∧ ds.length ≤ cap ∧ ∀ j, j < ds.length → w.cell? ⟨g, j * 2, none⟩ = some (.int .i64 (ds[j]?.getD (0, 0)).1) ∧ w.cell? ⟨g, j * 2 + 1, none⟩ = some (.int .i64 (ds[j]?.getD (0, 0)).2) := by
  have h' := h
  rcases h.2 with ⟨_, h0⟩ | ⟨g, cap, cur, rfl, hg, hh, hc, _⟩
  · omega
  · refine ⟨g, cap, rfl, hg, lt_of_heap hh, hc, fun j hj => ⟨?_, ?_⟩⟩
    · rw [World.ownsRow.cellAt h' (j * 2) (by omega)]; exact (Pl.deedCells_at ds j hj).1
    · rw [World.ownsRow.cellAt h' (j * 2 + 1) (by omega)]; exact (Pl.deedCells_at ds j hj).2
theorem DRow.below {base : Nat} {w w' : World} {v : Value} {ds : List (Int × Int)} (h : DRow base w v ds) (hb : Below w.heap.size w w') : DRow base w' v ds := by
  rcases h with ⟨h1, h2 | ⟨g, cap, cur, hv, hg, hh, r⟩⟩
  · exact ⟨h1, .inl h2⟩
  · exact ⟨h1, .inr ⟨g, cap, cur, hv, hg, by rw [hb.block g (lt_of_heap hh)]; exact hh, r⟩⟩
theorem drow_empty (w : World) : DRow w.heap.size (w.alloc (.cells #[] 38)) (.slice (some ⟨w.heap.size, 0, none⟩) 0 0) [] :=
  World.ownsRow_lit w #[] 0 (Nat.le_refl _) (by unfold maxLen; omega) (by simp)
theorem drow_snoc {base : Nat} {w : World} {v : Value} {ds : List (Int × Int)} {k n : Int} (h : w.ownsRow base 38 2 v (ds.length + 1) (Pl.deedCells ds ++ [.int .i64 k, .int .i64 n])) : DRow base w v (ds ++ [(k, n)]) := by
  unfold DRow
  rw [Pl.deedCells_snoc, List.length_append]
  exact h
/-- The cells of one deed in a block of its own. -/
theorem cell_deed_new (w : World) (k n : Int) (t : TypeId) : ∀ j u, [Value.int .i64 k, Value.int .i64 n][j]? = some u → (w.alloc (.cells #[.int .i64 k, .int .i64 n] t)).cell? ((⟨w.heap.size, 0, none⟩ : Addr).add j) = some u :=
  World.news_of_block (cs := #[.int .i64 k, .int .i64 n]) (t := t) (fr := (0, 0)) (heap_alloc_new w _)

end Go.Proofs.YtgkkoegfmhgcjaaGreatDoor

namespace Go.Proofs.YtgkkoegfmhgcjaaGreatDoor
open Go.RowKit Go.Shelf

namespace Pl
def rdK : Option (Int × Int) → Int | some d => d.1 | none => 0
def rdN : Option (Int × Int) → Int | some d => d.2 | none => 0
def rdB : Option (Int × Int) → Bool | some _ => true | none => false
theorem cutL_mem (sep : UInt8) (s : List UInt8) : ∀ l ∈ cutL sep s, l.length ≤ s.length := by
  induction s with
  | nil => intro l hl; simp [cutL] at hl; simp [hl]
  | cons c t ih =>
    intro l hl
    rw [cutL] at hl
    split at hl
    · rcases List.mem_cons.1 hl with rfl | h
      · simp
      · have := ih l h; simp; omega
    · split at hl
      · simp at hl; simp [hl]
      · rename_i h r e
        rcases List.mem_cons.1 hl with rfl | h'
        · have := ih h (by rw [e]; simp); simp; omega
        · have := ih l (by rw [e]; simp [h']); simp; omega
/-- The deeds without a number, up to a kind. -/
def kinds (j : Nat) : List (Int × Int) := (List.range j).map fun i : Nat => ((i : Int) + 1, (0 : Int))
theorem kinds_len (j : Nat) : (kinds j).length = j := by simp [kinds]
theorem kinds_snoc (j : Nat) : kinds (j + 1) = kinds j ++ [((j : Int) + 1, 0)] := by simp [kinds, List.range_succ]
theorem kinds_all : kinds 7 = [(1, 0), (2, 0), (3, 0), (4, 0), (5, 0), (6, 0), (7, 0)] := by decide
theorem candL_two {s a b : List UInt8} (h : cutL 32 s = [a, b]) : candL s = kinds 7 ++ [(0, readN b)] := by rw [candL, h, kinds_all]
theorem candL_not {s : List UInt8} (h : (cutL 32 s).length ≠ 2) : candL s = kinds 7 := by
  rw [candL, kinds_all]
  split
  · rename_i x y e; rw [e] at h; simp at h
  · simp
theorem candL_len (s : List UInt8) : (candL s).length ≤ 8 := by
  by_cases h : (cutL 32 s).length = 2
  · obtain ⟨a, b, e⟩ : ∃ a b, cutL 32 s = [a, b] := by
      match hc : cutL 32 s, h with
      | [a, b], _ => exact ⟨a, b, rfl⟩
    rw [candL_two e]; simp [kinds_len]
  · rw [candL_not h, kinds_len]; omega
theorem readL_at {s : List UInt8} {i : Nat} (h0 : s ≠ []) (hi : i < (candL s).length) (h : deedL ((candL s)[i]?.getD (0, 0)).1 ((candL s)[i]?.getD (0, 0)).2 = s)
    (hn : ∀ j, j < i → deedL ((candL s)[j]?.getD (0, 0)).1 ((candL s)[j]?.getD (0, 0)).2 ≠ s) : readL s = some ((candL s)[i]?.getD (0, 0)) := by
  rw [readL, if_neg h0, List.find?_eq_some_iff_getElem]
  rw [List.getElem?_eq_getElem hi, Option.getD_some] at h ⊢
  refine ⟨by simpa using h, i, hi, rfl, fun j hj => ?_⟩
  have := hn j hj
  rw [List.getElem?_eq_getElem (by omega), Option.getD_some] at this
  simpa using this
theorem readL_never {s : List UInt8} (hn : ∀ j, j < (candL s).length → deedL ((candL s)[j]?.getD (0, 0)).1 ((candL s)[j]?.getD (0, 0)).2 ≠ s) : readL s = none := by
  unfold readL
  split
  · rfl
  · rw [List.find?_eq_none]
    intro d hd
    obtain ⟨j, hj, e⟩ := List.mem_iff_getElem.1 hd
    have := hn j hj
    rw [List.getElem?_eq_getElem hj, Option.getD_some, e] at this
    simpa using this
end Pl

set_option maxRecDepth 100000 in
set_option maxHeartbeats 2000000 in
theorem specReadDeed (s : ByteArray) (hs : s.size ≤ 1000000000) (w : World) :
    Calls Tryz.prog 45 #[.string s] w fun e w' => e = .returned (.tuple #[.agg #[.int .i64 (Pl.rdK (Pl.readL s.data.toList)), .int .i64 (Pl.rdN (Pl.readL s.data.toList))], .bool (Pl.rdB (Pl.readL s.data.toList))]) ∧ Below w.heap.size w w' := by
  have hlen := Pl.data_len s
  obtain ⟨R, hR⟩ : ∃ R, Pl.readL s.data.toList = R := ⟨_, rfl⟩
  rw [hR]
  have HRR := Lib.hid hR
  clear hR
  obtain ⟨i0, hi0, hz0, hz1, hz2⟩ := info_parts info_deed
  have HC := Lib.hid (fun W => specCut s hs W)
  have HB0 := Lib.hid (SBox.new w 38 #[.int .i64 0, .int .i64 0])
  have bl0 : Below w.heap.size w (w.alloc (.cells #[.int .i64 0, .int .i64 0] 38)) := (Below.refl _ _).alloc (Nat.le_refl _) _
  go_enter Tryz.func45, Tryz.ntmps45
  go_wp2_with fail
  refine (HC.out _).mono ?_
  rintro e w1 ⟨v1, rfl, t1, b1⟩
  have HB1 := Lib.hid (HB0.out.kept b1)
  have bl1 := bl0.trans (b1.mono bl0.size)
  have T1 := Lib.hid t1
  have r0 := Lib.hid (drow_empty w1)
  have b2 : Below w1.heap.size w1 (w1.alloc (.cells #[] 38)) := (Below.refl _ _).alloc (Nat.le_refl _) _
  clear b1 t1 HC HB0 bl0
  go_wp2_with fail
  go_loopw [5, 6] (fun v kv wr => ∃ (j : Nat) (vv : Value), vv = v ∧ kv = .int .i64 ((j : Int) + 1) ∧ j ≤ 7 ∧ DRow w1.heap.size wr vv (Pl.kinds j) ∧ Below w1.heap.size w1 wr) (fun _ kv _ => 8 - (intOf kv).toNat)
  case atStart => exact ⟨0, _, rfl, rfl, by omega, r0.out, b2⟩
  case round =>
    clear r0 b2
    obtain ⟨j, vv, rfl, rfl, hj, hr, hbw⟩ := hrel
    have hjl := Pl.kinds_len j
    have hsz := hbw.size
    by_cases hlt : j < 7
    · have hi : (j : Int) + 1 ≤ 7 := by omega
      have HS := Lib.hid (Pl.kinds_snoc j)
      have hr2 : wr.ownsRow w1.heap.size 38 2 vv j (Pl.deedCells (Pl.kinds j)) := by
        have h := hr
        unfold DRow at h
        rwa [hjl] at h
      clear hr
      go_wp2_with (at_builtin; refine wpList_append_own _ rfl _ _ 24 rfl w1.heap.size 38 i0 (.agg #[.int .i64 0, .int .i64 0]) 2 16 Tryz.underlying24 hi0 hz0 hz1 hz2 rfl (by decide) _ _ _ rfl (hr2.alloc _) ⟨wr.heap.size, 0, none⟩ 1 1 [.int .i64 ((j : Int) + 1), .int .i64 0] rfl rfl (cell_deed_new _ _ _ _) (by simp [Value.oneCell']) (by unfold maxLen; omega) (by omega) (by simp; omega) ?_; intro v6 w6 hown6 hgrow6 _)
      have hb6 : Below w1.heap.size w1 w6 := below_append (hbw.alloc (by omega) _) (hr2.alloc _) hgrow6
      have H6 : Hid (DRow w1.heap.size w6 v6 (Pl.kinds (j + 1))) := Lib.hid (by
        rw [HS.out]
        refine drow_snoc ?_
        rw [hjl]; exact hown6)
      clear hown6 hgrow6 hr2
      exact ⟨⟨j + 1, _, rfl, by go_num, by omega, H6.out, hb6⟩, by simp [intOf]; omega⟩
    · obtain rfl : j = 7 := by omega
      have hi : ¬ ((7 : Nat) : Int) + 1 ≤ 7 := by omega
      have hle7 : (Pl.kinds 7).length ≤ 7 := Nat.le_of_eq hjl
      have hC7 := Lib.hid hr
      obtain ⟨ga, ca, rfl, hga0, hga, hgca, hcella⟩ := hr.lies (by rw [hjl]; omega)
      have hr2 : wr.ownsRow w1.heap.size 38 2 (.slice (some ⟨ga, 0, none⟩) (Pl.kinds 7).length ca) (Pl.kinds 7).length (Pl.deedCells (Pl.kinds 7)) := hr
      have HCELL := Lib.hid hcella
      have hL8 := Pl.candL_len s.data.toList
      have HAT : Hid (∀ i, s.data.toList ≠ [] → i < (Pl.candL s.data.toList).length → Pl.deedL ((Pl.candL s.data.toList)[i]?.getD (0, 0)).1 ((Pl.candL s.data.toList)[i]?.getD (0, 0)).2 = s.data.toList →
        (∀ j, j < i → Pl.deedL ((Pl.candL s.data.toList)[j]?.getD (0, 0)).1 ((Pl.candL s.data.toList)[j]?.getD (0, 0)).2 ≠ s.data.toList) → Pl.readL s.data.toList = some ((Pl.candL s.data.toList)[i]?.getD (0, 0))) := Lib.hid fun i h0 h1 h2 h3 => Pl.readL_at h0 h1 h2 h3
      have HNV : Hid ((s.data.toList = [] ∨ ∀ j, j < (Pl.candL s.data.toList).length → Pl.deedL ((Pl.candL s.data.toList)[j]?.getD (0, 0)).1 ((Pl.candL s.data.toList)[j]?.getD (0, 0)).2 ≠ s.data.toList) → Pl.readL s.data.toList = none) := Lib.hid fun h => by
        rcases h with h | h
        · rw [Pl.readL, if_pos h]
        · exact Pl.readL_never h
      clear hr hcella hjl
      by_cases h2 : (Pl.cutL 32 s.data.toList).length = 2
      · obtain ⟨A, B, hAB⟩ : ∃ A B, Pl.cutL 32 s.data.toList = [A, B] := by
          match hc : Pl.cutL 32 s.data.toList, h2 with
          | [A, B], _ => exact ⟨A, B, rfl⟩
        have HT := T1.out
        rw [hAB] at HT
        have hBl : (Pl.str B).size ≤ 1000000000 := by
          have := Pl.cutL_mem 32 s.data.toList B (by rw [hAB]; simp)
          rw [Pl.str_size]; omega
        obtain ⟨g1, c1, rfl, _, hg1, hgc1, hcell1⟩ := HT.lies (by simp)
        have hw1 : w1.cell? ⟨g1, 1, none⟩ = some (.string (Pl.str B)) := hcell1 1 (by simp)
        have hwr1 := (hbw.cell (p := ⟨g1, 1, none⟩) hg1).trans hw1
        have HRD := Lib.hid (fun W => specRead (Pl.str B) hBl W)
        rw [Pl.str_data] at HRD
        have HCA := Lib.hid (Pl.candL_two hAB)
        clear HT hcell1 hw1 hC7 hBl hAB h2 T1 HCELL hga0 hlen
        simp only [List.length_cons, List.length_nil, Nat.zero_add, Nat.reduceAdd] at hgc1 ⊢
        generalize Pl.str B = SB at *
        generalize Pl.readN B = RN at *
        go_wp2_with (first | (go_at_call 76; refine (HRD.out _).mono ?_; rintro e w' ⟨rfl, rfl⟩) | (at_builtin; refine wpList_append_own _ rfl _ _ 24 rfl w1.heap.size 38 i0 (.agg #[.int .i64 0, .int .i64 0]) 2 16 Tryz.underlying24 hi0 hz0 hz1 hz2 rfl (by decide) _ _ _ rfl (hr2.alloc _) ⟨wr.heap.size, 0, none⟩ 1 1 [.int .i64 0, .int .i64 RN] rfl rfl (cell_deed_new _ _ _ _) (by simp [Value.oneCell']) (by unfold maxLen; omega) (by omega) (by simp; omega) ?_; intro v6 w6 hown6 hgrow6 _))
        have hb6 : Below w1.heap.size w1 w6 := below_append (hbw.alloc (by omega) _) (hr2.alloc _) hgrow6
        have H6 : DRow w1.heap.size w6 v6 (Pl.candL s.data.toList) := by
          rw [HCA.out]
          exact drow_snoc hown6
        obtain ⟨g2, c2, rfl, _, hg2, hgc2, hcell2⟩ := H6.lies (by rw [HCA.out]; simp)
        have HC2 := Lib.hid hcell2
        clear hown6 hgrow6 hr2 HCA HRD hwr1 H6 hcell2 hbw hsz hga hgca hgc1 hg1
        have bl6 := bl1.trans (hb6.mono bl1.size)
        have HB6 : Hid (SBox w6 w.heap.size 38 #[.int .i64 0, .int .i64 0]) := Lib.hid (HB1.out.kept (hb6.mono (Nat.le_refl _)))
        clear hb6 bl1 HB1
        generalize Pl.candL s.data.toList = C at *
        go_loopw [7] (fun iv wr => ∃ i : Nat, i ≤ C.length ∧ iv = .int .i64 i ∧ (s.data.toList = [] ∨ ∀ j, j < i → Pl.deedL (C[j]?.getD (0, 0)).1 (C[j]?.getD (0, 0)).2 ≠ s.data.toList) ∧ Below w6.heap.size w6 wr) (fun iv _ => C.length - (intOf iv).toNat)
        case atStart => exact ⟨0, Nat.zero_le _, rfl, .inr fun j hj => by omega, Below.refl _ _⟩
        case round =>
          obtain ⟨i, hi6, rfl, hno, hbr⟩ := hrel
          have HNO := Lib.hid hno
          clear hno
          have hszr := hbr.size
          by_cases hlt : i < C.length
          · have hil : (i : Int) < (C.length : Int) := by omega
            obtain ⟨ck, cn⟩ := HC2.out i hlt
            have dk := (hbr.cell (p := ⟨g2, i * 2, none⟩) hg2).trans ck
            have dn := (hbr.cell (p := ⟨g2, i * 2 + 1, none⟩) hg2).trans cn
            clear ck cn
            by_cases h0 : s.data.toList = []
            · have hs0 : s = ⟨#[]⟩ := by rw [← Pl.str_self s, h0]; rfl
              have HN1 : Hid (s.data.toList = [] ∨ ∀ j, j < i + 1 → Pl.deedL (C[j]?.getD (0, 0)).1 (C[j]?.getD (0, 0)).2 ≠ s.data.toList) := Lib.hid (.inl h0)
              have htl : s.toList = [] := by rw [Lib.toList_data]; exact h0
              have htl2 : s.toList.isEmpty = true := by rw [htl]; rfl
              clear h0 hs0 HNO dk dn
              go_wp2_with fail
              go_roundw
              case rel => exact ⟨i + 1, by omega, by go_num, HN1.out, hbr⟩
              case measure => simp [intOf]; omega
            · have htl : ¬ s.toList = [] := by rw [Lib.toList_data]; exact h0
              have htl2 : s.toList.isEmpty = false := by
                rw [Bool.eq_false_iff]; intro h; exact htl (List.isEmpty_iff.1 h)
              have HNO' : Hid (∀ j, j < i → Pl.deedL (C[j]?.getD (0, 0)).1 (C[j]?.getD (0, 0)).2 ≠ s.data.toList) := Lib.hid (HNO.out.resolve_left h0)
              have HDT := Lib.hid (fun W => specDeedText (C[i]?.getD (0, 0)).1 (C[i]?.getD (0, 0)).2 W)
              by_cases he : Pl.deedL (C[i]?.getD (0, 0)).1 (C[i]?.getD (0, 0)).2 = s.data.toList
              · have HR := Lib.hid (HAT.out i h0 hlt he HNO'.out)
                have heq : ((Pl.str (Pl.deedL (C[i]?.getD (0, 0)).1 (C[i]?.getD (0, 0)).2)).toList == s.toList) = true := by
                  rw [he, Lib.toList_data, Lib.toList_data]; simp [Pl.str_data]
                rw [show C[i]?.getD (0, 0) = ((C[i]?.getD (0, 0)).1, (C[i]?.getD (0, 0)).2) from rfl] at HR
                clear he HNO HNO' h0
                generalize Pl.str (Pl.deedL (C[i]?.getD (0, 0)).1 (C[i]?.getD (0, 0)).2) = TX at *
                generalize (C[i]?.getD (0, 0)).1 = ka at *
                generalize (C[i]?.getD (0, 0)).2 = kb at *
                go_wp2_with fail
                refine (HDT.out _).mono ?_
                rintro e w7 ⟨rfl, b7⟩
                have ek := (b7.cell (p := ⟨g2, i * 2, none⟩) (Nat.lt_of_lt_of_le hg2 hszr)).trans dk
                have en := (b7.cell (p := ⟨g2, i * 2 + 1, none⟩) (Nat.lt_of_lt_of_le hg2 hszr)).trans dn
                have c7 := hbr.trans (b7.mono hszr)
                have HB7 := Lib.hid (HB6.out.kept c7)
                have bl7 := bl6.trans (c7.mono bl6.size)
                clear b7 dk dn
                go_wp2_with (refine deed_store rfl _ _ rfl rfl rfl HB7.out ?_; intro w8 hB8 hbl8 hsz8 _)
                refine bodyPost_ret (results_cell_tmp rfl _ _ w.heap.size #[.int .i64 ka, .int .i64 kb] _ (.bool true) rfl rfl hB8 rfl Tryz.underlying38 size_deed) rfl ?_
                exact ⟨by rw [← HRR.out, HR.out]; rfl, bl7.trans (hbl8 _ (Nat.le_refl _))⟩
              · have heq : ((Pl.str (Pl.deedL (C[i]?.getD (0, 0)).1 (C[i]?.getD (0, 0)).2)).toList == s.toList) = false := by
                  rw [Lib.toList_data, Lib.toList_data, beq_eq_false_iff_ne]; exact he
                have HN1 : Hid (s.data.toList = [] ∨ ∀ j, j < i + 1 → Pl.deedL (C[j]?.getD (0, 0)).1 (C[j]?.getD (0, 0)).2 ≠ s.data.toList) := Lib.hid (.inr fun j hj => by
                  by_cases h : j = i
                  · rw [h]; exact he
                  · exact HNO'.out j (by omega))
                clear he HNO HNO' h0
                generalize Pl.str (Pl.deedL (C[i]?.getD (0, 0)).1 (C[i]?.getD (0, 0)).2) = TX at *
                generalize (C[i]?.getD (0, 0)).1 = ka at *
                generalize (C[i]?.getD (0, 0)).2 = kb at *
                go_wp2_with fail
                refine (HDT.out _).mono ?_
                rintro e w7 ⟨rfl, b7⟩
                have c7 := hbr.trans (b7.mono hszr)
                clear b7 dk dn
                go_wp2_with fail
                go_roundw
                case rel => exact ⟨i + 1, by omega, by go_num, HN1.out, c7⟩
                case measure => simp [intOf]; omega
          · obtain rfl : i = C.length := by omega
            have hil : ¬ (C.length : Int) < (C.length : Int) := by omega
            have HR := Lib.hid (HNV.out HNO.out)
            have HB7 := Lib.hid (HB6.out.kept hbr)
            have bl7 := bl6.trans (hbr.mono bl6.size)
            clear HNO
            go_wp2_with (refine deed_store rfl _ _ rfl rfl rfl HB7.out ?_; intro w8 hB8 hbl8 hsz8 _)
            refine bodyPost_ret (results_cell_tmp rfl _ _ w.heap.size #[.int .i64 0, .int .i64 0] _ (.bool false) rfl rfl hB8 rfl Tryz.underlying38 size_deed) rfl ?_
            exact ⟨by rw [← HRR.out, HR.out]; rfl, bl7.trans (hbl8 _ (Nat.le_refl _))⟩
      · have hCA := Pl.candL_not h2
        rw [← hCA] at HCELL hgca ⊢
        obtain ⟨a1, c1, rfl⟩ := T1.out.shape
        have h2' : ((((Pl.cutL 32 s.data.toList).length : Nat) : Int) == 2) = false := by rw [beq_eq_false_iff_ne]; omega
        have HC2 := HCELL
        have hb6 := hbw
        have hg2 := hga
        have hgc2 := hgca
        generalize (Pl.cutL 32 s.data.toList).length = n1 at *
        clear hr2 hC7 T1 HCELL hbw hsz hga hgca hga0 hCA h2 hlen hle7
        generalize wr = w6 at *
        generalize ga = g2 at *
        generalize ca = c2 at *
        go_wp2_with fail
        have bl6 := bl1.trans (hb6.mono bl1.size)
        have HB6 : Hid (SBox w6 w.heap.size 38 #[.int .i64 0, .int .i64 0]) := Lib.hid (HB1.out.kept (hb6.mono (Nat.le_refl _)))
        clear hb6 bl1 HB1
        generalize Pl.candL s.data.toList = C at *
        go_loopw [7] (fun iv wr => ∃ i : Nat, i ≤ C.length ∧ iv = .int .i64 i ∧ (s.data.toList = [] ∨ ∀ j, j < i → Pl.deedL (C[j]?.getD (0, 0)).1 (C[j]?.getD (0, 0)).2 ≠ s.data.toList) ∧ Below w6.heap.size w6 wr) (fun iv _ => C.length - (intOf iv).toNat)
        case atStart => exact ⟨0, Nat.zero_le _, rfl, .inr fun j hj => by omega, Below.refl _ _⟩
        case round =>
          obtain ⟨i, hi6, rfl, hno, hbr⟩ := hrel
          have HNO := Lib.hid hno
          clear hno
          have hszr := hbr.size
          by_cases hlt : i < C.length
          · have hil : (i : Int) < (C.length : Int) := by omega
            obtain ⟨ck, cn⟩ := HC2.out i hlt
            have dk := (hbr.cell (p := ⟨g2, i * 2, none⟩) hg2).trans ck
            have dn := (hbr.cell (p := ⟨g2, i * 2 + 1, none⟩) hg2).trans cn
            clear ck cn
            by_cases h0 : s.data.toList = []
            · have hs0 : s = ⟨#[]⟩ := by rw [← Pl.str_self s, h0]; rfl
              have HN1 : Hid (s.data.toList = [] ∨ ∀ j, j < i + 1 → Pl.deedL (C[j]?.getD (0, 0)).1 (C[j]?.getD (0, 0)).2 ≠ s.data.toList) := Lib.hid (.inl h0)
              have htl : s.toList = [] := by rw [Lib.toList_data]; exact h0
              have htl2 : s.toList.isEmpty = true := by rw [htl]; rfl
              clear h0 hs0 HNO dk dn
              go_wp2_with fail
              go_roundw
              case rel => exact ⟨i + 1, by omega, by go_num, HN1.out, hbr⟩
              case measure => simp [intOf]; omega
            · have htl : ¬ s.toList = [] := by rw [Lib.toList_data]; exact h0
              have htl2 : s.toList.isEmpty = false := by
                rw [Bool.eq_false_iff]; intro h; exact htl (List.isEmpty_iff.1 h)
              have HNO' : Hid (∀ j, j < i → Pl.deedL (C[j]?.getD (0, 0)).1 (C[j]?.getD (0, 0)).2 ≠ s.data.toList) := Lib.hid (HNO.out.resolve_left h0)
              have HDT := Lib.hid (fun W => specDeedText (C[i]?.getD (0, 0)).1 (C[i]?.getD (0, 0)).2 W)
              by_cases he : Pl.deedL (C[i]?.getD (0, 0)).1 (C[i]?.getD (0, 0)).2 = s.data.toList
              · have HR := Lib.hid (HAT.out i h0 hlt he HNO'.out)
                have heq : ((Pl.str (Pl.deedL (C[i]?.getD (0, 0)).1 (C[i]?.getD (0, 0)).2)).toList == s.toList) = true := by
                  rw [he, Lib.toList_data, Lib.toList_data]; simp [Pl.str_data]
                rw [show C[i]?.getD (0, 0) = ((C[i]?.getD (0, 0)).1, (C[i]?.getD (0, 0)).2) from rfl] at HR
                clear he HNO HNO' h0
                generalize Pl.str (Pl.deedL (C[i]?.getD (0, 0)).1 (C[i]?.getD (0, 0)).2) = TX at *
                generalize (C[i]?.getD (0, 0)).1 = ka at *
                generalize (C[i]?.getD (0, 0)).2 = kb at *
                go_wp2_with fail
                refine (HDT.out _).mono ?_
                rintro e w7 ⟨rfl, b7⟩
                have ek := (b7.cell (p := ⟨g2, i * 2, none⟩) (Nat.lt_of_lt_of_le hg2 hszr)).trans dk
                have en := (b7.cell (p := ⟨g2, i * 2 + 1, none⟩) (Nat.lt_of_lt_of_le hg2 hszr)).trans dn
                have c7 := hbr.trans (b7.mono hszr)
                have HB7 := Lib.hid (HB6.out.kept c7)
                have bl7 := bl6.trans (c7.mono bl6.size)
                clear b7 dk dn
                go_wp2_with (refine deed_store rfl _ _ rfl rfl rfl HB7.out ?_; intro w8 hB8 hbl8 hsz8 _)
                refine bodyPost_ret (results_cell_tmp rfl _ _ w.heap.size #[.int .i64 ka, .int .i64 kb] _ (.bool true) rfl rfl hB8 rfl Tryz.underlying38 size_deed) rfl ?_
                exact ⟨by rw [← HRR.out, HR.out]; rfl, bl7.trans (hbl8 _ (Nat.le_refl _))⟩
              · have heq : ((Pl.str (Pl.deedL (C[i]?.getD (0, 0)).1 (C[i]?.getD (0, 0)).2)).toList == s.toList) = false := by
                  rw [Lib.toList_data, Lib.toList_data, beq_eq_false_iff_ne]; exact he
                have HN1 : Hid (s.data.toList = [] ∨ ∀ j, j < i + 1 → Pl.deedL (C[j]?.getD (0, 0)).1 (C[j]?.getD (0, 0)).2 ≠ s.data.toList) := Lib.hid (.inr fun j hj => by
                  by_cases h : j = i
                  · rw [h]; exact he
                  · exact HNO'.out j (by omega))
                clear he HNO HNO' h0
                generalize Pl.str (Pl.deedL (C[i]?.getD (0, 0)).1 (C[i]?.getD (0, 0)).2) = TX at *
                generalize (C[i]?.getD (0, 0)).1 = ka at *
                generalize (C[i]?.getD (0, 0)).2 = kb at *
                go_wp2_with fail
                refine (HDT.out _).mono ?_
                rintro e w7 ⟨rfl, b7⟩
                have c7 := hbr.trans (b7.mono hszr)
                clear b7 dk dn
                go_wp2_with fail
                go_roundw
                case rel => exact ⟨i + 1, by omega, by go_num, HN1.out, c7⟩
                case measure => simp [intOf]; omega
          · obtain rfl : i = C.length := by omega
            have hil : ¬ (C.length : Int) < (C.length : Int) := by omega
            have HR := Lib.hid (HNV.out HNO.out)
            have HB7 := Lib.hid (HB6.out.kept hbr)
            have bl7 := bl6.trans (hbr.mono bl6.size)
            clear HNO
            go_wp2_with (refine deed_store rfl _ _ rfl rfl rfl HB7.out ?_; intro w8 hB8 hbl8 hsz8 _)
            refine bodyPost_ret (results_cell_tmp rfl _ _ w.heap.size #[.int .i64 0, .int .i64 0] _ (.bool false) rfl rfl hB8 rfl Tryz.underlying38 size_deed) rfl ?_
            exact ⟨by rw [← HRR.out, HR.out]; rfl, bl7.trans (hbl8 _ (Nat.le_refl _))⟩

end Go.Proofs.YtgkkoegfmhgcjaaGreatDoor

namespace Go.Proofs.YtgkkoegfmhgcjaaGreatDoor
open Go.RowKit Go.Shelf

namespace Pl
theorem str_eq (a : List UInt8) (s : ByteArray) : ((str a).toList == s.toList) = (a == s.data.toList) := by
  rw [Lib.toList_data, Lib.toList_data]; rfl
theorem journal_take {ds : List (Int × Int)} {k : Nat} (h : k < ds.length) (ht : toldB (ds.take k) = true) (h1 : deedL (ds[k]?.getD (0, 0)).1 (ds[k]?.getD (0, 0)).2 ≠ []) :
    toldB (ds.take (k + 1)) = true ∧ textL (ds.take (k + 1)) = textL (ds.take k) ++ (deedL (ds[k]?.getD (0, 0)).1 (ds[k]?.getD (0, 0)).2 ++ [10]) := by
  rw [List.getElem?_eq_getElem h, Option.getD_some] at h1 ⊢
  rw [List.take_succ_eq_append_getElem h, textL_snoc]
  refine ⟨?_, rfl⟩
  unfold toldB at *
  rw [List.all_append, ht]
  simpa using h1
theorem journal_not {ds : List (Int × Int)} {k : Nat} (h : k < ds.length) (h1 : deedL (ds[k]?.getD (0, 0)).1 (ds[k]?.getD (0, 0)).2 = []) : journalL ds = [] := by
  rw [List.getElem?_eq_getElem h, Option.getD_some] at h1
  unfold journalL
  rw [if_neg]
  intro ht
  have := List.all_eq_true.1 ht _ (List.getElem_mem h)
  rw [h1] at this; simp at this
end Pl

set_option maxRecDepth 100000 in
set_option maxHeartbeats 2000000 in
theorem specJournalText (v : Value) (ds : List (Int × Int)) (w : World) (hv : Deeds w v ds) (hx : ds.length ≤ 10000000) :
    Calls Tryz.prog 39 #[v] w fun e w' => e = .returned (.string (Pl.str (Pl.journalL ds))) ∧ Below w.heap.size w w' := by
  obtain ⟨a, cap, rfl, hc⟩ := hv
  have HC := Lib.hid hc
  clear hc
  obtain ⟨R, hR⟩ : ∃ R, Pl.str (Pl.journalL ds) = R := ⟨_, rfl⟩
  rw [hR]
  have HRR := Lib.hid hR
  clear hR
  go_enter Tryz.func39, Tryz.ntmps39
  go_wp2_with fail
  go_loopw [3, 4] (fun ov kv wr => ∃ k : Nat, k ≤ ds.length ∧ ov = .string (Pl.str (Pl.textL (ds.take k))) ∧ kv = .int .i64 k ∧ Pl.toldB (ds.take k) = true ∧ Below w.heap.size w wr) (fun _ kv _ => ds.length - (intOf kv).toNat)
  case atStart => exact ⟨0, Nat.zero_le _, rfl, rfl, rfl, Below.refl _ _⟩
  case round =>
    obtain ⟨k, hk, rfl, rfl, ht, hbw⟩ := hrel
    have hsz := hbw.size
    by_cases hlt : k < ds.length
    · obtain ⟨b, off, rfl, ck, cn⟩ := HC.out k hlt
      have hbb : b < w.heap.size := World.block_lt_of_cell? _ _ ck
      have dk := (hbw.cell (p := ⟨b, off + k * 2, none⟩) hbb).trans ck
      have dn := (hbw.cell (p := ⟨b, off + (k * 2 + 1), none⟩) hbb).trans cn
      have dn' : wr.cell? ⟨b, off + k * 2 + 1, none⟩ = some (.int .i64 (ds[k]?.getD (0, 0)).2) := dn
      have hi : (k : Int) < (ds.length : Int) := by omega
      have HDT := Lib.hid (fun W => specDeedText (ds[k]?.getD (0, 0)).1 (ds[k]?.getD (0, 0)).2 W)
      clear ck cn
      by_cases h0 : Pl.deedL (ds[k]?.getD (0, 0)).1 (ds[k]?.getD (0, 0)).2 = []
      · have HR : Hid (R = ⟨#[]⟩) := Lib.hid (by rw [← HRR.out, Pl.journal_not hlt h0]; rfl)
        have hA : Pl.str (Pl.deedL (ds[k]?.getD (0, 0)).1 (ds[k]?.getD (0, 0)).2) = ⟨#[]⟩ := by rw [h0]; rfl
        rw [hA] at HDT
        clear h0 hA ht
        generalize (ds[k]?.getD (0, 0)).1 = ka at *
        generalize (ds[k]?.getD (0, 0)).2 = kb at *
        go_wp2_with fail
        refine (HDT.out _).mono ?_
        rintro e w7 ⟨rfl, b7⟩
        go_wp2_with fail
        go_ret
        exact ⟨ret_str HR.out.symm, hbw.trans (b7.mono hsz)⟩
      · obtain ⟨j1, j2⟩ := Pl.journal_take hlt ht h0
        have J1 := Lib.hid j1
        have hfit1 : ¬ 9223372036854775807 < (Pl.str (Pl.textL (ds.take k))).size + (Pl.str (Pl.deedL (ds[k]?.getD (0, 0)).1 (ds[k]?.getD (0, 0)).2)).size := by
          have h1 := Pl.textL_len (ds.take k)
          have h2 := Pl.deedL_len (ds[k]?.getD (0, 0)).1 (ds[k]?.getD (0, 0)).2
          rw [Pl.str_size, Pl.str_size]
          rw [List.length_take] at h1; omega
        have hfit2 : ¬ 9223372036854775807 < (Pl.str (Pl.textL (ds.take k))).size + (Pl.str (Pl.deedL (ds[k]?.getD (0, 0)).1 (ds[k]?.getD (0, 0)).2)).size + 1 := by
          have h1 := Pl.textL_len (ds.take k)
          have h2 := Pl.deedL_len (ds[k]?.getD (0, 0)).1 (ds[k]?.getD (0, 0)).2
          rw [Pl.str_size, Pl.str_size]
          rw [List.length_take] at h1; omega
        have J2 : Hid (Pl.str (Pl.textL (ds.take k)) ++ Pl.str (Pl.deedL (ds[k]?.getD (0, 0)).1 (ds[k]?.getD (0, 0)).2) ++ ⟨#[10]⟩ = Pl.str (Pl.textL (ds.take (k + 1)))) := Lib.hid (by
          rw [j2, Pl.str_add, show (⟨#[10]⟩ : ByteArray) = Pl.str [10] from rfl, Pl.str_add, List.append_assoc])
        have hne : (Pl.str (Pl.deedL (ds[k]?.getD (0, 0)).1 (ds[k]?.getD (0, 0)).2)).toList.isEmpty = false := by
          rw [Lib.toList_data, Pl.str_data, Bool.eq_false_iff]
          intro h; exact h0 (List.isEmpty_iff.1 h)
        have hne2 : ¬ (Pl.str (Pl.deedL (ds[k]?.getD (0, 0)).1 (ds[k]?.getD (0, 0)).2)).toList = [] := by
          rw [Lib.toList_data, Pl.str_data]; exact h0
        clear h0 j1 j2 ht
        generalize Pl.str (Pl.deedL (ds[k]?.getD (0, 0)).1 (ds[k]?.getD (0, 0)).2) = A at *
        generalize (ds[k]?.getD (0, 0)).1 = ka at *
        generalize (ds[k]?.getD (0, 0)).2 = kb at *
        generalize Pl.str (Pl.textL (ds.take k)) = X at *
        go_wp2_with fail
        refine (HDT.out _).mono ?_
        rintro e w7 ⟨rfl, b7⟩
        have c7 := hbw.trans (b7.mono hsz)
        have hb7 : b < wr.heap.size := Nat.lt_of_lt_of_le hbb hsz
        have ek := (b7.cell (p := ⟨b, off + k * 2, none⟩) hb7).trans dk
        have en := (b7.cell (p := ⟨b, off + k * 2 + 1, none⟩) hb7).trans dn'
        have en' := (b7.cell (p := ⟨b, off + (k * 2 + 1), none⟩) hb7).trans dn
        clear b7 dk dn dn'
        go_wp2_with fail
        refine (HDT.out _).mono ?_
        rintro e w8 ⟨rfl, b8⟩
        have c8 := c7.trans (b8.mono c7.size)
        clear ek en en' b8
        go_wp2_with fail
        go_roundw
        case rel => exact ⟨k + 1, by omega, by rw [← J2.out], by go_num, J1.out, c8⟩
        case measure => simp [intOf]; omega
    · obtain rfl : k = ds.length := by omega
      have hi : ¬ (ds.length : Int) < (ds.length : Int) := by omega
      rw [List.take_of_length_le (Nat.le_refl _)] at ht ⊢
      have HR : Hid (Pl.str (Pl.textL ds) = R) := Lib.hid (by rw [← HRR.out, Pl.journalL, if_pos ht])
      clear ht
      generalize Pl.str (Pl.textL ds) = X at *
      go_wp2_with fail
      go_ret
      exact ⟨ret_str HR.out, hbw⟩

/-- Read up to a place: the deeds so far, from where on the line lies. -/
def RJAt (L : List UInt8) (ds : List (Int × Int)) (f k : Nat) : Prop :=
  (Pl.rjA [] L = (ds ++ (Pl.rjA (Pl.pieceL L f k) (L.drop k)).1, f + (Pl.rjA (Pl.pieceL L f k) (L.drop k)).2)) ∧ ds.length ≤ f
theorem rjAt_start (L : List UInt8) : RJAt L [] 0 0 := ⟨by simp [Pl.piece_none], by simp⟩
theorem rjAt_line {L : List UInt8} {ds : List (Int × Int)} {f k : Nat} {d : Int × Int} (h : RJAt L ds f k) (h1 : f ≤ k) (h2 : k < L.length) (hc : L[k] = 10) (hd : Pl.readL (Pl.pieceL L f k) = some d) : RJAt L (ds ++ [d]) (k + 1) (k + 1) := by
  obtain ⟨a, b⟩ := h
  have hl : (Pl.pieceL L f k).length = k - f := by unfold Pl.pieceL; rw [List.length_take, List.length_drop]; omega
  refine ⟨?_, by simp; omega⟩
  rw [a, List.drop_eq_getElem_cons h2, Pl.rjA, if_pos hc, hd, Pl.piece_none]
  simp only [List.append_assoc, List.singleton_append, Prod.mk.injEq, true_and]
  omega
theorem rjAt_stop {L : List UInt8} {ds : List (Int × Int)} {f k : Nat} (h : RJAt L ds f k) (h2 : k < L.length) (hc : L[k] = 10) (hd : Pl.readL (Pl.pieceL L f k) = none) : Pl.rjA [] L = (ds, f) := by
  rw [h.1, List.drop_eq_getElem_cons h2, Pl.rjA, if_pos hc, hd]; simp
theorem rjAt_sign {L : List UInt8} {ds : List (Int × Int)} {f k : Nat} (h : RJAt L ds f k) (h1 : f ≤ k) (h2 : k < L.length) (hc : L[k] ≠ 10) : RJAt L ds f (k + 1) := by
  obtain ⟨a, b⟩ := h
  refine ⟨?_, b⟩
  rw [a, List.drop_eq_getElem_cons h2, Pl.rjA, if_neg hc, Pl.piece_snoc h1 h2]
theorem rjAt_end {L : List UInt8} {ds : List (Int × Int)} {f : Nat} (h : RJAt L ds f L.length) : Pl.rjA [] L = (ds, f) := by
  rw [h.1, List.drop_length]; simp [Pl.rjA]

/-- A call that hands back new deeds, and how many bytes they have. -/
def JPost (w : World) (r : List (Int × Int) × Nat) (e : Ending) (w' : World) : Prop := ∃ v, e = .returned (.tuple #[v, .int .i64 (r.2 : Int)]) ∧ DRow w.heap.size w' v r.1 ∧ Below w.heap.size w w'

set_option maxRecDepth 100000 in
set_option maxHeartbeats 2000000 in
theorem specReadJournal (s : ByteArray) (hs : s.size ≤ 1000000000) (w : World) :
    Calls Tryz.prog 10 #[.string s] w (JPost w (Pl.rjA [] s.data.toList)) := by
  have hlen := Pl.data_len s
  obtain ⟨i0, hi0, hz0, hz1, hz2⟩ := info_parts info_deed
  obtain ⟨R, hR⟩ : ∃ R, Pl.rjA [] s.data.toList = R := ⟨_, rfl⟩
  rw [hR]
  have HRR := Lib.hid hR
  have HL := Lib.hid hlen
  have HS0 := Lib.hid (rjAt_start s.data.toList)
  have b0 : Below w.heap.size w (w.alloc (.cells #[] 38)) := (Below.refl _ _).alloc (Nat.le_refl _) _
  have r0 := Lib.hid (drow_empty w)
  clear hR hlen
  go_enter Tryz.func10, Tryz.ntmps10
  go_wp2_with fail
  go_loopw [4, 5, 6] (fun v fv kv wr => ∃ (ds : List (Int × Int)) (f k : Nat) (vv : Value), vv = v ∧ fv = .int .i64 f ∧ kv = .int .i64 k ∧ f ≤ k ∧ k ≤ s.size ∧ DRow w.heap.size wr vv ds ∧ Below w.heap.size w wr ∧ RJAt s.data.toList ds f k) (fun _ _ kv _ => s.size - (intOf kv).toNat)
  case atStart => exact ⟨[], 0, 0, _, rfl, rfl, rfl, Nat.le_refl _, Nat.zero_le _, r0.out, b0, HS0.out⟩
  case round =>
    clear b0 r0 HS0
    obtain ⟨ds, f, k, vv, rfl, rfl, rfl, hfk, hk, hr, hbw, hat⟩ := hrel
    have hD := hat.2
    have HA := Lib.hid hat
    have hsz := hbw.size
    have HR := Lib.hid hr
    clear hat hr
    by_cases hlt : k < s.size
    · have hkL : k < s.data.toList.length := by rw [HL.out]; exact hlt
      have hget : s.data.toList[k] = s[k] := rfl
      by_cases hc : s[k] = 10
      · have hc' : ((s[k].toNat : Int) == 10) = true := by rw [hc]; rfl
        have i1 : (f : Int) ≤ (k : Int) := by omega
        have i2 : (k : Int) ≤ (s.size : Int) := by omega
        have hex := Pl.extract_piece s f k
        have hpl : (s.extract f k).size ≤ 1000000000 := by
          rw [hex, Pl.str_size]; unfold Pl.pieceL; rw [List.length_take]; omega
        have HRD := Lib.hid (fun W => specReadDeed (s.extract f k) hpl W)
        have hdat : (s.extract f k).data.toList = Pl.pieceL s.data.toList f k := by rw [hex]; rfl
        rw [hdat] at HRD
        cases hd : Pl.readL (Pl.pieceL s.data.toList f k) with
        | none =>
          have HST := Lib.hid (rjAt_stop HA.out hkL (hget.trans hc) hd)
          rw [hd] at HRD
          clear hc hget HA hd hdat hex hpl
          go_wp2_with fail
          refine (HRD.out _).mono ?_
          rintro e w7 ⟨rfl, b7⟩
          simp only [Pl.rdK, Pl.rdN, Pl.rdB]
          have H7 := Lib.hid (HR.out.below b7)
          have c7 := hbw.trans (b7.mono hsz)
          obtain ⟨av, cv, rfl⟩ := H7.out.shape
          clear b7 HR
          go_wp2_with fail
          go_ret2
          rw [← HRR.out, HST.out]
          exact ⟨_, rfl, World.ownsRow.alloc H7.out _, c7.alloc c7.size _⟩
        | some d =>
          have HN := Lib.hid (rjAt_line HA.out hfk hkL (hget.trans hc) hd)
          rw [hd] at HRD
          obtain ⟨dk, dn⟩ := d
          clear hc hget HA hd hdat hex hpl
          go_wp2_with fail
          refine (HRD.out _).mono ?_
          rintro e w7 ⟨rfl, b7⟩
          simp only [Pl.rdK, Pl.rdN, Pl.rdB]
          have H7 := HR.out.below b7
          have hr2 : w7.ownsRow w.heap.size 38 2 vv ds.length (Pl.deedCells ds) := H7
          have c7 := hbw.trans (b7.mono hsz)
          have hsz7 := c7.size
          have hnews : ∀ j u, [Value.int .i64 dk, Value.int .i64 dn][j]? = some u → ((w7.alloc (.cells #[.int .i64 dk, .int .i64 dn] 38)).alloc (.cells #[.int .i64 dk, .int .i64 dn] 38)).cell? ((⟨w7.heap.size + 1, 0, none⟩ : Addr).add j) = some u := by
            have := cell_deed_new (w7.alloc (.cells #[.int .i64 dk, .int .i64 dn] 38)) dk dn 38
            rwa [World.size_alloc] at this
          have HNW := Lib.hid hnews
          clear b7 H7 HR hnews
          go_wp2_with (at_builtin; refine wpList_append_own _ rfl _ _ 24 rfl w.heap.size 38 i0 (.agg #[.int .i64 0, .int .i64 0]) 2 16 Tryz.underlying24 hi0 hz0 hz1 hz2 rfl (by decide) _ _ _ rfl ((hr2.alloc _).alloc _) ⟨w7.heap.size + 1, 0, none⟩ 1 1 [.int .i64 dk, .int .i64 dn] rfl rfl HNW.out (by simp [Value.oneCell']) (by unfold maxLen; omega) (by omega) (by simp; omega) ?_; intro v8 w8 hown8 hgrow8 _)
          have hb8 : Below w.heap.size w w8 := below_append ((c7.alloc (by omega) _).alloc (by simp; omega) _) ((hr2.alloc _).alloc _) hgrow8
          have H8 := Lib.hid (drow_snoc hown8)
          clear hown8 hgrow8 hr2 HNW
          go_wp2_with fail
          go_roundw
          case rel => exact ⟨_, k + 1, k + 1, _, rfl, by go_num, by go_num, Nat.le_refl _, by omega, H8.out, hb8, HN.out⟩
          case measure => simp [intOf]; omega
      · have hc' : ((s[k].toNat : Int) == 10) = false := by
          rw [beq_eq_false_iff_ne]
          intro e
          exact hc (UInt8.toNat_inj.1 (by have : s[k].toNat = 10 := by omega
                                          rw [this]; rfl))
        have HN := Lib.hid (rjAt_sign HA.out hfk hkL (fun e => hc (hget.symm.trans e)))
        clear hc hget HA
        go_wp2_with fail
        go_roundw
        case rel => exact ⟨ds, f, k + 1, _, rfl, rfl, by go_num, by omega, by omega, HR.out, hbw, HN.out⟩
        case measure => simp [intOf]; omega
    · obtain rfl : k = s.size := by omega
      have hE := HA.out
      rw [← HL.out] at hE
      have HE := Lib.hid (rjAt_end hE)
      obtain ⟨av, cv, rfl⟩ := HR.out.shape
      clear HA hE
      go_wp2_with fail
      go_ret2
      rw [← HRR.out, HE.out]
      exact ⟨_, rfl, HR.out, hbw⟩

end Go.Proofs.YtgkkoegfmhgcjaaGreatDoor

namespace Go.Proofs.YtgkkoegfmhgcjaaGreatDoor
open Go.RowKit Go.Shelf

namespace Pl
theorem deedCells_set (ds : List (Int × Int)) : ∀ (j : Nat) (k m : Int), ((deedCells ds).set (j * 2) (.int .i64 k)).set (j * 2 + 1) (.int .i64 m) = deedCells (ds.set j (k, m)) := by
  induction ds with
  | nil => intro j k m; simp [deedCells]
  | cons d t ih =>
    intro j k m
    have e : ∀ (d : Int × Int) (t : List (Int × Int)), deedCells (d :: t) = Value.int .i64 d.1 :: Value.int .i64 d.2 :: deedCells t := fun _ _ => rfl
    cases j with
    | zero => rw [List.set_cons_zero, e, e]; rfl
    | succ j =>
      rw [List.set_cons_succ, e, e, ← ih j k m, show (j + 1) * 2 = j * 2 + 1 + 1 by omega]
      rfl
/-- k, k + 1; k + 2, k + 3; .. -/
def dmarks (k : Int) (n : Nat) : List (Int × Int) := (List.range n).map fun i : Nat => (k + 2 * (i : Int), k + 2 * (i : Int) + 1)
theorem dmarks_length (k : Int) (n : Nat) : (dmarks k n).length = n := by simp [dmarks]
theorem dmarks_get (k : Int) {n j : Nat} (h : j < n) : (dmarks k n)[j]?.getD (0, 0) = (k + 2 * (j : Int), k + 2 * (j : Int) + 1) := by simp [dmarks, h]
theorem dmarks_step (k : Int) (xs : List (Int × Int)) (j : Nat) (hj : j < xs.length) : (dmarks k j ++ xs.drop j).set j (k + 2 * (j : Int), k + 2 * (j : Int) + 1) = dmarks k (j + 1) ++ xs.drop (j + 1) := by
  apply List.ext_getElem
  · simp [dmarks]; omega
  · intro i h1 h2
    simp only [dmarks, List.getElem_set, List.getElem_append, List.length_map, List.length_range, List.getElem_map, List.getElem_range, List.getElem_drop]
    split
    · subst i; rw [dif_pos (by omega)]
    · split
      · rw [dif_pos (by omega)]
      · rw [dif_neg (by omega)]
        congr 1; omega
end Pl
theorem DRow.cellAt {base : Nat} {w : World} {g n cap : Nat} {ds : List (Int × Int)} (h : DRow base w (.slice (some ⟨g, 0, none⟩) n cap) ds) (hn : ds.length = n) (j : Nat) (hj : j < n) :
    w.cell? ⟨g, j * 2, none⟩ = some (.int .i64 (ds[j]?.getD (0, 0)).1) ∧ w.cell? ⟨g, j * 2 + 1, none⟩ = some (.int .i64 (ds[j]?.getD (0, 0)).2) ∧ w.frozen? ⟨g, j * 2, none⟩ = false ∧ w.frozen? ⟨g, j * 2 + 1, none⟩ = false := by
  subst hn
  refine ⟨?_, ?_, World.ownsRow.frozenAt h _, World.ownsRow.frozenAt h _⟩
  · rw [World.ownsRow.cellAt h (j * 2) (by omega)]; exact (Pl.deedCells_at ds j hj).1
  · rw [World.ownsRow.cellAt h (j * 2 + 1) (by omega)]; exact (Pl.deedCells_at ds j hj).2
theorem DRow.set {base : Nat} {w : World} {g n cap : Nat} {ds : List (Int × Int)} (h : DRow base w (.slice (some ⟨g, 0, none⟩) n cap) ds) (hn : ds.length = n) (j : Nat) (k m : Int) :
    DRow base ((w.setCell ⟨g, j * 2, none⟩ (.int .i64 k)).setCell ⟨g, j * 2 + 1, none⟩ (.int .i64 m)) (.slice (some ⟨g, 0, none⟩) n cap) (ds.set j (k, m)) := by
  subst hn
  have h1 := (World.ownsRow.stored h (j * 2) (.int .i64 k)).1
  have h2 := (World.ownsRow.stored h1 (j * 2 + 1) (.int .i64 m)).1
  rw [Pl.deedCells_set] at h2
  unfold DRow
  rw [List.length_set]
  exact h2

theorem toList_madeCells_two (a : Value) (m : Nat) : (madeCells #[a, a] m).toList = List.replicate m a := by
  apply List.ext_getElem
  · simp [madeCells]
  · intro i h1 h2
    simp only [madeCells, List.getElem_replicate, Array.getElem_toList, Array.getElem_map]
    have e : ∀ j : Nat, (#[a, a] : Array Value)[j % (#[a, a] : Array Value).size]! = a := fun j => by
      show (#[a, a] : Array Value)[j % 2]! = a
      rcases Nat.mod_two_eq_zero_or_one j with h | h <;> rw [h] <;> rfl
    exact e _
theorem Pl.deedCells_zero (n : Nat) : Pl.deedCells (List.replicate n (0, 0)) = List.replicate (n * 2) (Value.int .i64 0) := by
  induction n with
  | zero => rfl
  | succ n ih =>
    rw [List.replicate_succ, show (n + 1) * 2 = n * 2 + 1 + 1 by omega, List.replicate_succ, List.replicate_succ, ← ih]
    rfl
theorem Pl.deeds_step (xs : List (Int × Int)) (j : Nat) (hj : j < xs.length) : (xs.take j ++ List.replicate (xs.length - j) ((0 : Int), (0 : Int))).set j (xs[j]?.getD (0, 0)) = xs.take (j + 1) ++ List.replicate (xs.length - (j + 1)) (0, 0) := by
  apply List.ext_getElem
  · simp; omega
  · intro i h1 h2
    simp only [List.getElem_set, List.getElem_append, List.length_take, List.getElem_take, List.getElem_replicate]
    split
    · subst i; rw [dif_pos (by omega), List.getElem?_eq_getElem hj]; rfl
    · split
      · rw [dif_pos (by omega)]
      · rw [dif_neg (by omega)]

/-- A call that hands back a new list of deeds. -/
def DListPost (w : World) (ds : List (Int × Int)) (e : Ending) (w' : World) : Prop := ∃ v, e = .returned v ∧ DRow w.heap.size w' v ds ∧ Below w.heap.size w w'

end Go.Proofs.YtgkkoegfmhgcjaaGreatDoor

namespace Go.Proofs.YtgkkoegfmhgcjaaGreatDoor
open Go.RowKit Go.Shelf Go.ChangeShapes

/-- An address whose cells lie plainly. -/
theorem plain_addr {w : World} {x : Addr} {v : Value} (h : w.cell? (x.add 0) = some v) : ∃ b off, x = ⟨b, off, none⟩ := by
  obtain ⟨b, off, spot⟩ := x
  have hs := World.cell?_spot h
  simp only [Addr.add] at hs
  exact ⟨b, off, by rw [show spot = none by simpa using hs]⟩

/-- The slice value v holds the texts ts. -/
def Texts (w : World) (v : Value) (ts : List ByteArray) : Prop :=
  ∃ a cap, v = .slice a ts.length cap ∧ ∀ j, j < ts.length → ∃ b off, a = some ⟨b, off, none⟩ ∧ w.cell? ⟨b, off + j, none⟩ = some (.string (ts[j]?.getD ByteArray.empty))
theorem Texts.below {w w' : World} {v : Value} {ts : List ByteArray} (h : Texts w v ts) (hb : Below w.heap.size w w') : Texts w' v ts := by
  obtain ⟨a, cap, hv, hc⟩ := h
  refine ⟨a, cap, hv, fun j hj => ?_⟩
  obtain ⟨b, off, ha, hx⟩ := hc j hj
  exact ⟨b, off, ha, (hb.cell (p := ⟨b, off + j, none⟩) (World.block_lt_of_cell? _ _ hx)).trans hx⟩
/-- A slice of texts that came in. -/
theorem texts_in {H : Type} {enc : TypeId × Value → H} {W : World} {base : Nat} {spare : Nat → Bool} {held : Bool} {fuel : Nat} {v : Value} {x : DataW H × List MemPlace} (h : DataW.trod enc Tryz.prog W base spare held fuel 47 [v] = some x) :
    ∃ (a : Option Addr) (len cap : Nat) (ts : List ByteArray), v = .slice a len cap ∧ Texts W (.slice a len cap) ts ∧ ts.length = len ∧ len ≤ maxLen ∧ ∀ s ∈ ts, s.size ≤ maxLen := by
  rcases open_strings Tryz.underlying47 Tryz.underlying9 (by kernel_rfl) h with ⟨hcs, _⟩ | ⟨a, len, cap, ss, hcs, _, hl, hm, hz, _, hc, hw⟩
  · simp at hcs
    exact ⟨none, 0, 0, [], hcs, ⟨none, 0, rfl, fun j hj => by simp at hj⟩, rfl, by unfold maxLen; omega, fun s hs => by cases hs⟩
  · simp at hcs
    have hlz : len ≤ ss.length := by rw [hz]; split <;> omega
    have hlt : (ss.take len).length = len := by rw [List.length_take]; omega
    refine ⟨some a, len, cap, ss.take len, hcs, ⟨some a, cap, by rw [hlt], fun j hj => ?_⟩, hlt, by omega, fun s hs => hw s (List.mem_of_mem_take hs)⟩
    rw [hlt] at hj
    obtain ⟨b, off, rfl⟩ := plain_addr (hc 0 (by omega))
    have hcj := hc j (by omega)
    rw [Addr.add_lit] at hcj
    refine ⟨b, off, rfl, ?_⟩
    rw [hcj, List.getD_eq_getElem?_getD, List.getElem?_take, if_pos hj]

end Go.Proofs.YtgkkoegfmhgcjaaGreatDoor
