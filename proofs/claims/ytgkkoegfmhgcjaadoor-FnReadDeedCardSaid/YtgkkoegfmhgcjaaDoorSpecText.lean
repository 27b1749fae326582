/-
  spec.l1Number, spec.l1Read, spec.l1Cut: numbers in decimal, and the words of a line.
-/
import Derived.Laws.BytesArg
import Derived.Deep.RegionWith
import Derived.Test.YtgkkoegfmhgcjaaDoorDigitsOf
import Derived.Test.YtgkkoegfmhgcjaaDoorMathText
namespace Go.Proofs.YtgkkoegfmhgcjaaDoor
open Go.RowKit Go.Shelf

theorem ret_str {a b : ByteArray} (h : a = b) : Ending.returned (.string a) = .returned (.string b) := by rw [h]

/-- A slice of one byte, as a text. -/
theorem oneByte (W : World) (g cap : Nat) (n : Int) (h : W.cell? ⟨g, 0, none⟩ = some (.int .u8 n)) :
    (convert 22 9 (.slice (some ⟨g, 0, none⟩) 1 cap)).run Tryd.prog W = .ok (.string (Pl.str [UInt8.ofNat n.toNat])) W :=
  run_convert_bytes_arg W 22 5 Tryd.underlying22 Tryd.underlying5 g 0 1 cap [n] rfl (fun i hi => by
    obtain rfl : i = 0 := by omega
    simpa using h) 9 Tryd.underlying9

set_option maxRecDepth 100000 in
set_option maxHeartbeats 1000000 in
theorem specNumberOne (u : Nat) (h : u < 10) (w : World) :
    Calls Tryd.prog 23 #[.int .i64 u] w fun e w' => e = .returned (.string (Pl.str (Pl.decL u))) ∧ Below w.heap.size w w' := by
  have HD := Lib.hid (Pl.decL_lt h)
  have h0 : (0 : Int) ≤ (u : Int) := by omega
  have h1 : (u : Int) < 10 := by omega
  have hcv := oneByte (w.alloc (.cells #[.int .u8 (48 + (u : Int))] 5)) w.heap.size 1 (48 + (u : Int)) (by rw [World.cell?_alloc_new]; rfl)
  have e : (48 + (u : Int)).toNat = 48 + u := by omega
  rw [e] at hcv
  clear e
  generalize UInt8.ofNat (48 + u) = c at *
  go_enter Tryd.func23, Tryd.ntmps23
  go_wp2
  go_ret
  exact ⟨ret_str (by rw [HD.out]), (Below.refl _ _).alloc (Nat.le_refl _) _⟩

set_option maxRecDepth 100000 in
set_option maxHeartbeats 2000000 in
theorem specNumber (u : Nat) (hu : u ≤ 1000000000000) (w : World) :
    Calls Tryd.prog 23 #[.int .i64 u] w fun e w' => e = .returned (.string (Pl.str (Pl.decL u))) ∧ Below w.heap.size w w' := by
  induction u using Nat.strongRecOn generalizing w with
  | _ u ih =>
    by_cases h : u < 10
    · exact specNumberOne u h w
    · have hD : Pl.str (Pl.decL (u / 10)) ++ Pl.str [UInt8.ofNat (48 + u % 10)] = Pl.str (Pl.decL u) := by rw [Pl.str_add, ← Pl.decL_ge h]
      have hfit : ¬ 9223372036854775807 < (Pl.str (Pl.decL (u / 10))).size + (Pl.str [UInt8.ofNat (48 + u % 10)]).size := by
        have := Pl.decL_len13 (u := u / 10) (by omega)
        rw [Pl.str_size, Pl.str_size]; simp; omega
      have IH := Lib.hid (ih (u / 10) (by omega) (by omega))
      have HD := Lib.hid hD
      clear ih hD
      have h0 : (0 : Int) ≤ (u : Int) := by omega
      have h1 : ¬ (u : Int) < 10 := by omega
      have hcv : ∀ (W : World) (g : Nat), W.cell? ⟨g, 0, none⟩ = some (.int .u8 (48 + ((u % 10 : Nat) : Int))) → (convert 22 9 (.slice (some ⟨g, 0, none⟩) 1 1)).run Tryd.prog W = .ok (.string (Pl.str [UInt8.ofNat (48 + u % 10)])) W := fun W g hc => by
        have := oneByte W g 1 _ hc
        have e : (48 + ((u % 10 : Nat) : Int)).toNat = 48 + u % 10 := by omega
        rwa [e] at this
      have e1 : ((u : Int)).tdiv 10 = ((u / 10 : Nat) : Int) := rfl
      have e2 : ((u : Int)).tmod 10 = ((u % 10 : Nat) : Int) := rfl
      have hq : ((u / 10 : Nat) : Int) ≤ 1000000000000 := by omega
      have hr : u % 10 < 10 := by omega
      generalize Pl.str (Pl.decL (u / 10)) = A at *
      generalize u / 10 = q at *
      generalize u % 10 = r at *
      generalize Pl.str [UInt8.ofNat (48 + r)] = B at *
      generalize Pl.str (Pl.decL u) = C at *
      have e3 : IntKind.i64.wrap (q : Int) = (q : Int) := IntWalk.i64_in _ (by omega)
      have e4 : IntKind.i64.wrap (48 + (r : Int)) = 48 + (r : Int) := IntWalk.i64_in _ (by omega)
      have e5 : IntKind.u8.wrap (48 + (r : Int)) = 48 + (r : Int) := IntWalk.u8_in _ (by omega)
      have e6 : IntKind.i64.wrap (r : Int) = (r : Int) := IntWalk.i64_in _ (by omega)
      go_enter Tryd.func23, Tryd.ntmps23
      go_wp2_with fail
      go_region_with (first
        | (go_at_call 23; refine (IH.out _).mono ?_; rintro e w2 ⟨rfl, b2⟩; have hb2 := Lib.hid b2; have hcl := b2.cell (p := ⟨w.heap.size, 0, none⟩); simp only [World.size_drew, World.size_alloc, Nat.lt_add_one, forall_const, World.cell?_drew, World.cell?_alloc_new] at hcl; clear b2))
      all_goals
        go_wp2
        go_ret
        first
          | exact ⟨ret_str HD.out, Below.alloc (((Below.refl _ w).drew).trans hb2.out) hb2.out.size _⟩
          | exact ⟨ret_str HD.out, (((Below.refl _ w).alloc (Nat.le_refl _) (.cells #[.int .u8 (48 + (r : Int))] 5)).drew).trans (Below.mono hb2.out (by rw [World.size_drew, World.size_alloc]; omega))⟩

namespace Pl
theorem take_snoc (s : ByteArray) (k : Nat) (h : k < s.size) : s.data.toList.take (k + 1) = s.data.toList.take k ++ [s[k]] := by
  rw [List.take_succ_eq_append_getElem (by simpa using h)]; rfl
theorem data_len (s : ByteArray) : s.data.toList.length = s.size := Array.length_toList
theorem data_head (s : ByteArray) (h : 0 < s.size) : s.data.toList.head? = some s[0] := by
  have hl : 0 < s.data.toList.length := by rw [data_len]; exact h
  rw [List.head?_eq_getElem?, List.getElem?_eq_getElem hl]; rfl
theorem digB_snoc (l : List UInt8) (c : UInt8) : digB (l ++ [c]) = (digB l && (decide (48 ≤ c.toNat) && decide (c.toNat ≤ 57))) := by
  unfold digB
  rw [List.all_append, List.all_cons, List.all_nil, Bool.and_true]
theorem digB_take {l : List UInt8} {k : Nat} (h : digB (l.take k) = false) : digB l = false := by
  refine Bool.eq_false_iff.2 fun hh => ?_
  rw [digB_iff] at hh
  have := (digB_iff (l.take k)).2 fun c hc => hh c (List.mem_of_mem_take hc)
  rw [this] at h; cases h
theorem readN_no {l : List UInt8} (h : numB l = false) : readN l = -1 := by rw [readN, if_neg (fun hh => by rw [h] at hh; exact Bool.noConfusion hh.1)]
end Pl

set_option maxRecDepth 100000 in
set_option maxHeartbeats 2000000 in
theorem specRead (s : ByteArray) (hs : s.size ≤ 1000000000) (w : World) :
    Calls Tryd.prog 19 #[.string s] w fun e w' => e = .returned (.int .i64 (Pl.readN s.data.toList)) ∧ w = w' := by
  have hlen := Pl.data_len s
  by_cases hin : (decide (1 ≤ (s.size : Int)) && decide ((s.size : Int) ≤ 10)) = true
  · have hin2 : 1 ≤ s.size ∧ s.size ≤ 10 := by simp at hin; omega
    have h0 : 0 < s.size := by omega
    have hhead := Pl.data_head s h0
    have HIN : Hid (∀ W, Calls Tryd.prog 22 #[.int .i64 s.size, .int .i64 1, .int .i64 10] W fun e w' => e = .returned (.bool true) ∧ W = w') := Lib.hid fun W => by
      have := specIn s.size 1 10 W
      rwa [hin] at this
    by_cases hlead : 1 < s.size ∧ s[0] = 48
    · have HR : Hid (Pl.readN s.data.toList = -1) := Lib.hid (Pl.readN_no (by
        unfold Pl.numB
        rw [hhead, hlen, hlead.2]
        simp [hlead.1]))
      have hc : ((s[0].toNat : Int) == 48) = true := by rw [hlead.2]; rfl
      have h1 : (1 : Int) < (s.size : Int) := by omega
      clear hin hlead hhead hlen
      generalize Pl.readN s.data.toList = R at *
      go_enter Tryd.func19, Tryd.ntmps19
      go_wp2_with (go_at_call 22; refine (HIN.out _).mono ?_; rintro e w' ⟨rfl, rfl⟩)
      go_ret
      exact ⟨ret_int HR.out.symm, rfl⟩
    · have hnl : (decide (1 < s.data.toList.length) && (s.data.toList.head? == some 48)) = false := by
        rw [hhead, hlen]
        by_cases h1 : 1 < s.size
        · have : ¬ s[0] = 48 := fun e => hlead ⟨h1, e⟩
          simp [this]
        · simp [h1]
      have HN : Hid (∀ b, Pl.digB s.data.toList = b → Pl.numB s.data.toList = b) := Lib.hid fun b hb => by
        unfold Pl.numB
        rw [hnl, hb, hlen]
        simp [hin2.1, hin2.2]
      have HL := Lib.hid hlen
      have hsz := hin2.2
      have HV : Hid (Pl.numB s.data.toList = true → Pl.readN s.data.toList = if Pl.valL s.data.toList ≤ 1000000000 then ((Pl.valL s.data.toList : Nat) : Int) else -1) := Lib.hid fun hb => by
        unfold Pl.readN
        by_cases hv : Pl.valL s.data.toList ≤ 1000000000
        · rw [if_pos ⟨hb, hv⟩, if_pos hv]
        · rw [if_neg (fun hh => hv hh.2), if_neg hv]
      have HNO : Hid (Pl.numB s.data.toList = false → Pl.readN s.data.toList = -1) := Lib.hid Pl.readN_no
      obtain ⟨R, hR⟩ : ∃ R, Pl.readN s.data.toList = R := ⟨_, rfl⟩
      rw [hR] at HV HNO ⊢
      have hcase : (1 < s.size ∧ ((s[0].toNat : Int) == 48) = false) ∨ ¬ 1 < s.size := by
        by_cases h1 : 1 < s.size
        · refine .inl ⟨h1, ?_⟩
          rw [beq_eq_false_iff_ne]
          intro e
          refine hlead ⟨h1, ?_⟩
          have : s[0].toNat = (48 : UInt8).toNat := by
            have h2 : s[0].toNat = 48 := by omega
            rw [h2]; rfl
          exact UInt8.toNat_inj.1 this
        · exact .inr h1
      clear hR hhead hlen hnl hlead hin hin2
      rcases hcase with ⟨h1, hc⟩ | h1
      all_goals
        have h1' := h1
        go_enter Tryd.func19, Tryd.ntmps19
        go_wp2_with (go_at_call 22; refine (HIN.out _).mono ?_; rintro e w' ⟨rfl, rfl⟩)
        go_loop [3, 4] (fun n i => ∃ k : Nat, k ≤ s.size ∧ i = .int .i64 k ∧ n = .int .i64 (Pl.valL (s.data.toList.take k)) ∧ Pl.digB (s.data.toList.take k) = true ∧ Pl.valL (s.data.toList.take k) < 10 ^ k) (fun _ i => s.size - (intOf i).toNat)
        case atStart => exact ⟨0, Nat.zero_le _, rfl, rfl, rfl, by simp [Pl.valL]⟩
        case round =>
          obtain ⟨k, hk, rfl, rfl, hdig, hval⟩ := hrel
          have hp : 10 ^ k ≤ 10 ^ 10 := Nat.pow_le_pow_right (by omega) (by omega)
          have hv10 : Pl.valL (s.data.toList.take k) ≤ 10000000000 := by omega
          by_cases hlt : k < s.size
          · have hts := Pl.take_snoc s k hlt
            have hds := Pl.digB_snoc (s.data.toList.take k) s[k]
            have hvs := Pl.valL_snoc (s.data.toList.take k) s[k]
            rw [← hts] at hds hvs
            rw [hdig, Bool.true_and] at hds
            have hpk : 10 ^ (k + 1) = 10 ^ k * 10 := Nat.pow_succ ..
            have HNX : Hid (48 ≤ s[k].toNat ∧ s[k].toNat ≤ 57 → Pl.digB (s.data.toList.take (k + 1)) = true ∧ Pl.valL (s.data.toList.take (k + 1)) = 10 * Pl.valL (s.data.toList.take k) + (s[k].toNat - 48) ∧ Pl.valL (s.data.toList.take (k + 1)) < 10 ^ (k + 1)) := Lib.hid fun hh => by
              refine ⟨?_, hvs, ?_⟩
              · rw [hds]; simp [hh.1, hh.2]
              · rw [hvs, hpk]; omega
            have HBAD : Hid (¬ (48 ≤ s[k].toNat ∧ s[k].toNat ≤ 57) → R = -1) := Lib.hid fun hh => HNO.out (HN.out _ (Pl.digB_take (k := k + 1) (by
              rw [hds]
              cases h5 : decide (48 ≤ s[k].toNat) with
              | false => rfl
              | true =>
                cases h6 : decide (s[k].toNat ≤ 57) with
                | false => rfl
                | true => exact absurd ⟨of_decide_eq_true h5, of_decide_eq_true h6⟩ hh)))
            clear hts hds hvs hpk hdig hp hval
            generalize Pl.valL (s.data.toList.take k) = V at *
            by_cases hd1 : 48 ≤ s[k].toNat
            · have hd1' : ¬ (s[k].toNat : Int) < 48 := by omega
              by_cases hd2 : s[k].toNat ≤ 57
              · have hd2' : ¬ (57 : Int) < (s[k].toNat : Int) := by omega
                obtain ⟨n1, n2, n3⟩ := HNX.out ⟨hd1, hd2⟩
                have N1 := Lib.hid n1
                have N2 := Lib.hid n2
                have N3 := Lib.hid n3
                have e5 : IntKind.u8.wrap ((s[k].toNat : Int) - 48) = (s[k].toNat : Int) - 48 := IntWalk.u8_in _ (by omega)
                clear n1 n2 n3 HBAD
                go_wp2_with fail
                go_round
                case rel => exact ⟨k + 1, by omega, by go_num, by rw [N2.out]; go_num, N1.out, N3.out⟩
                case measure => simp [intOf]; omega
              · have hd2' : (57 : Int) < (s[k].toNat : Int) := by omega
                have HR := Lib.hid (HBAD.out fun hh => hd2 hh.2)
                go_wp2_with fail
                go_ret
                exact ⟨ret_int HR.out.symm, rfl⟩
            · have hd1' : (s[k].toNat : Int) < 48 := by omega
              have HR := Lib.hid (HBAD.out fun hh => hd1 hh.1)
              go_wp2_with fail
              go_ret
              exact ⟨ret_int HR.out.symm, rfl⟩
          · obtain rfl : k = s.size := by omega
            have hta : s.data.toList.take s.size = s.data.toList := List.take_of_length_le (by rw [HL.out]; exact Nat.le_refl _)
            rw [hta] at hdig hval hv10 ⊢
            have hRV := HV.out (HN.out _ hdig)
            have HRV := Lib.hid hRV
            clear hta hdig hval hRV hp
            generalize Pl.valL s.data.toList = V at *
            by_cases hv : V ≤ 1000000000
            · have hv' : ¬ (1000000000 : Int) < (V : Int) := by omega
              have HR : Hid (R = (V : Int)) := Lib.hid (by rw [HRV.out, if_pos hv])
              go_wp2_with fail
              go_ret
              exact ⟨ret_int HR.out.symm, rfl⟩
            · have hv' : (1000000000 : Int) < (V : Int) := by omega
              have HR : Hid (R = -1) := Lib.hid (by rw [HRV.out, if_neg hv])
              go_wp2_with fail
              go_ret
              exact ⟨ret_int HR.out.symm, rfl⟩
  · have hin' : (decide (1 ≤ (s.size : Int)) && decide ((s.size : Int) ≤ 10)) = false := by simpa using hin
    have HR : Hid (Pl.readN s.data.toList = -1) := Lib.hid (Pl.readN_no (by
      unfold Pl.numB
      rw [hlen]
      simp at hin ⊢
      omega))
    have HIN : Hid (∀ W, Calls Tryd.prog 22 #[.int .i64 s.size, .int .i64 1, .int .i64 10] W fun e w' => e = .returned (.bool false) ∧ W = w') := Lib.hid fun W => by
      have := specIn s.size 1 10 W
      rwa [hin'] at this
    clear hin hin' hlen
    generalize Pl.readN s.data.toList = R at *
    go_enter Tryd.func19, Tryd.ntmps19
    go_wp2_with (go_at_call 22; refine (HIN.out _).mono ?_; rintro e w' ⟨rfl, rfl⟩)
    go_ret
    exact ⟨ret_int HR.out.symm, rfl⟩

end Go.Proofs.YtgkkoegfmhgcjaaDoor
