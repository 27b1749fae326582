/-
  spec.l1Cut: the words of a line, in new memory.
-/
import Derived.Lib.Strings
import Derived.Test.YtgkkoegfmhgcjaaDoorSpecText
namespace Go.Proofs.YtgkkoegfmhgcjaaDoor
open Go.RowKit Go.Shelf

theorem info_str : (Tryd.prog.info? 9).map (fun i => (i.zero, i.size, i.bytes)) = some (some (.string ⟨#[]⟩), 1, 16) := by kernel_rfl

/-- A row of texts of a call's own. -/
def TRow (base : Nat) (w : World) (v : Value) (ls : List (List UInt8)) : Prop := w.ownsRow base 9 1 v ls.length (ls.map fun l => Value.string (Pl.str l))
/-- A call that hands back a new list of texts. -/
def TListPost (w : World) (ls : List (List UInt8)) (e : Ending) (w' : World) : Prop := ∃ v, e = .returned v ∧ TRow w.heap.size w' v ls ∧ Below w.heap.size w w'
theorem TRow.below {base : Nat} {w w' : World} {v : Value} {xs : List (List UInt8)} (h : TRow base w v xs) (hb : Below w.heap.size w w') : TRow base w' v xs := by
  rcases h with ⟨h1, h2 | ⟨g, cap, cur, hv, hg, hh, r⟩⟩
  · exact ⟨h1, .inl h2⟩
  · exact ⟨h1, .inr ⟨g, cap, cur, hv, hg, by rw [hb.block g (lt_of_heap hh)]; exact hh, r⟩⟩
theorem trow_snoc {base : Nat} {w : World} {v : Value} {ls : List (List UInt8)} {l : List UInt8} {t : ByteArray} (ht : t = Pl.str l) (h : w.ownsRow base 9 1 v (ls.length + 1) (ls.map (fun l => Value.string (Pl.str l)) ++ [.string t])) : TRow base w v (ls ++ [l]) := by
  subst ht
  unfold TRow; simpa using h
theorem trow_empty (w : World) : TRow w.heap.size (w.alloc (.cells #[] 9)) (.slice (some ⟨w.heap.size, 0, none⟩) 0 0) [] :=
  World.ownsRow_lit w #[] 0 (Nat.le_refl _) (by unfold maxLen; omega) (by simp)

theorem TRow.shape {base : Nat} {w : World} {v : Value} {ls : List (List UInt8)} (h : TRow base w v ls) : ∃ a cap, v = .slice a ls.length cap := by
  rcases h.2 with ⟨rfl, h0⟩ | ⟨g, cap, cur, rfl, _⟩
  · rw [h0]; exact ⟨none, 0, rfl⟩
  · exact ⟨_, cap, rfl⟩
theorem TRow.lies {base : Nat} {w : World} {v : Value} {ls : List (List UInt8)} (h : TRow base w v ls) (h1 : 1 ≤ ls.length) :
    ∃ g cap, v = .slice (some ⟨g, 0, none⟩) ls.length cap ∧ base ≤ g ∧ g < w.heap.size ∧ ls.length ≤ cap ∧ ∀ j, j < ls.length → w.cell? ⟨g, j, none⟩ = some (.string (Pl.str (ls[j]?.getD []))) := by
  have h' := h
  rcases h.2 with ⟨_, h0⟩ | ⟨g, cap, cur, rfl, hg, hh, hc, _⟩
  · omega
  · refine ⟨g, cap, rfl, hg, lt_of_heap hh, hc, fun j hj => ?_⟩
    rw [World.ownsRow.cellAt h' j (by omega), List.getElem?_map, List.getElem?_eq_getElem hj]; rfl

namespace Pl
/-- What lies between two places. -/
def pieceL (L : List UInt8) (f k : Nat) : List UInt8 := (L.drop f).take (k - f)
theorem extract_piece (s : ByteArray) (f k : Nat) : s.extract f k = str (pieceL s.data.toList f k) := Lib.extract_eq s f k
theorem piece_none (L : List UInt8) (f : Nat) : pieceL L f f = [] := by simp [pieceL]
theorem piece_rest (L : List UInt8) (f : Nat) {n : Nat} (h : L.length = n) : pieceL L f n = L.drop f := by
  unfold pieceL; exact List.take_of_length_le (by rw [List.length_drop]; omega)
theorem piece_snoc {L : List UInt8} {f k : Nat} (h1 : f ≤ k) (h2 : k < L.length) : pieceL L f (k + 1) = pieceL L f k ++ [L[k]] := by
  unfold pieceL
  have hl : k - f < (L.drop f).length := by rw [List.length_drop]; omega
  rw [show k + 1 - f = (k - f) + 1 by omega, List.take_succ_eq_append_getElem hl]
  congr 2
  rw [List.getElem_drop]
  congr 1; omega
theorem piece_drop {L : List UInt8} {f k : Nat} (h1 : f ≤ k) (h2 : k < L.length) : L.drop f = pieceL L f k ++ L[k] :: L.drop (k + 1) := by
  unfold pieceL
  conv => lhs; rw [← List.take_append_drop (k - f) (L.drop f)]
  rw [List.drop_drop, show f + (k - f) = k by omega, List.drop_eq_getElem_cons h2]
end Pl

/-- Cut up to a place: what was cut off, from where on the next piece lies. -/
def CutAt (L : List UInt8) (D : List (List UInt8)) (f k : Nat) : Prop := (32 : UInt8) ∉ Pl.pieceL L f k ∧ Pl.cutL 32 L = D ++ Pl.cutL 32 (L.drop f) ∧ D.length ≤ f
theorem cutAt_start (L : List UInt8) : CutAt L [] 0 0 := ⟨by rw [Pl.piece_none]; simp, by simp, by simp⟩
theorem cutAt_word {L : List UInt8} {D : List (List UInt8)} {f k : Nat} (h : CutAt L D f k) (h1 : f ≤ k) (h2 : k < L.length) (hc : L[k] = 32) : CutAt L (D ++ [Pl.pieceL L f k]) (k + 1) (k + 1) := by
  obtain ⟨a, b, c⟩ := h
  refine ⟨by rw [Pl.piece_none]; simp, ?_, by simp; omega⟩
  rw [b, Pl.piece_drop h1 h2, hc, Pl.cutL_at a]; simp
theorem cutAt_sign {L : List UInt8} {D : List (List UInt8)} {f k : Nat} (h : CutAt L D f k) (h1 : f ≤ k) (h2 : k < L.length) (hc : L[k] ≠ 32) : CutAt L D f (k + 1) := by
  obtain ⟨a, b, c⟩ := h
  refine ⟨?_, b, c⟩
  rw [Pl.piece_snoc h1 h2]
  intro hm
  rcases List.mem_append.1 hm with hm | hm
  · exact a hm
  · exact hc (List.mem_singleton.1 hm).symm
theorem cutAt_end {L : List UInt8} {D : List (List UInt8)} {f : Nat} (h : CutAt L D f L.length) : Pl.cutL 32 L = D ++ [Pl.pieceL L f L.length] := by
  obtain ⟨a, b, _⟩ := h
  rw [Pl.piece_rest L f rfl] at a ⊢
  rw [b, Pl.cutL_one a]

set_option maxRecDepth 100000 in
set_option maxHeartbeats 2000000 in
theorem specCut (s : ByteArray) (hs : s.size ≤ 1000000000) (w : World) :
    Calls Tryd.prog 18 #[.string s, .int .u8 32] w (TListPost w (Pl.cutL 32 s.data.toList)) := by
  have hlen := Pl.data_len s
  obtain ⟨i0, hi0, hz0, hz1, hz2⟩ := info_parts info_str
  have b0 : Below w.heap.size w (w.alloc (.cells #[] 9)) := (Below.refl _ _).alloc (Nat.le_refl _) _
  have r0 := Lib.hid (trow_empty w)
  have HL := Lib.hid hlen
  have HS0 := Lib.hid (cutAt_start s.data.toList)
  clear hlen
  go_enter Tryd.func18, Tryd.ntmps18
  go_wp2_with fail
  go_loopw [5, 6, 7] (fun v fv kv wr => ∃ (D : List (List UInt8)) (f k : Nat) (vv : Value), vv = v ∧ fv = .int .i64 f ∧ kv = .int .i64 k ∧ f ≤ k ∧ k ≤ s.size ∧ TRow w.heap.size wr vv D ∧ Below w.heap.size w wr ∧ CutAt s.data.toList D f k) (fun _ _ kv _ => s.size - (intOf kv).toNat)
  case atStart => exact ⟨[], 0, 0, _, rfl, rfl, rfl, Nat.le_refl _, Nat.zero_le _, r0.out, b0, HS0.out⟩
  case round =>
    clear b0 r0 HS0
    obtain ⟨D, f, k, vv, rfl, rfl, rfl, hfk, hk, hr, hbw, hcut⟩ := hrel
    have hD := hcut.2.2
    have HC := Lib.hid hcut
    have hsz := hbw.size
    clear hcut
    by_cases hlt : k < s.size
    · have hkL : k < s.data.toList.length := by rw [HL.out]; exact hlt
      have hget : s.data.toList[k] = s[k] := rfl
      by_cases hc : s[k] = 32
      · have hc' : ((s[k].toNat : Int) == 32) = true := by rw [hc]; rfl
        have HN := Lib.hid (cutAt_word HC.out hfk hkL (hget.trans hc))
        have HP := Lib.hid (Pl.extract_piece s f k)
        have hr2 : wr.ownsRow w.heap.size 9 1 vv D.length (D.map fun l => Value.string (Pl.str l)) := hr
        have i1 : (f : Int) ≤ (k : Int) := by omega
        have i2 : (k : Int) ≤ (s.size : Int) := by omega
        clear hr hc hget HC
        go_wp2_with (at_builtin; refine wpList_append_own _ rfl _ _ 41 rfl w.heap.size 9 i0 (.string ⟨#[]⟩) 1 16 Tryd.underlying41 hi0 hz0 hz1 hz2 rfl (by decide) _ _ _ rfl (hr2.alloc _) ⟨wr.heap.size, 0, none⟩ 1 1 [.string (s.extract f k)] rfl rfl (cell_one_new _ _ _) (by simp [Value.oneCell']) (by unfold maxLen; omega) (by omega) (by simp; omega) ?_; intro v6 w6 hown6 hgrow6 _)
        have hb6 : Below w.heap.size w w6 := below_append (hbw.alloc (by omega) _) (hr2.alloc _) hgrow6
        have H6 := Lib.hid (trow_snoc HP.out hown6)
        clear hown6 hgrow6 hr2
        go_wp2_with fail
        go_roundw
        case rel => exact ⟨_, k + 1, k + 1, _, rfl, by go_num, by go_num, Nat.le_refl _, by omega, H6.out, hb6, HN.out⟩
        case measure => simp [intOf]; omega
      · have hc' : ((s[k].toNat : Int) == 32) = false := by
          rw [beq_eq_false_iff_ne]
          intro e
          exact hc (UInt8.toNat_inj.1 (by have : s[k].toNat = 32 := by omega
                                          rw [this]; rfl))
        have HN := Lib.hid (cutAt_sign HC.out hfk hkL (fun e => hc (hget.symm.trans e)))
        have HR := Lib.hid hr
        clear hc hget HC hr
        go_wp2_with fail
        go_roundw
        case rel => exact ⟨D, f, k + 1, _, rfl, rfl, by go_num, by omega, by omega, HR.out, hbw, HN.out⟩
        case measure => simp [intOf]; omega
    · obtain rfl : k = s.size := by omega
      have hE := HC.out
      rw [← HL.out] at hE
      have HE := Lib.hid (cutAt_end hE)
      have HP := Lib.hid (Pl.extract_piece s f s.data.toList.length)
      rw [HL.out] at HE HP
      have hr2 : wr.ownsRow w.heap.size 9 1 vv D.length (D.map fun l => Value.string (Pl.str l)) := hr
      have i1 : (f : Int) ≤ (s.size : Int) := by omega
      clear hr HC hE
      go_wp2_with (at_builtin; refine wpList_append_own _ rfl _ _ 41 rfl w.heap.size 9 i0 (.string ⟨#[]⟩) 1 16 Tryd.underlying41 hi0 hz0 hz1 hz2 rfl (by decide) _ _ _ rfl (hr2.alloc _) ⟨wr.heap.size, 0, none⟩ 1 1 [.string (s.extract f s.size)] rfl rfl (cell_one_new _ _ _) (by simp [Value.oneCell']) (by unfold maxLen; omega) (by omega) (by simp; omega) ?_; intro v6 w6 hown6 hgrow6 _)
      have hb6 : Below w.heap.size w w6 := below_append (hbw.alloc (by omega) _) (hr2.alloc _) hgrow6
      have H6 := Lib.hid (trow_snoc HP.out hown6)
      clear hown6 hgrow6 hr2
      go_wp2_with fail
      go_ret
      exact ⟨_, rfl, by rw [HE.out]; exact H6.out, hb6⟩

end Go.Proofs.YtgkkoegfmhgcjaaDoor
