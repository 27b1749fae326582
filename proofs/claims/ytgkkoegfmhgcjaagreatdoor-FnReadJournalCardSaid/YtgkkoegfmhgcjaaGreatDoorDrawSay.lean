/-
  Texts: compared, put behind each other, parts of them; a desk and lines drawn.
-/
import Derived.Laws.AppendOwnNone
import Derived.Laws.OwnMore
import Derived.Test.YtgkkoegfmhgcjaaGreatDoorDrawLine
import Derived.Test.YtgkkoegfmhgcjaaGreatDoorSpecSay
namespace Go.Proofs.YtgkkoegfmhgcjaaGreatDoor
open Go.RowKit Go.Shelf

theorem TRow.texts {base : Nat} {w : World} {v : Value} {ls : List (List UInt8)} (h : TRow base w v ls) : Texts w v (ls.map Pl.str) := by
  obtain ⟨a, cap, hv⟩ := h.shape
  refine ⟨a, cap, by rw [List.length_map]; exact hv, fun j hj => ?_⟩
  rw [List.length_map] at hj
  obtain ⟨g, cap', hv', _, _, _, hc⟩ := h.lies (by omega)
  rw [hv] at hv'
  cases hv'
  refine ⟨g, 0, rfl, ?_⟩
  rw [Nat.zero_add, hc j hj, List.getElem?_map, List.getElem?_eq_getElem hj]; rfl
theorem listed_str (ls : List (List UInt8)) : listed (ls.map Pl.str) = ls := by
  unfold listed
  rw [List.map_map]
  conv => rhs; rw [← List.map_id ls]
  rfl
theorem str_listed (ts : List ByteArray) : (listed ts).map Pl.str = ts := by
  unfold listed
  rw [List.map_map]
  conv => rhs; rw [← List.map_id ts]
  rfl
theorem TRow.only {B r : Nat} {w w' : World} {v : Value} {ls : List (List UInt8)} (h : TRow B w v ls) (hr : r < B) (ho : Only r w w') : TRow B w' v ls := by
  rcases h with ⟨h1, h2 | ⟨g, cap, cur, hv, hg, hh, rest⟩⟩
  · exact ⟨h1, .inl h2⟩
  · exact ⟨h1, .inr ⟨g, cap, cur, hv, hg, by rw [ho.block g (lt_of_heap hh) (by omega)]; exact hh, rest⟩⟩
theorem texts_at {w : World} {g : Nat} {ls : List (List UInt8)} (h : ∀ j, j < ls.length → w.cell? ⟨g, j, none⟩ = some (.string (Pl.str (ls[j]?.getD [])))) : ∀ j u, (ls.map fun l => Value.string (Pl.str l))[j]? = some u → w.cell? ((⟨g, 0, none⟩ : Addr).add j) = some u := by
  intro j u hu
  have hj : j < ls.length := by have := (List.getElem?_eq_some_iff.1 hu).1; simpa using this
  have e : (⟨g, 0, none⟩ : Addr).add j = ⟨g, j, none⟩ := by
    unfold Addr.add; split <;> simp_all
  rw [e, h j hj, ← hu, List.getElem?_map, List.getElem?_eq_getElem hj]; rfl
/-- append(out, list...) of texts. -/
theorem append_texts {ops : Array Oper} {rest : List Oper} {o : Oper} {a : Act} {Q : Exit → Act → World → Prop} {w : World} (hgd : o.guard = none) (s x : Operand)
    (ho : o.op = .call { callee := .builtin .append, args := #[s, x], argTypes := #[47, 47] }) (base base2 : Nat) (v u : Value) (xs ys : List (List UInt8)) (hs : a.eval s = v) (hx : a.eval x = u)
    (hv : TRow base w v xs) (hu : TRow base2 w u ys) (hl : xs.length + ys.length ≤ 1000000000) (hbase : base ≤ w.heap.size)
    (h : ∀ v' w', TRow base w' v' (xs ++ ys) → Below base w w' → wpList Tryz.prog ops Q rest (a.put o.dst v') w') : wpList Tryz.prog ops Q (o :: rest) a w := by
  obtain ⟨i0, hi0, hz0, hz1, hz2⟩ := info_parts info_str
  by_cases hy : 1 ≤ ys.length
  · obtain ⟨g, cap, rfl, _, hg, hcap, hc⟩ := hu.lies hy
    refine wpList_append_own w hgd s x 47 ho base 9 i0 (.string ⟨#[]⟩) 1 16 Tryz.underlying47 hi0 hz0 hz1 hz2 rfl (by decide) v xs.length (xs.map fun l => Value.string (Pl.str l)) hs hv ⟨g, 0, none⟩ ys.length cap (ys.map fun l => Value.string (Pl.str l)) hx (by simp)
      (texts_at hc) (by simp [Value.oneCell']) (by unfold maxLen; omega) (by omega) hbase ?_
    intro v' w' hown hgrow _
    refine h v' w' ?_ (below_append (Below.refl _ _) hv hgrow hbase)
    unfold TRow
    rw [List.length_append, List.map_append]
    exact hown
  · obtain rfl : ys = [] := List.eq_nil_of_length_eq_zero (by omega)
    rw [List.append_nil] at h
    rcases hu.2 with ⟨rfl, _⟩ | ⟨g, cap, cur, rfl, hg, hh, _⟩
    · exact wpList_append_own_none hgd s x 47 ho base 9 i0 1 Tryz.underlying47 hi0 v xs.length (xs.map fun l => Value.string (Pl.str l)) hs hv hx (h v w hv (Below.refl _ _))
    · refine wpList_append_own w hgd s x 47 ho base 9 i0 (.string ⟨#[]⟩) 1 16 Tryz.underlying47 hi0 hz0 hz1 hz2 rfl (by decide) v xs.length (xs.map fun l => Value.string (Pl.str l)) hs hv ⟨g, 0, none⟩ 0 cap [] hx (by simp)
        (by simp) (by simp) (by unfold maxLen; omega) (by omega) hbase ?_
      intro v' w' hown hgrow _
      refine h v' w' ?_ (below_append (Below.refl _ _) hv hgrow hbase)
      unfold TRow
      simpa using hown

theorem Texts.front {w : World} {a : Option Addr} {n cap cap' : Nat} {ts : List ByteArray} (h : Texts w (.slice a n cap) ts) {k : Nat} (hk : k ≤ n) : Texts w (.slice a k cap') (ts.take k) := by
  obtain ⟨a', c', hv, hc⟩ := h
  simp only [Value.slice.injEq] at hv
  obtain ⟨rfl, rfl, rfl⟩ := hv
  refine ⟨a, cap', by rw [List.length_take, Nat.min_eq_left hk], fun j hj => ?_⟩
  rw [List.length_take, Nat.min_eq_left hk] at hj
  obtain ⟨b, off, h1, h2⟩ := hc j (by omega)
  exact ⟨b, off, h1, by rw [List.getElem?_take_of_lt hj]; exact h2⟩
theorem Texts.back {w : World} {b off n cap cap' : Nat} {ts : List ByteArray} (h : Texts w (.slice (some ⟨b, off, none⟩) n cap) ts) {k : Nat} (hk : k ≤ n) : Texts w (.slice (some ⟨b, off + k, none⟩) (n - k) cap') (ts.drop k) := by
  obtain ⟨a', c', hv, hc⟩ := h
  simp only [Value.slice.injEq] at hv
  obtain ⟨rfl, rfl, rfl⟩ := hv
  refine ⟨_, cap', by rw [List.length_drop], fun j hj => ?_⟩
  rw [List.length_drop] at hj
  obtain ⟨b', off', h1, h2⟩ := hc (k + j) (by omega)
  simp only [Option.some.injEq, Addr.mk.injEq, and_true] at h1
  obtain ⟨rfl, rfl⟩ := h1
  refine ⟨b, off + k, rfl, ?_⟩
  rw [List.getElem?_drop, show off + k + j = off + (k + j) by omega]; exact h2

set_option maxHeartbeats 1000000 in
theorem sameTextsYes (u v : Value) (ts : List ByteArray) (w : World) (hu : Texts w u ts) (hv : Texts w v ts) (hx : ts.length ≤ 1000000000) :
    Calls Tryz.prog 27 #[u, v] w fun e w' => e = .returned (.bool true) ∧ Below w.heap.size w w' := by
  obtain ⟨a, cap, rfl, ha⟩ := hu
  obtain ⟨b, cbp, rfl, hb⟩ := hv
  have HA := Lib.hid ha
  have HB := Lib.hid hb
  clear ha hb
  go_enter Tryz.func27, Tryz.ntmps27
  go_wp2_with fail
  go_loopw [5] (fun i wr => ∃ (k n : Nat), k ≤ ts.length ∧ i = .int .i64 k ∧ wr = w.drewN n) (fun i _ => ts.length - (intOf i).toNat)
  case atStart => exact ⟨0, 0, Nat.zero_le _, rfl, rfl⟩
  case round =>
    obtain ⟨k, n, hk, rfl, rfl⟩ := hrel
    by_cases hlt : k < ts.length
    · obtain ⟨b1, o1, rfl, c1⟩ := HA.out k hlt
      obtain ⟨b2, o2, rfl, c2⟩ := HB.out k hlt
      clear HA HB
      generalize ts[k]?.getD ByteArray.empty = T at *
      have hTT : (T.toList == T.toList) = true := beq_self_eq_true _
      have hi1 : (k : Int) < (ts.length : Int) := by omega
      go_wp2_with fail
      go_quiet (fail)
      go_wp2
      refine ⟨⟨k + 1, n + nq, by omega, by go_num, rfl⟩, by simp [intOf]; omega⟩
    · obtain rfl : k = ts.length := by omega
      clear HA HB
      go_wp2
      go_ret
      exact ⟨rfl, drewN_below _ _⟩

/-- A desk and lines. -/
def DeskLinesGot (w : World) (e : Ending) (w' : World) : Prop :=
  ∃ (d : Pl.Dk) (v : Value) (g cap : Nat) (ts : List ByteArray), e = .returned (.tuple #[.agg #[.int .i64 d.b, .int .i64 d.n, v], .slice (some ⟨g, 0, none⟩) ts.length cap]) ∧ Ints w' v d.past ∧ d.past.length ≤ 20 ∧ Texts w' (.slice (some ⟨g, 0, none⟩) ts.length cap) ts ∧ ts.length ≤ 41 ∧ ts.length ≤ cap ∧ (∀ s ∈ ts, s.size ≤ 40) ∧ Below w.heap.size w w'

set_option maxRecDepth 100000 in
set_option maxHeartbeats 4000000 in
theorem drawDeskSay (a : Option Addr) (len cap : Nat) (z : List Int) (w : World) (h : IsRow .u8 w a len cap z) :
    Calls Tryz.prog 24 #[.slice a len cap] w (DeskLinesGot w) := by
  obtain ⟨i0, hi0, hz0, hz1, hz2⟩ := info_parts info_str
  have b1 : Below w.heap.size w (w.alloc (.cells #[.int .i64 0, .int .i64 0, .slice none 0 0] 30)) := (Below.refl _ _).alloc (Nat.le_refl _) _
  have h1 := h.stay b1
  have D1 := SBox.new w 30 #[.int .i64 0, .int .i64 0, .slice none 0 0]
  have z1 : w.heap.size + 1 ≤ (w.alloc (.cells #[.int .i64 0, .int .i64 0, .slice none 0 0] 30)).heap.size := by simp
  clear h
  go_enter Tryz.func24, Tryz.ntmps24
  go_upto_region 1 with (fail)
  generalize w.alloc (.cells #[.int .i64 0, .int .i64 0, .slice none 0 0] 30) = W at *
  go_wp2_with fail
  refine (l20Open _ _ _ _ _ h1).mono ?_
  rintro e w1 ⟨r, rfl, hr⟩
  have hlt := hr.lt
  have D2 := D1.kept hr.below
  clear h1 D1
  go_wp2_with fail
  refine (l20Desk W r 0 12 w1 hr (by omega) (by omega) (by omega)).mono ?_
  rintro e w2 ⟨d, v, rfl, hd, hlen, hr2, hO⟩
  obtain ⟨a2, l2, rfl⟩ := hd.shape
  have s2 := hO.size
  have hb3 : Below w2.heap.size w2 ((w2.alloc (.cells #[.int .i64 d.b, .int .i64 d.n, .slice a2 d.past.length l2] 30)).alloc (.cells #[] 9)) := ((Below.refl _ _).alloc (Nat.le_refl _) _).alloc (by simp) _
  have S3 := (SBox.new w2 30 #[.int .i64 d.b, .int .i64 d.n, .slice a2 d.past.length l2]).alloc (.cells #[] 9)
  have D3 := (D2.only hO (by omega)).kept hb3
  have T3 := Row.below hd hb3
  have R3 := hr2.kept hb3
  have s3 := hb3.size
  have L3 : TRow w1.heap.size ((w2.alloc (.cells #[.int .i64 d.b, .int .i64 d.n, .slice a2 d.past.length l2] 30)).alloc (.cells #[] 9)) (.slice (some ⟨w2.heap.size + 1, 0, none⟩) 0 0) [] := by
    have := trow_empty (w2.alloc (.cells #[.int .i64 d.b, .int .i64 d.n, .slice a2 d.past.length l2] 30))
    exact TRow.mono (base := w2.heap.size + 1) (by simpa only [World.size_alloc] using this) (by omega)
  have hgr : w2.heap.size ≠ r := by omega
  have hO3 := hO.trans (Only.of_below hb3)
  clear hr D2 hr2 hd hO hb3
  go_upto_region 4 with (fail)
  generalize (w2.alloc (.cells #[.int .i64 d.b, .int .i64 d.n, .slice a2 d.past.length l2] 30)).alloc (.cells #[] 9) = w3 at *
  go_wp2_with fail
  refine (pick W r _ 7 w3 (by omega) R3).mono ?_
  rintro e w4 ⟨x, rfl, x0, x1, R4, O4⟩
  have x7 := x1 (by omega)
  have S4 := Lib.hid (S3.only O4 hgr)
  have D4 := Lib.hid (D3.only O4 (by omega))
  have T4 := Lib.hid (T3.onlyB hlt.2 O4)
  have L4 := Lib.hid (L3.only hlt.2 O4)
  have s4 := O4.size
  have hO4 := hO3.trans O4
  clear S3 D3 T3 R3 L3 O4 x1 hO3
  obtain ⟨X, rfl⟩ := Int.eq_ofNat_of_zero_le x0
  go_wp2_with fail
  go_loopw [6, 7] (fun o k wr => ∃ (ls : List (List UInt8)) (j g lc : Nat), o = .slice (some ⟨g, 0, none⟩) ls.length lc ∧ j ≤ 6 ∧ k = .int .i64 j ∧ TRow w1.heap.size wr o ls ∧ ls.length + j ≤ 6 ∧ (∀ l ∈ ls, l.length ≤ 40) ∧ Rd W r (6000 - 200 * j) wr ∧ Only r w1 wr ∧ SBox wr w2.heap.size 30 #[.int .i64 d.b, .int .i64 d.n, .slice a2 d.past.length l2] ∧ Row w1.heap.size wr (.slice a2 d.past.length l2) d.past ∧ SBox wr w.heap.size 30 #[.int .i64 0, .int .i64 0, .slice none 0 0]) (fun _ k _ => (intOf k).toNat)
  case atStart => exact ⟨[], X, _, _, rfl, by omega, rfl, L4.out, (by show 0 + X ≤ 6; omega), fun l hl => (by cases hl), R4.le (by omega), hO4, S4.out, T4.out, D4.out⟩
  case round =>
    clear L4 R4 S4 T4 D4 hO4
    obtain ⟨ls, j, g, lc, rfl, hj, rfl, hL, hlj, hls, hR, hO, hS, hT, hD⟩ := hrel
    have hsz := hO.size
    have HL := Lib.hid hL
    have HLS := Lib.hid hls
    have HS := Lib.hid hS
    have HT := Lib.hid hT
    have HD := Lib.hid hD
    clear hL hls hS hT hD
    by_cases hpos : 0 < j
    · have hi : (0 : Int) < (j : Int) := by omega
      go_wp2_with fail
      refine (l20Line W r _ wr hR (by omega)).mono ?_
      rintro e w5 ⟨t, rfl, ht, R5, O5⟩
      have L5 := HL.out.only hlt.2 O5
      have hr2 : w5.ownsRow w1.heap.size 9 1 (.slice (some ⟨g, 0, none⟩) ls.length lc) ls.length (ls.map fun l => Value.string (Pl.str l)) := L5
      have s5 := O5.size
      have hO5 := hO.trans O5
      have S5 := Lib.hid (HS.out.only O5 hgr)
      have T5 := Lib.hid (HT.out.onlyB hlt.2 O5)
      have D5 := Lib.hid (HD.out.only O5 (by omega))
      have HL5 := Lib.hid L5
      clear HL hR hO O5 HS HT HD L5
      go_wp2_with (at_builtin; refine wpList_append_own _ rfl _ _ 47 rfl w1.heap.size 9 i0 (.string ⟨#[]⟩) 1 16 Tryz.underlying47 hi0 hz0 hz1 hz2 rfl (by decide) _ _ _ rfl (hr2.alloc _) ⟨w5.heap.size, 0, none⟩ 1 1 [.string t] rfl rfl (cell_one_new _ _ _) (by simp [Value.oneCell']) (by unfold maxLen; omega) (by omega) (by simp; omega) ?_; intro v8 w8 hown8 hgrow8 _)
      have hb8 : Below w1.heap.size w5 w8 := below_append ((Below.refl _ w5).alloc (by omega) _) (hr2.alloc _) hgrow8 (by omega)
      have H8 : TRow w1.heap.size w8 v8 (ls ++ [t.data.toList]) := trow_snoc (Pl.str_self t).symm hown8
      obtain ⟨g8, c8, rfl, _⟩ := H8.lies (by simp)
      have HH := Lib.hid H8
      have O8 := hO5.then (B := w1.heap.size) (Nat.le_refl _) hb8
      have R8 := R5.over (hb8.mono (by omega))
      have hal : Below w5.heap.size w5 (w5.alloc (.cells #[.string t] 9)) := (Below.refl _ _).alloc (Nat.le_refl _) _
      have S8 := Lib.hid ((S5.out.kept hal).grown hgrow8 (boxNotTexts (S5.out.kept hal) (by decide) (HL5.out.below hal)))
      have T8 := Lib.hid ((Row.below T5.out hal).grownR hgrow8 (notTexts (.inl (Row.below T5.out hal)) (HL5.out.below hal)))
      have D8 := Lib.hid (D5.out.below (hb8) (by omega))
      clear hown8 hgrow8 hr2 HL5 R5 hO5 H8 S5 T5 D5 hal
      go_wp2_with fail
      go_roundw
      case rel => exact ⟨ls ++ [t.data.toList], j - 1, g8, c8, rfl, by omega, by rw [show ((j - 1 : Nat) : Int) = (j : Int) - 1 from by omega], HH.out, (by rw [List.length_append]; show ls.length + 1 + (j - 1) ≤ 6; omega), fun l hl => (by
          rcases List.mem_append.1 hl with hl | hl
          · exact HLS.out l hl
          · rw [List.mem_singleton.1 hl, Pl.data_len]; exact ht), R8.le (by omega), O8, S8.out, T8.out, D8.out⟩
      case measure => simp [intOf]; omega
    · obtain rfl : j = 0 := by omega
      go_wp2_with fail
      refine (odd W r _ 30 wr hR (by omega) (by omega) (by omega)).mono ?_
      rintro e w6 ⟨bb, rfl, R6, O6'⟩
      have O6 := hO.trans O6'
      have S6 := HS.out.only O6' hgr
      have D6 := HD.out.only O6' (by omega)
      have T6 := HT.out.onlyB hlt.2 O6'
      have L6 := HL.out.only hlt.2 O6'
      have s6 := O6.size
      have c6 := b1.trans (R6.below.mono b1.size)
      clear hR hO O6' HS HD HT HL
      cases bb with
      | true =>
        have hL6 := Lib.hid L6
        clear hL6 L6
        obtain ⟨W7, hmk, hown, hgrow⟩ := run_makeSlice_full (P := Tryz.prog) w6 w6.heap.size 47 9 i0 (.string ⟨#[]⟩) 1 Tryz.underlying47 hi0 hz0 hz1 .i64 .i64 41 (by decide) (by rw [hz2]; decide) (by decide) (Nat.le_refl _)
        have hmk2 : (Instr.makeSlice 47 (.int .i64 41) (.int .i64 41)).run Tryz.prog w6 = .ok (.slice (some ⟨w6.heap.size, 0, none⟩) 41 41) W7 := hmk
        have hb7 : Below w6.heap.size w6 W7 := (Below.refl _ w6).grown hgrow (Nat.le_refl _) (fun k e => by cases e)
        have L7 : TRow w6.heap.size W7 (.slice (some ⟨w6.heap.size, 0, none⟩) 41 41) (List.replicate 41 []) := by
          have e : (madeCells (Value.string ⟨#[]⟩).cells (41 * 1)).toList = (List.replicate 41 ([] : List UInt8)).map fun l => Value.string (Pl.str l) := by
            rw [show (Value.string ⟨#[]⟩).cells = #[.string ⟨#[]⟩] from rfl, toList_madeCells_one, List.map_replicate]; rfl
          rw [e] at hown
          exact hown
        have S7 := S6.kept hb7
        have D7 := Lib.hid (D6.kept hb7)
        have T7 := Lib.hid (T6.below hb7)
        have HL7 := Lib.hid L7
        have c7 := c6.trans (hb7.mono c6.size)
        clear hmk hown hgrow hb7 S6 D6 T6 L7 R6 c6
        go_wp2_with (first | (refine desk_load rfl _ rfl rfl S7 ?_) | (refine desk_store rfl _ _ rfl rfl rfl rfl D7.out ?_; intro w9 hS9 hbl9 hsz9 hO9))
        refine bodyPost_ret (results_cell_tmp rfl _ _ w.heap.size #[.int .i64 d.b, .int .i64 d.n, .slice a2 d.past.length l2] _ (.slice (some ⟨w6.heap.size, 0, none⟩) 41 41) rfl rfl hS9 rfl Tryz.underlying30 (by rw [size_desk]; rfl)) rfl ?_
        have hfin := (HL7.out.stored D7.out (by decide) hO9).texts
        exact ⟨d, _, w6.heap.size, 41, (List.replicate 41 ([] : List UInt8)).map Pl.str, rfl, (T7.out.stored D7.out (by decide) hO9).ints, hlen, hfin, by simp, by simp, fun s hs => (by
          obtain ⟨l, hl, rfl⟩ := List.mem_map.1 hs
          rw [List.eq_of_mem_replicate hl]; decide), c7.trans (hbl9 _ (Nat.le_refl _))⟩
      | false =>
        have HL7 := Lib.hid L6
        have D7 := Lib.hid D6
        have T7 := Lib.hid T6
        clear L6 D6 T6
        go_wp2_with (first | (refine desk_load rfl _ rfl rfl S6 ?_) | (refine desk_store rfl _ _ rfl rfl rfl rfl D7.out ?_; intro w9 hS9 hbl9 hsz9 hO9))
        refine bodyPost_ret (results_cell_tmp rfl _ _ w.heap.size #[.int .i64 d.b, .int .i64 d.n, .slice a2 d.past.length l2] _ (.slice (some ⟨g, 0, none⟩) ls.length lc) rfl rfl hS9 rfl Tryz.underlying30 (by rw [size_desk]; rfl)) rfl ?_
        have hfin := (HL7.out.stored D7.out (by decide) hO9)
        have hcap : ls.length ≤ lc := by
          rcases hfin.2 with ⟨h0, _⟩ | ⟨g', cap', cur', hv', _, _, hc', _⟩
          · cases h0
          · cases hv'; exact hc'
        have ht := hfin.texts
        have e : ls.length = (ls.map Pl.str).length := (List.length_map _).symm
        rw [e] at ht hcap ⊢
        exact ⟨d, _, g, lc, ls.map Pl.str, rfl, (T7.out.stored D7.out (by decide) hO9).ints, hlen, ht, by rw [List.length_map]; omega, hcap, fun s hs => (by
          obtain ⟨l, hl, rfl⟩ := List.mem_map.1 hs
          rw [Pl.str_size]; exact HLS.out l hl), c6.trans (hbl9 _ (Nat.le_refl _))⟩

end Go.Proofs.YtgkkoegfmhgcjaaGreatDoor
