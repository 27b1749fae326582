/-
  Texts: their sizes, copied, compared, marked. For the exact law of DeskSay.
-/
import Derived.Test.YtgkkoegfmhgcjaaGreatDoorSayLaws
import Derived.Test.YtgkkoegfmhgcjaaGreatDoorGText
import Derived.Test.YtgkkoegfmhgcjaaGreatDoorXCut
namespace Go.Proofs.YtgkkoegfmhgcjaaGreatDoor
open Go.RowKit Go.Shelf

theorem TRow.cellAt {base : Nat} {w : World} {g n cap : Nat} {ls : List (List UInt8)} (h : TRow base w (.slice (some ⟨g, 0, none⟩) n cap) ls) (hn : ls.length = n) (j : Nat) (hj : j < n) :
    w.cell? ⟨g, j, none⟩ = some (.string (Pl.str (ls[j]?.getD []))) ∧ w.frozen? ⟨g, j, none⟩ = false := by
  subst hn
  refine ⟨?_, World.ownsRow.frozenAt h j⟩
  have := World.ownsRow.cellAt h j (by omega)
  rw [this]; simp [hj]
theorem TRow.set {base : Nat} {w : World} {g n cap : Nat} {ls : List (List UInt8)} (h : TRow base w (.slice (some ⟨g, 0, none⟩) n cap) ls) (hn : ls.length = n) (j : Nat) (l : List UInt8) :
    TRow base (w.setCell ⟨g, j, none⟩ (.string (Pl.str l))) (.slice (some ⟨g, 0, none⟩) n cap) (ls.set j l) := by
  subst hn
  have := (World.ownsRow.stored h j (.string (Pl.str l))).1
  have e : (ls.set j l).map (fun l => Value.string (Pl.str l)) = (ls.map fun l => Value.string (Pl.str l)).set j (.string (Pl.str l)) := List.map_set
  unfold TRow
  rw [List.length_set, e]
  exact this
theorem take_step {α : Type} (xs : List α) (z : α) (j : Nat) (hj : j < xs.length) : (xs.take j ++ List.replicate (xs.length - j) z).set j (xs[j]?.getD z) = xs.take (j + 1) ++ List.replicate (xs.length - (j + 1)) z := by
  apply List.ext_getElem
  · simp; omega
  · intro i h1 h2
    simp only [List.getElem_set, List.getElem_append, List.length_take, List.getElem_take, List.getElem_replicate]
    split
    · subst i; rw [dif_pos (by omega), List.getElem?_eq_getElem hj]; rfl
    · split
      · rw [dif_pos (by omega)]
      · rw [dif_neg (by omega)]

namespace Pl
/-- Marks: 'm' and a number. -/
def markT (k : Nat) : List UInt8 := 109 :: decL k
def tmarks (k n : Nat) : List (List UInt8) := (List.range n).map fun i => markT (k + i)
@[simp] theorem tmarks_length (k n : Nat) : (tmarks k n).length = n := by simp [tmarks]
theorem tmarks_step (k : Nat) (xs : List (List UInt8)) (j : Nat) (hj : j < xs.length) : (tmarks k j ++ xs.drop j).set j (markT (k + j)) = tmarks k (j + 1) ++ xs.drop (j + 1) := by
  apply List.ext_getElem
  · simp [tmarks]; omega
  · intro i h1 h2
    simp only [tmarks, List.getElem_set, List.getElem_append, List.length_map, List.length_range, List.getElem_map, List.getElem_range, List.getElem_drop]
    split
    · subst i; rw [dif_pos (by omega)]
    · split
      · rw [dif_pos (by omega)]
      · rw [dif_neg (by omega)]
        congr 1; omega
def restD (c : Nat) : List UInt8 := if c = 0 then [] else decL c
theorem restD_step {c : Nat} (hc : 0 < c) (out : List UInt8) : restD c ++ out = restD (c / 10) ++ (UInt8.ofNat (48 + c % 10) :: out) := by
  unfold restD
  rw [if_neg (by omega)]
  by_cases h : c < 10
  · rw [decL_lt h, if_pos (by omega), show c % 10 = c by omega]; rfl
  · rw [decL_ge h, if_neg (by omega), List.append_assoc]; rfl
end Pl

set_option maxRecDepth 100000 in
set_option maxHeartbeats 2000000 in
theorem markText (k : Nat) (h1 : 1 ≤ k) (hk : k ≤ 1000000000000) (w : World) :
    Calls Tryz.prog 85 #[.int .i64 k] w fun e w' => e = .returned (.string (Pl.str (Pl.markT k))) ∧ Below w.heap.size w w' := by
  have hkp : (0 : Int) < (k : Int) := by omega
  have hkn : ¬ (k : Int) ≤ 0 := by omega
  have HK := Lib.hid (Pl.decL_len13 (u := k) hk)
  go_enter Tryz.func85, Tryz.ntmps85
  go_wp2
  go_loopw [0, 3] (fun c o wr => ∃ (j : Nat) (out : List UInt8), c = .int .i64 j ∧ o = .string (Pl.str out) ∧ j ≤ 1000000000000 ∧ Pl.restD j ++ out = Pl.decL k ∧ Below w.heap.size w wr) (fun c _ _ => (intOf c).toNat)
  case atStart => exact ⟨k, [], rfl, rfl, hk, by unfold Pl.restD; rw [if_neg (by omega), List.append_nil], Below.refl _ _⟩
  case round =>
    obtain ⟨j, out, rfl, rfl, hj, hout, hb⟩ := hrel
    have hol : out.length ≤ 13 := by
      have := HK.out
      rw [← hout, List.length_append] at this
      omega
    by_cases hp : 0 < j
    · have HS := Lib.hid ((Pl.restD_step hp out).symm.trans hout)
      have hA : Pl.str [UInt8.ofNat (48 + j % 10)] ++ Pl.str out = Pl.str (UInt8.ofNat (48 + j % 10) :: out) := by rw [Pl.str_add]; rfl
      have HA := Lib.hid hA
      have hfit : ¬ 9223372036854775807 < (Pl.str [UInt8.ofNat (48 + j % 10)]).size + (Pl.str out).size := by
        rw [Pl.str_size, Pl.str_size]; simp; omega
      have hcv : ∀ (W : World) (g : Nat), W.cell? ⟨g, 0, none⟩ = some (.int .u8 (48 + ((j % 10 : Nat) : Int))) → (convert 22 9 (.slice (some ⟨g, 0, none⟩) 1 1)).run Tryz.prog W = .ok (.string (Pl.str [UInt8.ofNat (48 + j % 10)])) W := fun W g hc => by
        have := oneByte W g 1 _ hc
        have e : (48 + ((j % 10 : Nat) : Int)).toNat = 48 + j % 10 := by omega
        rwa [e] at this
      have e1 : ((j : Int)).tdiv 10 = ((j / 10 : Nat) : Int) := rfl
      have e2 : ((j : Int)).tmod 10 = ((j % 10 : Nat) : Int) := rfl
      have hq : j / 10 ≤ 1000000000000 := by omega
      have hqj : j / 10 < j := by omega
      have hr : j % 10 < 10 := by omega
      have hjp : (0 : Int) < (j : Int) := by omega
      clear hA hout
      generalize Pl.str out = O at *
      generalize j / 10 = q at *
      generalize j % 10 = r at *
      have hcr := hcv (wr.alloc (.cells #[.int .u8 (48 + (r : Int))] 5)) wr.heap.size (by rw [World.cell?_alloc_new]; rfl)
      clear hcv
      generalize Pl.str [UInt8.ofNat (48 + r)] = B at *
      have e3 : IntKind.i64.wrap (q : Int) = (q : Int) := IntWalk.i64_in _ (by omega)
      have e4 : IntKind.i64.wrap (48 + (r : Int)) = 48 + (r : Int) := IntWalk.i64_in _ (by omega)
      have e5 : IntKind.u8.wrap (48 + (r : Int)) = 48 + (r : Int) := IntWalk.u8_in _ (by omega)
      have e6 : IntKind.i64.wrap (r : Int) = (r : Int) := IntWalk.i64_in _ (by omega)
      go_wp2
      go_roundw
      case rel => exact ⟨q, _, by first | rfl | (rw [e1]), by rw [HA.out], hq, HS.out, hb.alloc hb.size _⟩
      case measure => simp [intOf]; omega
    · obtain rfl : j = 0 := by omega
      have HE : Hid ((⟨#[109]⟩ : ByteArray) ++ Pl.str out = Pl.str (Pl.markT k)) := Lib.hid (by
        have : out = Pl.decL k := by rw [← hout]; rfl
        rw [this, show (⟨#[109]⟩ : ByteArray) = Pl.str [109] from rfl, Pl.str_add]; rfl)
      have hfit : ¬ 9223372036854775807 < (⟨#[109]⟩ : ByteArray).size + (Pl.str out).size := by
        rw [Pl.str_size]; show ¬ _ < 1 + _; omega
      clear hout
      generalize Pl.str out = O at *
      go_wp2
      go_ret
      exact ⟨ret_str HE.out, hb⟩

set_option maxHeartbeats 1000000 in
theorem szStringS (a : Option Addr) (len cap : Nat) (ts : List ByteArray) (L : Int) (w : World) (hv : Texts w (.slice a len cap) ts) (hlen : ts.length = len) (hmax : len ≤ maxLen) (hsz : ∀ s ∈ ts, s.size ≤ maxLen) (h0 : 0 ≤ L) (hL : L ≤ 1048576) :
    Calls Tryz.prog 33 #[.slice a len cap, .int .i64 L] w fun e w' => (∃ r : Int, e = .returned (.int .i64 r) ∧ (r = -1 ∨ 0 ≤ r ∧ ts.length ≤ 1048576 ∧ ∀ s ∈ ts, s.size ≤ 1048576)) ∧ w = w' := by
  subst hlen
  have HV := Lib.hid hv
  have HSZ := Lib.hid hsz
  unfold maxLen at hmax
  clear hv hsz
  have h2 : IntKind.i64.wrap (L - (ts.length : Int)) = L - (ts.length : Int) := IntWalk.i64_in _ (by omega)
  by_cases hneg : L - (ts.length : Int) < 0
  · go_enter Tryz.func33, Tryz.ntmps33
    go_wp2
    go_ret
    exact ⟨⟨_, rfl, .inl rfl⟩, rfl⟩
  · have hl : ts.length ≤ 1048576 := by omega
    have hq0 : 0 ≤ L - (ts.length : Int) := by omega
    have hq1 : L - (ts.length : Int) ≤ 1048576 := by omega
    go_enter Tryz.func33, Tryz.ntmps33
    go_wp2
    go_loop [1, 5] (fun q i => ∃ (k : Nat) (z : Int), k ≤ ts.length ∧ q = .int .i64 z ∧ i = .int .i64 k ∧ 0 ≤ z ∧ z ≤ 1048576 ∧ ∀ s ∈ ts.take k, s.size ≤ 1048576) (fun _ i => ts.length - (intOf i).toNat)
    case atStart => exact ⟨0, _, Nat.zero_le _, rfl, rfl, hq0, hq1, fun s hs => by simp at hs⟩
    case round =>
      obtain ⟨k, z, hk, rfl, rfl, hz0, hz1, hall⟩ := hrel
      have HALL := Lib.hid hall
      clear hall
      by_cases hlt : k < ts.length
      · obtain ⟨b, off, rfl, hc⟩ := HV.out.at_cell hlt
        have hm := HSZ.out (ts[k]?.getD ByteArray.empty) (by rw [List.getElem?_eq_getElem hlt]; exact List.getElem_mem _)
        unfold maxLen at hm
        have HT : Hid (ts.take (k + 1) = ts.take k ++ [ts[k]?.getD ByteArray.empty]) := Lib.hid (by rw [List.getElem?_eq_getElem hlt, List.take_succ_eq_append_getElem hlt]; rfl)
        generalize ts[k]?.getD ByteArray.empty = T at *
        have hi : (k : Int) < (ts.length : Int) := by omega
        have h3 : IntKind.i64.wrap (z - (T.size : Int)) = z - (T.size : Int) := IntWalk.i64_in _ (by omega)
        by_cases hn : z - (T.size : Int) < 0
        · go_wp2
          go_ret
          exact ⟨⟨_, rfl, .inl rfl⟩, rfl⟩
        · go_wp2
          go_round
          case rel => exact ⟨k + 1, z - (T.size : Int), by omega, rfl, by go_num, by omega, by omega, fun s hs => by
            rw [HT.out] at hs
            rcases List.mem_append.1 hs with hs | hs
            · exact HALL.out s hs
            · rw [List.mem_singleton.1 hs]; omega⟩
          case measure => simp [intOf]; omega
      · obtain rfl : k = ts.length := by omega
        have hall := HALL.out
        rw [List.take_length] at hall
        have HL2 := Lib.hid hl
        clear hl
        go_wp2
        go_ret
        exact ⟨⟨_, rfl, .inr ⟨hz0, HL2.out, hall⟩⟩, rfl⟩

set_option maxRecDepth 100000 in
set_option maxHeartbeats 1000000 in
theorem toStringS (v : Value) (ts : List ByteArray) (w : World) (hv : Texts w v ts) (hx : ts.length ≤ 1000000000) :
    Calls Tryz.prog 34 #[v] w (TListPost w (listed ts)) := by
  obtain ⟨a, cap, rfl, ha⟩ := hv
  obtain ⟨i0, hi0, hz0, hz1, hz2⟩ := info_parts info_str
  have HLs : Hid (∀ k, ts[k]?.getD ByteArray.empty = Pl.str ((listed ts)[k]?.getD [])) := Lib.hid (fun k => by
    unfold listed
    rw [List.getElem?_map]
    cases ts[k]? with
    | none => rfl
    | some s => exact (Pl.str_self s).symm)
  obtain ⟨xs, hxs⟩ : ∃ xs, xs = listed ts := ⟨_, rfl⟩
  have hlen : xs.length = ts.length := by rw [hxs, listed_len]
  rw [← hxs] at HLs ⊢
  obtain ⟨n, hn⟩ : ∃ n, ts.length = n := ⟨_, rfl⟩
  rw [hn] at ha hx hlen ⊢
  have HN := Lib.hid hlen
  clear hn hxs hlen
  have HH := Lib.hid ha
  clear ha
  go_enter Tryz.func34, Tryz.ntmps34
  go_wp2_with (at_make; refine wpList_make_full _ rfl _ _ 47 rfl w.heap.size 9 i0 (.string ⟨#[]⟩) 1 Tryz.underlying47 hi0 hz0 hz1 .i64 .i64 _ _ n rfl rfl rfl rfl (by rw [hz2]; omega) (by unfold maxLen; omega) (Nat.le_refl _) ?_; intro w0 hown0 hgrow0)
  have hb0 : Below w.heap.size w w0 := (Below.refl _ w).grown hgrow0 (Nat.le_refl _) (fun k e => by cases e)
  have hr0 : TRow w.heap.size w0 (.slice (some ⟨w.heap.size, 0, none⟩) n n) (xs.take 0 ++ List.replicate (n - 0) []) := by
    have e : (madeCells (Value.string ⟨#[]⟩).cells (n * 1)).toList = (List.replicate n ([] : List UInt8)).map fun l => Value.string (Pl.str l) := by
      rw [show (Value.string ⟨#[]⟩).cells = #[.string ⟨#[]⟩] from rfl, toList_madeCells_one, List.map_replicate, Nat.mul_one]; rfl
    rw [e] at hown0
    unfold TRow
    simpa using hown0
  go_loopw [4] (fun i wr => ∃ k : Nat, k ≤ n ∧ i = .int .i64 k ∧ TRow w.heap.size wr (.slice (some ⟨w.heap.size, 0, none⟩) n n) (xs.take k ++ List.replicate (n - k) []) ∧ Below w.heap.size w wr) (fun i _ => n - (intOf i).toNat)
  case atStart => exact ⟨0, Nat.zero_le _, rfl, hr0, hb0⟩
  case round =>
    clear hown0 hgrow0 hr0 hb0
    obtain ⟨k, hk, rfl, hr, hbl⟩ := hrel
    by_cases hlt : k < n
    · obtain ⟨b, off, rfl, hc⟩ := HH.out k hlt
      have hbb : b < w.heap.size := World.block_lt_of_cell? _ _ hc
      rw [HLs.out k] at hc
      have hc' := (hbl.cell (p := ⟨b, off + k, none⟩) hbb).trans hc
      have hlen : (xs.take k ++ List.replicate (n - k) ([] : List UInt8)).length = n := by have := HN.out; simp; omega
      obtain ⟨c1, c2⟩ := hr.cellAt hlen k hlt
      have hs := hr.set hlen k (xs[k]?.getD [])
      have hst := take_step xs [] k (by have := HN.out; omega)
      rw [HN.out] at hst
      rw [hst] at hs
      have HS := Lib.hid hs
      have hi : (k : Int) < (n : Int) := by omega
      clear hc hr hlen hs hst
      generalize Pl.str (xs[k]?.getD []) = T at *
      go_wp2_with fail
      go_roundw
      case rel => exact ⟨k + 1, by omega, by go_num, HS.out, hbl.setCell (p := ⟨w.heap.size, k, none⟩) (Nat.le_refl _) _⟩
      case measure => simp [intOf]; omega
    · obtain rfl : k = n := by omega
      have HR := Lib.hid hr
      clear hr
      go_wp2
      go_ret
      have := HR.out
      rw [List.take_of_length_le (by have := HN.out; omega), Nat.sub_self, List.replicate_zero, List.append_nil] at this
      exact ⟨_, rfl, this, hbl⟩

set_option maxRecDepth 100000 in
set_option maxHeartbeats 1000000 in
theorem eqStringS (u v : Value) (ts : List ByteArray) (w : World) (hu : Texts w u ts) (hv : Texts w v ts) (hx : ts.length ≤ 1000000000) :
    Calls Tryz.prog 35 #[u, v] w fun e w' => e = .returned (.bool true) ∧ Below w.heap.size w w' := by
  obtain ⟨a, cap, rfl, ha⟩ := hu
  obtain ⟨b, cbp, rfl, hb⟩ := hv
  have HA := Lib.hid ha
  have HB := Lib.hid hb
  clear ha hb
  go_enter Tryz.func35, Tryz.ntmps35
  go_wp2_with fail
  go_loopw [5] (fun i wr => ∃ (k n : Nat), k ≤ ts.length ∧ i = .int .i64 k ∧ wr = w.drewN n) (fun i _ => ts.length - (intOf i).toNat)
  case atStart => exact ⟨0, 0, Nat.zero_le _, rfl, rfl⟩
  case round =>
    obtain ⟨k, n, hk, rfl, rfl⟩ := hrel
    by_cases hlt : k < ts.length
    · obtain ⟨b1, o1, rfl, c1⟩ := HA.out k hlt
      obtain ⟨b2, o2, rfl, c2⟩ := HB.out k hlt
      clear HA HB
      generalize ts[k]?.getD ByteArray.empty = T at *
      have hTT : (T.toList == T.toList) = true := beq_self_eq_true _
      have hi1 : (k : Int) < (ts.length : Int) := by omega
      go_wp2_with fail
      go_quiet (fail)
      go_wp2
      refine ⟨⟨k + 1, n + nq, by omega, by go_num, rfl⟩, by simp [intOf]; omega⟩
    · obtain rfl : k = ts.length := by omega
      clear HA HB
      go_wp2
      go_ret
      exact ⟨rfl, drewN_below _ _⟩

/-- What lay before in another block than v's stays as it was. -/
def ElseB (v : Value) (w w' : World) : Prop := ∀ i, i < w.heap.size → v.ownBlock ≠ some i → w'.heap[i]? = w.heap[i]?

set_option maxRecDepth 100000 in
set_option maxHeartbeats 1000000 in
theorem markStringS (base : Nat) (v : Value) (ls : List (List UInt8)) (k : Nat) (w : World) (hv : TRow base w v ls) (hbase : base ≤ w.heap.size) (hx : ls.length ≤ 1000000000) (h0 : 1 ≤ k) (h1 : k ≤ 1000000000) :
    Calls Tryz.prog 36 #[v, .int .i64 k] w fun e w' => e = .returned (.int .i64 ((k + ls.length : Nat) : Int)) ∧ TRow base w' v (Pl.tmarks k ls.length) ∧ Below base w w' ∧ ElseB v w w' := by
  by_cases hl : ls.length = 0
  · obtain ⟨a, cap, rfl⟩ := hv.shape
    rw [List.length_eq_zero_iff] at hl
    subst hl
    have HV := Lib.hid hv
    clear hv
    go_enter Tryz.func36, Tryz.ntmps36
    go_wp2_with fail
    go_loopw [1, 5] (fun q i wr => q = .int .i64 k ∧ i = .int .i64 0 ∧ w = wr) (fun _ _ _ => 0)
    case atStart => exact ⟨rfl, rfl, rfl⟩
    case round =>
      obtain ⟨rfl, rfl, rfl⟩ := hrel
      go_wp2_with fail
      go_ret
      exact ⟨ret_int (by simp), HV.out, Below.refl _ _, fun _ _ _ => rfl⟩
  · obtain ⟨g, cap, rfl, hg, hgs, _, _⟩ := hv.lies (by omega)
    have HV := Lib.hid hv
    obtain ⟨n, hn⟩ : ∃ n, ls.length = n := ⟨_, rfl⟩
    rw [hn] at hx ⊢
    have HN := Lib.hid hn
    have hn1 : n ≠ 0 := by omega
    clear hv hl
    rw [hn] at HV
    clear hn
    go_enter Tryz.func36, Tryz.ntmps36
    go_wp2_with fail
    go_loopw [1, 5] (fun q i wr => ∃ j : Nat, j ≤ n ∧ q = .int .i64 ((k + j : Nat) : Int) ∧ i = .int .i64 j ∧ TRow base wr (.slice (some ⟨g, 0, none⟩) n cap) (Pl.tmarks k j ++ ls.drop j) ∧ Below base w wr ∧ (∀ i, i < w.heap.size → i ≠ g → wr.heap[i]? = w.heap[i]?)) (fun _ i _ => n - (intOf i).toNat)
    case atStart => exact ⟨0, Nat.zero_le _, by simp, rfl, by simpa [Pl.tmarks] using HV.out, Below.refl _ _, fun _ _ _ => rfl⟩
    case round =>
      obtain ⟨j, hj, rfl, rfl, hr, hbl, hel⟩ := hrel
      have HR := Lib.hid hr
      have HEL := Lib.hid hel
      clear hr hel
      by_cases hlt : j < n
      · have HM := Lib.hid (markText (k + j) (by omega) (by omega) wr)
        have hi : (j : Int) < (n : Int) := by omega
        have hkj : k + j ≤ 3000000000 := by omega
        have HK : Hid (((k + j : Nat) : Int) + 1 = ((k + (j + 1) : Nat) : Int)) := Lib.hid (by omega)
        have hlen : (Pl.tmarks k j ++ ls.drop j).length = n := by have := HN.out; simp; omega
        have HST := Lib.hid (Pl.tmarks_step k ls j (by have := HN.out; omega))
        have hszb := hbl.size
        generalize k + j = K at *
        go_wp2_with fail
        refine HM.out.mono ?_
        rintro e w5 ⟨rfl, b5⟩
        have hr5 := HR.out.below b5
        obtain ⟨c1, c2⟩ := hr5.cellAt hlen j hlt
        have hs := hr5.set hlen j (Pl.markT K)
        rw [HST.out] at hs
        have HS := Lib.hid hs
        have hb5 := hbl.trans (b5.mono (by have := hbl.size; omega))
        have HE5 : Hid (∀ i, i < w.heap.size → i ≠ g → w5.heap[i]? = w.heap[i]?) := Lib.hid (fun i hi hne => (b5.block i (Nat.lt_of_lt_of_le hi hbl.size)).trans (HEL.out i hi hne))
        clear hs hr5 HR HEL HM HST b5
        generalize Pl.str (Pl.markT K) = T at *
        go_wp2_with fail
        go_roundw
        case rel => exact ⟨j + 1, by omega, by first | exact HK.out ▸ rfl | (rw [← HK.out]), by go_num, HS.out, hb5.setCell (p := ⟨g, j, none⟩) hg _, fun i hi hne => (Below.heap_setCell _ _ _ _ hne).trans (HE5.out i hi hne)⟩
        case measure => simp [intOf]; omega
      · obtain rfl : j = n := by omega
        go_wp2_with fail
        go_ret
        refine ⟨rfl, ?_, hbl, fun i hi hne => HEL.out i hi (fun e => hne (by subst e; rfl))⟩
        have := HR.out
        rw [List.drop_of_length_le (by have := HN.out; omega), List.append_nil] at this
        exact this

set_option maxRecDepth 100000 in
set_option maxHeartbeats 2000000 in
theorem heldStringS (v : Value) (k n : Nat) (w : World) (hv : Texts w v ((Pl.tmarks k n).map Pl.str)) (hx : n ≤ 1000000000) (h0 : 1 ≤ k) (h1 : k ≤ 1000000000) :
    Calls Tryz.prog 37 #[v, .int .i64 k] w fun e w' => e = .returned (.int .i64 ((k + n : Nat) : Int)) ∧ Below w.heap.size w w' := by
  obtain ⟨a, cap, rfl, ha⟩ := hv
  rw [List.length_map, Pl.tmarks_length] at ha ⊢
  have HA := Lib.hid ha
  clear ha
  go_enter Tryz.func37, Tryz.ntmps37
  go_wp2_with fail
  go_loopw [1, 5] (fun q i wr => ∃ j : Nat, j ≤ n ∧ q = .int .i64 ((k + j : Nat) : Int) ∧ i = .int .i64 j ∧ Below w.heap.size w wr) (fun _ i _ => n - (intOf i).toNat)
  case atStart => exact ⟨0, Nat.zero_le _, by simp, rfl, Below.refl _ _⟩
  case round =>
    obtain ⟨j, hj, rfl, rfl, hbl⟩ := hrel
    by_cases hlt : j < n
    · obtain ⟨b, off, rfl, hc⟩ := HA.out j hlt
      have hT : ((Pl.tmarks k n).map Pl.str)[j]?.getD ByteArray.empty = Pl.str (Pl.markT (k + j)) := by
        rw [List.getElem?_map]
        unfold Pl.tmarks
        rw [List.getElem?_map, List.getElem?_range hlt]; rfl
      rw [hT] at hc
      have l1 : b < w.heap.size := World.block_lt_of_cell? _ _ hc
      have d1 := (hbl.cell (p := ⟨b, off + j, none⟩) l1).trans hc
      have m1 : b < wr.heap.size := Nat.lt_of_lt_of_le l1 hbl.size
      have HM := Lib.hid (fun W => markText (k + j) (by omega) (by omega) W)
      have hi : (j : Int) < (n : Int) := by omega
      have hkj : k + j ≤ 3000000000 := by omega
      have HK : Hid (((k + j : Nat) : Int) + 1 = ((k + (j + 1) : Nat) : Int)) := Lib.hid (by omega)
      clear hc hT HA
      generalize k + j = K at *
      generalize Pl.str (Pl.markT K) = T at *
      have hTT : (T.toList == T.toList) = true := beq_self_eq_true _
      go_wp2_with fail
      refine wp_region_calm (by kernel_rfl) (by kernel_rfl) ?_
      repeat (first
        | go_big_quiet_skip
        | (go_big_quiet_want
           first
             | (go_big_quiet_op; go_big_quiet_on)
             | (apply Exists.intro
                refine ⟨fun W hW => ?_, ?_⟩
                · have e1 := Below.cell hW m1 d1
                  go_simp
                  first | done | exact rfl
                simp only [Act.put, List.setIfInBounds_toArray, List.set_cons_zero, List.set_cons_succ]
                go_big_quiet_on)
             | (go_big_quiet_op
                apply Exists.intro
                refine ⟨fun W hW => Calm.call hW (HM.out _), ?_⟩
                go_big_quiet_on)))
      refine wpQuiet_nil ?_
      intro W hW
      have c7 := hbl.trans (hW.mono hbl.size)
      clear d1
      go_wp2_with fail
      go_roundw
      case rel => exact ⟨j + 1, by omega, by first | exact HK.out ▸ rfl | (rw [← HK.out]), by go_num, c7⟩
      case measure => simp [intOf]; omega
    · obtain rfl : j = n := by omega
      go_wp2_with fail
      go_ret
      exact ⟨rfl, hbl⟩

theorem SBox.apartB {w w' : World} {v : Value} {B : Nat} {T : TypeId} {cs : Array Value} (h : SBox w B T cs) (hE : ElseB v w w') (hv : v.ownBlock ≠ some B) : SBox w' B T cs := (hE B h.lt hv).trans h
theorem SBox.notTexts2 {base : Nat} {w : World} {v : Value} {ls : List (List UInt8)} (h : TRow base w v ls) {B : Nat} {T : TypeId} {cs : Array Value} (hB : SBox w B T cs) (hT : T ≠ 9) : v.ownBlock ≠ some B := fun e => by
  obtain ⟨_, cur, hh⟩ := h.block e
  unfold SBox at hB
  rw [hB] at hh
  injection hh with hh
  injection hh with _ ht _
  exact hT ht
theorem SBox.markedT {base : Nat} {w w' : World} {v : Value} {ls : List (List UInt8)} {B : Nat} {T : TypeId} {cs : Array Value} (h : SBox w B T cs) (hv : TRow base w v ls) (hE : ElseB v w w') (hT : T ≠ 9) : SBox w' B T cs := h.apartB hE (SBox.notTexts2 hv h hT)
theorem Row.apartB {base : Nat} {w w' : World} {u v : Value} {xs : List Int} (h : Row base w u xs) (hE : ElseB v w w') (hv : ∀ g, u.ownBlock = some g → v.ownBlock ≠ some g) : Row base w' u xs := by
  rcases h with ⟨h1, h2 | ⟨g, cap, cur, rfl, hg, hh, r⟩⟩
  · exact ⟨h1, .inl h2⟩
  · exact ⟨h1, .inr ⟨g, cap, cur, rfl, hg, (hE g (lt_of_heap hh) (hv g rfl)).trans hh, r⟩⟩
theorem OwnTail.markedT {base b : Nat} {w w' : World} {u v : Value} {xs : List Int} {ls : List (List UInt8)} (h : OwnTail base w u xs) (hv : TRow b w v ls) (hE : ElseB v w w') : OwnTail base w' u xs := by
  have hn : ∀ g, u.ownBlock = some g → v.ownBlock ≠ some g := fun g h1 h2 => by
    obtain ⟨_, cur, h3⟩ := h.block h1
    obtain ⟨_, cur', h4⟩ := hv.block h2
    rw [h3] at h4
    injection h4 with h4
    injection h4 with _ ht _
    exact absurd ht (by decide)
  rcases h with h | ⟨g, off, cap, capY, ys, rfl, hd, hl, hr⟩
  · exact .inl (h.apartB hE hn)
  · exact .inr ⟨g, off, cap, capY, ys, rfl, hd, hl, hr.apartB hE hn⟩
theorem TRow.apartB {base : Nat} {w w' : World} {u v : Value} {ls : List (List UInt8)} (h : TRow base w u ls) (hE : ElseB v w w') (hv : ∀ g, u.ownBlock = some g → v.ownBlock ≠ some g) : TRow base w' u ls := by
  rcases h with ⟨h1, h2 | ⟨g, cap, cur, rfl, hg, hh, r⟩⟩
  · exact ⟨h1, .inl h2⟩
  · exact ⟨h1, .inr ⟨g, cap, cur, rfl, hg, (hE g (lt_of_heap hh) (hv g rfl)).trans hh, r⟩⟩
theorem TRow.apart {base : Nat} {w w' : World} {u v : Value} {ls : List (List UInt8)} (h : TRow base w u ls) (hE : Else v w w') (hv : ∀ g, u.ownBlock = some g → v.ownBlock ≠ some g) : TRow base w' u ls := by
  rcases h with ⟨h1, h2 | ⟨g, cap, cur, rfl, hg, hh, r⟩⟩
  · exact ⟨h1, .inl h2⟩
  · exact ⟨h1, .inr ⟨g, cap, cur, rfl, hg, (hE g (hv g rfl)).trans hh, r⟩⟩
theorem TRow.markedI {base b : Nat} {w w' : World} {u v : Value} {ls : List (List UInt8)} {xs : List Int} {o : Obj} (h : TRow base w u ls) (hv : OwnTail b w v xs) (hE : Else v (w.alloc o) w') : TRow base w' u ls :=
  (h.below ((Below.refl _ w).alloc (Nat.le_refl _) o)).apart hE fun g h1 h2 => by
    obtain ⟨_, cur, h3⟩ := h.block h1
    obtain ⟨_, cur', h4⟩ := hv.block h2
    rw [h4] at h3
    injection h3 with h3
    injection h3 with _ ht _
    exact absurd ht (by decide)
/-- Texts that came later lie elsewhere. -/
theorem TRow.far {base b : Nat} {w w' : World} {u v : Value} {xs ys : List (List UInt8)} (hu : TRow base w u xs) (hv : TRow b w' v ys) (h : w'.heap.size ≤ base) : ∀ g, u.ownBlock = some g → v.ownBlock ≠ some g := fun g h1 h2 => by
  obtain ⟨h3, _⟩ := hu.block h1
  obtain ⟨_, cur, h4⟩ := hv.block h2
  have := lt_of_heap h4
  omega
theorem TRow.near {base b : Nat} {w w' : World} {u v : Value} {xs ys : List (List UInt8)} (hu : TRow b w u xs) (hv : TRow base w' v ys) (h : w.heap.size ≤ base) : ∀ g, u.ownBlock = some g → v.ownBlock ≠ some g := fun g h1 h2 => (TRow.far hv hu h) g h2 h1

end Go.Proofs.YtgkkoegfmhgcjaaGreatDoor
