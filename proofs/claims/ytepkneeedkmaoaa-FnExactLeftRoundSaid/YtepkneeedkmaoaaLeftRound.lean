/-
  impl.LeftRound, spec.LeftRound: the round into which what is left leads, and the steps ahead of it: what they answer.
-/
import Derived.Test.YtepkneeedkmaoaaAlike
import Derived.Deep.RegionWith
namespace Go.Proofs.Ytepkneeedkmaoaa
open Go.RowKit Go.Shelf

set_option maxHeartbeats 800000 in
theorem sliceIndexAt (v : Value) (xs : List Int) (x : Int) (w : World) (hv : Ints w v xs) (hx : xs.length ≤ 1000000000) :
    Calls Try.prog 55 #[v, .int .i64 x] w fun e w' => (∃ i : Int, e = .returned (.int .i64 i) ∧ ((x ∉ xs ∧ i = -1) ∨ ∃ k : Nat, i = (k : Int) ∧ k < xs.length ∧ xs[k]?.getD 0 = x ∧ ∀ j, j < k → xs[j]?.getD 0 ≠ x)) ∧ w = w' := by
  obtain ⟨a, cap, rfl, ha⟩ := hv
  go_enter Try.func55, Try.ntmps55
  go_wp2
  go_loop [5, 8] (fun _ i => ∃ k : Nat, k ≤ xs.length ∧ i = .int .i64 k ∧ (∀ j, j < k → xs[j]?.getD 0 ≠ x)) (fun _ i => xs.length - (intOf i).toNat)
  case atStart => exact ⟨0, Nat.zero_le _, rfl, fun j hj => by omega⟩
  case round =>
    obtain ⟨k, hk, rfl, hno⟩ := hrel
    have HNO := Lib.hid hno
    clear hno
    by_cases hlt : k < xs.length
    · obtain ⟨b1, o1, rfl, c1⟩ := ha k hlt
      clear ha
      obtain ⟨p, hp⟩ : ∃ p, xs[k]?.getD 0 = p := ⟨_, rfl⟩
      rw [hp] at c1
      have HP := Lib.hid hp
      clear hp
      have hi : (k : Int) < (xs.length : Int) := by omega
      by_cases he : p = x
      · have hb : (x == p) = true := by simp [he]
        have HE := Lib.hid he
        clear he
        go_wp2
        go_ret
        exact ⟨⟨_, rfl, .inr ⟨k, rfl, hlt, by rw [HP.out, HE.out], HNO.out⟩⟩, rfl⟩
      · have hb : (x == p) = false := by simp; exact fun h => he h.symm
        have HE := Lib.hid he
        clear he
        go_wp2
        go_round
        case rel => exact ⟨k + 1, by omega, by simp, fun j hj => by
          by_cases h : j = k
          · subst h; rw [HP.out]; exact HE.out
          · exact HNO.out j (by omega)⟩
        case measure => simp [intOf]; omega
    · obtain rfl : k = xs.length := by omega
      have hi : ¬ (xs.length : Int) < (xs.length : Int) := by omega
      clear ha
      go_wp2
      go_ret
      exact ⟨⟨_, rfl, .inl ⟨not_mem_of HNO.out, rfl⟩⟩, rfl⟩

/-- The end of a row of a call's own. -/
def RowTail (base : Nat) (W : World) (v : Value) (xs : List Int) : Prop :=
  ∃ g off cap capY ys, v = .slice (some ⟨g, off, none⟩) xs.length cap ∧ ys.drop off = xs ∧ off + xs.length = ys.length ∧ Row base W (.slice (some ⟨g, 0, none⟩) ys.length capY) ys

theorem tail_get {ys xs : List Int} {off : Nat} (h : ys.drop off = xs) (j : Nat) : ys[off + j]?.getD 0 = xs[j]?.getD 0 := by
  rw [← h, List.getElem?_drop]

theorem RowTail.ints {base : Nat} {W : World} {v : Value} {xs : List Int} (h : RowTail base W v xs) : Ints W v xs := by
  obtain ⟨g, off, cap, capY, ys, rfl, hd, hl, hr⟩ := h
  refine ⟨_, cap, rfl, fun j hj => ⟨g, off, rfl, ?_⟩⟩
  rw [(hr.cellAt rfl (off + j) (by omega)).1, tail_get hd]

theorem RowTail.below {base : Nat} {W W' : World} {v : Value} {xs : List Int} (h : RowTail base W v xs) (hb : Below W.heap.size W W') : RowTail base W' v xs := by
  obtain ⟨g, off, cap, capY, ys, rfl, hd, hl, hr⟩ := h
  exact ⟨g, off, cap, capY, ys, rfl, hd, hl, hr.below hb⟩

theorem implLeftNo (n v b : Int) (h : ¬ Pl.wideB n v b = true) (w : World) :
    Calls Try.prog 32 #[.int .i64 n, .int .i64 v, .int .i64 b] w fun e w' => e = .returned (.tuple #[.slice none 0 0, .int .i64 (-1), .bool false]) ∧ Below w.heap.size w w' := by
  have h' : Pl.wideB n v b = false := by simpa using h
  clear h
  go_enter Try.func32, Try.ntmps32
  go_wp2_with (go_at_call 16; refine (implWideOk _ _ _ _).mono ?_; rintro e w1 ⟨rfl, b1⟩; rw [h'])
  go_ret3
  exact ⟨rfl, b1⟩

theorem specLeftNo (n v b : Int) (h : ¬ Pl.wideB n v b = true) (w : World) :
    Calls Try.prog 33 #[.int .i64 n, .int .i64 v, .int .i64 b] w fun e w' => ∃ u, e = .returned (.tuple #[u, .int .i64 (-1), .bool false]) ∧ Row w.heap.size w' u [] ∧ Below w.heap.size w w' := by
  have h' : Pl.wideB n v b = false := by simpa using h
  clear h
  go_enter Try.func33, Try.ntmps33
  go_wp2_with (go_at_call 17; refine (specWideOk _ _ _ _).mono ?_; rintro e w1 ⟨rfl, rfl⟩; rw [h'])
  go_ret3
  exact ⟨_, rfl, row_empty w, (Below.refl _ _).alloc (Nat.le_refl _) _⟩

theorem width_box' {w w1 : World} {B : Nat} {v b : Int} (hB : B ≤ w.heap.size) (h : Below (w.heap.size + 1) (w.alloc (.cells #[.int .i64 v, .int .i64 b] 42)) w1) :
    w1.cell? ⟨w.heap.size, 0, none⟩ = some (.int .i64 v) ∧ w1.cell? ⟨w.heap.size, 1, none⟩ = some (.int .i64 b) ∧ Below B w w1 :=
  ⟨(width_box h).1, (width_box h).2.1, (width_box h).2.2.mono hB⟩

set_option maxRecDepth 100000 in
set_option maxHeartbeats 4000000 in
theorem implLeftYes (x v b mu p : Nat) (h1 : 2 ≤ b) (h2 : b ≤ 16) (h3 : 2 ≤ v) (h4 : v ≤ 6) (hx : x < b ^ v) (hrho : Pl.Rho (Pl.leftN b v) x mu p) (hp : mu + p ≤ 16777216) (w : World) :
    Calls Try.prog 32 #[.int .i64 x, .int .i64 v, .int .i64 b] w fun e w' => ∃ u, e = .returned (.tuple #[u, .int .i64 mu, .bool true]) ∧ RowTail w.heap.size w' u (Pl.ints (Pl.orb (Pl.leftN b v) x mu p)) ∧ Below w.heap.size w w' := by
  have hok : Pl.wideB x v b = true := Pl.wideB_of h1 h2 h3 h4 hx
  have hp1 := hrho.pos
  have hlt := Pl.iter_left_lt h1 hx
  obtain ⟨i0, hi0, hz0, hz1, hz2⟩ := info_parts info_int
  have HF : Hid (∀ i W, Calls Try.prog 52 #[.agg #[.int .i64 v, .int .i64 b], .int .i64 ((Pl.iter (Pl.leftN b v) i x : Nat) : Int)] W fun e w' => e = .returned (.int .i64 ((Pl.iter (Pl.leftN b v) (i + 1) x : Nat) : Int)) ∧ Below W.heap.size W w') := Lib.hid fun i W => widthLeft _ v b h1 h2 h3 h4 (hlt i) W
  obtain ⟨OUT, hOUT⟩ : ∃ OUT, Pl.ints (Pl.orb (Pl.leftN b v) x mu p) = OUT := ⟨_, rfl⟩
  have HO := Lib.hid hOUT
  rw [hOUT]
  clear hOUT hlt hx h1 h2 h3 h4
  generalize Pl.leftN b v = f at *
  go_enter Try.func32, Try.ntmps32
  go_wp2_with (go_at_call 16; refine (implWideOk _ _ _ _).mono ?_; rintro e w1 ⟨rfl, b1⟩; rw [hok])
  have hs1 := b1.size
  have hb0 : Below (w1.heap.size + 1) (w1.alloc (.cells #[.int .i64 v, .int .i64 b] 42)) ((w1.alloc (.cells #[.int .i64 v, .int .i64 b] 42)).alloc (.cells #[.int .i64 x] 3)) := (Below.refl _ _).alloc (by simp) _
  have r1 : Row (w1.heap.size + 1) ((w1.alloc (.cells #[.int .i64 v, .int .i64 b] 42)).alloc (.cells #[.int .i64 x] 3)) (.slice (some ⟨w1.heap.size + 1, 0, none⟩) 1 1) (Pl.ints (Pl.pre f x 1)) := by
    have := row_one' (w1.heap.size + 1) (w1.alloc (.cells #[.int .i64 v, .int .i64 b] 42)) (x : Int) (by simp)
    simp only [World.size_alloc] at this
    exact this
  go_loopg [10, 11, 12] (mu + p - 1) (fun g sn _ _ wr => ∃ (m : Nat) (vv : Value), vv = sn ∧ 1 ≤ m ∧ m + g = mu + p ∧ Row (w1.heap.size + 1) wr vv (Pl.ints (Pl.pre f x m)) ∧ Below (w1.heap.size + 1) (w1.alloc (.cells #[.int .i64 v, .int .i64 b] 42)) wr)
  case atStart => exact ⟨1, _, rfl, by omega, by omega, r1, hb0⟩
  case round =>
    clear r1 hb0
    obtain ⟨m, vv, rfl, hm1, hmg, hr, hbw⟩ := hrel
    have hlen : (Pl.ints (Pl.pre f x m)).length = m := by rw [Pl.ints_len, Pl.pre_len]
    obtain ⟨g, cap, rfl, hgb, hgl, hcap, hcm, hcell⟩ := hr.lies (by omega)
    have HR := Lib.hid hr
    rw [hlen] at HR hcap hcell ⊢
    have hc1 := hcell (m - 1) (by omega)
    rw [pre_cell (by omega)] at hc1
    have hcall := HF.out (m - 1)
    rw [show m - 1 + 1 = m by omega] at hcall
    have HCALL := Lib.hid hcall
    have i1 : (0 : Int) ≤ (m : Int) - 1 := by omega
    have i2 : (m : Int) - 1 < (m : Int) := by omega
    have i3 : ((m : Int) - 1).toNat = m - 1 := by omega
    have i4 : IntKind.i64.wrap ((m : Int) - 1) = (m : Int) - 1 := IntWalk.i64_in _ (by omega)
    have HIX : Hid (∀ j, j < m → (Pl.ints (Pl.pre f x m))[j]?.getD 0 = ((Pl.iter f j x : Nat) : Int)) := Lib.hid fun j hj => pre_cell hj
    obtain ⟨c0, c1, hB⟩ := width_box' (Nat.le_refl _) hbw
    have hgd := hbw.size
    simp only [World.size_alloc] at hgd
    clear hcell hr hcall
    generalize hY : Pl.iter f (m - 1) x = Y at *
    clear hY
    generalize hZ : Pl.iter f m x = Z at *
    have HZ := Lib.hid hZ
    clear hZ
    go_wp2_with fail
    go_region_with (go_at_call 52; refine (HCALL.out _).mono ?_; rintro e w2 ⟨rfl, b2⟩)
    all_goals
      have hb2 : Below (w1.heap.size + 1) (w1.alloc (.cells #[.int .i64 v, .int .i64 b] 42)) w2 := hbw.trans (((Below.refl _ wr).drew).trans (b2.mono (by show w1.heap.size + 1 ≤ wr.heap.size; omega)))
      have hr2 : Row (w1.heap.size + 1) w2 (.slice (some ⟨g, 0, none⟩) m cap) (Pl.ints (Pl.pre f x m)) := Row.below (w := wr.drew) HR.out b2
      have HIDX := Lib.hid (sliceIndexAt _ _ (Z : Int) w2 hr2.ints (by rw [hlen]; omega))
      have HR2 := Lib.hid hr2
      have hs2 := hb2.size
      simp only [World.size_alloc] at hs2
      clear hr2 b2 hc1 HCALL i1 i2 i3 i4 c0 c1 HR
      by_cases hm : m = mu + p
      · subst hm
        have hZi : ∃ k : Nat, k < mu + p ∧ (Pl.ints (Pl.pre f x (mu + p)))[k]?.getD 0 = (Z : Int) ∧ k = mu := ⟨mu, by omega, by rw [HIX.out mu (by omega), ← HZ.out, hrho.back], rfl⟩
        have hmem : (Z : Int) ∈ Pl.ints (Pl.pre f x (mu + p)) := by
          obtain ⟨k, hk, hkz, _⟩ := hZi
          rw [List.getElem?_eq_getElem (by omega), Option.getD_some] at hkz
          rw [← hkz]; exact List.getElem_mem _
        have HUN : Hid (∀ k : Nat, k < mu + p → (Pl.ints (Pl.pre f x (mu + p)))[k]?.getD 0 = (Z : Int) → (∀ j, j < k → (Pl.ints (Pl.pre f x (mu + p)))[j]?.getD 0 ≠ (Z : Int)) → k = mu) := Lib.hid fun k hk hkz hkno => by
          rw [HIX.out k hk, ← HZ.out] at hkz
          have hkz' : Pl.iter f k x = Pl.iter f (mu + p) x := by omega
          rw [hrho.back] at hkz'
          rcases Nat.lt_trichotomy k mu with hlt | he | hlt
          · exact absurd hkz' (hrho.inj k mu hlt (by omega))
          · exact he
          · exfalso
            refine hkno mu hlt ?_
            rw [HIX.out mu (by omega), ← HZ.out, hrho.back]
        have HMEM := Lib.hid hmem
        have HDROP : Hid ((Pl.ints (Pl.pre f x (mu + p))).drop mu = OUT) := Lib.hid (by rw [← ints_drop, Pl.pre_drop]; exact HO.out)
        have hol : OUT.length = p := by rw [← HO.out, Pl.ints_len, Pl.orb_len]
        have HLEN := Lib.hid hlen
        clear hmem hZi HO HIX hlen
        generalize Pl.ints (Pl.pre f x (mu + p)) = L at *
        go_wp2_with fail
        refine HIDX.out.mono ?_
        rintro e w' ⟨⟨i, rfl, hcase⟩, rfl⟩
        have hi : i = (mu : Int) := by
          rcases hcase with ⟨hno, _⟩ | ⟨k, rfl, hk, hkx, hkno⟩
          · exact absurd HMEM.out hno
          · rw [HUN.out k (by have := HLEN.out; omega) hkx hkno]
        subst hi
        clear hcase
        have hcm1 : ¬ cap = mu := by omega
        go_wp2_with fail
        go_ret3
        refine ⟨_, rfl, ⟨g, mu, cap - mu, cap, L, ?_, HDROP.out, by rw [hol, HLEN.out], ?_⟩, b1.trans (((Below.refl w1.heap.size w1).alloc (Nat.le_refl _) _ |>.trans (hb2.mono (by omega))).mono hs1)⟩
        · rw [hol]; simp
        · rw [HLEN.out]; exact HR2.out.mono (by omega)
      · have HNM : Hid ((Z : Int) ∉ Pl.ints (Pl.pre f x m)) := Lib.hid (not_mem_of fun j hj => by
          rw [hlen] at hj
          rw [HIX.out j hj, ← HZ.out]
          intro he
          exact hrho.inj j m hj (by omega) (by omega))
        have HS := Lib.hid (Pl.pre_succ f x m)
        rw [HZ.out] at HS
        have F3 := Lib.hid (Pl.ints_snoc (Pl.pre f x m) Z)
        clear HIX HO
        generalize Pl.pre f x m = L0 at *
        generalize Pl.ints L0 = L at *
        have hrw : w2.ownsRow (w1.heap.size + 1) 3 1 (.slice (some ⟨g, 0, none⟩) m cap) L.length (L.map (Value.int .i64)) := HR2.out
        go_wp2_with fail
        refine HIDX.out.mono ?_
        rintro e w' ⟨⟨i, rfl, hcase⟩, rfl⟩
        have hi : i = -1 := by
          rcases hcase with ⟨_, h⟩ | ⟨k, rfl, hk, hkx, hkno⟩
          · exact h
          · exfalso
            refine HNM.out ?_
            rw [List.getElem?_eq_getElem hk, Option.getD_some] at hkx
            rw [← hkx]; exact List.getElem_mem _
        subst hi
        clear hcase
        go_wp2_with (at_builtin; refine wpList_append_own _ rfl _ _ 30 rfl (w1.heap.size + 1) 3 i0 (.int .i64 0) 1 8 Try.underlying30 hi0 hz0 hz1 hz2 rfl (by decide) _ _ _ rfl (hrw.alloc _) ⟨w2.heap.size, 0, none⟩ 1 1 [.int .i64 (Z : Int)] rfl rfl (cell_one_new _ _ _) (by simp [Value.oneCell']) (by unfold maxLen; omega) (by omega) (by simp; omega) ?_; intro v6 w6 hown6 hgrow6 _)
        go_roundg (mu + p - (m + 1))
        case measure => omega
        case rel => exact ⟨m + 1, _, rfl, by omega, by omega, by rw [HS.out, F3.out]; exact row_snoc hown6, below_append (hb2.alloc (by omega) _) (hrw.alloc _) hgrow6 (by simp)⟩

end Go.Proofs.Ytepkneeedkmaoaa
