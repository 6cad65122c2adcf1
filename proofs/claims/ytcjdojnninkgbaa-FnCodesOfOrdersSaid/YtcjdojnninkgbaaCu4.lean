/- The draw of a code. -/
import Derived.Test.YtcjdojnninkgbaaCu3
namespace Go.Proofs.Ytcjdojnninkgbaa
open Go Go.RowKit

theorem rowThree (w : World) (x0 x1 x2 : Int) : RI (w.alloc (.cells #[.int .i64 x0, .int .i64 x1, .int .i64 x2] 3)) (some ⟨w.heap.size, 0, none⟩) 3 [x0, x1, x2] :=
  ⟨rfl, fun _ => ⟨w.heap.size, 0, rfl, by simp, fun j hj => by
    match j, hj with
    | 0, _ => simp [gi]
    | 1, _ => simp [gi]
    | 2, _ => simp [gi]⟩⟩

theorem madeI (n : Nat) : (madeCells (Value.int .i64 0).cells (n * 1)).toList = I (List.replicate n 0) := by
  apply List.ext_getElem?
  intro j
  by_cases hj : j < n
  · simp [madeCells, Value.cells, hj, I, Nat.mod_one]
  · rw [List.getElem?_eq_none (by simp [size_madeCells]; omega), List.getElem?_eq_none (by simp [I]; omega)]

set_option maxRecDepth 100000 in
set_option maxHeartbeats 1000000 in
theorem drawOrderOfCode_any (A : Option Addr) (n c : Nat) (bs : List Int) (w : World) (h : BI w A n bs) (hn : n ≤ 1048576) : Calls Try.prog 15 #[.slice A n c] w (FreshD1 w 9) := by
  have HC := Lib.hid (Cur.new w A n c bs 45 h)
  have HLOW : Hid (∀ x, blk A = some x → 0 < n → x < w.heap.size) := fun x hx h0 => by
    obtain ⟨g, off, rfl, hg, _⟩ := h.2.2 h0
    simp [blk] at hx
    omega
  clear h
  go_enter Try.func15, Try.ntmps15
  go_wp2_with fail
  obtain ⟨w0, hw0⟩ : ∃ w0, w0 = w.alloc (.cells #[.slice A n c, .int .i64 0, .int .u64 0] 45) := ⟨_, rfl⟩
  have HS : Hid (w0.heap.size = w.heap.size + 1) := by show w0.heap.size = _; rw [hw0, World.size_alloc]
  have HW : Hid (w0 = w.alloc (.cells #[.slice A n c, .int .i64 0, .int .u64 0] 45)) := hw0
  rw [← hw0] at HC ⊢
  obtain ⟨b, hb⟩ : ∃ b, b = w.heap.size := ⟨_, rfl⟩
  rw [← hb] at HC HS HLOW ⊢
  have HBE : Hid (b = w.heap.size) := hb
  clear hw0 hb
  refine (pick_any b A n c bs 0 6 _ HC.out hn (by omega) (by omega)).mono ?_
  rintro e w1 ⟨v, rfl, v0, v1, hc, hg⟩
  rw [if_pos (by decide)] at v1
  obtain ⟨q, rfl⟩ : ∃ q : Nat, v = q := ⟨v.toNat, by omega⟩
  have hq : q ≤ 5 := by omega
  have HC1 := Lib.hid hc
  have HG1 := Lib.hid hg
  clear hc hg HC
  go_wp2_with fail
  go_loopw [4, 5] (fun s4 i wr => ∃ (k l : Nat) (zs : List Int) (AO : Option Addr) (co : Nat), i = .int .i64 (k : Int) ∧ k + l = 1 + q ∧ s4 = .slice AO l co ∧ OI wr w0.heap.size AO l co zs ∧ Cur wr b A n c bs (2 + 2 * l) ∧ w0.grownBy wr (some b)) (fun _ i _ => (intOf i).toNat)
  case atStart => exact ⟨1 + q, 0, [], none, 0, by go_num, rfl, rfl, OI.none_ _ _, HC1.out, HG1.out⟩
  case round =>
    obtain ⟨k, l, zs, AO, co, rfl, hkl, rfl, ho, hc, hg⟩ := hrel
    have HKL := Lib.hid hkl
    have hk6 : (k : Int) ≤ 6 := by omega
    have hl6 : (l : Int) ≤ 6 := by omega
    have HO := Lib.hid ho
    have HC := Lib.hid hc
    have HG := Lib.hid hg
    clear ho hc hg HC1 HG1 hkl
    by_cases hlt : 0 < k
    · go_wp2_with fail
      refine (pick_any b A n c bs (2 + 2 * l) (k : Int) _ HC.out hn (by omega) (by omega)).mono ?_
      rintro e w2 ⟨x, rfl, x0, x1, hc, hg⟩
      have HO2 : Hid (OI w2 w0.heap.size AO l co zs) := HO.out.kept hg (fun x hx e => by have := (HO.out.blk x hx).1; have := HS.out; injection e with e; omega)
      have HC2 := Lib.hid hc
      have HG2 := Lib.hid (grownTr HG.out hg)
      clear hc hg HC HG HO x1
      go_wp2_with (at_builtin; refine wpList_append_ints _ rfl _ _ rfl w0.heap.size AO l co zs (some ⟨w2.heap.size, 0, none⟩) 1 1 [x] rfl rfl (HO2.out.alloc _) (RI.singC _ _) (by omega) (by omega) (by have := HG2.out.size; simp; omega) ?_; intro A4 c4 w4 ho4 hg4; have O4 := Lib.hid ho4; have HC4 : Hid (Cur w4 b A n c bs (2 + 2 * l + 2)) := (HC2.out.below (allocBel _ _)).grownOwn (HO2.out.alloc _) (by have := HS.out; omega) (fun y hy h0 => by have := HLOW.out y hy h0; have := HS.out; omega) hg4; have HG4 : Hid (w0.grownBy w4 (some b)) := grownOwn (grown_below HG2.out (allocBel _ _)) (HO2.out.alloc _) (Nat.le_refl _) hg4; clear ho4 hg4)
      exact ⟨⟨k - 1, l + 1, _, A4, c4, by go_num, by have := HKL.out; omega, rfl, O4.out, HC4.out, HG4.out⟩, by simp [intOf] <;> omega⟩
    · obtain rfl : k = 0 := by omega
      obtain rfl : l = 1 + q := by have := HKL.out; omega
      go_wp2_with fail
      refine (pick_any b A n c bs (2 + 2 * (1 + q)) 12 _ HC.out hn (by omega) (by omega)).mono ?_
      rintro e w3 ⟨v, rfl, v0, v1, hc, hg⟩
      have HO3 : Hid (OI w3 w0.heap.size AO (1 + q) co zs) := HO.out.kept hg (fun x hx e => by have := (HO.out.blk x hx).1; have := HS.out; injection e with e; omega)
      have HC3 := Lib.hid (hc.le (show _ ≤ 20 by omega))
      have HG3 := Lib.hid (grownTr HG.out hg)
      clear hc hg HC HG HO v1
      have hfin : ∀ w9 : World, w0.grownBy w9 (some b) → Below w.heap.size w w9 := fun w9 h9 => by
        have h8 := HW.out
        rw [h8, HBE.out] at h9
        exact belOfCur h9
      have HFIN := Lib.hid hfin
      have HM : Hid (w.heap.size ≤ w0.heap.size) := by show _ ≤ w0.heap.size; have := HS.out; have := HBE.out; omega
      clear hfin
      by_cases hv0 : v = 0
      · subst hv0
        obtain ⟨g, rfl⟩ : ∃ g, AO = some ⟨g, 0, none⟩ := by
          have h3 := HO3.out
          rw [show 1 + q = q + 1 by omega] at h3
          obtain ⟨g, e, _⟩ := h3.some_
          exact ⟨g, e⟩
        go_wp2_with fail
        refine (pick_any b A n c bs 20 (1 + (q : Int)) _ HC3.out hn (by omega) (by omega)).mono ?_
        rintro e w4 ⟨v, rfl, v0, v1, hc, hg⟩
        have hv : v < 1 + q := by
          by_cases h2 : 1 < 1 + (q : Int)
          · rw [if_pos h2] at v1; omega
          · rw [if_neg h2] at v1; omega
        obtain ⟨j, rfl⟩ : ∃ j : Nat, v = j := ⟨v.toNat, by omega⟩
        have hj : j < 1 + q := by omega
        have HO4 : Hid (OI w4 w0.heap.size (some ⟨g, 0, none⟩) (1 + q) co zs) := HO3.out.kept hg (fun x hx e => by have := (HO3.out.blk x hx).1; have := HS.out; injection e with e; omega)
        have HC4 := Lib.hid hc
        have HG4 := Lib.hid (grownTr HG3.out hg)
        clear hc hg HC3 HG3 HO3 v1
        go_wp2_with fail
        refine (among_any b A n c bs 22 (some ⟨w4.heap.size, 0, none⟩) 3 3 [-1, 1 + (q : Int), 4611686018427387904] _ (HC4.out.below (allocBel _ _)) hn (by omega) (rowThree _ _ _ _) (by omega) (by omega) (by simp [blk]; have := HC4.out.lt; omega)).mono ?_
        rintro e w5 ⟨i, rfl, hi, hc, hg⟩
        obtain ⟨x, hx⟩ : ∃ x, x = gi [-1, 1 + (q : Int), 4611686018427387904] i := ⟨_, rfl⟩
        rw [← hx]
        have HO5 : Hid (OI w5 w0.heap.size (some ⟨g, 0, none⟩) (1 + q) co zs) := (HO4.out.alloc _).kept hg (fun x hx e => by have := (HO4.out.blk x hx).1; have := HS.out; injection e with e; omega)
        have HG5 := Lib.hid (grownTr (grown_below HG4.out (allocBel _ _)) hg)
        clear hc hg HC4 HG4 HO4 hx hi
        have hfj : w5.frozen? ⟨g, j, none⟩ = false := HO5.out.2.frozenAt j
        have hcj := HO5.out.cells j hj
        go_wp2
        go_ret
        have hs := HO5.out.stored j x
        have gS := grown_setCell (g := g) (grown_refl w5 _) (.inl rfl) (Value.int .i64 x) (p := ⟨g, j, none⟩)
        exact ⟨_, some ⟨g, 0, none⟩, 1 + q, co, rfl, by omega, hs.mono HM.out, HFIN.out _ (grownOwn HG5.out HO5.out (Nat.le_refl _) gS)⟩
      by_cases hv1 : v = 1
      · subst hv1
        clear hv0
        go_wp2
        go_ret
        exact ⟨[], none, 0, 0, rfl, by omega, OI.none_ _ _, HFIN.out _ HG3.out⟩
      by_cases hv2 : v = 2
      · subst hv2
        clear hv0 hv1
        go_wp2_with fail
        refine (pick_any b A n c bs 20 2 _ HC3.out hn (by omega) (by omega)).mono ?_
        rintro e w4 ⟨v, rfl, v0, v1, hc, hg⟩
        rw [if_pos (by decide)] at v1
        obtain ⟨r, rfl⟩ : ∃ r : Nat, v = r := ⟨v.toNat, by omega⟩
        have hr : r ≤ 1 := by omega
        have HG4 := Lib.hid (grownTr HG3.out hg)
        clear hc hg HC3 HG3
        obtain ⟨i0, hi0, hz0, hz1, hz2⟩ := info_parts infoInt
        go_wp2_with (at_make; go_must (refine wpList_make_full _ rfl _ _ 24 rfl w0.heap.size 3 i0 (.int .i64 0) 1 Try.underlying24 hi0 hz0 hz1 .i64 .i64 _ _ (8 + r) rfl rfl (by first | omega | simp) (by first | omega | simp) (by rw [hz2]; omega) (by unfold maxLen; omega) HG4.out.size ?_); intro w6 hown6 hg6)
        go_ret
        have h6 : OI w6 w0.heap.size (some ⟨w4.heap.size, 0, none⟩) (8 + r) (8 + r) (List.replicate (8 + r) 0) := ⟨by simp, by
          rw [madeI] at hown6
          exact hown6⟩
        exact ⟨_, some ⟨w4.heap.size, 0, none⟩, 8 + r, 8 + r, rfl, by omega, h6.mono HM.out, HFIN.out _ (grown_below HG4.out (Below.of_grown (A := none) hg6 (fun b h => by simp [blk] at h) (Nat.le_refl _)))⟩
      · go_wp2
        go_ret
        exact ⟨zs, AO, 1 + q, co, rfl, by omega, HO3.out.mono HM.out, HFIN.out _ HG3.out⟩
end Go.Proofs.Ytcjdojnninkgbaa
