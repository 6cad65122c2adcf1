/- The draw of an order, at times of another list. -/
import Derived.Test.YtcjdojnninkgbaaCu2
namespace Go.Proofs.Ytcjdojnninkgbaa
open Go Go.RowKit

theorem rowFour (w : World) (x0 x1 x2 x3 : Int) : RI (w.alloc (.cells #[.int .i64 x0, .int .i64 x1, .int .i64 x2, .int .i64 x3] 3)) (some ⟨w.heap.size, 0, none⟩) 4 [x0, x1, x2, x3] :=
  ⟨rfl, fun _ => ⟨w.heap.size, 0, rfl, by simp, fun j hj => by
    match j, hj with
    | 0, _ => simp [gi]
    | 1, _ => simp [gi]
    | 2, _ => simp [gi]
    | 3, _ => simp [gi]⟩⟩

set_option maxRecDepth 100000 in
set_option maxHeartbeats 1000000 in
theorem order_any (b : Nat) (A : Option Addr) (n c : Nat) (bs : List Int) (k0 : Nat) (w : World) (h : Cur w b A n c bs k0) (hn : n ≤ 1048576) (hk : k0 ≤ 1000000) :
    Calls Try.prog 27 #[.pointer (some ⟨b, 0, none⟩)] w (DrawnI w b A n c bs (k0 + 40) 9) := by
  have hbw := h.lt
  have HLOW := Lib.hid h.low
  have HC0 := Lib.hid h
  clear h
  go_enter Try.func27, Try.ntmps27
  go_wp2_with fail
  refine (pick_any b A n c bs k0 6 _ HC0.out hn (by omega) (by omega)).mono ?_
  rintro e w1 ⟨v, rfl, v0, v1, hc, hg⟩
  rw [if_pos (by decide)] at v1
  obtain ⟨q, rfl⟩ : ∃ q : Nat, v = q := ⟨v.toNat, by omega⟩
  have hq : q ≤ 5 := by omega
  have HC1 := Lib.hid hc
  have HG1 := Lib.hid hg
  clear hc hg HC0
  go_wp2_with fail
  have hs := sureOrder_any b A n c bs (k0 + 2) (1 + q) w1 HC1.out hn (by omega) (by omega)
  rw [show ((1 + q : Nat) : Int) = 1 + (q : Int) by omega] at hs
  refine hs.mono ?_
  clear hs
  rintro e w2 ⟨zs, A2, c2, rfl, ho, hc, hg⟩
  have HO := Lib.hid ho
  have HC2 := Lib.hid (hc.le (show k0 + 2 + 2 * (1 + q) ≤ k0 + 14 by omega))
  have HG2 := Lib.hid (grownTr HG1.out hg)
  have H1 := Lib.hid HG1.out.size
  clear hc hg ho HC1 HG1
  go_wp2_with fail
  refine (pick_any b A n c bs (k0 + 14) 14 _ HC2.out hn (by omega) (by omega)).mono ?_
  rintro e w3 ⟨v, rfl, v0, v1, hc, hg⟩
  have HO3 : Hid (OI w3 w.heap.size A2 (1 + q) c2 zs) := (HO.out.mono H1.out).kept hg (fun x hx e => by have := ((HO.out.mono H1.out).blk x hx).1; injection e with e; omega)
  have HC3 := Lib.hid hc
  have HG3 := Lib.hid (grownTr HG2.out hg)
  clear hc hg HC2 HG2 HO v1
  by_cases hv0 : v = 0
  · subst hv0
    obtain ⟨g, rfl⟩ : ∃ g, A2 = some ⟨g, 0, none⟩ := by
      have h3 := HO3.out
      rw [show 1 + q = q + 1 by omega] at h3
      obtain ⟨g, e, _⟩ := h3.some_
      exact ⟨g, e⟩
    go_wp2_with fail
    refine (pick_any b A n c bs (k0 + 14 + 2) (1 + (q : Int)) _ HC3.out hn (by omega) (by omega)).mono ?_
    rintro e w4 ⟨v, rfl, v0, v1, hc, hg⟩
    have hv : v < 1 + q := by
      by_cases h2 : 1 < 1 + (q : Int)
      · rw [if_pos h2] at v1; omega
      · rw [if_neg h2] at v1; omega
    obtain ⟨j, rfl⟩ : ∃ j : Nat, v = j := ⟨v.toNat, by omega⟩
    have hj : j < 1 + q := by omega
    have HO4 : Hid (OI w4 w.heap.size (some ⟨g, 0, none⟩) (1 + q) c2 zs) := HO3.out.kept hg (fun x hx e => by have := (HO3.out.blk x hx).1; injection e with e; omega)
    have HC4 := Lib.hid hc
    have HG4 := Lib.hid (grownTr HG3.out hg)
    clear hc hg HC3 HG3 HO3 v1
    go_wp2_with fail
    refine (among_any b A n c bs (k0 + 14 + 2 + 2) (some ⟨w4.heap.size, 0, none⟩) 4 4 [-1, 0, 1 + (q : Int), 4611686018427387904] _ (HC4.out.below (allocBel _ _)) hn (by omega) (rowFour _ _ _ _ _) (by omega) (by omega) (by simp [blk]; have := HC4.out.lt; omega)).mono ?_
    rintro e w5 ⟨i, rfl, hi, hc, hg⟩
    obtain ⟨x, hx⟩ : ∃ x, x = gi [-1, 0, 1 + (q : Int), 4611686018427387904] i := ⟨_, rfl⟩
    rw [← hx]
    have HO5 : Hid (OI w5 w.heap.size (some ⟨g, 0, none⟩) (1 + q) c2 zs) := (HO4.out.alloc _).kept hg (fun x hx e => by have := (HO4.out.blk x hx).1; injection e with e; omega)
    have HC5 := Lib.hid hc
    have HG5 := Lib.hid (grownTr (grown_below HG4.out (allocBel _ _)) hg)
    clear hc hg HC4 HG4 HO4 hx hi
    have hfj : w5.frozen? ⟨g, j, none⟩ = false := HO5.out.2.frozenAt j
    have hcj := HO5.out.cells j hj
    have hgB := (HO5.out.blk g rfl).1
    go_wp2
    go_ret
    have hs := HO5.out.stored j x
    have gS := grown_setCell (g := g) (grown_refl w5 _) (.inl rfl) (Value.int .i64 x) (p := ⟨g, j, none⟩)
    exact ⟨_, some ⟨g, 0, none⟩, 1 + q, c2, rfl, by omega, hs, (HC5.out.grownOwn HO5.out (Nat.lt_of_lt_of_le hbw (Nat.le_refl _)) (fun x hx h0 => HLOW.out x hx h0) gS).le (by omega), grownOwn HG5.out HO5.out (Nat.le_refl _) gS⟩
  by_cases hv1 : v = 1
  · subst hv1
    clear hv0
    go_wp2
    go_ret
    exact ⟨[], none, 0, 0, rfl, by omega, OI.none_ _ _, HC3.out.le (by omega), HG3.out⟩
  by_cases hv2 : v = 2
  · subst hv2
    clear hv0 hv1
    go_wp2_with fail
    refine (pick_any b A n c bs (k0 + 14 + 2) 2 _ HC3.out hn (by omega) (by omega)).mono ?_
    rintro e w4 ⟨v, rfl, v0, v1, hc, hg⟩
    rw [if_pos (by decide)] at v1
    obtain ⟨r, rfl⟩ : ∃ r : Nat, v = r := ⟨v.toNat, by omega⟩
    have hr : r ≤ 1 := by omega
    have HC4 := Lib.hid hc
    have HG4 := Lib.hid (grownTr HG3.out hg)
    clear hc hg HC3 HG3
    go_wp2_with fail
    have hs := sureOrder_any b A n c bs (k0 + 14 + 2 + 2) (8 + r) w4 HC4.out hn (by omega) (by omega)
    rw [show ((8 + r : Nat) : Int) = 8 + (r : Int) by omega] at hs
    refine hs.mono ?_
    clear hs
    rintro e w5 ⟨ys, A5, c5, rfl, ho, hc, hg⟩
    have HO5 := Lib.hid (ho.mono HG4.out.size)
    have HC5 := Lib.hid (hc.le (show k0 + 14 + 2 + 2 + 2 * (8 + r) ≤ k0 + 40 by omega))
    have HG5 := Lib.hid (grownTr HG4.out hg)
    clear hc hg ho
    go_wp2
    go_ret
    exact ⟨ys, A5, 8 + r, c5, rfl, by omega, HO5.out, HC5.out, HG5.out⟩
  · go_wp2
    go_ret
    exact ⟨zs, A2, 1 + q, c2, rfl, by omega, HO3.out, HC3.out.le (by omega), HG3.out⟩

theorem Cur.new (w : World) (A : Option Addr) (n c : Nat) (bs : List Int) (t : TypeId) (h : BI w A n bs) : Cur (w.alloc (.cells #[.slice A n c, .int .i64 0, .int .u64 0] t)) w.heap.size A n c bs 0 := by
  refine ⟨⟨0, 0, by omega, by omega, by simp, by simp, by simp⟩, by simp [go_sem], by simp [go_sem], by simp, h.below (allocBel _ _) (Nat.le_refl _), fun hn e => ?_⟩
  obtain ⟨g, off, rfl, hg, _⟩ := h.2.2 hn
  simp [blk] at e
  omega

/-- a list of at most so many numbers in new memory -/
def FreshD1 (w : World) (m : Nat) (e : Ending) (w' : World) : Prop :=
  ∃ (zs : List Int) (A : Option Addr) (n c : Nat), e = .returned (.slice A n c) ∧ n ≤ m ∧ OI w' w.heap.size A n c zs ∧ Below w.heap.size w w'

theorem belOfCur {w w1 : World} {o : Obj} (hg : (w.alloc o).grownBy w1 (some w.heap.size)) : Below w.heap.size w w1 :=
  (allocBel w o).trans ⟨hg.os, hg.tape, hg.output, hg.size, fun i hi => hg.block i (by rw [World.size_alloc]; omega) (fun e => by injection e with e; omega)⟩

set_option maxHeartbeats 400000 in
theorem drawIsOrder_any (A : Option Addr) (n c : Nat) (bs : List Int) (w : World) (h : BI w A n bs) (hn : n ≤ 1048576) : Calls Try.prog 17 #[.slice A n c] w (FreshD1 w 9) := by
  have HC := Lib.hid (Cur.new w A n c bs 45 h)
  clear h
  go_enter Try.func17, Try.ntmps17
  go_wp2_with fail
  refine (order_any w.heap.size A n c bs 0 _ HC.out hn (by omega)).mono ?_
  rintro e w1 ⟨zs, A2, n2, c2, rfl, hn2, ho, hc, hg⟩
  have HO := Lib.hid (ho.mono (show w.heap.size ≤ _ by rw [World.size_alloc]; omega))
  have HB := Lib.hid (belOfCur hg)
  clear ho hc hg
  go_wp2
  go_ret
  exact ⟨zs, A2, n2, c2, rfl, hn2, HO.out, HB.out⟩

set_option maxHeartbeats 400000 in
theorem drawCodeOf_any (A : Option Addr) (n c : Nat) (bs : List Int) (w : World) (h : BI w A n bs) (hn : n ≤ 1048576) : Calls Try.prog 5 #[.slice A n c] w (FreshD1 w 9) := by
  go_enter Try.func5, Try.ntmps5
  go_wp2_with fail
  refine (drawIsOrder_any A n c bs w h hn).mono ?_
  rintro e w1 ⟨zs, A2, n2, c2, rfl, hn2, ho, hb⟩
  have HO := Lib.hid ho
  have HB := Lib.hid hb
  clear ho hb h
  go_wp2
  go_ret
  exact ⟨zs, A2, n2, c2, rfl, hn2, HO.out, HB.out⟩
end Go.Proofs.Ytcjdojnninkgbaa
