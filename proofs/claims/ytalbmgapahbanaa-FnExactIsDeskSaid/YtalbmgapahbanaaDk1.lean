/- The contracts of what the laws of the desk go through: a desk is a ladder and a bool. -/
import Derived.Test.YtalbmgapahbanaaC1a
import Derived.Test.YtalbmgapahbanaaBox
namespace Go.Proofs.Ytalbmgapahbanaa
open Go Go.RowKit


set_option maxHeartbeats 400000 in
theorem szDesk_any (W : Int) (A : Option Addr) (n c : Nat) (t : Bool) (left : Int) (w : World) (h1 : 0 ≤ left) (h2 : left ≤ 1048576) (hn : n ≤ 9223372036854775807) :
    Calls Try.prog 10 #[.agg #[.int .i64 W, .slice A n c, .bool t], .int .i64 left] w (RetI (szv n left) w) := by
  by_cases hc : (n : Int) ≤ left
  · have e : szv n left = left - n := (szv_yes hc).symm
    have E := Lib.hid e
    clear e
    go_enter Try.func10, Try.ntmps10
    go_wp2_with fail
    refine (szLadder_any _ _ _ _ _ _ h1 h2 hn).mono ?_
    rw [E.out]
    rintro e w' ⟨rfl, hb⟩
    have HB : Hid (Below w.heap.size w w') := Below.trans (by repeat (first | exact Below.refl _ _ | exact HB.out | refine Below.setCell ?_ (by simp <;> omega) _ | refine Below.alloc ?_ (by simp <;> omega) _ | refine below_drewN ?_ _)) (hb.mono (by simp <;> omega))
    clear hb
    go_wp2
    go_ret
    exact ⟨ret_i E.out.symm, HB.out⟩
  · have e : szv n left = -1 := (szv_no hc).symm
    have E := Lib.hid e
    clear e
    go_enter Try.func10, Try.ntmps10
    go_wp2_with fail
    refine (szLadder_any _ _ _ _ _ _ h1 h2 hn).mono ?_
    rw [E.out]
    rintro e w' ⟨rfl, hb⟩
    have HB : Hid (Below w.heap.size w w') := Below.trans (by repeat (first | exact Below.refl _ _ | exact HB.out | refine Below.setCell ?_ (by simp <;> omega) _ | refine Below.alloc ?_ (by simp <;> omega) _ | refine below_drewN ?_ _)) (hb.mono (by simp <;> omega))
    clear hb
    go_wp2
    go_ret
    exact ⟨ret_i E.out.symm, HB.out⟩

/-- three cells of a block, behind stores into another block and into it -/
theorem dkSix {w1 : World} {p q : Nat} (h : q ≠ p) {a b c : Value} (k0 : w1.cell? ⟨q, 0, none⟩ = some a) (k1 : w1.cell? ⟨q, 1, none⟩ = some b) (k2 : w1.cell? ⟨q, 2, none⟩ = some c) (x y z u v t : Value) :
    ((((((w1.setCell ⟨p, 0, none⟩ x).setCell ⟨p, 1, none⟩ y).setCell ⟨p, 2, none⟩ z).setCell ⟨q, 0, none⟩ u).setCell ⟨q, 1, none⟩ v).setCell ⟨q, 2, none⟩ t).cell? ⟨q, 0, none⟩ = some u ∧
    ((((((w1.setCell ⟨p, 0, none⟩ x).setCell ⟨p, 1, none⟩ y).setCell ⟨p, 2, none⟩ z).setCell ⟨q, 0, none⟩ u).setCell ⟨q, 1, none⟩ v).setCell ⟨q, 2, none⟩ t).cell? ⟨q, 1, none⟩ = some v ∧
    ((((((w1.setCell ⟨p, 0, none⟩ x).setCell ⟨p, 1, none⟩ y).setCell ⟨p, 2, none⟩ z).setCell ⟨q, 0, none⟩ u).setCell ⟨q, 1, none⟩ v).setCell ⟨q, 2, none⟩ t).cell? ⟨q, 2, none⟩ = some t := by
  have o : ∀ (w2 : World) (i j : Nat) (s : Value), (w2.setCell ⟨p, i, none⟩ s).cell? ⟨q, j, none⟩ = w2.cell? ⟨q, j, none⟩ := fun w2 i j s => World.cell?_setCell_other _ _ _ _ (by intro e; injection e with e1 _; exact h e1.symm)
  have o2 : ∀ (w2 : World) (i j : Nat) (s : Value), j ≠ i → (w2.setCell ⟨q, i, none⟩ s).cell? ⟨q, j, none⟩ = w2.cell? ⟨q, j, none⟩ := fun w2 i j s hij => World.cell?_setCell_other _ _ _ _ (by intro e; injection e with _ e2; exact hij e2.symm)
  refine ⟨?_, ?_, ?_⟩
  · rw [o2 _ 2 0 _ (by omega), o2 _ 1 0 _ (by omega)]
    exact World.cell?_setCell_same _ _ _ (by rw [o, o, o]; exact k0)
  · rw [o2 _ 2 1 _ (by omega)]
    exact World.cell?_setCell_same _ _ _ (by rw [o2 _ 0 1 _ (by omega), o, o, o]; exact k1)
  · exact World.cell?_setCell_same _ _ _ (by rw [o2 _ 1 2 _ (by omega), o2 _ 0 2 _ (by omega), o, o, o]; exact k2)

theorem dkSixB {K : Nat} {w0 w1 : World} {p q : Nat} (h : Below K w0 w1) (hp : K ≤ p) (hq : K ≤ q) (x y z u v t : Value) : Below K w0 ((((((w1.setCell ⟨p, 0, none⟩ x).setCell ⟨p, 1, none⟩ y).setCell ⟨p, 2, none⟩ z).setCell ⟨q, 0, none⟩ u).setCell ⟨q, 1, none⟩ v).setCell ⟨q, 2, none⟩ t) :=
  (((((h.setCell (p := ⟨p, 0, none⟩) hp x).setCell (p := ⟨p, 1, none⟩) hp y).setCell (p := ⟨p, 2, none⟩) hp z).setCell (p := ⟨q, 0, none⟩) hq u).setCell (p := ⟨q, 1, none⟩) hq v).setCell (p := ⟨q, 2, none⟩) hq t
theorem dkSixO {B : Nat} {w1 : World} {A : Option Addr} {n c : Nat} {zs : List Int} {p q : Nat} (h : OI w1 B A n c zs) (hp : p < B) (hq : q < B) (x y z u v t : Value) : OI ((((((w1.setCell ⟨p, 0, none⟩ x).setCell ⟨p, 1, none⟩ y).setCell ⟨p, 2, none⟩ z).setCell ⟨q, 0, none⟩ u).setCell ⟨q, 1, none⟩ v).setCell ⟨q, 2, none⟩ t) B A n c zs :=
  (((((h.setBelow (p := ⟨p, 0, none⟩) hp x).setBelow (p := ⟨p, 1, none⟩) hp y).setBelow (p := ⟨p, 2, none⟩) hp z).setBelow (p := ⟨q, 0, none⟩) hq u).setBelow (p := ⟨q, 1, none⟩) hq v).setBelow (p := ⟨q, 2, none⟩) hq t

theorem cell_new_at (w : World) (cs : Array Value) (t : TypeId) {b : Nat} (hb : b = w.heap.size) (i : Nat) : (w.alloc (.cells cs t)).cell? ⟨b, i, none⟩ = cs[i]?   := by
  subst hb
  have h := heap_alloc_new w (.cells cs t)
  unfold World.cell?
  rw [h]
  rfl

/-- a desk in new memory -/
def FreshD (w : World) (W : Int) (n : Nat) (zs : List Int) (t : Bool) (e : Ending) (w' : World) : Prop :=
  ∃ (A : Option Addr) (c : Nat), e = .returned (.agg #[.int .i64 W, .slice A n c, .bool t]) ∧ OI w' w.heap.size A n c zs ∧ Below w.heap.size w w'

set_option maxHeartbeats 1000000 in
theorem toDesk_any (W : Int) (A : Option Addr) (n c : Nat) (zs : List Int) (t : Bool) (w : World) (h : RI w A n zs) (hn : n ≤ 1048576) :
    Calls Try.prog 12 #[.agg #[.int .i64 W, .slice A n c, .bool t]] w (FreshD w W n zs t) := by
  go_enter Try.func12, Try.ntmps12
  go_wp2_with fail
  refine (toLadder_any W A n c zs _ ?h1 hn).mono ?_
  case h1 => exact ((h.alloc _).alloc _).alloc _
  rintro e w1 ⟨A1, c1, rfl, ho, hb⟩
  obtain ⟨hc, hf⟩ := bcell hb
  have hz : w.heap.size + 1 + 1 < w1.heap.size := by have := hb.size; simp at this; omega
  have HB : Hid (Below w.heap.size w w1) := Below.trans (by repeat (first | exact Below.refl _ _ | exact HB.out | refine Below.setCell ?_ (by simp <;> omega) _ | refine Below.alloc ?_ (by simp <;> omega) _ | refine below_drewN ?_ _)) (hb.mono (by simp <;> omega))
  have k0 : w1.cell? ⟨w.heap.size + 1, 0, none⟩ = some (.int .i64 0) := (hb.cell (p := ⟨w.heap.size + 1, 0, none⟩) (by rw [World.size_alloc, World.size_alloc, World.size_alloc]; show w.heap.size + 1 < w.heap.size + 1 + 1 + 1; omega)).trans (by rw [World.cell?_alloc_past _ _ _ (by rw [World.size_alloc, World.size_alloc]; show w.heap.size + 1 < w.heap.size + 1 + 1; omega)]; exact (cell_new_at ((w.alloc (.cells #[.int .i64 W, .slice A n c, .bool t] 33))) _ _ (by rw [World.size_alloc]) 0).trans rfl)
  have k1 : w1.cell? ⟨w.heap.size + 1, 1, none⟩ = some (.slice none 0 0) := (hb.cell (p := ⟨w.heap.size + 1, 1, none⟩) (by rw [World.size_alloc, World.size_alloc, World.size_alloc]; show w.heap.size + 1 < w.heap.size + 1 + 1 + 1; omega)).trans (by rw [World.cell?_alloc_past _ _ _ (by rw [World.size_alloc, World.size_alloc]; show w.heap.size + 1 < w.heap.size + 1 + 1; omega)]; exact (cell_new_at ((w.alloc (.cells #[.int .i64 W, .slice A n c, .bool t] 33))) _ _ (by rw [World.size_alloc]) 1).trans rfl)
  have k2 : w1.cell? ⟨w.heap.size + 1, 2, none⟩ = some (.bool false) := (hb.cell (p := ⟨w.heap.size + 1, 2, none⟩) (by rw [World.size_alloc, World.size_alloc, World.size_alloc]; show w.heap.size + 1 < w.heap.size + 1 + 1 + 1; omega)).trans (by rw [World.cell?_alloc_past _ _ _ (by rw [World.size_alloc, World.size_alloc]; show w.heap.size + 1 < w.heap.size + 1 + 1; omega)]; exact (cell_new_at ((w.alloc (.cells #[.int .i64 W, .slice A n c, .bool t] 33))) _ _ (by rw [World.size_alloc]) 2).trans rfl)
  have H1 : Hid (OI w1 (w.heap.size + 1 + 1 + 1) A1 n c1 zs) := by have h9 := ho; rw [World.size_alloc, World.size_alloc, World.size_alloc] at h9; exact h9
  clear ho hb h
  go_wp2
  obtain ⟨m0, m1, m2⟩ := dkSix (q := w.heap.size + 1) (p := w.heap.size + 1 + 1) (by omega) k0 k1 k2 (.int .i64 W) (.slice A1 n c1) (.bool t) (.int .i64 W) (.slice A1 n c1) (.bool t)
  have mB := dkSixB HB.out (p := w.heap.size + 1 + 1) (q := w.heap.size + 1) (by omega) (by omega) (.int .i64 W) (.slice A1 n c1) (.bool t) (.int .i64 W) (.slice A1 n c1) (.bool t)
  have mO := dkSixO H1.out (p := w.heap.size + 1 + 1) (q := w.heap.size + 1) (by omega) (by omega) (.int .i64 W) (.slice A1 n c1) (.bool t) (.int .i64 W) (.slice A1 n c1) (.bool t)
  clear hc hf k0 k1 k2 HB H1
  generalize ((((((w1.setCell ⟨w.heap.size + 1 + 1, 0, none⟩ (.int .i64 W)).setCell ⟨w.heap.size + 1 + 1, 1, none⟩ (.slice A1 n c1)).setCell ⟨w.heap.size + 1 + 1, 2, none⟩ (.bool t)).setCell ⟨w.heap.size + 1, 0, none⟩ (.int .i64 W)).setCell ⟨w.heap.size + 1, 1, none⟩ (.slice A1 n c1)).setCell ⟨w.heap.size + 1, 2, none⟩ (.bool t)) = wz at m0 m1 m2 mB mO ⊢
  exact bodyPost_ret (v := .agg #[.int .i64 W, .slice A1 n c1, .bool t]) (by simp [results, Try.results12, go_sem, m0, m1, m2]) rfl
    ⟨A1, c1, rfl, mO.mono (by omega), mB⟩

set_option maxHeartbeats 400000 in
theorem eqDesk_any (W : Int) (A : Option Addr) (n c : Nat) (zs : List Int) (t : Bool) (V : Int) (B : Option Addr) (m d : Nat) (ys : List Int) (s : Bool) (w : World) (h : RI w A n zs) (g : RI w B m ys) (hn : n ≤ 1048576) (hm : m ≤ 1048576) :
    Calls Try.prog 7 #[.agg #[.int .i64 W, .slice A n c, .bool t], .agg #[.int .i64 V, .slice B m d, .bool s]] w (RetB ((decide (W = V) && eqB zs ys) && (t == s)) w) := by
  obtain ⟨q, hq⟩ : ∃ q, q = (decide (W = V) && eqB zs ys) := ⟨_, rfl⟩
  have HQ := Lib.hid hq
  rw [← hq]
  clear hq
  go_enter Try.func7, Try.ntmps7
  go_wp2_with fail
  refine (eqLadder_any W A n c zs V B m d ys _ ?h1 ?h2 hn hm).mono ?_
  case h1 => exact (h.alloc _).alloc _
  case h2 => exact (g.alloc _).alloc _
  rw [← HQ.out]
  rintro e w1 ⟨rfl, hb⟩
  obtain ⟨hc, hf⟩ := bcell hb
  have HB : Hid (Below w.heap.size w w1) := Below.trans (by repeat (first | exact Below.refl _ _ | exact HB.out | refine Below.setCell ?_ (by simp <;> omega) _ | refine Below.alloc ?_ (by simp <;> omega) _ | refine below_drewN ?_ _)) (hb.mono (by simp <;> omega))
  clear hb h g
  cases q
  · go_wp2
    go_ret
    exact ⟨ret_b (by simp), (by repeat (first | exact Below.refl _ _ | exact HB.out | refine Below.setCell ?_ (by simp <;> omega) _ | refine Below.alloc ?_ (by simp <;> omega) _ | refine below_drewN ?_ _))⟩
  · cases t <;> cases s
    all_goals
      go_wp2
      go_ret
      exact ⟨ret_b (by simp), (by repeat (first | exact Below.refl _ _ | exact HB.out | refine Below.setCell ?_ (by simp <;> omega) _ | refine Below.alloc ?_ (by simp <;> omega) _ | refine below_drewN ?_ _))⟩

set_option maxHeartbeats 400000 in
theorem markDesk_any (Bs : Nat) (W : Int) (A : Option Addr) (n c : Nat) (t : Bool) (zs : List Int) (k : Int) (w : World) (h : OI w Bs A n c zs) (hn : n ≤ 1048576) (hk : 0 ≤ k) (hk2 : k ≤ 1000000000000) :
    Calls Try.prog 8 #[.agg #[.int .i64 W, .slice A n c, .bool t], .int .i64 k] w (Marked w Bs A n c k) := by
  go_enter Try.func8, Try.ntmps8
  go_wp2_with fail
  refine (markLadder_any Bs _ A n c zs k _ (h.alloc _) hn hk hk2).mono ?_
  rintro e w1 ⟨rfl, ho, hg⟩
  have HG : Hid (w.grownBy w1 (blk A)) := ⟨hg.os, hg.tape, hg.output, Nat.le_trans (by simp) hg.size, fun i hi hne => (hg.block i (by simp; omega) hne).trans (Below.heap_alloc _ _ _ hi)⟩
  have H1 := Lib.hid ho
  clear hg ho h
  go_wp2
  go_ret
  exact ⟨rfl, H1.out, HG.out⟩

set_option maxHeartbeats 400000 in
theorem heldDesk_any (W : Int) (A : Option Addr) (n c : Nat) (t : Bool) (k : Int) (w : World) (h : RI w A n (marks k n)) (hn : n ≤ 1048576) (hk : 0 ≤ k) (hk2 : k ≤ 1000000000000) :
    Calls Try.prog 9 #[.agg #[.int .i64 W, .slice A n c, .bool t], .int .i64 k] w (RetI (k + n) w) := by
  go_enter Try.func9, Try.ntmps9
  go_wp2_with fail
  refine (heldLadder_any _ A n c k _ (h.alloc _) hn hk hk2).mono ?_
  rintro e w1 ⟨rfl, hb⟩
  have HB : Hid (Below w.heap.size w w1) := Below.trans (by repeat (first | exact Below.refl _ _ | exact HB.out | refine Below.setCell ?_ (by simp <;> omega) _ | refine Below.alloc ?_ (by simp <;> omega) _ | refine below_drewN ?_ _)) (hb.mono (by simp <;> omega))
  clear hb h
  go_wp2
  go_ret
  exact ⟨rfl, HB.out⟩

set_option maxHeartbeats 400000 in
theorem sIsDesk_any (W : Int) (A : Option Addr) (n c : Nat) (t : Bool) (zs : List Int) (w : World) (h : RI w A n zs) (hn : n ≤ 1048576) :
    Calls Try.prog 11 #[.agg #[.int .i64 W, .slice A n c, .bool t]] w (RetB (lad W zs) w) := by
  have hg : ∀ w2 : World, RI w2 A n zs → Calls Try.prog 18 #[.agg #[.int .i64 W, .slice A n c, .bool t]] w2 (RetB (lad W zs) w2) := by
    intro w2 h2
    go_enter Try.func18, Try.ntmps18
    go_wp2_with fail
    refine (laGood_any W A n c zs _ (h2.alloc _) hn).mono ?_
    rintro e w1 ⟨rfl, hb⟩
    have HB : Hid (Below w2.heap.size w2 w1) := Below.trans (by repeat (first | exact Below.refl _ _ | exact HB.out | refine Below.setCell ?_ (by simp <;> omega) _ | refine Below.alloc ?_ (by simp <;> omega) _ | refine below_drewN ?_ _)) (hb.mono (by simp <;> omega))
    clear hb h h2
    go_wp2
    go_ret
    exact ⟨rfl, (by repeat (first | exact Below.refl _ _ | exact HB.out | refine Below.setCell ?_ (by simp <;> omega) _ | refine Below.alloc ?_ (by simp <;> omega) _ | refine below_drewN ?_ _))⟩
  have HG := Lib.hid hg
  clear hg
  go_enter Try.func11, Try.ntmps11
  go_wp2_with fail
  refine (HG.out _ (h.alloc _)).mono ?_
  rintro e w1 ⟨rfl, hb⟩
  have HB : Hid (Below w.heap.size w w1) := Below.trans (by repeat (first | exact Below.refl _ _ | exact HB.out | refine Below.setCell ?_ (by simp <;> omega) _ | refine Below.alloc ?_ (by simp <;> omega) _ | refine below_drewN ?_ _)) (hb.mono (by simp <;> omega))
  clear hb h
  go_wp2
  go_ret
  exact ⟨rfl, (by repeat (first | exact Below.refl _ _ | exact HB.out | refine Below.setCell ?_ (by simp <;> omega) _ | refine Below.alloc ?_ (by simp <;> omega) _ | refine below_drewN ?_ _))⟩

set_option maxHeartbeats 400000 in
theorem iIsDesk_any (W : Int) (A : Option Addr) (n c : Nat) (t : Bool) (zs : List Int) (w : World) (h : RI w A n zs) (hn : n ≤ 1048576) :
    Calls Try.prog 13 #[.agg #[.int .i64 W, .slice A n c, .bool t]] w (RetB (lad W zs) w) := by
  go_enter Try.func13, Try.ntmps13
  go_wp2_with fail
  refine (iIsLadder_any W A n c zs _ (h.alloc _) hn).mono ?_
  rintro e w1 ⟨rfl, hb⟩
  have HB : Hid (Below w.heap.size w w1) := Below.trans (by repeat (first | exact Below.refl _ _ | exact HB.out | refine Below.setCell ?_ (by simp <;> omega) _ | refine Below.alloc ?_ (by simp <;> omega) _ | refine below_drewN ?_ _)) (hb.mono (by simp <;> omega))
  clear hb h
  go_wp2
  go_ret
  exact ⟨rfl, (by repeat (first | exact Below.refl _ _ | exact HB.out | refine Below.setCell ?_ (by simp <;> omega) _ | refine Below.alloc ?_ (by simp <;> omega) _ | refine below_drewN ?_ _))⟩

theorem OI.twoD (w : World) (B : Nat) (x y : Int) (hB : B ≤ w.heap.size) : OI (w.alloc (.cells #[.int .i64 x, .int .i64 y] 3)) B (some ⟨w.heap.size, 0, none⟩) 2 2 [x, y] :=
  ⟨rfl, World.ownsRow_lit _ _ _ hB (by decide) rfl⟩

theorem firstFresh (w : World) : FreshD w 3 2 [0, 1] false (.returned (.agg #[.int .i64 3, .slice (some ⟨w.heap.size + 1, 0, none⟩) 2 2, .bool false]))
    ((w.alloc (.cells #[.int .i64 3, .slice (some ⟨w.heap.size + 1, 0, none⟩) 2 2, .bool false] 26)).alloc (.cells #[.int .i64 0, .int .i64 1] 3)) := by
  refine ⟨some ⟨w.heap.size + 1, 0, none⟩, 2, rfl, ?_, (by repeat (first | exact Below.refl _ _ | exact HB.out | refine Below.setCell ?_ (by simp <;> omega) _ | refine Below.alloc ?_ (by simp <;> omega) _ | refine below_drewN ?_ _))⟩
  have := OI.twoD (w.alloc (.cells #[.int .i64 3, .slice (some ⟨w.heap.size + 1, 0, none⟩) 2 2, .bool false] 26)) w.heap.size 0 1 (by simp)
  rwa [World.size_alloc] at this

set_option maxHeartbeats 400000 in
theorem sFirstDesk_any (w : World) : Calls Try.prog 5 #[] w (FreshD w 3 2 [0, 1] false) := by
  go_enter Try.func5, Try.ntmps5
  go_wp2
  exact bodyPost_ret (v := .agg #[.int .i64 3, .slice (some ⟨w.heap.size + 1, 0, none⟩) 2 2, .bool false]) (by simp [results, Try.results5, go_sem]) rfl (firstFresh w)

set_option maxHeartbeats 400000 in
theorem iFirstDesk_any (w : World) : Calls Try.prog 6 #[] w (FreshD w 3 2 [0, 1] false) := by
  go_enter Try.func6, Try.ntmps6
  go_wp2
  exact bodyPost_ret (v := .agg #[.int .i64 3, .slice (some ⟨w.heap.size + 1, 0, none⟩) 2 2, .bool false]) (by simp [results, Try.results6, go_sem]) rfl (firstFresh w)

/-- block b holds the desk W, zs, t; its rungs lie at A -/
structure DBox (w : World) (b : Nat) (W : Int) (A : Option Addr) (n c : Nat) (t : Bool) (zs : List Int) : Prop where
  c0 : w.cell? ⟨b, 0, none⟩ = some (.int .i64 W)
  c1 : w.cell? ⟨b, 1, none⟩ = some (.slice A n c)
  c2 : w.cell? ⟨b, 2, none⟩ = some (.bool t)
  ri : RI w A n zs
  lt : b < w.heap.size

section
variable {w wi wj : World} {b : Nat} {W : Int} {A : Option Addr} {n c : Nat} {t : Bool} {zs : List Int}
theorem DBox.keep (h : DBox wi b W A n c t zs) (hb : Below wi.heap.size wi wj) : DBox wj b W A n c t zs :=
  ⟨(hb.cell (p := ⟨b, 0, none⟩) h.lt).trans h.c0, (hb.cell (p := ⟨b, 1, none⟩) h.lt).trans h.c1, (hb.cell (p := ⟨b, 2, none⟩) h.lt).trans h.c2, h.ri.below hb (Nat.le_refl _), Nat.lt_of_lt_of_le h.lt hb.size⟩
theorem dboxStep (h : Hid (DBox wi b W A n c t zs)) (hb : Below wi.heap.size wi wj) : Hid (DBox wj b W A n c t zs) := DBox.keep h hb
theorem dboxDrew (h : Hid (DBox wi b W A n c t zs)) : Hid (DBox wi.drew b W A n c t zs) := ⟨h.out.c0, h.out.c1, h.out.c2, h.out.ri, h.out.lt⟩
theorem dboxAlloc (h : Hid (DBox wi b W A n c t zs)) (o : Obj) : Hid (DBox (wi.alloc o) b W A n c t zs) := dboxStep h ((Below.refl _ _).alloc (Nat.le_refl _) o)
theorem dboxNew (T : TypeId) (h : RI wi A n zs) : Hid (DBox (wi.alloc (.cells #[.int .i64 W, .slice A n c, .bool t] T)) wi.heap.size W A n c t zs) :=
  ⟨by simp, by simp, by simp, h.alloc _, by simp⟩
end
/-- what is compared in the end -/
theorem dkSelf (W : Int) (zs : List Int) (t : Bool) : ((decide (W = W) && eqB zs zs) && (t == t)) = true := by simp [eqB]
end Go.Proofs.Ytalbmgapahbanaa
