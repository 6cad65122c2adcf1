/- The contracts of BelowLadder, of the program and of its model. -/
import Derived.Test.YtgadfjfokgodgaaLB
import Derived.Test.YtgadfjfokgodgaaMgE
import Derived.Deep.RegionHeld3
import Derived.Deep.Cut
namespace Go.Proofs.Ytgadfjfokgodgaa
open Go Go.RowKit

def bwB (W : Int) (zs : List Int) (V : Int) (ys : List Int) : Bool := lad W zs && (lad V ys && (decide (W = V) && lad W (zs ++ ys)))
theorem bwB_1 {W V : Int} {zs ys : List Int} (h : lad W zs = false) : bwB W zs V ys = false := by unfold bwB; rw [h]; rfl
theorem bwB_2 {W V : Int} {zs ys : List Int} (h : lad V ys = false) : bwB W zs V ys = false := by unfold bwB; rw [h]; simp
theorem bwB_3 {W V : Int} {zs ys : List Int} (h : ¬ W = V) : bwB W zs V ys = false := by unfold bwB; rw [decide_eq_false h]; simp
theorem bwB_4 {W : Int} {zs ys : List Int} (h : lad W zs = true) (h2 : lad W ys = true) : bwB W zs W ys = lad W (zs ++ ys) := by unfold bwB; rw [h, h2]; simp
theorem bwN_len (W V : Int) (zs ys : List Int) : (ifL (bwB W zs V ys) (zs ++ ys)).length ≤ 1000 := by
  rcases h : bwB W zs V ys with _ | _
  · rw [ifL_no]; simp
  · rw [ifL_yes]
    unfold bwB at h
    simp only [Bool.and_eq_true] at h
    have := (lad_iff.1 h.2.2.2).2.1
    omega
def two' {α : Type} (a b : α) : Nat → α
  | 0 => a
  | _ => b
theorem Parts.pair {w : World} {A1 A2 : Option Addr} {n1 c1 n2 c2 : Nat} {z1 z2 : List Int} (h1 : RI w A1 n1 z1) (h2 : RI w A2 n2 z2) :
    Parts (w.alloc (.cells #[.slice A1 n1 c1, .slice A2 n2 c2] 24)) (some ⟨w.heap.size, 0, none⟩) 2 (two' A1 A2) (two' n1 n2) (two' c1 c2) (two' z1 z2) := by
  refine ⟨fun _ => ⟨w.heap.size, 0, rfl, by simp, fun j hj => ?_⟩, fun j hj => ?_⟩
  · match j, hj with
    | 0, _ => simp [two']
    | 1, _ => simp [two']
  · match j, hj with
    | 0, _ => exact h1.alloc _
    | 1, _ => exact h2.alloc _
theorem cat_pair (z1 z2 : List Int) : cat (two' z1 z2) 2 = z1 ++ z2 := by simp [cat, two']

set_option maxRecDepth 100000 in
set_option maxHeartbeats 4000000 in
theorem iBelow_no (W : Int) (A : Option Addr) (n c : Nat) (zs : List Int) (V : Int) (A2 : Option Addr) (n2 c2 : Nat) (ys : List Int) (w : World) (h : RI w A n zs) (hn : n ≤ 1048576) (h2 : RI w A2 n2 ys) (hn2 : n2 ≤ 1048576) (hno : lad W zs = false ∨ (lad W zs = true ∧ lad V ys = false) ∨ (lad W zs = true ∧ lad V ys = true ∧ ¬ W = V)) :
    Calls Try.prog 21 #[.agg #[.int .i64 W, .slice A n c], .agg #[.int .i64 V, .slice A2 n2 c2]] w (FreshLB w 0 0 [] false) := by
  rcases hno with hq | ⟨hq, hq2⟩ | ⟨hq, hq2, hne⟩
  · have HQ := Lib.hid hq
    clear hq
    go_enter Try.func21, Try.ntmps21
    go_wp2_with fail
    have HA := boxAlloc (boxAlloc (boxNew (W := W) (c := c) 26 h) (.cells #[.int .i64 V, .slice A2 n2 c2] 26)) (.cells #[.int .i64 0, .slice none 0 0] 26)
    have HD := boxAlloc (boxNew (wi := w.alloc (.cells #[.int .i64 W, .slice A n c] 26)) (W := V) (c := c2) 26 (h2.alloc _)) (.cells #[.int .i64 0, .slice none 0 0] 26)
    have HB := belAlloc (belAlloc (belAlloc (belRefl (w := w)) (.cells #[.int .i64 W, .slice A n c] 26)) (.cells #[.int .i64 V, .slice A2 n2 c2] 26)) (.cells #[.int .i64 0, .slice none 0 0] 26)
    have HC := cellNew ((w.alloc (.cells #[.int .i64 W, .slice A n c] 26)).alloc (.cells #[.int .i64 V, .slice A2 n2 c2] 26)) (.int .i64 0) (.slice none 0 0) 26
    refine (iIsLadder_any W A n c zs _ HA.out.ri hn).mono ?_
    rw [HQ.out]
    rintro e w1 ⟨rfl, hb⟩
    replace HA := boxStep HA hb
    replace HD := boxStep HD hb
    replace HB := belStep HB hb
    replace HC := cellStep HC hb
    simp only [World.size_alloc] at HD HC
    have a0 := HA.out.c0; have a1 := HA.out.c1; have az := HA.out.lt
    have d0 := HD.out.c0; have d1 := HD.out.c1; have dz := HD.out.lt
    clear hb h h2
    have k0 := HC.out.c0; have k1 := HC.out.c1; have f0 := HC.out.f0; have f1 := HC.out.f1; have hz := HC.out.lt
    go_wp2
    exact bodyPost_ret (v := .tuple #[.agg #[.int .i64 0, .slice none 0 0], .bool false]) (by simp [results, Try.results21, go_sem, k0, k1]) rfl ⟨none, 0, rfl, OI.none_ _ _, (by repeat (first | exact Below.refl _ _ | exact HB.out | refine Below.setCell ?_ (by simp <;> omega) _ | refine Below.alloc ?_ (by simp <;> omega) _ | refine below_drewN ?_ _))⟩
  · have HQ := Lib.hid hq
    have HQ2 := Lib.hid hq2
    clear hq hq2
    go_enter Try.func21, Try.ntmps21
    go_wp2_with fail
    have HA := boxAlloc (boxAlloc (boxNew (W := W) (c := c) 26 h) (.cells #[.int .i64 V, .slice A2 n2 c2] 26)) (.cells #[.int .i64 0, .slice none 0 0] 26)
    have HD := boxAlloc (boxNew (wi := w.alloc (.cells #[.int .i64 W, .slice A n c] 26)) (W := V) (c := c2) 26 (h2.alloc _)) (.cells #[.int .i64 0, .slice none 0 0] 26)
    have HB := belAlloc (belAlloc (belAlloc (belRefl (w := w)) (.cells #[.int .i64 W, .slice A n c] 26)) (.cells #[.int .i64 V, .slice A2 n2 c2] 26)) (.cells #[.int .i64 0, .slice none 0 0] 26)
    have HC := cellNew ((w.alloc (.cells #[.int .i64 W, .slice A n c] 26)).alloc (.cells #[.int .i64 V, .slice A2 n2 c2] 26)) (.int .i64 0) (.slice none 0 0) 26
    refine (iIsLadder_any W A n c zs _ HA.out.ri hn).mono ?_
    rw [HQ.out]
    rintro e w1 ⟨rfl, hb⟩
    replace HA := boxStep HA hb
    replace HD := boxStep HD hb
    replace HB := belStep HB hb
    replace HC := cellStep HC hb
    simp only [World.size_alloc] at HD HC
    have a0 := HA.out.c0; have a1 := HA.out.c1; have az := HA.out.lt
    have d0 := HD.out.c0; have d1 := HD.out.c1; have dz := HD.out.lt
    clear hb h h2
    go_wp2_with fail
    refine (iIsLadder_any V A2 n2 c2 ys _ HD.out.ri hn2).mono ?_
    rw [HQ2.out]
    rintro e w2 ⟨rfl, hb⟩
    replace HA := boxStep HA hb
    replace HD := boxStep HD hb
    replace HB := belStep HB hb
    replace HC := cellStep HC hb
    replace a0 := HA.out.c0; replace a1 := HA.out.c1; replace az := HA.out.lt
    replace d0 := HD.out.c0; replace d1 := HD.out.c1; replace dz := HD.out.lt
    clear hb
    have k0 := HC.out.c0; have k1 := HC.out.c1; have f0 := HC.out.f0; have f1 := HC.out.f1; have hz := HC.out.lt
    go_wp2
    exact bodyPost_ret (v := .tuple #[.agg #[.int .i64 0, .slice none 0 0], .bool false]) (by simp [results, Try.results21, go_sem, k0, k1]) rfl ⟨none, 0, rfl, OI.none_ _ _, (by repeat (first | exact Below.refl _ _ | exact HB.out | refine Below.setCell ?_ (by simp <;> omega) _ | refine Below.alloc ?_ (by simp <;> omega) _ | refine below_drewN ?_ _))⟩
  · have HQ := Lib.hid hq
    have HQ2 := Lib.hid hq2
    clear hq hq2
    have hne2 : (W != V) = true := by simpa using hne
    go_enter Try.func21, Try.ntmps21
    go_wp2_with fail
    have HA := boxAlloc (boxAlloc (boxNew (W := W) (c := c) 26 h) (.cells #[.int .i64 V, .slice A2 n2 c2] 26)) (.cells #[.int .i64 0, .slice none 0 0] 26)
    have HD := boxAlloc (boxNew (wi := w.alloc (.cells #[.int .i64 W, .slice A n c] 26)) (W := V) (c := c2) 26 (h2.alloc _)) (.cells #[.int .i64 0, .slice none 0 0] 26)
    have HB := belAlloc (belAlloc (belAlloc (belRefl (w := w)) (.cells #[.int .i64 W, .slice A n c] 26)) (.cells #[.int .i64 V, .slice A2 n2 c2] 26)) (.cells #[.int .i64 0, .slice none 0 0] 26)
    have HC := cellNew ((w.alloc (.cells #[.int .i64 W, .slice A n c] 26)).alloc (.cells #[.int .i64 V, .slice A2 n2 c2] 26)) (.int .i64 0) (.slice none 0 0) 26
    refine (iIsLadder_any W A n c zs _ HA.out.ri hn).mono ?_
    rw [HQ.out]
    rintro e w1 ⟨rfl, hb⟩
    replace HA := boxStep HA hb
    replace HD := boxStep HD hb
    replace HB := belStep HB hb
    replace HC := cellStep HC hb
    simp only [World.size_alloc] at HD HC
    have a0 := HA.out.c0; have a1 := HA.out.c1; have az := HA.out.lt
    have d0 := HD.out.c0; have d1 := HD.out.c1; have dz := HD.out.lt
    clear hb h h2
    go_wp2_with fail
    refine (iIsLadder_any V A2 n2 c2 ys _ HD.out.ri hn2).mono ?_
    rw [HQ2.out]
    rintro e w2 ⟨rfl, hb⟩
    replace HA := boxStep HA hb
    replace HD := boxStep HD hb
    replace HB := belStep HB hb
    replace HC := cellStep HC hb
    replace a0 := HA.out.c0; replace a1 := HA.out.c1; replace az := HA.out.lt
    replace d0 := HD.out.c0; replace d1 := HD.out.c1; replace dz := HD.out.lt
    clear hb
    have k0 := HC.out.c0; have k1 := HC.out.c1; have f0 := HC.out.f0; have f1 := HC.out.f1; have hz := HC.out.lt
    go_wp2
    exact bodyPost_ret (v := .tuple #[.agg #[.int .i64 0, .slice none 0 0], .bool false]) (by simp [results, Try.results21, go_sem, k0, k1]) rfl ⟨none, 0, rfl, OI.none_ _ _, (by repeat (first | exact Below.refl _ _ | exact HB.out | refine Below.setCell ?_ (by simp <;> omega) _ | refine Below.alloc ?_ (by simp <;> omega) _ | refine below_drewN ?_ _))⟩

set_option maxRecDepth 100000 in
set_option maxHeartbeats 4000000 in
theorem iBelow_yes (W : Int) (A : Option Addr) (n c : Nat) (zs : List Int) (A2 : Option Addr) (n2 c2 : Nat) (ys : List Int) (w : World) (h : RI w A n zs) (hn60 : n ≤ 60) (h2 : RI w A2 n2 ys) (hn60' : n2 ≤ 60) (hq : lad W zs = true) (hq2 : lad W ys = true) (q : Bool) (hqq : q = lad W (zs ++ ys)) :
    Calls Try.prog 21 #[.agg #[.int .i64 W, .slice A n c], .agg #[.int .i64 W, .slice A2 n2 c2]] w
      (FreshLB w (ifW q W) (ifL q (zs ++ ys)).length (ifL q (zs ++ ys)) q) := by
  have hn : n ≤ 1048576 := by omega
  have hn2 : n2 ≤ 1048576 := by omega
  have hzl := h.1
  have hyl := h2.1
  have HQ := Lib.hid hq
  have HQ2 := Lib.hid hq2
  have HQQ := Lib.hid hqq
  obtain ⟨L, hL⟩ : ∃ L, L = zs ++ ys := ⟨_, rfl⟩
  rw [← hL] at HQQ ⊢
  have HL := Lib.hid hL
  have hal : L.length = n + n2 := by rw [hL, List.length_append, hzl, hyl]
  have hne2 : (W != W) = false := by simp
  clear hq hq2 hqq hL
  go_enter Try.func21, Try.ntmps21
  go_wp2_with fail
  have HA := boxAlloc (boxAlloc (boxNew (W := W) (c := c) 26 h) (.cells #[.int .i64 W, .slice A2 n2 c2] 26)) (.cells #[.int .i64 0, .slice none 0 0] 26)
  have HD := boxAlloc (boxNew (wi := w.alloc (.cells #[.int .i64 W, .slice A n c] 26)) (W := W) (c := c2) 26 (h2.alloc _)) (.cells #[.int .i64 0, .slice none 0 0] 26)
  have HB := belAlloc (belAlloc (belAlloc (belRefl (w := w)) (.cells #[.int .i64 W, .slice A n c] 26)) (.cells #[.int .i64 W, .slice A2 n2 c2] 26)) (.cells #[.int .i64 0, .slice none 0 0] 26)
  have HC := cellNew ((w.alloc (.cells #[.int .i64 W, .slice A n c] 26)).alloc (.cells #[.int .i64 W, .slice A2 n2 c2] 26)) (.int .i64 0) (.slice none 0 0) 26
  refine (iIsLadder_any W A n c zs _ HA.out.ri hn).mono ?_
  rw [HQ.out]
  rintro e w1 ⟨rfl, hb⟩
  replace HA := boxStep HA hb
  replace HD := boxStep HD hb
  replace HB := belStep HB hb
  replace HC := cellStep HC hb
  simp only [World.size_alloc] at HD HC
  have a0 := HA.out.c0; have a1 := HA.out.c1; have az := HA.out.lt
  have d0 := HD.out.c0; have d1 := HD.out.c1; have dz := HD.out.lt
  clear hb h h2
  go_wp2_with fail
  refine (iIsLadder_any W A2 n2 c2 ys _ HD.out.ri hn2).mono ?_
  rw [HQ2.out]
  rintro e w2 ⟨rfl, hb⟩
  replace HA := boxStep HA hb
  replace HD := boxStep HD hb
  replace HB := belStep HB hb
  replace HC := cellStep HC hb
  replace a0 := HA.out.c0; replace a1 := HA.out.c1; replace az := HA.out.lt
  replace d0 := HD.out.c0; replace d1 := HD.out.c1; replace dz := HD.out.lt
  clear hb
  have cz := HC.out.lt
  go_wp2_with fail
  have H2 := boxAlloc HA (.cells #[.slice A n c, .slice A2 n2 c2] 24)
  have B2 := belAlloc HB (.cells #[.slice A n c, .slice A2 n2 c2] 24)
  have C2 := cellAlloc HC (.cells #[.slice A n c, .slice A2 n2 c2] 24)
  have PT := Lib.hid (Parts.pair (c1 := c) (c2 := c2) HA.out.ri HD.out.ri)
  refine (ladderOf_any W _ 2 2 _ _ _ _ _ PT.out (by omega) L (by rw [cat_pair]; exact HL.out.symm) (by omega)).mono ?_
  rw [← HQQ.out]
  rintro e w5 ⟨A5, c5, rfl, o5, hb⟩
  have B5 := belStep B2 hb
  have C5 := cellStep C2 hb
  have O5 := Lib.hid o5
  have hz2 := B2.out.size
  simp only [World.size_alloc] at hz2
  have k0 := C5.out.c0; have k1 := C5.out.c1; have f0 := C5.out.f0; have f1 := C5.out.f1; have cz5 := C5.out.lt
  clear o5 hb
  go_wp2
  exact bodyPost_ret (v := .tuple #[.agg #[.int .i64 (ifW q W), .slice A5 (ifL q L).length c5], .bool q]) (by simp [results, Try.results21, go_sem, k0, k1]) rfl
    ⟨A5, c5, rfl, ((O5.out.setBelow (p := ⟨w.heap.size + 1 + 1, 0, none⟩) (by simp <;> omega) _).setBelow (p := ⟨w.heap.size + 1 + 1, 1, none⟩) (by simp <;> omega) _).mono (B' := w.heap.size) (by simp <;> omega), (B5.out.setCell (p := ⟨w.heap.size + 1 + 1, 0, none⟩) (by simp <;> omega) _).setCell (p := ⟨w.heap.size + 1 + 1, 1, none⟩) (by simp <;> omega) _⟩

theorem iBelowLadder_any (W : Int) (A : Option Addr) (n c : Nat) (zs : List Int) (V : Int) (A2 : Option Addr) (n2 c2 : Nat) (ys : List Int) (w : World) (h : RI w A n zs) (hn : n ≤ 1048576) (h2 : RI w A2 n2 ys) (hn2 : n2 ≤ 1048576) :
    Calls Try.prog 21 #[.agg #[.int .i64 W, .slice A n c], .agg #[.int .i64 V, .slice A2 n2 c2]] w
      (FreshLB w (ifW (bwB W zs V ys) W) (ifL (bwB W zs V ys) (zs ++ ys)).length (ifL (bwB W zs V ys) (zs ++ ys)) (bwB W zs V ys)) := by
  rcases hq : lad W zs with _ | _
  · rw [bwB_1 hq, ifW_no, ifL_no]
    exact iBelow_no W A n c zs V A2 n2 c2 ys w h hn h2 hn2 (.inl hq)
  · rcases hq2 : lad V ys with _ | _
    · rw [bwB_2 hq2, ifW_no, ifL_no]
      exact iBelow_no W A n c zs V A2 n2 c2 ys w h hn h2 hn2 (.inr (.inl ⟨hq, hq2⟩))
    · by_cases he : W = V
      · subst he
        have l1 := (lad_iff.1 hq).2.1
        have l2 := (lad_iff.1 hq2).2.1
        rw [h.1] at l1
        rw [h2.1] at l2
        exact iBelow_yes W A n c zs A2 n2 c2 ys w h l1 h2 l2 hq hq2 _ (bwB_4 hq hq2)
      · rw [bwB_3 he, ifW_no, ifL_no]
        exact iBelow_no W A n c zs V A2 n2 c2 ys w h hn h2 hn2 (.inr (.inr ⟨hq, hq2, he⟩))
end Go.Proofs.Ytgadfjfokgodgaa
