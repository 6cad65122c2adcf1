/- The contracts of BelowLadder, of its model. -/
import Derived.Test.YtgadfjfokgodgaaBw1
import Derived.Deep.RegionHeld3
import Derived.Deep.Cut
namespace Go.Proofs.Ytgadfjfokgodgaa
open Go Go.RowKit

theorem boxOfB {wi wj : World} {b : Nat} {W : Int} {A : Option Addr} {n c : Nat} {zs : List Int} (h : Hid (Box wi b W A n c zs)) (hb : Below wi.heap.size wi wj) : Hid (Box wj b W A n c zs) := boxStep h hb

set_option maxRecDepth 100000 in
set_option maxHeartbeats 4000000 in
theorem sBelow_no (W : Int) (A : Option Addr) (n c : Nat) (zs : List Int) (V : Int) (A2 : Option Addr) (n2 c2 : Nat) (ys : List Int) (w : World) (h : RI w A n zs) (hn : n ≤ 1048576) (h2 : RI w A2 n2 ys) (hn2 : n2 ≤ 1048576) (hno : lad W zs = false ∨ (lad W zs = true ∧ lad V ys = false) ∨ (lad W zs = true ∧ lad V ys = true ∧ ¬ W = V)) :
    Calls Try.prog 22 #[.agg #[.int .i64 W, .slice A n c], .agg #[.int .i64 V, .slice A2 n2 c2]] w (FreshLB w 0 0 [] false) := by
  rcases hno with hq | ⟨hq, hq2⟩ | ⟨hq, hq2, hne⟩
  · have HQ := Lib.hid hq
    clear hq
    go_enter Try.func22, Try.ntmps22
    go_wp2_with fail
    have HA := boxAlloc (boxAlloc (boxNew (W := W) (c := c) 26 h) (.cells #[.int .i64 V, .slice A2 n2 c2] 26)) (.cells #[.int .i64 0, .slice none 0 0] 26)
    have HD := boxAlloc (boxNew (wi := w.alloc (.cells #[.int .i64 W, .slice A n c] 26)) (W := V) (c := c2) 26 (h2.alloc _)) (.cells #[.int .i64 0, .slice none 0 0] 26)
    have HB := belAlloc (belAlloc (belAlloc (belRefl (w := w)) (.cells #[.int .i64 W, .slice A n c] 26)) (.cells #[.int .i64 V, .slice A2 n2 c2] 26)) (.cells #[.int .i64 0, .slice none 0 0] 26)
    have HC := cellNew ((w.alloc (.cells #[.int .i64 W, .slice A n c] 26)).alloc (.cells #[.int .i64 V, .slice A2 n2 c2] 26)) (.int .i64 0) (.slice none 0 0) 26
    refine (laGood_any W A n c zs _ HA.out.ri hn).mono ?_
    rw [HQ.out]
    rintro e w1 ⟨rfl, hb⟩
    replace HA := boxStep HA hb
    replace HD := boxStep HD hb
    replace HB := belStep HB hb
    replace HC := cellStep HC hb
    simp only [World.size_alloc] at HD HC
    have a0 := HA.out.c0; have a1 := HA.out.c1; have az := HA.out.lt
    have d0 := HD.out.c0; have d1 := HD.out.c1; have dz := HD.out.lt
    clear hb h h2
    have k0 := HC.out.c0; have k1 := HC.out.c1; have f0 := HC.out.f0; have f1 := HC.out.f1; have hz := HC.out.lt
    go_wp2
    exact bodyPost_ret (v := .tuple #[.agg #[.int .i64 0, .slice none 0 0], .bool false]) (by simp [results, Try.results22, go_sem, k0, k1]) rfl ⟨none, 0, rfl, OI.none_ _ _, (by repeat (first | exact Below.refl _ _ | exact HB.out | refine Below.setCell ?_ (by simp <;> omega) _ | refine Below.alloc ?_ (by simp <;> omega) _ | refine below_drewN ?_ _))⟩
  · have HQ := Lib.hid hq
    have HQ2 := Lib.hid hq2
    clear hq hq2
    go_enter Try.func22, Try.ntmps22
    go_wp2_with fail
    have HA := boxAlloc (boxAlloc (boxNew (W := W) (c := c) 26 h) (.cells #[.int .i64 V, .slice A2 n2 c2] 26)) (.cells #[.int .i64 0, .slice none 0 0] 26)
    have HD := boxAlloc (boxNew (wi := w.alloc (.cells #[.int .i64 W, .slice A n c] 26)) (W := V) (c := c2) 26 (h2.alloc _)) (.cells #[.int .i64 0, .slice none 0 0] 26)
    have HB := belAlloc (belAlloc (belAlloc (belRefl (w := w)) (.cells #[.int .i64 W, .slice A n c] 26)) (.cells #[.int .i64 V, .slice A2 n2 c2] 26)) (.cells #[.int .i64 0, .slice none 0 0] 26)
    have HC := cellNew ((w.alloc (.cells #[.int .i64 W, .slice A n c] 26)).alloc (.cells #[.int .i64 V, .slice A2 n2 c2] 26)) (.int .i64 0) (.slice none 0 0) 26
    refine (laGood_any W A n c zs _ HA.out.ri hn).mono ?_
    rw [HQ.out]
    rintro e w1 ⟨rfl, hb⟩
    replace HA := boxStep HA hb
    replace HD := boxStep HD hb
    replace HB := belStep HB hb
    replace HC := cellStep HC hb
    simp only [World.size_alloc] at HD HC
    have a0 := HA.out.c0; have a1 := HA.out.c1; have az := HA.out.lt
    have d0 := HD.out.c0; have d1 := HD.out.c1; have dz := HD.out.lt
    clear hb h h2
    go_wp2_with fail
    refine (laGood_any V A2 n2 c2 ys _ HD.out.ri hn2).mono ?_
    rw [HQ2.out]
    rintro e w2 ⟨rfl, hb⟩
    replace HA := boxStep HA hb
    replace HD := boxStep HD hb
    replace HB := belStep HB hb
    replace HC := cellStep HC hb
    replace a0 := HA.out.c0; replace a1 := HA.out.c1; replace az := HA.out.lt
    replace d0 := HD.out.c0; replace d1 := HD.out.c1; replace dz := HD.out.lt
    clear hb
    have k0 := HC.out.c0; have k1 := HC.out.c1; have f0 := HC.out.f0; have f1 := HC.out.f1; have hz := HC.out.lt
    go_wp2
    exact bodyPost_ret (v := .tuple #[.agg #[.int .i64 0, .slice none 0 0], .bool false]) (by simp [results, Try.results22, go_sem, k0, k1]) rfl ⟨none, 0, rfl, OI.none_ _ _, (by repeat (first | exact Below.refl _ _ | exact HB.out | refine Below.setCell ?_ (by simp <;> omega) _ | refine Below.alloc ?_ (by simp <;> omega) _ | refine below_drewN ?_ _))⟩
  · have HQ := Lib.hid hq
    have HQ2 := Lib.hid hq2
    clear hq hq2
    have hne2 : (W != V) = true := by simpa using hne
    go_enter Try.func22, Try.ntmps22
    go_wp2_with fail
    have HA := boxAlloc (boxAlloc (boxNew (W := W) (c := c) 26 h) (.cells #[.int .i64 V, .slice A2 n2 c2] 26)) (.cells #[.int .i64 0, .slice none 0 0] 26)
    have HD := boxAlloc (boxNew (wi := w.alloc (.cells #[.int .i64 W, .slice A n c] 26)) (W := V) (c := c2) 26 (h2.alloc _)) (.cells #[.int .i64 0, .slice none 0 0] 26)
    have HB := belAlloc (belAlloc (belAlloc (belRefl (w := w)) (.cells #[.int .i64 W, .slice A n c] 26)) (.cells #[.int .i64 V, .slice A2 n2 c2] 26)) (.cells #[.int .i64 0, .slice none 0 0] 26)
    have HC := cellNew ((w.alloc (.cells #[.int .i64 W, .slice A n c] 26)).alloc (.cells #[.int .i64 V, .slice A2 n2 c2] 26)) (.int .i64 0) (.slice none 0 0) 26
    refine (laGood_any W A n c zs _ HA.out.ri hn).mono ?_
    rw [HQ.out]
    rintro e w1 ⟨rfl, hb⟩
    replace HA := boxStep HA hb
    replace HD := boxStep HD hb
    replace HB := belStep HB hb
    replace HC := cellStep HC hb
    simp only [World.size_alloc] at HD HC
    have a0 := HA.out.c0; have a1 := HA.out.c1; have az := HA.out.lt
    have d0 := HD.out.c0; have d1 := HD.out.c1; have dz := HD.out.lt
    clear hb h h2
    go_wp2_with fail
    refine (laGood_any V A2 n2 c2 ys _ HD.out.ri hn2).mono ?_
    rw [HQ2.out]
    rintro e w2 ⟨rfl, hb⟩
    replace HA := boxStep HA hb
    replace HD := boxStep HD hb
    replace HB := belStep HB hb
    replace HC := cellStep HC hb
    replace a0 := HA.out.c0; replace a1 := HA.out.c1; replace az := HA.out.lt
    replace d0 := HD.out.c0; replace d1 := HD.out.c1; replace dz := HD.out.lt
    clear hb
    have k0 := HC.out.c0; have k1 := HC.out.c1; have f0 := HC.out.f0; have f1 := HC.out.f1; have hz := HC.out.lt
    go_wp2
    exact bodyPost_ret (v := .tuple #[.agg #[.int .i64 0, .slice none 0 0], .bool false]) (by simp [results, Try.results22, go_sem, k0, k1]) rfl ⟨none, 0, rfl, OI.none_ _ _, (by repeat (first | exact Below.refl _ _ | exact HB.out | refine Below.setCell ?_ (by simp <;> omega) _ | refine Below.alloc ?_ (by simp <;> omega) _ | refine below_drewN ?_ _))⟩

set_option maxRecDepth 100000 in
set_option maxHeartbeats 4000000 in
theorem sBelow_yes (W : Int) (A : Option Addr) (n c : Nat) (zs : List Int) (A2 : Option Addr) (n2 c2 : Nat) (ys : List Int) (w : World) (h : RI w A n zs) (hn60 : n ≤ 60) (h2 : RI w A2 n2 ys) (hn60' : n2 ≤ 60) (hq : lad W zs = true) (hq2 : lad W ys = true) (q : Bool) (hqq : q = lad W (zs ++ ys)) :
    Calls Try.prog 22 #[.agg #[.int .i64 W, .slice A n c], .agg #[.int .i64 W, .slice A2 n2 c2]] w
      (FreshLB w (ifW q W) (ifL q (zs ++ ys)).length (ifL q (zs ++ ys)) q) := by
  have hn : n ≤ 1048576 := by omega
  have hn2 : n2 ≤ 1048576 := by omega
  have hzl := h.1
  have hyl := h2.1
  have HQ := Lib.hid hq
  have HQ2 := Lib.hid hq2
  have HQQ := Lib.hid hqq
  obtain ⟨L, hL⟩ : ∃ L, L = zs ++ ys := ⟨_, rfl⟩
  rw [← hL] at HQQ ⊢
  have HL := Lib.hid hL
  have hal : L.length = n + n2 := by rw [hL, List.length_append, hzl, hyl]
  have hne2 : (W != W) = false := by simp
  clear hq hq2 hqq hL
  go_enter Try.func22, Try.ntmps22
  go_wp2_with fail
  have HA := boxAlloc (boxAlloc (boxNew (W := W) (c := c) 26 h) (.cells #[.int .i64 W, .slice A2 n2 c2] 26)) (.cells #[.int .i64 0, .slice none 0 0] 26)
  have HD := boxAlloc (boxNew (wi := w.alloc (.cells #[.int .i64 W, .slice A n c] 26)) (W := W) (c := c2) 26 (h2.alloc _)) (.cells #[.int .i64 0, .slice none 0 0] 26)
  have HB := belAlloc (belAlloc (belAlloc (belRefl (w := w)) (.cells #[.int .i64 W, .slice A n c] 26)) (.cells #[.int .i64 W, .slice A2 n2 c2] 26)) (.cells #[.int .i64 0, .slice none 0 0] 26)
  have HC := cellNew ((w.alloc (.cells #[.int .i64 W, .slice A n c] 26)).alloc (.cells #[.int .i64 W, .slice A2 n2 c2] 26)) (.int .i64 0) (.slice none 0 0) 26
  refine (laGood_any W A n c zs _ HA.out.ri hn).mono ?_
  rw [HQ.out]
  rintro e w1 ⟨rfl, hb⟩
  replace HA := boxStep HA hb
  replace HD := boxStep HD hb
  replace HB := belStep HB hb
  replace HC := cellStep HC hb
  simp only [World.size_alloc] at HD HC
  have a0 := HA.out.c0; have a1 := HA.out.c1; have az := HA.out.lt
  have d0 := HD.out.c0; have d1 := HD.out.c1; have dz := HD.out.lt
  clear hb h h2
  go_wp2_with fail
  refine (laGood_any W A2 n2 c2 ys _ HD.out.ri hn2).mono ?_
  rw [HQ2.out]
  rintro e w2 ⟨rfl, hb⟩
  replace HA := boxStep HA hb
  replace HD := boxStep HD hb
  replace HB := belStep HB hb
  replace HC := cellStep HC hb
  replace a0 := HA.out.c0; replace a1 := HA.out.c1; replace az := HA.out.lt
  replace d0 := HD.out.c0; replace d1 := HD.out.c1; replace dz := HD.out.lt
  clear hb
  have cz := HC.out.lt
  have a0' := HA.out.c0; have a1' := HA.out.c1; have d0' := HD.out.c0; have d1' := HD.out.c1
  have hz0 := HB.out.size
  go_upto_region 3 with fail
  go_region_held3 (fun w' => w'.cell? ⟨w.heap.size, 0, none⟩ = some (.int .i64 W) ∧ w'.cell? ⟨w.heap.size, 1, none⟩ = some (.slice A n c) ∧ w'.cell? ⟨w.heap.size + 1, 1, none⟩ = some (.slice A2 n2 c2))
    (first | exact ⟨HA.out.c0, HA.out.c1, HD.out.c1⟩ | exact ⟨H3.out.c0, H3.out.c1, D3.out.c1⟩ | exact ⟨H4.out.c0, H4.out.c1, D4.out.c1⟩ | exact ⟨H6.out.c0, H6.out.c1, D6.out.c1⟩ | exact ⟨farSet2 H6.out.c0 (by omega), farSet2 H6.out.c1 (by omega), farSet2 D6.out.c1 (by omega)⟩)
    (first
      | (go_at_call 41; refine (l1Own_any A n c zs _ (boxDrew HA).out.ri (by omega)).mono ?_; rintro e w3 ⟨A3, c3, rfl, o3, hb3⟩; have H3 := boxStep (boxDrew HA) hb3; have D3 := boxStep (boxDrew HD) hb3; have B3 := belStep (belDrew HB) hb3; have C3 := cellStep (cellDrew HC) hb3; have O3 : Hid (OI w3 w2.heap.size A3 n c3 zs) := o3; have z3 : w2.heap.size ≤ w3.heap.size := hb3.size; have BX3 : Hid (Below w2.heap.size w2 w3) := (Below.refl _ _).drew.trans hb3; clear hb3 o3)
      | (refine step_append_ints _ rfl (.tmp 26) (.tmp 28) rfl w2.heap.size A3 n c3 zs A2 n2 c2 ys rfl rfl O3.out D3.out.ri (by omega) (by omega) z3 ?_; intro A4 c4 w4 ho4 hg4; have b34 : Below w2.heap.size w3 w4 := ofMark O3.out hg4 (Nat.le_refl _) z3; have BX4 : Hid (Below w2.heap.size w2 w4) := BX3.out.trans b34; have H4 := boxOfB HA BX4.out; have D4 := boxOfB HD BX4.out; have C4 := cellBelow HC cz BX4.out; have B4 : Hid (Below w.heap.size w w4) := HB.out.trans (BX4.out.mono hz0); have O4 : Hid (OI w4 w2.heap.size A4 (n + n2) c4 L) := (by show OI w4 w2.heap.size A4 (n + n2) c4 L; rw [HL.out]; exact ho4); clear ho4 hg4 b34)
      | (go_at_call 40; refine (laIf_own W A4 (n + n2) c4 L w2.heap.size _ O4.out (by omega)).mono ?_; rw [← HQQ.out]; rintro e w6 ⟨A6, c6, rfl, o6, hb6⟩; have H6 := boxStep H4 hb6; have D6 := boxStep D4 hb6; have B6 := belStep B4 hb6; have C6 := cellStep C4 hb6; have O6 := Lib.hid o6; have k0 := C6.out.c0; have k1 := C6.out.c1; have f0 := C6.out.f0; have f1 := C6.out.f1; have cz6 := C6.out.lt; clear o6 hb6))
  go_wp2
  exact bodyPost_ret (v := .tuple #[.agg #[.int .i64 (ifW q W), .slice A6 (ifL q L).length c6], .bool q]) (by simp [results, Try.results22, go_sem, k0, k1]) rfl
    ⟨A6, c6, rfl, ((O6.out.setBelow (p := ⟨w.heap.size + 1 + 1, 0, none⟩) (by simp <;> omega) _).setBelow (p := ⟨w.heap.size + 1 + 1, 1, none⟩) (by simp <;> omega) _).mono (B' := w.heap.size) (by omega), (B6.out.setCell (p := ⟨w.heap.size + 1 + 1, 0, none⟩) (by simp <;> omega) _).setCell (p := ⟨w.heap.size + 1 + 1, 1, none⟩) (by simp <;> omega) _⟩

theorem sBelowLadder_any (W : Int) (A : Option Addr) (n c : Nat) (zs : List Int) (V : Int) (A2 : Option Addr) (n2 c2 : Nat) (ys : List Int) (w : World) (h : RI w A n zs) (hn : n ≤ 1048576) (h2 : RI w A2 n2 ys) (hn2 : n2 ≤ 1048576) :
    Calls Try.prog 22 #[.agg #[.int .i64 W, .slice A n c], .agg #[.int .i64 V, .slice A2 n2 c2]] w
      (FreshLB w (ifW (bwB W zs V ys) W) (ifL (bwB W zs V ys) (zs ++ ys)).length (ifL (bwB W zs V ys) (zs ++ ys)) (bwB W zs V ys)) := by
  rcases hq : lad W zs with _ | _
  · rw [bwB_1 hq, ifW_no, ifL_no]
    exact sBelow_no W A n c zs V A2 n2 c2 ys w h hn h2 hn2 (.inl hq)
  · rcases hq2 : lad V ys with _ | _
    · rw [bwB_2 hq2, ifW_no, ifL_no]
      exact sBelow_no W A n c zs V A2 n2 c2 ys w h hn h2 hn2 (.inr (.inl ⟨hq, hq2⟩))
    · by_cases he : W = V
      · subst he
        have l1 := (lad_iff.1 hq).2.1
        have l2 := (lad_iff.1 hq2).2.1
        rw [h.1] at l1
        rw [h2.1] at l2
        exact sBelow_yes W A n c zs A2 n2 c2 ys w h l1 h2 l2 hq hq2 _ (bwB_4 hq hq2)
      · rw [bwB_3 he, ifW_no, ifL_no]
        exact sBelow_no W A n c zs V A2 n2 c2 ys w h hn h2 hn2 (.inr (.inr ⟨hq, hq2, he⟩))
end Go.Proofs.Ytgadfjfokgodgaa
