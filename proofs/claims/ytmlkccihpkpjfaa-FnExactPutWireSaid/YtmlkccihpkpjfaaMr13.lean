/- PutWire, of the program, where no rung is in the way. -/
import Derived.Test.YtmlkccihpkpjfaaMr12
namespace Go.Proofs.Ytmlkccihpkpjfaa
open Go Go.RowKit

set_option maxRecDepth 100000 in
set_option maxHeartbeats 1000000 in
theorem iPutWire_ok (W : Int) (A : Option Addr) (n c : Nat) (zs : List Int) (a : Int) (w : World) (h : RI w A n zs) (hn : n ≤ 1048576) (hq : lad W zs = true) (ha : 0 ≤ a ∧ a ≤ W) (hh : hasM zs (a - 1) = false) :
    Calls Try.prog 24 #[.agg #[.int .i64 W, .slice A n c], .int .i64 a] w (FreshLB w (ifW (pwtB W zs a) (W + 1)) (ifL (pwtB W zs a) (putL zs a)).length (ifL (pwtB W zs a) (putL zs a)) (pwtB W zs a)) := by
  have hl := h.1
  have hmf : ∀ (fn : Fn) (first cap : Array Value) (w : World), (Instr.makeFunc fn first cap).run Try.prog w = .ok (.func fn first cap) w := fun _ _ _ _ => rfl
  have HA := boxAlloc (boxAlloc (boxNew (W := W) (c := c) 26 h) (.cells #[.int .i64 0, .slice none 0 0] 26)) (.cells #[.bool false] 4)
  have HB := belAlloc (belAlloc (belAlloc (belRefl (w := w)) (.cells #[.int .i64 W, .slice A n c] 26)) (.cells #[.int .i64 0, .slice none 0 0] 26)) (.cells #[.bool false] 4)
  have HC := cellAlloc (cellNew (w.alloc (.cells #[.int .i64 W, .slice A n c] 26)) (.int .i64 0) (.slice none 0 0) 26) (.cells #[.bool false] 4)
  have HD := c1mNew ((w.alloc (.cells #[.int .i64 W, .slice A n c] 26)).alloc (.cells #[.int .i64 0, .slice none 0 0] 26)) (.bool false) 4
  simp only [World.size_alloc] at HC HD
  have HI := Lib.hid (fun w2 (r : RI w2 A n zs) => iIsLadder_any W A n c zs w2 r hn)
  rw [hq] at HI
  have hW := (lad_iff.1 hq).1
  have hn60 : n ≤ 60 := by have := (lad_iff.1 hq).2.1; omega
  have hsm : ∀ j, j < n → -1000 ≤ gi zs j ∧ gi zs j ≤ 1000 := fun j hj => by have := lad_at hq (j := j) (by omega); omega
  obtain ⟨V, hV⟩ : ∃ V, V = W + 1 := ⟨_, rfl⟩
  have hwv : IntKind.i64.wrap (W + 1) = V := by rw [IntWalk.i64_in _ (by omega), hV]
  have HV := Lib.hid hV
  rw [pwt_4 hq ha hh]
  have HMR := Lib.hid (fun w2 (r : RI w2 A n zs) => madeRoom_any A n c zs a w2 r hn (by omega) hsm hh)
  have hpl : (putL zs a).length = n := by rw [putL_len, hl]
  obtain ⟨L, hL⟩ : ∃ L, L = putL zs a := ⟨_, rfl⟩
  rw [← hL] at hpl HMR ⊢
  obtain ⟨q, hqq⟩ : ∃ q, q = lad (W + 1) L := ⟨_, rfl⟩
  have HQQ := Lib.hid hqq
  rw [← hqq]
  rw [← hV] at HQQ ⊢
  clear hq h hh hL hqq hV hsm
  go_enter_defers Try.func24, Try.ntmps24
  have a0 := HA.out.c0; have a1 := HA.out.c1; have az := HA.out.lt
  go_wp2_with fail
  refine (HI.out _ HA.out.ri).mono ?_
  rintro e w1 ⟨rfl, hb⟩
  replace HA := boxStep HA hb; replace HB := belStep HB hb; replace HC := cellStep HC hb; replace HD := c1mStep HD hb
  replace a0 := HA.out.c0; replace a1 := HA.out.c1; replace az := HA.out.lt
  have hz1 := HD.out.lt
  clear hb
  go_wp2_with fail
  have HAD := boxDrew HA; have HBD := belDrew HB; have HCD := cellDrew HC; have HDD := c1mDrew HD
  go_region_held3 (fun w' => w'.cell? ⟨w.heap.size, 0, none⟩ = some (.int .i64 W) ∧ w'.cell? ⟨w.heap.size, 1, none⟩ = some (.slice A n c))
    (with_reducible first | exact ⟨HAD.out.c0, HAD.out.c1⟩ | exact ⟨HA.out.c0, HA.out.c1⟩ | exact ⟨HA6.out.c0, HA6.out.c1⟩ | exact ⟨(boxAlloc HA6 _).out.c0, (boxAlloc HA6 _).out.c1⟩ | exact ⟨HA7.out.c0, HA7.out.c1⟩ | exact ⟨farSet2 HA7.out.c0 (by omega), farSet2 HA7.out.c1 (by omega)⟩ | exact ⟨(World.cell?_setCell_other _ _ _ _ (by simp)).trans (farSet2 HA7.out.c0 (by omega)), (World.cell?_setCell_other _ _ _ _ (by simp)).trans (farSet2 HA7.out.c1 (by omega))⟩)
    (first
      | (go_at_call 55; refine (HMR.out _ HAD.out.ri).mono ?_; rintro e w6 ⟨A6, c6, rfl, o6, hb⟩; have HA6 := boxStep HAD hb; have HB6 := belStep HBD hb; have HC6 := cellStep HCD hb; have HD6 := c1mStep HDD hb; have O6 := Lib.hid o6; have hz6 : w1.heap.size ≤ w6.heap.size := hb.size; have PT := Lib.hid (Parts.one (c := c6) o6.ri); clear hb o6)
      | (go_at_call 43; refine (ladderOf_any V _ 1 1 _ _ _ _ _ PT.out (by omega) L (cat_one _) (by omega)).mono ?_; rw [← HQQ.out]; rintro e w7 ⟨A7, c7, rfl, o7, hb⟩; have HA7 := boxStep (boxAlloc HA6 _) hb; have HB7 := belStep (belAlloc HB6 _) hb; have HC7 := cellStep (cellAlloc HC6 _) hb; have HD7 := c1mStep (c1mAlloc HD6 _) hb; have O7 : Hid (OI w7 w1.heap.size A7 (ifL q L).length c7 (ifL q L)) := o7.mono (by simp; omega); have k0 := HC7.out.c0; have k1 := HC7.out.c1; have f0 := HC7.out.f0; have f1 := HC7.out.f1; have d0 := HD7.out.c0; have df0 := HD7.out.f0; clear hb o7))
  have HB := HB7
  go_wp2
  have k0 := HC7.out.c0; have k1 := HC7.out.c1; have hz := HC7.out.lt; have d0 := HD7.out.c0; have dz := HD7.out.lt
  refine leaves_cons (f := 54) (args := #[.pointer (some ⟨w.heap.size + 1, 0, none⟩), .pointer (some ⟨w.heap.size + 1 + 1, 0, none⟩)]) (by simp) (by simp [go_sem]) ?_
  refine (pwIdle _ _ _).mono ?_
  rintro e u' w9 ⟨rfl, rfl, hb9⟩
  have HB9 := belStep (w := w) (by show Hid _; exact (by repeat (first | exact Below.refl _ _ | exact HB.out | refine Below.setCell ?_ (by simp <;> omega) _ | refine Below.alloc ?_ (by simp <;> omega) _ | refine below_drewN ?_ _))) hb9
  have O9 := oiStep (Lib.hid (((O7.out.setBelow (show w.heap.size + 1 < w1.heap.size by omega) (.int .i64 (ifW q V))).setBelow (show w.heap.size + 1 < w1.heap.size by omega) (.slice A7 (ifL q L).length c7)).setBelow (show w.heap.size + 1 + 1 < w1.heap.size by omega) (.bool q))) hb9
  have n0 := hb9.cell (p := ⟨w.heap.size + 1, 0, none⟩) (by simp; omega)
  have n1 := hb9.cell (p := ⟨w.heap.size + 1, 1, none⟩) (by simp; omega)
  have n2 := hb9.cell (p := ⟨w.heap.size + 1 + 1, 0, none⟩) (by simp; omega)
  simp [go_sem, k0, k1, d0] at n0 n1 n2
  exact ⟨.tuple #[.agg #[.int .i64 (ifW q V), .slice A7 (ifL q L).length c7], .bool q], by simp [results, Try.results24, go_sem, n0, n1, n2], A7, c7, rfl, O9.out.mono (by omega), HB9.out⟩

set_option maxRecDepth 100000 in
set_option maxHeartbeats 4000000 in
theorem iPutWire_any (W : Int) (A : Option Addr) (n c : Nat) (zs : List Int) (a : Int) (w : World) (h : RI w A n zs) (hn : n ≤ 1048576) :
    Calls Try.prog 24 #[.agg #[.int .i64 W, .slice A n c], .int .i64 a] w (FreshLB w (ifW (pwtB W zs a) (W + 1)) (ifL (pwtB W zs a) (putL zs a)).length (ifL (pwtB W zs a) (putL zs a)) (pwtB W zs a)) := by
  have hl := h.1
  have hmf : ∀ (fn : Fn) (first cap : Array Value) (w : World), (Instr.makeFunc fn first cap).run Try.prog w = .ok (.func fn first cap) w := fun _ _ _ _ => rfl
  have HA := boxAlloc (boxAlloc (boxNew (W := W) (c := c) 26 h) (.cells #[.int .i64 0, .slice none 0 0] 26)) (.cells #[.bool false] 4)
  have HB := belAlloc (belAlloc (belAlloc (belRefl (w := w)) (.cells #[.int .i64 W, .slice A n c] 26)) (.cells #[.int .i64 0, .slice none 0 0] 26)) (.cells #[.bool false] 4)
  have HC := cellAlloc (cellNew (w.alloc (.cells #[.int .i64 W, .slice A n c] 26)) (.int .i64 0) (.slice none 0 0) 26) (.cells #[.bool false] 4)
  have HD := c1mNew ((w.alloc (.cells #[.int .i64 W, .slice A n c] 26)).alloc (.cells #[.int .i64 0, .slice none 0 0] 26)) (.bool false) 4
  simp only [World.size_alloc] at HC HD
  have HI := Lib.hid (fun w2 (r : RI w2 A n zs) => iIsLadder_any W A n c zs w2 r hn)
  rcases hq : lad W zs with _ | _
  · rw [pwt_1 hq, ifW_no, ifL_no]
    rw [hq] at HI
    clear hq h
    go_enter_defers Try.func24, Try.ntmps24
    go_wp2_with fail
    refine (HI.out _ HA.out.ri).mono ?_
    rintro e w1 ⟨rfl, hb⟩
    replace HB := belStep HB hb; replace HC := cellStep HC hb; replace HD := c1mStep HD hb
    have k0 := HC.out.c0; have k1 := HC.out.c1; have f0 := HC.out.f0; have f1 := HC.out.f1; have hz := HC.out.lt
    have d0 := HD.out.c0; have df0 := HD.out.f0; have dz := HD.out.lt
    clear hb
    go_wp2
    exact ⟨.tuple #[.agg #[.int .i64 0, .slice none 0 0], .bool false], by simp [results, Try.results24, go_sem, k0, k1, d0], none, 0, rfl, OI.none_ _ _, (by repeat (first | exact Below.refl _ _ | exact HB.out | refine Below.setCell ?_ (by simp <;> omega) _ | refine Below.alloc ?_ (by simp <;> omega) _ | refine below_drewN ?_ _))⟩
  · rw [hq] at HI
    have hW := (lad_iff.1 hq).1
    by_cases ha : 0 ≤ a ∧ a ≤ W
    · rcases hh : hasM zs (a - 1) with _ | _
      · exact iPutWire_ok W A n c zs a w h hn hq ha hh
      · exact iPutWire_cut W A n c zs a w h hn hq ha hh
    · rw [pwt_2 ha, ifW_no, ifL_no]
      clear hq h
      go_enter_defers Try.func24, Try.ntmps24
      have a0 := HA.out.c0; have a1 := HA.out.c1; have az := HA.out.lt
      go_wp2_with fail
      refine (HI.out _ HA.out.ri).mono ?_
      rintro e w1 ⟨rfl, hb⟩
      replace HA := boxStep HA hb; replace HB := belStep HB hb; replace HC := cellStep HC hb; replace HD := c1mStep HD hb
      replace a0 := HA.out.c0; replace a1 := HA.out.c1; replace az := HA.out.lt
      have k0 := HC.out.c0; have k1 := HC.out.c1; have f0 := HC.out.f0; have f1 := HC.out.f1; have hz := HC.out.lt
      have d0 := HD.out.c0; have df0 := HD.out.f0; have dz := HD.out.lt
      clear hb
      by_cases ha1 : a < 0
      · go_wp2
        exact ⟨.tuple #[.agg #[.int .i64 0, .slice none 0 0], .bool false], by simp [results, Try.results24, go_sem, k0, k1, d0], none, 0, rfl, OI.none_ _ _, (by repeat (first | exact Below.refl _ _ | exact HB.out | refine Below.setCell ?_ (by simp <;> omega) _ | refine Below.alloc ?_ (by simp <;> omega) _ | refine below_drewN ?_ _))⟩
      · have ha2 : W < a := by omega
        go_wp2
        exact ⟨.tuple #[.agg #[.int .i64 0, .slice none 0 0], .bool false], by simp [results, Try.results24, go_sem, k0, k1, d0], none, 0, rfl, OI.none_ _ _, (by repeat (first | exact Below.refl _ _ | exact HB.out | refine Below.setCell ?_ (by simp <;> omega) _ | refine Below.alloc ?_ (by simp <;> omega) _ | refine below_drewN ?_ _))⟩
end Go.Proofs.Ytmlkccihpkpjfaa
