/- The door of the draw of two ladders; kLadder, kResult. -/
import Derived.Test.YtgadfjfokgodgaaCu8
import Derived.Test.YtgadfjfokgodgaaKk1
import Derived.Test.YtgadfjfokgodgaaMgP
namespace Go.Proofs.Ytgadfjfokgodgaa
open Go Go.RowKit

set_option maxRecDepth 100000 in
set_option maxHeartbeats 1000000 in
theorem drawBelowLadder_any (A : Option Addr) (n c : Nat) (bs : List Int) (w : World) (h : BI w A n bs) (hn : n ≤ 1048576) : Calls Try.prog 20 #[.slice A n c] w (FreshLL2 w 61) := by
  have h1 : BI ((w.alloc (.cells #[.int .i64 0, .slice none 0 0] 26)).alloc (.cells #[.int .i64 0, .slice none 0 0] 26)) A n bs := (h.below (allocBel _ _) (Nat.le_refl _)).below (allocBel _ _) (Nat.le_refl _)
  have HC := Lib.hid (Cur.new ((w.alloc (.cells #[.int .i64 0, .slice none 0 0] 26)).alloc (.cells #[.int .i64 0, .slice none 0 0] 26)) A n c bs 59 h1)
  rw [World.size_alloc, World.size_alloc] at HC
  have HR0 : Hid (LB (((w.alloc (.cells #[.int .i64 0, .slice none 0 0] 26)).alloc (.cells #[.int .i64 0, .slice none 0 0] 26)).alloc (.cells #[.slice A n c, .int .i64 0, .int .u64 0] 59)) w.heap.size (.int .i64 0) (.slice none 0 0)) := ((LB.new w _ _).alloc _).alloc _
  have HS0 : Hid (LB (((w.alloc (.cells #[.int .i64 0, .slice none 0 0] 26)).alloc (.cells #[.int .i64 0, .slice none 0 0] 26)).alloc (.cells #[.slice A n c, .int .i64 0, .int .u64 0] 59)) (w.heap.size + 1) (.int .i64 0) (.slice none 0 0)) := (LB.new2 w _ _ _).alloc _
  have HB0 : Hid (Below w.heap.size w (((w.alloc (.cells #[.int .i64 0, .slice none 0 0] 26)).alloc (.cells #[.int .i64 0, .slice none 0 0] 26)).alloc (.cells #[.slice A n c, .int .i64 0, .int .u64 0] 59))) := (((Below.refl _ _).alloc (Nat.le_refl _) _).alloc (by simp) _).alloc (by simp; omega) _
  clear h h1
  go_enter Try.func20, Try.ntmps20
  go_wp2_with fail
  refine (twoLadders_any (w.heap.size + 1 + 1) A n c bs 0 _ HC.out hn (by omega)).mono ?_
  rintro e w1 ⟨W, V, zs, ys, A2, n2, c2, A3, n3, c3, rfl, hn2, hn3, ho, hp, hc, hg⟩
  have HR1 : Hid (LB w1 w.heap.size (.int .i64 0) (.slice none 0 0)) := HR0.out.grownB hg (by omega)
  have HS1 : Hid (LB w1 (w.heap.size + 1) (.int .i64 0) (.slice none 0 0)) := HS0.out.grownB hg (by omega)
  have HO1 : Hid (OI w1 w.heap.size A2 n2 c2 zs) := ho.mono (by simp; omega)
  have HP1 : Hid (OI w1 w.heap.size A3 n3 c3 ys) := hp.mono (by simp; omega)
  have HB1 : Hid (Below w.heap.size w w1) := belOfCur2 HB0.out (by omega) hg
  have r0 := HR1.out.cell2.c0; have r1 := HR1.out.cell2.c1; have rf0 := HR1.out.cell2.f0; have rf1 := HR1.out.cell2.f1; have rz := HR1.out.cell2.lt
  have s0 := HS1.out.cell2.c0; have s1 := HS1.out.cell2.c1; have sf0 := HS1.out.cell2.f0; have sf1 := HS1.out.cell2.f1; have sz := HS1.out.cell2.lt
  clear ho hp hc hg HC HR0 HS0 HB0
  go_wp2
  have g0 : w.heap.size + 1 ≠ w.heap.size := by omega
  have hR1 := LB.set1 (LB.set0 HR1.out (.int .i64 W)) (.slice A2 n2 c2)
  have hS1 := (HS1.out.other (p := ⟨w.heap.size, 0, none⟩) (fun e => g0 e.symm) (.int .i64 W)).other (p := ⟨w.heap.size, 1, none⟩) (fun e => g0 e.symm) (.slice A2 n2 c2)
  have hO1 := (HO1.out.setOther (p := ⟨w.heap.size, 0, none⟩) (HR1.out.ne HO1.out) (.int .i64 W)).setOther (p := ⟨w.heap.size, 1, none⟩) (HR1.out.ne HO1.out) (.slice A2 n2 c2)
  have hP1 := (HP1.out.setOther (p := ⟨w.heap.size, 0, none⟩) (HR1.out.ne HP1.out) (.int .i64 W)).setOther (p := ⟨w.heap.size, 1, none⟩) (HR1.out.ne HP1.out) (.slice A2 n2 c2)
  have hB1 := (HB1.out.setCell (p := ⟨w.heap.size, 0, none⟩) (Nat.le_refl _) (.int .i64 W)).setCell (p := ⟨w.heap.size, 1, none⟩) (Nat.le_refl _) (.slice A2 n2 c2)
  generalize (w1.setCell ⟨w.heap.size, 0, none⟩ (.int .i64 W)).setCell ⟨w.heap.size, 1, none⟩ (.slice A2 n2 c2) = w5 at hR1 hS1 hO1 hP1 hB1 ⊢
  have hR2 := (hR1.other (p := ⟨w.heap.size + 1, 0, none⟩) g0 (.int .i64 V)).other (p := ⟨w.heap.size + 1, 1, none⟩) g0 (.slice A3 n3 c3)
  have hS2 := LB.set1 (LB.set0 hS1 (.int .i64 V)) (.slice A3 n3 c3)
  have hO2 := (hO1.setOther (p := ⟨w.heap.size + 1, 0, none⟩) (hS1.ne hO1) (.int .i64 V)).setOther (p := ⟨w.heap.size + 1, 1, none⟩) (hS1.ne hO1) (.slice A3 n3 c3)
  have hP2 := (hP1.setOther (p := ⟨w.heap.size + 1, 0, none⟩) (hS1.ne hP1) (.int .i64 V)).setOther (p := ⟨w.heap.size + 1, 1, none⟩) (hS1.ne hP1) (.slice A3 n3 c3)
  have hB2 := (hB1.setCell (p := ⟨w.heap.size + 1, 0, none⟩) (Nat.le_succ _) (.int .i64 V)).setCell (p := ⟨w.heap.size + 1, 1, none⟩) (Nat.le_succ _) (.slice A3 n3 c3)
  generalize (w5.setCell ⟨w.heap.size + 1, 0, none⟩ (.int .i64 V)).setCell ⟨w.heap.size + 1, 1, none⟩ (.slice A3 n3 c3) = wz at hR2 hS2 hO2 hP2 hB2 ⊢
  exact bodyPost_ret (v := .tuple #[.agg #[.int .i64 W, .slice A2 n2 c2], .agg #[.int .i64 V, .slice A3 n3 c3]]) (by simp [results, Try.results20, go_sem, hR2.cell2.c0, hR2.cell2.c1, hS2.cell2.c0, hS2.cell2.c1]) rfl
    ⟨W, V, zs, ys, A2, n2, c2, A3, n3, c3, rfl, hn2, hn3, hO2, hP2, hB2⟩

set_option maxHeartbeats 400000 in
theorem kLadder_any (W : Int) (A : Option Addr) (n c : Nat) (zs : List Int) (V : Int) (B : Option Addr) (m d : Nat) (ys : List Int) (w : World) (h : RI w A n zs) (g : RI w B m ys) (hn : n ≤ 1048576) (hm : m ≤ 1048576) :
    Calls Try.prog 23 #[.agg #[.int .i64 W, .slice A n c], .agg #[.int .i64 V, .slice B m d]] w (RetB (decide (W = V) && eqB zs ys) w) := by
  obtain ⟨q, hq⟩ : ∃ q, q = eqB zs ys := ⟨_, rfl⟩
  have HQ := Lib.hid hq
  rw [← hq]
  clear hq
  by_cases hWV : W = V
  · subst hWV
    have e1 : (W == W) = true := by simp
    go_enter Try.func23, Try.ntmps23
    go_wp2_with (go_at_call 14; refine (kSame_any A n c zs B m d ys _ ?h1 ?h2 hn hm).mono ?_; (case h1 => exact (h.alloc _).alloc _); (case h2 => exact (g.alloc _).alloc _); rw [← HQ.out]; rintro e w1 ⟨rfl, hb⟩; have HB : Hid (Below w.heap.size w w1) := Below.trans (by repeat (first | exact Below.refl _ _ | exact HB.out | refine Below.setCell ?_ (by simp <;> omega) _ | refine Below.alloc ?_ (by simp <;> omega) _ | refine below_drewN ?_ _)) (hb.mono (by simp <;> omega)); clear hb)
    all_goals
      go_ret
      exact ⟨ret_b (by simp), HB.out⟩
  · have e1 : (W == V) = false := by simp [hWV]
    have e2 : decide (W = V) = false := by simp [hWV]
    have E2 := Lib.hid e2
    clear hWV e2
    go_enter Try.func23, Try.ntmps23
    go_wp2
    go_ret
    exact ⟨ret_b (by rw [E2.out]; rfl), (by repeat (first | exact Below.refl _ _ | exact HB.out | refine Below.setCell ?_ (by simp <;> omega) _ | refine Below.alloc ?_ (by simp <;> omega) _ | refine below_drewN ?_ _))⟩

set_option maxHeartbeats 400000 in
theorem kResult_any (W : Int) (A : Option Addr) (n c : Nat) (zs : List Int) (w : World) (h : RI w A n zs) (hn : n ≤ 1048576) :
    Calls Try.prog 25 #[.agg #[.int .i64 W, .slice A n c]] w (FreshI w (resN W zs).length (resN W zs)) := by
  rcases hq : lad W zs with _ | _
  · have HQ := Lib.hid hq
    have E : Hid (resN W zs = []) := resN_no hq
    clear hq
    go_enter Try.func25, Try.ntmps25
    go_wp2_with fail
    refine (iResultOf_any W A n c zs _ (by first | exact h | exact h.alloc _) hn).mono ?_
    rw [HQ.out]
    rintro e w1 ⟨A1, c1, rfl, ho, hb⟩
    have HB : Hid (Below w.heap.size w w1) := Below.trans (by repeat (first | exact Below.refl _ _ | exact HB.out | refine Below.setCell ?_ (by simp <;> omega) _ | refine Below.alloc ?_ (by simp <;> omega) _ | refine below_drewN ?_ _)) (hb.mono (by simp <;> omega))
    clear ho hb h
    go_wp2
    go_ret
    exact ⟨none, 0, by rw [E.out]; rfl, by rw [E.out]; exact OI.none_ _ _, HB.out⟩
  · have HQ := Lib.hid hq
    clear hq
    go_enter Try.func25, Try.ntmps25
    go_wp2_with fail
    refine (iResultOf_any W A n c zs _ (by first | exact h | exact h.alloc _) hn).mono ?_
    rw [HQ.out]
    rintro e w1 ⟨A1, c1, rfl, ho, hb⟩
    have HB : Hid (Below w.heap.size w w1) := Below.trans (by repeat (first | exact Below.refl _ _ | exact HB.out | refine Below.setCell ?_ (by simp <;> omega) _ | refine Below.alloc ?_ (by simp <;> omega) _ | refine below_drewN ?_ _)) (hb.mono (by simp <;> omega))
    have HO := Lib.hid (ho.mono (B' := w.heap.size) (by simp <;> omega))
    clear ho hb h
    go_wp2
    go_ret
    exact ⟨A1, c1, rfl, HO.out, HB.out⟩
end Go.Proofs.Ytgadfjfokgodgaa
