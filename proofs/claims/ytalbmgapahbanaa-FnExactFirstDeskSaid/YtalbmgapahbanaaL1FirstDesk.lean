/- The law of FirstDesk, gone through: it returns true, and nothing that was there has turned. -/
import Derived.Test.YtalbmgapahbanaaDk1
import Derived.Test.YtalbmgapahbanaaStP
namespace Go.Proofs.Ytalbmgapahbanaa
open Go Go.RowKit

/-- three cells of a block -/
structure C3D (w : World) (b : Nat) (x y z : Value) : Prop where
  c0 : w.cell? ⟨b, 0, none⟩ = some x
  c1 : w.cell? ⟨b, 1, none⟩ = some y
  c2 : w.cell? ⟨b, 2, none⟩ = some z
  lt : b < w.heap.size
section
variable {w wi wj : World} {K b : Nat} {x y z : Value} {A : Option Addr} {n c : Nat} {xs : List Int}
theorem c3dNew (wi : World) (x y z : Value) (t : TypeId) : Hid (C3D (wi.alloc (.cells #[x, y, z] t)) wi.heap.size x y z) := ⟨by simp, by simp, by simp, by simp⟩
theorem c3dBelow (h : Hid (C3D wi b x y z)) (hl : b < K) (hb : Below K wi wj) : Hid (C3D wj b x y z) :=
  ⟨(hb.cell (p := ⟨b, 0, none⟩) hl).trans h.out.c0, (hb.cell (p := ⟨b, 1, none⟩) hl).trans h.out.c1, (hb.cell (p := ⟨b, 2, none⟩) hl).trans h.out.c2, Nat.lt_of_lt_of_le h.out.lt hb.size⟩
theorem c3dKept {A' : Option Addr} (h : Hid (C3D wi b x y z)) (hg : wi.grownBy wj (blk A')) (hlt : Hid (∀ b', blk A' = some b' → b' < b)) : Hid (C3D wj b x y z) := by
  have e : wj.heap[b]? = wi.heap[b]? := hg.block b h.out.lt (fun e => by have := hlt.out b e.symm; omega)
  exact ⟨(World.cell?_of_block (w := wi) (a := ⟨b, 0, none⟩) e).trans h.out.c0, (World.cell?_of_block (w := wi) (a := ⟨b, 1, none⟩) e).trans h.out.c1, (World.cell?_of_block (w := wi) (a := ⟨b, 2, none⟩) e).trans h.out.c2, Nat.lt_of_lt_of_le h.out.lt hg.size⟩
theorem dboxBelow {W : Int} {t : Bool} (h : Hid (DBox wi b W A n c t xs)) (hr : Hid (RB wi K A n xs)) (hl : b < K) (hb : Below K wi wj) : Hid (DBox wj b W A n c t xs) :=
  ⟨(hb.cell (p := ⟨b, 0, none⟩) hl).trans h.out.c0, (hb.cell (p := ⟨b, 1, none⟩) hl).trans h.out.c1, (hb.cell (p := ⟨b, 2, none⟩) hl).trans h.out.c2, (hr.out.step hb).ri, Nat.lt_of_lt_of_le h.out.lt hb.size⟩
theorem c3dStep (h : Hid (C3D wi b x y z)) (hb : Below wi.heap.size wi wj) : Hid (C3D wj b x y z) := c3dBelow h h.out.lt hb
end

set_option maxRecDepth 100000 in
set_option maxHeartbeats 1000000 in
theorem lawFirstDesk_any (w : World) : Calls Try.prog 3 #[] w (RetB true w) := by
  have e2 : ((1 : Int) + ((2 : Nat) : Int) != 1 + ((2 : Nat) : Int)) = false := by simp
  have HB := belRefl (w := w)
  go_enter Try.func3, Try.ntmps3
  go_wp2_with fail
  -- the model
  refine (sFirstDesk_any _).mono ?_
  rintro e w1 ⟨A0, c0, rfl, o0, hb⟩
  replace HB := belStep HB hb
  have O0 := Lib.hid o0
  clear hb o0
  go_wp2_with fail
  have HR := dboxNew (W := 3) (c := c0) (t := false) 26 O0.out.ri
  obtain ⟨K, hK⟩ : ∃ K, K = (w1.alloc (.cells #[.int .i64 3, .slice A0 2 c0, .bool false] 26)).heap.size := ⟨_, rfl⟩
  replace HB := belAlloc HB (.cells #[.int .i64 3, .slice A0 2 c0, .bool false] 26)
  have SP := spNew HB
  rw [← hK] at SP
  have HRB : Hid (RB (w1.alloc (.cells #[.int .i64 3, .slice A0 2 c0, .bool false] 26)) K A0 2 [0, 1]) := by show RB _ K _ _ _; rw [hK]; exact RB.of_ri HR.out.ri
  have HRK : Hid (w1.heap.size < K) := by show w1.heap.size < K; rw [hK, World.size_alloc]; exact Nat.lt_succ_self _
  have HK := Lib.hid hK
  clear HB O0 hK
  -- the program
  refine (iFirstDesk_any _).mono ?_
  rintro e w4 ⟨A9, c9, rfl, o9, hb⟩
  have HN : Hid (OI w4 K A9 2 c9 [0, 1]) := by show OI _ K _ _ _ _; rw [HK.out]; exact o9
  have H34 : Hid (K ≤ w4.heap.size) := by show K ≤ w4.heap.size; rw [HK.out]; exact hb.size
  have HL9 := blkLt o9
  replace HR := dboxStep HR hb
  replace HRB := rbCall SP HRB hb
  replace SP := spCall SP hb
  clear hb o9
  have r0 := HR.out.c0; have r1 := HR.out.c1; have r2 := HR.out.c2; have rz := HR.out.lt
  go_wp2_with fail
  have HG := c3dNew w4 (.int .i64 3) (.slice A9 2 c9) (.bool false) 26
  have hb := allocBel w4 (.cells #[.int .i64 3, .slice A9 2 c9, .bool false] 26)
  replace HR := dboxStep HR hb
  replace HRB := rbCall SP HRB hb
  replace HN := oiStep HN hb
  replace SP := spCall SP hb
  clear hb
  replace r0 := HR.out.c0; replace r1 := HR.out.c1; replace r2 := HR.out.c2; replace rz := HR.out.lt
  have g0 := HG.out.c0; have g1 := HG.out.c1; have g2 := HG.out.c2; have gz := HG.out.lt
  refine (eqDesk_any 3 A9 2 c9 [0, 1] false 3 A0 2 c0 [0, 1] false _ HN.out.ri HR.out.ri (by decide) (by decide)).mono ?_
  rw [dkSelf]
  rintro e w6 ⟨rfl, hb⟩
  replace HR := dboxStep HR hb; replace HRB := rbCall SP HRB hb; replace HN := oiStep HN hb; replace HG := c3dStep HG hb; replace SP := spCall SP hb; clear hb; replace r0 := HR.out.c0; replace r1 := HR.out.c1; replace r2 := HR.out.c2; replace rz := HR.out.lt; replace g0 := HG.out.c0; replace g1 := HG.out.c1; replace g2 := HG.out.c2; replace gz := HG.out.lt
  go_wp2_with fail
  refine (markDesk_any _ 3 A9 2 c9 false [0, 1] 1 _ HN.out (by decide) (by decide) (by decide)).mono ?_
  rintro e w9 ⟨rfl, o, hg⟩
  have hk := ofMark HN.out hg (Nat.le_refl _) SP.out.le'
  replace HG := c3dKept HG hg HL9
  replace HR := dboxBelow HR HRB HRK.out hk
  replace HRB := rbStep HRB hk
  replace SP := spStep SP hk
  replace HN := Lib.hid o
  clear hk hg o
  replace r0 := HR.out.c0; replace r1 := HR.out.c1; replace r2 := HR.out.c2; replace rz := HR.out.lt; replace g0 := HG.out.c0; replace g1 := HG.out.c1; replace g2 := HG.out.c2; replace gz := HG.out.lt
  go_wp2_with fail
  refine (heldDesk_any 3 A9 2 c9 false 1 _ HN.out.ri (by decide) (by decide) (by decide)).mono ?_
  rintro e w10 ⟨rfl, hb⟩
  replace HR := dboxStep HR hb; replace HRB := rbCall SP HRB hb; replace HN := oiStep HN hb; replace HG := c3dStep HG hb; replace SP := spCall SP hb; clear hb; replace r0 := HR.out.c0; replace r1 := HR.out.c1; replace r2 := HR.out.c2; replace rz := HR.out.lt; replace g0 := HG.out.c0; replace g1 := HG.out.c1; replace g2 := HG.out.c2; replace gz := HG.out.lt
  go_wp2_with fail
  refine (iFirstDesk_any _).mono ?_
  rintro e w11 ⟨A14, c14, rfl, o14, hb⟩
  replace HR := dboxStep HR hb; replace HRB := rbCall SP HRB hb; replace HN := oiStep HN hb; replace HG := c3dStep HG hb; replace SP := spCall SP hb; clear hb; replace r0 := HR.out.c0; replace r1 := HR.out.c1; replace r2 := HR.out.c2; replace rz := HR.out.lt; replace g0 := HG.out.c0; replace g1 := HG.out.c1; replace g2 := HG.out.c2; replace gz := HG.out.lt
  have H14 := oiAlloc (Lib.hid o14) (.cells #[.int .i64 3, .slice A14 2 c14, .bool false] 26)
  clear o14
  go_wp2_with fail
  have hb := allocBel w11 (.cells #[.int .i64 3, .slice A14 2 c14, .bool false] 26)
  replace HR := dboxStep HR hb; replace HRB := rbCall SP HRB hb; replace HN := oiStep HN hb; replace HG := c3dStep HG hb; replace SP := spCall SP hb; clear hb; replace r0 := HR.out.c0; replace r1 := HR.out.c1; replace r2 := HR.out.c2; replace rz := HR.out.lt; replace g0 := HG.out.c0; replace g1 := HG.out.c1; replace g2 := HG.out.c2; replace gz := HG.out.lt
  refine (eqDesk_any 3 A14 2 c14 [0, 1] false 3 A0 2 c0 [0, 1] false _ H14.out.ri HR.out.ri (by decide) (by decide)).mono ?_
  rw [dkSelf]
  rintro e w12 ⟨rfl, hb⟩
  replace HR := dboxStep HR hb; replace HRB := rbCall SP HRB hb; replace HN := oiStep HN hb; replace HG := c3dStep HG hb; replace SP := spCall SP hb; clear hb; replace r0 := HR.out.c0; replace r1 := HR.out.c1; replace r2 := HR.out.c2; replace rz := HR.out.lt; replace g0 := HG.out.c0; replace g1 := HG.out.c1; replace g2 := HG.out.c2; replace gz := HG.out.lt
  clear H14
  go_wp2_with fail
  refine (heldDesk_any 3 A9 2 c9 false 1 _ HN.out.ri (by decide) (by decide) (by decide)).mono ?_
  rintro e w13 ⟨rfl, hb⟩
  replace HR := dboxStep HR hb; replace HRB := rbCall SP HRB hb; replace HN := oiStep HN hb; replace HG := c3dStep HG hb; replace SP := spCall SP hb; clear hb; replace r0 := HR.out.c0; replace r1 := HR.out.c1; replace r2 := HR.out.c2; replace rz := HR.out.lt; replace g0 := HG.out.c0; replace g1 := HG.out.c1; replace g2 := HG.out.c2; replace gz := HG.out.lt
  go_wp2_with fail
  go_ret
  exact ⟨rfl, SP.out.bel⟩
end Go.Proofs.Ytalbmgapahbanaa
