/- The law of BrickLadder, gone through: it returns true, and nothing that was there has turned. -/
import Derived.Test.YtnhhbpogjhcibaaBk2
import Derived.Test.YtnhhbpogjhcibaaStP
import Derived.Test.YtnhhbpogjhcibaaStL
namespace Go.Proofs.Ytnhhbpogjhcibaa
open Go Go.RowKit

set_option maxRecDepth 100000 in
set_option maxHeartbeats 16000000 in
theorem lawBrickLadder_of (x y : Int) (w : World) (V : Int) (m : Nat) (ys : List Int) (q : Bool) (hm3 : m ≤ 1048576)
    (hS : Hid (∀ (w2 : World), Calls Try.prog 41 #[.int .i64 x, .int .i64 y] w2 (FreshLB w2 V m ys q)))
    (hI : Hid (∀ (w2 : World), Calls Try.prog 42 #[.int .i64 x, .int .i64 y] w2 (FreshLB w2 V m ys q))) :
    Calls Try.prog 11 #[.int .i64 x, .int .i64 y] w (RetB true w) := by
  have e0 : (q != q) = false := by simp
  have e2 : ((1 : Int) + (m : Int) != 1 + (m : Int)) = false := by simp
  have HB := belRefl (w := w)
  go_enter Try.func11, Try.ntmps11
  -- the model
  go_wp2_with fail
  refine (hS.out _).mono ?_
  rintro e w3 ⟨A0, c0, rfl, o3, hb⟩
  replace HB := belStep HB hb
  have O3 := Lib.hid o3
  clear hb o3
  go_wp2_with fail
  have HW0 := boxNew (W := V) (c := c0) 24 O3.out.ri
  replace HB := belAlloc HB (.cells #[.int .i64 V, .slice A0 m c0] 24)
  have SP := spNew HB
  have HR : Hid (BoxB (w3.alloc (.cells #[.int .i64 V, .slice A0 m c0] 24)) (w3.alloc (.cells #[.int .i64 V, .slice A0 m c0] 24)).heap.size w3.heap.size V A0 m c0 ys) := BoxB.of HW0.out
  obtain ⟨K, hK⟩ : ∃ K, K = (w3.alloc (.cells #[.int .i64 V, .slice A0 m c0] 24)).heap.size := ⟨_, rfl⟩
  rw [← hK] at SP HR
  have HK := Lib.hid hK
  clear HB O3 HW0 hK
  -- the program
  have r0 := HR.out.c0
  have r1 := HR.out.c1
  have rz := Nat.lt_of_lt_of_le HR.out.lt SP.out.le'
  refine (hI.out _).mono ?_
  rintro e w5 ⟨A9, c9, rfl, o9, hb⟩
  have HN : Hid (OI w5 K A9 m c9 ys) := by show OI _ K A9 m c9 ys; rw [HK.out]; exact o9
  have HL9 := blkLt o9
  replace HR := bxSp SP HR hb
  replace SP := spCall SP hb
  replace r0 := HR.out.c0
  replace r1 := HR.out.c1
  replace rz := Nat.lt_of_lt_of_le HR.out.lt SP.out.le'
  clear hb o9
  go_wp2_with fail
  have HG := cellNew w5 (.int .i64 V) (.slice A9 m c9) 24
  replace HR := bxSp SP HR (allocBel w5 (.cells #[.int .i64 V, .slice A9 m c9] 24))
  replace HN := oiStep HN (allocBel w5 (.cells #[.int .i64 V, .slice A9 m c9] 24))
  replace SP := spCall SP (allocBel w5 (.cells #[.int .i64 V, .slice A9 m c9] 24))
  replace r0 := HR.out.c0
  replace r1 := HR.out.c1
  replace rz := Nat.lt_of_lt_of_le HR.out.lt SP.out.le'
  replace r0 := HR.out.c0
  replace r1 := HR.out.c1
  replace rz := Nat.lt_of_lt_of_le HR.out.lt SP.out.le'
  have g0 := HG.out.c0
  have g1 := HG.out.c1
  have gz := HG.out.lt
  refine (eqLadder_any V A9 m c9 ys V A0 m c0 ys _ HN.out.ri HR.out.rb.ri hm3 hm3).mono ?_
  rw [(eqSelf V ys).out]
  rintro e w6 ⟨rfl, hb⟩
  replace HR := bxSp SP HR hb
  replace HN := oiStep HN hb
  replace HG := cellStep HG hb
  replace SP := spCall SP hb
  replace r0 := HR.out.c0
  replace r1 := HR.out.c1
  replace rz := Nat.lt_of_lt_of_le HR.out.lt SP.out.le'
  replace g0 := HG.out.c0
  replace g1 := HG.out.c1
  replace gz := HG.out.lt
  clear hb
  go_wp2_with fail
  -- the answer is marked
  refine (markLadder_any _ V A9 m c9 ys 1 _ HN.out hm3 (by omega) (by omega)).mono ?_
  rintro e w11 ⟨rfl, o, hg⟩
  have hk := ofMark HN.out hg (Nat.le_refl _) SP.out.le'
  replace HG := cellKept HG hg HL9
  replace HR := bxK HR hk
  replace SP := spStep SP hk
  replace HN := Lib.hid o
  clear hk hg o
  replace r0 := HR.out.c0
  replace r1 := HR.out.c1
  replace rz := Nat.lt_of_lt_of_le HR.out.lt SP.out.le'
  replace g0 := HG.out.c0
  replace g1 := HG.out.c1
  replace gz := HG.out.lt
  go_wp2_with fail
  refine (heldLadder_any V A9 m c9 1 _ HN.out.ri hm3 (by omega) (by omega)).mono ?_
  rintro e w12 ⟨rfl, hb⟩
  replace HR := bxSp SP HR hb
  replace HN := oiStep HN hb
  replace HG := cellStep HG hb
  replace SP := spCall SP hb
  replace r0 := HR.out.c0
  replace r1 := HR.out.c1
  replace rz := Nat.lt_of_lt_of_le HR.out.lt SP.out.le'
  replace g0 := HG.out.c0
  replace g1 := HG.out.c1
  replace gz := HG.out.lt
  clear hb
  -- once more
  go_wp2_with fail
  refine (hI.out _).mono ?_
  rintro e w14 ⟨A14, c14, rfl, o14, hb⟩
  replace HR := bxSp SP HR hb
  replace HN := oiStep HN hb
  replace HG := cellStep HG hb
  replace SP := spCall SP hb
  replace r0 := HR.out.c0
  replace r1 := HR.out.c1
  replace rz := Nat.lt_of_lt_of_le HR.out.lt SP.out.le'
  replace g0 := HG.out.c0
  replace g1 := HG.out.c1
  replace gz := HG.out.lt
  have H14 := oiAlloc (Lib.hid o14) (.cells #[.int .i64 V, .slice A14 m c14] 24)
  clear hb o14
  go_wp2_with fail
  replace HR := bxSp SP HR (allocBel w14 (.cells #[.int .i64 V, .slice A14 m c14] 24))
  replace HN := oiStep HN (allocBel w14 (.cells #[.int .i64 V, .slice A14 m c14] 24))
  replace HG := cellStep HG (allocBel w14 (.cells #[.int .i64 V, .slice A14 m c14] 24))
  replace SP := spCall SP (allocBel w14 (.cells #[.int .i64 V, .slice A14 m c14] 24))
  replace r0 := HR.out.c0
  replace r1 := HR.out.c1
  replace rz := Nat.lt_of_lt_of_le HR.out.lt SP.out.le'
  replace g0 := HG.out.c0
  replace g1 := HG.out.c1
  replace gz := HG.out.lt
  refine (eqLadder_any V A14 m c14 ys V A0 m c0 ys _ H14.out.ri HR.out.rb.ri hm3 hm3).mono ?_
  rw [(eqSelf V ys).out]
  rintro e w15 ⟨rfl, hb⟩
  replace HR := bxSp SP HR hb
  replace HN := oiStep HN hb
  replace HG := cellStep HG hb
  replace SP := spCall SP hb
  replace r0 := HR.out.c0
  replace r1 := HR.out.c1
  replace rz := Nat.lt_of_lt_of_le HR.out.lt SP.out.le'
  replace g0 := HG.out.c0
  replace g1 := HG.out.c1
  replace gz := HG.out.lt
  clear hb
  clear H14
  go_wp2_with fail
  refine (heldLadder_any V A9 m c9 1 _ HN.out.ri hm3 (by omega) (by omega)).mono ?_
  rintro e w16 ⟨rfl, hb⟩
  replace HR := bxSp SP HR hb
  replace HN := oiStep HN hb
  replace HG := cellStep HG hb
  replace SP := spCall SP hb
  replace r0 := HR.out.c0
  replace r1 := HR.out.c1
  replace rz := Nat.lt_of_lt_of_le HR.out.lt SP.out.le'
  replace g0 := HG.out.c0
  replace g1 := HG.out.c1
  replace gz := HG.out.lt
  clear hb
  go_wp2_with fail
  go_ret
  exact ⟨rfl, SP.out.bel⟩

set_option maxHeartbeats 1000000 in
theorem lawBrickLadder_any (x y : Int) (w : World) (_lo : -9223372036854775808 ≤ x) (_hi : x ≤ 9223372036854775807) (_lo2 : -9223372036854775808 ≤ y) (_hi2 : y ≤ 9223372036854775807) :
    Calls Try.prog 11 #[.int .i64 x, .int .i64 y] w (RetB true w) :=
  lawBrickLadder_of x y w (ifW (bkB x y) x) _ (bkL x y) (bkB x y) (Nat.le_trans (bkL_len x y) (by decide)) (fun w2 => sBrickLadder_any x y w2) (fun w2 => iBrickLadder_any x y w2)
end Go.Proofs.Ytnhhbpogjhcibaa
