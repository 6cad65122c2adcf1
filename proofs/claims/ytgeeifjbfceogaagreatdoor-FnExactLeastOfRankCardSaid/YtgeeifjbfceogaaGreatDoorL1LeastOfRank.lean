/- The law of LeastOfRank, gone through: it returns true, and nothing that was there has turned. -/
import Derived.Test.YtgeeifjbfceogaaGreatDoorMgO
import Derived.Test.YtgeeifjbfceogaaGreatDoorStP
import Derived.Test.YtgeeifjbfceogaaGreatDoorStL
namespace Go.Proofs.YtgeeifjbfceogaaGreatDoor
open Go Go.RowKit

set_option maxRecDepth 100000 in
set_option maxHeartbeats 16000000 in
theorem lawLeastOfRank_of (A : Option Addr) (n c : Nat) (zs : List Int) (x1 : Int) (w : World) (h : RI w A n zs) (hn2 : (n : Int) ≤ 1048576) (V : Int) (m : Nat) (ys : List Int) (q : Bool) (hm3 : m ≤ 1048576)
    (hS : Hid (∀ (B : Option Addr) (d : Nat) (w2 : World), RI w2 B n zs → n ≤ d → Calls Tryz.prog 33 #[.slice B n d, .int .i64 x1] w2 (FreshLB w2 V m ys q)))
    (hI : Hid (∀ (B : Option Addr) (d : Nat) (w2 : World), Below w.heap.size w w2 → RI w2 B n zs → n ≤ d → Calls Tryz.prog 34 #[.slice B n d, .int .i64 x1] w2 (FreshLB w2 V m ys q))) :
    Calls Tryz.prog 9 #[.slice A n c, .int .i64 x1] w (RetB true w) := by
  have hm0 : n ≤ 1048576 := by omega
  have e0 : (q != q) = false := by simp
  have e2 : ((1 : Int) + (m : Int) != 1 + (m : Int)) = false := by simp
  have HA := Lib.hid h
  have HB := belRefl (w := w)
  clear h
  go_enter Tryz.func9, Tryz.ntmps9
  -- the model
  go_wp2_with fail
  refine (toIntS_any A n c zs _ HA.out hm0).mono ?_
  rintro e w1 ⟨C, Cc, rfl, o, hb⟩
  replace HA := riStep HA hb
  replace HB := belStep HB hb
  have HC := Lib.hid o
  clear hb o
  go_wp2_with fail
  refine (hS.out C Cc _ HC.out.ri HC.out.le).mono ?_
  rintro e w3 ⟨A0, c0, rfl, o3, hb⟩
  clear HC
  replace HA := riStep HA hb
  replace HB := belStep HB hb
  have O3 := Lib.hid o3
  clear hb o3
  go_wp2_with fail
  have HW0 := boxNew (W := V) (c := c0) 44 O3.out.ri
  replace HA := riStep HA (allocBel w3 (.cells #[.int .i64 V, .slice A0 m c0] 44))
  replace HB := belAlloc HB (.cells #[.int .i64 V, .slice A0 m c0] 44)
  have SP := spNew HB
  replace HA := rbOf HA
  have HR : Hid (BoxB (w3.alloc (.cells #[.int .i64 V, .slice A0 m c0] 44)) (w3.alloc (.cells #[.int .i64 V, .slice A0 m c0] 44)).heap.size w3.heap.size V A0 m c0 ys) := BoxB.of HW0.out
  obtain ⟨K, hK⟩ : ∃ K, K = (w3.alloc (.cells #[.int .i64 V, .slice A0 m c0] 44)).heap.size := ⟨_, rfl⟩
  rw [← hK] at SP HR HA
  have HK := Lib.hid hK
  clear HB O3 HW0 hK
  -- the program
  have r0 := HR.out.c0
  have r1 := HR.out.c1
  have rz := Nat.lt_of_lt_of_le HR.out.lt SP.out.le'
  refine (toIntS_any A n c zs _ HA.out.ri hm0).mono ?_
  rintro e w4 ⟨X, Xc, rfl, o, hb⟩
  replace HA := rbCall SP HA hb
  replace HR := bxSp SP HR hb
  replace SP := spCall SP hb
  replace r0 := HR.out.c0
  replace r1 := HR.out.c1
  replace rz := Nat.lt_of_lt_of_le HR.out.lt SP.out.le'
  have HLX := blkLt o
  have H34 : Hid (K ≤ w4.heap.size) := by show K ≤ w4.heap.size; rw [HK.out]; exact hb.size
  have HX : Hid (OI w4 K X n Xc zs) := by show OI _ K X n Xc zs; rw [HK.out]; exact o
  clear hb o
  go_wp2_with fail
  refine (hI.out X Xc _ SP.out.bel HX.out.ri HX.out.le).mono ?_
  rintro e w5 ⟨A9, c9, rfl, o9, hb⟩
  have H45 : Hid (w4.heap.size ≤ w5.heap.size) := hb.size
  have HN := Lib.hid o9
  have HL9 := blkLt o9
  replace HA := rbCall SP HA hb
  replace HR := bxSp SP HR hb
  replace HX := oiStep HX hb
  replace SP := spCall SP hb
  replace r0 := HR.out.c0
  replace r1 := HR.out.c1
  replace rz := Nat.lt_of_lt_of_le HR.out.lt SP.out.le'
  clear hb o9
  go_wp2_with fail
  have HG := cellNew w5 (.int .i64 V) (.slice A9 m c9) 44
  replace HA := rbCall SP HA (allocBel w5 (.cells #[.int .i64 V, .slice A9 m c9] 44))
  replace HR := bxSp SP HR (allocBel w5 (.cells #[.int .i64 V, .slice A9 m c9] 44))
  replace HX := oiStep HX (allocBel w5 (.cells #[.int .i64 V, .slice A9 m c9] 44))
  replace HN := oiStep HN (allocBel w5 (.cells #[.int .i64 V, .slice A9 m c9] 44))
  replace SP := spCall SP (allocBel w5 (.cells #[.int .i64 V, .slice A9 m c9] 44))
  replace r0 := HR.out.c0
  replace r1 := HR.out.c1
  replace rz := Nat.lt_of_lt_of_le HR.out.lt SP.out.le'
  replace r0 := HR.out.c0
  replace r1 := HR.out.c1
  replace rz := Nat.lt_of_lt_of_le HR.out.lt SP.out.le'
  have g0 := HG.out.c0
  have g1 := HG.out.c1
  have gz := HG.out.lt
  refine (eqLadder_any V A9 m c9 ys V A0 m c0 ys _ HN.out.ri HR.out.rb.ri hm3 hm3).mono ?_
  rw [(eqSelf V ys).out]
  rintro e w6 ⟨rfl, hb⟩
  replace HA := rbCall SP HA hb
  replace HR := bxSp SP HR hb
  replace HX := oiStep HX hb
  replace HN := oiStep HN hb
  replace HG := cellStep HG hb
  replace SP := spCall SP hb
  replace r0 := HR.out.c0
  replace r1 := HR.out.c1
  replace rz := Nat.lt_of_lt_of_le HR.out.lt SP.out.le'
  replace g0 := HG.out.c0
  replace g1 := HG.out.c1
  replace gz := HG.out.lt
  clear hb
  go_wp2_with fail
  refine (toIntS_any A n c zs _ HA.out.ri hm0).mono ?_
  rintro e w7 ⟨Y, Yc, rfl, o, hb⟩
  replace HA := rbCall SP HA hb
  replace HR := bxSp SP HR hb
  replace HX := oiStep HX hb
  replace HN := oiStep HN hb
  replace HG := cellStep HG hb
  replace SP := spCall SP hb
  replace r0 := HR.out.c0
  replace r1 := HR.out.c1
  replace rz := Nat.lt_of_lt_of_le HR.out.lt SP.out.le'
  replace g0 := HG.out.c0
  replace g1 := HG.out.c1
  replace gz := HG.out.lt
  have HY := Lib.hid o
  clear hb
  go_wp2_with fail
  refine (eqIntS_any X n Xc zs Y n Yc zs _ HX.out.ri HY.out.ri hm0 hm0).mono ?_
  rw [eqB_self]
  rintro e w8 ⟨rfl, hb⟩
  replace HA := rbCall SP HA hb
  replace HR := bxSp SP HR hb
  replace HX := oiStep HX hb
  replace HN := oiStep HN hb
  replace HG := cellStep HG hb
  replace SP := spCall SP hb
  replace r0 := HR.out.c0
  replace r1 := HR.out.c1
  replace rz := Nat.lt_of_lt_of_le HR.out.lt SP.out.le'
  replace g0 := HG.out.c0
  replace g1 := HG.out.c1
  replace gz := HG.out.lt
  clear hb o HY
  go_wp2_with fail
  refine (markIntS_any _ X n Xc zs 1 _ HX.out hm0 (by omega) (by omega)).mono ?_
  rintro e w9 ⟨rfl, o, hg⟩
  have hk := ofMark HX.out hg (Nat.le_refl _) SP.out.le'
  replace HN := oiKept HN hg HLX
  replace HG := cellKept HG hg (blkLtMono HLX H45.out)
  replace HA := rbStep HA hk
  replace HR := bxK HR hk
  replace SP := spStep SP hk
  clear HX hk hg o
  replace r0 := HR.out.c0
  replace r1 := HR.out.c1
  replace rz := Nat.lt_of_lt_of_le HR.out.lt SP.out.le'
  replace g0 := HG.out.c0
  replace g1 := HG.out.c1
  replace gz := HG.out.lt
  go_wp2_with fail
  refine (eqLadder_any V A9 m c9 ys V A0 m c0 ys _ HN.out.ri HR.out.rb.ri hm3 hm3).mono ?_
  rw [(eqSelf V ys).out]
  rintro e w10 ⟨rfl, hb⟩
  replace HA := rbCall SP HA hb
  replace HR := bxSp SP HR hb
  replace HN := oiStep HN hb
  replace HG := cellStep HG hb
  replace SP := spCall SP hb
  replace r0 := HR.out.c0
  replace r1 := HR.out.c1
  replace rz := Nat.lt_of_lt_of_le HR.out.lt SP.out.le'
  replace g0 := HG.out.c0
  replace g1 := HG.out.c1
  replace gz := HG.out.lt
  clear hb
  go_wp2_with fail
  -- the answer is marked
  refine (markLadder_any _ V A9 m c9 ys 1 _ HN.out hm3 (by omega) (by omega)).mono ?_
  rintro e w11 ⟨rfl, o, hg⟩
  have hk := ofMark HN.out hg H34.out SP.out.le'
  replace HG := cellKept HG hg HL9
  replace HA := rbStep HA hk
  replace HR := bxK HR hk
  replace SP := spStep SP hk
  replace HN := Lib.hid o
  clear hk hg o
  replace r0 := HR.out.c0
  replace r1 := HR.out.c1
  replace rz := Nat.lt_of_lt_of_le HR.out.lt SP.out.le'
  replace g0 := HG.out.c0
  replace g1 := HG.out.c1
  replace gz := HG.out.lt
  go_wp2_with fail
  refine (heldLadder_any V A9 m c9 1 _ HN.out.ri hm3 (by omega) (by omega)).mono ?_
  rintro e w12 ⟨rfl, hb⟩
  replace HA := rbCall SP HA hb
  replace HR := bxSp SP HR hb
  replace HN := oiStep HN hb
  replace HG := cellStep HG hb
  replace SP := spCall SP hb
  replace r0 := HR.out.c0
  replace r1 := HR.out.c1
  replace rz := Nat.lt_of_lt_of_le HR.out.lt SP.out.le'
  replace g0 := HG.out.c0
  replace g1 := HG.out.c1
  replace gz := HG.out.lt
  clear hb
  -- once more
  go_wp2_with fail
  refine (toIntS_any A n c zs _ HA.out.ri hm0).mono ?_
  rintro e w13 ⟨Z, Zc, rfl, o, hb⟩
  replace HA := rbCall SP HA hb
  replace HR := bxSp SP HR hb
  replace HN := oiStep HN hb
  replace HG := cellStep HG hb
  replace SP := spCall SP hb
  replace r0 := HR.out.c0
  replace r1 := HR.out.c1
  replace rz := Nat.lt_of_lt_of_le HR.out.lt SP.out.le'
  replace g0 := HG.out.c0
  replace g1 := HG.out.c1
  replace gz := HG.out.lt
  have HZ := Lib.hid o
  clear hb o
  go_wp2_with fail
  refine (hI.out Z Zc _ SP.out.bel HZ.out.ri HZ.out.le).mono ?_
  rintro e w14 ⟨A14, c14, rfl, o14, hb⟩
  clear HZ
  replace HA := rbCall SP HA hb
  replace HR := bxSp SP HR hb
  replace HN := oiStep HN hb
  replace HG := cellStep HG hb
  replace SP := spCall SP hb
  replace r0 := HR.out.c0
  replace r1 := HR.out.c1
  replace rz := Nat.lt_of_lt_of_le HR.out.lt SP.out.le'
  replace g0 := HG.out.c0
  replace g1 := HG.out.c1
  replace gz := HG.out.lt
  have H14 := oiAlloc (Lib.hid o14) (.cells #[.int .i64 V, .slice A14 m c14] 44)
  clear hb o14
  go_wp2_with fail
  replace HA := rbCall SP HA (allocBel w14 (.cells #[.int .i64 V, .slice A14 m c14] 44))
  replace HR := bxSp SP HR (allocBel w14 (.cells #[.int .i64 V, .slice A14 m c14] 44))
  replace HN := oiStep HN (allocBel w14 (.cells #[.int .i64 V, .slice A14 m c14] 44))
  replace HG := cellStep HG (allocBel w14 (.cells #[.int .i64 V, .slice A14 m c14] 44))
  replace SP := spCall SP (allocBel w14 (.cells #[.int .i64 V, .slice A14 m c14] 44))
  replace r0 := HR.out.c0
  replace r1 := HR.out.c1
  replace rz := Nat.lt_of_lt_of_le HR.out.lt SP.out.le'
  replace g0 := HG.out.c0
  replace g1 := HG.out.c1
  replace gz := HG.out.lt
  refine (eqLadder_any V A14 m c14 ys V A0 m c0 ys _ H14.out.ri HR.out.rb.ri hm3 hm3).mono ?_
  rw [(eqSelf V ys).out]
  rintro e w15 ⟨rfl, hb⟩
  replace HA := rbCall SP HA hb
  replace HR := bxSp SP HR hb
  replace HN := oiStep HN hb
  replace HG := cellStep HG hb
  replace SP := spCall SP hb
  replace r0 := HR.out.c0
  replace r1 := HR.out.c1
  replace rz := Nat.lt_of_lt_of_le HR.out.lt SP.out.le'
  replace g0 := HG.out.c0
  replace g1 := HG.out.c1
  replace gz := HG.out.lt
  clear hb
  clear H14
  go_wp2_with fail
  refine (heldLadder_any V A9 m c9 1 _ HN.out.ri hm3 (by omega) (by omega)).mono ?_
  rintro e w16 ⟨rfl, hb⟩
  replace HA := rbCall SP HA hb
  replace HR := bxSp SP HR hb
  replace HN := oiStep HN hb
  replace HG := cellStep HG hb
  replace SP := spCall SP hb
  replace r0 := HR.out.c0
  replace r1 := HR.out.c1
  replace rz := Nat.lt_of_lt_of_le HR.out.lt SP.out.le'
  replace g0 := HG.out.c0
  replace g1 := HG.out.c1
  replace gz := HG.out.lt
  clear hb
  go_wp2_with fail
  go_ret
  exact ⟨rfl, SP.out.bel⟩

set_option maxHeartbeats 1000000 in
theorem lawLeastOfRank_any (A : Option Addr) (n c : Nat) (zs : List Int) (x1 : Int) (w : World) (h : RI w A n zs) (hn : n ≤ 9223372036854775807) (hG : Glob w) :
    Calls Tryz.prog 9 #[.slice A n c, .int .i64 x1] w (RetB true w) := by
  by_cases hm0 : (n : Int) ≤ 1048576
  · exact lawLeastOfRank_of A n c zs x1 w h hm0 (ifW (lrQ zs x1) n) _ (lrL zs x1) (lrQ zs x1) (Nat.le_trans (lrL_len zs x1) (by decide)) (fun B d w2 r l => sLeastOfRank_any B n d zs x1 w2 r (by omega) l) (fun B d w2 hb r l => iLeastOfRank_any B n d zs x1 w2 r (by omega) l (hG.below hb))
  · clear h
    go_enter Tryz.func9, Tryz.ntmps9
    go_wp2_with fail
    go_ret
    exact ⟨rfl, Below.refl _ _⟩
end Go.Proofs.YtgeeifjbfceogaaGreatDoor
