/- The law of PoleResult, gone through: it returns true, and nothing that was there has turned. -/
import Derived.Test.YtjdkicanamengaaPo2
import Derived.Test.YtjdkicanamengaaPr2
import Derived.Test.YtjdkicanamengaaStL
import Derived.Test.YtjdkicanamengaaUl2
import Derived.Deep.RegionHeld3
namespace Go.Proofs.Ytjdkicanamengaa
open Go Go.RowKit

set_option maxRecDepth 100000 in
set_option maxHeartbeats 8000000 in
theorem lawPoleResult_of (W : Int) (A : Option Addr) (n c : Nat) (zs : List Int) (w : World) (h : RI w A n zs) (hn2 : (n : Int) ≤ 1048576) (k1 : Nat) (ys : List Int) (k2 : Nat) (vs : List Int) (q : Bool) (hk1 : k1 ≤ 1048576) (hk2 : k2 ≤ 1048576)
    (hS : Hid (∀ (B : Option Addr) (b : Nat) (w2 : World), RI w2 B n zs → Calls Try.prog 25 #[.agg #[.int .i64 W, .slice B n b]] w2 (ReadTB w2 k1 ys k2 vs q)))
    (hI : Hid (∀ (B : Option Addr) (b : Nat) (w2 : World), RI w2 B n zs → Calls Try.prog 26 #[.agg #[.int .i64 W, .slice B n b]] w2 (FreshTB w2 k1 ys k2 vs q))) :
    Calls Try.prog 6 #[.agg #[.int .i64 W, .slice A n c]] w (RetB true w) := by
  have hn3 : n ≤ 1048576 := by omega
  have EZ := Lib.hid (szv_yes hn2).symm
  have hn : n ≤ 9223372036854775807 := by omega
  have e0 : (q != q) = false := by simp
  have e2 : ((1 : Int) + (k1 : Int) + (k2 : Int) != 1 + (k1 : Int) + (k2 : Int)) = false := by simp
  have RA := Lib.hid h
  clear h
  go_enter Try.func6, Try.ntmps6
  go_wp2_with fail
  have HP := cellNew w (.int .i64 W) (.slice A n c) 24
  replace RA := riStep RA (allocBel w (.cells #[.int .i64 W, .slice A n c] 24))
  have HB := belAlloc (belRefl (w := w)) (.cells #[.int .i64 W, .slice A n c] 24)
  refine (szPole_any W A n c _ _ (by omega) (by omega) hn).mono ?_
  rw [EZ.out]
  rintro e w1 ⟨rfl, hb⟩
  replace RA := riStep RA hb
  replace HP := cellStep HP hb
  replace HB := belStep HB hb
  have p0 := HP.out.c0; have p1 := HP.out.c1; have pz := HP.out.lt
  clear hb
  go_wp2_with fail
  refine (toPole_any W A n c zs _ RA.out hn3).mono ?_
  rintro e w2 ⟨CA, Cc, rfl, o1, hb⟩
  replace RA := riStep RA hb
  replace HP := cellStep HP hb
  replace HB := belStep HB hb
  replace p0 := HP.out.c0; replace p1 := HP.out.c1; replace pz := HP.out.lt
  have C1 := Lib.hid o1.ri
  clear hb
  go_wp2_with fail
  refine (hS.out CA Cc _ C1.out).mono ?_
  rintro e w3 ⟨A0, c0, E0, d0, rfl, r1, r2, hb⟩
  replace RA := riStep RA hb
  replace HP := cellStep HP hb
  replace HB := belStep HB hb
  replace p0 := HP.out.c0; replace p1 := HP.out.c1; replace pz := HP.out.lt
  have M1 := Lib.hid r1
  have M2 := Lib.hid r2
  clear hb o1 C1 r1 r2
  go_wp2_with fail
  have HR := cellNew w3 (.slice A0 k1 c0) (.slice E0 k2 d0) 40
  replace RA := riStep RA (allocBel w3 (.cells #[.slice A0 k1 c0, .slice E0 k2 d0] 40))
  replace HP := cellStep HP (allocBel w3 (.cells #[.slice A0 k1 c0, .slice E0 k2 d0] 40))
  replace M1 := riStep M1 (allocBel w3 (.cells #[.slice A0 k1 c0, .slice E0 k2 d0] 40))
  replace M2 := riStep M2 (allocBel w3 (.cells #[.slice A0 k1 c0, .slice E0 k2 d0] 40))
  replace HB := belStep HB (allocBel w3 (.cells #[.slice A0 k1 c0, .slice E0 k2 d0] 40))
  replace p0 := HP.out.c0; replace p1 := HP.out.c1; replace pz := HP.out.lt
  have r0 := HR.out.c0; have r1 := HR.out.c1; have rz := HR.out.lt
  have SP := spNew HB
  have BK : Hid (w.heap.size < (w3.alloc (.cells #[.slice A0 k1 c0, .slice E0 k2 d0] 40)).heap.size) := Lib.hid (by have := HP.out.lt; simpa using this)
  have RK : Hid (w3.heap.size < (w3.alloc (.cells #[.slice A0 k1 c0, .slice E0 k2 d0] 40)).heap.size) := Lib.hid (by simp)
  replace RA := rbOf RA
  replace M1 := rbOf M1
  replace M2 := rbOf M2
  obtain ⟨K, hK⟩ : ∃ K, K = (w3.alloc (.cells #[.slice A0 k1 c0, .slice E0 k2 d0] 40)).heap.size := ⟨_, rfl⟩
  rw [← hK] at SP BK RA M1 M2 RK
  have HK := Lib.hid hK
  clear hK HB
  refine (toPole_any W A n c zs _ RA.out.ri hn3).mono ?_
  rintro e w4 ⟨XA, Xc, rfl, o1, hb⟩
  have z34 := hb.size
  rw [← HK.out] at o1 z34
  have H34 : Hid (K ≤ w4.heap.size) := z34
  replace RA := rbCall SP RA hb
  replace HP := cellStep HP hb
  replace M1 := rbCall SP M1 hb
  replace M2 := rbCall SP M2 hb
  replace HR := cellStep HR hb
  replace SP := spCall SP hb
  replace p0 := HP.out.c0; replace p1 := HP.out.c1; replace pz := HP.out.lt
  replace r0 := HR.out.c0; replace r1 := HR.out.c1; replace rz := HR.out.lt
  have X1 : Hid (OG w4 K w4.heap.size XA n zs) := Lib.hid (OG.of_oi o1 z34)
  clear hb o1 z34
  go_wp2_with fail
  have HX := cellNew w4 (.int .i64 W) (.slice XA n Xc) 27
  replace RA := rbCall SP RA (allocBel w4 (.cells #[.int .i64 W, .slice XA n Xc] 27))
  replace HP := cellStep HP (allocBel w4 (.cells #[.int .i64 W, .slice XA n Xc] 27))
  replace M1 := rbCall SP M1 (allocBel w4 (.cells #[.int .i64 W, .slice XA n Xc] 27))
  replace M2 := rbCall SP M2 (allocBel w4 (.cells #[.int .i64 W, .slice XA n Xc] 27))
  replace HR := cellStep HR (allocBel w4 (.cells #[.int .i64 W, .slice XA n Xc] 27))
  replace X1 := ogStep X1 (allocBel w4 (.cells #[.int .i64 W, .slice XA n Xc] 27))
  replace SP := spCall SP (allocBel w4 (.cells #[.int .i64 W, .slice XA n Xc] 27))
  replace p0 := HP.out.c0; replace p1 := HP.out.c1; replace pz := HP.out.lt
  replace r0 := HR.out.c0; replace r1 := HR.out.c1; replace rz := HR.out.lt
  have x0 := HX.out.c0; have x1 := HX.out.c1; have xz := HX.out.lt
  refine (hI.out XA Xc _ X1.out.ri).mono ?_
  rintro e w5 ⟨A9, c9, E9, d9, mid9, rfl, n1, n2, hb⟩
  have z45 := hb.size
  simp only [World.size_alloc] at z45 n1
  have H45 : Hid (w4.heap.size < w5.heap.size) := z45
  replace RA := rbCall SP RA hb
  replace HP := cellStep HP hb
  replace M1 := rbCall SP M1 hb
  replace M2 := rbCall SP M2 hb
  replace HR := cellStep HR hb
  replace X1 := ogStep X1 hb
  replace HX := cellStep HX hb
  replace SP := spCall SP hb
  replace p0 := HP.out.c0; replace p1 := HP.out.c1; replace pz := HP.out.lt
  replace r0 := HR.out.c0; replace r1 := HR.out.c1; replace rz := HR.out.lt
  replace x0 := HX.out.c0; replace x1 := HX.out.c1; replace xz := HX.out.lt
  have N1 := Lib.hid n1
  have N2 := Lib.hid n2
  clear hb n1 n2 z45
  go_wp2_with fail
  have HG := cellNew w5 (.slice A9 k1 c9) (.slice E9 k2 d9) 40
  replace RA := rbCall SP RA (allocBel w5 (.cells #[.slice A9 k1 c9, .slice E9 k2 d9] 40))
  replace HP := cellStep HP (allocBel w5 (.cells #[.slice A9 k1 c9, .slice E9 k2 d9] 40))
  replace M1 := rbCall SP M1 (allocBel w5 (.cells #[.slice A9 k1 c9, .slice E9 k2 d9] 40))
  replace M2 := rbCall SP M2 (allocBel w5 (.cells #[.slice A9 k1 c9, .slice E9 k2 d9] 40))
  replace HR := cellStep HR (allocBel w5 (.cells #[.slice A9 k1 c9, .slice E9 k2 d9] 40))
  replace X1 := ogStep X1 (allocBel w5 (.cells #[.slice A9 k1 c9, .slice E9 k2 d9] 40))
  replace HX := cellStep HX (allocBel w5 (.cells #[.slice A9 k1 c9, .slice E9 k2 d9] 40))
  replace N1 := ogStep N1 (allocBel w5 (.cells #[.slice A9 k1 c9, .slice E9 k2 d9] 40))
  replace N2 := ogStep N2 (allocBel w5 (.cells #[.slice A9 k1 c9, .slice E9 k2 d9] 40))
  replace SP := spCall SP (allocBel w5 (.cells #[.slice A9 k1 c9, .slice E9 k2 d9] 40))
  replace p0 := HP.out.c0; replace p1 := HP.out.c1; replace pz := HP.out.lt
  replace r0 := HR.out.c0; replace r1 := HR.out.c1; replace rz := HR.out.lt
  replace x0 := HX.out.c0; replace x1 := HX.out.c1; replace xz := HX.out.lt
  have g0 := HG.out.c0; have g1 := HG.out.c1; have gz := HG.out.lt
  refine (eqTurned_same A9 k1 c9 ys E9 k2 d9 vs A0 c0 E0 d0 _ N1.out.ri M1.out.ri N2.out.ri M2.out.ri hk1 hk2).mono ?_
  rintro e w6 ⟨rfl, hb⟩
  replace RA := rbCall SP RA hb
  replace HP := cellStep HP hb
  replace M1 := rbCall SP M1 hb
  replace M2 := rbCall SP M2 hb
  replace HR := cellStep HR hb
  replace X1 := ogStep X1 hb
  replace HX := cellStep HX hb
  replace N1 := ogStep N1 hb
  replace N2 := ogStep N2 hb
  replace HG := cellStep HG hb
  replace SP := spCall SP hb
  replace p0 := HP.out.c0; replace p1 := HP.out.c1; replace pz := HP.out.lt
  replace r0 := HR.out.c0; replace r1 := HR.out.c1; replace rz := HR.out.lt
  replace x0 := HX.out.c0; replace x1 := HX.out.c1; replace xz := HX.out.lt
  replace g0 := HG.out.c0; replace g1 := HG.out.c1; replace gz := HG.out.lt
  clear hb
  go_wp2_with fail
  have RAd := rbCall SP RA (drewBel _)
  have HPd := cellDrew HP
  have M1d := rbCall SP M1 (drewBel _)
  have M2d := rbCall SP M2 (drewBel _)
  have HRd := cellDrew HR
  have X1d := ogStep X1 (drewBel _)
  have HXd := cellDrew HX
  have N1d := ogStep N1 (drewBel _)
  have N2d := ogStep N2 (drewBel _)
  have HGd := cellDrew HG
  have SPd := spCall SP (drewBel _)
  go_region_held3 (fun w' => w'.cell? ⟨w.heap.size, 0, none⟩ = some (.int .i64 W) ∧ w'.cell? ⟨w.heap.size, 1, none⟩ = some (.slice A n c) ∧ w'.cell? ⟨w4.heap.size, 0, none⟩ = some (.int .i64 W) ∧ w'.cell? ⟨w4.heap.size, 1, none⟩ = some (.slice XA n Xc))
    (first | exact ⟨HP.out.c0, HP.out.c1, HX.out.c0, HX.out.c1⟩ | exact ⟨HP7.out.c0, HP7.out.c1, HX7.out.c0, HX7.out.c1⟩ | exact ⟨HP8.out.c0, HP8.out.c1, HX8.out.c0, HX8.out.c1⟩)
    (first
      | (go_at_call 14; refine (toPole_any W A n c zs _ RAd.out.ri hn3).mono ?_; rintro e w7 ⟨YA, Yc, rfl, y1, hb⟩; have RA7 := rbCall SPd RAd hb; have HP7 := cellStep HPd hb; have M17 := rbCall SPd M1d hb; have M27 := rbCall SPd M2d hb; have HR7 := cellStep HRd hb; have X17 := ogStep X1d hb; have HX7 := cellStep HXd hb; have N17 := ogStep N1d hb; have N27 := ogStep N2d hb; have HG7 := cellStep HGd hb; have SP7 := spCall SPd hb; clear hb)
      | (go_at_call 16; refine (eqPole_any W XA n Xc zs W YA n Yc zs _ X17.out.ri y1.ri hn3 hn3).mono ?_; rw [(eqSelf W zs).out]; rintro e w8 ⟨rfl, hb⟩; have RA8 := rbCall SP7 RA7 hb; have HP8 := cellStep HP7 hb; have M18 := rbCall SP7 M17 hb; have M28 := rbCall SP7 M27 hb; have HR8 := cellStep HR7 hb; have X18 := ogStep X17 hb; have HX8 := cellStep HX7 hb; have N18 := ogStep N17 hb; have N28 := ogStep N27 hb; have HG8 := cellStep HG7 hb; have SP8 := spCall SP7 hb; clear hb))
  clear RA HP M1 M2 HR X1 HX N1 N2 HG SP RAd HPd M1d M2d HRd X1d HXd N1d N2d HGd SPd RA7 HP7 M17 M27 HR7 X17 HX7 N17 N27 HG7 SP7 y1 p0 p1 pz r0 r1 rz x0 x1 xz g0 g1 gz
  have RA := RA8
  have HP := HP8
  have M1 := M18
  have M2 := M28
  have HR := HR8
  have X1 := X18
  have HX := HX8
  have N1 := N18
  have N2 := N28
  have HG := HG8
  have SP := SP8
  clear RA8 HP8 M18 M28 HR8 X18 HX8 N18 N28 HG8 SP8
  have p0 := HP.out.c0; have p1 := HP.out.c1; have pz := HP.out.lt
  have r0 := HR.out.c0; have r1 := HR.out.c1; have rz := HR.out.lt
  have x0 := HX.out.c0; have x1 := HX.out.c1; have xz := HX.out.lt
  have g0 := HG.out.c0; have g1 := HG.out.c1; have gz := HG.out.lt
  go_wp2_with fail
  refine (markPoleG_any K w4.heap.size W XA n Xc zs 1 _ X1.out hn3 (by omega) (by omega)).mono ?_
  rintro e w9 ⟨rfl, y1, hc⟩
  have hmid := N1.out.le
  have hk := hc.below (Nat.le_refl _) SP.out.le'
  replace RA := rbStep RA hk
  replace HP := c2Chg HP hc (.inl (by have := BK.out; have := H34.out; omega))
  replace M1 := rbStep M1 hk
  replace M2 := rbStep M2 hk
  replace HR := c2Chg HR hc (.inl (by have := RK.out; have := H34.out; omega))
  replace N1 := ogChg N1 hc (.inr (Nat.le_succ _))
  replace N2 := ogChg N2 hc (.inr (by have := N1.out.le; omega))
  replace HG := c2Chg HG hc (.inr (by have := H45.out; omega))
  replace SP := spStep SP hk
  clear hc hk y1 X1 HX x0 x1 xz
  replace p0 := HP.out.c0; replace p1 := HP.out.c1; replace pz := HP.out.lt
  replace r0 := HR.out.c0; replace r1 := HR.out.c1; replace rz := HR.out.lt
  replace g0 := HG.out.c0; replace g1 := HG.out.c1; replace gz := HG.out.lt
  have eneg : (decide ((1 : Int) + n < 0)) = false := by rw [decide_eq_false_iff_not]; omega
  go_wp2_with fail
  refine (eqTurned_same A9 k1 c9 ys E9 k2 d9 vs A0 c0 E0 d0 _ N1.out.ri M1.out.ri N2.out.ri M2.out.ri hk1 hk2).mono ?_
  rintro e w10 ⟨rfl, hb⟩
  replace RA := rbCall SP RA hb
  replace HP := cellStep HP hb
  replace M1 := rbCall SP M1 hb
  replace M2 := rbCall SP M2 hb
  replace HR := cellStep HR hb
  replace N1 := ogStep N1 hb
  replace N2 := ogStep N2 hb
  replace HG := cellStep HG hb
  replace SP := spCall SP hb
  replace p0 := HP.out.c0; replace p1 := HP.out.c1; replace pz := HP.out.lt
  replace r0 := HR.out.c0; replace r1 := HR.out.c1; replace rz := HR.out.lt
  replace g0 := HG.out.c0; replace g1 := HG.out.c1; replace gz := HG.out.lt
  clear hb
  go_wp2_with fail
  refine (markTurned_any (w4.heap.size + 1) mid9 w5.heap.size A9 k1 c9 ys E9 k2 d9 vs 1 _ N1.out N2.out hk1 hk2 (by omega) (by omega)).mono ?_
  rintro e w11 ⟨rfl, y1, y2, hc⟩
  have N1m := Lib.hid y1
  have N2m := Lib.hid y2
  have hk := hc.below (by have := H34.out; omega) SP.out.le'
  replace RA := rbStep RA hk
  replace HP := c2Chg HP hc (.inl (by have := BK.out; have := H34.out; omega))
  replace M1 := rbStep M1 hk
  replace M2 := rbStep M2 hk
  replace HR := c2Chg HR hc (.inl (by have := RK.out; have := H34.out; omega))
  replace HG := c2Chg HG hc (.inr (Nat.le_refl _))
  replace SP := spStep SP hk
  clear hc hk y1 N1 y2 N2
  replace p0 := HP.out.c0; replace p1 := HP.out.c1; replace pz := HP.out.lt
  replace r0 := HR.out.c0; replace r1 := HR.out.c1; replace rz := HR.out.lt
  replace g0 := HG.out.c0; replace g1 := HG.out.c1; replace gz := HG.out.lt
  have N1 := N1m
  have N2 := N2m
  clear N1m N2m
  go_wp2_with fail
  refine (heldTurned_any A9 k1 c9 E9 k2 d9 1 _ N1.out.ri N2.out.ri hk1 hk2 (by omega) (by omega)).mono ?_
  rintro e w12 ⟨rfl, hb⟩
  replace RA := rbCall SP RA hb
  replace HP := cellStep HP hb
  replace M1 := rbCall SP M1 hb
  replace M2 := rbCall SP M2 hb
  replace HR := cellStep HR hb
  replace HG := cellStep HG hb
  replace N1 := ogStep N1 hb
  replace N2 := ogStep N2 hb
  replace SP := spCall SP hb
  replace p0 := HP.out.c0; replace p1 := HP.out.c1; replace pz := HP.out.lt
  replace r0 := HR.out.c0; replace r1 := HR.out.c1; replace rz := HR.out.lt
  replace g0 := HG.out.c0; replace g1 := HG.out.c1; replace gz := HG.out.lt
  clear hb
  go_wp2_with fail
  refine (toPole_any W A n c zs _ RA.out.ri hn3).mono ?_
  rintro e w13 ⟨ZA, Zc, rfl, o1, hb⟩
  replace RA := rbCall SP RA hb
  replace HP := cellStep HP hb
  replace M1 := rbCall SP M1 hb
  replace M2 := rbCall SP M2 hb
  replace HR := cellStep HR hb
  replace HG := cellStep HG hb
  replace N1 := ogStep N1 hb
  replace N2 := ogStep N2 hb
  replace SP := spCall SP hb
  replace p0 := HP.out.c0; replace p1 := HP.out.c1; replace pz := HP.out.lt
  replace r0 := HR.out.c0; replace r1 := HR.out.c1; replace rz := HR.out.lt
  replace g0 := HG.out.c0; replace g1 := HG.out.c1; replace gz := HG.out.lt
  have Z1 := Lib.hid o1.ri
  clear hb
  go_wp2_with fail
  refine (hI.out ZA Zc _ Z1.out).mono ?_
  rintro e w14 ⟨A7, c7, E7, d7, mid7, rfl, n1, n2, hb⟩
  replace RA := rbCall SP RA hb
  replace HP := cellStep HP hb
  replace M1 := rbCall SP M1 hb
  replace M2 := rbCall SP M2 hb
  replace HR := cellStep HR hb
  replace HG := cellStep HG hb
  replace N1 := ogStep N1 hb
  replace N2 := ogStep N2 hb
  replace SP := spCall SP hb
  replace p0 := HP.out.c0; replace p1 := HP.out.c1; replace pz := HP.out.lt
  replace r0 := HR.out.c0; replace r1 := HR.out.c1; replace rz := HR.out.lt
  replace g0 := HG.out.c0; replace g1 := HG.out.c1; replace gz := HG.out.lt
  have V1 := Lib.hid n1.ri
  have V2 := Lib.hid n2.ri
  clear hb n1 o1 Z1 n2
  go_wp2_with fail
  replace RA := rbCall SP RA (allocBel w14 (.cells #[.slice A7 k1 c7, .slice E7 k2 d7] 40))
  replace HP := cellStep HP (allocBel w14 (.cells #[.slice A7 k1 c7, .slice E7 k2 d7] 40))
  replace M1 := rbCall SP M1 (allocBel w14 (.cells #[.slice A7 k1 c7, .slice E7 k2 d7] 40))
  replace M2 := rbCall SP M2 (allocBel w14 (.cells #[.slice A7 k1 c7, .slice E7 k2 d7] 40))
  replace HR := cellStep HR (allocBel w14 (.cells #[.slice A7 k1 c7, .slice E7 k2 d7] 40))
  replace HG := cellStep HG (allocBel w14 (.cells #[.slice A7 k1 c7, .slice E7 k2 d7] 40))
  replace N1 := ogStep N1 (allocBel w14 (.cells #[.slice A7 k1 c7, .slice E7 k2 d7] 40))
  replace N2 := ogStep N2 (allocBel w14 (.cells #[.slice A7 k1 c7, .slice E7 k2 d7] 40))
  replace V1 := riStep V1 (allocBel w14 (.cells #[.slice A7 k1 c7, .slice E7 k2 d7] 40))
  replace V2 := riStep V2 (allocBel w14 (.cells #[.slice A7 k1 c7, .slice E7 k2 d7] 40))
  replace SP := spCall SP (allocBel w14 (.cells #[.slice A7 k1 c7, .slice E7 k2 d7] 40))
  replace p0 := HP.out.c0; replace p1 := HP.out.c1; replace pz := HP.out.lt
  replace r0 := HR.out.c0; replace r1 := HR.out.c1; replace rz := HR.out.lt
  replace g0 := HG.out.c0; replace g1 := HG.out.c1; replace gz := HG.out.lt
  refine (eqTurned_same A7 k1 c7 ys E7 k2 d7 vs A0 c0 E0 d0 _ V1.out M1.out.ri V2.out M2.out.ri hk1 hk2).mono ?_
  rintro e w15 ⟨rfl, hb⟩
  replace RA := rbCall SP RA hb
  replace HP := cellStep HP hb
  replace M1 := rbCall SP M1 hb
  replace M2 := rbCall SP M2 hb
  replace HR := cellStep HR hb
  replace HG := cellStep HG hb
  replace N1 := ogStep N1 hb
  replace N2 := ogStep N2 hb
  replace V1 := riStep V1 hb
  replace V2 := riStep V2 hb
  replace SP := spCall SP hb
  replace p0 := HP.out.c0; replace p1 := HP.out.c1; replace pz := HP.out.lt
  replace r0 := HR.out.c0; replace r1 := HR.out.c1; replace rz := HR.out.lt
  replace g0 := HG.out.c0; replace g1 := HG.out.c1; replace gz := HG.out.lt
  clear hb
  clear V1 V2
  go_wp2_with fail
  refine (heldTurned_any A9 k1 c9 E9 k2 d9 1 _ N1.out.ri N2.out.ri hk1 hk2 (by omega) (by omega)).mono ?_
  rintro e w16 ⟨rfl, hb⟩
  replace RA := rbCall SP RA hb
  replace HP := cellStep HP hb
  replace M1 := rbCall SP M1 hb
  replace M2 := rbCall SP M2 hb
  replace HR := cellStep HR hb
  replace HG := cellStep HG hb
  replace N1 := ogStep N1 hb
  replace N2 := ogStep N2 hb
  replace SP := spCall SP hb
  replace p0 := HP.out.c0; replace p1 := HP.out.c1; replace pz := HP.out.lt
  replace r0 := HR.out.c0; replace r1 := HR.out.c1; replace rz := HR.out.lt
  replace g0 := HG.out.c0; replace g1 := HG.out.c1; replace gz := HG.out.lt
  clear hb
  go_wp2_with fail
  go_ret
  exact ⟨rfl, SP.out.bel⟩

set_option maxHeartbeats 1000000 in
theorem lawPoleResult_any (W : Int) (A : Option Addr) (n c : Nat) (zs : List Int) (w : World) (h : RI w A n zs) (hn : n ≤ 9223372036854775807) :
    Calls Try.prog 6 #[.agg #[.int .i64 W, .slice A n c]] w (RetB true w) := by
  by_cases hn2 : (n : Int) ≤ 1048576
  · exact lawPoleResult_of W A n c zs w h hn2 _ (ifL (prB W zs) (pends W zs W.toNat)) _ (ifL (prB W zs) (pwinds W zs W.toNat)) (prB W zs) (Nat.le_trans (prE_len W zs) (by decide)) (Nat.le_trans (prW_len W zs) (by decide)) (fun B b w2 r1 => sPoleResult_any W B n b zs w2 r1 (by omega)) (fun B b w2 r1 => iPoleResult_any W B n b zs w2 r1 (by omega))
  · have EZ := Lib.hid ((szv_no hn2).symm)
    clear h
    go_enter Try.func6, Try.ntmps6
    go_wp2_with fail
    refine (szPole_any W A n c _ _ (by omega) (by omega) hn).mono ?_
    rw [EZ.out]
    rintro e w1 ⟨rfl, hb⟩
    have HB := belStep (belAlloc (belRefl (w := w)) (.cells #[.int .i64 W, .slice A n c] 24)) hb
    clear hb
    go_wp2_with fail
    go_ret
    exact ⟨rfl, HB.out⟩
end Go.Proofs.Ytjdkicanamengaa
