/- The law of LeastPole, gone through: it returns true, and nothing that was there has turned. -/
import Derived.Test.YtpkdeoehfnnchaaLq7
import Derived.Test.YtpkdeoehfnnchaaPo2
import Derived.Test.YtpkdeoehfnnchaaStL
import Derived.Test.YtpkdeoehfnnchaaUl2
import Derived.Deep.RegionHeld3
namespace Go.Proofs.Ytpkdeoehfnnchaa
open Go Go.RowKit

set_option maxRecDepth 100000 in
set_option maxHeartbeats 8000000 in
theorem lawLeastPole_of (A : Option Addr) (n c : Nat) (zs : List Int) (E : Option Addr) (m d : Nat) (us : List Int) (w : World) (h : RI w A n zs) (g : RI w E m us) (hn2 : (n : Int) ≤ 1048576) (hm2 : (m : Int) ≤ 1048576 - n) (V : Int) (k1 : Nat) (ys : List Int) (q : Bool) (hk1 : k1 ≤ 1048576)
    (hS : Hid (∀ (B : Option Addr) (b : Nat) (D : Option Addr) (e : Nat) (w2 : World), RI w2 B n zs → RI w2 D m us → n ≤ b → m ≤ e → Calls Try.prog 8 #[.agg #[.slice B n b, .slice D m e]] w2 (FreshLB w2 V k1 ys q)))
    (hI : Hid (∀ (B : Option Addr) (b : Nat) (D : Option Addr) (e : Nat) (w2 : World), RI w2 B n zs → RI w2 D m us → n ≤ b → m ≤ e → Calls Try.prog 10 #[.agg #[.slice B n b, .slice D m e]] w2 (FreshLB w2 V k1 ys q))) :
    Calls Try.prog 3 #[.agg #[.slice A n c, .slice E m d]] w (RetB true w) := by
  have hn3 : n ≤ 1048576 := by omega
  have hm3 : m ≤ 1048576 := by omega
  have EZ := Lib.hid (szt_yes hn2 hm2)
  have hn : n ≤ 9223372036854775807 := by omega
  have hm : m ≤ 9223372036854775807 := by omega
  have e0 : (q != q) = false := by simp
  have e2 : ((1 : Int) + (k1 : Int) != 1 + (k1 : Int)) = false := by simp
  have RA := Lib.hid h
  have RE := Lib.hid g
  clear h g
  go_enter Try.func3, Try.ntmps3
  go_wp2_with fail
  have HP := cellNew w (.slice A n c) (.slice E m d) 24
  replace RA := riStep RA (allocBel w (.cells #[.slice A n c, .slice E m d] 24))
  replace RE := riStep RE (allocBel w (.cells #[.slice A n c, .slice E m d] 24))
  have HB := belAlloc (belRefl (w := w)) (.cells #[.slice A n c, .slice E m d] 24)
  refine (szTurned_any A n c E m d _ _ (by omega) (by omega) hn hm).mono ?_
  rw [EZ.out]
  rintro e w1 ⟨rfl, hb⟩
  replace RA := riStep RA hb
  replace RE := riStep RE hb
  replace HP := cellStep HP hb
  replace HB := belStep HB hb
  have p0 := HP.out.c0; have p1 := HP.out.c1; have pz := HP.out.lt
  clear hb
  go_wp2_with fail
  refine (toTurned_any A n c zs E m d us _ RA.out RE.out hn3 hm3).mono ?_
  rintro e w2 ⟨CA, Cc, CE, Cd, Cmid, rfl, o1, o2, Cl, Cm, hb⟩
  replace RA := riStep RA hb
  replace RE := riStep RE hb
  replace HP := cellStep HP hb
  replace HB := belStep HB hb
  replace p0 := HP.out.c0; replace p1 := HP.out.c1; replace pz := HP.out.lt
  have C1 := Lib.hid o1.ri
  have C2 := Lib.hid o2.ri
  clear hb
  go_wp2_with fail
  refine (hS.out CA Cc CE Cd _ C1.out C2.out Cl Cm).mono ?_
  rintro e w3 ⟨A0, c0, rfl, r1, hb⟩
  replace RA := riStep RA hb
  replace RE := riStep RE hb
  replace HP := cellStep HP hb
  replace HB := belStep HB hb
  replace p0 := HP.out.c0; replace p1 := HP.out.c1; replace pz := HP.out.lt
  have M1 := Lib.hid r1.ri
  clear hb o1 C1 r1 o2 C2
  go_wp2_with fail
  have HR := cellNew w3 (.int .i64 V) (.slice A0 k1 c0) 27
  replace RA := riStep RA (allocBel w3 (.cells #[.int .i64 V, .slice A0 k1 c0] 27))
  replace RE := riStep RE (allocBel w3 (.cells #[.int .i64 V, .slice A0 k1 c0] 27))
  replace HP := cellStep HP (allocBel w3 (.cells #[.int .i64 V, .slice A0 k1 c0] 27))
  replace M1 := riStep M1 (allocBel w3 (.cells #[.int .i64 V, .slice A0 k1 c0] 27))
  replace HB := belStep HB (allocBel w3 (.cells #[.int .i64 V, .slice A0 k1 c0] 27))
  replace p0 := HP.out.c0; replace p1 := HP.out.c1; replace pz := HP.out.lt
  have r0 := HR.out.c0; have r1 := HR.out.c1; have rz := HR.out.lt
  have SP := spNew HB
  have BK : Hid (w.heap.size < (w3.alloc (.cells #[.int .i64 V, .slice A0 k1 c0] 27)).heap.size) := Lib.hid (by have := HP.out.lt; simpa using this)
  have RK : Hid (w3.heap.size < (w3.alloc (.cells #[.int .i64 V, .slice A0 k1 c0] 27)).heap.size) := Lib.hid (by simp)
  replace RA := rbOf RA
  replace RE := rbOf RE
  replace M1 := rbOf M1
  obtain ⟨K, hK⟩ : ∃ K, K = (w3.alloc (.cells #[.int .i64 V, .slice A0 k1 c0] 27)).heap.size := ⟨_, rfl⟩
  rw [← hK] at SP BK RA M1 RE RK
  have HK := Lib.hid hK
  clear hK HB
  refine (toTurned_any A n c zs E m d us _ RA.out.ri RE.out.ri hn3 hm3).mono ?_
  rintro e w4 ⟨XA, Xc, XE, Xd, Xmid, rfl, o1, o2, Xl, Xm, hb⟩
  have z34 := hb.size
  rw [← HK.out] at o1 z34
  have H34 : Hid (K ≤ w4.heap.size) := z34
  replace RA := rbCall SP RA hb
  replace RE := rbCall SP RE hb
  replace HP := cellStep HP hb
  replace M1 := rbCall SP M1 hb
  replace HR := cellStep HR hb
  replace SP := spCall SP hb
  replace p0 := HP.out.c0; replace p1 := HP.out.c1; replace pz := HP.out.lt
  replace r0 := HR.out.c0; replace r1 := HR.out.c1; replace rz := HR.out.lt
  have X1 := Lib.hid o1
  have X2 := Lib.hid o2
  clear hb o1 z34 o2
  go_wp2_with fail
  have HX := cellNew w4 (.slice XA n Xc) (.slice XE m Xd) 30
  replace RA := rbCall SP RA (allocBel w4 (.cells #[.slice XA n Xc, .slice XE m Xd] 30))
  replace RE := rbCall SP RE (allocBel w4 (.cells #[.slice XA n Xc, .slice XE m Xd] 30))
  replace HP := cellStep HP (allocBel w4 (.cells #[.slice XA n Xc, .slice XE m Xd] 30))
  replace M1 := rbCall SP M1 (allocBel w4 (.cells #[.slice XA n Xc, .slice XE m Xd] 30))
  replace HR := cellStep HR (allocBel w4 (.cells #[.slice XA n Xc, .slice XE m Xd] 30))
  replace X1 := ogStep X1 (allocBel w4 (.cells #[.slice XA n Xc, .slice XE m Xd] 30))
  replace X2 := ogStep X2 (allocBel w4 (.cells #[.slice XA n Xc, .slice XE m Xd] 30))
  replace SP := spCall SP (allocBel w4 (.cells #[.slice XA n Xc, .slice XE m Xd] 30))
  replace p0 := HP.out.c0; replace p1 := HP.out.c1; replace pz := HP.out.lt
  replace r0 := HR.out.c0; replace r1 := HR.out.c1; replace rz := HR.out.lt
  have x0 := HX.out.c0; have x1 := HX.out.c1; have xz := HX.out.lt
  refine (hI.out XA Xc XE Xd _ X1.out.ri X2.out.ri Xl Xm).mono ?_
  rintro e w5 ⟨A9, c9, rfl, n1, hb⟩
  have z45 := hb.size
  simp only [World.size_alloc] at z45 n1
  have H45 : Hid (w4.heap.size < w5.heap.size) := z45
  replace RA := rbCall SP RA hb
  replace RE := rbCall SP RE hb
  replace HP := cellStep HP hb
  replace M1 := rbCall SP M1 hb
  replace HR := cellStep HR hb
  replace X1 := ogStep X1 hb
  replace X2 := ogStep X2 hb
  replace HX := cellStep HX hb
  replace SP := spCall SP hb
  replace p0 := HP.out.c0; replace p1 := HP.out.c1; replace pz := HP.out.lt
  replace r0 := HR.out.c0; replace r1 := HR.out.c1; replace rz := HR.out.lt
  replace x0 := HX.out.c0; replace x1 := HX.out.c1; replace xz := HX.out.lt
  have N1 : Hid (OG w5 (w4.heap.size + 1) w5.heap.size A9 k1 ys) := Lib.hid (OG.of_oi n1 z45)
  clear hb n1 z45
  go_wp2_with fail
  have HG := cellNew w5 (.int .i64 V) (.slice A9 k1 c9) 27
  replace RA := rbCall SP RA (allocBel w5 (.cells #[.int .i64 V, .slice A9 k1 c9] 27))
  replace RE := rbCall SP RE (allocBel w5 (.cells #[.int .i64 V, .slice A9 k1 c9] 27))
  replace HP := cellStep HP (allocBel w5 (.cells #[.int .i64 V, .slice A9 k1 c9] 27))
  replace M1 := rbCall SP M1 (allocBel w5 (.cells #[.int .i64 V, .slice A9 k1 c9] 27))
  replace HR := cellStep HR (allocBel w5 (.cells #[.int .i64 V, .slice A9 k1 c9] 27))
  replace X1 := ogStep X1 (allocBel w5 (.cells #[.int .i64 V, .slice A9 k1 c9] 27))
  replace X2 := ogStep X2 (allocBel w5 (.cells #[.int .i64 V, .slice A9 k1 c9] 27))
  replace HX := cellStep HX (allocBel w5 (.cells #[.int .i64 V, .slice A9 k1 c9] 27))
  replace N1 := ogStep N1 (allocBel w5 (.cells #[.int .i64 V, .slice A9 k1 c9] 27))
  replace SP := spCall SP (allocBel w5 (.cells #[.int .i64 V, .slice A9 k1 c9] 27))
  replace p0 := HP.out.c0; replace p1 := HP.out.c1; replace pz := HP.out.lt
  replace r0 := HR.out.c0; replace r1 := HR.out.c1; replace rz := HR.out.lt
  replace x0 := HX.out.c0; replace x1 := HX.out.c1; replace xz := HX.out.lt
  have g0 := HG.out.c0; have g1 := HG.out.c1; have gz := HG.out.lt
  refine (eqPole_any V A9 k1 c9 ys V A0 k1 c0 ys _ N1.out.ri M1.out.ri hk1 hk1).mono ?_
  rw [(eqSelf V ys).out]
  rintro e w6 ⟨rfl, hb⟩
  replace RA := rbCall SP RA hb
  replace RE := rbCall SP RE hb
  replace HP := cellStep HP hb
  replace M1 := rbCall SP M1 hb
  replace HR := cellStep HR hb
  replace X1 := ogStep X1 hb
  replace X2 := ogStep X2 hb
  replace HX := cellStep HX hb
  replace N1 := ogStep N1 hb
  replace HG := cellStep HG hb
  replace SP := spCall SP hb
  replace p0 := HP.out.c0; replace p1 := HP.out.c1; replace pz := HP.out.lt
  replace r0 := HR.out.c0; replace r1 := HR.out.c1; replace rz := HR.out.lt
  replace x0 := HX.out.c0; replace x1 := HX.out.c1; replace xz := HX.out.lt
  replace g0 := HG.out.c0; replace g1 := HG.out.c1; replace gz := HG.out.lt
  clear hb
  go_wp2_with fail
  have RAd := rbCall SP RA (drewBel _)
  have REd := rbCall SP RE (drewBel _)
  have HPd := cellDrew HP
  have M1d := rbCall SP M1 (drewBel _)
  have HRd := cellDrew HR
  have X1d := ogStep X1 (drewBel _)
  have X2d := ogStep X2 (drewBel _)
  have HXd := cellDrew HX
  have N1d := ogStep N1 (drewBel _)
  have HGd := cellDrew HG
  have SPd := spCall SP (drewBel _)
  go_region_held3 (fun w' => w'.cell? ⟨w.heap.size, 0, none⟩ = some (.slice A n c) ∧ w'.cell? ⟨w.heap.size, 1, none⟩ = some (.slice E m d) ∧ w'.cell? ⟨w4.heap.size, 0, none⟩ = some (.slice XA n Xc) ∧ w'.cell? ⟨w4.heap.size, 1, none⟩ = some (.slice XE m Xd))
    (first | exact ⟨HP.out.c0, HP.out.c1, HX.out.c0, HX.out.c1⟩ | exact ⟨HP7.out.c0, HP7.out.c1, HX7.out.c0, HX7.out.c1⟩ | exact ⟨HP8.out.c0, HP8.out.c1, HX8.out.c0, HX8.out.c1⟩)
    (first
      | (go_at_call 9; refine (toTurned_any A n c zs E m d us _ RAd.out.ri REd.out.ri hn3 hm3).mono ?_; rintro e w7 ⟨YA, Yc, YE, Yd, Ymid, rfl, y1, y2, Yl, Ym, hb⟩; have RA7 := rbCall SPd RAd hb; have RE7 := rbCall SPd REd hb; have HP7 := cellStep HPd hb; have M17 := rbCall SPd M1d hb; have HR7 := cellStep HRd hb; have X17 := ogStep X1d hb; have X27 := ogStep X2d hb; have HX7 := cellStep HXd hb; have N17 := ogStep N1d hb; have HG7 := cellStep HGd hb; have SP7 := spCall SPd hb; clear hb)
      | (go_at_call 12; refine (eqTurned_same XA n Xc zs XE m Xd us YA Yc YE Yd _ X17.out.ri y1.ri X27.out.ri y2.ri hn3 hm3).mono ?_; rintro e w8 ⟨rfl, hb⟩; have RA8 := rbCall SP7 RA7 hb; have RE8 := rbCall SP7 RE7 hb; have HP8 := cellStep HP7 hb; have M18 := rbCall SP7 M17 hb; have HR8 := cellStep HR7 hb; have X18 := ogStep X17 hb; have X28 := ogStep X27 hb; have HX8 := cellStep HX7 hb; have N18 := ogStep N17 hb; have HG8 := cellStep HG7 hb; have SP8 := spCall SP7 hb; clear hb))
  clear RA RE HP M1 HR X1 X2 HX N1 HG SP RAd REd HPd M1d HRd X1d X2d HXd N1d HGd SPd RA7 RE7 HP7 M17 HR7 X17 X27 HX7 N17 HG7 SP7 y1 y2 p0 p1 pz r0 r1 rz x0 x1 xz g0 g1 gz
  have RA := RA8
  have RE := RE8
  have HP := HP8
  have M1 := M18
  have HR := HR8
  have X1 := X18
  have X2 := X28
  have HX := HX8
  have N1 := N18
  have HG := HG8
  have SP := SP8
  clear RA8 RE8 HP8 M18 HR8 X18 X28 HX8 N18 HG8 SP8
  have p0 := HP.out.c0; have p1 := HP.out.c1; have pz := HP.out.lt
  have r0 := HR.out.c0; have r1 := HR.out.c1; have rz := HR.out.lt
  have x0 := HX.out.c0; have x1 := HX.out.c1; have xz := HX.out.lt
  have g0 := HG.out.c0; have g1 := HG.out.c1; have gz := HG.out.lt
  go_wp2_with fail
  refine (markTurned_any K Xmid w4.heap.size XA n Xc zs XE m Xd us 1 _ X1.out X2.out hn3 hm3 (by omega) (by omega)).mono ?_
  rintro e w9 ⟨rfl, y1, y2, hc⟩
  have hk := hc.below (Nat.le_refl _) SP.out.le'
  replace RA := rbStep RA hk
  replace RE := rbStep RE hk
  replace HP := c2Chg HP hc (.inl (by have := BK.out; have := H34.out; omega))
  replace M1 := rbStep M1 hk
  replace HR := c2Chg HR hc (.inl (by have := RK.out; have := H34.out; omega))
  replace N1 := ogChg N1 hc (.inr (Nat.le_succ _))
  replace HG := c2Chg HG hc (.inr (by have := H45.out; omega))
  replace SP := spStep SP hk
  clear hc hk y1 y2 X1 X2 HX x0 x1 xz
  replace p0 := HP.out.c0; replace p1 := HP.out.c1; replace pz := HP.out.lt
  replace r0 := HR.out.c0; replace r1 := HR.out.c1; replace rz := HR.out.lt
  replace g0 := HG.out.c0; replace g1 := HG.out.c1; replace gz := HG.out.lt
  have eneg : (decide ((1 : Int) + n + m < 0)) = false := by rw [decide_eq_false_iff_not]; omega
  go_wp2_with fail
  refine (eqPole_any V A9 k1 c9 ys V A0 k1 c0 ys _ N1.out.ri M1.out.ri hk1 hk1).mono ?_
  rw [(eqSelf V ys).out]
  rintro e w10 ⟨rfl, hb⟩
  replace RA := rbCall SP RA hb
  replace RE := rbCall SP RE hb
  replace HP := cellStep HP hb
  replace M1 := rbCall SP M1 hb
  replace HR := cellStep HR hb
  replace N1 := ogStep N1 hb
  replace HG := cellStep HG hb
  replace SP := spCall SP hb
  replace p0 := HP.out.c0; replace p1 := HP.out.c1; replace pz := HP.out.lt
  replace r0 := HR.out.c0; replace r1 := HR.out.c1; replace rz := HR.out.lt
  replace g0 := HG.out.c0; replace g1 := HG.out.c1; replace gz := HG.out.lt
  clear hb
  go_wp2_with fail
  refine (markPoleG_any (w4.heap.size + 1) w5.heap.size V A9 k1 c9 ys 1 _ N1.out hk1 (by omega) (by omega)).mono ?_
  rintro e w11 ⟨rfl, y1, hc⟩
  have N1m := Lib.hid y1
  have hk := hc.below (by have := H34.out; omega) SP.out.le'
  replace RA := rbStep RA hk
  replace RE := rbStep RE hk
  replace HP := c2Chg HP hc (.inl (by have := BK.out; have := H34.out; omega))
  replace M1 := rbStep M1 hk
  replace HR := c2Chg HR hc (.inl (by have := RK.out; have := H34.out; omega))
  replace HG := c2Chg HG hc (.inr (Nat.le_refl _))
  replace SP := spStep SP hk
  clear hc hk y1 N1
  replace p0 := HP.out.c0; replace p1 := HP.out.c1; replace pz := HP.out.lt
  replace r0 := HR.out.c0; replace r1 := HR.out.c1; replace rz := HR.out.lt
  replace g0 := HG.out.c0; replace g1 := HG.out.c1; replace gz := HG.out.lt
  have N1 := N1m
  clear N1m
  go_wp2_with fail
  refine (heldPole_any V A9 k1 c9 1 _ N1.out.ri hk1 (by omega) (by omega)).mono ?_
  rintro e w12 ⟨rfl, hb⟩
  replace RA := rbCall SP RA hb
  replace RE := rbCall SP RE hb
  replace HP := cellStep HP hb
  replace M1 := rbCall SP M1 hb
  replace HR := cellStep HR hb
  replace HG := cellStep HG hb
  replace N1 := ogStep N1 hb
  replace SP := spCall SP hb
  replace p0 := HP.out.c0; replace p1 := HP.out.c1; replace pz := HP.out.lt
  replace r0 := HR.out.c0; replace r1 := HR.out.c1; replace rz := HR.out.lt
  replace g0 := HG.out.c0; replace g1 := HG.out.c1; replace gz := HG.out.lt
  clear hb
  go_wp2_with fail
  refine (toTurned_any A n c zs E m d us _ RA.out.ri RE.out.ri hn3 hm3).mono ?_
  rintro e w13 ⟨ZA, Zc, ZE, Zd, Zmid, rfl, o1, o2, Zl, Zm, hb⟩
  replace RA := rbCall SP RA hb
  replace RE := rbCall SP RE hb
  replace HP := cellStep HP hb
  replace M1 := rbCall SP M1 hb
  replace HR := cellStep HR hb
  replace HG := cellStep HG hb
  replace N1 := ogStep N1 hb
  replace SP := spCall SP hb
  replace p0 := HP.out.c0; replace p1 := HP.out.c1; replace pz := HP.out.lt
  replace r0 := HR.out.c0; replace r1 := HR.out.c1; replace rz := HR.out.lt
  replace g0 := HG.out.c0; replace g1 := HG.out.c1; replace gz := HG.out.lt
  have Z1 := Lib.hid o1.ri
  have Z2 := Lib.hid o2.ri
  clear hb
  go_wp2_with fail
  refine (hI.out ZA Zc ZE Zd _ Z1.out Z2.out Zl Zm).mono ?_
  rintro e w14 ⟨A7, c7, rfl, n1, hb⟩
  replace RA := rbCall SP RA hb
  replace RE := rbCall SP RE hb
  replace HP := cellStep HP hb
  replace M1 := rbCall SP M1 hb
  replace HR := cellStep HR hb
  replace HG := cellStep HG hb
  replace N1 := ogStep N1 hb
  replace SP := spCall SP hb
  replace p0 := HP.out.c0; replace p1 := HP.out.c1; replace pz := HP.out.lt
  replace r0 := HR.out.c0; replace r1 := HR.out.c1; replace rz := HR.out.lt
  replace g0 := HG.out.c0; replace g1 := HG.out.c1; replace gz := HG.out.lt
  have V1 := Lib.hid n1.ri
  clear hb n1 o1 Z1 o2 Z2
  go_wp2_with fail
  replace RA := rbCall SP RA (allocBel w14 (.cells #[.int .i64 V, .slice A7 k1 c7] 27))
  replace RE := rbCall SP RE (allocBel w14 (.cells #[.int .i64 V, .slice A7 k1 c7] 27))
  replace HP := cellStep HP (allocBel w14 (.cells #[.int .i64 V, .slice A7 k1 c7] 27))
  replace M1 := rbCall SP M1 (allocBel w14 (.cells #[.int .i64 V, .slice A7 k1 c7] 27))
  replace HR := cellStep HR (allocBel w14 (.cells #[.int .i64 V, .slice A7 k1 c7] 27))
  replace HG := cellStep HG (allocBel w14 (.cells #[.int .i64 V, .slice A7 k1 c7] 27))
  replace N1 := ogStep N1 (allocBel w14 (.cells #[.int .i64 V, .slice A7 k1 c7] 27))
  replace V1 := riStep V1 (allocBel w14 (.cells #[.int .i64 V, .slice A7 k1 c7] 27))
  replace SP := spCall SP (allocBel w14 (.cells #[.int .i64 V, .slice A7 k1 c7] 27))
  replace p0 := HP.out.c0; replace p1 := HP.out.c1; replace pz := HP.out.lt
  replace r0 := HR.out.c0; replace r1 := HR.out.c1; replace rz := HR.out.lt
  replace g0 := HG.out.c0; replace g1 := HG.out.c1; replace gz := HG.out.lt
  refine (eqPole_any V A7 k1 c7 ys V A0 k1 c0 ys _ V1.out M1.out.ri hk1 hk1).mono ?_
  rw [(eqSelf V ys).out]
  rintro e w15 ⟨rfl, hb⟩
  replace RA := rbCall SP RA hb
  replace RE := rbCall SP RE hb
  replace HP := cellStep HP hb
  replace M1 := rbCall SP M1 hb
  replace HR := cellStep HR hb
  replace HG := cellStep HG hb
  replace N1 := ogStep N1 hb
  replace V1 := riStep V1 hb
  replace SP := spCall SP hb
  replace p0 := HP.out.c0; replace p1 := HP.out.c1; replace pz := HP.out.lt
  replace r0 := HR.out.c0; replace r1 := HR.out.c1; replace rz := HR.out.lt
  replace g0 := HG.out.c0; replace g1 := HG.out.c1; replace gz := HG.out.lt
  clear hb
  clear V1
  go_wp2_with fail
  refine (heldPole_any V A9 k1 c9 1 _ N1.out.ri hk1 (by omega) (by omega)).mono ?_
  rintro e w16 ⟨rfl, hb⟩
  replace RA := rbCall SP RA hb
  replace RE := rbCall SP RE hb
  replace HP := cellStep HP hb
  replace M1 := rbCall SP M1 hb
  replace HR := cellStep HR hb
  replace HG := cellStep HG hb
  replace N1 := ogStep N1 hb
  replace SP := spCall SP hb
  replace p0 := HP.out.c0; replace p1 := HP.out.c1; replace pz := HP.out.lt
  replace r0 := HR.out.c0; replace r1 := HR.out.c1; replace rz := HR.out.lt
  replace g0 := HG.out.c0; replace g1 := HG.out.c1; replace gz := HG.out.lt
  clear hb
  go_wp2_with fail
  go_ret
  exact ⟨rfl, SP.out.bel⟩

set_option maxHeartbeats 1000000 in
theorem lawLeastPole_any (A : Option Addr) (n c : Nat) (zs : List Int) (E : Option Addr) (m d : Nat) (us : List Int) (w : World) (h : RI w A n zs) (hn : n ≤ 9223372036854775807) (g : RI w E m us) (hm : m ≤ 9223372036854775807) :
    Calls Try.prog 3 #[.agg #[.slice A n c, .slice E m d]] w (RetB true w) := by
  by_cases hn2 : (n : Int) ≤ 1048576
  · by_cases hm2 : (m : Int) ≤ 1048576 - n
    · exact lawLeastPole_of A n c zs E m d us w h g hn2 hm2 (lpN zs us) _ (lpZ zs us) (lpQ zs us) (Nat.le_trans (lpZ_len zs us) (by decide)) (fun B b D e w2 r1 r2 l1 l2 => sLeastPole_any B n b zs D m e us w2 r1 r2 (by omega) (by omega) l1) (fun B b D e w2 r1 r2 l1 l2 => iLeastPole_any B n b zs D m e us w2 r1 r2 (by omega) (by omega) l1)
    · have EZ := Lib.hid (szt_no2 hn2 hm2)
      clear h g
      go_enter Try.func3, Try.ntmps3
      go_wp2_with fail
      refine (szTurned_any A n c E m d _ _ (by omega) (by omega) hn hm).mono ?_
      rw [EZ.out]
      rintro e w1 ⟨rfl, hb⟩
      have HB := belStep (belAlloc (belRefl (w := w)) (.cells #[.slice A n c, .slice E m d] 24)) hb
      clear hb
      go_wp2_with fail
      go_ret
      exact ⟨rfl, HB.out⟩
  · have EZ := Lib.hid (szt_no1 (m := m) hn2)
    clear h g
    go_enter Try.func3, Try.ntmps3
    go_wp2_with fail
    refine (szTurned_any A n c E m d _ _ (by omega) (by omega) hn hm).mono ?_
    rw [EZ.out]
    rintro e w1 ⟨rfl, hb⟩
    have HB := belStep (belAlloc (belRefl (w := w)) (.cells #[.slice A n c, .slice E m d] 24)) hb
    clear hb
    go_wp2_with fail
    go_ret
    exact ⟨rfl, HB.out⟩
end Go.Proofs.Ytpkdeoehfnnchaa
