/- The law of PatternOf, gone through: it returns true, and nothing that was there has turned. -/
import Derived.Test.YthalcjgpjagcoaaPa2
import Derived.Test.YthalcjgpjagcoaaStP
namespace Go.Proofs.Ythalcjgpjagcoaa
open Go Go.RowKit

set_option maxRecDepth 100000 in
set_option maxHeartbeats 8000000 in
theorem lawPatternOf_of (A0 : Option Addr) (n0 c0 : Nat) (zs0 : List Int) (A1 : Option Addr) (n1 c1 : Nat) (zs1 : List Int) (w : World) (h0 : RI w A0 n0 zs0) (h1 : RI w A1 n1 zs1) (hn0 : (n0 : Int) ≤ 1048576) (hn1 : (n1 : Int) ≤ 1048576) (m : Nat) (ys : List Int) (q : Bool) (hm3 : m ≤ 1048576)
    (hS : Hid (∀ (B0 : Option Addr) (d0 : Nat) (B1 : Option Addr) (d1 : Nat) (w2 : World), RI w2 B0 n0 zs0 → n0 ≤ d0 → RI w2 B1 n1 zs1 → n1 ≤ d1 → Calls Try.prog 20 #[.slice B0 n0 d0, .slice B1 n1 d1] w2 (FreshIB w2 m ys q)))
    (hI : Hid (∀ (B0 : Option Addr) (d0 : Nat) (B1 : Option Addr) (d1 : Nat) (w2 : World), RI w2 B0 n0 zs0 → n0 ≤ d0 → RI w2 B1 n1 zs1 → n1 ≤ d1 → Calls Try.prog 22 #[.slice B0 n0 d0, .slice B1 n1 d1] w2 (FreshIB w2 m ys q))) :
    Calls Try.prog 4 #[.slice A0 n0 c0, .slice A1 n1 c1] w (RetB true w) := by
  have hm0 : n0 ≤ 1048576 := by omega
  have hm1 : n1 ≤ 1048576 := by omega
  have e0 : (q != q) = false := by simp
  have e2 : ((1 : Int) + (m : Int) != 1 + (m : Int)) = false := by simp
  have HA0 := Lib.hid h0
  have HA1 := Lib.hid h1
  have HB := belRefl (w := w)
  clear h0 h1
  go_enter Try.func4, Try.ntmps4
  -- the model
  go_wp2_with fail
  refine (toIntS_any A0 n0 c0 zs0 _ HA0.out hm0).mono ?_
  rintro e w1 ⟨C0, Cc0, rfl, o, hb⟩
  replace HA0 := riStep HA0 hb
  replace HA1 := riStep HA1 hb
  replace HB := belStep HB hb
  have HC0 := Lib.hid o
  clear hb o
  go_wp2_with fail
  refine (toIntS_any A1 n1 c1 zs1 _ HA1.out hm1).mono ?_
  rintro e w2 ⟨C1, Cc1, rfl, o, hb⟩
  replace HA0 := riStep HA0 hb
  replace HA1 := riStep HA1 hb
  replace HC0 := oiStep HC0 hb
  replace HB := belStep HB hb
  have HC1 := Lib.hid o
  clear hb o
  go_wp2_with fail
  refine (hS.out C0 Cc0 C1 Cc1 _ HC0.out.ri HC0.out.le HC1.out.ri HC1.out.le).mono ?_
  rintro e v1 ⟨A9, c9, rfl, o, hb⟩
  clear HC0 HC1
  replace HA0 := riStep HA0 hb
  replace HA1 := riStep HA1 hb
  replace HB := belStep HB hb
  have SP := spNew HB
  replace HA0 := rbOf HA0
  replace HA1 := rbOf HA1
  have HR := rbOf (Lib.hid o.ri)
  clear hb o HB
  -- the program
  go_wp2_with fail
  refine (toIntS_any A0 n0 c0 zs0 _ HA0.out.ri hm0).mono ?_
  rintro e w3 ⟨X0, Xc0, rfl, o, hb⟩
  replace HA0 := rbCall SP HA0 hb
  replace HA1 := rbCall SP HA1 hb
  replace HR := rbCall SP HR hb
  replace SP := spCall SP hb
  have HL0 := blkLt o
  have HX0 := Lib.hid o
  have HS0 := Lib.hid hb.size
  clear hb o
  go_wp2_with fail
  refine (toIntS_any A1 n1 c1 zs1 _ HA1.out.ri hm1).mono ?_
  rintro e w4 ⟨X1, Xc1, rfl, o, hb⟩
  replace HA0 := rbCall SP HA0 hb
  replace HA1 := rbCall SP HA1 hb
  replace HR := rbCall SP HR hb
  replace HX0 := oiStep HX0 hb
  replace SP := spCall SP hb
  have HL1 := blkLt o
  have HX1 := Lib.hid o
  have HS1 := Lib.hid hb.size
  clear hb o
  go_wp2_with fail
  refine (hI.out X0 Xc0 X1 Xc1 _ HX0.out.ri HX0.out.le HX1.out.ri HX1.out.le).mono ?_
  rintro e v2 ⟨A8, c8, rfl, o, hb⟩
  replace HA0 := rbCall SP HA0 hb
  replace HA1 := rbCall SP HA1 hb
  replace HR := rbCall SP HR hb
  replace HX0 := oiStep HX0 hb
  replace HX1 := oiStep HX1 hb
  replace SP := spCall SP hb
  have HN := Lib.hid o
  clear hb o
  go_wp2_with fail
  refine (eqIntS_any A8 m c8 ys A9 m c9 ys _ HN.out.ri HR.out.ri hm3 hm3).mono ?_
  rw [eqB_self]
  rintro e v3 ⟨rfl, hb⟩
  replace HA0 := rbCall SP HA0 hb
  replace HA1 := rbCall SP HA1 hb
  replace HR := rbCall SP HR hb
  replace HX0 := oiStep HX0 hb
  replace HX1 := oiStep HX1 hb
  replace HN := oiStep HN hb
  replace SP := spCall SP hb
  clear hb
  have HK0 : Hid (v1.heap.size ≤ v1.heap.size) := by show v1.heap.size ≤ _;  omega
  have HJ0_1 : Hid (w3.heap.size ≤ w3.heap.size) := by show _ ≤ _;  omega
  have HJ0_N : Hid (w3.heap.size ≤ w4.heap.size) := by show _ ≤ _; have := HS1.out; omega
  have HK1 : Hid (v1.heap.size ≤ w3.heap.size) := by show v1.heap.size ≤ _; have := HS0.out; omega
  have HJ1_N : Hid (w4.heap.size ≤ w4.heap.size) := by show _ ≤ _;  omega
  have HKN : Hid (v1.heap.size ≤ w4.heap.size) := by show _ ≤ _; have := HS0.out; have := HS1.out; omega
  -- the arguments as they were
  go_wp2_with fail
  refine (toIntS_any A0 n0 c0 zs0 _ HA0.out.ri hm0).mono ?_
  rintro e u0 ⟨Y0, Yc0, rfl, o, hb⟩
  replace HA0 := rbCall SP HA0 hb
  replace HA1 := rbCall SP HA1 hb
  replace HR := rbCall SP HR hb
  replace HX0 := oiStep HX0 hb
  replace HX1 := oiStep HX1 hb
  replace HN := oiStep HN hb
  replace SP := spCall SP hb
  clear hb
  go_wp2_with fail
  refine (eqIntS_any X0 n0 Xc0 zs0 Y0 n0 Yc0 zs0 _ HX0.out.ri o.ri hm0 hm0).mono ?_
  rw [eqB_self]
  rintro e u0d ⟨rfl, hb⟩
  replace HA0 := rbCall SP HA0 hb
  replace HA1 := rbCall SP HA1 hb
  replace HR := rbCall SP HR hb
  replace HX0 := oiStep HX0 hb
  replace HX1 := oiStep HX1 hb
  replace HN := oiStep HN hb
  replace SP := spCall SP hb
  clear hb o
  go_wp2_with fail
  refine (toIntS_any A1 n1 c1 zs1 _ HA1.out.ri hm1).mono ?_
  rintro e u1 ⟨Y1, Yc1, rfl, o, hb⟩
  replace HA0 := rbCall SP HA0 hb
  replace HA1 := rbCall SP HA1 hb
  replace HR := rbCall SP HR hb
  replace HX0 := oiStep HX0 hb
  replace HX1 := oiStep HX1 hb
  replace HN := oiStep HN hb
  replace SP := spCall SP hb
  clear hb
  go_wp2_with fail
  refine (eqIntS_any X1 n1 Xc1 zs1 Y1 n1 Yc1 zs1 _ HX1.out.ri o.ri hm1 hm1).mono ?_
  rw [eqB_self]
  rintro e u1d ⟨rfl, hb⟩
  replace HA0 := rbCall SP HA0 hb
  replace HA1 := rbCall SP HA1 hb
  replace HR := rbCall SP HR hb
  replace HX0 := oiStep HX0 hb
  replace HX1 := oiStep HX1 hb
  replace HN := oiStep HN hb
  replace SP := spCall SP hb
  clear hb o
  -- the arguments are marked
  go_wp2_with fail
  refine (markIntS_any _ X0 n0 Xc0 zs0 (1) _ HX0.out hm0 (by omega) (by omega)).mono ?_
  rintro e m0 ⟨rfl, o, hg⟩
  have hk := ofMark HX0.out hg HK0.out SP.out.le'
  replace HX1 := oiKept HX1 hg (blkLtMono HL0 HJ0_1.out)
  replace HN := oiKept HN hg (blkLtMono HL0 HJ0_N.out)
  replace HA0 := rbStep HA0 hk
  replace HA1 := rbStep HA1 hk
  replace HR := rbStep HR hk
  replace SP := spStep SP hk
  clear HX0 hk hg o
  go_wp2_with fail
  refine (markIntS_any _ X1 n1 Xc1 zs1 (1 + n0) _ HX1.out hm1 (by omega) (by omega)).mono ?_
  rintro e m1 ⟨rfl, o, hg⟩
  have hk := ofMark HX1.out hg HK1.out SP.out.le'
  replace HN := oiKept HN hg (blkLtMono HL1 HJ1_N.out)
  replace HA0 := rbStep HA0 hk
  replace HA1 := rbStep HA1 hk
  replace HR := rbStep HR hk
  replace SP := spStep SP hk
  clear HX1 hk hg o
  have eneg : (decide ((1 : Int) + n0 + n1 < 0)) = false := by rw [decide_eq_false_iff_not]; omega
  go_wp2_with fail
  refine (eqIntS_any A8 m c8 ys A9 m c9 ys _ HN.out.ri HR.out.ri hm3 hm3).mono ?_
  rw [eqB_self]
  rintro e v4 ⟨rfl, hb⟩
  replace HA0 := rbCall SP HA0 hb
  replace HA1 := rbCall SP HA1 hb
  replace HR := rbCall SP HR hb
  replace HN := oiStep HN hb
  replace SP := spCall SP hb
  clear hb
  -- the answer is marked
  go_wp2_with fail
  refine (markIntS_any _ A8 m c8 ys 1 _ HN.out hm3 (by omega) (by omega)).mono ?_
  rintro e v5 ⟨rfl, o, hg⟩
  have hk := ofMark HN.out hg HKN.out SP.out.le'
  replace HA0 := rbStep HA0 hk
  replace HA1 := rbStep HA1 hk
  replace HR := rbStep HR hk
  replace SP := spStep SP hk
  replace HN := Lib.hid o
  clear o hg hk
  go_wp2_with fail
  refine (heldIntS_any A8 m c8 1 _ HN.out.ri hm3 (by omega) (by omega)).mono ?_
  rintro e v6 ⟨rfl, hb⟩
  replace HA0 := rbCall SP HA0 hb
  replace HA1 := rbCall SP HA1 hb
  replace HR := rbCall SP HR hb
  replace HN := oiStep HN hb
  replace SP := spCall SP hb
  clear hb
  -- once more
  go_wp2_with fail
  refine (toIntS_any A0 n0 c0 zs0 _ HA0.out.ri hm0).mono ?_
  rintro e w5 ⟨Z0, Zc0, rfl, o, hb⟩
  replace HA0 := rbCall SP HA0 hb
  replace HA1 := rbCall SP HA1 hb
  replace HR := rbCall SP HR hb
  replace HN := oiStep HN hb
  replace SP := spCall SP hb
  have HZ0 := Lib.hid o
  clear hb o
  go_wp2_with fail
  refine (toIntS_any A1 n1 c1 zs1 _ HA1.out.ri hm1).mono ?_
  rintro e w6 ⟨Z1, Zc1, rfl, o, hb⟩
  replace HA0 := rbCall SP HA0 hb
  replace HA1 := rbCall SP HA1 hb
  replace HR := rbCall SP HR hb
  replace HN := oiStep HN hb
  replace HZ0 := oiStep HZ0 hb
  replace SP := spCall SP hb
  have HZ1 := Lib.hid o
  clear hb o
  go_wp2_with fail
  refine (hI.out Z0 Zc0 Z1 Zc1 _ HZ0.out.ri HZ0.out.le HZ1.out.ri HZ1.out.le).mono ?_
  rintro e v7 ⟨A7, c7, rfl, o, hb⟩
  clear HZ0 HZ1
  replace HA0 := rbCall SP HA0 hb
  replace HA1 := rbCall SP HA1 hb
  replace HR := rbCall SP HR hb
  replace HN := oiStep HN hb
  replace SP := spCall SP hb
  have H7 := Lib.hid o
  clear hb o
  go_wp2_with fail
  refine (eqIntS_any A7 m c7 ys A9 m c9 ys _ H7.out.ri HR.out.ri hm3 hm3).mono ?_
  rw [eqB_self]
  rintro e v8 ⟨rfl, hb⟩
  replace HA0 := rbCall SP HA0 hb
  replace HA1 := rbCall SP HA1 hb
  replace HR := rbCall SP HR hb
  replace HN := oiStep HN hb
  replace SP := spCall SP hb
  clear hb
  go_wp2_with fail
  refine (heldIntS_any A8 m c8 1 _ HN.out.ri hm3 (by omega) (by omega)).mono ?_
  rintro e v9 ⟨rfl, hb⟩
  replace HA0 := rbCall SP HA0 hb
  replace HA1 := rbCall SP HA1 hb
  replace HR := rbCall SP HR hb
  replace HN := oiStep HN hb
  replace SP := spCall SP hb
  clear hb
  go_wp2_with fail
  go_ret
  exact ⟨rfl, SP.out.bel⟩

set_option maxHeartbeats 1000000 in
theorem lawPatternOf_any (A0 : Option Addr) (n0 c0 : Nat) (zs0 : List Int) (A1 : Option Addr) (n1 c1 : Nat) (zs1 : List Int) (w : World) (h0 : RI w A0 n0 zs0) (hn0 : n0 ≤ 9223372036854775807) (h1 : RI w A1 n1 zs1) (hn1 : n1 ≤ 9223372036854775807) :
    Calls Try.prog 4 #[.slice A0 n0 c0, .slice A1 n1 c1] w (RetB true w) := by
  by_cases hm0 : (n0 : Int) ≤ 1048576
  · skip
    by_cases hm1 : (n1 : Int) ≤ 1048576
    · skip
      exact lawPatternOf_of A0 n0 c0 zs0 A1 n1 c1 zs1 w h0 h1 hm0 hm1 _ (poL zs0 zs1) (poB zs0 zs1) (Nat.le_trans (poL_len zs0 zs1) (by decide)) (fun B0 d0 B1 d1 w2 r0 l0 r1 l1 => sPatternOf_any B0 n0 d0 zs0 B1 n1 d1 zs1 w2 r0 (by omega) l0 r1 (by omega) l1) (fun B0 d0 B1 d1 w2 r0 l0 r1 l1 => iPatternOf_any B0 n0 d0 zs0 B1 n1 d1 zs1 w2 r0 (by omega) l0 r1 (by omega) l1)
    · clear h0 h1
      go_enter Try.func4, Try.ntmps4
      go_wp2_with fail
      go_ret
      exact ⟨rfl, Below.refl _ _⟩
  · clear h0 h1
    go_enter Try.func4, Try.ntmps4
    go_wp2_with fail
    go_ret
    exact ⟨rfl, Below.refl _ _⟩
end Go.Proofs.Ythalcjgpjagcoaa
