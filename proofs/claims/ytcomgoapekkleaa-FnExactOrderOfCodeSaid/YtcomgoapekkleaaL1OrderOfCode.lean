/- The law of OrderOfCode, gone through: it returns true, and nothing that was there has turned. -/
import Derived.Test.YtcomgoapekkleaaOc2
import Derived.Test.YtcomgoapekkleaaOc3
import Derived.Test.YtcomgoapekkleaaStP
namespace Go.Proofs.Ytcomgoapekkleaa
open Go Go.RowKit

set_option maxRecDepth 100000 in
set_option maxHeartbeats 8000000 in
theorem lawOrderOfCode_of (A0 : Option Addr) (n0 c0 : Nat) (zs0 : List Int) (w : World) (h0 : RI w A0 n0 zs0) (hn0 : (n0 : Int) ≤ 1048576) (m : Nat) (ys : List Int) (q : Bool) (hm3 : m ≤ 1048576)
    (hS : Hid (∀ (B0 : Option Addr) (d0 : Nat) (w2 : World), RI w2 B0 n0 zs0 → n0 ≤ d0 → Calls Try.prog 28 #[.slice B0 n0 d0] w2 (FreshIB w2 m ys q)))
    (hI : Hid (∀ (B0 : Option Addr) (d0 : Nat) (w2 : World), RI w2 B0 n0 zs0 → n0 ≤ d0 → Calls Try.prog 29 #[.slice B0 n0 d0] w2 (FreshIB w2 m ys q))) :
    Calls Try.prog 7 #[.slice A0 n0 c0] w (RetB true w) := by
  have hm0 : n0 ≤ 1048576 := by omega
  have e0 : (q != q) = false := by simp
  have e2 : ((1 : Int) + (m : Int) != 1 + (m : Int)) = false := by simp
  have HA0 := Lib.hid h0
  have HB := belRefl (w := w)
  clear h0
  go_enter Try.func7, Try.ntmps7
  -- the model
  go_wp2_with fail
  refine (toIntS_any A0 n0 c0 zs0 _ HA0.out hm0).mono ?_
  rintro e w1 ⟨C0, Cc0, rfl, o, hb⟩
  replace HA0 := riStep HA0 hb
  replace HB := belStep HB hb
  have HC0 := Lib.hid o
  clear hb o
  go_wp2_with fail
  refine (hS.out C0 Cc0 _ HC0.out.ri HC0.out.le).mono ?_
  rintro e v1 ⟨A9, c9, rfl, o, hb⟩
  clear HC0
  replace HA0 := riStep HA0 hb
  replace HB := belStep HB hb
  have SP := spNew HB
  replace HA0 := rbOf HA0
  have HR := rbOf (Lib.hid o.ri)
  clear hb o HB
  -- the program
  go_wp2_with fail
  refine (toIntS_any A0 n0 c0 zs0 _ HA0.out.ri hm0).mono ?_
  rintro e w2 ⟨X0, Xc0, rfl, o, hb⟩
  replace HA0 := rbCall SP HA0 hb
  replace HR := rbCall SP HR hb
  replace SP := spCall SP hb
  have HL0 := blkLt o
  have HX0 := Lib.hid o
  have HS0 := Lib.hid hb.size
  clear hb o
  go_wp2_with fail
  refine (hI.out X0 Xc0 _ HX0.out.ri HX0.out.le).mono ?_
  rintro e v2 ⟨A8, c8, rfl, o, hb⟩
  replace HA0 := rbCall SP HA0 hb
  replace HR := rbCall SP HR hb
  replace HX0 := oiStep HX0 hb
  replace SP := spCall SP hb
  have HN := Lib.hid o
  clear hb o
  go_wp2_with fail
  refine (eqIntS_any A8 m c8 ys A9 m c9 ys _ HN.out.ri HR.out.ri hm3 hm3).mono ?_
  rw [eqB_self]
  rintro e v3 ⟨rfl, hb⟩
  replace HA0 := rbCall SP HA0 hb
  replace HR := rbCall SP HR hb
  replace HX0 := oiStep HX0 hb
  replace HN := oiStep HN hb
  replace SP := spCall SP hb
  clear hb
  have HK0 : Hid (v1.heap.size ≤ v1.heap.size) := by show v1.heap.size ≤ _;  omega
  have HJ0_N : Hid (w2.heap.size ≤ w2.heap.size) := by show _ ≤ _;  omega
  have HKN : Hid (v1.heap.size ≤ w2.heap.size) := by show _ ≤ _; have := HS0.out; omega
  -- the arguments as they were
  go_wp2_with fail
  refine (toIntS_any A0 n0 c0 zs0 _ HA0.out.ri hm0).mono ?_
  rintro e u0 ⟨Y0, Yc0, rfl, o, hb⟩
  replace HA0 := rbCall SP HA0 hb
  replace HR := rbCall SP HR hb
  replace HX0 := oiStep HX0 hb
  replace HN := oiStep HN hb
  replace SP := spCall SP hb
  clear hb
  go_wp2_with fail
  refine (eqIntS_any X0 n0 Xc0 zs0 Y0 n0 Yc0 zs0 _ HX0.out.ri o.ri hm0 hm0).mono ?_
  rw [eqB_self]
  rintro e u0d ⟨rfl, hb⟩
  replace HA0 := rbCall SP HA0 hb
  replace HR := rbCall SP HR hb
  replace HX0 := oiStep HX0 hb
  replace HN := oiStep HN hb
  replace SP := spCall SP hb
  clear hb o
  -- the arguments are marked
  go_wp2_with fail
  refine (markIntS_any _ X0 n0 Xc0 zs0 (1) _ HX0.out hm0 (by omega) (by omega)).mono ?_
  rintro e m0 ⟨rfl, o, hg⟩
  have hk := ofMark HX0.out hg HK0.out SP.out.le'
  replace HN := oiKept HN hg (blkLtMono HL0 HJ0_N.out)
  replace HA0 := rbStep HA0 hk
  replace HR := rbStep HR hk
  replace SP := spStep SP hk
  clear HX0 hk hg o
  have eneg : (decide ((1 : Int) + n0 < 0)) = false := by rw [decide_eq_false_iff_not]; omega
  go_wp2_with fail
  refine (eqIntS_any A8 m c8 ys A9 m c9 ys _ HN.out.ri HR.out.ri hm3 hm3).mono ?_
  rw [eqB_self]
  rintro e v4 ⟨rfl, hb⟩
  replace HA0 := rbCall SP HA0 hb
  replace HR := rbCall SP HR hb
  replace HN := oiStep HN hb
  replace SP := spCall SP hb
  clear hb
  -- the answer is marked
  go_wp2_with fail
  refine (markIntS_any _ A8 m c8 ys 1 _ HN.out hm3 (by omega) (by omega)).mono ?_
  rintro e v5 ⟨rfl, o, hg⟩
  have hk := ofMark HN.out hg HKN.out SP.out.le'
  replace HA0 := rbStep HA0 hk
  replace HR := rbStep HR hk
  replace SP := spStep SP hk
  replace HN := Lib.hid o
  clear o hg hk
  go_wp2_with fail
  refine (heldIntS_any A8 m c8 1 _ HN.out.ri hm3 (by omega) (by omega)).mono ?_
  rintro e v6 ⟨rfl, hb⟩
  replace HA0 := rbCall SP HA0 hb
  replace HR := rbCall SP HR hb
  replace HN := oiStep HN hb
  replace SP := spCall SP hb
  clear hb
  -- once more
  go_wp2_with fail
  refine (toIntS_any A0 n0 c0 zs0 _ HA0.out.ri hm0).mono ?_
  rintro e w3 ⟨Z0, Zc0, rfl, o, hb⟩
  replace HA0 := rbCall SP HA0 hb
  replace HR := rbCall SP HR hb
  replace HN := oiStep HN hb
  replace SP := spCall SP hb
  have HZ0 := Lib.hid o
  clear hb o
  go_wp2_with fail
  refine (hI.out Z0 Zc0 _ HZ0.out.ri HZ0.out.le).mono ?_
  rintro e v7 ⟨A7, c7, rfl, o, hb⟩
  clear HZ0
  replace HA0 := rbCall SP HA0 hb
  replace HR := rbCall SP HR hb
  replace HN := oiStep HN hb
  replace SP := spCall SP hb
  have H7 := Lib.hid o
  clear hb o
  go_wp2_with fail
  refine (eqIntS_any A7 m c7 ys A9 m c9 ys _ H7.out.ri HR.out.ri hm3 hm3).mono ?_
  rw [eqB_self]
  rintro e v8 ⟨rfl, hb⟩
  replace HA0 := rbCall SP HA0 hb
  replace HR := rbCall SP HR hb
  replace HN := oiStep HN hb
  replace SP := spCall SP hb
  clear hb
  go_wp2_with fail
  refine (heldIntS_any A8 m c8 1 _ HN.out.ri hm3 (by omega) (by omega)).mono ?_
  rintro e v9 ⟨rfl, hb⟩
  replace HA0 := rbCall SP HA0 hb
  replace HR := rbCall SP HR hb
  replace HN := oiStep HN hb
  replace SP := spCall SP hb
  clear hb
  go_wp2_with fail
  go_ret
  exact ⟨rfl, SP.out.bel⟩

set_option maxHeartbeats 1000000 in
theorem lawOrderOfCode_any (A0 : Option Addr) (n0 c0 : Nat) (zs0 : List Int) (w : World) (h0 : RI w A0 n0 zs0) (hn0 : n0 ≤ 9223372036854775807) :
    Calls Try.prog 7 #[.slice A0 n0 c0] w (RetB true w) := by
  by_cases hm0 : (n0 : Int) ≤ 1048576
  · skip
    exact lawOrderOfCode_of A0 n0 c0 zs0 w h0 hm0 _ (ocL zs0) (ocB zs0) (Nat.le_trans (ocL_len zs0) (by decide)) (fun B0 d0 w2 r0 l0 => sOrderOfCode_any B0 n0 d0 zs0 w2 r0 (by omega) l0) (fun B0 d0 w2 r0 l0 => iOrderOfCode_any B0 n0 d0 zs0 w2 r0 (by omega) l0)
  · clear h0
    go_enter Try.func7, Try.ntmps7
    go_wp2_with fail
    go_ret
    exact ⟨rfl, Below.refl _ _⟩
end Go.Proofs.Ytcomgoapekkleaa
