/- The law of AllLeast, gone through: it returns true, and nothing that was there has turned. -/
import Derived.Test.YtgeeifjbfceogaaGreatDoorAl6
import Derived.Test.YtgeeifjbfceogaaGreatDoorStLL
import Derived.Test.YtgeeifjbfceogaaGreatDoorStP
import Derived.Test.YtgeeifjbfceogaaGreatDoorStSS
namespace Go.Proofs.YtgeeifjbfceogaaGreatDoor
open Go Go.RowKit

set_option maxRecDepth 100000 in
set_option maxHeartbeats 8000000 in
theorem lawAllLeast_of (A0 : Option Addr) (n0 c0 : Nat) (zs0 : List Int) (w : World) (h0 : RI w A0 n0 zs0) (hn0 : (n0 : Int) ≤ 1048576) (W : Int) (yss : List (List Int)) (q : Bool) (hm3 : yss.length ≤ 1048576) (hmj : ∀ j, (gz yss j).length ≤ 1048576) (htt : tot yss yss.length ≤ 100000000)
    (hS : Hid (∀ (B0 : Option Addr) (d0 : Nat) (w2 : World), RI w2 B0 n0 zs0 → n0 ≤ d0 → Calls Tryz.prog 15 #[.slice B0 n0 d0] w2 (FreshLLB w2 W yss q)))
    (hI : Hid (∀ (B0 : Option Addr) (d0 : Nat) (w2 : World), Below w.heap.size w w2 → RI w2 B0 n0 zs0 → n0 ≤ d0 → Calls Tryz.prog 16 #[.slice B0 n0 d0] w2 (FreshLLB w2 W yss q))) :
    Calls Tryz.prog 4 #[.slice A0 n0 c0] w (RetB true w) := by
  have hm0 : n0 ≤ 1048576 := by omega
  have e0 : (q != q) = false := by simp
  have e2 : ((1 : Int) + (yss.length : Int) + (tot yss yss.length : Int) != 1 + (yss.length : Int) + (tot yss yss.length : Int)) = false := by simp
  have HA0 := Lib.hid h0
  have HB := belRefl (w := w)
  clear h0
  go_enter Tryz.func4, Tryz.ntmps4
  -- the model
  go_wp2_with fail
  refine (toIntS_any A0 n0 c0 zs0 _ HA0.out hm0).mono ?_
  rintro e w1 ⟨C0, Cc0, rfl, o, hb⟩
  replace HA0 := riStep HA0 hb
  replace HB := belStep HB hb
  have HC0 := Lib.hid o
  clear hb o
  go_wp2_with fail
  refine (hS.out C0 Cc0 _ HC0.out.ri HC0.out.le).mono ?_
  rintro e v1 ⟨A9, c9, M9, S9, rfl, o, hb⟩
  clear HC0
  replace HA0 := riStep HA0 hb
  replace HB := belStep HB hb
  have SP := spNew HB
  replace HA0 := rbOf HA0
  have HR := Lib.hid o.rb
  clear hb o HB
  -- the program
  go_wp2_with fail
  refine (toIntS_any A0 n0 c0 zs0 _ HA0.out.ri hm0).mono ?_
  rintro e w2 ⟨X0, Xc0, rfl, o, hb⟩
  replace HA0 := rbCall SP HA0 hb
  replace HR := rllCall SP HR hb
  replace SP := spCall SP hb
  have HL0 := blkLt o
  have HX0 := Lib.hid o
  have HS0 := Lib.hid hb.size
  clear hb o
  go_wp2_with fail
  refine (hI.out X0 Xc0 _ SP.out.bel HX0.out.ri HX0.out.le).mono ?_
  rintro e v2 ⟨A8, c8, M8, S8, rfl, o, hb⟩
  replace HA0 := rbCall SP HA0 hb
  replace HR := rllCall SP HR hb
  replace HX0 := oiStep HX0 hb
  replace SP := spCall SP hb
  have HBN := Lib.hid hb.size
  have HN := Lib.hid o
  clear hb o
  go_wp2_with fail
  refine (eqLadderS_same _ A8 yss.length c8 (List.replicate yss.length W) yss _ A9 c9 _ HN.out.rb HR.out hm3 hmj).mono ?_
  rintro e v3 ⟨rfl, hb⟩
  replace HA0 := rbCall SP HA0 hb
  replace HR := rllCall SP HR hb
  replace HX0 := oiStep HX0 hb
  replace HBN := leStep HBN hb
  replace HN := ollStep HN hb
  replace SP := spCall SP hb
  clear hb
  have HK0 : Hid (v1.heap.size ≤ v1.heap.size) := by show v1.heap.size ≤ _;  omega
  have HJ0_N : Hid (w2.heap.size ≤ w2.heap.size) := by show _ ≤ _;  omega
  have HKN : Hid (v1.heap.size ≤ w2.heap.size) := by show _ ≤ _; have := HS0.out; omega
  -- the arguments as they were
  go_wp2_with fail
  refine (toIntS_any A0 n0 c0 zs0 _ HA0.out.ri hm0).mono ?_
  rintro e u0 ⟨Y0, Yc0, rfl, o, hb⟩
  replace HA0 := rbCall SP HA0 hb
  replace HR := rllCall SP HR hb
  replace HX0 := oiStep HX0 hb
  replace HBN := leStep HBN hb
  replace HN := ollStep HN hb
  replace SP := spCall SP hb
  clear hb
  go_wp2_with fail
  refine (eqIntS_any X0 n0 Xc0 zs0 Y0 n0 Yc0 zs0 _ HX0.out.ri o.ri hm0 hm0).mono ?_
  rw [eqB_self]
  rintro e u0d ⟨rfl, hb⟩
  replace HA0 := rbCall SP HA0 hb
  replace HR := rllCall SP HR hb
  replace HX0 := oiStep HX0 hb
  replace HBN := leStep HBN hb
  replace HN := ollStep HN hb
  replace SP := spCall SP hb
  clear hb o
  -- the arguments are marked
  go_wp2_with fail
  refine (markIntS_any _ X0 n0 Xc0 zs0 (1) _ HX0.out hm0 (by omega) (by omega)).mono ?_
  rintro e m0 ⟨rfl, o, hg⟩
  have hk := ofMark HX0.out hg HK0.out SP.out.le'
  replace HN := ollKept HN hg (blkLtMono HL0 HJ0_N.out)
  replace HA0 := rbStep HA0 hk
  replace HR := rllStep HR hk
  replace HBN := leK HBN hk
  replace SP := spStep SP hk
  clear HX0 hk hg o
  have eneg : (decide ((1 : Int) + n0 < 0)) = false := by rw [decide_eq_false_iff_not]; omega
  go_wp2_with fail
  refine (eqLadderS_same _ A8 yss.length c8 (List.replicate yss.length W) yss _ A9 c9 _ HN.out.rb HR.out hm3 hmj).mono ?_
  rintro e v4 ⟨rfl, hb⟩
  replace HA0 := rbCall SP HA0 hb
  replace HR := rllCall SP HR hb
  replace HBN := leStep HBN hb
  replace HN := ollStep HN hb
  replace SP := spCall SP hb
  clear hb
  -- the answer is marked
  go_wp2_with fail
  refine (markLadderS_any _ M8 A8 yss.length c8 (List.replicate yss.length W) yss S8 1 _ HN.out HBN.out hm3 hmj htt (by omega) (by omega)).mono ?_
  rintro e v5 ⟨rfl, o, hg⟩
  have hk := Below.mono hg HKN.out
  replace HA0 := rbStep HA0 hk
  replace HR := rllStep HR hk
  replace HBN := leK HBN hk
  replace SP := spStep SP hk
  replace HN := Lib.hid o
  clear o hg hk
  go_wp2_with fail
  refine (heldLadderS_any _ A8 yss.length c8 yss 1 _ HN.out.rb hm3 hmj htt (by omega) (by omega)).mono ?_
  rintro e v6 ⟨rfl, hb⟩
  replace HA0 := rbCall SP HA0 hb
  replace HR := rllCall SP HR hb
  replace HBN := leStep HBN hb
  replace HN := ollStep HN hb
  replace SP := spCall SP hb
  clear hb
  -- once more
  go_wp2_with fail
  refine (toIntS_any A0 n0 c0 zs0 _ HA0.out.ri hm0).mono ?_
  rintro e w3 ⟨Z0, Zc0, rfl, o, hb⟩
  replace HA0 := rbCall SP HA0 hb
  replace HR := rllCall SP HR hb
  replace HBN := leStep HBN hb
  replace HN := ollStep HN hb
  replace SP := spCall SP hb
  have HZ0 := Lib.hid o
  clear hb o
  go_wp2_with fail
  refine (hI.out Z0 Zc0 _ SP.out.bel HZ0.out.ri HZ0.out.le).mono ?_
  rintro e v7 ⟨A7, c7, M7, S7, rfl, o, hb⟩
  clear HZ0
  replace HA0 := rbCall SP HA0 hb
  replace HR := rllCall SP HR hb
  replace HBN := leStep HBN hb
  replace HN := ollStep HN hb
  replace SP := spCall SP hb
  have H7 := Lib.hid o
  clear hb o
  go_wp2_with fail
  refine (eqLadderS_same _ A7 yss.length c7 (List.replicate yss.length W) yss _ A9 c9 _ H7.out.rb HR.out hm3 hmj).mono ?_
  rintro e v8 ⟨rfl, hb⟩
  replace HA0 := rbCall SP HA0 hb
  replace HR := rllCall SP HR hb
  replace HBN := leStep HBN hb
  replace HN := ollStep HN hb
  replace SP := spCall SP hb
  clear hb
  go_wp2_with fail
  refine (heldLadderS_any _ A8 yss.length c8 yss 1 _ HN.out.rb hm3 hmj htt (by omega) (by omega)).mono ?_
  rintro e v9 ⟨rfl, hb⟩
  replace HA0 := rbCall SP HA0 hb
  replace HR := rllCall SP HR hb
  replace HBN := leStep HBN hb
  replace HN := ollStep HN hb
  replace SP := spCall SP hb
  clear hb
  go_wp2_with fail
  go_ret
  exact ⟨rfl, SP.out.bel⟩

set_option maxHeartbeats 1000000 in
theorem lawAllLeast_any (A0 : Option Addr) (n0 c0 : Nat) (zs0 : List Int) (w : World) (h0 : RI w A0 n0 zs0) (hn0 : n0 ≤ 9223372036854775807) (hG : Glob w) :
    Calls Tryz.prog 4 #[.slice A0 n0 c0] w (RetB true w) := by
  by_cases hm0 : (n0 : Int) ≤ 1048576
  · skip
    exact lawAllLeast_of A0 n0 c0 zs0 w h0 hm0 ((n0 : Int)) (lsL zs0) (lsQ zs0) (Nat.le_trans (lsL_len zs0) (by decide)) (fun j => Nat.le_trans (lsL_row zs0 j) (by decide)) (Nat.le_trans (lsL_tot zs0 _) (by have := lsL_len zs0; omega)) (fun B0 d0 w2 r0 l0 => sAllLeast_any B0 n0 d0 zs0 w2 r0 (by omega) l0) (fun B0 d0 w2 hb r0 l0 => iAllLeast_any B0 n0 d0 zs0 w2 r0 (by omega) l0 (hG.below hb))
  · clear h0
    go_enter Tryz.func4, Tryz.ntmps4
    go_wp2_with fail
    go_ret
    exact ⟨rfl, Below.refl _ _⟩
end Go.Proofs.YtgeeifjbfceogaaGreatDoor
