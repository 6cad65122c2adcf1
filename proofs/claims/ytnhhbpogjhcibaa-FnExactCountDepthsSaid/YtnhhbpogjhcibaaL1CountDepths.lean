/- The law of CountDepths, gone through: it returns true, and nothing that was there has turned. -/
import Derived.Test.YtnhhbpogjhcibaaDp4
import Derived.Test.YtnhhbpogjhcibaaMgB
import Derived.Test.YtnhhbpogjhcibaaStP
namespace Go.Proofs.Ytnhhbpogjhcibaa
open Go Go.RowKit

set_option maxRecDepth 100000 in
set_option maxHeartbeats 8000000 in
theorem lawCountDepths_of (x0 : Int) (w : World)   (m : Nat) (ys : List Int) (q : Bool) (hm3 : m ≤ 1048576)
    (hS : Hid (∀  (w2 : World),  Calls Try.prog 38 #[.int .i64 x0] w2 (FreshIB w2 m ys q)))
    (hI : Hid (∀  (w2 : World),  Calls Try.prog 39 #[.int .i64 x0] w2 (FreshIB w2 m ys q))) :
    Calls Try.prog 10 #[.int .i64 x0] w (RetB true w) := by
  have e0 : (q != q) = false := by simp
  have e2 : ((1 : Int) + (m : Int) != 1 + (m : Int)) = false := by simp
  have HB := belRefl (w := w)
  go_enter Try.func10, Try.ntmps10
  -- the model
  go_wp2_with fail
  refine (hS.out  _ ).mono ?_
  rintro e v1 ⟨A9, c9, rfl, o, hb⟩
  replace HB := belStep HB hb
  have SP := spNew HB
  have HR := rbOf (Lib.hid o.ri)
  clear hb o HB
  -- the program
  go_wp2_with fail
  refine (hI.out  _ ).mono ?_
  rintro e v2 ⟨A8, c8, rfl, o, hb⟩
  replace HR := rbCall SP HR hb
  replace SP := spCall SP hb
  have HN := Lib.hid o
  clear hb o
  go_wp2_with fail
  refine (eqIntS_any A8 m c8 ys A9 m c9 ys _ HN.out.ri HR.out.ri hm3 hm3).mono ?_
  rw [eqB_self]
  rintro e v3 ⟨rfl, hb⟩
  replace HR := rbCall SP HR hb
  replace HN := oiStep HN hb
  replace SP := spCall SP hb
  clear hb
  have HKN : Hid (v1.heap.size ≤ v1.heap.size) := by show _ ≤ _;  omega
  -- the arguments as they were
  -- the arguments are marked
  have eneg : (decide ((1 : Int) < 0)) = false := by rw [decide_eq_false_iff_not]; omega
  -- the answer is marked
  go_wp2_with fail
  refine (markIntS_any _ A8 m c8 ys 1 _ HN.out hm3 (by omega) (by omega)).mono ?_
  rintro e v5 ⟨rfl, o, hg⟩
  have hk := ofMark HN.out hg HKN.out SP.out.le'
  replace HR := rbStep HR hk
  replace SP := spStep SP hk
  replace HN := Lib.hid o
  clear o hg hk
  go_wp2_with fail
  refine (heldIntS_any A8 m c8 1 _ HN.out.ri hm3 (by omega) (by omega)).mono ?_
  rintro e v6 ⟨rfl, hb⟩
  replace HR := rbCall SP HR hb
  replace HN := oiStep HN hb
  replace SP := spCall SP hb
  clear hb
  -- once more
  go_wp2_with fail
  refine (hI.out  _ ).mono ?_
  rintro e v7 ⟨A7, c7, rfl, o, hb⟩
  replace HR := rbCall SP HR hb
  replace HN := oiStep HN hb
  replace SP := spCall SP hb
  have H7 := Lib.hid o
  clear hb o
  go_wp2_with fail
  refine (eqIntS_any A7 m c7 ys A9 m c9 ys _ H7.out.ri HR.out.ri hm3 hm3).mono ?_
  rw [eqB_self]
  rintro e v8 ⟨rfl, hb⟩
  replace HR := rbCall SP HR hb
  replace HN := oiStep HN hb
  replace SP := spCall SP hb
  clear hb
  go_wp2_with fail
  refine (heldIntS_any A8 m c8 1 _ HN.out.ri hm3 (by omega) (by omega)).mono ?_
  rintro e v9 ⟨rfl, hb⟩
  replace HR := rbCall SP HR hb
  replace HN := oiStep HN hb
  replace SP := spCall SP hb
  clear hb
  go_wp2_with fail
  go_ret
  exact ⟨rfl, SP.out.bel⟩

set_option maxHeartbeats 1000000 in
theorem lawCountDepths_any (x0 : Int) (w : World)  :
    Calls Try.prog 10 #[.int .i64 x0] w (RetB true w) := by
  exact lawCountDepths_of x0 w   _ (cdpL x0) (inB x0 2 6) (Nat.le_trans (cdpL_len x0) (by decide)) (fun  w2  => sCountDepths_any x0 w2 ) (fun  w2  => iCountDepths_any x0 w2 )
end Go.Proofs.Ytnhhbpogjhcibaa
