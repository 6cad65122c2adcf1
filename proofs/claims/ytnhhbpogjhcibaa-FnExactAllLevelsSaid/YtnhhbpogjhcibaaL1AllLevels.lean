/- The law of AllLevels, gone through: it returns true, and nothing that was there has turned. -/
import Derived.Test.YtnhhbpogjhcibaaLv3
import Derived.Test.YtnhhbpogjhcibaaMgB
import Derived.Test.YtnhhbpogjhcibaaStSS
import Derived.Test.YtnhhbpogjhcibaaStP
namespace Go.Proofs.Ytnhhbpogjhcibaa
open Go Go.RowKit

set_option maxRecDepth 100000 in
set_option maxHeartbeats 8000000 in
theorem lawAllLevels_of (x0 : Int) (w : World)   (yss : List (List Int)) (q : Bool) (hm3 : yss.length ≤ 1048576) (hmj : ∀ j, (gz yss j).length ≤ 1048576) (htt : tot yss yss.length ≤ 1000000000)
    (hS : Hid (∀  (w2 : World),  Calls Try.prog 28 #[.int .i64 x0] w2 (FreshSSB w2 yss q)))
    (hI : Hid (∀  (w2 : World),  Calls Try.prog 29 #[.int .i64 x0] w2 (FreshSSB w2 yss q))) :
    Calls Try.prog 6 #[.int .i64 x0] w (RetB true w) := by
  have e0 : (q != q) = false := by simp
  have e2 : ((1 : Int) + (tot yss yss.length : Int) != 1 + (tot yss yss.length : Int)) = false := by simp
  have HB := belRefl (w := w)
  go_enter Try.func6, Try.ntmps6
  -- the model
  go_wp2_with fail
  refine (hS.out  _ ).mono ?_
  rintro e v1 ⟨A9, c9, M9, S9, rfl, o, hb⟩
  replace HB := belStep HB hb
  have SP := spNew HB
  have HR := Lib.hid o.rb
  clear hb o HB
  -- the program
  go_wp2_with fail
  refine (hI.out  _ ).mono ?_
  rintro e v2 ⟨A8, c8, M8, S8, rfl, o, hb⟩
  replace HR := rbbCall SP HR hb
  replace SP := spCall SP hb
  have HBN := Lib.hid hb.size
  have HN := Lib.hid o
  clear hb o
  go_wp2_with fail
  refine (eqIntSS_same _ A8 yss.length c8 yss _ A9 c9 _ HN.out.rb HR.out hm3 hmj).mono ?_
  rintro e v3 ⟨rfl, hb⟩
  replace HR := rbbCall SP HR hb
  replace HBN := leStep HBN hb
  replace HN := oiiStep HN hb
  replace SP := spCall SP hb
  clear hb
  have HKN : Hid (v1.heap.size ≤ v1.heap.size) := by show _ ≤ _;  omega
  -- the arguments as they were
  -- the arguments are marked
  have eneg : (decide ((1 : Int) < 0)) = false := by rw [decide_eq_false_iff_not]; omega
  -- the answer is marked
  go_wp2_with fail
  refine (markIntSS_any _ M8 A8 yss.length c8 yss S8 1 _ HN.out HBN.out hm3 hmj htt (by omega) (by omega)).mono ?_
  rintro e v5 ⟨rfl, o, hg⟩
  have hk := Below.mono hg HKN.out
  replace HR := rbbStep HR hk
  replace HBN := leK HBN hk
  replace SP := spStep SP hk
  replace HN := Lib.hid o
  clear o hg hk
  go_wp2_with fail
  refine (heldIntSS_any _ A8 yss.length c8 yss 1 _ HN.out.rb hm3 hmj htt (by omega) (by omega)).mono ?_
  rintro e v6 ⟨rfl, hb⟩
  replace HR := rbbCall SP HR hb
  replace HBN := leStep HBN hb
  replace HN := oiiStep HN hb
  replace SP := spCall SP hb
  clear hb
  -- once more
  go_wp2_with fail
  refine (hI.out  _ ).mono ?_
  rintro e v7 ⟨A7, c7, M7, S7, rfl, o, hb⟩
  replace HR := rbbCall SP HR hb
  replace HBN := leStep HBN hb
  replace HN := oiiStep HN hb
  replace SP := spCall SP hb
  have H7 := Lib.hid o
  clear hb o
  go_wp2_with fail
  refine (eqIntSS_same _ A7 yss.length c7 yss _ A9 c9 _ H7.out.rb HR.out hm3 hmj).mono ?_
  rintro e v8 ⟨rfl, hb⟩
  replace HR := rbbCall SP HR hb
  replace HBN := leStep HBN hb
  replace HN := oiiStep HN hb
  replace SP := spCall SP hb
  clear hb
  go_wp2_with fail
  refine (heldIntSS_any _ A8 yss.length c8 yss 1 _ HN.out.rb hm3 hmj htt (by omega) (by omega)).mono ?_
  rintro e v9 ⟨rfl, hb⟩
  replace HR := rbbCall SP HR hb
  replace HBN := leStep HBN hb
  replace HN := oiiStep HN hb
  replace SP := spCall SP hb
  clear hb
  go_wp2_with fail
  go_ret
  exact ⟨rfl, SP.out.bel⟩

set_option maxHeartbeats 1000000 in
theorem lawAllLevels_any (x0 : Int) (w : World)  :
    Calls Try.prog 6 #[.int .i64 x0] w (RetB true w) := by
  exact lawAllLevels_of x0 w   (alvL x0) (inB x0 2 8) (alvL_len x0) (alvL_row x0) (alvL_tot x0) (fun  w2  => sAllLevels_any x0 w2 ) (fun  w2  => iAllLevels_any x0 w2 )
end Go.Proofs.Ytnhhbpogjhcibaa
