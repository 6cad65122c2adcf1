/- The law of CountByLength, gone through: it returns true, and nothing that was there has turned. -/
import Derived.Test.YtgeeifjbfceogaaGreatDoorCb6
import Derived.Test.YtgeeifjbfceogaaGreatDoorStP
namespace Go.Proofs.YtgeeifjbfceogaaGreatDoor
open Go Go.RowKit

set_option maxRecDepth 100000 in
set_option maxHeartbeats 4000000 in
theorem lawCountByLength_any (x : Int) (w : World) (lo : -9223372036854775808 ≤ x) (hi : x ≤ 9223372036854775807) (hG : Glob w) :
    Calls Tryz.prog 7 #[.int .i64 x] w (RetB true w) := by
  have HS := Lib.hid (fun w2 => sCountByLength_any x w2 lo hi)
  have HI := Lib.hid (fun w2 => iCountByLength_any x w2 lo hi)
  have HGL := Lib.hid hG
  have hm3 : (cbL x).length ≤ 1048576 := Nat.le_trans (cbL_len x) (by decide)
  obtain ⟨ys, hy⟩ : ∃ ys, ys = cbL x := ⟨_, rfl⟩
  obtain ⟨q, hq⟩ : ∃ q, q = cbQ x := ⟨_, rfl⟩
  rw [← hy, ← hq] at HS HI
  rw [← hy] at hm3
  obtain ⟨m, hm⟩ : ∃ m, m = ys.length := ⟨_, rfl⟩
  rw [← hm] at HS HI hm3
  have e0 : (q != q) = false := by simp
  have e2 : ((1 : Int) + (m : Int) != 1 + (m : Int)) = false := by simp
  have HB := belRefl (w := w)
  clear hy hq hG hm lo hi
  go_enter Tryz.func7, Tryz.ntmps7
  go_wp2_with fail
  refine (HS.out _).mono ?_
  rintro e v1 ⟨A9, c9, rfl, o, hb⟩
  replace HB := belStep HB hb
  have SP := spNew HB
  have HR := rbOf (Lib.hid o.ri)
  clear hb o HB
  go_wp2_with fail
  refine (HI.out _ (HGL.out.below SP.out.bel)).mono ?_
  rintro e v2 ⟨A8, c8, rfl, o, hb⟩
  replace HR := rbCall SP HR hb
  replace SP := spCall SP hb
  have HN := Lib.hid o
  clear hb o
  have HKN : Hid (v1.heap.size ≤ v1.heap.size) := Lib.hid (Nat.le_refl _)
  go_wp2_with fail
  refine (eqIntS_any A8 m c8 ys A9 m c9 ys _ HN.out.ri HR.out.ri hm3 hm3).mono ?_
  rw [eqB_self]
  rintro e v3 ⟨rfl, hb⟩
  replace HR := rbCall SP HR hb
  replace HN := oiStep HN hb
  replace SP := spCall SP hb
  clear hb
  go_wp2_with fail
  refine (markIntS_any _ A8 m c8 ys 1 _ HN.out hm3 (by omega) (by omega)).mono ?_
  rintro e v5 ⟨rfl, o, hg⟩
  have hk := ofMark HN.out hg HKN.out SP.out.le'
  replace HR := rbStep HR hk
  replace SP := spStep SP hk
  replace HN := Lib.hid o
  clear o hg hk
  go_wp2_with fail
  refine (heldIntS_any A8 m c8 1 _ HN.out.ri hm3 (by omega) (by omega)).mono ?_
  rintro e v6 ⟨rfl, hb⟩
  replace HR := rbCall SP HR hb
  replace HN := oiStep HN hb
  replace SP := spCall SP hb
  clear hb
  go_wp2_with fail
  refine (HI.out _ (HGL.out.below SP.out.bel)).mono ?_
  rintro e v7 ⟨A7, c7, rfl, o, hb⟩
  replace HR := rbCall SP HR hb
  replace HN := oiStep HN hb
  replace SP := spCall SP hb
  have H7 := Lib.hid o
  clear hb o
  go_wp2_with fail
  refine (eqIntS_any A7 m c7 ys A9 m c9 ys _ H7.out.ri HR.out.ri hm3 hm3).mono ?_
  rw [eqB_self]
  rintro e v8 ⟨rfl, hb⟩
  replace HN := oiStep HN hb
  replace SP := spCall SP hb
  clear hb
  go_wp2_with fail
  refine (heldIntS_any A8 m c8 1 _ HN.out.ri hm3 (by omega) (by omega)).mono ?_
  rintro e v9 ⟨rfl, hb⟩
  replace SP := spCall SP hb
  clear hb
  go_wp2_with fail
  go_ret
  exact ⟨rfl, SP.out.bel⟩
end Go.Proofs.YtgeeifjbfceogaaGreatDoor
