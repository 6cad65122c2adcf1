/- The law of GoodPlaces, gone through: it returns true, and nothing that was there has turned. -/
import Derived.Test.YtbfdpjnkpclcbaaGp5
import Derived.Test.YtbfdpjnkpclcbaaGp6
import Derived.Test.YtbfdpjnkpclcbaaOf1
namespace Go.Proofs.Ytbfdpjnkpclcbaa
open Go Go.RowKit

set_option linter.unusedVariables false in
set_option maxHeartbeats 2000000 in
theorem lawGoodPlaces_any (x0 x1 x2 x3 : Int) (w : World) (lo0 : -9223372036854775808 ≤ x0) (hi0 : x0 ≤ 9223372036854775807) (lo1 : -9223372036854775808 ≤ x1) (hi1 : x1 ≤ 9223372036854775807) (lo2 : -9223372036854775808 ≤ x2) (hi2 : x2 ≤ 9223372036854775807) (lo3 : -9223372036854775808 ≤ x3) (hi3 : x3 ≤ 9223372036854775807) :
    Calls Try.prog 8 #[.int .i64 x0, .int .i64 x1, .int .i64 x2, .int .i64 x3] w (RetB true w) := by
  have HS := Lib.hid (fun w2 => sGoodPlaces_any x0 x1 x2 x3 w2 )
  have HI := Lib.hid (fun w2 => iGoodPlaces_of x0 x1 x2 x3 w2 )
  have hm := Nat.le_trans (plgL_le x0 x1 x2 x3) (by decide : 1000 ≤ 1048576)
  obtain ⟨m, hm0⟩ : ∃ m, m = (plgL x0 x1 x2 x3).length := ⟨_, rfl⟩
  obtain ⟨F, hF⟩ : ∃ F, F = plgL x0 x1 x2 x3 := ⟨_, rfl⟩
  obtain ⟨q, hq⟩ : ∃ q, q = plB x0 x1 x2 x3 := ⟨_, rfl⟩
  rw [← hm0] at hm
  rw [← hm0, ← hF, ← hq] at HS HI
  have e0 : (q != q) = false := by simp
  have e2 : ((1 : Int) + (m : Int) != 1 + (m : Int)) = false := by simp
  have hn0 : ¬ ((1 : Int) + (m : Int) < 0) := by omega
  obtain ⟨v, hv⟩ : ∃ v : Int, v = 1 + (m : Int) := ⟨_, rfl⟩
  rw [← hv] at e2 hn0
  have HV := Lib.hid hv
  have HB := belRefl (w := w)
  clear hm0 hF hq hv
  go_enter Try.func8, Try.ntmps8
  go_wp2_with fail
  refine (HS.out _).mono ?_
  rintro e w1 ⟨A1, c1, rfl, o1, hb⟩
  have R1 : Hid (RI w1 A1 m F) := Lib.hid o1.ri
  have K1 : Hid (∀ b, blk A1 = some b → b < w1.heap.size) := Lib.hid (fun b hb => (o1.blk b hb).2)
  replace HB := belStep HB hb
  have HZ1 := Lib.hid HB.out.size
  obtain ⟨s1, hs1⟩ : ∃ s1, s1 = w1.heap.size := ⟨_, rfl⟩
  rw [← hs1] at K1 HZ1
  have HS1 := Lib.hid hs1
  clear hb o1 hs1
  go_wp2_with fail
  refine (HI.out _).mono ?_
  rintro e w2 ⟨A2, c2, rfl, o2, hb⟩
  have HZ2 : Hid (s1 ≤ w2.heap.size) := Lib.hid (by rw [HS1.out]; exact hb.size)
  have O2 : Hid (OF w2 s1 A2 m F) := Lib.hid (o2.mono (Nat.le_of_eq HS1.out))
  have R2 : Hid (RI w2 A1 m F) := riStep R1 hb
  replace HB := belStep HB hb
  clear hb o2 R1
  go_wp2_with fail
  refine (eqIntS_any A2 m c2 F A1 m c1 F _ O2.out.ri R2.out hm hm).mono ?_
  rw [eqB_self]
  rintro e w3 ⟨rfl, hb⟩
  have HZ3 : Hid (s1 ≤ w3.heap.size) := Lib.hid (Nat.le_trans HZ2.out hb.size)
  have O3 := Lib.hid (O2.out.below hb)
  have R3 := riStep R2 hb
  replace HB := belStep HB hb
  clear hb O2 R2
  go_wp2_with fail
  refine (markOF_any s1 A2 m c2 F 1 _ O3.out (by omega) (by omega) (by omega)).mono ?_
  rintro e w4 ⟨rfl, o4, hg4⟩
  rw [← HV.out]
  have O4 := Lib.hid o4
  have R4 : Hid (RI w4 A1 m F) := Lib.hid (R3.out.keep hg4.size (fun b hb => by
    have h1 := K1.out b hb
    have h2 : b < w3.heap.size := Nat.lt_of_lt_of_le h1 HZ3.out
    exact hg4.block b h2 (fun e => by have h3 := (O3.out.low b e.symm).1; omega)))
  replace HB : Hid (Below w.heap.size w w4) := Lib.hid (HB.out.grown hg4 HB.out.size (fun b hb => Nat.le_trans HZ1.out (O3.out.low b hb).1))
  clear o4 hg4 O3 R3
  go_wp2_with fail
  refine (heldIntS_any A2 m c2 1 _ O4.out.ri (by omega) (by omega) (by omega)).mono ?_
  rw [← HV.out]
  rintro e w5 ⟨rfl, hb⟩
  have O5 := Lib.hid (O4.out.below hb)
  have R5 := riStep R4 hb
  replace HB := belStep HB hb
  clear hb O4 R4
  go_wp2_with fail
  refine (HI.out _).mono ?_
  rintro e w6 ⟨A6, c6, rfl, o6, hb⟩
  have O6 := Lib.hid o6
  have P6 := Lib.hid (O5.out.below hb)
  have R6 := riStep R5 hb
  replace HB := belStep HB hb
  clear hb o6 O5 R5
  go_wp2_with fail
  refine (eqIntS_any A6 m c6 F A1 m c1 F _ O6.out.ri R6.out hm hm).mono ?_
  rw [eqB_self]
  rintro e w7 ⟨rfl, hb⟩
  have P7 := Lib.hid (P6.out.below hb)
  replace HB := belStep HB hb
  clear hb O6 P6 R6
  go_wp2_with fail
  refine (heldIntS_any A2 m c2 1 _ P7.out.ri (by omega) (by omega) (by omega)).mono ?_
  rw [← HV.out]
  rintro e w8 ⟨rfl, hb⟩
  replace HB := belStep HB hb
  clear hb P7
  go_wp2_with fail
  go_ret
  exact ⟨rfl, HB.out⟩
end Go.Proofs.Ytbfdpjnkpclcbaa
