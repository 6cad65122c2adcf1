/- The law of PlaceWinner, gone through: it returns true, and nothing that was there has turned. -/
import Derived.Test.YtbfdpjnkpclcbaaGp2
import Derived.Test.YtbfdpjnkpclcbaaGp4
import Derived.Test.YtbfdpjnkpclcbaaMgC
namespace Go.Proofs.Ytbfdpjnkpclcbaa
open Go Go.RowKit

set_option linter.unusedVariables false in
set_option maxHeartbeats 1000000 in
theorem lawPlaceWinner_any (x0 x1 x2 x3 : Int) (w : World) (lo0 : -9223372036854775808 ≤ x0) (hi0 : x0 ≤ 9223372036854775807) (lo1 : -9223372036854775808 ≤ x1) (hi1 : x1 ≤ 9223372036854775807) (lo2 : -9223372036854775808 ≤ x2) (hi2 : x2 ≤ 9223372036854775807) (lo3 : -9223372036854775808 ≤ x3) (hi3 : x3 ≤ 9223372036854775807) :
    Calls Try.prog 7 #[.int .i64 x0, .int .i64 x1, .int .i64 x2, .int .i64 x3] w (RetB true w) := by
  have HS := Lib.hid (fun w2 => sPlaceWinner_any x0 x1 x2 x3 w2 )
  have HI := Lib.hid (fun w2 => iPlaceWinner_any x0 x1 x2 x3 w2 )
  obtain ⟨r, hr⟩ : ∃ r, r = plwB x0 x1 x2 x3 := ⟨_, rfl⟩
  obtain ⟨q, hq⟩ : ∃ q, q = plB x0 x1 x2 x3 := ⟨_, rfl⟩
  rw [← hr, ← hq] at HS HI
  have e0 : (q != q) = false := by simp
  have e1 : (r != r) = false := by simp
  have HB := belRefl (w := w)
  clear hr hq
  go_enter Try.func7, Try.ntmps7
  go_wp2_with fail
  refine (HS.out _).mono ?_
  rintro e w1 ⟨rfl, hb⟩
  replace HB := belStep HB hb
  clear hb
  go_wp2_with fail
  refine (HI.out _).mono ?_
  rintro e w2 ⟨rfl, hb⟩
  replace HB := belStep HB hb
  clear hb
  go_wp2_with fail
  go_ret
  exact ⟨rfl, HB.out⟩
end Go.Proofs.Ytbfdpjnkpclcbaa
