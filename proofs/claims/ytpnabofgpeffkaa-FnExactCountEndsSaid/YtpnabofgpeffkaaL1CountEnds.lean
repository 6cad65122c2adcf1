/- The law of CountEnds, gone through: it returns true, and nothing that was there has turned. -/
import Derived.Test.YtpnabofgpeffkaaCe11
import Derived.Test.YtpnabofgpeffkaaMgC
namespace Go.Proofs.Ytpnabofgpeffkaa
open Go Go.RowKit

set_option linter.unusedVariables false in
set_option maxHeartbeats 1000000 in
theorem lawCountEnds_any (x0 x1 x2 x3 : Int) (w : World) (lo0 : -9223372036854775808 ≤ x0) (hi0 : x0 ≤ 9223372036854775807) (lo1 : -9223372036854775808 ≤ x1) (hi1 : x1 ≤ 9223372036854775807) (lo2 : -9223372036854775808 ≤ x2) (hi2 : x2 ≤ 9223372036854775807) (lo3 : -9223372036854775808 ≤ x3) (hi3 : x3 ≤ 9223372036854775807) :
    Calls Try.prog 4 #[.int .i64 x0, .int .i64 x1, .int .i64 x2, .int .i64 x3] w (RetB true w) := by
  have HS := Lib.hid (fun w2 => sCountEnds_any x0 x1 x2 x3 w2 lo0 hi0)
  have HI := Lib.hid (fun w2 => iCountEnds_any x0 x1 x2 x3 w2 lo0 hi0)
  obtain ⟨r, hr⟩ : ∃ r, r = ceN x0 x1 x2 x3 := ⟨_, rfl⟩
  obtain ⟨q, hq⟩ : ∃ q, q = ceQ x0 x1 x2 x3 := ⟨_, rfl⟩
  rw [← hr, ← hq] at HS HI
  have e0 : (q != q) = false := by simp
  have e1 : (r != r) = false := by simp
  have HB := belRefl (w := w)
  clear hr hq
  go_enter Try.func4, Try.ntmps4
  go_wp2_with fail
  refine (HS.out _).mono ?_
  rintro e w1 ⟨rfl, hb⟩
  replace HB := belStep HB hb
  clear hb
  go_wp2_with fail
  refine (HI.out _).mono ?_
  rintro e w2 ⟨rfl, hb⟩
  replace HB := belStep HB hb
  clear hb
  go_wp2_with fail
  go_ret
  exact ⟨rfl, HB.out⟩
end Go.Proofs.Ytpnabofgpeffkaa
