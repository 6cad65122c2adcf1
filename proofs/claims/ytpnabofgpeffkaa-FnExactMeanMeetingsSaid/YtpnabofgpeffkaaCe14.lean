/- Ratios compared. -/
import Derived.Test.YtpnabofgpeffkaaCe12
namespace Go.Proofs.Ytpnabofgpeffkaa
open Go Go.RowKit
set_option maxHeartbeats 400000 in
theorem eqRatio_self (x y : Int) (w : World) : Calls Try.prog 16 #[.agg #[.int .i64 x, .int .i64 y], .agg #[.int .i64 x, .int .i64 y]] w (RetB true w) := by
  have e0 : (x != x) = false := by simp
  have e1 : (y != y) = false := by simp
  go_enter Try.func16, Try.ntmps16
  go_wp2
  go_ret
  exact ⟨rfl, (by repeat (first | exact Below.refl _ _ | exact HB.out | refine Below.setCell ?_ (by simp <;> omega) _ | refine Below.alloc ?_ (by simp <;> omega) _ | refine below_drewN ?_ _))⟩
end Go.Proofs.Ytpnabofgpeffkaa
