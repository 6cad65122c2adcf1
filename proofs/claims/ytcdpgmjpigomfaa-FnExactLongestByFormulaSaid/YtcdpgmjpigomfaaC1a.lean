/- The contracts of the functions that look whether there is a ladder, of the program and of its model. -/
import Derived.Test.YtcdpgmjpigomfaaBase2
import Derived.Test.YtcdpgmjpigomfaaMath1
namespace Go.Proofs.Ytcdpgmjpigomfaa
open Go Go.RowKit

/-- a value, and the world as it was -/
def SameB (b : Bool) (w : World) (e : Ending) (w' : World) : Prop := e = .returned (.bool b) ∧ w = w'
def SameI (n : Int) (w : World) (e : Ending) (w' : World) : Prop := e = .returned (.int .i64 n) ∧ w = w'

theorem l1In_any (n lo hi : Int) (w : World) : Calls Try.prog 6 #[.int .i64 n, .int .i64 lo, .int .i64 hi] w (SameB (inB n lo hi) w) := by
  by_cases h1 : lo ≤ n
  · by_cases h2 : n ≤ hi
    · go_enter Try.func6, Try.ntmps6
      go_wp2
      go_ret
      exact ⟨ret_b (inB_true ⟨h1, h2⟩).symm, rfl⟩
    · go_enter Try.func6, Try.ntmps6
      go_wp2
      go_ret
      exact ⟨ret_b (inB_false (by omega)).symm, rfl⟩
  · go_enter Try.func6, Try.ntmps6
    go_wp2
    go_ret
    exact ⟨ret_b (inB_false (by omega)).symm, rfl⟩

end Go.Proofs.Ytcdpgmjpigomfaa
