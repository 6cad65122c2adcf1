/- The law of CountOrdersMade, gone through: it returns true, and nothing that was there has turned. -/
import Derived.Test.YtbnicblafbkcjaaOq4
import Derived.Test.YtbnicblafbkcjaaMgC
namespace Go.Proofs.Ytbnicblafbkcjaa
open Go Go.RowKit

set_option linter.unusedVariables false in
set_option maxHeartbeats 1000000 in
theorem lawCountOrdersMade_any (x0 x1 : Int) (w : World) (lo0 : -9223372036854775808 ≤ x0) (hi0 : x0 ≤ 9223372036854775807) (lo1 : -9223372036854775808 ≤ x1) (hi1 : x1 ≤ 9223372036854775807) :
    Calls Try.prog 5 #[.int .i64 x0, .int .i64 x1] w (RetB true w) := by
  have HS := Lib.hid (fun w2 => sCountOrdersMade_any x0 x1 w2 )
  have HI := Lib.hid (fun w2 => iCountOrdersMade_any x0 x1 w2 )
  obtain ⟨r, hr⟩ : ∃ r, r = omN x0 x1 := ⟨_, rfl⟩
  obtain ⟨q, hq⟩ : ∃ q, q = toldB x0 x1 := ⟨_, rfl⟩
  rw [← hr, ← hq] at HS HI
  have e0 : (q != q) = false := by simp
  have e1 : (r != r) = false := by simp
  have HB := belRefl (w := w)
  clear hr hq
  go_enter Try.func5, Try.ntmps5
  go_wp2_with fail
  refine (HS.out _).mono ?_
  rintro e w1 ⟨rfl, hb⟩
  replace HB := belStep HB hb
  clear hb
  go_wp2_with fail
  refine (HI.out _).mono ?_
  rintro e w2 ⟨rfl, hb⟩
  replace HB := belStep HB hb
  clear hb
  go_wp2_with fail
  go_ret
  exact ⟨rfl, HB.out⟩
end Go.Proofs.Ytbnicblafbkcjaa
