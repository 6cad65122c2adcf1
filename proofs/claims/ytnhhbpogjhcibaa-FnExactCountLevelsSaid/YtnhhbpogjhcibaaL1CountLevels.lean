/- The law of CountLevels, gone through: it returns true, and nothing that was there has turned. -/
import Derived.Test.YtnhhbpogjhcibaaLv3
import Derived.Test.YtnhhbpogjhcibaaMgC
namespace Go.Proofs.Ytnhhbpogjhcibaa
open Go Go.RowKit

set_option linter.unusedVariables false in
set_option maxHeartbeats 1000000 in
theorem lawCountLevels_any (x0 : Int) (w : World) (lo0 : -9223372036854775808 ≤ x0) (hi0 : x0 ≤ 9223372036854775807) :
    Calls Try.prog 7 #[.int .i64 x0] w (RetB true w) := by
  have HS := Lib.hid (fun w2 => sCountLevels_any x0 w2 )
  have HI := Lib.hid (fun w2 => iCountLevels_any x0 w2 )
  obtain ⟨r, hr⟩ : ∃ r, r = clvN x0 := ⟨_, rfl⟩
  obtain ⟨q, hq⟩ : ∃ q, q = inB x0 2 8 := ⟨_, rfl⟩
  rw [← hr, ← hq] at HS HI
  have e0 : (q != q) = false := by simp
  have e1 : (r != r) = false := by simp
  have HB := belRefl (w := w)
  clear hr hq
  go_enter Try.func7, Try.ntmps7
  go_wp2_with fail
  refine (HS.out _).mono ?_
  rintro e w1 ⟨rfl, hb⟩
  replace HB := belStep HB hb
  clear hb
  go_wp2_with fail
  refine (HI.out _).mono ?_
  rintro e w2 ⟨rfl, hb⟩
  replace HB := belStep HB hb
  clear hb
  go_wp2_with fail
  go_ret
  exact ⟨rfl, HB.out⟩
end Go.Proofs.Ytnhhbpogjhcibaa
