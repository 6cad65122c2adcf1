/- The law of LongestByFormula, gone through: it returns true, and nothing that was there has turned. -/
import Derived.Test.YtcdpgmjpigomfaaLg1
namespace Go.Proofs.Ytcdpgmjpigomfaa
open Go Go.RowKit

set_option maxHeartbeats 1000000 in
theorem lawLongestByFormula_any (x : Int) (w : World) (lo : -9223372036854775808 ≤ x) (hi : x ≤ 9223372036854775807) :
    Calls Try.prog 3 #[.int .i64 x] w (RetB true w) := by
  have HS := Lib.hid (fun w2 => sLongestByFormula_any x w2 lo hi)
  have HI := Lib.hid (fun w2 => iLongestByFormula_any x w2 lo hi)
  obtain ⟨r, hr⟩ : ∃ r, r = lgN x := ⟨_, rfl⟩
  obtain ⟨q, hq⟩ : ∃ q, q = lgQ x := ⟨_, rfl⟩
  rw [← hr, ← hq] at HS HI
  have e0 : (q != q) = false := by simp
  have e1 : (r != r) = false := by simp
  have HB := belRefl (w := w)
  clear hr hq
  go_enter Try.func3, Try.ntmps3
  go_wp2_with fail
  refine (HS.out _).mono ?_
  rintro e w1 ⟨rfl, hb⟩
  replace HB := belStep HB hb
  clear hb
  go_wp2_with fail
  refine (HI.out _).mono ?_
  rintro e w2 ⟨rfl, hb⟩
  replace HB := belStep HB hb
  clear hb
  go_wp2_with fail
  go_ret
  exact ⟨rfl, HB.out⟩
end Go.Proofs.Ytcdpgmjpigomfaa
