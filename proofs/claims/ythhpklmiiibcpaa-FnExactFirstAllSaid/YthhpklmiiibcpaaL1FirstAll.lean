/- The law of FirstAll, gone through: it returns true, and nothing that was there has turned. -/
import Derived.Test.YthhpklmiiibcpaaFa2
import Derived.Test.YthhpklmiiibcpaaMgC
namespace Go.Proofs.Ythhpklmiiibcpaa
open Go Go.RowKit

set_option linter.unusedVariables false in
set_option maxHeartbeats 1000000 in
theorem lawFirstAll_any (x0 : Int) (w : World) (lo0 : -9223372036854775808 ≤ x0) (hi0 : x0 ≤ 9223372036854775807) :
    Calls Try.prog 8 #[.int .i64 x0] w (RetB true w) := by
  have HS := Lib.hid (fun w2 => sFirstAll_any x0 w2 lo0 hi0)
  have HI := Lib.hid (fun w2 => iFirstAll_any x0 w2 lo0 hi0)
  obtain ⟨r, hr⟩ : ∃ r, r = faV x0 := ⟨_, rfl⟩
  obtain ⟨q, hq⟩ : ∃ q, q = faQ x0 := ⟨_, rfl⟩
  rw [← hr, ← hq] at HS HI
  have e0 : (q != q) = false := by simp
  have e1 : (r != r) = false := by simp
  have HB := belRefl (w := w)
  clear hr hq
  go_enter Try.func8, Try.ntmps8
  go_wp2_with fail
  refine (HS.out _).mono ?_
  rintro e w1 ⟨rfl, hb⟩
  replace HB := belStep HB hb
  clear hb
  go_wp2_with fail
  refine (HI.out _).mono ?_
  rintro e w2 ⟨rfl, hb⟩
  replace HB := belStep HB hb
  clear hb
  go_wp2_with fail
  go_ret
  exact ⟨rfl, HB.out⟩
end Go.Proofs.Ythhpklmiiibcpaa
