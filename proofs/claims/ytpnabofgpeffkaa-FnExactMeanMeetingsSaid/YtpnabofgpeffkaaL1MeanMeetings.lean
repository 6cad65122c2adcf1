/- The law of MeanMeetings, gone through: it returns true, and nothing that was there has turned. -/
import Derived.Test.YtpnabofgpeffkaaCe20
import Derived.Test.YtpnabofgpeffkaaCe14
namespace Go.Proofs.Ytpnabofgpeffkaa
open Go Go.RowKit

set_option linter.unusedVariables false in
set_option maxHeartbeats 1000000 in
theorem lawMeanMeetings_any (x0 x1 x2 x3 : Int) (w : World) (lo0 : -9223372036854775808 ≤ x0) (hi0 : x0 ≤ 9223372036854775807) (lo1 : -9223372036854775808 ≤ x1) (hi1 : x1 ≤ 9223372036854775807) (lo2 : -9223372036854775808 ≤ x2) (hi2 : x2 ≤ 9223372036854775807) (lo3 : -9223372036854775808 ≤ x3) (hi3 : x3 ≤ 9223372036854775807) :
    Calls Try.prog 8 #[.int .i64 x0, .int .i64 x1, .int .i64 x2, .int .i64 x3] w (RetB true w) := by
  have HS := Lib.hid (fun w2 => sMeanMeetings_any x0 x1 x2 x3 w2 lo0 hi0)
  have HI := Lib.hid (fun w2 => iMeanMeetings_any x0 x1 x2 x3 w2 lo0 hi0)
  obtain ⟨a, ha⟩ : ∃ a, a = mmA x0 x1 x2 x3 := ⟨_, rfl⟩
  obtain ⟨b, hb⟩ : ∃ b, b = mmB x0 x1 x2 x3 := ⟨_, rfl⟩
  obtain ⟨q, hq⟩ : ∃ q, q = mmQ x0 x1 x2 x3 := ⟨_, rfl⟩
  rw [← ha, ← hb, ← hq] at HS HI
  have e0 : (q != q) = false := by simp
  have HB := belRefl (w := w)
  clear ha hb hq
  go_enter Try.func8, Try.ntmps8
  go_wp2_with fail
  refine (HS.out _).mono ?_
  rintro e w1 ⟨rfl, hb⟩
  replace HB := belStep HB hb
  clear hb
  go_wp2_with fail
  replace HB := belAlloc HB (.cells #[.int .i64 a, .int .i64 b] 28)
  have HC := cellNew w1 (.int .i64 a) (.int .i64 b) 28
  refine (HI.out _).mono ?_
  rintro e w2 ⟨rfl, hb⟩
  replace HB := belStep HB hb
  replace HC := cellStep HC hb
  have k0 := HC.out.c0; have k1 := HC.out.c1; have kz := HC.out.lt
  clear hb
  go_wp2_with fail
  replace HB := belAlloc HB (.cells #[.int .i64 a, .int .i64 b] 28)
  refine (eqRatio_self a b _).mono ?_
  rintro e w3 ⟨rfl, hb⟩
  replace HB := belStep HB hb
  clear hb
  go_wp2_with fail
  go_ret
  exact ⟨rfl, HB.out⟩
end Go.Proofs.Ytpnabofgpeffkaa
