/- The law of CountAllLeast, gone through: it returns true, and nothing that was there has turned. -/
import Derived.Test.YtgeeifjbfceogaaGreatDoorCb7
namespace Go.Proofs.YtgeeifjbfceogaaGreatDoor
open Go Go.RowKit

set_option maxHeartbeats 1000000 in
theorem lawCountAllLeast_any (x : Int) (w : World) (lo : -9223372036854775808 ≤ x) (hi : x ≤ 9223372036854775807) (hG : Glob w) :
    Calls Tryz.prog 6 #[.int .i64 x] w (RetB true w) := by
  have HS := Lib.hid (fun w2 => sCountAllLeast_any x w2 lo hi)
  have HI := Lib.hid (fun w2 => iCountAllLeast_any x w2 lo hi)
  have HGL := Lib.hid hG
  obtain ⟨r, hr⟩ : ∃ r, r = caN x := ⟨_, rfl⟩
  obtain ⟨q, hq⟩ : ∃ q, q = cbQ x := ⟨_, rfl⟩
  rw [← hr, ← hq] at HS HI
  have e0 : (q != q) = false := by simp
  have e1 : (r != r) = false := by simp
  have HB := belRefl (w := w)
  clear hr hq hG
  go_enter Tryz.func6, Tryz.ntmps6
  go_wp2_with fail
  refine (HS.out _).mono ?_
  rintro e w1 ⟨rfl, hb⟩
  replace HB := belStep HB hb
  clear hb
  go_wp2_with fail
  refine (HI.out _ (HGL.out.below HB.out)).mono ?_
  rintro e w2 ⟨rfl, hb⟩
  replace HB := belStep HB hb
  clear hb
  go_wp2_with fail
  go_ret
  exact ⟨rfl, HB.out⟩
end Go.Proofs.YtgeeifjbfceogaaGreatDoor
