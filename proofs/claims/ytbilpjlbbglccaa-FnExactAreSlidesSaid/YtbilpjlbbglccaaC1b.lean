/- The contracts of the functions that go down a ladder. -/
import Derived.Test.YtbilpjlbbglccaaC1a
import Derived.Test.YtbilpjlbbglccaaBox
import Derived.Test.YtbilpjlbbglccaaApp
namespace Go.Proofs.Ytbilpjlbbglccaa
open Go Go.RowKit

theorem over_1 {s r : Int} (h : s = r) : r + 1 = over s r := by unfold over; rw [if_pos h]
theorem over_2 {s r : Int} (h : s ≠ r) (h2 : s = r + 1) : r = over s r := by unfold over; rw [if_neg h, if_pos h2]
theorem over_3 {s r : Int} (h : s ≠ r) (h2 : s ≠ r + 1) : s = over s r := by unfold over; rw [if_neg h, if_neg h2]

theorem laOver_any (s r : Int) (w : World) (hr : -1000 ≤ r ∧ r ≤ 1000) :
    Calls Try.prog 53 #[.int .i64 s, .int .i64 r] w (SameI (over s r) w) := by
  by_cases h1 : s = r
  · have e1 : (s == r) = true := beq_iff_eq.2 h1
    have H1 := Lib.hid (over_1 h1)
    clear h1
    go_enter Try.func53, Try.ntmps53
    go_wp2
    go_ret
    exact ⟨ret_i H1.out, rfl⟩
  · have e1 : (s == r) = false := beq_eq_false_iff_ne.2 h1
    by_cases h2 : s = r + 1
    · have e2 : (s == r + 1) = true := beq_iff_eq.2 h2
      have H1 := Lib.hid (over_2 h1 h2)
      clear h1 h2
      go_enter Try.func53, Try.ntmps53
      go_wp2
      go_ret
      exact ⟨ret_i H1.out, rfl⟩
    · have e2 : (s == r + 1) = false := beq_eq_false_iff_ne.2 h2
      have H1 := Lib.hid (over_3 h1 h2)
      clear h1 h2
      go_enter Try.func53, Try.ntmps53
      go_wp2
      go_ret
      exact ⟨ret_i H1.out, rfl⟩

/-- what a way down wants of the rungs and of the start -/
def Wires (zs : List Int) (s : Int) : Prop := ∃ W : Int, W ≤ 8 ∧ (∀ j, j < zs.length → 0 ≤ gi zs j ∧ gi zs j ≤ W - 2) ∧ 0 ≤ s ∧ s ≤ W - 1
theorem Wires.at {zs : List Int} {s : Int} (h : Wires zs s) {k : Nat} (hk : k ≤ zs.length) : 0 ≤ at_ zs s k ∧ at_ zs s k ≤ 7 := by
  obtain ⟨W, hW, hz, hs⟩ := h
  have := at_le hz hs k hk
  omega
theorem Wires.rung {zs : List Int} {s : Int} (h : Wires zs s) {k : Nat} (hk : k < zs.length) : 0 ≤ gi zs k ∧ gi zs k ≤ 6 := by
  obtain ⟨W, hW, hz, hs⟩ := h
  have := hz k hk
  omega
theorem Wires.of {W : Int} {zs : List Int} {s : Int} (h : wire W zs s = true) : Wires zs s :=
  ⟨W, by have := (lad_iff.1 (wire_iff.1 h).1).1; omega, fun _ hj => lad_at (wire_iff.1 h).1 hj, (wire_iff.1 h).2⟩

end Go.Proofs.Ytbilpjlbbglccaa
