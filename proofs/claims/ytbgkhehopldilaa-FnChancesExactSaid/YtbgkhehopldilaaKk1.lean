/- What the laws of more than one function go through: kSame, kSum, kHas, big. -/
import Derived.Test.YtbgkhehopldilaaBase3
import Derived.Test.YtbgkhehopldilaaMgC
import Derived.Deep.QuietTactic
import Derived.BigQuiet
import Derived.IntWalk
namespace Go.Proofs.Ytbgkhehopldilaa
open Go Go.RowKit

/-- may the two inputs be looked at -/
def bigB (n m : Nat) : Bool := decide (1048576 < n) || decide (1048576 - (n : Int) < m)
set_option maxHeartbeats 400000 in
theorem big_any (A : Option Addr) (n c : Nat) (B : Option Addr) (m d : Nat) (w : World) (hn : n ≤ 9223372036854775807) (_hm : m ≤ 9223372036854775807) :
    Calls Try.prog 4 #[.slice A n c, .slice B m d] w (RetB (bigB n m) w) := by
  by_cases h1 : (1048576 : Int) < n
  · have E : Hid (bigB n m = true) := by show bigB n m = true; unfold bigB; rw [decide_eq_true (by omega)]; rfl
    go_enter Try.func4, Try.ntmps4
    go_wp2
    go_ret
    exact ⟨ret_b E.out.symm, Below.refl _ _⟩
  · have E : Hid (bigB n m = decide (1048576 - (n : Int) < m)) := by show bigB n m = _; unfold bigB; rw [decide_eq_false (by omega)]; rfl
    go_enter Try.func4, Try.ntmps4
    go_wp2
    all_goals
      go_ret
      exact ⟨ret_b (by rw [E.out]), Below.refl _ _⟩

theorem sum_le (zs : List Int) (h : ∀ x ∈ zs, 0 ≤ x ∧ x ≤ 1000000) : 0 ≤ zs.sum ∧ zs.sum ≤ 1000000 * zs.length := by
  induction zs with
  | nil => simp
  | cons z zs ih =>
    have h1 := h z (by simp)
    have h2 := ih (fun x hx => h x (by simp [hx]))
    simp only [List.sum_cons, List.length_cons]
    omega
theorem sum_take (zs : List Int) {k : Nat} (hk : k < zs.length) : (zs.take (k + 1)).sum = (zs.take k).sum + gi zs k := by
  rw [show zs.take (k + 1) = zs.take k ++ [zs[k]] by rw [List.take_append_getElem], List.sum_append, gi_lt hk]
  simp

end Go.Proofs.Ytbgkhehopldilaa
