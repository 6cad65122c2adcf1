/- CountHomeSets and LeastTakes, of the program and of the model. -/
import Derived.Test.YtiapbmgpjloafaaGm6
namespace Go.Proofs.Ytiapbmgpjloafaa
open Go Go.RowKit

/-- the greatest one of some numbers, 0 at least -/
def mxL (xs : List Int) : Int := xs.foldl max 0
theorem mxL_snoc (xs : List Int) (x : Int) : mxL (xs ++ [x]) = max (mxL xs) x := by unfold mxL; rw [List.foldl_append]; rfl
theorem mxL_take {xs : List Int} {k : Nat} (h : k < xs.length) : mxL (xs.take (k + 1)) = max (mxL (xs.take k)) (gi xs k) := by
  rw [List.take_succ_eq_append_getElem h, mxL_snoc, gi_lt h]
theorem mxL_in {xs : List Int} {b : Int} (hb : 0 ≤ b) : (∀ j, j < xs.length → 0 ≤ gi xs j ∧ gi xs j ≤ b) → ∀ k, k ≤ xs.length → 0 ≤ mxL (xs.take k) ∧ mxL (xs.take k) ≤ b := by
  intro h k hk
  induction k with
  | zero => simp [mxL, hb]
  | succ k ih =>
    have := ih (by omega)
    have := h k (by omega)
    rw [mxL_take (by omega)]; omega
theorem mxL_all (xs : List Int) : mxL (xs.take xs.length) = mxL xs := by simp

set_option maxHeartbeats 400000 in
theorem gMost_any (a b : Int) (w : World) : Calls Try.prog 54 #[.int .i64 a, .int .i64 b] w (fun e w' => e = .returned (.int .i64 (max a b)) ∧ w' = w) := by
  by_cases h : b < a
  · have E : Hid (max a b = a) := by show _ = _; omega
    go_enter Try.func54, Try.ntmps54
    go_wp2
    go_ret
    exact ⟨ret_i E.out.symm, rfl⟩
  · have E : Hid (max a b = b) := by show _ = _; omega
    go_enter Try.func54, Try.ntmps54
    go_wp2
    go_ret
    exact ⟨ret_i E.out.symm, rfl⟩

/-- how many sets -/
def chN (W : Int) (zs : List Int) : Int := if tkB W zs = true then ((hsK zs W.toNat (2 ^ zs.length)).length : Int) else 0
theorem chN_yes {W : Int} {zs : List Int} (h : tkB W zs = true) : chN W zs = ((hsK zs W.toNat (2 ^ zs.length)).length : Int) := by unfold chN; rw [if_pos h]
theorem chN_no {W : Int} {zs : List Int} (h : tkB W zs = false) : chN W zs = 0 := by unfold chN; rw [h]; rfl

end Go.Proofs.Ytiapbmgpjloafaa
