/- The order of a code: what is kept from place to place. -/
import Derived.Test.YtcjdojnninkgbaaMgJ
import Derived.Test.YtcjdojnninkgbaaMgB
import Derived.Test.YtcjdojnninkgbaaMgA
namespace Go.Proofs.Ytcjdojnninkgbaa
open Go Go.RowKit

structure ORel (xs out left : List Int) (k : Nat) : Prop where
  eq : orderL xs = (orderC left (xs.drop k)).map (fun r => out ++ r)
  ll : left.length + k = xs.length
  lo : out.length = k
theorem ORel.start (xs : List Int) : ORel xs [] (upto xs.length) 0 := ⟨by simp [orderL], by rw [upto_len]; omega, rfl⟩
theorem ORel.step {xs out left : List Int} {k p : Nat} (h : ORel xs out left k) (hk : k < xs.length) (hx : gi xs k = (p : Int)) (hp : p < left.length) : ORel xs (out ++ [gi left p]) (left.eraseIdx p) (k + 1) := by
  refine ⟨?_, by rw [List.length_eraseIdx, if_pos hp]; have := h.ll; omega, by simp [h.lo]⟩
  rw [h.eq, List.drop_eq_getElem_cons hk, ← gi_lt, hx]
  simp only [orderC]
  rw [if_pos ⟨by omega, by omega⟩, Int.toNat_natCast, Option.map_map]
  congr 1
  funext r
  simp
theorem ORel.bad {xs out left : List Int} {k : Nat} (h : ORel xs out left k) (hk : k < xs.length) (hx : ¬ (0 ≤ gi xs k ∧ gi xs k < left.length)) : orderL xs = none := by
  rw [h.eq, List.drop_eq_getElem_cons hk, ← gi_lt]
  simp only [orderC]
  rw [if_neg hx]; rfl
theorem ORel.done {xs out left : List Int} {k : Nat} (h : ORel xs out left k) (hk : k = xs.length) : orderL xs = some out := by
  rw [h.eq, List.drop_eq_nil_of_le (by omega)]
  simp [orderC]
def ocB (xs : List Int) : Bool := inB xs.length 1 8 && (orderL xs).isSome
def ocL (xs : List Int) : List Int := if inB xs.length 1 8 = true then (orderL xs).getD [] else []
theorem oc_no {xs : List Int} (h : inB xs.length 1 8 = false) : ocL xs = [] ∧ ocB xs = false := by unfold ocL ocB; rw [h]; exact ⟨rfl, rfl⟩
theorem oc_none {xs : List Int} (e : orderL xs = none) : ocL xs = [] ∧ ocB xs = false := by
  unfold ocL ocB; rw [e]
  refine ⟨by split <;> rfl, by simp⟩
theorem oc_some {xs r : List Int} (h : inB xs.length 1 8 = true) (e : orderL xs = some r) : ocL xs = r ∧ ocB xs = true := by unfold ocL ocB; rw [h, e]; exact ⟨rfl, rfl⟩
theorem ocL_len (xs : List Int) : (ocL xs).length ≤ 1000 := by
  rcases h : inB (xs.length : Int) 1 8 with _ | _
  · rw [(oc_no h).1]; simp
  · have h2 := inB_iff.1 h
    cases e : orderL xs with
    | none => rw [(oc_none e).1]; simp
    | some r =>
      rw [(oc_some h e).1]
      have := orderC_len _ _ _ e
      omega
end Go.Proofs.Ytcjdojnninkgbaa
