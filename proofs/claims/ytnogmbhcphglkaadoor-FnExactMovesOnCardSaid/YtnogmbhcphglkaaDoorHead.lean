/- The closed facts on the translation's head, by its words: so the kernel need not take the long head apart. -/
import Derived.Test.YtnogmbhcphglkaaDoorRows
import Derived.JoinedOf
import Derived.KernelRfl
namespace Go.Proofs.YtnogmbhcphglkaaDoor
open Go

theorem words_cons {w : List Char} (h : ∀ c ∈ w, c ≠ Char.ofNat 32) (r : List Char) : wordsSigns (w ++ Char.ofNat 32 :: r) = w :: wordsSigns r := by
  induction w with
  | nil => rfl
  | cons c w ih =>
    have hc : c ≠ Char.ofNat 32 := h c (by simp)
    have ih' := ih (fun x hx => h x (by simp [hx]))
    show wordsSigns (c :: (w ++ Char.ofNat 32 :: r)) = _
    rw [wordsSigns]
    · rw [ih']
    · intro e; exact hc e

def hw0 : List Char := List.map Char.ofNat [104, 97, 114, 110, 101, 115, 115]
def hw1 : List Char := List.map Char.ofNat [99, 57, 51, 57, 53, 55, 56, 50, 100, 48, 49, 101, 52, 102, 54, 48, 102, 55, 98, 52, 51, 56, 56, 98, 99, 50, 57, 49, 51, 49, 100, 52, 50, 56, 57, 55, 54, 100, 102, 98, 100, 50, 50, 52, 51, 100, 52, 52, 54, 97, 50, 52, 100, 99, 99, 54, 52, 57, 53, 98, 53, 49, 56, 99]
def hw2 : List Char := List.map Char.ofNat [99, 117, 116]
set_option maxRecDepth 100000 in
def hwr : List Char := List.map Char.ofNat [97, 116, 32, 108, 111, 111, 112, 46, 101, 120, 97, 109, 112, 108, 101, 47, 103, 48, 49, 50, 48, 57, 47, 108, 97, 119, 115, 46, 70, 110, 69, 120, 97, 99, 116, 77, 111, 118, 101, 115, 79, 110, 32, 108, 111, 111, 112, 46, 101, 120, 97, 109, 112, 108, 101, 47, 103, 48, 49, 50, 48, 57, 47, 108, 97, 119, 115, 46, 70, 110, 69, 120, 97, 99, 116, 77, 97, 107, 101, 77, 111, 118, 101, 32, 108, 111, 111, 112, 46, 101, 120, 97, 109, 112, 108, 101, 47, 103, 48, 49, 50, 48, 57, 47, 108, 97, 119, 115, 46, 70, 110, 69, 120, 97, 99, 116, 83, 108, 105, 100, 101, 67, 108, 97, 115, 115]
def headLetters : List Char := hw0 ++ Char.ofNat 32 :: (hw1 ++ Char.ofNat 32 :: (hw2 ++ Char.ofNat 32 :: hwr))
set_option maxRecDepth 100000 in
theorem fkInit : Tryd.prog.initOrder = String.ofList headLetters := by kernel_rfl
theorem fkLetters : Tryd.prog.initOrder.toList = headLetters := by rw [fkInit]; exact String.toList_ofList
theorem behind_cut (s : List Char) (r : List (List Char)) (h : isSumSigns s = true) : behindMainWord (hw0 :: s :: r) = r := by
  show (if (hw0 == "harness".toList || hw0 == "ownmain".toList) && isSumSigns s then r else hw0 :: s :: r) = r
  have e : (hw0 == "harness".toList) = true := by decide +kernel
  rw [h, e]
  rfl
theorem fkWords : ∃ X, behindMainWord (wordsSigns Tryd.prog.initOrder.toList) = hw2 :: X := by
  rw [fkLetters]
  unfold headLetters
  rw [words_cons (by decide), words_cons (by decide), words_cons (by decide)]
  exact ⟨_, behind_cut _ _ (by decide +kernel)⟩
theorem fkStrip (X : List (List Char)) : stripLifts liftWords (hw2 :: X) = ([], hw2 :: X) := by
  have h : ∀ os : List String, (∀ o ∈ os, (hw2 == o.toList) = false) → stripLifts os (hw2 :: X) = ([], hw2 :: X) := by
    intro os
    induction os with
    | nil => intro _; rfl
    | cons o os ih =>
      intro h
      unfold stripLifts
      rw [h o (by simp)]
      exact ih (fun x hx => h x (by simp [hx]))
  exact h liftWords (by decide +kernel)
theorem fk1 : Tryd.prog.laysLater = false := by kernel_rfl
theorem fk2 : Tryd.prog.bearsReflect = false := by kernel_rfl
theorem fk3 : Tryd.prog.doorFits [] = true := by kernel_rfl
theorem hw2_gc : (hw2 == "gc".toList) = false := by decide +kernel
theorem hw2_spec : (hw2 == "spec".toList) = false := by decide +kernel
theorem hw2_carried : (hw2 == "carried".toList) = false := by decide +kernel
theorem hw2_cut : (hw2 == "cut".toList) = true := by decide +kernel
theorem hw2_somecut : (some hw2 == some "cut".toList) = true := by decide +kernel
section
variable {P : Program} {c : List Char} {X : List (List Char)}
theorem makeOf (hX : behindMainWord (wordsSigns P.initOrder.toList) = c :: X) (e1 : (c == "gc".toList) = false) (e2 : (c == "spec".toList) = false) (e4 : (c == "cut".toList) = true) : P.make = some .cut := by
  unfold Program.make
  rw [hX]
  simp only [e1, e2, e4]
  rfl
theorem liftsOf (hX : behindMainWord (wordsSigns P.initOrder.toList) = c :: X) (e3 : (some c == some "carried".toList) = false) (e5 : stripLifts liftWords (c :: X) = ([], c :: X)) : P.liftsFinal = false := by
  unfold Program.liftsFinal Program.headLifts
  rw [hX]
  simp only [e5, List.head?_cons, e3]
  split <;> rfl
theorem enterOf (hX : behindMainWord (wordsSigns P.initOrder.toList) = c :: X) (e1 : (c == "gc".toList) = false) (e2 : (c == "spec".toList) = false) (e3 : (c == "carried".toList) = false) (e4 : (some c == some "cut".toList) = true)
    (e5 : stripLifts liftWords (c :: X) = ([], c :: X)) (k1 : P.laysLater = false) (k2 : P.bearsReflect = false) (k3 : P.doorFits [] = true) : P.mayEnter = true := by
  unfold Program.mayEnter
  rw [hX]
  simp only [e1, e2, e3, e5, List.head?_cons, e4, k1, k2, k3]
  rfl
end
theorem fkEnter : Tryd.prog.mayEnter = true := by
  obtain ⟨X, hX⟩ := fkWords
  exact enterOf hX hw2_gc hw2_spec hw2_carried hw2_somecut (fkStrip X) fk1 fk2 fk3
theorem hw2_somecarried : (some hw2 == some "carried".toList) = false := by decide +kernel
theorem fkLifts : Tryd.prog.liftsFinal = false := by
  obtain ⟨X, hX⟩ := fkWords
  exact liftsOf hX hw2_somecarried (fkStrip X)
theorem fkMake : Tryd.prog.make = some .cut := by
  obtain ⟨X, hX⟩ := fkWords
  exact makeOf hX hw2_gc hw2_spec hw2_cut
end Go.Proofs.YtnogmbhcphglkaaDoor
