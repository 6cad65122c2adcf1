/- How the arguments of a law are opened, and how a law that has turned nothing is shut. The closed facts on the translation's head, by its words: so the kernel need not take the long head apart. -/
import Derived.Test.YtgeeifjbfceogaaGreatDoorRows
import Derived.Test.YtgeeifjbfceogaaGreatDoorMgC
import Derived.ProofKit
import Derived.OpenShut
import Derived.Lib.SmallJoins
import Derived.JoinedOf
import Derived.KernelRfl
namespace Go.Proofs.YtgeeifjbfceogaaGreatDoor
open Go Go.ChangeShapes Go.WideShapes Go.ChangeAt Go.RowKit

theorem ownK : ownKnob Tryz.prog.godebug = none := by kernel_rfl
theorem laidOutK : laidOutB Tryz.prog = true := by kernel_rfl

section
variable {H : Type} {enc : TypeId × Value → H}

/-- the arguments read behind the call as they did before it, if nothing below the call's own memory has turned -/
theorem allBelow {P : Program} (hl : laidOutB P = true) {W W' : World} (hb : Below W.heap.size W W') : ∀ (ts : List TypeId) (vs : List Value) (ds : List (DataW H)) (ps : List MemPlace),
    (∀ t ∈ ts, P.readableRec t = true ∧ t < P.types.size) → (∀ x ∈ ps, x.block < W.heap.size) → DataW.TrodAll enc P W 0 (fun _ => true) true ts vs ds ps →
    DataW.TrodAll enc P W' 0 (fun b => decide (b < W.heap.size)) true ts vs ds ps
  | [], vs, ds, ps, _, _, h => by
    obtain ⟨rfl, rfl, rfl⟩ := trodAll_nil h
    exact trodAll_mk0
  | t :: ts, vs, ds, ps, hr, hlt, h => by
    obtain ⟨v, vs', d, ds', p, q, rfl, rfl, rfl, h0, h1⟩ := trodAll_cons h
    exact trodAll_cons_mk (Below.trod hl (hr t (by simp)).1 (hr t (by simp)).2 h0 hb (fun x hx => hlt x (by simp [hx])))
      (allBelow hl hb ts vs' ds' q (fun t' h' => hr t' (by simp [h'])) (fun x hx => hlt x (by simp [hx])) h1)

/-- a law's end: it returned true, and each argument reads as it did -/
theorem postTrue {f : Func} {s : ChangeSpec} {W W' : World} {args : Array Value} {ds gs : List (DataW H)} {before : List MemPlace}
    (hW : DataW.Whole enc Tryz.prog f.params.toList s.vars false W args.toList ds gs before) (hb : Below W.heap.size W W')
    (hvars : s.vars = []) (hr : f.resultTypes = #[4]) (hts : ∀ t ∈ f.params.toList, Tryz.prog.readableRec t = true ∧ t < Tryz.prog.types.size)
    (h1 : (s.fn H (ds ++ gs)).results = [.lit (.bool true)]) (h2 : (s.fn H (ds ++ gs)).args = ds) (h3 : (s.fn H (ds ++ gs)).vars = []) :
    s.post enc Tryz.prog f false true false false W args (.bool true) W' := by
  have hlt : ∀ x ∈ before, x.block < W.heap.size := fun x hx => hW.lt x hx
  have hW' := hW
  obtain ⟨p, q, hA, hV, rfl, _, _⟩ := hW
  rw [hvars] at hV
  obtain ⟨rfl, rfl⟩ := trodVars_none hV
  refine ⟨ds, [], p ++ [], [], p, [], hW', ?_, ?_, ?_, hb.frame _, fun h => by cases h⟩
  · rw [h1, hr]
    exact trodAll_mk1 (shut_bool Tryz.underlying4 _)
  · rw [h2]
    exact allBelow laidOutK hb _ _ _ _ hts (fun x hx => hlt x (by simpa using hx)) hA
  · rw [h3, hvars]
    rfl

set_option maxRecDepth 100000 in
/-- an argument that is a ladder -/
theorem openLad {W : World} {r : Reach} {b0 : Nat} {v : Value} {d : DataW H} {p : List MemPlace} (hv : Value.okWide Tryz.prog W r b0 41 v)
    (h : DataW.Trod enc Tryz.prog W 0 (fun _ => true) true 41 v d p) :
    ∃ (X : Int) (A : Option Addr) (n c : Nat) (zs : List Int), v = .agg #[.int .i64 X, .slice A n c] ∧ RI W A n zs ∧ n ≤ 9223372036854775807 := by
  obtain ⟨v0, v1, y0, y1, m, rfl, _, _, h0, h1⟩ := Joins.open_agg2 Tryz.underlying41 (by kernel_rfl) (by kernel_rfl) hv h
  obtain ⟨X, e0, _, _⟩ := DataW.trod_int Tryz.underlying3 h0
  obtain rfl : v0 = .int .i64 X := by simpa using e0
  rcases open_ints Tryz.underlying22 Tryz.underlying3 (by kernel_rfl) h1 with ⟨hcs, _⟩ | ⟨a, len, cap, zs, hcs, _, hl, hm, hz, _, hcell, _⟩
  · obtain rfl : v1 = .slice none 0 0 := by simpa using hcs
    exact ⟨X, none, 0, 0, [], rfl, ⟨rfl, fun h => absurd h (by omega)⟩, by omega⟩
  · obtain rfl : v1 = .slice (some a) len cap := by simpa using hcs
    simp only [if_true] at hz
    unfold maxLen at hm
    refine ⟨X, some a, len, cap, zs.take len, rfl, ⟨by simp; omega, fun hn => ?_⟩, by omega⟩
    obtain ⟨b, off, rfl, hc⟩ := ints_at hcell (by omega)
    refine ⟨b, off, rfl, World.block_lt_of_cell? W _ (hc 0 (by omega)), fun j hj => ?_⟩
    rw [hc j (by omega)]
    simp [gi, List.getD, hj]

set_option maxRecDepth 100000 in
/-- an argument that is a list of numbers -/
theorem openInts {W : World} {r : Reach} {b0 : Nat} {v : Value} {d : DataW H} {p : List MemPlace} (hv : Value.okWide Tryz.prog W r b0 22 v)
    (h : DataW.Trod enc Tryz.prog W 0 (fun _ => true) true 22 v d p) :
    ∃ (A : Option Addr) (n c : Nat) (zs : List Int), v = .slice A n c ∧ RI W A n zs ∧ n ≤ 9223372036854775807 := by
  obtain ⟨a0, len0, cap0, rfl⟩ := okWide_slice Tryz.underlying22 hv
  obtain ⟨fuel, hf⟩ := h
  rcases open_ints Tryz.underlying22 Tryz.underlying3 (by kernel_rfl) hf with ⟨hcs, _⟩ | ⟨a, len, cap, zs, hcs, _, hl, hm, hz, _, hcell, _⟩
  · have e : Value.slice a0 len0 cap0 = .slice none 0 0 := by simpa [Value.cells] using hcs
    rw [e]
    exact ⟨none, 0, 0, [], rfl, ⟨rfl, fun h => absurd h (by omega)⟩, by omega⟩
  · have e : Value.slice a0 len0 cap0 = .slice (some a) len cap := by simpa [Value.cells] using hcs
    rw [e]
    simp only [if_true] at hz
    unfold maxLen at hm
    refine ⟨some a, len, cap, zs.take len, rfl, ⟨by simp; omega, fun hn => ?_⟩, by omega⟩
    obtain ⟨b, off, rfl, hc⟩ := ints_at hcell (by omega)
    refine ⟨b, off, rfl, World.block_lt_of_cell? W _ (hc 0 (by omega)), fun j hj => ?_⟩
    rw [hc j (by omega)]
    simp [gi, List.getD, hj]

set_option maxRecDepth 100000 in
/-- an argument that is a number -/
theorem openInt {W : World} {r : Reach} {b0 : Nat} {v : Value} {d : DataW H} {p : List MemPlace} (hv : Value.okWide Tryz.prog W r b0 3 v)
    (h : DataW.Trod enc Tryz.prog W 0 (fun _ => true) true 3 v d p) : ∃ x : Int, v = .int .i64 x ∧ -9223372036854775808 ≤ x ∧ x ≤ 9223372036854775807 := by
  obtain ⟨x, rfl, _, _, wx⟩ := open_int Tryz.underlying3 hv h
  have := bounds_i64 wx
  exact ⟨x, rfl, this.1, this.2⟩
end
end Go.Proofs.YtgeeifjbfceogaaGreatDoor
namespace Go.Proofs.YtgeeifjbfceogaaGreatDoor
open Go

theorem words_cons {w : List Char} (h : ∀ c ∈ w, c ≠ Char.ofNat 32) (r : List Char) : wordsSigns (w ++ Char.ofNat 32 :: r) = w :: wordsSigns r := by
  induction w with
  | nil => rfl
  | cons c w ih =>
    have hc : c ≠ Char.ofNat 32 := h c (by simp)
    have ih' := ih (fun x hx => h x (by simp [hx]))
    show wordsSigns (c :: (w ++ Char.ofNat 32 :: r)) = _
    rw [wordsSigns]
    · rw [ih']
    · intro e; exact hc e

def hw0 : List Char := List.map Char.ofNat [104, 97, 114, 110, 101, 115, 115]
def hw1 : List Char := List.map Char.ofNat [49, 51, 57, 97, 99, 49, 57, 97, 97, 56, 102, 56, 51, 57, 51, 97, 97, 53, 97, 102, 57, 57, 101, 50, 50, 97, 53, 97, 51, 53, 50, 52, 102, 50, 102, 49, 56, 101, 97, 51, 53, 98, 50, 56, 102, 53, 98, 102, 50, 50, 102, 55, 57, 55, 101, 102, 54, 51, 49, 49, 53, 100, 52, 50]
def hw2 : List Char := List.map Char.ofNat [99, 117, 116]
set_option maxRecDepth 100000 in
def hwr : List Char := List.map Char.ofNat [97, 116, 32, 108, 111, 111, 112, 46, 101, 120, 97, 109, 112, 108, 101, 47, 103, 48, 49, 50, 48, 57, 47, 108, 97, 119, 115, 46, 70, 110, 69, 120, 97, 99, 116, 67, 111, 117, 110, 116, 76, 101, 97, 115, 116, 32, 108, 111, 111, 112, 46, 101, 120, 97, 109, 112, 108, 101, 47, 103, 48, 49, 50, 48, 57, 47, 108, 97, 119, 115, 46, 70, 110, 69, 120, 97, 99, 116, 65, 108, 108, 76, 101, 97, 115, 116, 32, 108, 111, 111, 112, 46, 101, 120, 97, 109, 112, 108, 101, 47, 103, 48, 49, 50, 48, 57, 47, 108, 97, 119, 115, 46, 70, 110, 69, 120, 97, 99, 116, 67, 111, 117, 110, 116, 70, 105, 114, 115, 116, 32, 108, 111, 111, 112, 46, 101, 120, 97, 109, 112, 108, 101, 47, 103, 48, 49, 50, 48, 57, 47, 108, 97, 119, 115, 46, 70, 110, 69, 120, 97, 99, 116, 67, 111, 117, 110, 116, 65, 108, 108, 76, 101, 97, 115, 116, 32, 108, 111, 111, 112, 46, 101, 120, 97, 109, 112, 108, 101, 47, 103, 48, 49, 50, 48, 57, 47, 108, 97, 119, 115, 46, 70, 110, 69, 120, 97, 99, 116, 67, 111, 117, 110, 116, 66, 121, 76, 101, 110, 103, 116, 104, 32, 108, 111, 111, 112, 46, 101, 120, 97, 109, 112, 108, 101, 47, 103, 48, 49, 50, 48, 57, 47, 108, 97, 119, 115, 46, 70, 110, 69, 120, 97, 99, 116, 82, 97, 110, 107, 79, 102, 76, 101, 97, 115, 116, 32, 108, 111, 111, 112, 46, 101, 120, 97, 109, 112, 108, 101, 47, 103, 48, 49, 50, 48, 57, 47, 108, 97, 119, 115, 46, 70, 110, 69, 120, 97, 99, 116, 76, 101, 97, 115, 116, 79, 102, 82, 97, 110, 107, 32, 108, 111, 111, 112, 46, 101, 120, 97, 109, 112, 108, 101, 47, 103, 48, 49, 50, 48, 57, 47, 108, 97, 119, 115, 46, 70, 110, 76, 111, 110, 103, 101, 115, 116, 67, 111, 117, 110, 116, 101, 100]
def headLetters : List Char := hw0 ++ Char.ofNat 32 :: (hw1 ++ Char.ofNat 32 :: (hw2 ++ Char.ofNat 32 :: hwr))
set_option maxRecDepth 100000 in
theorem fkInit : Tryz.prog.initOrder = String.ofList headLetters := by kernel_rfl
theorem fkLetters : Tryz.prog.initOrder.toList = headLetters := by rw [fkInit]; exact String.toList_ofList
theorem behind_cut (s : List Char) (r : List (List Char)) (h : isSumSigns s = true) : behindMainWord (hw0 :: s :: r) = r := by
  show (if (hw0 == "harness".toList || hw0 == "ownmain".toList) && isSumSigns s then r else hw0 :: s :: r) = r
  have e : (hw0 == "harness".toList) = true := by decide +kernel
  rw [h, e]
  rfl
theorem fkWords : ∃ X, behindMainWord (wordsSigns Tryz.prog.initOrder.toList) = hw2 :: X := by
  rw [fkLetters]
  unfold headLetters
  rw [words_cons (by decide), words_cons (by decide), words_cons (by decide)]
  exact ⟨_, behind_cut _ _ (by decide +kernel)⟩
theorem fkStrip (X : List (List Char)) : stripLifts liftWords (hw2 :: X) = ([], hw2 :: X) := by
  have h : ∀ os : List String, (∀ o ∈ os, (hw2 == o.toList) = false) → stripLifts os (hw2 :: X) = ([], hw2 :: X) := by
    intro os
    induction os with
    | nil => intro _; rfl
    | cons o os ih =>
      intro h
      unfold stripLifts
      rw [h o (by simp)]
      exact ih (fun x hx => h x (by simp [hx]))
  exact h liftWords (by decide +kernel)
theorem fk1 : Tryz.prog.laysLater = false := by kernel_rfl
theorem fk2 : Tryz.prog.bearsReflect = false := by kernel_rfl
theorem fk3 : Tryz.prog.doorFits [] = true := by kernel_rfl
theorem hw2_gc : (hw2 == "gc".toList) = false := by decide +kernel
theorem hw2_spec : (hw2 == "spec".toList) = false := by decide +kernel
theorem hw2_carried : (hw2 == "carried".toList) = false := by decide +kernel
theorem hw2_cut : (hw2 == "cut".toList) = true := by decide +kernel
theorem hw2_somecut : (some hw2 == some "cut".toList) = true := by decide +kernel
section
variable {P : Program} {c : List Char} {X : List (List Char)}
theorem makeOf (hX : behindMainWord (wordsSigns P.initOrder.toList) = c :: X) (e1 : (c == "gc".toList) = false) (e2 : (c == "spec".toList) = false) (e4 : (c == "cut".toList) = true) : P.make = some .cut := by
  unfold Program.make
  rw [hX]
  simp only [e1, e2, e4]
  rfl
theorem liftsOf (hX : behindMainWord (wordsSigns P.initOrder.toList) = c :: X) (e3 : (some c == some "carried".toList) = false) (e5 : stripLifts liftWords (c :: X) = ([], c :: X)) : P.liftsFinal = false := by
  unfold Program.liftsFinal Program.headLifts
  rw [hX]
  simp only [e5, List.head?_cons, e3]
  split <;> rfl
theorem enterOf (hX : behindMainWord (wordsSigns P.initOrder.toList) = c :: X) (e1 : (c == "gc".toList) = false) (e2 : (c == "spec".toList) = false) (e3 : (c == "carried".toList) = false) (e4 : (some c == some "cut".toList) = true)
    (e5 : stripLifts liftWords (c :: X) = ([], c :: X)) (k1 : P.laysLater = false) (k2 : P.bearsReflect = false) (k3 : P.doorFits [] = true) : P.mayEnter = true := by
  unfold Program.mayEnter
  rw [hX]
  simp only [e1, e2, e3, e5, List.head?_cons, e4, k1, k2, k3]
  rfl
end
theorem fkEnter : Tryz.prog.mayEnter = true := by
  obtain ⟨X, hX⟩ := fkWords
  exact enterOf hX hw2_gc hw2_spec hw2_carried hw2_somecut (fkStrip X) fk1 fk2 fk3
theorem hw2_somecarried : (some hw2 == some "carried".toList) = false := by decide +kernel
theorem fkLifts : Tryz.prog.liftsFinal = false := by
  obtain ⟨X, hX⟩ := fkWords
  exact liftsOf hX hw2_somecarried (fkStrip X)
theorem fkMake : Tryz.prog.make = some .cut := by
  obtain ⟨X, hX⟩ := fkWords
  exact makeOf hX hw2_gc hw2_spec hw2_cut
end Go.Proofs.YtgeeifjbfceogaaGreatDoor
