/- Ratios of numbers of ladders: in lowest terms, compared. -/
import Derived.Test.YtbgkhehopldilaaCe3
namespace Go.Proofs.Ytbgkhehopldilaa
open Go Go.RowKit

/-- a ratio and a bool -/
def RetRB (x y : Int) (q : Bool) (w : World) (e : Ending) (w' : World) : Prop := e = .returned (.tuple #[.agg #[.int .i64 x, .int .i64 y], .bool q]) ∧ Below w.heap.size w w'
/-- a number of all ladders, in lowest terms -/
def rtA (a : Nat) (n k : Int) : Int := ((a / Nat.gcd a (allN n k) : Nat) : Int)
def rtB (a : Nat) (n k : Int) : Int := ((allN n k / Nat.gcd a (allN n k) : Nat) : Int)
def RetR2 (x y : Int) (w : World) (e : Ending) (w' : World) : Prop := e = .returned (.agg #[.int .i64 x, .int .i64 y]) ∧ Below w.heap.size w w'
theorem allN_in {n k : Int} (h : fallB n k = true) : 0 < allN n k ∧ allN n k ≤ 95367431640625 := by
  obtain ⟨⟨h2, h6⟩, hk0, hk⟩ := fallB_iff.1 h
  unfold allN
  have h1 := pow5 (m := n.toNat - 1) (j := k.toNat) (by omega) (by omega)
  have h3 := powPos (m := n.toNat - 1) (j := k.toNat) (by omega)
  omega
theorem meanOf_rt (a : Nat) {n k : Int} (h : fallB n k = true) (ha : a ≤ 4000000000000000000) (w : World) : Calls Try.prog 22 #[.int .i64 (a : Int), .int .i64 n, .int .i64 k] w (RetR2 (rtA a n k) (rtB a n k) w) := meanOf_any a n k w h ha
theorem chRatio_rt (a : Nat) {n k : Int} (h : fallB n k = true) (ha : a ≤ 4000000000000000000) (w : World) : Calls Try.prog 26 #[.int .i64 (a : Int), .int .i64 (allN n k : Int)] w (RetR2 (rtA a n k) (rtB a n k) w) :=
  chRatio_any a (allN n k) w ha (by have := allN_in h; omega) (allN_in h).1

end Go.Proofs.Ytbgkhehopldilaa
