/- The placing game: the program's lists, as the laws ask for them; the model's good rungs. -/
import Derived.Test.YtbfdpjnkpclcbaaGp4
import Derived.Test.YtbfdpjnkpclcbaaOf1
namespace Go.Proofs.Ytbfdpjnkpclcbaa
open Go Go.RowKit

def FreshOFG (w : World) (m : Nat) (ys : List Int) (q : Bool) (e : Ending) (w' : World) : Prop :=
  ∃ (A : Option Addr) (c : Nat), e = .returned (.tuple #[.slice A m c, .bool q]) ∧ OF w' w.heap.size A m ys ∧ Below w.heap.size w w'
theorem ofOI {w : World} {lo : Nat} {A : Option Addr} {n c : Nat} {zs : List Int} (h : OI w lo A n c zs) : OF w lo A n zs := by
  refine ⟨h.1, fun b hb => h.blk b hb, fun hn => ?_⟩
  rcases h.form with ⟨_, _, h0⟩ | ⟨g, cur, rfl, h1, h2, h3⟩
  · omega
  · refine ⟨g, rfl, fun j hj => ⟨?_, h.2.frozenAt j⟩⟩
    obtain ⟨b', off', e, _, hc⟩ := h.ri.cell hj
    injection e with e; injection e with e1 e2 e3
    subst e1 e2
    have := hc j hj
    rwa [Nat.zero_add] at this
theorem FreshIB.of {w : World} {n : Nat} {ys : List Int} {q : Bool} {e : Ending} {w' : World} (h : FreshIB w n ys q e w') : FreshOFG w n ys q e w' := by
  obtain ⟨A, c, rfl, ho, hb⟩ := h
  exact ⟨A, c, rfl, ofOI ho, hb⟩
theorem iPlacesWon_of (n g m : Int) (w : World) : Calls Try.prog 30 #[.int .i64 n, .int .i64 g, .int .i64 m] w (FreshOFG w (plsL n g m).length (plsL n g m) (plsB n g m)) :=
  (iPlacesWon_any n g m w).mono fun _ _ h => h.of
theorem iGoodPlaces_of (n a g m : Int) (w : World) : Calls Try.prog 28 #[.int .i64 n, .int .i64 a, .int .i64 g, .int .i64 m] w (FreshOFG w (plgL n a g m).length (plgL n a g m) (plB n a g m)) :=
  (iGoodPlaces_any n a g m w).mono fun _ _ h => h.of
end Go.Proofs.Ytbfdpjnkpclcbaa
