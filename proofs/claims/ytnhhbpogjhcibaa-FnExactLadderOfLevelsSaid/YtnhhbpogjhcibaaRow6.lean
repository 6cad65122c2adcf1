/- An argument of a law that is a slice of lists of numbers. -/
import Derived.Test.YtnhhbpogjhcibaaMgN
import Derived.Test.YtnhhbpogjhcibaaMgF
import Derived.Deep.Matrix
namespace Go.Proofs.Ytnhhbpogjhcibaa
open Go Go.ChangeShapes Go.WideShapes Go.ChangeAt Go.RowKit Go.Deep

variable {H : Type} {enc : TypeId × Value → H}
set_option maxRecDepth 100000 in
/-- an argument that is a slice of lists of numbers -/
theorem openIntSS {W : World} {r : Reach} {b0 : Nat} {v : Value} {d : DataW H} {p : List MemPlace} (hv : Value.okWide Try.prog W r b0 30 v)
    (h : DataW.Trod enc Try.prog W 0 (fun _ => true) true 30 v d p) :
    ∃ (A : Option Addr) (n c : Nat) (zss : List (List Int)), v = .slice A n c ∧ RBB W W.heap.size A n zss ∧ n ≤ 9223372036854775807 ∧ ∀ j, (gz zss j).length ≤ 9223372036854775807 := by
  obtain ⟨a0, len0, cap0, rfl⟩ := okWide_slice Try.underlying30 hv
  obtain ⟨fuel, hf⟩ := h
  rcases open_int_rows Try.underlying30 Try.underlying22 Try.underlying3 (by kernel_rfl) (by kernel_rfl) hf with ⟨hcs, _⟩ | ⟨a, len, cap, A, L, C, Z, hcs, _, hl, hm, _, hrow⟩
  · have e : Value.slice a0 len0 cap0 = .slice none 0 0 := by simpa [Value.cells] using hcs
    rw [e]
    exact ⟨none, 0, 0, [], rfl, ⟨rfl, Nat.le_refl _, fun h => absurd h (by omega)⟩, by omega, fun j => by simp [gz]⟩
  · have e : Value.slice a0 len0 cap0 = .slice (some a) len cap := by simpa [Value.cells] using hcs
    rw [e]
    unfold maxLen at hm
    have hgz : ∀ j, j < len → gz ((List.range len).map fun r => (Z r).take (L r)) j = (Z j).take (L j) := fun j hj => by simp [gz, List.getD, hj]
    have hL : ∀ j, L j ≤ C j → (Z j).length = C j → ((Z j).take (L j)).length = L j := fun j h1 h2 => by rw [List.length_take]; omega
    refine ⟨some a, len, cap, (List.range len).map fun r => (Z r).take (L r), rfl, ⟨by simp, Nat.le_refl _, fun hn => ?_⟩, by omega, fun j => ?_⟩
    · obtain ⟨b, off, spot⟩ := a
      have hspot : spot = none := by simpa [Addr.add] using World.cell?_spot (hrow 0 (by omega)).1
      subst hspot
      refine ⟨b, off, rfl, ?_, fun j hj => ?_⟩
      · have h0 := (hrow 0 (by omega)).1
        rw [Go.WideShapes.add_plain] at h0
        exact World.block_lt_of_cell? W _ h0
      · obtain ⟨h1, h2, h3, h4, _, h6, h7⟩ := hrow j (by omega)
        rw [Go.WideShapes.add_plain] at h1
        refine ⟨A j, L j, C j, h1, ?_⟩
        rw [hgz j hj]
        refine ⟨hL j h2 h4, Nat.le_refl _, fun hp => ?_⟩
        rcases hA : A j with _ | a'
        · have := h6 hA; omega
        · obtain ⟨b', off', spot'⟩ := a'
          have hc := (h7 _ hA).2
          have hspot' : spot' = none := by simpa [Addr.add] using World.cell?_spot (hc 0 (by omega))
          subst hspot'
          have hc' : ∀ i, i < C j → W.cell? ⟨b', off' + i, none⟩ = some (.int .i64 ((Z j).getD i 0)) := fun i hi => by rw [← Go.WideShapes.add_plain]; exact hc i hi
          refine ⟨b', off', rfl, World.block_lt_of_cell? W _ (hc' 0 (by omega)), fun i hi => ?_⟩
          rw [hc' i (by omega)]
          simp [gi, List.getD, hi]
    · by_cases hj : j < len
      · obtain ⟨_, h2, h3, h4, _⟩ := hrow j (by omega)
        rw [hgz j hj, hL j h2 h4]
        unfold maxLen at h3
        omega
      · simp [gz, List.getD, hj]
end Go.Proofs.Ytnhhbpogjhcibaa
