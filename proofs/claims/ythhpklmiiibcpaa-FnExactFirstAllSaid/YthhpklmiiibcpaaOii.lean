/- Slices of slices: their rows; one that grows. -/
import Derived.Test.YthhpklmiiibcpaaMgF
namespace Go.Proofs.Ythhpklmiiibcpaa
open Go Go.RowKit

section
variable {w wi wj : World} {B M K : Nat} {A : Option Addr} {n c : Nat} {zss : List (List Int)} {S : List Sl}
theorem OII.row (h : OII w B M A n c zss S) {j : Nat} (hj : j < n) : ∃ g s1 s2 s3, A = some ⟨g, 0, none⟩ ∧ g < w.heap.size ∧ B ≤ g ∧ S[j]? = some (s1, s2, s3) ∧ w.cell? ⟨g, j, none⟩ = some (.slice s1 s2 s3) ∧ OI w B s1 s2 s3 (gz zss j) := by
  rcases h.form with ⟨_, _, h0⟩ | ⟨g, cur, rfl, hB, hg, hh, h1, _⟩
  · omega
  · obtain ⟨s, hS⟩ : ∃ s, S[j]? = some s := ⟨_, List.getElem?_eq_getElem (by rw [h.lS]; exact hj)⟩
    exact ⟨g, s.1, s.2.1, s.2.2, rfl, hg, hB, hS, by rw [h.own.cellAt j (by omega)]; simp [hS, sl], h.inn j s hS⟩
theorem OII.keptR {A1 : Option Addr} {m d : Nat} {zs : List Int} (h : OII wi B M A n c zss S) (h1 : OI wi K A1 m d zs) (hMK : M ≤ K) (hg : wi.grownBy wj (blk A1)) : OII wj B M A n c zss S := by
  refine ⟨h.own.kept hg ?_, h.lS, h.lz, fun j s hs => (h.inn j s hs).kept hg (fun b hb e => by have h2 := h.lt j s hs b hb; have h3 := (h1.blk b e).1; omega), h.dis, h.lt, Nat.le_trans h.le hg.size⟩
  rcases h.form with ⟨rfl, rfl, rfl⟩ | ⟨g, cur, rfl, hB, _⟩
  · exact .inl rfl
  · refine .inr ?_
    simp only [Value.ownBlock]
    intro e
    exact apart_types h h1 g e.symm rfl
end
theorem OII.lit0 (w : World) (B : Nat) (hB : B ≤ w.heap.size) : OII (w.alloc (.cells #[.slice none 0 0] 22)) B w.heap.size (some ⟨w.heap.size, 0, none⟩) 1 1 [[]] [(none, 0, 0)] := by
  refine ⟨World.ownsRow_lit _ _ _ hB (by decide) rfl, rfl, rfl, fun j s hs => ?_, fun i j s t hij hs ht => ?_, fun j s hs b hb => ?_, by simp⟩
  · rcases j with _ | j
    · simp at hs
      subst hs
      exact OI.none_ _ _
    · simp at hs
  · rcases j with _ | j
    · omega
    · simp at ht
  · rcases j with _ | j
    · simp at hs
      subst hs
      simp [blk] at hb
    · simp at hs

end Go.Proofs.Ythhpklmiiibcpaa
