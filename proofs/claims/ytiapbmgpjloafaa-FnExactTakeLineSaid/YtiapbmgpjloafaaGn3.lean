/- The taking game, the mathematics: the first best one of some choices; the rung that the model takes. -/
import Derived.Test.YtiapbmgpjloafaaGt2
namespace Go.Proofs.Ytiapbmgpjloafaa
open Go Go.RowKit

theorem bet_irr (o : OutP) : betB o o = false := by
  obtain ⟨a, m⟩ := o
  unfold betB
  cases a <;> simp
theorem bet_trans {o b p : OutP} (h1 : betB o b = false) (h2 : betB p b = true) : betB o p = false := by
  obtain ⟨a1, m1⟩ := o
  obtain ⟨a2, m2⟩ := b
  obtain ⟨a3, m3⟩ := p
  unfold betB at *
  cases a1 <;> cases a2 <;> cases a3 <;> simp at * <;> omega
/-- the first best one, and no one before it is as good -/
theorem bx_first {f : Nat → OutP} {w0 : Bool} : ∀ m, 0 < m → f (bxG f m) = bstK f w0 m ∧ (∀ j, j < bxG f m → f j ≠ bstK f w0 m) ∧ ∀ j, j < m → betB (f j) (bstK f w0 m) = false
  | 0, h => absurd h (by decide)
  | 1, _ => by
    have e1 : bxG f 1 = 0 := by have := bxG_lt f 1 (by decide); omega
    rw [e1, bstK_one]
    refine ⟨rfl, fun j hj => absurd hj (by omega), fun j hj => ?_⟩
    have : j = 0 := by omega
    subst this
    exact bet_irr _
  | m + 2, _ => by
    obtain ⟨h1, h2, h3⟩ := bx_first (f := f) (w0 := w0) (m + 1) (by omega)
    by_cases hb : betB (f (m + 1)) (bstK f w0 (m + 1)) = true
    · rw [bstK_yes hb, bxG_yes (by rw [h1]; exact hb)]
      refine ⟨rfl, fun j hj e => ?_, fun j hj => ?_⟩
      · have := h3 j hj
        rw [e, hb] at this
        cases this
      · rcases Nat.lt_or_ge j (m + 1) with hj2 | hj2
        · exact bet_trans (h3 j hj2) hb
        · have : j = m + 1 := by omega
          subst this
          exact bet_irr _
    · have hb : betB (f (m + 1)) (bstK f w0 (m + 1)) = false := by simpa using hb
      rw [bstK_no (by omega) hb, bxG_no (by rw [h1]; exact hb)]
      refine ⟨h1, h2, fun j hj => ?_⟩
      rcases Nat.lt_or_ge j (m + 1) with hj2 | hj2
      · exact h3 j hj2
      · have : j = m + 1 := by omega
        subst this
        exact hb
theorem indK_rise {S : Nat} : ∀ n, (indK S n).Pairwise (· < ·)
  | 0 => List.Pairwise.nil
  | n + 1 => by
    rcases h : S.testBit n with _ | _
    · rw [indK_no h]; exact indK_rise n
    · rw [indK_yes h]
      refine List.pairwise_append.2 ⟨indK_rise n, List.pairwise_singleton _ _, fun x hx y hy => ?_⟩
      obtain ⟨i, h1, _, h3⟩ := indK_mem.1 hx
      simp only [List.mem_singleton] at hy
      omega
theorem indK_lt {S n i j : Nat} (hij : i < j) (hj : j < (indK S n).length) : gi (indK S n) i < gi (indK S n) j := by
  rw [gi_lt (by omega), gi_lt hj]
  exact List.pairwise_iff_getElem.1 (indK_rise n) i j (by omega) hj hij
section
variable {zs : List Int} {N : Nat}
theorem chL_ind {S : Nat} (h : homeQ zs N S = false) : chL zs N S = indK S zs.length := by unfold chL; rw [h]; rfl
theorem chL_ne {S : Nat} (h : homeQ zs N S = false) : chL zs N S ≠ [] := by
  intro e
  have := ovS_pos h
  rw [ovS_eq, e] at this
  simp [bstK] at this
theorem chL_home {S : Nat} (h : homeQ zs N S = true) : chL zs N S = [] := by unfold chL; rw [if_pos h]
/-- the rung that the model takes is the one with which the program's line goes on -/
theorem best_bx {S k : Nat} (h : homeQ zs N S = false) (hk : k < zs.length) (hb : S.testBit k = true) (he : behP (ovS zs N (nxT S k)) = ovS zs N S)
    (hno : ∀ i, i < k → S.testBit i = true → behP (ovS zs N (nxT S i)) ≠ ovS zs N S) : bxT (chL zs N) nxT (ovS zs N) S = (k : Int) := by
  unfold bxT
  have hch := chL_ind h
  have hne := chL_ne h
  have hpos := List.length_pos_iff.2 hne
  obtain ⟨h1, h2, _⟩ := bx_first (f := fun j => behP (ovS zs N (nxT S (gi (chL zs N S) j).toNat))) (w0 := false) _ hpos
  rw [← ovS_eq] at h1 h2
  obtain ⟨x, hx⟩ : ∃ x, x = bxG (fun j => behP (ovS zs N (nxT S (gi (chL zs N S) j).toNat))) (chL zs N S).length := ⟨_, rfl⟩
  have hxl : x < (chL zs N S).length := by rw [hx]; exact bxG_lt _ _ hpos
  rw [← hx] at h1 h2 ⊢
  have hm : (k : Int) ∈ chL zs N S := by rw [hch]; exact indK_mem.2 ⟨k, hk, hb, rfl⟩
  obtain ⟨j, hj, hj2⟩ := List.mem_iff_getElem.1 hm
  have hjg : gi (chL zs N S) j = (k : Int) := by rw [gi_lt hj]; exact hj2
  rcases Nat.lt_trichotomy j x with hjx | hjx | hjx
  · exfalso
    refine h2 j hjx ?_
    show behP (ovS zs N (nxT S (gi (chL zs N S) j).toNat)) = _
    rw [hjg, Int.toNat_natCast]; exact he
  · rw [← hjx]; exact hjg
  · exfalso
    obtain ⟨i, hi1, hi2, hi3⟩ := chL_at hxl
    have hik : i < k := by
      have := indK_lt (S := S) (n := zs.length) hjx (by rw [← hch]; exact hj)
      rw [← hch, hi3, hjg] at this
      omega
    refine hno i hik hi2 ?_
    have h1' : behP (ovS zs N (nxT S (gi (chL zs N S) x).toNat)) = ovS zs N S := h1
    rw [hi3, Int.toNat_natCast] at h1'
    exact h1'
/-- there is one -/
theorem best_ex {S : Nat} (h : homeQ zs N S = false) : ∃ k, k < zs.length ∧ S.testBit k = true ∧ behP (ovS zs N (nxT S k)) = ovS zs N S := by
  have hne := chL_ne h
  have hpos := List.length_pos_iff.2 hne
  obtain ⟨h1, _, _⟩ := bx_first (f := fun j => behP (ovS zs N (nxT S (gi (chL zs N S) j).toNat))) (w0 := false) _ hpos
  rw [← ovS_eq] at h1
  have hxl := bxG_lt (fun j => behP (ovS zs N (nxT S (gi (chL zs N S) j).toNat))) _ hpos
  obtain ⟨i, hi1, hi2, hi3⟩ := chL_at hxl
  refine ⟨i, hi1, hi2, ?_⟩
  have h1' : behP (ovS zs N (nxT S (gi (chL zs N S) (bxG (fun j => behP (ovS zs N (nxT S (gi (chL zs N S) j).toNat))) (chL zs N S).length)).toNat)) = ovS zs N S := h1
  rw [hi3, Int.toNat_natCast] at h1'
  exact h1'
end
end Go.Proofs.Ytiapbmgpjloafaa
