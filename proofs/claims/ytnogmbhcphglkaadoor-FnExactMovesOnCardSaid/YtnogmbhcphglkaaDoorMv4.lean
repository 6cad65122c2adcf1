/- Which moves can be made on a ladder, and what they make of it. -/
import Derived.Test.YtnogmbhcphglkaaDoorMv2
import Derived.Test.YtnogmbhcphglkaaDoorC1m
namespace Go.Proofs.YtnogmbhcphglkaaDoor
open Go Go.RowKit

theorem lad_small {W : Int} {zs : List Int} (h : lad W zs = true) : Small zs := fun j hj => by
  have h1 := lad_at h hj
  have h2 := (lad_iff.1 h).1
  omega
theorem lad_sub {W : Int} {zs ys : List Int} (h : lad W zs = true) (hl : ys.length ≤ zs.length) (hs : ∀ x ∈ ys, x ∈ zs) : lad W ys = true := by
  have h1 := lad_iff.1 h
  refine lad_iff.2 ⟨h1.1, by omega, ?_⟩
  have h2 := h1.2.2
  unfold allIn at h2 ⊢
  rw [List.all_eq_true] at h2 ⊢
  exact fun x hx => h2 x (hs x hx)
theorem mem_gi' {zs : List Int} {x : Int} : x ∈ zs ↔ ∃ j, j < zs.length ∧ gi zs j = x := by
  constructor
  · intro h
    obtain ⟨j, hj, e⟩ := List.mem_iff_getElem.1 h
    exact ⟨j, hj, by rw [gi_lt hj]; exact e⟩
  · rintro ⟨j, hj, rfl⟩
    rw [gi_lt hj]; exact List.getElem_mem hj
theorem gi_mem {zs : List Int} {j : Nat} (h : j < zs.length) : gi zs j ∈ zs := mem_gi'.2 ⟨j, h, rfl⟩
theorem sldOk_le {zs : List Int} {a : Int} (h : sldOk zs a = true) : a.toNat + 2 ≤ zs.length := by
  rcases hq : decide (0 ≤ a ∧ a + 2 ≤ zs.length) with _ | _
  · unfold sldOk at h; rw [hq] at h; cases h
  · have := of_decide_eq_true hq
    omega
def sldB (W : Int) (zs : List Int) (a : Int) : Bool := lad W zs && sldOk zs a
theorem flpOk_le {zs : List Int} {a : Int} (h : flpOk zs a = true) : a.toNat + 3 ≤ zs.length := by
  rcases hq : decide (0 ≤ a ∧ a + 3 ≤ zs.length) with _ | _
  · unfold flpOk at h; rw [hq] at h; cases h
  · have := of_decide_eq_true hq
    omega
def flpB (W : Int) (zs : List Int) (a : Int) : Bool := lad W zs && flpOk zs a
theorem drpOk_le {zs : List Int} {a : Int} (h : drpOk zs a = true) : a.toNat + 2 ≤ zs.length := by
  rcases hq : decide (0 ≤ a ∧ a + 2 ≤ zs.length) with _ | _
  · unfold drpOk at h; rw [hq] at h; cases h
  · have := of_decide_eq_true hq
    omega
def drpB (W : Int) (zs : List Int) (a : Int) : Bool := lad W zs && drpOk zs a
theorem lad_sld {W : Int} {zs : List Int} {k : Nat} (h : lad W zs = true) (hk : k + 2 ≤ zs.length) : lad W (sldL zs k) = true := by
  refine lad_sub h (by rw [sldL_len]; exact Nat.le_refl _) fun x hx => ?_
  rw [sldL_cat hk] at hx
  simp only [List.mem_append, List.mem_cons, List.not_mem_nil, or_false] at hx
  rcases hx with (hx | rfl | rfl) | hx
  · exact List.mem_of_mem_take hx
  · exact gi_mem (by omega)
  · exact gi_mem (by omega)
  · exact List.mem_of_mem_drop hx
theorem lad_flp {W : Int} {zs : List Int} {k : Nat} (h : lad W zs = true) (hk : k + 3 ≤ zs.length) : lad W (flpL zs k) = true := by
  refine lad_sub h (by rw [flpL_len]; exact Nat.le_refl _) fun x hx => ?_
  rw [flpL_cat hk] at hx
  simp only [List.mem_append, List.mem_cons, List.not_mem_nil, or_false] at hx
  rcases hx with (hx | rfl | rfl | rfl) | hx
  · exact List.mem_of_mem_take hx
  · exact gi_mem (by omega)
  · exact gi_mem (by omega)
  · exact gi_mem (by omega)
  · exact List.mem_of_mem_drop hx
theorem lad_drp {W : Int} {zs : List Int} {k : Nat} (h : lad W zs = true) (_hk : k + 2 ≤ zs.length) : lad W (drpL zs k) = true := by
  refine lad_sub h (by simp [drpL]; omega) fun x hx => ?_
  simp only [drpL, List.mem_append] at hx
  rcases hx with hx | hx
  · exact List.mem_of_mem_take hx
  · exact List.mem_of_mem_drop hx
theorem sldM_len (W : Int) (zs : List Int) (a : Int) : (ifL (sldB W zs a) (sldL zs a.toNat)).length ≤ 1000 := by
  rcases h : sldB W zs a with _ | _
  · rw [ifL_no]; simp
  · rw [ifL_yes]
    unfold sldB at h
    rw [Bool.and_eq_true] at h
    have := (lad_iff.1 (lad_sld h.1 (sldOk_le h.2))).2.1
    omega
theorem flpM_len (W : Int) (zs : List Int) (a : Int) : (ifL (flpB W zs a) (flpL zs a.toNat)).length ≤ 1000 := by
  rcases h : flpB W zs a with _ | _
  · rw [ifL_no]; simp
  · rw [ifL_yes]
    unfold flpB at h
    rw [Bool.and_eq_true] at h
    have := (lad_iff.1 (lad_flp h.1 (flpOk_le h.2))).2.1
    omega
theorem drpM_len (W : Int) (zs : List Int) (a : Int) : (ifL (drpB W zs a) (drpL zs a.toNat)).length ≤ 1000 := by
  rcases h : drpB W zs a with _ | _
  · rw [ifL_no]; simp
  · rw [ifL_yes]
    unfold drpB at h
    rw [Bool.and_eq_true] at h
    have := (lad_iff.1 (lad_drp h.1 (drpOk_le h.2))).2.1
    omega
end Go.Proofs.YtnogmbhcphglkaaDoor
