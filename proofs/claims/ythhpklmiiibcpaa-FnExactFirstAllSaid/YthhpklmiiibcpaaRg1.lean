/- Rows of numbers that weigh what ladders do, led on from place to place. -/
import Derived.Test.YthhpklmiiibcpaaCe4
namespace Go.Proofs.Ythhpklmiiibcpaa
open Go Go.RowKit

/-- a row of N numbers that weighs what the ladders of j rungs do; ov leads on, m places -/
structure RepG (ov : Int → Int → Int) (N m j : Nat) (s : Int) (Z : List Int) : Prop where
  len : Z.length = N
  pos : ∀ v, v < N → 0 ≤ gi Z v
  wgt : ∀ f, dot f Z = ups ov m j f s
theorem RepG.start (ov : Int → Int → Int) (m : Nat) {N s : Nat} (hs : s < N) : RepG ov N m 0 (s : Int) ((List.replicate N (0 : Int)).set s 1) := by
  have h := Rep.start hs
  exact ⟨h.len, h.pos, fun f => h.wgt f⟩
/-- while the next row is made: below i all is done, and r rungs of i -/
structure MakG (ov : Int → Int → Int) (N m : Nat) (Z : List Int) (i r : Nat) (Y : List Int) : Prop where
  len : Y.length = N
  pos : ∀ v, v < N → 0 ≤ gi Y v
  wgt : ∀ f, dot f Y = ((List.range i).map fun (x : Nat) => up ov m f (x : Int) * (gi Z x).toNat).sum + up ov r f (i : Int) * (gi Z i).toNat
section
variable {ov : Int → Int → Int} {N m i r j : Nat} {s : Int} {Z Y : List Int}
theorem MakG.start (ov : Int → Int → Int) (N m : Nat) (Z : List Int) : MakG ov N m Z 0 0 (List.replicate N 0) :=
  ⟨by simp, fun v _ => by rw [zeros_gi]; omega, fun f => by rw [dot_zeros, up_zero]; simp⟩
theorem MakG.next (h : MakG ov N m Z i m Y) : MakG ov N m Z (i + 1) 0 Y :=
  ⟨h.len, h.pos, fun f => by rw [h.wgt f, up_zero, List.range_succ, List.map_append, List.sum_append]; simp⟩
theorem MakG.step (h : MakG ov N m Z i r Y) {v : Nat} (hv : v < N) (he : ov (i : Int) (r : Int) = (v : Int)) {c : Nat} (hc : gi Z i = (c : Int)) : MakG ov N m Z i (r + 1) (Y.set v (gi Y v + (c : Int))) := by
  have hl : v < Y.length := by rw [h.len]; exact hv
  refine ⟨by rw [List.length_set]; exact h.len, fun x hx => ?_, fun f => ?_⟩
  · rw [gi_set _ _ _ _ hl]
    have h1 := h.pos v hv
    have h2 := h.pos x hx
    split <;> omega
  · rw [dot_set f hl (h.pos v hv), h.wgt f, up_succ, he, hc, Int.toNat_natCast, Nat.add_mul]
    omega
theorem MakG.done (hZ : RepG ov N m j s Z) (h : MakG ov N m Z N 0 Y) : RepG ov N m (j + 1) s Y :=
  ⟨h.len, h.pos, fun f => by
    have e : ups ov m (j + 1) f s = ups ov m j (up ov m f) s := rfl
    rw [h.wgt f, up_zero, Nat.zero_mul, Nat.add_zero, e, ← hZ.wgt]
    unfold dot
    rw [hZ.len]⟩
theorem MakG.small (hZ : RepG ov N m j s Z) (h : MakG ov N m Z i r Y) (hi : i < N) (hr : r ≤ m) (hm : m ≤ 5) (hj : j < 20) {v : Nat} (hv : v < N) : 0 ≤ gi Y v ∧ gi Y v ≤ 95367431640625 := by
  have h0 := h.pos v hv
  have h1 := dot_at oneI (Z := Y) (v := v) (by rw [h.len]; exact hv)
  have h2 := h.wgt oneI
  have e1 : ∀ (q : Nat) (x : Int), up ov q oneI x = q := fun q x => by
    show up ov q (fun _ => 1) x = q
    rw [up_const]; simp
  simp only [e1] at h2
  have h3 : dot oneI Z = m ^ j := by
    rw [hZ.wgt oneI]
    show ups ov m j (fun _ => 1) s = _
    rw [ups_const]; simp
  have h4 : ((List.range i).map fun (x : Nat) => m * (gi Z x).toNat).sum + r * (gi Z i).toNat ≤ m * dot oneI Z := by
    rw [ssum_mul]
    have h5 : ((List.range i).map fun (x : Nat) => (gi Z x).toNat).sum + (gi Z i).toNat ≤ dot oneI Z := by
      unfold dot
      rw [hZ.len]
      have h6 : ((List.range (i + 1)).map fun (x : Nat) => (gi Z x).toNat).sum ≤ ((List.range N).map fun (x : Nat) => (gi Z x).toNat).sum := by
        obtain ⟨d, rfl⟩ : ∃ d, N = i + 1 + d := ⟨N - (i + 1), by omega⟩
        rw [show List.range (i + 1 + d) = List.range (i + 1) ++ (List.range d).map (fun x => i + 1 + x) from List.range_add, List.map_append, List.sum_append]
        omega
      rw [List.range_succ, List.map_append, List.sum_append] at h6
      have h7 : (fun (v : Nat) => oneI (v : Int) * (gi Z v).toNat) = fun (x : Nat) => (gi Z x).toNat := by funext x; exact Nat.one_mul _
      rw [h7]
      simpa using h6
    have h8 : r * (gi Z i).toNat ≤ m * (gi Z i).toNat := Nat.mul_le_mul_right _ hr
    have h9 := Nat.mul_le_mul_left m h5
    rw [Nat.mul_add] at h9
    omega
  rw [h3, show m * m ^ j = m ^ (j + 1) from (Nat.pow_succ' ..).symm] at h4
  have h10 := pow5 (m := m) (j := j + 1) hm (by omega)
  have h11 : oneI (v : Int) * (gi Y v).toNat = (gi Y v).toNat := Nat.one_mul _
  rw [h11] at h1
  omega
end


end Go.Proofs.Ythhpklmiiibcpaa
