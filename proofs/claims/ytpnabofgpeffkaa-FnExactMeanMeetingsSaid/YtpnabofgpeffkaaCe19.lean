/- Two wires at once: how the model counts where two come out, and how often they have met. -/
import Derived.Test.YtpnabofgpeffkaaCe4
import Derived.Test.YtpnabofgpeffkaaCe18
namespace Go.Proofs.Ytpnabofgpeffkaa
open Go Go.RowKit

/-- a row of N numbers that weighs what the ladders of j rungs do; ov leads on, m places -/
structure RepG (ov : Int → Int → Int) (N m j : Nat) (s : Int) (Z : List Int) : Prop where
  len : Z.length = N
  pos : ∀ v, v < N → 0 ≤ gi Z v
  wgt : ∀ f, dot f Z = ups ov m j f s
theorem RepG.start (ov : Int → Int → Int) (m : Nat) {N s : Nat} (hs : s < N) : RepG ov N m 0 (s : Int) ((List.replicate N (0 : Int)).set s 1) := by
  have h := Rep.start hs
  exact ⟨h.len, h.pos, fun f => h.wgt f⟩
/-- while the next row is made: below i all is done, and r rungs of i -/
structure MakG (ov : Int → Int → Int) (N m : Nat) (Z : List Int) (i r : Nat) (Y : List Int) : Prop where
  len : Y.length = N
  pos : ∀ v, v < N → 0 ≤ gi Y v
  wgt : ∀ f, dot f Y = ((List.range i).map fun (x : Nat) => up ov m f (x : Int) * (gi Z x).toNat).sum + up ov r f (i : Int) * (gi Z i).toNat
section
variable {ov : Int → Int → Int} {N m i r j : Nat} {s : Int} {Z Y : List Int}
theorem MakG.start (ov : Int → Int → Int) (N m : Nat) (Z : List Int) : MakG ov N m Z 0 0 (List.replicate N 0) :=
  ⟨by simp, fun v _ => by rw [zeros_gi]; omega, fun f => by rw [dot_zeros, up_zero]; simp⟩
theorem MakG.next (h : MakG ov N m Z i m Y) : MakG ov N m Z (i + 1) 0 Y :=
  ⟨h.len, h.pos, fun f => by rw [h.wgt f, up_zero, List.range_succ, List.map_append, List.sum_append]; simp⟩
theorem MakG.step (h : MakG ov N m Z i r Y) {v : Nat} (hv : v < N) (he : ov (i : Int) (r : Int) = (v : Int)) {c : Nat} (hc : gi Z i = (c : Int)) : MakG ov N m Z i (r + 1) (Y.set v (gi Y v + (c : Int))) := by
  have hl : v < Y.length := by rw [h.len]; exact hv
  refine ⟨by rw [List.length_set]; exact h.len, fun x hx => ?_, fun f => ?_⟩
  · rw [gi_set _ _ _ _ hl]
    have h1 := h.pos v hv
    have h2 := h.pos x hx
    split <;> omega
  · rw [dot_set f hl (h.pos v hv), h.wgt f, up_succ, he, hc, Int.toNat_natCast, Nat.add_mul]
    omega
theorem MakG.done (hZ : RepG ov N m j s Z) (h : MakG ov N m Z N 0 Y) : RepG ov N m (j + 1) s Y :=
  ⟨h.len, h.pos, fun f => by
    have e : ups ov m (j + 1) f s = ups ov m j (up ov m f) s := rfl
    rw [h.wgt f, up_zero, Nat.zero_mul, Nat.add_zero, e, ← hZ.wgt]
    unfold dot
    rw [hZ.len]⟩
theorem MakG.small (hZ : RepG ov N m j s Z) (h : MakG ov N m Z i r Y) (hi : i < N) (hr : r ≤ m) (hm : m ≤ 5) (hj : j < 20) {v : Nat} (hv : v < N) : 0 ≤ gi Y v ∧ gi Y v ≤ 95367431640625 := by
  have h0 := h.pos v hv
  have h1 := dot_at oneI (Z := Y) (v := v) (by rw [h.len]; exact hv)
  have h2 := h.wgt oneI
  have e1 : ∀ (q : Nat) (x : Int), up ov q oneI x = q := fun q x => by
    show up ov q (fun _ => 1) x = q
    rw [up_const]; simp
  simp only [e1] at h2
  have h3 : dot oneI Z = m ^ j := by
    rw [hZ.wgt oneI]
    show ups ov m j (fun _ => 1) s = _
    rw [ups_const]; simp
  have h4 : ((List.range i).map fun (x : Nat) => m * (gi Z x).toNat).sum + r * (gi Z i).toNat ≤ m * dot oneI Z := by
    rw [ssum_mul]
    have h5 : ((List.range i).map fun (x : Nat) => (gi Z x).toNat).sum + (gi Z i).toNat ≤ dot oneI Z := by
      unfold dot
      rw [hZ.len]
      have h6 : ((List.range (i + 1)).map fun (x : Nat) => (gi Z x).toNat).sum ≤ ((List.range N).map fun (x : Nat) => (gi Z x).toNat).sum := by
        obtain ⟨d, rfl⟩ : ∃ d, N = i + 1 + d := ⟨N - (i + 1), by omega⟩
        rw [show List.range (i + 1 + d) = List.range (i + 1) ++ (List.range d).map (fun x => i + 1 + x) from List.range_add, List.map_append, List.sum_append]
        omega
      rw [List.range_succ, List.map_append, List.sum_append] at h6
      have h7 : (fun (v : Nat) => oneI (v : Int) * (gi Z v).toNat) = fun (x : Nat) => (gi Z x).toNat := by funext x; exact Nat.one_mul _
      rw [h7]
      simpa using h6
    have h8 : r * (gi Z i).toNat ≤ m * (gi Z i).toNat := Nat.mul_le_mul_right _ hr
    have h9 := Nat.mul_le_mul_left m h5
    rw [Nat.mul_add] at h9
    omega
  rw [h3, show m * m ^ j = m ^ (j + 1) from (Nat.pow_succ' ..).symm] at h4
  have h10 := pow5 (m := m) (j := j + 1) hm (by omega)
  have h11 : oneI (v : Int) * (gi Y v).toNat = (gi Y v).toNat := Nat.one_mul _
  rw [h11] at h1
  omega
end

/-- two wires as one number, led over a rung -/
def ovI (n : Nat) (i r : Int) : Int := ovW (i / (n : Int)) r * (n : Int) + ovW (i % (n : Int)) r
/-- do they meet there? -/
def meI (n : Nat) (i r : Int) : Prop := ovW (i / (n : Int)) r = i % (n : Int) ∧ ovW (i % (n : Int)) r = i / (n : Int)
instance (n : Nat) (i r : Int) : Decidable (meI n i r) := by unfold meI; exact inferInstance
def mtI (n m : Nat) (i : Int) : Nat := ((List.range m).map fun (r : Nat) => if meI n i (r : Int) then 1 else 0).sum
theorem mtI_succ (n m : Nat) (i : Int) : mtI n (m + 1) i = mtI n m i + (if meI n i (m : Int) then 1 else 0) := by
  unfold mtI; rw [List.range_succ, List.map_append, List.sum_append]; simp
theorem endsL_two_inj {a b c d : Int} (h : endsL [a, b] = endsL [c, d]) : a = c ∧ b = d := by
  have h0 : gi (endsL [a, b]) 0 = gi (endsL [c, d]) 0 := by rw [h]
  have h1 : gi (endsL [a, b]) 1 = gi (endsL [c, d]) 1 := by rw [h]
  rw [gi_endsL (by omega), gi_endsL (by omega)] at h0 h1
  exact ⟨h0, h1⟩
/-- the ends of these two -/
def phI (n : Nat) (i : Int) : List Int := endsL [i / (n : Int), i % (n : Int)]
theorem ovI_parts {n : Nat} {x y : Int} (hy : 0 ≤ y ∧ y < n) : (x * (n : Int) + y) / (n : Int) = x ∧ (x * (n : Int) + y) % (n : Int) = y := by
  have hn : (0 : Int) < (n : Int) := by omega
  constructor
  · rw [Int.add_comm, Int.add_mul_ediv_right _ _ (by omega), Int.ediv_eq_zero_of_lt hy.1 hy.2, Int.zero_add]
  · rw [Int.add_comm, Int.add_mul_emod_self_right, Int.emod_eq_of_lt hy.1 hy.2]
/-- numbers of two wires -/
def InP (n : Nat) (i : Int) : Prop := 0 ≤ i ∧ i < (n : Int) * (n : Int)
theorem InP.parts {n : Nat} {i : Int} (h : InP n i) (hn : 0 < n) : (0 ≤ i / (n : Int) ∧ i / (n : Int) < n) ∧ (0 ≤ i % (n : Int) ∧ i % (n : Int) < n) := by
  have hn' : (0 : Int) < (n : Int) := by omega
  exact ⟨⟨Int.ediv_nonneg h.1 (by omega), Int.ediv_lt_of_lt_mul hn' h.2⟩, Int.emod_nonneg _ (by omega), Int.emod_lt_of_pos _ hn'⟩
theorem InP.join {n : Nat} {x y : Int} (hx : 0 ≤ x ∧ x < n) (hy : 0 ≤ y ∧ y < n) : InP n (x * (n : Int) + y) := by
  have h1 : 0 ≤ x * (n : Int) := Int.mul_nonneg hx.1 (by omega)
  have h2 : x * (n : Int) ≤ ((n : Int) - 1) * (n : Int) := Int.mul_le_mul_of_nonneg_right (by omega) (by omega)
  rw [Int.sub_mul, Int.one_mul] at h2
  exact ⟨by omega, by omega⟩
theorem InP.over {n : Nat} {i : Int} {r : Nat} (h : InP n i) (hr : r + 1 < n) : InP n (ovI n i (r : Int)) := by
  obtain ⟨h1, h2⟩ := h.parts (by omega)
  exact InP.join (ovW_in0 h1 hr) (ovW_in0 h2 hr)
theorem phI_over {n : Nat} {i : Int} {r : Nat} (h : InP n i) (hr : r + 1 < n) : ovE (phI n i) (r : Int) = phI n (ovI n i (r : Int)) := by
  obtain ⟨h1, h2⟩ := h.parts (by omega)
  obtain ⟨e1, e2⟩ := ovI_parts (n := n) (x := ovW (i / (n : Int)) (r : Int)) (ovW_in0 h2 hr)
  unfold phI
  rw [ovE_endsL]
  unfold ovI
  rw [e1, e2]
  rfl
theorem phI_mt {n m : Nat} {i : Int} : mtK m (phI n i) = mtI n m i := by
  unfold mtK mtI
  refine ssum_congr fun r _ => ?_
  have e : (ovE (phI n i) (r : Int) = exE (phI n i)) ↔ meI n i (r : Int) := by
    unfold phI meI
    rw [ovE_endsL, exE_ends]
    constructor
    · intro h
      exact endsL_two_inj h
    · rintro ⟨h1, h2⟩
      simp only [List.map_cons, List.map_nil]
      rw [h1, h2]
  by_cases h : meI n i (r : Int)
  · rw [if_pos h, if_pos (e.2 h)]
  · rw [if_neg h, if_neg (fun h2 => h (e.1 h2))]
theorem thro2 {n : Nat} (f : List Int → Nat) (K : Nat) {i : Int} (hi : InP n i) : ups ovE (n - 1) K f (phI n i) = ups (ovI n) (n - 1) K (fun x => f (phI n x)) i :=
  ups_through (S := InP n) (φ := phI n) (fun b r hb hr => ⟨hb.over (by omega), phI_over hb (by omega)⟩) f K i hi
/-- all meetings, by these numbers -/
theorem mtS_next {n j : Nat} {i : Int} (hi : InP n i) : mtS (n - 1) (phI n i) (j + 1) = mtS (n - 1) (phI n i) j * (n - 1) + ups (ovI n) (n - 1) j (mtI n (n - 1)) i := by
  show mtS (n - 1) (phI n i) j * (n - 1) + ups ovE (n - 1) j (mtK (n - 1)) (phI n i) = _
  rw [thro2 _ _ hi]
  congr 1
  congr 1
  funext x
  exact phI_mt

/-- the row of meetings while it is made: how much all of it is -/
structure MsG (n N m : Nat) (C M : List Int) (i r : Nat) (Y : List Int) : Prop where
  len : Y.length = N
  pos : ∀ v, v < N → 0 ≤ gi Y v
  tot : dot oneI Y = ((List.range i).map fun (x : Nat) => m * (gi M x).toNat + mtI n m (x : Int) * (gi C x).toNat).sum + (r * (gi M i).toNat + mtI n r (i : Int) * (gi C i).toNat)
section
variable {n N m i r : Nat} {C M Y : List Int}
theorem dotOne_set {Z : List Int} {v c : Nat} (hv : v < Z.length) (h0 : 0 ≤ gi Z v) : dot oneI (Z.set v (gi Z v + (c : Int))) = dot oneI Z + c := by
  rw [dot_set oneI hv h0]
  show _ + 1 * c = _
  omega
theorem MsG.start (n N m : Nat) (C M : List Int) : MsG n N m C M 0 0 (List.replicate N 0) :=
  ⟨by simp, fun v _ => by rw [zeros_gi]; omega, by rw [dot_zeros]; simp [mtI]⟩
theorem MsG.next (h : MsG n N m C M i m Y) : MsG n N m C M (i + 1) 0 Y :=
  ⟨h.len, h.pos, by rw [h.tot, List.range_succ, List.map_append, List.sum_append]; simp [mtI]⟩
/-- what has been added for this rung: the meetings so far, and, if they meet, the ladders -/
theorem MsG.step (h : MsG n N m C M i r Y) {v : Nat} (hv : v < N) {c p : Nat} (hc : gi C i = (c : Int)) (hp : gi M i = (p : Int)) (Y' : List Int) (q : Nat)
    (hq : q = p + (if meI n (i : Int) (r : Int) then 1 else 0) * c) (hY : Y' = Y.set v (gi Y v + (q : Int))) : MsG n N m C M i (r + 1) Y' := by
  have hl : v < Y.length := by rw [h.len]; exact hv
  subst hY
  refine ⟨by rw [List.length_set]; exact h.len, fun x hx => ?_, ?_⟩
  · rw [gi_set _ _ _ _ hl]
    have h1 := h.pos v hv
    have h2 := h.pos x hx
    split <;> omega
  · rw [dotOne_set hl (h.pos v hv), h.tot, mtI_succ, hc, hp, Int.toNat_natCast, Int.toNat_natCast, hq, Nat.add_mul, Nat.add_mul]
    omega
theorem MsG.done (h : MsG n N m C M N 0 Y) (hC : C.length = N) (hM : M.length = N) : dot oneI Y = m * dot oneI M + dot (mtI n m) C := by
  have e : (0 : Nat) * (gi M N).toNat + mtI n 0 (N : Int) * (gi C N).toNat = 0 := by
    show 0 * _ + 0 * _ = 0
    omega
  rw [h.tot, e, Nat.add_zero, ssum_add, ssum_mul]
  unfold dot
  rw [hM, hC]
  congr 2
  exact ssum_congr fun x _ => (Nat.one_mul _).symm
theorem sum_range_le (f : Nat → Nat) {i N : Nat} (h : i < N) : ((List.range i).map f).sum + f i ≤ ((List.range N).map f).sum := by
  obtain ⟨d, rfl⟩ : ∃ d, N = i + 1 + d := ⟨N - (i + 1), by omega⟩
  rw [show List.range (i + 1 + d) = List.range (i + 1) ++ (List.range d).map (fun x => i + 1 + x) from List.range_add, List.map_append, List.sum_append, List.range_succ, List.map_append, List.sum_append]
  simp
theorem mtI_mono (n : Nat) (i : Int) {q m : Nat} (h : q ≤ m) : mtI n q i ≤ mtI n m i := by
  induction h with
  | refl => exact Nat.le_refl _
  | step _ ih => exact Nat.le_trans ih (by rw [mtI_succ]; omega)
theorem MsG.small (h : MsG n N m C M i r Y) (hC : C.length = N) (hM : M.length = N) (hi : i < N) (hr : r ≤ m) {v : Nat} (hv : v < N) : 0 ≤ gi Y v ∧ (gi Y v).toNat ≤ m * dot oneI M + dot (mtI n m) C := by
  refine ⟨h.pos v hv, ?_⟩
  have h1 := dot_at oneI (Z := Y) (v := v) (by rw [h.len]; exact hv)
  have e1 : oneI (v : Int) * (gi Y v).toNat = (gi Y v).toNat := Nat.one_mul _
  rw [e1, h.tot] at h1
  have h2 := sum_range_le (fun x => m * (gi M x).toNat + mtI n m (x : Int) * (gi C x).toNat) hi
  have h3 : r * (gi M i).toNat ≤ m * (gi M i).toNat := Nat.mul_le_mul_right _ hr
  have h4 : mtI n r (i : Int) * (gi C i).toNat ≤ mtI n m (i : Int) * (gi C i).toNat := Nat.mul_le_mul_right _ (mtI_mono n _ hr)
  have h5 : ((List.range N).map fun (x : Nat) => m * (gi M x).toNat + mtI n m (x : Int) * (gi C x).toNat).sum = m * dot oneI M + dot (mtI n m) C := by
    rw [ssum_add, ssum_mul]
    unfold dot
    rw [hM, hC]
    congr 2
    exact ssum_congr fun x _ => (Nat.one_mul _).symm
  omega
end
end Go.Proofs.Ytpnabofgpeffkaa
