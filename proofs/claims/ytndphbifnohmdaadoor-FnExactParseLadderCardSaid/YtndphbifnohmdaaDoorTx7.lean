/- Byte by byte: what stands in a ladder's text. Nothing of the program is said here. -/
import Derived.Test.YtndphbifnohmdaaDoorTx6
namespace Go.Proofs.YtndphbifnohmdaaDoor
open Go

/-- byte j of a list, as a number -/
def bt (L : List UInt8) (j : Nat) : Nat := (L.getD j 0).toNat
theorem bt_left {a b : List UInt8} {j : Nat} (h : j < a.length) : bt (a ++ b) j = bt a j := by
  unfold bt; simp [List.getD, List.getElem?_append_left h]
theorem bt_right {a b : List UInt8} {j : Nat} : bt (a ++ b) (a.length + j) = bt b j := by
  have e : (a ++ b)[a.length + j]? = b[j]? := by rw [List.getElem?_append_right (by omega), Nat.add_sub_cancel_left]
  unfold bt; simp [List.getD, e]
theorem numT_one {x : Int} (h : 0 ≤ x ∧ x < 10) : ∃ d : UInt8, numT x = [d] ∧ (d.toNat : Int) = 48 + x := by
  obtain ⟨n, rfl⟩ : ∃ n : Nat, x = (n : Int) := ⟨x.toNat, by omega⟩
  refine ⟨UInt8.ofNat (48 + n), numT_small (by omega), ?_⟩
  have : ∀ n : Fin 10, (UInt8.ofNat (48 + n.val)).toNat = 48 + n.val := by decide
  have := this ⟨n, by omega⟩
  simp only at this
  rw [this]; omega
theorem acc_at {zs : List Int} (h : Dig zs) : ∀ k, k + 1 ≤ zs.length → (accT zs (k + 1)).length = 2 * k + 1 ∧ (∀ i, i ≤ k → (bt (accT zs (k + 1)) (2 * i) : Int) = 48 + gi zs i) ∧ ∀ i, i < k → bt (accT zs (k + 1)) (2 * i + 1) = 44 := by
  intro k
  induction k with
  | zero =>
    intro hk
    obtain ⟨d, h1, h2⟩ := numT_one (h 0 (by omega))
    have e : accT zs 1 = [d] := by simp only [accT, if_true, List.append_nil, List.nil_append, h1]
    rw [e]
    refine ⟨rfl, fun i hi => ?_, fun i hi => absurd hi (by omega)⟩
    obtain rfl : i = 0 := by omega
    simpa [bt] using h2
  | succ k ih =>
    intro hk
    obtain ⟨i1, i2, i3⟩ := ih (by omega)
    obtain ⟨d, h1, h2⟩ := numT_one (h (k + 1) (by omega))
    have e : accT zs (k + 1 + 1) = accT zs (k + 1) ++ [44, d] := by
      show (accT zs (k + 1) ++ if k + 1 = 0 then [] else [44]) ++ numT (gi zs (k + 1)) = _
      rw [if_neg (by omega), h1, List.append_assoc]; rfl
    rw [e]
    refine ⟨by rw [List.length_append, i1]; simp; omega, fun i hi => ?_, fun i hi => ?_⟩
    · by_cases hi2 : i ≤ k
      · rw [bt_left (by omega)]; exact i2 i hi2
      · obtain rfl : i = k + 1 := by omega
        have : 2 * (k + 1) = (accT zs (k + 1)).length + 1 := by omega
        rw [this, bt_right]
        simpa [bt] using h2
    · by_cases hi2 : i < k
      · rw [bt_left (by omega)]; exact i3 i hi2
      · obtain rfl : i = k := by omega
        have : 2 * i + 1 = (accT zs (i + 1)).length + 0 := by omega
        rw [this, bt_right]
        rfl
/-- the numbers that stand at the even places from 2 up to k -/
def rg (L : List UInt8) (k : Nat) : List Int := (List.range ((k - 1) / 2)).map fun (i : Nat) => (bt L (2 * i + 2) : Int) - 48
theorem rg_length (L : List UInt8) (k : Nat) : (rg L k).length = (k - 1) / 2 := by simp [rg]
theorem rg_two (L : List UInt8) : rg L 2 = [] := rfl
theorem rg_even {L : List UInt8} {k : Nat} (h : k % 2 = 0) (h2 : 2 ≤ k) : rg L (k + 1) = rg L k ++ [(bt L k : Int) - 48] := by
  unfold rg
  have e : (k + 1 - 1) / 2 = (k - 1) / 2 + 1 := by omega
  have e3 : 2 * ((k - 1) / 2) + 2 = k := by omega
  rw [e, List.range_succ, List.map_append, List.map_cons, List.map_nil, e3]
theorem rg_odd {L : List UInt8} {k : Nat} (h : k % 2 = 1) : rg L (k + 1) = rg L k := by
  unfold rg
  have e : (k + 1 - 1) / 2 = (k - 1) / 2 := by omega
  rw [e]
/-- what may stand at place k -/
def okAt (L : List UInt8) (k : Nat) : Prop := (k % 2 = 0 ∧ 48 ≤ bt L k ∧ bt L k ≤ 57) ∨ (k % 2 = 1 ∧ bt L k = 44)

structure TextIs (L : List UInt8) (v : Int) (vs : List Int) : Prop where
  lo : 3 ≤ L.length
  hi : L.length ≤ 121
  b0 : (bt L 0 : Int) = 48 + v
  vr : 2 ≤ v ∧ v ≤ 8
  b1 : bt L 1 = 58
  nil : vs = [] → L.drop 2 = [45]
  one : vs ≠ [] → L.drop 2 ≠ [45] ∧ rg L L.length = vs ∧ ∀ k, 2 ≤ k → k < L.length → okAt L k
theorem textIs {v : Int} {vs : List Int} (h : lad v vs = true) : TextIs (textT v vs) v vs := by
  have hv := (lad_iff.1 h).1
  have hn := (lad_iff.1 h).2.1
  have hd := lad_dig h
  obtain ⟨d, h1, h2⟩ := numT_one (x := v) (by omega)
  have e : textT v vs = d :: 58 :: numsT vs := by unfold textT; rw [h1]; rfl
  have hbt : ∀ j, bt (textT v vs) (j + 2) = bt (numsT vs) j := fun j => by rw [e]; simp [bt]
  have hlen : (textT v vs).length = (numsT vs).length + 2 := by rw [e]; simp
  have hdrop : (textT v vs).drop 2 = numsT vs := by rw [e]; rfl
  rcases hk : vs with _ | ⟨x, r⟩
  · subst hk
    have en : numsT [] = [45] := rfl
    rw [en] at hlen hdrop
    exact ⟨by rw [hlen]; decide, by rw [hlen]; decide, by rw [e]; simpa [bt] using h2, hv, by rw [e]; rfl, fun _ => hdrop, fun g => absurd rfl g⟩
  · rw [← hk]
    have hl0 : 0 < vs.length := by rw [hk]; simp
    obtain ⟨k, hkk⟩ : ∃ k, vs.length = k + 1 := ⟨vs.length - 1, by omega⟩
    have en : numsT vs = accT vs (k + 1) := by unfold numsT; rw [if_neg (by omega), hkk]
    obtain ⟨a1, a2, a3⟩ := acc_at hd k (by omega)
    rw [← en] at a1 a2 a3
    refine ⟨by omega, by omega, by rw [e]; simpa [bt] using h2, hv, by rw [e]; rfl, fun g => by rw [g] at hl0; simp at hl0, fun _ => ⟨?_, ?_, ?_⟩⟩
    · rw [hdrop]
      intro g
      have := a2 0 (by omega)
      rw [g] at this
      have h0 := hd 0 (by omega)
      simp [bt] at this
      omega
    · refine gi_ext (by rw [rg_length, hlen, a1]; omega) (fun j hj => ?_)
      rw [rg_length, hlen, a1] at hj
      have e2 : gi (rg (textT v vs) (textT v vs).length) j = (bt (textT v vs) (2 * j + 2) : Int) - 48 := by
        rw [gi_lt (by rw [rg_length, hlen, a1]; exact hj)]; simp [rg]
      rw [e2, hbt, a2 j (by omega)]
      omega
    · intro q hq1 hq2
      obtain ⟨j, rfl⟩ : ∃ j, q = j + 2 := ⟨q - 2, by omega⟩
      unfold okAt
      rw [hbt]
      rw [hlen, a1] at hq2
      rcases Nat.mod_two_eq_zero_or_one j with g | g
      · left
        obtain ⟨i, rfl⟩ : ∃ i, j = 2 * i := ⟨j / 2, by omega⟩
        have := a2 i (by omega)
        have h0 := hd i (by omega)
        exact ⟨by omega, by omega, by omega⟩
      · right
        obtain ⟨i, rfl⟩ : ∃ i, j = 2 * i + 1 := ⟨j / 2, by omega⟩
        exact ⟨by omega, a3 i (by omega)⟩
end Go.Proofs.YtndphbifnohmdaaDoor
