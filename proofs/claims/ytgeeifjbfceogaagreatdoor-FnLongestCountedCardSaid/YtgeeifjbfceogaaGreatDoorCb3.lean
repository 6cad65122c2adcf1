/- All orders of so many numbers, built number by number, as the model lists them. -/
import Derived.Test.YtgeeifjbfceogaaGreatDoorCb1
import Derived.Test.YtgeeifjbfceogaaGreatDoorMgG
import Derived.Test.YtgeeifjbfceogaaGreatDoorMgF
namespace Go.Proofs.YtgeeifjbfceogaaGreatDoor
open Go

/-- a list of numbers, followed by each of the first so many numbers that it lacks -/
def addK (q : List Int) : Nat → List (List Int)
  | 0 => []
  | x + 1 => addK q x ++ (if has q (x : Int) = true then [] else [q ++ [(x : Int)]])
def lvlK (n : Nat) (L : List (List Int)) : Nat → List (List Int)
  | 0 => []
  | j + 1 => lvlK n L j ++ addK (gz L j) n
def ordsK (n : Nat) : Nat → List (List Int)
  | 0 => [[]]
  | k + 1 => lvlK n (ordsK n k) (ordsK n k).length

theorem has_iff {q : List Int} {x : Int} : has q x = true ↔ x ∈ q := by unfold has; exact decide_eq_true_iff
theorem addK_yes {q : List Int} {x : Nat} (h : has q (x : Int) = true) : addK q (x + 1) = addK q x := by simp only [addK]; rw [if_pos h, List.append_nil]
theorem addK_no {q : List Int} {x : Nat} (h : has q (x : Int) = false) : addK q (x + 1) = addK q x ++ [q ++ [(x : Int)]] := by simp only [addK]; rw [if_neg (by rw [h]; simp)]
theorem mem_addK {q r : List Int} : ∀ n, r ∈ addK q n ↔ ∃ x : Nat, x < n ∧ (x : Int) ∉ q ∧ r = q ++ [(x : Int)]
  | 0 => by simp [addK]
  | n + 1 => by
    rcases h : has q (n : Int) with _ | _
    · have hn : (n : Int) ∉ q := fun hm => by rw [has_iff.2 hm] at h; cases h
      rw [addK_no h, List.mem_append, mem_addK n, List.mem_singleton]
      constructor
      · rintro (⟨x, h1, h2, h3⟩ | h1)
        · exact ⟨x, by omega, h2, h3⟩
        · exact ⟨n, by omega, hn, h1⟩
      · rintro ⟨x, h1, h2, h3⟩
        by_cases e : x = n
        · subst e; exact .inr h3
        · exact .inl ⟨x, by omega, h2, h3⟩
    · have hn : (n : Int) ∈ q := has_iff.1 h
      rw [addK_yes h, mem_addK n]
      constructor
      · rintro ⟨x, h1, h2, h3⟩
        exact ⟨x, by omega, h2, h3⟩
      · rintro ⟨x, h1, h2, h3⟩
        by_cases e : x = n
        · subst e; exact absurd hn h2
        · exact ⟨x, by omega, h2, h3⟩
theorem nodup_addK {q : List Int} : ∀ n, (addK q n).Nodup
  | 0 => by simp [addK]
  | n + 1 => by
    rcases h : has q (n : Int) with _ | _
    · rw [addK_no h, List.nodup_append]
      refine ⟨nodup_addK n, by simp, fun r hr s hs e => ?_⟩
      rw [List.mem_singleton] at hs
      subst hs e
      obtain ⟨x, h1, _, h3⟩ := (mem_addK n).1 hr
      have h4 := (List.append_inj h3 rfl).2
      injection h4 with h5 _
      omega
    · rw [addK_yes h]; exact nodup_addK n
theorem addK_len (q : List Int) : ∀ n, (addK q n).length ≤ n
  | 0 => by simp [addK]
  | n + 1 => by
    have := addK_len q n
    rcases h : has q (n : Int) with _ | _
    · rw [addK_no h, List.length_append]; simp; omega
    · rw [addK_yes h]; omega
theorem mem_lvlK {n : Nat} {L : List (List Int)} {r : List Int} : ∀ j, r ∈ lvlK n L j ↔ ∃ i, i < j ∧ r ∈ addK (gz L i) n
  | 0 => by simp [lvlK]
  | j + 1 => by
    simp only [lvlK]
    rw [List.mem_append, mem_lvlK j]
    constructor
    · rintro (⟨i, h1, h2⟩ | h1)
      · exact ⟨i, by omega, h2⟩
      · exact ⟨j, by omega, h1⟩
    · rintro ⟨i, h1, h2⟩
      by_cases e : i = j
      · subst e; exact .inr h2
      · exact .inl ⟨i, by omega, h2⟩
theorem lvlK_len (n : Nat) (L : List (List Int)) : ∀ j, (lvlK n L j).length ≤ j * n
  | 0 => by simp [lvlK]
  | j + 1 => by
    simp only [lvlK]
    rw [List.length_append, Nat.succ_mul]
    have := lvlK_len n L j
    have := addK_len (gz L j) n
    omega
theorem gz_ne {L : List (List Int)} (h : L.Nodup) {i j : Nat} (hij : i < j) (hj : j < L.length) : gz L i ≠ gz L j := by
  have h1 := gz_at (zss := L) (j := i) (by omega)
  have h2 := gz_at (zss := L) (j := j) hj
  intro e
  rw [← e] at h2
  have := (List.getElem?_inj (i := i) (j := j) (by omega) h).1 (by rw [h1, h2])
  omega
theorem nodup_lvlK {n : Nat} {L : List (List Int)} (h : L.Nodup) : ∀ j, j ≤ L.length → (lvlK n L j).Nodup
  | 0, _ => by simp [lvlK]
  | j + 1, hj => by
    simp only [lvlK]
    rw [List.nodup_append]
    refine ⟨nodup_lvlK h j (by omega), nodup_addK n, fun r hr s hs e => ?_⟩
    subst e
    obtain ⟨i, h1, h2⟩ := (mem_lvlK j).1 hr
    obtain ⟨x, _, _, e1⟩ := (mem_addK n).1 h2
    obtain ⟨y, _, _, e2⟩ := (mem_addK n).1 hs
    rw [e1] at e2
    exact gz_ne h h1 (by omega) (List.append_inj' e2 rfl).1

/-- k of n numbers, each at most once -/
def PreO (n k : Nat) (q : List Int) : Prop := q.length = k ∧ (∀ x ∈ q, 0 ≤ x ∧ x < (n : Int)) ∧ q.Nodup
theorem mem_gz {L : List (List Int)} {r : List Int} : r ∈ L ↔ ∃ i, i < L.length ∧ r = gz L i := by
  constructor
  · intro h
    obtain ⟨i, hi, e⟩ := List.mem_iff_getElem.1 h
    exact ⟨i, hi, by rw [← e]; simp [gz, List.getD, hi]⟩
  · rintro ⟨i, hi, rfl⟩
    have : gz L i = L[i] := by simp [gz, List.getD, hi]
    rw [this]
    exact List.getElem_mem hi
theorem mem_ordsK (n : Nat) : ∀ k (r : List Int), r ∈ ordsK n k ↔ PreO n k r
  | 0, r => by
    simp only [ordsK, List.mem_singleton, PreO]
    constructor
    · rintro rfl; simp
    · rintro ⟨h, _⟩; exact List.eq_nil_of_length_eq_zero h
  | k + 1, r => by
    simp only [ordsK]
    rw [mem_lvlK]
    constructor
    · rintro ⟨i, hi, hr⟩
      obtain ⟨x, h1, h2, rfl⟩ := (mem_addK n).1 hr
      obtain ⟨g1, g2, g3⟩ := (mem_ordsK n k _).1 (mem_gz.2 ⟨i, hi, rfl⟩)
      refine ⟨by simp [g1], fun y hy => ?_, ?_⟩
      · rcases List.mem_append.1 hy with hy | hy
        · exact g2 y hy
        · rw [List.mem_singleton] at hy; omega
      · rw [List.nodup_append]
        refine ⟨g3, by simp, fun a ha b hb e => ?_⟩
        rw [List.mem_singleton] at hb
        subst hb e
        exact h2 ha
    · rintro ⟨g1, g2, g3⟩
      have hne : r ≠ [] := fun e => by rw [e] at g1; simp at g1
      have e := List.dropLast_concat_getLast hne
      obtain ⟨q, hq⟩ : ∃ q, q = r.dropLast := ⟨_, rfl⟩
      obtain ⟨y, hy⟩ : ∃ y, y = r.getLast hne := ⟨_, rfl⟩
      rw [← hq, ← hy] at e
      clear hq hy hne
      subst e
      rw [List.nodup_append] at g3
      obtain ⟨d1, _, d2⟩ := g3
      have hy := g2 y (by simp)
      have hp : PreO n k q := ⟨by simp at g1; omega, fun x hx => g2 x (by simp [hx]), d1⟩
      obtain ⟨i, hi, e⟩ := mem_gz.1 ((mem_ordsK n k q).2 hp)
      refine ⟨i, hi, (mem_addK n).2 ⟨y.toNat, by omega, ?_, ?_⟩⟩
      · rw [← e, show ((y.toNat : Nat) : Int) = y by omega]
        exact fun hm => d2 y hm y (by simp) rfl
      · rw [← e, show ((y.toNat : Nat) : Int) = y by omega]
theorem nodup_ordsK (n : Nat) : ∀ k, (ordsK n k).Nodup
  | 0 => by simp [ordsK]
  | k + 1 => nodup_lvlK (nodup_ordsK n k) _ (Nat.le_refl _)
theorem ordsK_all {n : Nat} (h1 : 1 ≤ n) (h8 : n ≤ 8) : AllO n (ordsK n n) := by
  refine ⟨fun q => ?_, nodup_ordsK n n⟩
  rw [mem_ordsK]
  constructor
  · rintro ⟨g1, g2, g3⟩
    exact ⟨ord_iff.2 ⟨by omega, by omega, fun x hx => by rw [g1]; exact g2 x hx, g3⟩, g1⟩
  · rintro ⟨g1, g2⟩
    obtain ⟨_, _, d2, d3⟩ := ord_iff.1 g1
    exact ⟨g2, fun x hx => by rw [← g2]; exact d2 x hx, d3⟩
theorem preO_upto {n k : Nat} (h : k ≤ n) : PreO n k (upto k) := by
  refine ⟨upto_len k, fun x hx => ?_, ?_⟩
  · obtain ⟨j, hj, rfl⟩ := List.mem_map.1 hx
    have := List.mem_range.1 hj
    omega
  · refine nodup_gi.2 fun i j hij hj => ?_
    rw [upto_len] at hj
    rw [gi_lt (by rw [upto_len]; omega), gi_lt (by rw [upto_len]; omega)]
    simp [upto]
    omega
theorem ordsK_pos {n k : Nat} (h : k ≤ n) : 0 < (ordsK n k).length :=
  List.length_pos_of_mem ((mem_ordsK n k _).2 (preO_upto h))
theorem ordsK_len {n : Nat} (h : n ≤ 6) : ∀ k, (ordsK n k).length ≤ 6 ^ k
  | 0 => by simp [ordsK]
  | k + 1 => by
    simp only [ordsK]
    have h1 := lvlK_len n (ordsK n k) (ordsK n k).length
    have h2 := ordsK_len h k
    have h3 : (ordsK n k).length * n ≤ 6 ^ k * 6 := Nat.mul_le_mul h2 h
    rw [Nat.pow_succ]
    omega
theorem ordsK_small {n k : Nat} (h : n ≤ 6) (hk : k ≤ 6) : (ordsK n k).length ≤ 46656 := by
  have h1 := ordsK_len h k
  have h2 : 6 ^ k ≤ 6 ^ 6 := Nat.pow_le_pow_right (by omega) hk
  have h3 : (6 : Nat) ^ 6 = 46656 := by decide
  omega
theorem ordsK_row {n k j : Nat} (hj : j < (ordsK n k).length) : (gz (ordsK n k) j).length = k :=
  ((mem_ordsK n k _).1 (mem_gz.2 ⟨j, hj, rfl⟩)).1
theorem lvlK_small {n : Nat} {L : List (List Int)} (h : n ≤ 6) (hL : L.length ≤ 46656) {j : Nat} (hj : j ≤ L.length) : (lvlK n L j).length ≤ 279936 := by
  have h1 := lvlK_len n L j
  have h2 : j * n ≤ 46656 * 6 := Nat.mul_le_mul (by omega) h
  omega
end Go.Proofs.YtgeeifjbfceogaaGreatDoor
