/- Orders: what the sorted seats say. Nothing of the program is said here. -/
import Derived.Test.YtbfilmdociemmaaMgA
namespace Go.Proofs.Ytbfilmdociemmaa
open Go

/-- an order's numbers, and behind them each place's own -/
def seats (zs : List Int) : List Int := (List.range 8).map fun (i : Nat) => if i < zs.length then gi zs i else (i : Int)
theorem seats_length (zs : List Int) : (seats zs).length = 8 := by simp [seats]
theorem gi_seats (zs : List Int) (j : Nat) (hj : j < 8) : gi (seats zs) j = if j < zs.length then gi zs j else (j : Int) := by
  rw [gi_lt (by rw [seats_length]; exact hj)]; simp [seats]

/-- the order of eight numbers that are all at home -/
def home8 : List Int := [0, 1, 2, 3, 4, 5, 6, 7]
theorem seats_nil : seats [] = home8 := by decide

/-- a list is an order -/
def ord (zs : List Int) : Bool := decide (1 ≤ zs.length ∧ zs.length ≤ 8 ∧ (∀ x ∈ zs, 0 ≤ x ∧ x < zs.length) ∧ zs.Nodup)
theorem ord_iff {zs : List Int} : ord zs = true ↔ 1 ≤ zs.length ∧ zs.length ≤ 8 ∧ (∀ x ∈ zs, 0 ≤ x ∧ x < zs.length) ∧ zs.Nodup := by unfold ord; exact decide_eq_true_iff

theorem mem_gi {zs : List Int} {x : Int} : x ∈ zs ↔ ∃ j, j < zs.length ∧ gi zs j = x := by
  constructor
  · intro h
    obtain ⟨j, hj, e⟩ := List.mem_iff_getElem.1 h
    exact ⟨j, hj, by rw [gi_lt hj]; exact e⟩
  · rintro ⟨j, hj, rfl⟩
    rw [gi_lt hj]; exact List.getElem_mem hj
theorem nodup_gi {zs : List Int} : zs.Nodup ↔ ∀ i j, i < j → j < zs.length → gi zs i ≠ gi zs j := by
  unfold List.Nodup
  rw [List.pairwise_iff_getElem]
  constructor
  · intro h i j hij hj
    rw [gi_lt (by omega), gi_lt hj]
    exact h i j (by omega) hj hij
  · intro h i j hi hj hij
    have := h i j hij hj
    rwa [gi_lt hi, gi_lt hj] at this

/-- eight numbers in 0 .. 7, each greater than the one before: these are all of them -/
theorem rising8 {s : List Int} (hl : s.length = 8) (hr : ∀ x ∈ s, 0 ≤ x ∧ x < 8) (h : ∀ i j, i < j → j < s.length → gi s i < gi s j) : s = home8 := by
  have hm : ∀ j, j < 8 → 0 ≤ gi s j ∧ gi s j < 8 := fun j hj => hr _ (mem_gi.2 ⟨j, by omega, rfl⟩)
  have h0 := hm 0 (by omega)
  have h7 := hm 7 (by omega)
  have a1 := h 0 1 (by omega) (by omega)
  have a2 := h 1 2 (by omega) (by omega)
  have a3 := h 2 3 (by omega) (by omega)
  have a4 := h 3 4 (by omega) (by omega)
  have a5 := h 4 5 (by omega) (by omega)
  have a6 := h 5 6 (by omega) (by omega)
  have a7 := h 6 7 (by omega) (by omega)
  refine gi_ext (by rw [hl]; rfl) (fun j hj => ?_)
  rw [hl] at hj
  match j, hj with
  | 0, _ => show gi s 0 = 0; omega
  | 1, _ => show gi s 1 = 1; omega
  | 2, _ => show gi s 2 = 2; omega
  | 3, _ => show gi s 3 = 3; omega
  | 4, _ => show gi s 4 = 4; omega
  | 5, _ => show gi s 5 = 5; omega
  | 6, _ => show gi s 6 = 6; omega
  | 7, _ => show gi s 7 = 7; omega

def srt (zs : List Int) : List Int := zs.mergeSort fun x y => decide (x ≤ y)
theorem srt_perm (zs : List Int) : List.Perm (srt zs) zs := List.mergeSort_perm _ _
theorem srt_length (zs : List Int) : (srt zs).length = zs.length := (srt_perm zs).length_eq
theorem srt_le (zs : List Int) : (srt zs).Pairwise (fun x y => decide (x ≤ y) = true) := List.pairwise_mergeSort (fun a b c h1 h2 => by simp at *; omega) (fun a b => by simp; omega) zs

theorem seats_ord {zs : List Int} (h1 : 1 ≤ zs.length) (h8 : zs.length ≤ 8) : srt (seats zs) = home8 ↔ ord zs = true := by
  rw [ord_iff]
  constructor
  · intro e
    have hp : List.Perm home8 (seats zs) := e ▸ srt_perm (seats zs)
    have hnd : (seats zs).Nodup := hp.nodup_iff.1 (by decide)
    have hr : ∀ x ∈ seats zs, 0 ≤ x ∧ x < 8 := fun x hx => by
      have : x ∈ home8 := hp.mem_iff.2 hx
      have hh : ∀ y ∈ home8, 0 ≤ y ∧ y < 8 := by decide
      exact hh x this
    rw [nodup_gi] at hnd
    rw [seats_length] at hnd
    have hz : ∀ j, j < zs.length → gi (seats zs) j = gi zs j := fun j hj => by rw [gi_seats _ _ (by omega), if_pos hj]
    refine ⟨h1, h8, fun x hx => ?_, nodup_gi.2 fun i j hij hj => ?_⟩
    · obtain ⟨j, hj, rfl⟩ := mem_gi.1 hx
      have hb := hr (gi zs j) (mem_gi.2 ⟨j, by rw [seats_length]; omega, hz j hj⟩)
      refine ⟨hb.1, ?_⟩
      rcases Int.lt_or_le (gi zs j) zs.length with h | h
      · exact h
      · exfalso
        have e2 : gi (seats zs) (gi zs j).toNat = gi zs j := by
          rw [gi_seats _ _ (by omega), if_neg (by omega)]; omega
        exact hnd j (gi zs j).toNat (by omega) (by omega) (by rw [hz j hj, e2])
    · rw [← hz i (by omega), ← hz j hj]
      exact hnd i j hij (by omega)
  · rintro ⟨_, _, hr, hnd⟩
    rw [nodup_gi] at hnd
    have hr' : ∀ j, j < zs.length → 0 ≤ gi zs j ∧ gi zs j < zs.length := fun j hj => hr _ (mem_gi.2 ⟨j, hj, rfl⟩)
    have hsn : (seats zs).Nodup := nodup_gi.2 fun i j hij hj => by
      rw [seats_length] at hj
      rw [gi_seats _ _ (by omega), gi_seats _ _ hj]
      by_cases hi : i < zs.length
      · rw [if_pos hi]
        by_cases hj' : j < zs.length
        · rw [if_pos hj']; exact hnd i j hij hj'
        · rw [if_neg hj']
          have := hr' i hi
          omega
      · rw [if_neg hi, if_neg (by omega)]; omega
    have hsr : ∀ x ∈ seats zs, 0 ≤ x ∧ x < 8 := fun x hx => by
      obtain ⟨j, hj, rfl⟩ := mem_gi.1 hx
      rw [seats_length] at hj
      rw [gi_seats _ _ hj]
      split
      · rename_i h; have := hr' j h; omega
      · omega
    have hn2 : (srt (seats zs)).Nodup := (srt_perm _).nodup_iff.2 hsn
    refine rising8 (by rw [srt_length, seats_length]) (fun x hx => hsr x ((srt_perm _).mem_iff.1 hx)) (fun i j hij hj => ?_)
    have hle := (List.pairwise_iff_getElem.1 (srt_le (seats zs))) i j (by omega) hj hij
    rw [← gi_lt (by omega), ← gi_lt hj] at hle
    have hle2 : gi (srt (seats zs)) i ≤ gi (srt (seats zs)) j := by simpa using hle
    have hne := nodup_gi.1 hn2 i j hij hj
    omega
end Go.Proofs.Ytbfilmdociemmaa
