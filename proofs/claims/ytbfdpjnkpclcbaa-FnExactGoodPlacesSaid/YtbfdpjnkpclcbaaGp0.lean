/- The placing game, the mathematics: outlooks by wires and rungs to come; who wins. -/
import Derived.Test.YtbfdpjnkpclcbaaGo2
import Derived.Test.YtbfdpjnkpclcbaaGt0
namespace Go.Proofs.Ytbfdpjnkpclcbaa
open Go Go.RowKit

def upJ (k : Nat) : List Int := (List.range k).map fun (i : Nat) => (i : Int)
theorem upJ_len (k : Nat) : (upJ k).length = k := by simp [upJ]
theorem gi_upJ {n k : Nat} (h : k < n) : gi (upJ n) k = (k : Int) := by rw [gi_lt (by simp [upJ]; exact h)]; simp [upJ]
/-- the wire behind a rung -/
def ovr (a j : Nat) : Nat := if a = j then j + 1 else if a = j + 1 then j else a
theorem ovr_over (a j : Nat) : over (a : Int) (j : Int) = (ovr a j : Int) := by
  unfold over ovr
  by_cases h1 : a = j
  · rw [if_pos (by omega), if_pos h1]; omega
  · rw [if_neg (by omega), if_neg h1]
    by_cases h2 : a = j + 1
    · rw [if_pos (by omega), if_pos h2]
    · rw [if_neg (by omega), if_neg h2]
theorem ovr_lt {a j N : Nat} (ha : a < N) (hj : j + 1 < N) : ovr a j < N := by
  unfold ovr
  split
  · omega
  · split <;> omega
def ovL (N goal : Nat) (fs : Nat → Bool) : Nat → Nat → OutP
  | 0, a => (decide (a = goal) == fs 0, 0)
  | l + 1, a => bstK (fun j => behP (ovL N goal fs l (ovr a j))) (decide (a = goal) == fs (l + 1)) (N - 1)
theorem ovL_le (N goal : Nat) (fs : Nat → Bool) : ∀ l a, (ovL N goal fs l a).2 ≤ l
  | 0, _ => Nat.le_refl _
  | l + 1, a => by
    rw [ovL]
    generalize (decide (a = goal) == fs (l + 1)) = w0
    have key : ∀ k, (bstK (fun j => behP (ovL N goal fs l (ovr a j))) w0 k).2 ≤ l + 1 := by
      intro k
      induction k with
      | zero => simp [bstK]
      | succ k ih =>
        simp only [bstK]
        split
        · have := ovL_le N goal fs l (ovr a k)
          unfold behP
          simp only; omega
        · exact ih
    exact key _
/-- can one of the choices win? -/
theorem bst_any {f : Nat → OutP} {w0 : Bool} : ∀ k, 0 < k → (bstK f w0 k).1 = (List.range k).any fun j => (f j).1
  | 0, h => absurd h (by decide)
  | 1, _ => by rw [bstK_one]; simp
  | k + 2, _ => by
    have ih := bst_any (f := f) (w0 := w0) (k + 1) (by omega)
    rw [List.range_succ, List.any_append, ← ih]
    simp only [List.any_cons, List.any_nil, Bool.or_false]
    by_cases hb : betB (f (k + 1)) (bstK f w0 (k + 1)) = true
    · rw [bstK_yes hb]
      generalize f (k + 1) = o at *
      generalize bstK f w0 (k + 1) = p at *
      obtain ⟨a, m⟩ := o
      obtain ⟨b, m'⟩ := p
      unfold betB at hb
      cases a <;> cases b <;> simp at *
    · have hb : betB (f (k + 1)) (bstK f w0 (k + 1)) = false := by simpa using hb
      rw [bstK_no (by omega) hb]
      generalize f (k + 1) = o at *
      generalize bstK f w0 (k + 1) = p at *
      obtain ⟨a, m⟩ := o
      obtain ⟨b, m'⟩ := p
      unfold betB at hb
      cases a <;> cases b <;> simp at *
/-- does the first one win, with so many rungs to come? -/
def wnL (N goal : Nat) (fs : Nat → Bool) : Nat → Nat → Bool
  | 0, a => decide (a = goal)
  | l + 1, a => if fs (l + 1) = true then (List.range (N - 1)).any fun j => wnL N goal fs l (ovr a j) else (List.range (N - 1)).all fun j => wnL N goal fs l (ovr a j)
theorem not_any_not (f : Nat → Bool) (l : List Nat) : (!(l.any fun j => !f j)) = l.all f := by
  induction l with
  | nil => rfl
  | cons x l ih => simp only [List.any_cons, List.all_cons, ← ih, Bool.not_or, Bool.not_not]
theorem wnL_ov {N goal : Nat} {fs : Nat → Bool} (hN : 2 ≤ N) : ∀ l a, (∀ i, i < l → fs i = !fs (i + 1)) → wnL N goal fs l a = if fs l = true then (ovL N goal fs l a).1 else !(ovL N goal fs l a).1
  | 0, a, _ => by
    simp only [wnL, ovL]
    cases fs 0 <;> cases decide (a = goal) <;> rfl
  | l + 1, a, h => by
    have ih := fun a' => wnL_ov (goal := goal) (fs := fs) hN l a' (fun i hi => h i (by omega))
    have hf := h l (by omega)
    rw [wnL, ovL, bst_any _ (by omega)]
    simp only [ih]
    rcases hl : fs (l + 1) with _ | _
    · rw [hl] at hf
      have hf : fs l = true := by rw [hf]; rfl
      simp only [hf, if_true, Bool.false_eq_true, if_false]
      show _ = !(List.range (N - 1)).any fun j => !(ovL N goal fs l (ovr a j)).1
      rw [not_any_not]
    · rw [hl] at hf
      have hf : fs l = false := by rw [hf]; rfl
      simp only [hf, if_true, Bool.false_eq_true, if_false]
      rfl
/-- whose turn it is -/
def fsP (M : Nat) (first : Bool) (l : Nat) : Bool := first == decide ((M - l) % 2 = 0)
theorem fsP_turn {M : Nat} {first : Bool} : ∀ i, i < M → fsP M first i = !fsP M first (i + 1) := by
  intro i hi
  unfold fsP
  by_cases h : (M - i) % 2 = 0
  · rw [decide_eq_true h, decide_eq_false (by omega)]; cases first <;> rfl
  · rw [decide_eq_false h, decide_eq_true (by omega)]; cases first <;> rfl
theorem fsP_less {M l : Nat} (h : l ≤ M) : fsP M false l = fsP (M + 1) true l := by
  unfold fsP
  by_cases h1 : (M - l) % 2 = 0
  · rw [decide_eq_true h1, decide_eq_false (by omega)]; rfl
  · rw [decide_eq_false h1, decide_eq_true (by omega)]; rfl
theorem fsP_top (M : Nat) : fsP M true M = true := by unfold fsP; simp
theorem wnL_congr {N goal : Nat} {fs gs : Nat → Bool} : ∀ l a, (∀ i, i ≤ l → fs i = gs i) → wnL N goal fs l a = wnL N goal gs l a
  | 0, _, _ => rfl
  | l + 1, a, h => by
    have ih := fun a' => wnL_congr (N := N) (goal := goal) l a' (fun i hi => h i (by omega))
    rw [wnL, wnL, h (l + 1) (by omega)]
    simp only [ih]

/-- positions as numbers -/
def nxP (p i : Nat) : Nat := (p / 8 - 1) * 8 + ovr (p % 8) i
def chP (N p : Nat) : List Int := if p / 8 = 0 then [] else upJ (N - 1)
def goodP (N M p : Nat) : Prop := p % 8 < N ∧ p / 8 ≤ M
def wonP (goal : Nat) (fs : Nat → Bool) (p : Nat) : Bool := decide (p % 8 = goal) == fs (p / 8)
def ovP (N goal : Nat) (fs : Nat → Bool) (p : Nat) : OutP := ovL N goal fs (p / 8) (p % 8)
theorem chP_mem {N p i : Nat} (h : (i : Int) ∈ chP N p) : 0 < p / 8 ∧ i + 1 < N := by
  unfold chP at h
  split at h
  · simp at h
  · rename_i h0
    simp [upJ] at h
    omega
theorem nxP_parts {N p i : Nat} (hN : N ≤ 8) (hp : p % 8 < N) (hi : i + 1 < N) : nxP p i / 8 = p / 8 - 1 ∧ nxP p i % 8 = ovr (p % 8) i := by
  have := ovr_lt hp hi
  unfold nxP
  omega
theorem ovP_eq {N goal : Nat} {fs : Nat → Bool} (hN : 2 ≤ N) (hN8 : N ≤ 8) {p : Nat} (hp : p % 8 < N) :
    ovP N goal fs p = bstK (fun j => behP (ovP N goal fs (nxP p (gi (chP N p) j).toNat))) (wonP goal fs p) (chP N p).length := by
  unfold ovP wonP
  rcases Nat.eq_zero_or_pos (p / 8) with h0 | h0
  · have e : chP N p = [] := by unfold chP; rw [if_pos h0]
    rw [e, h0]
    rfl
  · have e : chP N p = upJ (N - 1) := by unfold chP; rw [if_neg (by omega)]
    obtain ⟨l, hl⟩ : ∃ l, p / 8 = l + 1 := ⟨p / 8 - 1, by omega⟩
    rw [e, upJ_len, hl, ovL]
    refine bstK_congr _ fun j hj => ?_
    rw [gi_upJ hj, Int.toNat_natCast]
    obtain ⟨h1, h2⟩ := nxP_parts (i := j) hN8 hp (by omega)
    rw [h1, h2, hl]
    rfl
end Go.Proofs.Ytbfdpjnkpclcbaa
