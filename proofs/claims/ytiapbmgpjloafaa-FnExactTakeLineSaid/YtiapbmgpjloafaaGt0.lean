/- The taking game, the mathematics: the outlook of each set of rungs, by itself and rung by rung. -/
import Derived.Test.YtiapbmgpjloafaaGm6
import Derived.Test.YtiapbmgpjloafaaGo2
namespace Go.Proofs.Ytiapbmgpjloafaa
open Go Go.RowKit

def nxT (S i : Nat) : Nat := S - 2 ^ i
theorem bit_le {S i : Nat} (h : S.testBit i = true) : 2 ^ i ≤ S := Nat.ge_two_pow_of_testBit h
theorem nxT_lt {S i : Nat} (h : S.testBit i = true) : nxT S i < S := by have := bit_le h; have := Nat.two_pow_pos i; unfold nxT; omega
/-- the outlooks of the sets below S -/
def tblT (ch : Nat → List Int) : Nat → List OutP
  | 0 => []
  | S + 1 => tblT ch S ++ [bstK (fun j => behP ((tblT ch S).getD (nxT S (gi (ch S) j).toNat) (false, 0))) false (ch S).length]
def ovT (ch : Nat → List Int) (S : Nat) : OutP := (tblT ch (S + 1)).getD S (false, 0)
theorem tblT_len (ch : Nat → List Int) : ∀ S, (tblT ch S).length = S
  | 0 => rfl
  | S + 1 => by simp only [tblT, List.length_append, List.length_singleton]; rw [tblT_len ch S]
theorem tblT_at (ch : Nat → List Int) : ∀ K S, S < K → (tblT ch K).getD S (false, 0) = ovT ch S
  | 0, S, h => absurd h (by omega)
  | K + 1, S, h => by
    rcases Nat.lt_or_ge S K with h1 | h1
    · rw [← tblT_at ch K S h1]
      simp only [tblT, List.getD_eq_getElem?_getD]
      rw [List.getElem?_append_left (by rw [tblT_len]; exact h1)]
    · obtain rfl : S = K := by omega
      rfl
theorem bstK_congr {f g : Nat → OutP} {w0 : Bool} : ∀ k, (∀ j, j < k → f j = g j) → bstK f w0 k = bstK g w0 k
  | 0, _ => rfl
  | k + 1, h => by
    simp only [bstK]
    rw [bstK_congr k (fun j hj => h j (by omega)), h k (by omega)]
theorem ovT_eq (ch : Nat → List Int) (S : Nat) (hlt : ∀ j, j < (ch S).length → nxT S (gi (ch S) j).toNat < S) : ovT ch S = bstK (fun j => behP (ovT ch (nxT S (gi (ch S) j).toNat))) false (ch S).length := by
  have e : ovT ch S = bstK (fun j => behP ((tblT ch S).getD (nxT S (gi (ch S) j).toNat) (false, 0))) false (ch S).length := by
    unfold ovT
    simp only [tblT, List.getD_eq_getElem?_getD]
    rw [List.getElem?_append_right (by rw [tblT_len]; exact Nat.le_refl _), tblT_len]
    simp
  rw [e]
  refine bstK_congr _ fun j hj => ?_
  show behP _ = behP _
  rw [tblT_at ch S _ (hlt j hj)]

section
variable {zs : List Int} {N : Nat}
theorem chL_mem {S : Nat} {i : Nat} (h : (i : Int) ∈ chL zs N S) : homeQ zs N S = false ∧ i < zs.length ∧ S.testBit i = true := by
  unfold chL at h
  split at h
  · simp at h
  · rename_i hn
    obtain ⟨j, h1, h2, h3⟩ := indK_mem.1 h
    have : i = j := by omega
    subst this
    exact ⟨by simpa using hn, h1, h2⟩
theorem chL_at {S j : Nat} (h : j < (chL zs N S).length) : ∃ i : Nat, i < zs.length ∧ S.testBit i = true ∧ gi (chL zs N S) j = (i : Int) := by
  by_cases hh : homeQ zs N S = true
  · have e : chL zs N S = [] := by unfold chL; rw [if_pos hh]
    rw [e] at h
    exact absurd h (by simp)
  · have e : chL zs N S = indK S zs.length := by unfold chL; rw [if_neg hh]
    rw [e] at h ⊢
    exact indK_at h
abbrev ovS (zs : List Int) (N S : Nat) : OutP := ovT (chL zs N) S
theorem ovS_eq (S : Nat) : ovS zs N S = bstK (fun j => behP (ovS zs N (nxT S (gi (chL zs N S) j).toNat))) false (chL zs N S).length :=
  ovT_eq _ S fun j hj => by
    obtain ⟨i, _, h2, h3⟩ := chL_at hj
    rw [h3, Int.toNat_natCast]; exact nxT_lt h2
/-- the best of the first k rungs -/
def bK (f : Nat → OutP) (S : Nat) : Nat → OutP
  | 0 => (false, 0)
  | k + 1 => if S.testBit k = true then (if betB (f k) (bK f S k) = true then f k else bK f S k) else bK f S k
theorem bet_first {o : OutP} (h : 1 ≤ o.2) : betB o (false, 0) = true := by
  obtain ⟨a, b⟩ := o
  simp only at h
  unfold betB
  cases a
  · simp; omega
  · simp
theorem bK_bst {f : Nat → OutP} {S : Nat} (hf : ∀ i, 1 ≤ (f i).2) (n : Nat) : ∀ k, k ≤ n → bstK (fun j => f (gi (indK S n) j).toNat) false (indK S k).length = bK f S k := by
  have hpre : ∀ k, k ≤ n → ∀ j, j < (indK S k).length → gi (indK S n) j = gi (indK S k) j := by
    intro k hk
    induction n with
    | zero => intro j hj; have : k = 0 := by omega
              subst this; rfl
    | succ n ih =>
      intro j hj
      by_cases hkn : k = n + 1
      · subst hkn; rfl
      · have h1 := ih (by omega) j hj
        rw [← h1]
        rcases hb : S.testBit n with _ | _
        · rw [indK_no hb]
        · rw [indK_yes hb]
          have hle : (indK S k).length ≤ (indK S n).length := by
            have key : ∀ d, (indK S k).length ≤ (indK S (k + d)).length := by
              intro d
              induction d with
              | zero => exact Nat.le_refl _
              | succ d ihd =>
                have : (indK S (k + d)).length ≤ (indK S (k + d + 1)).length := by simp only [indK]; split <;> simp
                exact Nat.le_trans ihd this
            have := key (n - k)
            rwa [show k + (n - k) = n by omega] at this
          unfold gi
          rw [List.getD_eq_getElem?_getD, List.getD_eq_getElem?_getD, List.getElem?_append_left (by omega)]
  intro k hk
  induction k with
  | zero => rfl
  | succ k ih =>
    have ih' := ih (by omega)
    simp only [bK]
    rcases hb : S.testBit k with _ | _
    · rw [indK_no hb, ih']; simp
    · rw [if_pos rfl]
      have hl : (indK S (k + 1)).length = (indK S k).length + 1 := by rw [indK_yes hb]; simp
      rw [hl]
      simp only [bstK]
      have hg : gi (indK S n) (indK S k).length = (k : Int) := by
        rw [hpre (k + 1) hk _ (by omega), indK_yes hb]
        unfold gi
        simp
      rw [hg, Int.toNat_natCast, ih']
      by_cases hz : (indK S k).length = 0
      · have h0 : bK f S k = (false, 0) := by rw [← ih', hz]; rfl
        rw [if_pos (.inl hz), if_pos (by rw [h0]; exact bet_first (hf k))]
      · congr 1
        simp [hz]
/-- the outlook of a set where somebody is not at home -/
theorem ovS_home {S : Nat} (h : homeQ zs N S = true) : ovS zs N S = (false, 0) := by
  rw [ovS_eq]
  have : chL zs N S = [] := by unfold chL; rw [if_pos h]
  rw [this]; rfl
theorem ovS_bK {S : Nat} (h : homeQ zs N S = false) : ovS zs N S = bK (fun i => behP (ovS zs N (nxT S i))) S zs.length := by
  rw [ovS_eq]
  have e : chL zs N S = indK S zs.length := by unfold chL; rw [h]; rfl
  rw [e]
  exact bK_bst (f := fun i => behP (ovS zs N (nxT S i))) (fun i => by unfold behP; simp) zs.length zs.length (Nat.le_refl _)
theorem indK_nil {S : Nat} : ∀ k, (∀ i, i < k → S.testBit i = false) → indK S k = []
  | 0, _ => rfl
  | k + 1, h => by rw [indK_no (h k (by omega)), indK_nil k (fun i hi => h i (by omega))]
theorem bK_or {f : Nat → OutP} {S : Nat} (hf : ∀ i, 1 ≤ (f i).2) : ∀ k, bK f S k = (false, 0) ∨ 1 ≤ (bK f S k).2
  | 0 => .inl rfl
  | k + 1 => by
    simp only [bK]
    rcases hb : S.testBit k with _ | _
    · simpa using bK_or hf k
    · rw [if_pos rfl]
      split
      · exact .inr (hf k)
      · exact bK_or hf k
theorem bK_pos {f : Nat → OutP} {S : Nat} (hf : ∀ i, 1 ≤ (f i).2) : ∀ k, (∃ i, i < k ∧ S.testBit i = true) → 1 ≤ (bK f S k).2
  | 0, ⟨i, h, _⟩ => absurd h (by omega)
  | k + 1, ⟨i, h1, h2⟩ => by
    simp only [bK]
    rcases hb : S.testBit k with _ | _
    · have hik : i < k := by
        rcases Nat.lt_or_ge i k with h | h
        · exact h
        · obtain rfl : i = k := by omega
          rw [hb] at h2; cases h2
      simpa using bK_pos hf k ⟨i, hik, h2⟩
    · rw [if_pos rfl]
      by_cases hc : betB (f k) (bK f S k) = true
      · rw [if_pos hc]; exact hf k
      · rw [if_neg hc]
        rcases bK_or (S := S) hf k with h0 | h0
        · exact absurd (by rw [h0]; exact bet_first (hf k)) hc
        · exact h0
theorem beh_pos (o : OutP) : 1 ≤ (behP o).2 := by unfold behP; simp
theorem homeQ_none {S : Nat} (h : ∀ i, i < zs.length → S.testBit i = false) : homeQ zs N S = true := by
  have e : leftL zs S = [] := by
    have : (leftK zs S zs.length).length = 0 := by rw [← indK_len, indK_nil _ h]; rfl
    exact List.length_eq_zero_iff.1 this
  unfold homeQ
  rw [e, homeB_iff]
  intro i _; rfl
/-- where somebody is not at home, at least one move is made -/
theorem ovS_pos {S : Nat} (h : homeQ zs N S = false) : 1 ≤ (ovS zs N S).2 := by
  rw [ovS_bK h]
  refine bK_pos (fun i => beh_pos _) _ ?_
  apply Classical.byContradiction
  intro hn
  have : homeQ zs N S = true := homeQ_none fun i hi => by
    rcases hb : S.testBit i with _ | _
    · rfl
    · exact absurd ⟨i, hi, hb⟩ hn
  rw [h] at this; cases this
theorem bst_leG {f : Nat → OutP} {M : Nat} : ∀ k, (∀ j, j < k → (f j).2 ≤ M) → (bstK f false k).2 ≤ M
  | 0, _ => by simp [bstK]
  | k + 1, h => by
    simp only [bstK]
    split
    · exact h k (by omega)
    · exact bst_leG k (fun j hj => h j (by omega))
theorem ovS_le (S : Nat) : (ovS zs N S).2 ≤ S := by
  induction S using Nat.strongRecOn with
  | _ S ih =>
    rw [ovS_eq]
    refine bst_leG _ fun j hj => ?_
    obtain ⟨i, _, h2, h3⟩ := chL_at hj
    rw [h3, Int.toNat_natCast]
    have h4 := nxT_lt h2
    have := ih _ h4
    unfold behP
    simp only; omega

/-- an outlook as one number: how many moves, less than 0 where one loses -/
def scO (o : OutP) : Int := if o.1 = true then (o.2 : Int) else -(o.2 : Int)
/-- the model's look at one rung: what is known of winning and losing -/
def WL (o : OutP) (win lose : Int) : Prop := (o.1 = true → win = (o.2 : Int) ∧ 1 ≤ o.2) ∧ (o.1 = false → win = 0 ∧ lose = (o.2 : Int)) ∧ 0 ≤ lose ∧ lose ≤ 5000 ∧ o.2 ≤ 5000
theorem WL.start : WL (false, 0) 0 0 := ⟨fun h => by simp at h, fun _ => ⟨rfl, rfl⟩, by omega, by omega, by simp⟩
theorem WL.home {o : OutP} {win lose : Int} (h : WL o win lose) : WL (if betB (true, 1) o = true then (true, 1) else o) 1 lose := by
  obtain ⟨a, m⟩ := o
  obtain ⟨h1, h2, h3, h4, h5⟩ := h
  unfold betB
  cases a
  · simp only [Bool.true_eq_false, if_false, if_true]
    exact ⟨fun _ => ⟨rfl, Nat.le_refl _⟩, fun h => by simp at h, h3, h4, by simp⟩
  · have := h1 rfl
    simp only at this h5 ⊢
    by_cases hm : 1 < m
    · simp only [if_true, hm, decide_true]
      exact ⟨fun _ => ⟨rfl, Nat.le_refl _⟩, fun h => by simp at h, h3, h4, by simp⟩
    · simp only [if_true, hm, decide_false]
      simp only [Bool.false_eq_true, if_false]
      exact ⟨fun _ => ⟨by simp only; omega, this.2⟩, fun h => by simp at h, h3, h4, h5⟩
theorem WL.win {o : OutP} {win lose : Int} {m : Nat} (h : WL o win lose) (hm5 : m + 1 ≤ 5000) :
    WL (if betB (true, m + 1) o = true then (true, m + 1) else o) (if win = 0 ∨ ((m + 1 : Nat) : Int) < win then ((m + 1 : Nat) : Int) else win) lose := by
  obtain ⟨a, c⟩ := o
  obtain ⟨h1, h2, h3, h4, h5⟩ := h
  unfold betB
  cases a
  · have := h2 rfl
    simp only [Bool.true_eq_false, if_false, if_true]
    rw [if_pos (.inl this.1)]
    exact ⟨fun _ => ⟨rfl, by simp⟩, fun h => by simp at h, h3, h4, hm5⟩
  · have := h1 rfl
    simp only at this h5 ⊢
    by_cases hm : m + 1 < c
    · simp only [if_true, hm, decide_true]
      rw [if_pos (.inr (by omega))]
      exact ⟨fun _ => ⟨rfl, by simp⟩, fun h => by simp at h, h3, h4, hm5⟩
    · simp only [if_true, hm, decide_false]
      simp only [Bool.false_eq_true, if_false]
      rw [if_neg (by omega)]
      exact ⟨fun _ => ⟨this.1, this.2⟩, fun h => by simp at h, h3, h4, h5⟩
theorem WL.lose {o : OutP} {win lose : Int} {m : Nat} (h : WL o win lose) (hm5 : m + 1 ≤ 5000) :
    WL (if betB (false, m + 1) o = true then (false, m + 1) else o) win (max lose ((m + 1 : Nat) : Int)) := by
  obtain ⟨a, c⟩ := o
  obtain ⟨h1, h2, h3, h4, h5⟩ := h
  unfold betB
  cases a
  · have := h2 rfl
    simp only at this h5 ⊢
    by_cases hm : c < m + 1
    · simp only [if_true, Bool.false_eq_true, if_false, hm, decide_true]
      exact ⟨fun h => by simp at h, fun _ => ⟨this.1, by simp only; omega⟩, by omega, by omega, hm5⟩
    · simp only [if_true, Bool.false_eq_true, if_false, hm, decide_false]
      exact ⟨fun h => by simp at h, fun _ => ⟨this.1, by simp only; omega⟩, by omega, by omega, h5⟩
  · have := h1 rfl
    simp only [Bool.false_eq_true, if_false]
    exact ⟨fun _ => this, fun h => by simp at h, by omega, by omega, h5⟩
theorem WL.done {o : OutP} {win lose : Int} (h : WL o win lose) : (if win = 0 then -lose else win) = scO o := by
  obtain ⟨a, c⟩ := o
  obtain ⟨h1, h2, h3, h4, h5⟩ := h
  unfold scO
  cases a
  · have := h2 rfl
    rw [if_pos this.1]
    simp only [Bool.false_eq_true, if_false] at this ⊢
    omega
  · have := h1 rfl
    simp only at this
    rw [if_neg (by omega)]
    simp [this.1]
end
end Go.Proofs.Ytiapbmgpjloafaa
