/- Noughts and ones: a ladder sorts the falling order just where it sorts all lists of noughts and ones. Mathematics alone. -/
import Derived.Test.YtbfilmdociemmaaSo1
namespace Go.Proofs.Ytbfilmdociemmaa
open Go Go.RowKit

def isBits (vs : List Int) : Prop := ∀ j, j < vs.length → gi vs j = 0 ∨ gi vs j = 1
/-- the sum of the first j numbers -/
def ps (vs : List Int) : Nat → Int
  | 0 => 0
  | j + 1 => ps vs j + gi vs j

theorem ps_congr {vs us : List Int} {k : Nat} (h : ∀ j, j < k → gi vs j = gi us j) : ps vs k = ps us k := by
  induction k with
  | zero => rfl
  | succ k ih => simp only [ps]; rw [ih (fun j hj => h j (by omega)), h k (by omega)]
theorem ps_cmp (vs : List Int) (r : Nat) (hr : r + 1 < vs.length) (hb : isBits vs) (j : Nat) : ps (cmpAt vs r) j = if j = r + 1 then max (ps vs r) (ps vs (r + 2) - 1) else ps vs j := by
  have h0 := hb r (by omega)
  have h1 := hb (r + 1) hr
  have hlow : ∀ j, j ≤ r → ps (cmpAt vs r) j = ps vs j := fun j hj => ps_congr fun i hi => by rw [gi_cmpAt _ _ _ hr, if_neg (by omega), if_neg (by omega)]
  induction j with
  | zero => rw [if_neg (by omega)]; rfl
  | succ j ih =>
    by_cases e : j = r
    · subst e
      rw [if_pos rfl]
      simp only [ps]
      rw [hlow j (Nat.le_refl _), gi_cmpAt _ _ _ hr, if_pos rfl]
      omega
    · rw [if_neg (by omega)]
      by_cases e2 : j = r + 1
      · subst e2
        rw [if_pos rfl] at ih
        show ps (cmpAt vs r) (r + 1) + gi (cmpAt vs r) (r + 1) = ps vs (r + 1) + gi vs (r + 1)
        rw [ih, gi_cmpAt _ _ _ hr, if_neg (by omega), if_pos rfl]
        simp only [ps]
        omega
      · simp only [ps]
        rw [ih, if_neg (by omega), gi_cmpAt _ _ _ hr, if_neg (by omega), if_neg (by omega)]
theorem isBits_cmp {vs : List Int} {r : Nat} (hr : r + 1 < vs.length) (hb : isBits vs) : isBits (cmpAt vs r) := by
  intro j hj
  rw [cmpAt_length] at hj
  rw [gi_cmpAt _ _ _ hr]
  have h0 := hb r (by omega)
  have h1 := hb (r + 1) hr
  split
  · omega
  · split
    · omega
    · exact hb j hj
theorem isBits_runK {zs vs : List Int} (hz : rungsIn zs vs.length) (hb : isBits vs) (k : Nat) (hk : k ≤ zs.length) : isBits (runK zs vs k) := by
  induction k with
  | zero => rw [runK_zero]; exact hb
  | succ k ih => rw [runK_succ _ _ _ (by omega)]; exact isBits_cmp (by rw [runK_length]; exact (hz k (by omega)).2) (ih (by omega))

/-- the ones of u lie no farther to the right than those of v, which are as many -/
def Dom (u v : List Int) : Prop := v.length = u.length ∧ ps v u.length = ps u u.length ∧ ∀ j, ps v j ≤ ps u j
theorem Dom.cmp {u v : List Int} (h : Dom u v) (hu : isBits u) (hv : isBits v) {r : Nat} (hr : r + 1 < u.length) : Dom (cmpAt u r) (cmpAt v r) := by
  obtain ⟨h1, h2, h3⟩ := h
  refine ⟨by rw [cmpAt_length, cmpAt_length]; exact h1, ?_, fun j => ?_⟩
  · rw [cmpAt_length, ps_cmp _ _ (by omega) hv, ps_cmp _ _ hr hu, if_neg (by omega), if_neg (by omega)]; exact h2
  · rw [ps_cmp _ _ (by omega) hv, ps_cmp _ _ hr hu]
    have h4 := h3 r
    have h5 := h3 (r + 2)
    split
    · omega
    · exact h3 j
theorem Dom.run {zs u v : List Int} (hz : rungsIn zs u.length) (h : Dom u v) (hu : isBits u) (hv : isBits v) (k : Nat) (hk : k ≤ zs.length) : Dom (runK zs u k) (runK zs v k) := by
  induction k with
  | zero => rw [runK_zero, runK_zero]; exact h
  | succ k ih =>
    rw [runK_succ _ _ _ (by omega), runK_succ _ _ _ (by omega)]
    exact (ih (by omega)).cmp (isBits_runK hz hu k (by omega)) (isBits_runK (by rw [h.1]; exact hz) hv k (by omega)) (by rw [runK_length]; exact (hz k (by omega)).2)

theorem ps_lo {v : List Int} (hv : isBits v) {j : Nat} (hj : j ≤ v.length) : 0 ≤ ps v j ∧ ps v j ≤ j := by
  induction j with
  | zero => simp [ps]
  | succ j ih =>
    have h1 := ih (by omega)
    have h2 := hv j (by omega)
    simp only [ps]; omega
theorem ps_hi {v : List Int} (hv : isBits v) {j k : Nat} (hjk : j ≤ k) (hk : k ≤ v.length) : ps v j ≤ ps v k ∧ ps v k ≤ ps v j + (k - j : Nat) := by
  obtain ⟨d, rfl⟩ : ∃ d, k = j + d := ⟨k - j, by omega⟩
  clear hjk
  induction d with
  | zero => simp
  | succ d ih =>
    have h1 := ih (by omega)
    have h2 := hv (j + d) (by omega)
    rw [← Nat.add_assoc]
    simp only [ps]; omega
/-- the sums of a sorted list of noughts and ones -/
theorem ps_sorted {v : List Int} (hv : isBits v) (hs : srtB v = true) (j : Nat) (hj : j ≤ v.length) : ps v j = max 0 ((j : Int) + ps v v.length - v.length) := by
  have hm : ∀ i d, i + d < v.length → gi v i ≤ gi v (i + d) := by
    intro i d
    induction d with
    | zero => intro _; exact Int.le_refl _
    | succ d ih => intro hd; exact Int.le_trans (ih (by omega)) (srtB_iff.1 hs (i + d) (by omega))
  by_cases hz : ∃ i, i < j ∧ gi v i = 1
  · obtain ⟨i, hij, hi⟩ := hz
    have h1 : ∀ d, j + d ≤ v.length → ps v (j + d) = ps v j + d := by
      intro d
      induction d with
      | zero => intro _; simp
      | succ d ih =>
        intro hd
        have e1 := ih (by omega)
        have e2 := hm i (j + d - i) (by omega)
        rw [show i + (j + d - i) = j + d by omega] at e2
        have e3 := hv (j + d) (by omega)
        rw [← Nat.add_assoc]
        simp only [ps]; omega
    have h2 := h1 (v.length - j) (by omega)
    rw [show j + (v.length - j) = v.length by omega] at h2
    have h3 := ps_lo hv hj
    omega
  · have h0 : ∀ k, k ≤ j → ps v k = 0 := by
      intro k
      induction k with
      | zero => intro _; rfl
      | succ k ih =>
        intro hk
        simp only [ps]
        have e1 := ih (by omega)
        have e2 := hv k (by omega)
        have e3 : ¬ gi v k = 1 := fun x => hz ⟨k, by omega, x⟩
        omega
    have h1 := h0 j (Nat.le_refl _)
    have h2 := ps_hi hv (j := j) (k := v.length) hj (Nat.le_refl _)
    omega
theorem sorted_of_ps {v : List Int} (hv : isBits v) (h : ∀ j, j ≤ v.length → ps v j = max 0 ((j : Int) + ps v v.length - v.length)) : srtB v = true := by
  rw [srtB_iff]
  intro i hi
  have h1 := h i (by omega)
  have h2 := h (i + 1) (by omega)
  have h3 := h (i + 2) (by omega)
  simp only [ps] at h2 h3
  have := hv i (by omega)
  have := hv (i + 1) (by omega)
  omega
theorem Dom.sorted {u v : List Int} (h : Dom u v) (hu : isBits u) (hv : isBits v) (hs : srtB u = true) : srtB v = true := by
  obtain ⟨h1, h2, h3⟩ := h
  refine sorted_of_ps hv fun j hj => ?_
  have e1 := ps_sorted hu hs j (by omega)
  have e2 := h3 j
  have e3 := ps_lo hv hj
  have e4 := ps_hi hv (j := j) (k := v.length) hj (Nat.le_refl _)
  rw [h1] at e4 ⊢
  omega

/-- ones for all numbers of at least t -/
def th (t : Int) (vs : List Int) : List Int := vs.map fun x => if t ≤ x then 1 else 0
theorem th_length (t : Int) (vs : List Int) : (th t vs).length = vs.length := by simp [th]
theorem gi_th (t : Int) (vs : List Int) (j : Nat) (h : j < vs.length) : gi (th t vs) j = if t ≤ gi vs j then 1 else 0 := by
  rw [gi_lt (by rw [th_length]; exact h), gi_lt h]; simp [th]
theorem isBits_th (t : Int) (vs : List Int) : isBits (th t vs) := by
  intro j hj
  rw [th_length] at hj
  rw [gi_th _ _ _ hj]; split <;> simp
theorem th_cmp (t : Int) (vs : List Int) (r : Nat) (hr : r + 1 < vs.length) : th t (cmpAt vs r) = cmpAt (th t vs) r := by
  refine gi_ext (by rw [th_length, cmpAt_length, cmpAt_length, th_length]) fun j hj => ?_
  rw [th_length, cmpAt_length] at hj
  rw [gi_th _ _ _ (by rw [cmpAt_length]; exact hj), gi_cmpAt _ _ _ hr, gi_cmpAt _ _ _ (by rw [th_length]; exact hr), gi_th _ _ _ (by omega), gi_th _ _ _ hr, gi_th _ _ _ hj]
  by_cases h1 : j = r
  · subst h1
    simp only [if_true]
    by_cases a1 : t ≤ gi vs j <;> by_cases a2 : t ≤ gi vs (j + 1) <;> simp only [a1, a2, if_true, if_false] <;> first | (rw [if_pos (by omega)]; omega) | (rw [if_neg (by omega)]; omega)
  · simp only [if_neg h1]
    by_cases h2 : j = r + 1
    · subst h2
      simp only [if_true]
      by_cases a1 : t ≤ gi vs r <;> by_cases a2 : t ≤ gi vs (r + 1) <;> simp only [a1, a2, if_true, if_false] <;> first | (rw [if_pos (by omega)]; omega) | (rw [if_neg (by omega)]; omega)
    · simp only [if_neg h2]
theorem th_run {zs vs : List Int} (hz : rungsIn zs vs.length) (t : Int) (k : Nat) (hk : k ≤ zs.length) : th t (runK zs vs k) = runK zs (th t vs) k := by
  induction k with
  | zero => rw [runK_zero, runK_zero]
  | succ k ih =>
    rw [runK_succ _ _ _ (by omega), runK_succ _ _ _ (by omega), ← ih (by omega)]
    exact th_cmp _ _ _ (by rw [runK_length]; exact (hz k (by omega)).2)
theorem th_sorted {vs : List Int} (t : Int) (h : srtB vs = true) : srtB (th t vs) = true := by
  rw [srtB_iff]
  intro i hi
  rw [th_length] at hi
  have := srtB_iff.1 h i hi
  rw [gi_th _ _ _ (by omega), gi_th _ _ _ hi]
  split <;> split <;> omega
theorem sorted_of_th {vs : List Int} (h : ∀ t, srtB (th t vs) = true) : srtB vs = true := by
  rw [srtB_iff]
  intro i hi
  have := srtB_iff.1 (h (gi vs i)) i (by rw [th_length]; exact hi)
  rw [gi_th _ _ _ (by omega), gi_th _ _ _ hi, if_pos (Int.le_refl _)] at this
  split at this <;> omega

/-- n - 1, .., 1, 0 -/
def fallL (n : Nat) : List Int := (List.range n).map fun (i : Nat) => ((n - 1 - i : Nat) : Int)
theorem fallL_length (n : Nat) : (fallL n).length = n := by simp [fallL]
theorem gi_fallL (n j : Nat) (h : j < n) : gi (fallL n) j = ((n - 1 - j : Nat) : Int) := by
  rw [gi_lt (by rw [fallL_length]; exact h)]; simp [fallL]

theorem ps_ones {n s : Nat} (hs : s ≤ n) (j : Nat) (hj : j ≤ n) : ps (th ((n - s : Nat) : Int) (fallL n)) j = min (j : Int) s := by
  induction j with
  | zero => simp only [ps]; omega
  | succ j ih =>
    simp only [ps]
    rw [ih (by omega), gi_th _ _ _ (by rw [fallL_length]; omega), gi_fallL _ _ (by omega)]
    split <;> omega
/-- what sorts the falling order sorts all noughts and ones -/
theorem bits_of_fall {zs : List Int} {n : Nat} (hz : rungsIn zs n) (h : srtB (runS zs (fallL n)) = true) {v : List Int} (hv : isBits v) (hl : v.length = n) : srtB (runS zs v) = true := by
  have hps := ps_lo hv (j := v.length) (Nat.le_refl _)
  obtain ⟨s, hs⟩ : ∃ s : Nat, ps v v.length = s := ⟨(ps v v.length).toNat, by omega⟩
  have hsn : s ≤ n := by omega
  have hfl := fallL_length n
  have hul : (th ((n - s : Nat) : Int) (fallL n)).length = n := by rw [th_length, hfl]
  have hD : Dom (th ((n - s : Nat) : Int) (fallL n)) v := by
    refine ⟨by rw [hul, hl], ?_, fun j => ?_⟩
    · rw [hul, ps_ones hsn n (Nat.le_refl _), ← hl, hs]; omega
    · rcases Nat.lt_or_ge n j with hj | hj
      · -- behind the end nothing is added
        have hz : ∀ (u : List Int), u.length = n → ∀ d, ps u (n + d) = ps u n := by
          intro u hu d
          induction d with
          | zero => rfl
          | succ d ih =>
            rw [← Nat.add_assoc]
            simp only [ps]
            rw [ih]
            have : gi u (n + d) = 0 := by unfold gi; simp [List.getD, show u.length ≤ n + d by omega]
            omega
        obtain ⟨d, rfl⟩ : ∃ d, j = n + d := ⟨j - n, by omega⟩
        rw [hz v hl, hz _ hul, ps_ones hsn n (Nat.le_refl _), ← hl, hs]; omega
      · rw [ps_ones hsn j hj]
        have e1 := ps_lo hv (j := j) (by omega)
        have e2 := ps_hi hv (j := j) (k := v.length) (by omega) (Nat.le_refl _)
        omega
  have hR := Dom.run (zs := zs) (by rw [hul]; exact hz) hD (isBits_th _ _) hv zs.length (Nat.le_refl _)
  rw [runK_all, runK_all] at hR
  refine hR.sorted ?_ ?_ ?_
  · rw [← runK_all]; exact isBits_runK (by rw [hul]; exact hz) (isBits_th _ _) _ (Nat.le_refl _)
  · rw [← runK_all]; exact isBits_runK (by rw [hl]; exact hz) hv _ (Nat.le_refl _)
  · rw [← runK_all, ← th_run (by rw [hfl]; exact hz) _ _ (Nat.le_refl _), runK_all]
    exact th_sorted _ h
theorem fall_of_bits {zs : List Int} {n : Nat} (hz : rungsIn zs n) (h : ∀ v : List Int, isBits v → v.length = n → srtB (runS zs v) = true) : srtB (runS zs (fallL n)) = true := by
  refine sorted_of_th fun t => ?_
  rw [← runK_all, th_run (by rw [fallL_length]; exact hz) _ _ (Nat.le_refl _), runK_all]
  exact h _ (isBits_th _ _) (by rw [th_length, fallL_length])
end Go.Proofs.Ytbfilmdociemmaa
