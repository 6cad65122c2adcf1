/- Meetings in a table: the mathematics. -/
import Derived.Test.YthalcjgpjagcoaaGm1
import Derived.Test.YthalcjgpjagcoaaC1i
namespace Go.Proofs.Ythalcjgpjagcoaa
open Go Go.RowKit

/-- what holds of all rungs -/
def Sml (zs : List Int) (W : Int) : Prop := W ≤ 8 ∧ ∀ j, j < zs.length → 0 ≤ gi zs j ∧ gi zs j ≤ W - 2
theorem Sml.of {W : Int} {zs : List Int} (h : lad W zs = true) : Sml zs W := ⟨(lad_iff.1 h).1.2, fun _ hj => lad_at h hj⟩
theorem at_stand {zs : List Int} {W : Int} (h : Sml zs W) : ∀ k, k ≤ zs.length → ∀ j, j < 8 → ∃ s : Nat, s < 8 ∧ gi (stand zs k) j = (s : Int) ∧ at_ zs (s : Int) k = (j : Int)
  | 0, _, j, hj => ⟨j, hj, by simp only [stand]; rw [gi_marks _ _ _ hj]; omega, at_zero _ _⟩
  | k + 1, hk, j, hj => by
    have hg := h.2 k (by omega)
    have hW := h.1
    obtain ⟨r, hr⟩ : ∃ r : Nat, gi zs k = (r : Int) := ⟨(gi zs k).toNat, by omega⟩
    have e : gi (stand zs (k + 1)) j = if j = r + 1 then gi (stand zs k) r else if j = r then gi (stand zs k) (r + 1) else gi (stand zs k) j := by
      have e2 : stand zs (k + 1) = swp (stand zs k) r := by simp only [stand]; rw [hr, Int.toNat_natCast]
      rw [e2, gi_swp (by rw [stand_length]; omega)]
    rw [e]
    by_cases h1 : j = r + 1
    · obtain ⟨s, hs, e1, e2⟩ := at_stand h k (by omega) r (by omega)
      refine ⟨s, hs, by rw [if_pos h1]; exact e1, ?_⟩
      rw [at_succ _ _ _ (by omega), e2, hr]
      unfold over; rw [if_pos rfl]; omega
    · by_cases h2 : j = r
      · obtain ⟨s, hs, e1, e2⟩ := at_stand h k (by omega) (r + 1) (by omega)
        refine ⟨s, hs, by rw [if_neg h1, if_pos h2]; exact e1, ?_⟩
        rw [at_succ _ _ _ (by omega), e2, hr]
        unfold over; rw [if_neg (by omega), if_pos (by omega)]; omega
      · obtain ⟨s, hs, e1, e2⟩ := at_stand h k (by omega) j hj
        refine ⟨s, hs, by rw [if_neg h1, if_neg h2]; exact e1, ?_⟩
        rw [at_succ _ _ _ (by omega), e2, hr]
        unfold over; rw [if_neg (by omega), if_neg (by omega)]

/-- how often two have met behind the first k rungs; never for one and the same -/
def mtN (zs : List Int) (a b : Nat) (k : Nat) : Int := if a = b then 0 else meets zs (a : Int) (b : Int) k
theorem mtN_le (zs : List Int) (a b k : Nat) : 0 ≤ mtN zs a b k ∧ mtN zs a b k ≤ k := by
  unfold mtN
  split
  · omega
  · exact meets_le _ _ _ _
theorem mtN_zero (zs : List Int) (a b : Nat) : mtN zs a b 0 = 0 := by unfold mtN meets; split <;> rfl

theorem st_pair {zs : List Int} {W : Int} (h : Sml zs W) {k : Nat} (hk : k < zs.length) {r s1 s2 : Nat} (hr : gi zs k = (r : Int)) (h1 : gi (stand zs k) r = (s1 : Int)) (h2 : gi (stand zs k) (r + 1) = (s2 : Int)) :
    s1 < 8 ∧ s2 < 8 ∧ at_ zs (s1 : Int) k = (r : Int) ∧ at_ zs (s2 : Int) k = (r : Int) + 1 ∧ s1 ≠ s2 := by
  have hg := h.2 k hk
  have hW := h.1
  obtain ⟨t1, ht1, e1, f1⟩ := at_stand h k (by omega) r (by omega)
  obtain ⟨t2, ht2, e2, f2⟩ := at_stand h k (by omega) (r + 1) (by omega)
  have g1 : t1 = s1 := by omega
  have g2 : t2 = s2 := by omega
  subst g1; subst g2
  refine ⟨ht1, ht2, f1, by omega, fun e => ?_⟩
  rw [e] at f1
  omega
theorem st_who {zs : List Int} {W : Int} (h : Sml zs W) {k : Nat} (hk : k < zs.length) {r s1 s2 : Nat} (hr : gi zs k = (r : Int)) (h1 : gi (stand zs k) r = (s1 : Int)) (h2 : gi (stand zs k) (r + 1) = (s2 : Int)) {a : Nat} (ha : a < 8) :
    (at_ zs (a : Int) k = (r : Int) ↔ a = s1) ∧ (at_ zs (a : Int) k = (r : Int) + 1 ↔ a = s2) := by
  obtain ⟨q1, q2, f1, f2, _⟩ := st_pair h hk hr h1 h2
  have hs := (stand_at h.1 h.2 ha k (by omega)).2
  refine ⟨⟨fun e => ?_, fun e => by rw [e]; exact f1⟩, ⟨fun e => ?_, fun e => by rw [e]; exact f2⟩⟩
  · rw [e, Int.toNat_natCast, h1] at hs; omega
  · have e3 : ((r : Int) + 1).toNat = r + 1 := by omega
    rw [e, e3, h2] at hs; omega
theorem mt_step {zs : List Int} {W : Int} (h : Sml zs W) {k : Nat} (hk : k < zs.length) {r s1 s2 : Nat} (hr : gi zs k = (r : Int)) (h1 : gi (stand zs k) r = (s1 : Int)) (h2 : gi (stand zs k) (r + 1) = (s2 : Int)) {a b : Nat} (ha : a < 8) (hb : b < 8) :
    mtN zs a b (k + 1) = mtN zs a b k + (if (a = s1 ∧ b = s2) ∨ (a = s2 ∧ b = s1) then 1 else 0) := by
  obtain ⟨q1, q2, f1, f2, hne⟩ := st_pair h hk hr h1 h2
  unfold mtN
  by_cases hab : a = b
  · rw [if_pos hab, if_pos hab, if_neg (by omega)]; rfl
  · rw [if_neg hab, if_neg hab]
    have wa := st_who h hk hr h1 h2 ha
    have wb := st_who h hk hr h1 h2 hb
    have sa := (stand_at h.1 h.2 ha k (by omega)).2
    have sb := (stand_at h.1 h.2 hb k (by omega)).2
    have hxy : at_ zs (a : Int) k ≠ at_ zs (b : Int) k := fun e => by rw [e, sb] at sa; omega
    have key : (at_ zs (a : Int) (k + 1) = at_ zs (b : Int) k ∧ at_ zs (b : Int) (k + 1) = at_ zs (a : Int) k) ↔ ((a = s1 ∧ b = s2) ∨ (a = s2 ∧ b = s1)) := by
      rw [at_succ _ _ _ hk, at_succ _ _ _ hk, hr, ← wa.1, ← wa.2, ← wb.1, ← wb.2]
      obtain ⟨x, hx⟩ : ∃ x, x = at_ zs (a : Int) k := ⟨_, rfl⟩
      obtain ⟨y, hy⟩ : ∃ y, y = at_ zs (b : Int) k := ⟨_, rfl⟩
      rw [← hx, ← hy] at hxy ⊢
      unfold over
      constructor
      · rintro ⟨e1, e2⟩
        split at e1
        · exact .inl ⟨by assumption, by omega⟩
        · split at e1
          · exact .inr ⟨by assumption, by omega⟩
          · exact absurd e1 hxy
      · rintro (⟨e1, e2⟩ | ⟨e1, e2⟩)
        · rw [if_pos e1, if_neg (by omega), if_pos e2]; exact ⟨e2.symm, e1.symm⟩
        · rw [if_neg (by omega), if_pos e1, if_pos e2]; exact ⟨e2.symm, e1.symm⟩
    simp only [meets]
    by_cases c : (a = s1 ∧ b = s2) ∨ (a = s2 ∧ b = s1)
    · rw [if_pos c, if_pos (key.2 c)]
    · rw [if_neg c, if_neg (fun e => c (key.1 e))]

/-! how many rungs one goes over -/
def usN (zs : List Int) (a : Nat) : Nat → Int
  | 0 => 0
  | k + 1 => usN zs a k + (if at_ zs (a : Int) k = at_ zs (a : Int) (k + 1) then 0 else 1)
theorem usN_le (zs : List Int) (a k : Nat) : 0 ≤ usN zs a k ∧ usN zs a k ≤ k := by
  induction k with
  | zero => simp [usN]
  | succ k ih => simp only [usN]; split <;> omega
theorem us_step {zs : List Int} {W : Int} (h : Sml zs W) {k : Nat} (hk : k < zs.length) {r s1 s2 : Nat} (hr : gi zs k = (r : Int)) (h1 : gi (stand zs k) r = (s1 : Int)) (h2 : gi (stand zs k) (r + 1) = (s2 : Int)) {a : Nat} (ha : a < 8) :
    usN zs a (k + 1) = usN zs a k + (if a = s1 ∨ a = s2 then 1 else 0) := by
  have wa := st_who h hk hr h1 h2 ha
  simp only [usN]
  rw [at_succ _ _ _ hk, hr]
  by_cases c : a = s1 ∨ a = s2
  · rw [if_pos c]
    rcases c with c | c
    · have e := wa.1.2 c
      rw [e, ← over_1 rfl, if_neg (by omega)]
    · have e := wa.2.2 c
      rw [e, ← over_2 (by omega) rfl, if_neg (by omega)]
  · have e1 : ¬ at_ zs (a : Int) k = (r : Int) := fun e => c (.inl (wa.1.1 e))
    have e2 : ¬ at_ zs (a : Int) k = (r : Int) + 1 := fun e => c (.inr (wa.2.1 e))
    rw [if_neg c, ← over_3 e1 e2, if_pos rfl]
/-- the sum of the first B entries of a row -/
def smN (zs : List Int) (a k : Nat) : Nat → Int
  | 0 => 0
  | B + 1 => smN zs a k B + mtN zs a B k
theorem smN_le (zs : List Int) (a k B : Nat) : 0 ≤ smN zs a k B ∧ smN zs a k B ≤ B * k := by
  induction B with
  | zero => simp [smN]
  | succ B ih =>
    have := mtN_le zs a B k
    simp only [smN]
    have e : ((B + 1 : Nat) : Int) * (k : Int) = (B : Int) * k + k := by rw [Int.natCast_add, Int.add_mul]; simp
    rw [e]; omega
theorem sm_step {zs : List Int} {W : Int} (h : Sml zs W) {k : Nat} (hk : k < zs.length) {r s1 s2 : Nat} (hr : gi zs k = (r : Int)) (h1 : gi (stand zs k) r = (s1 : Int)) (h2 : gi (stand zs k) (r + 1) = (s2 : Int)) {a : Nat} (ha : a < 8) (B : Nat) (hB : B ≤ 8) :
    smN zs a (k + 1) B = smN zs a k B + (if (a = s1 ∧ s2 < B) ∨ (a = s2 ∧ s1 < B) then 1 else 0) := by
  have hne := (st_pair h hk hr h1 h2).2.2.2.2
  induction B with
  | zero => simp [smN]
  | succ B ih =>
    simp only [smN]
    rw [ih (by omega), mt_step h hk hr h1 h2 ha (by omega)]
    split <;> split <;> split <;> omega
theorem mt_far {zs : List Int} {W : Int} (h : Sml zs W) {s : Int} (hs : W ≤ s) : ∀ k, k ≤ zs.length → at_ zs s k = s
  | 0, _ => at_zero _ _
  | k + 1, hk => by
    have hg := h.2 k (by omega)
    rw [at_succ _ _ _ (by omega), mt_far h hs k (by omega)]
    unfold over; rw [if_neg (by omega), if_neg (by omega)]
theorem sm_us {zs : List Int} {N : Nat} (h : Sml zs (N : Int)) {a : Nat} (ha : a < N) : ∀ k, k ≤ zs.length → smN zs a k N = usN zs a k
  | 0, _ => by
    have : ∀ B, smN zs a 0 B = 0 := fun B => by
      induction B with
      | zero => rfl
      | succ B ih => simp only [smN]; rw [ih, mtN_zero]; rfl
    rw [this]; rfl
  | k + 1, hk => by
    have hN := h.1
    have hg := h.2 k (by omega)
    obtain ⟨r, hr⟩ : ∃ r : Nat, gi zs k = (r : Int) := ⟨(gi zs k).toNat, by omega⟩
    obtain ⟨s1, q1, e1, f1⟩ := at_stand h k (by omega) r (by omega)
    obtain ⟨s2, q2, e2, f2⟩ := at_stand h k (by omega) (r + 1) (by omega)
    have b1 : s1 < N := by
      rcases Nat.lt_or_ge s1 N with c | c
      · exact c
      · have := mt_far h (s := (s1 : Int)) (by omega) k (by omega); omega
    have b2 : s2 < N := by
      rcases Nat.lt_or_ge s2 N with c | c
      · exact c
      · have := mt_far h (s := (s2 : Int)) (by omega) k (by omega); omega
    rw [sm_step h (by omega) hr e1 e2 (by omega) N (by omega), us_step h (by omega) hr e1 e2 (by omega), sm_us h ha k (by omega)]
    by_cases c : a = s1 ∨ a = s2
    · rw [if_pos c, if_pos (by omega)]
    · rw [if_neg c, if_neg (by omega)]
end Go.Proofs.Ythalcjgpjagcoaa
