/- Orders done again and again: when all numbers are at home. Nothing of the program is said here. -/
import Derived.Test.YtijddnllacphfaaCy2
import Derived.Test.YtijddnllacphfaaO5
namespace Go.Proofs.Ytijddnllacphfaa
open Go
theorem pos_add (zs : List Int) (a i j : Nat) : pos zs a (i + j) = pos zs (pos zs a i) j := by
  induction j with
  | zero => rfl
  | succ j ih => show (gi zs (pos zs a (i + j))).toNat = (gi zs (pos zs (pos zs a i) j)).toNat; rw [ih]
theorem nx_inj {zs : List Int} (h : ord zs = true) {a b : Nat} (ha : a < zs.length) (hb : b < zs.length) (e : (gi zs a).toNat = (gi zs b).toNat) : a = b := by
  have h1 := ord_at h ha
  have h2 := ord_at h hb
  have e' : gi zs a = gi zs b := by omega
  rcases Nat.lt_trichotomy a b with g | g | g
  · exact absurd e' (nodup_gi.1 (ord_iff.1 h).2.2.2 a b g hb)
  · exact g
  · exact absurd e'.symm (nodup_gi.1 (ord_iff.1 h).2.2.2 b a g ha)
theorem pos_mul {zs : List Int} {a L : Nat} (e : pos zs a L = a) (q : Nat) : pos zs a (L * q) = a := by
  induction q with
  | zero => rfl
  | succ q ih => rw [Nat.mul_succ, pos_add, ih, e]
theorem upds_iff {s : Nat → Bool} {zs : List Int} {a i j : Nat} : upds s zs a i j = true ↔ s j = true ∨ ∃ t, t < i ∧ j = pos zs a t := by
  induction i with
  | zero => simp [upds]
  | succ i ih =>
    simp only [upds]
    split
    · rename_i e
      simp only [true_iff]
      exact .inr ⟨i, by omega, e⟩
    · rename_i e
      rw [ih]
      constructor
      · rintro (h | ⟨t, ht, h⟩)
        · exact .inl h
        · exact .inr ⟨t, by omega, h⟩
      · rintro (h | ⟨t, ht, h⟩)
        · exact .inl h
        · refine .inr ⟨t, ?_, h⟩
          rcases Nat.lt_or_ge t i with g | g
          · exact g
          · obtain rfl : t = i := by omega
            exact absurd h e

/-- what is marked are whole cycles, and each cycle comes back to where it began and no sooner -/
structure CInv (zs : List Int) (k : Nat) : Prop where
  clo : ∀ j, j < zs.length → (seenK zs k j = true ↔ seenK zs k (gi zs j).toNat = true)
  ret : ∀ j, seenK zs k j = true → ∃ c ∈ cycK zs k, pos zs j c.length = j
  cyc : ∀ c ∈ cycK zs k, ∃ a, a < zs.length ∧ 0 < c.length ∧ pos zs a c.length = a ∧ ∀ i, 0 < i → i < c.length → pos zs a i ≠ a
theorem cinv {zs : List Int} (h : ord zs = true) : ∀ k, k ≤ zs.length → CInv zs k := by
  intro k
  induction k with
  | zero => exact fun _ => ⟨fun j _ => by simp [seenK], fun j hj => by simp [seenK] at hj, fun c hc => by simp [cycK] at hc⟩
  | succ k ih =>
    intro hk
    have hi := ih (by omega)
    have hin := ord_inn h
    have hkl : k < zs.length := by omega
    obtain ⟨hst, _⟩ := clen_stop (s := seenK zs k) hin (ord_iff.1 h).2.1 hkl
    by_cases hs : seenK zs k k = true
    · have h0 : clen (seenK zs k) zs k = 0 := hst.unique ⟨hs, fun i hi => absurd hi (by omega)⟩
      have e1 : cycK zs (k + 1) = cycK zs k := by simp only [cycK]; rw [if_pos h0]
      have e2 : seenK zs (k + 1) = seenK zs k := by simp only [seenK]; rw [h0]; rfl
      exact ⟨by rw [e2]; exact hi.clo, by rw [e1, e2]; exact hi.ret, by rw [e1]; exact hi.cyc⟩
    · obtain ⟨L, hL⟩ : ∃ L, L = clen (seenK zs k) zs k := ⟨_, rfl⟩
      rw [← hL] at hst
      have h0 : 0 < L := by
        rcases Nat.eq_zero_or_pos L with g | g
        · rw [g] at hst; exact absurd hst.1 hs
        · exact g
      have eL : pos zs k L = k := by
        obtain ⟨M, rfl⟩ : ∃ M, L = M + 1 := ⟨L - 1, by omega⟩
        have hf := hst.2 M (by omega)
        rw [← Bool.not_eq_true, upds_iff] at hf
        rcases upds_iff.1 hst.1 with g | ⟨t, ht, e⟩
        · exact absurd (.inl ((hi.clo _ (pos_lt hin hkl M)).2 g)) hf
        · cases t with
          | zero => exact e
          | succ t => exact absurd (.inr ⟨t, by omega, nx_inj h (pos_lt hin hkl M) (pos_lt hin hkl t) e⟩) hf
      have e1 : cycK zs (k + 1) = cycK zs k ++ [Go.Proofs.Ytijddnllacphfaa.cyc zs k L] := by simp only [cycK]; rw [← hL, if_neg (by omega)]
      have e2 : ∀ j, seenK zs (k + 1) j = true ↔ seenK zs k j = true ∨ ∃ t, t < L ∧ j = pos zs k t := fun j => by simp only [seenK]; rw [← hL, upds_iff]
      refine ⟨fun j hj => ?_, fun j hj => ?_, fun c hc => ?_⟩
      · rw [e2, e2]
        constructor
        · rintro (g | ⟨t, ht, rfl⟩)
          · exact .inl ((hi.clo j hj).1 g)
          · by_cases g : t + 1 = L
            · exact .inr ⟨0, h0, by show pos zs k (t + 1) = k; rw [g]; exact eL⟩
            · exact .inr ⟨t + 1, by omega, rfl⟩
        · rintro (g | ⟨t, ht, e⟩)
          · exact .inl ((hi.clo j hj).2 g)
          · cases t with
            | zero =>
              refine .inr ⟨L - 1, by omega, nx_inj h hj (pos_lt hin hkl _) ?_⟩
              rw [e]
              show k = pos zs k (L - 1 + 1)
              rw [Nat.sub_add_cancel h0, eL]
            | succ t => exact .inr ⟨t, by omega, nx_inj h hj (pos_lt hin hkl _) e⟩
      · rw [e1]
        rcases (e2 j).1 hj with g | ⟨t, ht, rfl⟩
        · obtain ⟨c, hc, e⟩ := hi.ret j g
          exact ⟨c, List.mem_append_left _ hc, e⟩
        · refine ⟨_, List.mem_append_right _ (List.mem_singleton.2 rfl), ?_⟩
          rw [cyc_length, ← pos_add, Nat.add_comm, pos_add, eL]
      · rw [e1] at hc
        rcases List.mem_append.1 hc with g | g
        · exact hi.cyc c g
        · rw [List.mem_singleton.1 g, cyc_length]
          refine ⟨k, hkl, h0, eL, fun i h1 h2 e => ?_⟩
          have hf := hst.2 i h2
          rw [← Bool.not_eq_true, upds_iff] at hf
          exact hf (.inr ⟨0, h1, e⟩)

/-- the least number that the lengths of the first j parts divide -/
def lcmK (zss : List (List Int)) : Nat → Nat
  | 0 => 1
  | j + 1 => Nat.lcm (lcmK zss j) (gz zss j).length
def per (zs : List Int) : Nat := lcmK (cycles zs) (cycles zs).length
theorem lcmK_dvd (zss : List (List Int)) (t j : Nat) : lcmK zss j ∣ t ↔ ∀ i, i < j → (gz zss i).length ∣ t := by
  induction j with
  | zero => simp [lcmK]
  | succ j ih =>
    simp only [lcmK]
    rw [Nat.lcm_dvd_iff, ih]
    constructor
    · rintro ⟨h1, h2⟩ i hi
      rcases Nat.lt_or_ge i j with g | g
      · exact h1 i g
      · obtain rfl : i = j := by omega
        exact h2
    · intro h1
      exact ⟨fun i hi => h1 i (by omega), h1 j (by omega)⟩
theorem mem_gz {zss : List (List Int)} {c : List Int} : c ∈ zss ↔ ∃ j, j < zss.length ∧ gz zss j = c := by
  constructor
  · intro h
    obtain ⟨j, hj, e⟩ := List.mem_iff_getElem.1 h
    exact ⟨j, hj, by simp [gz, List.getD, hj, e]⟩
  · rintro ⟨j, hj, rfl⟩
    simp [gz, List.getD, hj]
theorem home_iff {zs : List Int} (h : ord zs = true) (t : Nat) : (∀ j, j < zs.length → pos zs j t = j) ↔ per zs ∣ t := by
  have hi := cinv h zs.length (Nat.le_refl _)
  have hin := ord_inn h
  unfold per
  rw [lcmK_dvd]
  constructor
  · intro ha i hi2
    obtain ⟨a, h1, h2, h3, h4⟩ := hi.cyc (gz (cycles zs) i) (mem_gz.2 ⟨i, hi2, rfl⟩)
    have e := ha a h1
    have h5 := Nat.mod_lt t h2
    have e2 : pos zs a (t % (gz (cycles zs) i).length) = a := by
      rw [← Nat.div_add_mod t (gz (cycles zs) i).length, pos_add, pos_mul h3] at e
      exact e
    rcases Nat.eq_zero_or_pos (t % (gz (cycles zs) i).length) with g | g
    · exact Nat.dvd_of_mod_eq_zero g
    · exact absurd e2 (h4 _ g h5)
  · intro ha j hj
    obtain ⟨c, hc, e⟩ := hi.ret j (seen_all hin (ord_iff.1 h).2.1 _ (Nat.le_refl _) j hj)
    obtain ⟨i, hi2, rfl⟩ := mem_gz.1 hc
    obtain ⟨q, rfl⟩ := ha i hi2
    exact pos_mul e q
theorem two_pow (n : Nat) : n ≤ 2 ^ n := Nat.le_of_lt Nat.lt_two_pow_self
theorem lcmK_le (zss : List (List Int)) (j : Nat) : lcmK zss j ≤ 2 ^ tot zss j := by
  induction j with
  | zero => simp [lcmK, tot]
  | succ j ih =>
    simp only [lcmK, tot]
    rw [Nat.pow_add]
    refine Nat.le_trans ?_ (Nat.mul_le_mul ih (two_pow _))
    rw [Nat.lcm]
    exact Nat.div_le_self _ _
theorem cyc_pos {zs : List Int} (h : ord zs = true) {j : Nat} (hj : j < (cycles zs).length) : 0 < (gz (cycles zs) j).length := by
  obtain ⟨a, _, h2, _⟩ := (cinv h zs.length (Nat.le_refl _)).cyc (gz (cycles zs) j) (mem_gz.2 ⟨j, hj, rfl⟩)
  exact h2
theorem lcmK_pos {zs : List Int} (h : ord zs = true) : ∀ j, j ≤ (cycles zs).length → 0 < lcmK (cycles zs) j := by
  intro j
  induction j with
  | zero => intro _; simp [lcmK]
  | succ j ih => intro hj; simp only [lcmK]; exact Nat.lcm_pos (ih (by omega)) (cyc_pos h (by omega))
theorem lcmK_256 {zs : List Int} (h : ord zs = true) {j : Nat} (hj : j ≤ (cycles zs).length) : lcmK (cycles zs) j ≤ 256 := by
  have h8 := (ord_iff.1 h).2.1
  have h1 := (cycles_sum (ord_inn h) h8).1
  have h2 := tot_le (cycles zs) hj
  rw [tot_all] at h2
  exact Nat.le_trans (lcmK_le _ _) (Nat.le_trans (Nat.pow_le_pow_right (by decide) (show _ ≤ 8 by omega)) (by decide))
theorem lcm_step (a b : Nat) : a / Nat.gcd a b * b = Nat.lcm a b := by
  rw [Nat.lcm, Nat.div_mul_right_comm (Nat.gcd_dvd_left a b)]

/-- the seats after t times -/
def pw (zs : List Int) (t : Nat) : List Int := (List.range 8).map fun (j : Nat) => if j < zs.length then (pos zs j t : Int) else (j : Int)
theorem pw_length (zs : List Int) (t : Nat) : (pw zs t).length = 8 := by simp [pw]
theorem gi_pw (zs : List Int) (t j : Nat) (hj : j < 8) : gi (pw zs t) j = if j < zs.length then (pos zs j t : Int) else (j : Int) := by
  rw [gi_lt (by rw [pw_length]; exact hj)]; simp [pw]
theorem pw_one {zs : List Int} (h : ord zs = true) : pw zs 1 = seats zs := by
  refine gi_ext (by rw [pw_length, seats_length]) (fun j hj => ?_)
  rw [pw_length] at hj
  rw [gi_pw _ _ _ hj, gi_seats _ _ hj]
  split
  · rename_i g
    have := ord_at h g
    simp only [pos]
    omega
  · rfl
theorem pw_in8 {zs : List Int} (h : ord zs = true) (t : Nat) : In8 (pw zs t) := by
  refine ⟨pw_length zs t, fun j hj => ?_⟩
  rw [gi_pw _ _ _ hj]
  have h8 := (ord_iff.1 h).2.1
  split
  · rename_i g
    have := pos_lt (ord_inn h) g t
    omega
  · omega
theorem pw_succ {zs : List Int} (h : ord zs = true) (t : Nat) : thn (pw zs t) (seats zs) = pw zs (t + 1) := by
  have h8 := (ord_iff.1 h).2.1
  refine gi_ext (by rw [thn_length, pw_length]) (fun j hj => ?_)
  rw [thn_length] at hj
  rw [gi_thn _ _ _ hj, gi_pw _ _ _ hj, gi_pw _ _ _ hj]
  split
  · rename_i g
    have hp := pos_lt (ord_inn h) g t
    have := ord_at h hp
    rw [Int.toNat_natCast, gi_seats _ _ (by omega), if_pos hp]
    simp only [pos]
    omega
  · rename_i g
    rw [Int.toNat_natCast, gi_seats _ _ hj, if_neg g]
theorem pw_home {zs : List Int} (h : ord zs = true) (t : Nat) : pw zs t = home8 ↔ per zs ∣ t := by
  have h8 := (ord_iff.1 h).2.1
  rw [← home_iff h, ← seats_nil]
  constructor
  · intro e j hj
    have e2 := gi_pw zs t j (by omega)
    rw [e, gi_seats _ _ (by omega), if_neg (by simp), if_pos hj] at e2
    omega
  · intro ha
    refine gi_ext (by rw [pw_length, seats_length]) (fun j hj => ?_)
    rw [pw_length] at hj
    rw [gi_pw _ _ _ hj, gi_seats _ _ hj, if_neg (show ¬ j < ([] : List Int).length by simp)]
    split
    · rename_i g
      rw [ha j g]
    · rfl
theorem per_pos {zs : List Int} (h : ord zs = true) : 0 < per zs := lcmK_pos h _ (Nat.le_refl _)
theorem per_le {zs : List Int} (h : ord zs = true) : per zs ≤ 256 := lcmK_256 h (Nat.le_refl _)
end Go.Proofs.Ytijddnllacphfaa
