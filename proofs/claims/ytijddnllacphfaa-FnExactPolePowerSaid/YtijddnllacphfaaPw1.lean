/- How often a turned order is done until it leaves all as it is: the mathematics. -/
import Derived.Test.YtijddnllacphfaaBt1
import Derived.Test.YtijddnllacphfaaMathT
namespace Go.Proofs.Ytijddnllacphfaa
open Go Go.RowKit

/-- how often one winds in i steps -/
def wnd (zs us : List Int) (a : Nat) : Nat → Int
  | 0 => 0
  | i + 1 => wnd zs us a i + gi us (pos zs a i)
theorem wnd_add (zs us : List Int) (a i j : Nat) : wnd zs us a (i + j) = wnd zs us a i + wnd zs us (pos zs a i) j := by
  induction j with
  | zero => simp [wnd]
  | succ j ih => rw [Nat.add_succ, wnd, ih, wnd, pos_add]; omega
theorem wnd_mul {zs us : List Int} {a L : Nat} (e : pos zs a L = a) (q : Nat) : wnd zs us a (L * q) = (q : Int) * wnd zs us a L := by
  induction q with
  | zero => simp [wnd]
  | succ q ih => rw [Nat.mul_succ, wnd_add, ih, pos_mul e, Int.natCast_succ, Int.add_mul]; omega

/-- the winds of all on a way around -/
def cwn (us : List Int) (c : List Int) : Int := (c.map fun i => gi us i.toNat).sum
theorem cwn_snoc (us c : List Int) (i : Int) : cwn us (c ++ [i]) = cwn us c + gi us i.toNat := by simp [cwn]
theorem cwn_cyc (zs us : List Int) (a : Nat) : ∀ L, cwn us (cyc zs a L) = wnd zs us a L
  | 0 => by simp [cwn, cyc, wnd]
  | L + 1 => by rw [cyc_succ, cwn_snoc, cwn_cyc zs us a L, Int.toNat_natCast, wnd]

/-- each way around begins somewhere and comes back there -/
theorem cycles_are {zs : List Int} (h : ord zs = true) : ∀ k, k ≤ zs.length → ∀ c ∈ cycK zs k, ∃ a, a < zs.length ∧ 0 < c.length ∧ c = cyc zs a c.length ∧ pos zs a c.length = a := by
  intro k
  induction k with
  | zero => intro _ c hc; simp [cycK] at hc
  | succ k ih =>
    intro hk c hc
    have hi := cinv h k (by omega)
    have hin := ord_inn h
    have hkl : k < zs.length := by omega
    obtain ⟨hst, _⟩ := clen_stop (s := seenK zs k) hin (ord_iff.1 h).2.1 hkl
    by_cases hs : seenK zs k k = true
    · have h0 : clen (seenK zs k) zs k = 0 := hst.unique ⟨hs, fun i hi => absurd hi (by omega)⟩
      have e1 : cycK zs (k + 1) = cycK zs k := by simp only [cycK]; rw [if_pos h0]
      rw [e1] at hc
      exact ih (by omega) c hc
    · obtain ⟨L, hL⟩ : ∃ L, L = clen (seenK zs k) zs k := ⟨_, rfl⟩
      rw [← hL] at hst
      have h0 : 0 < L := by
        rcases Nat.eq_zero_or_pos L with g | g
        · rw [g] at hst; exact absurd hst.1 hs
        · exact g
      have eL : pos zs k L = k := by
        obtain ⟨M, rfl⟩ : ∃ M, L = M + 1 := ⟨L - 1, by omega⟩
        have hf := hst.2 M (by omega)
        rw [← Bool.not_eq_true, upds_iff] at hf
        rcases upds_iff.1 hst.1 with g | ⟨t, ht, e⟩
        · exact absurd (.inl ((hi.clo _ (pos_lt hin hkl M)).2 g)) hf
        · cases t with
          | zero => exact e
          | succ t => exact absurd (.inr ⟨t, by omega, nx_inj h (pos_lt hin hkl M) (pos_lt hin hkl t) e⟩) hf
      have e1 : cycK zs (k + 1) = cycK zs k ++ [Go.Proofs.Ytijddnllacphfaa.cyc zs k L] := by simp only [cycK]; rw [← hL, if_neg (by omega)]
      rw [e1] at hc
      rcases List.mem_append.1 hc with g | g
      · exact ih (by omega) c g
      · rw [List.mem_singleton.1 g, cyc_length]
        exact ⟨k, hkl, h0, rfl, eL⟩
/-- each number is met on one of them -/
theorem seen_in {zs : List Int} : ∀ k j, seenK zs k j = true → ∃ c ∈ cycK zs k, ∃ a t, c = cyc zs a c.length ∧ j = pos zs a t
  | 0, j, h => by simp [seenK] at h
  | k + 1, j, h => by
    simp only [seenK] at h
    rcases upds_iff.1 h with g | ⟨t, ht, e⟩
    · obtain ⟨c, hc, a, t, h1, h2⟩ := seen_in k j g
      refine ⟨c, ?_, a, t, h1, h2⟩
      simp only [cycK]
      split
      · exact hc
      · exact List.mem_append_left _ hc
    · refine ⟨cyc zs k (clen (seenK zs k) zs k), ?_, k, t, by rw [cyc_length], e⟩
      simp only [cycK]
      rw [if_neg (by omega)]
      exact List.mem_append_right _ (List.mem_singleton.2 rfl)
theorem cyc_head {zs : List Int} {a b L : Nat} (h0 : 0 < L) (e : cyc zs a L = cyc zs b L) : a = b := by
  obtain ⟨M, rfl⟩ : ∃ M, L = M + 1 := ⟨L - 1, by omega⟩
  have h := congrArg (fun l => gi l 0) e
  simp only [cyc, List.range_succ_eq_map, List.map_cons, gi, List.getD_cons_zero, pos] at h
  omega

/-- nobody winds in all exactly if nobody does on any way around -/
theorem home_winds {zs us : List Int} (h : ord zs = true) : (∀ a, a < zs.length → wnd zs us a (per zs) = 0) ↔ ∀ j, j < (cycles zs).length → cwn us (gz (cycles zs) j) = 0 := by
  have hin := ord_inn h
  have hp := per_pos h
  have hdv := (lcmK_dvd (cycles zs) (per zs) (cycles zs).length).1 (Nat.dvd_refl _)
  have one : ∀ j, j < (cycles zs).length → ∃ a q, a < zs.length ∧ gz (cycles zs) j = cyc zs a (gz (cycles zs) j).length ∧ pos zs a (gz (cycles zs) j).length = a ∧ per zs = (gz (cycles zs) j).length * q ∧ 0 < q := by
    intro j hj
    obtain ⟨a, h1, h2, h3, h4⟩ := cycles_are h zs.length (Nat.le_refl _) _ (mem_gz.2 ⟨j, hj, rfl⟩)
    obtain ⟨q, hq⟩ := hdv j hj
    refine ⟨a, q, h1, h3, h4, hq, ?_⟩
    rcases Nat.eq_zero_or_pos q with g | g
    · rw [g, Nat.mul_zero] at hq; omega
    · exact g
  constructor
  · intro ha j hj
    obtain ⟨a, q, h1, h3, h4, hq, h0⟩ := one j hj
    have e := ha a h1
    rw [hq, wnd_mul h4] at e
    rw [h3, cwn_cyc]
    rcases Int.mul_eq_zero.1 e with g | g
    · omega
    · exact g
  · intro hc a ha
    obtain ⟨c, hcm, b, t, e1, e2⟩ := seen_in zs.length a (seen_all hin (ord_iff.1 h).2.1 _ (Nat.le_refl _) a ha)
    obtain ⟨j, hj, rfl⟩ := mem_gz.1 hcm
    obtain ⟨b', q, h1, h3, h4, hq, h0⟩ := one j hj
    have hl := cyc_pos h hj
    have hbb : b = b' := cyc_head hl (e1.symm.trans h3)
    subst hbb
    have hz : wnd zs us b (gz (cycles zs) j).length = 0 := by rw [← cwn_cyc, ← h3]; exact hc j hj
    have w1 : wnd zs us b (t + per zs) = wnd zs us b t + wnd zs us a (per zs) := by rw [wnd_add, e2]
    have w2 : wnd zs us b (per zs + t) = wnd zs us b (per zs) + wnd zs us b t := by
      rw [wnd_add]
      congr 2
      rw [hq]; exact pos_mul h4 q
    have w3 : wnd zs us b (per zs) = 0 := by rw [hq, wnd_mul h4, hz, Int.mul_zero]
    rw [Nat.add_comm] at w1
    omega
def pwB (zs us : List Int) : Bool := trn zs us && decide (∀ j, j < (cycles zs).length → cwn us (gz (cycles zs) j) = 0)
def pwN (zs us : List Int) : Int := if pwB zs us = true then (per zs : Int) else 0
theorem wnd_le {zs us : List Int} (ok : TOk zs us) (hin : Inn zs) (a : Nat) (ha : a < zs.length) : ∀ i : Nat, -20 * (i : Int) ≤ wnd zs us a i ∧ wnd zs us a i ≤ 20 * (i : Int)
  | 0 => by simp [wnd]
  | i + 1 => by
    have h1 := wnd_le ok hin a ha i
    have h2 := ok.ur (pos zs a i) (pos_lt hin ha i)
    rw [wnd]; omega
end Go.Proofs.Ytijddnllacphfaa
