/- Keeping some starts alone: the mathematics. -/
import Derived.Test.YtmlkccihpkpjfaaMr3
import Derived.Test.YtmlkccihpkpjfaaMr6
import Derived.Test.YtmlkccihpkpjfaaMathO
namespace Go.Proofs.Ytmlkccihpkpjfaa
open Go Go.RowKit

def ksT (N : Nat) (vs zs : List Int) : Nat → List Int
  | 0 => zs
  | t + 1 => if hasM vs ((N - 1 - t : Nat) : Int) = true then ksT N vs zs t else tsL (ksT N vs zs t) ((N - 1 - t : Nat) : Int)
def ksW (N : Nat) (vs : List Int) : Nat → Int
  | 0 => (N : Int)
  | t + 1 => if hasM vs ((N - 1 - t : Nat) : Int) = true then ksW N vs t else ksW N vs t - 1
theorem ksT_yes {N t : Nat} {vs zs : List Int} (h : hasM vs ((N - 1 - t : Nat) : Int) = true) : ksT N vs zs (t + 1) = ksT N vs zs t := by rw [ksT, if_pos h]
theorem ksT_no {N t : Nat} {vs zs : List Int} (h : hasM vs ((N - 1 - t : Nat) : Int) = false) : ksT N vs zs (t + 1) = tsL (ksT N vs zs t) ((N - 1 - t : Nat) : Int) := by rw [ksT, if_neg (by rw [h]; simp)]
theorem ksW_yes {N t : Nat} {vs : List Int} (h : hasM vs ((N - 1 - t : Nat) : Int) = true) : ksW N vs (t + 1) = ksW N vs t := by rw [ksW, if_pos h]
theorem ksW_no {N t : Nat} {vs : List Int} (h : hasM vs ((N - 1 - t : Nat) : Int) = false) : ksW N vs (t + 1) = ksW N vs t - 1 := by rw [ksW, if_neg (by rw [h]; simp)]
def kn (vs : List Int) (m : Nat) : Nat := ((List.range m).filter (fun s : Nat => hasM vs (s : Int))).length
theorem kn_zero (vs : List Int) : kn vs 0 = 0 := rfl
theorem kn_yes {vs : List Int} {m : Nat} (h : hasM vs (m : Int) = true) : kn vs (m + 1) = kn vs m + 1 := by
  unfold kn; rw [List.range_succ, List.filter_append, List.length_append]; simp [h]
theorem kn_no {vs : List Int} {m : Nat} (h : hasM vs (m : Int) = false) : kn vs (m + 1) = kn vs m := by
  unfold kn; rw [List.range_succ, List.filter_append, List.length_append]; simp [h]
theorem kn_step (vs : List Int) (m : Nat) : kn vs m ≤ kn vs (m + 1) := by
  rcases h : hasM vs (m : Int) with _ | _
  · rw [kn_no h]; exact Nat.le_refl _
  · rw [kn_yes h]; omega
theorem kn_mono (vs : List Int) {a b : Nat} (h : a ≤ b) : kn vs a ≤ kn vs b := by
  induction b with
  | zero => rw [Nat.le_zero.1 h]; exact Nat.le_refl _
  | succ b ih =>
    rcases Nat.lt_or_ge a (b + 1) with e | e
    · exact Nat.le_trans (ih (by omega)) (kn_step vs b)
    · have e2 : a = b + 1 := by omega
      rw [e2]; exact Nat.le_refl _
theorem kn_le (vs : List Int) (m : Nat) : kn vs m ≤ m := by
  unfold kn; exact Nat.le_trans (List.length_filter_le _ _) (by simp)
theorem ksW_eq (N : Nat) (vs : List Int) (t : Nat) (ht : t ≤ N) : ksW N vs t = ((N - t : Nat) : Int) + (kn vs N : Int) - (kn vs (N - t) : Int) := by
  induction t with
  | zero => simp [ksW]
  | succ t ih =>
    have ih := ih (by omega)
    obtain ⟨s, hs⟩ : ∃ s, s = N - 1 - t := ⟨_, rfl⟩
    have e1 : N - t = s + 1 := by omega
    have e2 : N - (t + 1) = s := by omega
    rw [e1] at ih
    rw [e2]
    rcases h : hasM vs (s : Int) with _ | _
    · rw [ksW_no (by rw [← hs]; exact h), ih, kn_no h]; omega
    · rw [ksW_yes (by rw [← hs]; exact h), ih, kn_yes h]; omega

theorem rs_lt {vs : List Int} {N : Int} (h : rsB vs N = true) {i j : Nat} (hij : i < j) (hj : j < vs.length) : gi vs i < gi vs j := by
  have h2 := (rsB_iff.1 h).2
  induction j with
  | zero => omega
  | succ j ih =>
    have e := h2 j hj
    rcases Nat.lt_or_ge i j with c | c
    · have := ih c (by omega); omega
    · have e3 : i = j := by omega
      rw [e3]; exact e
theorem hasM_iff {vs : List Int} {x : Int} : hasM vs x = true ↔ x ∈ vs := by
  unfold hasM; rw [List.contains_iff_mem]
theorem kn_all {vs : List Int} {N : Nat} (h : rsB vs (N : Int) = true) : kn vs N = vs.length := by
  have hp : (((List.range N).filter (fun s : Nat => hasM vs (s : Int))).map (fun s : Nat => (s : Int))).Perm vs := by
    rw [List.perm_ext_iff_of_nodup]
    · intro x
      rw [List.mem_map]
      constructor
      · rintro ⟨s, hs, rfl⟩
        exact hasM_iff.1 (List.mem_filter.1 hs).2
      · intro hx
        obtain ⟨j, hj, e⟩ := List.getElem_of_mem hx
        have hb := (rsB_iff.1 h).1 j hj
        rw [gi_lt hj, e] at hb
        refine ⟨x.toNat, List.mem_filter.2 ⟨List.mem_range.2 (by omega), ?_⟩, by omega⟩
        rw [Int.toNat_of_nonneg hb.1]
        exact hasM_iff.2 hx
    · have h1 : ((List.range N).filter (fun s : Nat => hasM vs (s : Int))).Nodup := List.Nodup.sublist List.filter_sublist List.nodup_range
      exact List.pairwise_map.2 (List.Pairwise.imp (fun hne e => hne (Int.ofNat.inj e)) h1)
    · exact nodup_gi.2 fun i j hij hj e => by have := rs_lt h hij hj; omega
  have := hp.length_eq
  rw [List.length_map] at this
  exact this

theorem ks_ts {N t : Nat} {vs zs : List Int} (hl : lad (ksW N vs t) (ksT N vs zs t) = true) (hr : rsB vs (N : Int) = true) (h2 : 2 ≤ vs.length) (ht : t < N) (hs : hasM vs ((N - 1 - t : Nat) : Int) = false) :
    tsB (ksW N vs t) (ksT N vs zs t) ((N - 1 - t : Nat) : Int) = true := by
  have e := ksW_eq N vs t (by omega)
  have ea := kn_all hr
  obtain ⟨s, hss⟩ : ∃ s, s = N - 1 - t := ⟨_, rfl⟩
  rw [← hss] at hs ⊢
  have e1 : N - t = s + 1 := by omega
  rw [e1, kn_no hs, ea] at e
  have h3 := kn_le vs s
  have h4 := kn_mono vs (show s ≤ N by omega)
  rw [ea] at h4
  unfold tsB
  rw [Bool.and_eq_true, decide_eq_true_iff]
  exact ⟨wire_iff.2 ⟨hl, by omega, by omega⟩, by omega⟩
theorem ks_lad {N : Nat} {vs zs : List Int} (hl : lad (N : Int) zs = true) (hr : rsB vs (N : Int) = true) (h2 : 2 ≤ vs.length) (t : Nat) (ht : t ≤ N) : lad (ksW N vs t) (ksT N vs zs t) = true := by
  induction t with
  | zero => exact hl
  | succ t ih =>
    have ih := ih (by omega)
    rcases h : hasM vs ((N - 1 - t : Nat) : Int) with _ | _
    · rw [ksW_no h, ksT_no h]
      exact ts_lad (ks_ts ih hr h2 (by omega) h)
    · rw [ksW_yes h, ksT_yes h]
      exact ih
theorem ks_end {N : Nat} {vs : List Int} (hr : rsB vs (N : Int) = true) : ksW N vs N = (vs.length : Int) := by
  rw [ksW_eq N vs N (Nat.le_refl _), Nat.sub_self, kn_zero, kn_all hr]; omega

def ksB (W : Int) (zs vs : List Int) : Bool := lad W zs && (rsB vs W && decide (2 ≤ vs.length))
def ksL (W : Int) (zs vs : List Int) : List Int := ksT W.toNat vs zs W.toNat
theorem ksB_1 {W : Int} {zs vs : List Int} (h : lad W zs = false) : ksB W zs vs = false := by unfold ksB; rw [h]; rfl
theorem ksB_2 {W : Int} {zs vs : List Int} (h : rsB vs W = false) : ksB W zs vs = false := by unfold ksB; rw [h]; simp
theorem ksB_3 {W : Int} {zs vs : List Int} (h : vs.length < 2) : ksB W zs vs = false := by unfold ksB; rw [decide_eq_false (by omega)]; simp
theorem ksB_iff {W : Int} {zs vs : List Int} : ksB W zs vs = true ↔ lad W zs = true ∧ rsB vs W = true ∧ 2 ≤ vs.length := by
  unfold ksB; rw [Bool.and_eq_true, Bool.and_eq_true, decide_eq_true_iff]
theorem ks_len1000 (W : Int) (zs vs : List Int) : (ifL (ksB W zs vs) (ksL W zs vs)).length ≤ 1000 := by
  unfold ifL
  split
  · rename_i h
    have h := ksB_iff.1 h
    have hW := (lad_iff.1 h.1).1
    obtain ⟨N, rfl⟩ : ∃ N : Nat, W = (N : Int) := ⟨W.toNat, by omega⟩
    have := (lad_iff.1 (ks_lad h.1 h.2.1 h.2.2 N (Nat.le_refl _))).2.1
    unfold ksL
    rw [Int.toNat_natCast]
    omega
  · simp
end Go.Proofs.Ytmlkccihpkpjfaa
