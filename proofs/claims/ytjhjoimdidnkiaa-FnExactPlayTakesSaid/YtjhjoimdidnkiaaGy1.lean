/- PlayTakes: the mathematics, and whether a list holds a number. -/
import Derived.Test.YtjhjoimdidnkiaaGm6
namespace Go.Proofs.Ytjhjoimdidnkiaa
open Go Go.RowKit

theorem tb_sub {S i : Nat} (h : S.testBit i = true) (j : Nat) : (S - 2 ^ i).testBit j = (S.testBit j && decide (j ≠ i)) := by
  obtain ⟨q, hq⟩ : ∃ q, q = S / 2 ^ i := ⟨_, rfl⟩
  obtain ⟨r, hr⟩ : ∃ r, r = S % 2 ^ i := ⟨_, rfl⟩
  have hrl : r < 2 ^ i := by rw [hr]; exact Nat.mod_lt _ (Nat.two_pow_pos i)
  have hS : S = 2 ^ i * q + r := by rw [hq, hr]; exact (Nat.div_add_mod S (2 ^ i)).symm
  have hodd : q % 2 = 1 := by rw [hq]; exact bit_yes h
  obtain ⟨p, hp⟩ : ∃ p, q = p + 1 := ⟨q - 1, by omega⟩
  have hS2 : S - 2 ^ i = 2 ^ i * p + r := by rw [hS, hp, Nat.mul_succ]; omega
  rw [hS2, hS, Nat.testBit_two_pow_mul_add _ hrl, Nat.testBit_two_pow_mul_add _ hrl]
  by_cases hj : j < i
  · rw [if_pos hj, if_pos hj, decide_eq_true (by omega)]; simp
  · rw [if_neg hj, if_neg hj]
    rcases e : j - i with _ | k
    · rw [decide_eq_false (by omega), Bool.and_false, Nat.testBit_zero]
      exact decide_eq_false (by omega)
    · rw [decide_eq_true (by omega), Bool.and_true, Nat.testBit_succ, Nat.testBit_succ, show p / 2 = q / 2 by omega]
theorem card_sub {S i : Nat} (hb : S.testBit i = true) : ∀ k, (indK (S - 2 ^ i) k).length + (if i < k then 1 else 0) = (indK S k).length
  | 0 => by simp [indK]
  | k + 1 => by
    have ih := card_sub hb k
    have ht := tb_sub hb k
    by_cases e : k = i
    · subst e
      have h2 : (S - 2 ^ k).testBit k = false := by rw [ht]; simp
      rw [if_neg (by omega)] at ih
      rw [indK_no h2, indK_yes hb, if_pos (by omega), List.length_append, ← ih]
      rfl
    · have h2 : (S - 2 ^ i).testBit k = S.testBit k := by rw [ht, decide_eq_true e, Bool.and_true]
      rcases hk : S.testBit k with _ | _
      · rw [indK_no (h2.trans hk), indK_no hk, ← ih]
        congr 1
        by_cases h3 : i < k
        · rw [if_pos h3, if_pos (by omega)]
        · rw [if_neg h3, if_neg (by omega)]
      · rw [indK_yes (h2.trans hk), indK_yes hk, List.length_append, List.length_append, ← ih]
        by_cases h3 : i < k
        · rw [if_pos h3, if_pos (by omega)]; simp <;> omega
        · rw [if_neg h3, if_neg (by omega)]; simp

/-- the rungs that are left behind the first k takes -/
def ptK (zs : List Int) (N : Nat) (vs : List Int) : Nat → Option Nat
  | 0 => some (2 ^ zs.length - 1)
  | k + 1 => match ptK zs N vs k with
    | none => none
    | some S => if (chL zs N S).contains (gi vs k) = true then some (S - 2 ^ (gi vs k).toNat) else none
section
variable {zs vs : List Int} {N : Nat}
theorem ptK_yes {k S : Nat} (h : ptK zs N vs k = some S) (hc : (chL zs N S).contains (gi vs k) = true) : ptK zs N vs (k + 1) = some (S - 2 ^ (gi vs k).toNat) := by
  rw [ptK, h]; simp only; rw [if_pos hc]
theorem ptK_no {k S : Nat} (h : ptK zs N vs k = some S) (hc : (chL zs N S).contains (gi vs k) = false) : ptK zs N vs (k + 1) = none := by
  rw [ptK, h]; simp only; rw [if_neg (by rw [hc]; decide)]
theorem ptK_none {k : Nat} (h : ptK zs N vs k = none) : ∀ j, ptK zs N vs (k + j) = none
  | 0 => h
  | j + 1 => by
    have := ptK_none h j
    show ptK zs N vs (k + j + 1) = none
    rw [ptK, this]
theorem ptK_none_le {k m : Nat} (h : ptK zs N vs k = none) (hk : k ≤ m) : ptK zs N vs m = none := by
  obtain ⟨j, rfl⟩ : ∃ j, m = k + j := ⟨m - k, by omega⟩
  exact ptK_none h j
theorem ch_has {S : Nat} {v : Int} : (chL zs N S).contains v = true ↔ homeQ zs N S = false ∧ ∃ i : Nat, i < zs.length ∧ S.testBit i = true ∧ v = (i : Int) := by
  rw [List.contains_iff_mem]
  unfold chL
  rcases homeQ zs N S with _ | _
  · rw [if_neg (by decide), indK_mem]; simp
  · rw [if_pos rfl]; simp
theorem ptK_ok : ∀ k S, ptK zs N vs k = some S → S < 2 ^ zs.length ∧ (indK S zs.length).length + k = zs.length
  | 0, S, h => by
    simp only [ptK] at h
    injection h with h
    subst h
    have h1 := Nat.two_pow_pos zs.length
    refine ⟨by omega, ?_⟩
    rw [indK_len zs]
    have h2 := leftL_full zs
    unfold leftL at h2
    rw [h2]; rfl
  | k + 1, S, h => by
    rcases e : ptK zs N vs k with _ | T
    · rw [ptK_none_le e (Nat.le_succ k)] at h; cases h
    · obtain ⟨h1, h2⟩ := ptK_ok k T e
      rcases hc : (chL zs N T).contains (gi vs k) with _ | _
      · rw [ptK_no e hc] at h; cases h
      · rw [ptK_yes e hc] at h
        injection h with h
        subst h
        obtain ⟨_, i, hi, hb, hv⟩ := ch_has.1 hc
        rw [hv, Int.toNat_natCast]
        have h3 := card_sub hb zs.length
        rw [if_pos hi] at h3
        exact ⟨Nat.lt_of_le_of_lt (Nat.sub_le _ _) h1, by omega⟩
theorem ptK_long {m : Nat} (h : zs.length < m) : ptK zs N vs m = none := by
  rcases e : ptK zs N vs m with _ | S
  · rfl
  · have := (ptK_ok m S e).2; omega
end
/-- what is left, if all takes can be made -/
def pkO (W : Int) (zs vs : List Int) : Option Nat := if tkB W zs = true then ptK zs W.toNat vs vs.length else none
def pkW (W : Int) (zs vs : List Int) : Int := match pkO W zs vs with | none => 0 | some _ => W
def pkL (W : Int) (zs vs : List Int) : List Int := match pkO W zs vs with | none => [] | some S => leftL zs S
def pkB (W : Int) (zs vs : List Int) : Bool := (pkO W zs vs).isSome
theorem pkO_no {W : Int} {zs vs : List Int} (h : tkB W zs = false) : pkO W zs vs = none := by unfold pkO; rw [h]; rfl
theorem pkO_yes {W : Int} {zs vs : List Int} (h : tkB W zs = true) : pkO W zs vs = ptK zs W.toNat vs vs.length := by unfold pkO; rw [if_pos h]
theorem pkL_le (W : Int) (zs vs : List Int) : (pkL W zs vs).length ≤ 1000 := by
  unfold pkL
  rcases h : pkO W zs vs with _ | S
  · simp
  · have h1 := leftK_len zs S zs.length
    unfold leftL
    rcases hq : tkB W zs with _ | _
    · rw [pkO_no hq] at h; cases h
    · have := (tkB_iff.1 hq).2.1
      simp only; omega

theorem hasNot {q : List Int} {v : Int} (h : ∀ j, j < q.length → gi q j ≠ v) : q.contains v = false := by
  rw [← Bool.not_eq_true, List.contains_iff_mem]
  intro hm
  obtain ⟨j, hj, e⟩ := List.getElem_of_mem hm
  exact h j hj (by rw [gi_lt hj]; exact e)
theorem hasYes {q : List Int} {v : Int} {j : Nat} (hj : j < q.length) (h : gi q j = v) : q.contains v = true := by
  rw [List.contains_iff_mem, ← h, gi_lt hj]; exact List.getElem_mem hj
def IdxPostG (q : List Int) (v : Int) (w : World) (e : Ending) (w' : World) : Prop :=
  ∃ i : Int, e = .returned (.int .i64 i) ∧ decide (0 ≤ i) = q.contains v ∧ w' = w

set_option maxRecDepth 100000 in
set_option maxHeartbeats 1000000 in
theorem indexG_any (a : Option Addr) (k d : Nat) (q : List Int) (v : Int) (w : World) (h : RI w a k q) (hk : k ≤ 1000) : Calls Try.prog 53 #[.slice a k d, .int .i64 v] w (IdxPostG q v w) := by
  have hl := h.1
  go_enter Try.func53, Try.ntmps53
  go_wp2
  go_loopw [5, 8] (fun _ i wr => ∃ j : Nat, j ≤ k ∧ i = .int .i64 (j : Int) ∧ wr = w ∧ ∀ y, y < j → gi q y ≠ v) (fun _ i _ => k - (intOf i).toNat)
  case atStart => exact ⟨0, Nat.zero_le _, rfl, rfl, fun y hy => absurd hy (Nat.not_lt_zero _)⟩
  case round =>
    obtain ⟨j, hj, rfl, rfl, hno⟩ := hrel
    have HN := Lib.hid hno
    clear hno
    by_cases hlt : j < k
    · obtain ⟨b, off, rfl, hbw, hc⟩ := h.cell hlt
      have hcj := hc j hlt
      obtain ⟨y, hy⟩ : ∃ y, y = gi q j := ⟨_, rfl⟩
      rw [← hy] at hcj
      have HY := Lib.hid hy
      clear hc hy h
      by_cases hd : v = y
      · have HC := Lib.hid (hasYes (q := q) (v := v) (j := j) (by omega) (by rw [← HY.out]; exact hd.symm))
        subst hd
        go_wp2
        go_ret
        exact ⟨(j : Int), rfl, by rw [HC.out]; simp, rfl⟩
      · have HD := Lib.hid (fun e : gi q j = v => hd (by rw [HY.out]; exact e.symm))
        go_wp2
        go_roundw
        case rel => exact ⟨j + 1, hlt, by go_num, by first | rfl | trivial, fun z hz => by
          rcases Nat.lt_or_ge z j with e | e
          · exact HN.out z e
          · have e2 : z = j := by omega
            subst e2
            exact HD.out⟩
        case measure => simp [intOf]; omega
    · have HC := Lib.hid (hasNot (q := q) (v := v) (fun z hz => HN.out z (by omega)))
      clear h
      go_wp2
      go_ret
      exact ⟨-1, by first | rfl | trivial, by rw [HC.out]; rfl, by first | rfl | trivial⟩

set_option maxRecDepth 100000 in
set_option maxHeartbeats 1000000 in
theorem containsG_any (a : Option Addr) (k d : Nat) (q : List Int) (v : Int) (w : World) (h : RI w a k q) (hk : k ≤ 1000) : Calls Try.prog 38 #[.slice a k d, .int .i64 v] w (fun e w' => e = .returned (.bool (q.contains v)) ∧ w' = w) := by
  have HX := Lib.hid (indexG_any a k d q v w h hk)
  obtain ⟨B, hB⟩ : ∃ B, B = q.contains v := ⟨_, rfl⟩
  have HBB := Lib.hid hB
  rw [← hB]
  clear hB h
  go_enter Try.func38, Try.ntmps38
  go_wp2_with fail
  refine HX.out.mono ?_
  rintro e w1 ⟨i, rfl, hi, rfl⟩
  have HII := Lib.hid hi
  clear hi
  go_wp2
  go_ret
  exact ⟨by rw [HBB.out, ← HII.out]; rfl, rfl⟩
end Go.Proofs.Ytjhjoimdidnkiaa
