/- The model's question whether a list is an order. -/
import Derived.Test.YtcomgoapekkleaaC1a
import Derived.Test.YtcomgoapekkleaaO2
namespace Go.Proofs.Ytcomgoapekkleaa
open Go Go.RowKit

def has (zs : List Int) (x : Int) : Bool := decide (x ∈ zs)
theorem has_yes {zs : List Int} {x : Int} {j : Nat} (hj : j < zs.length) (h : gi zs j = x) : has zs x = true := decide_eq_true (mem_gi.2 ⟨j, hj, h⟩)
theorem has_no {zs : List Int} {x : Int} (h : ∀ j, j < zs.length → gi zs j ≠ x) : has zs x = false := by
  unfold has; rw [decide_eq_false_iff_not, mem_gi]; rintro ⟨j, hj, e⟩; exact h j hj e

set_option maxHeartbeats 400000 in
theorem l1Has_any (A : Option Addr) (n c : Nat) (zs : List Int) (x : Int) (w : World) (h : RI w A n zs) (hn : n ≤ 1048576) :
    Calls Try.prog 60 #[.slice A n c, .int .i64 x] w (SameB (has zs x) w) := by
  go_enter Try.func60, Try.ntmps60
  go_wp2
  go_loop [6, 9] (fun _ i => ∃ k : Nat, k ≤ n ∧ i = .int .i64 k ∧ ∀ j, j < k → gi zs j ≠ x) (fun _ i => n - (intOf i).toNat)
  case atStart => exact ⟨0, Nat.zero_le _, rfl, fun j hj => absurd hj (by omega)⟩
  case round =>
    obtain ⟨k, hk, rfl, hall⟩ := hrel
    have H3 := Lib.hid hall
    clear hall
    by_cases hlt : k < n
    · obtain ⟨b, off, rfl, hbw, hc⟩ := h.cell hlt
      have hck := hc k hlt
      clear hc
      by_cases hx : gi zs k = x
      · have e1 : (gi zs k == x) = true := beq_iff_eq.2 hx
        have HX := Lib.hid (has_yes (by rw [h.1]; exact hlt) hx)
        clear hx
        go_wp2
        go_ret
        exact ⟨ret_b HX.out.symm, rfl⟩
      · have e1 : (gi zs k == x) = false := beq_eq_false_iff_ne.2 hx
        have HX := Lib.hid hx
        clear hx
        go_wp2
        go_round
        case rel =>
          refine ⟨k + 1, by omega, by go_num, fun j hj => ?_⟩
          by_cases e : j = k
          · rw [e]; exact HX.out
          · exact H3.out j (by omega)
        case measure => simp [intOf]; omega
    · obtain rfl : k = n := by omega
      go_wp2
      go_ret
      exact ⟨ret_b (has_no (by rw [h.1]; exact H3.out)).symm, rfl⟩

theorem gi_take {zs : List Int} {k j : Nat} (hj : j < k) : gi (zs.take k) j = gi zs j := by simp [gi, List.getD, hj]

theorem OI.le {w : World} {B : Nat} {A : Option Addr} {n c : Nat} {zs : List Int} (h : OI w B A n c zs) : n ≤ c := by
  rcases h.form with ⟨_, rfl, rfl⟩ | ⟨g, cur, _, _, _, _, h1, _⟩
  · exact Nat.le_refl _
  · exact h1
theorem ord_yes {zs : List Int} (h1 : inB zs.length 1 8 = true) (h : ∀ j, j < zs.length → inB (gi zs j) 0 (zs.length - 1) = true ∧ has (zs.take j) (gi zs j) = false) : ord zs = true := by
  have h1 := inB_iff.1 h1
  refine ord_iff.2 ⟨by omega, by omega, fun x hx => ?_, nodup_gi.2 fun i j hij hj e => ?_⟩
  · obtain ⟨j, hj, rfl⟩ := mem_gi.1 hx
    have := inB_iff.1 (h j hj).1
    omega
  · have h2 := (h j hj).2
    rw [has_yes (zs := zs.take j) (j := i) (by simp; omega) (by rw [gi_take hij]; exact e)] at h2
    cases h2
theorem ord_no1 {zs : List Int} (h1 : inB zs.length 1 8 = false) : ord zs = false := ord_no (fun h => by
  have : inB zs.length 1 8 = true := inB_iff.2 ⟨by omega, by omega⟩
  rw [this] at h1; cases h1)
theorem ord_no2 {zs : List Int} {j : Nat} (hj : j < zs.length) (h : inB (gi zs j) 0 (zs.length - 1) = false) : ord zs = false := by
  rw [← Bool.not_eq_true, ord_iff]
  rintro ⟨_, _, h3, _⟩
  have := h3 _ (mem_gi.2 ⟨j, hj, rfl⟩)
  rw [inB_true ⟨by omega, by omega⟩] at h; cases h
theorem ord_no3 {zs : List Int} {j : Nat} (hj : j < zs.length) (h : has (zs.take j) (gi zs j) = true) : ord zs = false := by
  rw [← Bool.not_eq_true, ord_iff]
  rintro ⟨_, _, _, h4⟩
  obtain ⟨i, hi, e⟩ := mem_gi.1 (of_decide_eq_true h)
  have hi2 : i < j := by simp at hi; omega
  rw [gi_take hi2] at e
  exact nodup_gi.1 h4 i j hi2 hj e

set_option maxHeartbeats 400000 in
theorem laOrder_any (A : Option Addr) (n c : Nat) (zs : List Int) (w : World) (h : RI w A n zs) (hn : n ≤ 1048576) (hnc : n ≤ c) :
    Calls Try.prog 45 #[.slice A n c] w (SameB (ord zs) w) := by
  have hl := h.1
  rcases h1 : inB (n : Int) 1 8 with _ | _
  · have H1 := Lib.hid h1
    have E := Lib.hid (ord_no1 (zs := zs) (by rw [hl]; exact h1))
    clear h1
    go_enter Try.func45, Try.ntmps45
    go_wp2_with (go_at_call 48; refine (l1In_any _ _ _ _).mono ?_; rw [H1.out]; rintro e w' ⟨rfl, rfl⟩)
    go_ret
    exact ⟨ret_b E.out.symm, rfl⟩
  have H1 := Lib.hid h1
  have HL := Lib.hid hl
  clear h1 hl
  go_enter Try.func45, Try.ntmps45
  go_wp2_with (go_at_call 48; refine (l1In_any _ _ _ _).mono ?_; rw [H1.out]; rintro e w' ⟨rfl, rfl⟩)
  go_loop [3, 4, 11] (fun _ _ i => ∃ k : Nat, k ≤ n ∧ i = .int .i64 k ∧ ∀ j, j < k → inB (gi zs j) 0 (n - 1) = true ∧ has (zs.take j) (gi zs j) = false) (fun _ _ i => n - (intOf i).toNat)
  case atStart => exact ⟨0, Nat.zero_le _, rfl, fun j hj => absurd hj (by omega)⟩
  case round =>
    obtain ⟨k, hk, rfl, hall⟩ := hrel
    have H3 := Lib.hid hall
    clear hall
    by_cases hlt : k < n
    · have HT := Lib.hid (h.take hk)
      obtain ⟨b, off, rfl, hbw, hc⟩ := h.cell hlt
      have hck := hc k hlt
      clear hc
      have hkc : (k : Int) ≤ c := by omega
      obtain ⟨q, hq⟩ : ∃ q, q = inB (gi zs k) 0 (n - 1) := ⟨_, rfl⟩
      have HQ := Lib.hid hq
      clear hq
      obtain ⟨q2, hq2⟩ : ∃ q, q = has (zs.take k) (gi zs k) := ⟨_, rfl⟩
      have HQ2 := Lib.hid hq2
      clear hq2
      cases q with
      | false =>
        go_wp2_with (first
          | (go_at_call 48; refine (l1In_any _ _ _ _).mono ?_; rw [← HQ.out]; rintro e w' ⟨rfl, rfl⟩))
        go_ret
        exact ⟨ret_b (ord_no2 (by rw [HL.out]; exact hlt) (by rw [HL.out]; exact HQ.out.symm)).symm, rfl⟩
      | true =>
        cases q2
        all_goals
          go_wp2_with (first
            | (go_at_call 48; refine (l1In_any _ _ _ _).mono ?_; rw [← HQ.out]; rintro e w' ⟨rfl, rfl⟩)
            | (go_at_call 60; refine (l1Has_any _ _ _ _ _ _ HT.out (by omega)).mono ?_; rw [← HQ2.out]; rintro e w' ⟨rfl, rfl⟩))
        · go_round
          case rel =>
            refine ⟨k + 1, by omega, by go_num, fun j hj => ?_⟩
            by_cases e : j = k
            · rw [e]; exact ⟨HQ.out.symm, HQ2.out.symm⟩
            · exact H3.out j (by omega)
          case measure => simp [intOf]; omega
        · go_ret
          exact ⟨ret_b (ord_no3 (by rw [HL.out]; exact hlt) HQ2.out.symm).symm, rfl⟩
    · obtain rfl : k = n := by omega
      go_wp2
      go_ret
      exact ⟨ret_b (ord_yes (by rw [HL.out]; exact H1.out) (by rw [HL.out]; exact H3.out)).symm, rfl⟩

end Go.Proofs.Ytcomgoapekkleaa
