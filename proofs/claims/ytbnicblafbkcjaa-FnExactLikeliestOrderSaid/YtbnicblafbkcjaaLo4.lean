/- LikeliestOrder, of the model. -/
import Derived.Test.YtbnicblafbkcjaaLo3
namespace Go.Proofs.Ytbnicblafbkcjaa
open Go Go.RowKit Go.Maps

set_option maxRecDepth 100000 in
set_option maxHeartbeats 4000000 in
theorem sLikeliestOrder_any (n k : Int) (w : World) : Calls Try.prog 18 #[.int .i64 n, .int .i64 k] w (FreshIB w (lkM n k) (lkL n k) (toldB n k)) := by
  rcases h1 : toldB n k with _ | _
  · have E1 := Lib.hid h1
    rw [lkM_no h1, lkL_no h1]
    clear h1
    go_enter Try.func18, Try.ntmps18
    go_wp2_with (go_at_call 26; refine (chResults_any _ _ _).mono ?_; rw [E1.out]; rintro e w' ⟨rfl, rfl⟩)
    go_ret2
    exact ⟨_, _, rfl, OI.none_ _ _, Below.refl _ _⟩
  · have E1 := Lib.hid h1
    have ht := toldB_iff.1 h1
    rw [lkM_yes h1, lkL_yes h1]
    obtain ⟨m, rfl⟩ : ∃ m : Nat, n = (m : Int) := ⟨n.toNat, by omega⟩
    obtain ⟨K, rfl⟩ : ∃ K : Nat, k = (K : Int) := ⟨k.toNat, by omega⟩
    rw [Int.toNat_natCast, Int.toNat_natCast]
    have HCO := Lib.hid (fun w => chOrders_any m K w (by omega) (by omega) (by omega))
    have HAO := Lib.hid (fun w => alOrders_any m w (by omega) (by omega))
    have hlen := chO_length m K
    have hN120 : (ordsK m m).length ≤ 120 := by have := ords_len (n := m) (by omega) (by omega); omega
    have hN0 := ordsK_pos (n := m) (k := m) (Nat.le_refl _)
    have HROW : Hid (∀ j, j < (ordsK m m).length → (gz (ordsK m m) j).length = m) := Lib.hid fun j hj => ordsK_row hj
    obtain ⟨Z, hZ⟩ : ∃ Z, Z = chO m K := ⟨_, rfl⟩
    obtain ⟨L, hL⟩ : ∃ L, L = ordsK m m := ⟨_, rfl⟩
    rw [← hZ, ← hL] at HCO hlen
    rw [← hZ, ← hL]
    rw [← hL] at hN120 hN0 HROW HAO
    obtain ⟨N, hN⟩ : ∃ N, N = L.length := ⟨_, rfl⟩
    rw [← hN] at HCO hlen hN120 hN0 HROW ⊢
    have HNL := Lib.hid hN
    clear h1 hZ hL hN
    go_enter Try.func18, Try.ntmps18
    go_wp2_with (go_at_call 26; refine (chResults_any _ _ _).mono ?_; rw [E1.out]; rintro e w' ⟨rfl, rfl⟩)
    refine (HCO.out _).mono ?_
    rintro e w1 ⟨g, rfl, ho, hb⟩
    have HO := Lib.hid ho
    have HB := Lib.hid hb
    clear ho hb HCO
    go_wp2
    go_loopw [7, 8, 9, 19] (fun s7 _ _ s19 wi => ∃ x : Nat, x ≤ N ∧ s7 = .int .i64 (bst Z x : Int) ∧ s19 = .int .i64 (x : Int) ∧ wi = w1) (fun _ _ _ s19 _ => N - (intOf s19).toNat)
    case atStart => exact ⟨0, Nat.zero_le _, rfl, rfl, rfl⟩
    case round =>
      obtain ⟨x, hx, rfl, rfl, rfl⟩ := hrel
      have hble := bst_le Z x
      by_cases hlt : (x : Int) < (N : Int)
      · have ck := HO.out.cells x (by omega)
        have cb := HO.out.cells (bst Z x) (by omega)
        have hb0 : (0 : Int) ≤ (bst Z x : Int) := by omega
        have hx0 : (0 : Int) ≤ (x : Int) := by omega
        have hbn : (bst Z x : Int) < (N : Int) := by omega
        by_cases hc : gi Z (bst Z x) < gi Z x
        · have HP : Hid (bst Z (x + 1) = x) := Lib.hid (by rw [bst, if_pos hc])
          obtain ⟨y, hy⟩ : ∃ y, y = gi Z x := ⟨_, rfl⟩
          obtain ⟨v, hv⟩ : ∃ v, v = bst Z x := ⟨_, rfl⟩
          rw [← hv] at cb hb0 hbn hble hc ⊢
          obtain ⟨u, hu⟩ : ∃ u, u = gi Z v := ⟨_, rfl⟩
          rw [← hu] at cb hc
          rw [← hy] at ck hc
          clear hy hv hu
          go_wp2
          go_roundw
          case rel => exact ⟨x + 1, by omega, by rw [HP.out], by go_num, by first | rfl | trivial⟩
          case measure => simp [intOf]; omega
        · have HP : Hid (bst Z (x + 1) = bst Z x) := Lib.hid (by rw [bst, if_neg hc])
          obtain ⟨y, hy⟩ : ∃ y, y = gi Z x := ⟨_, rfl⟩
          obtain ⟨v, hv⟩ : ∃ v, v = bst Z x := ⟨_, rfl⟩
          rw [← hv] at cb hb0 hbn hble hc HP ⊢
          obtain ⟨u, hu⟩ : ∃ u, u = gi Z v := ⟨_, rfl⟩
          rw [← hu] at cb hc
          rw [← hy] at ck hc
          clear hy hv hu
          go_wp2
          go_roundw
          case rel => exact ⟨x + 1, by omega, by rw [HP.out], by go_num, by first | rfl | trivial⟩
          case measure => simp [intOf]; omega
      · obtain rfl : x = N := by omega
        have hbl := bst_lt Z hN0
        obtain ⟨v, hv⟩ : ∃ v, v = bst Z x := ⟨_, rfl⟩
        rw [← hv] at hbl hble ⊢
        have hb0 : (0 : Int) ≤ (v : Int) := by omega
        have hbn : (v : Int) < (x : Int) := by omega
        have HV := Lib.hid hv
        clear hv
        go_wp2_with fail
        refine (HAO.out _).mono ?_
        rintro e w2 ⟨A3, c3, M3, S3, rfl, o3, hb3⟩
        rw [← HNL.out] at o3 ⊢
        obtain ⟨ga, a1, a2, a3, rfl, hga, _, hS, hcl, hoi⟩ := o3.row hbl
        have hl2 : a2 = m := by have h1 := hoi.1; rw [HROW.out v hbl] at h1; exact h1.symm
        subst hl2
        have HOI := Lib.hid hoi
        have HBB := Lib.hid (HB.out.trans (hb3.mono HB.out.size))
        have HLE := Lib.hid HB.out.size
        clear o3 hb3 hoi hS
        go_wp2
        go_ret2
        exact ⟨a1, a3, rfl, by rw [← HV.out]; exact HOI.out.mono HLE.out, HBB.out⟩
end Go.Proofs.Ytbnicblafbkcjaa
-- Lo4
