/- The placing game of the program: who can win, and with which rungs. -/
import Derived.Test.YtbfdpjnkpclcbaaGp1
import Derived.Test.YtbfdpjnkpclcbaaStL
import Derived.Carry
namespace Go.Proofs.Ytbfdpjnkpclcbaa
open Go Go.RowKit

/-- is there such a game? -/
def plB (n a g m : Int) : Bool := wire n [] a && (wire n [] g && inB m 0 8)
theorem plB_iff {n a g m : Int} : plB n a g m = true ↔ (2 ≤ n ∧ n ≤ 8) ∧ (0 ≤ a ∧ a ≤ n - 1) ∧ (0 ≤ g ∧ g ≤ n - 1) ∧ (0 ≤ m ∧ m ≤ 8) := by
  have hl : lad n [] = inB n 2 8 := by unfold lad allIn; simp
  unfold plB wire
  rw [hl]
  simp only [Bool.and_eq_true, inB_iff]
  exact ⟨fun ⟨⟨h1, h2⟩, ⟨_, h3⟩, h4⟩ => ⟨h1, h2, h3, h4⟩, fun ⟨h1, h2, h3, h4⟩ => ⟨⟨h1, h2⟩, ⟨h1, h3⟩, h4⟩⟩
def plp (a m : Int) : Nat := m.toNat * 8 + a.toNat
def plO (n a g m : Int) : OutP := ovP n.toNat g.toNat (fsP m.toNat true) (plp a m)
/-- who can win -/
def plwB (n a g m : Int) : Bool := plB n a g m && (plO n a g m).1
theorem plwB_no {n a g m : Int} (h : plB n a g m = false) : plwB n a g m = false := by unfold plwB; rw [h]; rfl
theorem plwB_yes {n a g m : Int} (h : plB n a g m = true) : plwB n a g m = (plO n a g m).1 := by unfold plwB; rw [h]; rfl
/-- good rungs -/
def plgL (n a g m : Int) : List Int := if plB n a g m = true then gdP (chP n.toNat) nxP (ovP n.toNat g.toNat (fsP m.toNat true)) (plp a m) else []
theorem plgL_no {n a g m : Int} (h : plB n a g m = false) : plgL n a g m = [] := by unfold plgL; rw [h]; rfl
theorem plgL_yes {n a g m : Int} (h : plB n a g m = true) : plgL n a g m = gdP (chP n.toNat) nxP (ovP n.toNat g.toNat (fsP m.toNat true)) (plp a m) := by unfold plgL; rw [if_pos h]
theorem plgL_le (n a g m : Int) : (plgL n a g m).length ≤ 1000 := by
  rcases h : plB n a g m with _ | _
  · rw [plgL_no h]; simp
  · rw [plgL_yes h]
    have h1 := gdK_len (fun j => behP (ovP n.toNat g.toNat (fsP m.toNat true) (nxP (plp a m) (gi (chP n.toNat (plp a m)) j).toNat))) (chP n.toNat (plp a m)) (chP n.toNat (plp a m)).length
    have h2 : (chP n.toNat (plp a m)).length ≤ n.toNat := by
      unfold chP
      split
      · simp
      · rw [upJ_len]; omega
    have h3 := plB_iff.1 h
    unfold gdP
    omega
/-- what is known of the game that is asked about -/
noncomputable def vP (N goal M : Nat) (p : Nat) : Option OutP := by
  classical exact if goodP N M p then some (ovP N goal (fsP M true) p) else none
theorem vP_at {N goal M : Nat} : ∀ p, goodP N M p → vP N goal M p = some (ovP N goal (fsP M true) p) := fun p h => by unfold vP; rw [if_pos h]

set_option maxRecDepth 100000 in
set_option maxHeartbeats 1000000 in
theorem isPlacing_any (n a g m : Int) (w : World) : Calls Try.prog 50 #[.int .i64 n, .int .i64 a, .int .i64 g, .int .i64 m] w (RetB (plB n a g m) w) := by
  have H1 := Lib.hid (fun w2 => isStart_any n none 0 0 [] a w2 (RI.nilG w2) (by omega))
  have H2 := Lib.hid (fun w2 => isStart_any n none 0 0 [] g w2 (RI.nilG w2) (by omega))
  unfold plB
  obtain ⟨q1, hq1⟩ : ∃ q, q = wire n [] a := ⟨_, rfl⟩
  obtain ⟨q2, hq2⟩ : ∃ q, q = wire n [] g := ⟨_, rfl⟩
  rw [← hq1] at H1 ⊢
  rw [← hq2] at H2 ⊢
  clear hq1 hq2
  cases q1
  · go_enter Try.func50, Try.ntmps50
    go_wp2_with fail
    refine (H1.out _).mono ?_
    rintro e w1 ⟨rfl, hb⟩
    have HB := Lib.hid hb
    clear hb
    go_wp2
    go_ret
    exact ⟨rfl, HB.out⟩
  · cases q2
    · go_enter Try.func50, Try.ntmps50
      go_wp2_with fail
      refine (H1.out _).mono ?_
      rintro e w1 ⟨rfl, hb⟩
      have HB := Lib.hid hb
      clear hb
      go_wp2_with fail
      refine (H2.out _).mono ?_
      rintro e w2 ⟨rfl, hb⟩
      replace HB := belStep HB hb
      clear hb
      go_wp2
      go_ret
      exact ⟨rfl, HB.out⟩
    · by_cases h0 : 0 ≤ m
      · by_cases h8 : m ≤ 8
        · rw [inB_true ⟨h0, h8⟩]
          go_enter Try.func50, Try.ntmps50
          go_wp2_with fail
          refine (H1.out _).mono ?_
          rintro e w1 ⟨rfl, hb⟩
          have HB := Lib.hid hb
          clear hb
          go_wp2_with fail
          refine (H2.out _).mono ?_
          rintro e w2 ⟨rfl, hb⟩
          replace HB := belStep HB hb
          clear hb
          go_wp2
          go_ret
          exact ⟨rfl, HB.out⟩
        · rw [inB_false (by omega)]
          have h9 : 8 < m := by omega
          go_enter Try.func50, Try.ntmps50
          go_wp2_with fail
          refine (H1.out _).mono ?_
          rintro e w1 ⟨rfl, hb⟩
          have HB := Lib.hid hb
          clear hb
          go_wp2_with fail
          refine (H2.out _).mono ?_
          rintro e w2 ⟨rfl, hb⟩
          replace HB := belStep HB hb
          clear hb
          go_wp2
          go_ret
          exact ⟨ret_b (by rw [decide_eq_false (by omega)]; rfl), HB.out⟩
      · rw [inB_false (by omega)]
        have h9 : m < 0 := by omega
        go_enter Try.func50, Try.ntmps50
        go_wp2_with fail
        refine (H1.out _).mono ?_
        rintro e w1 ⟨rfl, hb⟩
        have HB := Lib.hid hb
        clear hb
        go_wp2_with fail
        refine (H2.out _).mono ?_
        rintro e w2 ⟨rfl, hb⟩
        replace HB := belStep HB hb
        clear hb
        go_wp2
        go_ret
        exact ⟨rfl, HB.out⟩

set_option maxRecDepth 100000 in
set_option maxHeartbeats 2000000 in
theorem aboutPlaceWinner_any (n a g m : Int) (w : World) :
    Calls Try.prog 47 #[.int .i64 n, .int .i64 a, .int .i64 g, .int .i64 m, .func (.func 36) #[] #[]] w (RetBB (plwB n a g m) (plB n a g m) w) := by
  have HI := Lib.hid (fun w2 => isPlacing_any n a g m w2)
  rcases hq : plB n a g m with _ | _
  · rw [plwB_no hq]
    rw [hq] at HI
    clear hq
    go_enter Try.func47, Try.ntmps47
    go_wp2_with fail
    refine (HI.out _).mono ?_
    rintro e w1 ⟨rfl, hb⟩
    have HB := Lib.hid hb
    clear hb
    go_wp2
    go_ret2
    exact ⟨rfl, HB.out⟩
  · rw [plwB_yes hq]
    rw [hq] at HI
    obtain ⟨hn, ha, hg, hm⟩ := plB_iff.1 hq
    obtain ⟨N, rfl⟩ : ∃ N : Nat, n = (N : Int) := ⟨n.toNat, by omega⟩
    obtain ⟨a, rfl⟩ : ∃ N : Nat, a = (N : Int) := ⟨a.toNat, by omega⟩
    obtain ⟨g, rfl⟩ : ∃ N : Nat, g = (N : Int) := ⟨g.toNat, by omega⟩
    obtain ⟨m, rfl⟩ : ∃ N : Nat, m = (N : Int) := ⟨m.toNat, by omega⟩
    unfold plO plp
    simp only [Int.toNat_natCast]
    have hgd : goodP N m (m * 8 + a) := ⟨by omega, by omega⟩
    have HQ := Lib.hid (fun b w2 (mm : Memo w2 b (vP N g m)) => canWinP_any (vP N g m) (vP_at (N := N) (goal := g) (M := m)) (gmP (N := N) (goal := g) (M := m) (b := b) (by omega) (by omega) (by omega)) (m * 8 + a) hgd w2 trivial mm)
    have hpv : posP N g (fsP m true) (m * 8 + a) = .agg #[.int .i64 (N : Int), .int .i64 (a : Int), .int .i64 (g : Int), .int .i64 (m : Int), .bool true] := by
      unfold posP
      rw [show (m * 8 + a) % 8 = a by omega, show (m * 8 + a) / 8 = m by omega, fsP_top]
    rw [hpv] at HQ
    obtain ⟨r, hr⟩ : ∃ r, r = (ovP N g (fsP m true) (m * 8 + a)).1 := ⟨_, rfl⟩
    rw [← hr] at HQ ⊢
    clear hr
    clear hq hgd hpv
    go_enter Try.func47, Try.ntmps47
    go_wp2_with fail
    refine (HI.out _).mono ?_
    rintro e w1 ⟨rfl, hb⟩
    have HB := Lib.hid hb
    clear hb HI
    have hmm := @run_makeMap Try.prog
    go_wp2_with fail
    have HB1 := belAlloc HB (.map #[] 0)
    have HM1 := Lib.hid (Memo.new w1 (vP N g m))
    refine (HQ.out w1.heap.size _ HM1.out).mono ?_
    rintro e w3 ⟨rfl, hg⟩
    have HB3 : Hid (Below w.heap.size w w3) := Lib.hid (HB1.out.trans (Below.of_grown (A := some ⟨w1.heap.size, 0, none⟩) hg (fun y hy => by have := HB.out.size; simp [blk] at hy; omega) HB1.out.size))
    skip
    clear hg HQ HM1
    go_wp2
    go_ret2
    exact ⟨rfl, HB3.out⟩

set_option maxRecDepth 100000 in
set_option maxHeartbeats 1000000 in
theorem iPlaceWinner_any (n a g m : Int) (w : World) :
    Calls Try.prog 26 #[.int .i64 n, .int .i64 a, .int .i64 g, .int .i64 m] w (RetBB (plwB n a g m) (plB n a g m) w) := by
  have HI := Lib.hid (fun w2 => aboutPlaceWinner_any n a g m w2)
  obtain ⟨r, hr⟩ : ∃ r, r = plwB n a g m := ⟨_, rfl⟩
  rw [← hr] at HI ⊢
  obtain ⟨q, hq⟩ : ∃ q, q = plB n a g m := ⟨_, rfl⟩
  rw [← hq] at HI ⊢
  clear hr hq
  go_enter Try.func26, Try.ntmps26
  go_wp2_with fail
  refine (HI.out _).mono ?_
  rintro e w1 ⟨rfl, hb⟩
  have HB := Lib.hid hb
  clear hb HI
  go_wp2
  go_ret2
  exact ⟨rfl, HB.out⟩

set_option maxRecDepth 100000 in
set_option maxHeartbeats 2000000 in
theorem aboutGoodPlaces_any (n a g m : Int) (w : World) :
    Calls Try.prog 49 #[.int .i64 n, .int .i64 a, .int .i64 g, .int .i64 m, .func (.func 38) #[] #[]] w (FreshIB w (plgL n a g m).length (plgL n a g m) (plB n a g m)) := by
  have HI := Lib.hid (fun w2 => isPlacing_any n a g m w2)
  rcases hq : plB n a g m with _ | _
  · rw [plgL_no hq]
    rw [hq] at HI
    clear hq
    go_enter Try.func49, Try.ntmps49
    go_wp2_with fail
    refine (HI.out _).mono ?_
    rintro e w1 ⟨rfl, hb⟩
    have HB := Lib.hid hb
    clear hb
    go_wp2
    go_ret2
    exact ⟨none, 0, rfl, OI.none_ _ _, HB.out⟩
  · rw [plgL_yes hq]
    rw [hq] at HI
    obtain ⟨hn, ha, hg, hm⟩ := plB_iff.1 hq
    obtain ⟨N, rfl⟩ : ∃ N : Nat, n = (N : Int) := ⟨n.toNat, by omega⟩
    obtain ⟨a, rfl⟩ : ∃ N : Nat, a = (N : Int) := ⟨a.toNat, by omega⟩
    obtain ⟨g, rfl⟩ : ∃ N : Nat, g = (N : Int) := ⟨g.toNat, by omega⟩
    obtain ⟨m, rfl⟩ : ∃ N : Nat, m = (N : Int) := ⟨m.toNat, by omega⟩
    unfold plp
    simp only [Int.toNat_natCast]
    have hgd : goodP N m (m * 8 + a) := ⟨by omega, by omega⟩
    have HQ := Lib.hid (fun b w2 (mm : Memo w2 b (vP N g m)) => goodChoicesP_any (vP N g m) (vP_at (N := N) (goal := g) (M := m)) (gmP (N := N) (goal := g) (M := m) (b := b) (by omega) (by omega) (by omega)) (m * 8 + a) hgd w2 trivial mm)
    have hpv : posP N g (fsP m true) (m * 8 + a) = .agg #[.int .i64 (N : Int), .int .i64 (a : Int), .int .i64 (g : Int), .int .i64 (m : Int), .bool true] := by
      unfold posP
      rw [show (m * 8 + a) % 8 = a by omega, show (m * 8 + a) / 8 = m by omega, fsP_top]
    rw [hpv] at HQ
    obtain ⟨r, hr⟩ : ∃ r, r = gdP (chP N) nxP (ovP N g (fsP m true)) (m * 8 + a) := ⟨_, rfl⟩
    rw [← hr] at HQ ⊢
    clear hr
    clear hq hgd hpv
    go_enter Try.func49, Try.ntmps49
    go_wp2_with fail
    refine (HI.out _).mono ?_
    rintro e w1 ⟨rfl, hb⟩
    have HB := Lib.hid hb
    clear hb HI
    have hmm := @run_makeMap Try.prog
    go_wp2_with fail
    have HB1 := belAlloc HB (.map #[] 0)
    have HM1 := Lib.hid (Memo.new w1 (vP N g m))
    refine (HQ.out w1.heap.size _ HM1.out).mono ?_
    rintro e w3 ⟨E, d, rfl, o3, hg⟩
    have HB3 : Hid (Below w.heap.size w w3) := Lib.hid (HB1.out.trans (Below.of_grown (A := some ⟨w1.heap.size, 0, none⟩) hg (fun y hy => by have := HB.out.size; simp [blk] at hy; omega) HB1.out.size))
    have HO3 := Lib.hid (o3.mono HB1.out.size)
    clear o3
    clear hg HQ HM1
    go_wp2
    go_ret2
    exact ⟨E, d, rfl, HO3.out, HB3.out⟩

set_option maxRecDepth 100000 in
set_option maxHeartbeats 1000000 in
theorem iGoodPlaces_any (n a g m : Int) (w : World) :
    Calls Try.prog 28 #[.int .i64 n, .int .i64 a, .int .i64 g, .int .i64 m] w (FreshIB w (plgL n a g m).length (plgL n a g m) (plB n a g m)) := by
  have HI := Lib.hid (fun w2 => aboutGoodPlaces_any n a g m w2)
  obtain ⟨r, hr⟩ : ∃ r, r = plgL n a g m := ⟨_, rfl⟩
  rw [← hr] at HI ⊢
  obtain ⟨q, hq⟩ : ∃ q, q = plB n a g m := ⟨_, rfl⟩
  rw [← hq] at HI ⊢
  clear hr hq
  go_enter Try.func28, Try.ntmps28
  go_wp2_with fail
  refine (HI.out _).mono ?_
  rintro e w1 ⟨E, d, rfl, o1, hb⟩
  have HO := Lib.hid o1
  have HB := Lib.hid hb
  clear hb o1 HI
  go_wp2
  go_ret2
  exact ⟨E, d, rfl, HO.out, HB.out⟩
end Go.Proofs.Ytbfdpjnkpclcbaa
