/- Whether values are sorted, by the program and by the model. -/
import Derived.Test.YtbfilmdociemmaaSo8
import Derived.Test.YtbfilmdociemmaaSo9
import Derived.Deep.RegionLaw
namespace Go.Proofs.Ytbfilmdociemmaa
open Go Go.RowKit

theorem fieldBottom (u v : Value) (w : World) : (Instr.field 51 (.agg #[u, v]) 0).run Try.prog w = .ok u w := by kernel_rfl
theorem fieldExchanges (u v : Value) (w : World) : (Instr.field 51 (.agg #[u, v]) 1).run Try.prog w = .ok v w := by kernel_rfl
theorem less_any (x y : Int) (w : World) : Calls Try.prog 73 #[.int .i64 x, .int .i64 y] w fun e w' => e = .returned (.bool (decide (x < y))) ∧ w' = w := by
  go_enter Try.func73, Try.ntmps73
  go_wp2
  go_ret
  exact ⟨by simp, rfl⟩

set_option maxHeartbeats 1000000 in
theorem isSorted_any (A : Option Addr) (n c : Nat) (zs : List Int) (w : World) (h : RI w A n zs) (hn : n ≤ 1000) (h0 : 0 < n) : Calls Try.prog 66 #[.slice A n c] w (RetB (srtB zs) w) := by
  have hzl := h.1
  have H0 := Lib.hid h
  clear h
  go_enter Try.func66, Try.ntmps66
  go_wp2
  go_loopw [3] (fun i wr => ∃ k : Nat, k < n ∧ i = .int .i64 k ∧ (∀ j, k ≤ j → j + 1 < n → gi zs j ≤ gi zs (j + 1)) ∧ Below w.heap.size w wr) (fun i _ => (intOf i).toNat)
  case atStart => exact ⟨n - 1, by omega, by go_num, fun j h1 h2 => by omega, Below.refl _ _⟩
  case round =>
    obtain ⟨k, hk, rfl, hall, hb⟩ := hrel
    have HALL := Lib.hid hall
    have HB := Lib.hid hb
    by_cases hk0 : k = 0
    · subst hk0
      have e : srtB zs = true := srtB_iff.2 (fun i hi => HALL.out i (Nat.zero_le _) (by omega))
      have E := Lib.hid e
      clear e hall hb
      go_wp2
      go_ret
      exact ⟨ret_b E.out.symm, HB.out⟩
    · obtain ⟨j, rfl⟩ : ∃ j, k = j + 1 := ⟨k - 1, by omega⟩
      obtain ⟨b, off, rfl, hbw, hc⟩ := H0.out.cell h0
      have c1 : wr.cell? ⟨b, off + (j + 1), none⟩ = some (.int .i64 (gi zs (j + 1))) := (hb.cell (p := ⟨b, off + (j + 1), none⟩) hbw).trans (hc (j + 1) hk)
      have c2 : wr.cell? ⟨b, off + j, none⟩ = some (.int .i64 (gi zs j)) := (hb.cell (p := ⟨b, off + j, none⟩) hbw).trans (hc j (by omega))
      have hw1 : IntKind.i64.wrap (((j + 1 : Nat) : Int) - 1) = (j : Int) := by rw [IntWalk.i64_in _ (by omega)]; omega
      have i1 : (0 : Int) ≤ ((j + 1 : Nat) : Int) := by omega
      have i2 : ((j + 1 : Nat) : Int) < (n : Int) := by omega
      have i3 : (j : Int) < (n : Int) := by omega
      have i4 : j < n := by omega
      have i5 : (0 : Int) < ((j + 1 : Nat) : Int) := by omega
      clear hall hb hc
      by_cases hxy : gi zs (j + 1) < gi zs j
      · have hd : decide (gi zs (j + 1) < gi zs j) = true := by simpa using hxy
        have e : srtB zs = false := srtB_no (i := j) (by omega) hxy
        have E := Lib.hid e
        clear e
        go_wp2
        go_quiet ((go_at_call 73; exact Calls.quiet_of_same (less_any _ _ _)))
        go_wp2
        go_ret
        exact ⟨ret_b E.out.symm, below_drewN HB.out _⟩
      · have hd : decide (gi zs (j + 1) < gi zs j) = false := by simpa using hxy
        go_wp2
        go_quiet ((go_at_call 73; exact Calls.quiet_of_same (less_any _ _ _)))
        go_wp2
        go_roundw
        case rel =>
          refine ⟨j, by omega, rfl, fun i h1 h2 => ?_, below_drewN HB.out _⟩
          by_cases e : i = j
          · subst e; omega
          · exact HALL.out i (by omega) h2
        case measure => simp [intOf]

set_option maxRecDepth 100000 in
set_option maxHeartbeats 1000000 in
theorem sorts_any (A : Option Addr) (m c : Nat) (zs : List Int) (A2 : Option Addr) (n c2 : Nat) (vs : List Int) (w : World) (h : RI w A m zs) (h2 : RI w A2 n vs) (hn : n ≤ 8) (h0 : 0 < n) (hm : m ≤ 60) (hz : rungsIn zs n) :
    Calls Try.prog 46 #[.slice A m c, .slice A2 n c2] w (RetB (srtB (runS zs vs)) w) := by
  go_enter Try.func46, Try.ntmps46
  go_wp2_with fail
  refine (compareDown_any A m c zs A2 n c2 vs _ h h2 hn h0 hm hz).mono ?_
  rintro e w1 ⟨A1, c1, E, d, rfl, o, -, hb⟩
  have HB := Lib.hid hb
  have O := Lib.hid o
  obtain ⟨q, hq⟩ : ∃ q, q = srtB (runS zs vs) := ⟨_, rfl⟩
  have HS := Lib.hid (fun w2 (r : RI w2 A1 n (runS zs vs)) => isSorted_any A1 n c1 (runS zs vs) w2 r (by omega) h0)
  rw [← hq] at HS
  have HQ := Lib.hid hq
  have hfd := fieldBottom
  clear hb o h h2 hq
  go_wp2_with fail
  refine (HS.out _ O.out.ri).mono ?_
  rintro e w2 ⟨rfl, hb⟩
  replace HB := belStep HB hb
  clear hb
  go_wp2
  go_ret
  exact ⟨by rw [← HQ.out]; rfl, HB.out⟩

set_option maxRecDepth 100000 in
set_option maxHeartbeats 1000000 in
theorem soSorted_any (A : Option Addr) (m c : Nat) (zs : List Int) (A2 : Option Addr) (n c2 : Nat) (vs : List Int) (w : World) (h : RI w A m zs) (h2 : RI w A2 n vs) (hn : n ≤ 8) (h0 : 0 < n) (hm : m ≤ 60) (hz : rungsIn zs n) :
    Calls Try.prog 48 #[.slice A m c, .slice A2 n c2] w (RetB (srtB (runS zs vs)) w) := by
  go_enter Try.func48, Try.ntmps48
  go_wp2_with fail
  refine (soRun_any A m c zs A2 n c2 vs _ h h2 hn h0 hm hz).mono ?_
  rintro e w1 ⟨A1, c1, E, d, rfl, o, -, hb⟩
  have HB := Lib.hid hb
  have O := Lib.hid o
  obtain ⟨R, hR⟩ : ∃ R, R = runS zs vs := ⟨_, rfl⟩
  rw [← hR] at O
  have HR := Lib.hid hR
  have hRl : R.length = n := O.out.1
  obtain ⟨b, rfl⟩ : ∃ b, A1 = some ⟨b, 0, none⟩ := by
    rcases O.out.form with ⟨_, _, e0⟩ | ⟨g1, cur, e1, _⟩
    · omega
    · exact ⟨g1, e1⟩
  have hbl := (O.out.blk b rfl).2
  clear hb o h h2 hR
  go_wp2
  go_loopw [7] (fun i wr => ∃ k : Nat, 1 ≤ k ∧ k ≤ n ∧ i = .int .i64 k ∧ (∀ j, j + 1 < k → gi R j ≤ gi R (j + 1)) ∧ Below w1.heap.size w1 wr) (fun i _ => n - (intOf i).toNat)
  case atStart => exact ⟨1, Nat.le_refl _, h0, rfl, fun j hj => absurd hj (by omega), Below.refl _ _⟩
  case round =>
    obtain ⟨k, hk1, hk, rfl, hall, hb⟩ := hrel
    have HALL := Lib.hid hall
    have HBr := Lib.hid hb
    have HBW : Hid (Below w.heap.size w wr) := Lib.hid (HB.out.trans (hb.mono HB.out.size))
    by_cases hlt : k < n
    · obtain ⟨j, rfl⟩ : ∃ j, k = j + 1 := ⟨k - 1, by omega⟩
      have c1 : wr.cell? ⟨b, j + 1, none⟩ = some (.int .i64 (gi R (j + 1))) := (hb.cell (p := ⟨b, j + 1, none⟩) hbl).trans (O.out.cells (j + 1) hlt)
      have c2 : wr.cell? ⟨b, j, none⟩ = some (.int .i64 (gi R j)) := (hb.cell (p := ⟨b, j, none⟩) hbl).trans (O.out.cells j (by omega))
      have hw1 : IntKind.i64.wrap (((j + 1 : Nat) : Int) - 1) = (j : Int) := by rw [IntWalk.i64_in _ (by omega)]; omega
      have i1 : (0 : Int) ≤ ((j + 1 : Nat) : Int) := by omega
      have i2 : ((j + 1 : Nat) : Int) < (n : Int) := by omega
      have i3 : (j : Int) < (n : Int) := by omega
      have i4 : j < n := by omega
      clear hall hb
      by_cases hxy : gi R (j + 1) < gi R j
      · have hd : decide (gi R (j + 1) < gi R j) = true := by simpa using hxy
        have e : srtB R = false := srtB_no (i := j) (by omega) hxy
        have E2 := Lib.hid e
        clear e
        go_wp2
        go_quiet (fail)
        go_wp2
        go_ret
        exact ⟨ret_b (by rw [← HR.out]; exact E2.out.symm), below_drewN HBW.out _⟩
      · have hd : decide (gi R (j + 1) < gi R j) = false := by simpa using hxy
        go_wp2
        go_quiet (fail)
        go_wp2
        go_roundw
        case rel =>
          refine ⟨j + 1 + 1, by omega, by omega, by go_num, fun i h1 => ?_, below_drewN HBr.out _⟩
          by_cases e : i = j
          · subst e; omega
          · exact HALL.out i (by omega)
        case measure => simp [intOf]; omega
    · obtain rfl : k = n := by omega
      have e : srtB R = true := srtB_iff.2 (fun i hi => HALL.out i (by omega))
      have E2 := Lib.hid e
      clear e hall hb
      go_wp2
      go_ret
      exact ⟨ret_b (by rw [← HR.out]; exact E2.out.symm), HBW.out⟩
end Go.Proofs.Ytbfilmdociemmaa
