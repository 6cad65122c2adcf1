/- LongestLadder of the program, where the falling order is a function of its own. -/
import Derived.Test.YtgeeifjbfceogaaGreatDoorLf4
import Derived.IntWalk
namespace Go.Proofs.YtgeeifjbfceogaaGreatDoor
open Go Go.RowKit

set_option maxRecDepth 100000 in
set_option maxHeartbeats 1000000 in
theorem fallingOrderR_any (n : Nat) (w : World) (hn : n ≤ 1000) : Calls Tryz.prog 78 #[.int .i64 (n : Int)] w (FreshI w n (revL n)) := by
  have hmk := run_make_row' (P := Tryz.prog) 22 3 (.int .i64 0) 8 Tryz.underlying22 infoInt rfl .i64 .i64 n (by omega) (by omega)
  go_enter Tryz.func78, Tryz.ntmps78
  go_wp2
  go_loopw [9] (fun i wr => ∃ k : Nat, k ≤ n ∧ i = .int .i64 k ∧ wr.rowIs w.heap.size 3 n (fun j => if j < k then .int .i64 (gi (revL n) j) else .int .i64 0) ∧ Below w.heap.size w wr) (fun i _ => n - (intOf i).toNat)
  case atStart => exact ⟨0, Nat.zero_le _, rfl, (World.rowIs_made w (.int .i64 0) n 3).congr (fun j _ => by simp), (Below.refl _ _).alloc (Nat.le_refl _) _⟩
  case round =>
    obtain ⟨k, hk, rfl, hrow, hb⟩ := hrel
    by_cases hlt : k < n
    · have hd := hrow.cell hlt
      have hf := hrow.frozen k
      simp only [Nat.lt_irrefl, if_false] at hd
      have H1 := Lib.hid hrow
      have H2 := Lib.hid hb
      have hw1 : IntKind.i64.wrap ((n : Int) - 1) = (n : Int) - 1 := IntWalk.i64_in _ (by omega)
      have hw2 : IntKind.i64.wrap ((n : Int) - 1 - (k : Int)) = (n : Int) - 1 - (k : Int) := IntWalk.i64_in _ (by omega)
      have hv := gi_revL hlt
      have HV := Lib.hid (show (n : Int) - 1 - (k : Int) = gi (revL n) k by rw [hv])
      clear hrow hb hmk hv
      go_wp2
      go_roundw
      case rel =>
        refine ⟨k + 1, by omega, by go_num, ?_, H2.out.setCell (by simp) _⟩
        rw [HV.out]
        refine (H1.out.set k _).congr (fun j hj => ?_)
        by_cases e : j = k
        · simp [e]
        · by_cases e2 : j < k
          · simp [e, e2, show j < k + 1 by omega]
          · simp [e, e2, show ¬ j < k + 1 by omega]
      case measure => simp [intOf]; omega
    · obtain rfl : k = n := by omega
      go_wp2
      go_ret
      exact ⟨_, _, rfl, OI.of_rowIs (Nat.le_refl _) hrow (by simp only [maxLen]; omega) (revL_length _) (fun j hj => by simp [hj]), hb⟩

set_option maxRecDepth 100000 in
set_option maxHeartbeats 1000000 in
theorem iLongestLadder_free (x : Int) (w : World) :
    Calls Tryz.prog 57 #[.int .i64 x] w (FreshLB w (ifW (lgB x) x) (lgL x).length (lgL x) (lgB x)) := by
  have HB := belAlloc (belRefl (w := w)) (.cells #[.int .i64 0, .slice none 0 0] 44)
  have HC := cellNew w (.int .i64 0) (.slice none 0 0) 44
  unfold lgL
  by_cases hx : 2 ≤ x ∧ x ≤ 8
  · have hq : lgB x = true := inB_true ⟨hx.1, hx.2⟩
    rw [hq, ifW_yes, ifL_yes]
    obtain ⟨n, rfl⟩ : ∃ n : Nat, x = (n : Int) := ⟨x.toNat, by omega⟩
    rw [Int.toNat_natCast]
    have h2 : 2 ≤ n := by omega
    have h8 : n ≤ 8 := by omega
    have HY := leastN_yes (leastB_yes (revL_ord h2 h8) (by rw [revL_length]; exact h2))
    have HYB := Lib.hid (leastB_yes (revL_ord h2 h8) (by rw [revL_length]; exact h2))
    have HYL := Lib.hid HY.1
    have HYW := Lib.hid HY.2
    clear hq hx HY
    go_enter Tryz.func57, Tryz.ntmps57
    go_wp2_with fail
    refine (fallingOrderR_any n _ (by omega)).mono ?_
    rintro e w1 ⟨A1, c1, rfl, o1, hb⟩
    replace HB := belStep HB hb
    replace HC := cellStep HC hb
    have HO := Lib.hid o1
    clear hb o1
    go_wp2_with fail
    refine (iLeastLadder_any A1 n c1 (revL n) _ HO.out.ri (by omega) HO.out.le).mono ?_
    rw [HYB.out, HYL.out, HYW.out, revL_length]
    rintro e w2 ⟨A2, c2, rfl, o2, hb⟩
    have HO2 : Hid (OI w2 (w.heap.size + 1) A2 (firstL (revL n)).length c2 (firstL (revL n))) := Lib.hid (o2.mono (by have := HC.out.lt; omega))
    replace HB := belStep HB hb
    replace HC := cellStep HC hb
    have k0 := HC.out.c0; have k1 := HC.out.c1; have f0 := HC.out.f0; have f1 := HC.out.f1; have hz := HC.out.lt
    clear hb o2
    go_wp2
    exact bodyPost_ret (v := .tuple #[.agg #[.int .i64 n, .slice A2 (firstL (revL n)).length c2], .bool true]) (by simp [results, Tryz.results57, go_sem, k0, k1]) rfl
      ⟨A2, c2, rfl, ((HO2.out.setBelow (by simp <;> omega) _).setBelow (by simp <;> omega) _).mono (by omega), (HB.out.setCell (by simp) _).setCell (by simp) _⟩
  · have hq : lgB x = false := by
      rw [← Bool.not_eq_true]
      intro e
      exact hx (inB_iff.1 e)
    rw [hq, ifW_no, ifL_no]
    clear hq
    go_enter Tryz.func57, Tryz.ntmps57
    rcases (show x < 2 ∨ 2 ≤ x by omega) with h1 | h1
    · clear hx
      go_wp2
      exact bodyPost_ret (v := .tuple #[.agg #[.int .i64 0, .slice none 0 0], .bool false]) (by simp [results, Tryz.results57, go_sem]) rfl ⟨none, 0, rfl, OI.none_ _ _, (by repeat (first | exact Below.refl _ _ | exact HB.out | refine Below.setCell ?_ (by simp <;> omega) _ | refine Below.alloc ?_ (by simp <;> omega) _ | refine below_drewN ?_ _))⟩
    · have h9 : 8 < x := by omega
      clear hx
      go_wp2
      exact bodyPost_ret (v := .tuple #[.agg #[.int .i64 0, .slice none 0 0], .bool false]) (by simp [results, Tryz.results57, go_sem]) rfl ⟨none, 0, rfl, OI.none_ _ _, (by repeat (first | exact Below.refl _ _ | exact HB.out | refine Below.setCell ?_ (by simp <;> omega) _ | refine Below.alloc ?_ (by simp <;> omega) _ | refine below_drewN ?_ _))⟩
theorem iLongestLadder_any (x : Int) (w : World) (_lo : -9223372036854775808 ≤ x) (_hi : x ≤ 9223372036854775807) :
    Calls Tryz.prog 57 #[.int .i64 x] w (FreshLB w (ifW (lgB x) x) (lgL x).length (lgL x) (lgB x)) := iLongestLadder_free x w
end Go.Proofs.YtgeeifjbfceogaaGreatDoor
