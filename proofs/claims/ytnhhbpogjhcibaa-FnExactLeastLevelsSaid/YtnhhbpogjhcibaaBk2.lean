/- BrickLadder, of the model. -/
import Derived.Test.YtnhhbpogjhcibaaBk1
import Derived.Test.YtnhhbpogjhcibaaLB
import Derived.Deep.RegionHeld3
import Derived.BigQuiet
namespace Go.Proofs.Ytnhhbpogjhcibaa
open Go Go.RowKit

set_option maxRecDepth 100000 in
set_option maxHeartbeats 1000000 in
theorem lvBricks_any (n v : Nat) (w : World) (hn : n ≤ 8) (h2 : 2 ≤ n) (hv : v ≤ 20) :
    Calls Try.prog 67 #[.int .i64 (n : Int), .int .i64 (v : Int)] w fun e w' => ∃ A c, e = .returned (.slice A (oeK n v).length c) ∧ OI w' w.heap.size A (oeK n v).length c (oeK n v) ∧ Below w.heap.size w w' := by
  have hlen := oeK_len n hn
  go_enter Try.func67, Try.ntmps67
  go_wp2
  go_loopw [5, 6, 7] (fun s5 i _ wr => ∃ (j : Nat) (A : Option Addr) (c : Nat), j ≤ v ∧ i = .int .i64 (j : Int) ∧ s5 = .slice A (oeK n j).length c ∧ OI wr w.heap.size A (oeK n j).length c (oeK n j) ∧ Below w.heap.size w wr) (fun _ i _ _ => v - (intOf i).toNat)
  case atStart => exact ⟨0, none, 0, Nat.zero_le _, by go_num, rfl, OI.none_ _ _, Below.refl _ _⟩
  case round =>
    obtain ⟨j, A, c, hj, rfl, rfl, ho, hb⟩ := hrel
    have HO := Lib.hid ho
    have HBr := Lib.hid hb
    have hjl := hlen j
    clear ho hb
    by_cases hlt : j < v
    · obtain ⟨r, hr⟩ : ∃ r, r = j % 2 := ⟨_, rfl⟩
      have hr2 : r < 2 := by omega
      have HR := Lib.hid hr
      have hrm : (j : Int).tmod 2 = (r : Int) := by rw [Int.tmod_eq_emod_of_nonneg (by omega)]; omega
      clear hr
      go_wp2
      go_loopw [5, 7] (fun s5 i wi => ∃ (k : Nat) (A2 : Option Addr) (c2 : Nat), k ≤ oeCnt n j ∧ i = .int .i64 ((r + 2 * k : Nat) : Int) ∧ s5 = .slice A2 (oeK n j ++ oeLev j k).length c2 ∧ OI wi w.heap.size A2 (oeK n j ++ oeLev j k).length c2 (oeK n j ++ oeLev j k) ∧ Below w.heap.size w wi) (fun _ i _ => 20 - (intOf i).toNat)
      case atStart => exact ⟨0, A, c, Nat.zero_le _, by first | go_num | simp [hrm], by simp [oeLev], by simpa [oeLev] using HO.out, HBr.out⟩
      case round =>
        obtain ⟨k, A2, c2, hk, rfl, rfl, ho2, hb2⟩ := hrel
        have HO2 := Lib.hid ho2
        have HB2 := Lib.hid hb2
        have E0 : Hid ((oeK n j ++ oeLev j (k + 1)) = (oeK n j ++ oeLev j k) ++ [((r + 2 * k : Nat) : Int)]) := Lib.hid (by simp only [oeLev]; rw [← HR.out, List.append_assoc])
        have hz2 := hb2.size
        have hcd : oeCnt n j = (n - r) / 2 := by unfold oeCnt; rw [HR.out]
        have hol : (oeK n j ++ oeLev j k).length ≤ 100 := by rw [List.length_append, oeLev_len]; omega
        obtain ⟨ys, hys⟩ : ∃ ys, ys = oeK n j ++ oeLev j k := ⟨_, rfl⟩
        rw [← hys] at HO2 E0 hol ⊢
        have HYS := Lib.hid hys
        obtain ⟨q, hq⟩ : ∃ q : Nat, q = r + 2 * k := ⟨_, rfl⟩
        rw [← hq] at E0 ⊢
        have hq8 : q ≤ 9 := by omega
        have HQ := Lib.hid hq
        have HCD := Lib.hid hcd
        clear ho2 hb2 hys hcd
        by_cases hlk : k < oeCnt n j
        · have i1 : (q : Int) < (n : Int) - 1 := by have := HCD.out; omega
          clear hq
          go_wp2_with (at_builtin; refine wpList_append_int _ rfl _ _ rfl w.heap.size A2 ys.length c2 _ (q : Int) wr.heap.size rfl rfl (HO2.out.alloc _) (by simp) (by omega) (by simp; omega) ?_; intro A3 c3 w3 ho3 hg3; have HO3 := Lib.hid ho3; have HB3 := belGrown (belAlloc HB2 _) (HO2.out.alloc _) hg3 (Nat.le_refl _); clear ho3 hg3)
          go_roundw
          case rel => exact ⟨k + 1, A3, c3, hlk, by rw [show r + 2 * (k + 1) = q + 2 by have := HQ.out; omega]; go_num, by rw [E0.out]; simp, by rw [E0.out]; simpa using HO3.out, HB3.out⟩
          case measure => simp [intOf]; omega
        · have i1 : ¬ (q : Int) < (n : Int) - 1 := by have := HCD.out; omega
          have e1 : oeK n (j + 1) = ys := by rw [HYS.out, show k = oeCnt n j by omega]; rfl
          clear hq
          go_wp2
          go_roundw
          case rel => exact ⟨j + 1, A2, c2, by omega, by go_num, by rw [e1], by rw [e1]; exact HO2.out, HB2.out⟩
          case measure => simp [intOf]; omega
    · obtain rfl : j = v := by omega
      go_wp2
      go_ret
      exact ⟨A, c, rfl, HO.out, HBr.out⟩


theorem lvWires_any (x : Int) (w : World) : Calls Try.prog 50 #[.int .i64 x] w (SameB (inB x 2 8) w) := by
  go_enter Try.func50, Try.ntmps50
  go_wp2_with (go_at_call 45; refine (l1In_any _ _ _ _).mono ?_; rintro e w' ⟨rfl, rfl⟩)
  go_ret
  exact ⟨rfl, rfl⟩

set_option maxRecDepth 100000 in
set_option maxHeartbeats 1000000 in
theorem sBrickLadder_any (x y : Int) (w : World) :
    Calls Try.prog 41 #[.int .i64 x, .int .i64 y] w (FreshLB w (ifW (bkB x y) x) (bkL x y).length (bkL x y) (bkB x y)) := by
  have HB := belAlloc (belRefl (w := w)) (.cells #[.int .i64 0, .slice none 0 0] 24)
  have HC := cellNew w (.int .i64 0) (.slice none 0 0) 24
  unfold bkL
  by_cases hx : 2 ≤ x ∧ x ≤ 8
  · have HW := Lib.hid (inB_true (n := x) (lo := 2) (hi := 8) hx)
    by_cases hy : 0 ≤ y ∧ y ≤ 20
    · have HW2 := Lib.hid (inB_true (n := y) (lo := 0) (hi := 20) hy)
      rw [bkB_yes hx hy]
      obtain ⟨n, rfl⟩ : ∃ n : Nat, x = (n : Int) := ⟨x.toNat, by omega⟩
      obtain ⟨v, rfl⟩ : ∃ v : Nat, y = (v : Int) := ⟨y.toNat, by omega⟩
      simp only [Int.toNat_natCast]
      have h2 : 2 ≤ n := by omega
      have h8 : n ≤ 8 := by omega
      have hv : v ≤ 20 := by omega
      have hlen := oeK_len n h8 v
      have HO := Lib.hid (fun w2 => lvBricks_any n v w2 h8 h2 hv)
      obtain ⟨ys, hys⟩ : ∃ ys, ys = oeK n v := ⟨_, rfl⟩
      rw [← hys] at HO hlen ⊢
      clear hx hys hy
      go_enter Try.func41, Try.ntmps41
      go_wp2_with fail
      refine (lvWires_any (n : Int) _).mono ?_
      rw [HW.out]
      rintro e w1 ⟨rfl, rfl⟩
      go_wp2_with fail
      refine (l1In_any (v : Int) 0 20 _).mono ?_
      rw [HW2.out]
      rintro e w1 ⟨rfl, rfl⟩
      go_wp2_with fail
      refine (HO.out _).mono ?_
      rintro e w1 ⟨A, c, rfl, o1, hb⟩
      replace HB := belStep HB hb
      replace HC := cellStep HC hb
      have HY := Lib.hid o1
      have HZ1 : Hid (w.heap.size + 1 ≤ w1.heap.size) := Lib.hid (by have := hb.size; simp at this; omega)
      clear hb o1
      go_wp2_with fail
      refine (laIf_own (n : Int) A ys.length c ys (w.heap.size + 1) _ (HY.out.mono (by simp)) (by omega)).mono ?_
      rintro e w3 ⟨A3, c3, rfl, o3, hb⟩
      replace HC := cellStep HC hb
      replace HB := belStep HB hb
      have HO3 := Lib.hid o3
      have k0 := HC.out.c0; have k1 := HC.out.c1; have f0 := HC.out.f0; have f1 := HC.out.f1; have cz := HC.out.lt
      clear hb o3
      go_wp2
      exact bodyPost_ret (v := .tuple #[.agg #[.int .i64 (ifW (lad (n : Int) ys) n), .slice A3 (ifL (lad (n : Int) ys) ys).length c3], .bool (lad (n : Int) ys)]) (by simp [results, Try.results41, go_sem, k0, k1]) rfl
        ⟨A3, c3, rfl, ((HO3.out.setBelow (by simp <;> omega) _).setBelow (by simp <;> omega) _).mono (by omega), (HB.out.setCell (by simp) _).setCell (by simp) _⟩
    · have HW2 := Lib.hid (inB_false (n := y) (lo := 0) (hi := 20) hy)
      have HQ := Lib.hid (bkB_no (x := x) (y := y) (fun h => hy h.2))
      rw [HQ.out, ifW_no, ifL_no]
      have k0 := HC.out.c0; have k1 := HC.out.c1; have f0 := HC.out.f0; have f1 := HC.out.f1; have hz := HC.out.lt
      clear hx hy
      go_enter Try.func41, Try.ntmps41
      go_wp2_with fail
      refine (lvWires_any x _).mono ?_
      rw [HW.out]
      rintro e w1 ⟨rfl, rfl⟩
      go_wp2_with fail
      refine (l1In_any y 0 20 _).mono ?_
      rw [HW2.out]
      rintro e w1 ⟨rfl, rfl⟩
      go_wp2
      exact bodyPost_ret (v := .tuple #[.agg #[.int .i64 0, .slice none 0 0], .bool false]) (by simp [results, Try.results41, go_sem, k0, k1]) rfl ⟨none, 0, rfl, OI.none_ _ _, (by repeat (first | exact Below.refl _ _ | exact HB.out | refine Below.setCell ?_ (by simp <;> omega) _ | refine Below.alloc ?_ (by simp <;> omega) _ | refine below_drewN ?_ _))⟩
  · have HW := Lib.hid (inB_false (n := x) (lo := 2) (hi := 8) hx)
    have HQ := Lib.hid (bkB_no (x := x) (y := y) (fun h => hx h.1))
    rw [HQ.out, ifW_no, ifL_no]
    have k0 := HC.out.c0; have k1 := HC.out.c1; have f0 := HC.out.f0; have f1 := HC.out.f1; have hz := HC.out.lt
    clear hx
    go_enter Try.func41, Try.ntmps41
    go_wp2_with fail
    refine (lvWires_any x _).mono ?_
    rw [HW.out]
    rintro e w1 ⟨rfl, rfl⟩
    go_wp2
    exact bodyPost_ret (v := .tuple #[.agg #[.int .i64 0, .slice none 0 0], .bool false]) (by simp [results, Try.results41, go_sem, k0, k1]) rfl ⟨none, 0, rfl, OI.none_ _ _, (by repeat (first | exact Below.refl _ _ | exact HB.out | refine Below.setCell ?_ (by simp <;> omega) _ | refine Below.alloc ?_ (by simp <;> omega) _ | refine below_drewN ?_ _))⟩
end Go.Proofs.Ytnhhbpogjhcibaa
