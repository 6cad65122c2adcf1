/- The contract of the program's ResultOf. -/
import Derived.Test.YtcomgoapekkleaaC1f
namespace Go.Proofs.Ytcomgoapekkleaa
open Go Go.RowKit

set_option maxRecDepth 100000 in
set_option maxHeartbeats 4000000 in
theorem iResultOf_yes (N : Nat) (A : Option Addr) (n c : Nat) (zs : List Int) (w : World) (h : RI w A n zs) (hn : n ≤ 1048576) (hq : lad (N : Int) zs = true) :
    Calls Try.prog 59 #[.agg #[.int .i64 (N : Int), .slice A n c]] w (FreshIB w N (res zs N) true) := by
  have hN := (lad_iff.1 hq).1
  have hmk := run_make_row' (P := Try.prog) 22 3 (.int .i64 0) 8 Try.underlying22 infoInt rfl .i64 .i64 N (by omega) (by omega)
  have HW := Lib.hid hq
  have hzl := Lib.hid h.1
  clear hq
  go_enter Try.func59, Try.ntmps59
  go_wp2_with fail
  have HA := boxNew (W := (N : Int)) (c := c) 37 h
  have HB := belAlloc (belRefl (w := w)) (.cells #[.int .i64 (N : Int), .slice A n c] 37)
  refine (iIsLadder_any (N : Int) A n c zs _ (h.alloc _) hn).mono ?_
  rw [HW.out]
  rintro e w1 ⟨rfl, hb⟩
  replace HA := boxStep HA hb; replace HB := belStep HB hb; have a0 := HA.out.c0; have a1 := HA.out.c1; have az := HA.out.lt
  have HK : Hid (BoxB w1 w1.heap.size w.heap.size (N : Int) A n c zs) := BoxB.of HA.out
  have HZ := Lib.hid HB.out.size
  clear hb h
  go_wp2
  go_loopw [5, 14] (fun _ i wr => ∃ k : Nat, k ≤ N ∧ i = .int .i64 k ∧ wr.rowIs w1.heap.size 3 N (fun j => if j < k then .int .i64 (endOf zs (j : Int)) else .int .i64 0) ∧ Below w1.heap.size w1 wr) (fun _ i _ => N - (intOf i).toNat)
  case atStart =>
    refine ⟨0, Nat.zero_le _, rfl, (World.rowIs_made w1 (.int .i64 0) N 3).congr (fun j _ => by simp), (Below.refl _ _).alloc (Nat.le_refl _) _⟩
  case round =>
    obtain ⟨k, hk, rfl, hrow, hb⟩ := hrel
    have HBX : Hid (BoxB wr w1.heap.size w.heap.size (N : Int) A n c zs) := BoxB.step HK.out hb
    have HR := Lib.hid hrow
    have H2 := Lib.hid hb
    clear a0 a1
    by_cases hlt : k < N
    · have a0 := HBX.out.c0; have a1 := HBX.out.c1
      clear hrow hb hmk
      go_wp2_with (go_at_call 66; refine (endOf_any A n c zs _ _ HBX.out.rb.ri hn (Wires.wire HW.out (by omega))).mono ?_; rintro e w6 ⟨rfl, hb⟩; have HR6 : Hid (w6.rowIs w1.heap.size 3 N (fun j => if j < k then .int .i64 (endOf zs (j : Int)) else .int .i64 0)) := rowStep HR hb; have H6 := Lib.hid (H2.out.trans (hb.mono H2.out.size)); have hd := HR6.out.cell hlt; have hf := HR6.out.frozen k; simp only [Nat.lt_irrefl, if_false] at hd; clear hb)
      go_roundw
      case rel =>
        refine ⟨k + 1, by omega, by go_num, (HR6.out.set k _).congr (fun j hj => ?_), H6.out.setCell (by simp) _⟩
        by_cases e : j = k
        · simp [e]
        · by_cases e2 : j < k
          · simp [e, e2, show j < k + 1 by omega]
          · simp [e, e2, show ¬ j < k + 1 by omega]
      case measure => simp [intOf]; omega
    · obtain rfl : k = N := by omega
      clear hrow hb hmk
      go_wp2
      go_ret2
      refine ⟨_, _, rfl, OI.of_rowIs HZ.out HR.out (by simp only [maxLen]; omega) (res_length _ _) (fun j hj => by simp [hj, gi_res _ _ _ hj]), HB.out.trans (H2.out.mono HZ.out)⟩

set_option maxHeartbeats 1000000 in
theorem iResultOf_any (W : Int) (A : Option Addr) (n c : Nat) (zs : List Int) (w : World) (h : RI w A n zs) (hn : n ≤ 1048576) :
    Calls Try.prog 59 #[.agg #[.int .i64 W, .slice A n c]] w (FreshIB w (resN W zs).length (resN W zs) (lad W zs)) := by
  rcases hq : lad W zs with _ | _
  · rw [resN_no hq]
    have HW := Lib.hid hq
    clear hq
    go_enter Try.func59, Try.ntmps59
    go_wp2_with fail
    have HB := belAlloc (belRefl (w := w)) (.cells #[.int .i64 W, .slice A n c] 37)
    refine (iIsLadder_any W A n c zs _ (h.alloc _) hn).mono ?_
    rw [HW.out]
    rintro e w1 ⟨rfl, hb⟩
    have HB := belStep HB hb
    clear hb h
    go_wp2
    go_ret2
    exact ⟨none, 0, rfl, OI.none_ _ _, HB.out⟩
  · have hW := (lad_iff.1 hq).1
    obtain ⟨N, rfl⟩ : ∃ N : Nat, W = (N : Int) := ⟨W.toNat, by omega⟩
    have HL : Hid ((resN (N : Int) zs).length = N) := by show (resN (N : Int) zs).length = N; rw [resN_yes hq, res_length]; simp
    rw [HL.out, resN_yes hq, Int.toNat_natCast]
    exact iResultOf_yes N A n c zs w h hn hq
end Go.Proofs.Ytcomgoapekkleaa
