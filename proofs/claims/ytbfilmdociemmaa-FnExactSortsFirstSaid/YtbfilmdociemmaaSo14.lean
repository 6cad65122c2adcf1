/- The falling order; IsSorting, of the program and of the model. -/
import Derived.Test.YtbfilmdociemmaaSo13
import Derived.Test.YtbfilmdociemmaaStL
namespace Go.Proofs.Ytbfilmdociemmaa
open Go Go.RowKit

set_option maxHeartbeats 1000000 in
theorem fallingOrder_any (n : Nat) (w : World) (hn : n ≤ 1000) : Calls Try.prog 47 #[.int .i64 (n : Int)] w (FreshI w n (fallL n)) := by
  have hmk := run_make_row' (P := Try.prog) 22 3 (.int .i64 0) 8 Try.underlying22 infoInt rfl .i64 .i64 n (by omega) (by omega)
  go_enter Try.func47, Try.ntmps47
  go_wp2
  go_loopw [9] (fun i wr => ∃ k : Nat, k ≤ n ∧ i = .int .i64 k ∧ wr.rowIs w.heap.size 3 n (fun j => if j < k then .int .i64 (gi (fallL n) j) else .int .i64 0) ∧ Below w.heap.size w wr) (fun i _ => n - (intOf i).toNat)
  case atStart => exact ⟨0, Nat.zero_le _, rfl, (World.rowIs_made w (.int .i64 0) n 3).congr (fun j _ => by simp), (Below.refl _ _).alloc (Nat.le_refl _) _⟩
  case round =>
    obtain ⟨k, hk, rfl, hrow, hb⟩ := hrel
    by_cases hlt : k < n
    · have hd := hrow.cell hlt
      have hf := hrow.frozen k
      simp only [Nat.lt_irrefl, if_false] at hd
      have H1 := Lib.hid hrow
      have H2 := Lib.hid hb
      have hw1 : IntKind.i64.wrap ((n : Int) - 1) = (n : Int) - 1 := IntWalk.i64_in _ (by omega)
      have hw2 : IntKind.i64.wrap ((n : Int) - 1 - (k : Int)) = (n : Int) - 1 - (k : Int) := IntWalk.i64_in _ (by omega)
      have hv := gi_fallL n k hlt
      have HV := Lib.hid (show (n : Int) - 1 - (k : Int) = gi (fallL n) k by rw [hv]; omega)
      clear hrow hb hmk hv
      go_wp2
      go_roundw
      case rel =>
        refine ⟨k + 1, by omega, by go_num, ?_, H2.out.setCell (by simp) _⟩
        rw [HV.out]
        refine (H1.out.set k _).congr (fun j hj => ?_)
        by_cases e : j = k
        · simp [e]
        · by_cases e2 : j < k
          · simp [e, e2, show j < k + 1 by omega]
          · simp [e, e2, show ¬ j < k + 1 by omega]
      case measure => simp [intOf]; omega
    · obtain rfl : k = n := by omega
      go_wp2
      go_ret
      exact ⟨_, _, rfl, OI.of_rowIs (Nat.le_refl _) hrow (by simp only [maxLen]; omega) (fallL_length _) (fun j hj => by simp [hj]), hb⟩

/-- a ladder that sorts all values -/
def isB (W : Int) (zs : List Int) : Bool := lad W zs && srtB (runS zs (fallL W.toNat))
theorem isB_no {W : Int} {zs : List Int} (h : lad W zs = false) : isB W zs = false := by unfold isB; rw [h]; rfl
theorem isB_yes {W : Int} {zs : List Int} (h : lad W zs = true) : isB W zs = srtB (runS zs (fallL W.toNat)) := by unfold isB; rw [h]; rfl

set_option maxHeartbeats 1000000 in
theorem sIsSorting_any (W : Int) (A : Option Addr) (m c : Nat) (zs : List Int) (w : World) (h : RI w A m zs) (hm : m ≤ 1048576) :
    Calls Try.prog 24 #[.agg #[.int .i64 W, .slice A m c]] w (RetBB (isB W zs) (lad W zs) w) := by
  rcases hq : lad W zs with _ | _
  · rw [isB_no hq]
    have HW := Lib.hid hq
    clear hq
    go_enter Try.func24, Try.ntmps24
    go_wp2_with fail
    have HB := belAlloc (belRefl (w := w)) (.cells #[.int .i64 W, .slice A m c] 28)
    refine (laGood_any W A m c zs _ (h.alloc _) hm).mono ?_
    rw [HW.out]
    rintro e w1 ⟨rfl, hb⟩
    replace HB := belStep HB hb
    clear hb h
    go_wp2
    go_ret2
    exact ⟨rfl, HB.out⟩
  · rw [isB_yes hq]
    have h4 := (lad_iff.1 hq).1
    have h5 := (lad_iff.1 hq).2.1
    have hml := h.1
    obtain ⟨N, rfl⟩ : ∃ N : Nat, W = (N : Int) := ⟨W.toNat, by omega⟩
    rw [Int.toNat_natCast]
    have hz : rungsIn zs N := by have := rungsIn_of_lad hq; rwa [Int.toNat_natCast] at this
    have HW := Lib.hid hq
    have hn8 : N ≤ 8 := by omega
    have hn0 : 0 < N := by omega
    have hm6 : m ≤ 60 := by omega
    have HS := Lib.hid (fun w2 (r : RI w2 A m zs) => soAll_any N A m c zs w2 r hn8 hn0 hm6 hz)
    obtain ⟨q, hqq⟩ : ∃ q, q = srtB (runS zs (fallL N)) := ⟨_, rfl⟩
    rw [← hqq] at HS ⊢
    clear hq h4 h5 hz hml hqq
    go_enter Try.func24, Try.ntmps24
    go_wp2_with fail
    have HA := boxNew (W := (N : Int)) (c := c) 28 h
    have HB := belAlloc (belRefl (w := w)) (.cells #[.int .i64 (N : Int), .slice A m c] 28)
    refine (laGood_any (N : Int) A m c zs _ (h.alloc _) hm).mono ?_
    rw [HW.out]
    rintro e w1 ⟨rfl, hb⟩
    replace HA := boxStep HA hb
    replace HB := belStep HB hb
    have a0 := HA.out.c0; have a1 := HA.out.c1; have az := HA.out.lt
    clear hb h
    go_wp2_with fail
    refine (HS.out _ HA.out.ri).mono ?_
    rintro e w2 ⟨rfl, hb⟩
    replace HA := boxStep HA hb; replace HB := belStep HB hb; replace a0 := HA.out.c0; replace a1 := HA.out.c1; replace az := HA.out.lt; clear hb
    go_wp2
    go_ret2
    exact ⟨rfl, HB.out⟩

set_option maxRecDepth 100000 in
set_option maxHeartbeats 2000000 in
theorem iIsSorting_any (W : Int) (A : Option Addr) (m c : Nat) (zs : List Int) (w : World) (h : RI w A m zs) (hm : m ≤ 1048576) :
    Calls Try.prog 25 #[.agg #[.int .i64 W, .slice A m c]] w (RetBB (isB W zs) (lad W zs) w) := by
  rcases hq : lad W zs with _ | _
  · rw [isB_no hq]
    have HW := Lib.hid hq
    clear hq
    go_enter Try.func25, Try.ntmps25
    go_wp2_with fail
    have HB := belAlloc (belRefl (w := w)) (.cells #[.int .i64 W, .slice A m c] 28)
    refine (iIsLadder_any W A m c zs _ (h.alloc _) hm).mono ?_
    rw [HW.out]
    rintro e w1 ⟨rfl, hb⟩
    replace HB := belStep HB hb
    clear hb h
    go_wp2
    go_ret2
    exact ⟨rfl, HB.out⟩
  · rw [isB_yes hq]
    have h4 := (lad_iff.1 hq).1
    have h5 := (lad_iff.1 hq).2.1
    have hml := h.1
    obtain ⟨N, rfl⟩ : ∃ N : Nat, W = (N : Int) := ⟨W.toNat, by omega⟩
    rw [Int.toNat_natCast]
    have hz : rungsIn zs N := by have := rungsIn_of_lad hq; rwa [Int.toNat_natCast] at this
    have HW := Lib.hid hq
    have hn8 : N ≤ 8 := by omega
    have hn0 : 0 < N := by omega
    have hm6 : m ≤ 60 := by omega
    have HS := Lib.hid (fun w2 A2 c2 (r : RI w2 A m zs) (r2 : RI w2 A2 N (fallL N)) => sorts_any A m c zs A2 N c2 (fallL N) w2 r r2 hn8 hn0 hm6 hz)
    obtain ⟨q, hqq⟩ : ∃ q, q = srtB (runS zs (fallL N)) := ⟨_, rfl⟩
    rw [← hqq] at HS ⊢
    clear hq h4 h5 hz hml hqq
    go_enter Try.func25, Try.ntmps25
    go_wp2_with fail
    have HA := boxNew (W := (N : Int)) (c := c) 28 h
    have HB := belAlloc (belRefl (w := w)) (.cells #[.int .i64 (N : Int), .slice A m c] 28)
    refine (iIsLadder_any (N : Int) A m c zs _ (h.alloc _) hm).mono ?_
    rw [HW.out]
    rintro e w1 ⟨rfl, hb⟩
    replace HA := boxStep HA hb
    replace HB := belStep HB hb
    have a0 := HA.out.c0; have a1 := HA.out.c1; have az := HA.out.lt
    clear hb h
    go_wp2
    have AD := boxDrew HA; have BD := belDrew HB
    go_region_held3 (fun w' => w'.cell? ⟨w.heap.size, 0, none⟩ = some (.int .i64 (N : Int)) ∧ w'.cell? ⟨w.heap.size, 1, none⟩ = some (.slice A m c))
      (first | exact ⟨HA.out.c0, HA.out.c1⟩ | exact ⟨A2.out.c0, A2.out.c1⟩ | exact ⟨A3.out.c0, A3.out.c1⟩)
      (first
        | (go_at_call 47; refine (fallingOrder_any N _ (by omega)).mono ?_; rintro e w2 ⟨F2, d2, rfl, o2, hb⟩; have A2 := boxStep AD hb; have B2 := belStep BD hb; have O2 := Lib.hid o2; clear hb o2)
        | (go_at_call 46; refine (HS.out _ _ _ A2.out.ri O2.out.ri).mono ?_; rintro e w3 ⟨rfl, hb⟩; have A3 := boxStep A2 hb; have B3 := belStep B2 hb; clear hb))
    go_wp2
    go_ret2
    exact ⟨rfl, B3.out⟩
end Go.Proofs.Ytbfilmdociemmaa
