/- The contracts of NeedlessRungs, IsLeast and ReduceLadder, of the model. -/
import Derived.Test.YtcomgoapekkleaaRd1
import Derived.Test.YtcomgoapekkleaaIv2
import Derived.Test.YtcomgoapekkleaaLf3
import Derived.Test.YtcomgoapekkleaaStL
import Derived.Deep.RegionHeld3
import Derived.IntWalk
namespace Go.Proofs.Ytcomgoapekkleaa
open Go Go.RowKit

theorem lsInv_len (A0 : Option Addr) (n c0 : Nat) (zs : List Int) (w : World) (h : RI w A0 n zs) (hn : n ≤ 8) :
    Calls Try.prog 46 #[.slice A0 n c0] w (fun e w' => ∃ A c, e = .returned (.slice A (invL zs) c) ∧ Below w.heap.size w w') :=
  (lsInversions_any A0 n c0 zs w h hn).mono (by
    rintro e w' ⟨A, c, M, S, rfl, _, hb⟩
    exact ⟨A, c, by rw [invs_invL], hb⟩)

set_option maxRecDepth 100000 in
set_option maxHeartbeats 4000000 in
theorem lsLeast_any (N : Nat) (A : Option Addr) (n c : Nat) (zs : List Int) (w : World) (h : RI w A n zs) (hn : n ≤ 1048576) (hq : lad (N : Int) zs = true) :
    Calls Try.prog 57 #[.agg #[.int .i64 (N : Int), .slice A n c]] w (RetB ((n : Int) == (invL (res zs N) : Int)) w) := by
  have hN := (lad_iff.1 hq).1
  have HW := Lib.hid hq
  obtain ⟨m, hm⟩ : ∃ m, m = invL (res zs N) := ⟨_, rfl⟩
  have hm56 := invL_le (zs := res zs N) (by rw [res_length]; omega)
  have HLI : Hid (∀ (A0 : Option Addr) (c0 : Nat) (w : World), RI w A0 N (res zs N) → Calls Try.prog 46 #[.slice A0 N c0] w (fun e w' => ∃ A c, e = .returned (.slice A m c) ∧ Below w.heap.size w w')) := fun A0 c0 w h => by
    rw [hm]; exact lsInv_len A0 N c0 (res zs N) w h (by omega)
  rw [← hm] at hm56 ⊢
  clear hm hq
  go_enter Try.func57, Try.ntmps57
  go_wp2_with fail
  have HA := boxNew (W := (N : Int)) (c := c) 37 h
  have HB := belAlloc (belRefl (w := w)) (.cells #[.int .i64 (N : Int), .slice A n c] 37)
  clear h
  have HD := boxDrew HA; have HBD := belDrew HB
  go_region_held3 (fun w' => w'.cell? ⟨w.heap.size, 0, none⟩ = some (.int .i64 (N : Int)) ∧ w'.cell? ⟨w.heap.size, 1, none⟩ = some (.slice A n c))
    (first | exact ⟨HA.out.c0, HA.out.c1⟩ | exact ⟨HA6.out.c0, HA6.out.c1⟩ | exact ⟨HA7.out.c0, HA7.out.c1⟩)
    (first
      | (go_at_call 58; refine (laResult_any N A n c zs _ HD.out.ri hn HW.out).mono ?_; rintro e w6 ⟨A6, c6, rfl, o6, hb⟩; have HA6 := boxStep HD hb; have HB6 := belStep HBD hb; have O6 := Lib.hid o6; clear hb o6)
      | (go_at_call 46; refine (HLI.out A6 c6 _ O6.out.ri).mono ?_; rintro e w7 ⟨A7, c7, rfl, hb⟩; have HA7 := boxStep HA6 hb; have HB7 := belStep HB6 hb; clear hb))
  go_wp2
  go_ret
  exact ⟨rfl, HB7.out⟩

set_option maxHeartbeats 1000000 in
theorem sIsLeast_any (W : Int) (A : Option Addr) (n c : Nat) (zs : List Int) (w : World) (h : RI w A n zs) (hn : n ≤ 1048576) :
    Calls Try.prog 38 #[.agg #[.int .i64 W, .slice A n c]] w (RetBB (lstB W zs) (lad W zs) w) := by
  rcases hq : lad W zs with _ | _
  · rw [lstB_no hq]
    have HW := Lib.hid hq
    clear hq
    go_enter Try.func38, Try.ntmps38
    go_wp2_with fail
    have HB := belAlloc (belRefl (w := w)) (.cells #[.int .i64 W, .slice A n c] 37)
    refine (laGood_any W A n c zs _ (h.alloc _) hn).mono ?_
    rw [HW.out]
    rintro e w1 ⟨rfl, hb⟩
    have HB := belStep HB hb
    clear hb h
    go_wp2
    go_ret2
    exact ⟨rfl, HB.out⟩
  · have hW := (lad_iff.1 hq).1
    obtain ⟨N, rfl⟩ : ∃ N : Nat, W = (N : Int) := ⟨W.toNat, by omega⟩
    rw [lstB_yes hq, h.1]
    obtain ⟨q, hqq⟩ : ∃ q, q = ((n : Int) == (invL (res zs N) : Int)) := ⟨_, rfl⟩
    have HL : Hid (∀ (A : Option Addr) (w : World), RI w A n zs → Calls Try.prog 57 #[.agg #[.int .i64 (N : Int), .slice A n c]] w (RetB q w)) := fun A w h => by
      rw [hqq]; exact lsLeast_any N A n c zs w h hn hq
    rw [← hqq]
    have HW := Lib.hid hq
    clear hq hqq
    go_enter Try.func38, Try.ntmps38
    go_wp2_with fail
    have HA := boxNew (W := (N : Int)) (c := c) 37 h
    have HB := belAlloc (belRefl (w := w)) (.cells #[.int .i64 (N : Int), .slice A n c] 37)
    refine (laGood_any (N : Int) A n c zs _ (h.alloc _) hn).mono ?_
    rw [HW.out]
    rintro e w1 ⟨rfl, hb⟩
    have HA := boxStep HA hb; have HB := belStep HB hb; have a0 := HA.out.c0; have a1 := HA.out.c1; have az := HA.out.lt
    clear hb h
    go_wp2_with fail
    refine (HL.out A _ HA.out.ri).mono ?_
    rintro e w2 ⟨rfl, hb⟩
    replace HA := boxStep HA hb; replace HB := belStep HB hb; replace a0 := HA.out.c0; replace a1 := HA.out.c1; replace az := HA.out.lt; clear hb
    go_wp2
    go_ret2
    exact ⟨rfl, HB.out⟩

set_option maxRecDepth 100000 in
set_option maxHeartbeats 4000000 in
theorem sNeedlessRungs_any (W : Int) (A : Option Addr) (n c : Nat) (zs : List Int) (w : World) (h : RI w A n zs) (hn : n ≤ 1048576) :
    Calls Try.prog 41 #[.agg #[.int .i64 W, .slice A n c]] w (RetIB (needN W zs) (lad W zs) w) := by
  rcases hq : lad W zs with _ | _
  · rw [needN_no hq]
    have HW := Lib.hid hq
    clear hq
    go_enter Try.func41, Try.ntmps41
    go_wp2_with fail
    have HB := belAlloc (belRefl (w := w)) (.cells #[.int .i64 W, .slice A n c] 37)
    refine (laGood_any W A n c zs _ (h.alloc _) hn).mono ?_
    rw [HW.out]
    rintro e w1 ⟨rfl, hb⟩
    have HB := belStep HB hb
    clear hb h
    go_wp2
    go_ret2
    exact ⟨rfl, HB.out⟩
  · have hW := (lad_iff.1 hq).1
    obtain ⟨N, rfl⟩ : ∃ N : Nat, W = (N : Int) := ⟨W.toNat, by omega⟩
    have hn60 : n ≤ 60 := by have := (lad_iff.1 hq).2.1; rw [h.1] at this; exact this
    rw [needN_yes hq, h.1]
    obtain ⟨m, hm⟩ : ∃ m, m = invL (res zs N) := ⟨_, rfl⟩
    have hm56 := invL_le (zs := res zs N) (by rw [res_length]; omega)
    have HLI : Hid (∀ (A0 : Option Addr) (c0 : Nat) (w : World), RI w A0 N (res zs N) → Calls Try.prog 46 #[.slice A0 N c0] w (fun e w' => ∃ A c, e = .returned (.slice A m c) ∧ Below w.heap.size w w')) := fun A0 c0 w h => by
      rw [hm]; exact lsInv_len A0 N c0 (res zs N) w h (by omega)
    rw [← hm] at hm56 ⊢
    have HW := Lib.hid hq
    have hwr : IntKind.i64.wrap ((n : Int) - (m : Int)) = (n : Int) - (m : Int) := IntWalk.i64_in _ (by omega)
    clear hm hq
    go_enter Try.func41, Try.ntmps41
    go_wp2_with fail
    have HA := boxNew (W := (N : Int)) (c := c) 37 h
    have HB := belAlloc (belRefl (w := w)) (.cells #[.int .i64 (N : Int), .slice A n c] 37)
    refine (laGood_any (N : Int) A n c zs _ (h.alloc _) hn).mono ?_
    rw [HW.out]
    rintro e w1 ⟨rfl, hb⟩
    replace HA := boxStep HA hb; replace HB := belStep HB hb
    clear hb h
    go_wp2_with fail
    have HD := boxDrew HA; have HBD := belDrew HB
    go_region_held3 (fun w' => w'.cell? ⟨w.heap.size, 0, none⟩ = some (.int .i64 (N : Int)) ∧ w'.cell? ⟨w.heap.size, 1, none⟩ = some (.slice A n c))
      (first | exact ⟨HA.out.c0, HA.out.c1⟩ | exact ⟨HA6.out.c0, HA6.out.c1⟩ | exact ⟨HA7.out.c0, HA7.out.c1⟩)
      (first
        | (go_at_call 58; refine (laResult_any N A n c zs _ HD.out.ri hn HW.out).mono ?_; rintro e w6 ⟨A6, c6, rfl, o6, hb⟩; have HA6 := boxStep HD hb; have HB6 := belStep HBD hb; have O6 := Lib.hid o6; clear hb o6)
        | (go_at_call 46; refine (HLI.out A6 c6 _ O6.out.ri).mono ?_; rintro e w7 ⟨A7, c7, rfl, hb⟩; have HA7 := boxStep HA6 hb; have HB7 := belStep HB6 hb; clear hb))
    go_wp2
    go_ret2
    exact ⟨rfl, HB7.out⟩

end Go.Proofs.Ytcomgoapekkleaa
