/- EndOf and WayDown for every argument. -/
import Derived.Test.YtioekhjokbbmlaaC1d
namespace Go.Proofs.Ytioekhjokbbmlaa
open Go Go.RowKit

def endN (W : Int) (zs : List Int) (s : Int) : Int := if wire W zs s = true then endOf zs s else 0
theorem endN_yes {W : Int} {zs : List Int} {s : Int} (h : wire W zs s = true) : endN W zs s = endOf zs s := by unfold endN; rw [if_pos h]
theorem endN_no {W : Int} {zs : List Int} {s : Int} (h : wire W zs s = false) : endN W zs s = 0 := by unfold endN; rw [h]; rfl
def wayN (W : Int) (zs : List Int) (s : Int) : List Int := if wire W zs s = true then down zs s else []
theorem wayN_yes {W : Int} {zs : List Int} {s : Int} (h : wire W zs s = true) : wayN W zs s = down zs s := by unfold wayN; rw [if_pos h]
theorem wayN_no {W : Int} {zs : List Int} {s : Int} (h : wire W zs s = false) : wayN W zs s = [] := by unfold wayN; rw [h]; rfl

theorem wayN_len (W : Int) (zs : List Int) (s : Int) : (wayN W zs s).length ≤ 1000 := by
  rcases h : wire W zs s with _ | _
  · rw [wayN_no h]; simp
  · rw [wayN_yes h, down_length]
    have := (lad_iff.1 (wire_iff.1 h).1).2.1
    omega

set_option maxHeartbeats 1000000 in
theorem sEndOf_any (W : Int) (A : Option Addr) (n c : Nat) (zs : List Int) (s : Int) (w : World) (h : RI w A n zs) (hn : n ≤ 1048576) :
    Calls Try.prog 26 #[.agg #[.int .i64 W, .slice A n c], .int .i64 s] w (RetIB (endN W zs s) (wire W zs s) w) := by
  rcases hq : wire W zs s with _ | _
  · rw [endN_no hq]
    have HW := Lib.hid hq
    clear hq
    go_enter Try.func26, Try.ntmps26
    go_wp2_with fail
    have HB := belAlloc (belRefl (w := w)) (.cells #[.int .i64 W, .slice A n c] 27)
    refine (laWire_any W A n c zs s _ (h.alloc _) hn).mono ?_
    rw [HW.out]
    rintro e w1 ⟨rfl, hb⟩
    have HB := belStep HB hb
    clear hb h
    go_wp2
    go_ret2
    exact ⟨rfl, HB.out⟩
  · rw [endN_yes hq]
    exact sEndOf_yes W A n c zs s w h hn hq

set_option maxHeartbeats 1000000 in
theorem iEndOf_any (W : Int) (A : Option Addr) (n c : Nat) (zs : List Int) (s : Int) (w : World) (h : RI w A n zs) (hn : n ≤ 1048576) :
    Calls Try.prog 27 #[.agg #[.int .i64 W, .slice A n c], .int .i64 s] w (RetIB (endN W zs s) (wire W zs s) w) := by
  rcases hq : wire W zs s with _ | _
  · rw [endN_no hq]
    have HW := Lib.hid hq
    clear hq
    go_enter Try.func27, Try.ntmps27
    go_wp2_with fail
    have HB := belAlloc (belRefl (w := w)) (.cells #[.int .i64 W, .slice A n c] 27)
    refine (isStart_any W A n c zs s _ (h.alloc _) hn).mono ?_
    rw [HW.out]
    rintro e w1 ⟨rfl, hb⟩
    have HB := belStep HB hb
    clear hb h
    go_wp2
    go_ret2
    exact ⟨rfl, HB.out⟩
  · rw [endN_yes hq]
    have HW := Lib.hid hq
    clear hq
    go_enter Try.func27, Try.ntmps27
    go_wp2_with fail
    have HA := boxNew (W := W) (c := c) 27 h
    have HB := belAlloc (belRefl (w := w)) (.cells #[.int .i64 W, .slice A n c] 27)
    refine (isStart_any W A n c zs s _ (h.alloc _) hn).mono ?_
    rw [HW.out]
    rintro e w1 ⟨rfl, hb⟩
    have HA := boxStep HA hb; have HB := belStep HB hb; have a0 := HA.out.c0; have a1 := HA.out.c1; have az := HA.out.lt
    clear hb h
    go_wp2_with fail
    refine (endOf_any A n c zs s _ HA.out.ri hn (Wires.of HW.out)).mono ?_
    rintro e w2 ⟨rfl, hb⟩
    replace HA := boxStep HA hb; replace HB := belStep HB hb; replace a0 := HA.out.c0; replace a1 := HA.out.c1; replace az := HA.out.lt; clear hb
    go_wp2
    go_ret2
    exact ⟨rfl, HB.out⟩

set_option maxHeartbeats 1000000 in
theorem sWayDown_any (W : Int) (A : Option Addr) (n c : Nat) (zs : List Int) (s : Int) (w : World) (h : RI w A n zs) (hn : n ≤ 1048576) :
    Calls Try.prog 28 #[.agg #[.int .i64 W, .slice A n c], .int .i64 s] w (FreshIB w (wayN W zs s).length (wayN W zs s) (wire W zs s)) := by
  rcases hq : wire W zs s with _ | _
  · rw [wayN_no hq]
    have HW := Lib.hid hq
    clear hq
    go_enter Try.func28, Try.ntmps28
    go_wp2_with fail
    have HB := belAlloc (belRefl (w := w)) (.cells #[.int .i64 W, .slice A n c] 27)
    refine (laWire_any W A n c zs s _ (h.alloc _) hn).mono ?_
    rw [HW.out]
    rintro e w1 ⟨rfl, hb⟩
    have HB := belStep HB hb
    clear hb h
    go_wp2
    go_ret2
    exact ⟨none, 0, rfl, OI.none_ _ _, HB.out⟩
  · have HL : Hid ((wayN W zs s).length = n + 1) := by show (wayN W zs s).length = n + 1; rw [wayN_yes hq, down_length, h.1]
    rw [HL.out, wayN_yes hq]
    have HW := Lib.hid hq
    clear hq
    go_enter Try.func28, Try.ntmps28
    go_wp2_with fail
    have HA := boxNew (W := W) (c := c) 27 h
    have HB := belAlloc (belRefl (w := w)) (.cells #[.int .i64 W, .slice A n c] 27)
    refine (laWire_any W A n c zs s _ (h.alloc _) hn).mono ?_
    rw [HW.out]
    rintro e w1 ⟨rfl, hb⟩
    have HA := boxStep HA hb; have HB := belStep HB hb; have a0 := HA.out.c0; have a1 := HA.out.c1; have az := HA.out.lt
    have z1 := HB.out.size
    clear hb h
    go_wp2_with fail
    refine (laDown_any A n c zs s _ HA.out.ri hn (Wires.of HW.out)).mono ?_
    rintro e w2 ⟨A2, c2, rfl, ho, hb⟩
    have HO := Lib.hid (ho.mono z1)
    clear ho
    replace HA := boxStep HA hb; replace HB := belStep HB hb; replace a0 := HA.out.c0; replace a1 := HA.out.c1; replace az := HA.out.lt; clear hb
    go_wp2
    go_ret2
    exact ⟨A2, c2, rfl, HO.out, HB.out⟩

set_option maxHeartbeats 1000000 in
theorem iWayDown_any (W : Int) (A : Option Addr) (n c : Nat) (zs : List Int) (s : Int) (w : World) (h : RI w A n zs) (hn : n ≤ 1048576) :
    Calls Try.prog 29 #[.agg #[.int .i64 W, .slice A n c], .int .i64 s] w (FreshIB w (wayN W zs s).length (wayN W zs s) (wire W zs s)) := by
  rcases hq : wire W zs s with _ | _
  · rw [wayN_no hq]
    have HW := Lib.hid hq
    clear hq
    go_enter Try.func29, Try.ntmps29
    go_wp2_with fail
    have HB := belAlloc (belRefl (w := w)) (.cells #[.int .i64 W, .slice A n c] 27)
    refine (isStart_any W A n c zs s _ (h.alloc _) hn).mono ?_
    rw [HW.out]
    rintro e w1 ⟨rfl, hb⟩
    have HB := belStep HB hb
    clear hb h
    go_wp2
    go_ret2
    exact ⟨none, 0, rfl, OI.none_ _ _, HB.out⟩
  · have HL : Hid ((wayN W zs s).length = n + 1) := by show (wayN W zs s).length = n + 1; rw [wayN_yes hq, down_length, h.1]
    rw [HL.out, wayN_yes hq]
    have HW := Lib.hid hq
    clear hq
    go_enter Try.func29, Try.ntmps29
    go_wp2_with fail
    have HA := boxNew (W := W) (c := c) 27 h
    have HB := belAlloc (belRefl (w := w)) (.cells #[.int .i64 W, .slice A n c] 27)
    refine (isStart_any W A n c zs s _ (h.alloc _) hn).mono ?_
    rw [HW.out]
    rintro e w1 ⟨rfl, hb⟩
    have HA := boxStep HA hb; have HB := belStep HB hb; have a0 := HA.out.c0; have a1 := HA.out.c1; have az := HA.out.lt
    have z1 := HB.out.size
    clear hb h
    go_wp2_with fail
    refine (wayDown_any A n c zs s _ HA.out.ri hn (Wires.of HW.out)).mono ?_
    rintro e w2 ⟨A2, c2, rfl, ho, hb⟩
    have HO := Lib.hid (ho.mono z1)
    clear ho
    replace HA := boxStep HA hb; replace HB := belStep HB hb; replace a0 := HA.out.c0; replace a1 := HA.out.c1; replace az := HA.out.lt; clear hb
    go_wp2
    go_ret2
    exact ⟨A2, c2, rfl, HO.out, HB.out⟩
end Go.Proofs.Ytioekhjokbbmlaa
