/- The law of IsDesk: for every ladder's text it returns true, and nothing that was there has turned. -/
import Derived.Test.YtalbmgapahbanaaDk1
namespace Go.Proofs.Ytalbmgapahbanaa
open Go Go.RowKit

set_option maxHeartbeats 1000000 in
theorem lawIsDesk_any (W : Int) (A : Option Addr) (n c : Nat) (t : Bool) (zs : List Int) (w : World) (h : RI w A n zs) (hn : n ≤ 9223372036854775807) :
    Calls Try.prog 4 #[.agg #[.int .i64 W, .slice A n c, .bool t]] w (RetB true w) := by
  by_cases hn2 : (n : Int) ≤ 1048576
  · have E := Lib.hid (szv_yes hn2).symm
    have hn3 : n ≤ 1048576 := by omega
    obtain ⟨q, hq⟩ : ∃ q, q = lad W zs := ⟨_, rfl⟩
    have HQ := Lib.hid hq
    have e0 : (q != q) = false := by simp
    clear hq
    go_enter Try.func4, Try.ntmps4
    go_wp2_with fail
    have HA := dboxNew (W := W) (c := c) (t := t) 33 h
    have HB := belAlloc (belRefl (w := w)) (.cells #[.int .i64 W, .slice A n c, .bool t] 33)
    refine (szDesk_any W A n c t _ _ (by omega) (by omega) hn).mono ?_
    rw [E.out]
    rintro e w1 ⟨rfl, hb⟩
    have HA := dboxStep HA hb; have HB := belStep HB hb; have a0 := HA.out.c0; have a1 := HA.out.c1; have a2 := HA.out.c2; have az := HA.out.lt
    clear hb h
    go_wp2_with fail
    -- the model's argument
    refine (toDesk_any W A n c zs t _ HA.out.ri hn3).mono ?_
    rintro e w2 ⟨A2, c2, rfl, o2, hb⟩
    replace HA := dboxStep HA hb; replace HB := belStep HB hb; replace a0 := HA.out.c0; replace a1 := HA.out.c1; replace a2 := HA.out.c2; replace az := HA.out.lt; clear hb
    go_wp2_with fail
    refine (sIsDesk_any W A2 n c2 t zs _ o2.ri hn3).mono ?_
    rw [← HQ.out]
    rintro e w3 ⟨rfl, hb⟩
    clear o2
    replace HA := dboxStep HA hb; replace HB := belStep HB hb; replace a0 := HA.out.c0; replace a1 := HA.out.c1; replace a2 := HA.out.c2; replace az := HA.out.lt; clear hb
    go_wp2_with fail
    -- the program's argument
    refine (toDesk_any W A n c zs t _ HA.out.ri hn3).mono ?_
    rintro e w4 ⟨A4, c4, rfl, o4, hb⟩
    replace HA := dboxStep HA hb; replace HB := belStep HB hb; replace a0 := HA.out.c0; replace a1 := HA.out.c1; replace a2 := HA.out.c2; replace az := HA.out.lt; clear hb
    go_wp2_with fail
    have HX := dboxNew (W := W) (c := c4) (t := t) 26 o4.ri
    replace HA := dboxAlloc HA (.cells #[.int .i64 W, .slice A4 n c4, .bool t] 26)
    replace HB := belAlloc HB (.cells #[.int .i64 W, .slice A4 n c4, .bool t] 26)
    refine (iIsDesk_any W A4 n c4 t zs _ HX.out.ri hn3).mono ?_
    rw [← HQ.out]
    rintro e w5 ⟨rfl, hb⟩
    clear o4
    replace HA := dboxStep HA hb; replace HX := dboxStep HX hb; replace HB := belStep HB hb; replace a0 := HA.out.c0; replace a1 := HA.out.c1; replace a2 := HA.out.c2; replace az := HA.out.lt; have x0 := HX.out.c0; have x1 := HX.out.c1; have x2 := HX.out.c2; have xz := HX.out.lt; clear hb
    go_wp2_with fail
    have HD := dboxDrew HA; have HXD := dboxDrew HX; have HBD := belDrew HB
    go_region_held3 (fun w' => w'.cell? ⟨w.heap.size, 0, none⟩ = some (.int .i64 W) ∧ w'.cell? ⟨w.heap.size, 1, none⟩ = some (.slice A n c) ∧ w'.cell? ⟨w.heap.size, 2, none⟩ = some (.bool t) ∧ w'.cell? ⟨w4.heap.size, 0, none⟩ = some (.int .i64 W) ∧ w'.cell? ⟨w4.heap.size, 1, none⟩ = some (.slice A4 n c4) ∧ w'.cell? ⟨w4.heap.size, 2, none⟩ = some (.bool t))
      (first | exact ⟨HA.out.c0, HA.out.c1, HA.out.c2, HX.out.c0, HX.out.c1, HX.out.c2⟩ | exact ⟨HA6.out.c0, HA6.out.c1, HA6.out.c2, HX6.out.c0, HX6.out.c1, HX6.out.c2⟩ | exact ⟨HA7.out.c0, HA7.out.c1, HA7.out.c2, HX7.out.c0, HX7.out.c1, HX7.out.c2⟩)
      (first
        | (go_at_call 12; refine (toDesk_any W A n c zs t _ HD.out.ri hn3).mono ?_; rintro e w6 ⟨A6, c6, rfl, o6, hb⟩; have HA6 := dboxStep HD hb; have HX6 := dboxStep HXD hb; have HB6 := belStep HBD hb; clear hb)
        | (go_at_call 7; refine (eqDesk_any W A4 n c4 zs t W A6 n c6 zs t _ HX6.out.ri o6.ri hn3 hn3).mono ?_; rw [dkSelf W zs t]; rintro e w7 ⟨rfl, hb⟩; have HA7 := dboxStep HA6 hb; have HX7 := dboxStep HX6 hb; have HB7 := belStep HB6 hb; clear hb))
    go_wp2
    go_ret
    exact ⟨rfl, HB7.out⟩
  · have E := Lib.hid (szv_no hn2).symm
    go_enter Try.func4, Try.ntmps4
    go_wp2_with fail
    refine (szDesk_any W A n c t _ _ (by omega) (by omega) hn).mono ?_
    rw [E.out]
    rintro e w1 ⟨rfl, hb⟩
    have HB := belStep (belAlloc (belRefl (w := w)) (.cells #[.int .i64 W, .slice A n c, .bool t] 33)) hb
    clear hb h
    go_wp2_with fail
    go_ret
    exact ⟨rfl, HB.out⟩
end Go.Proofs.Ytalbmgapahbanaa
