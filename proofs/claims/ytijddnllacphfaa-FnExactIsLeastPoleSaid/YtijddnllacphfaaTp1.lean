/- PlaceOf, of both. -/
import Derived.Test.YtijddnllacphfaaTl1
import Derived.Test.YtijddnllacphfaaTm2
namespace Go.Proofs.Ytijddnllacphfaa
open Go Go.RowKit
def pfB (zs us : List Int) (i : Int) : Bool := trn zs us && inB i (-1000) 1000
def pfN (zs us : List Int) (i : Int) : Int := if pfB zs us i = true then plc zs us i else 0
theorem pfB_1 {zs us : List Int} {i : Int} (h : trn zs us = false) : pfB zs us i = false := by unfold pfB; rw [h]; rfl
theorem pfB_2 {zs us : List Int} {i : Int} (h : trn zs us = true) : pfB zs us i = inB i (-1000) 1000 := by unfold pfB; rw [h]; rfl
theorem pfN_no {zs us : List Int} {i : Int} (h : pfB zs us i = false) : pfN zs us i = 0 := by unfold pfN; rw [h]; rfl
theorem pfN_yes {zs us : List Int} {i : Int} (h : pfB zs us i = true) : pfN zs us i = plc zs us i := by unfold pfN; rw [if_pos h]

set_option maxRecDepth 100000 in
set_option maxHeartbeats 1000000 in
theorem sPlaceOf_any (A : Option Addr) (n c : Nat) (zs : List Int) (E : Option Addr) (m d : Nat) (us : List Int) (i : Int) (w : World) (h : RI w A n zs) (g : RI w E m us) (hn : n ≤ 1048576) (hm : m ≤ 1048576) (hnc : n ≤ c) :
    Calls Try.prog 23 #[.agg #[.slice A n c, .slice E m d], .int .i64 i] w (RetIB (pfN zs us i) (pfB zs us i) w) := by
  have HA0 : Hid (RB w w.heap.size A n zs) := RB.of_ri h
  have HE0 : Hid (RB w w.heap.size E m us) := RB.of_ri g
  have _hc := hnc
  rcases ht : trn zs us with _ | _
  · rw [pfN_no (pfB_1 ht), pfB_1 ht]
    have HT := Lib.hid ht
    clear ht
    go_enter Try.func23, Try.ntmps23
    go_wp2_with fail
    have HC := cellNew w (.slice A n c) (.slice E m d) 27
    have HB := belAlloc (belRefl (w := w)) (.cells #[.slice A n c, .slice E m d] 27)
    refine (poTurned_any A n c zs E m d us _ (h.alloc _) (g.alloc _) hn hm hnc).mono ?_
    rw [HT.out]
    rintro e w1 ⟨rfl, hb⟩
    replace HC := cellStep HC hb
    replace HB := belStep HB hb
    have k0 := HC.out.c0; have k1 := HC.out.c1; have kz := HC.out.lt
    clear hb h g
    go_wp2
    go_ret2
    exact ⟨rfl, HB.out⟩
  · have HOK := Lib.hid (TOk.of ht)
    have HT := Lib.hid ht
    rcases hi : inB i (-1000) 1000 with _ | _
    · rw [pfN_no (by rw [pfB_2 ht, hi]), pfB_2 ht, hi]
      have HI := Lib.hid hi
      clear ht hi
      go_enter Try.func23, Try.ntmps23
      go_wp2_with fail
      have HC := cellNew w (.slice A n c) (.slice E m d) 27
      have HB := belAlloc (belRefl (w := w)) (.cells #[.slice A n c, .slice E m d] 27)
      refine (poTurned_any A n c zs E m d us _ (h.alloc _) (g.alloc _) hn hm hnc).mono ?_
      rw [HT.out]
      rintro e w1 ⟨rfl, hb⟩
      replace HC := cellStep HC hb
      replace HB := belStep HB hb
      have k0 := HC.out.c0; have k1 := HC.out.c1; have kz := HC.out.lt
      clear hb h g
      go_wp2_with (go_at_call 54; refine (l1In_any _ _ _ _).mono ?_; rw [HI.out]; rintro e w' ⟨rfl, rfl⟩)
      go_ret2
      exact ⟨rfl, HB.out⟩
    · rw [pfN_yes (by rw [pfB_2 ht, hi]), pfB_2 ht, hi]
      have HI := Lib.hid hi
      have hin := inB_iff.1 hi
      clear ht hi
      go_enter Try.func23, Try.ntmps23
      go_wp2_with fail
      have HC := cellNew w (.slice A n c) (.slice E m d) 27
      have HB := belAlloc (belRefl (w := w)) (.cells #[.slice A n c, .slice E m d] 27)
      refine (poTurned_any A n c zs E m d us _ (h.alloc _) (g.alloc _) hn hm hnc).mono ?_
      rw [HT.out]
      rintro e w1 ⟨rfl, hb⟩
      replace HC := cellStep HC hb
      replace HB := belStep HB hb
      have k0 := HC.out.c0; have k1 := HC.out.c1; have kz := HC.out.lt
      clear hb h g
      go_wp2_with (go_at_call 54; refine (l1In_any _ _ _ _).mono ?_; rw [HI.out]; rintro e w' ⟨rfl, rfl⟩)
      refine (poPlace_any A n c zs E m d us i _ (rbK HA0 HB.out) (rbK HE0 HB.out) HOK.out (by omega)).mono ?_
      rintro e w2 ⟨rfl, hb⟩
      replace HB := belStep HB hb
      clear hb
      go_wp2
      go_ret2
      exact ⟨rfl, HB.out⟩

set_option maxRecDepth 100000 in
set_option maxHeartbeats 1000000 in
theorem iPlaceOf_any (A : Option Addr) (n c : Nat) (zs : List Int) (E : Option Addr) (m d : Nat) (us : List Int) (i : Int) (w : World) (h : RI w A n zs) (g : RI w E m us) (hn : n ≤ 1048576) (hm : m ≤ 1048576) (hnc : n ≤ c) :
    Calls Try.prog 24 #[.agg #[.slice A n c, .slice E m d], .int .i64 i] w (RetIB (pfN zs us i) (pfB zs us i) w) := by
  have HA0 : Hid (RB w w.heap.size A n zs) := RB.of_ri h
  have HE0 : Hid (RB w w.heap.size E m us) := RB.of_ri g
  have _hc := hnc
  rcases ht : trn zs us with _ | _
  · rw [pfN_no (pfB_1 ht), pfB_1 ht]
    have HT := Lib.hid ht
    clear ht
    go_enter Try.func24, Try.ntmps24
    go_wp2_with fail
    have HC := cellNew w (.slice A n c) (.slice E m d) 27
    have HB := belAlloc (belRefl (w := w)) (.cells #[.slice A n c, .slice E m d] 27)
    refine (iIsTurned_any A n c zs E m d us _ (h.alloc _) (g.alloc _) hn hm).mono ?_
    rw [HT.out]
    rintro e w1 ⟨rfl, hb⟩
    replace HC := cellStep HC hb
    replace HB := belStep HB hb
    have k0 := HC.out.c0; have k1 := HC.out.c1; have kz := HC.out.lt
    clear hb h g
    go_wp2
    go_ret2
    exact ⟨rfl, HB.out⟩
  · have HOK := Lib.hid (TOk.of ht)
    have HT := Lib.hid ht
    rcases hi : inB i (-1000) 1000 with _ | _
    · rw [pfN_no (by rw [pfB_2 ht, hi]), pfB_2 ht, hi]
      have HI := Lib.hid hi
      have hno : ¬ (-1000 ≤ i ∧ i ≤ 1000) := fun h => by rw [inB_true h] at hi; cases hi
      clear ht hi
      by_cases hlo : -1000 ≤ i
      · have hgt : 1000 < i := by omega
        clear hno
        go_enter Try.func24, Try.ntmps24
        go_wp2_with fail
        have HC := cellNew w (.slice A n c) (.slice E m d) 27
        have HB := belAlloc (belRefl (w := w)) (.cells #[.slice A n c, .slice E m d] 27)
        refine (iIsTurned_any A n c zs E m d us _ (h.alloc _) (g.alloc _) hn hm).mono ?_
        rw [HT.out]
        rintro e w1 ⟨rfl, hb⟩
        replace HC := cellStep HC hb
        replace HB := belStep HB hb
        have k0 := HC.out.c0; have k1 := HC.out.c1; have kz := HC.out.lt
        clear hb h g
        go_wp2
        go_ret2
        exact ⟨rfl, HB.out⟩
      · have hlt : i < -1000 := by omega
        clear hno hlo
        go_enter Try.func24, Try.ntmps24
        go_wp2_with fail
        have HC := cellNew w (.slice A n c) (.slice E m d) 27
        have HB := belAlloc (belRefl (w := w)) (.cells #[.slice A n c, .slice E m d] 27)
        refine (iIsTurned_any A n c zs E m d us _ (h.alloc _) (g.alloc _) hn hm).mono ?_
        rw [HT.out]
        rintro e w1 ⟨rfl, hb⟩
        replace HC := cellStep HC hb
        replace HB := belStep HB hb
        have k0 := HC.out.c0; have k1 := HC.out.c1; have kz := HC.out.lt
        clear hb h g
        go_wp2
        go_ret2
        exact ⟨rfl, HB.out⟩
    · rw [pfN_yes (by rw [pfB_2 ht, hi]), pfB_2 ht, hi]
      have HI := Lib.hid hi
      have hin := inB_iff.1 hi
      clear ht hi
      go_enter Try.func24, Try.ntmps24
      go_wp2_with fail
      have HC := cellNew w (.slice A n c) (.slice E m d) 27
      have HB := belAlloc (belRefl (w := w)) (.cells #[.slice A n c, .slice E m d] 27)
      refine (iIsTurned_any A n c zs E m d us _ (h.alloc _) (g.alloc _) hn hm).mono ?_
      rw [HT.out]
      rintro e w1 ⟨rfl, hb⟩
      replace HC := cellStep HC hb
      replace HB := belStep HB hb
      have k0 := HC.out.c0; have k1 := HC.out.c1; have kz := HC.out.lt
      clear hb h g
      go_wp2_with fail
      refine (iplaceOf_any A n c zs E m d us i _ (rbK HA0 HB.out) (rbK HE0 HB.out) HOK.out (by omega)).mono ?_
      rintro e w2 ⟨rfl, hb⟩
      replace HB := belStep HB hb
      clear hb
      go_wp2
      go_ret2
      exact ⟨rfl, HB.out⟩

end Go.Proofs.Ytijddnllacphfaa
