/- SortedBy and ExchangesOf, of the program and of the model. -/
import Derived.Test.YtbfilmdociemmaaSo10
import Derived.Test.YtbfilmdociemmaaMgD
import Derived.Test.YtbfilmdociemmaaMgC
import Derived.Deep.RegionHeld3
namespace Go.Proofs.Ytbfilmdociemmaa
open Go Go.RowKit

/-- a ladder and values for its wires -/
def soB (W : Int) (zs vs : List Int) : Bool := lad W zs && decide ((vs.length : Int) = W)
theorem soB_iff {W : Int} {zs vs : List Int} : soB W zs vs = true ↔ lad W zs = true ∧ (vs.length : Int) = W := by unfold soB; rw [Bool.and_eq_true, decide_eq_true_iff]
def stL (W : Int) (zs vs : List Int) : List Int := if soB W zs vs = true then runS zs vs else []
def xcL (W : Int) (zs vs : List Int) : List Int := if soB W zs vs = true then exL zs vs else []
theorem stL_yes {W : Int} {zs vs : List Int} (h : soB W zs vs = true) : stL W zs vs = runS zs vs := by unfold stL; rw [if_pos h]
theorem stL_no {W : Int} {zs vs : List Int} (h : soB W zs vs = false) : stL W zs vs = [] := by unfold stL; rw [if_neg (by rw [h]; decide)]
theorem xcL_yes {W : Int} {zs vs : List Int} (h : soB W zs vs = true) : xcL W zs vs = exL zs vs := by unfold xcL; rw [if_pos h]
theorem xcL_no {W : Int} {zs vs : List Int} (h : soB W zs vs = false) : xcL W zs vs = [] := by unfold xcL; rw [if_neg (by rw [h]; decide)]
theorem stL_le (W : Int) (zs vs : List Int) : (stL W zs vs).length ≤ 1000 := by
  rcases h : soB W zs vs with _ | _
  · rw [stL_no h]; simp
  · rw [stL_yes h, runS_length]
    have h1 := soB_iff.1 h
    have h2 := (lad_iff.1 h1.1).1
    omega
theorem xcL_le (W : Int) (zs vs : List Int) : (xcL W zs vs).length ≤ 1000 := by
  rcases h : soB W zs vs with _ | _
  · rw [xcL_no h]; simp
  · rw [xcL_yes h]
    have h1 := soB_iff.1 h
    have h2 := (lad_iff.1 h1.1).2.1
    have h3 := exK_le zs vs zs.length
    unfold exL
    omega

set_option maxHeartbeats 1000000 in
theorem soAsked_any (W : Int) (A : Option Addr) (m c : Nat) (zs : List Int) (A2 : Option Addr) (n c2 : Nat) (vs : List Int) (w : World) (h : RI w A m zs) (h2 : vs.length = n) (hm : m ≤ 1048576) (hn : n ≤ 1048576) :
    Calls Try.prog 40 #[.agg #[.int .i64 W, .slice A m c], .slice A2 n c2] w (RetB (soB W zs vs) w) := by
  have HV := Lib.hid h2
  rcases hq : lad W zs with _ | _
  · have e : soB W zs vs = false := by unfold soB; rw [hq]; rfl
    rw [e]
    have HW := Lib.hid hq
    clear hq e
    go_enter Try.func40, Try.ntmps40
    go_wp2_with fail
    have HB := belAlloc (belRefl (w := w)) (.cells #[.int .i64 W, .slice A m c] 28)
    refine (laGood_any W A m c zs _ (h.alloc _) hm).mono ?_
    rw [HW.out]
    rintro e w1 ⟨rfl, hb⟩
    replace HB := belStep HB hb
    clear hb h
    go_wp2
    go_ret
    exact ⟨rfl, HB.out⟩
  · have e : soB W zs vs = decide ((n : Int) = W) := by unfold soB; rw [hq, h2]; rfl
    rw [e]
    have HW := Lib.hid hq
    clear hq e h2
    go_enter Try.func40, Try.ntmps40
    go_wp2_with fail
    have HA := boxNew (W := W) (c := c) 28 h
    have HB := belAlloc (belRefl (w := w)) (.cells #[.int .i64 W, .slice A m c] 28)
    refine (laGood_any W A m c zs _ (h.alloc _) hm).mono ?_
    rw [HW.out]
    rintro e w1 ⟨rfl, hb⟩
    replace HA := boxStep HA hb
    replace HB := belStep HB hb
    have a0 := HA.out.c0; have a1 := HA.out.c1; have az := HA.out.lt
    clear hb h
    go_wp2
    go_ret
    exact ⟨ret_b (by first | rfl | (rw [Bool.eq_iff_iff]; simp)), HB.out⟩


set_option maxRecDepth 100000 in
set_option maxHeartbeats 1000000 in
theorem sSortedBy_any (W : Int) (A : Option Addr) (m c : Nat) (zs : List Int) (A2 : Option Addr) (n c2 : Nat) (vs : List Int) (w : World) (h : RI w A m zs) (h2 : RI w A2 n vs) (hm : m ≤ 1048576) (hn : n ≤ 1048576) :
    Calls Try.prog 13 #[.agg #[.int .i64 W, .slice A m c], .slice A2 n c2] w (FreshIB w (stL W zs vs).length (stL W zs vs) (soB W zs vs)) := by
  rcases hq : soB W zs vs with _ | _
  · rw [stL_no hq]
    have HW := Lib.hid hq
    clear hq
    go_enter Try.func13, Try.ntmps13
    go_wp2_with fail
    have HB := belAlloc (belRefl (w := w)) (.cells #[.int .i64 W, .slice A m c] 28)
    refine (soAsked_any W A m c zs A2 n c2 vs _ (h.alloc _) h2.1 hm hn).mono ?_
    rw [HW.out]
    rintro e w1 ⟨rfl, hb⟩
    replace HB := belStep HB hb
    clear hb h h2
    go_wp2
    go_ret2
    exact ⟨none, 0, rfl, OI.none_ _ _, HB.out⟩
  · rw [stL_yes hq]
    have h3 := soB_iff.1 hq
    have h4 := (lad_iff.1 h3.1).1
    have h5 := (lad_iff.1 h3.1).2.1
    have hml := h.1
    have hvl := h2.1
    obtain ⟨N, rfl⟩ : ∃ N : Nat, W = (N : Int) := ⟨W.toNat, by omega⟩
    obtain rfl : N = n := by omega
    have hz : rungsIn zs N := by have := rungsIn_of_lad h3.1; rwa [Int.toNat_natCast] at this
    have HZ := Lib.hid hz
    have HW := Lib.hid hq
    have HL := Lib.hid h3.1
    have hne : ((N : Int) != (N : Int)) = false := by simp
    have hn8 : N ≤ 8 := by omega
    have hn0 : 0 < N := by omega
    have hm6 : m ≤ 60 := by omega
    have hvl2 := Lib.hid hvl
    have hvl2 := Lib.hid hvl
    clear hq h3 h4 h5 hz hml hvl
    go_enter Try.func13, Try.ntmps13
    go_wp2_with fail
    have HA := boxNew (W := (N : Int)) (c := c) 28 h
    have HB := belAlloc (belRefl (w := w)) (.cells #[.int .i64 (N : Int), .slice A m c] 28)
    have HV : Hid (RI (w.alloc (.cells #[.int .i64 (N : Int), .slice A m c] 28)) A2 N vs) := Lib.hid (h2.alloc _)
    refine (soAsked_any (N : Int) A m c zs A2 N c2 vs _ (h.alloc _) h2.1 hm hn).mono ?_
    rw [HW.out]
    rintro e w1 ⟨rfl, hb⟩
    replace HA := boxStep HA hb
    replace HB := belStep HB hb
    replace HV := riStep HV hb
    have a0 := HA.out.c0; have a1 := HA.out.c1; have az := HA.out.lt
    have z1 := HB.out.size
    clear hb h h2
    go_wp2_with fail
    refine (soRun_any A m c zs A2 N c2 vs _ HA.out.ri HV.out hn8 hn0 hm6 HZ.out).mono ?_
    rintro e w2 ⟨A1, c1, E, d, rfl, o, -, hb⟩
    have HO := Lib.hid (o.mono z1)
    replace HA := boxStep HA hb; replace HB := belStep HB hb; replace a0 := HA.out.c0; replace a1 := HA.out.c1; replace az := HA.out.lt; clear hb
    have hf0 := fieldBottom
    have hf1 := fieldExchanges
    clear o
    go_wp2
    go_ret2
    exact ⟨A1, c1, by rw [runS_length, hvl2.out]; rfl, by rw [runS_length, hvl2.out]; exact HO.out, HB.out⟩

set_option maxRecDepth 100000 in
set_option maxHeartbeats 1000000 in
theorem iSortedBy_any (W : Int) (A : Option Addr) (m c : Nat) (zs : List Int) (A2 : Option Addr) (n c2 : Nat) (vs : List Int) (w : World) (h : RI w A m zs) (h2 : RI w A2 n vs) (hm : m ≤ 1048576) (hn : n ≤ 1048576) :
    Calls Try.prog 16 #[.agg #[.int .i64 W, .slice A m c], .slice A2 n c2] w (FreshIB w (stL W zs vs).length (stL W zs vs) (soB W zs vs)) := by
  rcases hq : soB W zs vs with _ | _
  · rw [stL_no hq]
    have HW := Lib.hid hq
    have hvl := h2.1
    rcases hl : lad W zs with _ | _
    · have HL := Lib.hid hl
      clear hq hl
      go_enter Try.func16, Try.ntmps16
      go_wp2_with fail
      have HB := belAlloc (belRefl (w := w)) (.cells #[.int .i64 W, .slice A m c] 28)
      refine (iIsLadder_any W A m c zs _ (h.alloc _) hm).mono ?_
      rw [HL.out]
      rintro e w1 ⟨rfl, hb⟩
      replace HB := belStep HB hb
      clear hb h h2
      go_wp2
      go_ret2
      exact ⟨none, 0, rfl, OI.none_ _ _, HB.out⟩
    · have HL := Lib.hid hl
      have hne : ((n : Int) != W) = true := by
        rw [bne_iff_ne]
        intro e
        have : soB W zs vs = true := soB_iff.2 ⟨hl, by omega⟩
        rw [hq] at this; cases this
      clear hq hl hvl
      go_enter Try.func16, Try.ntmps16
      go_wp2_with fail
      have HA := boxNew (W := W) (c := c) 28 h
      have HB := belAlloc (belRefl (w := w)) (.cells #[.int .i64 W, .slice A m c] 28)
      refine (iIsLadder_any W A m c zs _ (h.alloc _) hm).mono ?_
      rw [HL.out]
      rintro e w1 ⟨rfl, hb⟩
      replace HA := boxStep HA hb
      replace HB := belStep HB hb
      have a0 := HA.out.c0; have a1 := HA.out.c1; have az := HA.out.lt
      clear hb h h2
      go_wp2
      go_ret2
      exact ⟨none, 0, rfl, OI.none_ _ _, HB.out⟩
  · rw [stL_yes hq]
    have h3 := soB_iff.1 hq
    have h4 := (lad_iff.1 h3.1).1
    have h5 := (lad_iff.1 h3.1).2.1
    have hml := h.1
    have hvl := h2.1
    obtain ⟨N, rfl⟩ : ∃ N : Nat, W = (N : Int) := ⟨W.toNat, by omega⟩
    obtain rfl : N = n := by omega
    have hz : rungsIn zs N := by have := rungsIn_of_lad h3.1; rwa [Int.toNat_natCast] at this
    have HZ := Lib.hid hz
    have HW := Lib.hid hq
    have HL := Lib.hid h3.1
    have hne : ((N : Int) != (N : Int)) = false := by simp
    have hn8 : N ≤ 8 := by omega
    have hn0 : 0 < N := by omega
    have hm6 : m ≤ 60 := by omega
    have hvl2 := Lib.hid hvl
    clear hq h3 h4 h5 hz hml hvl
    go_enter Try.func16, Try.ntmps16
    go_wp2_with fail
    have HA := boxNew (W := (N : Int)) (c := c) 28 h
    have HB := belAlloc (belRefl (w := w)) (.cells #[.int .i64 (N : Int), .slice A m c] 28)
    have HV : Hid (RI (w.alloc (.cells #[.int .i64 (N : Int), .slice A m c] 28)) A2 N vs) := Lib.hid (h2.alloc _)
    refine (iIsLadder_any (N : Int) A m c zs _ (h.alloc _) hm).mono ?_
    rw [HL.out]
    rintro e w1 ⟨rfl, hb⟩
    replace HA := boxStep HA hb
    replace HB := belStep HB hb
    replace HV := riStep HV hb
    have a0 := HA.out.c0; have a1 := HA.out.c1; have az := HA.out.lt
    have z1 := HB.out.size
    clear hb h h2
    go_wp2_with fail
    refine (compareDown_any A m c zs A2 N c2 vs _ HA.out.ri HV.out hn8 hn0 hm6 HZ.out).mono ?_
    rintro e w2 ⟨A1, c1, E, d, rfl, o, -, hb⟩
    have HO := Lib.hid (o.mono z1)
    replace HA := boxStep HA hb; replace HB := belStep HB hb; replace a0 := HA.out.c0; replace a1 := HA.out.c1; replace az := HA.out.lt; clear hb
    have hf0 := fieldBottom
    have hf1 := fieldExchanges
    clear o
    go_wp2
    go_ret2
    exact ⟨A1, c1, by rw [runS_length, hvl2.out]; rfl, by rw [runS_length, hvl2.out]; exact HO.out, HB.out⟩

set_option maxRecDepth 100000 in
set_option maxHeartbeats 1000000 in
theorem sExchangesOf_any (W : Int) (A : Option Addr) (m c : Nat) (zs : List Int) (A2 : Option Addr) (n c2 : Nat) (vs : List Int) (w : World) (h : RI w A m zs) (h2 : RI w A2 n vs) (hm : m ≤ 1048576) (hn : n ≤ 1048576) :
    Calls Try.prog 22 #[.agg #[.int .i64 W, .slice A m c], .slice A2 n c2] w (FreshIB w (xcL W zs vs).length (xcL W zs vs) (soB W zs vs)) := by
  rcases hq : soB W zs vs with _ | _
  · rw [xcL_no hq]
    have HW := Lib.hid hq
    clear hq
    go_enter Try.func22, Try.ntmps22
    go_wp2_with fail
    have HB := belAlloc (belRefl (w := w)) (.cells #[.int .i64 W, .slice A m c] 28)
    refine (soAsked_any W A m c zs A2 n c2 vs _ (h.alloc _) h2.1 hm hn).mono ?_
    rw [HW.out]
    rintro e w1 ⟨rfl, hb⟩
    replace HB := belStep HB hb
    clear hb h h2
    go_wp2
    go_ret2
    exact ⟨none, 0, rfl, OI.none_ _ _, HB.out⟩
  · rw [xcL_yes hq]
    have h3 := soB_iff.1 hq
    have h4 := (lad_iff.1 h3.1).1
    have h5 := (lad_iff.1 h3.1).2.1
    have hml := h.1
    have hvl := h2.1
    obtain ⟨N, rfl⟩ : ∃ N : Nat, W = (N : Int) := ⟨W.toNat, by omega⟩
    obtain rfl : N = n := by omega
    have hz : rungsIn zs N := by have := rungsIn_of_lad h3.1; rwa [Int.toNat_natCast] at this
    have HZ := Lib.hid hz
    have HW := Lib.hid hq
    have HL := Lib.hid h3.1
    have hne : ((N : Int) != (N : Int)) = false := by simp
    have hn8 : N ≤ 8 := by omega
    have hn0 : 0 < N := by omega
    have hm6 : m ≤ 60 := by omega
    have hvl2 := Lib.hid hvl
    have hvl2 := Lib.hid hvl
    clear hq h3 h4 h5 hz hml hvl
    go_enter Try.func22, Try.ntmps22
    go_wp2_with fail
    have HA := boxNew (W := (N : Int)) (c := c) 28 h
    have HB := belAlloc (belRefl (w := w)) (.cells #[.int .i64 (N : Int), .slice A m c] 28)
    have HV : Hid (RI (w.alloc (.cells #[.int .i64 (N : Int), .slice A m c] 28)) A2 N vs) := Lib.hid (h2.alloc _)
    refine (soAsked_any (N : Int) A m c zs A2 N c2 vs _ (h.alloc _) h2.1 hm hn).mono ?_
    rw [HW.out]
    rintro e w1 ⟨rfl, hb⟩
    replace HA := boxStep HA hb
    replace HB := belStep HB hb
    replace HV := riStep HV hb
    have a0 := HA.out.c0; have a1 := HA.out.c1; have az := HA.out.lt
    have z1 := HB.out.size
    clear hb h h2
    go_wp2_with fail
    refine (soRun_any A m c zs A2 N c2 vs _ HA.out.ri HV.out hn8 hn0 hm6 HZ.out).mono ?_
    rintro e w2 ⟨A1, c1, E, d, rfl, -, o, hb⟩
    have HO := Lib.hid (o.mono z1)
    replace HA := boxStep HA hb; replace HB := belStep HB hb; replace a0 := HA.out.c0; replace a1 := HA.out.c1; replace az := HA.out.lt; clear hb
    have hf0 := fieldBottom
    have hf1 := fieldExchanges
    clear o
    go_wp2
    go_ret2
    exact ⟨E, d, rfl, HO.out, HB.out⟩

set_option maxRecDepth 100000 in
set_option maxHeartbeats 1000000 in
theorem iExchangesOf_any (W : Int) (A : Option Addr) (m c : Nat) (zs : List Int) (A2 : Option Addr) (n c2 : Nat) (vs : List Int) (w : World) (h : RI w A m zs) (h2 : RI w A2 n vs) (hm : m ≤ 1048576) (hn : n ≤ 1048576) :
    Calls Try.prog 23 #[.agg #[.int .i64 W, .slice A m c], .slice A2 n c2] w (FreshIB w (xcL W zs vs).length (xcL W zs vs) (soB W zs vs)) := by
  rcases hq : soB W zs vs with _ | _
  · rw [xcL_no hq]
    have HW := Lib.hid hq
    have hvl := h2.1
    rcases hl : lad W zs with _ | _
    · have HL := Lib.hid hl
      clear hq hl
      go_enter Try.func23, Try.ntmps23
      go_wp2_with fail
      have HB := belAlloc (belRefl (w := w)) (.cells #[.int .i64 W, .slice A m c] 28)
      refine (iIsLadder_any W A m c zs _ (h.alloc _) hm).mono ?_
      rw [HL.out]
      rintro e w1 ⟨rfl, hb⟩
      replace HB := belStep HB hb
      clear hb h h2
      go_wp2
      go_ret2
      exact ⟨none, 0, rfl, OI.none_ _ _, HB.out⟩
    · have HL := Lib.hid hl
      have hne : ((n : Int) != W) = true := by
        rw [bne_iff_ne]
        intro e
        have : soB W zs vs = true := soB_iff.2 ⟨hl, by omega⟩
        rw [hq] at this; cases this
      clear hq hl hvl
      go_enter Try.func23, Try.ntmps23
      go_wp2_with fail
      have HA := boxNew (W := W) (c := c) 28 h
      have HB := belAlloc (belRefl (w := w)) (.cells #[.int .i64 W, .slice A m c] 28)
      refine (iIsLadder_any W A m c zs _ (h.alloc _) hm).mono ?_
      rw [HL.out]
      rintro e w1 ⟨rfl, hb⟩
      replace HA := boxStep HA hb
      replace HB := belStep HB hb
      have a0 := HA.out.c0; have a1 := HA.out.c1; have az := HA.out.lt
      clear hb h h2
      go_wp2
      go_ret2
      exact ⟨none, 0, rfl, OI.none_ _ _, HB.out⟩
  · rw [xcL_yes hq]
    have h3 := soB_iff.1 hq
    have h4 := (lad_iff.1 h3.1).1
    have h5 := (lad_iff.1 h3.1).2.1
    have hml := h.1
    have hvl := h2.1
    obtain ⟨N, rfl⟩ : ∃ N : Nat, W = (N : Int) := ⟨W.toNat, by omega⟩
    obtain rfl : N = n := by omega
    have hz : rungsIn zs N := by have := rungsIn_of_lad h3.1; rwa [Int.toNat_natCast] at this
    have HZ := Lib.hid hz
    have HW := Lib.hid hq
    have HL := Lib.hid h3.1
    have hne : ((N : Int) != (N : Int)) = false := by simp
    have hn8 : N ≤ 8 := by omega
    have hn0 : 0 < N := by omega
    have hm6 : m ≤ 60 := by omega
    have hvl2 := Lib.hid hvl
    clear hq h3 h4 h5 hz hml hvl
    go_enter Try.func23, Try.ntmps23
    go_wp2_with fail
    have HA := boxNew (W := (N : Int)) (c := c) 28 h
    have HB := belAlloc (belRefl (w := w)) (.cells #[.int .i64 (N : Int), .slice A m c] 28)
    have HV : Hid (RI (w.alloc (.cells #[.int .i64 (N : Int), .slice A m c] 28)) A2 N vs) := Lib.hid (h2.alloc _)
    refine (iIsLadder_any (N : Int) A m c zs _ (h.alloc _) hm).mono ?_
    rw [HL.out]
    rintro e w1 ⟨rfl, hb⟩
    replace HA := boxStep HA hb
    replace HB := belStep HB hb
    replace HV := riStep HV hb
    have a0 := HA.out.c0; have a1 := HA.out.c1; have az := HA.out.lt
    have z1 := HB.out.size
    clear hb h h2
    go_wp2_with fail
    refine (compareDown_any A m c zs A2 N c2 vs _ HA.out.ri HV.out hn8 hn0 hm6 HZ.out).mono ?_
    rintro e w2 ⟨A1, c1, E, d, rfl, -, o, hb⟩
    have HO := Lib.hid (o.mono z1)
    replace HA := boxStep HA hb; replace HB := belStep HB hb; replace a0 := HA.out.c0; replace a1 := HA.out.c1; replace az := HA.out.lt; clear hb
    have hf0 := fieldBottom
    have hf1 := fieldExchanges
    clear o
    go_wp2
    go_ret2
    exact ⟨E, d, rfl, HO.out, HB.out⟩
end Go.Proofs.Ytbfilmdociemmaa
