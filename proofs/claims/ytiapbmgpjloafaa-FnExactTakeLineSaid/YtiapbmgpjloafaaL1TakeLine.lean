/- The law of TakeLine, gone through: it returns true, and nothing that was there has turned. -/
import Derived.Test.YtiapbmgpjloafaaGt2
import Derived.Test.YtiapbmgpjloafaaGn6
import Derived.Test.YtiapbmgpjloafaaMgC
import Derived.Deep.RegionHeld3
namespace Go.Proofs.Ytiapbmgpjloafaa
open Go Go.RowKit

set_option maxRecDepth 100000 in
set_option maxHeartbeats 8000000 in
theorem lawTakeLine_of (W : Int) (A : Option Addr) (n c : Nat) (zs : List Int) (w : World) (h : RI w A n zs) (hn2 : (n : Int) ≤ 1048576) (m : Nat) (ys : List Int) (q : Bool) (hm3 : m ≤ 1048576)
    (hS : Hid (∀ (A2 : Option Addr) (c2 : Nat) (w2 : World), RI w2 A2 n zs → Calls Try.prog 23 #[.agg #[.int .i64 W, .slice A2 n c2]] w2 (FreshIB w2 m ys q)))
    (hI : Hid (∀ (A2 : Option Addr) (c2 : Nat) (w2 : World), RI w2 A2 n zs → Calls Try.prog 24 #[.agg #[.int .i64 W, .slice A2 n c2]] w2 (FreshIB w2 m ys q))) :
    Calls Try.prog 6 #[.agg #[.int .i64 W, .slice A n c]] w (RetB true w) := by
  have E := Lib.hid (szv_yes hn2).symm
  have hn : n ≤ 9223372036854775807 := by omega
  have hn3 : n ≤ 1048576 := by omega
  have e0 : (q != q) = false := by simp
  have e2 : ((1 : Int) + (m : Int) != 1 + (m : Int)) = false := by simp
  go_enter Try.func6, Try.ntmps6
  go_wp2_with fail
  have HA := boxNew (W := W) (c := c) 24 h
  have HB := belAlloc (belRefl (w := w)) (.cells #[.int .i64 W, .slice A n c] 24)
  refine (szLadder_any W A n c _ _ (by omega) (by omega) hn).mono ?_
  rw [E.out]
  rintro e w1 ⟨rfl, hb⟩
  have HA := boxStep HA hb; have HB := belStep HB hb; have a0 := HA.out.c0; have a1 := HA.out.c1; have az := HA.out.lt
  clear hb h
  go_wp2_with fail
  refine (toLadder_any W A n c zs _ HA.out.ri hn3).mono ?_
  rintro e w2 ⟨A2, c2, rfl, o2, hb⟩
  replace HA := boxStep HA hb; replace HB := belStep HB hb; replace a0 := HA.out.c0; replace a1 := HA.out.c1; replace az := HA.out.lt; clear hb
  go_wp2_with fail
  refine (hS.out A2 c2 _ o2.ri).mono ?_
  rintro e w3 ⟨A0, c0, rfl, o3, hb⟩
  have O3 := Lib.hid o3
  clear o2 o3
  replace HA := boxStep HA hb; replace HB := belStep HB hb; replace a0 := HA.out.c0; replace a1 := HA.out.c1; replace az := HA.out.lt; clear hb
  have ST : Hid (St w w3 w3.heap.size W A n c zs A0 m ys) := ⟨BoxB.of HA.out, RB.of_ri O3.out.ri, HB.out, HB.out.size, Nat.le_refl _⟩
  clear HA HB O3
  go_wp2_with fail
  refine (toLadder_any W A n c zs _ ST.out.box.rb.ri hn3).mono ?_
  rintro e w4 ⟨A4, c4, rfl, o4, hb⟩
  have HL4 := blkLt o4
  have H34 := Lib.hid hb.size
  have HOX := oiAlloc (Lib.hid o4) (.cells #[.int .i64 W, .slice A4 n c4] 28)
  have HX := boxNew (W := W) (c := c4) 28 o4.ri
  replace ST := stCall ST hb; replace a0 := ST.out.box.c0; replace a1 := ST.out.box.c1; replace az := Nat.lt_of_lt_of_le ST.out.box.lt ST.out.le'
  clear o4 hb
  go_wp2_with fail
  replace ST := stAlloc ST (.cells #[.int .i64 W, .slice A4 n c4] 28)
  refine (hI.out A4 c4 _ HX.out.ri).mono ?_
  rintro e w5 ⟨A9, c9, rfl, o9, hb⟩
  have HN := Lib.hid (o9.mono (show w4.heap.size ≤ _ by simp))
  have x0 := HX.out.c0; have x1 := HX.out.c1; have xz := HX.out.lt
  replace ST := stCall ST hb; replace a0 := ST.out.box.c0; replace a1 := ST.out.box.c1; replace az := Nat.lt_of_lt_of_le ST.out.box.lt ST.out.le'
  replace HX := boxStep HX hb; replace HOX := oiStep HOX hb; replace x0 := HX.out.c0; replace x1 := HX.out.c1; replace xz := HX.out.lt
  clear o9 hb
  go_wp2_with fail
  refine (eqIntS_any A9 m c9 ys A0 m c0 ys _ HN.out.ri ST.out.ans.ri hm3 hm3).mono ?_
  rw [eqB_self]
  rintro e w6 ⟨rfl, hb⟩
  replace ST := stCall ST hb; replace a0 := ST.out.box.c0; replace a1 := ST.out.box.c1; replace az := Nat.lt_of_lt_of_le ST.out.box.lt ST.out.le'
  replace HX := boxStep HX hb; replace HOX := oiStep HOX hb; replace x0 := HX.out.c0; replace x1 := HX.out.c1; replace xz := HX.out.lt
  replace HN := oiStep HN hb
  clear hb
  go_wp2_with fail
  have SD := stDrew ST; have XD := boxDrew HX; have OD := oiDrew HOX; have ND := oiDrew HN
  go_region_held3 (fun w' => w'.cell? ⟨w.heap.size, 0, none⟩ = some (.int .i64 W) ∧ w'.cell? ⟨w.heap.size, 1, none⟩ = some (.slice A n c) ∧ w'.cell? ⟨w4.heap.size, 0, none⟩ = some (.int .i64 W) ∧ w'.cell? ⟨w4.heap.size, 1, none⟩ = some (.slice A4 n c4))
    (first | exact ⟨ST.out.box.c0, ST.out.box.c1, HX.out.c0, HX.out.c1⟩ | exact ⟨S7.out.box.c0, S7.out.box.c1, X7.out.c0, X7.out.c1⟩ | exact ⟨S8.out.box.c0, S8.out.box.c1, X8.out.c0, X8.out.c1⟩)
    (first
        | (go_at_call 12; refine (toLadder_any W A n c zs _ SD.out.box.rb.ri hn3).mono ?_; rintro e w7 ⟨A7, c7, rfl, o7, hb⟩; have S7 := stCall SD hb; have X7 := boxStep XD hb; have O7 := oiStep OD hb; have N7 := oiStep ND hb; clear hb)
        | (go_at_call 14; refine (eqLadder_any W A4 n c4 zs W A7 n c7 zs _ X7.out.ri o7.ri hn3 hn3).mono ?_; rw [(eqSelf W zs).out]; rintro e w8 ⟨rfl, hb⟩; have S8 := stCall S7 hb; have X8 := boxStep X7 hb; have O8 := oiStep O7 hb; have N8 := oiStep N7 hb; clear hb))
  have z0 := X8.out.c0; have z1 := X8.out.c1; have zz := X8.out.lt
  clear a0 a1 az x0 x1 xz
  have a0 := S8.out.box.c0; have a1 := S8.out.box.c1; have az := Nat.lt_of_lt_of_le S8.out.box.lt S8.out.le'
  go_wp2_with fail
  -- the program's argument is marked
  refine (markLadder_any w3.heap.size W A4 n c4 zs 1 _ O8.out hn3 (by omega) (by omega)).mono ?_
  rintro e w9 ⟨rfl, o9, hg⟩
  have ST := stStep S8 (ofMark O8.out hg (Nat.le_refl _) S8.out.le')
  have HN := oiKept N8 hg HL4
  clear a0 a1 az z0 z1 zz o9 hg S8 X8 O8 N8
  have a0 := ST.out.box.c0; have a1 := ST.out.box.c1; have az := Nat.lt_of_lt_of_le ST.out.box.lt ST.out.le'
  go_wp2_with fail
  refine (eqIntS_any A9 m c9 ys A0 m c0 ys _ HN.out.ri ST.out.ans.ri hm3 hm3).mono ?_
  rw [eqB_self]
  rintro e w10 ⟨rfl, hb⟩
  replace ST := stCall ST hb; replace a0 := ST.out.box.c0; replace a1 := ST.out.box.c1; replace az := Nat.lt_of_lt_of_le ST.out.box.lt ST.out.le'
  replace HN := oiStep HN hb
  clear hb
  go_wp2_with fail
  -- the program's answer is marked
  refine (markIntS_any w4.heap.size A9 m c9 ys 1 _ HN.out hm3 (by omega) (by omega)).mono ?_
  rintro e w11 ⟨rfl, o11, hg⟩
  replace ST := stStep ST (ofMark HN.out hg H34.out ST.out.le')
  replace HN := Lib.hid o11
  clear o11 hg
  replace a0 := ST.out.box.c0; replace a1 := ST.out.box.c1; replace az := Nat.lt_of_lt_of_le ST.out.box.lt ST.out.le'
  go_wp2_with fail
  refine (heldIntS_any A9 m c9 1 _ HN.out.ri hm3 (by omega) (by omega)).mono ?_
  rintro e w12 ⟨rfl, hb⟩
  replace ST := stCall ST hb; replace a0 := ST.out.box.c0; replace a1 := ST.out.box.c1; replace az := Nat.lt_of_lt_of_le ST.out.box.lt ST.out.le'
  replace HN := oiStep HN hb
  clear hb
  go_wp2_with fail
  -- once more
  refine (toLadder_any W A n c zs _ ST.out.box.rb.ri hn3).mono ?_
  rintro e w13 ⟨A13, c13, rfl, o13, hb⟩
  replace ST := stCall ST hb; replace a0 := ST.out.box.c0; replace a1 := ST.out.box.c1; replace az := Nat.lt_of_lt_of_le ST.out.box.lt ST.out.le'
  replace HN := oiStep HN hb
  clear hb
  go_wp2_with fail
  refine (hI.out A13 c13 _ o13.ri).mono ?_
  rintro e w14 ⟨A14, c14, rfl, o14, hb⟩
  replace ST := stCall ST hb; replace a0 := ST.out.box.c0; replace a1 := ST.out.box.c1; replace az := Nat.lt_of_lt_of_le ST.out.box.lt ST.out.le'
  replace HN := oiStep HN hb
  have H14 := Lib.hid o14
  clear hb o13 o14
  go_wp2_with fail
  refine (eqIntS_any A14 m c14 ys A0 m c0 ys _ H14.out.ri ST.out.ans.ri hm3 hm3).mono ?_
  rw [eqB_self]
  rintro e w15 ⟨rfl, hb⟩
  replace ST := stCall ST hb; replace a0 := ST.out.box.c0; replace a1 := ST.out.box.c1; replace az := Nat.lt_of_lt_of_le ST.out.box.lt ST.out.le'
  replace HN := oiStep HN hb
  clear hb H14
  go_wp2_with fail
  refine (heldIntS_any A9 m c9 1 _ HN.out.ri hm3 (by omega) (by omega)).mono ?_
  rintro e w16 ⟨rfl, hb⟩
  replace ST := stCall ST hb; replace a0 := ST.out.box.c0; replace a1 := ST.out.box.c1; replace az := Nat.lt_of_lt_of_le ST.out.box.lt ST.out.le'
  clear hb HN
  go_wp2_with fail
  go_ret
  exact ⟨rfl, ST.out.bel⟩

set_option maxHeartbeats 1000000 in
theorem lawTakeLine_any (W : Int) (A : Option Addr) (n c : Nat) (zs : List Int) (w : World) (h : RI w A n zs) (hn : n ≤ 9223372036854775807) :
    Calls Try.prog 6 #[.agg #[.int .i64 W, .slice A n c]] w (RetB true w) := by
  by_cases hn2 : (n : Int) ≤ 1048576
  · exact lawTakeLine_of W A n c zs w h hn2 _ (tkiL W zs) (tkB W zs) (Nat.le_trans (tkiL_le W zs) (by decide)) (fun A2 c2 w2 hr => sTakeLine_any W A2 n c2 zs w2 hr (by omega)) (fun A2 c2 w2 hr => iTakeLine_any W A2 n c2 zs w2 hr (by omega))
  · have E := Lib.hid (szv_no hn2).symm
    go_enter Try.func6, Try.ntmps6
    go_wp2_with fail
    refine (szLadder_any W A n c _ _ (by omega) (by omega) hn).mono ?_
    rw [E.out]
    rintro e w1 ⟨rfl, hb⟩
    have HB := belStep (belAlloc (belRefl (w := w)) (.cells #[.int .i64 W, .slice A n c] 24)) hb
    clear hb h
    go_wp2_with fail
    go_ret
    exact ⟨rfl, HB.out⟩
end Go.Proofs.Ytiapbmgpjloafaa
