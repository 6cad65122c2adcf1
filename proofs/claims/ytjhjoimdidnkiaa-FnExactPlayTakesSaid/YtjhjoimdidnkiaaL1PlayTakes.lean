/- The law of PlayTakes, gone through: it returns true, and nothing that was there has turned. -/
import Derived.Test.YtjhjoimdidnkiaaGy3
import Derived.Test.YtjhjoimdidnkiaaStP
import Derived.Deep.RegionHeld3
namespace Go.Proofs.Ytjhjoimdidnkiaa
open Go Go.RowKit

set_option maxRecDepth 100000 in
set_option maxHeartbeats 16000000 in
theorem lawPlayTakes_of (W : Int) (A : Option Addr) (n c : Nat) (zs : List Int) (Bv : Option Addr) (nv cv : Nat) (vs : List Int) (w : World) (h : RI w A n zs) (hv : RI w Bv nv vs) (hn2 : (n : Int) ≤ 1048576) (hv2 : (nv : Int) ≤ 1048576) (V : Int) (m : Nat) (ys : List Int) (q : Bool) (hm3 : m ≤ 1048576)
    (hS : Hid (∀ (A2 : Option Addr) (c2 : Nat) (B2 : Option Addr) (d2 : Nat) (w2 : World), RI w2 A2 n zs → RI w2 B2 nv vs → Calls Try.prog 14 #[.agg #[.int .i64 W, .slice A2 n c2], .slice B2 nv d2] w2 (FreshLBG w2 V m ys q)))
    (hI : Hid (∀ (A2 : Option Addr) (c2 : Nat) (B2 : Option Addr) (d2 : Nat) (w2 : World), RI w2 A2 n zs → RI w2 B2 nv vs → Calls Try.prog 16 #[.agg #[.int .i64 W, .slice A2 n c2], .slice B2 nv d2] w2 (FreshLBG w2 V m ys q))) :
    Calls Try.prog 4 #[.agg #[.int .i64 W, .slice A n c], .slice Bv nv cv] w (RetB true w) := by
  have E := Lib.hid (szv_yes hn2).symm
  have hn : n ≤ 9223372036854775807 := by omega
  have hn3 : n ≤ 1048576 := by omega
  have hv3 : nv ≤ 1048576 := by omega
  have e0 : (q != q) = false := by simp
  have e2 : ((1 : Int) + (m : Int) != 1 + (m : Int)) = false := by simp
  have eneg : (decide ((1 : Int) + n + nv < 0)) = false := by rw [decide_eq_false_iff_not]; omega
  have HV := Lib.hid hv
  clear hv
  go_enter Try.func4, Try.ntmps4
  go_wp2_with fail
  have HA := boxNew (W := W) (c := c) 24 h
  have HB := belAlloc (belRefl (w := w)) (.cells #[.int .i64 W, .slice A n c] 24)
  replace HV := riStep HV (allocBel w (.cells #[.int .i64 W, .slice A n c] 24))
  refine (szLadder_any W A n c _ _ (by omega) (by omega) hn).mono ?_
  rw [E.out]
  rintro e w1 ⟨rfl, hb⟩
  have HA := boxStep HA hb; have HB := belStep HB hb; replace HV := riStep HV hb; have a0 := HA.out.c0; have a1 := HA.out.c1; have az := HA.out.lt
  clear hb h
  go_wp2_with fail
  refine (toLadder_any W A n c zs _ HA.out.ri hn3).mono ?_
  rintro e w2 ⟨A2, c2, rfl, o2, hb⟩
  have O2 := Lib.hid o2
  clear o2
  replace HA := boxStep HA hb; replace HB := belStep HB hb; replace HV := riStep HV hb; replace a0 := HA.out.c0; replace a1 := HA.out.c1; replace az := HA.out.lt; clear hb
  go_wp2_with fail
  refine (toIntS_any Bv nv cv vs _ HV.out hv3).mono ?_
  rintro e w2b ⟨B2, d2, rfl, o2, hb⟩
  replace O2 := oiStep O2 hb
  have OB2 := Lib.hid o2
  clear o2
  replace HA := boxStep HA hb; replace HB := belStep HB hb; replace HV := riStep HV hb; replace a0 := HA.out.c0; replace a1 := HA.out.c1; replace az := HA.out.lt; clear hb
  go_wp2_with fail
  refine (hS.out A2 c2 B2 d2 _ O2.out.ri OB2.out.ri).mono ?_
  rintro e w3 ⟨A0, c0, rfl, o3, hb⟩
  have O3 := Lib.hid o3
  clear o3 O2 OB2
  replace HA := boxStep HA hb; replace HB := belStep HB hb; replace HV := riStep HV hb; replace a0 := HA.out.c0; replace a1 := HA.out.c1; replace az := HA.out.lt; clear hb
  go_wp2_with fail
  have HW0 := boxNew (W := V) (c := c0) 27 O3.out.ri
  replace HA := boxAlloc HA (.cells #[.int .i64 V, .slice A0 m c0] 27)
  replace HB := belAlloc HB (.cells #[.int .i64 V, .slice A0 m c0] 27)
  replace HV := riStep HV (allocBel w3 (.cells #[.int .i64 V, .slice A0 m c0] 27))
  have ST : Hid (St2 w (w3.alloc (.cells #[.int .i64 V, .slice A0 m c0] 27)) (w3.alloc (.cells #[.int .i64 V, .slice A0 m c0] 27)).heap.size W A n c zs w3.heap.size V A0 m c0 ys) := ⟨BoxB.of HA.out, BoxB.of HW0.out, HB.out, HB.out.size, Nat.le_refl _⟩
  have VB := rbOf HV
  obtain ⟨K, hK⟩ : ∃ K, K = (w3.alloc (.cells #[.int .i64 V, .slice A0 m c0] 27)).heap.size := ⟨_, rfl⟩
  rw [← hK] at ST VB
  have HK := Lib.hid hK
  clear HA HB HV O3 HW0 hK
  refine (toLadder_any W A n c zs _ ST.out.box.rb.ri hn3).mono ?_
  rintro e w4 ⟨A4, c4, rfl, o4, hb⟩
  have r0 := ST.out.ans.c0; have r1 := ST.out.ans.c1; have rz := ST.out.ans.lt
  have HL4 := blkLt o4
  have H34 : Hid (K ≤ w4.heap.size) := by show K ≤ w4.heap.size; rw [HK.out]; exact hb.size
  have HOX : Hid (OI (w4.alloc (.cells #[.int .i64 W, .slice A4 n c4] 27)) K A4 n c4 zs) := by show OI _ K A4 n c4 zs; rw [HK.out]; exact o4.alloc _
  have HX := boxNew (W := W) (c := c4) 27 o4.ri
  replace VB := Lib.hid (VB.out.step (ofCall ST.out.le' hb)); replace ST := st2Call ST hb; replace a0 := ST.out.box.c0; replace a1 := ST.out.box.c1; replace az := Nat.lt_of_lt_of_le ST.out.box.lt ST.out.le'; replace r0 := ST.out.ans.c0; replace r1 := ST.out.ans.c1; replace rz := Nat.lt_of_lt_of_le ST.out.ans.lt ST.out.le'
  clear o4 hb HK
  go_wp2_with fail
  replace VB := Lib.hid (VB.out.step (ofCall ST.out.le' (allocBel _ (.cells #[.int .i64 W, .slice A4 n c4] 27)))); replace ST := st2Alloc ST (.cells #[.int .i64 W, .slice A4 n c4] 27)
  refine (toIntS_any Bv nv cv vs _ VB.out.ri hv3).mono ?_
  rintro e w4b ⟨B4, d4, rfl, o4, hb⟩
  have HLB := blkLt o4
  have H4b : Hid (w4.heap.size + 1 ≤ w4b.heap.size) := by have := hb.size; simp at this; show _ ≤ _; omega
  have XV : Hid (OI w4b (w4.heap.size + 1) B4 nv d4 vs) := Lib.hid (o4.mono (by simp))
  replace HOX := oiStep HOX hb
  replace HX := boxStep HX hb
  replace VB := Lib.hid (VB.out.step (ofCall ST.out.le' hb)); replace ST := st2Call ST hb; replace a0 := ST.out.box.c0; replace a1 := ST.out.box.c1; replace az := Nat.lt_of_lt_of_le ST.out.box.lt ST.out.le'; replace r0 := ST.out.ans.c0; replace r1 := ST.out.ans.c1; replace rz := Nat.lt_of_lt_of_le ST.out.ans.lt ST.out.le'
  clear o4 hb
  have x0 := HX.out.c0; have x1 := HX.out.c1; have xz := HX.out.lt
  go_wp2_with fail
  refine (hI.out A4 c4 B4 d4 _ HX.out.ri XV.out.ri).mono ?_
  rintro e w5 ⟨A9, c9, rfl, o9, hb⟩
  have HN : Hid (OI w5 w4b.heap.size A9 m c9 ys) := Lib.hid o9
  have HL9 := blkLt o9
  have H45 : Hid (w4b.heap.size ≤ w5.heap.size) := Lib.hid hb.size
  replace XV := oiStep XV hb
  replace VB := Lib.hid (VB.out.step (ofCall ST.out.le' hb)); replace ST := st2Call ST hb; replace a0 := ST.out.box.c0; replace a1 := ST.out.box.c1; replace az := Nat.lt_of_lt_of_le ST.out.box.lt ST.out.le'; replace r0 := ST.out.ans.c0; replace r1 := ST.out.ans.c1; replace rz := Nat.lt_of_lt_of_le ST.out.ans.lt ST.out.le'
  replace HX := boxStep HX hb; replace HOX := oiStep HOX hb; replace x0 := HX.out.c0; replace x1 := HX.out.c1; replace xz := HX.out.lt
  clear o9 hb
  go_wp2_with fail
  have HG := cellNew w5 (.int .i64 V) (.slice A9 m c9) 27
  replace VB := Lib.hid (VB.out.step (ofCall ST.out.le' (allocBel _ (.cells #[.int .i64 V, .slice A9 m c9] 27)))); replace ST := st2Alloc ST (.cells #[.int .i64 V, .slice A9 m c9] 27)
  replace HX := boxAlloc HX (.cells #[.int .i64 V, .slice A9 m c9] 27)
  replace HOX := oiAlloc HOX (.cells #[.int .i64 V, .slice A9 m c9] 27)
  replace HN := oiAlloc HN (.cells #[.int .i64 V, .slice A9 m c9] 27)
  replace XV := oiAlloc XV (.cells #[.int .i64 V, .slice A9 m c9] 27)
  have g0 := HG.out.c0; have g1 := HG.out.c1; have gz := HG.out.lt
  refine (eqLadder_any V A9 m c9 ys V A0 m c0 ys _ HN.out.ri ST.out.ans.rb.ri hm3 hm3).mono ?_
  rw [(eqSelf V ys).out]
  rintro e w6 ⟨rfl, hb⟩
  replace VB := Lib.hid (VB.out.step (ofCall ST.out.le' hb)); replace ST := st2Call ST hb; replace a0 := ST.out.box.c0; replace a1 := ST.out.box.c1; replace az := Nat.lt_of_lt_of_le ST.out.box.lt ST.out.le'; replace r0 := ST.out.ans.c0; replace r1 := ST.out.ans.c1; replace rz := Nat.lt_of_lt_of_le ST.out.ans.lt ST.out.le'
  replace HX := boxStep HX hb; replace HOX := oiStep HOX hb; replace x0 := HX.out.c0; replace x1 := HX.out.c1; replace xz := HX.out.lt
  replace HN := oiStep HN hb; replace HG := cellStep HG hb; replace g0 := HG.out.c0; replace g1 := HG.out.c1; replace gz := HG.out.lt
  replace XV := oiStep XV hb
  clear hb
  go_wp2_with fail
  have VD : Hid (RB w6.drew K Bv nv vs) := Lib.hid (VB.out.step (ofCall ST.out.le' (drewBel w6)))
  have SD := st2Drew ST; have XD := boxDrew HX; have OD := oiDrew HOX; have ND := oiDrew HN; have GD := cellDrew HG; have XVD := oiDrew XV
  go_region_held3 (fun w' => w'.cell? ⟨w.heap.size, 0, none⟩ = some (.int .i64 W) ∧ w'.cell? ⟨w.heap.size, 1, none⟩ = some (.slice A n c) ∧ w'.cell? ⟨w4.heap.size, 0, none⟩ = some (.int .i64 W) ∧ w'.cell? ⟨w4.heap.size, 1, none⟩ = some (.slice A4 n c4))
    (first | exact ⟨ST.out.box.c0, ST.out.box.c1, HX.out.c0, HX.out.c1⟩ | exact ⟨S7.out.box.c0, S7.out.box.c1, X7.out.c0, X7.out.c1⟩ | exact ⟨S8.out.box.c0, S8.out.box.c1, X8.out.c0, X8.out.c1⟩)
    (first
        | (go_at_call 11; refine (toLadder_any W A n c zs _ SD.out.box.rb.ri hn3).mono ?_; rintro e w7 ⟨A7, c7, rfl, o7, hb⟩; have V7 : Hid (RB w7 K Bv nv vs) := Lib.hid (VD.out.step (ofCall SD.out.le' hb)); have S7 := st2Call SD hb; have X7 := boxStep XD hb; have O7 := oiStep OD hb; have N7 := oiStep ND hb; have G7 := cellStep GD hb; have XV7 := oiStep XVD hb; clear hb)
        | (go_at_call 13; refine (eqLadder_any W A4 n c4 zs W A7 n c7 zs _ X7.out.ri o7.ri hn3 hn3).mono ?_; rw [(eqSelf W zs).out]; rintro e w8 ⟨rfl, hb⟩; have V8 : Hid (RB w8 K Bv nv vs) := Lib.hid (V7.out.step (ofCall S7.out.le' hb)); have S8 := st2Call S7 hb; have X8 := boxStep X7 hb; have O8 := oiStep O7 hb; have N8 := oiStep N7 hb; have G8 := cellStep G7 hb; have XV8 := oiStep XV7 hb; clear hb))
  clear a0 a1 az x0 x1 xz r0 r1 rz g0 g1 gz
  have ST := S8
  have VB := V8
  have HX := X8
  have HOX := O8
  have HN := N8
  have HG := G8
  have XV := XV8
  have a0 := ST.out.box.c0; have a1 := ST.out.box.c1; have az := Nat.lt_of_lt_of_le ST.out.box.lt ST.out.le'
  have r0 := ST.out.ans.c0; have r1 := ST.out.ans.c1; have rz := Nat.lt_of_lt_of_le ST.out.ans.lt ST.out.le'
  have x0 := HX.out.c0; have x1 := HX.out.c1; have xz := HX.out.lt
  have g0 := HG.out.c0; have g1 := HG.out.c1; have gz := HG.out.lt
  go_wp2_with fail
  refine (toIntS_any Bv nv cv vs _ VB.out.ri hv3).mono ?_
  rintro e u1 ⟨B7, d7, rfl, o7b, hb⟩
  replace VB := Lib.hid (VB.out.step (ofCall ST.out.le' hb)); replace ST := st2Call ST hb; replace a0 := ST.out.box.c0; replace a1 := ST.out.box.c1; replace az := Nat.lt_of_lt_of_le ST.out.box.lt ST.out.le'; replace r0 := ST.out.ans.c0; replace r1 := ST.out.ans.c1; replace rz := Nat.lt_of_lt_of_le ST.out.ans.lt ST.out.le'
  replace HX := boxStep HX hb; replace HOX := oiStep HOX hb; replace x0 := HX.out.c0; replace x1 := HX.out.c1; replace xz := HX.out.lt
  replace HN := oiStep HN hb; replace HG := cellStep HG hb; replace g0 := HG.out.c0; replace g1 := HG.out.c1; replace gz := HG.out.lt
  replace XV := oiStep XV hb
  clear hb
  go_wp2_with fail
  refine (eqIntS_any B4 nv d4 vs B7 nv d7 vs _ XV.out.ri o7b.ri hv3 hv3).mono ?_
  rw [eqB_self]
  rintro e u2 ⟨rfl, hb⟩
  replace VB := Lib.hid (VB.out.step (ofCall ST.out.le' hb)); replace ST := st2Call ST hb; replace a0 := ST.out.box.c0; replace a1 := ST.out.box.c1; replace az := Nat.lt_of_lt_of_le ST.out.box.lt ST.out.le'; replace r0 := ST.out.ans.c0; replace r1 := ST.out.ans.c1; replace rz := Nat.lt_of_lt_of_le ST.out.ans.lt ST.out.le'
  replace HX := boxStep HX hb; replace HOX := oiStep HOX hb; replace x0 := HX.out.c0; replace x1 := HX.out.c1; replace xz := HX.out.lt
  replace HN := oiStep HN hb; replace HG := cellStep HG hb; replace g0 := HG.out.c0; replace g1 := HG.out.c1; replace gz := HG.out.lt
  replace XV := oiStep XV hb
  clear hb o7b
  go_wp2_with fail
  -- the program's arguments are marked
  refine (markLadder_any K W A4 n c4 zs 1 _ HOX.out hn3 (by omega) (by omega)).mono ?_
  rintro e w9 ⟨rfl, o9, hg⟩
  have hk := ofMark HOX.out hg (Nat.le_refl _) ST.out.le'
  replace VB := Lib.hid (VB.out.step hk)
  replace ST := st2Step ST hk
  replace HN := oiKept HN hg (blkLtMono HL4 (by have := H4b.out; omega))
  replace XV := oiKept XV hg (blkLtMono HL4 (by omega))
  replace HG := cellKept HG hg (blkLtMono HL4 (by have := H4b.out; have := H45.out; omega))
  clear a0 a1 az x0 x1 xz r0 r1 rz g0 g1 gz o9 hg hk HX HOX S8 V8 X8 O8 N8 XV8 G8
  have a0 := ST.out.box.c0; have a1 := ST.out.box.c1; have az := Nat.lt_of_lt_of_le ST.out.box.lt ST.out.le'
  have r0 := ST.out.ans.c0; have r1 := ST.out.ans.c1; have rz := Nat.lt_of_lt_of_le ST.out.ans.lt ST.out.le'
  have g0 := HG.out.c0; have g1 := HG.out.c1; have gz := HG.out.lt
  go_wp2_with fail
  refine (markIntS_any _ B4 nv d4 vs (1 + n) _ XV.out hv3 (by omega) (by omega)).mono ?_
  rintro e w9b ⟨rfl, o9, hg⟩
  have hk := ofMark XV.out hg (Nat.le_trans H34.out (Nat.le_succ _)) ST.out.le'
  replace VB := Lib.hid (VB.out.step hk)
  replace ST := st2Step ST hk
  replace HN := oiKept HN hg HLB
  replace HG := cellKept HG hg (blkLtMono HLB H45.out)
  replace a0 := ST.out.box.c0; replace a1 := ST.out.box.c1; replace az := Nat.lt_of_lt_of_le ST.out.box.lt ST.out.le'; replace r0 := ST.out.ans.c0; replace r1 := ST.out.ans.c1; replace rz := Nat.lt_of_lt_of_le ST.out.ans.lt ST.out.le'; replace g0 := HG.out.c0; replace g1 := HG.out.c1; replace gz := HG.out.lt
  clear o9 hg hk XV
  go_wp2_with fail
  refine (eqLadder_any V A9 m c9 ys V A0 m c0 ys _ HN.out.ri ST.out.ans.rb.ri hm3 hm3).mono ?_
  rw [(eqSelf V ys).out]
  rintro e w10 ⟨rfl, hb⟩
  replace VB := Lib.hid (VB.out.step (ofCall ST.out.le' hb)); replace ST := st2Call ST hb; replace a0 := ST.out.box.c0; replace a1 := ST.out.box.c1; replace az := Nat.lt_of_lt_of_le ST.out.box.lt ST.out.le'; replace r0 := ST.out.ans.c0; replace r1 := ST.out.ans.c1; replace rz := Nat.lt_of_lt_of_le ST.out.ans.lt ST.out.le'
  replace HN := oiStep HN hb; replace HG := cellStep HG hb; replace g0 := HG.out.c0; replace g1 := HG.out.c1; replace gz := HG.out.lt
  clear hb
  go_wp2_with fail
  -- the program's answer is marked
  refine (markLadder_any w4b.heap.size V A9 m c9 ys 1 _ HN.out hm3 (by omega) (by omega)).mono ?_
  rintro e w11 ⟨rfl, o11, hg⟩
  have hk := ofMark HN.out hg (Nat.le_trans H34.out (Nat.le_trans (Nat.le_succ _) H4b.out)) ST.out.le'
  replace VB := Lib.hid (VB.out.step hk)
  replace ST := st2Step ST hk
  replace HG := cellKept HG hg HL9
  replace HN := Lib.hid o11
  clear o11 hg hk
  replace a0 := ST.out.box.c0; replace a1 := ST.out.box.c1; replace az := Nat.lt_of_lt_of_le ST.out.box.lt ST.out.le'; replace r0 := ST.out.ans.c0; replace r1 := ST.out.ans.c1; replace rz := Nat.lt_of_lt_of_le ST.out.ans.lt ST.out.le'; replace g0 := HG.out.c0; replace g1 := HG.out.c1; replace gz := HG.out.lt
  go_wp2_with fail
  refine (heldLadder_any V A9 m c9 1 _ HN.out.ri hm3 (by omega) (by omega)).mono ?_
  rintro e w12 ⟨rfl, hb⟩
  replace VB := Lib.hid (VB.out.step (ofCall ST.out.le' hb)); replace ST := st2Call ST hb; replace a0 := ST.out.box.c0; replace a1 := ST.out.box.c1; replace az := Nat.lt_of_lt_of_le ST.out.box.lt ST.out.le'; replace r0 := ST.out.ans.c0; replace r1 := ST.out.ans.c1; replace rz := Nat.lt_of_lt_of_le ST.out.ans.lt ST.out.le'
  replace HN := oiStep HN hb; replace HG := cellStep HG hb; replace g0 := HG.out.c0; replace g1 := HG.out.c1; replace gz := HG.out.lt
  clear hb
  go_wp2_with fail
  -- once more
  refine (toLadder_any W A n c zs _ ST.out.box.rb.ri hn3).mono ?_
  rintro e w13 ⟨A13, c13, rfl, o13, hb⟩
  have O13 := Lib.hid o13
  replace VB := Lib.hid (VB.out.step (ofCall ST.out.le' hb)); replace ST := st2Call ST hb; replace a0 := ST.out.box.c0; replace a1 := ST.out.box.c1; replace az := Nat.lt_of_lt_of_le ST.out.box.lt ST.out.le'; replace r0 := ST.out.ans.c0; replace r1 := ST.out.ans.c1; replace rz := Nat.lt_of_lt_of_le ST.out.ans.lt ST.out.le'
  replace HN := oiStep HN hb; replace HG := cellStep HG hb; replace g0 := HG.out.c0; replace g1 := HG.out.c1; replace gz := HG.out.lt
  clear hb o13
  go_wp2_with fail
  refine (toIntS_any Bv nv cv vs _ VB.out.ri hv3).mono ?_
  rintro e w13b ⟨B13, d13, rfl, o13, hb⟩
  replace VB := Lib.hid (VB.out.step (ofCall ST.out.le' hb)); replace ST := st2Call ST hb; replace a0 := ST.out.box.c0; replace a1 := ST.out.box.c1; replace az := Nat.lt_of_lt_of_le ST.out.box.lt ST.out.le'; replace r0 := ST.out.ans.c0; replace r1 := ST.out.ans.c1; replace rz := Nat.lt_of_lt_of_le ST.out.ans.lt ST.out.le'
  replace HN := oiStep HN hb; replace HG := cellStep HG hb; replace g0 := HG.out.c0; replace g1 := HG.out.c1; replace gz := HG.out.lt
  replace O13 := oiStep O13 hb
  clear hb
  go_wp2_with fail
  refine (hI.out A13 c13 B13 d13 _ O13.out.ri o13.ri).mono ?_
  rintro e w14 ⟨A14, c14, rfl, o14, hb⟩
  replace VB := Lib.hid (VB.out.step (ofCall ST.out.le' hb)); replace ST := st2Call ST hb; replace a0 := ST.out.box.c0; replace a1 := ST.out.box.c1; replace az := Nat.lt_of_lt_of_le ST.out.box.lt ST.out.le'; replace r0 := ST.out.ans.c0; replace r1 := ST.out.ans.c1; replace rz := Nat.lt_of_lt_of_le ST.out.ans.lt ST.out.le'
  replace HN := oiStep HN hb; replace HG := cellStep HG hb; replace g0 := HG.out.c0; replace g1 := HG.out.c1; replace gz := HG.out.lt
  have H14 := oiAlloc (Lib.hid o14) (.cells #[.int .i64 V, .slice A14 m c14] 27)
  clear hb o13 O13 o14
  go_wp2_with fail
  replace VB := Lib.hid (VB.out.step (ofCall ST.out.le' (allocBel _ (.cells #[.int .i64 V, .slice A14 m c14] 27)))); replace ST := st2Alloc ST (.cells #[.int .i64 V, .slice A14 m c14] 27)
  replace HN := oiAlloc HN (.cells #[.int .i64 V, .slice A14 m c14] 27)
  replace HG := cellAlloc HG (.cells #[.int .i64 V, .slice A14 m c14] 27)
  refine (eqLadder_any V A14 m c14 ys V A0 m c0 ys _ H14.out.ri ST.out.ans.rb.ri hm3 hm3).mono ?_
  rw [(eqSelf V ys).out]
  rintro e w15 ⟨rfl, hb⟩
  replace VB := Lib.hid (VB.out.step (ofCall ST.out.le' hb)); replace ST := st2Call ST hb; replace a0 := ST.out.box.c0; replace a1 := ST.out.box.c1; replace az := Nat.lt_of_lt_of_le ST.out.box.lt ST.out.le'; replace r0 := ST.out.ans.c0; replace r1 := ST.out.ans.c1; replace rz := Nat.lt_of_lt_of_le ST.out.ans.lt ST.out.le'
  replace HN := oiStep HN hb; replace HG := cellStep HG hb; replace g0 := HG.out.c0; replace g1 := HG.out.c1; replace gz := HG.out.lt
  clear hb H14
  go_wp2_with fail
  refine (heldLadder_any V A9 m c9 1 _ HN.out.ri hm3 (by omega) (by omega)).mono ?_
  rintro e w16 ⟨rfl, hb⟩
  replace VB := Lib.hid (VB.out.step (ofCall ST.out.le' hb)); replace ST := st2Call ST hb; replace a0 := ST.out.box.c0; replace a1 := ST.out.box.c1; replace az := Nat.lt_of_lt_of_le ST.out.box.lt ST.out.le'; replace r0 := ST.out.ans.c0; replace r1 := ST.out.ans.c1; replace rz := Nat.lt_of_lt_of_le ST.out.ans.lt ST.out.le'
  clear hb HN
  go_wp2_with fail
  go_ret
  exact ⟨rfl, ST.out.bel⟩

set_option maxHeartbeats 1000000 in
theorem lawPlayTakes_any (W : Int) (A : Option Addr) (n c : Nat) (zs : List Int) (Bv : Option Addr) (nv cv : Nat) (vs : List Int) (w : World) (h : RI w A n zs) (hn : n ≤ 9223372036854775807) (hv : RI w Bv nv vs) (hnv : nv ≤ 9223372036854775807) :
    Calls Try.prog 4 #[.agg #[.int .i64 W, .slice A n c], .slice Bv nv cv] w (RetB true w) := by
  by_cases hv2 : (nv : Int) ≤ 1048576
  · by_cases hn2 : (n : Int) ≤ 1048576
    · exact lawPlayTakes_of W A n c zs Bv nv cv vs w h hv hn2 hv2 (pkW W zs vs) _ (pkL W zs vs) (pkB W zs vs) (Nat.le_trans (pkL_le W zs vs) (by decide)) (fun A2 c2 B2 d2 w2 hr hr2 => sPlayTakes_any W A2 n c2 zs B2 nv d2 vs w2 hr (by omega) hr2 (by omega)) (fun A2 c2 B2 d2 w2 hr hr2 => iPlayTakes_any W A2 n c2 zs B2 nv d2 vs w2 hr (by omega) hr2 (by omega))
    · have E := Lib.hid (szv_no hn2).symm
      go_enter Try.func4, Try.ntmps4
      go_wp2_with fail
      refine (szLadder_any W A n c _ _ (by omega) (by omega) hn).mono ?_
      rw [E.out]
      rintro e w1 ⟨rfl, hb⟩
      have HB := belStep (belAlloc (belRefl (w := w)) (.cells #[.int .i64 W, .slice A n c] 24)) hb
      clear hb h
      go_wp2_with fail
      go_ret
      exact ⟨rfl, HB.out⟩
  · clear h hv
    go_enter Try.func4, Try.ntmps4
    go_wp2_with fail
    go_ret
    exact ⟨rfl, (Below.refl _ _).alloc (Nat.le_refl _) _⟩
end Go.Proofs.Ytjhjoimdidnkiaa
