/- The law of LadderOfLevels, gone through: it returns true, and nothing that was there has turned. -/
import Derived.Test.YtnhhbpogjhcibaaLol2
import Derived.Test.YtnhhbpogjhcibaaStSS
import Derived.Test.YtnhhbpogjhcibaaStL
import Derived.Test.YtnhhbpogjhcibaaSa1
import Derived.Test.YtnhhbpogjhcibaaStP
namespace Go.Proofs.Ytnhhbpogjhcibaa
open Go Go.RowKit

theorem RBB.up {w : World} {K K' : Nat} {A : Option Addr} {n : Nat} {zss : List (List Int)} (h : RBB w K A n zss) (hK : K ≤ K') (hs : K' ≤ w.heap.size) : RBB w K' A n zss := by
  refine ⟨h.1, hs, fun hn => ?_⟩
  obtain ⟨b, off, e, hb, hc⟩ := h.2.2 hn
  refine ⟨b, off, e, by omega, fun j hj => ?_⟩
  obtain ⟨a, m, d, h1, h2⟩ := hc j hj
  refine ⟨a, m, d, h1, h2.1, hs, fun h0 => ?_⟩
  obtain ⟨b', off', e', hb', hc'⟩ := h2.2.2 h0
  exact ⟨b', off', e', by omega, hc'⟩
theorem rbbUp {wi wj : World} {A : Option Addr} {n : Nat} {zss : List (List Int)} (h : Hid (RBB wi wi.heap.size A n zss)) (hb : Below wi.heap.size wi wj) : Hid (RBB wj wj.heap.size A n zss) :=
  (h.out.step hb).up hb.size (Nat.le_refl _)
theorem tot_at (zss : List (List Int)) (j : Nat) : (gz zss j).length ≤ tot zss zss.length := by
  by_cases h : j < zss.length
  · have := tot_le zss (show j + 1 ≤ zss.length by omega)
    simp only [tot] at this
    omega
  · simp [gz, List.getD, List.getElem?_eq_none (Nat.le_of_not_lt h)]

set_option maxRecDepth 100000 in
set_option maxHeartbeats 16000000 in
theorem lawLadderOfLevels_of (x : Int) (A : Option Addr) (n c : Nat) (zss : List (List Int)) (w : World) (h : RBB w w.heap.size A n zss) (hn : n ≤ 9223372036854775807) (hmm : ∀ j, (gz zss j).length ≤ 9223372036854775807) (V : Int) (m : Nat) (ys : List Int) (q : Bool) (hm3 : m ≤ 1048576)
    (hS : Hid (∀ (B : Option Addr) (w2 : World), RBB w2 w2.heap.size B n zss → n ≤ 1048576 → (∀ j, (gz zss j).length ≤ 1048576) → Calls Try.prog 19 #[.int .i64 x, .slice B n n] w2 (FreshLB w2 V m ys q)))
    (hI : Hid (∀ (B : Option Addr) (w2 : World), RBB w2 w2.heap.size B n zss → n ≤ 1048576 → (∀ j, (gz zss j).length ≤ 1048576) → Calls Try.prog 21 #[.int .i64 x, .slice B n n] w2 (FreshLB w2 V m ys q))) :
    Calls Try.prog 4 #[.int .i64 x, .slice A n c] w (RetB true w) := by
  have e0 : (q != q) = false := by simp
  have e2 : ((1 : Int) + (m : Int) != 1 + (m : Int)) = false := by simp
  have HA := Lib.hid h
  have HB := belRefl (w := w)
  clear h
  go_enter Try.func4, Try.ntmps4
  go_wp2_with fail
  refine (szIntSS_any _ A n c zss _ HA.out hn hmm).mono ?_
  rintro e w0 ⟨room, rfl, hroom, hb⟩
  replace HA := rbbUp HA hb
  replace HB := belStep HB hb
  clear hb
  by_cases hneg : room < 0
  · clear hroom
    go_wp2
    go_ret
    exact ⟨rfl, HB.out⟩
  have hsz : n + tot zss n ≤ 1048576 := by rcases hroom with h | h; exact absurd h hneg; exact h
  have hlz := HA.out.1
  have hm0 : n ≤ 1048576 := by omega
  have hmj : ∀ j, (gz zss j).length ≤ 1048576 := fun j => by have := tot_at zss j; rw [hlz] at this; omega
  have htt : tot zss n ≤ 1000000000 := by omega
  have eneg : ¬ ((1 : Int) + (tot zss n : Int) < 0) := by omega
  clear hroom hmm hlz hsz
  -- the model
  go_wp2_with fail
  refine (toIntSS_any _ A n c zss _ HA.out hm0 hmj).mono ?_
  rintro e w1 ⟨C, MC, SC, rfl, o, hb⟩
  replace HA := rbbUp HA hb
  replace HB := belStep HB hb
  have HC := Lib.hid o
  clear hb o
  go_wp2_with fail
  refine (hS.out C _ HC.out.rb hm0 hmj).mono ?_
  rintro e w3 ⟨A0, c0, rfl, o3, hb⟩
  clear HC
  replace HA := rbbUp HA hb
  replace HB := belStep HB hb
  have O3 := Lib.hid o3
  clear hb o3
  go_wp2_with fail
  have HW0 := boxNew (W := V) (c := c0) 24 O3.out.ri
  replace HA := rbbUp HA (allocBel w3 (.cells #[.int .i64 V, .slice A0 m c0] 24))
  replace HB := belAlloc HB (.cells #[.int .i64 V, .slice A0 m c0] 24)
  have SP := spNew HB
  have HR : Hid (BoxB (w3.alloc (.cells #[.int .i64 V, .slice A0 m c0] 24)) (w3.alloc (.cells #[.int .i64 V, .slice A0 m c0] 24)).heap.size w3.heap.size V A0 m c0 ys) := BoxB.of HW0.out
  obtain ⟨K, hK⟩ : ∃ K, K = (w3.alloc (.cells #[.int .i64 V, .slice A0 m c0] 24)).heap.size := ⟨_, rfl⟩
  rw [← hK] at SP HR HA
  have HK := Lib.hid hK
  clear HB O3 HW0 hK
  -- the program
  have r0 := HR.out.c0
  have r1 := HR.out.c1
  have rz := Nat.lt_of_lt_of_le HR.out.lt SP.out.le'
  refine (toIntSS_any _ A n c zss _ HA.out hm0 hmj).mono ?_
  rintro e w4 ⟨X, MX, SX, rfl, o, hb⟩
  replace HA := rbbCall SP HA hb
  replace HR := bxSp SP HR hb
  replace SP := spCall SP hb
  replace r0 := HR.out.c0
  replace r1 := HR.out.c1
  replace rz := Nat.lt_of_lt_of_le HR.out.lt SP.out.le'
  have H34 : Hid (K ≤ w4.heap.size) := by show K ≤ w4.heap.size; rw [HK.out]; exact hb.size
  have HX : Hid (OII w4 K w4.heap.size X n n zss SX) := by show OII _ _ _ _ _ _ _ _; rw [HK.out]; exact o.top
  clear hb o
  go_wp2_with fail
  refine (hI.out X _ HX.out.rb hm0 hmj).mono ?_
  rintro e w5 ⟨A9, c9, rfl, o9, hb⟩
  have H45 : Hid (w4.heap.size ≤ w5.heap.size) := hb.size
  have HN := Lib.hid o9
  have HL9 := blkLt o9
  replace HA := rbbCall SP HA hb
  replace HR := bxSp SP HR hb
  replace HX := oiiStep HX hb
  replace SP := spCall SP hb
  replace r0 := HR.out.c0
  replace r1 := HR.out.c1
  replace rz := Nat.lt_of_lt_of_le HR.out.lt SP.out.le'
  clear hb o9
  go_wp2_with fail
  have HG := cellNew w5 (.int .i64 V) (.slice A9 m c9) 24
  replace HA := rbbCall SP HA (allocBel w5 (.cells #[.int .i64 V, .slice A9 m c9] 24))
  replace HR := bxSp SP HR (allocBel w5 (.cells #[.int .i64 V, .slice A9 m c9] 24))
  replace HX := oiiStep HX (allocBel w5 (.cells #[.int .i64 V, .slice A9 m c9] 24))
  replace HN := oiStep HN (allocBel w5 (.cells #[.int .i64 V, .slice A9 m c9] 24))
  replace SP := spCall SP (allocBel w5 (.cells #[.int .i64 V, .slice A9 m c9] 24))
  replace r0 := HR.out.c0
  replace r1 := HR.out.c1
  replace rz := Nat.lt_of_lt_of_le HR.out.lt SP.out.le'
  replace r0 := HR.out.c0
  replace r1 := HR.out.c1
  replace rz := Nat.lt_of_lt_of_le HR.out.lt SP.out.le'
  have g0 := HG.out.c0
  have g1 := HG.out.c1
  have gz := HG.out.lt
  refine (eqLadder_any V A9 m c9 ys V A0 m c0 ys _ HN.out.ri HR.out.rb.ri hm3 hm3).mono ?_
  rw [(eqSelf V ys).out]
  rintro e w6 ⟨rfl, hb⟩
  replace HA := rbbCall SP HA hb
  replace HR := bxSp SP HR hb
  replace HX := oiiStep HX hb
  replace HN := oiStep HN hb
  replace HG := cellStep HG hb
  replace SP := spCall SP hb
  replace r0 := HR.out.c0
  replace r1 := HR.out.c1
  replace rz := Nat.lt_of_lt_of_le HR.out.lt SP.out.le'
  replace g0 := HG.out.c0
  replace g1 := HG.out.c1
  replace gz := HG.out.lt
  clear hb
  go_wp2_with fail
  refine (toIntSS_any _ A n c zss _ HA.out hm0 hmj).mono ?_
  rintro e w7 ⟨Y, MY, SY, rfl, o, hb⟩
  replace HA := rbbCall SP HA hb
  replace HR := bxSp SP HR hb
  replace HX := oiiStep HX hb
  replace HN := oiStep HN hb
  replace HG := cellStep HG hb
  replace SP := spCall SP hb
  replace r0 := HR.out.c0
  replace r1 := HR.out.c1
  replace rz := Nat.lt_of_lt_of_le HR.out.lt SP.out.le'
  replace g0 := HG.out.c0
  replace g1 := HG.out.c1
  replace gz := HG.out.lt
  have HY := Lib.hid o
  clear hb
  go_wp2_with fail
  refine (eqIntSS_same _ X n n zss _ Y n _ HX.out.rb HY.out.rb hm0 hmj).mono ?_
  rintro e w8 ⟨rfl, hb⟩
  replace HA := rbbCall SP HA hb
  replace HR := bxSp SP HR hb
  replace HX := oiiStep HX hb
  replace HN := oiStep HN hb
  replace HG := cellStep HG hb
  replace SP := spCall SP hb
  replace r0 := HR.out.c0
  replace r1 := HR.out.c1
  replace rz := Nat.lt_of_lt_of_le HR.out.lt SP.out.le'
  replace g0 := HG.out.c0
  replace g1 := HG.out.c1
  replace gz := HG.out.lt
  clear hb o HY
  go_wp2_with fail
  refine (markIntSS_up _ _ w4.heap.size (Nat.le_refl _) X n n zss SX 1 _ HX.out SP.out.le' hm0 hmj htt (by omega) (by omega)).mono ?_
  rintro e w9 ⟨⟨rfl, o, hk⟩, hu⟩
  replace HN := Lib.hid (HN.out.upK (Nat.le_refl _) hu)
  replace HG := cell2Up HG H45.out hu
  replace HA := rbbStep HA hk
  replace HR := bxK HR hk
  replace SP := spStep SP hk
  clear HX hk hu o
  replace r0 := HR.out.c0
  replace r1 := HR.out.c1
  replace rz := Nat.lt_of_lt_of_le HR.out.lt SP.out.le'
  replace g0 := HG.out.c0
  replace g1 := HG.out.c1
  replace gz := HG.out.lt
  go_wp2_with fail
  refine (eqLadder_any V A9 m c9 ys V A0 m c0 ys _ HN.out.ri HR.out.rb.ri hm3 hm3).mono ?_
  rw [(eqSelf V ys).out]
  rintro e w10 ⟨rfl, hb⟩
  replace HA := rbbCall SP HA hb
  replace HR := bxSp SP HR hb
  replace HN := oiStep HN hb
  replace HG := cellStep HG hb
  replace SP := spCall SP hb
  replace r0 := HR.out.c0
  replace r1 := HR.out.c1
  replace rz := Nat.lt_of_lt_of_le HR.out.lt SP.out.le'
  replace g0 := HG.out.c0
  replace g1 := HG.out.c1
  replace gz := HG.out.lt
  clear hb
  go_wp2_with fail
  -- the answer is marked
  refine (markLadder_any _ V A9 m c9 ys 1 _ HN.out hm3 (by omega) (by omega)).mono ?_
  rintro e w11 ⟨rfl, o, hg⟩
  have hk := ofMark HN.out hg H34.out SP.out.le'
  replace HG := cellKept HG hg HL9
  replace HA := rbbStep HA hk
  replace HR := bxK HR hk
  replace SP := spStep SP hk
  replace HN := Lib.hid o
  clear hk hg o
  replace r0 := HR.out.c0
  replace r1 := HR.out.c1
  replace rz := Nat.lt_of_lt_of_le HR.out.lt SP.out.le'
  replace g0 := HG.out.c0
  replace g1 := HG.out.c1
  replace gz := HG.out.lt
  go_wp2_with fail
  refine (heldLadder_any V A9 m c9 1 _ HN.out.ri hm3 (by omega) (by omega)).mono ?_
  rintro e w12 ⟨rfl, hb⟩
  replace HA := rbbCall SP HA hb
  replace HR := bxSp SP HR hb
  replace HN := oiStep HN hb
  replace HG := cellStep HG hb
  replace SP := spCall SP hb
  replace r0 := HR.out.c0
  replace r1 := HR.out.c1
  replace rz := Nat.lt_of_lt_of_le HR.out.lt SP.out.le'
  replace g0 := HG.out.c0
  replace g1 := HG.out.c1
  replace gz := HG.out.lt
  clear hb
  -- once more
  go_wp2_with fail
  refine (toIntSS_any _ A n c zss _ HA.out hm0 hmj).mono ?_
  rintro e w13 ⟨Z, MZ, SZ, rfl, o, hb⟩
  replace HA := rbbCall SP HA hb
  replace HR := bxSp SP HR hb
  replace HN := oiStep HN hb
  replace HG := cellStep HG hb
  replace SP := spCall SP hb
  replace r0 := HR.out.c0
  replace r1 := HR.out.c1
  replace rz := Nat.lt_of_lt_of_le HR.out.lt SP.out.le'
  replace g0 := HG.out.c0
  replace g1 := HG.out.c1
  replace gz := HG.out.lt
  have HZ := Lib.hid o
  clear hb o
  go_wp2_with fail
  refine (hI.out Z _ HZ.out.rb hm0 hmj).mono ?_
  rintro e w14 ⟨A14, c14, rfl, o14, hb⟩
  clear HZ
  replace HA := rbbCall SP HA hb
  replace HR := bxSp SP HR hb
  replace HN := oiStep HN hb
  replace HG := cellStep HG hb
  replace SP := spCall SP hb
  replace r0 := HR.out.c0
  replace r1 := HR.out.c1
  replace rz := Nat.lt_of_lt_of_le HR.out.lt SP.out.le'
  replace g0 := HG.out.c0
  replace g1 := HG.out.c1
  replace gz := HG.out.lt
  have H14 := oiAlloc (Lib.hid o14) (.cells #[.int .i64 V, .slice A14 m c14] 24)
  clear hb o14
  go_wp2_with fail
  replace HA := rbbCall SP HA (allocBel w14 (.cells #[.int .i64 V, .slice A14 m c14] 24))
  replace HR := bxSp SP HR (allocBel w14 (.cells #[.int .i64 V, .slice A14 m c14] 24))
  replace HN := oiStep HN (allocBel w14 (.cells #[.int .i64 V, .slice A14 m c14] 24))
  replace HG := cellStep HG (allocBel w14 (.cells #[.int .i64 V, .slice A14 m c14] 24))
  replace SP := spCall SP (allocBel w14 (.cells #[.int .i64 V, .slice A14 m c14] 24))
  replace r0 := HR.out.c0
  replace r1 := HR.out.c1
  replace rz := Nat.lt_of_lt_of_le HR.out.lt SP.out.le'
  replace g0 := HG.out.c0
  replace g1 := HG.out.c1
  replace gz := HG.out.lt
  refine (eqLadder_any V A14 m c14 ys V A0 m c0 ys _ H14.out.ri HR.out.rb.ri hm3 hm3).mono ?_
  rw [(eqSelf V ys).out]
  rintro e w15 ⟨rfl, hb⟩
  replace HA := rbbCall SP HA hb
  replace HR := bxSp SP HR hb
  replace HN := oiStep HN hb
  replace HG := cellStep HG hb
  replace SP := spCall SP hb
  replace r0 := HR.out.c0
  replace r1 := HR.out.c1
  replace rz := Nat.lt_of_lt_of_le HR.out.lt SP.out.le'
  replace g0 := HG.out.c0
  replace g1 := HG.out.c1
  replace gz := HG.out.lt
  clear hb
  clear H14
  go_wp2_with fail
  refine (heldLadder_any V A9 m c9 1 _ HN.out.ri hm3 (by omega) (by omega)).mono ?_
  rintro e w16 ⟨rfl, hb⟩
  replace HA := rbbCall SP HA hb
  replace HR := bxSp SP HR hb
  replace HN := oiStep HN hb
  replace HG := cellStep HG hb
  replace SP := spCall SP hb
  replace r0 := HR.out.c0
  replace r1 := HR.out.c1
  replace rz := Nat.lt_of_lt_of_le HR.out.lt SP.out.le'
  replace g0 := HG.out.c0
  replace g1 := HG.out.c1
  replace gz := HG.out.lt
  clear hb
  go_wp2_with fail
  go_ret
  exact ⟨rfl, SP.out.bel⟩

set_option maxHeartbeats 1000000 in
theorem lawLadderOfLevels_any (x : Int) (A : Option Addr) (n c : Nat) (zss : List (List Int)) (w : World) (h : RBB w w.heap.size A n zss) (hn : n ≤ 9223372036854775807) (hmm : ∀ j, (gz zss j).length ≤ 9223372036854775807) :
    Calls Try.prog 4 #[.int .i64 x, .slice A n c] w (RetB true w) :=
  lawLadderOfLevels_of x A n c zss w h hn hmm (ifW (lolB x zss) x) _ (lolL x zss) (lolB x zss) (Nat.le_trans (lol_len1000 x zss) (by decide)) (fun B w2 r hn hm => sLadderOfLevels_any x _ B n n zss w2 r hn hm) (fun B w2 r hn hm => iLadderOfLevels_any x _ B n n zss w2 r hn hm)
end Go.Proofs.Ytnhhbpogjhcibaa
