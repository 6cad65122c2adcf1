/- The law of ParseLadder, gone through: it returns true, and nothing that was there has turned. -/
import Derived.Test.YtndphbifnohmdaaDoorTx8
import Derived.Test.YtndphbifnohmdaaDoorMgA
import Derived.Test.YtndphbifnohmdaaDoorMgC
import Derived.Deep.RegionHeld3
namespace Go.Proofs.YtndphbifnohmdaaDoor
open Go Go.RowKit

set_option maxRecDepth 100000 in
set_option maxHeartbeats 4000000 in
theorem sParseLadder_any (s : ByteArray) (w : World) (hs : s.size ≤ 1048576) :
    Calls Tryd.prog 10 #[.string s] w (FreshLB w (resU s.data.toList) (resL s.data.toList).length (resL s.data.toList) (resB s.data.toList)) := by
  obtain ⟨V, hV⟩ : ∃ V, V = resU s.data.toList := ⟨_, rfl⟩
  obtain ⟨ys, hys⟩ : ∃ ys, ys = resL s.data.toList := ⟨_, rfl⟩
  obtain ⟨q, hq⟩ : ∃ q, q = resB s.data.toList := ⟨_, rfl⟩
  rw [← hV, ← hys, ← hq]
  have HS : Hid (∀ w2, Calls Tryd.prog 22 #[.string s] w2 (FreshLB w2 V ys.length ys q)) := fun w2 => by
    rw [hV, hys, hq]; exact laParse_any s w2 hs
  clear hV hys hq
  obtain ⟨m, hm⟩ : ∃ m, m = ys.length := ⟨_, rfl⟩
  rw [← hm] at HS ⊢
  clear hm
  go_enter Tryd.func10, Tryd.ntmps10
  go_wp2_with fail
  have HC := cellNew w (.int .i64 0) (.slice none 0 0) 28
  have HB := belAlloc (belRefl (w := w)) (.cells #[.int .i64 0, .slice none 0 0] 28)
  refine (HS.out _).mono ?_
  rintro e w1 ⟨A0, c0, rfl, o1, hb⟩
  replace HC := cellStep HC hb; replace HB := belStep HB hb
  have HO : Hid (OI w1 (w.heap.size + 1) A0 m c0 ys) := by rw [← World.size_alloc]; exact o1
  clear o1 hb
  have k0 := HC.out.c0; have k1 := HC.out.c1; have f0 := HC.out.f0; have f1 := HC.out.f1; have hz := HC.out.lt
  go_wp2
  exact bodyPost_ret (v := .tuple #[.agg #[.int .i64 V, .slice A0 m c0], .bool q]) (by simp [results, Tryd.results10, go_sem, k0, k1]) rfl
    ⟨A0, c0, rfl, ((HO.out.setBelow (p := ⟨w.heap.size, 0, none⟩) (by show w.heap.size < _; omega) _).setBelow (p := ⟨w.heap.size, 1, none⟩) (by show w.heap.size < _; omega) _).mono (by omega), (HB.out.setCell (p := ⟨w.heap.size, 0, none⟩) (Nat.le_refl _) _).setCell (p := ⟨w.heap.size, 1, none⟩) (Nat.le_refl _) _⟩

/-- the law's own state: the model's answer -/
structure St1 (w wi : World) (K : Nat) (bk : Nat) (V : Int) (A0 : Option Addr) (m c0 : Nat) (ys : List Int) : Prop where
  ans : BoxB wi K bk V A0 m c0 ys
  bel : Below w.heap.size w wi
  le : w.heap.size ≤ K
  le' : K ≤ wi.heap.size
section
variable {w wi wj : World} {K : Nat} {bk : Nat} {V : Int} {A0 : Option Addr} {m c0 : Nat} {ys : List Int}
theorem s1Step (h : Hid (St1 w wi K bk V A0 m c0 ys)) (hb : Below K wi wj) : Hid (St1 w wj K bk V A0 m c0 ys) :=
  ⟨h.out.ans.step hb, belK h.out.bel h.out.le hb, h.out.le, Nat.le_trans h.out.le' hb.size⟩
theorem s1Call (h : Hid (St1 w wi K bk V A0 m c0 ys)) (hb : Below wi.heap.size wi wj) : Hid (St1 w wj K bk V A0 m c0 ys) := s1Step h (ofCall h.out.le' hb)
theorem s1Alloc (h : Hid (St1 w wi K bk V A0 m c0 ys)) (o : Obj) : Hid (St1 w (wi.alloc o) K bk V A0 m c0 ys) := s1Call h ((Below.refl _ _).alloc (Nat.le_refl _) o)
end

set_option maxRecDepth 100000 in
set_option maxHeartbeats 16000000 in
theorem lawParseLadder_of (s : ByteArray) (w : World) (hG : Glob w) (hs : s.size ≤ 1048576) (V : Int) (m : Nat) (ys : List Int) (q : Bool) (hm3 : m ≤ 1048576)
    (hS : Hid (∀ (w2 : World), Calls Tryd.prog 10 #[.string s] w2 (FreshLB w2 V m ys q)))
    (hI : Hid (∀ (w2 : World), Glob w2 → Calls Tryd.prog 11 #[.string s] w2 (FreshLB w2 V m ys q))) :
    Calls Tryd.prog 4 #[.string s] w (RetB true w) := by
  have i1 : ¬ ((1048576 : Int) < (s.size : Int)) := by omega
  have e0 : (q != q) = false := by simp
  have e2 : ((1 : Int) + (m : Int) != 1 + (m : Int)) = false := by simp
  have HGL := Lib.hid hG
  clear hG
  go_enter Tryd.func4, Tryd.ntmps4
  go_wp2_with fail
  refine (hS.out _).mono ?_
  rintro e w1 ⟨A0, c0, rfl, o1, hb⟩
  have HB := belStep (belRefl (w := w)) hb
  have O1 := Lib.hid o1
  clear o1 hb
  go_wp2_with fail
  have HW0 := boxNew (W := V) (c := c0) 28 O1.out.ri
  replace HB := belAlloc HB (.cells #[.int .i64 V, .slice A0 m c0] 28)
  have ST : Hid (St1 w (w1.alloc (.cells #[.int .i64 V, .slice A0 m c0] 28)) (w1.alloc (.cells #[.int .i64 V, .slice A0 m c0] 28)).heap.size w1.heap.size V A0 m c0 ys) := ⟨BoxB.of HW0.out, HB.out, HB.out.size, Nat.le_refl _⟩
  obtain ⟨K, hK⟩ : ∃ K, K = (w1.alloc (.cells #[.int .i64 V, .slice A0 m c0] 28)).heap.size := ⟨_, rfl⟩
  rw [← hK] at ST
  have HK := Lib.hid hK
  clear HB O1 HW0 hK
  refine (hI.out _ (HGL.out.below ST.out.bel)).mono ?_
  rintro e w2 ⟨A9, c9, rfl, o9, hb⟩
  have r0 := ST.out.ans.c0; have r1 := ST.out.ans.c1; have rz := ST.out.ans.lt
  have HN : Hid (OI w2 K A9 m c9 ys) := by show OI w2 K A9 m c9 ys; rw [HK.out]; exact o9
  have HL9 := blkLt o9
  replace ST := s1Call ST hb; replace r0 := ST.out.ans.c0; replace r1 := ST.out.ans.c1; replace rz := Nat.lt_of_lt_of_le ST.out.ans.lt ST.out.le'
  clear o9 hb HK
  go_wp2_with fail
  have HG := cellNew w2 (.int .i64 V) (.slice A9 m c9) 28
  replace ST := s1Alloc ST (.cells #[.int .i64 V, .slice A9 m c9] 28)
  replace HN := oiAlloc HN (.cells #[.int .i64 V, .slice A9 m c9] 28)
  have g0 := HG.out.c0; have g1 := HG.out.c1; have gz := HG.out.lt
  refine (eqLadder_any V A9 m c9 ys V A0 m c0 ys _ HN.out.ri ST.out.ans.rb.ri hm3 hm3).mono ?_
  rw [(eqSelf V ys).out]
  rintro e w3 ⟨rfl, hb⟩
  replace ST := s1Call ST hb; replace r0 := ST.out.ans.c0; replace r1 := ST.out.ans.c1; replace rz := Nat.lt_of_lt_of_le ST.out.ans.lt ST.out.le'
  replace HN := oiStep HN hb; replace HG := cellStep HG hb; replace g0 := HG.out.c0; replace g1 := HG.out.c1; replace gz := HG.out.lt
  clear hb
  go_wp2_with fail
  refine (markLadder_any K V A9 m c9 ys 1 _ HN.out hm3 (by omega) (by omega)).mono ?_
  rintro e w4 ⟨rfl, o4, hg⟩
  replace ST := s1Step ST (ofMark HN.out hg (Nat.le_refl _) ST.out.le')
  replace HG := cellKept HG hg HL9
  replace HN := Lib.hid o4
  clear o4 hg
  replace r0 := ST.out.ans.c0; replace r1 := ST.out.ans.c1; replace rz := Nat.lt_of_lt_of_le ST.out.ans.lt ST.out.le'
  replace g0 := HG.out.c0; replace g1 := HG.out.c1; replace gz := HG.out.lt
  go_wp2_with fail
  refine (heldLadder_any V A9 m c9 1 _ HN.out.ri hm3 (by omega) (by omega)).mono ?_
  rintro e w5 ⟨rfl, hb⟩
  replace ST := s1Call ST hb; replace r0 := ST.out.ans.c0; replace r1 := ST.out.ans.c1; replace rz := Nat.lt_of_lt_of_le ST.out.ans.lt ST.out.le'
  replace HN := oiStep HN hb; replace HG := cellStep HG hb; replace g0 := HG.out.c0; replace g1 := HG.out.c1; replace gz := HG.out.lt
  clear hb
  go_wp2_with fail
  refine (hI.out _ (HGL.out.below ST.out.bel)).mono ?_
  rintro e w6 ⟨A14, c14, rfl, o14, hb⟩
  replace ST := s1Call ST hb; replace r0 := ST.out.ans.c0; replace r1 := ST.out.ans.c1; replace rz := Nat.lt_of_lt_of_le ST.out.ans.lt ST.out.le'
  replace HN := oiStep HN hb; replace HG := cellStep HG hb; replace g0 := HG.out.c0; replace g1 := HG.out.c1; replace gz := HG.out.lt
  have H14 := oiAlloc (Lib.hid o14) (.cells #[.int .i64 V, .slice A14 m c14] 28)
  clear hb o14
  go_wp2_with fail
  replace ST := s1Alloc ST (.cells #[.int .i64 V, .slice A14 m c14] 28)
  replace HN := oiAlloc HN (.cells #[.int .i64 V, .slice A14 m c14] 28)
  replace HG := cellAlloc HG (.cells #[.int .i64 V, .slice A14 m c14] 28)
  refine (eqLadder_any V A14 m c14 ys V A0 m c0 ys _ H14.out.ri ST.out.ans.rb.ri hm3 hm3).mono ?_
  rw [(eqSelf V ys).out]
  rintro e w7 ⟨rfl, hb⟩
  replace ST := s1Call ST hb; replace r0 := ST.out.ans.c0; replace r1 := ST.out.ans.c1; replace rz := Nat.lt_of_lt_of_le ST.out.ans.lt ST.out.le'
  replace HN := oiStep HN hb; replace HG := cellStep HG hb; replace g0 := HG.out.c0; replace g1 := HG.out.c1; replace gz := HG.out.lt
  clear hb H14
  go_wp2_with fail
  refine (heldLadder_any V A9 m c9 1 _ HN.out.ri hm3 (by omega) (by omega)).mono ?_
  rintro e w8 ⟨rfl, hb⟩
  replace ST := s1Call ST hb; replace r0 := ST.out.ans.c0; replace r1 := ST.out.ans.c1; replace rz := Nat.lt_of_lt_of_le ST.out.ans.lt ST.out.le'
  clear hb HN
  go_wp2_with fail
  go_ret
  exact ⟨rfl, ST.out.bel⟩

set_option maxHeartbeats 1000000 in
theorem lawParseLadder_any (s : ByteArray) (w : World) (hG : Glob w) (hz : s.size ≤ 9223372036854775807) : Calls Tryd.prog 4 #[.string s] w (RetB true w) := by
  by_cases hs : s.size ≤ 1048576
  · exact lawParseLadder_of s w hG hs _ _ _ _ (Nat.le_trans (resL_len _) (by decide)) (fun w2 => sParseLadder_any s w2 hs) (fun w2 hg => iParseLadder_any s w2 hs hg)
  · have i1 : (1048576 : Int) < (s.size : Int) := by omega
    go_enter Tryd.func4, Tryd.ntmps4
    go_wp2_with fail
    go_ret
    exact ⟨rfl, Below.refl _ _⟩
end Go.Proofs.YtndphbifnohmdaaDoor
