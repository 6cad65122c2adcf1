/- The law FnLaddersGoneDown, gone through. -/
import Derived.Test.YtgadfjfokgodgaaCu9
import Derived.Test.YtgadfjfokgodgaaKg1
import Derived.Test.YtgadfjfokgodgaaKk1
import Derived.Test.YtgadfjfokgodgaaMgD
import Derived.Test.YtgadfjfokgodgaaMgP
import Derived.Test.YtgadfjfokgodgaaC1h
import Derived.Test.YtgadfjfokgodgaaC1i
import Derived.Test.YtgadfjfokgodgaaBw1
import Derived.Test.YtgadfjfokgodgaaBw2
import Derived.Test.YtgadfjfokgodgaaMgG
import Derived.Test.YtgadfjfokgodgaaO7
namespace Go.Proofs.Ytgadfjfokgodgaa
open Go Go.RowKit

/-- what stays from call to call: the ladder's block and row, the other bytes -/
structure KB (w wr : World) (A2 : Option Addr) (n2 : Nat) (bs2 : List Int) (la : Nat) (W : Int) (P : Option Addr) (np cp : Nat) (zs : List Int) : Prop where
  bel : Below w.heap.size w wr
  bi : BI wr A2 n2 bs2
  lb : LB wr la (.int .i64 W) (.slice P np cp)
  oi : OI wr w.heap.size P np cp zs
theorem KB.step {w wr wj : World} {A2 : Option Addr} {n2 : Nat} {bs2 : List Int} {la : Nat} {W : Int} {P : Option Addr} {np cp : Nat} {zs : List Int} (h : Hid (KB w wr A2 n2 bs2 la W P np cp zs)) (hb : Below wr.heap.size wr wj) : Hid (KB w wj A2 n2 bs2 la W P np cp zs) :=
  ⟨h.out.bel.trans (hb.mono h.out.bel.size), h.out.bi.below hb (Nat.le_refl _), h.out.lb.below hb, h.out.oi.below hb⟩
theorem KB.drew {w wr : World} {A2 : Option Addr} {n2 : Nat} {bs2 : List Int} {la : Nat} {W : Int} {P : Option Addr} {np cp : Nat} {zs : List Int} (h : Hid (KB w wr A2 n2 bs2 la W P np cp zs)) : Hid (KB w wr.drew A2 n2 bs2 la W P np cp zs) :=
  KB.step h (drewBel wr)
/-- what stays in the second half: two ladders' blocks and rows, the other bytes -/
structure KT (w wr : World) (A2 : Option Addr) (n2 : Nat) (bs2 : List Int) (lc : Nat) (W : Int) (U : Option Addr) (nu cu : Nat) (us : List Int) (V : Int) (Y : Option Addr) (ny cy : Nat) (ys : List Int) : Prop where
  bel : Below w.heap.size w wr
  bi : BI wr A2 n2 bs2
  la : LB wr lc (.int .i64 W) (.slice U nu cu)
  lb : LB wr (lc + 1) (.int .i64 V) (.slice Y ny cy)
  oa : OI wr w.heap.size U nu cu us
  ob : OI wr w.heap.size Y ny cy ys
theorem KT.step {w wr wj : World} {A2 : Option Addr} {n2 : Nat} {bs2 : List Int} {lc : Nat} {W : Int} {U : Option Addr} {nu cu : Nat} {us : List Int} {V : Int} {Y : Option Addr} {ny cy : Nat} {ys : List Int} (h : Hid (KT w wr A2 n2 bs2 lc W U nu cu us V Y ny cy ys)) (hb : Below wr.heap.size wr wj) : Hid (KT w wj A2 n2 bs2 lc W U nu cu us V Y ny cy ys) :=
  ⟨h.out.bel.trans (hb.mono h.out.bel.size), h.out.bi.below hb (Nat.le_refl _), h.out.la.below hb, h.out.lb.below hb, h.out.oa.below hb, h.out.ob.below hb⟩
/-- a ladder's block and row -/
structure LR (w wr : World) (lc : Nat) (W : Int) (U : Option Addr) (nu cu : Nat) (us : List Int) : Prop where
  la : LB wr lc (.int .i64 W) (.slice U nu cu)
  oa : OI wr w.heap.size U nu cu us
theorem LR.step {w wr wj : World} {lc : Nat} {W : Int} {U : Option Addr} {nu cu : Nat} {us : List Int} (h : Hid (LR w wr lc W U nu cu us)) (hb : Below wr.heap.size wr wj) : Hid (LR w wj lc W U nu cu us) :=
  ⟨h.out.la.below hb, h.out.oa.below hb⟩
theorem lbLtK {w wr : World} {A2 : Option Addr} {n2 : Nat} {bs2 : List Int} {la : Nat} {W : Int} {P : Option Addr} {np cp : Nat} {zs : List Int} (h : Hid (KB w wr A2 n2 bs2 la W P np cp zs)) : la < wr.heap.size := h.out.lb.lt

set_option maxRecDepth 100000 in
set_option maxHeartbeats 40000000 in
theorem lawLaddersGoneDown_of (A : Option Addr) (n c : Nat) (bs : List Int) (A2 : Option Addr) (n2 c2 : Nat) (bs2 : List Int) (w : World) (h : BI w A n bs) (h2 : BI w A2 n2 bs2) (hn : n ≤ 1048576) (hn2 : n2 ≤ 1048576) (hbig : bigB n n2 = false) :
    Calls Try.prog 3 #[.slice A n c, .slice A2 n2 c2] w (RetB true w) := by
  have HBIG := Lib.hid hbig
  have HC := Lib.hid h
  have HM := Lib.hid h2
  have HB := belRefl (w := w)
  clear h h2 hbig
  go_enter Try.func3, Try.ntmps3
  go_wp2_with fail
  refine (big_any A n c A2 n2 c2 _ (by omega) (by omega)).mono ?_
  rw [HBIG.out]
  rintro e w1 ⟨rfl, hb⟩
  replace HB := belStep HB hb
  replace HC : Hid (BI w1 A n bs) := HC.out.below hb (Nat.le_refl _)
  replace HM : Hid (BI w1 A2 n2 bs2) := HM.out.below hb (Nat.le_refl _)
  clear hb
  go_wp2_with fail
  refine (drawWayDown_any A n c bs _ HC.out hn).mono ?_
  rintro e w2 ⟨W, zs, P, np, cp, v, rfl, hnp, ho, hb⟩
  have HK : Hid (KB w (w2.alloc (.cells #[.int .i64 W, .slice P np cp] 26)) A2 n2 bs2 w2.heap.size W P np cp zs) :=
    ⟨(HB.out.trans (hb.mono HB.out.size)).alloc (HB.out.trans (hb.mono HB.out.size)).size _, (HM.out.below hb (Nat.le_refl _)).below (allocBel _ _) (Nat.le_refl _), LB.new _ _ _, (ho.mono HB.out.size).alloc _⟩
  have hzl := ho.ri.1
  have hnp2 : np ≤ 1048576 := by omega
  clear ho hb HC HM HB
  go_wp2_with fail
  obtain ⟨la, hla⟩ : ∃ la, la = w2.heap.size := ⟨_, rfl⟩
  obtain ⟨w3, hw3⟩ : ∃ w3, w3 = w2.alloc (.cells #[.int .i64 W, .slice P np cp] 26) := ⟨_, rfl⟩
  rw [← hla, ← hw3] at HK
  rw [← hw3]
  try rw [← hla]
  clear hla hw3
  have l0 := HK.out.lb.cell2.c0; have l1 := HK.out.lb.cell2.c1; have lz := HK.out.lb.cell2.lt

  go_wp2_with fail
  refine (iWayDown_any W P np cp zs v _ HK.out.oi.ri hnp2).mono ?_
  rintro e wx ⟨X1, d1, rfl, ho, hb⟩
  obtain ⟨n1, hn1⟩ : ∃ n1, n1 = (wayN W zs v).length := ⟨_, rfl⟩
  obtain ⟨L1, hL1⟩ : ∃ L1, L1 = wayN W zs v := ⟨_, rfl⟩
  rw [← hn1] at ho
  rw [← hL1] at ho
  rw [← hn1]
  have Hn1 := Lib.hid hn1
  have HL1 := Lib.hid hL1
  replace HK := KB.step HK hb
  replace l0 := HK.out.lb.cell2.c0; replace l1 := HK.out.lb.cell2.c1; replace lz := HK.out.lb.cell2.lt
  have HX1 := Lib.hid ho
  clear ho hb hn1 hL1
  go_wp2_with fail
  refine (sWayDown_any W P np cp zs v _ HK.out.oi.ri hnp2).mono ?_
  rintro e wx ⟨X2, d2, rfl, ho, hb⟩
  obtain ⟨n2b, hn2b⟩ : ∃ n2b, n2b = (wayN W zs v).length := ⟨_, rfl⟩
  obtain ⟨L2, hL2⟩ : ∃ L2, L2 = wayN W zs v := ⟨_, rfl⟩
  rw [← hn2b] at ho
  rw [← hL2] at ho
  rw [← hn2b]
  have Hn2b := Lib.hid hn2b
  have HL2 := Lib.hid hL2
  replace HK := KB.step HK hb
  replace HX1 := oiStep HX1 hb
  replace l0 := HK.out.lb.cell2.c0; replace l1 := HK.out.lb.cell2.c1; replace lz := HK.out.lb.cell2.lt
  have HX2 := Lib.hid ho
  clear ho hb hn2b hL2
  go_wp2_with fail
  refine (iEndOf_any W P np cp zs v _ HK.out.oi.ri hnp2).mono ?_
  rintro e wx ⟨rfl, hb⟩
  obtain ⟨E1, hE1⟩ : ∃ E1, E1 = endN W zs v := ⟨_, rfl⟩
  rw [← hE1]
  have HE1 := Lib.hid hE1
  replace HK := KB.step HK hb
  replace HX1 := oiStep HX1 hb
  replace HX2 := oiStep HX2 hb
  replace l0 := HK.out.lb.cell2.c0; replace l1 := HK.out.lb.cell2.c1; replace lz := HK.out.lb.cell2.lt
  clear hb hE1
  go_wp2_with fail
  refine (sEndOf_any W P np cp zs v _ HK.out.oi.ri hnp2).mono ?_
  rintro e wx ⟨rfl, hb⟩
  obtain ⟨E2, hE2⟩ : ∃ E2, E2 = endN W zs v := ⟨_, rfl⟩
  rw [← hE2]
  have HE2 := Lib.hid hE2
  replace HK := KB.step HK hb
  replace HX1 := oiStep HX1 hb
  replace HX2 := oiStep HX2 hb
  replace l0 := HK.out.lb.cell2.c0; replace l1 := HK.out.lb.cell2.c1; replace lz := HK.out.lb.cell2.lt
  clear hb hE2
  go_wp2_with fail
  refine (iRungsUsed_any W P np cp zs v _ HK.out.oi.ri hnp2).mono ?_
  rintro e wx ⟨X3, d3, rfl, ho, hb⟩
  obtain ⟨n3, hn3⟩ : ∃ n3, n3 = (usedN W zs v).length := ⟨_, rfl⟩
  obtain ⟨L3, hL3⟩ : ∃ L3, L3 = usedN W zs v := ⟨_, rfl⟩
  rw [← hn3] at ho
  rw [← hL3] at ho
  rw [← hn3]
  have Hn3 := Lib.hid hn3
  have HL3 := Lib.hid hL3
  replace HK := KB.step HK hb
  replace HX1 := oiStep HX1 hb
  replace HX2 := oiStep HX2 hb
  replace l0 := HK.out.lb.cell2.c0; replace l1 := HK.out.lb.cell2.c1; replace lz := HK.out.lb.cell2.lt
  have HX3 := Lib.hid ho
  clear ho hb hn3 hL3
  go_wp2_with fail
  refine (sRungsUsed_any W P np cp zs v _ HK.out.oi.ri hnp2).mono ?_
  rintro e wx ⟨X4, d4, rfl, ho, hb⟩
  obtain ⟨n4, hn4⟩ : ∃ n4, n4 = (usedN W zs v).length := ⟨_, rfl⟩
  obtain ⟨L4, hL4⟩ : ∃ L4, L4 = usedN W zs v := ⟨_, rfl⟩
  rw [← hn4] at ho
  rw [← hL4] at ho
  rw [← hn4]
  have Hn4 := Lib.hid hn4
  have HL4 := Lib.hid hL4
  replace HK := KB.step HK hb
  replace HX1 := oiStep HX1 hb
  replace HX2 := oiStep HX2 hb
  replace HX3 := oiStep HX3 hb
  replace l0 := HK.out.lb.cell2.c0; replace l1 := HK.out.lb.cell2.c1; replace lz := HK.out.lb.cell2.lt
  have HX4 := Lib.hid ho
  clear ho hb hn4 hL4
  go_wp2_with fail
  refine (iResultOf_any W P np cp zs _ HK.out.oi.ri hnp2).mono ?_
  rintro e wx ⟨X5, d5, rfl, ho, hb⟩
  obtain ⟨n5, hn5⟩ : ∃ n5, n5 = (resN W zs).length := ⟨_, rfl⟩
  obtain ⟨L5, hL5⟩ : ∃ L5, L5 = resN W zs := ⟨_, rfl⟩
  rw [← hn5] at ho
  rw [← hL5] at ho
  rw [← hn5]
  have Hn5 := Lib.hid hn5
  have HL5 := Lib.hid hL5
  replace HK := KB.step HK hb
  replace HX1 := oiStep HX1 hb
  replace HX2 := oiStep HX2 hb
  replace HX3 := oiStep HX3 hb
  replace HX4 := oiStep HX4 hb
  replace l0 := HK.out.lb.cell2.c0; replace l1 := HK.out.lb.cell2.c1; replace lz := HK.out.lb.cell2.lt
  have HX5 := Lib.hid ho
  clear ho hb hn5 hL5
  go_wp2_with fail
  refine (sResultOf_any W P np cp zs _ HK.out.oi.ri hnp2).mono ?_
  rintro e wx ⟨X6, d6, rfl, ho, hb⟩
  obtain ⟨n6, hn6⟩ : ∃ n6, n6 = (resN W zs).length := ⟨_, rfl⟩
  obtain ⟨L6, hL6⟩ : ∃ L6, L6 = resN W zs := ⟨_, rfl⟩
  rw [← hn6] at ho
  rw [← hL6] at ho
  rw [← hn6]
  have Hn6 := Lib.hid hn6
  have HL6 := Lib.hid hL6
  replace HK := KB.step HK hb
  replace HX1 := oiStep HX1 hb
  replace HX2 := oiStep HX2 hb
  replace HX3 := oiStep HX3 hb
  replace HX4 := oiStep HX4 hb
  replace HX5 := oiStep HX5 hb
  replace l0 := HK.out.lb.cell2.c0; replace l1 := HK.out.lb.cell2.c1; replace lz := HK.out.lb.cell2.lt
  have HX6 := Lib.hid ho
  clear ho hb hn6 hL6
  have e2 : L2 = L1 := by rw [HL2.out, HL1.out]
  have e2n : n2b = n1 := by rw [Hn2b.out, Hn1.out]
  have e4 : L4 = L3 := by rw [HL4.out, HL3.out]
  have e4n : n4 = n3 := by rw [Hn4.out, Hn3.out]
  have e6 : L6 = L5 := by rw [HL6.out, HL5.out]
  have e6n : n6 = n5 := by rw [Hn6.out, Hn5.out]
  have eE : E2 = E1 := by rw [HE2.out, HE1.out]
  subst e2 e2n e4 e4n e6 e6n eE
  have b1 : n2b ≤ 1048576 := by rw [Hn2b.out]; have := wayN_len W zs v; omega
  have b3 : n4 ≤ 1048576 := by rw [Hn4.out]; have := usedN_len W zs v; omega
  have b5 : n6 ≤ 1048576 := by rw [Hn6.out]; have := resN_len W zs; omega
  have eE2 : (E2 != E2) = false := by simp
  obtain ⟨q, hq⟩ : ∃ q, q = lad W zs := ⟨_, rfl⟩
  obtain ⟨o, ho⟩ : ∃ o, o = wire W zs v := ⟨_, rfl⟩
  rw [← hq, ← ho]
  have HQ := Lib.hid hq
  have HWQ := Lib.hid ho
  clear hq ho
  have hqq : (q != q) = false := by simp
  cases o
  · as_aux_lemma =>
    clear Hn2b HL2 HE2 Hn4 HL4 Hn6 HL6 HWQ HBIG
    go_wp2_with fail
    have hb := drewBel wx
    replace HK := KB.step HK hb; replace HX1 := oiStep HX1 hb; replace HX2 := oiStep HX2 hb; replace HX3 := oiStep HX3 hb; replace HX4 := oiStep HX4 hb; replace HX5 := oiStep HX5 hb; replace HX6 := oiStep HX6 hb; replace l0 := HK.out.lb.cell2.c0; replace l1 := HK.out.lb.cell2.c1; replace lz := HK.out.lb.cell2.lt; clear hb
    clear l0 l1 lz
    simp only [List.append_eq, List.cons_append, List.nil_append]
    refine wp_region_held_drew (S := (fun w' => w'.cell? ⟨la, 0, none⟩ = some (.int .i64 W) ∧ w'.cell? ⟨la, 1, none⟩ = some (.slice P np cp))) (by kernel_rfl) ?_ (fun hHeld => ?_)
    · exact ⟨HK.out.lb.cell2.c0, HK.out.lb.cell2.c1⟩
    refine wpAnyH_take (i := 0) (v := ?_) rfl (by kernel_rfl) (by kernel_rfl) (by kernel_rfl) (fun _ _ _ h => h) (Or.inl ⟨by kernel_rfl, ?_⟩) hHeld ?_
    rotate_left
    · (intro w hSw; (try dsimp only at hSw); (first | (go_simp; done) | (go_simp; with_reducible rfl)))
    try simp only [Act.put, List.getElem_toArray, List.getElem_cons_zero, List.setIfInBounds_toArray, List.set_cons_zero, List.set_cons_succ]
    refine wpAnyH_take (i := 1) (v := ?_) rfl (by kernel_rfl) (by kernel_rfl) (by kernel_rfl) (fun _ _ _ h => h) (Or.inl ⟨by kernel_rfl, ?_⟩) hHeld ?_
    rotate_left
    · (intro w hSw; (try dsimp only at hSw); (first | (go_simp; done) | (go_simp; with_reducible rfl)))
    try simp only [Act.put, List.getElem_toArray, List.getElem_cons_zero, List.getElem_cons_succ, List.setIfInBounds_toArray, List.set_cons_zero, List.set_cons_succ]
    refine wpAnyH_take (i := 2) (v := ?_) rfl (by kernel_rfl) (by kernel_rfl) (by kernel_rfl) (fun _ _ _ h => h) (Or.inl ⟨by kernel_rfl, ?_⟩) hHeld ?_
    rotate_left
    · (intro w hSw; (try dsimp only at hSw); (first | (go_simp; done) | (go_simp; with_reducible rfl)))
    try simp only [Act.put, List.getElem_toArray, List.getElem_cons_zero, List.getElem_cons_succ, List.setIfInBounds_toArray, List.set_cons_zero, List.set_cons_succ]
    refine wpAnyH_take (i := 3) (v := ?_) rfl (by kernel_rfl) (by kernel_rfl) (by kernel_rfl) (fun _ _ _ h => h) (Or.inl ⟨by kernel_rfl, ?_⟩) hHeld ?_
    rotate_left
    · (intro w hSw; (try dsimp only at hSw); (first | (go_simp; done) | (go_simp; with_reducible rfl)))
    try simp only [Act.put, List.getElem_toArray, List.getElem_cons_zero, List.getElem_cons_succ, List.setIfInBounds_toArray, List.set_cons_zero, List.set_cons_succ]
    refine wpAnyH_take (i := 4) (v := ?_) rfl (by kernel_rfl) (by kernel_rfl) (by kernel_rfl) (fun _ _ _ h => h) (Or.inl ⟨by kernel_rfl, ?_⟩) hHeld ?_
    rotate_left
    · (intro w hSw; (try dsimp only at hSw); (first | (go_simp; done) | (go_simp; with_reducible rfl)))
    try simp only [Act.put, List.getElem_toArray, List.getElem_cons_zero, List.getElem_cons_succ, List.setIfInBounds_toArray, List.set_cons_zero, List.set_cons_succ]
    refine wpAnyH_take (i := 5) (v := ?_) rfl (by kernel_rfl) (by kernel_rfl) (by kernel_rfl) (fun _ _ _ h => h) (Or.inl ⟨by kernel_rfl, ?_⟩) hHeld ?_
    rotate_left
    · (intro w hSw; (try dsimp only at hSw); (first | (go_simp; done) | (go_simp; with_reducible rfl)))
    try simp only [Act.put, List.getElem_toArray, List.getElem_cons_zero, List.getElem_cons_succ, List.setIfInBounds_toArray, List.set_cons_zero, List.set_cons_succ]
    refine wpAnyH_ready (rs := [6]) (by kernel_rfl) (by simp) ?_
    refine AllReadyH.cons rfl (fun K hK => ?_) AllReadyH.nil
    simp only [List.getElem_toArray, List.getElem_cons_zero, List.getElem_cons_succ]
    go_simp
    (go_at_call 14; (have h0 := kSame_any X1 n2b d1 L2 X2 n2b d2 L2 _ HX1.out.ri HX2.out.ri b1 b1); (with_reducible refine h0.mono ?_); clear h0; rw [eqB_self]; rintro e wa ⟨rfl, hb⟩; replace HK := KB.step HK hb; replace HX1 := oiStep HX1 hb; replace HX2 := oiStep HX2 hb; replace HX3 := oiStep HX3 hb; replace HX4 := oiStep HX4 hb; replace HX5 := oiStep HX5 hb; replace HX6 := oiStep HX6 hb; clear hb)
    clear hHeld
    refine hK.out _ _ ?_ (fun hHeld => ?_)
    · exact ⟨HK.out.lb.cell2.c0, HK.out.lb.cell2.c1⟩
    clear hK K
    try simp only [Act.put, List.getElem_toArray, List.getElem_cons_zero, List.getElem_cons_succ, List.setIfInBounds_toArray, List.set_cons_zero, List.set_cons_succ]
    refine wpAnyH_take (i := 7) (v := ?_) rfl (by kernel_rfl) (by kernel_rfl) (by kernel_rfl) (fun _ _ _ h => h) (Or.inl ⟨by kernel_rfl, ?_⟩) hHeld ?_
    rotate_left
    · (intro w hSw; (try dsimp only at hSw); (first | (go_simp; done) | (go_simp; with_reducible rfl)))
    try simp only [Act.put, List.getElem_toArray, List.getElem_cons_zero, List.getElem_cons_succ, List.setIfInBounds_toArray, List.set_cons_zero, List.set_cons_succ]
    refine wpAnyH_take (i := 8) (v := ?_) rfl (by kernel_rfl) (by kernel_rfl) (by kernel_rfl) (fun _ _ _ h => h) (Or.inl ⟨by kernel_rfl, ?_⟩) hHeld ?_
    rotate_left
    · (intro w hSw; (try dsimp only at hSw); (first | (go_simp; done) | (go_simp; with_reducible rfl)))
    try simp only [Act.put, List.getElem_toArray, List.getElem_cons_zero, List.getElem_cons_succ, List.setIfInBounds_toArray, List.set_cons_zero, List.set_cons_succ]
    refine wpAnyH_take (i := 9) (v := ?_) rfl (by kernel_rfl) (by kernel_rfl) (by kernel_rfl) (fun _ _ _ h => h) (Or.inl ⟨by kernel_rfl, ?_⟩) hHeld ?_
    rotate_left
    · (intro w hSw; (try dsimp only at hSw); (first | (go_simp; done) | (go_simp; with_reducible rfl)))
    try simp only [Act.put, List.getElem_toArray, List.getElem_cons_zero, List.getElem_cons_succ, List.setIfInBounds_toArray, List.set_cons_zero, List.set_cons_succ]
    refine wpAnyH_take (i := 10) (v := ?_) rfl (by kernel_rfl) (by kernel_rfl) (by kernel_rfl) (fun _ _ _ h => h) (Or.inl ⟨by kernel_rfl, ?_⟩) hHeld ?_
    rotate_left
    · (intro w hSw; (try dsimp only at hSw); (first | (go_simp; done) | (go_simp; with_reducible rfl)))
    try simp only [Act.put, List.getElem_toArray, List.getElem_cons_zero, List.getElem_cons_succ, List.setIfInBounds_toArray, List.set_cons_zero, List.set_cons_succ]
    refine wpAnyH_take (i := 11) (v := ?_) rfl (by kernel_rfl) (by kernel_rfl) (by kernel_rfl) (fun _ _ _ h => h) (Or.inl ⟨by kernel_rfl, ?_⟩) hHeld ?_
    rotate_left
    · (intro w hSw; (try dsimp only at hSw); (first | (go_simp; done) | (go_simp; with_reducible rfl)))
    try simp only [Act.put, List.getElem_toArray, List.getElem_cons_zero, List.getElem_cons_succ, List.setIfInBounds_toArray, List.set_cons_zero, List.set_cons_succ]
    refine wpAnyH_take (i := 12) (v := ?_) rfl (by kernel_rfl) (by kernel_rfl) (by kernel_rfl) (fun _ _ _ h => h) (Or.inl ⟨by kernel_rfl, ?_⟩) hHeld ?_
    rotate_left
    · (intro w hSw; (try dsimp only at hSw); (first | (go_simp; done) | (go_simp; with_reducible rfl)))
    try simp only [Act.put, List.getElem_toArray, List.getElem_cons_zero, List.getElem_cons_succ, List.setIfInBounds_toArray, List.set_cons_zero, List.set_cons_succ]
    refine wpAnyH_take (i := 13) (v := ?_) rfl (by kernel_rfl) (by kernel_rfl) (by kernel_rfl) (fun _ _ _ h => h) (Or.inl ⟨by kernel_rfl, ?_⟩) hHeld ?_
    rotate_left
    · (intro w hSw; (try dsimp only at hSw); (first | (go_simp; done) | (go_simp; with_reducible rfl)))
    try simp only [Act.put, List.getElem_toArray, List.getElem_cons_zero, List.getElem_cons_succ, List.setIfInBounds_toArray, List.set_cons_zero, List.set_cons_succ]
    refine wpAnyH_take (i := 14) (v := ?_) rfl (by kernel_rfl) (by kernel_rfl) (by kernel_rfl) (fun _ _ _ h => h) (Or.inl ⟨by kernel_rfl, ?_⟩) hHeld ?_
    rotate_left
    · (intro w hSw; (try dsimp only at hSw); (first | (go_simp; done) | (go_simp; with_reducible rfl)))
    try simp only [Act.put, List.getElem_toArray, List.getElem_cons_zero, List.getElem_cons_succ, List.setIfInBounds_toArray, List.set_cons_zero, List.set_cons_succ]
    refine wpAnyH_take (i := 15) (v := ?_) rfl (by kernel_rfl) (by kernel_rfl) (by kernel_rfl) (fun _ _ _ h => h) (Or.inl ⟨by kernel_rfl, ?_⟩) hHeld ?_
    rotate_left
    · (intro w hSw; (try dsimp only at hSw); (first | (go_simp; done) | (go_simp; with_reducible rfl)))
    try simp only [Act.put, List.getElem_toArray, List.getElem_cons_zero, List.getElem_cons_succ, List.setIfInBounds_toArray, List.set_cons_zero, List.set_cons_succ]
    refine wpAnyH_take (i := 16) (v := ?_) rfl (by kernel_rfl) (by kernel_rfl) (by kernel_rfl) (fun _ _ _ h => h) (Or.inl ⟨by kernel_rfl, ?_⟩) hHeld ?_
    rotate_left
    · (intro w hSw; (try dsimp only at hSw); (first | (go_simp; done) | (go_simp; with_reducible rfl)))
    try simp only [Act.put, List.getElem_toArray, List.getElem_cons_zero, List.getElem_cons_succ, List.setIfInBounds_toArray, List.set_cons_zero, List.set_cons_succ]
    refine wpAnyH_take (i := 17) (v := ?_) rfl (by kernel_rfl) (by kernel_rfl) (by kernel_rfl) (fun _ _ _ h => h) (Or.inl ⟨by kernel_rfl, ?_⟩) hHeld ?_
    rotate_left
    · (intro w hSw; (try dsimp only at hSw); (first | (go_simp; done) | (go_simp; with_reducible rfl)))
    try simp only [Act.put, List.getElem_toArray, List.getElem_cons_zero, List.getElem_cons_succ, List.setIfInBounds_toArray, List.set_cons_zero, List.set_cons_succ]
    refine wpAnyH_take (i := 18) (v := ?_) rfl (by kernel_rfl) (by kernel_rfl) (by kernel_rfl) (fun _ _ _ h => h) (Or.inl ⟨by kernel_rfl, ?_⟩) hHeld ?_
    rotate_left
    · (intro w hSw; (try dsimp only at hSw); (first | (go_simp; done) | (go_simp; with_reducible rfl)))
    try simp only [Act.put, List.getElem_toArray, List.getElem_cons_zero, List.getElem_cons_succ, List.setIfInBounds_toArray, List.set_cons_zero, List.set_cons_succ]
    refine wpAnyH_take (i := 19) (v := ?_) rfl (by kernel_rfl) (by kernel_rfl) (by kernel_rfl) (fun _ _ _ h => h) (Or.inl ⟨by kernel_rfl, ?_⟩) hHeld ?_
    rotate_left
    · (intro w hSw; (try dsimp only at hSw); (first | (go_simp; done) | (go_simp; with_reducible rfl)))
    try simp only [Act.put, List.getElem_toArray, List.getElem_cons_zero, List.getElem_cons_succ, List.setIfInBounds_toArray, List.set_cons_zero, List.set_cons_succ]
    refine wpAnyH_take (i := 20) (v := ?_) rfl (by kernel_rfl) (by kernel_rfl) (by kernel_rfl) (fun _ _ _ h => h) (Or.inl ⟨by kernel_rfl, ?_⟩) hHeld ?_
    rotate_left
    · (intro w hSw; (try dsimp only at hSw); (first | (go_simp; done) | (go_simp; with_reducible rfl)))
    try simp only [Act.put, List.getElem_toArray, List.getElem_cons_zero, List.getElem_cons_succ, List.setIfInBounds_toArray, List.set_cons_zero, List.set_cons_succ]
    refine wpAnyH_take (i := 21) (v := ?_) rfl (by kernel_rfl) (by kernel_rfl) (by kernel_rfl) (fun _ _ _ h => h) (Or.inl ⟨by kernel_rfl, ?_⟩) hHeld ?_
    rotate_left
    · (intro w hSw; (try dsimp only at hSw); (first | (go_simp; done) | (go_simp; with_reducible rfl)))
    try simp only [Act.put, List.getElem_toArray, List.getElem_cons_zero, List.getElem_cons_succ, List.setIfInBounds_toArray, List.set_cons_zero, List.set_cons_succ]
    refine wpAnyH_take (i := 22) (v := ?_) rfl (by kernel_rfl) (by kernel_rfl) (by kernel_rfl) (fun _ _ _ h => h) (Or.inl ⟨by kernel_rfl, ?_⟩) hHeld ?_
    rotate_left
    · (intro w hSw; (try dsimp only at hSw); (first | (go_simp; done) | (go_simp; with_reducible rfl)))
    try simp only [Act.put, List.getElem_toArray, List.getElem_cons_zero, List.getElem_cons_succ, List.setIfInBounds_toArray, List.set_cons_zero, List.set_cons_succ]
    refine wpAnyH_take (i := 23) (v := ?_) rfl (by kernel_rfl) (by kernel_rfl) (by kernel_rfl) (fun _ _ _ h => h) (Or.inl ⟨by kernel_rfl, ?_⟩) hHeld ?_
    rotate_left
    · (intro w hSw; (try dsimp only at hSw); (first | (go_simp; done) | (go_simp; with_reducible rfl)))
    try simp only [Act.put, List.getElem_toArray, List.getElem_cons_zero, List.getElem_cons_succ, List.setIfInBounds_toArray, List.set_cons_zero, List.set_cons_succ]
    refine wpAnyH_take (i := 24) (v := ?_) rfl (by kernel_rfl) (by kernel_rfl) (by kernel_rfl) (fun _ _ _ h => h) (Or.inl ⟨by kernel_rfl, ?_⟩) hHeld ?_
    rotate_left
    · (intro w hSw; (try dsimp only at hSw); (first | (go_simp; done) | (go_simp; with_reducible rfl)))
    try simp only [Act.put, List.getElem_toArray, List.getElem_cons_zero, List.getElem_cons_succ, List.setIfInBounds_toArray, List.set_cons_zero, List.set_cons_succ]
    refine wpAnyH_take (i := 25) (v := ?_) rfl (by kernel_rfl) (by kernel_rfl) (by kernel_rfl) (fun _ _ _ h => h) (Or.inl ⟨by kernel_rfl, ?_⟩) hHeld ?_
    rotate_left
    · (intro w hSw; (try dsimp only at hSw); (first | (go_simp; done) | (go_simp; with_reducible rfl)))
    try simp only [Act.put, List.getElem_toArray, List.getElem_cons_zero, List.getElem_cons_succ, List.setIfInBounds_toArray, List.set_cons_zero, List.set_cons_succ]
    refine wpAnyH_take (i := 26) (v := ?_) rfl (by kernel_rfl) (by kernel_rfl) (by kernel_rfl) (fun _ _ _ h => h) (Or.inl ⟨by kernel_rfl, ?_⟩) hHeld ?_
    rotate_left
    · (intro w hSw; (try dsimp only at hSw); (first | (go_simp; done) | (go_simp; with_reducible rfl)))
    try simp only [Act.put, List.getElem_toArray, List.getElem_cons_zero, List.getElem_cons_succ, List.setIfInBounds_toArray, List.set_cons_zero, List.set_cons_succ]
    refine wpAnyH_ready (rs := [27]) (by kernel_rfl) (by simp) ?_
    refine AllReadyH.cons rfl (fun K hK => ?_) AllReadyH.nil
    simp only [List.getElem_toArray, List.getElem_cons_zero, List.getElem_cons_succ]
    go_simp
    (go_at_call 14; (have h0 := kSame_any X3 n4 d3 L4 X4 n4 d4 L4 _ HX3.out.ri HX4.out.ri b3 b3); (with_reducible refine h0.mono ?_); clear h0; rw [eqB_self]; rintro e wa ⟨rfl, hb⟩; replace HK := KB.step HK hb; replace HX1 := oiStep HX1 hb; replace HX2 := oiStep HX2 hb; replace HX3 := oiStep HX3 hb; replace HX4 := oiStep HX4 hb; replace HX5 := oiStep HX5 hb; replace HX6 := oiStep HX6 hb; clear hb)
    clear hHeld
    refine hK.out _ _ ?_ (fun hHeld => ?_)
    · exact ⟨HK.out.lb.cell2.c0, HK.out.lb.cell2.c1⟩
    clear hK K
    try simp only [Act.put, List.getElem_toArray, List.getElem_cons_zero, List.getElem_cons_succ, List.setIfInBounds_toArray, List.set_cons_zero, List.set_cons_succ]
    refine wpAnyH_take (i := 28) (v := ?_) rfl (by kernel_rfl) (by kernel_rfl) (by kernel_rfl) (fun _ _ _ h => h) (Or.inl ⟨by kernel_rfl, ?_⟩) hHeld ?_
    rotate_left
    · (intro w hSw; (try dsimp only at hSw); (first | (go_simp; done) | (go_simp; with_reducible rfl)))
    try simp only [Act.put, List.getElem_toArray, List.getElem_cons_zero, List.getElem_cons_succ, List.setIfInBounds_toArray, List.set_cons_zero, List.set_cons_succ]
    refine wpAnyH_take (i := 29) (v := ?_) rfl (by kernel_rfl) (by kernel_rfl) (by kernel_rfl) (fun _ _ _ h => h) (Or.inl ⟨by kernel_rfl, ?_⟩) hHeld ?_
    rotate_left
    · (intro w hSw; (try dsimp only at hSw); (first | (go_simp; done) | (go_simp; with_reducible rfl)))
    try simp only [Act.put, List.getElem_toArray, List.getElem_cons_zero, List.getElem_cons_succ, List.setIfInBounds_toArray, List.set_cons_zero, List.set_cons_succ]
    refine wpAnyH_take (i := 30) (v := ?_) rfl (by kernel_rfl) (by kernel_rfl) (by kernel_rfl) (fun _ _ _ h => h) (Or.inl ⟨by kernel_rfl, ?_⟩) hHeld ?_
    rotate_left
    · (intro w hSw; (try dsimp only at hSw); (first | (go_simp; done) | (go_simp; with_reducible rfl)))
    try simp only [Act.put, List.getElem_toArray, List.getElem_cons_zero, List.getElem_cons_succ, List.setIfInBounds_toArray, List.set_cons_zero, List.set_cons_succ]
    refine wpAnyH_take (i := 31) (v := ?_) rfl (by kernel_rfl) (by kernel_rfl) (by kernel_rfl) (fun _ _ _ h => h) (Or.inl ⟨by kernel_rfl, ?_⟩) hHeld ?_
    rotate_left
    · (intro w hSw; (try dsimp only at hSw); (first | (go_simp; done) | (go_simp; with_reducible rfl)))
    try simp only [Act.put, List.getElem_toArray, List.getElem_cons_zero, List.getElem_cons_succ, List.setIfInBounds_toArray, List.set_cons_zero, List.set_cons_succ]
    refine wpAnyH_take (i := 32) (v := ?_) rfl (by kernel_rfl) (by kernel_rfl) (by kernel_rfl) (fun _ _ _ h => h) (Or.inl ⟨by kernel_rfl, ?_⟩) hHeld ?_
    rotate_left
    · (intro w hSw; (try dsimp only at hSw); (first | (go_simp; done) | (go_simp; with_reducible rfl)))
    try simp only [Act.put, List.getElem_toArray, List.getElem_cons_zero, List.getElem_cons_succ, List.setIfInBounds_toArray, List.set_cons_zero, List.set_cons_succ]
    refine wpAnyH_take (i := 33) (v := ?_) rfl (by kernel_rfl) (by kernel_rfl) (by kernel_rfl) (fun _ _ _ h => h) (Or.inl ⟨by kernel_rfl, ?_⟩) hHeld ?_
    rotate_left
    · (intro w hSw; (try dsimp only at hSw); (first | (go_simp; done) | (go_simp; with_reducible rfl)))
    try simp only [Act.put, List.getElem_toArray, List.getElem_cons_zero, List.getElem_cons_succ, List.setIfInBounds_toArray, List.set_cons_zero, List.set_cons_succ]
    refine wpAnyH_take (i := 34) (v := ?_) rfl (by kernel_rfl) (by kernel_rfl) (by kernel_rfl) (fun _ _ _ h => h) (Or.inl ⟨by kernel_rfl, ?_⟩) hHeld ?_
    rotate_left
    · (intro w hSw; (try dsimp only at hSw); (first | (go_simp; done) | (go_simp; with_reducible rfl)))
    try simp only [Act.put, List.getElem_toArray, List.getElem_cons_zero, List.getElem_cons_succ, List.setIfInBounds_toArray, List.set_cons_zero, List.set_cons_succ]
    refine wpAnyH_take (i := 35) (v := ?_) rfl (by kernel_rfl) (by kernel_rfl) (by kernel_rfl) (fun _ _ _ h => h) (Or.inl ⟨by kernel_rfl, ?_⟩) hHeld ?_
    rotate_left
    · (intro w hSw; (try dsimp only at hSw); (first | (go_simp; done) | (go_simp; with_reducible rfl)))
    try simp only [Act.put, List.getElem_toArray, List.getElem_cons_zero, List.getElem_cons_succ, List.setIfInBounds_toArray, List.set_cons_zero, List.set_cons_succ]
    refine wpAnyH_take (i := 36) (v := ?_) rfl (by kernel_rfl) (by kernel_rfl) (by kernel_rfl) (fun _ _ _ h => h) (Or.inl ⟨by kernel_rfl, ?_⟩) hHeld ?_
    rotate_left
    · (intro w hSw; (try dsimp only at hSw); (first | (go_simp; done) | (go_simp; with_reducible rfl)))
    try simp only [Act.put, List.getElem_toArray, List.getElem_cons_zero, List.getElem_cons_succ, List.setIfInBounds_toArray, List.set_cons_zero, List.set_cons_succ]
    refine wpAnyH_take (i := 37) (v := ?_) rfl (by kernel_rfl) (by kernel_rfl) (by kernel_rfl) (fun _ _ _ h => h) (Or.inl ⟨by kernel_rfl, ?_⟩) hHeld ?_
    rotate_left
    · (intro w hSw; (try dsimp only at hSw); (first | (go_simp; done) | (go_simp; with_reducible rfl)))
    try simp only [Act.put, List.getElem_toArray, List.getElem_cons_zero, List.getElem_cons_succ, List.setIfInBounds_toArray, List.set_cons_zero, List.set_cons_succ]
    refine wpAnyH_ready (rs := [38]) (by kernel_rfl) (by simp) ?_
    refine AllReadyH.cons rfl (fun K hK => ?_) AllReadyH.nil
    simp only [List.getElem_toArray, List.getElem_cons_zero, List.getElem_cons_succ]
    go_simp
    (go_at_call 14; (have h0 := kSame_any X5 n6 d5 L6 X6 n6 d6 L6 _ HX5.out.ri HX6.out.ri b5 b5); (with_reducible refine h0.mono ?_); clear h0; rw [eqB_self]; rintro e wa ⟨rfl, hb⟩; replace HK := KB.step HK hb; replace HX1 := oiStep HX1 hb; replace HX2 := oiStep HX2 hb; replace HX3 := oiStep HX3 hb; replace HX4 := oiStep HX4 hb; replace HX5 := oiStep HX5 hb; replace HX6 := oiStep HX6 hb; clear hb)
    clear hHeld
    refine hK.out _ _ ?_ (fun hHeld => ?_)
    · exact ⟨HK.out.lb.cell2.c0, HK.out.lb.cell2.c1⟩
    clear hK K
    try simp only [Act.put, List.getElem_toArray, List.getElem_cons_zero, List.getElem_cons_succ, List.setIfInBounds_toArray, List.set_cons_zero, List.set_cons_succ]
    refine wpAnyH_take (i := 39) (v := ?_) rfl (by kernel_rfl) (by kernel_rfl) (by kernel_rfl) (fun _ _ _ h => h) (Or.inl ⟨by kernel_rfl, ?_⟩) hHeld ?_
    rotate_left
    · (intro w hSw; (try dsimp only at hSw); (first | (go_simp; done) | (go_simp; with_reducible rfl)))
    try simp only [Act.put, List.getElem_toArray, List.getElem_cons_zero, List.getElem_cons_succ, List.setIfInBounds_toArray, List.set_cons_zero, List.set_cons_succ]
    refine wpAnyH_take (i := 40) (v := ?_) rfl (by kernel_rfl) (by kernel_rfl) (by kernel_rfl) (fun _ _ _ h => h) (Or.inl ⟨by kernel_rfl, ?_⟩) hHeld ?_
    rotate_left
    · (intro w hSw; (try dsimp only at hSw); (first | (go_simp; done) | (go_simp; with_reducible rfl)))
    try simp only [Act.put, List.getElem_toArray, List.getElem_cons_zero, List.getElem_cons_succ, List.setIfInBounds_toArray, List.set_cons_zero, List.set_cons_succ]
    refine wpAnyH_take (i := 41) (v := ?_) rfl (by kernel_rfl) (by kernel_rfl) (by kernel_rfl) (fun _ _ _ h => h) (Or.inl ⟨by kernel_rfl, ?_⟩) hHeld ?_
    rotate_left
    · (intro w hSw; (try dsimp only at hSw); (first | (go_simp; done) | (go_simp; with_reducible rfl)))
    try simp only [Act.put, List.getElem_toArray, List.getElem_cons_zero, List.getElem_cons_succ, List.setIfInBounds_toArray, List.set_cons_zero, List.set_cons_succ]
    refine wpAnyH_take (i := 42) (v := ?_) rfl (by kernel_rfl) (by kernel_rfl) (by kernel_rfl) (fun _ _ _ h => h) (Or.inl ⟨by kernel_rfl, ?_⟩) hHeld ?_
    rotate_left
    · (intro w hSw; (try dsimp only at hSw); (first | (go_simp; done) | (go_simp; with_reducible rfl)))
    try simp only [Act.put, List.getElem_toArray, List.getElem_cons_zero, List.getElem_cons_succ, List.setIfInBounds_toArray, List.set_cons_zero, List.set_cons_succ]
    refine wpAnyH_take (i := 43) (v := ?_) rfl (by kernel_rfl) (by kernel_rfl) (by kernel_rfl) (fun _ _ _ h => h) (Or.inl ⟨by kernel_rfl, ?_⟩) hHeld ?_
    rotate_left
    · (intro w hSw; (try dsimp only at hSw); (first | (go_simp; done) | (go_simp; with_reducible rfl)))
    try simp only [Act.put, List.getElem_toArray, List.getElem_cons_zero, List.getElem_cons_succ, List.setIfInBounds_toArray, List.set_cons_zero, List.set_cons_succ]
    refine wpAnyH_take (i := 44) (v := ?_) rfl (by kernel_rfl) (by kernel_rfl) (by kernel_rfl) (fun _ _ _ h => h) (Or.inl ⟨by kernel_rfl, ?_⟩) hHeld ?_
    rotate_left
    · (intro w hSw; (try dsimp only at hSw); (first | (go_simp; done) | (go_simp; with_reducible rfl)))
    try simp only [Act.put, List.getElem_toArray, List.getElem_cons_zero, List.getElem_cons_succ, List.setIfInBounds_toArray, List.set_cons_zero, List.set_cons_succ]
    refine wpAnyH_take (i := 45) (v := ?_) rfl (by kernel_rfl) (by kernel_rfl) (by kernel_rfl) (fun _ _ _ h => h) (Or.inl ⟨by kernel_rfl, ?_⟩) hHeld ?_
    rotate_left
    · (intro w hSw; (try dsimp only at hSw); (first | (go_simp; done) | (go_simp; with_reducible rfl)))
    try simp only [Act.put, List.getElem_toArray, List.getElem_cons_zero, List.getElem_cons_succ, List.setIfInBounds_toArray, List.set_cons_zero, List.set_cons_succ]
    refine wpAnyH_take (i := 46) (v := ?_) rfl (by kernel_rfl) (by kernel_rfl) (by kernel_rfl) (fun _ _ _ h => h) (Or.inl ⟨by kernel_rfl, ?_⟩) hHeld ?_
    rotate_left
    · (intro w hSw; (try dsimp only at hSw); (first | (go_simp; done) | (go_simp; with_reducible rfl)))
    try simp only [Act.put, List.getElem_toArray, List.getElem_cons_zero, List.getElem_cons_succ, List.setIfInBounds_toArray, List.set_cons_zero, List.set_cons_succ]
    refine wpAnyH_take (i := 47) (v := ?_) rfl (by kernel_rfl) (by kernel_rfl) (by kernel_rfl) (fun _ _ _ h => h) (Or.inl ⟨by kernel_rfl, ?_⟩) hHeld ?_
    rotate_left
    · (intro w hSw; (try dsimp only at hSw); (first | (go_simp; done) | (go_simp; with_reducible rfl)))
    try simp only [Act.put, List.getElem_toArray, List.getElem_cons_zero, List.getElem_cons_succ, List.setIfInBounds_toArray, List.set_cons_zero, List.set_cons_succ]
    refine wpAnyH_take (i := 48) (v := ?_) rfl (by kernel_rfl) (by kernel_rfl) (by kernel_rfl) (fun _ _ _ h => h) (Or.inl ⟨by kernel_rfl, ?_⟩) hHeld ?_
    rotate_left
    · (intro w hSw; (try dsimp only at hSw); (first | (go_simp; done) | (go_simp; with_reducible rfl)))
    try simp only [Act.put, List.getElem_toArray, List.getElem_cons_zero, List.getElem_cons_succ, List.setIfInBounds_toArray, List.set_cons_zero, List.set_cons_succ]
    refine wpAnyH_take (i := 49) (v := ?_) rfl (by kernel_rfl) (by kernel_rfl) (by kernel_rfl) (fun _ _ _ h => h) (Or.inl ⟨by kernel_rfl, ?_⟩) hHeld ?_
    rotate_left
    · (intro w hSw; (try dsimp only at hSw); (first | (go_simp; done) | (go_simp; with_reducible rfl)))
    try simp only [Act.put, List.getElem_toArray, List.getElem_cons_zero, List.getElem_cons_succ, List.setIfInBounds_toArray, List.set_cons_zero, List.set_cons_succ]
    refine wpAnyH_take (i := 50) (v := ?_) rfl (by kernel_rfl) (by kernel_rfl) (by kernel_rfl) (fun _ _ _ h => h) (Or.inl ⟨by kernel_rfl, ?_⟩) hHeld ?_
    rotate_left
    · (intro w hSw; (try dsimp only at hSw); (first | (go_simp; done) | (go_simp; with_reducible rfl)))
    try simp only [Act.put, List.getElem_toArray, List.getElem_cons_zero, List.getElem_cons_succ, List.setIfInBounds_toArray, List.set_cons_zero, List.set_cons_succ]
    refine wpAnyH_take (i := 51) (v := ?_) rfl (by kernel_rfl) (by kernel_rfl) (by kernel_rfl) (fun _ _ _ h => h) (Or.inl ⟨by kernel_rfl, ?_⟩) hHeld ?_
    rotate_left
    · (intro w hSw; (try dsimp only at hSw); (first | (go_simp; done) | (go_simp; with_reducible rfl)))
    try simp only [Act.put, List.getElem_toArray, List.getElem_cons_zero, List.getElem_cons_succ, List.setIfInBounds_toArray, List.set_cons_zero, List.set_cons_succ]
    refine wpAnyH_take (i := 52) (v := ?_) rfl (by kernel_rfl) (by kernel_rfl) (by kernel_rfl) (fun _ _ _ h => h) (Or.inl ⟨by kernel_rfl, ?_⟩) hHeld ?_
    rotate_left
    · (intro w hSw; (try dsimp only at hSw); (first | (go_simp; done) | (go_simp; with_reducible rfl)))
    try simp only [Act.put, List.getElem_toArray, List.getElem_cons_zero, List.getElem_cons_succ, List.setIfInBounds_toArray, List.set_cons_zero, List.set_cons_succ]
    refine wpAnyH_take (i := 53) (v := ?_) rfl (by kernel_rfl) (by kernel_rfl) (by kernel_rfl) (fun _ _ _ h => h) (Or.inl ⟨by kernel_rfl, ?_⟩) hHeld ?_
    rotate_left
    · (intro w hSw; (try dsimp only at hSw); (first | (go_simp; done) | (go_simp; with_reducible rfl)))
    try simp only [Act.put, List.getElem_toArray, List.getElem_cons_zero, List.getElem_cons_succ, List.setIfInBounds_toArray, List.set_cons_zero, List.set_cons_succ]
    refine wpAnyH_ready (rs := [54]) (by kernel_rfl) (by simp) ?_
    refine AllReadyH.cons rfl (fun K hK => ?_) AllReadyH.nil
    simp only [List.getElem_toArray, List.getElem_cons_zero, List.getElem_cons_succ]
    go_simp
    (go_at_call 15; (have h0 := iIsLadder_any W P np cp zs _ HK.out.oi.ri hnp2); (with_reducible refine h0.mono ?_); clear h0; rw [← HQ.out]; rintro e wa ⟨rfl, hb⟩; replace HK := KB.step HK hb; replace HX1 := oiStep HX1 hb; replace HX2 := oiStep HX2 hb; replace HX3 := oiStep HX3 hb; replace HX4 := oiStep HX4 hb; replace HX5 := oiStep HX5 hb; replace HX6 := oiStep HX6 hb; clear hb)
    clear hHeld
    refine hK.out _ _ ?_ (fun hHeld => ?_)
    · exact ⟨HK.out.lb.cell2.c0, HK.out.lb.cell2.c1⟩
    clear hK K
    try simp only [Act.put, List.getElem_toArray, List.getElem_cons_zero, List.getElem_cons_succ, List.setIfInBounds_toArray, List.set_cons_zero, List.set_cons_succ]
    refine wpAnyH_take (i := 55) (v := ?_) rfl (by kernel_rfl) (by kernel_rfl) (by kernel_rfl) (fun _ _ _ h => h) (Or.inl ⟨by kernel_rfl, ?_⟩) hHeld ?_
    rotate_left
    · (intro w hSw; (try dsimp only at hSw); (first | (go_simp; done) | (go_simp; with_reducible rfl)))
    try simp only [Act.put, List.getElem_toArray, List.getElem_cons_zero, List.getElem_cons_succ, List.setIfInBounds_toArray, List.set_cons_zero, List.set_cons_succ]
    refine wpAnyH_take (i := 56) (v := ?_) rfl (by kernel_rfl) (by kernel_rfl) (by kernel_rfl) (fun _ _ _ h => h) (Or.inl ⟨by kernel_rfl, ?_⟩) hHeld ?_
    rotate_left
    · (intro w hSw; (try dsimp only at hSw); (first | (go_simp; done) | (go_simp; with_reducible rfl)))
    try simp only [Act.put, List.getElem_toArray, List.getElem_cons_zero, List.getElem_cons_succ, List.setIfInBounds_toArray, List.set_cons_zero, List.set_cons_succ]
    refine wpAnyH_take (i := 57) (v := ?_) rfl (by kernel_rfl) (by kernel_rfl) (by kernel_rfl) (fun _ _ _ h => h) (Or.inl ⟨by kernel_rfl, ?_⟩) hHeld ?_
    rotate_left
    · (intro w hSw; (try dsimp only at hSw); (first | (go_simp; done) | (go_simp; with_reducible rfl)))
    try simp only [Act.put, List.getElem_toArray, List.getElem_cons_zero, List.getElem_cons_succ, List.setIfInBounds_toArray, List.set_cons_zero, List.set_cons_succ]
    refine wpAnyH_take (i := 58) (v := ?_) rfl (by kernel_rfl) (by kernel_rfl) (by kernel_rfl) (fun _ _ _ h => h) (Or.inl ⟨by kernel_rfl, ?_⟩) hHeld ?_
    rotate_left
    · (intro w hSw; (try dsimp only at hSw); (first | (go_simp; done) | (go_simp; with_reducible rfl)))
    try simp only [Act.put, List.getElem_toArray, List.getElem_cons_zero, List.getElem_cons_succ, List.setIfInBounds_toArray, List.set_cons_zero, List.set_cons_succ]
    refine wpAnyH_take (i := 60) (v := ?_) rfl (by kernel_rfl) (by kernel_rfl) (by kernel_rfl) (fun _ _ _ h => h) (Or.inl ⟨by kernel_rfl, ?_⟩) hHeld ?_
    rotate_left
    · (intro w hSw; (try dsimp only at hSw); (first | (go_simp; done) | (go_simp; with_reducible rfl)))
    try simp only [Act.put, List.getElem_toArray, List.getElem_cons_zero, List.getElem_cons_succ, List.setIfInBounds_toArray, List.set_cons_zero, List.set_cons_succ]
    refine wpAnyH_ready (rs := [59]) (by kernel_rfl) (by simp) ?_
    refine AllReadyH.cons rfl (fun K hK => ?_) AllReadyH.nil
    simp only [List.getElem_toArray, List.getElem_cons_zero, List.getElem_cons_succ]
    go_simp
    (go_at_call 15; (have h0 := iIsLadder_any W P np cp zs _ HK.out.oi.ri hnp2); (with_reducible refine h0.mono ?_); clear h0; rw [← HQ.out]; rintro e wa ⟨rfl, hb⟩; replace HK := KB.step HK hb; replace HX1 := oiStep HX1 hb; replace HX2 := oiStep HX2 hb; replace HX3 := oiStep HX3 hb; replace HX4 := oiStep HX4 hb; replace HX5 := oiStep HX5 hb; replace HX6 := oiStep HX6 hb; clear hb)
    clear hHeld
    refine hK.out _ _ ?_ (fun hHeld => ?_)
    · exact ⟨HK.out.lb.cell2.c0, HK.out.lb.cell2.c1⟩
    clear hK K
    try simp only [Act.put, List.getElem_toArray, List.getElem_cons_zero, List.getElem_cons_succ, List.setIfInBounds_toArray, List.set_cons_zero, List.set_cons_succ]
    refine wpAnyH_ready (rs := [61]) (by kernel_rfl) (by simp) ?_
    refine AllReadyH.cons rfl (fun K hK => ?_) AllReadyH.nil
    simp only [List.getElem_toArray, List.getElem_cons_zero, List.getElem_cons_succ]
    go_simp
    (go_at_call 16; (have h0 := sIsLadder_any W P np cp zs _ HK.out.oi.ri hnp2); (with_reducible refine h0.mono ?_); clear h0; rw [← HQ.out]; rintro e wa ⟨rfl, hb⟩; replace HK := KB.step HK hb; replace HX1 := oiStep HX1 hb; replace HX2 := oiStep HX2 hb; replace HX3 := oiStep HX3 hb; replace HX4 := oiStep HX4 hb; replace HX5 := oiStep HX5 hb; replace HX6 := oiStep HX6 hb; clear hb)
    clear hHeld
    refine hK.out _ _ ?_ (fun hHeld => ?_)
    · exact ⟨HK.out.lb.cell2.c0, HK.out.lb.cell2.c1⟩
    clear hK K
    try simp only [Act.put, List.getElem_toArray, List.getElem_cons_zero, List.getElem_cons_succ, List.setIfInBounds_toArray, List.set_cons_zero, List.set_cons_succ]
    refine wpAnyH_take (i := 62) (v := ?_) rfl (by kernel_rfl) (by kernel_rfl) (by kernel_rfl) (fun _ _ _ h => h) (Or.inl ⟨by kernel_rfl, ?_⟩) hHeld ?_
    rotate_left
    · (intro w hSw; (try dsimp only at hSw); (first | (go_simp; done) | (go_simp; with_reducible rfl)))
    try simp only [Act.put, List.getElem_toArray, List.getElem_cons_zero, List.getElem_cons_succ, List.setIfInBounds_toArray, List.set_cons_zero, List.set_cons_succ]
    refine wpAnyH_take (i := 63) (v := ?_) rfl (by kernel_rfl) (by kernel_rfl) (by kernel_rfl) (fun _ _ _ h => h) (Or.inl ⟨by kernel_rfl, ?_⟩) hHeld ?_
    rotate_left
    · (intro w hSw; (try dsimp only at hSw); (first | (go_simp; done) | (go_simp; with_reducible rfl)))
    try simp only [Act.put, List.getElem_toArray, List.getElem_cons_zero, List.getElem_cons_succ, List.setIfInBounds_toArray, List.set_cons_zero, List.set_cons_succ]
    refine wpAnyH_take (i := 64) (v := ?_) rfl (by kernel_rfl) (by kernel_rfl) (by kernel_rfl) (fun _ _ _ h => h) (Or.inl ⟨by kernel_rfl, ?_⟩) hHeld ?_
    rotate_left
    · (intro w hSw; (try dsimp only at hSw); (first | (go_simp; done) | (go_simp; with_reducible rfl)))
    try simp only [Act.put, List.getElem_toArray, List.getElem_cons_zero, List.getElem_cons_succ, List.setIfInBounds_toArray, List.set_cons_zero, List.set_cons_succ]
    refine wpAnyH_take (i := 65) (v := ?_) rfl (by kernel_rfl) (by kernel_rfl) (by kernel_rfl) (fun _ _ _ h => h) (Or.inl ⟨by kernel_rfl, ?_⟩) hHeld ?_
    rotate_left
    · (intro w hSw; (try dsimp only at hSw); (first | (go_simp; done) | (go_simp; with_reducible rfl)))
    try simp only [Act.put, List.getElem_toArray, List.getElem_cons_zero, List.getElem_cons_succ, List.setIfInBounds_toArray, List.set_cons_zero, List.set_cons_succ]
    refine wpAnyH_take (i := 66) (v := ?_) rfl (by kernel_rfl) (by kernel_rfl) (by kernel_rfl) (fun _ _ _ h => h) (Or.inl ⟨by kernel_rfl, ?_⟩) hHeld ?_
    rotate_left
    · (intro w hSw; (try dsimp only at hSw); (first | (go_simp; done) | (go_simp; with_reducible rfl)))
    try simp only [Act.put, List.getElem_toArray, List.getElem_cons_zero, List.getElem_cons_succ, List.setIfInBounds_toArray, List.set_cons_zero, List.set_cons_succ]
    refine wpAnyH_take (i := 67) (v := undef) rfl (by kernel_rfl) (by kernel_rfl) (by kernel_rfl) (fun _ _ _ h => h) (Or.inr ⟨by kernel_rfl, rfl⟩) hHeld ?_
    try simp only [Act.put, List.getElem_toArray, List.getElem_cons_zero, List.getElem_cons_succ, List.setIfInBounds_toArray, List.set_cons_zero, List.set_cons_succ]
    refine wpAnyH_take (i := 68) (v := undef) rfl (by kernel_rfl) (by kernel_rfl) (by kernel_rfl) (fun _ _ _ h => h) (Or.inr ⟨by kernel_rfl, rfl⟩) hHeld ?_
    try simp only [Act.put, List.getElem_toArray, List.getElem_cons_zero, List.getElem_cons_succ, List.setIfInBounds_toArray, List.set_cons_zero, List.set_cons_succ]
    refine wpAnyH_take (i := 69) (v := ?_) rfl (by kernel_rfl) (by kernel_rfl) (by kernel_rfl) (fun _ _ _ h => h) (Or.inl ⟨by kernel_rfl, ?_⟩) hHeld ?_
    rotate_left
    · (intro w hSw; (try dsimp only at hSw); (first | (go_simp; done) | (go_simp; with_reducible rfl)))
    try simp only [Act.put, List.getElem_toArray, List.getElem_cons_zero, List.getElem_cons_succ, List.setIfInBounds_toArray, List.set_cons_zero, List.set_cons_succ]
    refine wpAnyH_take (i := 70) (v := ?_) rfl (by kernel_rfl) (by kernel_rfl) (by kernel_rfl) (fun _ _ _ h => h) (Or.inl ⟨by kernel_rfl, ?_⟩) hHeld ?_
    rotate_left
    · (intro w hSw; (try dsimp only at hSw); (first | (go_simp; done) | (go_simp; with_reducible rfl)))
    try simp only [Act.put, List.getElem_toArray, List.getElem_cons_zero, List.getElem_cons_succ, List.setIfInBounds_toArray, List.set_cons_zero, List.set_cons_succ]
    refine wpAnyH_done (by kernel_rfl) ?_ _
    go_wp2_with fail
    as_aux_lemma =>
      refine (drawBelowLadder_any A2 n2 c2 bs2 _ HK.out.bi hn2).mono ?_
      rintro e v1 ⟨W1, V1, us, ys, U, nu, cu, Y, ny, cy, rfl, hnu, hny, hu, hy, hb⟩
      have HB9 := Lib.hid HK.out.bel
      have HM9 := Lib.hid HK.out.bi
      obtain ⟨lc, hlc⟩ : ∃ lc, lc = v1.heap.size := ⟨_, rfl⟩
      obtain ⟨v2, hv2⟩ : ∃ v2, v2 = (v1.alloc (.cells #[.int .i64 W1, .slice U nu cu] 26)).alloc (.cells #[.int .i64 V1, .slice Y ny cy] 26) := ⟨_, rfl⟩
      have hBv : Below w.heap.size w v1 := HB9.out.trans (hb.mono HB9.out.size)
      have KX : Hid (KT w v2 A2 n2 bs2 lc W1 U nu cu us V1 Y ny cy ys) := by
        rw [hv2, hlc]
        exact ⟨(hBv.alloc hBv.size _).alloc (by have := hBv.size; simp; omega) _, ((HM9.out.below hb (Nat.le_refl _)).below (allocBel _ _) (Nat.le_refl _)).below (allocBel _ _) (Nat.le_refl _), (LB.new v1 _ _).alloc _, LB.new2 v1 _ _ _, ((hu.mono HB9.out.size).alloc _).alloc _, ((hy.mono HB9.out.size).alloc _).alloc _⟩
      have hnu2 : nu ≤ 1048576 := by omega
      have hny2 : ny ≤ 1048576 := by omega
      have hul := hu.ri.1
      have hyl := hy.ri.1
      clear hu hy hb HB9 HM9 hBv
      go_wp2_with fail
      rw [← hv2]
      try rw [← hlc]
      clear hv2 hlc
      have t0 := KX.out.la.cell2.c0; have t1 := KX.out.la.cell2.c1; have tz := KX.out.la.cell2.lt; have s0 := KX.out.lb.cell2.c0; have s1 := KX.out.lb.cell2.c1; have sz := KX.out.lb.cell2.lt
      refine (iBelowLadder_any W1 U nu cu us V1 Y ny cy ys _ KX.out.oa.ri hnu2 KX.out.ob.ri hny2).mono ?_
      rintro e v3 ⟨F, cf, rfl, ho, hb⟩
      have hb2 := bwN_len W1 V1 us ys
      obtain ⟨q7, hq7⟩ : ∃ q7, q7 = bwB W1 us V1 ys := ⟨_, rfl⟩
      rw [← hq7] at ho hb2 ⊢
      obtain ⟨W7, hW7⟩ : ∃ W7, W7 = ifW q7 W1 := ⟨_, rfl⟩
      obtain ⟨L7, hL7⟩ : ∃ L7, L7 = ifL q7 (us ++ ys) := ⟨_, rfl⟩
      obtain ⟨n7, hn7⟩ : ∃ n7, n7 = L7.length := ⟨_, rfl⟩
      rw [← hL7, ← hn7] at ho hb2
      rw [← hW7, ← hL7, ← hn7]
      have JF : Hid (LR w (v3.alloc (.cells #[.int .i64 W7, .slice F n7 cf] 26)) v3.heap.size W7 F n7 cf L7) := ⟨LB.new _ _ _, (ho.mono (KX.out.bel.size)).alloc _⟩
      replace KX := KT.step (KT.step KX hb) (allocBel _ (.cells #[.int .i64 W7, .slice F n7 cf] 26))
      have HQ7 := Lib.hid hq7
      have HW7 := Lib.hid hW7
      have HL7 := Lib.hid hL7
      have HN7 := Lib.hid hn7
      have hn72 : n7 ≤ 1048576 := by omega
      replace t0 := KX.out.la.cell2.c0; replace t1 := KX.out.la.cell2.c1; replace tz := KX.out.la.cell2.lt; replace s0 := KX.out.lb.cell2.c0; replace s1 := KX.out.lb.cell2.c1; replace sz := KX.out.lb.cell2.lt
      have f0 := JF.out.la.cell2.c0; have f1 := JF.out.la.cell2.c1; have fz := JF.out.la.cell2.lt
      clear ho hb hb2 hq7 hW7 hL7 hn7
      go_wp2_with fail
      refine (sBelowLadder_any W1 U nu cu us V1 Y ny cy ys _ KX.out.oa.ri hnu2 KX.out.ob.ri hny2).mono ?_
      rw [← HQ7.out, ← HW7.out, ← HL7.out, ← HN7.out]
      rintro e v5 ⟨G, cg, rfl, ho, hb⟩
      have JG : Hid (LR w (v5.alloc (.cells #[.int .i64 W7, .slice G n7 cg] 26)) v5.heap.size W7 G n7 cg L7) := ⟨LB.new _ _ _, (ho.mono (KX.out.bel.size)).alloc _⟩
      replace KX := KT.step (KT.step KX hb) (allocBel _ (.cells #[.int .i64 W7, .slice G n7 cg] 26))
      replace JF := LR.step (LR.step JF hb) (allocBel _ (.cells #[.int .i64 W7, .slice G n7 cg] 26))
      replace t0 := KX.out.la.cell2.c0; replace t1 := KX.out.la.cell2.c1; replace tz := KX.out.la.cell2.lt; replace s0 := KX.out.lb.cell2.c0; replace s1 := KX.out.lb.cell2.c1; replace sz := KX.out.lb.cell2.lt
      replace f0 := JF.out.la.cell2.c0; replace f1 := JF.out.la.cell2.c1; replace fz := JF.out.la.cell2.lt
      have g0 := JG.out.la.cell2.c0; have g1 := JG.out.la.cell2.c1; have gz := JG.out.la.cell2.lt
      clear ho hb
      have h77 : (q7 != q7) = false := by simp
      go_wp2_with fail
      refine (kLadder_any W7 F n7 cf L7 W7 G n7 cg L7 _ JF.out.oa.ri JG.out.oa.ri hn72 hn72).mono ?_
      rw [(eqSelf W7 L7).out]
      rintro e v6 ⟨rfl, hb⟩
      replace KX := KT.step KX hb
      replace JF := LR.step JF hb
      replace t0 := KX.out.la.cell2.c0; replace t1 := KX.out.la.cell2.c1; replace tz := KX.out.la.cell2.lt; replace s0 := KX.out.lb.cell2.c0; replace s1 := KX.out.lb.cell2.c1; replace sz := KX.out.lb.cell2.lt
      replace f0 := JF.out.la.cell2.c0; replace f1 := JF.out.la.cell2.c1; replace fz := JF.out.la.cell2.lt
      clear hb JG g0 g1 gz
      cases q7
      · as_aux_lemma =>
        go_wp2_with fail
        have hbi := KX.out.bi
        have hbel := KX.out.bel
        refine (drawMeetingsOf_any A2 n2 c2 bs2 _ hbi hn2).mono ?_
        rintro e v9 ⟨W9, ms, M, nm, cm, x9, y9, rfl, hnm, ho, hb⟩
        have HB9 : Hid (Below w.heap.size w (v9.alloc (.cells #[.int .i64 W9, .slice M nm cm] 26))) := (hbel.trans (hb.mono hbel.size)).alloc (hbel.trans (hb.mono hbel.size)).size _
        have HJ : Hid (LR w (v9.alloc (.cells #[.int .i64 W9, .slice M nm cm] 26)) v9.heap.size W9 M nm cm ms) := ⟨LB.new _ _ _, (ho.mono hbel.size).alloc _⟩
        have hnm2 : nm ≤ 1048576 := by omega
        have j0 := HJ.out.la.cell2.c0; have j1 := HJ.out.la.cell2.c1; have jz := HJ.out.la.cell2.lt
        obtain ⟨q9, hq9⟩ : ∃ q9, q9 = meetB W9 ms x9 y9 := ⟨_, rfl⟩
        obtain ⟨N9, hN9⟩ : ∃ N9, N9 = meetN W9 ms x9 y9 := ⟨_, rfl⟩
        have HQ9 := Lib.hid hq9
        have HN9 := Lib.hid hN9
        have h91 : (q9 == q9) = true := by simp
        have h92 : (N9 == N9) = true := by simp
        clear ho hb hbi hbel hq9 hN9
        go_wp2_with fail
        refine (iMeetingsOf_any W9 M nm cm ms x9 y9 _ HJ.out.oa.ri hnm2).mono ?_
        rw [← HQ9.out, ← HN9.out]
        rintro e va ⟨rfl, hb⟩
        replace HJ := LR.step HJ hb
        replace HB9 := belStep HB9 hb
        replace j0 := HJ.out.la.cell2.c0; replace j1 := HJ.out.la.cell2.c1; replace jz := HJ.out.la.cell2.lt
        clear hb
        go_wp2_with fail
        refine (sMeetingsOf_any W9 M nm cm ms x9 y9 _ HJ.out.oa.ri hnm2).mono ?_
        rw [← HQ9.out, ← HN9.out]
        rintro e vb ⟨rfl, hb⟩
        replace HB9 := belStep HB9 hb
        clear hb j0 j1 jz
        go_wp2
        go_ret
        exact ⟨rfl, HB9.out⟩
      · obtain ⟨z1, z2, z3, z4⟩ := bw_iff.1 HQ7.out.symm
        have z5 := then_below z1 (z3 ▸ z2) z4
        have eW : W7 = W1 := HW7.out
        have eL : L7 = us ++ ys := HL7.out
        have eN : n7 = nu + ny := by rw [HN7.out, eL, List.length_append]; omega
        have HLD7 : Hid (lad W7 L7 = true) := by show _ = true; rw [eW, eL]; exact z4
        obtain ⟨Lr, hLr⟩ : ∃ Lr, Lr = resN W7 L7 := ⟨_, rfl⟩
        obtain ⟨nr, hnr⟩ : ∃ nr, nr = Lr.length := ⟨_, rfl⟩
        have bnr : nr ≤ 1000 := by rw [hnr, hLr]; exact resN_len W7 L7
        have HTB : Hid (thenB (resN W1 us) (resN V1 ys) = true) := by show _ = true; rw [← z3]; exact z5.1
        have HTN : Hid (thenN (resN W1 us) (resN V1 ys) = Lr) := by show _ = Lr; rw [hLr, ← z3, z5.2, eW, eL]
        have HLr := Lib.hid hLr
        have HNr := Lib.hid hnr
        have hlen : ((n7 : Int) != (nu : Int) + (ny : Int)) = false := by rw [eN]; simp
        have bra := resN_len W1 us
        have brb := resN_len V1 ys
        clear z1 z2 z3 z4 z5 eW eL eN hLr hnr HQ7 HW7 HL7 HN7
        go_wp2_with fail
        refine (iResultOf_any W7 F n7 cf L7 _ JF.out.oa.ri hn72).mono ?_
        rw [HLD7.out, ← HLr.out, ← HNr.out]
        rintro e v7 ⟨R, cr, rfl, ho, hb⟩
        have HR := Lib.hid ho
        replace KX := KT.step KX hb
        replace JF := LR.step JF hb
        clear ho hb t0 t1 tz s0 s1 sz f0 f1 fz
        go_wp2_with fail
        have hb := drewBel v7
        replace KX := KT.step KX hb
        replace JF := LR.step JF hb
        replace HR := oiStep HR hb
        clear hb
        first
          | (go_region_held3 (fun w' => w'.cell? ⟨lc, 0, none⟩ = some (.int .i64 W1) ∧ w'.cell? ⟨lc, 1, none⟩ = some (.slice U nu cu) ∧ w'.cell? ⟨lc + 1, 0, none⟩ = some (.int .i64 V1) ∧ w'.cell? ⟨lc + 1, 1, none⟩ = some (.slice Y ny cy))
              (exact ⟨KX.out.la.cell2.c0, KX.out.la.cell2.c1, KX.out.lb.cell2.c0, KX.out.lb.cell2.c1⟩)
              (first
                | (go_at_call 25; (have h0 := kResult_any W1 U nu cu us _ KX.out.oa.ri hnu2); (with_reducible refine h0.mono ?_); clear h0; rintro e wk ⟨Ra, ca, rfl, oa, hb⟩; have HRa := Lib.hid oa; replace KX := KT.step KX hb; replace JF := LR.step JF hb; replace HR := oiStep HR hb; (first | (replace HRb := oiStep HRb hb) | skip); clear hb oa)
                | (go_at_call 25; (have h0 := kResult_any V1 Y ny cy ys _ KX.out.ob.ri hny2); (with_reducible refine h0.mono ?_); clear h0; rintro e wl ⟨Rb, cb, rfl, ob, hb⟩; have HRb := Lib.hid ob; replace KX := KT.step KX hb; replace JF := LR.step JF hb; replace HR := oiStep HR hb; (first | (replace HRa := oiStep HRa hb) | skip); clear hb ob)
                | (go_at_call 24; (have h0 := iThenOrder_any Ra (resN W1 us).length ca (resN W1 us) Rb (resN V1 ys).length cb (resN V1 ys) _ HRa.out.ri (by omega) HRa.out.le HRb.out.ri (by omega) HRb.out.le); (with_reducible refine h0.mono ?_); clear h0; rw [HTB.out, HTN.out, ← HNr.out]; rintro e wm ⟨D, cd, rfl, od, hb⟩; have HD := Lib.hid od; replace KX := KT.step KX hb; replace JF := LR.step JF hb; replace HR := oiStep HR hb; clear hb od HRa HRb)
                | fail))
          | fail
        all_goals
          have t0 := KX.out.la.cell2.c0; have t1 := KX.out.la.cell2.c1; have tz := KX.out.la.cell2.lt; have s0 := KX.out.lb.cell2.c0; have s1 := KX.out.lb.cell2.c1; have sz := KX.out.lb.cell2.lt
          have f0 := JF.out.la.cell2.c0; have f1 := JF.out.la.cell2.c1; have fz := JF.out.la.cell2.lt
          go_wp2_with (go_at_call 14; refine (kSame_any R nr cr Lr D nr cd Lr _ HR.out.ri HD.out.ri (by omega) (by omega)).mono ?_; rw [eqB_self]; rintro e vn ⟨rfl, hb⟩; replace KX := KT.step KX hb; replace JF := LR.step JF hb; replace t0 := KX.out.la.cell2.c0; replace t1 := KX.out.la.cell2.c1; replace tz := KX.out.la.cell2.lt; replace s0 := KX.out.lb.cell2.c0; replace s1 := KX.out.lb.cell2.c1; replace sz := KX.out.lb.cell2.lt; replace f0 := JF.out.la.cell2.c0; replace f1 := JF.out.la.cell2.c1; replace fz := JF.out.la.cell2.lt; clear hb HR HD)
          have hbi := KX.out.bi
          have hbel := KX.out.bel
          refine (drawMeetingsOf_any A2 n2 c2 bs2 _ hbi hn2).mono ?_
          rintro e v9 ⟨W9, ms, M, nm, cm, x9, y9, rfl, hnm, ho, hb⟩
          have HB9 : Hid (Below w.heap.size w (v9.alloc (.cells #[.int .i64 W9, .slice M nm cm] 26))) := (hbel.trans (hb.mono hbel.size)).alloc (hbel.trans (hb.mono hbel.size)).size _
          have HJ : Hid (LR w (v9.alloc (.cells #[.int .i64 W9, .slice M nm cm] 26)) v9.heap.size W9 M nm cm ms) := ⟨LB.new _ _ _, (ho.mono hbel.size).alloc _⟩
          have hnm2 : nm ≤ 1048576 := by omega
          have j0 := HJ.out.la.cell2.c0; have j1 := HJ.out.la.cell2.c1; have jz := HJ.out.la.cell2.lt
          obtain ⟨q9, hq9⟩ : ∃ q9, q9 = meetB W9 ms x9 y9 := ⟨_, rfl⟩
          obtain ⟨N9, hN9⟩ : ∃ N9, N9 = meetN W9 ms x9 y9 := ⟨_, rfl⟩
          have HQ9 := Lib.hid hq9
          have HN9 := Lib.hid hN9
          have h91 : (q9 == q9) = true := by simp
          have h92 : (N9 == N9) = true := by simp
          clear ho hb hbi hbel hq9 hN9
          go_wp2_with fail
          refine (iMeetingsOf_any W9 M nm cm ms x9 y9 _ HJ.out.oa.ri hnm2).mono ?_
          rw [← HQ9.out, ← HN9.out]
          rintro e va ⟨rfl, hb⟩
          replace HJ := LR.step HJ hb
          replace HB9 := belStep HB9 hb
          replace j0 := HJ.out.la.cell2.c0; replace j1 := HJ.out.la.cell2.c1; replace jz := HJ.out.la.cell2.lt
          clear hb
          go_wp2_with fail
          refine (sMeetingsOf_any W9 M nm cm ms x9 y9 _ HJ.out.oa.ri hnm2).mono ?_
          rw [← HQ9.out, ← HN9.out]
          rintro e vb ⟨rfl, hb⟩
          replace HB9 := belStep HB9 hb
          clear hb j0 j1 jz
          go_wp2
          go_ret
          exact ⟨rfl, HB9.out⟩
  · as_aux_lemma =>
    have hw : wire W zs v = true := HWQ.out.symm
    obtain ⟨hlad, v0, vW⟩ := wire_iff.1 hw
    obtain rfl : q = true := by rw [HQ.out]; exact hlad
    have hWb := (lad_iff.1 hlad).1
    obtain ⟨N, rfl⟩ : ∃ N : Nat, W = N := ⟨W.toNat, by omega⟩
    obtain ⟨sv, rfl⟩ : ∃ sv : Nat, v = sv := ⟨v.toNat, by omega⟩
    have eL2 : L2 = down zs sv := by rw [HL2.out]; exact wayN_yes hw
    have eL4 : L4 = used zs sv zs.length := by rw [HL4.out]; exact usedN_yes hw
    have eL6 : L6 = res zs N := by rw [HL6.out, resN_yes hlad, Int.toNat_natCast]
    have eE2' : E2 = endOf zs sv := by rw [HE2.out]; exact endN_yes hw
    obtain rfl : n2b = np + 1 := by rw [Hn2b.out, ← HL2.out, eL2, down_length, hzl]
    obtain rfl : n6 = N := by rw [Hn6.out, ← HL6.out, eL6, res_length]
    have hN8 : n6 ≤ 8 := by omega
    have hsN : sv < n6 := by omega
    have HZB : Hid (∀ j, j < zs.length → 0 ≤ gi zs j ∧ gi zs j ≤ (n6 : Int) - 2) := fun j hj => lad_at hlad hj
    have HG2 : Hid (∀ j, j ≤ np → gi L2 j = at_ zs sv j) := fun j hj => by rw [eL2, gi_down _ _ _ (by omega)]
    have HG0 : Hid (gi L2 0 = (sv : Int)) := by show gi L2 0 = _; rw [eL2, gi_down _ _ _ (by omega), at_zero]
    have HGN : Hid (gi L2 np = E2) := by show gi L2 np = _; rw [eL2, eE2', ← hzl, gi_end]
    have HGR : Hid (gi L6 sv = E2) := by show gi L6 sv = _; rw [eL6, eE2', gi_res _ _ _ hsN]
    have HU4 : Hid (L4 = used zs sv zs.length) := eL4
    have HOR : Hid (ord L6 = true) := by show ord L6 = true; rw [eL6]; exact res_ordG hlad
    have HN4 : Hid (n4 = (used zs sv zs.length).length) := by show n4 = _; rw [Hn4.out, ← HL4.out, eL4]
    have HWI : Hid (∀ k : Nat, k < n6 → (k : Int) ≠ sv → meetB (n6 : Int) zs sv k = true ∧ meetB (n6 : Int) zs k sv = true) := fun k hk hne => by
      have hwk : wire (n6 : Int) zs (k : Int) = true := wire_iff.2 ⟨hlad, by omega, by omega⟩
      unfold meetB
      rw [hw, hwk]
      constructor
      · have : ((sv : Int) == (k : Int)) = false := by simp; omega
        rw [this]; rfl
      · have : ((k : Int) == (sv : Int)) = false := by simp; omega
        rw [this]; rfl
    obtain ⟨g1, e1⟩ : ∃ g, X1 = some ⟨g, 0, none⟩ := by
      have h3 := HX1.out
      obtain ⟨g, e, _⟩ := h3.some_
      exact ⟨g, e⟩
    subst e1
    obtain ⟨g5, e5⟩ : ∃ g, X5 = some ⟨g, 0, none⟩ := by
      have h3 := HX5.out
      rw [show n6 = (n6 - 1) + 1 by omega] at h3
      obtain ⟨g, e, _⟩ := h3.some_
      exact ⟨g, e⟩
    subst e5
    clear Hn2b HL2 HE2 Hn4 HL4 Hn6 HL6 HWQ HBIG hw hlad hWb eL2 eL4 eL6 eE2' v0 vW
    go_wp2_with fail
    have hb := drewBel wx
    replace HK := KB.step HK hb; replace HX1 := oiStep HX1 hb; replace HX2 := oiStep HX2 hb; replace HX3 := oiStep HX3 hb; replace HX4 := oiStep HX4 hb; replace HX5 := oiStep HX5 hb; replace HX6 := oiStep HX6 hb; replace l0 := HK.out.lb.cell2.c0; replace l1 := HK.out.lb.cell2.c1; replace lz := HK.out.lb.cell2.lt; clear hb
    clear l0 l1 lz
    simp only [List.append_eq, List.cons_append, List.nil_append]
    first
      | (go_region_held3 (fun w' => w'.cell? ⟨la, 0, none⟩ = some (.int .i64 (n6 : Int)) ∧ w'.cell? ⟨la, 1, none⟩ = some (.slice P np cp))
      (exact ⟨HK.out.lb.cell2.c0, HK.out.lb.cell2.c1⟩)
      (first
      | (go_at_call 14; (have h0 := kSame_any (some ⟨g1, 0, none⟩) (np + 1) d1 L2 X2 (np + 1) d2 L2 _ HX1.out.ri HX2.out.ri b1 b1); (with_reducible refine h0.mono ?_); clear h0; rw [eqB_self]; rintro e wa ⟨rfl, hb⟩; replace HK := KB.step HK hb; replace HX1 := oiStep HX1 hb; replace HX2 := oiStep HX2 hb; replace HX3 := oiStep HX3 hb; replace HX4 := oiStep HX4 hb; replace HX5 := oiStep HX5 hb; replace HX6 := oiStep HX6 hb; clear hb)
      | (go_at_call 14; (have h0 := kSame_any X3 n4 d3 L4 X4 n4 d4 L4 _ HX3.out.ri HX4.out.ri b3 b3); (with_reducible refine h0.mono ?_); clear h0; rw [eqB_self]; rintro e wa ⟨rfl, hb⟩; replace HK := KB.step HK hb; replace HX1 := oiStep HX1 hb; replace HX2 := oiStep HX2 hb; replace HX3 := oiStep HX3 hb; replace HX4 := oiStep HX4 hb; replace HX5 := oiStep HX5 hb; replace HX6 := oiStep HX6 hb; clear hb)
      | (go_at_call 14; (have h0 := kSame_any (some ⟨g5, 0, none⟩) n6 d5 L6 X6 n6 d6 L6 _ HX5.out.ri HX6.out.ri b5 b5); (with_reducible refine h0.mono ?_); clear h0; rw [eqB_self]; rintro e wa ⟨rfl, hb⟩; replace HK := KB.step HK hb; replace HX1 := oiStep HX1 hb; replace HX2 := oiStep HX2 hb; replace HX3 := oiStep HX3 hb; replace HX4 := oiStep HX4 hb; replace HX5 := oiStep HX5 hb; replace HX6 := oiStep HX6 hb; clear hb)
      | (go_at_call 15; (have h0 := iIsLadder_any (n6 : Int) P np cp zs _ HK.out.oi.ri hnp2); (with_reducible refine h0.mono ?_); clear h0; rw [← HQ.out]; rintro e wa ⟨rfl, hb⟩; replace HK := KB.step HK hb; replace HX1 := oiStep HX1 hb; replace HX2 := oiStep HX2 hb; replace HX3 := oiStep HX3 hb; replace HX4 := oiStep HX4 hb; replace HX5 := oiStep HX5 hb; replace HX6 := oiStep HX6 hb; clear hb)
      | (go_at_call 16; (have h0 := sIsLadder_any (n6 : Int) P np cp zs _ HK.out.oi.ri hnp2); (with_reducible refine h0.mono ?_); clear h0; rw [← HQ.out]; rintro e wa ⟨rfl, hb⟩; replace HK := KB.step HK hb; replace HX1 := oiStep HX1 hb; replace HX2 := oiStep HX2 hb; replace HX3 := oiStep HX3 hb; replace HX4 := oiStep HX4 hb; replace HX5 := oiStep HX5 hb; replace HX6 := oiStep HX6 hb; clear hb)))
      | fail
    have l0 := HK.out.lb.cell2.c0; have l1 := HK.out.lb.cell2.c1; have lz := HK.out.lb.cell2.lt
    have k0 := HX1.out.cells 0 (by omega); have kN := HX1.out.cells np (by omega); have kR := HX5.out.cells sv hsN
    rw [HG0.out] at k0
    rw [HGN.out] at kN
    rw [HGR.out] at kR
    have i0 : (sv : Int) < (n6 : Int) := by omega
    have i1 : (((np + 1 : Nat) : Int) != (np : Int) + 1) = false := by simp
    have i2 : (np : Int) < ((np + 1 : Nat) : Int) := by omega
    go_wp2_with fail
    clear k0 kN kR i1 i2
    go_loopw [210] (fun i wr => ∃ k : Nat, k ≤ np ∧ i = .int .i64 (k : Int) ∧ Below wa.heap.size wa wr) (fun i _ => np - (intOf i).toNat)
    case atStart => exact ⟨0, Nat.zero_le _, rfl, Below.refl _ _⟩
    case round =>
      obtain ⟨k, hk, rfl, hbk⟩ := hrel
      have HBK := Lib.hid hbk
      clear hbk l0 l1 lz
      by_cases hlt : k < np
      · have hb := HBK.out
        have HKk := KB.step HK hb
        have HX1k := oiStep HX1 hb
        have HX3k := oiStep HX3 hb
        clear hb
        obtain ⟨gp, ep⟩ : ∃ g, P = some ⟨g, 0, none⟩ := by
          have h3 := HKk.out.oi
          rw [show np = (np - 1) + 1 by omega] at h3
          obtain ⟨g, e, _⟩ := h3.some_
          exact ⟨g, e⟩
        subst ep
        have c0 := HKk.out.oi.cells k hlt
        have c1 := HX1k.out.cells k (by omega)
        have c2 := HX1k.out.cells (k + 1) (by omega)
        have hs := way_step (zs := zs) (s := (sv : Int)) (k := k) (by omega)
        have hb0 := HZB.out k (by omega)
        have hb1 := at_le (W := (n6 : Int)) HZB.out (s := (sv : Int)) (by omega) k (by omega)
        have hb2 := at_le (W := (n6 : Int)) HZB.out (s := (sv : Int)) (by omega) (k + 1) (by omega)
        rw [← HG2.out k (by omega), ← HG2.out (k + 1) (by omega), ← HU4.out] at hs
        rw [← HG2.out k (by omega)] at hb1
        rw [← HG2.out (k + 1) (by omega)] at hb2
        obtain ⟨r, hr⟩ : ∃ r, r = gi zs k := ⟨_, rfl⟩
        obtain ⟨a, ha⟩ : ∃ a, a = gi L2 k := ⟨_, rfl⟩
        obtain ⟨a1, ha1⟩ : ∃ a1, a1 = gi L2 (k + 1) := ⟨_, rfl⟩
        rw [← hr, ← ha, ← ha1] at hs
        rw [← hr] at hb0 c0
        rw [← ha] at hb1 c1
        rw [← ha1] at hb2 c2
        have r0 : 0 ≤ r := hb0.1
        have r9 : r ≤ 100 := by omega
        have a0 : 0 ≤ a := hb1.1
        have a9 : a ≤ 100 := by omega
        have b0 : 0 ≤ a1 := hb2.1
        have b9 : a1 ≤ 100 := by omega
        have i1 : (k : Int) < (np : Int) := by omega
        have i2 : (k : Int) < ((np + 1 : Nat) : Int) := by omega
        have i3 : (k : Int) + 1 < ((np + 1 : Nat) : Int) := by omega
        have i4 : ((k : Int) + 1).toNat = k + 1 := by omega
        have HKH : ∀ bb : Bool, decide ((k : Int) ∈ L4) = bb → Hid (∀ w2 : World, RI w2 X3 n4 L4 → Calls Try.prog 17 #[.slice X3 n4 d3, .int .i64 (k : Int)] w2 (fun e w' => e = .returned (.bool bb) ∧ w' = w2)) := fun bb hbb w2 h2 => by
          have h3 := kHas_any X3 n4 d3 L4 (k : Int) w2 h2 b3
          rw [hbb] at h3
          exact h3
        clear hr ha ha1 hb0 hb1 hb2
        by_cases h1 : a = r ∨ a = r + 1
        · have HKT := HKH true (decide_eq_true (hs.1.1 h1))
          have hsum : (a + a1 != 2 * r + 1) = false := by have := hs.2.1 h1; simp; omega
          by_cases h2 : a = r
          · have e1 : (a == r) = true := by simp [h2]
            clear h1 h2 hs HKH
            go_wp2
            go_quiet (first | (go_at_call 17; exact Calls.quiet_of_same (HKT.out _ (by first | exact HX3k.out.ri | exact (HX3k.out.drewN _).ri))))
            go_wp2
            exact ⟨⟨k + 1, by omega, by go_num, by first | exact below_drewN HBK.out _ | exact HBK.out⟩, by simp [intOf] <;> omega⟩
          · have e1 : (a == r) = false := by simp [h2]
            have e2 : (a == r + 1) = true := by simp; omega
            clear h1 h2 hs HKH
            go_wp2
            go_quiet (first | (go_at_call 17; exact Calls.quiet_of_same (HKT.out _ (by first | exact HX3k.out.ri | exact (HX3k.out.drewN _).ri))))
            go_wp2
            exact ⟨⟨k + 1, by omega, by go_num, by first | exact below_drewN HBK.out _ | exact HBK.out⟩, by simp [intOf] <;> omega⟩
        · have HKT := HKH false (decide_eq_false (fun h => h1 (hs.1.2 h)))
          have e1 : (a == r) = false := by simp; omega
          have e2 : (a == r + 1) = false := by simp; omega
          have e3 : (a != a1) = false := by have := hs.2.2 h1; simp; omega
          clear h1 hs HKH
          go_wp2
          go_quiet (first | (go_at_call 17; exact Calls.quiet_of_same (HKT.out _ (by first | exact HX3k.out.ri | exact (HX3k.out.drewN _).ri))))
          go_wp2
          exact ⟨⟨k + 1, by omega, by go_num, by first | exact below_drewN HBK.out _ | exact HBK.out⟩, by simp [intOf] <;> omega⟩
      · obtain rfl : k = np := by omega
        have hb := HBK.out
        have HKe := KB.step HK hb
        have HX3e := oiStep HX3 hb
        have HX5e := oiStep HX5 hb
        clear hb HBK HK HX1 HX2 HX3 HX4 HX5 HX6 HG2 HG0 HGN HGR HU4
        have l0 := HKe.out.lb.cell2.c0; have l1 := HKe.out.lb.cell2.c1; have lz := HKe.out.lb.cell2.lt
        go_wp2
        go_loopw [26, 27] (fun m i w' => ∃ j : Nat, j ≤ n6 ∧ i = .int .i64 (j : Int) ∧ m = .int .i64 (meetSum zs (sv : Int) k j) ∧ Below wr.heap.size wr w') (fun _ i _ => n6 - (intOf i).toNat)
        case atStart => exact ⟨0, Nat.zero_le _, rfl, rfl, Below.refl _ _⟩
        case round =>
          obtain ⟨j, hj, rfl, rfl, hbj⟩ := hrel
          have HBJ := Lib.hid hbj
          have HKj := KB.step HKe hbj
          clear hbj l0 l1 lz
          have l0 := HKj.out.lb.cell2.c0; have l1 := HKj.out.lb.cell2.c1; have lz := HKj.out.lb.cell2.lt
          have hSb := meetSum_le zs (sv : Int) k j
          have hSb2 : (k : Int) * (j : Int) ≤ 61 * 8 := Int.mul_le_mul (by omega) (by omega) (by omega) (by omega)
          obtain ⟨S, hS⟩ : ∃ S, S = meetSum zs (sv : Int) k j := ⟨_, rfl⟩
          rw [← hS] at hSb ⊢
          have s0 : 0 ≤ S := hSb.1
          have s9 : S ≤ 488 := by omega
          have HS := Lib.hid hS
          clear hSb hSb2 hS
          by_cases hlt2 : j < n6
          · by_cases hne : (j : Int) = sv
            · have hm : S = meetSum zs (sv : Int) k (j + 1) := by rw [HS.out]; simp only [meetSum]; rw [if_pos hne]; omega
              have HM := Lib.hid hm
              have e1 : ((j : Int) != (sv : Int)) = false := by simp [hne]
              clear hm hne
              go_wp2
              exact ⟨⟨j + 1, by omega, by go_num, by rw [HM.out], HBJ.out⟩, by simp [intOf] <;> omega⟩
            · have hw2 := HWI.out j hlt2 hne
              obtain ⟨M, hM⟩ : ∃ M, M = meets zs (sv : Int) (j : Int) k := ⟨_, rfl⟩
              have hMb := meets_le zs (sv : Int) (j : Int) k
              rw [← hM] at hMb
              have m0 : 0 ≤ M := hMb.1
              have m9 : M ≤ 100 := by omega
              have HN1 : Hid (meetN (n6 : Int) zs (sv : Int) (j : Int) = M) := by show _ = M; rw [meetN_yes hw2.1, hM, hzl]
              have HN2 : Hid (meetN (n6 : Int) zs (j : Int) (sv : Int) = M) := by show _ = M; rw [meetN_yes hw2.2, hM, hzl, meets_symm]
              have HW1 : Hid (meetB (n6 : Int) zs (sv : Int) (j : Int) = true) := hw2.1
              have HW2 : Hid (meetB (n6 : Int) zs (j : Int) (sv : Int) = true) := hw2.2
              have hm : S + M = meetSum zs (sv : Int) k (j + 1) := by rw [HS.out, hM]; simp only [meetSum]; rw [if_neg hne]
              have HM := Lib.hid hm
              have e1 : ((j : Int) != (sv : Int)) = true := by simp [hne]
              have e9 : (M != M) = false := by simp
              clear hm hne hM hMb hw2
              go_wp2_with fail
              refine (iMeetingsOf_any (n6 : Int) P k cp zs (sv : Int) (j : Int) _ HKj.out.oi.ri hnp2).mono ?_
              rw [HN1.out, HW1.out]
              rintro e wc ⟨rfl, hb⟩
              replace HKj := KB.step HKj hb
              replace HBJ := Lib.hid (HBJ.out.trans (hb.mono HBJ.out.size))
              replace l0 := HKj.out.lb.cell2.c0; replace l1 := HKj.out.lb.cell2.c1; replace lz := HKj.out.lb.cell2.lt
              clear hb
              go_wp2_with fail
              refine (iMeetingsOf_any (n6 : Int) P k cp zs (j : Int) (sv : Int) _ HKj.out.oi.ri hnp2).mono ?_
              rw [HN2.out, HW2.out]
              rintro e wd ⟨rfl, hb⟩
              replace HKj := KB.step HKj hb
              replace HBJ := Lib.hid (HBJ.out.trans (hb.mono HBJ.out.size))
              replace l0 := HKj.out.lb.cell2.c0; replace l1 := HKj.out.lb.cell2.c1; replace lz := HKj.out.lb.cell2.lt
              clear hb
              go_wp2
              exact ⟨⟨j + 1, by omega, by go_num, by rw [HM.out], HBJ.out⟩, by simp [intOf] <;> omega⟩
          · obtain rfl : j = n6 := by omega
            have hS4 : (S != (n4 : Int)) = false := by
              rw [HS.out, HN4.out, hzl, meetSum_used HZB.out (by omega) k (by omega)]
              simp
            have HX5j := oiStep HX5e HBJ.out
            clear HX5e
            go_wp2_with (go_at_call 19; refine (iIsOrder_any (some ⟨g5, 0, none⟩) j d5 L6 _ HX5j.out.ri (by omega)).mono ?_; rw [HOR.out]; rintro e we ⟨rfl, hb⟩; replace HKj := KB.step HKj hb; replace l0 := HKj.out.lb.cell2.c0; replace l1 := HKj.out.lb.cell2.c1; replace lz := HKj.out.lb.cell2.lt; clear hb)
            as_aux_lemma =>
              refine (drawBelowLadder_any A2 n2 c2 bs2 _ HKj.out.bi hn2).mono ?_
              rintro e v1 ⟨W1, V1, us, ys, U, nu, cu, Y, ny, cy, rfl, hnu, hny, hu, hy, hb⟩
              have HB9 := Lib.hid HKj.out.bel
              have HM9 := Lib.hid HKj.out.bi
              obtain ⟨lc, hlc⟩ : ∃ lc, lc = v1.heap.size := ⟨_, rfl⟩
              obtain ⟨v2, hv2⟩ : ∃ v2, v2 = (v1.alloc (.cells #[.int .i64 W1, .slice U nu cu] 26)).alloc (.cells #[.int .i64 V1, .slice Y ny cy] 26) := ⟨_, rfl⟩
              have hBv : Below w.heap.size w v1 := HB9.out.trans (hb.mono HB9.out.size)
              have KX : Hid (KT w v2 A2 n2 bs2 lc W1 U nu cu us V1 Y ny cy ys) := by
                rw [hv2, hlc]
                exact ⟨(hBv.alloc hBv.size _).alloc (by have := hBv.size; simp; omega) _, ((HM9.out.below hb (Nat.le_refl _)).below (allocBel _ _) (Nat.le_refl _)).below (allocBel _ _) (Nat.le_refl _), (LB.new v1 _ _).alloc _, LB.new2 v1 _ _ _, ((hu.mono HB9.out.size).alloc _).alloc _, ((hy.mono HB9.out.size).alloc _).alloc _⟩
              have hnu2 : nu ≤ 1048576 := by omega
              have hny2 : ny ≤ 1048576 := by omega
              have hul := hu.ri.1
              have hyl := hy.ri.1
              clear hu hy hb HB9 HM9 hBv
              go_wp2_with fail
              rw [← hv2]
              try rw [← hlc]
              clear hv2 hlc
              have t0 := KX.out.la.cell2.c0; have t1 := KX.out.la.cell2.c1; have tz := KX.out.la.cell2.lt; have s0 := KX.out.lb.cell2.c0; have s1 := KX.out.lb.cell2.c1; have sz := KX.out.lb.cell2.lt
              refine (iBelowLadder_any W1 U nu cu us V1 Y ny cy ys _ KX.out.oa.ri hnu2 KX.out.ob.ri hny2).mono ?_
              rintro e v3 ⟨F, cf, rfl, ho, hb⟩
              have hb2 := bwN_len W1 V1 us ys
              obtain ⟨q7, hq7⟩ : ∃ q7, q7 = bwB W1 us V1 ys := ⟨_, rfl⟩
              rw [← hq7] at ho hb2 ⊢
              obtain ⟨W7, hW7⟩ : ∃ W7, W7 = ifW q7 W1 := ⟨_, rfl⟩
              obtain ⟨L7, hL7⟩ : ∃ L7, L7 = ifL q7 (us ++ ys) := ⟨_, rfl⟩
              obtain ⟨n7, hn7⟩ : ∃ n7, n7 = L7.length := ⟨_, rfl⟩
              rw [← hL7, ← hn7] at ho hb2
              rw [← hW7, ← hL7, ← hn7]
              have JF : Hid (LR w (v3.alloc (.cells #[.int .i64 W7, .slice F n7 cf] 26)) v3.heap.size W7 F n7 cf L7) := ⟨LB.new _ _ _, (ho.mono (KX.out.bel.size)).alloc _⟩
              replace KX := KT.step (KT.step KX hb) (allocBel _ (.cells #[.int .i64 W7, .slice F n7 cf] 26))
              have HQ7 := Lib.hid hq7
              have HW7 := Lib.hid hW7
              have HL7 := Lib.hid hL7
              have HN7 := Lib.hid hn7
              have hn72 : n7 ≤ 1048576 := by omega
              replace t0 := KX.out.la.cell2.c0; replace t1 := KX.out.la.cell2.c1; replace tz := KX.out.la.cell2.lt; replace s0 := KX.out.lb.cell2.c0; replace s1 := KX.out.lb.cell2.c1; replace sz := KX.out.lb.cell2.lt
              have f0 := JF.out.la.cell2.c0; have f1 := JF.out.la.cell2.c1; have fz := JF.out.la.cell2.lt
              clear ho hb hb2 hq7 hW7 hL7 hn7
              go_wp2_with fail
              refine (sBelowLadder_any W1 U nu cu us V1 Y ny cy ys _ KX.out.oa.ri hnu2 KX.out.ob.ri hny2).mono ?_
              rw [← HQ7.out, ← HW7.out, ← HL7.out, ← HN7.out]
              rintro e v5 ⟨G, cg, rfl, ho, hb⟩
              have JG : Hid (LR w (v5.alloc (.cells #[.int .i64 W7, .slice G n7 cg] 26)) v5.heap.size W7 G n7 cg L7) := ⟨LB.new _ _ _, (ho.mono (KX.out.bel.size)).alloc _⟩
              replace KX := KT.step (KT.step KX hb) (allocBel _ (.cells #[.int .i64 W7, .slice G n7 cg] 26))
              replace JF := LR.step (LR.step JF hb) (allocBel _ (.cells #[.int .i64 W7, .slice G n7 cg] 26))
              replace t0 := KX.out.la.cell2.c0; replace t1 := KX.out.la.cell2.c1; replace tz := KX.out.la.cell2.lt; replace s0 := KX.out.lb.cell2.c0; replace s1 := KX.out.lb.cell2.c1; replace sz := KX.out.lb.cell2.lt
              replace f0 := JF.out.la.cell2.c0; replace f1 := JF.out.la.cell2.c1; replace fz := JF.out.la.cell2.lt
              have g0 := JG.out.la.cell2.c0; have g1 := JG.out.la.cell2.c1; have gz := JG.out.la.cell2.lt
              clear ho hb
              have h77 : (q7 != q7) = false := by simp
              go_wp2_with fail
              refine (kLadder_any W7 F n7 cf L7 W7 G n7 cg L7 _ JF.out.oa.ri JG.out.oa.ri hn72 hn72).mono ?_
              rw [(eqSelf W7 L7).out]
              rintro e v6 ⟨rfl, hb⟩
              replace KX := KT.step KX hb
              replace JF := LR.step JF hb
              replace t0 := KX.out.la.cell2.c0; replace t1 := KX.out.la.cell2.c1; replace tz := KX.out.la.cell2.lt; replace s0 := KX.out.lb.cell2.c0; replace s1 := KX.out.lb.cell2.c1; replace sz := KX.out.lb.cell2.lt
              replace f0 := JF.out.la.cell2.c0; replace f1 := JF.out.la.cell2.c1; replace fz := JF.out.la.cell2.lt
              clear hb JG g0 g1 gz
              cases q7
              · as_aux_lemma =>
                go_wp2_with fail
                have hbi := KX.out.bi
                have hbel := KX.out.bel
                refine (drawMeetingsOf_any A2 n2 c2 bs2 _ hbi hn2).mono ?_
                rintro e v9 ⟨W9, ms, M, nm, cm, x9, y9, rfl, hnm, ho, hb⟩
                have HB9 : Hid (Below w.heap.size w (v9.alloc (.cells #[.int .i64 W9, .slice M nm cm] 26))) := (hbel.trans (hb.mono hbel.size)).alloc (hbel.trans (hb.mono hbel.size)).size _
                have HJ : Hid (LR w (v9.alloc (.cells #[.int .i64 W9, .slice M nm cm] 26)) v9.heap.size W9 M nm cm ms) := ⟨LB.new _ _ _, (ho.mono hbel.size).alloc _⟩
                have hnm2 : nm ≤ 1048576 := by omega
                have j0 := HJ.out.la.cell2.c0; have j1 := HJ.out.la.cell2.c1; have jz := HJ.out.la.cell2.lt
                obtain ⟨q9, hq9⟩ : ∃ q9, q9 = meetB W9 ms x9 y9 := ⟨_, rfl⟩
                obtain ⟨N9, hN9⟩ : ∃ N9, N9 = meetN W9 ms x9 y9 := ⟨_, rfl⟩
                have HQ9 := Lib.hid hq9
                have HN9 := Lib.hid hN9
                have h91 : (q9 == q9) = true := by simp
                have h92 : (N9 == N9) = true := by simp
                clear ho hb hbi hbel hq9 hN9
                go_wp2_with fail
                refine (iMeetingsOf_any W9 M nm cm ms x9 y9 _ HJ.out.oa.ri hnm2).mono ?_
                rw [← HQ9.out, ← HN9.out]
                rintro e va ⟨rfl, hb⟩
                replace HJ := LR.step HJ hb
                replace HB9 := belStep HB9 hb
                replace j0 := HJ.out.la.cell2.c0; replace j1 := HJ.out.la.cell2.c1; replace jz := HJ.out.la.cell2.lt
                clear hb
                go_wp2_with fail
                refine (sMeetingsOf_any W9 M nm cm ms x9 y9 _ HJ.out.oa.ri hnm2).mono ?_
                rw [← HQ9.out, ← HN9.out]
                rintro e vb ⟨rfl, hb⟩
                replace HB9 := belStep HB9 hb
                clear hb j0 j1 jz
                go_wp2
                go_ret
                exact ⟨rfl, HB9.out⟩
              · obtain ⟨z1, z2, z3, z4⟩ := bw_iff.1 HQ7.out.symm
                have z5 := then_below z1 (z3 ▸ z2) z4
                have eW : W7 = W1 := HW7.out
                have eL : L7 = us ++ ys := HL7.out
                have eN : n7 = nu + ny := by rw [HN7.out, eL, List.length_append]; omega
                have HLD7 : Hid (lad W7 L7 = true) := by show _ = true; rw [eW, eL]; exact z4
                obtain ⟨Lr, hLr⟩ : ∃ Lr, Lr = resN W7 L7 := ⟨_, rfl⟩
                obtain ⟨nr, hnr⟩ : ∃ nr, nr = Lr.length := ⟨_, rfl⟩
                have bnr : nr ≤ 1000 := by rw [hnr, hLr]; exact resN_len W7 L7
                have HTB : Hid (thenB (resN W1 us) (resN V1 ys) = true) := by show _ = true; rw [← z3]; exact z5.1
                have HTN : Hid (thenN (resN W1 us) (resN V1 ys) = Lr) := by show _ = Lr; rw [hLr, ← z3, z5.2, eW, eL]
                have HLr := Lib.hid hLr
                have HNr := Lib.hid hnr
                have hlen : ((n7 : Int) != (nu : Int) + (ny : Int)) = false := by rw [eN]; simp
                have bra := resN_len W1 us
                have brb := resN_len V1 ys
                clear z1 z2 z3 z4 z5 eW eL eN hLr hnr HQ7 HW7 HL7 HN7
                go_wp2_with fail
                refine (iResultOf_any W7 F n7 cf L7 _ JF.out.oa.ri hn72).mono ?_
                rw [HLD7.out, ← HLr.out, ← HNr.out]
                rintro e v7 ⟨R, cr, rfl, ho, hb⟩
                have HR := Lib.hid ho
                replace KX := KT.step KX hb
                replace JF := LR.step JF hb
                clear ho hb t0 t1 tz s0 s1 sz f0 f1 fz
                go_wp2_with fail
                have hb := drewBel v7
                replace KX := KT.step KX hb
                replace JF := LR.step JF hb
                replace HR := oiStep HR hb
                clear hb
                first
                  | (go_region_held3 (fun w' => w'.cell? ⟨lc, 0, none⟩ = some (.int .i64 W1) ∧ w'.cell? ⟨lc, 1, none⟩ = some (.slice U nu cu) ∧ w'.cell? ⟨lc + 1, 0, none⟩ = some (.int .i64 V1) ∧ w'.cell? ⟨lc + 1, 1, none⟩ = some (.slice Y ny cy))
                      (exact ⟨KX.out.la.cell2.c0, KX.out.la.cell2.c1, KX.out.lb.cell2.c0, KX.out.lb.cell2.c1⟩)
                      (first
                        | (go_at_call 25; (have h0 := kResult_any W1 U nu cu us _ KX.out.oa.ri hnu2); (with_reducible refine h0.mono ?_); clear h0; rintro e wk ⟨Ra, ca, rfl, oa, hb⟩; have HRa := Lib.hid oa; replace KX := KT.step KX hb; replace JF := LR.step JF hb; replace HR := oiStep HR hb; (first | (replace HRb := oiStep HRb hb) | skip); clear hb oa)
                        | (go_at_call 25; (have h0 := kResult_any V1 Y ny cy ys _ KX.out.ob.ri hny2); (with_reducible refine h0.mono ?_); clear h0; rintro e wl ⟨Rb, cb, rfl, ob, hb⟩; have HRb := Lib.hid ob; replace KX := KT.step KX hb; replace JF := LR.step JF hb; replace HR := oiStep HR hb; (first | (replace HRa := oiStep HRa hb) | skip); clear hb ob)
                        | (go_at_call 24; (have h0 := iThenOrder_any Ra (resN W1 us).length ca (resN W1 us) Rb (resN V1 ys).length cb (resN V1 ys) _ HRa.out.ri (by omega) HRa.out.le HRb.out.ri (by omega) HRb.out.le); (with_reducible refine h0.mono ?_); clear h0; rw [HTB.out, HTN.out, ← HNr.out]; rintro e wm ⟨D, cd, rfl, od, hb⟩; have HD := Lib.hid od; replace KX := KT.step KX hb; replace JF := LR.step JF hb; replace HR := oiStep HR hb; clear hb od HRa HRb)
                        | fail))
                  | fail
                all_goals
                  have t0 := KX.out.la.cell2.c0; have t1 := KX.out.la.cell2.c1; have tz := KX.out.la.cell2.lt; have s0 := KX.out.lb.cell2.c0; have s1 := KX.out.lb.cell2.c1; have sz := KX.out.lb.cell2.lt
                  have f0 := JF.out.la.cell2.c0; have f1 := JF.out.la.cell2.c1; have fz := JF.out.la.cell2.lt
                  go_wp2_with (go_at_call 14; refine (kSame_any R nr cr Lr D nr cd Lr _ HR.out.ri HD.out.ri (by omega) (by omega)).mono ?_; rw [eqB_self]; rintro e vn ⟨rfl, hb⟩; replace KX := KT.step KX hb; replace JF := LR.step JF hb; replace t0 := KX.out.la.cell2.c0; replace t1 := KX.out.la.cell2.c1; replace tz := KX.out.la.cell2.lt; replace s0 := KX.out.lb.cell2.c0; replace s1 := KX.out.lb.cell2.c1; replace sz := KX.out.lb.cell2.lt; replace f0 := JF.out.la.cell2.c0; replace f1 := JF.out.la.cell2.c1; replace fz := JF.out.la.cell2.lt; clear hb HR HD)
                  have hbi := KX.out.bi
                  have hbel := KX.out.bel
                  refine (drawMeetingsOf_any A2 n2 c2 bs2 _ hbi hn2).mono ?_
                  rintro e v9 ⟨W9, ms, M, nm, cm, x9, y9, rfl, hnm, ho, hb⟩
                  have HB9 : Hid (Below w.heap.size w (v9.alloc (.cells #[.int .i64 W9, .slice M nm cm] 26))) := (hbel.trans (hb.mono hbel.size)).alloc (hbel.trans (hb.mono hbel.size)).size _
                  have HJ : Hid (LR w (v9.alloc (.cells #[.int .i64 W9, .slice M nm cm] 26)) v9.heap.size W9 M nm cm ms) := ⟨LB.new _ _ _, (ho.mono hbel.size).alloc _⟩
                  have hnm2 : nm ≤ 1048576 := by omega
                  have j0 := HJ.out.la.cell2.c0; have j1 := HJ.out.la.cell2.c1; have jz := HJ.out.la.cell2.lt
                  obtain ⟨q9, hq9⟩ : ∃ q9, q9 = meetB W9 ms x9 y9 := ⟨_, rfl⟩
                  obtain ⟨N9, hN9⟩ : ∃ N9, N9 = meetN W9 ms x9 y9 := ⟨_, rfl⟩
                  have HQ9 := Lib.hid hq9
                  have HN9 := Lib.hid hN9
                  have h91 : (q9 == q9) = true := by simp
                  have h92 : (N9 == N9) = true := by simp
                  clear ho hb hbi hbel hq9 hN9
                  go_wp2_with fail
                  refine (iMeetingsOf_any W9 M nm cm ms x9 y9 _ HJ.out.oa.ri hnm2).mono ?_
                  rw [← HQ9.out, ← HN9.out]
                  rintro e va ⟨rfl, hb⟩
                  replace HJ := LR.step HJ hb
                  replace HB9 := belStep HB9 hb
                  replace j0 := HJ.out.la.cell2.c0; replace j1 := HJ.out.la.cell2.c1; replace jz := HJ.out.la.cell2.lt
                  clear hb
                  go_wp2_with fail
                  refine (sMeetingsOf_any W9 M nm cm ms x9 y9 _ HJ.out.oa.ri hnm2).mono ?_
                  rw [← HQ9.out, ← HN9.out]
                  rintro e vb ⟨rfl, hb⟩
                  replace HB9 := belStep HB9 hb
                  clear hb j0 j1 jz
                  go_wp2
                  go_ret
                  exact ⟨rfl, HB9.out⟩

set_option maxRecDepth 100000 in
set_option maxHeartbeats 400000 in
theorem lawLaddersGoneDown_any (A : Option Addr) (n c : Nat) (bs : List Int) (A2 : Option Addr) (n2 c2 : Nat) (bs2 : List Int) (w : World) (h : BI w A n bs) (hn : n ≤ 9223372036854775807) (h2 : BI w A2 n2 bs2) (hn2 : n2 ≤ 9223372036854775807) :
    Calls Try.prog 3 #[.slice A n c, .slice A2 n2 c2] w (RetB true w) := by
  rcases hb : bigB n n2 with _ | _
  · have h3 := hb
    unfold bigB at h3
    simp only [Bool.or_eq_false_iff, decide_eq_false_iff_not] at h3
    exact lawLaddersGoneDown_of A n c bs A2 n2 c2 bs2 w h h2 (by omega) (by omega) hb
  · have HB := Lib.hid hb
    clear h h2 hb
    go_enter Try.func3, Try.ntmps3
    go_wp2_with fail
    refine (big_any A n c A2 n2 c2 _ hn hn2).mono ?_
    rw [HB.out]
    rintro e w1 ⟨rfl, hb⟩
    have HB1 := Lib.hid hb
    clear hb
    go_wp2
    go_ret
    exact ⟨rfl, HB1.out⟩
end Go.Proofs.Ytgadfjfokgodgaa
