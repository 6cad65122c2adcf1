/- The draws of wires, of two ladders, and the doors of chapter 1's draws. -/
import Derived.Test.YtgadfjfokgodgaaCu6
namespace Go.Proofs.Ytgadfjfokgodgaa
open Go Go.RowKit

set_option maxRecDepth 100000 in
set_option maxHeartbeats 1000000 in
theorem wire_any (b : Nat) (A : Option Addr) (n c : Nat) (bs : List Int) (k : Nat) (W : Int) (AO : Option Addr) (l co : Nat) (w : World) (h : Cur w b A n c bs k) (hn : n ≤ 1048576) (hk : k ≤ 1000000) :
    Calls Try.prog 45 #[.pointer (some ⟨b, 0, none⟩), .agg #[.int .i64 W, .slice AO l co]] w (DrawnN w b A n c bs (k + 4)) := by
  have HC0 : Hid (Cur (w.alloc (.cells #[.int .i64 W, .slice AO l co] 26)) b A n c bs k) := h.below (allocBel _ _)
  have HG0 : Hid (w.grownBy (w.alloc (.cells #[.int .i64 W, .slice AO l co] 26)) (some b)) := grown_below (grown_refl _ _) (allocBel _ _)
  have hbw := h.lt
  clear h
  by_cases h2 : W < 2
  · go_enter Try.func45, Try.ntmps45
    go_wp2_with fail
    refine (among_any b A n c bs k (some ⟨w.heap.size + 1, 0, none⟩) 4 4 [-1, 0, W, 4611686018427387904] _ (HC0.out.below (allocBel _ _)) hn (by omega) (by have := rowFour (w.alloc (.cells #[.int .i64 W, .slice AO l co] 26)) (-1) 0 W 4611686018427387904; rwa [World.size_alloc] at this) (by omega) (by omega) (by simp [blk]; omega)).mono ?_
    rintro e w1 ⟨i, rfl, hi, hc, hg⟩
    have HC1 := Lib.hid hc
    have HG1 := Lib.hid (grownTr (grown_below HG0.out (allocBel _ _)) hg)
    clear hc hg
    go_wp2
    go_ret
    exact ⟨_, rfl, HC1.out.le (by omega), HG1.out⟩
  · by_cases h8 : 8 < W
    · go_enter Try.func45, Try.ntmps45
      go_wp2_with fail
      refine (among_any b A n c bs k (some ⟨w.heap.size + 1, 0, none⟩) 4 4 [-1, 0, W, 4611686018427387904] _ (HC0.out.below (allocBel _ _)) hn (by omega) (by have := rowFour (w.alloc (.cells #[.int .i64 W, .slice AO l co] 26)) (-1) 0 W 4611686018427387904; rwa [World.size_alloc] at this) (by omega) (by omega) (by simp [blk]; omega)).mono ?_
      rintro e w1 ⟨i, rfl, hi, hc, hg⟩
      have HC1 := Lib.hid hc
      have HG1 := Lib.hid (grownTr (grown_below HG0.out (allocBel _ _)) hg)
      clear hc hg
      go_wp2
      go_ret
      exact ⟨_, rfl, HC1.out.le (by omega), HG1.out⟩
    · have HL : Hid ((w.alloc (.cells #[.int .i64 W, .slice AO l co] 26)).cell? ⟨w.heap.size, 0, none⟩ = some (.int .i64 W)) := by show _ = _; simp
      go_enter Try.func45, Try.ntmps45
      go_wp2_with fail
      refine (one_any b A n c bs k 14 _ HC0.out hn (by omega) (by omega)).mono ?_
      rintro e w1 ⟨q, rfl, hc, hg⟩
      have hl1 : w1.cell? ⟨w.heap.size, 0, none⟩ = some (.int .i64 W) := by
        rw [World.cell?_of_block (w := w.alloc (.cells #[.int .i64 W, .slice AO l co] 26)) (a := ⟨w.heap.size, 0, none⟩) (hg.block w.heap.size (by simp) (fun e => by injection e with e; omega))]
        exact HL.out
      have HC1 := Lib.hid hc
      have HG1 := Lib.hid (grownTr HG0.out hg)
      clear hc hg HC0 HG0 HL
      cases q
      · go_wp2_with fail
        refine (pick_any b A n c bs (k + 2) W _ HC1.out hn (by omega) (by omega)).mono ?_
        rintro e w2 ⟨v, rfl, v0, v1, hc, hg⟩
        have HC2 := Lib.hid hc
        have HG2 := Lib.hid (grownTr HG1.out hg)
        clear hc hg v1
        go_wp2
        go_ret
        exact ⟨_, rfl, HC2.out.le (by omega), HG2.out⟩
      · go_wp2_with fail
        refine (among_any b A n c bs (k + 2) (some ⟨w1.heap.size, 0, none⟩) 4 4 [-1, 0, W, 4611686018427387904] _ (HC1.out.below (allocBel _ _)) hn (by omega) (rowFour _ _ _ _ _) (by omega) (by omega) (by simp [blk]; have := HC1.out.lt; omega)).mono ?_
        rintro e w2 ⟨i, rfl, hi, hc, hg⟩
        have HC2 := Lib.hid hc
        have HG2 := Lib.hid (grownTr (grown_below HG1.out (allocBel _ _)) hg)
        clear hc hg
        go_wp2
        go_ret
        exact ⟨_, rfl, HC2.out.le (by omega), HG2.out⟩

/-- two ladders in new memory, and the cursor goes on -/
def DrawnLL (w : World) (b : Nat) (A : Option Addr) (n c : Nat) (bs : List Int) (k m : Nat) (e : Ending) (w' : World) : Prop :=
  ∃ (W V : Int) (zs ys : List Int) (A2 : Option Addr) (n2 c2 : Nat) (A3 : Option Addr) (n3 c3 : Nat), e = .returned (.tuple #[.agg #[.int .i64 W, .slice A2 n2 c2], .agg #[.int .i64 V, .slice A3 n3 c3]]) ∧ n2 ≤ m ∧ n3 ≤ m ∧
    OI w' w.heap.size A2 n2 c2 zs ∧ OI w' w.heap.size A3 n3 c3 ys ∧ Cur w' b A n c bs k ∧ w.grownBy w' (some b)

/-- two answers are laid into their own blocks -/
theorem finLL {w wr : World} {b : Nat} {A : Option Addr} {n c : Nat} {bs : List Int} {k : Nat} {A2 : Option Addr} {n2 c2 : Nat} {zs : List Int} {A3 : Option Addr} {n3 c3 : Nat} {ys : List Int} {W V : Int} {u v u' v' : Value} {B2 B3 : Nat} (hbw : b < w.heap.size) (hlow : ∀ x, blk A = some x → 0 < n → x < w.heap.size)
    (hR : LB wr w.heap.size u v) (hS : LB wr (w.heap.size + 1) u' v') (hO : OI wr B2 A2 n2 c2 zs) (hP : OI wr B3 A3 n3 c3 ys) (h2 : w.heap.size ≤ B2) (h3 : w.heap.size ≤ B3) (hC : Cur wr b A n c bs k) (hG : w.grownBy wr (some b)) :
    ∃ wz, wz = ((((wr.setCell ⟨w.heap.size, 0, none⟩ (.int .i64 W)).setCell ⟨w.heap.size, 1, none⟩ (.slice A2 n2 c2)).setCell ⟨w.heap.size + 1, 0, none⟩ (.int .i64 V)).setCell ⟨w.heap.size + 1, 1, none⟩ (.slice A3 n3 c3)).drew ∧
    LB wz w.heap.size (.int .i64 W) (.slice A2 n2 c2) ∧ LB wz (w.heap.size + 1) (.int .i64 V) (.slice A3 n3 c3) ∧ OI wz w.heap.size A2 n2 c2 zs ∧ OI wz w.heap.size A3 n3 c3 ys ∧ Cur wz b A n c bs k ∧ w.grownBy wz (some b) := by
  have g0 : w.heap.size + 1 ≠ w.heap.size := by omega
  have hR1 := LB.set1 (LB.set0 hR (.int .i64 W)) (.slice A2 n2 c2)
  have hS1 := (hS.other (p := ⟨w.heap.size, 0, none⟩) (fun e => g0 e.symm) (.int .i64 W)).other (p := ⟨w.heap.size, 1, none⟩) (fun e => g0 e.symm) (.slice A2 n2 c2)
  have hO1 := (hO.setOther (p := ⟨w.heap.size, 0, none⟩) (hR.ne hO) (.int .i64 W)).setOther (p := ⟨w.heap.size, 1, none⟩) (hR.ne hO) (.slice A2 n2 c2)
  have hP1 := (hP.setOther (p := ⟨w.heap.size, 0, none⟩) (hR.ne hP) (.int .i64 W)).setOther (p := ⟨w.heap.size, 1, none⟩) (hR.ne hP) (.slice A2 n2 c2)
  have hG1 := grown_setCell (grown_setCell hG (p := ⟨w.heap.size, 0, none⟩) (.inr (Nat.le_refl _)) (.int .i64 W)) (p := ⟨w.heap.size, 1, none⟩) (.inr (Nat.le_refl _)) (.slice A2 n2 c2)
  have hC1 := hC.grown (grown_setCell (g := w.heap.size) (grown_setCell (g := w.heap.size) (grown_refl wr _) (p := ⟨w.heap.size, 0, none⟩) (.inl rfl) (.int .i64 W)) (p := ⟨w.heap.size, 1, none⟩) (.inl rfl) (.slice A2 n2 c2)) (fun e => by injection e with e; omega) (fun h0 e => by have := hlow _ e.symm h0; omega)
  generalize (wr.setCell ⟨w.heap.size, 0, none⟩ (.int .i64 W)).setCell ⟨w.heap.size, 1, none⟩ (.slice A2 n2 c2) = w5 at hR1 hS1 hO1 hP1 hG1 hC1 ⊢
  have hR2 := (hR1.other (p := ⟨w.heap.size + 1, 0, none⟩) g0 (.int .i64 V)).other (p := ⟨w.heap.size + 1, 1, none⟩) g0 (.slice A3 n3 c3)
  have hS2 := LB.set1 (LB.set0 hS1 (.int .i64 V)) (.slice A3 n3 c3)
  have hO2 := (hO1.setOther (p := ⟨w.heap.size + 1, 0, none⟩) (hS1.ne hO1) (.int .i64 V)).setOther (p := ⟨w.heap.size + 1, 1, none⟩) (hS1.ne hO1) (.slice A3 n3 c3)
  have hP2 := (hP1.setOther (p := ⟨w.heap.size + 1, 0, none⟩) (hS1.ne hP1) (.int .i64 V)).setOther (p := ⟨w.heap.size + 1, 1, none⟩) (hS1.ne hP1) (.slice A3 n3 c3)
  have hG2 := grown_setCell (grown_setCell hG1 (p := ⟨w.heap.size + 1, 0, none⟩) (.inr (Nat.le_succ _)) (.int .i64 V)) (p := ⟨w.heap.size + 1, 1, none⟩) (.inr (Nat.le_succ _)) (.slice A3 n3 c3)
  have hC2 := hC1.grown (grown_setCell (g := w.heap.size + 1) (grown_setCell (g := w.heap.size + 1) (grown_refl w5 _) (p := ⟨w.heap.size + 1, 0, none⟩) (.inl rfl) (.int .i64 V)) (p := ⟨w.heap.size + 1, 1, none⟩) (.inl rfl) (.slice A3 n3 c3)) (fun e => by injection e with e; omega) (fun h0 e => by have := hlow _ e.symm h0; omega)
  exact ⟨_, rfl, lbDrew hR2, lbDrew hS2, (oiDrewW hO2).mono h2, (oiDrewW hP2).mono h3, hC2.drewW, grown_drew hG2⟩

set_option maxRecDepth 100000 in
set_option maxHeartbeats 2000000 in
theorem twoLadders_any (b : Nat) (A : Option Addr) (n c : Nat) (bs : List Int) (k0 : Nat) (w : World) (h : Cur w b A n c bs k0) (hn : n ≤ 1048576) (hk : k0 ≤ 100000) :
    Calls Try.prog 38 #[.pointer (some ⟨b, 0, none⟩)] w (DrawnLL w b A n c bs (k0 + 100) 61) := by
  have hbw := h.lt
  have HLOW := Lib.hid h.low
  have HC0 : Hid (Cur ((w.alloc (.cells #[.int .i64 0, .slice none 0 0] 26)).alloc (.cells #[.int .i64 0, .slice none 0 0] 26)) b A n c bs k0) := (h.below (allocBel _ _)).below (allocBel _ _)
  have HR0 : Hid (LB ((w.alloc (.cells #[.int .i64 0, .slice none 0 0] 26)).alloc (.cells #[.int .i64 0, .slice none 0 0] 26)) w.heap.size (.int .i64 0) (.slice none 0 0)) := (LB.new w _ _).alloc _
  have HS0 : Hid (LB ((w.alloc (.cells #[.int .i64 0, .slice none 0 0] 26)).alloc (.cells #[.int .i64 0, .slice none 0 0] 26)) (w.heap.size + 1) (.int .i64 0) (.slice none 0 0)) := LB.new2 w _ _ _
  have HG0 : Hid (w.grownBy ((w.alloc (.cells #[.int .i64 0, .slice none 0 0] 26)).alloc (.cells #[.int .i64 0, .slice none 0 0] 26)) (some b)) := grown_below (grown_below (grown_refl _ _) (allocBel _ _)) (allocBel _ _)
  clear h
  go_enter Try.func38, Try.ntmps38
  go_wp2_with fail
  refine (ladder_any b A n c bs k0 _ HC0.out hn (by omega)).mono ?_
  rintro e w1 ⟨W, zs, A2, n2, c2, rfl, hn2, ho, hc, hg⟩
  have HR1 : Hid (LB w1 w.heap.size (.int .i64 0) (.slice none 0 0)) := HR0.out.grownB hg (by omega)
  have HS1 : Hid (LB w1 (w.heap.size + 1) (.int .i64 0) (.slice none 0 0)) := HS0.out.grownB hg (by omega)
  have HO1 : Hid (OI w1 (w.heap.size + 2) A2 n2 c2 zs) := by show OI _ _ _ _ _ _; simpa using ho
  have HC1 := Lib.hid hc
  have HG1 := Lib.hid (grownTr HG0.out hg)
  have HZ1 : Hid (w.heap.size + 2 ≤ w1.heap.size) := by show _ ≤ w1.heap.size; have := hg.size; simp at this; omega
  clear hc hg ho HC0 HR0 HS0 HG0
  go_wp2_with fail
  refine (sureLadder_any b A n c bs (k0 + 40) 6 12 _ HC1.out hn (by omega) (by omega) (by omega) (by omega)).mono ?_
  rintro e w2 ⟨V, ys, A3, n3, c3, rfl, hV2, hV6, hn3, ho, hc, hg⟩
  have HR2 : Hid (LB w2 w.heap.size (.int .i64 0) (.slice none 0 0)) := HR1.out.grownB hg (by omega)
  have HS2 : Hid (LB w2 (w.heap.size + 1) (.int .i64 0) (.slice none 0 0)) := HS1.out.grownB hg (by omega)
  have HO2 : Hid (OI w2 (w.heap.size + 2) A2 n2 c2 zs) := HO1.out.kept hg (fun x hx e => by have := (HO1.out.blk x hx).1; injection e with e; omega)
  have HP2 : Hid (OI w2 w1.heap.size A3 n3 c3 ys) := ho
  have HAP : Hid (∀ x, blk A2 = some x → x < w1.heap.size) := blkLt HO1.out
  have HC2 := Lib.hid hc
  have HG2 := Lib.hid (grownTr HG1.out hg)
  have HZ2 : Hid (w1.heap.size ≤ w2.heap.size) := hg.size
  clear hc hg ho HC1 HR1 HS1 HG1 HO1
  go_wp2_with fail
  obtain ⟨w3, hw3⟩ : ∃ w3, w3 = (w2.alloc (.cells #[.int .i64 W, .slice A2 n2 c2] 26)).alloc (.cells #[.int .i64 V, .slice A3 n3 c3] 26) := ⟨_, rfl⟩
  obtain ⟨la, hla⟩ : ∃ la, la = w2.heap.size := ⟨_, rfl⟩
  have hal : w.heap.size + 2 ≤ la := by have := HZ1.out; have := HZ2.out; omega
  have HL3 : Hid (LB w3 la (.int .i64 W) (.slice A2 n2 c2)) := by show LB _ _ _ _; rw [hw3, hla]; exact (LB.new w2 _ _).alloc _
  have HM3 : Hid (LB w3 (la + 1) (.int .i64 V) (.slice A3 n3 c3)) := by show LB _ _ _ _; rw [hw3, hla]; exact LB.new2 w2 _ _ _
  have HR3 : Hid (LB w3 w.heap.size (.int .i64 0) (.slice none 0 0)) := by show LB _ _ _ _; rw [hw3]; exact (HR2.out.alloc _).alloc _
  have HS3 : Hid (LB w3 (w.heap.size + 1) (.int .i64 0) (.slice none 0 0)) := by show LB _ _ _ _; rw [hw3]; exact (HS2.out.alloc _).alloc _
  have HO3 : Hid (OI w3 (w.heap.size + 2) A2 n2 c2 zs) := by show OI _ _ _ _ _ _; rw [hw3]; exact (HO2.out.alloc _).alloc _
  have HP3 : Hid (OI w3 w1.heap.size A3 n3 c3 ys) := by show OI _ _ _ _ _ _; rw [hw3]; exact (HP2.out.alloc _).alloc _
  have HC3 : Hid (Cur w3 b A n c bs (k0 + 68)) := by show Cur _ _ _ _ _ _ _; rw [hw3]; exact ((HC2.out.below (allocBel _ _)).below (allocBel _ _)).le (by omega)
  have HG3 : Hid (w.grownBy w3 (some b)) := by show w.grownBy _ _; rw [hw3]; exact grown_below (grown_below HG2.out (allocBel _ _)) (allocBel _ _)
  rw [← hw3, ← hla]
  clear hw3 hla HC2 HR2 HS2 HO2 HP2 HG2 HZ2
  refine (one_any b A n c bs (k0 + 68) 5 _ HC3.out hn (by omega) (by omega)).mono ?_
  rintro e w4 ⟨q, rfl, hc, hg⟩
  have HL4 : Hid (LB w4 la (.int .i64 W) (.slice A2 n2 c2)) := HL3.out.grownB hg (by omega)
  have HM4 : Hid (LB w4 (la + 1) (.int .i64 V) (.slice A3 n3 c3)) := HM3.out.grownB hg (by omega)
  have HR4 : Hid (LB w4 w.heap.size (.int .i64 0) (.slice none 0 0)) := HR3.out.grownB hg (by omega)
  have HS4 : Hid (LB w4 (w.heap.size + 1) (.int .i64 0) (.slice none 0 0)) := HS3.out.grownB hg (by omega)
  have HO4 : Hid (OI w4 (w.heap.size + 2) A2 n2 c2 zs) := HO3.out.kept hg (fun x hx e => by have := (HO3.out.blk x hx).1; injection e with e; omega)
  have HP4 : Hid (OI w4 w1.heap.size A3 n3 c3 ys) := HP3.out.kept hg (fun x hx e => by have := (HP3.out.blk x hx).1; have := HZ1.out; injection e with e; omega)
  have HC4 : Hid (Cur w4 b A n c bs (k0 + 70)) := hc.le (by omega)
  have HG4 := Lib.hid (grownTr HG3.out hg)
  clear hc hg HL3 HM3 HR3 HS3 HO3 HP3 HC3 HG3
  have l0 := HL4.out.cell2.c0; have l1 := HL4.out.cell2.c1; have lz := HL4.out.cell2.lt
  have m0 := HM4.out.cell2.c0; have m1 := HM4.out.cell2.c1; have mf0 := HM4.out.cell2.f0; have mz := HM4.out.cell2.lt
  have r0 := HR4.out.cell2.c0; have r1 := HR4.out.cell2.c1; have rf0 := HR4.out.cell2.f0; have rf1 := HR4.out.cell2.f1; have rz := HR4.out.cell2.lt
  have s0 := HS4.out.cell2.c0; have s1 := HS4.out.cell2.c1; have sf0 := HS4.out.cell2.f0; have sf1 := HS4.out.cell2.f1; have sz := HS4.out.cell2.lt
  cases q
  · by_cases hw2 : W < 2
    · go_wp2
      go_region
      go_wp2
      obtain ⟨wz, ez, t0, t1, t2, t3, t4, t5⟩ := finLL (W := W) (V := V) hbw HLOW.out HR4.out HS4.out HO4.out HP4.out (by omega) (by have := HZ1.out; omega) HC4.out HG4.out
      rw [← ez]
      exact bodyPost_ret (v := .tuple #[.agg #[.int .i64 W, .slice A2 n2 c2], .agg #[.int .i64 V, .slice A3 n3 c3]]) (by simp [results, Try.results38, go_sem, t0.cell2.c0, t0.cell2.c1, t1.cell2.c0, t1.cell2.c1]) rfl
        ⟨W, V, zs, ys, A2, n2, c2, A3, n3, c3, rfl, hn2, by omega, t2, t3, t4.le (by omega), t5⟩
    · by_cases hw8 : 8 < W
      · go_wp2
        go_region
        go_wp2
        obtain ⟨wz, ez, t0, t1, t2, t3, t4, t5⟩ := finLL (W := W) (V := V) hbw HLOW.out HR4.out HS4.out HO4.out HP4.out (by omega) (by have := HZ1.out; omega) HC4.out HG4.out
        rw [← ez]
        exact bodyPost_ret (v := .tuple #[.agg #[.int .i64 W, .slice A2 n2 c2], .agg #[.int .i64 V, .slice A3 n3 c3]]) (by simp [results, Try.results38, go_sem, t0.cell2.c0, t0.cell2.c1, t1.cell2.c0, t1.cell2.c1]) rfl
          ⟨W, V, zs, ys, A2, n2, c2, A3, n3, c3, rfl, hn2, by omega, t2, t3, t4.le (by omega), t5⟩
      · have g0 : la + 1 ≠ w.heap.size := by omega
        have g1 : la + 1 ≠ w.heap.size + 1 := by omega
        have g2 : la + 1 ≠ la := by omega
        have HL5 : Hid (LB (w4.setCell ⟨la + 1, 0, none⟩ (.int .i64 W)) la (.int .i64 W) (.slice A2 n2 c2)) := HL4.out.other g2 _
        have HM5 : Hid (LB (w4.setCell ⟨la + 1, 0, none⟩ (.int .i64 W)) (la + 1) (.int .i64 W) (.slice A3 n3 c3)) := LB.set0 HM4.out _
        have HR5 : Hid (LB (w4.setCell ⟨la + 1, 0, none⟩ (.int .i64 W)) w.heap.size (.int .i64 0) (.slice none 0 0)) := HR4.out.other g0 _
        have HS5 : Hid (LB (w4.setCell ⟨la + 1, 0, none⟩ (.int .i64 W)) (w.heap.size + 1) (.int .i64 0) (.slice none 0 0)) := HS4.out.other g1 _
        have HO5 : Hid (OI (w4.setCell ⟨la + 1, 0, none⟩ (.int .i64 W)) (w.heap.size + 2) A2 n2 c2 zs) := HO4.out.setOther (HM4.out.ne HO4.out) _
        have HP5 : Hid (OI (w4.setCell ⟨la + 1, 0, none⟩ (.int .i64 W)) w1.heap.size A3 n3 c3 ys) := HP4.out.setOther (HM4.out.ne HP4.out) _
        have HG5 : Hid (w.grownBy (w4.setCell ⟨la + 1, 0, none⟩ (.int .i64 W)) (some b)) := grown_setCell HG4.out (p := ⟨la + 1, 0, none⟩) (.inr (by show w.heap.size ≤ la + 1; omega)) _
        have HC5 : Hid (Cur (w4.setCell ⟨la + 1, 0, none⟩ (.int .i64 W)) b A n c bs (k0 + 70)) := HC4.out.grown (grown_setCell (g := la + 1) (grown_refl w4 _) (p := ⟨la + 1, 0, none⟩) (.inl rfl) _) (fun e => by injection e with e; omega) (fun h0 e => by have := HLOW.out _ e.symm h0; omega)
        go_wp2
        clear HL4 HM4 HR4 HS4 HO4 HP4 HG4 HC4
        have s9 : IntKind.i64.wrap (W - 1) = W - 1 := IntWalk.i64_in _ (by omega)
        have z9 : (W - 1 == 0) = false := by simp; omega
        clear l0 l1 lz m0 m1 mf0 mz r0 r1 rf0 rf1 rz s0 s1 sf0 sf1 sz
        go_loopw [30] (fun i wr => ∃ (k : Nat) (us : List Int), k ≤ n3 ∧ i = .int .i64 (k : Int) ∧ LB wr la (.int .i64 W) (.slice A2 n2 c2) ∧ LB wr (la + 1) (.int .i64 W) (.slice A3 n3 c3) ∧ LB wr w.heap.size (.int .i64 0) (.slice none 0 0) ∧ LB wr (w.heap.size + 1) (.int .i64 0) (.slice none 0 0) ∧ OI wr (w.heap.size + 2) A2 n2 c2 zs ∧ OI wr w1.heap.size A3 n3 c3 us ∧ w.grownBy wr (some b) ∧ Cur wr b A n c bs (k0 + 70)) (fun i _ => n3 - (intOf i).toNat)
        case atStart => exact ⟨0, ys, Nat.zero_le _, rfl, HL5.out, HM5.out, HR5.out, HS5.out, HO5.out, HP5.out, HG5.out, HC5.out⟩
        case round =>
          clear HL5 HM5 HR5 HS5 HO5 HP5 HG5 HC5
          obtain ⟨k, us, hk, rfl, hl, hm, hr, hs, ho, hp, hg, hc⟩ := hrel
          have HL := Lib.hid hl
          have HM := Lib.hid hm
          have HR := Lib.hid hr
          have HS := Lib.hid hs
          have HO := Lib.hid ho
          have HP := Lib.hid hp
          have HG := Lib.hid hg
          have HC := Lib.hid hc
          clear hl hm hr hs ho hp hg hc
          by_cases hlt : k < n3
          · obtain ⟨g, eg⟩ : ∃ g, A3 = some ⟨g, 0, none⟩ := by
              have h3 := HP.out
              rw [show n3 = (n3 - 1) + 1 by omega] at h3
              obtain ⟨g, e, _⟩ := h3.some_
              exact ⟨g, e⟩
            subst eg
            have hgb := HP.out.blk g rfl
            have hck := HP.out.cells k hlt
            have hfk : wr.frozen? ⟨g, k, none⟩ = false := HP.out.2.frozenAt k
            have l0 := HL.out.cell2.c0; have l1 := HL.out.cell2.c1; have lz := HL.out.cell2.lt
            have m0 := HM.out.cell2.c0; have m1 := HM.out.cell2.c1; have mz := HM.out.cell2.lt
            have gz := hgb.2
            obtain ⟨x, hx⟩ : ∃ x, x = gi us k := ⟨_, rfl⟩
            rw [← hx] at hck
            clear hx hgb
            go_wp2
            go_region
            go_wp2
            have hgl := (HP.out.blk g rfl).1
            have hnp : some g ≠ some la ∧ some g ≠ some (la + 1) ∧ some g ≠ some w.heap.size ∧ some g ≠ some (w.heap.size + 1) := ⟨HL.out.ne HP.out, HM.out.ne HP.out, HR.out.ne HP.out, HS.out.ne HP.out⟩
            have q1 : g ≠ la := fun e => hnp.1 (by rw [e])
            have q2 : g ≠ la + 1 := fun e => hnp.2.1 (by rw [e])
            have q3 : g ≠ w.heap.size := fun e => hnp.2.2.1 (by rw [e])
            have q4 : g ≠ w.heap.size + 1 := fun e => hnp.2.2.2 (by rw [e])
            have hz1 := HZ1.out
            exact ⟨⟨k + 1, us.set k _, by omega, by go_num, lbDrew (HL.out.other (p := ⟨g, k, none⟩) q1 _), lbDrew (HM.out.other (p := ⟨g, k, none⟩) q2 _), lbDrew (HR.out.other (p := ⟨g, k, none⟩) q3 _), lbDrew (HS.out.other (p := ⟨g, k, none⟩) q4 _),
              oiDrewW (HO.out.setOther (p := ⟨g, k, none⟩) (fun e => by have := HAP.out g e; omega) _), oiDrewW (HP.out.stored k _),
              grown_drew (grown_setCell HG.out (p := ⟨g, k, none⟩) (.inr (by show w.heap.size ≤ g; omega)) _),
              (HC.out.grown (grown_setCell (g := g) (grown_refl wr _) (p := ⟨g, k, none⟩) (.inl rfl) _) (fun e => by injection e with e; omega) (fun h0 e => by have := HLOW.out _ e.symm h0; omega)).drewW⟩, by simp [intOf] <;> omega⟩
          · obtain rfl : k = n3 := by omega
            have l0 := HL.out.cell2.c0; have l1 := HL.out.cell2.c1; have lz := HL.out.cell2.lt
            have m0 := HM.out.cell2.c0; have m1 := HM.out.cell2.c1; have mz := HM.out.cell2.lt
            have r0 := HR.out.cell2.c0; have r1 := HR.out.cell2.c1; have rf0 := HR.out.cell2.f0; have rf1 := HR.out.cell2.f1; have rz := HR.out.cell2.lt
            have s0 := HS.out.cell2.c0; have s1 := HS.out.cell2.c1; have sf0 := HS.out.cell2.f0; have sf1 := HS.out.cell2.f1; have sz := HS.out.cell2.lt
            go_wp2
            go_region
            go_wp2
            obtain ⟨wz, ez, t0, t1, t2, t3, t4, t5⟩ := finLL (W := W) (V := W) hbw HLOW.out HR.out HS.out HO.out HP.out (by omega) (by have := HZ1.out; omega) HC.out HG.out
            rw [← ez]
            exact bodyPost_ret (v := .tuple #[.agg #[.int .i64 W, .slice A2 n2 c2], .agg #[.int .i64 W, .slice A3 k c3]]) (by simp [results, Try.results38, go_sem, t0.cell2.c0, t0.cell2.c1, t1.cell2.c0, t1.cell2.c1]) rfl
              ⟨W, W, zs, us, A2, n2, c2, A3, k, c3, rfl, hn2, by omega, t2, t3, t4.le (by omega), t5⟩
  · go_wp2
    go_region
    go_wp2
    obtain ⟨wz, ez, t0, t1, t2, t3, t4, t5⟩ := finLL (W := W) (V := V) hbw HLOW.out HR4.out HS4.out HO4.out HP4.out (by omega) (by have := HZ1.out; omega) HC4.out HG4.out
    rw [← ez]
    exact bodyPost_ret (v := .tuple #[.agg #[.int .i64 W, .slice A2 n2 c2], .agg #[.int .i64 V, .slice A3 n3 c3]]) (by simp [results, Try.results38, go_sem, t0.cell2.c0, t0.cell2.c1, t1.cell2.c0, t1.cell2.c1]) rfl
      ⟨W, V, zs, ys, A2, n2, c2, A3, n3, c3, rfl, hn2, by omega, t2, t3, t4.le (by omega), t5⟩
end Go.Proofs.Ytgadfjfokgodgaa
