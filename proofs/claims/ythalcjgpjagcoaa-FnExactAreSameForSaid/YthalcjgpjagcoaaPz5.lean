/- AreSameFor, of the program and of its model. -/
import Derived.Test.YthalcjgpjagcoaaPz4
import Derived.Test.YthalcjgpjagcoaaLB
import Derived.Deep.Cut
namespace Go.Proofs.Ythalcjgpjagcoaa
open Go Go.RowKit

def asfB (W : Int) (zs : List Int) (V : Int) (ys : List Int) (s : ByteArray) : Bool := pzB W zs s && pzB V ys s
def asfV (W : Int) (zs : List Int) (V : Int) (ys : List Int) (s : ByteArray) : Bool := asfB W zs V ys s && ((pzT W zs s).toList == (pzT V ys s).toList)
theorem asfB_1 {W V : Int} {zs ys : List Int} {s : ByteArray} (h : pzB W zs s = false) : asfB W zs V ys s = false := by unfold asfB; rw [h]; rfl
theorem asfB_2 {W V : Int} {zs ys : List Int} {s : ByteArray} (h : pzB V ys s = false) : asfB W zs V ys s = false := by unfold asfB; rw [h]; simp
theorem asfB_3 {W V : Int} {zs ys : List Int} {s : ByteArray} (h : pzB W zs s = true) (h2 : pzB V ys s = true) : asfB W zs V ys s = true := by unfold asfB; rw [h, h2]; rfl
theorem asfV_no {W V : Int} {zs ys : List Int} {s : ByteArray} (h : asfB W zs V ys s = false) : asfV W zs V ys s = false := by unfold asfV; rw [h]; rfl
theorem asfV_yes {W V : Int} {zs ys : List Int} {s : ByteArray} (h : asfB W zs V ys s = true) : asfV W zs V ys s = ((pzT W zs s).toList == (pzT V ys s).toList) := by unfold asfV; rw [h]; rfl

def RetBBz (r q : Bool) (w : World) (e : Ending) (w' : World) : Prop := e = .returned (.tuple #[.bool r, .bool q]) ∧ Below w.heap.size w w'

set_option maxRecDepth 100000 in
set_option maxHeartbeats 2000000 in
theorem iAreSameFor_any (W : Int) (A : Option Addr) (n c : Nat) (zs : List Int) (V : Int) (A2 : Option Addr) (n2 c2 : Nat) (ys : List Int) (s : ByteArray) (w : World) (h : RI w A n zs) (hn : n ≤ 1048576) (h2 : RI w A2 n2 ys) (hn2 : n2 ≤ 1048576) (hs9 : s.size ≤ 1000000000) :
    Calls Try.prog 33 #[.agg #[.int .i64 W, .slice A n c], .agg #[.int .i64 V, .slice A2 n2 c2], .string s] w (RetBBz (asfV W zs V ys s) (asfB W zs V ys s) w) := by
  have HA := boxAlloc (boxNew (W := W) (c := c) 29 h) (.cells #[.int .i64 V, .slice A2 n2 c2] 29)
  have HD := boxNew (wi := w.alloc (.cells #[.int .i64 W, .slice A n c] 29)) (W := V) (c := c2) 29 (h2.alloc _)
  have HB := belAlloc (belAlloc (belRefl (w := w)) (.cells #[.int .i64 W, .slice A n c] 29)) (.cells #[.int .i64 V, .slice A2 n2 c2] 29)
  simp only [World.size_alloc] at HD
  have HI := Lib.hid (fun w2 (r : RI w2 A n zs) => iPrizesOf_any W A n c zs s w2 r hn hs9)
  have HI2 := Lib.hid (fun w2 (r : RI w2 A2 n2 ys) => iPrizesOf_any V A2 n2 c2 ys s w2 r hn2 hs9)
  rcases hq : pzB W zs s with _ | _
  · rw [asfV_no (asfB_1 hq), asfB_1 hq]
    rw [hq] at HI
    obtain ⟨t1, ht1⟩ : ∃ t, t = pzT W zs s := ⟨_, rfl⟩
    obtain ⟨t2, ht2⟩ : ∃ t, t = pzT V ys s := ⟨_, rfl⟩
    obtain ⟨q2, hq2⟩ : ∃ t, t = pzB V ys s := ⟨_, rfl⟩
    rw [← ht1] at HI
    rw [← ht2, ← hq2] at HI2
    clear hq h h2 ht1 ht2 hq2
    go_enter Try.func33, Try.ntmps33
    have a0 := HA.out.c0; have a1 := HA.out.c1; have az := HA.out.lt
    go_wp2_with fail
    refine (HI.out _ HA.out.ri).mono ?_
    rintro e w1 ⟨rfl, hb⟩
    replace HD := boxStep HD hb; replace HB := belStep HB hb
    have d0 := HD.out.c0; have d1 := HD.out.c1; have dz := HD.out.lt
    clear hb
    go_wp2_with fail
    refine (HI2.out _ HD.out.ri).mono ?_
    rintro e w2 ⟨rfl, hb⟩
    replace HB := belStep HB hb
    clear hb
    go_wp2
    go_ret2
    exact ⟨rfl, HB.out⟩
  · rw [hq] at HI
    rcases hq2 : pzB V ys s with _ | _
    · rw [asfV_no (asfB_2 hq2), asfB_2 hq2]
      rw [hq2] at HI2
      obtain ⟨t1, ht1⟩ : ∃ t, t = pzT W zs s := ⟨_, rfl⟩
      obtain ⟨t2, ht2⟩ : ∃ t, t = pzT V ys s := ⟨_, rfl⟩
      rw [← ht1] at HI
      rw [← ht2] at HI2
      clear hq h h2 ht1 ht2 hq2
      go_enter Try.func33, Try.ntmps33
      have a0 := HA.out.c0; have a1 := HA.out.c1; have az := HA.out.lt
      go_wp2_with fail
      refine (HI.out _ HA.out.ri).mono ?_
      rintro e w1 ⟨rfl, hb⟩
      replace HD := boxStep HD hb; replace HB := belStep HB hb
      have d0 := HD.out.c0; have d1 := HD.out.c1; have dz := HD.out.lt
      clear hb
      go_wp2_with fail
      refine (HI2.out _ HD.out.ri).mono ?_
      rintro e w2 ⟨rfl, hb⟩
      replace HB := belStep HB hb
      clear hb
      go_wp2
      go_ret2
      exact ⟨rfl, HB.out⟩
    · rw [asfV_yes (asfB_3 hq hq2), asfB_3 hq hq2]
      rw [hq2] at HI2
      obtain ⟨t1, ht1⟩ : ∃ t, t = pzT W zs s := ⟨_, rfl⟩
      obtain ⟨t2, ht2⟩ : ∃ t, t = pzT V ys s := ⟨_, rfl⟩
      rw [← ht1] at HI ⊢
      rw [← ht2] at HI2 ⊢
      clear hq h h2 ht1 ht2 hq2
      go_enter Try.func33, Try.ntmps33
      have a0 := HA.out.c0; have a1 := HA.out.c1; have az := HA.out.lt
      go_wp2_with fail
      refine (HI.out _ HA.out.ri).mono ?_
      rintro e w1 ⟨rfl, hb⟩
      replace HD := boxStep HD hb; replace HB := belStep HB hb
      have d0 := HD.out.c0; have d1 := HD.out.c1; have dz := HD.out.lt
      clear hb
      go_wp2_with fail
      refine (HI2.out _ HD.out.ri).mono ?_
      rintro e w2 ⟨rfl, hb⟩
      replace HB := belStep HB hb
      clear hb
      go_wp2
      go_ret2
      exact ⟨rfl, HB.out⟩

set_option maxRecDepth 100000 in
set_option maxHeartbeats 2000000 in
theorem sAreSameFor_any (W : Int) (A : Option Addr) (n c : Nat) (zs : List Int) (V : Int) (A2 : Option Addr) (n2 c2 : Nat) (ys : List Int) (s : ByteArray) (w : World) (h : RI w A n zs) (hn : n ≤ 1048576) (h2 : RI w A2 n2 ys) (hn2 : n2 ≤ 1048576) :
    Calls Try.prog 32 #[.agg #[.int .i64 W, .slice A n c], .agg #[.int .i64 V, .slice A2 n2 c2], .string s] w (RetBBz (asfV W zs V ys s) (asfB W zs V ys s) w) := by
  have hl := h.1
  have hl2 := h2.1
  have HA := boxAlloc (boxNew (W := W) (c := c) 29 h) (.cells #[.int .i64 V, .slice A2 n2 c2] 29)
  have HD := boxNew (wi := w.alloc (.cells #[.int .i64 W, .slice A n c] 29)) (W := V) (c := c2) 29 (h2.alloc _)
  have HB := belAlloc (belAlloc (belRefl (w := w)) (.cells #[.int .i64 W, .slice A n c] 29)) (.cells #[.int .i64 V, .slice A2 n2 c2] 29)
  simp only [World.size_alloc] at HD
  have HI := Lib.hid (fun w2 (r : RI w2 A n zs) => laGood_any W A n c zs w2 r hn)
  have HI2 := Lib.hid (fun w2 (r : RI w2 A2 n2 ys) => laGood_any V A2 n2 c2 ys w2 r hn2)
  rcases hq : lad W zs with _ | _
  · rw [asfV_no (asfB_1 (pzB_1 hq)), asfB_1 (pzB_1 hq)]
    rw [hq] at HI
    clear hq h h2
    go_enter Try.func32, Try.ntmps32
    have a0 := HA.out.c0; have a1 := HA.out.c1; have az := HA.out.lt
    go_wp2_with fail
    refine (HI.out _ HA.out.ri).mono ?_
    rintro e w1 ⟨rfl, hb⟩
    replace HB := belStep HB hb
    clear hb
    go_wp2
    go_ret2
    exact ⟨rfl, HB.out⟩
  · rw [hq] at HI
    have hW := (lad_iff.1 hq).1
    rcases hq2 : lad V ys with _ | _
    · rw [asfV_no (asfB_2 (pzB_1 hq2)), asfB_2 (pzB_1 hq2)]
      rw [hq2] at HI2
      clear hq h h2 hq2
      go_enter Try.func32, Try.ntmps32
      have a0 := HA.out.c0; have a1 := HA.out.c1; have az := HA.out.lt
      go_wp2_with fail
      refine (HI.out _ HA.out.ri).mono ?_
      rintro e w1 ⟨rfl, hb⟩
      replace HD := boxStep HD hb; replace HB := belStep HB hb
      have d0 := HD.out.c0; have d1 := HD.out.c1; have dz := HD.out.lt
      clear hb
      go_wp2_with fail
      refine (HI2.out _ HD.out.ri).mono ?_
      rintro e w2 ⟨rfl, hb⟩
      replace HB := belStep HB hb
      clear hb
      go_wp2
      go_ret2
      exact ⟨rfl, HB.out⟩
    · rw [hq2] at HI2
      have hV := (lad_iff.1 hq2).1
      by_cases hWV : W = V
      · subst hWV
        have HP := Lib.hid (fun w2 => mrPrizes_any s W w2 (by omega))
        rcases hp : prB s W with _ | _
        · rw [asfV_no (asfB_1 (pzB_2 hp)), asfB_1 (pzB_2 hp)]
          rw [hp] at HP
          clear hq h h2 hq2 hp
          go_enter Try.func32, Try.ntmps32
          have a0 := HA.out.c0; have a1 := HA.out.c1; have az := HA.out.lt
          go_wp2_with fail
          refine (HI.out _ HA.out.ri).mono ?_
          rintro e w1 ⟨rfl, hb⟩
          replace HA := boxStep HA hb; replace HD := boxStep HD hb; replace HB := belStep HB hb
          have d0 := HD.out.c0; have d1 := HD.out.c1; have dz := HD.out.lt
          clear hb
          go_wp2_with fail
          refine (HI2.out _ HD.out.ri).mono ?_
          rintro e w2 ⟨rfl, hb⟩
          replace HA := boxStep HA hb; replace HD := boxStep HD hb; replace HB := belStep HB hb
          replace d0 := HD.out.c0; replace d1 := HD.out.c1; replace dz := HD.out.lt
          replace a0 := HA.out.c0; replace a1 := HA.out.c1; replace az := HA.out.lt
          clear hb
          go_wp2_with (go_at_call 53; refine (HP.out _).mono ?_; rintro e w' ⟨rfl, rfl⟩)
          go_ret2
          exact ⟨rfl, HB.out⟩
        · have e1 := pzB_3 hq hp
          have e2 := pzB_3 hq2 hp
          rw [asfV_yes (asfB_3 e1 e2), asfB_3 e1 e2, pzT_yes e1, pzT_yes e2]
          rw [hp] at HP
          have hsz := prB_size hp
          have hn60 : n ≤ 60 := by have := (lad_iff.1 hq).2.1; omega
          have hn60' : n2 ≤ 60 := by have := (lad_iff.1 hq2).2.1; omega
          obtain ⟨N, rfl⟩ : ∃ N : Nat, W = (N : Int) := ⟨W.toNat, by omega⟩
          rw [Int.toNat_natCast]
          have HG := Lib.hid (fun w2 (r : RI w2 A n zs) => mrGiven_any N A n c zs s w2 r hn60 hq (by omega))
          have HG2 := Lib.hid (fun w2 (r : RI w2 A2 n2 ys) => mrGiven_any N A2 n2 c2 ys s w2 r hn60' hq2 (by omega))
          obtain ⟨t1, ht1⟩ : ∃ t, t = gvt zs s N := ⟨_, rfl⟩
          obtain ⟨t2, ht2⟩ : ∃ t, t = gvt ys s N := ⟨_, rfl⟩
          rw [← ht1] at HG ⊢
          rw [← ht2] at HG2 ⊢
          clear hq h h2 hq2 hp ht1 ht2 e1 e2 hsz
          go_enter Try.func32, Try.ntmps32
          have a0 := HA.out.c0; have a1 := HA.out.c1; have az := HA.out.lt
          go_wp2_with fail
          refine (HI.out _ HA.out.ri).mono ?_
          rintro e w1 ⟨rfl, hb⟩
          replace HA := boxStep HA hb; replace HD := boxStep HD hb; replace HB := belStep HB hb
          have d0 := HD.out.c0; have d1 := HD.out.c1; have dz := HD.out.lt
          clear hb
          go_wp2_with fail
          refine (HI2.out _ HD.out.ri).mono ?_
          rintro e w2 ⟨rfl, hb⟩
          replace HA := boxStep HA hb; replace HD := boxStep HD hb; replace HB := belStep HB hb
          replace d0 := HD.out.c0; replace d1 := HD.out.c1; replace dz := HD.out.lt
          replace a0 := HA.out.c0; replace a1 := HA.out.c1; replace az := HA.out.lt
          clear hb
          go_upto_region 3 with (go_at_call 53; refine (HP.out _).mono ?_; rintro e w' ⟨rfl, rfl⟩)
          have KS := Lib.hid (fun (wx : World) (hb : Below w2.heap.size w2 wx) => (⟨(hb.cell (p := ⟨w.heap.size, 0, none⟩) az).trans a0, (hb.cell (p := ⟨w.heap.size, 1, none⟩) az).trans a1, (hb.cell (p := ⟨w.heap.size + 1, 0, none⟩) dz).trans d0, (hb.cell (p := ⟨w.heap.size + 1, 1, none⟩) dz).trans d1⟩ : wx.cell? ⟨w.heap.size, 0, none⟩ = some (.int .i64 (N : Int)) ∧ wx.cell? ⟨w.heap.size, 1, none⟩ = some (.slice A n c) ∧ wx.cell? ⟨w.heap.size + 1, 0, none⟩ = some (.int .i64 (N : Int)) ∧ wx.cell? ⟨w.heap.size + 1, 1, none⟩ = some (.slice A2 n2 c2)))
          have RA := Lib.hid (fun (wx : World) (hb : Below w2.heap.size w2 wx) => HA.out.ri.below hb (Nat.le_refl _))
          have RD := Lib.hid (fun (wx : World) (hb : Below w2.heap.size w2 wx) => HD.out.ri.below hb (Nat.le_refl _))
          go_region_held3 (fun w' => w'.cell? ⟨w.heap.size, 0, none⟩ = some (.int .i64 (N : Int)) ∧ w'.cell? ⟨w.heap.size, 1, none⟩ = some (.slice A n c) ∧ w'.cell? ⟨w.heap.size + 1, 0, none⟩ = some (.int .i64 (N : Int)) ∧ w'.cell? ⟨w.heap.size + 1, 1, none⟩ = some (.slice A2 n2 c2))
            (with_reducible first | exact KS.out _ (hidOut (belDrew belRefl)) | exact KS.out _ (hidOut belRefl) | exact KS.out _ (hidOut b6) | exact KS.out _ (hidOut b7))
            (first
              | (have hx := b6; go_at_call 54; (with_reducible first | refine (HG.out _ (RA.out _ b6.out)).mono ?_ | refine (HG2.out _ (RD.out _ b6.out)).mono ?_); rintro e w7 ⟨rfl, hb⟩; have b7 : Hid (Below w2.heap.size w2 w7) := b6.out.trans (hb.mono b6.out.size); clear hb)
              | (go_at_call 54; (with_reducible first | refine (HG.out _ (RA.out _ (hidOut (belDrew belRefl)))).mono ?_ | refine (HG2.out _ (RD.out _ (hidOut (belDrew belRefl)))).mono ?_); rintro e w6 ⟨rfl, hb⟩; have b6 : Hid (Below w2.heap.size w2 w6) := (Below.refl _ _).drew.trans hb; clear hb))
          all_goals
            go_wp2
            go_ret2
            exact ⟨rfl, HB.out.trans (b7.out.mono HB.out.size)⟩
      · have hne : (W != V) = true := by rw [bne_iff_ne]; exact hWV
        have eb : asfB W zs V ys s = false := by
          rw [← Bool.not_eq_true]
          intro e
          unfold asfB pzB at e
          rw [Bool.and_eq_true, Bool.and_eq_true, Bool.and_eq_true] at e
          have := prB_size e.1.2
          have := prB_size e.2.2
          omega
        rw [asfV_no eb, eb]
        clear hq h h2 hq2 eb hWV
        go_enter Try.func32, Try.ntmps32
        have a0 := HA.out.c0; have a1 := HA.out.c1; have az := HA.out.lt
        go_wp2_with fail
        refine (HI.out _ HA.out.ri).mono ?_
        rintro e w1 ⟨rfl, hb⟩
        replace HA := boxStep HA hb; replace HD := boxStep HD hb; replace HB := belStep HB hb
        have d0 := HD.out.c0; have d1 := HD.out.c1; have dz := HD.out.lt
        clear hb
        go_wp2_with fail
        refine (HI2.out _ HD.out.ri).mono ?_
        rintro e w2 ⟨rfl, hb⟩
        replace HA := boxStep HA hb; replace HD := boxStep HD hb; replace HB := belStep HB hb
        replace d0 := HD.out.c0; replace d1 := HD.out.c1; replace dz := HD.out.lt
        replace a0 := HA.out.c0; replace a1 := HA.out.c1; replace az := HA.out.lt
        clear hb
        go_wp2
        go_ret2
        exact ⟨rfl, HB.out⟩
end Go.Proofs.Ythalcjgpjagcoaa
