/- The contracts of RepeatLadder for every argument, of the program and of its model. -/
import Derived.Test.YtpkeafdleonalaaRp2
import Derived.Test.YtpkeafdleonalaaC1o
import Derived.IntWalk
namespace Go.Proofs.Ytpkeafdleonalaa
open Go Go.RowKit

theorem repB_1 {W : Int} {zs : List Int} {k : Int} (h : lad W zs = false) : repB W zs k = false := by unfold repB; rw [h]; rfl
theorem repB_2 {W : Int} {zs : List Int} {k : Int} (h : ¬ (0 ≤ k ∧ (zs.length = 0 ∨ k.toNat * zs.length ≤ 60))) : repB W zs k = false := by unfold repB; rw [decide_eq_false h, Bool.and_false]
theorem repB_3 {W : Int} {zs : List Int} {k : Int} (h : lad W zs = true) (h2 : 0 ≤ k ∧ (zs.length = 0 ∨ k.toNat * zs.length ≤ 60)) : repB W zs k = true := by unfold repB; rw [h, decide_eq_true h2]; rfl
theorem repL_0 {zs : List Int} {k : Int} (h : zs.length = 0) : repL zs k = [] := by unfold repL; rw [if_pos h]
theorem repL_1 {zs : List Int} {k : Int} (h : 0 < zs.length) : repL zs k = cat (fun _ => zs) k.toNat := by unfold repL; rw [if_neg (by omega)]

set_option maxRecDepth 100000 in
set_option maxHeartbeats 4000000 in
theorem iRepeat_no (W : Int) (A : Option Addr) (n c : Nat) (zs : List Int) (x : Int) (w : World) (h : RI w A n zs) (hn : n ≤ 1048576) (hno : lad W zs = false ∨ (lad W zs = true ∧ x < 0) ∨ (lad W zs = true ∧ 0 ≤ x ∧ (0 < n ∧ 60 < x))) :
    Calls Try.prog 23 #[.agg #[.int .i64 W, .slice A n c], .int .i64 x] w (FreshLB w 0 0 [] false) := by
  rcases hno with hq | ⟨hq, hno⟩ | ⟨hq, hx, hno⟩
  all_goals
    have HQ := Lib.hid hq
    clear hq
  · go_enter Try.func23, Try.ntmps23
    go_wp2_with fail
    have HB := belAlloc (belAlloc (belRefl (w := w)) (.cells #[.int .i64 W, .slice A n c] 31)) (.cells #[.int .i64 0, .slice none 0 0] 31)
    have HA := boxAlloc (boxNew (W := W) (c := c) 31 h) (.cells #[.int .i64 0, .slice none 0 0] 31)
    have HC := cellNew (w.alloc (.cells #[.int .i64 W, .slice A n c] 31)) (.int .i64 0) (.slice none 0 0) 31
    refine (iIsLadder_any W A n c zs _ HA.out.ri hn).mono ?_
    rw [HQ.out]
    rintro e w1 ⟨rfl, hb⟩
    replace HA := boxStep HA hb
    replace HB := belStep HB hb
    replace HC := cellStep HC hb
    have a0 := HA.out.c0; have a1 := HA.out.c1; have az := HA.out.lt
    have k0 := HC.out.c0; have k1 := HC.out.c1; have f0 := HC.out.f0; have f1 := HC.out.f1; have hz := HC.out.lt
    simp only [World.size_alloc] at k0 k1 f0 f1 hz
    clear hb h
    go_wp2
    exact bodyPost_ret (v := .tuple #[.agg #[.int .i64 0, .slice none 0 0], .bool false]) (by simp [results, Try.results23, go_sem, k0, k1]) rfl ⟨none, 0, rfl, OI.none_ _ _, (by repeat (first | exact Below.refl _ _ | exact HB.out | refine Below.setCell ?_ (by simp <;> omega) _ | refine Below.alloc ?_ (by simp <;> omega) _ | refine below_drewN ?_ _))⟩
  · go_enter Try.func23, Try.ntmps23
    go_wp2_with fail
    have HB := belAlloc (belAlloc (belRefl (w := w)) (.cells #[.int .i64 W, .slice A n c] 31)) (.cells #[.int .i64 0, .slice none 0 0] 31)
    have HA := boxAlloc (boxNew (W := W) (c := c) 31 h) (.cells #[.int .i64 0, .slice none 0 0] 31)
    have HC := cellNew (w.alloc (.cells #[.int .i64 W, .slice A n c] 31)) (.int .i64 0) (.slice none 0 0) 31
    refine (iIsLadder_any W A n c zs _ HA.out.ri hn).mono ?_
    rw [HQ.out]
    rintro e w1 ⟨rfl, hb⟩
    replace HA := boxStep HA hb
    replace HB := belStep HB hb
    replace HC := cellStep HC hb
    have a0 := HA.out.c0; have a1 := HA.out.c1; have az := HA.out.lt
    have k0 := HC.out.c0; have k1 := HC.out.c1; have f0 := HC.out.f0; have f1 := HC.out.f1; have hz := HC.out.lt
    simp only [World.size_alloc] at k0 k1 f0 f1 hz
    clear hb h
    go_wp2
    exact bodyPost_ret (v := .tuple #[.agg #[.int .i64 0, .slice none 0 0], .bool false]) (by simp [results, Try.results23, go_sem, k0, k1]) rfl ⟨none, 0, rfl, OI.none_ _ _, (by repeat (first | exact Below.refl _ _ | exact HB.out | refine Below.setCell ?_ (by simp <;> omega) _ | refine Below.alloc ?_ (by simp <;> omega) _ | refine below_drewN ?_ _))⟩
  · have i1 : 60 < x := hno.2
    have i2 : ¬ ((n : Int) = 0) := by omega
    go_enter Try.func23, Try.ntmps23
    go_wp2_with fail
    have HB := belAlloc (belAlloc (belRefl (w := w)) (.cells #[.int .i64 W, .slice A n c] 31)) (.cells #[.int .i64 0, .slice none 0 0] 31)
    have HA := boxAlloc (boxNew (W := W) (c := c) 31 h) (.cells #[.int .i64 0, .slice none 0 0] 31)
    have HC := cellNew (w.alloc (.cells #[.int .i64 W, .slice A n c] 31)) (.int .i64 0) (.slice none 0 0) 31
    refine (iIsLadder_any W A n c zs _ HA.out.ri hn).mono ?_
    rw [HQ.out]
    rintro e w1 ⟨rfl, hb⟩
    replace HA := boxStep HA hb
    replace HB := belStep HB hb
    replace HC := cellStep HC hb
    have a0 := HA.out.c0; have a1 := HA.out.c1; have az := HA.out.lt
    have k0 := HC.out.c0; have k1 := HC.out.c1; have f0 := HC.out.f0; have f1 := HC.out.f1; have hz := HC.out.lt
    simp only [World.size_alloc] at k0 k1 f0 f1 hz
    clear hb h
    go_wp2
    exact bodyPost_ret (v := .tuple #[.agg #[.int .i64 0, .slice none 0 0], .bool false]) (by simp [results, Try.results23, go_sem, k0, k1]) rfl ⟨none, 0, rfl, OI.none_ _ _, (by repeat (first | exact Below.refl _ _ | exact HB.out | refine Below.setCell ?_ (by simp <;> omega) _ | refine Below.alloc ?_ (by simp <;> omega) _ | refine below_drewN ?_ _))⟩

set_option maxRecDepth 100000 in
set_option maxHeartbeats 4000000 in
theorem sRepeat_no (W : Int) (A : Option Addr) (n c : Nat) (zs : List Int) (x : Int) (w : World) (h : RI w A n zs) (hn : n ≤ 1048576) (hno : lad W zs = false ∨ (lad W zs = true ∧ x < 0) ∨ (lad W zs = true ∧ 0 ≤ x ∧ (0 < n ∧ ((60 / n : Nat) : Int) < x))) :
    Calls Try.prog 22 #[.agg #[.int .i64 W, .slice A n c], .int .i64 x] w (FreshLB w 0 0 [] false) := by
  rcases hno with hq | ⟨hq, hno⟩ | ⟨hq, hx, hno⟩
  all_goals
    have HQ := Lib.hid hq
    clear hq
  · go_enter Try.func22, Try.ntmps22
    go_wp2_with fail
    have HB := belAlloc (belAlloc (belRefl (w := w)) (.cells #[.int .i64 W, .slice A n c] 31)) (.cells #[.int .i64 0, .slice none 0 0] 31)
    have HA := boxAlloc (boxNew (W := W) (c := c) 31 h) (.cells #[.int .i64 0, .slice none 0 0] 31)
    have HC := cellNew (w.alloc (.cells #[.int .i64 W, .slice A n c] 31)) (.int .i64 0) (.slice none 0 0) 31
    refine (laGood_any W A n c zs _ HA.out.ri hn).mono ?_
    rw [HQ.out]
    rintro e w1 ⟨rfl, hb⟩
    replace HA := boxStep HA hb
    replace HB := belStep HB hb
    replace HC := cellStep HC hb
    have a0 := HA.out.c0; have a1 := HA.out.c1; have az := HA.out.lt
    have k0 := HC.out.c0; have k1 := HC.out.c1; have f0 := HC.out.f0; have f1 := HC.out.f1; have hz := HC.out.lt
    simp only [World.size_alloc] at k0 k1 f0 f1 hz
    clear hb h
    go_wp2
    exact bodyPost_ret (v := .tuple #[.agg #[.int .i64 0, .slice none 0 0], .bool false]) (by simp [results, Try.results22, go_sem, k0, k1]) rfl ⟨none, 0, rfl, OI.none_ _ _, (by repeat (first | exact Below.refl _ _ | exact HB.out | refine Below.setCell ?_ (by simp <;> omega) _ | refine Below.alloc ?_ (by simp <;> omega) _ | refine below_drewN ?_ _))⟩
  · go_enter Try.func22, Try.ntmps22
    go_wp2_with fail
    have HB := belAlloc (belAlloc (belRefl (w := w)) (.cells #[.int .i64 W, .slice A n c] 31)) (.cells #[.int .i64 0, .slice none 0 0] 31)
    have HA := boxAlloc (boxNew (W := W) (c := c) 31 h) (.cells #[.int .i64 0, .slice none 0 0] 31)
    have HC := cellNew (w.alloc (.cells #[.int .i64 W, .slice A n c] 31)) (.int .i64 0) (.slice none 0 0) 31
    refine (laGood_any W A n c zs _ HA.out.ri hn).mono ?_
    rw [HQ.out]
    rintro e w1 ⟨rfl, hb⟩
    replace HA := boxStep HA hb
    replace HB := belStep HB hb
    replace HC := cellStep HC hb
    have a0 := HA.out.c0; have a1 := HA.out.c1; have az := HA.out.lt
    have k0 := HC.out.c0; have k1 := HC.out.c1; have f0 := HC.out.f0; have f1 := HC.out.f1; have hz := HC.out.lt
    simp only [World.size_alloc] at k0 k1 f0 f1 hz
    clear hb h
    go_wp2
    exact bodyPost_ret (v := .tuple #[.agg #[.int .i64 0, .slice none 0 0], .bool false]) (by simp [results, Try.results22, go_sem, k0, k1]) rfl ⟨none, 0, rfl, OI.none_ _ _, (by repeat (first | exact Below.refl _ _ | exact HB.out | refine Below.setCell ?_ (by simp <;> omega) _ | refine Below.alloc ?_ (by simp <;> omega) _ | refine below_drewN ?_ _))⟩
  · have i2 : ¬ ((n : Int) = 0) := by omega
    have i3 : (0 : Int) < (n : Int) := by omega
    have i4 : Int.tdiv 60 (n : Int) = ((60 / n : Nat) : Int) := by rw [Int.tdiv_eq_ediv_of_nonneg (by omega)]; simp
    obtain ⟨d, hd⟩ : ∃ d : Nat, d = 60 / n := ⟨_, rfl⟩
    have hno2 := hno.2
    have d1 : d ≤ 60 := by rw [hd]; exact Nat.div_le_self _ _
    rw [← hd] at hno2 i4
    clear hd hno
    go_enter Try.func22, Try.ntmps22
    go_wp2_with fail
    have HB := belAlloc (belAlloc (belRefl (w := w)) (.cells #[.int .i64 W, .slice A n c] 31)) (.cells #[.int .i64 0, .slice none 0 0] 31)
    have HA := boxAlloc (boxNew (W := W) (c := c) 31 h) (.cells #[.int .i64 0, .slice none 0 0] 31)
    have HC := cellNew (w.alloc (.cells #[.int .i64 W, .slice A n c] 31)) (.int .i64 0) (.slice none 0 0) 31
    refine (laGood_any W A n c zs _ HA.out.ri hn).mono ?_
    rw [HQ.out]
    rintro e w1 ⟨rfl, hb⟩
    replace HA := boxStep HA hb
    replace HB := belStep HB hb
    replace HC := cellStep HC hb
    have a0 := HA.out.c0; have a1 := HA.out.c1; have az := HA.out.lt
    have k0 := HC.out.c0; have k1 := HC.out.c1; have f0 := HC.out.f0; have f1 := HC.out.f1; have hz := HC.out.lt
    simp only [World.size_alloc] at k0 k1 f0 f1 hz
    clear hb h
    go_wp2
    exact bodyPost_ret (v := .tuple #[.agg #[.int .i64 0, .slice none 0 0], .bool false]) (by simp [results, Try.results22, go_sem, k0, k1]) rfl ⟨none, 0, rfl, OI.none_ _ _, (by repeat (first | exact Below.refl _ _ | exact HB.out | refine Below.setCell ?_ (by simp <;> omega) _ | refine Below.alloc ?_ (by simp <;> omega) _ | refine below_drewN ?_ _))⟩

set_option maxRecDepth 100000 in
set_option maxHeartbeats 4000000 in
theorem sRepeat_some (W : Int) (A : Option Addr) (n c : Nat) (zs : List Int) (k : Nat) (w : World) (h : RI w A n zs) (hn : n ≤ 60) (hq : lad W zs = true) (h0 : 0 < n) (hk : k * n ≤ 60) :
    Calls Try.prog 22 #[.agg #[.int .i64 W, .slice A n c], .int .i64 (k : Int)] w (FreshLB w W (k * n) (cat (fun _ => zs) k) true) := by
  have HW := Lib.hid hq
  clear hq
  have i0 : (0 : Int) ≤ (k : Int) := Int.natCast_nonneg _
  have i2 : ¬ ((n : Int) = 0) := by omega
  have i3 : (0 : Int) < (n : Int) := by omega
  have i4 : Int.tdiv 60 (n : Int) = ((60 / n : Nat) : Int) := by rw [Int.tdiv_eq_ediv_of_nonneg (by omega)]; simp
  have i5 : k ≤ 60 / n := (Nat.le_div_iff_mul_le h0).2 hk
  obtain ⟨d, hd⟩ : ∃ d : Nat, d = 60 / n := ⟨_, rfl⟩
  have d1 : d ≤ 60 := by rw [hd]; exact Nat.div_le_self _ _
  rw [← hd] at i4 i5
  have b1 : decide (d < k) = false := decide_eq_false (by omega)
  have b2 : decide ((k : Int) < 0) = false := decide_eq_false (by omega)
  clear hd
  go_enter Try.func22, Try.ntmps22
  go_wp2_with fail
  have HA := boxAlloc (boxNew (W := W) (c := c) 31 h) (.cells #[.int .i64 0, .slice none 0 0] 31)
  have HB := belAlloc (belAlloc (belRefl (w := w)) (.cells #[.int .i64 W, .slice A n c] 31)) (.cells #[.int .i64 0, .slice none 0 0] 31)
  have HC := cellNew (w.alloc (.cells #[.int .i64 W, .slice A n c] 31)) (.int .i64 0) (.slice none 0 0) 31
  refine (laGood_any W A n c zs _ HA.out.ri (by omega)).mono ?_
  rw [HW.out]
  rintro e w1 ⟨rfl, hb⟩
  replace HA := boxStep HA hb
  replace HB := belStep HB hb
  replace HC := cellStep HC hb
  have a0 := HA.out.c0; have a1 := HA.out.c1; have az := HA.out.lt
  have cz := HC.out.lt
  simp only [World.size_alloc] at cz
  clear hb h
  go_wp2
  have HM := cellNew w1 (.int .i64 W) (.slice none 0 0) 31
  go_loopw [1] (fun s1 wr => ∃ (j : Nat) (A1 : Option Addr) (c1 : Nat), j ≤ k ∧ s1 = .int .i64 ((k : Int) - (j : Int)) ∧ Cell2 wr w1.heap.size (.int .i64 W) (.slice A1 (j * n) c1) ∧ OI wr (w1.heap.size + 1) A1 (j * n) c1 (cat (fun _ => zs) j) ∧ Below w1.heap.size w1 wr) (fun s1 _ => (intOf s1).toNat)
  case atStart => exact ⟨0, none, 0, Nat.zero_le _, by simp, by rw [Nat.zero_mul]; exact HM.out, by rw [Nat.zero_mul]; exact OI.none_ _ _, (Below.refl _ _).alloc (Nat.le_refl _) _⟩
  case round =>
    obtain ⟨j, A1, c1, hj, rfl, hm, ho, hb⟩ := hrel
    have HMr := Lib.hid hm
    have HO := Lib.hid ho
    have H1R := Lib.hid hb
    have HBX : Hid (BoxB wr w1.heap.size w.heap.size W A n c zs) := (BoxB.of HA.out).step hb
    have HCr := cellBelow HC (by simp; omega) hb
    clear a0 a1 hm ho hb
    have a0 := HBX.out.c0; have a1 := HBX.out.c1
    have m0 := HMr.out.c0; have m1 := HMr.out.c1; have mf0 := HMr.out.f0; have mf1 := HMr.out.f1
    have zr : w1.heap.size < wr.heap.size := HMr.out.lt
    have azr : w.heap.size < wr.heap.size := by omega
    have i6 : (0 : Int) < (n : Int) := by omega
    have hjn : j * n ≤ 60 := Nat.le_trans (Nat.mul_le_mul_right n hj) hk
    obtain ⟨m, hmj⟩ : ∃ m, m = j * n := ⟨_, rfl⟩
    rw [← hmj] at HMr HO m1 hjn
    have HMJ := Lib.hid hmj
    by_cases hlt : j < k
    · have i7 : (0 : Int) < (k : Int) - (j : Int) := by omega
      clear hmj
      go_wp2_with (at_builtin; refine wpList_append_ints _ rfl _ _ rfl (w1.heap.size + 1) A1 m c1 _ A n c zs rfl rfl HO.out HBX.out.rb.ri (by omega) (by omega) (by omega) ?_; intro A2 c2 w2 ho2 hg2; have HM2 := cellKeptNe HMr hg2 HO.out (Nat.lt_succ_self _); have H1R2 : Hid (Below w1.heap.size w1 w2) := H1R.out.trans (ofMark HO.out hg2 (Nat.le_succ _) (by omega)); have HO2 := Lib.hid ho2; have n0 := HM2.out.c0; have n1 := HM2.out.c1; have nf0 := HM2.out.f0; have nf1 := HM2.out.f1; have nz := HM2.out.lt; clear ho2 hg2)
      go_roundw
      case rel =>
        have e : m + n = (j + 1) * n := by rw [HMJ.out, Nat.succ_mul]
        refine ⟨j + 1, A2, c2, by omega, by go_num, ?_, ?_, H1R2.out.setCell (by simp) _⟩
        · rw [← e]; exact (cellSet1 HM2 _).out
        · rw [← e]; exact HO2.out.setBelow (by simp) _
      case measure => simp [intOf]; omega
    · obtain rfl : j = k := by omega
      have i7 : ¬ ((0 : Int) < (j : Int) - (j : Int)) := by omega
      have k0 := HCr.out.c0; have k1 := HCr.out.c1; have f0 := HCr.out.f0; have f1 := HCr.out.f1
      simp only [World.size_alloc] at k0 k1 f0 f1
      have HBr : Hid (Below w.heap.size w wr) := HB.out.trans (H1R.out.mono HB.out.size)
      have HO3 : Hid (OI wr (w1.heap.size + 1) A1 (j * n) c1 (cat (fun _ => zs) j)) := by have := HO.out; rwa [hmj] at this
      clear hmj
      go_wp2
      exact bodyPost_ret (v := .tuple #[.agg #[.int .i64 W, .slice A1 m c1], .bool true]) (by simp [results, Try.results22, go_sem, k0, k1]) rfl
        ⟨A1, c1, by rw [HMJ.out], ((HO3.out.setBelow (by simp <;> omega) _).setBelow (by simp <;> omega) _).mono (by omega), (HBr.out.setCell (by simp) _).setCell (by simp) _⟩

set_option maxRecDepth 100000 in
set_option maxHeartbeats 4000000 in
theorem sRepeat_none (W : Int) (A : Option Addr) (c : Nat) (zs : List Int) (x : Int) (w : World) (h : RI w A 0 zs) (hq : lad W zs = true) (hk : 0 ≤ x) :
    Calls Try.prog 22 #[.agg #[.int .i64 W, .slice A 0 c], .int .i64 x] w (FreshLB w W (0) ([]) true) := by
  have HW := Lib.hid hq
  clear hq
  have b2 : decide (x < 0) = false := decide_eq_false (by omega)
  go_enter Try.func22, Try.ntmps22
  go_wp2_with fail
  have HA := boxAlloc (boxNew (W := W) (c := c) 31 h) (.cells #[.int .i64 0, .slice none 0 0] 31)
  have HB := belAlloc (belAlloc (belRefl (w := w)) (.cells #[.int .i64 W, .slice A 0 c] 31)) (.cells #[.int .i64 0, .slice none 0 0] 31)
  have HC := cellNew (w.alloc (.cells #[.int .i64 W, .slice A 0 c] 31)) (.int .i64 0) (.slice none 0 0) 31
  refine (laGood_any W A 0 c zs _ HA.out.ri (by omega)).mono ?_
  rw [HW.out]
  rintro e w1 ⟨rfl, hb⟩
  replace HA := boxStep HA hb
  replace HB := belStep HB hb
  replace HC := cellStep HC hb
  have a0 := HA.out.c0; have a1 := HA.out.c1; have az := HA.out.lt
  have cz := HC.out.lt
  simp only [World.size_alloc] at cz
  clear hb h
  go_wp2
  have HM := cellNew w1 (.int .i64 W) (.slice none 0 0) 31
  go_loopw [1] (fun s1 wr => s1 = .int .i64 x ∧ Cell2 wr w1.heap.size (.int .i64 W) (.slice none 0 0) ∧ Below w1.heap.size w1 wr) (fun s1 _ => 0)
  case atStart => exact ⟨rfl, HM.out, (Below.refl _ _).alloc (Nat.le_refl _) _⟩
  case round =>
    obtain ⟨rfl, hm, hb⟩ := hrel
    have HMr := Lib.hid hm
    have H1R := Lib.hid hb
    have HBX : Hid (BoxB wr w1.heap.size w.heap.size W A 0 c zs) := (BoxB.of HA.out).step hb
    have HCr := cellBelow HC (by simp; omega) hb
    clear a0 a1 hm hb
    have a0 := HBX.out.c0; have a1 := HBX.out.c1
    have m0 := HMr.out.c0; have m1 := HMr.out.c1; have mf0 := HMr.out.f0; have mf1 := HMr.out.f1
    have zr : w1.heap.size < wr.heap.size := HMr.out.lt
    have azr : w.heap.size < wr.heap.size := by omega
    have k0 := HCr.out.c0; have k1 := HCr.out.c1; have f0 := HCr.out.f0; have f1 := HCr.out.f1
    simp only [World.size_alloc] at k0 k1 f0 f1
    have HBr : Hid (Below w.heap.size w wr) := HB.out.trans (H1R.out.mono HB.out.size)
    by_cases hx : 0 < x
    all_goals
      go_wp2
      exact bodyPost_ret (v := .tuple #[.agg #[.int .i64 W, .slice none 0 0], .bool true]) (by simp [results, Try.results22, go_sem, k0, k1]) rfl
        ⟨none, 0, rfl, OI.none_ _ _, (HBr.out.setCell (by simp) _).setCell (by simp) _⟩

theorem iRepeatLadder_any (W : Int) (A : Option Addr) (n c : Nat) (zs : List Int) (k : Int) (w : World) (h : RI w A n zs) (hn : n ≤ 1048576) :
    Calls Try.prog 23 #[.agg #[.int .i64 W, .slice A n c], .int .i64 k] w
      (FreshLB w (ifW (repB W zs k) W) (ifL (repB W zs k) (repL zs k)).length (ifL (repB W zs k) (repL zs k)) (repB W zs k)) := by
  have hl := h.1
  rcases hq : lad W zs with _ | _
  · rw [repB_1 hq, ifW_no, ifL_no]
    exact iRepeat_no W A n c zs k w h hn (.inl hq)
  · have hn60 : n ≤ 60 := by have := (lad_iff.1 hq).2.1; omega
    by_cases hk : 0 ≤ k
    · by_cases h0 : n = 0
      · subst h0
        rw [repB_3 hq ⟨hk, .inl hl⟩, repL_0 hl, ifW_yes, ifL_yes]
        have := iRepeat_none W A c zs k w h hq hk
        rw [show cat (fun _ => zs) 0 = [] from rfl, lad_nil hq, ifW_yes, ifL_yes] at this
        exact this
      · by_cases h6 : k ≤ 60
        · obtain ⟨j, rfl⟩ : ∃ j : Nat, k = (j : Int) := ⟨k.toNat, by omega⟩
          have hr := iRepeat_some W A n c zs j w h hn60 hq (by omega) (by omega)
          have e : repB W zs (j : Int) = lad W (cat (fun _ => zs) j) := by
            rw [lad_rep hq]
            unfold repB
            rw [hq, Bool.true_and, Int.toNat_natCast]
            exact decide_eq_decide.2 ⟨fun g => by rcases g.2 with g | g <;> omega, fun g => ⟨hk, .inr g⟩⟩
          rw [e, repL_1 (by omega), Int.toNat_natCast]
          exact hr
        · have hm : ¬ (0 ≤ k ∧ (zs.length = 0 ∨ k.toNat * zs.length ≤ 60)) := by
            rintro ⟨_, g | g⟩
            · omega
            · have : k.toNat * 1 ≤ k.toNat * zs.length := Nat.mul_le_mul_left _ (by omega)
              omega
          rw [repB_2 hm, ifW_no, ifL_no]
          exact iRepeat_no W A n c zs k w h hn (.inr (.inr ⟨hq, hk, by omega, by omega⟩))
    · rw [repB_2 (fun g => hk g.1), ifW_no, ifL_no]
      exact iRepeat_no W A n c zs k w h hn (.inr (.inl ⟨hq, by omega⟩))

theorem sRepeatLadder_any (W : Int) (A : Option Addr) (n c : Nat) (zs : List Int) (k : Int) (w : World) (h : RI w A n zs) (hn : n ≤ 1048576) :
    Calls Try.prog 22 #[.agg #[.int .i64 W, .slice A n c], .int .i64 k] w
      (FreshLB w (ifW (repB W zs k) W) (ifL (repB W zs k) (repL zs k)).length (ifL (repB W zs k) (repL zs k)) (repB W zs k)) := by
  have hl := h.1
  rcases hq : lad W zs with _ | _
  · rw [repB_1 hq, ifW_no, ifL_no]
    exact sRepeat_no W A n c zs k w h hn (.inl hq)
  · have hn60 : n ≤ 60 := by have := (lad_iff.1 hq).2.1; omega
    by_cases hk : 0 ≤ k
    · by_cases h0 : n = 0
      · subst h0
        rw [repB_3 hq ⟨hk, .inl hl⟩, repL_0 hl, ifW_yes, ifL_yes]
        exact sRepeat_none W A c zs k w h hq hk
      · obtain ⟨j, rfl⟩ : ∃ j : Nat, k = (j : Int) := ⟨k.toNat, by omega⟩
        by_cases h6 : j * n ≤ 60
        · rw [repB_3 hq ⟨hk, .inr (by rw [Int.toNat_natCast, hl]; exact h6)⟩, repL_1 (by omega), ifW_yes, ifL_yes, Int.toNat_natCast, cat_rep_length, hl]
          exact sRepeat_some W A n c zs j w h hn60 hq (by omega) h6
        · have hm : ¬ (0 ≤ (j : Int) ∧ (zs.length = 0 ∨ (j : Int).toNat * zs.length ≤ 60)) := by
            rintro ⟨_, g | g⟩
            · omega
            · rw [Int.toNat_natCast, hl] at g; exact h6 g
          rw [repB_2 hm, ifW_no, ifL_no]
          have hd : 60 / n < j := by
            rcases Nat.lt_or_ge (60 / n) j with g | g
            · exact g
            · exact absurd ((Nat.le_div_iff_mul_le (by omega)).1 g) h6
          exact sRepeat_no W A n c zs _ w h hn (.inr (.inr ⟨hq, hk, by omega, by omega⟩))
    · rw [repB_2 (fun g => hk g.1), ifW_no, ifL_no]
      exact sRepeat_no W A n c zs k w h hn (.inr (.inl ⟨hq, by omega⟩))
end Go.Proofs.Ytpkeafdleonalaa
