/- The taking game of the program: who can win, how long it lasts, good rungs, and the line. -/
import Derived.Test.YtiapbmgpjloafaaGt1
import Derived.Test.YtiapbmgpjloafaaMgD
import Derived.Test.YtiapbmgpjloafaaStL
import Derived.Carry
namespace Go.Proofs.Ytiapbmgpjloafaa
open Go Go.RowKit

/-- who can win -/
def tkwB (W : Int) (zs : List Int) : Bool := tkB W zs && (ovS zs W.toNat (2 ^ zs.length - 1)).1
theorem tkwB_no {W : Int} {zs : List Int} (h : tkB W zs = false) : tkwB W zs = false := by unfold tkwB; rw [h]; rfl
theorem tkwB_yes {W : Int} {zs : List Int} (h : tkB W zs = true) : tkwB W zs = (ovS zs W.toNat (2 ^ zs.length - 1)).1 := by unfold tkwB; rw [h]; rfl
/-- how many moves are made -/
def tklN (W : Int) (zs : List Int) : Int := if tkB W zs = true then ((ovS zs W.toNat (2 ^ zs.length - 1)).2 : Int) else 0
theorem tklN_no {W : Int} {zs : List Int} (h : tkB W zs = false) : tklN W zs = 0 := by unfold tklN; rw [h]; rfl
theorem tklN_yes {W : Int} {zs : List Int} (h : tkB W zs = true) : tklN W zs = ((ovS zs W.toNat (2 ^ zs.length - 1)).2 : Int) := by unfold tklN; rw [if_pos h]
/-- good rungs -/
def tkgL (W : Int) (zs : List Int) : List Int := if tkB W zs = true then gdT (chL zs W.toNat) nxT (ovS zs W.toNat) (2 ^ zs.length - 1) else []
theorem tkgL_no {W : Int} {zs : List Int} (h : tkB W zs = false) : tkgL W zs = [] := by unfold tkgL; rw [h]; rfl
theorem tkgL_yes {W : Int} {zs : List Int} (h : tkB W zs = true) : tkgL W zs = gdT (chL zs W.toNat) nxT (ovS zs W.toNat) (2 ^ zs.length - 1) := by unfold tkgL; rw [if_pos h]
/-- the line -/
def tkiL (W : Int) (zs : List Int) : List Int := if tkB W zs = true then lineF (chL zs W.toNat) nxT (ovS zs W.toNat) (2 ^ zs.length - 1 + 1) (2 ^ zs.length - 1) else []
theorem tkiL_no {W : Int} {zs : List Int} (h : tkB W zs = false) : tkiL W zs = [] := by unfold tkiL; rw [h]; rfl
theorem tkiL_yes {W : Int} {zs : List Int} (h : tkB W zs = true) : tkiL W zs = lineF (chL zs W.toNat) nxT (ovS zs W.toNat) (2 ^ zs.length - 1 + 1) (2 ^ zs.length - 1) := by unfold tkiL; rw [if_pos h]
theorem tkgL_le (W : Int) (zs : List Int) : (tkgL W zs).length ≤ 1000 := by
  rcases h : tkB W zs with _ | _
  · rw [tkgL_no h]; simp
  · rw [tkgL_yes h]
    have h1 := gdK_len (fun j => behP (ovS zs W.toNat (nxT (2 ^ zs.length - 1) (gi (chL zs W.toNat (2 ^ zs.length - 1)) j).toNat))) (chL zs W.toNat (2 ^ zs.length - 1)) (chL zs W.toNat (2 ^ zs.length - 1)).length
    have h2 := chL_len zs W.toNat (2 ^ zs.length - 1)
    have h3 := (tkB_iff.1 h).2.1
    unfold gdT
    omega
theorem tkiL_le (W : Int) (zs : List Int) : (tkiL W zs).length ≤ 5000 := by
  rcases h : tkB W zs with _ | _
  · rw [tkiL_no h]; simp
  · rw [tkiL_yes h]
    have h1 := lineF_len (chL zs W.toNat) nxT (ovS zs W.toNat) (2 ^ zs.length - 1 + 1) (2 ^ zs.length - 1)
    have h3 := pow12 (tkB_iff.1 h).2.1
    omega
/-- what is known of the game that is asked about -/
def vT (zs : List Int) (N n : Nat) (p : Nat) : Option OutP := if p < 2 ^ n then some (ovS zs N p) else none
theorem vT_at {zs : List Int} {N n : Nat} : ∀ p, p < 2 ^ n → vT zs N n p = some (ovS zs N p) := fun p h => by unfold vT; rw [if_pos h]
theorem tkB_pos {W : Int} {zs : List Int} (h : tkB W zs = true) : 0 < zs.length := by
  rcases Nat.eq_zero_or_pos zs.length with h0 | h0
  · have e : zs = [] := List.length_eq_zero_iff.1 h0
    have h1 := (tkB_iff.1 h).2.2
    rw [e] at h1
    have : homeB [] W.toNat = true := homeB_iff.2 fun i _ => rfl
    rw [this] at h1; cases h1
  · exact h0
theorem ri_blk {w : World} {A : Option Addr} {n : Nat} {zs : List Int} (h : RI w A n zs) (hn : 0 < n) : ∀ x, blk A = some x → x < w.heap.size := by
  obtain ⟨b, off, rfl, hb, _⟩ := h.cell hn
  intro x hx
  simp [blk] at hx
  omega

set_option maxRecDepth 100000 in
set_option maxHeartbeats 2000000 in
theorem aboutTakeWinner_any (W : Int) (A : Option Addr) (n c : Nat) (zs : List Int) (w : World) (h : RI w A n zs) (hn : n ≤ 1048576) :
    Calls Try.prog 35 #[.agg #[.int .i64 W, .slice A n c], .func (.func 36) #[] #[]] w (RetBB (tkwB W zs) (tkB W zs) w) := by
  have hz := h.1
  have HA := boxNew (W := W) (c := c) 28 h
  have HB := belAlloc (belRefl (w := w)) (.cells #[.int .i64 W, .slice A n c] 28)
  have HI := Lib.hid (fun w2 (r : RI w2 A n zs) => iIsTaking_any W A n c zs w2 r hn)
  rcases hq : tkB W zs with _ | _
  · rw [tkwB_no hq]
    rw [hq] at HI
    clear hq h hz
    go_enter Try.func35, Try.ntmps35
    go_wp2_with fail
    refine (HI.out _ HA.out.ri).mono ?_
    rintro e w1 ⟨rfl, hb⟩
    replace HB := belStep HB hb
    clear hb
    go_wp2
    go_ret2
    exact ⟨rfl, HB.out⟩
  · rw [tkwB_yes hq]
    rw [hq] at HI
    have hq2 := tkB_iff.1 hq
    have hn12 : n ≤ 12 := by omega
    have hp := Nat.two_pow_pos n
    have hp2 := pow12 hn12
    have hpos := tkB_pos hq
    have HBk := Lib.hid (ri_blk h (by omega))
    have HO := Lib.hid (fun w2 (r : RI w2 A n zs) => takingOf_any W A n c zs w2 r hn12)
    have HQ := Lib.hid (fun b (hA : ∀ x, blk A = some x → x ≠ b) w2 (r : RI w2 A n zs) (m : Memo w2 b (vT zs W.toNat n)) => canWinT_any (vT zs W.toNat n) (vT_at (zs := zs) (N := W.toNat)) (gmT (c := c) hz hn12 hq2.1 hA) (2 ^ n - 1) (by omega) w2 r m)
    rw [hz]
    obtain ⟨r, hr⟩ : ∃ r, r = (ovS zs W.toNat (2 ^ n - 1)).1 := ⟨_, rfl⟩
    rw [← hr] at HQ ⊢
    clear hr
    clear hq h hz hq2 hpos
    go_enter Try.func35, Try.ntmps35
    go_wp2_with fail
    refine (HI.out _ HA.out.ri).mono ?_
    rintro e w1 ⟨rfl, hb⟩
    replace HA := boxStep HA hb; replace HB := belStep HB hb
    have hwz := HA.out.lt
    clear hb
    have a0 := HA.out.c0; have a1 := HA.out.c1; have az := HA.out.lt
    have hmm := @run_makeMap Try.prog
    go_wp2_with fail
    have HA1 := boxAlloc HA (.map #[] 0)
    have HB1 := belAlloc HB (.map #[] 0)
    have HM1 := Lib.hid (Memo.new w1 (vT zs W.toNat n))
    refine (HO.out _ HA1.out.ri).mono ?_
    rintro e w2 ⟨rfl, hb⟩
    replace HA1 := boxStep HA1 hb; replace HB1 := belStep HB1 hb
    replace HM1 := memoBelow HM1 hb
    clear hb HI HO HA HB a0 a1 az
    go_wp2_with fail
    refine (HQ.out w1.heap.size (fun x hx => by have := HBk.out x hx; omega) _ HA1.out.ri HM1.out).mono ?_
    rintro e w3 ⟨rfl, hg⟩
    have HB3 : Hid (Below w.heap.size w w3) := Lib.hid (HB1.out.trans (Below.of_grown (A := some ⟨w1.heap.size, 0, none⟩) hg (fun y hy => by simp [blk] at hy; omega) HB1.out.size))
    skip
    clear hg HQ HM1 HA1
    go_wp2
    go_ret2
    exact ⟨rfl, HB3.out⟩

set_option maxRecDepth 100000 in
set_option maxHeartbeats 1000000 in
theorem iTakeWinner_any (W : Int) (A : Option Addr) (n c : Nat) (zs : List Int) (w : World) (h : RI w A n zs) (hn : n ≤ 1048576) :
    Calls Try.prog 13 #[.agg #[.int .i64 W, .slice A n c]] w (RetBB (tkwB W zs) (tkB W zs) w) := by
  have HA := boxNew (W := W) (c := c) 28 h
  have HB := belAlloc (belRefl (w := w)) (.cells #[.int .i64 W, .slice A n c] 28)
  have HI := Lib.hid (fun w2 (r : RI w2 A n zs) => aboutTakeWinner_any W A n c zs w2 r hn)
  obtain ⟨r, hr⟩ : ∃ r, r = tkwB W zs := ⟨_, rfl⟩
  rw [← hr] at HI ⊢
  obtain ⟨q, hq⟩ : ∃ q, q = tkB W zs := ⟨_, rfl⟩
  rw [← hq] at HI ⊢
  clear hr hq
  clear h
  go_enter Try.func13, Try.ntmps13
  go_wp2_with fail
  refine (HI.out _ HA.out.ri).mono ?_
  rintro e w1 ⟨rfl, hb⟩
  replace HB := belStep HB hb
  clear hb HI HA
  go_wp2
  go_ret2
  exact ⟨rfl, HB.out⟩

set_option maxRecDepth 100000 in
set_option maxHeartbeats 2000000 in
theorem aboutTakeLength_any (W : Int) (A : Option Addr) (n c : Nat) (zs : List Int) (w : World) (h : RI w A n zs) (hn : n ≤ 1048576) :
    Calls Try.prog 40 #[.agg #[.int .i64 W, .slice A n c], .func (.func 41) #[] #[]] w (RetIB (tklN W zs) (tkB W zs) w) := by
  have hz := h.1
  have HA := boxNew (W := W) (c := c) 28 h
  have HB := belAlloc (belRefl (w := w)) (.cells #[.int .i64 W, .slice A n c] 28)
  have HI := Lib.hid (fun w2 (r : RI w2 A n zs) => iIsTaking_any W A n c zs w2 r hn)
  rcases hq : tkB W zs with _ | _
  · rw [tklN_no hq]
    rw [hq] at HI
    clear hq h hz
    go_enter Try.func40, Try.ntmps40
    go_wp2_with fail
    refine (HI.out _ HA.out.ri).mono ?_
    rintro e w1 ⟨rfl, hb⟩
    replace HB := belStep HB hb
    clear hb
    go_wp2
    go_ret2
    exact ⟨rfl, HB.out⟩
  · rw [tklN_yes hq]
    rw [hq] at HI
    have hq2 := tkB_iff.1 hq
    have hn12 : n ≤ 12 := by omega
    have hp := Nat.two_pow_pos n
    have hp2 := pow12 hn12
    have hpos := tkB_pos hq
    have HBk := Lib.hid (ri_blk h (by omega))
    have HO := Lib.hid (fun w2 (r : RI w2 A n zs) => takingOf_any W A n c zs w2 r hn12)
    have HQ := Lib.hid (fun b (hA : ∀ x, blk A = some x → x ≠ b) w2 (r : RI w2 A n zs) (m : Memo w2 b (vT zs W.toNat n)) => lengthT_any (vT zs W.toNat n) (vT_at (zs := zs) (N := W.toNat)) (gmT (c := c) hz hn12 hq2.1 hA) (2 ^ n - 1) (by omega) w2 r m)
    rw [hz]
    obtain ⟨r, hr⟩ : ∃ r, r = ((ovS zs W.toNat (2 ^ n - 1)).2 : Int) := ⟨_, rfl⟩
    rw [← hr] at HQ ⊢
    clear hr
    clear hq h hz hq2 hpos
    go_enter Try.func40, Try.ntmps40
    go_wp2_with fail
    refine (HI.out _ HA.out.ri).mono ?_
    rintro e w1 ⟨rfl, hb⟩
    replace HA := boxStep HA hb; replace HB := belStep HB hb
    have hwz := HA.out.lt
    clear hb
    have a0 := HA.out.c0; have a1 := HA.out.c1; have az := HA.out.lt
    have hmm := @run_makeMap Try.prog
    go_wp2_with fail
    have HA1 := boxAlloc HA (.map #[] 0)
    have HB1 := belAlloc HB (.map #[] 0)
    have HM1 := Lib.hid (Memo.new w1 (vT zs W.toNat n))
    refine (HO.out _ HA1.out.ri).mono ?_
    rintro e w2 ⟨rfl, hb⟩
    replace HA1 := boxStep HA1 hb; replace HB1 := belStep HB1 hb
    replace HM1 := memoBelow HM1 hb
    clear hb HI HO HA HB a0 a1 az
    go_wp2_with fail
    refine (HQ.out w1.heap.size (fun x hx => by have := HBk.out x hx; omega) _ HA1.out.ri HM1.out).mono ?_
    rintro e w3 ⟨rfl, hg⟩
    have HB3 : Hid (Below w.heap.size w w3) := Lib.hid (HB1.out.trans (Below.of_grown (A := some ⟨w1.heap.size, 0, none⟩) hg (fun y hy => by simp [blk] at hy; omega) HB1.out.size))
    skip
    clear hg HQ HM1 HA1
    go_wp2
    go_ret2
    exact ⟨rfl, HB3.out⟩

set_option maxRecDepth 100000 in
set_option maxHeartbeats 1000000 in
theorem iTakeLength_any (W : Int) (A : Option Addr) (n c : Nat) (zs : List Int) (w : World) (h : RI w A n zs) (hn : n ≤ 1048576) :
    Calls Try.prog 22 #[.agg #[.int .i64 W, .slice A n c]] w (RetIB (tklN W zs) (tkB W zs) w) := by
  have HA := boxNew (W := W) (c := c) 28 h
  have HB := belAlloc (belRefl (w := w)) (.cells #[.int .i64 W, .slice A n c] 28)
  have HI := Lib.hid (fun w2 (r : RI w2 A n zs) => aboutTakeLength_any W A n c zs w2 r hn)
  obtain ⟨r, hr⟩ : ∃ r, r = tklN W zs := ⟨_, rfl⟩
  rw [← hr] at HI ⊢
  obtain ⟨q, hq⟩ : ∃ q, q = tkB W zs := ⟨_, rfl⟩
  rw [← hq] at HI ⊢
  clear hr hq
  clear h
  go_enter Try.func22, Try.ntmps22
  go_wp2_with fail
  refine (HI.out _ HA.out.ri).mono ?_
  rintro e w1 ⟨rfl, hb⟩
  replace HB := belStep HB hb
  clear hb HI HA
  go_wp2
  go_ret2
  exact ⟨rfl, HB.out⟩

set_option maxRecDepth 100000 in
set_option maxHeartbeats 2000000 in
theorem aboutGoodTakes_any (W : Int) (A : Option Addr) (n c : Nat) (zs : List Int) (w : World) (h : RI w A n zs) (hn : n ≤ 1048576) :
    Calls Try.prog 37 #[.agg #[.int .i64 W, .slice A n c], .func (.func 38) #[] #[]] w (FreshIB w (tkgL W zs).length (tkgL W zs) (tkB W zs)) := by
  have hz := h.1
  have HA := boxNew (W := W) (c := c) 28 h
  have HB := belAlloc (belRefl (w := w)) (.cells #[.int .i64 W, .slice A n c] 28)
  have HI := Lib.hid (fun w2 (r : RI w2 A n zs) => iIsTaking_any W A n c zs w2 r hn)
  rcases hq : tkB W zs with _ | _
  · rw [tkgL_no hq]
    rw [hq] at HI
    clear hq h hz
    go_enter Try.func37, Try.ntmps37
    go_wp2_with fail
    refine (HI.out _ HA.out.ri).mono ?_
    rintro e w1 ⟨rfl, hb⟩
    replace HB := belStep HB hb
    clear hb
    go_wp2
    go_ret2
    exact ⟨none, 0, rfl, OI.none_ _ _, HB.out⟩
  · rw [tkgL_yes hq]
    rw [hq] at HI
    have hq2 := tkB_iff.1 hq
    have hn12 : n ≤ 12 := by omega
    have hp := Nat.two_pow_pos n
    have hp2 := pow12 hn12
    have hpos := tkB_pos hq
    have HBk := Lib.hid (ri_blk h (by omega))
    have HO := Lib.hid (fun w2 (r : RI w2 A n zs) => takingOf_any W A n c zs w2 r hn12)
    have HQ := Lib.hid (fun b (hA : ∀ x, blk A = some x → x ≠ b) w2 (r : RI w2 A n zs) (m : Memo w2 b (vT zs W.toNat n)) => goodChoicesT_any (vT zs W.toNat n) (vT_at (zs := zs) (N := W.toNat)) (gmT (c := c) hz hn12 hq2.1 hA) (2 ^ n - 1) (by omega) w2 r m)
    rw [hz]
    obtain ⟨r, hr⟩ : ∃ r, r = gdT (chL zs W.toNat) nxT (ovS zs W.toNat) (2 ^ n - 1) := ⟨_, rfl⟩
    rw [← hr] at HQ ⊢
    clear hr
    clear hq h hz hq2 hpos
    go_enter Try.func37, Try.ntmps37
    go_wp2_with fail
    refine (HI.out _ HA.out.ri).mono ?_
    rintro e w1 ⟨rfl, hb⟩
    replace HA := boxStep HA hb; replace HB := belStep HB hb
    have hwz := HA.out.lt
    clear hb
    have a0 := HA.out.c0; have a1 := HA.out.c1; have az := HA.out.lt
    have hmm := @run_makeMap Try.prog
    go_wp2_with fail
    have HA1 := boxAlloc HA (.map #[] 0)
    have HB1 := belAlloc HB (.map #[] 0)
    have HM1 := Lib.hid (Memo.new w1 (vT zs W.toNat n))
    refine (HO.out _ HA1.out.ri).mono ?_
    rintro e w2 ⟨rfl, hb⟩
    replace HA1 := boxStep HA1 hb; replace HB1 := belStep HB1 hb
    replace HM1 := memoBelow HM1 hb
    clear hb HI HO HA HB a0 a1 az
    go_wp2_with fail
    refine (HQ.out w1.heap.size (fun x hx => by have := HBk.out x hx; omega) _ HA1.out.ri HM1.out).mono ?_
    rintro e w3 ⟨E, d, rfl, o3, hg⟩
    have HB3 : Hid (Below w.heap.size w w3) := Lib.hid (HB1.out.trans (Below.of_grown (A := some ⟨w1.heap.size, 0, none⟩) hg (fun y hy => by simp [blk] at hy; omega) HB1.out.size))
    have HO3 := Lib.hid (o3.mono HB1.out.size)
    clear o3
    clear hg HQ HM1 HA1
    go_wp2
    go_ret2
    exact ⟨E, d, rfl, HO3.out, HB3.out⟩

set_option maxRecDepth 100000 in
set_option maxHeartbeats 1000000 in
theorem iGoodTakes_any (W : Int) (A : Option Addr) (n c : Nat) (zs : List Int) (w : World) (h : RI w A n zs) (hn : n ≤ 1048576) :
    Calls Try.prog 16 #[.agg #[.int .i64 W, .slice A n c]] w (FreshIB w (tkgL W zs).length (tkgL W zs) (tkB W zs)) := by
  have HA := boxNew (W := W) (c := c) 28 h
  have HB := belAlloc (belRefl (w := w)) (.cells #[.int .i64 W, .slice A n c] 28)
  have HI := Lib.hid (fun w2 (r : RI w2 A n zs) => aboutGoodTakes_any W A n c zs w2 r hn)
  obtain ⟨r, hr⟩ : ∃ r, r = tkgL W zs := ⟨_, rfl⟩
  rw [← hr] at HI ⊢
  obtain ⟨q, hq⟩ : ∃ q, q = tkB W zs := ⟨_, rfl⟩
  rw [← hq] at HI ⊢
  clear hr hq
  clear h
  go_enter Try.func16, Try.ntmps16
  go_wp2_with fail
  refine (HI.out _ HA.out.ri).mono ?_
  rintro e w1 ⟨E, d, rfl, o1, hb⟩
  have HO := Lib.hid (o1.mono HB.out.size)
  replace HB := belStep HB hb
  clear hb o1 HI HA
  go_wp2
  go_ret2
  exact ⟨E, d, rfl, HO.out, HB.out⟩

set_option maxRecDepth 100000 in
set_option maxHeartbeats 2000000 in
theorem aboutTakeLine_any (W : Int) (A : Option Addr) (n c : Nat) (zs : List Int) (w : World) (h : RI w A n zs) (hn : n ≤ 1048576) :
    Calls Try.prog 37 #[.agg #[.int .i64 W, .slice A n c], .func (.func 43) #[] #[]] w (FreshIB w (tkiL W zs).length (tkiL W zs) (tkB W zs)) := by
  have hz := h.1
  have HA := boxNew (W := W) (c := c) 28 h
  have HB := belAlloc (belRefl (w := w)) (.cells #[.int .i64 W, .slice A n c] 28)
  have HI := Lib.hid (fun w2 (r : RI w2 A n zs) => iIsTaking_any W A n c zs w2 r hn)
  rcases hq : tkB W zs with _ | _
  · rw [tkiL_no hq]
    rw [hq] at HI
    clear hq h hz
    go_enter Try.func37, Try.ntmps37
    go_wp2_with fail
    refine (HI.out _ HA.out.ri).mono ?_
    rintro e w1 ⟨rfl, hb⟩
    replace HB := belStep HB hb
    clear hb
    go_wp2
    go_ret2
    exact ⟨none, 0, rfl, OI.none_ _ _, HB.out⟩
  · rw [tkiL_yes hq]
    rw [hq] at HI
    have hq2 := tkB_iff.1 hq
    have hn12 : n ≤ 12 := by omega
    have hp := Nat.two_pow_pos n
    have hp2 := pow12 hn12
    have hpos := tkB_pos hq
    have HBk := Lib.hid (ri_blk h (by omega))
    have HO := Lib.hid (fun w2 (r : RI w2 A n zs) => takingOf_any W A n c zs w2 r hn12)
    have HQ := Lib.hid (fun b (hA : ∀ x, blk A = some x → x ≠ b) w2 (r : RI w2 A n zs) (m : Memo w2 b (vT zs W.toNat n)) => line_any (vT zs W.toNat n) (vT_at (zs := zs) (N := W.toNat)) (gmT (c := c) hz hn12 hq2.1 hA) (2 ^ n - 1) (by omega) (by omega) w2 r m)
    rw [hz]
    obtain ⟨r, hr⟩ : ∃ r, r = lineF (chL zs W.toNat) nxT (ovS zs W.toNat) (2 ^ n - 1 + 1) (2 ^ n - 1) := ⟨_, rfl⟩
    rw [← hr] at HQ ⊢
    clear hr
    clear hq h hz hq2 hpos
    go_enter Try.func37, Try.ntmps37
    go_wp2_with fail
    refine (HI.out _ HA.out.ri).mono ?_
    rintro e w1 ⟨rfl, hb⟩
    replace HA := boxStep HA hb; replace HB := belStep HB hb
    have hwz := HA.out.lt
    clear hb
    have a0 := HA.out.c0; have a1 := HA.out.c1; have az := HA.out.lt
    have hmm := @run_makeMap Try.prog
    go_wp2_with fail
    have HA1 := boxAlloc HA (.map #[] 0)
    have HB1 := belAlloc HB (.map #[] 0)
    have HM1 := Lib.hid (Memo.new w1 (vT zs W.toNat n))
    refine (HO.out _ HA1.out.ri).mono ?_
    rintro e w2 ⟨rfl, hb⟩
    replace HA1 := boxStep HA1 hb; replace HB1 := belStep HB1 hb
    replace HM1 := memoBelow HM1 hb
    clear hb HI HO HA HB a0 a1 az
    go_wp2_with fail
    refine (HQ.out w1.heap.size (fun x hx => by have := HBk.out x hx; omega) _ HA1.out.ri HM1.out).mono ?_
    rintro e w3 ⟨E, d, rfl, o3, hg⟩
    have HB3 : Hid (Below w.heap.size w w3) := Lib.hid (HB1.out.trans (Below.of_grown (A := some ⟨w1.heap.size, 0, none⟩) hg (fun y hy => by simp [blk] at hy; omega) HB1.out.size))
    have HO3 := Lib.hid (o3.mono HB1.out.size)
    clear o3
    clear hg HQ HM1 HA1
    go_wp2
    go_ret2
    exact ⟨E, d, rfl, HO3.out, HB3.out⟩

set_option maxRecDepth 100000 in
set_option maxHeartbeats 1000000 in
theorem iTakeLine_any (W : Int) (A : Option Addr) (n c : Nat) (zs : List Int) (w : World) (h : RI w A n zs) (hn : n ≤ 1048576) :
    Calls Try.prog 24 #[.agg #[.int .i64 W, .slice A n c]] w (FreshIB w (tkiL W zs).length (tkiL W zs) (tkB W zs)) := by
  have HA := boxNew (W := W) (c := c) 28 h
  have HB := belAlloc (belRefl (w := w)) (.cells #[.int .i64 W, .slice A n c] 28)
  have HI := Lib.hid (fun w2 (r : RI w2 A n zs) => aboutTakeLine_any W A n c zs w2 r hn)
  obtain ⟨r, hr⟩ : ∃ r, r = tkiL W zs := ⟨_, rfl⟩
  rw [← hr] at HI ⊢
  obtain ⟨q, hq⟩ : ∃ q, q = tkB W zs := ⟨_, rfl⟩
  rw [← hq] at HI ⊢
  clear hr hq
  clear h
  go_enter Try.func24, Try.ntmps24
  go_wp2_with fail
  refine (HI.out _ HA.out.ri).mono ?_
  rintro e w1 ⟨E, d, rfl, o1, hb⟩
  have HO := Lib.hid (o1.mono HB.out.size)
  replace HB := belStep HB hb
  clear hb o1 HI HA
  go_wp2
  go_ret2
  exact ⟨E, d, rfl, HO.out, HB.out⟩
end Go.Proofs.Ytiapbmgpjloafaa
