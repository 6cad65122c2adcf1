/- Rungs moved to the right, and BesideLadders, of the program and of its model. -/
import Derived.Test.YtmlkccihpkpjfaaMr3
import Derived.Test.YtmlkccihpkpjfaaBw1
import Derived.Test.YtmlkccihpkpjfaaBw2
namespace Go.Proofs.Ytmlkccihpkpjfaa
open Go Go.RowKit

def shL (zs : List Int) (d : Int) : List Int := zs.map fun z => z + d
theorem shL_len (zs : List Int) (d : Int) : (shL zs d).length = zs.length := by simp [shL]
theorem gi_shL (zs : List Int) (d : Int) (j : Nat) (h : j < zs.length) : gi (shL zs d) j = gi zs j + d := by
  rw [gi_lt (by rw [shL_len]; exact h), gi_lt h]; simp [shL]
theorem shL_take (zs : List Int) (d : Int) (k : Nat) (h : k < zs.length) : (shL zs d).take (k + 1) = (shL zs d).take k ++ [d + gi zs k] := by
  rw [List.take_succ_eq_append_getElem (by rw [shL_len]; exact h), ← gi_lt, gi_shL _ _ _ h, Int.add_comm]

set_option maxRecDepth 100000 in
set_option maxHeartbeats 2000000 in
theorem shifted_any (A : Option Addr) (n c : Nat) (zs : List Int) (d : Int) (w : World) (h : RI w A n zs) (hn : n ≤ 1048576) (hd : -1000 ≤ d ∧ d ≤ 1000) (hz : ∀ j, j < n → -1000 ≤ gi zs j ∧ gi zs j ≤ 1000) :
    Calls Try.prog 56 #[.slice A n c, .int .i64 d] w (FreshI w n (shL zs d)) := by
  have hl := h.1
  have hmk := run_make_row' (P := Try.prog) 22 3 (.int .i64 0) 8 Try.underlying22 infoInt rfl .i64 .i64 n (by omega) (by omega)
  go_enter Try.func56, Try.ntmps56
  go_wp2
  go_loopw [6, 7, 13] (fun _ _ i wr => ∃ k : Nat, k ≤ n ∧ i = .int .i64 k ∧ wr.rowIs w.heap.size 3 n (fun j => if j < k then .int .i64 (gi zs j + d) else .int .i64 0) ∧ Below w.heap.size w wr) (fun _ _ i _ => n - (intOf i).toNat)
  case atStart =>
    refine ⟨0, Nat.zero_le _, rfl, (World.rowIs_made w (.int .i64 0) n 3).congr (fun j _ => by simp), (Below.refl _ _).alloc (Nat.le_refl _) _⟩
  case round =>
    obtain ⟨k, hk, rfl, hrow, hb⟩ := hrel
    by_cases hlt : k < n
    · obtain ⟨b, off, rfl, hbw, hc⟩ := h.cell hlt
      have hck : wr.cell? ⟨b, off + k, none⟩ = some (.int .i64 (gi zs k)) := (hb.cell (p := ⟨b, off + k, none⟩) hbw).trans (hc k hlt)
      have hdd := hrow.cell hlt
      have hf := hrow.frozen k
      have hzk := hz k hlt
      have hwr : IntKind.i64.wrap (gi zs k + d) = gi zs k + d := IntWalk.i64_in _ (by omega)
      simp only [Nat.lt_irrefl, if_false] at hdd
      have H1 := Lib.hid hrow
      have H2 := Lib.hid hb
      clear hrow hb hc hmk
      go_wp2
      go_roundw
      case rel =>
        refine ⟨k + 1, by omega, by go_num, (H1.out.set k _).congr (fun j hj => ?_), H2.out.setCell (by simp) _⟩
        by_cases e : j = k
        · simp [e]
        · by_cases e2 : j < k
          · simp [e, e2, show j < k + 1 by omega]
          · simp [e, e2, show ¬ j < k + 1 by omega]
      case measure => simp [intOf]; omega
    · obtain rfl : k = n := by omega
      go_wp2
      go_ret
      refine ⟨_, _, rfl, OI.of_rowIs (Nat.le_refl _) hrow (by simp only [maxLen]; omega) (by rw [shL_len]; exact hl) (fun j hj => by rw [if_pos hj, gi_shL _ _ _ (by omega)]), hb⟩

def bsB (W : Int) (zs : List Int) (V : Int) (ys : List Int) : Bool := lad W zs && (lad V ys && lad (W + V) (zs ++ shL ys W))
theorem bsB_1 {W V : Int} {zs ys : List Int} (h : lad W zs = false) : bsB W zs V ys = false := by unfold bsB; rw [h]; rfl
theorem bsB_2 {W V : Int} {zs ys : List Int} (h : lad V ys = false) : bsB W zs V ys = false := by unfold bsB; rw [h]; simp
theorem bsB_4 {W V : Int} {zs ys : List Int} (h : lad W zs = true) (h2 : lad V ys = true) : bsB W zs V ys = lad (W + V) (zs ++ shL ys W) := by unfold bsB; rw [h, h2]; simp
theorem bsN_len (W V : Int) (zs ys : List Int) : (ifL (bsB W zs V ys) (zs ++ shL ys W)).length ≤ 1000 := by
  unfold ifL
  split
  · rename_i h
    unfold bsB at h
    rw [Bool.and_eq_true, Bool.and_eq_true] at h
    have := (lad_iff.1 h.2.2).2.1
    omega
  · simp

set_option maxRecDepth 100000 in
set_option maxHeartbeats 4000000 in
theorem iBesideLadders_any (W : Int) (A : Option Addr) (n c : Nat) (zs : List Int) (V : Int) (A2 : Option Addr) (n2 c2 : Nat) (ys : List Int) (w : World) (h : RI w A n zs) (hn : n ≤ 1048576) (h2 : RI w A2 n2 ys) (hn2 : n2 ≤ 1048576) :
    Calls Try.prog 26 #[.agg #[.int .i64 W, .slice A n c], .agg #[.int .i64 V, .slice A2 n2 c2]] w
      (FreshLB w (ifW (bsB W zs V ys) (W + V)) (ifL (bsB W zs V ys) (zs ++ shL ys W)).length (ifL (bsB W zs V ys) (zs ++ shL ys W)) (bsB W zs V ys)) := by
  have hzl := h.1
  have hyl := h2.1
  have HA := boxAlloc (boxAlloc (boxNew (W := W) (c := c) 26 h) (.cells #[.int .i64 V, .slice A2 n2 c2] 26)) (.cells #[.int .i64 0, .slice none 0 0] 26)
  have HD := boxAlloc (boxNew (wi := w.alloc (.cells #[.int .i64 W, .slice A n c] 26)) (W := V) (c := c2) 26 (h2.alloc _)) (.cells #[.int .i64 0, .slice none 0 0] 26)
  have HB := belAlloc (belAlloc (belAlloc (belRefl (w := w)) (.cells #[.int .i64 W, .slice A n c] 26)) (.cells #[.int .i64 V, .slice A2 n2 c2] 26)) (.cells #[.int .i64 0, .slice none 0 0] 26)
  have HC := cellNew ((w.alloc (.cells #[.int .i64 W, .slice A n c] 26)).alloc (.cells #[.int .i64 V, .slice A2 n2 c2] 26)) (.int .i64 0) (.slice none 0 0) 26
  simp only [World.size_alloc] at HD HC
  have HI := Lib.hid (fun w2 (r : RI w2 A n zs) => iIsLadder_any W A n c zs w2 r hn)
  have HI2 := Lib.hid (fun w2 (r : RI w2 A2 n2 ys) => iIsLadder_any V A2 n2 c2 ys w2 r hn2)
  rcases hq : lad W zs with _ | _
  · rw [bsB_1 hq, ifW_no, ifL_no]
    rw [hq] at HI
    clear hq h h2
    go_enter Try.func26, Try.ntmps26
    go_wp2_with fail
    refine (HI.out _ HA.out.ri).mono ?_
    rintro e w1 ⟨rfl, hb⟩
    replace HB := belStep HB hb
    replace HC := cellStep HC hb
    have k0 := HC.out.c0; have k1 := HC.out.c1; have f0 := HC.out.f0; have f1 := HC.out.f1; have hz := HC.out.lt
    clear hb
    go_wp2
    exact bodyPost_ret (v := .tuple #[.agg #[.int .i64 0, .slice none 0 0], .bool false]) (by simp [results, Try.results26, go_sem, k0, k1]) rfl ⟨none, 0, rfl, OI.none_ _ _, (by repeat (first | exact Below.refl _ _ | exact HB.out | refine Below.setCell ?_ (by simp <;> omega) _ | refine Below.alloc ?_ (by simp <;> omega) _ | refine below_drewN ?_ _))⟩
  · rw [hq] at HI
    rcases hq2 : lad V ys with _ | _
    · rw [bsB_2 hq2, ifW_no, ifL_no]
      rw [hq2] at HI2
      clear hq hq2 h h2
      go_enter Try.func26, Try.ntmps26
      go_wp2_with fail
      refine (HI.out _ HA.out.ri).mono ?_
      rintro e w1 ⟨rfl, hb⟩
      replace HA := boxStep HA hb; replace HD := boxStep HD hb; replace HB := belStep HB hb; replace HC := cellStep HC hb
      have d0 := HD.out.c0; have d1 := HD.out.c1; have dz := HD.out.lt
      clear hb
      go_wp2_with fail
      refine (HI2.out _ HD.out.ri).mono ?_
      rintro e w2 ⟨rfl, hb⟩
      replace HB := belStep HB hb; replace HC := cellStep HC hb
      have k0 := HC.out.c0; have k1 := HC.out.c1; have f0 := HC.out.f0; have f1 := HC.out.f1; have hz := HC.out.lt
      clear hb d0 d1 dz
      go_wp2
      exact bodyPost_ret (v := .tuple #[.agg #[.int .i64 0, .slice none 0 0], .bool false]) (by simp [results, Try.results26, go_sem, k0, k1]) rfl ⟨none, 0, rfl, OI.none_ _ _, (by repeat (first | exact Below.refl _ _ | exact HB.out | refine Below.setCell ?_ (by simp <;> omega) _ | refine Below.alloc ?_ (by simp <;> omega) _ | refine below_drewN ?_ _))⟩
    · rw [bsB_4 hq hq2]
      rw [hq2] at HI2
      have hW := (lad_iff.1 hq).1
      have hV := (lad_iff.1 hq2).1
      have hn60 : n ≤ 60 := by have := (lad_iff.1 hq).2.1; omega
      have hn60' : n2 ≤ 60 := by have := (lad_iff.1 hq2).2.1; omega
      have HSH := Lib.hid (fun w2 (r : RI w2 A2 n2 ys) => shifted_any A2 n2 c2 ys W w2 r hn2 (by omega) (fun j hj => by have := lad_at hq2 (j := j) (by omega); omega))
      have hsl : (shL ys W).length = n2 := by rw [shL_len, hyl]
      obtain ⟨S, hS⟩ : ∃ S, S = shL ys W := ⟨_, rfl⟩
      rw [← hS] at HSH hsl ⊢
      obtain ⟨L, hL⟩ : ∃ L, L = zs ++ S := ⟨_, rfl⟩
      rw [← hL]
      have HL := Lib.hid hL
      have hal : L.length = n + n2 := by rw [hL, List.length_append, hzl, hsl]
      obtain ⟨q, hqq⟩ : ∃ q, q = lad (W + V) L := ⟨_, rfl⟩
      have HQQ := Lib.hid hqq
      rw [← hqq]
      obtain ⟨U, hU⟩ : ∃ U, U = W + V := ⟨_, rfl⟩
      have hwu : IntKind.i64.wrap (W + V) = U := by rw [IntWalk.i64_in _ (by omega), hU]
      rw [← hU] at HQQ ⊢
      have HU := Lib.hid hU
      clear hq hq2 h h2 hS hL hqq hU
      go_enter Try.func26, Try.ntmps26
      go_wp2_with fail
      refine (HI.out _ HA.out.ri).mono ?_
      rintro e w1 ⟨rfl, hb⟩
      replace HA := boxStep HA hb; replace HD := boxStep HD hb; replace HB := belStep HB hb; replace HC := cellStep HC hb
      have a0 := HA.out.c0; have a1 := HA.out.c1; have az := HA.out.lt
      have d0 := HD.out.c0; have d1 := HD.out.c1; have dz := HD.out.lt
      clear hb
      go_wp2_with fail
      refine (HI2.out _ HD.out.ri).mono ?_
      rintro e w2 ⟨rfl, hb⟩
      replace HA := boxStep HA hb; replace HD := boxStep HD hb; replace HB := belStep HB hb; replace HC := cellStep HC hb
      replace a0 := HA.out.c0; replace a1 := HA.out.c1; replace az := HA.out.lt
      replace d0 := HD.out.c0; replace d1 := HD.out.c1; replace dz := HD.out.lt
      have hz1 := HC.out.lt
      clear hb
      go_wp2_with fail
      have HAD := boxDrew HA; have HDD := boxDrew HD; have HBD := belDrew HB; have HCD := cellDrew HC
      go_region_held3 (fun w' => w'.cell? ⟨w.heap.size, 0, none⟩ = some (.int .i64 W) ∧ w'.cell? ⟨w.heap.size, 1, none⟩ = some (.slice A n c) ∧ w'.cell? ⟨w.heap.size + 1, 0, none⟩ = some (.int .i64 V) ∧ w'.cell? ⟨w.heap.size + 1, 1, none⟩ = some (.slice A2 n2 c2))
        (first | exact ⟨HA.out.c0, HA.out.c1, HD.out.c0, HD.out.c1⟩ | exact ⟨HA6.out.c0, HA6.out.c1, HD6.out.c0, HD6.out.c1⟩ | exact ⟨(boxAlloc HA6 _).out.c0, (boxAlloc HA6 _).out.c1, (boxAlloc HD6 _).out.c0, (boxAlloc HD6 _).out.c1⟩ | exact ⟨HA7.out.c0, HA7.out.c1, HD7.out.c0, HD7.out.c1⟩ | exact ⟨farSet2 HA7.out.c0 (by omega), farSet2 HA7.out.c1 (by omega), farSet2 HD7.out.c0 (by omega), farSet2 HD7.out.c1 (by omega)⟩)
        (first
          | (go_at_call 56; refine (HSH.out _ HDD.out.ri).mono ?_; rintro e w6 ⟨A6, c6, rfl, o6, hb⟩; have HA6 := boxStep HAD hb; have HD6 := boxStep HDD hb; have HB6 := belStep HBD hb; have HC6 := cellStep HCD hb; have O6 := Lib.hid o6; have hz6 : w2.heap.size ≤ w6.heap.size := hb.size; have PT := Lib.hid (Parts.pair (c1 := c) (c2 := c6) HA6.out.ri o6.ri); clear hb o6)
          | (go_at_call 43; refine (ladderOf_any U _ 2 2 _ _ _ _ _ PT.out (by omega) L (by rw [cat_pair]; exact HL.out.symm) (by omega)).mono ?_; rw [← HQQ.out]; rintro e w7 ⟨A7, c7, rfl, o7, hb⟩; have HA7 := boxStep (boxAlloc HA6 _) hb; have HD7 := boxStep (boxAlloc HD6 _) hb; have HB7 := belStep (belAlloc HB6 _) hb; have HC7 := cellStep (cellAlloc HC6 _) hb; have O7 : Hid (OI w7 w2.heap.size A7 (ifL q L).length c7 (ifL q L)) := o7.mono (by simp; omega); have k0 := HC7.out.c0; have k1 := HC7.out.c1; have f0 := HC7.out.f0; have f1 := HC7.out.f1; clear hb o7))
      have HB := HB7
      go_wp2
      have k0 := HC7.out.c0
      have k1 := HC7.out.c1
      have hz := HC7.out.lt
      exact bodyPost_ret (v := .tuple #[.agg #[.int .i64 (ifW q U), .slice A7 (ifL q L).length c7], .bool q]) (by simp [results, Try.results26, go_sem, k0, k1]) rfl
        ⟨A7, c7, rfl, ((O7.out.setBelow (show w.heap.size + 1 + 1 < w2.heap.size by omega) _).setBelow (show w.heap.size + 1 + 1 < w2.heap.size by omega) _).mono (by omega), (by repeat (first | exact Below.refl _ _ | exact HB.out | refine Below.setCell ?_ (by simp <;> omega) _ | refine Below.alloc ?_ (by simp <;> omega) _ | refine below_drewN ?_ _))⟩

set_option maxRecDepth 100000 in
set_option maxHeartbeats 4000000 in
theorem sBesideLadders_any (W : Int) (A : Option Addr) (n c : Nat) (zs : List Int) (V : Int) (A2 : Option Addr) (n2 c2 : Nat) (ys : List Int) (w : World) (h : RI w A n zs) (hn : n ≤ 1048576) (h2 : RI w A2 n2 ys) (hn2 : n2 ≤ 1048576) :
    Calls Try.prog 25 #[.agg #[.int .i64 W, .slice A n c], .agg #[.int .i64 V, .slice A2 n2 c2]] w
      (FreshLB w (ifW (bsB W zs V ys) (W + V)) (ifL (bsB W zs V ys) (zs ++ shL ys W)).length (ifL (bsB W zs V ys) (zs ++ shL ys W)) (bsB W zs V ys)) := by
  have hzl := h.1
  have hyl := h2.1
  have HA := boxAlloc (boxAlloc (boxNew (W := W) (c := c) 26 h) (.cells #[.int .i64 V, .slice A2 n2 c2] 26)) (.cells #[.int .i64 0, .slice none 0 0] 26)
  have HD := boxAlloc (boxNew (wi := w.alloc (.cells #[.int .i64 W, .slice A n c] 26)) (W := V) (c := c2) 26 (h2.alloc _)) (.cells #[.int .i64 0, .slice none 0 0] 26)
  have HB := belAlloc (belAlloc (belAlloc (belRefl (w := w)) (.cells #[.int .i64 W, .slice A n c] 26)) (.cells #[.int .i64 V, .slice A2 n2 c2] 26)) (.cells #[.int .i64 0, .slice none 0 0] 26)
  have HC := cellNew ((w.alloc (.cells #[.int .i64 W, .slice A n c] 26)).alloc (.cells #[.int .i64 V, .slice A2 n2 c2] 26)) (.int .i64 0) (.slice none 0 0) 26
  simp only [World.size_alloc] at HD HC
  have HI := Lib.hid (fun w2 (r : RI w2 A n zs) => laGood_any W A n c zs w2 r hn)
  have HI2 := Lib.hid (fun w2 (r : RI w2 A2 n2 ys) => laGood_any V A2 n2 c2 ys w2 r hn2)
  rcases hq : lad W zs with _ | _
  · rw [bsB_1 hq, ifW_no, ifL_no]
    rw [hq] at HI
    clear hq h h2
    go_enter Try.func25, Try.ntmps25
    go_wp2_with fail
    refine (HI.out _ HA.out.ri).mono ?_
    rintro e w1 ⟨rfl, hb⟩
    replace HB := belStep HB hb
    replace HC := cellStep HC hb
    have k0 := HC.out.c0; have k1 := HC.out.c1; have f0 := HC.out.f0; have f1 := HC.out.f1; have hz := HC.out.lt
    clear hb
    go_wp2
    exact bodyPost_ret (v := .tuple #[.agg #[.int .i64 0, .slice none 0 0], .bool false]) (by simp [results, Try.results25, go_sem, k0, k1]) rfl ⟨none, 0, rfl, OI.none_ _ _, (by repeat (first | exact Below.refl _ _ | exact HB.out | refine Below.setCell ?_ (by simp <;> omega) _ | refine Below.alloc ?_ (by simp <;> omega) _ | refine below_drewN ?_ _))⟩
  · rw [hq] at HI
    rcases hq2 : lad V ys with _ | _
    · rw [bsB_2 hq2, ifW_no, ifL_no]
      rw [hq2] at HI2
      clear hq hq2 h h2
      go_enter Try.func25, Try.ntmps25
      go_wp2_with fail
      refine (HI.out _ HA.out.ri).mono ?_
      rintro e w1 ⟨rfl, hb⟩
      replace HA := boxStep HA hb; replace HD := boxStep HD hb; replace HB := belStep HB hb; replace HC := cellStep HC hb
      have d0 := HD.out.c0; have d1 := HD.out.c1; have dz := HD.out.lt
      clear hb
      go_wp2_with fail
      refine (HI2.out _ HD.out.ri).mono ?_
      rintro e w2 ⟨rfl, hb⟩
      replace HB := belStep HB hb; replace HC := cellStep HC hb
      have k0 := HC.out.c0; have k1 := HC.out.c1; have f0 := HC.out.f0; have f1 := HC.out.f1; have hz := HC.out.lt
      clear hb d0 d1 dz
      go_wp2
      exact bodyPost_ret (v := .tuple #[.agg #[.int .i64 0, .slice none 0 0], .bool false]) (by simp [results, Try.results25, go_sem, k0, k1]) rfl ⟨none, 0, rfl, OI.none_ _ _, (by repeat (first | exact Below.refl _ _ | exact HB.out | refine Below.setCell ?_ (by simp <;> omega) _ | refine Below.alloc ?_ (by simp <;> omega) _ | refine below_drewN ?_ _))⟩
    · rw [bsB_4 hq hq2]
      rw [hq2] at HI2
      have hW := (lad_iff.1 hq).1
      have hV := (lad_iff.1 hq2).1
      have HQ2 := Lib.hid hq2
      have hn60 : n ≤ 60 := by have := (lad_iff.1 hq).2.1; omega
      have hn60' : n2 ≤ 60 := by have := (lad_iff.1 hq2).2.1; omega
      have hsl : (shL ys W).length = n2 := by rw [shL_len, hyl]
      have HTK : Hid (∀ k, k < n2 → (shL ys W).take (k + 1) = (shL ys W).take k ++ [W + gi ys k]) := fun k hk => shL_take ys W k (by omega)
      obtain ⟨S, hS⟩ : ∃ S, S = shL ys W := ⟨_, rfl⟩
      rw [← hS] at hsl HTK ⊢
      obtain ⟨L, hL⟩ : ∃ L, L = zs ++ S := ⟨_, rfl⟩
      rw [← hL]
      have HL := Lib.hid hL
      have hal : L.length = n + n2 := by rw [hL, List.length_append, hzl, hsl]
      obtain ⟨q, hqq⟩ : ∃ q, q = lad (W + V) L := ⟨_, rfl⟩
      have HQQ := Lib.hid hqq
      rw [← hqq]
      obtain ⟨U, hU⟩ : ∃ U, U = W + V := ⟨_, rfl⟩
      have hwu : IntKind.i64.wrap (W + V) = U := by rw [IntWalk.i64_in _ (by omega), hU]
      rw [← hU] at HQQ ⊢
      have HU := Lib.hid hU
      clear hq hq2 h h2 hS hL hqq hU
      go_enter Try.func25, Try.ntmps25
      go_wp2_with fail
      refine (HI.out _ HA.out.ri).mono ?_
      rintro e w1 ⟨rfl, hb⟩
      replace HA := boxStep HA hb; replace HD := boxStep HD hb; replace HB := belStep HB hb; replace HC := cellStep HC hb
      have a0 := HA.out.c0; have a1 := HA.out.c1; have az := HA.out.lt
      have d0 := HD.out.c0; have d1 := HD.out.c1; have dz := HD.out.lt
      clear hb
      go_wp2_with fail
      refine (HI2.out _ HD.out.ri).mono ?_
      rintro e w2 ⟨rfl, hb⟩
      replace HA := boxStep HA hb; replace HD := boxStep HD hb; replace HB := belStep HB hb; replace HC := cellStep HC hb
      replace a0 := HA.out.c0; replace a1 := HA.out.c1; replace az := HA.out.lt
      replace d0 := HD.out.c0; replace d1 := HD.out.c1; replace dz := HD.out.lt
      have hz1 := HC.out.lt
      have hz0 := HB.out.size
      clear hb
      have KS := Lib.hid (fun (wx : World) (hb : Below w2.heap.size w2 wx) => (⟨(hb.cell (p := ⟨w.heap.size, 0, none⟩) az).trans a0, (hb.cell (p := ⟨w.heap.size, 1, none⟩) az).trans a1, (hb.cell (p := ⟨w.heap.size + 1, 0, none⟩) dz).trans d0⟩ : wx.cell? ⟨w.heap.size, 0, none⟩ = some (.int .i64 W) ∧ wx.cell? ⟨w.heap.size, 1, none⟩ = some (.slice A n c) ∧ wx.cell? ⟨w.heap.size + 1, 0, none⟩ = some (.int .i64 V)))
      go_upto_region 3 with fail
      go_cut [6] from 18 (fun s6 wx => ∃ (bk : Nat) (A3 : Option Addr) (c3 : Nat), s6 = .pointer (some ⟨bk, 0, none⟩) ∧ w2.heap.size ≤ bk ∧ LB wx bk (.int .i64 U) (.slice A3 n c3) ∧ OI wx w2.heap.size A3 n c3 zs ∧ Below w2.heap.size w2 wx)
      case first =>
        go_region_held3 (fun w' => w'.cell? ⟨w.heap.size, 0, none⟩ = some (.int .i64 W) ∧ w'.cell? ⟨w.heap.size, 1, none⟩ = some (.slice A n c) ∧ w'.cell? ⟨w.heap.size + 1, 0, none⟩ = some (.int .i64 V))
          (exact KS.out _ (by with_reducible first | exact hidOut belRefl | exact hidOut (belAlloc belRefl _) | exact hidOut (belDrew belRefl) | exact hidOut (belDrew (belAlloc belRefl _)) | exact hidOut (belAlloc (belDrew belRefl) _) | exact hidOut b6 | exact hidOut (belAlloc b6 _) | exact hidOut (belDrew b6) | exact hidOut (belDrew (belAlloc b6 _)) | exact hidOut (belAlloc (belDrew b6) _) | exact (b6.out.setCell (p := ⟨w2.heap.size, 0, none⟩) (Nat.le_refl _) _).setCell (p := ⟨w2.heap.size, 1, none⟩) (Nat.le_refl _) _ | exact ((belAlloc b6 _).out.setCell (p := ⟨w6.heap.size, 0, none⟩) s6 _).setCell (p := ⟨w6.heap.size, 1, none⟩) s6 _))
          (first
            | (go_at_call 47; refine (l1Own_any A n c zs _ (by with_reducible first | exact HA.out.ri | exact (RI.alloc HA.out.ri _) | exact (RI.drewU HA.out.ri) | exact (RI.drewU (RI.alloc HA.out.ri _)) | exact (RI.alloc (RI.drewU HA.out.ri) _)) hn).mono ?_; rintro e w6 ⟨A6, c6, rfl, o6, hb⟩; have b6 : Hid (Below w2.heap.size w2 w6) := (hidOut (show Hid (Below w2.heap.size w2 _) from (by with_reducible first | exact belRefl | exact (belAlloc belRefl _) | exact (belDrew belRefl) | exact (belDrew (belAlloc belRefl _)) | exact (belAlloc (belDrew belRefl) _)))).trans (hb.mono (by first | omega | (simp; done) | (simp; omega))); have s6 := b6.out.size; have O6 : Hid (OI w6 w2.heap.size A6 n c6 zs) := o6.mono (by first | omega | (simp; done) | (simp; omega)); (first | (have L6 : Hid (LB w6 w2.heap.size (.int .i64 0) (.slice none 0 0)) := LB.below (by with_reducible first | exact (LB.new w2 _ _) | exact (LB.alloc (LB.new w2 _ _) _) | exact (LB.drewU (LB.new w2 _ _)) | exact (LB.drewU (LB.alloc (LB.new w2 _ _) _)) | exact (LB.alloc (LB.drewU (LB.new w2 _ _)) _)) hb; have l0 := L6.out.cell2.c0; have l1 := L6.out.cell2.c1; have l2 := L6.out.cell2.f0; have l3 := L6.out.cell2.f1) | skip); clear hb o6)
            | fail)
        all_goals
          go_wp2
          go_meet
          case rel =>
            (first
              | with_reducible exact ⟨_, A6, c6, rfl, addFin L6.out O6.out b6.out (Nat.le_refl _) _ _⟩
              | with_reducible exact ⟨_, A6, c6, rfl, s6, LB.new w6 _ _, OI.alloc O6.out _, (belAlloc b6 _).out⟩)
      case rest =>
        obtain ⟨bk, A3, c3, rfl, hbk, hm, ho, hbl⟩ := hcut
        obtain ⟨wk, hwk⟩ : ∃ v : World, v = wc := ⟨_, rfl⟩
        rw [← hwk] at hm ho hbl ⊢
        have HM := Lib.hid hm
        have HO0 := Lib.hid ho
        have HBL := Lib.hid hbl
        have k60 := HM.out.cell2.c0
        replace a0 := (KS.out _ hbl).1
        replace a1 := (KS.out _ hbl).2.1
        replace d0 := (KS.out _ hbl).2.2
        replace d1 := (hbl.cell (p := ⟨w.heap.size + 1, 1, none⟩) dz).trans d1
        clear hwk hm ho hbl
        go_wp2
        go_loopw [8, 30] (fun _ i wr => ∃ (k : Nat) (A4 : Option Addr) (c4 : Nat), k ≤ n2 ∧ i = .int .i64 k ∧ LB wr bk (.int .i64 U) (.slice A4 (n + k) c4) ∧ OI wr w2.heap.size A4 (n + k) c4 (zs ++ S.take k) ∧ Below w2.heap.size w2 wr) (fun _ i _ => n2 - (intOf i).toNat)
        case atStart => exact ⟨0, A3, c3, Nat.zero_le _, rfl, HM.out, by simpa using HO0.out, HBL.out⟩
        case round =>
          obtain ⟨k, A4, c4, hk, rfl, hm, ho, hbl⟩ := hrel
          have HMr := Lib.hid hm
          have HO := Lib.hid ho
          have HR := Lib.hid hbl
          replace a0 := (KS.out _ hbl).1
          replace a1 := (KS.out _ hbl).2.1
          replace d0 := (KS.out _ hbl).2.2
          have HDr : Hid (BoxB wr w2.heap.size (w.heap.size + 1) V A2 n2 c2 ys) := (BoxB.of HD.out).step hbl
          replace d1 := HDr.out.c1
          have m0 := hm.cell2.c0; have m1 := hm.cell2.c1; have mf0 := hm.cell2.f0; have mf1 := hm.cell2.f1
          have hbz := hm.lt
          have hrz := hbl.size
          clear hm ho hbl
          by_cases hlt : k < n2
          · obtain ⟨b, off, rfl, hbw, hc⟩ := HDr.out.rb.ri.cell hlt
            have hck := hc k hlt
            have g1 := lad_at HQ2.out (j := k) (by omega)
            have HT := Lib.hid (HTK.out k hlt)
            obtain ⟨r, hr⟩ : ∃ r, r = gi ys k := ⟨_, rfl⟩
            rw [← hr] at hck g1 HT
            have hwr : IntKind.i64.wrap (W + r) = W + r := IntWalk.i64_in _ (by omega)
            clear hc hr k60
            go_wp2_with (at_builtin; refine wpList_append_int _ rfl _ _ rfl w2.heap.size A4 (n + k) c4 _ (W + r) wr.heap.size rfl rfl (HO.out.alloc _) (by simp) (by omega) (by simp; omega) ?_; intro A5 c5 w5 ho5 hg5; have L5 : Hid (LB w5 bk (.int .i64 U) (.slice A4 (n + k) c4)) := LB.grown (LB.alloc HMr.out _) hg5 (HO.out.alloc _); have b5 : Hid (Below w2.heap.size w2 w5) := (HR.out.alloc (by omega) _).trans (ofMark (HO.out.alloc _) hg5 (Nat.le_refl _) (by simp; omega)); have n0 := L5.out.cell2.c0; have n1 := L5.out.cell2.c1; have nf0 := L5.out.cell2.f0; have nf1 := L5.out.cell2.f1; have nz := L5.out.lt)
            go_roundw
            case rel =>
              refine ⟨k + 1, A5, c5, by omega, by go_num, L5.out.set1 _, ?_, b5.out.setCell hbk _⟩
              have := OI.setOther (p := ⟨bk, 1, none⟩) ho5 (LB.ne L5.out ho5) (.slice A5 (n + k + 1) c5)
              rw [List.append_assoc, ← HT.out] at this
              exact this
            case measure => simp [intOf]; omega
          · obtain rfl : k = n2 := by omega
            have e : S.take k = S := List.take_of_length_le (by omega)
            have HY : Hid (OI wr w2.heap.size A4 (n + k) c4 L) := by have := HO.out; rw [e, ← HL.out] at this; exact this
            have HBr : Hid (Below w.heap.size w wr) := HB.out.trans (HR.out.mono hz0)
            have HCr := cellBelow HC (by omega) HR.out
            clear k60
            go_wp2_with fail
            refine (laIf_own U A4 (n + k) c4 L w2.heap.size _ HY.out (by omega)).mono ?_
            rw [← HQQ.out]
            rintro e w6 ⟨A6, c6, rfl, o6, hb6⟩
            have B6 := belStep HBr hb6
            have C6 := cellStep HCr hb6
            have O6 := Lib.hid o6
            have k0 := C6.out.c0; have k1 := C6.out.c1; have f0 := C6.out.f0; have f1 := C6.out.f1; have cz6 := C6.out.lt
            clear o6 hb6
            go_wp2
            exact bodyPost_ret (v := .tuple #[.agg #[.int .i64 (ifW q U), .slice A6 (ifL q L).length c6], .bool q]) (by simp [results, Try.results25, go_sem, k0, k1]) rfl
              ⟨A6, c6, rfl, ((O6.out.setBelow (p := ⟨w.heap.size + 1 + 1, 0, none⟩) (by simp <;> omega) _).setBelow (p := ⟨w.heap.size + 1 + 1, 1, none⟩) (by simp <;> omega) _).mono (B' := w.heap.size) (by omega), (B6.out.setCell (p := ⟨w.heap.size + 1 + 1, 0, none⟩) (by simp <;> omega) _).setCell (p := ⟨w.heap.size + 1 + 1, 1, none⟩) (by simp <;> omega) _⟩
end Go.Proofs.Ytmlkccihpkpjfaa
