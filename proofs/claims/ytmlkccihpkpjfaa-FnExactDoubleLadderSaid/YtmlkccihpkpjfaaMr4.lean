/- DoubleLadder, of the program and of its model. -/
import Derived.Test.YtmlkccihpkpjfaaMr3
import Derived.Test.YtmlkccihpkpjfaaLB
namespace Go.Proofs.Ytmlkccihpkpjfaa
open Go Go.RowKit

def dbO (r : Int) : List Int := [2 * r + 1, 2 * r, 2 * r + 2, 2 * r + 1]
def dbR (zs : List Int) : Nat → List Int
  | 0 => []
  | k + 1 => dbR zs k ++ dbO (gi zs k)
def dbL (zs : List Int) : List Int := dbR zs zs.length
theorem dbR_len (zs : List Int) (k : Nat) : (dbR zs k).length = 4 * k := by
  induction k with
  | zero => simp [dbR]
  | succ k ih => simp only [dbR, List.length_append, ih, dbO, List.length_cons, List.length_nil]; omega
def dbB (W : Int) (zs : List Int) : Bool := lad W zs && lad (2 * W) (dbL zs)
theorem db_len1000 (W : Int) (zs : List Int) : (ifL (dbB W zs) (dbL zs)).length ≤ 1000 := by
  unfold ifL
  split
  · rename_i h
    unfold dbB at h
    rw [Bool.and_eq_true] at h
    have := (lad_iff.1 h.2).2.1
    omega
  · simp
theorem RI.four (w : World) (a b c d : Int) : RI (w.alloc (.cells #[.int .i64 a, .int .i64 b, .int .i64 c, .int .i64 d] 3)) (some ⟨w.heap.size, 0, none⟩) 4 [a, b, c, d] := by
  refine ⟨rfl, fun _ => ⟨w.heap.size, 0, rfl, by simp, fun j hj => ?_⟩⟩
  rw [Nat.zero_add]
  rcases (by omega : j = 0 ∨ j = 1 ∨ j = 2 ∨ j = 3) with rfl | rfl | rfl | rfl <;> simp [gi]

set_option maxRecDepth 100000 in
set_option maxHeartbeats 4000000 in
theorem iDoubleLadder_any (W : Int) (A : Option Addr) (n c : Nat) (zs : List Int) (w : World) (h : RI w A n zs) (hn : n ≤ 1048576) :
    Calls Try.prog 28 #[.agg #[.int .i64 W, .slice A n c]] w (FreshLB w (ifW (dbB W zs) (2 * W)) (ifL (dbB W zs) (dbL zs)).length (ifL (dbB W zs) (dbL zs)) (dbB W zs)) := by
  have hl := h.1
  have HA := boxAlloc (boxNew (W := W) (c := c) 26 h) (.cells #[.int .i64 0, .slice none 0 0] 26)
  have HB := belAlloc (belAlloc (belRefl (w := w)) (.cells #[.int .i64 W, .slice A n c] 26)) (.cells #[.int .i64 0, .slice none 0 0] 26)
  have HC := cellNew (w.alloc (.cells #[.int .i64 W, .slice A n c] 26)) (.int .i64 0) (.slice none 0 0) 26
  simp only [World.size_alloc] at HC
  have HI := Lib.hid (fun w2 (r : RI w2 A n zs) => iIsLadder_any W A n c zs w2 r hn)
  rcases hq : lad W zs with _ | _
  · have e : dbB W zs = false := by unfold dbB; rw [hq]; rfl
    rw [e, ifW_no, ifL_no]
    rw [hq] at HI
    clear hq h e
    go_enter Try.func28, Try.ntmps28
    go_wp2_with fail
    refine (HI.out _ HA.out.ri).mono ?_
    rintro e w1 ⟨rfl, hb⟩
    replace HB := belStep HB hb
    replace HC := cellStep HC hb
    have k0 := HC.out.c0; have k1 := HC.out.c1; have f0 := HC.out.f0; have f1 := HC.out.f1; have hz := HC.out.lt
    clear hb
    go_wp2
    exact bodyPost_ret (v := .tuple #[.agg #[.int .i64 0, .slice none 0 0], .bool false]) (by simp [results, Try.results28, go_sem, k0, k1]) rfl ⟨none, 0, rfl, OI.none_ _ _, (by repeat (first | exact Below.refl _ _ | exact HB.out | refine Below.setCell ?_ (by simp <;> omega) _ | refine Below.alloc ?_ (by simp <;> omega) _ | refine below_drewN ?_ _))⟩
  · rw [hq] at HI
    have hW := (lad_iff.1 hq).1
    have hn60 : n ≤ 60 := by have := (lad_iff.1 hq).2.1; omega
    have HW := Lib.hid hq
    have e : dbB W zs = lad (2 * W) (dbL zs) := by unfold dbB; rw [hq]; rfl
    rw [e]
    have HLN : (dbL zs).length = 4 * n := by unfold dbL; rw [dbR_len, hl]
    have HDL : Hid (dbR zs n = dbL zs) := by show _ = _; unfold dbL; rw [hl]
    obtain ⟨L, hL⟩ : ∃ L, L = dbL zs := ⟨_, rfl⟩
    rw [← hL] at HDL HLN ⊢
    obtain ⟨q, hqq⟩ : ∃ q, q = lad (2 * W) L := ⟨_, rfl⟩
    have HQQ := Lib.hid hqq
    rw [← hqq]
    obtain ⟨V, hV⟩ : ∃ V, V = 2 * W := ⟨_, rfl⟩
    have hwv : IntKind.i64.wrap (2 * W) = V := by rw [IntWalk.i64_in _ (by omega), hV]
    rw [← hV] at HQQ ⊢
    clear hq h e hL hqq
    go_enter Try.func28, Try.ntmps28
    go_wp2_with fail
    refine (HI.out _ HA.out.ri).mono ?_
    rintro e w1 ⟨rfl, hb⟩
    replace HA := boxStep HA hb; replace HB := belStep HB hb; replace HC := cellStep HC hb
    have a0 := HA.out.c0; have a1 := HA.out.c1; have az := HA.out.lt
    have cz := HC.out.lt
    have HZ := Lib.hid HB.out.size
    clear hb
    have HV := Lib.hid hV
    clear hV
    go_wp2
    go_loopw [4, 6, 14] (fun v _ i wr => ∃ (k : Nat) (A1 : Option Addr) (c1 : Nat), k ≤ n ∧ i = .int .i64 k ∧ v = .slice A1 (4 * k) c1 ∧ OI wr w1.heap.size A1 (4 * k) c1 (dbR zs k) ∧ Below w1.heap.size w1 wr) (fun _ _ i _ => n - (intOf i).toNat)
    case atStart => exact ⟨0, none, 0, Nat.zero_le _, rfl, rfl, OI.none_ _ _, Below.refl _ _⟩
    case round =>
      obtain ⟨k, A1, c1, hk, rfl, rfl, ho, hb⟩ := hrel
      have HO := Lib.hid ho
      have HR := Lib.hid hb
      have HAr := boxStep HA hb
      have HBr := belStep HB hb
      have HCr := cellStep HC hb
      replace a0 := HAr.out.c0; replace a1 := HAr.out.c1
      have azr := HAr.out.lt
      have hbs := hb.size
      clear ho hb
      by_cases hlt : k < n
      · obtain ⟨b, off, rfl, hbw, hc⟩ := HAr.out.ri.cell hlt
        have hck := hc k hlt
        have g1 := lad_at HW.out (j := k) (by omega)
        obtain ⟨r, hr⟩ : ∃ r, r = gi zs k := ⟨_, rfl⟩
        rw [← hr] at hck g1
        have HT : Hid (dbR zs (k + 1) = dbR zs k ++ [2 * r + 1, 2 * r, 2 * r + 2, 2 * r + 1]) := by rw [hr]; exact (rfl : _ = _)
        have w0 : IntKind.i64.wrap (2 * r) = 2 * r := IntWalk.i64_in _ (by omega)
        have w1' : IntKind.i64.wrap (2 * r + 1) = 2 * r + 1 := IntWalk.i64_in _ (by omega)
        have w2' : IntKind.i64.wrap (2 * r + 2) = 2 * r + 2 := IntWalk.i64_in _ (by omega)
        clear hc hr
        go_wp2_with (at_builtin; refine wpList_append_ints _ rfl _ _ rfl w1.heap.size A1 (4 * k) c1 (dbR zs k) (some ⟨wr.heap.size, 0, none⟩) 4 4 [2 * r + 1, 2 * r, 2 * r + 2, 2 * r + 1] rfl rfl (HO.out.alloc _) (RI.four _ _ _ _ _) (by omega) (by omega) (by simp; omega) ?_; intro A3 c3 w3 ho3 hg3)
        go_roundw
        case rel =>
          refine ⟨k + 1, A3, c3, by omega, by go_num, by rw [Nat.mul_succ], ?_, belStep' HR HO.out hg3⟩
          rw [HT.out, Nat.mul_succ]; exact ho3
        case measure => simp [intOf]; omega
      · obtain rfl : k = n := by omega
        rw [HDL.out] at HO
        have PT := Lib.hid (Parts.one (c := c1) HO.out.ri)
        have H2 := boxAlloc HAr (.cells #[.slice A1 (4 * k) c1] 22)
        have B2 := belAlloc HBr (.cells #[.slice A1 (4 * k) c1] 22)
        have C2 := cellAlloc HCr (.cells #[.slice A1 (4 * k) c1] 22)
        go_wp2_with fail
        refine (ladderOf_any V _ 1 1 _ _ _ _ _ PT.out (by omega) L (cat_one _) (by omega)).mono ?_
        rw [← HQQ.out]
        rintro e w5 ⟨A5, c5, rfl, o5, hb⟩
        have B5 := belStep B2 hb
        have C5 := cellStep C2 hb
        have O5 := Lib.hid o5
        have hz2 := B2.out.size
        simp only [World.size_alloc] at hz2
        have k0 := C5.out.c0; have k1 := C5.out.c1; have f0 := C5.out.f0; have f1 := C5.out.f1; have cz5 := C5.out.lt
        clear o5 hb
        go_wp2
        exact bodyPost_ret (v := .tuple #[.agg #[.int .i64 (ifW q V), .slice A5 (ifL q L).length c5], .bool q]) (by simp [results, Try.results28, go_sem, k0, k1]) rfl
          ⟨A5, c5, rfl, ((O5.out.setBelow (p := ⟨w.heap.size + 1, 0, none⟩) (by simp <;> omega) _).setBelow (p := ⟨w.heap.size + 1, 1, none⟩) (by simp <;> omega) _).mono (B' := w.heap.size) (by simp <;> omega), (B5.out.setCell (p := ⟨w.heap.size + 1, 0, none⟩) (by simp <;> omega) _).setCell (p := ⟨w.heap.size + 1, 1, none⟩) (by simp <;> omega) _⟩

set_option maxRecDepth 100000 in
set_option maxHeartbeats 4000000 in
theorem sDoubleLadder_any (W : Int) (A : Option Addr) (n c : Nat) (zs : List Int) (w : World) (h : RI w A n zs) (hn : n ≤ 1048576) :
    Calls Try.prog 27 #[.agg #[.int .i64 W, .slice A n c]] w (FreshLB w (ifW (dbB W zs) (2 * W)) (ifL (dbB W zs) (dbL zs)).length (ifL (dbB W zs) (dbL zs)) (dbB W zs)) := by
  have hl := h.1
  have HA := boxAlloc (boxNew (W := W) (c := c) 26 h) (.cells #[.int .i64 0, .slice none 0 0] 26)
  have HB := belAlloc (belAlloc (belRefl (w := w)) (.cells #[.int .i64 W, .slice A n c] 26)) (.cells #[.int .i64 0, .slice none 0 0] 26)
  have HC := cellNew (w.alloc (.cells #[.int .i64 W, .slice A n c] 26)) (.int .i64 0) (.slice none 0 0) 26
  simp only [World.size_alloc] at HC
  have HI := Lib.hid (fun w2 (r : RI w2 A n zs) => laGood_any W A n c zs w2 r hn)
  rcases hq : lad W zs with _ | _
  · have e : dbB W zs = false := by unfold dbB; rw [hq]; rfl
    rw [e, ifW_no, ifL_no]
    rw [hq] at HI
    clear hq h e
    go_enter Try.func27, Try.ntmps27
    go_wp2_with fail
    refine (HI.out _ HA.out.ri).mono ?_
    rintro e w1 ⟨rfl, hb⟩
    replace HB := belStep HB hb
    replace HC := cellStep HC hb
    have k0 := HC.out.c0; have k1 := HC.out.c1; have f0 := HC.out.f0; have f1 := HC.out.f1; have hz := HC.out.lt
    clear hb
    go_wp2
    exact bodyPost_ret (v := .tuple #[.agg #[.int .i64 0, .slice none 0 0], .bool false]) (by simp [results, Try.results27, go_sem, k0, k1]) rfl ⟨none, 0, rfl, OI.none_ _ _, (by repeat (first | exact Below.refl _ _ | exact HB.out | refine Below.setCell ?_ (by simp <;> omega) _ | refine Below.alloc ?_ (by simp <;> omega) _ | refine below_drewN ?_ _))⟩
  · rw [hq] at HI
    have hW := (lad_iff.1 hq).1
    have hn60 : n ≤ 60 := by have := (lad_iff.1 hq).2.1; omega
    have HW := Lib.hid hq
    have e : dbB W zs = lad (2 * W) (dbL zs) := by unfold dbB; rw [hq]; rfl
    rw [e]
    have HLN : (dbL zs).length = 4 * n := by unfold dbL; rw [dbR_len, hl]
    have HDL : Hid (dbR zs n = dbL zs) := by show _ = _; unfold dbL; rw [hl]
    obtain ⟨L, hL⟩ : ∃ L, L = dbL zs := ⟨_, rfl⟩
    rw [← hL] at HDL HLN ⊢
    obtain ⟨q, hqq⟩ : ∃ q, q = lad (2 * W) L := ⟨_, rfl⟩
    have HQQ := Lib.hid hqq
    rw [← hqq]
    obtain ⟨V, hV⟩ : ∃ V, V = 2 * W := ⟨_, rfl⟩
    have hwv : IntKind.i64.wrap (2 * W) = V := by rw [IntWalk.i64_in _ (by omega), hV]
    rw [← hV] at HQQ ⊢
    clear hq h e hL hqq
    go_enter Try.func27, Try.ntmps27
    go_wp2_with fail
    refine (HI.out _ HA.out.ri).mono ?_
    rintro e w1 ⟨rfl, hb⟩
    replace HA := boxStep HA hb; replace HB := belStep HB hb; replace HC := cellStep HC hb
    have a0 := HA.out.c0; have a1 := HA.out.c1; have az := HA.out.lt
    have cz := HC.out.lt
    clear hb
    have HV := Lib.hid hV
    clear hV
    go_wp2
    have HM := cellNew w1 (.int .i64 V) (.slice none 0 0) 26
    go_loopw [6, 18] (fun _ i wr => ∃ (k : Nat) (A1 : Option Addr) (c1 : Nat), k ≤ n ∧ i = .int .i64 k ∧ Cell2 wr w1.heap.size (.int .i64 V) (.slice A1 (4 * k) c1) ∧ OI wr (w1.heap.size + 1) A1 (4 * k) c1 (dbR zs k) ∧ Below w1.heap.size w1 wr) (fun _ i _ => n - (intOf i).toNat)
    case atStart => exact ⟨0, none, 0, Nat.zero_le _, rfl, HM.out, OI.none_ _ _, (Below.refl _ _).alloc (Nat.le_refl _) _⟩
    case round =>
      obtain ⟨k, A1, c1, hk, rfl, hm, ho, hb⟩ := hrel
      have HMr := Lib.hid hm
      have HO := Lib.hid ho
      have H1R := Lib.hid hb
      have HBX : Hid (BoxB wr w1.heap.size w.heap.size W A n c zs) := (BoxB.of HA.out).step hb
      have HCr := cellBelow HC (by omega) hb
      clear a0 a1 hm ho hb
      have a0 := HBX.out.c0; have a1 := HBX.out.c1
      have m0 := HMr.out.c0; have m1 := HMr.out.c1
      have zr : w1.heap.size < wr.heap.size := HMr.out.lt
      by_cases hlt : k < n
      · obtain ⟨b, off, rfl, hbw, hc⟩ := HBX.out.rb.ri.cell hlt
        have hck := hc k hlt
        have g1 := lad_at HW.out (j := k) (by omega)
        obtain ⟨r, hr⟩ : ∃ r, r = gi zs k := ⟨_, rfl⟩
        rw [← hr] at hck g1
        have HT : Hid (dbR zs (k + 1) = dbR zs k ++ [2 * r + 1, 2 * r, 2 * r + 2, 2 * r + 1]) := by rw [hr]; exact (rfl : _ = _)
        have w0 : IntKind.i64.wrap (2 * r) = 2 * r := IntWalk.i64_in _ (by omega)
        have w1' : IntKind.i64.wrap (2 * r + 1) = 2 * r + 1 := IntWalk.i64_in _ (by omega)
        have w2' : IntKind.i64.wrap (2 * r + 2) = 2 * r + 2 := IntWalk.i64_in _ (by omega)
        clear hc hr
        go_wp2_with (at_builtin; refine wpList_append_ints _ rfl _ _ rfl (w1.heap.size + 1) A1 (4 * k) c1 (dbR zs k) (some ⟨wr.heap.size, 0, none⟩) 4 4 [2 * r + 1, 2 * r, 2 * r + 2, 2 * r + 1] rfl rfl (HO.out.alloc _) (RI.four _ _ _ _ _) (by omega) (by omega) (by simp; omega) ?_; intro A2 c2 w2 ho2 hg2; have HM2 := cellKeptNe (cellAlloc HMr _) hg2 (HO.out.alloc _) (Nat.lt_succ_self _); have H1R2 : Hid (Below w1.heap.size w1 w2) := (H1R.out.alloc (by omega) _).trans (ofMark (HO.out.alloc _) hg2 (Nat.le_succ _) (by simp; omega)); have n0 := HM2.out.c0; have n1 := HM2.out.c1; have nf0 := HM2.out.f0; have nf1 := HM2.out.f1; have nz := HM2.out.lt)
        go_roundw
        case rel =>
          refine ⟨k + 1, A2, c2, by omega, by go_num, by rw [Nat.mul_succ]; exact (cellSet1 HM2 _).out, ?_, H1R2.out.setCell (by simp) _⟩
          rw [HT.out, Nat.mul_succ]
          exact ho2.setBelow (by simp) _
        case measure => simp [intOf]; omega
      · obtain rfl : k = n := by omega
        rw [HDL.out] at HO
        have HBr : Hid (Below w.heap.size w wr) := HB.out.trans (H1R.out.mono HB.out.size)
        have hz1 := HB.out.size
        go_wp2_with fail
        refine (laIf_own V A1 (4 * k) c1 L (w1.heap.size + 1) _ HO.out (by omega)).mono ?_
        rw [← HQQ.out]
        rintro e w6 ⟨A6, c6, rfl, o6, hb6⟩
        have B6 := belStep HBr hb6
        have C6 := cellStep HCr hb6
        have O6 := Lib.hid o6
        have k0 := C6.out.c0; have k1 := C6.out.c1; have f0 := C6.out.f0; have f1 := C6.out.f1; have cz6 := C6.out.lt
        clear o6 hb6
        go_wp2
        exact bodyPost_ret (v := .tuple #[.agg #[.int .i64 (ifW q V), .slice A6 (ifL q L).length c6], .bool q]) (by simp [results, Try.results27, go_sem, k0, k1]) rfl
          ⟨A6, c6, rfl, ((O6.out.setBelow (p := ⟨w.heap.size + 1, 0, none⟩) (by simp <;> omega) _).setBelow (p := ⟨w.heap.size + 1, 1, none⟩) (by simp <;> omega) _).mono (B' := w.heap.size) (by omega), (B6.out.setCell (p := ⟨w.heap.size + 1, 0, none⟩) (by simp <;> omega) _).setCell (p := ⟨w.heap.size + 1, 1, none⟩) (by simp <;> omega) _⟩
end Go.Proofs.Ytmlkccihpkpjfaa
