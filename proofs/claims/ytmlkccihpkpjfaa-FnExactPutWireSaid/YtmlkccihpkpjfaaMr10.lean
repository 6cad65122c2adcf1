/- PutWire of the model, and the contract of the program's madeRoom where no rung is in the way. -/
import Derived.Test.YtmlkccihpkpjfaaMr3
import Derived.Test.YtmlkccihpkpjfaaLB
namespace Go.Proofs.Ytmlkccihpkpjfaa
open Go Go.RowKit

def putO (a z : Int) : Int := if z < a then z else z + 1
def putL (zs : List Int) (a : Int) : List Int := zs.map (putO a)
theorem putL_len (zs : List Int) (a : Int) : (putL zs a).length = zs.length := by simp [putL]
theorem gi_putL (zs : List Int) (a : Int) (j : Nat) (h : j < zs.length) : gi (putL zs a) j = putO a (gi zs j) := by
  rw [gi_lt (by rw [putL_len]; exact h), gi_lt h]; simp [putL]
theorem putL_take (zs : List Int) (a : Int) (k : Nat) (h : k < zs.length) : (putL zs a).take (k + 1) = (putL zs a).take k ++ [putO a (gi zs k)] := by
  rw [List.take_succ_eq_append_getElem (by rw [putL_len]; exact h), ← gi_lt, gi_putL _ _ _ h]
theorem putO_lt {a z : Int} (h : z < a) : putO a z = z := by unfold putO; rw [if_pos h]
theorem putO_ge {a z : Int} (h : ¬ z < a) : putO a z = z + 1 := by unfold putO; rw [if_neg h]
def pwtB (W : Int) (zs : List Int) (a : Int) : Bool := lad W zs && (inB a 0 W && (!(hasM zs (a - 1)) && lad (W + 1) (putL zs a)))
theorem pwt_1 {W : Int} {zs : List Int} {a : Int} (h : lad W zs = false) : pwtB W zs a = false := by unfold pwtB; rw [h]; rfl
theorem pwt_2 {W : Int} {zs : List Int} {a : Int} (h : ¬ (0 ≤ a ∧ a ≤ W)) : pwtB W zs a = false := by unfold pwtB; rw [inB_false h]; simp
theorem pwt_3 {W : Int} {zs : List Int} {a : Int} (h : hasM zs (a - 1) = true) : pwtB W zs a = false := by unfold pwtB; rw [h]; simp
theorem pwt_4 {W : Int} {zs : List Int} {a : Int} (h1 : lad W zs = true) (h2 : 0 ≤ a ∧ a ≤ W) (h : hasM zs (a - 1) = false) : pwtB W zs a = lad (W + 1) (putL zs a) := by unfold pwtB; rw [h1, inB_true h2, h]; simp
theorem pwt_len1000 (W : Int) (zs : List Int) (a : Int) : (ifL (pwtB W zs a) (putL zs a)).length ≤ 1000 := by
  unfold ifL
  split
  · rename_i h
    unfold pwtB at h
    rw [Bool.and_eq_true, Bool.and_eq_true, Bool.and_eq_true] at h
    have := (lad_iff.1 h.2.2.2).2.1
    omega
  · simp

set_option maxRecDepth 100000 in
set_option maxHeartbeats 4000000 in
theorem sPutWire_any (W : Int) (A : Option Addr) (n c : Nat) (zs : List Int) (a : Int) (w : World) (h : RI w A n zs) (hn : n ≤ 1048576) :
    Calls Try.prog 23 #[.agg #[.int .i64 W, .slice A n c], .int .i64 a] w (FreshLB w (ifW (pwtB W zs a) (W + 1)) (ifL (pwtB W zs a) (putL zs a)).length (ifL (pwtB W zs a) (putL zs a)) (pwtB W zs a)) := by
  have hl := h.1
  have HA := boxAlloc (boxNew (W := W) (c := c) 26 h) (.cells #[.int .i64 0, .slice none 0 0] 26)
  have HB := belAlloc (belAlloc (belRefl (w := w)) (.cells #[.int .i64 W, .slice A n c] 26)) (.cells #[.int .i64 0, .slice none 0 0] 26)
  have HC := cellNew (w.alloc (.cells #[.int .i64 W, .slice A n c] 26)) (.int .i64 0) (.slice none 0 0) 26
  simp only [World.size_alloc] at HC
  have HI := Lib.hid (fun w2 (r : RI w2 A n zs) => laGood_any W A n c zs w2 r hn)
  rcases hq : lad W zs with _ | _
  · rw [pwt_1 hq, ifW_no, ifL_no]
    rw [hq] at HI
    clear hq h
    go_enter Try.func23, Try.ntmps23
    go_wp2_with fail
    refine (HI.out _ HA.out.ri).mono ?_
    rintro e w1 ⟨rfl, hb⟩
    replace HB := belStep HB hb
    replace HC := cellStep HC hb
    have k0 := HC.out.c0; have k1 := HC.out.c1; have f0 := HC.out.f0; have f1 := HC.out.f1; have hz := HC.out.lt
    clear hb
    go_wp2
    exact bodyPost_ret (v := .tuple #[.agg #[.int .i64 0, .slice none 0 0], .bool false]) (by simp [results, Try.results23, go_sem, k0, k1]) rfl ⟨none, 0, rfl, OI.none_ _ _, (by repeat (first | exact Below.refl _ _ | exact HB.out | refine Below.setCell ?_ (by simp <;> omega) _ | refine Below.alloc ?_ (by simp <;> omega) _ | refine below_drewN ?_ _))⟩
  · rw [hq] at HI
    have hW := (lad_iff.1 hq).1
    have HL := Lib.hid (fun w2 => l1In_any a 0 W w2)
    by_cases ha : 0 ≤ a ∧ a ≤ W
    · rw [inB_true ha] at HL
      have e1 : IntKind.i64.wrap (a - 1) = a - 1 := IntWalk.i64_in _ (by omega)
      have HH := Lib.hid (fun w2 (r : RI w2 A n zs) => l1HasM_any A n c zs (a - 1) w2 r hn)
      rcases hh : hasM zs (a - 1) with _ | _
      · rw [pwt_4 hq ha hh]
        rw [hh] at HH
        have hn60 : n ≤ 60 := by have := (lad_iff.1 hq).2.1; omega
        have HW := Lib.hid hq
        have hpl : (putL zs a).length = n := by rw [putL_len, hl]
        have HTK : Hid (∀ k, k < n → (putL zs a).take (k + 1) = (putL zs a).take k ++ [putO a (gi zs k)]) := fun k hk => putL_take zs a k (by omega)
        obtain ⟨L, hL⟩ : ∃ L, L = putL zs a := ⟨_, rfl⟩
        rw [← hL] at hpl HTK ⊢
        obtain ⟨q, hqq⟩ : ∃ q, q = lad (W + 1) L := ⟨_, rfl⟩
        have HQQ := Lib.hid hqq
        rw [← hqq]
        obtain ⟨V, hV⟩ : ∃ V, V = W + 1 := ⟨_, rfl⟩
        have hwv : IntKind.i64.wrap (W + 1) = V := by rw [IntWalk.i64_in _ (by omega), hV]
        rw [← hV] at HQQ ⊢
        have HV := Lib.hid hV
        clear hq h hh hL hqq hV
        go_enter Try.func23, Try.ntmps23
        go_wp2_with fail
        refine (HI.out _ HA.out.ri).mono ?_
        rintro e w1 ⟨rfl, hb⟩
        replace HA := boxStep HA hb; replace HB := belStep HB hb; replace HC := cellStep HC hb
        have a0 := HA.out.c0; have a1 := HA.out.c1; have az := HA.out.lt
        have cz := HC.out.lt
        clear hb
        go_wp2_with (first | (go_at_call 52; refine (HL.out _).mono ?_; rintro e w' ⟨rfl, rfl⟩) | (go_at_call 48; refine (HH.out _ HA.out.ri).mono ?_; rintro e w' ⟨rfl, rfl⟩))
        have HM := cellNew w1 (.int .i64 V) (.slice none 0 0) 26
        go_loopw [8, 34] (fun _ i wr => ∃ (k : Nat) (A1 : Option Addr) (c1 : Nat), k ≤ n ∧ i = .int .i64 k ∧ Cell2 wr w1.heap.size (.int .i64 V) (.slice A1 k c1) ∧ OI wr (w1.heap.size + 1) A1 k c1 (L.take k) ∧ Below w1.heap.size w1 wr) (fun _ i _ => n - (intOf i).toNat)
        case atStart => exact ⟨0, none, 0, Nat.zero_le _, rfl, HM.out, OI.none_ _ _, (Below.refl _ _).alloc (Nat.le_refl _) _⟩
        case round =>
          obtain ⟨k, A1, c1, hk, rfl, hm, ho, hb⟩ := hrel
          have HMr := Lib.hid hm
          have HO := Lib.hid ho
          have H1R := Lib.hid hb
          have HBX : Hid (BoxB wr w1.heap.size w.heap.size W A n c zs) := (BoxB.of HA.out).step hb
          have HCr := cellBelow HC (by omega) hb
          clear a0 a1 hm ho hb
          have a0 := HBX.out.c0; have a1 := HBX.out.c1
          have m0 := HMr.out.c0; have m1 := HMr.out.c1
          have zr : w1.heap.size < wr.heap.size := HMr.out.lt
          by_cases hlt : k < n
          · obtain ⟨b, off, rfl, hbw, hc⟩ := HBX.out.rb.ri.cell hlt
            have hck := hc k hlt
            have g1 := lad_at HW.out (j := k) (by omega)
            have HT := Lib.hid (HTK.out k hlt)
            obtain ⟨r, hr⟩ : ∃ r, r = gi zs k := ⟨_, rfl⟩
            rw [← hr] at hck g1 HT
            have hwr : IntKind.i64.wrap (r + 1) = r + 1 := IntWalk.i64_in _ (by omega)
            clear hc hr
            by_cases hra : r < a
            · rw [putO_lt hra] at HT
              go_wp2_with (at_builtin; refine wpList_append_int _ rfl _ _ rfl (w1.heap.size + 1) A1 k c1 _ r wr.heap.size rfl rfl (HO.out.alloc _) (by simp) (by omega) (by simp; omega) ?_; intro A2 c2 w2 ho2 hg2; have HM2 := cellKeptNe (cellAlloc HMr _) hg2 (HO.out.alloc _) (Nat.lt_succ_self _); have H1R2 : Hid (Below w1.heap.size w1 w2) := (H1R.out.alloc (by omega) _).trans (ofMark (HO.out.alloc _) hg2 (Nat.le_succ _) (by simp; omega)); have n0 := HM2.out.c0; have n1 := HM2.out.c1; have nf0 := HM2.out.f0; have nf1 := HM2.out.f1; have nz := HM2.out.lt)
              go_roundw
              case rel =>
                refine ⟨k + 1, A2, c2, by omega, by go_num, (cellSet1 HM2 _).out, ?_, H1R2.out.setCell (by simp) _⟩
                rw [HT.out]
                exact ho2.setBelow (by simp) _
              case measure => simp [intOf]; omega
            · rw [putO_ge hra] at HT
              have hra2 : a ≤ r := by omega
              clear hra
              go_wp2_with (at_builtin; refine wpList_append_int _ rfl _ _ rfl (w1.heap.size + 1) A1 k c1 _ (r + 1) wr.heap.size rfl rfl (HO.out.alloc _) (by simp) (by omega) (by simp; omega) ?_; intro A2 c2 w2 ho2 hg2; have HM2 := cellKeptNe (cellAlloc HMr _) hg2 (HO.out.alloc _) (Nat.lt_succ_self _); have H1R2 : Hid (Below w1.heap.size w1 w2) := (H1R.out.alloc (by omega) _).trans (ofMark (HO.out.alloc _) hg2 (Nat.le_succ _) (by simp; omega)); have n0 := HM2.out.c0; have n1 := HM2.out.c1; have nf0 := HM2.out.f0; have nf1 := HM2.out.f1; have nz := HM2.out.lt)
              go_roundw
              case rel =>
                refine ⟨k + 1, A2, c2, by omega, by go_num, (cellSet1 HM2 _).out, ?_, H1R2.out.setCell (by simp) _⟩
                rw [HT.out]
                exact ho2.setBelow (by simp) _
              case measure => simp [intOf]; omega
          · obtain rfl : k = n := by omega
            have e : L.take k = L := List.take_of_length_le (by omega)
            rw [e] at HO
            have HBr : Hid (Below w.heap.size w wr) := HB.out.trans (H1R.out.mono HB.out.size)
            have hz1 := HB.out.size
            go_wp2_with fail
            refine (laIf_own V A1 k c1 L (w1.heap.size + 1) _ HO.out (by omega)).mono ?_
            rw [← HQQ.out]
            rintro e w6 ⟨A6, c6, rfl, o6, hb6⟩
            have B6 := belStep HBr hb6
            have C6 := cellStep HCr hb6
            have O6 := Lib.hid o6
            have k0 := C6.out.c0; have k1 := C6.out.c1; have f0 := C6.out.f0; have f1 := C6.out.f1; have cz6 := C6.out.lt
            clear o6 hb6
            go_wp2
            exact bodyPost_ret (v := .tuple #[.agg #[.int .i64 (ifW q V), .slice A6 (ifL q L).length c6], .bool q]) (by simp [results, Try.results23, go_sem, k0, k1]) rfl
              ⟨A6, c6, rfl, ((O6.out.setBelow (p := ⟨w.heap.size + 1, 0, none⟩) (by simp <;> omega) _).setBelow (p := ⟨w.heap.size + 1, 1, none⟩) (by simp <;> omega) _).mono (B' := w.heap.size) (by omega), (B6.out.setCell (p := ⟨w.heap.size + 1, 0, none⟩) (by simp <;> omega) _).setCell (p := ⟨w.heap.size + 1, 1, none⟩) (by simp <;> omega) _⟩
      · rw [pwt_3 hh, ifW_no, ifL_no]
        rw [hh] at HH
        clear hq h hh
        go_enter Try.func23, Try.ntmps23
        go_wp2_with fail
        refine (HI.out _ HA.out.ri).mono ?_
        rintro e w1 ⟨rfl, hb⟩
        replace HA := boxStep HA hb; replace HB := belStep HB hb; replace HC := cellStep HC hb
        have a0 := HA.out.c0; have a1 := HA.out.c1; have az := HA.out.lt
        have k0 := HC.out.c0; have k1 := HC.out.c1; have f0 := HC.out.f0; have f1 := HC.out.f1; have hz := HC.out.lt
        clear hb
        go_wp2_with (first | (go_at_call 52; refine (HL.out _).mono ?_; rintro e w' ⟨rfl, rfl⟩) | (go_at_call 48; refine (HH.out _ HA.out.ri).mono ?_; rintro e w' ⟨rfl, rfl⟩))
        exact bodyPost_ret (v := .tuple #[.agg #[.int .i64 0, .slice none 0 0], .bool false]) (by simp [results, Try.results23, go_sem, k0, k1]) rfl ⟨none, 0, rfl, OI.none_ _ _, (by repeat (first | exact Below.refl _ _ | exact HB.out | refine Below.setCell ?_ (by simp <;> omega) _ | refine Below.alloc ?_ (by simp <;> omega) _ | refine below_drewN ?_ _))⟩
    · rw [inB_false ha] at HL
      rw [pwt_2 ha, ifW_no, ifL_no]
      clear hq h
      go_enter Try.func23, Try.ntmps23
      go_wp2_with fail
      refine (HI.out _ HA.out.ri).mono ?_
      rintro e w1 ⟨rfl, hb⟩
      replace HA := boxStep HA hb; replace HB := belStep HB hb; replace HC := cellStep HC hb
      have a0 := HA.out.c0; have a1 := HA.out.c1; have az := HA.out.lt
      have k0 := HC.out.c0; have k1 := HC.out.c1; have f0 := HC.out.f0; have f1 := HC.out.f1; have hz := HC.out.lt
      clear hb
      go_wp2_with (first | (go_at_call 52; refine (HL.out _).mono ?_; rintro e w' ⟨rfl, rfl⟩))
      exact bodyPost_ret (v := .tuple #[.agg #[.int .i64 0, .slice none 0 0], .bool false]) (by simp [results, Try.results23, go_sem, k0, k1]) rfl ⟨none, 0, rfl, OI.none_ _ _, (by repeat (first | exact Below.refl _ _ | exact HB.out | refine Below.setCell ?_ (by simp <;> omega) _ | refine Below.alloc ?_ (by simp <;> omega) _ | refine below_drewN ?_ _))⟩

set_option maxRecDepth 100000 in
set_option maxHeartbeats 2000000 in
theorem madeRoom_any (A : Option Addr) (n c : Nat) (zs : List Int) (a : Int) (w : World) (h : RI w A n zs) (hn : n ≤ 1048576) (hd : -1000 ≤ a ∧ a ≤ 1000) (hz : ∀ j, j < n → -1000 ≤ gi zs j ∧ gi zs j ≤ 1000) (hno : hasM zs (a - 1) = false) :
    Calls Try.prog 55 #[.slice A n c, .int .i64 a] w (FreshI w n (putL zs a)) := by
  have hl := h.1
  have hmk := run_make_row' (P := Try.prog) 22 3 (.int .i64 0) 8 Try.underlying22 infoInt rfl .i64 .i64 n (by omega) (by omega)
  have e1 : IntKind.i64.wrap (a - 1) = a - 1 := IntWalk.i64_in _ (by omega)
  have HNO : Hid (∀ j, j < n → gi zs j ≠ a - 1) := fun j hj e => by rw [conYes (by omega) e] at hno; cases hno
  go_enter Try.func55, Try.ntmps55
  go_wp2
  go_loopw [6, 7, 13] (fun _ _ i wr => ∃ k : Nat, k ≤ n ∧ i = .int .i64 k ∧ wr.rowIs w.heap.size 3 n (fun j => if j < k then .int .i64 (putO a (gi zs j)) else .int .i64 0) ∧ Below w.heap.size w wr) (fun _ _ i _ => n - (intOf i).toNat)
  case atStart =>
    refine ⟨0, Nat.zero_le _, rfl, (World.rowIs_made w (.int .i64 0) n 3).congr (fun j _ => by simp), (Below.refl _ _).alloc (Nat.le_refl _) _⟩
  case round =>
    obtain ⟨k, hk, rfl, hrow, hb⟩ := hrel
    by_cases hlt : k < n
    · obtain ⟨b, off, rfl, hbw, hc⟩ := h.cell hlt
      have hck : wr.cell? ⟨b, off + k, none⟩ = some (.int .i64 (gi zs k)) := (hb.cell (p := ⟨b, off + k, none⟩) hbw).trans (hc k hlt)
      have hdd := hrow.cell hlt
      have hf := hrow.frozen k
      have hzk := hz k hlt
      have hne : (gi zs k == a - 1) = false := beq_eq_false_iff_ne.2 (HNO.out k hlt)
      obtain ⟨r, hr⟩ : ∃ r, r = gi zs k := ⟨_, rfl⟩
      rw [← hr] at hck hzk hne
      have HR := Lib.hid hr
      have hwr : IntKind.i64.wrap (r + 1) = r + 1 := IntWalk.i64_in _ (by omega)
      simp only [Nat.lt_irrefl, if_false] at hdd
      have H1 := Lib.hid hrow
      have H2 := Lib.hid hb
      clear hrow hb hc hmk hr
      by_cases hra : r < a
      · have HP := Lib.hid (putO_lt hra)
        go_wp2
        go_roundw
        case rel =>
          refine ⟨k + 1, by omega, by go_num, (H1.out.set k _).congr (fun j hj => ?_), H2.out.setCell (by simp) _⟩
          by_cases e : j = k
          · simp [e, ← HR.out, HP.out]
          · by_cases e2 : j < k
            · simp [e, e2, show j < k + 1 by omega]
            · simp [e, e2, show ¬ j < k + 1 by omega]
        case measure => simp [intOf]; omega
      · have HP := Lib.hid (putO_ge hra)
        have hra2 : a ≤ r := by omega
        clear hra
        go_wp2
        go_roundw
        case rel =>
          refine ⟨k + 1, by omega, by go_num, (H1.out.set k _).congr (fun j hj => ?_), H2.out.setCell (by simp) _⟩
          by_cases e : j = k
          · simp [e, ← HR.out, HP.out]
          · by_cases e2 : j < k
            · simp [e, e2, show j < k + 1 by omega]
            · simp [e, e2, show ¬ j < k + 1 by omega]
        case measure => simp [intOf]; omega
    · obtain rfl : k = n := by omega
      go_wp2
      go_ret
      refine ⟨_, _, rfl, OI.of_rowIs (Nat.le_refl _) hrow (by simp only [maxLen]; omega) (by rw [putL_len]; exact hl) (fun j hj => by rw [if_pos hj, gi_putL _ _ _ (by omega)]), hb⟩
end Go.Proofs.Ytmlkccihpkpjfaa
