/- The contract of the program's OrderTimes. -/
import Derived.Test.YtijddnllacphfaaT1
namespace Go.Proofs.Ytijddnllacphfaa
open Go Go.RowKit

set_option maxRecDepth 100000 in
set_option maxHeartbeats 2000000 in
theorem iOrderTimes_any (A0 : Option Addr) (n c0 : Nat) (zs : List Int) (w : World) (h : RI w A0 n zs) (hn : n ≤ 1048576) (_hnc : n ≤ c0) :
    Calls Try.prog 67 #[.slice A0 n c0] w (RetIB (timesN zs) (ord zs) w) := by
  rcases hq : ord zs with _ | _
  · rw [timesN_no hq]
    have HW := Lib.hid hq
    clear hq
    go_enter Try.func67, Try.ntmps67
    go_wp2_with fail
    refine (iIsOrder_any A0 n c0 zs _ h (by omega)).mono ?_
    rw [HW.out]
    rintro e w1 ⟨rfl, hb⟩
    have HB := Lib.hid hb
    clear hb
    go_wp2
    go_ret2
    exact ⟨rfl, HB.out⟩
  · rw [timesN_yes hq]
    have HO := Lib.hid (iIsOrder_any A0 n c0 zs w h (by omega))
    rw [hq] at HO
    have HIN := Lib.hid (pw_in8 hq)
    have HS := Lib.hid (pw_succ hq)
    have H1 := Lib.hid (pw_one hq)
    have HH := Lib.hid (pw_home hq)
    have hp0 := per_pos hq
    have hp8 := per_le hq
    have hl := h.1
    have h8 : n ≤ 8 := by have := (ord_iff.1 hq).2.1; omega
    clear hq
    go_enter Try.func67, Try.ntmps67
    go_wp2_with fail
    refine HO.out.mono ?_
    rintro e w1 ⟨rfl, hb⟩
    have HB := Lib.hid hb
    have HA : Hid (RI w1 A0 n zs) := h.below hb (Nat.le_refl _)
    clear hb h
    go_wp2_with fail
    refine (seatsOf_any A0 n c0 zs _ HA.out h8).mono ?_
    rintro e w2 ⟨rfl, hb⟩
    replace HB := belStep HB hb
    clear hb
    go_wp2_with fail
    refine (seatsOf_any none 0 0 [] _ ⟨rfl, fun h => absurd h (by omega)⟩ (by omega)).mono ?_
    rintro e w3 ⟨rfl, hb⟩
    replace HB := belStep HB hb
    clear hb
    rw [seats_nil]
    obtain ⟨us, hus⟩ : ∃ us, us = seats zs := ⟨_, rfl⟩
    rw [← hus]
    rw [← hus] at HS H1
    have hul : us.length = 8 := by rw [hus, seats_length]
    clear hus
    obtain ⟨Z, hZ⟩ : ∃ Z : Obj, Z = (.cells #[.int .i64 0, .int .i64 0, .int .i64 0, .int .i64 0, .int .i64 0, .int .i64 0, .int .i64 0, .int .i64 0] 80) := ⟨_, rfl⟩
    obtain ⟨hs, hhs⟩ : ∃ hs, hs = home8 := ⟨_, rfl⟩
    rw [← hhs]
    rw [← hhs] at HH
    have hhl : hs.length = 8 := by rw [hhs]; rfl
    clear hhs
    have hI : (I us).length = 8 := by rw [I_length, hul]
    have hI2 : (I hs).length = 8 := by rw [I_length, hhl]
    obtain ⟨b4, hb4⟩ : ∃ b4, b4 = w3.heap.size := ⟨_, rfl⟩
    obtain ⟨X, hX⟩ : ∃ X, X = (w3.alloc Z).alloc Z := ⟨_, rfl⟩
    have hx4 : X.heap[b4]? = some Z := by rw [hX, hb4]; exact (((Below.refl (w3.alloc Z).heap.size (w3.alloc Z)).alloc (Nat.le_refl _) Z).block w3.heap.size (by simp)).trans (heap_alloc_new w3 Z)
    have hx5 : X.heap[b4 + 1]? = some Z := by rw [hX, hb4]; have := heap_alloc_new (w3.alloc Z) Z; rwa [World.size_alloc] at this
    have hxz : X.heap.size = b4 + 2 := by rw [hX, hb4]; simp
    have HBX : Hid (Below w.heap.size w X) := by rw [hX]; exact belAlloc (belAlloc HB Z) Z
    rw [hZ] at hx4 hx5
    have hst1 := run_storeCells_from (P := Try.prog) b4 80 (I us) 0 _ X hx4 (by rw [hI]; rfl) (fun v hv => I_one _ v hv)
    rw [List.take_zero, List.nil_append] at hst1
    have hx5' : (X.setRow b4 (I us).toArray).heap[b4 + 1]? = _ := (setRow_other X b4 (b4 + 1) _ (by omega)).trans hx5
    have hst2 := run_storeCells_from (P := Try.prog) (b4 + 1) 80 (I hs) 0 _ _ hx5' (by rw [hI2]; rfl) (fun v hv => I_one _ v hv)
    rw [List.take_zero, List.nil_append] at hst2
    have hy4 : (X.setRow b4 (I us).toArray).heap[b4]? = _ := setRow_heap X b4 _ (I us).toArray 80 (0, 0) hx4
    have hy5 := setRow_heap _ (b4 + 1) _ (I hs).toArray 80 (0, 0) hx5'
    have hy4' : ((X.setRow b4 (I us).toArray).setRow (b4 + 1) (I hs).toArray).heap[b4]? = _ := (setRow_other _ (b4 + 1) b4 _ (by omega)).trans hy4
    have HBY : Hid (Below w.heap.size w ((X.setRow b4 (I us).toArray).setRow (b4 + 1) (I hs).toArray)) := by
      have hle := HB.out.size
      exact below_setRow (below_setRow HBX.out (by omega) _) (by omega) _
    obtain ⟨Y, hY⟩ : ∃ Y, Y = (X.setRow b4 (I us).toArray).setRow (b4 + 1) (I hs).toArray := ⟨_, rfl⟩
    rw [← hY] at hst2 hy4' hy5 HBY
    have hYz : Y.heap.size = b4 + 2 := by rw [hY]; simp [hxz]
    have HY4 := Lib.hid hy4'
    have HY5 := Lib.hid hy5
    rw [hX, hZ] at hst1
    rw [hX, hZ] at hst2
    clear hY hx4 hx5 hx5' hy4 hy5 hy4' hX HBX hZ
    subst hb4
    have hst3 := storeNew8 Y 80 (.int .i64 0) us hul
    rw [hYz] at hst3
    have HYb := Lib.hid hYz
    go_wp2_with (with_reducible refine wpList_load_row (o := ⟨some 14, _, _, _, _, _⟩) rfl 80 (.tmp 4) rfl w3.heap.size rfl 80 (I us).toArray (0, 0) _ HY4.out Try.underlying80 rfl (by rw [infoSeats]; simp [hI]) ?_)
    clear hst1 hst2 hst3
    go_loopw [6, 7] (fun s6 s7 wr => ∃ t b7 : Nat, 1 ≤ t ∧ t ≤ per zs ∧ s6 = .int .i64 (t : Int) ∧ s7 = .pointer (some ⟨b7, 0, none⟩) ∧ w3.heap.size + 2 ≤ b7 ∧ wr.heap[b7]? = some (.cells (I (pw zs t)).toArray 80 (0, 0)) ∧ wr.heap[w3.heap.size]? = some (.cells (I us).toArray 80 (0, 0)) ∧ wr.heap[w3.heap.size + 1]? = some (.cells (I hs).toArray 80 (0, 0)) ∧ Below w.heap.size w wr) (fun s6 _ _ => 300 - (intOf s6).toNat)
    case atStart =>
      refine ⟨1, w3.heap.size + 2, Nat.le_refl _, hp0, rfl, rfl, Nat.le_refl _, ?_, ?_, ?_, (belAlloc HBY _).out⟩
      · rw [H1.out]
        have := heap_alloc_new Y (.cells (I us).toArray 80)
        rwa [HYb.out] at this
      · exact (((Below.refl Y.heap.size Y).alloc (Nat.le_refl _) _).block _ (by omega)).trans HY4.out
      · exact (((Below.refl Y.heap.size Y).alloc (Nat.le_refl _) _).block _ (by omega)).trans HY5.out
    case round =>
      obtain ⟨t, b7, ht1, htp, rfl, rfl, hb7, h7, h4, h5, hbl⟩ := hrel
      have H7 := Lib.hid h7
      have H4 := Lib.hid h4
      have H5 := Lib.hid h5
      have HBL := Lib.hid hbl
      have hz7 : b7 < wr.heap.size := (Array.getElem?_eq_some_iff.1 h7).1
      clear h7 h4 h5 hbl
      have hpl : (I (pw zs t)).length = 8 := by rw [I_length, pw_length]
      have hguard := guardSeats
      obtain ⟨q, hq⟩ : ∃ q, q = !decide (pw zs t = hs) := ⟨_, rfl⟩
      have hneq : ∀ w' : World, (binOp .neq 80 (.agg (I (pw zs t)).toArray) (.agg (I hs).toArray)).run Try.prog w' = .ok (.bool q) w' := fun w' => by rw [hq]; exact neqSeats w' (pw zs t) hs (pw_length zs t) hhl
      have HQ := Lib.hid hq
      clear hq
      cases q with
      | false =>
        go_wp2_with (first
          | (with_reducible refine wpList_load_row (o := ⟨some 15, _, _, _, _, _⟩) rfl 80 (.tmp 7) rfl b7 rfl 80 (I (pw zs t)).toArray (0, 0) _ H7.out Try.underlying80 rfl (by rw [infoSeats]; simp [hpl]) ?_)
          | (with_reducible refine wpList_load_row (o := ⟨some 16, _, _, _, _, _⟩) rfl 80 (.tmp 5) rfl (w3.heap.size + 1) rfl 80 (I hs).toArray (0, 0) _ H5.out Try.underlying80 rfl (by rw [infoSeats]; simp [hI2]) ?_))
        go_ret2
        have e := HQ.out
        have e2 : pw zs t = hs := by simpa using e.symm
        have e3 := (HH.out t).1 e2
        have e4 := Nat.le_of_dvd (by omega) e3
        obtain rfl : t = per zs := by omega
        exact ⟨rfl, HBL.out⟩
      | true =>
        have hlt : t < per zs := by
          have e := HQ.out
          have e2 : ¬ pw zs t = hs := by simpa using e.symm
          rw [HH.out] at e2
          rcases Nat.lt_or_ge t (per zs) with g | g
          · exact g
          · exact absurd (show t = per zs by omega ▸ Nat.dvd_refl _) e2
        have N7 : Hid ((wr.alloc (.cells (I (pw zs t)).toArray 80)).heap[wr.heap.size]? = some (.cells (I (pw zs t)).toArray 80 (0, 0))) := heap_alloc_new wr _
        have hba : Below wr.heap.size wr (wr.alloc (.cells (I (pw zs t)).toArray 80)) := (Below.refl _ _).alloc (Nat.le_refl _) _
        have N4 : Hid ((wr.alloc (.cells (I (pw zs t)).toArray 80)).heap[w3.heap.size]? = some (.cells (I us).toArray 80 (0, 0))) := (hba.block _ (by omega)).trans H4.out
        have N5 : Hid ((wr.alloc (.cells (I (pw zs t)).toArray 80)).heap[w3.heap.size + 1]? = some (.cells (I hs).toArray 80 (0, 0))) := (hba.block _ (by omega)).trans H5.out
        have HBA := belAlloc HBL (.cells (I (pw zs t)).toArray 80)
        clear hba
        have hst4 := storeNew8 wr 80 (.int .i64 0) (pw zs t) (pw_length zs t)
        go_wp2_with (first
          | (with_reducible refine wpList_load_row (o := ⟨some 15, _, _, _, _, _⟩) rfl 80 (.tmp 7) rfl b7 rfl 80 (I (pw zs t)).toArray (0, 0) _ H7.out Try.underlying80 rfl (by rw [infoSeats]; simp [hpl]) ?_)
          | (with_reducible refine wpList_load_row (o := ⟨some 16, _, _, _, _, _⟩) rfl 80 (.tmp 5) rfl (w3.heap.size + 1) rfl 80 (I hs).toArray (0, 0) _ H5.out Try.underlying80 rfl (by rw [infoSeats]; simp [hI2]) ?_)
          | (with_reducible refine wpList_load_row (o := ⟨some 23, _, _, _, _, _⟩) rfl 80 (.tmp 7) rfl b7 rfl 80 (I (pw zs t)).toArray (0, 0) _ H7.out Try.underlying80 rfl (by rw [infoSeats]; simp [hpl]) ?_)
          | (with_reducible refine wpList_load_row (o := ⟨some 18, _, _, _, _, _⟩) rfl 80 (.tmp 7) rfl wr.heap.size rfl 80 (I (pw zs t)).toArray (0, 0) _ N7.out Try.underlying80 rfl (by rw [infoSeats]; simp [hpl]) ?_)
          | (with_reducible refine wpList_load_row (o := ⟨some 19, _, _, _, _, _⟩) rfl 80 (.tmp 4) rfl w3.heap.size rfl 80 (I us).toArray (0, 0) _ N4.out Try.underlying80 rfl (by rw [infoSeats]; simp [hI]) ?_))
        refine (then_any (pw zs t) us _ (HIN.out t) hul).mono ?_
        rintro e w5 ⟨rfl, hb5⟩
        rw [HS.out t]
        have n7 := (hb5.block wr.heap.size (by simp)).trans N7.out
        have n4 := (hb5.block w3.heap.size (by simp; omega)).trans N4.out
        have n5 := (hb5.block (w3.heap.size + 1) (by simp; omega)).trans N5.out
        have B5 := belStep HBA hb5
        have hps : (I (pw zs (t + 1))).length = 8 := by rw [I_length, pw_length]
        have hst5 := run_storeCells_from (P := Try.prog) wr.heap.size 80 (I (pw zs (t + 1))) 0 _ w5 n7 (by rw [hps]; simp [hpl]) (fun v hv => I_one _ v hv)
        rw [List.take_zero, List.nil_append] at hst5
        have N7' := Lib.hid n7
        have N4' := Lib.hid n4
        have N5' := Lib.hid n5
        clear hb5 n7 n4 n5 hst4
        go_wp2
        go_roundw
        case rel =>
          have hle := HBL.out.size
          refine ⟨t + 1, wr.heap.size, by omega, by omega, by go_num, rfl, by omega, setRow_heap _ _ _ _ _ _ N7'.out, (setRow_other _ _ _ _ (by omega)).trans N4'.out, (setRow_other _ _ _ _ (by omega)).trans N5'.out, below_setRow B5.out hle _⟩
        case measure => simp [intOf]; omega
end Go.Proofs.Ytijddnllacphfaa
