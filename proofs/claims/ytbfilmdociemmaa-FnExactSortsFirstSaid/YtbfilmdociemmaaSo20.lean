/- CountBitsSorted and FirstBitsUnsorted, of the model. -/
import Derived.Test.YtbfilmdociemmaaSo19
namespace Go.Proofs.Ytbfilmdociemmaa
open Go Go.RowKit

set_option maxRecDepth 100000 in
set_option maxHeartbeats 2000000 in
theorem sCountBitsSorted_any (W : Int) (A : Option Addr) (m c : Nat) (zs : List Int) (w : World) (h : RI w A m zs) (hm : m ≤ 1048576) :
    Calls Try.prog 26 #[.agg #[.int .i64 W, .slice A m c]] w (RetIB (cbV W zs) (lad W zs) w) := by
  rcases hq : lad W zs with _ | _
  · rw [cbV_no hq]
    have HW := Lib.hid hq
    clear hq
    go_enter Try.func26, Try.ntmps26
    go_wp2_with fail
    have HB := belAlloc (belRefl (w := w)) (.cells #[.int .i64 W, .slice A m c] 28)
    refine (laGood_any W A m c zs _ (h.alloc _) hm).mono ?_
    rw [HW.out]
    rintro e w1 ⟨rfl, hb⟩
    replace HB := belStep HB hb
    clear hb h
    go_wp2
    go_ret2
    exact ⟨rfl, HB.out⟩
  · rw [cbV_yes hq]
    have h4 := (lad_iff.1 hq).1
    have h5 := (lad_iff.1 hq).2.1
    have hml := h.1
    obtain ⟨N, rfl⟩ : ∃ N : Nat, W = (N : Int) := ⟨W.toNat, by omega⟩
    rw [Int.toNat_natCast]
    have hz : rungsIn zs N := by have := rungsIn_of_lad hq; rwa [Int.toNat_natCast] at this
    have HW := Lib.hid hq
    have hn8 : N ≤ 8 := by omega
    have hn0 : 0 < N := by omega
    have hm6 : m ≤ 60 := by omega
    have hP2 : 2 ^ N ≤ 256 := pow2_le hn8
    have hbl := bitsAll_length N
    have hbr : ∀ j, j < 2 ^ N → (gz (bitsAll N) j).length = N := fun j hj => bitsAll_row hj
    obtain ⟨P, hP⟩ : ∃ P, P = 2 ^ N := ⟨_, rfl⟩
    have hpw : wrap64 ((2 : Int) ^ N) = (P : Int) := by
      have e : ((2 : Int) ^ N) = (P : Int) := by rw [hP]; simp
      rw [e]; exact IntWalk.wrap64_in _ (by omega)
    have HBL : Hid (∀ k, k < P → gz (bitsAll N) k = bitsL N k) := Lib.hid (fun k hk => gz_bitsAll (by omega))
    have HLN : Hid ((bitsAll N).length = P) := Lib.hid (by rw [bitsAll_length, hP])
    have HS := Lib.hid (fun w2 A2 c2 v (e : v.length = N) (r : RI w2 A m zs) (r2 : RI w2 A2 N v) => soSorted_any A m c zs A2 N c2 v w2 r r2 hn8 hn0 hm6 hz)
    have hPl : P ≤ 256 := by omega
    rw [← hP]
    clear hq h4 h5 hz hml hbr hbl hP2 hP
    go_enter Try.func26, Try.ntmps26
    go_wp2_with fail
    have HA := boxNew (W := (N : Int)) (c := c) 28 h
    have HB := belAlloc (belRefl (w := w)) (.cells #[.int .i64 (N : Int), .slice A m c] 28)
    refine (laGood_any (N : Int) A m c zs _ (h.alloc _) hm).mono ?_
    rw [HW.out]
    rintro e w1 ⟨rfl, hb⟩
    replace HA := boxStep HA hb
    replace HB := belStep HB hb
    have a0 := HA.out.c0; have a1 := HA.out.c1; have az := HA.out.lt
    have z1 := HB.out.size
    clear hb h
    go_wp2
    go_loopw [4, 5] (fun s i wr => ∃ k : Nat, k ≤ P ∧ i = .int .i64 k ∧ s = .int .i64 (cntK zs (bitsAll N) k : Int) ∧ Box wr w.heap.size (N : Int) A m c zs ∧ Below w.heap.size w wr) (fun _ i _ => P - (intOf i).toNat)
    case atStart => exact ⟨0, Nat.zero_le _, rfl, rfl, HA.out, HB.out⟩
    case round =>
      obtain ⟨k, hk, rfl, rfl, hA, hb⟩ := hrel
      have HA := Lib.hid hA
      have HB := Lib.hid hb
      have a0 := hA.c0; have a1 := hA.c1; have az := hA.lt
      have hck := cntK_le zs (bitsAll N) k
      clear hA hb
      by_cases hlt : k < P
      · obtain ⟨q, hqq⟩ : ∃ q, q = srtB (runS zs (bitsL N k)) := ⟨_, rfl⟩
        have HQ : Hid (srtB (runS zs (gz (bitsAll N) k)) = q) := Lib.hid (by rw [hqq, HBL.out k hlt])
        have HS2 := Lib.hid (fun w2 A2 c2 (r : RI w2 A m zs) (r2 : RI w2 A2 N (bitsL N k)) => HS.out w2 A2 c2 (bitsL N k) (bitsL_length N k) r r2)
        rw [← hqq] at HS2
        have hk2 : k ≤ 256 := by omega
        clear hqq
        go_wp2
        have AD := boxDrew HA; have BD := belDrew HB
        go_region_held3 (fun w' => w'.cell? ⟨w.heap.size, 0, none⟩ = some (.int .i64 (N : Int)) ∧ w'.cell? ⟨w.heap.size, 1, none⟩ = some (.slice A m c))
          (first | exact ⟨HA.out.c0, HA.out.c1⟩ | exact ⟨A2.out.c0, A2.out.c1⟩ | exact ⟨A3.out.c0, A3.out.c1⟩)
          (first
            | (go_at_call 49; refine (soBits_any N k _ hn8 hk2).mono ?_; rintro e w2 ⟨F2, d2, rfl, o2, hb⟩; have A2 := boxStep AD hb; have B2 := belStep BD hb; have O2 := Lib.hid o2; clear hb o2)
            | (go_at_call 48; refine (HS2.out _ _ _ A2.out.ri O2.out.ri).mono ?_; rintro e w3 ⟨rfl, hb⟩; have A3 := boxStep A2 hb; have B3 := belStep B2 hb; clear hb))
        cases q
        · go_wp2
          go_roundw
          case rel => exact ⟨k + 1, by omega, by go_num, by rw [cntK_no HQ.out], A3.out, B3.out⟩
          case measure => simp [intOf]; omega
        · go_wp2
          go_roundw
          case rel => exact ⟨k + 1, by omega, by go_num, by rw [cntK_yes HQ.out]; go_num, A3.out, B3.out⟩
          case measure => simp [intOf]; omega
      · obtain rfl : k = P := by omega
        go_wp2
        go_ret2
        exact ⟨rfl, HB.out⟩

set_option maxRecDepth 100000 in
set_option maxHeartbeats 2000000 in
theorem sFirstBitsUnsorted_any (W : Int) (A : Option Addr) (m c : Nat) (zs : List Int) (w : World) (h : RI w A m zs) (hm : m ≤ 1048576) :
    Calls Try.prog 28 #[.agg #[.int .i64 W, .slice A m c]] w (FreshIB w (fbL W zs).length (fbL W zs) (fbB W zs)) := by
  rcases hq : lad W zs with _ | _
  · rw [fbL_no hq, fbB_no hq]
    have HW := Lib.hid hq
    clear hq
    go_enter Try.func28, Try.ntmps28
    go_wp2_with fail
    have HB := belAlloc (belRefl (w := w)) (.cells #[.int .i64 W, .slice A m c] 28)
    refine (laGood_any W A m c zs _ (h.alloc _) hm).mono ?_
    rw [HW.out]
    rintro e w1 ⟨rfl, hb⟩
    replace HB := belStep HB hb
    clear hb h
    go_wp2
    go_ret2
    exact ⟨none, 0, rfl, OI.none_ _ _, HB.out⟩
  · rw [fbL_yes hq, fbB_yes hq]
    have h4 := (lad_iff.1 hq).1
    have h5 := (lad_iff.1 hq).2.1
    have hml := h.1
    obtain ⟨N, rfl⟩ : ∃ N : Nat, W = (N : Int) := ⟨W.toNat, by omega⟩
    rw [Int.toNat_natCast]
    have hz : rungsIn zs N := by have := rungsIn_of_lad hq; rwa [Int.toNat_natCast] at this
    have HW := Lib.hid hq
    have hn8 : N ≤ 8 := by omega
    have hn0 : 0 < N := by omega
    have hm6 : m ≤ 60 := by omega
    have hP2 : 2 ^ N ≤ 256 := pow2_le hn8
    have hbl := bitsAll_length N
    have hbr : ∀ j, j < 2 ^ N → (gz (bitsAll N) j).length = N := fun j hj => bitsAll_row hj
    obtain ⟨P, hP⟩ : ∃ P, P = 2 ^ N := ⟨_, rfl⟩
    have hpw : wrap64 ((2 : Int) ^ N) = (P : Int) := by
      have e : ((2 : Int) ^ N) = (P : Int) := by rw [hP]; simp
      rw [e]; exact IntWalk.wrap64_in _ (by omega)
    have HBL : Hid (∀ k, k < P → gz (bitsAll N) k = bitsL N k) := Lib.hid (fun k hk => gz_bitsAll (by omega))
    have HLN : Hid ((bitsAll N).length = P) := Lib.hid (by rw [bitsAll_length, hP])
    have HS := Lib.hid (fun w2 A2 c2 v (e : v.length = N) (r : RI w2 A m zs) (r2 : RI w2 A2 N v) => soSorted_any A m c zs A2 N c2 v w2 r r2 hn8 hn0 hm6 hz)
    have hPl : P ≤ 256 := by omega
    clear hq h4 h5 hz hml hbr hbl hP2 hP
    go_enter Try.func28, Try.ntmps28
    go_wp2_with fail
    have HA := boxNew (W := (N : Int)) (c := c) 28 h
    have HB := belAlloc (belRefl (w := w)) (.cells #[.int .i64 (N : Int), .slice A m c] 28)
    refine (laGood_any (N : Int) A m c zs _ (h.alloc _) hm).mono ?_
    rw [HW.out]
    rintro e w1 ⟨rfl, hb⟩
    replace HA := boxStep HA hb
    replace HB := belStep HB hb
    have a0 := HA.out.c0; have a1 := HA.out.c1; have az := HA.out.lt
    have z1 := HB.out.size
    clear hb h
    go_wp2
    go_loopw [4] (fun i wr => ∃ k : Nat, k ≤ P ∧ i = .int .i64 k ∧ (∀ j, j < k → srtB (runS zs (gz (bitsAll N) j)) = true) ∧ Box wr w.heap.size (N : Int) A m c zs ∧ Below w.heap.size w wr) (fun i _ => P - (intOf i).toNat)
    case atStart => exact ⟨0, Nat.zero_le _, rfl, fun j hj => absurd hj (by omega), HA.out, HB.out⟩
    case round =>
      obtain ⟨k, hk, rfl, hall, hA, hb⟩ := hrel
      have HALL := Lib.hid hall
      have HA := Lib.hid hA
      have HB := Lib.hid hb
      have a0 := hA.c0; have a1 := hA.c1; have az := hA.lt
      clear hA hb hall
      by_cases hlt : k < P
      · obtain ⟨q, hqq⟩ : ∃ q, q = srtB (runS zs (bitsL N k)) := ⟨_, rfl⟩
        have HQ : Hid (srtB (runS zs (gz (bitsAll N) k)) = q) := Lib.hid (by rw [hqq, HBL.out k hlt])
        have HS2 := Lib.hid (fun w2 A2 c2 (r : RI w2 A m zs) (r2 : RI w2 A2 N (bitsL N k)) => HS.out w2 A2 c2 (bitsL N k) (bitsL_length N k) r r2)
        rw [← hqq] at HS2
        have hk2 : k ≤ 256 := by omega
        have hzr := HB.out.size
        clear hqq
        go_wp2_with fail
        refine (soBits_any N k _ hn8 hk2).mono ?_
        rintro e w2 ⟨F2, d2, rfl, o2, hb⟩
        have O2 := Lib.hid (o2.mono hzr)
        replace HA := boxStep HA hb
        replace HB := belStep HB hb
        replace a0 := HA.out.c0; replace a1 := HA.out.c1; replace az := HA.out.lt
        clear hb o2
        go_wp2_with fail
        refine (HS2.out _ _ _ HA.out.ri O2.out.ri).mono ?_
        rintro e w3 ⟨rfl, hb⟩
        replace O2 := oiStep O2 hb
        replace HA := boxStep HA hb
        replace HB := belStep HB hb
        replace a0 := HA.out.c0; replace a1 := HA.out.c1; replace az := HA.out.lt
        clear hb
        cases q
        · have HFU := Lib.hid (fu_at (zs := zs) (L := bitsAll N) (j := k) (by rw [HLN.out]; exact hlt) HALL.out HQ.out)
          have HGZ := Lib.hid (HBL.out k hlt)
          go_wp2
          go_ret2
          refine ⟨F2, d2, ?_, ?_, HB.out⟩
          · rw [HFU.out.1, HFU.out.2, HGZ.out, bitsL_length]; rfl
          · rw [HFU.out.2, HGZ.out, bitsL_length]; exact O2.out
        · go_wp2
          go_roundw
          case rel =>
            refine ⟨k + 1, by omega, by go_num, fun j hj => ?_, HA.out, HB.out⟩
            by_cases e : j = k
            · subst e; exact HQ.out
            · exact HALL.out j (by omega)
          case measure => simp [intOf]; omega
      · obtain rfl : k = P := by omega
        have HFU := Lib.hid (fu_all (zs := zs) (L := bitsAll N) (fun i hi => HALL.out i (by rw [HLN.out] at hi; exact hi)))
        go_wp2
        go_ret2
        refine ⟨none, 0, ?_, ?_, HB.out⟩
        · rw [HFU.out.1, HFU.out.2]; rfl
        · rw [HFU.out.2]; exact OI.none_ _ _
end Go.Proofs.Ytbfilmdociemmaa
