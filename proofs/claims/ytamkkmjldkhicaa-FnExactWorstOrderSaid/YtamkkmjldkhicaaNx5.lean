/- CountSorted and FirstUnsorted, of the model. -/
import Derived.Test.YtamkkmjldkhicaaNx4
import Derived.Deep.LoopGhost
namespace Go.Proofs.Ytamkkmjldkhicaa
open Go Go.RowKit

set_option maxRecDepth 100000 in
set_option maxHeartbeats 1000000 in
theorem sCountSorted_any (W : Int) (A : Option Addr) (m c : Nat) (zs : List Int) (w : World) (h : RI w A m zs) (hm : m ≤ 1048576) :
    Calls Try.prog 21 #[.agg #[.int .i64 W, .slice A m c]] w (RetIB (csV W zs) (sixB W zs) w) := by
  rcases hq : sixB W zs with _ | _
  · rw [csV_no hq]
    have HW := Lib.hid hq
    clear hq
    go_enter Try.func21, Try.ntmps21
    go_wp2_with fail
    have HB := belAlloc (belRefl (w := w)) (.cells #[.int .i64 W, .slice A m c] 28)
    refine (soSix_any W A m c zs _ (h.alloc _) hm).mono ?_
    rw [HW.out]
    rintro e w1 ⟨rfl, hb⟩
    replace HB := belStep HB hb
    clear hb h
    go_wp2
    go_ret2
    exact ⟨rfl, HB.out⟩
  · rw [csV_yes hq]
    have hq6 := six_iff.1 hq
    have h4 := (lad_iff.1 hq6.1).1
    have h5 := (lad_iff.1 hq6.1).2.1
    have hml := h.1
    obtain ⟨N, rfl⟩ : ∃ N : Nat, W = (N : Int) := ⟨W.toNat, by omega⟩
    rw [Int.toNat_natCast]
    have hz : rungsIn zs N := by have := rungsIn_of_lad hq6.1; rwa [Int.toNat_natCast] at this
    have HW := Lib.hid hq
    have hn6 : N ≤ 6 := by have := hq6.2; omega
    have hn8 : N ≤ 8 := by omega
    have hn2 : 2 ≤ N := by omega
    have hn0 : 0 < N := by omega
    have hm6 : m ≤ 60 := by omega
    have hP2 := ord_len hn6
    have HROW : Hid (∀ j, j < (ordAll N).length → (gz (ordAll N) j).length = N) := Lib.hid (fun j hj => ord_row hj)
    have HFST := Lib.hid (ord_first hn2 hn6)
    have HSTP : Hid (∀ j, j + 1 < (ordAll N).length → ∃ i, nxI (gz (ordAll N) j) (N - 1) = some i ∧ nxL (gz (ordAll N) j) i = gz (ordAll N) (j + 1)) := Lib.hid (fun j hj => ord_step hn2 hn6 hj)
    have HLST : Hid (∀ j, j + 1 = (ordAll N).length → nxI (gz (ordAll N) j) (N - 1) = none) := Lib.hid (fun j hj => ord_last hn2 hn6 hj)
    have HS := Lib.hid (fun w2 A2 c2 v (e : v.length = N) (r : RI w2 A m zs) (r2 : RI w2 A2 N v) => soSorted_any A m c zs A2 N c2 v w2 r r2 hn8 hn0 hm6 hz)
    obtain ⟨L, hL⟩ : ∃ L, L = ordAll N := ⟨_, rfl⟩
    rw [← hL] at HROW HFST HSTP HLST hP2 ⊢
    clear hq hq6 h4 h5 hz hml hL
    go_enter Try.func21, Try.ntmps21
    go_wp2_with fail
    have HA := boxNew (W := (N : Int)) (c := c) 28 h
    have HB := belAlloc (belRefl (w := w)) (.cells #[.int .i64 (N : Int), .slice A m c] 28)
    refine (soSix_any (N : Int) A m c zs _ (h.alloc _) hm).mono ?_
    rw [HW.out]
    rintro e w1 ⟨rfl, hb⟩
    replace HA := boxStep HA hb
    replace HB := belStep HB hb
    have a0 := HA.out.c0; have a1 := HA.out.c1; have az := HA.out.lt
    have z1 := HB.out.size
    clear hb h
    go_wp2_with fail
    refine (soFirst_any N _ hn8).mono ?_
    rintro e w2 ⟨F2, d2, rfl, o2, hb⟩
    have O2 := Lib.hid (o2.mono z1)
    replace HA := boxStep HA hb
    replace HB := belStep HB hb
    clear hb o2 a0 a1 az
    go_wp2
    go_loopg [4, 5, 6] L.length (fun gk s4 s5 s6 wr => ((∃ (k : Nat) (A2 : Option Addr) (c2 : Nat), k < L.length ∧ gk = L.length - k ∧ s6 = .bool true ∧ s5 = .slice A2 N c2 ∧ OI wr w.heap.size A2 N c2 (gz L k) ∧ s4 = .int .i64 (cntK zs L k : Int)) ∨ (gk = 0 ∧ s6 = .bool false ∧ s4 = .int .i64 (cntK zs L L.length : Int))) ∧ Box wr w.heap.size (N : Int) A m c zs ∧ Below w.heap.size w wr)
    case atStart => exact ⟨.inl ⟨0, F2, d2, HFST.out.2, rfl, rfl, rfl, by rw [HFST.out.1]; exact O2.out, rfl⟩, HA.out, HB.out⟩
    case round =>
      obtain ⟨hcase, hA, hb⟩ := hrel
      have HA := Lib.hid hA
      have HB := Lib.hid hb
      have a0 := hA.c0; have a1 := hA.c1; have az := hA.lt
      have zr := hb.size
      clear hA hb
      rcases hcase with ⟨k, A2, c2, hk, hgk, rfl, rfl, ho, rfl⟩ | ⟨hgk, rfl, rfl⟩
      · have HO := Lib.hid ho
        have HGK := Lib.hid hgk
        have HK := Lib.hid hk
        have HR := Lib.hid (HROW.out k hk)
        have hck := cntK_le zs L k
        have hck2 : cntK zs L k ≤ 50000 := by omega
        obtain ⟨p, hp⟩ : ∃ p, p = gz L k := ⟨_, rfl⟩
        rw [← hp] at HO HR
        have HP := Lib.hid hp
        obtain ⟨q, hqq⟩ : ∃ q, q = srtB (runS zs p) := ⟨_, rfl⟩
        have HQ : Hid (srtB (runS zs (gz L k)) = q) := Lib.hid (by rw [hqq, hp])
        have HS2 := Lib.hid (fun w2 A2 c2 (r : RI w2 A m zs) (r2 : RI w2 A2 N p) => HS.out w2 A2 c2 p HR.out r r2)
        rw [← hqq] at HS2
        obtain ⟨cn, hcn⟩ : ∃ cn, cn = cntK zs L k := ⟨_, rfl⟩
        rw [← hcn] at hck2
        rw [← hcn]
        have HCN := Lib.hid hcn
        clear hqq hp ho hgk hk hck hcn
        go_wp2_with fail
        refine (HS2.out _ A2 c2 HA.out.ri HO.out.ri).mono ?_
        rintro e w3 ⟨rfl, hb⟩
        replace HO := oiStep HO hb
        replace HA := boxStep HA hb
        replace HB := belStep HB hb
        have zr3 := HB.out.size
        clear hb a0 a1 az
        by_cases hlast : k + 1 < L.length
        · obtain ⟨i, hi, hnx⟩ := HSTP.out k hlast
          rw [← HP.out] at hi hnx
          have HI := Lib.hid hi
          have HNX := Lib.hid hnx
          have HKL := Lib.hid hlast
          clear hi hnx hlast
          cases q
          all_goals
            go_wp2_with fail
            refine (soNext_any A2 N c2 p _ HO.out.ri hn8 (by omega)).mono ?_
            unfold NxPost
            rw [HI.out]
            rintro e w4 ⟨A4, c4, rfl, o4, hb⟩
            have HO4 := Lib.hid (o4.mono zr3)
            have HA4 := boxStep HA hb
            have HB4 := belStep HB hb
            clear hb o4
            go_wp2
            go_roundg (L.length - (k + 1))
            case measure => have := HGK.out; have := HK.out; omega
            case rel =>
              first
                | exact ⟨.inl ⟨k + 1, A4, c4, HKL.out, rfl, rfl, rfl, by rw [← HNX.out]; exact HO4.out, by rw [cntK_no HQ.out, HCN.out]⟩, HA4.out, HB4.out⟩
                | exact ⟨.inl ⟨k + 1, A4, c4, HKL.out, rfl, rfl, rfl, by rw [← HNX.out]; exact HO4.out, by rw [cntK_yes HQ.out, HCN.out]; go_num⟩, HA4.out, HB4.out⟩
        · have hi := HLST.out k (by have := HK.out; omega)
          have hke : k + 1 = L.length := by have := HK.out; omega
          rw [← HP.out] at hi
          have HI := Lib.hid hi
          have HKE := Lib.hid hke
          clear hi hlast hke
          cases q
          all_goals
            go_wp2_with fail
            refine (soNext_any A2 N c2 p _ HO.out.ri hn8 (by omega)).mono ?_
            unfold NxPost
            rw [HI.out]
            rintro e w4 ⟨rfl, hb⟩
            have HA4 := boxStep HA hb
            have HB4 := belStep HB hb
            clear hb
            go_wp2
            go_roundg 0
            case measure => have := HGK.out; have := HK.out; omega
            case rel =>
              first
                | exact ⟨.inr ⟨rfl, rfl, by rw [← HKE.out, cntK_no HQ.out, HCN.out]⟩, HA4.out, HB4.out⟩
                | exact ⟨.inr ⟨rfl, rfl, by rw [← HKE.out, cntK_yes HQ.out, HCN.out]; go_num⟩, HA4.out, HB4.out⟩
      · clear hgk
        go_wp2
        go_ret2
        exact ⟨rfl, HB.out⟩
set_option maxRecDepth 100000 in
set_option maxHeartbeats 1000000 in
theorem sFirstUnsorted_any (W : Int) (A : Option Addr) (m c : Nat) (zs : List Int) (w : World) (h : RI w A m zs) (hm : m ≤ 1048576) :
    Calls Try.prog 13 #[.agg #[.int .i64 W, .slice A m c]] w (FreshIB w (fsL W zs).length (fsL W zs) (fsB W zs)) := by
  rcases hq : sixB W zs with _ | _
  · rw [fsL_no hq, fsB_no hq]
    have HW := Lib.hid hq
    clear hq
    go_enter Try.func13, Try.ntmps13
    go_wp2_with fail
    have HB := belAlloc (belRefl (w := w)) (.cells #[.int .i64 W, .slice A m c] 28)
    refine (soSix_any W A m c zs _ (h.alloc _) hm).mono ?_
    rw [HW.out]
    rintro e w1 ⟨rfl, hb⟩
    replace HB := belStep HB hb
    clear hb h
    go_wp2
    go_ret2
    exact ⟨none, 0, rfl, OI.none_ _ _, HB.out⟩
  · rw [fsL_yes hq, fsB_yes hq]
    have hq6 := six_iff.1 hq
    have h4 := (lad_iff.1 hq6.1).1
    have h5 := (lad_iff.1 hq6.1).2.1
    have hml := h.1
    obtain ⟨N, rfl⟩ : ∃ N : Nat, W = (N : Int) := ⟨W.toNat, by omega⟩
    rw [Int.toNat_natCast]
    have hz : rungsIn zs N := by have := rungsIn_of_lad hq6.1; rwa [Int.toNat_natCast] at this
    have HW := Lib.hid hq
    have hn6 : N ≤ 6 := by have := hq6.2; omega
    have hn8 : N ≤ 8 := by omega
    have hn2 : 2 ≤ N := by omega
    have hn0 : 0 < N := by omega
    have hm6 : m ≤ 60 := by omega
    have hP2 := ord_len hn6
    have HROW : Hid (∀ j, j < (ordAll N).length → (gz (ordAll N) j).length = N) := Lib.hid (fun j hj => ord_row hj)
    have HFST := Lib.hid (ord_first hn2 hn6)
    have HSTP : Hid (∀ j, j + 1 < (ordAll N).length → ∃ i, nxI (gz (ordAll N) j) (N - 1) = some i ∧ nxL (gz (ordAll N) j) i = gz (ordAll N) (j + 1)) := Lib.hid (fun j hj => ord_step hn2 hn6 hj)
    have HLST : Hid (∀ j, j + 1 = (ordAll N).length → nxI (gz (ordAll N) j) (N - 1) = none) := Lib.hid (fun j hj => ord_last hn2 hn6 hj)
    have HS := Lib.hid (fun w2 A2 c2 v (e : v.length = N) (r : RI w2 A m zs) (r2 : RI w2 A2 N v) => soSorted_any A m c zs A2 N c2 v w2 r r2 hn8 hn0 hm6 hz)
    obtain ⟨L, hL⟩ : ∃ L, L = ordAll N := ⟨_, rfl⟩
    rw [← hL] at HROW HFST HSTP HLST hP2 ⊢
    clear hq hq6 h4 h5 hz hml hL
    go_enter Try.func13, Try.ntmps13
    go_wp2_with fail
    have HA := boxNew (W := (N : Int)) (c := c) 28 h
    have HB := belAlloc (belRefl (w := w)) (.cells #[.int .i64 (N : Int), .slice A m c] 28)
    refine (soSix_any (N : Int) A m c zs _ (h.alloc _) hm).mono ?_
    rw [HW.out]
    rintro e w1 ⟨rfl, hb⟩
    replace HA := boxStep HA hb
    replace HB := belStep HB hb
    have a0 := HA.out.c0; have a1 := HA.out.c1; have az := HA.out.lt
    have z1 := HB.out.size
    clear hb h
    go_wp2_with fail
    refine (soFirst_any N _ hn8).mono ?_
    rintro e w2 ⟨F2, d2, rfl, o2, hb⟩
    have O2 := Lib.hid (o2.mono z1)
    replace HA := boxStep HA hb
    replace HB := belStep HB hb
    clear hb o2 a0 a1 az
    go_wp2
    go_loopg [4, 5] L.length (fun gk s5 s6 wr => ((∃ (k : Nat) (A2 : Option Addr) (c2 : Nat), k < L.length ∧ gk = L.length - k ∧ s6 = .bool true ∧ s5 = .slice A2 N c2 ∧ OI wr w.heap.size A2 N c2 (gz L k) ∧ ∀ j, j < k → srtB (runS zs (gz L j)) = true) ∨ (gk = 0 ∧ s6 = .bool false ∧ ∀ j, j < L.length → srtB (runS zs (gz L j)) = true)) ∧ Box wr w.heap.size (N : Int) A m c zs ∧ Below w.heap.size w wr)
    case atStart => exact ⟨.inl ⟨0, F2, d2, HFST.out.2, rfl, rfl, rfl, by rw [HFST.out.1]; exact O2.out, fun j hj => absurd hj (Nat.not_lt_zero _)⟩, HA.out, HB.out⟩
    case round =>
      obtain ⟨hcase, hA, hb⟩ := hrel
      have HA := Lib.hid hA
      have HB := Lib.hid hb
      have a0 := hA.c0; have a1 := hA.c1; have az := hA.lt
      have zr := hb.size
      clear hA hb
      rcases hcase with ⟨k, A2, c2, hk, hgk, rfl, rfl, ho, hall⟩ | ⟨hgk, rfl, hall⟩
      · have HO := Lib.hid ho
        have HGK := Lib.hid hgk
        have HK := Lib.hid hk
        have HALL := Lib.hid hall
        have HR := Lib.hid (HROW.out k hk)
        obtain ⟨p, hp⟩ : ∃ p, p = gz L k := ⟨_, rfl⟩
        rw [← hp] at HO HR
        have HP := Lib.hid hp
        obtain ⟨q, hqq⟩ : ∃ q, q = srtB (runS zs p) := ⟨_, rfl⟩
        have HQ : Hid (srtB (runS zs (gz L k)) = q) := Lib.hid (by rw [hqq, hp])
        have HS2 := Lib.hid (fun w2 A2 c2 (r : RI w2 A m zs) (r2 : RI w2 A2 N p) => HS.out w2 A2 c2 p HR.out r r2)
        rw [← hqq] at HS2
        clear hqq hp ho hgk hk hall
        go_wp2_with fail
        refine (HS2.out _ A2 c2 HA.out.ri HO.out.ri).mono ?_
        rintro e w3 ⟨rfl, hb⟩
        replace HO := oiStep HO hb
        replace HA := boxStep HA hb
        replace HB := belStep HB hb
        have zr3 := HB.out.size
        clear hb a0 a1 az
        cases q
        · have HFU := Lib.hid (fu_at (zs := zs) (L := L) (j := k) HK.out HALL.out HQ.out)
          go_wp2
          go_ret2
          rw [HFU.out.1, HFU.out.2, ← HP.out]
          exact ⟨A2, c2, by rw [HR.out]; rfl, by rw [HR.out]; exact HO.out, HB.out⟩
        · have HALL2 : Hid (∀ j, j < k + 1 → srtB (runS zs (gz L j)) = true) := Lib.hid (fun j hj => by
            rcases Nat.lt_or_ge j k with e | e
            · exact HALL.out j e
            · have e2 : j = k := by omega
              subst e2
              exact HQ.out)
          by_cases hlast : k + 1 < L.length
          · obtain ⟨i, hi, hnx⟩ := HSTP.out k hlast
            rw [← HP.out] at hi hnx
            have HI := Lib.hid hi
            have HNX := Lib.hid hnx
            have HKL := Lib.hid hlast
            clear hi hnx hlast
            go_wp2_with fail
            refine (soNext_any A2 N c2 p _ HO.out.ri hn8 (by omega)).mono ?_
            unfold NxPost
            rw [HI.out]
            rintro e w4 ⟨A4, c4, rfl, o4, hb⟩
            have HO4 := Lib.hid (o4.mono zr3)
            have HA4 := boxStep HA hb
            have HB4 := belStep HB hb
            clear hb o4
            go_wp2
            go_roundg (L.length - (k + 1))
            case measure => have := HGK.out; have := HK.out; omega
            case rel => exact ⟨.inl ⟨k + 1, A4, c4, HKL.out, rfl, rfl, rfl, by rw [← HNX.out]; exact HO4.out, HALL2.out⟩, HA4.out, HB4.out⟩
          · have hi := HLST.out k (by have := HK.out; omega)
            have hke : k + 1 = L.length := by have := HK.out; omega
            rw [← HP.out] at hi
            have HI := Lib.hid hi
            have HKE := Lib.hid hke
            clear hi hlast hke
            go_wp2_with fail
            refine (soNext_any A2 N c2 p _ HO.out.ri hn8 (by omega)).mono ?_
            unfold NxPost
            rw [HI.out]
            rintro e w4 ⟨rfl, hb⟩
            have HA4 := boxStep HA hb
            have HB4 := belStep HB hb
            clear hb
            go_wp2
            go_roundg 0
            case measure => have := HGK.out; have := HK.out; omega
            case rel => exact ⟨.inr ⟨rfl, rfl, by rw [← HKE.out]; exact HALL2.out⟩, HA4.out, HB4.out⟩
      · have HFU := Lib.hid (fu_all (zs := zs) (L := L) hall)
        clear hgk hall
        go_wp2
        go_ret2
        rw [HFU.out.1, HFU.out.2]
        exact ⟨none, 0, rfl, OI.none_ _ _, HB.out⟩
end Go.Proofs.Ytamkkmjldkhicaa
