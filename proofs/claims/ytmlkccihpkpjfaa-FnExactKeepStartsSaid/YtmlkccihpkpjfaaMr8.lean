/- KeepStarts, of the program and of its model. -/
import Derived.Test.YtmlkccihpkpjfaaMr7
import Derived.Test.YtmlkccihpkpjfaaLB
import Derived.Test.YtmlkccihpkpjfaaStP
namespace Go.Proofs.Ytmlkccihpkpjfaa
open Go Go.RowKit

def FreshLBG (w : World) (W : Int) (n : Nat) (zs : List Int) (b : Bool) (e : Ending) (w' : World) : Prop :=
  ∃ A c, e = .returned (.tuple #[.agg #[.int .i64 W, .slice A n c], .bool b]) ∧ OI w' w.heap.size A n c zs ∧ Below w.heap.size w w'

set_option maxRecDepth 100000 in
set_option maxHeartbeats 4000000 in
theorem sKeepStarts_any (W : Int) (A : Option Addr) (n c : Nat) (zs : List Int) (Bv : Option Addr) (nv cv : Nat) (vs : List Int) (w : World) (h : RI w A n zs) (hn : n ≤ 1048576) (hv : RI w Bv nv vs) (hnv : nv ≤ 1048576) :
    Calls Try.prog 18 #[.agg #[.int .i64 W, .slice A n c], .slice Bv nv cv] w (FreshLBG w (ifW (ksB W zs vs) vs.length) (ifL (ksB W zs vs) (ksL W zs vs)).length (ifL (ksB W zs vs) (ksL W zs vs)) (ksB W zs vs)) := by
  have hz := h.1
  have hzv := hv.1
  have HA := boxAlloc (boxNew (W := W) (c := c) 26 h) (.cells #[.int .i64 0, .slice none 0 0] 26)
  have HB := belAlloc (belAlloc (belRefl (w := w)) (.cells #[.int .i64 W, .slice A n c] 26)) (.cells #[.int .i64 0, .slice none 0 0] 26)
  have HV := riStep (riStep (Lib.hid hv) (allocBel w (.cells #[.int .i64 W, .slice A n c] 26))) (allocBel _ (.cells #[.int .i64 0, .slice none 0 0] 26))
  have HC := cellNew (w.alloc (.cells #[.int .i64 W, .slice A n c] 26)) (.int .i64 0) (.slice none 0 0) 26
  simp only [World.size_alloc] at HC
  have HI := Lib.hid (fun w2 (r : RI w2 A n zs) => laGood_any W A n c zs w2 r hn)
  rcases hq : lad W zs with _ | _
  · rw [ksB_1 hq, ifW_no, ifL_no]
    rw [hq] at HI
    clear hq h hv
    go_enter Try.func18, Try.ntmps18
    go_wp2_with fail
    refine (HI.out _ HA.out.ri).mono ?_
    rintro e w1 ⟨rfl, hb⟩
    replace HB := belStep HB hb; replace HC := cellStep HC hb
    have k0 := HC.out.c0; have k1 := HC.out.c1; have f0 := HC.out.f0; have f1 := HC.out.f1; have hz := HC.out.lt
    clear hb
    go_wp2
    exact bodyPost_ret (v := .tuple #[.agg #[.int .i64 0, .slice none 0 0], .bool false]) (by simp [results, Try.results18, go_sem, k0, k1]) rfl ⟨none, 0, rfl, OI.none_ _ _, (by repeat (first | exact Below.refl _ _ | exact HB.out | refine Below.setCell ?_ (by simp <;> omega) _ | refine Below.alloc ?_ (by simp <;> omega) _ | refine below_drewN ?_ _))⟩
  · rw [hq] at HI
    have hW := (lad_iff.1 hq).1
    by_cases h2 : nv < 2
    · rw [ksB_3 (by omega), ifW_no, ifL_no]
      clear hq h hv hzv
      go_enter Try.func18, Try.ntmps18
      go_wp2_with fail
      refine (HI.out _ HA.out.ri).mono ?_
      rintro e w1 ⟨rfl, hb⟩
      replace HB := belStep HB hb; replace HC := cellStep HC hb
      have k0 := HC.out.c0; have k1 := HC.out.c1; have f0 := HC.out.f0; have f1 := HC.out.f1; have hz := HC.out.lt
      clear hb
      go_wp2
      exact bodyPost_ret (v := .tuple #[.agg #[.int .i64 0, .slice none 0 0], .bool false]) (by simp [results, Try.results18, go_sem, k0, k1]) rfl ⟨none, 0, rfl, OI.none_ _ _, (by repeat (first | exact Below.refl _ _ | exact HB.out | refine Below.setCell ?_ (by simp <;> omega) _ | refine Below.alloc ?_ (by simp <;> omega) _ | refine below_drewN ?_ _))⟩
    · have h2' : 2 ≤ nv := by omega
      clear h2
      have HRS := Lib.hid (fun w2 (r : RI w2 Bv nv vs) => mrRising_any Bv nv cv vs W w2 r hnv (by omega))
      rcases hr : rsB vs W with _ | _
      · rw [ksB_2 hr, ifW_no, ifL_no]
        rw [hr] at HRS
        clear hq h hv hzv hr
        go_enter Try.func18, Try.ntmps18
        go_wp2_with fail
        refine (HI.out _ HA.out.ri).mono ?_
        rintro e w1 ⟨rfl, hb⟩
        replace HA := boxStep HA hb; replace HB := belStep HB hb; replace HC := cellStep HC hb; replace HV := riStep HV hb
        have a0 := HA.out.c0; have a1 := HA.out.c1; have az := HA.out.lt
        clear hb
        go_wp2_with fail
        refine (HRS.out _ HV.out).mono ?_
        rintro e w2 ⟨rfl, hb⟩
        replace HB := belStep HB hb; replace HC := cellStep HC hb
        have k0 := HC.out.c0; have k1 := HC.out.c1; have f0 := HC.out.f0; have f1 := HC.out.f1; have hz := HC.out.lt
        clear hb a0 a1 az
        go_wp2
        exact bodyPost_ret (v := .tuple #[.agg #[.int .i64 0, .slice none 0 0], .bool false]) (by simp [results, Try.results18, go_sem, k0, k1]) rfl ⟨none, 0, rfl, OI.none_ _ _, (by repeat (first | exact Below.refl _ _ | exact HB.out | refine Below.setCell ?_ (by simp <;> omega) _ | refine Below.alloc ?_ (by simp <;> omega) _ | refine below_drewN ?_ _))⟩
      · have e : ksB W zs vs = true := ksB_iff.2 ⟨hq, hr, by omega⟩
        rw [e, ifW_yes, ifL_yes]
        rw [hr] at HRS
        have hn60 : n ≤ 60 := by have := (lad_iff.1 hq).2.1; omega
        obtain ⟨N, rfl⟩ : ∃ N : Nat, W = (N : Int) := ⟨W.toNat, by omega⟩
        have HLD := Lib.hid (fun t (ht : t ≤ N) => ks_lad hq hr (by omega : 2 ≤ vs.length) t ht)
        have HTS := Lib.hid (fun t (ht : t < N) (hs : hasM vs ((N - 1 - t : Nat) : Int) = false) => ks_ts (HLD.out t (by omega)) hr (by omega : 2 ≤ vs.length) ht hs)
        have HKL : Hid (ksL (N : Int) zs vs = ksT N vs zs N) := by show _ = _; unfold ksL; rw [Int.toNat_natCast]
        have HHM := Lib.hid (fun x w2 (r : RI w2 Bv nv vs) => l1HasM_any Bv nv cv vs x w2 r hnv)
        have HKV := Lib.hid (fun w9 (r : Below w.heap.size w w9) => hv.below r (Nat.le_refl _))
        rw [hzv, HKL.out]
        have hwn : IntKind.i64.wrap ((N : Int) - 1) = (N : Int) - 1 := IntWalk.i64_in _ (by omega)
        clear hq h hv hr e
        go_enter Try.func18, Try.ntmps18
        go_wp2_with fail
        refine (HI.out _ HA.out.ri).mono ?_
        rintro e w1 ⟨rfl, hb⟩
        replace HA := boxStep HA hb; replace HB := belStep HB hb; replace HC := cellStep HC hb; replace HV := riStep HV hb
        have a0 := HA.out.c0; have a1 := HA.out.c1; have az := HA.out.lt
        clear hb
        go_wp2_with fail
        refine (HRS.out _ HV.out).mono ?_
        rintro e w2 ⟨rfl, hb⟩
        replace HA := boxStep HA hb; replace HB := belStep HB hb; replace HC := cellStep HC hb; replace HV := riStep HV hb
        replace a0 := HA.out.c0; replace a1 := HA.out.c1; replace az := HA.out.lt
        have hz1 := HC.out.lt
        have HZ0 := Lib.hid HB.out.size
        clear hb
        go_wp2_with fail
        refine (l1Own_any A n c zs _ HA.out.ri hn).mono ?_
        rintro e w3 ⟨A3, c3, rfl, o3, hb⟩
        have HO3 := Lib.hid o3
        have HB3 := Lib.hid hb
        replace a0 := (boxStep HA hb).out.c0
        have hz3 := hb.size
        clear o3 hb
        go_wp2
        go_loopw [6, 7] (fun s6 s7 wr => ∃ (m t : Nat) (y : Int) (A4 : Option Addr) (c4 : Nat), m + t = N ∧ y = (m : Int) - 1 ∧ s7 = .int .i64 y ∧ s6 = .slice A4 (ksT N vs zs t).length c4 ∧ OI wr w2.heap.size A4 (ksT N vs zs t).length c4 (ksT N vs zs t) ∧ Below w2.heap.size w2 wr) (fun _ s7 _ => (intOf s7 + 1).toNat)
        case atStart => exact ⟨N, 0, _, A3, c3, by omega, rfl, rfl, by rw [ksT, hz], by rw [ksT, hz]; exact HO3.out, HB3.out⟩
        case round =>
          obtain ⟨m, t, y, A4, c4, hmt, hy, rfl, rfl, ho, hb⟩ := hrel
          have HO := Lib.hid ho
          have HR := Lib.hid hb
          have HBw : Hid (Below w.heap.size w wr) := HB.out.trans (hb.mono HZ0.out)
          have HVr := Lib.hid (HKV.out _ HBw.out)
          have HY := Lib.hid hy
          have HMT := Lib.hid hmt
          have hrz := hb.size
          have hyb : -1 ≤ y ∧ y ≤ 7 := by omega
          have HLE := Lib.hid ((lad_iff.1 (HLD.out t (by omega))).2.1)
          clear ho hb
          by_cases h0 : y < 0
          · have e2 : t = N := by omega
            subst e2
            have HCr := cellBelow HC (by omega) HR.out
            have k0 := HCr.out.c0; have k1 := HCr.out.c1; have f0 := HCr.out.f0; have f1 := HCr.out.f1
            clear hy hmt a0
            go_wp2
            exact bodyPost_ret (v := .tuple #[.agg #[.int .i64 (nv : Int), .slice A4 (ksT t vs zs t).length c4], .bool true]) (by simp [results, Try.results18, go_sem, k0, k1]) rfl
              ⟨A4, c4, rfl, ((HO.out.setBelow (show w.heap.size + 1 < w2.heap.size by omega) _).setBelow (show w.heap.size + 1 < w2.heap.size by omega) _).mono HZ0.out, (HBw.out.setCell (by simp) _).setCell (by simp) _⟩
          · have h1 : 0 ≤ y := by omega
            have HYS : Hid (y = ((N - 1 - t : Nat) : Int)) := by show y = _; omega
            have hwy : IntKind.i64.wrap (y - 1) = y - 1 := IntWalk.i64_in _ (by omega)
            have HT2 : Hid (t < N) := by show t < N; omega
            rcases hh : hasM vs y with _ | _
            · have HE := Lib.hid (ksT_no (zs := zs) (by rw [← HYS.out]; exact hh))
              have HTB := Lib.hid (HTS.out t HT2.out (by rw [← HYS.out]; exact hh))
              have HWI : Hid (Wires (ksT N vs zs t) y) := by
                have e3 := HTB.out
                unfold tsB at e3
                rw [Bool.and_eq_true] at e3
                have := Wires.of e3.1
                rwa [← HYS.out] at this
              have HHY := Lib.hid (fun w9 r => HHM.out y w9 r)
              have HEL : Hid (ksT N vs zs (t + 1) = tsL (ksT N vs zs t) y) := by show _ = _; rw [HE.out, ← HYS.out]
              obtain ⟨R, hR⟩ : ∃ R, R = ksT N vs zs t := ⟨_, rfl⟩
              rw [← hR] at HO HEL HWI HLE
              rw [← hR]
              rw [hh] at HHY
              have HTK := Lib.hid (fun w9 (r : RI w9 A4 R.length R) => mrTake_any A4 R.length c4 R y w9 r (by have := HLE.out; omega) HWI.out)
              obtain ⟨R2, hR2⟩ : ∃ R2, R2 = tsL R y := ⟨_, rfl⟩
              rw [← hR2] at HTK HEL
              clear h0 hh hy hmt hR hR2 a0
              go_wp2_with (first
                | (go_at_call 48; refine (HHY.out _ HVr.out).mono ?_; rintro e w' ⟨rfl, rfl⟩)
                | (go_at_call 41; refine (HTK.out _ HO.out.ri).mono ?_; rintro e w5 ⟨A5, c5, rfl, o5, hb5⟩))
              go_roundw
              case rel =>
                refine ⟨m - 1, t + 1, y - 1, A5, c5, by have := HMT.out; have := HY.out; omega, by have := HMT.out; have := HY.out; omega, by go_num, by rw [HEL.out], by rw [HEL.out]; exact o5.mono hrz, HR.out.trans (hb5.mono hrz)⟩
              case measure => simp [intOf]; omega
            · have HE := Lib.hid (ksT_yes (zs := zs) (by rw [← HYS.out]; exact hh))
              have HHY := Lib.hid (fun w9 r => HHM.out y w9 r)
              rw [hh] at HHY
              clear h0 hh hy hmt a0
              go_wp2_with (first
                | (go_at_call 48; refine (HHY.out _ HVr.out).mono ?_; rintro e w' ⟨rfl, rfl⟩))
              go_roundw
              case rel =>
                exact ⟨m - 1, t + 1, y - 1, A4, c4, by have := HMT.out; have := HY.out; omega, by have := HMT.out; have := HY.out; omega, by go_num, by rw [HE.out], by rw [HE.out]; exact HO.out, HR.out⟩
              case measure => simp [intOf]; omega
end Go.Proofs.Ytmlkccihpkpjfaa
