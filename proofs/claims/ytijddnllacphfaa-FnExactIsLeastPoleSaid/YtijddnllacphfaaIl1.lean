/- IsLeastPole, of both. -/
import Derived.Test.YtijddnllacphfaaIn2
import Derived.Test.YtijddnllacphfaaPr2
import Derived.Test.YtijddnllacphfaaStL
namespace Go.Proofs.Ytijddnllacphfaa
open Go Go.RowKit

def ilB (W : Int) (zs : List Int) : Bool := prB W zs && ((zs.length : Int) == (invT (pends W zs W.toNat) (pwinds W zs W.toNat) : Int))
theorem ilB_no {W : Int} {zs : List Int} (h : prB W zs = false) : ilB W zs = false := by unfold ilB; rw [h]; rfl
theorem ilB_yes {W : Int} {zs : List Int} (h : prB W zs = true) : ilB W zs = ((zs.length : Int) == (invT (pends W zs W.toNat) (pwinds W zs W.toNat) : Int)) := by unfold ilB; rw [h]; rfl
theorem prB_trn {W : Int} {zs : List Int} (h : prB W zs = true) : trn (pends W zs W.toNat) (pwinds W zs W.toNat) = true := by unfold prB at h; rw [Bool.and_eq_true] at h; exact h.2

set_option maxRecDepth 100000 in
set_option maxHeartbeats 1000000 in
theorem iIsLeastPole_any (W : Int) (A : Option Addr) (n c : Nat) (zs : List Int) (w : World) (h : RI w A n zs) (hn : n ≤ 1048576) :
    Calls Try.prog 30 #[.agg #[.int .i64 W, .slice A n c]] w (RetBB (ilB W zs) (prB W zs) w) := by
  have hzl := h.1
  have HPR := Lib.hid (fun (w' : World) (r : RI w' A n zs) => iPoleResult_any W A n c zs w' r hn)
  rcases hq : prB W zs with _ | _
  · rw [ilB_no hq]
    rw [hq] at HPR
    clear hq
    go_enter Try.func30, Try.ntmps30
    go_wp2_with fail
    have HB := belAlloc (belRefl (w := w)) (.cells #[.int .i64 W, .slice A n c] 45)
    refine (HPR.out _ (h.alloc _)).mono ?_
    rintro e w1 ⟨A9, c9, E9, d9, mid, rfl, o1, o2, hb⟩
    replace HB := belStep HB hb
    clear hb h o1 o2 HPR
    simp only [ifL_no, List.length_nil]
    go_wp2
    go_ret2
    exact ⟨rfl, HB.out.alloc HB.out.size _⟩
  · rw [ilB_yes hq, hzl]
    rw [hq, ifL_yes, ifL_yes] at HPR
    have HT := Lib.hid (prB_trn hq)
    obtain ⟨ys, hys⟩ : ∃ ys, ys = pends W zs W.toNat := ⟨_, rfl⟩
    obtain ⟨vs, hvs⟩ : ∃ vs, vs = pwinds W zs W.toNat := ⟨_, rfl⟩
    rw [← hys, ← hvs] at HPR HT
    rw [← hys, ← hvs]
    have hok := TOk.of HT.out
    have hy8 := hok.n8; have hvl := hok.len
    obtain ⟨k1, hk1⟩ : ∃ k, k = ys.length := ⟨_, rfl⟩
    obtain ⟨k2, hk2⟩ : ∃ k, k = vs.length := ⟨_, rfl⟩
    rw [← hk1, ← hk2] at HPR
    have HIN : Hid (invN ys vs = (invT ys vs : Int)) := Lib.hid (invN_yes HT.out)
    obtain ⟨I0, hI⟩ : ∃ I0, I0 = invT ys vs := ⟨_, rfl⟩
    rw [← hI] at HIN ⊢
    have b1 : k1 ≤ 1048576 := by omega
    have b2 : k2 ≤ 1048576 := by omega
    clear hq hys hvs hok hy8 hvl hk1 hk2 hI hzl
    go_enter Try.func30, Try.ntmps30
    go_wp2_with fail
    have HA := boxNew (W := W) (c := c) 45 h
    have HB := belAlloc (belRefl (w := w)) (.cells #[.int .i64 W, .slice A n c] 45)
    refine (HPR.out _ HA.out.ri).mono ?_
    rintro e w1 ⟨A9, c9, E9, d9, mid, rfl, o1, o2, hb⟩
    replace HA := boxStep HA hb
    replace HB := belStep HB hb
    have O1 := Lib.hid o1.ri; have O2 := Lib.hid o2.ri
    clear hb h o1 o2 HPR
    have a0 := HA.out.c0; have a1 := HA.out.c1
    go_wp2_with fail
    have HG := cellNew w1 (.slice A9 k1 c9) (.slice E9 k2 d9) 27
    replace HA := boxAlloc HA (.cells #[.slice A9 k1 c9, .slice E9 k2 d9] 27)
    replace HB := belAlloc HB (.cells #[.slice A9 k1 c9, .slice E9 k2 d9] 27)
    refine (iPoleInversions_raw A9 k1 c9 ys E9 k2 d9 vs _ (O1.out.alloc _) (O2.out.alloc _) b1 b2).mono ?_
    rw [HIN.out, HT.out]
    rintro e w2 ⟨rfl, hb⟩
    replace HA := boxStep HA hb
    replace HB := belStep HB hb
    clear a0 a1
    have a0 := HA.out.c0; have a1 := HA.out.c1
    clear hb
    go_wp2
    go_ret2
    exact ⟨rfl, HB.out⟩

set_option maxRecDepth 100000 in
set_option maxHeartbeats 1000000 in
theorem sIsLeastPole_any (W : Int) (A : Option Addr) (n c : Nat) (zs : List Int) (w : World) (h : RI w A n zs) (hn : n ≤ 1048576) :
    Calls Try.prog 28 #[.agg #[.int .i64 W, .slice A n c]] w (RetBB (ilB W zs) (prB W zs) w) := by
  have hzl := h.1
  rcases hp : pol W zs with _ | _
  · rw [ilB_no (prB_1 hp), prB_1 hp]
    have HW := Lib.hid hp
    clear hp
    go_enter Try.func28, Try.ntmps28
    go_wp2_with fail
    have HB := belAlloc (belRefl (w := w)) (.cells #[.int .i64 W, .slice A n c] 45)
    refine (poGood_any W A n c zs _ (h.alloc _) hn).mono ?_
    rw [HW.out]
    rintro e w1 ⟨rfl, hb⟩
    replace HB := belStep HB hb
    clear hb h
    go_wp2
    go_ret2
    exact ⟨rfl, HB.out⟩
  · have hW := (pol_iff.1 hp).1
    obtain ⟨N, rfl⟩ : ∃ N : Nat, W = (N : Int) := ⟨W.toNat, by omega⟩
    have HW := Lib.hid hp
    have hpb := prB_2 hp
    rw [Int.toNat_natCast] at hpb
    have HRS := Lib.hid (fun (w' : World) (r : RI w' A n zs) => poResult_any N A n c zs w' r hp)
    have hil : prB (N : Int) zs = true → ilB (N : Int) zs = ((n : Int) == (invT (pends (N : Int) zs N) (pwinds (N : Int) zs N) : Int)) := fun h => by rw [ilB_yes h, hzl, Int.toNat_natCast]
    have hin : prB (N : Int) zs = false → ilB (N : Int) zs = false := ilB_no
    obtain ⟨ys, hys⟩ : ∃ ys, ys = pends (N : Int) zs N := ⟨_, rfl⟩
    obtain ⟨vs, hvs⟩ : ∃ vs, vs = pwinds (N : Int) zs N := ⟨_, rfl⟩
    rw [← hys, ← hvs] at HRS hpb hil
    have hN8 : N ≤ 8 := by omega
    rcases ht : trn ys vs with _ | _
    · have hpf := hpb.trans ht
      rw [hin hpf, hpf]
      have HT := Lib.hid ht
      clear hp hpb hil hin hys hvs ht hzl hpf
      go_enter Try.func28, Try.ntmps28
      go_wp2_with fail
      have HA := boxNew (W := (N : Int)) (c := c) 45 h
      have HB := belAlloc (belRefl (w := w)) (.cells #[.int .i64 (N : Int), .slice A n c] 45)
      refine (poGood_any (N : Int) A n c zs _ HA.out.ri hn).mono ?_
      rw [HW.out]
      rintro e w1 ⟨rfl, hb⟩
      replace HA := boxStep HA hb
      replace HB := belStep HB hb
      have a0 := HA.out.c0; have a1 := HA.out.c1
      clear hb h
      go_wp2_with fail
      refine (HRS.out _ HA.out.ri).mono ?_
      rintro e w2 ⟨A9, c9, E9, d9, rfl, o1, o2, hb⟩
      replace HB := belStep HB hb
      have O1 := Lib.hid o1; have O2 := Lib.hid o2
      clear hb o1 o2 HRS a0 a1
      go_wp2_with fail
      replace HB := belAlloc HB (.cells #[.slice A9 N c9, .slice E9 N d9] 27)
      refine (poTurned_any A9 N c9 ys E9 N d9 vs _ (O1.out.ri.alloc _) (O2.out.ri.alloc _) (by omega) (by omega) O1.out.le).mono ?_
      rw [HT.out]
      rintro e w3 ⟨rfl, hb⟩
      replace HB := belStep HB hb
      clear hb
      go_wp2
      go_ret2
      exact ⟨rfl, HB.out⟩
    · have hpt := hpb.trans ht
      rw [hil hpt, hpt]
      have HT := Lib.hid ht
      have HPI := Lib.hid (fun (A' : Option Addr) (c' : Nat) (E' : Option Addr) (d' : Nat) (w' : World) (r1 : RI w' A' N ys) (r2 : RI w' E' N vs) => poInversions_any A' N c' ys E' N d' vs w' r1 r2 ht)
      obtain ⟨I0, hI⟩ : ∃ I0, I0 = invT ys vs := ⟨_, rfl⟩
      rw [← hI] at HPI ⊢
      clear hp hpb hil hin hys hvs ht hzl hI hpt
      go_enter Try.func28, Try.ntmps28
      go_wp2_with fail
      have HA := boxNew (W := (N : Int)) (c := c) 45 h
      have HB := belAlloc (belRefl (w := w)) (.cells #[.int .i64 (N : Int), .slice A n c] 45)
      refine (poGood_any (N : Int) A n c zs _ HA.out.ri hn).mono ?_
      rw [HW.out]
      rintro e w1 ⟨rfl, hb⟩
      replace HA := boxStep HA hb
      replace HB := belStep HB hb
      have a0 := HA.out.c0; have a1 := HA.out.c1
      clear hb h
      go_wp2_with fail
      refine (HRS.out _ HA.out.ri).mono ?_
      rintro e w2 ⟨A9, c9, E9, d9, rfl, o1, o2, hb⟩
      replace HA := boxStep HA hb
      replace HB := belStep HB hb
      have O1 := Lib.hid o1; have O2 := Lib.hid o2
      clear hb o1 o2 HRS a0 a1
      have a0 := HA.out.c0; have a1 := HA.out.c1
      go_wp2_with fail
      have HG := cellNew w2 (.slice A9 N c9) (.slice E9 N d9) 27
      replace HA := boxAlloc HA (.cells #[.slice A9 N c9, .slice E9 N d9] 27)
      replace HB := belAlloc HB (.cells #[.slice A9 N c9, .slice E9 N d9] 27)
      replace O1 := oiAlloc O1 (.cells #[.slice A9 N c9, .slice E9 N d9] 27)
      replace O2 := oiAlloc O2 (.cells #[.slice A9 N c9, .slice E9 N d9] 27)
      refine (poTurned_any A9 N c9 ys E9 N d9 vs _ O1.out.ri O2.out.ri (by omega) (by omega) O1.out.le).mono ?_
      rw [HT.out]
      rintro e w3 ⟨rfl, hb⟩
      replace HA := boxStep HA hb
      replace HB := belStep HB hb
      replace HG := cellStep HG hb
      replace O1 := oiStep O1 hb
      replace O2 := oiStep O2 hb
      clear hb a0 a1
      have a0 := HA.out.c0; have a1 := HA.out.c1
      have g0 := HG.out.c0; have g1 := HG.out.c1
      go_wp2_with fail
      go_region_law (first
        | (go_simp; go_at_call 57; refine (HPI.out A9 c9 E9 d9 _ O1.out.ri.drew O2.out.ri.drew).mono ?_; rintro e w4 ⟨rfl, hb⟩; have HA4 := boxStep (boxDrew HA) hb; have HB4 := belStep (belDrew HB) hb; have q0 := HA4.out.c0; have q1 := HA4.out.c1; clear hb))
      all_goals
        go_wp2
        go_ret2
        exact ⟨rfl, HB4.out⟩
end Go.Proofs.Ytijddnllacphfaa
