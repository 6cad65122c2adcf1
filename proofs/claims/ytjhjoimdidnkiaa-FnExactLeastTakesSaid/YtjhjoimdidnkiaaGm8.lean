/- LeastTakes, of the program and of the model. -/
import Derived.Test.YtjhjoimdidnkiaaGm7
namespace Go.Proofs.Ytjhjoimdidnkiaa
open Go Go.RowKit

/-- how many rungs have to be taken out -/
def ltN (W : Int) (zs : List Int) : Int := if tkB W zs = true then (zs.length : Int) - mxL (hsK zs W.toNat (2 ^ zs.length)) else 0
theorem ltN_yes {W : Int} {zs : List Int} (h : tkB W zs = true) : ltN W zs = (zs.length : Int) - mxL (hsK zs W.toNat (2 ^ zs.length)) := by unfold ltN; rw [if_pos h]
theorem ltN_no {W : Int} {zs : List Int} (h : tkB W zs = false) : ltN W zs = 0 := by unfold ltN; rw [h]; rfl
theorem hsK_first (zs : List Int) (N : Nat) : ∀ S, 0 < S → 0 ≤ gi (hsK zs N S) 0 := fun S h => (hsK_in zs N S 0 (hsK_pos zs N S h)).1
theorem mx_hsK (zs : List Int) (N S : Nat) : 0 ≤ mxL (hsK zs N S) ∧ mxL (hsK zs N S) ≤ zs.length := by
  have := mxL_in (xs := hsK zs N S) (b := (zs.length : Int)) (by omega) (hsK_in zs N S) _ (Nat.le_refl _)
  rwa [mxL_all] at this

set_option maxRecDepth 100000 in
set_option maxHeartbeats 2000000 in
theorem iLeastTakes_any (W : Int) (A : Option Addr) (n c : Nat) (zs : List Int) (w : World) (h : RI w A n zs) (hn : n ≤ 1048576) :
    Calls Try.prog 24 #[.agg #[.int .i64 W, .slice A n c]] w (RetIB (ltN W zs) (tkB W zs) w) := by
  have hz := h.1
  have HA := boxNew (W := W) (c := c) 27 h
  have HB := belAlloc (belRefl (w := w)) (.cells #[.int .i64 W, .slice A n c] 27)
  have HG := Lib.hid (fun w2 (r : RI w2 A n zs) => iIsTaking_any W A n c zs w2 r hn)
  rcases hq : tkB W zs with _ | _
  · rw [ltN_no hq]
    rw [hq] at HG
    clear hq h
    go_enter Try.func24, Try.ntmps24
    go_wp2_with fail
    refine (HG.out _ HA.out.ri).mono ?_
    rintro e w1 ⟨rfl, hb⟩
    replace HB := belStep HB hb
    clear hb
    go_wp2
    go_ret2
    exact ⟨rfl, HB.out⟩
  · rw [ltN_yes hq]
    rw [hq] at HG
    have hq2 := tkB_iff.1 hq
    have hn12 : n ≤ 12 := by omega
    have HS := Lib.hid (fun w2 (r : RI w2 A n zs) => homeSizes_any W A n c zs w2 r (by omega) hq2.1)
    rw [hz]
    have hp2 := pow12 hn12
    have hl1 := hsK_len zs W.toNat (2 ^ n)
    have hl2 := hsK_pos zs W.toNat (2 ^ n) Nat.one_le_two_pow
    have hl3 := hsK_first zs W.toNat (2 ^ n) Nat.one_le_two_pow
    have hl4 := mx_hsK zs W.toNat (2 ^ n)
    rw [hz] at hl4
    obtain ⟨L, hL⟩ : ∃ L, L = hsK zs W.toNat (2 ^ n) := ⟨_, rfl⟩
    rw [← hL] at HS hl1 hl2 hl3 hl4 ⊢
    obtain ⟨M, hM⟩ : ∃ M, M = L.length := ⟨_, rfl⟩
    rw [← hM] at HS hl1 hl2
    have HMx := Lib.hid (fun A2 c2 w2 (r : RI w2 A2 M L) => gMax_any A2 M c2 L w2 r (by omega) (by omega) hl3)
    obtain ⟨y, hy⟩ : ∃ y, y = mxL L := ⟨_, rfl⟩
    rw [← hy] at HMx hl4 ⊢
    have hyw : IntKind.i64.wrap ((n : Int) - y) = (n : Int) - y := IntWalk.i64_in _ (by omega)
    clear hq h hq2 hL hz hM hy hl3
    go_enter Try.func24, Try.ntmps24
    go_wp2_with fail
    refine (HG.out _ HA.out.ri).mono ?_
    rintro e w1 ⟨rfl, hb⟩
    replace HA := boxStep HA hb; replace HB := belStep HB hb; have a0 := HA.out.c0; have a1 := HA.out.c1; have az := HA.out.lt
    clear hb
    go_wp2
    have AD := boxDrew HA; have BD := belDrew HB
    go_region_held3 (fun w' => w'.cell? ⟨w.heap.size, 0, none⟩ = some (.int .i64 W) ∧ w'.cell? ⟨w.heap.size, 1, none⟩ = some (.slice A n c))
      (first | exact ⟨HA.out.c0, HA.out.c1⟩ | exact ⟨A2.out.c0, A2.out.c1⟩ | exact ⟨A3.out.c0, A3.out.c1⟩)
      (first
        | (go_at_call 42; refine (HS.out _ AD.out.ri).mono ?_; rintro e w2 ⟨F2, d2, rfl, o2, hb⟩; have A2 := boxStep AD hb; have B2 := belStep BD hb; have O2 := Lib.hid o2; clear hb o2)
        | (go_at_call 44; refine (HMx.out _ _ _ O2.out.ri).mono ?_; rintro e w3 ⟨rfl, rfl⟩; have A3 := A2; have B3 := B2))
    go_wp2
    go_ret2
    exact ⟨rfl, B3.out⟩

set_option maxRecDepth 100000 in
set_option maxHeartbeats 4000000 in
theorem sLeastTakes_any (W : Int) (A : Option Addr) (n c : Nat) (zs : List Int) (w : World) (h : RI w A n zs) (hn : n ≤ 1048576) :
    Calls Try.prog 23 #[.agg #[.int .i64 W, .slice A n c]] w (RetIB (ltN W zs) (tkB W zs) w) := by
  have hz := h.1
  have HA := boxNew (W := W) (c := c) 27 h
  have HB := belAlloc (belRefl (w := w)) (.cells #[.int .i64 W, .slice A n c] 27)
  have HG := Lib.hid (fun w2 (r : RI w2 A n zs) => gaTaking_any W A n c zs w2 r hn)
  rcases hq : tkB W zs with _ | _
  · rw [ltN_no hq]
    rw [hq] at HG
    clear hq h
    go_enter Try.func23, Try.ntmps23
    go_wp2_with fail
    refine (HG.out _ HA.out.ri).mono ?_
    rintro e w1 ⟨rfl, hb⟩
    replace HB := belStep HB hb
    clear hb
    go_wp2
    go_ret2
    exact ⟨rfl, HB.out⟩
  · rw [ltN_yes hq]
    rw [hq] at HG
    have hq2 := tkB_iff.1 hq
    have hn12 : n ≤ 12 := by omega
    have hW := (lad_iff.1 hq2.1).1
    have hp1 : 1 ≤ 2 ^ n := Nat.one_le_two_pow
    have hp2 := pow12 hn12
    rw [hz]
    obtain ⟨P, hP⟩ : ∃ P, P = 2 ^ n := ⟨_, rfl⟩
    have hpw := pow_wrap hn12 hP
    rw [← hP] at hp1 hp2 ⊢
    obtain ⟨N, rfl⟩ : ∃ N : Nat, W = (N : Int) := ⟨W.toNat, by omega⟩
    rw [Int.toNat_natCast]
    have HLL := Lib.hid (fun S => show (leftL zs S).length ≤ 12 from Nat.le_trans (leftK_len zs S zs.length) (by omega))
    have HHM := Lib.hid (fun S w2 A2 c2 (r : RI w2 A2 (leftL zs S).length (leftL zs S)) => gaHome_any N A2 _ c2 _ w2 r (by have := HLL.out S; omega) (leftL_lad hq2.1 S))
    have HHS := Lib.hid (fun S => show homeB (leftL zs S) N = homeQ zs N S from rfl)
    have HLf := Lib.hid (fun S (hS : S < 4096) w2 (r : RI w2 A n zs) => gaLeft_any (N : Int) A n c zs S w2 r (by omega) hS)
    have HMX := Lib.hid (fun S => mx_hsK zs N S)
    rw [hz] at HMX
    clear hq h hq2 hz hP hW
    go_enter Try.func23, Try.ntmps23
    go_wp2_with fail
    refine (HG.out _ HA.out.ri).mono ?_
    rintro e w1 ⟨rfl, hb⟩
    replace HA := boxStep HA hb; replace HB := belStep HB hb
    clear hb
    go_wp2
    go_loopw [4, 5] (fun m i wr => ∃ S : Nat, S ≤ P ∧ i = .int .i64 (S : Int) ∧ m = .int .i64 (mxL (hsK zs N S)) ∧ Box wr w.heap.size (N : Int) A n c zs ∧ Below w.heap.size w wr) (fun _ i _ => P - (intOf i).toNat)
    case atStart => exact ⟨0, Nat.zero_le _, rfl, rfl, HA.out, HB.out⟩
    case round =>
      obtain ⟨S, hS, rfl, rfl, hA, hb⟩ := hrel
      have HAr := Lib.hid hA
      have HBr := Lib.hid hb
      have b0 := hA.c0; have b1 := hA.c1; have bz := hA.lt
      clear hA hb
      by_cases hlt : S < P
      · obtain ⟨q, hq⟩ : ∃ q, q = homeQ zs N S := ⟨_, rfl⟩
        have HQ := Lib.hid hq
        have HM2 := Lib.hid (fun w2 A2 c2 r => HHM.out S w2 A2 c2 r)
        rw [HHS.out S, ← hq] at HM2
        have HLS := Lib.hid (HLL.out S)
        clear hq
        go_wp2_with fail
        refine (HLf.out S (by omega) _ HAr.out.ri).mono ?_
        rintro e w2 ⟨F2, d2, rfl, o2, hb⟩
        replace HAr := boxStep HAr hb; replace HBr := belStep HBr hb
        have O2 := Lib.hid o2
        clear b0 b1
        have b0 := HAr.out.c0; have b1 := HAr.out.c1
        clear hb o2
        go_wp2_with fail
        refine (HM2.out _ _ _ O2.out.ri).mono ?_
        rintro e w3 ⟨rfl, hb⟩
        replace HAr := boxStep HAr hb; replace HBr := belStep HBr hb
        clear b0 b1
        have b0 := HAr.out.c0; have b1 := HAr.out.c1
        clear hb
        cases q
        · have HL := Lib.hid (hsK_no HQ.out.symm)
          go_wp2
          go_roundw
          case rel => exact ⟨S + 1, by omega, by go_num, by rw [HL.out], HAr.out, HBr.out⟩
          case measure => simp [intOf]; omega
        · have HL := Lib.hid (hsK_yes HQ.out.symm)
          go_wp2_with (go_at_call 43; refine (gMost_any _ _ _).mono ?_; rintro e w9 ⟨rfl, hw9⟩; replace hw9 := hw9.symm; subst hw9)
          go_roundw
          case rel => exact ⟨S + 1, by omega, by go_num, by rw [HL.out, mxL_snoc], HAr.out, HBr.out⟩
          case measure => simp [intOf]; omega
      · obtain rfl : S = P := by omega
        have hl4 := HMX.out S
        obtain ⟨y, hy⟩ : ∃ y, y = mxL (hsK zs N S) := ⟨_, rfl⟩
        rw [← hy] at hl4 ⊢
        have hyw : IntKind.i64.wrap ((n : Int) - y) = (n : Int) - y := IntWalk.i64_in _ (by omega)
        go_wp2
        go_ret2
        exact ⟨by rw [← hy]; rfl, HBr.out⟩
end Go.Proofs.Ytjhjoimdidnkiaa
