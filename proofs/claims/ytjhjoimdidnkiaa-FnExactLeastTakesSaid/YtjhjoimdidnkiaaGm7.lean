/- CountHomeSets and LeastTakes, of the program and of the model. -/
import Derived.Test.YtjhjoimdidnkiaaGm6
namespace Go.Proofs.Ytjhjoimdidnkiaa
open Go Go.RowKit

/-- the greatest one of some numbers, 0 at least -/
def mxL (xs : List Int) : Int := xs.foldl max 0
theorem mxL_snoc (xs : List Int) (x : Int) : mxL (xs ++ [x]) = max (mxL xs) x := by unfold mxL; rw [List.foldl_append]; rfl
theorem mxL_take {xs : List Int} {k : Nat} (h : k < xs.length) : mxL (xs.take (k + 1)) = max (mxL (xs.take k)) (gi xs k) := by
  rw [List.take_succ_eq_append_getElem h, mxL_snoc, gi_lt h]
theorem mxL_in {xs : List Int} {b : Int} (hb : 0 ≤ b) : (∀ j, j < xs.length → 0 ≤ gi xs j ∧ gi xs j ≤ b) → ∀ k, k ≤ xs.length → 0 ≤ mxL (xs.take k) ∧ mxL (xs.take k) ≤ b := by
  intro h k hk
  induction k with
  | zero => simp [mxL, hb]
  | succ k ih =>
    have := ih (by omega)
    have := h k (by omega)
    rw [mxL_take (by omega)]; omega
theorem mxL_all (xs : List Int) : mxL (xs.take xs.length) = mxL xs := by simp

set_option maxHeartbeats 400000 in
theorem gMost_any (a b : Int) (w : World) : Calls Try.prog 43 #[.int .i64 a, .int .i64 b] w (fun e w' => e = .returned (.int .i64 (max a b)) ∧ w' = w) := by
  by_cases h : b < a
  · have E : Hid (max a b = a) := by show _ = _; omega
    go_enter Try.func43, Try.ntmps43
    go_wp2
    go_ret
    exact ⟨ret_i E.out.symm, rfl⟩
  · have E : Hid (max a b = b) := by show _ = _; omega
    go_enter Try.func43, Try.ntmps43
    go_wp2
    go_ret
    exact ⟨ret_i E.out.symm, rfl⟩

set_option maxRecDepth 100000 in
set_option maxHeartbeats 1000000 in
theorem gMax_any (A : Option Addr) (n c : Nat) (xs : List Int) (w : World) (h : RI w A n xs) (hn : n ≤ 1048576) (h0 : 0 < n) (hp : 0 ≤ gi xs 0) :
    Calls Try.prog 44 #[.slice A n c] w (fun e w' => e = .returned (.int .i64 (mxL xs)) ∧ w' = w) := by
  have hl := h.1
  have HL := Lib.hid hl
  obtain ⟨b, off, rfl, hbw, hc⟩ := h.cell h0
  have hc0 := hc 0 h0
  rw [Nat.add_zero] at hc0
  have HC := Lib.hid hc
  have H1 : Hid (gi xs 0 = mxL (xs.take 1)) := Lib.hid (by rw [mxL_take (by omega)]; simp [mxL]; omega)
  rw [H1.out] at hc0
  clear hc h hl
  go_enter Try.func44, Try.ntmps44
  go_wp2
  go_loopw [3, 4] (fun m i wr => ∃ k : Nat, 1 ≤ k ∧ k ≤ n ∧ i = .int .i64 (k : Int) ∧ m = .int .i64 (mxL (xs.take k)) ∧ wr = w) (fun _ i _ => n - (intOf i).toNat)
  case atStart => exact ⟨1, Nat.le_refl _, h0, rfl, rfl, rfl⟩
  case round =>
    obtain ⟨k, hk1, hk, rfl, rfl, rfl⟩ := hrel
    by_cases hlt : k < n
    · have hck := HC.out k hlt
      have HT := Lib.hid (mxL_take (xs := xs) (k := k) (by have := HL.out; omega))
      go_wp2
      go_roundw
      case rel => exact ⟨k + 1, by omega, by omega, by go_num, (by rw [HT.out]; first | rfl | go_num | (congr 1; omega)), (by first | rfl | trivial)⟩
      case measure => simp [intOf]; omega
    · obtain rfl : k = n := by omega
      have HT : Hid (mxL (xs.take k) = mxL xs) := Lib.hid (by rw [← HL.out]; exact mxL_all xs)
      go_wp2
      go_ret
      exact ⟨ret_i HT.out, rfl⟩

/-- how many sets -/
def chN (W : Int) (zs : List Int) : Int := if tkB W zs = true then ((hsK zs W.toNat (2 ^ zs.length)).length : Int) else 0
theorem chN_yes {W : Int} {zs : List Int} (h : tkB W zs = true) : chN W zs = ((hsK zs W.toNat (2 ^ zs.length)).length : Int) := by unfold chN; rw [if_pos h]
theorem chN_no {W : Int} {zs : List Int} (h : tkB W zs = false) : chN W zs = 0 := by unfold chN; rw [h]; rfl

set_option maxRecDepth 100000 in
set_option maxHeartbeats 1000000 in
theorem iCountHomeSets_any (W : Int) (A : Option Addr) (n c : Nat) (zs : List Int) (w : World) (h : RI w A n zs) (hn : n ≤ 1048576) :
    Calls Try.prog 22 #[.agg #[.int .i64 W, .slice A n c]] w (RetIB (chN W zs) (tkB W zs) w) := by
  have hz := h.1
  have HA := boxNew (W := W) (c := c) 27 h
  have HB := belAlloc (belRefl (w := w)) (.cells #[.int .i64 W, .slice A n c] 27)
  have HG := Lib.hid (fun w2 (r : RI w2 A n zs) => iIsTaking_any W A n c zs w2 r hn)
  rcases hq : tkB W zs with _ | _
  · rw [chN_no hq]
    rw [hq] at HG
    clear hq h
    go_enter Try.func22, Try.ntmps22
    go_wp2_with fail
    refine (HG.out _ HA.out.ri).mono ?_
    rintro e w1 ⟨rfl, hb⟩
    replace HB := belStep HB hb
    clear hb
    go_wp2
    go_ret2
    exact ⟨rfl, HB.out⟩
  · rw [chN_yes hq]
    rw [hq] at HG
    have hq2 := tkB_iff.1 hq
    have HS := Lib.hid (fun w2 (r : RI w2 A n zs) => homeSizes_any W A n c zs w2 r (by omega) hq2.1)
    rw [hz]
    obtain ⟨L, hL⟩ : ∃ L, L = hsK zs W.toNat (2 ^ n) := ⟨_, rfl⟩
    rw [← hL] at HS ⊢
    clear hq h hq2 hL hz
    go_enter Try.func22, Try.ntmps22
    go_wp2_with fail
    refine (HG.out _ HA.out.ri).mono ?_
    rintro e w1 ⟨rfl, hb⟩
    replace HA := boxStep HA hb; replace HB := belStep HB hb; have a0 := HA.out.c0; have a1 := HA.out.c1; have az := HA.out.lt
    clear hb
    go_wp2_with fail
    refine (HS.out _ HA.out.ri).mono ?_
    rintro e w2 ⟨E, d, rfl, o2, hb⟩
    replace HB := belStep HB hb
    clear hb o2
    go_wp2
    go_ret2
    exact ⟨rfl, HB.out⟩

set_option maxRecDepth 100000 in
set_option maxHeartbeats 4000000 in
theorem sCountHomeSets_any (W : Int) (A : Option Addr) (n c : Nat) (zs : List Int) (w : World) (h : RI w A n zs) (hn : n ≤ 1048576) :
    Calls Try.prog 21 #[.agg #[.int .i64 W, .slice A n c]] w (RetIB (chN W zs) (tkB W zs) w) := by
  have hz := h.1
  have HA := boxNew (W := W) (c := c) 27 h
  have HB := belAlloc (belRefl (w := w)) (.cells #[.int .i64 W, .slice A n c] 27)
  have HG := Lib.hid (fun w2 (r : RI w2 A n zs) => gaTaking_any W A n c zs w2 r hn)
  rcases hq : tkB W zs with _ | _
  · rw [chN_no hq]
    rw [hq] at HG
    clear hq h
    go_enter Try.func21, Try.ntmps21
    go_wp2_with fail
    refine (HG.out _ HA.out.ri).mono ?_
    rintro e w1 ⟨rfl, hb⟩
    replace HB := belStep HB hb
    clear hb
    go_wp2
    go_ret2
    exact ⟨rfl, HB.out⟩
  · rw [chN_yes hq]
    rw [hq] at HG
    have hq2 := tkB_iff.1 hq
    have hn12 : n ≤ 12 := by omega
    have hW := (lad_iff.1 hq2.1).1
    have hp1 : 1 ≤ 2 ^ n := Nat.one_le_two_pow
    have hp2 := pow12 hn12
    rw [hz]
    obtain ⟨P, hP⟩ : ∃ P, P = 2 ^ n := ⟨_, rfl⟩
    have hpw := pow_wrap hn12 hP
    rw [← hP] at hp1 hp2 ⊢
    obtain ⟨N, rfl⟩ : ∃ N : Nat, W = (N : Int) := ⟨W.toNat, by omega⟩
    rw [Int.toNat_natCast]
    have HLL := Lib.hid (fun S => show (leftL zs S).length ≤ 12 from Nat.le_trans (leftK_len zs S zs.length) (by omega))
    have HHM := Lib.hid (fun S w2 A2 c2 (r : RI w2 A2 (leftL zs S).length (leftL zs S)) => gaHome_any N A2 _ c2 _ w2 r (by have := HLL.out S; omega) (leftL_lad hq2.1 S))
    have HHS := Lib.hid (fun S => show homeB (leftL zs S) N = homeQ zs N S from rfl)
    have HLf := Lib.hid (fun S (hS : S < 4096) w2 (r : RI w2 A n zs) => gaLeft_any (N : Int) A n c zs S w2 r (by omega) hS)
    clear hq h hq2 hz hP hW
    go_enter Try.func21, Try.ntmps21
    go_wp2_with fail
    refine (HG.out _ HA.out.ri).mono ?_
    rintro e w1 ⟨rfl, hb⟩
    replace HA := boxStep HA hb; replace HB := belStep HB hb
    clear hb
    go_wp2
    go_loopw [4, 5] (fun m i wr => ∃ S : Nat, S ≤ P ∧ i = .int .i64 (S : Int) ∧ m = .int .i64 ((hsK zs N S).length : Int) ∧ Box wr w.heap.size (N : Int) A n c zs ∧ Below w.heap.size w wr) (fun _ i _ => P - (intOf i).toNat)
    case atStart => exact ⟨0, Nat.zero_le _, rfl, rfl, HA.out, HB.out⟩
    case round =>
      obtain ⟨S, hS, rfl, rfl, hA, hb⟩ := hrel
      have HAr := Lib.hid hA
      have HBr := Lib.hid hb
      have b0 := hA.c0; have b1 := hA.c1; have bz := hA.lt
      have hlk := hsK_len zs N S
      clear hA hb
      by_cases hlt : S < P
      · obtain ⟨q, hq⟩ : ∃ q, q = homeQ zs N S := ⟨_, rfl⟩
        have HQ := Lib.hid hq
        have HM2 := Lib.hid (fun w2 A2 c2 r => HHM.out S w2 A2 c2 r)
        rw [HHS.out S, ← hq] at HM2
        have HLf2 := Lib.hid (fun w2 r => HLf.out S (by omega) w2 r)
        clear hq
        go_wp2
        have AD := boxDrew HAr; have BD := belDrew HBr
        go_region_held3 (fun w' => w'.cell? ⟨w.heap.size, 0, none⟩ = some (.int .i64 (N : Int)) ∧ w'.cell? ⟨w.heap.size, 1, none⟩ = some (.slice A n c))
          (first | exact ⟨HAr.out.c0, HAr.out.c1⟩ | exact ⟨A2.out.c0, A2.out.c1⟩ | exact ⟨A3.out.c0, A3.out.c1⟩)
          (first
            | (go_at_call 36; refine (HLf2.out _ AD.out.ri).mono ?_; rintro e w2 ⟨F2, d2, rfl, o2, hb⟩; have A2 := boxStep AD hb; have B2 := belStep BD hb; have O2 := Lib.hid o2; clear hb o2)
            | (go_at_call 35; refine (HM2.out _ _ _ O2.out.ri).mono ?_; rintro e w3 ⟨rfl, hb⟩; have A3 := boxStep A2 hb; have B3 := belStep B2 hb; clear hb))
        clear b0 b1
        have b0 := A3.out.c0; have b1 := A3.out.c1
        cases q
        · have HL := Lib.hid (hsK_no HQ.out.symm)
          go_wp2
          go_roundw
          case rel => exact ⟨S + 1, by omega, by go_num, by rw [HL.out], A3.out, B3.out⟩
          case measure => simp [intOf]; omega
        · have HL2 := Lib.hid (show (hsK zs N (S + 1)).length = (hsK zs N S).length + 1 by rw [hsK_yes HQ.out.symm]; simp)
          go_wp2
          go_roundw
          case rel => exact ⟨S + 1, by omega, by go_num, by rw [HL2.out]; go_num, A3.out, B3.out⟩
          case measure => simp [intOf]; omega
      · obtain rfl : S = P := by omega
        go_wp2
        go_ret2
        exact ⟨rfl, HBr.out⟩
end Go.Proofs.Ytjhjoimdidnkiaa
