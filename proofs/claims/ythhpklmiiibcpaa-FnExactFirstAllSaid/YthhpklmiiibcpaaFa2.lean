/- FirstAll, of the program and of its model. -/
import Derived.Test.YthhpklmiiibcpaaFa1
import Derived.Test.YthhpklmiiibcpaaLg6
import Derived.BigQuiet
namespace Go.Proofs.Ythhpklmiiibcpaa
open Go Go.RowKit Go.Maps

def faQ (x : Int) : Bool := inB x 2 5
def faV (x : Int) : Int := if faQ x = true then ((faN x.toNat : Nat) : Int) else 0
theorem faV_no {x : Int} (h : faQ x = false) : faV x = 0 := by unfold faV; rw [h]; rfl
theorem faV_yes {x : Int} (h : faQ x = true) : faV x = ((faN x.toNat : Nat) : Int) := by unfold faV; rw [if_pos h]
theorem faN_le {n : Nat} (h2 : 2 ≤ n) (h5 : n ≤ 5) : faN n ≤ 9 := by
  match n, h2, h5 with
  | 2, _, _ => decide
  | 3, _, _ => decide
  | 4, _, _ => decide
  | 5, _, _ => decide
theorem lg_fa {n : Nat} (h2 : 2 ≤ n) (h5 : n ≤ 5) : (firstL (revL n)).length = faN n + 1 := by
  match n, h2, h5 with
  | 2, _, _ => decide +kernel
  | 3, _, _ => decide +kernel
  | 4, _, _ => decide +kernel
  | 5, _, _ => decide +kernel

set_option maxRecDepth 100000 in
set_option maxHeartbeats 2000000 in
theorem iFirstAll_any (x : Int) (w : World) (lo : -9223372036854775808 ≤ x) (hi : x ≤ 9223372036854775807) : Calls Try.prog 25 #[.int .i64 x] w (RetIB (faV x) (faQ x) w) := by
  have HLG := Lib.hid (fun w => iLongestLadder_any x w lo hi)
  rcases hl : lgB x with _ | _
  · have hq : faQ x = false := by
      unfold lgB at hl
      refine inB_false ?_
      intro h
      rw [inB_true ⟨by omega, by omega⟩] at hl
      cases hl
    rw [hl] at HLG
    rw [hq, faV_no hq]
    clear hl hq
    go_enter Try.func25, Try.ntmps25
    go_wp2_with fail
    refine (HLG.out _).mono ?_
    rintro e w1 ⟨A, c, rfl, ho, hb⟩
    have HB := Lib.hid hb
    clear ho hb HLG
    go_wp2
    try go_quiet (fail)
    go_wp2
    go_ret2
    exact ⟨rfl, HB.out.alloc (by have := HB.out.size; omega) _⟩
  · have h28 := inB_iff.1 hl
    by_cases h5 : x ≤ 5
    · have hq : faQ x = true := inB_true ⟨h28.1, h5⟩
      have hlen : ((lgL x).length : Int) = (faN x.toNat : Int) + 1 := by
        unfold lgL
        rw [hl, ifL_yes, lg_fa (by omega) (by omega)]
        simp
      have hle := faN_le (n := x.toNat) (by omega) (by omega)
      rw [hl, ifW_yes] at HLG
      rw [hq, faV_yes hq]
      obtain ⟨v, hv⟩ : ∃ v, v = faN x.toNat := ⟨_, rfl⟩
      obtain ⟨m, hm⟩ : ∃ m, m = (lgL x).length := ⟨_, rfl⟩
      rw [← hv] at hlen hle ⊢
      rw [← hm] at hlen HLG
      have h5f : ¬ (5 < x) := by omega
      obtain rfl : m = v + 1 := by omega
      clear hl hq h28 hv hm hlen
      go_enter Try.func25, Try.ntmps25
      go_wp2_with fail
      refine (HLG.out _).mono ?_
      rintro e w1 ⟨A, c, rfl, ho, hb⟩
      have HB := Lib.hid hb
      clear ho hb HLG
      go_wp2
      try go_quiet (fail)
      go_wp2
      go_ret2
      exact ⟨rfl, HB.out.alloc (by have := HB.out.size; omega) _⟩
    · have hq : faQ x = false := inB_false (by omega)
      have h5f : 5 < x := by omega
      rw [hl, ifW_yes] at HLG
      rw [hq, faV_no hq]
      clear hl hq h28 h5
      go_enter Try.func25, Try.ntmps25
      go_wp2_with fail
      refine (HLG.out _).mono ?_
      rintro e w1 ⟨A, c, rfl, ho, hb⟩
      have HB := Lib.hid hb
      clear ho hb HLG
      go_wp2
      try go_quiet (fail)
      go_wp2
      go_ret2
      exact ⟨rfl, HB.out.alloc (by have := HB.out.size; omega) _⟩

set_option maxRecDepth 100000 in
set_option maxHeartbeats 4000000 in
theorem sFirstAll_any (x : Int) (w : World) (_lo : -9223372036854775808 ≤ x) (_hi : x ≤ 9223372036854775807) : Calls Try.prog 24 #[.int .i64 x] w (RetIB (faV x) (faQ x) w) := by
  rcases hq : faQ x with _ | _
  · rw [faV_no hq]
    have H1 := Lib.hid (show inB x 2 5 = false from hq)
    clear hq
    go_enter Try.func24, Try.ntmps24
    go_wp2_with (go_at_call 42; refine (l1In_any _ _ _ _).mono ?_; rw [H1.out]; rintro e w' ⟨rfl, rfl⟩)
    go_ret2
    exact ⟨rfl, Below.refl _ _⟩
  · rw [faV_yes hq]
    have H1 := Lib.hid (show inB x 2 5 = true from hq)
    have h25 := inB_iff.1 hq
    obtain ⟨n, rfl⟩ : ∃ n : Nat, x = (n : Int) := ⟨x.toNat, by omega⟩
    rw [Int.toNat_natCast]
    have h2 : 2 ≤ n := by omega
    have h5 : n ≤ 5 := by omega
    have hF := faN_le h2 h5
    have hN120 : (ordsK n n).length ≤ 120 := by have := ords_len h2 h5; omega
    have HCO : Hid (∀ (K : Nat) (w : World), K ≤ 20 → Calls Try.prog 28 #[.int .i64 (n : Int), .int .i64 (K : Int)] w (FreshIS w (ordsK n n).length (chO n K))) := Lib.hid fun K w hK => chOrders_any n K w h2 h5 hK
    have HFA : Hid (∀ k, k ≤ faN n → allP (chO n k) (chO n (k + 1)) (ordsK n n).length = decide (k = faN n)) := Lib.hid fun k hk => fa_at h2 h5 hk
    have HNN : Hid (∀ k i, i < (ordsK n n).length → k ≤ 20 → 0 ≤ gi (chO n k) i ∧ gi (chO n k) i ≤ 95367431640625) := Lib.hid fun k i hi hk => by
      rw [gi_chO hi]
      have h2 := resN_le (n := n) (k := k) (gz (ordsK n n) i)
      have h3 := pow5 (m := n - 1) (j := k) (by omega) hk
      omega
    obtain ⟨N, hN⟩ : ∃ N, N = (ordsK n n).length := ⟨_, rfl⟩
    obtain ⟨F, hFF⟩ : ∃ F, F = faN n := ⟨_, rfl⟩
    obtain ⟨Z, hZ⟩ : ∃ Z : Nat → List Int, Z = fun k => chO n k := ⟨_, rfl⟩
    have HCO' : Hid (∀ (K : Nat) (w : World), K ≤ 20 → Calls Try.prog 28 #[.int .i64 (n : Int), .int .i64 (K : Int)] w (FreshIS w N (Z K))) := Lib.hid fun K w hK => by rw [hN, hZ]; exact HCO.out K w hK
    have HFA' : Hid (∀ k, k ≤ F → allP (Z k) (Z (k + 1)) N = decide (k = F)) := Lib.hid fun k hk => by rw [hN, hZ, hFF]; exact HFA.out k (by omega)
    have HNN' : Hid (∀ k i, i < N → k ≤ 20 → 0 ≤ gi (Z k) i ∧ gi (Z k) i ≤ 95367431640625) := Lib.hid fun k i hi hk => by rw [hZ]; exact HNN.out k i (by omega) hk
    rw [← hFF] at hF ⊢
    rw [← hN] at hN120
    clear hq h25 HCO HFA HNN hN hFF hZ
    go_enter Try.func24, Try.ntmps24
    go_wp2_with (go_at_call 42; refine (l1In_any _ _ _ _).mono ?_; rw [H1.out]; rintro e w' ⟨rfl, rfl⟩)
    go_loopw [4] (fun s4 wr => ∃ k : Nat, k ≤ F ∧ s4 = .int .i64 (k : Int) ∧ Below w.heap.size w wr) (fun s4 _ => F + 1 - (intOf s4).toNat)
    case atStart => exact ⟨0, Nat.zero_le _, rfl, Below.refl _ _⟩
    case round =>
      obtain ⟨k, hk, rfl, hb⟩ := hrel
      have HB := Lib.hid hb
      clear hb
      go_wp2_with fail
      refine (HCO'.out k _ (by omega)).mono ?_
      rintro e w1 ⟨g1, rfl, ho1, hb1⟩
      have HO1 := Lib.hid ho1
      have HB1 : Hid (Below w.heap.size w w1) := Lib.hid (HB.out.trans (hb1.mono HB.out.size))
      clear ho1 hb1
      go_wp2_with fail
      refine (HCO'.out (k + 1) _ (by omega)).mono ?_
      rintro e w2 ⟨g2, rfl, ho2, hb2⟩
      have HO2 := Lib.hid ho2
      have HO1' := Lib.hid (HO1.out.below hb2)
      have HB2 : Hid (Below w.heap.size w w2) := Lib.hid (HB1.out.trans (hb2.mono HB1.out.size))
      clear ho2 hb2
      go_wp2
      go_loopw [7, 8, 23] (fun s7 _ s23 wi => ∃ (i : Nat) (q : Bool), i ≤ N ∧ s7 = .bool q ∧ s23 = .int .i64 (i : Int) ∧ q = allP (Z k) (Z (k + 1)) i ∧ OI wi wr.heap.size (some ⟨g1, 0, none⟩) N N (Z k) ∧ OI wi w1.heap.size (some ⟨g2, 0, none⟩) N N (Z (k + 1)) ∧ Below w.heap.size w wi) (fun _ _ s23 _ => N - (intOf s23).toNat)
      case atStart => exact ⟨0, true, Nat.zero_le _, rfl, rfl, rfl, HO1'.out, HO2.out, HB2.out⟩
      case round =>
        obtain ⟨i, q, hi, rfl, rfl, hq, ho1, ho2, hb⟩ := hrel
        have HQ := Lib.hid hq
        have HP1 := Lib.hid ho1
        have HP2 := Lib.hid ho2
        have HBI := Lib.hid hb
        clear HO1' HO2 HO1
        by_cases hlt : (i : Int) < (N : Int)
        · have hsucc := allP_succ (Z k) (Z (k + 1)) i
          rw [← hq] at hsucc
          have hi0 : (0 : Int) ≤ (i : Int) := by omega
          rcases q with _ | _
          · rw [Bool.false_and] at hsucc
            have HS := Lib.hid hsucc
            clear hsucc hq ho1 ho2 hb
            go_wp2
            go_quiet (fail)
            go_wp2
            go_roundw
            case rel => exact ⟨i + 1, false, by omega, rfl, by go_num, HS.out.symm, HP1.out, HP2.out, below_drewN HBI.out _⟩
            case measure => simp [intOf]; omega
          · rw [Bool.true_and] at hsucc
            have c1 := ho1.cells i (by omega)
            have c2 := ho2.cells i (by omega)
            have b1 := HNN'.out k i (by omega) (by omega)
            have b2 := HNN'.out (k + 1) i (by omega) (by omega)
            obtain ⟨y, hy⟩ : ∃ y, y = gi (Z k) i := ⟨_, rfl⟩
            obtain ⟨z, hz⟩ : ∃ z, z = gi (Z (k + 1)) i := ⟨_, rfl⟩
            rw [← hy] at c1 b1 hsucc
            rw [← hz] at c2 b2 hsucc
            by_cases hs : 0 < y + z
            · rw [decide_eq_true hs] at hsucc
              have HS := Lib.hid hsucc
              clear hsucc hq ho1 ho2 hb hy hz
              go_wp2
              go_quiet (fail)
              go_wp2
              go_roundw
              case rel => exact ⟨i + 1, true, by omega, rfl, by go_num, HS.out.symm, HP1.out, HP2.out, below_drewN HBI.out _⟩
              case measure => simp [intOf]; omega
            · rw [decide_eq_false hs] at hsucc
              have HS := Lib.hid hsucc
              clear hsucc hq ho1 ho2 hb hy hz
              go_wp2
              go_quiet (fail)
              go_wp2
              go_roundw
              case rel => exact ⟨i + 1, false, by omega, by first | rfl | (rw [decide_eq_false (show ¬ 0 < y + z by omega)]), by go_num, HS.out.symm, HP1.out, HP2.out, below_drewN HBI.out _⟩
              case measure => simp [intOf]; omega
        · obtain rfl : i = N := by omega
          have hfa := HFA'.out k hk
          rw [← hq] at hfa
          by_cases hkF : k = F
          · rw [decide_eq_true hkF] at hfa
            subst hfa
            have HK := Lib.hid hkF
            clear hq ho1 ho2 hb hkF
            go_wp2
            go_ret2
            exact ⟨by rw [HK.out]; rfl, HBI.out⟩
          · rw [decide_eq_false hkF] at hfa
            subst hfa
            have hk1 : k + 1 ≤ F := by omega
            clear hq ho1 ho2 hb hkF
            go_wp2
            go_roundw
            case rel => exact ⟨k + 1, hk1, by go_num, HBI.out⟩
            case measure => simp [intOf]; omega
end Go.Proofs.Ythhpklmiiibcpaa
