/- The program's CountByLength. -/
import Derived.Test.YtgeeifjbfceogaaGreatDoorCb5
import Derived.Test.YtgeeifjbfceogaaGreatDoorRk1
import Derived.Test.YtgeeifjbfceogaaGreatDoorLg6
import Derived.Test.YtgeeifjbfceogaaGreatDoorMgL
namespace Go.Proofs.YtgeeifjbfceogaaGreatDoor
open Go Go.RowKit

def cbQ (x : Int) : Bool := inB x 2 6
def cbL (x : Int) : List Int := if cbQ x = true then begs (topO x.toNat) else []
theorem cbL_yes {x : Int} (h : cbQ x = true) : cbL x = begs (topO x.toNat) := by unfold cbL; rw [if_pos h]
theorem cbL_no {x : Int} (h : cbQ x = false) : cbL x = [] := by unfold cbL; rw [h]; rfl
theorem cbQ_iff {x : Int} : cbQ x = true ↔ 2 ≤ x ∧ x ≤ 6 := inB_iff
theorem cbQ_rl {x : Int} (h : cbQ x = true) : rlQ (ifW (lgB x) x) (lgL x) = true ∧ crL (ifW (lgB x) x) (lgL x) = topO x.toNat := by
  have h1 := cbQ_iff.1 h
  obtain rfl | rfl | rfl | rfl | rfl : x = 2 ∨ x = 3 ∨ x = 4 ∨ x = 5 ∨ x = 6 := by omega
  all_goals exact ⟨by decide +kernel, by decide +kernel⟩
theorem cbQ_nr {x : Int} (h : cbQ x = false) : rlQ (ifW (lgB x) x) (lgL x) = false := by
  have h1 : ¬ (2 ≤ x ∧ x ≤ 6) := fun e => by rw [cbQ_iff.2 e] at h; cases h
  rcases hg : lgB x with _ | _
  · have e : lgL x = [] := by unfold lgL; rw [hg]; rfl
    rw [e]
    show rlQ 0 [] = false
    decide +kernel
  · have h2 : 2 ≤ x ∧ x ≤ 8 := inB_iff.1 hg
    unfold rlQ
    rw [show ifW true x = x from rfl, decide_eq_false (by omega), Bool.and_false]
theorem cbL_len (x : Int) : (cbL x).length ≤ 16 := by
  rcases h : cbQ x with _ | _
  · rw [cbL_no h]; simp
  · have h1 := cbQ_iff.1 h
    rw [cbL_yes h]
    have h2 := ninv_topO (n := x.toNat) (by omega) (by omega)
    have h3 := lenN_small (n := x.toNat) (by omega)
    simp [begs]
    omega

set_option maxRecDepth 100000 in
set_option maxHeartbeats 4000000 in
theorem iCountByLength_any (x : Int) (w : World) (lo : -9223372036854775808 ≤ x) (hi : x ≤ 9223372036854775807) (hGl : Glob w) :
    Calls Tryz.prog 26 #[.int .i64 x] w (FreshIB w (cbL x).length (cbL x) (cbQ x)) := by
  have HL := Lib.hid (iLongestLadder_any x w lo hi)
  have HG := Lib.hid hGl
  have hlen := lgL_len x
  rcases hq : cbQ x with _ | _
  · rw [cbL_no hq]
    have HC : Hid (∀ (A : Option Addr) (c : Nat) (w' : World), RI w' A (lgL x).length (lgL x) → Calls Tryz.prog 58 #[.agg #[.int .i64 (ifW (lgB x) x), .slice A (lgL x).length c]] w' (FreshIB w' 0 [] false)) := fun A c w' h => by
      have := countedResult_any (ifW (lgB x) x) A (lgL x).length c (lgL x) w' h (by omega)
      rw [crL_no (cbQ_nr hq), cbQ_nr hq] at this
      exact this
    obtain ⟨W, hW⟩ : ∃ W, W = ifW (lgB x) x := ⟨_, rfl⟩
    obtain ⟨zs, hz⟩ : ∃ zs, zs = lgL x := ⟨_, rfl⟩
    obtain ⟨lb, hb⟩ : ∃ lb, lb = lgB x := ⟨_, rfl⟩
    rw [← hW, ← hz] at HC
    rw [← hz] at hlen
    rw [← hW, ← hz, ← hb] at HL
    clear hq hW hz hb
    go_enter Tryz.func26, Tryz.ntmps26
    go_wp2_with fail
    refine HL.out.mono ?_
    rintro e w1 ⟨A1, c1, rfl, o1, hb⟩
    have HO := Lib.hid o1
    have HB := belStep (belRefl (w := w)) hb
    clear o1 hb HL
    go_wp2_with fail
    refine (HC.out A1 c1 _ (HO.out.ri.alloc _)).mono ?_
    rintro e w2 ⟨A2, c2, rfl, o2, hb⟩
    have HB2 := belStep (belAlloc HB _) hb
    clear o2 hb HC
    go_wp2
    go_ret2
    exact ⟨none, 0, rfl, OI.none_ _ _, HB2.out⟩
  · rw [cbL_yes hq]
    have h26 := cbQ_iff.1 hq
    have hn2 : 2 ≤ x.toNat := by omega
    have hn6 : x.toNat ≤ 6 := by omega
    have hok := topO_ok (n := x.toNat) (by omega) (by omega)
    have HC : Hid (∀ (A : Option Addr) (c : Nat) (w' : World), RI w' A (lgL x).length (lgL x) → Calls Tryz.prog 58 #[.agg #[.int .i64 (ifW (lgB x) x), .slice A (lgL x).length c]] w' (FreshIB w' (topO x.toNat).length (topO x.toNat) true)) := fun A c w' h => by
      have := countedResult_any (ifW (lgB x) x) A (lgL x).length c (lgL x) w' h (by omega)
      rw [(cbQ_rl hq).2, (cbQ_rl hq).1] at this
      exact this
    have HCB : Hid (∀ (A : Option Addr) (c : Nat) (w1 : World), Below w.heap.size w w1 → RI w1 A (topO x.toNat).length (topO x.toNat) → Calls Tryz.prog 47 #[.slice A (topO x.toNat).length c] w1 (FreshI w1 (begs (topO x.toNat)).length (begs (topO x.toNat)))) := fun A c w1 hb h => by
      have e1 : (topO x.toNat).length = x.toNat := hok.2
      have e2 : (begs (topO x.toNat)).length = ninv (topO x.toNat) + 1 := by simp [begs]
      rw [e2]
      rw [e1] at h ⊢
      exact countBeginnings_any x.toNat (topO x.toNat) hok hn2 hn6 A c w1 h (HG.out.below hb)
    obtain ⟨W, hW⟩ : ∃ W, W = ifW (lgB x) x := ⟨_, rfl⟩
    obtain ⟨zs, hz⟩ : ∃ zs, zs = lgL x := ⟨_, rfl⟩
    obtain ⟨lb, hb⟩ : ∃ lb, lb = lgB x := ⟨_, rfl⟩
    obtain ⟨R, hR⟩ : ∃ R, R = begs (topO x.toNat) := ⟨_, rfl⟩
    obtain ⟨T, hT⟩ : ∃ T, T = topO x.toNat := ⟨_, rfl⟩
    rw [← hR] at HCB ⊢
    rw [← hT] at HC HCB
    rw [← hW, ← hz] at HC
    rw [← hz] at hlen
    rw [← hW, ← hz, ← hb] at HL
    clear hq hW hz hb hR hT hok h26 hn2 hn6
    go_enter Tryz.func26, Tryz.ntmps26
    go_wp2_with fail
    refine HL.out.mono ?_
    rintro e w1 ⟨A1, c1, rfl, o1, hb⟩
    have HO := Lib.hid o1
    have HB := belStep (belRefl (w := w)) hb
    clear o1 hb HL
    go_wp2_with fail
    refine (HC.out A1 c1 _ (HO.out.ri.alloc _)).mono ?_
    rintro e w2 ⟨A2, c2, rfl, o2, hb⟩
    have HB2 := belStep (belAlloc HB _) hb
    have HO2 := Lib.hid o2
    clear o2 hb HC
    go_wp2_with fail
    refine (HCB.out A2 c2 _ HB2.out HO2.out.ri).mono ?_
    rintro e w3 ⟨A3, c3, rfl, o3, hb⟩
    have HB3 := belStep HB2 hb
    have HO3 := Lib.hid (o3.mono HB2.out.size)
    clear o3 hb HCB
    go_wp2
    go_ret2
    exact ⟨A3, c3, rfl, HO3.out, HB3.out⟩
end Go.Proofs.YtgeeifjbfceogaaGreatDoor
