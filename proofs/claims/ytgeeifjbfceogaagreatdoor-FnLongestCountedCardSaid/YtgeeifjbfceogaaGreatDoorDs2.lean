/- The descents of an order, as the model and the program list them. -/
import Derived.Test.YtgeeifjbfceogaaGreatDoorMgF
import Derived.Test.YtgeeifjbfceogaaGreatDoorMgJ
import Derived.Test.YtgeeifjbfceogaaGreatDoorMgG
import Derived.Test.YtgeeifjbfceogaaGreatDoorMgD
namespace Go.Proofs.YtgeeifjbfceogaaGreatDoor
open Go Go.RowKit

def dscN (zs : List Int) : List Int := if ord zs = true then dscL zs else []
theorem dscN_yes {zs : List Int} (h : ord zs = true) : dscN zs = dscL zs := by unfold dscN; rw [if_pos h]
theorem dscN_no {zs : List Int} (h : ord zs = false) : dscN zs = [] := by unfold dscN; rw [h]; rfl
theorem dscN_len (zs : List Int) : (dscN zs).length ≤ 1000 := by
  rcases h : ord zs with _ | _
  · rw [dscN_no h]; simp
  · rw [dscN_yes h]
    have h8 := (ord_iff.1 h).2.1
    have := dscK_len zs (zs.length - 1)
    unfold dscL
    omega

set_option maxRecDepth 100000 in
set_option maxHeartbeats 4000000 in
theorem iDescentsOf_any (A0 : Option Addr) (n c0 : Nat) (zs : List Int) (w : World) (h : RI w A0 n zs) (hn : n ≤ 1048576) (_hnc : n ≤ c0) :
    Calls Tryz.prog 92 #[.slice A0 n c0] w (FreshIB w (dscN zs).length (dscN zs) (ord zs)) := by
  have hl := h.1
  rcases hq : ord zs with _ | _
  · rw [dscN_no hq]
    have HW := Lib.hid hq
    clear hq
    go_enter Tryz.func92, Tryz.ntmps92
    go_wp2_with fail
    refine (iIsOrder_any A0 n c0 zs _ h (by omega)).mono ?_
    rw [HW.out]
    rintro e w1 ⟨rfl, hb⟩
    have HB0 := Lib.hid hb
    clear hb
    go_wp2
    go_ret2
    exact ⟨none, 0, rfl, OI.none_ _ _, HB0.out⟩
  · rw [dscN_yes hq]
    have HW := Lib.hid hq
    have h8 : n ≤ 8 := by have := (ord_iff.1 hq).2.1; omega
    have h1n : 1 ≤ n := by have := (ord_iff.1 hq).1; omega

    clear hq
    go_enter Tryz.func92, Tryz.ntmps92
    go_wp2_with fail
    refine (iIsOrder_any A0 n c0 zs _ h (by omega)).mono ?_
    rw [HW.out]
    rintro e w1 ⟨rfl, hb⟩
    have HB0 := Lib.hid hb
    have HZ := Lib.hid hb.size
    have HA : Hid (RI w1 A0 n zs) := h.below hb (Nat.le_refl _)
    clear hb h
    go_wp2
    go_loopw [4, 5, 12] (fun s4 _ i wr => ∃ (k : Nat) (A : Option Addr) (c : Nat), k + 1 ≤ n ∧ i = .int .i64 k ∧ s4 = .slice A (dscK zs k).length c ∧ OI wr w1.heap.size A (dscK zs k).length c (dscK zs k) ∧ Below w1.heap.size w1 wr) (fun _ _ i _ => n - (intOf i).toNat)
    case atStart => exact ⟨0, none, 0, h1n, rfl, rfl, OI.none_ _ _, Below.refl _ _⟩
    case round =>
      obtain ⟨k, A1, c1, hk, rfl, rfl, ho, hb⟩ := hrel
      have HO := Lib.hid ho
      have HB := Lib.hid hb
      have hkl := dscK_len zs k
      clear ho hb
      by_cases hlt : k + 1 < n
      · obtain ⟨b, off, rfl, hbw, hc⟩ := HA.out.cell (show k < n by omega)
        have hck := (HB.out.cell (p := ⟨b, off + k, none⟩) hbw).trans (hc k (by omega))
        have hcp := (HB.out.cell (p := ⟨b, off + (k + 1), none⟩) hbw).trans (hc (k + 1) hlt)
        clear hc
        by_cases hq : gi zs (k + 1) < gi zs k
        · have HQ := Lib.hid hq
          go_wp2
          go_quiet (fail)
          clear hq
          go_wp2_with (at_builtin; refine wpList_append_int _ rfl _ _ rfl w1.heap.size A1 (dscK zs k).length c1 _ (k : Int) _ rfl rfl ((HO.out.drewN _).alloc _) (cellNewAt _ _ _ rfl) (by omega) (by have := HB.out.size; simp at this ⊢; omega) ?_; intro A2 c2 w2 ho2 hg2; have HO2 := Lib.hid ho2; have HB2 := belGrown (belAlloc (belDrewN HB _) _) ((HO.out.drewN _).alloc _) hg2 (Nat.le_refl _); clear ho2 hg2)
          go_roundw
          case rel =>
            have e : dscK zs (k + 1) = dscK zs k ++ [(k : Int)] := by simp only [dscK]; rw [if_pos HQ.out]
            exact ⟨k + 1, A2, c2, hlt, by go_num, by rw [e]; simp, by rw [e]; simpa using HO2.out, HB2.out⟩
          case measure => simp [intOf]; omega
        · have HQ := Lib.hid hq
          have hq1 : gi zs k ≤ gi zs (k + 1) := by omega
          go_wp2
          go_quiet (fail)
          go_wp2
          go_roundw
          case rel =>
            have e : dscK zs (k + 1) = dscK zs k := by simp only [dscK]; rw [if_neg (by have := HQ.out; omega), List.append_nil]
            exact ⟨k + 1, A1, c1, hlt, by go_num, by rw [e], by rw [e]; exact HO.out.drewN _, (belDrewN HB _).out⟩
          case measure => simp [intOf]; omega
      · have e : dscK zs k = dscL zs := by unfold dscL; rw [hl]; congr 1; omega
        go_wp2
        go_ret2
        exact ⟨A1, c1, by rw [← e]; rfl, e ▸ HO.out.mono HZ.out, HB0.out.trans (HB.out.mono HZ.out)⟩
end Go.Proofs.YtgeeifjbfceogaaGreatDoor
