/- The contracts of RungsUsed, of the program and of its model. -/
import Derived.Test.YtgadfjfokgodgaaMgD
import Derived.Test.YtgadfjfokgodgaaMgC
import Derived.BigQuiet
namespace Go.Proofs.Ytgadfjfokgodgaa
open Go Go.RowKit

/-- the first k indices at which one goes over -/
def used (zs : List Int) (s : Int) : Nat → List Int
  | 0 => []
  | k + 1 => used zs s k ++ if at_ zs s k = at_ zs s (k + 1) then [] else [(k : Int)]
theorem used_len (zs : List Int) (s : Int) (k : Nat) : (used zs s k).length ≤ k := by
  induction k with
  | zero => simp [used]
  | succ k ih => simp only [used, List.length_append]; split <;> simp <;> omega
theorem used_same {zs : List Int} {s : Int} {k : Nat} (h : at_ zs s k = at_ zs s (k + 1)) : used zs s k = used zs s (k + 1) := by simp [used, h]
theorem used_over {zs : List Int} {s : Int} {k : Nat} (h : at_ zs s k ≠ at_ zs s (k + 1)) : used zs s k ++ [(k : Int)] = used zs s (k + 1) := by simp [used, h]
def usedN (W : Int) (zs : List Int) (s : Int) : List Int := if wire W zs s = true then used zs s zs.length else []
theorem usedN_yes {W : Int} {zs : List Int} {s : Int} (h : wire W zs s = true) : usedN W zs s = used zs s zs.length := by unfold usedN; rw [if_pos h]
theorem usedN_no {W : Int} {zs : List Int} {s : Int} (h : wire W zs s = false) : usedN W zs s = [] := by unfold usedN; rw [h]; rfl
theorem usedN_len (W : Int) (zs : List Int) (s : Int) : (usedN W zs s).length ≤ 1000 := by
  rcases h : wire W zs s with _ | _
  · rw [usedN_no h]; simp
  · rw [usedN_yes h]
    have := (lad_iff.1 (wire_iff.1 h).1).2.1
    have := used_len zs s zs.length
    omega

set_option maxRecDepth 100000 in
set_option maxHeartbeats 4000000 in
theorem sRungsUsed_any (W : Int) (A : Option Addr) (n c : Nat) (zs : List Int) (s : Int) (w : World) (h : RI w A n zs) (hn : n ≤ 1048576) :
    Calls Try.prog 11 #[.agg #[.int .i64 W, .slice A n c], .int .i64 s] w (FreshIB w (usedN W zs s).length (usedN W zs s) (wire W zs s)) := by
  rcases hq : wire W zs s with _ | _
  · rw [usedN_no hq]
    have HW := Lib.hid hq
    clear hq
    go_enter Try.func11, Try.ntmps11
    go_wp2_with fail
    have HB := belAlloc (belRefl (w := w)) (.cells #[.int .i64 W, .slice A n c] 26)
    refine (laWire_any W A n c zs s _ (h.alloc _) hn).mono ?_
    rw [HW.out]
    rintro e w1 ⟨rfl, hb⟩
    replace HB := belStep HB hb
    clear hb h
    go_wp2
    go_ret2
    exact ⟨none, 0, rfl, OI.none_ _ _, HB.out⟩
  · rw [usedN_yes hq]
    have hzl := h.1
    have HZL := Lib.hid h.1
    rw [hzl]
    have HW := Lib.hid hq
    have HWI := Lib.hid (Wires.of hq)
    clear hq hzl
    go_enter Try.func11, Try.ntmps11
    go_wp2_with fail
    have HA := boxNew (W := W) (c := c) 26 h
    have HB := belAlloc (belRefl (w := w)) (.cells #[.int .i64 W, .slice A n c] 26)
    refine (laWire_any W A n c zs s _ (h.alloc _) hn).mono ?_
    rw [HW.out]
    rintro e w1 ⟨rfl, hb⟩
    replace HA := boxStep HA hb; replace HB := belStep HB hb; have a0 := HA.out.c0; have a1 := HA.out.c1; have az := HA.out.lt
    clear hb h
    go_wp2_with fail
    refine (laDown_any A n c zs s _ HA.out.ri hn HWI.out).mono ?_
    rintro e w2 ⟨A2, c2, rfl, ho, hb⟩
    obtain ⟨g, rfl, _, hg, hcg⟩ := ho.some_
    have HG := Lib.hid hcg
    clear ho hcg
    replace HA := boxStep HA hb; replace HB := belStep HB hb; replace a0 := HA.out.c0; replace a1 := HA.out.c1; replace az := HA.out.lt; clear hb
    have HZ := Lib.hid HB.out.size
    go_wp2
    go_loopw [7, 8, 20] (fun v _ i wr => ∃ (k : Nat) (A1 : Option Addr) (c1 : Nat), k ≤ n ∧ i = .int .i64 k ∧ v = .slice A1 (used zs s k).length c1 ∧ OI wr w2.heap.size A1 (used zs s k).length c1 (used zs s k) ∧ Below w2.heap.size w2 wr) (fun _ _ i _ => n - (intOf i).toNat)
    case atStart => exact ⟨0, none, 0, Nat.zero_le _, rfl, rfl, OI.none_ _ _, Below.refl _ _⟩
    case round =>
      obtain ⟨k, A1, c1, hk, rfl, rfl, ho, hb⟩ := hrel
      have HO := Lib.hid ho
      have H2 := Lib.hid hb
      have hul := used_len zs s k
      by_cases hlt : k < n
      · have ck : wr.cell? ⟨g, k, none⟩ = some (.int .i64 (at_ zs s k)) := (hb.cell (p := ⟨g, k, none⟩) hg).trans (by rw [HG.out k (by omega), gi_down _ _ _ (by rw [HZL.out]; omega)])
        have ck1 : wr.cell? ⟨g, k + 1, none⟩ = some (.int .i64 (at_ zs s (k + 1))) := (hb.cell (p := ⟨g, k + 1, none⟩) hg).trans (by rw [HG.out (k + 1) (by omega), gi_down _ _ _ (by rw [HZL.out]; omega)])
        clear ho hb a0 a1
        by_cases he : at_ zs s k = at_ zs s (k + 1)
        · have e1 : (at_ zs s k != at_ zs s (k + 1)) = false := by simp [he]
          have HU := Lib.hid (used_same he)
          clear he
          go_wp2
          go_quiet (fail)
          go_wp2
          go_roundw
          case rel => exact ⟨k + 1, A1, c1, by omega, by go_num, by rw [← HU.out], by rw [← HU.out]; exact HO.out.drewN _, below_drewN H2.out _⟩
          case measure => simp [intOf]; omega
        · have e1 : (at_ zs s k != at_ zs s (k + 1)) = true := by simp [he]
          have HU := Lib.hid (used_over he)
          have HUL : Hid ((used zs s k).length + 1 = (used zs s (k + 1)).length) := by show (used zs s k).length + 1 = (used zs s (k + 1)).length; rw [← HU.out]; simp
          clear he
          go_wp2
          go_quiet (fail)
          obtain ⟨wd, hwd⟩ : ∃ wd, wd = wr.drewN nq := ⟨_, rfl⟩
          have HO' : Hid (OI wd w2.heap.size A1 (used zs s k).length c1 (used zs s k)) := by rw [hwd]; exact HO.out.drewN nq
          have H2' : Hid (Below w2.heap.size w2 wd) := by rw [hwd]; exact below_drewN H2.out nq
          rw [← hwd]
          clear hwd
          go_wp2_with (at_builtin; refine wpList_append_int _ rfl _ _ rfl w2.heap.size A1 (used zs s k).length c1 _ (k : Int) wd.heap.size rfl rfl (HO'.out.alloc _) (by simp) (by omega) (by have := H2'.out.size; simp; omega) ?_; intro A3 c3 w3 ho3 hg3)
          go_roundw
          case rel =>
            refine ⟨k + 1, A3, c3, by omega, by go_num, by rw [← HUL.out], by rw [← HUL.out, ← HU.out]; exact ho3, belStep' H2' HO'.out hg3⟩
          case measure => simp [intOf]; omega
      · obtain rfl : k = n := by omega
        clear ho hb
        go_wp2
        go_ret2
        exact ⟨A1, c1, rfl, HO.out.mono HZ.out, HB.out.trans (H2.out.mono HZ.out)⟩

set_option maxRecDepth 100000 in
set_option maxHeartbeats 4000000 in
theorem iRungsUsed_any (W : Int) (A : Option Addr) (n c : Nat) (zs : List Int) (s : Int) (w : World) (h : RI w A n zs) (hn : n ≤ 1048576) :
    Calls Try.prog 10 #[.agg #[.int .i64 W, .slice A n c], .int .i64 s] w (FreshIB w (usedN W zs s).length (usedN W zs s) (wire W zs s)) := by
  rcases hq : wire W zs s with _ | _
  · rw [usedN_no hq]
    have HW := Lib.hid hq
    clear hq
    go_enter Try.func10, Try.ntmps10
    go_wp2_with fail
    have HB := belAlloc (belRefl (w := w)) (.cells #[.int .i64 W, .slice A n c] 26)
    refine (isStart_any W A n c zs s _ (h.alloc _) hn).mono ?_
    rw [HW.out]
    rintro e w1 ⟨rfl, hb⟩
    replace HB := belStep HB hb
    clear hb h
    go_wp2
    go_ret2
    exact ⟨none, 0, rfl, OI.none_ _ _, HB.out⟩
  · rw [usedN_yes hq]
    have hzl := h.1
    have HZL := Lib.hid h.1
    rw [hzl]
    have HW := Lib.hid hq
    have HWI := Lib.hid (Wires.of hq)
    clear hq hzl
    go_enter Try.func10, Try.ntmps10
    go_wp2_with fail
    have HA := boxNew (W := W) (c := c) 26 h
    have HB := belAlloc (belRefl (w := w)) (.cells #[.int .i64 W, .slice A n c] 26)
    refine (isStart_any W A n c zs s _ (h.alloc _) hn).mono ?_
    rw [HW.out]
    rintro e w1 ⟨rfl, hb⟩
    replace HA := boxStep HA hb; replace HB := belStep HB hb; have a0 := HA.out.c0; have a1 := HA.out.c1; have az := HA.out.lt
    clear hb h
    go_wp2_with fail
    refine (wayDown_any A n c zs s _ HA.out.ri hn HWI.out).mono ?_
    rintro e w2 ⟨A2, c2, rfl, ho, hb⟩
    obtain ⟨g, rfl, _, hg, hcg⟩ := ho.some_
    have HG := Lib.hid hcg
    clear ho hcg
    replace HA := boxStep HA hb; replace HB := belStep HB hb; replace a0 := HA.out.c0; replace a1 := HA.out.c1; replace az := HA.out.lt; clear hb
    have HZ := Lib.hid HB.out.size
    go_wp2
    go_loopw [6, 8, 20] (fun v _ i wr => ∃ (k : Nat) (A1 : Option Addr) (c1 : Nat), k ≤ n ∧ i = .int .i64 k ∧ v = .slice A1 (used zs s k).length c1 ∧ OI wr w2.heap.size A1 (used zs s k).length c1 (used zs s k) ∧ Below w2.heap.size w2 wr) (fun _ _ i _ => n - (intOf i).toNat)
    case atStart => exact ⟨0, none, 0, Nat.zero_le _, rfl, rfl, OI.none_ _ _, Below.refl _ _⟩
    case round =>
      obtain ⟨k, A1, c1, hk, rfl, rfl, ho, hb⟩ := hrel
      have HO := Lib.hid ho
      have H2 := Lib.hid hb
      have hul := used_len zs s k
      by_cases hlt : k < n
      · have ck : wr.cell? ⟨g, k, none⟩ = some (.int .i64 (at_ zs s k)) := (hb.cell (p := ⟨g, k, none⟩) hg).trans (by rw [HG.out k (by omega), gi_down _ _ _ (by rw [HZL.out]; omega)])
        have ck1 : wr.cell? ⟨g, k + 1, none⟩ = some (.int .i64 (at_ zs s (k + 1))) := (hb.cell (p := ⟨g, k + 1, none⟩) hg).trans (by rw [HG.out (k + 1) (by omega), gi_down _ _ _ (by rw [HZL.out]; omega)])
        clear ho hb a0 a1
        by_cases he : at_ zs s k = at_ zs s (k + 1)
        · have e1 : (at_ zs s k != at_ zs s (k + 1)) = false := by simp [he]
          have HU := Lib.hid (used_same he)
          clear he
          go_wp2
          go_quiet (fail)
          go_wp2
          go_roundw
          case rel => exact ⟨k + 1, A1, c1, by omega, by go_num, by rw [← HU.out], by rw [← HU.out]; exact HO.out.drewN _, below_drewN H2.out _⟩
          case measure => simp [intOf]; omega
        · have e1 : (at_ zs s k != at_ zs s (k + 1)) = true := by simp [he]
          have HU := Lib.hid (used_over he)
          have HUL : Hid ((used zs s k).length + 1 = (used zs s (k + 1)).length) := by show (used zs s k).length + 1 = (used zs s (k + 1)).length; rw [← HU.out]; simp
          clear he
          go_wp2
          go_quiet (fail)
          obtain ⟨wd, hwd⟩ : ∃ wd, wd = wr.drewN nq := ⟨_, rfl⟩
          have HO' : Hid (OI wd w2.heap.size A1 (used zs s k).length c1 (used zs s k)) := by rw [hwd]; exact HO.out.drewN nq
          have H2' : Hid (Below w2.heap.size w2 wd) := by rw [hwd]; exact below_drewN H2.out nq
          rw [← hwd]
          clear hwd
          go_wp2_with (at_builtin; refine wpList_append_int _ rfl _ _ rfl w2.heap.size A1 (used zs s k).length c1 _ (k : Int) wd.heap.size rfl rfl (HO'.out.alloc _) (by simp) (by omega) (by have := H2'.out.size; simp; omega) ?_; intro A3 c3 w3 ho3 hg3)
          go_roundw
          case rel =>
            refine ⟨k + 1, A3, c3, by omega, by go_num, by rw [← HUL.out], by rw [← HUL.out, ← HU.out]; exact ho3, belStep' H2' HO'.out hg3⟩
          case measure => simp [intOf]; omega
      · obtain rfl : k = n := by omega
        clear ho hb
        go_wp2
        go_ret2
        exact ⟨A1, c1, rfl, HO.out.mono HZ.out, HB.out.trans (H2.out.mono HZ.out)⟩
end Go.Proofs.Ytgadfjfokgodgaa
