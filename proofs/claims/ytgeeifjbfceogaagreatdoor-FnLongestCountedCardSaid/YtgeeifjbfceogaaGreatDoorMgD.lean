/- The contracts of the functions that look whether there is a ladder, of the program and of its model. The contracts of the functions that go down a ladder. The contracts of the program's own way down. The contracts of EndOf and WayDown, of the program and of its model. EndOf and WayDown for every argument. -/
import Derived.Test.YtgeeifjbfceogaaGreatDoorMgA
import Derived.Test.YtgeeifjbfceogaaGreatDoorMgC
import Derived.Test.YtgeeifjbfceogaaGreatDoorMgB
import Derived.WalkMore
import Derived.Deep.LoopGhost
import Derived.Deep.DeepMust
import Derived.Deep.RegionWith
namespace Go.Proofs.YtgeeifjbfceogaaGreatDoor
open Go Go.RowKit

/-- a value, and the world as it was -/
def SameB (b : Bool) (w : World) (e : Ending) (w' : World) : Prop := e = .returned (.bool b) ∧ w = w'
def SameI (n : Int) (w : World) (e : Ending) (w' : World) : Prop := e = .returned (.int .i64 n) ∧ w = w'

theorem l1In_any (n lo hi : Int) (w : World) : Calls Tryz.prog 52 #[.int .i64 n, .int .i64 lo, .int .i64 hi] w (SameB (inB n lo hi) w) := by
  by_cases h1 : lo ≤ n
  · by_cases h2 : n ≤ hi
    · go_enter Tryz.func52, Tryz.ntmps52
      go_wp2
      go_ret
      exact ⟨ret_b (inB_true ⟨h1, h2⟩).symm, rfl⟩
    · go_enter Tryz.func52, Tryz.ntmps52
      go_wp2
      go_ret
      exact ⟨ret_b (inB_false (by omega)).symm, rfl⟩
  · go_enter Tryz.func52, Tryz.ntmps52
    go_wp2
    go_ret
    exact ⟨ret_b (inB_false (by omega)).symm, rfl⟩

set_option maxHeartbeats 400000 in
theorem l1All_any (A : Option Addr) (n c : Nat) (zs : List Int) (lo hi : Int) (w : World) (h : RI w A n zs) (hn : n ≤ 1048576) :
    Calls Tryz.prog 96 #[.slice A n c, .int .i64 lo, .int .i64 hi] w (SameB (allIn zs lo hi) w) := by
  go_enter Tryz.func96, Tryz.ntmps96
  go_wp2
  go_loop [8, 11] (fun _ i => ∃ k : Nat, k ≤ n ∧ i = .int .i64 k ∧ ∀ j, j < k → inB (gi zs j) lo hi = true) (fun _ i => n - (intOf i).toNat)
  case atStart => exact ⟨0, Nat.zero_le _, rfl, fun j hj => absurd hj (by omega)⟩
  case round =>
    obtain ⟨k, hk, rfl, hall⟩ := hrel
    have H3 := Lib.hid hall
    clear hall
    by_cases hlt : k < n
    · obtain ⟨b, off, rfl, hbw, hc⟩ := h.cell hlt
      have hck := hc k hlt
      clear hc
      obtain ⟨q, hq⟩ : ∃ q, q = inB (gi zs k) lo hi := ⟨_, rfl⟩
      have HQ := Lib.hid hq
      clear hq
      go_wp2_with (go_at_call 52; refine (l1In_any _ _ _ _).mono ?_; rw [← HQ.out]; rintro e w' ⟨rfl, rfl⟩; cases q)
      · go_ret
        exact ⟨ret_b (allIn_false (by rw [h.1]; exact hlt) HQ.out.symm).symm, rfl⟩
      · go_round
        case rel =>
          refine ⟨k + 1, by omega, by go_num, fun j hj => ?_⟩
          by_cases e : j = k
          · rw [e]; exact HQ.out.symm
          · exact H3.out j (by omega)
        case measure => simp [intOf]; omega
    · obtain rfl : k = n := by omega
      go_wp2
      go_ret
      exact ⟨ret_b (allIn_true (by rw [h.1]; exact H3.out)).symm, rfl⟩

set_option maxHeartbeats 400000 in
theorem laGood_any (W : Int) (A : Option Addr) (n c : Nat) (zs : List Int) (w : World) (h : RI w A n zs) (hn : n ≤ 1048576) :
    Calls Tryz.prog 81 #[.agg #[.int .i64 W, .slice A n c]] w (RetB (lad W zs) w) := by
  have hl := h.1
  rcases h1 : inB W 2 8 with _ | _
  · have H1 := Lib.hid h1
    clear h1
    go_enter Tryz.func81, Tryz.ntmps81
    go_wp2_with (go_at_call 52; refine (l1In_any _ _ _ _).mono ?_; rw [H1.out]; rintro e w' ⟨rfl, rfl⟩)
    go_ret
    exact ⟨ret_b (lad_no1 H1.out).symm, (by repeat (first | exact Below.refl _ _ | exact HB.out | refine Below.setCell ?_ (by simp <;> omega) _ | refine Below.alloc ?_ (by simp <;> omega) _ | refine below_drewN ?_ _))⟩
  · have hW := inB_iff.1 h1
    have H1 := Lib.hid h1
    clear h1
    by_cases h2 : n ≤ 60
    · have E := Lib.hid (lad_yes H1.out (by omega : zs.length ≤ 60))
      obtain ⟨q, hq⟩ : ∃ q, q = allIn zs 0 (W - 2) := ⟨_, rfl⟩
      have HQ := Lib.hid hq
      clear hq
      have HL := Lib.hid hl
      clear hl
      go_enter Tryz.func81, Tryz.ntmps81
      go_wp2_with (first
        | (go_at_call 52; refine (l1In_any _ _ _ _).mono ?_; rw [H1.out]; rintro e w' ⟨rfl, rfl⟩)
        | (go_at_call 96; refine (l1All_any A n c zs 0 (W - 2) _ (h.alloc _) hn).mono ?_; rw [← HQ.out]; rintro e w' ⟨rfl, rfl⟩))
      go_ret
      exact ⟨ret_b (by rw [E.out, ← HQ.out]), (by repeat (first | exact Below.refl _ _ | exact HB.out | refine Below.setCell ?_ (by simp <;> omega) _ | refine Below.alloc ?_ (by simp <;> omega) _ | refine below_drewN ?_ _))⟩
    · go_enter Tryz.func81, Tryz.ntmps81
      go_wp2_with (go_at_call 52; refine (l1In_any _ _ _ _).mono ?_; rw [H1.out]; rintro e w' ⟨rfl, rfl⟩)
      go_ret
      exact ⟨ret_b (lad_no2 (by omega)).symm, (by repeat (first | exact Below.refl _ _ | exact HB.out | refine Below.setCell ?_ (by simp <;> omega) _ | refine Below.alloc ?_ (by simp <;> omega) _ | refine below_drewN ?_ _))⟩

set_option maxHeartbeats 400000 in
theorem iIsLadder_any (W : Int) (A : Option Addr) (n c : Nat) (zs : List Int) (w : World) (h : RI w A n zs) (hn : n ≤ 1048576) :
    Calls Tryz.prog 85 #[.agg #[.int .i64 W, .slice A n c]] w (RetB (lad W zs) w) := by
  have hl := h.1
  by_cases h1 : 2 ≤ W
  · by_cases h1' : W ≤ 8
    · by_cases h2 : n ≤ 60
      · have E := Lib.hid (lad_yes (inB_true ⟨h1, h1'⟩) (by omega : zs.length ≤ 60))
        have HL := Lib.hid hl
        clear hl
        go_enter Tryz.func85, Tryz.ntmps85
        go_wp2
        go_loop [4, 22] (fun _ i => ∃ k : Nat, k ≤ n ∧ i = .int .i64 k ∧ ∀ j, j < k → inB (gi zs j) 0 (W - 2) = true) (fun _ i => n - (intOf i).toNat)
        case atStart => exact ⟨0, Nat.zero_le _, rfl, fun j hj => absurd hj (by omega)⟩
        case round =>
          obtain ⟨k, hk, rfl, hall⟩ := hrel
          have H3 := Lib.hid hall
          clear hall
          by_cases hlt : k < n
          · obtain ⟨b, off, rfl, hbw, hc⟩ := h.cell hlt
            have hck : (w.alloc (.cells #[.int .i64 W, .slice (some ⟨b, off, none⟩) n c] 44)).cell? ⟨b, off + k, none⟩ = some (.int .i64 (gi zs k)) := (World.cell?_alloc_past _ _ _ hbw).trans (hc k hlt)
            clear hc h
            by_cases g1 : 0 ≤ gi zs k
            · by_cases g2 : gi zs k ≤ W - 2
              · go_wp2
                go_round
                case rel =>
                  refine ⟨k + 1, by omega, by go_num, fun j hj => ?_⟩
                  by_cases e : j = k
                  · rw [e]; exact inB_true ⟨g1, g2⟩
                  · exact H3.out j (by omega)
                case measure => simp [intOf]; omega
              · go_wp2
                go_ret
                exact ⟨ret_b (by rw [E.out, allIn_false (j := k) (by rw [HL.out]; exact hlt) (inB_false (by omega))]), (by repeat (first | exact Below.refl _ _ | exact HB.out | refine Below.setCell ?_ (by simp <;> omega) _ | refine Below.alloc ?_ (by simp <;> omega) _ | refine below_drewN ?_ _))⟩
            · go_wp2
              go_ret
              exact ⟨ret_b (by rw [E.out, allIn_false (j := k) (by rw [HL.out]; exact hlt) (inB_false (by omega))]), (by repeat (first | exact Below.refl _ _ | exact HB.out | refine Below.setCell ?_ (by simp <;> omega) _ | refine Below.alloc ?_ (by simp <;> omega) _ | refine below_drewN ?_ _))⟩
          · obtain rfl : k = n := by omega
            go_wp2
            go_ret
            exact ⟨ret_b (by rw [E.out, allIn_true (by rw [HL.out]; exact H3.out)]), (by repeat (first | exact Below.refl _ _ | exact HB.out | refine Below.setCell ?_ (by simp <;> omega) _ | refine Below.alloc ?_ (by simp <;> omega) _ | refine below_drewN ?_ _))⟩
      · go_enter Tryz.func85, Tryz.ntmps85
        go_wp2
        go_ret
        exact ⟨ret_b (lad_no2 (by omega)).symm, (by repeat (first | exact Below.refl _ _ | exact HB.out | refine Below.setCell ?_ (by simp <;> omega) _ | refine Below.alloc ?_ (by simp <;> omega) _ | refine below_drewN ?_ _))⟩
    · go_enter Tryz.func85, Tryz.ntmps85
      go_wp2
      go_ret
      exact ⟨ret_b (lad_no1 (inB_false (by omega))).symm, (by repeat (first | exact Below.refl _ _ | exact HB.out | refine Below.setCell ?_ (by simp <;> omega) _ | refine Below.alloc ?_ (by simp <;> omega) _ | refine below_drewN ?_ _))⟩
  · go_enter Tryz.func85, Tryz.ntmps85
    go_wp2
    go_ret
    exact ⟨ret_b (lad_no1 (inB_false (by omega))).symm, (by repeat (first | exact Below.refl _ _ | exact HB.out | refine Below.setCell ?_ (by simp <;> omega) _ | refine Below.alloc ?_ (by simp <;> omega) _ | refine below_drewN ?_ _))⟩

end Go.Proofs.YtgeeifjbfceogaaGreatDoor
namespace Go.Proofs.YtgeeifjbfceogaaGreatDoor
open Go Go.RowKit

theorem over_1 {s r : Int} (h : s = r) : r + 1 = over s r := by unfold over; rw [if_pos h]
theorem over_2 {s r : Int} (h : s ≠ r) (h2 : s = r + 1) : r = over s r := by unfold over; rw [if_neg h, if_pos h2]
theorem over_3 {s r : Int} (h : s ≠ r) (h2 : s ≠ r + 1) : s = over s r := by unfold over; rw [if_neg h, if_neg h2]

theorem laOver_any (s r : Int) (w : World) (hr : -1000 ≤ r ∧ r ≤ 1000) :
    Calls Tryz.prog 97 #[.int .i64 s, .int .i64 r] w (SameI (over s r) w) := by
  by_cases h1 : s = r
  · have e1 : (s == r) = true := beq_iff_eq.2 h1
    have H1 := Lib.hid (over_1 h1)
    clear h1
    go_enter Tryz.func97, Tryz.ntmps97
    go_wp2
    go_ret
    exact ⟨ret_i H1.out, rfl⟩
  · have e1 : (s == r) = false := beq_eq_false_iff_ne.2 h1
    by_cases h2 : s = r + 1
    · have e2 : (s == r + 1) = true := beq_iff_eq.2 h2
      have H1 := Lib.hid (over_2 h1 h2)
      clear h1 h2
      go_enter Tryz.func97, Tryz.ntmps97
      go_wp2
      go_ret
      exact ⟨ret_i H1.out, rfl⟩
    · have e2 : (s == r + 1) = false := beq_eq_false_iff_ne.2 h2
      have H1 := Lib.hid (over_3 h1 h2)
      clear h1 h2
      go_enter Tryz.func97, Tryz.ntmps97
      go_wp2
      go_ret
      exact ⟨ret_i H1.out, rfl⟩

/-- what a way down wants of the rungs and of the start -/
def Wires (zs : List Int) (s : Int) : Prop := ∃ W : Int, W ≤ 8 ∧ (∀ j, j < zs.length → 0 ≤ gi zs j ∧ gi zs j ≤ W - 2) ∧ 0 ≤ s ∧ s ≤ W - 1
theorem Wires.at {zs : List Int} {s : Int} (h : Wires zs s) {k : Nat} (hk : k ≤ zs.length) : 0 ≤ at_ zs s k ∧ at_ zs s k ≤ 7 := by
  obtain ⟨W, hW, hz, hs⟩ := h
  have := at_le hz hs k hk
  omega
theorem Wires.rung {zs : List Int} {s : Int} (h : Wires zs s) {k : Nat} (hk : k < zs.length) : 0 ≤ gi zs k ∧ gi zs k ≤ 6 := by
  obtain ⟨W, hW, hz, hs⟩ := h
  have := hz k hk
  omega
theorem Wires.of {W : Int} {zs : List Int} {s : Int} (h : wire W zs s = true) : Wires zs s :=
  ⟨W, by have := (lad_iff.1 (wire_iff.1 h).1).1; omega, fun _ hj => lad_at (wire_iff.1 h).1 hj, (wire_iff.1 h).2⟩

set_option maxHeartbeats 1000000 in
theorem laDown_any (A : Option Addr) (n c : Nat) (zs : List Int) (s : Int) (w : World) (h : RI w A n zs) (hn : n ≤ 1048576) (hw : Wires zs s) :
    Calls Tryz.prog 82 #[.slice A n c, .int .i64 s] w (FreshI w (n + 1) (down zs s)) := by
  have hl := h.1
  have HD : Hid ((down zs s).take 1 = [at_ zs s 0]) := by
    show (down zs s).take 1 = [at_ zs s 0]
    rw [down_take _ _ _ (Nat.zero_le _)]; rfl
  go_enter Tryz.func82, Tryz.ntmps82
  go_wp2
  go_loopw [1, 5, 7, 12] (fun s1 v _ i wr => ∃ (k : Nat) (A1 : Option Addr) (c1 : Nat), k ≤ n ∧ i = .int .i64 k ∧ s1 = .int .i64 (at_ zs s k) ∧ v = .slice A1 (k + 1) c1 ∧ OI wr w.heap.size A1 (k + 1) c1 ((down zs s).take (k + 1)) ∧ Below w.heap.size w wr) (fun _ _ _ i _ => n - (intOf i).toNat)
  case atStart =>
    refine ⟨0, _, _, Nat.zero_le _, rfl, by rw [at_zero], rfl, ?_, (Below.refl _ _).alloc (Nat.le_refl _) _⟩
    rw [HD.out, at_zero]
    exact ⟨rfl, World.ownsRow_lit _ _ _ (Nat.le_refl _) (by decide) rfl⟩
  case round =>
    obtain ⟨k, A1, c1, hk, rfl, rfl, rfl, ho, hb⟩ := hrel
    by_cases hlt : k < n
    · obtain ⟨b, off, rfl, hbw, hc⟩ := h.cell hlt
      have hck : wr.cell? ⟨b, off + k, none⟩ = some (.int .i64 (gi zs k)) := (hb.cell (p := ⟨b, off + k, none⟩) hbw).trans (hc k hlt)
      have g1 := hw.rung (k := k) (by omega)
      have g2 := hw.at (k := k) (by omega)
      have HS := Lib.hid (at_succ zs s k (by omega))
      have HT := Lib.hid (down_take zs s (k + 1) (by omega))
      have HO := Lib.hid ho
      have HB := Lib.hid hb
      clear hc h hb ho
      go_wp2_with (first
        | (go_at_call 97; refine (laOver_any _ _ _ (by omega)).mono ?_; rw [← HS.out]; rintro e w' ⟨rfl, rfl⟩)
        | (at_builtin; refine wpList_append_int _ rfl _ _ rfl w.heap.size A1 (k + 1) c1 _ (at_ zs s (k + 1)) wr.heap.size rfl rfl (HO.out.alloc _) (by simp) (by omega) (by have := HB.out.size; simp; omega) ?_; intro A2 c2 w2 ho2 hg2))
      go_roundw
      case rel =>
        refine ⟨k + 1, A2, c2, by omega, by go_num, rfl, rfl, ?_, ?_⟩
        · rw [HT.out]; exact ho2
        · exact (belGrown (belAlloc HB _) (HO.out.alloc _) hg2 (Nat.le_refl _)).out
      case measure => simp [intOf]; omega
    · obtain rfl : k = n := by omega
      have HB := Lib.hid hb
      have HO := Lib.hid ho
      clear hb ho
      go_wp2
      go_ret
      refine ⟨A1, c1, rfl, ?_, HB.out⟩
      have e : (down zs s).take (k + 1) = down zs s := List.take_of_length_le (by rw [down_length]; omega)
      have := HO.out
      rwa [e] at this
end Go.Proofs.YtgeeifjbfceogaaGreatDoor
namespace Go.Proofs.YtgeeifjbfceogaaGreatDoor
open Go Go.RowKit

theorem belStep' {w wr w2 : World} {A : Option Addr} {n c : Nat} {zs : List Int} {o : Obj} (HB : Hid (Below w.heap.size w wr)) (HO : OI wr w.heap.size A n c zs) (hg : (wr.alloc o).grownBy w2 (blk A)) : Below w.heap.size w w2 :=
  (belGrown (belAlloc HB o) (HO.alloc o) hg (Nat.le_refl _)).out

set_option maxRecDepth 100000 in
set_option maxHeartbeats 4000000 in
theorem wayDown_any (A : Option Addr) (n c : Nat) (zs : List Int) (s : Int) (w : World) (h : RI w A n zs) (hn : n ≤ 1048576) (hw : Wires zs s) :
    Calls Tryz.prog 108 #[.slice A n c, .int .i64 s] w (FreshI w (n + 1) (down zs s)) := by
  obtain ⟨i0, hi0, hz0, hz1, hz2⟩ := info_parts infoInt
  have hl := h.1
  go_enter Tryz.func108, Tryz.ntmps108
  go_wp2
  go_step3
  go_wp2_with (at_make; go_must (refine wpList_make_own _ rfl _ _ 22 rfl w.heap.size 3 i0 (.int .i64 0) 1 Tryz.underlying22 hi0 hz0 hz1 _ _ _ (n + 1) rfl rfl (by omega) (by rw [hz2]; omega) (by unfold maxLen; omega) (Nat.le_refl _) ?_); intro w1 ho1 hg1)
  have hb1 : Below w.heap.size w w1 := ⟨hg1.os, hg1.tape, hg1.output, hg1.size, fun k hk => hg1.block k hk (by simp)⟩
  have ho1' : OI w1 w.heap.size (some ⟨w.heap.size, 0, none⟩) 0 (n + 1) [] := ⟨rfl, ho1⟩
  clear ho1 hg1
  go_step3
  go_wp2
  go_loopg [5, 6, 7] n (fun g s1 v d wr => ∃ (k : Nat) (A1 : Option Addr) (c1 : Nat), k ≤ n ∧ g = n - k ∧ d = .int .i64 k ∧ s1 = .int .i64 (at_ zs s k) ∧ v = .slice A1 k c1 ∧ OI wr w.heap.size A1 k c1 ((down zs s).take k) ∧ Below w.heap.size w wr)
  case atStart =>
    exact ⟨0, _, _, Nat.zero_le _, rfl, rfl, by rw [at_zero], rfl, ho1', hb1⟩
  case round =>
    obtain ⟨k, A1, c1, hk, rfl, rfl, rfl, rfl, ho, hb⟩ := hrel
    have HT := Lib.hid (down_take zs s k (by omega))
    have HO := Lib.hid ho
    have HB := Lib.hid hb
    have g2 := hw.at (k := k) (by omega)
    by_cases hlt : k < n
    · obtain ⟨b, off, rfl, hbw, hc⟩ := h.cell hlt
      have hck : wr.cell? ⟨b, off + k, none⟩ = some (.int .i64 (gi zs k)) := (hb.cell (p := ⟨b, off + k, none⟩) hbw).trans (hc k hlt)
      have g1 := hw.rung (k := k) (by omega)
      have HS := Lib.hid (at_succ zs s k (by omega))
      have hc0 := hc k hlt
      clear hc h hb ho ho1' hb1
      have hover : at_ zs s (k + 1) = over (at_ zs s k) (gi zs k) := HS.out
      by_cases h1 : at_ zs s k = gi zs k
      · have e1 : (at_ zs s k == gi zs k) = true := beq_iff_eq.2 h1
        have H1 : Hid (at_ zs s (k + 1) = at_ zs s k + 1) := by show at_ zs s (k + 1) = at_ zs s k + 1; rw [hover, ← over_1 h1, h1]
        clear h1 hover
        go_wp2_with (at_builtin; refine wpList_append_int _ rfl _ _ rfl w.heap.size A1 k c1 _ (at_ zs s k) wr.heap.size rfl rfl (HO.out.alloc _) (by simp) (by omega) (by have := HB.out.size; simp; omega) ?_; intro A2 c2 w2 ho2 hg2; have hck2 : w2.cell? ⟨b, off + k, none⟩ = some (.int .i64 (gi zs k)) := ((belStep' HB HO.out hg2).cell (p := ⟨b, off + k, none⟩) hbw).trans hc0)
        go_roundg (n - (k + 1))
        case rel => exact ⟨k + 1, A2, c2, by omega, rfl, by go_num, by rw [H1.out], rfl, by rw [HT.out]; exact ho2, (belStep' HB HO.out hg2)⟩
        case measure => omega
      · have e1 : (at_ zs s k == gi zs k) = false := beq_eq_false_iff_ne.2 h1
        by_cases h2 : at_ zs s k = gi zs k + 1
        · have e2 : (at_ zs s k == gi zs k + 1) = true := beq_iff_eq.2 h2
          have H1 : Hid (at_ zs s (k + 1) = at_ zs s k - 1) := by show at_ zs s (k + 1) = at_ zs s k - 1; rw [hover, ← over_2 h1 h2]; omega
          clear h1 h2 hover
          go_wp2_with (at_builtin; refine wpList_append_int _ rfl _ _ rfl w.heap.size A1 k c1 _ (at_ zs s k) wr.heap.size rfl rfl (HO.out.alloc _) (by simp) (by omega) (by have := HB.out.size; simp; omega) ?_; intro A2 c2 w2 ho2 hg2; have hck2 : w2.cell? ⟨b, off + k, none⟩ = some (.int .i64 (gi zs k)) := ((belStep' HB HO.out hg2).cell (p := ⟨b, off + k, none⟩) hbw).trans hc0)
          go_roundg (n - (k + 1))
          case rel => exact ⟨k + 1, A2, c2, by omega, rfl, by go_num, by rw [H1.out], rfl, by rw [HT.out]; exact ho2, (belStep' HB HO.out hg2)⟩
          case measure => omega
        · have e2 : (at_ zs s k == gi zs k + 1) = false := beq_eq_false_iff_ne.2 h2
          have H1 : Hid (at_ zs s (k + 1) = at_ zs s k) := by show at_ zs s (k + 1) = at_ zs s k; rw [hover, ← over_3 h1 h2]
          clear h1 h2 hover
          go_wp2_with (at_builtin; refine wpList_append_int _ rfl _ _ rfl w.heap.size A1 k c1 _ (at_ zs s k) wr.heap.size rfl rfl (HO.out.alloc _) (by simp) (by omega) (by have := HB.out.size; simp; omega) ?_; intro A2 c2 w2 ho2 hg2; have hck2 : w2.cell? ⟨b, off + k, none⟩ = some (.int .i64 (gi zs k)) := ((belStep' HB HO.out hg2).cell (p := ⟨b, off + k, none⟩) hbw).trans hc0)
          go_roundg (n - (k + 1))
          case rel => exact ⟨k + 1, A2, c2, by omega, rfl, by go_num, by rw [H1.out], rfl, by rw [HT.out]; exact ho2, (belStep' HB HO.out hg2)⟩
          case measure => omega
    · obtain rfl : k = n := by omega
      clear hb ho ho1' hb1
      go_wp2_with (at_builtin; refine wpList_append_int _ rfl _ _ rfl w.heap.size A1 k c1 _ (at_ zs s k) wr.heap.size rfl rfl (HO.out.alloc _) (by simp) (by omega) (by have := HB.out.size; simp; omega) ?_; intro A2 c2 w2 ho2 hg2)
      rw [Exit.noGoto_ret]
      go_ret
      refine ⟨A2, c2, rfl, ?_, belStep' HB HO.out hg2⟩
      have e : (down zs s).take (k + 1) = down zs s := List.take_of_length_le (by rw [down_length]; omega)
      rw [← e, HT.out]
      exact ho2
end Go.Proofs.YtgeeifjbfceogaaGreatDoor
namespace Go.Proofs.YtgeeifjbfceogaaGreatDoor
open Go Go.RowKit

def RetIB (n : Int) (b : Bool) (w : World) (e : Ending) (w' : World) : Prop := e = .returned (.tuple #[.int .i64 n, .bool b]) ∧ Below w.heap.size w w'
def FreshIB (w : World) (n : Nat) (zs : List Int) (b : Bool) (e : Ending) (w' : World) : Prop :=
  ∃ A c, e = .returned (.tuple #[.slice A n c, .bool b]) ∧ OI w' w.heap.size A n c zs ∧ Below w.heap.size w w'

theorem OI.some_ {w : World} {B : Nat} {A : Option Addr} {n c : Nat} {zs : List Int} (h : OI w B A (n + 1) c zs) :
    ∃ g, A = some ⟨g, 0, none⟩ ∧ B ≤ g ∧ g < w.heap.size ∧ ∀ j, j ≤ n → w.cell? ⟨g, j, none⟩ = some (.int .i64 (gi zs j)) := by
  rcases h.form with ⟨_, _, h0⟩ | ⟨g, cur, rfl, h1, h2, _⟩
  · omega
  · obtain ⟨b, off, e, _, hc⟩ := h.ri.cell (j := 0) (by omega)
    injection e with e; injection e with e1 e2 e3
    subst e1 e2
    exact ⟨g, rfl, h1, h2, fun j hj => by have := hc j (by omega); rwa [Nat.zero_add] at this⟩

/-- block b holds a ladder's number of wires and its rungs, whatever is told of them -/
theorem paramBox (w : World) (W : Int) (A : Option Addr) (n c : Nat) (t : TypeId) {zs : List Int} (h : RI w A n zs) : Hid (Box (w.alloc (.cells #[.int .i64 W, .slice A n c] t)) w.heap.size W A n c zs) := boxNew t h

set_option maxHeartbeats 1000000 in
theorem endOf_any (A : Option Addr) (n c : Nat) (zs : List Int) (s : Int) (w : World) (h : RI w A n zs) (hn : n ≤ 1048576) (hw : Wires zs s) :
    Calls Tryz.prog 95 #[.slice A n c, .int .i64 s] w (RetI (endOf zs s) w) := by
  have hl := Lib.hid h.1
  have hE : gi (down zs s) n = endOf zs s := by have := gi_end zs s; rwa [h.1] at this
  have HE := Lib.hid hE
  clear hE
  go_enter Tryz.func95, Tryz.ntmps95
  go_wp2_with fail
  refine (wayDown_any A n c zs s _ h hn hw).mono ?_
  rintro e w1 ⟨A1, c1, rfl, ho, hb⟩
  obtain ⟨g, rfl, _, hg, hc⟩ := ho.some_
  have hcn := hc n (Nat.le_refl _)
  rw [HE.out] at hcn
  have HB := Lib.hid hb
  clear hb ho hc h
  go_wp2
  go_ret
  exact ⟨rfl, HB.out⟩

end Go.Proofs.YtgeeifjbfceogaaGreatDoor
namespace Go.Proofs.YtgeeifjbfceogaaGreatDoor
open Go Go.RowKit

def endN (W : Int) (zs : List Int) (s : Int) : Int := if wire W zs s = true then endOf zs s else 0
theorem endN_yes {W : Int} {zs : List Int} {s : Int} (h : wire W zs s = true) : endN W zs s = endOf zs s := by unfold endN; rw [if_pos h]
theorem endN_no {W : Int} {zs : List Int} {s : Int} (h : wire W zs s = false) : endN W zs s = 0 := by unfold endN; rw [h]; rfl
def wayN (W : Int) (zs : List Int) (s : Int) : List Int := if wire W zs s = true then down zs s else []
theorem wayN_yes {W : Int} {zs : List Int} {s : Int} (h : wire W zs s = true) : wayN W zs s = down zs s := by unfold wayN; rw [if_pos h]
theorem wayN_no {W : Int} {zs : List Int} {s : Int} (h : wire W zs s = false) : wayN W zs s = [] := by unfold wayN; rw [h]; rfl

theorem wayN_len (W : Int) (zs : List Int) (s : Int) : (wayN W zs s).length ≤ 1000 := by
  rcases h : wire W zs s with _ | _
  · rw [wayN_no h]; simp
  · rw [wayN_yes h, down_length]
    have := (lad_iff.1 (wire_iff.1 h).1).2.1
    omega

end Go.Proofs.YtgeeifjbfceogaaGreatDoor
