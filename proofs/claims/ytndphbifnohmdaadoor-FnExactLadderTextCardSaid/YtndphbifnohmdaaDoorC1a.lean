/- The contracts of the functions that look whether there is a ladder, of the program and of its model. -/
import Derived.Test.YtndphbifnohmdaaDoorMgA
namespace Go.Proofs.YtndphbifnohmdaaDoor
open Go Go.RowKit

/-- a value, and the world as it was -/
def SameB (b : Bool) (w : World) (e : Ending) (w' : World) : Prop := e = .returned (.bool b) ∧ w = w'
def SameI (n : Int) (w : World) (e : Ending) (w' : World) : Prop := e = .returned (.int .i64 n) ∧ w = w'

theorem l1In_any (n lo hi : Int) (w : World) : Calls Tryd.prog 28 #[.int .i64 n, .int .i64 lo, .int .i64 hi] w (SameB (inB n lo hi) w) := by
  by_cases h1 : lo ≤ n
  · by_cases h2 : n ≤ hi
    · go_enter Tryd.func28, Tryd.ntmps28
      go_wp2
      go_ret
      exact ⟨ret_b (inB_true ⟨h1, h2⟩).symm, rfl⟩
    · go_enter Tryd.func28, Tryd.ntmps28
      go_wp2
      go_ret
      exact ⟨ret_b (inB_false (by omega)).symm, rfl⟩
  · go_enter Tryd.func28, Tryd.ntmps28
    go_wp2
    go_ret
    exact ⟨ret_b (inB_false (by omega)).symm, rfl⟩

set_option maxHeartbeats 400000 in
theorem l1All_any (A : Option Addr) (n c : Nat) (zs : List Int) (lo hi : Int) (w : World) (h : RI w A n zs) (hn : n ≤ 1048576) :
    Calls Tryd.prog 29 #[.slice A n c, .int .i64 lo, .int .i64 hi] w (SameB (allIn zs lo hi) w) := by
  go_enter Tryd.func29, Tryd.ntmps29
  go_wp2
  go_loop [8, 11] (fun _ i => ∃ k : Nat, k ≤ n ∧ i = .int .i64 k ∧ ∀ j, j < k → inB (gi zs j) lo hi = true) (fun _ i => n - (intOf i).toNat)
  case atStart => exact ⟨0, Nat.zero_le _, rfl, fun j hj => absurd hj (by omega)⟩
  case round =>
    obtain ⟨k, hk, rfl, hall⟩ := hrel
    have H3 := Lib.hid hall
    clear hall
    by_cases hlt : k < n
    · obtain ⟨b, off, rfl, hbw, hc⟩ := h.cell hlt
      have hck := hc k hlt
      clear hc
      obtain ⟨q, hq⟩ : ∃ q, q = inB (gi zs k) lo hi := ⟨_, rfl⟩
      have HQ := Lib.hid hq
      clear hq
      go_wp2_with (go_at_call 28; refine (l1In_any _ _ _ _).mono ?_; rw [← HQ.out]; rintro e w' ⟨rfl, rfl⟩; cases q)
      · go_ret
        exact ⟨ret_b (allIn_false (by rw [h.1]; exact hlt) HQ.out.symm).symm, rfl⟩
      · go_round
        case rel =>
          refine ⟨k + 1, by omega, by go_num, fun j hj => ?_⟩
          by_cases e : j = k
          · rw [e]; exact HQ.out.symm
          · exact H3.out j (by omega)
        case measure => simp [intOf]; omega
    · obtain rfl : k = n := by omega
      go_wp2
      go_ret
      exact ⟨ret_b (allIn_true (by rw [h.1]; exact H3.out)).symm, rfl⟩

set_option maxHeartbeats 400000 in
theorem laGood_any (W : Int) (A : Option Addr) (n c : Nat) (zs : List Int) (w : World) (h : RI w A n zs) (hn : n ≤ 1048576) :
    Calls Tryd.prog 15 #[.agg #[.int .i64 W, .slice A n c]] w (RetB (lad W zs) w) := by
  have hl := h.1
  rcases h1 : inB W 2 8 with _ | _
  · have H1 := Lib.hid h1
    clear h1
    go_enter Tryd.func15, Tryd.ntmps15
    go_wp2_with (go_at_call 28; refine (l1In_any _ _ _ _).mono ?_; rw [H1.out]; rintro e w' ⟨rfl, rfl⟩)
    go_ret
    exact ⟨ret_b (lad_no1 H1.out).symm, (by repeat (first | exact Below.refl _ _ | exact HB.out | refine Below.setCell ?_ (by simp <;> omega) _ | refine Below.alloc ?_ (by simp <;> omega) _ | refine below_drewN ?_ _))⟩
  · have hW := inB_iff.1 h1
    have H1 := Lib.hid h1
    clear h1
    by_cases h2 : n ≤ 60
    · have E := Lib.hid (lad_yes H1.out (by omega : zs.length ≤ 60))
      obtain ⟨q, hq⟩ : ∃ q, q = allIn zs 0 (W - 2) := ⟨_, rfl⟩
      have HQ := Lib.hid hq
      clear hq
      have HL := Lib.hid hl
      clear hl
      go_enter Tryd.func15, Tryd.ntmps15
      go_wp2_with (first
        | (go_at_call 28; refine (l1In_any _ _ _ _).mono ?_; rw [H1.out]; rintro e w' ⟨rfl, rfl⟩)
        | (go_at_call 29; refine (l1All_any A n c zs 0 (W - 2) _ (h.alloc _) hn).mono ?_; rw [← HQ.out]; rintro e w' ⟨rfl, rfl⟩))
      go_ret
      exact ⟨ret_b (by rw [E.out, ← HQ.out]), (by repeat (first | exact Below.refl _ _ | exact HB.out | refine Below.setCell ?_ (by simp <;> omega) _ | refine Below.alloc ?_ (by simp <;> omega) _ | refine below_drewN ?_ _))⟩
    · go_enter Tryd.func15, Tryd.ntmps15
      go_wp2_with (go_at_call 28; refine (l1In_any _ _ _ _).mono ?_; rw [H1.out]; rintro e w' ⟨rfl, rfl⟩)
      go_ret
      exact ⟨ret_b (lad_no2 (by omega)).symm, (by repeat (first | exact Below.refl _ _ | exact HB.out | refine Below.setCell ?_ (by simp <;> omega) _ | refine Below.alloc ?_ (by simp <;> omega) _ | refine below_drewN ?_ _))⟩

set_option maxHeartbeats 400000 in
theorem iIsLadder_any (W : Int) (A : Option Addr) (n c : Nat) (zs : List Int) (w : World) (h : RI w A n zs) (hn : n ≤ 1048576) :
    Calls Tryd.prog 18 #[.agg #[.int .i64 W, .slice A n c]] w (RetB (lad W zs) w) := by
  have hl := h.1
  by_cases h1 : 2 ≤ W
  · by_cases h1' : W ≤ 8
    · by_cases h2 : n ≤ 60
      · have E := Lib.hid (lad_yes (inB_true ⟨h1, h1'⟩) (by omega : zs.length ≤ 60))
        have HL := Lib.hid hl
        clear hl
        go_enter Tryd.func18, Tryd.ntmps18
        go_wp2
        go_loop [4, 22] (fun _ i => ∃ k : Nat, k ≤ n ∧ i = .int .i64 k ∧ ∀ j, j < k → inB (gi zs j) 0 (W - 2) = true) (fun _ i => n - (intOf i).toNat)
        case atStart => exact ⟨0, Nat.zero_le _, rfl, fun j hj => absurd hj (by omega)⟩
        case round =>
          obtain ⟨k, hk, rfl, hall⟩ := hrel
          have H3 := Lib.hid hall
          clear hall
          by_cases hlt : k < n
          · obtain ⟨b, off, rfl, hbw, hc⟩ := h.cell hlt
            have hck : (w.alloc (.cells #[.int .i64 W, .slice (some ⟨b, off, none⟩) n c] 28)).cell? ⟨b, off + k, none⟩ = some (.int .i64 (gi zs k)) := (World.cell?_alloc_past _ _ _ hbw).trans (hc k hlt)
            clear hc h
            by_cases g1 : 0 ≤ gi zs k
            · by_cases g2 : gi zs k ≤ W - 2
              · go_wp2
                go_round
                case rel =>
                  refine ⟨k + 1, by omega, by go_num, fun j hj => ?_⟩
                  by_cases e : j = k
                  · rw [e]; exact inB_true ⟨g1, g2⟩
                  · exact H3.out j (by omega)
                case measure => simp [intOf]; omega
              · go_wp2
                go_ret
                exact ⟨ret_b (by rw [E.out, allIn_false (j := k) (by rw [HL.out]; exact hlt) (inB_false (by omega))]), (by repeat (first | exact Below.refl _ _ | exact HB.out | refine Below.setCell ?_ (by simp <;> omega) _ | refine Below.alloc ?_ (by simp <;> omega) _ | refine below_drewN ?_ _))⟩
            · go_wp2
              go_ret
              exact ⟨ret_b (by rw [E.out, allIn_false (j := k) (by rw [HL.out]; exact hlt) (inB_false (by omega))]), (by repeat (first | exact Below.refl _ _ | exact HB.out | refine Below.setCell ?_ (by simp <;> omega) _ | refine Below.alloc ?_ (by simp <;> omega) _ | refine below_drewN ?_ _))⟩
          · obtain rfl : k = n := by omega
            go_wp2
            go_ret
            exact ⟨ret_b (by rw [E.out, allIn_true (by rw [HL.out]; exact H3.out)]), (by repeat (first | exact Below.refl _ _ | exact HB.out | refine Below.setCell ?_ (by simp <;> omega) _ | refine Below.alloc ?_ (by simp <;> omega) _ | refine below_drewN ?_ _))⟩
      · go_enter Tryd.func18, Tryd.ntmps18
        go_wp2
        go_ret
        exact ⟨ret_b (lad_no2 (by omega)).symm, (by repeat (first | exact Below.refl _ _ | exact HB.out | refine Below.setCell ?_ (by simp <;> omega) _ | refine Below.alloc ?_ (by simp <;> omega) _ | refine below_drewN ?_ _))⟩
    · go_enter Tryd.func18, Tryd.ntmps18
      go_wp2
      go_ret
      exact ⟨ret_b (lad_no1 (inB_false (by omega))).symm, (by repeat (first | exact Below.refl _ _ | exact HB.out | refine Below.setCell ?_ (by simp <;> omega) _ | refine Below.alloc ?_ (by simp <;> omega) _ | refine below_drewN ?_ _))⟩
  · go_enter Tryd.func18, Tryd.ntmps18
    go_wp2
    go_ret
    exact ⟨ret_b (lad_no1 (inB_false (by omega))).symm, (by repeat (first | exact Below.refl _ _ | exact HB.out | refine Below.setCell ?_ (by simp <;> omega) _ | refine Below.alloc ?_ (by simp <;> omega) _ | refine below_drewN ?_ _))⟩

end Go.Proofs.YtndphbifnohmdaaDoor
