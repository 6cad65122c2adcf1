/- The contracts of the functions that look whether there is a pole, of the program and of its model. -/
import Derived.Test.YtbophchjbaodnaaDoorC1a
import Derived.Test.YtbophchjbaodnaaDoorPo1
namespace Go.Proofs.YtbophchjbaodnaaDoor
open Go Go.RowKit

set_option maxHeartbeats 400000 in
theorem poGood_any (W : Int) (A : Option Addr) (n c : Nat) (zs : List Int) (w : World) (h : RI w A n zs) (hn : n ≤ 1048576) :
    Calls Tryd.prog 10 #[.agg #[.int .i64 W, .slice A n c]] w (RetB (pol W zs) w) := by
  have hl := h.1
  rcases h1 : inB W 3 8 with _ | _
  · have H1 := Lib.hid h1
    clear h1
    go_enter Tryd.func10, Tryd.ntmps10
    go_wp2_with (go_at_call 18; refine (l1In_any _ _ _ _).mono ?_; rw [H1.out]; rintro e w' ⟨rfl, rfl⟩)
    go_ret
    exact ⟨ret_b (pol_no1 H1.out).symm, (by repeat (first | exact Below.refl _ _ | exact HB.out | refine Below.setCell ?_ (by simp <;> omega) _ | refine Below.alloc ?_ (by simp <;> omega) _ | refine below_drewN ?_ _))⟩
  · have hW := inB_iff.1 h1
    have H1 := Lib.hid h1
    clear h1
    by_cases h2 : n ≤ 60
    · have E := Lib.hid (pol_yes H1.out (by omega : zs.length ≤ 60))
      obtain ⟨q, hq⟩ : ∃ q, q = allIn zs 0 (W - 1) := ⟨_, rfl⟩
      have HQ := Lib.hid hq
      clear hq
      have HL := Lib.hid hl
      clear hl
      go_enter Tryd.func10, Tryd.ntmps10
      go_wp2_with (first
        | (go_at_call 18; refine (l1In_any _ _ _ _).mono ?_; rw [H1.out]; rintro e w' ⟨rfl, rfl⟩)
        | (go_at_call 19; refine (l1All_any A n c zs 0 (W - 1) _ (h.alloc _) hn).mono ?_; rw [← HQ.out]; rintro e w' ⟨rfl, rfl⟩))
      go_ret
      exact ⟨ret_b (by rw [E.out, ← HQ.out]), (by repeat (first | exact Below.refl _ _ | exact HB.out | refine Below.setCell ?_ (by simp <;> omega) _ | refine Below.alloc ?_ (by simp <;> omega) _ | refine below_drewN ?_ _))⟩
    · go_enter Tryd.func10, Tryd.ntmps10
      go_wp2_with (go_at_call 18; refine (l1In_any _ _ _ _).mono ?_; rw [H1.out]; rintro e w' ⟨rfl, rfl⟩)
      go_ret
      exact ⟨ret_b (pol_no2 (by omega)).symm, (by repeat (first | exact Below.refl _ _ | exact HB.out | refine Below.setCell ?_ (by simp <;> omega) _ | refine Below.alloc ?_ (by simp <;> omega) _ | refine below_drewN ?_ _))⟩

set_option maxHeartbeats 400000 in
theorem iIsPole_any (W : Int) (A : Option Addr) (n c : Nat) (zs : List Int) (w : World) (h : RI w A n zs) (hn : n ≤ 1048576) :
    Calls Tryd.prog 14 #[.agg #[.int .i64 W, .slice A n c]] w (RetB (pol W zs) w) := by
  have hl := h.1
  by_cases h1 : 3 ≤ W
  · by_cases h1' : W ≤ 8
    · by_cases h2 : n ≤ 60
      · have E := Lib.hid (pol_yes (inB_true ⟨h1, h1'⟩) (by omega : zs.length ≤ 60))
        have HL := Lib.hid hl
        clear hl
        go_enter Tryd.func14, Tryd.ntmps14
        go_wp2
        go_loop [4, 22] (fun _ i => ∃ k : Nat, k ≤ n ∧ i = .int .i64 k ∧ ∀ j, j < k → inB (gi zs j) 0 (W - 1) = true) (fun _ i => n - (intOf i).toNat)
        case atStart => exact ⟨0, Nat.zero_le _, rfl, fun j hj => absurd hj (by omega)⟩
        case round =>
          obtain ⟨k, hk, rfl, hall⟩ := hrel
          have H3 := Lib.hid hall
          clear hall
          by_cases hlt : k < n
          · obtain ⟨b, off, rfl, hbw, hc⟩ := h.cell hlt
            have hck : (w.alloc (.cells #[.int .i64 W, .slice (some ⟨b, off, none⟩) n c] 28)).cell? ⟨b, off + k, none⟩ = some (.int .i64 (gi zs k)) := (World.cell?_alloc_past _ _ _ hbw).trans (hc k hlt)
            clear hc h
            by_cases g1 : 0 ≤ gi zs k
            · by_cases g2 : gi zs k < W
              · go_wp2
                go_round
                case rel =>
                  refine ⟨k + 1, by omega, by go_num, fun j hj => ?_⟩
                  by_cases e : j = k
                  · rw [e]; exact inB_true ⟨g1, by omega⟩
                  · exact H3.out j (by omega)
                case measure => simp [intOf]; omega
              · go_wp2
                go_ret
                exact ⟨ret_b (by rw [E.out, allIn_false (j := k) (by rw [HL.out]; exact hlt) (inB_false (by omega))]), (by repeat (first | exact Below.refl _ _ | exact HB.out | refine Below.setCell ?_ (by simp <;> omega) _ | refine Below.alloc ?_ (by simp <;> omega) _ | refine below_drewN ?_ _))⟩
            · go_wp2
              go_ret
              exact ⟨ret_b (by rw [E.out, allIn_false (j := k) (by rw [HL.out]; exact hlt) (inB_false (by omega))]), (by repeat (first | exact Below.refl _ _ | exact HB.out | refine Below.setCell ?_ (by simp <;> omega) _ | refine Below.alloc ?_ (by simp <;> omega) _ | refine below_drewN ?_ _))⟩
          · obtain rfl : k = n := by omega
            go_wp2
            go_ret
            exact ⟨ret_b (by rw [E.out, allIn_true (by rw [HL.out]; exact H3.out)]), (by repeat (first | exact Below.refl _ _ | exact HB.out | refine Below.setCell ?_ (by simp <;> omega) _ | refine Below.alloc ?_ (by simp <;> omega) _ | refine below_drewN ?_ _))⟩
      · go_enter Tryd.func14, Tryd.ntmps14
        go_wp2
        go_ret
        exact ⟨ret_b (pol_no2 (by omega)).symm, (by repeat (first | exact Below.refl _ _ | exact HB.out | refine Below.setCell ?_ (by simp <;> omega) _ | refine Below.alloc ?_ (by simp <;> omega) _ | refine below_drewN ?_ _))⟩
    · go_enter Tryd.func14, Tryd.ntmps14
      go_wp2
      go_ret
      exact ⟨ret_b (pol_no1 (inB_false (by omega))).symm, (by repeat (first | exact Below.refl _ _ | exact HB.out | refine Below.setCell ?_ (by simp <;> omega) _ | refine Below.alloc ?_ (by simp <;> omega) _ | refine below_drewN ?_ _))⟩
  · go_enter Tryd.func14, Tryd.ntmps14
    go_wp2
    go_ret
    exact ⟨ret_b (pol_no1 (inB_false (by omega))).symm, (by repeat (first | exact Below.refl _ _ | exact HB.out | refine Below.setCell ?_ (by simp <;> omega) _ | refine Below.alloc ?_ (by simp <;> omega) _ | refine below_drewN ?_ _))⟩

end Go.Proofs.YtbophchjbaodnaaDoor
