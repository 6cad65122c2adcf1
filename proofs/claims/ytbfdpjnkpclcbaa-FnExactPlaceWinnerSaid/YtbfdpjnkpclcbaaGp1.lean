/- The placing game of the program: its methods, and the game over its positions. -/
import Derived.Test.YtbfdpjnkpclcbaaGp0
import Derived.Test.YtbfdpjnkpclcbaaGo4P
import Derived.Test.YtbfdpjnkpclcbaaMgD
import Derived.Test.YtbfdpjnkpclcbaaMgB
namespace Go.Proofs.Ytbfdpjnkpclcbaa
open Go Go.RowKit

def posP (N goal : Nat) (fs : Nat → Bool) (p : Nat) : Value := .agg #[.int .i64 (N : Int), .int .i64 ((p % 8 : Nat) : Int), .int .i64 (goal : Int), .int .i64 ((p / 8 : Nat) : Int), .bool (fs (p / 8))]

set_option maxRecDepth 100000 in
set_option maxHeartbeats 1000000 in
theorem keyP_any (N a goal l : Nat) (q : Bool) (w : World) (ha : a < 8) (hl : l ≤ 8) :
    Calls Try.prog 92 #[.agg #[.int .i64 (N : Int), .int .i64 (a : Int), .int .i64 (goal : Int), .int .i64 (l : Int), .bool q]] w (RetI ((l * 8 + a : Nat) : Int) w) := by
  have h1 : wrap64 ((l : Int) * 8) = ((l * 8 : Nat) : Int) := by rw [IntWalk.wrap64_in _ (by omega)]; omega
  have h1' : IntKind.i64.wrap ((l : Int) * 8) = ((l * 8 : Nat) : Int) := by rw [IntWalk.i64_in _ (by omega)]; omega
  have h2 : IntKind.i64.wrap (((l * 8 : Nat) : Int) + (a : Int)) = ((l * 8 + a : Nat) : Int) := by rw [IntWalk.i64_in _ (by omega)]; omega
  obtain ⟨y, hy⟩ : ∃ y, y = l * 8 + a := ⟨_, rfl⟩
  rw [← hy] at h2 ⊢
  obtain ⟨z, hz⟩ : ∃ z, z = l * 8 := ⟨_, rfl⟩
  rw [← hz] at h1 h1' h2
  clear hy hz
  go_enter Try.func92, Try.ntmps92
  go_wp2
  go_ret
  exact ⟨rfl, (by repeat (first | exact Below.refl _ _ | exact HB.out | refine Below.setCell ?_ (by simp <;> omega) _ | refine Below.alloc ?_ (by simp <;> omega) _ | refine below_drewN ?_ _))⟩

set_option maxRecDepth 100000 in
set_option maxHeartbeats 1000000 in
theorem isWonP_any (N a goal l : Nat) (q : Bool) (w : World) :
    Calls Try.prog 91 #[.agg #[.int .i64 (N : Int), .int .i64 (a : Int), .int .i64 (goal : Int), .int .i64 (l : Int), .bool q]] w (RetB (decide (a = goal) == q) w) := by
  by_cases h : a = goal
  · subst h
    rw [decide_eq_true rfl]
    cases q
    all_goals
      go_enter Try.func91, Try.ntmps91
      go_wp2
      go_ret
      exact ⟨ret_b (by simp), (by repeat (first | exact Below.refl _ _ | exact HB.out | refine Below.setCell ?_ (by simp <;> omega) _ | refine Below.alloc ?_ (by simp <;> omega) _ | refine below_drewN ?_ _))⟩
  · have h1 : ((a : Int) == (goal : Int)) = false := beq_eq_false_iff_ne.2 (by omega)
    rw [decide_eq_false h]
    clear h
    cases q
    all_goals
      go_enter Try.func91, Try.ntmps91
      go_wp2
      go_ret
      exact ⟨ret_b (by simp), (by repeat (first | exact Below.refl _ _ | exact HB.out | refine Below.setCell ?_ (by simp <;> omega) _ | refine Below.alloc ?_ (by simp <;> omega) _ | refine below_drewN ?_ _))⟩

set_option maxRecDepth 100000 in
set_option maxHeartbeats 1000000 in
theorem choicesP_any (N a goal l : Nat) (q : Bool) (w : World) (h2 : 2 ≤ N) (h8 : N ≤ 8) :
    Calls Try.prog 90 #[.agg #[.int .i64 (N : Int), .int .i64 (a : Int), .int .i64 (goal : Int), .int .i64 (l : Int), .bool q]] w (FreshI w (if l = 0 then [] else upJ (N - 1)).length (if l = 0 then [] else upJ (N - 1))) := by
  by_cases h0 : l = 0
  · subst h0
    rw [if_pos rfl]
    go_enter Try.func90, Try.ntmps90
    go_wp2
    go_ret
    exact ⟨none, 0, rfl, OI.none_ _ _, (by repeat (first | exact Below.refl _ _ | exact HB.out | refine Below.setCell ?_ (by simp <;> omega) _ | refine Below.alloc ?_ (by simp <;> omega) _ | refine below_drewN ?_ _))⟩
  · rw [if_neg h0, upJ_len]
    have hl0 : ((l : Int) == 0) = false := beq_eq_false_iff_ne.2 (by omega)
    have hw : IntKind.i64.wrap ((N : Int) - 1) = ((N - 1 : Nat) : Int) := by rw [IntWalk.i64_in _ (by omega)]; omega
    obtain ⟨m, hm⟩ : ∃ m, m = N - 1 := ⟨_, rfl⟩
    rw [← hm] at hw ⊢
    have hm8 : m ≤ 8 := by omega
    have hmk := run_make_row' (P := Try.prog) 22 3 (.int .i64 0) 8 Try.underlying22 infoInt rfl .i64 .i64 m (by omega) (by omega)
    have HB := belAlloc (belRefl (w := w)) (.cells #[.int .i64 (N : Int), .int .i64 (a : Int), .int .i64 (goal : Int), .int .i64 (l : Int), .bool q] 82)
    obtain ⟨w1, hw1⟩ : ∃ w1, w1 = w.alloc (.cells #[.int .i64 (N : Int), .int .i64 (a : Int), .int .i64 (goal : Int), .int .i64 (l : Int), .bool q] 82) := ⟨_, rfl⟩
    have hz1 : w1.heap.size = w.heap.size + 1 := by rw [hw1]; simp
    have HZ1 := Lib.hid hz1
    have HR0 := Lib.hid (World.rowIs_made w1 (.int .i64 0) m 3)
    rw [hw1] at HR0
    simp only [World.size_alloc] at HR0
    clear hm h0 hz1 hw1 w1 HZ1
    go_enter Try.func90, Try.ntmps90
    go_wp2
    go_loopw [14] (fun i wr => ∃ k : Nat, k ≤ m ∧ i = .int .i64 (k : Int) ∧ wr.rowIs (w.heap.size + 1) 3 m (fun j => if j < k then .int .i64 (j : Int) else .int .i64 0) ∧ Below w.heap.size w wr) (fun i _ => m - (intOf i).toNat)
    case atStart => exact ⟨0, Nat.zero_le _, rfl, HR0.out.congr (fun j _ => by simp), (by repeat (first | exact Below.refl _ _ | exact HB.out | refine Below.setCell ?_ (by simp <;> omega) _ | refine Below.alloc ?_ (by simp <;> omega) _ | refine below_drewN ?_ _))⟩
    case round =>
      obtain ⟨k, hk, rfl, hrow, hb⟩ := hrel
      by_cases hlt : k < m
      · have hd := hrow.cell hlt
        have hf := hrow.frozen k
        simp only [Nat.lt_irrefl, if_false] at hd
        have H1 := Lib.hid hrow
        have H2 := Lib.hid hb
        clear hrow hb hmk
        go_wp2
        go_roundw
        case rel =>
          refine ⟨k + 1, by omega, by go_num, (H1.out.set k _).congr (fun j hj => ?_), H2.out.setCell (by simp) _⟩
          by_cases e : j = k
          · simp [e]
          · by_cases e2 : j < k
            · simp [e, e2, show j < k + 1 by omega]
            · simp [e, e2, show ¬ j < k + 1 by omega]
        case measure => simp [intOf]; omega
      · obtain rfl : k = m := by omega
        go_wp2
        go_ret
        refine ⟨_, _, rfl, OI.of_rowIs (by simp) hrow (by simp only [maxLen]; omega) (upJ_len _) (fun j hj => by simp [hj, gi_upJ hj]), hb⟩

set_option maxRecDepth 100000 in
set_option maxHeartbeats 1000000 in
theorem afterP_any (N a goal l i : Nat) (q : Bool) (w : World) (h8 : N ≤ 8) (ha : a < N) (hi : i + 1 < N) (hl : l + 1 ≤ 8) :
    Calls Try.prog 89 #[.agg #[.int .i64 (N : Int), .int .i64 (a : Int), .int .i64 (goal : Int), .int .i64 ((l + 1 : Nat) : Int), .bool q], .int .i64 (i : Int)] w
      (fun e w' => e = .returned (.iface 82 (.agg #[.int .i64 (N : Int), .int .i64 ((ovr a i : Nat) : Int), .int .i64 (goal : Int), .int .i64 (l : Int), .bool (!q)])) ∧ Below w.heap.size w w') := by
  have HE := Lib.hid (fun A2 c2 w2 (r : RI w2 A2 1 [(i : Int)]) => endOf_any A2 1 c2 [(i : Int)] (a : Int) w2 r (by omega) ⟨(N : Int), by omega, fun j hj => by
    have : j = 0 := by simpa using hj
    subst this
    show 0 ≤ (i : Int) ∧ (i : Int) ≤ (N : Int) - 2
    omega, by omega, by omega⟩)
  have he : endOf [(i : Int)] (a : Int) = ((ovr a i : Nat) : Int) := by
    show over (a : Int) (i : Int) = _
    exact ovr_over a i
  rw [he] at HE
  obtain ⟨b, hb0⟩ : ∃ b, b = ovr a i := ⟨_, rfl⟩
  rw [← hb0] at HE ⊢
  have hlw : IntKind.i64.wrap (((l + 1 : Nat) : Int) - 1) = (l : Int) := by rw [IntWalk.i64_in _ (by omega)]; omega
  obtain ⟨y, hy⟩ : ∃ y, y = l + 1 := ⟨_, rfl⟩
  rw [← hy] at hlw ⊢
  have hs := RI.single (w.alloc (.cells #[.int .i64 (N : Int), .int .i64 (a : Int), .int .i64 (goal : Int), .int .i64 (y : Int), .bool q] 82)) (i : Int)
  rw [World.size_alloc] at hs
  have HS := Lib.hid hs
  clear he hb0 hy hs
  go_enter Try.func89, Try.ntmps89
  go_wp2_with fail
  refine (HE.out _ _ _ HS.out).mono ?_
  rintro e w1 ⟨rfl, hb⟩
  have HB : Hid (Below w.heap.size w w1) := Below.trans (by repeat (first | exact Below.refl _ _ | exact HB.out | refine Below.setCell ?_ (by simp <;> omega) _ | refine Below.alloc ?_ (by simp <;> omega) _ | refine below_drewN ?_ _)) (hb.mono (by simp <;> omega))
  have e5 : ∀ k, w1.cell? ⟨w.heap.size, k, none⟩ = (w.alloc (.cells #[.int .i64 (N : Int), .int .i64 (a : Int), .int .i64 (goal : Int), .int .i64 (y : Int), .bool q] 82)).cell? ⟨w.heap.size, k, none⟩ := fun k => (hb.cell (p := ⟨w.heap.size, k, none⟩) (by simp; omega)).trans (Below.cell (B := w.heap.size + 1) ((Below.refl _ _).alloc (by simp) _) (by simp))
  have f5 : ∀ k, w1.frozen? ⟨w.heap.size, k, none⟩ = (w.alloc (.cells #[.int .i64 (N : Int), .int .i64 (a : Int), .int .i64 (goal : Int), .int .i64 (y : Int), .bool q] 82)).frozen? ⟨w.heap.size, k, none⟩ := fun k => (hb.frozen (p := ⟨w.heap.size, k, none⟩) (by simp; omega)).trans (Below.frozen (B := w.heap.size + 1) ((Below.refl _ _).alloc (by simp) _) (by simp))
  have c0 : w1.cell? ⟨w.heap.size, 0, none⟩ = some (.int .i64 (N : Int)) := by rw [e5]; simp
  have c1 : w1.cell? ⟨w.heap.size, 1, none⟩ = some (.int .i64 (a : Int)) := by rw [e5]; simp
  have c2 : w1.cell? ⟨w.heap.size, 2, none⟩ = some (.int .i64 (goal : Int)) := by rw [e5]; simp
  have c3 : w1.cell? ⟨w.heap.size, 3, none⟩ = some (.int .i64 (y : Int)) := by rw [e5]; simp
  have c4 : w1.cell? ⟨w.heap.size, 4, none⟩ = some (.bool q) := by rw [e5]; simp
  have f1 : w1.frozen? ⟨w.heap.size, 1, none⟩ = false := by rw [f5]; simp [go_sem]
  have f3 : w1.frozen? ⟨w.heap.size, 3, none⟩ = false := by rw [f5]; simp [go_sem]
  have f4 : w1.frozen? ⟨w.heap.size, 4, none⟩ = false := by rw [f5]; simp [go_sem]
  clear hb HE e5 f5
  go_wp2
  go_ret
  exact ⟨rfl, (by repeat (first | exact Below.refl _ _ | exact HB.out | refine Below.setCell ?_ (by simp <;> omega) _ | refine Below.alloc ?_ (by simp <;> omega) _ | refine below_drewN ?_ _))⟩

/-- the placing game with these numbers -/
theorem gmP {N goal M b : Nat} (h2 : 2 ≤ N) (h8 : N ≤ 8) (hM : M ≤ 8) :
    GmP (posP N goal (fsP M true)) (goodP N M) (chP N) nxP (wonP goal (fsP M true)) (ovP N goal (fsP M true)) (fun _ => True) b where
  key := fun p w hp _ => by
    have h := keyP_any N (p % 8) goal (p / 8) (fsP M true (p / 8)) w (by omega) (Nat.le_trans hp.2 hM)
    have e : p / 8 * 8 + p % 8 = p := by omega
    rw [e] at h
    exact h
  isw := fun p w _ _ => isWonP_any N (p % 8) goal (p / 8) _ w
  cho := fun p w _ _ => choicesP_any N (p % 8) goal (p / 8) _ w h2 h8
  aft := fun p i w hp hi _ => by
    obtain ⟨h1, h3⟩ := chP_mem hi
    obtain ⟨l, hl⟩ : ∃ l, p / 8 = l + 1 := ⟨p / 8 - 1, by omega⟩
    have hlM : l + 1 ≤ M := by have := hp.2; omega
    have h := afterP_any N (p % 8) goal l i (fsP M true (l + 1)) w h8 hp.1 h3 (by omega)
    obtain ⟨e1, e2⟩ := nxP_parts (i := i) h8 hp.1 h3
    have e3 : fsP M true l = !fsP M true (l + 1) := fsP_turn l (by omega)
    unfold posP
    rw [e1, e2, hl, show l + 1 - 1 = l by omega, e3]
    exact h
  nxt := fun p i hp hi => by
    obtain ⟨h1, h3⟩ := chP_mem hi
    obtain ⟨e1, e2⟩ := nxP_parts (i := i) h8 hp.1 h3
    have := ovr_lt hp.1 h3
    refine ⟨⟨by rw [e2]; exact this, by rw [e1]; have := hp.2; omega⟩, ?_⟩
    unfold nxP
    omega
  chn := fun p j _ hj => by
    unfold chP at hj ⊢
    split at hj
    · simp at hj
    · rename_i h0
      rw [if_neg h0]
      rw [upJ_len] at hj
      exact ⟨j, by omega, gi_upJ hj⟩
  len := fun p _ => by
    unfold chP
    split
    · simp
    · rw [upJ_len]; omega
  ovE := fun p hp => ovP_eq h2 h8 hp.1
  mv := fun p hp => by have := ovL_le N goal (fsP M true) (p / 8) (p % 8); have := hp.2; unfold ovP; omega
  keep := fun _ _ _ _ => trivial
end Go.Proofs.Ytbfdpjnkpclcbaa
