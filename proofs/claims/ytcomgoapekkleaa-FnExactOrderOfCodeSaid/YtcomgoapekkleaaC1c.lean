/- The contracts of the program's own way down. -/
import Derived.Test.YtcomgoapekkleaaC1b
import Derived.WalkMore
import Derived.Deep.LoopGhost
import Derived.Deep.DeepMust
namespace Go.Proofs.Ytcomgoapekkleaa
open Go Go.RowKit

theorem belStep' {w wr w2 : World} {A : Option Addr} {n c : Nat} {zs : List Int} {o : Obj} (HB : Hid (Below w.heap.size w wr)) (HO : OI wr w.heap.size A n c zs) (hg : (wr.alloc o).grownBy w2 (blk A)) : Below w.heap.size w w2 :=
  (belGrown (belAlloc HB o) (HO.alloc o) hg (Nat.le_refl _)).out

set_option maxRecDepth 100000 in
set_option maxHeartbeats 4000000 in
theorem wayDown_any (A : Option Addr) (n c : Nat) (zs : List Int) (s : Int) (w : World) (h : RI w A n zs) (hn : n ≤ 1048576) (hw : Wires zs s) :
    Calls Try.prog 71 #[.slice A n c, .int .i64 s] w (FreshI w (n + 1) (down zs s)) := by
  obtain ⟨i0, hi0, hz0, hz1, hz2⟩ := info_parts infoInt
  have hl := h.1
  go_enter Try.func71, Try.ntmps71
  go_wp2
  go_step3
  go_wp2_with (at_make; go_must (refine wpList_make_own _ rfl _ _ 22 rfl w.heap.size 3 i0 (.int .i64 0) 1 Try.underlying22 hi0 hz0 hz1 _ _ _ (n + 1) rfl rfl (by omega) (by rw [hz2]; omega) (by unfold maxLen; omega) (Nat.le_refl _) ?_); intro w1 ho1 hg1)
  have hb1 : Below w.heap.size w w1 := ⟨hg1.os, hg1.tape, hg1.output, hg1.size, fun k hk => hg1.block k hk (by simp)⟩
  have ho1' : OI w1 w.heap.size (some ⟨w.heap.size, 0, none⟩) 0 (n + 1) [] := ⟨rfl, ho1⟩
  clear ho1 hg1
  go_step3
  go_wp2
  go_loopg [5, 6, 7] n (fun g s1 v d wr => ∃ (k : Nat) (A1 : Option Addr) (c1 : Nat), k ≤ n ∧ g = n - k ∧ d = .int .i64 k ∧ s1 = .int .i64 (at_ zs s k) ∧ v = .slice A1 k c1 ∧ OI wr w.heap.size A1 k c1 ((down zs s).take k) ∧ Below w.heap.size w wr)
  case atStart =>
    exact ⟨0, _, _, Nat.zero_le _, rfl, rfl, by rw [at_zero], rfl, ho1', hb1⟩
  case round =>
    obtain ⟨k, A1, c1, hk, rfl, rfl, rfl, rfl, ho, hb⟩ := hrel
    have HT := Lib.hid (down_take zs s k (by omega))
    have HO := Lib.hid ho
    have HB := Lib.hid hb
    have g2 := hw.at (k := k) (by omega)
    by_cases hlt : k < n
    · obtain ⟨b, off, rfl, hbw, hc⟩ := h.cell hlt
      have hck : wr.cell? ⟨b, off + k, none⟩ = some (.int .i64 (gi zs k)) := (hb.cell (p := ⟨b, off + k, none⟩) hbw).trans (hc k hlt)
      have g1 := hw.rung (k := k) (by omega)
      have HS := Lib.hid (at_succ zs s k (by omega))
      have hc0 := hc k hlt
      clear hc h hb ho ho1' hb1
      have hover : at_ zs s (k + 1) = over (at_ zs s k) (gi zs k) := HS.out
      by_cases h1 : at_ zs s k = gi zs k
      · have e1 : (at_ zs s k == gi zs k) = true := beq_iff_eq.2 h1
        have H1 : Hid (at_ zs s (k + 1) = at_ zs s k + 1) := by show at_ zs s (k + 1) = at_ zs s k + 1; rw [hover, ← over_1 h1, h1]
        clear h1 hover
        go_wp2_with (at_builtin; refine wpList_append_int _ rfl _ _ rfl w.heap.size A1 k c1 _ (at_ zs s k) wr.heap.size rfl rfl (HO.out.alloc _) (by simp) (by omega) (by have := HB.out.size; simp; omega) ?_; intro A2 c2 w2 ho2 hg2; have hck2 : w2.cell? ⟨b, off + k, none⟩ = some (.int .i64 (gi zs k)) := ((belStep' HB HO.out hg2).cell (p := ⟨b, off + k, none⟩) hbw).trans hc0)
        go_roundg (n - (k + 1))
        case rel => exact ⟨k + 1, A2, c2, by omega, rfl, by go_num, by rw [H1.out], rfl, by rw [HT.out]; exact ho2, (belStep' HB HO.out hg2)⟩
        case measure => omega
      · have e1 : (at_ zs s k == gi zs k) = false := beq_eq_false_iff_ne.2 h1
        by_cases h2 : at_ zs s k = gi zs k + 1
        · have e2 : (at_ zs s k == gi zs k + 1) = true := beq_iff_eq.2 h2
          have H1 : Hid (at_ zs s (k + 1) = at_ zs s k - 1) := by show at_ zs s (k + 1) = at_ zs s k - 1; rw [hover, ← over_2 h1 h2]; omega
          clear h1 h2 hover
          go_wp2_with (at_builtin; refine wpList_append_int _ rfl _ _ rfl w.heap.size A1 k c1 _ (at_ zs s k) wr.heap.size rfl rfl (HO.out.alloc _) (by simp) (by omega) (by have := HB.out.size; simp; omega) ?_; intro A2 c2 w2 ho2 hg2; have hck2 : w2.cell? ⟨b, off + k, none⟩ = some (.int .i64 (gi zs k)) := ((belStep' HB HO.out hg2).cell (p := ⟨b, off + k, none⟩) hbw).trans hc0)
          go_roundg (n - (k + 1))
          case rel => exact ⟨k + 1, A2, c2, by omega, rfl, by go_num, by rw [H1.out], rfl, by rw [HT.out]; exact ho2, (belStep' HB HO.out hg2)⟩
          case measure => omega
        · have e2 : (at_ zs s k == gi zs k + 1) = false := beq_eq_false_iff_ne.2 h2
          have H1 : Hid (at_ zs s (k + 1) = at_ zs s k) := by show at_ zs s (k + 1) = at_ zs s k; rw [hover, ← over_3 h1 h2]
          clear h1 h2 hover
          go_wp2_with (at_builtin; refine wpList_append_int _ rfl _ _ rfl w.heap.size A1 k c1 _ (at_ zs s k) wr.heap.size rfl rfl (HO.out.alloc _) (by simp) (by omega) (by have := HB.out.size; simp; omega) ?_; intro A2 c2 w2 ho2 hg2; have hck2 : w2.cell? ⟨b, off + k, none⟩ = some (.int .i64 (gi zs k)) := ((belStep' HB HO.out hg2).cell (p := ⟨b, off + k, none⟩) hbw).trans hc0)
          go_roundg (n - (k + 1))
          case rel => exact ⟨k + 1, A2, c2, by omega, rfl, by go_num, by rw [H1.out], rfl, by rw [HT.out]; exact ho2, (belStep' HB HO.out hg2)⟩
          case measure => omega
    · obtain rfl : k = n := by omega
      clear hb ho ho1' hb1
      go_wp2_with (at_builtin; refine wpList_append_int _ rfl _ _ rfl w.heap.size A1 k c1 _ (at_ zs s k) wr.heap.size rfl rfl (HO.out.alloc _) (by simp) (by omega) (by have := HB.out.size; simp; omega) ?_; intro A2 c2 w2 ho2 hg2)
      rw [Exit.noGoto_ret]
      go_ret
      refine ⟨A2, c2, rfl, ?_, belStep' HB HO.out hg2⟩
      have e : (down zs s).take (k + 1) = down zs s := List.take_of_length_le (by rw [down_length]; omega)
      rw [← e, HT.out]
      exact ho2
end Go.Proofs.Ytcomgoapekkleaa
