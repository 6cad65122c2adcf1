/- Whether two lists are the same, as the program asks it. -/
import Derived.Test.YtbfilmdociemmaaMgD
import Derived.Test.YtbfilmdociemmaaMgC
import Derived.Deep.QuietTactic
import Derived.BigQuiet
namespace Go.Proofs.Ytbfilmdociemmaa
open Go Go.RowKit

set_option maxRecDepth 100000 in
set_option maxHeartbeats 400000 in
theorem equalI_any (A : Option Addr) (n c : Nat) (zs : List Int) (B : Option Addr) (m d : Nat) (ys : List Int) (w : World) (h : RI w A n zs) (g : RI w B m ys) (hn : n ≤ 1048576) (hm : m ≤ 1048576) :
    Calls Try.prog 57 #[.slice A n c, .slice B m d] w (RetB (decide (zs = ys)) w) := by
  show Calls _ _ _ w (RetB (eqB zs ys) w)
  by_cases hnm : n = m
  · subst hnm
    go_enter Try.func57, Try.ntmps57
    go_wp2
    go_loopw [5, 13] (fun _ i wr => ∃ k : Nat, k ≤ n ∧ i = .int .i64 k ∧ (∀ j, j < k → gi zs j = gi ys j) ∧ Below w.heap.size w wr) (fun _ i _ => n - (intOf i).toNat)
    case atStart => exact ⟨0, Nat.zero_le _, rfl, fun j hj => absurd hj (by omega), Below.refl _ _⟩
    case round =>
      obtain ⟨k, hk, rfl, hall, hb⟩ := hrel
      by_cases hlt : k < n
      · obtain ⟨b, off, rfl, hbw, hc⟩ := h.cell hlt
        obtain ⟨b2, off2, rfl, hbw2, hc2⟩ := g.cell hlt
        have hck : wr.cell? ⟨b, off + k, none⟩ = some (.int .i64 (gi zs k)) := (hb.cell (p := ⟨b, off + k, none⟩) hbw).trans (hc k hlt)
        have hck2 : wr.cell? ⟨b2, off2 + k, none⟩ = some (.int .i64 (gi ys k)) := (hb.cell (p := ⟨b2, off2 + k, none⟩) hbw2).trans (hc2 k hlt)
        have H2 := Lib.hid hb
        have H3 := Lib.hid hall
        clear hb hc hc2 hall
        by_cases he : gi zs k = gi ys k
        · have HE := Lib.hid he
          have e0 : (gi zs k != gi ys k) = false := by rw [bne_eq_false_iff_eq]; exact he
          go_wp2
          go_quiet (fail)
          go_wp2
          go_roundw
          case rel =>
            refine ⟨k + 1, by omega, by go_num, fun j hj => ?_, below_drewN H2.out _⟩
            by_cases e : j = k
            · rw [e, HE.out]
            · exact H3.out j (by omega)
          case measure => simp [intOf]; omega
        · have HE := Lib.hid he
          have e0 : (gi zs k != gi ys k) = true := by rw [bne_iff_ne]; exact he
          go_wp2
          go_quiet (fail)
          go_wp2
          go_ret
          exact ⟨ret_b (eqB_at HE.out).symm, below_drewN H2.out _⟩
      · obtain rfl : k = n := by omega
        go_wp2
        go_ret
        exact ⟨ret_b (eqB_true (h.1.trans g.1.symm) (by rw [h.1]; exact hall)).symm, hb⟩
  · have hne : ((n : Int) != (m : Int)) = true := by rw [bne_iff_ne]; omega
    go_enter Try.func57, Try.ntmps57
    go_wp2
    go_ret
    exact ⟨ret_b (eqB_len (by rw [h.1, g.1]; exact hnm)).symm, Below.refl _ _⟩
end Go.Proofs.Ytbfilmdociemmaa
