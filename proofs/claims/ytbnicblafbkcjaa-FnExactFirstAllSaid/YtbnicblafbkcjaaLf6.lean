/- The contracts of the program's LongestLadder. -/
import Derived.Test.YtbnicblafbkcjaaLf4
namespace Go.Proofs.Ytbnicblafbkcjaa
open Go Go.RowKit

set_option maxRecDepth 100000 in
set_option maxHeartbeats 4000000 in
theorem iLongestLadder_any (x : Int) (w : World) (_lo : -9223372036854775808 ≤ x) (_hi : x ≤ 9223372036854775807) :
    Calls Try.prog 43 #[.int .i64 x] w (FreshLB w (ifW (lgB x) x) (lgL x).length (lgL x) (lgB x)) := by
  have HB := belAlloc (belRefl (w := w)) (.cells #[.int .i64 0, .slice none 0 0] 59)
  have HC := cellNew w (.int .i64 0) (.slice none 0 0) 59
  unfold lgL
  by_cases hx : 2 ≤ x ∧ x ≤ 8
  · have hq : lgB x = true := inB_true ⟨hx.1, hx.2⟩
    rw [hq, ifW_yes, ifL_yes]
    obtain ⟨n, rfl⟩ : ∃ n : Nat, x = (n : Int) := ⟨x.toNat, by omega⟩
    rw [Int.toNat_natCast]
    have h2 : 2 ≤ n := by omega
    have h8 : n ≤ 8 := by omega
    have HY := leastN_yes (leastB_yes (revL_ord h2 h8) (by rw [revL_length]; exact h2))
    have HYB := Lib.hid (leastB_yes (revL_ord h2 h8) (by rw [revL_length]; exact h2))
    have HYL := Lib.hid HY.1
    have HYW := Lib.hid HY.2
    have hmk := run_make_row' (P := Try.prog) 22 3 (.int .i64 0) 8 Try.underlying22 infoInt rfl .i64 .i64 n (by omega) (by omega)
    clear hq hx HY
    go_enter Try.func43, Try.ntmps43
    go_wp2_with fail
    have hz0 : w.heap.size < (w.alloc (.cells #[.int .i64 0, .slice none 0 0] 59)).heap.size := by simp
    obtain ⟨w1, hw1⟩ : ∃ w1, w1 = w.alloc (.cells #[.int .i64 0, .slice none 0 0] 59) := ⟨_, rfl⟩
    rw [← hw1] at HB HC hz0 ⊢
    have HS : Hid (w.heap.size + 1 = w1.heap.size) := by show w.heap.size + 1 = w1.heap.size; rw [hw1]; simp
    clear hw1
    go_loopw [5, 17] (fun _ i wr => ∃ k : Nat, k ≤ n ∧ i = .int .i64 k ∧ wr.rowIs w1.heap.size 3 n (fun j => if j < k then .int .i64 (gi (revL n) j) else .int .i64 0) ∧ Below w1.heap.size w1 wr) (fun _ i _ => n - (intOf i).toNat)
    case atStart =>
      refine ⟨0, Nat.zero_le _, rfl, (World.rowIs_made w1 (.int .i64 0) n 3).congr (fun j _ => by simp), (Below.refl _ _).alloc (Nat.le_refl _) _⟩
    case round =>
      obtain ⟨k, hk, rfl, hrow, hb⟩ := hrel
      have H1 := Lib.hid hrow
      have H2 := Lib.hid hb
      by_cases hlt : k < n
      · have hd := hrow.cell hlt
        have hf := hrow.frozen k
        simp only [Nat.lt_irrefl, if_false] at hd
        have hg := gi_revL hlt
        clear hrow hb hmk
        rw [HS.out]
        go_wp2
        go_roundw
        case rel =>
          refine ⟨k + 1, by omega, by go_num, (H1.out.set k _).congr (fun j hj => ?_), H2.out.setCell (by simp) _⟩
          by_cases e : j = k
          · subst e; simp [hg]
          · by_cases e2 : j < k
            · simp [e, e2, show j < k + 1 by omega]
            · simp [e, e2, show ¬ j < k + 1 by omega]
        case measure => simp [intOf]; omega
      · obtain rfl : k = n := by omega
        clear hmk hrow hb
        have HR : Hid (OI _ w1.heap.size (some ⟨w1.heap.size, 0, none⟩) k k (revL k)) := OI.of_rowIs (Nat.le_refl _) H1.out (by simp only [maxLen]; omega) (revL_length _) (fun j hj => by simp [hj])
        replace HB := belStep HB H2.out
        replace HC := cellStep HC H2.out
        rw [HS.out]
        go_wp2_with fail
        refine (iLeastLadder_any _ k k (revL k) _ HR.out.ri (by omega) (Nat.le_refl _)).mono ?_
        rw [HYB.out, HYL.out, HYW.out, revL_length]
        rintro e w2 ⟨A2, c2, rfl, o2, hb⟩
        replace HC := cellStep HC hb
        replace HB := belStep HB hb
        have HZ := H2.out.size
        have HO2 := Lib.hid o2
        have k0 := HC.out.c0; have k1 := HC.out.c1; have f0 := HC.out.f0; have f1 := HC.out.f1; have hz := HC.out.lt
        clear hb o2
        go_wp2
        exact bodyPost_ret (v := .tuple #[.agg #[.int .i64 k, .slice A2 (firstL (revL k)).length c2], .bool true]) (by simp [results, Try.results43, go_sem, k0, k1]) rfl
          ⟨A2, c2, rfl, ((HO2.out.setBelow (by first | omega | (simp; omega)) _).setBelow (by first | omega | (simp; omega)) _).mono (by first | omega | (simp; omega)), (by repeat (first | exact Below.refl _ _ | exact HB.out | refine Below.setCell ?_ (by simp <;> omega) _ | refine Below.alloc ?_ (by simp <;> omega) _ | refine below_drewN ?_ _))⟩
  · have hq : lgB x = false := by
      rw [← Bool.not_eq_true]
      intro e
      exact hx (inB_iff.1 e)
    rw [hq, ifW_no, ifL_no]
    clear hq
    go_enter Try.func43, Try.ntmps43
    rcases (show x < 2 ∨ 2 ≤ x by omega) with h1 | h1
    · clear hx
      go_wp2
      exact bodyPost_ret (v := .tuple #[.agg #[.int .i64 0, .slice none 0 0], .bool false]) (by simp [results, Try.results43, go_sem]) rfl ⟨none, 0, rfl, OI.none_ _ _, (by repeat (first | exact Below.refl _ _ | exact HB.out | refine Below.setCell ?_ (by simp <;> omega) _ | refine Below.alloc ?_ (by simp <;> omega) _ | refine below_drewN ?_ _))⟩
    · have h9 : 8 < x := by omega
      clear hx
      go_wp2
      exact bodyPost_ret (v := .tuple #[.agg #[.int .i64 0, .slice none 0 0], .bool false]) (by simp [results, Try.results43, go_sem]) rfl ⟨none, 0, rfl, OI.none_ _ _, (by repeat (first | exact Below.refl _ _ | exact HB.out | refine Below.setCell ?_ (by simp <;> omega) _ | refine Below.alloc ?_ (by simp <;> omega) _ | refine below_drewN ?_ _))⟩
end Go.Proofs.Ytbnicblafbkcjaa
