/- The contracts of the functions by which the laws copy, compare, mark and look at poles. -/
import Derived.Test.YtpkdeoehfnnchaaMgA
import Derived.Test.YtpkdeoehfnnchaaBase3
namespace Go.Proofs.Ytpkdeoehfnnchaa
open Go Go.RowKit

set_option maxHeartbeats 400000 in
theorem eqPole_any (W : Int) (A : Option Addr) (n c : Nat) (zs : List Int) (V : Int) (B : Option Addr) (m d : Nat) (ys : List Int) (w : World) (h : RI w A n zs) (g : RI w B m ys) (hn : n ≤ 1048576) (hm : m ≤ 1048576) :
    Calls Try.prog 11 #[.agg #[.int .i64 W, .slice A n c], .agg #[.int .i64 V, .slice B m d]] w (RetB (decide (W = V) && eqB zs ys) w) := by
  by_cases hWV : W = V
  · subst hWV
    go_enter Try.func11, Try.ntmps11
    go_wp2_with fail
    refine (eqIntS_any A n c zs B m d ys _ ?h1 ?h2 hn hm).mono ?_
    case h1 => exact (h.alloc _).alloc _
    case h2 => exact (g.alloc _).alloc _
    obtain ⟨q, hq⟩ : ∃ q, q = eqB zs ys := ⟨_, rfl⟩
    rw [← hq]
    have HQ := Lib.hid hq
    clear hq
    rintro e w1 ⟨rfl, hb⟩
    have HB : Hid (Below w.heap.size w w1) := Below.trans (by repeat (first | exact Below.refl _ _ | exact HB.out | refine Below.setCell ?_ (by simp <;> omega) _ | refine Below.alloc ?_ (by simp <;> omega) _ | refine below_drewN ?_ _)) (hb.mono (by simp <;> omega))
    clear hb h g
    cases q
    all_goals
      go_wp2
      go_ret
      exact ⟨ret_b (by rw [← HQ.out]; simp), (by repeat (first | exact Below.refl _ _ | exact HB.out | refine Below.setCell ?_ (by simp <;> omega) _ | refine Below.alloc ?_ (by simp <;> omega) _ | refine below_drewN ?_ _))⟩
  · have hne : (W != V) = true := by rw [bne_iff_ne]; exact hWV
    have Hd : Hid (decide (W = V) = false) := by show decide (W = V) = false; simpa using hWV
    clear hWV
    go_enter Try.func11, Try.ntmps11
    go_wp2_with fail
    go_ret
    exact ⟨ret_b (by rw [Hd.out]; rfl), by repeat (first | exact Below.refl _ _ | refine Below.alloc ?_ (by simp <;> omega) _)⟩

set_option maxHeartbeats 400000 in
theorem markPole_any (Bs : Nat) (W : Int) (A : Option Addr) (n c : Nat) (zs : List Int) (k : Int) (w : World) (h : OI w Bs A n c zs) (hn : n ≤ 1048576) (hk : 0 ≤ k) (hk2 : k ≤ 1000000000000) :
    Calls Try.prog 14 #[.agg #[.int .i64 W, .slice A n c], .int .i64 k] w (Marked w Bs A n c k) := by
  go_enter Try.func14, Try.ntmps14
  go_wp2_with fail
  refine (markIntS_any Bs A n c zs k _ (h.alloc _) hn hk hk2).mono ?_
  rintro e w1 ⟨rfl, ho, hg⟩
  have HG : Hid (w.grownBy w1 (blk A)) := ⟨hg.os, hg.tape, hg.output, Nat.le_trans (by simp) hg.size, fun i hi hne => (hg.block i (by simp; omega) hne).trans (Below.heap_alloc _ _ _ hi)⟩
  have H1 := Lib.hid ho
  clear hg ho h
  go_wp2
  go_ret
  exact ⟨rfl, H1.out, HG.out⟩

set_option maxHeartbeats 400000 in
theorem heldPole_any (W : Int) (A : Option Addr) (n c : Nat) (k : Int) (w : World) (h : RI w A n (marks k n)) (hn : n ≤ 1048576) (hk : 0 ≤ k) (hk2 : k ≤ 1000000000000) :
    Calls Try.prog 15 #[.agg #[.int .i64 W, .slice A n c], .int .i64 k] w (RetI (k + n) w) := by
  go_enter Try.func15, Try.ntmps15
  go_wp2_with fail
  refine (heldIntS_any A n c k _ (h.alloc _) hn hk hk2).mono ?_
  rintro e w1 ⟨rfl, hb⟩
  have HB : Hid (Below w.heap.size w w1) := Below.trans (by repeat (first | exact Below.refl _ _ | exact HB.out | refine Below.setCell ?_ (by simp <;> omega) _ | refine Below.alloc ?_ (by simp <;> omega) _ | refine below_drewN ?_ _)) (hb.mono (by simp <;> omega))
  clear hb h
  go_wp2
  go_ret
  exact ⟨rfl, HB.out⟩

end Go.Proofs.Ytpkdeoehfnnchaa
