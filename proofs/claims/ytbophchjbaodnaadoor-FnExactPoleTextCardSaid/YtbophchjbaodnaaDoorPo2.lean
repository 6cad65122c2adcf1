/- The contracts of the functions by which the laws copy, compare, mark and look at poles. -/
import Derived.Test.YtbophchjbaodnaaDoorMgA
import Derived.Test.YtbophchjbaodnaaDoorBase3
namespace Go.Proofs.YtbophchjbaodnaaDoor
open Go Go.RowKit

set_option maxHeartbeats 400000 in
theorem szPole_any (W : Int) (A : Option Addr) (n c : Nat) (left : Int) (w : World) (h1 : 0 ≤ left) (h2 : left ≤ 1048576) (hn : n ≤ 9223372036854775807) :
    Calls Tryd.prog 4 #[.agg #[.int .i64 W, .slice A n c], .int .i64 left] w (RetI (szv n left) w) := by
  by_cases hc : (n : Int) ≤ left
  · have e : szv n left = left - n := (szv_yes hc).symm
    have E := Lib.hid e
    clear e
    go_enter Tryd.func4, Tryd.ntmps4
    go_wp2_with fail
    refine (szIntS_any _ _ _ _ _ h1 h2 hn).mono ?_
    rw [E.out]
    rintro e w' ⟨rfl, hb⟩
    have hh := (Below.refl w.heap.size w).alloc (Nat.le_refl _) (.cells #[.int .i64 W, .slice A n c] 24) |>.trans (hb.mono (by simp))
    go_wp2
    go_ret
    exact ⟨ret_i E.out.symm, hh⟩
  · have e : szv n left = -1 := (szv_no hc).symm
    have E := Lib.hid e
    clear e
    go_enter Tryd.func4, Tryd.ntmps4
    go_wp2_with fail
    refine (szIntS_any _ _ _ _ _ h1 h2 hn).mono ?_
    rw [E.out]
    rintro e w' ⟨rfl, hb⟩
    have hh := (Below.refl w.heap.size w).alloc (Nat.le_refl _) (.cells #[.int .i64 W, .slice A n c] 24) |>.trans (hb.mono (by simp))
    go_wp2
    go_ret
    exact ⟨ret_i E.out.symm, hh⟩

set_option maxHeartbeats 400000 in
theorem toPole_any (W : Int) (A : Option Addr) (n c : Nat) (zs : List Int) (w : World) (h : RI w A n zs) (hn : n ≤ 1048576) :
    Calls Tryd.prog 6 #[.agg #[.int .i64 W, .slice A n c]] w (FreshL w W n zs) := by
  go_enter Tryd.func6, Tryd.ntmps6
  go_wp2_with fail
  refine (toIntS_any A n c zs _ ?h1 hn).mono ?_
  case h1 => exact ((h.alloc _).alloc _).alloc _
  rintro e w1 ⟨A1, c1, rfl, ho, hb⟩
  obtain ⟨hc, hf⟩ := bcell hb
  have hz : w.heap.size + 1 + 1 < w1.heap.size := by have := hb.size; simp at this; omega
  have HB : Hid (Below w.heap.size w w1) := Below.trans (by repeat (first | exact Below.refl _ _ | exact HB.out | refine Below.setCell ?_ (by simp <;> omega) _ | refine Below.alloc ?_ (by simp <;> omega) _ | refine below_drewN ?_ _)) (hb.mono (by simp <;> omega))
  have H1 := Lib.hid ho
  clear ho hb h
  go_wp2
  exact bodyPost_ret (v := .agg #[.int .i64 W, .slice A1 n c1]) (by simp [results, Tryd.results6, go_sem, hc]) rfl
    ⟨A1, c1, rfl, (((H1.out.setBelow (by simp <;> omega) _).setBelow (by simp <;> omega) _).setBelow (by simp <;> omega) _).mono (by simp <;> omega), (by repeat (first | exact Below.refl _ _ | exact HB.out | refine Below.setCell ?_ (by simp <;> omega) _ | refine Below.alloc ?_ (by simp <;> omega) _ | refine below_drewN ?_ _))⟩

set_option maxHeartbeats 400000 in
theorem eqPole_any (W : Int) (A : Option Addr) (n c : Nat) (zs : List Int) (V : Int) (B : Option Addr) (m d : Nat) (ys : List Int) (w : World) (h : RI w A n zs) (g : RI w B m ys) (hn : n ≤ 1048576) (hm : m ≤ 1048576) :
    Calls Tryd.prog 8 #[.agg #[.int .i64 W, .slice A n c], .agg #[.int .i64 V, .slice B m d]] w (RetB (decide (W = V) && eqB zs ys) w) := by
  by_cases hWV : W = V
  · subst hWV
    go_enter Tryd.func8, Tryd.ntmps8
    go_wp2_with fail
    refine (eqIntS_any A n c zs B m d ys _ ?h1 ?h2 hn hm).mono ?_
    case h1 => exact (h.alloc _).alloc _
    case h2 => exact (g.alloc _).alloc _
    obtain ⟨q, hq⟩ : ∃ q, q = eqB zs ys := ⟨_, rfl⟩
    rw [← hq]
    have HQ := Lib.hid hq
    clear hq
    rintro e w1 ⟨rfl, hb⟩
    have HB : Hid (Below w.heap.size w w1) := Below.trans (by repeat (first | exact Below.refl _ _ | exact HB.out | refine Below.setCell ?_ (by simp <;> omega) _ | refine Below.alloc ?_ (by simp <;> omega) _ | refine below_drewN ?_ _)) (hb.mono (by simp <;> omega))
    clear hb h g
    cases q
    all_goals
      go_wp2
      go_ret
      exact ⟨ret_b (by rw [← HQ.out]; simp), (by repeat (first | exact Below.refl _ _ | exact HB.out | refine Below.setCell ?_ (by simp <;> omega) _ | refine Below.alloc ?_ (by simp <;> omega) _ | refine below_drewN ?_ _))⟩
  · have hne : (W != V) = true := by rw [bne_iff_ne]; exact hWV
    have Hd : Hid (decide (W = V) = false) := by show decide (W = V) = false; simpa using hWV
    clear hWV
    go_enter Tryd.func8, Tryd.ntmps8
    go_wp2_with fail
    go_ret
    exact ⟨ret_b (by rw [Hd.out]; rfl), by repeat (first | exact Below.refl _ _ | refine Below.alloc ?_ (by simp <;> omega) _)⟩

set_option maxHeartbeats 400000 in
theorem toPole_some (W : Int) (A : Option Addr) (n c : Nat) (zs : List Int) (w : World) (h : RI w A n zs) (hn : n ≤ 1048576) :
    Calls Tryd.prog 6 #[.agg #[.int .i64 W, .slice A n c]] w (FreshLS w W n zs) := by
  go_enter Tryd.func6, Tryd.ntmps6
  go_wp2_with fail
  refine (toIntS_some A n c zs _ ?h1 hn).mono ?_
  case h1 => exact ((h.alloc _).alloc _).alloc _
  rintro e w1 ⟨g1, rfl, ho, hb⟩
  obtain ⟨hc, hf⟩ := bcell hb
  have hz : w.heap.size + 1 + 1 < w1.heap.size := by have := hb.size; simp at this; omega
  have HB : Hid (Below w.heap.size w w1) := Below.trans (by repeat (first | exact Below.refl _ _ | exact HB.out | refine Below.setCell ?_ (by simp <;> omega) _ | refine Below.alloc ?_ (by simp <;> omega) _ | refine below_drewN ?_ _)) (hb.mono (by simp <;> omega))
  have H1 := Lib.hid ho
  clear ho hb h
  go_wp2
  exact bodyPost_ret (v := .agg #[.int .i64 W, .slice (some ⟨g1, 0, none⟩) n n]) (by simp [results, Tryd.results6, go_sem, hc]) rfl
    ⟨g1, rfl, (((H1.out.setBelow (by simp <;> omega) _).setBelow (by simp <;> omega) _).setBelow (by simp <;> omega) _).mono (by simp <;> omega), (by repeat (first | exact Below.refl _ _ | exact HB.out | refine Below.setCell ?_ (by simp <;> omega) _ | refine Below.alloc ?_ (by simp <;> omega) _ | refine below_drewN ?_ _))⟩
end Go.Proofs.YtbophchjbaodnaaDoor
