/- BrickLadder, of the program. -/
import Derived.Test.YtnhhbpogjhcibaaOl1
namespace Go.Proofs.Ytnhhbpogjhcibaa
open Go Go.RowKit

def bkB (x y : Int) : Bool := inB x 2 8 && inB y 0 20 && lad x (oeK x.toNat y.toNat)
def bkL (x y : Int) : List Int := ifL (bkB x y) (oeK x.toNat y.toNat)
theorem bkL_len (x y : Int) : (bkL x y).length ≤ 1000 := by
  unfold bkL
  rcases h : bkB x y with _ | _
  · rw [ifL_no]; simp
  · rw [ifL_yes]
    unfold bkB at h
    simp only [Bool.and_eq_true] at h
    have h1 := inB_iff.1 h.1.1
    have h2 := inB_iff.1 h.1.2
    have := oeK_len x.toNat (by omega) y.toNat
    omega
theorem bkB_yes {x y : Int} (hx : 2 ≤ x ∧ x ≤ 8) (hy : 0 ≤ y ∧ y ≤ 20) : bkB x y = lad x (oeK x.toNat y.toNat) := by
  unfold bkB
  rw [inB_true hx, inB_true hy]; simp
theorem bkB_no {x y : Int} (h : ¬ ((2 ≤ x ∧ x ≤ 8) ∧ 0 ≤ y ∧ y ≤ 20)) : bkB x y = false := by
  rw [← Bool.not_eq_true]
  intro e
  unfold bkB at e
  simp only [Bool.and_eq_true] at e
  exact h ⟨inB_iff.1 e.1.1, inB_iff.1 e.1.2⟩

set_option maxRecDepth 100000 in
set_option maxHeartbeats 1000000 in
theorem iBrickLadder_any (x y : Int) (w : World) :
    Calls Try.prog 42 #[.int .i64 x, .int .i64 y] w (FreshLB w (ifW (bkB x y) x) (bkL x y).length (bkL x y) (bkB x y)) := by
  have HB := belAlloc (belRefl (w := w)) (.cells #[.int .i64 0, .slice none 0 0] 24)
  have HC := cellNew w (.int .i64 0) (.slice none 0 0) 24
  unfold bkL
  by_cases hx : (2 ≤ x ∧ x ≤ 8) ∧ 0 ≤ y ∧ y ≤ 20
  · rw [bkB_yes hx.1 hx.2]
    obtain ⟨n, rfl⟩ : ∃ n : Nat, x = (n : Int) := ⟨x.toNat, by omega⟩
    obtain ⟨v, rfl⟩ : ∃ v : Nat, y = (v : Int) := ⟨y.toNat, by omega⟩
    simp only [Int.toNat_natCast]
    have h2 : 2 ≤ n := by omega
    have h8 : n ≤ 8 := by omega
    have hv : v ≤ 20 := by omega
    have hlen := oeK_len n h8 v
    have HO := Lib.hid (fun w2 => oddEvenLevels_any n v w2 h8 h2 (by omega))
    obtain ⟨ys, hys⟩ : ∃ ys, ys = oeK n v := ⟨_, rfl⟩
    rw [← hys] at hlen ⊢
    have HYS := Lib.hid hys
    clear hx hys
    go_enter Try.func42, Try.ntmps42
    go_wp2_with fail
    refine (HO.out _).mono ?_
    rintro e w1 ⟨A, M, S, rfl, o1, hb⟩
    replace HB := belStep HB hb
    replace HC := cellStep HC hb
    have HY := Lib.hid o1
    have HZ1 : Hid (w.heap.size + 1 ≤ w1.heap.size) := Lib.hid (by have := hb.size; simp at this; omega)
    clear hb o1
    go_wp2_with fail
    refine (ladderOf_any (n : Int) A v v _ _ _ _ _ HY.out.parts (by omega) ys (by rw [HYS.out, oeK_cat]; exact cat_congr v (fun j hj => gz_oeT n v j hj)) (by omega)).mono ?_
    rintro e w2 ⟨A2, c2, rfl, o2, hb⟩
    replace HB := belStep HB hb
    replace HC := cellStep HC hb
    have HO2 : Hid (OI w2 (w.heap.size + 1) A2 (ifL (lad (n : Int) ys) ys).length c2 (ifL (lad (n : Int) ys) ys)) := Lib.hid (o2.mono (by have := HC.out.lt; have := HZ1.out; simp; omega))
    have k0 := HC.out.c0; have k1 := HC.out.c1; have f0 := HC.out.f0; have f1 := HC.out.f1; have hz := HC.out.lt
    clear hb o2
    go_wp2
    exact bodyPost_ret (v := .tuple #[.agg #[.int .i64 (ifW (lad (n : Int) ys) n), .slice A2 (ifL (lad (n : Int) ys) ys).length c2], .bool (lad (n : Int) ys)]) (by simp [results, Try.results42, go_sem, k0, k1]) rfl
      ⟨A2, c2, rfl, ((HO2.out.setBelow (by simp <;> omega) _).setBelow (by simp <;> omega) _).mono (by omega), (HB.out.setCell (by simp) _).setCell (by simp) _⟩
  · have HQ := Lib.hid (bkB_no hx)
    rw [HQ.out, ifW_no, ifL_no]
    have k0 := HC.out.c0; have k1 := HC.out.c1; have f0 := HC.out.f0; have f1 := HC.out.f1; have hz := HC.out.lt
    by_cases h1 : x < 2
    · clear hx
      go_enter Try.func42, Try.ntmps42
      go_wp2
      exact bodyPost_ret (v := .tuple #[.agg #[.int .i64 0, .slice none 0 0], .bool false]) (by simp [results, Try.results42, go_sem, k0, k1]) rfl ⟨none, 0, rfl, OI.none_ _ _, (by repeat (first | exact Below.refl _ _ | exact HB.out | refine Below.setCell ?_ (by simp <;> omega) _ | refine Below.alloc ?_ (by simp <;> omega) _ | refine below_drewN ?_ _))⟩
    · by_cases h3 : 8 < x
      · clear hx
        go_enter Try.func42, Try.ntmps42
        go_wp2
        exact bodyPost_ret (v := .tuple #[.agg #[.int .i64 0, .slice none 0 0], .bool false]) (by simp [results, Try.results42, go_sem, k0, k1]) rfl ⟨none, 0, rfl, OI.none_ _ _, (by repeat (first | exact Below.refl _ _ | exact HB.out | refine Below.setCell ?_ (by simp <;> omega) _ | refine Below.alloc ?_ (by simp <;> omega) _ | refine below_drewN ?_ _))⟩
      · by_cases h4 : y < 0
        · clear hx
          go_enter Try.func42, Try.ntmps42
          go_wp2
          exact bodyPost_ret (v := .tuple #[.agg #[.int .i64 0, .slice none 0 0], .bool false]) (by simp [results, Try.results42, go_sem, k0, k1]) rfl ⟨none, 0, rfl, OI.none_ _ _, (by repeat (first | exact Below.refl _ _ | exact HB.out | refine Below.setCell ?_ (by simp <;> omega) _ | refine Below.alloc ?_ (by simp <;> omega) _ | refine below_drewN ?_ _))⟩
        · have h5 : 20 < y := by omega
          clear hx
          go_enter Try.func42, Try.ntmps42
          go_wp2
          exact bodyPost_ret (v := .tuple #[.agg #[.int .i64 0, .slice none 0 0], .bool false]) (by simp [results, Try.results42, go_sem, k0, k1]) rfl ⟨none, 0, rfl, OI.none_ _ _, (by repeat (first | exact Below.refl _ _ | exact HB.out | refine Below.setCell ?_ (by simp <;> omega) _ | refine Below.alloc ?_ (by simp <;> omega) _ | refine below_drewN ?_ _))⟩
end Go.Proofs.Ytnhhbpogjhcibaa
