/- The contracts of LeastLadder's and LongestLadder's models. -/
import Derived.Test.YtcomgoapekkleaaLf2
import Derived.Test.YtcomgoapekkleaaO3
import Derived.Test.YtcomgoapekkleaaC1m
namespace Go.Proofs.Ytcomgoapekkleaa
open Go Go.RowKit

theorem ord_in8 {zs : List Int} (h : ord zs = true) : Inn8 zs := by
  have h8 := (ord_iff.1 h).2.1
  refine ⟨h8, fun j hj => ?_⟩
  have := (ord_iff.1 h).2.2.1 _ (mem_gi.2 ⟨j, hj, rfl⟩)
  omega
/-- an order of at least two numbers -/
def leastB (zs : List Int) : Bool := ord zs && decide (2 ≤ zs.length)
theorem leastB_no1 {zs : List Int} (h : ord zs = false) : leastB zs = false := by simp [leastB, h]
theorem leastB_no2 {zs : List Int} (h : zs.length < 2) : leastB zs = false := by simp [leastB]; omega
theorem leastB_yes {zs : List Int} (h : ord zs = true) (h2 : 2 ≤ zs.length) : leastB zs = true := by simp [leastB, h, h2]
def leastL (zs : List Int) : List Int := ifL (leastB zs) (firstL zs)
def leastW (zs : List Int) : Int := ifW (leastB zs) zs.length
theorem leastL_len (zs : List Int) : (leastL zs).length ≤ 1000 := by
  unfold leastL
  rcases leastB zs with _ | _
  · rw [ifL_no]; simp
  · rw [ifL_yes]; have := firstL_len zs; omega
theorem leastN_no {zs : List Int} (h : leastB zs = false) : leastL zs = [] ∧ leastW zs = 0 := by unfold leastL leastW; rw [h]; exact ⟨rfl, rfl⟩
theorem leastN_yes {zs : List Int} (h : leastB zs = true) : leastL zs = firstL zs ∧ leastW zs = zs.length := by unfold leastL leastW; rw [h]; exact ⟨rfl, rfl⟩

set_option maxRecDepth 100000 in
set_option maxHeartbeats 2000000 in
theorem sLeastLadder_any (A0 : Option Addr) (n c0 : Nat) (zs : List Int) (w : World) (h : RI w A0 n zs) (hn : n ≤ 1048576) (hnc : n ≤ c0) :
    Calls Try.prog 30 #[.slice A0 n c0] w (FreshLB w (leastW zs) (leastL zs).length (leastL zs) (leastB zs)) := by
  have hl := h.1
  have HB := belAlloc (belRefl (w := w)) (.cells #[.int .i64 0, .slice none 0 0] 37)
  have HC := cellNew w (.int .i64 0) (.slice none 0 0) 37
  rcases hq : ord zs with _ | _
  · have e := leastB_no1 hq
    rw [(leastN_no e).1, (leastN_no e).2, e]
    have HW := Lib.hid hq
    clear hq e
    go_enter Try.func30, Try.ntmps30
    go_wp2_with fail
    refine (laOrder_any A0 n c0 zs _ (h.alloc _) hn hnc).mono ?_
    rw [HW.out]
    rintro e w1 ⟨rfl, rfl⟩
    have k0 := HC.out.c0; have k1 := HC.out.c1; have f0 := HC.out.f0; have f1 := HC.out.f1; have hz := HC.out.lt
    clear h
    go_wp2
    exact bodyPost_ret (v := .tuple #[.agg #[.int .i64 0, .slice none 0 0], .bool false]) (by simp [results, Try.results30, go_sem]) rfl ⟨none, 0, rfl, OI.none_ _ _, (by repeat (first | exact Below.refl _ _ | exact HB.out | refine Below.setCell ?_ (by simp <;> omega) _ | refine Below.alloc ?_ (by simp <;> omega) _ | refine below_drewN ?_ _))⟩
  · by_cases h2 : n < 2
    · have e := leastB_no2 (show zs.length < 2 by omega)
      rw [(leastN_no e).1, (leastN_no e).2, e]
      have HW := Lib.hid hq
      clear hq e
      go_enter Try.func30, Try.ntmps30
      go_wp2_with fail
      refine (laOrder_any A0 n c0 zs _ (h.alloc _) hn hnc).mono ?_
      rw [HW.out]
      rintro e w1 ⟨rfl, rfl⟩
      have k0 := HC.out.c0; have k1 := HC.out.c1; have f0 := HC.out.f0; have f1 := HC.out.f1; have hz := HC.out.lt
      clear h
      go_wp2
      exact bodyPost_ret (v := .tuple #[.agg #[.int .i64 0, .slice none 0 0], .bool false]) (by simp [results, Try.results30, go_sem]) rfl ⟨none, 0, rfl, OI.none_ _ _, (by repeat (first | exact Below.refl _ _ | exact HB.out | refine Below.setCell ?_ (by simp <;> omega) _ | refine Below.alloc ?_ (by simp <;> omega) _ | refine below_drewN ?_ _))⟩
    · have e := leastB_yes hq (show 2 ≤ zs.length by omega)
      rw [(leastN_yes e).1, (leastN_yes e).2, e, hl]
      have HW := Lib.hid hq
      have HI := Lib.hid (ord_in8 hq)
      clear hq e
      go_enter Try.func30, Try.ntmps30
      go_wp2_with fail
      refine (laOrder_any A0 n c0 zs _ (h.alloc _) hn hnc).mono ?_
      rw [HW.out]
      rintro e w1 ⟨rfl, rfl⟩
      go_wp2_with fail
      refine (lsFirst_any A0 n c0 zs _ (h.alloc _) HI.out (by omega)).mono ?_
      rintro e w2 ⟨A2, c2, rfl, o2, hb⟩
      replace HC := cellStep HC hb
      replace HB := belStep HB hb
      have HO := Lib.hid o2
      have k0 := HC.out.c0; have k1 := HC.out.c1; have f0 := HC.out.f0; have f1 := HC.out.f1; have hz := HC.out.lt
      clear h hb o2
      go_wp2
      exact bodyPost_ret (v := .tuple #[.agg #[.int .i64 n, .slice A2 (firstL zs).length c2], .bool true]) (by simp [results, Try.results30, go_sem, k0, k1]) rfl
        ⟨A2, c2, rfl, ((HO.out.setBelow (by simp <;> omega) _).setBelow (by simp <;> omega) _).mono (by simp <;> omega), (by repeat (first | exact Below.refl _ _ | exact HB.out | refine Below.setCell ?_ (by simp <;> omega) _ | refine Below.alloc ?_ (by simp <;> omega) _ | refine below_drewN ?_ _))⟩

/-- n - 1, .., 1, 0 -/
def revL (n : Nat) : List Int := (List.range n).map fun (j : Nat) => (n : Int) - 1 - (j : Int)
theorem revL_length (n : Nat) : (revL n).length = n := by simp [revL]
theorem gi_revL {n j : Nat} (h : j < n) : gi (revL n) j = (n : Int) - 1 - j := by rw [gi_lt (by rw [revL_length]; exact h)]; simp [revL]
theorem revL_take {n k : Nat} (h : k < n) : (revL n).take (k + 1) = (revL n).take k ++ [(n : Int) - 1 - k] := by
  have hl := revL_length n
  rw [List.take_succ_eq_append_getElem (by omega), ← gi_lt, gi_revL h]
theorem revL_in8 {n : Nat} (h : n ≤ 8) : Inn8 (revL n) := by
  refine ⟨by rw [revL_length]; exact h, fun j hj => ?_⟩
  rw [revL_length] at hj
  rw [gi_revL hj]; omega
theorem revL_ord {n : Nat} (h : 2 ≤ n) (h8 : n ≤ 8) : ord (revL n) = true := by
  have : n = 2 ∨ n = 3 ∨ n = 4 ∨ n = 5 ∨ n = 6 ∨ n = 7 ∨ n = 8 := by omega
  rcases this with rfl | rfl | rfl | rfl | rfl | rfl | rfl <;> decide +kernel
def lgB (x : Int) : Bool := inB x 2 8
def lgL (x : Int) : List Int := ifL (lgB x) (firstL (revL x.toNat))
theorem lgL_len (x : Int) : (lgL x).length ≤ 1000 := by
  unfold lgL
  rcases lgB x with _ | _
  · rw [ifL_no]; simp
  · rw [ifL_yes]; have := firstL_len (revL x.toNat); omega

set_option maxRecDepth 100000 in
set_option maxHeartbeats 2000000 in
theorem sLongestLadder_any (x : Int) (w : World) (_lo : -9223372036854775808 ≤ x) (_hi : x ≤ 9223372036854775807) :
    Calls Try.prog 35 #[.int .i64 x] w (FreshLB w (ifW (lgB x) x) (lgL x).length (lgL x) (lgB x)) := by
  have HB := belAlloc (belRefl (w := w)) (.cells #[.int .i64 0, .slice none 0 0] 37)
  have HC := cellNew w (.int .i64 0) (.slice none 0 0) 37
  unfold lgL
  rcases hq : lgB x with _ | _
  · rw [ifW_no, ifL_no]
    have HW : Hid (inB x 2 8 = false) := hq
    clear hq
    go_enter Try.func35, Try.ntmps35
    go_wp2_with (go_at_call 48; refine (l1In_any _ _ _ _).mono ?_; rw [HW.out]; rintro e w' ⟨rfl, rfl⟩)
    exact bodyPost_ret (v := .tuple #[.agg #[.int .i64 0, .slice none 0 0], .bool false]) (by simp [results, Try.results35, go_sem]) rfl ⟨none, 0, rfl, OI.none_ _ _, (by repeat (first | exact Below.refl _ _ | exact HB.out | refine Below.setCell ?_ (by simp <;> omega) _ | refine Below.alloc ?_ (by simp <;> omega) _ | refine below_drewN ?_ _))⟩
  · rw [ifW_yes, ifL_yes]
    have HW : Hid (inB x 2 8 = true) := hq
    have hx := inB_iff.1 hq
    obtain ⟨n, rfl⟩ : ∃ n : Nat, x = (n : Int) := ⟨x.toNat, by omega⟩
    rw [Int.toNat_natCast]
    have h2 : 2 ≤ n := by omega
    have h8 : n ≤ 8 := by omega
    clear hq hx
    go_enter Try.func35, Try.ntmps35
    go_wp2_with (go_at_call 48; refine (l1In_any _ _ _ _).mono ?_; rw [HW.out]; rintro e w' ⟨rfl, rfl⟩)
    have hz0 : w.heap.size < (w.alloc (.cells #[.int .i64 0, .slice none 0 0] 37)).heap.size := by simp
    obtain ⟨w1, hw1⟩ : ∃ w1, w1 = w.alloc (.cells #[.int .i64 0, .slice none 0 0] 37) := ⟨_, rfl⟩
    rw [← hw1] at HB HC hz0 ⊢
    clear hw1
    go_loopw [4, 5] (fun s4 i wr => ∃ (k : Nat) (A : Option Addr) (c : Nat), k ≤ n ∧ i = .int .i64 ((n : Int) - 1 - k) ∧ s4 = .slice A k c ∧ OI wr w1.heap.size A k c ((revL n).take k) ∧ Below w1.heap.size w1 wr) (fun _ i _ => (intOf i + 1).toNat)
    case atStart => exact ⟨0, none, 0, Nat.zero_le _, by simp, rfl, OI.none_ _ _, Below.refl _ _⟩
    case round =>
      obtain ⟨k, A1, c1, hk, rfl, rfl, ho, hb⟩ := hrel
      have HO := Lib.hid ho
      have H1 := Lib.hid hb
      clear ho hb
      by_cases hlt : k < n
      · have HT := Lib.hid (revL_take hlt)
        go_wp2_with (at_builtin; refine wpList_append_int _ rfl _ _ rfl w1.heap.size A1 k c1 _ ((n : Int) - 1 - k) _ rfl rfl (HO.out.alloc _) (cellNewAt _ _ _ rfl) (by omega) (by have := H1.out.size; simp; omega) ?_; intro A2 c2 w2 ho2 hg2; have HO2 := Lib.hid ho2; have H2 := belGrown (belAlloc H1 _) (HO.out.alloc _) hg2 (Nat.le_refl _); clear ho2 hg2)
        go_roundw
        case rel => exact ⟨k + 1, A2, c2, hlt, by go_num, rfl, by rw [HT.out]; exact HO2.out, H2.out⟩
        case measure => simp [intOf]; omega
      · obtain rfl : k = n := by omega
        have e : (revL k).take k = revL k := List.take_of_length_le (by rw [revL_length]; omega)
        rw [e] at HO
        replace HB := belStep HB H1.out
        replace HC := cellStep HC H1.out
        go_wp2_with fail
        refine (lsFirst_any A1 k c1 (revL k) _ HO.out.ri (revL_in8 h8) (by omega)).mono ?_
        rintro e w2 ⟨A2, c2, rfl, o2, hb⟩
        replace HC := cellStep HC hb
        replace HB := belStep HB hb
        have HZ := H1.out.size
        have HO2 := Lib.hid o2
        have k0 := HC.out.c0; have k1 := HC.out.c1; have f0 := HC.out.f0; have f1 := HC.out.f1; have hz := HC.out.lt
        clear hb o2
        go_wp2
        exact bodyPost_ret (v := .tuple #[.agg #[.int .i64 k, .slice A2 (firstL (revL k)).length c2], .bool true]) (by simp [results, Try.results35, go_sem, k0, k1]) rfl
          ⟨A2, c2, rfl, ((HO2.out.setBelow (by first | omega | (simp; omega)) _).setBelow (by first | omega | (simp; omega)) _).mono (by first | omega | (simp; omega)), (by repeat (first | exact Below.refl _ _ | exact HB.out | refine Below.setCell ?_ (by simp <;> omega) _ | refine Below.alloc ?_ (by simp <;> omega) _ | refine below_drewN ?_ _))⟩
end Go.Proofs.Ytcomgoapekkleaa
