/- How far two numbers are apart, parts of lists of rungs, and other rungs in their place. -/
import Derived.Test.YtnogmbhcphglkaaDoorConR
import Derived.Test.YtnogmbhcphglkaaDoorC1p
import Derived.Test.YtnogmbhcphglkaaDoorNf1
import Derived.Deep.RegionHeld3
import Derived.IntWalk
import Derived.BigQuiet
namespace Go.Proofs.YtnogmbhcphglkaaDoor
open Go Go.RowKit

theorem Parts.threeR {w : World} {A1 A2 A3 : Option Addr} {n1 c1 n2 c2 n3 c3 : Nat} {z1 z2 z3 : List Int} (h1 : RI w A1 n1 z1) (h2 : RI w A2 n2 z2) (h3 : RI w A3 n3 z3) :
    Parts (w.alloc (.cells #[.slice A1 n1 c1, .slice A2 n2 c2, .slice A3 n3 c3] 53)) (some ⟨w.heap.size, 0, none⟩) 3 (sel3 A1 A2 A3) (sel3 n1 n2 n3) (sel3 c1 c2 c3) (sel3 z1 z2 z3) := by
  refine ⟨fun _ => ⟨w.heap.size, 0, rfl, by simp, fun j hj => ?_⟩, fun j hj => ?_⟩
  · match j, hj with
    | 0, _ => simp [sel3]
    | 1, _ => simp [sel3]
    | 2, _ => simp [sel3]
  · match j, hj with
    | 0, _ => exact h1.alloc _
    | 1, _ => exact h2.alloc _
    | 2, _ => exact h3.alloc _
theorem belowAllocDrew {w wj : World} {o : Obj} (hb : Below (w.alloc o).drew.heap.size (w.alloc o).drew wj) : Below w.heap.size w wj :=
  (((Below.refl _ _).alloc (Nat.le_refl _) o).drew).trans (hb.mono (by show w.heap.size ≤ (w.alloc o).heap.size; simp))
/-- how far two numbers are apart -/
def absd (x : Int) : Int := if x < 0 then -x else x
theorem absd_neg (x : Int) : absd (-x) = absd x := by unfold absd; split <;> split <;> omega
theorem absd_bd {x : Int} (h : -10 ≤ x ∧ x ≤ 10) : 0 ≤ absd x ∧ absd x ≤ 10 := by unfold absd; split <;> omega
theorem far_abs (a b : Int) : far a b = decide (2 ≤ absd (a - b)) := by
  unfold far absd
  by_cases h : a - b < 0
  · rw [if_pos h]; by_cases h2 : 2 ≤ -(a - b)
    · rw [decide_eq_true h2, decide_eq_true (by omega)]
    · rw [decide_eq_false h2, decide_eq_false (by omega)]
  · rw [if_neg h]; by_cases h2 : 2 ≤ a - b
    · rw [decide_eq_true h2, decide_eq_true (by omega)]
    · rw [decide_eq_false h2, decide_eq_false (by omega)]
theorem nigh_abs (a b : Int) : nigh a b = decide (absd (a - b) = 1) := by
  unfold nigh absd
  by_cases h : a - b < 0
  · rw [if_pos h]; by_cases h2 : -(a - b) = 1
    · rw [decide_eq_true h2, decide_eq_true (by omega)]
    · rw [decide_eq_false h2, decide_eq_false (by omega)]
  · rw [if_neg h]; by_cases h2 : a - b = 1
    · rw [decide_eq_true h2, decide_eq_true (by omega)]
    · rw [decide_eq_false h2, decide_eq_false (by omega)]
/-- an int, and the world as it was -/
def SameI' (n : Int) (w : World) (e : Ending) (w' : World) : Prop := e = .returned (.int .i64 n) ∧ w' = w

set_option maxHeartbeats 400000 in
theorem l1Abs_any (x : Int) (w : World) (hx : -10 ≤ x ∧ x ≤ 10) : Calls Tryd.prog 55 #[.int .i64 x] w (SameI' (absd x) w) := by
  have hneg : IntKind.i64.wrap (-x) = -x := IntWalk.i64_in _ (by omega)
  by_cases h : x < 0
  · have e : absd x = -x := by unfold absd; rw [if_pos h]
    rw [e]
    have h2 : x < -x := by omega
    go_enter Tryd.func55, Tryd.ntmps55
    go_wp2_with (go_at_call 66; go_in)
    all_goals
      go_ret
      exact ⟨ret_i (by omega), rfl⟩
  · have e : absd x = x := by unfold absd; rw [if_neg h]
    rw [e]
    have h2 : ¬ x < -x := by omega
    have h3 : -x ≤ x := by omega
    go_enter Tryd.func55, Tryd.ntmps55
    go_wp2_with (go_at_call 66; go_in)
    all_goals
      go_ret
      exact ⟨ret_i (by omega), rfl⟩

set_option maxHeartbeats 400000 in
theorem apart_any (a b : Int) (w : World) (ha : 0 ≤ a ∧ a ≤ 10) (hb : 0 ≤ b ∧ b ≤ 10) : Calls Tryd.prog 62 #[.int .i64 a, .int .i64 b] w (SameI' (absd (a - b)) w) := by
  have h1 : IntKind.i64.wrap (a - b) = a - b := IntWalk.i64_in _ (by omega)
  have h2 : IntKind.i64.wrap (b - a) = b - a := IntWalk.i64_in _ (by omega)
  by_cases h : a - b < 0
  · have e : absd (a - b) = b - a := by unfold absd; rw [if_pos h]; omega
    rw [e]
    go_enter Tryd.func62, Tryd.ntmps62
    go_wp2
    go_ret
    exact ⟨rfl, rfl⟩
  · have e : absd (a - b) = a - b := by unfold absd; rw [if_neg h]
    rw [e]
    go_enter Tryd.func62, Tryd.ntmps62
    go_wp2
    go_ret
    exact ⟨rfl, rfl⟩

theorem part_ok (b off n c : Nat) (k m : Nat) (w : World) (hkm : k + m ≤ n) (hnc : n ≤ c) (hm : 2 ≤ m) (hm9 : m ≤ 9) (hn : n ≤ 1000000) :
    Calls Tryd.prog 61 #[.slice (some ⟨b, off, none⟩) n c, .int .i64 (k : Int), .int .i64 (m : Int)] w
      (fun e w' => e = .returned (.tuple #[.slice (some ⟨b, off + k, none⟩) m (c - k), .bool true]) ∧ w' = w) := by
  have h1 : (k : Int) ≤ (n : Int) - (m : Int) := by omega
  have h2 : (0 : Int) ≤ (k : Int) := by omega
  have h3 : ¬ c = k := by omega
  have h4 : (k : Int) ≤ (k : Int) + (m : Int) := by omega
  have h5 : (k : Int) + (m : Int) ≤ (c : Int) := by omega
  have h6 : ¬ (n : Int) - (m : Int) < (k : Int) := by omega
  go_enter Tryd.func61, Tryd.ntmps61
  go_wp2
  go_ret2
  exact ⟨rfl, rfl⟩
theorem part_no (A : Option Addr) (n c : Nat) (a : Int) (m : Nat) (w : World) (hno : a < 0 ∨ (n : Int) - (m : Int) < a) (hm9 : m ≤ 9) (hn : n ≤ 1000000) :
    Calls Tryd.prog 61 #[.slice A n c, .int .i64 a, .int .i64 (m : Int)] w
      (fun e w' => e = .returned (.tuple #[.slice none 0 0, .bool false]) ∧ w' = w) := by
  by_cases h1 : a < 0
  · clear hno
    go_enter Tryd.func61, Tryd.ntmps61
    go_wp2
    go_ret2
    exact ⟨rfl, rfl⟩
  · have h2 : (n : Int) - (m : Int) < a := by omega
    have h3 : 0 ≤ a := by omega
    clear hno
    go_enter Tryd.func61, Tryd.ntmps61
    go_wp2
    go_ret2
    exact ⟨rfl, rfl⟩

set_option maxRecDepth 100000 in
set_option maxHeartbeats 2000000 in
theorem with_any (b off n c : Nat) (zs : List Int) (k m : Nat) (mi : Int) (hmi : mi = (m : Int)) (A2 : Option Addr) (n2 c2 : Nat) (ys : List Int) (w : World) (h : RI w (some ⟨b, off, none⟩) n zs) (h2 : RI w A2 n2 ys) (hkm : k + m ≤ n) (hnc : n ≤ c) (hm : 1 ≤ m) (hn : n ≤ 100000) (hn2 : n2 ≤ 100000) :
    Calls Tryd.prog 63 #[.slice (some ⟨b, off, none⟩) n c, .int .i64 (k : Int), .int .i64 mi, .slice A2 n2 c2] w
      (FreshI w (zs.take k ++ (ys ++ zs.drop (k + m))).length (zs.take k ++ (ys ++ zs.drop (k + m)))) := by
  have hzl := h.1
  have hyl := h2.1
  obtain ⟨p, hp⟩ : ∃ p, p = k + m := ⟨_, rfl⟩
  have hw : IntKind.i64.wrap ((k : Int) + mi) = (p : Int) := by rw [IntWalk.i64_in _ (by omega)]; omega
  rw [← hp]
  have i0 : (0 : Int) ≤ (k : Int) := by omega
  have i1 : (k : Int) ≤ (c : Int) := by omega
  have i2 : (0 : Int) ≤ (p : Int) := by omega
  have i3 : (p : Int) ≤ (n : Int) := by omega
  have i4 : (n : Int) ≤ (c : Int) := by omega
  have hkn : k ≤ n := by omega
  have hpn : p ≤ n := by omega
  have hcl : (cat (sel3 (zs.take k) ys (zs.drop p)) 3).length ≤ 1000000 := by rw [cat_three]; simp; omega
  have HT : Hid (cat (sel3 (zs.take k) ys (zs.drop p)) 3 = zs.take k ++ (ys ++ zs.drop p)) := cat_three _ _ _
  have hck : ¬ c = k := by omega
  clear hmi
  by_cases hc : c = p
  · have hnp : p = n := by omega
    subst hnp
    subst hc
    have e0 : zs.drop c = [] := List.drop_eq_nil_of_le (by omega)
    have PT := Lib.hid (Parts.threeR (c1 := c) (c2 := c2) (c3 := 0) (h.take hkn) h2 (show RI w (some ⟨b, off, none⟩) 0 (zs.drop c) by rw [e0]; exact RI.empty w _))
    have HLO := Lib.hid (concat_anyR _ 3 3 _ _ _ _ _ PT.out.drew (by omega) hcl)
    rw [HT.out] at HLO
    obtain ⟨R, hR⟩ : ∃ R, R = zs.take k ++ (ys ++ zs.drop c) := ⟨_, rfl⟩
    rw [← hR] at HLO ⊢
    obtain ⟨ln, hln⟩ : ∃ ln, ln = R.length := ⟨_, rfl⟩
    rw [← hln] at HLO ⊢
    clear hR hln HT hcl
    clear hp hkm h h2 e0 PT
    go_enter Tryd.func63, Tryd.ntmps63
    go_wp2_with fail
    go_region_held3 (fun _ => True) (trivial) ((go_at_call 72; refine HLO.out.mono ?_; rintro e w5 ⟨A5, c5, rfl, o5, hb⟩; have O5 := Lib.hid o5; have B5 := Lib.hid hb; clear o5 hb))
    go_wp2
    go_ret
    exact ⟨A5, c5, rfl, O5.out.mono (by simp), belowAllocDrew B5.out⟩
  · have PT := Lib.hid (Parts.threeR (c1 := c) (c2 := c2) (c3 := c - p) (h.take hkn) h2 (h.drop hpn))
    have HLO := Lib.hid (concat_anyR _ 3 3 _ _ _ _ _ PT.out.drew (by omega) hcl)
    rw [HT.out] at HLO
    obtain ⟨R, hR⟩ : ∃ R, R = zs.take k ++ (ys ++ zs.drop p) := ⟨_, rfl⟩
    rw [← hR] at HLO ⊢
    obtain ⟨ln, hln⟩ : ∃ ln, ln = R.length := ⟨_, rfl⟩
    rw [← hln] at HLO ⊢
    clear hR hln HT hcl
    clear hp hkm h h2 PT
    go_enter Tryd.func63, Tryd.ntmps63
    go_wp2_with fail
    go_region_held3 (fun _ => True) (trivial) ((go_at_call 72; refine HLO.out.mono ?_; rintro e w5 ⟨A5, c5, rfl, o5, hb⟩; have O5 := Lib.hid o5; have B5 := Lib.hid hb; clear o5 hb))
    go_wp2
    go_ret
    exact ⟨A5, c5, rfl, O5.out.mono (by simp), belowAllocDrew B5.out⟩
end Go.Proofs.YtnogmbhcphglkaaDoor
