/- Ladders of at most six wires; the first order; whether a list holds a number; all orders, by the program. -/
import Derived.Test.YtamkkmjldkhicaaNx1
import Derived.Test.YtamkkmjldkhicaaAo1
import Derived.Test.YtamkkmjldkhicaaBu0
import Derived.Test.YtamkkmjldkhicaaSo10
namespace Go.Proofs.Ytamkkmjldkhicaa
open Go Go.RowKit

def sixB (W : Int) (zs : List Int) : Bool := lad W zs && decide (W ≤ 6)

set_option maxRecDepth 100000 in
set_option maxHeartbeats 1000000 in
theorem soSix_any (W : Int) (A : Option Addr) (m c : Nat) (zs : List Int) (w : World) (h : RI w A m zs) (hm : m ≤ 1048576) :
    Calls Try.prog 47 #[.agg #[.int .i64 W, .slice A m c]] w (RetB (sixB W zs) w) := by
  rcases hq : lad W zs with _ | _
  · have e : sixB W zs = false := by unfold sixB; rw [hq]; rfl
    rw [e]
    have HW := Lib.hid hq
    clear hq e
    go_enter Try.func47, Try.ntmps47
    go_wp2_with fail
    have HB := belAlloc (belRefl (w := w)) (.cells #[.int .i64 W, .slice A m c] 28)
    refine (laGood_any W A m c zs _ (h.alloc _) hm).mono ?_
    rw [HW.out]
    rintro e w1 ⟨rfl, hb⟩
    replace HB := belStep HB hb
    clear hb h
    go_wp2
    go_ret
    exact ⟨rfl, HB.out⟩
  · have e : sixB W zs = decide (W ≤ 6) := by unfold sixB; rw [hq]; rfl
    rw [e]
    have HW := Lib.hid hq
    clear hq e
    go_enter Try.func47, Try.ntmps47
    go_wp2_with fail
    have HA := boxNew (W := W) (c := c) 28 h
    have HB := belAlloc (belRefl (w := w)) (.cells #[.int .i64 W, .slice A m c] 28)
    refine (laGood_any W A m c zs _ (h.alloc _) hm).mono ?_
    rw [HW.out]
    rintro e w1 ⟨rfl, hb⟩
    replace HA := boxStep HA hb
    replace HB := belStep HB hb
    have a0 := HA.out.c0; have a1 := HA.out.c1; have az := HA.out.lt
    clear hb h
    go_wp2
    go_ret
    exact ⟨rfl, HB.out⟩

set_option maxRecDepth 100000 in
set_option maxHeartbeats 1000000 in
theorem isTried_any (W : Int) (A : Option Addr) (m c : Nat) (zs : List Int) (w : World) (h : RI w A m zs) (hm : m ≤ 1048576) :
    Calls Try.prog 51 #[.agg #[.int .i64 W, .slice A m c]] w (RetB (sixB W zs) w) := by
  rcases hq : lad W zs with _ | _
  · have e : sixB W zs = false := by unfold sixB; rw [hq]; rfl
    rw [e]
    have HW := Lib.hid hq
    clear hq e
    go_enter Try.func51, Try.ntmps51
    go_wp2_with fail
    have HB := belAlloc (belRefl (w := w)) (.cells #[.int .i64 W, .slice A m c] 28)
    refine (iIsLadder_any W A m c zs _ (h.alloc _) hm).mono ?_
    rw [HW.out]
    rintro e w1 ⟨rfl, hb⟩
    replace HB := belStep HB hb
    clear hb h
    go_wp2
    go_ret
    exact ⟨rfl, HB.out⟩
  · have e : sixB W zs = decide (W ≤ 6) := by unfold sixB; rw [hq]; rfl
    rw [e]
    have HW := Lib.hid hq
    clear hq e
    go_enter Try.func51, Try.ntmps51
    go_wp2_with fail
    have HA := boxNew (W := W) (c := c) 28 h
    have HB := belAlloc (belRefl (w := w)) (.cells #[.int .i64 W, .slice A m c] 28)
    refine (iIsLadder_any W A m c zs _ (h.alloc _) hm).mono ?_
    rw [HW.out]
    rintro e w1 ⟨rfl, hb⟩
    replace HA := boxStep HA hb
    replace HB := belStep HB hb
    have a0 := HA.out.c0; have a1 := HA.out.c1; have az := HA.out.lt
    clear hb h
    go_wp2
    go_ret
    exact ⟨rfl, HB.out⟩

set_option maxRecDepth 100000 in
set_option maxHeartbeats 1000000 in
theorem soFirst_any (n : Nat) (w : World) (hn : n ≤ 8) : Calls Try.prog 48 #[.int .i64 (n : Int)] w (FreshI w n (upsN n)) := by
  go_enter Try.func48, Try.ntmps48
  go_wp2
  go_loopw [3, 4] (fun s3 i wr => ∃ (k : Nat) (A : Option Addr) (c : Nat), k ≤ n ∧ i = .int .i64 (k : Int) ∧ s3 = .slice A k c ∧ OI wr w.heap.size A k c (upsN k) ∧ Below w.heap.size w wr) (fun _ i _ => n - (intOf i).toNat)
  case atStart => exact ⟨0, none, 0, Nat.zero_le _, rfl, rfl, OI.none_ _ _, Below.refl _ _⟩
  case round =>
    obtain ⟨k, A, c, hk, rfl, rfl, ho, hb⟩ := hrel
    have HO := Lib.hid ho
    have HB := Lib.hid hb
    have hz := hb.size
    clear ho hb
    by_cases hlt : k < n
    · go_wp2_with (at_builtin; refine wpList_append_int _ rfl _ _ rfl w.heap.size A k c _ (k : Int) wr.heap.size rfl rfl (HO.out.alloc _) (by simp) (by omega) (by simp; omega) ?_; intro A3 c3 w3 ho3 hg3; have HO3 := Lib.hid ho3; have HB3 := belGrown (belAlloc HB _) (HO.out.alloc _) hg3 (Nat.le_refl _); clear ho3 hg3)
      go_roundw
      case rel => exact ⟨k + 1, A3, c3, hlt, by go_num, rfl, by rw [upsN_succ]; exact HO3.out, HB3.out⟩
      case measure => simp [intOf]; omega
    · obtain rfl : k = n := by omega
      go_wp2
      go_ret
      exact ⟨A, c, rfl, HO.out, HB.out⟩

theorem contains_no {q : List Int} {v : Int} (h : ∀ j, j < q.length → gi q j ≠ v) : q.contains v = false := by
  rw [← Bool.not_eq_true, List.contains_iff_mem]
  intro hm
  obtain ⟨j, hj, e⟩ := List.getElem_of_mem hm
  exact h j hj (by rw [gi_lt hj]; exact e)
theorem contains_yes {q : List Int} {v : Int} {j : Nat} (hj : j < q.length) (h : gi q j = v) : q.contains v = true := by
  rw [List.contains_iff_mem, ← h]
  exact giMem hj

def IdxPost (q : List Int) (v : Int) (w : World) (e : Ending) (w' : World) : Prop :=
  ∃ i : Int, e = .returned (.int .i64 i) ∧ decide (0 ≤ i) = q.contains v ∧ w' = w

set_option maxRecDepth 100000 in
set_option maxHeartbeats 1000000 in
theorem index_any (a : Option Addr) (k d : Nat) (q : List Int) (v : Int) (w : World) (h : RI w a k q) (hk : k ≤ 8) : Calls Try.prog 97 #[.slice a k d, .int .i64 v] w (IdxPost q v w) := by
  have hl := h.1
  go_enter Try.func97, Try.ntmps97
  go_wp2
  go_loopw [5, 8] (fun _ i wr => ∃ j : Nat, j ≤ k ∧ i = .int .i64 (j : Int) ∧ wr = w ∧ ∀ y, y < j → gi q y ≠ v) (fun _ i _ => k - (intOf i).toNat)
  case atStart => exact ⟨0, Nat.zero_le _, rfl, rfl, fun y hy => absurd hy (Nat.not_lt_zero _)⟩
  case round =>
    obtain ⟨j, hj, rfl, rfl, hno⟩ := hrel
    have HN := Lib.hid hno
    clear hno
    by_cases hlt : j < k
    · obtain ⟨b, off, rfl, hbw, hc⟩ := h.cell hlt
      have hcj := hc j hlt
      obtain ⟨y, hy⟩ : ∃ y, y = gi q j := ⟨_, rfl⟩
      rw [← hy] at hcj
      have HY := Lib.hid hy
      clear hc hy h
      by_cases hd : v = y
      · have HC := Lib.hid (contains_yes (q := q) (v := v) (j := j) (by omega) (by rw [← HY.out]; exact hd.symm))
        subst hd
        go_wp2
        go_ret
        exact ⟨(j : Int), rfl, by rw [HC.out]; simp, rfl⟩
      · have HD := Lib.hid (fun e : gi q j = v => hd (by rw [HY.out]; exact e.symm))
        go_wp2
        go_roundw
        case rel => exact ⟨j + 1, hlt, by go_num, by first | rfl | trivial, fun z hz => by
          rcases Nat.lt_or_ge z j with e | e
          · exact HN.out z e
          · have e2 : z = j := by omega
            subst e2
            exact HD.out⟩
        case measure => simp [intOf]; omega
    · have HC := Lib.hid (contains_no (q := q) (v := v) (fun z hz => HN.out z (by omega)))
      clear h
      go_wp2
      go_ret
      exact ⟨-1, by first | rfl | trivial, by rw [HC.out]; rfl, by first | rfl | trivial⟩

def ordF (q : List Int) (x : Nat) : Bool := !q.contains (x : Int)

set_option maxRecDepth 100000 in
set_option maxHeartbeats 1000000 in
theorem allOrders1_any (a : Option Addr) (k d : Nat) (q : List Int) (x : Nat) (w : World) (h : RI w a k q) (hk : k ≤ 8) : Calls Try.prog 78 #[.slice a k d, .int .i64 (x : Int)] w (RetB (ordF q x) w) := by
  have HI : Hid (Calls Try.prog 79 #[.slice a k d, .int .i64 (x : Int)] w fun e w' => e = .returned (.bool (q.contains (x : Int))) ∧ w' = w) := by
    have HX := Lib.hid (index_any a k d q (x : Int) w h hk)
    obtain ⟨B, hB⟩ : ∃ B, B = q.contains (x : Int) := ⟨_, rfl⟩
    have HBB := Lib.hid hB
    rw [← hB]
    clear hB h
    refine Lib.hid ?_
    go_enter Try.func79, Try.ntmps79
    go_wp2_with fail
    refine HX.out.mono ?_
    rintro e w1 ⟨i, rfl, hi, rfl⟩
    have HII := Lib.hid hi
    clear hi
    go_wp2
    go_ret
    exact ⟨by rw [HBB.out, ← HII.out]; rfl, rfl⟩
  unfold ordF
  obtain ⟨B, hB⟩ : ∃ B, B = q.contains (x : Int) := ⟨_, rfl⟩
  rw [← hB] at HI ⊢
  clear hB h
  go_enter Try.func78, Try.ntmps78
  go_wp2_with fail
  refine HI.out.mono ?_
  rintro e w1 ⟨rfl, rfl⟩
  go_wp2
  go_ret
  exact ⟨rfl, Below.refl _ _⟩

theorem allF_lenN (fits : List Int → Nat → Bool) (c : Nat) : ∀ k, (allF fits c k).length ≤ c ^ k
  | 0 => by simp [allF]
  | k + 1 => by
    have h1 := allF_lenN fits c k
    have h2 := lvlF_len (fits := fits) (c := c) (allF fits c k) (allF fits c k).length
    have h3 : (allF fits c (k + 1)).length ≤ (allF fits c k).length * c := h2
    rw [Nat.pow_succ]
    exact Nat.le_trans h3 (Nat.mul_le_mul_right c h1)
/-- all orders of n numbers, in order -/
def ordAll (n : Nat) : List (List Int) := allF ordF n n
theorem six_pow {n k : Nat} (hn : n ≤ 6) (hk : k ≤ n) : n ^ k ≤ 50000 := by
  have h1 : n ^ k ≤ 6 ^ k := Nat.pow_le_pow_left hn k
  have h2 : 6 ^ k ≤ 6 ^ 6 := Nat.pow_le_pow_right (by omega) (by omega)
  have h3 : (6 : Nat) ^ 6 = 46656 := by decide
  omega

set_option maxRecDepth 100000 in
set_option maxHeartbeats 1000000 in
theorem allOrders_any (n : Nat) (w : World) (hn : n ≤ 6) : Calls Try.prog 53 #[.int .i64 (n : Int)] w (FreshSS w (ordAll n)) := by
  have HL := Lib.hid (fun w2 => allListsO_any n n ordF w2 (by omega) (by omega) (fun k hk => Nat.le_trans (allF_lenN ordF n k) (six_pow hn hk)) (Lib.hid (fun a k d q x w3 h hk _ => allOrders1_any a k d q x w3 h hk)))
  unfold ordAll
  obtain ⟨L, hL⟩ : ∃ L, L = allF ordF n n := ⟨_, rfl⟩
  rw [← hL] at HL ⊢
  clear hL
  go_enter Try.func53, Try.ntmps53
  go_wp2_with fail
  refine (HL.out _).mono ?_
  rintro e w1 ⟨A, c, M, S, rfl, o, hb⟩
  have HO := Lib.hid o
  have HB := Lib.hid hb
  clear o hb
  go_wp2
  go_ret
  exact ⟨A, c, M, S, rfl, HO.out, HB.out⟩
end Go.Proofs.Ytamkkmjldkhicaa
