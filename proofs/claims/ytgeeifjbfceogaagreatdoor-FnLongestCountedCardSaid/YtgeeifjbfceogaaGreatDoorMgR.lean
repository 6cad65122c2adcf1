/- The result of a ladder is an order; how many rungs a ladder has too many. The contracts of NeedlessRungs, IsLeast and ReduceLadder, of the model. The contracts of ReduceLadder, NeedlessRungs and IsLeast, of the program. -/
import Derived.Test.YtgeeifjbfceogaaGreatDoorMgQ
import Derived.Test.YtgeeifjbfceogaaGreatDoorMgP
import Derived.Test.YtgeeifjbfceogaaGreatDoorMgG
import Derived.Test.YtgeeifjbfceogaaGreatDoorMgE
import Derived.Test.YtgeeifjbfceogaaGreatDoorMgS
import Derived.Test.YtgeeifjbfceogaaGreatDoorStL
import Derived.Deep.RegionHeld3
import Derived.IntWalk
import Derived.Test.YtgeeifjbfceogaaGreatDoorLf4
namespace Go.Proofs.YtgeeifjbfceogaaGreatDoor
open Go Go.RowKit

theorem over_inj {s t r : Int} (h : s ≠ t) : over s r ≠ over t r := by
  unfold over
  split <;> split <;> (try split) <;> (try split) <;> omega
theorem at_inj {zs : List Int} {s t : Int} (h : s ≠ t) : ∀ (k : Nat), k ≤ zs.length → at_ zs s k ≠ at_ zs t k
  | 0, _ => by rw [at_zero, at_zero]; exact h
  | k + 1, hk => by rw [at_succ _ _ _ (by omega), at_succ _ _ _ (by omega)]; exact over_inj (at_inj h k (by omega))
theorem res_ord {N : Nat} {zs : List Int} (h : lad (N : Int) zs = true) : ord (res zs N) = true := by
  have h1 := lad_iff.1 h
  refine ord_iff.2 ⟨by rw [res_length]; omega, by rw [res_length]; omega, fun x hx => ?_, nodup_gi.2 fun i j hij hj => ?_⟩
  · obtain ⟨j, hj, rfl⟩ := mem_gi.1 hx
    rw [res_length] at hj
    rw [gi_res _ _ _ hj, res_length]
    have := at_le (W := (N : Int)) (zs := zs) (s := (j : Int)) (fun j hj => lad_at h hj) (by omega) zs.length (Nat.le_refl _)
    unfold endOf
    omega
  · rw [res_length] at hj
    rw [gi_res _ _ _ (by omega), gi_res _ _ _ hj]
    exact at_inj (by omega) _ (Nat.le_refl _)
theorem res_in {N : Nat} {zs : List Int} (h : lad (N : Int) zs = true) : Inn8 (res zs N) := by
  have h2 := ord_iff.1 (res_ord h)
  refine ⟨h2.2.1, fun j hj => ?_⟩
  have := h2.2.2.1 _ (mem_gi.2 ⟨j, hj, rfl⟩)
  omega
/-- how many rungs a ladder has too many -/
def needN (W : Int) (zs : List Int) : Int := if lad W zs = true then (zs.length : Int) - (invL (res zs W.toNat) : Int) else 0
theorem needN_yes {N : Nat} {zs : List Int} (h : lad (N : Int) zs = true) : needN N zs = (zs.length : Int) - (invL (res zs N) : Int) := by unfold needN; rw [if_pos h, Int.toNat_natCast]
theorem needN_no {W : Int} {zs : List Int} (h : lad W zs = false) : needN W zs = 0 := by unfold needN; rw [h]; rfl
def lstB (W : Int) (zs : List Int) : Bool := lad W zs && decide (needN W zs = 0)
theorem lstB_no {W : Int} {zs : List Int} (h : lad W zs = false) : lstB W zs = false := by simp [lstB, h]
theorem lstB_yes {N : Nat} {zs : List Int} (h : lad (N : Int) zs = true) : lstB N zs = ((zs.length : Int) == (invL (res zs N) : Int)) := by
  unfold lstB
  rw [h, needN_yes h, Bool.true_and]
  by_cases e : (zs.length : Int) = (invL (res zs N) : Int)
  · rw [decide_eq_true (by omega)]; exact (beq_iff_eq.2 e).symm
  · rw [decide_eq_false (by omega)]; exact (beq_eq_false_iff_ne.2 e).symm
def redL (W : Int) (zs : List Int) : List Int := ifL (lad W zs) (firstL (res zs W.toNat))
theorem redL_len (W : Int) (zs : List Int) : (redL W zs).length ≤ 1000 := by
  unfold redL
  rcases lad W zs with _ | _
  · rw [ifL_no]; simp
  · rw [ifL_yes]; have := firstL_len (res zs W.toNat); omega
end Go.Proofs.YtgeeifjbfceogaaGreatDoor
namespace Go.Proofs.YtgeeifjbfceogaaGreatDoor
open Go Go.RowKit

theorem lsInv_len (A0 : Option Addr) (n c0 : Nat) (zs : List Int) (w : World) (h : RI w A0 n zs) (hn : n ≤ 8) :
    Calls Tryz.prog 56 #[.slice A0 n c0] w (fun e w' => ∃ A c, e = .returned (.slice A (invL zs) c) ∧ Below w.heap.size w w') :=
  (lsInversions_any A0 n c0 zs w h hn).mono (by
    rintro e w' ⟨A, c, M, S, rfl, _, hb⟩
    exact ⟨A, c, by rw [invs_invL], hb⟩)

end Go.Proofs.YtgeeifjbfceogaaGreatDoor
namespace Go.Proofs.YtgeeifjbfceogaaGreatDoor
open Go Go.RowKit

set_option maxRecDepth 100000 in
set_option maxHeartbeats 4000000 in
theorem iReduceLadder_any (W : Int) (A : Option Addr) (n c : Nat) (zs : List Int) (w : World) (h : RI w A n zs) (hn : n ≤ 1048576) :
    Calls Tryz.prog 107 #[.agg #[.int .i64 W, .slice A n c]] w (FreshLB w (ifW (lad W zs) W) (redL W zs).length (redL W zs) (lad W zs)) := by
  unfold redL
  have HR : Hid (∀ (w : World), RI w A n zs → Calls Tryz.prog 80 #[.agg #[.int .i64 W, .slice A n c]] w (FreshIB w (resN W zs).length (resN W zs) (lad W zs))) := fun w h => iResultOf_any W A n c zs w h hn
  rcases hq : lad W zs with _ | _
  · rw [ifW_no, ifL_no]
    rw [resN_no hq, hq] at HR
    clear hq
    go_enter Tryz.func107, Tryz.ntmps107
    go_wp2_with fail
    have HB := belAlloc (belAlloc (belRefl (w := w)) (.cells #[.int .i64 W, .slice A n c] 44)) (.cells #[.int .i64 0, .slice none 0 0] 44)
    have HC := cellNew (w.alloc (.cells #[.int .i64 W, .slice A n c] 44)) (.int .i64 0) (.slice none 0 0) 44
    refine (HR.out _ ((h.alloc _).alloc _)).mono ?_
    rintro e w1 ⟨A1, c1, rfl, o1, hb⟩
    replace HB := belStep HB hb
    replace HC := cellStep HC hb
    have k0 := HC.out.c0; have k1 := HC.out.c1; have f0 := HC.out.f0; have f1 := HC.out.f1; have hz := HC.out.lt
    simp only [World.size_alloc] at k0 k1 f0 f1 hz
    clear hb h o1
    go_wp2
    exact bodyPost_ret (v := .tuple #[.agg #[.int .i64 0, .slice none 0 0], .bool false]) (by simp [results, Tryz.results107, go_sem, k0, k1]) rfl ⟨none, 0, rfl, OI.none_ _ _, (by repeat (first | exact Below.refl _ _ | exact HB.out | refine Below.setCell ?_ (by simp <;> omega) _ | refine Below.alloc ?_ (by simp <;> omega) _ | refine below_drewN ?_ _))⟩
  · rw [ifW_yes, ifL_yes]
    have hW := (lad_iff.1 hq).1
    obtain ⟨N, rfl⟩ : ∃ N : Nat, W = (N : Int) := ⟨W.toNat, by omega⟩
    rw [Int.toNat_natCast]
    rw [resN_yes hq, hq, Int.toNat_natCast, res_length] at HR
    have hrl := res_length zs N
    have e := leastB_yes (res_ord hq) (show 2 ≤ (res zs N).length by omega)
    have HL : Hid (∀ (A : Option Addr) (c : Nat) (w : World), RI w A N (res zs N) → N ≤ c → Calls Tryz.prog 77 #[.slice A N c] w (FreshLB w N (firstL (res zs N)).length (firstL (res zs N)) true)) := fun A c w h hc => by
      have := iLeastLadder_any A N c (res zs N) w h (by omega) hc
      rwa [(leastN_yes e).1, (leastN_yes e).2, e, hrl] at this
    obtain ⟨L, hL⟩ : ∃ L, L = firstL (res zs N) := ⟨_, rfl⟩
    rw [← hL] at HL ⊢
    clear hq e hL hrl
    go_enter Tryz.func107, Tryz.ntmps107
    go_wp2_with fail
    have HB := belAlloc (belAlloc (belRefl (w := w)) (.cells #[.int .i64 (N : Int), .slice A n c] 44)) (.cells #[.int .i64 0, .slice none 0 0] 44)
    have HC := cellNew (w.alloc (.cells #[.int .i64 (N : Int), .slice A n c] 44)) (.int .i64 0) (.slice none 0 0) 44
    refine (HR.out _ ((h.alloc _).alloc _)).mono ?_
    rintro e w1 ⟨A1, c1, rfl, o1, hb⟩
    replace HB := belStep HB hb
    replace HC := cellStep HC hb
    have O1 := Lib.hid o1
    clear hb h o1
    go_wp2_with fail
    refine (HL.out A1 c1 _ O1.out.ri O1.out.le).mono ?_
    rintro e w2 ⟨A2, c2, rfl, o2, hb⟩
    have hz1 := HC.out.lt
    replace HB := belStep HB hb
    replace HC := cellStep HC hb
    have O2 := Lib.hid o2
    have k0 := HC.out.c0; have k1 := HC.out.c1; have f0 := HC.out.f0; have f1 := HC.out.f1; have hz := HC.out.lt
    simp only [World.size_alloc] at k0 k1 f0 f1 hz hz1
    clear hb o2
    go_wp2
    exact bodyPost_ret (v := .tuple #[.agg #[.int .i64 N, .slice A2 L.length c2], .bool true]) (by simp [results, Tryz.results107, go_sem, k0, k1]) rfl
      ⟨A2, c2, rfl, ((O2.out.setBelow (show w.heap.size + 1 < w1.heap.size by omega) _).setBelow (show w.heap.size + 1 < w1.heap.size by omega) _).mono (by omega), (by repeat (first | exact Below.refl _ _ | exact HB.out | refine Below.setCell ?_ (by simp <;> omega) _ | refine Below.alloc ?_ (by simp <;> omega) _ | refine below_drewN ?_ _))⟩

set_option maxRecDepth 100000 in
set_option maxHeartbeats 4000000 in
theorem iNeedlessRungs_any (W : Int) (A : Option Addr) (n c : Nat) (zs : List Int) (w : World) (h : RI w A n zs) (hn : n ≤ 1048576) :
    Calls Tryz.prog 94 #[.agg #[.int .i64 W, .slice A n c]] w (RetIB (needN W zs) (lad W zs) w) := by
  have HR : Hid (∀ (w : World), RI w A n zs → Calls Tryz.prog 107 #[.agg #[.int .i64 W, .slice A n c]] w (FreshLB w (ifW (lad W zs) W) (redL W zs).length (redL W zs) (lad W zs))) := fun w h => iReduceLadder_any W A n c zs w h hn
  unfold redL at HR
  rcases hq : lad W zs with _ | _
  · rw [needN_no hq]
    rw [hq, ifW_no, ifL_no] at HR
    clear hq
    go_enter Tryz.func94, Tryz.ntmps94
    go_wp2_with fail
    have HB := belAlloc (belRefl (w := w)) (.cells #[.int .i64 W, .slice A n c] 44)
    refine (HR.out _ (h.alloc _)).mono ?_
    rintro e w1 ⟨A1, c1, rfl, o1, hb⟩
    replace HB := belAlloc (belStep HB hb) (.cells #[.int .i64 0, .slice A1 0 c1] 44)
    clear hb h o1
    go_wp2
    go_ret2
    exact ⟨rfl, HB.out⟩
  · have hW := (lad_iff.1 hq).1
    obtain ⟨N, rfl⟩ : ∃ N : Nat, W = (N : Int) := ⟨W.toNat, by omega⟩
    have hn60 : n ≤ 60 := by have := (lad_iff.1 hq).2.1; rw [h.1] at this; exact this
    rw [needN_yes hq, h.1]
    rw [hq, ifW_yes, ifL_yes, Int.toNat_natCast] at HR
    have hle : (res zs N).length ≤ 8 := by rw [res_length]; omega
    have hfl := firstL_inv hle
    have hil := invL_le hle
    rw [← hfl] at hil ⊢
    obtain ⟨L, hL⟩ : ∃ L, L = firstL (res zs N) := ⟨_, rfl⟩
    rw [← hL] at HR hil ⊢
    obtain ⟨m, hm⟩ : ∃ m, m = L.length := ⟨_, rfl⟩
    rw [← hm] at HR hil ⊢
    clear hq hL hfl hle hm
    go_enter Tryz.func94, Tryz.ntmps94
    go_wp2_with fail
    have HA := boxNew (W := (N : Int)) (c := c) 44 h
    have HB := belAlloc (belRefl (w := w)) (.cells #[.int .i64 (N : Int), .slice A n c] 44)
    refine (HR.out _ (h.alloc _)).mono ?_
    rintro e w1 ⟨A1, c1, rfl, o1, hb⟩
    replace HA := boxAlloc (boxStep HA hb) (.cells #[.int .i64 (N : Int), .slice A1 m c1] 44)
    replace HB := belAlloc (belStep HB hb) (.cells #[.int .i64 (N : Int), .slice A1 m c1] 44)
    have a0 := HA.out.c0; have a1 := HA.out.c1; have az := HA.out.lt
    clear hb h o1
    go_wp2
    go_ret2
    exact ⟨rfl, HB.out⟩

set_option maxHeartbeats 2000000 in
theorem iIsLeast_any (W : Int) (A : Option Addr) (n c : Nat) (zs : List Int) (w : World) (h : RI w A n zs) (hn : n ≤ 1048576) :
    Calls Tryz.prog 79 #[.agg #[.int .i64 W, .slice A n c]] w (RetBB (lstB W zs) (lad W zs) w) := by
  have HR : Hid (∀ (w : World), RI w A n zs → Calls Tryz.prog 94 #[.agg #[.int .i64 W, .slice A n c]] w (RetIB (needN W zs) (lad W zs) w)) := fun w h => iNeedlessRungs_any W A n c zs w h hn
  unfold lstB
  obtain ⟨r, hr⟩ : ∃ r, r = needN W zs := ⟨_, rfl⟩
  obtain ⟨q, hq⟩ : ∃ q, q = lad W zs := ⟨_, rfl⟩
  rw [← hr, ← hq] at HR ⊢
  clear hr hq
  have HA : Hid (RI (w.alloc (.cells #[.int .i64 W, .slice A n c] 44)) A n zs) := h.alloc _
  have HB := belAlloc (belRefl (w := w)) (.cells #[.int .i64 W, .slice A n c] 44)
  clear h
  cases q
  · rw [Bool.false_and]
    go_enter Tryz.func79, Tryz.ntmps79
    go_wp2_with fail
    refine (HR.out _ HA.out).mono ?_
    rintro e w1 ⟨rfl, hb⟩
    replace HB := belStep HB hb
    clear hb
    go_wp2
    go_ret2
    exact ⟨rfl, HB.out⟩
  · rw [Bool.true_and]
    by_cases h0 : r = 0
    · subst h0
      rw [decide_eq_true rfl]
      go_enter Tryz.func79, Tryz.ntmps79
      go_wp2_with fail
      refine (HR.out _ HA.out).mono ?_
      rintro e w1 ⟨rfl, hb⟩
      replace HB := belStep HB hb
      clear hb
      go_wp2
      go_ret2
      exact ⟨rfl, HB.out⟩
    · rw [decide_eq_false h0]
      have e0 : (r == 0) = false := beq_eq_false_iff_ne.2 h0
      go_enter Tryz.func79, Tryz.ntmps79
      go_wp2_with fail
      refine (HR.out _ HA.out).mono ?_
      rintro e w1 ⟨rfl, hb⟩
      replace HB := belStep HB hb
      clear hb
      go_wp2
      go_ret2
      exact ⟨rfl, HB.out⟩
end Go.Proofs.YtgeeifjbfceogaaGreatDoor
