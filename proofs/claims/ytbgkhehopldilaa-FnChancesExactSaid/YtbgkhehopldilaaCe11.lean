/- CountEnds, of the program and of its model. -/
import Derived.Test.YtbgkhehopldilaaCe10
import Derived.Test.YtbgkhehopldilaaCe5
import Derived.Test.YtbgkhehopldilaaCe3
namespace Go.Proofs.Ytbgkhehopldilaa
open Go Go.RowKit

/-- rungs can fall, and all wires told are there -/
def ffB (n k : Int) (zs : List Int) : Bool := zs.all (fun x => inB x 0 (n - 1)) && fallB n k
theorem ffB_no {n k : Int} {zs : List Int} {j : Nat} (hj : j < zs.length) (h : inB (gi zs j) 0 (n - 1) = false) : ffB n k zs = false := by
  unfold ffB
  rw [Bool.and_eq_false_iff]
  left
  rw [List.all_eq_false]
  exact ⟨gi zs j, by rw [gi_lt hj]; exact List.getElem_mem hj, by simp [h]⟩
theorem ffB_yes {n k : Int} {zs : List Int} (h : ∀ j, j < zs.length → inB (gi zs j) 0 (n - 1) = true) : ffB n k zs = fallB n k := by
  unfold ffB
  have : zs.all (fun x => inB x 0 (n - 1)) = true := by
    rw [List.all_eq_true]
    intro x hx
    obtain ⟨j, hj, rfl⟩ := List.getElem_of_mem hx
    rw [← gi_lt hj]
    exact h j hj
  rw [this, Bool.true_and]

set_option maxHeartbeats 1000000 in
theorem isFallFrom_any (n k : Int) (A : Option Addr) (m c : Nat) (zs : List Int) (w : World) (h : RI w A m zs) (hm : m ≤ 6) (_lo : -9223372036854775808 ≤ n) (_hi : n ≤ 9223372036854775807) :
    Calls Try.prog 20 #[.int .i64 n, .int .i64 k, .slice A m c] w (RetB (ffB n k zs) w) := by
  have hl := h.1
  go_enter Try.func20, Try.ntmps20
  go_wp2
  go_loop [11, 8] (fun i _ => ∃ j : Nat, j ≤ m ∧ i = .int .i64 (j : Int) ∧ ∀ x, x < j → inB (gi zs x) 0 (n - 1) = true) (fun i _ => m - (intOf i).toNat)
  case atStart => exact ⟨0, Nat.zero_le _, rfl, fun x hx => absurd hx (by omega)⟩
  case round =>
    obtain ⟨j, hj, rfl, hall⟩ := hrel
    have HA := Lib.hid hall
    clear hall
    by_cases hlt : j < m
    · obtain ⟨b, off, rfl, hbw, hc⟩ := h.cell hlt
      have hck := hc j hlt
      obtain ⟨x, hx⟩ : ∃ x, x = gi zs j := ⟨_, rfl⟩
      rw [← hx] at hck
      have HX := Lib.hid hx
      clear hc hx
      by_cases h0 : x < 0
      · have E : Hid (ffB n k zs = false) := Lib.hid (ffB_no (j := j) (by omega) (by rw [← HX.out]; exact inB_false (by omega)))
        go_wp2
        go_ret
        exact ⟨ret_b E.out.symm, Below.refl _ _⟩
      · by_cases h1 : n ≤ x
        · have E : Hid (ffB n k zs = false) := Lib.hid (ffB_no (j := j) (by omega) (by rw [← HX.out]; exact inB_false (by omega)))
          go_wp2
          go_ret
          exact ⟨ret_b E.out.symm, Below.refl _ _⟩
        · have E : Hid (inB x 0 (n - 1) = true) := Lib.hid (inB_true (by omega))
          go_wp2
          go_round
          case rel =>
            refine ⟨j + 1, by omega, by go_num, fun y hy => ?_⟩
            by_cases e : y = j
            · rw [e, ← HX.out]; exact E.out
            · exact HA.out y (by omega)
          case measure => simp [intOf]; omega
    · obtain rfl : j = m := by omega
      have E : Hid (ffB n k zs = fallB n k) := Lib.hid (ffB_yes (by rw [hl]; exact HA.out))
      obtain ⟨q, hq⟩ : ∃ q, q = fallB n k := ⟨_, rfl⟩
      have HQ := Lib.hid hq
      rw [← hq] at E
      clear hq
      go_wp2_with (go_at_call 28; refine (isFall_any _ _ _).mono ?_; rw [← HQ.out]; rintro e w' ⟨rfl, rfl⟩)
      go_ret
      exact ⟨ret_b E.out.symm, Below.refl _ _⟩

/-- rungs can fall, and both wires are there -/
def ceQ (n k s e : Int) : Bool := fallB n k && (inB s 0 (n - 1) && inB e 0 (n - 1))
def ceN (n k s e : Int) : Int := if ceQ n k s e = true then gi (endsC n.toNat k.toNat s) e.toNat else 0
theorem ceQ_ff (n k s e : Int) : ffB n k [s, e] = ceQ n k s e := by
  unfold ffB ceQ
  simp only [List.all_cons, List.all_nil, Bool.and_true]
  rw [Bool.and_comm]
theorem ceQ_1 {n k s e : Int} (h : fallB n k = false) : ceQ n k s e = false := by unfold ceQ; rw [h]; rfl
theorem ceQ_2 {n k s e : Int} (h : inB s 0 (n - 1) = false) : ceQ n k s e = false := by unfold ceQ; rw [h]; simp
theorem ceQ_3 {n k s e : Int} (h : inB e 0 (n - 1) = false) : ceQ n k s e = false := by unfold ceQ; rw [h]; simp
theorem ceQ_4 {n k s e : Int} (h : fallB n k = true) (h2 : inB s 0 (n - 1) = true) (h3 : inB e 0 (n - 1) = true) : ceQ n k s e = true := by unfold ceQ; rw [h, h2, h3]; rfl
theorem ceN_no {n k s e : Int} (h : ceQ n k s e = false) : ceN n k s e = 0 := by unfold ceN; rw [h]; rfl
theorem ceN_yes {n k s e : Int} (h : ceQ n k s e = true) : ceN n k s e = gi (endsC n.toNat k.toNat s) e.toNat := by unfold ceN; rw [if_pos h]
theorem ceQ_nat {n k s e : Int} (h : ceQ n k s e = true) : ∃ N K S E : Nat, n = (N : Int) ∧ k = (K : Int) ∧ s = (S : Int) ∧ e = (E : Int) ∧ 2 ≤ N ∧ N ≤ 6 ∧ K ≤ 20 ∧ S < N ∧ E < N := by
  unfold ceQ at h
  rw [Bool.and_eq_true, Bool.and_eq_true, fallB_iff, inB_iff, inB_iff] at h
  exact ⟨n.toNat, k.toNat, s.toNat, e.toNat, by omega, by omega, by omega, by omega, by omega, by omega, by omega, by omega, by omega⟩
theorem ceN_in (n k s e : Int) : 0 ≤ ceN n k s e ∧ ceN n k s e ≤ 95367431640625 := by
  rcases h : ceQ n k s e with _ | _
  · rw [ceN_no h]; omega
  · rw [ceN_yes h]
    obtain ⟨N, K, S, E, rfl, rfl, rfl, rfl, _, h6, hK, _, hE⟩ := ceQ_nat h
    exact endsC_in (by omega) h6 hK

theorem RI.two (w : World) (x y : Int) : RI (w.alloc (.cells #[.int .i64 x, .int .i64 y] 3)) (some ⟨w.heap.size, 0, none⟩) 2 [x, y] :=
  ⟨rfl, fun _ => ⟨w.heap.size, 0, rfl, by simp, fun j hj => by
    match j, hj with
    | 0, _ => simp [gi]
    | 1, _ => simp [gi]⟩⟩

set_option maxRecDepth 100000 in
set_option maxHeartbeats 1000000 in
theorem sCountEnds_any (n k s e : Int) (w : World) (lo : -9223372036854775808 ≤ n) (hi : n ≤ 9223372036854775807) :
    Calls Try.prog 18 #[.int .i64 n, .int .i64 k, .int .i64 s, .int .i64 e] w (RetIB (ceN n k s e) (ceQ n k s e) w) := by
  rcases h1 : fallB n k with _ | _
  · have E1 := Lib.hid h1
    rw [ceN_no (ceQ_1 h1), ceQ_1 h1]
    clear h1
    go_enter Try.func18, Try.ntmps18
    go_wp2_with (go_at_call 23; refine (chGood_any _ _ _).mono ?_; rw [E1.out]; rintro e w' ⟨rfl, rfl⟩)
    go_ret2
    exact ⟨rfl, Below.refl _ _⟩
  have hb := fallB_iff.1 h1
  rcases h2 : inB s 0 (n - 1) with _ | _
  · have E1 := Lib.hid h1
    have E2 := Lib.hid h2
    rw [ceN_no (ceQ_2 h2), ceQ_2 h2]
    clear h1 h2
    go_enter Try.func18, Try.ntmps18
    go_wp2_with (first | (go_at_call 23; refine (chGood_any _ _ _).mono ?_; rw [E1.out]; rintro e w' ⟨rfl, rfl⟩) | (go_at_call 24; refine (l1In_any _ _ _ _).mono ?_; rw [E2.out]; rintro e w' ⟨rfl, rfl⟩))
    go_ret2
    exact ⟨rfl, Below.refl _ _⟩
  rcases h3 : inB e 0 (n - 1) with _ | _
  · have E1 := Lib.hid h1
    have E2 := Lib.hid h2
    have E3 := Lib.hid h3
    rw [ceN_no (ceQ_3 h3), ceQ_3 h3]
    clear h1 h2 h3
    go_enter Try.func18, Try.ntmps18
    go_wp2_with (first | (go_at_call 23; refine (chGood_any _ _ _).mono ?_; rw [E1.out]; rintro e w' ⟨rfl, rfl⟩) | (go_at_call 24; refine (l1In_any _ _ _ _).mono ?_; (first | rw [E2.out] | rw [E3.out]); rintro e w' ⟨rfl, rfl⟩))
    go_ret2
    exact ⟨rfl, Below.refl _ _⟩
  · have hq := ceQ_4 h1 h2 h3
    rw [ceN_yes hq, hq]
    have E1 := Lib.hid h1
    have E2 := Lib.hid h2
    have E3 := Lib.hid h3
    obtain ⟨N, K, S, E, rfl, rfl, rfl, rfl, hN2, hN6, hK, hS, hE⟩ := ceQ_nat hq
    have hEi : (E : Int) < (N : Int) := by omega
    have hE0 : (0 : Int) ≤ (E : Int) := by omega
    have HC := Lib.hid (fun w => chEnds_any N K S w hN2 hN6 hK hS)
    rw [Int.toNat_natCast, Int.toNat_natCast, Int.toNat_natCast]
    clear h1 h2 h3 hq
    go_enter Try.func18, Try.ntmps18
    go_wp2_with (first | (go_at_call 23; refine (chGood_any _ _ _).mono ?_; rw [E1.out]; rintro e w' ⟨rfl, rfl⟩) | (go_at_call 24; refine (l1In_any _ _ _ _).mono ?_; (first | rw [E2.out] | rw [E3.out]); rintro e w' ⟨rfl, rfl⟩))
    refine (HC.out _).mono ?_
    rintro e w1 ⟨g, rfl, ho, hb1⟩
    have ck := ho.cells E hE
    have HB := Lib.hid hb1
    clear ho hb1 HC
    go_wp2
    go_ret2
    exact ⟨rfl, HB.out⟩

set_option maxRecDepth 100000 in
set_option maxHeartbeats 1000000 in
theorem iCountEnds_any (n k s e : Int) (w : World) (lo : -9223372036854775808 ≤ n) (hi : n ≤ 9223372036854775807) :
    Calls Try.prog 15 #[.int .i64 n, .int .i64 k, .int .i64 s, .int .i64 e] w (RetIB (ceN n k s e) (ceQ n k s e) w) := by
  have HF := Lib.hid (isFallFrom_any n k _ 2 2 [s, e] _ (RI.two w s e) (by omega) lo hi)
  rw [ceQ_ff] at HF
  rcases hq : ceQ n k s e with _ | _
  · rw [hq] at HF
    rw [ceN_no hq]
    clear hq
    go_enter Try.func15, Try.ntmps15
    go_wp2_with fail
    refine HF.out.mono ?_
    rintro e1 w1 ⟨rfl, hb⟩
    have HB : Hid (Below w.heap.size w w1) := Lib.hid (((Below.refl _ _).alloc (Nat.le_refl _) _).trans (hb.mono (by simp)))
    clear hb HF
    go_wp2
    go_ret2
    exact ⟨rfl, HB.out⟩
  · rw [hq] at HF
    rw [ceN_yes hq]
    obtain ⟨N, K, S, E, rfl, rfl, rfl, rfl, hN2, hN6, hK, hS, hE⟩ := ceQ_nat hq
    have hEi : (E : Int) < (N : Int) := by omega
    have hE0 : (0 : Int) ≤ (E : Int) := by omega
    have HC := Lib.hid (fun w => countsOfEnds_any N K S w hN2 hN6 hK hS)
    rw [Int.toNat_natCast, Int.toNat_natCast, Int.toNat_natCast]
    clear hq
    go_enter Try.func15, Try.ntmps15
    go_wp2_with fail
    refine HF.out.mono ?_
    rintro e1 w1 ⟨rfl, hb⟩
    have HB : Hid (Below w.heap.size w w1) := Lib.hid (((Below.refl _ _).alloc (Nat.le_refl _) _).trans (hb.mono (by simp)))
    clear hb HF
    go_wp2_with fail
    refine (HC.out _).mono ?_
    rintro e2 w2 ⟨g, rfl, hr, hb2⟩
    obtain ⟨b, off, hgo, _, hcell⟩ := hr.cell (show E < N from hE)
    injection hgo with hgo
    injection hgo with h1 h2 _
    subst h1 h2
    have ck := hcell E hE
    rw [Nat.zero_add] at ck
    have HB2 : Hid (Below w.heap.size w w2) := Lib.hid (HB.out.trans (hb2.mono HB.out.size))
    clear hr hb2 hcell HC
    go_wp2
    go_ret2
    exact ⟨rfl, HB2.out⟩
end Go.Proofs.Ytbgkhehopldilaa
