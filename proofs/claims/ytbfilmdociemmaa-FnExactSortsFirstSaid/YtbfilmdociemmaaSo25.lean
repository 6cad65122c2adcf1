/- SortsFirst, of the model. -/
import Derived.Test.YtbfilmdociemmaaSo20
import Derived.BigQuiet
import Derived.Test.YtbfilmdociemmaaMgB
import Derived.Test.YtbfilmdociemmaaStL
namespace Go.Proofs.Ytbfilmdociemmaa
open Go Go.RowKit

/-- the sum of the first j numbers -/
def onK (v : List Int) : Nat → Int
  | 0 => 0
  | j + 1 => onK v j + gi v j
/-- what the first k wires carry: noughts first, as many as there are -/
def firB (N : Nat) (zs : List Int) (k : Nat) (v : List Int) : Bool := (List.range k).all fun i => decide (gi (runS zs v) i = 1) == decide ((N : Int) - onK v N ≤ (i : Int))
theorem firB_yes {N : Nat} {zs : List Int} {k : Nat} {v : List Int} (h : ∀ i, i < k → decide (gi (runS zs v) i = 1) = decide ((N : Int) - onK v N ≤ (i : Int))) : firB N zs k v = true := by
  unfold firB
  rw [List.all_eq_true]
  intro i hi
  rw [beq_iff_eq]
  exact h i (List.mem_range.1 hi)
theorem firB_no {N : Nat} {zs : List Int} {k : Nat} {v : List Int} {i : Nat} (hi : i < k) (h : decide (gi (runS zs v) i = 1) ≠ decide ((N : Int) - onK v N ≤ (i : Int))) : firB N zs k v = false := by
  rw [← Bool.not_eq_true]
  intro e
  unfold firB at e
  rw [List.all_eq_true] at e
  have := e i (List.mem_range.2 hi)
  rw [beq_iff_eq] at this
  exact h this
def sfA (N : Nat) (zs : List Int) (k : Nat) : Bool := (List.range (2 ^ N)).all fun num => firB N zs k (bitsL N num)
theorem sfA_yes {N : Nat} {zs : List Int} {k : Nat} (h : ∀ num, num < 2 ^ N → firB N zs k (bitsL N num) = true) : sfA N zs k = true := by
  unfold sfA
  rw [List.all_eq_true]
  intro num hn
  exact h num (List.mem_range.1 hn)
theorem sfA_no {N : Nat} {zs : List Int} {k num : Nat} (hn : num < 2 ^ N) (h : firB N zs k (bitsL N num) = false) : sfA N zs k = false := by
  rw [← Bool.not_eq_true]
  intro e
  unfold sfA at e
  rw [List.all_eq_true] at e
  have := e num (List.mem_range.2 hn)
  rw [h] at this
  cases this
def sfQ (W : Int) (zs : List Int) (x : Int) : Bool := lad W zs && inB x 0 W
def sfV (W : Int) (zs : List Int) (x : Int) : Bool := sfQ W zs x && sfA W.toNat zs x.toNat
theorem onK_le {N num : Nat} : ∀ j, j ≤ N → 0 ≤ onK (bitsL N num) j ∧ onK (bitsL N num) j ≤ j
  | 0, _ => by simp [onK]
  | j + 1, h => by
    have h1 := onK_le (N := N) (num := num) j (by omega)
    have h2 := gi_bitsL N num j (by omega)
    have h3 := Nat.mod_lt (num / 2 ^ (N - 1 - j)) (show 0 < 2 by decide)
    simp only [onK]
    omega

set_option maxRecDepth 100000 in
set_option maxHeartbeats 1000000 in
theorem sSortsFirst_any (W : Int) (A : Option Addr) (m c : Nat) (zs : List Int) (x : Int) (w : World) (h : RI w A m zs) (hm : m ≤ 1048576) :
    Calls Try.prog 35 #[.agg #[.int .i64 W, .slice A m c], .int .i64 x] w (RetBB (sfV W zs x) (sfQ W zs x) w) := by
  rcases hq : lad W zs with _ | _
  · have e1 : sfQ W zs x = false := by unfold sfQ; rw [hq]; rfl
    have e2 : sfV W zs x = false := by unfold sfV; rw [e1]; rfl
    rw [e1, e2]
    have HW := Lib.hid hq
    clear hq e1 e2
    go_enter Try.func35, Try.ntmps35
    go_wp2_with fail
    have HB := belAlloc (belRefl (w := w)) (.cells #[.int .i64 W, .slice A m c] 28)
    refine (laGood_any W A m c zs _ (h.alloc _) hm).mono ?_
    rw [HW.out]
    rintro e w1 ⟨rfl, hb⟩
    replace HB := belStep HB hb
    clear hb h
    go_wp2
    go_ret2
    exact ⟨rfl, HB.out⟩
  · rcases hy : inB x 0 W with _ | _
    · have e1 : sfQ W zs x = false := by unfold sfQ; rw [hq, hy]; rfl
      have e2 : sfV W zs x = false := by unfold sfV; rw [e1]; rfl
      rw [e1, e2]
      have HW := Lib.hid hq
      have HY := Lib.hid hy
      clear hq e1 e2 hy
      go_enter Try.func35, Try.ntmps35
      go_wp2_with fail
      have HA := boxNew (W := W) (c := c) 28 h
      have HB := belAlloc (belRefl (w := w)) (.cells #[.int .i64 W, .slice A m c] 28)
      refine (laGood_any W A m c zs _ (h.alloc _) hm).mono ?_
      rw [HW.out]
      rintro e w1 ⟨rfl, hb⟩
      replace HA := boxStep HA hb
      replace HB := belStep HB hb
      have a0 := HA.out.c0; have a1 := HA.out.c1; have az := HA.out.lt
      clear hb h
      go_wp2_with fail
      refine (l1In_any x 0 W _).mono ?_
      rw [HY.out]
      rintro e w2 ⟨rfl, rfl⟩
      go_wp2
      go_ret2
      exact ⟨rfl, HB.out⟩
    · have e1 : sfQ W zs x = true := by unfold sfQ; rw [hq, hy]; rfl
      have e2 : sfV W zs x = sfA W.toNat zs x.toNat := by unfold sfV; rw [e1]; rfl
      rw [e1, e2]
      have HY := Lib.hid hy
      have hxx := inB_iff.1 hy
      have h4 := (lad_iff.1 hq).1
      have h5 := (lad_iff.1 hq).2.1
      have hml := h.1
      obtain ⟨N, rfl⟩ : ∃ N : Nat, W = (N : Int) := ⟨W.toNat, by omega⟩
      obtain ⟨K, rfl⟩ : ∃ K : Nat, x = (K : Int) := ⟨x.toNat, by omega⟩
      simp only [Int.toNat_natCast]
      have hKN : K ≤ N := by omega
      have hz : rungsIn zs N := by have := rungsIn_of_lad hq; rwa [Int.toNat_natCast] at this
      have HW := Lib.hid hq
      have hn8 : N ≤ 8 := by omega
      have hn0 : 0 < N := by omega
      have hm6 : m ≤ 60 := by omega
      have hP2 : 2 ^ N ≤ 256 := pow2_le hn8
      obtain ⟨P, hP⟩ : ∃ P, P = 2 ^ N := ⟨_, rfl⟩
      have hpw : wrap64 ((2 : Int) ^ N) = (P : Int) := by
        have e : ((2 : Int) ^ N) = (P : Int) := by rw [hP]; simp
        rw [e]; exact IntWalk.wrap64_in _ (by omega)
      have HPP := Lib.hid hP
      have HS := Lib.hid (fun w2 A2 c2 v (e : v.length = N) (r : RI w2 A m zs) (r2 : RI w2 A2 N v) => soRun_any A m c zs A2 N c2 v w2 r r2 hn8 hn0 hm6 hz)
      have hPl : P ≤ 256 := by omega
      clear hq hy hxx h4 h5 hz hml hP2 hP e1 e2
      go_enter Try.func35, Try.ntmps35
      go_wp2_with fail
      have HA := boxNew (W := (N : Int)) (c := c) 28 h
      have HB := belAlloc (belRefl (w := w)) (.cells #[.int .i64 (N : Int), .slice A m c] 28)
      refine (laGood_any (N : Int) A m c zs _ (h.alloc _) hm).mono ?_
      rw [HW.out]
      rintro e w1 ⟨rfl, hb⟩
      replace HA := boxStep HA hb
      replace HB := belStep HB hb
      have a0 := HA.out.c0; have a1 := HA.out.c1; have az := HA.out.lt
      have z1 := HB.out.size
      clear hb h
      go_wp2_with fail
      refine (l1In_any (K : Int) 0 (N : Int) _).mono ?_
      rw [HY.out]
      rintro e w2 ⟨rfl, rfl⟩
      go_wp2
      go_loopw [6] (fun i wr => ∃ k : Nat, k ≤ P ∧ i = .int .i64 k ∧ (∀ j, j < k → firB N zs K (bitsL N j) = true) ∧ Box wr w.heap.size (N : Int) A m c zs ∧ Below w.heap.size w wr) (fun i _ => P - (intOf i).toNat)
      case atStart => exact ⟨0, Nat.zero_le _, rfl, fun j hj => absurd hj (by omega), HA.out, HB.out⟩
      case round =>
        obtain ⟨k, hk, rfl, hall, hA, hb⟩ := hrel
        have HALL := Lib.hid hall
        have HA := Lib.hid hA
        have HB := Lib.hid hb
        have a0 := hA.c0; have a1 := hA.c1; have az := hA.lt
        clear hA hb hall
        by_cases hlt : k < P
        · have hk2 : k ≤ 256 := by omega
          have hzr := HB.out.size
          go_wp2_with fail
          refine (soBits_any N k _ hn8 hk2).mono ?_
          rintro e w2 ⟨F2, d2, rfl, o2, hb⟩
          have O2 := Lib.hid (o2.mono hzr)
          replace HA := boxStep HA hb
          replace HB := belStep HB hb
          replace a0 := HA.out.c0; replace a1 := HA.out.c1; replace az := HA.out.lt
          obtain ⟨g, rfl, -⟩ : ∃ g, F2 = some ⟨g, 0, none⟩ ∧ True := by
            obtain ⟨m', hm'⟩ : ∃ m', N = m' + 1 := ⟨N - 1, by omega⟩
            subst hm'
            obtain ⟨g, hA, -⟩ := o2.some_
            exact ⟨g, hA, trivial⟩
          obtain ⟨v, hv⟩ : ∃ v, v = bitsL N k := ⟨_, rfl⟩
          rw [← hv] at O2
          have HV := Lib.hid hv
          have HON : Hid (∀ j, j ≤ N → 0 ≤ onK v j ∧ onK v j ≤ j) := Lib.hid (fun j hj => by rw [HV.out]; exact onK_le j hj)
          have HVL : Hid (v.length = N) := Lib.hid O2.out.ri.1
          clear hb o2 hv
          go_wp2
          go_loopw [8, 10, 37] (fun s8 _ i wi => ∃ j : Nat, j ≤ N ∧ i = .int .i64 (j : Int) ∧ s8 = .int .i64 (onK v j) ∧ wi = w2) (fun _ _ i _ => N - (intOf i).toNat)
          case atStart => exact ⟨0, Nat.zero_le _, rfl, rfl, rfl⟩
          case round =>
            obtain ⟨j, hj, rfl, rfl, rfl⟩ := hrel
            have hon := HON.out j hj
            obtain ⟨y, hy⟩ : ∃ y, y = onK v j := ⟨_, rfl⟩
            rw [← hy] at hon ⊢
            have HYY := Lib.hid hy
            clear hy
            by_cases hlj : j < N
            · have hcj := O2.out.cells j hlj
              obtain ⟨z, hz⟩ : ∃ z, z = gi v j := ⟨_, rfl⟩
              rw [← hz] at hcj
              have HZ := Lib.hid hz
              have hon2 := HON.out (j + 1) (by omega)
              have hos : onK v (j + 1) = y + z := by rw [HYY.out, HZ.out]; rfl
              have HOS := Lib.hid hos
              have hb1 : 0 ≤ y + z := by omega
              have hb2 : y + z ≤ 8 := by omega
              clear hz hos hon2
              go_wp2
              go_roundw
              case rel => exact ⟨j + 1, hlj, by go_num, by rw [HOS.out], by first | rfl | trivial⟩
              case measure => simp [intOf]; omega
            · have hjN : N = j := by omega
              subst hjN
              have HY2 : Hid (onK v N = y) := Lib.hid HYY.out.symm
              go_wp2_with fail
              refine (HS.out _ _ d2 v HVL.out HA.out.ri O2.out.ri).mono ?_
              rintro e w3 ⟨A1, c1, E, d, rfl, o3, -, hb⟩
              replace HA := boxStep HA hb
              replace HB := belStep HB hb
              replace a0 := HA.out.c0; replace a1 := HA.out.c1; replace az := HA.out.lt
              have O3 := Lib.hid o3
              obtain ⟨g3, rfl, -⟩ : ∃ g, A1 = some ⟨g, 0, none⟩ ∧ True := by
                obtain ⟨m', hm'⟩ : ∃ m', N = m' + 1 := ⟨N - 1, by omega⟩
                subst hm'
                obtain ⟨g, hA, -⟩ := o3.some_
                exact ⟨g, hA, trivial⟩
              obtain ⟨r, hr⟩ : ∃ r, r = runS zs v := ⟨_, rfl⟩
              rw [← hr] at O3
              have HRR := Lib.hid hr
              clear hb o3 hr
              go_wp2
              go_loopw [13] (fun i wi => ∃ t m2 : Nat, t ≤ K ∧ i = .int .i64 (t : Int) ∧ wi = w3.drewN m2 ∧ ∀ q, q < t → decide (gi r q = 1) = decide ((N : Int) - y ≤ (q : Int))) (fun i _ => K - (intOf i).toNat)
              case atStart => exact ⟨0, 0, Nat.zero_le _, rfl, rfl, fun q hq => absurd hq (Nat.not_lt_zero _)⟩
              case round =>
                obtain ⟨t, m2, ht, rfl, rfl, hall⟩ := hrel
                have HT := Lib.hid hall
                clear hall
                by_cases hltt : t < K
                · have hct := O3.out.cells t (by omega)
                  obtain ⟨z, hz⟩ : ∃ z, z = gi r t := ⟨_, rfl⟩
                  rw [← hz] at hct
                  have HZ := Lib.hid hz
                  have t0 : (0 : Int) ≤ (t : Int) := by omega
                  have t1 : (t : Int) < (N : Int) := by omega
                  obtain ⟨l, hl⟩ : ∃ l : Int, l = (N : Int) - y := ⟨_, rfl⟩
                  have t2 : IntKind.i64.wrap ((N : Int) - y) = l := by rw [hl]; exact IntWalk.i64_in _ (by omega)
                  have HL := Lib.hid hl
                  clear hl
                  clear hz
                  by_cases h1 : z = 1
                  · by_cases h2 : l ≤ (t : Int)
                    · have HEQ : Hid (decide (gi r t = 1) = decide ((N : Int) - y ≤ (t : Int))) := Lib.hid (by rw [← HZ.out, ← HL.out, decide_eq_true h1, decide_eq_true h2])
                      have D1 : (z == 1) = true := beq_iff_eq.2 h1
                      have D2 := decide_eq_true h2
                      clear h1 h2
                      go_wp2_with fail
                      go_quiet (fail)
                      go_wp2
                      go_roundw
                      case rel => exact ⟨t + 1, m2 + nq, hltt, by go_num, by first | rfl | rw [World.drewN_drewN], fun q hq => by
                        rcases Nat.lt_or_ge q t with e | e
                        · exact HT.out q e
                        · have e2 : q = t := by omega
                          subst e2
                          exact HEQ.out⟩
                      case measure => simp [intOf]; omega
                    · have HNE : Hid (decide (gi r t = 1) ≠ decide ((N : Int) - y ≤ (t : Int))) := Lib.hid (by rw [← HZ.out, ← HL.out, decide_eq_true h1, decide_eq_false h2]; simp)
                      have HFI := Lib.hid (firB_no (N := N) (zs := zs) (k := K) (v := v) hltt (by rw [← HRR.out, HY2.out]; exact HNE.out))
                      have HFU := Lib.hid (sfA_no (N := N) (zs := zs) (k := K) (num := k) (by rw [← HPP.out]; exact hlt) (by rw [← HV.out]; exact HFI.out))
                      have D1 : (z == 1) = true := beq_iff_eq.2 h1
                      have D2 := decide_eq_false h2
                      clear h1 h2
                      go_wp2_with fail
                      go_quiet (fail)
                      go_wp2
                      go_ret2
                      rw [HFU.out]
                      exact ⟨rfl, HB.out.trans (below_drewN (below_drewN (Below.refl _ _) m2) _)⟩
                  · by_cases h2 : l ≤ (t : Int)
                    · have HNE : Hid (decide (gi r t = 1) ≠ decide ((N : Int) - y ≤ (t : Int))) := Lib.hid (by rw [← HZ.out, ← HL.out, decide_eq_false h1, decide_eq_true h2]; simp)
                      have HFI := Lib.hid (firB_no (N := N) (zs := zs) (k := K) (v := v) hltt (by rw [← HRR.out, HY2.out]; exact HNE.out))
                      have HFU := Lib.hid (sfA_no (N := N) (zs := zs) (k := K) (num := k) (by rw [← HPP.out]; exact hlt) (by rw [← HV.out]; exact HFI.out))
                      have D1 : (z == 1) = false := beq_eq_false_iff_ne.2 h1
                      have D2 := decide_eq_true h2
                      clear h1 h2
                      go_wp2_with fail
                      go_quiet (fail)
                      go_wp2
                      go_ret2
                      rw [HFU.out]
                      exact ⟨rfl, HB.out.trans (below_drewN (below_drewN (Below.refl _ _) m2) _)⟩
                    · have HEQ : Hid (decide (gi r t = 1) = decide ((N : Int) - y ≤ (t : Int))) := Lib.hid (by rw [← HZ.out, ← HL.out, decide_eq_false h1, decide_eq_false h2])
                      have D1 : (z == 1) = false := beq_eq_false_iff_ne.2 h1
                      have D2 := decide_eq_false h2
                      clear h1 h2
                      go_wp2_with fail
                      go_quiet (fail)
                      go_wp2
                      go_roundw
                      case rel => exact ⟨t + 1, m2 + nq, hltt, by go_num, by first | rfl | rw [World.drewN_drewN], fun q hq => by
                        rcases Nat.lt_or_ge q t with e | e
                        · exact HT.out q e
                        · have e2 : q = t := by omega
                          subst e2
                          exact HEQ.out⟩
                      case measure => simp [intOf]; omega
                · obtain rfl : t = K := by omega
                  have HFI := Lib.hid (firB_yes (N := N) (zs := zs) (k := t) (v := v) (fun i hi => by rw [← HRR.out, HY2.out]; exact HT.out i hi))
                  go_wp2
                  go_roundw
                  case rel =>
                    refine ⟨k + 1, by omega, by go_num, fun j hj => ?_, ?_, ?_⟩
                    · by_cases e : j = k
                      · subst e; rw [← HV.out]; exact HFI.out
                      · exact HALL.out j (by omega)
                    · exact (boxStep HA (below_drewN (Below.refl _ _) m2)).out
                    · exact HB.out.trans (below_drewN (Below.refl _ _) m2)
                  case measure => simp [intOf]; omega
        · obtain rfl : k = P := by omega
          have HFU := Lib.hid (sfA_yes (N := N) (zs := zs) (k := K) (fun num hn => HALL.out num (by rw [HPP.out]; exact hn)))
          go_wp2
          go_ret2
          rw [HFU.out]
          exact ⟨rfl, HB.out⟩
end Go.Proofs.Ytbfilmdociemmaa
