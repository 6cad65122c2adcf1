/- Increasing lists of numbers below a bound: the contracts of areIndices and of mrRising. -/
import Derived.Test.YthalcjgpjagcoaaMgD
import Derived.Test.YthalcjgpjagcoaaMgC
namespace Go.Proofs.Ythalcjgpjagcoaa
open Go Go.RowKit

def rsB (vs : List Int) (N : Int) : Bool := allIn vs 0 (N - 1) && (List.range (vs.length - 1)).all (fun j => decide (gi vs j < gi vs (j + 1)))
theorem rsB_iff {vs : List Int} {N : Int} : rsB vs N = true ↔ (∀ j, j < vs.length → 0 ≤ gi vs j ∧ gi vs j ≤ N - 1) ∧ (∀ j, j + 1 < vs.length → gi vs j < gi vs (j + 1)) := by
  unfold rsB
  rw [Bool.and_eq_true, List.all_eq_true]
  constructor
  · rintro ⟨h1, h2⟩
    exact ⟨fun j hj => allIn_at h1 hj, fun j hj => of_decide_eq_true (h2 j (List.mem_range.2 (by omega)))⟩
  · rintro ⟨h1, h2⟩
    exact ⟨allIn_true (fun j hj => inB_true (h1 j hj)), fun j hj => decide_eq_true (h2 j (by have := List.mem_range.1 hj; omega))⟩
theorem rsB_no1 {vs : List Int} {N : Int} {j : Nat} (hj : j < vs.length) (h : ¬ (0 ≤ gi vs j ∧ gi vs j ≤ N - 1)) : rsB vs N = false := by
  rw [← Bool.not_eq_true]; intro e; exact h ((rsB_iff.1 e).1 j hj)
theorem rsB_no2 {vs : List Int} {N : Int} {j : Nat} (hj : j + 1 < vs.length) (h : ¬ gi vs j < gi vs (j + 1)) : rsB vs N = false := by
  rw [← Bool.not_eq_true]; intro e; exact h ((rsB_iff.1 e).2 j hj)

set_option maxRecDepth 100000 in
set_option maxHeartbeats 2000000 in
theorem areIndices_any (A : Option Addr) (n c : Nat) (vs : List Int) (N : Int) (w : World) (h : RI w A n vs) (hn : n ≤ 1048576) (hN : 0 ≤ N ∧ N ≤ 1000) :
    Calls Try.prog 48 #[.slice A n c, .int .i64 N] w (SameB (rsB vs N) w) := by
  have hl := h.1
  go_enter Try.func48, Try.ntmps48
  go_wp2
  go_loopw [5, 10] (fun v i wr => ∃ (k : Nat) (l : Int), k ≤ n ∧ i = .int .i64 k ∧ v = .int .i64 l ∧ (0 ≤ l ∧ l ≤ N) ∧ wr = w ∧ (k = 0 → l = 0) ∧ (∀ j, j < k → 0 ≤ gi vs j ∧ gi vs j ≤ N - 1) ∧ (∀ j, j + 1 < k → gi vs j < gi vs (j + 1)) ∧ (∀ j, j + 1 = k → l = gi vs j + 1)) (fun _ i _ => n - (intOf i).toNat)
  case atStart => exact ⟨0, 0, Nat.zero_le _, rfl, rfl, ⟨Int.le_refl _, hN.1⟩, rfl, fun _ => rfl, fun j hj => absurd hj (by omega), fun j hj => absurd hj (by omega), fun j hj => absurd hj (by omega)⟩
  case round =>
    obtain ⟨k, l, hk, rfl, rfl, hl0, rfl, h0, hr, hi, hlast⟩ := hrel
    have H0 := Lib.hid h0
    have HR := Lib.hid hr
    have HI := Lib.hid hi
    have HL := Lib.hid hlast
    clear h0 hr hi hlast
    by_cases hlt : k < n
    · obtain ⟨b, off, rfl, hbw, hc⟩ := h.cell hlt
      have hck := hc k hlt
      obtain ⟨v, hv⟩ : ∃ v, v = gi vs k := ⟨_, rfl⟩
      rw [← hv] at hck
      have HV := Lib.hid hv
      clear hc hv h
      by_cases h1 : v < l
      · have HNO : Hid (rsB vs N = false) := by
          show rsB vs N = false
          rcases Nat.eq_zero_or_pos k with e | e
          · subst e
            refine rsB_no1 (j := 0) (by omega) ?_
            rw [← HV.out]; have := H0.out rfl; omega
          · obtain ⟨j, rfl⟩ : ∃ j, k = j + 1 := ⟨k - 1, by omega⟩
            refine rsB_no2 (j := j) (by omega) ?_
            rw [← HV.out]; have := HL.out j rfl; omega
        go_wp2
        go_ret
        exact ⟨ret_b HNO.out.symm, rfl⟩
      · by_cases h2 : N ≤ v
        · have HNO : Hid (rsB vs N = false) := rsB_no1 (j := k) (by omega) (by rw [← HV.out]; omega)
          have h3 : l ≤ v := by omega
          clear h1
          go_wp2
          go_ret
          exact ⟨ret_b HNO.out.symm, rfl⟩
        · have h3 : l ≤ v := by omega
          have h4 : v < N := by omega
          have hwr : IntKind.i64.wrap (v + 1) = v + 1 := IntWalk.i64_in _ (by omega)
          clear h1 h2
          go_wp2
          go_roundw
          case rel =>
            refine ⟨k + 1, v + 1, by omega, by go_num, rfl, by omega, by first | rfl | trivial, fun e => absurd e (by omega), fun j hj => ?_, fun j hj => ?_, fun j hj => ?_⟩
            · rcases Nat.lt_or_ge j k with e | e
              · exact HR.out j e
              · have e2 : j = k := by omega
                subst e2
                rw [← HV.out]; omega
            · rcases Nat.lt_or_ge (j + 1) k with e | e
              · exact HI.out j e
              · have e2 : j + 1 = k := by omega
                have e3 := HL.out j e2
                rw [e2, ← HV.out]
                omega
            · have e2 : j = k := by omega
              subst e2
              rw [← HV.out]
          case measure => simp [intOf]; omega
    · obtain rfl : k = n := by omega
      have HY : Hid (rsB vs N = true) := rsB_iff.2 ⟨fun j hj => HR.out j (by omega), fun j hj => HI.out j (by omega)⟩
      clear h
      go_wp2
      go_ret
      exact ⟨ret_b HY.out.symm, rfl⟩

set_option maxRecDepth 100000 in
set_option maxHeartbeats 2000000 in
theorem mrRising_any (A : Option Addr) (n c : Nat) (vs : List Int) (N : Int) (w : World) (h : RI w A n vs) (hn : n ≤ 1048576) (hN : 0 ≤ N ∧ N ≤ 1000) :
    Calls Try.prog 45 #[.slice A n c, .int .i64 N] w (RetB (rsB vs N) w) := by
  have hl := h.1
  have hwn : IntKind.i64.wrap (N - 1) = N - 1 := IntWalk.i64_in _ (by omega)
  have HAll := Lib.hid (l1All_any A n c vs 0 (N - 1) w h hn)
  rcases hq : allIn vs 0 (N - 1) with _ | _
  · have HNO : Hid (rsB vs N = false) := by show rsB vs N = false; unfold rsB; rw [hq]; rfl
    rw [HNO.out]
    rw [hq] at HAll
    clear h hq
    go_enter Try.func45, Try.ntmps45
    go_wp2_with (go_at_call 62; refine HAll.out.mono ?_; rintro e w1 ⟨rfl, rfl⟩)
    go_ret
    exact ⟨rfl, Below.refl _ _⟩
  · have HA := Lib.hid hq
    rw [hq] at HAll
    clear hq
    go_enter Try.func45, Try.ntmps45
    go_wp2_with (go_at_call 62; refine HAll.out.mono ?_; rintro e w1 ⟨rfl, rfl⟩)
    go_loopw [5] (fun i wr => ∃ (k : Nat), 1 ≤ k ∧ k ≤ n + 1 ∧ i = .int .i64 k ∧ Below w.heap.size w wr ∧ (∀ j, j + 1 < k → gi vs j < gi vs (j + 1))) (fun i _ => n + 1 - (intOf i).toNat)
    case atStart => exact ⟨1, Nat.le_refl _, by omega, rfl, Below.refl _ _, fun j hj => absurd hj (by omega)⟩
    case round =>
      obtain ⟨k, hk1, hk, rfl, hb, hi⟩ := hrel
      have HI := Lib.hid hi
      have HB := Lib.hid hb
      clear hi
      by_cases hlt : k < n
      · obtain ⟨b, off, rfl, hbw, hc⟩ := h.cell hlt
        obtain ⟨j, rfl⟩ : ∃ j, k = j + 1 := ⟨k - 1, by omega⟩
        have hck : wr.cell? ⟨b, off + (j + 1), none⟩ = some (.int .i64 (gi vs (j + 1))) := (hb.cell (p := ⟨b, off + (j + 1), none⟩) hbw).trans (hc (j + 1) hlt)
        have hck1 : wr.cell? ⟨b, off + j, none⟩ = some (.int .i64 (gi vs j)) := (hb.cell (p := ⟨b, off + j, none⟩) hbw).trans (hc j (by omega))
        have w0 : IntKind.i64.wrap (((j + 1 : Nat) : Int) - 1) = (j : Int) := by rw [IntWalk.i64_in _ (by omega)]; omega
        have w0' : IntKind.i64.wrap ((j : Int) + 1 - 1) = (j : Int) := by rw [IntWalk.i64_in _ (by omega)]; omega
        obtain ⟨u, hu⟩ : ∃ u, u = gi vs j := ⟨_, rfl⟩
        obtain ⟨v, hv⟩ : ∃ v, v = gi vs (j + 1) := ⟨_, rfl⟩
        rw [← hv] at hck
        rw [← hu] at hck1
        have HU := Lib.hid hu
        have HV := Lib.hid hv
        clear hc hb hu hv h
        by_cases h1 : v ≤ u
        · have HNO : Hid (rsB vs N = false) := rsB_no2 (j := j) (by omega) (by rw [← HU.out, ← HV.out]; omega)
          go_wp2
          go_quiet (fail)
          go_wp2
          go_ret
          exact ⟨ret_b HNO.out.symm, below_drewN HB.out _⟩
        · have h2 : u < v := by omega
          clear h1
          go_wp2
          go_quiet (fail)
          go_wp2
          go_roundw
          case rel =>
            refine ⟨j + 1 + 1, by omega, by omega, by go_num, below_drewN HB.out _, fun i hi => ?_⟩
            rcases Nat.lt_or_ge (i + 1) (j + 1) with e | e
            · exact HI.out i e
            · have e2 : i = j := by omega
              subst e2
              rw [← HU.out, ← HV.out]; exact h2
          case measure => simp [intOf]; omega
      · have HY : Hid (rsB vs N = true) := rsB_iff.2 ⟨fun j hj => allIn_at HA.out hj, fun j hj => HI.out j (by omega)⟩
        clear hb h
        go_wp2
        go_ret
        exact ⟨ret_b HY.out.symm, HB.out⟩
end Go.Proofs.Ythalcjgpjagcoaa
