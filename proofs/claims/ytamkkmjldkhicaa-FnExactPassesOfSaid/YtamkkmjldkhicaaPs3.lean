/- PassesOf, of the model. -/
import Derived.Test.YtamkkmjldkhicaaPs2
import Derived.BigQuiet
import Derived.Test.YtamkkmjldkhicaaMgF
namespace Go.Proofs.Ytamkkmjldkhicaa
open Go Go.RowKit

def bitOf : Value → Nat
  | .bool true => 1
  | _ => 0

set_option maxRecDepth 100000 in
set_option maxHeartbeats 1000000 in
theorem sPassesOf_any (A0 : Option Addr) (n c0 : Nat) (zs : List Int) (w : World) (h : RI w A0 n zs) (hn : n ≤ 1048576) (_hnc : n ≤ c0) :
    Calls Try.prog 25 #[.slice A0 n c0] w (RetIB (pasV zs : Int) (decide (zs.length ≤ 100)) w) := by
  have hl := h.1
  unfold pasV
  by_cases h1 : n ≤ 100
  · rw [if_pos (by omega), decide_eq_true (show zs.length ≤ 100 by omega)]
    have hiv := ninv_100 (l := zs) (by omega)
    have HC := Lib.hid (l1Own_any A0 n c0 zs w h hn)
    clear h
    go_enter Try.func25, Try.ntmps25
    go_wp2_with fail
    refine HC.out.mono ?_
    rintro e w1 ⟨A, c, rfl, ho, hb⟩
    have HB := Lib.hid hb
    have HO := Lib.hid ho
    obtain ⟨M, hM⟩ : ∃ M, M = ninv zs := ⟨_, rfl⟩
    have HM := Lib.hid hM
    rw [← hM] at hiv
    clear hb ho hM HC
    go_wp2
    go_loopw [5, 6] (fun s5 s6 wr => ∃ (p : Nat) (l : List Int) (b : Bool), s5 = .int .i64 (p : Int) ∧ s6 = .bool b ∧ l.length = n ∧ p + (if b = true then pasN l else 0) = pasN zs ∧ p + ninv l ≤ M ∧ OI wr w.heap.size A n c l ∧ Below w.heap.size w wr) (fun s5 s6 _ => M + bitOf s6 - (intOf s5).toNat)
    case atStart => exact ⟨0, zs, true, rfl, rfl, hl, by simp, by rw [HM.out]; omega, HO.out, HB.out⟩
    case round =>
      obtain ⟨p, l, b, rfl, rfl, hll, hp, hpi, ho, hb⟩ := hrel
      have HO2 := Lib.hid ho
      have HB2 := Lib.hid hb
      have HP := Lib.hid hp
      have HN := Lib.hid hpi
      have hpM : p ≤ M := by omega
      clear ho hb hp hpi
      cases b
      · go_wp2
        go_ret2
        refine ⟨?_, HB2.out⟩
        have := HP.out
        simp at this
        rw [← this]; rfl
      · go_wp2
        go_loopw [6, 7] (fun s6 i wi => ∃ k : Nat, k ≤ n - 1 ∧ s6 = .bool (pcK l k) ∧ i = .int .i64 (k : Int) ∧ OI wi w.heap.size A n c (psK l k) ∧ Below w.heap.size w wi) (fun _ i _ => n - (intOf i).toNat)
        case atStart => exact ⟨0, Nat.zero_le _, rfl, rfl, HO2.out, HB2.out⟩
        case round =>
          obtain ⟨k, hk, rfl, rfl, ho, hb⟩ := hrel
          have HO := Lib.hid ho
          have HB := Lib.hid hb
          by_cases hlk : k + 1 < n
          · obtain ⟨g, rfl, hg⟩ : ∃ g, A = some ⟨g, 0, none⟩ ∧ w.heap.size ≤ g := by
              obtain ⟨m, hm⟩ : ∃ m, n = m + 1 := ⟨n - 1, by omega⟩
              subst hm
              obtain ⟨g, hA, hg, -⟩ := ho.some_
              exact ⟨g, hA, hg⟩
            have hpl := psK_len l k
            have hc0 := ho.cells k (by omega)
            have hc1 := ho.cells (k + 1) (by omega)
            have fk := ho.2.frozenAt k
            have fk1 := ho.2.frozenAt (k + 1)
            obtain ⟨cu, hcu⟩ : ∃ cu, cu = psK l k := ⟨_, rfl⟩
            rw [← hcu] at hc0 hc1 HO hpl
            have HLL := Lib.hid hcu
            obtain ⟨q, hq⟩ : ∃ q, q = pcK l k := ⟨_, rfl⟩
            rw [← hq]
            have HQ := Lib.hid hq
            obtain ⟨x, hx⟩ : ∃ x, x = gi cu k := ⟨_, rfl⟩
            obtain ⟨y, hy⟩ : ∃ y, y = gi cu (k + 1) := ⟨_, rfl⟩
            rw [← hx] at hc0
            rw [← hy] at hc1
            have HX := Lib.hid hx
            have HY := Lib.hid hy
            clear ho hb hx hy hq hcu
            by_cases hd : y < x
            · have HP : Hid (pcK l (k + 1) = true) := Lib.hid (by simp only [pcK]; rw [← HLL.out, ← HX.out, ← HY.out]; simp [hd])
              have HE : Hid (psK l (k + 1) = (cu.set k y).set (k + 1) x) := Lib.hid (by simp only [psK]; rw [← HLL.out, ← HX.out, ← HY.out, if_pos hd]; unfold exch; rw [← HX.out, ← HY.out])
              go_wp2
              go_quiet (fail)
              clear hd
              go_wp2
              go_roundw
              case rel => exact ⟨k + 1, by omega, by rw [HP.out], by go_num, by rw [HE.out]; exact (((HO.out.drewN _).stored k y).stored (k + 1) x), (((belDrewN HB _).out.setCell hg _).setCell hg _)⟩
              case measure => simp [intOf]; omega
            · have HP : Hid (pcK l (k + 1) = q) := Lib.hid (by simp only [pcK]; rw [← HLL.out, ← HX.out, ← HY.out, ← HQ.out]; simp [hd])
              have HE : Hid (psK l (k + 1) = cu) := Lib.hid (by simp only [psK]; rw [← HLL.out, ← HX.out, ← HY.out, if_neg hd])
              have hd1 : x ≤ y := by omega
              go_wp2
              go_quiet (fail)
              go_wp2
              go_roundw
              case rel => exact ⟨k + 1, by omega, by rw [HP.out], by go_num, by rw [HE.out]; exact HO.out.drewN _, (belDrewN HB _).out⟩
              case measure => simp [intOf]; omega
          · obtain rfl : k = n - 1 := by omega
            have e1 : psK l (n - 1) = passL l := by unfold passL; rw [hll]
            have e2 : pcK l (n - 1) = passB l := by unfold passB; rw [hll]
            rw [e1] at HO
            have E2 := Lib.hid e2
            clear ho hb e1 e2
            rcases hq : passB l with _ | _
            · have HY := Lib.hid (pasN_no hq)
              have HL : Hid (ninv (passL l) ≤ ninv l) := Lib.hid (by
                by_cases hz : l.length = 0
                · unfold passL; rw [hz]; exact Nat.le_refl _
                · exact (psK_inv l _ (by omega)).1)
              rw [E2.out, hq]
              clear hq
              go_wp2
              go_roundw
              case rel => exact ⟨p, passL l, false, rfl, rfl, by rw [passL_len]; exact hll, by have := HP.out; have := HY.out; simp at *; omega, by have := HL.out; have := HN.out; omega, HO.out, HB.out⟩
              case measure => simp [intOf, bitOf]; omega
            · have HY := Lib.hid (pasN_yes hq)
              have HL := Lib.hid (pass_less hq)
              have hlt : p < M := by have := HL.out; have := HN.out; omega
              rw [E2.out, hq]
              clear hq
              go_wp2
              go_roundw
              case rel => exact ⟨p + 1, passL l, true, by go_num, rfl, by rw [passL_len]; exact hll, by have := HP.out; have := HY.out; simp at *; omega, by have := HL.out; have := HN.out; omega, HO.out, HB.out⟩
              case measure => simp [intOf, bitOf]; omega
  · rw [if_neg (by omega), decide_eq_false (show ¬ zs.length ≤ 100 by omega)]
    clear h
    go_enter Try.func25, Try.ntmps25
    go_wp2
    go_ret2
    exact ⟨rfl, Below.refl _ _⟩
end Go.Proofs.Ytamkkmjldkhicaa
