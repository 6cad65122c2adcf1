/- RungsOn, of the program. -/
import Derived.Test.YthalcjgpjagcoaaMt3
namespace Go.Proofs.Ythalcjgpjagcoaa
open Go Go.RowKit

theorem sm_fin {W : Int} {zs : List Int} (hq : lad W zs = true) {a : Nat} (ha : (a : Int) < W) : smN zs a zs.length W.toNat = usN zs a zs.length := by
  have hW := (lad_iff.1 hq).1
  obtain ⟨N, rfl⟩ : ∃ N : Nat, W = (N : Int) := ⟨W.toNat, by omega⟩
  exact sm_us (Sml.of hq) (by omega) _ (Nat.le_refl _)

set_option maxRecDepth 100000 in
set_option maxHeartbeats 4000000 in
theorem iRungsOn_any (W : Int) (A : Option Addr) (n c : Nat) (zs : List Int) (w : World) (h : RI w A n zs) (hn : n ≤ 1048576) :
    Calls Try.prog 37 #[.agg #[.int .i64 W, .slice A n c]] w (FreshIB w (usT W zs).length (usT W zs) (lad W zs)) := by
  have hl := h.1
  have hl2 : zs.length = n := h.1
  have HA := boxNew (W := W) (c := c) 29 h
  have HB := belAlloc (belRefl (w := w)) (.cells #[.int .i64 W, .slice A n c] 29)
  have HM := Lib.hid (fun w2 (r : RI w2 A n zs) => iMeetingTable_any W A n c zs w2 r hn)
  rcases hq : lad W zs with _ | _
  · rw [usT_no hq]
    rw [hq] at HM
    clear hq h
    go_enter Try.func37, Try.ntmps37
    go_wp2_with fail
    refine (HM.out _ HA.out.ri).mono ?_
    rintro e w1 ⟨A1, c1, M1, S1, rfl, _, hb⟩
    replace HB := belStep HB hb
    clear hb
    go_wp2
    go_ret2
    exact ⟨none, 0, rfl, OI.none_ _ _, HB.out⟩
  · rw [usT_yes hq]
    rw [hq] at HM
    have hW := (lad_iff.1 hq).1
    have hn60 : n ≤ 60 := by have := (lad_iff.1 hq).2.1; omega
    obtain ⟨N, rfl⟩ : ∃ N : Nat, W = (N : Int) := ⟨W.toNat, by omega⟩
    rw [Int.toNat_natCast, usL_len]
    have HSM : Hid (∀ a, a < N → smN zs a n N = gi (usL zs N) a) := fun a ha => by
      rw [gi_usL _ _ _ ha, ← hl]
      have := sm_fin hq (a := a) (by omega)
      rw [Int.toNat_natCast] at this
      exact this
    have HTT : Hid (mtTT (N : Int) zs = mtT zs N) := by show _ = _; rw [mtTT_yes hq, Int.toNat_natCast]
    have hmk := run_make_row' (P := Try.prog) 22 3 (.int .i64 0) 8 Try.underlying22 infoInt rfl .i64 .i64 N (by omega) (by omega)
    have HLL := Lib.hid (usL_len zs N)
    have HL0 : Hid (smN zs 0 n 0 = 0) := rfl
    clear hq h
    go_enter Try.func37, Try.ntmps37
    go_wp2_with fail
    refine (HM.out _ HA.out.ri).mono ?_
    rintro e w1 ⟨A1, c1, M1, S1, rfl, ho, hb⟩
    rw [HTT.out] at ho
    have HT := Lib.hid ho.rb
    replace HA := boxStep HA hb; replace HB := belStep HB hb
    have a0 := HA.out.c0; have a1 := HA.out.c1; have az := HA.out.lt
    have z1 := HB.out.size
    rw [HTT.out, mtT_len]
    rw [mtT_len] at HT
    clear hb ho
    go_wp2
    go_loopw [23] (fun i wr => ∃ k : Nat, k ≤ N ∧ i = .int .i64 k ∧ wr.rowIs w1.heap.size 3 N (fun j => if j < k then .int .i64 (gi (usL zs N) j) else .int .i64 0) ∧ Below w1.heap.size w1 wr) (fun i _ => N - (intOf i).toNat)
    case atStart =>
      exact ⟨0, Nat.zero_le _, rfl, (World.rowIs_made w1 (.int .i64 0) N 3).congr (fun j _ => by simp), (Below.refl _ _).alloc (Nat.le_refl _) _⟩
    case round =>
      obtain ⟨k, hk, rfl, hrow, hb⟩ := hrel
      by_cases hlt : k < N
      · obtain ⟨b, off, e1, hbw, hcc⟩ := HT.out.2.2 (by omega)
        obtain ⟨a, m, d, hck, hrb⟩ := hcc k hlt
        rw [gz_mtT _ _ _ hlt] at hrb
        obtain rfl : m = N := by have := hrb.1; rw [mtRow_len] at this; omega
        replace hck := (hb.cell (p := ⟨b, off + k, none⟩) hbw).trans hck
        have HRB := Lib.hid hrb
        have HR := Lib.hid hrow
        have HBk := Lib.hid hb
        have hz := hb.size
        subst e1
        clear hcc hrb hrow hb a0 a1 hl HM HTT hmk
        go_wp2
        go_loopw [30] (fun i wq => ∃ y : Nat, y ≤ m ∧ i = .int .i64 y ∧ wq.rowIs w1.heap.size 3 m (fun j => if j < k then .int .i64 (gi (usL zs m) j) else if j = k then .int .i64 (smN zs k n y) else .int .i64 0) ∧ Below w1.heap.size w1 wq) (fun i _ => m - (intOf i).toNat)
        case atStart =>
          refine ⟨0, Nat.zero_le _, rfl, HR.out.congr (fun j _ => ?_), HBk.out⟩
          by_cases e : j < k
          · simp [e]
          · by_cases e2 : j = k
            · simp [e2, smN]
            · simp [e, e2]
        case round =>
          obtain ⟨y, hy, rfl, hrow, hb⟩ := hrel
          by_cases hlt2 : y < m
          · obtain ⟨b2, off2, rfl, hbw2, hc2⟩ := (HRB.out.step hb).ri.cell (j := y) (by omega)
            have hcy := hc2 y hlt2
            rw [gi_mtRow _ _ _ _ hlt2, hl2] at hcy
            have hdd := hrow.cell hlt
            have hf := hrow.frozen k
            have hm1 := mtN_le zs k y n
            have hs1 := smN_le zs k n y
            have hs2 : smN zs k n (y + 1) = smN zs k n y + mtN zs k y n := rfl
            have hs3 : (y : Int) * (n : Int) ≤ 480 := by
              have e1 : (y : Int) * (n : Int) ≤ (8 : Int) * (n : Int) := Int.mul_le_mul_of_nonneg_right (by omega) (by omega)
              omega
            have H1 := Lib.hid hrow
            have H2 := Lib.hid hb
            simp only [Nat.lt_irrefl, if_false, if_true] at hdd
            obtain ⟨u, hu⟩ : ∃ u, u = mtN zs k y n := ⟨_, rfl⟩
            obtain ⟨t, ht⟩ : ∃ t, t = smN zs k n y := ⟨_, rfl⟩
            rw [← hu] at hcy hm1 hs2
            rw [← ht] at hdd hs1 hs2
            have HE := Lib.hid hs2
            have hwt : IntKind.i64.wrap (t + u) = t + u := IntWalk.i64_in _ (by omega)
            clear hrow hb hc2 hu ht hs1 hs2 hs3 hm1
            go_wp2
            go_roundw
            case rel =>
              refine ⟨y + 1, by omega, by go_num, (H1.out.set k _).congr (fun j hj => ?_), H2.out.setCell (by simp) _⟩
              by_cases e2 : j = k
              · simp [e2, HE.out]
              · by_cases e : j < k
                · simp [e, e2]
                · simp [e, e2]
            case measure => simp [intOf]; omega
          · obtain rfl : y = m := by omega
            have H1 := Lib.hid hrow
            have H2 := Lib.hid hb
            clear hrow hb
            go_wp2
            go_roundw
            case rel =>
              refine ⟨k + 1, by omega, by go_num, H1.out.congr (fun j hj => ?_), H2.out⟩
              by_cases e : j < k
              · simp [e, show j < k + 1 by omega]
              · by_cases e2 : j = k
                · subst e2; simp [HSM.out _ hlt]
                · simp [e, e2, show ¬ j < k + 1 by omega]
            case measure => simp [intOf]; omega
      · obtain rfl : k = N := by omega
        go_wp2
        go_ret2
        refine ⟨_, _, rfl, OI.of_rowIs z1 hrow (by simp only [maxLen]; omega) HLL.out (fun j hj => by simp [hj]), HB.out.trans (hb.mono z1)⟩
end Go.Proofs.Ythalcjgpjagcoaa
