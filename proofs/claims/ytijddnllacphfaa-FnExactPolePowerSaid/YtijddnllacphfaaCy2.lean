/- The contract of the model's function that looks for cycles. -/
import Derived.Test.YtijddnllacphfaaCy1
import Derived.Test.YtijddnllacphfaaMgF
namespace Go.Proofs.Ytijddnllacphfaa
open Go Go.RowKit

theorem ord_inn {zs : List Int} (h : ord zs = true) : Inn zs := fun _ hj => ord_at h hj

set_option maxRecDepth 100000 in
set_option maxHeartbeats 4000000 in
theorem laCycles_any (A0 : Option Addr) (n c0 : Nat) (zs : List Int) (w : World) (h : RI w A0 n zs) (hq : ord zs = true) :
    Calls Try.prog 65 #[.slice A0 n c0] w (FreshSS w (cycles zs)) := by
  have hl := h.1
  have h8 : zs.length ≤ 8 := (ord_iff.1 hq).2.1
  have HI := Lib.hid (ord_inn hq)
  have HA := Lib.hid h
  have hmk := run_make_row' (P := Try.prog) 86 4 (.bool false) 1 Try.underlying86 infoBool rfl .i64 .i64 n (by omega) (by omega)
  clear hq h
  go_enter Try.func65, Try.ntmps65
  go_wp2
  go_loopw [3, 5, 6, 7, 13] (fun s3 _ _ _ i wr => ∃ (k : Nat) (A : Option Addr) (c M : Nat) (S : List Sl), k ≤ n ∧ i = .int .i64 k ∧ s3 = .slice A (cycK zs k).length c ∧ OutRelC w w.heap.size 4 n zs k A c M S wr) (fun _ _ _ _ i _ => n - (intOf i).toNat)
  case atStart =>
    refine ⟨0, none, 0, _, [], Nat.zero_le _, rfl, rfl, ⟨(OII.none_ _ _), (World.rowIs_made w (.bool false) n 4).congr (fun j _ => rfl), (Below.refl _ _).alloc (Nat.le_refl _) _, by simp⟩⟩
  case round =>
    obtain ⟨k, A, c, M, S, hk, rfl, rfl, hr⟩ := hrel
    have HR := Lib.hid hr
    clear hr
    by_cases hlt : k < n
    · have HC := Lib.hid (clen_stop (s := seenK zs k) HI.out h8 (show k < zs.length by omega))
      have HL := Lib.hid ((cycK_sum HI.out h8 k (by omega)).2)
      have HT := Lib.hid HR.out.start
      obtain ⟨K, hK⟩ : ∃ K, K = wr.heap.size := ⟨_, rfl⟩
      rw [← hK] at HT
      clear hmk hK HR
      go_wp2_with fail
      go_loopw [6, 7] (fun s6 s7 wi => ∃ (i : Nat) (A1 : Option Addr) (c1 : Nat), s6 = .slice A1 i c1 ∧ s7 = .int .i64 ((pos zs k i : Nat) : Int) ∧ InRel w w.heap.size 4 n zs k K M A c S A1 c1 i wi) (fun s6 _ _ => 20 - lenOf s6)
      case atStart => exact ⟨0, none, 0, rfl, rfl, HT.out⟩
      case round =>
        obtain ⟨i, A1, c1, rfl, rfl, hir⟩ := hrel
        have HR := Lib.hid hir
        have hin : i ≤ n := by have h1 := cnt_upds (s := seenK zs k) HI.out (show k < zs.length by omega) i hir.not; have h2 := cnt_le (seenK zs k) zs.length; omega
        obtain ⟨p, hp⟩ : ∃ p, p = pos zs k i := ⟨_, rfl⟩
        have hpn : p < n := by have := pos_lt HI.out (show k < zs.length by omega) i; rw [← hp] at this; omega
        have hd := hir.seen.cell (show pos zs k i < n by omega)
        have hf := hir.seen.frozen p
        have hKr := hir.hK
        have hbK := hir.hbK
        rw [← hp] at hd
        rcases hq : upds (seenK zs k) zs k i (pos zs k i) with _ | _
        · rw [← hp] at hq
          rw [hq] at hd
          have hp1 : gi zs p = ((pos zs k (i + 1) : Nat) : Int) := by simp only [pos]; rw [← hp]; have := HI.out p (by omega); omega
          obtain ⟨bp, off, rfl, hbw, hcp⟩ := HA.out.cell hpn
          have hcp := hcp p hpn
          rw [hp1] at hcp
          have HQ := Lib.hid hq
          have HP := Lib.hid hp
          have ho1 : OI (wr.setCell ⟨w.heap.size, p, none⟩ (.bool true)) K A1 i c1 (cyc zs k i) := hir.row.setBelow (by simp; omega) _
          have HO1 := Lib.hid ho1
          have HBN := Lib.hid hbw
          have HCP := Lib.hid hcp
          rw [← hp]
          clear hir hq hp ho1 hcp HC HL HT hp1
          go_wp2_with (at_builtin; refine wpList_append_int _ rfl _ _ rfl K A1 i c1 _ ((p : Nat) : Int) wr.heap.size rfl rfl (HO1.out.alloc _) (cellNew0 _ _ _ (sizeSet _ _ _)) (by omega) (by simp; omega) ?_; intro A2 c2 w2 ho2 hg2; have HN := Lib.hid (HR.out.step (o := .cells #[.int .i64 ((p : Nat) : Int)] 3) (A2 := A2) (c2 := c2) (w2 := w2) (by rw [← HP.out]; exact HQ.out) (by rw [← HP.out]; exact ho2) (by rw [← HP.out]; exact hg2)); have hck := (HN.out.bel.cell (p := ⟨bp, off + p, none⟩) HBN.out).trans HCP.out; clear ho2 hg2)
          go_roundw
          case rel => exact ⟨i + 1, A2, c2, rfl, rfl, HN.out⟩
          case measure => simp [lenOf]; omega
        · rw [← hp] at hq
          rw [hq] at hd
          have hcl : clen (seenK zs k) zs k = i := HC.out.1.unique ⟨by rw [← hp]; exact hq, hir.not⟩
          have HCL := Lib.hid hcl
          clear HC HT hf
          rcases Nat.eq_zero_or_pos i with h0 | h0
          · subst h0
            have HN := Lib.hid (hir.none' hcl)
            rw [← hp]
            clear hir hq hp hcl
            go_wp2
            go_roundw
            case rel => exact ⟨k + 1, A, c, M, S, by omega, by go_num, by rw [HN.out.1], HN.out.2⟩
            case measure => simp [intOf]; omega
          · have h0' : (0 : Int) < (i : Int) := by omega
            have HO := Lib.hid hir.out
            have HW := Lib.hid hir.row
            have HM := Lib.hid (hir.out.le)
            have hMK := hir.hMK
            rw [← hp]
            clear hir hq hp hcl
            have HOa : Hid (OII wr (w.heap.size + 1) K A (cycK zs k).length c (cycK zs k) S) := ⟨HO.out.own, HO.out.lS, HO.out.lz, HO.out.inn, HO.out.dis, fun j s hs b hb => Nat.lt_of_lt_of_le (HO.out.lt j s hs b hb) hMK, hKr⟩
            go_wp2_with (at_builtin; refine wpList_append_sl _ rfl _ _ rfl (w.heap.size + 1) K A (cycK zs k).length c _ S A1 i c1 _ wr.heap.size rfl rfl (HOa.out.below ((Below.refl _ _).alloc (Nat.le_refl _) _)) (HW.out.alloc _) hbK (by simp) (by have := HL.out; omega) (by simp; omega) ?_; intro A2 c2 w2 ho2 hg2; have HN := Lib.hid (HR.out.found HCL.out h0 ho2 hg2); clear ho2 hg2)
            go_roundw
            case rel => exact ⟨k + 1, A2, c2, _, _, by omega, by go_num, by rw [HN.out.1], HN.out.2⟩
            case measure => simp [intOf]; omega
    · obtain rfl : k = n := by omega
      clear hmk
      go_wp2
      go_ret
      have e : cycK zs k = cycles zs := by unfold cycles; rw [hl]
      have ho := HR.out.out
      rw [e] at ho
      exact ⟨A, c, M, S, by rw [← e]; rfl, ho.mono (by omega), HR.out.bel⟩
end Go.Proofs.Ytijddnllacphfaa
