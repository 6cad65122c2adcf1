/- The taking game's positions: the ladder that is left, in new memory. -/
import Derived.Test.YtiapbmgpjloafaaGm4
import Derived.Test.YtiapbmgpjloafaaMgE
import Derived.Test.YtiapbmgpjloafaaApS
import Derived.Deep.RegionLaw
namespace Go.Proofs.Ytiapbmgpjloafaa
open Go Go.RowKit

theorem oiDG {w : World} {B : Nat} {A : Option Addr} {n c : Nat} {zs : List Int} (h : OI w B A n c zs) : OI w.drew B A n c zs := h
theorem cellsG {w : World} {B b : Nat} {n c : Nat} {zs : List Int} (h : OI w B (some ⟨b, 0, none⟩) n c zs) (j : Nat) (hj : j < n) : w.cell? ⟨b, j, none⟩ = some (.int .i64 (gi zs j)) := by
  obtain ⟨b', off', e, _, hc⟩ := h.ri.cell hj
  injection e with e; injection e with e1 e2 e3
  subst e1 e2
  have := hc j hj
  rwa [Nat.zero_add] at this
theorem indK_at {S : Nat} {k : Nat} {j : Nat} (h : j < (indK S k).length) : ∃ i : Nat, i < k ∧ S.testBit i = true ∧ gi (indK S k) j = (i : Int) := by
  have hm : gi (indK S k) j ∈ indK S k := by rw [gi_lt h]; exact List.getElem_mem h
  exact indK_mem.1 hm
theorem take_ladder {zs : List Int} {S k j : Nat} (h : j < (indK S k).length) : (leftK zs S k).take (j + 1) = (leftK zs S k).take j ++ [gi zs (gi (indK S k) j).toNat] := by
  have hl := indK_len zs S k
  rw [List.take_succ_eq_append_getElem (by omega)]
  congr 2
  simp only [leftK_ind, List.getElem_map]
  rw [gi_lt h]

set_option maxRecDepth 100000 in
set_option maxHeartbeats 2000000 in
theorem ladder_any (W : Int) (A : Option Addr) (n c : Nat) (zs : List Int) (S : Nat) (w : World) (h : RI w A n zs) (hn : n ≤ 60) (hS : S < 4096) :
    Calls Try.prog 87 #[.agg #[.int .i64 W, .slice A n c, .int .i64 (S : Int)]] w (FreshL w W (leftL zs S).length (leftL zs S)) := by
  have hz := h.1
  have HLL : Hid (leftL zs S = leftK zs S n) := Lib.hid (by unfold leftL; rw [hz])
  have HIL : Hid ((indK S n).length = (leftK zs S n).length) := Lib.hid (indK_len zs S n)
  have hle := indK_le S n
  have HII := Lib.hid (fun w2 (r : RI w2 A n zs) => indices_any W A n c zs S w2 r hn hS)
  have HH := Lib.hid (fun w2 (r : Below w.heap.size w w2) => h.below r (Nat.le_refl _))
  have HA := btAlloc (btNew (W := W) (c := c) (S := S) 70 h) (.cells #[.int .i64 0, .slice none 0 0] 28)
  have HB := belAlloc (belAlloc (belRefl (w := w)) (.cells #[.int .i64 W, .slice A n c, .int .i64 (S : Int)] 70)) (.cells #[.int .i64 0, .slice none 0 0] 28)
  have HC := cellNew (w.alloc (.cells #[.int .i64 W, .slice A n c, .int .i64 (S : Int)] 70)) (.int .i64 0) (.slice none 0 0) 28
  rw [HLL.out]
  obtain ⟨M, hM⟩ : ∃ M, M = (indK S n).length := ⟨_, rfl⟩
  rw [← hM] at HIL hle HII
  rw [← HIL.out]
  have HM := Lib.hid hM
  clear hz h hM
  go_enter Try.func87, Try.ntmps87
  have a0 := HA.out.c0; have a1 := HA.out.c1; have a2 := HA.out.c2; have az := HA.out.lt
  go_wp2_with fail
  have HL := cellNew ((w.alloc (.cells #[.int .i64 W, .slice A n c, .int .i64 (S : Int)] 70)).alloc (.cells #[.int .i64 0, .slice none 0 0] 28)) (.int .i64 W) (.slice none 0 0) 28
  replace HA := btAlloc HA (.cells #[.int .i64 W, .slice none 0 0] 28)
  replace HB := belAlloc HB (.cells #[.int .i64 W, .slice none 0 0] 28)
  replace HC := cellAlloc HC (.cells #[.int .i64 W, .slice none 0 0] 28)
  refine (HII.out _ HA.out.ri).mono ?_
  rintro e w3 ⟨I1, d1, rfl, o3, hb⟩
  replace HA := btStep HA hb; replace HB := belStep HB hb; replace HC := cellStep HC hb; replace HL := cellStep HL hb
  simp only [World.size_alloc] at HC HL
  have HI := Lib.hid o3
  have z3 : w.heap.size + 1 + 1 + 1 ≤ w3.heap.size := by have := hb.size; simpa using this
  clear hb o3 a0 a1 a2 az HII
  go_wp2
  go_loopw [13] (fun i wr => ∃ (k : Nat) (E : Option Addr) (d : Nat), k ≤ M ∧ i = .int .i64 k ∧ Cell2 wr (w.heap.size + 1 + 1) (.int .i64 W) (.slice E k d) ∧ OI wr w3.heap.size E k d ((leftK zs S n).take k) ∧ Below (w.heap.size + 1 + 1) w3 wr ∧ OI wr (w.heap.size + 1 + 1 + 1) I1 M d1 (indK S n) ∧ w3.heap.size ≤ wr.heap.size) (fun i _ => M - (intOf i).toNat)
  case atStart => exact ⟨0, none, 0, Nat.zero_le _, rfl, HL.out, OI.none_ _ _, Below.refl _ _, HI.out.mono (by simp), Nat.le_refl _⟩
  case round =>
    obtain ⟨k, E, d, hk, rfl, hL, hE, hb, hI, hzr⟩ := hrel
    have HLr := Lib.hid hL; have HE := Lib.hid hE; have HBr := Lib.hid hb; have HIr := Lib.hid hI
    have l0 := hL.c0; have l1 := hL.c1; have lf0 := hL.f0; have lf1 := hL.f1; have lz := hL.lt
    by_cases hlt : k < M
    · have hAr := bt_ap HA.out (hb.mono (by omega)) (HH.out _ (HB.out.trans (hb.mono (by omega))))
      have b0 := hAr.c0; have b1 := hAr.c1; have b2 := hAr.c2
      obtain ⟨i, hi, hbit, hgi⟩ := indK_at (S := S) (k := n) (j := k) (by have := HM.out; omega)
      have HT := Lib.hid (take_ladder (zs := zs) (S := S) (k := n) (j := k) (by have := HM.out; omega))
      obtain ⟨ib, rfl⟩ : ∃ ib, I1 = some ⟨ib, 0, none⟩ := by
        rcases hI.form with ⟨_, _, h0⟩ | ⟨g, cur, e, _⟩
        · omega
        · exact ⟨g, e⟩
      have hck := cellsG hI k hlt
      rw [hgi] at hck
      obtain ⟨b, off, rfl, hbw, hc⟩ := hAr.ri.cell hi
      have hci := hc i hi
      obtain ⟨x, hx⟩ : ∃ x, x = gi zs i := ⟨_, rfl⟩
      rw [← hx] at hci
      have HTX : Hid ((leftK zs S n).take (k + 1) = (leftK zs S n).take k ++ [x]) := Lib.hid (by rw [HT.out, hgi, hx, Int.toNat_natCast])
      have i1 : (k : Int) < (M : Int) := by omega
      have i2 : (i : Int) < (n : Int) := by omega
      have i0 : (0 : Int) ≤ (i : Int) := by omega
      have hl2 : w.heap.size + 1 + 1 < w3.heap.size := by omega
      clear hL hE hb hI hc hx hbit hgi hAr
      go_wp2
      go_region_law (refine step_append_intL _ rfl (.tmp 18) (.tmp 25) rfl w3.heap.size E _ d _ x wr.heap.size rfl rfl (by first | exact HE.out.alloc _ | exact oiDG (HE.out.alloc _)) (by simp) (by omega) (by simp; omega) ?_; intro E5 d5 w5 ho5 hg5 hl5; have HM5 := cellKeptNe (cellDrew (cellAlloc HLr _)) hg5 (oiDG (HE.out.alloc _)) hl2; have n0 := HM5.out.c0; have n1 := HM5.out.c1; have nf0 := HM5.out.f0; have nf1 := HM5.out.f1; have nz := HM5.out.lt)
      all_goals
        go_wp2
        go_roundw
        case rel =>
          refine ⟨k + 1, E5, d5, by omega, by go_num, (cellSet1 HM5 _).out, ?_, ?_, ?_, ?_⟩
          · rw [HTX.out]; exact ho5.setBelow hl2 _
          · exact (((HBr.out.alloc (by omega) _).drew.trans (ofMark (K := w.heap.size + 1 + 1) (oiDG (HE.out.alloc _)) hg5 (by omega) (by simp; omega))).setCell (Nat.le_refl _) _)
          · refine ((oiDG (HIr.out.alloc (.cells #[.int .i64 x] 3))).kept hg5 (fun y hy e => ?_)).setBelow (by simp) _
            have h1 := HI.out.blk y hy
            have h2 := HE.out.blk y e
            omega
          · have := hg5.size; simp [World.setCell] at this ⊢; omega
        case measure => simp [intOf]; omega
    · obtain rfl : k = M := by omega
      have HCr := cellBelow HC (show w.heap.size + 1 < w.heap.size + 1 + 1 by omega) hb
      have k0 := HCr.out.c0; have k1 := HCr.out.c1; have f0 := HCr.out.f0; have f1 := HCr.out.f1; have cz := HCr.out.lt
      have hTk : (leftK zs S n).take k = leftK zs S n := List.take_of_length_le (by rw [HIL.out]; exact Nat.le_refl _)
      rw [hTk] at hE
      have HE2 := Lib.hid hE
      clear hL hE hb hI HE hTk
      go_wp2
      exact bodyPost_ret (v := .agg #[.int .i64 W, .slice E k d]) (by simp [results, Try.results87, go_sem, k0, k1]) rfl
        ⟨E, d, rfl, ((HE2.out.setBelow (by simp; omega) _).setBelow (by simp; omega) _).mono (by omega), ((HB.out.trans (HBr.out.mono (by omega))).setCell (by simp) _).setCell (by simp) _⟩
end Go.Proofs.Ytiapbmgpjloafaa
