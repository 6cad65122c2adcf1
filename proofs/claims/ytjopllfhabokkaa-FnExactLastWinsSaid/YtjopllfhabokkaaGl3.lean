/- The lasting game: who wins, of the program; the rungs that can be added, of the model. -/
import Derived.Test.YtjopllfhabokkaaGl2
import Derived.Test.YtjopllfhabokkaaGm4
namespace Go.Proofs.Ytjopllfhabokkaa
open Go Go.RowKit

theorem lg_len {n : Nat} (h : n = 2 ∨ n = 3 ∨ n = 4 ∨ n = 5 ∨ n = 6 ∨ n = 7 ∨ n = 8) : (lgL (n : Int)).length = n * (n - 1) / 2 := by
  rcases h with rfl | rfl | rfl | rfl | rfl | rfl | rfl <;> decide +kernel

set_option maxRecDepth 100000 in
set_option maxHeartbeats 2000000 in
theorem iLastWins_any (W : Int) (A : Option Addr) (n c : Nat) (zs : List Int) (w : World) (h : RI w A n zs) (hn : n ≤ 1048576) :
    Calls Try.prog 26 #[.agg #[.int .i64 W, .slice A n c]] w (RetBB (lwB W zs) (lstB W zs) w) := by
  have hz := h.1
  have HA := boxNew (W := W) (c := c) 27 h
  have HB := belAlloc (belRefl (w := w)) (.cells #[.int .i64 W, .slice A n c] 27)
  have HI := Lib.hid (fun w2 (r : RI w2 A n zs) => iIsLeast_any W A n c zs w2 r hn)
  have HL := Lib.hid (fun w2 => iLongestLadder_free W w2)
  rcases hq : lstB W zs with _ | _
  · rw [lwB_no hq]
    rw [hq] at HI
    obtain ⟨q, hqq⟩ : ∃ q, q = lad W zs := ⟨_, rfl⟩
    rw [← hqq] at HI
    obtain ⟨p, hp⟩ : ∃ p, p = lgB W := ⟨_, rfl⟩
    rw [← hp] at HL
    clear hq h hqq hp hz
    go_enter Try.func26, Try.ntmps26
    have a0 := HA.out.c0; have a1 := HA.out.c1; have az := HA.out.lt
    go_wp2_with fail
    refine (HL.out _).mono ?_
    rintro e w1 ⟨A1, c1, rfl, o1, hb⟩
    replace HA := boxStep HA hb; replace HB := belStep HB hb; replace a0 := HA.out.c0; replace a1 := HA.out.c1; replace az := HA.out.lt
    clear hb
    go_wp2_with fail
    replace HA := boxAlloc HA (.cells #[.int .i64 (ifW p W), .slice A1 (lgL W).length c1] 27)
    replace HB := belAlloc HB (.cells #[.int .i64 (ifW p W), .slice A1 (lgL W).length c1] 27)
    refine (HI.out _ HA.out.ri).mono ?_
    rintro e w2 ⟨rfl, hb⟩
    replace HB := belStep HB hb
    clear hb HA HI HL a0 a1 az
    go_wp2
    go_ret2
    exact ⟨rfl, HB.out⟩
  · rw [lwB_yes hq]
    rw [hq] at HI
    have hl := lst_lad hq
    rw [hl] at HI
    have hW := (lad_iff.1 hl).1
    have hn6 := (lad_iff.1 hl).2.1
    have hlg : lgB W = true := inB_true ⟨hW.1, hW.2⟩
    unfold lwT
    rw [hz]
    obtain ⟨N, rfl⟩ : ∃ N : Nat, W = (N : Int) := ⟨W.toNat, by omega⟩
    rw [Int.toNat_natCast]
    have hN : N = 2 ∨ N = 3 ∨ N = 4 ∨ N = 5 ∨ N = 6 ∨ N = 7 ∨ N = 8 := by omega
    rw [hlg, ifW_yes, lg_len hN] at HL
    have hn60 : n ≤ 60 := by omega
    have hT : N * (N - 1) / 2 ≤ 28 := by rcases hN with rfl | rfl | rfl | rfl | rfl | rfl | rfl <;> decide
    obtain ⟨T, hTT⟩ : ∃ T, T = N * (N - 1) / 2 := ⟨_, rfl⟩
    rw [← hTT] at HL hT ⊢
    clear hq h hl hz hW hn6 hn hlg hN hTT
    go_enter Try.func26, Try.ntmps26
    have a0 := HA.out.c0; have a1 := HA.out.c1; have az := HA.out.lt
    go_wp2_with fail
    refine (HL.out _).mono ?_
    rintro e w1 ⟨A1, c1, rfl, o1, hb⟩
    replace HA := boxStep HA hb; replace HB := belStep HB hb; replace a0 := HA.out.c0; replace a1 := HA.out.c1; replace az := HA.out.lt
    have HX := boxNew (W := (N : Int)) (c := c1) 27 o1.ri
    clear hb o1
    go_wp2_with fail
    replace HA := boxAlloc HA (.cells #[.int .i64 (N : Int), .slice A1 T c1] 27)
    replace HB := belAlloc HB (.cells #[.int .i64 (N : Int), .slice A1 T c1] 27)
    refine (HI.out _ HA.out.ri).mono ?_
    rintro e w2 ⟨rfl, hb⟩
    replace HA := boxStep HA hb; replace HB := belStep HB hb; replace HX := boxStep HX hb
    replace a0 := HA.out.c0; replace a1 := HA.out.c1; replace az := HA.out.lt
    have x0 := HX.out.c0; have x1 := HX.out.c1; have xz := HX.out.lt
    clear hb HI HL
    go_wp2
    go_ret2
    exact ⟨rfl, HB.out⟩

set_option maxRecDepth 100000 in
set_option maxHeartbeats 2000000 in
theorem sLastMoves_any (W : Int) (A : Option Addr) (n c : Nat) (zs : List Int) (w : World) (h : RI w A n zs) (hn : n ≤ 1048576) :
    Calls Try.prog 27 #[.agg #[.int .i64 W, .slice A n c]] w (FreshIB w (lmL W zs).length (lmL W zs) (lstB W zs)) := by
  have HA := boxNew (W := W) (c := c) 27 h
  have HB := belAlloc (belRefl (w := w)) (.cells #[.int .i64 W, .slice A n c] 27)
  have HG := Lib.hid (fun w2 (r : RI w2 A n zs) => gaLasting_any W A n c zs w2 r hn)
  rcases hq : lstB W zs with _ | _
  · rw [lmL_no hq]
    rw [hq] at HG
    clear hq h
    go_enter Try.func27, Try.ntmps27
    go_wp2_with fail
    refine (HG.out _ HA.out.ri).mono ?_
    rintro e w1 ⟨rfl, hb⟩
    replace HB := belStep HB hb
    clear hb
    go_wp2
    go_ret2
    exact ⟨none, 0, rfl, OI.none_ _ _, HB.out⟩
  · rw [lmL_yes hq]
    rw [hq] at HG
    have hl := lst_lad hq
    have hW := (lad_iff.1 hl).1
    obtain ⟨N, rfl⟩ : ∃ N : Nat, W = (N : Int) := ⟨W.toNat, by omega⟩
    rw [Int.toNat_natCast]
    have HR := Lib.hid (fun w2 (r : RI w2 A n zs) => laResult_any N A n c zs w2 r hn hl)
    have HK := Lib.hid (fun A2 c2 w2 (r : RI w2 A2 N (res zs N)) => laBack_any A2 N c2 (res zs N) w2 r (by omega) (res_ord hl))
    have HLM := Lib.hid (fun k => lmK_len zs N k)
    have HY := Lib.hid (fun k h => @lmK_yes zs N k h)
    have HN := Lib.hid (fun k h => @lmK_no zs N k h)
    obtain ⟨bk, hbk⟩ : ∃ bk, bk = back (res zs N) := ⟨_, rfl⟩
    rw [← hbk] at HK HY HN
    obtain ⟨L, hL⟩ : ∃ L : Nat → List Int, L = lmK zs N := ⟨_, rfl⟩
    rw [← hL] at HY HN HLM ⊢
    have HL0 : Hid (L 0 = []) := Lib.hid (by rw [hL]; rfl)
    have h2 : 2 ≤ N := by omega
    have h8 : N ≤ 8 := by omega
    have hHH := Lib.hid (fun w2 (r : Below w.heap.size w w2) => h.below r (Nat.le_refl _))
    clear hq h hl hW hbk hL
    go_enter Try.func27, Try.ntmps27
    go_wp2_with fail
    refine (HG.out _ HA.out.ri).mono ?_
    rintro e w1 ⟨rfl, hb⟩
    replace HA := boxStep HA hb; replace HB := belStep HB hb; have a0 := HA.out.c0; have a1 := HA.out.c1; have az := HA.out.lt
    clear hb
    go_wp2_with fail
    refine (HR.out _ HA.out.ri).mono ?_
    rintro e w2 ⟨A2, c2, rfl, o2, hb⟩
    replace HA := boxStep HA hb; replace HB := belStep HB hb; replace a0 := HA.out.c0; replace a1 := HA.out.c1; replace az := HA.out.lt
    have O2 := Lib.hid o2
    clear hb o2
    go_wp2_with fail
    refine (HK.out _ _ _ O2.out.ri).mono ?_
    rintro e w3 ⟨A3, c3, rfl, o3, hb⟩
    have hz2 : w.heap.size < w2.heap.size := az
    replace HA := boxStep HA hb; replace HB := belStep HB hb; replace a0 := HA.out.c0; replace a1 := HA.out.c1; replace az := HA.out.lt
    have O3 := Lib.hid o3
    clear hb o3 O2 HG HR HK
    go_wp2
    go_loopw [5, 6] (fun v i wr => ∃ (k : Nat) (E : Option Addr) (d : Nat), k + 1 ≤ N ∧ i = .int .i64 (k : Int) ∧ v = .slice E (L k).length d ∧ OI wr w3.heap.size E (L k).length d (L k) ∧ Below w3.heap.size w3 wr) (fun _ i _ => N - 1 - (intOf i).toNat)
    case atStart => exact ⟨0, none, 0, by omega, rfl, by rw [HL0.out]; rfl, by rw [HL0.out]; exact OI.none_ _ _, Below.refl _ _⟩
    case round =>
      obtain ⟨k, E, d, hk, rfl, rfl, ho, hb⟩ := hrel
      have HO := Lib.hid ho
      have HBr := Lib.hid hb
      have HAr := boxStep HA hb
      have HR3 := Lib.hid (O3.out.below hb)
      clear a0 a1 ho
      have b0 := HAr.out.c0; have b1 := HAr.out.c1; have bz := HAr.out.lt
      have hlk := HLM.out k
      have hzz := hb.size
      by_cases hlt : k + 1 < N
      · obtain ⟨b, rfl⟩ : ∃ b, A3 = some ⟨b, 0, none⟩ := by
          rcases O3.out.form with ⟨_, _, e1⟩ | ⟨g9, cur, e1, _⟩
          · omega
          · exact ⟨g9, e1⟩
        have hc1 := OI.cells HR3.out k (by omega)
        have hc2 := OI.cells HR3.out (k + 1) (by omega)
        have i1 : (k : Int) < (N : Int) - 1 := by omega
        have i2 : (k : Int) < (N : Int) := by omega
        have i3 : (k : Int) + 1 < (N : Int) := by omega
        have hkw : IntKind.i64.wrap ((k : Int) + 1) = (k : Int) + 1 := IntWalk.i64_in _ (by omega)
        have hNw : IntKind.i64.wrap ((N : Int) - 1) = (N : Int) - 1 := IntWalk.i64_in _ (by omega)
        have hkt : ((k : Int) + 1).toNat = k + 1 := by omega
        clear hb
        by_cases hq : gi bk k < gi bk (k + 1)
        · have HLk := Lib.hid (HY.out k hq)
          have HLl := Lib.hid (show (L (k + 1)).length = (L k).length + 1 by rw [HY.out k hq]; simp)
          obtain ⟨x, hx⟩ : ∃ x, x = gi bk k := ⟨_, rfl⟩
          obtain ⟨y, hy⟩ : ∃ y, y = gi bk (k + 1) := ⟨_, rfl⟩
          rw [← hx] at hc1 hq
          rw [← hy] at hc2 hq
          have hd : decide (x < y) = true := decide_eq_true hq
          clear hx hy
          go_wp2
          go_region
          all_goals
            go_wp2_with (at_builtin; refine wpList_append_int _ rfl _ _ rfl w3.heap.size E (L k).length d _ (k : Int) _ rfl rfl (by first | exact HO.out.alloc _ | exact (HO.out.alloc _).drewN 1) (by simp) (by omega) (by simp; omega) ?_; intro E5 d5 w5 ho5 hg5; have HBK := Lib.hid (below_ap (K := w3.heap.size) (wr := wr.drew) (by exact HO.out) hg5 (Nat.le_refl _) (by simpa using hzz)); clear hg5)
            go_roundw
            case rel => exact ⟨k + 1, E5, d5, by omega, by go_num, by rw [HLl.out], by rw [HLl.out, HLk.out]; exact ho5, HBr.out.drew.trans HBK.out⟩
            case measure => simp [intOf]; omega
        · have HLk := Lib.hid (HN.out k (by first | exact hq | omega))
          obtain ⟨x, hx⟩ : ∃ x, x = gi bk k := ⟨_, rfl⟩
          obtain ⟨y, hy⟩ : ∃ y, y = gi bk (k + 1) := ⟨_, rfl⟩
          rw [← hx] at hc1 hq
          rw [← hy] at hc2 hq
          have hd : decide (x < y) = false := decide_eq_false hq
          have hq2 : y ≤ x := by omega
          clear hx hy hq
          go_wp2
          go_region
          all_goals
            go_wp2
            go_roundw
            case rel => exact ⟨k + 1, E, d, by omega, by go_num, by rw [HLk.out], by rw [HLk.out]; exact HO.out, HBr.out.drew⟩
            case measure => simp [intOf]; omega
      · obtain rfl : N = k + 1 := by omega
        have hNw : IntKind.i64.wrap (((k + 1 : Nat) : Int) - 1) = (k : Int) := by rw [IntWalk.i64_in _ (by omega)]; omega
        clear hb
        go_wp2
        go_ret2
        exact ⟨E, d, rfl, HO.out.mono (by omega), HB.out.trans (HBr.out.mono (by omega))⟩
end Go.Proofs.Ytjopllfhabokkaa
