/- The lasting game: the rungs that can be added, of the program. -/
import Derived.Test.YtjopllfhabokkaaGl3
import Derived.Test.YtjopllfhabokkaaMgE
namespace Go.Proofs.Ytjopllfhabokkaa
open Go Go.RowKit

theorem addL_end (zs : List Int) (r : Int) : addL zs zs.length r = zs ++ [r] := by unfold addL; simp

set_option maxRecDepth 100000 in
set_option maxHeartbeats 4000000 in
theorem iLastMoves_any (W : Int) (g n : Nat) (zs : List Int) (w : World) (h : RI w (some ⟨g, 0, none⟩) n zs) (hn : n ≤ 1048576) :
    Calls Try.prog 28 #[.agg #[.int .i64 W, .slice (some ⟨g, 0, none⟩) n n]] w (FreshIB w (lmL W zs).length (lmL W zs) (lstB W zs)) := by
  have hz := h.1
  obtain ⟨A, hAA⟩ : ∃ A : Option Addr, A = some ⟨g, 0, none⟩ := ⟨_, rfl⟩
  have HI := Lib.hid (fun w2 A2 c2 m2 ys (r : RI w2 A2 m2 ys) (hm : m2 ≤ 1048576) => iIsLeast_any W A2 m2 c2 ys w2 r hm)
  have HF := Lib.hid (fun (r : Int) w2 (hr : RI w2 A n zs) (hn60 : n ≤ 60) (hl : lad W zs = true) => iAddRung_full W g n zs r w2 (by rw [← hAA]; exact hr) hn60 hl)
  rw [← hAA] at HF h ⊢
  have HA := boxNew (W := W) (c := n) 27 h
  have HB := belAlloc (belRefl (w := w)) (.cells #[.int .i64 W, .slice A n n] 27)
  have HH := Lib.hid (fun w2 (r : Below w.heap.size w w2) => h.below r (Nat.le_refl _))
  rcases hq : lstB W zs with _ | _
  · rw [lmL_no hq]
    have HIS := Lib.hid (fun w2 (r : RI w2 A n zs) => HI.out w2 A n n zs r hn)
    rw [hq] at HIS
    obtain ⟨q, hqq⟩ : ∃ q, q = lad W zs := ⟨_, rfl⟩
    rw [← hqq] at HIS
    clear hq h HI HF hqq hAA hz
    go_enter Try.func28, Try.ntmps28
    go_wp2_with fail
    refine (HIS.out _ HA.out.ri).mono ?_
    rintro e w1 ⟨rfl, hb⟩
    replace HB := belStep HB hb
    clear hb HIS
    go_wp2
    go_ret2
    exact ⟨none, 0, rfl, OI.none_ _ _, HB.out⟩
  · rw [lmL_yes hq]
    have HIS := Lib.hid (fun w2 (r : RI w2 A n zs) => HI.out w2 A n n zs r hn)
    have hl := lst_lad hq
    rw [hq, hl] at HIS
    have hW := (lad_iff.1 hl).1
    obtain ⟨N, rfl⟩ : ∃ N : Nat, W = (N : Int) := ⟨W.toNat, by omega⟩
    rw [Int.toNat_natCast]
    have h56 := (lst_len hq).2.2
    have HFr := Lib.hid (fun (k : Nat) w2 (hr : RI w2 A n zs) => HF.out (k : Int) w2 hr (by omega) hl)
    have HAE := Lib.hid (fun (k : Nat) => show addL zs n (k : Int) = zs ++ [(k : Int)] by rw [← hz]; exact addL_end _ _)
    have HLS := Lib.hid (fun (k : Nat) (hk : k + 1 < N) => last_move hq hk)
    have HIk := Lib.hid (fun (k : Nat) (hk : k + 1 < N) w2 A2 c2 (r : RI w2 A2 (zs ++ [(k : Int)]).length (zs ++ [(k : Int)])) => HI.out w2 A2 c2 _ (zs ++ [(k : Int)]) r (by simp; omega))
    have HLM := Lib.hid (fun k => lmK_len zs N k)
    have HY := Lib.hid (fun k h => @lmK_yes zs N k h)
    have HN := Lib.hid (fun k h => @lmK_no zs N k h)
    have HZS := Lib.hid (fun (k : Nat) => show (zs ++ [(k : Int)]).length = n + 1 by simp; omega)
    obtain ⟨bk, hbk⟩ : ∃ bk, bk = back (res zs N) := ⟨_, rfl⟩
    rw [← hbk] at HLS HY HN
    obtain ⟨L, hL⟩ : ∃ L : Nat → List Int, L = lmK zs N := ⟨_, rfl⟩
    rw [← hL] at HY HN HLM ⊢
    have HL0 : Hid (L 0 = []) := Lib.hid (by rw [hL]; rfl)
    have h2 : 2 ≤ N := by omega
    have h8 : N ≤ 8 := by omega
    have hNw : IntKind.i64.wrap ((N : Int) - 1) = ((N - 1 : Nat) : Int) := by rw [IntWalk.i64_in _ (by omega)]; omega
    obtain ⟨M, hM⟩ : ∃ M, M = N - 1 := ⟨_, rfl⟩
    rw [← hM] at hNw ⊢
    clear hq h hl hW hbk hL HI HF hAA h56
    go_enter Try.func28, Try.ntmps28
    go_wp2_with fail
    refine (HIS.out _ HA.out.ri).mono ?_
    rintro e w1 ⟨rfl, hb⟩
    replace HA := boxStep HA hb; replace HB := belStep HB hb; have a0 := HA.out.c0; have a1 := HA.out.c1; have az := HA.out.lt
    clear hb HIS
    go_wp2
    try rw [hNw]
    clear hNw
    go_loopw [6, 26] (fun v i wr => ∃ (k : Nat) (E : Option Addr) (d : Nat), k ≤ M ∧ i = .int .i64 (k : Int) ∧ v = .slice E (L k).length d ∧ OI wr w1.heap.size E (L k).length d (L k) ∧ Below w1.heap.size w1 wr) (fun _ i _ => M - (intOf i).toNat)
    case atStart => exact ⟨0, none, 0, by omega, rfl, by rw [HL0.out]; rfl, by rw [HL0.out]; exact OI.none_ _ _, Below.refl _ _⟩
    case round =>
      obtain ⟨k, E, d, hk, rfl, rfl, ho, hb⟩ := hrel
      have HO := Lib.hid ho
      have HBr := Lib.hid hb
      have HAr := boxStep HA hb
      have hlk := HLM.out k
      have hzz := hb.size
      clear a0 a1 ho hb
      have b0 := HAr.out.c0; have b1 := HAr.out.c1; have bz := HAr.out.lt
      by_cases hlt : k < M
      · have hk1 : k + 1 < N := by omega
        obtain ⟨hlk2, hls⟩ := HLS.out k hk1
        have HFk := Lib.hid (fun w2 r => HFr.out k w2 r)
        have HIk2 := Lib.hid (fun w2 A2 c2 r => HIk.out k hk1 w2 A2 c2 r)
        rw [HAE.out k, hlk2] at HFk
        rw [hlk2, hls] at HIk2
        have hZ := HZS.out k
        obtain ⟨ys, hys⟩ : ∃ ys, ys = zs ++ [(k : Int)] := ⟨_, rfl⟩
        rw [← hys] at HFk HIk2 hZ
        rw [hZ] at HIk2
        rw [ifW_yes, ifL_yes, hZ] at HFk
        obtain ⟨q, hqq⟩ : ∃ q, q = decide (gi bk k < gi bk (k + 1)) := ⟨_, rfl⟩
        rw [← hqq] at HIk2
        have HQ := Lib.hid hqq
        clear hys hqq hls hlk2 hZ
        go_wp2_with fail
        refine (HFk.out _ HAr.out.ri).mono ?_
        rintro e w2 ⟨A2, c2, rfl, o2, hb⟩
        replace HAr := boxStep HAr hb; replace HBr := belStep HBr hb; replace HO := oiStep HO hb
        have hz2 := hb.size
        have HX := boxNew (W := (N : Int)) (c := c2) 27 o2.ri
        clear hb o2
        go_wp2_with fail
        replace HAr := boxAlloc HAr (.cells #[.int .i64 (N : Int), .slice A2 (n + 1) c2] 27)
        replace HBr := belAlloc HBr (.cells #[.int .i64 (N : Int), .slice A2 (n + 1) c2] 27)
        replace HO := oiAlloc HO (.cells #[.int .i64 (N : Int), .slice A2 (n + 1) c2] 27)
        refine (HIk2.out _ _ _ HX.out.ri).mono ?_
        rintro e w3 ⟨rfl, hb⟩
        replace HAr := boxStep HAr hb; replace HBr := belStep HBr hb; replace HO := oiStep HO hb
        have hz3 := hb.size
        simp only [World.size_alloc] at hz3
        clear hb HX b0 b1
        cases q
        · have HLk := Lib.hid (HN.out k (by have h9 : ¬ gi bk k < gi bk (k + 1) := (fun h => by have := HQ.out; rw [decide_eq_true h] at this; cases this); first | exact h9 | omega))
          go_wp2
          go_roundw
          case rel => exact ⟨k + 1, E, d, by omega, by go_num, by rw [HLk.out], by rw [HLk.out]; exact HO.out, HBr.out⟩
          case measure => simp [intOf]; omega
        · have hqt : gi bk k < gi bk (k + 1) := of_decide_eq_true HQ.out.symm
          have HLk := Lib.hid (HY.out k hqt)
          have HLl := Lib.hid (show (L (k + 1)).length = (L k).length + 1 by rw [HY.out k hqt]; simp)
          clear hqt
          go_wp2_with (at_builtin; refine wpList_append_int _ rfl _ _ rfl w1.heap.size E (L k).length d _ (k : Int) _ rfl rfl (HO.out.alloc _) (by simp) (by omega) (by simp; omega) ?_; intro E5 d5 w5 ho5 hg5; have HBK := Lib.hid (below_ap (K := w1.heap.size) (wr := w3) (by exact HO.out) hg5 (Nat.le_refl _) (by omega)); clear hg5)
          go_roundw
          case rel => exact ⟨k + 1, E5, d5, by omega, by go_num, by rw [HLl.out], by rw [HLl.out, HLk.out]; exact ho5, HBr.out.trans HBK.out⟩
          case measure => simp [intOf]; omega
      · obtain rfl : k = M := by omega
        go_wp2
        go_ret2
        exact ⟨E, d, rfl, HO.out.mono (by omega), HB.out.trans (HBr.out.mono (by omega))⟩
end Go.Proofs.Ytjopllfhabokkaa
