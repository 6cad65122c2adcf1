/- The model's CountByLength. -/
import Derived.Test.YtgeeifjbfceogaaGreatDoorCb2
import Derived.Test.YtgeeifjbfceogaaGreatDoorCb4
import Derived.Test.YtgeeifjbfceogaaGreatDoorMgM
import Derived.Test.YtgeeifjbfceogaaGreatDoorMgO
import Derived.Deep.AppendLies
namespace Go.Proofs.YtgeeifjbfceogaaGreatDoor
open Go Go.RowKit

theorem triN {n : Nat} (h1 : 2 ≤ n) (h6 : n ≤ 6) : ∃ P Q : Nat, (n : Int) * ((n : Int) - 1) = (P : Int) ∧ Int.tdiv (P : Int) 2 = (Q : Int) ∧ Q + 1 = lenN n ∧ P ≤ 30 ∧ Q ≤ 15 := by
  rcases six_cases h1 h6 with rfl | rfl | rfl | rfl | rfl
  · exact ⟨2, 1, by decide, by decide, by decide, by decide, by decide⟩
  · exact ⟨6, 3, by decide, by decide, by decide, by decide, by decide⟩
  · exact ⟨12, 6, by decide, by decide, by decide, by decide, by decide⟩
  · exact ⟨20, 10, by decide, by decide, by decide, by decide, by decide⟩
  · exact ⟨30, 15, by decide, by decide, by decide, by decide, by decide⟩

theorem Ctr.setOther {w : World} {g r n N c o i : Nat} {ks : List Int} (h : Ctr w g r n N c ks) (hg : o ≠ g) (hr : o ≠ r) (v : Value) : Ctr (w.setCell ⟨o, i, none⟩ v) g r n N c ks :=
  ⟨by rw [World.cell?_setCell_other _ _ _ _ (by intro e; injection e with e1 _ _; exact hg e1)]; exact h.cell, h.row.kept (grown_setCell (g := o) (grown_refl w _) (.inl rfl) _) (fun b hb e => by
    have h1 : r = b := by simpa [blk] using hb
    exact hr ((Option.some.inj e).symm ▸ h1.symm ▸ rfl)), h.kn, h.ne, by simpa using h.lt⟩
theorem OI.lt1 {w : World} {B g n c : Nat} {zs : List Int} (h : OI w B (some ⟨g, 0, none⟩) n c zs) : g < w.heap.size := (h.blk g rfl).2

set_option maxRecDepth 100000 in
set_option maxHeartbeats 8000000 in
theorem sCountByLength_any (x : Int) (w : World) (lo : -9223372036854775808 ≤ x) (hi : x ≤ 9223372036854775807) :
    Calls Tryz.prog 25 #[.int .i64 x] w (FreshIB w (cbL x).length (cbL x) (cbQ x)) := by
  have HI := Lib.hid (l1In_any x 2 6 w)
  rcases hq : cbQ x with _ | _
  · rw [cbL_no hq]
    have hq' : inB x 2 6 = false := hq
    rw [hq'] at HI
    clear hq hq'
    go_enter Tryz.func25, Tryz.ntmps25
    go_wp2_with fail
    refine HI.out.mono ?_
    rintro e w1 ⟨rfl, rfl⟩
    go_wp2
    go_ret2
    exact ⟨none, 0, rfl, OI.none_ _ _, Below.refl _ _⟩
  · rw [cbL_yes hq]
    have h26 := cbQ_iff.1 hq
    obtain ⟨n, rfl⟩ : ∃ n : Nat, x = (n : Int) := ⟨x.toNat, by omega⟩
    rw [Int.toNat_natCast]
    have hn2 : 2 ≤ n := by omega
    have hn6 : n ≤ 6 := by omega
    have hq' : inB (n : Int) 2 6 = true := hq
    rw [hq'] at HI
    have hall := accK_all hn2 hn6
    have hlen : (begs (topO n)).length = lenN n := by rw [← ninv_topO hn2 hn6]; simp [begs]
    rw [hlen, ← hall]
    obtain ⟨P, Q, hP, hQ, hN, hP30, hQ15⟩ := triN hn2 hn6
    obtain ⟨N, hNN⟩ : ∃ N, N = lenN n := ⟨_, rfl⟩
    have HNN := Lib.hid hNN
    rw [← hNN] at hN ⊢
    have hNi : (Q : Int) + 1 = (N : Int) := by omega
    have hN16 : N ≤ 16 := by omega
    have hmk := run_make_row' (P := Tryz.prog) 22 3 (.int .i64 0) 8 Tryz.underlying22 infoInt rfl .i64 .i64 N (by omega) (by omega)
    have hOl := ordsK_small (n := n) (k := n) hn6 hn6
    have HOK : Hid (∀ j, j < (ordsK n n).length → OKp n (gz (ordsK n n) j)) := fun j hj => ((ordsK_all (n := n) (by omega) (by omega)).mem _).1 (mem_gz.2 ⟨j, hj, rfl⟩)
    have HAS : Hid (∀ j k, j ≤ (ordsK n n).length → k < N → 0 ≤ gi (accK (ordsK n n) N j) k ∧ gi (accK (ordsK n n) N j) k ≤ 30517578125) := fun j k hj hk => accK_small hn2 hn6 hk hj
    have HAO := Lib.hid (fun w2 => alOrders_any n w2 (by omega) hn6)
    obtain ⟨O, hO⟩ : ∃ O, O = ordsK n n := ⟨_, rfl⟩
    rw [← hO] at hOl HOK HAS HAO ⊢
    clear hq hq' h26 hall hlen lo hi hNN hO
    go_enter Tryz.func25, Tryz.ntmps25
    go_wp2_with fail
    refine HI.out.mono ?_
    rintro e w1 ⟨rfl, rfl⟩
    obtain ⟨wa, hwa⟩ : ∃ wa, wa = w := ⟨_, rfl⟩
    subst hwa
    go_wp2_with fail
    have HO0 : Hid (OI (wa.alloc (.cells (madeCells #[.int .i64 0] N) 3)) wa.heap.size (some ⟨wa.heap.size, 0, none⟩) N N (accK O N 0)) :=
      Lib.hid (OI.of_rowIs (Nat.le_refl _) (World.rowIs_made wa (.int .i64 0) N 3) (by unfold maxLen; omega) (by simp [accK]) (fun j hj => by simp [gi, List.getD, hj, accK]))
    have HB0 : Hid (Below wa.heap.size wa (wa.alloc (.cells (madeCells #[.int .i64 0] N) 3))) := Lib.hid ((Below.refl _ wa).alloc (Nat.le_refl _) _)
    have HZ0 : Hid ((wa.alloc (.cells (madeCells #[.int .i64 0] N) 3)).heap.size = wa.heap.size + 1) := by show _ = _; simp
    obtain ⟨w1, hw1⟩ : ∃ w1, w1 = wa.alloc (.cells (madeCells #[.int .i64 0] N) 3) := ⟨_, rfl⟩
    rw [← hw1] at HO0 HB0 HZ0 ⊢
    clear hw1 hmk hP hQ
    refine (alNew_any n _ hn2 hn6).mono ?_
    rintro e w2 ⟨g, r, cc, ks0, rfl, hc, hr, hg, hb2⟩
    have HC2 := Lib.hid hc
    have HO2 := Lib.hid (HO0.out.below hb2)
    have HB2 := belStep HB0 hb2
    have HZ2 := Lib.hid hb2.size
    have HRK := Lib.hid hc.rlt
    have HGK := Lib.hid hc.lt
    clear hc hb2 HO0 HB0
    go_wp2_with fail
    refine (HAO.out _).mono ?_
    rintro e w3 ⟨A3, c3, M3, S3, rfl, o3, hb3⟩
    have HC3 := Lib.hid (HC2.out.below hb3)
    have HO3 := Lib.hid (HO2.out.below hb3)
    have HB3 := belStep HB2 hb3
    have HOO := Lib.hid o3
    have HK3 := Lib.hid hb3.size
    obtain ⟨K, hK⟩ : ∃ K, K = w2.heap.size := ⟨_, rfl⟩
    rw [← hK] at HOO HRK HGK HZ2
    obtain ⟨o, ho⟩ : ∃ o, o = wa.heap.size := ⟨_, rfl⟩
    rw [← ho] at HO3 HB3 HZ0 ⊢
    have HOR1 : Hid (o ≠ r) := by show _ ≠ _; have := HZ0.out; omega
    have HOG1 : Hid (o ≠ g) := by show _ ≠ _; have := HZ0.out; omega
    have HRO : Hid (o ≤ r) := by show _ ≤ _; have := HZ0.out; omega
    have HOK2 : Hid (o < K) := by show _ < _; have := HZ0.out; have := HZ2.out; omega
    have HOW := Lib.hid ho
    clear o3 hb3 HC2 HO2 HB2 hK ho HAO
    obtain ⟨F, hF⟩ : ∃ F, F = fac n := ⟨_, rfl⟩
    rw [← hF] at HC3
    have HF := Lib.hid hF
    clear hF
    go_wp2_with fail
    go_loopw [7, 23] (fun _ i wr => ∃ (j : Nat) (ks : List Int), j ≤ O.length ∧ i = .int .i64 (j : Int) ∧ OI wr o (some ⟨o, 0, none⟩) N N (accK O N j) ∧ Ctr wr g r n F cc ks ∧ OII wr K M3 A3 O.length c3 O S3 ∧ Below o wa wr) (fun _ i _ => O.length - (intOf i).toNat)
    case atStart => exact ⟨0, ks0, Nat.zero_le _, rfl, HO3.out, HC3.out, HOO.out, HB3.out⟩
    case round =>
      obtain ⟨j, ks, hj, rfl, hot, hct, hoo, hbl⟩ := hrel
      have HOT := Lib.hid hot
      have HCT := Lib.hid hct
      have HOR := Lib.hid hoo
      have HBL := Lib.hid hbl
      by_cases hlj : j < O.length
      · obtain ⟨g3, a, m, d, rfl, hg3, hB3, hS, hcj, hoi⟩ := hoo.row hlj
        have hokq := HOK.out j hlj
        obtain rfl : n = m := by rw [← hoi.1]; exact hokq.2.symm
        have hin : ninv (gz O j) < N := by rw [HNN.out]; exact ninv_lt hokq.2
        have hv := HAS.out j (ninv (gz O j)) hj hin
        have hy := cnt_small (q := gz O j) (by rw [hokq.2]; exact hn6)
        have hck := hot.cells (ninv (gz O j)) hin
        have hfz : wr.frozen? ⟨o, ninv (gz O j), none⟩ = false := hot.2.frozenAt _
        have HAK : Hid (accK O N (j + 1) = (accK O N j).set (ninv (gz O j)) (gi (accK O N j) (ninv (gz O j)) + (cnt (gz O j) : Int))) := Lib.hid rfl
        have hri := hoi.ri
        have hoic := hoi.le
        have HBK : Hid (∀ b, blk a = some b → K ≤ b) := fun b hb => (hoi.blk b hb).1
        obtain ⟨q, hq⟩ : ∃ q, q = gz O j := ⟨_, rfl⟩
        rw [← hq] at hokq hin hv hy hck hfz HAK hri
        have HLI : Hid (∀ w', RI w' a n q → Calls Tryz.prog 56 #[.slice a n d] w' (fun e w'' => ∃ A c, e = .returned (.slice A (ninv q) c) ∧ Below w'.heap.size w' w'')) := fun w' h =>
          (lsInversions_any a n d q w' h (by omega)).mono (by rintro e w'' ⟨A, c, M, S, rfl, _, hb⟩; exact ⟨A, c, by rw [invs_ninv], hb⟩)
        have HCO : Hid (∀ ks w', RI w' a n q → Ctr w' g r n F cc ks → Calls Tryz.prog 45 #[.pointer (some ⟨g, 0, none⟩), .slice a n d] w' (fun e w'' => e = .returned (.int .i64 ((cnt q : Nat) : Int)) ∧ ∃ ks', Ctr w'' g r n F cc ks' ∧ w'.grownBy w'' (some r))) := fun ks w' h hc =>
          count_any n hn2 hn6 g r cc F HF.out (ninv q + 1) q hokq.1 hokq.2 (Nat.lt_succ_self _) a d ks w' h hoic (fun b hb => by have := HBK.out b hb; have := HRK.out; omega) hc
        obtain ⟨I, hI⟩ : ∃ I, I = ninv q := ⟨_, rfl⟩
        obtain ⟨y, hy2⟩ : ∃ y, y = cnt q := ⟨_, rfl⟩
        rw [← hI] at hin hv hck hfz HAK HLI
        obtain ⟨v, hv2⟩ : ∃ v, v = gi (accK O N j) I := ⟨_, rfl⟩
        rw [← hv2] at hv hck HAK
        rw [← hy2] at hy HCO HAK
        have HRI := Lib.hid hri
        clear hot hct hoo hbl hoi hokq hri hoic hq hI hy2 hv2
        have hyi : (y : Int) ≤ 30517578125 := by omega
        have hIi : (I : Int) < (N : Int) := by omega
        have hI0 : (0 : Int) ≤ (I : Int) := by omega
        go_wp2_with fail
        go_region_law (first
          | (go_simp; go_at_call 56; refine (HLI.out _ HRI.out.drew).mono ?_; rintro e w5 ⟨A5, c5, rfl, hb5⟩; have ck5 : w5.cell? ⟨o, I, none⟩ = some (.int .i64 v) := (hb5.cell (p := ⟨o, I, none⟩) HOT.out.lt1).trans hck; have fz5 : w5.frozen? ⟨o, I, none⟩ = false := (hb5.frozen (p := ⟨o, I, none⟩) HOT.out.lt1).trans hfz; have HB5 : Hid (Below wr.heap.size wr w5) := Lib.hid ((Below.refl _ wr).drew.trans hb5); clear hb5)
          | (go_simp; go_at_call 45; refine (HCO.out ks _ (HRI.out.below HB5.out (Nat.le_refl _)) (HCT.out.below HB5.out)).mono ?_; rintro e w6 ⟨rfl, ks6, hc6, hg6⟩; have ck6 : w6.cell? ⟨o, I, none⟩ = some (.int .i64 v) := (hg6.cell_far ⟨o, I, none⟩ (Nat.lt_of_lt_of_le HOT.out.lt1 HB5.out.size) (fun e => HOR1.out (Option.some.inj e))).trans ck5; have fz6 : w6.frozen? ⟨o, I, none⟩ = false := (hg6.frozen_far ⟨o, I, none⟩ (Nat.lt_of_lt_of_le HOT.out.lt1 HB5.out.size) (fun e => HOR1.out (Option.some.inj e))).trans fz5; have HC6 := Lib.hid hc6; have HG6 := Lib.hid hg6; clear hc6 hg6))
        all_goals
          go_wp2
          go_roundw
          case rel =>
            refine ⟨j + 1, ks6, by omega, by go_num, ?_, HC6.out.setOther HOG1.out HOR1.out _, ?_, ?_⟩
            · rw [HAK.out]
              exact ((HOT.out.below HB5.out).kept HG6.out (fun b hb e => by
                have h1 : b = o := by simpa [blk] using hb.symm
                exact HOR1.out (h1 ▸ (Option.some.inj e).symm ▸ rfl))).stored I _
            · have H1 := (HOR.out.below HB5.out).kept (A' := some ⟨r, 0, none⟩) HG6.out (fun b hb => by
                have h1 : r = b := by simpa [blk] using hb
                have h2 := HRK.out
                omega)
              exact H1.kept (A' := some ⟨o, 0, none⟩) (grown_setCell (g := o) (grown_refl w6 _) (.inl rfl) _) (fun b hb => by
                have h1 : o = b := by simpa [blk] using hb
                have h2 := HOK2.out
                omega)
            · exact (((HBL.out.trans (HB5.out.mono (Nat.le_of_lt HOT.out.lt1))).grown HG6.out (by have := HB5.out.size; have := HOT.out.lt1; omega) (fun b hb => by have := Option.some.inj hb; have := HRO.out; omega)).setCell (Nat.le_refl _) _)
          case measure => simp [intOf]; omega
      · obtain rfl : j = O.length := by omega
        clear hot hct hoo hbl
        go_wp2
        go_ret2
        exact ⟨_, N, rfl, HOT.out.mono (Nat.le_of_eq HOW.out.symm), HBL.out.mono (Nat.le_of_eq HOW.out.symm)⟩
end Go.Proofs.YtgeeifjbfceogaaGreatDoor
