/- MeanMeetings, of the model. -/
import Derived.Test.YtpnabofgpeffkaaCe19
import Derived.Test.YtpnabofgpeffkaaCe5
import Derived.Deep.CutRange
namespace Go.Proofs.Ytpnabofgpeffkaa
open Go Go.RowKit

/-- rows of noughts, made one behind the other -/
theorem rowZeros2 (w : World) (n B : Nat) (hB : B ≤ w.heap.size) (hn : n ≤ 1000000) :
    OI ((w.alloc (.cells (madeCells #[.int .i64 0] n) 3)).alloc (.cells (madeCells #[.int .i64 0] n) 3)) B (some ⟨w.heap.size, 0, none⟩) n n (List.replicate n 0) ∧
    OI ((w.alloc (.cells (madeCells #[.int .i64 0] n) 3)).alloc (.cells (madeCells #[.int .i64 0] n) 3)) B (some ⟨w.heap.size + 1, 0, none⟩) n n (List.replicate n 0) := by
  refine ⟨(rowZeros w n B hB hn).alloc _, ?_⟩
  have h := rowZeros (w.alloc (.cells (madeCells #[.int .i64 0] n) 3)) n B (by simp; omega) hn
  rw [World.size_alloc] at h
  exact h

theorem OI.away {w : World} {B g k n c : Nat} {zs : List Int} (h : OI w B (some ⟨g, 0, none⟩) n c zs) (hne : g ≠ k) (j : Nat) (v : Value) : OI (w.setCell ⟨k, j, none⟩ v) B (some ⟨g, 0, none⟩) n c zs :=
  h.kept (row := some k) (grown_setCell (g := k) (grown_refl w _) (.inl rfl) _) (fun b hb e => by
    have h1 : g = b := by simpa [Go.Proofs.Ytpnabofgpeffkaa.blk] using hb
    have h2 := Option.some.inj e
    omega)

set_option maxRecDepth 100000 in
set_option maxHeartbeats 4000000 in
theorem sMeanMeetings_yes (N K S T : Nat) (w : World) (hN2 : 2 ≤ N) (hN6 : N ≤ 6) (hK : K ≤ 20) (hS : S < N) (hT : T < N) (hab : S ≠ T) :
    Calls Try.prog 24 #[.int .i64 (N : Int), .int .i64 (K : Int), .int .i64 (S : Int), .int .i64 (T : Int)] w (RetRB (rtA (mtS (N - 1) (endsL [(S : Int), (T : Int)]) K) (N : Int) (K : Int)) (rtB (mtS (N - 1) (endsL [(S : Int), (T : Int)]) K) (N : Int) (K : Int)) true w) := by
  have EF : Hid (fallB (N : Int) (K : Int) = true) := Lib.hid (fallB_iff.2 (by omega))
  have E1 : Hid (inB (S : Int) 0 ((N : Int) - 1) = true) := Lib.hid (inB_true (by omega))
  have E2 : Hid (inB (T : Int) 0 ((N : Int) - 1) = true) := Lib.hid (inB_true (by omega))
  have hne : ((S : Int) == (T : Int)) = false := by rw [beq_eq_false_iff_ne]; omega
  obtain ⟨Q, hQ⟩ : ∃ Q, Q = N * N := ⟨_, rfl⟩
  have hQ36 : Q ≤ 36 := by rw [hQ]; exact Nat.mul_le_mul hN6 hN6
  have hnn : IntKind.i64.wrap ((N : Int) * (N : Int)) = (Q : Int) := by
    rw [show (N : Int) * (N : Int) = (Q : Int) by rw [hQ, Int.natCast_mul]]
    exact IntWalk.i64_in _ (by omega)
  have hmk := run_make_row' (P := Try.prog) 40 3 (.int .i64 0) 8 Try.underlying40 infoInt rfl .i64 .i64 Q (by omega) (by omega)
  have HQ := Lib.hid hQ
  clear hQ
  go_enter Try.func24, Try.ntmps24
  go_upto_region 3 with (first | (go_at_call 28; refine (chGood_any _ _ _).mono ?_; rw [EF.out]; rintro e w' ⟨rfl, rfl⟩) | (go_at_call 31; refine (l1In_any _ _ _ _).mono ?_; (first | rw [E1.out] | rw [E2.out]); rintro e w' ⟨rfl, rfl⟩))
  have HC := cellNew w (.int .i64 0) (.int .i64 0) 28
  have HB := belAlloc (belRefl (w := w)) (.cells #[.int .i64 0, .int .i64 0] 28)
  obtain ⟨w1, hw1⟩ : ∃ w1, w1 = w.alloc (.cells #[.int .i64 0, .int .i64 0] 28) := ⟨_, rfl⟩
  rw [← hw1] at HC HB ⊢
  clear hw1
  go_cut [10, 11] from 49 (fun s10 s11 wx => ∃ g1 g2 : Nat, s10 = .slice (some ⟨g1, 0, none⟩) Q Q ∧ s11 = .slice (some ⟨g2, 0, none⟩) Q Q ∧ g1 ≠ g2 ∧ OI wx w1.heap.size (some ⟨g1, 0, none⟩) Q Q (List.replicate Q 0) ∧ OI wx w1.heap.size (some ⟨g2, 0, none⟩) Q Q (List.replicate Q 0) ∧ Below w1.heap.size w1 wx)
  case first =>
    have hz := rowZeros2 w1 Q w1.heap.size (Nat.le_refl _) (by omega)
    have HZ := Lib.hid hz
    have HBB : Hid (Below w1.heap.size w1 ((w1.alloc (.cells (madeCells #[.int .i64 0] Q) 3)).alloc (.cells (madeCells #[.int .i64 0] Q) 3))) := Lib.hid (((Below.refl _ w1).alloc (Nat.le_refl _) _).alloc (by simp) _)
    clear hz
    go_region
    all_goals
      go_wp2
      go_meet
      case rel =>
        first
          | exact ⟨_, _, rfl, rfl, by omega, HZ.out.1, HZ.out.2, HBB.out.drew⟩
          | exact ⟨_, _, rfl, rfl, by omega, HZ.out.2, HZ.out.1, HBB.out.drew⟩
  case rest =>
    obtain ⟨g1, g2, rfl, rfl, hg12, ho1, ho2, hbc⟩ := hcut
    obtain ⟨B, hB⟩ : ∃ B, B = w1.heap.size := ⟨_, rfl⟩
    rw [← hB] at ho1 ho2 hbc
    have HBW := Lib.hid hB
    clear hB
    -- the pair that starts
    obtain ⟨SN, hSN⟩ : ∃ SN, SN = S * N := ⟨_, rfl⟩
    have hI0 : InP N ((SN + T : Nat) : Int) := by
      have := InP.join (n := N) (x := (S : Int)) (y := (T : Int)) (by omega) (by omega)
      rw [Int.natCast_add, hSN, Int.natCast_mul]
      exact this
    have hph : phI N ((SN + T : Nat) : Int) = endsL [(S : Int), (T : Int)] := by
      have h := ovI_parts (n := N) (x := (S : Int)) (y := (T : Int)) (by omega)
      unfold phI
      rw [Int.natCast_add, hSN, Int.natCast_mul, h.1, h.2]
    have hI0Q : SN + T < Q := by
      have h1 := hI0.2
      rw [← Int.natCast_mul, ← HQ.out] at h1
      omega
    have hsn : IntKind.i64.wrap ((S : Int) * (N : Int)) = (SN : Int) := by
      rw [show (S : Int) * (N : Int) = (SN : Int) by rw [hSN, Int.natCast_mul]]
      exact IntWalk.i64_in _ (by omega)
    have c1 := ho1.cells (SN + T) hI0Q
    have f1 : wc.frozen? ⟨g1, SN + T, none⟩ = false := ho1.2.frozenAt _
    have HO1 := Lib.hid (ho1.stored (SN + T) 1)
    have HO2 : Hid (OI (wc.setCell ⟨g1, SN + T, none⟩ (.int .i64 1)) B (some ⟨g2, 0, none⟩) Q Q (List.replicate Q 0)) := Lib.hid (ho2.kept (row := some g1) (grown_setCell (g := g1) (grown_refl wc _) (.inl rfl) _) (fun b hb e => by
      have h1 : g2 = b := by simpa [blk] using hb
      have h2 := Option.some.inj e
      omega))
    have HBC : Hid (Below B w1 (wc.setCell ⟨g1, SN + T, none⟩ (.int .i64 1))) := Lib.hid (hbc.setCell (ho1.blk g1 rfl).1 _)
    have HREP : Hid (RepG (ovI N) Q (N - 1) 0 ((SN + T : Nat) : Int) ((List.replicate Q (0 : Int)).set (SN + T) 1)) := Lib.hid (RepG.start (ovI N) (N - 1) hI0Q)
    have HIN := Lib.hid hI0
    have HPH := Lib.hid hph
    have i0 : (0 : Int) ≤ (SN : Int) + (T : Int) := by omega
    have i1 : (SN : Int) + (T : Int) < (Q : Int) := by omega
    have HG12 := Lib.hid hg12
    clear ho1 ho2 hbc hI0 hph hSN hg12
    go_wp2
    obtain ⟨w2, hw2⟩ : ∃ w2, w2 = wc.setCell ⟨g1, SN + T, none⟩ (.int .i64 1) := ⟨_, rfl⟩
    rw [← hw2] at HO1 HO2 HBC ⊢
    obtain ⟨I0, hI0⟩ : ∃ I0, I0 = SN + T := ⟨_, rfl⟩
    rw [← hI0] at HO1 HREP HIN HPH
    clear hw2 hI0 c1 f1 i0 i1 hsn
    obtain ⟨E, hE⟩ : ∃ E, E = endsL [(S : Int), (T : Int)] := ⟨_, rfl⟩
    rw [← hE] at HPH ⊢
    have hmN : N - 1 ≤ 5 := by omega
    go_loopw [10, 11, 12] (fun s10 s11 sj wr => ∃ (j g1 g2 : Nat) (C M : List Int), j ≤ K ∧ sj = .int .i64 (j : Int) ∧ s10 = .slice (some ⟨g1, 0, none⟩) Q Q ∧ s11 = .slice (some ⟨g2, 0, none⟩) Q Q ∧ g1 ≠ g2 ∧ RepG (ovI N) Q (N - 1) j (I0 : Int) C ∧ (M.length = Q ∧ (∀ v, v < Q → 0 ≤ gi M v) ∧ dot oneI M = mtS (N - 1) E j) ∧ OI wr B (some ⟨g1, 0, none⟩) Q Q C ∧ OI wr B (some ⟨g2, 0, none⟩) Q Q M ∧ Below B w1 wr) (fun _ _ sj _ => K - (intOf sj).toNat)
    case atStart => exact ⟨0, g1, g2, _, _, Nat.zero_le _, rfl, rfl, rfl, HG12.out, HREP.out, ⟨by simp, fun v _ => by rw [zeros_gi]; omega, by rw [dot_zeros]; rfl⟩, HO1.out, HO2.out, HBC.out⟩
    case round =>
      obtain ⟨j, h1, h2, C, M, hj, rfl, rfl, rfl, hh12, hrep, hM, hoC, hoM, hbl⟩ := hrel
      have HREPC := Lib.hid hrep
      have HMM := Lib.hid hM
      have HOC := Lib.hid hoC
      have HOM := Lib.hid hoM
      have HBL := Lib.hid hbl
      have HH12 := Lib.hid hh12
      clear hrep hM hoC hoM hbl hh12 HO1 HO2 HBC HREP
      by_cases hlt : (j : Int) < (K : Int)
      · have hdec : decide ((j : Int) < (K : Int)) = true := decide_eq_true hlt
        go_upto_region 8 with fail
        go_cut [13, 14] from 64 to 148 (fun s13 s14 wx => ∃ g3 g4 : Nat, s13 = .slice (some ⟨g3, 0, none⟩) Q Q ∧ s14 = .slice (some ⟨g4, 0, none⟩) Q Q ∧ g3 ≠ g4 ∧ wr.heap.size ≤ g3 ∧ wr.heap.size ≤ g4 ∧ OI wx B (some ⟨g3, 0, none⟩) Q Q (List.replicate Q 0) ∧ OI wx B (some ⟨g4, 0, none⟩) Q Q (List.replicate Q 0) ∧ Below wr.heap.size wr wx)
        case first =>
          have hz := rowZeros2 wr Q B (by have := (HOC.out.blk h1 rfl); omega) (by omega)
          have HZ := Lib.hid hz
          have HBB : Hid (Below wr.heap.size wr ((wr.alloc (.cells (madeCells #[.int .i64 0] Q) 3)).alloc (.cells (madeCells #[.int .i64 0] Q) 3))) := Lib.hid (((Below.refl _ wr).alloc (Nat.le_refl _) _).alloc (by simp) _)
          clear hz
          go_region
          all_goals
            go_wp2
            go_meet
            case rel =>
              first
                | exact ⟨_, _, rfl, rfl, by omega, by omega, by omega, HZ.out.1, HZ.out.2, HBB.out.drew⟩
                | exact ⟨_, _, rfl, rfl, by omega, by omega, by omega, HZ.out.2, HZ.out.1, HBB.out.drew⟩
        case rest =>
          obtain ⟨g3, g4, rfl, rfl, hg34, hl3, hl4, ho3, ho4, hbc⟩ := hcut
          have HO3 := Lib.hid ho3
          have HO4 := Lib.hid ho4
          have HOC2 : Hid (OI wc B (some ⟨h1, 0, none⟩) Q Q C) := Lib.hid (HOC.out.below hbc)
          have HOM2 : Hid (OI wc B (some ⟨h2, 0, none⟩) Q Q M) := Lib.hid (HOM.out.below hbc)
          have HBL2 : Hid (Below B w1 wc) := Lib.hid (HBL.out.trans (hbc.mono (by have := (HOC.out.blk h1 rfl); omega)))
          have n34 := hg34
          have n43 : g4 ≠ g3 := fun e => hg34 e.symm
          have n13 : h1 ≠ g3 := fun e => by have := (HOC.out.blk h1 rfl).2; omega
          have n14 : h1 ≠ g4 := fun e => by have := (HOC.out.blk h1 rfl).2; omega
          have n23 : h2 ≠ g3 := fun e => by have := (HOM.out.blk h2 rfl).2; omega
          have n24 : h2 ≠ g4 := fun e => by have := (HOM.out.blk h2 rfl).2; omega
          clear ho3 ho4 hbc hg34 hl3 hl4 HOC HOM HBL
          go_wp2
          go_loopw [79] (fun s79 wi => ∃ (x : Nat) (Y V : List Int), x ≤ Q ∧ s79 = .int .i64 (x : Int) ∧ MakG (ovI N) Q (N - 1) C x 0 Y ∧ MsG N Q (N - 1) C M x 0 V ∧ OI wi B (some ⟨g3, 0, none⟩) Q Q Y ∧ OI wi B (some ⟨g4, 0, none⟩) Q Q V ∧ OI wi B (some ⟨h1, 0, none⟩) Q Q C ∧ OI wi B (some ⟨h2, 0, none⟩) Q Q M ∧ Below B w1 wi) (fun s79 _ => Q - (intOf s79).toNat)
          case atStart => exact ⟨0, _, _, Nat.zero_le _, rfl, MakG.start _ _ _ _, MsG.start _ _ _ _ _, HO3.out, HO4.out, HOC2.out, HOM2.out, HBL2.out⟩
          case round =>
            obtain ⟨x, Y, V, hx, rfl, hmak, hmsg, hoy, hov, hoc, hom, hbl⟩ := hrel
            have HMAK := Lib.hid hmak
            have HMSG := Lib.hid hmsg
            have HOY := Lib.hid hoy
            have HOV := Lib.hid hov
            have HOC := Lib.hid hoc
            have HOM := Lib.hid hom
            have HBL := Lib.hid hbl
            clear hmak hmsg hoy hov hoc hom hbl HO3 HO4 HOC2 HOM2 HBL2
            by_cases hltx : x < Q
            · have ck := HOC.out.cells x hltx
              obtain ⟨c, hc⟩ : ∃ c : Nat, gi C x = (c : Int) := ⟨(gi C x).toNat, by have := HREPC.out.pos x hltx; omega⟩
              rw [hc] at ck
              have HCC := Lib.hid hc
              have hNpos : 0 < N := by omega
              have hxin : InP N (x : Int) := ⟨by omega, by rw [← Int.natCast_mul, ← HQ.out]; omega⟩
              obtain ⟨hp1, hp2⟩ := hxin.parts hNpos
              obtain ⟨X, hX⟩ : ∃ X : Nat, (x : Int) / (N : Int) = (X : Int) := ⟨((x : Int) / (N : Int)).toNat, by omega⟩
              obtain ⟨Z, hZ⟩ : ∃ Z : Nat, (x : Int) % (N : Int) = (Z : Int) := ⟨((x : Int) % (N : Int)).toNat, by omega⟩
              rw [hX] at hp1
              rw [hZ] at hp2
              have HX := Lib.hid hX
              have HZZ := Lib.hid hZ
              have HXIN := Lib.hid hxin
              have hd1 : Int.tdiv (x : Int) (N : Int) = (X : Int) := by rw [Int.tdiv_eq_ediv_of_nonneg (by omega)]; exact hX
              have hm1 : Int.tmod (x : Int) (N : Int) = (Z : Int) := by rw [Int.tmod_eq_emod_of_nonneg (by omega)]; exact hZ
              have hN0 : ¬ ((N : Int) = 0) := by omega
              have hwX : IntKind.i64.wrap (X : Int) = (X : Int) := IntWalk.i64_in _ (by omega)
              have hwZ : IntKind.i64.wrap (Z : Int) = (Z : Int) := IntWalk.i64_in _ (by omega)
              clear hc hxin
              go_wp2
              go_quiet (fail)
              go_wp2
              go_loopw [19, 20, 21] (fun s19 _ _ wi => ∃ (r : Nat) (Y V : List Int), r + 1 ≤ N ∧ s19 = .int .i64 (r : Int) ∧ MakG (ovI N) Q (N - 1) C x r Y ∧ MsG N Q (N - 1) C M x r V ∧ OI wi B (some ⟨g3, 0, none⟩) Q Q Y ∧ OI wi B (some ⟨g4, 0, none⟩) Q Q V ∧ OI wi B (some ⟨h1, 0, none⟩) Q Q C ∧ OI wi B (some ⟨h2, 0, none⟩) Q Q M ∧ Below B w1 wi) (fun s19 _ _ _ => N - (intOf s19).toNat)
              case atStart => exact ⟨0, Y, V, by omega, rfl, HMAK.out, HMSG.out, HOY.out.drewN _, HOV.out.drewN _, HOC.out.drewN _, HOM.out.drewN _, below_drewN HBL.out _⟩
              case round =>
                obtain ⟨r, Y, V, hr, rfl, hmak, hmsg, hoy, hov, hoc, hom, hbl⟩ := hrel
                have HMAK := Lib.hid hmak
                have HMSG := Lib.hid hmsg
                have HOY := Lib.hid hoy
                have HOV := Lib.hid hov
                have HOC := Lib.hid hoc
                have HOM := Lib.hid hom
                have HBL := Lib.hid hbl
                clear hmak hmsg hoy hov hoc hom hbl ck hd1 hm1 hwX hwZ
                by_cases hltr : (r : Int) < (N : Int) - 1
                · have hr1 : r + 1 < N := by omega
                  have hU := ovW_in0 (n := N) (x := (X : Int)) (r := r) hp1 hr1
                  have hV := ovW_in0 (n := N) (x := (Z : Int)) (r := r) hp2 hr1
                  obtain ⟨U, hUe⟩ : ∃ U : Nat, ovW (X : Int) (r : Int) = (U : Int) := ⟨(ovW (X : Int) (r : Int)).toNat, by omega⟩
                  obtain ⟨P, hPe⟩ : ∃ P : Nat, ovW (Z : Int) (r : Int) = (P : Int) := ⟨(ovW (Z : Int) (r : Int)).toNat, by omega⟩
                  rw [hUe] at hU
                  rw [hPe] at hV
                  obtain ⟨UN, hUN⟩ : ∃ UN, UN = U * N := ⟨_, rfl⟩
                  have hov : ovI N (x : Int) (r : Int) = ((UN + P : Nat) : Int) := by
                    unfold ovI
                    rw [HX.out, HZZ.out, hUe, hPe, Int.natCast_add, hUN, Int.natCast_mul]
                  have hvQ : UN + P < Q := by
                    have h := (HXIN.out.over hr1).2
                    rw [hov, ← Int.natCast_mul, ← HQ.out] at h
                    omega
                  have hmul : IntKind.i64.wrap ((U : Int) * (N : Int)) = (UN : Int) := by
                    rw [show (U : Int) * (N : Int) = (UN : Int) by rw [hUN, Int.natCast_mul]]
                    exact IntWalk.i64_in _ (by omega)
                  have hmeet : meI N (x : Int) (r : Int) ↔ ((U : Int) = (Z : Int) ∧ (P : Int) = (X : Int)) := by
                    unfold meI
                    rw [HX.out, HZZ.out, hUe, hPe]
                  have HMEET := Lib.hid hmeet
                  have i0 : (0 : Int) ≤ (UN : Int) + (P : Int) := by omega
                  have i1 : (UN : Int) + (P : Int) < (Q : Int) := by omega
                  have j0 : (0 : Int) ≤ (x : Int) := by omega
                  have j1 : (x : Int) < (Q : Int) := by omega
                  -- the counts
                  have HUe := Lib.hid hUe
                  have HPe := Lib.hid hPe
                  have c3 := HOY.out.cells (UN + P) hvQ
                  have f3 : wr.frozen? ⟨g3, UN + P, none⟩ = false := HOY.out.2.frozenAt _
                  have c4 := HOV.out.cells (UN + P) hvQ
                  have f4 : wr.frozen? ⟨g4, UN + P, none⟩ = false := HOV.out.2.frozenAt _
                  have c2 := HOM.out.cells x hltx
                  have s3 := MakG.small HREPC.out HMAK.out hltx (by omega) hmN (by omega) hvQ
                  have HMK := Lib.hid (HMAK.out.step hvQ hov HCC.out)
                  have s3n := MakG.small HREPC.out HMK.out hltx (by omega) hmN (by omega) hvQ
                  rw [gi_set _ _ _ _ (by rw [HMAK.out.len]; exact hvQ), if_pos rfl] at s3n
                  -- the meetings
                  obtain ⟨p, hp⟩ : ∃ p : Nat, gi M x = (p : Int) := ⟨(gi M x).toNat, by have := HMM.out.2.1 x hltx; omega⟩
                  rw [hp] at c2
                  have htot : (N - 1) * dot oneI M + dot (mtI N (N - 1)) C ≤ 1907348632812500 := by
                    have h1 := mtS_next (n := N) (j := j) HIN.out
                    rw [HPH.out] at h1
                    rw [HMM.out.2.2, HREPC.out.wgt, Nat.mul_comm, ← h1]
                    exact mtS_small hmN (by omega)
                  have s4 := MsG.small HMSG.out HREPC.out.len HMM.out.1 hltx (by omega) hvQ
                  have HMS := Lib.hid (fun (Y' : List Int) (q : Nat) h1 h2 => HMSG.out.step hvQ HCC.out hp Y' q h1 h2)
                  obtain ⟨y, hy⟩ : ∃ y, y = gi Y (UN + P) := ⟨_, rfl⟩
                  obtain ⟨v, hv⟩ : ∃ v, v = gi V (UN + P) := ⟨_, rfl⟩
                  rw [← hy] at c3 s3 s3n HMK
                  rw [← hv] at c4 s4 HMS
                  have hr0 : 0 ≤ gi V (UN + P) := HMSG.out.pos _ hvQ
                  rw [← hv] at hr0
                  have HVL := Lib.hid HMSG.out.len
                  have hb3 := (HOY.out.blk g3 rfl).1
                  have hb4 := (HOV.out.blk g4 rfl).1
                  by_cases hUZ : U = Z
                  · subst hUZ
                    by_cases hPX : P = X
                    · subst hPX
                      have hme : meI N (x : Int) (r : Int) := hmeet.2 ⟨rfl, rfl⟩
                      have hq1 : p + c = p + (if meI N (x : Int) (r : Int) then 1 else 0) * c := by rw [if_pos hme, Nat.one_mul]
                      have HM5 := Lib.hid (HMS.out _ (p + c) hq1 rfl)
                      have s5 := MsG.small HM5.out HREPC.out.len HMM.out.1 hltx (by omega) hvQ
                      rw [gi_set _ _ _ _ (by rw [HVL.out]; exact hvQ), if_pos rfl] at s5
                      have hbnd : v + (p : Int) + (c : Int) ≤ 1907348632812500 := by omega
                      have hbn2 : v + (p : Int) ≤ 1907348632812500 := by omega
                      have HVV : Hid ((V.set (UN + P) (v + (p : Int))).set (UN + P) (v + (p : Int) + (c : Int)) = V.set (UN + P) (v + ((p + c : Nat) : Int))) := Lib.hid (by rw [List.set_set, Int.natCast_add, Int.add_assoc])
                      have HFY := Lib.hid (((HOY.out.stored (UN + P) (y + (c : Int))).away n34 (UN + P) (.int .i64 (v + (p : Int)))).away n34 (UN + P) (.int .i64 (v + (p : Int) + (c : Int))))
                      have HFV := Lib.hid (((HOV.out.away n43 (UN + P) (.int .i64 (y + (c : Int)))).stored (UN + P) (v + (p : Int))).stored (UN + P) (v + (p : Int) + (c : Int)))
                      have HFC := Lib.hid (((HOC.out.away n13 (UN + P) (.int .i64 (y + (c : Int)))).away n14 (UN + P) (.int .i64 (v + (p : Int)))).away n14 (UN + P) (.int .i64 (v + (p : Int) + (c : Int))))
                      have HFM := Lib.hid (((HOM.out.away n23 (UN + P) (.int .i64 (y + (c : Int)))).away n24 (UN + P) (.int .i64 (v + (p : Int)))).away n24 (UN + P) (.int .i64 (v + (p : Int) + (c : Int))))
                      have HFB := Lib.hid (((HBL.out.setCell (p := ⟨g3, UN + P, none⟩) hb3 (.int .i64 (y + (c : Int)))).setCell (p := ⟨g4, UN + P, none⟩) hb4 (.int .i64 (v + (p : Int)))).setCell (p := ⟨g4, UN + P, none⟩) hb4 (.int .i64 (v + (p : Int) + (c : Int))))
                      clear hov hmeet hq1 hme s5 s4 s3 hUe hPe hy hv hp hUN hU hV htot
                      go_wp2_with (go_at_call 40; refine (laOverW_any _ _ _ (by omega) (by omega)).mono ?_; (first | rw [HUe.out] | rw [HPe.out]); rintro e w' ⟨rfl, rfl⟩)
                      go_region
                      all_goals
                        go_wp2
                        go_roundw
                        case rel => exact ⟨r + 1, Y.set (UN + P) (y + (c : Int)), V.set (UN + P) (v + (((p + c : Nat) : Int))), by omega, by go_num, HMK.out, HM5.out, HFY.out, HVV.out ▸ HFV.out, HFC.out, HFM.out, (by first | exact HFB.out | exact HFB.out.drew)⟩
                        case measure => simp [intOf]; omega
                    · have hne2 : ((P : Int) == (X : Int)) = false := by rw [beq_eq_false_iff_ne]; omega
                      have hme : ¬ meI N (x : Int) (r : Int) := fun h => hPX (by have := (hmeet.1 h).2; omega)
                      have hq1 : p = p + (if meI N (x : Int) (r : Int) then 1 else 0) * c := by rw [if_neg hme, Nat.zero_mul, Nat.add_zero]
                      have HM5 := Lib.hid (HMS.out _ p hq1 rfl)
                      have s5 := MsG.small HM5.out HREPC.out.len HMM.out.1 hltx (by omega) hvQ
                      rw [gi_set _ _ _ _ (by rw [HVL.out]; exact hvQ), if_pos rfl] at s5
                      have hbn2 : v + (p : Int) ≤ 1907348632812500 := by omega
                      have HFY := Lib.hid ((HOY.out.stored (UN + P) (y + (c : Int))).away n34 (UN + P) (.int .i64 (v + (p : Int))))
                      have HFV := Lib.hid ((HOV.out.away n43 (UN + P) (.int .i64 (y + (c : Int)))).stored (UN + P) (v + (p : Int)))
                      have HFC := Lib.hid ((HOC.out.away n13 (UN + P) (.int .i64 (y + (c : Int)))).away n14 (UN + P) (.int .i64 (v + (p : Int))))
                      have HFM := Lib.hid ((HOM.out.away n23 (UN + P) (.int .i64 (y + (c : Int)))).away n24 (UN + P) (.int .i64 (v + (p : Int))))
                      have HFB := Lib.hid ((HBL.out.setCell (p := ⟨g3, UN + P, none⟩) hb3 (.int .i64 (y + (c : Int)))).setCell (p := ⟨g4, UN + P, none⟩) hb4 (.int .i64 (v + (p : Int))))
                      clear hov hmeet hq1 hme s5 s4 s3 hUe hPe hy hv hp hUN hU hV htot
                      go_wp2_with (go_at_call 40; refine (laOverW_any _ _ _ (by omega) (by omega)).mono ?_; (first | rw [HUe.out] | rw [HPe.out]); rintro e w' ⟨rfl, rfl⟩)
                      go_region
                      all_goals
                        go_wp2
                        go_roundw
                        case rel => exact ⟨r + 1, Y.set (UN + P) (y + (c : Int)), V.set (UN + P) (v + ((p : Int))), by omega, by go_num, HMK.out, HM5.out, HFY.out, HFV.out, HFC.out, HFM.out, (by first | exact HFB.out | exact HFB.out.drew)⟩
                        case measure => simp [intOf]; omega
                  · have hne1 : ((U : Int) == (Z : Int)) = false := by rw [beq_eq_false_iff_ne]; omega
                    have hme : ¬ meI N (x : Int) (r : Int) := fun h => hUZ (by have := (hmeet.1 h).1; omega)
                    have hq1 : p = p + (if meI N (x : Int) (r : Int) then 1 else 0) * c := by rw [if_neg hme, Nat.zero_mul, Nat.add_zero]
                    have HM5 := Lib.hid (HMS.out _ p hq1 rfl)
                    have s5 := MsG.small HM5.out HREPC.out.len HMM.out.1 hltx (by omega) hvQ
                    rw [gi_set _ _ _ _ (by rw [HVL.out]; exact hvQ), if_pos rfl] at s5
                    have hbn2 : v + (p : Int) ≤ 1907348632812500 := by omega
                    have HFY := Lib.hid ((HOY.out.stored (UN + P) (y + (c : Int))).away n34 (UN + P) (.int .i64 (v + (p : Int))))
                    have HFV := Lib.hid ((HOV.out.away n43 (UN + P) (.int .i64 (y + (c : Int)))).stored (UN + P) (v + (p : Int)))
                    have HFC := Lib.hid ((HOC.out.away n13 (UN + P) (.int .i64 (y + (c : Int)))).away n14 (UN + P) (.int .i64 (v + (p : Int))))
                    have HFM := Lib.hid ((HOM.out.away n23 (UN + P) (.int .i64 (y + (c : Int)))).away n24 (UN + P) (.int .i64 (v + (p : Int))))
                    have HFB := Lib.hid ((HBL.out.setCell (p := ⟨g3, UN + P, none⟩) hb3 (.int .i64 (y + (c : Int)))).setCell (p := ⟨g4, UN + P, none⟩) hb4 (.int .i64 (v + (p : Int))))
                    clear hov hmeet hq1 hme s5 s4 s3 hUe hPe hy hv hp hUN hU hV htot
                    go_wp2_with (go_at_call 40; refine (laOverW_any _ _ _ (by omega) (by omega)).mono ?_; (first | rw [HUe.out] | rw [HPe.out]); rintro e w' ⟨rfl, rfl⟩)
                    go_region
                    all_goals
                      go_wp2
                      go_roundw
                      case rel => exact ⟨r + 1, Y.set (UN + P) (y + (c : Int)), V.set (UN + P) (v + ((p : Int))), by omega, by go_num, HMK.out, HM5.out, HFY.out, HFV.out, HFC.out, HFM.out, (by first | exact HFB.out | exact HFB.out.drew)⟩
                      case measure => simp [intOf]; omega
                · obtain rfl : r = N - 1 := by omega
                  go_wp2
                  go_roundw
                  case rel => exact ⟨x + 1, Y, V, by omega, by go_num, HMAK.out.next, HMSG.out.next, HOY.out, HOV.out, HOC.out, HOM.out, HBL.out⟩
                  case measure => simp [intOf]; omega
            · obtain rfl : x = Q := by omega
              have hT : dot oneI V = mtS (N - 1) E (j + 1) := by
                have h1 := mtS_next (n := N) (j := j) HIN.out
                rw [HPH.out] at h1
                rw [HMSG.out.done HREPC.out.len HMM.out.1, HMM.out.2.2, HREPC.out.wgt, Nat.mul_comm, ← h1]
              have HT := Lib.hid hT
              clear hT
              go_wp2
              go_roundw
              case rel => exact ⟨j + 1, g3, g4, Y, V, by omega, by go_num, rfl, rfl, n34, HMAK.out.done HREPC.out, ⟨HMSG.out.len, HMSG.out.pos, HT.out⟩, HOY.out, HOV.out, HBL.out⟩
              case measure => simp [intOf]; omega
      · obtain rfl : j = K := by omega
        have hbig := mtS_small (m := N - 1) (e := E) (j := j) hmN hK
        have HS : Hid (∀ i, i ≤ Q → ((List.range i).map fun (x : Nat) => (gi M x).toNat).sum ≤ mtS (N - 1) E j) := Lib.hid fun i hi => by
          rw [← HMM.out.2.2]
          unfold dot
          rw [HMM.out.1]
          have e : (fun (v : Nat) => oneI (v : Int) * (gi M v).toNat) = fun (x : Nat) => (gi M x).toNat := by funext x; exact Nat.one_mul _
          rw [e]
          obtain ⟨d, rfl⟩ : ∃ d, Q = i + d := ⟨Q - i, by omega⟩
          rw [List.range_add, List.map_append, List.sum_append]
          omega
        have HALL : Hid (((List.range Q).map fun (x : Nat) => (gi M x).toNat).sum = mtS (N - 1) E j) := Lib.hid (by
          rw [← HMM.out.2.2]
          unfold dot
          rw [HMM.out.1]
          exact ssum_congr fun x _ => (Nat.one_mul _).symm)
        have HR := Lib.hid (chRatio_rt (mtS (N - 1) E j) EF.out (by omega))
        obtain ⟨q1, hq1⟩ : ∃ q1, q1 = rtA (mtS (N - 1) E j) (N : Int) (j : Int) := ⟨_, rfl⟩
        obtain ⟨q2, hq2⟩ : ∃ q2, q2 = rtB (mtS (N - 1) E j) (N : Int) (j : Int) := ⟨_, rfl⟩
        rw [← hq1, ← hq2] at HR
        have HQ1 := Lib.hid hq1
        have HQ2 := Lib.hid hq2
        obtain ⟨tt, htt⟩ : ∃ tt, tt = mtS (N - 1) E j := ⟨_, rfl⟩
        rw [← htt] at HR HS HALL hbig
        replace HC : Hid (Cell2 wr w.heap.size (.int .i64 0) (.int .i64 0)) := cellStep HC (HBW.out ▸ HBL.out)
        have HBF : Hid (Below w.heap.size w wr) := Lib.hid (HB.out.trans ((HBW.out ▸ HBL.out).mono HB.out.size))
        clear hq1 hq2 htt
        go_wp2
        go_loop [22, 151] (fun s22 sx => ∃ (x a : Nat), x ≤ Q ∧ sx = .int .i64 (x : Int) ∧ s22 = .int .i64 (a : Int) ∧ a = ((List.range x).map fun (x : Nat) => (gi M x).toNat).sum) (fun _ sx => Q - (intOf sx).toNat)
        case atStart => exact ⟨0, 0, Nat.zero_le _, rfl, rfl, rfl⟩
        case round =>
          obtain ⟨x, a, hx, rfl, rfl, ha⟩ := hrel
          have HA := Lib.hid ha
          clear ha
          by_cases hltx : x < Q
          · have ck := HOM.out.cells x hltx
            have h1 := HS.out (x + 1) (by omega)
            rw [List.range_succ, List.map_append, List.sum_append, ← HA.out] at h1
            obtain ⟨p, hp⟩ : ∃ p : Nat, gi M x = (p : Int) := ⟨(gi M x).toNat, by have := HMM.out.2.1 x hltx; omega⟩
            have hs : a + p = ((List.range (x + 1)).map fun (x : Nat) => (gi M x).toNat).sum := by
              rw [List.range_succ, List.map_append, List.sum_append, ← HA.out]
              simp [hp]
            simp only [List.map_cons, List.map_nil, List.sum_cons, List.sum_nil, Nat.add_zero, hp, Int.toNat_natCast] at h1
            rw [hp] at ck
            have HSX := Lib.hid hs
            clear hp hs
            go_wp2
            go_round
            case rel => exact ⟨x + 1, a + p, by omega, by go_num, by first | rfl | go_num, HSX.out⟩
            case measure => simp [intOf]; omega
          · obtain rfl : x = Q := by omega
            have hat : a = tt := by rw [HA.out, HALL.out]
            have HR2 : Hid (∀ w, Calls Try.prog 35 #[.int .i64 (a : Int), .int .i64 (allN (N : Int) (j : Int) : Int)] w (RetR2 q1 q2 w)) := by rw [hat]; exact HR
            clear hat
            go_wp2_with (go_at_call 29; refine (chAll_any _ _ _ EF.out).mono ?_; rintro e w2 ⟨rfl, rfl⟩)
            refine (HR2.out _).mono ?_
            rintro e2 w2 ⟨rfl, hb⟩
            replace HC := cellStep HC hb
            replace HBF := belStep HBF hb
            have k0 := HC.out.c0; have k1 := HC.out.c1; have f0 := HC.out.f0; have f1 := HC.out.f1; have kz := HC.out.lt
            clear hb HR HR2
            go_wp2
            refine bodyPost_ret (v := .tuple #[.agg #[.int .i64 q1, .int .i64 q2], .bool true]) (by simp [results, Try.results24, go_sem, k0, k1]) rfl ⟨by rw [HQ1.out, HQ2.out, hE], ?_⟩
            exact (HBF.out.setCell (p := ⟨w.heap.size, 0, none⟩) (Nat.le_refl _) _).setCell (p := ⟨w.heap.size, 1, none⟩) (Nat.le_refl _) _

set_option maxRecDepth 100000 in
set_option maxHeartbeats 2000000 in
theorem sMeanMeetings_any (n k a b : Int) (w : World) (_lo : -9223372036854775808 ≤ n) (_hi : n ≤ 9223372036854775807) :
    Calls Try.prog 24 #[.int .i64 n, .int .i64 k, .int .i64 a, .int .i64 b] w (RetRB (mmA n k a b) (mmB n k a b) (mmQ n k a b) w) := by
  have HCN := fun (w : World) => cellNew w (.int .i64 0) (.int .i64 0) 28
  have HBN := belAlloc (belRefl (w := w)) (.cells #[.int .i64 0, .int .i64 0] 28)
  rcases h1 : fallB n k with _ | _
  · have E1 := Lib.hid h1
    rw [mmA_no (mmQ_1 (ceQ_1 h1)), mmB_no (mmQ_1 (ceQ_1 h1)), mmQ_1 (ceQ_1 h1)]
    clear h1
    go_enter Try.func24, Try.ntmps24
    go_wp2_with (go_at_call 28; refine (chGood_any _ _ _).mono ?_; rw [E1.out]; rintro e w' ⟨rfl, rfl⟩)
    exact bodyPost_ret (v := .tuple #[.agg #[.int .i64 0, .int .i64 0], .bool false]) (by simp [results, Try.results24, go_sem]) rfl ⟨rfl, (by repeat (first | exact Below.refl _ _ | exact HB.out | refine Below.setCell ?_ (by simp <;> omega) _ | refine Below.alloc ?_ (by simp <;> omega) _ | refine below_drewN ?_ _))⟩
  have hb := fallB_iff.1 h1
  rcases h2 : inB a 0 (n - 1) with _ | _
  · have E1 := Lib.hid h1
    have E2 := Lib.hid h2
    rw [mmA_no (mmQ_1 (ceQ_2 h2)), mmB_no (mmQ_1 (ceQ_2 h2)), mmQ_1 (ceQ_2 h2)]
    clear h1 h2
    go_enter Try.func24, Try.ntmps24
    go_wp2_with (first | (go_at_call 28; refine (chGood_any _ _ _).mono ?_; rw [E1.out]; rintro e w' ⟨rfl, rfl⟩) | (go_at_call 31; refine (l1In_any _ _ _ _).mono ?_; rw [E2.out]; rintro e w' ⟨rfl, rfl⟩))
    exact bodyPost_ret (v := .tuple #[.agg #[.int .i64 0, .int .i64 0], .bool false]) (by simp [results, Try.results24, go_sem]) rfl ⟨rfl, (by repeat (first | exact Below.refl _ _ | exact HB.out | refine Below.setCell ?_ (by simp <;> omega) _ | refine Below.alloc ?_ (by simp <;> omega) _ | refine below_drewN ?_ _))⟩
  rcases h3 : inB b 0 (n - 1) with _ | _
  · have E1 := Lib.hid h1
    have E2 := Lib.hid h2
    have E3 := Lib.hid h3
    rw [mmA_no (mmQ_1 (ceQ_3 h3)), mmB_no (mmQ_1 (ceQ_3 h3)), mmQ_1 (ceQ_3 h3)]
    clear h1 h2 h3
    go_enter Try.func24, Try.ntmps24
    go_wp2_with (first | (go_at_call 28; refine (chGood_any _ _ _).mono ?_; rw [E1.out]; rintro e w' ⟨rfl, rfl⟩) | (go_at_call 31; refine (l1In_any _ _ _ _).mono ?_; (first | rw [E2.out] | rw [E3.out]); rintro e w' ⟨rfl, rfl⟩))
    exact bodyPost_ret (v := .tuple #[.agg #[.int .i64 0, .int .i64 0], .bool false]) (by simp [results, Try.results24, go_sem]) rfl ⟨rfl, (by repeat (first | exact Below.refl _ _ | exact HB.out | refine Below.setCell ?_ (by simp <;> omega) _ | refine Below.alloc ?_ (by simp <;> omega) _ | refine below_drewN ?_ _))⟩
  by_cases hab : a = b
  · subst hab
    have E1 := Lib.hid h1
    have E2 := Lib.hid h2
    rw [mmA_no mmQ_2, mmB_no mmQ_2, mmQ_2]
    clear h1 h2 h3
    go_enter Try.func24, Try.ntmps24
    go_wp2_with (first | (go_at_call 28; refine (chGood_any _ _ _).mono ?_; rw [E1.out]; rintro e w' ⟨rfl, rfl⟩) | (go_at_call 31; refine (l1In_any _ _ _ _).mono ?_; rw [E2.out]; rintro e w' ⟨rfl, rfl⟩))
    exact bodyPost_ret (v := .tuple #[.agg #[.int .i64 0, .int .i64 0], .bool false]) (by simp [results, Try.results24, go_sem]) rfl ⟨rfl, (by repeat (first | exact Below.refl _ _ | exact HB.out | refine Below.setCell ?_ (by simp <;> omega) _ | refine Below.alloc ?_ (by simp <;> omega) _ | refine below_drewN ?_ _))⟩
  · have hq := ceQ_4 h1 h2 h3
    have hmq := mmQ_3 hq hab
    rw [mmA_yes hmq, mmB_yes hmq, hmq]
    obtain ⟨N, K, S, T, rfl, rfl, rfl, rfl, hN2, hN6, hK, hS, hT⟩ := ceQ_nat hq
    unfold mmT
    rw [Int.toNat_natCast, Int.toNat_natCast]
    exact sMeanMeetings_yes N K S T w hN2 hN6 hK hS hT (fun e => hab (by rw [e]))
end Go.Proofs.Ytpnabofgpeffkaa
