/- CountDepths, of the program: the walk. -/
import Derived.Test.YtnhhbpogjhcibaaDp3
namespace Go.Proofs.Ytnhhbpogjhcibaa
open Go Go.RowKit Go.Maps

set_option maxRecDepth 100000 in
set_option maxHeartbeats 2000000 in
theorem iCountDepths_any (x : Int) (w : World) : Calls Try.prog 39 #[.int .i64 x] w (FreshIB w (cdpL x).length (cdpL x) (inB x 2 6)) := by
  by_cases h1 : x < 2
  · have HQ := Lib.hid (inB_false (n := x) (lo := 2) (hi := 6) (by omega))
    rw [cdpL_no HQ.out, HQ.out]
    go_enter Try.func39, Try.ntmps39
    go_wp2
    go_ret2
    exact ⟨none, 0, rfl, OI.none_ _ _, Below.refl _ _⟩
  · by_cases h3 : 6 < x
    · have HQ := Lib.hid (inB_false (n := x) (lo := 2) (hi := 6) (by omega))
      rw [cdpL_no HQ.out, HQ.out]
      go_enter Try.func39, Try.ntmps39
      go_wp2
      go_ret2
      exact ⟨none, 0, rfl, OI.none_ _ _, Below.refl _ _⟩
    · have HW := Lib.hid (inB_true (n := x) (lo := 2) (hi := 6) (by omega))
      rw [cdpL_yes HW.out, HW.out, cdL_len]
      obtain ⟨n, rfl⟩ : ∃ n : Nat, x = (n : Int) := ⟨x.toNat, by omega⟩
      rw [Int.toNat_natCast]
      have h2 : 2 ≤ n := by omega
      have h6 : n ≤ 6 := by omega
      have HD := Lib.hid (fun w2 => depthsOf_any n w2 h2 h6)
      have HMX := Lib.hid (mxS_dp h2 h6)
      have HDN := Lib.hid (fun P left D (h : Lft n P left D) hd => h.done (by omega) (by omega) hd)
      have HDM := Lib.hid (fun P left D (h : Lft n P left D) (hd : ∀ kl, left kl = false) => congrArg List.length (h.done (by omega) (by omega) hd))
      have HD15 := Lib.hid (fun q (hq : OKp n q) => Nat.le_trans (dep_few h2 h6 hq) (ninv_six (zs := q) (by rw [hq.2]; exact h6)))
      have HPL := Lib.hid (fun P (hP : P.Nodup) (h : ∀ q ∈ P, OKp n q) => Nat.le_trans (nodup_le P (ordsK n n) hP (fun q hq => ((ordsK_all (by omega) (by omega)).mem q).2 (h q hq))) (ords_len6 h2 h6).1)
      obtain ⟨F, hF⟩ : ∃ F, F = cdL (dpL n) := ⟨_, rfl⟩
      have hFl : mxS (dpL n) = F.length := by rw [hF, cdL_len]
      rw [hFl, ← hF]
      have HF := Lib.hid hF
      rw [← hF] at HDN HDM
      clear hF hFl
      go_enter Try.func39, Try.ntmps39
      go_wp2_with fail
      refine (HD.out _).mono ?_
      rintro e w1 ⟨bm, nb, D, rfl, ho, hm, hbb, hb⟩
      have HO := Lib.hid ho
      have HMD := Lib.hid hm
      have HB1 := Lib.hid hb
      clear ho hm hb
      go_wp2_with (at_range; refine wpList_range_own _ rfl _ 59 rfl 62 3 keyS Try.underlying59 _ bm nb D rfl HO.out ?_; intro w2 hrg0 hg0 hs0)
      have HRG0 := Lib.hid hrg0
      have HLF0 := Lib.hid (Lft.start (by omega) (by omega) HMD.out)
      obtain ⟨rr, hrr⟩ : ∃ b, b = w1.heap.size := ⟨_, rfl⟩
      obtain ⟨K, hK⟩ : ∃ K, K = w2.heap.size := ⟨_, rfl⟩
      have HB2 : Hid (Below w.heap.size w w2) := Lib.hid (HB1.out.grown hg0 HB1.out.size (fun j hj => by cases hj))
      have hbmK : bm < K := by have := HO.out.lt; omega
      have hrrK : rr < K := by omega
      have hWK : w.heap.size ≤ K := by have := HB2.out.size; omega
      have HK := Lib.hid hK
      rw [← hrr] at HRG0
      rw [← hrr]
      have hWr : w.heap.size ≤ rr := by have := HB1.out.size; omega
      clear hrg0 hg0 hs0 hK hrr
      go_frame
      go_loopw [4, 6] (fun s4 _ wr => ∃ (P : List (List Int)) (left : Lit → Bool) (cnt : Nat) (A : Option Addr) (c : Nat) (us : List Nat), us = P.map (dep n) ∧ s4 = .slice A (mxS us) c ∧ Lft n P left D ∧ wr.ranges Try.prog 62 (plainElem Try.prog 3) bm rr nb D left cnt ∧ OI wr K A (mxS us) c (cdL us) ∧ K ≤ wr.heap.size ∧ Below w.heap.size w wr) (fun _ _ wi => wi.rangeLeft bm rr)
      case atStart => exact ⟨[], _, _, none, 0, [], rfl, rfl, HLF0.out, HRG0.out, OI.none_ _ _, by rw [HK.out]; exact Nat.le_refl _, HB2.out⟩
      case round =>
        obtain ⟨P, left, cnt, A, c, us, hus, rfl, hlf, hrg, ho, hKw, hb⟩ := hrel
        have HO2 := Lib.hid ho
        have HRG := Lib.hid hrg
        have HLF := Lib.hid hlf
        have HUS := Lib.hid hus
        have HBr := Lib.hid hb
        have hmx : mxS us ≤ 1000 := mxS_le.2 fun y hy => by
          rw [hus] at hy
          obtain ⟨p, hp, rfl⟩ := List.mem_map.1 hy
          have := HD15.out p (hlf.ok p hp)
          omega
        have hPl : P.length ≤ 720 := HPL.out P hlf.nd hlf.ok
        clear hrg hlf ho hus hb
        obtain ⟨wo, hwo⟩ : ∃ v : World, v = wr := ⟨_, rfl⟩
        subst hwo
        go_wp2_with (at_next; refine wpList_next_OS _ rfl _ rfl bm rr nb n (ordsK n n) (dep n) D left cnt rfl HRG.out HMD.out (fun q hq => ((ordsK_all (by omega) (by omega)).mem q).1 hq) (by omega) HLF.out.has ?_ ?_)
        · intro hno
          have HE := Lib.hid (HDN.out P left D HLF.out hno)
          rw [← HUS.out] at HE
          have hlen : mxS us = F.length := by rw [← cdL_len, HE.out]
          clear hno
          rw [hlen] at HO2 ⊢
          rw [HE.out] at HO2
          go_wp2
          go_ret2
          exact ⟨A, c, rfl, HO2.out.mono hWK, HBr.out⟩
        · intro q w3 cnt' hq hle hrg3 hlt3 hg3 hs3 hen
          have hok := ((ordsK_all (n := n) (by omega) (by omega)).mem q).1 hq
          have HLF3 := Lib.hid (HLF.out.step (by omega) hok hle)
          have HRG3 := Lib.hid hrg3
          have hmeas : wo.rangeLeft bm rr = cnt := HRG.out.left_eq
          have HMS := Lib.hid hmeas
          have HLT := Lib.hid hlt3
          obtain ⟨y, hy⟩ : ∃ y, y = dep n q := ⟨_, rfl⟩
          have hy15 : y ≤ 15 := by rw [hy]; exact HD15.out q hok
          rw [← hy] at hen
          rw [← hy]
          have HTK : Hid ((P ++ [q]).map (dep n) = us ++ [y]) := Lib.hid (by rw [List.map_append, HUS.out, hy]; rfl)
          have hcnt : us.count y ≤ 1000 := by have h1 := count_le_len us y; rw [HUS.out, List.length_map] at h1; rw [HUS.out]; omega
          have HO3' : Hid (OI w3 K A (mxS us) c (cdL us)) := Lib.hid (HO2.out.kept hg3 (fun b hb e => by have h1 := (HO2.out.blk b hb).1; have h3 : rr = b := Option.some.inj e; omega))
          have HB3' : Hid (Below w.heap.size w w3) := Lib.hid (HBr.out.grown hg3 HBr.out.size (fun j hj => by have h3 : rr = j := Option.some.inj hj; omega))
          have hK3 : K ≤ w3.heap.size := by rw [hs3]; exact hKw
          clear hrg3 hlt3 hg3 hs3 hq hle hok hy hmeas
          go_wp2
          go_loopw [4] (fun s4 wi => ∃ (m : Nat) (A : Option Addr) (c : Nat) (zs : List Int), m ≤ y + 1 ∧ zs = padL us m ∧ s4 = .slice A zs.length c ∧ OI wi K A zs.length c zs ∧ wi.ranges Try.prog 62 (plainElem Try.prog 3) bm rr nb D (fun z => left z && !z.sameKey (eS (seats q))) cnt' ∧ K ≤ wi.heap.size ∧ Below w.heap.size w wi) (fun s4 _ => y + 1 - (match s4 with | .slice _ l _ => l | _ => 0))
          case atStart => exact ⟨0, A, c, padL us 0, Nat.zero_le _, rfl, by rw [padL_self (Nat.zero_le _), cdL_len], by rw [padL_self (Nat.zero_le _), cdL_len]; exact HO3'.out, HRG3.out, hK3, HB3'.out⟩
          case round =>
            obtain ⟨m, A, c, zs, hm, hzs, rfl, ho, hf, hKw, hb⟩ := hrel
            have HO3 := Lib.hid ho
            have HF3 := Lib.hid hf
            have HB3 := Lib.hid hb
            have HZS := Lib.hid hzs
            have hzl : zs.length = max (mxS us) m := by rw [hzs, padL_len]
            clear ho hb hf hzs
            by_cases hle : zs.length ≤ y
            · have i1 : (zs.length : Int) ≤ (y : Int) := by omega
              have HMM : Hid (zs = padL us (max (mxS us) m)) := Lib.hid (by
                rw [HZS.out]
                rcases Nat.le_total (mxS us) m with h | h
                · rw [Nat.max_eq_right h]
                · rw [Nat.max_eq_left h, padL_self h, padL_self (Nat.le_refl _)])
              have HNX : Hid (padL us (max (mxS us) m + 1) = zs ++ [0]) := Lib.hid (by rw [padL_succ (Nat.le_max_left _ _), ← HMM.out])
              have hmm : max (mxS us) m ≤ y := by omega
              have hzy : zs.length ≤ y := hle
              clear hm hzl
              go_wp2_with (at_builtin; refine wpList_append_int _ rfl _ _ rfl K A zs.length c zs 0 wr.heap.size rfl rfl (HO3.out.alloc _) (by simp) (by omega) (by simp; omega) ?_; intro A4 c4 w4 ho4 hg4; have HO4 := Lib.hid ho4; have hoa := HO3.out.alloc (.cells #[.int .i64 0] 3); have HF4 := Lib.hid ((HF3.out.alloc (.cells #[.int .i64 0] 3)).kept hg4 (fun e => by have h1 := (hoa.blk bm e.symm).1; omega) (fun e => by have h1 := (hoa.blk rr e.symm).1; omega)); have HK4 : Hid (K ≤ w4.heap.size) := Lib.hid (by have := hg4.size; simp at this; omega); have HB4 := Lib.hid ((HB3.out.alloc HB3.out.size (.cells #[.int .i64 0] 3)).grown hg4 (by have := HB3.out.size; simp; omega) (fun j hj => by have h1 := (hoa.blk j hj).1; omega)); clear ho4 hg4 hoa)
              go_roundw
              case rel => exact ⟨max (mxS us) m + 1, A4, c4, zs ++ [0], by omega, HNX.out.symm, by simp, by simpa using HO4.out, HF4.out, HK4.out, HB4.out⟩
              case measure => simp; omega
            · have i1 : ¬ (zs.length : Int) ≤ (y : Int) := by omega
              have hym : y < zs.length := by omega
              have HPY : Hid (zs = padL us (y + 1)) := Lib.hid (by
                rw [HZS.out]
                rcases Nat.le_total (mxS us) m with h | h
                · rw [show m = y + 1 by rw [hzl, Nat.max_eq_right h] at hym; omega]
                · rw [hzl, Nat.max_eq_left h] at hym
                  rw [padL_self h, padL_self hym])
              obtain ⟨gA, rfl, hgB, hgW⟩ : ∃ gA, A = some ⟨gA, 0, none⟩ ∧ K ≤ gA ∧ gA < wr.heap.size := by
                rcases HO3.out.form with ⟨_, _, h0⟩ | ⟨g, cur, h1, h3, h4, _⟩
                · omega
                · exact ⟨g, h1, h3, h4⟩
              have d0 := HO3.out.cells y hym
              have df : wr.frozen? ⟨gA, y, none⟩ = false := HO3.out.2.frozenAt y
              have hgi : gi zs y = (us.count y : Int) := by rw [HPY.out]; exact gi_padL us (y + 1) (by omega)
              rw [hgi] at d0
              have y0 : (0 : Int) ≤ (y : Int) := by omega
              have y1 : (y : Int) < (zs.length : Int) := by omega
              obtain ⟨cn, hcn⟩ : ∃ cn, cn = us.count y := ⟨_, rfl⟩
              rw [← hcn] at d0 hcnt
              have HCN := Lib.hid hcn
              have HST : Hid (cdL (us ++ [y]) = zs.set y ((cn : Int) + 1)) := Lib.hid (by rw [cdL_step, ← HPY.out, HCN.out])
              have hlen2 : mxS (us ++ [y]) = zs.length := by rw [← cdL_len, HST.out, List.length_set]
              have HL2 := Lib.hid hlen2
              have HKS := Lib.hid (HF3.out.kept (grownSet wr ⟨gA, y, none⟩ (.int .i64 ((cn : Int) + 1))) (fun e => by have h3 : bm = gA := Option.some.inj e; omega) (fun e => by have h3 : rr = gA := Option.some.inj e; omega))
              clear hgi hcn hlen2 hzl hm
              go_wp2
              go_roundw
              case rel => exact ⟨P ++ [q], _, cnt', _, c, us ++ [y], HTK.out.symm, by rw [HL2.out], HLF3.out, HKS.out, by rw [HL2.out, HST.out]; exact HO3.out.stored y _, by simpa [World.setCell] using hKw, HB3.out.setCell (by simp; omega) _⟩
              case measure => rw [HKS.out.left_eq, HMS.out]; exact HLT.out
end Go.Proofs.Ytnhhbpogjhcibaa
