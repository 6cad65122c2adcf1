/- Games of rungs, the taking game: the line of best play. -/
import Derived.Test.YtiapbmgpjloafaaGo4T
import Derived.Deep.LoopGhost
namespace Go.Proofs.Ytiapbmgpjloafaa
open Go Go.RowKit

section
variable {posV : Nat → Value} {good : Nat → Prop} {ch : Nat → List Int} {nx : Nat → Nat → Nat} {won : Nat → Bool} {ov : Nat → OutP} {Lnd : World → Prop} {b : Nat}

/-- the choice that is made -/
def bxT (ch : Nat → List Int) (nx : Nat → Nat → Nat) (ov : Nat → OutP) (p : Nat) : Int := gi (ch p) (bxG (fun j => behP (ov (nx p (gi (ch p) j).toNat))) (ch p).length)
theorem lineF_none {M p : Nat} (h : ch p = []) : lineF ch nx ov M p = [] := by
  cases M
  · rfl
  · rw [lineF, if_pos h]
theorem lineF_some {M p : Nat} (h : ch p ≠ []) : lineF ch nx ov (M + 1) p = bxT ch nx ov p :: lineF ch nx ov M (nx p (bxT ch nx ov p).toNat) := by rw [lineF, if_neg h]; rfl

theorem lineF_enough (G : ∀ p (i : Nat), good p → (i : Int) ∈ ch p → good (nx p i) ∧ nx p i < p) (hc : ∀ p j, good p → j < (ch p).length → ∃ i : Nat, i < 1000 ∧ gi (ch p) j = (i : Int)) : ∀ {p M M' : Nat}, p < M → p < M' → good p → lineF ch nx ov M p = lineF ch nx ov M' p := by
  intro p
  induction p using Nat.strongRecOn with
  | _ p ih =>
    intro M M' h1 h2 hp
    obtain ⟨A, rfl⟩ : ∃ A, M = A + 1 := ⟨M - 1, by omega⟩
    obtain ⟨B, rfl⟩ : ∃ B, M' = B + 1 := ⟨M' - 1, by omega⟩
    by_cases hne : ch p = []
    · rw [lineF_none hne, lineF_none hne]
    · rw [lineF_some hne, lineF_some hne]
      have hpos := List.length_pos_iff.2 hne
      have hb := bxG_lt (fun j => behP (ov (nx p (gi (ch p) j).toNat))) _ hpos
      have hm : bxT ch nx ov p ∈ ch p := gi_memGT hb
      obtain ⟨i, _, hi⟩ := hc p _ hp hb
      have hi : bxT ch nx ov p = (i : Int) := hi
      rw [hi] at hm ⊢
      rw [Int.toNat_natCast]
      obtain ⟨g1, g2⟩ := G p i hp hm
      rw [ih (nx p i) g2 (by omega) (by omega) g1 (M' := B)]

set_option maxRecDepth 100000 in
set_option maxHeartbeats 4000000 in
theorem line_any (V : Nat → Option OutP) (hV : ∀ p, good p → V p = some (ov p)) (G : GmT posV good ch nx won ov Lnd b) (p0 : Nat) (hp0 : good p0) (h1000 : p0 ≤ 100000) (w : World) (hL : Lnd w) (hM : Memo w b V) :
    Calls Try.prog 43 #[.map (some b), .iface 70 (posV p0)] w
      (fun e w' => ∃ A c, e = .returned (.slice A (lineF ch nx ov (p0 + 1) p0).length c) ∧ OI w' w.heap.size A (lineF ch nx ov (p0 + 1) p0).length c (lineF ch nx ov (p0 + 1) p0) ∧ w.grownBy w' (some b)) := by
  have HKp := Lib.hid G.keep
  have HCHO := Lib.hid G.cho
  have HAFT := Lib.hid G.aft
  have HNXT := Lib.hid G.nxt
  have HLEN := Lib.hid G.len
  have HMVV := Lib.hid (fun p hp j hj => beh_mvT G p hp j hj)
  have HBEH := Lib.hid (fun p (hp : good p) j (hj : j < (ch p).length) w2 (l : Lnd w2) (m : Memo w2 b V) => behindJT V G p hp j hj w2 l m (fun i hi => by
    obtain ⟨h1, h2⟩ := G.nxt p i hp hi
    exact Lib.hid (fun w3 l3 m3 => ofT_any V hV G _ (nx p i) (Nat.lt_succ_self _) h1 w3 l3 m3)))
  have HCHN := Lib.hid G.chn
  obtain ⟨R, hR⟩ : ∃ R, R = lineF ch nx ov (p0 + 1) p0 := ⟨_, rfl⟩
  rw [← hR]
  have HR := Lib.hid hR
  have hRl : R.length ≤ 100001 := by rw [hR]; have := lineF_len ch nx ov (p0 + 1) p0; omega
  have hbw : b < w.heap.size := hM.lt
  have HLw := Lib.hid hL
  have HM0 := Lib.hid hM
  have HP0 := Lib.hid hp0
  clear hL hM hV G hR hp0
  go_enter Try.func43, Try.ntmps43
  go_wp2_with fail
  refine (HCHO.out p0 _ HP0.out HLw.out).mono ?_
  rintro e w1 ⟨C1, d1, rfl, o1, hb⟩
  have HM1 := memoBelow HM0 hb
  have HG1 := grBelow (grRefl w b) hb
  have HO1 := Lib.hid o1
  clear hb o1 HM0
  go_wp2
  go_loopg [1, 5, 6] (p0 + 1) (fun g s1 s5 s6 wr => ∃ (p : Nat) (out : List Int) (E : Option Addr) (d : Nat) (C : Option Addr) (dc : Nat), g = p + 1 ∧ p ≤ p0 ∧ good p ∧ s1 = .iface 70 (posV p) ∧ s5 = .slice E out.length d ∧ s6 = .slice C (ch p).length dc ∧ R = out ++ lineF ch nx ov (p + 1) p ∧ OI wr w.heap.size E out.length d out ∧ OI wr w.heap.size C (ch p).length dc (ch p) ∧ Memo wr b V ∧ w.grownBy wr (some b))
  case atStart => exact ⟨p0, [], none, 0, C1, d1, rfl, Nat.le_refl _, HP0.out, rfl, rfl, rfl, HR.out, OI.none_ _ _, HO1.out, HM1.out, HG1.out⟩
  case round =>
    obtain ⟨p, out, E, d, C, dc, rfl, hpp, hp, rfl, rfl, rfl, hR, hE, hC, hM, hG⟩ := hrel
    obtain ⟨wo, hwo⟩ : ∃ v : World, v = wr := ⟨_, rfl⟩
    subst hwo
    have HRr := Lib.hid hR; have HEr := Lib.hid hE; have HCr := Lib.hid hC; have HMr := Lib.hid hM; have HGr := Lib.hid hG; have HP := Lib.hid hp
    have hol : out.length ≤ 100001 := by
      have := congrArg List.length hR
      simp at this; omega
    have hbo : b < wo.heap.size := hM.lt
    have hwz : w.heap.size ≤ wo.heap.size := hG.size
    clear hR hE hM hG hp
    by_cases hne : ch p = []
    · have HN := Lib.hid hne
      have hl0 : (ch p).length = 0 := by rw [hne]; rfl
      rw [hl0]
      have HRE : Hid (R = out) := Lib.hid (by rw [HRr.out, lineF_none hne]; simp)
      clear hne hC
      go_wp2
      go_ret
      exact ⟨E, d, by rw [HRE.out]; rfl, by rw [HRE.out]; exact HEr.out, HGr.out⟩
    · have HRS : Hid (R = out ++ bxT ch nx ov p :: lineF ch nx ov p (nx p (bxT ch nx ov p).toNat)) := Lib.hid (by rw [HRr.out, lineF_some hne])
      have hmpos : 0 < (ch p).length := List.length_pos_iff.2 hne
      have hlen := HLEN.out p HP.out
      have HBX : Hid (bxT ch nx ov p = gi (ch p) (bxG (fun j => behP (ov (nx p (gi (ch p) j).toNat))) (ch p).length)) := Lib.hid rfl
      have HBp := Lib.hid (fun j hj w2 l m9 => HBEH.out p HP.out j hj w2 l m9)
      have HMp := Lib.hid (fun j hj => HMVV.out p HP.out j hj)
      obtain ⟨f, hf⟩ : ∃ f : Nat → OutP, f = fun j => behP (ov (nx p (gi (ch p) j).toNat)) := ⟨_, rfl⟩
      have hfj : ∀ j, behP (ov (nx p (gi (ch p) j).toNat)) = f j := fun j => by rw [hf]
      simp only [hfj] at HBp HMp
      rw [← hf] at HBX
      have HMEM : Hid (bxT ch nx ov p ∈ ch p) := Lib.hid (by rw [HBX.out]; exact gi_memGT (bxG_lt f _ hmpos))
      have HCHp := Lib.hid (fun j hj => HCHN.out p j HP.out hj)
      have HLT := Lib.hid (bxG_lt f)
      obtain ⟨v, hv⟩ : ∃ v, v = posV p := ⟨_, rfl⟩
      rw [← hv] at HBp
      rw [← hv]
      have HV := Lib.hid hv
      obtain ⟨L, hLL⟩ : ∃ L, L = ch p := ⟨_, rfl⟩
      rw [← hLL] at HBp HMp hlen hmpos HCr HBX hC HCHp
      rw [← hLL]
      have HLL := Lib.hid hLL
      obtain ⟨m, hm⟩ : ∃ m, m = L.length := ⟨_, rfl⟩
      rw [← hm] at HBp HMp hlen hmpos HCr HBX hC HCHp
      rw [← hm]
      have HMm := Lib.hid hm
      obtain ⟨cb, rfl⟩ : ∃ cb, C = some ⟨cb, 0, none⟩ := by
        rcases hC.form with ⟨_, _, h0⟩ | ⟨g, cur, e, _⟩
        · omega
        · exact ⟨g, e⟩
      have hck0 := cellsGo hC 0 hmpos
      have hmi : (0 : Int) < (m : Int) := by omega
      clear hC hne hf hfj hv hLL hm HRr
      go_wp2
      go_loopw [7, 22] (fun s7 i wr => ∃ k : Nat, k ≤ m ∧ i = .int .i64 (k : Int) ∧ s7 = .int .i64 (gi L (bxG f k)) ∧ OI wr w.heap.size E out.length d out ∧ OI wr w.heap.size (some ⟨cb, 0, none⟩) m dc L ∧ Memo wr b V ∧ w.grownBy wr (some b)) (fun _ i _ => m - (intOf i).toNat)
      case atStart => exact ⟨0, Nat.zero_le _, rfl, rfl, HEr.out, HCr.out, HMr.out, HGr.out⟩
      case round =>
        obtain ⟨k, hk, rfl, rfl, hE, hC, hM, hG⟩ := hrel
        have HE := Lib.hid hE; have HC := Lib.hid hC; have HM := Lib.hid hM; have HG := Lib.hid hG
        clear hE hM hG hck0
        by_cases hlt : k < m
        · have hbk : bxG f k < m := by
            rcases Nat.eq_zero_or_pos k with h0 | h0
            · rw [h0]; exact hmpos
            · have := HLT.out k h0; omega
          have hck := cellsGo hC k hlt
          have hkm : (k : Int) < (m : Int) := by omega
          have HB1 := Lib.hid (fun w2 l m9 => HBp.out k hlt w2 l m9)
          have HB2 := Lib.hid (fun w2 l m9 => HBp.out (bxG f k) hbk w2 l m9)
          have hm1 := HMp.out k hlt
          have hm2 := HMp.out (bxG f k) hbk
          have HY := Lib.hid (fun h => bxG_yes (f := f) (k := k) h)
          have HNo := Lib.hid (fun h => bxG_no (f := f) (k := k) h)
          obtain ⟨y, hy⟩ : ∃ y, y = bxG f k := ⟨_, rfl⟩
          rw [← hy] at HB2 hm2 hbk HY HNo
          rw [← hy]
          obtain ⟨o1, ho1⟩ : ∃ o : OutP, o = f k := ⟨_, rfl⟩
          obtain ⟨o2, ho2⟩ : ∃ o : OutP, o = f y := ⟨_, rfl⟩
          rw [← ho1] at HB1 hm1 HY HNo
          rw [← ho2] at HB2 hm2 HY HNo
          obtain ⟨x1, hx1⟩ : ∃ x, x = gi L k := ⟨_, rfl⟩
          obtain ⟨x2, hx2⟩ : ∃ x, x = gi L y := ⟨_, rfl⟩
          rw [← hx1] at HB1 hck
          rw [← hx2] at HB2
          rw [← hx2]
          have HX1 := Lib.hid hx1
          have HX2 := Lib.hid hx2
          clear hC hy ho1 ho2 hx1 hx2
          go_wp2_with fail
          refine (HB1.out _ (HKp.out _ _ HLw.out HG.out) HM.out).mono ?_
          rintro e w4 ⟨rfl, hm4, hg4⟩
          replace HM := Lib.hid hm4
          replace HE := oiGr HE hg4 hbw
          replace HC := oiGr HC hg4 hbw
          replace HG := grTrans HG hg4
          clear hm4 hg4 hck HB1
          go_wp2_with fail
          refine (HB2.out _ (HKp.out _ _ HLw.out HG.out) HM.out).mono ?_
          rintro e w5 ⟨rfl, hm4, hg4⟩
          replace HM := Lib.hid hm4
          replace HE := oiGr HE hg4 hbw
          replace HC := oiGr HC hg4 hbw
          replace HG := grTrans HG hg4
          clear hm4 hg4 HB2
          go_wp2_with fail
          refine (isBetter_any o1 o2 _ hm1 hm2).mono ?_
          obtain ⟨c, hc⟩ : ∃ c, c = betB o1 o2 := ⟨_, rfl⟩
          rw [← hc]
          have HCC := Lib.hid hc.symm
          rintro e w6 ⟨rfl, hb⟩
          replace HM := memoBelow HM hb
          replace HE := oiStepG HE hb
          replace HC := oiStepG HC hb
          replace HG := grBelow HG hb
          clear hb hc
          cases c
          · have HSt := Lib.hid (HNo.out HCC.out)
            go_wp2
            go_roundw
            case rel => exact ⟨k + 1, by omega, by go_num, by rw [HSt.out, ← HX2.out], HE.out, HC.out, HM.out, HG.out⟩
            case measure => simp [intOf]; omega
          · have HSt := Lib.hid (HY.out HCC.out)
            go_wp2
            go_roundw
            case rel => exact ⟨k + 1, by omega, by go_num, by rw [HSt.out, ← HX1.out], HE.out, HC.out, HM.out, HG.out⟩
            case measure => simp [intOf]; omega
        · obtain rfl : k = m := by omega
          clear hC
          obtain ⟨i, hi1000, hgi⟩ := HCHp.out (bxG f k) (HLT.out k hmpos)
          have HBT : Hid (bxT ch nx ov p = (i : Int)) := Lib.hid (HBX.out.trans hgi)
          have HMi : Hid ((i : Int) ∈ ch p) := Lib.hid (by have := HMEM.out; rwa [HBT.out] at this)
          obtain ⟨hgn, hnl⟩ := HNXT.out p i HP.out HMi.out
          have HGN := Lib.hid hgn
          rw [hgi]
          have HAF := Lib.hid (fun w2 l => HAFT.out p i w2 HP.out HMi.out l)
          rw [← HV.out] at HAF
          have HCN := Lib.hid (fun w2 l => HCHO.out (nx p i) w2 HGN.out l)
          clear hgi hgn
          go_wp2_with (at_builtin; refine wpList_append_int _ rfl _ _ rfl w.heap.size E out.length d out (i : Int) _ rfl rfl (HE.out.alloc _) (by simp) (by omega) (by have := HG.out.size; simp; omega) ?_; intro E5 d5 w5 ho5 hg5)
          have hEb := fun y (hy : blk E = some y) => (HE.out.blk y hy).1
          have HM5 := memoOther (memoAlloc HM _) hg5 (fun y hy => by have := hEb y hy; omega)
          have HG5 := grOther (grAlloc HG _) hg5 (fun y hy => by have := hEb y hy; omega)
          have HE5 := Lib.hid ho5
          clear hg5 ho5 hEb HC HE HM HG
          refine (HAF.out _ (HKp.out _ _ HLw.out HG5.out)).mono ?_
          rintro e w6 ⟨rfl, hb⟩
          have HM6 := memoBelow HM5 hb
          have HG6 := grBelow HG5 hb
          have HE6 := oiStepG HE5 hb
          clear hb HM5 HG5 HE5 HAF
          go_wp2_with fail
          refine (HCN.out _ (HKp.out _ _ HLw.out HG6.out)).mono ?_
          rintro e w7 ⟨C7, d7, rfl, o7, hb⟩
          have HM7 := memoBelow HM6 hb
          have HG7 := grBelow HG6 hb
          have HE7 := oiStepG HE6 hb
          have HC7 : Hid (OI w7 w.heap.size C7 (ch (nx p i)).length d7 (ch (nx p i))) := Lib.hid (o7.mono HG6.out.size)
          clear hb o7 HM6 HG6 HE6 HCN
          go_wp2
          go_roundg (nx p i + 1)
          case rel =>
            have e1 : out ++ [(i : Int)] ++ lineF ch nx ov (nx p i + 1) (nx p i) = R := by
              rw [HRS.out, HBT.out, Int.toNat_natCast, lineF_enough (ov := ov) HNXT.out HCHN.out (M := p) (M' := nx p i + 1) hnl (Nat.lt_succ_self _) HGN.out]
              simp
            exact ⟨nx p i, out ++ [(i : Int)], E5, d5, C7, d7, rfl, by omega, HGN.out, rfl, by simp, rfl, e1.symm, by simpa using HE7.out, HC7.out, HM7.out, HG7.out⟩
          case measure => omega
end
end Go.Proofs.Ytiapbmgpjloafaa
