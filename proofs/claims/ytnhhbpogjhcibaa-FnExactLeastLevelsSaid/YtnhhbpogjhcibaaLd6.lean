/- CountDepths, of the model: how many of some numbers are 0, 1, and so on. -/
import Derived.Test.YtnhhbpogjhcibaaLd5
namespace Go.Proofs.Ytnhhbpogjhcibaa
open Go Go.RowKit

/-- one more than the greatest -/
def mxS : List Nat → Nat
  | [] => 0
  | x :: vs => max (x + 1) (mxS vs)
theorem mxS_le {vs : List Nat} {m : Nat} : mxS vs ≤ m ↔ ∀ x ∈ vs, x < m := by
  induction vs with
  | nil => simp [mxS]
  | cons x vs ih =>
    simp only [mxS, List.mem_cons, forall_eq_or_imp]
    rw [← ih]
    omega
theorem mxS_perm {a b : List Nat} (h : a.Perm b) : mxS a = mxS b := by
  apply Nat.le_antisymm
  · exact mxS_le.2 fun x hx => (mxS_le.1 (Nat.le_refl _)) x (h.mem_iff.1 hx)
  · exact mxS_le.2 fun x hx => (mxS_le.1 (Nat.le_refl _)) x (h.mem_iff.2 hx)
theorem mxS_snoc (vs : List Nat) (x : Nat) : mxS (vs ++ [x]) = max (mxS vs) (x + 1) := by
  rw [mxS_perm (List.perm_append_comm : (vs ++ [x]).Perm ([x] ++ vs))]
  show max (x + 1) (mxS vs) = _
  omega
/-- how many are 0, 1, .. -/
def cdL (vs : List Nat) : List Int := (List.range (mxS vs)).map fun d => (vs.count d : Int)
theorem cdL_len (vs : List Nat) : (cdL vs).length = mxS vs := by simp [cdL]
theorem gi_cdL {vs : List Nat} {d : Nat} (h : d < mxS vs) : gi (cdL vs) d = (vs.count d : Int) := by
  rw [gi_lt (by rw [cdL_len]; exact h)]; simp [cdL]
theorem cdL_perm {a b : List Nat} (h : a.Perm b) : cdL a = cdL b := by
  unfold cdL
  rw [mxS_perm h]
  congr 1
  funext d
  rw [h.count_eq]
theorem count_none {vs : List Nat} {d : Nat} (h : mxS vs ≤ d) : vs.count d = 0 := by
  rw [List.count_eq_zero]
  intro hm
  have := (mxS_le.1 h) d hm
  omega
/-- .. with noughts behind it, up to a length -/
def padL (vs : List Nat) (k : Nat) : List Int := cdL vs ++ List.replicate (k - mxS vs) 0
theorem padL_len (vs : List Nat) (k : Nat) : (padL vs k).length = max (mxS vs) k := by unfold padL; rw [List.length_append, cdL_len, List.length_replicate]; omega
theorem padL_self {vs : List Nat} {k : Nat} (h : k ≤ mxS vs) : padL vs k = cdL vs := by unfold padL; rw [show k - mxS vs = 0 by omega]; simp
theorem padL_succ {vs : List Nat} {k : Nat} (h : mxS vs ≤ k) : padL vs (k + 1) = padL vs k ++ [0] := by
  unfold padL
  rw [show k + 1 - mxS vs = (k - mxS vs) + 1 by omega, List.replicate_succ', List.append_assoc]
theorem gi_padL (vs : List Nat) (k : Nat) {d : Nat} (h : d < max (mxS vs) k) : gi (padL vs k) d = (vs.count d : Int) := by
  by_cases hd : d < mxS vs
  · rw [← gi_cdL hd]
    unfold padL
    rw [gi_lt (by rw [List.length_append, cdL_len]; omega), gi_lt (by rw [cdL_len]; exact hd), List.getElem_append_left]
  · rw [count_none (by omega)]
    unfold padL
    rw [gi_lt (by rw [List.length_append, cdL_len, List.length_replicate]; omega), List.getElem_append_right (by rw [cdL_len]; omega)]
    simp
theorem cdL_step (vs : List Nat) (x : Nat) : cdL (vs ++ [x]) = (padL vs (x + 1)).set x ((vs.count x : Int) + 1) := by
  refine gi_ext (by rw [cdL_len, List.length_set, padL_len, mxS_snoc]) fun d hd => ?_
  rw [cdL_len, mxS_snoc] at hd
  rw [gi_cdL (by rw [mxS_snoc]; exact hd), List.count_append]
  by_cases e : d = x
  · subst e
    rw [gi_lt (by rw [List.length_set, padL_len]; exact hd), List.getElem_set_self]
    simp
  · rw [gi_lt (by rw [List.length_set, padL_len]; exact hd), List.getElem_set_ne (by omega), ← gi_lt (by rw [padL_len]; exact hd), gi_padL vs (x + 1) hd]
    have : List.count d [x] = 0 := by rw [List.count_eq_zero]; simp [e]
    rw [this]
    simp
theorem count_le_len (vs : List Nat) (x : Nat) : vs.count x ≤ vs.length := List.count_le_length
noncomputable def dpL (n : Nat) : List Nat := (ordsK n n).map (dep n)
theorem dpL_len (n : Nat) : (dpL n).length = (ordsK n n).length := by simp [dpL]
theorem gi_far_dp {n k : Nat} (h : k < (dpL n).length) : gi (farL n) k = (((dpL n)[k] : Nat) : Int) := by
  rw [dpL_len] at h
  rw [gi_farL h]
  simp [dpL, gz, List.getD, h]
noncomputable def cdpL (x : Int) : List Int := if inB x 2 6 = true then cdL (dpL x.toNat) else []
theorem cdpL_yes {x : Int} (h : inB x 2 6 = true) : cdpL x = cdL (dpL x.toNat) := by unfold cdpL; rw [if_pos h]
theorem cdpL_no {x : Int} (h : inB x 2 6 = false) : cdpL x = [] := by unfold cdpL; rw [h]; rfl
theorem mxS_dp {n : Nat} (h2 : 2 ≤ n) (h6 : n ≤ 6) : mxS (dpL n) ≤ 1000 := mxS_le.2 fun x hx => by
  obtain ⟨p, hp, rfl⟩ := List.mem_map.1 hx
  have hok := ((ordsK_all (by omega) (by omega)).mem p).1 hp
  have h1 := dep_few h2 h6 hok
  have h3 := ninv_six (zs := p) (by rw [hok.2]; exact h6)
  omega
theorem cdpL_len (x : Int) : (cdpL x).length ≤ 1000 := by
  rcases h : inB x 2 6 with _ | _
  · rw [cdpL_no h]; simp
  · rw [cdpL_yes h, cdL_len]
    have := inB_iff.1 h
    exact mxS_dp (by omega) (by omega)
theorem mxS_take (vs : List Nat) (k : Nat) : mxS (vs.take k) ≤ mxS vs := mxS_le.2 fun x hx => (mxS_le.1 (Nat.le_refl _)) x (List.mem_of_mem_take hx)

set_option maxRecDepth 100000 in
set_option maxHeartbeats 2000000 in
theorem sCountDepths_any (x : Int) (w : World) : Calls Try.prog 38 #[.int .i64 x] w (FreshIB w (cdpL x).length (cdpL x) (inB x 2 6)) := by
  rcases hq : inB x 2 6 with _ | _
  · have HW := Lib.hid hq
    rw [cdpL_no hq]
    clear hq
    go_enter Try.func38, Try.ntmps38
    go_wp2_with fail
    refine (l1In_any x 2 6 _).mono ?_
    rw [HW.out]
    rintro e w1 ⟨rfl, rfl⟩
    go_wp2
    go_ret2
    exact ⟨none, 0, rfl, OI.none_ _ _, Below.refl _ _⟩
  · have HW := Lib.hid hq
    have hx := inB_iff.1 hq
    rw [cdpL_yes hq, cdL_len]
    obtain ⟨n, rfl⟩ : ∃ n : Nat, x = (n : Int) := ⟨x.toNat, by omega⟩
    rw [Int.toNat_natCast]
    have h2 : 2 ≤ n := by omega
    have h6 : n ≤ 6 := by omega
    have HF := Lib.hid (fun w2 => lvFar_any n w2 h2 h6)
    have hMX := mxS_dp h2 h6
    have hN := (ords_len6 h2 h6).1
    have HGD := Lib.hid (fun k (h : k < (dpL n).length) => gi_far_dp h)
    have hdl := dpL_len n
    obtain ⟨F, hFF⟩ : ∃ F, F = farL n := ⟨_, rfl⟩
    obtain ⟨vs, hvs⟩ : ∃ vs, vs = dpL n := ⟨_, rfl⟩
    obtain ⟨N, hNN⟩ : ∃ N, N = (ordsK n n).length := ⟨_, rfl⟩
    rw [← hNN] at HF hN hdl
    rw [← hFF] at HF HGD
    rw [← hvs] at hMX HGD hdl ⊢
    have HDL := Lib.hid hdl
    have HMX := Lib.hid hMX
    clear hq hFF hvs hNN hdl hMX
    go_enter Try.func38, Try.ntmps38
    go_wp2_with fail
    refine (l1In_any (n : Int) 2 6 _).mono ?_
    rw [HW.out]
    rintro e w1 ⟨rfl, rfl⟩
    go_wp2_with fail
    refine (HF.out _).mono ?_
    rintro e w2 ⟨A2, c2, rfl, hf, hb⟩
    have HFR := Lib.hid (RB.of_ri hf)
    have HB2 := Lib.hid hb
    obtain ⟨K, hK⟩ : ∃ K, K = w2.heap.size := ⟨_, rfl⟩
    rw [← hK] at HFR
    have HK := Lib.hid hK
    clear hb hf hK
    go_wp2
    go_loopw [4, 6, 13] (fun s4 _ i wr => ∃ (k : Nat) (A : Option Addr) (c : Nat) (us : List Nat), k ≤ N ∧ i = .int .i64 (k : Int) ∧ us = vs.take k ∧ s4 = .slice A (mxS us) c ∧ OI wr K A (mxS us) c (cdL us) ∧ RB wr K A2 N F ∧ Below K w2 wr) (fun _ _ i _ => N - (intOf i).toNat)
    case atStart => exact ⟨0, none, 0, [], Nat.zero_le _, by go_num, rfl, rfl, OI.none_ _ _, HFR.out, Below.refl _ _⟩
    case round =>
      obtain ⟨k, A, c, us, hk, rfl, hus, rfl, ho, hf, hb⟩ := hrel
      have HO := Lib.hid ho
      have HF2 := Lib.hid hf
      have HBr := Lib.hid hb
      have HUS := Lib.hid hus
      clear ho hb hus
      by_cases hlt : k < N
      · obtain ⟨b, off, rfl, hbk, hc⟩ := hf.2.2 (by omega)
        have hck := hc k hlt
        have hkv : k < vs.length := by have := HDL.out; omega
        rw [HGD.out k hkv] at hck
        have hbw : b < wr.heap.size := Nat.lt_of_lt_of_le hbk hf.2.1
        obtain ⟨y, hy⟩ : ∃ y, y = vs[k] := ⟨_, rfl⟩
        rw [← hy] at hck
        have hy1000 : y < 1000 := Nat.lt_of_lt_of_le ((mxS_le.1 (Nat.le_refl _)) y (by rw [hy]; exact List.getElem_mem _)) HMX.out
        have HTK : Hid (vs.take (k + 1) = us ++ [y]) := Lib.hid (by rw [HUS.out, hy, List.take_succ_eq_append_getElem hkv])
        have hcnt : us.count y ≤ 1000 := by have h1 := count_le_len us y; rw [HUS.out, List.length_take] at h1; rw [HUS.out]; omega
        have hmx : mxS us ≤ 1000 := by rw [HUS.out]; exact Nat.le_trans (mxS_take vs k) HMX.out
        obtain ⟨wo, hwo⟩ : ∃ v : World, v = wr := ⟨_, rfl⟩
        subst hwo
        clear hf hc hy
        go_wp2
        go_loopw [4] (fun s4 wi => ∃ (m : Nat) (A : Option Addr) (c : Nat) (zs : List Int), m ≤ y + 1 ∧ zs = padL us m ∧ s4 = .slice A zs.length c ∧ OI wi K A zs.length c zs ∧ RB wi K (some ⟨b, off, none⟩) N F ∧ Below K w2 wi) (fun s4 _ => y + 1 - (match s4 with | .slice _ l _ => l | _ => 0))
        case atStart => exact ⟨0, A, c, padL us 0, Nat.zero_le _, rfl, by rw [padL_self (Nat.zero_le _), cdL_len], by rw [padL_self (Nat.zero_le _), cdL_len]; exact HO.out, HF2.out, HBr.out⟩
        case round =>
          obtain ⟨m, A, c, zs, hm, hzs, rfl, ho, hf, hb⟩ := hrel
          have HO3 := Lib.hid ho
          have HF3 := Lib.hid hf
          have HB3 := Lib.hid hb
          have HZS := Lib.hid hzs
          have hzl : zs.length = max (mxS us) m := by rw [hzs, padL_len]
          have hKw : K ≤ wr.heap.size := hf.2.1
          clear ho hb hf hzs
          by_cases hle : zs.length ≤ y
          · have i1 : (zs.length : Int) ≤ (y : Int) := by omega
            have HMM : Hid (zs = padL us (max (mxS us) m)) := Lib.hid (by
              rw [HZS.out]
              rcases Nat.le_total (mxS us) m with h | h
              · rw [Nat.max_eq_right h]
              · rw [Nat.max_eq_left h, padL_self h, padL_self (Nat.le_refl _)])
            have HNX : Hid (padL us (max (mxS us) m + 1) = zs ++ [0]) := Lib.hid (by rw [padL_succ (Nat.le_max_left _ _), ← HMM.out])
            have hmm : max (mxS us) m ≤ y := by omega
            have hzy : zs.length ≤ y := hle
            clear hm hzl
            go_wp2_with (at_builtin; refine wpList_append_int _ rfl _ _ rfl K A zs.length c zs 0 wr.heap.size rfl rfl (HO3.out.alloc _) (by simp) (by omega) (by simp; omega) ?_; intro A4 c4 w4 ho4 hg4; have HO4 := Lib.hid ho4; have hbm := ofMark (HO3.out.alloc _) hg4 (Nat.le_refl _) (by simp; omega); have HF4 := Lib.hid ((HF3.out.step ((Below.refl _ _).alloc hKw _)).step hbm); have HB4 := Lib.hid ((HB3.out.alloc hKw _).trans hbm); clear ho4 hg4 hbm)
            go_roundw
            case rel => exact ⟨max (mxS us) m + 1, A4, c4, zs ++ [0], by omega, HNX.out.symm, by simp, by simpa using HO4.out, HF4.out, HB4.out⟩
            case measure => simp; omega
          · have i1 : ¬ (zs.length : Int) ≤ (y : Int) := by omega
            have hym : y < zs.length := by omega
            have HPY : Hid (zs = padL us (y + 1)) := Lib.hid (by
              rw [HZS.out]
              rcases Nat.le_total (mxS us) m with h | h
              · rw [show m = y + 1 by rw [hzl, Nat.max_eq_right h] at hym; omega]
              · rw [hzl, Nat.max_eq_left h] at hym
                rw [padL_self h, padL_self hym])
            obtain ⟨gA, rfl, hgB, hgW⟩ : ∃ gA, A = some ⟨gA, 0, none⟩ ∧ K ≤ gA ∧ gA < wr.heap.size := by
              rcases HO3.out.form with ⟨_, _, h0⟩ | ⟨g, cur, h1, h3, h4, _⟩
              · omega
              · exact ⟨g, h1, h3, h4⟩
            have d0 := HO3.out.cells y hym
            have df : wr.frozen? ⟨gA, y, none⟩ = false := HO3.out.2.frozenAt y
            have hgi : gi zs y = (us.count y : Int) := by rw [HPY.out]; exact gi_padL us (y + 1) (by omega)
            rw [hgi] at d0
            have y0 : (0 : Int) ≤ (y : Int) := by omega
            have y1 : (y : Int) < (zs.length : Int) := by omega
            obtain ⟨cn, hcn⟩ : ∃ cn, cn = us.count y := ⟨_, rfl⟩
            rw [← hcn] at d0 hcnt
            have HCN := Lib.hid hcn
            have HST : Hid (cdL (us ++ [y]) = zs.set y ((cn : Int) + 1)) := Lib.hid (by rw [cdL_step, ← HPY.out, HCN.out])
            have hlen2 : mxS (us ++ [y]) = zs.length := by rw [← cdL_len, HST.out, List.length_set]
            have HL2 := Lib.hid hlen2
            clear hgi hcn hlen2 hzl hm
            go_wp2
            go_roundw
            case rel => exact ⟨k + 1, _, c, us ++ [y], by omega, by go_num, HTK.out.symm, by rw [HL2.out], by rw [HL2.out, HST.out]; exact HO3.out.stored y _, HF3.out.step ((Below.refl _ _).setCell hgB _), HB3.out.setCell hgB _⟩
            case measure => simp [intOf]; omega
      · obtain rfl : k = N := by omega
        obtain rfl : us = vs := by rw [HUS.out, List.take_of_length_le (by rw [HDL.out]; exact Nat.le_refl _)]
        clear hf
        go_wp2
        go_ret2
        exact ⟨A, c, rfl, HO.out.mono (by rw [HK.out]; exact HB2.out.size), HB2.out.trans (HBr.out.mono (by rw [HK.out]; exact HB2.out.size))⟩
end Go.Proofs.Ytnhhbpogjhcibaa
