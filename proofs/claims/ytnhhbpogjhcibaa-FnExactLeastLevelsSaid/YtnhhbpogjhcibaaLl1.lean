/- LeastLevels, of the model. -/
import Derived.Test.YtnhhbpogjhcibaaLl0
namespace Go.Proofs.Ytnhhbpogjhcibaa
open Go Go.RowKit

set_option maxRecDepth 100000 in
set_option maxHeartbeats 4000000 in
theorem sLeastLevels_any (A : Option Addr) (n c : Nat) (p : List Int) (w : World) (h : RI w A n p) (hn : n ≤ 1048576) (hnc : n ≤ c) :
    Calls Try.prog 35 #[.slice A n c] w (FreshSSB w (levL p) (mdB p)) := by
  have hl := h.1
  have HM := Lib.hid (lvMade_any A n c p w h hn hnc)
  have HP := Lib.hid h
  rcases hq : mdB p with _ | _
  · rw [levL_no hq]
    rw [hq] at HM
    clear hq h hl
    go_enter Try.func35, Try.ntmps35
    go_wp2_with fail
    refine HM.out.mono ?_
    rintro e w1 ⟨rfl, hb⟩
    go_wp2
    go_ret2
    exact ⟨none, 0, _, [], rfl, OII.none_ _ _, hb⟩
  · rw [levL_yes hq, hl]
    rw [hq] at HM
    have hm := mdB_iff.1 hq
    have hok : OKp n p := ⟨hm.1, hl⟩
    have h2 : 2 ≤ n := by omega
    have h6 : n ≤ 6 := by omega
    have HF := Lib.hid (fun w2 => lvFar_any n w2 h2 h6)
    have HLV := Lib.hid (fun w2 => lvAll_any n (by omega) n 0 (by omega) (by omega) (by omega) w2)
    have HGF := Lib.hid (fun q (hq : OKp n q) => (gz_rk6 h2 h6 hq))
    have HGI := Lib.hid (fun q (hq : OKp n q) => show gi (farL n) (rk q) = (dep n q : Int) by
      have h3 := gz_rk6 h2 h6 hq
      rw [gi_farL h3.1, h3.2])
    have hN := (ords_len6 h2 h6).1
    have hLl := LV_len n h6
    have hd15 : dep n p ≤ 15 := Nat.le_trans (dep_few h2 h6 hok) (ninv_six (by rw [hl]; exact h6))
    obtain ⟨N, hNN⟩ : ∃ N, N = (ordsK n n).length := ⟨_, rfl⟩
    rw [← hNN] at HF HGF hN
    obtain ⟨F, hFF⟩ : ∃ F, F = farL n := ⟨_, rfl⟩
    rw [← hFF] at HF HGI
    have HOK := Lib.hid hok
    have hrk := (HGF.out p hok).1
    have hgp := HGI.out p hok
    obtain ⟨r0, hr0⟩ : ∃ r, r = rk p := ⟨_, rfl⟩
    have HR0 := Lib.hid hr0
    rw [← hr0] at hrk hgp
    obtain ⟨D0, hD0⟩ : ∃ d, d = dep n p := ⟨_, rfl⟩
    have HD0 := Lib.hid hD0
    rw [← hD0] at hgp hd15 ⊢
    obtain ⟨L0, hL0⟩ : ∃ L, L = llL n D0 p := ⟨_, rfl⟩
    have HL0 := Lib.hid hL0
    have hL0l : L0.length = D0 := by rw [hL0, llL_len]
    rw [← hL0]
    have r00 : (0 : Int) ≤ (r0 : Int) := by omega
    have r01 : (r0 : Int) < (N : Int) := by omega
    clear hq h hl hm hok hNN hFF hr0 hD0 hL0
    go_enter Try.func35, Try.ntmps35
    go_wp2_with fail
    refine HM.out.mono ?_
    rintro e w1 ⟨rfl, hb⟩
    have HP1 := Lib.hid (HP.out.below hb (Nat.le_refl _))
    have HB1 := Lib.hid hb
    clear hb
    go_wp2_with fail
    refine (HF.out _).mono ?_
    rintro e w2 ⟨A2, c2, rfl, hf, hb⟩
    have HP2 := Lib.hid (HP1.out.below hb (Nat.le_refl _))
    have HB2 := Lib.hid (HB1.out.trans (hb.mono HB1.out.size))
    have HFR := Lib.hid (RB.of_ri hf)
    obtain ⟨b, off, rfl, hbw, hc⟩ := hf.cell hrk
    have hcr := hc r0 hrk
    rw [hgp] at hcr
    obtain ⟨K, hK⟩ : ∃ K, K = w2.heap.size := ⟨_, rfl⟩
    rw [← hK] at HFR
    have HWK : Hid (w.heap.size ≤ K) := Lib.hid (by rw [hK]; exact HB2.out.size)
    have HKK := Lib.hid hK
    clear hb hf hc hK
    go_wp2_with fail
    refine (alRank_any A n c p _ HP2.out h6 hnc).mono ?_
    rintro e w3 ⟨rfl, rfl⟩
    rw [← HR0.out]
    go_wp2
    go_loopw [0, 5, 6] (fun s0 s5 s6 wr => ∃ (m : Nat) (q : List Int) (A' : Option Addr) (c' : Nat) (Lo : List (List Int)) (Ao : Option Addr) (co Mo : Nat) (So : List Sl), s6 = .int .i64 (m : Int) ∧ m ≤ 15 ∧ s0 = .slice A' n c' ∧ RI wr A' n q ∧ n ≤ c' ∧ OKp n q ∧ dep n q = m ∧ Lo ++ llL n m q = L0 ∧ s5 = .slice Ao Lo.length co ∧ OII wr K Mo Ao Lo.length co Lo So ∧ RB wr K (some ⟨b, off, none⟩) N F ∧ Below w.heap.size w wr) (fun _ _ s6 _ => (intOf s6).toNat)
    case atStart => exact ⟨D0, p, A, c, [], none, 0, _, [], rfl, hd15, rfl, HP2.out, hnc, HOK.out, HD0.out.symm, HL0.out.symm, rfl, OII.none_ _ _, HFR.out, HB2.out⟩
    case round =>
      obtain ⟨m, q, A', c', Lo, Ao, co, Mo, So, rfl, hm15, rfl, hA, hc', hok, hd, hLo, rfl, ho, hf, hb⟩ := hrel
      have HA := Lib.hid hA
      have HOKq := Lib.hid hok
      have HD := Lib.hid hd
      have HLO := Lib.hid hLo
      have HO := Lib.hid ho
      have HFr := Lib.hid hf
      have HBr := Lib.hid hb
      have hLol : Lo.length ≤ 15 := by
        have := congrArg List.length hLo
        rw [List.length_append, hL0l] at this
        omega
      clear hA hok hd hLo ho hf hb
      rcases m with _ | m
      · have e : Lo = L0 := by have := HLO.out; simpa [llL] using this
        subst e
        go_wp2
        go_ret2
        exact ⟨Ao, co, Mo, So, rfl, HO.out.mono HWK.out, HBr.out⟩
      · obtain ⟨wo, hwo⟩ : ∃ v : World, v = wr := ⟨_, rfl⟩
        subst hwo
        have m0 : (0 : Int) < ((m + 1 : Nat) : Int) := by omega
        have hNX := ll_next h2 h6 HOKq.out HD.out
        have HNX := Lib.hid hNX
        clear hNX
        go_wp2_with fail
        refine (HLV.out _).mono ?_
        rintro e w4 ⟨AL, cL, ML, SL, rfl, oL, hb4⟩
        have HLB := Lib.hid oL.blkLtC
        have hlvn : LV n = lvK n n 0 := rfl
        rw [← hlvn] at oL ⊢
        have HA4 := Lib.hid (HA.out.below hb4 (Nat.le_refl _))
        have HO4 := Lib.hid (HO.out.below hb4).top
        have HF4 := Lib.hid (HFr.out.step (hb4.mono HFr.out.2.1))
        have HB4 := Lib.hid (HBr.out.trans (hb4.mono HBr.out.size))
        have HOB : Hid (∀ b, blk Ao = some b → b < wo.heap.size) := Lib.hid HO.out.blkLtC
        have HOM : Hid (Mo ≤ wo.heap.size) := Lib.hid HO.out.le
        have HKKL : Hid (K ≤ wo.heap.size) := Lib.hid HFr.out.2.1
        have HO4' := Lib.hid (HO.out.below hb4)
        obtain ⟨KL, hKL⟩ : ∃ K, K = wo.heap.size := ⟨_, rfl⟩
        rw [← hKL] at oL HOB HOM HKKL
        have HL4 := Lib.hid oL
        have HKL : Hid (KL ≤ w4.heap.size) := Lib.hid (by rw [hKL]; exact hb4.size)
        clear oL hb4 hlvn hKL HO4
        go_wp2
        go_loopw [0, 5, 8, 9, 29] (fun s0 s5 _ _ s29 wi => ∃ j : Nat, s29 = .int .i64 (j : Int) ∧ j ≤ fstI n q ∧ s0 = .slice A' n c' ∧ s5 = .slice Ao Lo.length co ∧ RI wi A' n q ∧ OII wi K Mo Ao Lo.length co Lo So ∧ OII wi KL ML AL (LV n).length cL (LV n) SL ∧ RB wi K (some ⟨b, off, none⟩) N F ∧ KL ≤ wi.heap.size ∧ Below w.heap.size w wi) (fun _ _ _ _ s29 _ => (LV n).length - (intOf s29).toNat)
        case atStart => exact ⟨0, by go_num, Nat.zero_le _, rfl, rfl, HA4.out, HO4'.out, HL4.out, HF4.out, HKL.out, HB4.out⟩
        case round =>
          obtain ⟨j, rfl, hj, rfl, rfl, hA, ho, hL, hf, hkl, hb⟩ := hrel
          have HA5 := Lib.hid hA
          have HO5 := Lib.hid ho
          have HL5 := Lib.hid hL
          have HF5 := Lib.hid hf
          have HK5 := Lib.hid hkl
          have HB5 := Lib.hid hb
          have HJ := Lib.hid hj
          have hjl : j < (LV n).length := Nat.lt_of_le_of_lt hj HNX.out.1
          obtain ⟨gl, la, lm, ld, rfl, hgl, hglB, hSj, hcl, hol⟩ := hL.row hjl
          have hlmem : gz (LV n) j ∈ LV n := mem_gz.2 ⟨j, hjl, rfl⟩
          have hlm : lm ≤ 1048576 := by rw [← hol.1]; have := lvK_row n n 0 _ hlmem; omega
          have HOL := Lib.hid hol
          have HLI := Lib.hid hol.ri
          have HIS := Lib.hid (ll_is h2 h6 HOKq.out HD.out hj)
          have hxo : OKp n (top q (gz (LV n) j)) := top_ok _ HOKq.out (LV_mem hlmem)
          obtain ⟨hrx, _⟩ := HGF.out _ hxo
          have hgx := HGI.out _ hxo
          have HXO := Lib.hid hxo
          have HTOP := Lib.hid (lvTop_own A' n c' q la lm ld (gz (LV n) j) wr hA hc' (by omega) hol.ri hlm (LV_mem hlmem))
          have j0 : (0 : Int) ≤ (j : Int) := by omega
          have j1 : (j : Int) < ((LV n).length : Int) := by omega
          clear hA ho hL hf hkl hb hj hol hlmem hxo
          go_wp2_with fail
          refine HTOP.out.mono ?_
          rintro e w5 ⟨A5, c5, rfl, r5, hc5, hb5, ho5⟩
          have HR5 := Lib.hid r5
          have HOO5 := Lib.hid ho5
          have HO6 := Lib.hid (HO5.out.below hb5)
          have HL6 := Lib.hid (HL5.out.below hb5)
          have HA6 := Lib.hid (HA5.out.below hb5 (Nat.le_refl _))
          have HF6 := Lib.hid (HF5.out.step (hb5.mono HF5.out.2.1))
          have HK6 : Hid (KL ≤ w5.heap.size) := Lib.hid (Nat.le_trans HK5.out hb5.size)
          have HB6 := Lib.hid (HB5.out.trans (hb5.mono HB5.out.size))
          have HWR : Hid (KL ≤ wr.heap.size) := HK5
          clear r5 ho5 hb5
          go_wp2_with fail
          refine (alRank_any A5 n c5 (top q (gz (LV n) j)) _ HR5.out h6 hc5).mono ?_
          rintro e w6 ⟨rfl, rfl⟩
          obtain ⟨rx, hrxd⟩ : ∃ r, r = rk (top q (gz (LV n) j)) := ⟨_, rfl⟩
          rw [← hrxd] at hrx hgx ⊢
          obtain ⟨dx, hdx⟩ : ∃ d, d = dep n (top q (gz (LV n) j)) := ⟨_, rfl⟩
          rw [← hdx] at hgx HIS
          obtain ⟨b', off', e', hbw', hc'⟩ := HF6.out.2.2 (by omega)
          injection e' with e'; injection e' with e1 e2 _
          subst e1 e2
          have hcx := hc' rx hrx
          rw [hgx] at hcx
          have x0 : (0 : Int) ≤ (rx : Int) := by omega
          have x1 : (rx : Int) < (N : Int) := by omega
          have hbw6 : b < w6.heap.size := Nat.lt_of_lt_of_le hbw' HF6.out.2.1
          have HDX := Lib.hid hdx
          clear hrxd hgx hc' hdx
          by_cases hhit : dx = m
          · have hjf : j = fstI n q := HIS.out.1 hhit
            have HJF := Lib.hid hjf
            have HH := Lib.hid hhit
            have hcond : (dx : Int) = ((m + 1 : Nat) : Int) - 1 := by omega
            have hcond2 : (dx : Int) = (m : Int) := by omega
            have hne : gz (LV n) j ≠ [] := by rw [hjf]; exact HNX.out.2.2.2
            have hlm0 : 0 < lm := by
              have h3 := HOL.out.1
              rcases Nat.eq_zero_or_pos lm with h0 | h0
              · rw [h0] at h3; exact absurd (List.length_eq_zero_iff.1 h3) hne
              · exact h0
            have HOW := Lib.hid (HOO5.out hlm0)
            clear hjf hhit hne
            rw [HH.out] at hcx
            have HIN := Lib.hid (HL6.out.inn j _ hSj)
            have hKKL := HKKL.out
            have hK6 := HK6.out
            go_wp2_with (at_builtin; refine wpList_append_slA _ rfl _ _ rfl K KL Ao Lo.length co Lo So la lm ld (gz (LV n) j) _ rfl rfl ((HO6.out.atMost HOM.out HK6.out).alloc _) (HIN.out.alloc _) hKKL (cellNewAt _ _ _ rfl) (by omega) (by simp; omega) ?_; intro A8 c8 w8 ho8 hg8 hat8; have HO8 := Lib.hid ho8.top; have HA8 := Lib.hid (((HOW.out.alloc _).kept hg8 (fun x hx e => by have h1 := ((HOW.out.alloc (.cells #[.slice la lm ld] 22)).blk x hx).1; have h3 := HOB.out x e; have h4 := HWR.out; omega)).ri); have HB8 := Lib.hid ((HB6.out.alloc HB6.out.size _).grown hg8 (by have := HB6.out.size; simp; omega) (fun x hx => by have h1 := (HO6.out.blkB x hx); have := HWK.out; omega)); have HF8 := Lib.hid ((HF6.out.step ((Below.refl _ _).alloc HF6.out.2.1 _)).step (Below.of_grown hg8 (fun x hx => HO6.out.blkB x hx) (by have := HF6.out.2.1; simp; omega))); clear ho8 hg8 hat8)
            go_roundw
            case rel =>
              have hq2 : top q (gz (LV n) j) = top q (gz (LV n) (fstI n q)) := by rw [← HJF.out]
              refine ⟨m, top q (gz (LV n) j), A5, c5, Lo ++ [gz (LV n) j], A8, c8, _, _, by go_num, by omega, rfl, HA8.out, hc5, HXO.out, by rw [← HDX.out, HH.out], ?_, by simp, by simpa using HO8.out, HF8.out, HB8.out⟩
              have hz := HLO.out
              simp only [llL] at hz
              rw [List.append_assoc, hq2]
              rw [← HJF.out] at hz ⊢
              exact hz
            case measure => simp [intOf]
          · have HNE := Lib.hid hhit
            have hj2 : j < fstI n q := by
              rcases Nat.lt_or_ge j (fstI n q) with h | h
              · exact h
              · exact absurd (HIS.out.2 (by have := HJ.out; omega)) hhit
            have hcond : ¬ (dx : Int) = (m : Int) := by omega
            have hcond2 : ¬ dx = m := hhit
            go_wp2
            go_roundw
            case rel => exact ⟨j + 1, by go_num, hj2, rfl, rfl, HA6.out, HO6.out, HL6.out, HF6.out, HK6.out, HB6.out⟩
            case measure => simp [intOf]; omega
end Go.Proofs.Ytnhhbpogjhcibaa
