/- PolePower, of both. -/
import Derived.Test.YtijddnllacphfaaPw1
import Derived.Test.YtijddnllacphfaaTu1
import Derived.Test.YtijddnllacphfaaT2
import Derived.Test.YtijddnllacphfaaTl1
namespace Go.Proofs.Ytijddnllacphfaa
open Go Go.RowKit

theorem ret_ib {a b : Int} {p q : Bool} (h : a = b) (g : p = q) : Ending.returned (.tuple #[.int .i64 a, .bool p]) = .returned (.tuple #[.int .i64 b, .bool q]) := by rw [h, g]
theorem Cell2.setTwo {w : World} {b : Nat} {u v : Value} (h : Cell2 w b u v) (u' v' : Value) : Cell2 ((w.setCell ⟨b, 0, none⟩ u').setCell ⟨b, 1, none⟩ v') b u' v' :=
  ⟨by rw [World.cell?_setCell_other _ _ _ _ (by simp)]; exact World.cell?_setCell_same _ _ _ h.c0,
   World.cell?_setCell_same _ _ _ (by rw [World.cell?_setCell_other _ _ _ _ (by simp)]; exact h.c1),
   by simpa [go_sem] using h.f0, by simpa [go_sem] using h.f1, by simpa [World.setCell] using h.lt⟩
theorem pwB_1 {zs us : List Int} (h : trn zs us = false) : pwB zs us = false := by unfold pwB; rw [h]; rfl
theorem pwB_2 {zs us : List Int} {j : Nat} (hj : j < (cycles zs).length) (h : cwn us (gz (cycles zs) j) ≠ 0) : pwB zs us = false := by
  unfold pwB
  rw [decide_eq_false (fun g => h (g j hj))]
  simp
theorem pwB_3 {zs us : List Int} (ht : trn zs us = true) (h : ∀ j, j < (cycles zs).length → cwn us (gz (cycles zs) j) = 0) : pwB zs us = true := by
  unfold pwB
  rw [ht, decide_eq_true h]
  rfl
theorem pwN_no {zs us : List Int} (h : pwB zs us = false) : pwN zs us = 0 := by unfold pwN; rw [h]; rfl
theorem pwN_yes {zs us : List Int} (h : pwB zs us = true) : pwN zs us = (per zs : Int) := by unfold pwN; rw [if_pos h]
theorem cwn_take {us c : List Int} {e : Nat} (h : e < c.length) : cwn us (c.take (e + 1)) = cwn us (c.take e) + gi us (gi c e).toNat := by
  rw [List.take_succ_eq_append_getElem h, cwn_snoc, gi_lt h]
theorem cwn_le {us : List Int} (hu : ∀ j, j < us.length → -20 ≤ gi us j ∧ gi us j ≤ 20) (c : List Int) (hc : ∀ e, e < c.length → 0 ≤ gi c e ∧ gi c e < us.length) : ∀ e, e ≤ c.length → -20 * (e : Int) ≤ cwn us (c.take e) ∧ cwn us (c.take e) ≤ 20 * (e : Int)
  | 0, _ => by simp [cwn]
  | e + 1, he => by
    have h1 := cwn_le hu c hc e (by omega)
    have h2 := hc e (by omega)
    have h3 := hu (gi c e).toNat (by omega)
    rw [cwn_take (by omega)]; omega
theorem cyc_el {zs : List Int} (h : ord zs = true) (j : Nat) (hj : j < (cycles zs).length) (e : Nat) (he : e < (gz (cycles zs) j).length) : 0 ≤ gi (gz (cycles zs) j) e ∧ gi (gz (cycles zs) j) e < zs.length := by
  obtain ⟨a, h1, h2, h3, h4⟩ := cycles_are h zs.length (Nat.le_refl _) _ (mem_gz.2 ⟨j, hj, rfl⟩)
  replace h3 : gz (cycles zs) j = cyc zs a (gz (cycles zs) j).length := h3
  obtain ⟨L, hL⟩ : ∃ L, L = (gz (cycles zs) j).length := ⟨_, rfl⟩
  rw [← hL] at h3 he
  rw [h3]
  have := pos_lt (ord_inn h) h1 e
  rw [gi_lt (by rw [cyc_length]; exact he)]
  simp [cyc]
  omega

set_option maxRecDepth 100000 in
set_option maxHeartbeats 1000000 in
theorem sPolePower_any (A : Option Addr) (n c : Nat) (zs : List Int) (E : Option Addr) (m d : Nat) (us : List Int) (w : World) (h : RI w A n zs) (g : RI w E m us) (hn : n ≤ 1048576) (hm : m ≤ 1048576) (hnc : n ≤ c) :
    Calls Try.prog 41 #[.agg #[.slice A n c, .slice E m d]] w (RetIB (pwN zs us) (pwB zs us) w) := by
  have HA0 : Hid (RB w w.heap.size A n zs) := RB.of_ri h
  have HE0 : Hid (RB w w.heap.size E m us) := RB.of_ri g
  rcases ht : trn zs us with _ | _
  · rw [pwN_no (pwB_1 ht), pwB_1 ht]
    have HT := Lib.hid ht
    clear ht
    go_enter Try.func41, Try.ntmps41
    go_wp2_with fail
    have HB := belAlloc (belRefl (w := w)) (.cells #[.slice A n c, .slice E m d] 27)
    refine (poTurned_any A n c zs E m d us _ (h.alloc _) (g.alloc _) hn hm hnc).mono ?_
    rw [HT.out]
    rintro e w1 ⟨rfl, hb⟩
    replace HB := belStep HB hb
    clear hb h g
    go_wp2
    go_ret2
    exact ⟨rfl, HB.out⟩
  · have ok := TOk.of ht
    have hq := (trn_iff.1 ht).1
    have hzl := h.1
    have hul := g.1
    have hln := ok.len
    have n8 := ok.n8
    have HT := Lib.hid ht
    have HCY := Lib.hid (fun (w' : World) (r : RI w' A n zs) => laCycles_any A n c zs w' r hq)
    have hY := cycles_sum (ord_inn hq) (ord_iff.1 hq).2.1
    have hP : Hid (∀ k, k ≤ (cycles zs).length → 0 < lcmK (cycles zs) k ∧ lcmK (cycles zs) k ≤ 256) := fun k hk => ⟨lcmK_pos hq k hk, lcmK_256 hq hk⟩
    have HPer : Hid (per zs = lcmK (cycles zs) (cycles zs).length) := rfl
    have HB2 := Lib.hid (fun j hj hne => pwB_2 (zs := zs) (us := us) (j := j) hj hne)
    have HB3 := Lib.hid (pwB_3 (zs := zs) (us := us) ht)
    have HEL := Lib.hid (cyc_el hq)
    have HUR : Hid (∀ j, j < us.length → -20 ≤ gi us j ∧ gi us j ≤ 20) := Lib.hid fun j hj => ok.ur j (by omega)
    obtain ⟨yss, hys⟩ : ∃ yss, yss = cycles zs := ⟨_, rfl⟩
    rw [← hys] at HCY hY hP HPer HB2 HB3 HEL
    obtain ⟨M, hM⟩ : ∃ M, M = yss.length := ⟨_, rfl⟩
    rw [← hM] at hP HPer HB2 HB3 HEL
    have HM := Lib.hid hM
    have hM8 : M ≤ 8 := by omega
    have hle : ∀ j, (gz yss j).length ≤ 8 := fun j => by have := gz_le_sum yss j; omega
    have hmz : us.length = zs.length := hln
    clear hys hM hY hq ht ok
    go_enter Try.func41, Try.ntmps41
    go_wp2_with fail
    have HC := cellNew w (.slice A n c) (.slice E m d) 27
    have HB := belAlloc (belRefl (w := w)) (.cells #[.slice A n c, .slice E m d] 27)
    refine (poTurned_any A n c zs E m d us _ (h.alloc _) (g.alloc _) hn hm hnc).mono ?_
    rw [HT.out]
    rintro e w1 ⟨rfl, hb⟩
    replace HC := cellStep HC hb
    replace HB := belStep HB hb
    have p0 := HC.out.c0; have p1 := HC.out.c1
    clear hb h g
    go_wp2_with fail
    refine (HCY.out _ (rbK HA0 HB.out)).mono ?_
    rintro e w2 ⟨A9, c9, M9, S9, rfl, ho, hb⟩
    replace HC := cellStep HC hb
    replace HB := belStep HB hb
    rw [← HM.out] at ho ⊢
    have HR := Lib.hid ho.rb
    have HZ := Lib.hid HC.out.lt
    clear ho hb p0 p1 HCY
    go_wp2
    go_loopw [4, 6, 7, 9, 17] (fun s _ _ _ i wr => ∃ k : Nat, k ≤ M ∧ i = .int .i64 k ∧ s = .int .i64 ((lcmK yss k : Nat) : Int) ∧ (∀ j, j < k → cwn us (gz yss j) = 0) ∧ Below w2.heap.size w2 wr) (fun _ _ _ _ i _ => M - (intOf i).toNat)
    case atStart => exact ⟨0, Nat.zero_le _, rfl, rfl, fun j hj => absurd hj (by omega), Below.refl _ _⟩
    case round =>
      obtain ⟨k, hk, rfl, rfl, hall, hbl⟩ := hrel
      have HBL := Lib.hid hbl
      have HAL := Lib.hid hall
      have HBr : Hid (Below w.heap.size w wr) := Lib.hid (HB.out.trans (hbl.mono HB.out.size))
      have HCr : Hid (Cell2 wr w.heap.size (.slice A n c) (.slice E m d)) := cellStep HC hbl
      have p0 := HCr.out.c0; have p1 := HCr.out.c1
      clear hbl hall
      by_cases hlt : k < M
      · obtain ⟨b, off, rfl, hbw, hc⟩ := (HR.out.step HBL.out).2.2 (by omega)
        obtain ⟨a, m1, d1, hck, hra⟩ := hc k hlt
        have hl1 := hra.1
        have hl8 := hle k
        rw [hl1] at hl8
        have hp := hP.out k hk
        have hp1 := hP.out (k + 1) (by omega)
        have i1 : (0 : Int) ≤ (k : Int) := by omega
        have i2 : (k : Int) < (M : Int) := by omega
        have HRA := Lib.hid hra.ri
        have hrE := rbK HE0 HBr.out
        have HCL := Lib.hid (cwn_le HUR.out (gz yss k) (fun e he => by rw [hmz]; exact HEL.out k hlt e he))
        obtain ⟨t, ht⟩ : ∃ t, t = lcmK yss k := ⟨_, rfl⟩
        have HS : Hid (lcmK yss (k + 1) = t / Nat.gcd t m1 * m1) := by show _ = _; rw [lcm_step, ht, ← hl1]; rfl
        rw [← ht] at hp ⊢
        have hz : (t : Int) ≤ 256 := by omega
        clear hc hra ht
        have hd : Int.tdiv (t : Int) ((Nat.gcd t m1 : Nat) : Int) = ((t / Nat.gcd t m1 : Nat) : Int) := by rw [Int.tdiv_eq_ediv_of_nonneg (by omega)]; simp
        have hg0 : ¬ (((Nat.gcd t m1 : Nat) : Int) = 0) := by have := Nat.gcd_pos_of_pos_left m1 hp.1; omega
        obtain ⟨g, hg⟩ : ∃ g, g = Nat.gcd t m1 := ⟨_, rfl⟩
        rw [← hg] at hd hg0 HS
        have hq1 : t / g ≤ 256 := Nat.le_trans (Nat.div_le_self _ _) hp.2
        have HLQ : Hid (((t / g : Nat) : Int) * (m1 : Int) = ((lcmK yss (k + 1) : Nat) : Int)) := by show _ = _; rw [HS.out]; simp
        obtain ⟨u, hu⟩ : ∃ u, u = t / g := ⟨_, rfl⟩
        rw [← hu] at hd HLQ hq1
        have hmul := HLQ.out
        have HG := Lib.hid hg
        obtain ⟨cc, hcc⟩ : ∃ cc, cc = gz yss k := ⟨_, rfl⟩
        have HEc := Lib.hid (HEL.out k hlt)
        rw [← hcc] at HCL HRA hl1 HEc
        have HCC := Lib.hid hcc
        clear hg hu HS hcc
        go_wp2
        go_loop [7, 9, 23] (fun s7 _ s23 => ∃ e : Nat, e ≤ m1 ∧ s23 = .int .i64 (e : Int) ∧ s7 = .int .i64 (cwn us (cc.take e))) (fun _ _ s23 => m1 - (intOf s23).toNat)
        case atStart => exact ⟨0, Nat.zero_le _, rfl, rfl⟩
        case round =>
          obtain ⟨e, he, rfl, rfl⟩ := hrel
          have hcl := HCL.out e (by omega)
          by_cases hel : e < m1
          · obtain ⟨b2, off2, rfl, hb2, hc2⟩ := HRA.out.cell hel
            have hce := hc2 e hel
            have hx0 := HEc.out e (by omega)
            obtain ⟨x, hx⟩ : ∃ x : Nat, gi cc e = (x : Int) := ⟨(gi cc e).toNat, by omega⟩
            have hxm : x < m := by omega
            obtain ⟨b3, off3, rfl, hb3, hc3⟩ := hrE.cell hxm
            have hcx := hc3 x hxm
            have hux := HUR.out x (by omega)
            have HTK : Hid (cwn us (cc.take (e + 1)) = cwn us (cc.take e) + gi us x) := by show _ = _; rw [cwn_take (by omega), hx, Int.toNat_natCast]
            rw [hx] at hce
            obtain ⟨y, hy⟩ : ∃ y, y = gi us x := ⟨_, rfl⟩
            rw [← hy] at hcx hux HTK
            obtain ⟨v, hv⟩ : ∃ v, v = cwn us (cc.take e) := ⟨_, rfl⟩
            rw [← hv] at hcl HTK ⊢
            have i3 : (0 : Int) ≤ (x : Int) := by omega
            have i4 : (x : Int) < (m : Int) := by omega
            have i5 : (e : Int) < (m1 : Int) := by omega
            clear hc2 hc3 hx hx0 hy hv
            go_wp2
            go_round
            case rel => exact ⟨e + 1, by omega, by go_num, by rw [HTK.out]⟩
            case measure => simp [intOf]; omega
          · obtain rfl : e = m1 := by omega
            have htk : cc.take e = cc := List.take_of_length_le (by omega)
            rw [htk]
            by_cases hz0 : cwn us cc = 0
            · rw [hz0]
              go_wp2_with fail
              refine (laCommon_any t e _ (by omega) (by omega)).mono ?_
              rw [← HG.out]
              rintro e' w3 ⟨rfl, hb3⟩
              have HB3' := Lib.hid (HBL.out.trans (hb3.mono HBL.out.size))
              clear hb3
              go_wp2
              go_roundw
              case rel => exact ⟨k + 1, by omega, by go_num, by rw [← HLQ.out], fun j hj => by
                by_cases hjk : j = k
                · rw [hjk, ← HCC.out]; exact hz0
                · exact HAL.out j (by omega), HB3'.out⟩
              case measure => simp [intOf]; omega
            · have HPB := Lib.hid (HB2.out k hlt (by rw [← HCC.out]; exact hz0))
              have hne : (cwn us cc != 0) = true := by rw [bne_iff_ne]; exact hz0
              go_wp2
              go_ret2
              exact ⟨ret_ib (pwN_no HPB.out).symm HPB.out.symm, HBr.out⟩
      · obtain rfl : k = M := by omega
        have HPB := Lib.hid (HB3.out HAL.out)
        go_wp2
        go_ret2
        exact ⟨ret_ib (by rw [pwN_yes HPB.out, HPer.out]) HPB.out.symm, HBr.out⟩

set_option maxRecDepth 100000 in
set_option maxHeartbeats 1000000 in
theorem iPolePower_any (A : Option Addr) (n c : Nat) (zs : List Int) (E : Option Addr) (m d : Nat) (us : List Int) (w : World) (h : RI w A n zs) (g : RI w E m us) (hn : n ≤ 1048576) (hm : m ≤ 1048576) (hnc : n ≤ c) :
    Calls Try.prog 42 #[.agg #[.slice A n c, .slice E m d]] w (RetIB (pwN zs us) (pwB zs us) w) := by
  have HA0 : Hid (RB w w.heap.size A n zs) := RB.of_ri h
  have HE0 : Hid (RB w w.heap.size E m us) := RB.of_ri g
  rcases ht : trn zs us with _ | _
  · rw [pwN_no (pwB_1 ht), pwB_1 ht]
    have HT := Lib.hid ht
    clear ht
    go_enter Try.func42, Try.ntmps42
    go_wp2_with fail
    have HB := belAlloc (belRefl (w := w)) (.cells #[.slice A n c, .slice E m d] 27)
    refine (iIsTurned_any A n c zs E m d us _ (h.alloc _) (g.alloc _) hn hm).mono ?_
    rw [HT.out]
    rintro e w1 ⟨rfl, hb⟩
    replace HB := belStep HB hb
    clear hb h g
    go_wp2
    go_ret2
    exact ⟨rfl, HB.out⟩
  · have ok := TOk.of ht
    have hq := (trn_iff.1 ht).1
    have hzl := h.1
    have hul := g.1
    have hln := ok.len
    have n8 := ok.n8
    have hin := ord_inn hq
    have HT := Lib.hid ht
    have HOT := Lib.hid (fun (w' : World) (r : RI w' A n zs) => iOrderTimes_any A n c zs w' r hn hnc)
    rw [timesN_yes hq, hq] at HOT
    have HPL : Hid (1 ≤ per zs ∧ per zs ≤ 256) := ⟨per_pos hq, per_le hq⟩
    have HHM : Hid (∀ j, j < n → pos zs j (per zs) = j) := Lib.hid (fun j hj => (home_iff hq (per zs)).2 (Nat.dvd_refl _) j (by omega))
    have HWL := Lib.hid (fun a ha i => wnd_le (us := us) ok hin a (by omega) i : ∀ a, a < n → ∀ i : Nat, -20 * (i : Int) ≤ wnd zs us a i ∧ wnd zs us a i ≤ 20 * (i : Int))
    have HPO := Lib.hid (fun a ha i => by have := pos_lt hin (a := a) (by omega) i; omega : ∀ a, a < n → ∀ i, pos zs a i < n)
    have HUR := Lib.hid (fun j hj => by have := ok.ur j (by omega); omega : ∀ j, j < n → -100000 ≤ gi us j ∧ gi us j ≤ 100000)
    have HST := Lib.hid (fun a ha i => by
      have h1 := pos_lt hin (a := a) (by omega) i
      have h2 := ok.zr _ h1
      show ((((gi zs (pos zs a i)).toNat : Nat) : Int)) = gi zs (pos zs a i)
      omega : ∀ a, a < n → ∀ i, ((pos zs a (i + 1) : Nat) : Int) = gi zs (pos zs a i))
    have HWS : Hid (∀ a i, wnd zs us a (i + 1) = wnd zs us a i + gi us (pos zs a i)) := Lib.hid (fun _ _ => rfl)
    have HYES : Hid ((∀ a, a < n → wnd zs us a (per zs) = 0) → pwB zs us = true) := Lib.hid (fun hw => pwB_3 ht ((home_winds hq).1 (fun a ha => hw a (by omega))))
    have HNO : Hid (∀ a, a < n → wnd zs us a (per zs) ≠ 0 → pwB zs us = false) := Lib.hid (fun a ha hne => by
      rcases hb : pwB zs us with _ | _
      · rfl
      · exfalso
        unfold pwB at hb
        rw [Bool.and_eq_true, decide_eq_true_iff] at hb
        exact hne ((home_winds hq).2 hb.2 a (by omega)))
    have hnm : n ≤ m := by omega
    have hn8 : n ≤ 8 := by omega
    have hm8 : m ≤ 8 := by omega
    obtain ⟨T, hT⟩ : ∃ T, T = per zs := ⟨_, rfl⟩
    rw [← hT] at HOT HPL HHM HYES HNO
    have HTP := Lib.hid hT
    have hp1 := HPL.out.1; have hp2 := HPL.out.2
    clear ht ok hq hzl hul hln n8 hin hT
    go_enter Try.func42, Try.ntmps42
    go_wp2_with fail
    have HC := cellNew w (.slice A n c) (.slice E m d) 27
    have HB := belAlloc (belRefl (w := w)) (.cells #[.slice A n c, .slice E m d] 27)
    refine (iIsTurned_any A n c zs E m d us _ (h.alloc _) (g.alloc _) hn hm).mono ?_
    rw [HT.out]
    rintro e w1 ⟨rfl, hb⟩
    replace HC := cellStep HC hb
    replace HB := belStep HB hb
    have p0 := HC.out.c0; have p1 := HC.out.c1
    clear hb h g
    go_wp2_with fail
    refine (HOT.out _ (rbK HA0 HB.out)).mono ?_
    rintro e w2 ⟨rfl, hb⟩
    replace HC := cellStep HC hb
    replace HB := belStep HB hb
    replace p0 := HC.out.c0; replace p1 := HC.out.c1
    clear hb HOT
    go_wp2_with fail
    refine (teller_any A n c E m d _).mono ?_
    rintro e w3 ⟨rfl, hc2, hb⟩
    have HF := Lib.hid hc2
    replace HC := cellStep HC hb
    replace HB := belStep HB hb
    have HTL := Lib.hid (fun (p : Nat) (q : Int) (w' : World) (hp : p < n) (hq : -10000000 ≤ q ∧ q ≤ 10000000) (hbb : Below w3.heap.size w3 w') => tell_any w2.heap.size A n c zs E m d us p q w' (cellStep HF hbb).out.c0 (cellStep HF hbb).out.c1 (cellStep HF hbb).out.lt (rbK HA0 (HB.out.trans (hbb.mono HB.out.size))) (rbK HE0 (HB.out.trans (hbb.mono HB.out.size))) hp (by omega) (by omega) (by omega) hq (HUR.out p hp))
    clear hc2 hb p0 p1
    have p0 := HC.out.c0; have p1 := HC.out.c1
    go_wp2
    go_loopw [7, 8, 9, 24] (fun _ _ _ i wr => ∃ a : Nat, a ≤ n ∧ i = .int .i64 a ∧ (∀ j, j < a → wnd zs us j T = 0) ∧ Below w3.heap.size w3 wr) (fun _ _ _ i _ => n - (intOf i).toNat)
    case atStart => exact ⟨0, Nat.zero_le _, rfl, fun j hj => absurd hj (by omega), Below.refl _ _⟩
    case round =>
      obtain ⟨a, ha, rfl, hall, hbl⟩ := hrel
      have HAL := Lib.hid hall
      have HBL := Lib.hid hbl
      have HBr : Hid (Below w.heap.size w wr) := Lib.hid (HB.out.trans (hbl.mono HB.out.size))
      clear hall hbl p0 p1
      by_cases hlt : a < n
      · obtain ⟨wo, hwo⟩ : ∃ v : World, v = wr := ⟨_, rfl⟩
        subst hwo
        go_wp2
        obtain ⟨wv, hwv⟩ : ∃ wv, wv = (wo.alloc (.cells #[.int .i64 (a : Int), .int .i64 0] 63)).alloc (.cells #[.int .i64 (a : Int), .int .i64 0] 63) := ⟨_, rfl⟩
        have HH : Hid (Cell2 wv wo.heap.size (.int .i64 (a : Int)) (.int .i64 0)) := by rw [hwv]; exact cellAlloc (cellNew wo _ _ _) _
        have HAt : Hid (Cell2 wv (wo.heap.size + 1) (.int .i64 (a : Int)) (.int .i64 0)) := by
          have h1 := cellNew (wo.alloc (.cells #[.int .i64 (a : Int), .int .i64 0] 63)) (.int .i64 (a : Int)) (.int .i64 0) 63
          simp only [World.size_alloc] at h1
          rw [hwv]; exact h1
        have HNv : Hid (Below w3.heap.size w3 wv) := Lib.hid (by rw [hwv]; exact (HBL.out.alloc HBL.out.size _).alloc (by have := HBL.out.size; simp; omega) _)
        have hz3 := HBL.out.size
        rw [← hwv]
        clear hwv
        go_loopw [31] (fun s31 wi => ∃ i : Nat, i ≤ T ∧ s31 = .int .i64 (i : Int) ∧ Cell2 wi (wo.heap.size + 1) (.int .i64 ((pos zs a i : Nat) : Int)) (.int .i64 (wnd zs us a i)) ∧ Below (wo.heap.size + 1) wv wi) (fun s31 _ => T - (intOf s31).toNat)
        case atStart => exact ⟨0, Nat.zero_le _, rfl, HAt.out, Below.refl _ _⟩
        case round =>
          obtain ⟨i, hi, rfl, hat, hbi⟩ := hrel
          have HA := Lib.hid hat
          have HI := Lib.hid hbi
          have HN3 : Hid (Below w3.heap.size w3 wr) := Lib.hid (HNv.out.trans (hbi.mono (by omega)))
          clear hat hbi
          by_cases hil : i < T
          · have hwl := HWL.out a hlt i
            have HT1 := Lib.hid (HTL.out (pos zs a i) (wnd zs us a i) wr (HPO.out a hlt i) (by omega) HN3.out)
            rw [← HST.out a hlt i, ← HWS.out a i] at HT1
            obtain ⟨p, hp⟩ : ∃ p, p = pos zs a i := ⟨_, rfl⟩
            obtain ⟨q, hq⟩ : ∃ q, q = wnd zs us a i := ⟨_, rfl⟩
            rw [← hp, ← hq] at HA HT1
            clear hp hq hwl
            have a0 := HA.out.c0; have a1 := HA.out.c1; have f0 := HA.out.f0; have f1 := HA.out.f1; have az := HA.out.lt
            go_wp2_with fail
            refine HT1.out.mono ?_
            rintro e w5 ⟨rfl, hb⟩
            replace HA := cellStep HA hb
            have HI5 : Hid (Below (wo.heap.size + 1) wv w5) := Lib.hid (HI.out.trans (hb.mono (by omega)))
            replace a0 := HA.out.c0; replace a1 := HA.out.c1; replace f0 := HA.out.f0; replace f1 := HA.out.f1; replace az := HA.out.lt
            clear hb HT1
            go_wp2
            go_roundw
            case rel => exact ⟨i + 1, by omega, by go_num, (Cell2.setTwo HA.out _ _), (HI5.out.setCell (Nat.le_refl _) _).setCell (Nat.le_refl _) _⟩
            case measure => simp [intOf]; omega
          · obtain rfl : i = T := by omega
            have hpe := HHM.out a hlt
            rw [hpe] at HA
            have HHr := cellBelow HH (Nat.lt_succ_self _) HI.out
            have a0 := HA.out.c0; have a1 := HA.out.c1
            have b0 := HHr.out.c0; have b1 := HHr.out.c1
            obtain ⟨v, hv⟩ : ∃ v, v = wnd zs us a i := ⟨_, rfl⟩
            rw [← hv] at a1 HA
            have HV := Lib.hid hv
            have HBf : Hid (Below w3.heap.size w3 wr) := Lib.hid (HNv.out.trans (HI.out.mono (by omega)))
            have HBw : Hid (Below w.heap.size w wr) := Lib.hid (HB.out.trans (HBf.out.mono HB.out.size))
            clear hv
            by_cases h0 : v = 0
            · have HV0 := Lib.hid (HV.out.symm.trans h0)
              subst h0
              go_wp2
              go_roundw
              case rel => exact ⟨a + 1, by omega, by go_num, fun j hj => by
                by_cases hj2 : j = a
                · rw [hj2]; exact HV0.out
                · exact HAL.out j (by omega), HBf.out⟩
              case measure => simp [intOf]; omega
            · have HPB := Lib.hid (HNO.out a hlt (by rw [← HV.out]; exact h0))
              have h1 : (v == 0) = false := by rw [beq_eq_false_iff_ne]; exact h0
              have h2 : (v != 0) = true := by rw [bne_iff_ne]; exact h0
              go_wp2
              go_ret2
              exact ⟨ret_ib (pwN_no HPB.out).symm HPB.out.symm, HBw.out⟩
      · obtain rfl : a = n := by omega
        have HPB := Lib.hid (HYES.out HAL.out)
        go_wp2
        go_ret2
        exact ⟨ret_ib (by rw [pwN_yes HPB.out, ← HTP.out]) HPB.out.symm, HBr.out⟩
end Go.Proofs.Ytijddnllacphfaa
