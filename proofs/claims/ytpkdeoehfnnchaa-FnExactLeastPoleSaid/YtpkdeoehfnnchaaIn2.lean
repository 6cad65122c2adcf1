/- PoleInversions, of both. -/
import Derived.Test.YtpkdeoehfnnchaaIn1
import Derived.Test.YtpkdeoehfnnchaaPd1
import Derived.Deep.RegionHeld3
import Derived.Deep.RegionLaw
import Derived.KernelRfl
namespace Go.Proofs.Ytpkdeoehfnnchaa
open Go Go.RowKit

def cntS (zs us : List Int) (i : Nat) : Nat := sumN i (fun a => cntI zs us a (43 * zs.length))
theorem cntS_zero (zs us : List Int) : cntS zs us 0 = 0 := rfl
theorem cntS_succ (zs us : List Int) (i : Nat) : cntS zs us (i + 1) = cntS zs us i + cntI zs us i (43 * zs.length) := rfl
theorem cntI_zero (zs us : List Int) (i : Nat) : cntI zs us i 0 = 0 := rfl
theorem cntI_yes {zs us : List Int} {i J : Nat} (h : plc zs us ((i : Int) + (J : Int) + 1) < plc zs us (i : Int)) : cntI zs us i (J + 1) = cntI zs us i J + 1 := by
  unfold cntI; rw [sumN]; unfold ind; rw [if_pos h]
theorem cntI_no {zs us : List Int} {i J : Nat} (h : ¬ plc zs us ((i : Int) + (J : Int) + 1) < plc zs us (i : Int)) : cntI zs us i (J + 1) = cntI zs us i J := by
  unfold cntI; rw [sumN]; unfold ind; rw [if_neg h]; rfl
theorem cntI_le (zs us : List Int) (i : Nat) : ∀ J, cntI zs us i J ≤ J
  | 0 => Nat.le_refl _
  | J + 1 => by
    have := cntI_le zs us i J
    by_cases h : plc zs us ((i : Int) + (J : Int) + 1) < plc zs us (i : Int)
    · rw [cntI_yes h]; omega
    · rw [cntI_no h]; omega
theorem cntS_le (zs us : List Int) : ∀ i, cntS zs us i ≤ i * (43 * zs.length)
  | 0 => by simp [cntS, sumN]
  | i + 1 => by
    have h1 := cntS_le zs us i
    have h2 := cntI_le zs us i (43 * zs.length)
    have e : (i + 1) * (43 * zs.length) = i * (43 * zs.length) + 43 * zs.length := Nat.succ_mul _ _
    rw [cntS_succ, e]
    exact Nat.add_le_add h1 h2
def invN (zs us : List Int) : Int := if trn zs us = true then (invT zs us : Int) else 0
theorem invN_yes {zs us : List Int} (h : trn zs us = true) : invN zs us = (invT zs us : Int) := by unfold invN; rw [if_pos h]
theorem invN_no {zs us : List Int} (h : trn zs us = false) : invN zs us = 0 := by unfold invN; rw [h]; rfl
/-- the program's sums -/
def invR (zs us : List Int) (i j : Nat) : Nat := sumN j (fun k => invP zs us i k)
def invS (zs us : List Int) (i : Nat) : Nat := sumN i (fun a => invR zs us a zs.length)
theorem invR_start (zs us : List Int) (i : Nat) : invR zs us i (i + 1) = 0 := sumN_zero _ fun k hk => by unfold invP; rw [if_neg (by omega)]
theorem invR_succ (zs us : List Int) (i j : Nat) (h : i < j) : invR zs us i (j + 1) = invR zs us i j + (flP zs us i j).natAbs := by unfold invR; rw [sumN]; unfold invP; rw [if_pos h]
theorem invS_succ (zs us : List Int) (i : Nat) : invS zs us (i + 1) = invS zs us i + invR zs us i zs.length := rfl
theorem invS_all (zs us : List Int) : invS zs us zs.length = invT zs us := rfl
theorem invR_le {zs us : List Int} (ok : TOk zs us) (i : Nat) (hi : i < zs.length) : ∀ j, j ≤ zs.length → invR zs us i j ≤ 41 * j
  | 0, _ => Nat.le_refl _
  | j + 1, hj => by
    have h1 := invR_le ok i hi j (by omega)
    unfold invR at h1 ⊢
    rw [sumN]
    have h2 : invP zs us i j ≤ 41 := by
      unfold invP
      split
      · have := fl_in ok i j hi (by omega); unfold flP; omega
      · omega
    omega
theorem invS_le {zs us : List Int} (ok : TOk zs us) : ∀ i, i ≤ zs.length → invS zs us i ≤ 328 * i
  | 0, _ => Nat.le_refl _
  | i + 1, hi => by
    have h1 := invS_le ok i (by omega)
    have h2 := invR_le ok i (by omega) zs.length (Nat.le_refl _)
    have h3 := ok.n8
    rw [invS_succ]; omega

set_option maxRecDepth 100000 in
set_option maxHeartbeats 1000000 in
theorem poInversions_any (A : Option Addr) (n c : Nat) (zs : List Int) (E : Option Addr) (m d : Nat) (us : List Int) (w : World) (h : RI w A n zs) (g : RI w E m us) (ht : trn zs us = true) :
    Calls Try.prog 28 #[.agg #[.slice A n c, .slice E m d]] w (RetI (invT zs us : Int) w) := by
  have HOK := Lib.hid (TOk.of ht)
  have hzl := h.1
  have hn8 : n ≤ 8 := by have := HOK.out.n8; rw [hzl] at this; exact this
  have hn3 : 3 ≤ n := by have := HOK.out.n3; rw [hzl] at this; exact this
  have HBO : Hid (cntS zs us n = invT zs us) := by have := inv_both ht; show _ = _; rw [← this, ← hzl]; rfl
  have HSS := Lib.hid (fun i => by have := cntS_succ zs us i; rwa [hzl] at this : ∀ i, cntS zs us (i + 1) = cntS zs us i + cntI zs us i (43 * n))
  have HSL := Lib.hid (fun i => by have := cntS_le zs us i; rwa [hzl] at this : ∀ i, cntS zs us i ≤ i * (43 * n))
  have HA0 : Hid (RB w w.heap.size A n zs) := RB.of_ri h
  have HE0 : Hid (RB w w.heap.size E m us) := RB.of_ri g
  clear h g ht hzl
  go_enter Try.func28, Try.ntmps28
  go_wp2
  obtain ⟨w1, hw1⟩ : ∃ w1, w1 = w.alloc (.cells #[.slice A n c, .slice E m d] 30) := ⟨_, rfl⟩
  have HC : Hid (Cell2 w1 w.heap.size (.slice A n c) (.slice E m d)) := by rw [hw1]; exact cellNew w _ _ _
  have HB : Hid (Below w.heap.size w w1) := by rw [hw1]; exact belAlloc belRefl _
  have HZ := Lib.hid HC.out.lt
  rw [← hw1]
  clear hw1
  go_loopw [4, 5, 6] (fun s4 s5 _ wr => ∃ i : Nat, i ≤ n ∧ s5 = .int .i64 (i : Int) ∧ s4 = .int .i64 (cntS zs us i : Int) ∧ Below w1.heap.size w1 wr) (fun _ s5 _ _ => n - (intOf s5).toNat)
  case atStart => exact ⟨0, Nat.zero_le _, rfl, rfl, Below.refl _ _⟩
  case round =>
    obtain ⟨i, hi, rfl, rfl, hb⟩ := hrel
    have HN0 := Lib.hid hb
    have hcs : cntS zs us i ≤ 8 * 344 := by
      have h1 := HSL.out i
      have h2 : i * (43 * n) ≤ 8 * 344 := Nat.mul_le_mul (by omega) (by omega)
      omega
    by_cases hlt : (i : Int) < (n : Int)
    · obtain ⟨S, hS⟩ : ∃ S : Nat, S = cntS zs us i := ⟨_, rfl⟩
      rw [← hS] at hcs ⊢
      have HS := Lib.hid hS
      clear hS hb
      go_wp2
      go_loopw [4, 6] (fun s4 s6 wr => ∃ J : Nat, J ≤ 43 * n ∧ s6 = .int .i64 ((i : Int) + (J : Int) + 1) ∧ s4 = .int .i64 ((S + cntI zs us i J : Nat) : Int) ∧ Below w1.heap.size w1 wr) (fun _ s6 _ => ((i : Int) + 43 * (n : Int) + 2 - intOf s6).toNat)
      case atStart => exact ⟨0, Nat.zero_le _, by go_num, by rw [cntI_zero]; rfl, HN0.out⟩
      case round =>
        obtain ⟨J, hJ, rfl, rfl, hb⟩ := hrel
        have HN := Lib.hid hb
        have HBr : Hid (Below w.heap.size w wr) := Lib.hid (HB.out.trans (hb.mono (Nat.le_of_lt HZ.out)))
        have HCr : Hid (Cell2 wr w.heap.size (.slice A n c) (.slice E m d)) := cellBelow HC HZ.out hb
        have p0 := HCr.out.c0; have p1 := HCr.out.c1; have pz := HCr.out.lt
        have hcl := cntI_le zs us i J
        clear hb
        by_cases hJl : J < 43 * n
        · have hle : (i : Int) + (J : Int) + 1 ≤ (i : Int) + (n : Int) * 43 := by omega
          have hpx := plc_in HOK.out (i : Int) (by omega)
          have hpy := plc_in HOK.out ((i : Int) + (J : Int) + 1) (by omega)
          have hxy := @cntI_yes zs us i J
          have hxn := @cntI_no zs us i J
          obtain ⟨x, hx⟩ : ∃ x, x = plc zs us (i : Int) := ⟨_, rfl⟩
          obtain ⟨y, hy⟩ : ∃ y, y = plc zs us ((i : Int) + (J : Int) + 1) := ⟨_, rfl⟩
          obtain ⟨C, hC⟩ : ∃ C, C = cntI zs us i J := ⟨_, rfl⟩
          rw [← hx, ← hy, ← hC] at hxy hxn
          rw [← hx] at hpx
          rw [← hy] at hpy
          rw [← hC] at hcl ⊢
          have HX := Lib.hid hx; have HY := Lib.hid hy
          clear hx hy hC
          by_cases hc : y < x
          · have HD := Lib.hid (hxy hc)
            clear hxy hxn
            go_wp2_with fail
            go_region_held3 (fun w' => w'.cell? ⟨w.heap.size, 0, none⟩ = some (.slice A n c) ∧ w'.cell? ⟨w.heap.size, 1, none⟩ = some (.slice E m d))
              (first | exact ⟨HCr.out.c0, HCr.out.c1⟩ | exact ⟨HC6.out.c0, HC6.out.c1⟩ | exact ⟨HC7.out.c0, HC7.out.c1⟩)
              (first
                | (go_at_call 41; have hx := HC6.out.c0; clear hx; refine (poPlace_any A n c zs E m d us (i : Int) _ (rbK HA0 (HB6.out)) (rbK HE0 (HB6.out)) HOK.out (by omega)).mono ?_; rw [← HX.out]; rintro e w7 ⟨rfl, hb⟩; have HC7 := cellStep HC6 hb; have HB7 := belStep HB6 hb; have HN7 : Hid (Below w1.heap.size w1 w7) := Lib.hid (HN6.out.trans (hb.mono HN6.out.size)); clear hb)
                | (go_at_call 41; refine (poPlace_any A n c zs E m d us ((i : Int) + (J : Int) + 1) _ (rbK HA0 (HBr.out.drew)) (rbK HE0 (HBr.out.drew)) HOK.out (by omega)).mono ?_; rw [← HY.out]; rintro e w6 ⟨rfl, hb⟩; have HC6 := cellStep (cellDrew HCr) hb; have HB6 := belStep (belDrew HBr) hb; have HN6 : Hid (Below w1.heap.size w1 w6) := Lib.hid (HN.out.drew.trans (hb.mono HN.out.size)); clear hb))
            go_wp2
            go_roundw
            case rel => exact ⟨J + 1, by omega, by go_num, by rw [HD.out]; go_num, HN7.out⟩
            case measure => simp [intOf]; omega
          · have hc' : x ≤ y := by omega
            have HD := Lib.hid (hxn hc)
            clear hxy hxn hc
            go_wp2_with fail
            go_region_held3 (fun w' => w'.cell? ⟨w.heap.size, 0, none⟩ = some (.slice A n c) ∧ w'.cell? ⟨w.heap.size, 1, none⟩ = some (.slice E m d))
              (first | exact ⟨HCr.out.c0, HCr.out.c1⟩ | exact ⟨HC6.out.c0, HC6.out.c1⟩ | exact ⟨HC7.out.c0, HC7.out.c1⟩)
              (first
                | (go_at_call 41; have hx := HC6.out.c0; clear hx; refine (poPlace_any A n c zs E m d us (i : Int) _ (rbK HA0 (HB6.out)) (rbK HE0 (HB6.out)) HOK.out (by omega)).mono ?_; rw [← HX.out]; rintro e w7 ⟨rfl, hb⟩; have HC7 := cellStep HC6 hb; have HB7 := belStep HB6 hb; have HN7 : Hid (Below w1.heap.size w1 w7) := Lib.hid (HN6.out.trans (hb.mono HN6.out.size)); clear hb)
                | (go_at_call 41; refine (poPlace_any A n c zs E m d us ((i : Int) + (J : Int) + 1) _ (rbK HA0 (HBr.out.drew)) (rbK HE0 (HBr.out.drew)) HOK.out (by omega)).mono ?_; rw [← HY.out]; rintro e w6 ⟨rfl, hb⟩; have HC6 := cellStep (cellDrew HCr) hb; have HB6 := belStep (belDrew HBr) hb; have HN6 : Hid (Below w1.heap.size w1 w6) := Lib.hid (HN.out.drew.trans (hb.mono HN.out.size)); clear hb))
            go_wp2
            go_roundw
            case rel => exact ⟨J + 1, by omega, by go_num, by rw [HD.out]; go_num, HN7.out⟩
            case measure => simp [intOf]; omega
        · obtain rfl : J = 43 * n := by omega
          have hgt : (i : Int) + (n : Int) * 43 < (i : Int) + ((43 * n : Nat) : Int) + 1 := by omega
          have HD := Lib.hid (HSS.out i)
          go_wp2
          go_roundw
          case rel => exact ⟨i + 1, by omega, by go_num, by rw [HD.out, ← HS.out], HN.out⟩
          case measure => simp [intOf]; omega
    · obtain rfl : i = n := by omega
      have HBr : Hid (Below w.heap.size w wr) := Lib.hid (HB.out.trans (hb.mono (Nat.le_of_lt HZ.out)))
      rw [HBO.out]
      clear hb
      go_wp2
      go_ret
      exact ⟨rfl, HBr.out⟩


set_option maxRecDepth 100000 in
set_option maxHeartbeats 1000000 in
theorem sPoleInversions_any (A : Option Addr) (n c : Nat) (zs : List Int) (E : Option Addr) (m d : Nat) (us : List Int) (w : World) (h : RI w A n zs) (g : RI w E m us) (hn : n ≤ 1048576) (hm : m ≤ 1048576) (hnc : n ≤ c) :
    Calls Try.prog 21 #[.agg #[.slice A n c, .slice E m d]] w (RetIB (invN zs us) (trn zs us) w) := by
  have HA0 : Hid (RB w w.heap.size A n zs) := RB.of_ri h
  have HE0 : Hid (RB w w.heap.size E m us) := RB.of_ri g
  rcases ht : trn zs us with _ | _
  · rw [invN_no ht]
    have HT := Lib.hid ht
    clear ht
    go_enter Try.func21, Try.ntmps21
    go_wp2_with fail
    have HB := belAlloc (belRefl (w := w)) (.cells #[.slice A n c, .slice E m d] 30)
    refine (poTurned_any A n c zs E m d us _ (h.alloc _) (g.alloc _) hn hm hnc).mono ?_
    rw [HT.out]
    rintro e w1 ⟨rfl, hb⟩
    replace HB := belStep HB hb
    clear hb h g
    go_wp2
    go_ret2
    exact ⟨rfl, HB.out⟩
  · rw [invN_yes ht]
    have HT := Lib.hid ht
    clear ht
    go_enter Try.func21, Try.ntmps21
    go_wp2_with fail
    have HC := cellNew w (.slice A n c) (.slice E m d) 30
    have HB := belAlloc (belRefl (w := w)) (.cells #[.slice A n c, .slice E m d] 30)
    refine (poTurned_any A n c zs E m d us _ (h.alloc _) (g.alloc _) hn hm hnc).mono ?_
    rw [HT.out]
    rintro e w1 ⟨rfl, hb⟩
    replace HC := cellStep HC hb
    replace HB := belStep HB hb
    have p0 := HC.out.c0; have p1 := HC.out.c1
    clear hb h g
    go_wp2_with fail
    refine (poInversions_any A n c zs E m d us _ (rbK HA0 HB.out) (rbK HE0 HB.out) HT.out).mono ?_
    rintro e w2 ⟨rfl, hb⟩
    replace HB := belStep HB hb
    clear hb
    go_wp2
    go_ret2
    exact ⟨rfl, HB.out⟩

set_option maxRecDepth 100000 in
set_option maxHeartbeats 1000000 in
theorem iPoleInversions_raw (A : Option Addr) (n c : Nat) (zs : List Int) (E : Option Addr) (m d : Nat) (us : List Int) (w : World) (h : RI w A n zs) (g : RI w E m us) (hn : n ≤ 1048576) (hm : m ≤ 1048576) :
    Calls Try.prog 22 #[.agg #[.slice A n c, .slice E m d]] w (RetIB (invN zs us) (trn zs us) w) := by
  have HA0 : Hid (RB w w.heap.size A n zs) := RB.of_ri h
  have HE0 : Hid (RB w w.heap.size E m us) := RB.of_ri g
  rcases ht : trn zs us with _ | _
  · rw [invN_no ht]
    have HT := Lib.hid ht
    clear ht
    go_enter Try.func22, Try.ntmps22
    go_wp2_with fail
    have HB := belAlloc (belRefl (w := w)) (.cells #[.slice A n c, .slice E m d] 30)
    refine (iIsTurned_any A n c zs E m d us _ (h.alloc _) (g.alloc _) hn hm).mono ?_
    rw [HT.out]
    rintro e w1 ⟨rfl, hb⟩
    replace HB := belStep HB hb
    clear hb h g
    go_wp2
    go_ret2
    exact ⟨rfl, HB.out⟩
  · rw [invN_yes ht]
    have HOK := Lib.hid (TOk.of ht)
    have hzl := h.1
    have hn8 : n ≤ 8 := by have := HOK.out.n8; rw [hzl] at this; exact this
    have hn3 : 3 ≤ n := by have := HOK.out.n3; rw [hzl] at this; exact this
    have HALL : Hid (invS zs us n = invT zs us) := by show _ = _; rw [← hzl]; rfl
    have HSS := Lib.hid (fun i => by have := invS_succ zs us i; rwa [hzl] at this : ∀ i, invS zs us (i + 1) = invS zs us i + invR zs us i n)
    have HSL := Lib.hid (fun i hi => by have := invS_le HOK.out i (by omega); exact this : ∀ i, i ≤ n → invS zs us i ≤ 328 * i)
    have HRL := Lib.hid (fun i j hi hj => by have := invR_le HOK.out i (by omega) j (by omega); exact this : ∀ i j, i < n → j ≤ n → invR zs us i j ≤ 41 * j)
    have HFL := Lib.hid (fun i j hi hj => by have := fl_in HOK.out i j (by omega) (by omega); exact this : ∀ i j, i < n → j < n → -41 ≤ flP zs us i j ∧ flP zs us i j ≤ 40)
    have HFD := Lib.hid (fun i j => by have := Int.emod_add_mul_ediv (plc zs us (j : Int) - plc zs us (i : Int)) (zs.length : Int); rw [hzl] at this; exact this : ∀ i j : Nat, (plc zs us (j : Int) - plc zs us (i : Int)) % (n : Int) + (n : Int) * ((plc zs us (j : Int) - plc zs us (i : Int)) / (n : Int)) = plc zs us (j : Int) - plc zs us (i : Int))
    have HFP := Lib.hid (fun i j => by unfold flP; rw [hzl] : ∀ i j : Nat, flP zs us i j = (plc zs us (j : Int) - plc zs us (i : Int)) / (n : Int))
    have HT := Lib.hid ht
    clear ht hzl
    go_enter Try.func22, Try.ntmps22
    go_wp2_with fail
    have HC := cellNew w (.slice A n c) (.slice E m d) 30
    have HB := belAlloc (belRefl (w := w)) (.cells #[.slice A n c, .slice E m d] 30)
    refine (iIsTurned_any A n c zs E m d us _ (h.alloc _) (g.alloc _) hn hm).mono ?_
    rw [HT.out]
    rintro e w1 ⟨rfl, hb⟩
    replace HC := cellStep HC hb
    replace HB := belStep HB hb
    have HZ := Lib.hid HC.out.lt
    have p0 := HC.out.c0; have p1 := HC.out.c1
    clear hb h g
    go_wp2
    clear p0 p1
    go_loopw [5, 6, 7, 8, 16] (fun s5 _ _ _ s16 wr => ∃ i : Nat, i ≤ n ∧ s16 = .int .i64 (i : Int) ∧ s5 = .int .i64 (invS zs us i : Int) ∧ Below w1.heap.size w1 wr) (fun _ _ _ _ s16 _ => n - (intOf s16).toNat)
    case atStart => exact ⟨0, Nat.zero_le _, rfl, rfl, Below.refl _ _⟩
    case round =>
      obtain ⟨i, hi, rfl, rfl, hb⟩ := hrel
      have HN0 := Lib.hid hb
      have hcs := HSL.out i hi
      by_cases hlt : (i : Int) < (n : Int)
      · have HDI := Lib.hid (HSS.out i)
        obtain ⟨S, hS⟩ : ∃ S : Nat, S = invS zs us i := ⟨_, rfl⟩
        rw [← hS] at hcs HDI ⊢
        have hr0 := invR_start zs us i
        clear hS hb
        go_wp2
        go_loopw [5, 7, 8] (fun s5 s7 _ wr => ∃ j : Nat, i + 1 ≤ j ∧ j ≤ n ∧ s7 = .int .i64 (j : Int) ∧ s5 = .int .i64 ((S + invR zs us i j : Nat) : Int) ∧ Below w1.heap.size w1 wr) (fun _ s7 _ _ => n - (intOf s7).toNat)
        case atStart => exact ⟨i + 1, Nat.le_refl _, by omega, by go_num, by rw [hr0]; rfl, HN0.out⟩
        case round =>
          obtain ⟨j, hij, hjn, rfl, rfl, hb⟩ := hrel
          have HN := Lib.hid hb
          have HBr : Hid (Below w.heap.size w wr) := Lib.hid (HB.out.trans (hb.mono (Nat.le_of_lt HZ.out)))
          have HCr : Hid (Cell2 wr w.heap.size (.slice A n c) (.slice E m d)) := cellBelow HC HZ.out hb
          have p0 := HCr.out.c0; have p1 := HCr.out.c1; have pz := HCr.out.lt
          have hrl := HRL.out i j (by omega) hjn
          clear hb
          by_cases hjl : (j : Int) < (n : Int)
          · have hpx := plc_in HOK.out (i : Int) (by omega)
            have hpy := plc_in HOK.out (j : Int) (by omega)
            have hf := HFL.out i j (by omega) (by omega)
            have hdec := HFD.out i j
            have hfp := HFP.out i j
            have HD := Lib.hid (invR_succ zs us i j (by omega))
            rw [← hfp] at hdec
            obtain ⟨x, hx⟩ : ∃ x, x = plc zs us (i : Int) := ⟨_, rfl⟩
            obtain ⟨y, hy⟩ : ∃ y, y = plc zs us (j : Int) := ⟨_, rfl⟩
            rw [← hx, ← hy] at hdec
            rw [← hx] at hpx
            rw [← hy] at hpy
            have hm0 := Int.emod_nonneg (y - x) (b := (n : Int)) (by omega)
            have hm1 := Int.emod_lt_of_pos (y - x) (b := (n : Int)) (by omega)
            obtain ⟨f, hff⟩ : ∃ f, f = flP zs us i j := ⟨_, rfl⟩
            rw [← hff] at hf hdec HD
            have HPA := Lib.hid (placeAt_any ((y - x) % (n : Int)) f (n : Int) (y - x) · hdec.symm (by omega) (by omega) (by omega) (by omega) (by omega))
            have HX := Lib.hid hx; have HY := Lib.hid hy
            have hwd : IntKind.i64.wrap (y - x) = y - x := IntWalk.i64_in _ (by omega)
            obtain ⟨R, hR⟩ : ∃ R : Nat, R = invR zs us i j := ⟨_, rfl⟩
            rw [← hR] at hrl HD ⊢
            obtain ⟨a, ha⟩ : ∃ a, a = (y - x) % (n : Int) := ⟨_, rfl⟩
            rw [← ha] at HPA
            have hfd : ∀ w : World, (Instr.field 53 (.agg #[.int .i64 a, .int .i64 f]) 1).run Try.prog w = .ok (.int .i64 f) w := fun _ => by kernel_rfl
            clear hx hy hff hR hdec hfp hm0 hm1 ha
            go_wp2_with fail
            go_region_law (first
              | (go_simp; go_at_call 35; have hx := HC7.out.c0; clear hx; refine (HPA.out _).mono ?_; rintro e w8 ⟨rfl, hb⟩; have HN8 : Hid (Below w1.heap.size w1 w8) := Lib.hid (HN7.out.trans (hb.mono HN7.out.size)); clear hb)
              | (go_simp; go_at_call 34; have hx := HC6.out.c0; clear hx; refine (iplaceOf_any A n c zs E m d us (i : Int) _ (rbK HA0 (HB6.out)) (rbK HE0 (HB6.out)) HOK.out (by omega)).mono ?_; rw [← HX.out]; rintro e w7 ⟨rfl, hb⟩; have HC7 := cellStep HC6 hb; have HB7 := belStep HB6 hb; have HN7 : Hid (Below w1.heap.size w1 w7) := Lib.hid (HN6.out.trans (hb.mono HN6.out.size)); clear hb; have q0 := HC7.out.c0; have q1 := HC7.out.c1)
              | (go_simp; go_at_call 34; refine (iplaceOf_any A n c zs E m d us (j : Int) _ (rbK HA0 (HBr.out.drew)) (rbK HE0 (HBr.out.drew)) HOK.out (by omega)).mono ?_; rw [← HY.out]; rintro e w6 ⟨rfl, hb⟩; have HC6 := cellStep (cellDrew HCr) hb; have HB6 := belStep (belDrew HBr) hb; have HN6 : Hid (Below w1.heap.size w1 w6) := Lib.hid (HN.out.drew.trans (hb.mono HN.out.size)); clear hb; have q0 := HC6.out.c0; have q1 := HC6.out.c1))
            all_goals
              go_wp2
              go_roundw
              case rel =>
                refine ⟨j + 1, by omega, by omega, by go_num, ?_, HN8.out⟩
                have e : ((S : Int) + (R : Int) + max f (-f)) = ((S + invR zs us i (j + 1) : Nat) : Int) := by rw [HD.out]; omega
                first | rw [e] | (simp only [e])
              case measure => simp [intOf]; omega
          · obtain rfl : j = n := by omega
            go_wp2
            go_roundw
            case rel => exact ⟨i + 1, by omega, by go_num, by rw [HDI.out], HN.out⟩
            case measure => simp [intOf]; omega
      · obtain rfl : i = n := by omega
        have HBr : Hid (Below w.heap.size w wr) := Lib.hid (HB.out.trans (hb.mono (Nat.le_of_lt HZ.out)))
        rw [HALL.out]
        clear hb
        go_wp2
        go_ret2
        exact ⟨rfl, HBr.out⟩

theorem iPoleInversions_any (A : Option Addr) (n c : Nat) (zs : List Int) (E : Option Addr) (m d : Nat) (us : List Int) (w : World) (h : RI w A n zs) (g : RI w E m us) (hn : n ≤ 1048576) (hm : m ≤ 1048576) (_ : n ≤ c) :
    Calls Try.prog 22 #[.agg #[.slice A n c, .slice E m d]] w (RetIB (invN zs us) (trn zs us) w) := iPoleInversions_raw A n c zs E m d us w h g hn hm
end Go.Proofs.Ytpkdeoehfnnchaa
