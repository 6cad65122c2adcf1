/- ChanceOf, MeanAtHome and GapOf, of the program and of their models. -/
import Derived.Test.YtbgkhehopldilaaCe11
import Derived.Test.YtbgkhehopldilaaRt1
namespace Go.Proofs.Ytbgkhehopldilaa
open Go Go.RowKit

/-- the chance to come out at e -/
def coA (n k s e : Int) : Int := if ceQ n k s e = true then rtA (ceN n k s e).toNat n k else 0
def coB (n k s e : Int) : Int := if ceQ n k s e = true then rtB (ceN n k s e).toNat n k else 0
theorem coA_no {n k s e : Int} (h : ceQ n k s e = false) : coA n k s e = 0 := by unfold coA; rw [h]; rfl
theorem coB_no {n k s e : Int} (h : ceQ n k s e = false) : coB n k s e = 0 := by unfold coB; rw [h]; rfl
theorem coA_yes {n k s e : Int} (h : ceQ n k s e = true) : coA n k s e = rtA (ceN n k s e).toNat n k := by unfold coA; rw [if_pos h]
theorem coB_yes {n k s e : Int} (h : ceQ n k s e = true) : coB n k s e = rtB (ceN n k s e).toNat n k := by unfold coB; rw [if_pos h]
theorem ceQ_fall {n k s e : Int} (h : ceQ n k s e = true) : fallB n k = true := by
  unfold ceQ at h; rw [Bool.and_eq_true] at h; exact h.1

set_option maxRecDepth 100000 in
set_option maxHeartbeats 1000000 in
theorem sChanceOf_any (n k s e : Int) (w : World) (lo : -9223372036854775808 ≤ n) (hi : n ≤ 9223372036854775807) :
    Calls Try.prog 19 #[.int .i64 n, .int .i64 k, .int .i64 s, .int .i64 e] w (RetRB (coA n k s e) (coB n k s e) (ceQ n k s e) w) := by
  have HCE := Lib.hid (fun w2 => sCountEnds_any n k s e w2 lo hi)
  rcases hq : ceQ n k s e with _ | _
  · rw [hq, ceN_no hq] at HCE
    rw [coA_no hq, coB_no hq]
    clear hq
    go_enter Try.func19, Try.ntmps19
    go_wp2_with fail
    have HC := cellNew w (.int .i64 0) (.int .i64 0) 32
    have HB := belAlloc (belRefl (w := w)) (.cells #[.int .i64 0, .int .i64 0] 32)
    refine (HCE.out _).mono ?_
    rintro e1 w1 ⟨rfl, hb⟩
    replace HC := cellStep HC hb
    replace HB := belStep HB hb
    have k0 := HC.out.c0; have k1 := HC.out.c1; have f0 := HC.out.f0; have f1 := HC.out.f1; have kz := HC.out.lt
    clear hb HCE
    go_wp2
    exact bodyPost_ret (v := .tuple #[.agg #[.int .i64 0, .int .i64 0], .bool false]) (by simp [results, Try.results19, go_sem, k0, k1]) rfl ⟨rfl, (by repeat (first | exact Below.refl _ _ | exact HB.out | refine Below.setCell ?_ (by simp <;> omega) _ | refine Below.alloc ?_ (by simp <;> omega) _ | refine below_drewN ?_ _))⟩
  · obtain ⟨c, hc⟩ : ∃ c : Nat, ceN n k s e = (c : Int) := ⟨(ceN n k s e).toNat, by have := ceN_in n k s e; omega⟩
    have hcl : c ≤ 4000000000000000000 := by have := ceN_in n k s e; omega
    rw [hq, hc] at HCE
    rw [coA_yes hq, coB_yes hq, hc, Int.toNat_natCast]
    have HR := Lib.hid (chRatio_rt c (ceQ_fall hq) hcl)
    have HF := Lib.hid (ceQ_fall hq)
    obtain ⟨q1, hq1⟩ : ∃ q1, q1 = rtA c n k := ⟨_, rfl⟩
    obtain ⟨q2, hq2⟩ : ∃ q2, q2 = rtB c n k := ⟨_, rfl⟩
    rw [← hq1, ← hq2] at HR ⊢
    clear hq hq1 hq2 hc
    go_enter Try.func19, Try.ntmps19
    go_wp2_with fail
    have HC := cellNew w (.int .i64 0) (.int .i64 0) 32
    have HB := belAlloc (belRefl (w := w)) (.cells #[.int .i64 0, .int .i64 0] 32)
    refine (HCE.out _).mono ?_
    rintro e1 w1 ⟨rfl, hb⟩
    replace HC := cellStep HC hb
    replace HB := belStep HB hb
    clear hb HCE
    go_wp2_with (first | (go_at_call 27; refine (chAll_any _ _ _ HF.out).mono ?_; rintro e w2 ⟨rfl, rfl⟩))
    refine (HR.out _).mono ?_
    rintro e2 w2 ⟨rfl, hb⟩
    replace HC := cellStep HC hb
    replace HB := belStep HB hb
    have k0 := HC.out.c0; have k1 := HC.out.c1; have f0 := HC.out.f0; have f1 := HC.out.f1; have kz := HC.out.lt
    clear hb HR
    go_wp2
    exact bodyPost_ret (v := .tuple #[.agg #[.int .i64 q1, .int .i64 q2], .bool true]) (by simp [results, Try.results19, go_sem, k0, k1]) rfl ⟨rfl, (by repeat (first | exact Below.refl _ _ | exact HB.out | refine Below.setCell ?_ (by simp <;> omega) _ | refine Below.alloc ?_ (by simp <;> omega) _ | refine below_drewN ?_ _))⟩

set_option maxRecDepth 100000 in
set_option maxHeartbeats 1000000 in
theorem iChanceOf_any (n k s e : Int) (w : World) (lo : -9223372036854775808 ≤ n) (hi : n ≤ 9223372036854775807) :
    Calls Try.prog 16 #[.int .i64 n, .int .i64 k, .int .i64 s, .int .i64 e] w (RetRB (coA n k s e) (coB n k s e) (ceQ n k s e) w) := by
  have HCE := Lib.hid (fun w2 => iCountEnds_any n k s e w2 lo hi)
  rcases hq : ceQ n k s e with _ | _
  · rw [hq, ceN_no hq] at HCE
    rw [coA_no hq, coB_no hq]
    clear hq
    go_enter Try.func16, Try.ntmps16
    go_wp2_with fail
    have HC := cellNew w (.int .i64 0) (.int .i64 0) 32
    have HB := belAlloc (belRefl (w := w)) (.cells #[.int .i64 0, .int .i64 0] 32)
    refine (HCE.out _).mono ?_
    rintro e1 w1 ⟨rfl, hb⟩
    replace HC := cellStep HC hb
    replace HB := belStep HB hb
    have k0 := HC.out.c0; have k1 := HC.out.c1; have f0 := HC.out.f0; have f1 := HC.out.f1; have kz := HC.out.lt
    clear hb HCE
    go_wp2
    exact bodyPost_ret (v := .tuple #[.agg #[.int .i64 0, .int .i64 0], .bool false]) (by simp [results, Try.results16, go_sem, k0, k1]) rfl ⟨rfl, (by repeat (first | exact Below.refl _ _ | exact HB.out | refine Below.setCell ?_ (by simp <;> omega) _ | refine Below.alloc ?_ (by simp <;> omega) _ | refine below_drewN ?_ _))⟩
  · obtain ⟨c, hc⟩ : ∃ c : Nat, ceN n k s e = (c : Int) := ⟨(ceN n k s e).toNat, by have := ceN_in n k s e; omega⟩
    have hcl : c ≤ 4000000000000000000 := by have := ceN_in n k s e; omega
    rw [hq, hc] at HCE
    rw [coA_yes hq, coB_yes hq, hc, Int.toNat_natCast]
    have HR := Lib.hid (meanOf_rt c (ceQ_fall hq) hcl)
    have HF := Lib.hid (ceQ_fall hq)
    obtain ⟨q1, hq1⟩ : ∃ q1, q1 = rtA c n k := ⟨_, rfl⟩
    obtain ⟨q2, hq2⟩ : ∃ q2, q2 = rtB c n k := ⟨_, rfl⟩
    rw [← hq1, ← hq2] at HR ⊢
    clear hq hq1 hq2 hc
    go_enter Try.func16, Try.ntmps16
    go_wp2_with fail
    have HC := cellNew w (.int .i64 0) (.int .i64 0) 32
    have HB := belAlloc (belRefl (w := w)) (.cells #[.int .i64 0, .int .i64 0] 32)
    refine (HCE.out _).mono ?_
    rintro e1 w1 ⟨rfl, hb⟩
    replace HC := cellStep HC hb
    replace HB := belStep HB hb
    clear hb HCE
    go_wp2_with fail
    refine (HR.out _).mono ?_
    rintro e2 w2 ⟨rfl, hb⟩
    replace HC := cellStep HC hb
    replace HB := belStep HB hb
    have k0 := HC.out.c0; have k1 := HC.out.c1; have f0 := HC.out.f0; have f1 := HC.out.f1; have kz := HC.out.lt
    clear hb HR
    go_wp2
    exact bodyPost_ret (v := .tuple #[.agg #[.int .i64 q1, .int .i64 q2], .bool true]) (by simp [results, Try.results16, go_sem, k0, k1]) rfl ⟨rfl, (by repeat (first | exact Below.refl _ _ | exact HB.out | refine Below.setCell ?_ (by simp <;> omega) _ | refine Below.alloc ?_ (by simp <;> omega) _ | refine below_drewN ?_ _))⟩

/-- how many come out where they start, in all ladders together: the first j starts -/
def homeS (n K j : Nat) : Nat := ((List.range j).map fun (s : Nat) => (gi (endsC n K (s : Int)) s).toNat).sum
theorem homeS_succ (n K j : Nat) : homeS n K (j + 1) = homeS n K j + (gi (endsC n K (j : Int)) j).toNat := by
  unfold homeS; rw [List.range_succ, List.map_append, List.sum_append]; simp
theorem homeS_le {n K j : Nat} (hj : j ≤ n) (hn : n ≤ 6) (hK : K ≤ 20) : homeS n K j ≤ j * 95367431640625 := by
  unfold homeS
  have h := ssum_le (fun (s : Nat) => (gi (endsC n K (s : Int)) s).toNat) (fun _ => 95367431640625) (List.range j) (fun s hs => by
    have := endsC_in (n := n) (k := K) (v := s) (s := (s : Int)) (by have := List.mem_range.1 hs; omega) hn hK
    omega)
  rw [ssum_const, List.length_range] at h
  exact h
def ahA (n k : Int) : Int := if fallB n k = true then rtA (homeS n.toNat k.toNat n.toNat) n k else 0
def ahB (n k : Int) : Int := if fallB n k = true then rtB (homeS n.toNat k.toNat n.toNat) n k else 0
theorem ahA_no {n k : Int} (h : fallB n k = false) : ahA n k = 0 := by unfold ahA; rw [h]; rfl
theorem ahB_no {n k : Int} (h : fallB n k = false) : ahB n k = 0 := by unfold ahB; rw [h]; rfl
theorem ahA_yes {n k : Int} (h : fallB n k = true) : ahA n k = rtA (homeS n.toNat k.toNat n.toNat) n k := by unfold ahA; rw [if_pos h]
theorem ahB_yes {n k : Int} (h : fallB n k = true) : ahB n k = rtB (homeS n.toNat k.toNat n.toNat) n k := by unfold ahB; rw [if_pos h]

set_option maxRecDepth 100000 in
set_option maxHeartbeats 2000000 in
theorem sMeanAtHome_any (n k : Int) (w : World) : Calls Try.prog 13 #[.int .i64 n, .int .i64 k] w (RetRB (ahA n k) (ahB n k) (fallB n k) w) := by
  rcases hq : fallB n k with _ | _
  · rw [ahA_no hq, ahB_no hq]
    have HF := Lib.hid hq
    clear hq
    go_enter Try.func13, Try.ntmps13
    go_wp2_with (go_at_call 23; refine (chGood_any _ _ _).mono ?_; rw [HF.out]; rintro e w2 ⟨rfl, rfl⟩)
    have HC := cellNew w (.int .i64 0) (.int .i64 0) 32
    have HB := belAlloc (belRefl (w := w)) (.cells #[.int .i64 0, .int .i64 0] 32)
    exact bodyPost_ret (v := .tuple #[.agg #[.int .i64 0, .int .i64 0], .bool false]) (by simp [results, Try.results13, go_sem]) rfl ⟨rfl, (by repeat (first | exact Below.refl _ _ | exact HB.out | refine Below.setCell ?_ (by simp <;> omega) _ | refine Below.alloc ?_ (by simp <;> omega) _ | refine below_drewN ?_ _))⟩
  · rw [ahA_yes hq, ahB_yes hq]
    have HF := Lib.hid hq
    obtain ⟨⟨h2, h6⟩, hk0, hk⟩ := fallB_iff.1 hq
    obtain ⟨N, rfl⟩ : ∃ N : Nat, n = (N : Int) := ⟨n.toNat, by omega⟩
    obtain ⟨K, rfl⟩ : ∃ K : Nat, k = (K : Int) := ⟨k.toNat, by omega⟩
    rw [Int.toNat_natCast, Int.toNat_natCast]
    clear hq
    have hS : Hid (∀ j, j ≤ N → homeS N K j ≤ j * 95367431640625) := Lib.hid fun j hj => homeS_le hj (by omega) (by omega)
    have HR := Lib.hid (chRatio_rt (homeS N K N) HF.out (by have := hS.out N (Nat.le_refl _); omega))
    obtain ⟨q1, hq1⟩ : ∃ q1, q1 = rtA (homeS N K N) (N : Int) (K : Int) := ⟨_, rfl⟩
    obtain ⟨q2, hq2⟩ : ∃ q2, q2 = rtB (homeS N K N) (N : Int) (K : Int) := ⟨_, rfl⟩
    rw [← hq1, ← hq2] at HR ⊢
    clear hq1 hq2
    go_enter Try.func13, Try.ntmps13
    go_wp2_with (go_at_call 23; refine (chGood_any _ _ _).mono ?_; rw [HF.out]; rintro e w2 ⟨rfl, rfl⟩)
    have HC := cellNew w (.int .i64 0) (.int .i64 0) 32
    have HB := belAlloc (belRefl (w := w)) (.cells #[.int .i64 0, .int .i64 0] 32)
    go_loopw [6, 7] (fun s6 sj wr => ∃ (j a : Nat), j ≤ N ∧ sj = .int .i64 (j : Int) ∧ s6 = .int .i64 (a : Int) ∧ a = homeS N K j ∧ Cell2 wr w.heap.size (.int .i64 0) (.int .i64 0) ∧ Below w.heap.size w wr) (fun _ sj _ => N - (intOf sj).toNat)
    case atStart => exact ⟨0, 0, Nat.zero_le _, rfl, rfl, rfl, HC.out, HB.out⟩
    case round =>
      obtain ⟨j, a, hj, rfl, rfl, ha, hc, hbl⟩ := hrel
      replace HC := Lib.hid hc
      replace HB := Lib.hid hbl
      have HA := Lib.hid ha
      have hal : (a : Int) ≤ 1000000000000000 := by have := hS.out j hj; omega
      clear hc hbl ha
      by_cases hlt : (j : Int) < (N : Int)
      · have HCE := Lib.hid (chEnds_any N K j wr (by omega) (by omega) (by omega) (by omega))
        have hin := endsC_in (n := N) (k := K) (v := j) (s := (j : Int)) (by omega) (by omega) (by omega)
        have hsucc := homeS_succ N K j
        obtain ⟨c, hcc⟩ : ∃ c : Nat, gi (endsC N K (j : Int)) j = (c : Int) := ⟨(gi (endsC N K (j : Int)) j).toNat, by omega⟩
        rw [hcc] at hin hsucc
        have HS := Lib.hid hsucc
        have HCC := Lib.hid hcc
        clear hsucc hcc
        go_wp2_with fail
        refine HCE.out.mono ?_
        rintro e w1 ⟨g, rfl, ho, hb⟩
        have ck := ho.cells j (by omega)
        rw [HCC.out] at ck
        replace HC := cellStep HC hb
        replace HB := belStep HB hb
        clear ho hb HCE
        go_wp2
        go_roundw
        case rel => exact ⟨j + 1, a + c, by omega, by go_num, by first | rfl | go_num, by rw [HS.out, HA.out, Int.toNat_natCast], HC.out, HB.out⟩
        case measure => simp [intOf]; omega
      · obtain rfl : j = N := by omega
        have HR2 : Hid (∀ w, Calls Try.prog 26 #[.int .i64 (a : Int), .int .i64 (allN (j : Int) (K : Int) : Int)] w (RetR2 q1 q2 w)) := by have := HR.out; rw [← HA.out] at this; exact this
        clear hal
        go_wp2_with (first | (go_at_call 27; refine (chAll_any _ _ _ HF.out).mono ?_; rintro e w2 ⟨rfl, rfl⟩))
        refine (HR2.out _).mono ?_
        rintro e2 w2 ⟨rfl, hb⟩
        replace HC := cellStep HC hb
        replace HB := belStep HB hb
        have k0 := HC.out.c0; have k1 := HC.out.c1; have f0 := HC.out.f0; have f1 := HC.out.f1; have kz := HC.out.lt
        clear hb HR HR2
        go_wp2
        exact bodyPost_ret (v := .tuple #[.agg #[.int .i64 q1, .int .i64 q2], .bool true]) (by simp [results, Try.results13, go_sem, k0, k1]) rfl ⟨rfl, (by repeat (first | exact Below.refl _ _ | exact HB.out | refine Below.setCell ?_ (by simp <;> omega) _ | refine Below.alloc ?_ (by simp <;> omega) _ | refine below_drewN ?_ _))⟩

set_option maxRecDepth 100000 in
set_option maxHeartbeats 2000000 in
theorem iMeanAtHome_any (n k : Int) (w : World) : Calls Try.prog 12 #[.int .i64 n, .int .i64 k] w (RetRB (ahA n k) (ahB n k) (fallB n k) w) := by
  rcases hq : fallB n k with _ | _
  · rw [ahA_no hq, ahB_no hq]
    have HF := Lib.hid hq
    clear hq
    go_enter Try.func12, Try.ntmps12
    go_wp2_with (go_at_call 28; refine (isFall_any _ _ _).mono ?_; rw [HF.out]; rintro e w2 ⟨rfl, rfl⟩)
    have HC := cellNew w (.int .i64 0) (.int .i64 0) 32
    have HB := belAlloc (belRefl (w := w)) (.cells #[.int .i64 0, .int .i64 0] 32)
    exact bodyPost_ret (v := .tuple #[.agg #[.int .i64 0, .int .i64 0], .bool false]) (by simp [results, Try.results12, go_sem]) rfl ⟨rfl, (by repeat (first | exact Below.refl _ _ | exact HB.out | refine Below.setCell ?_ (by simp <;> omega) _ | refine Below.alloc ?_ (by simp <;> omega) _ | refine below_drewN ?_ _))⟩
  · rw [ahA_yes hq, ahB_yes hq]
    have HF := Lib.hid hq
    obtain ⟨⟨h2, h6⟩, hk0, hk⟩ := fallB_iff.1 hq
    obtain ⟨N, rfl⟩ : ∃ N : Nat, n = (N : Int) := ⟨n.toNat, by omega⟩
    obtain ⟨K, rfl⟩ : ∃ K : Nat, k = (K : Int) := ⟨k.toNat, by omega⟩
    rw [Int.toNat_natCast, Int.toNat_natCast]
    clear hq
    have hS : Hid (∀ j, j ≤ N → homeS N K j ≤ j * 95367431640625) := Lib.hid fun j hj => homeS_le hj (by omega) (by omega)
    have HR := Lib.hid (meanOf_rt (homeS N K N) HF.out (by have := hS.out N (Nat.le_refl _); omega))
    obtain ⟨q1, hq1⟩ : ∃ q1, q1 = rtA (homeS N K N) (N : Int) (K : Int) := ⟨_, rfl⟩
    obtain ⟨q2, hq2⟩ : ∃ q2, q2 = rtB (homeS N K N) (N : Int) (K : Int) := ⟨_, rfl⟩
    rw [← hq1, ← hq2] at HR ⊢
    clear hq1 hq2
    go_enter Try.func12, Try.ntmps12
    go_wp2_with (go_at_call 28; refine (isFall_any _ _ _).mono ?_; rw [HF.out]; rintro e w2 ⟨rfl, rfl⟩)
    have HC := cellNew w (.int .i64 0) (.int .i64 0) 32
    have HB := belAlloc (belRefl (w := w)) (.cells #[.int .i64 0, .int .i64 0] 32)
    go_loopw [6, 14] (fun s6 sj wr => ∃ (j a : Nat), j ≤ N ∧ sj = .int .i64 (j : Int) ∧ s6 = .int .i64 (a : Int) ∧ a = homeS N K j ∧ Cell2 wr w.heap.size (.int .i64 0) (.int .i64 0) ∧ Below w.heap.size w wr) (fun _ sj _ => N - (intOf sj).toNat)
    case atStart => exact ⟨0, 0, Nat.zero_le _, rfl, rfl, rfl, HC.out, HB.out⟩
    case round =>
      obtain ⟨j, a, hj, rfl, rfl, ha, hc, hbl⟩ := hrel
      replace HC := Lib.hid hc
      replace HB := Lib.hid hbl
      have HA := Lib.hid ha
      have hal : (a : Int) ≤ 1000000000000000 := by have := hS.out j hj; omega
      clear hc hbl ha
      by_cases hlt : (j : Int) < (N : Int)
      · have HCE := Lib.hid (countsOfEnds_any N K j wr (by omega) (by omega) (by omega) (by omega))
        have hin := endsC_in (n := N) (k := K) (v := j) (s := (j : Int)) (by omega) (by omega) (by omega)
        have hsucc := homeS_succ N K j
        obtain ⟨c, hcc⟩ : ∃ c : Nat, gi (endsC N K (j : Int)) j = (c : Int) := ⟨(gi (endsC N K (j : Int)) j).toNat, by omega⟩
        rw [hcc] at hin hsucc
        have HS := Lib.hid hsucc
        have HCC := Lib.hid hcc
        clear hsucc hcc
        go_wp2_with fail
        refine HCE.out.mono ?_
        rintro e w1 ⟨g, rfl, hr, hb⟩
        obtain ⟨b, off, hgo, _, hcell⟩ := hr.cell (show j < N by omega)
        injection hgo with hgo
        injection hgo with h1 h2 _
        subst h1 h2
        have ck := hcell j (by omega)
        rw [Nat.zero_add] at ck
        rw [HCC.out] at ck
        replace HC := cellStep HC hb
        replace HB := belStep HB hb
        clear hr hcell hb HCE
        go_wp2
        go_roundw
        case rel => exact ⟨j + 1, a + c, by omega, by go_num, by first | rfl | go_num, by rw [HS.out, HA.out, Int.toNat_natCast], HC.out, HB.out⟩
        case measure => simp [intOf]; omega
      · obtain rfl : j = N := by omega
        have HR2 : Hid (∀ w, Calls Try.prog 22 #[.int .i64 (a : Int), .int .i64 (j : Int), .int .i64 (K : Int)] w (RetR2 q1 q2 w)) := by have := HR.out; rw [← HA.out] at this; exact this
        clear hal
        go_wp2_with fail
        refine (HR2.out _).mono ?_
        rintro e2 w2 ⟨rfl, hb⟩
        replace HC := cellStep HC hb
        replace HB := belStep HB hb
        have k0 := HC.out.c0; have k1 := HC.out.c1; have f0 := HC.out.f0; have f1 := HC.out.f1; have kz := HC.out.lt
        clear hb HR HR2
        go_wp2
        exact bodyPost_ret (v := .tuple #[.agg #[.int .i64 q1, .int .i64 q2], .bool true]) (by simp [results, Try.results12, go_sem, k0, k1]) rfl ⟨rfl, (by repeat (first | exact Below.refl _ _ | exact HB.out | refine Below.setCell ?_ (by simp <;> omega) _ | refine Below.alloc ?_ (by simp <;> omega) _ | refine below_drewN ?_ _))⟩
end Go.Proofs.Ytbgkhehopldilaa
