/- The model's taking game: who can win, how long it lasts, good rungs. -/
import Derived.Test.YtiapbmgpjloafaaGn1
import Derived.Test.YtiapbmgpjloafaaGt2
import Derived.Deep.RegionHeld3
namespace Go.Proofs.Ytiapbmgpjloafaa
open Go Go.RowKit

theorem full_lt (n : Nat) : 2 ^ n - 1 < 2 ^ n := by have := Nat.two_pow_pos n; omega
theorem full_home {W : Int} {zs : List Int} (h : tkB W zs = true) : homeQ zs W.toNat (2 ^ zs.length - 1) = false := by
  have := (tkB_iff.1 h).2.2
  unfold homeQ
  rw [leftL_full]; exact this
theorem sc_pos {o : OutP} (h : 1 ≤ o.2) : decide (0 < scO o) = o.1 := by
  obtain ⟨a, m⟩ := o
  simp only at h
  unfold scO
  cases a
  · first | (simp; done) | (simp; omega)
  · first | (simp; done) | (simp; omega)
theorem sc_neg {o : OutP} (h : 1 ≤ o.2) : decide (scO o < 0) = !o.1 := by
  obtain ⟨a, m⟩ := o
  simp only at h
  unfold scO
  cases a
  · first | (simp; done) | (simp; omega)
  · first | (simp; done) | (simp; omega)
theorem sc_abs (o : OutP) : max (scO o) (-(scO o)) = (o.2 : Int) := by
  obtain ⟨a, m⟩ := o
  unfold scO
  cases a
  · simp; omega
  · simp; omega
theorem sc_le {o : OutP} {M : Nat} (h : o.2 ≤ M) : -(M : Int) ≤ scO o ∧ scO o ≤ M := by
  obtain ⟨a, m⟩ := o
  simp only at h
  unfold scO
  cases a
  · simp; omega
  · simp; omega

set_option maxRecDepth 100000 in
set_option maxHeartbeats 2000000 in
theorem gAbs_any (x : Int) (w : World) (h1 : -1000000 ≤ x) (h2 : x ≤ 1000000) : Calls Try.prog 39 #[.int .i64 x] w (fun e w' => e = .returned (.int .i64 (max x (-x))) ∧ w' = w) := by
  have hw : IntKind.i64.wrap (-x) = -x := IntWalk.i64_in _ (by omega)
  obtain ⟨y, hy⟩ : ∃ y, y = -x := ⟨_, rfl⟩
  rw [← hy] at hw ⊢
  have HY := Lib.hid hy
  clear hy
  go_enter Try.func39, Try.ntmps39
  go_wp2_with (go_at_call 54; refine (gMost_any _ _ _).mono ?_; rintro e w9 ⟨rfl, hw9⟩; replace hw9 := hw9.symm; subst hw9)
  go_ret
  exact ⟨by rw [HY.out]; rfl, rfl⟩


set_option maxRecDepth 100000 in
set_option maxHeartbeats 2000000 in
theorem sTakeWinner_any (W : Int) (A : Option Addr) (n c : Nat) (zs : List Int) (w : World) (h : RI w A n zs) (hn : n ≤ 1048576) :
    Calls Try.prog 11 #[.agg #[.int .i64 W, .slice A n c]] w (RetBB (tkwB W zs) (tkB W zs) w) := by
  have hz := h.1
  have HA := boxNew (W := W) (c := c) 28 h
  have HB := belAlloc (belRefl (w := w)) (.cells #[.int .i64 W, .slice A n c] 28)
  have HG := Lib.hid (fun w2 (r : RI w2 A n zs) => gaTaking_any W A n c zs w2 r hn)
  rcases hq : tkB W zs with _ | _
  · rw [tkwB_no hq]
    rw [hq] at HG
    clear hq h hz
    go_enter Try.func11, Try.ntmps11
    go_wp2_with fail
    refine (HG.out _ HA.out.ri).mono ?_
    rintro e w1 ⟨rfl, hb⟩
    replace HB := belStep HB hb
    clear hb
    go_wp2
    go_ret2
    exact ⟨rfl, HB.out⟩
  · rw [tkwB_yes hq]
    rw [hq] at HG
    have hq2 := tkB_iff.1 hq
    have hn12 : n ≤ 12 := by omega
    have hW := (lad_iff.1 hq2.1).1
    have hfh := full_home hq
    have hpos := ovS_pos hfh
    obtain ⟨N, rfl⟩ : ∃ N : Nat, W = (N : Int) := ⟨W.toNat, by omega⟩
    rw [Int.toNat_natCast] at hpos ⊢
    have HN := Lib.hid (fun w2 (r : RI w2 A n zs) => gaNew_any N A n c zs w2 r hn12 hq2.1)
    rw [hz] at hpos ⊢
    have hp1 := Nat.two_pow_pos n
    have hp2 := pow12 hn12
    have HSC := Lib.hid (sc_pos hpos)
    unfold GaPost at HN
    obtain ⟨P, hP⟩ : ∃ P, P = 2 ^ n := ⟨_, rfl⟩
    rw [← hP] at HN HSC hp1 hp2 ⊢
    have hpw : IntKind.i64.wrap ((P : Int) - 1) = ((P - 1 : Nat) : Int) := by rw [IntWalk.i64_in _ (by omega)]; omega
    obtain ⟨Q, hQ⟩ : ∃ Q, Q = P - 1 := ⟨_, rfl⟩
    rw [← hQ] at HSC hpw ⊢
    have hQP : Q < P := by omega
    obtain ⟨r, hr⟩ : ∃ r, r = (ovS zs N Q).1 := ⟨_, rfl⟩
    rw [← hr] at HSC ⊢
    clear hq h hz hq2 hfh hpos hP hQ hr hW
    go_enter Try.func11, Try.ntmps11
    go_wp2_with fail
    refine (HG.out _ HA.out.ri).mono ?_
    rintro e w1 ⟨rfl, hb⟩
    replace HA := boxStep HA hb; replace HB := belStep HB hb
    have a0 := HA.out.c0; have a1 := HA.out.c1; have az := HA.out.lt
    clear hb HG
    go_wp2_with fail
    refine (HN.out _ HA.out.ri).mono ?_
    rintro e w2 ⟨g, gh, gl, rfl, hT, hRH, hRL, hb⟩
    replace HB := belStep HB hb
    have g2 := hT.c2; have g3 := hT.c3; have gz := hT.lt
    have hc := hRL.cell hQP
    have HX := Lib.hid HSC.out
    obtain ⟨x, hx⟩ : ∃ x, x = scO (ovS zs N Q) := ⟨_, rfl⟩
    rw [← hx] at hc HX
    have hQi : (Q : Int) < (P : Int) := by omega
    have hQ0 : (0 : Int) ≤ (Q : Int) := by omega
    clear hb hT hRH hRL HN HA a0 a1 az hx HSC
    go_wp2
    go_region
    all_goals
      go_wp2
      go_ret2
      exact ⟨by rw [← HX.out]; rfl, HB.out.drew⟩

set_option maxRecDepth 100000 in
set_option maxHeartbeats 2000000 in
theorem sTakeLength_any (W : Int) (A : Option Addr) (n c : Nat) (zs : List Int) (w : World) (h : RI w A n zs) (hn : n ≤ 1048576) :
    Calls Try.prog 21 #[.agg #[.int .i64 W, .slice A n c]] w (RetIB (tklN W zs) (tkB W zs) w) := by
  have hz := h.1
  have HA := boxNew (W := W) (c := c) 28 h
  have HB := belAlloc (belRefl (w := w)) (.cells #[.int .i64 W, .slice A n c] 28)
  have HG := Lib.hid (fun w2 (r : RI w2 A n zs) => gaTaking_any W A n c zs w2 r hn)
  rcases hq : tkB W zs with _ | _
  · rw [tklN_no hq]
    rw [hq] at HG
    clear hq h hz
    go_enter Try.func21, Try.ntmps21
    go_wp2_with fail
    refine (HG.out _ HA.out.ri).mono ?_
    rintro e w1 ⟨rfl, hb⟩
    replace HB := belStep HB hb
    clear hb
    go_wp2
    go_ret2
    exact ⟨rfl, HB.out⟩
  · rw [tklN_yes hq]
    rw [hq] at HG
    have hq2 := tkB_iff.1 hq
    have hn12 : n ≤ 12 := by omega
    have hW := (lad_iff.1 hq2.1).1
    obtain ⟨N, rfl⟩ : ∃ N : Nat, W = (N : Int) := ⟨W.toNat, by omega⟩
    rw [Int.toNat_natCast]
    have HN := Lib.hid (fun w2 (r : RI w2 A n zs) => gaNew_any N A n c zs w2 r hn12 hq2.1)
    rw [hz]
    have hp1 := Nat.two_pow_pos n
    have hp2 := pow12 hn12
    have hle := sc_le (ovS_le (zs := zs) (N := N) (2 ^ n - 1))
    have HSC := Lib.hid (sc_abs (ovS zs N (2 ^ n - 1)))
    unfold GaPost at HN
    obtain ⟨P, hP⟩ : ∃ P, P = 2 ^ n := ⟨_, rfl⟩
    rw [← hP] at HN HSC hp1 hp2 hle ⊢
    have hpw : IntKind.i64.wrap ((P : Int) - 1) = ((P - 1 : Nat) : Int) := by rw [IntWalk.i64_in _ (by omega)]; omega
    obtain ⟨Q, hQ⟩ : ∃ Q, Q = P - 1 := ⟨_, rfl⟩
    rw [← hQ] at HSC hpw hle ⊢
    have hQP : Q < P := by omega
    obtain ⟨r, hr⟩ : ∃ r : Int, r = ((ovS zs N Q).2 : Int) := ⟨_, rfl⟩
    rw [← hr] at HSC ⊢
    clear hq h hz hq2 hP hQ hr hW
    go_enter Try.func21, Try.ntmps21
    go_wp2_with fail
    refine (HG.out _ HA.out.ri).mono ?_
    rintro e w1 ⟨rfl, hb⟩
    replace HA := boxStep HA hb; replace HB := belStep HB hb
    have a0 := HA.out.c0; have a1 := HA.out.c1; have az := HA.out.lt
    clear hb HG
    go_wp2_with fail
    refine (HN.out _ HA.out.ri).mono ?_
    rintro e w2 ⟨g, gh, gl, rfl, hT, hRH, hRL, hb⟩
    replace HB := belStep HB hb
    have g2 := hT.c2; have g3 := hT.c3; have gz := hT.lt
    have hc := hRL.cell hQP
    have HX := Lib.hid HSC.out
    obtain ⟨x, hx⟩ : ∃ x, x = scO (ovS zs N Q) := ⟨_, rfl⟩
    rw [← hx] at hc HX hle
    have HAB := Lib.hid (fun w9 => gAbs_any x w9 (by omega) (by omega))
    rw [HX.out] at HAB
    have hQi : (Q : Int) < (P : Int) := by omega
    have hQ0 : (0 : Int) ≤ (Q : Int) := by omega
    clear hb hT hRH hRL HN HA a0 a1 az hx HSC
    go_wp2
    have BD := belDrew HB
    go_region_with (go_at_call 39; refine (HAB.out _).mono ?_; rintro e w9 ⟨rfl, hw9⟩; replace hw9 := hw9.symm; subst hw9)
    all_goals
      go_wp2
      go_ret2
      exact ⟨rfl, BD.out⟩
end Go.Proofs.Ytiapbmgpjloafaa
