/- ChanceOfOrder, of the program and of its model. -/
import Derived.Test.YtbnicblafbkcjaaOq2
import Derived.Test.YtbnicblafbkcjaaRt1
namespace Go.Proofs.Ytbnicblafbkcjaa
open Go Go.RowKit

/-- the chance of a result -/
def oaA (n k : Int) (p : List Int) : Int := if cfoQ n k p = true then rtA (cfoN n k p).toNat n k else 0
def oaB (n k : Int) (p : List Int) : Int := if cfoQ n k p = true then rtB (cfoN n k p).toNat n k else 0
theorem oaA_no {n k : Int} {p : List Int} (h : cfoQ n k p = false) : oaA n k p = 0 := by unfold oaA; rw [h]; rfl
theorem oaB_no {n k : Int} {p : List Int} (h : cfoQ n k p = false) : oaB n k p = 0 := by unfold oaB; rw [h]; rfl
theorem oaA_yes {n k : Int} {p : List Int} (h : cfoQ n k p = true) : oaA n k p = rtA (cfoN n k p).toNat n k := by unfold oaA; rw [if_pos h]
theorem oaB_yes {n k : Int} {p : List Int} (h : cfoQ n k p = true) : oaB n k p = rtB (cfoN n k p).toNat n k := by unfold oaB; rw [if_pos h]
theorem cfoQ_fall {n k : Int} {p : List Int} (h : cfoQ n k p = true) : fallB n k = true := by
  unfold cfoQ at h; rw [Bool.and_eq_true] at h; exact toldB_fall h.1

set_option maxRecDepth 100000 in
set_option maxHeartbeats 1000000 in
theorem sChanceOfOrder_any (A : Option Addr) (m c0 : Nat) (p : List Int) (n k : Int) (w : World) (h : RI w A m p) (hm : m ≤ 1048576) (hmc : m ≤ c0) :
    Calls Try.prog 13 #[.int .i64 n, .int .i64 k, .slice A m c0] w (RetRB (oaA n k p) (oaB n k p) (cfoQ n k p) w) := by
  have HCE := Lib.hid (fun w2 (h : RI w2 A m p) => sCountForOrder_any A m c0 p n k w2 h hm hmc)
  have HRI := Lib.hid h
  clear h
  rcases hq : cfoQ n k p with _ | _
  · rw [hq, cfoN_no hq] at HCE
    rw [oaA_no hq, oaB_no hq]
    clear hq
    go_enter Try.func13, Try.ntmps13
    go_wp2_with fail
    have HC := cellNew w (.int .i64 0) (.int .i64 0) 29
    have HB := belAlloc (belRefl (w := w)) (.cells #[.int .i64 0, .int .i64 0] 29)
    refine (HCE.out _ (HRI.out.alloc _)).mono ?_
    rintro e1 w1 ⟨rfl, hb⟩
    replace HC := cellStep HC hb
    replace HB := belStep HB hb
    have k0 := HC.out.c0; have k1 := HC.out.c1; have f0 := HC.out.f0; have f1 := HC.out.f1; have kz := HC.out.lt
    clear hb HCE
    go_wp2
    exact bodyPost_ret (v := .tuple #[.agg #[.int .i64 0, .int .i64 0], .bool false]) (by simp [results, Try.results13, go_sem, k0, k1]) rfl ⟨rfl, (by repeat (first | exact Below.refl _ _ | exact HB.out | refine Below.setCell ?_ (by simp <;> omega) _ | refine Below.alloc ?_ (by simp <;> omega) _ | refine below_drewN ?_ _))⟩
  · obtain ⟨c, hc⟩ : ∃ c : Nat, cfoN n k p = (c : Int) := ⟨(cfoN n k p).toNat, by have := cfoN_in n k p; omega⟩
    have hcl : c ≤ 4000000000000000000 := by have := cfoN_in n k p; omega
    rw [hq, hc] at HCE
    rw [oaA_yes hq, oaB_yes hq, hc, Int.toNat_natCast]
    have HR := Lib.hid (chRatio_rt c (cfoQ_fall hq) hcl)
    have HF := Lib.hid (cfoQ_fall hq)
    obtain ⟨q1, hq1⟩ : ∃ q1, q1 = rtA c n k := ⟨_, rfl⟩
    obtain ⟨q2, hq2⟩ : ∃ q2, q2 = rtB c n k := ⟨_, rfl⟩
    rw [← hq1, ← hq2] at HR ⊢
    clear hq hq1 hq2 hc
    go_enter Try.func13, Try.ntmps13
    go_wp2_with fail
    have HC := cellNew w (.int .i64 0) (.int .i64 0) 29
    have HB := belAlloc (belRefl (w := w)) (.cells #[.int .i64 0, .int .i64 0] 29)
    refine (HCE.out _ (HRI.out.alloc _)).mono ?_
    rintro e1 w1 ⟨rfl, hb⟩
    replace HC := cellStep HC hb
    replace HB := belStep HB hb
    clear hb HCE
    go_wp2_with (first | (go_at_call 35; refine (chAll_any _ _ _ HF.out).mono ?_; rintro e w2 ⟨rfl, rfl⟩))
    refine (HR.out _).mono ?_
    rintro e2 w2 ⟨rfl, hb⟩
    replace HC := cellStep HC hb
    replace HB := belStep HB hb
    have k0 := HC.out.c0; have k1 := HC.out.c1; have f0 := HC.out.f0; have f1 := HC.out.f1; have kz := HC.out.lt
    clear hb HR
    go_wp2
    exact bodyPost_ret (v := .tuple #[.agg #[.int .i64 q1, .int .i64 q2], .bool true]) (by simp [results, Try.results13, go_sem, k0, k1]) rfl ⟨rfl, (by repeat (first | exact Below.refl _ _ | exact HB.out | refine Below.setCell ?_ (by simp <;> omega) _ | refine Below.alloc ?_ (by simp <;> omega) _ | refine below_drewN ?_ _))⟩

set_option maxRecDepth 100000 in
set_option maxHeartbeats 1000000 in
theorem iChanceOfOrder_any (A : Option Addr) (m c0 : Nat) (p : List Int) (n k : Int) (w : World) (h : RI w A m p) (hm : m ≤ 1048576) (hmc : m ≤ c0) :
    Calls Try.prog 14 #[.int .i64 n, .int .i64 k, .slice A m c0] w (RetRB (oaA n k p) (oaB n k p) (cfoQ n k p) w) := by
  have HCE := Lib.hid (fun w2 (h : RI w2 A m p) => iCountForOrder_any A m c0 p n k w2 h hm)
  have HRI := Lib.hid h
  clear h
  rcases hq : cfoQ n k p with _ | _
  · rw [hq, cfoN_no hq] at HCE
    rw [oaA_no hq, oaB_no hq]
    clear hq
    go_enter Try.func14, Try.ntmps14
    go_wp2_with fail
    have HC := cellNew w (.int .i64 0) (.int .i64 0) 29
    have HB := belAlloc (belRefl (w := w)) (.cells #[.int .i64 0, .int .i64 0] 29)
    refine (HCE.out _ (HRI.out.alloc _)).mono ?_
    rintro e1 w1 ⟨rfl, hb⟩
    replace HC := cellStep HC hb
    replace HB := belStep HB hb
    have k0 := HC.out.c0; have k1 := HC.out.c1; have f0 := HC.out.f0; have f1 := HC.out.f1; have kz := HC.out.lt
    clear hb HCE
    go_wp2
    exact bodyPost_ret (v := .tuple #[.agg #[.int .i64 0, .int .i64 0], .bool false]) (by simp [results, Try.results14, go_sem, k0, k1]) rfl ⟨rfl, (by repeat (first | exact Below.refl _ _ | exact HB.out | refine Below.setCell ?_ (by simp <;> omega) _ | refine Below.alloc ?_ (by simp <;> omega) _ | refine below_drewN ?_ _))⟩
  · obtain ⟨c, hc⟩ : ∃ c : Nat, cfoN n k p = (c : Int) := ⟨(cfoN n k p).toNat, by have := cfoN_in n k p; omega⟩
    have hcl : c ≤ 4000000000000000000 := by have := cfoN_in n k p; omega
    rw [hq, hc] at HCE
    rw [oaA_yes hq, oaB_yes hq, hc, Int.toNat_natCast]
    have HR := Lib.hid (meanOf_rt c (cfoQ_fall hq) hcl)
    have HF := Lib.hid (cfoQ_fall hq)
    obtain ⟨q1, hq1⟩ : ∃ q1, q1 = rtA c n k := ⟨_, rfl⟩
    obtain ⟨q2, hq2⟩ : ∃ q2, q2 = rtB c n k := ⟨_, rfl⟩
    rw [← hq1, ← hq2] at HR ⊢
    clear hq hq1 hq2 hc
    go_enter Try.func14, Try.ntmps14
    go_wp2_with fail
    have HC := cellNew w (.int .i64 0) (.int .i64 0) 29
    have HB := belAlloc (belRefl (w := w)) (.cells #[.int .i64 0, .int .i64 0] 29)
    refine (HCE.out _ (HRI.out.alloc _)).mono ?_
    rintro e1 w1 ⟨rfl, hb⟩
    replace HC := cellStep HC hb
    replace HB := belStep HB hb
    clear hb HCE
    go_wp2_with fail
    refine (HR.out _).mono ?_
    rintro e2 w2 ⟨rfl, hb⟩
    replace HC := cellStep HC hb
    replace HB := belStep HB hb
    have k0 := HC.out.c0; have k1 := HC.out.c1; have f0 := HC.out.f0; have f1 := HC.out.f1; have kz := HC.out.lt
    clear hb HR
    go_wp2
    exact bodyPost_ret (v := .tuple #[.agg #[.int .i64 q1, .int .i64 q2], .bool true]) (by simp [results, Try.results14, go_sem, k0, k1]) rfl ⟨rfl, (by repeat (first | exact Below.refl _ _ | exact HB.out | refine Below.setCell ?_ (by simp <;> omega) _ | refine Below.alloc ?_ (by simp <;> omega) _ | refine below_drewN ?_ _))⟩

end Go.Proofs.Ytbnicblafbkcjaa
