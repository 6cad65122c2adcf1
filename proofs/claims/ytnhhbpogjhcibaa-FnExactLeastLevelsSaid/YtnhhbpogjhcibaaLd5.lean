/- LeastDepth and CountDepths, of the model. -/
import Derived.Test.YtnhhbpogjhcibaaLd4
namespace Go.Proofs.Ytnhhbpogjhcibaa
open Go Go.RowKit

noncomputable def ldN (p : List Int) : Int := if mdB p = true then (dep p.length p : Int) else 0
theorem ldN_yes {p : List Int} (h : mdB p = true) : ldN p = (dep p.length p : Int) := by unfold ldN; rw [if_pos h]
theorem ldN_no {p : List Int} (h : mdB p = false) : ldN p = 0 := by unfold ldN; rw [h]; rfl

set_option maxRecDepth 100000 in
set_option maxHeartbeats 1000000 in
theorem sLeastDepth_any (A : Option Addr) (n c : Nat) (p : List Int) (w : World) (h : RI w A n p) (hn : n ≤ 1048576) (hnc : n ≤ c) :
    Calls Try.prog 33 #[.slice A n c] w (RetIB (ldN p) (mdB p) w) := by
  have hl := h.1
  have HM := Lib.hid (lvMade_any A n c p w h hn hnc)
  have HP := Lib.hid h
  rcases hq : mdB p with _ | _
  · rw [ldN_no hq]
    rw [hq] at HM
    clear hq h hl
    go_enter Try.func33, Try.ntmps33
    go_wp2_with fail
    refine HM.out.mono ?_
    rintro e w1 ⟨rfl, hb⟩
    go_wp2
    go_ret2
    exact ⟨rfl, hb⟩
  · rw [ldN_yes hq, hl]
    rw [hq] at HM
    have hm := mdB_iff.1 hq
    have hok : OKp n p := ⟨hm.1, hl⟩
    have h2 : 2 ≤ n := by omega
    have h6 : n ≤ 6 := by omega
    have HF := Lib.hid (fun w2 => lvFar_any n w2 h2 h6)
    obtain ⟨hrk, hgz⟩ := gz_rk6 h2 h6 hok
    have HG := Lib.hid (gi_farL hrk)
    rw [hgz] at HG
    have hN := (ords_len6 h2 h6).1
    obtain ⟨N, hNN⟩ : ∃ N, N = (ordsK n n).length := ⟨_, rfl⟩
    rw [← hNN] at HF hrk hN
    obtain ⟨r, hr⟩ : ∃ r, r = rk p := ⟨_, rfl⟩
    have HRD := Lib.hid hr
    rw [← hr] at HG hrk
    obtain ⟨D, hD⟩ : ∃ D, D = dep n p := ⟨_, rfl⟩
    rw [← hD] at HG ⊢
    have r0 : (0 : Int) ≤ (r : Int) := by omega
    have r1 : (r : Int) < (N : Int) := by omega
    clear hq h hl hm hok hgz hNN hr hD
    go_enter Try.func33, Try.ntmps33
    go_wp2_with fail
    refine HM.out.mono ?_
    rintro e w1 ⟨rfl, hb⟩
    have HP1 := Lib.hid (HP.out.below hb (Nat.le_refl _))
    have HB1 := Lib.hid hb
    clear hb
    go_wp2_with fail
    refine (HF.out _).mono ?_
    rintro e w2 ⟨A2, c2, rfl, hf, hb⟩
    have HP2 := Lib.hid (HP1.out.below hb (Nat.le_refl _))
    have HB2 := Lib.hid (HB1.out.trans (hb.mono HB1.out.size))
    obtain ⟨b, off, rfl, hbw, hc⟩ := hf.cell hrk
    have hcr := hc r hrk
    rw [HG.out] at hcr
    clear hb hf hc
    go_wp2_with fail
    refine (alRank_any A n c p _ HP2.out h6 hnc).mono ?_
    rintro e w3 ⟨rfl, rfl⟩
    rw [← HRD.out]
    go_wp2
    go_ret2
    exact ⟨rfl, HB2.out⟩
end Go.Proofs.Ytnhhbpogjhcibaa
