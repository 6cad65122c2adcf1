/- LeastDepth, of the program. -/
import Derived.Test.YtnhhbpogjhcibaaDp1
import Derived.Test.YtnhhbpogjhcibaaLd5
namespace Go.Proofs.Ytnhhbpogjhcibaa
open Go Go.RowKit Go.Maps

theorem seatsOf8 (A : Option Addr) (n c : Nat) (p : List Int) (w : World) (h : RI w A n p) (hn : n ≤ 8) :
    Calls Try.prog 60 #[.slice A n c] w (fun e w' => e = .returned (.agg #[.int .i64 (gi (seats p) 0), .int .i64 (gi (seats p) 1), .int .i64 (gi (seats p) 2), .int .i64 (gi (seats p) 3), .int .i64 (gi (seats p) 4), .int .i64 (gi (seats p) 5), .int .i64 (gi (seats p) 6), .int .i64 (gi (seats p) 7)]) ∧ Below w.heap.size w w') := by
  have := seatsOf_any A n c p w h hn
  rw [arr8 (seats_length p)]
  exact this

set_option maxRecDepth 100000 in
set_option maxHeartbeats 1000000 in
theorem iLeastDepth_any (A : Option Addr) (n c : Nat) (p : List Int) (w : World) (h : RI w A n p) (hn : n ≤ 1048576) (hnc : n ≤ c) :
    Calls Try.prog 34 #[.slice A n c] w (RetIB (ldN p) (mdB p) w) := by
  have hl := h.1
  have HM := Lib.hid (isMade_any A n c p w h hn)
  have HP := Lib.hid h
  rcases hq : mdB p with _ | _
  · rw [ldN_no hq]
    rw [hq] at HM
    clear hq h hl
    go_enter Try.func34, Try.ntmps34
    go_wp2_with fail
    refine HM.out.mono ?_
    rintro e w1 ⟨rfl, hb⟩
    go_wp2
    go_ret2
    exact ⟨rfl, hb⟩
  · rw [ldN_yes hq, hl]
    rw [hq] at HM
    have hm := mdB_iff.1 hq
    have hok : OKp n p := ⟨hm.1, hl⟩
    have h2 : 2 ≤ n := by omega
    have h6 : n ≤ 6 := by omega
    have HD := Lib.hid (fun w2 => depthsOf_any n w2 h2 h6)
    have HS := Lib.hid (fun w2 (r : RI w2 A n p) => seatsOf8 A n c p w2 r (by omega))
    have HPM := Lib.hid (((ordsK_all (n := n) (by omega) (by omega)).mem p).2 hok)
    have HI := Lib.hid (seatsIn (n := n) (by omega) hok)
    clear hq h hl hm hok
    go_enter Try.func34, Try.ntmps34
    go_wp2_with fail
    refine HM.out.mono ?_
    rintro e w1 ⟨rfl, hb⟩
    have HP1 := Lib.hid (HP.out.below hb (Nat.le_refl _))
    have HB1 := Lib.hid hb
    clear hb
    go_wp2_with fail
    refine (HD.out _).mono ?_
    rintro e w2 ⟨b, nb, D, rfl, ho, hm, hbb, hb⟩
    have HP2 := Lib.hid (HP1.out.below hb (Nat.le_refl _))
    have HB2 := Lib.hid (HB1.out.trans (hb.mono HB1.out.size))
    have HO := Lib.hid ho
    have HMD := Lib.hid hm
    clear hb ho hm
    go_wp2_with fail
    refine (HS.out _ HP2.out).mono ?_
    rintro e w3 ⟨rfl, hb⟩
    have HO3 : Hid (OS w3 b nb D) := Lib.hid (HO.out.kept (grown_of_below hb none) (by simp))
    have HB3 := Lib.hid (HB2.out.trans (hb.mono HB2.out.size))
    have hlk := HO3.out.look HMD.out HPM.out HI.out
    clear hb
    go_wp2
    go_ret2
    exact ⟨rfl, HB3.out⟩
end Go.Proofs.Ytnhhbpogjhcibaa
