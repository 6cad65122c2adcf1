/- The law of ThenTurned, gone through: it returns true, and nothing that was there has turned. -/
import Derived.Test.YtijddnllacphfaaTh3
import Derived.Test.YtijddnllacphfaaTh4
import Derived.Test.YtijddnllacphfaaStL
import Derived.Test.YtijddnllacphfaaUl3
import Derived.Deep.RegionHeld3
import Derived.Deep.RegionWith
import Derived.Deep.Cut
namespace Go.Proofs.Ytijddnllacphfaa
open Go Go.RowKit

set_option maxRecDepth 100000 in
set_option maxHeartbeats 16000000 in
theorem lawThenTurned_of (A : Option Addr) (n c : Nat) (zs : List Int) (E : Option Addr) (m d : Nat) (us : List Int) (A' : Option Addr) (n' c' : Nat) (xs : List Int) (E' : Option Addr) (m' d' : Nat) (vs : List Int) (w : World) (h : RI w A n zs) (g : RI w E m us) (h' : RI w A' n' xs) (g' : RI w E' m' vs) (hn2 : (n : Int) ≤ 1048576) (hm2 : (m : Int) ≤ 1048576 - n) (hn2' : (n' : Int) ≤ 1048576 - n - m) (hm2' : (m' : Int) ≤ 1048576 - n - m - n') (k1 : Nat) (ys : List Int) (k2 : Nat) (ws : List Int) (q : Bool) (hk1 : k1 ≤ 1048576) (hk2 : k2 ≤ 1048576)
    (hS : Hid (∀ (B : Option Addr) (b : Nat) (D : Option Addr) (e : Nat) (B' : Option Addr) (b' : Nat) (D' : Option Addr) (e' : Nat) (w2 : World), RI w2 B n zs → RI w2 D m us → RI w2 B' n' xs → RI w2 D' m' vs → n ≤ b → m ≤ e → n' ≤ b' → m' ≤ e' → Calls Try.prog 17 #[.agg #[.slice B n b, .slice D m e], .agg #[.slice B' n' b', .slice D' m' e']] w2 (ReadTB w2 k1 ys k2 ws q)))
    (hI : Hid (∀ (B : Option Addr) (b : Nat) (D : Option Addr) (e : Nat) (B' : Option Addr) (b' : Nat) (D' : Option Addr) (e' : Nat) (w2 : World), RI w2 B n zs → RI w2 D m us → RI w2 B' n' xs → RI w2 D' m' vs → n ≤ b → m ≤ e → n' ≤ b' → m' ≤ e' → Calls Try.prog 18 #[.agg #[.slice B n b, .slice D m e], .agg #[.slice B' n' b', .slice D' m' e']] w2 (FreshTB w2 k1 ys k2 ws q))) :
    Calls Try.prog 4 #[.agg #[.slice A n c, .slice E m d], .agg #[.slice A' n' c', .slice E' m' d']] w (RetB true w) := by
  have hn3 : n ≤ 1048576 := by omega
  have hm3 : m ≤ 1048576 := by omega
  have hn3' : n' ≤ 1048576 := by omega
  have hm3' : m' ≤ 1048576 := by omega
  have EZ := Lib.hid (szt_yes hn2 hm2)
  have EZ' := Lib.hid (szt_yes hn2' hm2')
  have hn : n ≤ 9223372036854775807 := by omega
  have hm : m ≤ 9223372036854775807 := by omega
  have hn' : n' ≤ 9223372036854775807 := by omega
  have hm' : m' ≤ 9223372036854775807 := by omega
  have e0 : (q != q) = false := by simp
  have e2 : ((1 : Int) + (k1 : Int) + (k2 : Int) != 1 + (k1 : Int) + (k2 : Int)) = false := by simp
  have RA := Lib.hid h; have RE := Lib.hid g; have RA' := Lib.hid h'; have RE' := Lib.hid g'
  clear h g h' g'
  go_enter Try.func4, Try.ntmps4
  go_wp2_with fail
  have HP := cellNew w (.slice A n c) (.slice E m d) 24
  replace RA := riStep RA (allocBel w (.cells #[.slice A n c, .slice E m d] 24))
  replace RE := riStep RE (allocBel w (.cells #[.slice A n c, .slice E m d] 24))
  replace RA' := riStep RA' (allocBel w (.cells #[.slice A n c, .slice E m d] 24))
  replace RE' := riStep RE' (allocBel w (.cells #[.slice A n c, .slice E m d] 24))
  have HB := belAlloc (belRefl (w := w)) (.cells #[.slice A n c, .slice E m d] 24)
  have HP' := cellNew (w.alloc (.cells #[.slice A n c, .slice E m d] 24)) (.slice A' n' c') (.slice E' m' d') 24
  simp only [World.size_alloc] at HP'
  replace RA := riStep RA (allocBel (w.alloc (.cells #[.slice A n c, .slice E m d] 24)) (.cells #[.slice A' n' c', .slice E' m' d'] 24))
  replace RE := riStep RE (allocBel (w.alloc (.cells #[.slice A n c, .slice E m d] 24)) (.cells #[.slice A' n' c', .slice E' m' d'] 24))
  replace RA' := riStep RA' (allocBel (w.alloc (.cells #[.slice A n c, .slice E m d] 24)) (.cells #[.slice A' n' c', .slice E' m' d'] 24))
  replace RE' := riStep RE' (allocBel (w.alloc (.cells #[.slice A n c, .slice E m d] 24)) (.cells #[.slice A' n' c', .slice E' m' d'] 24))
  replace HP := cellStep HP (allocBel (w.alloc (.cells #[.slice A n c, .slice E m d] 24)) (.cells #[.slice A' n' c', .slice E' m' d'] 24))
  replace HB := belStep HB (allocBel (w.alloc (.cells #[.slice A n c, .slice E m d] 24)) (.cells #[.slice A' n' c', .slice E' m' d'] 24))
  refine (szTurned_any A n c E m d _ _ (by omega) (by omega) hn hm).mono ?_
  rw [EZ.out]
  rintro e w1 ⟨rfl, hb⟩
  replace RA := riStep RA hb
  replace RE := riStep RE hb
  replace RA' := riStep RA' hb
  replace RE' := riStep RE' hb
  replace HP := cellStep HP hb
  replace HP' := cellStep HP' hb
  replace HB := belStep HB hb
  have p0 := HP.out.c0; have p1 := HP.out.c1; have pz := HP.out.lt
  have p'0 := HP'.out.c0; have p'1 := HP'.out.c1; have p'z := HP'.out.lt
  clear hb
  go_wp2_with fail
  refine (szTurned_any A' n' c' E' m' d' _ _ (by omega) (by omega) hn' hm').mono ?_
  rw [EZ'.out]
  rintro e w2 ⟨rfl, hb⟩
  replace RA := riStep RA hb
  replace RE := riStep RE hb
  replace RA' := riStep RA' hb
  replace RE' := riStep RE' hb
  replace HP := cellStep HP hb
  replace HP' := cellStep HP' hb
  replace HB := belStep HB hb
  replace p0 := HP.out.c0; replace p1 := HP.out.c1; replace pz := HP.out.lt
  replace p'0 := HP'.out.c0; replace p'1 := HP'.out.c1; replace p'z := HP'.out.lt
  clear hb
  go_upto_region 8 with fail
  have DRA : Hid (RB w2 w2.heap.size _ _ _) := Lib.hid (RB.of_ri RA.out)
  have DRE : Hid (RB w2 w2.heap.size _ _ _) := Lib.hid (RB.of_ri RE.out)
  have DRA' : Hid (RB w2 w2.heap.size _ _ _) := Lib.hid (RB.of_ri RA'.out)
  have DRE' : Hid (RB w2 w2.heap.size _ _ _) := Lib.hid (RB.of_ri RE'.out)
  have HS8 : Hid (∀ w', Below w2.heap.size w2 w' → w'.cell? ⟨w.heap.size, 0, none⟩ = some (.slice A n c) ∧ w'.cell? ⟨w.heap.size, 1, none⟩ = some (.slice E m d) ∧ w'.cell? ⟨w.heap.size + 1, 0, none⟩ = some (.slice A' n' c') ∧ w'.cell? ⟨w.heap.size + 1, 1, none⟩ = some (.slice E' m' d')) := fun w' hb => ⟨(hb.cell (p := ⟨w.heap.size, 0, none⟩) HP.out.lt).trans HP.out.c0, (hb.cell (p := ⟨w.heap.size, 1, none⟩) HP.out.lt).trans HP.out.c1, (hb.cell (p := ⟨w.heap.size + 1, 0, none⟩) HP'.out.lt).trans HP'.out.c0, (hb.cell (p := ⟨w.heap.size + 1, 1, none⟩) HP'.out.lt).trans HP'.out.c1⟩
  go_cut [6, 7] from 27 (fun s1 s2 wx => ∃ (bk : Nat) (A0 : Option Addr) (c0 : Nat) (E0 : Option Addr) (d0 : Nat), s1 = .pointer (some ⟨bk, 0, none⟩) ∧ s2 = .bool q ∧ Cell2 wx bk (.slice A0 k1 c0) (.slice E0 k2 d0) ∧ RI wx A0 k1 ys ∧ RI wx E0 k2 ws ∧ Below w2.heap.size w2 wx)
  case first =>
    clear p0 p1 pz p'0 p'1 p'z
    go_region_held3 (fun w' => w'.cell? ⟨w.heap.size, 0, none⟩ = some (.slice A n c) ∧ w'.cell? ⟨w.heap.size, 1, none⟩ = some (.slice E m d) ∧ w'.cell? ⟨w.heap.size + 1, 0, none⟩ = some (.slice A' n' c') ∧ w'.cell? ⟨w.heap.size + 1, 1, none⟩ = some (.slice E' m' d'))
      (exact HS8.out _ (by repeat (first | with_reducible exact B3.out | with_reducible exact B2.out | with_reducible exact B1.out | with_reducible exact Below.refl _ _ | refine Below.setCell ?_ (by first | exact Nat.le_refl _ | assumption | (simp; done) | (simp; omega)) _ | refine Below.alloc ?_ (by first | exact Nat.le_refl _ | assumption | (simp; done) | (simp; omega)) _ | refine Below.drew ?_)))
      (first
        | (go_at_call 17; refine (hS.out Aa ca Ea da Ab cb Eb db _ ?_ ?_ ?_ ?_ la lma lb lmb).mono ?_; (first | with_reducible exact Cc1.out | with_reducible exact RI.alloc Cc1.out _); (first | with_reducible exact Cc2.out | with_reducible exact RI.alloc Cc2.out _); (first | with_reducible exact Cb1.out | with_reducible exact RI.alloc Cb1.out _); (first | with_reducible exact Cb2.out | with_reducible exact RI.alloc Cb2.out _); rintro e wd ⟨A0, c0, E0, d0, rfl, r1, r2, hb⟩; have B3 : Hid (Below w2.heap.size w2 wd) := belStep (show Hid (Below w2.heap.size w2 _) from (by with_reducible first | exact B2 | exact belAlloc B2 _)) hb; have V1 : Hid (RI wd A0 k1 ys) := Lib.hid r1; have V2 : Hid (RI wd E0 k2 ws) := Lib.hid r2; have s3 := B3.out.size; (try (have T1 : Hid (TB wd (w2.heap.size) (.slice none 0 0) (.slice none 0 0)) := (by first | exact TB.below (R1.out) hb); have T1c := T1.out.cell2.c0; have T1d := T1.out.cell2.c1; have T1f := T1.out.cell2.f0; have T1g := T1.out.cell2.f1; have T1l := T1.out.lt)); (try (have T2 : Hid (TB wd (wa.heap.size) (.slice none 0 0) (.slice none 0 0)) := (by first | exact TB.below (R2.out) hb); have T2c := T2.out.cell2.c0; have T2d := T2.out.cell2.c1; have T2f := T2.out.cell2.f0; have T2g := T2.out.cell2.f1; have T2l := T2.out.lt)); (try (have T3 : Hid (TB wd (wb.heap.size) (.slice none 0 0) (.slice none 0 0)) := (by first | exact TB.below (TB.new' _ _ _ _ rfl) hb); have T3c := T3.out.cell2.c0; have T3d := T3.out.cell2.c1; have T3f := T3.out.cell2.f0; have T3g := T3.out.cell2.f1; have T3l := T3.out.lt)); clear hb r1 r2)
        | (go_at_call_of 14 (Value.slice A' n' c'); have hx := B1.out; clear hx; refine (toTurned_any A' n' c' xs E' m' d' vs _ ?_ ?_ hn3' hm3').mono ?_; exact rbK DRA' (show Hid (Below w2.heap.size w2 _) from (by with_reducible first | exact B1 | exact belAlloc B1 _)).out; exact rbK DRE' (show Hid (Below w2.heap.size w2 _) from (by with_reducible first | exact B1 | exact belAlloc B1 _)).out; rintro e wb ⟨Ab, cb, Eb, db, midb, rfl, o1, o2, lb, lmb, hb⟩; have B2 : Hid (Below w2.heap.size w2 wb) := belStep (show Hid (Below w2.heap.size w2 _) from (by with_reducible first | exact B1 | exact belAlloc B1 _)) hb; have Cb1 : Hid (RI wb Ab n' xs) := Lib.hid o1.ri; have Cb2 : Hid (RI wb Eb m' vs) := Lib.hid o2.ri; have Cc1 : Hid (RI wb Aa n zs) := riStep (show Hid (RI _ Aa n zs) from (by with_reducible first | exact Ca1 | exact Lib.hid (RI.alloc Ca1.out _))) hb; have Cc2 : Hid (RI wb Ea m us) := riStep (show Hid (RI _ Ea m us) from (by with_reducible first | exact Ca2 | exact Lib.hid (RI.alloc Ca2.out _))) hb; have s2 := B2.out.size; (try (have R1 : Hid (TB wb (w2.heap.size) (.slice none 0 0) (.slice none 0 0)) := (by first | exact TB.below (P1.out) hb); have R1c := R1.out.cell2.c0; have R1d := R1.out.cell2.c1; have R1f := R1.out.cell2.f0; have R1g := R1.out.cell2.f1; have R1l := R1.out.lt)); (try (have R2 : Hid (TB wb (wa.heap.size) (.slice none 0 0) (.slice none 0 0)) := (by first | exact TB.below (TB.new' _ _ _ _ rfl) hb); have R2c := R2.out.cell2.c0; have R2d := R2.out.cell2.c1; have R2f := R2.out.cell2.f0; have R2g := R2.out.cell2.f1; have R2l := R2.out.lt)); clear hb o1 o2)
        | (go_at_call_of 14 (Value.slice A n c); refine (toTurned_any A n c zs E m d us _ ?_ ?_ hn3 hm3).mono ?_; exact rbK DRA (show Hid (Below w2.heap.size w2 _) from (by with_reducible first | exact belDrew belRefl | exact belDrew (belAlloc belRefl _) | exact belAlloc (belDrew belRefl) _)).out; exact rbK DRE (show Hid (Below w2.heap.size w2 _) from (by with_reducible first | exact belDrew belRefl | exact belDrew (belAlloc belRefl _) | exact belAlloc (belDrew belRefl) _)).out; rintro e wa ⟨Aa, ca, Ea, da, mida, rfl, o1, o2, la, lma, hb⟩; have B1 : Hid (Below w2.heap.size w2 wa) := belStep (show Hid (Below w2.heap.size w2 _) from (by with_reducible first | exact belDrew belRefl | exact belDrew (belAlloc belRefl _) | exact belAlloc (belDrew belRefl) _)) hb; have Ca1 : Hid (RI wa Aa n zs) := Lib.hid o1.ri; have Ca2 : Hid (RI wa Ea m us) := Lib.hid o2.ri; have s1 := B1.out.size; (try (have P1 : Hid (TB wa (w2.heap.size) (.slice none 0 0) (.slice none 0 0)) := (by first | exact TB.below (TB.drewU (TB.new' _ _ _ _ rfl)) hb | exact TB.below (TB.new' _ _ _ _ rfl) hb); have P1c := P1.out.cell2.c0; have P1d := P1.out.cell2.c1; have P1f := P1.out.cell2.f0; have P1g := P1.out.cell2.f1; have P1l := P1.out.lt)); clear hb o1 o2))
    all_goals
      go_wp2
      go_meet
      case rel =>
        refine ⟨_, A0, c0, E0, d0, rfl, rfl, ?_, ?_, ?_, ?_⟩
        · first | with_reducible exact (TB.set1 (TB.set0 T1.out _) _).cell2 | with_reducible exact (TB.set1 (TB.set0 T2.out _) _).cell2 | with_reducible exact (TB.set1 (TB.set0 T3.out _) _).cell2 | with_reducible exact (TB.new' _ _ _ _ rfl).cell2
        · first | with_reducible exact RI.past (RI.past V1.out T1.out 0 _) (TB.set0 T1.out _) 1 _ | with_reducible exact RI.past (RI.past V1.out T2.out 0 _) (TB.set0 T2.out _) 1 _ | with_reducible exact RI.past (RI.past V1.out T3.out 0 _) (TB.set0 T3.out _) 1 _ | with_reducible exact RI.alloc V1.out _
        · first | with_reducible exact RI.past (RI.past V2.out T1.out 0 _) (TB.set0 T1.out _) 1 _ | with_reducible exact RI.past (RI.past V2.out T2.out 0 _) (TB.set0 T2.out _) 1 _ | with_reducible exact RI.past (RI.past V2.out T3.out 0 _) (TB.set0 T3.out _) 1 _ | with_reducible exact RI.alloc V2.out _
        · exact (by repeat (first | with_reducible exact B3.out | with_reducible exact B2.out | with_reducible exact B1.out | with_reducible exact Below.refl _ _ | refine Below.setCell ?_ (by first | exact Nat.le_refl _ | assumption | (simp; done) | (simp; omega)) _ | refine Below.alloc ?_ (by first | exact Nat.le_refl _ | assumption | (simp; done) | (simp; omega)) _ | refine Below.drew ?_))
  case rest =>
    clear HS8 DRA DRE DRA' DRE'
    obtain ⟨bk, A0, c0, E0, d0, rfl, rfl, hbox, m1, m2, hb⟩ := hcut
    obtain ⟨v0, hv0⟩ : ∃ v : World, v = wc := ⟨_, rfl⟩
    subst hv0
    replace RA := riStep RA hb
    replace RE := riStep RE hb
    replace RA' := riStep RA' hb
    replace RE' := riStep RE' hb
    replace HP := cellStep HP hb
    replace HP' := cellStep HP' hb
    replace HB := belStep HB hb
    replace p0 := HP.out.c0; replace p1 := HP.out.c1; replace pz := HP.out.lt
    replace p'0 := HP'.out.c0; replace p'1 := HP'.out.c1; replace p'z := HP'.out.lt
    have HR := Lib.hid hbox; have M1 := Lib.hid m1; have M2 := Lib.hid m2
    clear hb hbox m1 m2
    have r0 := HR.out.c0; have r1 := HR.out.c1; have rz := HR.out.lt
    have SP := spNew HB
    have BK : Hid (w.heap.size + 1 < v0.heap.size) := HP'.out.lt
    have RK : Hid (bk < v0.heap.size) := HR.out.lt
    replace RA := rbOf RA
    replace RE := rbOf RE
    replace RA' := rbOf RA'
    replace RE' := rbOf RE'
    replace M1 := rbOf M1
    replace M2 := rbOf M2
    obtain ⟨K, hK⟩ : ∃ K, K = v0.heap.size := ⟨_, rfl⟩
    rw [← hK] at SP BK RK RA RE RA' RE' M1 M2
    have HK := Lib.hid hK
    clear hK HB
    go_wp2_with fail
    refine (toTurned_any A n c zs E m d us _ RA.out.ri RE.out.ri hn3 hm3).mono ?_
    rintro e w4 ⟨XA, Xc, XE, Xd, Xmid, rfl, o1, o2, Xl, Xm, hb⟩
    have z34 := hb.size
    rw [← HK.out] at o1 z34
    have H34 : Hid (K ≤ w4.heap.size) := z34
    replace RA := rbCall SP RA hb
    replace RE := rbCall SP RE hb
    replace RA' := rbCall SP RA' hb
    replace RE' := rbCall SP RE' hb
    replace HP := cellStep HP hb
    replace HP' := cellStep HP' hb
    replace HR := cellStep HR hb
    replace M1 := rbCall SP M1 hb
    replace M2 := rbCall SP M2 hb
    replace SP := spCall SP hb
    replace p0 := HP.out.c0; replace p1 := HP.out.c1; replace pz := HP.out.lt
    replace p'0 := HP'.out.c0; replace p'1 := HP'.out.c1; replace p'z := HP'.out.lt
    replace r0 := HR.out.c0; replace r1 := HR.out.c1; replace rz := HR.out.lt
    have X1 := Lib.hid o1; have X2 := Lib.hid o2
    clear hb o1 o2 z34
    go_wp2_with fail
    have HX := cellNew w4 (.slice XA n Xc) (.slice XE m Xd) 27
    replace RA := rbCall SP RA (allocBel w4 (.cells #[.slice XA n Xc, .slice XE m Xd] 27))
    replace RE := rbCall SP RE (allocBel w4 (.cells #[.slice XA n Xc, .slice XE m Xd] 27))
    replace RA' := rbCall SP RA' (allocBel w4 (.cells #[.slice XA n Xc, .slice XE m Xd] 27))
    replace RE' := rbCall SP RE' (allocBel w4 (.cells #[.slice XA n Xc, .slice XE m Xd] 27))
    replace HP := cellStep HP (allocBel w4 (.cells #[.slice XA n Xc, .slice XE m Xd] 27))
    replace HP' := cellStep HP' (allocBel w4 (.cells #[.slice XA n Xc, .slice XE m Xd] 27))
    replace HR := cellStep HR (allocBel w4 (.cells #[.slice XA n Xc, .slice XE m Xd] 27))
    replace M1 := rbCall SP M1 (allocBel w4 (.cells #[.slice XA n Xc, .slice XE m Xd] 27))
    replace M2 := rbCall SP M2 (allocBel w4 (.cells #[.slice XA n Xc, .slice XE m Xd] 27))
    replace X1 := ogStep X1 (allocBel w4 (.cells #[.slice XA n Xc, .slice XE m Xd] 27))
    replace X2 := ogStep X2 (allocBel w4 (.cells #[.slice XA n Xc, .slice XE m Xd] 27))
    replace SP := spCall SP (allocBel w4 (.cells #[.slice XA n Xc, .slice XE m Xd] 27))
    replace p0 := HP.out.c0; replace p1 := HP.out.c1; replace pz := HP.out.lt
    replace p'0 := HP'.out.c0; replace p'1 := HP'.out.c1; replace p'z := HP'.out.lt
    replace r0 := HR.out.c0; replace r1 := HR.out.c1; replace rz := HR.out.lt
    have x0 := HX.out.c0; have x1 := HX.out.c1; have xz := HX.out.lt
    refine (toTurned_any A' n' c' xs E' m' d' vs _ RA'.out.ri RE'.out.ri hn3' hm3').mono ?_
    rintro e w5 ⟨YA, Yc, YE, Yd, Ymid, rfl, o1, o2, Yl, Ym, hb⟩
    have z45 := hb.size
    simp only [World.size_alloc] at o1 z45
    have H45 : Hid (w4.heap.size < w5.heap.size) := z45
    replace RA := rbCall SP RA hb
    replace RE := rbCall SP RE hb
    replace RA' := rbCall SP RA' hb
    replace RE' := rbCall SP RE' hb
    replace HP := cellStep HP hb
    replace HP' := cellStep HP' hb
    replace HR := cellStep HR hb
    replace M1 := rbCall SP M1 hb
    replace M2 := rbCall SP M2 hb
    replace X1 := ogStep X1 hb
    replace X2 := ogStep X2 hb
    replace HX := cellStep HX hb
    replace SP := spCall SP hb
    replace p0 := HP.out.c0; replace p1 := HP.out.c1; replace pz := HP.out.lt
    replace p'0 := HP'.out.c0; replace p'1 := HP'.out.c1; replace p'z := HP'.out.lt
    replace r0 := HR.out.c0; replace r1 := HR.out.c1; replace rz := HR.out.lt
    replace x0 := HX.out.c0; replace x1 := HX.out.c1; replace xz := HX.out.lt
    have Y1 := Lib.hid o1; have Y2 := Lib.hid o2
    clear hb o1 o2 z45
    go_wp2_with fail
    have HY := cellNew w5 (.slice YA n' Yc) (.slice YE m' Yd) 27
    replace RA := rbCall SP RA (allocBel w5 (.cells #[.slice YA n' Yc, .slice YE m' Yd] 27))
    replace RE := rbCall SP RE (allocBel w5 (.cells #[.slice YA n' Yc, .slice YE m' Yd] 27))
    replace RA' := rbCall SP RA' (allocBel w5 (.cells #[.slice YA n' Yc, .slice YE m' Yd] 27))
    replace RE' := rbCall SP RE' (allocBel w5 (.cells #[.slice YA n' Yc, .slice YE m' Yd] 27))
    replace HP := cellStep HP (allocBel w5 (.cells #[.slice YA n' Yc, .slice YE m' Yd] 27))
    replace HP' := cellStep HP' (allocBel w5 (.cells #[.slice YA n' Yc, .slice YE m' Yd] 27))
    replace HR := cellStep HR (allocBel w5 (.cells #[.slice YA n' Yc, .slice YE m' Yd] 27))
    replace M1 := rbCall SP M1 (allocBel w5 (.cells #[.slice YA n' Yc, .slice YE m' Yd] 27))
    replace M2 := rbCall SP M2 (allocBel w5 (.cells #[.slice YA n' Yc, .slice YE m' Yd] 27))
    replace X1 := ogStep X1 (allocBel w5 (.cells #[.slice YA n' Yc, .slice YE m' Yd] 27))
    replace X2 := ogStep X2 (allocBel w5 (.cells #[.slice YA n' Yc, .slice YE m' Yd] 27))
    replace HX := cellStep HX (allocBel w5 (.cells #[.slice YA n' Yc, .slice YE m' Yd] 27))
    replace Y1 := ogStep Y1 (allocBel w5 (.cells #[.slice YA n' Yc, .slice YE m' Yd] 27))
    replace Y2 := ogStep Y2 (allocBel w5 (.cells #[.slice YA n' Yc, .slice YE m' Yd] 27))
    replace SP := spCall SP (allocBel w5 (.cells #[.slice YA n' Yc, .slice YE m' Yd] 27))
    replace p0 := HP.out.c0; replace p1 := HP.out.c1; replace pz := HP.out.lt
    replace p'0 := HP'.out.c0; replace p'1 := HP'.out.c1; replace p'z := HP'.out.lt
    replace r0 := HR.out.c0; replace r1 := HR.out.c1; replace rz := HR.out.lt
    replace x0 := HX.out.c0; replace x1 := HX.out.c1; replace xz := HX.out.lt
    have y0 := HY.out.c0; have y1 := HY.out.c1; have yz := HY.out.lt
    refine (hI.out XA Xc XE Xd YA Yc YE Yd _ X1.out.ri X2.out.ri Y1.out.ri Y2.out.ri Xl Xm Yl Ym).mono ?_
    rintro e w6 ⟨A9, c9, E9, d9, mid9, rfl, n1, n2, hb⟩
    have z56 := hb.size
    simp only [World.size_alloc] at n1 z56
    have H56 : Hid (w5.heap.size < w6.heap.size) := z56
    replace RA := rbCall SP RA hb
    replace RE := rbCall SP RE hb
    replace RA' := rbCall SP RA' hb
    replace RE' := rbCall SP RE' hb
    replace HP := cellStep HP hb
    replace HP' := cellStep HP' hb
    replace HR := cellStep HR hb
    replace M1 := rbCall SP M1 hb
    replace M2 := rbCall SP M2 hb
    replace X1 := ogStep X1 hb
    replace X2 := ogStep X2 hb
    replace HX := cellStep HX hb
    replace Y1 := ogStep Y1 hb
    replace Y2 := ogStep Y2 hb
    replace HY := cellStep HY hb
    replace SP := spCall SP hb
    replace p0 := HP.out.c0; replace p1 := HP.out.c1; replace pz := HP.out.lt
    replace p'0 := HP'.out.c0; replace p'1 := HP'.out.c1; replace p'z := HP'.out.lt
    replace r0 := HR.out.c0; replace r1 := HR.out.c1; replace rz := HR.out.lt
    replace x0 := HX.out.c0; replace x1 := HX.out.c1; replace xz := HX.out.lt
    replace y0 := HY.out.c0; replace y1 := HY.out.c1; replace yz := HY.out.lt
    have N1 := Lib.hid n1; have N2 := Lib.hid n2
    clear hb n1 n2 z56
    go_wp2_with fail
    have HG := cellNew w6 (.slice A9 k1 c9) (.slice E9 k2 d9) 27
    replace RA := rbCall SP RA (allocBel w6 (.cells #[.slice A9 k1 c9, .slice E9 k2 d9] 27))
    replace RE := rbCall SP RE (allocBel w6 (.cells #[.slice A9 k1 c9, .slice E9 k2 d9] 27))
    replace RA' := rbCall SP RA' (allocBel w6 (.cells #[.slice A9 k1 c9, .slice E9 k2 d9] 27))
    replace RE' := rbCall SP RE' (allocBel w6 (.cells #[.slice A9 k1 c9, .slice E9 k2 d9] 27))
    replace HP := cellStep HP (allocBel w6 (.cells #[.slice A9 k1 c9, .slice E9 k2 d9] 27))
    replace HP' := cellStep HP' (allocBel w6 (.cells #[.slice A9 k1 c9, .slice E9 k2 d9] 27))
    replace HR := cellStep HR (allocBel w6 (.cells #[.slice A9 k1 c9, .slice E9 k2 d9] 27))
    replace M1 := rbCall SP M1 (allocBel w6 (.cells #[.slice A9 k1 c9, .slice E9 k2 d9] 27))
    replace M2 := rbCall SP M2 (allocBel w6 (.cells #[.slice A9 k1 c9, .slice E9 k2 d9] 27))
    replace X1 := ogStep X1 (allocBel w6 (.cells #[.slice A9 k1 c9, .slice E9 k2 d9] 27))
    replace X2 := ogStep X2 (allocBel w6 (.cells #[.slice A9 k1 c9, .slice E9 k2 d9] 27))
    replace HX := cellStep HX (allocBel w6 (.cells #[.slice A9 k1 c9, .slice E9 k2 d9] 27))
    replace Y1 := ogStep Y1 (allocBel w6 (.cells #[.slice A9 k1 c9, .slice E9 k2 d9] 27))
    replace Y2 := ogStep Y2 (allocBel w6 (.cells #[.slice A9 k1 c9, .slice E9 k2 d9] 27))
    replace HY := cellStep HY (allocBel w6 (.cells #[.slice A9 k1 c9, .slice E9 k2 d9] 27))
    replace N1 := ogStep N1 (allocBel w6 (.cells #[.slice A9 k1 c9, .slice E9 k2 d9] 27))
    replace N2 := ogStep N2 (allocBel w6 (.cells #[.slice A9 k1 c9, .slice E9 k2 d9] 27))
    replace SP := spCall SP (allocBel w6 (.cells #[.slice A9 k1 c9, .slice E9 k2 d9] 27))
    replace p0 := HP.out.c0; replace p1 := HP.out.c1; replace pz := HP.out.lt
    replace p'0 := HP'.out.c0; replace p'1 := HP'.out.c1; replace p'z := HP'.out.lt
    replace r0 := HR.out.c0; replace r1 := HR.out.c1; replace rz := HR.out.lt
    replace x0 := HX.out.c0; replace x1 := HX.out.c1; replace xz := HX.out.lt
    replace y0 := HY.out.c0; replace y1 := HY.out.c1; replace yz := HY.out.lt
    have g0 := HG.out.c0; have g1 := HG.out.c1; have gz := HG.out.lt
    refine (eqTurned_same A9 k1 c9 ys E9 k2 d9 ws A0 c0 E0 d0 _ N1.out.ri M1.out.ri N2.out.ri M2.out.ri hk1 hk2).mono ?_
    rintro e w7 ⟨rfl, hb⟩
    replace RA := rbCall SP RA hb
    replace RE := rbCall SP RE hb
    replace RA' := rbCall SP RA' hb
    replace RE' := rbCall SP RE' hb
    replace HP := cellStep HP hb
    replace HP' := cellStep HP' hb
    replace HR := cellStep HR hb
    replace M1 := rbCall SP M1 hb
    replace M2 := rbCall SP M2 hb
    replace X1 := ogStep X1 hb
    replace X2 := ogStep X2 hb
    replace HX := cellStep HX hb
    replace Y1 := ogStep Y1 hb
    replace Y2 := ogStep Y2 hb
    replace HY := cellStep HY hb
    replace N1 := ogStep N1 hb
    replace N2 := ogStep N2 hb
    replace HG := cellStep HG hb
    replace SP := spCall SP hb
    replace p0 := HP.out.c0; replace p1 := HP.out.c1; replace pz := HP.out.lt
    replace p'0 := HP'.out.c0; replace p'1 := HP'.out.c1; replace p'z := HP'.out.lt
    replace r0 := HR.out.c0; replace r1 := HR.out.c1; replace rz := HR.out.lt
    replace x0 := HX.out.c0; replace x1 := HX.out.c1; replace xz := HX.out.lt
    replace y0 := HY.out.c0; replace y1 := HY.out.c1; replace yz := HY.out.lt
    replace g0 := HG.out.c0; replace g1 := HG.out.c1; replace gz := HG.out.lt
    clear hb
    go_upto_region 14 with fail
    have RAd := rbCall SP RA (drewBel _)
    have REd := rbCall SP RE (drewBel _)
    have RA'd := rbCall SP RA' (drewBel _)
    have RE'd := rbCall SP RE' (drewBel _)
    have HPd := cellDrew HP
    have HP'd := cellDrew HP'
    have HRd := cellDrew HR
    have M1d := rbCall SP M1 (drewBel _)
    have M2d := rbCall SP M2 (drewBel _)
    have X1d := ogStep X1 (drewBel _)
    have X2d := ogStep X2 (drewBel _)
    have HXd := cellDrew HX
    have Y1d := ogStep Y1 (drewBel _)
    have Y2d := ogStep Y2 (drewBel _)
    have HYd := cellDrew HY
    have N1d := ogStep N1 (drewBel _)
    have N2d := ogStep N2 (drewBel _)
    have HGd := cellDrew HG
    have SPd := spCall SP (drewBel _)
    go_region_held3 (fun w' => w'.cell? ⟨w.heap.size, 0, none⟩ = some (.slice A n c) ∧ w'.cell? ⟨w.heap.size, 1, none⟩ = some (.slice E m d) ∧ w'.cell? ⟨w4.heap.size, 0, none⟩ = some (.slice XA n Xc) ∧ w'.cell? ⟨w4.heap.size, 1, none⟩ = some (.slice XE m Xd))
      (first | exact ⟨HP.out.c0, HP.out.c1, HX.out.c0, HX.out.c1⟩ | exact ⟨HPd.out.c0, HPd.out.c1, HXd.out.c0, HXd.out.c1⟩ | exact ⟨HP7.out.c0, HP7.out.c1, HX7.out.c0, HX7.out.c1⟩ | exact ⟨HP8.out.c0, HP8.out.c1, HX8.out.c0, HX8.out.c1⟩)
      (first
        | (go_at_call 14; refine (toTurned_any A n c zs E m d us _ RAd.out.ri REd.out.ri hn3 hm3).mono ?_; rintro e w7a ⟨QA, Qc, QE, Qd, Qmid, rfl, j1, j2, Ql, Qm, hb⟩; have RA7 := rbCall SPd RAd hb; have RE7 := rbCall SPd REd hb; have RA'7 := rbCall SPd RA'd hb; have RE'7 := rbCall SPd RE'd hb; have HP7 := cellStep HPd hb; have HP'7 := cellStep HP'd hb; have HR7 := cellStep HRd hb; have M17 := rbCall SPd M1d hb; have M27 := rbCall SPd M2d hb; have X17 := ogStep X1d hb; have X27 := ogStep X2d hb; have HX7 := cellStep HXd hb; have Y17 := ogStep Y1d hb; have Y27 := ogStep Y2d hb; have HY7 := cellStep HYd hb; have N17 := ogStep N1d hb; have N27 := ogStep N2d hb; have HG7 := cellStep HGd hb; have SP7 := spCall SPd hb; clear hb)
        | (go_at_call 16; refine (eqTurned_same XA n Xc zs XE m Xd us QA Qc QE Qd _ X17.out.ri j1.ri X27.out.ri j2.ri hn3 hm3).mono ?_; rintro e w8a ⟨rfl, hb⟩; have RA8 := rbCall SP7 RA7 hb; have RE8 := rbCall SP7 RE7 hb; have RA'8 := rbCall SP7 RA'7 hb; have RE'8 := rbCall SP7 RE'7 hb; have HP8 := cellStep HP7 hb; have HP'8 := cellStep HP'7 hb; have HR8 := cellStep HR7 hb; have M18 := rbCall SP7 M17 hb; have M28 := rbCall SP7 M27 hb; have X18 := ogStep X17 hb; have X28 := ogStep X27 hb; have HX8 := cellStep HX7 hb; have Y18 := ogStep Y17 hb; have Y28 := ogStep Y27 hb; have HY8 := cellStep HY7 hb; have N18 := ogStep N17 hb; have N28 := ogStep N27 hb; have HG8 := cellStep HG7 hb; have SP8 := spCall SP7 hb; clear hb))
    clear RA RE RA' RE' HP HP' HR M1 M2 X1 X2 HX Y1 Y2 HY N1 N2 HG SP RAd REd RA'd RE'd HPd HP'd HRd M1d M2d X1d X2d HXd Y1d Y2d HYd N1d N2d HGd SPd RA7 RE7 RA'7 RE'7 HP7 HP'7 HR7 M17 M27 X17 X27 HX7 Y17 Y27 HY7 N17 N27 HG7 SP7 j1 j2 p0 p1 pz p'0 p'1 p'z r0 r1 rz x0 x1 xz y0 y1 yz g0 g1 gz
    have RA := RA8
    have RE := RE8
    have RA' := RA'8
    have RE' := RE'8
    have HP := HP8
    have HP' := HP'8
    have HR := HR8
    have M1 := M18
    have M2 := M28
    have X1 := X18
    have X2 := X28
    have HX := HX8
    have Y1 := Y18
    have Y2 := Y28
    have HY := HY8
    have N1 := N18
    have N2 := N28
    have HG := HG8
    have SP := SP8
    clear RA8 RE8 RA'8 RE'8 HP8 HP'8 HR8 M18 M28 X18 X28 HX8 Y18 Y28 HY8 N18 N28 HG8 SP8
    have p0 := HP.out.c0; have p1 := HP.out.c1; have pz := HP.out.lt
    have p'0 := HP'.out.c0; have p'1 := HP'.out.c1; have p'z := HP'.out.lt
    have r0 := HR.out.c0; have r1 := HR.out.c1; have rz := HR.out.lt
    have x0 := HX.out.c0; have x1 := HX.out.c1; have xz := HX.out.lt
    have y0 := HY.out.c0; have y1 := HY.out.c1; have yz := HY.out.lt
    have g0 := HG.out.c0; have g1 := HG.out.c1; have gz := HG.out.lt
    go_upto_region 16 with fail
    have RAd := rbCall SP RA (drewBel _)
    have REd := rbCall SP RE (drewBel _)
    have RA'd := rbCall SP RA' (drewBel _)
    have RE'd := rbCall SP RE' (drewBel _)
    have HPd := cellDrew HP
    have HP'd := cellDrew HP'
    have HRd := cellDrew HR
    have M1d := rbCall SP M1 (drewBel _)
    have M2d := rbCall SP M2 (drewBel _)
    have X1d := ogStep X1 (drewBel _)
    have X2d := ogStep X2 (drewBel _)
    have HXd := cellDrew HX
    have Y1d := ogStep Y1 (drewBel _)
    have Y2d := ogStep Y2 (drewBel _)
    have HYd := cellDrew HY
    have N1d := ogStep N1 (drewBel _)
    have N2d := ogStep N2 (drewBel _)
    have HGd := cellDrew HG
    have SPd := spCall SP (drewBel _)
    go_region_held3 (fun w' => w'.cell? ⟨w.heap.size + 1, 0, none⟩ = some (.slice A' n' c') ∧ w'.cell? ⟨w.heap.size + 1, 1, none⟩ = some (.slice E' m' d') ∧ w'.cell? ⟨w5.heap.size, 0, none⟩ = some (.slice YA n' Yc) ∧ w'.cell? ⟨w5.heap.size, 1, none⟩ = some (.slice YE m' Yd))
      (first | exact ⟨HP'.out.c0, HP'.out.c1, HY.out.c0, HY.out.c1⟩ | exact ⟨HP'd.out.c0, HP'd.out.c1, HYd.out.c0, HYd.out.c1⟩ | exact ⟨HP'7.out.c0, HP'7.out.c1, HY7.out.c0, HY7.out.c1⟩ | exact ⟨HP'8.out.c0, HP'8.out.c1, HY8.out.c0, HY8.out.c1⟩)
      (first
        | (go_at_call 14; refine (toTurned_any A' n' c' xs E' m' d' vs _ RA'd.out.ri RE'd.out.ri hn3' hm3').mono ?_; rintro e w7b ⟨QA, Qc, QE, Qd, Qmid, rfl, j1, j2, Ql, Qm, hb⟩; have RA7 := rbCall SPd RAd hb; have RE7 := rbCall SPd REd hb; have RA'7 := rbCall SPd RA'd hb; have RE'7 := rbCall SPd RE'd hb; have HP7 := cellStep HPd hb; have HP'7 := cellStep HP'd hb; have HR7 := cellStep HRd hb; have M17 := rbCall SPd M1d hb; have M27 := rbCall SPd M2d hb; have X17 := ogStep X1d hb; have X27 := ogStep X2d hb; have HX7 := cellStep HXd hb; have Y17 := ogStep Y1d hb; have Y27 := ogStep Y2d hb; have HY7 := cellStep HYd hb; have N17 := ogStep N1d hb; have N27 := ogStep N2d hb; have HG7 := cellStep HGd hb; have SP7 := spCall SPd hb; clear hb)
        | (go_at_call 16; refine (eqTurned_same YA n' Yc xs YE m' Yd vs QA Qc QE Qd _ Y17.out.ri j1.ri Y27.out.ri j2.ri hn3' hm3').mono ?_; rintro e w8b ⟨rfl, hb⟩; have RA8 := rbCall SP7 RA7 hb; have RE8 := rbCall SP7 RE7 hb; have RA'8 := rbCall SP7 RA'7 hb; have RE'8 := rbCall SP7 RE'7 hb; have HP8 := cellStep HP7 hb; have HP'8 := cellStep HP'7 hb; have HR8 := cellStep HR7 hb; have M18 := rbCall SP7 M17 hb; have M28 := rbCall SP7 M27 hb; have X18 := ogStep X17 hb; have X28 := ogStep X27 hb; have HX8 := cellStep HX7 hb; have Y18 := ogStep Y17 hb; have Y28 := ogStep Y27 hb; have HY8 := cellStep HY7 hb; have N18 := ogStep N17 hb; have N28 := ogStep N27 hb; have HG8 := cellStep HG7 hb; have SP8 := spCall SP7 hb; clear hb))
    clear RA RE RA' RE' HP HP' HR M1 M2 X1 X2 HX Y1 Y2 HY N1 N2 HG SP RAd REd RA'd RE'd HPd HP'd HRd M1d M2d X1d X2d HXd Y1d Y2d HYd N1d N2d HGd SPd RA7 RE7 RA'7 RE'7 HP7 HP'7 HR7 M17 M27 X17 X27 HX7 Y17 Y27 HY7 N17 N27 HG7 SP7 j1 j2 p0 p1 pz p'0 p'1 p'z r0 r1 rz x0 x1 xz y0 y1 yz g0 g1 gz
    have RA := RA8
    have RE := RE8
    have RA' := RA'8
    have RE' := RE'8
    have HP := HP8
    have HP' := HP'8
    have HR := HR8
    have M1 := M18
    have M2 := M28
    have X1 := X18
    have X2 := X28
    have HX := HX8
    have Y1 := Y18
    have Y2 := Y28
    have HY := HY8
    have N1 := N18
    have N2 := N28
    have HG := HG8
    have SP := SP8
    clear RA8 RE8 RA'8 RE'8 HP8 HP'8 HR8 M18 M28 X18 X28 HX8 Y18 Y28 HY8 N18 N28 HG8 SP8
    have p0 := HP.out.c0; have p1 := HP.out.c1; have pz := HP.out.lt
    have p'0 := HP'.out.c0; have p'1 := HP'.out.c1; have p'z := HP'.out.lt
    have r0 := HR.out.c0; have r1 := HR.out.c1; have rz := HR.out.lt
    have x0 := HX.out.c0; have x1 := HX.out.c1; have xz := HX.out.lt
    have y0 := HY.out.c0; have y1 := HY.out.c1; have yz := HY.out.lt
    have g0 := HG.out.c0; have g1 := HG.out.c1; have gz := HG.out.lt
    go_wp2_with fail
    refine (markTurned_any K Xmid w4.heap.size XA n Xc zs XE m Xd us 1 _ X1.out X2.out hn3 hm3 (by omega) (by omega)).mono ?_
    rintro e w9 ⟨rfl, j1, j2, hc⟩
    clear j1 j2
    have hY := Y1.out.le; have hN := N1.out.le
    have hk := hc.below (Nat.le_refl _) SP.out.le'
    replace RA := rbStep RA hk
    replace RE := rbStep RE hk
    replace RA' := rbStep RA' hk
    replace RE' := rbStep RE' hk
    replace HP := c2Chg HP hc (.inl (by have := BK.out; have := H34.out; have := H45.out; omega))
    replace HP' := c2Chg HP' hc (.inl (by have := BK.out; have := H34.out; have := H45.out; omega))
    replace HR := c2Chg HR hc (.inl (by have := RK.out; have := H34.out; have := H45.out; omega))
    replace M1 := rbStep M1 hk
    replace M2 := rbStep M2 hk
    replace Y1 := ogChg Y1 hc (.inr (Nat.le_succ _))
    replace Y2 := ogChg Y2 hc (.inr (by omega))
    replace HY := c2Chg HY hc (.inr (by have := H34.out; have := H45.out; have := H56.out; omega))
    replace N1 := ogChg N1 hc (.inr (by have := H34.out; have := H45.out; have := H56.out; omega))
    replace N2 := ogChg N2 hc (.inr (by have := H45.out; omega))
    replace HG := c2Chg HG hc (.inr (by have := H34.out; have := H45.out; have := H56.out; omega))
    replace SP := spStep SP hk
    clear hc hk X1 X2 HX x0 x1 xz
    replace p0 := HP.out.c0; replace p1 := HP.out.c1; replace pz := HP.out.lt
    replace p'0 := HP'.out.c0; replace p'1 := HP'.out.c1; replace p'z := HP'.out.lt
    replace r0 := HR.out.c0; replace r1 := HR.out.c1; replace rz := HR.out.lt
    replace y0 := HY.out.c0; replace y1 := HY.out.c1; replace yz := HY.out.lt
    replace g0 := HG.out.c0; replace g1 := HG.out.c1; replace gz := HG.out.lt
    go_wp2_with fail
    refine (markTurned_any (w4.heap.size + 1) Ymid w5.heap.size YA n' Yc xs YE m' Yd vs _ _ Y1.out Y2.out hn3' hm3' (by omega) (by omega)).mono ?_
    rintro e w10 ⟨rfl, j1, j2, hc⟩
    clear j1 j2
    have hk := hc.below (by have := H34.out; omega) SP.out.le'
    replace RA := rbStep RA hk
    replace RE := rbStep RE hk
    replace RA' := rbStep RA' hk
    replace RE' := rbStep RE' hk
    replace HP := c2Chg HP hc (.inl (by have := BK.out; have := H34.out; have := H45.out; omega))
    replace HP' := c2Chg HP' hc (.inl (by have := BK.out; have := H34.out; have := H45.out; omega))
    replace HR := c2Chg HR hc (.inl (by have := RK.out; have := H34.out; have := H45.out; omega))
    replace M1 := rbStep M1 hk
    replace M2 := rbStep M2 hk
    replace N1 := ogChg N1 hc (.inr (Nat.le_succ _))
    replace N2 := ogChg N2 hc (.inr (by omega))
    replace HG := c2Chg HG hc (.inr (by have := H34.out; have := H45.out; have := H56.out; omega))
    replace SP := spStep SP hk
    clear hc hk Y1 Y2 HY y0 y1 yz
    replace p0 := HP.out.c0; replace p1 := HP.out.c1; replace pz := HP.out.lt
    replace p'0 := HP'.out.c0; replace p'1 := HP'.out.c1; replace p'z := HP'.out.lt
    replace r0 := HR.out.c0; replace r1 := HR.out.c1; replace rz := HR.out.lt
    replace g0 := HG.out.c0; replace g1 := HG.out.c1; replace gz := HG.out.lt
    have eneg : (decide ((1 : Int) + n + m + n' + m' < 0)) = false := by rw [decide_eq_false_iff_not]; omega
    go_wp2_with fail
    refine (eqTurned_same A9 k1 c9 ys E9 k2 d9 ws A0 c0 E0 d0 _ N1.out.ri M1.out.ri N2.out.ri M2.out.ri hk1 hk2).mono ?_
    rintro e w11 ⟨rfl, hb⟩
    replace RA := rbCall SP RA hb
    replace RE := rbCall SP RE hb
    replace RA' := rbCall SP RA' hb
    replace RE' := rbCall SP RE' hb
    replace HP := cellStep HP hb
    replace HP' := cellStep HP' hb
    replace HR := cellStep HR hb
    replace M1 := rbCall SP M1 hb
    replace M2 := rbCall SP M2 hb
    replace N1 := ogStep N1 hb
    replace N2 := ogStep N2 hb
    replace HG := cellStep HG hb
    replace SP := spCall SP hb
    replace p0 := HP.out.c0; replace p1 := HP.out.c1; replace pz := HP.out.lt
    replace p'0 := HP'.out.c0; replace p'1 := HP'.out.c1; replace p'z := HP'.out.lt
    replace r0 := HR.out.c0; replace r1 := HR.out.c1; replace rz := HR.out.lt
    replace g0 := HG.out.c0; replace g1 := HG.out.c1; replace gz := HG.out.lt
    clear hb
    go_wp2_with fail
    refine (markTurned_any (w5.heap.size + 1) mid9 w6.heap.size A9 k1 c9 ys E9 k2 d9 ws 1 _ N1.out N2.out hk1 hk2 (by omega) (by omega)).mono ?_
    rintro e w12 ⟨rfl, j1, j2, hc⟩
    have N1m := Lib.hid j1; have N2m := Lib.hid j2
    clear j1 j2
    have hk := hc.below (by have := H34.out; have := H45.out; omega) SP.out.le'
    replace RA := rbStep RA hk
    replace RE := rbStep RE hk
    replace RA' := rbStep RA' hk
    replace RE' := rbStep RE' hk
    replace HP := c2Chg HP hc (.inl (by have := BK.out; have := H34.out; have := H45.out; omega))
    replace HP' := c2Chg HP' hc (.inl (by have := BK.out; have := H34.out; have := H45.out; omega))
    replace HR := c2Chg HR hc (.inl (by have := RK.out; have := H34.out; have := H45.out; omega))
    replace M1 := rbStep M1 hk
    replace M2 := rbStep M2 hk
    replace HG := c2Chg HG hc (.inr (Nat.le_refl _))
    replace SP := spStep SP hk
    clear hc hk N1 N2 
    replace p0 := HP.out.c0; replace p1 := HP.out.c1; replace pz := HP.out.lt
    replace p'0 := HP'.out.c0; replace p'1 := HP'.out.c1; replace p'z := HP'.out.lt
    replace r0 := HR.out.c0; replace r1 := HR.out.c1; replace rz := HR.out.lt
    replace g0 := HG.out.c0; replace g1 := HG.out.c1; replace gz := HG.out.lt
    have N1 := N1m; have N2 := N2m
    clear N1m N2m
    go_wp2_with fail
    refine (heldTurned_any A9 k1 c9 E9 k2 d9 1 _ N1.out.ri N2.out.ri hk1 hk2 (by omega) (by omega)).mono ?_
    rintro e w13 ⟨rfl, hb⟩
    replace RA := rbCall SP RA hb
    replace RE := rbCall SP RE hb
    replace RA' := rbCall SP RA' hb
    replace RE' := rbCall SP RE' hb
    replace HP := cellStep HP hb
    replace HP' := cellStep HP' hb
    replace HR := cellStep HR hb
    replace M1 := rbCall SP M1 hb
    replace M2 := rbCall SP M2 hb
    replace HG := cellStep HG hb
    replace N1 := ogStep N1 hb
    replace N2 := ogStep N2 hb
    replace SP := spCall SP hb
    replace p0 := HP.out.c0; replace p1 := HP.out.c1; replace pz := HP.out.lt
    replace p'0 := HP'.out.c0; replace p'1 := HP'.out.c1; replace p'z := HP'.out.lt
    replace r0 := HR.out.c0; replace r1 := HR.out.c1; replace rz := HR.out.lt
    replace g0 := HG.out.c0; replace g1 := HG.out.c1; replace gz := HG.out.lt
    clear hb
    go_upto_region 31 with fail
    have DRA : Hid (RB w13 w13.heap.size _ _ _) := Lib.hid (RB.of_ri RA.out.ri)
    have DRE : Hid (RB w13 w13.heap.size _ _ _) := Lib.hid (RB.of_ri RE.out.ri)
    have DRA' : Hid (RB w13 w13.heap.size _ _ _) := Lib.hid (RB.of_ri RA'.out.ri)
    have DRE' : Hid (RB w13 w13.heap.size _ _ _) := Lib.hid (RB.of_ri RE'.out.ri)
    have HS31 : Hid (∀ w', Below w13.heap.size w13 w' → w'.cell? ⟨w.heap.size, 0, none⟩ = some (.slice A n c) ∧ w'.cell? ⟨w.heap.size, 1, none⟩ = some (.slice E m d) ∧ w'.cell? ⟨w.heap.size + 1, 0, none⟩ = some (.slice A' n' c') ∧ w'.cell? ⟨w.heap.size + 1, 1, none⟩ = some (.slice E' m' d')) := fun w' hb => ⟨(hb.cell (p := ⟨w.heap.size, 0, none⟩) HP.out.lt).trans HP.out.c0, (hb.cell (p := ⟨w.heap.size, 1, none⟩) HP.out.lt).trans HP.out.c1, (hb.cell (p := ⟨w.heap.size + 1, 0, none⟩) HP'.out.lt).trans HP'.out.c0, (hb.cell (p := ⟨w.heap.size + 1, 1, none⟩) HP'.out.lt).trans HP'.out.c1⟩
    go_cut [15, 16] from 94 (fun s1 s2 wx => ∃ (bk : Nat) (A0 : Option Addr) (c0 : Nat) (E0 : Option Addr) (d0 : Nat), s1 = .pointer (some ⟨bk, 0, none⟩) ∧ s2 = .bool q ∧ Cell2 wx bk (.slice A0 k1 c0) (.slice E0 k2 d0) ∧ RI wx A0 k1 ys ∧ RI wx E0 k2 ws ∧ Below w13.heap.size w13 wx)
    case first =>
      clear p0 p1 pz p'0 p'1 p'z r0 r1 rz g0 g1 gz
      go_region_held3 (fun w' => w'.cell? ⟨w.heap.size, 0, none⟩ = some (.slice A n c) ∧ w'.cell? ⟨w.heap.size, 1, none⟩ = some (.slice E m d) ∧ w'.cell? ⟨w.heap.size + 1, 0, none⟩ = some (.slice A' n' c') ∧ w'.cell? ⟨w.heap.size + 1, 1, none⟩ = some (.slice E' m' d'))
        (exact HS31.out _ (by repeat (first | with_reducible exact B3.out | with_reducible exact B2.out | with_reducible exact B1.out | with_reducible exact Below.refl _ _ | refine Below.setCell ?_ (by first | exact Nat.le_refl _ | assumption | (simp; done) | (simp; omega)) _ | refine Below.alloc ?_ (by first | exact Nat.le_refl _ | assumption | (simp; done) | (simp; omega)) _ | refine Below.drew ?_)))
        (first
          | (go_at_call 18; refine (hI.out Aa ca Ea da Ab cb Eb db _ ?_ ?_ ?_ ?_ la lma lb lmb).mono ?_; (first | with_reducible exact Cc1.out | with_reducible exact RI.alloc Cc1.out _); (first | with_reducible exact Cc2.out | with_reducible exact RI.alloc Cc2.out _); (first | with_reducible exact Cb1.out | with_reducible exact RI.alloc Cb1.out _); (first | with_reducible exact Cb2.out | with_reducible exact RI.alloc Cb2.out _); rintro e wd ⟨A0, c0, E0, d0, mid0, rfl, r1, r2, hb⟩; have B3 : Hid (Below w13.heap.size w13 wd) := belStep (show Hid (Below w13.heap.size w13 _) from (by with_reducible first | exact B2 | exact belAlloc B2 _)) hb; have V1 : Hid (RI wd A0 k1 ys) := Lib.hid r1.ri; have V2 : Hid (RI wd E0 k2 ws) := Lib.hid r2.ri; have s3 := B3.out.size; (try (have T1 : Hid (TB wd (w13.heap.size) (.slice none 0 0) (.slice none 0 0)) := (by first | exact TB.below (R1.out) hb); have T1c := T1.out.cell2.c0; have T1d := T1.out.cell2.c1; have T1f := T1.out.cell2.f0; have T1g := T1.out.cell2.f1; have T1l := T1.out.lt)); (try (have T2 : Hid (TB wd (wa.heap.size) (.slice none 0 0) (.slice none 0 0)) := (by first | exact TB.below (R2.out) hb); have T2c := T2.out.cell2.c0; have T2d := T2.out.cell2.c1; have T2f := T2.out.cell2.f0; have T2g := T2.out.cell2.f1; have T2l := T2.out.lt)); (try (have T3 : Hid (TB wd (wb.heap.size) (.slice none 0 0) (.slice none 0 0)) := (by first | exact TB.below (TB.new' _ _ _ _ rfl) hb); have T3c := T3.out.cell2.c0; have T3d := T3.out.cell2.c1; have T3f := T3.out.cell2.f0; have T3g := T3.out.cell2.f1; have T3l := T3.out.lt)); clear hb r1 r2)
          | (go_at_call_of 14 (Value.slice A' n' c'); have hx := B1.out; clear hx; refine (toTurned_any A' n' c' xs E' m' d' vs _ ?_ ?_ hn3' hm3').mono ?_; exact rbK DRA' (show Hid (Below w13.heap.size w13 _) from (by with_reducible first | exact B1 | exact belAlloc B1 _)).out; exact rbK DRE' (show Hid (Below w13.heap.size w13 _) from (by with_reducible first | exact B1 | exact belAlloc B1 _)).out; rintro e wb ⟨Ab, cb, Eb, db, midb, rfl, o1, o2, lb, lmb, hb⟩; have B2 : Hid (Below w13.heap.size w13 wb) := belStep (show Hid (Below w13.heap.size w13 _) from (by with_reducible first | exact B1 | exact belAlloc B1 _)) hb; have Cb1 : Hid (RI wb Ab n' xs) := Lib.hid o1.ri; have Cb2 : Hid (RI wb Eb m' vs) := Lib.hid o2.ri; have Cc1 : Hid (RI wb Aa n zs) := riStep (show Hid (RI _ Aa n zs) from (by with_reducible first | exact Ca1 | exact Lib.hid (RI.alloc Ca1.out _))) hb; have Cc2 : Hid (RI wb Ea m us) := riStep (show Hid (RI _ Ea m us) from (by with_reducible first | exact Ca2 | exact Lib.hid (RI.alloc Ca2.out _))) hb; have s2 := B2.out.size; (try (have R1 : Hid (TB wb (w13.heap.size) (.slice none 0 0) (.slice none 0 0)) := (by first | exact TB.below (P1.out) hb); have R1c := R1.out.cell2.c0; have R1d := R1.out.cell2.c1; have R1f := R1.out.cell2.f0; have R1g := R1.out.cell2.f1; have R1l := R1.out.lt)); (try (have R2 : Hid (TB wb (wa.heap.size) (.slice none 0 0) (.slice none 0 0)) := (by first | exact TB.below (TB.new' _ _ _ _ rfl) hb); have R2c := R2.out.cell2.c0; have R2d := R2.out.cell2.c1; have R2f := R2.out.cell2.f0; have R2g := R2.out.cell2.f1; have R2l := R2.out.lt)); clear hb o1 o2)
          | (go_at_call_of 14 (Value.slice A n c); refine (toTurned_any A n c zs E m d us _ ?_ ?_ hn3 hm3).mono ?_; exact rbK DRA (show Hid (Below w13.heap.size w13 _) from (by with_reducible first | exact belDrew belRefl | exact belDrew (belAlloc belRefl _) | exact belAlloc (belDrew belRefl) _)).out; exact rbK DRE (show Hid (Below w13.heap.size w13 _) from (by with_reducible first | exact belDrew belRefl | exact belDrew (belAlloc belRefl _) | exact belAlloc (belDrew belRefl) _)).out; rintro e wa ⟨Aa, ca, Ea, da, mida, rfl, o1, o2, la, lma, hb⟩; have B1 : Hid (Below w13.heap.size w13 wa) := belStep (show Hid (Below w13.heap.size w13 _) from (by with_reducible first | exact belDrew belRefl | exact belDrew (belAlloc belRefl _) | exact belAlloc (belDrew belRefl) _)) hb; have Ca1 : Hid (RI wa Aa n zs) := Lib.hid o1.ri; have Ca2 : Hid (RI wa Ea m us) := Lib.hid o2.ri; have s1 := B1.out.size; (try (have P1 : Hid (TB wa (w13.heap.size) (.slice none 0 0) (.slice none 0 0)) := (by first | exact TB.below (TB.drewU (TB.new' _ _ _ _ rfl)) hb | exact TB.below (TB.new' _ _ _ _ rfl) hb); have P1c := P1.out.cell2.c0; have P1d := P1.out.cell2.c1; have P1f := P1.out.cell2.f0; have P1g := P1.out.cell2.f1; have P1l := P1.out.lt)); clear hb o1 o2))
      all_goals
        go_wp2
        go_meet
        case rel =>
          refine ⟨_, A0, c0, E0, d0, rfl, rfl, ?_, ?_, ?_, ?_⟩
          · first | with_reducible exact (TB.set1 (TB.set0 T1.out _) _).cell2 | with_reducible exact (TB.set1 (TB.set0 T2.out _) _).cell2 | with_reducible exact (TB.set1 (TB.set0 T3.out _) _).cell2 | with_reducible exact (TB.new' _ _ _ _ rfl).cell2
          · first | with_reducible exact RI.past (RI.past V1.out T1.out 0 _) (TB.set0 T1.out _) 1 _ | with_reducible exact RI.past (RI.past V1.out T2.out 0 _) (TB.set0 T2.out _) 1 _ | with_reducible exact RI.past (RI.past V1.out T3.out 0 _) (TB.set0 T3.out _) 1 _ | with_reducible exact RI.alloc V1.out _
          · first | with_reducible exact RI.past (RI.past V2.out T1.out 0 _) (TB.set0 T1.out _) 1 _ | with_reducible exact RI.past (RI.past V2.out T2.out 0 _) (TB.set0 T2.out _) 1 _ | with_reducible exact RI.past (RI.past V2.out T3.out 0 _) (TB.set0 T3.out _) 1 _ | with_reducible exact RI.alloc V2.out _
          · exact (by repeat (first | with_reducible exact B3.out | with_reducible exact B2.out | with_reducible exact B1.out | with_reducible exact Below.refl _ _ | refine Below.setCell ?_ (by first | exact Nat.le_refl _ | assumption | (simp; done) | (simp; omega)) _ | refine Below.alloc ?_ (by first | exact Nat.le_refl _ | assumption | (simp; done) | (simp; omega)) _ | refine Below.drew ?_))
    case rest =>
      clear HS31 DRA DRE DRA' DRE'
      obtain ⟨bh, A7, c7, E7, d7, rfl, rfl, hbox, m1, m2, hb⟩ := hcut
      obtain ⟨v1, hv1⟩ : ∃ v : World, v = wc := ⟨_, rfl⟩
      subst hv1
      replace RA := rbCall SP RA hb
      replace RE := rbCall SP RE hb
      replace RA' := rbCall SP RA' hb
      replace RE' := rbCall SP RE' hb
      replace HP := cellStep HP hb
      replace HP' := cellStep HP' hb
      replace HR := cellStep HR hb
      replace M1 := rbCall SP M1 hb
      replace M2 := rbCall SP M2 hb
      replace HG := cellStep HG hb
      replace N1 := ogStep N1 hb
      replace N2 := ogStep N2 hb
      replace SP := spCall SP hb
      replace p0 := HP.out.c0; replace p1 := HP.out.c1; replace pz := HP.out.lt
      replace p'0 := HP'.out.c0; replace p'1 := HP'.out.c1; replace p'z := HP'.out.lt
      replace r0 := HR.out.c0; replace r1 := HR.out.c1; replace rz := HR.out.lt
      replace g0 := HG.out.c0; replace g1 := HG.out.c1; replace gz := HG.out.lt
      have HH := Lib.hid hbox; have V1 := Lib.hid m1; have V2 := Lib.hid m2
      clear hb hbox m1 m2
      have h0 := HH.out.c0; have h1 := HH.out.c1; have hz := HH.out.lt
      go_wp2_with fail
      refine (eqTurned_same A7 k1 c7 ys E7 k2 d7 ws A0 c0 E0 d0 _ V1.out M1.out.ri V2.out M2.out.ri hk1 hk2).mono ?_
      rintro e w15 ⟨rfl, hb⟩
      replace RA := rbCall SP RA hb
      replace RE := rbCall SP RE hb
      replace RA' := rbCall SP RA' hb
      replace RE' := rbCall SP RE' hb
      replace HP := cellStep HP hb
      replace HP' := cellStep HP' hb
      replace HR := cellStep HR hb
      replace M1 := rbCall SP M1 hb
      replace M2 := rbCall SP M2 hb
      replace HG := cellStep HG hb
      replace N1 := ogStep N1 hb
      replace N2 := ogStep N2 hb
      replace HH := cellStep HH hb
      replace V1 := riStep V1 hb
      replace V2 := riStep V2 hb
      replace SP := spCall SP hb
      replace p0 := HP.out.c0; replace p1 := HP.out.c1; replace pz := HP.out.lt
      replace p'0 := HP'.out.c0; replace p'1 := HP'.out.c1; replace p'z := HP'.out.lt
      replace r0 := HR.out.c0; replace r1 := HR.out.c1; replace rz := HR.out.lt
      replace g0 := HG.out.c0; replace g1 := HG.out.c1; replace gz := HG.out.lt
      replace h0 := HH.out.c0; replace h1 := HH.out.c1; replace hz := HH.out.lt
      clear hb
      go_wp2_with fail
      refine (heldTurned_any A9 k1 c9 E9 k2 d9 1 _ N1.out.ri N2.out.ri hk1 hk2 (by omega) (by omega)).mono ?_
      rintro e w16 ⟨rfl, hb⟩
      replace RA := rbCall SP RA hb
      replace RE := rbCall SP RE hb
      replace RA' := rbCall SP RA' hb
      replace RE' := rbCall SP RE' hb
      replace HP := cellStep HP hb
      replace HP' := cellStep HP' hb
      replace HR := cellStep HR hb
      replace M1 := rbCall SP M1 hb
      replace M2 := rbCall SP M2 hb
      replace HG := cellStep HG hb
      replace N1 := ogStep N1 hb
      replace N2 := ogStep N2 hb
      replace HH := cellStep HH hb
      replace V1 := riStep V1 hb
      replace V2 := riStep V2 hb
      replace SP := spCall SP hb
      replace p0 := HP.out.c0; replace p1 := HP.out.c1; replace pz := HP.out.lt
      replace p'0 := HP'.out.c0; replace p'1 := HP'.out.c1; replace p'z := HP'.out.lt
      replace r0 := HR.out.c0; replace r1 := HR.out.c1; replace rz := HR.out.lt
      replace g0 := HG.out.c0; replace g1 := HG.out.c1; replace gz := HG.out.lt
      replace h0 := HH.out.c0; replace h1 := HH.out.c1; replace hz := HH.out.lt
      clear hb
      go_wp2_with fail
      go_ret
      exact ⟨rfl, SP.out.bel⟩

set_option maxHeartbeats 1000000 in
theorem lawThenTurned_any (A : Option Addr) (n c : Nat) (zs : List Int) (E : Option Addr) (m d : Nat) (us : List Int) (A' : Option Addr) (n' c' : Nat) (xs : List Int) (E' : Option Addr) (m' d' : Nat) (vs : List Int) (w : World) (h : RI w A n zs) (hn : n ≤ 9223372036854775807) (g : RI w E m us) (hm : m ≤ 9223372036854775807) (h' : RI w A' n' xs) (hn' : n' ≤ 9223372036854775807) (g' : RI w E' m' vs) (hm' : m' ≤ 9223372036854775807) :
    Calls Try.prog 4 #[.agg #[.slice A n c, .slice E m d], .agg #[.slice A' n' c', .slice E' m' d']] w (RetB true w) := by
  by_cases hn2 : (n : Int) ≤ 1048576
  · by_cases hm2 : (m : Int) ≤ 1048576 - n
    · by_cases hn3 : (n' : Int) ≤ 1048576 - n - m
      · by_cases hm3 : (m' : Int) ≤ 1048576 - n - m - n'
        · exact lawThenTurned_of A n c zs E m d us A' n' c' xs E' m' d' vs w h g h' g' hn2 hm2 hn3 hm3 _ (ifL (thB zs us xs vs) (thE zs xs)) _ (ifL (thB zs us xs vs) (thW zs us vs)) (thB zs us xs vs) (Nat.le_trans (thE_len zs us xs vs) (by decide)) (Nat.le_trans (thW_len zs us xs vs) (by decide)) (fun B b D e B' b' D' e' w2 r1 r2 r3 r4 l1 l2 l3 l4 => sThenTurned_any B n b zs D m e us B' n' b' xs D' m' e' vs w2 r1 r2 r3 r4 (by omega) (by omega) (by omega) (by omega) l1 l3) (fun B b D e B' b' D' e' w2 r1 r2 r3 r4 l1 l2 l3 l4 => iThenTurned_any B n b zs D m e us B' n' b' xs D' m' e' vs w2 r1 r2 r3 r4 (by omega) (by omega) (by omega) (by omega) l1 l3)
        · have EZ := Lib.hid (szt_yes hn2 hm2)
          have EZ' := Lib.hid (szt_no2 hn3 hm3)
          clear h g h' g'
          go_enter Try.func4, Try.ntmps4
          go_wp2_with fail
          have HB := belAlloc (belAlloc (belRefl (w := w)) (.cells #[.slice A n c, .slice E m d] 24)) (.cells #[.slice A' n' c', .slice E' m' d'] 24)
          have HP' := cellNew (w.alloc (.cells #[.slice A n c, .slice E m d] 24)) (.slice A' n' c') (.slice E' m' d') 24
          simp only [World.size_alloc] at HP'
          refine (szTurned_any A n c E m d _ _ (by omega) (by omega) hn hm).mono ?_
          rw [EZ.out]
          rintro e w1 ⟨rfl, hb⟩
          replace HB := belStep HB hb
          replace HP' := cellStep HP' hb
          clear hb
          have p0 := HP'.out.c0; have p1 := HP'.out.c1; have pz := HP'.out.lt
          go_wp2_with fail
          refine (szTurned_any A' n' c' E' m' d' _ _ (by omega) (by omega) hn' hm').mono ?_
          rw [EZ'.out]
          rintro e w2 ⟨rfl, hb⟩
          replace HB := belStep HB hb
          clear hb
          go_wp2_with fail
          go_ret
          exact ⟨rfl, HB.out⟩
      · have EZ := Lib.hid (szt_yes hn2 hm2)
        have EZ' := Lib.hid (szt_no1 (m := m') hn3)
        clear h g h' g'
        go_enter Try.func4, Try.ntmps4
        go_wp2_with fail
        have HB := belAlloc (belAlloc (belRefl (w := w)) (.cells #[.slice A n c, .slice E m d] 24)) (.cells #[.slice A' n' c', .slice E' m' d'] 24)
        have HP' := cellNew (w.alloc (.cells #[.slice A n c, .slice E m d] 24)) (.slice A' n' c') (.slice E' m' d') 24
        simp only [World.size_alloc] at HP'
        refine (szTurned_any A n c E m d _ _ (by omega) (by omega) hn hm).mono ?_
        rw [EZ.out]
        rintro e w1 ⟨rfl, hb⟩
        replace HB := belStep HB hb
        replace HP' := cellStep HP' hb
        clear hb
        have p0 := HP'.out.c0; have p1 := HP'.out.c1; have pz := HP'.out.lt
        go_wp2_with fail
        refine (szTurned_any A' n' c' E' m' d' _ _ (by omega) (by omega) hn' hm').mono ?_
        rw [EZ'.out]
        rintro e w2 ⟨rfl, hb⟩
        replace HB := belStep HB hb
        clear hb
        go_wp2_with fail
        go_ret
        exact ⟨rfl, HB.out⟩
    · have EZ := Lib.hid (szt_no2 hn2 hm2)
      clear h g h' g'
      go_enter Try.func4, Try.ntmps4
      go_wp2_with fail
      have HB := belAlloc (belAlloc (belRefl (w := w)) (.cells #[.slice A n c, .slice E m d] 24)) (.cells #[.slice A' n' c', .slice E' m' d'] 24)
      have HP' := cellNew (w.alloc (.cells #[.slice A n c, .slice E m d] 24)) (.slice A' n' c') (.slice E' m' d') 24
      simp only [World.size_alloc] at HP'
      refine (szTurned_any A n c E m d _ _ (by omega) (by omega) hn hm).mono ?_
      rw [EZ.out]
      rintro e w1 ⟨rfl, hb⟩
      replace HB := belStep HB hb
      replace HP' := cellStep HP' hb
      clear hb
      go_wp2_with fail
      go_ret
      exact ⟨rfl, HB.out⟩
  · have EZ := Lib.hid (szt_no1 (m := m) hn2)
    clear h g h' g'
    go_enter Try.func4, Try.ntmps4
    go_wp2_with fail
    have HB := belAlloc (belAlloc (belRefl (w := w)) (.cells #[.slice A n c, .slice E m d] 24)) (.cells #[.slice A' n' c', .slice E' m' d'] 24)
    have HP' := cellNew (w.alloc (.cells #[.slice A n c, .slice E m d] 24)) (.slice A' n' c') (.slice E' m' d') 24
    simp only [World.size_alloc] at HP'
    refine (szTurned_any A n c E m d _ _ (by omega) (by omega) hn hm).mono ?_
    rw [EZ.out]
    rintro e w1 ⟨rfl, hb⟩
    replace HB := belStep HB hb
    replace HP' := cellStep HP' hb
    clear hb
    go_wp2_with fail
    go_ret
    exact ⟨rfl, HB.out⟩
end Go.Proofs.Ytijddnllacphfaa
