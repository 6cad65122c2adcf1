/- The law of PolePower, gone through: it returns true, and nothing that was there has turned. -/
import Derived.Test.YtijddnllacphfaaPw2
import Derived.Test.YtijddnllacphfaaStL
import Derived.Test.YtijddnllacphfaaUl2
import Derived.Deep.RegionHeld3
namespace Go.Proofs.Ytijddnllacphfaa
open Go Go.RowKit

set_option maxRecDepth 100000 in
set_option maxHeartbeats 8000000 in
theorem lawPolePower_of (A : Option Addr) (n c : Nat) (zs : List Int) (E : Option Addr) (m d : Nat) (us : List Int) (w : World) (h : RI w A n zs) (g : RI w E m us) (hn2 : (n : Int) ≤ 1048576) (hm2 : (m : Int) ≤ 1048576 - n) (r : Int) (q : Bool)
    (hS : Hid (∀ (B : Option Addr) (b : Nat) (D : Option Addr) (e : Nat) (w2 : World), RI w2 B n zs → RI w2 D m us → n ≤ b → m ≤ e → Calls Try.prog 41 #[.agg #[.slice B n b, .slice D m e]] w2 (RetIB r q w2)))
    (hI : Hid (∀ (B : Option Addr) (b : Nat) (D : Option Addr) (e : Nat) (w2 : World), RI w2 B n zs → RI w2 D m us → n ≤ b → m ≤ e → Calls Try.prog 42 #[.agg #[.slice B n b, .slice D m e]] w2 (RetIB r q w2))) :
    Calls Try.prog 11 #[.agg #[.slice A n c, .slice E m d]] w (RetB true w) := by
  have hn3 : n ≤ 1048576 := by omega
  have hm3 : m ≤ 1048576 := by omega
  have EZ := Lib.hid (szt_yes hn2 hm2)
  have hn : n ≤ 9223372036854775807 := by omega
  have hm : m ≤ 9223372036854775807 := by omega
  have e0 : (q != q) = false := by simp
  have e1 : (r != r) = false := by simp
  have RA := Lib.hid h
  have RE := Lib.hid g
  clear h g
  go_enter Try.func11, Try.ntmps11
  go_wp2_with fail
  have HP := cellNew w (.slice A n c) (.slice E m d) 24
  replace RA := riStep RA (allocBel w (.cells #[.slice A n c, .slice E m d] 24))
  replace RE := riStep RE (allocBel w (.cells #[.slice A n c, .slice E m d] 24))
  have HB := belAlloc (belRefl (w := w)) (.cells #[.slice A n c, .slice E m d] 24)
  refine (szTurned_any A n c E m d _ _ (by omega) (by omega) hn hm).mono ?_
  rw [EZ.out]
  rintro e w1 ⟨rfl, hb⟩
  replace RA := riStep RA hb
  replace RE := riStep RE hb
  replace HP := cellStep HP hb
  replace HB := belStep HB hb
  have p0 := HP.out.c0; have p1 := HP.out.c1; have pz := HP.out.lt
  clear hb
  go_wp2_with fail
  refine (toTurned_any A n c zs E m d us _ RA.out RE.out hn3 hm3).mono ?_
  rintro e w2 ⟨CA, Cc, CE, Cd, Cmid, rfl, o1, o2, Cl, Cm, hb⟩
  replace RA := riStep RA hb
  replace RE := riStep RE hb
  replace HP := cellStep HP hb
  replace HB := belStep HB hb
  replace p0 := HP.out.c0; replace p1 := HP.out.c1; replace pz := HP.out.lt
  have C1 := Lib.hid o1.ri
  have C2 := Lib.hid o2.ri
  clear hb
  go_wp2_with fail
  refine (hS.out CA Cc CE Cd _ C1.out C2.out Cl Cm).mono ?_
  rintro e w3 ⟨rfl, hb⟩
  replace RA := riStep RA hb
  replace RE := riStep RE hb
  replace HP := cellStep HP hb
  replace HB := belStep HB hb
  replace p0 := HP.out.c0; replace p1 := HP.out.c1; replace pz := HP.out.lt
  clear hb o1 C1 o2 C2
  go_wp2_with fail
  refine (toTurned_any A n c zs E m d us _ RA.out RE.out hn3 hm3).mono ?_
  rintro e w4 ⟨XA, Xc, XE, Xd, Xmid, rfl, o1, o2, Xl, Xm, hb⟩
  replace RA := riStep RA hb
  replace RE := riStep RE hb
  replace HP := cellStep HP hb
  replace HB := belStep HB hb
  replace p0 := HP.out.c0; replace p1 := HP.out.c1; replace pz := HP.out.lt
  have X1 := Lib.hid o1.ri
  have X2 := Lib.hid o2.ri
  clear hb o1 o2
  go_wp2_with fail
  have HX := cellNew w4 (.slice XA n Xc) (.slice XE m Xd) 27
  replace RA := riStep RA (allocBel w4 (.cells #[.slice XA n Xc, .slice XE m Xd] 27))
  replace RE := riStep RE (allocBel w4 (.cells #[.slice XA n Xc, .slice XE m Xd] 27))
  replace HP := cellStep HP (allocBel w4 (.cells #[.slice XA n Xc, .slice XE m Xd] 27))
  replace X1 := riStep X1 (allocBel w4 (.cells #[.slice XA n Xc, .slice XE m Xd] 27))
  replace X2 := riStep X2 (allocBel w4 (.cells #[.slice XA n Xc, .slice XE m Xd] 27))
  replace HB := belStep HB (allocBel w4 (.cells #[.slice XA n Xc, .slice XE m Xd] 27))
  replace p0 := HP.out.c0; replace p1 := HP.out.c1; replace pz := HP.out.lt
  have x0 := HX.out.c0; have x1 := HX.out.c1; have xz := HX.out.lt
  refine (hI.out XA Xc XE Xd _ X1.out X2.out Xl Xm).mono ?_
  rintro e w5 ⟨rfl, hb⟩
  replace RA := riStep RA hb
  replace RE := riStep RE hb
  replace HP := cellStep HP hb
  replace X1 := riStep X1 hb
  replace X2 := riStep X2 hb
  replace HX := cellStep HX hb
  replace HB := belStep HB hb
  replace p0 := HP.out.c0; replace p1 := HP.out.c1; replace pz := HP.out.lt
  replace x0 := HX.out.c0; replace x1 := HX.out.c1; replace xz := HX.out.lt
  clear hb
  go_wp2_with fail
  have RAd := riStep RA (drewBel _)
  have REd := riStep RE (drewBel _)
  have HPd := cellDrew HP
  have X1d := riStep X1 (drewBel _)
  have X2d := riStep X2 (drewBel _)
  have HXd := cellDrew HX
  have HBd := belDrew HB
  go_region_held3 (fun w' => w'.cell? ⟨w.heap.size, 0, none⟩ = some (.slice A n c) ∧ w'.cell? ⟨w.heap.size, 1, none⟩ = some (.slice E m d) ∧ w'.cell? ⟨w4.heap.size, 0, none⟩ = some (.slice XA n Xc) ∧ w'.cell? ⟨w4.heap.size, 1, none⟩ = some (.slice XE m Xd))
    (first | exact ⟨HP.out.c0, HP.out.c1, HX.out.c0, HX.out.c1⟩ | exact ⟨HP7.out.c0, HP7.out.c1, HX7.out.c0, HX7.out.c1⟩ | exact ⟨HP8.out.c0, HP8.out.c1, HX8.out.c0, HX8.out.c1⟩)
    (first
      | (go_at_call 14; refine (toTurned_any A n c zs E m d us _ RAd.out REd.out hn3 hm3).mono ?_; rintro e w7 ⟨YA, Yc, YE, Yd, Ymid, rfl, y1, y2, Yl, Ym, hb⟩; have RA7 := riStep RAd hb; have RE7 := riStep REd hb; have HP7 := cellStep HPd hb; have X17 := riStep X1d hb; have X27 := riStep X2d hb; have HX7 := cellStep HXd hb; have HB7 := belStep HBd hb; clear hb)
      | (go_at_call 16; refine (eqTurned_same XA n Xc zs XE m Xd us YA Yc YE Yd _ X17.out y1.ri X27.out y2.ri hn3 hm3).mono ?_; rintro e w8 ⟨rfl, hb⟩; have RA8 := riStep RA7 hb; have RE8 := riStep RE7 hb; have HP8 := cellStep HP7 hb; have X18 := riStep X17 hb; have X28 := riStep X27 hb; have HX8 := cellStep HX7 hb; have HB8 := belStep HB7 hb; clear hb))
  go_wp2
  go_ret
  exact ⟨rfl, HB8.out⟩

set_option maxHeartbeats 1000000 in
theorem lawPolePower_any (A : Option Addr) (n c : Nat) (zs : List Int) (E : Option Addr) (m d : Nat) (us : List Int) (w : World) (h : RI w A n zs) (hn : n ≤ 9223372036854775807) (g : RI w E m us) (hm : m ≤ 9223372036854775807) :
    Calls Try.prog 11 #[.agg #[.slice A n c, .slice E m d]] w (RetB true w) := by
  by_cases hn2 : (n : Int) ≤ 1048576
  · by_cases hm2 : (m : Int) ≤ 1048576 - n
    · exact lawPolePower_of A n c zs E m d us w h g hn2 hm2 (pwN zs us) (pwB zs us) (fun B b D e w2 r1 r2 l1 l2 => sPolePower_any B n b zs D m e us w2 r1 r2 (by omega) (by omega) l1) (fun B b D e w2 r1 r2 l1 l2 => iPolePower_any B n b zs D m e us w2 r1 r2 (by omega) (by omega) l1)
    · have EZ := Lib.hid (szt_no2 hn2 hm2)
      clear h g
      go_enter Try.func11, Try.ntmps11
      go_wp2_with fail
      refine (szTurned_any A n c E m d _ _ (by omega) (by omega) hn hm).mono ?_
      rw [EZ.out]
      rintro e w1 ⟨rfl, hb⟩
      have HB := belStep (belAlloc (belRefl (w := w)) (.cells #[.slice A n c, .slice E m d] 24)) hb
      clear hb
      go_wp2_with fail
      go_ret
      exact ⟨rfl, HB.out⟩
  · have EZ := Lib.hid (szt_no1 (m := m) hn2)
    clear h g
    go_enter Try.func11, Try.ntmps11
    go_wp2_with fail
    refine (szTurned_any A n c E m d _ _ (by omega) (by omega) hn hm).mono ?_
    rw [EZ.out]
    rintro e w1 ⟨rfl, hb⟩
    have HB := belStep (belAlloc (belRefl (w := w)) (.cells #[.slice A n c, .slice E m d] 24)) hb
    clear hb
    go_wp2_with fail
    go_ret
    exact ⟨rfl, HB.out⟩
end Go.Proofs.Ytijddnllacphfaa
