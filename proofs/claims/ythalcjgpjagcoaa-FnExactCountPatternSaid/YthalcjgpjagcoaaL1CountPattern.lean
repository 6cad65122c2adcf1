/- The law of CountPattern, gone through: it returns true, and nothing that was there has turned. -/
import Derived.Test.YthalcjgpjagcoaaCp2
import Derived.Test.YthalcjgpjagcoaaStP
namespace Go.Proofs.Ythalcjgpjagcoaa
open Go Go.RowKit

set_option maxRecDepth 100000 in
set_option maxHeartbeats 8000000 in
theorem lawCountPattern_of (A0 : Option Addr) (n0 c0 : Nat) (zs0 : List Int) (A1 : Option Addr) (n1 c1 : Nat) (zs1 : List Int) (w : World) (h0 : RI w A0 n0 zs0) (h1 : RI w A1 n1 zs1) (hn0 : (n0 : Int) ≤ 1048576) (hn1 : (n1 : Int) ≤ 1048576) (r : Int) (q : Bool)
    (hS : Hid (∀ (B0 : Option Addr) (d0 : Nat) (B1 : Option Addr) (d1 : Nat) (w2 : World), RI w2 B0 n0 zs0 → n0 ≤ d0 → RI w2 B1 n1 zs1 → n1 ≤ d1 → Calls Try.prog 26 #[.slice B0 n0 d0, .slice B1 n1 d1] w2 (RetIB r q w2)))
    (hI : Hid (∀ (B0 : Option Addr) (d0 : Nat) (B1 : Option Addr) (d1 : Nat) (w2 : World), RI w2 B0 n0 zs0 → n0 ≤ d0 → RI w2 B1 n1 zs1 → n1 ≤ d1 → Calls Try.prog 27 #[.slice B0 n0 d0, .slice B1 n1 d1] w2 (RetIB r q w2))) :
    Calls Try.prog 5 #[.slice A0 n0 c0, .slice A1 n1 c1] w (RetB true w) := by
  have hm0 : n0 ≤ 1048576 := by omega
  have hm1 : n1 ≤ 1048576 := by omega
  have e0 : (q != q) = false := by simp
  have e1 : (r != r) = false := by simp
  have HA0 := Lib.hid h0
  have HA1 := Lib.hid h1
  have HB := belRefl (w := w)
  clear h0 h1
  go_enter Try.func5, Try.ntmps5
  -- the model
  go_wp2_with fail
  refine (toIntS_any A0 n0 c0 zs0 _ HA0.out hm0).mono ?_
  rintro e w1 ⟨C0, Cc0, rfl, o, hb⟩
  replace HA0 := riStep HA0 hb
  replace HA1 := riStep HA1 hb
  replace HB := belStep HB hb
  have HC0 := Lib.hid o
  clear hb o
  go_wp2_with fail
  refine (toIntS_any A1 n1 c1 zs1 _ HA1.out hm1).mono ?_
  rintro e w2 ⟨C1, Cc1, rfl, o, hb⟩
  replace HA0 := riStep HA0 hb
  replace HA1 := riStep HA1 hb
  replace HC0 := oiStep HC0 hb
  replace HB := belStep HB hb
  have HC1 := Lib.hid o
  clear hb o
  go_wp2_with fail
  refine (hS.out C0 Cc0 C1 Cc1 _ HC0.out.ri HC0.out.le HC1.out.ri HC1.out.le).mono ?_
  rintro e v1 ⟨rfl, hb⟩
  clear HC0 HC1
  replace HA0 := riStep HA0 hb
  replace HA1 := riStep HA1 hb
  replace HB := belStep HB hb
  clear hb
  -- the program
  go_wp2_with fail
  refine (toIntS_any A0 n0 c0 zs0 _ HA0.out hm0).mono ?_
  rintro e w3 ⟨X0, Xc0, rfl, o, hb⟩
  replace HA0 := riStep HA0 hb
  replace HA1 := riStep HA1 hb
  replace HB := belStep HB hb
  have HX0 := Lib.hid o
  clear hb o
  go_wp2_with fail
  refine (toIntS_any A1 n1 c1 zs1 _ HA1.out hm1).mono ?_
  rintro e w4 ⟨X1, Xc1, rfl, o, hb⟩
  replace HA0 := riStep HA0 hb
  replace HA1 := riStep HA1 hb
  replace HX0 := oiStep HX0 hb
  replace HB := belStep HB hb
  have HX1 := Lib.hid o
  clear hb o
  go_wp2_with fail
  refine (hI.out X0 Xc0 X1 Xc1 _ HX0.out.ri HX0.out.le HX1.out.ri HX1.out.le).mono ?_
  rintro e v2 ⟨rfl, hb⟩
  replace HA0 := riStep HA0 hb
  replace HA1 := riStep HA1 hb
  replace HX0 := oiStep HX0 hb
  replace HX1 := oiStep HX1 hb
  replace HB := belStep HB hb
  clear hb
  -- the arguments as they were
  go_wp2_with fail
  refine (toIntS_any A0 n0 c0 zs0 _ HA0.out hm0).mono ?_
  rintro e u0 ⟨Y0, Yc0, rfl, o, hb⟩
  replace HA0 := riStep HA0 hb
  replace HA1 := riStep HA1 hb
  replace HX0 := oiStep HX0 hb
  replace HX1 := oiStep HX1 hb
  replace HB := belStep HB hb
  clear hb
  go_wp2_with fail
  refine (eqIntS_any X0 n0 Xc0 zs0 Y0 n0 Yc0 zs0 _ HX0.out.ri o.ri hm0 hm0).mono ?_
  rw [eqB_self]
  rintro e u0d ⟨rfl, hb⟩
  replace HA0 := riStep HA0 hb
  replace HA1 := riStep HA1 hb
  replace HX0 := oiStep HX0 hb
  replace HX1 := oiStep HX1 hb
  replace HB := belStep HB hb
  clear hb o
  go_wp2_with fail
  refine (toIntS_any A1 n1 c1 zs1 _ HA1.out hm1).mono ?_
  rintro e u1 ⟨Y1, Yc1, rfl, o, hb⟩
  replace HA0 := riStep HA0 hb
  replace HA1 := riStep HA1 hb
  replace HX0 := oiStep HX0 hb
  replace HX1 := oiStep HX1 hb
  replace HB := belStep HB hb
  clear hb
  go_wp2_with fail
  refine (eqIntS_any X1 n1 Xc1 zs1 Y1 n1 Yc1 zs1 _ HX1.out.ri o.ri hm1 hm1).mono ?_
  rw [eqB_self]
  rintro e u1d ⟨rfl, hb⟩
  replace HA0 := riStep HA0 hb
  replace HA1 := riStep HA1 hb
  replace HX0 := oiStep HX0 hb
  replace HX1 := oiStep HX1 hb
  replace HB := belStep HB hb
  clear hb o
  go_wp2_with fail
  go_ret
  exact ⟨rfl, HB.out⟩

set_option maxHeartbeats 1000000 in
theorem lawCountPattern_any (A0 : Option Addr) (n0 c0 : Nat) (zs0 : List Int) (A1 : Option Addr) (n1 c1 : Nat) (zs1 : List Int) (w : World) (h0 : RI w A0 n0 zs0) (hn0 : n0 ≤ 9223372036854775807) (h1 : RI w A1 n1 zs1) (hn1 : n1 ≤ 9223372036854775807) :
    Calls Try.prog 5 #[.slice A0 n0 c0, .slice A1 n1 c1] w (RetB true w) := by
  by_cases hm0 : (n0 : Int) ≤ 1048576
  · skip
    by_cases hm1 : (n1 : Int) ≤ 1048576
    · skip
      exact lawCountPattern_of A0 n0 c0 zs0 A1 n1 c1 zs1 w h0 h1 hm0 hm1 (cpV zs0 zs1) (cpB zs0 zs1) (fun B0 d0 B1 d1 w2 r0 l0 r1 l1 => sCountPattern_any B0 n0 d0 zs0 B1 n1 d1 zs1 w2 r0 (by omega) l0 r1 (by omega) l1) (fun B0 d0 B1 d1 w2 r0 l0 r1 l1 => iCountPattern_any B0 n0 d0 zs0 B1 n1 d1 zs1 w2 r0 (by omega) l0 r1 (by omega) l1)
    · clear h0 h1
      go_enter Try.func5, Try.ntmps5
      go_wp2_with fail
      go_ret
      exact ⟨rfl, Below.refl _ _⟩
  · clear h0 h1
    go_enter Try.func5, Try.ntmps5
    go_wp2_with fail
    go_ret
    exact ⟨rfl, Below.refl _ _⟩
end Go.Proofs.Ythalcjgpjagcoaa
