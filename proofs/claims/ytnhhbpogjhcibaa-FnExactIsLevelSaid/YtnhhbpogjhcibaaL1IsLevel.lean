/- The law of IsLevel, gone through: it returns true, and nothing that was there has turned. -/
import Derived.Test.YtnhhbpogjhcibaaIl2
import Derived.Test.YtnhhbpogjhcibaaMgB
import Derived.Test.YtnhhbpogjhcibaaStP
namespace Go.Proofs.Ytnhhbpogjhcibaa
open Go Go.RowKit

set_option maxRecDepth 100000 in
set_option maxHeartbeats 8000000 in
theorem lawIsLevel_of (x0 : Int) (A1 : Option Addr) (n1 c1 : Nat) (zs1 : List Int) (w : World) (h1 : RI w A1 n1 zs1) (hn1 : (n1 : Int) ≤ 1048576) (r : Bool) (q : Bool)
    (hS : Hid (∀ (B1 : Option Addr) (d1 : Nat) (w2 : World), RI w2 B1 n1 zs1 → n1 ≤ d1 → Calls Try.prog 24 #[.int .i64 x0, .slice B1 n1 d1] w2 (RetBBz r q w2)))
    (hI : Hid (∀ (B1 : Option Addr) (d1 : Nat) (w2 : World), RI w2 B1 n1 zs1 → n1 ≤ d1 → Calls Try.prog 26 #[.int .i64 x0, .slice B1 n1 d1] w2 (RetBBz r q w2))) :
    Calls Try.prog 5 #[.int .i64 x0, .slice A1 n1 c1] w (RetB true w) := by
  have hm1 : n1 ≤ 1048576 := by omega
  have e0 : (q != q) = false := by simp
  have e1 : (r != r) = false := by simp
  have HA1 := Lib.hid h1
  have HB := belRefl (w := w)
  clear h1
  go_enter Try.func5, Try.ntmps5
  -- the model
  go_wp2_with fail
  refine (toIntS_any A1 n1 c1 zs1 _ HA1.out hm1).mono ?_
  rintro e w1 ⟨C1, Cc1, rfl, o, hb⟩
  replace HA1 := riStep HA1 hb
  replace HB := belStep HB hb
  have HC1 := Lib.hid o
  clear hb o
  go_wp2_with fail
  refine (hS.out C1 Cc1 _ HC1.out.ri HC1.out.le).mono ?_
  rintro e v1 ⟨rfl, hb⟩
  clear HC1
  replace HA1 := riStep HA1 hb
  replace HB := belStep HB hb
  clear hb
  -- the program
  go_wp2_with fail
  refine (toIntS_any A1 n1 c1 zs1 _ HA1.out hm1).mono ?_
  rintro e w2 ⟨X1, Xc1, rfl, o, hb⟩
  replace HA1 := riStep HA1 hb
  replace HB := belStep HB hb
  have HX1 := Lib.hid o
  clear hb o
  go_wp2_with fail
  refine (hI.out X1 Xc1 _ HX1.out.ri HX1.out.le).mono ?_
  rintro e v2 ⟨rfl, hb⟩
  replace HA1 := riStep HA1 hb
  replace HX1 := oiStep HX1 hb
  replace HB := belStep HB hb
  clear hb
  -- the arguments as they were
  go_wp2_with fail
  refine (toIntS_any A1 n1 c1 zs1 _ HA1.out hm1).mono ?_
  rintro e u1 ⟨Y1, Yc1, rfl, o, hb⟩
  replace HA1 := riStep HA1 hb
  replace HX1 := oiStep HX1 hb
  replace HB := belStep HB hb
  clear hb
  go_wp2_with fail
  refine (eqIntS_any X1 n1 Xc1 zs1 Y1 n1 Yc1 zs1 _ HX1.out.ri o.ri hm1 hm1).mono ?_
  rw [eqB_self]
  rintro e u1d ⟨rfl, hb⟩
  replace HA1 := riStep HA1 hb
  replace HX1 := oiStep HX1 hb
  replace HB := belStep HB hb
  clear hb o
  go_wp2_with fail
  go_ret
  exact ⟨rfl, HB.out⟩

set_option maxHeartbeats 1000000 in
theorem lawIsLevel_any (x0 : Int) (A1 : Option Addr) (n1 c1 : Nat) (zs1 : List Int) (w : World) (h1 : RI w A1 n1 zs1) (hn1 : n1 ≤ 9223372036854775807) :
    Calls Try.prog 5 #[.int .i64 x0, .slice A1 n1 c1] w (RetB true w) := by
  by_cases hm1 : (n1 : Int) ≤ 1048576
  · skip
    exact lawIsLevel_of x0 A1 n1 c1 zs1 w h1 hm1 (lvbB x0 zs1) (inB x0 2 8) (fun B1 d1 w2 r1 l1 => sIsLevel_any x0 B1 n1 d1 zs1 w2 r1 (by omega) l1) (fun B1 d1 w2 r1 l1 => iIsLevel_any x0 B1 n1 d1 zs1 w2 r1 (by omega) l1)
  · clear h1
    go_enter Try.func5, Try.ntmps5
    go_wp2_with fail
    go_ret
    exact ⟨rfl, Below.refl _ _⟩
end Go.Proofs.Ytnhhbpogjhcibaa
