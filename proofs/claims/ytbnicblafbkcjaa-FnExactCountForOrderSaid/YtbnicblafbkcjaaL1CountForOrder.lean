/- The law of CountForOrder, gone through: it returns true, and nothing that was there has turned. -/
import Derived.Test.YtbnicblafbkcjaaOq2
import Derived.Test.YtbnicblafbkcjaaStP
namespace Go.Proofs.Ytbnicblafbkcjaa
open Go Go.RowKit

set_option maxRecDepth 100000 in
set_option maxHeartbeats 8000000 in
theorem lawCountForOrder_of (x0 : Int) (x1 : Int) (A2 : Option Addr) (n2 c2 : Nat) (zs2 : List Int) (w : World) (h2 : RI w A2 n2 zs2) (hn2 : (n2 : Int) ≤ 1048576) (r : Int) (q : Bool)
    (hS : Hid (∀ (B2 : Option Addr) (d2 : Nat) (w2 : World), RI w2 B2 n2 zs2 → n2 ≤ d2 → Calls Try.prog 9 #[.int .i64 x0, .int .i64 x1, .slice B2 n2 d2] w2 (RetIB r q w2)))
    (hI : Hid (∀ (B2 : Option Addr) (d2 : Nat) (w2 : World), RI w2 B2 n2 zs2 → n2 ≤ d2 → Calls Try.prog 11 #[.int .i64 x0, .int .i64 x1, .slice B2 n2 d2] w2 (RetIB r q w2))) :
    Calls Try.prog 3 #[.int .i64 x0, .int .i64 x1, .slice A2 n2 c2] w (RetB true w) := by
  have hm2 : n2 ≤ 1048576 := by omega
  have e0 : (q != q) = false := by simp
  have e1 : (r != r) = false := by simp
  have HA2 := Lib.hid h2
  have HB := belRefl (w := w)
  clear h2
  go_enter Try.func3, Try.ntmps3
  -- the model
  go_wp2_with fail
  refine (toIntS_any A2 n2 c2 zs2 _ HA2.out hm2).mono ?_
  rintro e w1 ⟨C2, Cc2, rfl, o, hb⟩
  replace HA2 := riStep HA2 hb
  replace HB := belStep HB hb
  have HC2 := Lib.hid o
  clear hb o
  go_wp2_with fail
  refine (hS.out C2 Cc2 _ HC2.out.ri HC2.out.le).mono ?_
  rintro e v1 ⟨rfl, hb⟩
  clear HC2
  replace HA2 := riStep HA2 hb
  replace HB := belStep HB hb
  clear hb
  -- the program
  go_wp2_with fail
  refine (toIntS_any A2 n2 c2 zs2 _ HA2.out hm2).mono ?_
  rintro e w2 ⟨X2, Xc2, rfl, o, hb⟩
  replace HA2 := riStep HA2 hb
  replace HB := belStep HB hb
  have HX2 := Lib.hid o
  clear hb o
  go_wp2_with fail
  refine (hI.out X2 Xc2 _ HX2.out.ri HX2.out.le).mono ?_
  rintro e v2 ⟨rfl, hb⟩
  replace HA2 := riStep HA2 hb
  replace HX2 := oiStep HX2 hb
  replace HB := belStep HB hb
  clear hb
  -- the arguments as they were
  go_wp2_with fail
  refine (toIntS_any A2 n2 c2 zs2 _ HA2.out hm2).mono ?_
  rintro e u2 ⟨Y2, Yc2, rfl, o, hb⟩
  replace HA2 := riStep HA2 hb
  replace HX2 := oiStep HX2 hb
  replace HB := belStep HB hb
  clear hb
  go_wp2_with fail
  refine (eqIntS_any X2 n2 Xc2 zs2 Y2 n2 Yc2 zs2 _ HX2.out.ri o.ri hm2 hm2).mono ?_
  rw [eqB_self]
  rintro e u2d ⟨rfl, hb⟩
  replace HA2 := riStep HA2 hb
  replace HX2 := oiStep HX2 hb
  replace HB := belStep HB hb
  clear hb o
  go_wp2_with fail
  go_ret
  exact ⟨rfl, HB.out⟩

set_option maxHeartbeats 1000000 in
theorem lawCountForOrder_any (x0 : Int) (x1 : Int) (A2 : Option Addr) (n2 c2 : Nat) (zs2 : List Int) (w : World) (h2 : RI w A2 n2 zs2) (hn2 : n2 ≤ 9223372036854775807) :
    Calls Try.prog 3 #[.int .i64 x0, .int .i64 x1, .slice A2 n2 c2] w (RetB true w) := by
  by_cases hm2 : (n2 : Int) ≤ 1048576
  · skip
    exact lawCountForOrder_of x0 x1 A2 n2 c2 zs2 w h2 hm2 (cfoN x0 x1 zs2) (cfoQ x0 x1 zs2) (fun B2 d2 w2 r2 l2 => sCountForOrder_any B2 n2 d2 zs2 x0 x1 w2 r2 (by omega) l2) (fun B2 d2 w2 r2 l2 => iCountForOrder_any B2 n2 d2 zs2 x0 x1 w2 r2 (by omega))
  · clear h2
    go_enter Try.func3, Try.ntmps3
    go_wp2_with fail
    go_ret
    exact ⟨rfl, Below.refl _ _⟩
end Go.Proofs.Ytbnicblafbkcjaa
