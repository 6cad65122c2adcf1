/- The law of CountFirst, gone through: it returns true, and nothing that was there has turned. -/
import Derived.Test.YtgeeifjbfceogaaGreatDoorCf1
import Derived.Test.YtgeeifjbfceogaaGreatDoorStP
namespace Go.Proofs.YtgeeifjbfceogaaGreatDoor
open Go Go.RowKit

set_option maxRecDepth 100000 in
set_option maxHeartbeats 8000000 in
theorem lawCountFirst_of (A0 : Option Addr) (n0 c0 : Nat) (zs0 : List Int) (x1 : Int) (w : World) (h0 : RI w A0 n0 zs0) (hn0 : (n0 : Int) ≤ 1048576) (r : Int) (q : Bool)
    (hS : Hid (∀ (B0 : Option Addr) (d0 : Nat) (w2 : World), RI w2 B0 n0 zs0 → n0 ≤ d0 → Calls Tryz.prog 21 #[.slice B0 n0 d0, .int .i64 x1] w2 (RetIB r q w2)))
    (hI : Hid (∀ (B0 : Option Addr) (d0 : Nat) (w2 : World), Below w.heap.size w w2 → RI w2 B0 n0 zs0 → n0 ≤ d0 → Calls Tryz.prog 22 #[.slice B0 n0 d0, .int .i64 x1] w2 (RetIB r q w2))) :
    Calls Tryz.prog 5 #[.slice A0 n0 c0, .int .i64 x1] w (RetB true w) := by
  have hm0 : n0 ≤ 1048576 := by omega
  have e0 : (q != q) = false := by simp
  have e1 : (r != r) = false := by simp
  have HA0 := Lib.hid h0
  have HB := belRefl (w := w)
  clear h0
  go_enter Tryz.func5, Tryz.ntmps5
  -- the model
  go_wp2_with fail
  refine (toIntS_any A0 n0 c0 zs0 _ HA0.out hm0).mono ?_
  rintro e w1 ⟨C0, Cc0, rfl, o, hb⟩
  replace HA0 := riStep HA0 hb
  replace HB := belStep HB hb
  have HC0 := Lib.hid o
  clear hb o
  go_wp2_with fail
  refine (hS.out C0 Cc0 _ HC0.out.ri HC0.out.le).mono ?_
  rintro e v1 ⟨rfl, hb⟩
  clear HC0
  replace HA0 := riStep HA0 hb
  replace HB := belStep HB hb
  clear hb
  -- the program
  go_wp2_with fail
  refine (toIntS_any A0 n0 c0 zs0 _ HA0.out hm0).mono ?_
  rintro e w2 ⟨X0, Xc0, rfl, o, hb⟩
  replace HA0 := riStep HA0 hb
  replace HB := belStep HB hb
  have HX0 := Lib.hid o
  clear hb o
  go_wp2_with fail
  refine (hI.out X0 Xc0 _ HB.out HX0.out.ri HX0.out.le).mono ?_
  rintro e v2 ⟨rfl, hb⟩
  replace HA0 := riStep HA0 hb
  replace HX0 := oiStep HX0 hb
  replace HB := belStep HB hb
  clear hb
  -- the arguments as they were
  go_wp2_with fail
  refine (toIntS_any A0 n0 c0 zs0 _ HA0.out hm0).mono ?_
  rintro e u0 ⟨Y0, Yc0, rfl, o, hb⟩
  replace HA0 := riStep HA0 hb
  replace HX0 := oiStep HX0 hb
  replace HB := belStep HB hb
  clear hb
  go_wp2_with fail
  refine (eqIntS_any X0 n0 Xc0 zs0 Y0 n0 Yc0 zs0 _ HX0.out.ri o.ri hm0 hm0).mono ?_
  rw [eqB_self]
  rintro e u0d ⟨rfl, hb⟩
  replace HA0 := riStep HA0 hb
  replace HX0 := oiStep HX0 hb
  replace HB := belStep HB hb
  clear hb o
  go_wp2_with fail
  go_ret
  exact ⟨rfl, HB.out⟩

set_option maxHeartbeats 1000000 in
theorem lawCountFirst_any (A0 : Option Addr) (n0 c0 : Nat) (zs0 : List Int) (x1 : Int) (w : World) (h0 : RI w A0 n0 zs0) (hn0 : n0 ≤ 9223372036854775807) (hG : Glob w) :
    Calls Tryz.prog 5 #[.slice A0 n0 c0, .int .i64 x1] w (RetB true w) := by
  by_cases hm0 : (n0 : Int) ≤ 1048576
  · skip
    exact lawCountFirst_of A0 n0 c0 zs0 x1 w h0 hm0 (cfN zs0 x1) (cfQ zs0 x1) (fun B0 d0 w2 r0 l0 => sCountFirst_any B0 n0 d0 zs0 x1 w2 r0 (by omega) l0) (fun B0 d0 w2 hb r0 _ => iCountFirst_any B0 n0 d0 zs0 x1 w2 r0 (by omega) (hG.below hb))
  · clear h0
    go_enter Tryz.func5, Tryz.ntmps5
    go_wp2_with fail
    go_ret
    exact ⟨rfl, Below.refl _ _⟩
end Go.Proofs.YtgeeifjbfceogaaGreatDoor
