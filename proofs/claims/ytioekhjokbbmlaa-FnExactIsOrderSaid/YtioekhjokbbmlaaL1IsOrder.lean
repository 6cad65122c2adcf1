/- The law of IsOrder: for every list it returns true, and nothing that was there has turned. -/
import Derived.Test.YtioekhjokbbmlaaO3
import Derived.Test.YtioekhjokbbmlaaSt
namespace Go.Proofs.Ytioekhjokbbmlaa
open Go Go.RowKit

set_option maxHeartbeats 1000000 in
theorem lawIsOrder_any (A : Option Addr) (n c : Nat) (zs : List Int) (w : World) (h : RI w A n zs) (hn : n ≤ 9223372036854775807) :
    Calls Try.prog 9 #[.slice A n c] w (RetB true w) := by
  by_cases hn2 : (n : Int) ≤ 1048576
  · have hn3 : n ≤ 1048576 := by omega
    obtain ⟨q, hq⟩ : ∃ q, q = ord zs := ⟨_, rfl⟩
    have HQ := Lib.hid hq
    have e0 : (q != q) = false := by simp
    clear hq
    go_enter Try.func9, Try.ntmps9
    go_wp2_with fail
    -- the model's argument
    refine (toIntS_any A n c zs _ h hn3).mono ?_
    rintro e w1 ⟨A1, c1, rfl, o1, hb⟩
    have HB := Lib.hid hb
    have HA : Hid (RI w1 A n zs) := h.below hb (Nat.le_refl _)
    clear hb
    go_wp2_with fail
    refine (sIsOrder_any A1 n c1 zs _ o1.ri hn3 o1.le).mono ?_
    rw [← HQ.out]
    rintro e w' ⟨rfl, rfl⟩
    clear o1
    go_wp2_with fail
    -- the program's argument
    refine (toIntS_any A n c zs _ HA.out hn3).mono ?_
    rintro e w2 ⟨A2, c2, rfl, o2, hb⟩
    have HO := Lib.hid o2
    replace HB := belStep HB hb
    replace HA : Hid (RI w2 A n zs) := HA.out.below hb (Nat.le_refl _)
    clear hb o2
    go_wp2_with fail
    refine (iIsOrder_any A2 n c2 zs _ HO.out.ri hn).mono ?_
    rw [← HQ.out]
    rintro e w3 ⟨rfl, hb⟩
    replace HO := oiStep HO hb
    replace HB := belStep HB hb
    replace HA : Hid (RI w3 A n zs) := HA.out.below hb (Nat.le_refl _)
    clear hb
    go_wp2_with fail
    refine (toIntS_any A n c zs _ HA.out hn3).mono ?_
    rintro e w4 ⟨A4, c4, rfl, o4, hb⟩
    replace HO := oiStep HO hb
    replace HB := belStep HB hb
    clear hb
    go_wp2_with fail
    refine (eqIntS_any A2 n c2 zs A4 n c4 zs _ HO.out.ri o4.ri hn3 hn3).mono ?_
    rw [eqB_self]
    rintro e w5 ⟨rfl, hb⟩
    replace HB := belStep HB hb
    clear hb
    go_wp2
    go_ret
    exact ⟨rfl, HB.out⟩
  · go_enter Try.func9, Try.ntmps9
    go_wp2_with fail
    go_ret
    exact ⟨rfl, Below.refl _ _⟩
end Go.Proofs.Ytioekhjokbbmlaa
