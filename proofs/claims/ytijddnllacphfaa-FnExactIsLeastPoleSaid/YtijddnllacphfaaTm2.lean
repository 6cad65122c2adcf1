/- IsTurned, of both. -/
import Derived.Test.YtijddnllacphfaaTm1
import Derived.Test.YtijddnllacphfaaTu1
namespace Go.Proofs.Ytijddnllacphfaa
open Go Go.RowKit
set_option maxHeartbeats 400000 in
theorem sIsTurned_any (A : Option Addr) (n c : Nat) (zs : List Int) (E : Option Addr) (m d : Nat) (us : List Int) (w : World) (h : RI w A n zs) (g : RI w E m us) (hn : n ≤ 1048576) (hm : m ≤ 1048576) (hnc : n ≤ c) :
    Calls Try.prog 13 #[.agg #[.slice A n c, .slice E m d]] w (RetB (trn zs us) w) := by
  go_enter Try.func13, Try.ntmps13
  go_wp2_with fail
  have HB := belAlloc (belRefl (w := w)) (.cells #[.slice A n c, .slice E m d] 27)
  refine (poTurned_any A n c zs E m d us _ (h.alloc _) (g.alloc _) hn hm hnc).mono ?_
  rintro e w1 ⟨rfl, hb⟩
  replace HB := belStep HB hb
  clear hb h g
  go_wp2
  go_ret
  exact ⟨rfl, HB.out⟩
theorem iIsTurned_cap (A : Option Addr) (n c : Nat) (zs : List Int) (E : Option Addr) (m d : Nat) (us : List Int) (w : World) (h : RI w A n zs) (g : RI w E m us) (hn : n ≤ 1048576) (hm : m ≤ 1048576) (_ : n ≤ c) :
    Calls Try.prog 15 #[.agg #[.slice A n c, .slice E m d]] w (RetB (trn zs us) w) := iIsTurned_any A n c zs E m d us w h g hn hm
end Go.Proofs.Ytijddnllacphfaa
