/- IsTurned, of both. -/
import Derived.Test.YtpkdeoehfnnchaaTm1
import Derived.Test.YtpkdeoehfnnchaaTu1
namespace Go.Proofs.Ytpkdeoehfnnchaa
open Go Go.RowKit
theorem iIsTurned_cap (A : Option Addr) (n c : Nat) (zs : List Int) (E : Option Addr) (m d : Nat) (us : List Int) (w : World) (h : RI w A n zs) (g : RI w E m us) (hn : n ≤ 1048576) (hm : m ≤ 1048576) (_ : n ≤ c) :
    Calls Try.prog 33 #[.agg #[.slice A n c, .slice E m d]] w (RetB (trn zs us) w) := iIsTurned_any A n c zs E m d us w h g hn hm
end Go.Proofs.Ytpkdeoehfnnchaa
