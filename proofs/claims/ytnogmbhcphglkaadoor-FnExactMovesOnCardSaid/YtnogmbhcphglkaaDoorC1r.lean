/- The contracts of AddRung's model. -/
import Derived.Test.YtnogmbhcphglkaaDoorC1q
import Derived.Test.YtnogmbhcphglkaaDoorApp2
import Derived.Deep.RegionLaw
namespace Go.Proofs.YtnogmbhcphglkaaDoor
open Go Go.RowKit

theorem OI.empty (w : World) (B : Nat) (hB : B ≤ w.heap.size) : OI (w.alloc (.cells #[] 3)) B (some ⟨w.heap.size, 0, none⟩) 0 0 [] :=
  ⟨rfl, World.ownsRow_lit _ _ _ hB (by decide) rfl⟩

set_option maxRecDepth 100000 in
set_option maxHeartbeats 4000000 in
theorem l1Own_any (A : Option Addr) (n c : Nat) (zs : List Int) (w : World) (h : RI w A n zs) (hn : n ≤ 1048576) : Calls Tryd.prog 37 #[.slice A n c] w (FreshI w n zs) := by
  go_enter Tryd.func37, Tryd.ntmps37
  go_wp2_with (at_builtin; refine wpList_append_ints _ rfl _ _ rfl w.heap.size (some ⟨w.heap.size, 0, none⟩) 0 0 [] A n c zs rfl rfl (OI.empty w _ (Nat.le_refl _)) (h.alloc _) (by omega) (by omega) (by simp) ?_; intro A1 c1 w1 ho hg; have HO := Lib.hid ho; have HB : Hid (Below w.heap.size w w1) := belGrown (belAlloc (belRefl (w := w)) _) (OI.empty w _ (Nat.le_refl _)) hg (Nat.le_refl _); clear ho hg)
  go_ret
  have := HO.out
  rw [List.nil_append] at this
  exact ⟨A1, c1, rfl, by rwa [Nat.zero_add] at this, HB.out⟩

end Go.Proofs.YtnogmbhcphglkaaDoor
