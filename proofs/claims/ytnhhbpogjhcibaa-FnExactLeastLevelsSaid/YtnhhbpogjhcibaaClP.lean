/- slices.Clone of a slice of numbers. -/
import Derived.Test.YtnhhbpogjhcibaaMgB
import Derived.Test.YtnhhbpogjhcibaaMgE
import Derived.Lib.SliceRun
namespace Go.Proofs.Ytnhhbpogjhcibaa
open Go Go.RowKit

set_option maxRecDepth 100000 in
set_option maxHeartbeats 1000000 in
theorem cloneP_any (A : Option Addr) (n c : Nat) (zs : List Int) (w : World) (h : RI w A n zs) (hn : n ≤ 1048576) : Calls Try.prog 66 #[.slice A n c] w (FreshI w n zs) := by
  have q22 : ∀ (w : World) (a : Option Addr) (n c n' c' : Nat), (binOp .eql 22 (.slice a n c) (.slice none n' c')).run Try.prog w = .ok (.bool a.isNone) w := fun w a n c n' c' => Lib.run_eql_slice_nil w _ _ a n c n' c' Try.underlying22
  rcases A with _ | a
  · have h0 : n = 0 := by
      by_cases e : n = 0
      · exact e
      · obtain ⟨b, off, e, _⟩ := h.2 (by omega)
        cases e
    subst h0
    have hz : zs = [] := List.length_eq_zero_iff.1 h.1
    subst hz
    clear h
    go_enter Try.func66, Try.ntmps66
    go_wp2
    go_ret
    exact ⟨none, 0, rfl, OI.none_ _ _, Below.refl _ _⟩
  · go_enter Try.func66, Try.ntmps66
    go_wp2_with (at_builtin; refine wpList_append_ints _ rfl _ _ rfl w.heap.size (some ⟨w.heap.size, 0, none⟩) 0 0 [] (some a) n c zs rfl rfl (OI.empty w _ (Nat.le_refl _)) (h.alloc _) (by omega) (by omega) (by simp) ?_; intro A1 c1 w1 ho hg; have HO := Lib.hid ho; have HB : Hid (Below w.heap.size w w1) := belGrown (belAlloc (belRefl (w := w)) _) (OI.empty w _ (Nat.le_refl _)) hg (Nat.le_refl _); clear ho hg)
    go_ret
    have := HO.out
    simp only [Nat.zero_add, List.nil_append] at this
    exact ⟨A1, c1, by simp, this, HB.out⟩

end Go.Proofs.Ytnhhbpogjhcibaa
