/- The contracts of AddRung's model. -/
import Derived.Test.YtpkeafdleonalaaC1q
import Derived.Test.YtpkeafdleonalaaApp2
import Derived.Deep.RegionLaw
namespace Go.Proofs.Ytpkeafdleonalaa
open Go Go.RowKit

theorem OI.empty (w : World) (B : Nat) (hB : B ≤ w.heap.size) : OI (w.alloc (.cells #[] 3)) B (some ⟨w.heap.size, 0, none⟩) 0 0 [] :=
  ⟨rfl, World.ownsRow_lit _ _ _ hB (by decide) rfl⟩

set_option maxRecDepth 100000 in
set_option maxHeartbeats 4000000 in
theorem l1Own_any (A : Option Addr) (n c : Nat) (zs : List Int) (w : World) (h : RI w A n zs) (hn : n ≤ 1048576) : Calls Try.prog 41 #[.slice A n c] w (FreshI w n zs) := by
  go_enter Try.func41, Try.ntmps41
  go_wp2_with (at_builtin; refine wpList_append_ints _ rfl _ _ rfl w.heap.size (some ⟨w.heap.size, 0, none⟩) 0 0 [] A n c zs rfl rfl (OI.empty w _ (Nat.le_refl _)) (h.alloc _) (by omega) (by omega) (by simp) ?_; intro A1 c1 w1 ho hg; have HO := Lib.hid ho; have HB : Hid (Below w.heap.size w w1) := belGrown (belAlloc (belRefl (w := w)) _) (OI.empty w _ (Nat.le_refl _)) hg (Nat.le_refl _); clear ho hg)
  go_ret
  have := HO.out
  rw [List.nil_append] at this
  exact ⟨A1, c1, rfl, by rwa [Nat.zero_add] at this, HB.out⟩

set_option maxRecDepth 100000 in
set_option maxHeartbeats 4000000 in
theorem laIf_yes (W : Int) (A : Option Addr) (n c : Nat) (zs : List Int) (w : World) (h : RI w A n zs) (hn : n ≤ 1048576) (hq : lad W zs = true) :
    Calls Try.prog 40 #[.agg #[.int .i64 W, .slice A n c]] w fun e w' => e = .returned (.tuple #[.agg #[.int .i64 W, .slice A n c], .bool true]) ∧ Below w.heap.size w w' := by
  have HW := Lib.hid hq
  clear hq
  go_enter Try.func40, Try.ntmps40
  go_wp2_with fail
  have HA := boxAlloc (boxNew (W := W) (c := c) 31 h) (.cells #[.int .i64 0, .slice none 0 0] 31)
  have HB := belAlloc (belAlloc (belRefl (w := w)) (.cells #[.int .i64 W, .slice A n c] 31)) (.cells #[.int .i64 0, .slice none 0 0] 31)
  have HC := cellNew (w.alloc (.cells #[.int .i64 W, .slice A n c] 31)) (.int .i64 0) (.slice none 0 0) 31
  refine (laGood_any W A n c zs _ HA.out.ri hn).mono ?_
  rw [HW.out]
  rintro e w1 ⟨rfl, hb⟩
  replace HA := boxStep HA hb
  replace HB := belStep HB hb
  replace HC := cellStep HC hb
  have a0 := HA.out.c0; have a1 := HA.out.c1; have az := HA.out.lt
  have k0 := HC.out.c0; have k1 := HC.out.c1; have f0 := HC.out.f0; have f1 := HC.out.f1; have hz := HC.out.lt
  simp only [World.size_alloc] at k0 k1 f0 f1 hz
  clear hb h
  go_wp2
  exact bodyPost_ret (v := .tuple #[.agg #[.int .i64 W, .slice A n c], .bool true]) (by simp [results, Try.results40, go_sem, k0, k1]) rfl ⟨rfl, (HB.out.setCell (p := ⟨w.heap.size + 1, 0, none⟩) (by simp) _).setCell (p := ⟨w.heap.size + 1, 1, none⟩) (by simp) _⟩

set_option maxRecDepth 100000 in
set_option maxHeartbeats 4000000 in
theorem laIf_no (W : Int) (A : Option Addr) (n c : Nat) (zs : List Int) (w : World) (h : RI w A n zs) (hn : n ≤ 1048576) (hq : lad W zs = false) :
    Calls Try.prog 40 #[.agg #[.int .i64 W, .slice A n c]] w fun e w' => e = .returned (.tuple #[.agg #[.int .i64 0, .slice none 0 0], .bool false]) ∧ Below w.heap.size w w' := by
  have HW := Lib.hid hq
  clear hq
  go_enter Try.func40, Try.ntmps40
  go_wp2_with fail
  have HB := belAlloc (belAlloc (belRefl (w := w)) (.cells #[.int .i64 W, .slice A n c] 31)) (.cells #[.int .i64 0, .slice none 0 0] 31)
  have HC := cellNew (w.alloc (.cells #[.int .i64 W, .slice A n c] 31)) (.int .i64 0) (.slice none 0 0) 31
  refine (laGood_any W A n c zs _ ((h.alloc _).alloc _) hn).mono ?_
  rw [HW.out]
  rintro e w1 ⟨rfl, hb⟩
  replace HB := belStep HB hb
  replace HC := cellStep HC hb
  have k0 := HC.out.c0; have k1 := HC.out.c1; have f0 := HC.out.f0; have f1 := HC.out.f1; have hz := HC.out.lt
  simp only [World.size_alloc] at k0 k1 f0 f1 hz
  clear hb h
  go_wp2
  exact bodyPost_ret (v := .tuple #[.agg #[.int .i64 0, .slice none 0 0], .bool false]) (by simp [results, Try.results40, go_sem, k0, k1]) rfl ⟨rfl, (by repeat (first | exact Below.refl _ _ | exact HB.out | refine Below.setCell ?_ (by simp <;> omega) _ | refine Below.alloc ?_ (by simp <;> omega) _ | refine below_drewN ?_ _))⟩

end Go.Proofs.Ytpkeafdleonalaa
