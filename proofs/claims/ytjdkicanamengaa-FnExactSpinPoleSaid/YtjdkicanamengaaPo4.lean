/- The contract by which the program makes poles out of parts. -/
import Derived.Test.YtjdkicanamengaaMgE
import Derived.Test.YtjdkicanamengaaPo3
namespace Go.Proofs.Ytjdkicanamengaa
open Go Go.RowKit

set_option maxRecDepth 100000 in
set_option maxHeartbeats 4000000 in
theorem poleOf_yes (W : Int) (PP : Option Addr) (k kc : Nat) (PA : Nat → Option Addr) (PN PC : Nat → Nat) (PZ : Nat → List Int) (w : World) (h : Parts w PP k PA PN PC PZ) (hk : k ≤ 1000000) (ht : (cat PZ k).length ≤ 1048576) (hl : pol W (cat PZ k) = true) :
    Calls Try.prog 60 #[.int .i64 W, .slice PP k kc] w (FreshLB w W (cat PZ k).length (cat PZ k) true) := by
  have HL := Lib.hid hl
  clear hl
  go_enter Try.func60, Try.ntmps60
  go_wp2_with fail
  have HB := belAlloc (belRefl (w := w)) (.cells #[.int .i64 0, .slice none 0 0] 27)
  have HC := cellNew w (.int .i64 0) (.slice none 0 0) 27
  refine (concat_any PP k kc PA PN PC PZ _ (h.alloc _) hk (by omega)).mono ?_
  rintro e w1 ⟨A1, c1, rfl, ho, hb⟩
  replace HC := cellStep HC hb
  replace HB := belStep HB hb
  have HO := Lib.hid ho
  have hz := HC.out.lt
  have k0 := HC.out.c0; have k1 := HC.out.c1; have f0 := HC.out.f0; have f1 := HC.out.f1
  clear hb ho h
  go_wp2_with fail
  have HX := boxNew (W := W) (c := c1) 27 HO.out.ri
  replace HB := belAlloc HB (.cells #[.int .i64 W, .slice A1 (cat PZ k).length c1] 27)
  replace HC := cellAlloc HC (.cells #[.int .i64 W, .slice A1 (cat PZ k).length c1] 27)
  refine (iIsPole_any W A1 _ c1 (cat PZ k) _ HX.out.ri (by omega)).mono ?_
  rw [HL.out]
  rintro e w2 ⟨rfl, hb⟩
  replace HX := boxStep HX hb
  replace HB := belStep HB hb
  replace HC := cellStep HC hb
  have HO2 := oiStep (oiAlloc HO (.cells #[.int .i64 W, .slice A1 (cat PZ k).length c1] 27)) hb
  replace k0 := HC.out.c0; replace k1 := HC.out.c1; replace f0 := HC.out.f0; replace f1 := HC.out.f1
  have x0 := HX.out.c0; have x1 := HX.out.c1; have xz := HX.out.lt; have yz := HC.out.lt
  clear hb
  go_wp2
  exact bodyPost_ret (v := .tuple #[.agg #[.int .i64 W, .slice A1 (cat PZ k).length c1], .bool true]) (by simp [results, Try.results60, go_sem, k0, k1]) rfl
    ⟨A1, c1, rfl, ((HO2.out.setBelow (by simp <;> omega) _).setBelow (by simp <;> omega) _).mono (by simp <;> omega), (by repeat (first | exact Below.refl _ _ | exact HB.out | refine Below.setCell ?_ (by simp <;> omega) _ | refine Below.alloc ?_ (by simp <;> omega) _ | refine below_drewN ?_ _))⟩

set_option maxRecDepth 100000 in
set_option maxHeartbeats 4000000 in
theorem poleOf_no (W : Int) (PP : Option Addr) (k kc : Nat) (PA : Nat → Option Addr) (PN PC : Nat → Nat) (PZ : Nat → List Int) (w : World) (h : Parts w PP k PA PN PC PZ) (hk : k ≤ 1000000) (ht : (cat PZ k).length ≤ 1048576) (hl : pol W (cat PZ k) = false) :
    Calls Try.prog 60 #[.int .i64 W, .slice PP k kc] w (FreshLB w 0 0 [] false) := by
  have HL := Lib.hid hl
  clear hl
  go_enter Try.func60, Try.ntmps60
  go_wp2_with fail
  have HB := belAlloc (belRefl (w := w)) (.cells #[.int .i64 0, .slice none 0 0] 27)
  have HC := cellNew w (.int .i64 0) (.slice none 0 0) 27
  refine (concat_any PP k kc PA PN PC PZ _ (h.alloc _) hk (by omega)).mono ?_
  rintro e w1 ⟨A1, c1, rfl, ho, hb⟩
  replace HC := cellStep HC hb
  replace HB := belStep HB hb
  have HO := Lib.hid ho
  have hz := HC.out.lt
  have k0 := HC.out.c0; have k1 := HC.out.c1; have f0 := HC.out.f0; have f1 := HC.out.f1
  clear hb ho h
  go_wp2_with fail
  have HX := boxNew (W := W) (c := c1) 27 HO.out.ri
  replace HB := belAlloc HB (.cells #[.int .i64 W, .slice A1 (cat PZ k).length c1] 27)
  replace HC := cellAlloc HC (.cells #[.int .i64 W, .slice A1 (cat PZ k).length c1] 27)
  refine (iIsPole_any W A1 _ c1 (cat PZ k) _ HX.out.ri (by omega)).mono ?_
  rw [HL.out]
  rintro e w2 ⟨rfl, hb⟩
  replace HX := boxStep HX hb
  replace HB := belStep HB hb
  replace HC := cellStep HC hb
  have HO2 := oiStep (oiAlloc HO (.cells #[.int .i64 W, .slice A1 (cat PZ k).length c1] 27)) hb
  replace k0 := HC.out.c0; replace k1 := HC.out.c1; replace f0 := HC.out.f0; replace f1 := HC.out.f1
  have x0 := HX.out.c0; have x1 := HX.out.c1; have xz := HX.out.lt; have yz := HC.out.lt
  clear hb
  go_wp2
  exact bodyPost_ret (v := .tuple #[.agg #[.int .i64 0, .slice none 0 0], .bool false]) (by simp [results, Try.results60, go_sem, k0, k1]) rfl
    ⟨none, 0, rfl, OI.none_ _ _, (by repeat (first | exact Below.refl _ _ | exact HB.out | refine Below.setCell ?_ (by simp <;> omega) _ | refine Below.alloc ?_ (by simp <;> omega) _ | refine below_drewN ?_ _))⟩

theorem poleOf_one (W : Int) (A : Option Addr) (n c : Nat) (zs : List Int) (w : World) (h : RI w A n zs) (hn : n ≤ 1048576) (hl : pol W zs = true) :
    Calls Try.prog 60 #[.int .i64 W, .slice (some ⟨w.heap.size, 0, none⟩) 1 1] (w.alloc (.cells #[.slice A n c] 22)) (FreshLB (w.alloc (.cells #[.slice A n c] 22)) W n zs true) := by
  have := poleOf_yes W (some ⟨w.heap.size, 0, none⟩) 1 1 (fun _ => A) (fun _ => n) (fun _ => c) (fun _ => zs) _ (Parts.one h) (by omega) (by rw [cat_one, h.1]; exact hn) (by rw [cat_one]; exact hl)
  rwa [cat_one, h.1] at this
end Go.Proofs.Ytjdkicanamengaa
