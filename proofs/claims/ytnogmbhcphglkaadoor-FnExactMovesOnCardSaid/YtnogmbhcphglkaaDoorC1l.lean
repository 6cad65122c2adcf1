/- The contract by which the program makes ladders out of parts. -/
import Derived.Test.YtnogmbhcphglkaaDoorConcat
import Derived.Test.YtnogmbhcphglkaaDoorC1a
import Derived.Test.YtnogmbhcphglkaaDoorBox
namespace Go.Proofs.YtnogmbhcphglkaaDoor
open Go Go.RowKit

/-- a ladder in new memory, and a bool -/
def FreshLB (w : World) (W : Int) (n : Nat) (zs : List Int) (b : Bool) (e : Ending) (w' : World) : Prop :=
  ∃ A c, e = .returned (.tuple #[.agg #[.int .i64 W, .slice A n c], .bool b]) ∧ OI w' w.heap.size A n c zs ∧ Below w.heap.size w w'

theorem Parts.alloc {w : World} {PP : Option Addr} {k : Nat} {PA : Nat → Option Addr} {PN PC : Nat → Nat} {PZ : Nat → List Int} (h : Parts w PP k PA PN PC PZ) (o : Obj) : Parts (w.alloc o) PP k PA PN PC PZ := by
  have hb : Below w.heap.size w (w.alloc o) := (Below.refl _ _).alloc (Nat.le_refl _) o
  refine ⟨fun hk => ?_, fun j hj => (h.2 j hj).alloc o⟩
  obtain ⟨b, off, e, hbw, hc⟩ := h.1 hk
  exact ⟨b, off, e, Nat.lt_of_lt_of_le hbw hb.size, fun j hj => (hb.cell (p := ⟨b, off + j, none⟩) hbw).trans (hc j hj)⟩

set_option maxRecDepth 100000 in
set_option maxHeartbeats 4000000 in
theorem ladderOf_yes (W : Int) (PP : Option Addr) (k kc : Nat) (PA : Nat → Option Addr) (PN PC : Nat → Nat) (PZ : Nat → List Int) (w : World) (h : Parts w PP k PA PN PC PZ) (hk : k ≤ 1000000) (ht : (cat PZ k).length ≤ 1000000) (hl : lad W (cat PZ k) = true) :
    Calls Tryd.prog 54 #[.int .i64 W, .slice PP k kc] w (FreshLB w W (cat PZ k).length (cat PZ k) true) := by
  have HL := Lib.hid hl
  clear hl
  go_enter Tryd.func54, Tryd.ntmps54
  go_wp2_with fail
  have HB := belAlloc (belRefl (w := w)) (.cells #[.int .i64 0, .slice none 0 0] 29)
  have HC := cellNew w (.int .i64 0) (.slice none 0 0) 29
  refine (concat_any PP k kc PA PN PC PZ _ (h.alloc _) hk ht).mono ?_
  rintro e w1 ⟨A1, c1, rfl, ho, hb⟩
  replace HC := cellStep HC hb
  replace HB := belStep HB hb
  have HO := Lib.hid ho
  have hz := HC.out.lt
  have k0 := HC.out.c0; have k1 := HC.out.c1; have f0 := HC.out.f0; have f1 := HC.out.f1
  clear hb ho h
  go_wp2_with fail
  have HX := boxNew (W := W) (c := c1) 29 HO.out.ri
  replace HB := belAlloc HB (.cells #[.int .i64 W, .slice A1 (cat PZ k).length c1] 29)
  replace HC := cellAlloc HC (.cells #[.int .i64 W, .slice A1 (cat PZ k).length c1] 29)
  refine (iIsLadder_any W A1 _ c1 (cat PZ k) _ HX.out.ri (by omega)).mono ?_
  rw [HL.out]
  rintro e w2 ⟨rfl, hb⟩
  replace HX := boxStep HX hb
  replace HB := belStep HB hb
  replace HC := cellStep HC hb
  have HO2 := oiStep (oiAlloc HO (.cells #[.int .i64 W, .slice A1 (cat PZ k).length c1] 29)) hb
  replace k0 := HC.out.c0; replace k1 := HC.out.c1; replace f0 := HC.out.f0; replace f1 := HC.out.f1
  have x0 := HX.out.c0; have x1 := HX.out.c1; have xz := HX.out.lt; have yz := HC.out.lt
  clear hb
  go_wp2
  exact bodyPost_ret (v := .tuple #[.agg #[.int .i64 W, .slice A1 (cat PZ k).length c1], .bool true]) (by simp [results, Tryd.results54, go_sem, k0, k1]) rfl
    ⟨A1, c1, rfl, ((HO2.out.setBelow (by simp <;> omega) _).setBelow (by simp <;> omega) _).mono (by simp <;> omega), (by repeat (first | exact Below.refl _ _ | exact HB.out | refine Below.setCell ?_ (by simp <;> omega) _ | refine Below.alloc ?_ (by simp <;> omega) _ | refine below_drewN ?_ _))⟩

set_option maxRecDepth 100000 in
set_option maxHeartbeats 4000000 in
theorem ladderOf_no (W : Int) (PP : Option Addr) (k kc : Nat) (PA : Nat → Option Addr) (PN PC : Nat → Nat) (PZ : Nat → List Int) (w : World) (h : Parts w PP k PA PN PC PZ) (hk : k ≤ 1000000) (ht : (cat PZ k).length ≤ 1000000) (hl : lad W (cat PZ k) = false) :
    Calls Tryd.prog 54 #[.int .i64 W, .slice PP k kc] w (FreshLB w 0 0 [] false) := by
  have HL := Lib.hid hl
  clear hl
  go_enter Tryd.func54, Tryd.ntmps54
  go_wp2_with fail
  have HB := belAlloc (belRefl (w := w)) (.cells #[.int .i64 0, .slice none 0 0] 29)
  have HC := cellNew w (.int .i64 0) (.slice none 0 0) 29
  refine (concat_any PP k kc PA PN PC PZ _ (h.alloc _) hk ht).mono ?_
  rintro e w1 ⟨A1, c1, rfl, ho, hb⟩
  replace HC := cellStep HC hb
  replace HB := belStep HB hb
  have HO := Lib.hid ho
  have hz := HC.out.lt
  have k0 := HC.out.c0; have k1 := HC.out.c1; have f0 := HC.out.f0; have f1 := HC.out.f1
  clear hb ho h
  go_wp2_with fail
  have HX := boxNew (W := W) (c := c1) 29 HO.out.ri
  replace HB := belAlloc HB (.cells #[.int .i64 W, .slice A1 (cat PZ k).length c1] 29)
  replace HC := cellAlloc HC (.cells #[.int .i64 W, .slice A1 (cat PZ k).length c1] 29)
  refine (iIsLadder_any W A1 _ c1 (cat PZ k) _ HX.out.ri (by omega)).mono ?_
  rw [HL.out]
  rintro e w2 ⟨rfl, hb⟩
  replace HX := boxStep HX hb
  replace HB := belStep HB hb
  replace HC := cellStep HC hb
  have HO2 := oiStep (oiAlloc HO (.cells #[.int .i64 W, .slice A1 (cat PZ k).length c1] 29)) hb
  replace k0 := HC.out.c0; replace k1 := HC.out.c1; replace f0 := HC.out.f0; replace f1 := HC.out.f1
  have x0 := HX.out.c0; have x1 := HX.out.c1; have xz := HX.out.lt; have yz := HC.out.lt
  clear hb
  go_wp2
  exact bodyPost_ret (v := .tuple #[.agg #[.int .i64 0, .slice none 0 0], .bool false]) (by simp [results, Tryd.results54, go_sem, k0, k1]) rfl
    ⟨none, 0, rfl, OI.none_ _ _, (by repeat (first | exact Below.refl _ _ | exact HB.out | refine Below.setCell ?_ (by simp <;> omega) _ | refine Below.alloc ?_ (by simp <;> omega) _ | refine below_drewN ?_ _))⟩
end Go.Proofs.YtnogmbhcphglkaaDoor
