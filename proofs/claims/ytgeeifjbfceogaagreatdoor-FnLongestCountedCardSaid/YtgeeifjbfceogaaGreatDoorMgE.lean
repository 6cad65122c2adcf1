/- The contract by which the program makes ladders out of parts. The contracts of MirrorLadder, of the program and of its model. The contract of AddRung, of the program. The contracts of AddRung for every argument, of the program. The contracts of AddRung's model. -/
import Derived.Test.YtgeeifjbfceogaaGreatDoorConcat
import Derived.Test.YtgeeifjbfceogaaGreatDoorMgD
import Derived.Test.YtgeeifjbfceogaaGreatDoorMgC
import Derived.BigQuiet
import Derived.Deep.RegionHeld3
import Derived.Test.YtgeeifjbfceogaaGreatDoorMgB
import Derived.Deep.RegionLaw
namespace Go.Proofs.YtgeeifjbfceogaaGreatDoor
open Go Go.RowKit

/-- a ladder in new memory, and a bool -/
def FreshLB (w : World) (W : Int) (n : Nat) (zs : List Int) (b : Bool) (e : Ending) (w' : World) : Prop :=
  ∃ A c, e = .returned (.tuple #[.agg #[.int .i64 W, .slice A n c], .bool b]) ∧ OI w' w.heap.size A n c zs ∧ Below w.heap.size w w'

theorem Parts.alloc {w : World} {PP : Option Addr} {k : Nat} {PA : Nat → Option Addr} {PN PC : Nat → Nat} {PZ : Nat → List Int} (h : Parts w PP k PA PN PC PZ) (o : Obj) : Parts (w.alloc o) PP k PA PN PC PZ := by
  have hb : Below w.heap.size w (w.alloc o) := (Below.refl _ _).alloc (Nat.le_refl _) o
  refine ⟨fun hk => ?_, fun j hj => (h.2 j hj).alloc o⟩
  obtain ⟨b, off, e, hbw, hc⟩ := h.1 hk
  exact ⟨b, off, e, Nat.lt_of_lt_of_le hbw hb.size, fun j hj => (hb.cell (p := ⟨b, off + j, none⟩) hbw).trans (hc j hj)⟩

set_option maxRecDepth 100000 in
set_option maxHeartbeats 4000000 in
theorem ladderOf_yes (W : Int) (PP : Option Addr) (k kc : Nat) (PA : Nat → Option Addr) (PN PC : Nat → Nat) (PZ : Nat → List Int) (w : World) (h : Parts w PP k PA PN PC PZ) (hk : k ≤ 1000000) (ht : (cat PZ k).length ≤ 1000000) (hl : lad W (cat PZ k) = true) :
    Calls Tryz.prog 64 #[.int .i64 W, .slice PP k kc] w (FreshLB w W (cat PZ k).length (cat PZ k) true) := by
  have HL := Lib.hid hl
  clear hl
  go_enter Tryz.func64, Tryz.ntmps64
  go_wp2_with fail
  have HB := belAlloc (belRefl (w := w)) (.cells #[.int .i64 0, .slice none 0 0] 44)
  have HC := cellNew w (.int .i64 0) (.slice none 0 0) 44
  refine (concat_any PP k kc PA PN PC PZ _ (h.alloc _) hk (by omega)).mono ?_
  rintro e w1 ⟨A1, c1, rfl, ho, hb⟩
  replace HC := cellStep HC hb
  replace HB := belStep HB hb
  have HO := Lib.hid ho
  have hz := HC.out.lt
  have k0 := HC.out.c0; have k1 := HC.out.c1; have f0 := HC.out.f0; have f1 := HC.out.f1
  clear hb ho h
  go_wp2_with fail
  have HX := boxNew (W := W) (c := c1) 44 HO.out.ri
  replace HB := belAlloc HB (.cells #[.int .i64 W, .slice A1 (cat PZ k).length c1] 44)
  replace HC := cellAlloc HC (.cells #[.int .i64 W, .slice A1 (cat PZ k).length c1] 44)
  refine (iIsLadder_any W A1 _ c1 (cat PZ k) _ HX.out.ri (by omega)).mono ?_
  rw [HL.out]
  rintro e w2 ⟨rfl, hb⟩
  replace HX := boxStep HX hb
  replace HB := belStep HB hb
  replace HC := cellStep HC hb
  have HO2 := oiStep (oiAlloc HO (.cells #[.int .i64 W, .slice A1 (cat PZ k).length c1] 44)) hb
  replace k0 := HC.out.c0; replace k1 := HC.out.c1; replace f0 := HC.out.f0; replace f1 := HC.out.f1
  have x0 := HX.out.c0; have x1 := HX.out.c1; have xz := HX.out.lt; have yz := HC.out.lt
  clear hb
  go_wp2
  exact bodyPost_ret (v := .tuple #[.agg #[.int .i64 W, .slice A1 (cat PZ k).length c1], .bool true]) (by simp [results, Tryz.results64, go_sem, k0, k1]) rfl
    ⟨A1, c1, rfl, ((HO2.out.setBelow (by simp <;> omega) _).setBelow (by simp <;> omega) _).mono (by simp <;> omega), (by repeat (first | exact Below.refl _ _ | exact HB.out | refine Below.setCell ?_ (by simp <;> omega) _ | refine Below.alloc ?_ (by simp <;> omega) _ | refine below_drewN ?_ _))⟩

set_option maxRecDepth 100000 in
set_option maxHeartbeats 4000000 in
theorem ladderOf_no (W : Int) (PP : Option Addr) (k kc : Nat) (PA : Nat → Option Addr) (PN PC : Nat → Nat) (PZ : Nat → List Int) (w : World) (h : Parts w PP k PA PN PC PZ) (hk : k ≤ 1000000) (ht : (cat PZ k).length ≤ 1000000) (hl : lad W (cat PZ k) = false) :
    Calls Tryz.prog 64 #[.int .i64 W, .slice PP k kc] w (FreshLB w 0 0 [] false) := by
  have HL := Lib.hid hl
  clear hl
  go_enter Tryz.func64, Tryz.ntmps64
  go_wp2_with fail
  have HB := belAlloc (belRefl (w := w)) (.cells #[.int .i64 0, .slice none 0 0] 44)
  have HC := cellNew w (.int .i64 0) (.slice none 0 0) 44
  refine (concat_any PP k kc PA PN PC PZ _ (h.alloc _) hk (by omega)).mono ?_
  rintro e w1 ⟨A1, c1, rfl, ho, hb⟩
  replace HC := cellStep HC hb
  replace HB := belStep HB hb
  have HO := Lib.hid ho
  have hz := HC.out.lt
  have k0 := HC.out.c0; have k1 := HC.out.c1; have f0 := HC.out.f0; have f1 := HC.out.f1
  clear hb ho h
  go_wp2_with fail
  have HX := boxNew (W := W) (c := c1) 44 HO.out.ri
  replace HB := belAlloc HB (.cells #[.int .i64 W, .slice A1 (cat PZ k).length c1] 44)
  replace HC := cellAlloc HC (.cells #[.int .i64 W, .slice A1 (cat PZ k).length c1] 44)
  refine (iIsLadder_any W A1 _ c1 (cat PZ k) _ HX.out.ri (by omega)).mono ?_
  rw [HL.out]
  rintro e w2 ⟨rfl, hb⟩
  replace HX := boxStep HX hb
  replace HB := belStep HB hb
  replace HC := cellStep HC hb
  have HO2 := oiStep (oiAlloc HO (.cells #[.int .i64 W, .slice A1 (cat PZ k).length c1] 44)) hb
  replace k0 := HC.out.c0; replace k1 := HC.out.c1; replace f0 := HC.out.f0; replace f1 := HC.out.f1
  have x0 := HX.out.c0; have x1 := HX.out.c1; have xz := HX.out.lt; have yz := HC.out.lt
  clear hb
  go_wp2
  exact bodyPost_ret (v := .tuple #[.agg #[.int .i64 0, .slice none 0 0], .bool false]) (by simp [results, Tryz.results64, go_sem, k0, k1]) rfl
    ⟨none, 0, rfl, OI.none_ _ _, (by repeat (first | exact Below.refl _ _ | exact HB.out | refine Below.setCell ?_ (by simp <;> omega) _ | refine Below.alloc ?_ (by simp <;> omega) _ | refine below_drewN ?_ _))⟩
end Go.Proofs.YtgeeifjbfceogaaGreatDoor
namespace Go.Proofs.YtgeeifjbfceogaaGreatDoor
open Go Go.RowKit

def mir (W : Int) (zs : List Int) : List Int := zs.map fun z => W - 2 - z
theorem mir_length (W : Int) (zs : List Int) : (mir W zs).length = zs.length := by simp [mir]
theorem gi_mir (W : Int) (zs : List Int) (j : Nat) (h : j < zs.length) : gi (mir W zs) j = W - 2 - gi zs j := by
  rw [gi_lt (by rw [mir_length]; exact h), gi_lt h]; simp [mir]
theorem mir_take (W : Int) (zs : List Int) (k : Nat) (h : k < zs.length) : (mir W zs).take (k + 1) = (mir W zs).take k ++ [W - 2 - gi zs k] := by
  have hl := mir_length W zs
  rw [List.take_succ_eq_append_getElem (by omega), ← gi_lt, gi_mir _ _ _ h]
def ifW (b : Bool) (W : Int) : Int := if b = true then W else 0
def ifL (b : Bool) (zs : List Int) : List Int := if b = true then zs else []
theorem ifW_yes (W : Int) : ifW true W = W := rfl
theorem ifW_no (W : Int) : ifW false W = 0 := rfl
theorem ifL_yes (zs : List Int) : ifL true zs = zs := rfl
theorem ifL_no (zs : List Int) : ifL false zs = [] := rfl
theorem mirN_len (W : Int) (zs : List Int) : (ifL (lad W zs) (mir W zs)).length ≤ 1000 := by
  rcases h : lad W zs with _ | _
  · rw [ifL_no]; simp
  · rw [ifL_yes, mir_length]
    have := (lad_iff.1 h).2.1
    omega
/-- one part -/
theorem Parts.one {w : World} {A : Option Addr} {n c : Nat} {zs : List Int} (h : RI w A n zs) : Parts (w.alloc (.cells #[.slice A n c] 22)) (some ⟨w.heap.size, 0, none⟩) 1 (fun _ => A) (fun _ => n) (fun _ => c) (fun _ => zs) :=
  ⟨fun _ => ⟨w.heap.size, 0, rfl, by simp, fun j hj => by obtain rfl : j = 0 := by omega
                                                          simp⟩, fun _ _ => h.alloc _⟩
theorem cat_one (zs : List Int) : cat (fun _ => zs) 1 = zs := by simp [cat]

theorem ladderOf_one (W : Int) (A : Option Addr) (n c : Nat) (zs : List Int) (w : World) (h : RI w A n zs) (hn : n ≤ 1000000) (hl : lad W zs = true) :
    Calls Tryz.prog 64 #[.int .i64 W, .slice (some ⟨w.heap.size, 0, none⟩) 1 1] (w.alloc (.cells #[.slice A n c] 22)) (FreshLB (w.alloc (.cells #[.slice A n c] 22)) W n zs true) := by
  have := ladderOf_yes W (some ⟨w.heap.size, 0, none⟩) 1 1 (fun _ => A) (fun _ => n) (fun _ => c) (fun _ => zs) _ (Parts.one h) (by omega) (by rw [cat_one, h.1]; exact hn) (by rw [cat_one]; exact hl)
  rwa [cat_one, h.1] at this

/-- a ladder's rungs in the call's own memory, the first k of them mirrored; nothing else has turned since w4 -/
def MirRel (w4 : World) (K : Nat) (A5 : Option Addr) (n c5 : Nat) (W : Int) (zs : List Int) (k : Nat) (wr : World) : Prop :=
  (∃ ys, OI wr K A5 n c5 ys ∧ ∀ j, j < n → gi ys j = if j < k then W - 2 - gi zs j else gi zs j) ∧ w4.grownBy wr (blk A5)

/-- a ladder in block bo whose rungs, in the call's own memory behind it, are the first k of ys -/
def OutRel (w1 : World) (bo : Nat) (W : Int) (ys : List Int) (k : Nat) (wr : World) : Prop :=
  ∃ A1 c1, Cell2 wr bo (.int .i64 W) (.slice A1 k c1) ∧ OI wr (bo + 1) A1 k c1 (ys.take k) ∧ Below bo w1 wr

end Go.Proofs.YtgeeifjbfceogaaGreatDoor
namespace Go.Proofs.YtgeeifjbfceogaaGreatDoor
open Go Go.RowKit

def addL (zs : List Int) (k : Nat) (r : Int) : List Int := zs.take k ++ (r :: zs.drop k)
def addB (W : Int) (zs : List Int) (a r : Int) : Bool := lad W zs && (inB a 0 zs.length && lad W (addL zs a.toNat r))
theorem ladderOf_any (W : Int) (PP : Option Addr) (k kc : Nat) (PA : Nat → Option Addr) (PN PC : Nat → Nat) (PZ : Nat → List Int) (w : World) (h : Parts w PP k PA PN PC PZ) (hk : k ≤ 1000000) (zs : List Int) (hz : cat PZ k = zs) (ht : zs.length ≤ 1000000) :
    Calls Tryz.prog 64 #[.int .i64 W, .slice PP k kc] w (FreshLB w (ifW (lad W zs) W) (ifL (lad W zs) zs).length (ifL (lad W zs) zs) (lad W zs)) := by
  subst hz
  rcases hq : lad W (cat PZ k) with _ | _
  · rw [ifW_no, ifL_no]; exact ladderOf_no W PP k kc PA PN PC PZ w h hk ht hq
  · rw [ifW_yes, ifL_yes]; exact ladderOf_yes W PP k kc PA PN PC PZ w h hk ht hq

/-- the end of a slice reads as the end of its list -/
theorem RI.drop {w : World} {b off n : Nat} {zs : List Int} (h : RI w (some ⟨b, off, none⟩) n zs) {k : Nat} (hk : k ≤ n) : RI w (some ⟨b, off + k, none⟩) (n - k) (zs.drop k) := by
  refine ⟨by rw [List.length_drop, h.1], fun h0 => ?_⟩
  obtain ⟨b', off', e, hb, hc⟩ := h.2 (by omega)
  injection e with e; injection e with e1 e2 e3
  subst e1 e2
  refine ⟨b, off + k, rfl, hb, fun j hj => ?_⟩
  rw [show off + k + j = off + (k + j) by omega, hc (k + j) (by omega), gi_lt (by rw [h.1]; omega), gi_lt (by rw [List.length_drop, h.1]; omega)]
  simp
theorem RI.empty (w : World) (A : Option Addr) : RI w A 0 [] := ⟨rfl, fun h => absurd h (by omega)⟩

theorem farSet2 {w5 : World} {b b' o : Nat} {u v x : Value} (h : w5.cell? ⟨b, o, none⟩ = some x) (hne : b ≠ b') : ((w5.setCell ⟨b', 0, none⟩ u).setCell ⟨b', 1, none⟩ v).cell? ⟨b, o, none⟩ = some x := by
  rw [World.cell?_setCell_other _ _ _ _ (by simp <;> omega), World.cell?_setCell_other _ _ _ _ (by simp <;> omega)]; exact h
def sel3 {α : Type} (a b c : α) : Nat → α
  | 0 => a
  | 1 => b
  | _ => c
theorem RI.single' (w : World) (z : Int) : RI (w.alloc (.cells #[.int .i64 z] 3)) (some ⟨w.heap.size, 0, none⟩) 1 [z] :=
  ⟨rfl, fun _ => ⟨w.heap.size, 0, rfl, by simp, fun j hj => by obtain rfl : j = 0 := by omega
                                                               simp [gi]⟩⟩
theorem Parts.three {w : World} {A1 A2 A3 : Option Addr} {n1 c1 n2 c2 n3 c3 : Nat} {z1 z2 z3 : List Int} (h1 : RI w A1 n1 z1) (h2 : RI w A2 n2 z2) (h3 : RI w A3 n3 z3) :
    Parts (w.alloc (.cells #[.slice A1 n1 c1, .slice A2 n2 c2, .slice A3 n3 c3] 22)) (some ⟨w.heap.size, 0, none⟩) 3 (sel3 A1 A2 A3) (sel3 n1 n2 n3) (sel3 c1 c2 c3) (sel3 z1 z2 z3) := by
  refine ⟨fun _ => ⟨w.heap.size, 0, rfl, by simp, fun j hj => ?_⟩, fun j hj => ?_⟩
  · match j, hj with
    | 0, _ => simp [sel3]
    | 1, _ => simp [sel3]
    | 2, _ => simp [sel3]
  · match j, hj with
    | 0, _ => exact h1.alloc _
    | 1, _ => exact h2.alloc _
    | 2, _ => exact h3.alloc _
theorem Parts.drew {w : World} {PP : Option Addr} {k : Nat} {PA : Nat → Option Addr} {PN PC : Nat → Nat} {PZ : Nat → List Int} (h : Parts w PP k PA PN PC PZ) : Parts w.drew PP k PA PN PC PZ := h
theorem cat_three (z1 z2 z3 : List Int) : cat (sel3 z1 z2 z3) 3 = z1 ++ (z2 ++ z3) := by simp [cat, sel3]
/-- where the end of a slice begins -/
theorem RI.drop' {w : World} {g n k : Nat} {zs : List Int} (h : RI w (some ⟨g, 0, none⟩) n zs) (hk : k ≤ n) : RI w (some ⟨g, k, none⟩) (n - k) (zs.drop k) := by
  have := h.drop hk
  rwa [Nat.zero_add] at this

end Go.Proofs.YtgeeifjbfceogaaGreatDoor
namespace Go.Proofs.YtgeeifjbfceogaaGreatDoor
open Go Go.RowKit

theorem addB_1 {W : Int} {zs : List Int} {a r : Int} (h : lad W zs = false) : addB W zs a r = false := by unfold addB; rw [h]; rfl
theorem addB_2 {W : Int} {zs : List Int} {a r : Int} (h : ¬ (0 ≤ a ∧ a ≤ (zs.length : Int))) : addB W zs a r = false := by unfold addB; rw [inB_false h]; simp
theorem addB_3 {W : Int} {zs : List Int} {a r : Int} (h : lad W zs = true) (h2 : 0 ≤ a ∧ a ≤ (zs.length : Int)) : addB W zs a r = lad W (addL zs a.toNat r) := by unfold addB; rw [h, inB_true h2]; rfl
theorem addN_len (W : Int) (zs : List Int) (a r : Int) : (ifL (addB W zs a r) (addL zs a.toNat r)).length ≤ 1000 := by
  rcases h : addB W zs a r with _ | _
  · rw [ifL_no]; simp
  · rw [ifL_yes]
    unfold addB at h
    simp only [Bool.and_eq_true] at h
    have := (lad_iff.1 h.2.2).2.1
    omega

end Go.Proofs.YtgeeifjbfceogaaGreatDoor
namespace Go.Proofs.YtgeeifjbfceogaaGreatDoor
open Go Go.RowKit

theorem OI.empty (w : World) (B : Nat) (hB : B ≤ w.heap.size) : OI (w.alloc (.cells #[] 3)) B (some ⟨w.heap.size, 0, none⟩) 0 0 [] :=
  ⟨rfl, World.ownsRow_lit _ _ _ hB (by decide) rfl⟩

set_option maxRecDepth 100000 in
set_option maxHeartbeats 4000000 in
theorem l1Own_any (A : Option Addr) (n c : Nat) (zs : List Int) (w : World) (h : RI w A n zs) (hn : n ≤ 1048576) : Calls Tryz.prog 74 #[.slice A n c] w (FreshI w n zs) := by
  go_enter Tryz.func74, Tryz.ntmps74
  go_wp2_with (at_builtin; refine wpList_append_ints _ rfl _ _ rfl w.heap.size (some ⟨w.heap.size, 0, none⟩) 0 0 [] A n c zs rfl rfl (OI.empty w _ (Nat.le_refl _)) (h.alloc _) (by omega) (by omega) (by simp) ?_; intro A1 c1 w1 ho hg; have HO := Lib.hid ho; have HB : Hid (Below w.heap.size w w1) := belGrown (belAlloc (belRefl (w := w)) _) (OI.empty w _ (Nat.le_refl _)) hg (Nat.le_refl _); clear ho hg)
  go_ret
  have := HO.out
  rw [List.nil_append] at this
  exact ⟨A1, c1, rfl, by rwa [Nat.zero_add] at this, HB.out⟩

end Go.Proofs.YtgeeifjbfceogaaGreatDoor
