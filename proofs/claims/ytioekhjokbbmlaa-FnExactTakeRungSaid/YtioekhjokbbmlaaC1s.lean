/- The contracts of TakeRung, of the program and of its model. -/
import Derived.Test.YtioekhjokbbmlaaC1r
import Derived.IntWalk
import Derived.Deep.RegionHeld3
namespace Go.Proofs.Ytioekhjokbbmlaa
open Go Go.RowKit

def takeL (zs : List Int) (k : Nat) : List Int := zs.take k ++ zs.drop (k + 1)
def takeB (W : Int) (zs : List Int) (a : Int) : Bool := lad W zs && inB a 0 ((zs.length : Int) - 1)
theorem takeB_1 {W : Int} {zs : List Int} {a : Int} (h : lad W zs = false) : takeB W zs a = false := by unfold takeB; rw [h]; rfl
theorem takeB_2 {W : Int} {zs : List Int} {a : Int} (h : ¬ (0 ≤ a ∧ a ≤ (zs.length : Int) - 1)) : takeB W zs a = false := by unfold takeB; rw [inB_false h]; simp
theorem takeB_3 {W : Int} {zs : List Int} {a : Int} (h : lad W zs = true) (h2 : 0 ≤ a ∧ a ≤ (zs.length : Int) - 1) : takeB W zs a = true := by unfold takeB; rw [h, inB_true h2]; rfl
theorem takeL_length (zs : List Int) (k : Nat) (h : k < zs.length) : (takeL zs k).length = zs.length - 1 := by unfold takeL; simp; omega
theorem lad_takeL {W : Int} {zs : List Int} (h : lad W zs = true) (k : Nat) : lad W (takeL zs k) = true := by
  rw [lad_iff] at h ⊢
  refine ⟨h.1, by unfold takeL; simp; omega, ?_⟩
  have h3 := h.2.2
  unfold allIn at h3 ⊢
  rw [List.all_eq_true] at h3 ⊢
  intro z hz
  unfold takeL at hz
  rw [List.mem_append] at hz
  rcases hz with hz | hz
  · exact h3 z (List.mem_of_mem_take hz)
  · exact h3 z (List.mem_of_mem_drop hz)
theorem takeN_len (W : Int) (zs : List Int) (a : Int) : (ifL (takeB W zs a) (takeL zs a.toNat)).length ≤ 1000 := by
  rcases h : takeB W zs a with _ | _
  · rw [ifL_no]; simp
  · rw [ifL_yes]
    unfold takeB at h
    rw [Bool.and_eq_true] at h
    have := (lad_iff.1 (lad_takeL h.1 a.toNat)).2.1
    omega
def sel2 {α : Type} (a b : α) : Nat → α
  | 0 => a
  | _ => b
theorem Parts.two {w : World} {A1 A2 : Option Addr} {n1 c1 n2 c2 : Nat} {z1 z2 : List Int} (h1 : RI w A1 n1 z1) (h2 : RI w A2 n2 z2) :
    Parts (w.alloc (.cells #[.slice A1 n1 c1, .slice A2 n2 c2] 22)) (some ⟨w.heap.size, 0, none⟩) 2 (sel2 A1 A2) (sel2 n1 n2) (sel2 c1 c2) (sel2 z1 z2) := by
  refine ⟨fun _ => ⟨w.heap.size, 0, rfl, by simp, fun j hj => ?_⟩, fun j hj => ?_⟩
  · match j, hj with
    | 0, _ => simp [sel2]
    | 1, _ => simp [sel2]
  · match j, hj with
    | 0, _ => exact h1.alloc _
    | 1, _ => exact h2.alloc _
theorem cat_two (z1 z2 : List Int) : cat (sel2 z1 z2) 2 = z1 ++ z2 := by simp [cat, sel2]

set_option maxRecDepth 100000 in
set_option maxHeartbeats 4000000 in
theorem iTakeRung_some (W : Int) (g n : Nat) (zs : List Int) (k : Nat) (w : World) (h : RI w (some ⟨g, 0, none⟩) n zs) (hn : n ≤ 60) (hq : lad W zs = true) (hk : k + 1 < n) :
    Calls Try.prog 59 #[.agg #[.int .i64 W, .slice (some ⟨g, 0, none⟩) n n], .int .i64 (k : Int)] w (FreshLB w W (takeL zs k).length (takeL zs k) true) := by
  have hzl := Lib.hid h.1
  have HW := Lib.hid hq
  have HWT := Lib.hid (lad_takeL hq k)
  clear hq
  go_enter Try.func59, Try.ntmps59
  go_wp2_with fail
  have HA := boxAlloc (boxNew (W := W) (c := n) 27 h) (.cells #[.int .i64 0, .slice none 0 0] 27)
  have HB := belAlloc (belAlloc (belRefl (w := w)) (.cells #[.int .i64 W, .slice (some ⟨g, 0, none⟩) n n] 27)) (.cells #[.int .i64 0, .slice none 0 0] 27)
  have HC := cellNew (w.alloc (.cells #[.int .i64 W, .slice (some ⟨g, 0, none⟩) n n] 27)) (.int .i64 0) (.slice none 0 0) 27
  refine (iIsLadder_any W (some ⟨g, 0, none⟩) n n zs _ HA.out.ri (by omega)).mono ?_
  rw [HW.out]
  rintro e w1 ⟨rfl, hb⟩
  replace HA := boxStep HA hb
  replace HB := belStep HB hb
  replace HC := cellStep HC hb
  have a0 := HA.out.c0; have a1 := HA.out.c1; have az := HA.out.lt
  have cz := HC.out.lt
  simp only [World.size_alloc] at cz
  clear hb h
  have i0 : (0 : Int) ≤ (k : Int) := Int.natCast_nonneg _
  have s1 : IntKind.i64.wrap ((k : Int) + 1) = (k : Int) + 1 := IntWalk.i64_in _ (by omega)
  have s2 : (0 : Int) ≤ (k : Int) + 1 := by omega
  have s3 : ((k : Int) + 1).toNat = k + 1 := by omega
  have i1 : (k : Int) ≤ (n : Int) := by omega
  have i2 : (k : Int) + 1 ≤ (n : Int) := by omega
  have i3 : ¬ n = k + 1 := by omega
  have i4 : (k : Int) < (n : Int) := by omega
  go_wp2_with fail
  have H2 := boxAlloc HA (.cells #[.slice (some ⟨g, 0, none⟩) k n, .slice (some ⟨g, k + 1, none⟩) (n - (k + 1)) (n - (k + 1))] 22)
  have B2 := belDrew (belAlloc HB (.cells #[.slice (some ⟨g, 0, none⟩) k n, .slice (some ⟨g, k + 1, none⟩) (n - (k + 1)) (n - (k + 1))] 22))
  have C2 := cellDrew (cellAlloc HC (.cells #[.slice (some ⟨g, 0, none⟩) k n, .slice (some ⟨g, k + 1, none⟩) (n - (k + 1)) (n - (k + 1))] 22))
  have PT := Lib.hid (Parts.two (c1 := n) (c2 := (n - (k + 1))) (HA.out.ri.take (k := k) (by omega)) (HA.out.ri.drop' (k := k + 1) (by omega)))
  have HT : Hid (cat (sel2 (zs.take k) (zs.drop (k + 1))) 2 = takeL zs k) := by show _ = _; rw [cat_two]; rfl
  have hal : (takeL zs k).length ≤ 1000000 := by unfold takeL; simp [hzl.out]; omega
  have HLO := Lib.hid (ladderOf_any W _ 2 2 _ _ _ _ _ PT.out.drew (by omega) _ HT.out hal)
  rw [HWT.out, ifW_yes, ifL_yes] at HLO
  go_region_held3 (fun w' => w'.cell? ⟨w.heap.size, 0, none⟩ = some (.int .i64 W) ∧ w'.cell? ⟨w.heap.size, 1, none⟩ = some (.slice (some ⟨g, 0, none⟩) n n))
    (first | exact ⟨HA.out.c0, HA.out.c1⟩ | exact ⟨H2.out.c0, H2.out.c1⟩ | exact ⟨H5.out.c0, H5.out.c1⟩ | exact ⟨farSet2 H5.out.c0 (by omega), farSet2 H5.out.c1 (by omega)⟩)
    ((go_at_call 89; refine HLO.out.mono ?_; rintro e w5 ⟨A5, c5, rfl, o5, hb⟩; have H5 := boxStep (boxDrew H2) hb; have B5 := belStep B2 hb; have C5 := cellStep C2 hb; have O5 := Lib.hid o5; have k0 := C5.out.c0; have k1 := C5.out.c1; have f0 := C5.out.f0; have f1 := C5.out.f1; have cz5 := C5.out.lt; simp only [World.size_alloc] at k0 k1 f0 f1 cz5; clear o5 hb))
  go_wp2
  exact bodyPost_ret (v := .tuple #[.agg #[.int .i64 W, .slice A5 (takeL zs k).length c5], .bool true]) (by simp [results, Try.results59, go_sem, k0, k1]) rfl
    ⟨A5, c5, rfl, ((O5.out.setBelow (p := ⟨w.heap.size + 1, 0, none⟩) (by simp <;> omega) _).setBelow (p := ⟨w.heap.size + 1, 1, none⟩) (by simp <;> omega) _).mono (B' := w.heap.size) (by simp <;> omega), (B5.out.setCell (p := ⟨w.heap.size + 1, 0, none⟩) (by simp) _).setCell (p := ⟨w.heap.size + 1, 1, none⟩) (by simp) _⟩

set_option maxRecDepth 100000 in
set_option maxHeartbeats 4000000 in
theorem iTakeRung_last (W : Int) (g : Nat) (zs : List Int) (k : Nat) (w : World) (h : RI w (some ⟨g, 0, none⟩) (k + 1) zs) (hn : (k + 1) ≤ 60) (hq : lad W zs = true) :
    Calls Try.prog 59 #[.agg #[.int .i64 W, .slice (some ⟨g, 0, none⟩) (k + 1) (k + 1)], .int .i64 (k : Int)] w (FreshLB w W (takeL zs k).length (takeL zs k) true) := by
  have hzl := Lib.hid h.1
  have HW := Lib.hid hq
  have HWT := Lib.hid (lad_takeL hq k)
  clear hq
  go_enter Try.func59, Try.ntmps59
  go_wp2_with fail
  have HA := boxAlloc (boxNew (W := W) (c := (k + 1)) 27 h) (.cells #[.int .i64 0, .slice none 0 0] 27)
  have HB := belAlloc (belAlloc (belRefl (w := w)) (.cells #[.int .i64 W, .slice (some ⟨g, 0, none⟩) (k + 1) (k + 1)] 27)) (.cells #[.int .i64 0, .slice none 0 0] 27)
  have HC := cellNew (w.alloc (.cells #[.int .i64 W, .slice (some ⟨g, 0, none⟩) (k + 1) (k + 1)] 27)) (.int .i64 0) (.slice none 0 0) 27
  refine (iIsLadder_any W (some ⟨g, 0, none⟩) (k + 1) (k + 1) zs _ HA.out.ri (by omega)).mono ?_
  rw [HW.out]
  rintro e w1 ⟨rfl, hb⟩
  replace HA := boxStep HA hb
  replace HB := belStep HB hb
  replace HC := cellStep HC hb
  have a0 := HA.out.c0; have a1 := HA.out.c1; have az := HA.out.lt
  have cz := HC.out.lt
  simp only [World.size_alloc] at cz
  clear hb h
  have i0 : (0 : Int) ≤ (k : Int) := Int.natCast_nonneg _
  have s1 : IntKind.i64.wrap ((k : Int) + 1) = (k : Int) + 1 := IntWalk.i64_in _ (by omega)
  have s2 : (0 : Int) ≤ (k : Int) + 1 := by omega
  have s3 : ((k : Int) + 1).toNat = k + 1 := by omega
  have i1 : (k : Int) ≤ (k : Int) + 1 := by omega
  have i4 : (k : Int) < (k : Int) + 1 := by omega
  go_wp2_with fail
  have H2 := boxAlloc HA (.cells #[.slice (some ⟨g, 0, none⟩) k (k + 1), .slice (some ⟨g, 0, none⟩) 0 0] 22)
  have B2 := belDrew (belAlloc HB (.cells #[.slice (some ⟨g, 0, none⟩) k (k + 1), .slice (some ⟨g, 0, none⟩) 0 0] 22))
  have C2 := cellDrew (cellAlloc HC (.cells #[.slice (some ⟨g, 0, none⟩) k (k + 1), .slice (some ⟨g, 0, none⟩) 0 0] 22))
  have PT := Lib.hid (Parts.two (c1 := (k + 1)) (c2 := 0) (HA.out.ri.take (k := k) (by omega)) (RI.empty _ (some ⟨g, 0, none⟩)))
  have HT : Hid (cat (sel2 (zs.take k) []) 2 = takeL zs k) := by show _ = _; rw [cat_two]; unfold takeL; rw [List.drop_of_length_le (by rw [hzl.out]; exact Nat.le_refl _)]
  have hal : (takeL zs k).length ≤ 1000000 := by unfold takeL; simp [hzl.out]; omega
  have HLO := Lib.hid (ladderOf_any W _ 2 2 _ _ _ _ _ PT.out.drew (by omega) _ HT.out hal)
  rw [HWT.out, ifW_yes, ifL_yes] at HLO
  go_region_held3 (fun w' => w'.cell? ⟨w.heap.size, 0, none⟩ = some (.int .i64 W) ∧ w'.cell? ⟨w.heap.size, 1, none⟩ = some (.slice (some ⟨g, 0, none⟩) (k + 1) (k + 1)))
    (first | exact ⟨HA.out.c0, HA.out.c1⟩ | exact ⟨H2.out.c0, H2.out.c1⟩ | exact ⟨H5.out.c0, H5.out.c1⟩ | exact ⟨farSet2 H5.out.c0 (by omega), farSet2 H5.out.c1 (by omega)⟩)
    ((go_at_call 89; refine HLO.out.mono ?_; rintro e w5 ⟨A5, c5, rfl, o5, hb⟩; have H5 := boxStep (boxDrew H2) hb; have B5 := belStep B2 hb; have C5 := cellStep C2 hb; have O5 := Lib.hid o5; have k0 := C5.out.c0; have k1 := C5.out.c1; have f0 := C5.out.f0; have f1 := C5.out.f1; have cz5 := C5.out.lt; simp only [World.size_alloc] at k0 k1 f0 f1 cz5; clear o5 hb))
  go_wp2
  exact bodyPost_ret (v := .tuple #[.agg #[.int .i64 W, .slice A5 (takeL zs k).length c5], .bool true]) (by simp [results, Try.results59, go_sem, k0, k1]) rfl
    ⟨A5, c5, rfl, ((O5.out.setBelow (p := ⟨w.heap.size + 1, 0, none⟩) (by simp <;> omega) _).setBelow (p := ⟨w.heap.size + 1, 1, none⟩) (by simp <;> omega) _).mono (B' := w.heap.size) (by simp <;> omega), (B5.out.setCell (p := ⟨w.heap.size + 1, 0, none⟩) (by simp) _).setCell (p := ⟨w.heap.size + 1, 1, none⟩) (by simp) _⟩
end Go.Proofs.Ytioekhjokbbmlaa
