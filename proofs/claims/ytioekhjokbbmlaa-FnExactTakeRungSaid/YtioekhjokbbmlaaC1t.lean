/- The contract of TakeRung's model. -/
import Derived.Test.YtioekhjokbbmlaaC1s
namespace Go.Proofs.Ytioekhjokbbmlaa
open Go Go.RowKit

set_option maxRecDepth 100000 in
set_option maxHeartbeats 4000000 in
theorem sTakeRung_some (W : Int) (g n : Nat) (zs : List Int) (k : Nat) (w : World) (h : RI w (some ⟨g, 0, none⟩) n zs) (hn : n ≤ 60) (hq : lad W zs = true) (hk : k + 1 < n) :
    Calls Try.prog 58 #[.agg #[.int .i64 W, .slice (some ⟨g, 0, none⟩) n n], .int .i64 (k : Int)] w (FreshLB w W (takeL zs k).length (takeL zs k) true) := by
  have hzl := Lib.hid h.1
  have HW := Lib.hid hq
  have E1 : Hid (inB (k : Int) 0 ((n : Nat) - 1 : Int) = true) := inB_true (by omega)
  have E2 : Hid (inB (k : Int) 0 (k : Int) = true) := inB_true (by omega)
  have E3 : Hid (inB (k : Int) 0 ((k : Int) + 1 - 1) = true) := inB_true (by omega)
  have HT : Hid (zs.take k ++ (zs.drop (k + 1)) = takeL zs k) := by show _ = _; rfl
  have HTL : Hid (k + (n - (k + 1)) = (takeL zs k).length) := by show _ = _; rw [takeL_length _ _ (by rw [hzl.out]; omega), hzl.out]; omega
  clear hq
  rw [← HTL.out]
  go_enter Try.func58, Try.ntmps58
  go_wp2_with fail
  have HA := boxAlloc (boxNew (W := W) (c := n) 27 h) (.cells #[.int .i64 0, .slice none 0 0] 27)
  have HB := belAlloc (belAlloc (belRefl (w := w)) (.cells #[.int .i64 W, .slice (some ⟨g, 0, none⟩) n n] 27)) (.cells #[.int .i64 0, .slice none 0 0] 27)
  have HC := cellNew (w.alloc (.cells #[.int .i64 W, .slice (some ⟨g, 0, none⟩) n n] 27)) (.int .i64 0) (.slice none 0 0) 27
  refine (laGood_any W (some ⟨g, 0, none⟩) n n zs _ HA.out.ri (by omega)).mono ?_
  rw [HW.out]
  rintro e w1 ⟨rfl, hb⟩
  replace HA := boxStep HA hb
  replace HB := belStep HB hb
  replace HC := cellStep HC hb
  have a0 := HA.out.c0; have a1 := HA.out.c1; have az := HA.out.lt
  have cz := HC.out.lt
  simp only [World.size_alloc] at cz
  clear hb h
  have i0 : (0 : Int) ≤ (k : Int) := Int.natCast_nonneg _
  have s1 : IntKind.i64.wrap ((k : Int) + 1) = (k : Int) + 1 := IntWalk.i64_in _ (by omega)
  have s2 : (0 : Int) ≤ (k : Int) + 1 := by omega
  have s3 : ((k : Int) + 1).toNat = k + 1 := by omega
  have i1 : (k : Int) ≤ (n : Int) := by omega
  have i2 : (k : Int) + 1 ≤ (n : Int) := by omega
  have i3 : ¬ n = k + 1 := by omega
  have i4 : (k : Int) < (n : Int) := by omega
  have S1 := Lib.hid s1
  clear s1 s3
  have HBX : Hid (BoxB w1 w1.heap.size w.heap.size W (some ⟨g, 0, none⟩) n n zs) := BoxB.of HA.out
  have HD := boxDrew HA
  go_wp2_with (go_at_call 91; refine (l1In_any _ _ _ _).mono ?_; (first | rw [E1.out] | rw [E2.out] | rw [E3.out]); rintro e w' ⟨rfl, rfl⟩)
  have s1 := S1.out
  have s3 : ((k : Int) + 1).toNat = k + 1 := by omega
  go_region_held3 (fun w' => w'.cell? ⟨w.heap.size, 0, none⟩ = some (.int .i64 W) ∧ w'.cell? ⟨w.heap.size, 1, none⟩ = some (.slice (some ⟨g, 0, none⟩) n n))
    (first | exact ⟨HA.out.c0, HA.out.c1⟩ | exact ⟨H2.out.c0, H2.out.c1⟩ | exact ⟨H3.out.c0, H3.out.c1⟩ | exact ⟨farSet2 H3.out.c0 (by omega), farSet2 H3.out.c1 (by omega)⟩)
    (first
      | (go_at_call 88; refine (l1Own_any (some ⟨g, 0, none⟩) k n (zs.take k) _ (HD.out.ri.take (by omega)) (by omega)).mono ?_; rintro e w2 ⟨A2, c2, rfl, o2, hb⟩; have b2 : Hid (Below w1.heap.size w1 w2) := (Below.refl w1.heap.size w1).drew.trans hb; have O2 : Hid (OI w2 w1.heap.size A2 k c2 (zs.take k)) := o2; have H2 : Hid (BoxB w2 w1.heap.size w.heap.size W (some ⟨g, 0, none⟩) n n zs) := HBX.out.step b2.out; clear hb o2)
      | (refine step_append_ints _ rfl (.tmp 25) (.tmp 30) rfl w1.heap.size A2 k c2 (zs.take k) (some ⟨g, k + 1, none⟩) (n - (k + 1)) (n - (k + 1)) (zs.drop (k + 1)) rfl rfl O2.out (H2.out.rb.ri.drop' (k := k + 1) (by omega)) (by omega) (by omega) b2.out.size ?_; intro A3 c3 w3 ho3 hg3; have b3 : Hid (Below w1.heap.size w1 w3) := b2.out.trans (ofMark O2.out hg3 (Nat.le_refl _) b2.out.size); have H3 : Hid (BoxB w3 w1.heap.size w.heap.size W (some ⟨g, 0, none⟩) n n zs) := HBX.out.step b3.out; have O3 := Lib.hid ho3; have C3 := cellBelow HC (by simp; omega) b3.out; have k0 := C3.out.c0; have k1 := C3.out.c1; have f0 := C3.out.f0; have f1 := C3.out.f1; have cz3 := C3.out.lt; simp only [World.size_alloc] at k0 k1 f0 f1 cz3; clear ho3 hg3))
  have HB3 : Hid (Below w.heap.size w w3) := HB.out.trans (b3.out.mono HB.out.size)
  have O3' : Hid (OI w3 w1.heap.size A3 (takeL zs k).length c3 (takeL zs k)) := by have := O3.out; rw [HT.out, HTL.out] at this; exact this
  rw [← HTL.out] at O3'
  go_wp2
  exact bodyPost_ret (v := .tuple #[.agg #[.int .i64 W, .slice A3 (k + (n - (k + 1))) c3], .bool true]) (by simp [results, Try.results58, go_sem, k0, k1]) rfl
    ⟨A3, c3, rfl, ((O3'.out.setBelow (p := ⟨w.heap.size + 1, 0, none⟩) (by simp <;> omega) _).setBelow (p := ⟨w.heap.size + 1, 1, none⟩) (by simp <;> omega) _).mono (B' := w.heap.size) (by omega), (HB3.out.setCell (p := ⟨w.heap.size + 1, 0, none⟩) (by simp) _).setCell (p := ⟨w.heap.size + 1, 1, none⟩) (by simp) _⟩

set_option maxRecDepth 100000 in
set_option maxHeartbeats 4000000 in
theorem sTakeRung_last (W : Int) (g : Nat) (zs : List Int) (k : Nat) (w : World) (h : RI w (some ⟨g, 0, none⟩) (k + 1) zs) (hn : (k + 1) ≤ 60) (hq : lad W zs = true) :
    Calls Try.prog 58 #[.agg #[.int .i64 W, .slice (some ⟨g, 0, none⟩) (k + 1) (k + 1)], .int .i64 (k : Int)] w (FreshLB w W (takeL zs k).length (takeL zs k) true) := by
  have hzl := Lib.hid h.1
  have HW := Lib.hid hq
  have E1 : Hid (inB (k : Int) 0 (((k + 1) : Nat) - 1 : Int) = true) := inB_true (by omega)
  have E2 : Hid (inB (k : Int) 0 (k : Int) = true) := inB_true (by omega)
  have E3 : Hid (inB (k : Int) 0 ((k : Int) + 1 - 1) = true) := inB_true (by omega)
  have HT : Hid (zs.take k ++ [] = takeL zs k) := by show _ = _; unfold takeL; rw [List.drop_of_length_le (by rw [hzl.out]; exact Nat.le_refl _)]
  have HTL : Hid (k + 0 = (takeL zs k).length) := by show _ = _; rw [takeL_length _ _ (by rw [hzl.out]; omega), hzl.out]; omega
  clear hq
  rw [← HTL.out]
  go_enter Try.func58, Try.ntmps58
  go_wp2_with fail
  have HA := boxAlloc (boxNew (W := W) (c := (k + 1)) 27 h) (.cells #[.int .i64 0, .slice none 0 0] 27)
  have HB := belAlloc (belAlloc (belRefl (w := w)) (.cells #[.int .i64 W, .slice (some ⟨g, 0, none⟩) (k + 1) (k + 1)] 27)) (.cells #[.int .i64 0, .slice none 0 0] 27)
  have HC := cellNew (w.alloc (.cells #[.int .i64 W, .slice (some ⟨g, 0, none⟩) (k + 1) (k + 1)] 27)) (.int .i64 0) (.slice none 0 0) 27
  refine (laGood_any W (some ⟨g, 0, none⟩) (k + 1) (k + 1) zs _ HA.out.ri (by omega)).mono ?_
  rw [HW.out]
  rintro e w1 ⟨rfl, hb⟩
  replace HA := boxStep HA hb
  replace HB := belStep HB hb
  replace HC := cellStep HC hb
  have a0 := HA.out.c0; have a1 := HA.out.c1; have az := HA.out.lt
  have cz := HC.out.lt
  simp only [World.size_alloc] at cz
  clear hb h
  have i0 : (0 : Int) ≤ (k : Int) := Int.natCast_nonneg _
  have s1 : IntKind.i64.wrap ((k : Int) + 1) = (k : Int) + 1 := IntWalk.i64_in _ (by omega)
  have s2 : (0 : Int) ≤ (k : Int) + 1 := by omega
  have s3 : ((k : Int) + 1).toNat = k + 1 := by omega
  have i1 : (k : Int) ≤ (k : Int) + 1 := by omega
  have i4 : (k : Int) < (k : Int) + 1 := by omega
  have S1 := Lib.hid s1
  clear s1 s3
  have HBX : Hid (BoxB w1 w1.heap.size w.heap.size W (some ⟨g, 0, none⟩) (k + 1) (k + 1) zs) := BoxB.of HA.out
  have HD := boxDrew HA
  go_wp2_with (go_at_call 91; refine (l1In_any _ _ _ _).mono ?_; (first | rw [E1.out] | rw [E2.out] | rw [E3.out]); rintro e w' ⟨rfl, rfl⟩)
  have s1 := S1.out
  have s3 : ((k : Int) + 1).toNat = k + 1 := by omega
  go_region_held3 (fun w' => w'.cell? ⟨w.heap.size, 0, none⟩ = some (.int .i64 W) ∧ w'.cell? ⟨w.heap.size, 1, none⟩ = some (.slice (some ⟨g, 0, none⟩) (k + 1) (k + 1)))
    (first | exact ⟨HA.out.c0, HA.out.c1⟩ | exact ⟨H2.out.c0, H2.out.c1⟩ | exact ⟨H3.out.c0, H3.out.c1⟩ | exact ⟨farSet2 H3.out.c0 (by omega), farSet2 H3.out.c1 (by omega)⟩)
    (first
      | (go_at_call 88; refine (l1Own_any (some ⟨g, 0, none⟩) k (k + 1) (zs.take k) _ (HD.out.ri.take (by omega)) (by omega)).mono ?_; rintro e w2 ⟨A2, c2, rfl, o2, hb⟩; have b2 : Hid (Below w1.heap.size w1 w2) := (Below.refl w1.heap.size w1).drew.trans hb; have O2 : Hid (OI w2 w1.heap.size A2 k c2 (zs.take k)) := o2; have H2 : Hid (BoxB w2 w1.heap.size w.heap.size W (some ⟨g, 0, none⟩) (k + 1) (k + 1) zs) := HBX.out.step b2.out; clear hb o2)
      | (refine step_append_ints _ rfl (.tmp 25) (.tmp 30) rfl w1.heap.size A2 k c2 (zs.take k) (some ⟨g, 0, none⟩) 0 0 [] rfl rfl O2.out (RI.empty _ (some ⟨g, 0, none⟩)) (by omega) (by omega) b2.out.size ?_; intro A3 c3 w3 ho3 hg3; have b3 : Hid (Below w1.heap.size w1 w3) := b2.out.trans (ofMark O2.out hg3 (Nat.le_refl _) b2.out.size); have H3 : Hid (BoxB w3 w1.heap.size w.heap.size W (some ⟨g, 0, none⟩) (k + 1) (k + 1) zs) := HBX.out.step b3.out; have O3 := Lib.hid ho3; have C3 := cellBelow HC (by simp; omega) b3.out; have k0 := C3.out.c0; have k1 := C3.out.c1; have f0 := C3.out.f0; have f1 := C3.out.f1; have cz3 := C3.out.lt; simp only [World.size_alloc] at k0 k1 f0 f1 cz3; clear ho3 hg3))
  have HB3 : Hid (Below w.heap.size w w3) := HB.out.trans (b3.out.mono HB.out.size)
  have O3' : Hid (OI w3 w1.heap.size A3 (takeL zs k).length c3 (takeL zs k)) := by have := O3.out; rw [HT.out, HTL.out] at this; exact this
  rw [← HTL.out] at O3'
  go_wp2
  exact bodyPost_ret (v := .tuple #[.agg #[.int .i64 W, .slice A3 (k + 0) c3], .bool true]) (by simp [results, Try.results58, go_sem, k0, k1]) rfl
    ⟨A3, c3, rfl, ((O3'.out.setBelow (p := ⟨w.heap.size + 1, 0, none⟩) (by simp <;> omega) _).setBelow (p := ⟨w.heap.size + 1, 1, none⟩) (by simp <;> omega) _).mono (B' := w.heap.size) (by omega), (HB3.out.setCell (p := ⟨w.heap.size + 1, 0, none⟩) (by simp) _).setCell (p := ⟨w.heap.size + 1, 1, none⟩) (by simp) _⟩
end Go.Proofs.Ytioekhjokbbmlaa
