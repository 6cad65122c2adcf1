/- The law of BesideLadders, gone through: it returns true, and nothing that was there has turned. -/
import Derived.Test.YtmlkccihpkpjfaaMr5
import Derived.Test.YtmlkccihpkpjfaaMgC
import Derived.Test.YtmlkccihpkpjfaaLB
import Derived.Deep.RegionHeld3
import Derived.Deep.Cut
namespace Go.Proofs.Ytmlkccihpkpjfaa
open Go Go.RowKit

theorem addBox {w w1 : World} {b B n c : Nat} {u v : Value} {A : Option Addr} {zs : List Int} (hl : LB w b u v) (ho : OI w B A n c zs) (hb : Below B w1 w) (hB : B ≤ b) (U : Int) (c' : Nat) :
    Box ((w.setCell ⟨b, 0, none⟩ (.int .i64 U)).setCell ⟨b, 1, none⟩ (.slice A n c')) b U A n c' zs ∧ Below B w1 ((w.setCell ⟨b, 0, none⟩ (.int .i64 U)).setCell ⟨b, 1, none⟩ (.slice A n c')) := by
  obtain ⟨_, h1, h2, h3⟩ := addFin hl ho hb hB (.int .i64 U) (.slice A n c')
  exact ⟨⟨h1.cell2.c0, h1.cell2.c1, h2.ri, h1.lt⟩, h3⟩
theorem bxCall {w wi wj : World} {K bk b : Nat} {W V X : Int} {A A0 A1 : Option Addr} {n c m c0 n1 c1 : Nat} {zs ys xs : List Int} (s : Hid (St2 w wi K W A n c zs bk V A0 m c0 ys)) (h : Hid (BoxB wi K b X A1 n1 c1 xs)) (hb : Below wi.heap.size wi wj) : Hid (BoxB wj K b X A1 n1 c1 xs) := h.out.step (ofCall s.out.le' hb)
theorem drewB (wi : World) : Below wi.heap.size wi wi.drew := (Below.refl _ _).drew
theorem bxStep {wi wj : World} {K b : Nat} {X : Int} {A1 : Option Addr} {n1 c1 : Nat} {xs : List Int} (h : Hid (BoxB wi K b X A1 n1 c1 xs)) (hb : Below K wi wj) : Hid (BoxB wj K b X A1 n1 c1 xs) := h.out.step hb

set_option maxRecDepth 100000 in
set_option maxHeartbeats 16000000 in
theorem lawBesideLadders_of (W : Int) (A : Option Addr) (n c : Nat) (zs : List Int) (V : Int) (A' : Option Addr) (n' c' : Nat) (zs' : List Int) (w : World) (h : RI w A n zs) (h' : RI w A' n' zs') (hn2 : (n : Int) ≤ 1048576) (hn2' : (n' : Int) ≤ 1048576 - n) (U : Int) (m : Nat) (ys : List Int) (q : Bool) (hm3 : m ≤ 1048576)
    (hS : Hid (∀ (Aa : Option Addr) (ca : Nat) (Ab : Option Addr) (cb : Nat) (w2 : World), RI w2 Aa n zs → RI w2 Ab n' zs' → Calls Try.prog 25 #[.agg #[.int .i64 W, .slice Aa n ca], .agg #[.int .i64 V, .slice Ab n' cb]] w2 (FreshLB w2 U m ys q)))
    (hI : Hid (∀ (Aa : Option Addr) (ca : Nat) (Ab : Option Addr) (cb : Nat) (w2 : World), RI w2 Aa n zs → RI w2 Ab n' zs' → Calls Try.prog 26 #[.agg #[.int .i64 W, .slice Aa n ca], .agg #[.int .i64 V, .slice Ab n' cb]] w2 (FreshLB w2 U m ys q))) :
    Calls Try.prog 6 #[.agg #[.int .i64 W, .slice A n c], .agg #[.int .i64 V, .slice A' n' c']] w (RetB true w) := by
  have E := Lib.hid (szv_yes hn2).symm
  have E' := Lib.hid (szv_yes hn2').symm
  have hn : n ≤ 9223372036854775807 := by omega
  have hn3 : n ≤ 1048576 := by omega
  have hn' : n' ≤ 9223372036854775807 := by omega
  have hn3' : n' ≤ 1048576 := by omega
  have e0 : (q != q) = false := by simp
  have e2 : ((1 : Int) + (m : Int) != 1 + (m : Int)) = false := by simp
  go_enter Try.func6, Try.ntmps6
  go_wp2_with fail
  have HA := boxAlloc (boxNew (W := W) (c := c) 24 h) (.cells #[.int .i64 V, .slice A' n' c'] 24)
  have HD := boxNew (wi := w.alloc (.cells #[.int .i64 W, .slice A n c] 24)) (W := V) (c := c') 24 (h'.alloc _)
  have HB := belAlloc (belAlloc (belRefl (w := w)) (.cells #[.int .i64 W, .slice A n c] 24)) (.cells #[.int .i64 V, .slice A' n' c'] 24)
  refine (szLadder_any W A n c _ _ (by omega) (by omega) hn).mono ?_
  rw [E.out]
  rintro e w1 ⟨rfl, hb⟩
  replace HA := boxStep HA hb
  replace HD := boxStep HD hb
  replace HB := belStep HB hb
  simp only [World.size_alloc] at HD
  have a0 := HA.out.c0
  have a1 := HA.out.c1
  have az := HA.out.lt
  have y0 := HD.out.c0
  have y1 := HD.out.c1
  have yz := HD.out.lt
  clear hb h h'
  go_wp2_with fail
  refine (szLadder_any V A' n' c' _ _ (by omega) (by omega) hn').mono ?_
  rw [E'.out]
  rintro e w2 ⟨rfl, hb⟩
  replace HA := boxStep HA hb
  replace HD := boxStep HD hb
  replace HB := belStep HB hb
  replace a0 := HA.out.c0
  replace a1 := HA.out.c1
  replace az := HA.out.lt
  replace y0 := HD.out.c0
  replace y1 := HD.out.c1
  replace yz := HD.out.lt
  clear hb
  go_upto_region 8 with fail
  go_cut [6, 7] from 28 (fun s1 s2 wx => ∃ (bk : Nat) (A0 : Option Addr) (c0 : Nat), s1 = .pointer (some ⟨bk, 0, none⟩) ∧ s2 = .bool q ∧ Box wx bk U A0 m c0 ys ∧ Below w2.heap.size w2 wx)
  case first =>
    go_region_held3 (fun w' => w'.cell? ⟨w.heap.size, 0, none⟩ = some (.int .i64 W) ∧ w'.cell? ⟨w.heap.size, 1, none⟩ = some (.slice A n c) ∧ w'.cell? ⟨w.heap.size + 1, 0, none⟩ = some (.int .i64 V) ∧ w'.cell? ⟨w.heap.size + 1, 1, none⟩ = some (.slice A' n' c'))
      (exact ⟨((show Below w2.heap.size w2 _ from (by with_reducible first | exact hidOut (bvd) | exact hidOut (belAlloc (bvd) _) | exact hidOut (belAlloc (belAlloc (bvd) _) _) | exact hidOut (belDrew (bvd)) | exact hidOut (belDrew (belAlloc (bvd) _)) | exact hidOut (belDrew (belAlloc (belAlloc (bvd) _) _)) | exact hidOut (belAlloc (belDrew (bvd)) _) | exact hidOut (belAlloc (belAlloc (belDrew (bvd)) _) _) | exact hidOut (bvb) | exact hidOut (belAlloc (bvb) _) | exact hidOut (belAlloc (belAlloc (bvb) _) _) | exact hidOut (belDrew (bvb)) | exact hidOut (belDrew (belAlloc (bvb) _)) | exact hidOut (belDrew (belAlloc (belAlloc (bvb) _) _)) | exact hidOut (belAlloc (belDrew (bvb)) _) | exact hidOut (belAlloc (belAlloc (belDrew (bvb)) _) _) | exact hidOut (bva) | exact hidOut (belAlloc (bva) _) | exact hidOut (belAlloc (belAlloc (bva) _) _) | exact hidOut (belDrew (bva)) | exact hidOut (belDrew (belAlloc (bva) _)) | exact hidOut (belDrew (belAlloc (belAlloc (bva) _) _)) | exact hidOut (belAlloc (belDrew (bva)) _) | exact hidOut (belAlloc (belAlloc (belDrew (bva)) _) _) | exact hidOut (belRefl) | exact hidOut (belAlloc (belRefl) _) | exact hidOut (belAlloc (belAlloc (belRefl) _) _) | exact hidOut (belDrew (belRefl)) | exact hidOut (belDrew (belAlloc (belRefl) _)) | exact hidOut (belDrew (belAlloc (belAlloc (belRefl) _) _)) | exact hidOut (belAlloc (belDrew (belRefl)) _) | exact hidOut (belAlloc (belAlloc (belDrew (belRefl)) _) _) | exact ((bvd.out).setCell (p := ⟨w2.heap.size, 0, none⟩) (Nat.le_refl _) _).setCell (p := ⟨w2.heap.size, 1, none⟩) (Nat.le_refl _) _ | exact ((bvd.out).setCell (p := ⟨va.heap.size, 0, none⟩) sva _).setCell (p := ⟨va.heap.size, 1, none⟩) sva _ | exact ((bvd.out).setCell (p := ⟨vb.heap.size, 0, none⟩) svb _).setCell (p := ⟨vb.heap.size, 1, none⟩) svb _ | exact ((bvd.out).setCell (p := ⟨vd.heap.size, 0, none⟩) svd _).setCell (p := ⟨vd.heap.size, 1, none⟩) svd _)).cell (p := ⟨w.heap.size, 0, none⟩) az).trans a0, ((show Below w2.heap.size w2 _ from (by with_reducible first | exact hidOut (bvd) | exact hidOut (belAlloc (bvd) _) | exact hidOut (belAlloc (belAlloc (bvd) _) _) | exact hidOut (belDrew (bvd)) | exact hidOut (belDrew (belAlloc (bvd) _)) | exact hidOut (belDrew (belAlloc (belAlloc (bvd) _) _)) | exact hidOut (belAlloc (belDrew (bvd)) _) | exact hidOut (belAlloc (belAlloc (belDrew (bvd)) _) _) | exact hidOut (bvb) | exact hidOut (belAlloc (bvb) _) | exact hidOut (belAlloc (belAlloc (bvb) _) _) | exact hidOut (belDrew (bvb)) | exact hidOut (belDrew (belAlloc (bvb) _)) | exact hidOut (belDrew (belAlloc (belAlloc (bvb) _) _)) | exact hidOut (belAlloc (belDrew (bvb)) _) | exact hidOut (belAlloc (belAlloc (belDrew (bvb)) _) _) | exact hidOut (bva) | exact hidOut (belAlloc (bva) _) | exact hidOut (belAlloc (belAlloc (bva) _) _) | exact hidOut (belDrew (bva)) | exact hidOut (belDrew (belAlloc (bva) _)) | exact hidOut (belDrew (belAlloc (belAlloc (bva) _) _)) | exact hidOut (belAlloc (belDrew (bva)) _) | exact hidOut (belAlloc (belAlloc (belDrew (bva)) _) _) | exact hidOut (belRefl) | exact hidOut (belAlloc (belRefl) _) | exact hidOut (belAlloc (belAlloc (belRefl) _) _) | exact hidOut (belDrew (belRefl)) | exact hidOut (belDrew (belAlloc (belRefl) _)) | exact hidOut (belDrew (belAlloc (belAlloc (belRefl) _) _)) | exact hidOut (belAlloc (belDrew (belRefl)) _) | exact hidOut (belAlloc (belAlloc (belDrew (belRefl)) _) _) | exact ((bvd.out).setCell (p := ⟨w2.heap.size, 0, none⟩) (Nat.le_refl _) _).setCell (p := ⟨w2.heap.size, 1, none⟩) (Nat.le_refl _) _ | exact ((bvd.out).setCell (p := ⟨va.heap.size, 0, none⟩) sva _).setCell (p := ⟨va.heap.size, 1, none⟩) sva _ | exact ((bvd.out).setCell (p := ⟨vb.heap.size, 0, none⟩) svb _).setCell (p := ⟨vb.heap.size, 1, none⟩) svb _ | exact ((bvd.out).setCell (p := ⟨vd.heap.size, 0, none⟩) svd _).setCell (p := ⟨vd.heap.size, 1, none⟩) svd _)).cell (p := ⟨w.heap.size, 1, none⟩) az).trans a1, ((show Below w2.heap.size w2 _ from (by with_reducible first | exact hidOut (bvd) | exact hidOut (belAlloc (bvd) _) | exact hidOut (belAlloc (belAlloc (bvd) _) _) | exact hidOut (belDrew (bvd)) | exact hidOut (belDrew (belAlloc (bvd) _)) | exact hidOut (belDrew (belAlloc (belAlloc (bvd) _) _)) | exact hidOut (belAlloc (belDrew (bvd)) _) | exact hidOut (belAlloc (belAlloc (belDrew (bvd)) _) _) | exact hidOut (bvb) | exact hidOut (belAlloc (bvb) _) | exact hidOut (belAlloc (belAlloc (bvb) _) _) | exact hidOut (belDrew (bvb)) | exact hidOut (belDrew (belAlloc (bvb) _)) | exact hidOut (belDrew (belAlloc (belAlloc (bvb) _) _)) | exact hidOut (belAlloc (belDrew (bvb)) _) | exact hidOut (belAlloc (belAlloc (belDrew (bvb)) _) _) | exact hidOut (bva) | exact hidOut (belAlloc (bva) _) | exact hidOut (belAlloc (belAlloc (bva) _) _) | exact hidOut (belDrew (bva)) | exact hidOut (belDrew (belAlloc (bva) _)) | exact hidOut (belDrew (belAlloc (belAlloc (bva) _) _)) | exact hidOut (belAlloc (belDrew (bva)) _) | exact hidOut (belAlloc (belAlloc (belDrew (bva)) _) _) | exact hidOut (belRefl) | exact hidOut (belAlloc (belRefl) _) | exact hidOut (belAlloc (belAlloc (belRefl) _) _) | exact hidOut (belDrew (belRefl)) | exact hidOut (belDrew (belAlloc (belRefl) _)) | exact hidOut (belDrew (belAlloc (belAlloc (belRefl) _) _)) | exact hidOut (belAlloc (belDrew (belRefl)) _) | exact hidOut (belAlloc (belAlloc (belDrew (belRefl)) _) _) | exact ((bvd.out).setCell (p := ⟨w2.heap.size, 0, none⟩) (Nat.le_refl _) _).setCell (p := ⟨w2.heap.size, 1, none⟩) (Nat.le_refl _) _ | exact ((bvd.out).setCell (p := ⟨va.heap.size, 0, none⟩) sva _).setCell (p := ⟨va.heap.size, 1, none⟩) sva _ | exact ((bvd.out).setCell (p := ⟨vb.heap.size, 0, none⟩) svb _).setCell (p := ⟨vb.heap.size, 1, none⟩) svb _ | exact ((bvd.out).setCell (p := ⟨vd.heap.size, 0, none⟩) svd _).setCell (p := ⟨vd.heap.size, 1, none⟩) svd _)).cell (p := ⟨w.heap.size + 1, 0, none⟩) yz).trans y0, ((show Below w2.heap.size w2 _ from (by with_reducible first | exact hidOut (bvd) | exact hidOut (belAlloc (bvd) _) | exact hidOut (belAlloc (belAlloc (bvd) _) _) | exact hidOut (belDrew (bvd)) | exact hidOut (belDrew (belAlloc (bvd) _)) | exact hidOut (belDrew (belAlloc (belAlloc (bvd) _) _)) | exact hidOut (belAlloc (belDrew (bvd)) _) | exact hidOut (belAlloc (belAlloc (belDrew (bvd)) _) _) | exact hidOut (bvb) | exact hidOut (belAlloc (bvb) _) | exact hidOut (belAlloc (belAlloc (bvb) _) _) | exact hidOut (belDrew (bvb)) | exact hidOut (belDrew (belAlloc (bvb) _)) | exact hidOut (belDrew (belAlloc (belAlloc (bvb) _) _)) | exact hidOut (belAlloc (belDrew (bvb)) _) | exact hidOut (belAlloc (belAlloc (belDrew (bvb)) _) _) | exact hidOut (bva) | exact hidOut (belAlloc (bva) _) | exact hidOut (belAlloc (belAlloc (bva) _) _) | exact hidOut (belDrew (bva)) | exact hidOut (belDrew (belAlloc (bva) _)) | exact hidOut (belDrew (belAlloc (belAlloc (bva) _) _)) | exact hidOut (belAlloc (belDrew (bva)) _) | exact hidOut (belAlloc (belAlloc (belDrew (bva)) _) _) | exact hidOut (belRefl) | exact hidOut (belAlloc (belRefl) _) | exact hidOut (belAlloc (belAlloc (belRefl) _) _) | exact hidOut (belDrew (belRefl)) | exact hidOut (belDrew (belAlloc (belRefl) _)) | exact hidOut (belDrew (belAlloc (belAlloc (belRefl) _) _)) | exact hidOut (belAlloc (belDrew (belRefl)) _) | exact hidOut (belAlloc (belAlloc (belDrew (belRefl)) _) _) | exact ((bvd.out).setCell (p := ⟨w2.heap.size, 0, none⟩) (Nat.le_refl _) _).setCell (p := ⟨w2.heap.size, 1, none⟩) (Nat.le_refl _) _ | exact ((bvd.out).setCell (p := ⟨va.heap.size, 0, none⟩) sva _).setCell (p := ⟨va.heap.size, 1, none⟩) sva _ | exact ((bvd.out).setCell (p := ⟨vb.heap.size, 0, none⟩) svb _).setCell (p := ⟨vb.heap.size, 1, none⟩) svb _ | exact ((bvd.out).setCell (p := ⟨vd.heap.size, 0, none⟩) svd _).setCell (p := ⟨vd.heap.size, 1, none⟩) svd _)).cell (p := ⟨w.heap.size + 1, 1, none⟩) yz).trans y1⟩)
      (first
        | (go_at_call 13; have hx := Rb.out; clear hx; refine (toLadder_any V A' n' c' zs' _ (by with_reducible first | exact Rb.out | exact RI.alloc (Rb.out) _ | exact RI.alloc (RI.alloc (Rb.out) _) _ | exact RI.drewU (Rb.out) | exact RI.drewU (RI.alloc (Rb.out) _) | exact RI.drewU (RI.alloc (RI.alloc (Rb.out) _) _) | exact RI.alloc (RI.drewU (Rb.out)) _ | exact RI.alloc (RI.alloc (RI.drewU (Rb.out)) _) _) hn3').mono ?_; rintro e vb ⟨Ab, cb, rfl, ob, hb⟩; have bvb : Hid (Below w2.heap.size w2 vb) := (hidOut (show Hid (Below w2.heap.size w2 _) from (by with_reducible first | exact bva | exact belAlloc (bva) _ | exact belAlloc (belAlloc (bva) _) _ | exact belDrew (bva) | exact belDrew (belAlloc (bva) _) | exact belDrew (belAlloc (belAlloc (bva) _) _) | exact belAlloc (belDrew (bva)) _ | exact belAlloc (belAlloc (belDrew (bva)) _) _))).trans (hb.mono (by first | omega | (simp; done) | (simp; omega))); have svb := bvb.out.size; have Ob : Hid (OI vb w2.heap.size Ab n' cb zs') := ob.mono (by first | omega | (simp; done) | (simp; omega)); have Oab : Hid (OI vb w2.heap.size Aa n ca zs) := OI.below (by with_reducible first | exact Oa.out | exact OI.alloc (Oa.out) _ | exact OI.alloc (OI.alloc (Oa.out) _) _ | exact OI.drewU (Oa.out) | exact OI.drewU (OI.alloc (Oa.out) _) | exact OI.drewU (OI.alloc (OI.alloc (Oa.out) _) _) | exact OI.alloc (OI.drewU (Oa.out)) _ | exact OI.alloc (OI.alloc (OI.drewU (Oa.out)) _) _) hb; (first | (have Lb : Hid (LB vb w2.heap.size (.int .i64 0) (.slice none 0 0)) := LB.below (by with_reducible first | exact La.out | exact LB.alloc (La.out) _ | exact LB.alloc (LB.alloc (La.out) _) _ | exact LB.drewU (La.out) | exact LB.drewU (LB.alloc (La.out) _) | exact LB.drewU (LB.alloc (LB.alloc (La.out) _) _) | exact LB.alloc (LB.drewU (La.out)) _ | exact LB.alloc (LB.alloc (LB.drewU (La.out)) _) _ | exact (LB.new va _ _) | exact LB.alloc ((LB.new va _ _)) _ | exact LB.alloc (LB.alloc ((LB.new va _ _)) _) _ | exact LB.drewU ((LB.new va _ _)) | exact LB.drewU (LB.alloc ((LB.new va _ _)) _) | exact LB.drewU (LB.alloc (LB.alloc ((LB.new va _ _)) _) _) | exact LB.alloc (LB.drewU ((LB.new va _ _))) _ | exact LB.alloc (LB.alloc (LB.drewU ((LB.new va _ _))) _) _) hb) | (have Lb : Hid (LB vb va.heap.size (.int .i64 0) (.slice none 0 0)) := LB.below (by with_reducible first | exact La.out | exact LB.alloc (La.out) _ | exact LB.alloc (LB.alloc (La.out) _) _ | exact LB.drewU (La.out) | exact LB.drewU (LB.alloc (La.out) _) | exact LB.drewU (LB.alloc (LB.alloc (La.out) _) _) | exact LB.alloc (LB.drewU (La.out)) _ | exact LB.alloc (LB.alloc (LB.drewU (La.out)) _) _ | exact (LB.new va _ _) | exact LB.alloc ((LB.new va _ _)) _ | exact LB.alloc (LB.alloc ((LB.new va _ _)) _) _ | exact LB.drewU ((LB.new va _ _)) | exact LB.drewU (LB.alloc ((LB.new va _ _)) _) | exact LB.drewU (LB.alloc (LB.alloc ((LB.new va _ _)) _) _) | exact LB.alloc (LB.drewU ((LB.new va _ _))) _ | exact LB.alloc (LB.alloc (LB.drewU ((LB.new va _ _))) _) _) hb) | skip); clear hb ob)
        | (go_at_call 13; refine (toLadder_any W A n c zs _ (by with_reducible first | exact HA.out.ri | exact RI.alloc (HA.out.ri) _ | exact RI.alloc (RI.alloc (HA.out.ri) _) _ | exact RI.drewU (HA.out.ri) | exact RI.drewU (RI.alloc (HA.out.ri) _) | exact RI.drewU (RI.alloc (RI.alloc (HA.out.ri) _) _) | exact RI.alloc (RI.drewU (HA.out.ri)) _ | exact RI.alloc (RI.alloc (RI.drewU (HA.out.ri)) _) _) hn3).mono ?_; rintro e va ⟨Aa, ca, rfl, oa, hb⟩; have bva : Hid (Below w2.heap.size w2 va) := (hidOut (show Hid (Below w2.heap.size w2 _) from (by with_reducible first | exact belRefl | exact belAlloc (belRefl) _ | exact belAlloc (belAlloc (belRefl) _) _ | exact belDrew (belRefl) | exact belDrew (belAlloc (belRefl) _) | exact belDrew (belAlloc (belAlloc (belRefl) _) _) | exact belAlloc (belDrew (belRefl)) _ | exact belAlloc (belAlloc (belDrew (belRefl)) _) _))).trans (hb.mono (by first | omega | (simp; done) | (simp; omega))); have sva := bva.out.size; have Oa : Hid (OI va w2.heap.size Aa n ca zs) := oa.mono (by first | omega | (simp; done) | (simp; omega)); have Rb : Hid (RI va A' n' zs') := RI.below HD.out.ri bva.out (Nat.le_refl _); (first | (have La : Hid (LB va w2.heap.size (.int .i64 0) (.slice none 0 0)) := LB.below (by with_reducible first | exact (LB.new w2 _ _) | exact LB.alloc ((LB.new w2 _ _)) _ | exact LB.alloc (LB.alloc ((LB.new w2 _ _)) _) _ | exact LB.drewU ((LB.new w2 _ _)) | exact LB.drewU (LB.alloc ((LB.new w2 _ _)) _) | exact LB.drewU (LB.alloc (LB.alloc ((LB.new w2 _ _)) _) _) | exact LB.alloc (LB.drewU ((LB.new w2 _ _))) _ | exact LB.alloc (LB.alloc (LB.drewU ((LB.new w2 _ _))) _) _) hb) | skip); clear hb oa)
        | (go_at_call 25; refine (hS.out Aa ca Ab cb _ (by with_reducible first | exact Oab.out.ri | exact RI.alloc (Oab.out.ri) _ | exact RI.alloc (RI.alloc (Oab.out.ri) _) _ | exact RI.drewU (Oab.out.ri) | exact RI.drewU (RI.alloc (Oab.out.ri) _) | exact RI.drewU (RI.alloc (RI.alloc (Oab.out.ri) _) _) | exact RI.alloc (RI.drewU (Oab.out.ri)) _ | exact RI.alloc (RI.alloc (RI.drewU (Oab.out.ri)) _) _) (by with_reducible first | exact Ob.out.ri | exact RI.alloc (Ob.out.ri) _ | exact RI.alloc (RI.alloc (Ob.out.ri) _) _ | exact RI.drewU (Ob.out.ri) | exact RI.drewU (RI.alloc (Ob.out.ri) _) | exact RI.drewU (RI.alloc (RI.alloc (Ob.out.ri) _) _) | exact RI.alloc (RI.drewU (Ob.out.ri)) _ | exact RI.alloc (RI.alloc (RI.drewU (Ob.out.ri)) _) _)).mono ?_; rintro e vd ⟨Ad, cd, rfl, od, hb⟩; have bvd : Hid (Below w2.heap.size w2 vd) := (hidOut (show Hid (Below w2.heap.size w2 _) from (by with_reducible first | exact bvb | exact belAlloc (bvb) _ | exact belAlloc (belAlloc (bvb) _) _ | exact belDrew (bvb) | exact belDrew (belAlloc (bvb) _) | exact belDrew (belAlloc (belAlloc (bvb) _) _) | exact belAlloc (belDrew (bvb)) _ | exact belAlloc (belAlloc (belDrew (bvb)) _) _))).trans (hb.mono (by first | omega | (simp; done) | (simp; omega))); have svd := bvd.out.size; have Od : Hid (OI vd w2.heap.size Ad m cd ys) := od.mono (by first | omega | (simp; done) | (simp; omega)); (first | (have Ld : Hid (LB vd w2.heap.size (.int .i64 0) (.slice none 0 0)) := LB.below (by with_reducible first | exact Lb.out | exact LB.alloc (Lb.out) _ | exact LB.alloc (LB.alloc (Lb.out) _) _ | exact LB.drewU (Lb.out) | exact LB.drewU (LB.alloc (Lb.out) _) | exact LB.drewU (LB.alloc (LB.alloc (Lb.out) _) _) | exact LB.alloc (LB.drewU (Lb.out)) _ | exact LB.alloc (LB.alloc (LB.drewU (Lb.out)) _) _ | exact (LB.new vb _ _) | exact LB.alloc ((LB.new vb _ _)) _ | exact LB.alloc (LB.alloc ((LB.new vb _ _)) _) _ | exact LB.drewU ((LB.new vb _ _)) | exact LB.drewU (LB.alloc ((LB.new vb _ _)) _) | exact LB.drewU (LB.alloc (LB.alloc ((LB.new vb _ _)) _) _) | exact LB.alloc (LB.drewU ((LB.new vb _ _))) _ | exact LB.alloc (LB.alloc (LB.drewU ((LB.new vb _ _))) _) _) hb; have l0 := Ld.out.cell2.c0; have l1 := Ld.out.cell2.c1; have l2 := Ld.out.cell2.f0; have l3 := Ld.out.cell2.f1) | (have Ld : Hid (LB vd va.heap.size (.int .i64 0) (.slice none 0 0)) := LB.below (by with_reducible first | exact Lb.out | exact LB.alloc (Lb.out) _ | exact LB.alloc (LB.alloc (Lb.out) _) _ | exact LB.drewU (Lb.out) | exact LB.drewU (LB.alloc (Lb.out) _) | exact LB.drewU (LB.alloc (LB.alloc (Lb.out) _) _) | exact LB.alloc (LB.drewU (Lb.out)) _ | exact LB.alloc (LB.alloc (LB.drewU (Lb.out)) _) _ | exact (LB.new vb _ _) | exact LB.alloc ((LB.new vb _ _)) _ | exact LB.alloc (LB.alloc ((LB.new vb _ _)) _) _ | exact LB.drewU ((LB.new vb _ _)) | exact LB.drewU (LB.alloc ((LB.new vb _ _)) _) | exact LB.drewU (LB.alloc (LB.alloc ((LB.new vb _ _)) _) _) | exact LB.alloc (LB.drewU ((LB.new vb _ _))) _ | exact LB.alloc (LB.alloc (LB.drewU ((LB.new vb _ _))) _) _) hb; have l0 := Ld.out.cell2.c0; have l1 := Ld.out.cell2.c1; have l2 := Ld.out.cell2.f0; have l3 := Ld.out.cell2.f1) | (have Ld : Hid (LB vd vb.heap.size (.int .i64 0) (.slice none 0 0)) := LB.below (by with_reducible first | exact Lb.out | exact LB.alloc (Lb.out) _ | exact LB.alloc (LB.alloc (Lb.out) _) _ | exact LB.drewU (Lb.out) | exact LB.drewU (LB.alloc (Lb.out) _) | exact LB.drewU (LB.alloc (LB.alloc (Lb.out) _) _) | exact LB.alloc (LB.drewU (Lb.out)) _ | exact LB.alloc (LB.alloc (LB.drewU (Lb.out)) _) _ | exact (LB.new vb _ _) | exact LB.alloc ((LB.new vb _ _)) _ | exact LB.alloc (LB.alloc ((LB.new vb _ _)) _) _ | exact LB.drewU ((LB.new vb _ _)) | exact LB.drewU (LB.alloc ((LB.new vb _ _)) _) | exact LB.drewU (LB.alloc (LB.alloc ((LB.new vb _ _)) _) _) | exact LB.alloc (LB.drewU ((LB.new vb _ _))) _ | exact LB.alloc (LB.alloc (LB.drewU ((LB.new vb _ _))) _) _) hb; have l0 := Ld.out.cell2.c0; have l1 := Ld.out.cell2.c1; have l2 := Ld.out.cell2.f0; have l3 := Ld.out.cell2.f1) | skip); clear hb od))
    all_goals
      go_wp2
      go_meet
      case rel =>
        (first
          | with_reducible exact ⟨_, Ad, cd, rfl, rfl, addBox Ld.out Od.out bvd.out (Nat.le_refl _) _ _⟩
          | with_reducible exact ⟨_, Ad, cd, rfl, rfl, addBox Ld.out Od.out bvd.out sva _ _⟩
          | with_reducible exact ⟨_, Ad, cd, rfl, rfl, addBox Ld.out Od.out bvd.out svb _ _⟩
          | with_reducible exact ⟨_, Ad, cd, rfl, rfl, ⟨(LB.new vd _ _).cell2.c0, (LB.new vd _ _).cell2.c1, (OI.alloc Od.out _).ri, (LB.new vd _ _).lt⟩, (belAlloc bvd _).out⟩)
  case rest =>
    obtain ⟨bk, A0, c0, rfl, rfl, hbox, hbl⟩ := hcut
    obtain ⟨v0, hv0⟩ : ∃ v : World, v = wc := ⟨_, rfl⟩
    subst hv0
    replace HB := belStep HB hbl
    replace HA := boxStep HA hbl
    replace HD := boxStep HD hbl
    have hKz := HB.out.size
    have ST : Hid (St2 w v0 v0.heap.size W A n c zs bk U A0 m c0 ys) := ⟨BoxB.of HA.out, BoxB.of hbox, HB.out, hKz, Nat.le_refl _⟩
    have HY : Hid (BoxB v0 v0.heap.size (w.heap.size + 1) V A' n' c' zs') := BoxB.of HD.out
    obtain ⟨K, hK⟩ : ∃ K, K = v0.heap.size := ⟨_, rfl⟩
    rw [← hK] at ST HY
    have HK := Lib.hid hK
    clear HA HD HB hbox hbl hK hKz
    replace a0 := ST.out.box.c0
    replace a1 := ST.out.box.c1
    replace az := Nat.lt_of_lt_of_le ST.out.box.lt ST.out.le'
    have r0 := ST.out.ans.c0
    have r1 := ST.out.ans.c1
    have rz := Nat.lt_of_lt_of_le ST.out.ans.lt ST.out.le'
    replace y0 := HY.out.c0
    replace y1 := HY.out.c1
    replace yz := Nat.lt_of_lt_of_le HY.out.lt ST.out.le'
    go_wp2_with fail
    refine (toLadder_any W A n c zs _ ST.out.box.rb.ri hn3).mono ?_
    rintro e w4 ⟨A4, c4, rfl, o4, hb⟩
    have HL4 := blkLt o4
    have H34 : Hid (K ≤ w4.heap.size) := by show K ≤ w4.heap.size; rw [HK.out]; exact hb.size
    have HO0 : Hid (OI w4 K A4 n c4 zs) := by show OI _ K A4 n c4 zs; rw [HK.out]; exact o4
    replace HY := bxCall ST HY hb
    replace ST := st2Call ST hb
    replace a0 := ST.out.box.c0
    replace a1 := ST.out.box.c1
    replace az := Nat.lt_of_lt_of_le ST.out.box.lt ST.out.le'
    replace r0 := ST.out.ans.c0
    replace r1 := ST.out.ans.c1
    replace rz := Nat.lt_of_lt_of_le ST.out.ans.lt ST.out.le'
    replace y0 := HY.out.c0
    replace y1 := HY.out.c1
    replace yz := Nat.lt_of_lt_of_le HY.out.lt ST.out.le'
    clear o4 hb
    go_wp2_with fail
    have HC0 := cellNew w4 (.int .i64 W) (.slice A4 n c4) 26
    replace HY := bxCall ST HY ((Below.refl _ _).alloc (Nat.le_refl _) (.cells #[.int .i64 W, .slice A4 n c4] 26))
    replace ST := st2Alloc ST (.cells #[.int .i64 W, .slice A4 n c4] 26)
    replace HO0 := oiAlloc HO0 (.cells #[.int .i64 W, .slice A4 n c4] 26)
    replace a0 := ST.out.box.c0
    replace a1 := ST.out.box.c1
    replace az := Nat.lt_of_lt_of_le ST.out.box.lt ST.out.le'
    replace r0 := ST.out.ans.c0
    replace r1 := ST.out.ans.c1
    replace rz := Nat.lt_of_lt_of_le ST.out.ans.lt ST.out.le'
    replace y0 := HY.out.c0
    replace y1 := HY.out.c1
    replace yz := Nat.lt_of_lt_of_le HY.out.lt ST.out.le'
    replace a0 := ST.out.box.c0
    replace a1 := ST.out.box.c1
    replace az := Nat.lt_of_lt_of_le ST.out.box.lt ST.out.le'
    replace r0 := ST.out.ans.c0
    replace r1 := ST.out.ans.c1
    replace rz := Nat.lt_of_lt_of_le ST.out.ans.lt ST.out.le'
    replace y0 := HY.out.c0
    replace y1 := HY.out.c1
    replace yz := Nat.lt_of_lt_of_le HY.out.lt ST.out.le'
    have x0 := HC0.out.c0
    have x1 := HC0.out.c1
    have xz := HC0.out.lt
    refine (toLadder_any V A' n' c' zs' _ HY.out.rb.ri hn3').mono ?_
    rintro e w5 ⟨A5, c5, rfl, o5, hb⟩
    have HL5 := blkLt o5
    have H45 : Hid (w4.heap.size + 1 ≤ w5.heap.size) := by have := hb.size; rw [World.size_alloc] at this; exact this
    have HO1 : Hid (OI w5 (w4.heap.size + 1) A5 n' c5 zs') := by have := o5; rw [World.size_alloc] at this; exact this
    replace HY := bxCall ST HY hb
    replace ST := st2Call ST hb
    replace HC0 := cellStep HC0 hb
    replace HO0 := oiStep HO0 hb
    replace a0 := ST.out.box.c0
    replace a1 := ST.out.box.c1
    replace az := Nat.lt_of_lt_of_le ST.out.box.lt ST.out.le'
    replace r0 := ST.out.ans.c0
    replace r1 := ST.out.ans.c1
    replace rz := Nat.lt_of_lt_of_le ST.out.ans.lt ST.out.le'
    replace y0 := HY.out.c0
    replace y1 := HY.out.c1
    replace yz := Nat.lt_of_lt_of_le HY.out.lt ST.out.le'
    replace x0 := HC0.out.c0
    replace x1 := HC0.out.c1
    replace xz := HC0.out.lt
    clear o5 hb
    go_wp2_with fail
    have HC1 := cellNew w5 (.int .i64 V) (.slice A5 n' c5) 26
    replace HY := bxCall ST HY ((Below.refl _ _).alloc (Nat.le_refl _) (.cells #[.int .i64 V, .slice A5 n' c5] 26))
    replace ST := st2Alloc ST (.cells #[.int .i64 V, .slice A5 n' c5] 26)
    replace HC0 := cellAlloc HC0 (.cells #[.int .i64 V, .slice A5 n' c5] 26)
    replace HO0 := oiAlloc HO0 (.cells #[.int .i64 V, .slice A5 n' c5] 26)
    replace HO1 := oiAlloc HO1 (.cells #[.int .i64 V, .slice A5 n' c5] 26)
    replace a0 := ST.out.box.c0
    replace a1 := ST.out.box.c1
    replace az := Nat.lt_of_lt_of_le ST.out.box.lt ST.out.le'
    replace r0 := ST.out.ans.c0
    replace r1 := ST.out.ans.c1
    replace rz := Nat.lt_of_lt_of_le ST.out.ans.lt ST.out.le'
    replace y0 := HY.out.c0
    replace y1 := HY.out.c1
    replace yz := Nat.lt_of_lt_of_le HY.out.lt ST.out.le'
    replace x0 := HC0.out.c0
    replace x1 := HC0.out.c1
    replace xz := HC0.out.lt
    replace a0 := ST.out.box.c0
    replace a1 := ST.out.box.c1
    replace az := Nat.lt_of_lt_of_le ST.out.box.lt ST.out.le'
    replace r0 := ST.out.ans.c0
    replace r1 := ST.out.ans.c1
    replace rz := Nat.lt_of_lt_of_le ST.out.ans.lt ST.out.le'
    replace y0 := HY.out.c0
    replace y1 := HY.out.c1
    replace yz := Nat.lt_of_lt_of_le HY.out.lt ST.out.le'
    replace x0 := HC0.out.c0
    replace x1 := HC0.out.c1
    replace xz := HC0.out.lt
    have z0 := HC1.out.c0
    have z1 := HC1.out.c1
    have zz := HC1.out.lt
    refine (hI.out A4 c4 A5 c5 _ HO0.out.ri HO1.out.ri).mono ?_
    rintro e w6 ⟨A9, c9, rfl, o9, hb⟩
    have HL9 := blkLt o9
    have H56 : Hid (w5.heap.size + 1 ≤ w6.heap.size) := by have := hb.size; rw [World.size_alloc] at this; exact this
    have HN : Hid (OI w6 (w5.heap.size + 1) A9 m c9 ys) := by have := o9; rw [World.size_alloc] at this; exact this
    replace HY := bxCall ST HY hb
    replace ST := st2Call ST hb
    replace HC0 := cellStep HC0 hb
    replace HC1 := cellStep HC1 hb
    replace HO0 := oiStep HO0 hb
    replace HO1 := oiStep HO1 hb
    replace a0 := ST.out.box.c0
    replace a1 := ST.out.box.c1
    replace az := Nat.lt_of_lt_of_le ST.out.box.lt ST.out.le'
    replace r0 := ST.out.ans.c0
    replace r1 := ST.out.ans.c1
    replace rz := Nat.lt_of_lt_of_le ST.out.ans.lt ST.out.le'
    replace y0 := HY.out.c0
    replace y1 := HY.out.c1
    replace yz := Nat.lt_of_lt_of_le HY.out.lt ST.out.le'
    replace x0 := HC0.out.c0
    replace x1 := HC0.out.c1
    replace xz := HC0.out.lt
    replace z0 := HC1.out.c0
    replace z1 := HC1.out.c1
    replace zz := HC1.out.lt
    clear o9 hb
    go_wp2_with fail
    have HG := cellNew w6 (.int .i64 U) (.slice A9 m c9) 26
    replace HY := bxCall ST HY ((Below.refl _ _).alloc (Nat.le_refl _) (.cells #[.int .i64 U, .slice A9 m c9] 26))
    replace ST := st2Alloc ST (.cells #[.int .i64 U, .slice A9 m c9] 26)
    replace HC0 := cellAlloc HC0 (.cells #[.int .i64 U, .slice A9 m c9] 26)
    replace HC1 := cellAlloc HC1 (.cells #[.int .i64 U, .slice A9 m c9] 26)
    replace HO0 := oiAlloc HO0 (.cells #[.int .i64 U, .slice A9 m c9] 26)
    replace HO1 := oiAlloc HO1 (.cells #[.int .i64 U, .slice A9 m c9] 26)
    replace HN := oiAlloc HN (.cells #[.int .i64 U, .slice A9 m c9] 26)
    replace a0 := ST.out.box.c0
    replace a1 := ST.out.box.c1
    replace az := Nat.lt_of_lt_of_le ST.out.box.lt ST.out.le'
    replace r0 := ST.out.ans.c0
    replace r1 := ST.out.ans.c1
    replace rz := Nat.lt_of_lt_of_le ST.out.ans.lt ST.out.le'
    replace y0 := HY.out.c0
    replace y1 := HY.out.c1
    replace yz := Nat.lt_of_lt_of_le HY.out.lt ST.out.le'
    replace x0 := HC0.out.c0
    replace x1 := HC0.out.c1
    replace xz := HC0.out.lt
    replace z0 := HC1.out.c0
    replace z1 := HC1.out.c1
    replace zz := HC1.out.lt
    replace a0 := ST.out.box.c0
    replace a1 := ST.out.box.c1
    replace az := Nat.lt_of_lt_of_le ST.out.box.lt ST.out.le'
    replace r0 := ST.out.ans.c0
    replace r1 := ST.out.ans.c1
    replace rz := Nat.lt_of_lt_of_le ST.out.ans.lt ST.out.le'
    replace y0 := HY.out.c0
    replace y1 := HY.out.c1
    replace yz := Nat.lt_of_lt_of_le HY.out.lt ST.out.le'
    replace x0 := HC0.out.c0
    replace x1 := HC0.out.c1
    replace xz := HC0.out.lt
    replace z0 := HC1.out.c0
    replace z1 := HC1.out.c1
    replace zz := HC1.out.lt
    have g0 := HG.out.c0
    have g1 := HG.out.c1
    have gz := HG.out.lt
    refine (eqLadder_any U A9 m c9 ys U A0 m c0 ys _ HN.out.ri ST.out.ans.rb.ri hm3 hm3).mono ?_
    rw [(eqSelf U ys).out]
    rintro e w7 ⟨rfl, hb⟩
    replace HY := bxCall ST HY hb
    replace ST := st2Call ST hb
    replace HC0 := cellStep HC0 hb
    replace HC1 := cellStep HC1 hb
    replace HG := cellStep HG hb
    replace HO0 := oiStep HO0 hb
    replace HO1 := oiStep HO1 hb
    replace HN := oiStep HN hb
    replace a0 := ST.out.box.c0
    replace a1 := ST.out.box.c1
    replace az := Nat.lt_of_lt_of_le ST.out.box.lt ST.out.le'
    replace r0 := ST.out.ans.c0
    replace r1 := ST.out.ans.c1
    replace rz := Nat.lt_of_lt_of_le ST.out.ans.lt ST.out.le'
    replace y0 := HY.out.c0
    replace y1 := HY.out.c1
    replace yz := Nat.lt_of_lt_of_le HY.out.lt ST.out.le'
    replace x0 := HC0.out.c0
    replace x1 := HC0.out.c1
    replace xz := HC0.out.lt
    replace z0 := HC1.out.c0
    replace z1 := HC1.out.c1
    replace zz := HC1.out.lt
    replace g0 := HG.out.c0
    replace g1 := HG.out.c1
    replace gz := HG.out.lt
    clear hb
    go_upto_region 14 with fail
    have SD := st2Drew ST; have YD := bxCall ST HY (drewB _); have D0 := cellDrew HC0; have D1 := cellDrew HC1; have DG := cellDrew HG; have DO0 := oiDrew HO0; have DO1 := oiDrew HO1; have DN := oiDrew HN
    go_region_held3 (fun w' => w'.cell? ⟨w4.heap.size, 0, none⟩ = some (.int .i64 W) ∧ w'.cell? ⟨w4.heap.size, 1, none⟩ = some (.slice A4 n c4) ∧ w'.cell? ⟨w.heap.size, 0, none⟩ = some (.int .i64 W) ∧ w'.cell? ⟨w.heap.size, 1, none⟩ = some (.slice A n c))
      (first | exact ⟨HC0.out.c0, HC0.out.c1, ST.out.box.c0, ST.out.box.c1⟩ | exact ⟨D0.out.c0, D0.out.c1, SD.out.box.c0, SD.out.box.c1⟩ | exact ⟨T0.out.c0, T0.out.c1, S7.out.box.c0, S7.out.box.c1⟩ | exact ⟨U0.out.c0, U0.out.c1, S8.out.box.c0, S8.out.box.c1⟩)
      (first
        | (go_at_call 13; refine (toLadder_any W A n c zs _ SD.out.box.rb.ri hn3).mono ?_; rintro e w7a ⟨A7, c7, rfl, o7, hb⟩; have Y7 := bxCall SD YD hb; have S7 := st2Call SD hb; have T0 := cellStep D0 hb; have T1 := cellStep D1 hb; have TG := cellStep DG hb; have TO0 := oiStep DO0 hb; have TO1 := oiStep DO1 hb; have TN := oiStep DN hb; clear hb)
        | (go_at_call 15; refine (eqLadder_any W A4 n c4 zs W A7 n c7 zs _ TO0.out.ri o7.ri hn3 hn3).mono ?_; rw [(eqSelf W zs).out]; rintro e w8a ⟨rfl, hb⟩; have Y8 := bxCall S7 Y7 hb; have S8 := st2Call S7 hb; have U0 := cellStep T0 hb; have U1 := cellStep T1 hb; have UG := cellStep TG hb; have UO0 := oiStep TO0 hb; have UO1 := oiStep TO1 hb; have UN := oiStep TN hb; clear hb))
    replace ST := S8; replace HY := Y8; replace HC0 := U0; replace HC1 := U1; replace HG := UG; replace HO0 := UO0; replace HO1 := UO1; replace HN := UN
    clear o7 SD YD D0 D1 DG DO0 DO1 DN S7 Y7 T0 T1 TG TO0 TO1 TN S8 Y8 U0 U1 UG UO0 UO1 UN
    clear a0 a1 az g0 g1 gz r0 r1 rz x0 x1 xz y0 y1 yz z0 z1 zz
    have a0 := ST.out.box.c0
    have a1 := ST.out.box.c1
    have az := Nat.lt_of_lt_of_le ST.out.box.lt ST.out.le'
    have r0 := ST.out.ans.c0
    have r1 := ST.out.ans.c1
    have rz := Nat.lt_of_lt_of_le ST.out.ans.lt ST.out.le'
    have y0 := HY.out.c0
    have y1 := HY.out.c1
    have yz := Nat.lt_of_lt_of_le HY.out.lt ST.out.le'
    have x0 := HC0.out.c0
    have x1 := HC0.out.c1
    have xz := HC0.out.lt
    have z0 := HC1.out.c0
    have z1 := HC1.out.c1
    have zz := HC1.out.lt
    have g0 := HG.out.c0
    have g1 := HG.out.c1
    have gz := HG.out.lt
    go_upto_region 16 with fail
    have SD := st2Drew ST; have YD := bxCall ST HY (drewB _); have D0 := cellDrew HC0; have D1 := cellDrew HC1; have DG := cellDrew HG; have DO0 := oiDrew HO0; have DO1 := oiDrew HO1; have DN := oiDrew HN
    go_region_held3 (fun w' => w'.cell? ⟨w5.heap.size, 0, none⟩ = some (.int .i64 V) ∧ w'.cell? ⟨w5.heap.size, 1, none⟩ = some (.slice A5 n' c5) ∧ w'.cell? ⟨w.heap.size + 1, 0, none⟩ = some (.int .i64 V) ∧ w'.cell? ⟨w.heap.size + 1, 1, none⟩ = some (.slice A' n' c'))
      (first | exact ⟨HC1.out.c0, HC1.out.c1, HY.out.c0, HY.out.c1⟩ | exact ⟨D1.out.c0, D1.out.c1, YD.out.c0, YD.out.c1⟩ | exact ⟨T1.out.c0, T1.out.c1, Y7.out.c0, Y7.out.c1⟩ | exact ⟨U1.out.c0, U1.out.c1, Y8.out.c0, Y8.out.c1⟩)
      (first
        | (go_at_call 13; refine (toLadder_any V A' n' c' zs' _ YD.out.rb.ri hn3').mono ?_; rintro e w7b ⟨A7, c7, rfl, o7, hb⟩; have Y7 := bxCall SD YD hb; have S7 := st2Call SD hb; have T0 := cellStep D0 hb; have T1 := cellStep D1 hb; have TG := cellStep DG hb; have TO0 := oiStep DO0 hb; have TO1 := oiStep DO1 hb; have TN := oiStep DN hb; clear hb)
        | (go_at_call 15; refine (eqLadder_any V A5 n' c5 zs' V A7 n' c7 zs' _ TO1.out.ri o7.ri hn3' hn3').mono ?_; rw [(eqSelf V zs').out]; rintro e w8b ⟨rfl, hb⟩; have Y8 := bxCall S7 Y7 hb; have S8 := st2Call S7 hb; have U0 := cellStep T0 hb; have U1 := cellStep T1 hb; have UG := cellStep TG hb; have UO0 := oiStep TO0 hb; have UO1 := oiStep TO1 hb; have UN := oiStep TN hb; clear hb))
    replace ST := S8; replace HY := Y8; replace HC0 := U0; replace HC1 := U1; replace HG := UG; replace HO0 := UO0; replace HO1 := UO1; replace HN := UN
    clear o7 SD YD D0 D1 DG DO0 DO1 DN S7 Y7 T0 T1 TG TO0 TO1 TN S8 Y8 U0 U1 UG UO0 UO1 UN
    clear a0 a1 az g0 g1 gz r0 r1 rz x0 x1 xz y0 y1 yz z0 z1 zz
    have a0 := ST.out.box.c0
    have a1 := ST.out.box.c1
    have az := Nat.lt_of_lt_of_le ST.out.box.lt ST.out.le'
    have r0 := ST.out.ans.c0
    have r1 := ST.out.ans.c1
    have rz := Nat.lt_of_lt_of_le ST.out.ans.lt ST.out.le'
    have y0 := HY.out.c0
    have y1 := HY.out.c1
    have yz := Nat.lt_of_lt_of_le HY.out.lt ST.out.le'
    have x0 := HC0.out.c0
    have x1 := HC0.out.c1
    have xz := HC0.out.lt
    have z0 := HC1.out.c0
    have z1 := HC1.out.c1
    have zz := HC1.out.lt
    have g0 := HG.out.c0
    have g1 := HG.out.c1
    have gz := HG.out.lt
    go_wp2_with fail
    refine (markLadder_any K W A4 n c4 zs 1 _ HO0.out hn3 (by omega) (by omega)).mono ?_
    rintro e w9 ⟨rfl, o9, hg⟩
    have hk := ofMark HO0.out hg (Nat.le_refl _) ST.out.le'
    replace HY := bxStep HY hk
    replace ST := st2Step ST hk
    replace HC1 := cellKept HC1 hg (blkLtMono HL4 (Nat.le_trans (Nat.le_succ _) H45.out))
    replace HO1 := oiKept HO1 hg (blkLtMono HL4 (Nat.le_succ _))
    replace HN := oiKept HN hg (blkLtMono HL4 (Nat.le_trans (Nat.le_succ _) (Nat.le_trans H45.out (Nat.le_succ _))))
    replace HG := cellKept HG hg (blkLtMono HL4 (Nat.le_trans (Nat.le_succ _) (Nat.le_trans H45.out (Nat.le_trans (Nat.le_succ _) H56.out))))
    clear o9 hg hk HO0 HC0 x0 x1 xz
    replace a0 := ST.out.box.c0
    replace a1 := ST.out.box.c1
    replace az := Nat.lt_of_lt_of_le ST.out.box.lt ST.out.le'
    replace r0 := ST.out.ans.c0
    replace r1 := ST.out.ans.c1
    replace rz := Nat.lt_of_lt_of_le ST.out.ans.lt ST.out.le'
    replace y0 := HY.out.c0
    replace y1 := HY.out.c1
    replace yz := Nat.lt_of_lt_of_le HY.out.lt ST.out.le'
    replace z0 := HC1.out.c0
    replace z1 := HC1.out.c1
    replace zz := HC1.out.lt
    replace g0 := HG.out.c0
    replace g1 := HG.out.c1
    replace gz := HG.out.lt
    go_wp2_with fail
    refine (markLadder_any (w4.heap.size + 1) V A5 n' c5 zs' (1 + n) _ HO1.out hn3' (by omega) (by omega)).mono ?_
    rintro e w10 ⟨rfl, o9, hg⟩
    have hk := ofMark HO1.out hg (Nat.le_trans H34.out (Nat.le_succ _)) ST.out.le'
    replace HY := bxStep HY hk
    replace ST := st2Step ST hk
    replace HN := oiKept HN hg (blkLtMono HL5 (Nat.le_succ _))
    replace HG := cellKept HG hg (blkLtMono HL5 (Nat.le_trans (Nat.le_succ _) H56.out))
    clear o9 hg hk HO1 HC1 z0 z1 zz
    replace a0 := ST.out.box.c0
    replace a1 := ST.out.box.c1
    replace az := Nat.lt_of_lt_of_le ST.out.box.lt ST.out.le'
    replace r0 := ST.out.ans.c0
    replace r1 := ST.out.ans.c1
    replace rz := Nat.lt_of_lt_of_le ST.out.ans.lt ST.out.le'
    replace y0 := HY.out.c0
    replace y1 := HY.out.c1
    replace yz := Nat.lt_of_lt_of_le HY.out.lt ST.out.le'
    replace g0 := HG.out.c0
    replace g1 := HG.out.c1
    replace gz := HG.out.lt
    have eneg : (decide ((1 : Int) + n + n' < 0)) = false := by rw [decide_eq_false_iff_not]; omega
    go_wp2_with fail
    refine (eqLadder_any U A9 m c9 ys U A0 m c0 ys _ HN.out.ri ST.out.ans.rb.ri hm3 hm3).mono ?_
    rw [(eqSelf U ys).out]
    rintro e w11 ⟨rfl, hb⟩
    replace HY := bxCall ST HY hb
    replace ST := st2Call ST hb
    replace HG := cellStep HG hb
    replace HN := oiStep HN hb
    replace a0 := ST.out.box.c0
    replace a1 := ST.out.box.c1
    replace az := Nat.lt_of_lt_of_le ST.out.box.lt ST.out.le'
    replace r0 := ST.out.ans.c0
    replace r1 := ST.out.ans.c1
    replace rz := Nat.lt_of_lt_of_le ST.out.ans.lt ST.out.le'
    replace y0 := HY.out.c0
    replace y1 := HY.out.c1
    replace yz := Nat.lt_of_lt_of_le HY.out.lt ST.out.le'
    replace g0 := HG.out.c0
    replace g1 := HG.out.c1
    replace gz := HG.out.lt
    clear hb
    go_wp2_with fail
    refine (markLadder_any (w5.heap.size + 1) U A9 m c9 ys 1 _ HN.out hm3 (by omega) (by omega)).mono ?_
    rintro e w12 ⟨rfl, o9, hg⟩
    have hk := ofMark HN.out hg (Nat.le_trans H34.out (Nat.le_trans (Nat.le_succ _) (Nat.le_trans H45.out (Nat.le_succ _)))) ST.out.le'
    replace HY := bxStep HY hk
    replace ST := st2Step ST hk
    replace HG := cellKept HG hg HL9
    replace HN := Lib.hid o9
    clear o9 hg hk
    replace a0 := ST.out.box.c0
    replace a1 := ST.out.box.c1
    replace az := Nat.lt_of_lt_of_le ST.out.box.lt ST.out.le'
    replace r0 := ST.out.ans.c0
    replace r1 := ST.out.ans.c1
    replace rz := Nat.lt_of_lt_of_le ST.out.ans.lt ST.out.le'
    replace y0 := HY.out.c0
    replace y1 := HY.out.c1
    replace yz := Nat.lt_of_lt_of_le HY.out.lt ST.out.le'
    replace g0 := HG.out.c0
    replace g1 := HG.out.c1
    replace gz := HG.out.lt
    go_wp2_with fail
    refine (heldLadder_any U A9 m c9 1 _ HN.out.ri hm3 (by omega) (by omega)).mono ?_
    rintro e w13 ⟨rfl, hb⟩
    replace HY := bxCall ST HY hb
    replace ST := st2Call ST hb
    replace HG := cellStep HG hb
    replace HN := oiStep HN hb
    replace a0 := ST.out.box.c0
    replace a1 := ST.out.box.c1
    replace az := Nat.lt_of_lt_of_le ST.out.box.lt ST.out.le'
    replace r0 := ST.out.ans.c0
    replace r1 := ST.out.ans.c1
    replace rz := Nat.lt_of_lt_of_le ST.out.ans.lt ST.out.le'
    replace y0 := HY.out.c0
    replace y1 := HY.out.c1
    replace yz := Nat.lt_of_lt_of_le HY.out.lt ST.out.le'
    replace g0 := HG.out.c0
    replace g1 := HG.out.c1
    replace gz := HG.out.lt
    clear hb
    go_upto_region 31 with fail
    have BSa := ST.out.box.rb.ri
    have BSb := HY.out.rb.ri
    replace BSa := Lib.hid BSa; replace BSb := Lib.hid BSb
    go_cut [15, 16] from 94 (fun s1 s2 wx => ∃ (bk : Nat) (A0 : Option Addr) (c0 : Nat), s1 = .pointer (some ⟨bk, 0, none⟩) ∧ s2 = .bool q ∧ Box wx bk U A0 m c0 ys ∧ Below w13.heap.size w13 wx)
    case first =>
      go_region_held3 (fun w' => w'.cell? ⟨w.heap.size, 0, none⟩ = some (.int .i64 W) ∧ w'.cell? ⟨w.heap.size, 1, none⟩ = some (.slice A n c) ∧ w'.cell? ⟨w.heap.size + 1, 0, none⟩ = some (.int .i64 V) ∧ w'.cell? ⟨w.heap.size + 1, 1, none⟩ = some (.slice A' n' c'))
        (exact ⟨((show Below w13.heap.size w13 _ from (by with_reducible first | exact hidOut (bud) | exact hidOut (belAlloc (bud) _) | exact hidOut (belAlloc (belAlloc (bud) _) _) | exact hidOut (belDrew (bud)) | exact hidOut (belDrew (belAlloc (bud) _)) | exact hidOut (belDrew (belAlloc (belAlloc (bud) _) _)) | exact hidOut (belAlloc (belDrew (bud)) _) | exact hidOut (belAlloc (belAlloc (belDrew (bud)) _) _) | exact hidOut (bub) | exact hidOut (belAlloc (bub) _) | exact hidOut (belAlloc (belAlloc (bub) _) _) | exact hidOut (belDrew (bub)) | exact hidOut (belDrew (belAlloc (bub) _)) | exact hidOut (belDrew (belAlloc (belAlloc (bub) _) _)) | exact hidOut (belAlloc (belDrew (bub)) _) | exact hidOut (belAlloc (belAlloc (belDrew (bub)) _) _) | exact hidOut (bua) | exact hidOut (belAlloc (bua) _) | exact hidOut (belAlloc (belAlloc (bua) _) _) | exact hidOut (belDrew (bua)) | exact hidOut (belDrew (belAlloc (bua) _)) | exact hidOut (belDrew (belAlloc (belAlloc (bua) _) _)) | exact hidOut (belAlloc (belDrew (bua)) _) | exact hidOut (belAlloc (belAlloc (belDrew (bua)) _) _) | exact hidOut (belRefl) | exact hidOut (belAlloc (belRefl) _) | exact hidOut (belAlloc (belAlloc (belRefl) _) _) | exact hidOut (belDrew (belRefl)) | exact hidOut (belDrew (belAlloc (belRefl) _)) | exact hidOut (belDrew (belAlloc (belAlloc (belRefl) _) _)) | exact hidOut (belAlloc (belDrew (belRefl)) _) | exact hidOut (belAlloc (belAlloc (belDrew (belRefl)) _) _) | exact ((bud.out).setCell (p := ⟨w13.heap.size, 0, none⟩) (Nat.le_refl _) _).setCell (p := ⟨w13.heap.size, 1, none⟩) (Nat.le_refl _) _ | exact ((bud.out).setCell (p := ⟨ua.heap.size, 0, none⟩) sua _).setCell (p := ⟨ua.heap.size, 1, none⟩) sua _ | exact ((bud.out).setCell (p := ⟨ub.heap.size, 0, none⟩) sub _).setCell (p := ⟨ub.heap.size, 1, none⟩) sub _ | exact ((bud.out).setCell (p := ⟨ud.heap.size, 0, none⟩) sud _).setCell (p := ⟨ud.heap.size, 1, none⟩) sud _)).cell (p := ⟨w.heap.size, 0, none⟩) az).trans a0, ((show Below w13.heap.size w13 _ from (by with_reducible first | exact hidOut (bud) | exact hidOut (belAlloc (bud) _) | exact hidOut (belAlloc (belAlloc (bud) _) _) | exact hidOut (belDrew (bud)) | exact hidOut (belDrew (belAlloc (bud) _)) | exact hidOut (belDrew (belAlloc (belAlloc (bud) _) _)) | exact hidOut (belAlloc (belDrew (bud)) _) | exact hidOut (belAlloc (belAlloc (belDrew (bud)) _) _) | exact hidOut (bub) | exact hidOut (belAlloc (bub) _) | exact hidOut (belAlloc (belAlloc (bub) _) _) | exact hidOut (belDrew (bub)) | exact hidOut (belDrew (belAlloc (bub) _)) | exact hidOut (belDrew (belAlloc (belAlloc (bub) _) _)) | exact hidOut (belAlloc (belDrew (bub)) _) | exact hidOut (belAlloc (belAlloc (belDrew (bub)) _) _) | exact hidOut (bua) | exact hidOut (belAlloc (bua) _) | exact hidOut (belAlloc (belAlloc (bua) _) _) | exact hidOut (belDrew (bua)) | exact hidOut (belDrew (belAlloc (bua) _)) | exact hidOut (belDrew (belAlloc (belAlloc (bua) _) _)) | exact hidOut (belAlloc (belDrew (bua)) _) | exact hidOut (belAlloc (belAlloc (belDrew (bua)) _) _) | exact hidOut (belRefl) | exact hidOut (belAlloc (belRefl) _) | exact hidOut (belAlloc (belAlloc (belRefl) _) _) | exact hidOut (belDrew (belRefl)) | exact hidOut (belDrew (belAlloc (belRefl) _)) | exact hidOut (belDrew (belAlloc (belAlloc (belRefl) _) _)) | exact hidOut (belAlloc (belDrew (belRefl)) _) | exact hidOut (belAlloc (belAlloc (belDrew (belRefl)) _) _) | exact ((bud.out).setCell (p := ⟨w13.heap.size, 0, none⟩) (Nat.le_refl _) _).setCell (p := ⟨w13.heap.size, 1, none⟩) (Nat.le_refl _) _ | exact ((bud.out).setCell (p := ⟨ua.heap.size, 0, none⟩) sua _).setCell (p := ⟨ua.heap.size, 1, none⟩) sua _ | exact ((bud.out).setCell (p := ⟨ub.heap.size, 0, none⟩) sub _).setCell (p := ⟨ub.heap.size, 1, none⟩) sub _ | exact ((bud.out).setCell (p := ⟨ud.heap.size, 0, none⟩) sud _).setCell (p := ⟨ud.heap.size, 1, none⟩) sud _)).cell (p := ⟨w.heap.size, 1, none⟩) az).trans a1, ((show Below w13.heap.size w13 _ from (by with_reducible first | exact hidOut (bud) | exact hidOut (belAlloc (bud) _) | exact hidOut (belAlloc (belAlloc (bud) _) _) | exact hidOut (belDrew (bud)) | exact hidOut (belDrew (belAlloc (bud) _)) | exact hidOut (belDrew (belAlloc (belAlloc (bud) _) _)) | exact hidOut (belAlloc (belDrew (bud)) _) | exact hidOut (belAlloc (belAlloc (belDrew (bud)) _) _) | exact hidOut (bub) | exact hidOut (belAlloc (bub) _) | exact hidOut (belAlloc (belAlloc (bub) _) _) | exact hidOut (belDrew (bub)) | exact hidOut (belDrew (belAlloc (bub) _)) | exact hidOut (belDrew (belAlloc (belAlloc (bub) _) _)) | exact hidOut (belAlloc (belDrew (bub)) _) | exact hidOut (belAlloc (belAlloc (belDrew (bub)) _) _) | exact hidOut (bua) | exact hidOut (belAlloc (bua) _) | exact hidOut (belAlloc (belAlloc (bua) _) _) | exact hidOut (belDrew (bua)) | exact hidOut (belDrew (belAlloc (bua) _)) | exact hidOut (belDrew (belAlloc (belAlloc (bua) _) _)) | exact hidOut (belAlloc (belDrew (bua)) _) | exact hidOut (belAlloc (belAlloc (belDrew (bua)) _) _) | exact hidOut (belRefl) | exact hidOut (belAlloc (belRefl) _) | exact hidOut (belAlloc (belAlloc (belRefl) _) _) | exact hidOut (belDrew (belRefl)) | exact hidOut (belDrew (belAlloc (belRefl) _)) | exact hidOut (belDrew (belAlloc (belAlloc (belRefl) _) _)) | exact hidOut (belAlloc (belDrew (belRefl)) _) | exact hidOut (belAlloc (belAlloc (belDrew (belRefl)) _) _) | exact ((bud.out).setCell (p := ⟨w13.heap.size, 0, none⟩) (Nat.le_refl _) _).setCell (p := ⟨w13.heap.size, 1, none⟩) (Nat.le_refl _) _ | exact ((bud.out).setCell (p := ⟨ua.heap.size, 0, none⟩) sua _).setCell (p := ⟨ua.heap.size, 1, none⟩) sua _ | exact ((bud.out).setCell (p := ⟨ub.heap.size, 0, none⟩) sub _).setCell (p := ⟨ub.heap.size, 1, none⟩) sub _ | exact ((bud.out).setCell (p := ⟨ud.heap.size, 0, none⟩) sud _).setCell (p := ⟨ud.heap.size, 1, none⟩) sud _)).cell (p := ⟨w.heap.size + 1, 0, none⟩) yz).trans y0, ((show Below w13.heap.size w13 _ from (by with_reducible first | exact hidOut (bud) | exact hidOut (belAlloc (bud) _) | exact hidOut (belAlloc (belAlloc (bud) _) _) | exact hidOut (belDrew (bud)) | exact hidOut (belDrew (belAlloc (bud) _)) | exact hidOut (belDrew (belAlloc (belAlloc (bud) _) _)) | exact hidOut (belAlloc (belDrew (bud)) _) | exact hidOut (belAlloc (belAlloc (belDrew (bud)) _) _) | exact hidOut (bub) | exact hidOut (belAlloc (bub) _) | exact hidOut (belAlloc (belAlloc (bub) _) _) | exact hidOut (belDrew (bub)) | exact hidOut (belDrew (belAlloc (bub) _)) | exact hidOut (belDrew (belAlloc (belAlloc (bub) _) _)) | exact hidOut (belAlloc (belDrew (bub)) _) | exact hidOut (belAlloc (belAlloc (belDrew (bub)) _) _) | exact hidOut (bua) | exact hidOut (belAlloc (bua) _) | exact hidOut (belAlloc (belAlloc (bua) _) _) | exact hidOut (belDrew (bua)) | exact hidOut (belDrew (belAlloc (bua) _)) | exact hidOut (belDrew (belAlloc (belAlloc (bua) _) _)) | exact hidOut (belAlloc (belDrew (bua)) _) | exact hidOut (belAlloc (belAlloc (belDrew (bua)) _) _) | exact hidOut (belRefl) | exact hidOut (belAlloc (belRefl) _) | exact hidOut (belAlloc (belAlloc (belRefl) _) _) | exact hidOut (belDrew (belRefl)) | exact hidOut (belDrew (belAlloc (belRefl) _)) | exact hidOut (belDrew (belAlloc (belAlloc (belRefl) _) _)) | exact hidOut (belAlloc (belDrew (belRefl)) _) | exact hidOut (belAlloc (belAlloc (belDrew (belRefl)) _) _) | exact ((bud.out).setCell (p := ⟨w13.heap.size, 0, none⟩) (Nat.le_refl _) _).setCell (p := ⟨w13.heap.size, 1, none⟩) (Nat.le_refl _) _ | exact ((bud.out).setCell (p := ⟨ua.heap.size, 0, none⟩) sua _).setCell (p := ⟨ua.heap.size, 1, none⟩) sua _ | exact ((bud.out).setCell (p := ⟨ub.heap.size, 0, none⟩) sub _).setCell (p := ⟨ub.heap.size, 1, none⟩) sub _ | exact ((bud.out).setCell (p := ⟨ud.heap.size, 0, none⟩) sud _).setCell (p := ⟨ud.heap.size, 1, none⟩) sud _)).cell (p := ⟨w.heap.size + 1, 1, none⟩) yz).trans y1⟩)
        (first
          | (go_at_call 13; have hx := Rb.out; clear hx; refine (toLadder_any V A' n' c' zs' _ (by with_reducible first | exact Rb.out | exact RI.alloc (Rb.out) _ | exact RI.alloc (RI.alloc (Rb.out) _) _ | exact RI.drewU (Rb.out) | exact RI.drewU (RI.alloc (Rb.out) _) | exact RI.drewU (RI.alloc (RI.alloc (Rb.out) _) _) | exact RI.alloc (RI.drewU (Rb.out)) _ | exact RI.alloc (RI.alloc (RI.drewU (Rb.out)) _) _) hn3').mono ?_; rintro e ub ⟨Ab, cb, rfl, ob, hb⟩; have bub : Hid (Below w13.heap.size w13 ub) := (hidOut (show Hid (Below w13.heap.size w13 _) from (by with_reducible first | exact bua | exact belAlloc (bua) _ | exact belAlloc (belAlloc (bua) _) _ | exact belDrew (bua) | exact belDrew (belAlloc (bua) _) | exact belDrew (belAlloc (belAlloc (bua) _) _) | exact belAlloc (belDrew (bua)) _ | exact belAlloc (belAlloc (belDrew (bua)) _) _))).trans (hb.mono (by first | omega | (simp; done) | (simp; omega))); have sub := bub.out.size; have Ob : Hid (OI ub w13.heap.size Ab n' cb zs') := ob.mono (by first | omega | (simp; done) | (simp; omega)); have Oab : Hid (OI ub w13.heap.size Aa n ca zs) := OI.below (by with_reducible first | exact Oa.out | exact OI.alloc (Oa.out) _ | exact OI.alloc (OI.alloc (Oa.out) _) _ | exact OI.drewU (Oa.out) | exact OI.drewU (OI.alloc (Oa.out) _) | exact OI.drewU (OI.alloc (OI.alloc (Oa.out) _) _) | exact OI.alloc (OI.drewU (Oa.out)) _ | exact OI.alloc (OI.alloc (OI.drewU (Oa.out)) _) _) hb; (first | (have Lb : Hid (LB ub w13.heap.size (.int .i64 0) (.slice none 0 0)) := LB.below (by with_reducible first | exact La.out | exact LB.alloc (La.out) _ | exact LB.alloc (LB.alloc (La.out) _) _ | exact LB.drewU (La.out) | exact LB.drewU (LB.alloc (La.out) _) | exact LB.drewU (LB.alloc (LB.alloc (La.out) _) _) | exact LB.alloc (LB.drewU (La.out)) _ | exact LB.alloc (LB.alloc (LB.drewU (La.out)) _) _ | exact (LB.new ua _ _) | exact LB.alloc ((LB.new ua _ _)) _ | exact LB.alloc (LB.alloc ((LB.new ua _ _)) _) _ | exact LB.drewU ((LB.new ua _ _)) | exact LB.drewU (LB.alloc ((LB.new ua _ _)) _) | exact LB.drewU (LB.alloc (LB.alloc ((LB.new ua _ _)) _) _) | exact LB.alloc (LB.drewU ((LB.new ua _ _))) _ | exact LB.alloc (LB.alloc (LB.drewU ((LB.new ua _ _))) _) _) hb) | (have Lb : Hid (LB ub ua.heap.size (.int .i64 0) (.slice none 0 0)) := LB.below (by with_reducible first | exact La.out | exact LB.alloc (La.out) _ | exact LB.alloc (LB.alloc (La.out) _) _ | exact LB.drewU (La.out) | exact LB.drewU (LB.alloc (La.out) _) | exact LB.drewU (LB.alloc (LB.alloc (La.out) _) _) | exact LB.alloc (LB.drewU (La.out)) _ | exact LB.alloc (LB.alloc (LB.drewU (La.out)) _) _ | exact (LB.new ua _ _) | exact LB.alloc ((LB.new ua _ _)) _ | exact LB.alloc (LB.alloc ((LB.new ua _ _)) _) _ | exact LB.drewU ((LB.new ua _ _)) | exact LB.drewU (LB.alloc ((LB.new ua _ _)) _) | exact LB.drewU (LB.alloc (LB.alloc ((LB.new ua _ _)) _) _) | exact LB.alloc (LB.drewU ((LB.new ua _ _))) _ | exact LB.alloc (LB.alloc (LB.drewU ((LB.new ua _ _))) _) _) hb) | skip); clear hb ob)
          | (go_at_call 13; refine (toLadder_any W A n c zs _ (by with_reducible first | exact BSa.out | exact RI.alloc (BSa.out) _ | exact RI.alloc (RI.alloc (BSa.out) _) _ | exact RI.drewU (BSa.out) | exact RI.drewU (RI.alloc (BSa.out) _) | exact RI.drewU (RI.alloc (RI.alloc (BSa.out) _) _) | exact RI.alloc (RI.drewU (BSa.out)) _ | exact RI.alloc (RI.alloc (RI.drewU (BSa.out)) _) _) hn3).mono ?_; rintro e ua ⟨Aa, ca, rfl, oa, hb⟩; have bua : Hid (Below w13.heap.size w13 ua) := (hidOut (show Hid (Below w13.heap.size w13 _) from (by with_reducible first | exact belRefl | exact belAlloc (belRefl) _ | exact belAlloc (belAlloc (belRefl) _) _ | exact belDrew (belRefl) | exact belDrew (belAlloc (belRefl) _) | exact belDrew (belAlloc (belAlloc (belRefl) _) _) | exact belAlloc (belDrew (belRefl)) _ | exact belAlloc (belAlloc (belDrew (belRefl)) _) _))).trans (hb.mono (by first | omega | (simp; done) | (simp; omega))); have sua := bua.out.size; have Oa : Hid (OI ua w13.heap.size Aa n ca zs) := oa.mono (by first | omega | (simp; done) | (simp; omega)); have Rb : Hid (RI ua A' n' zs') := RI.below BSb.out bua.out (Nat.le_refl _); (first | (have La : Hid (LB ua w13.heap.size (.int .i64 0) (.slice none 0 0)) := LB.below (by with_reducible first | exact (LB.new w13 _ _) | exact LB.alloc ((LB.new w13 _ _)) _ | exact LB.alloc (LB.alloc ((LB.new w13 _ _)) _) _ | exact LB.drewU ((LB.new w13 _ _)) | exact LB.drewU (LB.alloc ((LB.new w13 _ _)) _) | exact LB.drewU (LB.alloc (LB.alloc ((LB.new w13 _ _)) _) _) | exact LB.alloc (LB.drewU ((LB.new w13 _ _))) _ | exact LB.alloc (LB.alloc (LB.drewU ((LB.new w13 _ _))) _) _) hb) | skip); clear hb oa)
          | (go_at_call 26; refine (hI.out Aa ca Ab cb _ (by with_reducible first | exact Oab.out.ri | exact RI.alloc (Oab.out.ri) _ | exact RI.alloc (RI.alloc (Oab.out.ri) _) _ | exact RI.drewU (Oab.out.ri) | exact RI.drewU (RI.alloc (Oab.out.ri) _) | exact RI.drewU (RI.alloc (RI.alloc (Oab.out.ri) _) _) | exact RI.alloc (RI.drewU (Oab.out.ri)) _ | exact RI.alloc (RI.alloc (RI.drewU (Oab.out.ri)) _) _) (by with_reducible first | exact Ob.out.ri | exact RI.alloc (Ob.out.ri) _ | exact RI.alloc (RI.alloc (Ob.out.ri) _) _ | exact RI.drewU (Ob.out.ri) | exact RI.drewU (RI.alloc (Ob.out.ri) _) | exact RI.drewU (RI.alloc (RI.alloc (Ob.out.ri) _) _) | exact RI.alloc (RI.drewU (Ob.out.ri)) _ | exact RI.alloc (RI.alloc (RI.drewU (Ob.out.ri)) _) _)).mono ?_; rintro e ud ⟨Ad, cd, rfl, od, hb⟩; have bud : Hid (Below w13.heap.size w13 ud) := (hidOut (show Hid (Below w13.heap.size w13 _) from (by with_reducible first | exact bub | exact belAlloc (bub) _ | exact belAlloc (belAlloc (bub) _) _ | exact belDrew (bub) | exact belDrew (belAlloc (bub) _) | exact belDrew (belAlloc (belAlloc (bub) _) _) | exact belAlloc (belDrew (bub)) _ | exact belAlloc (belAlloc (belDrew (bub)) _) _))).trans (hb.mono (by first | omega | (simp; done) | (simp; omega))); have sud := bud.out.size; have Od : Hid (OI ud w13.heap.size Ad m cd ys) := od.mono (by first | omega | (simp; done) | (simp; omega)); (first | (have Ld : Hid (LB ud w13.heap.size (.int .i64 0) (.slice none 0 0)) := LB.below (by with_reducible first | exact Lb.out | exact LB.alloc (Lb.out) _ | exact LB.alloc (LB.alloc (Lb.out) _) _ | exact LB.drewU (Lb.out) | exact LB.drewU (LB.alloc (Lb.out) _) | exact LB.drewU (LB.alloc (LB.alloc (Lb.out) _) _) | exact LB.alloc (LB.drewU (Lb.out)) _ | exact LB.alloc (LB.alloc (LB.drewU (Lb.out)) _) _ | exact (LB.new ub _ _) | exact LB.alloc ((LB.new ub _ _)) _ | exact LB.alloc (LB.alloc ((LB.new ub _ _)) _) _ | exact LB.drewU ((LB.new ub _ _)) | exact LB.drewU (LB.alloc ((LB.new ub _ _)) _) | exact LB.drewU (LB.alloc (LB.alloc ((LB.new ub _ _)) _) _) | exact LB.alloc (LB.drewU ((LB.new ub _ _))) _ | exact LB.alloc (LB.alloc (LB.drewU ((LB.new ub _ _))) _) _) hb; have l0 := Ld.out.cell2.c0; have l1 := Ld.out.cell2.c1; have l2 := Ld.out.cell2.f0; have l3 := Ld.out.cell2.f1) | (have Ld : Hid (LB ud ua.heap.size (.int .i64 0) (.slice none 0 0)) := LB.below (by with_reducible first | exact Lb.out | exact LB.alloc (Lb.out) _ | exact LB.alloc (LB.alloc (Lb.out) _) _ | exact LB.drewU (Lb.out) | exact LB.drewU (LB.alloc (Lb.out) _) | exact LB.drewU (LB.alloc (LB.alloc (Lb.out) _) _) | exact LB.alloc (LB.drewU (Lb.out)) _ | exact LB.alloc (LB.alloc (LB.drewU (Lb.out)) _) _ | exact (LB.new ub _ _) | exact LB.alloc ((LB.new ub _ _)) _ | exact LB.alloc (LB.alloc ((LB.new ub _ _)) _) _ | exact LB.drewU ((LB.new ub _ _)) | exact LB.drewU (LB.alloc ((LB.new ub _ _)) _) | exact LB.drewU (LB.alloc (LB.alloc ((LB.new ub _ _)) _) _) | exact LB.alloc (LB.drewU ((LB.new ub _ _))) _ | exact LB.alloc (LB.alloc (LB.drewU ((LB.new ub _ _))) _) _) hb; have l0 := Ld.out.cell2.c0; have l1 := Ld.out.cell2.c1; have l2 := Ld.out.cell2.f0; have l3 := Ld.out.cell2.f1) | (have Ld : Hid (LB ud ub.heap.size (.int .i64 0) (.slice none 0 0)) := LB.below (by with_reducible first | exact Lb.out | exact LB.alloc (Lb.out) _ | exact LB.alloc (LB.alloc (Lb.out) _) _ | exact LB.drewU (Lb.out) | exact LB.drewU (LB.alloc (Lb.out) _) | exact LB.drewU (LB.alloc (LB.alloc (Lb.out) _) _) | exact LB.alloc (LB.drewU (Lb.out)) _ | exact LB.alloc (LB.alloc (LB.drewU (Lb.out)) _) _ | exact (LB.new ub _ _) | exact LB.alloc ((LB.new ub _ _)) _ | exact LB.alloc (LB.alloc ((LB.new ub _ _)) _) _ | exact LB.drewU ((LB.new ub _ _)) | exact LB.drewU (LB.alloc ((LB.new ub _ _)) _) | exact LB.drewU (LB.alloc (LB.alloc ((LB.new ub _ _)) _) _) | exact LB.alloc (LB.drewU ((LB.new ub _ _))) _ | exact LB.alloc (LB.alloc (LB.drewU ((LB.new ub _ _))) _) _) hb; have l0 := Ld.out.cell2.c0; have l1 := Ld.out.cell2.c1; have l2 := Ld.out.cell2.f0; have l3 := Ld.out.cell2.f1) | skip); clear hb od))
      all_goals
        go_wp2
        go_meet
        case rel =>
          (first
          | with_reducible exact ⟨_, Ad, cd, rfl, rfl, addBox Ld.out Od.out bud.out (Nat.le_refl _) _ _⟩
          | with_reducible exact ⟨_, Ad, cd, rfl, rfl, addBox Ld.out Od.out bud.out sua _ _⟩
          | with_reducible exact ⟨_, Ad, cd, rfl, rfl, addBox Ld.out Od.out bud.out sub _ _⟩
          | with_reducible exact ⟨_, Ad, cd, rfl, rfl, ⟨(LB.new ud _ _).cell2.c0, (LB.new ud _ _).cell2.c1, (OI.alloc Od.out _).ri, (LB.new ud _ _).lt⟩, (belAlloc bud _).out⟩)
    case rest =>
      obtain ⟨bh, A14, c14, rfl, rfl, hbox, hbl⟩ := hcut
      obtain ⟨v1, hv1⟩ : ∃ v : World, v = wc := ⟨_, rfl⟩
      subst hv1
      replace HY := bxCall ST HY hbl
      replace ST := st2Call ST hbl
      replace HG := cellStep HG hbl
      replace HN := oiStep HN hbl
      replace a0 := ST.out.box.c0
      replace a1 := ST.out.box.c1
      replace az := Nat.lt_of_lt_of_le ST.out.box.lt ST.out.le'
      replace r0 := ST.out.ans.c0
      replace r1 := ST.out.ans.c1
      replace rz := Nat.lt_of_lt_of_le ST.out.ans.lt ST.out.le'
      replace y0 := HY.out.c0
      replace y1 := HY.out.c1
      replace yz := Nat.lt_of_lt_of_le HY.out.lt ST.out.le'
      replace g0 := HG.out.c0
      replace g1 := HG.out.c1
      replace gz := HG.out.lt
      have HX := Lib.hid hbox
      have h0 := HX.out.c0; have h1 := HX.out.c1; have hz := HX.out.lt
      clear hbox hbl
      go_wp2_with fail
      refine (eqLadder_any U A14 m c14 ys U A0 m c0 ys _ HX.out.ri ST.out.ans.rb.ri hm3 hm3).mono ?_
      rw [(eqSelf U ys).out]
      rintro e w15 ⟨rfl, hb⟩
      replace HY := bxCall ST HY hb
      replace ST := st2Call ST hb
      replace HG := cellStep HG hb
      replace HN := oiStep HN hb
      replace a0 := ST.out.box.c0
      replace a1 := ST.out.box.c1
      replace az := Nat.lt_of_lt_of_le ST.out.box.lt ST.out.le'
      replace r0 := ST.out.ans.c0
      replace r1 := ST.out.ans.c1
      replace rz := Nat.lt_of_lt_of_le ST.out.ans.lt ST.out.le'
      replace y0 := HY.out.c0
      replace y1 := HY.out.c1
      replace yz := Nat.lt_of_lt_of_le HY.out.lt ST.out.le'
      replace g0 := HG.out.c0
      replace g1 := HG.out.c1
      replace gz := HG.out.lt
      clear hb HX h0 h1 hz
      go_wp2_with fail
      refine (heldLadder_any U A9 m c9 1 _ HN.out.ri hm3 (by omega) (by omega)).mono ?_
      rintro e w16 ⟨rfl, hb⟩
      replace HY := bxCall ST HY hb
      replace ST := st2Call ST hb
      replace HG := cellStep HG hb
      replace HN := oiStep HN hb
      replace a0 := ST.out.box.c0
      replace a1 := ST.out.box.c1
      replace az := Nat.lt_of_lt_of_le ST.out.box.lt ST.out.le'
      replace r0 := ST.out.ans.c0
      replace r1 := ST.out.ans.c1
      replace rz := Nat.lt_of_lt_of_le ST.out.ans.lt ST.out.le'
      replace y0 := HY.out.c0
      replace y1 := HY.out.c1
      replace yz := Nat.lt_of_lt_of_le HY.out.lt ST.out.le'
      replace g0 := HG.out.c0
      replace g1 := HG.out.c1
      replace gz := HG.out.lt
      clear hb
      go_wp2_with fail
      go_ret
      exact ⟨rfl, ST.out.bel⟩

set_option maxHeartbeats 1000000 in
theorem lawBesideLadders_any (W : Int) (A : Option Addr) (n c : Nat) (zs : List Int) (V : Int) (A' : Option Addr) (n' c' : Nat) (zs' : List Int) (w : World) (h : RI w A n zs) (hn : n ≤ 9223372036854775807) (h' : RI w A' n' zs') (hn' : n' ≤ 9223372036854775807) :
    Calls Try.prog 6 #[.agg #[.int .i64 W, .slice A n c], .agg #[.int .i64 V, .slice A' n' c']] w (RetB true w) := by
  by_cases hn2 : (n : Int) ≤ 1048576
  · by_cases hn3 : (n' : Int) ≤ 1048576 - n
    · exact lawBesideLadders_of W A n c zs V A' n' c' zs' w h h' hn2 hn3 (ifW (bsB W zs V zs') (W + V)) _ (ifL (bsB W zs V zs') (zs ++ shL zs' W)) (bsB W zs V zs') (Nat.le_trans (bsN_len W V zs zs') (by decide)) (fun Aa ca Ab cb w2 r1 r2 => sBesideLadders_any W Aa n ca zs V Ab n' cb zs' w2 r1 (by omega) r2 (by omega)) (fun Aa ca Ab cb w2 r1 r2 => iBesideLadders_any W Aa n ca zs V Ab n' cb zs' w2 r1 (by omega) r2 (by omega))
    · have E := Lib.hid (szv_yes hn2).symm
      have E' := Lib.hid (szv_no hn3).symm
      go_enter Try.func6, Try.ntmps6
      go_wp2_with fail
      have HB := belAlloc (belAlloc (belRefl (w := w)) (.cells #[.int .i64 W, .slice A n c] 24)) (.cells #[.int .i64 V, .slice A' n' c'] 24)
      have HD := boxNew (wi := w.alloc (.cells #[.int .i64 W, .slice A n c] 24)) (W := V) (c := c') 24 (h'.alloc _)
      refine (szLadder_any W A n c _ _ (by omega) (by omega) hn).mono ?_
      rw [E.out]
      rintro e w1 ⟨rfl, hb⟩
      replace HB := belStep HB hb
      replace HD := boxStep HD hb
      simp only [World.size_alloc] at HD
      have y0 := HD.out.c0; have y1 := HD.out.c1; have yz := HD.out.lt
      clear hb h h'
      go_wp2_with fail
      refine (szLadder_any V A' n' c' _ _ (by omega) (by omega) hn').mono ?_
      rw [E'.out]
      rintro e w2 ⟨rfl, hb⟩
      replace HB := belStep HB hb
      clear hb
      go_wp2_with fail
      go_ret
      exact ⟨rfl, HB.out⟩
  · have E := Lib.hid (szv_no hn2).symm
    go_enter Try.func6, Try.ntmps6
    go_wp2_with fail
    have HB := belAlloc (belAlloc (belRefl (w := w)) (.cells #[.int .i64 W, .slice A n c] 24)) (.cells #[.int .i64 V, .slice A' n' c'] 24)
    refine (szLadder_any W A n c _ _ (by omega) (by omega) hn).mono ?_
    rw [E.out]
    rintro e w1 ⟨rfl, hb⟩
    replace HB := belStep HB hb
    clear hb h h'
    go_wp2_with fail
    go_ret
    exact ⟨rfl, HB.out⟩
end Go.Proofs.Ytmlkccihpkpjfaa
