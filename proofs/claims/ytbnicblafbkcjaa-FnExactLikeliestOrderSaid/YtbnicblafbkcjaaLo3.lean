/- LikeliestOrder, of the program. -/
import Derived.Test.YtbnicblafbkcjaaLo2
import Derived.Test.YtbnicblafbkcjaaOf1
import Derived.Test.YtbnicblafbkcjaaCe9
import Derived.Deep.RegionHeld3
import Derived.Deep.RegionWith
namespace Go.Proofs.Ytbnicblafbkcjaa
open Go Go.RowKit Go.Maps

theorem take_ends {q : List Int} {n : Nat} (hq : q.length = n) (hn : n ≤ 6) : (endsL q).take n = q := by
  refine gi_ext (by rw [List.length_take, endsL_length]; omega) fun j hj => ?_
  rw [List.length_take, endsL_length] at hj
  have h1 : gi ((endsL q).take n) j = gi (endsL q) j := by
    rw [gi_lt (by rw [List.length_take, endsL_length]; omega), gi_lt (by rw [endsL_length]; omega)]
    simp
  rw [h1, gi_endsL (by omega), if_pos (by omega)]
theorem arrI {ys : List Int} (h : ys.length = 6) (w : World) (b : Nat) (t : TypeId) (hw : w.heap[b]? = some (.cells #[.int .i64 (gi ys 0), .int .i64 (gi ys 1), .int .i64 (gi ys 2), .int .i64 (gi ys 3), .int .i64 (gi ys 4), .int .i64 (gi ys 5)] t (0, 0))) : RI w (some ⟨b, 0, none⟩) 6 ys := by
  have h1 := RI.of_arr (n := 6) (zs := ys) (by rw [← arr6 h]; exact hw) (by omega)
  rwa [List.take_of_length_le (by omega)] at h1
theorem heapBelow {wi wj : World} {b : Nat} {o : Obj} (h : wi.heap[b]? = some o) (hb : Below wi.heap.size wi wj) : wj.heap[b]? = some o :=
  (hb.block b (Array.getElem?_eq_some_iff.1 h).1).trans h

/-- the order that comes out most often -/
def lkL (n k : Int) : List Int := if toldB n k = true then gz (ordsK n.toNat n.toNat) (bst (chO n.toNat k.toNat) (ordsK n.toNat n.toNat).length) else []
def lkM (n k : Int) : Nat := if toldB n k = true then n.toNat else 0
theorem lkL_no {n k : Int} (h : toldB n k = false) : lkL n k = [] := by unfold lkL; rw [h]; rfl
theorem lkM_no {n k : Int} (h : toldB n k = false) : lkM n k = 0 := by unfold lkM; rw [h]; rfl
theorem lkL_yes {n k : Int} (h : toldB n k = true) : lkL n k = gz (ordsK n.toNat n.toNat) (bst (chO n.toNat k.toNat) (ordsK n.toNat n.toNat).length) := by unfold lkL; rw [if_pos h]
theorem lkM_yes {n k : Int} (h : toldB n k = true) : lkM n k = n.toNat := by unfold lkM; rw [if_pos h]
theorem lkM_le (n k : Int) : lkM n k ≤ 1048576 := by
  rcases h : toldB n k with _ | _
  · rw [lkM_no h]; omega
  · rw [lkM_yes h]; have := toldB_iff.1 h; omega
/-- a slice of some block of the call's own, and a bool -/
def FreshOF (w : World) (m : Nat) (ys : List Int) (q : Bool) (e : Ending) (w' : World) : Prop :=
  ∃ A c, e = .returned (.tuple #[.slice A m c, .bool q]) ∧ OF w' w.heap.size A m ys ∧ Below w.heap.size w w'

set_option maxRecDepth 100000 in
set_option maxHeartbeats 8000000 in
theorem iLikeliestOrder_any (n k : Int) (w : World) : Calls Try.prog 19 #[.int .i64 n, .int .i64 k] w (FreshOF w (lkM n k) (lkL n k) (toldB n k)) := by
  rcases h1 : toldB n k with _ | _
  · have E1 := Lib.hid h1
    rw [lkM_no h1, lkL_no h1]
    clear h1
    go_enter Try.func19, Try.ntmps19
    go_wp2_with (go_at_call 30; refine (isToldFall_any _ _ _).mono ?_; rw [E1.out]; rintro e w' ⟨rfl, rfl⟩)
    go_ret2
    exact ⟨_, _, rfl, OF.none_ _ _, Below.refl _ _⟩
  · have E1 := Lib.hid h1
    have ht := toldB_iff.1 h1
    rw [lkM_yes h1, lkL_yes h1]
    obtain ⟨n0, rfl⟩ : ∃ m : Nat, n = (m : Int) := ⟨n.toNat, by omega⟩
    obtain ⟨K0, rfl⟩ : ∃ K : Nat, k = (K : Int) := ⟨k.toNat, by omega⟩
    rw [Int.toNat_natCast, Int.toNat_natCast]
    have hn2 : 2 ≤ n0 := by omega
    have hn5 : n0 ≤ 5 := by omega
    have hn6 : (n0 : Int) ≤ 6 := by omega
    have hn0 : (0 : Int) ≤ (n0 : Int) := by omega
    have HFO := Lib.hid (fun w => fallOfAll_any n0 K0 w (by omega) (by omega) (by omega))
    clear h1 ht
    go_enter Try.func19, Try.ntmps19
    go_wp2_with (go_at_call 30; refine (isToldFall_any _ _ _).mono ?_; rw [E1.out]; rintro e w' ⟨rfl, rfl⟩)
    have HA0 : Hid ((w.alloc (.cells #[.int .i64 0, .int .i64 0, .int .i64 0, .int .i64 0, .int .i64 0, .int .i64 0] 48)).heap[w.heap.size]? = some (.cells #[.int .i64 0, .int .i64 0, .int .i64 0, .int .i64 0, .int .i64 0, .int .i64 0] 48 (0, 0))) := Lib.hid (heap_alloc_new w _)
    have HB0 : Hid (Below w.heap.size w (w.alloc (.cells #[.int .i64 0, .int .i64 0, .int .i64 0, .int .i64 0, .int .i64 0, .int .i64 0] 48))) := Lib.hid ((Below.refl _ _).alloc (Nat.le_refl _) _)
    refine (HFO.out _).mono ?_
    rintro e w1 ⟨b, D, rfl, hb1, ho1, hg1, hw1, hbel1⟩
    have HAC : Hid (AllC n0 K0 D) := Lib.hid ⟨hg1, hw1⟩
    have HO1 := Lib.hid ho1
    have HA1 := Lib.hid (heapBelow HA0.out hbel1)
    have HB1 : Hid (Below w.heap.size w w1) := Lib.hid (HB0.out.trans (hbel1.mono HB0.out.size))
    have hbb : w.heap.size + 1 ≤ b := by simpa using hb1
    have hblt := ho1.lt
    clear ho1 hg1 hw1 hbel1 HFO HA0 HB0 hb1
    go_wp2_with (first
      | (at_range; refine wpList_range_own _ rfl _ 45 rfl 48 3 keyE Try.underlying45 _ b _ D rfl HO1.out ?_; intro w0 hrg0 hg0 hs0)
      | fail)
    go_frame
    have HRG0 := Lib.hid hrg0
    have hb0 : Below w1.heap.size w1 w0 := ⟨hg0.os, hg0.tape, hg0.output, hg0.size, fun i hi => hg0.block i hi (by simp)⟩
    have HA2 := Lib.hid (heapBelow HA1.out hb0)
    have HB2 : Hid (Below w.heap.size w w0) := Lib.hid (HB1.out.trans (hb0.mono HB1.out.size))
    obtain ⟨r, hr⟩ : ∃ r, r = w1.heap.size := ⟨_, rfl⟩
    rw [← hr] at HRG0 hs0 hblt ⊢
    clear hrg0 hg0 hb0 HA1 HB1 HO1 hr
    obtain ⟨a, ha⟩ : ∃ a, a = w.heap.size := ⟨_, rfl⟩
    rw [← ha] at HA2 HB2 hbb ⊢
    have HAA := Lib.hid ha
    clear ha
    go_loopw [7, 8, 9] (fun s7 _ _ wi => ∃ (left : Lit → Bool) (cnt : Nat) (E : List Int) (m : Nat), E.length = 6 ∧ s7 = .int .i64 (m : Int) ∧ m ≤ 95367431640625 ∧ wi.ranges Try.prog 48 (plainElem Try.prog 3) b r (Maps.size D) D left cnt ∧ Seen n0 K0 D left E m ∧ wi.heap[a]? = some (.cells #[.int .i64 (gi E 0), .int .i64 (gi E 1), .int .i64 (gi E 2), .int .i64 (gi E 3), .int .i64 (gi E 4), .int .i64 (gi E 5)] 48 (0, 0)) ∧ Below a w wi ∧ r + 1 ≤ wi.heap.size) (fun _ _ _ wi => wi.rangeLeft b r)
    case atStart => exact ⟨_, _, [0, 0, 0, 0, 0, 0], 0, rfl, rfl, by omega, HRG0.out, Seen.start _, HA2.out, HB2.out, by omega⟩
    case round =>
      obtain ⟨left, cnt, E, m, hEl, rfl, hm, hrg, hsn, hha, hbel, hsz⟩ := hrel
      have HRG := Lib.hid hrg
      have HSN := Lib.hid hsn
      have HEL := Lib.hid hEl
      have HA := Lib.hid hha
      have HBEL := Lib.hid hbel
      clear hrg hsn hbel hEl HA2 HB2 HRG0 hha
      go_wp2_with (first
        | (at_next; refine wpList_next_OE _ rfl _ rfl b r _ n0 _ _ _ rfl HRG.out HAC.out.good (by omega) HSN.out.has ?_ ?_)
        | fail)
      · intro hno
        have HEE := Lib.hid (HSN.out.done HAC.out hn2 hn5 hno)
        clear hno
        have hlt := bst_lt (chO n0 K0) (ordsK_pos (n := n0) (k := n0) (Nat.le_refl _))
        have hok := gz_ok (n := n0) (by omega) (by omega) hlt
        have HTK : Hid (E.take n0 = gz (ordsK n0 n0) (bst (chO n0 K0) (ordsK n0 n0).length)) := by show _ = _; rw [HEE.out]; exact take_ends hok.2 (by omega)
        clear hlt hok
        go_wp2
        go_ret2
        refine ⟨some ⟨a, 0, none⟩, n0, rfl, ?_, HAA.out ▸ HBEL.out⟩
        rw [← HTK.out]
        have hrow := arrI HEL.out _ _ _ HA.out
        obtain ⟨g, off, e, hg, hc⟩ := hrow.2 (by omega)
        injection e with e; injection e with e1 e2 e3
        subst e1 e2
        refine ⟨by rw [List.length_take]; have := HEL.out; omega, fun b' hb' => by simp [blk] at hb'; subst hb'; exact ⟨Nat.le_of_eq HAA.out.symm, hg⟩, fun _ => ⟨a, rfl, fun j hj => ⟨?_, ?_⟩⟩⟩
        · have h1 := hc j (by omega)
          rw [Nat.zero_add] at h1
          rw [h1]
          have hl := HEL.out
          rw [gi_lt (zs := E.take n0) (by rw [List.length_take]; omega), gi_lt (zs := E) (by omega)]
          simp
        · simp [World.frozen?, HA.out]
      · intro e c w2 cnt1 he hc0 hat hle hrg2 hlt2 hg2 hs2 hen
        have HEQ := Lib.hid he.1
        have hcm : c ≤ 95367431640625 := by
          obtain ⟨v, hv, _, hgv⟩ := HAC.out.ent hn2 hn5 he hc0 hat
          rw [gi_chO hv] at hgv
          have h3 := resN_le (n := n0) (k := K0) (gz (ordsK n0 n0) v)
          have h4 := pow5 (m := n0 - 1) (j := K0) (by omega) (by have := toldB_iff.1 E1.out; omega)
          omega
        have HLT := Lib.hid hlt2
        have HBT := Lib.hid (fun hb => HSN.out.better HAC.out hn2 hn5 he hc0 hat hb)
        have HWO := Lib.hid (fun hb hb2 => HSN.out.worse HAC.out hn2 hn5 he hc0 hat hb hb2)
        have hblk : a < w2.heap.size := by omega
        have HAW : Hid (w2.heap[a]? = some (.cells #[.int .i64 (gi E 0), .int .i64 (gi E 1), .int .i64 (gi E 2), .int .i64 (gi E 3), .int .i64 (gi E 4), .int .i64 (gi E 5)] 48 (0, 0))) := Lib.hid ((hg2.block a (by omega) (fun e => by have := Option.some.inj e; omega)).trans HA.out)
        have HBELW : Hid (Below a w w2) := Lib.hid (HBEL.out.grown hg2 (by omega) (fun j hj => by injection hj with hj; omega))
        have HRGW := Lib.hid hrg2
        have hz2 : r + 1 ≤ w2.heap.size := by omega
        obtain ⟨x, hx⟩ : ∃ x, x = w2.heap.size := ⟨_, rfl⟩
        obtain ⟨w3, hw3⟩ : ∃ w3, w3 = w2.alloc (.cells #[.int .i64 (gi e 0), .int .i64 (gi e 1), .int .i64 (gi e 2), .int .i64 (gi e 3), .int .i64 (gi e 4), .int .i64 (gi e 5)] 48) := ⟨_, rfl⟩
        have HX3 : Hid (w3.heap[x]? = some (.cells #[.int .i64 (gi e 0), .int .i64 (gi e 1), .int .i64 (gi e 2), .int .i64 (gi e 3), .int .i64 (gi e 4), .int .i64 (gi e 5)] 48 (0, 0))) := Lib.hid (by rw [hw3, hx]; exact heap_alloc_new w2 _)
        have HA3 : Hid (w3.heap[a]? = some (.cells #[.int .i64 (gi E 0), .int .i64 (gi E 1), .int .i64 (gi E 2), .int .i64 (gi E 3), .int .i64 (gi E 4), .int .i64 (gi E 5)] 48 (0, 0))) := Lib.hid (by rw [hw3]; exact heapBelow HAW.out ((Below.refl _ _).alloc (Nat.le_refl _) _))
        have HB3 : Hid (Below a w w3) := Lib.hid (by rw [hw3]; exact HBELW.out.alloc (by omega) _)
        have HR3 : Hid (w3.ranges Try.prog 48 (plainElem Try.prog 3) b r (Maps.size D) D (fun z => left z && !z.sameKey (eL e)) cnt1) := Lib.hid (by rw [hw3]; exact HRGW.out.alloc _)
        have HRD : Hid (w3.drew.ranges Try.prog 48 (plainElem Try.prog 3) b r (Maps.size D) D (fun z => left z && !z.sameKey (eL e)) cnt1) := Lib.hid HR3.out
        have HAD : Hid (w3.drew.heap[a]? = some (.cells #[.int .i64 (gi E 0), .int .i64 (gi E 1), .int .i64 (gi E 2), .int .i64 (gi E 3), .int .i64 (gi E 4), .int .i64 (gi E 5)] 48 (0, 0))) := Lib.hid HA3.out
        have HBD : Hid (Below a w w3.drew) := Lib.hid HB3.out.drew
        have HZ3 : Hid (r + 1 ≤ w3.heap.size ∧ a < x) := Lib.hid ⟨by rw [hw3]; simp; omega, by omega⟩
        have HRX := Lib.hid (arrI HEQ.out _ _ _ HX3.out)
        have HRB := Lib.hid (arrI HEL.out _ _ _ HA3.out)
        have HCMP : Hid (∀ w', RI w' (some ⟨x, 0, none⟩) 6 e → RI w' (some ⟨a, 0, none⟩) 6 E → Calls Try.prog 38 #[.slice (some ⟨x, 0, none⟩) 6 6, .slice (some ⟨a, 0, none⟩) 6 6] w' (SameI (cmpL e E) w')) := Lib.hid fun w' h1 h2 => compare_any _ _ 6 6 6 e E w' h1 h2 (by omega)
        clear he hc0 hat hle hrg2 hlt2 hg2 hs2 HAW HBELW HRGW HSN HAC HBEL HA
        go_wp2
        rw [← hw3, ← hx]
        clear hw3 hx
        by_cases h1 : (m : Int) < (c : Int)
        · have HNX := Lib.hid (HBT.out (.inl (by omega)))
          clear HBT HWO
          refine wp_region_any (by kernel_rfl) ?_
          try (change wpAny _ _ _ _ _ _ _ (World.drew _))
          refine wpAny_take (i := 0) (v := .int .i64 (c : Int)) rfl (by kernel_rfl) (by kernel_rfl) (by kernel_rfl) (fun _ _ _ h => h) (Or.inl ⟨by kernel_rfl, fun _ => by go_simp⟩) ?_
          refine wpAny_take (i := 1) (v := .int .i64 (m : Int)) rfl (by kernel_rfl) (by kernel_rfl) (by kernel_rfl) (fun _ _ _ h => h) (Or.inl ⟨by kernel_rfl, fun _ => by go_simp⟩) ?_
          refine wpAny_take (i := 2) (v := .bool true) rfl (by kernel_rfl) (by kernel_rfl) (by kernel_rfl) (fun _ _ _ h => h) (Or.inl ⟨by kernel_rfl, fun _ => by go_simp⟩) ?_
          refine wpAny_take (i := 3) (v := .bool true) rfl (by kernel_rfl) (by kernel_rfl) (by kernel_rfl) (fun _ _ _ h => h) (Or.inl ⟨by kernel_rfl, fun _ => by go_simp⟩) ?_
          refine wpAny_take (i := 4) (v := undef) rfl (by kernel_rfl) (by kernel_rfl) (by kernel_rfl) (fun _ _ _ h => h) (Or.inr ⟨by kernel_rfl, rfl⟩) ?_
          refine wpAny_take (i := 5) (v := undef) rfl (by kernel_rfl) (by kernel_rfl) (by kernel_rfl) (fun _ _ _ h => h) (Or.inr ⟨by kernel_rfl, rfl⟩) ?_
          refine wpAny_take (i := 6) (v := undef) rfl (by kernel_rfl) (by kernel_rfl) (by kernel_rfl) (fun _ _ _ h => h) (Or.inr ⟨by kernel_rfl, rfl⟩) ?_
          refine wpAny_take (i := 7) (v := undef) rfl (by kernel_rfl) (by kernel_rfl) (by kernel_rfl) (fun _ _ _ h => h) (Or.inr ⟨by kernel_rfl, rfl⟩) ?_
          refine wpAny_take (i := 8) (v := undef) rfl (by kernel_rfl) (by kernel_rfl) (by kernel_rfl) (fun _ _ _ h => h) (Or.inr ⟨by kernel_rfl, rfl⟩) ?_
          refine wpAny_take (i := 9) (v := undef) rfl (by kernel_rfl) (by kernel_rfl) (by kernel_rfl) (fun _ _ _ h => h) (Or.inr ⟨by kernel_rfl, rfl⟩) ?_
          refine wpAny_take (i := 10) (v := undef) rfl (by kernel_rfl) (by kernel_rfl) (by kernel_rfl) (fun _ _ _ h => h) (Or.inr ⟨by kernel_rfl, rfl⟩) ?_
          refine wpAny_take (i := 11) (v := undef) rfl (by kernel_rfl) (by kernel_rfl) (by kernel_rfl) (fun _ _ _ h => h) (Or.inr ⟨by kernel_rfl, rfl⟩) ?_
          refine wpAny_take (i := 12) (v := undef) rfl (by kernel_rfl) (by kernel_rfl) (by kernel_rfl) (fun _ _ _ h => h) (Or.inr ⟨by kernel_rfl, rfl⟩) ?_
          refine wpAny_take (i := 13) (v := .bool true) rfl (by kernel_rfl) (by kernel_rfl) (by kernel_rfl) (fun _ _ _ h => h) (Or.inl ⟨by kernel_rfl, fun _ => by go_simp⟩) ?_
          refine wpAny_done (by kernel_rfl) ?_ _
          simp only [Act.put, List.getElem_toArray, List.getElem_cons_zero, List.getElem_cons_succ, List.setIfInBounds_toArray, List.set_cons_zero, List.set_cons_succ]
          obtain ⟨arr, harr⟩ : ∃ arr : Array Value, arr = #[.int .i64 (gi e 0), .int .i64 (gi e 1), .int .i64 (gi e 2), .int .i64 (gi e 3), .int .i64 (gi e 4), .int .i64 (gi e 5)] := ⟨_, rfl⟩
          obtain ⟨old, hold⟩ : ∃ old : Array Value, old = #[.int .i64 (gi E 0), .int .i64 (gi E 1), .int .i64 (gi E 2), .int .i64 (gi E 3), .int .i64 (gi E 4), .int .i64 (gi E 5)] := ⟨_, rfl⟩
          have HXA : Hid (w3.drew.heap[x]? = some (.cells arr 48 (0, 0))) := Lib.hid (by rw [harr]; exact HX3.out)
          have HAO : Hid (w3.drew.heap[a]? = some (.cells old 48 (0, 0))) := Lib.hid (by rw [hold]; exact HAD.out)
          have HARR := Lib.hid harr
          have hasz : Hid (arr.size = 6) := by show arr.size = 6; rw [harr]; rfl
          have hosz : Hid (old.size = 6) := by show old.size = 6; rw [hold]; rfl
          have haone : Hid (arr.all (·.oneCell') = true) := by show arr.all (·.oneCell') = true; rw [harr, arr6 HEQ.out, Array.all_eq_true_iff_forall_mem]; intro x hx; exact I_one _ x (by simpa using hx)
          clear harr hold
          obtain ⟨w4, hw4⟩ : ∃ w4, w4 = w3.drew := ⟨_, rfl⟩
          rw [← hw4] at HXA HAO HRD HBD ⊢
          have HZ4 : Hid (w4.heap.size = w3.heap.size) := Lib.hid (by rw [hw4]; rfl)
          clear hw4
          go_wp2_with (with_reducible refine wpList_load_row (o := ⟨some 37, _, _, _, _, _⟩) rfl 48 (.tmp 8) rfl x rfl 48 arr (0, 0) _ HXA.out Try.underlying48 rfl (by rw [hasz.out]; exact infoEnds) ?_; revert HXA)
          intro HXA
          go_wp2_with (with_reducible refine wpList_store_row rfl 48 (.tmp 6) (.tmp 37) rfl a arr rfl rfl 48 old HAO.out (by rw [hasz.out]; exact infoEnds) (by rw [hasz.out]; exact hosz.out) haone.out ?_; revert HXA)
          intro HXA
          have HA5 := Lib.hid (setRow_heap w4 a old arr 48 (0, 0) HAO.out)
          have HG5 : Hid (w4.grownBy (w4.setRow a arr) (some a)) := Lib.hid ⟨rfl, rfl, rfl, by simp, fun i _ hi => setRow_other w4 a i arr (fun e => hi (by rw [e]))⟩
          have HB5 := Lib.hid (below_setRow HBD.out (Nat.le_refl _) arr)
          have hbb2 := hbb
          have hblt2 := hblt
          have HR5 : Hid ((w4.setRow a arr).ranges Try.prog 48 (plainElem Try.prog 3) b r (Maps.size D) D (fun z => left z && !z.sameKey (eL e)) cnt1) := Lib.hid (HRD.out.kept HG5.out (by simp; omega) (by simp; omega))
          go_wp2
          go_roundw
          case rel => exact ⟨_, cnt1, e, c, HEQ.out, by first | rfl | (rw [h2]), hcm, HR5.out, HNX.out, HARR.out ▸ HA5.out, HB5.out, by rw [setRow_size, HZ4.out]; exact HZ3.out.1⟩
          case measure => rw [HR5.out.left_eq, HRG.out.left_eq]; exact HLT.out
        · by_cases h2 : (c : Int) = (m : Int)
          · by_cases h3 : cmpL e E < 0
            · have HNX := Lib.hid (HBT.out (.inr ⟨by omega, h3⟩))
              clear HBT HWO
              refine wp_region_any (by kernel_rfl) ?_
              try (change wpAny _ _ _ _ _ _ _ (World.drew _))
              refine wpAny_take (i := 0) (v := .int .i64 (c : Int)) rfl (by kernel_rfl) (by kernel_rfl) (by kernel_rfl) (fun _ _ _ h => h) (Or.inl ⟨by kernel_rfl, fun _ => by go_simp⟩) ?_
              refine wpAny_take (i := 1) (v := .int .i64 (m : Int)) rfl (by kernel_rfl) (by kernel_rfl) (by kernel_rfl) (fun _ _ _ h => h) (Or.inl ⟨by kernel_rfl, fun _ => by go_simp⟩) ?_
              refine wpAny_take (i := 2) (v := .bool false) rfl (by kernel_rfl) (by kernel_rfl) (by kernel_rfl) (fun _ _ _ h => h) (Or.inl ⟨by kernel_rfl, fun _ => by go_simp⟩) ?_
              refine wpAny_take (i := 3) (v := .bool false) rfl (by kernel_rfl) (by kernel_rfl) (by kernel_rfl) (fun _ _ _ h => h) (Or.inl ⟨by kernel_rfl, fun _ => by go_simp⟩) ?_
              refine wpAny_take (i := 4) (v := .int .i64 (c : Int)) rfl (by kernel_rfl) (by kernel_rfl) (by kernel_rfl) (fun _ _ _ h => h) (Or.inl ⟨by kernel_rfl, fun _ => by go_simp⟩) ?_
              refine wpAny_take (i := 5) (v := .int .i64 (m : Int)) rfl (by kernel_rfl) (by kernel_rfl) (by kernel_rfl) (fun _ _ _ h => h) (Or.inl ⟨by kernel_rfl, fun _ => by go_simp⟩) ?_
              refine wpAny_take (i := 6) (v := .bool true) rfl (by kernel_rfl) (by kernel_rfl) (by kernel_rfl) (fun _ _ _ h => h) (Or.inl ⟨by kernel_rfl, fun _ => by go_simp⟩) ?_
              refine wpAny_take (i := 7) (v := .bool true) rfl (by kernel_rfl) (by kernel_rfl) (by kernel_rfl) (fun _ _ _ h => h) (Or.inl ⟨by kernel_rfl, fun _ => by go_simp⟩) ?_
              refine wpAny_take (i := 8) (v := .slice (some ⟨x, 0, none⟩) 6 6) rfl (by kernel_rfl) (by kernel_rfl) (by kernel_rfl) (fun _ _ _ h => h) (Or.inl ⟨by kernel_rfl, fun _ => by go_simp⟩) ?_
              refine wpAny_take (i := 9) (v := .slice (some ⟨a, 0, none⟩) 6 6) rfl (by kernel_rfl) (by kernel_rfl) (by kernel_rfl) (fun _ _ _ h => h) (Or.inl ⟨by kernel_rfl, fun _ => by go_simp⟩) ?_
              refine wpAny_ready (rs := [10]) (by kernel_rfl) (by simp) ?_
              refine AllReady.cons rfl (fun K hK => ?_) AllReady.nil
              go_simp
              refine (HCMP.out _ (by first | exact HRX.out | exact HRX.out.drew) (by first | exact HRB.out | exact HRB.out.drew)).mono ?_
              rintro e w6 ⟨rfl, rfl⟩
              refine hK _ _ ?_
              clear hK K
              refine wpAny_take (i := 11) (v := .bool true) rfl (by kernel_rfl) (by kernel_rfl) (by kernel_rfl) (fun _ _ _ h => h) (Or.inl ⟨by kernel_rfl, fun _ => by go_simp⟩) ?_
              refine wpAny_take (i := 12) (v := .bool true) rfl (by kernel_rfl) (by kernel_rfl) (by kernel_rfl) (fun _ _ _ h => h) (Or.inl ⟨by kernel_rfl, fun _ => by go_simp⟩) ?_
              refine wpAny_take (i := 13) (v := .bool true) rfl (by kernel_rfl) (by kernel_rfl) (by kernel_rfl) (fun _ _ _ h => h) (Or.inl ⟨by kernel_rfl, fun _ => by go_simp⟩) ?_
              refine wpAny_done (by kernel_rfl) ?_ _
              simp only [Act.put, List.getElem_toArray, List.getElem_cons_zero, List.getElem_cons_succ, List.setIfInBounds_toArray, List.set_cons_zero, List.set_cons_succ]
              obtain ⟨arr, harr⟩ : ∃ arr : Array Value, arr = #[.int .i64 (gi e 0), .int .i64 (gi e 1), .int .i64 (gi e 2), .int .i64 (gi e 3), .int .i64 (gi e 4), .int .i64 (gi e 5)] := ⟨_, rfl⟩
              obtain ⟨old, hold⟩ : ∃ old : Array Value, old = #[.int .i64 (gi E 0), .int .i64 (gi E 1), .int .i64 (gi E 2), .int .i64 (gi E 3), .int .i64 (gi E 4), .int .i64 (gi E 5)] := ⟨_, rfl⟩
              have HXA : Hid (w3.drew.heap[x]? = some (.cells arr 48 (0, 0))) := Lib.hid (by rw [harr]; exact HX3.out)
              have HAO : Hid (w3.drew.heap[a]? = some (.cells old 48 (0, 0))) := Lib.hid (by rw [hold]; exact HAD.out)
              have HARR := Lib.hid harr
              have hasz : Hid (arr.size = 6) := by show arr.size = 6; rw [harr]; rfl
              have hosz : Hid (old.size = 6) := by show old.size = 6; rw [hold]; rfl
              have haone : Hid (arr.all (·.oneCell') = true) := by show arr.all (·.oneCell') = true; rw [harr, arr6 HEQ.out, Array.all_eq_true_iff_forall_mem]; intro x hx; exact I_one _ x (by simpa using hx)
              clear harr hold
              obtain ⟨w4, hw4⟩ : ∃ w4, w4 = w3.drew := ⟨_, rfl⟩
              rw [← hw4] at HXA HAO HRD HBD ⊢
              have HZ4 : Hid (w4.heap.size = w3.heap.size) := Lib.hid (by rw [hw4]; rfl)
              clear hw4
              go_wp2_with (with_reducible refine wpList_load_row (o := ⟨some 37, _, _, _, _, _⟩) rfl 48 (.tmp 8) rfl x rfl 48 arr (0, 0) _ HXA.out Try.underlying48 rfl (by rw [hasz.out]; exact infoEnds) ?_; revert HXA)
              intro HXA
              go_wp2_with (with_reducible refine wpList_store_row rfl 48 (.tmp 6) (.tmp 37) rfl a arr rfl rfl 48 old HAO.out (by rw [hasz.out]; exact infoEnds) (by rw [hasz.out]; exact hosz.out) haone.out ?_; revert HXA)
              intro HXA
              have HA5 := Lib.hid (setRow_heap w4 a old arr 48 (0, 0) HAO.out)
              have HG5 : Hid (w4.grownBy (w4.setRow a arr) (some a)) := Lib.hid ⟨rfl, rfl, rfl, by simp, fun i _ hi => setRow_other w4 a i arr (fun e => hi (by rw [e]))⟩
              have HB5 := Lib.hid (below_setRow HBD.out (Nat.le_refl _) arr)
              have hbb2 := hbb
              have hblt2 := hblt
              have HR5 : Hid ((w4.setRow a arr).ranges Try.prog 48 (plainElem Try.prog 3) b r (Maps.size D) D (fun z => left z && !z.sameKey (eL e)) cnt1) := Lib.hid (HRD.out.kept HG5.out (by simp; omega) (by simp; omega))
              go_wp2
              go_roundw
              case rel => exact ⟨_, cnt1, e, c, HEQ.out, by first | rfl | (rw [h2]), hcm, HR5.out, HNX.out, HARR.out ▸ HA5.out, HB5.out, by rw [setRow_size, HZ4.out]; exact HZ3.out.1⟩
              case measure => rw [HR5.out.left_eq, HRG.out.left_eq]; exact HLT.out
            · have HNX := Lib.hid (HWO.out (by omega) (by rintro ⟨_, h⟩; exact h3 h))
              clear HBT HWO
              refine wp_region_any (by kernel_rfl) ?_
              try (change wpAny _ _ _ _ _ _ _ (World.drew _))
              refine wpAny_take (i := 0) (v := .int .i64 (c : Int)) rfl (by kernel_rfl) (by kernel_rfl) (by kernel_rfl) (fun _ _ _ h => h) (Or.inl ⟨by kernel_rfl, fun _ => by go_simp⟩) ?_
              refine wpAny_take (i := 1) (v := .int .i64 (m : Int)) rfl (by kernel_rfl) (by kernel_rfl) (by kernel_rfl) (fun _ _ _ h => h) (Or.inl ⟨by kernel_rfl, fun _ => by go_simp⟩) ?_
              refine wpAny_take (i := 2) (v := .bool false) rfl (by kernel_rfl) (by kernel_rfl) (by kernel_rfl) (fun _ _ _ h => h) (Or.inl ⟨by kernel_rfl, fun _ => by go_simp⟩) ?_
              refine wpAny_take (i := 3) (v := .bool false) rfl (by kernel_rfl) (by kernel_rfl) (by kernel_rfl) (fun _ _ _ h => h) (Or.inl ⟨by kernel_rfl, fun _ => by go_simp⟩) ?_
              refine wpAny_take (i := 4) (v := .int .i64 (c : Int)) rfl (by kernel_rfl) (by kernel_rfl) (by kernel_rfl) (fun _ _ _ h => h) (Or.inl ⟨by kernel_rfl, fun _ => by go_simp⟩) ?_
              refine wpAny_take (i := 5) (v := .int .i64 (m : Int)) rfl (by kernel_rfl) (by kernel_rfl) (by kernel_rfl) (fun _ _ _ h => h) (Or.inl ⟨by kernel_rfl, fun _ => by go_simp⟩) ?_
              refine wpAny_take (i := 6) (v := .bool true) rfl (by kernel_rfl) (by kernel_rfl) (by kernel_rfl) (fun _ _ _ h => h) (Or.inl ⟨by kernel_rfl, fun _ => by go_simp⟩) ?_
              refine wpAny_take (i := 7) (v := .bool true) rfl (by kernel_rfl) (by kernel_rfl) (by kernel_rfl) (fun _ _ _ h => h) (Or.inl ⟨by kernel_rfl, fun _ => by go_simp⟩) ?_
              refine wpAny_take (i := 8) (v := .slice (some ⟨x, 0, none⟩) 6 6) rfl (by kernel_rfl) (by kernel_rfl) (by kernel_rfl) (fun _ _ _ h => h) (Or.inl ⟨by kernel_rfl, fun _ => by go_simp⟩) ?_
              refine wpAny_take (i := 9) (v := .slice (some ⟨a, 0, none⟩) 6 6) rfl (by kernel_rfl) (by kernel_rfl) (by kernel_rfl) (fun _ _ _ h => h) (Or.inl ⟨by kernel_rfl, fun _ => by go_simp⟩) ?_
              refine wpAny_ready (rs := [10]) (by kernel_rfl) (by simp) ?_
              refine AllReady.cons rfl (fun K hK => ?_) AllReady.nil
              go_simp
              refine (HCMP.out _ (by first | exact HRX.out | exact HRX.out.drew) (by first | exact HRB.out | exact HRB.out.drew)).mono ?_
              rintro e w6 ⟨rfl, rfl⟩
              refine hK _ _ ?_
              clear hK K
              refine wpAny_take (i := 11) (v := .bool false) rfl (by kernel_rfl) (by kernel_rfl) (by kernel_rfl) (fun _ _ _ h => h) (Or.inl ⟨by kernel_rfl, fun _ => by go_simp⟩) ?_
              refine wpAny_take (i := 12) (v := .bool false) rfl (by kernel_rfl) (by kernel_rfl) (by kernel_rfl) (fun _ _ _ h => h) (Or.inl ⟨by kernel_rfl, fun _ => by go_simp⟩) ?_
              refine wpAny_take (i := 13) (v := .bool false) rfl (by kernel_rfl) (by kernel_rfl) (by kernel_rfl) (fun _ _ _ h => h) (Or.inl ⟨by kernel_rfl, fun _ => by go_simp⟩) ?_
              refine wpAny_done (by kernel_rfl) ?_ _
              simp only [Act.put, List.getElem_toArray, List.getElem_cons_zero, List.getElem_cons_succ, List.setIfInBounds_toArray, List.set_cons_zero, List.set_cons_succ]
              go_wp2
              go_roundw
              case rel => exact ⟨_, cnt1, E, m, HEL.out, rfl, hm, HRD.out, HNX.out, HAD.out, HBD.out, HZ3.out.1⟩
              case measure => rw [HRD.out.left_eq, HRG.out.left_eq]; exact HLT.out
          · have HNX := Lib.hid (HWO.out (by omega) (by rintro ⟨h, _⟩; omega))
            clear HBT HWO
            refine wp_region_any (by kernel_rfl) ?_
            try (change wpAny _ _ _ _ _ _ _ (World.drew _))
            refine wpAny_take (i := 0) (v := .int .i64 (c : Int)) rfl (by kernel_rfl) (by kernel_rfl) (by kernel_rfl) (fun _ _ _ h => h) (Or.inl ⟨by kernel_rfl, fun _ => by go_simp⟩) ?_
            refine wpAny_take (i := 1) (v := .int .i64 (m : Int)) rfl (by kernel_rfl) (by kernel_rfl) (by kernel_rfl) (fun _ _ _ h => h) (Or.inl ⟨by kernel_rfl, fun _ => by go_simp⟩) ?_
            refine wpAny_take (i := 2) (v := .bool false) rfl (by kernel_rfl) (by kernel_rfl) (by kernel_rfl) (fun _ _ _ h => h) (Or.inl ⟨by kernel_rfl, fun _ => by go_simp⟩) ?_
            refine wpAny_take (i := 3) (v := .bool false) rfl (by kernel_rfl) (by kernel_rfl) (by kernel_rfl) (fun _ _ _ h => h) (Or.inl ⟨by kernel_rfl, fun _ => by go_simp⟩) ?_
            refine wpAny_take (i := 4) (v := .int .i64 (c : Int)) rfl (by kernel_rfl) (by kernel_rfl) (by kernel_rfl) (fun _ _ _ h => h) (Or.inl ⟨by kernel_rfl, fun _ => by go_simp⟩) ?_
            refine wpAny_take (i := 5) (v := .int .i64 (m : Int)) rfl (by kernel_rfl) (by kernel_rfl) (by kernel_rfl) (fun _ _ _ h => h) (Or.inl ⟨by kernel_rfl, fun _ => by go_simp⟩) ?_
            refine wpAny_take (i := 6) (v := .bool false) rfl (by kernel_rfl) (by kernel_rfl) (by kernel_rfl) (fun _ _ _ h => h) (Or.inl ⟨by kernel_rfl, fun _ => by go_simp⟩) ?_
            refine wpAny_take (i := 7) (v := .bool false) rfl (by kernel_rfl) (by kernel_rfl) (by kernel_rfl) (fun _ _ _ h => h) (Or.inl ⟨by kernel_rfl, fun _ => by go_simp⟩) ?_
            refine wpAny_take (i := 8) (v := undef) rfl (by kernel_rfl) (by kernel_rfl) (by kernel_rfl) (fun _ _ _ h => h) (Or.inr ⟨by kernel_rfl, rfl⟩) ?_
            refine wpAny_take (i := 9) (v := undef) rfl (by kernel_rfl) (by kernel_rfl) (by kernel_rfl) (fun _ _ _ h => h) (Or.inr ⟨by kernel_rfl, rfl⟩) ?_
            refine wpAny_take (i := 10) (v := undef) rfl (by kernel_rfl) (by kernel_rfl) (by kernel_rfl) (fun _ _ _ h => h) (Or.inr ⟨by kernel_rfl, rfl⟩) ?_
            refine wpAny_take (i := 11) (v := undef) rfl (by kernel_rfl) (by kernel_rfl) (by kernel_rfl) (fun _ _ _ h => h) (Or.inr ⟨by kernel_rfl, rfl⟩) ?_
            refine wpAny_take (i := 12) (v := .bool false) rfl (by kernel_rfl) (by kernel_rfl) (by kernel_rfl) (fun _ _ _ h => h) (Or.inl ⟨by kernel_rfl, fun _ => by go_simp⟩) ?_
            refine wpAny_take (i := 13) (v := .bool false) rfl (by kernel_rfl) (by kernel_rfl) (by kernel_rfl) (fun _ _ _ h => h) (Or.inl ⟨by kernel_rfl, fun _ => by go_simp⟩) ?_
            refine wpAny_done (by kernel_rfl) ?_ _
            simp only [Act.put, List.getElem_toArray, List.getElem_cons_zero, List.getElem_cons_succ, List.setIfInBounds_toArray, List.set_cons_zero, List.set_cons_succ]
            go_wp2
            go_roundw
            case rel => exact ⟨_, cnt1, E, m, HEL.out, rfl, hm, HRD.out, HNX.out, HAD.out, HBD.out, HZ3.out.1⟩
            case measure => rw [HRD.out.left_eq, HRG.out.left_eq]; exact HLT.out
end Go.Proofs.Ytbnicblafbkcjaa
-- Lo3
