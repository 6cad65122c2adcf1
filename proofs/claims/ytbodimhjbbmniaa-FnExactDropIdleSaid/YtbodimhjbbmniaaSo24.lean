/- DropIdle, of the program and of the model. -/
import Derived.Test.YtbodimhjbbmniaaSo23
import Derived.Test.YtbodimhjbbmniaaMgE
import Derived.Test.YtbodimhjbbmniaaApS
import Derived.Deep.RegionLaw
namespace Go.Proofs.Ytbodimhjbbmniaa
open Go Go.RowKit Go.Conc

def diL (W : Int) (zs : List Int) : List Int := otK zs (bsyN zs W.toNat) zs.length
theorem oiD24 {w : World} {B : Nat} {A : Option Addr} {n c : Nat} {zs : List Int} (h : OI w B A n c zs) : OI w.drew B A n c zs := h
theorem mem_gi {zs : List Int} {j : Nat} (h : j < zs.length) : gi zs j ∈ zs := by rw [gi_lt h]; exact List.getElem_mem h
theorem lad_sub {W : Int} {zs ys : List Int} (h : lad W zs = true) (hl : ys.length ≤ zs.length) (hm : ∀ y, y ∈ ys → ∃ j, j < zs.length ∧ y = gi zs j) : lad W ys = true := by
  have h1 := lad_iff.1 h
  refine lad_iff.2 ⟨h1.1, by omega, allIn_true fun j hj => ?_⟩
  obtain ⟨i, hi, e⟩ := hm _ (mem_gi hj)
  rw [e]
  exact inB_true (lad_at h hi)
theorem diL_lad {W : Int} {zs : List Int} (h : lad W zs = true) : lad W (diL W zs) = true := by
  refine lad_sub h (otK_le _ _ _) fun y hy => ?_
  unfold diL otK at hy
  obtain ⟨a, ha, rfl⟩ := List.mem_map.1 hy
  have := (List.mem_filter.1 ha).1
  exact ⟨a, List.mem_range.1 this, rfl⟩
theorem diN_len (W : Int) (zs : List Int) : (ifL (lad W zs) (diL W zs)).length ≤ 1000 := by
  rcases h : lad W zs with _ | _
  · rw [ifL_no]; simp
  · rw [ifL_yes]
    have := otK_le zs (bsyN zs W.toNat) zs.length
    have := (lad_iff.1 h).2.1
    unfold diL; omega

set_option maxRecDepth 100000 in
set_option maxHeartbeats 2000000 in
theorem iDropIdle_any (W : Int) (A : Option Addr) (m c : Nat) (zs : List Int) (w : World) (h : RI w A m zs) (hm : m ≤ 1048576) :
    Calls Try.prog 33 #[.agg #[.int .i64 W, .slice A m c]] w (FreshLB w (ifW (lad W zs) W) (ifL (lad W zs) (diL W zs)).length (ifL (lad W zs) (diL W zs)) (lad W zs)) := by
  rcases hq : lad W zs with _ | _
  · rw [ifW_no, ifL_no]
    have HW := Lib.hid hq
    clear hq
    go_enter Try.func33, Try.ntmps33
    go_wp2_with fail
    have HB := belAlloc (belAlloc (belRefl (w := w)) (.cells #[.int .i64 W, .slice A m c] 28)) (.cells #[.int .i64 0, .slice none 0 0] 28)
    have HC := cellNew (w.alloc (.cells #[.int .i64 W, .slice A m c] 28)) (.int .i64 0) (.slice none 0 0) 28
    refine (iIsLadder_any W A m c zs _ ((h.alloc _).alloc _) hm).mono ?_
    rw [HW.out]
    rintro e w1 ⟨rfl, hb⟩
    replace HB := belStep HB hb
    replace HC := cellStep HC hb
    have k0 := HC.out.c0; have k1 := HC.out.c1; have f0 := HC.out.f0; have f1 := HC.out.f1; have hz := HC.out.lt
    simp only [World.size_alloc] at k0 k1 f0 f1 hz
    clear hb h
    go_wp2
    exact bodyPost_ret (v := .tuple #[.agg #[.int .i64 0, .slice none 0 0], .bool false]) (by simp [results, Try.results33, go_sem, k0, k1]) rfl ⟨none, 0, rfl, OI.none_ _ _, (by repeat (first | exact Below.refl _ _ | exact HB.out | refine Below.setCell ?_ (by simp <;> omega) _ | refine Below.alloc ?_ (by simp <;> omega) _ | refine below_drewN ?_ _))⟩
  · rw [ifW_yes, ifL_yes]
    have hdl := diL_lad hq
    have hdn := otK_le zs (bsyN zs W.toNat) zs.length
    unfold diL at hdl ⊢
    have h4 := (lad_iff.1 hq).1
    have h5 := (lad_iff.1 hq).2.1
    have hml := h.1
    obtain ⟨N, rfl⟩ : ∃ N : Nat, W = (N : Int) := ⟨W.toNat, by omega⟩
    rw [Int.toNat_natCast]
    have hz : rungsIn zs N := by have := rungsIn_of_lad hq; rwa [Int.toNat_natCast] at this
    have HW := Lib.hid hq
    have hn8 : N ≤ 8 := by omega
    have hn0 : 0 < N := by omega
    have hm6 : m ≤ 60 := by omega
    have hP2 : 2 ^ N ≤ 256 := pow2_le hn8
    have hbl := bitsAll_length N
    have hbr : ∀ j, j < 2 ^ N → (gz (bitsAll N) j).length = N := fun j hj => bitsAll_row hj
    rw [Int.toNat_natCast, hml] at hdl hdn
    rw [hml]
    have HS := Lib.hid (fun w2 (r : RI w2 A m zs) => splitIdle_any N A m c zs w2 r hn8 hn0 hm6 hz)
    obtain ⟨Y, hY⟩ : ∃ Y, Y = idK (bsyN zs N) m := ⟨_, rfl⟩
    obtain ⟨Z, hZ⟩ : ∃ Z, Z = otK zs (bsyN zs N) m := ⟨_, rfl⟩
    rw [← hY, ← hZ] at HS
    rw [← hZ] at hdl hdn ⊢
    have HDL := Lib.hid hdl
    clear hq h4 h5 hz hml hbr hbl hP2 hY hZ hdl
    go_enter Try.func33, Try.ntmps33
    go_wp2_with fail
    have HA := boxAlloc (boxNew (W := (N : Int)) (c := c) 28 h) (.cells #[.int .i64 0, .slice none 0 0] 28)
    have HB := belAlloc (belAlloc (belRefl (w := w)) (.cells #[.int .i64 (N : Int), .slice A m c] 28)) (.cells #[.int .i64 0, .slice none 0 0] 28)
    have HC := cellNew (w.alloc (.cells #[.int .i64 (N : Int), .slice A m c] 28)) (.int .i64 0) (.slice none 0 0) 28
    refine (iIsLadder_any (N : Int) A m c zs _ HA.out.ri hm).mono ?_
    rw [HW.out]
    rintro e w1 ⟨rfl, hb⟩
    replace HA := boxStep HA hb
    replace HB := belStep HB hb
    replace HC := cellStep HC hb
    simp only [World.size_alloc] at HC
    have a0 := HA.out.c0; have a1 := HA.out.c1; have az := HA.out.lt
    have z1 : w.heap.size + 2 ≤ w1.heap.size := by have := hb.size; simp at this; omega
    clear hb h
    go_wp2_with fail
    refine (HS.out _ HA.out.ri).mono ?_
    rintro e w2 ⟨I1, i1, O1, o1, rfl, -, hO, hb⟩
    replace HA := boxStep HA hb
    replace HB := belStep HB hb
    replace HC := cellStep HC hb
    replace a0 := HA.out.c0; replace a1 := HA.out.c1; replace az := HA.out.lt
    have HO := Lib.hid hO
    have z2 : w.heap.size + 2 ≤ w2.heap.size := by have := hb.size; omega
    clear hO hb
    go_wp2_with fail
    refine (ladderOf_one (N : Int) O1 Z.length o1 Z w2 HO.out.ri (by omega) HDL.out).mono ?_
    rintro e w3 ⟨A5, c5, rfl, o5, hb⟩
    have HN := Lib.hid (o5.mono (show w.heap.size + 2 ≤ _ by simp; omega))
    replace HB := belStep (belAlloc HB (.cells #[.slice O1 Z.length o1] 22)) hb
    replace HC := cellStep (cellAlloc HC (.cells #[.slice O1 Z.length o1] 22)) hb
    have k0 := HC.out.c0; have k1 := HC.out.c1; have f0 := HC.out.f0; have f1 := HC.out.f1; have hz := HC.out.lt
    clear o5 hb a0 a1 az
    go_wp2
    exact bodyPost_ret (v := .tuple #[.agg #[.int .i64 (N : Int), .slice A5 Z.length c5], .bool true]) (by simp [results, Try.results33, go_sem, k0, k1]) rfl
      ⟨A5, c5, rfl, ((HN.out.setBelow (by simp <;> omega) _).setBelow (by simp <;> omega) _).mono (by omega), (HB.out.setCell (by simp) _).setCell (by simp) _⟩

set_option maxRecDepth 100000 in
set_option maxHeartbeats 4000000 in
theorem sDropIdle_any (W : Int) (A : Option Addr) (m c : Nat) (zs : List Int) (w : World) (h : RI w A m zs) (hm : m ≤ 1048576) :
    Calls Try.prog 32 #[.agg #[.int .i64 W, .slice A m c]] w (FreshLB w (ifW (lad W zs) W) (ifL (lad W zs) (diL W zs)).length (ifL (lad W zs) (diL W zs)) (lad W zs)) := by
  rcases hq : lad W zs with _ | _
  · rw [ifW_no, ifL_no]
    have HW := Lib.hid hq
    clear hq
    go_enter Try.func32, Try.ntmps32
    go_wp2_with fail
    have HB := belAlloc (belAlloc (belRefl (w := w)) (.cells #[.int .i64 W, .slice A m c] 28)) (.cells #[.int .i64 0, .slice none 0 0] 28)
    have HC := cellNew (w.alloc (.cells #[.int .i64 W, .slice A m c] 28)) (.int .i64 0) (.slice none 0 0) 28
    refine (laGood_any W A m c zs _ ((h.alloc _).alloc _) hm).mono ?_
    rw [HW.out]
    rintro e w1 ⟨rfl, hb⟩
    replace HB := belStep HB hb
    replace HC := cellStep HC hb
    have k0 := HC.out.c0; have k1 := HC.out.c1; have f0 := HC.out.f0; have f1 := HC.out.f1; have hz := HC.out.lt
    simp only [World.size_alloc] at k0 k1 f0 f1 hz
    clear hb h
    go_wp2
    exact bodyPost_ret (v := .tuple #[.agg #[.int .i64 0, .slice none 0 0], .bool false]) (by simp [results, Try.results32, go_sem, k0, k1]) rfl ⟨none, 0, rfl, OI.none_ _ _, (by repeat (first | exact Below.refl _ _ | exact HB.out | refine Below.setCell ?_ (by simp <;> omega) _ | refine Below.alloc ?_ (by simp <;> omega) _ | refine below_drewN ?_ _))⟩
  · rw [ifW_yes, ifL_yes]
    unfold diL
    have h4 := (lad_iff.1 hq).1
    have h5 := (lad_iff.1 hq).2.1
    have hml := h.1
    obtain ⟨N, rfl⟩ : ∃ N : Nat, W = (N : Int) := ⟨W.toNat, by omega⟩
    rw [Int.toNat_natCast]
    have hz : rungsIn zs N := by have := rungsIn_of_lad hq; rwa [Int.toNat_natCast] at this
    have HW := Lib.hid hq
    have hn8 : N ≤ 8 := by omega
    have hn0 : 0 < N := by omega
    have hm6 : m ≤ 60 := by omega
    have hP2 : 2 ^ N ≤ 256 := pow2_le hn8
    have hbl := bitsAll_length N
    have hbr : ∀ j, j < 2 ^ N → (gz (bitsAll N) j).length = N := fun j hj => bitsAll_row hj
    rw [hml]
    have HS := Lib.hid (fun w2 (r : RI w2 A m zs) => soIdle_any N A m c zs w2 r hn8 hn0 hm6 hz)
    obtain ⟨bs, hbs⟩ : ∃ bs, bs = bsyN zs N := ⟨_, rfl⟩
    rw [← hbs] at HS ⊢
    clear hq h4 h5 hz hml hbr hbl hP2 hbs
    go_enter Try.func32, Try.ntmps32
    go_wp2_with fail
    have HA := boxAlloc (boxNew (W := (N : Int)) (c := c) 28 h) (.cells #[.int .i64 0, .slice none 0 0] 28)
    have HB := belAlloc (belAlloc (belRefl (w := w)) (.cells #[.int .i64 (N : Int), .slice A m c] 28)) (.cells #[.int .i64 0, .slice none 0 0] 28)
    have HC := cellNew (w.alloc (.cells #[.int .i64 (N : Int), .slice A m c] 28)) (.int .i64 0) (.slice none 0 0) 28
    refine (laGood_any (N : Int) A m c zs _ HA.out.ri hm).mono ?_
    rw [HW.out]
    rintro e w1 ⟨rfl, hb⟩
    replace HA := boxStep HA hb
    replace HB := belStep HB hb
    replace HC := cellStep HC hb
    simp only [World.size_alloc] at HC
    have a0 := HA.out.c0; have a1 := HA.out.c1; have az := HA.out.lt
    have z1 : w.heap.size + 2 ≤ w1.heap.size := by have := hb.size; simp at this; omega
    clear hb h
    go_wp2_with fail
    obtain ⟨w2, hw2⟩ : ∃ v : World, v = w1.alloc (.cells #[.int .i64 (N : Int), .slice none 0 0] 28) := ⟨_, rfl⟩
    have HM := cellNew w1 (.int .i64 (N : Int)) (.slice none 0 0) 28
    have HA1 : Hid (BoxB w1 w1.heap.size w.heap.size (N : Int) A m c zs) := Lib.hid (BoxB.of HA.out)
    replace HA := boxAlloc HA (.cells #[.int .i64 (N : Int), .slice none 0 0] 28)
    replace HB := belAlloc HB (.cells #[.int .i64 (N : Int), .slice none 0 0] 28)
    replace HC := cellAlloc HC (.cells #[.int .i64 (N : Int), .slice none 0 0] 28)
    rw [← hw2] at HM HA HB HC ⊢
    have hb12 : Below w1.heap.size w1 w2 := by rw [hw2]; exact allocBel w1 _
    have hm12 : w1.heap.size < w2.heap.size := HM.out.lt
    clear hw2 a0 a1 az
    refine (HS.out _ HA.out.ri).mono ?_
    rintro e w3 ⟨g, rfl, hg, hR, hb⟩
    replace HA := boxStep HA hb
    replace HB := belStep HB hb
    replace HC := cellStep HC hb
    replace HM := cellStep HM hb
    replace HA1 : Hid (BoxB w3 w1.heap.size w.heap.size (N : Int) A m c zs) := Lib.hid ((HA1.out.step hb12).step (hb.mono (by omega)))
    have HR := Lib.hid hR
    obtain ⟨cR, hhR, _⟩ := hR
    have hgl : g < w3.heap.size := (Array.getElem?_eq_some_iff.1 hhR).1
    have hgm : w1.heap.size < g := by omega
    have hml3 : w1.heap.size < w3.heap.size := HM.out.lt
    have a0 := HA.out.c0; have a1 := HA.out.c1; have az := HA.out.lt
    clear hb hhR
    go_wp2
    go_loopw [17] (fun i wr => ∃ (k : Nat) (E : Option Addr) (d : Nat), k ≤ m ∧ i = .int .i64 k ∧ Cell2 wr w1.heap.size (.int .i64 (N : Int)) (.slice E (otK zs bs k).length d) ∧ OI wr w3.heap.size E (otK zs bs k).length d (otK zs bs k) ∧ wr.rowIs g 4 m (fun a => .bool (!(bs a))) ∧ Below w1.heap.size w3 wr) (fun i _ => m - (intOf i).toNat)
    case atStart => exact ⟨0, none, 0, Nat.zero_le _, rfl, HM.out, OI.none_ _ _, HR.out, Below.refl _ _⟩
    case round =>
      obtain ⟨k, E, d, hk, rfl, hM, hE, hR, hb⟩ := hrel
      have HMr := Lib.hid hM; have HE := Lib.hid hE; have HRr := Lib.hid hR; have HBr := Lib.hid hb
      have HAr : Hid (BoxB wr w1.heap.size w.heap.size (N : Int) A m c zs) := Lib.hid (HA1.out.step hb)
      have b0 := HAr.out.c0; have b1 := HAr.out.c1
      have hzr : w3.heap.size ≤ wr.heap.size := hb.size
      have hol := otK_le zs bs k
      have m0 := hM.c0; have m1 := hM.c1; have mf0 := hM.f0; have mf1 := hM.f1; have mz := hM.lt
      clear a0 a1 az
      by_cases hlk : k < m
      · have hd := hR.cell hlk
        obtain ⟨b, off, rfl, hbw, hc⟩ := HAr.out.rb.ri.cell hlk
        have hck := hc k hlk
        obtain ⟨q, hq⟩ : ∃ q, q = bs k := ⟨_, rfl⟩
        rw [← hq] at hd
        have HQ := Lib.hid hq
        have i1 : (k : Int) < (m : Int) := by omega
        have i0 : (0 : Int) ≤ (k : Int) := by omega
        clear hM hE hR hb hc hq
        cases q
        · have HXX := Lib.hid (otK_no (zs := zs) HQ.out.symm)
          simp only [Bool.not_false] at hd
          go_wp2
          go_roundw
          case rel => exact ⟨k + 1, E, d, by omega, by go_num, by rw [HXX.out]; exact HMr.out, by rw [HXX.out]; exact HE.out, HRr.out, HBr.out⟩
          case measure => simp [intOf]; omega
        · have HXX := Lib.hid (otK_yes (zs := zs) HQ.out.symm)
          obtain ⟨x, hx⟩ : ∃ x, x = gi zs k := ⟨_, rfl⟩
          rw [← hx] at hck HXX
          clear hx
          simp only [Bool.not_true] at hd
          go_wp2
          go_region_law (refine step_append_intL _ rfl (.tmp 25) (.tmp 31) rfl w3.heap.size E _ d _ x wr.heap.size rfl rfl (by first | exact HE.out.alloc _ | exact oiD24 (HE.out.alloc _)) (by simp) (by omega) (by simp; omega) ?_; intro E5 d5 w5 ho5 hg5 hl5; have HM5 := cellKeptNe (cellDrew (cellAlloc HMr _)) hg5 (oiD24 (HE.out.alloc _)) hml3; have n0 := HM5.out.c0; have n1 := HM5.out.c1; have nf0 := HM5.out.f0; have nf1 := HM5.out.f1; have nz := HM5.out.lt)
          all_goals
            go_wp2
            go_roundw
            case rel =>
              refine ⟨k + 1, E5, d5, by omega, by go_num, ?_, ?_, ?_, ?_⟩
              · rw [HXX.out, List.length_append, List.length_singleton]; exact (cellSet1 HM5 _).out
              · rw [HXX.out, List.length_append, List.length_singleton]; exact ho5.setBelow hml3 _
              · obtain ⟨c9, hh, hs, hc⟩ := HRr.out
                have hgw : g < wr.heap.size := (Array.getElem?_eq_some_iff.1 hh).1
                refine ⟨c9, ?_, hs, hc⟩
                rw [Below.heap_setCell _ _ _ _ (by simp; omega), hg5.block g (by simp; omega) (fun e => by
                  have := (HE.out.blk g e.symm).1
                  omega)]
                exact (Below.heap_alloc _ _ _ (by simpa using hgw)).trans hh
              · exact (((HBr.out.alloc (by omega) _).drew.trans (ofMark (K := w1.heap.size) (oiD24 (HE.out.alloc _)) hg5 (by omega) (by simp; omega))).setCell (Nat.le_refl _) _)
            case measure => simp [intOf]; omega
      · obtain rfl : k = m := by omega
        have HCr := cellBelow HC (show w.heap.size + 1 < w1.heap.size by omega) hb
        have k0 := HCr.out.c0; have k1 := HCr.out.c1; have f0 := HCr.out.f0; have f1 := HCr.out.f1; have cz := HCr.out.lt
        have hw3 := HB.out.size
        clear hM hE hR hb
        go_wp2
        exact bodyPost_ret (v := .tuple #[.agg #[.int .i64 (N : Int), .slice E (otK zs bs k).length d], .bool true]) (by simp [results, Try.results32, go_sem, k0, k1]) rfl
          ⟨E, d, rfl, ((HE.out.setBelow (by simp; omega) _).setBelow (by simp; omega) _).mono (by omega), ((HB.out.trans (HBr.out.mono (by omega))).setCell (by simp) _).setCell (by simp) _⟩
end Go.Proofs.Ytbodimhjbbmniaa
