/- IdleRungs, of the program and of the model. -/
import Derived.Test.YtbodimhjbbmniaaSo22
namespace Go.Proofs.Ytbodimhjbbmniaa
open Go Go.RowKit Go.Conc

def idL (W : Int) (zs : List Int) : List Int := if lad W zs = true then idK (bsyN zs W.toNat) zs.length else []
theorem idL_no {W : Int} {zs : List Int} (h : lad W zs = false) : idL W zs = [] := by unfold idL; rw [if_neg (by rw [h]; decide)]
theorem idL_yes {W : Int} {zs : List Int} (h : lad W zs = true) : idL W zs = idK (bsyN zs W.toNat) zs.length := by unfold idL; rw [if_pos h]
theorem idL_le (W : Int) (zs : List Int) : (idL W zs).length ≤ 1000 := by
  rcases h : lad W zs with _ | _
  · rw [idL_no h]; simp
  · rw [idL_yes h]
    have := idK_le (bsyN zs W.toNat) zs.length
    have := (lad_iff.1 h).2.1
    omega

set_option maxRecDepth 100000 in
set_option maxHeartbeats 2000000 in
theorem iIdleRungs_any (W : Int) (A : Option Addr) (m c : Nat) (zs : List Int) (w : World) (h : RI w A m zs) (hm : m ≤ 1048576) :
    Calls Try.prog 31 #[.agg #[.int .i64 W, .slice A m c]] w (FreshIB w (idL W zs).length (idL W zs) (lad W zs)) := by
  rcases hq : lad W zs with _ | _
  · rw [idL_no hq]
    have HW := Lib.hid hq
    clear hq
    go_enter Try.func31, Try.ntmps31
    go_wp2_with fail
    have HB := belAlloc (belRefl (w := w)) (.cells #[.int .i64 W, .slice A m c] 28)
    refine (iIsLadder_any W A m c zs _ (h.alloc _) hm).mono ?_
    rw [HW.out]
    rintro e w1 ⟨rfl, hb⟩
    replace HB := belStep HB hb
    clear hb h
    go_wp2
    go_ret2
    exact ⟨none, 0, rfl, OI.none_ _ _, HB.out⟩
  · rw [idL_yes hq]
    have h4 := (lad_iff.1 hq).1
    have h5 := (lad_iff.1 hq).2.1
    have hml := h.1
    obtain ⟨N, rfl⟩ : ∃ N : Nat, W = (N : Int) := ⟨W.toNat, by omega⟩
    rw [Int.toNat_natCast]
    have hz : rungsIn zs N := by have := rungsIn_of_lad hq; rwa [Int.toNat_natCast] at this
    have HW := Lib.hid hq
    have hn8 : N ≤ 8 := by omega
    have hn0 : 0 < N := by omega
    have hm6 : m ≤ 60 := by omega
    have hP2 : 2 ^ N ≤ 256 := pow2_le hn8
    have hbl := bitsAll_length N
    have hbr : ∀ j, j < 2 ^ N → (gz (bitsAll N) j).length = N := fun j hj => bitsAll_row hj
    rw [hml]
    have HS := Lib.hid (fun w2 (r : RI w2 A m zs) => splitIdle_any N A m c zs w2 r hn8 hn0 hm6 hz)
    obtain ⟨Y, hY⟩ : ∃ Y, Y = idK (bsyN zs N) m := ⟨_, rfl⟩
    obtain ⟨Z, hZ⟩ : ∃ Z, Z = otK zs (bsyN zs N) m := ⟨_, rfl⟩
    rw [← hY, ← hZ] at HS
    rw [← hY]
    clear hq h4 h5 hz hml hbr hbl hP2 hY hZ
    go_enter Try.func31, Try.ntmps31
    go_wp2_with fail
    have HA := boxNew (W := (N : Int)) (c := c) 28 h
    have HB := belAlloc (belRefl (w := w)) (.cells #[.int .i64 (N : Int), .slice A m c] 28)
    refine (iIsLadder_any (N : Int) A m c zs _ (h.alloc _) hm).mono ?_
    rw [HW.out]
    rintro e w1 ⟨rfl, hb⟩
    replace HA := boxStep HA hb
    replace HB := belStep HB hb
    have a0 := HA.out.c0; have a1 := HA.out.c1; have az := HA.out.lt
    have z1 := HB.out.size
    clear hb h
    go_wp2_with fail
    refine (HS.out _ HA.out.ri).mono ?_
    rintro e w2 ⟨I1, i1, O1, o1, rfl, hI, -, hb⟩
    replace HB := belStep HB hb
    have HI := Lib.hid (hI.mono z1)
    clear hI hb
    go_wp2
    go_ret2
    exact ⟨I1, i1, rfl, HI.out, HB.out⟩

set_option maxRecDepth 100000 in
set_option maxHeartbeats 2000000 in
theorem sIdleRungs_any (W : Int) (A : Option Addr) (m c : Nat) (zs : List Int) (w : World) (h : RI w A m zs) (hm : m ≤ 1048576) :
    Calls Try.prog 30 #[.agg #[.int .i64 W, .slice A m c]] w (FreshIB w (idL W zs).length (idL W zs) (lad W zs)) := by
  rcases hq : lad W zs with _ | _
  · rw [idL_no hq]
    have HW := Lib.hid hq
    clear hq
    go_enter Try.func30, Try.ntmps30
    go_wp2_with fail
    have HB := belAlloc (belRefl (w := w)) (.cells #[.int .i64 W, .slice A m c] 28)
    refine (laGood_any W A m c zs _ (h.alloc _) hm).mono ?_
    rw [HW.out]
    rintro e w1 ⟨rfl, hb⟩
    replace HB := belStep HB hb
    clear hb h
    go_wp2
    go_ret2
    exact ⟨none, 0, rfl, OI.none_ _ _, HB.out⟩
  · rw [idL_yes hq]
    have h4 := (lad_iff.1 hq).1
    have h5 := (lad_iff.1 hq).2.1
    have hml := h.1
    obtain ⟨N, rfl⟩ : ∃ N : Nat, W = (N : Int) := ⟨W.toNat, by omega⟩
    rw [Int.toNat_natCast]
    have hz : rungsIn zs N := by have := rungsIn_of_lad hq; rwa [Int.toNat_natCast] at this
    have HW := Lib.hid hq
    have hn8 : N ≤ 8 := by omega
    have hn0 : 0 < N := by omega
    have hm6 : m ≤ 60 := by omega
    have hP2 : 2 ^ N ≤ 256 := pow2_le hn8
    have hbl := bitsAll_length N
    have hbr : ∀ j, j < 2 ^ N → (gz (bitsAll N) j).length = N := fun j hj => bitsAll_row hj
    rw [hml]
    have HS := Lib.hid (fun w2 (r : RI w2 A m zs) => soIdle_any N A m c zs w2 r hn8 hn0 hm6 hz)
    obtain ⟨bs, hbs⟩ : ∃ bs, bs = bsyN zs N := ⟨_, rfl⟩
    rw [← hbs] at HS ⊢
    clear hq h4 h5 hz hml hbr hbl hP2 hbs
    go_enter Try.func30, Try.ntmps30
    go_wp2_with fail
    have HA := boxNew (W := (N : Int)) (c := c) 28 h
    have HB := belAlloc (belRefl (w := w)) (.cells #[.int .i64 (N : Int), .slice A m c] 28)
    refine (laGood_any (N : Int) A m c zs _ (h.alloc _) hm).mono ?_
    rw [HW.out]
    rintro e w1 ⟨rfl, hb⟩
    replace HA := boxStep HA hb
    replace HB := belStep HB hb
    have a0 := HA.out.c0; have a1 := HA.out.c1; have az := HA.out.lt
    have z1 := HB.out.size
    clear hb h
    go_wp2_with fail
    refine (HS.out _ HA.out.ri).mono ?_
    rintro e w2 ⟨g, rfl, hg, hR, hb⟩
    replace HB := belStep HB hb
    have HR := Lib.hid hR
    obtain ⟨cR, hhR, _⟩ := hR
    have hgl : g < w2.heap.size := (Array.getElem?_eq_some_iff.1 hhR).1
    have hw2 := HB.out.size
    clear hb hhR
    go_wp2
    go_loopw [4, 13] (fun s4 i wr => ∃ (k : Nat) (I1 : Option Addr) (i1 : Nat), k ≤ m ∧ i = .int .i64 k ∧ s4 = .slice I1 (idK bs k).length i1 ∧ OI wr w2.heap.size I1 (idK bs k).length i1 (idK bs k) ∧ Below w2.heap.size w2 wr) (fun _ i _ => m - (intOf i).toNat)
    case atStart => exact ⟨0, none, 0, Nat.zero_le _, rfl, rfl, OI.none_ _ _, Below.refl _ _⟩
    case round =>
      obtain ⟨k, I1, i1, hk, rfl, rfl, hI, hb⟩ := hrel
      have HI := Lib.hid hI; have HBr := Lib.hid hb
      have hzr := hb.size
      have hil := idK_le bs k
      by_cases hlk : k < m
      · have hRr : wr.rowIs g 4 m (fun a => .bool (!(bs a))) := rowBelow HR.out hb hgl
        have hd := hRr.cell hlk
        obtain ⟨q, hq⟩ : ∃ q, q = bs k := ⟨_, rfl⟩
        rw [← hq] at hd
        have HQ := Lib.hid hq
        clear hI hb hRr hq
        cases q
        · have HXX := Lib.hid (idK_no HQ.out.symm)
          simp only [Bool.not_false] at hd
          go_wp2_with (at_builtin; refine wpList_append_intL _ rfl _ _ rfl w2.heap.size I1 _ i1 _ (k : Int) wr.heap.size rfl rfl (HI.out.alloc _) (by simp) (by omega) (by simp; omega) ?_; intro E5 d5 w5 ho5 hg5 hl5)
          go_roundw
          case rel =>
            refine ⟨k + 1, E5, d5, by omega, by go_num, by rw [HXX.out, List.length_append, List.length_singleton], ?_, ?_⟩
            · rw [HXX.out, List.length_append, List.length_singleton]; exact ho5
            · exact (HBr.out.alloc hzr _).trans (ofMark (HI.out.alloc _) hg5 (Nat.le_refl _) (by simp; omega))
          case measure => simp [intOf]; omega
        · have HXX := Lib.hid (idK_yes HQ.out.symm)
          simp only [Bool.not_true] at hd
          go_wp2
          go_roundw
          case rel => exact ⟨k + 1, I1, i1, by omega, by go_num, by rw [HXX.out], by rw [HXX.out]; exact HI.out, HBr.out⟩
          case measure => simp [intOf]; omega
      · obtain rfl : k = m := by omega
        have HBW : Hid (Below w.heap.size w wr) := Lib.hid (HB.out.trans (hb.mono hw2))
        clear hI hb
        go_wp2
        go_ret2
        exact ⟨I1, i1, rfl, HI.out.mono hw2, HBW.out⟩
end Go.Proofs.Ytbodimhjbbmniaa
