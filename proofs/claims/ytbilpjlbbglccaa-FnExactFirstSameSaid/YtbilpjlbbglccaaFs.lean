/- The contracts of FirstSame, of the program and of its model. -/
import Derived.Test.YtbilpjlbbglccaaNf3
import Derived.Test.YtbilpjlbbglccaaNf4
import Derived.Test.YtbilpjlbbglccaaMv4
namespace Go.Proofs.Ytbilpjlbbglccaa
open Go Go.RowKit

theorem nrmF_mem : ∀ (f : Nat) (zs : List Int), f ≤ zs.length → ∀ x ∈ nrmF f zs, x ∈ zs
  | 0, _, _ => by simp [nrmF]
  | f + 1, zs, h => by
    intro x hx
    have hb := bst_lt zs zs.length (by omega)
    simp only [nrmF, List.mem_cons] at hx
    rcases hx with rfl | hx
    · exact gi_mem hb
    · have := nrmF_mem f (zs.eraseIdx (bst zs zs.length)) (by rw [List.length_eraseIdx, if_pos hb]; omega) x hx
      exact List.mem_of_mem_eraseIdx this
theorem nrm_lad {W : Int} {zs : List Int} (h : lad W zs = true) : lad W (nrm zs) = true :=
  lad_sub h (by rw [nrm_len]; exact Nat.le_refl _) (nrmF_mem _ _ (Nat.le_refl _))
theorem fsL_len (W : Int) (zs : List Int) : (ifL (lad W zs) (nrm zs)).length ≤ 1000 := by
  rcases h : lad W zs with _ | _
  · rw [ifL_no]; simp
  · rw [ifL_yes]
    have := (lad_iff.1 (nrm_lad h)).2.1
    omega

set_option maxRecDepth 100000 in
set_option maxHeartbeats 1000000 in
theorem sFirstSame_any (W : Int) (A : Option Addr) (n c : Nat) (zs : List Int) (w : World) (h : RI w A n zs) (hn : n ≤ 1048576) (_hnc : n ≤ c) :
    Calls Try.prog 25 #[.agg #[.int .i64 W, .slice A n c]] w (FreshLB w (ifW (lad W zs) W) (ifL (lad W zs) (nrm zs)).length (ifL (lad W zs) (nrm zs)) (lad W zs)) := by
  have HB := belAlloc (belAlloc (belRefl (w := w)) (.cells #[.int .i64 W, .slice A n c] 26)) (.cells #[.int .i64 0, .slice none 0 0] 26)
  have HC : Hid (Cell2 ((w.alloc (.cells #[.int .i64 W, .slice A n c] 26)).alloc (.cells #[.int .i64 0, .slice none 0 0] 26)) (w.heap.size + 1) (.int .i64 0) (.slice none 0 0)) := by have := cellNew (w.alloc (.cells #[.int .i64 W, .slice A n c] 26)) (.int .i64 0) (.slice none 0 0) 26; simp only [World.size_alloc] at this; exact this
  have HA := boxAlloc (boxNew (W := W) (c := c) 26 h) (.cells #[.int .i64 0, .slice none 0 0] 26)
  have hl := h.1
  clear h
  rcases hq : lad W zs with _ | _
  · rw [ifW_no, ifL_no]
    have HW := Lib.hid hq
    clear hq
    go_enter Try.func25, Try.ntmps25
    go_wp2_with fail
    refine (laGood_any W A n c zs _ HA.out.ri hn).mono ?_
    rw [HW.out]
    rintro e w1 ⟨rfl, hb⟩
    replace HB := belStep HB hb
    replace HC := cellStep HC hb
    have k0 := HC.out.c0; have k1 := HC.out.c1; have f0 := HC.out.f0; have f1 := HC.out.f1; have hz := HC.out.lt
    clear hb
    go_wp2
    exact bodyPost_ret (v := .tuple #[.agg #[.int .i64 0, .slice none 0 0], .bool false]) (by simp [results, Try.results25, go_sem, k0, k1]) rfl ⟨none, 0, rfl, OI.none_ _ _, (by repeat (first | exact Below.refl _ _ | exact HB.out | refine Below.setCell ?_ (by simp <;> omega) _ | refine Below.alloc ?_ (by simp <;> omega) _ | refine below_drewN ?_ _))⟩
  · rw [ifW_yes, ifL_yes]
    have hn60 : n ≤ 60 := by have := (lad_iff.1 hq).2.1; omega
    have HFS : Hid (∀ (A : Option Addr) (w : World), RI w A n zs → Calls Try.prog 40 #[.slice A n c] w (FreshI w n (nrm zs))) := fun A w h => lsNormal_any A n c zs w h (by omega) (lad_small hq)
    have HL2 := Lib.hid (nrm_lad hq)
    have hln : (nrm zs).length = n := by rw [nrm_len, hl]
    obtain ⟨L, hL⟩ : ∃ L, L = nrm zs := ⟨_, rfl⟩
    rw [← hL] at HFS HL2 hln ⊢
    rw [hln]
    have HW := Lib.hid hq
    clear hq hL hln
    go_enter Try.func25, Try.ntmps25
    go_wp2_with fail
    refine (laGood_any W A n c zs _ HA.out.ri hn).mono ?_
    rw [HW.out]
    rintro e w1 ⟨rfl, hb⟩
    replace HA := boxStep HA hb
    replace HB := belStep HB hb
    replace HC := cellStep HC hb
    have hz1 := HC.out.lt
    clear hb
    go_wp2_with fail
    have HD := boxDrew HA; have HBD := belDrew HB; have HCD := cellDrew HC
    go_region_held3 (fun w' => w'.cell? ⟨w.heap.size, 0, none⟩ = some (.int .i64 W) ∧ w'.cell? ⟨w.heap.size, 1, none⟩ = some (.slice A n c))
      (first | exact ⟨HA.out.c0, HA.out.c1⟩ | exact ⟨HA6.out.c0, HA6.out.c1⟩ | exact ⟨(boxAlloc HA6 _).out.c0, (boxAlloc HA6 _).out.c1⟩ | exact ⟨HA7.out.c0, HA7.out.c1⟩ | exact ⟨(World.cell?_setCell_other _ _ _ _ (by simp)).trans ((World.cell?_setCell_other _ _ _ _ (by simp)).trans HA7.out.c0), (World.cell?_setCell_other _ _ _ _ (by simp)).trans ((World.cell?_setCell_other _ _ _ _ (by simp)).trans HA7.out.c1)⟩)
      ((go_at_call 40; refine (HFS.out A _ HD.out.ri).mono ?_; rintro e w7 ⟨A7, c7, rfl, o7, hb⟩; have HA7 := boxStep HD hb; have HA6 := HA7; have HB7 := belStep HBD hb; have HC7 := cellStep HCD hb; have O7 : Hid (OI w7 w1.heap.size A7 n c7 L) := o7; have k0 := HC7.out.c0; have k1 := HC7.out.c1; have f0 := HC7.out.f0; have f1 := HC7.out.f1; clear hb o7))
    have HB := HB7
    go_wp2
    have k0 := HC7.out.c0
    have k1 := HC7.out.c1
    have hz := HC7.out.lt
    exact bodyPost_ret (v := .tuple #[.agg #[.int .i64 W, .slice A7 n c7], .bool true]) (by simp [results, Try.results25, go_sem, k0, k1]) rfl
      ⟨A7, c7, rfl, ((O7.out.setBelow (show w.heap.size + 1 < w1.heap.size by omega) _).setBelow (show w.heap.size + 1 < w1.heap.size by omega) _).mono (by omega), (by repeat (first | exact Below.refl _ _ | exact HB.out | refine Below.setCell ?_ (by simp <;> omega) _ | refine Below.alloc ?_ (by simp <;> omega) _ | refine below_drewN ?_ _))⟩

set_option maxRecDepth 100000 in
set_option maxHeartbeats 1000000 in
theorem iFirstSame_any (W : Int) (A : Option Addr) (n c : Nat) (zs : List Int) (w : World) (h : RI w A n zs) (hn : n ≤ 1048576) (hnc : n ≤ c) :
    Calls Try.prog 26 #[.agg #[.int .i64 W, .slice A n c]] w (FreshLB w (ifW (lad W zs) W) (ifL (lad W zs) (nrm zs)).length (ifL (lad W zs) (nrm zs)) (lad W zs)) := by
  have HB := belAlloc (belAlloc (belRefl (w := w)) (.cells #[.int .i64 W, .slice A n c] 26)) (.cells #[.int .i64 0, .slice none 0 0] 26)
  have HC : Hid (Cell2 ((w.alloc (.cells #[.int .i64 W, .slice A n c] 26)).alloc (.cells #[.int .i64 0, .slice none 0 0] 26)) (w.heap.size + 1) (.int .i64 0) (.slice none 0 0)) := by have := cellNew (w.alloc (.cells #[.int .i64 W, .slice A n c] 26)) (.int .i64 0) (.slice none 0 0) 26; simp only [World.size_alloc] at this; exact this
  have HA := boxAlloc (boxNew (W := W) (c := c) 26 h) (.cells #[.int .i64 0, .slice none 0 0] 26)
  have hl := h.1
  clear h
  rcases hq : lad W zs with _ | _
  · rw [ifW_no, ifL_no]
    have HW := Lib.hid hq
    clear hq
    go_enter Try.func26, Try.ntmps26
    go_wp2_with fail
    refine (iIsLadder_any W A n c zs _ HA.out.ri hn).mono ?_
    rw [HW.out]
    rintro e w1 ⟨rfl, hb⟩
    replace HB := belStep HB hb
    replace HC := cellStep HC hb
    have k0 := HC.out.c0; have k1 := HC.out.c1; have f0 := HC.out.f0; have f1 := HC.out.f1; have hz := HC.out.lt
    clear hb
    go_wp2
    exact bodyPost_ret (v := .tuple #[.agg #[.int .i64 0, .slice none 0 0], .bool false]) (by simp [results, Try.results26, go_sem, k0, k1]) rfl ⟨none, 0, rfl, OI.none_ _ _, (by repeat (first | exact Below.refl _ _ | exact HB.out | refine Below.setCell ?_ (by simp <;> omega) _ | refine Below.alloc ?_ (by simp <;> omega) _ | refine below_drewN ?_ _))⟩
  · rw [ifW_yes, ifL_yes]
    have hn60 : n ≤ 60 := by have := (lad_iff.1 hq).2.1; omega
    have HFS : Hid (∀ (A : Option Addr) (w : World), RI w A n zs → Calls Try.prog 42 #[.slice A n c] w (FreshI w n (nrm zs))) := fun A w h => firstSame_any A n c zs w h (by omega) hnc (lad_small hq)
    have HL2 := Lib.hid (nrm_lad hq)
    have hln : (nrm zs).length = n := by rw [nrm_len, hl]
    obtain ⟨L, hL⟩ : ∃ L, L = nrm zs := ⟨_, rfl⟩
    rw [← hL] at HFS HL2 hln ⊢
    rw [hln]
    have HW := Lib.hid hq
    clear hq hL hln
    go_enter Try.func26, Try.ntmps26
    go_wp2_with fail
    refine (iIsLadder_any W A n c zs _ HA.out.ri hn).mono ?_
    rw [HW.out]
    rintro e w1 ⟨rfl, hb⟩
    replace HA := boxStep HA hb
    replace HB := belStep HB hb
    replace HC := cellStep HC hb
    have hz1 := HC.out.lt
    clear hb
    go_wp2_with fail
    have HD := boxDrew HA; have HBD := belDrew HB; have HCD := cellDrew HC
    go_region_held3 (fun w' => w'.cell? ⟨w.heap.size, 0, none⟩ = some (.int .i64 W) ∧ w'.cell? ⟨w.heap.size, 1, none⟩ = some (.slice A n c))
      (first | exact ⟨HA.out.c0, HA.out.c1⟩ | exact ⟨HA6.out.c0, HA6.out.c1⟩ | exact ⟨(boxAlloc HA6 _).out.c0, (boxAlloc HA6 _).out.c1⟩ | exact ⟨HA7.out.c0, HA7.out.c1⟩ | exact ⟨(World.cell?_setCell_other _ _ _ _ (by simp)).trans ((World.cell?_setCell_other _ _ _ _ (by simp)).trans HA7.out.c0), (World.cell?_setCell_other _ _ _ _ (by simp)).trans ((World.cell?_setCell_other _ _ _ _ (by simp)).trans HA7.out.c1)⟩)
      (first
        | (go_at_call 42; refine (HFS.out A _ HD.out.ri).mono ?_; rintro e w6 ⟨A6, c6, rfl, o6, hb⟩; have HA6 := boxStep HD hb; have HB6 := belStep HBD hb; have HC6 := cellStep HCD hb; have O6 := Lib.hid o6; have hz6 : w1.heap.size ≤ w6.heap.size := hb.size; clear hb o6)
        | (go_at_call 41; refine (ladderOf_one W A6 n c6 L w6 O6.out.ri (by omega) HL2.out).mono ?_; rintro e w7 ⟨A7, c7, rfl, o7, hb⟩; have HA7 := boxStep (boxAlloc HA6 _) hb; have HB7 := belStep (belAlloc HB6 _) hb; have HC7 := cellStep (cellAlloc HC6 _) hb; have O7 : Hid (OI w7 w1.heap.size A7 n c7 L) := o7.mono (by simp; omega); have k0 := HC7.out.c0; have k1 := HC7.out.c1; have f0 := HC7.out.f0; have f1 := HC7.out.f1; clear hb o7))
    have HB := HB7
    go_wp2
    have k0 := HC7.out.c0
    have k1 := HC7.out.c1
    have hz := HC7.out.lt
    exact bodyPost_ret (v := .tuple #[.agg #[.int .i64 W, .slice A7 n c7], .bool true]) (by simp [results, Try.results26, go_sem, k0, k1]) rfl
      ⟨A7, c7, rfl, ((O7.out.setBelow (show w.heap.size + 1 < w1.heap.size by omega) _).setBelow (show w.heap.size + 1 < w1.heap.size by omega) _).mono (by omega), (by repeat (first | exact Below.refl _ _ | exact HB.out | refine Below.setCell ?_ (by simp <;> omega) _ | refine Below.alloc ?_ (by simp <;> omega) _ | refine below_drewN ?_ _))⟩
end Go.Proofs.Ytbilpjlbbglccaa
