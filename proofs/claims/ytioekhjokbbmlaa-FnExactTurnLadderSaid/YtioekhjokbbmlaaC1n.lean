/- The contracts of TurnLadder, of the program and of its model. -/
import Derived.Test.YtioekhjokbbmlaaC1m
import Derived.BigRegion
namespace Go.Proofs.Ytioekhjokbbmlaa
open Go Go.RowKit

/-- the list with its first i and its last i numbers exchanged -/
def Turned (zs ys : List Int) (n i : Nat) : Prop := ∀ p, p < n → gi ys p = if p < i ∨ n - i ≤ p then gi zs (n - 1 - p) else gi zs p

set_option maxRecDepth 100000 in
set_option maxHeartbeats 4000000 in
theorem reverse_any (B : Nat) (A : Option Addr) (n c : Nat) (zs : List Int) (w : World) (h : OI w B A n c zs) (hn : n ≤ 1000000) :
    Calls Try.prog 90 #[.slice A n c] w (fun e w' => e = .returned (.tuple #[]) ∧ OI w' B A n c zs.reverse ∧ w.grownBy w' (blk A)) := by
  go_enter Try.func90, Try.ntmps90
  go_wp2
  go_loopw [2, 3] (fun s2 s3 wr => ∃ (i : Nat) (j' : Int) (ys : List Int), 2 * i ≤ n ∧ s2 = .int .i64 i ∧ s3 = .int .i64 j' ∧ j' = (n : Int) - 1 - i ∧ OI wr B A n c ys ∧ Turned zs ys n i ∧ w.grownBy wr (blk A)) (fun s2 _ _ => n - (intOf s2).toNat)
  case atStart => exact ⟨0, _, zs, by omega, rfl, rfl, by omega, h, fun p hp => by rw [if_neg (by omega)], grown_refl _ _⟩
  case round =>
    obtain ⟨i, j', ys, hi, rfl, rfl, hj', ho, ht, hg⟩ := hrel
    have HO := Lib.hid ho
    have HT := Lib.hid ht
    have HG := Lib.hid hg
    have HJ := Lib.hid hj'
    clear ht hg ho
    by_cases hlt : (i : Int) < j'
    · obtain ⟨j, rfl⟩ : ∃ j : Nat, j' = (j : Int) := ⟨j'.toNat, by omega⟩
      have hij : i < j := by omega
      have hjn : j < n := by omega
      have hjj : j = n - 1 - i := by omega
      rcases HO.out.form with ⟨_, _, h0⟩ | ⟨g, cur, rfl, hBg, hgw, hh, h1, h2, h3, h4⟩
      · omega
      have hcell : ∀ p, p < n → wr.cell? ⟨g, p, none⟩ = some (.int .i64 (gi ys p)) := by
        obtain ⟨b', off', e, _, hc'⟩ := HO.out.ri.cell (j := i) (by omega)
        injection e with e; injection e with e1 e2 e3
        subst e1 e2
        intro p hp
        have := hc' p hp
        rwa [Nat.zero_add] at this
      have ci := hcell i (by omega)
      have cj := hcell j hjn
      have fi : wr.frozen? ⟨g, i, none⟩ = false := HO.out.2.frozenAt i
      have fj : wr.frozen? ⟨g, j, none⟩ = false := HO.out.2.frozenAt j
      have HJJ := Lib.hid hjj
      clear hcell hh h4 h3 h2 hj' hjj h
      go_wp2
      go_region
      all_goals
        go_wp2
        go_roundw
        case rel =>
          refine ⟨i + 1, _, (ys.set i (gi ys j)).set j (gi ys i), by have := HJJ.out; omega, by go_num, rfl, by have := HJJ.out; omega, ?_, ?_, ?_⟩
          · exact (HO.out.stored i _).stored j _
          · intro p hp
            have hl := HO.out.1
            have hj := HJJ.out
            have hi' : gi ys i = gi zs i := by rw [HT.out i (by omega), if_neg (by omega)]
            have hj' : gi ys j = gi zs j := by rw [HT.out j hjn, if_neg (by omega)]
            rw [gi_set _ _ _ _ (by rw [List.length_set]; omega), gi_set _ _ _ _ (by omega), hi', hj']
            by_cases e1 : p = j
            · rw [if_pos e1, if_pos (by omega), e1, show n - 1 - j = i by omega]
            · rw [if_neg e1]
              by_cases e2 : p = i
              · rw [if_pos e2, if_pos (by omega), e2, show n - 1 - i = j by omega]
              · rw [if_neg e2, HT.out p hp]
                by_cases e3 : p < i ∨ n - i ≤ p
                · rw [if_pos e3, if_pos (by omega)]
                · rw [if_neg e3, if_neg (by omega)]
          · exact grown_drew (grown_setCell (g := g) (p := ⟨g, j, none⟩) (grown_setCell (g := g) (p := ⟨g, i, none⟩) HG.out (.inl rfl) _) (.inl rfl) _)
        case measure => simp [intOf]; omega
    · have hl := HO.out.1
      have e : ys = zs.reverse := by
        apply gi_ext (by rw [List.length_reverse, h.1, hl])
        intro p hp
        have hpn : p < zs.length := by rw [h.1]; omega
        have hr : gi zs.reverse p = gi zs (n - 1 - p) := by
          rw [gi_lt (by rw [List.length_reverse]; exact hpn), gi_lt (by rw [h.1]; omega), List.getElem_reverse]
          simp only [h.1]
        rw [HT.out p (by omega), hr]
        split
        · rfl
        · congr 1; have := HJ.out; omega
      go_wp2
      go_end0
      exact ⟨rfl, by rw [← e]; exact HO.out, HG.out⟩

theorem revN_len (W : Int) (zs : List Int) : (ifL (lad W zs) zs.reverse).length ≤ 1000 := by
  rcases h : lad W zs with _ | _
  · rw [ifL_no]; simp
  · rw [ifL_yes, List.length_reverse]
    have := (lad_iff.1 h).2.1
    omega

set_option maxRecDepth 100000 in
set_option maxHeartbeats 4000000 in
theorem iTurnLadder_any (W : Int) (A : Option Addr) (n c : Nat) (zs : List Int) (w : World) (h : RI w A n zs) (hn : n ≤ 1048576) :
    Calls Try.prog 53 #[.agg #[.int .i64 W, .slice A n c]] w (FreshLB w (ifW (lad W zs) W) (ifL (lad W zs) zs.reverse).length (ifL (lad W zs) zs.reverse) (lad W zs)) := by
  rcases hq : lad W zs with _ | _
  · rw [ifW_no, ifL_no]
    have HW := Lib.hid hq
    clear hq
    go_enter Try.func53, Try.ntmps53
    go_wp2_with fail
    have HB := belAlloc (belAlloc (belRefl (w := w)) (.cells #[.int .i64 W, .slice A n c] 27)) (.cells #[.int .i64 0, .slice none 0 0] 27)
    have HC := cellNew (w.alloc (.cells #[.int .i64 W, .slice A n c] 27)) (.int .i64 0) (.slice none 0 0) 27
    refine (iIsLadder_any W A n c zs _ ((h.alloc _).alloc _) hn).mono ?_
    rw [HW.out]
    rintro e w1 ⟨rfl, hb⟩
    replace HB := belStep HB hb
    replace HC := cellStep HC hb
    have k0 := HC.out.c0; have k1 := HC.out.c1; have f0 := HC.out.f0; have f1 := HC.out.f1; have hz := HC.out.lt
    simp only [World.size_alloc] at k0 k1 f0 f1 hz
    clear hb h
    go_wp2
    exact bodyPost_ret (v := .tuple #[.agg #[.int .i64 0, .slice none 0 0], .bool false]) (by simp [results, Try.results53, go_sem, k0, k1]) rfl ⟨none, 0, rfl, OI.none_ _ _, (by repeat (first | exact Below.refl _ _ | exact HB.out | refine Below.setCell ?_ (by simp <;> omega) _ | refine Below.alloc ?_ (by simp <;> omega) _ | refine below_drewN ?_ _))⟩
  · rw [ifW_yes, ifL_yes, List.length_reverse]
    have hzl := Lib.hid h.1
    rw [hzl.out]
    have hW := (lad_iff.1 hq).1
    have hn60 : n ≤ 60 := by have := (lad_iff.1 hq).2.1; rw [h.1] at this; exact this
    have HW := Lib.hid hq
    clear hq
    go_enter Try.func53, Try.ntmps53
    go_wp2_with fail
    have HA := boxAlloc (boxNew (W := W) (c := c) 27 h) (.cells #[.int .i64 0, .slice none 0 0] 27)
    have HB := belAlloc (belAlloc (belRefl (w := w)) (.cells #[.int .i64 W, .slice A n c] 27)) (.cells #[.int .i64 0, .slice none 0 0] 27)
    have HC := cellNew (w.alloc (.cells #[.int .i64 W, .slice A n c] 27)) (.int .i64 0) (.slice none 0 0) 27
    refine (iIsLadder_any W A n c zs _ HA.out.ri hn).mono ?_
    rw [HW.out]
    rintro e w1 ⟨rfl, hb⟩
    replace HA := boxStep HA hb
    replace HB := belStep HB hb
    replace HC := cellStep HC hb
    have a0 := HA.out.c0; have a1 := HA.out.c1; have az := HA.out.lt
    have cz := HC.out.lt
    simp only [World.size_alloc] at cz
    clear hb h
    go_wp2_with fail
    refine (ladderOf_one W A n c zs w1 HA.out.ri (by omega) HW.out).mono ?_
    rintro e w2 ⟨A5, c5, rfl, o5, hb⟩
    have hL5 := blkLt o5
    have HO : Hid (OI (w2.alloc (.cells #[.int .i64 W, .slice A5 n c5] 27)) w1.heap.size A5 n c5 zs) := oiAlloc (Lib.hid (o5.mono (show w1.heap.size ≤ _ by simp))) _
    have HM := cellNew w2 (.int .i64 W) (.slice A5 n c5) 27
    have H14 : Hid (Below w1.heap.size w1 (w2.alloc (.cells #[.int .i64 W, .slice A5 n c5] 27))) := by
      have hs := hb.size
      simp at hs
      exact (((Below.refl _ _).alloc (Nat.le_refl _) _).trans (hb.mono (by simp))).alloc (by omega) _
    have h12 : w1.heap.size < w2.heap.size := by have := hb.size; simp at this; omega
    have m0 := HM.out.c0; have m1 := HM.out.c1
    replace a0 := (H14.out.cell (p := ⟨w.heap.size, 0, none⟩) az).trans a0
    replace a1 := (H14.out.cell (p := ⟨w.heap.size, 1, none⟩) az).trans a1
    clear hb o5
    go_wp2_with fail
    refine (reverse_any w1.heap.size A5 n c5 zs _ HO.out (by omega)).mono ?_
    rintro e w5 ⟨rfl, ho5, hg⟩
    have HMr := cellKept HM hg (blkLtMono hL5 (Nat.le_refl _))
    have H15 : Hid (Below w1.heap.size w1 w5) := H14.out.trans (ofMark HO.out hg (Nat.le_refl _) H14.out.size)
    have HCr := cellBelow HC (by simp; omega) H15.out
    have HY2 := Lib.hid ho5
    have HBr : Hid (Below w.heap.size w w5) := HB.out.trans (H15.out.mono HB.out.size)
    have k0 := HCr.out.c0; have k1 := HCr.out.c1; have f0 := HCr.out.f0; have f1 := HCr.out.f1; have cz5 := HCr.out.lt
    simp only [World.size_alloc] at k0 k1 f0 f1 cz5
    clear a0 a1 m0 m1 ho5 hg
    have m0 := HMr.out.c0; have m1 := HMr.out.c1; have mz := HMr.out.lt
    go_wp2
    exact bodyPost_ret (v := .tuple #[.agg #[.int .i64 W, .slice A5 n c5], .bool true]) (by simp [results, Try.results53, go_sem, k0, k1]) rfl
      ⟨A5, c5, rfl, ((HY2.out.setBelow (by simp <;> omega) _).setBelow (by simp <;> omega) _).mono (by omega), (HBr.out.setCell (by simp) _).setCell (by simp) _⟩
end Go.Proofs.Ytioekhjokbbmlaa
