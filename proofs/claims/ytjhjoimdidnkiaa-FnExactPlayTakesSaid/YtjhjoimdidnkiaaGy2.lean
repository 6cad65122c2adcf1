/- PlayTakes, of the program. -/
import Derived.Test.YtjhjoimdidnkiaaGy1
import Derived.Test.YtjhjoimdidnkiaaStP
namespace Go.Proofs.Ytjhjoimdidnkiaa
open Go Go.RowKit

def FreshLBG (w : World) (W : Int) (n : Nat) (zs : List Int) (b : Bool) (e : Ending) (w' : World) : Prop :=
  ∃ A c, e = .returned (.tuple #[.agg #[.int .i64 W, .slice A n c], .bool b]) ∧ OI w' w.heap.size A n c zs ∧ Below w.heap.size w w'

/-- block b holds three values -/
structure Cell3G (w : World) (b : Nat) (x y z : Value) : Prop where
  c0 : w.cell? ⟨b, 0, none⟩ = some x
  c1 : w.cell? ⟨b, 1, none⟩ = some y
  c2 : w.cell? ⟨b, 2, none⟩ = some z
  f0 : w.frozen? ⟨b, 0, none⟩ = false
  f1 : w.frozen? ⟨b, 1, none⟩ = false
  f2 : w.frozen? ⟨b, 2, none⟩ = false
  lt : b < w.heap.size
section
variable {wi wj : World} {b : Nat} {x y z : Value}
theorem c3Step (h : Hid (Cell3G wi b x y z)) (hb : Below wi.heap.size wi wj) : Hid (Cell3G wj b x y z) :=
  ⟨(hb.cell (p := ⟨b, 0, none⟩) h.out.lt).trans h.out.c0, (hb.cell (p := ⟨b, 1, none⟩) h.out.lt).trans h.out.c1, (hb.cell (p := ⟨b, 2, none⟩) h.out.lt).trans h.out.c2, (hb.frozen (p := ⟨b, 0, none⟩) h.out.lt).trans h.out.f0, (hb.frozen (p := ⟨b, 1, none⟩) h.out.lt).trans h.out.f1, (hb.frozen (p := ⟨b, 2, none⟩) h.out.lt).trans h.out.f2, Nat.lt_of_lt_of_le h.out.lt hb.size⟩
theorem c3New (wi : World) (x y z : Value) (t : TypeId) : Hid (Cell3G (wi.alloc (.cells #[x, y, z] t)) wi.heap.size x y z) :=
  ⟨by simp, by simp, by simp, by simp [go_sem], by simp [go_sem], by simp [go_sem], by simp⟩
theorem c3Set (h : Hid (Cell3G wi b x y z)) (x' y' z' : Value) : Hid (Cell3G (((wi.setCell ⟨b, 0, none⟩ x').setCell ⟨b, 1, none⟩ y').setCell ⟨b, 2, none⟩ z') b x' y' z') := by
  have a0 : (wi.setCell ⟨b, 0, none⟩ x').cell? ⟨b, 0, none⟩ = some x' := World.cell?_setCell_same _ _ _ h.out.c0
  have a1 : (wi.setCell ⟨b, 0, none⟩ x').cell? ⟨b, 1, none⟩ = some y := by rw [World.cell?_setCell_other _ _ _ _ (by simp)]; exact h.out.c1
  have a2 : (wi.setCell ⟨b, 0, none⟩ x').cell? ⟨b, 2, none⟩ = some z := by rw [World.cell?_setCell_other _ _ _ _ (by simp)]; exact h.out.c2
  have b0 : ((wi.setCell ⟨b, 0, none⟩ x').setCell ⟨b, 1, none⟩ y').cell? ⟨b, 0, none⟩ = some x' := by rw [World.cell?_setCell_other _ _ _ _ (by simp)]; exact a0
  have b1 : ((wi.setCell ⟨b, 0, none⟩ x').setCell ⟨b, 1, none⟩ y').cell? ⟨b, 1, none⟩ = some y' := World.cell?_setCell_same _ _ _ a1
  have b2 : ((wi.setCell ⟨b, 0, none⟩ x').setCell ⟨b, 1, none⟩ y').cell? ⟨b, 2, none⟩ = some z := by rw [World.cell?_setCell_other _ _ _ _ (by simp)]; exact a2
  exact ⟨by rw [World.cell?_setCell_other _ _ _ _ (by simp)]; exact b0, by rw [World.cell?_setCell_other _ _ _ _ (by simp)]; exact b1, World.cell?_setCell_same _ _ _ b2, by simpa [go_sem] using h.out.f0, by simpa [go_sem] using h.out.f1, by simpa [go_sem] using h.out.f2, by simpa [World.setCell] using h.out.lt⟩
end

set_option maxRecDepth 100000 in
set_option maxHeartbeats 4000000 in
theorem iPlayTakes_any (W : Int) (A : Option Addr) (n c : Nat) (zs : List Int) (Bv : Option Addr) (nv cv : Nat) (vs : List Int) (w : World) (h : RI w A n zs) (hn : n ≤ 1048576) (hv : RI w Bv nv vs) (hnv : nv ≤ 1048576) :
    Calls Try.prog 16 #[.agg #[.int .i64 W, .slice A n c], .slice Bv nv cv] w (FreshLBG w (pkW W zs vs) (pkL W zs vs).length (pkL W zs vs) (pkB W zs vs)) := by
  have hz := h.1
  have hzv := hv.1
  have HA := boxAlloc (boxNew (W := W) (c := c) 27 h) (.cells #[.int .i64 0, .slice none 0 0] 27)
  have HB := belAlloc (belAlloc (belRefl (w := w)) (.cells #[.int .i64 W, .slice A n c] 27)) (.cells #[.int .i64 0, .slice none 0 0] 27)
  have HV := riStep (riStep (Lib.hid hv) (allocBel w (.cells #[.int .i64 W, .slice A n c] 27))) (allocBel _ (.cells #[.int .i64 0, .slice none 0 0] 27))
  have HC0 := cellNew (w.alloc (.cells #[.int .i64 W, .slice A n c] 27)) (.int .i64 0) (.slice none 0 0) 27
  simp only [World.size_alloc] at HC0
  have HI := Lib.hid (fun w2 (r : RI w2 A n zs) => iIsTaking_any W A n c zs w2 r hn)
  rcases hq : tkB W zs with _ | _
  · have e := pkO_no (vs := vs) hq
    unfold pkW pkL pkB
    rw [e]
    rw [hq] at HI
    clear hq h hv hz hzv HV e
    go_enter Try.func16, Try.ntmps16
    have a0 := HA.out.c0; have a1 := HA.out.c1; have az := HA.out.lt
    go_wp2_with fail
    refine (HI.out _ HA.out.ri).mono ?_
    rintro e w1 ⟨rfl, hb⟩
    replace HB := belStep HB hb
    replace HC0 := cellStep HC0 hb
    have k0 := HC0.out.c0; have k1 := HC0.out.c1; have f0 := HC0.out.f0; have f1 := HC0.out.f1; have cz := HC0.out.lt
    clear hb
    go_wp2
    exact bodyPost_ret (v := .tuple #[.agg #[.int .i64 0, .slice none 0 0], .bool false]) (by simp [results, Try.results16, go_sem, k0, k1]) rfl ⟨none, 0, rfl, OI.none_ _ _, (by repeat (first | exact Below.refl _ _ | exact HB.out | refine Below.setCell ?_ (by simp <;> omega) _ | refine Below.alloc ?_ (by simp <;> omega) _ | refine below_drewN ?_ _))⟩
  · have e := pkO_yes (vs := vs) hq
    rw [hq] at HI
    have hq2 := tkB_iff.1 hq
    have hn12 : n ≤ 12 := by omega
    have hW := (lad_iff.1 hq2.1).1
    have HT := Lib.hid (fun w2 (r : RI w2 A n zs) => takingOf_any W A n c zs w2 r hn12)
    have HC := Lib.hid (fun S w2 (r : RI w2 A n zs) (hS : S < 4096) => choices_any W A n c zs S w2 r hn12 hS hq2.1)
    have HW := Lib.hid (fun S i w2 (hS : S < 4096) (hi : i < 12) (hb : S.testBit i = true) => without_any W A n c S i w2 hS hi hb)
    have HL := Lib.hid (fun S w2 (r : RI w2 A n zs) (hS : S < 4096) => ladder_any W A n c zs S w2 r (by omega) hS)
    have hp2 := pow12 hn12
    have HOK := Lib.hid (fun k S (h : ptK zs W.toNat vs k = some S) => ptK_ok k S h)
    obtain ⟨N, hN⟩ : ∃ N, N = W.toNat := ⟨_, rfl⟩
    rw [← hN] at HC HOK e
    have HHA := Lib.hid (fun w9 (r : Below w.heap.size w w9) => h.below r (Nat.le_refl _))
    have HHV := Lib.hid (fun w9 (r : Below w.heap.size w w9) => hv.below r (Nat.le_refl _))
    clear hq h hv hq2 hW hN
    go_enter Try.func16, Try.ntmps16
    have a0 := HA.out.c0; have a1 := HA.out.c1; have az := HA.out.lt
    go_wp2_with fail
    refine (HI.out _ HA.out.ri).mono ?_
    rintro e w1 ⟨rfl, hb⟩
    replace HA := boxStep HA hb; replace HB := belStep HB hb; replace HV := riStep HV hb; replace HC0 := cellStep HC0 hb
    replace a0 := HA.out.c0; replace a1 := HA.out.c1; replace az := HA.out.lt
    clear hb HI
    go_wp2_with fail
    refine (HT.out _ HA.out.ri).mono ?_
    rintro e w2 ⟨rfl, hb⟩
    replace HA := boxStep HA hb; replace HB := belStep HB hb; replace HV := riStep HV hb; replace HC0 := cellStep HC0 hb
    replace a0 := HA.out.c0; replace a1 := HA.out.c1; replace az := HA.out.lt
    have hs2 : w.heap.size + 2 ≤ w2.heap.size := by have := HC0.out.lt; omega
    obtain ⟨gb, hgb⟩ : ∃ gb, gb = w2.heap.size := ⟨_, rfl⟩
    have HG : Hid (Cell3G (w2.alloc (.cells #[.int .i64 W, .slice A n c, .int .i64 ((2 ^ n - 1 : Nat) : Int)] 48)) gb (.int .i64 W) (.slice A n c) (.int .i64 ((2 ^ n - 1 : Nat) : Int))) := by rw [hgb]; exact c3New _ _ _ _ _
    have HB2 := belAlloc HB (.cells #[.int .i64 W, .slice A n c, .int .i64 ((2 ^ n - 1 : Nat) : Int)] 48)
    have HC2 := cellAlloc HC0 (.cells #[.int .i64 W, .slice A n c, .int .i64 ((2 ^ n - 1 : Nat) : Int)] 48)
    have HA2 := Lib.hid (HA.out.ri.alloc (.cells #[.int .i64 W, .slice A n c, .int .i64 ((2 ^ n - 1 : Nat) : Int)] 48))
    have HV2 := Lib.hid (HV.out.alloc (.cells #[.int .i64 W, .slice A n c, .int .i64 ((2 ^ n - 1 : Nat) : Int)] 48))
    clear hb HT
    go_wp2
    obtain ⟨wb, hwb⟩ : ∃ v : World, v = w2.alloc (.cells #[.int .i64 W, .slice A n c, .int .i64 ((2 ^ n - 1 : Nat) : Int)] 48) := ⟨_, rfl⟩
    rw [← hgb, ← hwb]
    rw [← hwb] at HG HB2 HC2 HA2 HV2
    have hgs : w.heap.size + 2 ≤ gb := by omega
    clear hwb hgb HA HB HV HC0 a0 a1 az
    go_loopw [17] (fun i wr => ∃ (k S : Nat), k ≤ nv ∧ i = .int .i64 (k : Int) ∧ ptK zs N vs k = some S ∧ Cell3G wr gb (.int .i64 W) (.slice A n c) (.int .i64 (S : Int)) ∧ Below (w.heap.size + 2) wb wr) (fun i _ => nv - (intOf i).toNat)
    case atStart => exact ⟨0, 2 ^ n - 1, Nat.zero_le _, rfl, by rw [ptK, hz], HG.out, Below.refl _ _⟩
    case round =>
      obtain ⟨k, S, hk, rfl, hpt, hg, hb⟩ := hrel
      have HGr := Lib.hid hg
      have HBr := Lib.hid hb
      have HBw := Lib.hid (HB2.out.trans (hb.mono (Nat.le_add_right _ 2)))
      have HAr := Lib.hid (HHA.out _ HBw.out)
      have HVr := Lib.hid (HHV.out _ HBw.out)
      have HPT := Lib.hid hpt
      have hSn := (HOK.out k S hpt).1
      rw [hz] at hSn
      have hS : S < 4096 := by omega
      have g0 := hg.c0; have g1 := hg.c1; have g2 := hg.c2; have gf0 := hg.f0; have gf1 := hg.f1; have gf2 := hg.f2; have gz := hg.lt
      have hbz := hb.size
      clear hg hb hpt
      by_cases hlt : k < nv
      · obtain ⟨b, off, rfl, hbw, hc⟩ := HVr.out.cell hlt
        have hck := hc k hlt
        obtain ⟨x, hx⟩ : ∃ x, x = gi vs k := ⟨_, rfl⟩
        rw [← hx] at hck
        have HCS := Lib.hid (fun w9 (r : RI w9 A n zs) => HC.out S w9 r hS)
        have HX := Lib.hid hx
        have HCL := Lib.hid (chL_len zs N S)
        clear hc hx
        go_wp2_with fail
        refine (HCS.out _ HAr.out).mono ?_
        rintro e w4 ⟨E4, c4, rfl, o4, hb⟩
        have HO4 := Lib.hid o4
        have HG4 := c3Step HGr hb
        have HB4 := Lib.hid (HBr.out.trans (hb.mono (show w.heap.size + 2 ≤ wr.heap.size by omega)))
        replace g0 := HG4.out.c0; replace g1 := HG4.out.c1; replace g2 := HG4.out.c2; replace gf0 := HG4.out.f0; replace gf1 := HG4.out.f1; replace gf2 := HG4.out.f2; replace gz := HG4.out.lt
        clear o4 hb hck
        go_wp2_with fail
        refine (containsG_any _ _ _ _ x _ HO4.out.ri (by have := HCL.out; omega)).mono ?_
        rintro e w9 ⟨rfl, hw9⟩; replace hw9 := hw9.symm; subst hw9
        rcases hcn : (chL zs N S).contains x with _ | _
        · have HN := Lib.hid (ptK_none_le (ptK_no HPT.out (by rw [← HX.out]; exact hcn)) (show k + 1 ≤ nv by omega))
          have HP : Hid (pkO W zs vs = none) := Lib.hid (by rw [e, hzv]; exact HN.out)
          have HC4 := cellBelow HC2 (show w.heap.size + 1 < w.heap.size + 2 by omega) HB4.out
          have k0 := HC4.out.c0; have k1 := HC4.out.c1; have f0 := HC4.out.f0; have f1 := HC4.out.f1; have cz := HC4.out.lt
          clear hcn e
          go_wp2
          unfold pkW pkL pkB
          rw [HP.out]
          exact bodyPost_ret (v := .tuple #[.agg #[.int .i64 0, .slice none 0 0], .bool false]) (by simp [results, Try.results16, go_sem, k0, k1]) rfl ⟨none, 0, rfl, OI.none_ _ _, ((HB2.out.trans (HB4.out.mono (Nat.le_add_right _ 2))).setCell (by simp) _).setCell (by simp) _⟩
        · obtain ⟨_, i, hi, hbit, rfl⟩ := ch_has.1 hcn
          have HY := Lib.hid (ptK_yes HPT.out (by rw [← HX.out]; exact hcn))
          rw [← HX.out, Int.toNat_natCast] at HY
          have HWO := Lib.hid (fun w9 => HW.out S i w9 hS (by omega) hbit)
          clear hcn hbit hi
          go_wp2_with fail
          refine (HWO.out _).mono ?_
          rintro e w5 ⟨rfl, hb⟩
          have HG5 := c3Step HG4 hb
          have HB5 := Lib.hid (HB4.out.trans (hb.mono (show w.heap.size + 2 ≤ w4.heap.size by have := HG4.out.lt; omega)))
          replace g0 := HG5.out.c0; replace g1 := HG5.out.c1; replace g2 := HG5.out.c2; replace gf0 := HG5.out.f0; replace gf1 := HG5.out.f1; replace gf2 := HG5.out.f2; replace gz := HG5.out.lt
          clear hb
          go_wp2
          go_roundw
          case rel => exact ⟨k + 1, S - 2 ^ i, by omega, by go_num, HY.out, (c3Set HG5 _ _ _).out, ((HB5.out.setCell hgs _).setCell hgs _).setCell hgs _⟩
          case measure => simp [intOf]; omega
      · obtain rfl : k = nv := by omega
        have HP : Hid (pkO W zs vs = some S) := Lib.hid (by rw [e, hzv]; exact HPT.out)
        have HLS := Lib.hid (fun w9 (r : RI w9 A n zs) => HL.out S w9 r hS)
        have HC4 := cellBelow HC2 (show w.heap.size + 1 < w.heap.size + 2 by omega) HBr.out
        go_wp2_with fail
        refine (HLS.out _ HAr.out).mono ?_
        rintro e w4 ⟨E4, c4, rfl, o4, hb⟩
        have HO4 := Lib.hid o4
        replace HC4 := cellStep HC4 hb
        replace HBw := belStep HBw hb
        have k0 := HC4.out.c0; have k1 := HC4.out.c1; have f0 := HC4.out.f0; have f1 := HC4.out.f1; have cz := HC4.out.lt
        clear o4 hb
        go_wp2
        unfold pkW pkL pkB
        rw [HP.out]
        exact bodyPost_ret (v := .tuple #[.agg #[.int .i64 W, .slice E4 (leftL zs S).length c4], .bool true]) (by simp [results, Try.results16, go_sem, k0, k1]) rfl
          ⟨E4, c4, rfl, ((HO4.out.setBelow (by simp; omega) _).setBelow (by simp; omega) _).mono (by omega), (HBw.out.setCell (by simp) _).setCell (by simp) _⟩
end Go.Proofs.Ytjhjoimdidnkiaa
