/- SpinPole, of the program and of its model. -/
import Derived.Test.YtjdkicanamengaaPt1
import Derived.Deep.RegionLaw
import Derived.BigRegion
namespace Go.Proofs.Ytjdkicanamengaa
open Go Go.RowKit

/-- the rungs, each moved on by s around the pole -/
def spn (W s : Int) (zs : List Int) : List Int := zs.map fun z => (z + s) % W
theorem spn_length (W s : Int) (zs : List Int) : (spn W s zs).length = zs.length := by simp [spn]
theorem gi_spn (W s : Int) (zs : List Int) (j : Nat) (h : j < zs.length) : gi (spn W s zs) j = (gi zs j + s) % W := by
  rw [gi_lt (by rw [spn_length]; exact h), gi_lt h]; simp [spn]
theorem spn_take (W s : Int) (zs : List Int) (k : Nat) (h : k < zs.length) : (spn W s zs).take (k + 1) = (spn W s zs).take k ++ [(gi zs k + s) % W] := by
  have hl := spn_length W s zs
  rw [List.take_succ_eq_append_getElem (by omega), ← gi_lt, gi_spn _ _ _ _ h]
theorem spnN_len (W s : Int) (zs : List Int) : (ifL (pwire W zs s) (spn W s zs)).length ≤ 1000 := by
  rcases h : pwire W zs s with _ | _
  · rw [ifL_no]; simp
  · rw [ifL_yes, spn_length]
    have := (pol_iff.1 (pwire_iff.1 h).1).2.1
    omega
theorem spn_in {W s z : Int} (hW : 3 ≤ W ∧ W ≤ 8) : 0 ≤ (z + s) % W ∧ (z + s) % W ≤ W - 1 := by
  have h1 := Int.emod_nonneg (z + s) (b := W) (by omega)
  have h2 := Int.emod_lt_of_pos (z + s) (b := W) (by omega)
  omega
theorem pwire_1 {W : Int} {zs : List Int} {s : Int} (h : pol W zs = false) : pwire W zs s = false := by unfold pwire; rw [h]; rfl
theorem pwire_2 {W : Int} {zs : List Int} {s : Int} (h : pol W zs = true) : pwire W zs s = inB s 0 (W - 1) := by unfold pwire; rw [h]; rfl

/-- the first k rungs moved on; nothing else has turned since w4 -/
def SpinRel (w4 : World) (K : Nat) (A5 : Option Addr) (n c5 : Nat) (W s : Int) (zs : List Int) (k : Nat) (wr : World) : Prop :=
  (∃ ys, OI wr K A5 n c5 ys ∧ ∀ j, j < n → gi ys j = if j < k then (gi zs j + s) % W else gi zs j) ∧ w4.grownBy wr (blk A5)

set_option maxRecDepth 100000 in
set_option maxHeartbeats 4000000 in
theorem iSpinPole_any (W : Int) (A : Option Addr) (n c : Nat) (zs : List Int) (s : Int) (w : World) (h : RI w A n zs) (hn : n ≤ 1048576) :
    Calls Try.prog 36 #[.agg #[.int .i64 W, .slice A n c], .int .i64 s] w (FreshLB w (ifW (pwire W zs s) W) (ifL (pwire W zs s) (spn W s zs)).length (ifL (pwire W zs s) (spn W s zs)) (pwire W zs s)) := by
  rcases hq : pwire W zs s with _ | _
  · rw [ifW_no, ifL_no]
    have HW := Lib.hid hq
    clear hq
    go_enter Try.func36, Try.ntmps36
    go_wp2_with fail
    have HB := belAlloc (belAlloc (belRefl (w := w)) (.cells #[.int .i64 W, .slice A n c] 27)) (.cells #[.int .i64 0, .slice none 0 0] 27)
    have HC := cellNew (w.alloc (.cells #[.int .i64 W, .slice A n c] 27)) (.int .i64 0) (.slice none 0 0) 27
    refine (isPoleWire_any W A n c zs s _ ((h.alloc _).alloc _) hn).mono ?_
    rw [HW.out]
    rintro e w1 ⟨rfl, hb⟩
    replace HB := belStep HB hb
    replace HC := cellStep HC hb
    have k0 := HC.out.c0; have k1 := HC.out.c1; have f0 := HC.out.f0; have f1 := HC.out.f1; have hz := HC.out.lt
    simp only [World.size_alloc] at k0 k1 f0 f1 hz
    clear hb h
    go_wp2
    exact bodyPost_ret (v := .tuple #[.agg #[.int .i64 0, .slice none 0 0], .bool false]) (by simp [results, Try.results36, go_sem, k0, k1]) rfl ⟨none, 0, rfl, OI.none_ _ _, (by repeat (first | exact Below.refl _ _ | exact HB.out | refine Below.setCell ?_ (by simp <;> omega) _ | refine Below.alloc ?_ (by simp <;> omega) _ | refine below_drewN ?_ _))⟩
  · rw [ifW_yes, ifL_yes, spn_length]
    have hzl := Lib.hid h.1
    rw [hzl.out]
    have hW := (pol_iff.1 (pwire_iff.1 hq).1).1
    have hs := (pwire_iff.1 hq).2
    have hn60 : n ≤ 60 := by have := (pol_iff.1 (pwire_iff.1 hq).1).2.1; rw [h.1] at this; exact this
    have HW := Lib.hid hq
    clear hq
    go_enter Try.func36, Try.ntmps36
    go_wp2_with fail
    have HA := boxAlloc (boxNew (W := W) (c := c) 27 h) (.cells #[.int .i64 0, .slice none 0 0] 27)
    have HB := belAlloc (belAlloc (belRefl (w := w)) (.cells #[.int .i64 W, .slice A n c] 27)) (.cells #[.int .i64 0, .slice none 0 0] 27)
    have HC := cellNew (w.alloc (.cells #[.int .i64 W, .slice A n c] 27)) (.int .i64 0) (.slice none 0 0) 27
    refine (isPoleWire_any W A n c zs s _ HA.out.ri hn).mono ?_
    rw [HW.out]
    rintro e w1 ⟨rfl, hb⟩
    replace HA := boxStep HA hb
    replace HB := belStep HB hb
    replace HC := cellStep HC hb
    have a0 := HA.out.c0; have a1 := HA.out.c1; have az := HA.out.lt
    have cz := HC.out.lt
    simp only [World.size_alloc] at cz
    clear hb h
    go_wp2_with fail
    refine (poleOf_one W A n c zs w1 HA.out.ri (by omega) (pwire_iff.1 HW.out).1).mono ?_
    rintro e w2 ⟨A5, c5, rfl, o5, hb⟩
    have hL5 := blkLt o5
    have HO : Hid (OI (w2.alloc (.cells #[.int .i64 W, .slice A5 n c5] 27)) w1.heap.size A5 n c5 zs) := oiAlloc (Lib.hid (o5.mono (show w1.heap.size ≤ _ by simp))) _
    have HM := cellNew w2 (.int .i64 W) (.slice A5 n c5) 27
    have H14 : Hid (Below w1.heap.size w1 (w2.alloc (.cells #[.int .i64 W, .slice A5 n c5] 27))) := by
      have hs := hb.size
      simp at hs
      exact (((Below.refl _ _).alloc (Nat.le_refl _) _).trans (hb.mono (by simp))).alloc (by omega) _
    have h12 : w1.heap.size < w2.heap.size := by have := hb.size; simp at this; omega
    have m0 := HM.out.c0; have m1 := HM.out.c1
    replace a0 := (H14.out.cell (p := ⟨w.heap.size, 0, none⟩) az).trans a0
    replace a1 := (H14.out.cell (p := ⟨w.heap.size, 1, none⟩) az).trans a1
    clear hb o5
    go_wp2_with fail
    obtain ⟨w4, hw4⟩ : ∃ w4, w4 = w2.alloc (.cells #[.int .i64 W, .slice A5 n c5] 27) := ⟨_, rfl⟩
    have hz4 : w4.heap.size = w2.heap.size + 1 := by rw [hw4]; simp
    rw [← hw4] at HO HM H14 m0 m1 a0 a1
    rw [← hw4]
    have H4 := Lib.hid hw4
    have HZ4 := Lib.hid hz4
    have hz4' : w2.heap.size < w4.heap.size := by omega
    clear hw4 hz4
    go_loopw [8, 9, 27] (fun _ _ i wr => ∃ k : Nat, k ≤ n ∧ i = .int .i64 k ∧ SpinRel w4 w1.heap.size A5 n c5 W s zs k wr) (fun _ _ i _ => n - (intOf i).toNat)
    case atStart => exact ⟨0, Nat.zero_le _, rfl, ⟨zs, HO.out, fun j _ => by simp⟩, grown_refl _ _⟩
    case round =>
      obtain ⟨k, hk, rfl, ⟨ys, ho, hall⟩, hg⟩ := hrel
      have HY := Lib.hid ho
      have HALL := Lib.hid hall
      have HG := Lib.hid hg
      have h1r : Below w1.heap.size w1 wr := H14.out.trans (ofMark HO.out hg (Nat.le_refl _) H14.out.size)
      have H1R := Lib.hid h1r
      have HMr := cellKept HM hg (blkLtMono hL5 (Nat.le_refl _))
      have HBX : Hid (BoxB wr w1.heap.size w.heap.size W A n c zs) := (BoxB.of HA.out).step h1r
      have HCr := cellBelow HC (by simp; omega) h1r
      clear a0 a1 m0 m1
      have a0 := HBX.out.c0; have a1 := HBX.out.c1
      have m0 := HMr.out.c0; have m1 := HMr.out.c1
      have zr : w2.heap.size < wr.heap.size := HMr.out.lt
      clear ho hall hg h1r
      by_cases hlt : k < n
      · rcases HY.out.form with ⟨_, _, h0⟩ | ⟨g, cur, rfl, hBg, hgw, hh, h1, h2, h3, h4⟩
        · omega
        obtain ⟨b, off, rfl, hbw, hc⟩ := HBX.out.rb.ri.cell hlt
        have hck := hc k hlt
        obtain ⟨v0, hv0⟩ : ∃ v0, wr.cell? ⟨g, k, none⟩ = some v0 := by
          obtain ⟨b', off', e, _, hc'⟩ := HY.out.ri.cell hlt
          injection e with e; injection e with e1 e2 e3
          subst e1 e2
          exact ⟨_, by have := hc' k hlt; rwa [Nat.zero_add] at this⟩
        have hf : wr.frozen? ⟨g, k, none⟩ = false := HY.out.2.frozenAt k
        have gb := pol_at (pwire_iff.1 HW.out).1 (j := k) (by rw [hzl.out]; exact hlt)
        clear hc hh h4 h3 h2
        go_wp2
        go_region
        all_goals
          go_wp2
          go_roundw
          case rel =>
            refine ⟨k + 1, by omega, by go_num, ⟨ys.set k ((gi zs k + s) % W), HY.out.stored k _, fun j hj => ?_⟩, grown_drew (grown_setCell (g := g) (p := ⟨g, k, none⟩) HG.out (.inl rfl) _)⟩
            rw [gi_set _ _ _ _ (by have := HY.out.1; omega)]
            by_cases e : j = k
            · subst e; simp
            · rw [if_neg e, HALL.out j hj]
              by_cases e2 : j < k
              · rw [if_pos e2, if_pos (by omega)]
              · rw [if_neg e2, if_neg (by omega)]
          case measure => simp [intOf]; omega
      · obtain rfl : k = n := by omega
        have e : ys = spn W s zs := gi_ext (by rw [HY.out.1, spn_length, hzl.out]) (fun j hj => by rw [HALL.out j (by have := HY.out.1; omega), if_pos (by have := HY.out.1; omega), gi_spn _ _ _ _ (by have := HY.out.1; have := hzl.out; omega)])
        have HY2 : Hid (OI wr w1.heap.size A5 k c5 (spn W s zs)) := by have := HY.out; rwa [e] at this
        have k0 := HCr.out.c0; have k1 := HCr.out.c1; have f0 := HCr.out.f0; have f1 := HCr.out.f1
        simp only [World.size_alloc] at k0 k1 f0 f1
        have HBr : Hid (Below w.heap.size w wr) := HB.out.trans (H1R.out.mono HB.out.size)
        go_wp2
        exact bodyPost_ret (v := .tuple #[.agg #[.int .i64 W, .slice A5 k c5], .bool true]) (by simp [results, Try.results36, go_sem, k0, k1]) rfl
          ⟨A5, c5, rfl, ((HY2.out.setBelow (by simp <;> omega) _).setBelow (by simp <;> omega) _).mono (by omega), (HBr.out.setCell (by simp) _).setCell (by simp) _⟩

set_option maxRecDepth 100000 in
set_option maxHeartbeats 4000000 in
theorem sSpinPole_any (W : Int) (A : Option Addr) (n c : Nat) (zs : List Int) (s : Int) (w : World) (h : RI w A n zs) (hn : n ≤ 1048576) :
    Calls Try.prog 35 #[.agg #[.int .i64 W, .slice A n c], .int .i64 s] w (FreshLB w (ifW (pwire W zs s) W) (ifL (pwire W zs s) (spn W s zs)).length (ifL (pwire W zs s) (spn W s zs)) (pwire W zs s)) := by
  rcases hq : pol W zs with _ | _
  · rw [pwire_1 hq, ifW_no, ifL_no]
    have HW := Lib.hid hq
    clear hq
    go_enter Try.func35, Try.ntmps35
    go_wp2_with fail
    have HB := belAlloc (belAlloc (belRefl (w := w)) (.cells #[.int .i64 W, .slice A n c] 27)) (.cells #[.int .i64 0, .slice none 0 0] 27)
    have HC := cellNew (w.alloc (.cells #[.int .i64 W, .slice A n c] 27)) (.int .i64 0) (.slice none 0 0) 27
    refine (poGood_any W A n c zs _ ((h.alloc _).alloc _) hn).mono ?_
    rw [HW.out]
    rintro e w1 ⟨rfl, hb⟩
    replace HB := belStep HB hb
    replace HC := cellStep HC hb
    have k0 := HC.out.c0; have k1 := HC.out.c1; have f0 := HC.out.f0; have f1 := HC.out.f1; have hz := HC.out.lt
    simp only [World.size_alloc] at k0 k1 f0 f1 hz
    clear hb h
    go_wp2
    exact bodyPost_ret (v := .tuple #[.agg #[.int .i64 0, .slice none 0 0], .bool false]) (by simp [results, Try.results35, go_sem, k0, k1]) rfl ⟨none, 0, rfl, OI.none_ _ _, (by repeat (first | exact Below.refl _ _ | exact HB.out | refine Below.setCell ?_ (by simp <;> omega) _ | refine Below.alloc ?_ (by simp <;> omega) _ | refine below_drewN ?_ _))⟩
  · rcases hi : inB s 0 (W - 1) with _ | _
    · rw [pwire_2 hq, hi, ifW_no, ifL_no]
      have hW := (pol_iff.1 hq).1
      have HW := Lib.hid hq
      have HI := Lib.hid hi
      clear hq hi
      go_enter Try.func35, Try.ntmps35
      go_wp2_with fail
      have HA := boxAlloc (boxNew (W := W) (c := c) 27 h) (.cells #[.int .i64 0, .slice none 0 0] 27)
      have HB := belAlloc (belAlloc (belRefl (w := w)) (.cells #[.int .i64 W, .slice A n c] 27)) (.cells #[.int .i64 0, .slice none 0 0] 27)
      have HC := cellNew (w.alloc (.cells #[.int .i64 W, .slice A n c] 27)) (.int .i64 0) (.slice none 0 0) 27
      refine (poGood_any W A n c zs _ HA.out.ri hn).mono ?_
      rw [HW.out]
      rintro e w1 ⟨rfl, hb⟩
      replace HB := belStep HB hb
      replace HA := boxStep HA hb
      have a0 := HA.out.c0; have a1 := HA.out.c1
      replace HC := cellStep HC hb
      have k0 := HC.out.c0; have k1 := HC.out.c1; have f0 := HC.out.f0; have f1 := HC.out.f1; have hz := HC.out.lt
      simp only [World.size_alloc] at k0 k1 f0 f1 hz
      clear hb h
      go_wp2_with (go_at_call 62; refine (l1In_any _ _ _ _).mono ?_; rw [HI.out]; rintro e w' ⟨rfl, rfl⟩)
      exact bodyPost_ret (v := .tuple #[.agg #[.int .i64 0, .slice none 0 0], .bool false]) (by simp [results, Try.results35, go_sem, k0, k1]) rfl ⟨none, 0, rfl, OI.none_ _ _, (by repeat (first | exact Below.refl _ _ | exact HB.out | refine Below.setCell ?_ (by simp <;> omega) _ | refine Below.alloc ?_ (by simp <;> omega) _ | refine below_drewN ?_ _))⟩
    · rw [pwire_2 hq, hi, ifW_yes, ifL_yes, spn_length]
      have hzl := Lib.hid h.1
      rw [hzl.out]
      have hW := (pol_iff.1 hq).1
      have hn60 : n ≤ 60 := by have := (pol_iff.1 hq).2.1; rw [h.1] at this; exact this
      have hs := inB_iff.1 hi
      have HW := Lib.hid hq
      have HI := Lib.hid hi
      clear hq hi
      go_enter Try.func35, Try.ntmps35
      go_wp2_with fail
      have HA := boxAlloc (boxNew (W := W) (c := c) 27 h) (.cells #[.int .i64 0, .slice none 0 0] 27)
      have HB := belAlloc (belAlloc (belRefl (w := w)) (.cells #[.int .i64 W, .slice A n c] 27)) (.cells #[.int .i64 0, .slice none 0 0] 27)
      have HC := cellNew (w.alloc (.cells #[.int .i64 W, .slice A n c] 27)) (.int .i64 0) (.slice none 0 0) 27
      refine (poGood_any W A n c zs _ HA.out.ri hn).mono ?_
      rw [HW.out]
      rintro e w1 ⟨rfl, hb⟩
      replace HA := boxStep HA hb
      replace HB := belStep HB hb
      replace HC := cellStep HC hb
      have a0 := HA.out.c0; have a1 := HA.out.c1; have az := HA.out.lt
      have cz := HC.out.lt
      simp only [World.size_alloc] at cz
      clear hb h
      go_wp2_with (go_at_call 62; refine (l1In_any _ _ _ _).mono ?_; rw [HI.out]; rintro e w' ⟨rfl, rfl⟩)
      have HM := cellNew w1 (.int .i64 W) (.slice none 0 0) 27
      go_loopw [8, 27] (fun _ i wr => ∃ k : Nat, k ≤ n ∧ i = .int .i64 k ∧ OutRel w1 w1.heap.size W (spn W s zs) k wr) (fun _ i _ => n - (intOf i).toNat)
      case atStart => exact ⟨0, Nat.zero_le _, rfl, none, 0, HM.out, OI.none_ _ _, (Below.refl _ _).alloc (Nat.le_refl _) _⟩
      case round =>
        obtain ⟨k, hk, rfl, A1, c1, hm, ho, hb⟩ := hrel
        have HMr := Lib.hid hm
        have HO := Lib.hid ho
        have H1R := Lib.hid hb
        have HBX : Hid (BoxB wr w1.heap.size w.heap.size W A n c zs) := (BoxB.of HA.out).step hb
        have HCr := cellBelow HC (by simp; omega) hb
        clear a0 a1 hm ho hb
        have a0 := HBX.out.c0; have a1 := HBX.out.c1
        have m0 := HMr.out.c0; have m1 := HMr.out.c1; have mf0 := HMr.out.f0; have mf1 := HMr.out.f1
        have zr : w1.heap.size < wr.heap.size := HMr.out.lt
        have azr : w.heap.size < wr.heap.size := by omega
        by_cases hlt : k < n
        · obtain ⟨b, off, rfl, hbw, hc⟩ := HBX.out.rb.ri.cell hlt
          have hck := hc k hlt
          have HT := Lib.hid (spn_take W s zs k (by rw [hzl.out]; exact hlt))
          have gb := pol_at HW.out (j := k) (by rw [hzl.out]; exact hlt)
          have gm := spn_in (z := gi zs k) (s := s) hW
          have hw0 : (W = 0) = False := eq_false (by omega)
          have hwr : IntKind.i64.wrap (gi zs k + s) = gi zs k + s := IntWalk.i64_in _ (by omega)
          have htm : (gi zs k + s).tmod W = (gi zs k + s) % W := Int.tmod_eq_emod_of_nonneg (by omega)
          clear hc
          go_wp2
          go_region_law (refine step_append_ints _ rfl (.tmp 32) (.tmp 39) rfl (w1.heap.size + 1) A1 k c1 _ (some ⟨wr.heap.size, 0, none⟩) 1 1 [(gi zs k + s) % W] rfl rfl (by first | exact HO.out.alloc _ | exact OI.drewU (HO.out.alloc _)) (by first | exact RI.single _ _ | exact RI.drewU (RI.single wr _)) (by omega) (by omega) (by simp; omega) ?_; intro A2 c2 w2 ho2 hg2; have HM2 := cellKeptNe (cellDrew (cellAlloc HMr _)) hg2 (OI.drewU (HO.out.alloc _)) (Nat.lt_succ_self _); have H1R2 : Hid (Below w1.heap.size w1 w2) := (H1R.out.alloc (by omega) _).drew.trans (ofMark (OI.drewU (HO.out.alloc _)) hg2 (Nat.le_succ _) (by simp; omega)); have n0 := HM2.out.c0; have n1 := HM2.out.c1; have nf0 := HM2.out.f0; have nf1 := HM2.out.f1; have nz := HM2.out.lt)
          all_goals
            go_wp2
            go_roundw
            case rel =>
              refine ⟨k + 1, by omega, by go_num, A2, c2, (cellSet1 HM2 _).out, ?_, H1R2.out.setCell (by simp) _⟩
              rw [HT.out]
              exact ho2.setBelow (by simp) _
            case measure => simp [intOf]; omega
        · obtain rfl : k = n := by omega
          have e : (spn W s zs).take k = (spn W s zs) := List.take_of_length_le (by rw [spn_length, hzl.out]; omega)
          have HY2 : Hid (OI wr (w1.heap.size + 1) A1 k c1 (spn W s zs)) := by have := HO.out; rwa [e] at this
          have k0 := HCr.out.c0; have k1 := HCr.out.c1; have f0 := HCr.out.f0; have f1 := HCr.out.f1
          simp only [World.size_alloc] at k0 k1 f0 f1
          have HBr : Hid (Below w.heap.size w wr) := HB.out.trans (H1R.out.mono HB.out.size)
          go_wp2
          exact bodyPost_ret (v := .tuple #[.agg #[.int .i64 W, .slice A1 k c1], .bool true]) (by simp [results, Try.results35, go_sem, k0, k1]) rfl
            ⟨A1, c1, rfl, ((HY2.out.setBelow (by simp <;> omega) _).setBelow (by simp <;> omega) _).mono (by omega), (HBr.out.setCell (by simp) _).setCell (by simp) _⟩
end Go.Proofs.Ytjdkicanamengaa
