/- The contracts of MirrorLadder, of the program and of its model. -/
import Derived.Test.YtioekhjokbbmlaaC1l
import Derived.Test.YtioekhjokbbmlaaSt
import Derived.BigQuiet
namespace Go.Proofs.Ytioekhjokbbmlaa
open Go Go.RowKit

def mir (W : Int) (zs : List Int) : List Int := zs.map fun z => W - 2 - z
theorem mir_length (W : Int) (zs : List Int) : (mir W zs).length = zs.length := by simp [mir]
theorem gi_mir (W : Int) (zs : List Int) (j : Nat) (h : j < zs.length) : gi (mir W zs) j = W - 2 - gi zs j := by
  rw [gi_lt (by rw [mir_length]; exact h), gi_lt h]; simp [mir]
theorem mir_take (W : Int) (zs : List Int) (k : Nat) (h : k < zs.length) : (mir W zs).take (k + 1) = (mir W zs).take k ++ [W - 2 - gi zs k] := by
  have hl := mir_length W zs
  rw [List.take_succ_eq_append_getElem (by omega), ← gi_lt, gi_mir _ _ _ h]
def ifW (b : Bool) (W : Int) : Int := if b = true then W else 0
def ifL (b : Bool) (zs : List Int) : List Int := if b = true then zs else []
theorem ifW_yes (W : Int) : ifW true W = W := rfl
theorem ifW_no (W : Int) : ifW false W = 0 := rfl
theorem ifL_yes (zs : List Int) : ifL true zs = zs := rfl
theorem ifL_no (zs : List Int) : ifL false zs = [] := rfl
theorem mirN_len (W : Int) (zs : List Int) : (ifL (lad W zs) (mir W zs)).length ≤ 1000 := by
  rcases h : lad W zs with _ | _
  · rw [ifL_no]; simp
  · rw [ifL_yes, mir_length]
    have := (lad_iff.1 h).2.1
    omega
/-- one part -/
theorem Parts.one {w : World} {A : Option Addr} {n c : Nat} {zs : List Int} (h : RI w A n zs) : Parts (w.alloc (.cells #[.slice A n c] 22)) (some ⟨w.heap.size, 0, none⟩) 1 (fun _ => A) (fun _ => n) (fun _ => c) (fun _ => zs) :=
  ⟨fun _ => ⟨w.heap.size, 0, rfl, by simp, fun j hj => by obtain rfl : j = 0 := by omega
                                                          simp⟩, fun _ _ => h.alloc _⟩
theorem cat_one (zs : List Int) : cat (fun _ => zs) 1 = zs := by simp [cat]

theorem ladderOf_one (W : Int) (A : Option Addr) (n c : Nat) (zs : List Int) (w : World) (h : RI w A n zs) (hn : n ≤ 1000000) (hl : lad W zs = true) :
    Calls Try.prog 89 #[.int .i64 W, .slice (some ⟨w.heap.size, 0, none⟩) 1 1] (w.alloc (.cells #[.slice A n c] 22)) (FreshLB (w.alloc (.cells #[.slice A n c] 22)) W n zs true) := by
  have := ladderOf_yes W (some ⟨w.heap.size, 0, none⟩) 1 1 (fun _ => A) (fun _ => n) (fun _ => c) (fun _ => zs) _ (Parts.one h) (by omega) (by rw [cat_one, h.1]; exact hn) (by rw [cat_one]; exact hl)
  rwa [cat_one, h.1] at this

/-- a ladder's rungs in the call's own memory, the first k of them mirrored; nothing else has turned since w4 -/
def MirRel (w4 : World) (K : Nat) (A5 : Option Addr) (n c5 : Nat) (W : Int) (zs : List Int) (k : Nat) (wr : World) : Prop :=
  (∃ ys, OI wr K A5 n c5 ys ∧ ∀ j, j < n → gi ys j = if j < k then W - 2 - gi zs j else gi zs j) ∧ w4.grownBy wr (blk A5)

set_option maxRecDepth 100000 in
set_option maxHeartbeats 4000000 in
theorem iMirrorLadder_any (W : Int) (A : Option Addr) (n c : Nat) (zs : List Int) (w : World) (h : RI w A n zs) (hn : n ≤ 1048576) :
    Calls Try.prog 55 #[.agg #[.int .i64 W, .slice A n c]] w (FreshLB w (ifW (lad W zs) W) (ifL (lad W zs) (mir W zs)).length (ifL (lad W zs) (mir W zs)) (lad W zs)) := by
  rcases hq : lad W zs with _ | _
  · rw [ifW_no, ifL_no]
    have HW := Lib.hid hq
    clear hq
    go_enter Try.func55, Try.ntmps55
    go_wp2_with fail
    have HB := belAlloc (belAlloc (belRefl (w := w)) (.cells #[.int .i64 W, .slice A n c] 27)) (.cells #[.int .i64 0, .slice none 0 0] 27)
    have HC := cellNew (w.alloc (.cells #[.int .i64 W, .slice A n c] 27)) (.int .i64 0) (.slice none 0 0) 27
    refine (iIsLadder_any W A n c zs _ ((h.alloc _).alloc _) hn).mono ?_
    rw [HW.out]
    rintro e w1 ⟨rfl, hb⟩
    replace HB := belStep HB hb
    replace HC := cellStep HC hb
    have k0 := HC.out.c0; have k1 := HC.out.c1; have f0 := HC.out.f0; have f1 := HC.out.f1; have hz := HC.out.lt
    simp only [World.size_alloc] at k0 k1 f0 f1 hz
    clear hb h
    go_wp2
    exact bodyPost_ret (v := .tuple #[.agg #[.int .i64 0, .slice none 0 0], .bool false]) (by simp [results, Try.results55, go_sem, k0, k1]) rfl ⟨none, 0, rfl, OI.none_ _ _, (by repeat (first | exact Below.refl _ _ | exact HB.out | refine Below.setCell ?_ (by simp <;> omega) _ | refine Below.alloc ?_ (by simp <;> omega) _ | refine below_drewN ?_ _))⟩
  · rw [ifW_yes, ifL_yes, mir_length]
    have hzl := Lib.hid h.1
    rw [hzl.out]
    have hW := (lad_iff.1 hq).1
    have hn60 : n ≤ 60 := by have := (lad_iff.1 hq).2.1; rw [h.1] at this; exact this
    have HW := Lib.hid hq
    clear hq
    go_enter Try.func55, Try.ntmps55
    go_wp2_with fail
    have HA := boxAlloc (boxNew (W := W) (c := c) 27 h) (.cells #[.int .i64 0, .slice none 0 0] 27)
    have HB := belAlloc (belAlloc (belRefl (w := w)) (.cells #[.int .i64 W, .slice A n c] 27)) (.cells #[.int .i64 0, .slice none 0 0] 27)
    have HC := cellNew (w.alloc (.cells #[.int .i64 W, .slice A n c] 27)) (.int .i64 0) (.slice none 0 0) 27
    refine (iIsLadder_any W A n c zs _ HA.out.ri hn).mono ?_
    rw [HW.out]
    rintro e w1 ⟨rfl, hb⟩
    replace HA := boxStep HA hb
    replace HB := belStep HB hb
    replace HC := cellStep HC hb
    have a0 := HA.out.c0; have a1 := HA.out.c1; have az := HA.out.lt
    have cz := HC.out.lt
    simp only [World.size_alloc] at cz
    clear hb h
    go_wp2_with fail
    refine (ladderOf_one W A n c zs w1 HA.out.ri (by omega) HW.out).mono ?_
    rintro e w2 ⟨A5, c5, rfl, o5, hb⟩
    have hL5 := blkLt o5
    have HO : Hid (OI (w2.alloc (.cells #[.int .i64 W, .slice A5 n c5] 27)) w1.heap.size A5 n c5 zs) := oiAlloc (Lib.hid (o5.mono (show w1.heap.size ≤ _ by simp))) _
    have HM := cellNew w2 (.int .i64 W) (.slice A5 n c5) 27
    have H14 : Hid (Below w1.heap.size w1 (w2.alloc (.cells #[.int .i64 W, .slice A5 n c5] 27))) := by
      have hs := hb.size
      simp at hs
      exact (((Below.refl _ _).alloc (Nat.le_refl _) _).trans (hb.mono (by simp))).alloc (by omega) _
    have h12 : w1.heap.size < w2.heap.size := by have := hb.size; simp at this; omega
    have m0 := HM.out.c0; have m1 := HM.out.c1
    replace a0 := (H14.out.cell (p := ⟨w.heap.size, 0, none⟩) az).trans a0
    replace a1 := (H14.out.cell (p := ⟨w.heap.size, 1, none⟩) az).trans a1
    clear hb o5
    go_wp2_with fail
    obtain ⟨w4, hw4⟩ : ∃ w4, w4 = w2.alloc (.cells #[.int .i64 W, .slice A5 n c5] 27) := ⟨_, rfl⟩
    have hz4 : w4.heap.size = w2.heap.size + 1 := by rw [hw4]; simp
    rw [← hw4] at HO HM H14 m0 m1 a0 a1
    rw [← hw4]
    have H4 := Lib.hid hw4
    have HZ4 := Lib.hid hz4
    have hz4' : w2.heap.size < w4.heap.size := by omega
    clear hw4 hz4
    go_loopw [6, 7, 24] (fun _ _ i wr => ∃ k : Nat, k ≤ n ∧ i = .int .i64 k ∧ MirRel w4 w1.heap.size A5 n c5 W zs k wr) (fun _ _ i _ => n - (intOf i).toNat)
    case atStart => exact ⟨0, Nat.zero_le _, rfl, ⟨zs, HO.out, fun j _ => by simp⟩, grown_refl _ _⟩
    case round =>
      obtain ⟨k, hk, rfl, ⟨ys, ho, hall⟩, hg⟩ := hrel
      have HY := Lib.hid ho
      have HALL := Lib.hid hall
      have HG := Lib.hid hg
      have h1r : Below w1.heap.size w1 wr := H14.out.trans (ofMark HO.out hg (Nat.le_refl _) H14.out.size)
      have H1R := Lib.hid h1r
      have HMr := cellKept HM hg (blkLtMono hL5 (Nat.le_refl _))
      have HBX : Hid (BoxB wr w1.heap.size w.heap.size W A n c zs) := (BoxB.of HA.out).step h1r
      have HCr := cellBelow HC (by simp; omega) h1r
      clear a0 a1 m0 m1
      have a0 := HBX.out.c0; have a1 := HBX.out.c1
      have m0 := HMr.out.c0; have m1 := HMr.out.c1
      have zr : w2.heap.size < wr.heap.size := HMr.out.lt
      clear ho hall hg h1r
      by_cases hlt : k < n
      · rcases HY.out.form with ⟨_, _, h0⟩ | ⟨g, cur, rfl, hBg, hgw, hh, h1, h2, h3, h4⟩
        · omega
        obtain ⟨b, off, rfl, hbw, hc⟩ := HBX.out.rb.ri.cell hlt
        have hck := hc k hlt
        obtain ⟨v0, hv0⟩ : ∃ v0, wr.cell? ⟨g, k, none⟩ = some v0 := by
          obtain ⟨b', off', e, _, hc'⟩ := HY.out.ri.cell hlt
          injection e with e; injection e with e1 e2 e3
          subst e1 e2
          exact ⟨_, by have := hc' k hlt; rwa [Nat.zero_add] at this⟩
        have hf : wr.frozen? ⟨g, k, none⟩ = false := HY.out.2.frozenAt k
        have gb := lad_at HW.out (j := k) (by rw [hzl.out]; exact hlt)
        clear hc hh h4 h3 h2
        go_wp2
        go_roundw
        case rel =>
          refine ⟨k + 1, by omega, by go_num, ⟨ys.set k (W - 2 - gi zs k), HY.out.stored k _, fun j hj => ?_⟩, grown_setCell (g := g) (p := ⟨g, k, none⟩) HG.out (.inl rfl) _⟩
          rw [gi_set _ _ _ _ (by have := HY.out.1; omega)]
          by_cases e : j = k
          · subst e; simp
          · rw [if_neg e, HALL.out j hj]
            by_cases e2 : j < k
            · rw [if_pos e2, if_pos (by omega)]
            · rw [if_neg e2, if_neg (by omega)]
        case measure => simp [intOf]; omega
      · obtain rfl : k = n := by omega
        have e : ys = mir W zs := gi_ext (by rw [HY.out.1, mir_length, hzl.out]) (fun j hj => by rw [HALL.out j (by have := HY.out.1; omega), if_pos (by have := HY.out.1; omega), gi_mir _ _ _ (by have := HY.out.1; have := hzl.out; omega)])
        have HY2 : Hid (OI wr w1.heap.size A5 k c5 (mir W zs)) := by have := HY.out; rwa [e] at this
        have k0 := HCr.out.c0; have k1 := HCr.out.c1; have f0 := HCr.out.f0; have f1 := HCr.out.f1
        simp only [World.size_alloc] at k0 k1 f0 f1
        have HBr : Hid (Below w.heap.size w wr) := HB.out.trans (H1R.out.mono HB.out.size)
        go_wp2
        exact bodyPost_ret (v := .tuple #[.agg #[.int .i64 W, .slice A5 k c5], .bool true]) (by simp [results, Try.results55, go_sem, k0, k1]) rfl
          ⟨A5, c5, rfl, ((HY2.out.setBelow (by simp <;> omega) _).setBelow (by simp <;> omega) _).mono (by omega), (HBr.out.setCell (by simp) _).setCell (by simp) _⟩

/-- a ladder in block bo whose rungs, in the call's own memory behind it, are the first k of ys -/
def OutRel (w1 : World) (bo : Nat) (W : Int) (ys : List Int) (k : Nat) (wr : World) : Prop :=
  ∃ A1 c1, Cell2 wr bo (.int .i64 W) (.slice A1 k c1) ∧ OI wr (bo + 1) A1 k c1 (ys.take k) ∧ Below bo w1 wr

set_option maxRecDepth 100000 in
set_option maxHeartbeats 4000000 in
theorem sMirrorLadder_any (W : Int) (A : Option Addr) (n c : Nat) (zs : List Int) (w : World) (h : RI w A n zs) (hn : n ≤ 1048576) :
    Calls Try.prog 54 #[.agg #[.int .i64 W, .slice A n c]] w (FreshLB w (ifW (lad W zs) W) (ifL (lad W zs) (mir W zs)).length (ifL (lad W zs) (mir W zs)) (lad W zs)) := by
  rcases hq : lad W zs with _ | _
  · rw [ifW_no, ifL_no]
    have HW := Lib.hid hq
    clear hq
    go_enter Try.func54, Try.ntmps54
    go_wp2_with fail
    have HB := belAlloc (belAlloc (belRefl (w := w)) (.cells #[.int .i64 W, .slice A n c] 27)) (.cells #[.int .i64 0, .slice none 0 0] 27)
    have HC := cellNew (w.alloc (.cells #[.int .i64 W, .slice A n c] 27)) (.int .i64 0) (.slice none 0 0) 27
    refine (laGood_any W A n c zs _ ((h.alloc _).alloc _) hn).mono ?_
    rw [HW.out]
    rintro e w1 ⟨rfl, hb⟩
    replace HB := belStep HB hb
    replace HC := cellStep HC hb
    have k0 := HC.out.c0; have k1 := HC.out.c1; have f0 := HC.out.f0; have f1 := HC.out.f1; have hz := HC.out.lt
    simp only [World.size_alloc] at k0 k1 f0 f1 hz
    clear hb h
    go_wp2
    exact bodyPost_ret (v := .tuple #[.agg #[.int .i64 0, .slice none 0 0], .bool false]) (by simp [results, Try.results54, go_sem, k0, k1]) rfl ⟨none, 0, rfl, OI.none_ _ _, (by repeat (first | exact Below.refl _ _ | exact HB.out | refine Below.setCell ?_ (by simp <;> omega) _ | refine Below.alloc ?_ (by simp <;> omega) _ | refine below_drewN ?_ _))⟩
  · rw [ifW_yes, ifL_yes, mir_length]
    have hzl := Lib.hid h.1
    rw [hzl.out]
    have hW := (lad_iff.1 hq).1
    have hn60 : n ≤ 60 := by have := (lad_iff.1 hq).2.1; rw [h.1] at this; exact this
    have HW := Lib.hid hq
    clear hq
    go_enter Try.func54, Try.ntmps54
    go_wp2_with fail
    have HA := boxAlloc (boxNew (W := W) (c := c) 27 h) (.cells #[.int .i64 0, .slice none 0 0] 27)
    have HB := belAlloc (belAlloc (belRefl (w := w)) (.cells #[.int .i64 W, .slice A n c] 27)) (.cells #[.int .i64 0, .slice none 0 0] 27)
    have HC := cellNew (w.alloc (.cells #[.int .i64 W, .slice A n c] 27)) (.int .i64 0) (.slice none 0 0) 27
    refine (laGood_any W A n c zs _ HA.out.ri hn).mono ?_
    rw [HW.out]
    rintro e w1 ⟨rfl, hb⟩
    replace HA := boxStep HA hb
    replace HB := belStep HB hb
    replace HC := cellStep HC hb
    have a0 := HA.out.c0; have a1 := HA.out.c1; have az := HA.out.lt
    have cz := HC.out.lt
    simp only [World.size_alloc] at cz
    clear hb h
    go_wp2
    have HM := cellNew w1 (.int .i64 W) (.slice none 0 0) 27
    go_loopw [6, 17] (fun _ i wr => ∃ k : Nat, k ≤ n ∧ i = .int .i64 k ∧ OutRel w1 w1.heap.size W (mir W zs) k wr) (fun _ i _ => n - (intOf i).toNat)
    case atStart => exact ⟨0, Nat.zero_le _, rfl, none, 0, HM.out, OI.none_ _ _, (Below.refl _ _).alloc (Nat.le_refl _) _⟩
    case round =>
      obtain ⟨k, hk, rfl, A1, c1, hm, ho, hb⟩ := hrel
      have HMr := Lib.hid hm
      have HO := Lib.hid ho
      have H1R := Lib.hid hb
      have HBX : Hid (BoxB wr w1.heap.size w.heap.size W A n c zs) := (BoxB.of HA.out).step hb
      have HCr := cellBelow HC (by simp; omega) hb
      clear a0 a1 hm ho hb
      have a0 := HBX.out.c0; have a1 := HBX.out.c1
      have m0 := HMr.out.c0; have m1 := HMr.out.c1
      have zr : w1.heap.size < wr.heap.size := HMr.out.lt
      by_cases hlt : k < n
      · obtain ⟨b, off, rfl, hbw, hc⟩ := HBX.out.rb.ri.cell hlt
        have hck := hc k hlt
        have gb := lad_at HW.out (j := k) (by rw [hzl.out]; exact hlt)
        have HT := Lib.hid (mir_take W zs k (by rw [hzl.out]; exact hlt))
        clear hc
        go_wp2_with (at_builtin; refine wpList_append_int _ rfl _ _ rfl (w1.heap.size + 1) A1 k c1 _ (W - 2 - gi zs k) wr.heap.size rfl rfl (HO.out.alloc _) (by simp) (by omega) (by simp; omega) ?_; intro A2 c2 w2 ho2 hg2; have HM2 := cellKeptNe (cellAlloc HMr _) hg2 (HO.out.alloc _) (Nat.lt_succ_self _); have H1R2 : Hid (Below w1.heap.size w1 w2) := (H1R.out.alloc (by omega) _).trans (ofMark (HO.out.alloc _) hg2 (Nat.le_succ _) (by simp; omega)); have n0 := HM2.out.c0; have n1 := HM2.out.c1; have nf0 := HM2.out.f0; have nf1 := HM2.out.f1; have nz := HM2.out.lt)
        go_roundw
        case rel =>
          refine ⟨k + 1, by omega, by go_num, A2, c2, (cellSet1 HM2 _).out, ?_, H1R2.out.setCell (by simp) _⟩
          rw [HT.out]
          exact ho2.setBelow (by simp) _
        case measure => simp [intOf]; omega
      · obtain rfl : k = n := by omega
        have e : (mir W zs).take k = mir W zs := List.take_of_length_le (by rw [mir_length, hzl.out]; omega)
        have HY2 : Hid (OI wr (w1.heap.size + 1) A1 k c1 (mir W zs)) := by have := HO.out; rwa [e] at this
        have k0 := HCr.out.c0; have k1 := HCr.out.c1; have f0 := HCr.out.f0; have f1 := HCr.out.f1
        simp only [World.size_alloc] at k0 k1 f0 f1
        have HBr : Hid (Below w.heap.size w wr) := HB.out.trans (H1R.out.mono HB.out.size)
        go_wp2
        exact bodyPost_ret (v := .tuple #[.agg #[.int .i64 W, .slice A1 k c1], .bool true]) (by simp [results, Try.results54, go_sem, k0, k1]) rfl
          ⟨A1, c1, rfl, ((HY2.out.setBelow (by simp <;> omega) _).setBelow (by simp <;> omega) _).mono (by omega), (HBr.out.setCell (by simp) _).setCell (by simp) _⟩
end Go.Proofs.Ytioekhjokbbmlaa
