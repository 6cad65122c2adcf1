/- The draws of ladders, at times of others; of wires; of a bool. -/
import Derived.Test.YtgadfjfokgodgaaCu5
import Derived.Test.YtgadfjfokgodgaaCu3
namespace Go.Proofs.Ytgadfjfokgodgaa
open Go Go.RowKit

/-- a bool that is drawn -/
def DrawnB (w : World) (b : Nat) (A : Option Addr) (n c : Nat) (bs : List Int) (k : Nat) (e : Ending) (w' : World) : Prop :=
  ∃ q : Bool, e = .returned (.bool q) ∧ Cur w' b A n c bs k ∧ w.grownBy w' (some b)
/-- a number that is drawn, whatever it is -/
def DrawnN (w : World) (b : Nat) (A : Option Addr) (n c : Nat) (bs : List Int) (k : Nat) (e : Ending) (w' : World) : Prop :=
  ∃ v : Int, e = .returned (.int .i64 v) ∧ Cur w' b A n c bs k ∧ w.grownBy w' (some b)

set_option maxHeartbeats 400000 in
theorem one_any (b : Nat) (A : Option Addr) (n c : Nat) (bs : List Int) (k : Nat) (m : Int) (w : World) (h : Cur w b A n c bs k) (hn : n ≤ 1048576) (hk : k ≤ 100000000) (hm : m ≤ 1000000) :
    Calls Try.prog 53 #[.pointer (some ⟨b, 0, none⟩), .int .i64 m] w (DrawnB w b A n c bs (k + 2)) := by
  go_enter Try.func53, Try.ntmps53
  go_wp2_with fail
  refine (pick_any b A n c bs k m _ h hn hk hm).mono ?_
  rintro e w1 ⟨v, rfl, v0, v1, hc, hg⟩
  have HC := Lib.hid hc
  have HG := Lib.hid hg
  clear hc hg h v1
  by_cases hv : v = 0
  · have e1 : (v == 0) = true := by simp [hv]
    clear hv
    go_wp2
    go_ret
    exact ⟨_, rfl, HC.out, HG.out⟩
  · have e1 : (v == 0) = false := by simp [hv]
    clear hv
    go_wp2
    go_ret
    exact ⟨_, rfl, HC.out, HG.out⟩

theorem rowFive (w : World) (x0 x1 x2 x3 x4 : Int) : RI (w.alloc (.cells #[.int .i64 x0, .int .i64 x1, .int .i64 x2, .int .i64 x3, .int .i64 x4] 3)) (some ⟨w.heap.size, 0, none⟩) 5 [x0, x1, x2, x3, x4] :=
  ⟨rfl, fun _ => ⟨w.heap.size, 0, rfl, by simp, fun j hj => by
    match j, hj with
    | 0, _ => simp [gi]
    | 1, _ => simp [gi]
    | 2, _ => simp [gi]
    | 3, _ => simp [gi]
    | 4, _ => simp [gi]⟩⟩
theorem rowThreeL (w : World) (x0 x1 x2 : Int) : RI (w.alloc (.cells #[.int .i64 x0, .int .i64 x1, .int .i64 x2] 3)) (some ⟨w.heap.size, 0, none⟩) 3 [x0, x1, x2] :=
  ⟨rfl, fun _ => ⟨w.heap.size, 0, rfl, by simp, fun j hj => by
    match j, hj with
    | 0, _ => simp [gi]
    | 1, _ => simp [gi]
    | 2, _ => simp [gi]⟩⟩
theorem madeL (n : Nat) : (madeCells (Value.int .i64 0).cells (n * 1)).toList = I (List.replicate n 0) := by
  apply List.ext_getElem?
  intro j
  by_cases hj : j < n
  · simp [madeCells, Value.cells, hj, I, Nat.mod_one]
  · rw [List.getElem?_eq_none (by simp [size_madeCells]; omega), List.getElem?_eq_none (by simp [I]; omega)]

/-- the answer is laid into its own block -/
theorem finL {w wr : World} {b : Nat} {A : Option Addr} {n c : Nat} {bs : List Int} {k : Nat} {AO : Option Addr} {l co : Nat} {zs : List Int} {W : Int} {u v : Value} {rb : Nat} (hrb : w.heap.size ≤ rb) (hbw : b < w.heap.size) (hlow : ∀ x, blk A = some x → 0 < n → x < w.heap.size)
    (hR : LB wr rb u v) (hO : OI wr w.heap.size AO l co zs) (hC : Cur wr b A n c bs k) (hG : w.grownBy wr (some b)) :
    LB ((wr.setCell ⟨rb, 0, none⟩ (.int .i64 W)).setCell ⟨rb, 1, none⟩ (.slice AO l co)) rb (.int .i64 W) (.slice AO l co) ∧
    OI ((wr.setCell ⟨rb, 0, none⟩ (.int .i64 W)).setCell ⟨rb, 1, none⟩ (.slice AO l co)) w.heap.size AO l co zs ∧
    Cur ((wr.setCell ⟨rb, 0, none⟩ (.int .i64 W)).setCell ⟨rb, 1, none⟩ (.slice AO l co)) b A n c bs k ∧
    w.grownBy ((wr.setCell ⟨rb, 0, none⟩ (.int .i64 W)).setCell ⟨rb, 1, none⟩ (.slice AO l co)) (some b) :=
  ⟨LB.set1 (LB.set0 hR _) _,
   (hO.setOther (p := ⟨rb, 0, none⟩) (hR.ne hO) _).setOther (p := ⟨rb, 1, none⟩) (hR.ne hO) _,
   hC.grown (grown_setCell (g := rb) (grown_setCell (g := rb) (grown_refl wr _) (p := ⟨rb, 0, none⟩) (.inl rfl) _) (p := ⟨rb, 1, none⟩) (.inl rfl) _) (fun e => by injection e with e; omega) (fun h0 e => by have := hlow rb e.symm h0; omega),
   grown_setCell (grown_setCell hG (p := ⟨rb, 0, none⟩) (.inr hrb) _) (p := ⟨rb, 1, none⟩) (.inr hrb) _⟩

set_option maxRecDepth 100000 in
set_option maxHeartbeats 1000000 in
theorem ladder_any (b : Nat) (A : Option Addr) (n c : Nat) (bs : List Int) (k0 : Nat) (w : World) (h : Cur w b A n c bs k0) (hn : n ≤ 1048576) (hk : k0 ≤ 1000000) :
    Calls Try.prog 44 #[.pointer (some ⟨b, 0, none⟩)] w (DrawnL w b A n c bs (k0 + 40) 61) := by
  have hbw := h.lt
  have HLOW := Lib.hid h.low
  have HC0 : Hid (Cur (w.alloc (.cells #[.int .i64 0, .slice none 0 0] 26)) b A n c bs k0) := h.below (allocBel _ _)
  clear h
  go_enter Try.func44, Try.ntmps44
  go_wp2_with fail
  refine (sureLadder_any b A n c bs k0 6 12 _ HC0.out hn (by omega) (by omega) (by omega) (by omega)).mono ?_
  rintro e w1 ⟨W, zs, AO, l, co, rfl, hW2, hW6, hl, ho, hc, hg⟩
  have HR1 : Hid (LB w1 w.heap.size (.int .i64 0) (.slice none 0 0)) := (LB.new w _ _).grownB hg (by omega)
  have HO1 : Hid (OI w1 w.heap.size AO l co zs) := ho.mono (by simp)
  have HC1 : Hid (Cur w1 b A n c bs (k0 + 28)) := hc.le (by omega)
  have HG1 : Hid (w.grownBy w1 (some b)) := ⟨hg.os, hg.tape, hg.output, Nat.le_trans (by simp) hg.size, fun i hi hne => (hg.block i (by simp; omega) hne).trans (Below.heap_alloc _ _ _ hi)⟩
  have hsz : w.heap.size < w1.heap.size := Nat.lt_of_lt_of_le (by simp) hg.size
  have HSZ := Lib.hid hsz
  clear hc hg ho HC0 hsz
  go_wp2_with fail
  obtain ⟨lb, hlb⟩ : ∃ lb, lb = w1.heap.size := ⟨_, rfl⟩
  have HL1 : Hid (LB (w1.alloc (.cells #[.int .i64 W, .slice AO l co] 26)) lb (.int .i64 W) (.slice AO l co)) := by show LB _ lb _ _; rw [hlb]; exact LB.new _ _ _
  have hlw : w.heap.size < lb := by rw [hlb]; exact HSZ.out
  have hrl : w.heap.size ≠ lb := by omega
  have hbl : b < lb := by omega
  rw [← hlb]
  refine (pick_any b A n c bs (k0 + 28) 16 _ (HC1.out.below (allocBel _ _)) hn (by omega) (by omega)).mono ?_
  rintro e w2 ⟨v, rfl, v0, v1, hc, hg⟩
  have HR2 : Hid (LB w2 w.heap.size (.int .i64 0) (.slice none 0 0)) := (HR1.out.alloc _).grownB hg (by omega)
  have HL2 : Hid (LB w2 lb (.int .i64 W) (.slice AO l co)) := HL1.out.grownB hg (by omega)
  have HO2 : Hid (OI w2 w.heap.size AO l co zs) := (HO1.out.alloc _).kept hg (fun x hx e => by have := (HO1.out.blk x hx).1; injection e with e; omega)
  have HC2 : Hid (Cur w2 b A n c bs (k0 + 30)) := hc.le (by omega)
  have HG2 := Lib.hid (grownTr (grown_below HG1.out (allocBel _ _)) hg)
  clear hc hg HC1 HR1 HL1 HG1 HO1 v1 hlb
  have w9 : W ≤ 6 := by omega
  by_cases hv0 : v = 0
  · subst hv0
    have HCd := Lib.hid HC2.out.drewW
    have HLd := Lib.hid (lbDrew HL2.out)
    have HRd := Lib.hid (lbDrew HR2.out)
    have HOd := Lib.hid (oiDrewW HO2.out)
    have HGd := Lib.hid (grown_drew HG2.out)
    have p0 := HL2.out.cell2.c0; have p1 := HL2.out.cell2.c1; have pf := HL2.out.cell2.f1; have pz := HL2.out.cell2.lt
    have pn : lb ≠ w2.heap.size := by omega
    clear HC2 HR2 HL2 HG2 HO2
    have s1 : IntKind.i64.wrap (W - 1) = W - 1 := IntWalk.i64_in _ (by omega)
    have l0 := HLd.out.cell2.c0; have l1 := HLd.out.cell2.c1; have lf := HLd.out.cell2.f1; have lz := HLd.out.cell2.lt
    have hlr : lb ≠ w.heap.size := by omega
    go_wp2_with fail
    go_region_law
      (first
        | (go_simp; go_at_call 56; refine (among_any b A n c bs (k0 + 30) (some ⟨w2.heap.size, 0, none⟩) 3 3 [-1, W - 1, 4611686018427387904] _ (HCd.out.below (allocBel _ _)) hn (by omega) (by exact rowThreeL _ _ _ _) (by omega) (by omega) (by simp [blk]; have := HCd.out.lt; have e : w2.drew.heap.size = w2.heap.size := rfl; omega)).mono ?_; rintro e wa ⟨i, rfl, hi, hc, hg⟩; obtain ⟨x, hx⟩ : ∃ x, x = gi [-1, W - 1, 4611686018427387904] i := ⟨_, rfl⟩; rw [← hx]; have HCa := Lib.hid hc; have HLa : Hid (LB wa lb (.int .i64 W) (.slice AO l co)) := (HLd.out.alloc _).grownB hg (by omega); have HRa : Hid (LB wa w.heap.size (.int .i64 0) (.slice none 0 0)) := (HRd.out.alloc _).grownB hg (by omega); have HOa : Hid (OI wa w.heap.size AO l co zs) := (HOd.out.alloc _).kept hg (fun x hx e => by have := (HOd.out.blk x hx).1; injection e with e; omega); have HGa : Hid (w.grownBy wa (some b)) := grownTr (grown_below HGd.out (allocBel _ _)) hg; have a0 := HLa.out.cell2.c0; have a1 := HLa.out.cell2.c1; have af := HLa.out.cell2.f1; have az := HLa.out.cell2.lt; clear hc hg hx hi)
        | (refine step_append_ints _ rfl (.tmp 11) (.tmp 18) rfl w.heap.size AO l co zs (some ⟨wa.heap.size, 0, none⟩) 1 1 [x] rfl rfl (HOa.out.alloc _) (RI.singC _ _) (by omega) (by omega) (by have := HGa.out.size; simp; omega) ?_; intro A4 c4 wb ho4 hg4; have O4 := Lib.hid ho4; have HLb : Hid (LB wb lb (.int .i64 W) (.slice AO l co)) := (HLa.out.alloc _).grown hg4 (HOa.out.alloc _); have HRb : Hid (LB wb w.heap.size (.int .i64 0) (.slice none 0 0)) := (HRa.out.alloc _).grown hg4 (HOa.out.alloc _); have HCb : Hid (Cur wb b A n c bs (k0 + 30 + 2)) := (HCa.out.below (allocBel _ _)).grownOwn (HOa.out.alloc _) hbw (fun y hy h0 => HLOW.out y hy h0) hg4; have HGb : Hid (w.grownBy wb (some b)) := grownOwn (grown_below HGa.out (allocBel _ _)) (HOa.out.alloc _) (Nat.le_refl _) hg4; have b0 := HLb.out.cell2.c0; have b1 := HLb.out.cell2.c1; have bf := HLb.out.cell2.f1; have bz := HLb.out.cell2.lt; have r0 := HRb.out.cell2.c0; have r1 := HRb.out.cell2.c1; have rf0 := HRb.out.cell2.f0; have rf1 := HRb.out.cell2.f1; have rz := HRb.out.cell2.lt; clear ho4 hg4))
    all_goals go_wp2
    all_goals
      have HR4 : LB (wb.setCell ⟨lb, 1, none⟩ (.slice A4 (l + 1) c4)) w.heap.size (.int .i64 0) (.slice none 0 0) := HRb.out.other (by show lb ≠ w.heap.size; omega) _
      have HO4 : OI (wb.setCell ⟨lb, 1, none⟩ (.slice A4 (l + 1) c4)) w.heap.size A4 (l + 1) c4 _ := O4.out.setOther (HLb.out.ne O4.out) _
      have HC4 := HCb.out.grown (grown_setCell (g := lb) (grown_refl wb _) (p := ⟨lb, 1, none⟩) (.inl rfl) (.slice A4 (l + 1) c4)) (fun e => by injection e with e; omega) (fun h0 e => by have := HLOW.out lb e.symm h0; omega)
      have HG4 := grown_setCell HGb.out (p := ⟨lb, 1, none⟩) (.inr (by show w.heap.size ≤ lb; omega)) (.slice A4 (l + 1) c4)
      obtain ⟨m, mO, mC, mG⟩ := finL (W := W) (Nat.le_refl _) hbw HLOW.out HR4 HO4 HC4 HG4
      generalize ((wb.setCell ⟨lb, 1, none⟩ (.slice A4 (l + 1) c4)).setCell ⟨w.heap.size, 0, none⟩ (.int .i64 W)).setCell ⟨w.heap.size, 1, none⟩ (.slice A4 (l + 1) c4) = wz at m mO mC mG ⊢
      exact bodyPost_ret (v := .agg #[.int .i64 W, .slice A4 (l + 1) c4]) (by simp [results, Try.results44, go_sem, m.cell2.c0, m.cell2.c1]) rfl
        ⟨W, _, A4, (l + 1), c4, rfl, by omega, mO, mC.le (by omega), mG⟩
  by_cases hv1 : v = 1
  · subst hv1
    clear hv0
    go_wp2_with fail
    refine (among_any b A n c bs (k0 + 30) (some ⟨w2.heap.size, 0, none⟩) 5 5 [1, 2, 8, 9, -1] _ (HC2.out.below (allocBel _ _)) hn (by omega) (rowFive _ _ _ _ _ _) (by omega) (by omega) (by simp [blk]; have := HC2.out.lt; omega)).mono ?_
    rintro e w3 ⟨i, rfl, hi, hc, hg⟩
    obtain ⟨V, hV⟩ : ∃ V, V = gi [1, 2, 8, 9, -1] i := ⟨_, rfl⟩
    rw [← hV]
    have HR3 : Hid (LB w3 w.heap.size (.int .i64 0) (.slice none 0 0)) := (HR2.out.alloc _).grownB hg (by omega)
    have HL3 : Hid (LB w3 lb (.int .i64 W) (.slice AO l co)) := (HL2.out.alloc _).grownB hg (by omega)
    have HO3 : Hid (OI w3 w.heap.size AO l co zs) := (HO2.out.alloc _).kept hg (fun x hx e => by have := (HO2.out.blk x hx).1; injection e with e; omega)
    have HC3 := Lib.hid hc
    have HG3 := Lib.hid (grownTr (grown_below HG2.out (allocBel _ _)) hg)
    clear hc hg HC2 HR2 HL2 HG2 HO2 hV hi
    have l0 := HL3.out.cell2.c0; have l1 := HL3.out.cell2.c1; have lf := HL3.out.cell2.f0; have lz := HL3.out.cell2.lt
    have r0 := HR3.out.cell2.c0; have r1 := HR3.out.cell2.c1; have rf0 := HR3.out.cell2.f0; have rf1 := HR3.out.cell2.f1; have rz := HR3.out.cell2.lt
    have hlr : lb ≠ w.heap.size := by omega
    go_wp2
    have HR4 : LB (w3.setCell ⟨lb, 0, none⟩ (.int .i64 V)) w.heap.size (.int .i64 0) (.slice none 0 0) := HR3.out.other (by show lb ≠ w.heap.size; omega) _
    have HO4 : OI (w3.setCell ⟨lb, 0, none⟩ (.int .i64 V)) w.heap.size AO l co zs := HO3.out.setOther (HL3.out.ne HO3.out) _
    have HC4 := HC3.out.grown (grown_setCell (g := lb) (grown_refl w3 _) (p := ⟨lb, 0, none⟩) (.inl rfl) (.int .i64 V)) (fun e => by injection e with e; omega) (fun h0 e => by have := HLOW.out lb e.symm h0; omega)
    have HG4 := grown_setCell HG3.out (p := ⟨lb, 0, none⟩) (.inr (by show w.heap.size ≤ lb; omega)) (.int .i64 V)
    obtain ⟨m, mO, mC, mG⟩ := finL (W := V) (Nat.le_refl _) hbw HLOW.out HR4 HO4 HC4 HG4
    generalize ((w3.setCell ⟨lb, 0, none⟩ (.int .i64 V)).setCell ⟨w.heap.size, 0, none⟩ (.int .i64 V)).setCell ⟨w.heap.size, 1, none⟩ (.slice AO l co) = wz at m mO mC mG ⊢
    exact bodyPost_ret (v := .agg #[.int .i64 V, .slice AO l co]) (by simp [results, Try.results44, go_sem, m.cell2.c0, m.cell2.c1]) rfl
      ⟨V, _, AO, l, co, rfl, by omega, mO, mC.le (by omega), mG⟩
  by_cases hv2 : v = 2
  · subst hv2
    clear hv0 hv1
    go_wp2_with fail
    refine (pick_any b A n c bs (k0 + 30) 2 _ HC2.out hn (by omega) (by omega)).mono ?_
    rintro e w3 ⟨v, rfl, v0, v1, hc, hg⟩
    rw [if_pos (by decide)] at v1
    obtain ⟨r, rfl⟩ : ∃ r : Nat, v = r := ⟨v.toNat, by omega⟩
    have hr : r ≤ 1 := by omega
    have HR3 : Hid (LB w3 w.heap.size (.int .i64 0) (.slice none 0 0)) := HR2.out.grownB hg (by omega)
    have HL3 : Hid (LB w3 lb (.int .i64 W) (.slice AO l co)) := HL2.out.grownB hg (by omega)
    have HC3 := Lib.hid hc
    have HG3 := Lib.hid (grownTr HG2.out hg)
    clear hc hg HC2 HR2 HL2 HG2 HO2
    obtain ⟨i0, hi0, hz0, hz1, hz2⟩ := info_parts infoInt
    have l0 := HL3.out.cell2.c0; have l1 := HL3.out.cell2.c1; have lf := HL3.out.cell2.f1; have lz := HL3.out.cell2.lt
    have r0 := HR3.out.cell2.c0; have r1 := HR3.out.cell2.c1; have rf0 := HR3.out.cell2.f0; have rf1 := HR3.out.cell2.f1; have rz := HR3.out.cell2.lt
    have hlr : lb ≠ w.heap.size := by omega
    go_wp2_with (at_make; go_must (refine wpList_make_full _ rfl _ _ 24 rfl w.heap.size 3 i0 (.int .i64 0) 1 Try.underlying24 hi0 hz0 hz1 .i64 .i64 _ _ (60 + r) rfl rfl (by first | omega | simp) (by first | omega | simp) (by rw [hz2]; omega) (by unfold maxLen; omega) HG3.out.size ?_); intro w6 hown6 hg6; have HO6 : Hid (OI w6 w.heap.size (some ⟨w3.heap.size, 0, none⟩) (60 + r) (60 + r) (List.replicate (60 + r) 0)) := ⟨by simp, by rw [madeL] at hown6; exact hown6⟩; have HB6 : Hid (Below w3.heap.size w3 w6) := Below.of_grown (A := none) hg6 (fun b h => by simp [blk] at h) (Nat.le_refl _); have HL6 : Hid (LB w6 lb (.int .i64 W) (.slice AO l co)) := HL3.out.below HB6.out; have HR6 : Hid (LB w6 w.heap.size (.int .i64 0) (.slice none 0 0)) := HR3.out.below HB6.out; clear hown6 hg6; have m0 := HL6.out.cell2.c0; have m1 := HL6.out.cell2.c1; have mf := HL6.out.cell2.f1; have mz := HL6.out.cell2.lt; have n0 := HR6.out.cell2.c0; have n1 := HR6.out.cell2.c1; have nf0 := HR6.out.cell2.f0; have nf1 := HR6.out.cell2.f1; have nz := HR6.out.cell2.lt)
    have HC6 := HC3.out.below HB6.out
    have HG6 := grown_below HG3.out HB6.out
    have HR4 : LB (w6.setCell ⟨lb, 1, none⟩ (.slice (some ⟨w3.heap.size, 0, none⟩) (60 + r) (60 + r))) w.heap.size (.int .i64 0) (.slice none 0 0) := HR6.out.other (by show lb ≠ w.heap.size; omega) _
    have HO4 : OI (w6.setCell ⟨lb, 1, none⟩ (.slice (some ⟨w3.heap.size, 0, none⟩) (60 + r) (60 + r))) w.heap.size _ _ _ _ := HO6.out.setOther (HL6.out.ne HO6.out) _
    have HC4 := HC6.grown (grown_setCell (g := lb) (grown_refl w6 _) (p := ⟨lb, 1, none⟩) (.inl rfl) (.slice (some ⟨w3.heap.size, 0, none⟩) (60 + r) (60 + r))) (fun e => by injection e with e; omega) (fun h0 e => by have := HLOW.out lb e.symm h0; omega)
    have HG4 := grown_setCell HG6 (p := ⟨lb, 1, none⟩) (.inr (by show w.heap.size ≤ lb; omega)) (.slice (some ⟨w3.heap.size, 0, none⟩) (60 + r) (60 + r))
    obtain ⟨m, mO, mC, mG⟩ := finL (W := W) (Nat.le_refl _) hbw HLOW.out HR4 HO4 HC4 HG4
    generalize ((w6.setCell ⟨lb, 1, none⟩ (.slice (some ⟨w3.heap.size, 0, none⟩) (60 + r) (60 + r))).setCell ⟨w.heap.size, 0, none⟩ (.int .i64 W)).setCell ⟨w.heap.size, 1, none⟩ (.slice (some ⟨w3.heap.size, 0, none⟩) (60 + r) (60 + r)) = wz at m mO mC mG ⊢
    exact bodyPost_ret (v := .agg #[.int .i64 W, .slice (some ⟨w3.heap.size, 0, none⟩) (60 + r) (60 + r)]) (by simp [results, Try.results44, go_sem, m.cell2.c0, m.cell2.c1]) rfl
      ⟨W, _, (some ⟨w3.heap.size, 0, none⟩), (60 + r), (60 + r), rfl, by omega, mO, mC.le (by omega), mG⟩
  · have l0 := HL2.out.cell2.c0; have l1 := HL2.out.cell2.c1; have lz := HL2.out.cell2.lt
    have r0 := HR2.out.cell2.c0; have r1 := HR2.out.cell2.c1; have rf0 := HR2.out.cell2.f0; have rf1 := HR2.out.cell2.f1; have rz := HR2.out.cell2.lt
    go_wp2
    obtain ⟨m, mO, mC, mG⟩ := finL (W := W) (Nat.le_refl _) hbw HLOW.out HR2.out HO2.out HC2.out HG2.out
    generalize (w2.setCell ⟨w.heap.size, 0, none⟩ (.int .i64 W)).setCell ⟨w.heap.size, 1, none⟩ (.slice AO l co) = wz at m mO mC mG ⊢
    exact bodyPost_ret (v := .agg #[.int .i64 W, .slice AO l co]) (by simp [results, Try.results44, go_sem, m.cell2.c0, m.cell2.c1]) rfl
      ⟨W, zs, AO, l, co, rfl, by omega, mO, mC.le (by omega), mG⟩
end Go.Proofs.Ytgadfjfokgodgaa
