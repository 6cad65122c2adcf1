/- The draws of ladders: a ladder in new memory, and the cursor goes on. -/
import Derived.Test.YtgadfjfokgodgaaCu2
import Derived.Test.YtgadfjfokgodgaaLB
import Derived.Deep.RegionHeld3
namespace Go.Proofs.Ytgadfjfokgodgaa
open Go Go.RowKit

/-- a ladder in new memory, and the cursor goes on -/
def DrawnL (w : World) (b : Nat) (A : Option Addr) (n c : Nat) (bs : List Int) (k m : Nat) (e : Ending) (w' : World) : Prop :=
  ∃ (W : Int) (zs : List Int) (A2 : Option Addr) (n2 c2 : Nat), e = .returned (.agg #[.int .i64 W, .slice A2 n2 c2]) ∧ n2 ≤ m ∧ OI w' w.heap.size A2 n2 c2 zs ∧ Cur w' b A n c bs k ∧ w.grownBy w' (some b)
/-- the same, of wires within bounds -/
def DrawnW (w : World) (b : Nat) (A : Option Addr) (n c : Nat) (bs : List Int) (k m : Nat) (p : Int) (e : Ending) (w' : World) : Prop :=
  ∃ (W : Int) (zs : List Int) (A2 : Option Addr) (n2 c2 : Nat), e = .returned (.agg #[.int .i64 W, .slice A2 n2 c2]) ∧ 2 ≤ W ∧ W ≤ p ∧ n2 ≤ m ∧ OI w' w.heap.size A2 n2 c2 zs ∧ Cur w' b A n c bs k ∧ w.grownBy w' (some b)

theorem LB.grownB {w wi : World} {b g : Nat} {u v : Value} (h : LB w b u v) (hg : w.grownBy wi (some g)) (hne : b ≠ g) : LB wi b u v :=
  (hg.block b h.lt (fun e => hne (by injection e))).trans h
theorem LB.other {w : World} {b : Nat} {u v : Value} (h : LB w b u v) {p : Addr} (hne : p.block ≠ b) (x : Value) : LB (w.setCell p x) b u v :=
  (Below.heap_setCell w p x b (fun e => hne e.symm)).trans h

theorem Cur.drewW {w : World} {b : Nat} {A : Option Addr} {n c : Nat} {bs : List Int} {k : Nat} (h : Cur w b A n c bs k) : Cur w.drew b A n c bs k := ⟨h.ex, h.f1, h.f2, h.lt, h.bi, h.ne⟩
theorem lbDrew {w : World} {b : Nat} {u v : Value} (h : LB w b u v) : LB w.drew b u v := h
theorem oiDrewW {w : World} {B n c : Nat} {A : Option Addr} {zs : List Int} (h : OI w B A n c zs) : OI w.drew B A n c zs := h

set_option maxRecDepth 100000 in
set_option maxHeartbeats 1000000 in
theorem sureLadder_any (b : Nat) (A : Option Addr) (n c : Nat) (bs : List Int) (k0 p m : Nat) (w : World) (h : Cur w b A n c bs k0) (hn : n ≤ 1048576) (hk : k0 ≤ 10000000) (hp : 2 ≤ p) (hp2 : p ≤ 100) (hm : m ≤ 100) :
    Calls Try.prog 52 #[.pointer (some ⟨b, 0, none⟩), .int .i64 (p : Int), .int .i64 (m : Int)] w (DrawnW w b A n c bs (k0 + 2 * m + 4) m (p : Int)) := by
  have hbw := h.lt
  have HLOW := Lib.hid h.low
  have i0 : (2 : Int) ≤ (p : Int) := by omega
  have i1 : (p : Int) ≤ 100 := by omega
  have i2 : (m : Int) ≤ 100 := by omega
  have HC0 : Hid (Cur (w.alloc (.cells #[.int .i64 0, .slice none 0 0] 26)) b A n c bs k0) := h.below (allocBel _ _)
  clear h
  go_enter Try.func52, Try.ntmps52
  go_wp2_with fail
  refine (pick_any b A n c bs k0 ((p : Int) - 1) _ HC0.out hn (by omega) (by omega)).mono ?_
  rintro e w1 ⟨v, rfl, v0, v1, hc, hg⟩
  have hv : v ≤ 98 := by
    by_cases h2 : 1 < (p : Int) - 1
    · rw [if_pos h2] at v1; omega
    · rw [if_neg h2] at v1; omega
  have hvp : 2 + v ≤ p := by
    by_cases h2 : 1 < (p : Int) - 1
    · rw [if_pos h2] at v1; omega
    · rw [if_neg h2] at v1; omega
  have HVP := Lib.hid hvp
  clear v1 hvp
  obtain ⟨W, hW⟩ : ∃ W, W = 2 + v := ⟨_, rfl⟩
  have HW := Lib.hid hW
  have HR1 : Hid (LB w1 w.heap.size (.int .i64 0) (.slice none 0 0)) := (LB.new w _ _).grownB hg (by omega)
  have HC1 := Lib.hid hc
  have HG1 : Hid (w.grownBy w1 (some b)) := ⟨hg.os, hg.tape, hg.output, Nat.le_trans (by simp) hg.size, fun i hi hne => (hg.block i (by simp; omega) hne).trans (Below.heap_alloc _ _ _ hi)⟩
  have hsz : w.heap.size < w1.heap.size := Nat.lt_of_lt_of_le (by simp) hg.size
  have HSZ := Lib.hid hsz
  clear hc hg HC0 hsz
  go_wp2_with fail
  rw [← hW]
  clear hW
  have w0 : 2 ≤ W := by have := HW.out; omega
  have w9 : W ≤ 100 := by have := HW.out; omega
  obtain ⟨lb, hlb⟩ : ∃ lb, lb = w1.heap.size := ⟨_, rfl⟩
  have HL1 : Hid (LB (w1.alloc (.cells #[.int .i64 W, .slice none 0 0] 26)) lb (.int .i64 W) (.slice none 0 0)) := by show LB _ lb _ _; rw [hlb]; exact LB.new _ _ _
  have hlw : w.heap.size < lb := by rw [hlb]; exact HSZ.out
  have hbl : b < lb := by omega
  rw [← hlb]
  refine (pick_any b A n c bs (k0 + 2) ((m : Int) + 1) _ (HC1.out.below (allocBel _ _)) hn (by omega) (by omega)).mono ?_
  rintro e w2 ⟨v2, rfl, x0, x1, hc, hg⟩
  have hv2 : v2 ≤ m := by
    by_cases h2 : 1 < (m : Int) + 1
    · rw [if_pos h2] at x1; omega
    · rw [if_neg h2] at x1; omega
  obtain ⟨q, rfl⟩ : ∃ q : Nat, v2 = q := ⟨v2.toNat, by omega⟩
  have hq : q ≤ m := by omega
  have HR2 : Hid (LB w2 w.heap.size (.int .i64 0) (.slice none 0 0)) := (HR1.out.alloc _).grownB hg (by omega)
  have HL2 : Hid (LB w2 lb (.int .i64 W) (.slice none 0 0)) := HL1.out.grownB hg (by omega)
  have HC2 := Lib.hid hc
  have HG2 := Lib.hid (grownTr (grown_below HG1.out (allocBel _ _)) hg)
  clear hc hg HC1 HR1 HL1 HG1 x1 hv2 hlb
  go_wp2_with fail
  go_loopw [8] (fun i wr => ∃ (k l : Nat) (zs : List Int) (AO : Option Addr) (co : Nat), i = .int .i64 (k : Int) ∧ k + l = q ∧ LB wr lb (.int .i64 W) (.slice AO l co) ∧ LB wr w.heap.size (.int .i64 0) (.slice none 0 0) ∧ OI wr w.heap.size AO l co zs ∧ Cur wr b A n c bs (k0 + 4 + 2 * l) ∧ w.grownBy wr (some b)) (fun i _ => (intOf i).toNat)
  case atStart => exact ⟨q, 0, [], none, 0, rfl, rfl, HL2.out, HR2.out, OI.none_ _ _, HC2.out, HG2.out⟩
  case round =>
    obtain ⟨k, l, zs, AO, co, rfl, hkl, hl, hr, ho, hc, hg⟩ := hrel
    have HKL := Lib.hid hkl
    have HL := Lib.hid hl
    have HR := Lib.hid hr
    have HO := Lib.hid ho
    have HC := Lib.hid hc
    have HG := Lib.hid hg
    clear hl hr ho hc hg HC2 HG2 HL2 HR2
    by_cases hlt : 0 < k
    · have hk9 : (k : Int) ≤ 100 := by omega
      have hl9 : l ≤ 100 := by omega
      clear hkl
      have l0 := HL.out.cell2.c0; have l1 := HL.out.cell2.c1; have lf := HL.out.cell2.f1; have lz := HL.out.cell2.lt
      go_wp2_with fail
      have HCd := Lib.hid HC.out.drewW
      have HLd := Lib.hid (lbDrew HL.out)
      have HRd := Lib.hid (lbDrew HR.out)
      have HOd := Lib.hid (oiDrewW HO.out)
      have HGd := Lib.hid (grown_drew HG.out)
      clear l0 l1 lf lz
      have s1 : IntKind.i64.wrap (W - 1) = W - 1 := IntWalk.i64_in _ (by omega)
      have l0 := HLd.out.cell2.c0; have l1 := HLd.out.cell2.c1; have lf := HLd.out.cell2.f1; have lz := HLd.out.cell2.lt
      go_region_law
        (first
          | (go_simp; go_at_call 55; refine (pick_any b A n c bs (k0 + 4 + 2 * l) (W - 1) _ HCd.out hn (by omega) (by omega)).mono ?_; rintro e wa ⟨x, rfl, y0, y1, hc, hg⟩; have HCa := Lib.hid hc; have HLa : Hid (LB wa lb (.int .i64 W) (.slice AO l co)) := HLd.out.grownB hg (by omega); have HRa : Hid (LB wa w.heap.size (.int .i64 0) (.slice none 0 0)) := HRd.out.grownB hg (by omega); have HOa : Hid (OI wa w.heap.size AO l co zs) := HOd.out.kept hg (fun x hx e => by have := (HOd.out.blk x hx).1; injection e with e; omega); have HGa : Hid (w.grownBy wa (some b)) := grownTr HGd.out hg; have a0 := HLa.out.cell2.c0; have a1 := HLa.out.cell2.c1; have af := HLa.out.cell2.f1; have az := HLa.out.cell2.lt; clear hc hg y1)
          | (refine step_append_ints _ rfl (.tmp 24) (.tmp 30) rfl w.heap.size AO l co zs (some ⟨wa.heap.size, 0, none⟩) 1 1 [x] rfl rfl (HOa.out.alloc _) (RI.singC _ _) (by omega) (by omega) (by have := HGa.out.size; simp; omega) ?_; intro A4 c4 wb ho4 hg4; have O4 := Lib.hid ho4; have HLb : Hid (LB wb lb (.int .i64 W) (.slice AO l co)) := (HLa.out.alloc _).grown hg4 (HOa.out.alloc _); have HRb : Hid (LB wb w.heap.size (.int .i64 0) (.slice none 0 0)) := (HRa.out.alloc _).grown hg4 (HOa.out.alloc _); have HCb : Hid (Cur wb b A n c bs (k0 + 4 + 2 * l + 2)) := (HCa.out.below (allocBel _ _)).grownOwn (HOa.out.alloc _) hbw (fun y hy h0 => HLOW.out y hy h0) hg4; have HGb : Hid (w.grownBy wb (some b)) := grownOwn (grown_below HGa.out (allocBel _ _)) (HOa.out.alloc _) (Nat.le_refl _) hg4; have b0 := HLb.out.cell2.c0; have b1 := HLb.out.cell2.c1; have bf := HLb.out.cell2.f1; have bz := HLb.out.cell2.lt; clear ho4 hg4))
      all_goals go_wp2
      all_goals exact ⟨⟨k - 1, l + 1, _, A4, c4, by go_num, by have := HKL.out; omega, LB.set1 HLb.out _, HRb.out.other (by show lb ≠ w.heap.size; omega) _, O4.out.setOther (HLb.out.ne O4.out) _,
        (HCb.out.grown (grown_setCell (g := lb) (grown_refl wb _) (p := ⟨lb, 1, none⟩) (.inl rfl) _) (fun e => by injection e with e; omega) (fun h0 e => by have := HLOW.out lb e.symm h0; omega)).le (by omega),
        grown_setCell HGb.out (p := ⟨lb, 1, none⟩) (.inr (by show w.heap.size ≤ lb; omega)) _⟩, by simp [intOf] <;> omega⟩
    · obtain rfl : k = 0 := by omega
      have l0 := HL.out.cell2.c0; have l1 := HL.out.cell2.c1; have lz := HL.out.cell2.lt
      have r0 := HR.out.cell2.c0; have r1 := HR.out.cell2.c1; have rf0 := HR.out.cell2.f0; have rf1 := HR.out.cell2.f1; have rz := HR.out.cell2.lt
      have HQL : Hid (l = q) := by show l = q; have := HKL.out; omega
      have hrl : w.heap.size ≠ lb := by omega
      clear hkl HKL
      go_wp2
      have hql := HQL.out
      have hW := HW.out
      have hVP := HVP.out
      have m := (LB.set1 (LB.set0 HR.out (.int .i64 W)) (.slice AO l co)).cell2
      have mO : OI ((wr.setCell ⟨w.heap.size, 0, none⟩ (.int .i64 W)).setCell ⟨w.heap.size, 1, none⟩ (.slice AO l co)) w.heap.size AO l co zs :=
        (HO.out.setOther (p := ⟨w.heap.size, 0, none⟩) (HR.out.ne HO.out) _).setOther (p := ⟨w.heap.size, 1, none⟩) (HR.out.ne HO.out) _
      have g1 : wr.grownBy ((wr.setCell ⟨w.heap.size, 0, none⟩ (.int .i64 W)).setCell ⟨w.heap.size, 1, none⟩ (.slice AO l co)) (some w.heap.size) :=
        grown_setCell (g := w.heap.size) (grown_setCell (g := w.heap.size) (grown_refl wr _) (p := ⟨w.heap.size, 0, none⟩) (.inl rfl) _) (p := ⟨w.heap.size, 1, none⟩) (.inl rfl) _
      have mC := HC.out.grown g1 (fun e => by injection e with e; omega) (fun h0 e => by have := HLOW.out w.heap.size e.symm h0; omega)
      have mG : w.grownBy ((wr.setCell ⟨w.heap.size, 0, none⟩ (.int .i64 W)).setCell ⟨w.heap.size, 1, none⟩ (.slice AO l co)) (some b) :=
        grown_setCell (grown_setCell HG.out (p := ⟨w.heap.size, 0, none⟩) (.inr (Nat.le_refl _)) _) (p := ⟨w.heap.size, 1, none⟩) (.inr (Nat.le_refl _)) _
      generalize (wr.setCell ⟨w.heap.size, 0, none⟩ (.int .i64 W)).setCell ⟨w.heap.size, 1, none⟩ (.slice AO l co) = wz at m mO g1 mC mG ⊢
      exact bodyPost_ret (v := .agg #[.int .i64 W, .slice AO l co]) (by simp [results, Try.results52, go_sem, m.c0, m.c1]) rfl
        ⟨W, zs, AO, l, co, rfl, w0, by omega, by omega, mO, mC.le (by omega), mG⟩
end Go.Proofs.Ytgadfjfokgodgaa
