/- The doors of chapter 1's draws: a ladder and wires; two ladders. -/
import Derived.Test.YtgadfjfokgodgaaCu7
namespace Go.Proofs.Ytgadfjfokgodgaa
open Go Go.RowKit

theorem belOfCur2 {w w0 w1 : World} {b : Nat} (h0 : Below w.heap.size w w0) (hb : w.heap.size ≤ b) (hg : w0.grownBy w1 (some b)) : Below w.heap.size w w1 :=
  h0.trans ⟨hg.os, hg.tape, hg.output, hg.size, fun i hi => hg.block i (Nat.lt_of_lt_of_le hi h0.size) (fun e => by injection e with e; omega)⟩

/-- what is kept while an answer's block rb waits for the ladder W, zs that lies in block la -/
structure DS (w wr : World) (K b : Nat) (A : Option Addr) (n c : Nat) (bs : List Int) (k rb la : Nat) (W : Int) (u v : Value) (AO : Option Addr) (l co : Nat) (zs : List Int) : Prop where
  lb : LB wr rb u v
  ll : LB wr la (.int .i64 W) (.slice AO l co)
  oi : OI wr K AO l co zs
  cur : Cur wr b A n c bs k
  bel : Below w.heap.size w wr
section
variable {w wr wj : World} {K b : Nat} {A : Option Addr} {n c : Nat} {bs : List Int} {k k' rb la : Nat} {W : Int} {u v : Value} {AO : Option Addr} {l co : Nat} {zs : List Int}
theorem DS.call (h : Hid (DS w wr K b A n c bs k rb la W u v AO l co zs)) (hn : b < K ∧ rb ≠ b ∧ la ≠ b ∧ la ≠ rb ∧ w.heap.size ≤ b ∧ w.heap.size ≤ rb) (hc : Cur wj b A n c bs k') (hg : wr.grownBy wj (some b)) : Hid (DS w wj K b A n c bs k' rb la W u v AO l co zs) :=
  ⟨h.out.lb.grownB hg hn.2.1, h.out.ll.grownB hg hn.2.2.1, h.out.oi.kept hg (fun x hx e => by have := (h.out.oi.blk x hx).1; injection e with e; omega), hc, belOfCur2 h.out.bel hn.2.2.2.2.1 hg⟩
theorem DS.drew (h : Hid (DS w wr K b A n c bs k rb la W u v AO l co zs)) : Hid (DS w wr.drew K b A n c bs k rb la W u v AO l co zs) := ⟨lbDrew h.out.lb, lbDrew h.out.ll, oiDrewW h.out.oi, h.out.cur.drewW, h.out.bel.drew⟩
theorem DS.set (h : Hid (DS w wr K b A n c bs k rb la W u v AO l co zs)) (hn : b < K ∧ rb ≠ b ∧ la ≠ b ∧ la ≠ rb ∧ w.heap.size ≤ b ∧ w.heap.size ≤ rb) (hlow : Hid (∀ x, blk A = some x → 0 < n → x < w.heap.size)) : Hid (DS w ((wr.setCell ⟨rb, 0, none⟩ (.int .i64 W)).setCell ⟨rb, 1, none⟩ (.slice AO l co)) K b A n c bs k rb la W (.int .i64 W) (.slice AO l co) AO l co zs) :=
  ⟨LB.set1 (LB.set0 h.out.lb _) _, (h.out.ll.other (p := ⟨rb, 0, none⟩) (fun e => hn.2.2.2.1 e.symm) _).other (p := ⟨rb, 1, none⟩) (fun e => hn.2.2.2.1 e.symm) _,
   (h.out.oi.setOther (p := ⟨rb, 0, none⟩) (h.out.lb.ne h.out.oi) _).setOther (p := ⟨rb, 1, none⟩) (h.out.lb.ne h.out.oi) _,
   h.out.cur.grown (grown_setCell (g := rb) (grown_setCell (g := rb) (grown_refl wr _) (p := ⟨rb, 0, none⟩) (.inl rfl) _) (p := ⟨rb, 1, none⟩) (.inl rfl) _) (fun e => by injection e with e; omega) (fun h0 e => by have := hlow.out rb e.symm h0; omega),
   (h.out.bel.setCell (p := ⟨rb, 0, none⟩) (by show w.heap.size ≤ rb; omega) _).setCell (p := ⟨rb, 1, none⟩) (by show w.heap.size ≤ rb; omega) _⟩
end

/-- a ladder in new memory, and a number -/
def FreshLN (w : World) (m : Nat) (e : Ending) (w' : World) : Prop :=
  ∃ (W : Int) (zs : List Int) (A : Option Addr) (n c : Nat) (v : Int), e = .returned (.tuple #[.agg #[.int .i64 W, .slice A n c], .int .i64 v]) ∧ n ≤ m ∧ OI w' w.heap.size A n c zs ∧ Below w.heap.size w w'
/-- a ladder in new memory, and two numbers -/
def FreshLNN (w : World) (m : Nat) (e : Ending) (w' : World) : Prop :=
  ∃ (W : Int) (zs : List Int) (A : Option Addr) (n c : Nat) (v u : Int), e = .returned (.tuple #[.agg #[.int .i64 W, .slice A n c], .int .i64 v, .int .i64 u]) ∧ n ≤ m ∧ OI w' w.heap.size A n c zs ∧ Below w.heap.size w w'
/-- two ladders in new memory -/
def FreshLL2 (w : World) (m : Nat) (e : Ending) (w' : World) : Prop :=
  ∃ (W V : Int) (zs ys : List Int) (A2 : Option Addr) (n2 c2 : Nat) (A3 : Option Addr) (n3 c3 : Nat), e = .returned (.tuple #[.agg #[.int .i64 W, .slice A2 n2 c2], .agg #[.int .i64 V, .slice A3 n3 c3]]) ∧ n2 ≤ m ∧ n3 ≤ m ∧
    OI w' w.heap.size A2 n2 c2 zs ∧ OI w' w.heap.size A3 n3 c3 ys ∧ Below w.heap.size w w'

set_option maxRecDepth 100000 in
set_option maxHeartbeats 1000000 in
theorem drawEndOf_any (A : Option Addr) (n c : Nat) (bs : List Int) (w : World) (h : BI w A n bs) (hn : n ≤ 1048576) : Calls Try.prog 28 #[.slice A n c] w (FreshLN w 61) := by
  have h1 : BI (w.alloc (.cells #[.int .i64 0, .slice none 0 0] 26)) A n bs := h.below (allocBel _ _) (Nat.le_refl _)
  have HC := Lib.hid (Cur.new (w.alloc (.cells #[.int .i64 0, .slice none 0 0] 26)) A n c bs 59 h1)
  rw [World.size_alloc] at HC
  have HLOW : Hid (∀ x, blk A = some x → 0 < n → x < w.heap.size) := fun x hx h0 => by
    obtain ⟨g, off, rfl, hg, _⟩ := h.2.2 h0
    simp [blk] at hx
    omega
  have HL0 : Hid (LB ((w.alloc (.cells #[.int .i64 0, .slice none 0 0] 26)).alloc (.cells #[.slice A n c, .int .i64 0, .int .u64 0] 59)) w.heap.size (.int .i64 0) (.slice none 0 0)) := (LB.new w _ _).alloc _
  have HB0 : Hid (Below w.heap.size w ((w.alloc (.cells #[.int .i64 0, .slice none 0 0] 26)).alloc (.cells #[.slice A n c, .int .i64 0, .int .u64 0] 59))) := ((Below.refl _ _).alloc (Nat.le_refl _) _).alloc (by simp) _
  clear h h1
  go_enter Try.func28, Try.ntmps28
  go_wp2_with fail
  refine (ladder_any (w.heap.size + 1) A n c bs 0 _ HC.out hn (by omega)).mono ?_
  rintro e w1 ⟨W, zs, AO, l, co, rfl, hl, ho, hc, hg⟩
  have HL1 : Hid (LB w1 w.heap.size (.int .i64 0) (.slice none 0 0)) := HL0.out.grownB hg (by omega)
  have HO1 : Hid (OI w1 (w.heap.size + 2) AO l co zs) := by show OI _ _ _ _ _ _; simpa using ho
  have HC1 := Lib.hid hc
  have HG1 := Lib.hid hg
  have hsz : w.heap.size + 2 ≤ w1.heap.size := by have := hg.size; simp at this; omega
  have HSZ := Lib.hid hsz
  clear hc hg ho hsz HC HL0
  obtain ⟨la, hla⟩ : ∃ la, la = w1.heap.size := ⟨_, rfl⟩
  have hal : w.heap.size + 2 ≤ la := by have := HSZ.out; omega
  have hn5 : Hid (w.heap.size + 1 < w.heap.size + 2 ∧ w.heap.size ≠ w.heap.size + 1 ∧ la ≠ w.heap.size + 1 ∧ la ≠ w.heap.size ∧ w.heap.size ≤ w.heap.size + 1 ∧ w.heap.size ≤ w.heap.size) := ⟨by omega, by omega, by omega, by omega, by omega, by omega⟩
  have HK : Hid (DS w (w1.alloc (.cells #[.int .i64 W, .slice AO l co] 26)) (w.heap.size + 2) (w.heap.size + 1) A n c bs 40 w.heap.size la W (.int .i64 0) (.slice none 0 0) AO l co zs) :=
    ⟨HL1.out.alloc _, by rw [hla]; exact LB.new _ _ _, HO1.out.alloc _, (HC1.out.below (allocBel _ _)).le (by omega), (belOfCur2 HB0.out (by omega) HG1.out).trans ((allocBel w1 _).mono (by have := HSZ.out; omega))⟩
  clear HL1 HO1 HC1 HG1 HB0
  go_wp2_with fail
  rw [← hla]
  clear hla
  obtain ⟨w2, hw2⟩ : ∃ w2, w2 = w1.alloc (.cells #[.int .i64 W, .slice AO l co] 26) := ⟨_, rfl⟩
  rw [← hw2] at HK ⊢
  clear hw2
  have HKd := DS.drew HK
  have HKs := DS.set HKd hn5.out HLOW
  have l0 := HK.out.ll.cell2.c0; have l1 := HK.out.ll.cell2.c1; have lz := HK.out.ll.cell2.lt
  have r0 := HK.out.lb.cell2.c0; have r1 := HK.out.lb.cell2.c1; have rf0 := HK.out.lb.cell2.f0; have rf1 := HK.out.lb.cell2.f1; have rz := HK.out.lb.cell2.lt
  have hlr : la ≠ w.heap.size := by omega
  go_region_law
    (first
      | (go_simp; go_at_call 45; refine (wire_any (w.heap.size + 1) A n c bs 40 W AO l co _ HKd.out.cur hn (by omega)).mono ?_; rintro e w3 ⟨v, rfl, hc, hg⟩; have HK3 := DS.call HKd hn5.out hc hg; have m0 := HK3.out.ll.cell2.c0; have m1 := HK3.out.ll.cell2.c1; have mz := HK3.out.ll.cell2.lt; have s0 := HK3.out.lb.cell2.c0; have s1 := HK3.out.lb.cell2.c1; have sf0 := HK3.out.lb.cell2.f0; have sf1 := HK3.out.lb.cell2.f1; have sz := HK3.out.lb.cell2.lt; clear hc hg)
      | (go_simp; go_at_call 45; refine (wire_any (w.heap.size + 1) A n c bs 40 W AO l co _ HKs.out.cur hn (by omega)).mono ?_; rintro e w3 ⟨v, rfl, hc, hg⟩; have HK4 := DS.call HKs hn5.out hc hg; clear hc hg))
  all_goals go_wp2
  all_goals
    first
      | (have HK5 := DS.set HK3 hn5.out HLOW
         generalize (w3.setCell ⟨w.heap.size, 0, none⟩ (.int .i64 W)).setCell ⟨w.heap.size, 1, none⟩ (.slice AO l co) = wz at HK5 ⊢
         exact bodyPost_ret (v := .tuple #[.agg #[.int .i64 W, .slice AO l co], .int .i64 v]) (by simp [results, Try.results28, go_sem, HK5.out.lb.cell2.c0, HK5.out.lb.cell2.c1]) rfl
           ⟨W, zs, AO, l, co, v, rfl, by omega, HK5.out.oi.mono (by omega), HK5.out.bel⟩)
      | exact bodyPost_ret (v := .tuple #[.agg #[.int .i64 W, .slice AO l co], .int .i64 v]) (by simp [results, Try.results28, go_sem, HK4.out.lb.cell2.c0, HK4.out.lb.cell2.c1]) rfl
           ⟨W, zs, AO, l, co, v, rfl, by omega, HK4.out.oi.mono (by omega), HK4.out.bel⟩

set_option maxRecDepth 100000 in
set_option maxHeartbeats 400000 in
theorem drawWayDown_any (A : Option Addr) (n c : Nat) (bs : List Int) (w : World) (h : BI w A n bs) (hn : n ≤ 1048576) : Calls Try.prog 5 #[.slice A n c] w (FreshLN w 61) := by
  have h1 : BI (w.alloc (.cells #[.int .i64 0, .slice none 0 0] 26)) A n bs := h.below (allocBel _ _) (Nat.le_refl _)
  have HI := Lib.hid h1
  have HL0 := LB.new w (.int .i64 0) (.slice none 0 0)
  clear h h1
  go_enter Try.func5, Try.ntmps5
  go_wp2_with fail
  refine (drawEndOf_any A n c bs _ HI.out hn).mono ?_
  rintro e w1 ⟨W, zs, AO, l, co, v, rfl, hl, ho, hb⟩
  have HL1 : Hid (LB w1 w.heap.size (.int .i64 0) (.slice none 0 0)) := HL0.below hb
  have HO1 : Hid (OI w1 w.heap.size AO l co zs) := ho.mono (by simp)
  have HB1 : Hid (Below w.heap.size w w1) := (allocBel w _).trans (hb.mono (by simp))
  have r0 := HL1.out.cell2.c0; have r1 := HL1.out.cell2.c1; have rf0 := HL1.out.cell2.f0; have rf1 := HL1.out.cell2.f1; have rz := HL1.out.cell2.lt
  clear ho hb HL0
  go_wp2
  have m := (LB.set1 (LB.set0 HL1.out (.int .i64 W)) (.slice AO l co)).cell2
  have mO := (HO1.out.setOther (p := ⟨w.heap.size, 0, none⟩) (HL1.out.ne HO1.out) (.int .i64 W)).setOther (p := ⟨w.heap.size, 1, none⟩) (HL1.out.ne HO1.out) (.slice AO l co)
  have mB := (HB1.out.setCell (p := ⟨w.heap.size, 0, none⟩) (Nat.le_refl _) (.int .i64 W)).setCell (p := ⟨w.heap.size, 1, none⟩) (Nat.le_refl _) (.slice AO l co)
  generalize (w1.setCell ⟨w.heap.size, 0, none⟩ (.int .i64 W)).setCell ⟨w.heap.size, 1, none⟩ (.slice AO l co) = wz at m mO mB ⊢
  exact bodyPost_ret (v := .tuple #[.agg #[.int .i64 W, .slice AO l co], .int .i64 v]) (by simp [results, Try.results5, go_sem, m.c0, m.c1]) rfl
    ⟨W, zs, AO, l, co, v, rfl, hl, mO, mB⟩

set_option maxRecDepth 100000 in
set_option maxHeartbeats 1000000 in
theorem drawMeetingsOf_any (A : Option Addr) (n c : Nat) (bs : List Int) (w : World) (h : BI w A n bs) (hn : n ≤ 1048576) : Calls Try.prog 26 #[.slice A n c] w (FreshLNN w 61) := by
  have h1 : BI (w.alloc (.cells #[.int .i64 0, .slice none 0 0] 26)) A n bs := h.below (allocBel _ _) (Nat.le_refl _)
  have HC := Lib.hid (Cur.new (w.alloc (.cells #[.int .i64 0, .slice none 0 0] 26)) A n c bs 59 h1)
  rw [World.size_alloc] at HC
  have HLOW : Hid (∀ x, blk A = some x → 0 < n → x < w.heap.size) := fun x hx h0 => by
    obtain ⟨g, off, rfl, hg, _⟩ := h.2.2 h0
    simp [blk] at hx
    omega
  have HL0 : Hid (LB ((w.alloc (.cells #[.int .i64 0, .slice none 0 0] 26)).alloc (.cells #[.slice A n c, .int .i64 0, .int .u64 0] 59)) w.heap.size (.int .i64 0) (.slice none 0 0)) := (LB.new w _ _).alloc _
  have HB0 : Hid (Below w.heap.size w ((w.alloc (.cells #[.int .i64 0, .slice none 0 0] 26)).alloc (.cells #[.slice A n c, .int .i64 0, .int .u64 0] 59))) := ((Below.refl _ _).alloc (Nat.le_refl _) _).alloc (by simp) _
  clear h h1
  go_enter Try.func26, Try.ntmps26
  go_wp2_with fail
  refine (ladder_any (w.heap.size + 1) A n c bs 0 _ HC.out hn (by omega)).mono ?_
  rintro e w1 ⟨W, zs, AO, l, co, rfl, hl, ho, hc, hg⟩
  have HL1 : Hid (LB w1 w.heap.size (.int .i64 0) (.slice none 0 0)) := HL0.out.grownB hg (by omega)
  have HO1 : Hid (OI w1 (w.heap.size + 2) AO l co zs) := by show OI _ _ _ _ _ _; simpa using ho
  have HC1 := Lib.hid hc
  have HG1 := Lib.hid hg
  have hsz : w.heap.size + 2 ≤ w1.heap.size := by have := hg.size; simp at this; omega
  have HSZ := Lib.hid hsz
  clear hc hg ho hsz HC HL0
  obtain ⟨la, hla⟩ : ∃ la, la = w1.heap.size := ⟨_, rfl⟩
  have hal : w.heap.size + 2 ≤ la := by have := HSZ.out; omega
  have hn5 : Hid (w.heap.size + 1 < w.heap.size + 2 ∧ w.heap.size ≠ w.heap.size + 1 ∧ la ≠ w.heap.size + 1 ∧ la ≠ w.heap.size ∧ w.heap.size ≤ w.heap.size + 1 ∧ w.heap.size ≤ w.heap.size) := ⟨by omega, by omega, by omega, by omega, by omega, by omega⟩
  have HK : Hid (DS w (w1.alloc (.cells #[.int .i64 W, .slice AO l co] 26)) (w.heap.size + 2) (w.heap.size + 1) A n c bs 40 w.heap.size la W (.int .i64 0) (.slice none 0 0) AO l co zs) :=
    ⟨HL1.out.alloc _, by rw [hla]; exact LB.new _ _ _, HO1.out.alloc _, (HC1.out.below (allocBel _ _)).le (by omega), (belOfCur2 HB0.out (by omega) HG1.out).trans ((allocBel w1 _).mono (by have := HSZ.out; omega))⟩
  clear HL1 HO1 HC1 HG1 HB0
  go_wp2_with fail
  rw [← hla]
  clear hla
  obtain ⟨w2, hw2⟩ : ∃ w2, w2 = w1.alloc (.cells #[.int .i64 W, .slice AO l co] 26) := ⟨_, rfl⟩
  rw [← hw2] at HK ⊢
  clear hw2
  have HKd := DS.drew HK
  have HKs := DS.set HKd hn5.out HLOW
  have l0 := HK.out.ll.cell2.c0; have l1 := HK.out.ll.cell2.c1; have lz := HK.out.ll.cell2.lt
  have r0 := HK.out.lb.cell2.c0; have r1 := HK.out.lb.cell2.c1; have rf0 := HK.out.lb.cell2.f0; have rf1 := HK.out.lb.cell2.f1; have rz := HK.out.lb.cell2.lt
  have hlr : la ≠ w.heap.size := by omega
  go_region_law
    (first
      | (go_simp; go_at_call 45; refine (wire_any (w.heap.size + 1) A n c bs 40 W AO l co _ HKd.out.cur hn (by omega)).mono ?_; rintro e w3 ⟨v, rfl, hc, hg⟩; have HK3 := DS.call HKd hn5.out hc hg; have HK3s := DS.set HK3 hn5.out HLOW; have m0 := HK3.out.ll.cell2.c0; have m1 := HK3.out.ll.cell2.c1; have mz := HK3.out.ll.cell2.lt; have s0 := HK3.out.lb.cell2.c0; have s1 := HK3.out.lb.cell2.c1; have sf0 := HK3.out.lb.cell2.f0; have sf1 := HK3.out.lb.cell2.f1; have sz := HK3.out.lb.cell2.lt; clear hc hg HKd HKs)
      | (go_simp; go_at_call 45; refine (wire_any (w.heap.size + 1) A n c bs 40 W AO l co _ HKs.out.cur hn (by omega)).mono ?_; rintro e w3 ⟨v, rfl, hc, hg⟩; have HK4 := DS.call HKs hn5.out hc hg; have m0 := HK4.out.ll.cell2.c0; have m1 := HK4.out.ll.cell2.c1; have mz := HK4.out.ll.cell2.lt; have s0 := HK4.out.lb.cell2.c0; have s1 := HK4.out.lb.cell2.c1; have sf0 := HK4.out.lb.cell2.f0; have sf1 := HK4.out.lb.cell2.f1; have sz := HK4.out.lb.cell2.lt; clear hc hg HKd HKs)
      | (go_simp; go_at_call 45; refine (wire_any (w.heap.size + 1) A n c bs 44 W AO l co _ HK3.out.cur hn (by omega)).mono ?_; rintro e w4 ⟨v2, rfl, hc, hg⟩; have HK5 := DS.call HK3 hn5.out hc hg; have q0 := HK5.out.ll.cell2.c0; have q1 := HK5.out.ll.cell2.c1; have qz := HK5.out.ll.cell2.lt; have t0 := HK5.out.lb.cell2.c0; have t1 := HK5.out.lb.cell2.c1; have tf0 := HK5.out.lb.cell2.f0; have tf1 := HK5.out.lb.cell2.f1; have tz := HK5.out.lb.cell2.lt; clear hc hg)
      | (go_simp; go_at_call 45; refine (wire_any (w.heap.size + 1) A n c bs 44 W AO l co _ HK3s.out.cur hn (by omega)).mono ?_; rintro e w4 ⟨v2, rfl, hc, hg⟩; have HK6 := DS.call HK3s hn5.out hc hg; clear hc hg)
      | (go_simp; go_at_call 45; refine (wire_any (w.heap.size + 1) A n c bs 44 W AO l co _ HK4.out.cur hn (by omega)).mono ?_; rintro e w4 ⟨v2, rfl, hc, hg⟩; have HK6 := DS.call HK4 hn5.out hc hg; clear hc hg))
  all_goals go_wp2
  all_goals
    first
      | (have HK7 := DS.set HK5 hn5.out HLOW
         generalize (w4.setCell ⟨w.heap.size, 0, none⟩ (.int .i64 W)).setCell ⟨w.heap.size, 1, none⟩ (.slice AO l co) = wz at HK7 ⊢
         exact bodyPost_ret (v := .tuple #[.agg #[.int .i64 W, .slice AO l co], .int .i64 v, .int .i64 v2]) (by simp [results, Try.results26, go_sem, HK7.out.lb.cell2.c0, HK7.out.lb.cell2.c1]) rfl ⟨W, zs, AO, l, co, v, v2, rfl, by omega, HK7.out.oi.mono (by omega), HK7.out.bel⟩)
      | exact bodyPost_ret (v := .tuple #[.agg #[.int .i64 W, .slice AO l co], .int .i64 v, .int .i64 v2]) (by simp [results, Try.results26, go_sem, HK6.out.lb.cell2.c0, HK6.out.lb.cell2.c1]) rfl ⟨W, zs, AO, l, co, v, v2, rfl, by omega, HK6.out.oi.mono (by omega), HK6.out.bel⟩
      | (have HK7 := DS.set HK5 hn5.out HLOW
         generalize (w4.setCell ⟨w.heap.size, 0, none⟩ (.int .i64 W)).setCell ⟨w.heap.size, 1, none⟩ (.slice AO l co) = wz at HK7 ⊢
         exact bodyPost_ret (v := .tuple #[.agg #[.int .i64 W, .slice AO l co], .int .i64 v2, .int .i64 v]) (by simp [results, Try.results26, go_sem, HK7.out.lb.cell2.c0, HK7.out.lb.cell2.c1]) rfl ⟨W, zs, AO, l, co, v2, v, rfl, by omega, HK7.out.oi.mono (by omega), HK7.out.bel⟩)
      | exact bodyPost_ret (v := .tuple #[.agg #[.int .i64 W, .slice AO l co], .int .i64 v2, .int .i64 v]) (by simp [results, Try.results26, go_sem, HK6.out.lb.cell2.c0, HK6.out.lb.cell2.c1]) rfl ⟨W, zs, AO, l, co, v2, v, rfl, by omega, HK6.out.oi.mono (by omega), HK6.out.bel⟩
end Go.Proofs.Ytgadfjfokgodgaa
