/- Games of rungs: which outlook is better; what a call that writes into one block leaves. -/
import Derived.Test.YtiapbmgpjloafaaGo1
import Derived.Test.YtiapbmgpjloafaaMgC
import Derived.Deep.RegionHeld3
namespace Go.Proofs.Ytiapbmgpjloafaa
open Go Go.RowKit

set_option maxRecDepth 100000 in
set_option maxHeartbeats 1000000 in
theorem isBetter_any (o p : OutP) (w : World) (ho : o.2 ≤ 1000000) (hp : p.2 ≤ 1000000) :
    Calls Try.prog 59 #[ovV o, ovV p] w (RetB (betB o p) w) := by
  obtain ⟨ow, om⟩ := o
  obtain ⟨pw, pm⟩ := p
  unfold ovV betB
  simp only at ho hp ⊢
  cases ow <;> cases pw
  · by_cases h : pm < om
    · have hd : decide ((pm : Int) < (om : Int)) = true := decide_eq_true (by omega)
      go_enter Try.func59, Try.ntmps59
      go_wp2
      go_ret
      exact ⟨ret_b (by simp [h]), (by repeat (first | exact Below.refl _ _ | exact HB.out | refine Below.setCell ?_ (by simp <;> omega) _ | refine Below.alloc ?_ (by simp <;> omega) _ | refine below_drewN ?_ _))⟩
    · have hd : decide ((pm : Int) < (om : Int)) = false := decide_eq_false (by omega)
      go_enter Try.func59, Try.ntmps59
      go_wp2
      go_ret
      exact ⟨ret_b (by simp [h]), (by repeat (first | exact Below.refl _ _ | exact HB.out | refine Below.setCell ?_ (by simp <;> omega) _ | refine Below.alloc ?_ (by simp <;> omega) _ | refine below_drewN ?_ _))⟩
  · go_enter Try.func59, Try.ntmps59
    go_wp2
    go_ret
    exact ⟨ret_b (by simp), (by repeat (first | exact Below.refl _ _ | exact HB.out | refine Below.setCell ?_ (by simp <;> omega) _ | refine Below.alloc ?_ (by simp <;> omega) _ | refine below_drewN ?_ _))⟩
  · go_enter Try.func59, Try.ntmps59
    go_wp2
    go_ret
    exact ⟨ret_b (by simp), (by repeat (first | exact Below.refl _ _ | exact HB.out | refine Below.setCell ?_ (by simp <;> omega) _ | refine Below.alloc ?_ (by simp <;> omega) _ | refine below_drewN ?_ _))⟩
  · by_cases h : om < pm
    · have hd : decide ((om : Int) < (pm : Int)) = true := decide_eq_true (by omega)
      go_enter Try.func59, Try.ntmps59
      go_wp2
      go_ret
      exact ⟨ret_b (by simp [h]), (by repeat (first | exact Below.refl _ _ | exact HB.out | refine Below.setCell ?_ (by simp <;> omega) _ | refine Below.alloc ?_ (by simp <;> omega) _ | refine below_drewN ?_ _))⟩
    · have hd : decide ((om : Int) < (pm : Int)) = false := decide_eq_false (by omega)
      go_enter Try.func59, Try.ntmps59
      go_wp2
      go_ret
      exact ⟨ret_b (by simp [h]), (by repeat (first | exact Below.refl _ _ | exact HB.out | refine Below.setCell ?_ (by simp <;> omega) _ | refine Below.alloc ?_ (by simp <;> omega) _ | refine below_drewN ?_ _))⟩

theorem allocBelG (w : World) (o : Obj) : Below w.heap.size w (w.alloc o) := (Below.refl _ _).alloc (Nat.le_refl _) o
theorem grownTrans {w wi wj : World} {r : Option Nat} (h : w.grownBy wi r) (g : wi.grownBy wj r) : w.grownBy wj r :=
  ⟨g.os.trans h.os, g.tape.trans h.tape, g.output.trans h.output, Nat.le_trans h.size g.size, fun i hi hn => (g.block i (Nat.lt_of_lt_of_le hi h.size) hn).trans (h.block i hi hn)⟩
/-- the choices with which one can win, of the first k -/
def gdK (f : Nat → OutP) (L : List Int) : Nat → List Int
  | 0 => []
  | k + 1 => if (f k).1 = true then gdK f L k ++ [gi L k] else gdK f L k
theorem gdK_yes {f : Nat → OutP} {L : List Int} {k : Nat} (h : (f k).1 = true) : gdK f L (k + 1) = gdK f L k ++ [gi L k] := by simp only [gdK]; rw [if_pos h]
theorem gdK_no {f : Nat → OutP} {L : List Int} {k : Nat} (h : (f k).1 = false) : gdK f L (k + 1) = gdK f L k := by simp only [gdK]; rw [if_neg (by rw [h]; decide)]
theorem gdK_len (f : Nat → OutP) (L : List Int) : ∀ k, (gdK f L k).length ≤ k
  | 0 => Nat.le_refl _
  | k + 1 => by have := gdK_len f L k; simp only [gdK]; split <;> simp <;> omega
/-- the place of the first best one, of the first k -/
def bxG (f : Nat → OutP) : Nat → Nat
  | 0 => 0
  | k + 1 => if betB (f k) (f (bxG f k)) = true then k else bxG f k
theorem bxG_lt (f : Nat → OutP) : ∀ k, 0 < k → bxG f k < k
  | 1, _ => by have e : bxG f 1 = 0 := (by simp only [bxG]; exact ite_self 0); omega
  | k + 2, _ => by have := bxG_lt f (k + 1) (by omega); rw [bxG]; split <;> omega
theorem bxG_yes {f : Nat → OutP} {k : Nat} (h : betB (f k) (f (bxG f k)) = true) : bxG f (k + 1) = k := by rw [bxG, if_pos h]
theorem bxG_no {f : Nat → OutP} {k : Nat} (h : betB (f k) (f (bxG f k)) = false) : bxG f (k + 1) = bxG f k := by rw [bxG, if_neg (by rw [h]; decide)]
/-- the line of best play, of at most so many moves -/
def lineF (ch : Nat → List Int) (nx : Nat → Nat → Nat) (ov : Nat → OutP) : Nat → Nat → List Int
  | 0, _ => []
  | M + 1, p => if ch p = [] then [] else gi (ch p) (bxG (fun j => behP (ov (nx p (gi (ch p) j).toNat))) (ch p).length) ::
      lineF ch nx ov M (nx p (gi (ch p) (bxG (fun j => behP (ov (nx p (gi (ch p) j).toNat))) (ch p).length)).toNat)
theorem lineF_len (ch : Nat → List Int) (nx : Nat → Nat → Nat) (ov : Nat → OutP) : ∀ M p, (lineF ch nx ov M p).length ≤ M
  | 0, _ => Nat.le_refl _
  | M + 1, p => by
    rw [lineF]
    split
    · simp
    · have := lineF_len ch nx ov M (nx p (gi (ch p) (bxG (fun j => behP (ov (nx p (gi (ch p) j).toNat))) (ch p).length)).toNat)
      simp only [List.length_cons]; omega
section
variable {w wi wj wk : World} {b c : Nat} {u v : Value}
theorem c2Gr (h : Hid (Cell2 wi c u v)) (hg : wi.grownBy wj (some b)) (hne : c ≠ b) : Hid (Cell2 wj c u v) := by
  have e : wj.heap[c]? = wi.heap[c]? := hg.block c h.out.lt (fun e => by cases e; exact hne rfl)
  exact ⟨(World.cell?_of_block (w := wi) (a := ⟨c, 0, none⟩) e).trans h.out.c0, (World.cell?_of_block (w := wi) (a := ⟨c, 1, none⟩) e).trans h.out.c1, (World.frozen?_of_block (w := wi) (a := ⟨c, 0, none⟩) e).trans h.out.f0, (World.frozen?_of_block (w := wi) (a := ⟨c, 1, none⟩) e).trans h.out.f1, Nat.lt_of_lt_of_le h.out.lt hg.size⟩
theorem grTrans (h : Hid (w.grownBy wi (some b))) (hg : wi.grownBy wj (some b)) : Hid (w.grownBy wj (some b)) := grownTrans h.out hg
theorem grBelow (h : Hid (w.grownBy wi (some b))) (hb : Below wi.heap.size wi wj) : Hid (w.grownBy wj (some b)) := grownTrans h.out (grown_of_below hb _)
theorem grAlloc (h : Hid (w.grownBy wi (some b))) (o : Obj) : Hid (w.grownBy (wi.alloc o) (some b)) := grBelow h ((Below.refl _ _).alloc (Nat.le_refl _) o)
theorem grSet (h : Hid (w.grownBy wi (some b))) {p : Addr} (hp : w.heap.size ≤ p.block) (u : Value) : Hid (w.grownBy (wi.setCell p u) (some b)) := grown_setCell h.out (.inr hp) u
theorem grRefl (w : World) (b : Nat) : Hid (w.grownBy w (some b)) := grown_refl w _
theorem memoBelow {V : Nat → Option OutP} (h : Hid (Memo wi b V)) (hb : Below wi.heap.size wi wj) : Hid (Memo wj b V) := h.out.below hb
theorem memoAlloc {V : Nat → Option OutP} (h : Hid (Memo wi b V)) (o : Obj) : Hid (Memo (wi.alloc o) b V) := memoBelow h ((Below.refl _ _).alloc (Nat.le_refl _) o)
theorem oiGr {B : Nat} {A : Option Addr} {n d : Nat} {zs : List Int} (h : Hid (OI wi B A n d zs)) (hg : wi.grownBy wj (some b)) (hB : b < B) : Hid (OI wj B A n d zs) :=
  h.out.kept hg (fun x hx e => by have := (h.out.blk x hx).1; injection e with e; omega)
theorem riGr {A : Option Addr} {n : Nat} {zs : List Int} (h : RI wi A n zs) (hg : wi.grownBy wj (some b)) (hA : ∀ x, blk A = some x → x ≠ b) : RI wj A n zs :=
  h.kept hg (fun x hx e => hA x hx (by injection e with e; exact e.symm))
theorem cellFarG {d : Nat} (h : Hid (Cell2 wi c u v)) (hne : d ≠ c) (x y : Value) : Hid (Cell2 ((wi.setCell ⟨d, 0, none⟩ x).setCell ⟨d, 1, none⟩ y) c u v) := by
  have h0 := h.out.c0; have h1 := h.out.c1; have f0 := h.out.f0; have f1 := h.out.f1; have hl := h.out.lt
  refine ⟨?_, ?_, by simpa [go_sem] using f0, by simpa [go_sem] using f1, by simpa [World.setCell] using hl⟩
  · rw [World.cell?_setCell_other _ _ _ _ (by simp [hne]), World.cell?_setCell_other _ _ _ _ (by simp [hne])]; exact h0
  · rw [World.cell?_setCell_other _ _ _ _ (by simp [hne]), World.cell?_setCell_other _ _ _ _ (by simp [hne])]; exact h1
theorem cellPut (h : Hid (Cell2 wi c u v)) (x y : Value) : Hid (Cell2 ((wi.setCell ⟨c, 0, none⟩ x).setCell ⟨c, 1, none⟩ y) c x y) := by
  have h0 := h.out.c0; have h1 := h.out.c1; have f0 := h.out.f0; have f1 := h.out.f1; have hl := h.out.lt
  refine ⟨?_, ?_, ?_, ?_, by simpa [World.setCell] using hl⟩
  · rw [World.cell?_setCell_other _ _ _ _ (by simp)]; exact World.cell?_setCell_same _ _ _ h0
  · exact World.cell?_setCell_same _ _ _ (by rw [World.cell?_setCell_other _ _ _ _ (by simp)]; exact h1)
  · simpa [go_sem] using f0
  · simpa [go_sem] using f1
theorem grOther {A : Option Addr} (h : Hid (w.grownBy wi (some b))) (hg : wi.grownBy wj (blk A)) (hA : ∀ x, blk A = some x → w.heap.size ≤ x) : Hid (w.grownBy wj (some b)) :=
  ⟨hg.os.trans h.out.os, hg.tape.trans h.out.tape, hg.output.trans h.out.output, Nat.le_trans h.out.size hg.size, fun i hi hn => (hg.block i (Nat.lt_of_lt_of_le hi h.out.size) (fun e => by have := hA i e.symm; omega)).trans (h.out.block i hi hn)⟩
theorem memoOther {V : Nat → Option OutP} {A : Option Addr} (h : Hid (Memo wi b V)) (hg : wi.grownBy wj (blk A)) (hA : ∀ x, blk A = some x → x ≠ b) : Hid (Memo wj b V) := by
  have hl := h.out.lt
  obtain ⟨es, clock, hh, h2⟩ := h.out
  exact ⟨es, clock, (hg.block b hl (fun e => hA b e.symm rfl)).trans hh, h2⟩
end
end Go.Proofs.Ytiapbmgpjloafaa
