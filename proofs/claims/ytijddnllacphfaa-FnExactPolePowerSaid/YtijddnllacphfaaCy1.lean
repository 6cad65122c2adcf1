/- What the functions that look for cycles keep from step to step. -/
import Derived.Test.YtijddnllacphfaaMathC
import Derived.Test.YtijddnllacphfaaMgF
import Derived.Test.YtijddnllacphfaaO4
namespace Go.Proofs.Ytijddnllacphfaa
open Go Go.RowKit

theorem infoBool : (Try.prog.info? 4).map (fun i => (i.zero, i.size, i.bytes)) = some (some (.bool false), 1, 1) := by kernel_rfl
theorem cellNew0 (w : World) (v : Value) (t : TypeId) {b : Nat} (hb : b = w.heap.size) : (w.alloc (.cells #[v] t)).cell? ⟨b, 0, none⟩ = some v := by subst hb; simp
theorem sizeSet (w : World) (p : Addr) (v : Value) : w.heap.size = (w.setCell p v).heap.size := by simp
def lenOf : Value → Nat
  | .slice _ n _ => n
  | _ => 0

theorem OII.keptRow {wi wj : World} {B M K : Nat} {A A1 : Option Addr} {n c m d : Nat} {zss : List (List Int)} {zs : List Int} {S : List Sl} (h : OII wi B M A n c zss S) (h1 : OI wi K A1 m d zs) (hMK : M ≤ K) (hg : wi.grownBy wj (blk A1)) : OII wj B M A n c zss S := by
  refine ⟨h.own.kept hg ?_, h.lS, h.lz, fun j s hs => (h.inn j s hs).kept hg (fun b hb e => by have h2 := h.lt j s hs b hb; have h3 := (h1.blk b e).1; omega), h.dis, h.lt, Nat.le_trans h.le hg.size⟩
  rcases h.form with ⟨rfl, rfl, rfl⟩ | ⟨g, cur, rfl, hB, _⟩
  · exact .inl rfl
  · refine .inr ?_
    simp only [Value.ownBlock]
    intro e
    exact apart_types h h1 g e.symm rfl

theorem grownOf (w : World) (p : Addr) (v : Value) : w.grownBy (w.setCell p v) (blk (some p)) :=
  grown_setCell (g := p.block) (grown_refl w _) (.inl rfl) v
theorem rowKept {wi wj : World} {b t n : Nat} {f : Nat → Value} {r : Option Nat} (h : wi.rowIs b t n f) (hg : wi.grownBy wj r) (hne : r ≠ some b) : wj.rowIs b t n f := by
  obtain ⟨cs, hh, h1, h2⟩ := h
  exact ⟨cs, (hg.block b (Array.getElem?_eq_some_iff.1 hh).1 (fun e => hne e.symm)).trans hh, h1, h2⟩

/-- within one cycle: i numbers lie in the row A1; marks lie in block b -/
structure InRel (w : World) (b t N : Nat) (zs : List Int) (k K M : Nat) (A : Option Addr) (c : Nat) (S : List Sl) (A1 : Option Addr) (c1 i : Nat) (wr : World) : Prop where
  row : OI wr K A1 i c1 (cyc zs k i)
  out : OII wr (b + 1) M A (cycK zs k).length c (cycK zs k) S
  seen : wr.rowIs b t N (fun j => .bool (upds (seenK zs k) zs k i j))
  bel : Below b w wr
  not : ∀ j, j < i → upds (seenK zs k) zs k j (pos zs k j) = false
  hMK : M ≤ K
  hbK : b + 1 ≤ K
  hK : K ≤ wr.heap.size

theorem InRel.step {w wr w2 : World} {b t N : Nat} {zs : List Int} {k K M : Nat} {A : Option Addr} {c : Nat} {S : List Sl} {A1 A2 : Option Addr} {c1 c2 i : Nat} {o : Obj} (h : InRel w b t N zs k K M A c S A1 c1 i wr)
    (hn : upds (seenK zs k) zs k i (pos zs k i) = false)
    (ho : OI w2 K A2 (i + 1) c2 (cyc zs k i ++ [(pos zs k i : Int)])) (hg : ((wr.setCell ⟨b, pos zs k i, none⟩ (.bool true)).alloc o).grownBy w2 (blk A1)) : InRel w b t N zs k K M A c S A2 c2 (i + 1) w2 := by
  have hbw : b < wr.heap.size := by have := h.hbK; have := h.hK; omega
  have hg1 := grownOf wr ⟨b, pos zs k i, none⟩ (.bool true)
  have ho1 : OI (wr.setCell ⟨b, pos zs k i, none⟩ (.bool true)) K A1 i c1 (cyc zs k i) := h.row.setBelow (by simp; have := h.hbK; omega) _
  have ho1' := ho1.alloc o
  have hii : OII ((wr.setCell ⟨b, pos zs k i, none⟩ (.bool true)).alloc o) (b + 1) M A (cycK zs k).length c (cycK zs k) S :=
    (h.out.kept hg1 (fun x hx => by simp [blk] at hx; omega)).below ((Below.refl _ _).alloc (Nat.le_refl _) o)
  have hne : blk A1 ≠ some b := fun e => by have := (ho1'.blk b e).1; have := h.hbK; omega
  refine ⟨by rw [cyc_succ]; exact ho, hii.keptRow ho1' h.hMK hg, ?_, ?_, fun j hj => ?_, h.hMK, h.hbK, Nat.le_trans h.hK (Nat.le_trans (by simp) hg.size)⟩
  · refine rowKept (rowAlloc ((h.seen.set (pos zs k i) (.bool true)).congr (g := fun j => .bool (upds (seenK zs k) zs k (i + 1) j)) (fun j _ => ?_)) o) hg hne
    simp only [upds]
    by_cases e : j = pos zs k i
    · simp [e]
    · simp [e]
  · exact ((h.bel.setCell (p := ⟨b, pos zs k i, none⟩) (Nat.le_refl _) (.bool true)).alloc (by simp; omega) o).grown hg (by simp; omega) (fun x hx => by have := (ho1'.blk x hx).1; have := h.hbK; omega)
  · by_cases e : j = i
    · rw [e]; exact hn
    · exact h.not j (by omega)

/-- between the cycles -/
structure OutRelC (w : World) (b t N : Nat) (zs : List Int) (k : Nat) (A : Option Addr) (c M : Nat) (S : List Sl) (wr : World) : Prop where
  out : OII wr (b + 1) M A (cycK zs k).length c (cycK zs k) S
  seen : wr.rowIs b t N (fun j => .bool (seenK zs k j))
  bel : Below b w wr
  hb : b + 1 ≤ wr.heap.size
theorem OutRelC.start {w wr : World} {b t N : Nat} {zs : List Int} {k : Nat} {A : Option Addr} {c M : Nat} {S : List Sl} (h : OutRelC w b t N zs k A c M S wr) : InRel w b t N zs k wr.heap.size M A c S none 0 0 wr :=
  ⟨OI.none_ _ _, h.out, h.seen, h.bel, fun j hj => absurd hj (by omega), h.out.le, h.hb, Nat.le_refl _⟩
/-- no cycle begins here -/
theorem InRel.none' {w wr : World} {b t N : Nat} {zs : List Int} {k K M : Nat} {A : Option Addr} {c : Nat} {S : List Sl} {A1 : Option Addr} {c1 : Nat} (h : InRel w b t N zs k K M A c S A1 c1 0 wr) (hc : clen (seenK zs k) zs k = 0) : (cycK zs (k + 1)).length = (cycK zs k).length ∧ OutRelC w b t N zs (k + 1) A c M S wr := by
  have e1 : cycK zs (k + 1) = cycK zs k := by simp only [cycK]; rw [if_pos hc]
  have e2 : seenK zs (k + 1) = upds (seenK zs k) zs k 0 := by simp only [seenK]; rw [hc]
  refine ⟨by rw [e1], by rw [e1]; exact h.out, by rw [e2]; exact h.seen, h.bel, Nat.le_trans h.hbK h.hK⟩
/-- a cycle has been found -/
theorem InRel.found {w wr w2 : World} {b t N : Nat} {zs : List Int} {k K M : Nat} {A A2 : Option Addr} {c c2 M2 : Nat} {S S2 : List Sl} {A1 : Option Addr} {c1 i : Nat} {o : Obj} (h : InRel w b t N zs k K M A c S A1 c1 i wr) (hc : clen (seenK zs k) zs k = i) (hi : 0 < i)
    (ho : OII w2 (b + 1) M2 A2 ((cycK zs k).length + 1) c2 (cycK zs k ++ [cyc zs k i]) S2) (hg : (wr.alloc o).grownBy w2 (blk A)) : (cycK zs (k + 1)).length = (cycK zs k).length + 1 ∧ OutRelC w b t N zs (k + 1) A2 c2 M2 S2 w2 := by
  have e1 : cycK zs (k + 1) = cycK zs k ++ [cyc zs k i] := by simp only [cycK]; rw [hc, if_neg (by omega)]
  have e2 : seenK zs (k + 1) = upds (seenK zs k) zs k i := by simp only [seenK]; rw [hc]
  have hne : ∀ x, blk A = some x → b + 1 ≤ x := by
    intro x hx
    rcases h.out.form with ⟨e, _, _⟩ | ⟨g, cur, e, hB, _⟩
    · rw [e] at hx; simp [blk] at hx
    · rw [e] at hx; simp [blk] at hx; omega
  have hsz : b + 1 ≤ wr.heap.size := Nat.le_trans h.hbK h.hK
  refine ⟨by rw [e1]; simp, by rw [e1, List.length_append]; exact ho, ?_, ?_, Nat.le_trans hsz (Nat.le_trans (by simp) hg.size)⟩
  · rw [e2]
    exact rowKept (rowAlloc h.seen o) hg (fun e => by have := hne b e; omega)
  · exact (h.bel.alloc (by omega) o).grown hg (by simp; omega) (fun x hx => by have := hne x hx; omega)
end Go.Proofs.Ytijddnllacphfaa
