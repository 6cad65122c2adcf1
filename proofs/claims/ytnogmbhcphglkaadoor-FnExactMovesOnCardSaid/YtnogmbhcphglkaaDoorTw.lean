/- Words for slices of strings: a slice that reads as a list of texts, a row of the call's own, and how both are kept. Nothing of the program is said here. -/
import Derived.Test.YtnogmbhcphglkaaDoorTx1
import Derived.Test.YtnogmbhcphglkaaDoorSSO
namespace Go.Proofs.YtnogmbhcphglkaaDoor
open Go Go.RowKit

/-- element j of a list of numbers -/
def gt (zs : List (List UInt8)) (j : Nat) : List UInt8 := zs.getD j []

theorem gt_lt {zs : List (List UInt8)} {j : Nat} (h : j < zs.length) : gt zs j = zs[j] := by
  unfold gt; simp [List.getD, h]

def TS (zs : List (List UInt8)) : List Value := zs.map str

theorem TS_length (zs : List (List UInt8)) : (TS zs).length = zs.length := by simp [TS]

theorem TS_at {zs : List (List UInt8)} {j : Nat} (h : j < zs.length) : (TS zs)[j]? = some (str (gt zs j)) := by
  rw [gt_lt h]; simp [TS, h]


/-- the slice at A of n elements reads as zs -/
def RT (w : World) (A : Option Addr) (n : Nat) (zs : List (List UInt8)) : Prop :=
  zs.length = n ∧ (0 < n → ∃ b off, A = some ⟨b, off, none⟩ ∧ b < w.heap.size ∧ ∀ j, j < n → w.cell? ⟨b, off + j, none⟩ = some (str (gt zs j)))

/-- the slice is a row of the call's own from block B on -/
def OT (w : World) (B : Nat) (A : Option Addr) (n c : Nat) (zs : List (List UInt8)) : Prop :=
  zs.length = n ∧ w.ownsRow B 9 1 (.slice A n c) n (TS zs)

theorem RT.cell {w : World} {A : Option Addr} {n : Nat} {zs : List (List UInt8)} (h : RT w A n zs) {j : Nat} (hj : j < n) :
    ∃ b off, A = some ⟨b, off, none⟩ ∧ b < w.heap.size ∧ ∀ i, i < n → w.cell? ⟨b, off + i, none⟩ = some (str (gt zs i)) := h.2 (by omega)

theorem RT.keep {w w' : World} {A : Option Addr} {n : Nat} {zs : List (List UInt8)} (h : RT w A n zs) (hs : w.heap.size ≤ w'.heap.size)
    (hk : ∀ b, A.map (·.block) = some b → w'.heap[b]? = w.heap[b]?) : RT w' A n zs := by
  refine ⟨h.1, fun hn => ?_⟩
  obtain ⟨b, off, rfl, hb, hc⟩ := h.2 hn
  refine ⟨b, off, rfl, by omega, fun j hj => ?_⟩
  rw [World.cell?_of_block (w := w) (hk b rfl)]
  exact hc j hj

theorem RT.below {w w' : World} {B : Nat} {A : Option Addr} {n : Nat} {zs : List (List UInt8)} (h : RT w A n zs) (hb : Below B w w') (hB : w.heap.size ≤ B) : RT w' A n zs := by
  refine ⟨h.1, fun hn => ?_⟩
  obtain ⟨b, off, rfl, hbl, hc⟩ := h.2 hn
  refine ⟨b, off, rfl, by have := hb.size; omega, fun j hj => ?_⟩
  rw [hb.cell (p := ⟨b, off + j, none⟩) (by simp; omega)]
  exact hc j hj

theorem RT.alloc {w : World} {A : Option Addr} {n : Nat} {zs : List (List UInt8)} (h : RT w A n zs) (o : Obj) : RT (w.alloc o) A n zs :=
  h.below ((Below.refl w.heap.size w).alloc (Nat.le_refl _) o) (Nat.le_refl _)

theorem RT.drew {w : World} {A : Option Addr} {n : Nat} {zs : List (List UInt8)} (h : RT w A n zs) : RT w.drew A n zs := h
theorem RT.drewN {w : World} {A : Option Addr} {n : Nat} {zs : List (List UInt8)} (h : RT w A n zs) (k : Nat) : RT (w.drewN k) A n zs := h

/-- below B2, a row from B on whose block lies below B2 stays -/
theorem OT.below {w w' : World} {B : Nat} {A : Option Addr} {n c : Nat} {zs : List (List UInt8)} (h : OT w B A n c zs) (hb : Below w.heap.size w w') : OT w' B A n c zs :=
  ⟨h.1, h.2.kept ⟨hb.os, hb.tape, hb.output, hb.size, fun k hk _ => hb.block k hk⟩ (row := none) (by
    cases A with
    | none => exact .inl rfl
    | some a => exact .inr (by simp [Value.ownBlock]))⟩

theorem OT.form {w : World} {B : Nat} {A : Option Addr} {n c : Nat} {zs : List (List UInt8)} (h : OT w B A n c zs) :
    (A = none ∧ c = 0 ∧ n = 0) ∨ ∃ g cur, A = some ⟨g, 0, none⟩ ∧ B ≤ g ∧ g < w.heap.size ∧ w.heap[g]? = some (.cells cur 9 (0, 0)) ∧ n ≤ c ∧ c ≤ maxLen ∧ cur.size = c ∧ cur.toList.take n = TS zs := by
  rcases h.2.2 with ⟨hv, hn⟩ | ⟨g, cap, cur, hv, hb, hh, h1, h2, h3, h4⟩
  · injection hv with e1 e2 e3
    exact .inl ⟨e1, e3, hn⟩
  · injection hv with e1 e2 e3
    subst e1 e3
    refine .inr ⟨g, cur, rfl, hb, ?_, hh, h1, h2, by simpa using h3, by simpa using h4⟩
    rcases Nat.lt_or_ge g w.heap.size with hlt | hge
    · exact hlt
    · rw [Array.getElem?_eq_none hge] at hh; cases hh

theorem OT.ri {w : World} {B : Nat} {A : Option Addr} {n c : Nat} {zs : List (List UInt8)} (h : OT w B A n c zs) : RT w A n zs := by
  refine ⟨h.1, fun hn => ?_⟩
  rcases h.form with ⟨_, _, h0⟩ | ⟨g, cur, rfl, _, hg, hh, h1, _, h3, h4⟩
  · omega
  · refine ⟨g, 0, rfl, hg, fun j hj => ?_⟩
    have e := h.2.cellAt j (by omega)
    rw [Nat.zero_add, e, TS_at (by rw [h.1]; exact hj)]

theorem OT.mono {w : World} {B B' : Nat} {A : Option Addr} {n c : Nat} {zs : List (List UInt8)} (h : OT w B A n c zs) (hB : B' ≤ B) : OT w B' A n c zs := by
  refine ⟨h.1, h.2.1, ?_⟩
  rcases h.2.2 with h0 | ⟨g, cap, cur, hv, hb, hr⟩
  · exact .inl h0
  · exact .inr ⟨g, cap, cur, hv, by omega, hr⟩


/-- a row made by 'make', then known by its cells -/
theorem OT.of_rowIs {w : World} {B g n : Nat} {zs : List (List UInt8)} {f : Nat → Value} (hB : B ≤ g) (h : w.rowIs g 9 n f) (hn : n ≤ maxLen) (hl : zs.length = n) (hf : ∀ j, j < n → f j = str (gt zs j)) :
    OT w B (some ⟨g, 0, none⟩) n n zs := by
  obtain ⟨c, hh, hs, hc⟩ := h
  refine ⟨hl, by simp [TS, hl], .inr ⟨g, n, c, rfl, hB, hh, Nat.le_refl _, hn, by simpa using hs, ?_⟩⟩
  apply List.ext_getElem?
  intro j
  by_cases hj : j < n
  · rw [TS_at (by omega), ← hf j hj, ← hc j hj]
    simp [hj]
  · rw [List.getElem?_eq_none (by simp; omega), List.getElem?_eq_none (by simp [TS]; omega)]


theorem OT.blk {w : World} {B : Nat} {A : Option Addr} {n c : Nat} {zs : List (List UInt8)} (h : OT w B A n c zs) : ∀ b, blk A = some b → B ≤ b ∧ b < w.heap.size := by
  intro b hb
  rcases h.form with ⟨rfl, _, _⟩ | ⟨g, cur, rfl, h1, h2, _⟩
  · simp [Go.Proofs.YtnogmbhcphglkaaDoor.blk] at hb
  · simp [Go.Proofs.YtnogmbhcphglkaaDoor.blk] at hb
    omega

theorem OT.stored {w : World} {B g : Nat} {n c : Nat} {zs : List (List UInt8)} (h : OT w B (some ⟨g, 0, none⟩) n c zs) (j : Nat) (v : List UInt8) : OT (w.setCell ⟨g, j, none⟩ (str v)) B (some ⟨g, 0, none⟩) n c (zs.set j v) := by
  refine ⟨by rw [List.length_set]; exact h.1, ?_⟩
  have := (h.2.stored j (str v)).1
  unfold TS at this ⊢
  rw [List.map_set]
  exact this

/-- a row of the call's own is not touched by writes to another block -/
theorem OT.kept {w w' : World} {B : Nat} {A : Option Addr} {n c : Nat} {zs : List (List UInt8)} {row : Option Nat} (h : OT w B A n c zs) (hg : w.grownBy w' row) (hne : ∀ b, Go.Proofs.YtnogmbhcphglkaaDoor.blk A = some b → row ≠ some b) : OT w' B A n c zs :=
  ⟨h.1, h.2.kept hg (by
    cases A with
    | none => exact .inl rfl
    | some a => exact .inr (fun e => hne a.block rfl e.symm))⟩

theorem RT.kept {w w' : World} {A : Option Addr} {n : Nat} {zs : List (List UInt8)} {row : Option Nat} (h : RT w A n zs) (hg : w.grownBy w' row) (hne : ∀ b, Go.Proofs.YtnogmbhcphglkaaDoor.blk A = some b → row ≠ some b) : RT w' A n zs := by
  refine ⟨h.1, fun hn => ?_⟩
  obtain ⟨b, off, rfl, hb, hc⟩ := h.2 hn
  refine ⟨b, off, rfl, by have := hg.size; omega, fun j hj => ?_⟩
  rw [World.cell?_of_block (w := w) (hg.block b hb (fun e => hne b rfl e.symm))]
  exact hc j hj


theorem gt_ext {zs ys : List (List UInt8)} (hl : zs.length = ys.length) (h : ∀ j, j < zs.length → gt zs j = gt ys j) : zs = ys := by
  apply List.ext_getElem hl
  intro j h1 h2
  rw [← gt_lt h1, ← gt_lt h2, h j h1]

theorem gt_set (zs : List (List UInt8)) (i : Nat) (v : List UInt8) (j : Nat) (hi : i < zs.length) : gt (zs.set i v) j = if j = i then v else gt zs j := by
  unfold gt
  simp only [List.getD_eq_getElem?_getD, List.getElem?_set]
  by_cases e : i = j
  · subst e; simp [hi]
  · simp [e, Ne.symm e]

theorem OT.setBelow {w : World} {B : Nat} {A : Option Addr} {n c : Nat} {zs : List (List UInt8)} (h : OT w B A n c zs) {p : Addr} (hp : p.block < B) (u : Value) : OT (w.setCell p u) B A n c zs :=
  ⟨h.1, ownsRow_setCell_below h.2 hp u⟩
theorem OT.drewN {w : World} {B : Nat} {A : Option Addr} {n c : Nat} {zs : List (List UInt8)} (h : OT w B A n c zs) (k : Nat) : OT (w.drewN k) B A n c zs := h
theorem OT.alloc {w : World} {B : Nat} {A : Option Addr} {n c : Nat} {zs : List (List UInt8)} (h : OT w B A n c zs) (o : Obj) : OT (w.alloc o) B A n c zs :=
  h.below ((Below.refl w.heap.size w).alloc (Nat.le_refl _) o)

theorem OT.cells {w : World} {B g n c : Nat} {zs : List (List UInt8)} (h : OT w B (some ⟨g, 0, none⟩) n c zs) : ∀ j, j < n → w.cell? ⟨g, j, none⟩ = some (str (gt zs j)) := by
  intro j hj
  obtain ⟨b', off', e, _, hc'⟩ := h.ri.cell hj
  injection e with e; injection e with e1 e2 e3
  subst e1 e2
  have := hc' j hj
  rwa [Nat.zero_add] at this

theorem OT.le {w : World} {B : Nat} {A : Option Addr} {n c : Nat} {zs : List (List UInt8)} (h : OT w B A n c zs) : n ≤ c := by
  rcases h.form with ⟨_, rfl, rfl⟩ | ⟨g, cur, _, _, _, _, h1, _⟩
  · exact Nat.le_refl _
  · exact h1
end Go.Proofs.YtnogmbhcphglkaaDoor
