/- Words for slices of integers: a slice that reads as a list, a row of the call's own, and how both are kept. Nothing of the program is said here. The mathematics of chapter 1: ladders, ways, ends. Nothing of the program is said here. The contracts of the functions by which the laws copy, compare, mark and look at their arguments. The contracts of the functions by which the laws copy, compare, mark and look at ladders. -/
import Derived.WalkKit
import Derived.Deep.OwnRows
import Derived.Deep.Draws
import Derived.Lib.Hide
import Derived.Test.YtgeeifjbfceogaaGreatDoorProg
import Derived.Outline
import Derived.KernelRfl
import Derived.BigQuiet
import Derived.Deep.QuietTactic
import Derived.Deep.RegionHeld3
namespace Go.Proofs.YtgeeifjbfceogaaGreatDoor
open Go Go.RowKit

/-- element j of a list of numbers -/
def gi (zs : List Int) (j : Nat) : Int := zs.getD j 0

theorem gi_lt {zs : List Int} {j : Nat} (h : j < zs.length) : gi zs j = zs[j] := by
  unfold gi; simp [List.getD, h]

def I (zs : List Int) : List Value := zs.map (Value.int .i64)

theorem I_length (zs : List Int) : (I zs).length = zs.length := by simp [I]

theorem I_at {zs : List Int} {j : Nat} (h : j < zs.length) : (I zs)[j]? = some (.int .i64 (gi zs j)) := by
  rw [gi_lt h]; simp [I, h]

/-- the slice at A of n elements reads as zs -/
def RI (w : World) (A : Option Addr) (n : Nat) (zs : List Int) : Prop :=
  zs.length = n ∧ (0 < n → ∃ b off, A = some ⟨b, off, none⟩ ∧ b < w.heap.size ∧ ∀ j, j < n → w.cell? ⟨b, off + j, none⟩ = some (.int .i64 (gi zs j)))

/-- the slice is a row of the call's own from block B on -/
def OI (w : World) (B : Nat) (A : Option Addr) (n c : Nat) (zs : List Int) : Prop :=
  zs.length = n ∧ w.ownsRow B 3 1 (.slice A n c) n (I zs)

theorem RI.cell {w : World} {A : Option Addr} {n : Nat} {zs : List Int} (h : RI w A n zs) {j : Nat} (hj : j < n) :
    ∃ b off, A = some ⟨b, off, none⟩ ∧ b < w.heap.size ∧ ∀ i, i < n → w.cell? ⟨b, off + i, none⟩ = some (.int .i64 (gi zs i)) := h.2 (by omega)

theorem RI.keep {w w' : World} {A : Option Addr} {n : Nat} {zs : List Int} (h : RI w A n zs) (hs : w.heap.size ≤ w'.heap.size)
    (hk : ∀ b, A.map (·.block) = some b → w'.heap[b]? = w.heap[b]?) : RI w' A n zs := by
  refine ⟨h.1, fun hn => ?_⟩
  obtain ⟨b, off, rfl, hb, hc⟩ := h.2 hn
  refine ⟨b, off, rfl, by omega, fun j hj => ?_⟩
  rw [World.cell?_of_block (w := w) (hk b rfl)]
  exact hc j hj

theorem RI.below {w w' : World} {B : Nat} {A : Option Addr} {n : Nat} {zs : List Int} (h : RI w A n zs) (hb : Below B w w') (hB : w.heap.size ≤ B) : RI w' A n zs := by
  refine ⟨h.1, fun hn => ?_⟩
  obtain ⟨b, off, rfl, hbl, hc⟩ := h.2 hn
  refine ⟨b, off, rfl, by have := hb.size; omega, fun j hj => ?_⟩
  rw [hb.cell (p := ⟨b, off + j, none⟩) (by simp; omega)]
  exact hc j hj

theorem RI.alloc {w : World} {A : Option Addr} {n : Nat} {zs : List Int} (h : RI w A n zs) (o : Obj) : RI (w.alloc o) A n zs :=
  h.below ((Below.refl w.heap.size w).alloc (Nat.le_refl _) o) (Nat.le_refl _)

theorem RI.drew {w : World} {A : Option Addr} {n : Nat} {zs : List Int} (h : RI w A n zs) : RI w.drew A n zs := h
theorem RI.drewN {w : World} {A : Option Addr} {n : Nat} {zs : List Int} (h : RI w A n zs) (k : Nat) : RI (w.drewN k) A n zs := h

/-- below B2, a row from B on whose block lies below B2 stays -/
theorem OI.below {w w' : World} {B : Nat} {A : Option Addr} {n c : Nat} {zs : List Int} (h : OI w B A n c zs) (hb : Below w.heap.size w w') : OI w' B A n c zs :=
  ⟨h.1, h.2.kept ⟨hb.os, hb.tape, hb.output, hb.size, fun k hk _ => hb.block k hk⟩ (row := none) (by
    cases A with
    | none => exact .inl rfl
    | some a => exact .inr (by simp [Value.ownBlock]))⟩

theorem OI.form {w : World} {B : Nat} {A : Option Addr} {n c : Nat} {zs : List Int} (h : OI w B A n c zs) :
    (A = none ∧ c = 0 ∧ n = 0) ∨ ∃ g cur, A = some ⟨g, 0, none⟩ ∧ B ≤ g ∧ g < w.heap.size ∧ w.heap[g]? = some (.cells cur 3 (0, 0)) ∧ n ≤ c ∧ c ≤ maxLen ∧ cur.size = c ∧ cur.toList.take n = I zs := by
  rcases h.2.2 with ⟨hv, hn⟩ | ⟨g, cap, cur, hv, hb, hh, h1, h2, h3, h4⟩
  · injection hv with e1 e2 e3
    exact .inl ⟨e1, e3, hn⟩
  · injection hv with e1 e2 e3
    subst e1 e3
    refine .inr ⟨g, cur, rfl, hb, ?_, hh, h1, h2, by simpa using h3, by simpa using h4⟩
    rcases Nat.lt_or_ge g w.heap.size with hlt | hge
    · exact hlt
    · rw [Array.getElem?_eq_none hge] at hh; cases hh

theorem OI.ri {w : World} {B : Nat} {A : Option Addr} {n c : Nat} {zs : List Int} (h : OI w B A n c zs) : RI w A n zs := by
  refine ⟨h.1, fun hn => ?_⟩
  rcases h.form with ⟨_, _, h0⟩ | ⟨g, cur, rfl, _, hg, hh, h1, _, h3, h4⟩
  · omega
  · refine ⟨g, 0, rfl, hg, fun j hj => ?_⟩
    have e := h.2.cellAt j (by omega)
    rw [Nat.zero_add, e, I_at (by rw [h.1]; exact hj)]

theorem OI.mono {w : World} {B B' : Nat} {A : Option Addr} {n c : Nat} {zs : List Int} (h : OI w B A n c zs) (hB : B' ≤ B) : OI w B' A n c zs := by
  refine ⟨h.1, h.2.1, ?_⟩
  rcases h.2.2 with h0 | ⟨g, cap, cur, hv, hb, hr⟩
  · exact .inl h0
  · exact .inr ⟨g, cap, cur, hv, by omega, hr⟩

/-- what holds of old blocks and marks, as the walk asks it -/
theorem bcell {B : Nat} {w w1 : World} (hb : Below B w w1) : (∀ b o, b < B → w1.cell? ⟨b, o, none⟩ = w.cell? ⟨b, o, none⟩) ∧ (∀ b o, b < B → w1.frozen? ⟨b, o, none⟩ = w.frozen? ⟨b, o, none⟩) :=
  ⟨fun b o h => hb.cell (p := ⟨b, o, none⟩) h, fun b o h => hb.frozen (p := ⟨b, o, none⟩) h⟩

theorem below_drewN {B : Nat} {a w : World} (h : Below B a w) (n : Nat) : Below B a (w.drewN n) := ⟨h.os, h.tape, h.output, h.size, h.block⟩

/-- a row made by 'make', then known by its cells -/
theorem OI.of_rowIs {w : World} {B g n : Nat} {zs : List Int} {f : Nat → Value} (hB : B ≤ g) (h : w.rowIs g 3 n f) (hn : n ≤ maxLen) (hl : zs.length = n) (hf : ∀ j, j < n → f j = .int .i64 (gi zs j)) :
    OI w B (some ⟨g, 0, none⟩) n n zs := by
  obtain ⟨c, hh, hs, hc⟩ := h
  refine ⟨hl, by simp [I, hl], .inr ⟨g, n, c, rfl, hB, hh, Nat.le_refl _, hn, by simpa using hs, ?_⟩⟩
  apply List.ext_getElem?
  intro j
  by_cases hj : j < n
  · rw [I_at (by omega), ← hf j hj, ← hc j hj]
    simp [hj]
  · rw [List.getElem?_eq_none (by simp; omega), List.getElem?_eq_none (by simp [I]; omega)]

/-! writes to one block alone -/
def blk (A : Option Addr) : Option Nat := A.map (·.block)

theorem grown_below {a w w' : World} {row : Option Nat} (h : a.grownBy w row) (hb : Below w.heap.size w w') : a.grownBy w' row :=
  ⟨hb.os.trans h.os, hb.tape.trans h.tape, hb.output.trans h.output, Nat.le_trans h.size hb.size, fun i hi hn => (hb.block i (Nat.lt_of_lt_of_le hi h.size)).trans (h.block i hi hn)⟩
theorem grown_setCell {a w : World} {g : Nat} (h : a.grownBy w (some g)) {p : Addr} (hp : p.block = g ∨ a.heap.size ≤ p.block) (u : Value) : a.grownBy (w.setCell p u) (some g) :=
  ⟨h.os, h.tape, h.output, by simpa [World.setCell] using h.size, fun i hi hne => (Below.heap_setCell w p u i (by
    rintro rfl
    rcases hp with hp | hp
    · exact hne (by rw [hp])
    · omega)).trans (h.block i hi hne)⟩
theorem grown_drew {a w : World} {row : Option Nat} (h : a.grownBy w row) : a.grownBy w.drew row := ⟨h.os, h.tape, h.output, h.size, h.block⟩
theorem grown_of_below {a w : World} (h : Below a.heap.size a w) (row : Option Nat) : a.grownBy w row := ⟨h.os, h.tape, h.output, h.size, fun i hi _ => h.block i hi⟩
theorem grown_refl (w : World) (row : Option Nat) : w.grownBy w row := ⟨rfl, rfl, rfl, Nat.le_refl _, fun _ _ _ => rfl⟩
/-- writes to a block from B on are none to those below -/
theorem Below.of_grown {B : Nat} {w w' : World} {A : Option Addr} (hg : w.grownBy w' (blk A)) (hA : ∀ b, blk A = some b → B ≤ b) (hB : B ≤ w.heap.size) : Below B w w' :=
  ⟨hg.os, hg.tape, hg.output, hg.size, fun k hk => hg.block k (by omega) (fun e => by have := hA k e.symm; omega)⟩

theorem OI.blk {w : World} {B : Nat} {A : Option Addr} {n c : Nat} {zs : List Int} (h : OI w B A n c zs) : ∀ b, blk A = some b → B ≤ b ∧ b < w.heap.size := by
  intro b hb
  rcases h.form with ⟨rfl, _, _⟩ | ⟨g, cur, rfl, h1, h2, _⟩
  · simp [Go.Proofs.YtgeeifjbfceogaaGreatDoor.blk] at hb
  · simp [Go.Proofs.YtgeeifjbfceogaaGreatDoor.blk] at hb
    omega

theorem OI.stored {w : World} {B g : Nat} {n c : Nat} {zs : List Int} (h : OI w B (some ⟨g, 0, none⟩) n c zs) (j : Nat) (v : Int) : OI (w.setCell ⟨g, j, none⟩ (.int .i64 v)) B (some ⟨g, 0, none⟩) n c (zs.set j v) := by
  refine ⟨by rw [List.length_set]; exact h.1, ?_⟩
  have := (h.2.stored j (.int .i64 v)).1
  unfold I at this ⊢
  rw [List.map_set]
  exact this

/-- a row of the call's own is not touched by writes to another block -/
theorem OI.kept {w w' : World} {B : Nat} {A : Option Addr} {n c : Nat} {zs : List Int} {row : Option Nat} (h : OI w B A n c zs) (hg : w.grownBy w' row) (hne : ∀ b, Go.Proofs.YtgeeifjbfceogaaGreatDoor.blk A = some b → row ≠ some b) : OI w' B A n c zs :=
  ⟨h.1, h.2.kept hg (by
    cases A with
    | none => exact .inl rfl
    | some a => exact .inr (fun e => hne a.block rfl e.symm))⟩

theorem RI.kept {w w' : World} {A : Option Addr} {n : Nat} {zs : List Int} {row : Option Nat} (h : RI w A n zs) (hg : w.grownBy w' row) (hne : ∀ b, Go.Proofs.YtgeeifjbfceogaaGreatDoor.blk A = some b → row ≠ some b) : RI w' A n zs := by
  refine ⟨h.1, fun hn => ?_⟩
  obtain ⟨b, off, rfl, hb, hc⟩ := h.2 hn
  refine ⟨b, off, rfl, by have := hg.size; omega, fun j hj => ?_⟩
  rw [World.cell?_of_block (w := w) (hg.block b hb (fun e => hne b rfl e.symm))]
  exact hc j hj

/-- the numbers k, k + 1, .. -/
def marks (k : Int) (n : Nat) : List Int := (List.range n).map fun (j : Nat) => k + (j : Int)
theorem marks_length (k : Int) (n : Nat) : (marks k n).length = n := by simp [marks]
theorem gi_marks (k : Int) (n j : Nat) (h : j < n) : gi (marks k n) j = k + j := by
  rw [gi_lt (by rw [marks_length]; exact h)]; simp [marks]

theorem gi_ext {zs ys : List Int} (hl : zs.length = ys.length) (h : ∀ j, j < zs.length → gi zs j = gi ys j) : zs = ys := by
  apply List.ext_getElem hl
  intro j h1 h2
  rw [← gi_lt h1, ← gi_lt h2, h j h1]

theorem gi_set (zs : List Int) (i : Nat) (v : Int) (j : Nat) (hi : i < zs.length) : gi (zs.set i v) j = if j = i then v else gi zs j := by
  unfold gi
  simp only [List.getD_eq_getElem?_getD, List.getElem?_set]
  by_cases e : i = j
  · subst e; simp [hi]
  · simp [e, Ne.symm e]

theorem OI.setBelow {w : World} {B : Nat} {A : Option Addr} {n c : Nat} {zs : List Int} (h : OI w B A n c zs) {p : Addr} (hp : p.block < B) (u : Value) : OI (w.setCell p u) B A n c zs :=
  ⟨h.1, ownsRow_setCell_below h.2 hp u⟩
theorem OI.drewN {w : World} {B : Nat} {A : Option Addr} {n c : Nat} {zs : List Int} (h : OI w B A n c zs) (k : Nat) : OI (w.drewN k) B A n c zs := h
theorem OI.alloc {w : World} {B : Nat} {A : Option Addr} {n c : Nat} {zs : List Int} (h : OI w B A n c zs) (o : Obj) : OI (w.alloc o) B A n c zs :=
  h.below ((Below.refl w.heap.size w).alloc (Nat.le_refl _) o)
theorem RI.take {w : World} {A : Option Addr} {n : Nat} {zs : List Int} (h : RI w A n zs) {k : Nat} (hk : k ≤ n) : RI w A k (zs.take k) := by
  refine ⟨by simp; have := h.1; omega, fun h0 => ?_⟩
  obtain ⟨b, off, e, hb, hc⟩ := h.2 (by omega)
  refine ⟨b, off, e, hb, fun j hj => ?_⟩
  rw [hc j (by omega)]
  simp [gi, List.getD, hj]
end Go.Proofs.YtgeeifjbfceogaaGreatDoor
namespace Go.Proofs.YtgeeifjbfceogaaGreatDoor
open Go Go.RowKit

def inB (n lo hi : Int) : Bool := decide (lo ≤ n ∧ n ≤ hi)
theorem inB_true {n lo hi : Int} (h : lo ≤ n ∧ n ≤ hi) : inB n lo hi = true := decide_eq_true h
theorem inB_false {n lo hi : Int} (h : ¬ (lo ≤ n ∧ n ≤ hi)) : inB n lo hi = false := decide_eq_false h
theorem inB_iff {n lo hi : Int} : inB n lo hi = true ↔ lo ≤ n ∧ n ≤ hi := decide_eq_true_iff

def allIn (zs : List Int) (lo hi : Int) : Bool := zs.all fun z => inB z lo hi
theorem allIn_true {zs : List Int} {lo hi : Int} (h : ∀ j, j < zs.length → inB (gi zs j) lo hi = true) : allIn zs lo hi = true := by
  unfold allIn
  rw [List.all_eq_true]
  intro z hz
  obtain ⟨j, hj, rfl⟩ := List.getElem_of_mem hz
  rw [← gi_lt hj]; exact h j hj
theorem allIn_false {zs : List Int} {lo hi : Int} {j : Nat} (hj : j < zs.length) (h : inB (gi zs j) lo hi = false) : allIn zs lo hi = false := by
  unfold allIn
  rw [List.all_eq_false]
  exact ⟨zs[j], List.getElem_mem hj, by rw [← gi_lt hj, h]; simp⟩
theorem allIn_at {zs : List Int} {lo hi : Int} (h : allIn zs lo hi = true) {j : Nat} (hj : j < zs.length) : lo ≤ gi zs j ∧ gi zs j ≤ hi := by
  unfold allIn at h
  rw [List.all_eq_true] at h
  have := h zs[j] (List.getElem_mem hj)
  rw [← gi_lt hj] at this
  exact inB_iff.1 this

/-- a ladder -/
def lad (W : Int) (zs : List Int) : Bool := inB W 2 8 && (decide (zs.length ≤ 60) && allIn zs 0 (W - 2))
theorem lad_iff {W : Int} {zs : List Int} : lad W zs = true ↔ (2 ≤ W ∧ W ≤ 8) ∧ zs.length ≤ 60 ∧ allIn zs 0 (W - 2) = true := by
  unfold lad
  rw [Bool.and_eq_true, Bool.and_eq_true, inB_iff, decide_eq_true_iff]
theorem lad_at {W : Int} {zs : List Int} (h : lad W zs = true) {j : Nat} (hj : j < zs.length) : 0 ≤ gi zs j ∧ gi zs j ≤ W - 2 := allIn_at (lad_iff.1 h).2.2 hj
theorem lad_no1 {W : Int} {zs : List Int} (h : inB W 2 8 = false) : lad W zs = false := by unfold lad; rw [h]; rfl
theorem lad_no2 {W : Int} {zs : List Int} (h : ¬ zs.length ≤ 60) : lad W zs = false := by unfold lad; rw [decide_eq_false h]; simp
theorem lad_no3 {W : Int} {zs : List Int} (h : allIn zs 0 (W - 2) = false) : lad W zs = false := by unfold lad; rw [h]; simp
theorem lad_yes {W : Int} {zs : List Int} (h1 : inB W 2 8 = true) (h2 : zs.length ≤ 60) : lad W zs = allIn zs 0 (W - 2) := by unfold lad; rw [h1, decide_eq_true h2]; rfl

/-- a ladder and one of its wires -/
def wire (W : Int) (zs : List Int) (s : Int) : Bool := lad W zs && inB s 0 (W - 1)
theorem wire_iff {W : Int} {zs : List Int} {s : Int} : wire W zs s = true ↔ lad W zs = true ∧ 0 ≤ s ∧ s ≤ W - 1 := by
  unfold wire; rw [Bool.and_eq_true, inB_iff]

/-- the wire on which one is behind a rung -/
def over (s r : Int) : Int := if s = r then r + 1 else if s = r + 1 then r else s

/-- the wires on which one is, at first and behind each rung -/
def down (zs : List Int) (s : Int) : List Int := match zs with
  | [] => [s]
  | r :: rs => s :: down rs (over s r)

/-- where one is behind the first k rungs -/
def at_ (zs : List Int) (s : Int) (k : Nat) : Int := (zs.take k).foldl over s

theorem down_length (zs : List Int) (s : Int) : (down zs s).length = zs.length + 1 := by
  induction zs generalizing s with
  | nil => rfl
  | cons r rs ih => simp [down, ih]
theorem gi_down (zs : List Int) (s : Int) (k : Nat) (h : k ≤ zs.length) : gi (down zs s) k = at_ zs s k := by
  induction zs generalizing s k with
  | nil => obtain rfl : k = 0 := by simpa using h
           rfl
  | cons r rs ih =>
    cases k with
    | zero => rfl
    | succ k =>
      have := ih (over s r) k (by simpa using h)
      simp only [down, gi, List.getD_cons_succ] at this ⊢
      rw [this]; rfl
theorem at_zero (zs : List Int) (s : Int) : at_ zs s 0 = s := by simp [at_]
theorem at_succ (zs : List Int) (s : Int) (k : Nat) (h : k < zs.length) : at_ zs s (k + 1) = over (at_ zs s k) (gi zs k) := by
  unfold at_
  rw [List.take_succ_eq_append_getElem h, List.foldl_append, gi_lt h]; rfl

theorem over_le (s r : Int) {W : Int} (h1 : 0 ≤ s ∧ s ≤ W - 1) (h2 : 0 ≤ r ∧ r ≤ W - 2) : 0 ≤ over s r ∧ over s r ≤ W - 1 := by
  unfold over
  split
  · omega
  · split <;> omega
theorem at_le {W : Int} {zs : List Int} {s : Int} (hz : ∀ j, j < zs.length → 0 ≤ gi zs j ∧ gi zs j ≤ W - 2) (hs : 0 ≤ s ∧ s ≤ W - 1) (k : Nat) (hk : k ≤ zs.length) : 0 ≤ at_ zs s k ∧ at_ zs s k ≤ W - 1 := by
  induction k with
  | zero => rw [at_zero]; exact hs
  | succ k ih =>
    rw [at_succ _ _ _ (by omega)]
    exact over_le _ _ (ih (by omega)) (hz k (by omega))

/-- the first k of them, one after the other -/
theorem down_take (zs : List Int) (s : Int) (k : Nat) (h : k ≤ zs.length) : (down zs s).take (k + 1) = (down zs s).take k ++ [at_ zs s k] := by
  have hl := down_length zs s
  rw [List.take_succ_eq_append_getElem (by omega), ← gi_lt, gi_down _ _ _ h]
def endOf (zs : List Int) (s : Int) : Int := at_ zs s zs.length
theorem gi_end (zs : List Int) (s : Int) : gi (down zs s) zs.length = endOf zs s := gi_down _ _ _ (Nat.le_refl _)
end Go.Proofs.YtgeeifjbfceogaaGreatDoor
namespace Go.Proofs.YtgeeifjbfceogaaGreatDoor
open Go Go.RowKit

theorem infoInt : (Tryz.prog.info? 3).map (fun i => (i.zero, i.size, i.bytes)) = some (some (.int .i64 0), 1, 8) := by kernel_rfl

/-- a new slice of the call's own that reads as zs -/
def FreshI (w : World) (n : Nat) (zs : List Int) (e : Ending) (w' : World) : Prop :=
  ∃ A c, e = .returned (.slice A n c) ∧ OI w' w.heap.size A n c zs ∧ Below w.heap.size w w'

set_option maxHeartbeats 400000 in
theorem toIntS_any (A : Option Addr) (n c : Nat) (zs : List Int) (w : World) (h : RI w A n zs) (hn : n ≤ 1048576) :
    Calls Tryz.prog 12 #[.slice A n c] w (FreshI w n zs) := by
  have hmk := run_make_row' (P := Tryz.prog) 22 3 (.int .i64 0) 8 Tryz.underlying22 infoInt rfl .i64 .i64 n (by omega) (by omega)
  go_enter Tryz.func12, Tryz.ntmps12
  go_wp2
  go_loopw [4] (fun i wr => ∃ k : Nat, k ≤ n ∧ i = .int .i64 k ∧ wr.rowIs w.heap.size 3 n (fun j => if j < k then .int .i64 (gi zs j) else .int .i64 0) ∧ Below w.heap.size w wr) (fun i _ => n - (intOf i).toNat)
  case atStart =>
    refine ⟨0, Nat.zero_le _, rfl, (World.rowIs_made w (.int .i64 0) n 3).congr (fun j _ => by simp), (Below.refl _ _).alloc (Nat.le_refl _) _⟩
  case round =>
    obtain ⟨k, hk, rfl, hrow, hb⟩ := hrel
    by_cases hlt : k < n
    · obtain ⟨b, off, rfl, hbw, hc⟩ := h.cell hlt
      have hck : wr.cell? ⟨b, off + k, none⟩ = some (.int .i64 (gi zs k)) := (hb.cell (p := ⟨b, off + k, none⟩) hbw).trans (hc k hlt)
      have hd := hrow.cell hlt
      have hf := hrow.frozen k
      simp only [Nat.lt_irrefl, if_false] at hd
      have H1 := Lib.hid hrow
      have H2 := Lib.hid hb
      clear hrow hb hc hmk
      go_wp2
      go_roundw
      case rel =>
        refine ⟨k + 1, by omega, by go_num, (H1.out.set k _).congr (fun j hj => ?_), H2.out.setCell (by simp) _⟩
        by_cases e : j = k
        · simp [e]
        · by_cases e2 : j < k
          · simp [e, e2, show j < k + 1 by omega]
          · simp [e, e2, show ¬ j < k + 1 by omega]
      case measure => simp [intOf]; omega
    · obtain rfl : k = n := by omega
      go_wp2
      go_ret
      refine ⟨_, _, rfl, OI.of_rowIs (Nat.le_refl _) hrow (by simp only [maxLen]; omega) h.1 (fun j hj => by simp [hj]), hb⟩

/-- a bool, and nothing that was there has turned -/
def RetB (b : Bool) (w : World) (e : Ending) (w' : World) : Prop := e = .returned (.bool b) ∧ Below w.heap.size w w'
/-- an int, and nothing that was there has turned -/
def RetI (n : Int) (w : World) (e : Ending) (w' : World) : Prop := e = .returned (.int .i64 n) ∧ Below w.heap.size w w'

theorem ret_b {a b : Bool} (h : a = b) : Ending.returned (.bool a) = .returned (.bool b) := by rw [h]
theorem ret_i {k : IntKind} {a b : Int} (h : a = b) : Ending.returned (.int k a) = .returned (.int k b) := by rw [h]

def eqB (zs ys : List Int) : Bool := decide (zs = ys)

theorem eqB_true {zs ys : List Int} (hl : zs.length = ys.length) (h : ∀ j, j < zs.length → gi zs j = gi ys j) : eqB zs ys = true := by
  unfold eqB
  rw [decide_eq_true_iff]
  apply List.ext_getElem hl
  intro j h1 h2
  rw [← gi_lt h1, ← gi_lt h2, h j h1]

theorem eqB_len {zs ys : List Int} (hl : zs.length ≠ ys.length) : eqB zs ys = false := by
  unfold eqB
  rw [decide_eq_false_iff_not]
  intro e; exact hl (by rw [e])

theorem eqB_at {zs ys : List Int} {j : Nat} (h : gi zs j ≠ gi ys j) : eqB zs ys = false := by
  unfold eqB
  rw [decide_eq_false_iff_not]
  intro e; exact h (by rw [e])

set_option maxHeartbeats 400000 in
theorem eqIntS_any (A : Option Addr) (n c : Nat) (zs : List Int) (B : Option Addr) (m d : Nat) (ys : List Int) (w : World) (h : RI w A n zs) (g : RI w B m ys) (hn : n ≤ 1048576) (hm : m ≤ 1048576) :
    Calls Tryz.prog 14 #[.slice A n c, .slice B m d] w (RetB (eqB zs ys) w) := by
  by_cases hnm : n = m
  · subst hnm
    go_enter Tryz.func14, Tryz.ntmps14
    go_wp2
    go_loopw [5] (fun i wr => ∃ k : Nat, k ≤ n ∧ i = .int .i64 k ∧ (∀ j, j < k → gi zs j = gi ys j) ∧ Below w.heap.size w wr) (fun i _ => n - (intOf i).toNat)
    case atStart => exact ⟨0, Nat.zero_le _, rfl, fun j hj => absurd hj (by omega), Below.refl _ _⟩
    case round =>
      obtain ⟨k, hk, rfl, hall, hb⟩ := hrel
      by_cases hlt : k < n
      · obtain ⟨b, off, rfl, hbw, hc⟩ := h.cell hlt
        obtain ⟨b2, off2, rfl, hbw2, hc2⟩ := g.cell hlt
        have hck : wr.cell? ⟨b, off + k, none⟩ = some (.int .i64 (gi zs k)) := (hb.cell (p := ⟨b, off + k, none⟩) hbw).trans (hc k hlt)
        have hck2 : wr.cell? ⟨b2, off2 + k, none⟩ = some (.int .i64 (gi ys k)) := (hb.cell (p := ⟨b2, off2 + k, none⟩) hbw2).trans (hc2 k hlt)
        have H2 := Lib.hid hb
        have H3 := Lib.hid hall
        clear hb hc hc2 hall
        by_cases he : gi zs k = gi ys k
        · go_wp2
          go_quiet (fail)
          go_wp2
          go_roundw
          case rel =>
            refine ⟨k + 1, by omega, by go_num, fun j hj => ?_, below_drewN H2.out _⟩
            by_cases e : j = k
            · rw [e, he]
            · exact H3.out j (by omega)
          case measure => simp [intOf]; omega
        · go_wp2
          go_quiet (fail)
          go_wp2
          go_ret
          exact ⟨ret_b (eqB_at he).symm, below_drewN H2.out _⟩
      · obtain rfl : k = n := by omega
        go_wp2
        go_ret
        exact ⟨ret_b (eqB_true (h.1.trans g.1.symm) (by rw [h.1]; exact hall)).symm, hb⟩
  · have hne : ((n : Int) != (m : Int)) = true := by rw [bne_iff_ne]; omega
    go_enter Tryz.func14, Tryz.ntmps14
    go_wp2
    go_ret
    exact ⟨ret_b (eqB_len (by rw [h.1, g.1]; exact hnm)).symm, Below.refl _ _⟩

/-- the row holds k, k + 1, .. ; no other block has turned -/
def Marked (w : World) (B : Nat) (A : Option Addr) (n c : Nat) (k : Int) (e : Ending) (w' : World) : Prop :=
  e = .returned (.int .i64 (k + n)) ∧ OI w' B A n c (marks k n) ∧ w.grownBy w' (blk A)

def MarkRel (w : World) (B : Nat) (A : Option Addr) (n c : Nat) (k : Int) (i : Nat) (wr : World) : Prop :=
  (∃ ys, OI wr B A n c ys ∧ ∀ j, j < i → gi ys j = k + j) ∧ w.grownBy wr (blk A)

set_option maxHeartbeats 400000 in
theorem markIntS_any (B : Nat) (A : Option Addr) (n c : Nat) (zs : List Int) (k : Int) (w : World) (h : OI w B A n c zs) (hn : n ≤ 1048576) (hk : 0 ≤ k) (hk2 : k ≤ 1000000000000) :
    Calls Tryz.prog 18 #[.slice A n c, .int .i64 k] w (Marked w B A n c k) := by
  go_enter Tryz.func18, Tryz.ntmps18
  go_wp2
  go_loopw [1, 5] (fun s i wr => ∃ k' : Nat, k' ≤ n ∧ i = .int .i64 k' ∧ s = .int .i64 (k + k') ∧ MarkRel w B A n c k k' wr) (fun _ i _ => n - (intOf i).toNat)
  case atStart => exact ⟨0, Nat.zero_le _, rfl, by simp, ⟨zs, h, fun j hj => absurd hj (by omega)⟩, grown_refl _ _⟩
  case round =>
    obtain ⟨i, hi, rfl, rfl, ⟨ys, ho, hall⟩, hg⟩ := hrel
    by_cases hlt : i < n
    · rcases ho.form with ⟨_, _, h0⟩ | ⟨g, cur, rfl, hBg, hgw, hh, h1, h2, h3, h4⟩
      · omega
      obtain ⟨v0, hv0⟩ : ∃ v0, wr.cell? ⟨g, i, none⟩ = some v0 := by
        obtain ⟨b, off, e, _, hc⟩ := ho.ri.cell hlt
        injection e with e; injection e with e1 e2 e3
        subst e1 e2
        exact ⟨_, by have := hc i hlt; rwa [Nat.zero_add] at this⟩
      have hf : wr.frozen? ⟨g, i, none⟩ = false := ho.2.frozenAt i
      have H1 := Lib.hid ho
      have H2 := Lib.hid hg
      have H3 := Lib.hid hall
      clear hall ho hg hh h4 h3 h
      go_wp2
      go_roundw
      case rel =>
        refine ⟨i + 1, by omega, by go_num, by go_num, ⟨ys.set i (k + i), H1.out.stored i _, fun j hj => ?_⟩, grown_setCell (g := g) (p := ⟨g, i, none⟩) H2.out (.inl rfl) _⟩
        rw [gi_set _ _ _ _ (by have := H1.out.1; omega)]
        split
        · rename_i e; rw [e]
        · exact H3.out j (by omega)
      case measure => simp [intOf]; omega
    · obtain rfl : i = n := by omega
      go_wp2
      go_ret
      refine ⟨rfl, ?_, hg⟩
      have e : ys = marks k i := gi_ext (by rw [ho.1, marks_length]) (fun j hj => by rw [hall j (by have := ho.1; omega), gi_marks _ _ _ (by have := ho.1; omega)])
      rw [← e]; exact ho

set_option maxHeartbeats 400000 in
theorem heldIntS_any (A : Option Addr) (n c : Nat) (k : Int) (w : World) (h : RI w A n (marks k n)) (hn : n ≤ 1048576) (hk : 0 ≤ k) (hk2 : k ≤ 1000000000000) :
    Calls Tryz.prog 27 #[.slice A n c, .int .i64 k] w (RetI (k + n) w) := by
  go_enter Tryz.func27, Tryz.ntmps27
  go_wp2
  go_loopw [1, 5] (fun s i wr => ∃ k' : Nat, k' ≤ n ∧ i = .int .i64 k' ∧ s = .int .i64 (k + k') ∧ Below w.heap.size w wr) (fun _ i _ => n - (intOf i).toNat)
  case atStart => exact ⟨0, Nat.zero_le _, rfl, by simp, Below.refl _ _⟩
  case round =>
    obtain ⟨i, hi, rfl, rfl, hb⟩ := hrel
    by_cases hlt : i < n
    · obtain ⟨b, off, rfl, hbw, hc⟩ := h.cell hlt
      have hck : wr.cell? ⟨b, off + i, none⟩ = some (.int .i64 (k + i)) := (hb.cell (p := ⟨b, off + i, none⟩) hbw).trans (by rw [hc i hlt, gi_marks _ _ _ hlt])
      have H2 := Lib.hid hb
      clear hc hb h
      go_wp2
      go_roundw
      case rel => exact ⟨i + 1, by omega, by go_num, by go_num, H2.out⟩
      case measure => simp [intOf]; omega
    · obtain rfl : i = n := by omega
      go_wp2
      go_ret
      exact ⟨rfl, hb⟩
end Go.Proofs.YtgeeifjbfceogaaGreatDoor
namespace Go.Proofs.YtgeeifjbfceogaaGreatDoor
open Go Go.RowKit

def szv (n : Nat) (left : Int) : Int := if (n : Int) ≤ left then left - n else -1
theorem szv_yes {n : Nat} {left : Int} (h : (n : Int) ≤ left) : left - n = szv n left := by unfold szv; rw [if_pos h]
theorem szv_no {n : Nat} {left : Int} (h : ¬ (n : Int) ≤ left) : -1 = szv n left := by unfold szv; rw [if_neg h]

set_option maxHeartbeats 400000 in
theorem szIntS_any (A : Option Addr) (n c : Nat) (left : Int) (w : World) (h1 : 0 ≤ left) (h2 : left ≤ 1048576) (hn : n ≤ 9223372036854775807) :
    Calls Tryz.prog 59 #[.slice A n c, .int .i64 left] w (RetI (szv n left) w) := by
  by_cases hc : (n : Int) ≤ left
  · go_enter Tryz.func59, Tryz.ntmps59
    go_wp2
    go_ret
    exact ⟨ret_i (szv_yes hc), Below.refl _ _⟩
  · go_enter Tryz.func59, Tryz.ntmps59
    go_wp2
    go_ret
    exact ⟨ret_i (szv_no (by omega)), Below.refl _ _⟩

set_option maxHeartbeats 400000 in
theorem szLadder_any (W : Int) (A : Option Addr) (n c : Nat) (left : Int) (w : World) (h1 : 0 ≤ left) (h2 : left ≤ 1048576) (hn : n ≤ 9223372036854775807) :
    Calls Tryz.prog 28 #[.agg #[.int .i64 W, .slice A n c], .int .i64 left] w (RetI (szv n left) w) := by
  by_cases hc : (n : Int) ≤ left
  · have e : szv n left = left - n := (szv_yes hc).symm
    have E := Lib.hid e
    clear e
    go_enter Tryz.func28, Tryz.ntmps28
    go_wp2_with fail
    refine (szIntS_any _ _ _ _ _ h1 h2 hn).mono ?_
    rw [E.out]
    rintro e w' ⟨rfl, hb⟩
    have hh := (Below.refl w.heap.size w).alloc (Nat.le_refl _) (.cells #[.int .i64 W, .slice A n c] 41) |>.trans (hb.mono (by simp))
    go_wp2
    go_ret
    exact ⟨ret_i E.out.symm, hh⟩
  · have e : szv n left = -1 := (szv_no hc).symm
    have E := Lib.hid e
    clear e
    go_enter Tryz.func28, Tryz.ntmps28
    go_wp2_with fail
    refine (szIntS_any _ _ _ _ _ h1 h2 hn).mono ?_
    rw [E.out]
    rintro e w' ⟨rfl, hb⟩
    have hh := (Below.refl w.heap.size w).alloc (Nat.le_refl _) (.cells #[.int .i64 W, .slice A n c] 41) |>.trans (hb.mono (by simp))
    go_wp2
    go_ret
    exact ⟨ret_i E.out.symm, hh⟩

/-- a new ladder of the call's own -/
def FreshL (w : World) (W : Int) (n : Nat) (zs : List Int) (e : Ending) (w' : World) : Prop :=
  ∃ A c, e = .returned (.agg #[.int .i64 W, .slice A n c]) ∧ OI w' w.heap.size A n c zs ∧ Below w.heap.size w w'

set_option maxHeartbeats 400000 in
theorem toLadder_any (W : Int) (A : Option Addr) (n c : Nat) (zs : List Int) (w : World) (h : RI w A n zs) (hn : n ≤ 1048576) :
    Calls Tryz.prog 30 #[.agg #[.int .i64 W, .slice A n c]] w (FreshL w W n zs) := by
  go_enter Tryz.func30, Tryz.ntmps30
  go_wp2_with fail
  refine (toIntS_any A n c zs _ ?h1 hn).mono ?_
  case h1 => exact ((h.alloc _).alloc _).alloc _
  rintro e w1 ⟨A1, c1, rfl, ho, hb⟩
  obtain ⟨hc, hf⟩ := bcell hb
  have hz : w.heap.size + 1 + 1 < w1.heap.size := by have := hb.size; simp at this; omega
  have HB : Hid (Below w.heap.size w w1) := Below.trans (by repeat (first | exact Below.refl _ _ | exact HB.out | refine Below.setCell ?_ (by simp <;> omega) _ | refine Below.alloc ?_ (by simp <;> omega) _ | refine below_drewN ?_ _)) (hb.mono (by simp <;> omega))
  have H1 := Lib.hid ho
  clear ho hb h
  go_wp2
  exact bodyPost_ret (v := .agg #[.int .i64 W, .slice A1 n c1]) (by simp [results, Tryz.results30, go_sem, hc]) rfl
    ⟨A1, c1, rfl, (((H1.out.setBelow (by simp <;> omega) _).setBelow (by simp <;> omega) _).setBelow (by simp <;> omega) _).mono (by simp <;> omega), (by repeat (first | exact Below.refl _ _ | exact HB.out | refine Below.setCell ?_ (by simp <;> omega) _ | refine Below.alloc ?_ (by simp <;> omega) _ | refine below_drewN ?_ _))⟩

set_option maxHeartbeats 400000 in
theorem eqLadder_any (W : Int) (A : Option Addr) (n c : Nat) (zs : List Int) (V : Int) (B : Option Addr) (m d : Nat) (ys : List Int) (w : World) (h : RI w A n zs) (g : RI w B m ys) (hn : n ≤ 1048576) (hm : m ≤ 1048576) :
    Calls Tryz.prog 32 #[.agg #[.int .i64 W, .slice A n c], .agg #[.int .i64 V, .slice B m d]] w (RetB (decide (W = V) && eqB zs ys) w) := by
  by_cases hWV : W = V
  · subst hWV
    go_enter Tryz.func32, Tryz.ntmps32
    go_wp2_with fail
    refine (eqIntS_any A n c zs B m d ys _ ?h1 ?h2 hn hm).mono ?_
    case h1 => exact (h.alloc _).alloc _
    case h2 => exact (g.alloc _).alloc _
    obtain ⟨q, hq⟩ : ∃ q, q = eqB zs ys := ⟨_, rfl⟩
    rw [← hq]
    have HQ := Lib.hid hq
    clear hq
    rintro e w1 ⟨rfl, hb⟩
    have HB : Hid (Below w.heap.size w w1) := Below.trans (by repeat (first | exact Below.refl _ _ | exact HB.out | refine Below.setCell ?_ (by simp <;> omega) _ | refine Below.alloc ?_ (by simp <;> omega) _ | refine below_drewN ?_ _)) (hb.mono (by simp <;> omega))
    clear hb h g
    cases q
    all_goals
      go_wp2
      go_ret
      exact ⟨ret_b (by rw [← HQ.out]; simp), (by repeat (first | exact Below.refl _ _ | exact HB.out | refine Below.setCell ?_ (by simp <;> omega) _ | refine Below.alloc ?_ (by simp <;> omega) _ | refine below_drewN ?_ _))⟩
  · have hne : (W != V) = true := by rw [bne_iff_ne]; exact hWV
    have Hd : Hid (decide (W = V) = false) := by show decide (W = V) = false; simpa using hWV
    clear hWV
    go_enter Tryz.func32, Tryz.ntmps32
    go_wp2_with fail
    go_ret
    exact ⟨ret_b (by rw [Hd.out]; rfl), by repeat (first | exact Below.refl _ _ | refine Below.alloc ?_ (by simp <;> omega) _)⟩

set_option maxHeartbeats 400000 in
theorem markLadder_any (Bs : Nat) (W : Int) (A : Option Addr) (n c : Nat) (zs : List Int) (k : Int) (w : World) (h : OI w Bs A n c zs) (hn : n ≤ 1048576) (hk : 0 ≤ k) (hk2 : k ≤ 1000000000000) :
    Calls Tryz.prog 35 #[.agg #[.int .i64 W, .slice A n c], .int .i64 k] w (Marked w Bs A n c k) := by
  go_enter Tryz.func35, Tryz.ntmps35
  go_wp2_with fail
  refine (markIntS_any Bs A n c zs k _ (h.alloc _) hn hk hk2).mono ?_
  rintro e w1 ⟨rfl, ho, hg⟩
  have HG : Hid (w.grownBy w1 (blk A)) := ⟨hg.os, hg.tape, hg.output, Nat.le_trans (by simp) hg.size, fun i hi hne => (hg.block i (by simp; omega) hne).trans (Below.heap_alloc _ _ _ hi)⟩
  have H1 := Lib.hid ho
  clear hg ho h
  go_wp2
  go_ret
  exact ⟨rfl, H1.out, HG.out⟩

set_option maxHeartbeats 400000 in
theorem heldLadder_any (W : Int) (A : Option Addr) (n c : Nat) (k : Int) (w : World) (h : RI w A n (marks k n)) (hn : n ≤ 1048576) (hk : 0 ≤ k) (hk2 : k ≤ 1000000000000) :
    Calls Tryz.prog 36 #[.agg #[.int .i64 W, .slice A n c], .int .i64 k] w (RetI (k + n) w) := by
  go_enter Tryz.func36, Tryz.ntmps36
  go_wp2_with fail
  refine (heldIntS_any A n c k _ (h.alloc _) hn hk hk2).mono ?_
  rintro e w1 ⟨rfl, hb⟩
  have HB : Hid (Below w.heap.size w w1) := Below.trans (by repeat (first | exact Below.refl _ _ | exact HB.out | refine Below.setCell ?_ (by simp <;> omega) _ | refine Below.alloc ?_ (by simp <;> omega) _ | refine below_drewN ?_ _)) (hb.mono (by simp <;> omega))
  clear hb h
  go_wp2
  go_ret
  exact ⟨rfl, HB.out⟩
end Go.Proofs.YtgeeifjbfceogaaGreatDoor
