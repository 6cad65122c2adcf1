/- The wires of a ladder whose rungs compare: channels with room for one number each. -/
import Derived.Test.YtbfilmdociemmaaCh1
import Derived.Test.YtbfilmdociemmaaSo1
import Derived.Test.YtbfilmdociemmaaMgA
namespace Go.Proofs.Ytbfilmdociemmaa
open Go Go.RowKit Go.Conc

/-- what lies in a channel -/
def bufOf : Option Int → Array Value
  | none => #[]
  | some v => #[.int .i64 v]
/-- a row of n channels of the call's own; F tells what each carries -/
structure OCh (w : World) (B g n : Nat) (C : Nat → Nat) (F : Nat → Option Int) : Prop where
  cell : ∀ j, j < n → w.cell? ⟨g, j, none⟩ = some (.chan (some (C j)))
  chan : ∀ j, j < n → ∃ s r, w.heap[C j]? = some (.chan 1 (bufOf (F j)) false s r false)
  inj : ∀ i j, i < n → j < n → C i = C j → i = j
  ne : ∀ j, j < n → C j ≠ g
  lo : B ≤ g ∧ ∀ j, j < n → B ≤ C j
  lt : g < w.heap.size

theorem OCh.chLt {w : World} {B g n : Nat} {C : Nat → Nat} {F : Nat → Option Int} (h : OCh w B g n C F) {j : Nat} (hj : j < n) : C j < w.heap.size := by
  obtain ⟨s, r, e⟩ := h.chan j hj
  exact (Array.getElem?_eq_some_iff.1 e).1
theorem OCh.below {w w' : World} {B g n : Nat} {C : Nat → Nat} {F : Nat → Option Int} (h : OCh w B g n C F) (hb : Below w.heap.size w w') : OCh w' B g n C F :=
  ⟨fun j hj => (hb.cell (p := ⟨g, j, none⟩) h.lt).trans (h.cell j hj), fun j hj => by
    obtain ⟨s, r, e⟩ := h.chan j hj
    exact ⟨s, r, (hb.block _ (h.chLt hj)).trans e⟩, h.inj, h.ne, h.lo, Nat.lt_of_lt_of_le h.lt hb.size⟩
theorem setChan_far (w : World) (c c' cap : Nat) (buf : Array Value) (closed : Bool) (s r : Nat) (tm : Bool) (h : c ≠ c') : (w.setChan c cap buf closed s r tm).heap[c']? = w.heap[c']? := by
  simp [World.setChan, Array.getElem?_setIfInBounds_ne h]
theorem cell_of_heap {w w' : World} {g j : Nat} (h : w'.heap[g]? = w.heap[g]?) : w'.cell? ⟨g, j, none⟩ = w.cell? ⟨g, j, none⟩ := World.cell?_of_block (w := w) h
theorem OCh.drew {w : World} {B g n : Nat} {C : Nat → Nat} {F : Nat → Option Int} (h : OCh w B g n C F) : OCh w.drew B g n C F := ⟨h.cell, h.chan, h.inj, h.ne, h.lo, h.lt⟩
/-- one channel laid anew -/
theorem OCh.set {w : World} {B g n : Nat} {C : Nat → Nat} {F : Nat → Option Int} (h : OCh w B g n C F) {k : Nat} (hk : k < n) (v : Option Int) (s r : Nat) :
    OCh (w.setChan (C k) 1 (bufOf v) false s r false) B g n C (fun j => if j = k then v else F j) := by
  refine ⟨fun j hj => (cell_of_heap (setChan_far _ _ _ _ _ _ _ _ _ (h.ne k hk))).trans (h.cell j hj), fun j hj => ?_, h.inj, h.ne, h.lo, by rw [size_setChan]; exact h.lt⟩
  by_cases e : j = k
  · subst e
    exact ⟨s, r, by rw [heap_setChan _ _ _ _ _ _ _ _ (h.chLt hk)]; simp⟩
  · obtain ⟨s', r', e'⟩ := h.chan j hj
    exact ⟨s', r', by rw [setChan_far _ _ _ _ _ _ _ _ _ (fun x => e (h.inj _ _ hk hj x).symm), e']; simp [e]⟩
theorem OCh.congr {w : World} {B g n : Nat} {C : Nat → Nat} {F F' : Nat → Option Int} (h : OCh w B g n C F) (e : ∀ j, j < n → F j = F' j) : OCh w B g n C F' :=
  ⟨h.cell, fun j hj => by rw [← e j hj]; exact h.chan j hj, h.inj, h.ne, h.lo, h.lt⟩

/-- what a call does to the channels: no block below B, or of those made since, turns but the channels -/
def ChanStep (w w' : World) (n : Nat) (C : Nat → Nat) : Prop :=
  w'.os = w.os ∧ w'.tape = w.tape ∧ w'.output = w.output ∧ w.heap.size ≤ w'.heap.size ∧ ∀ i, i < w.heap.size → (∀ j, j < n → i ≠ C j) → w'.heap[i]? = w.heap[i]?

set_option maxRecDepth 100000 in
theorem bytesInt : ∃ i, Try.prog.info? 3 = some i ∧ i.bytes = 8 := by
  have h : (Try.prog.info? 3).map (·.bytes) = some 8 := by kernel_rfl
  obtain ⟨i, hi, hb⟩ := Option.map_eq_some_iff.1 h
  exact ⟨i, hi, hb⟩
theorem mkChan (w : World) : (Instr.makeChan 77 (.int .i64 1)).run Try.prog w = .ok (.chan (some w.heap.size)) (w.alloc (.chan 1 #[] false 0 0 false)) := by
  obtain ⟨i, hi, hb⟩ := bytesInt
  simpa using run_makeChan (P := Try.prog) (w := w) Try.underlying77 hi .i64 1 (by omega) (by rw [hb]; omega)
end Go.Proofs.Ytbfilmdociemmaa
